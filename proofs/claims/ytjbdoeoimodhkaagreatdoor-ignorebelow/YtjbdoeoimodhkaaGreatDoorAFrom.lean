/- The program's states: from: the ways out of a state, one by one. -/
import Derived.Test.YtjbdoeoimodhkaaGreatDoorALink
import Derived.RangeFuncBox
import Derived.RangeFuncLeaves
import Derived.Shelf.Abstract
import Derived.OwnWalkIn
import Derived.TacticsInMore
import Derived.LoopNIn
import Derived.LoopIn
import Derived.Shelf.RegionOpen
import Derived.RangeFuncNested
namespace Go.Proofs.YtjbdoeoimodhkaaGreatDoor
open Go.RowKit Go.Shelf
attribute [local go_sem] Oper.semAt_some

/-- The ways that hang together from the i-th on. -/
inductive ChainIs (ways : List WayD) : Int → List WayD → Prop
  | done : ChainIs ways (-1) []
  | step (i : Nat) (x : WayD) (l : List WayD) (hx : ways[i]? = some x) (hlt : x.then_ < (i : Int)) (hlo : -1 ≤ x.then_) (h : ChainIs ways x.then_ l) : ChainIs ways (i : Int) (x :: l)
/-- What from reads. -/
structure FromAt (W : World) (Bs Bk b g cap : Nat) (wv : Value) (k : Nat) (outs : List Int) (ways : List WayD) : Prop where
  bs : W.cell? ⟨Bs, 0, none⟩ = some (.pointer (some ⟨b, 0, none⟩))
  bk : W.cell? ⟨Bk, 0, none⟩ = some (.int .i64 (k : Int))
  b0 : W.cell? ⟨b, 0, none⟩ = some (.slice (some ⟨g, 0, none⟩) outs.length cap)
  b1 : W.cell? ⟨b, 1, none⟩ = some wv
  out : ∀ (i : Nat) (o : Int), outs[i]? = some o → W.cell? ⟨g, i, none⟩ = some (.int .i64 o)
  way : ∀ (i : Nat) (x : WayD), ways[i]? = some x → ∃ gw cw, wv = .slice (some ⟨gw, 0, none⟩) ways.length cw ∧ W.cell? ⟨gw, i * 3, none⟩ = some (.int .i64 x.to) ∧ W.cell? ⟨gw, i * 3 + 1, none⟩ = some (.int .i64 x.by_) ∧ W.cell? ⟨gw, i * 3 + 2, none⟩ = some (.int .i64 x.then_)
theorem FromAt.drew {W : World} {Bs Bk b g cap : Nat} {wv : Value} {k : Nat} {outs : List Int} {ways : List WayD} (h : FromAt W Bs Bk b g cap wv k outs ways) : FromAt W.drew Bs Bk b g cap wv k outs ways := ⟨h.bs, h.bk, h.b0, h.b1, h.out, h.way⟩
/-- What its rounds read. -/
structure WayAt (W : World) (Bs b : Nat) (wv : Value) (ways : List WayD) : Prop where
  bs : W.cell? ⟨Bs, 0, none⟩ = some (.pointer (some ⟨b, 0, none⟩))
  b1 : W.cell? ⟨b, 1, none⟩ = some wv
  way : ∀ (i : Nat) (x : WayD), ways[i]? = some x → ∃ gw cw, wv = .slice (some ⟨gw, 0, none⟩) ways.length cw ∧ W.cell? ⟨gw, i * 3, none⟩ = some (.int .i64 x.to) ∧ W.cell? ⟨gw, i * 3 + 1, none⟩ = some (.int .i64 x.by_) ∧ W.cell? ⟨gw, i * 3 + 2, none⟩ = some (.int .i64 x.then_)
theorem FromAt.ways {W : World} {Bs Bk b g cap : Nat} {wv : Value} {k : Nat} {outs : List Int} {ways : List WayD} (h : FromAt W Bs Bk b g cap wv k outs ways) : WayAt W Bs b wv ways := ⟨h.bs, h.b1, h.way⟩
def encW (x : WayD) : Array Value := #[.agg #[.int .i64 x.to, .int .i64 x.by_, .int .i64 x.then_]]
set_option maxRecDepth 100000 in
set_option maxHeartbeats 2000000 in
theorem from1_in (F : Fence) (n : Nat) (h61 : F.fn 131) (hro : F.round = none) (hn : 1 ≤ n) (l Bs Bk b g cap : Nat) (wv : Value) (k : Nat) (outs : List Int) (ways chain : List WayD) (o : Int) (ho : outs[k]? = some o) (hch : ChainIs ways o chain) (V : WayD → Prop) (hV : ∀ x ∈ chain, V x)
    (Kp : World → World → Prop) (hKp : ∀ A B, Kp A B → WayAt A Bs b wv ways → WayAt B Bs b wv ways) (J Jx : List WayD → World → Prop)
    (hY : ∀ pre x W, J pre W → V x → pre.length < chain.length → YieldAt F (n - 1) Tryz.prog l (encW x) W fun e W' => (e = .returned (.bool true) ∧ J (pre ++ [x]) W' ∧ Kp W W') ∨ (e = .returned (.bool false) ∧ Jx (pre ++ [x]) W'))
    (hJd : ∀ s A, J s A → J s A.drew) (W : World) (hat : FromAt W Bs Bk b g cap wv k outs ways) (h0 : J [] W) :
    CallsIn F n Tryz.prog 131 #[.func (.yield l) #[] #[], .pointer (some ⟨Bs, 0, none⟩), .pointer (some ⟨Bk, 0, none⟩)] W fun e W' => (∃ v, e = .returned v) ∧ (J chain W' ∨ ∃ pre, pre <+: chain ∧ Jx pre W') := by
  have hkl := (List.getElem?_eq_some_iff.1 ho).1
  have hkI : (k : Int) < (outs.length : Int) := by omega
  have c1 := hat.bs
  have c2 := hat.bk
  have c3 := hat.b0
  have c4 := hat.out k o ho
  refine callsIn_of_wp Tryz.func131 rfl h61 ?_ hro
  simp only [Tryz.ntmps131, List.size_toArray, List.length_cons, List.length_nil, Nat.reduceAdd, Nat.reduceSub, Array.replicate_succ, Array.replicate_zero, List.push_toArray, List.append_toArray, List.nil_append, List.cons_append]
  gi_wp2
  refine (fun (KEY : (?G : Prop)) => ?main) ?key
  case main =>
    gi_region
    all_goals exact KEY
  case key =>
    have hat1 := hat.drew.ways
    have h01 := hJd _ _ h0
    clear c1 c2 c3 c4 hat h0
    obtain ⟨W1, hW1⟩ : ∃ W1, W.drew = W1 := ⟨_, rfl⟩
    rw [hW1] at hat1 h01 ⊢
    clear hW1
    gi_wp2
    gi_loopw [4] (fun iv wr => ∃ (pre rest : List WayD) (i : Int), chain = pre ++ rest ∧ iv = .int .i64 i ∧ ChainIs ways i rest ∧ J pre wr ∧ WayAt wr Bs b wv ways) (fun iv _ => (intOf iv + 1).toNat)
    case atStart => exact ⟨[], chain, o, rfl, rfl, hch, h01, hat1⟩
    case round =>
      obtain ⟨pre, rest, i, hpr, rfl, hci, hJs, hfa⟩ := hrel
      cases hci with
      | done =>
        have HX : Hid (J chain wr) := by
          unfold Hid
          rw [hpr, List.append_nil]
          exact hJs
        gi_wp2
        go_end0
        exact ⟨⟨_, rfl⟩, .inl HX.out⟩
      | step i x rest hx hlt hlo hrest =>
        have hxm : x ∈ chain := by rw [hpr]; simp
        obtain ⟨fn, tmps, assign, body, hy, hR⟩ := hY _ x wr hJs (hV x hxm) (by rw [hpr]; simp)
        have d1 := hfa.bs
        have d2 := hfa.b1
        obtain ⟨gw, cw, rfl, d3, d4, d5⟩ := hfa.way i x hx
        have hil := (List.getElem?_eq_some_iff.1 hx).1
        have hiI : (i : Int) < (ways.length : Int) := by omega
        have hin : ((i : Int) != -1) = true := by rw [bne_iff_ne]; omega
        have HFA := hide hfa
        dsimp only [encW] at hy
        have HXI := hide hx
        clear hfa hx
        gi_wp2
        refine hR.mono ?_
        rintro e W3 (⟨rfl, hJ3, hk3⟩ | ⟨rfl, hJx3⟩)
        · have hfa3 := hKp _ _ hk3 HFA.out
          have f1 := hfa3.bs
          have f2 := hfa3.b1
          obtain ⟨gw', cw', e, f3, f4, f5⟩ := hfa3.way i x HXI.out
          cases e
          have HFA3 := hide hfa3
          clear hfa3
          gi_wp2
          go_roundw
          case rel => exact ⟨pre ++ [x], rest, x.then_, by rw [hpr]; simp, rfl, hrest, hJ3, HFA3.out⟩
          case measure => simp [intOf]; omega
        · have hpx : pre ++ [x] <+: chain := by rw [hpr]; exact ⟨rest, by simp⟩
          gi_wp2
          refine bodyPost_ret (results_none rfl _ _ _) rfl ?_
          exact ⟨⟨_, rfl⟩, .inr ⟨_, hpx, hJx3⟩⟩
theorem lift_sub {V : WayD → Prop} : ∀ (l : List WayD), (∀ x ∈ l, V x) → ∃ ps : List { x : WayD // V x }, ps.map (·.1) = l := by
  intro l
  induction l with
  | nil => intro _; exact ⟨[], rfl⟩
  | cons x r ih =>
    intro h
    obtain ⟨ps, e⟩ := ih (fun y hy => h y (by simp [hy]))
    exact ⟨⟨x, h x (by simp)⟩ :: ps, by simp [e]⟩
/-- The iterator's contract. -/
theorem from_stops (F : Fence) (n : Nat) (h61 : F.fn 131) (hro : F.round = none) (hn : 1 ≤ n) (Bs Bk b g cap : Nat) (wv : Value) (k : Nat) (outs : List Int) (ways chain : List WayD) (o : Int) (ho : outs[k]? = some o) (hch : ChainIs ways o chain) (V : WayD → Prop) (hV : ∀ x ∈ chain, V x)
    (Kp : World → World → Prop) (hKp : ∀ A B, Kp A B → WayAt A Bs b wv ways → WayAt B Bs b wv ways) (w : World) (hat : ∀ W, Below w.heap.size w W → FromAt W Bs Bk b g cap wv k outs ways) :
    SeqStopsK F n Tryz.prog 131 #[.pointer (some ⟨Bs, 0, none⟩), .pointer (some ⟨Bk, 0, none⟩)] (fun (x : { x : WayD // V x }) => encW x.1) Kp (fun xs => xs.map (·.1) = chain) (fun pre => pre.map (·.1) <+: chain) chain.length w := by
  intro l J Jx W hW hJ hJx hY h0
  have hd : ∀ (A : World), A.grownBy A.drew none := fun A => ⟨rfl, rfl, rfl, Nat.le_refl _, fun _ _ _ => rfl⟩
  refine (from1_in F n h61 hro hn l Bs Bk b g cap wv k outs ways chain o ho hch V hV Kp hKp (fun pre W => ∃ ps : List { x : WayD // V x }, ps.map (·.1) = pre ∧ J ps W) (fun pre W => ∃ ps : List { x : WayD // V x }, ps.map (·.1) = pre ∧ Jx ps W) ?_ ?_ W (hat W hW) ⟨[], rfl, h0⟩).mono ?_
  · rintro pre x W1 ⟨ps, rfl, hj⟩ hx hlen
    obtain ⟨fn, tmps, assign, body, hy, hR⟩ := hY ps ⟨x, hx⟩ W1 hj (by simpa using hlen)
    refine ⟨fn, tmps, assign, body, hy, hR.mono ?_⟩
    rintro e W' (⟨rfl, h1, h2⟩ | ⟨rfl, h1⟩)
    · exact .inl ⟨rfl, ⟨ps ++ [⟨x, hx⟩], by simp, h1⟩, h2⟩
    · exact .inr ⟨rfl, ps ++ [⟨x, hx⟩], by simp, h1⟩
  · rintro s A ⟨ps, e, hj⟩
    exact ⟨ps, e, hJ ps A A.drew none hj (hd A) (fun r e => by cases e)⟩
  · rintro e W' ⟨hv, ⟨ps, e1, h1⟩ | ⟨pre, hp, ps, e1, h1⟩⟩
    · exact ⟨hv, .inl ⟨ps, e1, h1⟩⟩
    · exact ⟨hv, .inr ⟨ps, by show ps.map (·.1) <+: chain; rw [e1]; exact hp, h1⟩⟩
end Go.Proofs.YtjbdoeoimodhkaaGreatDoor
