/- Merged: Err, Errno, JoinE. -/
import Derived.Test.YtconbmfbokpklaaGreatDoorLoad
import Derived.LaidEql
import Derived.Stop.Asserts
import Derived.RowKitTokens
/- errors as values: the package's own, joined ones; errors.Is, errors.Join: Go's own texts, walked. -/
namespace Go.Proofs.YtconbmfbokpklaaGreatDoor
open Go.RowKit Go.Extern.Stop Go.Stop Go.Extern

theorem Tryz.isTypeOf (v : Value) (w : World) : (Extern.ReflectliteType.typeOf #[.iface 207 v]).run Tryz.prog w = .ok (.iface 149 (.agg #[.pointer (some ⟨12, 207, none⟩)])) w := by kernel_rfl
def cmpE : Array Value → Sem Value := Extern.ReflectliteType.method fun t => do Extern.Rtype.noPackHeld "Comparable" t; pure (.bool (← typeInfo t).comparable)
theorem Tryz.isComparable (w : World) : (cmpE #[.agg #[.pointer (some ⟨12, 207, none⟩)]]).run Tryz.prog w = .ok (.bool true) w := by kernel_rfl
theorem Tryz.isMethodComparable (v : Value) (w : World) : (Go.method 340 149 v "Comparable").run Tryz.prog w = .ok (173, v) w := by kernel_rfl
theorem Tryz.isComp : (Tryz.prog.info? 207).map (·.comparable) = some true := by kernel_rfl
theorem Tryz.isSize : (Tryz.prog.info? 230).map (·.size) = some 1 := by kernel_rfl
theorem Tryz.noIsE (v : Value) (xT : TypeId) (w : World) : (Instr.typeAssert (.iface 207 v) xT 151 true).run Tryz.prog w = .ok (.tuple #[.nilIface, .bool false]) w := run_typeAssert_lacksB Tryz.underlying151 (by kernel_rfl) (by kernel_rfl) v xT w
theorem Tryz.noUnwrapE (v : Value) (xT : TypeId) (w : World) : (Instr.typeAssert (.iface 207 v) xT 154 true).run Tryz.prog w = .ok (.tuple #[.nilIface, .bool false]) w := run_typeAssert_lacksB Tryz.underlying154 (by kernel_rfl) (by kernel_rfl) v xT w
theorem Tryz.noUnwrapsE (v : Value) (xT : TypeId) (w : World) : (Instr.typeAssert (.iface 207 v) xT 155 true).run Tryz.prog w = .ok (.tuple #[.nilIface, .bool false]) w := run_typeAssert_lacksB Tryz.underlying155 (by kernel_rfl) (by kernel_rfl) v xT w
theorem Tryz.noIsJ (v : Value) (xT : TypeId) (w : World) : (Instr.typeAssert (.iface 112 v) xT 151 true).run Tryz.prog w = .ok (.tuple #[.nilIface, .bool false]) w := run_typeAssert_lacksB Tryz.underlying151 (by kernel_rfl) (by kernel_rfl) v xT w
theorem Tryz.noUnwrapJ (v : Value) (xT : TypeId) (w : World) : (Instr.typeAssert (.iface 112 v) xT 154 true).run Tryz.prog w = .ok (.tuple #[.nilIface, .bool false]) w := run_typeAssert_lacksB Tryz.underlying154 (by kernel_rfl) (by kernel_rfl) v xT w
theorem Tryz.hasUnwrapsJ (v : Value) (xT : TypeId) (w : World) : (Instr.typeAssert (.iface 112 v) xT 155 true).run Tryz.prog w = .ok (.tuple #[.iface 112 v, .bool true]) w := run_typeAssert_hasB Tryz.underlying155 (by kernel_rfl) v xT w
theorem Tryz.isMethodUnwrap (v : Value) (w : World) : (Go.method 340 112 v "Unwrap").run Tryz.prog w = .ok (169, v) w := by kernel_rfl

set_option maxRecDepth 100000 in
set_option maxHeartbeats 1000000 in
theorem unwrap_any (b : Nat) (v : Value) (w : World) (hb : w.heap[b]? = some (.cells #[v] 114 (0, 0))) :
    Calls Tryz.prog 169 #[.pointer (some ⟨b, 0, none⟩)] w fun e w' => e = .returned v ∧ w' = w := by
  have hc : w.cell? ⟨b, 0, none⟩ = some v := by simp [World.cell?, hb]
  go_enter Tryz.func169, Tryz.ntmps169
  go_wp2
  go_ret
  exact ⟨rfl, rfl⟩

/-- An error of errors.New's make, or joined ones; which of the first kind are in it. -/
inductive ErrV (W : World) : Value → List Addr → Prop
  | leaf (a : Addr) (c : Array Value) (t : TypeId) (h : W.heap[a.block]? = some (.cells c t (0, 0))) : ErrV W (.iface 207 (.pointer (some a))) [a]
  | join (b g cap : Nat) (es : List (Value × List Addr)) (cur : Array Value) (hb : W.heap[b]? = some (.cells #[.slice (some ⟨g, 0, none⟩) es.length cap] 114 (0, 0))) (hg : W.heap[g]? = some (.cells cur 48 (0, 0))) (hc : ∀ (j : Nat) (p : Value × List Addr), es[j]? = some p → cur[j]? = some p.1) (hl : es.length ≤ 4) (hcap : es.length ≤ cap)
      (h : ∀ (j : Nat) (p : Value × List Addr), es[j]? = some p → ErrV W p.1 p.2) : ErrV W (.iface 112 (.pointer (some ⟨b, 0, none⟩))) (es.flatMap (·.2))

set_option maxRecDepth 100000 in
set_option maxHeartbeats 1000000 in
theorem isL_same (a : Addr) (w : World) :
    Calls Tryz.prog 73 #[.iface 207 (.pointer (some a)), .iface 207 (.pointer (some a)), .bool true] w fun e w' => e = .returned (.bool true) ∧ w' = w := by
  obtain ⟨i, hi, hcmp⟩ := Option.map_eq_some_iff.1 Tryz.isComp
  obtain ⟨j, hj, hjs⟩ := Option.map_eq_some_iff.1 Tryz.isSize
  have heq := run_eql_iface_ptr_same (P := Tryz.prog) w a Tryz.underlying48 Tryz.underlying207 hi hcmp hj
  go_enter Tryz.func73, Tryz.ntmps73
  go_wp2
  refine wp_loop_rounds 1 ?_
  rw [rounds_succ]
  go_wp2
  go_ret
  exact ⟨rfl, rfl⟩

set_option maxRecDepth 100000 in
set_option maxHeartbeats 1000000 in
theorem isL_other (a b : Addr) (ca cb : Array Value) (ta tb : TypeId) (w : World) (hne : a ≠ b) (ha : w.heap[a.block]? = some (.cells ca ta (0, 0))) (hb : w.heap[b.block]? = some (.cells cb tb (0, 0))) :
    Calls Tryz.prog 73 #[.iface 207 (.pointer (some a)), .iface 207 (.pointer (some b)), .bool true] w fun e w' => e = .returned (.bool false) ∧ w' = w := by
  obtain ⟨i, hi, hcmp⟩ := Option.map_eq_some_iff.1 Tryz.isComp
  obtain ⟨j, hj, hjs⟩ := Option.map_eq_some_iff.1 Tryz.isSize
  have nE := Tryz.noIsE
  have uE := Tryz.noUnwrapE
  have vE := Tryz.noUnwrapsE
  have heq := run_eql_iface_ptr_other (P := Tryz.prog) w Tryz.underlying48 Tryz.underlying207 hi hcmp hj (by rw [hjs]; decide) hne ha hb
  go_enter Tryz.func73, Tryz.ntmps73
  go_wp2
  refine wp_loop_rounds 1 ?_
  rw [rounds_succ]
  go_wp2
  go_ret
  exact ⟨rfl, rfl⟩

def IsPost (S : List Addr) (t : Addr) (w : World) (e : Ending) (w' : World) : Prop := (∃ x, e = .returned (.bool x) ∧ (x = true ↔ t ∈ S)) ∧ w' = w
theorem ret_x {S : List Addr} {t : Addr} {x : Bool} {w : World} (h : x = true ↔ t ∈ S) : IsPost S t w (.returned (.bool x)) w := ⟨⟨x, rfl, h⟩, rfl⟩
set_option maxRecDepth 100000 in
set_option maxHeartbeats 1000000 in
theorem isJ (b g cap : Nat) (es : List (Value × List Addr)) (t : Addr) (w : World) (hb : w.heap[b]? = some (.cells #[.slice (some ⟨g, 0, none⟩) es.length cap] 114 (0, 0))) (hc : ∀ (j : Nat) (p : Value × List Addr), es[j]? = some p → w.cell? ⟨g, j, none⟩ = some p.1) (hl : es.length ≤ 4)
    (hrec : ∀ (j : Nat) (p : Value × List Addr), es[j]? = some p → Calls Tryz.prog 73 #[p.1, .iface 207 (.pointer (some t)), .bool true] w (IsPost p.2 t w)) :
    Calls Tryz.prog 73 #[.iface 112 (.pointer (some ⟨b, 0, none⟩)), .iface 207 (.pointer (some t)), .bool true] w (IsPost (es.flatMap (·.2)) t w) := by
  have nE := Tryz.noIsJ
  have uE := Tryz.noUnwrapJ
  have vE := Tryz.hasUnwrapsJ
  have mU := Tryz.isMethodUnwrap
  have heq := fun v => run_eql_iface_types (P := Tryz.prog) 112 207 (.pointer (some ⟨b, 0, none⟩)) v Tryz.underlying48 (by decide) w
  have HU := hide (unwrap_any b _ w hb)
  have HC := hide hc
  have HR := hide hrec
  clear hb hc hrec
  go_enter Tryz.func73, Tryz.ntmps73
  go_wp2
  refine wp_loop_rounds 1 ?_
  rw [rounds_succ]
  go_wp2_with (go_at_call 169; refine (unhide HU).mono ?_; rintro e w' ⟨rfl, rfl⟩)
  go_loop [45] (fun iv => ∃ k : Nat, k ≤ es.length ∧ iv = .int .i64 k ∧ ∀ (j : Nat) (p : Value × List Addr), j < k → es[j]? = some p → t ∉ p.2) (fun iv => es.length - (intOf iv).toNat)
  case atStart => exact ⟨0, Nat.zero_le _, rfl, fun j p h => by omega⟩
  case round =>
    obtain ⟨k, hk, rfl, hno⟩ := hrel
    have HNO := hide hno
    clear hno
    by_cases hlt : k < es.length
    · obtain ⟨p, hp⟩ : ∃ p, es[k]? = some p := ⟨_, List.getElem?_eq_getElem hlt⟩
      have hck := (unhide HC) k p hp
      have HK := hide ((unhide HR) k p hp)
      have HP := hide hp
      clear hp
      go_wp2_with fail
      refine (unhide HK).mono ?_
      rintro e w2 ⟨⟨x, rfl, hx⟩, rfl⟩
      have HX := hide hx
      clear hx
      cases x
      · go_wp2
        go_round
        case rel =>
          refine ⟨k + 1, by omega, by go_num, fun j q hj hq => ?_⟩
          by_cases e : j = k
          · subst e
            rw [HP.out] at hq; cases hq
            intro h
            have := HX.out.2 h
            cases this
          · exact HNO.out j q (by omega) hq
        case measure => simp [intOf]; omega
      · go_wp2
        go_ret
        exact ret_x ⟨fun _ => List.mem_flatMap.2 ⟨p, List.mem_of_getElem? HP.out, HX.out.1 (by trivial)⟩, fun _ => rfl⟩
    · obtain rfl : k = es.length := by omega
      go_wp2
      go_ret
      refine ret_x (x := false) ⟨fun h => (by cases h), fun h => ?_⟩
      exfalso
      obtain ⟨p, hp, ht⟩ := List.mem_flatMap.1 h
      obtain ⟨j, hj⟩ := List.getElem?_of_mem hp
      exact HNO.out j p (List.getElem?_eq_some_iff.1 hj).1 hj ht
theorem isT {w : World} {v : Value} {S : List Addr} (h : ErrV w v S) (t : Addr) (ct : Array Value) (tt : TypeId) (ht : w.heap[t.block]? = some (.cells ct tt (0, 0))) :
    Calls Tryz.prog 73 #[v, .iface 207 (.pointer (some t)), .bool true] w (IsPost S t w) := by
  induction h with
  | leaf a c ta ha =>
    by_cases e : a = t
    · subst e
      refine (isL_same a w).mono ?_
      rintro e w' ⟨rfl, rfl⟩
      exact ret_x ⟨fun _ => by simp, fun _ => rfl⟩
    · refine (isL_other a t c ct ta tt w e ha ht).mono ?_
      rintro e2 w' ⟨rfl, rfl⟩
      refine ret_x (x := false) ⟨fun h => (by cases h), fun h => ?_⟩
      simp at h
      exact absurd h.symm e
  | join b g cap es cur hb hg hc hl hcap _ ih => exact isJ b g cap es t w hb (fun j p hp => by simp only [World.cell?, hg]; simpa using hc j p hp) hl ih

set_option maxRecDepth 100000 in
set_option maxHeartbeats 1000000 in
theorem is_any {w : World} {tv : TypeId} {pv : Value} {S : List Addr} (h : ErrV w (.iface tv pv) S) (t : Addr) (ct : Array Value) (tt : TypeId) (ht : w.heap[t.block]? = some (.cells ct tt (0, 0))) :
    Calls Tryz.prog 45 #[.iface tv pv, .iface 207 (.pointer (some t))] w (IsPost S t w) := by
  have h8 := @run_callFunc_extern Tryz.prog 72 _ Extern.ReflectliteType.typeOf Tryz.func72 (by kernel_rfl) (by kernel_rfl) (by kernel_rfl) (by kernel_rfl)
  have h32 := @run_callFunc_extern Tryz.prog 173 _ cmpE Tryz.func173 (by kernel_rfl) (by kernel_rfl) (by kernel_rfl) (by kernel_rfl)
  have tT := Tryz.isTypeOf
  have cT := Tryz.isComparable
  have mR := Tryz.isMethodComparable
  have HI := hide (isT h t ct tt ht)
  clear h ht
  go_enter Tryz.func45, Tryz.ntmps45
  go_wp2_with fail
  refine (unhide HI).mono ?_
  rintro e w2 ⟨⟨x, rfl, hx⟩, rfl⟩
  have HX := hide hx
  clear hx
  go_wp2
  go_ret
  exact ret_x HX.out
end Go.Proofs.YtconbmfbokpklaaGreatDoor
/- The package's six errors; errno; errors.Join. -/
namespace Go.Proofs.YtconbmfbokpklaaGreatDoor
open Go.RowKit

/-- A pointee of the package's errors: a row of its own below C. -/
def Pointee (C : Nat) (W : World) (a : Addr) : Prop := a.block < C ∧ ∃ c t, W.heap[a.block]? = some (.cells c t (0, 0))
theorem Pointee.below {C : Nat} {W W' : World} {a : Addr} (h : Pointee C W a) (hb : Below C W W') : Pointee C W' a := by
  obtain ⟨h1, c, t, h2⟩ := h
  exact ⟨h1, c, t, (hb.block a.block h1).trans h2⟩
structure Ads where
  t : Addr
  m : Addr
  n : Addr
  k : Addr
  w : Addr
/-- Five of the package's errors, each another one. -/
structure Sent (C : Nat) (A : Ads) (W : World) : Prop where
  c0 : W.cell? ⟨0, 0, none⟩ = some (.iface 207 (.pointer (some A.t)))
  c1 : W.cell? ⟨1, 0, none⟩ = some (.iface 207 (.pointer (some A.m)))
  c2 : W.cell? ⟨2, 0, none⟩ = some (.iface 207 (.pointer (some A.n)))
  c3 : W.cell? ⟨3, 0, none⟩ = some (.iface 207 (.pointer (some A.k)))
  c4 : W.cell? ⟨4, 0, none⟩ = some (.iface 207 (.pointer (some A.w)))
  pt : Pointee C W A.t
  pm : Pointee C W A.m
  pn : Pointee C W A.n
  pk : Pointee C W A.k
  pw : Pointee C W A.w
  tm : A.t ≠ A.m
  tn : A.t ≠ A.n
  tk : A.t ≠ A.k
  tw : A.t ≠ A.w
  mn : A.m ≠ A.n
  mkd : A.m ≠ A.k
  mw : A.m ≠ A.w
  nk : A.n ≠ A.k
  nw : A.n ≠ A.w
  kw : A.k ≠ A.w
  big : 4 < C
theorem Sent.below {C : Nat} {A : Ads} {W W' : World} (h : Sent C A W) (hb : Below C W W') : Sent C A W' :=
  { h with
    c0 := (hb.cell (p := ⟨0, 0, none⟩) (by have := h.big; show 0 < C; omega)).trans h.c0
    c1 := (hb.cell (p := ⟨1, 0, none⟩) (by have := h.big; show 1 < C; omega)).trans h.c1
    c2 := (hb.cell (p := ⟨2, 0, none⟩) (by have := h.big; show 2 < C; omega)).trans h.c2
    c3 := (hb.cell (p := ⟨3, 0, none⟩) (by have := h.big; show 3 < C; omega)).trans h.c3
    c4 := (hb.cell (p := ⟨4, 0, none⟩) (by have := h.big; show 4 < C; omega)).trans h.c4
    pt := h.pt.below hb
    pm := h.pm.below hb
    pn := h.pn.below hb
    pk := h.pk.below hb
    pw := h.pw.below hb }
theorem Sent.up {C D : Nat} {A : Ads} {W : World} (h : Sent C A W) (hd : C ≤ D) : Sent D A W :=
  have P : ∀ {a : Addr}, Pointee C W a → Pointee D W a := fun ⟨h1, h2⟩ => ⟨by omega, h2⟩
  { h with
    pt := P h.pt
    pm := P h.pm
    pn := P h.pn
    pk := P h.pk
    pw := P h.pw
    big := by have := h.big; omega }

open Classical in
/-- The number of an error that holds these. -/
noncomputable def errnoS (A : Ads) (S : List Addr) : Int := if A.t ∈ S then 2 else if A.m ∈ S then 4 else if A.n ∈ S then 6 else if A.k ∈ S then 7 else if A.w ∈ S then 8 else 9

def NumPost (n : Int) (w : World) (e : Ending) (w' : World) : Prop := e = .returned (.int .i64 n) ∧ w' = w
set_option maxRecDepth 100000 in
set_option maxHeartbeats 2000000 in
theorem errno_any {C : Nat} {A : Ads} {w : World} {tv : TypeId} {pv : Value} {S : List Addr} (hs : Sent C A w) (h : ErrV w (.iface tv pv) S) :
    Calls Tryz.prog 20 #[.iface tv pv] w (NumPost (errnoS A S) w) := by
  have c0 := hs.c0
  have c1 := hs.c1
  have c2 := hs.c2
  have c3 := hs.c3
  have c4 := hs.c4
  obtain ⟨_, ct, tt, pt⟩ := hs.pt
  obtain ⟨_, cm, tm, pm⟩ := hs.pm
  obtain ⟨_, cn, tn, pn⟩ := hs.pn
  obtain ⟨_, ck, tk, pk⟩ := hs.pk
  obtain ⟨_, cw, tw, pw⟩ := hs.pw
  have H0 := hide (is_any h A.t _ _ pt)
  have H1 := hide (is_any h A.m _ _ pm)
  have H2 := hide (is_any h A.n _ _ pn)
  have H3 := hide (is_any h A.k _ _ pk)
  have H4 := hide (is_any h A.w _ _ pw)
  clear h hs pt pm pn pk pw
  generalize hr : errnoS A S = r
  have HR := hide hr
  clear hr
  go_enter Tryz.func20, Tryz.ntmps20
  go_wp2_with fail
  refine (unhide H0).mono ?_
  rintro e w2 ⟨⟨x, rfl, hx⟩, rfl⟩
  have HX := hide hx
  clear hx
  cases x
  · go_wp2_with fail
    refine (unhide H1).mono ?_
    rintro e w2 ⟨⟨x, rfl, hx⟩, rfl⟩
    have HX1 := hide hx
    clear hx
    cases x
    · go_wp2_with fail
      refine (unhide H2).mono ?_
      rintro e w2 ⟨⟨x, rfl, hx⟩, rfl⟩
      have HX2 := hide hx
      clear hx
      cases x
      · go_wp2_with fail
        refine (unhide H3).mono ?_
        rintro e w2 ⟨⟨x, rfl, hx⟩, rfl⟩
        have HX3 := hide hx
        clear hx
        cases x
        · go_wp2_with fail
          refine (unhide H4).mono ?_
          rintro e w2 ⟨⟨x, rfl, hx⟩, rfl⟩
          have HX4 := hide hx
          clear hx
          cases x
          · have HQ : Hid (r = 9) := by
              unfold Hid; rw [← HR.out]; unfold errnoS
              rw [if_neg (fun h => by have := HX.out.2 h; cases this), if_neg (fun h => by have := HX1.out.2 h; cases this), if_neg (fun h => by have := HX2.out.2 h; cases this), if_neg (fun h => by have := HX3.out.2 h; cases this), if_neg (fun h => by have := HX4.out.2 h; cases this)]
            go_wp2
            go_ret
            exact ⟨by rw [HQ.out]; rfl, rfl⟩
          · have HQ : Hid (r = 8) := by
              unfold Hid; rw [← HR.out]; unfold errnoS
              rw [if_neg (fun h => by have := HX.out.2 h; cases this), if_neg (fun h => by have := HX1.out.2 h; cases this), if_neg (fun h => by have := HX2.out.2 h; cases this), if_neg (fun h => by have := HX3.out.2 h; cases this), if_pos (HX4.out.1 rfl)]
            go_wp2
            go_ret
            exact ⟨by rw [HQ.out]; rfl, rfl⟩
        · have HQ : Hid (r = 7) := by
            unfold Hid; rw [← HR.out]; unfold errnoS
            rw [if_neg (fun h => by have := HX.out.2 h; cases this), if_neg (fun h => by have := HX1.out.2 h; cases this), if_neg (fun h => by have := HX2.out.2 h; cases this), if_pos (HX3.out.1 rfl)]
          go_wp2
          go_ret
          exact ⟨by rw [HQ.out]; rfl, rfl⟩
      · have HQ : Hid (r = 6) := by
          unfold Hid; rw [← HR.out]; unfold errnoS
          rw [if_neg (fun h => by have := HX.out.2 h; cases this), if_neg (fun h => by have := HX1.out.2 h; cases this), if_pos (HX2.out.1 rfl)]
        go_wp2
        go_ret
        exact ⟨by rw [HQ.out]; rfl, rfl⟩
    · have HQ : Hid (r = 4) := by
        unfold Hid; rw [← HR.out]; unfold errnoS
        rw [if_neg (fun h => by have := HX.out.2 h; cases this), if_pos (HX1.out.1 rfl)]
      go_wp2
      go_ret
      exact ⟨by rw [HQ.out]; rfl, rfl⟩
  · have HQ : Hid (r = 2) := by
      unfold Hid; rw [← HR.out]; unfold errnoS
      rw [if_pos (HX.out.1 rfl)]
    go_wp2
    go_ret
    exact ⟨by rw [HQ.out]; rfl, rfl⟩
end Go.Proofs.YtconbmfbokpklaaGreatDoor
/- errors.Join: Go's own text, walked. -/
namespace Go.Proofs.YtconbmfbokpklaaGreatDoor
open Go.RowKit

theorem Tryz.info48 : (Tryz.prog.info? 48).map (fun i => (i.zero, i.size, i.bytes)) = some (some .nilIface, 1, 16) := by kernel_rfl
theorem ErrV.keep {W W' : World} {v : Value} {S : List Addr} (h : ErrV W v S) (hb : Below W.heap.size W W') : ErrV W' v S := by
  induction h with
  | leaf a c t ha => exact .leaf a c t ((hb.block a.block (Array.getElem?_eq_some_iff.1 ha).1).trans ha)
  | join b g cap es cur hbb hgg hc hl hcap _ ih =>
    exact .join b g cap es cur ((hb.block b (Array.getElem?_eq_some_iff.1 hbb).1).trans hbb) ((hb.block g (Array.getElem?_eq_some_iff.1 hgg).1).trans hgg) hc hl hcap ih
/-- No error, or one. -/
def OErr (W : World) (p : Value × List Addr) : Prop := p = (.nilIface, []) ∨ ∃ t v, p.1 = .iface t v ∧ ErrV W p.1 p.2
theorem OErr.below {W W' : World} {p : Value × List Addr} (h : OErr W p) (hb : Below W.heap.size W W') : OErr W' p := by
  rcases h with h | ⟨t, v, e, h⟩
  · exact .inl h
  · exact .inr ⟨t, v, e, h.keep hb⟩
def nn (p : Value × List Addr) : Bool := match p.1 with
  | .nilIface => false
  | _ => true
theorem nn_no {p : Value × List Addr} (h : p = (.nilIface, [])) : nn p = false := by subst h; rfl
theorem nn_yes {p : Value × List Addr} {t : TypeId} {v : Value} (h : p.1 = .iface t v) : nn p = true := by unfold nn; rw [h]
theorem flat_nn {W : World} {es : List (Value × List Addr)} (h : ∀ p ∈ es, OErr W p) : (es.filter nn).flatMap (·.2) = es.flatMap (·.2) := by
  induction es with
  | nil => rfl
  | cons p r ih =>
    have h2 := ih (fun q hq => h q (by simp [hq]))
    rcases h p (by simp) with e | ⟨t, v, e, _⟩
    · rw [List.filter_cons, nn_no e]
      subst e
      simpa using h2
    · rw [List.filter_cons, nn_yes e]
      simp only [if_true, List.flatMap_cons]
      rw [h2]
theorem take_nn_yes {es : List (Value × List Addr)} {k : Nat} {p : Value × List Addr} (hp : es[k]? = some p) (h : nn p = true) : (es.take (k + 1)).filter nn = (es.take k).filter nn ++ [p] := by
  obtain ⟨hl, he⟩ := List.getElem?_eq_some_iff.1 hp
  rw [List.take_succ_eq_append_getElem hl, he, List.filter_append]; simp [h]
theorem take_nn_no {es : List (Value × List Addr)} {k : Nat} {p : Value × List Addr} (hp : es[k]? = some p) (h : nn p = false) : (es.take (k + 1)).filter nn = (es.take k).filter nn := by
  obtain ⟨hl, he⟩ := List.getElem?_eq_some_iff.1 hp
  rw [List.take_succ_eq_append_getElem hl, he, List.filter_append]; simp [h]
/-- What Join answers. -/
def JoinPost (S : List Addr) (none? : Bool) (w : World) (e : Ending) (w' : World) : Prop :=
  ∃ p : Value × List Addr, e = .returned p.1 ∧ OErr w' p ∧ p.2 = S ∧ nn p = !none? ∧ Below w.heap.size w w'
def JBox (W : World) (b : Nat) (v : Value) : Prop := W.heap[b]? = some (.cells #[v] 114 (0, 0))
theorem JBox.set {W : World} {b : Nat} {v u : Value} (h : JBox W b v) : JBox (W.setCell ⟨b, 0, none⟩ u) b u := by
  obtain ⟨hlt, hk⟩ := Array.getElem?_eq_some_iff.1 h
  show (W.heap.modify b _)[b]? = _
  rw [Array.getElem?_eq_getElem (by rw [Array.size_modify]; exact hlt), Array.getElem_modify_self, hk]
  rfl
theorem own_cells {B n m cap g : Nat} {W : World} {t : TypeId} {xs : List Value} (h : W.ownsRow B t 1 (.slice (some ⟨g, 0, none⟩) m cap) n xs) {j : Nat} {x : Value} (hj : xs[j]? = some x) : W.cell? ⟨g, j, none⟩ = some x := by
  rcases h.2 with ⟨e, _⟩ | ⟨g', cap', cur, e, _, hg, hn, _, hs, ht⟩
  · cases e
  · cases e
    have hj' : j < xs.length := (List.getElem?_eq_some_iff.1 hj).1
    have hl := h.1
    have e1 : (cur.toList.take (n * 1))[j]? = some x := by rw [ht]; exact hj
    rw [List.getElem?_take_of_lt (by omega)] at e1
    simp only [World.cell?, hg]
    simpa using e1

theorem own_block {B n m cap g : Nat} {W : World} {t : TypeId} {xs : List Value} (h : W.ownsRow B t 1 (.slice (some ⟨g, 0, none⟩) m cap) n xs) : ∃ cur : Array Value, W.heap[g]? = some (.cells cur t (0, 0)) ∧ ∀ (j : Nat) (x : Value), xs[j]? = some x → cur[j]? = some x := by
  rcases h.2 with ⟨e, _⟩ | ⟨g', cap', cur, e, _, hg, hn, _, hs, ht⟩
  · cases e
  · cases e
    refine ⟨cur, hg, fun j x hj => ?_⟩
    have hj' : j < xs.length := (List.getElem?_eq_some_iff.1 hj).1
    have hl := h.1
    have e1 : (cur.toList.take (n * 1))[j]? = some x := by rw [ht]; exact hj
    rw [List.getElem?_take_of_lt (by omega)] at e1
    simpa using e1

set_option maxRecDepth 100000 in
set_option maxHeartbeats 2000000 in
theorem join_any (g cap : Nat) (es : List (Value × List Addr)) (w : World) (hc : ∀ (j : Nat) (p : Value × List Addr), es[j]? = some p → w.cell? ⟨g, j, none⟩ = some p.1) (hl : es.length ≤ 4) (hg : g < w.heap.size)
    (he : ∀ p ∈ es, OErr w p) :
    Calls Tryz.prog 39 #[.slice (some ⟨g, 0, none⟩) es.length cap] w (JoinPost (es.flatMap (·.2)) (es.filter nn).isEmpty w) := by
  obtain ⟨i0, hi, hz0, hz1, hz2⟩ := info_parts Tryz.info48
  have HC := hide hc
  have HE := hide he
  clear hc he
  go_enter Tryz.func39, Tryz.ntmps39
  go_wp2
  go_loop [3, 11] (fun nv iv => ∃ k : Nat, k ≤ es.length ∧ iv = .int .i64 k ∧ nv = .int .i64 ((es.take k).filter nn).length) (fun _ iv => es.length - (intOf iv).toNat)
  case atStart => exact ⟨0, Nat.zero_le _, rfl, rfl⟩
  case round =>
    obtain ⟨k, hk, rfl, rfl⟩ := hrel
    have hfl : ((es.take k).filter nn).length ≤ 4 := Nat.le_trans (List.length_filter_le _ _) (Nat.le_trans (List.length_take_le _ _) (by omega))
    by_cases hlt : k < es.length
    · obtain ⟨p, hp⟩ : ∃ p, es[k]? = some p := ⟨_, List.getElem?_eq_getElem hlt⟩
      have hck := (unhide HC) k p hp
      rcases (unhide HE) p (List.mem_of_getElem? hp) with e | ⟨t, v, e, _⟩
      · have HN := hide (take_nn_no hp (nn_no e))
        rw [e] at hck
        clear hp e
        go_wp2
        go_round
        case rel => exact ⟨k + 1, by omega, by go_num, by rw [HN.out]⟩
        case measure => simp [intOf]; omega
      · have HN := hide (take_nn_yes hp (nn_yes e))
        rw [e] at hck
        clear hp e
        go_wp2
        go_round
        case rel => exact ⟨k + 1, by omega, by go_num, by rw [HN.out, List.length_append]; go_num⟩
        case measure => simp [intOf]; omega
    · obtain rfl : k = es.length := by omega
      rw [List.take_length] at hfl ⊢
      by_cases h0 : (es.filter nn).length = 0
      · have h0' : ((((es.filter nn).length : Nat) : Int) == 0) = true := by rw [beq_iff_eq]; omega
        have HNL : Hid (es.filter nn = []) := List.eq_nil_of_length_eq_zero h0
        have HS : Hid (es.flatMap (·.2) = []) := by unfold Hid; rw [← flat_nn (unhide HE), HNL.out]; rfl
        go_wp2
        go_ret
        exact ⟨(.nilIface, []), rfl, .inl rfl, HS.out.symm, by rw [HNL.out]; rfl, Below.refl _ _⟩
      · have h0' : ((((es.filter nn).length : Nat) : Int) == 0) = false := by rw [beq_eq_false_iff_ne]; omega
        obtain ⟨n, hn⟩ : ∃ n, n = (es.filter nn).length := ⟨_, rfl⟩
        rw [← hn] at hfl h0 h0' ⊢
        have HN := hide hn
        clear hn
        go_wp2_with (at_make; refine wpList_make_own _ rfl _ _ 111 rfl w.heap.size 48 i0 .nilIface 1 Tryz.underlying111 hi hz0 hz1 _ _ _ n rfl rfl (by omega) (by rw [hz2]; omega) (by unfold maxLen; omega) (Nat.le_refl _) ?_; intro w0 hown0 hgrow0)
        obtain ⟨W0, hW0⟩ : ∃ W0, w0.alloc (.cells #[.slice (some ⟨w.heap.size, 0, none⟩) 0 n] 114) = W0 := ⟨_, rfl⟩
        rw [hW0]
        have hbl0 : Below w.heap.size w w0 := (Below.refl _ _).grown hgrow0 (Nat.le_refl _) (fun k h => by cases h)
        have hbs0 := hbl0.size
        have hjb0 : JBox W0 w0.heap.size (.slice (some ⟨w.heap.size, 0, none⟩) 0 n) := by rw [← hW0]; exact World.alloc_heap_new w0 _
        have hbl1 : Below w.heap.size w W0 := by rw [← hW0]; exact hbl0.alloc hbs0 _
        have hown1 : W0.ownsRow w.heap.size 48 1 (.slice (some ⟨w.heap.size, 0, none⟩) 0 n) 0 [] := by rw [← hW0]; exact hown0.alloc _
        clear hW0 hown0 hgrow0 hbl0
        go_loopw [28] (fun iv wr => ∃ (k : Nat) (v : Value), k ≤ es.length ∧ iv = .int .i64 k ∧ JBox wr w0.heap.size v ∧ wr.ownsRow w.heap.size 48 1 v ((es.take k).filter nn).length (((es.take k).filter nn).map (·.1)) ∧ Below w.heap.size w wr) (fun iv _ => es.length - (intOf iv).toNat)
        case atStart => exact ⟨0, _, Nat.zero_le _, rfl, hjb0, hown1, hbl1⟩
        case round =>
          obtain ⟨k, v, hk, rfl, hjb, hown, hnx⟩ := hrel
          have hfk : ((es.take k).filter nn).length ≤ 4 := Nat.le_trans (List.length_filter_le _ _) (Nat.le_trans (List.length_take_le _ _) (by omega))
          have cj : wr.cell? ⟨w0.heap.size, 0, none⟩ = some v := by simp [World.cell?, show wr.heap[w0.heap.size]? = _ from hjb]
          have fj : wr.frozen? ⟨w0.heap.size, 0, none⟩ = false := by simp [World.frozen?, show wr.heap[w0.heap.size]? = _ from hjb]
          by_cases hlt : k < es.length
          · obtain ⟨p, hp⟩ : ∃ p, es[k]? = some p := ⟨_, List.getElem?_eq_getElem hlt⟩
            have hck : wr.cell? ⟨g, k, none⟩ = some p.1 := (hnx.cell (p := ⟨g, k, none⟩) hg).trans ((unhide HC) k p hp)
            rcases (unhide HE) p (List.mem_of_getElem? hp) with e | ⟨t, u, e, _⟩
            · have HNN := hide (take_nn_no hp (nn_no e))
              rw [e] at hck
              clear hp e
              have HJ := hide hjb
              have HO := hide hown
              clear hjb hown
              go_wp2
              go_roundw
              case rel => exact ⟨k + 1, v, by omega, by go_num, unhide HJ, by rw [HNN.out]; exact unhide HO, hnx⟩
              case measure => simp [intOf]; omega
            · have HNN := hide (take_nn_yes hp (nn_yes e))
              have HE1 := hide e
              rw [e] at hck
              clear hp e
              have hjlt : w0.heap.size < wr.heap.size := (Array.getElem?_eq_some_iff.1 hjb).1
              have hnb : ∀ j, v.ownBlock = some j → j ≠ w0.heap.size := by
                intro j hj e
                subst e
                rcases hown.2 with ⟨rfl, _⟩ | ⟨g1, cap1, cur, rfl, _, hc1, _⟩
                · cases hj
                · simp only [Value.ownBlock, Option.some.injEq] at hj
                  subst hj
                  rw [show wr.heap[w0.heap.size]? = _ from hjb] at hc1
                  cases hc1
              have HJ := hide hjb
              have HNB := hide hnb
              clear hjb hnb
              go_wp2_with (at_builtin; go_loud (refine wpList_append_own _ rfl _ _ 111 rfl w.heap.size 48 i0 .nilIface 1 16 Tryz.underlying111 hi hz0 hz1 hz2 rfl (by decide) _ _ _ rfl (hown.alloc _) ⟨wr.heap.size, 0, none⟩ 1 1 [.iface t u] rfl rfl (cell_one_new _ _ _) (by simp [Value.oneCell']) (by unfold maxLen; omega) (by omega) (by have := hnx.size; simp; omega) ?_); intro v' w1 hown' hgrow _; obtain ⟨g', cap', rfl⟩ := ownsRow_succ hown'; go_loud (have hj1 : JBox w1 w0.heap.size v := (hgrow.block w0.heap.size (by simp; omega) (fun e => (unhide HNB) _ e.symm rfl)).trans ((World.grownBy_alloc wr _ none).block w0.heap.size hjlt (by simp) |>.trans (unhide HJ))); go_loud (have cj1 : w1.cell? ⟨w0.heap.size, 0, none⟩ = some v := by simp [World.cell?, show w1.heap[w0.heap.size]? = _ from hj1]); go_loud (have fj1 : w1.frozen? ⟨w0.heap.size, 0, none⟩ = false := by simp [World.frozen?, show w1.heap[w0.heap.size]? = _ from hj1]))
              have hb1 : Below w.heap.size w w1 := (hnx.alloc hnx.size _).grown hgrow (by have := hnx.size; simp; omega) (fun k e => (hown.lt k e).1)
              have hne : (Value.slice (some ⟨g', 0, none⟩) (((es.take k).filter nn).length + 1) cap').ownBlock ≠ some w0.heap.size := by
                intro e
                simp only [Value.ownBlock, Option.some.injEq] at e
                subst e
                rcases hown'.2 with ⟨e, _⟩ | ⟨g1, cap1, cur, e, _, hc1, _⟩
                · cases e
                · cases e
                  rw [show w1.heap[w0.heap.size]? = _ from hj1] at hc1
                  cases hc1
              have HO2 := hide (ownsRow_setCell_other hown' (a := ⟨w0.heap.size, 0, none⟩) hne (.slice (some ⟨g', 0, none⟩) (((es.take k).filter nn).length + 1) cap'))
              have HJ2 := hide (hj1.set (u := .slice (some ⟨g', 0, none⟩) (((es.take k).filter nn).length + 1) cap'))
              have HB2 := hide (hb1.setCell (p := ⟨w0.heap.size, 0, none⟩) hbs0 (.slice (some ⟨g', 0, none⟩) (((es.take k).filter nn).length + 1) cap'))
              clear hj1 cj1 fj1 hown' hgrow hb1 hne
              go_roundw
              case rel =>
                refine ⟨k + 1, _, by omega, by go_num, unhide HJ2, ?_, unhide HB2⟩
                rw [HNN.out, List.length_append, List.map_append]
                have := unhide HO2
                simpa [HE1.out] using this
              case measure => simp [intOf]; omega
          · obtain rfl : k = es.length := by omega
            rw [List.take_length, ← HN.out] at hown
            have hv : ∃ gg cc, v = .slice (some ⟨gg, 0, none⟩) n cc ∧ n ≤ cc := by
              rcases hown.2 with ⟨_, hz⟩ | ⟨g1, cap1, cur, rfl, _, _, hnc, _⟩
              · exact absurd hz h0
              · exact ⟨g1, cap1, rfl, hnc⟩
            obtain ⟨gg, cc, rfl, hnc⟩ := hv
            have HF : Hid (ErrV wr (.iface 112 (.pointer (some ⟨w0.heap.size, 0, none⟩))) (es.flatMap (·.2))) := by
              unfold Hid
              rw [← flat_nn (unhide HE)]
              obtain ⟨cur, hcu, hcc⟩ := own_block hown
              refine .join w0.heap.size gg cc (es.filter nn) cur (by rw [← HN.out]; exact hjb) hcu (fun j p hp => ?_) (by rw [← HN.out]; exact hfl) (by rw [← HN.out]; exact hnc) (fun j p hp => ?_)
              · exact hcc j _ (by rw [List.getElem?_map, hp]; rfl)
              · have hm := List.mem_of_getElem? hp
                rw [List.mem_filter] at hm
                rcases (unhide HE) p hm.1 with e | ⟨t, u, _, h⟩
                · rw [nn_no e] at hm; exact absurd hm.2 (by simp)
                · exact h.keep (hnx.mono (Nat.le_refl _))
            have HNE : Hid ((es.filter nn).isEmpty = false) := by
              unfold Hid
              cases e : es.filter nn with
              | nil => rw [HN.out, e] at h0; exact absurd rfl h0
              | cons a b => rfl
            clear hown hjb
            go_wp2
            go_ret
            exact ⟨(.iface 112 (.pointer (some ⟨w0.heap.size, 0, none⟩)), es.flatMap (·.2)), rfl, .inr ⟨_, _, rfl, unhide HF⟩, rfl, by rw [HNE.out]; rfl, hnx⟩
end Go.Proofs.YtconbmfbokpklaaGreatDoor
