/- The document's small functions: has, with, ends. -/
import Derived.Test.YtiekhoehkgmbjaaDoorAMatch
namespace Go.Proofs.YtiekhoehkgmbjaaDoor
open Go.RowKit Go.Maps

def hasB (t : ByteArray) (c : UInt8) : Bool := decide (c ∈ t.data.toList)
set_option maxRecDepth 100000 in
set_option maxHeartbeats 1000000 in
theorem rhas_any (t : ByteArray) (c : UInt8) (w : World) (ht : t.size ≤ 1000000000) :
    Calls Tryd.prog 42 #[.string t, .int .u8 (c.toNat : Int)] w fun e w' => e = .returned (.bool (hasB t c)) ∧ w' = w := by
  go_enter Tryd.func42, Tryd.ntmps42
  go_wp2
  go_loop [5] (fun iv => ∃ i : Nat, iv = .int .i64 (i : Int) ∧ i ≤ t.size ∧ c ∉ t.data.toList.take i) (fun iv => t.size - (intOf iv).toNat)
  case atStart => exact ⟨0, rfl, Nat.zero_le _, by simp⟩
  case round =>
    obtain ⟨i, rfl, hi, hno⟩ := hrel
    by_cases hlt : i < t.size
    · have hiI : (i : Int) < (t.size : Int) := by omega
      have e1 : t.data.toList.take (i + 1) = t.data.toList.take i ++ [t[i]] := by
        rw [List.take_add_one, List.getElem?_eq_getElem (by simpa using hlt)]
        rfl
      by_cases hc : t[i] = c
      · have hcb : (((t[i].toNat : Nat) : Int) == ((c.toNat : Nat) : Int)) = true := by rw [hc]; simp
        have HR : Hid (hasB t c = true) := by
          unfold Hid hasB
          rw [decide_eq_true_eq]
          exact List.mem_of_mem_take (i := i + 1) (by rw [e1]; simp [hc])
        go_wp2
        go_ret
        exact ⟨by rw [HR.out]; rfl, rfl⟩
      · have hcb : (((t[i].toNat : Nat) : Int) == ((c.toNat : Nat) : Int)) = false := by
          rw [beq_eq_false_iff_ne]
          intro e
          exact hc (UInt8.toNat_inj.1 (by omega))
        go_wp2
        go_round
        case rel =>
          refine ⟨i + 1, by simp, by omega, ?_⟩
          rw [e1]
          simp only [List.mem_append, List.mem_singleton, not_or]
          exact ⟨hno, fun e => hc e.symm⟩
        case measure => simp [intOf]; omega
    · have hiI : ¬ ((i : Int) < (t.size : Int)) := by omega
      have HR : Hid (hasB t c = false) := by
        unfold Hid hasB
        rw [decide_eq_false_iff_not]
        rw [List.take_of_length_le (by simp; show t.size ≤ i; omega)] at hno
        exact hno
      go_wp2
      go_ret
      exact ⟨by rw [HR.out]; rfl, rfl⟩
/-! ### with -/
def insD (n : Nat) : List Nat → List Nat
  | [] => [n]
  | x :: r => if n < x then n :: x :: r else if n = x then x :: r else x :: insD n r
theorem insD_mem (n y : Nat) : ∀ xs : List Nat, y ∈ insD n xs ↔ y = n ∨ y ∈ xs := by
  intro xs
  induction xs with
  | nil => simp [insD]
  | cons x r ih =>
    simp only [insD]
    by_cases h : n < x
    · rw [if_pos h]; simp
    · rw [if_neg h]
      by_cases h2 : n = x
      · rw [if_pos h2]; subst h2; simp
      · rw [if_neg h2, List.mem_cons, ih, List.mem_cons]
        exact or_left_comm
def Asc (xs : List Nat) : Prop := xs.Pairwise (· < ·)
theorem insD_asc (n : Nat) : ∀ xs : List Nat, Asc xs → Asc (insD n xs) := by
  intro xs
  induction xs with
  | nil => intro _; exact List.pairwise_singleton _ _
  | cons x r ih =>
    intro h
    simp only [insD]
    have hx := List.pairwise_cons.1 h
    by_cases h1 : n < x
    · rw [if_pos h1]
      refine List.pairwise_cons.2 ⟨fun y hy => ?_, h⟩
      rcases List.mem_cons.1 hy with rfl | hy
      · exact h1
      · exact Nat.lt_trans h1 (hx.1 y hy)
    · rw [if_neg h1]
      by_cases h2 : n = x
      · rw [if_pos h2]; exact h
      · rw [if_neg h2]
        refine List.pairwise_cons.2 ⟨fun y hy => ?_, ih hx.2⟩
        rcases (insD_mem n y r).1 hy with rfl | hy
        · omega
        · exact hx.1 y hy
theorem insD_in {n : Nat} : ∀ {xs : List Nat}, Asc xs → n ∈ xs → insD n xs = xs := by
  intro xs
  induction xs with
  | nil => intro _ h; cases h
  | cons x r ih =>
    intro h hn
    have hx := List.pairwise_cons.1 h
    simp only [insD]
    rcases List.mem_cons.1 hn with rfl | hn
    · simp
    · have := hx.1 n hn
      rw [if_neg (by omega), if_neg (by omega), ih hx.2 hn]
theorem insD_split {n : Nat} : ∀ (a b : List Nat), (∀ y ∈ a, y < n) → (∀ y ∈ b, n < y) → insD n (a ++ b) = a ++ n :: b := by
  intro a
  induction a with
  | nil =>
    intro b _ hb
    cases b with
    | nil => rfl
    | cons x r =>
      have := hb x (by simp)
      simp only [List.nil_append, insD]
      rw [if_pos this]
  | cons x a ih =>
    intro b ha hb
    have := ha x (by simp)
    simp only [List.cons_append, insD]
    rw [if_neg (by omega), if_neg (by omega), ih b (fun y hy => ha y (by simp [hy])) hb]
/-- A row of a list's own: where it may lie after it has grown. -/
def Lies (v v' : Value) (w : World) : Prop := v'.ownBlock = v.ownBlock ∨ ∀ g, v'.ownBlock = some g → w.heap.size ≤ g
theorem nats_set (xs : List Nat) (i x : Nat) : (nats xs).set i (.int .i64 (x : Int)) = nats (xs.set i x) := by
  unfold nats
  rw [List.map_set]
theorem nats_cell {B n g cap : Nat} {W : World} {xs : List Nat} (h : W.ownsRow B 3 1 (.slice (some ⟨g, 0, none⟩) n cap) n (nats xs)) {i : Nat} (hi : i < xs.length) : W.cell? ⟨g, i, none⟩ = some (.int .i64 ((xs[i] : Nat) : Int)) := by
  have hn : xs.length = n := by have := h.1; rw [nats_length] at this; omega
  rw [h.cellAt i (by omega)]
  unfold nats
  rw [List.getElem?_map, List.getElem?_eq_getElem hi]
  rfl
theorem grown_lies {A B C : World} {v v' : Value} (h : A.grownBy B v.ownBlock) (hl : Lies v v' A) (h2 : B.grownBy C v'.ownBlock) : A.grownBy C v.ownBlock := by
  refine ⟨h2.os.trans h.os, h2.tape.trans h.tape, h2.output.trans h.output, Nat.le_trans h.size h2.size, fun k hk hne => (h2.block k (Nat.lt_of_lt_of_le hk h.size) (fun e => ?_)).trans (h.block k hk hne)⟩
  rcases hl with e' | e'
  · exact hne (by rw [e, e'])
  · have := e' k e.symm; omega
theorem swap_set {a b : List Nat} {n y : Nat} : ((a ++ [y] ++ n :: b).set (a.length + 1) y).set a.length n = a ++ n :: y :: b := by
  have e1 : (a ++ [y] ++ n :: b).set (a.length + 1) y = a ++ [y] ++ y :: b := by
    rw [List.set_append_right _ _ (by simp)]
    simp
  rw [e1, List.append_assoc, List.set_append_right _ _ (by simp)]
  simp
set_option maxRecDepth 100000 in
set_option maxHeartbeats 4000000 in
theorem with_any (B : Nat) (v : Value) (xs : List Nat) (n : Nat) (w : World) (h : w.ownsRow B 3 1 v xs.length (nats xs)) (ha : Asc xs) (hl : xs.length ≤ 100000000) (hB : B ≤ w.heap.size) :
    Calls Tryd.prog 43 #[v, .int .i64 (n : Int)] w fun e w' => ∃ v', e = .returned v' ∧ w'.ownsRow B 3 1 v' (insD n xs).length (nats (insD n xs)) ∧ w.grownBy w' v.ownBlock ∧ Lies v v' w ∧ (n ∈ xs → v' = v ∧ w' = w) := by
  obtain ⟨va, vc, rfl⟩ : ∃ a c, v = .slice a xs.length c := by
    rcases h.2 with ⟨e, h0⟩ | ⟨g, c, cur, e, _⟩
    · exact ⟨_, _, by rw [e, h0]⟩
    · exact ⟨_, _, e⟩
  have hcell : ∀ i, (hi : i < xs.length) → ∃ g, va = some ⟨g, 0, none⟩ ∧ w.cell? ⟨g, i, none⟩ = some (.int .i64 ((xs[i] : Nat) : Int)) := fun i hi => by
    obtain ⟨g, c, e, _⟩ := h.form (by omega)
    simp only [Value.slice.injEq] at e
    refine ⟨g, e.1, ?_⟩
    have h' := h
    rw [e.1] at h'
    exact nats_cell h' hi
  go_enter Tryd.func43, Tryd.ntmps43
  have H := hide h
  clear h
  go_wp2
  go_loopw [5] (fun iv wr => wr = w ∧ ∃ i : Nat, iv = .int .i64 (i : Int) ∧ i ≤ xs.length ∧ n ∉ xs.take i) (fun iv _ => xs.length - (intOf iv).toNat)
  case atStart => exact ⟨rfl, 0, rfl, Nat.zero_le _, by simp⟩
  case round =>
    obtain ⟨rfl, i, rfl, hi, hno⟩ := hrel
    by_cases hlt : i < xs.length
    · have hiI : (i : Int) < (xs.length : Int) := by omega
      obtain ⟨g, rfl, hc⟩ := hcell i hlt
      have e1 : xs.take (i + 1) = xs.take i ++ [xs[i]] := by rw [List.take_add_one, List.getElem?_eq_getElem hlt]; rfl
      by_cases hx : xs[i] = n
      · have hxe : (((xs[i] : Nat) : Int) == (n : Int)) = true := by rw [hx]; simp
        have hin : n ∈ xs := by rw [← hx]; exact List.getElem_mem hlt
        go_wp2
        go_ret
        refine ⟨_, rfl, by rw [insD_in ha hin]; exact H.out, ⟨rfl, rfl, rfl, Nat.le_refl _, fun _ _ _ => rfl⟩, .inl rfl, fun _ => ⟨rfl, rfl⟩⟩
      · have hxe : (((xs[i] : Nat) : Int) == (n : Int)) = false := by rw [beq_eq_false_iff_ne]; intro e; exact hx (by omega)
        go_wp2
        go_roundw
        case rel =>
          refine ⟨trivial, i + 1, by simp, by omega, ?_⟩
          rw [e1]
          simp only [List.mem_append, List.mem_singleton, not_or]
          exact ⟨hno, fun e => hx e.symm⟩
        case measure => simp [intOf]; omega
    · have hiI : ¬ ((i : Int) < (xs.length : Int)) := by omega
      have hie : i = xs.length := by omega
      subst hie
      rw [List.take_length] at hno
      clear hcell
      obtain ⟨i0, hi0, hz0, hz1, hz2⟩ := info_parts Tryd.info3
      go_wp2_with (at_builtin; refine wpList_append_lies _ rfl (.tmp 21) (.tmp 23) 54 rfl B 3 i0 _ 1 8 Tryd.underlying54' hi0 hz0 hz1 hz2 rfl (by decide) (.slice va xs.length vc) xs.length (nats xs) rfl ((unhide H).alloc _) ⟨wr.heap.size, 0, none⟩ 1 1 [.int .i64 (n : Int)] rfl rfl (cell_one_new _ _ _) (by simp [Value.oneCell']) (by decide) (by unfold maxLen; omega) (by omega) (by simp; omega) _ rfl ?_; intro g1 c1 w1 hown1 hgr1 hat1 hlt1)
      have hel : nats xs ++ [Value.int .i64 (n : Int)] = nats (xs ++ [n]) := by simp [nats]
      rw [hel] at hown1
      have hgrw : wr.grownBy w1 (Value.slice va xs.length vc).ownBlock := grown_trans (World.grownBy_alloc _ _ _) hgr1
      have hlies : Lies (.slice va xs.length vc) (.slice (some ⟨g1, 0, none⟩) (xs.length + 1) c1) wr := by
        rcases hat1 with e | e
        · exact .inl e.symm
        · exact .inr (fun g2 e2 => by have e3 : g1 = g2 := Option.some.inj e2; simp at e; omega)
      have hsub : ((xs.length + 1 : Nat) : Int) - 1 = (xs.length : Int) := by omega
      clear hgr1 hat1 hi0 hz0 hz1 hz2 hel
      go_loopw [6] (fun jv wx => ∃ (a b : List Nat), jv = .int .i64 (a.length : Int) ∧ xs = a ++ b ∧ (∀ y ∈ b, n < y) ∧ wx.ownsRow B 3 1 (.slice (some ⟨g1, 0, none⟩) (xs.length + 1) c1) (xs.length + 1) (nats (a ++ n :: b)) ∧ wr.grownBy wx (Value.slice va xs.length vc).ownBlock) (fun jv _ => (intOf jv).toNat)
      case atStart => exact ⟨xs, [], rfl, by simp, fun y hy => (by cases hy), hown1, hgrw⟩
      case round =>
        rename World => wx
        obtain ⟨a, b, rfl, hab, hb, hrow, hgx⟩ := hrel
        rcases List.eq_nil_or_concat a with rfl | ⟨a, y, rfl⟩
        · have HR : Hid (∀ k, ∃ v', Ending.returned (Value.slice (some ⟨g1, 0, none⟩) (xs.length + 1) c1) = Ending.returned v' ∧ (wx.drewN k).ownsRow B 3 1 v' (insD n xs).length (nats (insD n xs)) ∧ wr.grownBy (wx.drewN k) (Value.slice va xs.length vc).ownBlock ∧ Lies (.slice va xs.length vc) v' wr ∧ (n ∈ xs → v' = .slice va xs.length vc ∧ wx.drewN k = wr)) := by
            have e1 : insD n xs = [] ++ n :: b := by rw [hab]; exact insD_split [] b (fun y hy => (by cases hy)) hb
            have e2 : (insD n xs).length = xs.length + 1 := by rw [e1, hab]; simp
            exact fun k => ⟨_, rfl, by rw [e2, e1]; exact hrow, ⟨hgx.os, hgx.tape, hgx.output, hgx.size, hgx.block⟩, hlies, fun h => absurd h hno⟩
          simp only [List.length_nil, Int.natCast_zero]
          go_wp2
          go_quiet (fail)
          go_wp2
          go_ret
          exact HR.out nq
        · rw [List.concat_eq_append] at hab hrow
          have hal : (a ++ [y]).length = a.length + 1 := by simp
          have hxl : xs.length = a.length + 1 + b.length := by rw [hab]; simp; omega
          have cj1 : wx.cell? ⟨g1, a.length + 1, none⟩ = some (.int .i64 (n : Int)) := by
            rw [nats_cell hrow (i := a.length + 1) (by simp)]
            congr 3
            rw [List.getElem_append_right (by simp)]
            simp
          have cj0 : wx.cell? ⟨g1, a.length, none⟩ = some (.int .i64 (y : Int)) := by
            rw [nats_cell hrow (i := a.length) (by simp)]
            congr 3
            rw [List.getElem_append_left (by simp), List.getElem_append_right (by simp)]
            simp
          have fj := own_frozen hrow
          have f0 := fj a.length
          have f1 := fj (a.length + 1)
          have hyx : y ∈ xs := by rw [hab]; simp
          have hyn : y ≠ n := fun e => hno (e ▸ hyx)
          have hj1 : ((a.length + 1 : Nat) : Int) - 1 = (a.length : Int) := by omega
          have hjb : a.length ≤ 100000000 := by omega
          have hjI : (a.length : Int) + 1 < (xs.length : Int) + 1 := by omega
          have hjI0 : (a.length : Int) < (xs.length : Int) + 1 := by omega
          have hjp : (0 : Int) < (a.length : Int) + 1 := by omega
          rw [List.concat_eq_append, hal]
          by_cases hlt : n < y
          · have hlI : (n : Int) < (y : Int) := by omega
            have HROW := hide hrow
            have HAB := hide hab
            have HXL := hide hxl
            clear hrow fj hab hxl
            go_wp2
            go_quiet (fail)
            go_wp2
            go_roundw
            case rel =>
              have hg1 := set_grown (wx.drewN nq) g1 (a.length + 1) (.int .i64 (y : Int))
              have hg2 := set_grown ((wx.drewN nq).setCell ⟨g1, a.length + 1, none⟩ (.int .i64 (y : Int))) g1 a.length (.int .i64 (n : Int))
              have hgd : wr.grownBy (wx.drewN nq) (Value.slice va xs.length vc).ownBlock := ⟨hgx.os, hgx.tape, hgx.output, hgx.size, hgx.block⟩
              refine ⟨a, y :: b, by simp, by rw [HAB.out]; simp, fun z hz => ?_, ?_, grown_lies (grown_lies hgd hlies hg1) hlies hg2⟩
              · rcases List.mem_cons.1 hz with rfl | hz
                · exact hlt
                · exact hb z hz
              · have r0 : (wx.drewN nq).ownsRow B 3 1 (.slice (some ⟨g1, 0, none⟩) (xs.length + 1) c1) (xs.length + 1) (nats (a ++ [y] ++ n :: b)) := HROW.out
                have r1 := own_set98 (i := a.length + 1) r0 (.int .i64 (y : Int))
                have r2 := own_set98 (i := a.length) r1 (.int .i64 (n : Int))
                rw [nats_set, nats_set, swap_set] at r2
                exact r2
            case measure => simp [intOf]
          · have hlI : ¬ ((n : Int) < (y : Int)) := by omega
            have HR : Hid (∀ k, ∃ v', Ending.returned (Value.slice (some ⟨g1, 0, none⟩) (xs.length + 1) c1) = Ending.returned v' ∧ (wx.drewN k).ownsRow B 3 1 v' (insD n xs).length (nats (insD n xs)) ∧ wr.grownBy (wx.drewN k) (Value.slice va xs.length vc).ownBlock ∧ Lies (.slice va xs.length vc) v' wr ∧ (n ∈ xs → v' = .slice va xs.length vc ∧ wx.drewN k = wr)) := by
              have hasc : Asc (a ++ [y]) := by
                have := ha
                unfold Asc at this
                rw [hab] at this
                exact (List.pairwise_append.1 this).1
              have e1 : insD n xs = (a ++ [y]) ++ n :: b := by
                rw [hab]
                refine insD_split (a ++ [y]) b (fun z hz => ?_) hb
                rcases List.mem_append.1 hz with hz | hz
                · have := (List.pairwise_append.1 hasc).2.2 z hz y (by simp)
                  omega
                · rw [List.mem_singleton] at hz; omega
              have e2 : (insD n xs).length = xs.length + 1 := by rw [e1, hxl]; simp; omega
              exact fun k => ⟨_, rfl, by rw [e2, e1]; exact hrow, ⟨hgx.os, hgx.tape, hgx.output, hgx.size, hgx.block⟩, hlies, fun h => absurd h hno⟩
            clear hrow fj hab hxl
            go_wp2
            go_quiet (fail)
            go_wp2
            go_ret
            exact HR.out nq
end Go.Proofs.YtiekhoehkgmbjaaDoor
