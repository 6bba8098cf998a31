/- Boxes, blocks laid, leaving; where the signs stand. -/
import Derived.Test.YtgpgbobmpdgfeaaDoorBrG
import Derived.Shelf.RegionOpen
import Derived.WalkHide
namespace Go.Proofs.YtgpgbobmpdgfeaaDoor
open Go.RowKit Go.Shelf
attribute [local go_sem] Oper.semAt_some

theorem boxed_keepN {N b : Nat} {C : Nat → Prop} {A A' : World} {t : TypeId} {v : Value} (h : Boxed A b t v) (hk : KeepC N C A A') (hN : b < N) : Boxed A' b t v := (hk.block b h.lt (.inl hN)).trans h
theorem boxed_below {B b : Nat} {A A' : World} {t : TypeId} {v : Value} (h : Boxed A b t v) (hk : Below B A A') (hN : b < B) : Boxed A' b t v := (hk.block b hN).trans h
theorem KeepC.later {N B : Nat} {C : Nat → Prop} {w A A' : World} (hk : KeepC N C A A') (h : Below B w A) (hN : B ≤ N) (hw : B ≤ w.heap.size) : Below B w A' :=
  h.trans ⟨hk.os, hk.tape, hk.output, hk.size, fun k q => hk.block k (by have := h.size; omega) (.inl (by omega))⟩
theorem signs_len : ∀ (l : List UInt8) (f : Bool) (k : Nat), (signsD f k l).length ≤ l.length := by
  intro l
  induction l with
  | nil => intro f k; simp [signsD]
  | cons c r ih =>
    intro f k
    cases f with
    | true => rw [signsD]; have := ih false (k + 1); simp; omega
    | false =>
      rw [signsD]
      have h1 := ih true (k + 1)
      have h2 := ih false (k + 1)
      split
      · simp; omega
      · split <;> (simp; omega)
set_option maxRecDepth 100000 in
theorem signs_any (s : ByteArray) (w : World) : Calls Tryd.prog 15 #[.string s] w fun e w' => e = .returned (.func (.func 23) #[] #[.pointer (some ⟨w.heap.size, 0, none⟩)]) ∧ w' = w.alloc (.cells #[.string s] 9) := by
  go_enter Tryd.func15, Tryd.ntmps15
  go_wp2
  go_ret
  exact ⟨rfl, rfl⟩
theorem signs_at : ∀ (l : List UInt8) (f : Bool) (k : Nat) (x : Nat × UInt8), x ∈ signsD f k l → k ≤ x.1 ∧ x.1 < k + l.length := by
  intro l
  induction l with
  | nil => intro f k x h; simp [signsD] at h
  | cons c r ih =>
    intro f k x h
    rw [List.length_cons]
    cases f with
    | true => rw [signsD] at h; have := ih _ _ _ h; omega
    | false =>
      rw [signsD] at h
      split at h
      · have := ih _ _ _ h; omega
      · split at h
        · rcases List.mem_cons.1 h with rfl | h
          · simp
          · have := ih _ _ _ h; omega
        · have := ih _ _ _ h; omega
theorem signs_sorted : ∀ (l : List UInt8) (f : Bool) (k : Nat), List.Pairwise (fun x y => x.1 < y.1) (signsD f k l) := by
  intro l
  induction l with
  | nil => intro f k; simp [signsD]
  | cons c r ih =>
    intro f k
    cases f with
    | true => rw [signsD]; exact ih _ _
    | false =>
      rw [signsD]
      split
      · exact ih _ _
      · split
        · exact List.Pairwise.cons (fun y hy => by have := (signs_at _ _ _ _ hy).1; show k < y.1; omega) (ih _ _)
        · exact ih _ _
theorem mem_of_pre {α : Type} {pre xs : List α} {x : α} (h : pre ++ [x] <+: xs) : x ∈ xs := h.subset (by simp)
theorem len_of_pre {α : Type} {pre xs : List α} {x : α} (h : pre ++ [x] <+: xs) : pre.length < xs.length := by have := h.length_le; simp at this; omega
theorem nat_eq (c n : UInt8) : ((c.toNat : Int) == (n.toNat : Int)) = (c == n) := by
  by_cases e : c = n
  · subst e; simp
  · have : c.toNat ≠ n.toNat := fun q => e (UInt8.toNat_inj.1 q)
    have h1 : (c == n) = false := by simpa using e
    rw [h1]; simp; omega
theorem sign_cases (c : UInt8) : (((c.toNat : Int) == 123) = true) ∨ (((c.toNat : Int) == 123) = false ∧ ((c.toNat : Int) == 125) = true) ∨ (((c.toNat : Int) == 123) = false ∧ ((c.toNat : Int) == 125) = false) := by
  cases ((c.toNat : Int) == 123) <;> cases ((c.toNat : Int) == 125) <;> simp
theorem is123 {c : UInt8} {b : Bool} (h : ((c.toNat : Int) == 123) = b) : (c == 123) = b := (nat_eq c 123).symm.trans h
theorem is125 {c : UInt8} {b : Bool} (h : ((c.toNat : Int) == 125) = b) : (c == 125) = b := (nat_eq c 125).symm.trans h
def enclV : Option (List UInt8 × List UInt8) → Value
  | none => .tuple #[.string ⟨#[]⟩, .string ⟨#[]⟩, .bool false]
  | some (a, b) => .tuple #[.string (bs a), .string (bs b), .bool true]
/-- What is left to look at. -/
def Left {α : Type} (pre xs : List α) (p : List α → Prop) : Prop := ∃ r, pre ++ r = xs ∧ p r
theorem Left.step {α : Type} {pre xs : List α} {x : α} {p : List α → Prop} (h : Left pre xs p) (hp : pre ++ [x] <+: xs) : ∃ r, pre ++ [x] ++ r = xs ∧ p (x :: r) := by
  obtain ⟨r, hr, hq⟩ := h
  obtain ⟨t, ht⟩ := hp
  refine ⟨t, ht, ?_⟩
  rw [← hr, List.append_assoc] at ht
  have := List.append_cancel_left ht
  rw [show x :: t = [x] ++ t from rfl, this]
  exact hq
theorem bs_take (s : List UInt8) (k : Nat) : (bs s).extract 0 k = bs (s.take k) := by
  have e : ((bs s).extract 0 k).data.toList = (bs (s.take k)).data.toList := by
    rw [ByteArray.data_extract, Array.toList_extract, List.extract_eq_take_drop]
    simp [bs]
  exact ByteArray.ext (Array.toList_inj.1 e)
theorem bs_slice (s : List UInt8) (i k : Nat) : (bs s).extract i k = bs ((s.drop i).take (k - i)) := by
  have e : ((bs s).extract i k).data.toList = (bs ((s.drop i).take (k - i))).data.toList := by
    rw [ByteArray.data_extract, Array.toList_extract, List.extract_eq_take_drop]
    simp [bs]
  exact ByteArray.ext (Array.toList_inj.1 e)
theorem bs_drop (s : List UInt8) (k n : Nat) (h : s.length ≤ n) : (bs s).extract k n = bs (s.drop k) := by
  rw [bs_slice, List.take_of_length_le (by rw [List.length_drop]; omega)]
/-- Blocks laid one behind another. -/
def lay : World → List Obj → World
  | w, [] => w
  | w, o :: os => lay (w.alloc o) os
theorem lay_facts : ∀ (os : List Obj) (w : World), (lay w os).heap.size = w.heap.size + os.length ∧ Below w.heap.size w (lay w os) ∧ ∀ (i : Nat) (o : Obj), os[i]? = some o → (lay w os).heap[w.heap.size + i]? = some o := by
  intro os
  induction os with
  | nil => intro w; exact ⟨rfl, Below.refl _ _, fun i o h => by simp at h⟩
  | cons a os ih =>
    intro w
    obtain ⟨h1, h2, h3⟩ := ih (w.alloc a)
    rw [World.size_alloc] at h1 h2 h3
    refine ⟨by rw [lay, h1, List.length_cons]; omega, ((Below.refl _ w).alloc (Nat.le_refl _) a).trans (h2.mono (Nat.le_succ _)), fun i o h => ?_⟩
    cases i with
    | zero =>
      simp at h
      subst h
      exact (h2.block _ (Nat.lt_succ_self _)).trans (World.alloc_heap_new w a)
    | succ i =>
      have := h3 i o (by simpa using h)
      rw [lay]
      rw [← this]
      congr 1
      omega
theorem leave_ret {P : Program} {fn : Func} {R : Ending → World → Prop} {tmps : Array Value} {D n : Nat} {W : World} {v : Value} (hK : W.heap[D]? = some (.deferred (some [])))
    (hr : (results fn tmps).run P (W.putObj D (.deferred none)) = .ok v (W.putObj D (.deferred none))) (hR : R (.returned v) (W.putObj D (.deferred none))) :
    bodyPostM Fence.wide n P fn R .ret { tmps := tmps, defers := [{ target := .collected D, args := #[] }] } W :=
  ⟨by simp, .inl ⟨_, _, rfl, run_takeDeferred hK, ⟨v, hr, hR⟩⟩⟩
theorem leave_end {P : Program} {fn : Func} {R : Ending → World → Prop} {tmps : Array Value} {D n : Nat} {W : World} {v : Value} (hK : W.heap[D]? = some (.deferred (some [])))
    (hr : (results fn tmps).run P (W.putObj D (.deferred none)) = .ok v (W.putObj D (.deferred none))) (hR : R (.returned v) (W.putObj D (.deferred none))) :
    bodyPostM Fence.wide n P fn R .normal { tmps := tmps, defers := [{ target := .collected D, args := #[] }] } W :=
  ⟨by simp, .inl ⟨_, _, rfl, run_takeDeferred hK, ⟨v, hr, hR⟩⟩⟩
theorem boxed_put {W : World} {b D : Nat} {t : TypeId} {v : Value} {o : Obj} (h : Boxed W b t v) (hne : b ≠ D) : Boxed (W.putObj D o) b t v := (World.putObj_heap_other hne).trans h
theorem below_put {W w : World} {B D : Nat} {o : Obj} (h : Below B w W) (hD : B ≤ D) : Below B w (W.putObj D o) :=
  h.trans ⟨rfl, rfl, rfl, by simp, fun k hk => World.putObj_heap_other (by omega)⟩
theorem def_set {W : World} {b D : Nat} {v : Value} {o : Obj} (h : W.heap[D]? = some o) (hne : D ≠ b) : (W.setCell ⟨b, 0, none⟩ v).heap[D]? = some o := (Below.heap_setCell _ _ _ D hne).trans h
end Go.Proofs.YtgpgbobmpdgfeaaDoor
