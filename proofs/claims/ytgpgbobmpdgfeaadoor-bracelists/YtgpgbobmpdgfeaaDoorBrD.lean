/- Plain: two texts without signs in a group. -/
import Derived.Test.YtgpgbobmpdgfeaaDoorBrC
namespace Go.Proofs.YtgpgbobmpdgfeaaDoor
def Still (s : List UInt8) : Prop := ∀ c ∈ s, c ≠ 92 ∧ isSign c = false
theorem Still.signs {s : List UInt8} (h : Still s) : ∀ k, signsD false k s = [] := by
  induction s with
  | nil => intro k; rfl
  | cons c s ih =>
    intro k
    obtain ⟨h1, h2⟩ := h c (by simp)
    rw [signsD, if_neg h1, h2]
    exact ih (fun d hd => h d (by simp [hd])) _
theorem signs_still {s : List UInt8} (h : Still s) (k : Nat) (t : List UInt8) : signsD false k (s ++ t) = signsD false (k + s.length) t := by
  rw [signs_append s t k (fun c hc => (h c hc).1), h.signs]; rfl
theorem texts_still {s : List UInt8} (h : Still s) (f : Nat) : textsD f s = [s] := by
  cases f with
  | zero => rfl
  | succ f =>
    have : firstD s = none := by unfold firstD; rw [h.signs]; rfl
    rw [textsD, this]
theorem pieces_two {x y : List UInt8} (hx : Still x) (hy : Still y) : piecesB (x ++ 44 :: y) = [x, y] := by
  unfold piecesB
  rw [signs_still hx, signsD, if_neg (by decide)]
  have e : isSign 44 = true := by decide
  rw [e, hy.signs]
  simp [commasD, cutAtD]
theorem texts_group {a x y b : List UInt8} (ha : Still a) (hx : Still x) (hy : Still y) (hb : Still b) (f : Nat) : textsD (f + 1) (a ++ 123 :: (x ++ 44 :: (y ++ 125 :: b))) = [a ++ x ++ b, a ++ y ++ b] := by
  have hen : enclosedD (x ++ 44 :: (y ++ 125 :: b)) = some (x ++ 44 :: y, b) := by
    have e4 : isSign 44 = true := by decide
    have e5 : isSign 125 = true := by decide
    have hsig : signsD false 0 (x ++ 44 :: (y ++ 125 :: b)) = [(x.length, 44), (x.length + 1 + y.length, 125)] := by
      rw [signs_still hx, signsD, if_neg (by decide), if_pos e4, signs_still hy, signsD, if_neg (by decide), if_pos e5, hb.signs, Nat.zero_add]
    have hc : closeD 0 [(x.length, 44), (x.length + 1 + y.length, 125)] = some (x.length + 1 + y.length) := by
      rw [closeD, if_neg (by decide), if_neg (by decide), closeD, if_neg (by decide), if_pos rfl, if_pos rfl]
    have hl : x.length + 1 + y.length = (x ++ 44 :: y).length := by simp; omega
    have es : x ++ 44 :: (y ++ 125 :: b) = (x ++ 44 :: y) ++ 125 :: b := by simp
    unfold enclosedD
    rw [hsig, hc]
    simp only
    rw [es, hl, List.take_left, ← List.drop_drop, List.drop_left]
    rfl
  have hf : firstD (a ++ 123 :: (x ++ 44 :: (y ++ 125 :: b))) = some (a, .list [x, y], b) := by
    unfold firstD
    rw [signs_still ha, signsD, if_neg (by decide)]
    have e : isSign 123 = true := by decide
    rw [e, if_pos rfl, firstFrom, if_pos rfl]
    have ed : (a ++ 123 :: (x ++ 44 :: (y ++ 125 :: b))).drop (0 + a.length + 1) = x ++ 44 :: (y ++ 125 :: b) := by
      rw [Nat.zero_add, ← List.drop_drop, List.drop_left]; rfl
    rw [ed, hen]
    simp only
    unfold midD
    rw [pieces_two hx hy, if_pos (by simp)]
    simp
  rw [textsD, hf]
  simp only [List.flatMap_cons, List.flatMap_nil, texts_still hx, texts_still hy, texts_still hb]
  simp
end Go.Proofs.YtgpgbobmpdgfeaaDoor
