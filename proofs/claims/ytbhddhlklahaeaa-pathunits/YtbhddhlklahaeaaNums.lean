import Derived.WalkKit
import Derived.WalkSpells
import Derived.WalkLawsBesides
import Derived.Outline
import Derived.Test.YtbhddhlklahaeaaChecked
namespace Go.Proofs.Ytbhddhlklahaeaa
open Go.RowKit

/-! ### Plain numbers: what a text of digits means. -/
def dstep (n : Int) (c : UInt8) : Int := 10 * n + ((c.toNat : Int) - 48)
def dval (l : List UInt8) : Int := l.foldl dstep 0
def isD (c : UInt8) : Bool := decide (48 ≤ (c.toNat : Int) ∧ (c.toNat : Int) ≤ 57)
def good (l : List UInt8) : Bool := l.all isD && decide (1 ≤ l.length ∧ l.length ≤ 9)
def numI (l : List UInt8) : Int := if good l then dval l else 0
def numJ (l : List UInt8) : Int := if good l then dval l else -1
def gB (s : ByteArray) : Bool := good s.data.toList
def nI (s : ByteArray) : Int := numI s.data.toList
def nJ (s : ByteArray) : Int := numJ s.data.toList

theorem dval_snoc (l : List UInt8) (c : UInt8) : dval (l ++ [c]) = 10 * dval l + ((c.toNat : Int) - 48) := by
  unfold dval; rw [List.foldl_append]; rfl

theorem fold_bd (l : List UInt8) : ∀ a : Int, 0 ≤ a → l.all isD = true → 0 ≤ l.foldl dstep a ∧ l.foldl dstep a + 1 ≤ (a + 1) * 10 ^ l.length := by
  induction l with
  | nil => intro a h _; simp; omega
  | cons c t ih =>
    intro a h hd
    simp only [List.all_cons, Bool.and_eq_true] at hd
    have h1 : 48 ≤ (c.toNat : Int) ∧ (c.toNat : Int) ≤ 57 := by simpa [isD] using hd.1
    have h2 : 0 ≤ dstep a c := by unfold dstep; omega
    have := ih (dstep a c) h2 hd.2
    refine ⟨this.1, Int.le_trans this.2 ?_⟩
    have h3 : dstep a c + 1 ≤ (a + 1) * 10 := by unfold dstep; omega
    have h4 : (0 : Int) ≤ 10 ^ t.length := by exact Int.le_of_lt (Int.pow_pos (by omega))
    have h5 := Int.mul_le_mul_of_nonneg_right h3 h4
    rw [List.length_cons, Int.pow_succ, Int.mul_comm (10 ^ t.length : Int) 10, ← Int.mul_assoc]
    exact h5

theorem dval_bd (l : List UInt8) (h : l.all isD = true) (hl : l.length ≤ 9) : 0 ≤ dval l ∧ dval l ≤ 999999999 := by
  have := fold_bd l 0 (by omega) h
  refine ⟨this.1, ?_⟩
  have h2 : (10 : Int) ^ l.length ≤ 10 ^ 9 := by
    have : (10 : Nat) ^ l.length ≤ 10 ^ 9 := Nat.pow_le_pow_right (by omega) hl
    exact_mod_cast this
  have h3 := this.2
  unfold dval
  have : (10 : Int) ^ 9 = 1000000000 := by decide
  omega

theorem take_snoc (s : ByteArray) (k : Nat) (h : k < s.size) : s.data.toList.take (k + 1) = s.data.toList.take k ++ [s[k]] := by
  rw [List.take_succ_eq_append_getElem (by simpa using h)]; rfl
theorem len_data (s : ByteArray) : s.data.toList.length = s.size := by simp

theorem good_no_of (s : ByteArray) (k : Nat) (h : k < s.size) (hd : isD s[k] = false) : good s.data.toList = false := by
  have hm : s[k] ∈ s.data.toList := by
    have : s.data.toList[k]'(by simpa using h) = s[k] := rfl
    rw [← this]; exact List.getElem_mem _
  unfold good
  have : s.data.toList.all isD = false := by
    rw [List.all_eq_false]; exact ⟨_, hm, by simp [hd]⟩
  rw [this]; rfl
theorem good_no_short (s : ByteArray) (h : s.size = 0 ∨ 9 < s.size) : good s.data.toList = false := by
  unfold good
  have : decide (1 ≤ s.data.toList.length ∧ s.data.toList.length ≤ 9) = false := by
    rw [len_data]; simp; omega
  rw [this]; simp
theorem good_yes (s : ByteArray) (h1 : 1 ≤ s.size) (h9 : s.size ≤ 9) (hd : s.data.toList.all isD = true) : good s.data.toList = true := by
  unfold good; rw [hd, len_data]; simp; omega
end Go.Proofs.Ytbhddhlklahaeaa
