/- The signs of a text, handed out one by one. -/
import Derived.Test.YtgpgbobmpdgfeaaDoorChecked
import Derived.Test.YtgpgbobmpdgfeaaDoorBrE
import Derived.Test.YtgpgbobmpdgfeaaDoorBrF
import Derived.TacticsInMore
import Derived.LoopNIn
import Derived.LoopIn
import Derived.WalkKit
import Derived.OwnWalkIn
import Derived.Shelf.Abstract
namespace Go.Proofs.YtgpgbobmpdgfeaaDoor
open Go.RowKit Go.Shelf
attribute [local go_sem] Oper.semAt_some

theorem hide {p : Prop} (h : p) : Hid p := h
theorem unhide {p : Prop} (h : Hid p) : p := h
def bs (l : List UInt8) : ByteArray := ⟨l.toArray⟩
theorem bs_size (l : List UInt8) : (bs l).size = l.length := by
  show l.toArray.size = _
  simp
theorem signs_true (k : Nat) (l : List UInt8) : signsD true k l = signsD false (k + 1) (l.drop 1) := by
  cases l <;> simp [signsD]
theorem drop_cons {s : List UInt8} {k : Nat} (h : k < s.length) : s.drop k = s[k] :: s.drop (k + 1) := List.drop_eq_getElem_cons h
theorem signs_esc {s : List UInt8} {k : Nat} (h : k < s.length) (hc : s[k] = 92) : signsD false k (s.drop k) = signsD false (k + 2) (s.drop (k + 2)) := by
  rw [drop_cons h, signsD, if_pos hc, signs_true, List.drop_drop]
theorem signs_hit {s : List UInt8} {k : Nat} (h : k < s.length) (hc : s[k] ≠ 92) (hs : isSign s[k] = true) : signsD false k (s.drop k) = (k, s[k]) :: signsD false (k + 1) (s.drop (k + 1)) := by
  rw [drop_cons h, signsD, if_neg hc, if_pos hs]
theorem signs_miss {s : List UInt8} {k : Nat} (h : k < s.length) (hc : s[k] ≠ 92) (hs : isSign s[k] = false) : signsD false k (s.drop k) = signsD false (k + 1) (s.drop (k + 1)) := by
  rw [drop_cons h, signsD, if_neg hc, hs]
  simp
theorem byte_cases (c : UInt8) : (((c.toNat : Int) == 92) = true ∧ c = 92) ∨ (((c.toNat : Int) == 92) = false ∧ c ≠ 92 ∧ isSign c = true ∧ (((c.toNat : Int) == 123) = true ∨ (((c.toNat : Int) == 123) = false ∧ ((c.toNat : Int) == 125) = true) ∨ (((c.toNat : Int) == 123) = false ∧ ((c.toNat : Int) == 125) = false ∧ ((c.toNat : Int) == 44) = true))) ∨
    (((c.toNat : Int) == 92) = false ∧ ((c.toNat : Int) == 123) = false ∧ ((c.toNat : Int) == 125) = false ∧ ((c.toNat : Int) == 44) = false ∧ c ≠ 92 ∧ isSign c = false) := by
  have h : ∀ n : UInt8, ((c.toNat : Int) == (n.toNat : Int)) = (c == n) := fun n => by
    by_cases e : c = n
    · subst e; simp
    · have : c.toNat ≠ n.toNat := fun q => e (UInt8.toNat_inj.1 q)
      have h1 : (c == n) = false := by simpa using e
      rw [h1]; simp; omega
  have h1 := h 92
  have h2 := h 123
  have h3 := h 125
  have h4 := h 44
  simp only [show ((92 : UInt8).toNat : Int) = 92 from rfl, show ((123 : UInt8).toNat : Int) = 123 from rfl, show ((125 : UInt8).toNat : Int) = 125 from rfl, show ((44 : UInt8).toNat : Int) = 44 from rfl] at h1 h2 h3 h4
  rw [h1, h2, h3, h4]
  unfold isSign
  by_cases a : c = 92
  · left; simp [a]
  · right
    have a1 : (c == 92) = false := by simpa using a
    by_cases b1 : c = 123
    · left; simp [b1]
    · by_cases b2 : c = 125
      · left; simp [b2]
      · by_cases b3 : c = 44
        · left; simp [b3]
        · right; simp [a, b1, b2, b3]
def encSign (x : Nat × UInt8) : Array Value := #[.int .i64 (x.1 : Int), .int .u8 (x.2.toNat : Int)]
set_option maxRecDepth 100000 in
set_option maxHeartbeats 2000000 in
theorem signs_hands (b : Nat) (s : List UInt8) (hs : s.length ≤ 1000000) : Hands Tryd.prog 23 #[.pointer (some ⟨b, 0, none⟩)] encSign (signsD false 0 s) (fun C W => Boxed W b 9 (.string (bs s)) ∧ ¬ C b) := by
  intro l J Jx C W hJ hJx hY hRd h0
  obtain ⟨hb, hCb⟩ := hRd
  refine callsIn_of_wp Tryd.func23 rfl trivial ?_ rfl
  simp only [Tryd.ntmps23, List.size_toArray, List.length_cons, List.length_nil, Nat.reduceAdd, Nat.reduceSub, Array.replicate_succ, Array.replicate_zero, List.push_toArray, List.append_toArray, List.nil_append, List.cons_append]
  gi_wp2
  gi_loopw [3] (fun kv wr => ∃ (k : Nat) (pre : List (Nat × UInt8)) (C : Nat → Prop), kv = .int .i64 (k : Int) ∧ k ≤ s.length + 1 ∧ J pre C wr ∧ Boxed wr b 9 (.string (bs s)) ∧ ¬ C b ∧ pre ++ signsD false k (s.drop k) = signsD false 0 s) (fun kv _ => s.length + 2 - (intOf kv).toNat)
  case atStart => exact ⟨0, [], C, rfl, Nat.zero_le _, h0, hb, hCb, by simp⟩
  case round =>
    obtain ⟨k, pre, C, rfl, hk, hJ1, hb1, hC1, hpre⟩ := hrel
    have c1 := hb1.cell
    have hsz := bs_size s
    by_cases hlt : k < s.length
    · have hI : (k : Int) < (s.length : Int) := by omega
      obtain ⟨c, hc⟩ : ∃ c, s[k] = c := ⟨_, rfl⟩
      have hbk : k < (bs s).size := by rw [hsz]; exact hlt
      have hg : (bs s)[k]'hbk = c := by rw [← hc]; rfl
      rcases byte_cases c with ⟨e1, hc1⟩ | ⟨e1, hc1, hc2, hcs⟩ | ⟨e1, e2, e3, e4, hc1, hc2⟩
      · have hnx := signs_esc hlt (hc.trans hc1)
        gi_wp2
        case roundEnd =>
          refine ⟨⟨k + 2, pre, C, by simp; omega, by omega, hJ1, hb1, hC1, by rw [← hpre, hnx]⟩, ?_⟩
          simp [intOf]; omega
      · have hnx := signs_hit hlt (by rw [hc]; exact hc1) (by rw [hc]; exact hc2)
        rw [hc] at hnx
        rw [hnx] at hpre
        obtain ⟨fn, tmps, assign, body, hy, hR⟩ := hY pre (k, c) C wr ⟨_, by rw [List.append_assoc]; exact hpre⟩ hJ1
        have hy : (Instr.yield l #[.int .i64 (k : Int), .int .u8 (c.toNat : Int)]).run Tryd.prog wr = .ok (.round l fn tmps assign body) wr := hy
        have HPRE := hide hpre
        clear hnx hpre
        rcases hcs with e2 | ⟨e2, e3⟩ | ⟨e2, e3, e4⟩
        all_goals
          gi_wp2_with (refine ⟨trivial, ?_⟩)
          refine ⟨rfl, hR.mono ?_⟩
          rintro e W3 ⟨C', ht, (⟨rfl, hj⟩ | ⟨rfl, hj⟩)⟩
          · have hC2 : ¬ C' b := fun q => by
              rcases ht.new b q with h | h
              · exact hC1 h
              · have := hb1.lt
                omega
            have hb2 : Boxed W3 b 9 (.string (bs s)) := (ht.block b hb1.lt hC1).trans hb1
            clear ht
            gi_wp2
            case roundEnd =>
              refine ⟨⟨k + 1, pre ++ [(k, c)], C', by simp, by omega, hj, hb2, hC2, by rw [List.append_assoc]; exact HPRE.out⟩, ?_⟩
              simp [intOf]; omega
          · clear ht
            gi_wp2
            exact bodyPost_ret (results_none rfl _ _ _) rfl ⟨⟨_, rfl⟩, C', .inr hj⟩
      · have hnx := signs_miss hlt (by rw [hc]; exact hc1) (by rw [hc]; exact hc2)
        gi_wp2
        case roundEnd =>
          refine ⟨⟨k + 1, pre, C, by simp, by omega, hJ1, hb1, hC1, by rw [← hpre, hnx]⟩, ?_⟩
          simp [intOf]; omega
    · have hI : ¬ ((k : Int) < (s.length : Int)) := by omega
      have hd : s.drop k = [] := List.drop_eq_nil_of_le (by omega)
      rw [hd, signsD, List.append_nil] at hpre
      rw [hpre] at hJ1
      gi_wp2
      go_end0
      exact ⟨⟨_, rfl⟩, C, .inl hJ1⟩
end Go.Proofs.YtgpgbobmpdgfeaaDoor
