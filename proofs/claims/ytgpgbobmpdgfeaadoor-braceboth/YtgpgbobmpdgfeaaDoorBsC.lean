/- The document's pieces. -/
import Derived.Test.YtgpgbobmpdgfeaaDoorBsB
namespace Go.Proofs.YtgpgbobmpdgfeaaDoor
open Go.RowKit Go.Shelf

theorem commas_none {r : List (Nat × UInt8)} {b : Nat} (hp : List.Pairwise (fun x y => x.1 < y.1) r) (hb : ∀ x ∈ r, b ≤ x.1) (h : closeD 0 r = some b) : commasC 0 r = [] := by
  cases r with
  | nil => rfl
  | cons x r =>
    obtain ⟨k, c⟩ := x
    rw [List.pairwise_cons] at hp
    have hkb := hb (k, c) (by simp)
    have no : ∀ m, closeD m r ≠ some b := fun m hm => by
      obtain ⟨r1, r2, e⟩ := close_mem r m b hm
      have := hp.1 (b, 125) (by rw [e]; simp)
      simp at this hkb
      omega
    rw [closeD] at h
    rw [commasC]
    split at h
    · exact absurd h (no _)
    · split at h
      · rename_i h1 h2
        rw [if_neg h1, if_pos h2, if_pos rfl]
      · exact absurd h (no _)
theorem rem_ge (s : List UInt8) (i : Nat) : ∀ x ∈ remS s i, i ≤ x.1 := fun _ hx => (signs_at _ _ _ _ hx).1
theorem rem_sorted (s : List UInt8) (i : Nat) : List.Pairwise (fun x y => x.1 < y.1) (remS s i) := signs_sorted _ _ _
/-- A jump over an inner pair. -/
theorem rem_jump {s : List UInt8} {k b : Nat} (h : closeD 1 (remS s (k + 1)) = some b) : ∃ e, closeD 0 (remS s (k + 1)) = some e ∧ k < e ∧ e < b ∧ closeD 0 (remS s (e + 1)) = some b ∧ commasC 1 (remS s (k + 1)) = commasC 0 (remS s (e + 1)) := by
  obtain ⟨e, r1, r2, h1, h2, h3, h4⟩ := close_split _ 0 b h
  obtain ⟨g1, _, _, _, _, g2⟩ := rem_behind s s.length (k + 1) (by omega) r1 r2 e 125 h1
  rw [← g2] at h3 h4
  have := (close_lt h3).1
  exact ⟨e, h2, by omega, by omega, h3, h4⟩
theorem live_below {W W' : World} {v : Value} {s : List UInt8} {B : Nat} (h : LiveR W v s) (hb : Below B W W') (hg : ∀ g, v.ownBlock = some g → g < B) : LiveR W' v s := by
  obtain ⟨g, c, rfl, hbl⟩ := h
  exact ⟨g, c, rfl, (hb.block g (hg g rfl)).trans hbl⟩
theorem live_lt {W : World} {v : Value} {s : List UInt8} (h : LiveR W v s) : ∀ g, v.ownBlock = some g → g < W.heap.size := by
  obtain ⟨g, c, rfl, hbl⟩ := h
  intro g' e
  have : g = g' := Option.some.inj e
  subst this
  exact (Array.getElem?_eq_some_iff.1 hbl).1
set_option maxRecDepth 100000 in
set_option maxHeartbeats 8000000 in
theorem pieces20_any (s : List UInt8) (hs : s.length ≤ 1000000) (v : Value) (w : World) (hv : LiveR w v s) (a b : Nat) (hcl : closeD 0 (remS s a) = some b) :
    Calls Tryd.prog 20 #[.string (bs s), v, .int .i64 (a : Int), .int .i64 (b : Int)] w fun e w' => ∃ v', e = .returned v' ∧ w'.ownsRow w.heap.size 9 1 v' (cutAbs s b a (commasC 0 (remS s a))).length (strs (cutAbs s b a (commasC 0 (remS s a)))) ∧ Below w.heap.size w w' := by
  have hsz := bs_size s
  obtain ⟨i0, hi, hz0, hz1, hz2⟩ := info_parts Tryd.info9
  obtain ⟨P, hP⟩ : ∃ P, cutAbs s b a (commasC 0 (remS s a)) = P := ⟨_, rfl⟩
  rw [hP]
  have hab := close_lt hcl
  have hvl := live_lt hv
  have hform : ∃ g c, v = .slice (some ⟨g, 0, none⟩) s.length c := by obtain ⟨g, c, e, _⟩ := hv; exact ⟨g, c, e⟩
  obtain ⟨g, c, rfl⟩ := hform
  have hgw := hvl g rfl
  have HV := hide hv
  have HVL := hide hvl
  clear hv hvl
  have main : ∀ (R : Ending → World → Prop), (∀ v' w', w'.ownsRow w.heap.size 9 1 v' P.length (strs P) → Below w.heap.size w w' → R (.returned v') w') → Calls Tryd.prog 20 #[.string (bs s), .slice (some ⟨g, 0, none⟩) s.length c, .int .i64 (a : Int), .int .i64 (b : Int)] w R := by
    intro R hR
    have HP := hide hP
    have HR := hide hR
    clear hP hR
    go_enter Tryd.func20, Tryd.ntmps20
    go_wp2
    go_loopw [11, 10, 9] (fun kv fv ov wr => ∃ (k m : Nat) (done : List (List UInt8)), kv = .int .i64 (k : Int) ∧ fv = .int .i64 (m : Int) ∧ m ≤ k ∧ k ≤ b ∧ done.length ≤ k ∧ closeD 0 (remS s k) = some b ∧ done ++ cutAbs s b m (commasC 0 (remS s k)) = P ∧ wr.ownsRow w.heap.size 9 1 ov done.length (strs done) ∧ Below w.heap.size w wr) (fun kv _ _ _ => b - (intOf kv).toNat)
    case atStart => exact ⟨a, a, [], rfl, rfl, Nat.le_refl _, hab.1, Nat.zero_le _, hcl, HP.out, World.ownsRow_nil _ _ _ _, Below.refl _ _⟩
    case round =>
      obtain ⟨k, m, done, rfl, rfl, hmk, hkb, hdk, hck, hcut, hown, hnx⟩ := hrel
      obtain ⟨va, vc, rfl⟩ := ownsRow_form hown
      have hs1 := hnx.size
      have hmI : (m : Int) ≤ (k : Int) := by omega
      by_cases hlt : k < b
      · have hkI : (k : Int) < (b : Int) := by omega
        have hks : k < s.length := by omega
        have hlv := live_below HV.out hnx HVL.out
        have hcell : wr.cell? ⟨g, k, none⟩ = some (.bool (!esc s k)) := by
          obtain ⟨g', c', e, hbl⟩ := hlv
          cases e
          exact live_cell hbl hks
        obtain ⟨ch, hch⟩ : ∃ ch, s[k] = ch := ⟨_, rfl⟩
        have hbk : k < (bs s).size := by rw [hsz]; exact hks
        have hgk : (bs s)[k]'hbk = ch := by rw [← hch]; rfl
        cases hek : esc s k with
        | true =>
          rw [hek] at hcell
          have hre := (rem_esc hks hek).1
          rw [hre] at hck hcut
          have HC := hide (And.intro hck hcut)
          clear hck hcut hch hek hre hlv
          go_wp2
          go_roundw
          case rel =>
            obtain ⟨hck, hcut⟩ := HC.out
            exact ⟨k + 1, m, done, by simp, rfl, by omega, by omega, by omega, hck, hcut, hown, hnx⟩
          case measure => simp [intOf]; omega
        | false =>
          rw [hek] at hcell
          by_cases h123 : ch = 123
          · have e1 : ((ch.toNat : Int) == 123) = true := by rw [h123]; rfl
            have hr := (rem_hit hks hek (by rw [hch, h123]; rfl)).1
            rw [hr, hch, closeD, if_pos h123] at hck
            rw [hr, hch, commasC, if_pos h123] at hcut
            obtain ⟨e, j1, j2, j3, j4, j5⟩ := rem_jump hck
            have hsh := shut_any s hs (.slice (some ⟨g, 0, none⟩) s.length c) wr hlv k hks hek (hch.trans h123)
            rw [j1] at hsh
            rw [Nat.zero_add, j5] at hcut
            simp only [closeI] at hsh
            have j3I : (e : Int) < (b : Int) := by omega
            have j0I : (0 : Int) ≤ (e : Int) := by omega
            have HC := hide (And.intro j4 hcut)
            clear hck hcut hch hek hr hlv h123 j1 j4 j5
            go_wp2_with fail
            refine hsh.mono ?_
            rintro e' w' ⟨rfl, hw⟩
            rw [hw]
            clear hw hsh
            go_wp2
            go_roundw
            case rel =>
              obtain ⟨hck, hcut⟩ := HC.out
              exact ⟨e + 1, m, done, by simp, rfl, by omega, by omega, by omega, hck, hcut, hown, hnx⟩
            case measure => simp [intOf]; omega
          · have e1 : ((ch.toNat : Int) == 123) = false := by
              have := nat_eq ch 123
              have h2 : (ch == 123) = false := by simpa using h123
              rw [h2] at this
              exact this
            by_cases h44 : ch = 44
            · have e2 : ((ch.toNat : Int) == 44) = true := by rw [h44]; rfl
              have h125 : ¬ ch = 125 := by rw [h44]; decide
              have hr := (rem_hit hks hek (by rw [hch, h44]; rfl)).1
              rw [hr, hch, closeD, if_neg h123, if_neg h125] at hck
              rw [hr, hch, commasC, if_neg h123, if_neg h125, if_pos rfl, cutAbs] at hcut
              have hkl : (k : Int) ≤ (s.length : Int) := by omega
              have hex := bs_slice s m k
              have HC := hide (And.intro hck hcut)
              clear hck hcut hch hek hr hlv h123 h44 h125
              go_wp2_with (at_builtin; refine wpList_append_own _ rfl _ _ 22 rfl w.heap.size 9 i0 (.string ⟨#[]⟩) 1 16 und22 hi hz0 hz1 hz2 rfl (by decide) _ _ _ rfl (hown.alloc _) ⟨wr.heap.size, 0, none⟩ 1 1 [.string (bs ((s.drop m).take (k - m)))] rfl rfl (cell_one_new _ _ _) (by simp [Value.oneCell']) (by unfold maxLen; omega) (by omega) (by simp; omega) ?_; intro v' w2 hown' hgrow _)
              have HB := below_push hnx (Nat.le_refl _) hown hgrow
              go_roundw
              case rel =>
                obtain ⟨hck, hcut⟩ := HC.out
                refine ⟨k + 1, k + 1, done ++ [(s.drop m).take (k - m)], by simp, by simp, Nat.le_refl _, by omega, by rw [List.length_append, List.length_singleton]; omega, hck, by rw [List.append_assoc]; exact hcut, row_push hown' rfl, HB⟩
              case measure => simp [intOf]; omega
            · have e2 : ((ch.toNat : Int) == 44) = false := by
                have := nat_eq ch 44
                have h2 : (ch == 44) = false := by simpa using h44
                rw [h2] at this
                exact this
              have HC : Hid (closeD 0 (remS s (k + 1)) = some b ∧ done ++ cutAbs s b m (commasC 0 (remS s (k + 1))) = P) := by
                show _ ∧ _
                cases hsg : isSign (s[k]'hks) with
                | true =>
                  have h125 : ch = 125 := by
                    rw [hch] at hsg
                    unfold isSign at hsg
                    simp [h123, h44] at hsg
                    exact hsg
                  rw [(rem_hit hks hek hsg).1, hch, closeD, if_neg h123, if_pos h125, if_pos rfl] at hck
                  cases hck
                  omega
                | false =>
                  rw [rem_miss hks hek hsg] at hck hcut
                  exact ⟨hck, hcut⟩
              clear hck hcut hch hek hlv h123 h44
              go_wp2
              go_roundw
              case rel =>
                obtain ⟨hck, hcut⟩ := HC.out
                exact ⟨k + 1, m, done, by simp, rfl, by omega, by omega, by omega, hck, hcut, hown, hnx⟩
              case measure => simp [intOf]; omega
      · have hkI : ¬ ((k : Int) < (b : Int)) := by omega
        have hkb2 : k = b := by omega
        rw [hkb2] at hck hcut hmI
        rw [commas_none (rem_sorted s b) (rem_ge s b) hck, cutAbs] at hcut
        have hbl : (b : Int) ≤ (s.length : Int) := by omega
        have hex := bs_slice s m b
        have HC := hide hcut
        have HK := hide hkb2
        clear hck hcut hkb2
        go_wp2_with (at_builtin; refine wpList_append_own _ rfl _ _ 22 rfl w.heap.size 9 i0 (.string ⟨#[]⟩) 1 16 und22 hi hz0 hz1 hz2 rfl (by decide) _ _ _ rfl (hown.alloc _) ⟨wr.heap.size, 0, none⟩ 1 1 [.string (bs ((s.drop m).take (b - m)))] rfl rfl (cell_one_new _ _ _) (by simp [Value.oneCell']) (by unfold maxLen; omega) (by omega) (by simp; omega) ?_; intro v' w2 hown' hgrow _)
        have HB := below_push hnx (Nat.le_refl _) hown hgrow
        refine HR.out _ _ ?_ HB
        rw [← HC.out]
        exact row_push hown' rfl
  exact main _ (fun v w' h1 h2 => ⟨v, rfl, h1, h2⟩)
end Go.Proofs.YtgpgbobmpdgfeaaDoor
