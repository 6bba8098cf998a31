/- The document's group. -/
import Derived.Test.YtgpgbobmpdgfeaaDoorBsC
namespace Go.Proofs.YtgpgbobmpdgfeaaDoor
open Go.RowKit Go.Shelf

/-- What expanded answers. -/
def ExpdOK (f : Nat) (s : List UInt8) : Prop := ∀ w, Calls Tryd.prog 11 #[.string (bs s)] w fun e w' => ∃ v, e = .returned v ∧ w'.ownsRow w.heap.size 9 1 v ((textsD f s).take 201).length (strs ((textsD f s).take 201)) ∧ Below w.heap.size w w'
def midsD (f : Nat) : MidD → List (List UInt8)
  | .list ps => ps.flatMap (textsD f)
  | .row a b l => rowsD a b l
/-- What group answers. -/
def GrpV (f : Nat) (s : List UInt8) (n0 : Nat) (o : Option (List UInt8 × MidD × List UInt8)) (e : Ending) (w' : World) : Prop := match o with
  | none => e = .returned (.tuple #[.int .i64 (-1), .int .i64 (-1), .slice none 0 0])
  | some (ahead, m, behind) => ∃ (i j : Nat) (v : Value) (ml : List (List UInt8)), e = .returned (.tuple #[.int .i64 (i : Int), .int .i64 (j : Int), v]) ∧ ahead = s.take i ∧ behind = s.drop (j + 1) ∧ i ≤ j ∧ j < s.length ∧ Part 201 ml (midsD f m) ∧ ml ≠ [] ∧ ml.length ≤ 401 ∧ w'.ownsRow n0 9 1 v ml.length (strs ml)
theorem part_more {α : Type} {n : Nat} {x y z : List α} (h : Part n x y) (hn : n ≤ x.length) : Part n x (y ++ z) := by
  obtain ⟨u, rfl, _⟩ := h
  exact ⟨u ++ z, by rw [List.append_assoc], .inr hn⟩
theorem part_whole {α : Type} {n : Nat} {x y : List α} (h : Part n x y) (hn : x.length < n) : x = y := by
  obtain ⟨u, rfl, rfl | q⟩ := h
  · rw [List.append_nil]
  · omega
theorem part_push {α : Type} {n : Nat} {x y : List α} : Part n (x ++ y.take n) (x ++ y) := by
  obtain ⟨u, h, q⟩ := part_take n y
  refine ⟨u, ?_, ?_⟩
  · rw [List.append_assoc, ← h]
  · rcases q with q | q
    · exact .inl q
    · exact .inr (by rw [List.length_append]; omega)
theorem first_other (s : List UInt8) {k : Nat} {c : UInt8} {r : List (Nat × UInt8)} (h : ¬ c = 123) : firstFrom s ((k, c) :: r) = firstFrom s r := by rw [firstFrom, if_neg h]
theorem below_app {B n : Nat} {w wr w1 : World} {v : Value} {xs : List Value} (hB : Below B w wr) (hw : B ≤ w.heap.size) (hown : wr.ownsRow B 9 1 v n xs) (hg : wr.grownBy w1 v.ownBlock) : Below B w w1 := by
  have := hB.size
  exact hB.grown hg (by omega) (fun k e => (ownsRow_lt hown e).1)
theorem u22' : Tryd.prog.underlying 22 = some (.slice 9) := u22
set_option maxRecDepth 100000 in
set_option maxHeartbeats 8000000 in
theorem group_any (f : Nat) (s : List UInt8) (hs : s.length ≤ 1000000) (hE : ∀ p, p.length < s.length → ExpdOK f p) (w : World) :
    Calls Tryd.prog 14 #[.string (bs s)] w fun e w' => GrpV f s w.heap.size (firstD s) e w' ∧ Below w.heap.size w w' := by
  have hsz := bs_size s
  obtain ⟨i0, hi, hz0, hz1, hz2⟩ := info_parts Tryd.info9
  have main : ∀ (R : Ending → World → Prop), (∀ e w', GrpV f s w.heap.size (firstD s) e w' → Below w.heap.size w w' → R e w') → Calls Tryd.prog 14 #[.string (bs s)] w R := by
    intro R hR
    have HR := hide hR
    have HE := hide hE
    clear hR
    go_enter Tryd.func14, Tryd.ntmps14
    go_wp2_with fail
    refine (live_any s hs w).mono ?_
    rintro e w1 ⟨lv, rfl, hlv, hb1⟩
    have hform : ∃ g c, lv = .slice (some ⟨g, 0, none⟩) s.length c := by obtain ⟨g, c, e, _⟩ := hlv; exact ⟨g, c, e⟩
    obtain ⟨g, cp, rfl⟩ := hform
    have hgw := live_lt hlv
    have HLT := hide hgw
    clear hgw
    go_wp2
    go_loopw [6] (fun iv wr => ∃ i : Nat, iv = .int .i64 (i : Int) ∧ i ≤ s.length ∧ firstD s = firstFrom s (remS s i) ∧ Below w1.heap.size w1 wr) (fun iv _ => s.length - (intOf iv).toNat)
    case atStart => exact ⟨0, rfl, Nat.zero_le _, rfl, Below.refl _ _⟩
    case round =>
      obtain ⟨i, rfl, hil, hfst, hnx⟩ := hrel
      by_cases hlt : i < s.length
      · have hiI : (i : Int) < (s.length : Int) := by omega
        have hlv2 := live_below hlv hnx HLT.out
        have hcell : wr.cell? ⟨g, i, none⟩ = some (.bool (!esc s i)) := by
          obtain ⟨g', c', e, hbl⟩ := hlv2
          cases e
          exact live_cell hbl hlt
        obtain ⟨ch, hch⟩ : ∃ ch, s[i]'hlt = ch := ⟨_, rfl⟩
        have hbk : i < (bs s).size := by rw [hsz]; exact hlt
        have hgk : (bs s)[i]'hbk = ch := by rw [← hch]; rfl
        cases hek : esc s i with
        | true =>
          rw [hek] at hcell
          rw [(rem_esc hlt hek).1] at hfst
          have HF := hide hfst
          clear hfst hch hek hlv2
          go_wp2
          go_roundw
          case rel => exact ⟨i + 1, by simp, by omega, HF.out, hnx⟩
          case measure => simp [intOf]; omega
        | false =>
          rw [hek] at hcell
          by_cases h123 : ch = 123
          · have e1 : ((ch.toNat : Int) != 123) = false := by rw [h123]; rfl
            obtain ⟨hr, he1⟩ := rem_hit hlt hek (by rw [hch, h123]; rfl)
            rw [hr, hch, firstFrom, if_pos h123, enclosed_abs he1] at hfst
            have hsh := shut_any s hs (.slice (some ⟨g, 0, none⟩) s.length cp) wr hlv2 i hlt hek (hch.trans h123)
            cases hcl : closeD 0 (remS s (i + 1)) with
            | none =>
              rw [hcl] at hsh hfst
              simp only [closeI] at hsh
              have HF := hide hfst
              clear hfst hch hek hlv2 hr he1 h123 hcl
              go_wp2_with fail
              refine hsh.mono ?_
              rintro e' w' ⟨rfl, hw⟩
              rw [hw]
              clear hw hsh
              go_wp2
              go_roundw
              case rel => exact ⟨i + 1, by simp, by omega, HF.out, hnx⟩
              case measure => simp [intOf]; omega
            | some b =>
              rw [hcl] at hsh hfst
              simp only [closeI] at hsh
              obtain ⟨hab, hbs⟩ := close_lt hcl
              have hp := pieces20_any s hs (.slice (some ⟨g, 0, none⟩) s.length cp) wr hlv2 (i + 1) b hcl
              have hpa := pieces_abs he1 hcl
              rw [← hpa] at hp
              obtain ⟨inner, hin⟩ : ∃ inner, (s.drop (i + 1)).take (b - (i + 1)) = inner := ⟨_, rfl⟩
              have hil2 : inner.length + i + 1 ≤ s.length := by rw [← hin, List.length_take, List.length_drop]; omega
              rw [hin] at hp
              replace hfst : firstD s = match midD inner with
                | none => firstFrom s (remS s (i + 1))
                | some m => some (s.take i, m, s.drop (b + 1)) := by rw [hfst]; show (match midD ((s.drop (i + 1)).take (b - (i + 1))) with | none => _ | some m => _) = _; rw [hin]
              have hex : (bs s).extract (i + 1) b = bs inner := by rw [bs_slice, hin]
              have hcast : (((i + 1 : Nat) : Nat) : Int) = (i : Int) + 1 := by omega
              rw [hcast] at hp
              have hbI : ¬ ((b : Int) < 0) := by omega
              have k1 : (i : Int) + 1 ≤ (b : Int) := by omega
              have k2 : (b : Int) ≤ (s.length : Int) := by omega
              have k3 : (0 : Int) ≤ (i : Int) + 1 := by omega
              have HF := hide hfst
              clear hfst hch hek hlv2 hr h123 hpa hin hcast hcl he1
              go_wp2_with fail
              refine hsh.mono ?_
              rintro e' w' ⟨rfl, hw⟩
              rw [hw]
              clear hw hsh
              go_wp2_with fail
              refine hp.mono ?_
              rintro e' w2 ⟨pv, rfl, hrow, hb2⟩
              clear hp
              obtain ⟨pa, pc, rfl⟩ := ownsRow_form hrow
              have hr21 := row21_any inner (by omega) w2
              have hnx2 := hnx.trans (hb2.mono hnx.size)
              go_wp2_with fail
              refine hr21.mono ?_
              rintro e' w3 ⟨rfl, n3, hw3⟩
              rw [hw3]
              clear hw3 hr21
              obtain ⟨ps, hps⟩ : ∃ ps, piecesB inner = ps := ⟨_, rfl⟩
              rw [hps] at hrow
              have hb3 : Below w1.heap.size w1 (w2.drewN n3) := hnx2.trans ⟨rfl, rfl, rfl, Nat.le_refl _, fun _ _ => rfl⟩
              have hrow3 : (w2.drewN n3).ownsRow wr.heap.size 9 1 (.slice pa ps.length pc) ps.length (strs ps) := hrow
              have hpn : ps.length ≤ 1000001 := by
                rw [← hps]
                have := pieces_count inner
                omega
              have hw01 := hb1.size
              have hw1r := hnx.size
              obtain ⟨w4, hw4⟩ : ∃ w4, w2.drewN n3 = w4 := ⟨_, rfl⟩
              rw [hw4] at hb3 hrow3 ⊢
              rw [hps]
              clear hw4 hrow hnx2 hb2
              by_cases h2 : 1 < ps.length
              · have hm : midD inner = some (.list ps) := by rw [← hps]; exact if_pos (by rw [hps]; exact h2)
                have HF2 : Hid (firstD s = some (s.take i, .list ps, s.drop (b + 1))) := by
                  show firstD s = _
                  rw [HF.out, hm]
                have hI2 : ¬ ((ps.length : Int) < 2) := by omega
                have hpl : ∀ p ∈ ps, p.length < s.length := fun p hp => by
                  rw [← hps] at hp
                  have := cutAt_len inner _ 0 p hp
                  omega
                have HPL := hide (And.intro hpl hrow3)
                clear hpl hm hps HF
                have ho4 : ∃ a4 b4 l4 k4, rowV4 (rowD inner) = .tuple #[.int .i64 a4, .int .i64 b4, .bool l4, .bool k4] := by
                  cases rowD inner with
                  | none => exact ⟨_, _, _, _, rfl⟩
                  | some z => obtain ⟨x, y, z⟩ := z; exact ⟨_, _, _, _, rfl⟩
                obtain ⟨a4, b4, l4, k4, ho4⟩ := ho4
                rw [ho4]
                clear ho4
                obtain ⟨pg, rfl⟩ : ∃ pg, pa = some ⟨pg, 0, none⟩ := by
                  rcases hrow3.2 with ⟨q, e⟩ | ⟨pg, cap, cur, e, _⟩
                  · omega
                  · cases e; exact ⟨pg, rfl⟩
                have hpgw := (ownsRow_lt hrow3 (g := pg) rfl).2
                clear hrow3
                go_wp2
                go_loopw [14, 13] (fun kv ov wr' => ∃ (k : Nat) (dn : List (List UInt8)), kv = .int .i64 (k : Int) ∧ k ≤ ps.length ∧ wr'.ownsRow w4.heap.size 9 1 ov dn.length (strs dn) ∧ dn.length ≤ 401 ∧ Part 201 dn ((ps.take k).flatMap (textsD f)) ∧ (0 < k → dn ≠ []) ∧ Below w4.heap.size w4 wr') (fun kv _ _ => ps.length - (intOf kv).toNat)
                case atStart => exact ⟨0, [], rfl, Nat.zero_le _, World.ownsRow_nil _ _ _ _, by simp, ⟨[], by simp, .inl rfl⟩, fun h => absurd h (by omega), Below.refl _ _⟩
                case round =>
                  obtain ⟨k, dn, rfl, hk, hown, hdl, hpart, hdn, hnq⟩ := hrel
                  obtain ⟨oa, oc, rfl⟩ := ownsRow_form hown
                  have hsq := hnq.size
                  have leave : (k = ps.length ∨ 200 < dn.length) → GrpV f s w.heap.size (firstD s) (.returned (.tuple #[.int .i64 (i : Int), .int .i64 (b : Int), .slice oa dn.length oc])) wr ∧ Below w.heap.size w wr := by
                    intro hend
                    have hk0 : 0 < k ∨ 200 < dn.length := by omega
                    refine ⟨?_, hb1.trans ((hb3.mono hw01).trans (hnq.mono (by have := hb3.size; omega)))⟩
                    rw [HF2.out]
                    refine ⟨i, b, _, dn, rfl, rfl, rfl, by omega, hbs, ?_, ?_, hdl, owns_down hown (by have := hb3.size; omega)⟩
                    · show Part 201 dn (ps.flatMap (textsD f))
                      rcases hend with e | e
                      · rw [e, List.take_length] at hpart
                        exact hpart
                      · have := part_more (z := (ps.drop k).flatMap (textsD f)) hpart (by omega)
                        rw [← List.flatMap_append, List.take_append_drop] at this
                        exact this
                    · rcases hk0 with q | q
                      · exact hdn q
                      · intro e; rw [e] at q; simp at q
                  have HLV := hide leave
                  have HPD := hide (And.intro hpart hdn)
                  clear leave hpart hdn
                  by_cases hkl : k < ps.length
                  · have hkI : (k : Int) < (ps.length : Int) := by omega
                    by_cases hd200 : dn.length ≤ 200
                    · have hdI : (dn.length : Int) ≤ 200 := by omega
                      obtain ⟨p, hp⟩ : ∃ p, ps[k] = p := ⟨_, rfl⟩
                      have hpm : p ∈ ps := by rw [← hp]; exact List.getElem_mem hkl
                      obtain ⟨hpl, hrow3⟩ := HPL.out
                      have hcp : wr.cell? ⟨pg, k, none⟩ = some (.string (bs p)) := by
                        have hx := World.ownsRow.cells hrow3 (g := pg) rfl k (.string (bs p)) (by unfold strs; rw [List.getElem?_map, List.getElem?_eq_getElem hkl, hp]; rfl)
                        rw [show (⟨pg, 0, none⟩ : Addr).add k = ⟨pg, k, none⟩ by simp [Addr.add]; exact fun h => h.symm] at hx
                        exact (World.cell?_of_block (a := ⟨pg, k, none⟩) (hnq.block pg hpgw)).trans hx
                      have hex2 := HE.out p (hpl p hpm) wr
                      have htk : ps.take (k + 1) = ps.take k ++ [p] := by rw [List.take_succ_eq_append_getElem hkl, hp]
                      have HTK := hide htk
                      clear hpl hrow3 hp hpm htk
                      obtain ⟨T, hT⟩ : ∃ T, (textsD f p).take 201 = T := ⟨_, rfl⟩
                      have hTn : 0 < T.length ∧ T.length ≤ 201 := by
                        rw [← hT, List.length_take]
                        have := List.length_pos_iff.2 (texts_ne f p)
                        omega
                      rw [hT] at hex2
                      have HT := hide hT
                      clear hT
                      go_wp2_with fail
                      refine hex2.mono ?_
                      rintro e' w6 ⟨tv, rfl, hrow6, hb6⟩
                      obtain ⟨tg, tc, rfl⟩ : ∃ tg tc, tv = .slice (some ⟨tg, 0, none⟩) T.length tc := by
                        rcases hrow6.2 with ⟨q, e⟩ | ⟨tg, cap, cur, e, _⟩
                        · omega
                        · exact ⟨tg, cap, e⟩
                      have hown6 := ownsRow_block hown (fun g _ hlt => hb6.block g hlt)
                      have hnq6 := hnq.trans (hb6.mono hsq)
                      have hs6 := hnq6.size
                      have hcells : ∀ j u, (strs T)[j]? = some u → w6.cell? ((⟨tg, 0, none⟩ : Addr).add j) = some u := fun j u hj => World.ownsRow.cells hrow6 (g := tg) rfl j u hj
                      have hone : ∀ u ∈ strs T, u.oneCell' = true := fun u hu => by
                        unfold strs at hu
                        rw [List.mem_map] at hu
                        obtain ⟨x, _, rfl⟩ := hu
                        rfl
                      have hsl : (strs T).length = T.length * 1 := by unfold strs; simp
                      clear hex2 hown hnq hb6 hrow6 hcp
                      go_wp2_with (at_builtin; refine wpList_append_own _ rfl _ _ 22 rfl w4.heap.size 9 i0 (.string ⟨#[]⟩) 1 16 u22' hi hz0 hz1 hz2 rfl (by decide) _ _ _ rfl hown6 ⟨tg, 0, none⟩ T.length tc (strs T) rfl hsl hcells hone (by unfold maxLen; omega) (by omega) hs6 ?_; intro v' w7 hown' hgrow _)
                      have HB := below_app hnq6 (Nat.le_refl _) hown6 hgrow
                      go_roundw
                      case rel =>
                        obtain ⟨hpart, hdn⟩ := HPD.out
                        have hw := part_whole hpart (by omega)
                        refine ⟨k + 1, dn ++ T, by simp, by omega, ?_, by rw [List.length_append]; omega, ?_, fun _ e => ?_, HB⟩
                        · rw [List.length_append, show strs (dn ++ T) = strs dn ++ strs T from List.map_append]
                          exact hown'
                        · rw [HTK.out, List.flatMap_append, List.flatMap_singleton, hw, ← HT.out]
                          exact part_push
                        · have := congrArg List.length e
                          rw [List.length_append, List.length_nil] at this
                          omega
                      case measure => simp [intOf]; omega
                    · have hdI : ¬ ((dn.length : Int) ≤ 200) := by omega
                      go_wp2
                      obtain ⟨q1, q2⟩ := HLV.out (.inr (by omega))
                      exact bodyPost_ret (v := .tuple #[.int .i64 (i : Int), .int .i64 (b : Int), .slice oa dn.length oc]) (by simp [results, Tryd.results14, go_sem]) rfl (HR.out _ _ q1 q2)
                  · have hkI : ¬ ((k : Int) < (ps.length : Int)) := by omega
                    go_wp2
                    obtain ⟨q1, q2⟩ := HLV.out (.inl (by omega))
                    exact bodyPost_ret (v := .tuple #[.int .i64 (i : Int), .int .i64 (b : Int), .slice oa dn.length oc]) (by simp [results, Tryd.results14, go_sem]) rfl (HR.out _ _ q1 q2)
              · have hI2 : (ps.length : Int) < 2 := by omega
                have hm : midD inner = (rowD inner).map fun (a, b, l) => .row a b l := by
                  unfold midD
                  rw [hps, if_neg h2]
                cases ho : rowD inner with
                | none =>
                  rw [ho] at hm
                  have HF2 : Hid (firstD s = firstFrom s (remS s (i + 1))) := by
                    show firstD s = _
                    rw [HF.out, hm]
                    rfl
                  simp only [rowV4]
                  clear hm ho HF hps
                  go_wp2
                  go_roundw
                  case rel => exact ⟨i + 1, by simp, by omega, HF2.out, hb3⟩
                  case measure => simp [intOf]; omega
                | some z =>
                  obtain ⟨x, y, l⟩ := z
                  rw [ho] at hm
                  have HF2 : Hid (firstD s = some (s.take i, .row x y l, s.drop (b + 1))) := by
                    show firstD s = _
                    rw [HF.out, hm]
                    rfl
                  obtain ⟨bx, bY, bl⟩ := row_bound ho
                  simp only [rowV4]
                  have hr22 := row22_any x y l bl bx bY w4
                  clear hm ho HF hps
                  go_wp2_with fail
                  refine hr22.mono ?_
                  rintro e' w5 ⟨v5, rfl, hrow5, hb5⟩
                  obtain ⟨a5, c5, rfl⟩ := ownsRow_form hrow5
                  have HR5 := hide (And.intro hrow5 hb5)
                  clear hr22 hrow5 hb5
                  go_wp2
                  refine bodyPost_ret (v := .tuple #[.int .i64 (i : Int), .int .i64 (b : Int), .slice a5 ((rowsD x y l).take 201).length c5]) (by simp [results, Tryd.results14, go_sem]) rfl (HR.out _ _ ?_ ?_)
                  · obtain ⟨hrow5, hb5⟩ := HR5.out
                    rw [HF2.out]
                    refine ⟨i, b, _, (rowsD x y l).take 201, rfl, rfl, rfl, by omega, hbs, part_take 201 _, ?_, by rw [List.length_take]; omega, owns_down hrow5 (by have := hb3.size; omega)⟩
                    intro e
                    have := congrArg List.length e
                    rw [List.length_take, rows_count] at this
                    simp at this
                  · obtain ⟨hrow5, hb5⟩ := HR5.out
                    exact hb1.trans ((hb3.mono hw01).trans (hb5.mono (by have := hb3.size; omega)))
          · have e1 : ((ch.toNat : Int) != 123) = true := by
              have := nat_eq ch 123
              have h2 : (ch == 123) = false := by simpa using h123
              rw [h2] at this
              have h3 : ((ch.toNat : Int) == 123) = false := this
              rw [bne, h3]; rfl
            have HF : Hid (firstD s = firstFrom s (remS s (i + 1))) := by
              show firstD s = _
              cases hsg : isSign (s[i]'hlt) with
              | true => rw [(rem_hit hlt hek hsg).1, hch, first_other s h123] at hfst; exact hfst
              | false => rw [rem_miss hlt hek hsg] at hfst; exact hfst
            clear hfst hch hek hlv2 h123
            go_wp2
            go_roundw
            case rel => exact ⟨i + 1, by simp, by omega, HF.out, hnx⟩
            case measure => simp [intOf]; omega
      · have hiI : ¬ ((i : Int) < (s.length : Int)) := by omega
        rw [rem_end (by omega), firstFrom] at hfst
        have HF := hide hfst
        clear hfst
        go_wp2
        refine bodyPost_ret (v := .tuple #[.int .i64 (-1), .int .i64 (-1), .slice none 0 0]) (by simp [results, Tryd.results14, go_sem]) rfl (HR.out _ _ ?_ (hb1.trans (hnx.mono hb1.size)))
        rw [HF.out]
        exact rfl
  exact main _ (fun e w' h1 h2 => ⟨h1, h2⟩)
end Go.Proofs.YtgpgbobmpdgfeaaDoor
