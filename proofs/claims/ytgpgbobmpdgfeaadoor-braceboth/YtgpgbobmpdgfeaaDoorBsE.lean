/- The document's expanded. -/
import Derived.Test.YtgpgbobmpdgfeaaDoorBsD
import Derived.Test.YtgpgbobmpdgfeaaDoorBrE
import Derived.TacticsInMore
import Derived.LoopNIn
import Derived.LoopIn
namespace Go.Proofs.YtgpgbobmpdgfeaaDoor
open Go.RowKit Go.Shelf

theorem take_small {α : Type} {x : List α} {n : Nat} (h : (x.take (n + 1)).length ≤ n) : x.take (n + 1) = x := by
  rw [List.length_take] at h
  exact List.take_of_length_le (by omega)
def prodX (ahead : List UInt8) (ml rl : List (List UInt8)) (k j : Nat) : List (List UInt8) := (ml.take k).flatMap (restF ahead rl) ++ (restF ahead rl (ml.getD k [])).take j
theorem prodX_zero (ahead : List UInt8) (ml rl : List (List UInt8)) (k : Nat) : prodX ahead ml rl k 0 = (ml.take k).flatMap (restF ahead rl) := by unfold prodX; simp
theorem prodX_next {ahead : List UInt8} {ml rl : List (List UInt8)} {k j : Nat} {one r : List UInt8} (h1 : ml[k]? = some one) (h2 : rl[j]? = some r) : prodX ahead ml rl k (j + 1) = prodX ahead ml rl k j ++ [ahead ++ one ++ r] := by
  unfold prodX
  have hj := (List.getElem?_eq_some_iff.1 h2).1
  rw [List.append_assoc, List.take_succ_eq_append_getElem (by unfold restF; rw [List.length_map]; exact hj)]
  congr 3
  unfold restF
  rw [List.getElem_map, (List.getElem?_eq_some_iff.1 h2).2, List.getD_eq_getElem?_getD, h1]
  rfl
theorem prodX_row {ahead : List UInt8} {ml rl : List (List UInt8)} {k : Nat} {one : List UInt8} (h1 : ml[k]? = some one) : prodX ahead ml rl k rl.length = (ml.take (k + 1)).flatMap (restF ahead rl) := by
  unfold prodX
  have hk := (List.getElem?_eq_some_iff.1 h1).1
  have hl : (restF ahead rl one).length ≤ rl.length := by unfold restF; rw [List.length_map]; exact Nat.le_refl _
  rw [List.take_succ_eq_append_getElem hk, List.flatMap_append, List.flatMap_singleton, (List.getElem?_eq_some_iff.1 h1).2, List.getD_eq_getElem?_getD, h1]
  show _ ++ (restF ahead rl one).take rl.length = _
  rw [List.take_of_length_le hl]
theorem prodX_pre {ahead : List UInt8} {ml rl : List (List UInt8)} {k j : Nat} {one : List UInt8} (h1 : ml[k]? = some one) (hn : 201 ≤ (prodX ahead ml rl k j).length) : ((ml.take (k + 1)).flatMap (restF ahead rl)).take 201 = (prodX ahead ml rl k j).take 201 := by
  rw [← prodX_row h1]
  have : prodX ahead ml rl k rl.length = prodX ahead ml rl k j ++ (restF ahead rl (ml.getD k [])).drop j := by
    unfold prodX
    have hl : (restF ahead rl (ml.getD k [])).length ≤ rl.length := by unfold restF; rw [List.length_map]; exact Nat.le_refl _
    rw [List.append_assoc, List.take_append_drop, List.take_of_length_le hl]
  rw [this, List.take_append_of_le_length hn]
/-- The rows of the region that lays one text more, in whatever order. -/
def ExpR (s : List UInt8) (i k j mg mn mc rg rn rc : Nat) (one r : List UInt8) (ov : Value) (R : Value → World → Prop) (mk : Value → Value → Value → Value → Value → Value → Value → Value → Value → Value → Value → Value → Value → Value → Value → Value → Value → Array Value) (W0 : World) (listed : Array Bool) (a : Act) (w : World) : Prop :=
  ∃ x7 x42 x43 x44 x45 x46 x47 x48 x49 x50 x51 x52 x53 x54 x55 x56 x57, a = ⟨mk x7 x42 x43 x44 x45 x46 x47 x48 x49 x50 x51 x52 x53 x54 x55 x56 x57, []⟩ ∧ (fl listed 16 = false → x7 = ov) ∧ (fl listed 0 = true → x42 = ov) ∧ (fl listed 1 = true → x43 = .string (bs s)) ∧ (fl listed 2 = true → x44 = .int .i64 (i : Int)) ∧ (fl listed 3 = true → x45 = .string (bs (s.take i))) ∧ (fl listed 4 = true → x46 = .slice (some ⟨mg, 0, none⟩) mn mc) ∧ (fl listed 5 = true → x47 = .int .i64 (k : Int)) ∧ (fl listed 6 = true → x48 = .pointer (some ⟨mg, k, none⟩)) ∧ (fl listed 7 = true → x49 = .string (bs one)) ∧ (fl listed 8 = true → x50 = .string (bs (s.take i ++ one))) ∧ (fl listed 9 = true → x51 = .slice (some ⟨rg, 0, none⟩) rn rc) ∧ (fl listed 10 = true → x52 = .int .i64 (j : Int)) ∧ (fl listed 11 = true → x53 = .pointer (some ⟨rg, j, none⟩)) ∧ (fl listed 12 = true → x54 = .string (bs r)) ∧ (fl listed 13 = true → x55 = .string (bs (s.take i ++ one ++ r))) ∧ (fl listed 14 = true → x56 = .slice (some ⟨W0.heap.size, 0, none⟩) 1 1) ∧
    ((fl listed 14 = false ∧ w = W0) ∨ (fl listed 14 = true ∧ fl listed 15 = false ∧ w = W0.alloc (.cells #[.string (bs (s.take i ++ one ++ r))] 9)) ∨ (fl listed 15 = true ∧ ∃ v', R v' w ∧ x57 = v' ∧ (fl listed 16 = true → x7 = v')))
set_option maxRecDepth 100000 in
set_option maxHeartbeats 2000000 in
theorem expd_none (f : Nat) (s : List UInt8) (hs : s.length ≤ 1000000) (hf : firstD s = none) (hE : ∀ p, p.length < s.length → ExpdOK f p) (w : World) :
    Calls Tryd.prog 11 #[.string (bs s)] w fun e w' => ∃ v, e = .returned v ∧ w'.ownsRow w.heap.size 9 1 v 1 (strs [s]) ∧ Below w.heap.size w w' := by
  have hg := group_any f s hs hE w
  rw [hf] at hg
  clear hE hf
  go_enter Tryd.func11, Tryd.ntmps11
  go_wp2_with fail
  refine hg.mono ?_
  rintro e w1 ⟨he, hb1⟩
  have he : e = .returned (.tuple #[.int .i64 (-1), .int .i64 (-1), .slice none 0 0]) := he
  rw [he]
  clear he hg
  go_wp2
  go_ret
  refine ⟨_, rfl, ⟨rfl, .inr ⟨w1.heap.size, 1, #[.string (bs s)], rfl, hb1.size, World.alloc_heap_new _ _, Nat.le_refl _, by unfold maxLen; decide, rfl, rfl⟩⟩, hb1.trans ((Below.refl _ _).alloc hb1.size _)⟩
set_option maxRecDepth 100000 in
set_option maxHeartbeats 8000000 in
theorem expd_some (f : Nat) (s ahead behind : List UInt8) (m : MidD) (hs : s.length ≤ 1000000) (hf : firstD s = some (ahead, m, behind)) (hE : ∀ p, p.length < s.length → ExpdOK f p)
    (hmb : ∀ x ∈ midsD f m, x.length ≤ 1000000000) (hrb : ∀ x ∈ textsD f behind, x.length ≤ 1000000000) (w : World) :
    Calls Tryd.prog 11 #[.string (bs s)] w fun e w' => ∃ v, e = .returned v ∧ w'.ownsRow w.heap.size 9 1 v (((midsD f m).flatMap (restF ahead (textsD f behind))).take 201).length (strs (((midsD f m).flatMap (restF ahead (textsD f behind))).take 201)) ∧ Below w.heap.size w w' := by
  have hszs := bs_size s
  obtain ⟨fin, hfi⟩ : ∃ fin, ((midsD f m).flatMap (restF ahead (textsD f behind))).take 201 = fin := ⟨_, rfl⟩
  rw [hfi]
  obtain ⟨i0, hi, hz0, hz1, hz2⟩ := info_parts Tryd.info9
  have hg := group_any f s hs hE w
  rw [hf] at hg
  refine (callsIn_wide (n := 0)).1 ?_
  refine callsIn_of_wp Tryd.func11 rfl trivial ?_ rfl
  simp only [Tryd.ntmps11, List.size_toArray, List.length_cons, List.length_nil, Nat.reduceAdd, Nat.reduceSub, Array.replicate_succ, Array.replicate_zero, List.push_toArray, List.append_toArray, List.nil_append, List.cons_append]
  gi_wp2_with fail
  refine ⟨trivial, rfl, (callsIn_wide.2 hg).mono ?_⟩
  rintro e w1 ⟨⟨i, e2, mv, ml, he, rfl, hbe, hie, hes, hpart, hmn, hml, hrow⟩, hb1⟩
  rw [he]
  clear he hg
  have hbl : behind.length < s.length := by rw [hbe, List.length_drop]; omega
  have hex := hE behind hbl w1
  have hexs : (bs s).extract (e2 + 1) s.length = bs behind := by rw [bs_drop _ _ _ (Nat.le_refl _), hbe]
  obtain ⟨rl, hrl⟩ : ∃ rl, (textsD f behind).take 201 = rl := ⟨_, rfl⟩
  rw [hrl] at hex
  have hrn : 0 < rl.length ∧ rl.length ≤ 201 := by
    rw [← hrl, List.length_take]
    have := List.length_pos_iff.2 (texts_ne f behind)
    omega
  have hmn2 : 0 < ml.length := List.length_pos_iff.2 hmn
  obtain ⟨mg, mc, rfl⟩ : ∃ mg mc, mv = .slice (some ⟨mg, 0, none⟩) ml.length mc := by
    rcases hrow.2 with ⟨q, e⟩ | ⟨mg, cap, cur, e, _⟩
    · omega
    · exact ⟨mg, cap, e⟩
  have hfin : fin = (ml.flatMap (restF (s.take i) rl)).take 201 := by
    have := part_prod (n := 201) (m := midsD f m) (m' := ml) (r := textsD f behind) (r' := rl) (fun one r => s.take i ++ one ++ r) hmn (texts_ne f behind) hpart (by rw [← hrl]; exact part_take 201 _)
    exact hfi.symm.trans this.symm
  have hmb2 : ∀ x ∈ ml, x.length ≤ 1000000000 := fun x hx => hmb x (by obtain ⟨z, hz, _⟩ := hpart; rw [hz]; simp [hx])
  have hrb2 : ∀ x ∈ rl, x.length ≤ 1000000000 := fun x hx => hrb x (by rw [← hrl] at hx; exact List.mem_of_mem_take hx)
  have hi0 : ¬ ((i : Int) < 0) := by omega
  have q1 : (e2 : Int) + 1 ≤ (s.length : Int) := by omega
  have q2 : (0 : Int) ≤ (e2 : Int) + 1 := by omega
  have HFIN := hide (And.intro hfin (And.intro hmb2 hrb2))
  clear hfin hfi hmb hrb hmb2 hrb2 hpart hmn hrl hf hE hbe
  gi_wp2_with fail
  refine ⟨trivial, rfl, (callsIn_wide.2 hex).mono ?_⟩
  rintro e w3 ⟨rv, rfl, hrow3, hb3⟩
  clear hex hexs
  obtain ⟨rg, rc, rfl⟩ : ∃ rg rc, rv = .slice (some ⟨rg, 0, none⟩) rl.length rc := by
    rcases hrow3.2 with ⟨q, e⟩ | ⟨mg, cap, cur, e, _⟩
    · omega
    · exact ⟨mg, cap, e⟩
  have hrow1 := ownsRow_block hrow (fun g _ hlt => hb3.block g hlt)
  have hmgw := (ownsRow_lt hrow1 (g := mg) rfl).2
  have hrgw := (ownsRow_lt hrow3 (g := rg) rfl).2
  have hs01 := hb1.size
  have hs13 := hb3.size
  have HROW := hide (And.intro hrow1 hrow3)
  clear hrow hrow1 hrow3
  obtain ⟨n3, hn3⟩ : ∃ n3, w3.heap.size = n3 := ⟨_, rfl⟩
  gi_wp2
  gi_loopw [8, 7] (fun kv ov wr => ∃ k : Nat, kv = .int .i64 (k : Int) ∧ k ≤ ml.length ∧ wr.ownsRow n3 9 1 ov (((ml.take k).flatMap (restF (s.take i) rl)).take 201).length (strs (((ml.take k).flatMap (restF (s.take i) rl)).take 201)) ∧ Below n3 w3 wr) (fun kv _ _ => ml.length - (intOf kv).toNat)
  case atStart => exact ⟨0, rfl, Nat.zero_le _, World.ownsRow_nil _ _ _ _, Below.refl _ _⟩
  case round =>
    obtain ⟨k, rfl, hk, hown, hnx⟩ := hrel
    by_cases hkl : k < ml.length
    · have hkI : (k : Int) < (ml.length : Int) := by omega
      obtain ⟨one, hone⟩ : ∃ one, ml[k]? = some one := ⟨_, List.getElem?_eq_getElem hkl⟩
      have HON := hide hone
      have h1b := HFIN.out.2.1 one (List.mem_of_getElem? hone)
      clear hone
      gi_wp2
      gi_loopw [9, 7] (fun jv ov wr' => ∃ (j : Nat) (dn : List (List UInt8)), jv = .int .i64 (j : Int) ∧ j ≤ rl.length ∧ dn = (prodX (s.take i) ml rl k j).take 201 ∧ wr'.ownsRow n3 9 1 ov dn.length (strs dn) ∧ Below n3 w3 wr') (fun jv _ _ => rl.length - (intOf jv).toNat)
      case atStart => exact ⟨0, _, rfl, Nat.zero_le _, rfl, by rw [prodX_zero]; exact hown, hnx⟩
      case round =>
        obtain ⟨j, dn, rfl, hj, hdn, hown2, hnq⟩ := hrel
        obtain ⟨oa, oc, rfl⟩ := ownsRow_form hown2
        have hd201 : dn.length ≤ 201 := by rw [hdn, List.length_take]; omega
        have HDN := hide hdn
        clear hdn
        by_cases hjl : j < rl.length
        · have hjI : (j : Int) < (rl.length : Int) := by omega
          by_cases hd2 : dn.length ≤ 200
          · have hdI : (dn.length : Int) ≤ 200 := by omega
            gi_wp2
            obtain ⟨r, hr⟩ : ∃ r, rl[j]? = some r := ⟨_, List.getElem?_eq_getElem hjl⟩
            have HRJ := hide hr
            have h2b := HFIN.out.2.2 r (List.mem_of_getElem? hr)
            clear hr
            have cm : wr.drew.cell? ⟨mg, k, none⟩ = some (.string (bs one)) := by
              have hx := World.ownsRow.cells HROW.out.1 (g := mg) rfl k (.string (bs one)) (by unfold strs; rw [List.getElem?_map, HON.out]; rfl)
              rw [show (⟨mg, 0, none⟩ : Addr).add k = ⟨mg, k, none⟩ by simp [Addr.add]; exact fun h => h.symm] at hx
              exact (World.cell?_of_block (a := ⟨mg, k, none⟩) (hnq.block mg (by omega))).trans hx
            have cr : wr.drew.cell? ⟨rg, j, none⟩ = some (.string (bs r)) := by
              have hx := World.ownsRow.cells HROW.out.2 (g := rg) rfl j (.string (bs r)) (by unfold strs; rw [List.getElem?_map, HRJ.out]; rfl)
              rw [show (⟨rg, 0, none⟩ : Addr).add j = ⟨rg, j, none⟩ by simp [Addr.add]; exact fun h => h.symm] at hx
              exact (World.cell?_of_block (a := ⟨rg, j, none⟩) (hnq.block rg (by omega))).trans hx
            have hiI : (i : Int) ≤ (s.length : Int) := by omega
            have htl : (s.take i).length ≤ 1000000 := by rw [List.length_take]; omega
            have ad1 : ∀ w, (Op.stringOp .add (bs (s.take i)) (bs one)).run Tryd.prog w = .ok (.string (bs (s.take i ++ one))) w := fun w => by
              have := run_string_add_sum (P := Tryd.prog) (w := w) (bs (s.take i)) (bs one) (by rw [bs_size, bs_size]; omega)
              rw [bs_add] at this
              exact this
            have ad2 : ∀ w, (Op.stringOp .add (bs (s.take i ++ one)) (bs r)).run Tryd.prog w = .ok (.string (bs (s.take i ++ one ++ r))) w := fun w => by
              have := run_string_add_sum (P := Tryd.prog) (w := w) (bs (s.take i ++ one)) (bs r) (by rw [bs_size, bs_size, List.length_append]; omega)
              rw [bs_add] at this
              exact this
            have hnqs := hnq.size
            refine region_inv (ExpR s i k j mg ml.length mc rg rl.length rc one r (.slice oa dn.length oc) (fun v' w' => w'.ownsRow n3 9 1 v' (dn.length + 1) (strs dn ++ [.string (bs (s.take i ++ one ++ r))]) ∧ Below n3 w3 w') (fun x7 x42 x43 x44 x45 x46 x47 x48 x49 x50 x51 x52 x53 x54 x55 x56 x57 => (Value.string (bs s) :: undef :: Value.slice none 0 0 :: Value.int .i64 (i : Int) :: Value.int .i64 (e2 : Int) :: Value.slice (some ⟨mg, 0, none⟩) ml.length mc :: Value.slice (some ⟨rg, 0, none⟩) rl.length rc :: x7 :: Value.int .i64 (k : Int) :: Value.int .i64 (j : Int) :: Value.tuple #[.int .i64 (i : Int), .int .i64 (e2 : Int), .slice (some ⟨mg, 0, none⟩) ml.length mc] :: Value.string (bs s) :: Value.tuple #[.int .i64 (i : Int), .int .i64 (e2 : Int), .slice (some ⟨mg, 0, none⟩) ml.length mc] :: Value.int .i64 (i : Int) :: Value.int .i64 (e2 : Int) :: Value.slice (some ⟨mg, 0, none⟩) ml.length mc :: Value.int .i64 (i : Int) :: Value.bool (decide ((i : Int) < 0)) :: undef :: undef :: Value.string (bs s) :: Value.int .i64 (e2 : Int) :: Value.int .i64 ((e2 : Int) + 1) :: Value.string (bs behind) :: Value.slice (some ⟨rg, 0, none⟩) rl.length rc :: Value.int .i64 (k : Int) :: Value.slice (some ⟨mg, 0, none⟩) ml.length mc :: Value.int .i64 (ml.length : Int) :: Value.bool true :: u29 :: u30 :: Value.int .i64 (j : Int) :: Value.slice (some ⟨rg, 0, none⟩) rl.length rc :: Value.int .i64 (rl.length : Int) :: Value.bool true :: Value.bool true :: Value.slice oa dn.length oc :: Value.int .i64 (dn.length : Int) :: Value.bool true :: Value.bool true :: u40 :: u41 :: x42 :: x43 :: x44 :: x45 :: x46 :: x47 :: x48 :: x49 :: x50 :: x51 :: x52 :: x53 :: x54 :: x55 :: x56 :: x57 :: undef :: [] : List Value).toArray) wr.drew) (by kernel_rfl) (by kernel_rfl) ?hend ?hstep ?hinit
            case hinit => exact ⟨.slice oa dn.length oc, u42, u43, u44, u45, u46, u47, u48, u49, u50, u51, u52, u53, u54, u55, u56, u57, rfl, fun _ => rfl, fun h => by (rw [fl_none] at h; cases h), fun h => by (rw [fl_none] at h; cases h), fun h => by (rw [fl_none] at h; cases h), fun h => by (rw [fl_none] at h; cases h), fun h => by (rw [fl_none] at h; cases h), fun h => by (rw [fl_none] at h; cases h), fun h => by (rw [fl_none] at h; cases h), fun h => by (rw [fl_none] at h; cases h), fun h => by (rw [fl_none] at h; cases h), fun h => by (rw [fl_none] at h; cases h), fun h => by (rw [fl_none] at h; cases h), fun h => by (rw [fl_none] at h; cases h), fun h => by (rw [fl_none] at h; cases h), fun h => by (rw [fl_none] at h; cases h), fun h => by (rw [fl_none] at h; cases h), .inl ⟨fl_none _ _, rfl⟩⟩
            case hstep =>
              intro listed a' w' q o hls hcl hI ho hnot hdep K' hK
              have hlt : q < 17 := (Array.getElem?_eq_some_iff.1 ho).1
              have p15 : fl listed 15 = true → fl listed 14 = true := fun h => hcl 15 _ rfl h ⟨14, .data⟩ (by simp) rfl
              have p16 : fl listed 16 = true → fl listed 15 = true := fun h => hcl 16 _ rfl h ⟨15, .data⟩ (by simp) rfl
              have p14 : fl listed 14 = true → fl listed 7 = true ∧ fl listed 12 = true := fun h => by
                have h13 := hcl 14 _ rfl h ⟨13, .data⟩ (by simp) rfl
                have h8 := hcl 13 _ rfl h13 ⟨8, .data⟩ (by simp) rfl
                exact ⟨hcl 8 _ rfl h8 ⟨7, .data⟩ (by simp) rfl, hcl 13 _ rfl h13 ⟨12, .data⟩ (by simp) rfl⟩
              obtain ⟨x7, x42, x43, x44, x45, x46, x47, x48, x49, x50, x51, x52, x53, x54, x55, x56, x57, rfl, cx, c0, c1, c2, c3, c4, c5, c6, c7, c8, c9, c10, c11, c12, c13, c14, cw⟩ := hI
              have hl7 : (q = 7 ∨ q = 12) → fl listed 14 = false := fun h => by
                cases h14 : fl listed 14 with
                | false => rfl
                | true =>
                  obtain ⟨a7, a12⟩ := p14 h14
                  rcases h with rfl | rfl
                  · rw [a7] at hnot; cases hnot
                  · rw [a12] at hnot; cases hnot
              have hw7 : (q = 7 ∨ q = 12) → w' = wr.drew := fun h => by
                have h14 := hl7 h
                rcases cw with ⟨_, h⟩ | ⟨h, _⟩ | ⟨h, _⟩
                · exact h
                · rw [h14] at h; cases h
                · rw [p15 h] at h14; cases h14
              match q, hlt with
              | 0, _ =>
                obtain rfl := Option.some.inj ho
                have e7 := cx (by
                  cases h : fl listed 16 with
                  | false => rfl
                  | true => rw [hcl 15 _ rfl (p16 h) ⟨0, .data⟩ (by simp) rfl] at hnot; cases hnot)
                refine st_valW (v := .slice oa dn.length oc) (w' := w') rfl ?_ (hK _ _ ⟨x7, .slice oa dn.length oc, x43, x44, x45, x46, x47, x48, x49, x50, x51, x52, x53, x54, x55, x56, x57, rfl, fun h => cx (by rwa [fl_ne (by decide)] at h), fun _ => rfl, fun h => c1 (by rwa [fl_ne (by decide)] at h), fun h => c2 (by rwa [fl_ne (by decide)] at h), fun h => c3 (by rwa [fl_ne (by decide)] at h), fun h => c4 (by rwa [fl_ne (by decide)] at h), fun h => c5 (by rwa [fl_ne (by decide)] at h), fun h => c6 (by rwa [fl_ne (by decide)] at h), fun h => c7 (by rwa [fl_ne (by decide)] at h), fun h => c8 (by rwa [fl_ne (by decide)] at h), fun h => c9 (by rwa [fl_ne (by decide)] at h), fun h => c10 (by rwa [fl_ne (by decide)] at h), fun h => c11 (by rwa [fl_ne (by decide)] at h), fun h => c12 (by rwa [fl_ne (by decide)] at h), fun h => c13 (by rwa [fl_ne (by decide)] at h), fun h => c14 (by rwa [fl_ne (by decide)] at h), by rw [fl_ne (by decide), fl_ne (by decide), fl_ne (by decide)]; exact cw⟩)
                simp [execOp, go_sem, e7]
              | 1, _ =>
                obtain rfl := Option.some.inj ho
                refine st_valW (v := .string (bs s)) (w' := w') rfl ?_ (hK _ _ ⟨x7, x42, .string (bs s), x44, x45, x46, x47, x48, x49, x50, x51, x52, x53, x54, x55, x56, x57, rfl, fun h => cx (by rwa [fl_ne (by decide)] at h), fun h => c0 (by rwa [fl_ne (by decide)] at h), fun _ => rfl, fun h => c2 (by rwa [fl_ne (by decide)] at h), fun h => c3 (by rwa [fl_ne (by decide)] at h), fun h => c4 (by rwa [fl_ne (by decide)] at h), fun h => c5 (by rwa [fl_ne (by decide)] at h), fun h => c6 (by rwa [fl_ne (by decide)] at h), fun h => c7 (by rwa [fl_ne (by decide)] at h), fun h => c8 (by rwa [fl_ne (by decide)] at h), fun h => c9 (by rwa [fl_ne (by decide)] at h), fun h => c10 (by rwa [fl_ne (by decide)] at h), fun h => c11 (by rwa [fl_ne (by decide)] at h), fun h => c12 (by rwa [fl_ne (by decide)] at h), fun h => c13 (by rwa [fl_ne (by decide)] at h), fun h => c14 (by rwa [fl_ne (by decide)] at h), by rw [fl_ne (by decide), fl_ne (by decide), fl_ne (by decide)]; exact cw⟩)
                simp [execOp, go_sem]
              | 2, _ =>
                obtain rfl := Option.some.inj ho
                refine st_valW (v := .int .i64 (i : Int)) (w' := w') rfl ?_ (hK _ _ ⟨x7, x42, x43, .int .i64 (i : Int), x45, x46, x47, x48, x49, x50, x51, x52, x53, x54, x55, x56, x57, rfl, fun h => cx (by rwa [fl_ne (by decide)] at h), fun h => c0 (by rwa [fl_ne (by decide)] at h), fun h => c1 (by rwa [fl_ne (by decide)] at h), fun _ => rfl, fun h => c3 (by rwa [fl_ne (by decide)] at h), fun h => c4 (by rwa [fl_ne (by decide)] at h), fun h => c5 (by rwa [fl_ne (by decide)] at h), fun h => c6 (by rwa [fl_ne (by decide)] at h), fun h => c7 (by rwa [fl_ne (by decide)] at h), fun h => c8 (by rwa [fl_ne (by decide)] at h), fun h => c9 (by rwa [fl_ne (by decide)] at h), fun h => c10 (by rwa [fl_ne (by decide)] at h), fun h => c11 (by rwa [fl_ne (by decide)] at h), fun h => c12 (by rwa [fl_ne (by decide)] at h), fun h => c13 (by rwa [fl_ne (by decide)] at h), fun h => c14 (by rwa [fl_ne (by decide)] at h), by rw [fl_ne (by decide), fl_ne (by decide), fl_ne (by decide)]; exact cw⟩)
                simp [execOp, go_sem]
              | 3, _ =>
                obtain rfl := Option.some.inj ho
                have d1 := c1 (hdep ⟨1, .data⟩ (by simp) rfl)
                have d2 := c2 (hdep ⟨2, .data⟩ (by simp) rfl)
                refine st_valW (v := .string (bs (s.take i))) (w' := w') rfl ?_ (hK _ _ ⟨x7, x42, x43, x44, .string (bs (s.take i)), x46, x47, x48, x49, x50, x51, x52, x53, x54, x55, x56, x57, rfl, fun h => cx (by rwa [fl_ne (by decide)] at h), fun h => c0 (by rwa [fl_ne (by decide)] at h), fun h => c1 (by rwa [fl_ne (by decide)] at h), fun h => c2 (by rwa [fl_ne (by decide)] at h), fun _ => rfl, fun h => c4 (by rwa [fl_ne (by decide)] at h), fun h => c5 (by rwa [fl_ne (by decide)] at h), fun h => c6 (by rwa [fl_ne (by decide)] at h), fun h => c7 (by rwa [fl_ne (by decide)] at h), fun h => c8 (by rwa [fl_ne (by decide)] at h), fun h => c9 (by rwa [fl_ne (by decide)] at h), fun h => c10 (by rwa [fl_ne (by decide)] at h), fun h => c11 (by rwa [fl_ne (by decide)] at h), fun h => c12 (by rwa [fl_ne (by decide)] at h), fun h => c13 (by rwa [fl_ne (by decide)] at h), fun h => c14 (by rwa [fl_ne (by decide)] at h), by rw [fl_ne (by decide), fl_ne (by decide), fl_ne (by decide)]; exact cw⟩)
                simp [execOp, go_sem, Result.andThen, d1, d2, hiI, hszs, bs_take]
              | 4, _ =>
                obtain rfl := Option.some.inj ho
                refine st_valW (v := .slice (some ⟨mg, 0, none⟩) ml.length mc) (w' := w') rfl ?_ (hK _ _ ⟨x7, x42, x43, x44, x45, .slice (some ⟨mg, 0, none⟩) ml.length mc, x47, x48, x49, x50, x51, x52, x53, x54, x55, x56, x57, rfl, fun h => cx (by rwa [fl_ne (by decide)] at h), fun h => c0 (by rwa [fl_ne (by decide)] at h), fun h => c1 (by rwa [fl_ne (by decide)] at h), fun h => c2 (by rwa [fl_ne (by decide)] at h), fun h => c3 (by rwa [fl_ne (by decide)] at h), fun _ => rfl, fun h => c5 (by rwa [fl_ne (by decide)] at h), fun h => c6 (by rwa [fl_ne (by decide)] at h), fun h => c7 (by rwa [fl_ne (by decide)] at h), fun h => c8 (by rwa [fl_ne (by decide)] at h), fun h => c9 (by rwa [fl_ne (by decide)] at h), fun h => c10 (by rwa [fl_ne (by decide)] at h), fun h => c11 (by rwa [fl_ne (by decide)] at h), fun h => c12 (by rwa [fl_ne (by decide)] at h), fun h => c13 (by rwa [fl_ne (by decide)] at h), fun h => c14 (by rwa [fl_ne (by decide)] at h), by rw [fl_ne (by decide), fl_ne (by decide), fl_ne (by decide)]; exact cw⟩)
                simp [execOp, go_sem]
              | 5, _ =>
                obtain rfl := Option.some.inj ho
                refine st_valW (v := .int .i64 (k : Int)) (w' := w') rfl ?_ (hK _ _ ⟨x7, x42, x43, x44, x45, x46, .int .i64 (k : Int), x48, x49, x50, x51, x52, x53, x54, x55, x56, x57, rfl, fun h => cx (by rwa [fl_ne (by decide)] at h), fun h => c0 (by rwa [fl_ne (by decide)] at h), fun h => c1 (by rwa [fl_ne (by decide)] at h), fun h => c2 (by rwa [fl_ne (by decide)] at h), fun h => c3 (by rwa [fl_ne (by decide)] at h), fun h => c4 (by rwa [fl_ne (by decide)] at h), fun _ => rfl, fun h => c6 (by rwa [fl_ne (by decide)] at h), fun h => c7 (by rwa [fl_ne (by decide)] at h), fun h => c8 (by rwa [fl_ne (by decide)] at h), fun h => c9 (by rwa [fl_ne (by decide)] at h), fun h => c10 (by rwa [fl_ne (by decide)] at h), fun h => c11 (by rwa [fl_ne (by decide)] at h), fun h => c12 (by rwa [fl_ne (by decide)] at h), fun h => c13 (by rwa [fl_ne (by decide)] at h), fun h => c14 (by rwa [fl_ne (by decide)] at h), by rw [fl_ne (by decide), fl_ne (by decide), fl_ne (by decide)]; exact cw⟩)
                simp [execOp, go_sem]
              | 6, _ =>
                obtain rfl := Option.some.inj ho
                have d4 := c4 (hdep ⟨4, .data⟩ (by simp) rfl)
                have d5 := c5 (hdep ⟨5, .data⟩ (by simp) rfl)
                refine st_valW (v := .pointer (some ⟨mg, k, none⟩)) (w' := w') rfl ?_ (hK _ _ ⟨x7, x42, x43, x44, x45, x46, x47, .pointer (some ⟨mg, k, none⟩), x49, x50, x51, x52, x53, x54, x55, x56, x57, rfl, fun h => cx (by rwa [fl_ne (by decide)] at h), fun h => c0 (by rwa [fl_ne (by decide)] at h), fun h => c1 (by rwa [fl_ne (by decide)] at h), fun h => c2 (by rwa [fl_ne (by decide)] at h), fun h => c3 (by rwa [fl_ne (by decide)] at h), fun h => c4 (by rwa [fl_ne (by decide)] at h), fun h => c5 (by rwa [fl_ne (by decide)] at h), fun _ => rfl, fun h => c7 (by rwa [fl_ne (by decide)] at h), fun h => c8 (by rwa [fl_ne (by decide)] at h), fun h => c9 (by rwa [fl_ne (by decide)] at h), fun h => c10 (by rwa [fl_ne (by decide)] at h), fun h => c11 (by rwa [fl_ne (by decide)] at h), fun h => c12 (by rwa [fl_ne (by decide)] at h), fun h => c13 (by rwa [fl_ne (by decide)] at h), fun h => c14 (by rwa [fl_ne (by decide)] at h), by rw [fl_ne (by decide), fl_ne (by decide), fl_ne (by decide)]; exact cw⟩)
                simp [execOp, go_sem, Result.andThen, d4, d5, hkI]
              | 7, _ =>
                obtain rfl := Option.some.inj ho
                have d6 := c6 (hdep ⟨6, .data⟩ (by simp) rfl)
                rw [hw7 (.inl rfl)]
                refine st_valW (v := .string (bs one)) (w' := wr.drew) rfl ?_ (hK _ _ ⟨x7, x42, x43, x44, x45, x46, x47, x48, .string (bs one), x50, x51, x52, x53, x54, x55, x56, x57, rfl, fun h => cx (by rwa [fl_ne (by decide)] at h), fun h => c0 (by rwa [fl_ne (by decide)] at h), fun h => c1 (by rwa [fl_ne (by decide)] at h), fun h => c2 (by rwa [fl_ne (by decide)] at h), fun h => c3 (by rwa [fl_ne (by decide)] at h), fun h => c4 (by rwa [fl_ne (by decide)] at h), fun h => c5 (by rwa [fl_ne (by decide)] at h), fun h => c6 (by rwa [fl_ne (by decide)] at h), fun _ => rfl, fun h => c8 (by rwa [fl_ne (by decide)] at h), fun h => c9 (by rwa [fl_ne (by decide)] at h), fun h => c10 (by rwa [fl_ne (by decide)] at h), fun h => c11 (by rwa [fl_ne (by decide)] at h), fun h => c12 (by rwa [fl_ne (by decide)] at h), fun h => c13 (by rwa [fl_ne (by decide)] at h), fun h => c14 (by rwa [fl_ne (by decide)] at h), .inl ⟨by rw [fl_ne (by decide)]; exact hl7 (.inl rfl), rfl⟩⟩)
                simp [execOp, go_sem, Result.andThen, d6, cm]
              | 8, _ =>
                obtain rfl := Option.some.inj ho
                have d3 := c3 (hdep ⟨3, .data⟩ (by simp) rfl)
                have d7 := c7 (hdep ⟨7, .data⟩ (by simp) rfl)
                refine st_valW (v := .string (bs (s.take i ++ one))) (w' := w') rfl ?_ (hK _ _ ⟨x7, x42, x43, x44, x45, x46, x47, x48, x49, .string (bs (s.take i ++ one)), x51, x52, x53, x54, x55, x56, x57, rfl, fun h => cx (by rwa [fl_ne (by decide)] at h), fun h => c0 (by rwa [fl_ne (by decide)] at h), fun h => c1 (by rwa [fl_ne (by decide)] at h), fun h => c2 (by rwa [fl_ne (by decide)] at h), fun h => c3 (by rwa [fl_ne (by decide)] at h), fun h => c4 (by rwa [fl_ne (by decide)] at h), fun h => c5 (by rwa [fl_ne (by decide)] at h), fun h => c6 (by rwa [fl_ne (by decide)] at h), fun h => c7 (by rwa [fl_ne (by decide)] at h), fun _ => rfl, fun h => c9 (by rwa [fl_ne (by decide)] at h), fun h => c10 (by rwa [fl_ne (by decide)] at h), fun h => c11 (by rwa [fl_ne (by decide)] at h), fun h => c12 (by rwa [fl_ne (by decide)] at h), fun h => c13 (by rwa [fl_ne (by decide)] at h), fun h => c14 (by rwa [fl_ne (by decide)] at h), by rw [fl_ne (by decide), fl_ne (by decide), fl_ne (by decide)]; exact cw⟩)
                simp [execOp, go_sem, Result.andThen, d3, d7, ad1]
              | 9, _ =>
                obtain rfl := Option.some.inj ho
                refine st_valW (v := .slice (some ⟨rg, 0, none⟩) rl.length rc) (w' := w') rfl ?_ (hK _ _ ⟨x7, x42, x43, x44, x45, x46, x47, x48, x49, x50, .slice (some ⟨rg, 0, none⟩) rl.length rc, x52, x53, x54, x55, x56, x57, rfl, fun h => cx (by rwa [fl_ne (by decide)] at h), fun h => c0 (by rwa [fl_ne (by decide)] at h), fun h => c1 (by rwa [fl_ne (by decide)] at h), fun h => c2 (by rwa [fl_ne (by decide)] at h), fun h => c3 (by rwa [fl_ne (by decide)] at h), fun h => c4 (by rwa [fl_ne (by decide)] at h), fun h => c5 (by rwa [fl_ne (by decide)] at h), fun h => c6 (by rwa [fl_ne (by decide)] at h), fun h => c7 (by rwa [fl_ne (by decide)] at h), fun h => c8 (by rwa [fl_ne (by decide)] at h), fun _ => rfl, fun h => c10 (by rwa [fl_ne (by decide)] at h), fun h => c11 (by rwa [fl_ne (by decide)] at h), fun h => c12 (by rwa [fl_ne (by decide)] at h), fun h => c13 (by rwa [fl_ne (by decide)] at h), fun h => c14 (by rwa [fl_ne (by decide)] at h), by rw [fl_ne (by decide), fl_ne (by decide), fl_ne (by decide)]; exact cw⟩)
                simp [execOp, go_sem]
              | 10, _ =>
                obtain rfl := Option.some.inj ho
                refine st_valW (v := .int .i64 (j : Int)) (w' := w') rfl ?_ (hK _ _ ⟨x7, x42, x43, x44, x45, x46, x47, x48, x49, x50, x51, .int .i64 (j : Int), x53, x54, x55, x56, x57, rfl, fun h => cx (by rwa [fl_ne (by decide)] at h), fun h => c0 (by rwa [fl_ne (by decide)] at h), fun h => c1 (by rwa [fl_ne (by decide)] at h), fun h => c2 (by rwa [fl_ne (by decide)] at h), fun h => c3 (by rwa [fl_ne (by decide)] at h), fun h => c4 (by rwa [fl_ne (by decide)] at h), fun h => c5 (by rwa [fl_ne (by decide)] at h), fun h => c6 (by rwa [fl_ne (by decide)] at h), fun h => c7 (by rwa [fl_ne (by decide)] at h), fun h => c8 (by rwa [fl_ne (by decide)] at h), fun h => c9 (by rwa [fl_ne (by decide)] at h), fun _ => rfl, fun h => c11 (by rwa [fl_ne (by decide)] at h), fun h => c12 (by rwa [fl_ne (by decide)] at h), fun h => c13 (by rwa [fl_ne (by decide)] at h), fun h => c14 (by rwa [fl_ne (by decide)] at h), by rw [fl_ne (by decide), fl_ne (by decide), fl_ne (by decide)]; exact cw⟩)
                simp [execOp, go_sem]
              | 11, _ =>
                obtain rfl := Option.some.inj ho
                have d9 := c9 (hdep ⟨9, .data⟩ (by simp) rfl)
                have d10 := c10 (hdep ⟨10, .data⟩ (by simp) rfl)
                refine st_valW (v := .pointer (some ⟨rg, j, none⟩)) (w' := w') rfl ?_ (hK _ _ ⟨x7, x42, x43, x44, x45, x46, x47, x48, x49, x50, x51, x52, .pointer (some ⟨rg, j, none⟩), x54, x55, x56, x57, rfl, fun h => cx (by rwa [fl_ne (by decide)] at h), fun h => c0 (by rwa [fl_ne (by decide)] at h), fun h => c1 (by rwa [fl_ne (by decide)] at h), fun h => c2 (by rwa [fl_ne (by decide)] at h), fun h => c3 (by rwa [fl_ne (by decide)] at h), fun h => c4 (by rwa [fl_ne (by decide)] at h), fun h => c5 (by rwa [fl_ne (by decide)] at h), fun h => c6 (by rwa [fl_ne (by decide)] at h), fun h => c7 (by rwa [fl_ne (by decide)] at h), fun h => c8 (by rwa [fl_ne (by decide)] at h), fun h => c9 (by rwa [fl_ne (by decide)] at h), fun h => c10 (by rwa [fl_ne (by decide)] at h), fun _ => rfl, fun h => c12 (by rwa [fl_ne (by decide)] at h), fun h => c13 (by rwa [fl_ne (by decide)] at h), fun h => c14 (by rwa [fl_ne (by decide)] at h), by rw [fl_ne (by decide), fl_ne (by decide), fl_ne (by decide)]; exact cw⟩)
                simp [execOp, go_sem, Result.andThen, d9, d10, hjI]
              | 12, _ =>
                obtain rfl := Option.some.inj ho
                have d11 := c11 (hdep ⟨11, .data⟩ (by simp) rfl)
                rw [hw7 (.inr rfl)]
                refine st_valW (v := .string (bs r)) (w' := wr.drew) rfl ?_ (hK _ _ ⟨x7, x42, x43, x44, x45, x46, x47, x48, x49, x50, x51, x52, x53, .string (bs r), x55, x56, x57, rfl, fun h => cx (by rwa [fl_ne (by decide)] at h), fun h => c0 (by rwa [fl_ne (by decide)] at h), fun h => c1 (by rwa [fl_ne (by decide)] at h), fun h => c2 (by rwa [fl_ne (by decide)] at h), fun h => c3 (by rwa [fl_ne (by decide)] at h), fun h => c4 (by rwa [fl_ne (by decide)] at h), fun h => c5 (by rwa [fl_ne (by decide)] at h), fun h => c6 (by rwa [fl_ne (by decide)] at h), fun h => c7 (by rwa [fl_ne (by decide)] at h), fun h => c8 (by rwa [fl_ne (by decide)] at h), fun h => c9 (by rwa [fl_ne (by decide)] at h), fun h => c10 (by rwa [fl_ne (by decide)] at h), fun h => c11 (by rwa [fl_ne (by decide)] at h), fun _ => rfl, fun h => c13 (by rwa [fl_ne (by decide)] at h), fun h => c14 (by rwa [fl_ne (by decide)] at h), .inl ⟨by rw [fl_ne (by decide)]; exact hl7 (.inr rfl), rfl⟩⟩)
                simp [execOp, go_sem, Result.andThen, d11, cr]
              | 13, _ =>
                obtain rfl := Option.some.inj ho
                have d8 := c8 (hdep ⟨8, .data⟩ (by simp) rfl)
                have d12 := c12 (hdep ⟨12, .data⟩ (by simp) rfl)
                refine st_valW (v := .string (bs (s.take i ++ one ++ r))) (w' := w') rfl ?_ (hK _ _ ⟨x7, x42, x43, x44, x45, x46, x47, x48, x49, x50, x51, x52, x53, x54, .string (bs (s.take i ++ one ++ r)), x56, x57, rfl, fun h => cx (by rwa [fl_ne (by decide)] at h), fun h => c0 (by rwa [fl_ne (by decide)] at h), fun h => c1 (by rwa [fl_ne (by decide)] at h), fun h => c2 (by rwa [fl_ne (by decide)] at h), fun h => c3 (by rwa [fl_ne (by decide)] at h), fun h => c4 (by rwa [fl_ne (by decide)] at h), fun h => c5 (by rwa [fl_ne (by decide)] at h), fun h => c6 (by rwa [fl_ne (by decide)] at h), fun h => c7 (by rwa [fl_ne (by decide)] at h), fun h => c8 (by rwa [fl_ne (by decide)] at h), fun h => c9 (by rwa [fl_ne (by decide)] at h), fun h => c10 (by rwa [fl_ne (by decide)] at h), fun h => c11 (by rwa [fl_ne (by decide)] at h), fun h => c12 (by rwa [fl_ne (by decide)] at h), fun _ => rfl, fun h => c14 (by rwa [fl_ne (by decide)] at h), by rw [fl_ne (by decide), fl_ne (by decide), fl_ne (by decide)]; exact cw⟩)
                simp [execOp, go_sem, Result.andThen, d8, d12, ad2]
              | 14, _ =>
                obtain rfl := Option.some.inj ho
                have d13 := c13 (hdep ⟨13, .data⟩ (by simp) rfl)
                have h15 : fl listed 15 = false := by
                  cases h : fl listed 15 with
                  | false => rfl
                  | true => rw [p15 h] at hnot; cases hnot
                have hw : w' = wr.drew := by
                  rcases cw with ⟨_, h⟩ | ⟨h, _⟩ | ⟨h, _⟩
                  · exact h
                  · rw [hnot] at h; cases h
                  · rw [h15] at h; cases h
                rw [hw]
                refine st_valW (v := .slice (some ⟨wr.heap.size, 0, none⟩) 1 1) (w' := wr.drew.alloc (.cells #[.string (bs (s.take i ++ one ++ r))] 9)) rfl ?_ (hK _ _ ⟨x7, x42, x43, x44, x45, x46, x47, x48, x49, x50, x51, x52, x53, x54, x55, .slice (some ⟨wr.heap.size, 0, none⟩) 1 1, x57, rfl, fun h => cx (by rwa [fl_ne (by decide)] at h), fun h => c0 (by rwa [fl_ne (by decide)] at h), fun h => c1 (by rwa [fl_ne (by decide)] at h), fun h => c2 (by rwa [fl_ne (by decide)] at h), fun h => c3 (by rwa [fl_ne (by decide)] at h), fun h => c4 (by rwa [fl_ne (by decide)] at h), fun h => c5 (by rwa [fl_ne (by decide)] at h), fun h => c6 (by rwa [fl_ne (by decide)] at h), fun h => c7 (by rwa [fl_ne (by decide)] at h), fun h => c8 (by rwa [fl_ne (by decide)] at h), fun h => c9 (by rwa [fl_ne (by decide)] at h), fun h => c10 (by rwa [fl_ne (by decide)] at h), fun h => c11 (by rwa [fl_ne (by decide)] at h), fun h => c12 (by rwa [fl_ne (by decide)] at h), fun h => c13 (by rwa [fl_ne (by decide)] at h), fun _ => rfl, .inr (.inl ⟨fl_self (by rw [hls]; decide), by rw [fl_ne (by decide)]; exact h15, rfl⟩)⟩)
                simp [execOp, go_sem, Result.andThen, d13]
              | 15, _ =>
                obtain rfl := Option.some.inj ho
                have d0 := c0 (hdep ⟨0, .data⟩ (by simp) rfl)
                have h14 : fl listed 14 = true := hdep ⟨14, .data⟩ (by simp) rfl
                have d14 := c14 h14
                have hw : w' = wr.drew.alloc (.cells #[.string (bs (s.take i ++ one ++ r))] 9) := by
                  rcases cw with ⟨h, _⟩ | ⟨_, _, h⟩ | ⟨h, _⟩
                  · rw [h14] at h; cases h
                  · exact h
                  · rw [hnot] at h; cases h
                rw [hw]
                have hownA : (wr.drew.alloc (.cells #[.string (bs (s.take i ++ one ++ r))] 9)).ownsRow n3 9 1 (.slice oa dn.length oc) dn.length (strs dn) := World.ownsRow.alloc (w := wr.drew) hown2 _
                obtain ⟨v', w9, hrun, hr1, hr2, _⟩ := run_append_own (P := Tryd.prog) (wr.drew.alloc (.cells #[.string (bs (s.take i ++ one ++ r))] 9)) n3 22 22 9 i0 (.string ⟨#[]⟩) 1 16 und22 hi hz0 hz1 hz2 rfl (by decide) (.slice oa dn.length oc) dn.length (strs dn) hownA ⟨wr.heap.size, 0, none⟩ 1 1 [.string (bs (s.take i ++ one ++ r))] rfl (cell_one_new wr.drew _ _) (by simp [Value.oneCell']) (by unfold maxLen; omega) (by omega) (by show n3 ≤ (wr.drew.alloc _).heap.size; rw [World.size_alloc]; show n3 ≤ wr.heap.size + 1; omega)
                have hbl9 : Below n3 w3 w9 := by
                  have hd : Below n3 w3 wr.drew := hnq.drew
                  exact below_push hd (by omega) (show wr.drew.ownsRow n3 9 1 (.slice oa dn.length oc) dn.length (strs dn) from hown2) hr2
                refine st_valW (v := v') (w' := w9) rfl ?_ (hK _ _ ⟨x7, x42, x43, x44, x45, x46, x47, x48, x49, x50, x51, x52, x53, x54, x55, x56, v', rfl, fun h => cx (by rwa [fl_ne (by decide)] at h), fun h => c0 (by rwa [fl_ne (by decide)] at h), fun h => c1 (by rwa [fl_ne (by decide)] at h), fun h => c2 (by rwa [fl_ne (by decide)] at h), fun h => c3 (by rwa [fl_ne (by decide)] at h), fun h => c4 (by rwa [fl_ne (by decide)] at h), fun h => c5 (by rwa [fl_ne (by decide)] at h), fun h => c6 (by rwa [fl_ne (by decide)] at h), fun h => c7 (by rwa [fl_ne (by decide)] at h), fun h => c8 (by rwa [fl_ne (by decide)] at h), fun h => c9 (by rwa [fl_ne (by decide)] at h), fun h => c10 (by rwa [fl_ne (by decide)] at h), fun h => c11 (by rwa [fl_ne (by decide)] at h), fun h => c12 (by rwa [fl_ne (by decide)] at h), fun h => c13 (by rwa [fl_ne (by decide)] at h), fun h => c14 (by rwa [fl_ne (by decide)] at h), .inr (.inr ⟨fl_self (by rw [hls]; decide), v', ⟨hr1, hbl9⟩, rfl, fun h => ?_⟩)⟩)
                · simp [execOp, resolve, invoke, builtin, Act.eval, d0, d14, hrun, Result.andThen, -List.append_assoc]
                · rw [fl_ne (by decide)] at h
                  rw [p16 h] at hnot
                  cases hnot
              | 16, _ =>
                obtain rfl := Option.some.inj ho
                have h15 : fl listed 15 = true := hdep ⟨15, .data⟩ (by simp) rfl
                rcases cw with ⟨h, _⟩ | ⟨_, h, _⟩ | ⟨_, v', hr, hv, _⟩
                · rw [p15 h15] at h; cases h
                · rw [h15] at h; cases h
                · refine st_valW (v := v') (w' := w') rfl ?_ (hK _ _ ⟨v', x42, x43, x44, x45, x46, x47, x48, x49, x50, x51, x52, x53, x54, x55, x56, x57, rfl, fun h => by (rw [fl_self (by rw [hls]; decide)] at h; cases h), fun h => c0 (by rwa [fl_ne (by decide)] at h), fun h => c1 (by rwa [fl_ne (by decide)] at h), fun h => c2 (by rwa [fl_ne (by decide)] at h), fun h => c3 (by rwa [fl_ne (by decide)] at h), fun h => c4 (by rwa [fl_ne (by decide)] at h), fun h => c5 (by rwa [fl_ne (by decide)] at h), fun h => c6 (by rwa [fl_ne (by decide)] at h), fun h => c7 (by rwa [fl_ne (by decide)] at h), fun h => c8 (by rwa [fl_ne (by decide)] at h), fun h => c9 (by rwa [fl_ne (by decide)] at h), fun h => c10 (by rwa [fl_ne (by decide)] at h), fun h => c11 (by rwa [fl_ne (by decide)] at h), fun h => c12 (by rwa [fl_ne (by decide)] at h), fun h => c13 (by rwa [fl_ne (by decide)] at h), fun h => c14 (by rwa [fl_ne (by decide)] at h), .inr (.inr ⟨by rw [fl_ne (by decide)]; exact h15, v', hr, hv, fun _ => rfl⟩)⟩)
                  simp [execOp, go_sem, hv]
            case hend =>
              rintro listed a' w9 hall ⟨x7, x42, x43, x44, x45, x46, x47, x48, x49, x50, x51, x52, x53, x54, x55, x56, x57, rfl, _, _, _, _, _, _, _, _, _, _, _, _, _, _, _, _, cw⟩
              rcases cw with ⟨h, _⟩ | ⟨_, h, _⟩ | ⟨_, v', ⟨hr1, hbl9⟩, rfl, h7⟩
              · rw [hall 14 (by decide)] at h; cases h
              · rw [hall 15 (by decide)] at h; cases h
              rw [h7 (hall 16 (by decide))]
              clear h7 hall ad1 ad2 cm cr hown2 hnq
              gi_wp2
              case roundEnd =>
                have hsm : dn = prodX (s.take i) ml rl k j := by
                  have h := HDN.out
                  rw [h] at hd2
                  rw [h]
                  exact take_small hd2
                refine ⟨⟨j + 1, dn ++ [s.take i ++ one ++ r], by simp, by omega, ?_, row_push hr1 rfl, hbl9⟩, ?_⟩
                · rw [prodX_next HON.out HRJ.out, ← hsm]
                  exact (List.take_of_length_le (by rw [List.length_append, List.length_singleton]; omega)).symm
                · simp [intOf]; omega
          · have hdI : ¬ ((dn.length : Int) ≤ 200) := by omega
            gi_wp2
            case roundEnd =>
              have h := HDN.out
              have h201 : 201 ≤ (prodX (s.take i) ml rl k j).length := by rw [h, List.length_take] at hd2; omega
              refine ⟨⟨k + 1, by simp, by omega, ?_, hnq⟩, by simp [intOf]; omega⟩
              rw [prodX_pre HON.out h201, ← h]
              exact hown2
        · have hjI : ¬ ((j : Int) < (rl.length : Int)) := by omega
          gi_wp2
          case roundEnd =>
            have h := HDN.out
            have hje : j = rl.length := by omega
            rw [hje, prodX_row HON.out] at h
            refine ⟨⟨k + 1, by simp, by omega, ?_, hnq⟩, by simp [intOf]; omega⟩
            rw [← h]
            exact hown2
    · have hkI : ¬ ((k : Int) < (ml.length : Int)) := by omega
      have hke : k = ml.length := by omega
      rw [hke, List.take_length] at hown
      have HOW := hide hown
      clear hown hke
      gi_wp2
      go_ret
      obtain ⟨q3, _⟩ := HFIN.out
      rw [q3]
      have hq := owns_down (base' := w.heap.size) HOW.out (by omega)
      exact ⟨u7, rfl, hq, hb1.trans ((hb3.mono hs01).trans (hnx.mono (by omega)))⟩
end Go.Proofs.YtgpgbobmpdgfeaaDoor
