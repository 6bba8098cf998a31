/- The law's own copy of the nodes. -/
import Derived.Test.YtfemboojdablhaaGreatDoorTGLine
import Derived.Test.YtfemboojdablhaaGreatDoorTLoad
import Derived.Test.YtfemboojdablhaaGreatDoorTPut
import Derived.Test.YtfemboojdablhaaGreatDoorTSame
import Derived.Test.YtfemboojdablhaaGreatDoorTLoad
import Derived.Deep.RegionHeldLaw
import Derived.Deep.AppendLies
namespace Go.Proofs.YtfemboojdablhaaGreatDoor.Tre
open Go.RowKit
def Six (g i : Nat) (x : NodeD) (W : World) : Prop :=
  W.cell? ⟨g, i * 7, none⟩ = some (.int .u8 x.kind) ∧ W.cell? ⟨g, i * 7 + 1, none⟩ = some (.string x.name) ∧ W.cell? ⟨g, i * 7 + 2, none⟩ = some (.int .i64 x.up) ∧
  W.cell? ⟨g, i * 7 + 3, none⟩ = some (.int .i64 x.size) ∧ W.cell? ⟨g, i * 7 + 4, none⟩ = some (.int .i64 x.time) ∧ W.cell? ⟨g, i * 7 + 5, none⟩ = some (.string x.text)
set_option maxRecDepth 100000 in
set_option maxHeartbeats 2000000 in
theorem nodes_any (C : Nat) (v : Value) (L : List NodeD) (w : World) (hl : L.length ≤ 201) (hk : ∀ (i : Nat) (n : NodeD), L[i]? = some n → n.kids.length ≤ 1000) (hv : NodeRow C w v L) (hC : C ≤ w.heap.size)  :
    Calls Tryz.prog 9 #[v] w fun e w' => ∃ v' l, e = .returned v' ∧ Owned 68 w.heap.size w' v' l ∧ l.map (·.1) = L ∧ Below w.heap.size w w' := by
  obtain ⟨i0, hi, hz0, hz1, hz2⟩ := info_parts Tryz.info68
  obtain ⟨a, ca, rfl⟩ := hv.form
  have HV := hide hv
  have HK := hide hk
  clear hv hk
  go_enter Tryz.func9, Tryz.ntmps9
  go_wp2
  go_loopw [3, 4] (fun mv iv wr => ∃ (k : Nat) (l : List (NodeD × Value)), k ≤ L.length ∧ iv = .int .i64 k ∧ l.length = k ∧ l.map (·.1) = L.take k ∧ Owned 68 w.heap.size wr mv l ∧ Below w.heap.size w wr) (fun _ iv _ => L.length - (intOf iv).toNat)
  case atStart => exact ⟨0, [], Nat.zero_le _, rfl, rfl, by simp, ⟨World.ownsRow_nil _ _ _ _, fun p hp => by simp at hp⟩, Below.refl _ _⟩
  case round =>
    obtain ⟨k, l, hk, rfl, hlk, hmap, hown, hbl⟩ := hrel
    by_cases hlt : k < L.length
    · obtain ⟨x, hx⟩ : ∃ x, L[k]? = some x := ⟨_, List.getElem?_eq_getElem hlt⟩
      have hkx := unhide HK k x hx
      obtain ⟨ga, ka, km, kc, rfl, hga, hca, ⟨p0, p1, p2, p3, p4, p5, p6⟩, hra⟩ := ((unhide HV).below (hbl.mono hC)).at hx
      have HA := hide hra
      have HX := hide hx
      have HMAP := hide hmap
      have HO := hide hown
      have hsz := hbl.size
      clear hra hx hmap hown
      go_wp2_with (at_builtin; refine wpList_append_ints rfl (.tmp 12) (.tmp 17) rfl wr.heap.size C _ _ [] x.kids rfl (World.ownsRow_nil _ _ _ _) rfl (unhide HA) (by simp; omega) (Nat.le_refl _) ?_; intro v1 w1 hown1 hg1; simp only [List.nil_append] at hown1; have hb1 : Below wr.heap.size wr w1 := (Below.refl _ _).grown hg1 (Nat.le_refl _) (fun k e => by cases e); have hz1' := hb1.size)
      clear hg1
      have hgw : ga < wr.heap.size := by omega
      have c0 := (hb1.cell (p := ⟨ga, k * 7, none⟩) hgw).trans p0
      have c1 := (hb1.cell (p := ⟨ga, k * 7 + 1, none⟩) hgw).trans p1
      have c2 := (hb1.cell (p := ⟨ga, k * 7 + 2, none⟩) hgw).trans p2
      have c3 := (hb1.cell (p := ⟨ga, k * 7 + 3, none⟩) hgw).trans p3
      have c4 := (hb1.cell (p := ⟨ga, k * 7 + 4, none⟩) hgw).trans p4
      have c5 := (hb1.cell (p := ⟨ga, k * 7 + 5, none⟩) hgw).trans p5
      clear p0 p1 p2 p3 p4 p5 p6
      obtain ⟨k1, kc1, rfl, _⟩ := (IntRow.of_owns hown1).form
      have HO1 := hide ((unhide HO).below hb1)
      have HKI := hide hown1
      clear hown1 HO HA
      have hkl : (k : Int) < (L.length : Int) := by omega
      have hne : some ga ≠ u3.ownBlock := fun e => by have := ((unhide HO1).1.lt ga e.symm).1; omega
      have HFAR : Hid (∀ (o : Obj) (w2 : World) (j : Nat) (z : Value), (w1.alloc o).drew.grownBy w2 u3.ownBlock → w1.cell? ⟨ga, j, none⟩ = some z → w2.cell? ⟨ga, j, none⟩ = some z) := by
        intro o w2 j z hg hz
        have h1 : ((w1.alloc o).drew).cell? ⟨ga, j, none⟩ = some z := ((Below.refl w1.heap.size w1).alloc (Nat.le_refl _) o |>.cell (p := ⟨ga, j, none⟩) (by show ga < _; omega)).trans hz
        exact (hg.cell_far ⟨ga, j, none⟩ (by show ga < ((w1.alloc o)).heap.size; simp; omega) hne).trans h1
      have HW : Hid (∀ (o : Obj), (w1.alloc o).drew.ownsRow w.heap.size 68 7 u3 l.length (cellsL l)) := fun o => (unhide HO1).1.alloc o
      have HN : Hid (∀ (j : Nat) (u : Value), [Value.int .u8 x.kind, .string x.name, .int .i64 x.up, .int .i64 x.size, .int .i64 x.time, .string x.text, .slice k1 x.kids.length kc1][j]? = some u → ((w1.alloc (.cells #[.int .u8 x.kind, .string x.name, .int .i64 x.up, .int .i64 x.size, .int .i64 x.time, .string x.text, .slice k1 x.kids.length kc1] 68)).drew).cell? ((⟨w1.heap.size, 0, none⟩ : Addr).add j) = some u) := World.news_of_block (cs := #[.int .u8 x.kind, .string x.name, .int .i64 x.up, .int .i64 x.size, .int .i64 x.time, .string x.text, .slice k1 x.kids.length kc1]) (World.alloc_heap_new w1 _)
      have hwz : w.heap.size ≤ w1.heap.size := by omega
      clear hne
      go_region_held_law (fun w' => w'.cell? ⟨ga, k * 7, none⟩ = some (.int .u8 x.kind) ∧ w'.cell? ⟨ga, k * 7 + 1, none⟩ = some (.string x.name) ∧ w'.cell? ⟨ga, k * 7 + 2, none⟩ = some (.int .i64 x.up) ∧ w'.cell? ⟨ga, k * 7 + 3, none⟩ = some (.int .i64 x.size) ∧ w'.cell? ⟨ga, k * 7 + 4, none⟩ = some (.int .i64 x.time) ∧ w'.cell? ⟨ga, k * 7 + 5, none⟩ = some (.string x.text)) (go_keep) ((refine step_append_lies _ rfl (.tmp 19) (.tmp 52) 31 rfl w.heap.size 68 i0 _ 7 88 Tryz.underlying31 hi hz0 hz1 hz2 rfl (by decide) u3 l.length (cellsL l) rfl (unhide HW _) ⟨w1.heap.size, 0, none⟩ 1 1 [Value.int .u8 x.kind, .string x.name, .int .i64 x.up, .int .i64 x.size, .int .i64 x.time, .string x.text, .slice k1 x.kids.length kc1] rfl rfl (unhide HN) (by simp [Value.oneCell']) (by decide) (by unfold maxLen; omega) (by omega) (by show _ ≤ (w1.alloc _).heap.size; simp; omega) _ rfl ?_; intro g cap w2 hown2 hg2 hat2 hlt2; have e0 := unhide HFAR _ _ _ _ hg2 c0; have e1 := unhide HFAR _ _ _ _ hg2 c1; have e2 := unhide HFAR _ _ _ _ hg2 c2; have e3 := unhide HFAR _ _ _ _ hg2 c3; have e4 := unhide HFAR _ _ _ _ hg2 c4; have e5 := unhide HFAR _ _ _ _ hg2 c5))
      go_wp2
      have hbA : Below w.heap.size w ((w1.alloc (.cells #[.int .u8 x.kind, .string x.name, .int .i64 x.up, .int .i64 x.size, .int .i64 x.time, .string x.text, .slice k1 x.kids.length kc1] 68)).drew) := below_drewN ((hbl.trans (hb1.mono hsz)).alloc hwz _) 1
      have hbB : Below w.heap.size w w2 := hbA.grown hg2 hbA.size (fun j e => ((unhide HO1).1.lt j e).1)
      have kept : ∀ (B : Nat) (kv : Value) (ks : List Nat), w1.ownsRow B 3 1 kv ks.length (ints ks) → w2.ownsRow B 3 1 kv ks.length (ints ks) := fun B kv ks h => own_keep (W := (w1.alloc (.cells #[.int .u8 x.kind, .string x.name, .int .i64 x.up, .int .i64 x.size, .int .i64 x.time, .string x.text, .slice k1 x.kids.length kc1] 68)).drew) (show World.ownsRow _ _ _ _ _ _ _ from h.alloc _) (unhide HW _) (by decide) hg2
      have hmapx : (l ++ [(x, Value.slice k1 x.kids.length kc1)]).map (·.1) = L.take (k + 1) := by
        rw [List.map_append, unhide HMAP, List.take_succ_eq_append_getElem hlt, (List.getElem?_eq_some_iff.1 (unhide HX)).2]; rfl
      go_roundw
      case rel =>
        refine ⟨k + 1, l ++ [(x, .slice k1 x.kids.length kc1)], by omega, by go_num, by simp [hlk], hmapx, ⟨?_, ?_⟩, hbB⟩
        · rw [cellsL_snoc, List.length_append, hlk]
          rw [hlk] at hown2
          exact hown2
        · intro p hp
          rw [List.mem_append] at hp
          rcases hp with hp | hp
          · exact kept _ _ _ ((unhide HO1).2 p hp)
          · simp only [List.mem_singleton] at hp
            subst hp
            exact kept _ _ _ (owns_base' hsz (unhide HKI))
      case measure => simp [intOf]; omega
    · obtain rfl : k = L.length := by omega
      go_wp2
      go_ret
      exact ⟨_, l, rfl, hown, by rw [hmap, List.take_length], hbl⟩
end Go.Proofs.YtfemboojdablhaaGreatDoor.Tre
