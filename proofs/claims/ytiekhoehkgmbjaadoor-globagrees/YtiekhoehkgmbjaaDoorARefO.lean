/- The law AutoMatches. -/
import Derived.Test.YtiekhoehkgmbjaaDoorARefN
import Derived.Test.YtiekhoehkgmbjaaDoorAMatch
namespace Go.Proofs.YtiekhoehkgmbjaaDoor
open Go.RowKit Go.Maps

theorem express_all : ∀ (n : Nat) (e : ExprD), nodes e ≤ n → n ≤ 100000000 → ExpressOK e := by
  intro n
  induction n with
  | zero => intro e h _; cases e; rw [nodes] at h; omega
  | succ n ih =>
    rintro ⟨op, tx, ks⟩ h hn
    rw [nodes] at h
    have hl := len_nodes ks
    exact express_of (exprs_of (fun k hk => ih k (by have := nodes_mem hk; omega) (by omega)) (by omega))
set_option maxRecDepth 100000 in
set_option maxHeartbeats 4000000 in
theorem law_any (op : Int) (s : ByteArray) (v : Value) (ks : List ExprD) (t : ByteArray) (w : World) (hk : KRd w.heap.size w v ks) (hs : s.size ≤ 1000000000) (hwt : wt (.mk op s.data.toList ks) ≤ 10000000) (hn : nodes (.mk op s.data.toList ks) ≤ 10000000) (ht : t.size ≤ 1000000000) (hT : TabW w) (hpos : 0 < w.heap.size) :
    Calls Tryd.prog 3 #[.agg #[.int .i64 op, .string s, v], .string t] w fun e w' => e = .returned (.bool true) ∧ Below w.heap.size w w' := by
  obtain ⟨p, c, rfl⟩ := kids_shape hk
  have hb0 : EBox (w.alloc (.cells #[.int .i64 op, .string s, .slice p ks.length c] 24)) w.heap.size op s (.slice p ks.length c) := ebox w op s (.slice p ks.length c)
  have hal : Below w.heap.size w (w.alloc (.cells #[.int .i64 op, .string s, .slice p ks.length c] 24)) := (Below.refl _ _).alloc (Nat.le_refl _) _
  obtain ⟨W1, hW1⟩ : ∃ W1, w.alloc (.cells #[.int .i64 op, .string s, .slice p ks.length c] 24) = W1 := ⟨_, rfl⟩
  have hs1 : W1.heap.size = w.heap.size + 1 := by rw [← hW1, World.size_alloc]
  rw [hW1] at hb0 hal
  have hex := express_all _ (.mk op s.data.toList ks) (Nat.le_refl _) (by omega) w.heap.size op s ks _ W1 rfl hs (hk.below hal) hal.size
  obtain ⟨b0, b1, b2⟩ := hb0.cells
  have HK := hide hk
  have HAL := hide hal
  have HB0 := hide hb0
  have HS1 := hide hs1
  clear hk hal hb0 hs1
  go_enter Tryd.func3, Tryd.ntmps3
  go_wp2_with first
    | (go_at_call 10; refine hex.mono ?_; rintro e w2 ⟨v2, rfl, hkin, hb2⟩; have hpos2 : 0 < w2.heap.size := (by have := HAL.out.size; have := hb2.size; omega); have hT2 : TabW w2 := (hT.below hpos (HAL.out.trans (hb2.mono HAL.out.size))); obtain ⟨pa, pc, hpv⟩ := kin_shape hkin; subst hpv; have hma := match_any op s _ ks t w2 (hkin.at_ (fun k hk => hk.2)) hs hwt ht hT2 hpos2)
    | (go_at_call 9; refine hma.mono ?_; rintro e w3 ⟨r, rfl, hr, hb3⟩; have hb13 : Below W1.heap.size W1 w3 := (hb2.trans (hb3.mono hb2.size)); have hE3 : EBox w3 w.heap.size op s (.slice p ks.length c) := ((hb13.block _ (by have := HS1.out; omega)).trans HB0.out); obtain ⟨d0, d1, d2⟩ := hE3.cells; have hb03 : Below w.heap.size w w3 := (HAL.out.trans (hb13.mono HAL.out.size)); have hrm := rmatch_any op s _ ks t w3 ((HK.out.below hb03).wide hb03.size) hs hn ht)
    | (go_at_call 11; refine hrm.mono ?_; rintro e w4 ⟨r2, rfl, hr2, hb4⟩)
  go_ret
  have e : r = r2 := by rw [Bool.eq_iff_iff, hr, hr2]
  subst e
  exact ⟨by simp, hb03.trans (hb4.mono hb03.size)⟩
end Go.Proofs.YtiekhoehkgmbjaaDoor
