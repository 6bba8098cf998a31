/- A region that draws its order and only reads, within a round. -/
import Derived.Test.YtjbdoeoimodhkaaGreatDoorARange
namespace Go.Proofs.YtjbdoeoimodhkaaGreatDoor
open Go.RowKit Go.Shelf

def noDefer (o : Oper) : Bool := match o.op with
  | .defer _ => false
  | _ => true
theorem op_round {F : Fence} (hro : F.round = none) (l : Nat) {n : Nat} {P : Program} {o : Oper} (hd : noDefer o = true) {a : Act} {w : World} {K : Act → World → Prop} {Q : Exit → Act → World → Prop} (h : o.wpIn F n P a w K Q) : o.wpIn (F.inRound l) n P a w K Q := by
  have hnd : ∀ c, o.op ≠ .defer c := fun c e => by unfold noDefer at hd; rw [e] at hd; cases hd
  unfold Oper.wpIn at h ⊢
  rw [hro, Oper.semAt_none] at h
  rw [Fence.inRound_round, Oper.semAt_some l _ _ hnd]
  refine ⟨h.1, ?_⟩
  have h2 := h.2
  generalize (execOp a.eval o).run P w = r at h2
  match r, h2 with
  | .ok (.value v) w', h2 => exact h2
  | .ok .skip w', h2 => exact h2
  | .ok (.defer d) w', h2 => exact h2
  | .ok (.enter f args) w', h2 => exact h2
  | .ok (.row row args) w', h2 => exact h2
  | .ok (.round l f tmps assign body) w', h2 => exact h2
  | .halt (.panic v) w', h2 => exact h2
theorem any_round {F : Fence} (hro : F.round = none) (l : Nat) {n : Nat} {P : Program} {md : Region.Mode} {ops : Array Oper} (hd : ops.all noDefer = true) {Q : Exit → Act → World → Prop} : ∀ (fuel : Nat) (listed : Array Bool) (a : Act) (w : World), wpAnyIn F n P md ops Q fuel listed a w → wpAnyIn (F.inRound l) n P md ops Q fuel listed a w := by
  intro fuel
  induction fuel with
  | zero => intro listed a w h; exact h
  | succ fuel ih =>
    rintro listed a w ⟨h1, h2⟩
    refine ⟨h1, fun i hi => ?_⟩
    have h3 := h2 i hi
    unfold wpOpIn at h3 ⊢
    cases ho : ops[i]? with
    | none => rw [ho] at h3; exact ih _ _ _ h3
    | some o =>
      rw [ho] at h3
      dsimp only at h3 ⊢
      have hdo : noDefer o = true := by
        rw [Array.all_eq_true] at hd
        obtain ⟨hlt, e⟩ := Array.getElem?_eq_some_iff.1 ho
        rw [← e]; exact hd i hlt
      split at h3
      · rename_i hw
        rw [if_pos hw]
        exact op_round hro l hdo (Oper.wpIn_mono (fun a w h => ih _ a w h) h3)
      · rename_i hw
        rw [if_neg hw]
        exact ⟨h3.1, ih _ _ _ h3.2⟩
theorem region_quiet_round {F : Fence} (hro : F.round = none) (l0 : Nat) {n : Nat} {P : Program} {id : Nat} {Q : Exit → Act → World → Prop} {a : Act} {w : World} {l : List Oper} (hd : l.toArray.all noDefer = true) (hm : P.follows .mixedOrders = true) (hB : Region.lexB .any l.toArray = true)
    (h : wpQuietIn F n P l.toArray (fun w' => ∃ n, w' = w.drewN n) (fun a' => ∀ w', (∃ n, w' = w.drewN n) → Q .normal a' w') l a) : (Code.region id l.toArray true).wpIn (F.inRound l0) n P Q a w := by
  simp only [Region.lexB, Bool.and_eq_true] at hB
  refine wpIn_region_any hm (any_round hro l0 hd _ _ _ _ ?_)
  refine wpAnyIn_of_quiet (C := fun w' => ∃ n, w' = w.drewN n) (Q := fun a' => ∀ w', (∃ n, w' = w.drewN n) → Q .normal a' w') hro (fun _ w' hw' h => h w' hw') _ _ _ _ ⟨1, rfl⟩ ?_
  have := wpAnyQIn_lex (F := F) (n := n) (C := fun w' => ∃ n, w' = w.drewN n) (md := .any) hB.1 l 0 (Array.replicate l.toArray.size false) a (by simp) (by simpa using hB.2) h
  simpa using this
end Go.Proofs.YtjbdoeoimodhkaaGreatDoor
