/- One line more: what speaks against it. -/
import Derived.Test.YtconbmfbokpklaaGreatDoorReadM
import Derived.Test.YtconbmfbokpklaaGreatDoorGPlain
import Derived.Great.BuildSlice
namespace Go.Proofs.YtconbmfbokpklaaGreatDoor
open Go.RowKit Go.Maps

/-- What add makes of a line. -/
def addR (L : List NodeD) (K : List ByteArray) (line : ByteArray) (ended : Bool) : PutD := match lineD line with
  | none => .no 2
  | some ln => if ended = false then .no 2 else if 200 < L.length then .no 4 else putD L K ln
theorem cells_O {W : World} {p : Value × List Addr} (h : OErr W p) : p.1.cells = #[p.1] := by
  rcases h with h | ⟨t, v, e, _⟩
  · rw [h]; rfl
  · rw [e]; rfl
theorem build4 {ops : Array Oper} {rest : List Oper} {o : Oper} {a : Act} {w : World} {Q : Exit → Act → World → Prop} (hg : o.guard = none) (x0 x1 x2 x3 : Operand) (ho : o.op = .buildSlice 111 4 #[(0, x0), (1, x1), (2, x2), (3, x3)]) (v0 v1 v2 v3 : Value)
    (e0 : a.eval x0 = v0) (e1 : a.eval x1 = v1) (e2 : a.eval x2 = v2) (e3 : a.eval x3 = v3) (c0 : v0.cells = #[v0]) (c1 : v1.cells = #[v1]) (c2 : v2.cells = #[v2]) (c3 : v3.cells = #[v3])
    (h : wpList Tryz.prog ops Q rest (a.put o.dst (.slice (some ⟨w.heap.size, 0, none⟩) 4 4)) (w.alloc (.cells #[v0, v1, v2, v3] 48))) : wpList Tryz.prog ops Q (o :: rest) a w := by
  have hi := Tryz.info48
  cases hie : Tryz.prog.info? 48 with
  | none => rw [hie] at hi; cases hi
  | some ie =>
    rw [hie] at hi
    simp only [Option.map_some, Option.some.injEq, Prod.mk.injEq] at hi
    obtain ⟨hz, hsz, _⟩ := hi
    refine wpList_buildSlice hg 111 48 4 _ ho _ ie .nilIface Tryz.underlying111 hie hz (by rw [hsz]; omega) (by rw [hsz]; omega) ?_ h
    rw [hsz]
    have hn : Value.nilIface.cells = #[Value.nilIface] := rfl
    have hr4 : Array.range 4 = #[0, 1, 2, 3] := by decide
    simp [e0, e1, e2, e3, Instr.fill, c0, c1, c2, c3, hn, hr4]
def J4 (p0 p1 p2 p3 : Value × List Addr) (w2 : World) (v : Value) (w' : World) : Prop := ∃ x : Value × List Addr, v = x.1 ∧ OErr w' x ∧ x.2 = p0.2 ++ (p1.2 ++ (p2.2 ++ p3.2)) ∧ nn x = (nn p0 || (nn p1 || (nn p2 || nn p3))) ∧ Below w2.heap.size w2 w'
theorem join4 (p0 p1 p2 p3 : Value × List Addr) (w2 : World) (h0 : OErr w2 p0) (h1 : OErr w2 p1) (h2 : OErr w2 p2) (h3 : OErr w2 p3) : Calls Tryz.prog 39 #[.slice (some ⟨w2.heap.size, 0, none⟩) 4 4] (w2.alloc (.cells #[p0.1, p1.1, p2.1, p3.1] 48)) (fun e w' => ∃ v, e = .returned v ∧ J4 p0 p1 p2 p3 w2 v w') := by
  have hal : Below w2.heap.size w2 (w2.alloc (.cells #[p0.1, p1.1, p2.1, p3.1] 48)) := (Below.refl _ _).alloc (Nat.le_refl _) _
  refine (join_any w2.heap.size 4 [p0, p1, p2, p3] _ (fun j x hx => ?_) (by simp) (by simp) (fun x hx => ?_)).mono ?_
  · match j, hx with
    | 0, hx => cases hx; rw [World.cell?_alloc_at _ _ _ _ rfl]; rfl
    | 1, hx => cases hx; rw [World.cell?_alloc_at _ _ _ _ rfl]; rfl
    | 2, hx => cases hx; rw [World.cell?_alloc_at _ _ _ _ rfl]; rfl
    | 3, hx => cases hx; rw [World.cell?_alloc_at _ _ _ _ rfl]; rfl
    | j + 4, hx => cases hx
  · simp at hx
    rcases hx with rfl | rfl | rfl | rfl
    · exact h0.below hal
    · exact h1.below hal
    · exact h2.below hal
    · exact h3.below hal
  · rintro e w' ⟨x, rfl, g1, g2, g3, g4⟩
    refine ⟨_, rfl, x, rfl, g1, by rw [g2]; simp, ?_, hal.trans (g4.mono hal.size)⟩
    rw [g3]
    cases e1 : nn p0 <;> cases e2 : nn p1 <;> cases e3 : nn p2 <;> cases e4 : nn p3 <;> simp [e1, e2, e3, e4]
/-- Which of the four comes first. -/
theorem errno4 {C : Nat} {A : Ads} {W : World} (hs : Sent C A W) {p : Value × List Addr} {k sz tm : Int} {tx way line : ByteArray} {L : List NodeD} {K : List ByteArray} {ended : Bool} (hcase : RLCase A p k sz tm tx way (lineD line))
    (hn : (nn p || (nn (leafE A.t ended) || (nn (leafE A.m (decide (L.length ≤ 200))) || nn (spotP A L K (upS way) way)))) = true) (hK : ∀ a, look K (upS way) = some a → ∃ d, L[a]? = some d) :
    ∃ x, addR L K line ended = .no x ∧ errnoS A (p.2 ++ ((leafE A.t ended).2 ++ ((leafE A.m (decide (L.length ≤ 200))).2 ++ (spotP A L K (upS way) way).2))) = x := by
  unfold addR
  cases e : lineD line with
  | none =>
    rw [e] at hcase
    refine ⟨2, rfl, ?_⟩
    obtain ⟨_, h2, h3⟩ := hcase
    obtain ⟨a, ha⟩ := List.exists_mem_of_ne_nil _ h2
    have := h3 a ha
    subst this
    unfold errnoS; rw [if_pos (by simp [ha])]
  | some ln =>
    rw [e] at hcase
    obtain ⟨rfl, rfl⟩ := hcase
    cases ended with
    | false =>
      refine ⟨2, rfl, ?_⟩
      unfold errnoS; rw [if_pos (by simp [leafE])]
    | true =>
      simp only [Bool.true_eq_false, if_false]
      by_cases hl : L.length ≤ 200
      · rw [if_neg (by omega)]
        rw [decide_eq_true hl] at hn ⊢
        have hn2 : nn (spotP A L K (upS way) way) = true := by simpa [nn, leafE] using hn
        unfold putD spotP at *
        cases hu : look K (upS way) with
        | none => refine ⟨6, rfl, ?_⟩; unfold errnoS; simp [leafE, hs.tn, hs.mn]
        | some a =>
          obtain ⟨d, hd⟩ := hK a hu
          simp only [hu, hd] at hn2 ⊢
          by_cases hdd : dirD d = false
          · rw [if_pos hdd] at hn2 ⊢
            refine ⟨7, rfl, ?_⟩
            unfold errnoS; simp [leafE, hdd, hs.tk, hs.mkd, hs.nk]
          · rw [if_neg hdd] at hn2 ⊢
            cases hw : look K way with
            | none => rw [hw] at hn2; exact absurd hn2 (by simp [leafE, nn])
            | some y =>
              refine ⟨8, by simp, ?_⟩
              unfold errnoS; simp [leafE, hdd, hs.tw, hs.mw, hs.nw, hs.kw]
      · rw [if_pos (by omega), decide_eq_false hl]
        refine ⟨4, rfl, ?_⟩
        unfold errnoS; rw [if_neg, if_pos (by simp [leafE])]
        unfold spotP
        intro h
        simp [leafE] at h
        rcases h with h | h
        · exact hs.tm h
        · revert h
          split
          · simp [hs.tn]
          · split
            · simp [hs.tn]
            · split
              · simp [hs.tk]
              · split <;> simp [hs.tw]
theorem all_none {A : Ads} {p : Value × List Addr} {k sz tm : Int} {tx way line : ByteArray} {L : List NodeD} {K : List ByteArray} {ended : Bool} (hcase : RLCase A p k sz tm tx way (lineD line))
    (hn : (nn p || (nn (leafE A.t ended) || (nn (leafE A.m (decide (L.length ≤ 200))) || nn (spotP A L K (upS way) way)))) = false) : lineD line = some ⟨(k, sz, tm, tx), way⟩ ∧ ended = true ∧ L.length ≤ 200 ∧ ∃ a d, look K (upS way) = some a ∧ L[a]? = some d ∧ dirD d = true ∧ look K way = none := by
  simp only [Bool.or_eq_false_iff] at hn
  obtain ⟨h0, h1, h2, h3⟩ := hn
  have hl : lineD line = some ⟨(k, sz, tm, tx), way⟩ := by
    cases e : lineD line with
    | none => rw [e] at hcase; rw [hcase.1] at h0; cases h0
    | some ln => rw [e] at hcase; rw [hcase.2]
  have he : ended = true := by
    cases ended
    · exact absurd h1 (by simp [leafE, nn])
    · rfl
  have hL : L.length ≤ 200 := by
    by_cases h : L.length ≤ 200
    · exact h
    · rw [decide_eq_false h] at h2; exact absurd h2 (by simp [leafE, nn])
  refine ⟨hl, he, hL, ?_⟩
  unfold spotP at h3
  cases hu : look K (upS way) with
  | none => rw [hu] at h3; exact absurd h3 (by simp [leafE, nn])
  | some a =>
    simp only [hu] at h3
    cases hd : L[a]? with
    | none => rw [hd] at h3; exact absurd h3 (by simp [leafE, nn])
    | some d =>
      simp only [hd] at h3
      by_cases hdd : dirD d = false
      · rw [if_pos hdd] at h3; exact absurd h3 (by simp [leafE, nn])
      · rw [if_neg hdd] at h3
        cases hw : look K way with
        | some y => rw [hw] at h3; exact absurd h3 (by simp [leafE, nn])
        | none => exact ⟨a, d, rfl, hd, by simpa using hdd, rfl⟩
end Go.Proofs.YtconbmfbokpklaaGreatDoor
