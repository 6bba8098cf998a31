/- Merged: Maps, Spots, Bld, NewB. -/
import Derived.Test.YtconbmfbokpklaaGreatDoorReaders
import Derived.Maps.OwnSet
import Derived.Maps.OwnOps
import Derived.StringKeys
import Derived.Maps.Views
/- The program's two maps: how a line's fields are read; what later lines ask of a path. -/
namespace Go.Proofs.YtconbmfbokpklaaGreatDoor
open Go.RowKit Go.Maps

theorem lawS : Keyed Tryz.prog 9 := string_keyed Tryz.underlying9
/-- How an element of the readers reads: its function's number. -/
def fnElem : Value → Option (DataW Unit × List MemPlace)
  | .func (.func f) xs ys => match xs.toList, ys.toList with
    | [], [] => if f = 0 then none else some (.lit (.int .i64 (f : Int)), [])
    | _, _ => none
  | .nilFunc => some (.lit (.int .i64 0), [])
  | _ => none
/-- A map literal's entry: as 'm[k] = v'. -/
theorem wpList_insert_own {P : Program} (w : World) {ops : Array Oper} {rest : List Oper} {o : Oper} {a : Act} {Q : Exit → Act → World → Prop}
    (hg : o.guard = none) (m x v : Operand) (t : TypeId) (hop : o.op = Op.insert t m x v)
    (k e : TypeId) (K : Keyed P k) (ht : P.underlying t = some (.map k e)) (R : Value → Option (DataW Unit × List MemPlace)) (b n : Nat) (D : DataW Unit)
    (hm : a.eval m = .map (some b)) (hown : w.ownsMap P k R b n D) (hn : n < maxLen) (key val : Value) (kl : Lit) (hx : a.eval x = key) (hv : a.eval v = val) (hkey : keyOf P k key = some kl)
    (d : DataW Unit) (ps : List MemPlace) (hval : R val = some (d, ps))
    (hK : ∀ w', w'.ownsMap P k R b (n + 1) (D.put kl d) → w.grownBy w' (some b) → wpList P ops Q rest (a.put o.dst undef) w') :
    wpList P ops Q (o :: rest) a w := by
  refine wpList_plain hg fun K' hK' => ?_
  obtain ⟨w', hrun, r1, r2⟩ := hown.update K ht hn hkey hval
  unfold Oper.wp
  simp [execOp, hop, hm, hx, hv, hrun, Result.andThen]
  exact hK' _ _ (hK w' r1 r2)

def lt (l : List UInt8) : Lit := .string l
def rdD : DataW Unit := ((((((DataW.map []).put (lt [100]) (.lit (.int .i64 62))).put (lt [120]) (.lit (.int .i64 63))).put (lt [102]) (.lit (.int .i64 64))).put (lt [116]) (.lit (.int .i64 65))).put (lt [108]) (.lit (.int .i64 66)))
theorem keyS (s : ByteArray) (hs : s.size ≤ maxLen) : keyOf Tryz.prog 9 (.string s) = some (.string s.data.toList) := WideMaps.keyOf_string_mk Tryz.underlying9 hs

set_option maxHeartbeats 1000000 in
set_option maxRecDepth 100000 in
theorem lineReaders_any (w : World) : Calls Tryz.prog 35 #[] w fun e w' => e = .returned (.map (some w.heap.size)) ∧ w'.ownsMap Tryz.prog 9 fnElem w.heap.size 5 rdD ∧ Below w.heap.size w w' := by
  have hmm := @run_makeMap Tryz.prog
  have h0 : (w.alloc (.map #[] 0)).ownsMap Tryz.prog 9 fnElem w.heap.size 0 (.map []) := World.ownsMap_made _ _ _ _
  have hb0 : Below w.heap.size w (w.alloc (.map #[] 0)) := (Below.refl _ _).alloc (Nat.le_refl _) _
  have tok0 : True := trivial
  have tok1 : True := trivial
  have tok2 : True := trivial
  have tok3 : True := trivial
  have tok4 : True := trivial
  go_enter Tryz.func35, Tryz.ntmps35
  go_wp2_with (first
    | (show wpList _ _ _ (Oper.mk _ (Op.insert _ _ _ _) _ _ _ _ :: _) _ _; have _t := tok0; refine wpList_insert_own _ rfl _ _ _ 52 rfl 9 106 lawS Tryz.underlying52 fnElem w.heap.size 0 _ rfl h0 (by unfold maxLen; omega) _ _ _ rfl rfl (keyS _ (by unfold maxLen; decide)) _ [] rfl ?_; clear tok0; intro w1 h1 hg1)
    | (show wpList _ _ _ (Oper.mk _ (Op.insert _ _ _ _) _ _ _ _ :: _) _ _; have _t := tok1; refine wpList_insert_own _ rfl _ _ _ 52 rfl 9 106 lawS Tryz.underlying52 fnElem w.heap.size 1 _ rfl h1 (by unfold maxLen; omega) _ _ _ rfl rfl (keyS _ (by unfold maxLen; decide)) _ [] rfl ?_; clear tok1; intro w2 h2 hg2)
    | (show wpList _ _ _ (Oper.mk _ (Op.insert _ _ _ _) _ _ _ _ :: _) _ _; have _t := tok2; refine wpList_insert_own _ rfl _ _ _ 52 rfl 9 106 lawS Tryz.underlying52 fnElem w.heap.size 2 _ rfl h2 (by unfold maxLen; omega) _ _ _ rfl rfl (keyS _ (by unfold maxLen; decide)) _ [] rfl ?_; clear tok2; intro w3 h3 hg3)
    | (show wpList _ _ _ (Oper.mk _ (Op.insert _ _ _ _) _ _ _ _ :: _) _ _; have _t := tok3; refine wpList_insert_own _ rfl _ _ _ 52 rfl 9 106 lawS Tryz.underlying52 fnElem w.heap.size 3 _ rfl h3 (by unfold maxLen; omega) _ _ _ rfl rfl (keyS _ (by unfold maxLen; decide)) _ [] rfl ?_; clear tok3; intro w4 h4 hg4)
    | (show wpList _ _ _ (Oper.mk _ (Op.insert _ _ _ _) _ _ _ _ :: _) _ _; have _t := tok4; refine wpList_insert_own _ rfl _ _ _ 52 rfl 9 106 lawS Tryz.underlying52 fnElem w.heap.size 4 _ rfl h4 (by unfold maxLen; omega) _ _ _ rfl rfl (keyS _ (by unfold maxLen; decide)) _ [] rfl ?_; clear tok4; intro w5 h5 hg5))
  go_ret
  have g : ∀ {a b : World}, a.grownBy b (some w.heap.size) → Below w.heap.size w a → Below w.heap.size w b := fun hg hb => hb.grown hg hb.size (fun k e => by cases e; exact Nat.le_refl _)
  exact ⟨rfl, h5, g hg5 (g hg4 (g hg3 (g hg2 (g hg1 hb0))))⟩
end Go.Proofs.YtconbmfbokpklaaGreatDoor
/- What the two maps answer. -/
namespace Go.Proofs.YtconbmfbokpklaaGreatDoor
open Go.RowKit Go.Maps

/-- Which function reads a line of that sign. -/
def kfn (k : List UInt8) : Option Nat := if k = [108] then some 66 else if k = [116] then some 65 else if k = [102] then some 64 else if k = [120] then some 63 else if k = [100] then some 62 else none
theorem lt_ne {a b : List UInt8} (h : ¬ a = b) : lt a ≠ lt b := fun e => h (by unfold lt at e; injection e)
theorem keyLitS {l : List UInt8} : WideAt.IsKeyLit (lt l) := by unfold lt WideAt.IsKeyLit; trivial
theorem rd_at (k : List UInt8) (z : DataW Unit) : Maps.has rdD (lt k) = (kfn k).isSome ∧ rdD.atKey (lt k) z = (match kfn k with
    | some f => .lit (.int .i64 (f : Int))
    | none => z) := by
  have m0 : IsMap (DataW.map [] : DataW Unit) := isMap_empty
  unfold rdD kfn
  by_cases h1 : k = [108]
  · subst h1
    rw [if_pos rfl]
    exact ⟨has_put_same ((((m0.put _ _).put _ _).put _ _).put _ _) keyLitS _, atKey_put_same ((((m0.put _ _).put _ _).put _ _).put _ _) keyLitS _ _⟩
  · rw [if_neg h1, has_put_other (lt_ne h1), atKey_put_other (lt_ne h1)]
    by_cases h2 : k = [116]
    · subst h2
      rw [if_pos rfl]
      exact ⟨has_put_same (((m0.put _ _).put _ _).put _ _) keyLitS _, atKey_put_same (((m0.put _ _).put _ _).put _ _) keyLitS _ _⟩
    · rw [if_neg h2, has_put_other (lt_ne h2), atKey_put_other (lt_ne h2)]
      by_cases h3 : k = [102]
      · subst h3
        rw [if_pos rfl]
        exact ⟨has_put_same ((m0.put _ _).put _ _) keyLitS _, atKey_put_same ((m0.put _ _).put _ _) keyLitS _ _⟩
      · rw [if_neg h3, has_put_other (lt_ne h3), atKey_put_other (lt_ne h3)]
        by_cases h4 : k = [120]
        · subst h4
          rw [if_pos rfl]
          exact ⟨has_put_same (m0.put _ _) keyLitS _, atKey_put_same (m0.put _ _) keyLitS _ _⟩
        · rw [if_neg h4, has_put_other (lt_ne h4), atKey_put_other (lt_ne h4)]
          by_cases h5 : k = [100]
          · subst h5
            rw [if_pos rfl]
            exact ⟨has_put_same m0 keyLitS _, atKey_put_same m0 keyLitS _ _⟩
          · rw [if_neg h5, has_put_other (lt_ne h5), atKey_put_other (lt_ne h5)]
            exact ⟨rfl, rfl⟩
theorem Tryz.zero106 (w : World) : (zeroValue 106).run Tryz.prog w = .ok .nilFunc w := by kernel_rfl
theorem Tryz.zero80 (w : World) : (zeroValue 80).run Tryz.prog w = .ok (.agg #[.int .i64 0, .bool false]) w := by kernel_rfl
def fnV : Option Nat → Value
  | some f => .func (.func f) #[] #[]
  | none => .nilFunc
theorem fn_inv {v : Value} {f : Nat} {ps : List MemPlace} (h : fnElem v = some (.lit (.int .i64 (f : Int)), ps)) : v = fnV (if f = 0 then none else some f) := by
  unfold fnElem at h
  split at h
  · rename_i g xs ys
    split at h
    · rename_i e1 e2
      split at h
      · cases h
      · rename_i hg
        simp only [Option.some.injEq, Prod.mk.injEq, DataW.lit.injEq, Lit.int.injEq] at h
        have h3 : (g : Int) = (f : Int) := h.1.2
        have : g = f := Int.ofNat.inj h3
        subst this
        rw [if_neg hg, Array.toList_eq_nil_iff.1 e1, Array.toList_eq_nil_iff.1 e2]; rfl
    · cases h
  · simp only [Option.some.injEq, Prod.mk.injEq, DataW.lit.injEq, Lit.int.injEq] at h
    have h3 : (0 : Int) = (f : Int) := h.1.2
    rw [if_pos (by omega)]; rfl
  · cases h
/-- 'read, known := b.readers[sign]' -/
theorem rd_look {W : World} {bm : Nat} (h : W.ownsMap Tryz.prog 9 fnElem bm 5 rdD) (key : ByteArray) (hs : key.size ≤ maxLen) :
    (Instr.lookup 52 (.map (some bm)) (.string key) true).run Tryz.prog W = .ok (.tuple #[fnV (kfn key.data.toList), .bool (kfn key.data.toList).isSome]) W := by
  obtain ⟨v, ps, hrun, hv⟩ := h.look_ok lawS Tryz.underlying52 (Tryz.zero106 W) (zd := .lit (.int .i64 0)) (zp := []) rfl (keyS key hs)
  have e := rd_at key.data.toList (.lit (.int .i64 0))
  have e1 : Maps.has rdD (.string key.data.toList) = (kfn key.data.toList).isSome := e.1
  have e2 : rdD.atKey (.string key.data.toList) (.lit (.int .i64 0)) = _ := e.2
  rw [e1] at hrun
  rw [e2] at hv
  cases hk : kfn key.data.toList with
  | none =>
    rw [hk] at hv hrun
    have := fn_inv (f := 0) hv
    rw [if_pos rfl] at this
    rw [hrun, this]
  | some f =>
    rw [hk] at hv hrun
    have hf : f ≠ 0 := by
      unfold kfn at hk
      repeat' split at hk
      all_goals first | (cases hk; omega) | cases hk
    have := fn_inv hv
    rw [if_neg hf] at this
    rw [hrun, this]

/-! ### Spots -/
def spotElem : Value → Option (DataW Unit × List MemPlace)
  | .agg c => match c.toList with
    | [.int .i64 n, .bool d] => some (.agg [.lit (.int .i64 n), .lit (.bool d)], [])
    | _ => none
  | _ => none
def spD (a : Nat) (d : Bool) : DataW Unit := .agg [.lit (.int .i64 (a : Int)), .lit (.bool d)]
def zD : DataW Unit := .agg [.lit (.int .i64 0), .lit (.bool false)]
theorem sp_inv {v : Value} {a : Nat} {d : Bool} {ps : List MemPlace} (h : spotElem v = some (spD a d, ps)) : v = .agg #[.int .i64 (a : Int), .bool d] := by
  unfold spotElem at h
  split at h
  · rename_i c
    split at h
    · rename_i n b e
      simp only [spD, Option.some.injEq, Prod.mk.injEq, DataW.agg.injEq, List.cons.injEq, DataW.lit.injEq, Lit.int.injEq, Lit.bool.injEq] at h
      have h1 : n = (a : Int) := h.1.1.2
      have h2 : b = d := h.1.2.1
      have : c = #[.int .i64 n, .bool b] := by apply Array.toList_inj.1; rw [e]
      rw [this, h1, h2]
    · cases h
  · cases h
def SpotOk (D : DataW Unit) (L : List NodeD) (k : List UInt8) : Option Nat → Prop
  | none => Maps.has D (lt k) = false
  | some a => Maps.has D (lt k) = true ∧ ∃ d, L[a]? = some d ∧ D.atKey (lt k) zD = spD a (dirD d)
/-- Block bm is the map of the paths K of the nodes L. -/
def SpotsAre (W : World) (bm : Nat) (L : List NodeD) (K : List ByteArray) : Prop := ∃ D, W.ownsMap Tryz.prog 9 spotElem bm K.length D ∧ ∀ x : ByteArray, SpotOk D L x.data.toList (look K x)
/-- 'above, known := b.spots[x]' -/
theorem sp_look {W : World} {bm : Nat} {L : List NodeD} {K : List ByteArray} (h : SpotsAre W bm L K) (x : ByteArray) (hs : x.size ≤ maxLen) :
    ∃ v, (Instr.lookup 51 (.map (some bm)) (.string x) true).run Tryz.prog W = .ok (.tuple #[v, .bool (look K x).isSome]) W ∧ (Instr.lookup 51 (.map (some bm)) (.string x) false).run Tryz.prog W = .ok v W ∧ ∃ n d, v = .agg #[.int .i64 n, .bool d] ∧ ∀ a, look K x = some a → n = (a : Int) ∧ ∃ nd, L[a]? = some nd ∧ d = dirD nd := by
  obtain ⟨D, hown, hok⟩ := h
  obtain ⟨v, ps, hrun, hv⟩ := hown.look_ok lawS Tryz.underlying51 (Tryz.zero80 W) (zd := zD) (zp := []) rfl (keyS x hs)
  obtain ⟨v2, ps2, hrun2, hv2⟩ := hown.lookup lawS Tryz.underlying51 (Tryz.zero80 W) (zd := zD) (zp := []) rfl (keyS x hs)
  have hk := hok x
  cases e : look K x with
  | none =>
    rw [e] at hk
    have hk1 : Maps.has D (.string x.data.toList) = false := hk
    have hz : D.atKey (.string x.data.toList) zD = zD := atKey_of_not_has hk1 _
    rw [hz] at hv hv2
    have e1 : v = .agg #[.int .i64 0, .bool false] := sp_inv (a := 0) (d := false) hv
    have e2 : v2 = .agg #[.int .i64 0, .bool false] := sp_inv (a := 0) (d := false) hv2
    rw [hk1] at hrun
    refine ⟨v, hrun, by rw [e1, ← e2]; exact hrun2, 0, false, e1, fun a ha => by cases ha⟩
  | some a =>
    rw [e] at hk
    obtain ⟨hk1, nd, hnd, hat⟩ := hk
    have hk2 : Maps.has D (.string x.data.toList) = true := hk1
    have hat2 : D.atKey (.string x.data.toList) zD = spD a (dirD nd) := hat
    rw [hat2] at hv hv2
    have e1 := sp_inv hv
    have e2 := sp_inv hv2
    rw [hk2] at hrun
    refine ⟨v, hrun, by rw [e1, ← e2]; exact hrun2, (a : Int), dirD nd, e1, fun c hc => ?_⟩
    cases hc
    exact ⟨rfl, nd, hnd, rfl⟩
theorem look_snoc {K : List ByteArray} {way : ByteArray} (hn : look K way = none) (x : ByteArray) : look (K ++ [way]) x = if x.data.toList = way.data.toList then some K.length else look K x := by
  unfold look at hn ⊢
  rw [List.findIdx?_append]
  by_cases h : x.data.toList = way.data.toList
  · rw [if_pos h, h, hn]
    simp
  · rw [if_neg h]
    have : List.findIdx? (fun k : ByteArray => k.data.toList == x.data.toList) [way] = none := by
      rw [List.findIdx?_eq_none_iff]
      intro y hy
      simp at hy
      subst hy
      simp; exact fun e => h (by rw [e])
    rw [this]; simp
theorem spots_root {W : World} {bm : Nat} (h : W.ownsMap Tryz.prog 9 spotElem bm 1 ((DataW.map []).put (lt []) (spD 0 true))) : SpotsAre W bm [rootD] [bs []] := by
  refine ⟨_, h, fun x => ?_⟩
  by_cases e : x.data.toList = []
  · have hl : look [bs []] x = some 0 := look_of (by simp) (by
      show [bs []][0]? = some x
      have : x = bs [] := bs_inj (by rw [e]; rfl)
      rw [this]; rfl)
    rw [hl, e]
    exact ⟨has_put_same isMap_empty keyLitS _, rootD, rfl, atKey_put_same isMap_empty keyLitS _ _⟩
  · have hl : look [bs []] x = none := by
      unfold look
      rw [List.findIdx?_eq_none_iff]
      intro y hy
      simp at hy
      subst hy
      simp [data_bs]; exact fun e2 => e (by rw [e2])
    rw [hl]
    show Maps.has _ (lt x.data.toList) = false
    rw [has_put_other (lt_ne e)]
    rfl
/-- One path more. -/
theorem spots_add {W W' : World} {bm : Nat} {L L' : List NodeD} {K : List ByteArray} {way : ByteArray} {D : DataW Unit} {n : NodeD} (hn : look K way = none) (hlen : K.length = L.length) (hok : ∀ x : ByteArray, SpotOk D L x.data.toList (look K x)) (hD : IsMap D)
    (h : W'.ownsMap Tryz.prog 9 spotElem bm (K.length + 1) (D.put (lt way.data.toList) (spD L.length (dirD n)))) (hold : ∀ (a : Nat) (d : NodeD), L[a]? = some d → ∃ d', L'[a]? = some d' ∧ dirD d' = dirD d) (hnew : L'[L.length]? = some n) (_hW : W = W) : SpotsAre W' bm L' (K ++ [way]) := by
  refine ⟨_, by rw [List.length_append]; exact h, fun x => ?_⟩
  rw [look_snoc hn]
  by_cases e : x.data.toList = way.data.toList
  · rw [if_pos e, e, hlen]
    exact ⟨has_put_same hD keyLitS _, n, hnew, atKey_put_same hD keyLitS _ _⟩
  · rw [if_neg e]
    have hk := hok x
    cases hl : look K x with
    | none =>
      rw [hl] at hk
      show Maps.has _ (lt x.data.toList) = false
      rw [has_put_other (lt_ne e)]
      exact hk
    | some a =>
      rw [hl] at hk
      obtain ⟨h1, d, hd, hat⟩ := hk
      obtain ⟨d', hd', hdd⟩ := hold a d hd
      refine ⟨by rw [has_put_other (lt_ne e)]; exact h1, d', hd', ?_⟩
      rw [atKey_put_other (lt_ne e), hat, hdd]
end Go.Proofs.YtconbmfbokpklaaGreatDoor
/- The builder's small functions. -/
namespace Go.Proofs.YtconbmfbokpklaaGreatDoor
open Go.RowKit Go.Maps

/-- The builder's box. -/
def BoxB (W : World) (c : Nat) (nv : Value) (bm br : Nat) : Prop := W.heap[c]? = some (.cells #[nv, .map (some bm), .map (some br)] 54 (0, 0))
theorem BoxB.cells {W : World} {c bm br : Nat} {nv : Value} (h : BoxB W c nv bm br) : W.cell? ⟨c, 0, none⟩ = some nv ∧ W.cell? ⟨c, 1, none⟩ = some (.map (some bm)) ∧ W.cell? ⟨c, 2, none⟩ = some (.map (some br)) ∧ ∀ j, W.frozen? ⟨c, j, none⟩ = false := by
  unfold BoxB at h
  simp [World.cell?, World.frozen?, h]
/-- An error that is one of the package's, or none. -/
def leafE (a : Addr) (ok : Bool) : Value × List Addr := if ok then (.nilIface, []) else (.iface 207 (.pointer (some a)), [a])
def LeafPost (a : Addr) (ok : Bool) (w : World) (e : Ending) (w' : World) : Prop := e = .returned (leafE a ok).1 ∧ w' = w
theorem leaf_yes (a : Addr) (w : World) : LeafPost a true w (.returned .nilIface) w := ⟨rfl, rfl⟩
theorem leaf_no (a : Addr) (w : World) : LeafPost a false w (.returned (.iface 207 (.pointer (some a)))) w := ⟨rfl, rfl⟩
theorem leaf_O {C : Nat} {W : World} {a : Addr} (h : Pointee C W a) (ok : Bool) : OErr W (leafE a ok) := by
  cases ok
  · obtain ⟨_, c, t, h2⟩ := h
    exact .inr ⟨_, _, rfl, .leaf a c t h2⟩
  · exact .inl rfl
set_option maxHeartbeats 1000000 in
theorem checkEnd_any {C : Nat} {A : Ads} (ended : Bool) (w : World) (hs : Sent C A w) : Calls Tryz.prog 40 #[.bool ended] w (LeafPost A.t ended w) := by
  have h0 := hs.c0
  clear hs
  cases ended
  · go_enter Tryz.func40, Tryz.ntmps40
    go_wp2
    go_ret
    exact leaf_no _ _
  · go_enter Tryz.func40, Tryz.ntmps40
    go_wp2
    go_ret
    exact leaf_yes _ _
set_option maxHeartbeats 1000000 in
theorem checkRoom_any {C : Nat} {A : Ads} (c bm br n cap : Nat) (a : Option Addr) (w : World) (hb : BoxB w c (.slice a n cap) bm br) (hs : Sent C A w) (hn : n ≤ 1000000) : Calls Tryz.prog 41 #[.pointer (some ⟨c, 0, none⟩)] w (LeafPost A.m (decide (n ≤ 200)) w) := by
  have h0 := hs.c1
  obtain ⟨b0, b1, b2, _⟩ := hb.cells
  clear hs hb
  by_cases h : n ≤ 200
  · rw [decide_eq_true h]
    go_enter Tryz.func41, Tryz.ntmps41
    go_wp2
    go_ret
    exact leaf_yes _ _
  · rw [decide_eq_false h]
    go_enter Tryz.func41, Tryz.ntmps41
    go_wp2
    go_ret
    exact leaf_no _ _
theorem up_ext {r : ByteArray} {i : Int} (h : LastAt r.data.toList i) : r.extract 0 (max i 0).toNat = upS r := by
  apply bs_inj
  unfold upS
  rw [data_bs, (up_at h).1]
  simp
theorem last_le {r : ByteArray} {i : Int} (h : LastAt r.data.toList i) : i ≤ (r.size : Int) := by
  rcases h with ⟨rfl, _⟩ | ⟨p, q, hp, _, rfl⟩
  · omega
  · have := congrArg List.length hp
    rw [len_data, List.length_append] at this
    omega
set_option maxHeartbeats 1000000 in
theorem upOf_any (way : ByteArray) (w : World) (hs : way.size ≤ 1000000) : Calls Tryz.prog 38 #[.string way] w fun e w' => e = .returned (.string (upS way)) ∧ w' = w := by
  have HL := hide (lastIdx_any way w (by omega))
  go_enter Tryz.func38, Tryz.ntmps38
  go_wp2_with fail
  refine (unhide HL).mono ?_
  rintro e w' ⟨⟨i, rfl, hi⟩, rfl⟩
  have he := up_ext hi
  have hi2 := last_le hi
  have HE := hide he
  rcases hi with ⟨rfl, _⟩ | ⟨p, q, hp, _, rfl⟩
  · go_wp2
    go_ret
    exact ⟨rfl, by first | rfl | trivial⟩
  · have hpl : p.length ≤ way.size := by rw [Int.ofNat_le] at hi2; exact hi2
    have h3 : max (p.length : Int) 0 = (p.length : Int) := by omega
    have h4 : (p.length : Int) ≤ way.size := hi2
    rw [h3] at HE
    go_wp2
    go_ret
    exact ⟨ret_str HE.out, by first | rfl | trivial⟩
/-- What checkSpot answers. -/
def spotP (A : Ads) (L : List NodeD) (K : List ByteArray) (up way : ByteArray) : Value × List Addr := match look K up with
  | none => leafE A.n false
  | some a => match L[a]? with
    | none => leafE A.n false
    | some d => if dirD d = false then leafE A.k false else leafE A.w (look K way).isNone
theorem spotP_n {A : Ads} {L : List NodeD} {K : List ByteArray} {up way : ByteArray} (h : look K up = none) : spotP A L K up way = leafE A.n false := by unfold spotP; rw [h]
theorem spotP_k {A : Ads} {L : List NodeD} {K : List ByteArray} {up way : ByteArray} {a : Nat} {d : NodeD} (h : look K up = some a) (hd : L[a]? = some d) (hk : dirD d = false) : spotP A L K up way = leafE A.k false := by unfold spotP; rw [h]; simp only [hd]; rw [if_pos hk]
theorem spotP_w {A : Ads} {L : List NodeD} {K : List ByteArray} {up way : ByteArray} {a : Nat} {d : NodeD} (h : look K up = some a) (hd : L[a]? = some d) (hk : dirD d = true) : spotP A L K up way = leafE A.w (look K way).isNone := by unfold spotP; rw [h]; simp only [hd]; rw [if_neg (by rw [hk]; simp)]
def SpotPost (p : Value × List Addr) (w : World) (e : Ending) (w' : World) : Prop := e = .returned p.1 ∧ Below w.heap.size w w'
theorem spot_ret {p q : Value × List Addr} {w : World} (h : p = q) (o : Obj) : SpotPost p w (.returned q.1) (w.alloc o) := ⟨by rw [h], (Below.refl _ _).alloc (Nat.le_refl _) _⟩
theorem spot_ret2 {p q : Value × List Addr} {w : World} (h : p = q) (o o2 : Obj) : SpotPost p w (.returned q.1) ((w.alloc o).alloc o2) := ⟨by rw [h], ((Below.refl _ _).alloc (Nat.le_refl _) _).alloc (by simp) _⟩
theorem map_same {W W' : World} {R : Value → Option (DataW Unit × List MemPlace)} {b n : Nat} {D : DataW Unit} (h : W.ownsMap Tryz.prog 9 R b n D) (he : W'.heap[b]? = W.heap[b]?) : W'.ownsMap Tryz.prog 9 R b n D := by
  obtain ⟨es, clock, hb, r⟩ := h
  exact ⟨es, clock, he.trans hb, r⟩
theorem SpotsAre.same {W W' : World} {bm : Nat} {L : List NodeD} {K : List ByteArray} (h : SpotsAre W bm L K) (he : W'.heap[bm]? = W.heap[bm]?) : SpotsAre W' bm L K := by
  obtain ⟨D, h1, h2⟩ := h
  exact ⟨D, map_same h1 he, h2⟩
theorem SpotsAre.lt {W : World} {bm : Nat} {L : List NodeD} {K : List ByteArray} (h : SpotsAre W bm L K) : bm < W.heap.size := by
  obtain ⟨D, h1, h2⟩ := h
  exact h1.lt
theorem SpotsAre.below {W W' : World} {bm : Nat} {L : List NodeD} {K : List ByteArray} (h : SpotsAre W bm L K) (hb : Below W.heap.size W W') : SpotsAre W' bm L K := h.same (hb.block bm h.lt)
set_option maxHeartbeats 1000000 in
set_option maxRecDepth 100000 in
theorem checkSpot_any {C : Nat} {A : Ads} (c bm br : Nat) (nv : Value) (L : List NodeD) (K : List ByteArray) (up way : ByteArray) (w : World) (hb : BoxB w c nv bm br) (hsp : SpotsAre w bm L K) (hs : Sent C A w) (hC : C ≤ w.heap.size) (h1 : up.size ≤ 1000000) (h2 : way.size ≤ 1000000) : Calls Tryz.prog 42 #[.pointer (some ⟨c, 0, none⟩), .string up, .string way] w (SpotPost (spotP A L K up way) w) := by
  have g2 := hs.c2
  have g3 := hs.c3
  have g4 := hs.c4
  have hbig := hs.big
  have hz2 : 2 < w.heap.size := by omega
  have hz3 : 3 < w.heap.size := by omega
  have hz4 : 4 < w.heap.size := by omega
  have hcl : c < w.heap.size := (Array.getElem?_eq_some_iff.1 hb).1
  obtain ⟨b0, b1, b2, _⟩ := hb.cells
  obtain ⟨v, hl1, _, n, d, rfl, hv⟩ := sp_look hsp up (by unfold maxLen; omega)
  obtain ⟨v2, hl2, _, n2, d2, rfl, _⟩ := sp_look (hsp.below ((Below.refl _ _).alloc (Nat.le_refl _) (.cells #[.int .i64 n, .bool d] 80))) way (by unfold maxLen; omega)
  clear hs hb hsp
  cases e : look K up with
  | none =>
    rw [e] at hl1
    have HP := hide (spotP_n (A := A) (L := L) (way := way) e)
    clear hv e
    go_enter Tryz.func42, Tryz.ntmps42
    go_wp2
    go_ret
    exact spot_ret HP.out _
  | some a =>
    rw [e] at hl1
    obtain ⟨rfl, nd, hnd, hd⟩ := hv a e
    cases hdd : dirD nd with
    | false =>
      rw [hdd] at hd
      subst hd
      have HP := hide (spotP_k (A := A) (way := way) e hnd hdd)
      clear hv e hnd hdd
      go_enter Tryz.func42, Tryz.ntmps42
      go_wp2
      go_ret
      exact spot_ret HP.out _
    | true =>
      rw [hdd] at hd
      subst hd
      have HP := hide (spotP_w (A := A) (way := way) e hnd hdd)
      clear hv e hnd hdd
      cases e2 : look K way with
      | none =>
        rw [e2] at hl2 HP
        clear e2
        go_enter Tryz.func42, Tryz.ntmps42
        go_wp2
        go_ret
        exact spot_ret2 HP.out _ _
      | some x =>
        rw [e2] at hl2 HP
        clear e2
        go_enter Tryz.func42, Tryz.ntmps42
        go_wp2
        go_ret
        exact spot_ret2 HP.out _ _
end Go.Proofs.YtconbmfbokpklaaGreatDoor
/- A new builder; what holds of one. -/
namespace Go.Proofs.YtconbmfbokpklaaGreatDoor
open Go.RowKit Go.Maps

/-- The Kids of two nodes lie in two rows. -/
def ApartK (l : List (NodeD × Value)) : Prop := ∀ (i j : Nat) (p q : NodeD × Value), i ≠ j → l[i]? = some p → l[j]? = some q → p.2.ownBlock = none ∨ p.2.ownBlock ≠ q.2.ownBlock
/-- A builder at c, all of it above C. -/
structure BInv (C : Nat) (W : World) (c : Nat) (v : Value) (bm br : Nat) (l : List (NodeD × Value)) (K : List ByteArray) : Prop where
  box : BoxB W c v bm br
  own : Owned 33 C W v l
  apart : ApartK l
  spots : SpotsAre W bm (l.map (·.1)) K
  rd : W.ownsMap Tryz.prog 9 fnElem br 5 rdD
  hc : C ≤ c
  hm : C ≤ bm
  hr : C ≤ br
theorem BInv.below {C c bm br : Nat} {W W' : World} {v : Value} {l : List (NodeD × Value)} {K : List ByteArray} (h : BInv C W c v bm br l K) (hb : Below W.heap.size W W') : BInv C W' c v bm br l K :=
  ⟨(hb.block c (Array.getElem?_eq_some_iff.1 h.box).1).trans h.box, h.own.below hb, h.apart, h.spots.below hb, map_same h.rd (hb.block br h.rd.lt), h.hc, h.hm, h.hr⟩
def NewPost (w : World) (e : Ending) (w' : World) : Prop := ∃ c v bm br, e = .returned (.pointer (some ⟨c, 0, none⟩)) ∧ BInv w.heap.size w' c v bm br [(rootD, .slice none 0 0)] [bs []] ∧ Below w.heap.size w w'
def rootO : Obj := .cells #[.int .u8 100, .string ⟨#[]⟩, .int .i64 (-1), .int .i64 0, .int .i64 0, .string ⟨#[]⟩, .slice none 0 0] 33
theorem alloc_self (w : World) (o : Obj) : (w.alloc o).heap[w.heap.size]? = some o := heap_alloc_new w o
theorem root_own (w : World) : (w.alloc rootO).ownsRow w.heap.size 33 7 (.slice (some ⟨w.heap.size, 0, none⟩) 1 1) 1 (cellsL [(rootD, .slice none 0 0)]) := by
  refine ⟨rfl, .inr ⟨w.heap.size, 1, #[.int .u8 100, .string ⟨#[]⟩, .int .i64 (-1), .int .i64 0, .int .i64 0, .string ⟨#[]⟩, .slice none 0 0], rfl, Nat.le_refl _, alloc_self _ _, Nat.le_refl _, ?_, rfl, rfl⟩⟩
  decide
theorem new_post {w w2 w3 : World} {bm : Nat} (hbm : bm = w.heap.size + 1) (hg : ((w.alloc rootO).alloc (.map #[] 0)).grownBy w2 (some bm)) (hsp : w2.ownsMap Tryz.prog 9 spotElem bm 1 ((DataW.map []).put (lt []) (spD 0 true)))
    (hr : w3.ownsMap Tryz.prog 9 fnElem w2.heap.size 5 rdD) (hb : Below w2.heap.size w2 w3) :
    NewPost w (.returned (.pointer (some ⟨w3.heap.size, 0, none⟩))) (w3.alloc (.cells #[.slice (some ⟨w.heap.size, 0, none⟩) 1 1, .map (some bm), .map (some w2.heap.size)] 54)) := by
  have hs1 : w.heap.size + 2 ≤ w2.heap.size := by have := hg.size; simpa using this
  have b1 : Below w.heap.size w w2 := (((Below.refl _ _).alloc (Nat.le_refl _) rootO).alloc (by simp) _).grown hg (by simp; omega) (fun k e => by cases e; omega)
  have b2 : Below w.heap.size w w3 := b1.trans (hb.mono (by omega))
  have hs3 := hb.size
  have ho2 : w2.ownsRow w.heap.size 33 7 (.slice (some ⟨w.heap.size, 0, none⟩) 1 1) 1 (cellsL [(rootD, .slice none 0 0)]) := ((root_own w).alloc _).kept hg (.inr (by simp [Value.ownBlock, hbm]))
  refine ⟨w3.heap.size, .slice (some ⟨w.heap.size, 0, none⟩) 1 1, bm, w2.heap.size, rfl, ?_, b2.alloc (by omega) _⟩
  have hal : Below w3.heap.size w3 (w3.alloc (.cells #[.slice (some ⟨w.heap.size, 0, none⟩) 1 1, .map (some bm), .map (some w2.heap.size)] 54)) := (Below.refl _ _).alloc (Nat.le_refl _) _
  refine ⟨alloc_self _ _, ⟨?_, ?_⟩, ?_, ?_, ?_, by omega, by omega, by omega⟩
  · exact owns_below' (owns_below' ho2 hb) hal
  · intro p hp
    simp at hp; subst hp
    exact World.ownsRow_nil _ _ _ _
  · intro i j p q hne hi hj
    obtain ⟨h1, _⟩ := List.getElem?_eq_some_iff.1 hi
    obtain ⟨h2, _⟩ := List.getElem?_eq_some_iff.1 hj
    simp at h1 h2; omega
  · exact ((spots_root hsp).below hb).below hal
  · exact map_same hr (hal.block _ hr.lt)
set_option maxHeartbeats 1000000 in
set_option maxRecDepth 100000 in
theorem newBuilder_any (w : World) : Calls Tryz.prog 17 #[] w (NewPost w) := by
  have hmm := @run_makeMap Tryz.prog
  have HR : Hid (∀ w, Calls Tryz.prog 35 #[] w fun e w' => e = .returned (.map (some w.heap.size)) ∧ w'.ownsMap Tryz.prog 9 fnElem w.heap.size 5 rdD ∧ Below w.heap.size w w') := fun w => lineReaders_any w
  have h0 : ((w.alloc rootO).alloc (.map #[] 0)).ownsMap Tryz.prog 9 spotElem (w.alloc rootO).heap.size 0 (.map []) := World.ownsMap_made _ _ _ _
  obtain ⟨bm, hbm⟩ : ∃ bm, (w.alloc rootO).heap.size = bm := ⟨_, rfl⟩
  have hbm2 : w.heap.size + 1 = bm := by rw [← hbm]; simp
  rw [hbm] at h0
  unfold rootO at h0
  go_enter Tryz.func17, Tryz.ntmps17
  go_wp2_with (first
    | (show wpList _ _ _ (Oper.mk _ (Op.insert _ _ _ _) _ _ _ _ :: _) _ _; refine wpList_insert_own _ rfl _ _ _ 51 rfl 9 80 lawS Tryz.underlying51 spotElem bm 0 _ (by first | rfl | (simp [Act.eval]; exact hbm2)) h0 (by unfold maxLen; omega) _ _ _ rfl rfl (keyS _ (by unfold maxLen; decide)) _ [] rfl ?_; intro w1 h1 hg1)
    | (go_at_call 35; refine ((unhide HR) _).mono ?_; rintro e w2 ⟨rfl, h2, hb2⟩))
  go_ret
  exact new_post hbm2.symm hg1 h1 h2 hb2
end Go.Proofs.YtconbmfbokpklaaGreatDoor
