/- The program's finder: through and step. -/
import Derived.Test.YtehbjabneocflaaDoorCKid
namespace Go.Proofs.YtehbjabneocflaaDoor
open Go.RowKit

def CPost (T : Nat) (a6 a7 a9 : Addr) (v : Value) (b : Nat) (r : FRes) (w : World) (e : Ending) (w' : World) : Prop := e = .returned (.tuple #[.int .i64 (r.1 : Int), errV T a6 a7 a9 r.2.1]) ∧ FB 57 w' b v r.2.2 ∧ w.grownBy w' (some b)
def CFindOK (T : Nat) (a6 a7 a9 : Addr) (L : List NodeD) (v : Value) (C b F : Nat) : Prop :=
  ∀ (k : Nat) (s : ByteArray) (fo : Bool) (links : Nat) (w : World), k < L.length → s.size ≤ 1073741824 → links ≤ 40 → 41 ≤ F + links → NodeRow C w v L → FB 57 w b v links → Errs T a6 a7 a9 w →
    Calls Tryd.prog 27 #[.pointer (some ⟨b, 0, none⟩), .int .i64 (k : Int), .string s, .bool fo] w (CPost T a6 a7 a9 v b (findD L F k s fo links) w)
theorem c_mk {T : Nat} {a6 a7 a9 : Addr} {b links : Nat} {v : Value} {r : FRes} {w w' : World} {x : Int} {y : Int} (h : r = (x.toNat, y, links)) (hx : 0 ≤ x) (hf : FB 57 w' b v links) (hg : w.grownBy w' (some b)) : CPost T a6 a7 a9 v b r w (.returned (.tuple #[.int .i64 x, errV T a6 a7 a9 y])) w' := by
  subst h
  refine ⟨?_, hf, hg⟩
  show _ = Ending.returned (.tuple #[.int .i64 (x.toNat : Int), errV T a6 a7 a9 y])
  rw [Int.toNat_of_nonneg hx]
theorem box_cells55 {W : World} {b : Nat} {x0 x1 x2 x3 x4 x5 x6 : Value} (h : W.heap[b]? = some (.cells #[x0, x1, x2, x3, x4, x5, x6] 55)) :
    W.cell? ⟨b, 0, none⟩ = some x0 ∧ W.cell? ⟨b, 1, none⟩ = some x1 ∧ W.cell? ⟨b, 2, none⟩ = some x2 ∧ W.cell? ⟨b, 3, none⟩ = some x3 ∧ W.cell? ⟨b, 4, none⟩ = some x4 ∧ W.cell? ⟨b, 5, none⟩ = some x5 ∧ W.cell? ⟨b, 6, none⟩ = some x6 ∧ ∀ j, W.frozen? ⟨b, j, none⟩ = false := by
  simp [World.cell?, World.frozen?, h]
theorem errV0 (T : Nat) (a6 a7 a9 : Addr) : errV T a6 a7 a9 0 = .nilIface := rfl
theorem errV6 (T : Nat) (a6 a7 a9 : Addr) : errV T a6 a7 a9 6 = .iface T (.pointer (some a6)) := rfl
theorem errV7 (T : Nat) (a6 a7 a9 : Addr) : errV T a6 a7 a9 7 = .iface T (.pointer (some a7)) := rfl
theorem errV9 (T : Nat) (a6 a7 a9 : Addr) : errV T a6 a7 a9 9 = .iface T (.pointer (some a9)) := rfl

def thrD (L : List NodeD) (F k : Nat) (m : NodeD) (links : Nat) : FRes := if 40 ≤ links then (0, 9, links) else findD L F k m.text true (links + 1)

set_option maxRecDepth 100000 in
set_option maxHeartbeats 2000000 in
theorem cthr_any (T : Nat) (a6 a7 a9 : Addr) (L : List NodeD) (v : Value) (C b F : Nat) (h6 : 6 < C) (hC : C ≤ b) (IH : CFindOK T a6 a7 a9 L v C b F) (k : Nat) (m : NodeD) (kv : Value) (links : Nat) (w : World) (hk : k < L.length) (hup : m.up = (k : Int)) (ht : m.text.size ≤ 20000) (hl : links ≤ 40) (hF : 41 ≤ F + (links + 1)) (hrow : NodeRow C w v L) (hfb : FB 57 w b v links) (herr : Errs T a6 a7 a9 w) :
    Calls Tryd.prog 57 #[.pointer (some ⟨b, 0, none⟩), .agg #[.int .u8 m.kind, .string m.name, .int .i64 m.up, .int .i64 m.size, .int .i64 m.time, .string m.text, kv]] w (CPost T a6 a7 a9 v b (thrD L F k m links) w) := by
  have hbw := hfb.lt
  obtain ⟨W0, hW0⟩ : ∃ W0, w.alloc (.cells #[.int .u8 m.kind, .string m.name, .int .i64 m.up, .int .i64 m.size, .int .i64 m.time, .string m.text, kv] 55) = W0 := ⟨_, rfl⟩
  have hbl0 : Below w.heap.size w W0 := by rw [← hW0]; exact (Below.refl _ _).alloc (Nat.le_refl _) _
  have hc2 : W0.cell? ⟨w.heap.size, 2, none⟩ = some (.int .i64 m.up) := by rw [← hW0, World.cell?_alloc_at _ _ _ _ rfl]; rfl
  have hc5 : W0.cell? ⟨w.heap.size, 5, none⟩ = some (.string m.text) := by rw [← hW0, World.cell?_alloc_at _ _ _ _ rfl]; rfl
  have hfb0 := hfb.below hbl0 hbw
  have herr0 := herr.below hbl0 (by omega)
  have hrow0 := hrow.below (hbl0.mono (by omega))
  have e9 := herr.2.2
  have c1 := hfb.c1
  have f1 := hfb.fr 1
  have HW := hide hW0
  have HF0 := hide hfb0
  have HE0 := hide herr0
  have HR0 := hide hrow0
  have HIH := hide IH
  have HB0 := hide hbl0
  have HFB := hide hfb
  have HROW := hide hrow
  have HERR := hide herr
  clear hW0 hfb0 herr0 hrow0 hrow hfb herr IH hbl0 hc2 hc5
  have HUP := hide hup
  clear hup
  have hne : ¬ w.heap.size = b := by omega
  have hne2 : ¬ b = w.heap.size := by omega
  have hw6 : 6 < w.heap.size := by omega
  by_cases h40 : links = 40
  · have HS : Hid (thrD L F k m links = (0, 9, links)) := by unfold Hid thrD; rw [if_pos (by omega)]
    have hb40 : ((links : Int) == 40) = true := by rw [beq_iff_eq]; omega
    clear h40
    go_enter Tryd.func57, Tryd.ntmps57
    go_wp2
    go_quiet (fail)
    go_wp2
    go_ret2
    rw [unhide HW]
    exact c_mk (x := 0) (y := 9) HS.out (by omega) (show FB 57 (World.drewN _ nq) _ _ _ from unhide HF0) (grown_of_below (below_drewN (unhide HB0) nq))
  · have HS : Hid (thrD L F k m links = findD L F k m.text true (links + 1)) := by unfold Hid thrD; rw [if_neg (by omega)]
    have hb40 : ((links : Int) == 40) = false := by rw [beq_eq_false_iff_ne]; omega
    have hl39 : links + 1 ≤ 40 := by omega
    clear h40
    go_enter Tryd.func57, Tryd.ntmps57
    go_wp2_with fail
    rw [HUP.out]
    have hfbS : FB 57 (w.setCell ⟨b, 1, none⟩ (.int .i64 ((links : Int) + 1))) b v (links + 1) := (unhide HFB).set (links + 1)
    have hgS := set_grown w b 1 (.int .i64 ((links : Int) + 1))
    obtain ⟨W2, hW2⟩ : ∃ W2, (w.setCell ⟨b, 1, none⟩ (.int .i64 ((links : Int) + 1))).alloc (.cells #[.int .u8 m.kind, .string m.name, .int .i64 (k : Int), .int .i64 m.size, .int .i64 m.time, .string m.text, kv] 55) = W2 := ⟨_, rfl⟩
    rw [hW2]
    have hbl2 : Below (w.setCell ⟨b, 1, none⟩ (.int .i64 ((links : Int) + 1))).heap.size (w.setCell ⟨b, 1, none⟩ (.int .i64 ((links : Int) + 1))) W2 := by rw [← hW2]; exact (Below.refl _ _).alloc (Nat.le_refl _) _
    have hg2 := hgS.trans (grown_of_below hbl2)
    have hfb2 := hfbS.below hbl2 hfbS.lt
    clear hW2
    refine ((unhide HIH) k m.text true (links + 1) W2 hk (by omega) (by omega) (by omega) ((unhide HROW).grown hg2 hC) hfb2 ((unhide HERR).grown hg2 (by omega))).mono ?_
    rintro e w3 ⟨rfl, hf3, hg3⟩
    go_wp2
    go_ret2
    exact ⟨by rw [HS.out]; rfl, by rw [HS.out]; exact hf3, hg2.trans hg3⟩

set_option maxHeartbeats 1000000 in
theorem isDirC_any (n : NodeD) (w : World) : Calls Tryd.prog 45 #[.int .u8 n.kind] w fun e w' => e = .returned (.bool (dirD n)) ∧ w' = w := by
  cases h1 : (n.kind == 100)
  · cases h2 : (n.kind == 120)
    · have HD : Hid (dirD n = false) := by unfold Hid dirD; rw [h1, h2]; rfl
      go_enter Tryd.func45, Tryd.ntmps45
      go_wp2
      go_ret
      exact ⟨by rw [HD.out]; rfl, rfl⟩
    · have HD : Hid (dirD n = true) := by unfold Hid dirD; rw [h1, h2]; rfl
      go_enter Tryd.func45, Tryd.ntmps45
      go_wp2
      go_ret
      exact ⟨by rw [HD.out]; rfl, rfl⟩
  · have HD : Hid (dirD n = true) := by unfold Hid dirD; rw [h1]; rfl
    go_enter Tryd.func45, Tryd.ntmps45
    go_wp2
    go_ret
    exact ⟨by rw [HD.out]; rfl, rfl⟩
set_option maxHeartbeats 1000000 in
theorem hasNode_yes (a : Option Addr) (l c : Nat) (i : Int) (w : World) (h0 : 0 ≤ i) (h1 : i < (l : Int)) :
    Calls Tryd.prog 43 #[.slice a l c, .int .i64 i] w fun e w' => e = .returned (.bool true) ∧ w' = w := by
  go_enter Tryd.func43, Tryd.ntmps43
  go_wp2
  go_ret
  exact ⟨rfl, rfl⟩
set_option maxHeartbeats 1000000 in
theorem hasNode_no (a : Option Addr) (l c : Nat) (i : Int) (w : World) (h0 : ¬ 0 ≤ i) :
    Calls Tryd.prog 43 #[.slice a l c, .int .i64 i] w fun e w' => e = .returned (.bool false) ∧ w' = w := by
  go_enter Tryd.func43, Tryd.ntmps43
  go_wp2
  go_ret
  exact ⟨rfl, rfl⟩

set_option maxRecDepth 100000 in
set_option maxHeartbeats 4000000 in
theorem cstep_any (T : Nat) (a6 a7 a9 : Addr) (L : List NodeD) (v : Value) (C b F : Nat) (h6 : 6 < C) (hC : C ≤ b) (hwf : WF L) (IH : CFindOK T a6 a7 a9 L v C b F) (k : Nat) (n : NodeD) (p : ByteArray) (th : Bool) (links : Nat) (w : World) (hk : L[k]? = some n) (hdir : dirD n = true) (hl : links ≤ 40) (hF : 41 ≤ F + (links + 1)) (hrow : NodeRow C w v L) (hfb : FB 57 w b v links) (herr : Errs T a6 a7 a9 w) :
    Calls Tryd.prog 44 #[.pointer (some ⟨b, 0, none⟩), .int .i64 (k : Int), .string p, .bool th] w (CPost T a6 a7 a9 v b (stepD L (fun k t l => findD L F k t true l) k n p th links) w) := by
  have hlt := (List.getElem?_eq_some_iff.1 hk).1
  have hlen := hwf.len
  have hupn := hwf.up k n hk
  have hbw := hfb.lt
  obtain ⟨g, cap, rfl, hg, hcap, hx⟩ : ∃ g cap, v = .slice (some ⟨g, 0, none⟩) L.length cap ∧ g < C ∧ L.length ≤ cap ∧ ∀ (i : Nat) (n : NodeD), L[i]? = some n → ∃ kv, NodeAt w g i n kv ∧ IntRow C w kv n.kids := by
    rcases hrow with ⟨_, rfl⟩ | h
    · simp at hlt
    · exact h
  obtain ⟨kv, ⟨n0, n1, n2, n3, n4, n5, n6⟩, hint⟩ := hx k n hk
  obtain ⟨ka, km, kc, rfl⟩ : ∃ a m c, kv = .slice a m c := by
    rcases hint with ⟨rfl, _⟩ | ⟨g2, cap2, rfl, _⟩
    · exact ⟨_, _, _, rfl⟩
    · exact ⟨_, _, _, rfl⟩
  have c0 := hfb.c0
  have HROW := hide hrow
  have HFB := hide hfb
  have HIH := hide IH
  have HWF := hide hwf
  have HERR := hide herr
  have HINT := hide hint
  have HX := hide hx
  obtain ⟨W0, hW0⟩ : ∃ W0, w.alloc (.cells #[.int .u8 n.kind, .string n.name, .int .i64 n.up, .int .i64 n.size, .int .i64 n.time, .string n.text, .slice ka km kc] 55) = W0 := ⟨_, rfl⟩
  have hbl0 : Below w.heap.size w W0 := by rw [← hW0]; exact (Below.refl _ _).alloc (Nat.le_refl _) _
  have HF0 := hide (hfb.below hbl0 hbw)
  have HG0 := hide (grown_of_below (b := b) hbl0)
  have HW := hide hW0
  have hk100 : (n.kind == 100) = true ∨ ((n.kind == 100) = false ∧ (n.kind == 120) = true) := by
    unfold dirD at hdir
    cases h : (n.kind == 100)
    · rw [h] at hdir; exact .inr ⟨rfl, by simpa using hdir⟩
    · exact .inl rfl
  have HBX0 : Hid (W0.heap[w.heap.size]? = some (.cells #[.int .u8 n.kind, .string n.name, .int .i64 n.up, .int .i64 n.size, .int .i64 n.time, .string n.text, .slice ka km kc] 55)) := by unfold Hid; rw [← hW0]; exact World.alloc_heap_new w _
  clear hrow hfb IH hwf herr hint hx hW0 hbl0
  have hw6 : 6 < w.heap.size := by omega
  cases h1 : (p.toList == [46])
  · cases h2 : (p.toList == [46, 46])
    · have hkk := (unhide HWF).klen k n hk
      have hrow0 := (unhide HROW).grown (unhide HG0) hC
      have herr0 := (unhide HERR).grown (unhide HG0) (by omega)
      have hint0 : IntRow C W0 (.slice ka km kc) n.kids := by
        obtain ⟨kv2, hn2, hi2⟩ := hrow0.at_ hk
        have e6 := hn2.2.2.2.2.2.2
        have e7 : W0.cell? ⟨g, k * 7 + 6, none⟩ = some (.slice ka km kc) := (unhide HG0).cell n6 (fun e => by have := Option.some.inj e; simp at this; omega)
        rw [e7] at e6
        cases e6
        exact hi2
      have hs0 : w.heap.size < W0.heap.size := by rw [← unhide HW]; simp
      have HK := hide (ckid_any T a6 a7 a9 C b _ L k n _ p links W0 (by omega) hrow0 (by omega) (unhide HF0) herr0 (by omega) hk hint0 ((unhide HWF).kid_lt hk) (by omega))
      have HR0 := hide hrow0
      have HE0 := hide herr0
      clear hrow0 herr0 hint0 hkk hupn
      have HDI := hide (isDirC_any n W0)
      obtain ⟨b0', b1', b2', b3', b4', b5', b6', _⟩ := box_cells55 (unhide HBX0)
      rcases kidOf_cases L n.kids p with hkid | ⟨c, hkid, hcm⟩
      · have HS : Hid (stepD L (fun k t l => findD L F k t true l) k n p th links = (0, 6, links)) := by unfold Hid stepD; rw [h1, h2, hkid]; rfl
        rw [hkid] at HK
        clear hkid
        go_enter Tryd.func44, Tryd.ntmps44
        go_wp2_with fail
        rw [unhide HW]
        refine (unhide HDI).mono ?_
        rintro e ww ⟨rfl, rfl⟩
        rw [hdir]
        go_wp2_with fail
        refine (unhide HK).mono ?_
        rintro e w2 ⟨rfl, hb2⟩
        rw [show kidNo (-1) = 0 from rfl, show kidEr (-1) = 6 from rfl, errV6]
        have hf2 := (unhide HF0).below hb2 (unhide HF0).lt
        have hg2 := (unhide HG0).trans (grown_of_below hb2)
        go_wp2
        go_ret2
        exact c_mk (x := 0) (y := 6) HS.out (by omega) hf2 hg2
      · obtain ⟨m, hm, hmu⟩ := (unhide HWF).kids k n hk c hcm
        have hcl := (List.getElem?_eq_some_iff.1 hm).1
        have htx := (unhide HWF).text c m hm
        rw [hkid] at HK
        have HM := hide hm
        have HMU := hide hmu
        have HKID := hide hkid
        clear hkid hcm hm hmu
        cases hl108 : (m.kind == 108 && th)
        · have HS : Hid (stepD L (fun k t l => findD L F k t true l) k n p th links = (c, 0, links)) := by unfold Hid stepD; rw [h1, h2, HKID.out, Int.toNat_natCast, HM.out]; simp [hl108]
          cases h108 : (m.kind == 108)
          · go_enter Tryd.func44, Tryd.ntmps44
            go_wp2_with fail
            rw [unhide HW]
            refine (unhide HDI).mono ?_
            rintro e ww ⟨rfl, rfl⟩
            rw [hdir]
            go_wp2_with fail
            refine (unhide HK).mono ?_
            rintro e w2 ⟨rfl, hb2⟩
            rw [show kidNo (c : Int) = c from by unfold kidNo; rw [if_neg (by omega), Int.toNat_natCast], show kidEr (c : Int) = 0 from by unfold kidEr; rw [if_neg (by omega)], errV0]
            have hf2 := (unhide HF0).below hb2 (unhide HF0).lt
            have hg2 := (unhide HG0).trans (grown_of_below hb2)
            have hr2 := (unhide HROW).grown hg2 hC
            obtain ⟨kv2, ⟨m0, m1, m2, m3, m4, m5, m6⟩, _⟩ := hr2.at_ (unhide HM)
            have d0 := hf2.c0
            have HF2 := hide hf2
            have HG2 := hide hg2
            have HR2 := hide hr2
            clear hf2 hg2 hr2 hb2
            go_wp2
            go_ret2
            exact c_mk (y := 0) HS.out (by omega) (unhide HF2) (unhide HG2)
          · have hth : th = false := by rw [h108] at hl108; simpa using hl108
            subst hth
            go_enter Tryd.func44, Tryd.ntmps44
            go_wp2_with fail
            rw [unhide HW]
            refine (unhide HDI).mono ?_
            rintro e ww ⟨rfl, rfl⟩
            rw [hdir]
            go_wp2_with fail
            refine (unhide HK).mono ?_
            rintro e w2 ⟨rfl, hb2⟩
            rw [show kidNo (c : Int) = c from by unfold kidNo; rw [if_neg (by omega), Int.toNat_natCast], show kidEr (c : Int) = 0 from by unfold kidEr; rw [if_neg (by omega)], errV0]
            have hf2 := (unhide HF0).below hb2 (unhide HF0).lt
            have hg2 := (unhide HG0).trans (grown_of_below hb2)
            have hr2 := (unhide HROW).grown hg2 hC
            obtain ⟨kv2, ⟨m0, m1, m2, m3, m4, m5, m6⟩, _⟩ := hr2.at_ (unhide HM)
            have d0 := hf2.c0
            have HF2 := hide hf2
            have HG2 := hide hg2
            have HR2 := hide hr2
            clear hf2 hg2 hr2 hb2
            go_wp2
            go_ret2
            exact c_mk (y := 0) HS.out (by omega) (unhide HF2) (unhide HG2)
        · simp only [Bool.and_eq_true] at hl108
          obtain ⟨h108, rfl⟩ := hl108
          have HS : Hid (stepD L (fun k t l => findD L F k t true l) k n p true links = thrD L F k m links) := by unfold Hid stepD thrD; rw [h1, h2, HKID.out, Int.toNat_natCast, HM.out]; simp [h108]
          go_enter Tryd.func44, Tryd.ntmps44
          go_wp2_with fail
          rw [unhide HW]
          refine (unhide HDI).mono ?_
          rintro e ww ⟨rfl, rfl⟩
          rw [hdir]
          go_wp2_with fail
          refine (unhide HK).mono ?_
          rintro e w2 ⟨rfl, hb2⟩
          rw [show kidNo (c : Int) = c from by unfold kidNo; rw [if_neg (by omega), Int.toNat_natCast], show kidEr (c : Int) = 0 from by unfold kidEr; rw [if_neg (by omega)], errV0]
          have hf2 := (unhide HF0).below hb2 (unhide HF0).lt
          have hg2 := (unhide HG0).trans (grown_of_below hb2)
          have hr2 := (unhide HROW).grown hg2 hC
          obtain ⟨kv2, ⟨m0, m1, m2, m3, m4, m5, m6⟩, _⟩ := hr2.at_ (unhide HM)
          have d0 := hf2.c0
          have HF2 := hide hf2
          have HG2 := hide hg2
          have HR2 := hide hr2
          clear hf2 hg2 hr2 hb2
          go_wp2_with fail
          refine (cthr_any T a6 a7 a9 L _ C b F h6 hC (unhide HIH) k m kv2 links w2 hlt HMU.out htx hl hF (unhide HR2) (unhide HF2) ((unhide HERR).grown (unhide HG2) (by omega))).mono ?_
          rintro e w3 ⟨rfl, hf3, hg3⟩
          go_wp2
          go_ret2
          exact ⟨by rw [HS.out]; rfl, by rw [HS.out]; exact hf3, (unhide HG2).trans hg3⟩
    · have hup2 : W0.cell? ⟨w.heap.size, 2, none⟩ = some (.int .i64 n.up) := by rw [← unhide HW, World.cell?_alloc_at _ _ _ _ rfl]; rfl
      have c00 := (unhide HF0).c0
      by_cases hk0 : k = 0
      · have HS : Hid (stepD L (fun k t l => findD L F k t true l) k n p th links = (k, 0, links)) := by unfold Hid stepD; rw [h1, h2, hk0]; rfl
        have hroot : ¬ 0 ≤ n.up := by have := (unhide HWF).root n (by rw [← hk0]; exact hk); omega
        clear hk0 hupn
        rcases hk100 with h100 | ⟨h100, h120⟩
        · go_enter Tryd.func44, Tryd.ntmps44
          go_wp2
          rw [unhide HW]
          go_quiet ((go_at_call 43; exact Calls.quiet_of_same (hasNode_no _ _ _ _ _ (by omega))))
          go_wp2
          go_ret2
          exact c_mk (y := 0) HS.out (by omega) (show FB 57 (World.drewN _ nq) _ _ _ from unhide HF0) ((unhide HG0).trans (grown_of_below (below_drewN (Below.refl _ _) nq)))
        · go_enter Tryd.func44, Tryd.ntmps44
          go_wp2
          rw [unhide HW]
          go_quiet ((go_at_call 43; exact Calls.quiet_of_same (hasNode_no _ _ _ _ _ (by omega))))
          go_wp2
          go_ret2
          exact c_mk (y := 0) HS.out (by omega) (show FB 57 (World.drewN _ nq) _ _ _ from unhide HF0) ((unhide HG0).trans (grown_of_below (below_drewN (Below.refl _ _) nq)))
      · have hup := hupn (by omega)
        obtain ⟨hup0, hup1⟩ := hup
        have HS : Hid (stepD L (fun k t l => findD L F k t true l) k n p th links = (n.up.toNat, 0, links)) := by unfold Hid stepD; rw [h1, h2]; simp [hk0]
        clear hupn
        rcases hk100 with h100 | ⟨h100, h120⟩
        · go_enter Tryd.func44, Tryd.ntmps44
          go_wp2
          rw [unhide HW]
          go_quiet ((go_at_call 43; exact Calls.quiet_of_same (hasNode_yes _ _ _ _ _ hup0 hup1)))
          go_wp2
          go_ret2
          exact c_mk (y := 0) HS.out (by omega) (show FB 57 (World.drewN _ nq) _ _ _ from unhide HF0) ((unhide HG0).trans (grown_of_below (below_drewN (Below.refl _ _) nq)))
        · go_enter Tryd.func44, Tryd.ntmps44
          go_wp2
          rw [unhide HW]
          go_quiet ((go_at_call 43; exact Calls.quiet_of_same (hasNode_yes _ _ _ _ _ hup0 hup1)))
          go_wp2
          go_ret2
          exact c_mk (y := 0) HS.out (by omega) (show FB 57 (World.drewN _ nq) _ _ _ from unhide HF0) ((unhide HG0).trans (grown_of_below (below_drewN (Below.refl _ _) nq)))
  · have HS : Hid (stepD L (fun k t l => findD L F k t true l) k n p th links = (k, 0, links)) := by unfold Hid stepD; rw [h1]; rfl
    clear hupn
    rcases hk100 with h100 | ⟨h100, h120⟩
    · go_enter Tryd.func44, Tryd.ntmps44
      go_wp2
      go_ret2
      rw [unhide HW]
      exact c_mk (y := 0) HS.out (by omega) (unhide HF0) (unhide HG0)
    · go_enter Tryd.func44, Tryd.ntmps44
      go_wp2
      go_ret2
      rw [unhide HW]
      exact c_mk (y := 0) HS.out (by omega) (unhide HF0) (unhide HG0)

set_option maxRecDepth 100000 in
set_option maxHeartbeats 2000000 in
theorem cstep_no (T : Nat) (a6 a7 a9 : Addr) (L : List NodeD) (v : Value) (C b : Nat) (h6 : 6 < C) (hC : C ≤ b) (hlen : L.length ≤ 201) (k : Nat) (n : NodeD) (p : ByteArray) (th : Bool) (links : Nat) (w : World) (hk : L[k]? = some n) (hdir : dirD n = false) (hrow : NodeRow C w v L) (hfb : FB 57 w b v links) (herr : Errs T a6 a7 a9 w) :
    Calls Tryd.prog 44 #[.pointer (some ⟨b, 0, none⟩), .int .i64 (k : Int), .string p, .bool th] w (CPost T a6 a7 a9 v b (0, 7, links) w) := by
  have hlt := (List.getElem?_eq_some_iff.1 hk).1
  have hbw := hfb.lt
  obtain ⟨g, cap, rfl, hg, hcap, hx⟩ : ∃ g cap, v = .slice (some ⟨g, 0, none⟩) L.length cap ∧ g < C ∧ L.length ≤ cap ∧ ∀ (i : Nat) (n : NodeD), L[i]? = some n → ∃ kv, NodeAt w g i n kv ∧ IntRow C w kv n.kids := by
    rcases hrow with ⟨_, rfl⟩ | h
    · simp at hlt
    · exact h
  obtain ⟨kv, ⟨n0, n1, n2, n3, n4, n5, n6⟩, hint⟩ := hx k n hk
  obtain ⟨ka, km, kc, rfl⟩ : ∃ a m c, kv = .slice a m c := by
    rcases hint with ⟨rfl, _⟩ | ⟨g2, cap2, rfl, _⟩
    · exact ⟨_, _, _, rfl⟩
    · exact ⟨_, _, _, rfl⟩
  have c0 := hfb.c0
  obtain ⟨W0, hW0⟩ : ∃ W0, w.alloc (.cells #[.int .u8 n.kind, .string n.name, .int .i64 n.up, .int .i64 n.size, .int .i64 n.time, .string n.text, .slice ka km kc] 55) = W0 := ⟨_, rfl⟩
  have hbl0 : Below w.heap.size w W0 := by rw [← hW0]; exact (Below.refl _ _).alloc (Nat.le_refl _) _
  have HF0 := hide (hfb.below hbl0 hbw)
  have HG0 := hide (grown_of_below (b := b) hbl0)
  have e7 := (herr.below hbl0 (by omega)).2.1
  have HW := hide hW0
  have HDI := hide (isDirC_any n W0)
  clear hrow hfb herr hint hx hW0 hbl0
  go_enter Tryd.func44, Tryd.ntmps44
  go_wp2_with fail
  rw [unhide HW]
  refine (unhide HDI).mono ?_
  rintro e ww ⟨rfl, rfl⟩
  rw [hdir]
  go_wp2
  go_quiet (fail)
  go_wp2
  go_ret2
  exact c_mk (x := 0) (y := 7) rfl (by omega) (show FB 57 (World.drewN _ nq) _ _ _ from unhide HF0) ((unhide HG0).trans (grown_of_below (below_drewN (Below.refl _ _) nq)))
end Go.Proofs.YtehbjabneocflaaDoor
