/- Merged: TLoad, TLoadA, Lims. -/
import Derived.Test.YtconbmfbokpklaaGreatDoorGSort
import Derived.Test.YtconbmfbokpklaaGreatDoorAddB
import Derived.Test.YtconbmfbokpklaaGreatDoorAddC
/- tree.Load answers loadD, if add answers addR. -/
namespace Go.Proofs.YtconbmfbokpklaaGreatDoor
open Go.RowKit Go.Maps

/-- What is asked of add. -/
def AddSpec : Prop := ∀ (C : Nat) (A : Ads) (c bm br : Nat) (v : Value) (l : List (NodeD × Value)) (K : List ByteArray) (line : ByteArray) (ended : Bool) (w : World), BInv C w c v bm br l K → Sent C A w → C ≤ w.heap.size → line.size ≤ 20000 → KInv (l.map (·.1)) K →
  Calls Tryz.prog 19 #[.pointer (some ⟨c, 0, none⟩), .string line, .bool ended] w (AddPost C A c (addR (l.map (·.1)) K line ended) w)
def TLPost (r : Res) (w : World) (e : Ending) (w' : World) : Prop := ∃ v l', e = .returned (.tuple #[v, .int .i64 r.2.1, .int .i64 r.2.2]) ∧ Owned 33 w.heap.size w' v l' ∧ Srt r.1 (l'.map (·.1)) ∧ Below w.heap.size w w'
theorem tl_err {r : Res} {w w' : World} {er pl : Int} (hr : r = ([], er, pl)) (hb : Below w.heap.size w w') : TLPost r w (.returned (.tuple #[.slice none 0 0, .int .i64 er, .int .i64 pl])) w' := by
  subst hr
  exact ⟨.slice none 0 0, [], rfl, ⟨World.ownsRow_nil _ _ _ _, fun p hp => by simp at hp⟩, srt_nil, hb⟩
/-- A round of the loop, on the plain side. -/
theorem go_last {r : ByteArray} {pl : Int} {L : List NodeD} {K : List ByteArray} (h : (10 : UInt8) ∉ r.data.toList) (hr : 0 < r.size) : goL (cutS 10 r) pl L K = ([], 2, pl) ∧ addR L K r false = .no 2 := by
  refine ⟨?_, ?_⟩
  · rw [split_no_byte h]
    unfold goL
    rw [if_pos (by simp), if_neg (by omega)]
  · unfold addR
    split <;> rfl
theorem go_line {r : ByteArray} {p t : List UInt8} {pl : Int} {L : List NodeD} {K : List ByteArray} (h : r.data.toList = p ++ 10 :: t) (hp : (10 : UInt8) ∉ p) : goL (cutS 10 r) pl L K = (match addR L K (bs p) true with
    | .no e => ([], e, pl)
    | .yes L' K' => goL (cutS 10 (bs t)) (pl + ((bs p).size : Int) + 1) L' K') := by
  obtain ⟨e1, e2⟩ := ext_before h
  rw [split_at_byte h hp, e1, e2]
  rw [goL]
  rw [if_neg (by cases e : cutS 10 (bs t) with | nil => exact absurd e (cutS_ne' _ _) | cons x y => simp)]
  unfold addR
  cases lineD (bs p) with
  | none => rfl
  | some ln =>
    simp only [Bool.true_eq_false, if_false]
    by_cases h2 : 200 < L.length
    · simp only [h2, if_true]
    · simp only [h2, if_false]
      cases putD L K ln <;> rfl
theorem go_end {pl : Int} {L : List NodeD} {K : List ByteArray} {r : ByteArray} (h : r.size = 0) : goL (cutS 10 r) pl L K = (L, 0, 0) := by
  have : r.data.toList = [] := List.eq_nil_of_length_eq_zero (by rw [len_data]; exact h)
  rw [split_no_byte (by rw [this]; simp)]
  unfold goL
  rw [if_pos (by simp), if_pos h]
theorem addR_inv {L L' : List NodeD} {K K' : List ByteArray} {line : ByteArray} (h : KInv L K) (hs : line.size ≤ 20000) (e : addR L K line true = .yes L' K') : KInv L' K' := by
  unfold addR at e
  cases hl : lineD line with
  | none => rw [hl] at e; cases e
  | some ln =>
    rw [hl] at e
    simp only [Bool.true_eq_false, if_false] at e
    by_cases h2 : 200 < L.length
    · rw [if_pos h2] at e; cases e
    · rw [if_neg h2] at e
      obtain ⟨g1, g2, _⟩ := line_facts hl
      exact (put_inv h g1 (by omega) (by omega) e).1
theorem len_bs' (l : List UInt8) : (bs l).size = l.length := by rw [← len_data]; rfl
set_option maxRecDepth 100000 in
set_option maxHeartbeats 4000000 in
theorem load_any (hadd : AddSpec) {A : Ads} (s : ByteArray) (hsz : s.size ≤ maxLen) (w : World) (hsent : Sent w.heap.size A w) : Calls Tryz.prog 7 #[.string s] w (TLPost (loadD s) w) := by
  unfold maxLen at hsz
  by_cases hbig : 20000 < s.size
  · have HR : Hid (loadD s = ([], 1, 0)) := by unfold Hid loadD; rw [if_pos hbig]
    have hb2 : (20000 : Int) < (s.size : Int) := by omega
    go_enter Tryz.func7, Tryz.ntmps7
    go_wp2
    go_ret3
    exact tl_err HR.out (Below.refl _ _)
  · have HNB := hide (newBuilder_any w)
    have hb2 : ¬ (20000 : Int) < (s.size : Int) := by omega
    have HS := hide hsent
    have HADD : Hid AddSpec := hadd
    obtain ⟨R, hR⟩ : ∃ R, loadD s = R := ⟨_, rfl⟩
    have HR := hide hR
    have HR0 : Hid (goL (cutS 10 (s.extract 0 s.size)) 0 [rootD] [bs []] = R) := by
      unfold Hid
      rw [← hR]; unfold loadD; rw [if_neg hbig]; simp
    rw [hR]
    clear hsent hadd hR
    go_enter Tryz.func7, Tryz.ntmps7
    go_wp2_with fail
    refine (unhide HNB).mono ?_
    rintro e w1 ⟨c, v, bm, br, rfl, hI, hb1⟩
    have HI := hide hI
    have HB1 := hide hb1
    clear hI hb1 HNB
    go_wp2
    go_loopw [6] (fun iv wr => ∃ (pl : Nat) (v : Value) (bm br : Nat) (l : List (NodeD × Value)) (K : List ByteArray), pl ≤ s.size ∧ iv = .int .i64 pl ∧ BInv w.heap.size wr c v bm br l K ∧ KInv (l.map (·.1)) K ∧ goL (cutS 10 (s.extract pl s.size)) (pl : Int) (l.map (·.1)) K = R ∧ Below w.heap.size w wr) (fun iv _ => s.size - (intOf iv).toNat)
    case atStart => exact ⟨0, v, bm, br, _, _, Nat.zero_le _, rfl, unhide HI, kinv_root, unhide HR0, unhide HB1⟩
    case round =>
      obtain ⟨pl, v, bm, br, l, K, hpl, rfl, hI, hK, hgo, hbw⟩ := hrel
      have hs20 : s.size ≤ 20000 := by omega
      have hws := hbw.size
      have hsw := (unhide HS).below hbw
      by_cases hlt : pl < s.size
      · have hpi : (pl : Int) < (s.size : Int) := by omega
        have hpi2 : (pl : Int) ≤ (s.size : Int) := by omega
        obtain ⟨r, hr⟩ : ∃ r, s.extract pl s.size = r := ⟨_, rfl⟩
        have hrs : r.size = s.size - pl := by rw [← hr]; simp
        have HCUT := hide (cut_c r 10 wr (by omega))
        rw [hr] at hgo
        have HI := hide hI
        have HK := hide hK
        have HGO := hide hgo
        have HBW := hide hbw
        have HSW := hide hsw
        have HRE := hide hr
        clear hI hK hgo hbw hsw
        go_wp2_with fail
        refine (unhide HCUT).mono ?_
        rintro e w2 ⟨b, a, f, rfl, hb2, hcase⟩
        have hI2 := (unhide HI).below hb2
        have hs2 := (unhide HSW).below (hb2.mono hws)
        have hw2 := hb2.size
        have HB2 : Hid (Below w.heap.size w w2) := (unhide HBW).trans (hb2.mono hws)
        have HI2 := hide hI2
        have HS2 := hide hs2
        clear hI2 hs2 hb2 HCUT HI HBW HSW
        rcases hcase with ⟨rfl, p, t, hp, hnp, rfl, rfl⟩ | ⟨rfl, hno, rfl⟩
        · have hpz : (bs p).size + 1 ≤ r.size := by
            have := congrArg List.length hp
            rw [len_data, List.length_append] at this
            rw [len_bs']; simp at this; omega
          have HA := hide ((unhide HADD) _ A c bm br v l K (bs p) true w2 (unhide HI2) (unhide HS2) (by omega) (by omega) (unhide HK))
          have hgl := HGO.out
          rw [go_line hp hnp] at hgl
          cases er : addR (l.map (·.1)) K (bs p) true with
          | no x =>
            rw [er] at HA hgl
            have HG := hide hgl
            clear hgl er
            go_wp2_with fail
            refine (unhide HA).mono ?_
            rintro e w3 ⟨⟨t', v', S, rfl, herr, hno⟩, hb3⟩
            have HE := hide (errno_any ((unhide HS2).below hb3) herr)
            rw [hno] at HE
            have HB3 : Hid (Below w.heap.size w w3) := (unhide HB2).trans hb3
            clear herr hb3 hno
            go_wp2_with (go_at_call 20; refine (unhide HE).mono ?_; rintro e w' ⟨rfl, rfl⟩)
            go_ret3
            exact tl_err HG.out.symm (unhide HB3)
          | yes L' K' =>
            rw [er] at HA hgl
            have hki := addR_inv (unhide HK) (by omega) er
            have HG := hide hgl
            have HKI := hide hki
            have hex : s.extract (pl + (bs p).size + 1) s.size = bs t := by
              have h1 := (ext_before hp).2
              rw [← HRE.out] at h1
              rw [← h1]
              apply bs_inj
              rw [len_bs']
              simp
              rw [show min (pl + (s.size - pl)) s.size = s.size from by omega, Nat.add_assoc]
            have HEX := hide hex
            clear hgl er hki hex
            go_wp2_with fail
            refine (unhide HA).mono ?_
            rintro e w3 ⟨⟨rfl, v', bm', br', l', hI', hl'⟩, hb3⟩
            have HB3 : Hid (Below w.heap.size w w3) := (unhide HB2).trans hb3
            have HI3 := hide hI'
            have HL3 := hide hl'
            have hw1 : (pl : Int) + (((bs p).size : Int) + 1) ≤ 20001 := by omega
            clear hI' hl' hb3
            go_wp2
            go_roundw
            case rel =>
              refine ⟨pl + (bs p).size + 1, v', bm', br', l', K', by omega, by go_num, unhide HI3, ?_, ?_, unhide HB3⟩
              · rw [HL3.out]; exact unhide HKI
              · rw [HL3.out, HEX.out, ← HG.out]
                congr 1
            case measure => simp [intOf]; omega
        · have HA := hide ((unhide HADD) _ A c bm br v l K b false w2 (unhide HI2) (unhide HS2) (by omega) (by omega) (unhide HK))
          have hgl := HGO.out
          obtain ⟨h1, h2⟩ := go_last (pl := (pl : Int)) (L := l.map (·.1)) (K := K) hno (by omega)
          rw [h1] at hgl
          rw [h2] at HA
          have HG := hide hgl
          clear hgl h1 h2
          go_wp2_with fail
          refine (unhide HA).mono ?_
          rintro e w3 ⟨⟨t', v', S, rfl, herr, hno⟩, hb3⟩
          have HE := hide (errno_any ((unhide HS2).below hb3) herr)
          rw [hno] at HE
          have HB3 : Hid (Below w.heap.size w w3) := (unhide HB2).trans hb3
          clear herr hb3 hno
          go_wp2_with (go_at_call 20; refine (unhide HE).mono ?_; rintro e w' ⟨rfl, rfl⟩)
          go_ret3
          exact tl_err HG.out.symm (unhide HB3)
      · obtain rfl : pl = s.size := by omega
        rw [go_end (by simp)] at hgo
        obtain ⟨g, cap, rfl⟩ : ∃ g cap, v = .slice (some ⟨g, 0, none⟩) l.length cap := by
          rcases hI.own.1.2 with ⟨_, h2⟩ | ⟨g, cap, cur, e, _⟩
          · have := hK.pos; rw [List.length_map] at this; omega
          · exact ⟨g, cap, e⟩
        have hlen : (l.map (·.1)).length = l.length := List.length_map _
        have HSK := hide (sortKids_any c bm br g cap l wr hI.box hI.own hI.apart hws (by have := hK.pos; rw [hlen] at this; omega) (by have := hK.lim; rw [hlen] at this; omega) (fun p hp => by
          obtain ⟨i, hi⟩ := List.mem_iff_getElem?.1 hp
          have hi2 : (l.map (·.1))[i]? = some p.1 := by rw [List.getElem?_map, hi]; rfl
          have h1 := hK.klen i p.1 hi2
          have h2 := hK.lim
          refine ⟨by omega, ?_⟩
          rw [← hlen]
          exact hK.kid_lt hi2))
        have HGO := hide hgo
        have HBW := hide hbw
        have HK := hide hK
        clear hI hK hgo hbw hsw hlen
        go_wp2_with fail
        refine (unhide HSK).mono ?_
        rintro e w3 ⟨rfl, l', hst, hbx, hown, hb3⟩
        obtain ⟨b0, _, _, _⟩ := hbx.cells
        have HX : Hid (TLPost R w (.returned (.tuple #[.slice (some ⟨g, 0, none⟩) l.length cap, .int .i64 0, .int .i64 0])) w3) := by
          unfold Hid
          rw [← HGO.out]
          exact ⟨_, l', rfl, hown, srt_of_sorted hst (fun i n hi => (unhide HK).kid_ne hi), (unhide HBW).trans hb3⟩
        clear hst hbx hown hb3
        go_wp2
        go_ret3
        exact unhide HX
end Go.Proofs.YtconbmfbokpklaaGreatDoor
/- tree.Load answers loadD. -/
namespace Go.Proofs.YtconbmfbokpklaaGreatDoor
open Go.RowKit Go.Maps

theorem addSpec : AddSpec := by
  intro C A c bm br v l K line ended w hI hs hC hline hK
  have hlen : (l.map (·.1)).length = l.length := List.length_map _
  have h1 := hK.pos
  have h2 := hK.lim
  have h3 := hK.len
  rw [hlen] at h1 h2 h3
  refine add_any c bm br v l K line ended w hI hs hC hline (by omega) (by omega) h3 (fun p hp => ?_)
  obtain ⟨i, hi⟩ := List.mem_iff_getElem?.1 hp
  have := hK.klen i p.1 (by rw [List.getElem?_map, hi]; rfl)
  rw [hlen] at this
  exact this
theorem treeLoad_any {A : Ads} (s : ByteArray) (hsz : s.size ≤ maxLen) (w : World) (hsent : Sent w.heap.size A w) : Calls Tryz.prog 7 #[.string s] w (TLPost (loadD s) w) := load_any addSpec s hsz w hsent
end Go.Proofs.YtconbmfbokpklaaGreatDoor
/- What a tree that has been read is bounded by. Plain. -/
namespace Go.Proofs.YtconbmfbokpklaaGreatDoor

/-- Nodes of a tree, or none. -/
def LimD (L : List NodeD) : Prop := L.length ≤ 201 ∧ ∀ (i : Nat) (n : NodeD), L[i]? = some n → n.kids.length ≤ 201
theorem lim_nil : LimD [] := ⟨by simp, fun i n h => by simp at h⟩
theorem KInv.limD {L : List NodeD} {K : List ByteArray} (h : KInv L K) : LimD L := ⟨h.lim, fun i n hi => Nat.le_trans (h.klen i n hi) h.lim⟩
def ErrD (e : Int) : Prop := 0 ≤ e ∧ e ≤ 9
theorem put_err_num {L : List NodeD} {K : List ByteArray} {ln : LineD} {e : Int} (h : putD L K ln = .no e) : ErrD e := by
  unfold putD at h
  unfold ErrD
  split at h
  · cases h; omega
  · split at h
    · cases h; omega
    · split at h
      · cases h; omega
      · split at h
        · cases h; omega
        · cases h
theorem goL_lim (ys : List ByteArray) : ∀ (pl : Int) (L : List NodeD) (K : List ByteArray), KInv L K → (∀ y ∈ ys, y.size ≤ 20000) → LimD (goL ys pl L K).1 ∧ ErrD (goL ys pl L K).2.1 := by
  induction ys with
  | nil => intro pl L K h _; unfold goL; exact ⟨h.limD, by unfold ErrD; dsimp only; omega⟩
  | cons y ys ih =>
    intro pl L K h hy
    unfold goL
    split
    · split
      · exact ⟨h.limD, by unfold ErrD; dsimp only; omega⟩
      · exact ⟨lim_nil, by unfold ErrD; dsimp only; omega⟩
    · split
      · exact ⟨lim_nil, by unfold ErrD; dsimp only; omega⟩
      · rename_i ln hl
        split
        · exact ⟨lim_nil, by unfold ErrD; dsimp only; omega⟩
        · rename_i hlim
          split
          · rename_i e he
            exact ⟨lim_nil, put_err_num he⟩
          · rename_i L' K' he
            obtain ⟨g1, g2, _⟩ := line_facts hl
            have hys := hy y (by simp)
            exact ih _ L' K' (put_inv h g1 (by omega) (by omega) he).1 (fun z hz => hy z (by simp [hz]))
theorem loadD_lim (s : ByteArray) : LimD (loadD s).1 ∧ ErrD (loadD s).2.1 := by
  unfold loadD
  split
  · exact ⟨lim_nil, by unfold ErrD; dsimp only; omega⟩
  · exact goL_lim _ _ _ _ kinv_root (fun y hy => Nat.le_trans (cutS_le 10 s y hy) (by omega))
theorem LimD.srt {R L : List NodeD} (h : LimD R) (hs : Srt R L) : L.length ≤ 201 ∧ ∀ (i : Nat) (n : NodeD), L[i]? = some n → n.kids.length ≤ 1000 := by
  refine ⟨by rw [hs.len]; exact h.1, fun i n hi => ?_⟩
  obtain ⟨m, hm, _, hp, _⟩ := hs.back hi
  rw [hp.length_eq]
  have := h.2 i m hm
  omega
end Go.Proofs.YtconbmfbokpklaaGreatDoor
