/- One line more. -/
import Derived.Test.YtconbmfbokpklaaGreatDoorAddA
import Derived.Test.YtconbmfbokpklaaGreatDoorReadE
namespace Go.Proofs.YtconbmfbokpklaaGreatDoor
open Go.RowKit Go.Maps

theorem last_at (l : List UInt8) : ∃ i, LastAt l i := by
  induction l with
  | nil => exact ⟨-1, .inl ⟨rfl, by simp⟩⟩
  | cons x t ih =>
    obtain ⟨i, hi⟩ := ih
    rcases hi with ⟨_, hn⟩ | ⟨p, q, rfl, hq, _⟩
    · by_cases hx : x = 47
      · subst hx
        exact ⟨0, .inr ⟨[], t, rfl, hn, rfl⟩⟩
      · exact ⟨-1, .inl ⟨rfl, by simp [hn]; exact fun e => hx e.symm⟩⟩
    · exact ⟨((x :: p).length : Int), .inr ⟨x :: p, q, rfl, hq, rfl⟩⟩
theorem up_size (way : ByteArray) : (upS way).size ≤ way.size := by
  obtain ⟨i, hi⟩ := last_at way.data.toList
  rw [← up_ext hi]
  rw [ByteArray.size_extract]
  omega
def AddOk (C : Nat) (A : Ads) (c : Nat) (e : Ending) (w' : World) : PutD → Prop
  | .no x => ∃ t v S, e = .returned (.iface t v) ∧ ErrV w' (.iface t v) S ∧ errnoS A S = x
  | .yes L' K' => e = .returned .nilIface ∧ ∃ v' bm br l', BInv C w' c v' bm br l' K' ∧ l'.map (·.1) = L'
def AddPost (C : Nat) (A : Ads) (c : Nat) (r : PutD) (w : World) (e : Ending) (w' : World) : Prop := AddOk C A c e w' r ∧ Below C w w'
theorem spotP_O {C : Nat} {A : Ads} {W : World} (hs : Sent C A W) (L : List NodeD) (K : List ByteArray) (up way : ByteArray) : OErr W (spotP A L K up way) := by
  unfold spotP
  split
  · exact leaf_O hs.pn _
  · split
    · exact leaf_O hs.pn _
    · split
      · exact leaf_O hs.pk _
      · exact leaf_O hs.pw _
theorem spots_some {W : World} {bm a : Nat} {L : List NodeD} {K : List ByteArray} {x : ByteArray} (h : SpotsAre W bm L K) (ha : look K x = some a) : ∃ d, L[a]? = some d := by
  obtain ⟨D, _, hok⟩ := h
  have := hok x
  rw [ha] at this
  obtain ⟨_, d, hd, _⟩ := this
  exact ⟨d, hd⟩
set_option maxHeartbeats 1000000 in
theorem isDirectory_any (k : Int) (w : World) : Calls Tryz.prog 44 #[.int .u8 k] w fun e w' => e = .returned (.bool (k == 100 || k == 120)) ∧ w' = w := by
  by_cases h1 : k = 100
  · subst h1
    go_enter Tryz.func44, Tryz.ntmps44
    go_wp2
    go_ret
    exact ⟨rfl, rfl⟩
  · have hb1 : (k == 100) = false := by rw [beq_eq_false_iff_ne]; exact h1
    rw [hb1]
    by_cases h2 : k = 120
    · subst h2
      go_enter Tryz.func44, Tryz.ntmps44
      go_wp2
      go_ret
      exact ⟨rfl, rfl⟩
    · have hb2 : (k == 120) = false := by rw [beq_eq_false_iff_ne]; exact h2
      rw [hb2]
      go_enter Tryz.func44, Tryz.ntmps44
      go_wp2
      go_ret
      exact ⟨rfl, rfl⟩
theorem base_way {way : ByteArray} (h : (cutS 47 way).all nameOk = true) : baseS way = lastS way := by
  have hne : neL way.data.toList = splitL 47 way.data.toList := by
    unfold neL
    rw [List.filter_eq_self]
    intro p hp
    have := (way_ok h p hp).1
    cases p with
    | nil => exact absurd rfl this
    | cons x t => rfl
  unfold baseS lastS lastL
  rw [partsS_neL, hne, List.getLast?_map]
  cases e : (splitL 47 way.data.toList).getLast? with
  | none => rw [List.getLast?_eq_none_iff] at e; exact absurd e (split_ne _ _)
  | some x => rfl
theorem lineD_names {s : ByteArray} {ln : LineD} (h : lineD s = some ln) : (cutS 47 ln.way).all nameOk = true := by
  unfold lineD at h
  split at h
  · rename_i k way ys e
    split at h
    · rename_i hn
      cases hf : fieldsD (headI k) ys with
      | none => rw [hf] at h; cases h
      | some r => rw [hf] at h; cases h; exact hn
    · cases h
  · cases h
theorem addR_yes {L : List NodeD} {K : List ByteArray} {line way : ByteArray} {ended : Bool} {f : FldD} {a : Nat} {d : NodeD} (h1 : lineD line = some ⟨f, way⟩) (h2 : ended = true) (h3 : L.length ≤ 200) (h4 : look K (upS way) = some a) (h5 : L[a]? = some d) (h6 : dirD d = true) (h7 : look K way = none) :
    addR L K line ended = .yes (addD L a d (newD a f (lastS way)) (d.kids ++ [L.length])) (K ++ [way]) := by
  unfold addR
  rw [h1]
  simp only [h2]
  rw [if_neg (by simp), if_neg (by omega)]
  unfold putD
  simp only [h4, h5, h6, h7]
  rfl
end Go.Proofs.YtconbmfbokpklaaGreatDoor
