/- Merged: ErH, ErI, ErJ, ErK. -/
import Derived.Test.YtdlljlmgoiobpaaGreatDoorEE
import Derived.Test.YtdlljlmgoiobpaaGreatDoorGbBracket
/- The reader: a sign behind a backslash. -/
namespace Go.Proofs.YtdlljlmgoiobpaaGreatDoor
open Go.RowKit Go.Maps
def signsL : List UInt8 := [94, 46, 91, 93, 36, 40, 41, 124, 42, 43, 63, 123, 125, 92, 47]
/-- A sign behind a backslash. -/
def escSD (l : List UInt8) (i : Nat) : Res ByteArray := match l[i]? with
  | none => .bad 2
  | some c => if signsL.contains c = true then .ok (byteT c) (i + 1) else .bad 2
/-- What is answered where an atom is one byte of some. -/
def AtP (b : Nat) (s : ByteArray) (d : Nat) (o : Res ByteArray) (w : World) (e : Ending) (w' : World) : Prop := match o with
  | .bad r => (∃ p, e = .panicked (thrown (r : Int) p)) ∧ FrE b w w'
  | .ok t j => e = .returned (partV 2 t none 0 0 1) ∧ RdB w' b s j d ∧ FrE b w w'
set_option maxRecDepth 100000 in
set_option maxHeartbeats 1000000 in
theorem escaped_any (b : Nat) (s : ByteArray) (i d : Nat) (w : World) (h : RdB w b s i d) (hi : i ≤ s.size) (hs : s.size ≤ 200) :
    Calls Tryz.prog 59 #[.pointer (some ⟨b, 0, none⟩)] w (AtP b s d (escSD s.data.toList i) w) := by
  have hb : b < w.heap.size := (Array.getElem?_eq_some_iff.1 h).1
  have hgb : w.heap.size ≠ b := by omega
  have h0 := h.alloc (.cells #[.int .i64 0, .string ⟨#[]⟩, .slice none 0 0, .int .i64 0] 42)
  have f0 := FrE.alloc b w (.cells #[.int .i64 0, .string ⟨#[]⟩, .slice none 0 0, .int .i64 0] 42)
  have p0 := PaB.new w 0 ⟨#[]⟩ none 0 0 0
  obtain ⟨c0, c1, c2, cf⟩ := h.cells
  by_cases hlt : i < s.size
  · have hge : s.data.toList[i]? = some s[i] := by rw [List.getElem?_eq_getElem (by simpa using hlt)]; rfl
    have hne : ((i : Int) == (s.size : Int)) = false := by rw [beq_eq_false_iff_ne]; omega
    have hiI : (i : Int) < (s.size : Int) := by omega
    have hix : ∀ W, Calls Tryz.prog 60 #[.string ⟨#[94, 46, 91, 93, 36, 40, 41, 124, 42, 43, 63, 123, 125, 92, 47]⟩, .int .u8 (s[i].toNat : Int)] W fun e w' => e = .returned (.int .i64 (Lib.indexByte signsL s[i])) ∧ w' = W := fun W => by
      have := Tryz.strings_IndexByte ⟨signsL.toArray⟩ (s[i].toNat : Int) W
      rw [show ((s[i].toNat : Int)).toNat.toUInt8 = s[i] by simp] at this
      exact this
    obtain ⟨ix, hixe⟩ : ∃ ix, Lib.indexByte signsL s[i] = ix := ⟨_, rfl⟩
    have hmem := index_mem signsL s[i]
    rw [hixe] at hix hmem
    by_cases hin : 0 ≤ ix
    · have hsg : signsL.contains s[i] = true := by rw [← hmem]; exact decide_eq_true hin
      have hd : decide (ix < 0) = false := decide_eq_false (by omega)
      have HR := hide (⟨hge, hsg, f0, p0, h0⟩ : _ ∧ _ ∧ _ ∧ _ ∧ _)
      clear h hge hmem cf c2 hixe f0 p0 h0 hsg
      go_enter Tryz.func59, Tryz.ntmps59
      go_wp2
      go_region
      go_wp2
      go_region_with (go_at_call 60; refine (hix _).mono ?_; rintro e w2 ⟨rfl, hw⟩; rw [hw]; clear hw)
      all_goals go_wp2_with fail
      all_goals
        have h1 : RdB (w.alloc (.cells #[.int .i64 0, .string ⟨#[]⟩, .slice none 0 0, .int .i64 0] 42)).drew.drew b s i d := HR.out.2.2.2.2
        refine (literal_any b s i d _ h1 hlt hs).mono ?_
        rintro e w3 ⟨rfl, h3, f3⟩
        have p1 : PaB (w.alloc (.cells #[.int .i64 0, .string ⟨#[]⟩, .slice none 0 0, .int .i64 0] 42)).drew.drew w.heap.size 0 ⟨#[]⟩ none 0 0 0 := HR.out.2.2.2.1
        have p3 := p1.keep f3 hgb
        have F3 := HR.out.2.2.1.drew.drew.trans f3
        obtain ⟨a0, a1, a2, a3, af, al⟩ := p3.cells
        have H3 := hide (⟨h3, p3, F3⟩ : _ ∧ _ ∧ _)
        clear h3 p3 F3 f3 p1 h1 hix
        unfold partV
        go_wp2
        refine part_at rfl rfl rfl (H3.out.2.1.set4 2 (byteT s[i]) none 0 0 1) ?_
        unfold escSD
        rw [HR.out.1]
        simp only
        rw [if_pos HR.out.2.1]
        exact ⟨rfl, H3.out.1.own (set4_fr _ _ _ _ _ _ _ _) hgb, H3.out.2.2.own (Nat.le_refl _) (set4_fr _ _ _ _ _ _ _ _)⟩
    · have hsg : signsL.contains s[i] = false := by rw [← hmem]; exact decide_eq_false hin
      have hd : decide (ix < 0) = true := decide_eq_true (by omega)
      have hin2 : ix < 0 := by omega
      have HR := hide (⟨hge, hsg, f0⟩ : _ ∧ _ ∧ _)
      clear h hge hmem cf c2 hixe f0 p0 h0 hsg
      go_enter Tryz.func59, Tryz.ntmps59
      go_wp2
      go_region
      go_wp2
      go_region_with (go_at_call 60; refine (hix _).mono ?_; rintro e w2 ⟨rfl, hw⟩; rw [hw]; clear hw)
      all_goals go_wp2_with (go_at_call 19; refine (throw_any _ _ _).mono ?_; rintro e w2 ⟨rfl, hw⟩; rw [hw]; clear hw)
      all_goals
        refine ⟨rfl, ?_⟩
        unfold escSD
        rw [HR.out.1]
        simp only
        rw [if_neg (by rw [HR.out.2.1]; decide)]
        exact ⟨⟨_, rfl⟩, HR.out.2.2.drew.drew⟩
  · have hne : ((i : Int) == (s.size : Int)) = true := by rw [beq_iff_eq]; omega
    have hge : s.data.toList[i]? = none := List.getElem?_eq_none (by simp; omega)
    have HR := hide (⟨hge, f0⟩ : _ ∧ _)
    clear h hge cf c2 f0 p0 h0
    go_enter Tryz.func59, Tryz.ntmps59
    go_wp2
    go_region
    go_wp2_with (go_at_call 19; refine (throw_any _ _ _).mono ?_; rintro e w2 ⟨rfl, hw⟩; rw [hw]; clear hw)
    refine ⟨rfl, ?_⟩
    unfold escSD
    rw [HR.out.1]
    exact ⟨⟨_, rfl⟩, HR.out.2.drew⟩
end Go.Proofs.YtdlljlmgoiobpaaGreatDoor
/- The reader: all bytes but one. -/
namespace Go.Proofs.YtdlljlmgoiobpaaGreatDoor
open Go.RowKit Go.Maps
theorem FrE.ofBelow {B : Nat} {w W : World} (h : Below B w W) (hB : w.heap.size ≤ B) (b : Nat) : FrE b w W := ⟨h.os, h.tape, h.output, h.size, fun k hk _ => h.block k (by omega)⟩
/-- All but the newline. -/
def butS : BSet := fun j => !(j == 10)
set_option maxRecDepth 100000 in
set_option maxHeartbeats 1000000 in
theorem allBut_any (w : World) :
    Calls Tryz.prog 57 #[.int .u8 10] w fun e w' => e = .returned (.string ⟨(textTo butS 256).toArray⟩) ∧ Below w.heap.size w w' := by
  obtain ⟨i0, hi0, hz0, hz1, hz2⟩ := info_parts Tryz.info5'
  go_enter Tryz.func57, Tryz.ntmps57
  go_wp2
  go_loopw [3, 5] (fun ov iv wr => ∃ i : Nat, iv = .int .i64 (i : Int) ∧ i ≤ 256 ∧ wr.ownsRow w.heap.size 5 1 ov (textTo butS i).length (u8s (textTo butS i)) ∧ Below w.heap.size w wr ∧ ∃ ao co, ov = .slice ao (textTo butS i).length co) (fun _ iv _ => 256 - (intOf iv).toNat)
  case atStart => exact ⟨0, rfl, Nat.zero_le _, ⟨rfl, .inl ⟨rfl, rfl⟩⟩, Below.refl _ _, _, _, rfl⟩
  case round =>
    obtain ⟨i, rfl, hi, hown, hbel, ao, co, rfl⟩ := hrel
    have hlen := textTo_len butS i
    by_cases hlt : i < 256
    · have hiI : (i : Int) < 256 := by omega
      have hwr : IntKind.u8.wrap (i : Int) = (i : Int) := by rw [IntKind.wrap_u8]; omega
      have hsucc := textTo_succ butS i
      have hbs := hbel.size
      by_cases hten : i = 10
      · have hS : butS i = false := by rw [hten]; rfl
        have htI : ((i : Int) == 10) = true := by rw [hten]; rfl
        have htI' : ((i : Int) != 10) = false := by rw [hten]; rfl
        rw [hS] at hsucc
        simp only [Bool.false_eq_true, if_false, List.append_nil] at hsucc
        have HB := hide (And.intro hown (And.intro hbel hsucc))
        clear hown hbel hsucc hten hS
        go_wp2
        go_roundw
        case rel =>
          obtain ⟨h2, h3, h4⟩ := HB.out
          exact ⟨i + 1, by simp, by omega, by rw [h4]; exact h2, ⟨h3.os, h3.tape, h3.output, h3.size, h3.block⟩, _, _, by rw [h4]⟩
        case measure => simp [intOf]; omega
      · have hS : butS i = true := by unfold butS; rw [beq_eq_false_iff_ne.2 hten]; rfl
        have htI : ((i : Int) == 10) = false := by rw [beq_eq_false_iff_ne]; omega
        have htI' : ((i : Int) != 10) = true := by rw [bne, htI]; rfl
        rw [hS] at hsucc
        simp only [if_true] at hsucc
        have hnews : ∀ q : World, ∀ j u, [Value.int .u8 (i : Int)][j]? = some u → (q.alloc (.cells #[.int .u8 (i : Int)] 5)).cell? ((⟨q.heap.size, 0, none⟩ : Addr).add j) = some u := fun q => cell_one_new q _ 5
        have hmaxl : (textTo butS i).length + 1 ≤ maxLen := by unfold maxLen; omega
        have HB := hide (And.intro hown (And.intro hbel hsucc))
        have HON := hide (hown)
        have HNEWS := hide hnews
        clear hown hbel hsucc hnews hten hS
        go_wp2_with (at_builtin; refine wpList_append_lies _ rfl (.tmp 12) (.tmp 15) 120 rfl w.heap.size 5 i0 _ 1 1 Tryz.u120 hi0 hz0 hz1 hz2 rfl (by decide) (.slice ao (textTo butS i).length co) (textTo butS i).length (u8s (textTo butS i)) rfl (HON.out.alloc _) ⟨wr.heap.size, 0, none⟩ 1 1 [.int .u8 (i : Int)] rfl rfl (HNEWS.out _) (by simp [Value.oneCell']) (by decide) hmaxl (by omega) (by simp; omega) _ rfl ?_; intro g1 c1 w1 hown1 hgr1 hat1 hlt1)
        go_roundw
        case rel =>
          obtain ⟨h2, h3, h4⟩ := HB.out
          have hboB : ∀ k, (Value.slice ao (textTo butS i).length co).ownBlock = some k → w.heap.size ≤ k := by
            intro k hk
            rcases h2.2 with ⟨e, _⟩ | ⟨g', cap, cur, e, hbb, _⟩
            · rw [e] at hk; cases hk
            · rw [e] at hk; cases hk; exact hbb
          have a1 := World.grownBy_alloc wr (.cells #[.int .u8 (i : Int)] 5) (Value.slice ao (textTo butS i).length co).ownBlock
          have a2 := a1.trans hgr1
          have hofn : ((UInt8.ofNat i).toNat : Int) = (i : Int) := by
            rw [UInt8.toNat_ofNat', Nat.mod_eq_of_lt (by omega)]
          have e5 : u8s [UInt8.ofNat i] = [.int .u8 (i : Int)] := by rw [u8s, List.map_cons, List.map_nil, hofn]
          refine ⟨i + 1, by simp, by omega, ?_, h3.grown a2 h3.size hboB, _, _, by rw [h4, List.length_append]; rfl⟩
          rw [h4, List.length_append, u8s_append, e5]
          exact hown1
        case measure => simp [intOf]; omega
    · have hiI : ¬ ((i : Int) < 256) := by omega
      have hcv := conv_any hown
      have hie : i = 256 := by omega
      subst hie
      have HB := hide hbel
      clear hown hbel
      go_wp2
      go_ret
      exact ⟨rfl, HB.out⟩
end Go.Proofs.YtdlljlmgoiobpaaGreatDoor
/- A bracket, as glob reads it for expressions. -/
namespace Go.Proofs.YtdlljlmgoiobpaaGreatDoor
open Go.RowKit Go.Maps
/-- A bracket at the head of a text: its bytes, and how long it is. -/
def plainBrD (l : List UInt8) : Option (BSet × Nat) := match bracketD false [94] l with
  | some p => if p.known = true then some (p.set, l.length - p.rest.length) else none
  | none => none
def plainV (o : Option (BSet × Nat)) : Value := match o with
  | some (S, n) => .tuple #[.string ⟨(textTo S 256).toArray⟩, .int .i64 (n : Int), .bool true]
  | none => .tuple #[.string ⟨#[]⟩, .int .i64 0, .bool false]
set_option maxRecDepth 100000 in
set_option maxHeartbeats 2000000 in
theorem plain_any (s : ByteArray) (w : World) (hs : s.size ≤ 1000000000) (hM : MaxW w) (h1 : 1 < w.heap.size) :
    Calls Tryz.prog 73 #[.string s] w fun e w' => e = .returned (plainV (plainBrD s.data.toList)) ∧ Below w.heap.size w w' := by
  have hB := readBracket_any s ⟨#[94]⟩ false w hs hM h1
  have hz140 := zero140
  go_enter Tryz.func73, Tryz.ntmps73
  go_wp2_with fail
  refine hB.mono ?_
  rintro e w2 ⟨b2, hcase⟩
  clear hB
  obtain ⟨W3, hW3⟩ : ∃ W3, w2.alloc (.cells (brL ⟨#[]⟩ false noneD 0 false).toArray 138) = W3 := ⟨_, rfl⟩
  have hn3 : W3.heap[w2.heap.size]? = some (.cells (brL ⟨#[]⟩ false noneD 0 false).toArray 138 (0, 0)) := by rw [← hW3]; exact World.alloc_heap_new w2 _
  have b23 : Below w2.heap.size w2 W3 := by rw [← hW3]; exact (Below.refl _ _).alloc (Nat.le_refl _) _
  rcases hcase with ⟨hno, rfl⟩ | ⟨p, hso, rfl⟩
  · have HNO := hide hno
    have hst := st_blk hn3 (ys := brL ⟨#[]⟩ false noneD 0 false) ((brL_len _ _ _ _ _).trans (brL_len _ _ _ _ _).symm) (brL_one _ _ _ _ _)
    have hln := brL_len ⟨#[]⟩ false noneD 0 false
    obtain ⟨W4, hW4⟩ : ∃ W4, W3.setRow w2.heap.size (brL ⟨#[]⟩ false noneD 0 false).toArray = W4 := ⟨_, rfl⟩
    have hg34 : W3.grownBy W4 (some w2.heap.size) := by rw [← hW4]; exact row_grown _ _ _
    rw [hW4] at hst
    have b24 : Below w2.heap.size w2 W4 := b23.grown hg34 b23.size (fun k e => by cases e; exact Nat.le_refl _)
    have k14 : Below w.heap.size w W4 := b2.trans (b24.mono b2.size)
    have HB := hide k14
    clear hn3 b23 hW4 hg34 b24 k14 hno b2
    go_wp2
    refine bodyPost_ret (v := plainV none) (by simp [results, Tryz.results73, go_sem, plainV]) rfl ⟨?_, HB.out⟩
    unfold plainBrD
    rw [HNO.out]
  · obtain ⟨n5, hn5⟩ : ∃ n5 : Int, ((s.size - p.rest.length : Nat) : Int) = n5 := ⟨_, rfl⟩
    have HSO := hide (⟨hso, hn5⟩ : _ ∧ _)
    rw [hn5]
    have hst := st_blk hn3 (ys := brL ⟨#[94]⟩ false p.set n5 p.known) ((brL_len _ _ _ _ _).trans (brL_len _ _ _ _ _).symm) (brL_one _ _ _ _ _)
    have hln := brL_len ⟨#[94]⟩ false p.set n5 p.known
    obtain ⟨W4, hW4⟩ : ∃ W4, W3.setRow w2.heap.size (brL ⟨#[94]⟩ false p.set n5 p.known).toArray = W4 := ⟨_, rfl⟩
    have hg34 : W3.grownBy W4 (some w2.heap.size) := by rw [← hW4]; exact row_grown _ _ _
    have hbb : BBlk W4 w2.heap.size 138 (brPre ⟨#[94]⟩ false) p.set (brPost n5 p.known) := by rw [← hW4]; exact row_blk hn3 _
    rw [hW4] at hst
    have b24 : Below w2.heap.size w2 W4 := b23.grown hg34 b23.size (fun k e => by cases e; exact Nat.le_refl _)
    have k14 : Below w.heap.size w W4 := b2.trans (b24.mono b2.size)
    have hkn := hbb.known
    have hle := hbb.len
    have HB := hide (⟨k14, hbb⟩ : _ ∧ _)
    cases hk : p.known with
    | false =>
      rw [hk] at hkn hst hln
      have HK := hide hk
      clear hn3 b23 hW4 hg34 b24 k14 hso b2 hbb hk hn5
      go_wp2
      refine bodyPost_ret (v := plainV none) (by simp [results, Tryz.results73, go_sem, plainV]) rfl ⟨?_, HB.out.1⟩
      unfold plainBrD
      rw [HSO.out.1]
      simp only
      rw [if_neg (by rw [HK.out]; decide)]
    | true =>
      rw [hk] at hkn hst hln
      have HK := hide hk
      clear hn3 b23 hW4 hg34 b24 k14 hso b2 hbb hk hn5
      have hT : ∀ W : World, W.heap = W4.heap → W.os = W4.os → W.tape = W4.tape → W.output = W4.output → Calls Tryz.prog 78 #[.pointer (some ⟨w2.heap.size, 2, none⟩)] W fun e w5 => e = .returned (.string ⟨(textTo p.set 256).toArray⟩) ∧ Hid (Below w.heap.size w w5) ∧ w5.cell? ⟨w2.heap.size, 258, none⟩ = some (.int .i64 n5) := fun W e1 e2 e3 e4 => by
        have hb : BBlk W w2.heap.size 138 (brPre ⟨#[94]⟩ false) p.set (brPost n5 p.known) := by unfold BBlk; rw [e1]; exact HB.out.2
        refine (text_any w2.heap.size 2 138 (brPre ⟨#[94]⟩ false) (brPost n5 p.known) p.set W hb rfl).mono ?_
        rintro e w5 ⟨rfl, b5⟩
        have kW : Below w.heap.size w W := ⟨e2.trans HB.out.1.os, e3.trans HB.out.1.tape, e4.trans HB.out.1.output, by rw [e1]; exact HB.out.1.size, fun k hk => by rw [e1]; exact HB.out.1.block k hk⟩
        refine ⟨rfl, kW.trans (b5.mono kW.size), ?_⟩
        have : w5.heap[w2.heap.size]? = W.heap[w2.heap.size]? := b5.block _ hb.lt
        have hb5 : BBlk w5 w2.heap.size 138 (brPre ⟨#[94]⟩ false) p.set (brPost n5 p.known) := by unfold BBlk; rw [this]; exact hb
        exact hb5.len
      have hTd := hT W4.drew rfl rfl rfl rfl
      have HPL : Hid (plainBrD s.data.toList = some (p.set, s.size - p.rest.length)) := by
        show plainBrD s.data.toList = some (p.set, s.size - p.rest.length)
        unfold plainBrD
        rw [HSO.out.1]
        simp only
        rw [if_pos HK.out]
        simp
      clear hT
      go_wp2
      go_region_with (go_at_call 78; refine hTd.mono ?_; rintro e w5 ⟨rfl, HB5, hle5⟩)
      all_goals go_wp2
      all_goals refine bodyPost_ret (v := .tuple #[.string ⟨(textTo p.set 256).toArray⟩, .int .i64 n5, .bool true]) (by simp [results, Tryz.results73, go_sem, Act.put]) rfl ⟨?_, HB5.out⟩
      all_goals rw [HPL.out]
      all_goals unfold plainV
      all_goals rw [← HSO.out.2]
end Go.Proofs.YtdlljlmgoiobpaaGreatDoor
/- The reader: a bracket. -/
namespace Go.Proofs.YtdlljlmgoiobpaaGreatDoor
open Go.RowKit Go.Maps
/-- A bracket that begins at i - 1. -/
def brkD (l : List UInt8) (i : Nat) : Res ByteArray := match plainBrD (l.drop (i - 1)) with
  | none => .bad 2
  | some (S, n) => .ok ⟨(textTo S 256).toArray⟩ (i - 1 + n)
theorem plainBrD_le {l : List UInt8} {S : BSet} {n : Nat} (h : plainBrD l = some (S, n)) : n ≤ l.length := by
  unfold plainBrD at h
  split at h
  · split at h
    · cases h; omega
    · cases h
  · cases h
set_option maxRecDepth 100000 in
set_option maxHeartbeats 1000000 in
theorem bracket_any (b : Nat) (s : ByteArray) (i d : Nat) (w : World) (h : RdB w b s i d) (hi : i ≤ s.size) (hi0 : 1 ≤ i) (hs : s.size ≤ 200) (hM : MaxW w) (h1 : 1 < w.heap.size) :
    Calls Tryz.prog 58 #[.pointer (some ⟨b, 0, none⟩)] w (AtP b s d (brkD s.data.toList i) w) := by
  have hb : b < w.heap.size := (Array.getElem?_eq_some_iff.1 h).1
  have hgb : w.heap.size ≠ b := by omega
  obtain ⟨W0, hW0⟩ : ∃ W0, w.alloc (.cells #[.int .i64 0, .string ⟨#[]⟩, .slice none 0 0, .int .i64 0] 42) = W0 := ⟨_, rfl⟩
  have h0 : RdB W0 b s i d := by rw [← hW0]; exact h.alloc _
  have f0 : FrE b w W0 := by rw [← hW0]; exact FrE.alloc b w _
  have p0 : PaB W0 w.heap.size 0 ⟨#[]⟩ none 0 0 0 := by rw [← hW0]; exact PaB.new w 0 ⟨#[]⟩ none 0 0 0
  have hM0 : MaxW W0 := by rw [← hW0]; exact hM.below h1 ((Below.refl _ _).alloc (Nat.le_refl _) _)
  have h10 : 1 < W0.heap.size := Nat.lt_of_lt_of_le h1 f0.size
  obtain ⟨q, hq⟩ : ∃ q, i - 1 = q := ⟨_, rfl⟩
  have hqi : i = q + 1 := by omega
  subst hqi
  have hse : (s.extract q s.size).data.toList = s.data.toList.drop q := by
    rw [ByteArray.data_extract, Array.toList_extract, List.extract_eq_take_drop]
    exact List.take_of_length_le (by rw [List.length_drop, Array.length_toList]; exact Nat.le_refl _)
  have hp := plain_any (s.extract q s.size) W0 (by rw [ByteArray.size_extract]; omega) hM0 h10
  rw [hse] at hp
  obtain ⟨o, ho⟩ : ∃ o, plainBrD (s.data.toList.drop q) = o := ⟨_, rfl⟩
  rw [ho] at hp
  obtain ⟨c0, c1, c2, cf⟩ := h0.cells
  have hqs : (q : Int) ≤ (s.size : Int) := by omega
  have hq1 : ((q + 1 : Nat) : Int) - 1 = (q : Int) := by omega
  have HR := hide (⟨h0, f0, p0, ho⟩ : _ ∧ _ ∧ _ ∧ _)
  clear h h0 f0 p0 cf c2 ho hM0 h10 hse hM hq
  go_enter Tryz.func58, Tryz.ntmps58
  go_wp2_with fail
  refine hp.mono ?_
  rintro e w2 ⟨rfl, b2⟩
  have f2 := FrE.ofBelow b2 (Nat.le_refl _) b
  have h2 : RdB w2 b s (q + 1) d := (b2.block b (Array.getElem?_eq_some_iff.1 HR.out.1).1).trans HR.out.1
  have p2 := HR.out.2.2.1.keep f2 hgb
  have F2 := HR.out.2.1.trans f2
  clear b2 f2 hp c0 c1 hW0
  cases o with
  | none =>
    have H2 := hide F2
    clear F2 h2 p2
    unfold plainV
    go_wp2_with (go_at_call 19; refine (throw_any _ _ _).mono ?_; rintro e w3 ⟨rfl, hw⟩; rw [hw]; clear hw)
    refine ⟨rfl, ?_⟩
    unfold brkD
    rw [show q + 1 - 1 = q by omega, HR.out.2.2.2]
    exact ⟨⟨_, rfl⟩, H2.out⟩
  | some x =>
    obtain ⟨S, n⟩ := x
    have hnl := plainBrD_le HR.out.2.2.2
    rw [List.length_drop, Array.length_toList] at hnl
    have hnl : n ≤ s.size - q := hnl
    obtain ⟨c0, c1, c2, cf⟩ := h2.cells
    have cf1 := cf 1
    have h3 := h2.at_ (q + n)
    have p3 := p2.keep (FrE.set b w2 1 (.int .i64 ((q + n : Nat) : Int))) hgb
    have F3 := F2.trans (FrE.set b w2 1 (.int .i64 ((q + n : Nat) : Int)))
    have hcast : ((q + n : Nat) : Int) = (q : Int) + (n : Int) := by omega
    rw [hcast] at h3 p3 F3
    have H3 := hide (⟨h3, p3, F3⟩ : _ ∧ _ ∧ _)
    clear h2 p2 F2 h3 p3 F3 c2 cf hcast
    unfold plainV
    go_wp2_with fail
    refine (one_any _ _).mono ?_
    rintro e w4 ⟨rfl, f4⟩
    have h4 := H3.out.1.own (f4 w4.heap.size) (by have := (f4 b).size; have := (Array.getElem?_eq_some_iff.1 H3.out.1).1; omega)
    have p4 := H3.out.2.1.keep (f4 b) hgb
    have F4 := H3.out.2.2.trans (f4 b)
    obtain ⟨a0, a1, a2, a3, af, al⟩ := p4.cells
    have H4 := hide (⟨h4, p4, F4⟩ : _ ∧ _ ∧ _)
    clear h4 p4 F4 f4 c0 c1 cf1
    unfold partV
    go_wp2
    refine part_at rfl rfl rfl (H4.out.2.1.set4 2 ⟨(textTo S 256).toArray⟩ none 0 0 1) ?_
    unfold brkD
    rw [show q + 1 - 1 = q by omega, HR.out.2.2.2]
    exact ⟨rfl, H4.out.1.own (set4_fr _ _ _ _ _ _ _ _) hgb, H4.out.2.2.own (Nat.le_refl _) (set4_fr _ _ _ _ _ _ _ _)⟩
end Go.Proofs.YtdlljlmgoiobpaaGreatDoor
