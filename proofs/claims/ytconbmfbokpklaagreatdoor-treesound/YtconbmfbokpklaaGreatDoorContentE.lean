/- The reader of a line 't': all cases. -/
import Derived.Test.YtconbmfbokpklaaGreatDoorContentA
import Derived.Test.YtconbmfbokpklaaGreatDoorContentB
import Derived.Test.YtconbmfbokpklaaGreatDoorContentC
import Derived.Test.YtconbmfbokpklaaGreatDoorContentD
namespace Go.Proofs.YtconbmfbokpklaaGreatDoor
open Go.RowKit

set_option maxHeartbeats 1000000 in
set_option maxRecDepth 100000 in
theorem readContent_any {C : Nat} {A : Ads} (b g off cap : Nat) (ys : List ByteArray) (w : World) (hbox : BoxZ w b) (hsent : Sent C A w) (hC : C ≤ w.heap.size) (hCb : C ≤ b) (hgb : g ≠ b) (hx : HasStrs w g off ys) (hy : ∀ y ∈ ys, y.size ≤ 100000) (hcap : ys.length ≤ cap) (hl : ys.length ≤ 1000000) :
    Calls Tryz.prog 65 #[.pointer (some ⟨b, 0, none⟩), .slice (some ⟨g, off, none⟩) ys.length cap] w (RdPost A b (fieldsD 116 ys) w) := by
  by_cases hn : ys.length = 2
  · match ys, hn with
    | [y0, y1], _ =>
      have h0 := hy y0 (by simp)
      have h1 := hy y1 (by simp)
      cases e1 : gB y0 <;> cases e2 : (textD y1).isSome
      · exact contentD b g off cap y0 y1 w hbox hsent hC hCb hgb hx h0 h1 hcap e1 e2
      · exact contentC b g off cap y0 y1 w hbox hsent hC hCb hgb hx h0 h1 hcap e1 e2
      · exact contentB b g off cap y0 y1 w hbox hsent hC hCb hgb hx h0 h1 hcap e1 e2
      · exact contentA b g off cap y0 y1 w hbox hsent hC hCb hgb hx h0 h1 hcap e1 e2
  · obtain ⟨d0, _, _, _, _, _, _, df⟩ := hbox.cells
    have f0 := df 0
    have hc2 := (hsent.grown (set_grown w b 0 (.int .u8 102)) hCb hC).c0
    have HS2 := hide (hsent.grown (set_grown w b 0 (.int .u8 102)) hCb hC)
    have HBX := hide (hbox.set0 102)
    have HR := hide (fD_t_no hn)
    clear df hbox hsent hx hy
    go_enter Tryz.func65, Tryz.ntmps65
    go_wp2
    go_ret
    exact rd_no HR.out (unhide HS2) (unhide HBX) (set_grown _ _ _ _)
end Go.Proofs.YtconbmfbokpklaaGreatDoor
