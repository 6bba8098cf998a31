/- What a row of nodes gives. -/
import Derived.Test.YtfemboojdablhaaGreatDoorTGNodes
namespace Go.Proofs.YtfemboojdablhaaGreatDoor.Tre
open Go.RowKit
theorem NodeRow.form {C : Nat} {W : World} {v : Value} {L : List NodeD} (h : NodeRow C W v L) : ∃ a cap, v = .slice a L.length cap := by
  rcases h with ⟨rfl, rfl⟩ | ⟨g, cap, rfl, _⟩
  · exact ⟨_, _, rfl⟩
  · exact ⟨_, _, rfl⟩

theorem IntRow.form {C : Nat} {W : World} {v : Value} {ks : List Nat} (h : IntRow C W v ks) : ∃ a cap, v = .slice a ks.length cap ∧ ∀ (j k : Nat), ks[j]? = some k → ∃ g, a = some ⟨g, 0, none⟩ ∧ ks.length ≤ cap ∧ W.cell? ⟨g, j, none⟩ = some (.int .i64 (k : Int)) := by
  rcases h with ⟨rfl, rfl⟩ | ⟨g, cap, rfl, _, hc, hx⟩
  · exact ⟨_, _, rfl, fun j k h => by simp at h⟩
  · exact ⟨_, _, rfl, fun j k h => ⟨g, rfl, hc, hx j k h⟩⟩
theorem NodeRow.at {C : Nat} {W : World} {a : Option Addr} {m cap : Nat} {L : List NodeD} (h : NodeRow C W (.slice a m cap) L) {i : Nat} {n : NodeD} (hi : L[i]? = some n) : ∃ g ka km kc, a = some ⟨g, 0, none⟩ ∧ g < C ∧ L.length ≤ cap ∧ NodeAt W g i n (.slice ka km kc) ∧ IntRow C W (.slice ka km kc) n.kids := by
  rcases h with ⟨_, rfl⟩ | ⟨g, cap', e, hg, hc, hx⟩
  · simp at hi
  · cases e
    obtain ⟨kv, h1, h2⟩ := hx i n hi
    obtain ⟨ka, kc, rfl, _⟩ := h2.form
    exact ⟨g, ka, _, kc, rfl, hg, hc, h1, h2⟩
theorem box7 {W : World} {b t : Nat} {x0 x1 x2 x3 x4 x5 x6 : Value} (h : W.heap[b]? = some (.cells #[x0, x1, x2, x3, x4, x5, x6] t)) :
    W.cell? ⟨b, 0, none⟩ = some x0 ∧ W.cell? ⟨b, 1, none⟩ = some x1 ∧ W.cell? ⟨b, 2, none⟩ = some x2 ∧ W.cell? ⟨b, 3, none⟩ = some x3 ∧ W.cell? ⟨b, 4, none⟩ = some x4 ∧ W.cell? ⟨b, 5, none⟩ = some x5 ∧ W.cell? ⟨b, 6, none⟩ = some x6 := by
  simp [World.cell?, h]
end Go.Proofs.YtfemboojdablhaaGreatDoor.Tre
