/- The contract of the specification's Meet. -/
import Derived.Test.YtbkbikkieabcmaaDoorRectRef
namespace Go.Proofs.YtbkbikkieabcmaaDoor.Re
open Go.RowKit AM
theorem eight_keep {w W w' : World} {a1 a2 a3 a4 b1 b2 b3 b4 : Int} (h : w.heap.size + 1 < W.heap.size ∧ Below w.heap.size w W ∧
      W.cell? ⟨w.heap.size, 0, none⟩ = some (.int .i64 a1) ∧ W.cell? ⟨w.heap.size, 1, none⟩ = some (.int .i64 a2) ∧ W.cell? ⟨w.heap.size, 2, none⟩ = some (.int .i64 a3) ∧ W.cell? ⟨w.heap.size, 3, none⟩ = some (.int .i64 a4) ∧
      W.cell? ⟨w.heap.size + 1, 0, none⟩ = some (.int .i64 b1) ∧ W.cell? ⟨w.heap.size + 1, 1, none⟩ = some (.int .i64 b2) ∧ W.cell? ⟨w.heap.size + 1, 2, none⟩ = some (.int .i64 b3) ∧ W.cell? ⟨w.heap.size + 1, 3, none⟩ = some (.int .i64 b4))
    (hB : Below W.heap.size W w') : w.heap.size + 1 < w'.heap.size ∧ Below w.heap.size w w' ∧
      w'.cell? ⟨w.heap.size, 0, none⟩ = some (.int .i64 a1) ∧ w'.cell? ⟨w.heap.size, 1, none⟩ = some (.int .i64 a2) ∧ w'.cell? ⟨w.heap.size, 2, none⟩ = some (.int .i64 a3) ∧ w'.cell? ⟨w.heap.size, 3, none⟩ = some (.int .i64 a4) ∧
      w'.cell? ⟨w.heap.size + 1, 0, none⟩ = some (.int .i64 b1) ∧ w'.cell? ⟨w.heap.size + 1, 1, none⟩ = some (.int .i64 b2) ∧ w'.cell? ⟨w.heap.size + 1, 2, none⟩ = some (.int .i64 b3) ∧ w'.cell? ⟨w.heap.size + 1, 3, none⟩ = some (.int .i64 b4) := by
  obtain ⟨h0, h1, h2, h3, h4, h5, h6, h7, h8, h9⟩ := h
  obtain ⟨hc, _⟩ := bcell hB
  have hz := hB.size
  refine ⟨by omega, h1.trans (hB.mono (by omega)), ?_, ?_, ?_, ?_, ?_, ?_, ?_, ?_⟩
  all_goals (rw [hc _ _ (by omega)]; assumption)
def Eight (w W : World) (a1 a2 a3 a4 b1 b2 b3 b4 : Int) : Prop := w.heap.size + 1 < W.heap.size ∧ Below w.heap.size w W ∧
      W.cell? ⟨w.heap.size, 0, none⟩ = some (.int .i64 a1) ∧ W.cell? ⟨w.heap.size, 1, none⟩ = some (.int .i64 a2) ∧ W.cell? ⟨w.heap.size, 2, none⟩ = some (.int .i64 a3) ∧ W.cell? ⟨w.heap.size, 3, none⟩ = some (.int .i64 a4) ∧
      W.cell? ⟨w.heap.size + 1, 0, none⟩ = some (.int .i64 b1) ∧ W.cell? ⟨w.heap.size + 1, 1, none⟩ = some (.int .i64 b2) ∧ W.cell? ⟨w.heap.size + 1, 2, none⟩ = some (.int .i64 b3) ∧ W.cell? ⟨w.heap.size + 1, 3, none⟩ = some (.int .i64 b4)
theorem Eight.keep {w W V w' : World} {a1 a2 a3 a4 b1 b2 b3 b4 : Int} (h : Eight w W a1 a2 a3 a4 b1 b2 b3 b4) (hB : Below V.heap.size V w') (hV : V.heap = W.heap ∧ V.os = W.os ∧ V.tape = W.tape ∧ V.output = W.output := by exact ⟨rfl, rfl, rfl, rfl⟩) : Eight w w' a1 a2 a3 a4 b1 b2 b3 b4 := by
  obtain ⟨e1, e2, e3, e4⟩ := hV
  have hB' : Below W.heap.size W w' := ⟨hB.os.trans e2, hB.tape.trans e3, hB.output.trans e4, by rw [← e1]; exact hB.size, fun k hk => by rw [← e1] at hk ⊢; exact hB.block k hk⟩
  exact eight_keep h hB'
end Go.Proofs.YtbkbikkieabcmaaDoor.Re
