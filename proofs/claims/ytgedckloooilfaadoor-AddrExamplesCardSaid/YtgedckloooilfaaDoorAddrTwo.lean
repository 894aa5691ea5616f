/- Two addresses in memory. -/
import Derived.Test.YtgedckloooilfaaDoorAddrB
namespace Go.Proofs.YtgedckloooilfaaDoor
open Go.RowKit
/-- Two addresses lie in blocks p and q. -/
def RefTwo (w W : World) (p q : Nat) (a b c d : Int) : Prop :=
  p < W.heap.size ∧ q < W.heap.size ∧ Below w.heap.size w W ∧ W.cell? ⟨p, 0, none⟩ = some (.int .i64 a) ∧ W.cell? ⟨p, 1, none⟩ = some (.int .i64 b) ∧
    W.cell? ⟨q, 0, none⟩ = some (.int .i64 c) ∧ W.cell? ⟨q, 1, none⟩ = some (.int .i64 d)
theorem RefTwo.later {w W W' : World} {p q : Nat} {a b c d : Int} (h : RefTwo w W p q a b c d) (hs : w.heap.size ≤ W.heap.size) (hB : Below W.heap.size W W') : RefTwo w W' p q a b c d := by
  obtain ⟨h0, h1, h2, h3, h4, h5, h6⟩ := h
  obtain ⟨hc, _⟩ := bcell hB
  have hz := hB.size
  refine ⟨by omega, by omega, h2.trans (hB.mono (by omega)), ?_, ?_, ?_, ?_⟩
  · rw [hc _ _ h0]; exact h3
  · rw [hc _ _ h0]; exact h4
  · rw [hc _ _ h1]; exact h5
  · rw [hc _ _ h1]; exact h6
/-- A second address is laid behind the first one. -/
theorem RefTwo.start {w w1 w2 : World} {a b c d : Int} {t t' : TypeId} (h1 : Below w.heap.size w w1) (h2 : Below (w1.alloc (.cells #[.int .i64 a, .int .i64 b] t)).heap.size (w1.alloc (.cells #[.int .i64 a, .int .i64 b] t)) w2) :
    RefTwo w (w2.alloc (.cells #[.int .i64 c, .int .i64 d] t')) w1.heap.size w2.heap.size a b c d := by
  have hz1 := h1.size
  have hz2 : w1.heap.size < w2.heap.size := by have := h2.size; simp at this; omega
  obtain ⟨hc, _⟩ := bcell h2
  refine ⟨by simp; omega, by simp, (Below.next (h1.alloc hz1 _) h2).alloc (by omega) _, ?_, ?_, by simp, by simp⟩
  · rw [World.cell?_alloc_past _ _ _ hz2, hc _ _ (by simp)]; simp
  · rw [World.cell?_alloc_past _ _ _ hz2, hc _ _ (by simp)]; simp
end Go.Proofs.YtgedckloooilfaaDoor
