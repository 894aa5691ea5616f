/- The contracts of read and Parse. -/
import Derived.Test.YtelanmknimapoaaGreatDoorGfC
import Derived.Lib.SplitLaws
import Derived.Lib.AtoiAllMem
namespace Go.Proofs.YtelanmknimapoaaGreatDoor.Gf
open Go Go.RowKit
set_option linter.unusedVariables false
set_option linter.unusedSimpArgs false
/-- The variables of the library that are read. -/
def Gl (w : World) : Prop := 3 ≤ w.heap.size ∧ (∃ m, w.cell? ⟨2, 0, none⟩ = some (.int .i64 m)) ∧ (∃ t p, w.cell? ⟨5, 0, none⟩ = some (.iface t p)) ∧ (∃ t p, w.cell? ⟨6, 0, none⟩ = some (.iface t p))
theorem Gl.later {w w' : World} (h : Gl w) (hB : Below w.heap.size w w') : Gl w' := by
  obtain ⟨h0, ⟨m, h1⟩, ⟨t, p, h2⟩, ⟨t2, p2, h3⟩⟩ := h
  exact ⟨Nat.le_trans h0 hB.size, ⟨m, (hB.cell (p := ⟨2, 0, none⟩) (World.block_lt_of_cell? w _ h1)).trans h1⟩, ⟨t, p, (hB.cell (p := ⟨5, 0, none⟩) (World.block_lt_of_cell? w _ h2)).trans h2⟩, ⟨t2, p2, (hB.cell (p := ⟨6, 0, none⟩) (World.block_lt_of_cell? w _ h3)).trans h3⟩⟩
def rngW (s : W64) (f n : Nat) : W64 := (List.range' f n).foldl (fun s u => s ||| bitW u) s
theorem rngW_succ (s : W64) (f n : Nat) : rngW s f (n + 1) = rngW s f n ||| bitW (f + n) := by
  unfold rngW
  rw [List.range'_concat, List.foldl_append]
  simp
/-! The library's -/
end Go.Proofs.YtelanmknimapoaaGreatDoor.Gf
