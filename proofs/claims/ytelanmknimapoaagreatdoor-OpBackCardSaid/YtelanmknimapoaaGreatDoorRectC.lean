/- Contracts of rect.Meet and rect.Inside. -/
import Derived.Test.YtelanmknimapoaaGreatDoorMgf
import Derived.Lib.MinMax
namespace Go.Proofs.YtelanmknimapoaaGreatDoor.Re
open Go.RowKit AM
theorem RRow.two (w : World) (a1 a2 a3 a4 b1 b2 b3 b4 : Int) (t : TypeId) : RRow (w.alloc (.cells #[.int .i64 a1, .int .i64 a2, .int .i64 a3, .int .i64 a4, .int .i64 b1, .int .i64 b2, .int .i64 b3, .int .i64 b4] t)) w.heap.size 0 [⟨a1, a2, a3, a4⟩, ⟨b1, b2, b3, b4⟩] := by
 refine ⟨by simp, fun k hk => ?_⟩
 match k, hk with
 | 0, _ => exact ⟨by simp, by simp, by simp, by simp⟩
 | 1, _ => exact ⟨by simp, by simp, by simp, by simp⟩
theorem zb3 (w : World) (o : Obj) : (w.alloc o).heap.size = w.heap.size + 1 := by simp
def Open' (w : World) (p : Nat) : Prop := p < w.heap.size ∧ ∀ o, w.frozen? ⟨p, o, none⟩ = false
theorem Open'.later {w w' : World} {p : Nat} (h : Open' w p) (hB : Below w.heap.size w w') : Open' w' p := by
 obtain ⟨h0, h1⟩ := h
 obtain ⟨_, hf⟩ := bcell hB
 have hz := hB.size
 exact ⟨by omega, fun o => by rw [hf _ _ h0]; exact h1 o⟩
theorem Open'.start (w : World) (c : Array Value) (t : TypeId) : Open' (w.alloc (.cells c t)) w.heap.size := ⟨by simp, fun o => by simp⟩
/-! Inside -/
end Go.Proofs.YtelanmknimapoaaGreatDoor.Re
