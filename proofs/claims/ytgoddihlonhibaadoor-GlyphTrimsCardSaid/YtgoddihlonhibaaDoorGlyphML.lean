/- The library's bound on a needle holds some number in every world of the form. -/
import Derived.Test.YtgoddihlonhibaaDoorGlyphE
import Derived.Shelf.Vars
namespace Go.Proofs.YtgoddihlonhibaaDoor
theorem ml_of {w : World} (h : w.ShapedOpen Tryd.prog) : ML w := by
  obtain ⟨m, hm⟩ := cell_of_shapedOpen_int (P := Tryd.prog) (g := 0) (t := 3) (zero := #[.int .i64 0]) h (of_decide_eq_true (by kernel_rfl)) (by kernel_rfl) rfl (by kernel_rfl) (by kernel_rfl) Tryd.underlying3
  exact ⟨World.block_lt_of_cell? w _ hm, m, hm⟩
end Go.Proofs.YtgoddihlonhibaaDoor
