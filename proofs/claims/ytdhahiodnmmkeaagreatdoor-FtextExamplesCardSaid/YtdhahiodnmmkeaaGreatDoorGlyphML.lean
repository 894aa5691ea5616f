/- The library's bound on a needle holds some number in every world of the form. -/
import Derived.Test.YtdhahiodnmmkeaaGreatDoorMgc
import Derived.Shelf.Vars
namespace Go.Proofs.YtdhahiodnmmkeaaGreatDoor
theorem yhu {w : World} (h : w.ShapedOpen Tryz.prog) : ML w := by
 obtain ⟨m, hm⟩ := cell_of_shapedOpen_int (P := Tryz.prog) (g := 2) (t := 3) (zero := #[.int .i64 0]) h (of_decide_eq_true (by kernel_rfl)) (by kernel_rfl) rfl (by kernel_rfl) (by kernel_rfl) Tryz.underlying3
 exact ⟨World.block_lt_of_cell? w _ hm, m, hm⟩
end Go.Proofs.YtdhahiodnmmkeaaGreatDoor
