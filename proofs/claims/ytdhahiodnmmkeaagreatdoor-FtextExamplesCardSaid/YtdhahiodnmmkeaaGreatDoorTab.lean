/- A table of the library's, in every world behind the first one. -/
import Derived.Test.YtdhahiodnmmkeaaGreatDoorProg
import Derived.Test.YtdhahiodnmmkeaaGreatDoorRows
import Derived.Below
import Derived.Lib.LaidTab
import Derived.Lib.ItoaNum
import Derived.MakeChecks
import Derived.LaidMore
import Derived.Stop.LaidErr
namespace Go.Proofs.YtdhahiodnmmkeaaGreatDoor
open Go.Lib Go.RowKit
theorem zuc {n : String} {k : IntKind} {zs : List Int} {g : Nat} {w w' : World} (hg : Tryz.prog.globalNamed n = some g) (h : TabIs Tryz.prog w n k zs) (hB : Below w.heap.size w w') : TabIs Tryz.prog w' n k zs := by
 unfold TabIs World.var? at *
 simp only [hg, Option.bind_some] at h ⊢
 have hlt : g < w.heap.size := by
  cases he : w.heap[g]? with
  | none => rw [he] at h; simp at h
  | some o =>
   rcases Nat.lt_or_ge g w.heap.size with hx | hx
   · exact hx
   · rw [Array.getElem?_eq_none hx] at he; simp at he
 rw [hB.block g hlt]
 exact h
def Pow (w : World) : Prop := TabIs Tryz.prog w "internal/strconv.uint64pow10" .u64 pow10Tab
theorem Pow.later {w w' : World} (h : Pow w) (hB : Below w.heap.size w w') : Pow w' :=
 zuc (g := 3) (by kernel_rfl) h hB
theorem zyf : (Rows.laid_internal_strconv_uint64pow10 : DataW Unit) = tabData .u64 pow10Tab := by kernel_rfl
theorem zye {rest : List (String × DataW Unit)} {w : World} (h : laidMet Tryz.prog (("internal/strconv.uint64pow10", Rows.laid_internal_strconv_uint64pow10) :: rest) w) : Pow w := by
 rw [zyf] at h
 exact tabIs_of_head (g := 3) (t := 205) (e := 106) (n := 20) (by kernel_rfl) (by kernel_rfl) Tryz.underlying205 Tryz.underlying106 (by kernel_rfl) (by kernel_rfl) h
end Go.Proofs.YtdhahiodnmmkeaaGreatDoor
