/- A table of the library's, in every world behind the first one. -/
import Derived.Test.YtelanmknimapoaaGreatDoorProg
import Derived.Test.YtelanmknimapoaaGreatDoorRows
import Derived.Below
import Derived.Lib.LaidTab
import Derived.Lib.ItoaNum
import Derived.MakeChecks
import Derived.LaidMore
import Derived.Stop.LaidErr
namespace Go.Proofs.YtelanmknimapoaaGreatDoor.Re
open Go.Lib Go.RowKit
theorem zul {n : String} {k : IntKind} {zs : List Int} {g : Nat} {w w' : World} (hg : Tryz.prog.globalNamed n = some g) (h : TabIs Tryz.prog w n k zs) (hB : Below w.heap.size w w') : TabIs Tryz.prog w' n k zs := by
 unfold TabIs World.var? at *
 simp only [hg, Option.bind_some] at h ⊢
 have hlt : g < w.heap.size := by
  cases he : w.heap[g]? with
  | none => rw [he] at h; simp at h
  | some o =>
   rcases Nat.lt_or_ge g w.heap.size with hx | hx
   · exact hx
   · rw [Array.getElem?_eq_none hx] at he; simp at he
 rw [hB.block g hlt]
 exact h
def Pow (w : World) : Prop := TabIs Tryz.prog w "internal/strconv.uint64pow10" .u64 pow10Tab
theorem Pow.later {w w' : World} (h : Pow w) (hB : Below w.heap.size w w') : Pow w' :=
 zul (g := 1) (by kernel_rfl) h hB
theorem zyb : (Rows.laid_internal_strconv_uint64pow10 : DataW Unit) = tabData .u64 pow10Tab := by kernel_rfl
theorem zya {rest : List (String × DataW Unit)} {w : World} (h : laidMet Tryz.prog (("internal/strconv.uint64pow10", Rows.laid_internal_strconv_uint64pow10) :: rest) w) : Pow w := by
 rw [zyb] at h
 exact tabIs_of_head (g := 1) (t := 134) (e := 24) (n := 20) (by kernel_rfl) (by kernel_rfl) Tryz.underlying134 Tryz.underlying24 (by kernel_rfl) (by kernel_rfl) h
theorem pow_third {x y : String × DataW Unit} {rest : List (String × DataW Unit)} {w : World}
 (hp : laidMetH Tryz.prog (x :: y :: ("internal/strconv.uint64pow10", Rows.laid_internal_strconv_uint64pow10) :: rest) w = laidMet Tryz.prog (x :: y :: ("internal/strconv.uint64pow10", Rows.laid_internal_strconv_uint64pow10) :: rest) w)
 (h : laidMetH Tryz.prog (x :: y :: ("internal/strconv.uint64pow10", Rows.laid_internal_strconv_uint64pow10) :: rest) w) : Pow w := by
 rw [hp] at h
 exact zya h.tail.tail
end Go.Proofs.YtelanmknimapoaaGreatDoor.Re
