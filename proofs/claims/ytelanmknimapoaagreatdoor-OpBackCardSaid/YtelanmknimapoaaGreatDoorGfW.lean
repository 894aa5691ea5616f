/- What a world that is laid as the rows say knows of the library's variables. -/
import Derived.Test.YtelanmknimapoaaGreatDoorMge
import Derived.Shelf.Vars
import Derived.MakeChecks
import Derived.Lib.LaidU8
import Derived.LaidLaws
import Derived.FnData
namespace Go.Proofs.YtelanmknimapoaaGreatDoor.Gf
open Go Go.RowKit
set_option linter.unusedVariables false
theorem zlb {w : World} {n : String} {g : Nat} {nm : String} {d : DataW Unit} (hg : Tryz.prog.globalNamed n = some g) (ht : (Tryz.prog.globals[g]?).map (·.type) = some 78) (h : Lib.VarReads Tryz.prog w n (.iface nm d)) : ∃ t p, w.cell? ⟨g, 0, none⟩ = some (.iface t p) := by
 obtain ⟨g', t, cs, fuel, p, h1, h2, h3, h4⟩ := h
 rw [hg] at h1
 cases h1
 rw [ht] at h2
 cases h2
 obtain ⟨f', u, v, hc, _⟩ := iface_of_trod Tryz.underlying78 h4
 refine ⟨u, v, ?_⟩
 rw [World.var?_cell hg h3 0]
 have := congrArg (·[0]?) hc
 simpa using this
theorem gl_of {w : World} {L : List (String × DataW Unit)} {n1 n2 : String} {d1 d2 : DataW Unit} (hp : (L.all fun x => x.2.handleName?.isNone) = true) (hm1 : ("strconv.ErrSyntax", DataW.iface n1 d1) ∈ L) (hm2 : ("strconv.ErrRange", DataW.iface n2 d2) ∈ L) (hl : laidMetH Tryz.prog L w) (hsh : w.ShapedOpen Tryz.prog) : Gl w := by
 rw [MakeChecks.laidMetH_plain _ _ _ hp] at hl
 obtain ⟨m, hm⟩ := cell_of_shapedOpen_int (P := Tryz.prog) (g := 2) (t := 3) (zero := #[.int .i64 0]) hsh (of_decide_eq_true (by kernel_rfl)) (by kernel_rfl) rfl (by kernel_rfl) (by kernel_rfl) Tryz.underlying3
 obtain ⟨t1, p1, c1⟩ := zlb (g := 5) (by kernel_rfl) (by kernel_rfl) (Lib.laidMet.reads hl hm1)
 obtain ⟨t2, p2, c2⟩ := zlb (g := 6) (by kernel_rfl) (by kernel_rfl) (Lib.laidMet.reads hl hm2)
 have b1 := World.block_lt_of_cell? w _ c1
 have b2 := World.block_lt_of_cell? w _ c2
 have b0 := World.block_lt_of_cell? w _ hm
 refine ⟨?_, ⟨m, hm⟩, ⟨t1, p1, c1⟩, ⟨t2, p2, c2⟩⟩
 dsimp only at b0 b1 b2
 omega
end Go.Proofs.YtelanmknimapoaaGreatDoor.Gf
