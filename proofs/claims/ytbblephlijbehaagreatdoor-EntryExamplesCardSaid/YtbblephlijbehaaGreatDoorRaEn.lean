/- strings.ReplaceAll, Join and Clone as the executor's known calls. -/
import Derived.Test.YtbblephlijbehaaGreatDoorTabN
import Derived.Test.YtbblephlijbehaaGreatDoorShelfRa
import Derived.Shelf.Vars
namespace Go.Proofs.YtbblephlijbehaaGreatDoor.En
open Go Go.RowKit Sx
set_option linter.unusedVariables false
theorem mlx {w : World} (h : w.ShapedOpen Tryz.prog) : ∃ m : Int, w.cell? ⟨5, 0, none⟩ = some (.int .i64 m) :=
  cell_of_shapedOpen_int (P := Tryz.prog) (g := 5) (t := 3) (zero := #[.int .i64 0]) h (of_decide_eq_true (by kernel_rfl)) (by kernel_rfl) rfl (by kernel_rfl) (by kernel_rfl) Tryz.underlying3
noncomputable abbrev knE : FuncId → Option (List Value → Hp → R) := fun f => if f = 41 then some joinK else if f = 201 then some cloneK else none
theorem joinSaid : JoinSaid Tryz.prog 41 := fun bk o c xs sep w h1 h2 h3 h4 h5 => Tryz.strings_Join bk o c xs sep w h1 h2 h3 h4 h5
theorem cloneSaid : CloneSaid Tryz.prog 201 := fun s w h => Tryz.stringslite_Clone s w h
theorem knE_ok {G : Env} (f : FuncId) (kf : List Value → Hp → R) (hf : knE f = some kf) : KnOk Tryz.prog G f kf := by
  replace hf : (if f = 41 then some joinK else if f = 201 then some cloneK else none) = some kf := hf
  by_cases e : f = 41
  · subst e; rw [if_pos rfl] at hf; cases hf; exact join_known joinSaid
  · rw [if_neg e] at hf
    by_cases e : f = 201
    · subst e; rw [if_pos rfl] at hf; cases hf; exact clone_known cloneSaid
    · rw [if_neg e] at hf; cases hf
theorem ra_call (s old new r : ByteArray) {w : World} (hm : ∃ m : Int, w.cell? ⟨5, 0, none⟩ = some (.int .i64 m)) (hs : s.size < 4294967281) (h1 : 1 ≤ old.size) (hl : s.size + Lib.countB s old * new.size ≤ 140737488355328)
    (hr : (⟨(Lib.replaceAll s.data.toList old.data.toList new.data.toList).toArray⟩ : ByteArray) = r) : Calls Tryz.prog 69 #[.string s, .string old, .string new] w fun e w' => e = .returned (.string r) ∧ Below w.heap.size w w' := by
  obtain ⟨m, hm⟩ := hm
  rw [← hr]
  exact Tryz.strings_ReplaceAll s old new m w hs hm h1 hl
end Go.Proofs.YtbblephlijbehaaGreatDoor.En
