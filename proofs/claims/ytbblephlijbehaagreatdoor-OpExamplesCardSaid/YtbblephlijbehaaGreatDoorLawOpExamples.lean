/- The law OpExamples: its run by the executor. -/
import Derived.Test.YtbblephlijbehaaGreatDoorRaOp
import Derived.DataShut
namespace Go.Proofs.YtbblephlijbehaaGreatDoor.Oe
open Go Go.RowKit Sx
set_option linter.unusedVariables false
theorem opEx_run {v0 v1 v2 : Value} (w : World) (h : Tb v0 v1 v2 w) : Calls Tryz.prog 5 #[] w fun e w' => e = .returned (.bool true) ∧ Below w.heap.size w w' :=
  va_callK (facts := []) (tab := [(69, [.string ⟨#[61, 65, 49, 38, 34, 120, 34]⟩, .string ⟨#[34]⟩, .string ⟨#[34, 34]⟩], .string ⟨#[61, 65, 49, 38, 34, 34, 120, 34, 34]⟩), (69, [.string ⟨#[97, 32, 32, 98, 32]⟩, .string ⟨#[34]⟩, .string ⟨#[34, 34]⟩], .string ⟨#[97, 32, 32, 98, 32]⟩)])
    (kn := knE) (σ := symOf [v0, v1, v2]) (symOf_one (all3 h.o0 h.o1 h.o2 rfl)) h rfl rfl rfl foks_nil
    (toks_cons (tok rfl rfl rfl rfl (fun W hW => by
        obtain ⟨m, hm⟩ := (h.at hW).mm
        exact ra_call _ _ _ _ ⟨m, by rw [← hm]; exact (h.at hW).i2⟩ (of_decide_eq_true (by kernel_rfl)) (of_decide_eq_true (by kernel_rfl)) (of_decide_eq_true (by kernel_rfl)) (by kernel_rfl)))
      (toks_cons (tok rfl rfl rfl rfl (fun W hW => by
        obtain ⟨m, hm⟩ := (h.at hW).mm
        exact ra_call _ _ _ _ ⟨m, by rw [← hm]; exact (h.at hW).i2⟩ (of_decide_eq_true (by kernel_rfl)) (of_decide_eq_true (by kernel_rfl)) (of_decide_eq_true (by kernel_rfl)) (by kernel_rfl))) toks_nil))
    (fun f kf hf => knE_ok f kf hf) (args := []) (v := .bool true) (by kernel_rfl) rfl rfl
theorem opExamples_law (w : World) (hl : laidMetH Tryz.prog Rows.opExamplesRow.laid w) (hm : ∃ m : Int, w.cell? ⟨5, 0, none⟩ = some (.int .i64 m)) : Calls Tryz.prog 5 #[] w fun e w' => e = .returned (.bool true) ∧ Below w.heap.size w w' := by
  obtain ⟨v0, v1, v2, hT⟩ := tb_of hm (MakeChecks.laidMetH_plain _ _ _ (by kernel_rfl)) hl
  exact opEx_run w hT
end Go.Proofs.YtbblephlijbehaaGreatDoor.Oe
