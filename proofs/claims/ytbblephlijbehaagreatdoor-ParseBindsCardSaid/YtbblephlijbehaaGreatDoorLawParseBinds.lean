/- The law ParseBinds: each operator by the executor; all other numbers alike. -/
import Derived.Test.YtbblephlijbehaaGreatDoorTabB
import Derived.DataShut
namespace Go.Proofs.YtbblephlijbehaaGreatDoor.Pb
open Go Go.RowKit Sx
set_option linter.unusedVariables false
theorem awake09 (w : World) (h : Tb w) : Calls Tryz.prog 9 #[] w fun e w' => e = .returned (.bool true) ∧ Below w.heap.size w w' :=
  va_call (facts := []) (tab := []) (σ := symOf []) (symOf_one rfl) h foks_nil toks_nil (args := []) (v := .bool true) (by kernel_rfl) rfl rfl
theorem b_1 (w : World) (hT : Tb w) : Calls Tryz.prog 3 #[.int .i64 1] w fun e w' => e = .returned (.bool true) ∧ Below w.heap.size w w' :=
  va_call (facts := []) (tab := [(9, [], .bool true)]) (σ := symOf []) (symOf_one rfl) hT (foks_nil) (toks_cons (tok rfl rfl rfl rfl (fun W hW => awake09 W (hT.at hW))) (toks_nil)) (args := [.int .i64 1]) (v := .bool true) (by kernel_rfl) rfl rfl
theorem b_2 (w : World) (hT : Tb w) : Calls Tryz.prog 3 #[.int .i64 2] w fun e w' => e = .returned (.bool true) ∧ Below w.heap.size w w' :=
  va_call (facts := []) (tab := [(9, [], .bool true)]) (σ := symOf []) (symOf_one rfl) hT (foks_nil) (toks_cons (tok rfl rfl rfl rfl (fun W hW => awake09 W (hT.at hW))) (toks_nil)) (args := [.int .i64 2]) (v := .bool true) (by kernel_rfl) rfl rfl
theorem b_3 (w : World) (hT : Tb w) : Calls Tryz.prog 3 #[.int .i64 3] w fun e w' => e = .returned (.bool true) ∧ Below w.heap.size w w' :=
  va_call (facts := []) (tab := [(9, [], .bool true)]) (σ := symOf []) (symOf_one rfl) hT (foks_nil) (toks_cons (tok rfl rfl rfl rfl (fun W hW => awake09 W (hT.at hW))) (toks_nil)) (args := [.int .i64 3]) (v := .bool true) (by kernel_rfl) rfl rfl
theorem b_4 (w : World) (hT : Tb w) : Calls Tryz.prog 3 #[.int .i64 4] w fun e w' => e = .returned (.bool true) ∧ Below w.heap.size w w' :=
  va_call (facts := []) (tab := [(9, [], .bool true)]) (σ := symOf []) (symOf_one rfl) hT (foks_nil) (toks_cons (tok rfl rfl rfl rfl (fun W hW => awake09 W (hT.at hW))) (toks_nil)) (args := [.int .i64 4]) (v := .bool true) (by kernel_rfl) rfl rfl
theorem b_5 (w : World) (hT : Tb w) : Calls Tryz.prog 3 #[.int .i64 5] w fun e w' => e = .returned (.bool true) ∧ Below w.heap.size w w' :=
  va_call (facts := []) (tab := [(9, [], .bool true)]) (σ := symOf []) (symOf_one rfl) hT (foks_nil) (toks_cons (tok rfl rfl rfl rfl (fun W hW => awake09 W (hT.at hW))) (toks_nil)) (args := [.int .i64 5]) (v := .bool true) (by kernel_rfl) rfl rfl
theorem b_6 (w : World) (hT : Tb w) : Calls Tryz.prog 3 #[.int .i64 6] w fun e w' => e = .returned (.bool true) ∧ Below w.heap.size w w' :=
  va_call (facts := []) (tab := [(9, [], .bool true)]) (σ := symOf []) (symOf_one rfl) hT (foks_nil) (toks_cons (tok rfl rfl rfl rfl (fun W hW => awake09 W (hT.at hW))) (toks_nil)) (args := [.int .i64 6]) (v := .bool true) (by kernel_rfl) rfl rfl
theorem b_7 (w : World) (hT : Tb w) : Calls Tryz.prog 3 #[.int .i64 7] w fun e w' => e = .returned (.bool true) ∧ Below w.heap.size w w' :=
  va_call (facts := []) (tab := [(9, [], .bool true)]) (σ := symOf []) (symOf_one rfl) hT (foks_nil) (toks_cons (tok rfl rfl rfl rfl (fun W hW => awake09 W (hT.at hW))) (toks_nil)) (args := [.int .i64 7]) (v := .bool true) (by kernel_rfl) rfl rfl
theorem b_8 (w : World) (hT : Tb w) : Calls Tryz.prog 3 #[.int .i64 8] w fun e w' => e = .returned (.bool true) ∧ Below w.heap.size w w' :=
  va_call (facts := []) (tab := [(9, [], .bool true)]) (σ := symOf []) (symOf_one rfl) hT (foks_nil) (toks_cons (tok rfl rfl rfl rfl (fun W hW => awake09 W (hT.at hW))) (toks_nil)) (args := [.int .i64 8]) (v := .bool true) (by kernel_rfl) rfl rfl
theorem b_9 (w : World) (hT : Tb w) : Calls Tryz.prog 3 #[.int .i64 9] w fun e w' => e = .returned (.bool true) ∧ Below w.heap.size w w' :=
  va_call (facts := []) (tab := [(9, [], .bool true)]) (σ := symOf []) (symOf_one rfl) hT (foks_nil) (toks_cons (tok rfl rfl rfl rfl (fun W hW => awake09 W (hT.at hW))) (toks_nil)) (args := [.int .i64 9]) (v := .bool true) (by kernel_rfl) rfl rfl
theorem b_10 (w : World) (hT : Tb w) : Calls Tryz.prog 3 #[.int .i64 10] w fun e w' => e = .returned (.bool true) ∧ Below w.heap.size w w' :=
  va_call (facts := []) (tab := [(9, [], .bool true)]) (σ := symOf []) (symOf_one rfl) hT (foks_nil) (toks_cons (tok rfl rfl rfl rfl (fun W hW => awake09 W (hT.at hW))) (toks_nil)) (args := [.int .i64 10]) (v := .bool true) (by kernel_rfl) rfl rfl
theorem b_11 (w : World) (hT : Tb w) : Calls Tryz.prog 3 #[.int .i64 11] w fun e w' => e = .returned (.bool true) ∧ Below w.heap.size w w' :=
  va_call (facts := []) (tab := [(9, [], .bool true)]) (σ := symOf []) (symOf_one rfl) hT (foks_nil) (toks_cons (tok rfl rfl rfl rfl (fun W hW => awake09 W (hT.at hW))) (toks_nil)) (args := [.int .i64 11]) (v := .bool true) (by kernel_rfl) rfl rfl
theorem b_12 (w : World) (hT : Tb w) : Calls Tryz.prog 3 #[.int .i64 12] w fun e w' => e = .returned (.bool true) ∧ Below w.heap.size w w' :=
  va_call (facts := []) (tab := [(9, [], .bool true)]) (σ := symOf []) (symOf_one rfl) hT (foks_nil) (toks_cons (tok rfl rfl rfl rfl (fun W hW => awake09 W (hT.at hW))) (toks_nil)) (args := [.int .i64 12]) (v := .bool true) (by kernel_rfl) rfl rfl
theorem b_13 (w : World) (hT : Tb w) : Calls Tryz.prog 3 #[.int .i64 13] w fun e w' => e = .returned (.bool true) ∧ Below w.heap.size w w' :=
  va_call (facts := []) (tab := [(9, [], .bool true)]) (σ := symOf []) (symOf_one rfl) hT (foks_nil) (toks_cons (tok rfl rfl rfl rfl (fun W hW => awake09 W (hT.at hW))) (toks_nil)) (args := [.int .i64 13]) (v := .bool true) (by kernel_rfl) rfl rfl
theorem b_far (x : Int) (h : ¬ (1 ≤ x ∧ x ≤ 13)) (w : World) (hT : Tb w) : Calls Tryz.prog 3 #[.int .i64 x] w fun e w' => e = .returned (.bool true) ∧ Below w.heap.size w w' :=
  va_call (facts := [⟨isBin .eql 2, [(symV 0), .int .i64 1], .bool false, false⟩, ⟨isBin .eql 2, [(symV 0), .int .i64 2], .bool false, false⟩, ⟨isBin .eql 2, [(symV 0), .int .i64 3], .bool false, false⟩, ⟨isBin .eql 2, [(symV 0), .int .i64 4], .bool false, false⟩, ⟨isBin .eql 2, [(symV 0), .int .i64 5], .bool false, false⟩, ⟨isBin .eql 2, [(symV 0), .int .i64 6], .bool false, false⟩, ⟨isBin .eql 2, [(symV 0), .int .i64 7], .bool false, false⟩, ⟨isBin .eql 2, [(symV 0), .int .i64 8], .bool false, false⟩, ⟨isBin .eql 2, [(symV 0), .int .i64 9], .bool false, false⟩, ⟨isBin .eql 2, [(symV 0), .int .i64 10], .bool false, false⟩, ⟨isBin .eql 2, [(symV 0), .int .i64 11], .bool false, false⟩, ⟨isBin .eql 2, [(symV 0), .int .i64 12], .bool false, false⟩, ⟨isBin .eql 2, [(symV 0), .int .i64 13], .bool false, false⟩]) (tab := [(9, [], .bool true)]) (σ := symOf [.int .i64 x]) (symOf_one rfl) hT (foks_cons (fok_cmp rfl rfl rfl (by simp [cmpI]; omega)) (foks_cons (fok_cmp rfl rfl rfl (by simp [cmpI]; omega)) (foks_cons (fok_cmp rfl rfl rfl (by simp [cmpI]; omega)) (foks_cons (fok_cmp rfl rfl rfl (by simp [cmpI]; omega)) (foks_cons (fok_cmp rfl rfl rfl (by simp [cmpI]; omega)) (foks_cons (fok_cmp rfl rfl rfl (by simp [cmpI]; omega)) (foks_cons (fok_cmp rfl rfl rfl (by simp [cmpI]; omega)) (foks_cons (fok_cmp rfl rfl rfl (by simp [cmpI]; omega)) (foks_cons (fok_cmp rfl rfl rfl (by simp [cmpI]; omega)) (foks_cons (fok_cmp rfl rfl rfl (by simp [cmpI]; omega)) (foks_cons (fok_cmp rfl rfl rfl (by simp [cmpI]; omega)) (foks_cons (fok_cmp rfl rfl rfl (by simp [cmpI]; omega)) (foks_cons (fok_cmp rfl rfl rfl (by simp [cmpI]; omega)) (foks_nil)))))))))))))) (toks_cons (tok rfl rfl rfl rfl (fun W hW => awake09 W (hT.at hW))) (toks_nil)) (args := [(symV 0)]) (v := .bool true) (by kernel_rfl) rfl rfl
theorem parseBinds_law (x : Int) (w : World) (hl : laidMetH Tryz.prog Rows.parseBindsRow.laid w) : Calls Tryz.prog 3 #[.int .i64 x] w fun e w' => e = .returned (.bool true) ∧ Below w.heap.size w w' := by
  have hT : Tb w := tb_of (MakeChecks.laidMetH_plain _ _ _ (by kernel_rfl)) hl
  by_cases hk : 1 ≤ x ∧ x ≤ 13
  · obtain rfl | rfl | rfl | rfl | rfl | rfl | rfl | rfl | rfl | rfl | rfl | rfl | rfl := (by omega : x = 1 ∨ x = 2 ∨ x = 3 ∨ x = 4 ∨ x = 5 ∨ x = 6 ∨ x = 7 ∨ x = 8 ∨ x = 9 ∨ x = 10 ∨ x = 11 ∨ x = 12 ∨ x = 13)
    · exact b_1 w hT
    · exact b_2 w hT
    · exact b_3 w hT
    · exact b_4 w hT
    · exact b_5 w hT
    · exact b_6 w hT
    · exact b_7 w hT
    · exact b_8 w hT
    · exact b_9 w hT
    · exact b_10 w hT
    · exact b_11 w hT
    · exact b_12 w hT
    · exact b_13 w hT
  · exact b_far x hk w hT
end Go.Proofs.YtbblephlijbehaaGreatDoor.Pb
