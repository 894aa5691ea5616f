/- The law TreeNames: each function by the executor; all other numbers alike. -/
import Derived.Test.YtmfjedgegoiadaaDoorTreX
import Derived.DataShut
namespace Go.Proofs.YtmfjedgegoiadaaDoor.Tr
open Go Go.RowKit Sx
set_option linter.unusedVariables false
theorem n_0 (w : World) (hT : Tb w) : Calls Tryd.prog 4 #[.int .u8 0] w fun e w' => e = .returned (.bool true) ∧ Below w.heap.size w w' :=
  va_call (facts := []) (tab := [(11, [], .bool true)]) (σ := symOf []) (symOf_one rfl) hT (foks_nil) (toks_cons (tok rfl rfl rfl rfl (fun W hW => awake08 W (hT.at hW))) (toks_nil)) (args := [.int .u8 0]) (v := .bool true) (by kernel_rfl) rfl rfl
theorem n_1 (w : World) (hT : Tb w) : Calls Tryd.prog 4 #[.int .u8 1] w fun e w' => e = .returned (.bool true) ∧ Below w.heap.size w w' :=
  va_call (facts := []) (tab := [(11, [], .bool true)]) (σ := symOf []) (symOf_one rfl) hT (foks_nil) (toks_cons (tok rfl rfl rfl rfl (fun W hW => awake08 W (hT.at hW))) (toks_nil)) (args := [.int .u8 1]) (v := .bool true) (by kernel_rfl) rfl rfl
theorem n_2 (w : World) (hT : Tb w) : Calls Tryd.prog 4 #[.int .u8 2] w fun e w' => e = .returned (.bool true) ∧ Below w.heap.size w w' :=
  va_call (facts := []) (tab := [(11, [], .bool true)]) (σ := symOf []) (symOf_one rfl) hT (foks_nil) (toks_cons (tok rfl rfl rfl rfl (fun W hW => awake08 W (hT.at hW))) (toks_nil)) (args := [.int .u8 2]) (v := .bool true) (by kernel_rfl) rfl rfl
theorem n_3 (w : World) (hT : Tb w) : Calls Tryd.prog 4 #[.int .u8 3] w fun e w' => e = .returned (.bool true) ∧ Below w.heap.size w w' :=
  va_call (facts := []) (tab := [(11, [], .bool true)]) (σ := symOf []) (symOf_one rfl) hT (foks_nil) (toks_cons (tok rfl rfl rfl rfl (fun W hW => awake08 W (hT.at hW))) (toks_nil)) (args := [.int .u8 3]) (v := .bool true) (by kernel_rfl) rfl rfl
theorem n_4 (w : World) (hT : Tb w) : Calls Tryd.prog 4 #[.int .u8 4] w fun e w' => e = .returned (.bool true) ∧ Below w.heap.size w w' :=
  va_call (facts := []) (tab := [(11, [], .bool true)]) (σ := symOf []) (symOf_one rfl) hT (foks_nil) (toks_cons (tok rfl rfl rfl rfl (fun W hW => awake08 W (hT.at hW))) (toks_nil)) (args := [.int .u8 4]) (v := .bool true) (by kernel_rfl) rfl rfl
theorem n_5 (w : World) (hT : Tb w) : Calls Tryd.prog 4 #[.int .u8 5] w fun e w' => e = .returned (.bool true) ∧ Below w.heap.size w w' :=
  va_call (facts := []) (tab := [(11, [], .bool true)]) (σ := symOf []) (symOf_one rfl) hT (foks_nil) (toks_cons (tok rfl rfl rfl rfl (fun W hW => awake08 W (hT.at hW))) (toks_nil)) (args := [.int .u8 5]) (v := .bool true) (by kernel_rfl) rfl rfl
theorem n_6 (w : World) (hT : Tb w) : Calls Tryd.prog 4 #[.int .u8 6] w fun e w' => e = .returned (.bool true) ∧ Below w.heap.size w w' :=
  va_call (facts := []) (tab := [(11, [], .bool true)]) (σ := symOf []) (symOf_one rfl) hT (foks_nil) (toks_cons (tok rfl rfl rfl rfl (fun W hW => awake08 W (hT.at hW))) (toks_nil)) (args := [.int .u8 6]) (v := .bool true) (by kernel_rfl) rfl rfl
theorem n_7 (w : World) (hT : Tb w) : Calls Tryd.prog 4 #[.int .u8 7] w fun e w' => e = .returned (.bool true) ∧ Below w.heap.size w w' :=
  va_call (facts := []) (tab := [(11, [], .bool true)]) (σ := symOf []) (symOf_one rfl) hT (foks_nil) (toks_cons (tok rfl rfl rfl rfl (fun W hW => awake08 W (hT.at hW))) (toks_nil)) (args := [.int .u8 7]) (v := .bool true) (by kernel_rfl) rfl rfl
theorem n_8 (w : World) (hT : Tb w) : Calls Tryd.prog 4 #[.int .u8 8] w fun e w' => e = .returned (.bool true) ∧ Below w.heap.size w w' :=
  va_call (facts := []) (tab := [(11, [], .bool true)]) (σ := symOf []) (symOf_one rfl) hT (foks_nil) (toks_cons (tok rfl rfl rfl rfl (fun W hW => awake08 W (hT.at hW))) (toks_nil)) (args := [.int .u8 8]) (v := .bool true) (by kernel_rfl) rfl rfl
theorem n_9 (w : World) (hT : Tb w) : Calls Tryd.prog 4 #[.int .u8 9] w fun e w' => e = .returned (.bool true) ∧ Below w.heap.size w w' :=
  va_call (facts := []) (tab := [(11, [], .bool true)]) (σ := symOf []) (symOf_one rfl) hT (foks_nil) (toks_cons (tok rfl rfl rfl rfl (fun W hW => awake08 W (hT.at hW))) (toks_nil)) (args := [.int .u8 9]) (v := .bool true) (by kernel_rfl) rfl rfl
theorem n_10 (w : World) (hT : Tb w) : Calls Tryd.prog 4 #[.int .u8 10] w fun e w' => e = .returned (.bool true) ∧ Below w.heap.size w w' :=
  va_call (facts := []) (tab := [(11, [], .bool true)]) (σ := symOf []) (symOf_one rfl) hT (foks_nil) (toks_cons (tok rfl rfl rfl rfl (fun W hW => awake08 W (hT.at hW))) (toks_nil)) (args := [.int .u8 10]) (v := .bool true) (by kernel_rfl) rfl rfl
theorem n_11 (w : World) (hT : Tb w) : Calls Tryd.prog 4 #[.int .u8 11] w fun e w' => e = .returned (.bool true) ∧ Below w.heap.size w w' :=
  va_call (facts := []) (tab := [(11, [], .bool true)]) (σ := symOf []) (symOf_one rfl) hT (foks_nil) (toks_cons (tok rfl rfl rfl rfl (fun W hW => awake08 W (hT.at hW))) (toks_nil)) (args := [.int .u8 11]) (v := .bool true) (by kernel_rfl) rfl rfl
theorem n_12 (w : World) (hT : Tb w) : Calls Tryd.prog 4 #[.int .u8 12] w fun e w' => e = .returned (.bool true) ∧ Below w.heap.size w w' :=
  va_call (facts := []) (tab := [(11, [], .bool true)]) (σ := symOf []) (symOf_one rfl) hT (foks_nil) (toks_cons (tok rfl rfl rfl rfl (fun W hW => awake08 W (hT.at hW))) (toks_nil)) (args := [.int .u8 12]) (v := .bool true) (by kernel_rfl) rfl rfl
theorem n_13 (w : World) (hT : Tb w) : Calls Tryd.prog 4 #[.int .u8 13] w fun e w' => e = .returned (.bool true) ∧ Below w.heap.size w w' :=
  va_call (facts := []) (tab := [(11, [], .bool true)]) (σ := symOf []) (symOf_one rfl) hT (foks_nil) (toks_cons (tok rfl rfl rfl rfl (fun W hW => awake08 W (hT.at hW))) (toks_nil)) (args := [.int .u8 13]) (v := .bool true) (by kernel_rfl) rfl rfl
theorem n_14 (w : World) (hT : Tb w) : Calls Tryd.prog 4 #[.int .u8 14] w fun e w' => e = .returned (.bool true) ∧ Below w.heap.size w w' :=
  va_call (facts := []) (tab := [(11, [], .bool true)]) (σ := symOf []) (symOf_one rfl) hT (foks_nil) (toks_cons (tok rfl rfl rfl rfl (fun W hW => awake08 W (hT.at hW))) (toks_nil)) (args := [.int .u8 14]) (v := .bool true) (by kernel_rfl) rfl rfl
theorem n_15 (w : World) (hT : Tb w) : Calls Tryd.prog 4 #[.int .u8 15] w fun e w' => e = .returned (.bool true) ∧ Below w.heap.size w w' :=
  va_call (facts := []) (tab := [(11, [], .bool true)]) (σ := symOf []) (symOf_one rfl) hT (foks_nil) (toks_cons (tok rfl rfl rfl rfl (fun W hW => awake08 W (hT.at hW))) (toks_nil)) (args := [.int .u8 15]) (v := .bool true) (by kernel_rfl) rfl rfl
theorem n_16 (w : World) (hT : Tb w) : Calls Tryd.prog 4 #[.int .u8 16] w fun e w' => e = .returned (.bool true) ∧ Below w.heap.size w w' :=
  va_call (facts := []) (tab := [(11, [], .bool true)]) (σ := symOf []) (symOf_one rfl) hT (foks_nil) (toks_cons (tok rfl rfl rfl rfl (fun W hW => awake08 W (hT.at hW))) (toks_nil)) (args := [.int .u8 16]) (v := .bool true) (by kernel_rfl) rfl rfl
theorem n_17 (w : World) (hT : Tb w) : Calls Tryd.prog 4 #[.int .u8 17] w fun e w' => e = .returned (.bool true) ∧ Below w.heap.size w w' :=
  va_call (facts := []) (tab := [(11, [], .bool true)]) (σ := symOf []) (symOf_one rfl) hT (foks_nil) (toks_cons (tok rfl rfl rfl rfl (fun W hW => awake08 W (hT.at hW))) (toks_nil)) (args := [.int .u8 17]) (v := .bool true) (by kernel_rfl) rfl rfl
theorem n_18 (w : World) (hT : Tb w) : Calls Tryd.prog 4 #[.int .u8 18] w fun e w' => e = .returned (.bool true) ∧ Below w.heap.size w w' :=
  va_call (facts := []) (tab := [(11, [], .bool true)]) (σ := symOf []) (symOf_one rfl) hT (foks_nil) (toks_cons (tok rfl rfl rfl rfl (fun W hW => awake08 W (hT.at hW))) (toks_nil)) (args := [.int .u8 18]) (v := .bool true) (by kernel_rfl) rfl rfl
theorem n_19 (w : World) (hT : Tb w) : Calls Tryd.prog 4 #[.int .u8 19] w fun e w' => e = .returned (.bool true) ∧ Below w.heap.size w w' :=
  va_call (facts := []) (tab := [(11, [], .bool true)]) (σ := symOf []) (symOf_one rfl) hT (foks_nil) (toks_cons (tok rfl rfl rfl rfl (fun W hW => awake08 W (hT.at hW))) (toks_nil)) (args := [.int .u8 19]) (v := .bool true) (by kernel_rfl) rfl rfl
theorem n_20 (w : World) (hT : Tb w) : Calls Tryd.prog 4 #[.int .u8 20] w fun e w' => e = .returned (.bool true) ∧ Below w.heap.size w w' :=
  va_call (facts := []) (tab := [(11, [], .bool true)]) (σ := symOf []) (symOf_one rfl) hT (foks_nil) (toks_cons (tok rfl rfl rfl rfl (fun W hW => awake08 W (hT.at hW))) (toks_nil)) (args := [.int .u8 20]) (v := .bool true) (by kernel_rfl) rfl rfl
theorem n_21 (w : World) (hT : Tb w) : Calls Tryd.prog 4 #[.int .u8 21] w fun e w' => e = .returned (.bool true) ∧ Below w.heap.size w w' :=
  va_call (facts := []) (tab := [(11, [], .bool true)]) (σ := symOf []) (symOf_one rfl) hT (foks_nil) (toks_cons (tok rfl rfl rfl rfl (fun W hW => awake08 W (hT.at hW))) (toks_nil)) (args := [.int .u8 21]) (v := .bool true) (by kernel_rfl) rfl rfl
theorem n_22 (w : World) (hT : Tb w) : Calls Tryd.prog 4 #[.int .u8 22] w fun e w' => e = .returned (.bool true) ∧ Below w.heap.size w w' :=
  va_call (facts := []) (tab := [(11, [], .bool true)]) (σ := symOf []) (symOf_one rfl) hT (foks_nil) (toks_cons (tok rfl rfl rfl rfl (fun W hW => awake08 W (hT.at hW))) (toks_nil)) (args := [.int .u8 22]) (v := .bool true) (by kernel_rfl) rfl rfl
theorem n_23 (w : World) (hT : Tb w) : Calls Tryd.prog 4 #[.int .u8 23] w fun e w' => e = .returned (.bool true) ∧ Below w.heap.size w w' :=
  va_call (facts := []) (tab := [(11, [], .bool true)]) (σ := symOf []) (symOf_one rfl) hT (foks_nil) (toks_cons (tok rfl rfl rfl rfl (fun W hW => awake08 W (hT.at hW))) (toks_nil)) (args := [.int .u8 23]) (v := .bool true) (by kernel_rfl) rfl rfl
theorem n_24 (w : World) (hT : Tb w) : Calls Tryd.prog 4 #[.int .u8 24] w fun e w' => e = .returned (.bool true) ∧ Below w.heap.size w w' :=
  va_call (facts := []) (tab := [(11, [], .bool true)]) (σ := symOf []) (symOf_one rfl) hT (foks_nil) (toks_cons (tok rfl rfl rfl rfl (fun W hW => awake08 W (hT.at hW))) (toks_nil)) (args := [.int .u8 24]) (v := .bool true) (by kernel_rfl) rfl rfl
theorem n_25 (w : World) (hT : Tb w) : Calls Tryd.prog 4 #[.int .u8 25] w fun e w' => e = .returned (.bool true) ∧ Below w.heap.size w w' :=
  va_call (facts := []) (tab := [(11, [], .bool true)]) (σ := symOf []) (symOf_one rfl) hT (foks_nil) (toks_cons (tok rfl rfl rfl rfl (fun W hW => awake08 W (hT.at hW))) (toks_nil)) (args := [.int .u8 25]) (v := .bool true) (by kernel_rfl) rfl rfl
theorem n_26 (w : World) (hT : Tb w) : Calls Tryd.prog 4 #[.int .u8 26] w fun e w' => e = .returned (.bool true) ∧ Below w.heap.size w w' :=
  va_call (facts := []) (tab := [(11, [], .bool true)]) (σ := symOf []) (symOf_one rfl) hT (foks_nil) (toks_cons (tok rfl rfl rfl rfl (fun W hW => awake08 W (hT.at hW))) (toks_nil)) (args := [.int .u8 26]) (v := .bool true) (by kernel_rfl) rfl rfl
theorem n_27 (w : World) (hT : Tb w) : Calls Tryd.prog 4 #[.int .u8 27] w fun e w' => e = .returned (.bool true) ∧ Below w.heap.size w w' :=
  va_call (facts := []) (tab := [(11, [], .bool true)]) (σ := symOf []) (symOf_one rfl) hT (foks_nil) (toks_cons (tok rfl rfl rfl rfl (fun W hW => awake08 W (hT.at hW))) (toks_nil)) (args := [.int .u8 27]) (v := .bool true) (by kernel_rfl) rfl rfl
theorem n_28 (w : World) (hT : Tb w) : Calls Tryd.prog 4 #[.int .u8 28] w fun e w' => e = .returned (.bool true) ∧ Below w.heap.size w w' :=
  va_call (facts := []) (tab := [(11, [], .bool true)]) (σ := symOf []) (symOf_one rfl) hT (foks_nil) (toks_cons (tok rfl rfl rfl rfl (fun W hW => awake08 W (hT.at hW))) (toks_nil)) (args := [.int .u8 28]) (v := .bool true) (by kernel_rfl) rfl rfl
theorem n_29 (w : World) (hT : Tb w) : Calls Tryd.prog 4 #[.int .u8 29] w fun e w' => e = .returned (.bool true) ∧ Below w.heap.size w w' :=
  va_call (facts := []) (tab := [(11, [], .bool true)]) (σ := symOf []) (symOf_one rfl) hT (foks_nil) (toks_cons (tok rfl rfl rfl rfl (fun W hW => awake08 W (hT.at hW))) (toks_nil)) (args := [.int .u8 29]) (v := .bool true) (by kernel_rfl) rfl rfl
theorem n_30 (w : World) (hT : Tb w) : Calls Tryd.prog 4 #[.int .u8 30] w fun e w' => e = .returned (.bool true) ∧ Below w.heap.size w w' :=
  va_call (facts := []) (tab := [(11, [], .bool true)]) (σ := symOf []) (symOf_one rfl) hT (foks_nil) (toks_cons (tok rfl rfl rfl rfl (fun W hW => awake08 W (hT.at hW))) (toks_nil)) (args := [.int .u8 30]) (v := .bool true) (by kernel_rfl) rfl rfl
theorem n_31 (w : World) (hT : Tb w) : Calls Tryd.prog 4 #[.int .u8 31] w fun e w' => e = .returned (.bool true) ∧ Below w.heap.size w w' :=
  va_call (facts := []) (tab := [(11, [], .bool true)]) (σ := symOf []) (symOf_one rfl) hT (foks_nil) (toks_cons (tok rfl rfl rfl rfl (fun W hW => awake08 W (hT.at hW))) (toks_nil)) (args := [.int .u8 31]) (v := .bool true) (by kernel_rfl) rfl rfl
theorem n_32 (w : World) (hT : Tb w) : Calls Tryd.prog 4 #[.int .u8 32] w fun e w' => e = .returned (.bool true) ∧ Below w.heap.size w w' :=
  va_call (facts := []) (tab := [(11, [], .bool true)]) (σ := symOf []) (symOf_one rfl) hT (foks_nil) (toks_cons (tok rfl rfl rfl rfl (fun W hW => awake08 W (hT.at hW))) (toks_nil)) (args := [.int .u8 32]) (v := .bool true) (by kernel_rfl) rfl rfl
theorem n_33 (w : World) (hT : Tb w) : Calls Tryd.prog 4 #[.int .u8 33] w fun e w' => e = .returned (.bool true) ∧ Below w.heap.size w w' :=
  va_call (facts := []) (tab := [(11, [], .bool true)]) (σ := symOf []) (symOf_one rfl) hT (foks_nil) (toks_cons (tok rfl rfl rfl rfl (fun W hW => awake08 W (hT.at hW))) (toks_nil)) (args := [.int .u8 33]) (v := .bool true) (by kernel_rfl) rfl rfl
theorem n_34 (w : World) (hT : Tb w) : Calls Tryd.prog 4 #[.int .u8 34] w fun e w' => e = .returned (.bool true) ∧ Below w.heap.size w w' :=
  va_call (facts := []) (tab := [(11, [], .bool true)]) (σ := symOf []) (symOf_one rfl) hT (foks_nil) (toks_cons (tok rfl rfl rfl rfl (fun W hW => awake08 W (hT.at hW))) (toks_nil)) (args := [.int .u8 34]) (v := .bool true) (by kernel_rfl) rfl rfl
theorem n_35 (w : World) (hT : Tb w) : Calls Tryd.prog 4 #[.int .u8 35] w fun e w' => e = .returned (.bool true) ∧ Below w.heap.size w w' :=
  va_call (facts := []) (tab := [(11, [], .bool true)]) (σ := symOf []) (symOf_one rfl) hT (foks_nil) (toks_cons (tok rfl rfl rfl rfl (fun W hW => awake08 W (hT.at hW))) (toks_nil)) (args := [.int .u8 35]) (v := .bool true) (by kernel_rfl) rfl rfl
theorem n_36 (w : World) (hT : Tb w) : Calls Tryd.prog 4 #[.int .u8 36] w fun e w' => e = .returned (.bool true) ∧ Below w.heap.size w w' :=
  va_call (facts := []) (tab := [(11, [], .bool true)]) (σ := symOf []) (symOf_one rfl) hT (foks_nil) (toks_cons (tok rfl rfl rfl rfl (fun W hW => awake08 W (hT.at hW))) (toks_nil)) (args := [.int .u8 36]) (v := .bool true) (by kernel_rfl) rfl rfl
theorem n_37 (w : World) (hT : Tb w) : Calls Tryd.prog 4 #[.int .u8 37] w fun e w' => e = .returned (.bool true) ∧ Below w.heap.size w w' :=
  va_call (facts := []) (tab := [(11, [], .bool true)]) (σ := symOf []) (symOf_one rfl) hT (foks_nil) (toks_cons (tok rfl rfl rfl rfl (fun W hW => awake08 W (hT.at hW))) (toks_nil)) (args := [.int .u8 37]) (v := .bool true) (by kernel_rfl) rfl rfl
theorem n_38 (w : World) (hT : Tb w) : Calls Tryd.prog 4 #[.int .u8 38] w fun e w' => e = .returned (.bool true) ∧ Below w.heap.size w w' :=
  va_call (facts := []) (tab := [(11, [], .bool true)]) (σ := symOf []) (symOf_one rfl) hT (foks_nil) (toks_cons (tok rfl rfl rfl rfl (fun W hW => awake08 W (hT.at hW))) (toks_nil)) (args := [.int .u8 38]) (v := .bool true) (by kernel_rfl) rfl rfl
theorem n_39 (w : World) (hT : Tb w) : Calls Tryd.prog 4 #[.int .u8 39] w fun e w' => e = .returned (.bool true) ∧ Below w.heap.size w w' :=
  va_call (facts := []) (tab := [(11, [], .bool true)]) (σ := symOf []) (symOf_one rfl) hT (foks_nil) (toks_cons (tok rfl rfl rfl rfl (fun W hW => awake08 W (hT.at hW))) (toks_nil)) (args := [.int .u8 39]) (v := .bool true) (by kernel_rfl) rfl rfl
theorem n_40 (w : World) (hT : Tb w) : Calls Tryd.prog 4 #[.int .u8 40] w fun e w' => e = .returned (.bool true) ∧ Below w.heap.size w w' :=
  va_call (facts := []) (tab := [(11, [], .bool true)]) (σ := symOf []) (symOf_one rfl) hT (foks_nil) (toks_cons (tok rfl rfl rfl rfl (fun W hW => awake08 W (hT.at hW))) (toks_nil)) (args := [.int .u8 40]) (v := .bool true) (by kernel_rfl) rfl rfl
theorem n_41 (w : World) (hT : Tb w) : Calls Tryd.prog 4 #[.int .u8 41] w fun e w' => e = .returned (.bool true) ∧ Below w.heap.size w w' :=
  va_call (facts := []) (tab := [(11, [], .bool true)]) (σ := symOf []) (symOf_one rfl) hT (foks_nil) (toks_cons (tok rfl rfl rfl rfl (fun W hW => awake08 W (hT.at hW))) (toks_nil)) (args := [.int .u8 41]) (v := .bool true) (by kernel_rfl) rfl rfl
theorem n_42 (w : World) (hT : Tb w) : Calls Tryd.prog 4 #[.int .u8 42] w fun e w' => e = .returned (.bool true) ∧ Below w.heap.size w w' :=
  va_call (facts := []) (tab := [(11, [], .bool true)]) (σ := symOf []) (symOf_one rfl) hT (foks_nil) (toks_cons (tok rfl rfl rfl rfl (fun W hW => awake08 W (hT.at hW))) (toks_nil)) (args := [.int .u8 42]) (v := .bool true) (by kernel_rfl) rfl rfl
theorem n_43 (w : World) (hT : Tb w) : Calls Tryd.prog 4 #[.int .u8 43] w fun e w' => e = .returned (.bool true) ∧ Below w.heap.size w w' :=
  va_call (facts := []) (tab := [(11, [], .bool true)]) (σ := symOf []) (symOf_one rfl) hT (foks_nil) (toks_cons (tok rfl rfl rfl rfl (fun W hW => awake08 W (hT.at hW))) (toks_nil)) (args := [.int .u8 43]) (v := .bool true) (by kernel_rfl) rfl rfl
theorem n_44 (w : World) (hT : Tb w) : Calls Tryd.prog 4 #[.int .u8 44] w fun e w' => e = .returned (.bool true) ∧ Below w.heap.size w w' :=
  va_call (facts := []) (tab := [(11, [], .bool true)]) (σ := symOf []) (symOf_one rfl) hT (foks_nil) (toks_cons (tok rfl rfl rfl rfl (fun W hW => awake08 W (hT.at hW))) (toks_nil)) (args := [.int .u8 44]) (v := .bool true) (by kernel_rfl) rfl rfl
theorem n_45 (w : World) (hT : Tb w) : Calls Tryd.prog 4 #[.int .u8 45] w fun e w' => e = .returned (.bool true) ∧ Below w.heap.size w w' :=
  va_call (facts := []) (tab := [(11, [], .bool true)]) (σ := symOf []) (symOf_one rfl) hT (foks_nil) (toks_cons (tok rfl rfl rfl rfl (fun W hW => awake08 W (hT.at hW))) (toks_nil)) (args := [.int .u8 45]) (v := .bool true) (by kernel_rfl) rfl rfl
theorem n_46 (w : World) (hT : Tb w) : Calls Tryd.prog 4 #[.int .u8 46] w fun e w' => e = .returned (.bool true) ∧ Below w.heap.size w w' :=
  va_call (facts := []) (tab := [(11, [], .bool true)]) (σ := symOf []) (symOf_one rfl) hT (foks_nil) (toks_cons (tok rfl rfl rfl rfl (fun W hW => awake08 W (hT.at hW))) (toks_nil)) (args := [.int .u8 46]) (v := .bool true) (by kernel_rfl) rfl rfl
theorem n_47 (w : World) (hT : Tb w) : Calls Tryd.prog 4 #[.int .u8 47] w fun e w' => e = .returned (.bool true) ∧ Below w.heap.size w w' :=
  va_call (facts := []) (tab := [(11, [], .bool true)]) (σ := symOf []) (symOf_one rfl) hT (foks_nil) (toks_cons (tok rfl rfl rfl rfl (fun W hW => awake08 W (hT.at hW))) (toks_nil)) (args := [.int .u8 47]) (v := .bool true) (by kernel_rfl) rfl rfl
theorem n_48 (w : World) (hT : Tb w) : Calls Tryd.prog 4 #[.int .u8 48] w fun e w' => e = .returned (.bool true) ∧ Below w.heap.size w w' :=
  va_call (facts := []) (tab := [(11, [], .bool true)]) (σ := symOf []) (symOf_one rfl) hT (foks_nil) (toks_cons (tok rfl rfl rfl rfl (fun W hW => awake08 W (hT.at hW))) (toks_nil)) (args := [.int .u8 48]) (v := .bool true) (by kernel_rfl) rfl rfl
theorem n_49 (w : World) (hT : Tb w) : Calls Tryd.prog 4 #[.int .u8 49] w fun e w' => e = .returned (.bool true) ∧ Below w.heap.size w w' :=
  va_call (facts := []) (tab := [(11, [], .bool true)]) (σ := symOf []) (symOf_one rfl) hT (foks_nil) (toks_cons (tok rfl rfl rfl rfl (fun W hW => awake08 W (hT.at hW))) (toks_nil)) (args := [.int .u8 49]) (v := .bool true) (by kernel_rfl) rfl rfl
theorem n_50 (w : World) (hT : Tb w) : Calls Tryd.prog 4 #[.int .u8 50] w fun e w' => e = .returned (.bool true) ∧ Below w.heap.size w w' :=
  va_call (facts := []) (tab := [(11, [], .bool true)]) (σ := symOf []) (symOf_one rfl) hT (foks_nil) (toks_cons (tok rfl rfl rfl rfl (fun W hW => awake08 W (hT.at hW))) (toks_nil)) (args := [.int .u8 50]) (v := .bool true) (by kernel_rfl) rfl rfl
theorem n_far (fn : Nat) (h : 51 ≤ fn) (w : World) (hT : Tb w) : Calls Tryd.prog 4 #[.int .u8 (fn : Int)] w fun e w' => e = .returned (.bool true) ∧ Below w.heap.size w w' :=
  va_call (facts := [⟨isBin .eql 5, [(symV 0), .int .u8 0], .bool false, false⟩, ⟨isBin .gtr 5, [(symV 0), .int .u8 50], .bool true, false⟩, ⟨isBin .lss 5, [(symV 0), .int .u8 1], .bool false, false⟩]) (tab := [(11, [], .bool true)]) (σ := symOf [.int .u8 (fn : Int)]) (symOf_one rfl) hT (foks_cons (fok_cmp rfl rfl rfl (by simp [cmpI]; omega)) (foks_cons (fok_cmp rfl rfl rfl (by simp [cmpI]; omega)) (foks_cons (fok_cmp rfl rfl rfl (by simp [cmpI]; omega)) (foks_nil)))) (toks_cons (tok rfl rfl rfl rfl (fun W hW => awake08 W (hT.at hW))) (toks_nil)) (args := [(symV 0)]) (v := .bool true) (by kernel_rfl) rfl rfl
theorem treeNames_law (x : Int) (w : World) (h : (Lit.int .u8 x).wf = true) (hl : laidMetH Tryd.prog Rows.treeNamesRow.laid w) : Calls Tryd.prog 4 #[.int .u8 x] w fun e w' => e = .returned (.bool true) ∧ Below w.heap.size w w' := by
  have hT : Tb w := tb_of (MakeChecks.laidMetH_plain _ _ _ (by kernel_rfl)) hl
  rw [Lit.wf_int_iff] at h
  simp [IntKind.min, IntKind.max, IntKind.signed, IntKind.bits] at h
  obtain ⟨k, rfl⟩ := Int.eq_ofNat_of_zero_le h.1
  by_cases hk : 51 ≤ k
  · exact n_far k hk w hT
  · obtain rfl | rfl | rfl | rfl | rfl | rfl | rfl | rfl | rfl | rfl | rfl | rfl | rfl | rfl | rfl | rfl | rfl | rfl | rfl | rfl | rfl | rfl | rfl | rfl | rfl | rfl | rfl | rfl | rfl | rfl | rfl | rfl | rfl | rfl | rfl | rfl | rfl | rfl | rfl | rfl | rfl | rfl | rfl | rfl | rfl | rfl | rfl | rfl | rfl | rfl | rfl := (by omega : k = 0 ∨ k = 1 ∨ k = 2 ∨ k = 3 ∨ k = 4 ∨ k = 5 ∨ k = 6 ∨ k = 7 ∨ k = 8 ∨ k = 9 ∨ k = 10 ∨ k = 11 ∨ k = 12 ∨ k = 13 ∨ k = 14 ∨ k = 15 ∨ k = 16 ∨ k = 17 ∨ k = 18 ∨ k = 19 ∨ k = 20 ∨ k = 21 ∨ k = 22 ∨ k = 23 ∨ k = 24 ∨ k = 25 ∨ k = 26 ∨ k = 27 ∨ k = 28 ∨ k = 29 ∨ k = 30 ∨ k = 31 ∨ k = 32 ∨ k = 33 ∨ k = 34 ∨ k = 35 ∨ k = 36 ∨ k = 37 ∨ k = 38 ∨ k = 39 ∨ k = 40 ∨ k = 41 ∨ k = 42 ∨ k = 43 ∨ k = 44 ∨ k = 45 ∨ k = 46 ∨ k = 47 ∨ k = 48 ∨ k = 49 ∨ k = 50)
    · exact n_0 w hT
    · exact n_1 w hT
    · exact n_2 w hT
    · exact n_3 w hT
    · exact n_4 w hT
    · exact n_5 w hT
    · exact n_6 w hT
    · exact n_7 w hT
    · exact n_8 w hT
    · exact n_9 w hT
    · exact n_10 w hT
    · exact n_11 w hT
    · exact n_12 w hT
    · exact n_13 w hT
    · exact n_14 w hT
    · exact n_15 w hT
    · exact n_16 w hT
    · exact n_17 w hT
    · exact n_18 w hT
    · exact n_19 w hT
    · exact n_20 w hT
    · exact n_21 w hT
    · exact n_22 w hT
    · exact n_23 w hT
    · exact n_24 w hT
    · exact n_25 w hT
    · exact n_26 w hT
    · exact n_27 w hT
    · exact n_28 w hT
    · exact n_29 w hT
    · exact n_30 w hT
    · exact n_31 w hT
    · exact n_32 w hT
    · exact n_33 w hT
    · exact n_34 w hT
    · exact n_35 w hT
    · exact n_36 w hT
    · exact n_37 w hT
    · exact n_38 w hT
    · exact n_39 w hT
    · exact n_40 w hT
    · exact n_41 w hT
    · exact n_42 w hT
    · exact n_43 w hT
    · exact n_44 w hT
    · exact n_45 w hT
    · exact n_46 w hT
    · exact n_47 w hT
    · exact n_48 w hT
    · exact n_49 w hT
    · exact n_50 w hT
end Go.Proofs.YtmfjedgegoiadaaDoor.Tr
