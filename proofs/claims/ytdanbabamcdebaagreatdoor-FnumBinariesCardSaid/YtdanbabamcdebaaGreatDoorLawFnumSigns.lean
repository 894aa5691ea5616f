/- The walk of the law: Neg and Percent are what the specification says. -/
import Derived.Test.YtdanbabamcdebaaGreatDoorY1
import Derived.Test.YtdanbabamcdebaaGreatDoorCameV
import Derived.Test.YtdanbabamcdebaaGreatDoorP1
import Derived.Test.YtdanbabamcdebaaGreatDoorRefQuo
import Derived.Test.YtdanbabamcdebaaGreatDoorRefSum
import Derived.Test.YtdanbabamcdebaaGreatDoorValO
namespace Go.Proofs.YtdanbabamcdebaaGreatDoor.Va
open Go Go.RowKit GM Sx
set_option linter.unusedVariables false
theorem awake13 (w : World) (h : Tb w) : Calls Tryz.prog 13 #[] w fun e w' => e = .returned (.bool true) ∧ Below w.heap.size w w' :=
  va_call (facts := []) (tab := []) (σ := symOf []) (symOf_one rfl) h foks_nil toks_nil (args := []) (v := .bool true) (by kernel_rfl) rfl rfl
theorem signs_e (k : Nat) (n : Int) (s : ByteArray) (m : Nat) (n1 : Int) (s1 : ByteArray) (hm : (m : Int) = if (300 : Int) < (s.size : Int) then 300 else (s.size : Int)) (hms : m ≤ s.size) (hv : ∀ W, Tb W → Calls Tryz.prog 23 #[.agg #[.int .u8 (k : Int), .int .i64 n, .string (s.extract 0 m)]] W fun e w' => e = .returned (.agg #[.int .u8 4, .int .i64 n1, .string s1]) ∧ Below W.heap.size W w') (hr : ∀ W, Tb W → Calls Tryz.prog 38 #[.agg #[.int .u8 (k : Int), .int .i64 n, .string (s.extract 0 m)]] W fun e w' => e = .returned (.agg #[.int .u8 4, .int .i64 n1, .string s1]) ∧ Below W.heap.size W w') (w : World) (hT : Tb w) : Calls Tryz.prog 5 #[.agg #[.int .u8 (k : Int), .int .i64 n, .string s]] w fun e w' => e = .returned (.bool true) ∧ Below w.heap.size w w' :=
  va_call (facts := [⟨isLen 9, [(symV 2)], (symV 3), false⟩, ⟨isMin2, [(symV 3), .int .i64 300], (symV 4), false⟩, ⟨isSliceH 9, [(symV 2), (symV 4)], (symV 5), false⟩, ⟨isBin .eql 23, [.agg #[.int .u8 4, (symV 6), (symV 7)], .agg #[.int .u8 4, (symV 6), (symV 7)]], .bool true, false⟩]) (tab := [(13, [], .bool true), (23, [.agg #[(symV 0), (symV 1), (symV 5)]], .agg #[.int .u8 4, (symV 6), (symV 7)]), (38, [.agg #[(symV 0), (symV 1), (symV 5)]], .agg #[.int .u8 4, (symV 6), (symV 7)])]) (σ := symOf [.int .u8 (k : Int), .int .i64 n, .string s, .int .i64 (s.size : Int), .int .i64 (m : Int), .string (s.extract 0 m), .int .i64 n1, .string s1]) (symOf_one rfl) hT (foks_cons (fok_strlen (by kernel_rfl) rfl rfl rfl rfl) (foks_cons (fok_min rfl rfl (by rw [hm]; rfl) rfl rfl) (foks_cons (fok_sliceH (by kernel_rfl) rfl rfl (rfl) rfl rfl (hms)) (foks_cons (fok_bin (a := .agg #[.int .u8 4, (.int .i64 n1), (.string s1)]) (b := .agg #[.int .u8 4, (.int .i64 n1), (.string s1)]) (c := .bool true) rfl rfl rfl rfl rfl (fun _ _ W => by go_simp)) (foks_nil))))) (toks_cons (tok rfl rfl rfl rfl (fun W hW => awake13 W (hT.at hW))) (toks_cons (tok rfl rfl rfl rfl (fun W hW => hv W (hT.at hW))) (toks_cons (tok rfl rfl rfl rfl (fun W hW => hr W (hT.at hW))) (toks_nil)))) (args := [.agg #[(symV 0), (symV 1), (symV 2)]]) (v := .bool true) (by kernel_rfl) rfl rfl
theorem signs_tt (k : Nat) (n : Int) (s : ByteArray) (m : Nat) (n1 nv qv : Int) (hm : (m : Int) = if (300 : Int) < (s.size : Int) then 300 else (s.size : Int)) (hms : m ≤ s.size) (hv : ∀ W, Tb W → Calls Tryz.prog 23 #[.agg #[.int .u8 (k : Int), .int .i64 n, .string (s.extract 0 m)]] W fun e w' => e = .returned (.agg #[.int .u8 1, .int .i64 n1, .string ⟨#[]⟩]) ∧ Below W.heap.size W w') (hr : ∀ W, Tb W → Calls Tryz.prog 38 #[.agg #[.int .u8 (k : Int), .int .i64 n, .string (s.extract 0 m)]] W fun e w' => e = .returned (.agg #[.int .u8 1, .int .i64 n1, .string ⟨#[]⟩]) ∧ Below W.heap.size W w') (vn : ∀ W, Tb W → Calls Tryz.prog 37 #[.int .i64 n1] W fun e w' => e = .returned (.tuple #[.int .i64 nv, .bool true]) ∧ Below W.heap.size W w') (vq : ∀ W, Tb W → Calls Tryz.prog 41 #[.int .i64 n1, .int .i64 1000000] W fun e w' => e = .returned (.tuple #[.int .i64 qv, .bool true]) ∧ Below W.heap.size W w') (rn : ∀ W, Tb W → Calls Tryz.prog 40 #[.int .i64 n1] W fun e w' => e = .returned (.tuple #[.int .i64 nv, .bool true]) ∧ Below W.heap.size W w') (rq : ∀ W, Tb W → Calls Tryz.prog 42 #[.int .i64 n1, .int .i64 1000000] W fun e w' => e = .returned (.tuple #[.int .i64 qv, .bool true]) ∧ Below W.heap.size W w') (bnv : -9223372036854775808 < nv) (bqv : -9223372036854775808 < qv) (w : World) (hT : Tb w) : Calls Tryz.prog 5 #[.agg #[.int .u8 (k : Int), .int .i64 n, .string s]] w fun e w' => e = .returned (.bool true) ∧ Below w.heap.size w w' :=
  va_call (facts := [⟨isLen 9, [(symV 2)], (symV 3), false⟩, ⟨isMin2, [(symV 3), .int .i64 300], (symV 4), false⟩, ⟨isSliceH 9, [(symV 2), (symV 4)], (symV 5), false⟩, ⟨isBin .eql 2, [(symV 7), .int .i64 (-9223372036854775808)], .bool false, false⟩, ⟨isBin .lss 2, [(symV 7), .int .i64 (-9223372036854775807)], .bool false, false⟩, ⟨isBin .eql 23, [.agg #[.int .u8 1, (symV 7), .string ⟨#[]⟩], .agg #[.int .u8 1, (symV 7), .string ⟨#[]⟩]], .bool true, false⟩, ⟨isBin .eql 2, [(symV 8), .int .i64 (-9223372036854775808)], .bool false, false⟩, ⟨isBin .lss 2, [(symV 8), .int .i64 (-9223372036854775807)], .bool false, false⟩, ⟨isBin .eql 23, [.agg #[.int .u8 1, (symV 8), .string ⟨#[]⟩], .agg #[.int .u8 1, (symV 8), .string ⟨#[]⟩]], .bool true, false⟩]) (tab := [(13, [], .bool true), (23, [.agg #[(symV 0), (symV 1), (symV 5)]], .agg #[.int .u8 1, (symV 6), .string ⟨#[]⟩]), (38, [.agg #[(symV 0), (symV 1), (symV 5)]], .agg #[.int .u8 1, (symV 6), .string ⟨#[]⟩]), (37, [(symV 6)], .tuple #[(symV 7), .bool true]), (41, [(symV 6), .int .i64 1000000], .tuple #[(symV 8), .bool true]), (40, [(symV 6)], .tuple #[(symV 7), .bool true]), (42, [(symV 6), .int .i64 1000000], .tuple #[(symV 8), .bool true])]) (σ := symOf [.int .u8 (k : Int), .int .i64 n, .string s, .int .i64 (s.size : Int), .int .i64 (m : Int), .string (s.extract 0 m), .int .i64 n1, .int .i64 nv, .int .i64 qv]) (symOf_one rfl) hT (foks_cons (fok_strlen (by kernel_rfl) rfl rfl rfl rfl) (foks_cons (fok_min rfl rfl (by rw [hm]; rfl) rfl rfl) (foks_cons (fok_sliceH (by kernel_rfl) rfl rfl (rfl) rfl rfl (hms)) (foks_cons (fok_cmp rfl rfl rfl (by simp [cmpI]; omega)) (foks_cons (fok_cmp rfl rfl rfl (by simp [cmpI]; omega)) (foks_cons (fok_bin (a := .agg #[.int .u8 1, (.int .i64 nv), .string ⟨#[]⟩]) (b := .agg #[.int .u8 1, (.int .i64 nv), .string ⟨#[]⟩]) (c := .bool true) rfl rfl rfl rfl rfl (fun _ _ W => by go_simp)) (foks_cons (fok_cmp rfl rfl rfl (by simp [cmpI]; omega)) (foks_cons (fok_cmp rfl rfl rfl (by simp [cmpI]; omega)) (foks_cons (fok_bin (a := .agg #[.int .u8 1, (.int .i64 qv), .string ⟨#[]⟩]) (b := .agg #[.int .u8 1, (.int .i64 qv), .string ⟨#[]⟩]) (c := .bool true) rfl rfl rfl rfl rfl (fun _ _ W => by go_simp)) (foks_nil)))))))))) (toks_cons (tok rfl rfl rfl rfl (fun W hW => awake13 W (hT.at hW))) (toks_cons (tok rfl rfl rfl rfl (fun W hW => hv W (hT.at hW))) (toks_cons (tok rfl rfl rfl rfl (fun W hW => hr W (hT.at hW))) (toks_cons (tok rfl rfl rfl rfl (fun W hW => vn W (hT.at hW))) (toks_cons (tok rfl rfl rfl rfl (fun W hW => vq W (hT.at hW))) (toks_cons (tok rfl rfl rfl rfl (fun W hW => rn W (hT.at hW))) (toks_cons (tok rfl rfl rfl rfl (fun W hW => rq W (hT.at hW))) (toks_nil)))))))) (args := [.agg #[(symV 0), (symV 1), (symV 2)]]) (v := .bool true) (by kernel_rfl) rfl rfl
theorem signs_tf (k : Nat) (n : Int) (s : ByteArray) (m : Nat) (n1 nv qv : Int) (hm : (m : Int) = if (300 : Int) < (s.size : Int) then 300 else (s.size : Int)) (hms : m ≤ s.size) (hv : ∀ W, Tb W → Calls Tryz.prog 23 #[.agg #[.int .u8 (k : Int), .int .i64 n, .string (s.extract 0 m)]] W fun e w' => e = .returned (.agg #[.int .u8 1, .int .i64 n1, .string ⟨#[]⟩]) ∧ Below W.heap.size W w') (hr : ∀ W, Tb W → Calls Tryz.prog 38 #[.agg #[.int .u8 (k : Int), .int .i64 n, .string (s.extract 0 m)]] W fun e w' => e = .returned (.agg #[.int .u8 1, .int .i64 n1, .string ⟨#[]⟩]) ∧ Below W.heap.size W w') (vn : ∀ W, Tb W → Calls Tryz.prog 37 #[.int .i64 n1] W fun e w' => e = .returned (.tuple #[.int .i64 nv, .bool true]) ∧ Below W.heap.size W w') (vq : ∀ W, Tb W → Calls Tryz.prog 41 #[.int .i64 n1, .int .i64 1000000] W fun e w' => e = .returned (.tuple #[.int .i64 qv, .bool false]) ∧ Below W.heap.size W w') (rn : ∀ W, Tb W → Calls Tryz.prog 40 #[.int .i64 n1] W fun e w' => e = .returned (.tuple #[.int .i64 nv, .bool true]) ∧ Below W.heap.size W w') (rq : ∀ W, Tb W → Calls Tryz.prog 42 #[.int .i64 n1, .int .i64 1000000] W fun e w' => e = .returned (.tuple #[.int .i64 qv, .bool false]) ∧ Below W.heap.size W w') (bnv : -9223372036854775808 < nv) (w : World) (hT : Tb w) : Calls Tryz.prog 5 #[.agg #[.int .u8 (k : Int), .int .i64 n, .string s]] w fun e w' => e = .returned (.bool true) ∧ Below w.heap.size w w' :=
  va_call (facts := [⟨isLen 9, [(symV 2)], (symV 3), false⟩, ⟨isMin2, [(symV 3), .int .i64 300], (symV 4), false⟩, ⟨isSliceH 9, [(symV 2), (symV 4)], (symV 5), false⟩, ⟨isBin .eql 2, [(symV 7), .int .i64 (-9223372036854775808)], .bool false, false⟩, ⟨isBin .lss 2, [(symV 7), .int .i64 (-9223372036854775807)], .bool false, false⟩, ⟨isBin .eql 23, [.agg #[.int .u8 1, (symV 7), .string ⟨#[]⟩], .agg #[.int .u8 1, (symV 7), .string ⟨#[]⟩]], .bool true, false⟩]) (tab := [(13, [], .bool true), (23, [.agg #[(symV 0), (symV 1), (symV 5)]], .agg #[.int .u8 1, (symV 6), .string ⟨#[]⟩]), (38, [.agg #[(symV 0), (symV 1), (symV 5)]], .agg #[.int .u8 1, (symV 6), .string ⟨#[]⟩]), (37, [(symV 6)], .tuple #[(symV 7), .bool true]), (41, [(symV 6), .int .i64 1000000], .tuple #[(symV 8), .bool false]), (40, [(symV 6)], .tuple #[(symV 7), .bool true]), (42, [(symV 6), .int .i64 1000000], .tuple #[(symV 8), .bool false])]) (σ := symOf [.int .u8 (k : Int), .int .i64 n, .string s, .int .i64 (s.size : Int), .int .i64 (m : Int), .string (s.extract 0 m), .int .i64 n1, .int .i64 nv, .int .i64 qv]) (symOf_one rfl) hT (foks_cons (fok_strlen (by kernel_rfl) rfl rfl rfl rfl) (foks_cons (fok_min rfl rfl (by rw [hm]; rfl) rfl rfl) (foks_cons (fok_sliceH (by kernel_rfl) rfl rfl (rfl) rfl rfl (hms)) (foks_cons (fok_cmp rfl rfl rfl (by simp [cmpI]; omega)) (foks_cons (fok_cmp rfl rfl rfl (by simp [cmpI]; omega)) (foks_cons (fok_bin (a := .agg #[.int .u8 1, (.int .i64 nv), .string ⟨#[]⟩]) (b := .agg #[.int .u8 1, (.int .i64 nv), .string ⟨#[]⟩]) (c := .bool true) rfl rfl rfl rfl rfl (fun _ _ W => by go_simp)) (foks_nil))))))) (toks_cons (tok rfl rfl rfl rfl (fun W hW => awake13 W (hT.at hW))) (toks_cons (tok rfl rfl rfl rfl (fun W hW => hv W (hT.at hW))) (toks_cons (tok rfl rfl rfl rfl (fun W hW => hr W (hT.at hW))) (toks_cons (tok rfl rfl rfl rfl (fun W hW => vn W (hT.at hW))) (toks_cons (tok rfl rfl rfl rfl (fun W hW => vq W (hT.at hW))) (toks_cons (tok rfl rfl rfl rfl (fun W hW => rn W (hT.at hW))) (toks_cons (tok rfl rfl rfl rfl (fun W hW => rq W (hT.at hW))) (toks_nil)))))))) (args := [.agg #[(symV 0), (symV 1), (symV 2)]]) (v := .bool true) (by kernel_rfl) rfl rfl
theorem signs_ft (k : Nat) (n : Int) (s : ByteArray) (m : Nat) (n1 nv qv : Int) (hm : (m : Int) = if (300 : Int) < (s.size : Int) then 300 else (s.size : Int)) (hms : m ≤ s.size) (hv : ∀ W, Tb W → Calls Tryz.prog 23 #[.agg #[.int .u8 (k : Int), .int .i64 n, .string (s.extract 0 m)]] W fun e w' => e = .returned (.agg #[.int .u8 1, .int .i64 n1, .string ⟨#[]⟩]) ∧ Below W.heap.size W w') (hr : ∀ W, Tb W → Calls Tryz.prog 38 #[.agg #[.int .u8 (k : Int), .int .i64 n, .string (s.extract 0 m)]] W fun e w' => e = .returned (.agg #[.int .u8 1, .int .i64 n1, .string ⟨#[]⟩]) ∧ Below W.heap.size W w') (vn : ∀ W, Tb W → Calls Tryz.prog 37 #[.int .i64 n1] W fun e w' => e = .returned (.tuple #[.int .i64 nv, .bool false]) ∧ Below W.heap.size W w') (vq : ∀ W, Tb W → Calls Tryz.prog 41 #[.int .i64 n1, .int .i64 1000000] W fun e w' => e = .returned (.tuple #[.int .i64 qv, .bool true]) ∧ Below W.heap.size W w') (rn : ∀ W, Tb W → Calls Tryz.prog 40 #[.int .i64 n1] W fun e w' => e = .returned (.tuple #[.int .i64 nv, .bool false]) ∧ Below W.heap.size W w') (rq : ∀ W, Tb W → Calls Tryz.prog 42 #[.int .i64 n1, .int .i64 1000000] W fun e w' => e = .returned (.tuple #[.int .i64 qv, .bool true]) ∧ Below W.heap.size W w') (bqv : -9223372036854775808 < qv) (w : World) (hT : Tb w) : Calls Tryz.prog 5 #[.agg #[.int .u8 (k : Int), .int .i64 n, .string s]] w fun e w' => e = .returned (.bool true) ∧ Below w.heap.size w w' :=
  va_call (facts := [⟨isLen 9, [(symV 2)], (symV 3), false⟩, ⟨isMin2, [(symV 3), .int .i64 300], (symV 4), false⟩, ⟨isSliceH 9, [(symV 2), (symV 4)], (symV 5), false⟩, ⟨isBin .eql 2, [(symV 8), .int .i64 (-9223372036854775808)], .bool false, false⟩, ⟨isBin .lss 2, [(symV 8), .int .i64 (-9223372036854775807)], .bool false, false⟩, ⟨isBin .eql 23, [.agg #[.int .u8 1, (symV 8), .string ⟨#[]⟩], .agg #[.int .u8 1, (symV 8), .string ⟨#[]⟩]], .bool true, false⟩]) (tab := [(13, [], .bool true), (23, [.agg #[(symV 0), (symV 1), (symV 5)]], .agg #[.int .u8 1, (symV 6), .string ⟨#[]⟩]), (38, [.agg #[(symV 0), (symV 1), (symV 5)]], .agg #[.int .u8 1, (symV 6), .string ⟨#[]⟩]), (37, [(symV 6)], .tuple #[(symV 7), .bool false]), (41, [(symV 6), .int .i64 1000000], .tuple #[(symV 8), .bool true]), (40, [(symV 6)], .tuple #[(symV 7), .bool false]), (42, [(symV 6), .int .i64 1000000], .tuple #[(symV 8), .bool true])]) (σ := symOf [.int .u8 (k : Int), .int .i64 n, .string s, .int .i64 (s.size : Int), .int .i64 (m : Int), .string (s.extract 0 m), .int .i64 n1, .int .i64 nv, .int .i64 qv]) (symOf_one rfl) hT (foks_cons (fok_strlen (by kernel_rfl) rfl rfl rfl rfl) (foks_cons (fok_min rfl rfl (by rw [hm]; rfl) rfl rfl) (foks_cons (fok_sliceH (by kernel_rfl) rfl rfl (rfl) rfl rfl (hms)) (foks_cons (fok_cmp rfl rfl rfl (by simp [cmpI]; omega)) (foks_cons (fok_cmp rfl rfl rfl (by simp [cmpI]; omega)) (foks_cons (fok_bin (a := .agg #[.int .u8 1, (.int .i64 qv), .string ⟨#[]⟩]) (b := .agg #[.int .u8 1, (.int .i64 qv), .string ⟨#[]⟩]) (c := .bool true) rfl rfl rfl rfl rfl (fun _ _ W => by go_simp)) (foks_nil))))))) (toks_cons (tok rfl rfl rfl rfl (fun W hW => awake13 W (hT.at hW))) (toks_cons (tok rfl rfl rfl rfl (fun W hW => hv W (hT.at hW))) (toks_cons (tok rfl rfl rfl rfl (fun W hW => hr W (hT.at hW))) (toks_cons (tok rfl rfl rfl rfl (fun W hW => vn W (hT.at hW))) (toks_cons (tok rfl rfl rfl rfl (fun W hW => vq W (hT.at hW))) (toks_cons (tok rfl rfl rfl rfl (fun W hW => rn W (hT.at hW))) (toks_cons (tok rfl rfl rfl rfl (fun W hW => rq W (hT.at hW))) (toks_nil)))))))) (args := [.agg #[(symV 0), (symV 1), (symV 2)]]) (v := .bool true) (by kernel_rfl) rfl rfl
theorem signs_ff (k : Nat) (n : Int) (s : ByteArray) (m : Nat) (n1 nv qv : Int) (hm : (m : Int) = if (300 : Int) < (s.size : Int) then 300 else (s.size : Int)) (hms : m ≤ s.size) (hv : ∀ W, Tb W → Calls Tryz.prog 23 #[.agg #[.int .u8 (k : Int), .int .i64 n, .string (s.extract 0 m)]] W fun e w' => e = .returned (.agg #[.int .u8 1, .int .i64 n1, .string ⟨#[]⟩]) ∧ Below W.heap.size W w') (hr : ∀ W, Tb W → Calls Tryz.prog 38 #[.agg #[.int .u8 (k : Int), .int .i64 n, .string (s.extract 0 m)]] W fun e w' => e = .returned (.agg #[.int .u8 1, .int .i64 n1, .string ⟨#[]⟩]) ∧ Below W.heap.size W w') (vn : ∀ W, Tb W → Calls Tryz.prog 37 #[.int .i64 n1] W fun e w' => e = .returned (.tuple #[.int .i64 nv, .bool false]) ∧ Below W.heap.size W w') (vq : ∀ W, Tb W → Calls Tryz.prog 41 #[.int .i64 n1, .int .i64 1000000] W fun e w' => e = .returned (.tuple #[.int .i64 qv, .bool false]) ∧ Below W.heap.size W w') (rn : ∀ W, Tb W → Calls Tryz.prog 40 #[.int .i64 n1] W fun e w' => e = .returned (.tuple #[.int .i64 nv, .bool false]) ∧ Below W.heap.size W w') (rq : ∀ W, Tb W → Calls Tryz.prog 42 #[.int .i64 n1, .int .i64 1000000] W fun e w' => e = .returned (.tuple #[.int .i64 qv, .bool false]) ∧ Below W.heap.size W w') (w : World) (hT : Tb w) : Calls Tryz.prog 5 #[.agg #[.int .u8 (k : Int), .int .i64 n, .string s]] w fun e w' => e = .returned (.bool true) ∧ Below w.heap.size w w' :=
  va_call (facts := [⟨isLen 9, [(symV 2)], (symV 3), false⟩, ⟨isMin2, [(symV 3), .int .i64 300], (symV 4), false⟩, ⟨isSliceH 9, [(symV 2), (symV 4)], (symV 5), false⟩]) (tab := [(13, [], .bool true), (23, [.agg #[(symV 0), (symV 1), (symV 5)]], .agg #[.int .u8 1, (symV 6), .string ⟨#[]⟩]), (38, [.agg #[(symV 0), (symV 1), (symV 5)]], .agg #[.int .u8 1, (symV 6), .string ⟨#[]⟩]), (37, [(symV 6)], .tuple #[(symV 7), .bool false]), (41, [(symV 6), .int .i64 1000000], .tuple #[(symV 8), .bool false]), (40, [(symV 6)], .tuple #[(symV 7), .bool false]), (42, [(symV 6), .int .i64 1000000], .tuple #[(symV 8), .bool false])]) (σ := symOf [.int .u8 (k : Int), .int .i64 n, .string s, .int .i64 (s.size : Int), .int .i64 (m : Int), .string (s.extract 0 m), .int .i64 n1, .int .i64 nv, .int .i64 qv]) (symOf_one rfl) hT (foks_cons (fok_strlen (by kernel_rfl) rfl rfl rfl rfl) (foks_cons (fok_min rfl rfl (by rw [hm]; rfl) rfl rfl) (foks_cons (fok_sliceH (by kernel_rfl) rfl rfl (rfl) rfl rfl (hms)) (foks_nil)))) (toks_cons (tok rfl rfl rfl rfl (fun W hW => awake13 W (hT.at hW))) (toks_cons (tok rfl rfl rfl rfl (fun W hW => hv W (hT.at hW))) (toks_cons (tok rfl rfl rfl rfl (fun W hW => hr W (hT.at hW))) (toks_cons (tok rfl rfl rfl rfl (fun W hW => vn W (hT.at hW))) (toks_cons (tok rfl rfl rfl rfl (fun W hW => vq W (hT.at hW))) (toks_cons (tok rfl rfl rfl rfl (fun W hW => rn W (hT.at hW))) (toks_cons (tok rfl rfl rfl rfl (fun W hW => rq W (hT.at hW))) (toks_nil)))))))) (args := [.agg #[(symV 0), (symV 1), (symV 2)]]) (v := .bool true) (by kernel_rfl) rfl rfl
theorem pureB {f : FuncId} {a : Array Value} {v : Value} (h : ∀ W : World, Calls Tryz.prog f a W fun e w' => e = .returned v ∧ W = w') : ∀ W, Tb W → Calls Tryz.prog f a W fun e w' => e = .returned v ∧ Below W.heap.size W w' :=
  fun W _ => (h W).mono fun e w' ⟨a, b⟩ => ⟨a, b ▸ Below.refl _ _⟩
theorem drewB {f : FuncId} {a : Array Value} {v : Value} (h : ∀ W : World, Calls Tryz.prog f a W fun e w' => e = .returned v ∧ ∃ k, w' = W.drewN k) : ∀ W, Tb W → Calls Tryz.prog f a W fun e w' => e = .returned v ∧ Below W.heap.size W w' :=
  fun W _ => (h W).mono fun e w' ⟨a, k, b⟩ => ⟨a, b ▸ ⟨rfl, rfl, rfl, Nat.le_refl _, fun _ _ => rfl⟩⟩
theorem resB_in {z : Int} (h : resB z = true) : resV z = z ∧ -9223372036854775808 < z ∧ z < 9223372036854775808 := by
  have : -9223372036854775808 < z ∧ z < 9223372036854775808 := of_decide_eq_true h
  exact ⟨by unfold resV; rw [if_pos this], this⟩
/-- The cut text. -/
theorem cut_len (s : ByteArray) : ∃ m : Nat, (m : Int) = (if (300 : Int) < (s.size : Int) then 300 else (s.size : Int)) ∧ m ≤ s.size ∧ m ≤ 300 := by
  by_cases h : 300 < s.size
  · exact ⟨300, by rw [if_pos (by omega)]; rfl, by omega, by omega⟩
  · exact ⟨s.size, by rw [if_neg (by omega)], by omega, by omega⟩
theorem cut_size {s : ByteArray} {m : Nat} (h : m ≤ s.size) : (s.extract 0 m).size = m := by
  rw [ByteArray.size_extract]; omega
theorem empty_of {s : ByteArray} (h : s.data.toList = []) : s = ⟨#[]⟩ := ByteArray.ext (Array.toList_inj.1 h)
/-- A converted number has no text. -/
theorem cv1_num {k : Nat} {n : Int} {s : ByteArray} (h1 : (cvR 1 k n s).1 = 1) : (cvR 1 k n s).2.2 = ⟨#[]⟩ := by
  have h := (cv1_ok k n s).1
  have hv : vldV (cvR 1 k n s).1 (cvR 1 k n s).2.1 (cvR 1 k n s).2.2.data.toList = true := by
    unfold vE at h
    split at h
    · assumption
    · omega
  exact empty_of (vld_text hv (by omega))
/-- What is converted fits again. -/
theorem cv_fit (kd k : Nat) (n : Int) (s : ByteArray) (hs : s.size ≤ 2000) (hi : InI n) : (cvR kd k n s).2.2.size ≤ 2000 ∧ InI (cvR kd k n s).2.1 := by
  have small : ∀ x : Int, -1000000 ≤ x → x ≤ 1000000 → InI x := fun x h1 h2 => by unfold InI; omega
  have mk : ∀ x : Int, InI x → InI (mkN x) := fun x h => by
    unfold mkN
    split
    · exact small 3 (by omega) (by omega)
    · exact h
  unfold cvR
  split
  · rename_i h0
    split
    · exact ⟨hs, hi⟩
    · rename_i hk
      split
      · refine ⟨(by decide : (⟨#[]⟩ : ByteArray).size ≤ 2000), ?_⟩
        show InI (nbR k n s).2
        unfold nbR
        split
        · split
          · rename_i he
            have := Tx.par_bd he
            exact mk _ (by unfold Tx.mostI at this; unfold InI; omega)
          · split
            · exact small 3 (by omega) (by omega)
            · exact small 2 (by omega) (by omega)
        · refine mk _ (small _ ?_ ?_) <;> rcases vld_sort h0 with ⟨g, g', _⟩ | ⟨g, g', _⟩ | ⟨g, g', _⟩ | ⟨g, _⟩ | ⟨g, g', _⟩ <;> omega
      · split
        · refine ⟨(by decide : (⟨#[]⟩ : ByteArray).size ≤ 2000), ?_⟩
          show InI (trR k n s).2
          rcases tr_sort k n s with a | a | a <;> rw [a]
          · exact small 2 (by omega) (by omega)
          · exact small 1 (by omega) (by omega)
          · exact small 0 (by omega) (by omega)
        · refine ⟨?_, small 0 (by omega) (by omega)⟩
          dsimp only
          split
          · have h := chk_fmt hi
            have hl : (Tx.fmtL n).length ≤ 2000 := by
              unfold chk at h
              split at h
              · cases h
              · omega
            exact hl
          · split
            · split <;> decide
            · decide
  · exact ⟨by decide, small 2 (by omega) (by omega)⟩
theorem fnumSigns_law (a : VV) (w : World) (hl : laidMetH Tryz.prog Rows.fnumSignsRow.laid w) :
    Calls Tryz.prog 5 #[.agg (cells3 a).toArray] w fun e w' => e = .returned (.bool true) ∧ Below w.heap.size w w' := by
  have hT : Tb w := tb_of (MakeChecks.laidMetH_plain _ _ _ (by kernel_rfl)) hl
  have hi : InI a.num := ⟨a.lo, a.hi⟩
  obtain ⟨m, hm, hms, h300⟩ := cut_len a.txt
  have hsz : (a.txt.extract 0 m).size ≤ 2000 := by rw [cut_size hms]; omega
  have hv := fun W h => vto_num a.kd a.num (a.txt.extract 0 m) hsz hi W h
  have hr := fun W h => rto_num a.kd a.num (a.txt.extract 0 m) hsz hi W h
  have ok := cv1_ok a.kd a.num (a.txt.extract 0 m)
  have fit := cv_fit 1 a.kd a.num (a.txt.extract 0 m) hsz hi
  rcases ok.2 with h1 | h4
  · have ht := cv1_num h1
    rw [h1, ht] at hv hr
    have hni := fit.2
    generalize (cvR 1 a.kd a.num (a.txt.extract 0 m)).2.1 = n1 at *
    have vn := pureB fun W => neg_any n1 hni W
    have rn := fun W (_ : Tb W) => rneg_any n1 hni W
    have vq := drewB fun W => quo_any n1 1000000 hni (by unfold InI; omega) (by decide) W
    have rq := fun W (_ : Tb W) => rquo_any n1 1000000 hni (by unfold InI; omega) (by decide) W
    cases hb1 : resB (-n1) with
    | true =>
      obtain ⟨e1, b1, _⟩ := resB_in hb1
      rw [hb1, e1] at vn rn
      cases hb2 : resB (quoZ n1 1000000) with
      | true =>
        obtain ⟨e2, b2, _⟩ := resB_in hb2
        rw [hb2, e2] at vq rq
        exact signs_tt a.kd a.num a.txt m n1 _ _ hm hms hv hr vn vq rn rq b1 b2 w hT
      | false =>
        rw [hb2] at vq rq
        exact signs_tf a.kd a.num a.txt m n1 _ _ hm hms hv hr vn vq rn rq b1 w hT
    | false =>
      rw [hb1] at vn rn
      cases hb2 : resB (quoZ n1 1000000) with
      | true =>
        obtain ⟨e2, b2, _⟩ := resB_in hb2
        rw [hb2, e2] at vq rq
        exact signs_ft a.kd a.num a.txt m n1 _ _ hm hms hv hr vn vq rn rq b2 w hT
      | false =>
        rw [hb2] at vq rq
        exact signs_ff a.kd a.num a.txt m n1 _ _ hm hms hv hr vn vq rn rq w hT
  · rw [h4] at hv hr
    exact signs_e a.kd a.num a.txt m _ _ hm hms hv hr w hT
end Go.Proofs.YtdanbabamcdebaaGreatDoor.Va
