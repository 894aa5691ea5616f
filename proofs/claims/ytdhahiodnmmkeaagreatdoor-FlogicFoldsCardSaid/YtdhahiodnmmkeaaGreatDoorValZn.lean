/- The contracts of the program's conversions. -/
import Derived.Test.YtdhahiodnmmkeaaGreatDoorValXn
import Derived.Test.YtdhahiodnmmkeaaGreatDoorMgg
import Derived.Test.YtdhahiodnmmkeaaGreatDoorTxtC
import Derived.Test.YtdhahiodnmmkeaaGreatDoorTxtE
namespace Go.Proofs.YtdhahiodnmmkeaaGreatDoor.Va
open Go Go.RowKit GM Sx
set_option linter.unusedVariables false
theorem vb_num (k : Nat) (n : Int) (s : ByteArray) (hc : ∀ W, Tb W → Calls Tryz.prog 49 #[.agg #[.int .u8 (k : Int), .int .i64 n, .string s]] W fun e w' => e = .returned (.int .i64 2) ∧ Below W.heap.size W w') (w : World) (hT : Tb w) : Calls Tryz.prog 100 #[.agg #[.int .u8 (k : Int), .int .i64 n, .string s]] w fun e w' => e = .returned (.agg #[.int .u8 4, .int .i64 2, .string ⟨#[]⟩]) ∧ Below w.heap.size w w' :=
  va_call (facts := []) (tab := [(49, [.agg #[(symV 0), (symV 1), (symV 2)]], .int .i64 2)]) (σ := symOf [.int .u8 (k : Int), .int .i64 n, .string s]) (symOf_one rfl) hT (foks_nil) (toks_cons (tok rfl rfl rfl rfl (fun W hW => hc W (hT.at hW))) (toks_nil)) (args := [.agg #[(symV 0), (symV 1), (symV 2)]]) (v := .agg #[.int .u8 4, .int .i64 2, .string ⟨#[]⟩]) (by kernel_rfl) rfl rfl
theorem vs_num1 (n : Int) (s : ByteArray) (hc : ∀ W, Tb W → Calls Tryz.prog 49 #[.agg #[.int .u8 1, .int .i64 n, .string s]] W fun e w' => e = .returned (.int .i64 0) ∧ Below W.heap.size W w') (w : World) (hT : Tb w) : Calls Tryz.prog 100 #[.agg #[.int .u8 1, .int .i64 n, .string s]] w fun e w' => e = .returned (.agg #[.int .u8 1, .int .i64 n, .string s]) ∧ Below w.heap.size w w' :=
  va_call (facts := []) (tab := [(49, [.agg #[.int .u8 1, (symV 0), (symV 1)]], .int .i64 0)]) (σ := symOf [.int .i64 n, .string s]) (symOf_one rfl) hT (foks_nil) (toks_cons (tok rfl rfl rfl rfl (fun W hW => hc W (hT.at hW))) (toks_nil)) (args := [.agg #[.int .u8 1, (symV 0), (symV 1)]]) (v := .agg #[.int .u8 1, (symV 0), (symV 1)]) (by kernel_rfl) rfl rfl
theorem vs_num4 (n : Int) (s : ByteArray) (hc : ∀ W, Tb W → Calls Tryz.prog 49 #[.agg #[.int .u8 4, .int .i64 n, .string s]] W fun e w' => e = .returned (.int .i64 0) ∧ Below W.heap.size W w') (w : World) (hT : Tb w) : Calls Tryz.prog 100 #[.agg #[.int .u8 4, .int .i64 n, .string s]] w fun e w' => e = .returned (.agg #[.int .u8 4, .int .i64 n, .string s]) ∧ Below w.heap.size w w' :=
  va_call (facts := []) (tab := [(49, [.agg #[.int .u8 4, (symV 0), (symV 1)]], .int .i64 0)]) (σ := symOf [.int .i64 n, .string s]) (symOf_one rfl) hT (foks_nil) (toks_cons (tok rfl rfl rfl rfl (fun W hW => hc W (hT.at hW))) (toks_nil)) (args := [.agg #[.int .u8 4, (symV 0), (symV 1)]]) (v := .agg #[.int .u8 4, (symV 0), (symV 1)]) (by kernel_rfl) rfl rfl
theorem vb_bool (k : Nat) (n : Int) (s : ByteArray) (hc : ∀ W, Tb W → Calls Tryz.prog 49 #[.agg #[.int .u8 (k : Int), .int .i64 n, .string s]] W fun e w' => e = .returned (.int .i64 2) ∧ Below W.heap.size W w') (w : World) (hT : Tb w) : Calls Tryz.prog 21 #[.agg #[.int .u8 (k : Int), .int .i64 n, .string s]] w fun e w' => e = .returned (.agg #[.int .u8 4, .int .i64 2, .string ⟨#[]⟩]) ∧ Below w.heap.size w w' :=
  va_call (facts := []) (tab := [(49, [.agg #[(symV 0), (symV 1), (symV 2)]], .int .i64 2)]) (σ := symOf [.int .u8 (k : Int), .int .i64 n, .string s]) (symOf_one rfl) hT (foks_nil) (toks_cons (tok rfl rfl rfl rfl (fun W hW => hc W (hT.at hW))) (toks_nil)) (args := [.agg #[(symV 0), (symV 1), (symV 2)]]) (v := .agg #[.int .u8 4, .int .i64 2, .string ⟨#[]⟩]) (by kernel_rfl) rfl rfl
theorem vs_bool2 (n : Int) (s : ByteArray) (hc : ∀ W, Tb W → Calls Tryz.prog 49 #[.agg #[.int .u8 2, .int .i64 n, .string s]] W fun e w' => e = .returned (.int .i64 0) ∧ Below W.heap.size W w') (w : World) (hT : Tb w) : Calls Tryz.prog 21 #[.agg #[.int .u8 2, .int .i64 n, .string s]] w fun e w' => e = .returned (.agg #[.int .u8 2, .int .i64 n, .string s]) ∧ Below w.heap.size w w' :=
  va_call (facts := []) (tab := [(49, [.agg #[.int .u8 2, (symV 0), (symV 1)]], .int .i64 0)]) (σ := symOf [.int .i64 n, .string s]) (symOf_one rfl) hT (foks_nil) (toks_cons (tok rfl rfl rfl rfl (fun W hW => hc W (hT.at hW))) (toks_nil)) (args := [.agg #[.int .u8 2, (symV 0), (symV 1)]]) (v := .agg #[.int .u8 2, (symV 0), (symV 1)]) (by kernel_rfl) rfl rfl
theorem vs_bool4 (n : Int) (s : ByteArray) (hc : ∀ W, Tb W → Calls Tryz.prog 49 #[.agg #[.int .u8 4, .int .i64 n, .string s]] W fun e w' => e = .returned (.int .i64 0) ∧ Below W.heap.size W w') (w : World) (hT : Tb w) : Calls Tryz.prog 21 #[.agg #[.int .u8 4, .int .i64 n, .string s]] w fun e w' => e = .returned (.agg #[.int .u8 4, .int .i64 n, .string s]) ∧ Below w.heap.size w w' :=
  va_call (facts := []) (tab := [(49, [.agg #[.int .u8 4, (symV 0), (symV 1)]], .int .i64 0)]) (σ := symOf [.int .i64 n, .string s]) (symOf_one rfl) hT (foks_nil) (toks_cons (tok rfl rfl rfl rfl (fun W hW => hc W (hT.at hW))) (toks_nil)) (args := [.agg #[.int .u8 4, (symV 0), (symV 1)]]) (v := .agg #[.int .u8 4, (symV 0), (symV 1)]) (by kernel_rfl) rfl rfl
theorem v0_num   (w : World) (hT : Tb w) : Calls Tryz.prog 100 #[.agg #[.int .u8 0, .int .i64 0, .string ⟨#[]⟩]] w fun e w' => e = .returned (.agg #[.int .u8 1, .int .i64 0, .string ⟨#[]⟩]) ∧ Below w.heap.size w w' :=
  va_call (facts := []) (tab := []) (σ := symOf []) (symOf_one rfl) hT (foks_nil) (toks_nil) (args := [.agg #[.int .u8 0, .int .i64 0, .string ⟨#[]⟩]]) (v := .agg #[.int .u8 1, .int .i64 0, .string ⟨#[]⟩]) (by kernel_rfl) rfl rfl
theorem v0_bool   (w : World) (hT : Tb w) : Calls Tryz.prog 21 #[.agg #[.int .u8 0, .int .i64 0, .string ⟨#[]⟩]] w fun e w' => e = .returned (.agg #[.int .u8 2, .int .i64 0, .string ⟨#[]⟩]) ∧ Below w.heap.size w w' :=
  va_call (facts := []) (tab := []) (σ := symOf []) (symOf_one rfl) hT (foks_nil) (toks_nil) (args := [.agg #[.int .u8 0, .int .i64 0, .string ⟨#[]⟩]]) (v := .agg #[.int .u8 2, .int .i64 0, .string ⟨#[]⟩]) (by kernel_rfl) rfl rfl
theorem vt_num   (w : World) (hT : Tb w) : Calls Tryz.prog 100 #[.agg #[.int .u8 2, .int .i64 1, .string ⟨#[]⟩]] w fun e w' => e = .returned (.agg #[.int .u8 1, .int .i64 10000, .string ⟨#[]⟩]) ∧ Below w.heap.size w w' :=
  va_call (facts := []) (tab := []) (σ := symOf []) (symOf_one rfl) hT (foks_nil) (toks_nil) (args := [.agg #[.int .u8 2, .int .i64 1, .string ⟨#[]⟩]]) (v := .agg #[.int .u8 1, .int .i64 10000, .string ⟨#[]⟩]) (by kernel_rfl) rfl rfl
theorem vf_num   (w : World) (hT : Tb w) : Calls Tryz.prog 100 #[.agg #[.int .u8 2, .int .i64 0, .string ⟨#[]⟩]] w fun e w' => e = .returned (.agg #[.int .u8 1, .int .i64 0, .string ⟨#[]⟩]) ∧ Below w.heap.size w w' :=
  va_call (facts := []) (tab := []) (σ := symOf []) (symOf_one rfl) hT (foks_nil) (toks_nil) (args := [.agg #[.int .u8 2, .int .i64 0, .string ⟨#[]⟩]]) (v := .agg #[.int .u8 1, .int .i64 0, .string ⟨#[]⟩]) (by kernel_rfl) rfl rfl
theorem vn_bool_z (n : Int) (hc : ∀ W, Tb W → Calls Tryz.prog 49 #[.agg #[.int .u8 1, .int .i64 n, .string ⟨#[]⟩]] W fun e w' => e = .returned (.int .i64 0) ∧ Below W.heap.size W w') (hn : n = 0) (w : World) (hT : Tb w) : Calls Tryz.prog 21 #[.agg #[.int .u8 1, .int .i64 n, .string ⟨#[]⟩]] w fun e w' => e = .returned (.agg #[.int .u8 2, .int .i64 0, .string ⟨#[]⟩]) ∧ Below w.heap.size w w' :=
  va_call (facts := [⟨isBin .neq 2, [(symV 0), .int .i64 0], .bool false, false⟩]) (tab := [(49, [.agg #[.int .u8 1, (symV 0), .string ⟨#[]⟩]], .int .i64 0)]) (σ := symOf [.int .i64 n]) (symOf_one rfl) hT (foks_cons (fok_cmp rfl rfl rfl (by simp [cmpI, hn])) (foks_nil)) (toks_cons (tok rfl rfl rfl rfl (fun W hW => hc W (hT.at hW))) (toks_nil)) (args := [.agg #[.int .u8 1, (symV 0), .string ⟨#[]⟩]]) (v := .agg #[.int .u8 2, .int .i64 0, .string ⟨#[]⟩]) (by kernel_rfl) rfl rfl
theorem vn_bool_o (n : Int) (hc : ∀ W, Tb W → Calls Tryz.prog 49 #[.agg #[.int .u8 1, .int .i64 n, .string ⟨#[]⟩]] W fun e w' => e = .returned (.int .i64 0) ∧ Below W.heap.size W w') (hn : n ≠ 0) (w : World) (hT : Tb w) : Calls Tryz.prog 21 #[.agg #[.int .u8 1, .int .i64 n, .string ⟨#[]⟩]] w fun e w' => e = .returned (.agg #[.int .u8 2, .int .i64 1, .string ⟨#[]⟩]) ∧ Below w.heap.size w w' :=
  va_call (facts := [⟨isBin .neq 2, [(symV 0), .int .i64 0], .bool true, false⟩]) (tab := [(49, [.agg #[.int .u8 1, (symV 0), .string ⟨#[]⟩]], .int .i64 0)]) (σ := symOf [.int .i64 n]) (symOf_one rfl) hT (foks_cons (fok_cmp rfl rfl rfl (by simp [cmpI, hn])) (foks_nil)) (toks_cons (tok rfl rfl rfl rfl (fun W hW => hc W (hT.at hW))) (toks_nil)) (args := [.agg #[.int .u8 1, (symV 0), .string ⟨#[]⟩]]) (v := .agg #[.int .u8 2, .int .i64 1, .string ⟨#[]⟩]) (by kernel_rfl) rfl rfl
theorem vp_num0 (s ts : ByteArray) (pv : Int) (hc : ∀ W, Tb W → Calls Tryz.prog 49 #[.agg #[.int .u8 3, .int .i64 0, .string s]] W fun e w' => e = .returned (.int .i64 0) ∧ Below W.heap.size W w') (ht : ∀ W, Tb W → Calls Tryz.prog 171 #[.string s] W fun e w' => e = .returned (.string ts) ∧ Below W.heap.size W w') (hp : ∀ W, Tb W → Calls Tryz.prog 170 #[.string ts] W fun e w' => e = .returned (.tuple #[.int .i64 pv, .int .i64 0]) ∧ Below W.heap.size W w') (hb : -9223372036854775807 ≤ pv) (w : World) (hT : Tb w) : Calls Tryz.prog 100 #[.agg #[.int .u8 3, .int .i64 0, .string s]] w fun e w' => e = .returned (.agg #[.int .u8 1, .int .i64 pv, .string ⟨#[]⟩]) ∧ Below w.heap.size w w' :=
  va_call (facts := [⟨isBin .eql 2, [(symV 2), .int .i64 (-9223372036854775808)], .bool false, false⟩]) (tab := [(49, [.agg #[.int .u8 3, .int .i64 0, (symV 0)]], .int .i64 0), (171, [(symV 0)], (symV 1)), (170, [(symV 1)], .tuple #[(symV 2), .int .i64 0])]) (σ := symOf [.string s, .string ts, .int .i64 pv]) (symOf_one rfl) hT (foks_cons (fok_cmp rfl rfl rfl (by simp [cmpI]; omega)) (foks_nil)) (toks_cons (tok rfl rfl rfl rfl (fun W hW => hc W (hT.at hW))) (toks_cons (tok rfl rfl rfl rfl (fun W hW => ht W (hT.at hW))) (toks_cons (tok rfl rfl rfl rfl (fun W hW => hp W (hT.at hW))) (toks_nil)))) (args := [.agg #[.int .u8 3, .int .i64 0, (symV 0)]]) (v := .agg #[.int .u8 1, (symV 2), .string ⟨#[]⟩]) (by kernel_rfl) rfl rfl
theorem vp_num3 (s ts : ByteArray) (pv : Int) (hc : ∀ W, Tb W → Calls Tryz.prog 49 #[.agg #[.int .u8 3, .int .i64 0, .string s]] W fun e w' => e = .returned (.int .i64 0) ∧ Below W.heap.size W w') (ht : ∀ W, Tb W → Calls Tryz.prog 171 #[.string s] W fun e w' => e = .returned (.string ts) ∧ Below W.heap.size W w') (hp : ∀ W, Tb W → Calls Tryz.prog 170 #[.string ts] W fun e w' => e = .returned (.tuple #[.int .i64 pv, .int .i64 3]) ∧ Below W.heap.size W w') (w : World) (hT : Tb w) : Calls Tryz.prog 100 #[.agg #[.int .u8 3, .int .i64 0, .string s]] w fun e w' => e = .returned (.agg #[.int .u8 4, .int .i64 3, .string ⟨#[]⟩]) ∧ Below w.heap.size w w' :=
  va_call (facts := []) (tab := [(49, [.agg #[.int .u8 3, .int .i64 0, (symV 0)]], .int .i64 0), (171, [(symV 0)], (symV 1)), (170, [(symV 1)], .tuple #[(symV 2), .int .i64 3])]) (σ := symOf [.string s, .string ts, .int .i64 pv]) (symOf_one rfl) hT (foks_nil) (toks_cons (tok rfl rfl rfl rfl (fun W hW => hc W (hT.at hW))) (toks_cons (tok rfl rfl rfl rfl (fun W hW => ht W (hT.at hW))) (toks_cons (tok rfl rfl rfl rfl (fun W hW => hp W (hT.at hW))) (toks_nil)))) (args := [.agg #[.int .u8 3, .int .i64 0, (symV 0)]]) (v := .agg #[.int .u8 4, .int .i64 3, .string ⟨#[]⟩]) (by kernel_rfl) rfl rfl
theorem vp_num4 (s ts : ByteArray) (pv : Int) (hc : ∀ W, Tb W → Calls Tryz.prog 49 #[.agg #[.int .u8 3, .int .i64 0, .string s]] W fun e w' => e = .returned (.int .i64 0) ∧ Below W.heap.size W w') (ht : ∀ W, Tb W → Calls Tryz.prog 171 #[.string s] W fun e w' => e = .returned (.string ts) ∧ Below W.heap.size W w') (hp : ∀ W, Tb W → Calls Tryz.prog 170 #[.string ts] W fun e w' => e = .returned (.tuple #[.int .i64 pv, .int .i64 4]) ∧ Below W.heap.size W w') (w : World) (hT : Tb w) : Calls Tryz.prog 100 #[.agg #[.int .u8 3, .int .i64 0, .string s]] w fun e w' => e = .returned (.agg #[.int .u8 4, .int .i64 2, .string ⟨#[]⟩]) ∧ Below w.heap.size w w' :=
  va_call (facts := []) (tab := [(49, [.agg #[.int .u8 3, .int .i64 0, (symV 0)]], .int .i64 0), (171, [(symV 0)], (symV 1)), (170, [(symV 1)], .tuple #[(symV 2), .int .i64 4])]) (σ := symOf [.string s, .string ts, .int .i64 pv]) (symOf_one rfl) hT (foks_nil) (toks_cons (tok rfl rfl rfl rfl (fun W hW => hc W (hT.at hW))) (toks_cons (tok rfl rfl rfl rfl (fun W hW => ht W (hT.at hW))) (toks_cons (tok rfl rfl rfl rfl (fun W hW => hp W (hT.at hW))) (toks_nil)))) (args := [.agg #[.int .u8 3, .int .i64 0, (symV 0)]]) (v := .agg #[.int .u8 4, .int .i64 2, .string ⟨#[]⟩]) (by kernel_rfl) rfl rfl
theorem vp_bool_t (s : ByteArray) (hc : ∀ W, Tb W → Calls Tryz.prog 49 #[.agg #[.int .u8 3, .int .i64 0, .string s]] W fun e w' => e = .returned (.int .i64 0) ∧ Below W.heap.size W w') (hu : ∀ W, Tb W → Calls Tryz.prog 173 #[.string s] W fun e w' => e = .returned (.string ⟨#[84, 82, 85, 69]⟩) ∧ Below W.heap.size W w') (w : World) (hT : Tb w) : Calls Tryz.prog 21 #[.agg #[.int .u8 3, .int .i64 0, .string s]] w fun e w' => e = .returned (.agg #[.int .u8 2, .int .i64 1, .string ⟨#[]⟩]) ∧ Below w.heap.size w w' :=
  va_call (facts := []) (tab := [(49, [.agg #[.int .u8 3, .int .i64 0, (symV 0)]], .int .i64 0), (173, [(symV 0)], .string ⟨#[84, 82, 85, 69]⟩)]) (σ := symOf [.string s]) (symOf_one rfl) hT (foks_nil) (toks_cons (tok rfl rfl rfl rfl (fun W hW => hc W (hT.at hW))) (toks_cons (tok rfl rfl rfl rfl (fun W hW => hu W (hT.at hW))) (toks_nil))) (args := [.agg #[.int .u8 3, .int .i64 0, (symV 0)]]) (v := .agg #[.int .u8 2, .int .i64 1, .string ⟨#[]⟩]) (by kernel_rfl) rfl rfl
theorem vp_bool_f (s : ByteArray) (hc : ∀ W, Tb W → Calls Tryz.prog 49 #[.agg #[.int .u8 3, .int .i64 0, .string s]] W fun e w' => e = .returned (.int .i64 0) ∧ Below W.heap.size W w') (hu : ∀ W, Tb W → Calls Tryz.prog 173 #[.string s] W fun e w' => e = .returned (.string ⟨#[70, 65, 76, 83, 69]⟩) ∧ Below W.heap.size W w') (w : World) (hT : Tb w) : Calls Tryz.prog 21 #[.agg #[.int .u8 3, .int .i64 0, .string s]] w fun e w' => e = .returned (.agg #[.int .u8 2, .int .i64 0, .string ⟨#[]⟩]) ∧ Below w.heap.size w w' :=
  va_call (facts := []) (tab := [(49, [.agg #[.int .u8 3, .int .i64 0, (symV 0)]], .int .i64 0), (173, [(symV 0)], .string ⟨#[70, 65, 76, 83, 69]⟩)]) (σ := symOf [.string s]) (symOf_one rfl) hT (foks_nil) (toks_cons (tok rfl rfl rfl rfl (fun W hW => hc W (hT.at hW))) (toks_cons (tok rfl rfl rfl rfl (fun W hW => hu W (hT.at hW))) (toks_nil))) (args := [.agg #[.int .u8 3, .int .i64 0, (symV 0)]]) (v := .agg #[.int .u8 2, .int .i64 0, .string ⟨#[]⟩]) (by kernel_rfl) rfl rfl
theorem vp_bool_e (s us : ByteArray) (hc : ∀ W, Tb W → Calls Tryz.prog 49 #[.agg #[.int .u8 3, .int .i64 0, .string s]] W fun e w' => e = .returned (.int .i64 0) ∧ Below W.heap.size W w') (hu : ∀ W, Tb W → Calls Tryz.prog 173 #[.string s] W fun e w' => e = .returned (.string us) ∧ Below W.heap.size W w') (n1 : us ≠ ⟨#[84, 82, 85, 69]⟩) (n2 : us ≠ ⟨#[70, 65, 76, 83, 69]⟩) (w : World) (hT : Tb w) : Calls Tryz.prog 21 #[.agg #[.int .u8 3, .int .i64 0, .string s]] w fun e w' => e = .returned (.agg #[.int .u8 4, .int .i64 2, .string ⟨#[]⟩]) ∧ Below w.heap.size w w' :=
  va_call (facts := [⟨isBin .eql 9, [(symV 1), .string ⟨#[84, 82, 85, 69]⟩], .bool false, false⟩, ⟨isBin .eql 9, [(symV 1), .string ⟨#[70, 65, 76, 83, 69]⟩], .bool false, false⟩]) (tab := [(49, [.agg #[.int .u8 3, .int .i64 0, (symV 0)]], .int .i64 0), (173, [(symV 0)], (symV 1))]) (σ := symOf [.string s, .string us]) (symOf_one rfl) hT (foks_cons (fok_streq rfl rfl rfl (.inl ⟨rfl, by simpa using n1⟩)) (foks_cons (fok_streq rfl rfl rfl (.inl ⟨rfl, by simpa using n2⟩)) (foks_nil))) (toks_cons (tok rfl rfl rfl rfl (fun W hW => hc W (hT.at hW))) (toks_cons (tok rfl rfl rfl rfl (fun W hW => hu W (hT.at hW))) (toks_nil))) (args := [.agg #[.int .u8 3, .int .i64 0, (symV 0)]]) (v := .agg #[.int .u8 4, .int .i64 2, .string ⟨#[]⟩]) (by kernel_rfl) rfl rfl
theorem vto_num (k : Nat) (n : Int) (s : ByteArray) (hs : s.size ≤ 2000) (hi : InI n) (w : World) (hT : Tb w) : Calls Tryz.prog 100 #[.agg #[.int .u8 (k : Int), .int .i64 n, .string s]] w fun e w' => e = .returned (.agg #[.int .u8 ((cvR 1 k n s).1 : Int), .int .i64 (cvR 1 k n s).2.1, .string (cvR 1 k n s).2.2]) ∧ Below w.heap.size w w' := by
  have hck := fun W (_ : Tb W) => vcheck_any k n s (maxLen_of hs) hi.1 W
  by_cases h0 : vE k n s.data.toList = 0
  · rw [h0] at hck
    by_cases hk : k = 1 ∨ k = 4
    · rw [cv_same h0 hk]
      rcases hk with rfl | rfl
      · exact vs_num1 n s hck w hT
      · exact vs_num4 n s hck w hT
    have e : cvR 1 k n s = ((nbR k n s).1, (nbR k n s).2, ⟨#[]⟩) := by unfold cvR; rw [if_pos h0, if_neg hk, if_pos rfl]
    rw [e]
    rcases vld_sort h0 with ⟨rfl, rfl, rfl⟩ | ⟨rfl, _, rfl⟩ | ⟨rfl, g, rfl⟩ | ⟨rfl, rfl⟩ | ⟨rfl, _, _⟩
    · exact v0_num w hT
    · omega
    · rcases g with rfl | rfl
      · exact vf_num w hT
      · exact vt_num w hT
    · have ht := fun W (_ : Tb W) => trim_any s (by omega) W
      have htl : (str (trim s.data.toList)).size ≤ 2000 := by rw [str_size]; have := trim_le s.data.toList; have : s.data.toList.length = s.size := data_len s; omega
      have hp := fun W (_ : Tb W) => Tx.parse_any (str (trim s.data.toList)) htl W
      have hd : (str (trim s.data.toList)).data.toList = trim s.data.toList := by unfold str; rfl
      rw [hd] at hp
      have hpe : Tx.parE (trim s.data.toList) = 0 ∨ Tx.parE (trim s.data.toList) = 3 ∨ Tx.parE (trim s.data.toList) = 4 := by
        unfold Tx.parE
        split
        · exact .inr (.inr rfl)
        · split
          · exact .inl rfl
          · exact .inr (.inl rfl)
      rcases hpe with he | he | he
      · rw [he] at hp
        have hb := Tx.par_bd he
        have e2 : nbR 3 0 s = (1, Tx.parV (trim s.data.toList)) := by
          unfold nbR mkK mkN
          rw [if_pos rfl, if_pos he, if_neg (by unfold Tx.mostI at hb; unfold leastI; omega), if_neg (by unfold Tx.mostI at hb; unfold leastI; omega)]
        rw [e2]
        exact vp_num0 s _ _ hck ht hp (by unfold Tx.mostI at hb; omega) w hT
      · rw [he] at hp
        have e2 : nbR 3 0 s = (4, 3) := by unfold nbR; rw [if_pos rfl, if_neg (by omega), if_pos he]
        rw [e2]
        exact vp_num3 s _ _ hck ht hp w hT
      · rw [he] at hp
        have e2 : nbR 3 0 s = (4, 2) := by unfold nbR; rw [if_pos rfl, if_neg (by omega), if_neg (by omega)]
        rw [e2]
        exact vp_num4 s _ _ hck ht hp w hT
    · omega
  · rw [vE_two _ _ _ h0] at hck
    have e : cvR 1 k n s = (4, 2, ⟨#[]⟩) := by unfold cvR; rw [if_neg h0]
    rw [e]
    exact vb_num k n s hck w hT
theorem vto_bool (k : Nat) (n : Int) (s : ByteArray) (hs : s.size ≤ 2000) (hi : InI n) (w : World) (hT : Tb w) : Calls Tryz.prog 21 #[.agg #[.int .u8 (k : Int), .int .i64 n, .string s]] w fun e w' => e = .returned (.agg #[.int .u8 ((cvR 2 k n s).1 : Int), .int .i64 (cvR 2 k n s).2.1, .string (cvR 2 k n s).2.2]) ∧ Below w.heap.size w w' := by
  have hck := fun W (_ : Tb W) => vcheck_any k n s (maxLen_of hs) hi.1 W
  by_cases h0 : vE k n s.data.toList = 0
  · rw [h0] at hck
    by_cases hk : k = 2 ∨ k = 4
    · rw [cv_same h0 hk]
      rcases hk with rfl | rfl
      · exact vs_bool2 n s hck w hT
      · exact vs_bool4 n s hck w hT
    have e : cvR 2 k n s = ((trR k n s).1, (trR k n s).2, ⟨#[]⟩) := by unfold cvR; rw [if_pos h0, if_neg hk, if_neg (by omega), if_pos rfl]
    rw [e]
    rcases vld_sort h0 with ⟨rfl, rfl, rfl⟩ | ⟨rfl, _, rfl⟩ | ⟨rfl, g, rfl⟩ | ⟨rfl, rfl⟩ | ⟨rfl, _, _⟩
    · exact v0_bool w hT
    · by_cases hn : n = 0
      · have e2 : trR 1 n ⟨#[]⟩ = (2, 0) := by unfold trR; rw [if_neg (by omega), if_pos hn]
        rw [e2]
        exact vn_bool_z n hck hn w hT
      · have e2 : trR 1 n ⟨#[]⟩ = (2, 1) := by unfold trR; rw [if_neg (by omega), if_neg hn]
        rw [e2]
        exact vn_bool_o n hck hn w hT
    · omega
    · have hu := fun W (_ : Tb W) => upper_any s (maxLen_of hs) W
      by_cases h1 : upS s = ⟨#[84, 82, 85, 69]⟩
      · have e2 : trR 3 0 s = (2, 1) := by unfold trR; rw [if_pos rfl, if_pos h1]
        rw [e2]
        rw [h1] at hu
        exact vp_bool_t s hck hu w hT
      · by_cases h2 : upS s = ⟨#[70, 65, 76, 83, 69]⟩
        · have e2 : trR 3 0 s = (2, 0) := by unfold trR; rw [if_pos rfl, if_neg h1, if_pos h2]
          rw [e2]
          rw [h2] at hu
          exact vp_bool_f s hck hu w hT
        · have e2 : trR 3 0 s = (4, 2) := by unfold trR; rw [if_pos rfl, if_neg h1, if_neg h2]
          rw [e2]
          exact vp_bool_e s _ hck hu h1 h2 w hT
    · omega
  · rw [vE_two _ _ _ h0] at hck
    have e : cvR 2 k n s = (4, 2, ⟨#[]⟩) := by unfold cvR; rw [if_neg h0]
    rw [e]
    exact vb_bool k n s hck w hT
end Go.Proofs.YtdhahiodnmmkeaaGreatDoor.Va
