/- The law TreeFunctions. -/
import Derived.Test.YtmfjedgegoiadaaDoorTreF
import Derived.Test.YtmfjedgegoiadaaDoorTreG
import Derived.Test.YtmfjedgegoiadaaDoorTreH
namespace Go.Proofs.YtmfjedgegoiadaaDoor.Tr
open Go Go.RowKit Sx
set_option linter.unusedVariables false
theorem c_far (fn : Nat) (h51 : 51 ≤ fn) (hff : fn < 256) (s : ByteArray) (b : Nat) (h i : Int) (hf : ∀ w, Tb w → Calls Tryd.prog 8 #[.string s] w fun e w' => e = .returned (.tuple #[.int .u8 (b : Int), .int .i64 h]) ∧ Below w.heap.size w w') (hr : ∀ w, Tb w → Calls Tryd.prog 9 #[.string s] w fun e w' => e = .returned (.tuple #[.int .u8 (b : Int), .int .i64 h]) ∧ Below w.heap.size w w') (w : World) (hT : Tb w) : Calls Tryd.prog 3 #[.int .u8 (fn : Int), .int .i64 i, .string s] w fun e w' => e = .returned (.bool true) ∧ Below w.heap.size w w' :=
  va_call (facts := [⟨isBin .neq 5, [(symV 1), (symV 1)], .bool false, false⟩, ⟨isBin .neq 22, [(symV 2), (symV 2)], .bool false, false⟩, ⟨isBin .eql 5, [(symV 4), .int .u8 0], .bool false, false⟩, ⟨isBin .gtr 5, [(symV 4), .int .u8 50], .bool true, false⟩, ⟨isConv 5 3, [(symV 4)], (symV 5), false⟩, ⟨isBin .geq 3, [(symV 5), .int .i64 51], .bool true, false⟩]) (tab := [(11, [], .bool true), (8, [(symV 0)], .tuple #[(symV 1), (symV 2)]), (9, [(symV 0)], .tuple #[(symV 1), (symV 2)])]) (σ := symOf [.string s, .int .u8 (b : Int), .int .i64 h, .int .i64 i, .int .u8 (fn : Int), .int .i64 (fn : Int)]) (symOf_one rfl) hT (foks_cons (fok_cmp rfl rfl rfl (by simp [cmpI])) (foks_cons (fok_cmp rfl rfl rfl (by simp [cmpI])) (foks_cons (fok_cmp rfl rfl rfl (by simp [cmpI]; omega)) (foks_cons (fok_cmp rfl rfl rfl (by simp [cmpI]; omega)) (foks_cons (fok_conv_int (by kernel_rfl) (by kernel_rfl) rfl rfl rfl rfl (by first | (exact IntWalk.i64_in _ (by omega)) | (rw [IntKind.wrap_i64]; omega) | (show IntKind.wrap _ _ = _; rw [IntKind.wrap_i64]; omega))) (foks_cons (fok_cmp rfl rfl rfl (by simp [cmpI]; omega)) (foks_nil))))))) (toks_cons (tok rfl rfl rfl rfl (fun W hW => awake08 W (hT.at hW))) (toks_cons (tok rfl rfl rfl rfl (fun W hW => hf W (hT.at hW))) (toks_cons (tok rfl rfl rfl rfl (fun W hW => hr W (hT.at hW))) (toks_nil)))) (args := [(symV 4), (symV 3), (symV 0)]) (v := .bool true) (by kernel_rfl) rfl rfl
theorem treeFunctions_law (x i : Int) (s : ByteArray) (w : World) (h : (Lit.int .u8 x).wf = true) (hl : laidMetH Tryd.prog Rows.treeFunctionsRow.laid w) : Calls Tryd.prog 3 #[.int .u8 x, .int .i64 i, .string s] w fun e w' => e = .returned (.bool true) ∧ Below w.heap.size w w' := by
  have hT : Tb w := tb_of (MakeChecks.laidMetH_plain _ _ _ (by kernel_rfl)) hl
  rw [Lit.wf_int_iff] at h
  simp [IntKind.min, IntKind.max, IntKind.signed, IntKind.bits] at h
  obtain ⟨k, rfl⟩ := Int.eq_ofNat_of_zero_le h.1
  obtain ⟨b, h', hf, hr⟩ := func_any s
  by_cases hk : 51 ≤ k
  · exact c_far k hk (by omega) s b h' i hf hr w hT
  · obtain rfl | rfl | rfl | rfl | rfl | rfl | rfl | rfl | rfl | rfl | rfl | rfl | rfl | rfl | rfl | rfl | rfl | rfl | rfl | rfl | rfl | rfl | rfl | rfl | rfl | rfl | rfl | rfl | rfl | rfl | rfl | rfl | rfl | rfl | rfl | rfl | rfl | rfl | rfl | rfl | rfl | rfl | rfl | rfl | rfl | rfl | rfl | rfl | rfl | rfl | rfl := (by omega : k = 0 ∨ k = 1 ∨ k = 2 ∨ k = 3 ∨ k = 4 ∨ k = 5 ∨ k = 6 ∨ k = 7 ∨ k = 8 ∨ k = 9 ∨ k = 10 ∨ k = 11 ∨ k = 12 ∨ k = 13 ∨ k = 14 ∨ k = 15 ∨ k = 16 ∨ k = 17 ∨ k = 18 ∨ k = 19 ∨ k = 20 ∨ k = 21 ∨ k = 22 ∨ k = 23 ∨ k = 24 ∨ k = 25 ∨ k = 26 ∨ k = 27 ∨ k = 28 ∨ k = 29 ∨ k = 30 ∨ k = 31 ∨ k = 32 ∨ k = 33 ∨ k = 34 ∨ k = 35 ∨ k = 36 ∨ k = 37 ∨ k = 38 ∨ k = 39 ∨ k = 40 ∨ k = 41 ∨ k = 42 ∨ k = 43 ∨ k = 44 ∨ k = 45 ∨ k = 46 ∨ k = 47 ∨ k = 48 ∨ k = 49 ∨ k = 50)
    · exact c0 s b h' i hf hr w hT
    · by_cases h1 : i < 0
      · exact c1_a s b h' i hf hr h1 w hT
      by_cases h2 : 1 ≤ i
      · exact c1_b s b h' i hf hr h2 w hT
      by_cases h3 : i = 0
      · subst h3; exact c1_0 s b h' 0 hf hr w hT
      omega
    · by_cases h1 : i < 0
      · exact c2_a s b h' i hf hr h1 w hT
      by_cases h2 : 1 ≤ i
      · exact c2_b s b h' i hf hr h2 w hT
      by_cases h3 : i = 0
      · subst h3; exact c2_0 s b h' 0 hf hr w hT
      omega
    · by_cases h1 : i < 0
      · exact c3_a s b h' i hf hr h1 w hT
      by_cases h2 : 1 ≤ i
      · exact c3_b s b h' i hf hr h2 w hT
      by_cases h3 : i = 0
      · subst h3; exact c3_0 s b h' 0 hf hr w hT
      omega
    · by_cases h1 : i < 0
      · exact c4_a s b h' i hf hr h1 w hT
      by_cases h2 : 1 ≤ i
      · exact c4_b s b h' i hf hr h2 w hT
      by_cases h3 : i = 0
      · subst h3; exact c4_0 s b h' 0 hf hr w hT
      omega
    · by_cases h1 : i < 0
      · exact c5_a s b h' i hf hr h1 w hT
      by_cases h2 : 2 ≤ i
      · exact c5_b s b h' i hf hr h2 w hT
      by_cases h3 : i = 0
      · subst h3; exact c5_0 s b h' 0 hf hr w hT
      by_cases h4 : i = 1
      · subst h4; exact c5_1 s b h' 1 hf hr w hT
      omega
    · by_cases h1 : i < 0
      · exact c6_a s b h' i hf hr h1 w hT
      by_cases h2 : 2 ≤ i
      · exact c6_b s b h' i hf hr h2 w hT
      by_cases h3 : i = 0
      · subst h3; exact c6_0 s b h' 0 hf hr w hT
      by_cases h4 : i = 1
      · subst h4; exact c6_1 s b h' 1 hf hr w hT
      omega
    · by_cases h1 : i < 0
      · exact c7_a s b h' i hf hr h1 w hT
      by_cases h2 : 2 ≤ i
      · exact c7_b s b h' i hf hr h2 w hT
      by_cases h3 : i = 0
      · subst h3; exact c7_0 s b h' 0 hf hr w hT
      by_cases h4 : i = 1
      · subst h4; exact c7_1 s b h' 1 hf hr w hT
      omega
    · by_cases h1 : i < 0
      · exact c8_a s b h' i hf hr h1 w hT
      by_cases h2 : 1 ≤ i
      · exact c8_b s b h' i hf hr h2 w hT
      by_cases h3 : i = 0
      · subst h3; exact c8_0 s b h' 0 hf hr w hT
      omega
    · by_cases h1 : i < 0
      · exact c9_a s b h' i hf hr h1 w hT
      by_cases h2 : 16 ≤ i
      · exact c9_b s b h' i hf hr h2 w hT
      by_cases h3 : i = 0
      · subst h3; exact c9_0 s b h' 0 hf hr w hT
      by_cases h4 : i = 1
      · subst h4; exact c9_1 s b h' 1 hf hr w hT
      exact c9_d s b h' i hf hr (by omega) (by omega) w hT
    · by_cases h1 : i < 0
      · exact c10_a s b h' i hf hr h1 w hT
      by_cases h2 : 16 ≤ i
      · exact c10_b s b h' i hf hr h2 w hT
      by_cases h3 : i = 0
      · subst h3; exact c10_0 s b h' 0 hf hr w hT
      by_cases h4 : i = 1
      · subst h4; exact c10_1 s b h' 1 hf hr w hT
      exact c10_d s b h' i hf hr (by omega) (by omega) w hT
    · by_cases h1 : i < 0
      · exact c11_a s b h' i hf hr h1 w hT
      by_cases h2 : 16 ≤ i
      · exact c11_b s b h' i hf hr h2 w hT
      by_cases h3 : i = 0
      · subst h3; exact c11_0 s b h' 0 hf hr w hT
      by_cases h4 : i = 1
      · subst h4; exact c11_1 s b h' 1 hf hr w hT
      exact c11_d s b h' i hf hr (by omega) (by omega) w hT
    · by_cases h1 : i < 0
      · exact c12_a s b h' i hf hr h1 w hT
      by_cases h2 : 16 ≤ i
      · exact c12_b s b h' i hf hr h2 w hT
      by_cases h3 : i = 0
      · subst h3; exact c12_0 s b h' 0 hf hr w hT
      by_cases h4 : i = 1
      · subst h4; exact c12_1 s b h' 1 hf hr w hT
      exact c12_d s b h' i hf hr (by omega) (by omega) w hT
    · by_cases h1 : i < 0
      · exact c13_a s b h' i hf hr h1 w hT
      by_cases h2 : 1 ≤ i
      · exact c13_b s b h' i hf hr h2 w hT
      by_cases h3 : i = 0
      · subst h3; exact c13_0 s b h' 0 hf hr w hT
      omega
    · by_cases h1 : i < 0
      · exact c14_a s b h' i hf hr h1 w hT
      by_cases h2 : 16 ≤ i
      · exact c14_b s b h' i hf hr h2 w hT
      by_cases h3 : i = 0
      · subst h3; exact c14_0 s b h' 0 hf hr w hT
      by_cases h4 : i = 1
      · subst h4; exact c14_1 s b h' 1 hf hr w hT
      exact c14_d s b h' i hf hr (by omega) (by omega) w hT
    · by_cases h1 : i < 0
      · exact c15_a s b h' i hf hr h1 w hT
      by_cases h2 : 16 ≤ i
      · exact c15_b s b h' i hf hr h2 w hT
      by_cases h3 : i = 0
      · subst h3; exact c15_0 s b h' 0 hf hr w hT
      by_cases h4 : i = 1
      · subst h4; exact c15_1 s b h' 1 hf hr w hT
      exact c15_d s b h' i hf hr (by omega) (by omega) w hT
    · by_cases h1 : i < 0
      · exact c16_a s b h' i hf hr h1 w hT
      by_cases h2 : 16 ≤ i
      · exact c16_b s b h' i hf hr h2 w hT
      by_cases h3 : i = 0
      · subst h3; exact c16_0 s b h' 0 hf hr w hT
      by_cases h4 : i = 1
      · subst h4; exact c16_1 s b h' 1 hf hr w hT
      exact c16_d s b h' i hf hr (by omega) (by omega) w hT
    · by_cases h1 : i < 0
      · exact c17_a s b h' i hf hr h1 w hT
      by_cases h2 : 16 ≤ i
      · exact c17_b s b h' i hf hr h2 w hT
      by_cases h3 : i = 0
      · subst h3; exact c17_0 s b h' 0 hf hr w hT
      by_cases h4 : i = 1
      · subst h4; exact c17_1 s b h' 1 hf hr w hT
      exact c17_d s b h' i hf hr (by omega) (by omega) w hT
    · by_cases h1 : i < 0
      · exact c18_a s b h' i hf hr h1 w hT
      by_cases h2 : 2 ≤ i
      · exact c18_b s b h' i hf hr h2 w hT
      by_cases h3 : i = 0
      · subst h3; exact c18_0 s b h' 0 hf hr w hT
      by_cases h4 : i = 1
      · subst h4; exact c18_1 s b h' 1 hf hr w hT
      omega
    · by_cases h1 : i < 0
      · exact c19_a s b h' i hf hr h1 w hT
      by_cases h2 : 2 ≤ i
      · exact c19_b s b h' i hf hr h2 w hT
      by_cases h3 : i = 0
      · subst h3; exact c19_0 s b h' 0 hf hr w hT
      by_cases h4 : i = 1
      · subst h4; exact c19_1 s b h' 1 hf hr w hT
      omega
    · by_cases h1 : i < 0
      · exact c20_a s b h' i hf hr h1 w hT
      by_cases h2 : 3 ≤ i
      · exact c20_b s b h' i hf hr h2 w hT
      by_cases h3 : i = 0
      · subst h3; exact c20_0 s b h' 0 hf hr w hT
      by_cases h4 : i = 1
      · subst h4; exact c20_1 s b h' 1 hf hr w hT
      exact c20_d s b h' i hf hr (by omega) (by omega) w hT
    · by_cases h1 : i < 0
      · exact c21_a s b h' i hf hr h1 w hT
      by_cases h2 : 16 ≤ i
      · exact c21_b s b h' i hf hr h2 w hT
      by_cases h3 : i = 0
      · subst h3; exact c21_0 s b h' 0 hf hr w hT
      by_cases h4 : i = 1
      · subst h4; exact c21_1 s b h' 1 hf hr w hT
      exact c21_d s b h' i hf hr (by omega) (by omega) w hT
    · by_cases h1 : i < 0
      · exact c22_a s b h' i hf hr h1 w hT
      by_cases h2 : 16 ≤ i
      · exact c22_b s b h' i hf hr h2 w hT
      by_cases h3 : i = 0
      · subst h3; exact c22_0 s b h' 0 hf hr w hT
      by_cases h4 : i = 1
      · subst h4; exact c22_1 s b h' 1 hf hr w hT
      exact c22_d s b h' i hf hr (by omega) (by omega) w hT
    · by_cases h1 : i < 0
      · exact c23_a s b h' i hf hr h1 w hT
      by_cases h2 : 16 ≤ i
      · exact c23_b s b h' i hf hr h2 w hT
      by_cases h3 : i = 0
      · subst h3; exact c23_0 s b h' 0 hf hr w hT
      by_cases h4 : i = 1
      · subst h4; exact c23_1 s b h' 1 hf hr w hT
      exact c23_d s b h' i hf hr (by omega) (by omega) w hT
    · by_cases h1 : i < 0
      · exact c24_a s b h' i hf hr h1 w hT
      by_cases h2 : 1 ≤ i
      · exact c24_b s b h' i hf hr h2 w hT
      by_cases h3 : i = 0
      · subst h3; exact c24_0 s b h' 0 hf hr w hT
      omega
    · by_cases h1 : i < 0
      · exact c25_a s b h' i hf hr h1 w hT
      by_cases h2 : 2 ≤ i
      · exact c25_b s b h' i hf hr h2 w hT
      by_cases h3 : i = 0
      · subst h3; exact c25_0 s b h' 0 hf hr w hT
      by_cases h4 : i = 1
      · subst h4; exact c25_1 s b h' 1 hf hr w hT
      omega
    · by_cases h1 : i < 0
      · exact c26_a s b h' i hf hr h1 w hT
      by_cases h2 : 1 ≤ i
      · exact c26_b s b h' i hf hr h2 w hT
      by_cases h3 : i = 0
      · subst h3; exact c26_0 s b h' 0 hf hr w hT
      omega
    · by_cases h1 : i < 0
      · exact c27_a s b h' i hf hr h1 w hT
      by_cases h2 : 1 ≤ i
      · exact c27_b s b h' i hf hr h2 w hT
      by_cases h3 : i = 0
      · subst h3; exact c27_0 s b h' 0 hf hr w hT
      omega
    · by_cases h1 : i < 0
      · exact c28_a s b h' i hf hr h1 w hT
      by_cases h2 : 1 ≤ i
      · exact c28_b s b h' i hf hr h2 w hT
      by_cases h3 : i = 0
      · subst h3; exact c28_0 s b h' 0 hf hr w hT
      omega
    · by_cases h1 : i < 0
      · exact c29_a s b h' i hf hr h1 w hT
      by_cases h2 : 1 ≤ i
      · exact c29_b s b h' i hf hr h2 w hT
      by_cases h3 : i = 0
      · subst h3; exact c29_0 s b h' 0 hf hr w hT
      omega
    · by_cases h1 : i < 0
      · exact c30_a s b h' i hf hr h1 w hT
      by_cases h2 : 16 ≤ i
      · exact c30_b s b h' i hf hr h2 w hT
      by_cases h3 : i = 0
      · subst h3; exact c30_0 s b h' 0 hf hr w hT
      by_cases h4 : i = 1
      · subst h4; exact c30_1 s b h' 1 hf hr w hT
      exact c30_d s b h' i hf hr (by omega) (by omega) w hT
    · by_cases h1 : i < 0
      · exact c31_a s b h' i hf hr h1 w hT
      by_cases h2 : 1 ≤ i
      · exact c31_b s b h' i hf hr h2 w hT
      by_cases h3 : i = 0
      · subst h3; exact c31_0 s b h' 0 hf hr w hT
      omega
    · by_cases h1 : i < 0
      · exact c32_a s b h' i hf hr h1 w hT
      by_cases h2 : 2 ≤ i
      · exact c32_b s b h' i hf hr h2 w hT
      by_cases h3 : i = 0
      · subst h3; exact c32_0 s b h' 0 hf hr w hT
      by_cases h4 : i = 1
      · subst h4; exact c32_1 s b h' 1 hf hr w hT
      omega
    · by_cases h1 : i < 0
      · exact c33_a s b h' i hf hr h1 w hT
      by_cases h2 : 2 ≤ i
      · exact c33_b s b h' i hf hr h2 w hT
      by_cases h3 : i = 0
      · subst h3; exact c33_0 s b h' 0 hf hr w hT
      by_cases h4 : i = 1
      · subst h4; exact c33_1 s b h' 1 hf hr w hT
      omega
    · by_cases h1 : i < 0
      · exact c34_a s b h' i hf hr h1 w hT
      by_cases h2 : 3 ≤ i
      · exact c34_b s b h' i hf hr h2 w hT
      by_cases h3 : i = 0
      · subst h3; exact c34_0 s b h' 0 hf hr w hT
      by_cases h4 : i = 1
      · subst h4; exact c34_1 s b h' 1 hf hr w hT
      exact c34_d s b h' i hf hr (by omega) (by omega) w hT
    · by_cases h1 : i < 0
      · exact c35_a s b h' i hf hr h1 w hT
      by_cases h2 : 1 ≤ i
      · exact c35_b s b h' i hf hr h2 w hT
      by_cases h3 : i = 0
      · subst h3; exact c35_0 s b h' 0 hf hr w hT
      omega
    · by_cases h1 : i < 0
      · exact c36_a s b h' i hf hr h1 w hT
      by_cases h2 : 1 ≤ i
      · exact c36_b s b h' i hf hr h2 w hT
      by_cases h3 : i = 0
      · subst h3; exact c36_0 s b h' 0 hf hr w hT
      omega
    · by_cases h1 : i < 0
      · exact c37_a s b h' i hf hr h1 w hT
      by_cases h2 : 1 ≤ i
      · exact c37_b s b h' i hf hr h2 w hT
      by_cases h3 : i = 0
      · subst h3; exact c37_0 s b h' 0 hf hr w hT
      omega
    · by_cases h1 : i < 0
      · exact c38_a s b h' i hf hr h1 w hT
      by_cases h2 : 16 ≤ i
      · exact c38_b s b h' i hf hr h2 w hT
      by_cases h3 : i = 0
      · subst h3; exact c38_0 s b h' 0 hf hr w hT
      by_cases h4 : i = 1
      · subst h4; exact c38_1 s b h' 1 hf hr w hT
      exact c38_d s b h' i hf hr (by omega) (by omega) w hT
    · by_cases h1 : i < 0
      · exact c39_a s b h' i hf hr h1 w hT
      by_cases h2 : 2 ≤ i
      · exact c39_b s b h' i hf hr h2 w hT
      by_cases h3 : i = 0
      · subst h3; exact c39_0 s b h' 0 hf hr w hT
      by_cases h4 : i = 1
      · subst h4; exact c39_1 s b h' 1 hf hr w hT
      omega
    · by_cases h1 : i < 0
      · exact c40_a s b h' i hf hr h1 w hT
      by_cases h2 : 2 ≤ i
      · exact c40_b s b h' i hf hr h2 w hT
      by_cases h3 : i = 0
      · subst h3; exact c40_0 s b h' 0 hf hr w hT
      by_cases h4 : i = 1
      · subst h4; exact c40_1 s b h' 1 hf hr w hT
      omega
    · by_cases h1 : i < 0
      · exact c41_a s b h' i hf hr h1 w hT
      by_cases h2 : 3 ≤ i
      · exact c41_b s b h' i hf hr h2 w hT
      by_cases h3 : i = 0
      · subst h3; exact c41_0 s b h' 0 hf hr w hT
      by_cases h4 : i = 1
      · subst h4; exact c41_1 s b h' 1 hf hr w hT
      exact c41_d s b h' i hf hr (by omega) (by omega) w hT
    · by_cases h1 : i < 0
      · exact c42_a s b h' i hf hr h1 w hT
      by_cases h2 : 1 ≤ i
      · exact c42_b s b h' i hf hr h2 w hT
      by_cases h3 : i = 0
      · subst h3; exact c42_0 s b h' 0 hf hr w hT
      omega
    · by_cases h1 : i < 0
      · exact c43_a s b h' i hf hr h1 w hT
      by_cases h2 : 3 ≤ i
      · exact c43_b s b h' i hf hr h2 w hT
      by_cases h3 : i = 0
      · subst h3; exact c43_0 s b h' 0 hf hr w hT
      by_cases h4 : i = 1
      · subst h4; exact c43_1 s b h' 1 hf hr w hT
      exact c43_d s b h' i hf hr (by omega) (by omega) w hT
    · by_cases h1 : i < 0
      · exact c44_a s b h' i hf hr h1 w hT
      by_cases h2 : 2 ≤ i
      · exact c44_b s b h' i hf hr h2 w hT
      by_cases h3 : i = 0
      · subst h3; exact c44_0 s b h' 0 hf hr w hT
      by_cases h4 : i = 1
      · subst h4; exact c44_1 s b h' 1 hf hr w hT
      omega
    · by_cases h1 : i < 0
      · exact c45_a s b h' i hf hr h1 w hT
      by_cases h2 : 2 ≤ i
      · exact c45_b s b h' i hf hr h2 w hT
      by_cases h3 : i = 0
      · subst h3; exact c45_0 s b h' 0 hf hr w hT
      by_cases h4 : i = 1
      · subst h4; exact c45_1 s b h' 1 hf hr w hT
      omega
    · by_cases h1 : i < 0
      · exact c46_a s b h' i hf hr h1 w hT
      by_cases h2 : 1 ≤ i
      · exact c46_b s b h' i hf hr h2 w hT
      by_cases h3 : i = 0
      · subst h3; exact c46_0 s b h' 0 hf hr w hT
      omega
    · by_cases h1 : i < 0
      · exact c47_a s b h' i hf hr h1 w hT
      by_cases h2 : 1 ≤ i
      · exact c47_b s b h' i hf hr h2 w hT
      by_cases h3 : i = 0
      · subst h3; exact c47_0 s b h' 0 hf hr w hT
      omega
    · by_cases h1 : i < 0
      · exact c48_a s b h' i hf hr h1 w hT
      by_cases h2 : 1 ≤ i
      · exact c48_b s b h' i hf hr h2 w hT
      by_cases h3 : i = 0
      · subst h3; exact c48_0 s b h' 0 hf hr w hT
      omega
    · by_cases h1 : i < 0
      · exact c49_a s b h' i hf hr h1 w hT
      by_cases h2 : 1 ≤ i
      · exact c49_b s b h' i hf hr h2 w hT
      by_cases h3 : i = 0
      · subst h3; exact c49_0 s b h' 0 hf hr w hT
      omega
    · by_cases h1 : i < 0
      · exact c50_a s b h' i hf hr h1 w hT
      by_cases h2 : 1 ≤ i
      · exact c50_b s b h' i hf hr h2 w hT
      by_cases h3 : i = 0
      · subst h3; exact c50_0 s b h' 0 hf hr w hT
      omega
end Go.Proofs.YtmfjedgegoiadaaDoor.Tr
