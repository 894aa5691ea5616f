/- Good by contracts, the awake of the layer, equality. -/
import Derived.Test.YtnjcginmilpggaaGreatDoorValZn
import Derived.Test.YtnjcginmilpggaaGreatDoorCameV
import Derived.Test.YtnjcginmilpggaaGreatDoorValR
import Derived.Test.YtnjcginmilpggaaGreatDoorValO
import Derived.Test.YtnjcginmilpggaaGreatDoorDecRnd
import Derived.DataShut
namespace Go.Proofs.YtnjcginmilpggaaGreatDoor.Va
open Go Go.RowKit GM Sx
set_option linter.unusedVariables false
/-- Equality of two values of cells. -/
theorem eqv_run (op : BinOp) (u v : Operand) (k n : Int) (s : ByteArray) (k' n' : Int) (s' : ByteArray) (W : World) :
    (op = .eql → (do eqGuard op 25 u v (.agg #[.int .u8 k, .int .i64 n, .string s]) (.agg #[.int .u8 k', .int .i64 n', .string s']); binOp op 25 (.agg #[.int .u8 k, .int .i64 n, .string s]) (.agg #[.int .u8 k', .int .i64 n', .string s']) : Sem Value).run Tryz.prog W = .ok (.bool (decide (k = k' ∧ n = n' ∧ s = s'))) W) ∧
    (op = .neq → (do eqGuard op 25 u v (.agg #[.int .u8 k, .int .i64 n, .string s]) (.agg #[.int .u8 k', .int .i64 n', .string s']); binOp op 25 (.agg #[.int .u8 k, .int .i64 n, .string s]) (.agg #[.int .u8 k', .int .i64 n', .string s']) : Sem Value).run Tryz.prog W = .ok (.bool (!decide (k = k' ∧ n = n' ∧ s = s'))) W) := by
  have e : (s.toList == s'.toList) = decide (s = s') := by
    rw [ByteArray.toList_eq, ByteArray.toList_eq, beq_dec]
    exact decide_eq_decide.2 ⟨fun h => ByteArray.ext (Array.toList_inj.1 h), fun h => by rw [h]⟩
  have d1 : (k == k') = decide (k = k') := beq_dec _ _
  have d2 : (n == n') = decide (n = n') := beq_dec _ _
  by_cases h1 : k = k'
  · by_cases h2 : n = n'
    · by_cases h3 : s = s'
      · subst h1 h2 h3
        constructor <;> (rintro rfl; go_simp)
      · have e3 : (s.toList == s'.toList) = false := by rw [e]; exact decide_eq_false h3
        subst h1 h2
        constructor <;> (rintro rfl; go_simp)
    · have e2 : (n == n') = false := by rw [d2]; exact decide_eq_false h2
      subst h1
      constructor <;> (rintro rfl; go_simp)
  · have e1 : (k == k') = false := by rw [d1]; exact decide_eq_false h1
    constructor <;> (rintro rfl; go_simp)
theorem pureB {f : FuncId} {a : Array Value} {v : Value} (h : ∀ W : World, Calls Tryz.prog f a W fun e w' => e = .returned v ∧ W = w') : ∀ W, Tb W → Calls Tryz.prog f a W fun e w' => e = .returned v ∧ Below W.heap.size W w' :=
  fun W _ => (h W).mono fun e w' ⟨a, b⟩ => ⟨a, b ▸ Below.refl _ _⟩
theorem drewB {f : FuncId} {a : Array Value} {v : Value} (h : ∀ W : World, Calls Tryz.prog f a W fun e w' => e = .returned v ∧ ∃ k, w' = W.drewN k) : ∀ W, Tb W → Calls Tryz.prog f a W fun e w' => e = .returned v ∧ Below W.heap.size W w' :=
  fun W _ => (h W).mono fun e w' ⟨a, k, b⟩ => ⟨a, b ▸ ⟨rfl, rfl, rfl, Nat.le_refl _, fun _ _ => rfl⟩⟩
theorem resB_in {z : Int} (h : resB z = true) : resV z = z ∧ -9223372036854775808 < z ∧ z < 9223372036854775808 := by
  have : -9223372036854775808 < z ∧ z < 9223372036854775808 := of_decide_eq_true h
  exact ⟨by unfold resV; rw [if_pos this], this⟩
/-- The cut text. -/
theorem cut_len (s : ByteArray) : ∃ m : Nat, (m : Int) = (if (300 : Int) < (s.size : Int) then 300 else (s.size : Int)) ∧ m ≤ s.size ∧ m ≤ 300 := by
  by_cases h : 300 < s.size
  · exact ⟨300, by rw [if_pos (by omega)]; rfl, by omega, by omega⟩
  · exact ⟨s.size, by rw [if_neg (by omega)], by omega, by omega⟩
theorem cut_size {s : ByteArray} {m : Nat} (h : m ≤ s.size) : (s.extract 0 m).size = m := by
  rw [ByteArray.size_extract]; omega
theorem empty_of {s : ByteArray} (h : s.data.toList = []) : s = ⟨#[]⟩ := ByteArray.ext (Array.toList_inj.1 h)
/-- A converted number has no text. -/
theorem cv1_num {k : Nat} {n : Int} {s : ByteArray} (h1 : (cvR 1 k n s).1 = 1) : (cvR 1 k n s).2.2 = ⟨#[]⟩ := by
  have h := (cv1_ok k n s).1
  have hv : vldV (cvR 1 k n s).1 (cvR 1 k n s).2.1 (cvR 1 k n s).2.2.data.toList = true := by
    unfold vE at h
    split at h
    · assumption
    · omega
  exact empty_of (vld_text hv (by omega))
theorem tmod_rng (a : Int) {b : Int} (h : 0 < b) : -b < a.tmod b ∧ a.tmod b < b := by
  refine ⟨?_, Int.tmod_lt_of_pos a h⟩
  by_cases ha : 0 ≤ a
  · have := Int.tmod_nonneg b ha
    omega
  · have h1 := Int.tmod_lt_of_pos (-a) h
    rw [Int.neg_tmod] at h1
    omega
theorem good_ok (k : Nat) (n : Int) (s : ByteArray) (m : Nat) (hm : (m : Int) = if (300 : Int) < (s.size : Int) then 300 else (s.size : Int)) (hms : m ≤ s.size) (hc : ∀ W, Tb W → Calls Tryz.prog 29 #[.agg #[.int .u8 (k : Int), .int .i64 n, .string (s.extract 0 m)]] W fun e w' => e = .returned (.int .i64 0) ∧ Below W.heap.size W w') (w : World) (hT : Tb w) : Calls Tryz.prog 12 #[.agg #[.int .u8 (k : Int), .int .i64 n, .string s]] w fun e w' => e = .returned (.agg #[.int .u8 (k : Int), .int .i64 n, .string (s.extract 0 m)]) ∧ Below w.heap.size w w' :=
  va_call (facts := [⟨isLen 9, [(symV 2)], (symV 3), false⟩, ⟨isMin2, [(symV 3), .int .i64 300], (symV 4), false⟩, ⟨isSliceH 9, [(symV 2), (symV 4)], (symV 5), false⟩]) (tab := [(29, [.agg #[(symV 0), (symV 1), (symV 5)]], .int .i64 0)]) (σ := symOf [.int .u8 (k : Int), .int .i64 n, .string s, .int .i64 (s.size : Int), .int .i64 (m : Int), .string (s.extract 0 m)]) (symOf_one rfl) hT (foks_cons (fok_strlen (by kernel_rfl) rfl rfl rfl rfl) (foks_cons (fok_min rfl rfl (by rw [hm]; rfl) rfl rfl) (foks_cons (fok_sliceH (by kernel_rfl) rfl rfl (rfl) rfl rfl (hms)) (foks_nil)))) (toks_cons (tok rfl rfl rfl rfl (fun W hW => hc W (hT.at hW))) (toks_nil)) (args := [.agg #[(symV 0), (symV 1), (symV 2)]]) (v := .agg #[(symV 0), (symV 1), (symV 5)]) (by kernel_rfl) rfl rfl
theorem good_0 (k : Nat) (n : Int) (s : ByteArray) (m : Nat) (hm : (m : Int) = if (300 : Int) < (s.size : Int) then 300 else (s.size : Int)) (hms : m ≤ s.size) (hc : ∀ W, Tb W → Calls Tryz.prog 29 #[.agg #[.int .u8 (k : Int), .int .i64 n, .string (s.extract 0 m)]] W fun e w' => e = .returned (.int .i64 2) ∧ Below W.heap.size W w') (hj : k % 5 = 0) (w : World) (hT : Tb w) : Calls Tryz.prog 12 #[.agg #[.int .u8 (k : Int), .int .i64 n, .string s]] w fun e w' => e = .returned (.agg #[.int .u8 0, .int .i64 0, .string ⟨#[]⟩]) ∧ Below w.heap.size w w' :=
  va_call (facts := [⟨isLen 9, [(symV 2)], (symV 3), false⟩, ⟨isMin2, [(symV 3), .int .i64 300], (symV 4), false⟩, ⟨isSliceH 9, [(symV 2), (symV 4)], (symV 5), false⟩, ⟨isBin .rem 5, [(symV 0), .int .u8 5], .int .u8 0, false⟩]) (tab := [(29, [.agg #[(symV 0), (symV 1), (symV 5)]], .int .i64 2)]) (σ := symOf [.int .u8 (k : Int), .int .i64 n, .string s, .int .i64 (s.size : Int), .int .i64 (m : Int), .string (s.extract 0 m)]) (symOf_one rfl) hT (foks_cons (fok_strlen (by kernel_rfl) rfl rfl rfl rfl) (foks_cons (fok_min rfl rfl (by rw [hm]; rfl) rfl rfl) (foks_cons (fok_sliceH (by kernel_rfl) rfl rfl (rfl) rfl rfl (hms)) (foks_cons (fok_div rfl rfl rfl rfl rfl (by decide) (.inl ⟨rfl, by have : (k : Int).tmod 5 = ((k % 5 : Nat) : Int) := rfl; rw [this, hj]; rfl⟩)) (foks_nil))))) (toks_cons (tok rfl rfl rfl rfl (fun W hW => hc W (hT.at hW))) (toks_nil)) (args := [.agg #[(symV 0), (symV 1), (symV 2)]]) (v := .agg #[.int .u8 0, .int .i64 0, .string ⟨#[]⟩]) (by kernel_rfl) rfl rfl
theorem good_3 (k : Nat) (n : Int) (s : ByteArray) (m : Nat) (hm : (m : Int) = if (300 : Int) < (s.size : Int) then 300 else (s.size : Int)) (hms : m ≤ s.size) (hc : ∀ W, Tb W → Calls Tryz.prog 29 #[.agg #[.int .u8 (k : Int), .int .i64 n, .string (s.extract 0 m)]] W fun e w' => e = .returned (.int .i64 2) ∧ Below W.heap.size W w') (hj : k % 5 = 3) (w : World) (hT : Tb w) : Calls Tryz.prog 12 #[.agg #[.int .u8 (k : Int), .int .i64 n, .string s]] w fun e w' => e = .returned (.agg #[.int .u8 3, .int .i64 0, .string ⟨#[120]⟩]) ∧ Below w.heap.size w w' :=
  va_call (facts := [⟨isLen 9, [(symV 2)], (symV 3), false⟩, ⟨isMin2, [(symV 3), .int .i64 300], (symV 4), false⟩, ⟨isSliceH 9, [(symV 2), (symV 4)], (symV 5), false⟩, ⟨isBin .rem 5, [(symV 0), .int .u8 5], .int .u8 3, false⟩]) (tab := [(29, [.agg #[(symV 0), (symV 1), (symV 5)]], .int .i64 2)]) (σ := symOf [.int .u8 (k : Int), .int .i64 n, .string s, .int .i64 (s.size : Int), .int .i64 (m : Int), .string (s.extract 0 m)]) (symOf_one rfl) hT (foks_cons (fok_strlen (by kernel_rfl) rfl rfl rfl rfl) (foks_cons (fok_min rfl rfl (by rw [hm]; rfl) rfl rfl) (foks_cons (fok_sliceH (by kernel_rfl) rfl rfl (rfl) rfl rfl (hms)) (foks_cons (fok_div rfl rfl rfl rfl rfl (by decide) (.inl ⟨rfl, by have : (k : Int).tmod 5 = ((k % 5 : Nat) : Int) := rfl; rw [this, hj]; rfl⟩)) (foks_nil))))) (toks_cons (tok rfl rfl rfl rfl (fun W hW => hc W (hT.at hW))) (toks_nil)) (args := [.agg #[(symV 0), (symV 1), (symV 2)]]) (v := .agg #[.int .u8 3, .int .i64 0, .string ⟨#[120]⟩]) (by kernel_rfl) rfl rfl
theorem good_2z (k : Nat) (n : Int) (s : ByteArray) (m : Nat) (hm : (m : Int) = if (300 : Int) < (s.size : Int) then 300 else (s.size : Int)) (hms : m ≤ s.size) (hc : ∀ W, Tb W → Calls Tryz.prog 29 #[.agg #[.int .u8 (k : Int), .int .i64 n, .string (s.extract 0 m)]] W fun e w' => e = .returned (.int .i64 2) ∧ Below W.heap.size W w') (hj : k % 5 = 2) (hr : n.tmod 2 = 0) (w : World) (hT : Tb w) : Calls Tryz.prog 12 #[.agg #[.int .u8 (k : Int), .int .i64 n, .string s]] w fun e w' => e = .returned (.agg #[.int .u8 2, .int .i64 0, .string ⟨#[]⟩]) ∧ Below w.heap.size w w' :=
  va_call (facts := [⟨isLen 9, [(symV 2)], (symV 3), false⟩, ⟨isMin2, [(symV 3), .int .i64 300], (symV 4), false⟩, ⟨isSliceH 9, [(symV 2), (symV 4)], (symV 5), false⟩, ⟨isBin .rem 5, [(symV 0), .int .u8 5], .int .u8 2, false⟩, ⟨isBin .rem 2, [(symV 1), .int .i64 2], (symV 6), false⟩, ⟨isBin .neq 2, [(symV 6), .int .i64 0], .bool false, false⟩]) (tab := [(29, [.agg #[(symV 0), (symV 1), (symV 5)]], .int .i64 2)]) (σ := symOf [.int .u8 (k : Int), .int .i64 n, .string s, .int .i64 (s.size : Int), .int .i64 (m : Int), .string (s.extract 0 m), .int .i64 (n.tmod 2)]) (symOf_one rfl) hT (foks_cons (fok_strlen (by kernel_rfl) rfl rfl rfl rfl) (foks_cons (fok_min rfl rfl (by rw [hm]; rfl) rfl rfl) (foks_cons (fok_sliceH (by kernel_rfl) rfl rfl (rfl) rfl rfl (hms)) (foks_cons (fok_div rfl rfl rfl rfl rfl (by decide) (.inl ⟨rfl, by have : (k : Int).tmod 5 = ((k % 5 : Nat) : Int) := rfl; rw [this, hj]; rfl⟩)) (foks_cons (fok_div rfl rfl rfl rfl rfl (by decide) (.inl ⟨rfl, rfl⟩)) (foks_cons (fok_cmp rfl rfl rfl (by simp [cmpI, hr])) (foks_nil))))))) (toks_cons (tok rfl rfl rfl rfl (fun W hW => hc W (hT.at hW))) (toks_nil)) (args := [.agg #[(symV 0), (symV 1), (symV 2)]]) (v := .agg #[.int .u8 2, .int .i64 0, .string ⟨#[]⟩]) (by kernel_rfl) rfl rfl
theorem good_2o (k : Nat) (n : Int) (s : ByteArray) (m : Nat) (hm : (m : Int) = if (300 : Int) < (s.size : Int) then 300 else (s.size : Int)) (hms : m ≤ s.size) (hc : ∀ W, Tb W → Calls Tryz.prog 29 #[.agg #[.int .u8 (k : Int), .int .i64 n, .string (s.extract 0 m)]] W fun e w' => e = .returned (.int .i64 2) ∧ Below W.heap.size W w') (hj : k % 5 = 2) (hr : n.tmod 2 ≠ 0) (w : World) (hT : Tb w) : Calls Tryz.prog 12 #[.agg #[.int .u8 (k : Int), .int .i64 n, .string s]] w fun e w' => e = .returned (.agg #[.int .u8 2, .int .i64 1, .string ⟨#[]⟩]) ∧ Below w.heap.size w w' :=
  va_call (facts := [⟨isLen 9, [(symV 2)], (symV 3), false⟩, ⟨isMin2, [(symV 3), .int .i64 300], (symV 4), false⟩, ⟨isSliceH 9, [(symV 2), (symV 4)], (symV 5), false⟩, ⟨isBin .rem 5, [(symV 0), .int .u8 5], .int .u8 2, false⟩, ⟨isBin .rem 2, [(symV 1), .int .i64 2], (symV 6), false⟩, ⟨isBin .neq 2, [(symV 6), .int .i64 0], .bool true, false⟩]) (tab := [(29, [.agg #[(symV 0), (symV 1), (symV 5)]], .int .i64 2)]) (σ := symOf [.int .u8 (k : Int), .int .i64 n, .string s, .int .i64 (s.size : Int), .int .i64 (m : Int), .string (s.extract 0 m), .int .i64 (n.tmod 2)]) (symOf_one rfl) hT (foks_cons (fok_strlen (by kernel_rfl) rfl rfl rfl rfl) (foks_cons (fok_min rfl rfl (by rw [hm]; rfl) rfl rfl) (foks_cons (fok_sliceH (by kernel_rfl) rfl rfl (rfl) rfl rfl (hms)) (foks_cons (fok_div rfl rfl rfl rfl rfl (by decide) (.inl ⟨rfl, by have : (k : Int).tmod 5 = ((k % 5 : Nat) : Int) := rfl; rw [this, hj]; rfl⟩)) (foks_cons (fok_div rfl rfl rfl rfl rfl (by decide) (.inl ⟨rfl, rfl⟩)) (foks_cons (fok_cmp rfl rfl rfl (by simp [cmpI, hr])) (foks_nil))))))) (toks_cons (tok rfl rfl rfl rfl (fun W hW => hc W (hT.at hW))) (toks_nil)) (args := [.agg #[(symV 0), (symV 1), (symV 2)]]) (v := .agg #[.int .u8 2, .int .i64 1, .string ⟨#[]⟩]) (by kernel_rfl) rfl rfl
theorem good_1 (k : Nat) (n : Int) (s : ByteArray) (m : Nat) (X : Int) (hm : (m : Int) = if (300 : Int) < (s.size : Int) then 300 else (s.size : Int)) (hms : m ≤ s.size) (hc : ∀ W, Tb W → Calls Tryz.prog 29 #[.agg #[.int .u8 (k : Int), .int .i64 n, .string (s.extract 0 m)]] W fun e w' => e = .returned (.int .i64 2) ∧ Below W.heap.size W w') (hj : k % 5 = 1) (hX : X = if (-9223372036854775807 : Int) > n then -9223372036854775807 else n) (bX : -9223372036854775807 ≤ X) (w : World) (hT : Tb w) : Calls Tryz.prog 12 #[.agg #[.int .u8 (k : Int), .int .i64 n, .string s]] w fun e w' => e = .returned (.agg #[.int .u8 1, .int .i64 X, .string ⟨#[]⟩]) ∧ Below w.heap.size w w' :=
  va_call (facts := [⟨isLen 9, [(symV 2)], (symV 3), false⟩, ⟨isMin2, [(symV 3), .int .i64 300], (symV 4), false⟩, ⟨isSliceH 9, [(symV 2), (symV 4)], (symV 5), false⟩, ⟨isBin .rem 5, [(symV 0), .int .u8 5], .int .u8 1, false⟩, ⟨isMax2, [(symV 1), .int .i64 (-9223372036854775807)], (symV 6), false⟩, ⟨isBin .lss 2, [(symV 6), .int .i64 (-9223372036854775807)], .bool false, false⟩]) (tab := [(29, [.agg #[(symV 0), (symV 1), (symV 5)]], .int .i64 2)]) (σ := symOf [.int .u8 (k : Int), .int .i64 n, .string s, .int .i64 (s.size : Int), .int .i64 (m : Int), .string (s.extract 0 m), .int .i64 X]) (symOf_one rfl) hT (foks_cons (fok_strlen (by kernel_rfl) rfl rfl rfl rfl) (foks_cons (fok_min rfl rfl (by rw [hm]; rfl) rfl rfl) (foks_cons (fok_sliceH (by kernel_rfl) rfl rfl (rfl) rfl rfl (hms)) (foks_cons (fok_div rfl rfl rfl rfl rfl (by decide) (.inl ⟨rfl, by have : (k : Int).tmod 5 = ((k % 5 : Nat) : Int) := rfl; rw [this, hj]; rfl⟩)) (foks_cons (fok_max rfl rfl (by rw [hX]; rfl) rfl rfl) (foks_cons (fok_cmp rfl rfl rfl (by simp [cmpI]; omega)) (foks_nil))))))) (toks_cons (tok rfl rfl rfl rfl (fun W hW => hc W (hT.at hW))) (toks_nil)) (args := [.agg #[(symV 0), (symV 1), (symV 2)]]) (v := .agg #[.int .u8 1, (symV 6), .string ⟨#[]⟩]) (by kernel_rfl) rfl rfl
theorem good_4 (k : Nat) (n : Int) (s : ByteArray) (m : Nat) (hm : (m : Int) = if (300 : Int) < (s.size : Int) then 300 else (s.size : Int)) (hms : m ≤ s.size) (hc : ∀ W, Tb W → Calls Tryz.prog 29 #[.agg #[.int .u8 (k : Int), .int .i64 n, .string (s.extract 0 m)]] W fun e w' => e = .returned (.int .i64 2) ∧ Below W.heap.size W w') (hj : k % 5 = 4) (h5 : -5 < n.tmod 5 ∧ n.tmod 5 < 5) (h6 : 0 ≤ (n.tmod 5 + 5).tmod 5 ∧ (n.tmod 5 + 5).tmod 5 < 5) (w : World) (hT : Tb w) : Calls Tryz.prog 12 #[.agg #[.int .u8 (k : Int), .int .i64 n, .string s]] w fun e w' => e = .returned (.agg #[.int .u8 4, .int .i64 (1 + (n.tmod 5 + 5).tmod 5), .string ⟨#[]⟩]) ∧ Below w.heap.size w w' :=
  va_call (facts := [⟨isLen 9, [(symV 2)], (symV 3), false⟩, ⟨isMin2, [(symV 3), .int .i64 300], (symV 4), false⟩, ⟨isSliceH 9, [(symV 2), (symV 4)], (symV 5), false⟩, ⟨isBin .rem 5, [(symV 0), .int .u8 5], .int .u8 4, false⟩, ⟨isBin .rem 2, [(symV 1), .int .i64 5], (symV 6), false⟩, ⟨isBin .add 2, [(symV 6), .int .i64 5], (symV 7), false⟩, ⟨isBin .rem 2, [(symV 7), .int .i64 5], (symV 8), false⟩, ⟨isBin .add 2, [.int .i64 1, (symV 8)], (symV 9), false⟩, ⟨isBin .lss 2, [(symV 9), .int .i64 1], .bool false, false⟩, ⟨isBin .gtr 2, [(symV 9), .int .i64 7], .bool false, false⟩]) (tab := [(29, [.agg #[(symV 0), (symV 1), (symV 5)]], .int .i64 2)]) (σ := symOf [.int .u8 (k : Int), .int .i64 n, .string s, .int .i64 (s.size : Int), .int .i64 (m : Int), .string (s.extract 0 m), .int .i64 (n.tmod 5), .int .i64 (n.tmod 5 + 5), .int .i64 ((n.tmod 5 + 5).tmod 5), .int .i64 (1 + (n.tmod 5 + 5).tmod 5)]) (symOf_one rfl) hT (foks_cons (fok_strlen (by kernel_rfl) rfl rfl rfl rfl) (foks_cons (fok_min rfl rfl (by rw [hm]; rfl) rfl rfl) (foks_cons (fok_sliceH (by kernel_rfl) rfl rfl (rfl) rfl rfl (hms)) (foks_cons (fok_div rfl rfl rfl rfl rfl (by decide) (.inl ⟨rfl, by have : (k : Int).tmod 5 = ((k % 5 : Nat) : Int) := rfl; rw [this, hj]; rfl⟩)) (foks_cons (fok_div rfl rfl rfl rfl rfl (by decide) (.inl ⟨rfl, rfl⟩)) (foks_cons (fok_arith rfl rfl rfl rfl rfl (.inl ⟨rfl, wrap64 (by omega) (by omega)⟩)) (foks_cons (fok_div rfl rfl rfl rfl rfl (by decide) (.inl ⟨rfl, rfl⟩)) (foks_cons (fok_arith rfl rfl rfl rfl rfl (.inl ⟨rfl, wrap64 (by omega) (by omega)⟩)) (foks_cons (fok_cmp rfl rfl rfl (by simp [cmpI]; omega)) (foks_cons (fok_cmp rfl rfl rfl (by simp [cmpI]; omega)) (foks_nil))))))))))) (toks_cons (tok rfl rfl rfl rfl (fun W hW => hc W (hT.at hW))) (toks_nil)) (args := [.agg #[(symV 0), (symV 1), (symV 2)]]) (v := .agg #[.int .u8 4, (symV 9), .string ⟨#[]⟩]) (by kernel_rfl) rfl rfl
/-- Good returns the value of a cell. -/
theorem good_any (a : VV) : ∃ (k : Nat) (n : Int) (s : ByteArray), (∀ W, Tb W → Calls Tryz.prog 12 #[.agg (cells3 a).toArray] W fun e w' => e = .returned (.agg #[.int .u8 (k : Int), .int .i64 n, .string s]) ∧ Below W.heap.size W w') ∧ vE k n s.data.toList = 0 ∧ s.size ≤ 300 ∧ InI n := by
  have hi : InI a.num := ⟨a.lo, a.hi⟩
  obtain ⟨m, hm, hms, h300⟩ := cut_len a.txt
  have hsz : (a.txt.extract 0 m).size ≤ 300 := by rw [cut_size hms]; omega
  have hc := fun W (_ : Tb W) => rvcheck_any a.kd a.num (a.txt.extract 0 m) (maxLen_of (by omega)) hi.1 W
  by_cases h0 : vE a.kd a.num (a.txt.extract 0 m).data.toList = 0
  · rw [h0] at hc
    exact ⟨_, _, _, fun W h => good_ok a.kd a.num a.txt m hm hms hc W h, h0, hsz, hi⟩
  · rw [vE_two _ _ _ h0] at hc
    have hj : a.kd % 5 = 0 ∨ a.kd % 5 = 1 ∨ a.kd % 5 = 2 ∨ a.kd % 5 = 3 ∨ a.kd % 5 = 4 := by omega
    rcases hj with hj | hj | hj | hj | hj
    · exact ⟨0, 0, ⟨#[]⟩, fun W h => good_0 a.kd a.num a.txt m hm hms hc hj W h, by decide, by decide, by unfold InI; omega⟩
    · obtain ⟨X, hX⟩ : ∃ X : Int, X = if (-9223372036854775807 : Int) > a.num then -9223372036854775807 else a.num := ⟨_, rfl⟩
      have bX : -9223372036854775807 ≤ X ∧ X ≤ 9223372036854775807 := by
        unfold InI at hi
        rw [hX]; split <;> omega
      exact ⟨1, X, ⟨#[]⟩, fun W h => good_1 a.kd a.num a.txt m X hm hms hc hj hX bX.1 W h, vE_num (by unfold leastI; omega), by decide, by unfold InI; omega⟩
    · by_cases hr : a.num.tmod 2 = 0
      · exact ⟨2, 0, ⟨#[]⟩, fun W h => good_2z a.kd a.num a.txt m hm hms hc hj hr W h, by decide, by decide, by unfold InI; omega⟩
      · exact ⟨2, 1, ⟨#[]⟩, fun W h => good_2o a.kd a.num a.txt m hm hms hc hj hr W h, by decide, by decide, by unfold InI; omega⟩
    · exact ⟨3, 0, ⟨#[120]⟩, fun W h => good_3 a.kd a.num a.txt m hm hms hc hj W h, by decide, by decide, by unfold InI; omega⟩
    · have h5 := tmod_rng a.num (show (0 : Int) < 5 by decide)
      have h6 : 0 ≤ (a.num.tmod 5 + 5).tmod 5 ∧ (a.num.tmod 5 + 5).tmod 5 < 5 := ⟨Int.tmod_nonneg 5 (by omega), Int.tmod_lt_of_pos _ (by decide)⟩
      exact ⟨4, _, ⟨#[]⟩, fun W h => good_4 a.kd a.num a.txt m hm hms hc hj h5 h6 W h, vE_err (by omega), by decide, by unfold InI; omega⟩
theorem awake15 (w : World) (h : Tb w) : Calls Tryz.prog 11 #[] w fun e w' => e = .returned (.bool true) ∧ Below w.heap.size w w' :=
  va_call (facts := []) (tab := []) (σ := symOf []) (symOf_one rfl) h foks_nil toks_nil (args := []) (v := .bool true) (by kernel_rfl) rfl rfl
theorem eqv_b {k n : Int} {s : ByteArray} {k' n' : Int} {s' : ByteArray} {b : Bool} (h : decide (k = k' ∧ n = n' ∧ s = s') = b) (u v : Operand) (W : World) :
    (do eqGuard .eql 25 u v (.agg #[.int .u8 k, .int .i64 n, .string s]) (.agg #[.int .u8 k', .int .i64 n', .string s']); binOp .eql 25 (.agg #[.int .u8 k, .int .i64 n, .string s]) (.agg #[.int .u8 k', .int .i64 n', .string s']) : Sem Value).run Tryz.prog W = .ok (.bool b) W :=
  ((eqv_run .eql u v k n s k' n' s' W).1 rfl).trans (by rw [h])
theorem eqv_n {k n : Int} {s : ByteArray} {k' n' : Int} {s' : ByteArray} {b : Bool} (h : decide (k = k' ∧ n = n' ∧ s = s') = !b) (u v : Operand) (W : World) :
    (do eqGuard .neq 25 u v (.agg #[.int .u8 k, .int .i64 n, .string s]) (.agg #[.int .u8 k', .int .i64 n', .string s']); binOp .neq 25 (.agg #[.int .u8 k, .int .i64 n, .string s]) (.agg #[.int .u8 k', .int .i64 n', .string s']) : Sem Value).run Tryz.prog W = .ok (.bool b) W :=
  ((eqv_run .neq u v k n s k' n' s' W).2 rfl).trans (by rw [h, Bool.not_not])
abbrev Rt (f : FuncId) (a : Array Value) (v : Value) : Prop := ∀ W, Tb W → Calls Tryz.prog f a W fun e w' => e = .returned v ∧ Below W.heap.size W w'
abbrev Vg (k n : Int) (s : ByteArray) : Value := .agg #[.int .u8 k, .int .i64 n, .string s]
abbrev y (i : Nat) : Value := symV i
abbrev Yes (w : World) : Ending → World → Prop := fun e w' => e = .returned (.bool true) ∧ Below w.heap.size w w'
theorem up {w : World} (hT : Tb w) {f : FuncId} {a : Array Value} {v : Value} (h : Rt f a v) : ∀ W : World, (∀ n ∈ nmNeed, n < w.heap.size → W.heap[n]? = w.heap[n]?) → Calls Tryz.prog f a W fun e w' => e = .returned v ∧ Below W.heap.size W w' := fun W hW => h W (hT.at hW)
theorem foks_app {σ : Nat → Value} {wd : World → Prop} {l1 l2 : List OFact} (h1 : ∀ F ∈ l1, FOk Tryz.prog σ wd F) (h2 : ∀ F ∈ l2, FOk Tryz.prog σ wd F) : ∀ F ∈ l1 ++ l2, FOk Tryz.prog σ wd F := fun F hF => by
  rcases List.mem_append.1 hF with h | h
  · exact h1 F h
  · exact h2 F h
theorem toks_app {σ : Nat → Value} {wd : World → Prop} {l1 l2 : List (FuncId × List Value × Value)} (h1 : ∀ F ∈ l1, TOk Tryz.prog σ wd F) (h2 : ∀ F ∈ l2, TOk Tryz.prog σ wd F) : ∀ F ∈ l1 ++ l2, TOk Tryz.prog σ wd F := fun F hF => by
  rcases List.mem_append.1 hF with h | h
  · exact h1 F h
  · exact h2 F h
/-- What a run starts with: the three values, and what Good makes of them. -/
structure Dt where
  x0 : Nat
  y0 : Int
  z0 : ByteArray
  x1 : Nat
  y1 : Int
  z1 : ByteArray
  x2 : Nat
  y2 : Int
  z2 : ByteArray
  kc : Nat
  nc : Int
  sc : ByteArray
  ka : Nat
  na : Int
  sa : ByteArray
  kb : Nat
  nb : Int
  sb : ByteArray
/-- Good and Check. -/
structure Gs (d : Dt) : Prop where
  gc : Rt 12 #[Vg (d.x0 : Int) d.y0 d.z0] (Vg (d.kc : Int) d.nc d.sc)
  vc : Rt 14 #[Vg (d.kc : Int) d.nc d.sc] (.int .i64 0)
  ga : Rt 12 #[Vg (d.x1 : Int) d.y1 d.z1] (Vg (d.ka : Int) d.na d.sa)
  va : Rt 14 #[Vg (d.ka : Int) d.na d.sa] (.int .i64 0)
  gb : Rt 12 #[Vg (d.x2 : Int) d.y2 d.z2] (Vg (d.kb : Int) d.nb d.sb)
  vb : Rt 14 #[Vg (d.kb : Int) d.nb d.sb] (.int .i64 0)
abbrev SB (d : Dt) (l : List Value) : List Value := [.int .u8 (d.x0 : Int), .int .i64 d.y0, .string d.z0, .int .u8 (d.x1 : Int), .int .i64 d.y1, .string d.z1, .int .u8 (d.x2 : Int), .int .i64 d.y2, .string d.z2, .int .u8 (d.kc : Int), .int .i64 d.nc, .string d.sc, .int .u8 (d.ka : Int), .int .i64 d.na, .string d.sa, .int .u8 (d.kb : Int), .int .i64 d.nb, .string d.sb] ++ l
noncomputable abbrev FB : List OFact := [⟨isBin .neq 25, [.agg #[(y 9), (y 10), (y 11)], .agg #[(y 9), (y 10), (y 11)]], .bool false, false⟩, ⟨isBin .eql 25, [.agg #[(y 9), (y 10), (y 11)], .agg #[(y 9), (y 10), (y 11)]], .bool true, false⟩, ⟨isBin .neq 25, [.agg #[(y 12), (y 13), (y 14)], .agg #[(y 12), (y 13), (y 14)]], .bool false, false⟩, ⟨isBin .eql 25, [.agg #[(y 12), (y 13), (y 14)], .agg #[(y 12), (y 13), (y 14)]], .bool true, false⟩, ⟨isBin .neq 25, [.agg #[(y 15), (y 16), (y 17)], .agg #[(y 15), (y 16), (y 17)]], .bool false, false⟩, ⟨isBin .eql 25, [.agg #[(y 15), (y 16), (y 17)], .agg #[(y 15), (y 16), (y 17)]], .bool true, false⟩]
abbrev TB : List (FuncId × List Value × Value) := [(11, [], .bool true), (12, [.agg #[(y 0), (y 1), (y 2)]], .agg #[(y 9), (y 10), (y 11)]), (14, [.agg #[(y 9), (y 10), (y 11)]], .int .i64 0), (12, [.agg #[(y 3), (y 4), (y 5)]], .agg #[(y 12), (y 13), (y 14)]), (14, [.agg #[(y 12), (y 13), (y 14)]], .int .i64 0), (12, [.agg #[(y 6), (y 7), (y 8)]], .agg #[(y 15), (y 16), (y 17)]), (14, [.agg #[(y 15), (y 16), (y 17)]], .int .i64 0)]
theorem fb_ok (d : Dt) (l : List Value) (wd : World → Prop) : ∀ F ∈ FB, FOk Tryz.prog (symOf (SB d l)) wd F :=
  foks_cons (fok_bin (a := .agg #[(.int .u8 (d.kc : Int)), (.int .i64 d.nc), (.string d.sc)]) (b := .agg #[(.int .u8 (d.kc : Int)), (.int .i64 d.nc), (.string d.sc)]) (c := .bool false) rfl rfl rfl rfl rfl (fun u v W => eqv_n (by simp) u v W)) (foks_cons (fok_bin (a := .agg #[(.int .u8 (d.kc : Int)), (.int .i64 d.nc), (.string d.sc)]) (b := .agg #[(.int .u8 (d.kc : Int)), (.int .i64 d.nc), (.string d.sc)]) (c := .bool true) rfl rfl rfl rfl rfl (fun u v W => eqv_b (by simp) u v W)) (foks_cons (fok_bin (a := .agg #[(.int .u8 (d.ka : Int)), (.int .i64 d.na), (.string d.sa)]) (b := .agg #[(.int .u8 (d.ka : Int)), (.int .i64 d.na), (.string d.sa)]) (c := .bool false) rfl rfl rfl rfl rfl (fun u v W => eqv_n (by simp) u v W)) (foks_cons (fok_bin (a := .agg #[(.int .u8 (d.ka : Int)), (.int .i64 d.na), (.string d.sa)]) (b := .agg #[(.int .u8 (d.ka : Int)), (.int .i64 d.na), (.string d.sa)]) (c := .bool true) rfl rfl rfl rfl rfl (fun u v W => eqv_b (by simp) u v W)) (foks_cons (fok_bin (a := .agg #[(.int .u8 (d.kb : Int)), (.int .i64 d.nb), (.string d.sb)]) (b := .agg #[(.int .u8 (d.kb : Int)), (.int .i64 d.nb), (.string d.sb)]) (c := .bool false) rfl rfl rfl rfl rfl (fun u v W => eqv_n (by simp) u v W)) (foks_cons (fok_bin (a := .agg #[(.int .u8 (d.kb : Int)), (.int .i64 d.nb), (.string d.sb)]) (b := .agg #[(.int .u8 (d.kb : Int)), (.int .i64 d.nb), (.string d.sb)]) (c := .bool true) rfl rfl rfl rfl rfl (fun u v W => eqv_b (by simp) u v W)) (foks_nil))))))
theorem tb_ok {d : Dt} (G : Gs d) (l : List Value) {w : World} (hT : Tb w) : ∀ F ∈ TB, TOk Tryz.prog (symOf (SB d l)) (fun W => ∀ n ∈ nmNeed, n < w.heap.size → W.heap[n]? = w.heap[n]?) F :=
  toks_cons (tok rfl rfl rfl rfl (up hT awake15)) (toks_cons (tok rfl rfl rfl rfl (up hT G.gc)) (toks_cons (tok rfl rfl rfl rfl (up hT G.vc)) (toks_cons (tok rfl rfl rfl rfl (up hT G.ga)) (toks_cons (tok rfl rfl rfl rfl (up hT G.va)) (toks_cons (tok rfl rfl rfl rfl (up hT G.gb)) (toks_cons (tok rfl rfl rfl rfl (up hT G.vb)) (toks_nil)))))))
end Go.Proofs.YtnjcginmilpggaaGreatDoor.Va
