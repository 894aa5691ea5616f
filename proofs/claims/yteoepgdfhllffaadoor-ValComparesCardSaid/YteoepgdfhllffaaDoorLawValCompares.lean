/- The walk of the law: Compare returns what the specification returns. -/
import Derived.Test.YteoepgdfhllffaaDoorValR
import Derived.Test.YteoepgdfhllffaaDoorValO
import Derived.Test.YteoepgdfhllffaaDoorValK
import Derived.Test.YteoepgdfhllffaaDoorCameV
namespace Go.Proofs.YteoepgdfhllffaaDoor.Va
open Go Go.RowKit GM
theorem retBv {b b' : Bool} (h : b = b') : Ending.returned (.bool b) = .returned (.bool b') := by rw [h]
theorem long_any (k : Nat) (n : Int) (s : ByteArray) (w : World) :
    Calls Tryd.prog 14 #[.agg #[.int .u8 (k : Int), .int .i64 n, .string s]] w fun e w' => e = .returned (.bool (decide (2000 < s.size))) ∧ Below w.heap.size w w' := by
  by_cases h : 2000 < s.size
  · have HD : Hid (decide (2000 < s.size) = true) := decide_eq_true h
    go_enter Tryd.func14, Tryd.ntmps14
    go_wp2_with fail
    go_ret
    exact ⟨retBv (by rw [HD.out]; simp; omega), valloc _ _⟩
  · have HD : Hid (decide (2000 < s.size) = false) := decide_eq_false h
    go_enter Tryd.func14, Tryd.ntmps14
    go_wp2_with fail
    go_ret
    exact ⟨retBv (by rw [HD.out]; simp; omega), valloc _ _⟩
set_option maxRecDepth 100000 in
set_option maxHeartbeats 6400000 in
theorem valCompares_any (k : Nat) (n : Int) (s : ByteArray) (hn : leastI ≤ n) (k' : Nat) (n' : Int) (s' : ByteArray) (hn' : leastI ≤ n') (w : World) (hN : Nm w) :
    Calls Tryd.prog 5 #[.agg #[.int .u8 (k : Int), .int .i64 n, .string s], .agg #[.int .u8 (k' : Int), .int .i64 n', .string s']] w fun e w' => e = .returned (.bool true) ∧ Below w.heap.size w w' := by
  have HA0 := Lib.hid (B3.start w k n s)
  have HB0 := Lib.hid (B3.start (w.alloc (.cells #[.int .u8 (k : Int), .int .i64 n, .string s] 29)) k' n' s')
  rw [World.size_alloc] at HB0
  have HA1 := Lib.hid (HA0.out.later (valloc _ (.cells #[.int .u8 (k' : Int), .int .i64 n', .string s'] 29)))
  have HW0 := Lib.hid (vnext (valloc w (.cells #[.int .u8 (k : Int), .int .i64 n, .string s] 29)) (valloc _ (.cells #[.int .u8 (k' : Int), .int .i64 n', .string s'] 29)))
  have HN := Lib.hid hN
  clear HA0 hN
  go_enter Tryd.func5, Tryd.ntmps5
  go_wp2_with fail
  generalize (w.alloc (.cells #[.int .u8 (k : Int), .int .i64 n, .string s] 29)).alloc (.cells #[.int .u8 (k' : Int), .int .i64 n', .string s'] 29) = w0 at *
  have HS0 : Hid (B3 w0 w.heap.size k n s ∧ B3 w0 (w.heap.size + 1) k' n' s' ∧ Below w.heap.size w w0) := ⟨HA1.out, HB0.out, HW0.out⟩
  clear HA1 HB0 HW0
  refine (long_any k n s _).mono ?_
  rintro e w1 ⟨rfl, hB⟩
  have HS1 : Hid (B3 w1 w.heap.size k n s ∧ B3 w1 (w.heap.size + 1) k' n' s' ∧ Below w.heap.size w w1) := ⟨HS0.out.1.later hB, HS0.out.2.1.later hB, vnext HS0.out.2.2 hB⟩
  clear hB HS0
  by_cases l1 : 2000 < s.size
  · rw [decide_eq_true l1]
    go_wp2_with fail
    refine (known05 _ (HN.out.later (HS1.out.2.2))).mono ?_
    rintro e wE ⟨rfl, hBE⟩
    have HBE := Lib.hid (vnext HS1.out.2.2 hBE)
    go_wp2_with fail
    go_ret
    exact ⟨rfl, HBE.out⟩
  · rw [decide_eq_false l1]
    obtain ⟨a0, a1, a2, _, _, _⟩ := HS1.out.1.cells
    obtain ⟨b0, b1, b2, _, _, _⟩ := HS1.out.2.1.cells
    go_wp2_with fail
    clear a0 a1 a2 b0 b1 b2
    refine (long_any k' n' s' _).mono ?_
    rintro e w2 ⟨rfl, hB⟩
    have HS2 : Hid (B3 w2 w.heap.size k n s ∧ B3 w2 (w.heap.size + 1) k' n' s' ∧ Below w.heap.size w w2) := ⟨HS1.out.1.later hB, HS1.out.2.1.later hB, vnext HS1.out.2.2 hB⟩
    clear hB HS1
    by_cases l2 : 2000 < s'.size
    · rw [decide_eq_true l2]
      go_wp2_with fail
      refine (known05 _ (HN.out.later (HS2.out.2.2))).mono ?_
      rintro e wE ⟨rfl, hBE⟩
      have HBE := Lib.hid (vnext HS2.out.2.2 hBE)
      go_wp2_with fail
      go_ret
      exact ⟨rfl, HBE.out⟩
    · rw [decide_eq_false l2]
      have HAB := Lib.hid (fun w => compare_any k n s (by omega) hn k' n' s' (by omega) hn' w)
      have HBA := Lib.hid (fun w => compare_any k' n' s' (by omega) hn' k n s (by omega) hn w)
      have HRA := Lib.hid (fun w => rcompare_v k n s (by omega) hn k' n' s' (by omega) hn' w)
      have HRB := Lib.hid (fun w => rcompare_v k' n' s' (by omega) hn' k n s (by omega) hn w)
      clear hn hn' l1 l2
      generalize (cpR k n s k' n' s').1 = x at *
      generalize (cpR k n s k' n' s').2 = ex at *
      generalize (cpR k' n' s' k n s).1 = y at *
      generalize (cpR k' n' s' k n s).2 = ey at *
      obtain ⟨a0, a1, a2, _, _, _⟩ := HS2.out.1.cells
      obtain ⟨b0, b1, b2, _, _, _⟩ := HS2.out.2.1.cells
      go_wp2_with fail
      clear a0 a1 a2 b0 b1 b2
      refine (HAB.out _).mono ?_
      rintro e w3 ⟨rfl, hB⟩
      have HS3 : Hid (B3 w3 w.heap.size k n s ∧ B3 w3 (w.heap.size + 1) k' n' s' ∧ Below w.heap.size w w3) := ⟨HS2.out.1.later hB, HS2.out.2.1.later hB, vnext HS2.out.2.2 hB⟩
      clear hB HS2
      obtain ⟨a0, a1, a2, _, _, _⟩ := HS3.out.1.cells
      obtain ⟨b0, b1, b2, _, _, _⟩ := HS3.out.2.1.cells
      go_wp2_with fail
      clear a0 a1 a2 b0 b1 b2
      refine (HRA.out _).mono ?_
      rintro e w4 ⟨rfl, hB⟩
      have HS4 : Hid (B3 w4 w.heap.size k n s ∧ B3 w4 (w.heap.size + 1) k' n' s' ∧ Below w.heap.size w w4) := ⟨HS3.out.1.later hB, HS3.out.2.1.later hB, vnext HS3.out.2.2 hB⟩
      clear hB HS3
      obtain ⟨a0, a1, a2, _, _, _⟩ := HS4.out.1.cells
      obtain ⟨b0, b1, b2, _, _, _⟩ := HS4.out.2.1.cells
      go_wp2_with fail
      clear a0 a1 a2 b0 b1 b2
      refine (HBA.out _).mono ?_
      rintro e w5 ⟨rfl, hB⟩
      have HS5 : Hid (B3 w5 w.heap.size k n s ∧ B3 w5 (w.heap.size + 1) k' n' s' ∧ Below w.heap.size w w5) := ⟨HS4.out.1.later hB, HS4.out.2.1.later hB, vnext HS4.out.2.2 hB⟩
      clear hB HS4
      obtain ⟨a0, a1, a2, _, _, _⟩ := HS5.out.1.cells
      obtain ⟨b0, b1, b2, _, _, _⟩ := HS5.out.2.1.cells
      go_wp2_with fail
      clear a0 a1 a2 b0 b1 b2
      refine (HRB.out _).mono ?_
      rintro e w6 ⟨rfl, hB⟩
      have HS6 : Hid (B3 w6 w.heap.size k n s ∧ B3 w6 (w.heap.size + 1) k' n' s' ∧ Below w.heap.size w w6) := ⟨HS5.out.1.later hB, HS5.out.2.1.later hB, vnext HS5.out.2.2 hB⟩
      clear hB HS5
      go_wp2_with fail
      go_ret
      exact ⟨rfl, HS6.out.2.2⟩
theorem valCompares_law (a b : VV) (w : World) (hl : laidMetH Tryd.prog Rows.valComparesRow.laid w) :
    Calls Tryd.prog 5 #[.agg (cells3 a).toArray, .agg (cells3 b).toArray] w fun e w' => e = .returned (.bool true) ∧ Below w.heap.size w w' :=
  valCompares_any a.kd a.num a.txt a.lo b.kd b.num b.txt b.lo w (nm_fifth (a := ("math/bits.deBruijn32tab", Rows.laid_math_bits_deBruijn32tab)) (b := ("math/bits.deBruijn64tab", Rows.laid_math_bits_deBruijn64tab)) (c := ("internal/strconv.uint64pow10", Rows.laid_internal_strconv_uint64pow10)) (d := ("unicode/utf8.acceptRanges", Rows.laid_unicode_utf8_acceptRanges)) (MakeChecks.laidMetH_plain _ _ _ (by kernel_rfl)) hl)
end Go.Proofs.YteoepgdfhllffaaDoor.Va
