/- Contracts of addr.Parse, addr.Column and addr.Format. -/
import Derived.Test.YtelnffamkkkpaaaDoorAddrB
import Derived.Test.YtelnffamkkkpaaaDoorAddrRead
import Derived.Test.YtelnffamkkkpaaaDoorShelfItoa
namespace Go.Proofs.YtelnffamkkkpaaaDoor
open Go.RowKit AM
theorem retP {a b c a' b' c' : Int} (h : a = a') (h' : b = b') (h'' : c = c') : Ending.returned (.tuple #[.agg #[.int .i64 a, .int .i64 b], .int .i64 c]) = .returned (.tuple #[.agg #[.int .i64 a', .int .i64 b'], .int .i64 c']) := by rw [h, h', h'']
theorem PZ_none {l : List UInt8} (h : rd l = none) : PZ l = (0, 0, 4) := by unfold PZ; rw [h]
theorem PZ_part {l : List UInt8} {t : St} (h : rd l = some t) (h' : t.n1 = 0 ∨ t.n2 = 0) : PZ l = (0, 0, 4) := by unfold PZ; rw [h]; simp [h']
theorem PZ_far {l : List UInt8} {t : St} (h : rd l = some t) (h' : ¬ (t.n1 = 0 ∨ t.n2 = 0)) (h'' : okR t.v1 t.v2 = false) : PZ l = (0, 0, 3) := by unfold PZ; rw [h]; simp [h', h'']
theorem PZ_yes {l : List UInt8} {t : St} (h : rd l = some t) (h' : ¬ (t.n1 = 0 ∨ t.n2 = 0)) (h'' : okR t.v1 t.v2 = true) : PZ l = (t.v1, t.v2, 0) := by unfold PZ; rw [h]; simp [h', h'']
theorem CZ_none {l : List UInt8} (h : rd l = none) : CZ l = (0, 4) := by unfold CZ; rw [h]
theorem CZ_part {l : List UInt8} {t : St} (h : rd l = some t) (h' : t.n1 = 0 ∨ t.n2 ≠ 0) : CZ l = (0, 4) := by unfold CZ; rw [h]; simp only; rw [if_pos h']
theorem CZ_far {l : List UInt8} {t : St} (h : rd l = some t) (h' : ¬ (t.n1 = 0 ∨ t.n2 ≠ 0)) (h'' : 1024 < t.v1) : CZ l = (0, 3) := by unfold CZ; rw [h]; simp only; rw [if_neg h', if_pos h'']
theorem CZ_yes {l : List UInt8} {t : St} (h : rd l = some t) (h' : ¬ (t.n1 = 0 ∨ t.n2 ≠ 0)) (h'' : ¬ 1024 < t.v1) : CZ l = (t.v1, 0) := by unfold CZ; rw [h]; simp only; rw [if_neg h', if_neg h'']

theorem letsN_le (c : Int) : (letsN c).length ≤ 3 := by
  unfold letsN; split
  · simp
  · split <;> simp
/-- What Format writes: the letters and the digits. -/
def fmtL (c r : Int) : List UInt8 := lets c ++ Lib.itoa r
theorem str_add (a : List Int) (b : List UInt8) : strOfNums a ++ (⟨b.toArray⟩ : ByteArray) = ⟨((a.map fun n => UInt8.ofNat n.toNat) ++ b).toArray⟩ := by
  apply ByteArray.ext
  simp [strOfNums]
theorem retS {a b : ByteArray} {c : Int} (h : a = b) : Ending.returned (.tuple #[.string a, .int .i64 c]) = .returned (.tuple #[.string b, .int .i64 c]) := by rw [h]
set_option maxRecDepth 100000 in
set_option maxHeartbeats 1600000 in
theorem format_12 (c : Int) (h1 : 1 ≤ c) (h2 : c ≤ 1024) (w : World) :
    Calls Tryd.prog 48 #[.agg #[.int .i64 c, .int .i64 12]] w fun e w' => e = .returned (.tuple #[.string ⟨(fmtL c 12).toArray⟩, .int .i64 0]) ∧ Below w.heap.size w w' := by
  have HK := Lib.hid (okR_t (c := c) (r := 12) (by omega))
  go_enter Tryd.func48, Tryd.ntmps48
  go_wp2_with fail
  refine (valid_any _ _ _).mono ?_
  rintro e w1 ⟨rfl, hB⟩
  rw [HK.out]
  obtain ⟨hc, hf⟩ := bcell hB
  simp at hc hf
  have c0 : w1.cell? ⟨w.heap.size, 0, none⟩ = some (.int .i64 c) := by rw [hc _ _ (by simp)]; simp
  have c1 : w1.cell? ⟨w.heap.size, 1, none⟩ = some (.int .i64 12) := by rw [hc _ _ (by simp)]; simp
  have hz : w.heap.size < w1.heap.size := by have := hB.size; simp at this; omega
  clear hc hf
  go_wp2_with fail
  refine (letters_yes c h1 h2 _).mono ?_
  rintro e w2 ⟨rfl, hB2⟩
  obtain ⟨hc, hf⟩ := bcell hB2
  have d1 : w2.cell? ⟨w.heap.size, 1, none⟩ = some (.int .i64 12) := by rw [hc _ _ hz]; exact c1
  clear hc hf
  go_wp2_with fail
  refine (Tryd.strconv_Itoa_small 12 (by omega) _).mono ?_
  rintro e w3 ⟨rfl, rfl⟩
  have hadd := fun W => run_string_add_sum (P := Tryd.prog) W (strOfNums (letsN c)) ⟨(Lib.decDigits 12).toArray⟩ (by
    have h1 := letsN_le c
    have h2 : (Lib.decDigits 12).length = 2 := by decide +kernel
    rw [strOfNums_size]; simp [ByteArray.size, h2]; omega)
  go_wp2_with fail
  go_ret2
  refine ⟨retS ?_, (Below.next ((Below.refl _ _).alloc (Nat.le_refl _) _) hB).trans (hB2.mono (by omega))⟩
  rw [str_add]
  rfl
theorem format_no (c r : Int) (h : okR c r = false) (w : World) :
    Calls Tryd.prog 48 #[.agg #[.int .i64 c, .int .i64 r]] w fun e w' => e = .returned (.tuple #[.string ⟨#[]⟩, .int .i64 3]) ∧ Below w.heap.size w w' := by
  have HK := Lib.hid h
  clear h
  go_enter Tryd.func48, Tryd.ntmps48
  go_wp2_with fail
  refine (valid_any _ _ _).mono ?_
  rintro e w1 ⟨rfl, hB⟩
  rw [HK.out]
  go_wp2_with fail
  go_ret2
  exact ⟨rfl, Below.next ((Below.refl _ _).alloc (Nat.le_refl _) _) hB⟩
end Go.Proofs.YtelnffamkkkpaaaDoor
