/- What addr.Format and the specification's Letters, Digits and Format return, for every address. -/
import Derived.Test.YtelnffamkkkpaaaDoorAddrC
import Derived.Test.YtelnffamkkkpaaaDoorAddrRefA
import Derived.Test.YtelnffamkkkpaaaDoorTab
import Derived.Lib.ItoaLen
namespace Go.Proofs.YtelnffamkkkpaaaDoor
open Go.RowKit AM
open Go.Sort (grow)
theorem drewN_heap (w : World) (k : Nat) : (w.drewN k).heap = w.heap ∧ (w.drewN k).os = w.os ∧ (w.drewN k).tape = w.tape ∧ (w.drewN k).output = w.output := by
  induction k generalizing w with
  | zero => exact ⟨rfl, rfl, rfl, rfl⟩
  | succ k ih => exact ih w.drew
theorem below_grow (w : World) (k : Nat) (os : Array Obj) : Below w.heap.size w (grow (w.drewN k) os) := by
  obtain ⟨h1, h2, h3, h4⟩ := drewN_heap w k
  refine ⟨h2, h3, h4, by simp [grow], fun b hb => ?_⟩
  show ((w.drewN k).heap ++ os)[b]? = _
  rw [h1]
  exact Array.getElem?_append_left hb
theorem itoa_short (r : Int) (h0 : 1 ≤ r) (h1 : r ≤ 1024) : (Lib.itoa r).length ≤ 20 := by
  obtain ⟨n, rfl⟩ := Int.eq_ofNat_of_zero_le (show 0 ≤ r by omega)
  rw [Lib.itoa_nonneg, Lib.decDigits_length]
  exact Lib.nDigits_le20 n (by omega)
set_option maxRecDepth 100000 in
set_option maxHeartbeats 1600000 in
theorem format_yes (c r : Int) (h : okR c r = true) (w : World) (hp : Pow w) :
    Calls Tryd.prog 48 #[.agg #[.int .i64 c, .int .i64 r]] w fun e w' => e = .returned (.tuple #[.string ⟨(fmtL c r).toArray⟩, .int .i64 0]) ∧ Below w.heap.size w w' := by
  have HK := Lib.hid h
  obtain ⟨h1, h2, h3, h4⟩ := okR_i h
  have HP := Lib.hid hp
  clear h hp
  go_enter Tryd.func48, Tryd.ntmps48
  go_wp2_with fail
  refine (valid_any _ _ _).mono ?_
  rintro e w1 ⟨rfl, hB⟩
  rw [HK.out]
  obtain ⟨hc, hf⟩ := bcell hB
  simp at hc hf
  have c0 : w1.cell? ⟨w.heap.size, 0, none⟩ = some (.int .i64 c) := by rw [hc _ _ (by simp)]; simp
  have c1 : w1.cell? ⟨w.heap.size, 1, none⟩ = some (.int .i64 r) := by rw [hc _ _ (by simp)]; simp
  have hz : w.heap.size < w1.heap.size := by have := hB.size; simp at this; omega
  clear hc hf
  go_wp2_with fail
  refine (letters_yes c h1 h2 _).mono ?_
  rintro e w2 ⟨rfl, hB2⟩
  obtain ⟨hc, hf⟩ := bcell hB2
  have d1 : w2.cell? ⟨w.heap.size, 1, none⟩ = some (.int .i64 r) := by rw [hc _ _ hz]; exact c1
  have hB2' : Below w.heap.size w w2 := (Below.next ((Below.refl _ _).alloc (Nat.le_refl _) _) hB).trans (hB2.mono (by omega))
  clear hc hf
  go_wp2_with fail
  refine (Tryd.strconv_Itoa r (by omega) (by omega) _ (HP.out.later hB2')).mono ?_
  rintro e w3 ⟨rfl, hB3⟩
  have hB3' : Below w.heap.size w w3 := by
    obtain ⟨k, os, rfl⟩ := hB3
    exact hB2'.trans ((below_grow w2 k os).mono hB2'.size)
  clear hB3
  have hadd := fun W => run_string_add_sum (P := Tryd.prog) W (strOfNums (letsN c)) ⟨(Lib.itoa r).toArray⟩ (by
    have h1 := letsN_le c
    have h2 := itoa_short r (by omega) (by omega)
    rw [strOfNums_size]; simp [ByteArray.size]; omega)
  go_wp2_with fail
  go_ret2
  refine ⟨retS ?_, hB3'⟩
  rw [str_add]
  rfl
theorem nums_nil (xs : List Int) : strOfNums xs ++ (⟨#[]⟩ : ByteArray) = strOfNums xs := by apply ByteArray.ext; simp [strOfNums]
theorem nums_add (xs ys : List Int) : strOfNums xs ++ strOfNums ys = strOfNums (xs ++ ys) := by apply ByteArray.ext; simp [strOfNums]
theorem add_nil (x : Int) (W : World) : (Op.stringOp .add (strOfNums [x]) ⟨#[]⟩).run Tryd.prog W = .ok (.string (strOfNums [x])) W := by
  rw [run_string_add_sum W _ _ (by rw [strOfNums_size]; simp [ByteArray.size]), nums_nil]
theorem add_one (x : Int) (ys : List Int) (h : ys.length ≤ 1000) (W : World) : (Op.stringOp .add (strOfNums [x]) (strOfNums ys)).run Tryd.prog W = .ok (.string (strOfNums (x :: ys))) W := by
  rw [run_string_add_sum W _ _ (by rw [strOfNums_size, strOfNums_size]; simp; omega), nums_add]; rfl
theorem add_t (x : Int) (t : List UInt8) (h : t.length ≤ 1000) (W : World) : (Op.stringOp .add (strOfNums [x]) ⟨t.toArray⟩).run Tryd.prog W = .ok (.string ⟨(UInt8.ofNat x.toNat :: t).toArray⟩) W := by
  rw [run_string_add_sum W _ _ (by rw [strOfNums_size]; simp [ByteArray.size]; omega)]
  rfl
theorem ret_str {a b : List UInt8} (h : a = b) : Ending.returned (.string ⟨a.toArray⟩) = .returned (.string ⟨b.toArray⟩) := by rw [h]
theorem digits_itoa (r : Int) (h : 1 ≤ r) : Lib.decDigits r.toNat = Lib.itoa r := by
  obtain ⟨n, rfl⟩ := Int.eq_ofNat_of_zero_le (show 0 ≤ r by omega)
  rw [Lib.itoa_nonneg]; rfl
end Go.Proofs.YtelnffamkkkpaaaDoor
