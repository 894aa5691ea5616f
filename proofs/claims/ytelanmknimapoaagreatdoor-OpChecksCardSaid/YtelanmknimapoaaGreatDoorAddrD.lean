/- What addr.Format and the specification's Letters, Digits and Format return, for every address. -/
import Derived.Test.YtelanmknimapoaaGreatDoorAddrC
import Derived.Test.YtelanmknimapoaaGreatDoorAddrRefA
import Derived.Test.YtelanmknimapoaaGreatDoorTab
import Derived.Lib.ItoaLen
namespace Go.Proofs.YtelanmknimapoaaGreatDoor.Re
open Go.RowKit AM
open Go.Sort (grow)
theorem drewN_heap (w : World) (k : Nat) : (w.drewN k).heap = w.heap ∧ (w.drewN k).os = w.os ∧ (w.drewN k).tape = w.tape ∧ (w.drewN k).output = w.output := by
  induction k generalizing w with
  | zero => exact ⟨rfl, rfl, rfl, rfl⟩
  | succ k ih => exact ih w.drew
theorem below_grow (w : World) (k : Nat) (os : Array Obj) : Below w.heap.size w (grow (w.drewN k) os) := by
  obtain ⟨h1, h2, h3, h4⟩ := drewN_heap w k
  refine ⟨h2, h3, h4, by simp [grow], fun b hb => ?_⟩
  show ((w.drewN k).heap ++ os)[b]? = _
  rw [h1]
  exact Array.getElem?_append_left hb
theorem itoa_short (r : Int) (h0 : 1 ≤ r) (h1 : r ≤ 1024) : (Lib.itoa r).length ≤ 20 := by
  obtain ⟨n, rfl⟩ := Int.eq_ofNat_of_zero_le (show 0 ≤ r by omega)
  rw [Lib.itoa_nonneg, Lib.decDigits_length]
  exact Lib.nDigits_le20 n (by omega)
set_option maxRecDepth 100000 in
set_option maxHeartbeats 1600000 in
theorem format_yes (c r : Int) (h : okR c r = true) (w : World) (hp : Pow w) :
    Calls Tryz.prog 71 #[.agg #[.int .i64 c, .int .i64 r]] w fun e w' => e = .returned (.tuple #[.string ⟨(fmtL c r).toArray⟩, .int .i64 0]) ∧ Below w.heap.size w w' := by
  have HK := Lib.hid h
  obtain ⟨h1, h2, h3, h4⟩ := okR_i h
  have HP := Lib.hid hp
  clear h hp
  go_enter Tryz.func71, Tryz.ntmps71
  go_wp2_with fail
  refine (valid_any _ _ _).mono ?_
  rintro e w1 ⟨rfl, hB⟩
  rw [HK.out]
  obtain ⟨hc, hf⟩ := bcell hB
  simp at hc hf
  have c0 : w1.cell? ⟨w.heap.size, 0, none⟩ = some (.int .i64 c) := by rw [hc _ _ (by simp)]; simp
  have c1 : w1.cell? ⟨w.heap.size, 1, none⟩ = some (.int .i64 r) := by rw [hc _ _ (by simp)]; simp
  have hz : w.heap.size < w1.heap.size := by have := hB.size; simp at this; omega
  clear hc hf
  go_wp2_with fail
  refine (letters_yes c h1 h2 _).mono ?_
  rintro e w2 ⟨rfl, hB2⟩
  obtain ⟨hc, hf⟩ := bcell hB2
  have d1 : w2.cell? ⟨w.heap.size, 1, none⟩ = some (.int .i64 r) := by rw [hc _ _ hz]; exact c1
  have hB2' : Below w.heap.size w w2 := (Below.next ((Below.refl _ _).alloc (Nat.le_refl _) _) hB).trans (hB2.mono (by omega))
  clear hc hf
  go_wp2_with fail
  refine (Tryz.strconv_Itoa r (by omega) (by omega) _ (HP.out.later hB2')).mono ?_
  rintro e w3 ⟨rfl, hB3⟩
  have hB3' : Below w.heap.size w w3 := by
    obtain ⟨k, os, rfl⟩ := hB3
    exact hB2'.trans ((below_grow w2 k os).mono hB2'.size)
  clear hB3
  have hadd := fun W => run_string_add_sum (P := Tryz.prog) W (strOfNums (letsN c)) ⟨(Lib.itoa r).toArray⟩ (by
    have h1 := letsN_le c
    have h2 := itoa_short r (by omega) (by omega)
    rw [strOfNums_size]; simp [ByteArray.size]; omega)
  go_wp2_with fail
  go_ret2
  refine ⟨retS ?_, hB3'⟩
  rw [str_add]
  rfl
theorem nums_nil (xs : List Int) : strOfNums xs ++ (⟨#[]⟩ : ByteArray) = strOfNums xs := by apply ByteArray.ext; simp [strOfNums]
theorem nums_add (xs ys : List Int) : strOfNums xs ++ strOfNums ys = strOfNums (xs ++ ys) := by apply ByteArray.ext; simp [strOfNums]
theorem add_nil (x : Int) (W : World) : (Op.stringOp .add (strOfNums [x]) ⟨#[]⟩).run Tryz.prog W = .ok (.string (strOfNums [x])) W := by
  rw [run_string_add_sum W _ _ (by rw [strOfNums_size]; simp [ByteArray.size]), nums_nil]
theorem add_one (x : Int) (ys : List Int) (h : ys.length ≤ 1000) (W : World) : (Op.stringOp .add (strOfNums [x]) (strOfNums ys)).run Tryz.prog W = .ok (.string (strOfNums (x :: ys))) W := by
  rw [run_string_add_sum W _ _ (by rw [strOfNums_size, strOfNums_size]; simp; omega), nums_add]; rfl
set_option maxRecDepth 100000 in
set_option maxHeartbeats 1600000 in
theorem rletters_1 (n : Int) (h0 : 1 ≤ n) (h1 : n ≤ 26) (w : World) :
    Calls Tryz.prog 104 #[.int .i64 n] w fun e w' => e = .returned (.tuple #[.string (strOfNums [65 + (n - 1) % 26]), .int .i64 0]) ∧ Below w.heap.size w w' := by
  have a1 := add_nil (65 + (n - 1) % 26)
  go_enter Tryz.func104, Tryz.ntmps104
  go_wp2_with fail
  refine wp_loop_rounds 4 ?_
  rw [rounds_succ]
  go_wp2_with fail
  rw [run_convert_bytes_arg (P := Tryz.prog) _ 73 5 Tryz.underlying73 Tryz.underlying5 (w.heap.size) 0 1 1 [65 + (n - 1) % 26] rfl ?hc 9 Tryz.underlying9]
  case hc => intro i hi; match i, hi with | 0, _ => simp
  go_wp2_with fail
  rw [rounds_succ]
  have : (n - 1) / 26 = 0 := by omega
  go_wp2_with fail
  go_ret2
  exact ⟨rfl, (Below.refl _ _).alloc (Nat.le_refl _) _⟩
set_option maxRecDepth 100000 in
set_option maxHeartbeats 1600000 in
theorem rletters_2 (n : Int) (h0 : 26 < n) (h1 : n ≤ 702) (w : World) :
    Calls Tryz.prog 104 #[.int .i64 n] w fun e w' => e = .returned (.tuple #[.string (strOfNums [65 + ((n - 1) / 26 - 1) % 26, 65 + (n - 1) % 26]), .int .i64 0]) ∧ Below w.heap.size w w' := by
  have a1 := add_nil (65 + (n - 1) % 26)
  have a2 := add_one (65 + ((n - 1) / 26 - 1) % 26) [65 + (n - 1) % 26] (by simp)
  go_enter Tryz.func104, Tryz.ntmps104
  go_wp2_with fail
  refine wp_loop_rounds 4 ?_
  rw [rounds_succ]
  go_wp2_with fail
  rw [run_convert_bytes_arg (P := Tryz.prog) _ 73 5 Tryz.underlying73 Tryz.underlying5 (w.heap.size) 0 1 1 [65 + (n - 1) % 26] rfl ?hc 9 Tryz.underlying9]
  case hc => intro i hi; match i, hi with | 0, _ => simp
  go_wp2_with fail
  rw [rounds_succ]
  have : 0 < (n - 1) / 26 := by omega
  go_wp2_with fail
  rw [run_convert_bytes_arg (P := Tryz.prog) _ 73 5 Tryz.underlying73 Tryz.underlying5 (w.heap.size + 1) 0 1 1 [65 + ((n - 1) / 26 - 1) % 26] rfl ?hc 9 Tryz.underlying9]
  case hc => intro i hi; match i, hi with | 0, _ => simp
  go_wp2_with fail
  rw [rounds_succ]
  have : ((n - 1) / 26 - 1) / 26 = 0 := by omega
  go_wp2_with fail
  go_ret2
  exact ⟨rfl, ((Below.refl _ _).alloc (Nat.le_refl _) _).alloc (by simp) _⟩
set_option maxRecDepth 100000 in
set_option maxHeartbeats 1600000 in
theorem rletters_3 (n : Int) (h0 : 702 < n) (h1 : n ≤ 1024) (w : World) :
    Calls Tryz.prog 104 #[.int .i64 n] w fun e w' => e = .returned (.tuple #[.string (strOfNums [65 + (((n - 1) / 26 - 1) / 26 - 1) % 26, 65 + ((n - 1) / 26 - 1) % 26, 65 + (n - 1) % 26]), .int .i64 0]) ∧ Below w.heap.size w w' := by
  have a1 := add_nil (65 + (n - 1) % 26)
  have a2 := add_one (65 + ((n - 1) / 26 - 1) % 26) [65 + (n - 1) % 26] (by simp)
  have a3 := add_one (65 + (((n - 1) / 26 - 1) / 26 - 1) % 26) [65 + ((n - 1) / 26 - 1) % 26, 65 + (n - 1) % 26] (by simp)
  go_enter Tryz.func104, Tryz.ntmps104
  go_wp2_with fail
  refine wp_loop_rounds 4 ?_
  rw [rounds_succ]
  go_wp2_with fail
  rw [run_convert_bytes_arg (P := Tryz.prog) _ 73 5 Tryz.underlying73 Tryz.underlying5 (w.heap.size) 0 1 1 [65 + (n - 1) % 26] rfl ?hc 9 Tryz.underlying9]
  case hc => intro i hi; match i, hi with | 0, _ => simp
  go_wp2_with fail
  rw [rounds_succ]
  have : 0 < (n - 1) / 26 := by omega
  go_wp2_with fail
  rw [run_convert_bytes_arg (P := Tryz.prog) _ 73 5 Tryz.underlying73 Tryz.underlying5 (w.heap.size + 1) 0 1 1 [65 + ((n - 1) / 26 - 1) % 26] rfl ?hc 9 Tryz.underlying9]
  case hc => intro i hi; match i, hi with | 0, _ => simp
  go_wp2_with fail
  rw [rounds_succ]
  have : 0 < ((n - 1) / 26 - 1) / 26 := by omega
  go_wp2_with fail
  rw [run_convert_bytes_arg (P := Tryz.prog) _ 73 5 Tryz.underlying73 Tryz.underlying5 (w.heap.size + 1 + 1) 0 1 1 [65 + (((n - 1) / 26 - 1) / 26 - 1) % 26] rfl ?hc 9 Tryz.underlying9]
  case hc => intro i hi; match i, hi with | 0, _ => go_simp
  go_wp2_with fail
  rw [rounds_succ]
  have : (((n - 1) / 26 - 1) / 26 - 1) / 26 = 0 := by omega
  go_wp2_with fail
  go_ret2
  exact ⟨rfl, (((Below.refl _ _).alloc (Nat.le_refl _) _).alloc (by simp) _).alloc (by simp; omega) _⟩
theorem rletters_yes (n : Int) (h0 : 1 ≤ n) (h1 : n ≤ 1024) (w : World) :
    Calls Tryz.prog 104 #[.int .i64 n] w fun e w' => e = .returned (.tuple #[.string (strOfNums (letsN n)), .int .i64 0]) ∧ Below w.heap.size w w' := by
  rcases Int.lt_or_le 26 n with ha | ha
  · rcases Int.lt_or_le 702 n with hb | hb
    · rw [letsN_3 hb]; exact rletters_3 n hb h1 w
    · rw [letsN_2 ha hb]; exact rletters_2 n ha hb w
  · rw [letsN_1 ha]; exact rletters_1 n h0 ha w
theorem add_t (x : Int) (t : List UInt8) (h : t.length ≤ 1000) (W : World) : (Op.stringOp .add (strOfNums [x]) ⟨t.toArray⟩).run Tryz.prog W = .ok (.string ⟨(UInt8.ofNat x.toNat :: t).toArray⟩) W := by
  rw [run_string_add_sum W _ _ (by rw [strOfNums_size]; simp [ByteArray.size]; omega)]
  rfl
theorem ret_str {a b : List UInt8} (h : a = b) : Ending.returned (.string ⟨a.toArray⟩) = .returned (.string ⟨b.toArray⟩) := by rw [h]
set_option maxRecDepth 100000 in
set_option maxHeartbeats 1600000 in
theorem rdigits_any (n : Int) (h0 : 0 ≤ n) (h1 : n ≤ 18446744073709551615) (w : World) :
    Calls Tryz.prog 50 #[.int .u64 n] w fun e w' => e = .returned (.string ⟨(Lib.decDigits n.toNat).toArray⟩) ∧ Below w.heap.size w w' := by
  have HL := Lib.hid (show (Lib.decDigits n.toNat).length ≤ 20 by rw [Lib.decDigits_length]; exact Lib.nDigits_le20 _ (by omega))
  go_enter Tryz.func50, Tryz.ntmps50
  go_wp2_with fail
  go_loopw [0, 3] (fun p q wr => ∃ (m : Int) (t : List UInt8), 0 ≤ m ∧ m ≤ 18446744073709551615 ∧ p = .int .u64 m ∧ q = .string ⟨t.toArray⟩ ∧ Lib.decDigits m.toNat ++ t = Lib.decDigits n.toNat ∧ Below w.heap.size w wr) (fun p _ _ => (intOf p).toNat)
  case atStart => exact ⟨n, [], h0, h1, rfl, rfl, by simp, Below.refl _ _⟩
  case round =>
    obtain ⟨m, t, m0, m1, rfl, rfl, ht, hB⟩ := hrel
    have HT := Lib.hid ht
    have HB := Lib.hid hB
    have hl : t.length ≤ 20 := by
      have h := congrArg List.length ht
      rw [List.length_append] at h
      have := HL.out
      omega
    have HLT := Lib.hid hl
    have hz := hB.size
    have HZ := Lib.hid hz
    clear ht hB hl hz
    rcases Int.lt_or_le 9 m with h9 | h9
    · have HD : Hid (Lib.decDigits m.toNat = Lib.decDigits (m / 10).toNat ++ [UInt8.ofNat (48 + m % 10).toNat]) := by
        unfold Hid; rw [Lib.decDigits, dif_neg (by omega)]
        congr 2
        · omega
        · congr 1; omega
      have ha := fun W => add_t (48 + m % 10) t (by have := HLT.out; omega) W
      go_wp2_with fail
      rw [run_convert_bytes_arg (P := Tryz.prog) _ 73 5 Tryz.underlying73 Tryz.underlying5 wr.heap.size 0 1 1 [48 + m % 10] rfl ?hc 9 Tryz.underlying9]
      case hc => intro i hi; match i, hi with | 0, _ => simp
      go_wp2_with fail
      go_roundw
      case rel => exact ⟨m / 10, _, by omega, by omega, rfl, rfl, by rw [← HT.out, HD.out, List.append_assoc]; rfl, HB.out.alloc HZ.out _⟩
      case measure => simp [intOf]; omega
    · have HD : Hid (Lib.decDigits m.toNat = [UInt8.ofNat (48 + m).toNat]) := by
        unfold Hid; rw [Lib.decDigits, dif_pos (by omega)]; congr 2; omega
      have ha := fun W => add_t (48 + m) t (by have := HLT.out; omega) W
      go_wp2_with fail
      rw [run_convert_bytes_arg (P := Tryz.prog) _ 73 5 Tryz.underlying73 Tryz.underlying5 wr.heap.size 0 1 1 [48 + m] rfl ?hc 9 Tryz.underlying9]
      case hc => intro i hi; match i, hi with | 0, _ => simp
      go_wp2_with fail
      go_ret
      exact ⟨ret_str (by rw [← HT.out, HD.out]; rfl), HB.out.alloc HZ.out _⟩
theorem digits_itoa (r : Int) (h : 1 ≤ r) : Lib.decDigits r.toNat = Lib.itoa r := by
  obtain ⟨n, rfl⟩ := Int.eq_ofNat_of_zero_le (show 0 ≤ r by omega)
  rw [Lib.itoa_nonneg]; rfl
set_option maxRecDepth 100000 in
set_option maxHeartbeats 1600000 in
theorem rformat_yes (c r : Int) (h : okR c r = true) (w : World) :
    Calls Tryz.prog 79 #[.agg #[.int .i64 c, .int .i64 r]] w fun e w' => e = .returned (.tuple #[.string ⟨(fmtL c r).toArray⟩, .int .i64 0]) ∧ Below w.heap.size w w' := by
  have HK := Lib.hid h
  obtain ⟨h1, h2, h3, h4⟩ := okR_i h
  clear h
  go_enter Tryz.func79, Tryz.ntmps79
  go_wp2_with fail
  refine (rvalid_any _ _ _).mono ?_
  rintro e w1 ⟨rfl, hB⟩
  rw [HK.out]
  obtain ⟨hc, hf⟩ := bcell hB
  simp at hc hf
  have c0 : w1.cell? ⟨w.heap.size, 0, none⟩ = some (.int .i64 c) := by rw [hc _ _ (by simp)]; simp
  have c1 : w1.cell? ⟨w.heap.size, 1, none⟩ = some (.int .i64 r) := by rw [hc _ _ (by simp)]; simp
  have hz : w.heap.size < w1.heap.size := by have := hB.size; simp at this; omega
  clear hc hf
  go_wp2_with fail
  refine (rletters_yes c h1 h2 _).mono ?_
  rintro e w2 ⟨rfl, hB2⟩
  obtain ⟨hc, hf⟩ := bcell hB2
  have d1 : w2.cell? ⟨w.heap.size, 1, none⟩ = some (.int .i64 r) := by rw [hc _ _ hz]; exact c1
  have hB2' : Below w.heap.size w w2 := (Below.next ((Below.refl _ _).alloc (Nat.le_refl _) _) hB).trans (hB2.mono (by omega))
  clear hc hf
  go_wp2_with fail
  refine (rdigits_any r (by omega) (by omega) _).mono ?_
  rintro e w3 ⟨rfl, hB3⟩
  rw [digits_itoa r h3]
  have hadd := fun W => run_string_add_sum (P := Tryz.prog) W (strOfNums (letsN c)) ⟨(Lib.itoa r).toArray⟩ (by
    have h1 := letsN_le c
    have h2 := itoa_short r (by omega) (by omega)
    rw [strOfNums_size]; simp [ByteArray.size]; omega)
  go_wp2_with fail
  go_ret2
  refine ⟨retS ?_, Below.next hB2' hB3⟩
  rw [str_add]
  rfl
end Go.Proofs.YtelanmknimapoaaGreatDoor.Re
