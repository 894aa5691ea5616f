/- AddrBack: what was written is read again, and what was read is written in capitals. -/
import Derived.Test.YtgedckloooilfaaDoorAddrD
import Derived.Test.YtgedckloooilfaaDoorAddrE
import Derived.Test.YtgedckloooilfaaDoorLawAddrWrites
import Derived.Deep.DeepCutAuto
import Derived.Deep.RegionHeld3
namespace Go.Proofs.YtgedckloooilfaaDoor
open Go.RowKit AM
theorem pow_of_laidB {w : World} (hl : laidMetH Tryd.prog Rows.addrBackRow.laid w) : Pow w :=
  pow_third (x := ("math/bits.deBruijn32tab", Rows.laid_math_bits_deBruijn32tab)) (y := ("math/bits.deBruijn64tab", Rows.laid_math_bits_deBruijn64tab)) (rest := []) (MakeChecks.laidMetH_plain _ _ _ (by kernel_rfl)) hl
theorem caps_str (l : List UInt8) : strOfNums (capsN l) = ⟨(caps l).toArray⟩ := rfl
theorem lets_str (c : Int) : strOfNums (letsN c) = ⟨(lets c).toArray⟩ := rfl
set_option maxRecDepth 100000 in
set_option maxHeartbeats 3200000 in
theorem addrBack_any (c r : Int) (s : ByteArray) (w : World) (hs : s.size ≤ maxLen) (hl : laidMetH Tryd.prog Rows.addrBackRow.laid w) :
    Calls Tryd.prog 10 #[.agg #[.int .i64 c, .int .i64 r], .string s] w fun e w' => e = .returned (.bool true) ∧ Below w.heap.size w w' := by
  have HP := Lib.hid (pow_of_laidB hl)
  unfold maxLen at hs
  clear hl
  rcases Nat.lt_or_ge 300 s.size with hlen | hlen
  · go_enter Tryd.func10, Tryd.ntmps10
    go_wp2_with fail
    refine (knownA_any _).mono ?_
    rintro e w1 ⟨rfl, hB⟩
    go_wp2_with fail
    go_ret
    exact ⟨rfl, Below.next ((Below.refl _ _).alloc (Nat.le_refl _) _) hB⟩
  · go_enter Tryd.func10, Tryd.ntmps10
    go_wp2_with fail
    refine (format_all c r _ (HP.out.later ((Below.refl _ _).alloc (Nat.le_refl _) _))).mono ?_
    rintro e w1 ⟨rfl, hB1⟩
    have hS1 : w.heap.size < w1.heap.size ∧ Below w.heap.size w w1 ∧ w1.cell? ⟨w.heap.size, 0, none⟩ = some (.int .i64 c) ∧ w1.cell? ⟨w.heap.size, 1, none⟩ = some (.int .i64 r) :=
      one_keep ⟨by simp, (Below.refl _ _).alloc (Nat.le_refl _) _, by simp, by simp⟩ hB1
    have HS1 := Lib.hid hS1
    obtain ⟨_, hBw, c1, c2⟩ := hS1
    go_upto_if 27 with (fail)
    go_cut [5, 6] (fun _ _ wx => Below w.heap.size w wx)
    case first =>
      cases hk : okR c r
      · have HK := Lib.hid hk
        have e1 : fE c r = 3 := by unfold fE; rw [if_neg (by rw [hk]; decide)]
        rw [e1]
        clear hk e1
        go_wp2_with fail
        refine (valid_any c r _).mono ?_
        rintro e w2 ⟨rfl, hB2⟩
        rw [HK.out]
        go_wp2_with fail
        go_meet
        exact hBw.trans (hB2.mono hBw.size)
      · have HK := Lib.hid hk
        have e1 : fE c r = 0 := by unfold fE; rw [if_pos hk]
        have e2 : fS c r = ⟨(fmtL c r).toArray⟩ := by unfold fS; rw [if_pos hk]
        have hsz : (⟨(fmtL c r).toArray⟩ : ByteArray).size ≤ 2000 := by
          have h1 := letsN_le c
          obtain ⟨_, _, h3, h4⟩ := okR_i hk
          have h2 := itoa_short r h3 h4
          simp [ByteArray.size, fmtL, lets]; omega
        have hpz : PZ (⟨(fmtL c r).toArray⟩ : ByteArray).data.toList = (c, r, 0) := PZ_fwd hk
        rw [e1, e2]
        have HPZ := Lib.hid hpz
        clear hk e1 e2 hpz
        generalize (⟨(fmtL c r).toArray⟩ : ByteArray) = t at *
        go_wp2_with fail
        refine (parse_any t hsz _).mono ?_
        rintro e w2 ⟨rfl, hB2⟩
        rw [HPZ.out]
        have hS2 := one_keep HS1.out hB2
        have HS2 := Lib.hid hS2
        obtain ⟨hz2, hB2w, d1, d2⟩ := hS2
        go_wp2_with fail
        refine (valid_any c r _).mono ?_
        rintro e w3 ⟨rfl, hB3⟩
        rw [HK.out]
        go_wp2_with fail
        go_meet
        exact (hB2w.alloc hB2w.size _).trans (hB3.mono (by have := hB2w.size; simp; omega))
    case rest =>
    clear HS1 hBw c1 c2 hB1
    have HC := Lib.hid hcut
    clear hcut
    go_wp2_with fail
    refine (parse_any s (by omega) _).mono ?_
    rintro e w2 ⟨rfl, hB2⟩
    have HB2 := Lib.hid (HC.out.trans (hB2.mono HC.out.size))
    go_upto_if 53 with (fail)
    go_cut [10] (fun _ wx => Below w.heap.size w wx)
    case first =>
      have hzz := HB2.out.size
      by_cases he : (PZ s.data.toList).2.2 = 0
      · have hpz : PZ s.data.toList = ((PZ s.data.toList).1, (PZ s.data.toList).2.1, 0) := by rw [← he]
        obtain ⟨hk, hfmt⟩ := PZ_back hpz
        generalize (PZ s.data.toList).1 = a at *
        generalize (PZ s.data.toList).2.1 = b at *
        rw [he]
        have HK := Lib.hid hk
        have HF := Lib.hid (show (⟨(fmtL a b).toArray⟩ : ByteArray) = strOfNums (capsN s.data.toList) by rw [caps_str, ← hfmt]; rfl)
        clear he hpz hfmt hk
        go_wp2_with fail
        refine (format_yes a b HK.out _ ?_).mono ?_
        · exact HP.out.later (HB2.out.alloc hzz _)
        rintro e w3 ⟨rfl, hB3⟩
        rw [HF.out]
        obtain ⟨hc3, _⟩ := bcell hB3
        have d1 : w3.cell? ⟨w2.heap.size, 0, none⟩ = some (.int .i64 a) := by rw [hc3 _ _ (by simp)]; simp
        have d2 : w3.cell? ⟨w2.heap.size, 1, none⟩ = some (.int .i64 b) := by rw [hc3 _ _ (by simp)]; simp
        have hz3 : w2.heap.size < w3.heap.size := by have := hB3.size; simp at this; omega
        have HB3 := Lib.hid ((HB2.out.alloc hzz _).trans (hB3.mono (by simp; omega)))
        clear hc3
        go_wp2_with fail
        refine (capitals_any s (by omega) _).mono ?_
        rintro e w4 ⟨rfl, hB4⟩
        obtain ⟨hc4, _⟩ := bcell hB4
        have e1 : w4.cell? ⟨w2.heap.size, 0, none⟩ = some (.int .i64 a) := by rw [hc4 _ _ hz3]; exact d1
        have e2 : w4.cell? ⟨w2.heap.size, 1, none⟩ = some (.int .i64 b) := by rw [hc4 _ _ hz3]; exact d2
        have HB4 := Lib.hid (HB3.out.trans (hB4.mono HB3.out.size))
        clear hc4 d1 d2
        go_wp2_with fail
        refine (valid_any a b _).mono ?_
        rintro e w5 ⟨rfl, hB5⟩
        rw [HK.out]
        go_wp2_with fail
        go_meet
        exact HB4.out.trans (hB5.mono HB4.out.size)
      · have hne : ((PZ s.data.toList).2.2 == 0) = false := by simpa using he
        clear he
        go_wp2_with fail
        go_meet
        exact HB2.out.alloc hzz _
    case rest =>
    clear HC HB2 hB2
    have HC := Lib.hid hcut
    clear hcut
    go_wp2_with fail
    refine (column_any s (by omega) _).mono ?_
    rintro e w6 ⟨rfl, hB6⟩
    have HB6 := Lib.hid (HC.out.trans (hB6.mono HC.out.size))
    go_upto_if 78 with (fail)
    go_cut [13, 14] (fun _ _ wx => Below w.heap.size w wx)
    case first =>
      have hzz := HB6.out.size
      by_cases he : (CZ s.data.toList).2 = 0
      · have hcz : CZ s.data.toList = ((CZ s.data.toList).1, 0) := by rw [← he]
        obtain ⟨h1, h2, h3⟩ := CZ_back hcz
        generalize (CZ s.data.toList).1 = a at *
        rw [he]
        have HF := Lib.hid (show strOfNums (letsN a) = strOfNums (capsN s.data.toList) by rw [caps_str, ← h3]; rfl)
        clear he hcz h3
        go_wp2_with fail
        refine (letters_yes a h1 h2 _).mono ?_
        rintro e w3 ⟨rfl, hB3⟩
        rw [HF.out]
        go_wp2_with fail
        refine (capitals_any s (by omega) _).mono ?_
        rintro e w4 ⟨rfl, hB4⟩
        have HB7 := Lib.hid (HB6.out.trans (hB3.mono hzz))
        go_wp2_with fail
        go_meet
        exact Below.next HB7.out hB4
      · have hne : ((CZ s.data.toList).2 == 0) = false := by simpa using he
        clear he
        go_wp2_with fail
        go_meet
        exact HB6.out
    case rest =>
    go_wp2_with fail
    refine (knownA_any _).mono ?_
    rintro e w9 ⟨rfl, hB9⟩
    go_wp2_with fail
    go_ret
    exact ⟨rfl, Below.next hcut hB9⟩
end Go.Proofs.YtgedckloooilfaaDoor
