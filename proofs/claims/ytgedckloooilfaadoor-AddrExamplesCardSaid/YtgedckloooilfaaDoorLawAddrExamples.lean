/- AddrExamples: the examples of the chapter. -/
import Derived.Test.YtgedckloooilfaaDoorAddrC
import Derived.Test.YtgedckloooilfaaDoorAddrTwo
import Derived.Deep.RegionHeld3
namespace Go.Proofs.YtgedckloooilfaaDoor
open Go.RowKit AM
set_option maxRecDepth 100000 in
set_option maxHeartbeats 1600000 in
theorem format_9 (c : Int) (h1 : 1 ≤ c) (h2 : c ≤ 1024) (w : World) :
    Calls Tryd.prog 38 #[.agg #[.int .i64 c, .int .i64 9]] w fun e w' => e = .returned (.tuple #[.string ⟨(fmtL c 9).toArray⟩, .int .i64 0]) ∧ Below w.heap.size w w' := by
  have HK := Lib.hid (okR_t (c := c) (r := 9) (by omega))
  go_enter Tryd.func38, Tryd.ntmps38
  go_wp2_with fail
  refine (valid_any _ _ _).mono ?_
  rintro e w1 ⟨rfl, hB⟩
  rw [HK.out]
  obtain ⟨hc, hf⟩ := bcell hB
  simp at hc hf
  have c0 : w1.cell? ⟨w.heap.size, 0, none⟩ = some (.int .i64 c) := by rw [hc _ _ (by simp)]; simp
  have c1 : w1.cell? ⟨w.heap.size, 1, none⟩ = some (.int .i64 9) := by rw [hc _ _ (by simp)]; simp
  have hz : w.heap.size < w1.heap.size := by have := hB.size; simp at this; omega
  clear hc hf
  go_wp2_with fail
  refine (letters_yes c h1 h2 _).mono ?_
  rintro e w2 ⟨rfl, hB2⟩
  obtain ⟨hc, hf⟩ := bcell hB2
  have d1 : w2.cell? ⟨w.heap.size, 1, none⟩ = some (.int .i64 9) := by rw [hc _ _ hz]; exact c1
  clear hc hf
  go_wp2_with fail
  refine (Tryd.strconv_Itoa_small 9 (by omega) _).mono ?_
  rintro e w3 ⟨rfl, rfl⟩
  have hadd := fun W => run_string_add_sum (P := Tryd.prog) W (strOfNums (letsN c)) ⟨(Lib.decDigits 9).toArray⟩ (by
    have h1 := letsN_le c
    have h2 : (Lib.decDigits 9).length = 1 := by decide +kernel
    rw [strOfNums_size]; simp [ByteArray.size, h2]; omega)
  go_wp2_with fail
  go_ret2
  refine ⟨retS ?_, (Below.next ((Below.refl _ _).alloc (Nat.le_refl _) _) hB).trans (hB2.mono (by omega))⟩
  rw [str_add]
  rfl
def colN (k : Nat) : Int := match k with | 0 => 1 | 1 => 26 | 2 => 27 | 3 => 702 | 4 => 703 | _ => 1024
def colS (k : Nat) : ByteArray := match k with | 0 => ⟨#[65]⟩ | 1 => ⟨#[90]⟩ | 2 => ⟨#[65, 65]⟩ | 3 => ⟨#[90, 90]⟩ | 4 => ⟨#[65, 65, 65]⟩ | _ => ⟨#[65, 77, 74]⟩
theorem col_ok : ∀ k, k < 6 → 1 ≤ colN k ∧ colN k ≤ 1024 ∧ (strOfNums (letsN (colN k))).data = (colS k).data ∧ CZ (colS k).data.toList = (colN k, 0) ∧ (colS k).size ≤ 2000 := by decide +kernel
def badS (k : Nat) : ByteArray := match k with | 0 => ⟨#[65, 48]⟩ | 1 => ⟨#[65, 48, 49]⟩ | 2 => ⟨#[49, 65]⟩ | 3 => ⟨#[65]⟩ | 4 => ⟨#[65, 49, 32]⟩ | 5 => ⟨#[]⟩ | 6 => ⟨#[36, 65, 49]⟩ | 7 => ⟨#[65, 49, 65]⟩ | _ => ⟨#[65, 57, 57, 57, 57, 57, 57, 57, 57, 57, 57, 57, 57, 57, 57, 57, 57, 57, 57, 57, 57, 120]⟩
theorem bad_ok : ∀ k, k < 9 → PZ (badS k).data.toList = (0, 0, 4) ∧ (badS k).size ≤ 2000 := by decide +kernel
/-- The table of columns lies in block b. -/
def Cols (w : World) (b : Nat) : Prop := b < w.heap.size ∧ ∀ k, k < 6 → w.cell? ⟨b, k * 2, none⟩ = some (.int .i64 (colN k)) ∧ w.cell? ⟨b, k * 2 + 1, none⟩ = some (.string (colS k))
theorem Cols.later {w w' : World} {b : Nat} (h : Cols w b) (hB : Below w.heap.size w w') : Cols w' b := by
  obtain ⟨hc, _⟩ := bcell hB
  have := hB.size
  have := h.1
  refine ⟨by omega, fun k hk => ?_⟩
  rw [hc _ _ h.1, hc _ _ h.1]; exact h.2 k hk
def Bads (w : World) (b : Nat) : Prop := b < w.heap.size ∧ ∀ k, k < 9 → w.cell? ⟨b, k, none⟩ = some (.string (badS k))
theorem Bads.later {w w' : World} {b : Nat} (h : Bads w b) (hB : Below w.heap.size w w') : Bads w' b := by
  obtain ⟨hc, _⟩ := bcell hB
  have := hB.size
  have := h.1
  refine ⟨by omega, fun k hk => ?_⟩
  rw [hc _ _ h.1]; exact h.2 k hk
theorem col_str (k : Nat) (h : k < 6) : strOfNums (letsN (colN k)) = colS k := ByteArray.ext (col_ok k h).2.2.1
set_option maxRecDepth 100000 in
set_option maxHeartbeats 3200000 in
theorem addrExamples_any (w : World) :
    Calls Tryd.prog 9 #[] w fun e w' => e = .returned (.bool true) ∧ Below w.heap.size w w' := by
  go_enter Tryd.func9, Tryd.ntmps9
  go_wp2_with fail
  go_loopw [2] (fun i wr => ∃ k : Nat, k ≤ 6 ∧ i = .int .i64 k ∧ Cols wr w.heap.size ∧ Below w.heap.size w wr) (fun i _ => 6 - (intOf i).toNat)
  case atStart =>
    refine ⟨0, by omega, rfl, ⟨by simp, fun k hk => ?_⟩, (Below.refl _ _).alloc (Nat.le_refl _) _⟩
    match k, hk with
    | 0, _ => exact ⟨by simp [colN], by simp [colS]⟩
    | 1, _ => exact ⟨by simp [colN], by simp [colS]⟩
    | 2, _ => exact ⟨by simp [colN], by simp [colS]⟩
    | 3, _ => exact ⟨by simp [colN], by simp [colS]⟩
    | 4, _ => exact ⟨by simp [colN], by simp [colS]⟩
    | 5, _ => exact ⟨by simp [colN], by simp [colS]⟩
  case round =>
    obtain ⟨k, hk, rfl, hC, hB⟩ := hrel
    have HC := Lib.hid hC
    have HB := Lib.hid hB
    clear hC hB
    by_cases hlt : k < 6
    · have HO := Lib.hid (col_ok k hlt)
      have HS := Lib.hid (col_str k hlt)
      obtain ⟨c1, c2⟩ := HC.out.2 k hlt
      go_wp2_with fail
      refine (letters_yes (colN k) HO.out.1 HO.out.2.1 _).mono ?_
      rintro e w1 ⟨rfl, hB1⟩
      rw [HS.out]
      obtain ⟨d1, d2⟩ := (HC.out.later hB1).2 k hlt
      have HC1 := Lib.hid (HC.out.later hB1)
      have HB1 := Lib.hid (Below.next HB.out hB1)
      go_wp2_with fail
      refine (column_any (colS k) HO.out.2.2.2.2 _).mono ?_
      rintro e w2 ⟨rfl, hB2⟩
      rw [HO.out.2.2.2.1]
      have HC2 := Lib.hid (HC1.out.later hB2)
      have HB2 := Lib.hid (Below.next HB1.out hB2)
      obtain ⟨e1, e2⟩ := HC2.out.2 k hlt
      go_wp2_with fail
      go_roundw
      case rel => exact ⟨k + 1, by omega, by go_num, HC2.out, HB2.out⟩
      case measure => simp [intOf]; omega
    · obtain rfl : k = 6 := by omega
      go_wp2_with fail
      refine (letters_no 1025 (by omega) _).mono ?_
      rintro e w1 ⟨rfl, hB1⟩
      have HB1 := Lib.hid (Below.next HB.out hB1)
      go_wp2_with fail
      refine (column_any ⟨#[65, 77, 75]⟩ (by decide) _).mono ?_
      rintro e w2 ⟨rfl, hB2⟩
      rw [show CZ (⟨#[65, 77, 75]⟩ : ByteArray).data.toList = (0, 3) by decide +kernel]
      have HB2 := Lib.hid (Below.next HB1.out hB2)
      go_wp2_with fail
      refine (column_any ⟨#[]⟩ (by decide) _).mono ?_
      rintro e w3 ⟨rfl, hB3⟩
      rw [show CZ (⟨#[]⟩ : ByteArray).data.toList = (0, 4) by decide +kernel]
      have HB3 := Lib.hid (Below.next HB2.out hB3)
      go_wp2_with fail
      refine (column_any ⟨#[65, 49]⟩ (by decide) _).mono ?_
      rintro e w4 ⟨rfl, hB4⟩
      rw [show CZ (⟨#[65, 49]⟩ : ByteArray).data.toList = (0, 4) by decide +kernel]
      have HB4 := Lib.hid (Below.next HB3.out hB4)
      go_wp2_with fail
      refine (column_any ⟨#[65, 65, 65, 65, 65, 65, 65, 65, 65, 65, 65, 65, 65, 65, 65, 65, 65, 65, 65, 65]⟩ (by decide) _).mono ?_
      rintro e w5 ⟨rfl, hB5⟩
      rw [show CZ (⟨#[65, 65, 65, 65, 65, 65, 65, 65, 65, 65, 65, 65, 65, 65, 65, 65, 65, 65, 65, 65]⟩ : ByteArray).data.toList = (0, 3) by decide +kernel]
      have HB5 := Lib.hid (Below.next HB4.out hB5)
      go_wp2_with fail
      refine (parse_any ⟨#[98, 49, 50]⟩ (by decide) _).mono ?_
      rintro e w6 ⟨rfl, hB6⟩
      rw [show PZ (⟨#[98, 49, 50]⟩ : ByteArray).data.toList = (2, 12, 0) by decide +kernel]
      have HB6 := Lib.hid (Below.next HB5.out hB6)
      go_wp2_with fail
      refine (parse_any ⟨#[65, 77, 74, 49, 48, 50, 52]⟩ (by decide) _).mono ?_
      rintro e w7 ⟨rfl, hB7⟩
      rw [show PZ (⟨#[65, 77, 74, 49, 48, 50, 52]⟩ : ByteArray).data.toList = (1024, 1024, 0) by decide +kernel]
      have HR7 := Lib.hid (RefTwo.start (t := 39) (t' := 39) (c := 1024) (d := 1024) HB6.out hB7)
      go_wp2_with fail
      refine (parse_any ⟨#[65, 49, 48, 50, 53]⟩ (by decide) _).mono ?_
      rintro e w8 ⟨rfl, hB8⟩
      rw [show PZ (⟨#[65, 49, 48, 50, 53]⟩ : ByteArray).data.toList = (0, 0, 3) by decide +kernel]
      have HR8 := Lib.hid (HR7.out.later HR7.out.2.2.1.size hB8)
      obtain ⟨_, _, hb8, c1, c2, c3, c4⟩ := HR8.out
      have HB8 := Lib.hid hb8
      have hz8 := hb8.size
      clear hb8
      go_wp2_with fail
      go_loopw [153] (fun i wr => ∃ k : Nat, k ≤ 9 ∧ i = .int .i64 k ∧ Bads wr w8.heap.size ∧ Below w.heap.size w wr) (fun i _ => 9 - (intOf i).toNat)
      case atStart =>
        refine ⟨0, by omega, rfl, ⟨by simp, fun k hk => ?_⟩, HB8.out.alloc hz8 _⟩
        match k, hk with
        | 0, _ => simp [badS]
        | 1, _ => simp [badS]
        | 2, _ => simp [badS]
        | 3, _ => simp [badS]
        | 4, _ => simp [badS]
        | 5, _ => simp [badS]
        | 6, _ => simp [badS]
        | 7, _ => simp [badS]
        | 8, _ => simp [badS]
      case round =>
        obtain ⟨k, hk, rfl, hC, hB⟩ := hrel
        have HC := Lib.hid hC
        have HB9 := Lib.hid hB
        clear hC hB
        by_cases hlt : k < 9
        · have HO := Lib.hid (bad_ok k hlt)
          have c1 := HC.out.2 k hlt
          go_wp2_with fail
          refine (parse_any (badS k) HO.out.2 _).mono ?_
          rintro e w9 ⟨rfl, hB9⟩
          rw [HO.out.1]
          have HB10 := Lib.hid (Below.next HB9.out hB9)
          have HC10 := Lib.hid (HC.out.later hB9)
          go_wp2_with fail
          go_roundw
          case rel => exact ⟨k + 1, by omega, by go_num, HC10.out.later ((Below.refl _ _).alloc (Nat.le_refl _) _), HB10.out.alloc HB10.out.size _⟩
          case measure => simp [intOf]; omega
        · obtain rfl : k = 9 := by omega
          go_wp2_with fail
          refine (format_9 28 (by omega) (by omega) _).mono ?_
          rintro e w9 ⟨rfl, hB9⟩
          rw [show fmtL 28 9 = [65, 66, 57] by decide +kernel]
          have HB10 := Lib.hid (Below.next HB9.out hB9)
          go_wp2_with fail
          refine (index_yes 1 2 (by omega) _).mono ?_
          rintro e w10 ⟨rfl, hB10⟩
          have HB11 := Lib.hid (Below.next HB10.out hB10)
          go_wp2_with fail
          refine (at_yes 1023 (by omega) (by omega) _).mono ?_
          rintro e w11 ⟨rfl, hB11⟩
          have HB12 := Lib.hid (Below.next HB11.out hB11)
          have hz12 := HB12.out.size
          go_wp2_with fail
          refine (at_no 1048576 (by omega) _).mono ?_
          rintro e w12 ⟨rfl, hB12⟩
          obtain ⟨hc, _⟩ := bcell hB12
          have c1 : w12.cell? ⟨w11.heap.size, 0, none⟩ = some (.int .i64 1024) := by rw [hc _ _ (by simp)]; simp
          have c2 : w12.cell? ⟨w11.heap.size, 1, none⟩ = some (.int .i64 1) := by rw [hc _ _ (by simp)]; simp
          have HB13 := Lib.hid (Below.next (HB12.out.alloc hz12 _) hB12)
          clear hc
          go_wp2_with fail
          refine (alless_any 3 1 1 2 _).mono ?_
          rintro e w13 ⟨rfl, hB13⟩
          rw [show lessB 3 1 1 2 = true by decide]
          have HB14 := Lib.hid (Below.next HB13.out hB13)
          go_wp2_with fail
          refine (alless_any 1 2 3 1 _).mono ?_
          rintro e w14 ⟨rfl, hB14⟩
          rw [show lessB 1 2 3 1 = false by decide]
          have HB15 := Lib.hid (Below.next HB14.out hB14)
          go_wp2_with fail
          go_ret
          exact ⟨rfl, HB15.out⟩
end Go.Proofs.YtgedckloooilfaaDoor
