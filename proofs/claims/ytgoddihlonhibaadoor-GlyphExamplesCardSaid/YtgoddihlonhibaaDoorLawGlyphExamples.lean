/- GlyphExamples: the examples of the chapter. -/
import Derived.Test.YtgoddihlonhibaaDoorGlyphKnown
import Derived.Test.YtgoddihlonhibaaDoorGlyphMany
namespace Go.Proofs.YtgoddihlonhibaaDoor
open Go.RowKit GM
theorem m_256 : chk (str (List.replicate 256 (120 : UInt8))).data.toList = 0 := by rw [str_data]; decide +kernel
theorem m_256z : (str (List.replicate 256 (120 : UInt8))).size ≤ maxLen := by rw [str_size, List.length_replicate]; decide
theorem m_257 : chk (str (List.replicate 257 (120 : UInt8))).data.toList = 5 := by rw [str_data]; decide +kernel
theorem m_257z : (str (List.replicate 257 (120 : UInt8))).size ≤ maxLen := by rw [str_size, List.length_replicate]; decide
theorem m_31 : chk (str (List.replicate 1 (31 : UInt8))).data.toList = 4 := by rw [str_data]; decide +kernel
theorem m_31z : (str (List.replicate 1 (31 : UInt8))).size ≤ maxLen := by rw [str_size, List.length_replicate]; decide
theorem m_312 : chk (str (List.replicate 257 (31 : UInt8))).data.toList = 5 := by rw [str_data]; decide +kernel
theorem m_312z : (str (List.replicate 257 (31 : UInt8))).size ≤ maxLen := by rw [str_size, List.length_replicate]; decide
theorem m_127 : chk (str (List.replicate 1 (127 : UInt8))).data.toList = 4 := by rw [str_data]; decide +kernel
theorem m_127z : (str (List.replicate 1 (127 : UInt8))).size ≤ maxLen := by rw [str_size, List.length_replicate]; decide
theorem x_10 : chk (⟨#[32, 126]⟩ : ByteArray).data.toList = 0 := by decide +kernel
theorem x_11 : upS (⟨#[97, 90, 95, 49, 122]⟩ : ByteArray) = (⟨#[65, 90, 95, 49, 90]⟩ : ByteArray) := by unfold upS; rw [show (⟨#[97, 90, 95, 49, 122]⟩ : ByteArray).data.toList.map up = [65, 90, 95, 49, 90] by decide +kernel]; rfl
theorem x_12 : loS (⟨#[97, 90, 95, 49, 65]⟩ : ByteArray) = (⟨#[97, 122, 95, 49, 97]⟩ : ByteArray) := by unfold loS; rw [show (⟨#[97, 90, 95, 49, 65]⟩ : ByteArray).data.toList.map lo = [97, 122, 95, 49, 97] by decide +kernel]; rfl
theorem x_13 : cmpS (⟨#[97]⟩ : ByteArray).data.toList (⟨#[66]⟩ : ByteArray).data.toList = -1 := by decide +kernel
theorem x_14 : cmpS (⟨#[65, 98]⟩ : ByteArray).data.toList (⟨#[97, 66]⟩ : ByteArray).data.toList = 0 := by decide +kernel
theorem x_15 : cmpS (⟨#[97]⟩ : ByteArray).data.toList (⟨#[]⟩ : ByteArray).data.toList = 1 := by decide +kernel
theorem x_16 : cmpS (⟨#[95]⟩ : ByteArray).data.toList (⟨#[97]⟩ : ByteArray).data.toList = 1 := by decide +kernel
theorem x_17 : str (trim (⟨#[32, 32, 97, 32, 32, 32, 98, 32]⟩ : ByteArray).data.toList) = (⟨#[97, 32, 98]⟩ : ByteArray) := by rw [show trim (⟨#[32, 32, 97, 32, 32, 32, 98, 32]⟩ : ByteArray).data.toList = [97, 32, 98] by decide +kernel]; rfl
theorem x_18 : str (trim (⟨#[32, 32, 32]⟩ : ByteArray).data.toList) = (⟨#[]⟩ : ByteArray) := by rw [show trim (⟨#[32, 32, 32]⟩ : ByteArray).data.toList = [] by decide +kernel]; rfl
theorem x_19 : str (quoS (⟨#[97, 34, 98]⟩ : ByteArray).data.toList) = (⟨#[34, 97, 34, 34, 98, 34]⟩ : ByteArray) := by rw [show quoS (⟨#[97, 34, 98]⟩ : ByteArray).data.toList = [34, 97, 34, 34, 98, 34] by decide +kernel]; rfl
theorem x_19c : chk (⟨#[97, 34, 98]⟩ : ByteArray).data.toList = 0 := by decide +kernel
theorem x_21 : unqS (⟨#[34, 97, 34, 34, 98, 34]⟩ : ByteArray).data.toList = ([97, 34, 98], 0) := by decide +kernel
theorem x_21s : str [97, 34, 98] = (⟨#[97, 34, 98]⟩ : ByteArray) := rfl
theorem x_23 : unqS (⟨#[34, 34, 34, 34]⟩ : ByteArray).data.toList = ([34], 0) := by decide +kernel
theorem x_23s : str [34] = (⟨#[34]⟩ : ByteArray) := rfl
theorem x_25 : unqS (⟨#[34, 34]⟩ : ByteArray).data.toList = ([], 0) := by decide +kernel
theorem x_25s : str [] = (⟨#[]⟩ : ByteArray) := rfl
def badS (k : Nat) : ByteArray := match k with | 0 => ⟨#[34]⟩ | 1 => ⟨#[34, 34, 34]⟩ | 2 => ⟨#[97]⟩ | 3 => ⟨#[]⟩ | 4 => ⟨#[34, 97]⟩ | 5 => ⟨#[97, 34]⟩ | 6 => ⟨#[34, 97, 34, 98, 34]⟩ | _ => ⟨#[34, 9, 34]⟩
theorem bad_ok : ∀ k, k < 8 → unqS (badS k).data.toList = ([], 4) ∧ (badS k).size ≤ 4000 := by decide +kernel
def Bads (w : World) (b : Nat) : Prop := b < w.heap.size ∧ ∀ k, k < 8 → w.cell? ⟨b, k, none⟩ = some (.string (badS k))
theorem Bads.later {w w' : World} {b : Nat} (h : Bads w b) (hB : Below w.heap.size w w') : Bads w' b := by
  obtain ⟨hc, _⟩ := bcell hB
  have := hB.size
  have := h.1
  refine ⟨by omega, fun k hk => ?_⟩
  rw [hc _ _ h.1]; exact h.2 k hk
theorem chk_long_many : chk (List.replicate 257 (120 : UInt8)) = 5 := by decide +kernel
theorem quoS_many : quoS (List.replicate 257 (120 : UInt8)) = [] := by decide +kernel
theorem lit_str (l : List UInt8) : (⟨#[34]⟩ : ByteArray) ++ str l ++ ⟨#[34]⟩ = str (34 :: (l ++ [34])) := quo_str l
theorem un_long : unqS (34 :: (List.replicate 257 (120 : UInt8) ++ [34])) = ([], 5) := by decide +kernel
theorem un_512 : unqS (34 :: (List.replicate 512 (34 : UInt8) ++ [34])) = (List.replicate 256 34, 0) := by decide +kernel
set_option maxRecDepth 100000 in
set_option maxHeartbeats 12800000 in
theorem glyphExamples_any (w : World) (hM : ML w) :
    Calls Tryd.prog 5 #[] w fun e w' => e = .returned (.bool true) ∧ Below w.heap.size w w' := by
  have HM := Lib.hid hM
  clear hM
  go_enter Tryd.func5, Tryd.ntmps5
  go_wp2_with fail
  refine (many_any 120 256 (by decide) _).mono ?_
  rintro e w1 ⟨rfl, hB⟩
  have HB1 := Lib.hid hB
  clear hB
  go_wp2_with fail
  refine (check_any _ m_256z _).mono ?_
  rintro e w2 ⟨rfl, rfl⟩
  rw [m_256]
  go_wp2_with fail
  refine (many_any 120 257 (by decide) _).mono ?_
  rintro e w3 ⟨rfl, hB⟩
  have HB3 := Lib.hid (Below.next HB1.out hB)
  clear hB
  go_wp2_with fail
  refine (check_any _ m_257z _).mono ?_
  rintro e w4 ⟨rfl, rfl⟩
  rw [m_257]
  go_wp2_with fail
  refine (many_any 31 1 (by decide) _).mono ?_
  rintro e w5 ⟨rfl, hB⟩
  have HB5 := Lib.hid (Below.next HB3.out hB)
  clear hB
  go_wp2_with fail
  refine (check_any _ m_31z _).mono ?_
  rintro e w6 ⟨rfl, rfl⟩
  rw [m_31]
  go_wp2_with fail
  refine (many_any 31 257 (by decide) _).mono ?_
  rintro e w7 ⟨rfl, hB⟩
  have HB7 := Lib.hid (Below.next HB5.out hB)
  clear hB
  go_wp2_with fail
  refine (check_any _ m_312z _).mono ?_
  rintro e w8 ⟨rfl, rfl⟩
  rw [m_312]
  go_wp2_with fail
  refine (many_any 127 1 (by decide) _).mono ?_
  rintro e w9 ⟨rfl, hB⟩
  have HB9 := Lib.hid (Below.next HB7.out hB)
  clear hB
  go_wp2_with fail
  refine (check_any _ m_127z _).mono ?_
  rintro e w10 ⟨rfl, rfl⟩
  rw [m_127]
  go_wp2_with fail
  refine (check_any (⟨#[32, 126]⟩ : ByteArray) (by decide) _).mono ?_
  rintro e w11 ⟨rfl, rfl⟩
  rw [x_10]
  go_wp2_with fail
  refine (upper_any (⟨#[97, 90, 95, 49, 122]⟩ : ByteArray) (by decide) _).mono ?_
  rintro e w12 ⟨rfl, hB⟩
  rw [x_11]
  have HB12 := Lib.hid (Below.next HB9.out hB)
  clear hB
  go_wp2_with fail
  refine (lower_any (⟨#[97, 90, 95, 49, 65]⟩ : ByteArray) (by decide) _).mono ?_
  rintro e w13 ⟨rfl, hB⟩
  rw [x_12]
  have HB13 := Lib.hid (Below.next HB12.out hB)
  clear hB
  go_wp2_with fail
  refine (compare_any (⟨#[97]⟩ : ByteArray) (⟨#[66]⟩ : ByteArray) (by decide) (by decide) _).mono ?_
  rintro e w14 ⟨rfl, hB⟩
  rw [x_13]
  have HB14 := Lib.hid (Below.next HB13.out hB)
  clear hB
  go_wp2_with fail
  refine (compare_any (⟨#[65, 98]⟩ : ByteArray) (⟨#[97, 66]⟩ : ByteArray) (by decide) (by decide) _).mono ?_
  rintro e w15 ⟨rfl, hB⟩
  rw [x_14]
  have HB15 := Lib.hid (Below.next HB14.out hB)
  clear hB
  go_wp2_with fail
  refine (compare_any (⟨#[97]⟩ : ByteArray) (⟨#[]⟩ : ByteArray) (by decide) (by decide) _).mono ?_
  rintro e w16 ⟨rfl, hB⟩
  rw [x_15]
  have HB16 := Lib.hid (Below.next HB15.out hB)
  clear hB
  go_wp2_with fail
  refine (compare_any (⟨#[95]⟩ : ByteArray) (⟨#[97]⟩ : ByteArray) (by decide) (by decide) _).mono ?_
  rintro e w17 ⟨rfl, hB⟩
  rw [x_16]
  have HB17 := Lib.hid (Below.next HB16.out hB)
  clear hB
  go_wp2_with fail
  refine (trim_any (⟨#[32, 32, 97, 32, 32, 32, 98, 32]⟩ : ByteArray) (by decide) _).mono ?_
  rintro e w18 ⟨rfl, hB⟩
  rw [x_17]
  have HB18 := Lib.hid (Below.next HB17.out hB)
  clear hB
  go_wp2_with fail
  refine (trim_any (⟨#[32, 32, 32]⟩ : ByteArray) (by decide) _).mono ?_
  rintro e w19 ⟨rfl, hB⟩
  rw [x_18]
  have HB19 := Lib.hid (Below.next HB18.out hB)
  clear hB
  go_wp2_with fail
  refine (quote_any (⟨#[97, 34, 98]⟩ : ByteArray) (by decide) _ (HM.out.later HB19.out)).mono ?_
  rintro e w20 ⟨rfl, hB⟩
  rw [x_19, x_19c]
  have HB20 := Lib.hid (Below.next HB19.out hB)
  clear hB
  go_wp2_with fail
  refine (unquote_any (⟨#[34, 97, 34, 34, 98, 34]⟩ : ByteArray) (by decide) _).mono ?_
  rintro e w21 ⟨rfl, hB⟩
  rw [x_21]
  have HB21 := Lib.hid (Below.next HB20.out hB)
  clear hB
  dsimp only
  rw [x_21s]
  go_wp2_with fail
  refine (unquote_any (⟨#[34, 34, 34, 34]⟩ : ByteArray) (by decide) _).mono ?_
  rintro e w22 ⟨rfl, hB⟩
  rw [x_23]
  have HB22 := Lib.hid (Below.next HB21.out hB)
  clear hB
  dsimp only
  rw [x_23s]
  go_wp2_with fail
  refine (unquote_any (⟨#[34, 34]⟩ : ByteArray) (by decide) _).mono ?_
  rintro e w23 ⟨rfl, hB⟩
  rw [x_25]
  have HB23 := Lib.hid (Below.next HB22.out hB)
  clear hB
  dsimp only
  rw [x_25s]
  have hz23 := HB23.out.size
  go_wp2_with fail
  go_loopw [119] (fun i wr => ∃ k : Nat, k ≤ 8 ∧ i = .int .i64 k ∧ Bads wr w23.heap.size ∧ Below w.heap.size w wr) (fun i _ => 8 - (intOf i).toNat)
  case atStart =>
    refine ⟨0, by omega, rfl, ⟨by simp, fun k hk => ?_⟩, HB23.out.alloc hz23 _⟩
    match k, hk with
    | 0, _ => simp [badS]
    | 1, _ => simp [badS]
    | 2, _ => simp [badS]
    | 3, _ => simp [badS]
    | 4, _ => simp [badS]
    | 5, _ => simp [badS]
    | 6, _ => simp [badS]
    | 7, _ => simp [badS]
  case round =>
    obtain ⟨k, hk, rfl, hC, hB⟩ := hrel
    have HC := Lib.hid hC
    have HB := Lib.hid hB
    clear hC hB
    by_cases hlt : k < 8
    · have HO := Lib.hid (bad_ok k hlt)
      have c1 := HC.out.2 k hlt
      go_wp2_with fail
      refine (unquote_any (badS k) HO.out.2 _).mono ?_
      rintro e v1 ⟨rfl, hB1⟩
      rw [HO.out.1]
      have HB1' := Lib.hid (Below.next HB.out hB1)
      have HC1 := Lib.hid (HC.out.later hB1)
      clear hB1
      go_wp2_with fail
      go_roundw
      case rel => exact ⟨k + 1, by omega, by go_num, HC1.out, HB1'.out⟩
      case measure => simp [intOf]; omega
    · obtain rfl : k = 8 := by omega
      go_wp2_with fail
      refine (many_any 120 257 (by decide) _).mono ?_
      rintro e v1 ⟨rfl, hB⟩
      have HV1 := Lib.hid (Below.next HB.out hB)
      clear hB
      go_wp2_with fail
      refine (quote_any (str (List.replicate 257 120)) (by rw [str_size, List.length_replicate]; decide) _ (HM.out.later HV1.out)).mono ?_
      rintro e v2 ⟨rfl, hB⟩
      rw [str_data, chk_long_many, quoS_many]
      have HV2 := Lib.hid (Below.next HV1.out hB)
      clear hB
      go_wp2_with fail
      refine (many_any 120 257 (by decide) _).mono ?_
      rintro e v3 ⟨rfl, hB⟩
      have HV3 := Lib.hid (Below.next HV2.out hB)
      clear hB
      have a1 := fun W => run_string_add_sum (P := Tryd.prog) W ⟨#[34]⟩ (str (List.replicate 257 120)) (by rw [str_size, List.length_replicate]; decide)
      have a2 := fun W => run_string_add_sum (P := Tryd.prog) W (⟨#[34]⟩ ++ str (List.replicate 257 120)) ⟨#[34]⟩ (by rw [ByteArray.size_append, str_size, List.length_replicate]; decide)
      go_wp2_with fail
      clear a1 a2
      rw [lit_str]
      refine (unquote_any (str (34 :: (List.replicate 257 (120 : UInt8) ++ [34]))) (by rw [str_size]; simp) _).mono ?_
      rintro e v4 ⟨rfl, hB⟩
      rw [str_data, un_long]
      have HV4 := Lib.hid (Below.next HV3.out hB)
      clear hB
      go_wp2_with fail
      refine (many_any 34 512 (by decide) _).mono ?_
      rintro e v5 ⟨rfl, hB⟩
      have HV5 := Lib.hid (Below.next HV4.out hB)
      clear hB
      have a1 := fun W => run_string_add_sum (P := Tryd.prog) W ⟨#[34]⟩ (str (List.replicate 512 34)) (by rw [str_size, List.length_replicate]; decide)
      have a2 := fun W => run_string_add_sum (P := Tryd.prog) W (⟨#[34]⟩ ++ str (List.replicate 512 34)) ⟨#[34]⟩ (by rw [ByteArray.size_append, str_size, List.length_replicate]; decide)
      go_wp2_with fail
      clear a1 a2
      rw [lit_str]
      refine (unquote_any (str (34 :: (List.replicate 512 (34 : UInt8) ++ [34]))) (by rw [str_size]; simp) _).mono ?_
      rintro e v6 ⟨rfl, hB⟩
      rw [str_data, un_512]
      dsimp only
      have HV6 := Lib.hid (Below.next HV5.out hB)
      clear hB
      go_wp2_with fail
      refine (many_any 34 256 (by decide) _).mono ?_
      rintro e v7 ⟨rfl, hB⟩
      have HV7 := Lib.hid (Below.next HV6.out hB)
      clear hB
      go_wp2_with fail
      go_ret
      exact ⟨rfl, HV7.out⟩
end Go.Proofs.YtgoddihlonhibaaDoor
