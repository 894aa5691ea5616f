/- GlyphCapitals: Upper and Lower are idempotent, keep the length, and undo each other's work. -/
import Derived.Test.YtgoddihlonhibaaDoorGlyphKnown
import Derived.BigQuiet
namespace Go.Proofs.YtgoddihlonhibaaDoor
open Go.RowKit GM
theorem upS_upS (s : ByteArray) : upS (upS s) = upS s := by unfold upS; rw [str_data, map_up_up]
theorem loS_loS (s : ByteArray) : loS (loS s) = loS s := by unfold loS; rw [str_data, map_lo_lo]
theorem upS_loS (s : ByteArray) : upS (loS s) = upS s := by unfold upS loS; rw [str_data, map_up_lo]
theorem loS_upS (s : ByteArray) : loS (upS s) = loS s := by unfold upS loS; rw [str_data, map_lo_up]
theorem str_get (l : List UInt8) (k : Nat) (h : k < (str l).size) : (str l)[k] = l[k]'(by rw [str_size] at h; exact h) := by
  show (str l).data[k]'h = _
  simp [str]
theorem upS_at (s : ByteArray) (k : Nat) (h : k < s.size) (h' : k < (upS s).size) : ((upS s)[k].toNat : Int) = upI (s[k].toNat : Int) := by
  unfold upS at h' ⊢
  rw [str_get, List.getElem_map, up_int]
  rfl
theorem loS_at (s : ByteArray) (k : Nat) (h : k < s.size) (h' : k < (loS s).size) : ((loS s)[k].toNat : Int) = loI (s[k].toNat : Int) := by
  unfold loS at h' ⊢
  rw [str_get, List.getElem_map, lo_int]
  rfl
theorem drewN_below {B : Nat} {a w : World} (h : Below B a w) (n : Nat) : Below B a (w.drewN n) := ⟨h.os, h.tape, h.output, h.size, h.block⟩
set_option maxRecDepth 100000 in
set_option maxHeartbeats 12800000 in
theorem glyphCapitals_any (s : ByteArray) (w : World) (hs : s.size ≤ maxLen) (hM : ML w) :
    Calls Tryd.prog 7 #[.string s] w fun e w' => e = .returned (.bool true) ∧ Below w.heap.size w w' := by
  have HS := Lib.hid hs
  have HM := Lib.hid hM
  clear hM
  unfold maxLen at hs
  by_cases h : 600 < s.size
  · go_enter Tryd.func7, Tryd.ntmps7
    go_wp2_with fail
    refine (known_any _ HM.out).mono ?_
    rintro e w1 ⟨rfl, hB1⟩
    have HB1 := Lib.hid hB1
    clear hB1
    go_wp2_with fail
    go_ret
    exact ⟨rfl, HB1.out⟩
  · have HUU := Lib.hid (upS_upS s)
    have HLL := Lib.hid (loS_loS s)
    have HUL := Lib.hid (upS_loS s)
    have HLU := Lib.hid (loS_upS s)
    have HCU := Lib.hid (upper_any s HS.out)
    have HCL := Lib.hid (lower_any s HS.out)
    have hz1 := Nat.le_of_eq (upS_size s)
    have hz2 := Nat.le_of_eq (upS_size s).symm
    have hz3 := Nat.le_of_eq (loS_size s)
    have hz4 := Nat.le_of_eq (loS_size s).symm
    have HAU := Lib.hid (upS_at s)
    have HAL := Lib.hid (loS_at s)
    generalize upS s = u at *
    generalize loS s = l at *
    have HSU : Hid (u.size ≤ maxLen) := by unfold Hid maxLen; omega
    have HSL : Hid (l.size ≤ maxLen) := by unfold Hid maxLen; omega
    have e1 : ((u.size : Int) == (s.size : Int)) = true := by rw [beq_iff_eq]; omega
    have e2 : ((l.size : Int) == (s.size : Int)) = true := by rw [beq_iff_eq]; omega
    have e1' : ((u.size : Int) != (s.size : Int)) = false := by rw [bne_eq_false_iff_eq]; omega
    have e2' : ((l.size : Int) != (s.size : Int)) = false := by rw [bne_eq_false_iff_eq]; omega
    go_enter Tryd.func7, Tryd.ntmps7
    go_wp2_with fail
    refine (HCU.out _).mono ?_
    rintro e w1 ⟨rfl, hB⟩
    have HB1 := Lib.hid hB
    clear hB
    go_wp2_with fail
    refine (HCL.out _).mono ?_
    rintro e w2 ⟨rfl, hB⟩
    have HB2 := Lib.hid (Below.next HB1.out hB)
    clear hB
    go_wp2_with fail
    refine (upper_any u HSU.out _).mono ?_
    rintro e w3 ⟨rfl, hB⟩
    rw [HUU.out]
    have HB3 := Lib.hid (Below.next HB2.out hB)
    clear hB
    go_wp2_with fail
    refine (lower_any l HSL.out _).mono ?_
    rintro e w4 ⟨rfl, hB⟩
    rw [HLL.out]
    have HB4 := Lib.hid (Below.next HB3.out hB)
    clear hB
    go_wp2_with fail
    refine (upper_any l HSL.out _).mono ?_
    rintro e w5 ⟨rfl, hB⟩
    rw [HUL.out]
    have HB5 := Lib.hid (Below.next HB4.out hB)
    clear hB
    go_wp2_with fail
    refine (lower_any u HSU.out _).mono ?_
    rintro e w6 ⟨rfl, hB⟩
    rw [HLU.out]
    have HB6 := Lib.hid (Below.next HB5.out hB)
    clear hB
    go_wp2_with fail
    go_loopw [5] (fun i wr => ∃ k : Nat, k ≤ s.size ∧ i = .int .i64 k ∧ Below w.heap.size w wr) (fun i _ => s.size - (intOf i).toNat)
    case atStart => exact ⟨0, Nat.zero_le _, rfl, HB6.out⟩
    case round =>
      obtain ⟨k, hk, rfl, hB⟩ := hrel
      have HB := Lib.hid hB
      clear hB
      by_cases hlt : k < s.size
      · have hlu : k < u.size := by omega
        have hll : k < l.size := by omega
        have hu := HAU.out k hlt hlu
        have hl := HAL.out k hlt hll
        have b0 : 0 ≤ (s[k].toNat : Int) := by omega
        have b1 : (s[k].toNat : Int) ≤ 255 := by have := s[k].toNat_lt; omega
        unfold upI at hu
        unfold loI at hl
        generalize hcc : (s[k].toNat : Int) = c at *
        generalize huu : (u[k].toNat : Int) = cu at *
        generalize hl2 : (l[k].toNat : Int) = cl at *
        rcases Int.lt_or_le c 65 with a | a
        · rw [if_neg (by omega)] at hu hl
          have f1 : decide (97 ≤ cu) = false := decide_eq_false (by omega)
          have f3 : decide (65 ≤ cl) = false := decide_eq_false (by omega)
          have f5 : (c != cu) = false := by rw [bne_eq_false_iff_eq]; omega
          clear hu hl
          go_wp2_with fail
          go_quiet (fail)
          go_wp2_with fail
          go_roundw
          case rel => exact ⟨k + 1, by omega, by go_num, drewN_below HB.out _⟩
          case measure => simp [intOf]; omega
        · rcases Int.lt_or_le 122 c with d | d
          · rw [if_neg (by omega)] at hu hl
            have f1 : decide (97 ≤ cu) = true := decide_eq_true (by omega)
            have f2 : decide (cu ≤ 122) = false := decide_eq_false (by omega)
            have f3 : decide (65 ≤ cl) = true := decide_eq_true (by omega)
            have f4 : decide (cl ≤ 90) = false := decide_eq_false (by omega)
            have f5 : (c != cu) = false := by rw [bne_eq_false_iff_eq]; omega
            clear hu hl
            go_wp2_with fail
            go_quiet (fail)
            go_wp2_with fail
            go_roundw
            case rel => exact ⟨k + 1, by omega, by go_num, drewN_below HB.out _⟩
            case measure => simp [intOf]; omega
          · rcases Int.lt_or_le c 97 with e | e
            · rcases Int.lt_or_le 90 c with f | f
              · rw [if_neg (by omega)] at hu hl
                have f1 : decide (97 ≤ cu) = false := decide_eq_false (by omega)
                have f3 : decide (65 ≤ cl) = true := decide_eq_true (by omega)
                have f4 : decide (cl ≤ 90) = false := decide_eq_false (by omega)
                have f5 : (c != cu) = false := by rw [bne_eq_false_iff_eq]; omega
                clear hu hl
                go_wp2_with fail
                go_quiet (fail)
                go_wp2_with fail
                go_roundw
                case rel => exact ⟨k + 1, by omega, by go_num, drewN_below HB.out _⟩
                case measure => simp [intOf]; omega
              · rw [if_neg (by omega)] at hu
                rw [if_pos (by omega)] at hl
                have f1 : decide (97 ≤ cu) = false := decide_eq_false (by omega)
                have f3 : decide (65 ≤ cl) = true := decide_eq_true (by omega)
                have f4 : decide (cl ≤ 90) = false := decide_eq_false (by omega)
                have f5 : (c != cu) = false := by rw [bne_eq_false_iff_eq]; omega
                clear hu hl
                go_wp2_with fail
                go_quiet (fail)
                go_wp2_with fail
                go_roundw
                case rel => exact ⟨k + 1, by omega, by go_num, drewN_below HB.out _⟩
                case measure => simp [intOf]; omega
            · rw [if_pos (by omega)] at hu
              rw [if_neg (by omega)] at hl
              have f1 : decide (97 ≤ cu) = false := decide_eq_false (by omega)
              have f3 : decide (65 ≤ cl) = true := decide_eq_true (by omega)
              have f4 : decide (cl ≤ 90) = false := decide_eq_false (by omega)
              have f5 : (c != cu) = true := by rw [bne_iff_ne]; omega
              have f6 : (c != cl) = false := by rw [bne_eq_false_iff_eq]; omega
              clear hu hl
              go_wp2_with fail
              go_quiet (fail)
              go_wp2_with fail
              go_roundw
              case rel => exact ⟨k + 1, by omega, by go_num, drewN_below HB.out _⟩
              case measure => simp [intOf]; omega
      · obtain rfl : k = s.size := by omega
        go_wp2_with fail
        refine (known_any _ (HM.out.later HB.out)).mono ?_
        rintro e w7 ⟨rfl, hB⟩
        have HB7 := Lib.hid (Below.next HB.out hB)
        clear hB
        go_wp2_with fail
        go_ret
        exact ⟨rfl, HB7.out⟩
end Go.Proofs.YtgoddihlonhibaaDoor
