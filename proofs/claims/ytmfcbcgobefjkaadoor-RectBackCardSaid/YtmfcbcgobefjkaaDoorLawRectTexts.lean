/- RectTexts: Parse and Format return what the specification returns. -/
import Derived.Test.YtmfcbcgobefjkaaDoorRectQ
import Derived.Test.YtmfcbcgobefjkaaDoorRectF
import Derived.Test.YtmfcbcgobefjkaaDoorRectKnown
namespace Go.Proofs.YtmfcbcgobefjkaaDoor
open Go.RowKit AM
def rfS (a b c d : Int) : ByteArray := if ckB a b c d = true then ⟨(fmtR a b c d).toArray⟩ else ⟨#[]⟩
theorem fmtC_of {w : World} (hp : Pow w) {a b : Int} (h : okR a b = true) : FmtC w a b := fun W hB => format_yes a b h W (hp.later hB)
theorem rfmt_all (a b c d : Int) (w : World) (hp : Pow w) :
    Calls Tryd.prog 27 #[.agg #[.int .i64 a, .int .i64 b, .int .i64 c, .int .i64 d]] w fun e w' => e = .returned (.tuple #[.string (rfS a b c d), .int .i64 (ckE a b c d)]) ∧ Below w.heap.size w w' := by
  cases h : ckB a b c d
  · rw [rfS, if_neg (by rw [h]; decide), ckE_f h]; exact rfmt_no a b c d h w
  · have hq := ckB_iff.1 h
    rw [rfS, if_pos h, ckE_t h]; exact rfmt_yes a b c d h w (fmtC_of hp (okR_t hq.1)) (fmtC_of hp (okR_t hq.2.1))
theorem qfmt_all (a b c d : Int) (w : World) :
    Calls Tryd.prog 28 #[.agg #[.int .i64 a, .int .i64 b, .int .i64 c, .int .i64 d]] w fun e w' => e = .returned (.tuple #[.string (rfS a b c d), .int .i64 (ckE a b c d)]) ∧ Below w.heap.size w w' := by
  cases h : ckB a b c d
  · rw [rfS, if_neg (by rw [h]; decide), ckE_f h]; exact qfmt_no a b c d h w
  · rw [rfS, if_pos h, ckE_t h]; exact qfmt_yes a b c d h w
theorem pow_of_laidT {w : World} (hl : laidMetH Tryd.prog Rows.rectTextsRow.laid w) : Pow w :=
  pow_third (x := ("math/bits.deBruijn32tab", Rows.laid_math_bits_deBruijn32tab)) (y := ("math/bits.deBruijn64tab", Rows.laid_math_bits_deBruijn64tab)) (MakeChecks.laidMetH_plain _ _ _ (by kernel_rfl)) hl
set_option maxRecDepth 100000 in
set_option maxHeartbeats 3200000 in
theorem rectTexts_any (a b c d : Int) (s : ByteArray) (w : World) (hs : s.size ≤ maxLen) (hl : laidMetH Tryd.prog Rows.rectTextsRow.laid w) :
    Calls Tryd.prog 5 #[.agg #[.int .i64 a, .int .i64 b, .int .i64 c, .int .i64 d], .string s] w fun e w' => e = .returned (.bool true) ∧ Below w.heap.size w w' := by
  have HP := Lib.hid (pow_of_laidT hl)
  unfold maxLen at hs
  clear hl
  rcases Nat.lt_or_ge 2000 s.size with hlen | hlen
  · go_enter Tryd.func5, Tryd.ntmps5
    go_wp2_with fail
    refine (knownR_any _).mono ?_
    rintro e w1 ⟨rfl, hB⟩
    go_wp2_with fail
    go_ret
    exact ⟨rfl, Below.next (below_alloc w _) hB⟩
  · go_enter Tryd.func5, Tryd.ntmps5
    go_wp2_with fail
    refine (rparse_all s hlen _).mono ?_
    rintro e w1 ⟨rfl, hB1⟩
    have F1 := Lib.hid ((Four.start w a b c d 23).later hB1)
    have B1 := Lib.hid (Below.next (below_alloc w (.cells #[.int .i64 a, .int .i64 b, .int .i64 c, .int .i64 d] 23)) hB1)
    clear hB1
    unfold rzV
    obtain ⟨rz, hz⟩ : ∃ rz, RZ s.data.toList = rz := ⟨_, rfl⟩
    have HZ := Lib.hid hz
    rw [hz]
    clear hz
    obtain ⟨r1, r2, r3, r4, r5⟩ := rz
    dsimp only
    go_wp2_with fail
    refine (qparse_all s hlen _).mono ?_
    rintro e w2 ⟨rfl, hB2⟩
    unfold rzV
    rw [HZ.out]
    dsimp only
    have l1 := below_alloc w1 (.cells #[.int .i64 r1, .int .i64 r2, .int .i64 r3, .int .i64 r4] 23)
    have l2 := below_alloc w2 (.cells #[.int .i64 r1, .int .i64 r2, .int .i64 r3, .int .i64 r4] 23)
    have FA := Lib.hid (((F1.out.later l1).later hB2).later l2)
    have P1 := Lib.hid (((Four.start w1 r1 r2 r3 r4 23).later hB2).later l2)
    have P2 := Lib.hid (Four.start w2 r1 r2 r3 r4 23)
    have B2 := Lib.hid (Below.next (Below.next (Below.next B1.out l1) hB2) l2)
    clear l1 l2 hB2
    obtain ⟨_, g1, g2, g3, g4⟩ := FA.out
    go_wp2_with fail
    refine (rfmt_all a b c d _ (HP.out.later B2.out)).mono ?_
    rintro e w3 ⟨rfl, hB3⟩
    have FA3 := Lib.hid (FA.out.later hB3)
    have P13 := Lib.hid (P1.out.later hB3)
    have P23 := Lib.hid (P2.out.later hB3)
    have B3 := Lib.hid (Below.next B2.out hB3)
    clear g1 g2 g3 g4 hB3
    obtain ⟨_, g1, g2, g3, g4⟩ := FA3.out
    go_wp2_with fail
    refine (qfmt_all a b c d _).mono ?_
    rintro e w4 ⟨rfl, hB4⟩
    have P14 := Lib.hid (P13.out.later hB4)
    have P24 := Lib.hid (P23.out.later hB4)
    have B4 := Lib.hid (Below.next B3.out hB4)
    clear g1 g2 g3 g4 hB4
    obtain ⟨_, x1, x2, x3, x4⟩ := P14.out
    obtain ⟨_, y1, y2, y3, y4⟩ := P24.out
    generalize rfS a b c d = t at *
    generalize ckE a b c d = u at *
    go_wp2_with fail
    go_ret
    exact ⟨rfl, B4.out⟩
end Go.Proofs.YtmfcbcgobefjkaaDoor
