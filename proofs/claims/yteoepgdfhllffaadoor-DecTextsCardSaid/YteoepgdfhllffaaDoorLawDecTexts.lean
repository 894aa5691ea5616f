/- The walk of the law: Parse and Format return what the specification returns. -/
import Derived.Test.YteoepgdfhllffaaDoorTxtR
import Derived.Test.YteoepgdfhllffaaDoorTxtS
import Derived.Test.YteoepgdfhllffaaDoorClosed
namespace Go.Proofs.YteoepgdfhllffaaDoor.Tx
open Go.RowKit
set_option maxRecDepth 100000 in
set_option maxHeartbeats 1600000 in
theorem decTexts_any (a : Int) (ha : InI a) (s : ByteArray) (w : World) (hT : Pow w) :
    Calls Tryd.prog 3 #[.int .i64 a, .string s] w fun e w' => e = .returned (.bool true) ∧ Below w.heap.size w w' := by
  by_cases hs : 2000 < s.size
  · go_enter Tryd.func3, Tryd.ntmps3
    go_wp2_with fail
    refine (Go.Proofs.YteoepgdfhllffaaDoor.known01 _).mono ?_
    rintro e wE ⟨rfl, hBE⟩
    go_wp2_with fail
    go_ret
    exact ⟨rfl, hBE⟩
  · have HPS := Lib.hid (fun (w : World) => parse_any s (by omega) w)
    have HRS := Lib.hid (fun (w : World) => rparse_any s (by omega) w)
    have HFA := Lib.hid (fun (w : World) (hT : Pow w) => format_any a ha w hT)
    have HRA := Lib.hid (fun (w : World) => rformat_any a ha w)
    generalize parV s.data.toList = sv at *
    generalize parE s.data.toList = se at *
    generalize (⟨(fmtL a).toArray⟩ : ByteArray) = F at *
    clear ha
    go_enter Tryd.func3, Tryd.ntmps3
    go_wp2_with fail
    refine (HPS.out _).mono ?_
    rintro e w1 ⟨rfl, hB1⟩
    have HB1 := Lib.hid hB1
    clear hB1
    go_wp2_with fail
    refine (HRS.out _).mono ?_
    rintro e w2 ⟨rfl, hB2⟩
    have HB2 := Lib.hid (bnext HB1.out hB2)
    have HT2 := Lib.hid (hT.later HB2.out)
    clear hB2
    go_wp2_with fail
    refine (HFA.out _ HT2.out).mono ?_
    rintro e w3 ⟨rfl, hB3⟩
    have HB3 := Lib.hid (bnext HB2.out hB3)
    clear hB3
    go_wp2_with fail
    refine (HRA.out _).mono ?_
    rintro e w4 ⟨rfl, hB4⟩
    have HB4 := Lib.hid (bnext HB3.out hB4)
    clear hB4
    go_wp2_with fail
    go_ret
    exact ⟨rfl, HB4.out⟩
theorem decTexts_law (a : Int) (s : ByteArray) (w : World) (h0 : (Lit.int .i64 a).wf = true) (hl : laidMetH Tryd.prog Rows.decTextsRow.laid w) :
    Calls Tryd.prog 3 #[.int .i64 a, .string s] w fun e w' => e = .returned (.bool true) ∧ Below w.heap.size w w' :=
  decTexts_any a (inI_of_wf h0) s w (pow_third (x := ("math/bits.deBruijn32tab", Rows.laid_math_bits_deBruijn32tab)) (y := ("math/bits.deBruijn64tab", Rows.laid_math_bits_deBruijn64tab)) (MakeChecks.laidMetH_plain _ _ _ (by kernel_rfl)) hl)
end Go.Proofs.YteoepgdfhllffaaDoor.Tx
