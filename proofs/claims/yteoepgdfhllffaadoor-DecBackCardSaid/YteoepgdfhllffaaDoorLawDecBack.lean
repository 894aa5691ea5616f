/- The walk of the law: what was written is read as the number; what was read is written no longer. -/
import Derived.Test.YteoepgdfhllffaaDoorTxtE
import Derived.Test.YteoepgdfhllffaaDoorClosed
namespace Go.Proofs.YteoepgdfhllffaaDoor.Tx
open Go.RowKit
theorem par_fmt_cases {a : Int} (h : InI a) : (a = -9223372036854775808 ∧ parV (fmtL a) = 0 ∧ parE (fmtL a) = 3) ∨ (-9223372036854775808 < a ∧ parV (fmtL a) = a ∧ parE (fmtL a) = 0) := by
  unfold InI at h
  by_cases e : a = -9223372036854775808
  · subst e
    exact .inl ⟨rfl, par_fmt_least⟩
  · exact .inr ⟨by omega, par_fmt (by unfold mostI; omega) (by unfold mostI; omega)⟩
theorem fmt_26 {a : Int} (h : InI a) : (fmtL a).length ≤ 26 := by
  have h1 := fmt_len a
  have h2 := dd_len (q := a.natAbs / 10000) (by unfold InI at h; omega)
  have h3 := frac_le (a.natAbs % 10000)
  have h4 : (if a < 0 then 1 else 0) ≤ 1 := by split <;> omega
  omega
set_option maxRecDepth 100000 in
set_option maxHeartbeats 1600000 in
theorem decBack_any (a : Int) (ha : InI a) (s : ByteArray) (w : World) (hT : Pow w) :
    Calls Tryd.prog 4 #[.int .i64 a, .string s] w fun e w' => e = .returned (.bool true) ∧ Below w.heap.size w w' := by
  have HFA := Lib.hid (fun (w : World) (hT : Pow w) => format_any a ha w hT)
  have HPC := Lib.hid (par_fmt_cases ha)
  have h26 := fmt_26 ha
  have ha1 := ha.1
  obtain ⟨F, hF⟩ : ∃ F : ByteArray, F = ⟨(fmtL a).toArray⟩ := ⟨_, rfl⟩
  have HPF := Lib.hid (fun (w : World) => parse_any F (by rw [hF]; show (fmtL a).length ≤ 2000; omega) w)
  have HFL : Hid (F.data.toList = fmtL a) := by unfold Hid; rw [hF]
  rw [← hF] at HFA
  rw [HFL.out] at HPF
  clear ha h26 hF HFL
  generalize parV (fmtL a) = pv at *
  generalize parE (fmtL a) = pe at *
  by_cases hs : 300 < s.size
  · go_enter Tryd.func4, Tryd.ntmps4
    go_wp2_with fail
    refine (Go.Proofs.YteoepgdfhllffaaDoor.known01 _).mono ?_
    rintro e wE ⟨rfl, hBE⟩
    go_wp2_with fail
    go_ret
    exact ⟨rfl, hBE⟩
  · have HPS := Lib.hid (fun (w : World) => parse_any s (by omega) w)
    have HSL : Hid (s.data.toList.length = s.size) := by unfold Hid; simp
    have HSH := Lib.hid (fun h => fmt_short (l := s.data.toList) h)
    have HBD := Lib.hid (fun h => par_bd (l := s.data.toList) h)
    generalize parV s.data.toList = sv at *
    generalize parE s.data.toList = se at *
    go_enter Tryd.func4, Tryd.ntmps4
    go_wp2_with fail
    refine (HFA.out _ hT).mono ?_
    rintro e w1 ⟨rfl, hB1⟩
    have HB1 := Lib.hid hB1
    have HT1 := Lib.hid (hT.later hB1)
    clear hB1
    go_wp2_with fail
    refine (HPF.out _).mono ?_
    rintro e w2 ⟨rfl, hB2⟩
    have HB2 := Lib.hid (bnext HB1.out hB2)
    have HT2 := Lib.hid (HT1.out.later hB2)
    clear hB2
    obtain ⟨rfl, rfl, rfl⟩ | ⟨hlt, rfl, rfl⟩ := HPC.out
    all_goals
      go_wp2_with fail
      refine (HPS.out _).mono ?_
      rintro e w3 ⟨rfl, hB3⟩
      have HB3 := Lib.hid (bnext HB2.out hB3)
      have HT3 := Lib.hid (HT2.out.later hB3)
      clear hB3
      by_cases he : se = 0
      · subst he
        obtain ⟨hv1, hv2⟩ := HBD.out rfl
        unfold mostI at hv1 hv2
        have hsh := HSH.out rfl
        rw [HSL.out] at hsh
        have hvi : InI sv := by unfold InI; omega
        have HFS := Lib.hid (fun (w : World) (hT : Pow w) => format_any sv hvi w hT)
        have HPE := Lib.hid (par_fmt (a := sv) hv1 hv2)
        have h26 := fmt_26 hvi
        obtain ⟨F2, hF2⟩ : ∃ F : ByteArray, F = ⟨(fmtL sv).toArray⟩ := ⟨_, rfl⟩
        have HPG := Lib.hid (fun (w : World) => parse_any F2 (by rw [hF2]; show (fmtL sv).length ≤ 2000; omega) w)
        have HGL : Hid (F2.data.toList = fmtL sv) := by unfold Hid; rw [hF2]
        have hgs : F2.size ≤ s.size := by rw [hF2]; exact hsh
        rw [← hF2] at HFS
        rw [HGL.out, HPE.out.1, HPE.out.2] at HPG
        clear hsh h26 hF2 HGL HPE hvi HBD HSH
        go_wp2_with fail
        refine (HFS.out _ HT3.out).mono ?_
        rintro e w4 ⟨rfl, hB4⟩
        have HB4 := Lib.hid (bnext HB3.out hB4)
        clear hB4
        go_wp2_with fail
        refine (HPG.out _).mono ?_
        rintro e w5 ⟨rfl, hB5⟩
        have HB5 := Lib.hid (bnext HB4.out hB5)
        clear hB5
        go_wp2_with fail
        refine (Go.Proofs.YteoepgdfhllffaaDoor.known01 _).mono ?_
        rintro e wE ⟨rfl, hBE⟩
        have HBE := Lib.hid (bnext HB5.out hBE)
        go_wp2_with fail
        go_ret
        exact ⟨rfl, HBE.out⟩
      · go_wp2_with fail
        refine (Go.Proofs.YteoepgdfhllffaaDoor.known01 _).mono ?_
        rintro e wE ⟨rfl, hBE⟩
        have HBE := Lib.hid (bnext HB3.out hBE)
        go_wp2_with fail
        go_ret
        exact ⟨rfl, HBE.out⟩
theorem decBack_law (a : Int) (s : ByteArray) (w : World) (h0 : (Lit.int .i64 a).wf = true) (hl : laidMetH Tryd.prog Rows.decBackRow.laid w) :
    Calls Tryd.prog 4 #[.int .i64 a, .string s] w fun e w' => e = .returned (.bool true) ∧ Below w.heap.size w w' :=
  decBack_any a (inI_of_wf h0) s w (pow_third (x := ("math/bits.deBruijn32tab", Rows.laid_math_bits_deBruijn32tab)) (y := ("math/bits.deBruijn64tab", Rows.laid_math_bits_deBruijn64tab)) (MakeChecks.laidMetH_plain _ _ _ (by kernel_rfl)) hl)
end Go.Proofs.YteoepgdfhllffaaDoor.Tx
