/- The walk of the law. -/
import Derived.Test.YtbkbikkieabcmaaDoorGfQ
import Derived.Test.YtbkbikkieabcmaaDoorGfW
import Derived.DataShut
namespace Go.Proofs.YtbkbikkieabcmaaDoor.Gf
open Go Go.RowKit
set_option linter.unusedVariables false
set_option linter.unusedSimpArgs false
theorem u64_wf {n : Int} (h : (Lit.int .u64 n).wf = true) : ((BitVec.ofInt 64 n).toNat : Int) = n := by
  rw [Lit.wf_int_iff] at h
  simp [IntKind.min, IntKind.max, IntKind.signed, IntKind.bits] at h
  rw [BitVec.toNat_ofInt]
  omega
theorem fmt9 : fmtS 9#64 = [48, 44, 51] := by decide +kernel
set_option maxRecDepth 100000 in
set_option maxHeartbeats 6400000 in
theorem grouptexts_law (a0 : Int) (a1 : ByteArray) (w : World) (h0 : (Lit.int .u64 a0).wf = true) (hG : Gl w) :
    Calls Tryd.prog 5 #[.int .u64 a0, .string a1] w fun e w' => e = .returned (.bool true) ∧ Below w.heap.size w w' := by
  obtain ⟨x, hx⟩ : ∃ x : W64, (x.toNat : Int) = a0 := ⟨_, u64_wf h0⟩
  subst hx
  have HGL := Lib.hid hG
  clear h0 hG
  by_cases hs : a1.size ≤ 400
  · have HP := Lib.hid (fun W h => parse_any a1 (by omega) W h)
    have HSP := Lib.hid (fun W => sparse_any a1 hs W)
    have HF := Lib.hid format_any
    have HF9 : Hid (∀ W, Calls Tryd.prog 19 #[.int .u64 9] W fun e w' => e = .returned (.string ⟨#[48, 44, 51]⟩) ∧ Below W.heap.size W w') := fun W => by
      have := format_any 9#64 W
      rw [fmt9] at this
      exact this
    unfold pzV at HP HSP
    generalize pzS a1.data.toList = P at *
    obtain ⟨px, pe⟩ := P
    dsimp only at HP HSP
    go_enter Tryd.func5, Tryd.ntmps5
    go_wp2_with fail
    refine (HP.out _ HGL.out).mono ?_
    rintro e w1 ⟨rfl, hB⟩
    have HB1 := Lib.hid hB
    clear hB
    go_wp2_with fail
    refine (HSP.out _).mono ?_
    rintro e w2 ⟨rfl, rfl⟩
    go_wp2_with fail
    refine (HF.out x _).mono ?_
    rintro e w3 ⟨rfl, hB⟩
    have HB2 := Lib.hid (Below.next HB1.out hB)
    clear hB
    go_wp2_with fail
    refine (sfmt_any x _).mono ?_
    rintro e w4 ⟨rfl, rfl⟩
    go_wp2_with fail
    refine (HF9.out _).mono ?_
    rintro e w5 ⟨rfl, hB⟩
    have HB3 := Lib.hid (Below.next HB2.out hB)
    clear hB
    go_wp2_with fail
    go_ret
    exact ⟨rfl, HB3.out⟩
  · go_enter Tryd.func5, Tryd.ntmps5
    go_wp2_with fail
    go_ret
    exact ⟨rfl, Below.refl _ _⟩
end Go.Proofs.YtbkbikkieabcmaaDoor.Gf
