/- GrantApart: a rule whose range has no address of a grant's range does not change whether it is live; one that takes the ownership of one address of it from its issuer makes it dead: for any arguments the function returns true, and does not panic. -/
import Derived.Test.YtigofjamednfpaaRows
import Derived.WalkKit
import Derived.ProofKit
import Derived.OpenShut
import Derived.ShutString
import Derived.ChangeOld
import Derived.Below
import Derived.Lib.SmallJoins
import Derived.SizedLaws
import Derived.Deep.SlicePairs
import Derived.ChangeArms
import Derived.Test.YtigofjamednfpaaLawGrantApart
namespace Go.Proofs.Ytigofjamednfpaa.grantApart
open Go.ChangeShapes Go.WideShapes Go.ChangeAt Go.RowKit Go.Joins
open Go.ChangeMaps (open_string shut_string)
set_option linter.unusedVariables false

theorem own : ownKnob Try.prog.godebug = none := by kernel_rfl
theorem laidOut : laidOutB Try.prog = true := by kernel_rfl

theorem walk (a0 : Option Addr) (len0 cap0 : Nat) (z0 : List Re.RV) (z1 : Re.RV) (z2 : Re.GV) (w : World) (w0 : IsOf Re.cells7 7 w a0 len0 z0) (s0 : len0 * 56 ≤ 140737488351232) :
    Calls Try.prog 10 #[.slice a0 len0 cap0, .agg (Re.cells7 z1).toArray, .agg (Re.cells8 z2).toArray] w fun e w' => e = .returned (.bool true) ∧ Below w.heap.size w w' :=
  Re.grantApart_any a0 len0 cap0 z0 z1 z2 w w0 s0

set_option maxRecDepth 100000 in
theorem lifted (os : Os) (started : os.Started) (H : Type) (enc : TypeId × Value → H) :
    ReturnsInHanded {} Try.checked os 10 .any (Rows.grantApartSpec.pre6 enc Try.prog Try.f10 Rows.grantApartRow.domain false) (Rows.grantApartSpec.post enc Try.prog Try.f10 false true false false) := by
  refine returnsInHanded_of_change_sized (C := Try.checked) own started (by kernel_rfl) Try.func10
    (ChangeSpec.witness6 (enc := enc) (C := Try.checked) false ⟨#[], #[.slice none 0 0, .agg #[.int .i64 0, .int .i64 0, .int .i64 0, .int .i64 0, .int .u64 0, .int .u64 0, .int .u64 0], .agg #[.int .i64 0, .int .i64 0, .int .i64 0, .int .i64 0, .int .u8 0, .int .u64 0, .int .i64 0, .bool false]], []⟩ 8 (by kernel_rfl) (by kernel_rfl) (by kernel_rfl) (by kernel_rfl)) ?_
  intro W base args ds gs before hval0 hW hcnd hsz0 _
  have hval : ∀ (j : Nat) t v, Try.f10.params[j]? = some t → args[j]? = some v → Value.okWide Try.prog W .any base t v := hval0
  have hW' := hW
  obtain ⟨p, q, hA0, hV, rfl, hfz, hnd⟩ := hW
  have hA : DataW.TrodAll enc Try.prog W 0 (fun _ => true) true Try.f10.params.toList args.toList ds p := hA0
  have hsz : (DataW.weightsEach Try.prog (Try.f10.params.toList ++ Rows.grantApartSpec.plain.varTypes Try.prog) (ds ++ gs)).all (· ≤ reachBytes) = true := hsz0
  rw [Try.params10] at hA hval hsz
  obtain ⟨v0, vs0, d0, ds0, p0, q0, hargs, rfl, rfl, h0, r0⟩ := trodAll_cons hA
  obtain ⟨v1, vs1, d1, ds1, p1, q1, rfl, rfl, rfl, h1, r1⟩ := trodAll_cons r0
  obtain ⟨v2, vs2, d2, ds2, p2, q2, rfl, rfl, rfl, h2, r2⟩ := trodAll_cons r1
  obtain ⟨rfl, rfl, rfl⟩ := trodAll_nil r2
  obtain rfl : args = #[v0, v1, v2] := by cases args; simp_all
  obtain ⟨rfl, rfl⟩ := trodVars_none hV
  obtain ⟨a0, len0, cap0, rfl⟩ := okWide_slice Try.underlying24 (hval 0 24 v0 rfl rfl)
  have k0 := h0
  have lt0 : ∀ x ∈ p0, x.block < W.heap.size := by obtain ⟨m, hm⟩ := k0; exact DataW.trod_lt m _ _ _ hm
  obtain ⟨z0, w0, _, hd0⟩ : ∃ L, IsOf Re.cells7 7 W a0 len0 L ∧ len0 ≤ maxLen ∧ (len0 = 0 ∨ ∃ elems spare', d0 = .slice elems spare' ∧ len0 ≤ elems.length + spare'.length) := by
    obtain ⟨fuel, hf⟩ := h0
    exact came_of Try.underlying24 (by kernel_rfl) (by decide) Re.cells7_len (fun k cs y hy => Re.rule_came hy) (by simpa [Value.cells] using hf)
  have s0 : len0 * 56 ≤ 140737488351232 := by
    rcases hd0 with h | ⟨el, sp, hd, hl⟩
    · omega
    · have := sized_slice hsz (j := 0) (t := 24) (e := 45) rfl (congrArg some hd) Try.underlying24
      rw [show Try.prog.bytesOf 45 = 56 by kernel_rfl] at this
      simp only [reachBytes] at this
      have h2 : len0 * 56 ≤ (el.length + sp.length) * 56 := Nat.mul_le_mul_right _ hl
      omega
  obtain ⟨cs1, rfl, _⟩ := okWide_struct Try.underlying45 (hval 1 45 v1 rfl rfl)
  have k1 := h1
  have lt1 : ∀ x ∈ p1, x.block < W.heap.size := by obtain ⟨m, hm⟩ := k1; exact DataW.trod_lt m _ _ _ hm
  obtain ⟨z1, hz1⟩ : ∃ r, cs1.toList = Re.cells7 r := by
    obtain ⟨fuel, hf⟩ := h1
    exact Re.rule_came (by simpa [Value.cells] using hf)
  obtain rfl : cs1 = (Re.cells7 z1).toArray := by rw [← hz1]
  obtain ⟨cs2, rfl, _⟩ := okWide_struct Try.underlying62 (hval 2 62 v2 rfl rfl)
  have k2 := h2
  have lt2 : ∀ x ∈ p2, x.block < W.heap.size := by obtain ⟨m, hm⟩ := k2; exact DataW.trod_lt m _ _ _ hm
  obtain ⟨z2, hz2⟩ : ∃ r, cs2.toList = Re.cells8 r := by
    obtain ⟨fuel, hf⟩ := h2
    exact Re.grant_came (by simpa [Value.cells] using hf)
  obtain rfl : cs2 = (Re.cells8 z2).toArray := by rw [← hz2]
  clear hA0 hval0
  refine (walk a0 len0 cap0 z0 z1 z2 W w0 s0).mono fun e W' ⟨he, bel⟩ => ?_
  subst he
  exact ⟨_, rfl, _, _, _, [], _, [], hW', trodAll_mk1 (shut_bool Try.underlying4 _), (trodAll_cons_mk (Below.trod laidOut (by kernel_rfl) (of_decide_eq_true (by kernel_rfl)) k0 bel lt0) (trodAll_cons_mk (Below.trod laidOut (by kernel_rfl) (of_decide_eq_true (by kernel_rfl)) k1 bel lt1) (trodAll_cons_mk (Below.trod laidOut (by kernel_rfl) (of_decide_eq_true (by kernel_rfl)) k2 bel lt2) trodAll_mk0))), rfl, bel.frame _, fun h => by cases h⟩

theorem over : Rows.grantApartRow.holds Try.pinned (OpenSpec.ofChange Rows.grantApartSpec) :=
  OpenClaim.holds_of_wide 10 Try.f10 rfl rfl rfl rfl rfl rfl rfl ⟨rfl, rfl, rfl, rfl, rfl⟩ rfl rfl rfl rfl rfl (by kernel_rfl) Try.func10 (by kernel_rfl)
    (of_decide_eq_true (by kernel_rfl)) (by unfold Func.isWrapper; first | (rw [if_pos (by decide +kernel)]; kernel_rfl) | (rw [if_neg (by decide +kernel)]; exact ⟨rfl, rfl⟩))
    (fun os started H enc _ => lifted os started H enc)

theorem proved : Rows.GrantApartSaid := over
end Go.Proofs.Ytigofjamednfpaa.grantApart
