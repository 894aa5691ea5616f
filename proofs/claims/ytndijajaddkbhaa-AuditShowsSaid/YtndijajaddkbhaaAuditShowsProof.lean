/- For all users and logs the law AuditShows returns true: Events, Releases and Grows return what the specification returns, and what they return shares no memory with the logs. It holds for every world in which the arguments lie as they come in. -/
import Derived.Test.YtndijajaddkbhaaRows
import Derived.WalkKit
import Derived.ProofKit
import Derived.OpenShut
import Derived.ShutString
import Derived.ChangeOld
import Derived.Below
import Derived.Lib.SmallJoins
import Derived.Deep.SlicePairs
import Derived.ChangeArms
import Derived.Test.YtndijajaddkbhaaLawAuditShows
namespace Go.Proofs.Ytndijajaddkbhaa.auditShows
open Go.ChangeShapes Go.WideShapes Go.ChangeAt Go.RowKit Go.Joins
open Go.ChangeMaps (open_string shut_string)
set_option linter.unusedVariables false

theorem own : ownKnob Try.prog.godebug = none := by kernel_rfl
theorem laidOut : laidOutB Try.prog = true := by kernel_rfl

theorem walk (a0 : Int) (a1 : Option Addr) (len1 cap1 : Nat) (z1 : List Re.EV) (a2 : Option Addr) (len2 cap2 : Nat) (z2 : List Re.EV) (a3 : Option Addr) (len3 cap3 : Nat) (z3 : List Re.LV) (w : World) (w0 : (Lit.int .i64 a0).wf = true) (w1 : IsOf Re.cellsEV 9 w a1 len1 z1) (w2 : IsOf Re.cellsEV 9 w a2 len2 z2) (w3 : IsOf Re.cellsLV 11 w a3 len3 z3) :
    Calls Try.prog 9 #[.int .i64 a0, .slice a1 len1 cap1, .slice a2 len2 cap2, .slice a3 len3 cap3] w fun e w' => e = .returned (.bool true) ∧ Below w.heap.size w w' :=
  Re.auditShows_any a0 a1 len1 cap1 z1 a2 len2 cap2 z2 a3 len3 cap3 z3 w w1 w2 w3

set_option maxRecDepth 100000 in
theorem lifted (os : Os) (started : os.Started) (H : Type) (enc : TypeId × Value → H) :
    ReturnsInHanded {} Try.checked os 9 .any (Rows.auditShowsSpec.pre6 enc Try.prog Try.f9 Rows.auditShowsRow.domain false) (Rows.auditShowsSpec.post enc Try.prog Try.f9 false true false false) := by
  refine returnsInHanded_of_change (C := Try.checked) own started (by kernel_rfl) Try.func9
    (ChangeSpec.witness6 (enc := enc) (C := Try.checked) false ⟨#[], #[.int .i64 0, .slice none 0 0, .slice none 0 0, .slice none 0 0], []⟩ 8 (by kernel_rfl) (by kernel_rfl) (by kernel_rfl) (by kernel_rfl)) ?_
  intro W base args ds gs before hval0 hW hcnd _
  have hval : ∀ (j : Nat) t v, Try.f9.params[j]? = some t → args[j]? = some v → Value.okWide Try.prog W .any base t v := hval0
  have hW' := hW
  obtain ⟨p, q, hA0, hV, rfl, hfz, hnd⟩ := hW
  have hA : DataW.TrodAll enc Try.prog W 0 (fun _ => true) true Try.f9.params.toList args.toList ds p := hA0
  rw [Try.params9] at hA hval
  obtain ⟨v0, vs0, d0, ds0, p0, q0, hargs, rfl, rfl, h0, r0⟩ := trodAll_cons hA
  obtain ⟨v1, vs1, d1, ds1, p1, q1, rfl, rfl, rfl, h1, r1⟩ := trodAll_cons r0
  obtain ⟨v2, vs2, d2, ds2, p2, q2, rfl, rfl, rfl, h2, r2⟩ := trodAll_cons r1
  obtain ⟨v3, vs3, d3, ds3, p3, q3, rfl, rfl, rfl, h3, r3⟩ := trodAll_cons r2
  obtain ⟨rfl, rfl, rfl⟩ := trodAll_nil r3
  obtain rfl : args = #[v0, v1, v2, v3] := by cases args; simp_all
  obtain ⟨rfl, rfl⟩ := trodVars_none hV
  obtain ⟨a0, rfl, rfl, rfl, w0⟩ := open_int Try.underlying3 (hval 0 3 v0 rfl rfl) h0
  obtain ⟨a1, len1, cap1, rfl⟩ := okWide_slice Try.underlying71 (hval 1 71 v1 rfl rfl)
  have k1 := h1
  have lt1 : ∀ x ∈ p1, x.block < W.heap.size := by obtain ⟨m, hm⟩ := k1; exact DataW.trod_lt m _ _ _ hm
  obtain ⟨z1, w1, _, hd1⟩ : ∃ L, IsOf Re.cellsEV 9 W a1 len1 L ∧ len1 ≤ maxLen ∧ (len1 = 0 ∨ ∃ elems spare', d1 = .slice elems spare' ∧ len1 ≤ elems.length + spare'.length) := by
    obtain ⟨fuel, hf⟩ := h1
    exact came_of Try.underlying71 (by kernel_rfl) (by decide) Re.cellsEV_len (fun k cs y hy => Re.event_came hy) (by simpa [Value.cells] using hf)
  obtain ⟨a2, len2, cap2, rfl⟩ := okWide_slice Try.underlying71 (hval 2 71 v2 rfl rfl)
  have k2 := h2
  have lt2 : ∀ x ∈ p2, x.block < W.heap.size := by obtain ⟨m, hm⟩ := k2; exact DataW.trod_lt m _ _ _ hm
  obtain ⟨z2, w2, _, hd2⟩ : ∃ L, IsOf Re.cellsEV 9 W a2 len2 L ∧ len2 ≤ maxLen ∧ (len2 = 0 ∨ ∃ elems spare', d2 = .slice elems spare' ∧ len2 ≤ elems.length + spare'.length) := by
    obtain ⟨fuel, hf⟩ := h2
    exact came_of Try.underlying71 (by kernel_rfl) (by decide) Re.cellsEV_len (fun k cs y hy => Re.event_came hy) (by simpa [Value.cells] using hf)
  obtain ⟨a3, len3, cap3, rfl⟩ := okWide_slice Try.underlying72 (hval 3 72 v3 rfl rfl)
  have k3 := h3
  have lt3 : ∀ x ∈ p3, x.block < W.heap.size := by obtain ⟨m, hm⟩ := k3; exact DataW.trod_lt m _ _ _ hm
  obtain ⟨z3, w3, _, hd3⟩ : ∃ L, IsOf Re.cellsLV 11 W a3 len3 L ∧ len3 ≤ maxLen ∧ (len3 = 0 ∨ ∃ elems spare', d3 = .slice elems spare' ∧ len3 ≤ elems.length + spare'.length) := by
    obtain ⟨fuel, hf⟩ := h3
    exact came_of Try.underlying72 (by kernel_rfl) (by decide) Re.cellsLV_len (fun k cs y hy => Re.release_came hy) (by simpa [Value.cells] using hf)
  clear hA0 hval0
  refine (walk a0 a1 len1 cap1 z1 a2 len2 cap2 z2 a3 len3 cap3 z3 W w0 w1 w2 w3).mono fun e W' ⟨he, bel⟩ => ?_
  subst he
  exact ⟨_, rfl, _, _, _, [], _, [], hW', trodAll_mk1 (shut_bool Try.underlying4 _), (trodAll_cons_mk (shut_int Try.underlying3 w0) (trodAll_cons_mk (Below.trod laidOut (by kernel_rfl) (of_decide_eq_true (by kernel_rfl)) k1 bel lt1) (trodAll_cons_mk (Below.trod laidOut (by kernel_rfl) (of_decide_eq_true (by kernel_rfl)) k2 bel lt2) (trodAll_cons_mk (Below.trod laidOut (by kernel_rfl) (of_decide_eq_true (by kernel_rfl)) k3 bel lt3) trodAll_mk0)))), rfl, bel.frame _, fun h => by cases h⟩

theorem over : Rows.auditShowsRow.holds Try.pinned (OpenSpec.ofChange Rows.auditShowsSpec) :=
  OpenClaim.holds_of_wide 9 Try.f9 rfl rfl rfl rfl rfl rfl rfl ⟨rfl, rfl, rfl, rfl, rfl⟩ rfl rfl rfl rfl rfl (by kernel_rfl) Try.func9 (by kernel_rfl)
    (of_decide_eq_true (by kernel_rfl)) (by unfold Func.isWrapper; first | (rw [if_pos (by decide +kernel)]; kernel_rfl) | (rw [if_neg (by decide +kernel)]; exact ⟨rfl, rfl⟩))
    (fun os started H enc _ => lifted os started H enc)

theorem proved : Rows.AuditShowsSaid := over
end Go.Proofs.Ytndijajaddkbhaa.auditShows
