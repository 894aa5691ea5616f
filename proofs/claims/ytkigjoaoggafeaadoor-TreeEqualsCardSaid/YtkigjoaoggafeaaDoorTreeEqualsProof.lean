/- Both lists cut; both comparisons walked. -/
import Derived.Test.YtkigjoaoggafeaaDoorRowCap
import Derived.Test.YtkigjoaoggafeaaDoorRows
import Derived.WalkKit
import Derived.ProofKit
import Derived.OpenShut
import Derived.ShutString
import Derived.ChangeOld
import Derived.Below
import Derived.Lib.SmallJoins
import Derived.LaidMore
import Derived.Lay
import Derived.SevenTiedAt
import Derived.Stop.Joined
import Derived.Test.YtkigjoaoggafeaaDoorCards
import Derived.Test.YtkigjoaoggafeaaDoorTie
import Derived.Deep.SlicePairs
import Derived.ChangeArms
import Derived.Test.YtkigjoaoggafeaaDoorLawTreeEquals
namespace Go.Proofs.YtkigjoaoggafeaaDoor.treeEquals
open Go.ChangeShapes Go.WideShapes Go.ChangeAt Go.RowKit Go.Joins
open Go.ChangeMaps (open_string shut_string)
set_option linter.unusedVariables false

theorem own : ownKnob Tryd.prog.godebug = none := by kernel_rfl
theorem laidOut : laidOutB Tryd.prog = true := by kernel_rfl

theorem walk (a0 : Option Addr) (len0 cap0 : Nat) (z0 : List Nd.NDV) (a1 : Option Addr) (len1 cap1 : Nat) (z1 : List Nd.NDV) (w : World) (w0 : IsOf Nd.cellsNV 11 w a0 len0 z0) (q0 : len0 ≤ cap0) (w1 : IsOf Nd.cellsNV 11 w a1 len1 z1) (q1 : len1 ≤ cap1) (hl : laidMetH Tryd.prog Rows.treeEqualsRow.laid w) :
    Calls Tryd.prog 5 #[.slice a0 len0 cap0, .slice a1 len1 cap1] w fun e w' => e = .returned (.bool true) ∧ Below w.heap.size w w' :=
  Nd.treeEquals_law a0 len0 cap0 z0 a1 len1 cap1 z1 w w0 w1 q0 q1 hl

set_option maxRecDepth 100000 in
theorem lifted (os : Os) (started : os.Started) (H : Type) (enc : TypeId × Value → H) :
    ReturnsInHanded {} Tryd.checked os 5 .any (fun w args => (Rows.treeEqualsSpec.pre enc Tryd.prog Tryd.f5 Rows.treeEqualsRow.domain false w args ∧ laidMetH Tryd.prog Rows.treeEqualsRow.laid w) ∧ sizedMet enc Tryd.prog Tryd.f5 (OpenSpec.ofChange Rows.treeEqualsSpec) false w args) (Rows.treeEqualsSpec.post enc Tryd.prog Tryd.f5 false true false false) := by
  refine returnsInHanded_of_change_and (C := Tryd.checked) (X := fun w _ => laidMetH Tryd.prog Rows.treeEqualsRow.laid w) (fun _ _ _ hh h => h.of_heap hh) own started (by kernel_rfl) Tryd.func5
    (ChangeSpec.witness_shaped (enc := enc) (C := Tryd.checked) (os := os) (X := fun w _ => laidMetH Tryd.prog Rows.treeEqualsRow.laid w) false (World.laidAll Tryd.prog os Rows.treeEqualsRow.laid) #[.slice none 0 0, .slice none 0 0] 8 (World.laidAll_os _ _ _)
      (World.shaped_of_ZipB (by kernel_rfl) (by kernel_rfl)) (by kernel_rfl) (by kernel_rfl) (by kernel_rfl)
      (by rw [MakeChecks.laidMetH_plain _ _ _ (by kernel_rfl)]; exact laidMet_laidAll _ (by kernel_rfl) (by kernel_rfl))) ?_
  intro W base args ds gs before hval0 hW hcnd _ hL _
  have hval : ∀ (j : Nat) t v, Tryd.f5.params[j]? = some t → args[j]? = some v → Value.okWide Tryd.prog W .any base t v := hval0
  have hW' := hW
  obtain ⟨p, q, hA0, hV, rfl, hfz, hnd⟩ := hW
  have hA : DataW.TrodAll enc Tryd.prog W 0 (fun _ => true) true Tryd.f5.params.toList args.toList ds p := hA0
  rw [Tryd.params5] at hA hval
  obtain ⟨v0, vs0, d0, ds0, p0, q0, hargs, rfl, rfl, h0, r0⟩ := trodAll_cons hA
  obtain ⟨v1, vs1, d1, ds1, p1, q1, rfl, rfl, rfl, h1, r1⟩ := trodAll_cons r0
  obtain ⟨rfl, rfl, rfl⟩ := trodAll_nil r1
  obtain rfl : args = #[v0, v1] := by cases args; simp_all
  obtain ⟨rfl, rfl⟩ := trodVars_none hV
  obtain ⟨a0, len0, cap0, rfl⟩ := okWide_slice Tryd.underlying22 (hval 0 22 v0 rfl rfl)
  have k0 := h0
  have lt0 : ∀ x ∈ p0, x.block < W.heap.size := by obtain ⟨m, hm⟩ := k0; exact DataW.trod_lt m _ _ _ hm
  obtain ⟨z0, w0, _, hd0⟩ : ∃ L, IsOf Nd.cellsNV 11 W a0 len0 L ∧ len0 ≤ maxLen ∧ (len0 = 0 ∨ ∃ elems spare', d0 = .slice elems spare' ∧ len0 ≤ elems.length + spare'.length) := by
    obtain ⟨fuel, hf⟩ := h0
    exact came_of Tryd.underlying22 (by kernel_rfl) (by decide) Nd.cellsNV_len (fun k cs y hy => Nd.node_came hy) (by simpa [Value.cells] using hf)
  have q0 : len0 ≤ cap0 := by obtain ⟨fuel, hf⟩ := k0; exact came_cap Tryd.underlying22 (by simpa [Value.cells] using hf)
  obtain ⟨a1, len1, cap1, rfl⟩ := okWide_slice Tryd.underlying22 (hval 1 22 v1 rfl rfl)
  have k1 := h1
  have lt1 : ∀ x ∈ p1, x.block < W.heap.size := by obtain ⟨m, hm⟩ := k1; exact DataW.trod_lt m _ _ _ hm
  obtain ⟨z1, w1, _, hd1⟩ : ∃ L, IsOf Nd.cellsNV 11 W a1 len1 L ∧ len1 ≤ maxLen ∧ (len1 = 0 ∨ ∃ elems spare', d1 = .slice elems spare' ∧ len1 ≤ elems.length + spare'.length) := by
    obtain ⟨fuel, hf⟩ := h1
    exact came_of Tryd.underlying22 (by kernel_rfl) (by decide) Nd.cellsNV_len (fun k cs y hy => Nd.node_came hy) (by simpa [Value.cells] using hf)
  have q1 : len1 ≤ cap1 := by obtain ⟨fuel, hf⟩ := k1; exact came_cap Tryd.underlying22 (by simpa [Value.cells] using hf)
  clear hA0 hval0
  refine (walk a0 len0 cap0 z0 a1 len1 cap1 z1 W w0 q0 w1 q1 hL).mono fun e W' ⟨he, bel⟩ => ?_
  subst he
  exact ⟨_, rfl, _, _, _, [], _, [], hW', trodAll_mk1 (shut_bool Tryd.underlying4 _), (trodAll_cons_mk (Below.trod laidOut (by kernel_rfl) (of_decide_eq_true (by kernel_rfl)) k0 bel lt0) (trodAll_cons_mk (Below.trod laidOut (by kernel_rfl) (of_decide_eq_true (by kernel_rfl)) k1 bel lt1) trodAll_mk0)), rfl, bel.frame _, fun h => by cases h⟩

theorem over : Rows.treeEqualsRow.holds Tryd.pinned (OpenSpec.ofChange Rows.treeEqualsSpec) :=
  OpenClaim.holds_of_wide 5 Tryd.f5 rfl rfl rfl rfl rfl rfl rfl ⟨rfl, rfl, rfl, rfl, rfl⟩ rfl rfl rfl rfl rfl (by kernel_rfl) Tryd.func5 (by kernel_rfl)
    (of_decide_eq_true (by kernel_rfl)) (by unfold Func.isWrapper; first | (rw [if_pos (by decide +kernel)]; kernel_rfl) | (rw [if_neg (by decide +kernel)]; exact ⟨rfl, rfl⟩))
    (fun os started H enc _ => lifted os started H enc)

theorem proved : Rows.TreeEqualsCardSaid :=
  Claim7.holds_tied_plain_at .later [] [.data] true (true, "76ca904a3bc19f629f27118aea08d61bcbb130b78cdebca1e2e88c7fb09d7f2b") false over (fun _ h => by cases h) (by kernel_rfl) (fun _ h => by cases h) treeEquals_row_tie rfl ⟨rfl, rfl⟩ (by kernel_rfl) rfl
    (fun f fn hf hfn => by
      obtain rfl : f = 5 := Option.some.inj ((show Tryd.prog.funcNamed "louvre/louvrelaw08.TreeEquals" = some 5 by kernel_rfl).symm.trans hf) |>.symm
      obtain rfl : fn = Tryd.f5 := (Option.some.inj (Tryd.func5.symm.trans hfn)).symm
      exact ⟨by kernel_rfl, fun j t ht => by
        rw [Tryd.params5] at ht
        have hm : t ∈ [22, 22] := by simpa using Array.mem_of_getElem? ht
        have hall : ([22, 22].all fun u => !Tryd.prog.wantsStandIn u) = true := by kernel_rfl
        exact (show Tryd.prog.wantsStandIn t = false by simpa using List.all_eq_true.1 hall t hm)⟩)
    (by kernel_rfl)
end Go.Proofs.YtkigjoaoggafeaaDoor.treeEquals
