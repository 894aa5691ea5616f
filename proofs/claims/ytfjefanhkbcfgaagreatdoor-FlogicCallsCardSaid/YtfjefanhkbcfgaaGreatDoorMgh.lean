/- Merged: FnA FnuB FnuD FnuE. -/
import Derived.Test.YtfjefanhkbcfgaaGreatDoorFuC
import Derived.Test.YtfjefanhkbcfgaaGreatDoorMgg
import Derived.Test.YtfjefanhkbcfgaaGreatDoorDecRound
import Derived.Test.YtfjefanhkbcfgaaGreatDoorDecRnd
import Derived.Test.YtfjefanhkbcfgaaGreatDoorHold
import Derived.Test.YtfjefanhkbcfgaaGreatDoorRefMul
import Derived.Deep.RegionWith
/- fnum: what it makes of numbers; number, modulo, power, sign of both sides. -/
namespace Go.Proofs.YtfjefanhkbcfgaaGreatDoor.Va
open Go Go.RowKit GM
set_option linter.unusedVariables false
set_option linter.unusedSimpArgs false
def mkV (n : Int) : V3 := (mkK n, mkN n, ⟨#[]⟩)
def flV (c : Int) : V3 := (4, c, ⟨#[]⟩)
/-- What number makes of a result and whether there is one. -/
def numR (n : Int) (ok : Bool) : V3 := if ok then mkV n else flV 3
theorem resV_ge (z : Int) : leastI ≤ Go.Proofs.YtfjefanhkbcfgaaGreatDoor.resV z := by
  unfold Go.Proofs.YtfjefanhkbcfgaaGreatDoor.resV leastI
  split <;> omega
theorem pwV_ge (a : Int) (k : Nat) : leastI ≤ pwV a k := by
  cases h : powZ a k with
  | none => rw [(pw_none h).1]; unfold leastI; decide
  | some p => rw [(pw_some h).1]; have := powZ_InI h; unfold InI at this; unfold leastI; omega
theorem powV_ge (x n : Int) (hx : InI x) : leastI ≤ powV x n := by
  unfold powV
  split
  · unfold leastI; decide
  · split
    · exact pwV_ge x _
    · split
      · exact resV_ge _
      · unfold leastI; decide
def modZ (x y : Int) : Int := if x.tmod y ≠ 0 ∧ ¬ ((x.tmod y < 0) ↔ (y < 0)) then x.tmod y + y else x.tmod y
def modR (x y : Int) : V3 := if y = 0 then flV 1 else mkV (modZ x y)
def powR (x y : Int) : V3 := if truncZ y ≠ y then flV 3 else if x = 0 ∧ y < 0 then flV 1 else numR (powV x (y.tdiv 10000)) (powB x (y.tdiv 10000))
theorem pnumber_any (n : Int) (hn : leastI ≤ n) (ok : Bool) (w : World) : Calls Tryz.prog 72 #[.int .i64 n, .bool ok] w fun e w' => e = .returned (vOf (numR n ok)) ∧ Below w.heap.size w w' := by
  have HX : Hid (B3 (w.alloc (.cells #[.int .u8 0, .int .i64 0, .string ⟨#[]⟩] 25)) w.heap.size 0 0 ⟨#[]⟩) := B3.start w 0 0 ⟨#[]⟩
  have HB := Lib.hid (valloc w (.cells #[.int .u8 0, .int .i64 0, .string ⟨#[]⟩] 25))
  go_enter Tryz.func72, Tryz.ntmps72
  cases ok
  · go_wp2_with fail
    generalize w.alloc (.cells #[.int .u8 0, .int .i64 0, .string ⟨#[]⟩] 25) = wa at *
    refine (fail_any 3 _).mono ?_
    rw [show flN 3 = 3 from rfl]
    rintro e w1 ⟨rfl, hB⟩
    have hX : B3 w1 w.heap.size 0 0 ⟨#[]⟩ := HX.out.later hB
    have HBW := Lib.hid (vnext HB.out hB)
    obtain ⟨x0, x1, x2, z0, z1, z2⟩ := hX.cells
    have hXl := hX.lt
    obtain ⟨hq, hg⟩ := b3_set hX 4 3 ⟨#[]⟩
    have hb5 := HBW.out.grown hg HBW.out.size (fun q hq => by injection hq with hq; omega)
    clear hB hg
    go_wp2_with fail
    generalize ((w1.setCell ⟨w.heap.size, 0, none⟩ (.int .u8 4)).setCell ⟨w.heap.size, 1, none⟩ (.int .i64 3)).setCell ⟨w.heap.size, 2, none⟩ (.string ⟨#[]⟩) = w5 at *
    obtain ⟨y0, y1, y2, _, _, _⟩ := hq.cells
    refine bodyPost_ret (v := .agg #[.int .u8 4, .int .i64 3, .string ⟨#[]⟩]) (by simp [results, Tryz.results72, go_sem, y0, y1, y2]) rfl ⟨rfl, hb5⟩
  · go_wp2_with fail
    generalize w.alloc (.cells #[.int .u8 0, .int .i64 0, .string ⟨#[]⟩] 25) = wa at *
    have HV := Lib.hid (fun W => make_any n W)
    have HV : Hid (∀ W, Calls Tryz.prog 74 #[.int .i64 n] W fun e w' => e = .returned (vOf (mkV n)) ∧ Below W.heap.size W w') := HV
    generalize hvv : mkV n = vv at HV
    have HVV := Lib.hid hvv
    clear hvv
    obtain ⟨vk, vn, vs⟩ := vv
    unfold vOf at HV
    dsimp only at HV
    refine (HV.out _).mono ?_
    rintro e w1 ⟨rfl, hB⟩
    have hX : B3 w1 w.heap.size 0 0 ⟨#[]⟩ := HX.out.later hB
    have HBW := Lib.hid (vnext HB.out hB)
    obtain ⟨x0, x1, x2, z0, z1, z2⟩ := hX.cells
    have hXl := hX.lt
    obtain ⟨hq, hg⟩ := b3_set hX vk vn vs
    have hb5 := HBW.out.grown hg HBW.out.size (fun q hq => by injection hq with hq; omega)
    clear hB hg
    go_wp2_with fail
    generalize ((w1.setCell ⟨w.heap.size, 0, none⟩ (.int .u8 (vk : Int))).setCell ⟨w.heap.size, 1, none⟩ (.int .i64 vn)).setCell ⟨w.heap.size, 2, none⟩ (.string vs) = w5 at *
    obtain ⟨y0, y1, y2, _, _, _⟩ := hq.cells
    refine bodyPost_ret (v := .agg #[.int .u8 (vk : Int), .int .i64 vn, .string vs]) (by simp [results, Tryz.results72, go_sem, y0, y1, y2]) rfl ⟨by rw [show numR n true = mkV n from rfl, HVV.out]; rfl, hb5⟩
theorem modZ_in {x y : Int} (hx : InI x) (hy : InI y) (h0 : y ≠ 0) : InI (modZ x y) ∧ InI (x.tmod y) ∧ (¬ ((x.tmod y < 0) ↔ (y < 0)) → InI (x.tmod y + y)) := by
  have h1 : -(y.natAbs : Int) < x.tmod y ∧ x.tmod y < y.natAbs := by
    rcases Int.lt_or_gt_of_ne h0 with h | h
    · have a1 := Int.tmod_lt_of_pos x (show (0 : Int) < -y by omega)
      have a2 := neg_lt_tmod x (show (0 : Int) < -y by omega)
      rw [Int.tmod_neg] at a1 a2
      omega
    · have a1 := Int.tmod_lt_of_pos x h
      have a2 := neg_lt_tmod x h
      omega
  have h2 : InI (x.tmod y) := by
    unfold InI at *
    omega
  have h3 : ¬ ((x.tmod y < 0) ↔ (y < 0)) → InI (x.tmod y + y) := by
    intro h
    unfold InI at *
    omega
  refine ⟨?_, h2, h3⟩
  unfold modZ
  split
  · next h => exact h3 h.2
  · exact h2
set_option maxHeartbeats 6400000 in
theorem modulo_any (x y : Int) (hx : InI x) (hy : InI y) (w : World) : Calls Tryz.prog 80 #[.int .i64 x, .int .i64 y] w fun e w' => e = .returned (vOf (modR x y)) ∧ Below w.heap.size w w' := by
  have HX : Hid (B3 (w.alloc (.cells #[.int .u8 0, .int .i64 0, .string ⟨#[]⟩] 25)) w.heap.size 0 0 ⟨#[]⟩) := B3.start w 0 0 ⟨#[]⟩
  have HB := Lib.hid (valloc w (.cells #[.int .u8 0, .int .i64 0, .string ⟨#[]⟩] 25))
  by_cases h0 : y = 0
  · subst h0
    go_enter Tryz.func80, Tryz.ntmps80
    go_wp2_with fail
    generalize w.alloc (.cells #[.int .u8 0, .int .i64 0, .string ⟨#[]⟩] 25) = wa at *
    refine (fail_any 1 _).mono ?_
    rw [show flN 1 = 1 from rfl]
    rintro e w1 ⟨rfl, hB⟩
    have hX : B3 w1 w.heap.size 0 0 ⟨#[]⟩ := HX.out.later hB
    have HBW := Lib.hid (vnext HB.out hB)
    obtain ⟨x0, x1, x2, z0, z1, z2⟩ := hX.cells
    have hXl := hX.lt
    obtain ⟨hq, hg⟩ := b3_set hX 4 1 ⟨#[]⟩
    have hb5 := HBW.out.grown hg HBW.out.size (fun q hq => by injection hq with hq; omega)
    clear hB hg
    go_wp2_with fail
    generalize ((w1.setCell ⟨w.heap.size, 0, none⟩ (.int .u8 4)).setCell ⟨w.heap.size, 1, none⟩ (.int .i64 1)).setCell ⟨w.heap.size, 2, none⟩ (.string ⟨#[]⟩) = w5 at *
    obtain ⟨y0, y1, y2, _, _, _⟩ := hq.cells
    refine bodyPost_ret (v := .agg #[.int .u8 4, .int .i64 1, .string ⟨#[]⟩]) (by simp [results, Tryz.results80, go_sem, y0, y1, y2]) rfl ⟨rfl, hb5⟩
  obtain ⟨_, hr, hs⟩ := modZ_in hx hy h0
  have HE : Hid (modR x y = mkV (modZ x y)) := if_neg h0
  go_enter Tryz.func80, Tryz.ntmps80
  have HM : Hid (modZ x y = if x.tmod y ≠ 0 ∧ ¬ ((x.tmod y < 0) ↔ (y < 0)) then x.tmod y + y else x.tmod y) := rfl
  have hy0 : (y == 0) = false := by simpa using h0
  obtain ⟨r, hxr⟩ : ∃ r, x.tmod y = r := ⟨_, rfl⟩
  rw [hxr] at hr hs HM
  have hrw : IntKind.i64.wrap r = r := IntWalk.i64_in _ (by unfold InI at hr; omega)
  by_cases hr0 : r = 0
  · have e0 : (r == 0) = true := by simpa using hr0
    have e1 : (r != 0) = false := by simpa using hr0
    have HZ : Hid (modZ x y = r) := by unfold Hid; rw [HM.out, if_neg (fun h => h.1 hr0)]
    clear HM hs hr0
    go_wp2_with fail
    generalize w.alloc (.cells #[.int .u8 0, .int .i64 0, .string ⟨#[]⟩] 25) = wa at *
    have HV := Lib.hid (fun W => make_any (r) W)
    have HV : Hid (∀ W, Calls Tryz.prog 74 #[.int .i64 (r)] W fun e w' => e = .returned (vOf (mkV (r))) ∧ Below W.heap.size W w') := HV
    generalize hvv : mkV (r) = vv at HV
    have HVV := Lib.hid hvv
    clear hvv
    obtain ⟨vk, vn, vs⟩ := vv
    unfold vOf at HV
    dsimp only at HV
    refine (HV.out _).mono ?_
    rintro e w1 ⟨rfl, hB⟩
    have hX : B3 w1 w.heap.size 0 0 ⟨#[]⟩ := HX.out.later hB
    have HBW := Lib.hid (vnext HB.out hB)
    obtain ⟨x0, x1, x2, z0, z1, z2⟩ := hX.cells
    have hXl := hX.lt
    obtain ⟨hq, hg⟩ := b3_set hX vk vn vs
    have hb5 := HBW.out.grown hg HBW.out.size (fun q hq => by injection hq with hq; omega)
    clear hB hg
    go_wp2_with fail
    generalize ((w1.setCell ⟨w.heap.size, 0, none⟩ (.int .u8 (vk : Int))).setCell ⟨w.heap.size, 1, none⟩ (.int .i64 vn)).setCell ⟨w.heap.size, 2, none⟩ (.string vs) = w5 at *
    obtain ⟨y0, y1, y2, _, _, _⟩ := hq.cells
    refine bodyPost_ret (v := .agg #[.int .u8 (vk : Int), .int .i64 vn, .string vs]) (by simp [results, Tryz.results80, go_sem, y0, y1, y2]) rfl ⟨by rw [HE.out, HZ.out, HVV.out]; rfl, hb5⟩
  have e0 : (r == 0) = false := by simpa using hr0
  have e1 : (r != 0) = true := by simpa using hr0
  by_cases hlt : (r < 0) ↔ (y < 0)
  · have HZ : Hid (modZ x y = r) := by unfold Hid; rw [HM.out, if_neg (fun h => h.2 hlt)]
    clear HM hs hr0
    by_cases hy9 : y < 0
    · have d1 : decide (y < 0) = true := decide_eq_true hy9
      have d2 : decide (r < 0) = true := decide_eq_true (hlt.2 hy9)
      clear hlt hy9
      go_wp2_with fail
      generalize w.alloc (.cells #[.int .u8 0, .int .i64 0, .string ⟨#[]⟩] 25) = wa at *
      have HV := Lib.hid (fun W => make_any (r) W)
      have HV : Hid (∀ W, Calls Tryz.prog 74 #[.int .i64 (r)] W fun e w' => e = .returned (vOf (mkV (r))) ∧ Below W.heap.size W w') := HV
      generalize hvv : mkV (r) = vv at HV
      have HVV := Lib.hid hvv
      clear hvv
      obtain ⟨vk, vn, vs⟩ := vv
      unfold vOf at HV
      dsimp only at HV
      refine (HV.out _).mono ?_
      rintro e w1 ⟨rfl, hB⟩
      have hX : B3 w1 w.heap.size 0 0 ⟨#[]⟩ := HX.out.later hB
      have HBW := Lib.hid (vnext HB.out hB)
      obtain ⟨x0, x1, x2, z0, z1, z2⟩ := hX.cells
      have hXl := hX.lt
      obtain ⟨hq, hg⟩ := b3_set hX vk vn vs
      have hb5 := HBW.out.grown hg HBW.out.size (fun q hq => by injection hq with hq; omega)
      clear hB hg
      go_wp2_with fail
      generalize ((w1.setCell ⟨w.heap.size, 0, none⟩ (.int .u8 (vk : Int))).setCell ⟨w.heap.size, 1, none⟩ (.int .i64 vn)).setCell ⟨w.heap.size, 2, none⟩ (.string vs) = w5 at *
      obtain ⟨y0, y1, y2, _, _, _⟩ := hq.cells
      refine bodyPost_ret (v := .agg #[.int .u8 (vk : Int), .int .i64 vn, .string vs]) (by simp [results, Tryz.results80, go_sem, y0, y1, y2]) rfl ⟨by rw [HE.out, HZ.out, HVV.out]; rfl, hb5⟩
    · have d1 : decide (y < 0) = false := decide_eq_false hy9
      have d2 : decide (r < 0) = false := decide_eq_false (fun h => hy9 (hlt.1 h))
      clear hlt hy9
      go_wp2_with fail
      generalize w.alloc (.cells #[.int .u8 0, .int .i64 0, .string ⟨#[]⟩] 25) = wa at *
      have HV := Lib.hid (fun W => make_any (r) W)
      have HV : Hid (∀ W, Calls Tryz.prog 74 #[.int .i64 (r)] W fun e w' => e = .returned (vOf (mkV (r))) ∧ Below W.heap.size W w') := HV
      generalize hvv : mkV (r) = vv at HV
      have HVV := Lib.hid hvv
      clear hvv
      obtain ⟨vk, vn, vs⟩ := vv
      unfold vOf at HV
      dsimp only at HV
      refine (HV.out _).mono ?_
      rintro e w1 ⟨rfl, hB⟩
      have hX : B3 w1 w.heap.size 0 0 ⟨#[]⟩ := HX.out.later hB
      have HBW := Lib.hid (vnext HB.out hB)
      obtain ⟨x0, x1, x2, z0, z1, z2⟩ := hX.cells
      have hXl := hX.lt
      obtain ⟨hq, hg⟩ := b3_set hX vk vn vs
      have hb5 := HBW.out.grown hg HBW.out.size (fun q hq => by injection hq with hq; omega)
      clear hB hg
      go_wp2_with fail
      generalize ((w1.setCell ⟨w.heap.size, 0, none⟩ (.int .u8 (vk : Int))).setCell ⟨w.heap.size, 1, none⟩ (.int .i64 vn)).setCell ⟨w.heap.size, 2, none⟩ (.string vs) = w5 at *
      obtain ⟨y0, y1, y2, _, _, _⟩ := hq.cells
      refine bodyPost_ret (v := .agg #[.int .u8 (vk : Int), .int .i64 vn, .string vs]) (by simp [results, Tryz.results80, go_sem, y0, y1, y2]) rfl ⟨by rw [HE.out, HZ.out, HVV.out]; rfl, hb5⟩
  · have HZ : Hid (modZ x y = r + y) := by unfold Hid; rw [HM.out, if_pos ⟨hr0, hlt⟩]
    have hsw : IntKind.i64.wrap (r + y) = r + y := IntWalk.i64_in _ (by have := hs hlt; unfold InI at this; omega)
    clear HM hs hr0
    by_cases hy9 : y < 0
    · have d1 : decide (y < 0) = true := decide_eq_true hy9
      have d2 : decide (r < 0) = false := decide_eq_false (fun h => hlt ⟨fun _ => hy9, fun _ => h⟩)
      clear hlt hy9
      go_wp2_with fail
      generalize w.alloc (.cells #[.int .u8 0, .int .i64 0, .string ⟨#[]⟩] 25) = wa at *
      have HV := Lib.hid (fun W => make_any (r + y) W)
      have HV : Hid (∀ W, Calls Tryz.prog 74 #[.int .i64 (r + y)] W fun e w' => e = .returned (vOf (mkV (r + y))) ∧ Below W.heap.size W w') := HV
      generalize hvv : mkV (r + y) = vv at HV
      have HVV := Lib.hid hvv
      clear hvv
      obtain ⟨vk, vn, vs⟩ := vv
      unfold vOf at HV
      dsimp only at HV
      refine (HV.out _).mono ?_
      rintro e w1 ⟨rfl, hB⟩
      have hX : B3 w1 w.heap.size 0 0 ⟨#[]⟩ := HX.out.later hB
      have HBW := Lib.hid (vnext HB.out hB)
      obtain ⟨x0, x1, x2, z0, z1, z2⟩ := hX.cells
      have hXl := hX.lt
      obtain ⟨hq, hg⟩ := b3_set hX vk vn vs
      have hb5 := HBW.out.grown hg HBW.out.size (fun q hq => by injection hq with hq; omega)
      clear hB hg
      go_wp2_with fail
      generalize ((w1.setCell ⟨w.heap.size, 0, none⟩ (.int .u8 (vk : Int))).setCell ⟨w.heap.size, 1, none⟩ (.int .i64 vn)).setCell ⟨w.heap.size, 2, none⟩ (.string vs) = w5 at *
      obtain ⟨y0, y1, y2, _, _, _⟩ := hq.cells
      refine bodyPost_ret (v := .agg #[.int .u8 (vk : Int), .int .i64 vn, .string vs]) (by simp [results, Tryz.results80, go_sem, y0, y1, y2]) rfl ⟨by rw [HE.out, HZ.out, HVV.out]; rfl, hb5⟩
    · have d1 : decide (y < 0) = false := decide_eq_false hy9
      have d2 : decide (r < 0) = true := decide_eq_true (by omega)
      clear hlt hy9
      go_wp2_with fail
      generalize w.alloc (.cells #[.int .u8 0, .int .i64 0, .string ⟨#[]⟩] 25) = wa at *
      have HV := Lib.hid (fun W => make_any (r + y) W)
      have HV : Hid (∀ W, Calls Tryz.prog 74 #[.int .i64 (r + y)] W fun e w' => e = .returned (vOf (mkV (r + y))) ∧ Below W.heap.size W w') := HV
      generalize hvv : mkV (r + y) = vv at HV
      have HVV := Lib.hid hvv
      clear hvv
      obtain ⟨vk, vn, vs⟩ := vv
      unfold vOf at HV
      dsimp only at HV
      refine (HV.out _).mono ?_
      rintro e w1 ⟨rfl, hB⟩
      have hX : B3 w1 w.heap.size 0 0 ⟨#[]⟩ := HX.out.later hB
      have HBW := Lib.hid (vnext HB.out hB)
      obtain ⟨x0, x1, x2, z0, z1, z2⟩ := hX.cells
      have hXl := hX.lt
      obtain ⟨hq, hg⟩ := b3_set hX vk vn vs
      have hb5 := HBW.out.grown hg HBW.out.size (fun q hq => by injection hq with hq; omega)
      clear hB hg
      go_wp2_with fail
      generalize ((w1.setCell ⟨w.heap.size, 0, none⟩ (.int .u8 (vk : Int))).setCell ⟨w.heap.size, 1, none⟩ (.int .i64 vn)).setCell ⟨w.heap.size, 2, none⟩ (.string vs) = w5 at *
      obtain ⟨y0, y1, y2, _, _, _⟩ := hq.cells
      refine bodyPost_ret (v := .agg #[.int .u8 (vk : Int), .int .i64 vn, .string vs]) (by simp [results, Tryz.results80, go_sem, y0, y1, y2]) rfl ⟨by rw [HE.out, HZ.out, HVV.out]; rfl, hb5⟩
set_option maxHeartbeats 6400000 in
theorem power_v (x y : Int) (hx : InI x) (hy : InI y) (w : World) : Calls Tryz.prog 81 #[.int .i64 x, .int .i64 y] w fun e w' => e = .returned (vOf (powR x y)) ∧ Below w.heap.size w w' := by
  have HX : Hid (B3 (w.alloc (.cells #[.int .u8 0, .int .i64 0, .string ⟨#[]⟩] 25)) w.heap.size 0 0 ⟨#[]⟩) := B3.start w 0 0 ⟨#[]⟩
  have HB := Lib.hid (valloc w (.cells #[.int .u8 0, .int .i64 0, .string ⟨#[]⟩] 25))
  have HTR := Lib.hid (fun W => trunc_any y hy W)
  have hq := tq_bd hy
  have HPW := Lib.hid (fun W => power_any x (y.tdiv 10000) hx (by unfold InI at hq; omega) W)
  have HNU := Lib.hid (fun W => pnumber_any (powV x (y.tdiv 10000)) (powV_ge x (y.tdiv 10000) hx) (powB x (y.tdiv 10000)) W)
  have hqw : IntKind.i64.wrap (y.tdiv 10000) = y.tdiv 10000 := IntWalk.i64_in _ (by unfold InI at hq; omega)
  by_cases h1 : truncZ y = y
  · have e1 : (truncZ y == y) = true := by simpa using h1
    have e2 : (truncZ y != y) = false := by simpa using h1
    by_cases h2 : x = 0 ∧ y < 0
    · have HE : Hid (powR x y = flV 1) := by unfold Hid powR; rw [if_neg (fun h => h h1), if_pos h2]
      obtain ⟨rfl, h3⟩ := h2
      have d1 : decide (y < 0) = true := decide_eq_true h3
      go_enter Tryz.func81, Tryz.ntmps81
      go_wp2_with fail
      generalize w.alloc (.cells #[.int .u8 0, .int .i64 0, .string ⟨#[]⟩] 25) = wa at *
      refine (HTR.out _).mono ?_
      rintro e w1 ⟨rfl, rfl⟩
      go_wp2_with fail
      refine (fail_any 1 _).mono ?_
      rw [show flN 1 = 1 from rfl]
      rintro e w1 ⟨rfl, hB⟩
      have hX : B3 w1 w.heap.size 0 0 ⟨#[]⟩ := HX.out.later hB
      have HBW := Lib.hid (vnext HB.out hB)
      obtain ⟨x0, x1, x2, z0, z1, z2⟩ := hX.cells
      have hXl := hX.lt
      obtain ⟨hq, hg⟩ := b3_set hX 4 1 ⟨#[]⟩
      have hb5 := HBW.out.grown hg HBW.out.size (fun q hq => by injection hq with hq; omega)
      clear hB hg
      go_wp2_with fail
      generalize ((w1.setCell ⟨w.heap.size, 0, none⟩ (.int .u8 4)).setCell ⟨w.heap.size, 1, none⟩ (.int .i64 1)).setCell ⟨w.heap.size, 2, none⟩ (.string ⟨#[]⟩) = w5 at *
      obtain ⟨y0, y1, y2, _, _, _⟩ := hq.cells
      refine bodyPost_ret (v := .agg #[.int .u8 4, .int .i64 1, .string ⟨#[]⟩]) (by simp [results, Tryz.results81, go_sem, y0, y1, y2]) rfl ⟨by rw [HE.out]; rfl, hb5⟩
    · have HE : Hid (powR x y = numR (powV x (y.tdiv 10000)) (powB x (y.tdiv 10000))) := by unfold Hid powR; rw [if_neg (fun h => h h1), if_neg h2]
      generalize hvv : numR (powV x (y.tdiv 10000)) (powB x (y.tdiv 10000)) = vv at HNU
      rw [hvv] at HE
      clear hvv
      obtain ⟨vk, vn, vs⟩ := vv
      unfold vOf at HNU
      dsimp only at HNU
      by_cases h3 : x = 0
      · have d0 : (x == 0) = true := by simpa using h3
        have d1 : decide (y < 0) = false := decide_eq_false (fun h => h2 ⟨h3, h⟩)
        clear h3
        go_enter Tryz.func81, Tryz.ntmps81
        go_wp2_with fail
        generalize w.alloc (.cells #[.int .u8 0, .int .i64 0, .string ⟨#[]⟩] 25) = wa at *
        refine (HTR.out _).mono ?_
        rintro e w1 ⟨rfl, rfl⟩
        go_wp2_with fail
        refine (HPW.out _).mono ?_
        rintro e w0 ⟨rfl, j, rfl⟩
        replace HX : Hid (B3 (wa.drewN j) w.heap.size 0 0 ⟨#[]⟩) := HX
        replace HB := Lib.hid (drewN_below HB.out j)
        generalize wa.drewN j = wb at *
        go_wp2_with fail
        refine (HNU.out _).mono ?_
        rintro e w1 ⟨rfl, hB⟩
        have hX : B3 w1 w.heap.size 0 0 ⟨#[]⟩ := HX.out.later hB
        have HBW := Lib.hid (vnext HB.out hB)
        obtain ⟨x0, x1, x2, z0, z1, z2⟩ := hX.cells
        have hXl := hX.lt
        obtain ⟨hq, hg⟩ := b3_set hX vk vn vs
        have hb5 := HBW.out.grown hg HBW.out.size (fun q hq => by injection hq with hq; omega)
        clear hB hg
        go_wp2_with fail
        generalize ((w1.setCell ⟨w.heap.size, 0, none⟩ (.int .u8 (vk : Int))).setCell ⟨w.heap.size, 1, none⟩ (.int .i64 vn)).setCell ⟨w.heap.size, 2, none⟩ (.string vs) = w5 at *
        obtain ⟨y0, y1, y2, _, _, _⟩ := hq.cells
        refine bodyPost_ret (v := .agg #[.int .u8 (vk : Int), .int .i64 vn, .string vs]) (by simp [results, Tryz.results81, go_sem, y0, y1, y2]) rfl ⟨by rw [HE.out]; rfl, hb5⟩
      · have d0 : (x == 0) = false := by simpa using h3
        clear h3
        go_enter Tryz.func81, Tryz.ntmps81
        go_wp2_with fail
        generalize w.alloc (.cells #[.int .u8 0, .int .i64 0, .string ⟨#[]⟩] 25) = wa at *
        refine (HTR.out _).mono ?_
        rintro e w1 ⟨rfl, rfl⟩
        go_wp2_with fail
        refine (HPW.out _).mono ?_
        rintro e w0 ⟨rfl, j, rfl⟩
        replace HX : Hid (B3 (wa.drewN j) w.heap.size 0 0 ⟨#[]⟩) := HX
        replace HB := Lib.hid (drewN_below HB.out j)
        generalize wa.drewN j = wb at *
        go_wp2_with fail
        refine (HNU.out _).mono ?_
        rintro e w1 ⟨rfl, hB⟩
        have hX : B3 w1 w.heap.size 0 0 ⟨#[]⟩ := HX.out.later hB
        have HBW := Lib.hid (vnext HB.out hB)
        obtain ⟨x0, x1, x2, z0, z1, z2⟩ := hX.cells
        have hXl := hX.lt
        obtain ⟨hq, hg⟩ := b3_set hX vk vn vs
        have hb5 := HBW.out.grown hg HBW.out.size (fun q hq => by injection hq with hq; omega)
        clear hB hg
        go_wp2_with fail
        generalize ((w1.setCell ⟨w.heap.size, 0, none⟩ (.int .u8 (vk : Int))).setCell ⟨w.heap.size, 1, none⟩ (.int .i64 vn)).setCell ⟨w.heap.size, 2, none⟩ (.string vs) = w5 at *
        obtain ⟨y0, y1, y2, _, _, _⟩ := hq.cells
        refine bodyPost_ret (v := .agg #[.int .u8 (vk : Int), .int .i64 vn, .string vs]) (by simp [results, Tryz.results81, go_sem, y0, y1, y2]) rfl ⟨by rw [HE.out]; rfl, hb5⟩
  · have HE : Hid (powR x y = flV 3) := by unfold Hid powR; rw [if_pos h1]
    have e1 : (truncZ y == y) = false := by simpa using h1
    have e2 : (truncZ y != y) = true := by simpa using h1
    go_enter Tryz.func81, Tryz.ntmps81
    go_wp2_with fail
    generalize w.alloc (.cells #[.int .u8 0, .int .i64 0, .string ⟨#[]⟩] 25) = wa at *
    refine (HTR.out _).mono ?_
    rintro e w1 ⟨rfl, rfl⟩
    go_wp2_with fail
    refine (fail_any 3 _).mono ?_
    rw [show flN 3 = 3 from rfl]
    rintro e w1 ⟨rfl, hB⟩
    have hX : B3 w1 w.heap.size 0 0 ⟨#[]⟩ := HX.out.later hB
    have HBW := Lib.hid (vnext HB.out hB)
    obtain ⟨x0, x1, x2, z0, z1, z2⟩ := hX.cells
    have hXl := hX.lt
    obtain ⟨hq, hg⟩ := b3_set hX 4 3 ⟨#[]⟩
    have hb5 := HBW.out.grown hg HBW.out.size (fun q hq => by injection hq with hq; omega)
    clear hB hg
    go_wp2_with fail
    generalize ((w1.setCell ⟨w.heap.size, 0, none⟩ (.int .u8 4)).setCell ⟨w.heap.size, 1, none⟩ (.int .i64 3)).setCell ⟨w.heap.size, 2, none⟩ (.string ⟨#[]⟩) = w5 at *
    obtain ⟨y0, y1, y2, _, _, _⟩ := hq.cells
    refine bodyPost_ret (v := .agg #[.int .u8 4, .int .i64 3, .string ⟨#[]⟩]) (by simp [results, Tryz.results81, go_sem, y0, y1, y2]) rfl ⟨by rw [HE.out]; rfl, hb5⟩
end Go.Proofs.YtfjefanhkbcfgaaGreatDoor.Va
/- fnum.Call: its parts that read the list of arguments. -/
namespace Go.Proofs.YtfjefanhkbcfgaaGreatDoor.Va
open Go Go.RowKit GM
set_option linter.unusedVariables false
set_option linter.unusedSimpArgs false
set_option maxHeartbeats 3200000 in
theorem pvalid_any (a : Option Addr) (n cap : Nat) (L : List V3) (hn : n ≤ 1000) (w : World) (hL : IsV w a n L) (hv : ∀ v ∈ L, v.2.2.size ≤ maxLen ∧ leastI ≤ v.2.1) :
    Calls Tryz.prog 32 #[.slice a n cap] w fun e w' => e = .returned (.bool (okL L)) ∧ Below w.heap.size w w' := by
  have HL := Lib.hid hL
  have HNL := Lib.hid hL.1
  have HV : Hid (∀ v ∈ L, ∀ W : World, Calls Tryz.prog 50 #[.agg #[.int .u8 (v.1 : Int), .int .i64 v.2.1, .string v.2.2]] W fun e w' => e = .returned (.int .i64 (vE v.1 v.2.1 v.2.2.data.toList)) ∧ Below W.heap.size W w') := fun v hvm W => vcheck_any v.1 v.2.1 v.2.2 (hv v hvm).1 (hv v hvm).2 W
  clear hL hv
  go_enter Tryz.func32, Tryz.ntmps32
  go_wp2_with fail
  go_loopw [7] (fun i wr => ∃ k : Nat, k ≤ n ∧ i = .int .i64 (k : Int) ∧ Hid (Below w.heap.size w wr) ∧ Hid (okL (L.take k) = true)) (fun i _ => n - (intOf i).toNat)
  case atStart => exact ⟨0, Nat.zero_le _, rfl, Below.refl _ _, rfl⟩
  case round =>
    obtain ⟨k, hk, rfl, HB, HOK⟩ := hrel
    by_cases hlt : k < n
    · have hkl : k < L.length := by rw [HNL.out]; exact hlt
      have HVk := Lib.hid (HV.out L[k] (List.getElem_mem hkl))
      obtain ⟨b, off, rfl, hbl, c1, c2, c3⟩ := isV_at (IsOf.later HL.out HB.out) hkl
      have hst := okL_step hkl HOK.out
      have HBAD := Lib.hid (fun h => okL_bad (L := L) (k := k) h)
      have hv02 : vE L[k].1 L[k].2.1 L[k].2.2.data.toList = 0 ∨ vE L[k].1 L[k].2.1 L[k].2.2.data.toList = 2 := by unfold vE; split <;> simp
      generalize L[k] = vv at *
      obtain ⟨kd, nm, tx⟩ := vv
      dsimp only at c1 c2 c3 HVk hst hv02
      have HST := Lib.hid hst
      have HBa := Lib.hid (vnext HB.out (valloc wr (.cells #[.int .u8 (kd : Int), .int .i64 nm, .string tx] 25)))
      clear hst
      go_wp2_with fail
      generalize wr.alloc (.cells #[.int .u8 (kd : Int), .int .i64 nm, .string tx] 25) = wb at *
      refine (HVk.out _).mono ?_
      rintro e w2 ⟨rfl, hB2⟩
      have HB2 := Lib.hid (vnext HBa.out hB2)
      clear hB2 c1 c2 c3 hbl HVk
      rcases hv02 with h0 | h2
      · have HTN : Hid (okL (L.take (k + 1)) = true) := by unfold Hid; rw [HST.out, h0]; rfl
        rw [h0]
        clear h0
        go_wp2_with fail
        exact ⟨⟨k + 1, by omega, by go_num, HB2.out, HTN.out⟩, by simp [intOf]; omega⟩
      · have HTN : Hid (okL L = false) := HBAD.out (by rw [HST.out, h2]; rfl)
        rw [h2]
        clear h2
        go_wp2_with fail
        refine bodyPost_ret (v := .bool false) (by simp [results, Tryz.results32, go_sem]) rfl ⟨by rw [HTN.out], HB2.out⟩
    · have HTN : Hid (okL L = true) := by
        unfold Hid
        have := HOK.out
        rwa [List.take_of_length_le (by rw [HNL.out]; omega)] at this
      go_wp2_with fail
      refine bodyPost_ret (v := .bool true) (by simp [results, Tryz.results32, go_sem]) rfl ⟨by rw [HTN.out], HB.out⟩
/-- A value as a number. -/
def c1V (v : V3) : V3 := cvR 1 v.1 v.2.1 v.2.2
/-- The first of the values that is no number, or the numbers. -/
def nmR : List V3 → List Int → List Int ⊕ V3
  | [], M => .inl M
  | v :: L, M => if (c1V v).1 = 4 then .inr (c1V v) else nmR L (M ++ [(c1V v).2.1])
theorem nmR_step {L : List V3} {k : Nat} (h : k < L.length) (M : List Int) : nmR (L.drop k) M = if (c1V L[k]).1 = 4 then .inr (c1V L[k]) else nmR (L.drop (k + 1)) (M ++ [(c1V L[k]).2.1]) := by
  rw [List.drop_eq_getElem_cons h]; rfl
theorem nmR_end {L : List V3} {k : Nat} (h : L.length ≤ k) (M : List Int) : nmR (L.drop k) M = .inl M := by
  rw [List.drop_of_length_le h]; rfl
theorem nmR_len : ∀ (L : List V3) (M M' : List Int), nmR L M = .inl M' → M'.length = M.length + L.length ∧ ∀ x ∈ M', x ∈ M ∨ ∃ v ∈ L, x = (c1V v).2.1 ∧ (c1V v).1 ≠ 4
  | [], M, M', h => by
    injection h with h; subst h
    exact ⟨rfl, fun x hx => .inl hx⟩
  | v :: L, M, M', h => by
    have e : nmR (v :: L) M = if (c1V v).1 = 4 then .inr (c1V v) else nmR L (M ++ [(c1V v).2.1]) := rfl
    rw [e] at h
    split at h
    · cases h
    · next h4 =>
      obtain ⟨h1, h2⟩ := nmR_len L _ M' h
      refine ⟨by rw [h1]; simp; omega, fun x hx => ?_⟩
      rcases h2 x hx with h3 | ⟨u, hu, h3⟩
      · rcases List.mem_append.1 h3 with h3 | h3
        · exact .inl h3
        · exact .inr ⟨v, List.mem_cons_self .., List.mem_singleton.1 h3, h4⟩
      · exact .inr ⟨u, List.mem_cons_of_mem _ hu, h3⟩
/-- The cells that fill writes: those of the numbers so far, and zeros. -/
def FilP (ps : List Nat) (M : List Int) (w : World) : Prop := ∀ j (h : j < ps.length), w.heap[ps[j]]? = some (.cells #[.int .i64 (M.getD j 0)] 2)
theorem FilP.later {ps : List Nat} {M : List Int} {w w' : World} (h : FilP ps M w) (hB : Below w.heap.size w w') : FilP ps M w' := fun j hj => (hB.block _ (Array.getElem?_eq_some_iff.1 (h j hj)).1).trans (h j hj)
theorem FilP.drew {ps : List Nat} {M : List Int} {w : World} (h : FilP ps M w) : FilP ps M w.drew := h
theorem FilP.set {ps : List Nat} {M : List Int} {w : World} (h : FilP ps M w) (hnd : ps.Nodup) (hk : M.length < ps.length) (x : Int) : FilP ps (M ++ [x]) (w.setCell ⟨ps[M.length], 0, none⟩ (.int .i64 x)) := by
  intro j hj
  by_cases e : j = M.length
  · subst e
    have := h M.length hk
    simp [World.setCell, Array.getElem?_modify, this]
  · have hne : ps[M.length] ≠ ps[j] := fun h' => e ((List.getElem_inj hnd).1 h').symm
    rw [Below.heap_setCell _ _ _ _ (Ne.symm hne), h j hj]
    congr 3
    rw [List.getD_eq_getElem?_getD, List.getD_eq_getElem?_getD]
    by_cases h2 : j < M.length
    · rw [List.getElem?_append_left h2]
    · rw [List.getElem?_eq_none (by omega), List.getElem?_eq_none (by simp; omega)]
/-- The pointers that fill gets. -/
def QP (ps : List Nat) (q : Nat) (w : World) : Prop := q < w.heap.size ∧ ∀ j (h : j < ps.length), w.cell? ⟨q, j, none⟩ = some (.pointer (some ⟨ps[j], 0, none⟩))
theorem QP.later {ps : List Nat} {q : Nat} {w w' : World} (h : QP ps q w) (hB : Below w.heap.size w w') : QP ps q w' := ⟨Nat.lt_of_lt_of_le h.1 hB.size, fun j hj => (hB.cell (p := ⟨q, j, none⟩) h.1).trans (h.2 j hj)⟩
theorem QP.set {ps : List Nat} {q p : Nat} {w : World} (h : QP ps q w) (hne : q ≠ p) (u : Value) : QP ps q (w.setCell ⟨p, 0, none⟩ u) :=
  ⟨by simpa [World.setCell] using h.1, fun j hj => (World.cell?_of_block (a := ⟨q, j, none⟩) (Below.heap_setCell w ⟨p, 0, none⟩ u q hne)).trans (h.2 j hj)⟩
theorem FilP.at_ {ps : List Nat} {M : List Int} {w : World} (h : FilP ps M w) {j : Nat} (hj : j < ps.length) : ps[j] < w.heap.size ∧ w.cell? ⟨ps[j], 0, none⟩ = some (.int .i64 (M.getD j 0)) ∧ w.frozen? ⟨ps[j], 0, none⟩ = false := by
  have := h j hj
  refine ⟨(Array.getElem?_eq_some_iff.1 this).1, ?_, ?_⟩
  · simp [World.cell?, this]
  · simp [World.frozen?, this]
theorem FilP.b3 {ps : List Nat} {M : List Int} {w : World} (h : FilP ps M w) {p k : Nat} {n : Int} {s : ByteArray} (hb : B3 w p k n s) : ∀ x ∈ ps, p ≠ x := by
  intro x hx e
  obtain ⟨j, hj, rfl⟩ := List.getElem_of_mem hx
  have h1 := h j hj
  unfold B3 at hb
  rw [← e, hb] at h1
  injection h1 with h1
  injection h1 with h1 h2 h3
  simp at h1
/-- What fill returns. -/
def FlP (R : List Int ⊕ V3) (ps : List Nat) (e : Ending) (w' : World) : Prop :=
  match R with
  | .inl M => e = .returned (.tuple #[.agg #[.int .u8 0, .int .i64 0, .string ⟨#[]⟩], .bool true]) ∧ FilP ps M w'
  | .inr x => e = .returned (.tuple #[.agg #[.int .u8 (x.1 : Int), .int .i64 x.2.1, .string x.2.2], .bool false])
set_option maxRecDepth 100000 in
set_option maxHeartbeats 6400000 in
theorem fill_any (w0 : World) (a : Option Addr) (n cap q p0 : Nat) (L : List V3) (ps : List Nat) (hps : ps.length = n) (hnd : ps.Nodup) (hn : n ≤ 2) (hL : IsV w0 a n L) (hv : ∀ v ∈ L, v.2.2.size ≤ 2000 ∧ InI v.2.1) (hT : Tb w0)
    (hlo : ∀ p ∈ ps, w0.heap.size ≤ p) (w : World) (hB : Below w0.heap.size w0 w) (hQ : QP ps q w) (hqn : ∀ p ∈ ps, q ≠ p) (hF : FilP ps [] w) (hP : B3 w p0 0 0 ⟨#[]⟩) :
    Calls Tryz.prog 71 #[.slice a n cap, .slice (some ⟨q, 0, none⟩) n n] w fun e w' => FlP (nmR L []) ps e w' ∧ Below w0.heap.size w0 w' ∧ B3 w' p0 0 0 ⟨#[]⟩ ∧ w.heap.size ≤ w'.heap.size := by
  have HL := Lib.hid hL
  have HNL := Lib.hid hL.1
  have HV := Lib.hid hv
  have HT := Lib.hid hT
  have HLO := Lib.hid hlo
  have HQN := Lib.hid hqn
  have HND := Lib.hid hnd
  have l1 := valloc w (.cells #[.int .u8 0, .int .i64 0, .string ⟨#[]⟩] 25)
  have HB := Lib.hid (show Below w0.heap.size w0 (w.alloc (.cells #[.int .u8 0, .int .i64 0, .string ⟨#[]⟩] 25)) from hB.trans (l1.mono hB.size))
  have HX : Hid (B3 (w.alloc (.cells #[.int .u8 0, .int .i64 0, .string ⟨#[]⟩] 25)) w.heap.size 0 0 ⟨#[]⟩) := B3.start w 0 0 ⟨#[]⟩
  have HQ := Lib.hid (hQ.later l1)
  have HF := Lib.hid (hF.later l1)
  have HP := Lib.hid (hP.later l1)
  have HS := Lib.hid l1.size
  obtain ⟨R, hR⟩ : ∃ R, nmR L [] = R := ⟨_, rfl⟩
  rw [hR]
  have HR : Hid (nmR (L.drop 0) [] = R) := by rw [List.drop_zero]; exact hR
  have hp0w : p0 < w.heap.size := hP.lt
  have HW0 : Hid (w0.heap.size ≤ w.heap.size) := hB.size
  have HXP : Hid (p0 ≠ w.heap.size) := by unfold Hid; omega
  clear hL hv hT hlo hqn hnd l1 hB hQ hF hP hR
  go_enter Tryz.func71, Tryz.ntmps71
  go_wp2_with fail
  generalize w.alloc (.cells #[.int .u8 0, .int .i64 0, .string ⟨#[]⟩] 25) = wa at *
  go_loopw [11] (fun i wr => ∃ (k : Nat) (M : List Int), k ≤ n ∧ i = .int .i64 (k : Int) ∧ M.length = k ∧ Hid (nmR (L.drop k) M = R) ∧ Hid (FilP ps M wr) ∧ Hid (Below w0.heap.size w0 wr) ∧ Hid (B3 wr w.heap.size 0 0 ⟨#[]⟩) ∧ Hid (B3 wr p0 0 0 ⟨#[]⟩) ∧ Hid (QP ps q wr) ∧ Hid (w.heap.size ≤ wr.heap.size)) (fun i _ => n - (intOf i).toNat)
  case atStart => exact ⟨0, [], Nat.zero_le _, rfl, rfl, HR.out, HF.out, HB.out, HX.out, HP.out, HQ.out, HS.out⟩
  case round =>
    clear HR HF HB HX HP HQ HS
    obtain ⟨k, M, hk, rfl, hM, HR, HF, HB, HX, HP, HQ, HS⟩ := hrel
    by_cases hlt : k < n
    · have hkl : k < L.length := by rw [HNL.out]; exact hlt
      obtain ⟨hvs, hvi⟩ := HV.out L[k] (List.getElem_mem hkl)
      obtain ⟨b, off, rfl, hbl, c1, c2, c3⟩ := isV_at (IsOf.later HL.out HB.out) hkl
      have hst := nmR_step hkl M
      rw [HR.out] at hst
      unfold c1V at hst
      generalize L[k] = vv at *
      obtain ⟨kd, nm, tx⟩ := vv
      dsimp only at c1 c2 c3 hvs hvi hst
      have HST := Lib.hid hst
      have HCK := Lib.hid (fun W hW => vto_num kd nm tx hvs hvi W hW)
      clear hst HR hvs hvi
      generalize cvR 1 kd nm tx = r at *
      obtain ⟨rk, rn, rs⟩ := r
      dsimp only at HCK HST
      have la := valloc wr (.cells #[.int .u8 (kd : Int), .int .i64 nm, .string tx] 25)
      replace HF := Lib.hid (HF.out.later la)
      replace HB := Lib.hid (show Below w0.heap.size w0 _ from HB.out.trans (la.mono HB.out.size))
      replace HX := Lib.hid (HX.out.later la)
      replace HP := Lib.hid (HP.out.later la)
      replace HQ := Lib.hid (HQ.out.later la)
      replace HS := Lib.hid (Nat.le_trans HS.out la.size)
      clear la
      go_wp2_with fail
      generalize wr.alloc (.cells #[.int .u8 (kd : Int), .int .i64 nm, .string tx] 25) = wb at *
      refine (HCK.out _ (HT.out.later HB.out)).mono ?_
      rintro e w1 ⟨rfl, hB1⟩
      have hB2 := vnext hB1 (valloc w1 (.cells #[.int .u8 (rk : Int), .int .i64 rn, .string rs] 25))
      replace HF := Lib.hid (HF.out.later hB2)
      replace HB := Lib.hid (show Below w0.heap.size w0 _ from HB.out.trans (hB2.mono HB.out.size))
      replace HX := Lib.hid (HX.out.later hB2)
      replace HP := Lib.hid (HP.out.later hB2)
      replace HQ := Lib.hid (HQ.out.later hB2)
      replace HS := Lib.hid (Nat.le_trans HS.out hB2.size)
      have HY := Lib.hid (B3.start w1 rk rn rs)
      clear hB1 hB2 HCK c1 c2 c3 hbl
      go_upto_region 5 with fail
      generalize w1.alloc (.cells #[.int .u8 (rk : Int), .int .i64 rn, .string rs] 25) = w2 at *
      obtain ⟨y0, y1, y2, _, _, _⟩ := HY.out.cells
      have hyl := HY.out.lt
      by_cases h4 : rk = 4
      · have hk4 : ((rk : Int) == 4) = true := by rw [h4]; rfl
        have HE : Hid (R = .inr (rk, rn, rs)) := by rw [HST.out, if_pos h4]; exact rfl
        clear h4 HST
        obtain ⟨x0, x1, x2, z0, z1, z2⟩ := HX.out.cells
        have hXl := HX.out.lt
        obtain ⟨hq, hg⟩ := b3_set HX.out rk rn rs
        have hb5 := HB.out.grown hg HB.out.size (fun q hq => by injection hq with hq; rw [← hq]; exact HW0.out)
        have HP5 := Lib.hid (HP.out.grownB hg (fun e => by injection e with e; exact HXP.out e.symm))
        have HS5 := Lib.hid (Nat.le_trans HS.out hg.size)
        clear hg
        go_wp2_with fail
        generalize ((w2.setCell ⟨w.heap.size, 0, none⟩ (.int .u8 (rk : Int))).setCell ⟨w.heap.size, 1, none⟩ (.int .i64 rn)).setCell ⟨w.heap.size, 2, none⟩ (.string rs) = w5 at *
        obtain ⟨v0, v1, v2, _, _, _⟩ := hq.cells
        refine bodyPost_ret (v := .tuple #[.agg #[.int .u8 (rk : Int), .int .i64 rn, .string rs], .bool false]) (by simp [results, Tryz.results71, go_sem, v0, v1, v2]) rfl ⟨by rw [HE.out]; exact rfl, hb5, HP5.out, HS5.out⟩
      · have hk4 : ((rk : Int) == 4) = false := by simp; omega
        rw [if_neg h4] at HST
        have HR := Lib.hid HST.out.symm
        clear h4 HST
        have hkp : k < ps.length := by omega
        obtain ⟨g1, g2, g3⟩ := HF.out.at_ hkp
        have g4 := HQ.out.2 k hkp
        have g5 := HQ.out.1
        have hmem : ps[k] ∈ ps := List.getElem_mem hkp
        have HF5 := Lib.hid (FilP.set HF.out HND.out (by omega) rn)
        have HB5 := Lib.hid (HB.out.setCell (p := ⟨ps[k], 0, none⟩) (HLO.out _ hmem) (.int .i64 rn))
        have HX5 := Lib.hid (HX.out.other (HF.out.b3 HX.out _ hmem) 0 (.int .i64 rn))
        have HP5 := Lib.hid (HP.out.other (HF.out.b3 HP.out _ hmem) 0 (.int .i64 rn))
        have HQ5 := Lib.hid (HQ.out.set (HQN.out _ hmem) (.int .i64 rn))
        have HS5 : Hid (w.heap.size ≤ (w2.setCell ⟨ps[k], 0, none⟩ (.int .i64 rn)).heap.size) := by unfold Hid; simpa [World.setCell] using HS.out
        subst hM
        generalize ps[M.length] = pk at *
        go_wp2_with fail
        go_region
        go_wp2_with fail
        exact ⟨⟨M.length + 1, M ++ [rn], by omega, by go_num, by simp, HR.out, HF5.out.drew, HB5.out.drew, HX5.out, HP5.out, HQ5.out, HS5.out⟩, by simp [intOf]; omega⟩
    · obtain rfl : k = n := by omega
      have hend := nmR_end (L := L) (k := k) (by rw [HNL.out]; exact Nat.le_refl _) M
      rw [HR.out] at hend
      have HE := Lib.hid hend
      clear hend HR
      obtain ⟨x0, x1, x2, z0, z1, z2⟩ := HX.out.cells
      have hXl := HX.out.lt
      obtain ⟨hq, hg⟩ := b3_set HX.out 0 0 ⟨#[]⟩
      have hb5 := HB.out.grown hg HB.out.size (fun q hq => by injection hq with hq; rw [← hq]; exact HW0.out)
      have HP5 := Lib.hid (HP.out.grownB hg (fun e => by injection e with e; exact HXP.out e.symm))
      have HS5 := Lib.hid (Nat.le_trans HS.out hg.size)
      have HF5 : Hid (FilP ps M (((wr.setCell ⟨w.heap.size, 0, none⟩ (.int .u8 ((0 : Nat) : Int))).setCell ⟨w.heap.size, 1, none⟩ (.int .i64 0)).setCell ⟨w.heap.size, 2, none⟩ (.string ⟨#[]⟩))) := fun j hj => (hg.block _ (HF.out.at_ hj).1 (fun e => HF.out.b3 HX.out _ (List.getElem_mem hj) (by injection e with e; exact e.symm))).trans (HF.out j hj)
      clear hg
      go_wp2_with fail
      generalize ((wr.setCell ⟨w.heap.size, 0, none⟩ (.int .u8 ((0 : Nat) : Int))).setCell ⟨w.heap.size, 1, none⟩ (.int .i64 0)).setCell ⟨w.heap.size, 2, none⟩ (.string ⟨#[]⟩) = w5 at *
      obtain ⟨v0, v1, v2, _, _, _⟩ := hq.cells
      refine bodyPost_ret (v := .tuple #[.agg #[.int .u8 0, .int .i64 0, .string ⟨#[]⟩], .bool true]) (by simp [results, Tryz.results71, go_sem, v0, v1, v2]) rfl ⟨by rw [HE.out]; exact ⟨rfl, HF5.out⟩, hb5, HP5.out, HS5.out⟩
end Go.Proofs.YtfjefanhkbcfgaaGreatDoor.Va
/- fnum.Call of one and of two values. -/
namespace Go.Proofs.YtfjefanhkbcfgaaGreatDoor.Va
open Go Go.RowKit GM
set_option linter.unusedVariables false
set_option linter.unusedSimpArgs false
theorem root_ex (x : Int) : ∃ r : Int, ∀ t, IsRoot (x * 10000) t → t = r := by
  by_cases h : ∃ r, IsRoot (x * 10000) r
  · obtain ⟨r, hr⟩ := h
    exact ⟨r, fun t ht => IsRoot.unique ht hr⟩
  · exact ⟨0, fun t ht => absurd ⟨t, ht⟩ h⟩
/-- The root of a number. -/
noncomputable def rootZ (x : Int) : Int := Classical.choose (root_ex x)
theorem rootZ_of {x t : Int} (h : IsRoot (x * 10000) t) : t = rootZ x := Classical.choose_spec (root_ex x) t h
/-- The functions of one number. -/
noncomputable def oneV (fn : Nat) (x : Int) : V3 :=
  match fn with
  | 1 => mkV (max x (-x))
  | 2 => mkV (sgI x 0 * 10000)
  | 3 => numR (Go.Proofs.YtfjefanhkbcfgaaGreatDoor.resV (floorZ x)) (resB (floorZ x))
  | 4 => mkV (truncZ x)
  | _ => if x < 0 then flV 3 else mkV (rootZ x)
/-- The functions of two. -/
def twoV (fn : Nat) (x y : Int) : V3 :=
  match fn with
  | 5 => numR (rndV x (min (max (y.tdiv 10000) (-20)) 4)) (rndB x (min (max (y.tdiv 10000) (-20)) 4))
  | 6 => modR x y
  | _ => powR x y
/-- What fnum.Call makes of arguments that are valid and as many as it asks. -/
noncomputable def fnumV (fn : Nat) (L : List V3) : V3 :=
  match nmR L [] with
  | .inr x => x
  | .inl M => if M.length = 1 then oneV fn (M.getD 0 0) else twoV fn (M.getD 0 0) (M.getD 1 0)
theorem c1_ok {v : V3} (hi : InI v.2.1) (h4 : (c1V v).1 ≠ 4) : -9223372036854775808 < (c1V v).2.1 ∧ (c1V v).2.1 ≤ 9223372036854775807 := by
  obtain ⟨h1, h2⟩ := cv1_ok v.1 v.2.1 v.2.2
  have hk := h2.resolve_right h4
  rw [hk] at h1
  have h3 := cv1_in v.1 v.2.1 v.2.2 hi
  unfold c1V
  generalize cvR 1 v.1 v.2.1 v.2.2 = r at *
  unfold InI at h3
  unfold vE vldV at h1
  simp [leastI] at h1
  obtain ⟨h5, _⟩ := h1
  refine ⟨?_, h3.2⟩
  rcases Int.lt_or_eq_of_le h3.1 with h | h
  · exact h
  · exact absurd h.symm (of_decide_eq_true h5)
theorem nm_one {L : List V3} {M : List Int} (hL : L.length = 1) (hv : ∀ v ∈ L, v.2.2.size ≤ 2000 ∧ InI v.2.1) (h : nmR L [] = .inl M) : ∃ x, M = [x] ∧ -9223372036854775808 < x ∧ x ≤ 9223372036854775807 := by
  obtain ⟨h1, h2⟩ := nmR_len L [] M h
  match M, h1 with
  | [x], _ =>
    obtain ⟨v, hm, e, h4⟩ := (h2 x (List.mem_cons_self ..)).resolve_left (by simp)
    have := c1_ok (hv v hm).2 h4
    exact ⟨x, rfl, by omega, by omega⟩
  | [], h1 => simp [hL] at h1
  | x :: y :: l, h1 => simp [hL] at h1
theorem nm_two {L : List V3} {M : List Int} (hL : L.length = 2) (hv : ∀ v ∈ L, v.2.2.size ≤ 2000 ∧ InI v.2.1) (h : nmR L [] = .inl M) : ∃ x y, M = [x, y] ∧ (-9223372036854775808 < x ∧ x ≤ 9223372036854775807) ∧ -9223372036854775808 < y ∧ y ≤ 9223372036854775807 := by
  obtain ⟨h1, h2⟩ := nmR_len L [] M h
  match M, h1 with
  | [x, y], _ =>
    obtain ⟨v, hm, e, h4⟩ := (h2 x (List.mem_cons_self ..)).resolve_left (by simp)
    obtain ⟨u, hm', e', h4'⟩ := (h2 y (by simp)).resolve_left (by simp)
    have := c1_ok (hv v hm).2 h4
    have := c1_ok (hv u hm').2 h4'
    exact ⟨x, y, rfl, ⟨by omega, by omega⟩, by omega, by omega⟩
  | [], h1 => simp [hL] at h1
  | [x], h1 => simp [hL] at h1
  | x :: y :: z :: l, h1 => simp [hL] at h1
theorem rndV_ge (x p : Int) : leastI ≤ rndV x p := by
  unfold rndV
  split
  · exact resV_ge _
  · split
    · unfold leastI; decide
    · exact resV_ge _
theorem filP_nil (w : World) (ps : List Nat) (h : ∀ p ∈ ps, w.heap[p]? = some (.cells #[.int .i64 0] 2)) : FilP ps [] w := fun j hj => h _ (List.getElem_mem hj)
set_option maxRecDepth 100000 in
set_option maxHeartbeats 6400000 in
theorem one_1 (a : Option Addr) (cap : Nat) (L : List V3) (w : World) (hL : IsV w a 1 L) (hv : ∀ v ∈ L, v.2.2.size ≤ 2000 ∧ InI v.2.1) (hT : Tb w) : Calls Tryz.prog 33 #[.int .u8 1, .slice a 1 cap] w fun e w' => e = .returned (vOf (fnumV 1 L)) ∧ Below w.heap.size w w' := by
  have l1 := valloc w (.cells #[.int .u8 0, .int .i64 0, .string ⟨#[]⟩] 25)
  have l2 := valloc (w.alloc (.cells #[.int .u8 0, .int .i64 0, .string ⟨#[]⟩] 25)) (.cells #[.int .i64 0] 2)
  have l4 := valloc ((w.alloc (.cells #[.int .u8 0, .int .i64 0, .string ⟨#[]⟩] 25)).alloc (.cells #[.int .i64 0] 2)) (.cells #[.pointer (some ⟨w.heap.size + 1, 0, none⟩)] 83)
  have HB := Lib.hid (show Below w.heap.size w (((w.alloc (.cells #[.int .u8 0, .int .i64 0, .string ⟨#[]⟩] 25)).alloc (.cells #[.int .i64 0] 2)).alloc (.cells #[.pointer (some ⟨w.heap.size + 1, 0, none⟩)] 83)) from (vnext (vnext l1 l2) l4))
  have HX := Lib.hid (show B3 (((w.alloc (.cells #[.int .u8 0, .int .i64 0, .string ⟨#[]⟩] 25)).alloc (.cells #[.int .i64 0] 2)).alloc (.cells #[.pointer (some ⟨w.heap.size + 1, 0, none⟩)] 83)) w.heap.size 0 0 ⟨#[]⟩ from ((B3.start w 0 0 ⟨#[]⟩).later l2).later l4)
  have f1 : (((w.alloc (.cells #[.int .u8 0, .int .i64 0, .string ⟨#[]⟩] 25)).alloc (.cells #[.int .i64 0] 2)).alloc (.cells #[.pointer (some ⟨w.heap.size + 1, 0, none⟩)] 83)).heap[w.heap.size + 1]? = some (.cells #[.int .i64 0] 2) := by
    have h : ((w.alloc (.cells #[.int .u8 0, .int .i64 0, .string ⟨#[]⟩] 25)).alloc (.cells #[.int .i64 0] 2)).heap[w.heap.size + 1]? = some (.cells #[.int .i64 0] 2) := by have := World.alloc_heap_new (w.alloc (.cells #[.int .u8 0, .int .i64 0, .string ⟨#[]⟩] 25)) (.cells #[.int .i64 0] 2); rwa [World.size_alloc] at this
    exact (l4.block _ (by simp)).trans h
  have HF := Lib.hid (filP_nil (((w.alloc (.cells #[.int .u8 0, .int .i64 0, .string ⟨#[]⟩] 25)).alloc (.cells #[.int .i64 0] 2)).alloc (.cells #[.pointer (some ⟨w.heap.size + 1, 0, none⟩)] 83)) [w.heap.size + 1] (by intro p hp; simp at hp; subst hp; exact f1))
  have HQ : Hid (QP [w.heap.size + 1] (w.heap.size + 1 + 1) (((w.alloc (.cells #[.int .u8 0, .int .i64 0, .string ⟨#[]⟩] 25)).alloc (.cells #[.int .i64 0] 2)).alloc (.cells #[.pointer (some ⟨w.heap.size + 1, 0, none⟩)] 83))) := ⟨by simp, fun j hj => by
    obtain rfl : j = 0 := by have : j < 1 := hj; omega
    have : (((w.alloc (.cells #[.int .u8 0, .int .i64 0, .string ⟨#[]⟩] 25)).alloc (.cells #[.int .i64 0] 2)).alloc (.cells #[.pointer (some ⟨w.heap.size + 1, 0, none⟩)] 83)).cell? ⟨((w.alloc (.cells #[.int .u8 0, .int .i64 0, .string ⟨#[]⟩] 25)).alloc (.cells #[.int .i64 0] 2)).heap.size, 0, none⟩ = some (.pointer (some ⟨w.heap.size + 1, 0, none⟩)) := (World.cell?_alloc_at _ _ _ 0 rfl).trans rfl
    rwa [World.size_alloc, World.size_alloc] at this⟩
  have hnl := hL.1
  have HFL := Lib.hid (fun W hB hQ hF hP => fill_any w a 1 cap (w.heap.size + 1 + 1) w.heap.size L [w.heap.size + 1] rfl (by simp) (by decide) hL hv hT (by intro p hp; simp at hp; omega) W hB hQ (by intro p hp; simp at hp; omega) hF hP)
  have HNM := Lib.hid (fun M h => nm_one (L := L) (M := M) hnl hv h)
  have HR : Hid (∀ k, fnumV k L = match nmR L [] with | .inr x => x | .inl M => if M.length = 1 then oneV k (M.getD 0 0) else twoV k (M.getD 0 0) (M.getD 1 0)) := fun k => rfl
  generalize nmR L [] = R at *
  clear hL hv hT hnl l1 l2 l4 f1
  go_enter Tryz.func33, Tryz.ntmps33
  go_wp2_with fail
  generalize ((w.alloc (.cells #[.int .u8 0, .int .i64 0, .string ⟨#[]⟩] 25)).alloc (.cells #[.int .i64 0] 2)).alloc (.cells #[.pointer (some ⟨w.heap.size + 1, 0, none⟩)] 83) = wa at *
  refine (HFL.out wa HB.out HQ.out HF.out HX.out).mono ?_
  rintro e w1 ⟨hR, hB1, hP1, _⟩
  replace HB := Lib.hid hB1
  replace HX := Lib.hid hP1
  clear hB1 hP1 HFL HF HQ
  unfold FlP at hR
  cases R with
  | inr x =>
    obtain ⟨xk, xn, xs⟩ := x
    dsimp only at hR
    subst hR
    have HE : Hid (fnumV 1 L = (xk, xn, xs)) := HR.out 1
    have HY := Lib.hid (B3.start w1 xk xn xs)
    have l4 := valloc w1 (.cells #[.int .u8 (xk : Int), .int .i64 xn, .string xs] 25)
    replace HX := Lib.hid (HX.out.later l4)
    replace HB := Lib.hid (vnext HB.out l4)
    clear l4
    go_upto_region 3 with fail
    generalize w1.alloc (.cells #[.int .u8 (xk : Int), .int .i64 xn, .string xs] 25) = w4 at *
    obtain ⟨y0, y1, y2, _, _, _⟩ := HY.out.cells
    have hyl := HY.out.lt
    have hB : Below w4.heap.size w4 w4 := Below.refl _ _
    have hX : B3 w4 w.heap.size 0 0 ⟨#[]⟩ := HX.out.later hB
    have HBW := Lib.hid (vnext HB.out hB)
    obtain ⟨x0, x1, x2, z0, z1, z2⟩ := hX.cells
    have hXl := hX.lt
    obtain ⟨hq, hg⟩ := b3_set hX xk xn xs
    have hb5 := HBW.out.grown hg HBW.out.size (fun q hq => by injection hq with hq; omega)
    clear hB hg
    go_wp2_with fail
    generalize ((w4.setCell ⟨w.heap.size, 0, none⟩ (.int .u8 (xk : Int))).setCell ⟨w.heap.size, 1, none⟩ (.int .i64 xn)).setCell ⟨w.heap.size, 2, none⟩ (.string xs) = w5 at *
    obtain ⟨y0, y1, y2, _, _, _⟩ := hq.cells
    refine bodyPost_ret (v := .agg #[.int .u8 (xk : Int), .int .i64 xn, .string xs]) (by simp [results, Tryz.results33, go_sem, y0, y1, y2]) rfl ⟨by rw [HE.out]; rfl, hb5⟩
  | inl M =>
    obtain ⟨rfl, hF1⟩ := hR
    obtain ⟨x, rfl, hx1, hx2⟩ := HNM.out M rfl
    have l4 := valloc w1 (.cells #[.int .u8 0, .int .i64 0, .string ⟨#[]⟩] 25)
    have HF := Lib.hid (hF1.later l4)
    replace HX := Lib.hid (HX.out.later l4)
    replace HB := Lib.hid (vnext HB.out l4)
    have HE : Hid (fnumV 1 L = oneV 1 x) := HR.out 1
    clear l4 hF1 HNM HR
    go_upto_region 3 with fail
    generalize w1.alloc (.cells #[.int .u8 0, .int .i64 0, .string ⟨#[]⟩] 25) = wa at *
    obtain ⟨i1, i2, _⟩ := HF.out.at_ (j := 0) (by simp)
    have i3 : wa.cell? ⟨w.heap.size + 1, 0, none⟩ = some (.int .i64 x) := i2
    have i4 : w.heap.size + 1 < wa.heap.size := i1
    clear i1 i2
    clear HF
    by_cases h0 : x < 0
    · have d1 : decide (x < 0) = true := decide_eq_true h0
      have HN : Hid (oneV 1 x = numR (Go.Proofs.YtfjefanhkbcfgaaGreatDoor.resV (-x)) (resB (-x))) := by
        unfold Hid
        rw [show resB (-x) = true from decide_eq_true (by omega), show Go.Proofs.YtfjefanhkbcfgaaGreatDoor.resV (-x) = -x from if_pos (by omega)]
        show mkV (max x (-x)) = mkV (-x)
        rw [show max x (-x) = -x by omega]
      go_wp2_with fail
      refine (neg_any x ⟨by omega, hx2⟩ _).mono ?_
      rintro e w9 ⟨rfl, rfl⟩
      go_wp2_with fail
      have HV := Lib.hid (fun W => pnumber_any (Go.Proofs.YtfjefanhkbcfgaaGreatDoor.resV (-x)) (resV_ge _) (resB (-x)) W)
      generalize hvv : numR (Go.Proofs.YtfjefanhkbcfgaaGreatDoor.resV (-x)) (resB (-x)) = vv at HV
      have HVV := Lib.hid hvv
      clear hvv
      obtain ⟨vk, vn, vs⟩ := vv
      unfold vOf at HV
      dsimp only at HV
      refine (HV.out _).mono ?_
      rintro e w1 ⟨rfl, hB⟩
      have hX : B3 w1 w.heap.size 0 0 ⟨#[]⟩ := HX.out.later hB
      have HBW := Lib.hid (vnext HB.out hB)
      obtain ⟨x0, x1, x2, z0, z1, z2⟩ := hX.cells
      have hXl := hX.lt
      obtain ⟨hq, hg⟩ := b3_set hX vk vn vs
      have hb5 := HBW.out.grown hg HBW.out.size (fun q hq => by injection hq with hq; omega)
      clear hB hg
      go_wp2_with fail
      generalize ((w1.setCell ⟨w.heap.size, 0, none⟩ (.int .u8 (vk : Int))).setCell ⟨w.heap.size, 1, none⟩ (.int .i64 vn)).setCell ⟨w.heap.size, 2, none⟩ (.string vs) = w5 at *
      obtain ⟨y0, y1, y2, _, _, _⟩ := hq.cells
      refine bodyPost_ret (v := .agg #[.int .u8 (vk : Int), .int .i64 vn, .string vs]) (by simp [results, Tryz.results33, go_sem, y0, y1, y2]) rfl ⟨by rw [HE.out, HN.out, HVV.out]; rfl, hb5⟩
    · have d1 : decide (x < 0) = false := decide_eq_false h0
      have HN : Hid (oneV 1 x = mkV x) := by
        show mkV (max x (-x)) = mkV x
        rw [show max x (-x) = x by omega]
      go_wp2_with fail
      have HV := Lib.hid (fun W => make_any (x) W)
      have HV : Hid (∀ W, Calls Tryz.prog 74 #[.int .i64 (x)] W fun e w' => e = .returned (vOf (mkV (x))) ∧ Below W.heap.size W w') := HV
      generalize hvv : mkV (x) = vv at HV
      have HVV := Lib.hid hvv
      clear hvv
      obtain ⟨vk, vn, vs⟩ := vv
      unfold vOf at HV
      dsimp only at HV
      refine (HV.out _).mono ?_
      rintro e w1 ⟨rfl, hB⟩
      have hX : B3 w1 w.heap.size 0 0 ⟨#[]⟩ := HX.out.later hB
      have HBW := Lib.hid (vnext HB.out hB)
      obtain ⟨x0, x1, x2, z0, z1, z2⟩ := hX.cells
      have hXl := hX.lt
      obtain ⟨hq, hg⟩ := b3_set hX vk vn vs
      have hb5 := HBW.out.grown hg HBW.out.size (fun q hq => by injection hq with hq; omega)
      clear hB hg
      go_wp2_with fail
      generalize ((w1.setCell ⟨w.heap.size, 0, none⟩ (.int .u8 (vk : Int))).setCell ⟨w.heap.size, 1, none⟩ (.int .i64 vn)).setCell ⟨w.heap.size, 2, none⟩ (.string vs) = w5 at *
      obtain ⟨y0, y1, y2, _, _, _⟩ := hq.cells
      refine bodyPost_ret (v := .agg #[.int .u8 (vk : Int), .int .i64 vn, .string vs]) (by simp [results, Tryz.results33, go_sem, y0, y1, y2]) rfl ⟨by rw [HE.out, HN.out, HVV.out]; rfl, hb5⟩
set_option maxRecDepth 100000 in
set_option maxHeartbeats 6400000 in
theorem one_2 (a : Option Addr) (cap : Nat) (L : List V3) (w : World) (hL : IsV w a 1 L) (hv : ∀ v ∈ L, v.2.2.size ≤ 2000 ∧ InI v.2.1) (hT : Tb w) : Calls Tryz.prog 33 #[.int .u8 2, .slice a 1 cap] w fun e w' => e = .returned (vOf (fnumV 2 L)) ∧ Below w.heap.size w w' := by
  have l1 := valloc w (.cells #[.int .u8 0, .int .i64 0, .string ⟨#[]⟩] 25)
  have l2 := valloc (w.alloc (.cells #[.int .u8 0, .int .i64 0, .string ⟨#[]⟩] 25)) (.cells #[.int .i64 0] 2)
  have l4 := valloc ((w.alloc (.cells #[.int .u8 0, .int .i64 0, .string ⟨#[]⟩] 25)).alloc (.cells #[.int .i64 0] 2)) (.cells #[.pointer (some ⟨w.heap.size + 1, 0, none⟩)] 83)
  have HB := Lib.hid (show Below w.heap.size w (((w.alloc (.cells #[.int .u8 0, .int .i64 0, .string ⟨#[]⟩] 25)).alloc (.cells #[.int .i64 0] 2)).alloc (.cells #[.pointer (some ⟨w.heap.size + 1, 0, none⟩)] 83)) from (vnext (vnext l1 l2) l4))
  have HX := Lib.hid (show B3 (((w.alloc (.cells #[.int .u8 0, .int .i64 0, .string ⟨#[]⟩] 25)).alloc (.cells #[.int .i64 0] 2)).alloc (.cells #[.pointer (some ⟨w.heap.size + 1, 0, none⟩)] 83)) w.heap.size 0 0 ⟨#[]⟩ from ((B3.start w 0 0 ⟨#[]⟩).later l2).later l4)
  have f1 : (((w.alloc (.cells #[.int .u8 0, .int .i64 0, .string ⟨#[]⟩] 25)).alloc (.cells #[.int .i64 0] 2)).alloc (.cells #[.pointer (some ⟨w.heap.size + 1, 0, none⟩)] 83)).heap[w.heap.size + 1]? = some (.cells #[.int .i64 0] 2) := by
    have h : ((w.alloc (.cells #[.int .u8 0, .int .i64 0, .string ⟨#[]⟩] 25)).alloc (.cells #[.int .i64 0] 2)).heap[w.heap.size + 1]? = some (.cells #[.int .i64 0] 2) := by have := World.alloc_heap_new (w.alloc (.cells #[.int .u8 0, .int .i64 0, .string ⟨#[]⟩] 25)) (.cells #[.int .i64 0] 2); rwa [World.size_alloc] at this
    exact (l4.block _ (by simp)).trans h
  have HF := Lib.hid (filP_nil (((w.alloc (.cells #[.int .u8 0, .int .i64 0, .string ⟨#[]⟩] 25)).alloc (.cells #[.int .i64 0] 2)).alloc (.cells #[.pointer (some ⟨w.heap.size + 1, 0, none⟩)] 83)) [w.heap.size + 1] (by intro p hp; simp at hp; subst hp; exact f1))
  have HQ : Hid (QP [w.heap.size + 1] (w.heap.size + 1 + 1) (((w.alloc (.cells #[.int .u8 0, .int .i64 0, .string ⟨#[]⟩] 25)).alloc (.cells #[.int .i64 0] 2)).alloc (.cells #[.pointer (some ⟨w.heap.size + 1, 0, none⟩)] 83))) := ⟨by simp, fun j hj => by
    obtain rfl : j = 0 := by have : j < 1 := hj; omega
    have : (((w.alloc (.cells #[.int .u8 0, .int .i64 0, .string ⟨#[]⟩] 25)).alloc (.cells #[.int .i64 0] 2)).alloc (.cells #[.pointer (some ⟨w.heap.size + 1, 0, none⟩)] 83)).cell? ⟨((w.alloc (.cells #[.int .u8 0, .int .i64 0, .string ⟨#[]⟩] 25)).alloc (.cells #[.int .i64 0] 2)).heap.size, 0, none⟩ = some (.pointer (some ⟨w.heap.size + 1, 0, none⟩)) := (World.cell?_alloc_at _ _ _ 0 rfl).trans rfl
    rwa [World.size_alloc, World.size_alloc] at this⟩
  have hnl := hL.1
  have HFL := Lib.hid (fun W hB hQ hF hP => fill_any w a 1 cap (w.heap.size + 1 + 1) w.heap.size L [w.heap.size + 1] rfl (by simp) (by decide) hL hv hT (by intro p hp; simp at hp; omega) W hB hQ (by intro p hp; simp at hp; omega) hF hP)
  have HNM := Lib.hid (fun M h => nm_one (L := L) (M := M) hnl hv h)
  have HR : Hid (∀ k, fnumV k L = match nmR L [] with | .inr x => x | .inl M => if M.length = 1 then oneV k (M.getD 0 0) else twoV k (M.getD 0 0) (M.getD 1 0)) := fun k => rfl
  generalize nmR L [] = R at *
  clear hL hv hT hnl l1 l2 l4 f1
  go_enter Tryz.func33, Tryz.ntmps33
  go_wp2_with fail
  generalize ((w.alloc (.cells #[.int .u8 0, .int .i64 0, .string ⟨#[]⟩] 25)).alloc (.cells #[.int .i64 0] 2)).alloc (.cells #[.pointer (some ⟨w.heap.size + 1, 0, none⟩)] 83) = wa at *
  refine (HFL.out wa HB.out HQ.out HF.out HX.out).mono ?_
  rintro e w1 ⟨hR, hB1, hP1, _⟩
  replace HB := Lib.hid hB1
  replace HX := Lib.hid hP1
  clear hB1 hP1 HFL HF HQ
  unfold FlP at hR
  cases R with
  | inr x =>
    obtain ⟨xk, xn, xs⟩ := x
    dsimp only at hR
    subst hR
    have HE : Hid (fnumV 2 L = (xk, xn, xs)) := HR.out 2
    have HY := Lib.hid (B3.start w1 xk xn xs)
    have l4 := valloc w1 (.cells #[.int .u8 (xk : Int), .int .i64 xn, .string xs] 25)
    replace HX := Lib.hid (HX.out.later l4)
    replace HB := Lib.hid (vnext HB.out l4)
    clear l4
    go_upto_region 3 with fail
    generalize w1.alloc (.cells #[.int .u8 (xk : Int), .int .i64 xn, .string xs] 25) = w4 at *
    obtain ⟨y0, y1, y2, _, _, _⟩ := HY.out.cells
    have hyl := HY.out.lt
    have hB : Below w4.heap.size w4 w4 := Below.refl _ _
    have hX : B3 w4 w.heap.size 0 0 ⟨#[]⟩ := HX.out.later hB
    have HBW := Lib.hid (vnext HB.out hB)
    obtain ⟨x0, x1, x2, z0, z1, z2⟩ := hX.cells
    have hXl := hX.lt
    obtain ⟨hq, hg⟩ := b3_set hX xk xn xs
    have hb5 := HBW.out.grown hg HBW.out.size (fun q hq => by injection hq with hq; omega)
    clear hB hg
    go_wp2_with fail
    generalize ((w4.setCell ⟨w.heap.size, 0, none⟩ (.int .u8 (xk : Int))).setCell ⟨w.heap.size, 1, none⟩ (.int .i64 xn)).setCell ⟨w.heap.size, 2, none⟩ (.string xs) = w5 at *
    obtain ⟨y0, y1, y2, _, _, _⟩ := hq.cells
    refine bodyPost_ret (v := .agg #[.int .u8 (xk : Int), .int .i64 xn, .string xs]) (by simp [results, Tryz.results33, go_sem, y0, y1, y2]) rfl ⟨by rw [HE.out]; rfl, hb5⟩
  | inl M =>
    obtain ⟨rfl, hF1⟩ := hR
    obtain ⟨x, rfl, hx1, hx2⟩ := HNM.out M rfl
    have l4 := valloc w1 (.cells #[.int .u8 0, .int .i64 0, .string ⟨#[]⟩] 25)
    have HF := Lib.hid (hF1.later l4)
    replace HX := Lib.hid (HX.out.later l4)
    replace HB := Lib.hid (vnext HB.out l4)
    have HE : Hid (fnumV 2 L = oneV 2 x) := HR.out 2
    clear l4 hF1 HNM HR
    go_upto_region 3 with fail
    generalize w1.alloc (.cells #[.int .u8 0, .int .i64 0, .string ⟨#[]⟩] 25) = wa at *
    obtain ⟨i1, i2, _⟩ := HF.out.at_ (j := 0) (by simp)
    have i3 : wa.cell? ⟨w.heap.size + 1, 0, none⟩ = some (.int .i64 x) := i2
    have i4 : w.heap.size + 1 < wa.heap.size := i1
    clear i1 i2
    clear HF
    have hsg : -1 ≤ sgI x 0 ∧ sgI x 0 ≤ 1 := by unfold sgI; split <;> (try split) <;> decide
    have hsw : IntKind.i64.wrap (sgI x 0 * 10000) = sgI x 0 * 10000 := IntWalk.i64_in _ (by omega)
    have HN : Hid (oneV 2 x = mkV (sgI x 0 * 10000)) := rfl
    go_wp2_with fail
    refine (cmpL_any x 0 _).mono ?_
    rintro e w9 ⟨rfl, rfl⟩
    go_wp2_with fail
    have HV := Lib.hid (fun W => make_any (sgI x 0 * 10000) W)
    have HV : Hid (∀ W, Calls Tryz.prog 74 #[.int .i64 (sgI x 0 * 10000)] W fun e w' => e = .returned (vOf (mkV (sgI x 0 * 10000))) ∧ Below W.heap.size W w') := HV
    generalize hvv : mkV (sgI x 0 * 10000) = vv at HV
    have HVV := Lib.hid hvv
    clear hvv
    obtain ⟨vk, vn, vs⟩ := vv
    unfold vOf at HV
    dsimp only at HV
    refine (HV.out _).mono ?_
    rintro e w1 ⟨rfl, hB⟩
    have hX : B3 w1 w.heap.size 0 0 ⟨#[]⟩ := HX.out.later hB
    have HBW := Lib.hid (vnext HB.out hB)
    obtain ⟨x0, x1, x2, z0, z1, z2⟩ := hX.cells
    have hXl := hX.lt
    obtain ⟨hq, hg⟩ := b3_set hX vk vn vs
    have hb5 := HBW.out.grown hg HBW.out.size (fun q hq => by injection hq with hq; omega)
    clear hB hg
    go_wp2_with fail
    generalize ((w1.setCell ⟨w.heap.size, 0, none⟩ (.int .u8 (vk : Int))).setCell ⟨w.heap.size, 1, none⟩ (.int .i64 vn)).setCell ⟨w.heap.size, 2, none⟩ (.string vs) = w5 at *
    obtain ⟨y0, y1, y2, _, _, _⟩ := hq.cells
    refine bodyPost_ret (v := .agg #[.int .u8 (vk : Int), .int .i64 vn, .string vs]) (by simp [results, Tryz.results33, go_sem, y0, y1, y2]) rfl ⟨by rw [HE.out, HN.out, HVV.out]; rfl, hb5⟩
set_option maxRecDepth 100000 in
set_option maxHeartbeats 6400000 in
theorem one_3 (a : Option Addr) (cap : Nat) (L : List V3) (w : World) (hL : IsV w a 1 L) (hv : ∀ v ∈ L, v.2.2.size ≤ 2000 ∧ InI v.2.1) (hT : Tb w) : Calls Tryz.prog 33 #[.int .u8 3, .slice a 1 cap] w fun e w' => e = .returned (vOf (fnumV 3 L)) ∧ Below w.heap.size w w' := by
  have l1 := valloc w (.cells #[.int .u8 0, .int .i64 0, .string ⟨#[]⟩] 25)
  have l2 := valloc (w.alloc (.cells #[.int .u8 0, .int .i64 0, .string ⟨#[]⟩] 25)) (.cells #[.int .i64 0] 2)
  have l4 := valloc ((w.alloc (.cells #[.int .u8 0, .int .i64 0, .string ⟨#[]⟩] 25)).alloc (.cells #[.int .i64 0] 2)) (.cells #[.pointer (some ⟨w.heap.size + 1, 0, none⟩)] 83)
  have HB := Lib.hid (show Below w.heap.size w (((w.alloc (.cells #[.int .u8 0, .int .i64 0, .string ⟨#[]⟩] 25)).alloc (.cells #[.int .i64 0] 2)).alloc (.cells #[.pointer (some ⟨w.heap.size + 1, 0, none⟩)] 83)) from (vnext (vnext l1 l2) l4))
  have HX := Lib.hid (show B3 (((w.alloc (.cells #[.int .u8 0, .int .i64 0, .string ⟨#[]⟩] 25)).alloc (.cells #[.int .i64 0] 2)).alloc (.cells #[.pointer (some ⟨w.heap.size + 1, 0, none⟩)] 83)) w.heap.size 0 0 ⟨#[]⟩ from ((B3.start w 0 0 ⟨#[]⟩).later l2).later l4)
  have f1 : (((w.alloc (.cells #[.int .u8 0, .int .i64 0, .string ⟨#[]⟩] 25)).alloc (.cells #[.int .i64 0] 2)).alloc (.cells #[.pointer (some ⟨w.heap.size + 1, 0, none⟩)] 83)).heap[w.heap.size + 1]? = some (.cells #[.int .i64 0] 2) := by
    have h : ((w.alloc (.cells #[.int .u8 0, .int .i64 0, .string ⟨#[]⟩] 25)).alloc (.cells #[.int .i64 0] 2)).heap[w.heap.size + 1]? = some (.cells #[.int .i64 0] 2) := by have := World.alloc_heap_new (w.alloc (.cells #[.int .u8 0, .int .i64 0, .string ⟨#[]⟩] 25)) (.cells #[.int .i64 0] 2); rwa [World.size_alloc] at this
    exact (l4.block _ (by simp)).trans h
  have HF := Lib.hid (filP_nil (((w.alloc (.cells #[.int .u8 0, .int .i64 0, .string ⟨#[]⟩] 25)).alloc (.cells #[.int .i64 0] 2)).alloc (.cells #[.pointer (some ⟨w.heap.size + 1, 0, none⟩)] 83)) [w.heap.size + 1] (by intro p hp; simp at hp; subst hp; exact f1))
  have HQ : Hid (QP [w.heap.size + 1] (w.heap.size + 1 + 1) (((w.alloc (.cells #[.int .u8 0, .int .i64 0, .string ⟨#[]⟩] 25)).alloc (.cells #[.int .i64 0] 2)).alloc (.cells #[.pointer (some ⟨w.heap.size + 1, 0, none⟩)] 83))) := ⟨by simp, fun j hj => by
    obtain rfl : j = 0 := by have : j < 1 := hj; omega
    have : (((w.alloc (.cells #[.int .u8 0, .int .i64 0, .string ⟨#[]⟩] 25)).alloc (.cells #[.int .i64 0] 2)).alloc (.cells #[.pointer (some ⟨w.heap.size + 1, 0, none⟩)] 83)).cell? ⟨((w.alloc (.cells #[.int .u8 0, .int .i64 0, .string ⟨#[]⟩] 25)).alloc (.cells #[.int .i64 0] 2)).heap.size, 0, none⟩ = some (.pointer (some ⟨w.heap.size + 1, 0, none⟩)) := (World.cell?_alloc_at _ _ _ 0 rfl).trans rfl
    rwa [World.size_alloc, World.size_alloc] at this⟩
  have hnl := hL.1
  have HFL := Lib.hid (fun W hB hQ hF hP => fill_any w a 1 cap (w.heap.size + 1 + 1) w.heap.size L [w.heap.size + 1] rfl (by simp) (by decide) hL hv hT (by intro p hp; simp at hp; omega) W hB hQ (by intro p hp; simp at hp; omega) hF hP)
  have HNM := Lib.hid (fun M h => nm_one (L := L) (M := M) hnl hv h)
  have HR : Hid (∀ k, fnumV k L = match nmR L [] with | .inr x => x | .inl M => if M.length = 1 then oneV k (M.getD 0 0) else twoV k (M.getD 0 0) (M.getD 1 0)) := fun k => rfl
  generalize nmR L [] = R at *
  clear hL hv hT hnl l1 l2 l4 f1
  go_enter Tryz.func33, Tryz.ntmps33
  go_wp2_with fail
  generalize ((w.alloc (.cells #[.int .u8 0, .int .i64 0, .string ⟨#[]⟩] 25)).alloc (.cells #[.int .i64 0] 2)).alloc (.cells #[.pointer (some ⟨w.heap.size + 1, 0, none⟩)] 83) = wa at *
  refine (HFL.out wa HB.out HQ.out HF.out HX.out).mono ?_
  rintro e w1 ⟨hR, hB1, hP1, _⟩
  replace HB := Lib.hid hB1
  replace HX := Lib.hid hP1
  clear hB1 hP1 HFL HF HQ
  unfold FlP at hR
  cases R with
  | inr x =>
    obtain ⟨xk, xn, xs⟩ := x
    dsimp only at hR
    subst hR
    have HE : Hid (fnumV 3 L = (xk, xn, xs)) := HR.out 3
    have HY := Lib.hid (B3.start w1 xk xn xs)
    have l4 := valloc w1 (.cells #[.int .u8 (xk : Int), .int .i64 xn, .string xs] 25)
    replace HX := Lib.hid (HX.out.later l4)
    replace HB := Lib.hid (vnext HB.out l4)
    clear l4
    go_upto_region 3 with fail
    generalize w1.alloc (.cells #[.int .u8 (xk : Int), .int .i64 xn, .string xs] 25) = w4 at *
    obtain ⟨y0, y1, y2, _, _, _⟩ := HY.out.cells
    have hyl := HY.out.lt
    have hB : Below w4.heap.size w4 w4 := Below.refl _ _
    have hX : B3 w4 w.heap.size 0 0 ⟨#[]⟩ := HX.out.later hB
    have HBW := Lib.hid (vnext HB.out hB)
    obtain ⟨x0, x1, x2, z0, z1, z2⟩ := hX.cells
    have hXl := hX.lt
    obtain ⟨hq, hg⟩ := b3_set hX xk xn xs
    have hb5 := HBW.out.grown hg HBW.out.size (fun q hq => by injection hq with hq; omega)
    clear hB hg
    go_wp2_with fail
    generalize ((w4.setCell ⟨w.heap.size, 0, none⟩ (.int .u8 (xk : Int))).setCell ⟨w.heap.size, 1, none⟩ (.int .i64 xn)).setCell ⟨w.heap.size, 2, none⟩ (.string xs) = w5 at *
    obtain ⟨y0, y1, y2, _, _, _⟩ := hq.cells
    refine bodyPost_ret (v := .agg #[.int .u8 (xk : Int), .int .i64 xn, .string xs]) (by simp [results, Tryz.results33, go_sem, y0, y1, y2]) rfl ⟨by rw [HE.out]; rfl, hb5⟩
  | inl M =>
    obtain ⟨rfl, hF1⟩ := hR
    obtain ⟨x, rfl, hx1, hx2⟩ := HNM.out M rfl
    have l4 := valloc w1 (.cells #[.int .u8 0, .int .i64 0, .string ⟨#[]⟩] 25)
    have HF := Lib.hid (hF1.later l4)
    replace HX := Lib.hid (HX.out.later l4)
    replace HB := Lib.hid (vnext HB.out l4)
    have HE : Hid (fnumV 3 L = oneV 3 x) := HR.out 3
    clear l4 hF1 HNM HR
    go_upto_region 3 with fail
    generalize w1.alloc (.cells #[.int .u8 0, .int .i64 0, .string ⟨#[]⟩] 25) = wa at *
    obtain ⟨i1, i2, _⟩ := HF.out.at_ (j := 0) (by simp)
    have i3 : wa.cell? ⟨w.heap.size + 1, 0, none⟩ = some (.int .i64 x) := i2
    have i4 : w.heap.size + 1 < wa.heap.size := i1
    clear i1 i2
    clear HF
    have HN : Hid (oneV 3 x = numR (Go.Proofs.YtfjefanhkbcfgaaGreatDoor.resV (floorZ x)) (resB (floorZ x))) := rfl
    go_wp2_with fail
    refine (floor_any x ⟨by omega, hx2⟩ _).mono ?_
    rintro e w9 ⟨rfl, rfl⟩
    go_wp2_with fail
    have HV := Lib.hid (fun W => pnumber_any (Go.Proofs.YtfjefanhkbcfgaaGreatDoor.resV (floorZ x)) (resV_ge _) (resB (floorZ x)) W)
    generalize hvv : numR (Go.Proofs.YtfjefanhkbcfgaaGreatDoor.resV (floorZ x)) (resB (floorZ x)) = vv at HV
    have HVV := Lib.hid hvv
    clear hvv
    obtain ⟨vk, vn, vs⟩ := vv
    unfold vOf at HV
    dsimp only at HV
    refine (HV.out _).mono ?_
    rintro e w1 ⟨rfl, hB⟩
    have hX : B3 w1 w.heap.size 0 0 ⟨#[]⟩ := HX.out.later hB
    have HBW := Lib.hid (vnext HB.out hB)
    obtain ⟨x0, x1, x2, z0, z1, z2⟩ := hX.cells
    have hXl := hX.lt
    obtain ⟨hq, hg⟩ := b3_set hX vk vn vs
    have hb5 := HBW.out.grown hg HBW.out.size (fun q hq => by injection hq with hq; omega)
    clear hB hg
    go_wp2_with fail
    generalize ((w1.setCell ⟨w.heap.size, 0, none⟩ (.int .u8 (vk : Int))).setCell ⟨w.heap.size, 1, none⟩ (.int .i64 vn)).setCell ⟨w.heap.size, 2, none⟩ (.string vs) = w5 at *
    obtain ⟨y0, y1, y2, _, _, _⟩ := hq.cells
    refine bodyPost_ret (v := .agg #[.int .u8 (vk : Int), .int .i64 vn, .string vs]) (by simp [results, Tryz.results33, go_sem, y0, y1, y2]) rfl ⟨by rw [HE.out, HN.out, HVV.out]; rfl, hb5⟩
set_option maxRecDepth 100000 in
set_option maxHeartbeats 6400000 in
theorem one_4 (a : Option Addr) (cap : Nat) (L : List V3) (w : World) (hL : IsV w a 1 L) (hv : ∀ v ∈ L, v.2.2.size ≤ 2000 ∧ InI v.2.1) (hT : Tb w) : Calls Tryz.prog 33 #[.int .u8 4, .slice a 1 cap] w fun e w' => e = .returned (vOf (fnumV 4 L)) ∧ Below w.heap.size w w' := by
  have l1 := valloc w (.cells #[.int .u8 0, .int .i64 0, .string ⟨#[]⟩] 25)
  have l2 := valloc (w.alloc (.cells #[.int .u8 0, .int .i64 0, .string ⟨#[]⟩] 25)) (.cells #[.int .i64 0] 2)
  have l4 := valloc ((w.alloc (.cells #[.int .u8 0, .int .i64 0, .string ⟨#[]⟩] 25)).alloc (.cells #[.int .i64 0] 2)) (.cells #[.pointer (some ⟨w.heap.size + 1, 0, none⟩)] 83)
  have HB := Lib.hid (show Below w.heap.size w (((w.alloc (.cells #[.int .u8 0, .int .i64 0, .string ⟨#[]⟩] 25)).alloc (.cells #[.int .i64 0] 2)).alloc (.cells #[.pointer (some ⟨w.heap.size + 1, 0, none⟩)] 83)) from (vnext (vnext l1 l2) l4))
  have HX := Lib.hid (show B3 (((w.alloc (.cells #[.int .u8 0, .int .i64 0, .string ⟨#[]⟩] 25)).alloc (.cells #[.int .i64 0] 2)).alloc (.cells #[.pointer (some ⟨w.heap.size + 1, 0, none⟩)] 83)) w.heap.size 0 0 ⟨#[]⟩ from ((B3.start w 0 0 ⟨#[]⟩).later l2).later l4)
  have f1 : (((w.alloc (.cells #[.int .u8 0, .int .i64 0, .string ⟨#[]⟩] 25)).alloc (.cells #[.int .i64 0] 2)).alloc (.cells #[.pointer (some ⟨w.heap.size + 1, 0, none⟩)] 83)).heap[w.heap.size + 1]? = some (.cells #[.int .i64 0] 2) := by
    have h : ((w.alloc (.cells #[.int .u8 0, .int .i64 0, .string ⟨#[]⟩] 25)).alloc (.cells #[.int .i64 0] 2)).heap[w.heap.size + 1]? = some (.cells #[.int .i64 0] 2) := by have := World.alloc_heap_new (w.alloc (.cells #[.int .u8 0, .int .i64 0, .string ⟨#[]⟩] 25)) (.cells #[.int .i64 0] 2); rwa [World.size_alloc] at this
    exact (l4.block _ (by simp)).trans h
  have HF := Lib.hid (filP_nil (((w.alloc (.cells #[.int .u8 0, .int .i64 0, .string ⟨#[]⟩] 25)).alloc (.cells #[.int .i64 0] 2)).alloc (.cells #[.pointer (some ⟨w.heap.size + 1, 0, none⟩)] 83)) [w.heap.size + 1] (by intro p hp; simp at hp; subst hp; exact f1))
  have HQ : Hid (QP [w.heap.size + 1] (w.heap.size + 1 + 1) (((w.alloc (.cells #[.int .u8 0, .int .i64 0, .string ⟨#[]⟩] 25)).alloc (.cells #[.int .i64 0] 2)).alloc (.cells #[.pointer (some ⟨w.heap.size + 1, 0, none⟩)] 83))) := ⟨by simp, fun j hj => by
    obtain rfl : j = 0 := by have : j < 1 := hj; omega
    have : (((w.alloc (.cells #[.int .u8 0, .int .i64 0, .string ⟨#[]⟩] 25)).alloc (.cells #[.int .i64 0] 2)).alloc (.cells #[.pointer (some ⟨w.heap.size + 1, 0, none⟩)] 83)).cell? ⟨((w.alloc (.cells #[.int .u8 0, .int .i64 0, .string ⟨#[]⟩] 25)).alloc (.cells #[.int .i64 0] 2)).heap.size, 0, none⟩ = some (.pointer (some ⟨w.heap.size + 1, 0, none⟩)) := (World.cell?_alloc_at _ _ _ 0 rfl).trans rfl
    rwa [World.size_alloc, World.size_alloc] at this⟩
  have hnl := hL.1
  have HFL := Lib.hid (fun W hB hQ hF hP => fill_any w a 1 cap (w.heap.size + 1 + 1) w.heap.size L [w.heap.size + 1] rfl (by simp) (by decide) hL hv hT (by intro p hp; simp at hp; omega) W hB hQ (by intro p hp; simp at hp; omega) hF hP)
  have HNM := Lib.hid (fun M h => nm_one (L := L) (M := M) hnl hv h)
  have HR : Hid (∀ k, fnumV k L = match nmR L [] with | .inr x => x | .inl M => if M.length = 1 then oneV k (M.getD 0 0) else twoV k (M.getD 0 0) (M.getD 1 0)) := fun k => rfl
  generalize nmR L [] = R at *
  clear hL hv hT hnl l1 l2 l4 f1
  go_enter Tryz.func33, Tryz.ntmps33
  go_wp2_with fail
  generalize ((w.alloc (.cells #[.int .u8 0, .int .i64 0, .string ⟨#[]⟩] 25)).alloc (.cells #[.int .i64 0] 2)).alloc (.cells #[.pointer (some ⟨w.heap.size + 1, 0, none⟩)] 83) = wa at *
  refine (HFL.out wa HB.out HQ.out HF.out HX.out).mono ?_
  rintro e w1 ⟨hR, hB1, hP1, _⟩
  replace HB := Lib.hid hB1
  replace HX := Lib.hid hP1
  clear hB1 hP1 HFL HF HQ
  unfold FlP at hR
  cases R with
  | inr x =>
    obtain ⟨xk, xn, xs⟩ := x
    dsimp only at hR
    subst hR
    have HE : Hid (fnumV 4 L = (xk, xn, xs)) := HR.out 4
    have HY := Lib.hid (B3.start w1 xk xn xs)
    have l4 := valloc w1 (.cells #[.int .u8 (xk : Int), .int .i64 xn, .string xs] 25)
    replace HX := Lib.hid (HX.out.later l4)
    replace HB := Lib.hid (vnext HB.out l4)
    clear l4
    go_upto_region 3 with fail
    generalize w1.alloc (.cells #[.int .u8 (xk : Int), .int .i64 xn, .string xs] 25) = w4 at *
    obtain ⟨y0, y1, y2, _, _, _⟩ := HY.out.cells
    have hyl := HY.out.lt
    have hB : Below w4.heap.size w4 w4 := Below.refl _ _
    have hX : B3 w4 w.heap.size 0 0 ⟨#[]⟩ := HX.out.later hB
    have HBW := Lib.hid (vnext HB.out hB)
    obtain ⟨x0, x1, x2, z0, z1, z2⟩ := hX.cells
    have hXl := hX.lt
    obtain ⟨hq, hg⟩ := b3_set hX xk xn xs
    have hb5 := HBW.out.grown hg HBW.out.size (fun q hq => by injection hq with hq; omega)
    clear hB hg
    go_wp2_with fail
    generalize ((w4.setCell ⟨w.heap.size, 0, none⟩ (.int .u8 (xk : Int))).setCell ⟨w.heap.size, 1, none⟩ (.int .i64 xn)).setCell ⟨w.heap.size, 2, none⟩ (.string xs) = w5 at *
    obtain ⟨y0, y1, y2, _, _, _⟩ := hq.cells
    refine bodyPost_ret (v := .agg #[.int .u8 (xk : Int), .int .i64 xn, .string xs]) (by simp [results, Tryz.results33, go_sem, y0, y1, y2]) rfl ⟨by rw [HE.out]; rfl, hb5⟩
  | inl M =>
    obtain ⟨rfl, hF1⟩ := hR
    obtain ⟨x, rfl, hx1, hx2⟩ := HNM.out M rfl
    have l4 := valloc w1 (.cells #[.int .u8 0, .int .i64 0, .string ⟨#[]⟩] 25)
    have HF := Lib.hid (hF1.later l4)
    replace HX := Lib.hid (HX.out.later l4)
    replace HB := Lib.hid (vnext HB.out l4)
    have HE : Hid (fnumV 4 L = oneV 4 x) := HR.out 4
    clear l4 hF1 HNM HR
    go_upto_region 3 with fail
    generalize w1.alloc (.cells #[.int .u8 0, .int .i64 0, .string ⟨#[]⟩] 25) = wa at *
    obtain ⟨i1, i2, _⟩ := HF.out.at_ (j := 0) (by simp)
    have i3 : wa.cell? ⟨w.heap.size + 1, 0, none⟩ = some (.int .i64 x) := i2
    have i4 : w.heap.size + 1 < wa.heap.size := i1
    clear i1 i2
    clear HF
    have HN : Hid (oneV 4 x = mkV (truncZ x)) := rfl
    go_wp2_with fail
    refine (trunc_any x ⟨by omega, hx2⟩ _).mono ?_
    rintro e w9 ⟨rfl, rfl⟩
    go_wp2_with fail
    have HV := Lib.hid (fun W => make_any (truncZ x) W)
    have HV : Hid (∀ W, Calls Tryz.prog 74 #[.int .i64 (truncZ x)] W fun e w' => e = .returned (vOf (mkV (truncZ x))) ∧ Below W.heap.size W w') := HV
    generalize hvv : mkV (truncZ x) = vv at HV
    have HVV := Lib.hid hvv
    clear hvv
    obtain ⟨vk, vn, vs⟩ := vv
    unfold vOf at HV
    dsimp only at HV
    refine (HV.out _).mono ?_
    rintro e w1 ⟨rfl, hB⟩
    have hX : B3 w1 w.heap.size 0 0 ⟨#[]⟩ := HX.out.later hB
    have HBW := Lib.hid (vnext HB.out hB)
    obtain ⟨x0, x1, x2, z0, z1, z2⟩ := hX.cells
    have hXl := hX.lt
    obtain ⟨hq, hg⟩ := b3_set hX vk vn vs
    have hb5 := HBW.out.grown hg HBW.out.size (fun q hq => by injection hq with hq; omega)
    clear hB hg
    go_wp2_with fail
    generalize ((w1.setCell ⟨w.heap.size, 0, none⟩ (.int .u8 (vk : Int))).setCell ⟨w.heap.size, 1, none⟩ (.int .i64 vn)).setCell ⟨w.heap.size, 2, none⟩ (.string vs) = w5 at *
    obtain ⟨y0, y1, y2, _, _, _⟩ := hq.cells
    refine bodyPost_ret (v := .agg #[.int .u8 (vk : Int), .int .i64 vn, .string vs]) (by simp [results, Tryz.results33, go_sem, y0, y1, y2]) rfl ⟨by rw [HE.out, HN.out, HVV.out]; rfl, hb5⟩
set_option maxRecDepth 100000 in
set_option maxHeartbeats 6400000 in
theorem one_8 (a : Option Addr) (cap : Nat) (L : List V3) (w : World) (hL : IsV w a 1 L) (hv : ∀ v ∈ L, v.2.2.size ≤ 2000 ∧ InI v.2.1) (hT : Tb w) : Calls Tryz.prog 33 #[.int .u8 8, .slice a 1 cap] w fun e w' => e = .returned (vOf (fnumV 8 L)) ∧ Below w.heap.size w w' := by
  have l1 := valloc w (.cells #[.int .u8 0, .int .i64 0, .string ⟨#[]⟩] 25)
  have l2 := valloc (w.alloc (.cells #[.int .u8 0, .int .i64 0, .string ⟨#[]⟩] 25)) (.cells #[.int .i64 0] 2)
  have l4 := valloc ((w.alloc (.cells #[.int .u8 0, .int .i64 0, .string ⟨#[]⟩] 25)).alloc (.cells #[.int .i64 0] 2)) (.cells #[.pointer (some ⟨w.heap.size + 1, 0, none⟩)] 83)
  have HB := Lib.hid (show Below w.heap.size w (((w.alloc (.cells #[.int .u8 0, .int .i64 0, .string ⟨#[]⟩] 25)).alloc (.cells #[.int .i64 0] 2)).alloc (.cells #[.pointer (some ⟨w.heap.size + 1, 0, none⟩)] 83)) from (vnext (vnext l1 l2) l4))
  have HX := Lib.hid (show B3 (((w.alloc (.cells #[.int .u8 0, .int .i64 0, .string ⟨#[]⟩] 25)).alloc (.cells #[.int .i64 0] 2)).alloc (.cells #[.pointer (some ⟨w.heap.size + 1, 0, none⟩)] 83)) w.heap.size 0 0 ⟨#[]⟩ from ((B3.start w 0 0 ⟨#[]⟩).later l2).later l4)
  have f1 : (((w.alloc (.cells #[.int .u8 0, .int .i64 0, .string ⟨#[]⟩] 25)).alloc (.cells #[.int .i64 0] 2)).alloc (.cells #[.pointer (some ⟨w.heap.size + 1, 0, none⟩)] 83)).heap[w.heap.size + 1]? = some (.cells #[.int .i64 0] 2) := by
    have h : ((w.alloc (.cells #[.int .u8 0, .int .i64 0, .string ⟨#[]⟩] 25)).alloc (.cells #[.int .i64 0] 2)).heap[w.heap.size + 1]? = some (.cells #[.int .i64 0] 2) := by have := World.alloc_heap_new (w.alloc (.cells #[.int .u8 0, .int .i64 0, .string ⟨#[]⟩] 25)) (.cells #[.int .i64 0] 2); rwa [World.size_alloc] at this
    exact (l4.block _ (by simp)).trans h
  have HF := Lib.hid (filP_nil (((w.alloc (.cells #[.int .u8 0, .int .i64 0, .string ⟨#[]⟩] 25)).alloc (.cells #[.int .i64 0] 2)).alloc (.cells #[.pointer (some ⟨w.heap.size + 1, 0, none⟩)] 83)) [w.heap.size + 1] (by intro p hp; simp at hp; subst hp; exact f1))
  have HQ : Hid (QP [w.heap.size + 1] (w.heap.size + 1 + 1) (((w.alloc (.cells #[.int .u8 0, .int .i64 0, .string ⟨#[]⟩] 25)).alloc (.cells #[.int .i64 0] 2)).alloc (.cells #[.pointer (some ⟨w.heap.size + 1, 0, none⟩)] 83))) := ⟨by simp, fun j hj => by
    obtain rfl : j = 0 := by have : j < 1 := hj; omega
    have : (((w.alloc (.cells #[.int .u8 0, .int .i64 0, .string ⟨#[]⟩] 25)).alloc (.cells #[.int .i64 0] 2)).alloc (.cells #[.pointer (some ⟨w.heap.size + 1, 0, none⟩)] 83)).cell? ⟨((w.alloc (.cells #[.int .u8 0, .int .i64 0, .string ⟨#[]⟩] 25)).alloc (.cells #[.int .i64 0] 2)).heap.size, 0, none⟩ = some (.pointer (some ⟨w.heap.size + 1, 0, none⟩)) := (World.cell?_alloc_at _ _ _ 0 rfl).trans rfl
    rwa [World.size_alloc, World.size_alloc] at this⟩
  have hnl := hL.1
  have HFL := Lib.hid (fun W hB hQ hF hP => fill_any w a 1 cap (w.heap.size + 1 + 1) w.heap.size L [w.heap.size + 1] rfl (by simp) (by decide) hL hv hT (by intro p hp; simp at hp; omega) W hB hQ (by intro p hp; simp at hp; omega) hF hP)
  have HNM := Lib.hid (fun M h => nm_one (L := L) (M := M) hnl hv h)
  have HR : Hid (∀ k, fnumV k L = match nmR L [] with | .inr x => x | .inl M => if M.length = 1 then oneV k (M.getD 0 0) else twoV k (M.getD 0 0) (M.getD 1 0)) := fun k => rfl
  generalize nmR L [] = R at *
  clear hL hv hT hnl l1 l2 l4 f1
  go_enter Tryz.func33, Tryz.ntmps33
  go_wp2_with fail
  generalize ((w.alloc (.cells #[.int .u8 0, .int .i64 0, .string ⟨#[]⟩] 25)).alloc (.cells #[.int .i64 0] 2)).alloc (.cells #[.pointer (some ⟨w.heap.size + 1, 0, none⟩)] 83) = wa at *
  refine (HFL.out wa HB.out HQ.out HF.out HX.out).mono ?_
  rintro e w1 ⟨hR, hB1, hP1, _⟩
  replace HB := Lib.hid hB1
  replace HX := Lib.hid hP1
  clear hB1 hP1 HFL HF HQ
  unfold FlP at hR
  cases R with
  | inr x =>
    obtain ⟨xk, xn, xs⟩ := x
    dsimp only at hR
    subst hR
    have HE : Hid (fnumV 8 L = (xk, xn, xs)) := HR.out 8
    have HY := Lib.hid (B3.start w1 xk xn xs)
    have l4 := valloc w1 (.cells #[.int .u8 (xk : Int), .int .i64 xn, .string xs] 25)
    replace HX := Lib.hid (HX.out.later l4)
    replace HB := Lib.hid (vnext HB.out l4)
    clear l4
    go_upto_region 3 with fail
    generalize w1.alloc (.cells #[.int .u8 (xk : Int), .int .i64 xn, .string xs] 25) = w4 at *
    obtain ⟨y0, y1, y2, _, _, _⟩ := HY.out.cells
    have hyl := HY.out.lt
    have hB : Below w4.heap.size w4 w4 := Below.refl _ _
    have hX : B3 w4 w.heap.size 0 0 ⟨#[]⟩ := HX.out.later hB
    have HBW := Lib.hid (vnext HB.out hB)
    obtain ⟨x0, x1, x2, z0, z1, z2⟩ := hX.cells
    have hXl := hX.lt
    obtain ⟨hq, hg⟩ := b3_set hX xk xn xs
    have hb5 := HBW.out.grown hg HBW.out.size (fun q hq => by injection hq with hq; omega)
    clear hB hg
    go_wp2_with fail
    generalize ((w4.setCell ⟨w.heap.size, 0, none⟩ (.int .u8 (xk : Int))).setCell ⟨w.heap.size, 1, none⟩ (.int .i64 xn)).setCell ⟨w.heap.size, 2, none⟩ (.string xs) = w5 at *
    obtain ⟨y0, y1, y2, _, _, _⟩ := hq.cells
    refine bodyPost_ret (v := .agg #[.int .u8 (xk : Int), .int .i64 xn, .string xs]) (by simp [results, Tryz.results33, go_sem, y0, y1, y2]) rfl ⟨by rw [HE.out]; rfl, hb5⟩
  | inl M =>
    obtain ⟨rfl, hF1⟩ := hR
    obtain ⟨x, rfl, hx1, hx2⟩ := HNM.out M rfl
    have l4 := valloc w1 (.cells #[.int .u8 0, .int .i64 0, .string ⟨#[]⟩] 25)
    have HF := Lib.hid (hF1.later l4)
    replace HX := Lib.hid (HX.out.later l4)
    replace HB := Lib.hid (vnext HB.out l4)
    have HE : Hid (fnumV 8 L = oneV 8 x) := HR.out 8
    clear l4 hF1 HNM HR
    go_upto_region 3 with fail
    generalize w1.alloc (.cells #[.int .u8 0, .int .i64 0, .string ⟨#[]⟩] 25) = wa at *
    obtain ⟨i1, i2, _⟩ := HF.out.at_ (j := 0) (by simp)
    have i3 : wa.cell? ⟨w.heap.size + 1, 0, none⟩ = some (.int .i64 x) := i2
    have i4 : w.heap.size + 1 < wa.heap.size := i1
    clear i1 i2
    clear HF
    by_cases h0 : x < 0
    · have HN : Hid (oneV 8 x = numR 0 false) := if_pos h0
      go_wp2_with fail
      refine (sqrt_neg x h0 _).mono ?_
      rintro e w9 ⟨rfl, rfl⟩
      go_wp2_with fail
      have HV := Lib.hid (fun W => pnumber_any 0 (by unfold leastI; decide) false W)
      generalize hvv : numR 0 false = vv at HV
      have HVV := Lib.hid hvv
      clear hvv
      obtain ⟨vk, vn, vs⟩ := vv
      unfold vOf at HV
      dsimp only at HV
      refine (HV.out _).mono ?_
      rintro e w1 ⟨rfl, hB⟩
      have hX : B3 w1 w.heap.size 0 0 ⟨#[]⟩ := HX.out.later hB
      have HBW := Lib.hid (vnext HB.out hB)
      obtain ⟨x0, x1, x2, z0, z1, z2⟩ := hX.cells
      have hXl := hX.lt
      obtain ⟨hq, hg⟩ := b3_set hX vk vn vs
      have hb5 := HBW.out.grown hg HBW.out.size (fun q hq => by injection hq with hq; omega)
      clear hB hg
      go_wp2_with fail
      generalize ((w1.setCell ⟨w.heap.size, 0, none⟩ (.int .u8 (vk : Int))).setCell ⟨w.heap.size, 1, none⟩ (.int .i64 vn)).setCell ⟨w.heap.size, 2, none⟩ (.string vs) = w5 at *
      obtain ⟨y0, y1, y2, _, _, _⟩ := hq.cells
      refine bodyPost_ret (v := .agg #[.int .u8 (vk : Int), .int .i64 vn, .string vs]) (by simp [results, Tryz.results33, go_sem, y0, y1, y2]) rfl ⟨by rw [HE.out, HN.out, HVV.out]; rfl, hb5⟩
    · have HN : Hid (oneV 8 x = numR (rootZ x) true) := if_neg h0
      go_wp2_with fail
      refine (sqrt_any x (by omega) hx2 _).mono ?_
      rintro e w9 ⟨r, rfl, hr, rfl⟩
      obtain rfl := rootZ_of hr
      have hr0 := hr.1
      clear hr
      go_wp2_with fail
      have HV := Lib.hid (fun W => pnumber_any (rootZ x) (by unfold leastI; omega) true W)
      generalize hvv : numR (rootZ x) true = vv at HV
      have HVV := Lib.hid hvv
      clear hvv
      obtain ⟨vk, vn, vs⟩ := vv
      unfold vOf at HV
      dsimp only at HV
      refine (HV.out _).mono ?_
      rintro e w1 ⟨rfl, hB⟩
      have hX : B3 w1 w.heap.size 0 0 ⟨#[]⟩ := HX.out.later hB
      have HBW := Lib.hid (vnext HB.out hB)
      obtain ⟨x0, x1, x2, z0, z1, z2⟩ := hX.cells
      have hXl := hX.lt
      obtain ⟨hq, hg⟩ := b3_set hX vk vn vs
      have hb5 := HBW.out.grown hg HBW.out.size (fun q hq => by injection hq with hq; omega)
      clear hB hg
      go_wp2_with fail
      generalize ((w1.setCell ⟨w.heap.size, 0, none⟩ (.int .u8 (vk : Int))).setCell ⟨w.heap.size, 1, none⟩ (.int .i64 vn)).setCell ⟨w.heap.size, 2, none⟩ (.string vs) = w5 at *
      obtain ⟨y0, y1, y2, _, _, _⟩ := hq.cells
      refine bodyPost_ret (v := .agg #[.int .u8 (vk : Int), .int .i64 vn, .string vs]) (by simp [results, Tryz.results33, go_sem, y0, y1, y2]) rfl ⟨by rw [HE.out, HN.out, HVV.out]; rfl, hb5⟩
set_option maxRecDepth 100000 in
set_option maxHeartbeats 6400000 in
theorem two_5 (a : Option Addr) (cap : Nat) (L : List V3) (w : World) (hL : IsV w a 2 L) (hv : ∀ v ∈ L, v.2.2.size ≤ 2000 ∧ InI v.2.1) (hT : Tb w) : Calls Tryz.prog 34 #[.int .u8 5, .slice a 2 cap] w fun e w' => e = .returned (vOf (fnumV 5 L)) ∧ Below w.heap.size w w' := by
  have l1 := valloc w (.cells #[.int .u8 0, .int .i64 0, .string ⟨#[]⟩] 25)
  have l2 := valloc (w.alloc (.cells #[.int .u8 0, .int .i64 0, .string ⟨#[]⟩] 25)) (.cells #[.int .i64 0] 2)
  have l3 := valloc ((w.alloc (.cells #[.int .u8 0, .int .i64 0, .string ⟨#[]⟩] 25)).alloc (.cells #[.int .i64 0] 2)) (.cells #[.int .i64 0] 2)
  have l4 := valloc (((w.alloc (.cells #[.int .u8 0, .int .i64 0, .string ⟨#[]⟩] 25)).alloc (.cells #[.int .i64 0] 2)).alloc (.cells #[.int .i64 0] 2)) (.cells #[.pointer (some ⟨w.heap.size + 1, 0, none⟩), .pointer (some ⟨w.heap.size + 1 + 1, 0, none⟩)] 83)
  have HB := Lib.hid (show Below w.heap.size w ((((w.alloc (.cells #[.int .u8 0, .int .i64 0, .string ⟨#[]⟩] 25)).alloc (.cells #[.int .i64 0] 2)).alloc (.cells #[.int .i64 0] 2)).alloc (.cells #[.pointer (some ⟨w.heap.size + 1, 0, none⟩), .pointer (some ⟨w.heap.size + 1 + 1, 0, none⟩)] 83)) from (vnext (vnext (vnext l1 l2) l3) l4))
  have HX := Lib.hid (show B3 ((((w.alloc (.cells #[.int .u8 0, .int .i64 0, .string ⟨#[]⟩] 25)).alloc (.cells #[.int .i64 0] 2)).alloc (.cells #[.int .i64 0] 2)).alloc (.cells #[.pointer (some ⟨w.heap.size + 1, 0, none⟩), .pointer (some ⟨w.heap.size + 1 + 1, 0, none⟩)] 83)) w.heap.size 0 0 ⟨#[]⟩ from (((B3.start w 0 0 ⟨#[]⟩).later l2).later l3).later l4)
  have f1 : ((((w.alloc (.cells #[.int .u8 0, .int .i64 0, .string ⟨#[]⟩] 25)).alloc (.cells #[.int .i64 0] 2)).alloc (.cells #[.int .i64 0] 2)).alloc (.cells #[.pointer (some ⟨w.heap.size + 1, 0, none⟩), .pointer (some ⟨w.heap.size + 1 + 1, 0, none⟩)] 83)).heap[w.heap.size + 1]? = some (.cells #[.int .i64 0] 2) := by
    have h : ((w.alloc (.cells #[.int .u8 0, .int .i64 0, .string ⟨#[]⟩] 25)).alloc (.cells #[.int .i64 0] 2)).heap[w.heap.size + 1]? = some (.cells #[.int .i64 0] 2) := by have := World.alloc_heap_new (w.alloc (.cells #[.int .u8 0, .int .i64 0, .string ⟨#[]⟩] 25)) (.cells #[.int .i64 0] 2); rwa [World.size_alloc] at this
    exact (l4.block _ (by simp)).trans ((l3.block _ (by simp)).trans h)
  have f2 : ((((w.alloc (.cells #[.int .u8 0, .int .i64 0, .string ⟨#[]⟩] 25)).alloc (.cells #[.int .i64 0] 2)).alloc (.cells #[.int .i64 0] 2)).alloc (.cells #[.pointer (some ⟨w.heap.size + 1, 0, none⟩), .pointer (some ⟨w.heap.size + 1 + 1, 0, none⟩)] 83)).heap[w.heap.size + 1 + 1]? = some (.cells #[.int .i64 0] 2) := by
    have h : (((w.alloc (.cells #[.int .u8 0, .int .i64 0, .string ⟨#[]⟩] 25)).alloc (.cells #[.int .i64 0] 2)).alloc (.cells #[.int .i64 0] 2)).heap[w.heap.size + 1 + 1]? = some (.cells #[.int .i64 0] 2) := by have := World.alloc_heap_new ((w.alloc (.cells #[.int .u8 0, .int .i64 0, .string ⟨#[]⟩] 25)).alloc (.cells #[.int .i64 0] 2)) (.cells #[.int .i64 0] 2); rwa [World.size_alloc, World.size_alloc] at this
    exact (l4.block _ (by simp)).trans h
  have HF := Lib.hid (filP_nil ((((w.alloc (.cells #[.int .u8 0, .int .i64 0, .string ⟨#[]⟩] 25)).alloc (.cells #[.int .i64 0] 2)).alloc (.cells #[.int .i64 0] 2)).alloc (.cells #[.pointer (some ⟨w.heap.size + 1, 0, none⟩), .pointer (some ⟨w.heap.size + 1 + 1, 0, none⟩)] 83)) [w.heap.size + 1, w.heap.size + 1 + 1] (fun p hp => by
    simp at hp
    rcases hp with rfl | rfl
    · exact f1
    · exact f2))
  have HQ : Hid (QP [w.heap.size + 1, w.heap.size + 1 + 1] (w.heap.size + 1 + 1 + 1) ((((w.alloc (.cells #[.int .u8 0, .int .i64 0, .string ⟨#[]⟩] 25)).alloc (.cells #[.int .i64 0] 2)).alloc (.cells #[.int .i64 0] 2)).alloc (.cells #[.pointer (some ⟨w.heap.size + 1, 0, none⟩), .pointer (some ⟨w.heap.size + 1 + 1, 0, none⟩)] 83))) := ⟨by simp, fun j hj => by
    have hj2 : j < 2 := hj
    obtain rfl | rfl := (by omega : j = 0 ∨ j = 1)
    · have : ((((w.alloc (.cells #[.int .u8 0, .int .i64 0, .string ⟨#[]⟩] 25)).alloc (.cells #[.int .i64 0] 2)).alloc (.cells #[.int .i64 0] 2)).alloc (.cells #[.pointer (some ⟨w.heap.size + 1, 0, none⟩), .pointer (some ⟨w.heap.size + 1 + 1, 0, none⟩)] 83)).cell? ⟨(((w.alloc (.cells #[.int .u8 0, .int .i64 0, .string ⟨#[]⟩] 25)).alloc (.cells #[.int .i64 0] 2)).alloc (.cells #[.int .i64 0] 2)).heap.size, 0, none⟩ = some (.pointer (some ⟨w.heap.size + 1, 0, none⟩)) := (World.cell?_alloc_at _ _ _ 0 rfl).trans rfl
      rwa [World.size_alloc, World.size_alloc, World.size_alloc] at this
    · have : ((((w.alloc (.cells #[.int .u8 0, .int .i64 0, .string ⟨#[]⟩] 25)).alloc (.cells #[.int .i64 0] 2)).alloc (.cells #[.int .i64 0] 2)).alloc (.cells #[.pointer (some ⟨w.heap.size + 1, 0, none⟩), .pointer (some ⟨w.heap.size + 1 + 1, 0, none⟩)] 83)).cell? ⟨(((w.alloc (.cells #[.int .u8 0, .int .i64 0, .string ⟨#[]⟩] 25)).alloc (.cells #[.int .i64 0] 2)).alloc (.cells #[.int .i64 0] 2)).heap.size, 1, none⟩ = some (.pointer (some ⟨w.heap.size + 1 + 1, 0, none⟩)) := (World.cell?_alloc_at _ _ _ 1 rfl).trans rfl
      rwa [World.size_alloc, World.size_alloc, World.size_alloc] at this⟩
  have hnl := hL.1
  have HFL := Lib.hid (fun W hB hQ hF hP => fill_any w a 2 cap (w.heap.size + 1 + 1 + 1) w.heap.size L [w.heap.size + 1, w.heap.size + 1 + 1] rfl (by simp) (by decide) hL hv hT (by intro p hp; simp at hp; omega) W hB hQ (by intro p hp; simp at hp; omega) hF hP)
  have HNM := Lib.hid (fun M h => nm_two (L := L) (M := M) hnl hv h)
  have HR : Hid (∀ k, fnumV k L = match nmR L [] with | .inr x => x | .inl M => if M.length = 1 then oneV k (M.getD 0 0) else twoV k (M.getD 0 0) (M.getD 1 0)) := fun k => rfl
  generalize nmR L [] = R at *
  clear hL hv hT hnl l1 l2 l3 l4 f1 f2
  go_enter Tryz.func34, Tryz.ntmps34
  go_wp2_with fail
  generalize (((w.alloc (.cells #[.int .u8 0, .int .i64 0, .string ⟨#[]⟩] 25)).alloc (.cells #[.int .i64 0] 2)).alloc (.cells #[.int .i64 0] 2)).alloc (.cells #[.pointer (some ⟨w.heap.size + 1, 0, none⟩), .pointer (some ⟨w.heap.size + 1 + 1, 0, none⟩)] 83) = wa at *
  refine (HFL.out wa HB.out HQ.out HF.out HX.out).mono ?_
  rintro e w1 ⟨hR, hB1, hP1, _⟩
  replace HB := Lib.hid hB1
  replace HX := Lib.hid hP1
  clear hB1 hP1 HFL HF HQ
  unfold FlP at hR
  cases R with
  | inr x =>
    obtain ⟨xk, xn, xs⟩ := x
    dsimp only at hR
    subst hR
    have HE : Hid (fnumV 5 L = (xk, xn, xs)) := HR.out 5
    have HY := Lib.hid (B3.start w1 xk xn xs)
    have l4 := valloc w1 (.cells #[.int .u8 (xk : Int), .int .i64 xn, .string xs] 25)
    replace HX := Lib.hid (HX.out.later l4)
    replace HB := Lib.hid (vnext HB.out l4)
    clear l4
    go_upto_region 3 with fail
    generalize w1.alloc (.cells #[.int .u8 (xk : Int), .int .i64 xn, .string xs] 25) = w4 at *
    obtain ⟨y0, y1, y2, _, _, _⟩ := HY.out.cells
    have hyl := HY.out.lt
    have hB : Below w4.heap.size w4 w4 := Below.refl _ _
    have hX : B3 w4 w.heap.size 0 0 ⟨#[]⟩ := HX.out.later hB
    have HBW := Lib.hid (vnext HB.out hB)
    obtain ⟨x0, x1, x2, z0, z1, z2⟩ := hX.cells
    have hXl := hX.lt
    obtain ⟨hq, hg⟩ := b3_set hX xk xn xs
    have hb5 := HBW.out.grown hg HBW.out.size (fun q hq => by injection hq with hq; omega)
    clear hB hg
    go_wp2_with fail
    generalize ((w4.setCell ⟨w.heap.size, 0, none⟩ (.int .u8 (xk : Int))).setCell ⟨w.heap.size, 1, none⟩ (.int .i64 xn)).setCell ⟨w.heap.size, 2, none⟩ (.string xs) = w5 at *
    obtain ⟨y0, y1, y2, _, _, _⟩ := hq.cells
    refine bodyPost_ret (v := .agg #[.int .u8 (xk : Int), .int .i64 xn, .string xs]) (by simp [results, Tryz.results34, go_sem, y0, y1, y2]) rfl ⟨by rw [HE.out]; rfl, hb5⟩
  | inl M =>
    obtain ⟨rfl, hF1⟩ := hR
    obtain ⟨x, y, rfl, ⟨hx1, hx2⟩, hy1, hy2⟩ := HNM.out M rfl
    have l4 := valloc w1 (.cells #[.int .u8 0, .int .i64 0, .string ⟨#[]⟩] 25)
    have HF := Lib.hid (hF1.later l4)
    replace HX := Lib.hid (HX.out.later l4)
    replace HB := Lib.hid (vnext HB.out l4)
    have HE : Hid (fnumV 5 L = twoV 5 x y) := HR.out 5
    clear l4 hF1 HNM HR
    go_upto_region 3 with fail
    generalize w1.alloc (.cells #[.int .u8 0, .int .i64 0, .string ⟨#[]⟩] 25) = wa at *
    obtain ⟨i1, i2, _⟩ := HF.out.at_ (j := 0) (by simp)
    have i3 : wa.cell? ⟨w.heap.size + 1, 0, none⟩ = some (.int .i64 x) := i2
    have i4 : w.heap.size + 1 < wa.heap.size := i1
    clear i1 i2
    obtain ⟨j1, j2, _⟩ := HF.out.at_ (j := 1) (by simp)
    have j3 : wa.cell? ⟨w.heap.size + 1 + 1, 0, none⟩ = some (.int .i64 y) := j2
    have j4 : w.heap.size + 1 + 1 < wa.heap.size := j1
    clear j1 j2
    clear HF
    have hqi := tq_bd (a := y) ⟨by omega, hy2⟩
    have hqw : IntKind.i64.wrap (y.tdiv 10000) = y.tdiv 10000 := IntWalk.i64_in _ (by unfold InI at hqi; omega)
    have HN : Hid (twoV 5 x y = numR (rndV x (min (max (y.tdiv 10000) (-20)) 4)) (rndB x (min (max (y.tdiv 10000) (-20)) 4))) := rfl
    obtain ⟨pl, hpl⟩ : ∃ p, min (max (y.tdiv 10000) (-20)) 4 = p := ⟨_, rfl⟩
    have hpb : -20 ≤ pl ∧ pl ≤ 4 := by omega
    rw [hpl] at HN
    go_wp2_with fail
    refine (round_any x pl ⟨by omega, hx2⟩ (by omega) _).mono ?_
    rintro e w9 ⟨rfl, rfl⟩
    go_wp2_with fail
    have HV := Lib.hid (fun W => pnumber_any (rndV x pl) (rndV_ge x pl) (rndB x pl) W)
    generalize hvv : numR (rndV x pl) (rndB x pl) = vv at HV
    have HVV := Lib.hid hvv
    clear hvv
    obtain ⟨vk, vn, vs⟩ := vv
    unfold vOf at HV
    dsimp only at HV
    refine (HV.out _).mono ?_
    rintro e w1 ⟨rfl, hB⟩
    have hX : B3 w1 w.heap.size 0 0 ⟨#[]⟩ := HX.out.later hB
    have HBW := Lib.hid (vnext HB.out hB)
    obtain ⟨x0, x1, x2, z0, z1, z2⟩ := hX.cells
    have hXl := hX.lt
    obtain ⟨hq, hg⟩ := b3_set hX vk vn vs
    have hb5 := HBW.out.grown hg HBW.out.size (fun q hq => by injection hq with hq; omega)
    clear hB hg
    go_wp2_with fail
    generalize ((w1.setCell ⟨w.heap.size, 0, none⟩ (.int .u8 (vk : Int))).setCell ⟨w.heap.size, 1, none⟩ (.int .i64 vn)).setCell ⟨w.heap.size, 2, none⟩ (.string vs) = w5 at *
    obtain ⟨y0, y1, y2, _, _, _⟩ := hq.cells
    refine bodyPost_ret (v := .agg #[.int .u8 (vk : Int), .int .i64 vn, .string vs]) (by simp [results, Tryz.results34, go_sem, y0, y1, y2]) rfl ⟨by rw [HE.out, HN.out, HVV.out]; rfl, hb5⟩
set_option maxRecDepth 100000 in
set_option maxHeartbeats 6400000 in
theorem two_6 (a : Option Addr) (cap : Nat) (L : List V3) (w : World) (hL : IsV w a 2 L) (hv : ∀ v ∈ L, v.2.2.size ≤ 2000 ∧ InI v.2.1) (hT : Tb w) : Calls Tryz.prog 34 #[.int .u8 6, .slice a 2 cap] w fun e w' => e = .returned (vOf (fnumV 6 L)) ∧ Below w.heap.size w w' := by
  have l1 := valloc w (.cells #[.int .u8 0, .int .i64 0, .string ⟨#[]⟩] 25)
  have l2 := valloc (w.alloc (.cells #[.int .u8 0, .int .i64 0, .string ⟨#[]⟩] 25)) (.cells #[.int .i64 0] 2)
  have l3 := valloc ((w.alloc (.cells #[.int .u8 0, .int .i64 0, .string ⟨#[]⟩] 25)).alloc (.cells #[.int .i64 0] 2)) (.cells #[.int .i64 0] 2)
  have l4 := valloc (((w.alloc (.cells #[.int .u8 0, .int .i64 0, .string ⟨#[]⟩] 25)).alloc (.cells #[.int .i64 0] 2)).alloc (.cells #[.int .i64 0] 2)) (.cells #[.pointer (some ⟨w.heap.size + 1, 0, none⟩), .pointer (some ⟨w.heap.size + 1 + 1, 0, none⟩)] 83)
  have HB := Lib.hid (show Below w.heap.size w ((((w.alloc (.cells #[.int .u8 0, .int .i64 0, .string ⟨#[]⟩] 25)).alloc (.cells #[.int .i64 0] 2)).alloc (.cells #[.int .i64 0] 2)).alloc (.cells #[.pointer (some ⟨w.heap.size + 1, 0, none⟩), .pointer (some ⟨w.heap.size + 1 + 1, 0, none⟩)] 83)) from (vnext (vnext (vnext l1 l2) l3) l4))
  have HX := Lib.hid (show B3 ((((w.alloc (.cells #[.int .u8 0, .int .i64 0, .string ⟨#[]⟩] 25)).alloc (.cells #[.int .i64 0] 2)).alloc (.cells #[.int .i64 0] 2)).alloc (.cells #[.pointer (some ⟨w.heap.size + 1, 0, none⟩), .pointer (some ⟨w.heap.size + 1 + 1, 0, none⟩)] 83)) w.heap.size 0 0 ⟨#[]⟩ from (((B3.start w 0 0 ⟨#[]⟩).later l2).later l3).later l4)
  have f1 : ((((w.alloc (.cells #[.int .u8 0, .int .i64 0, .string ⟨#[]⟩] 25)).alloc (.cells #[.int .i64 0] 2)).alloc (.cells #[.int .i64 0] 2)).alloc (.cells #[.pointer (some ⟨w.heap.size + 1, 0, none⟩), .pointer (some ⟨w.heap.size + 1 + 1, 0, none⟩)] 83)).heap[w.heap.size + 1]? = some (.cells #[.int .i64 0] 2) := by
    have h : ((w.alloc (.cells #[.int .u8 0, .int .i64 0, .string ⟨#[]⟩] 25)).alloc (.cells #[.int .i64 0] 2)).heap[w.heap.size + 1]? = some (.cells #[.int .i64 0] 2) := by have := World.alloc_heap_new (w.alloc (.cells #[.int .u8 0, .int .i64 0, .string ⟨#[]⟩] 25)) (.cells #[.int .i64 0] 2); rwa [World.size_alloc] at this
    exact (l4.block _ (by simp)).trans ((l3.block _ (by simp)).trans h)
  have f2 : ((((w.alloc (.cells #[.int .u8 0, .int .i64 0, .string ⟨#[]⟩] 25)).alloc (.cells #[.int .i64 0] 2)).alloc (.cells #[.int .i64 0] 2)).alloc (.cells #[.pointer (some ⟨w.heap.size + 1, 0, none⟩), .pointer (some ⟨w.heap.size + 1 + 1, 0, none⟩)] 83)).heap[w.heap.size + 1 + 1]? = some (.cells #[.int .i64 0] 2) := by
    have h : (((w.alloc (.cells #[.int .u8 0, .int .i64 0, .string ⟨#[]⟩] 25)).alloc (.cells #[.int .i64 0] 2)).alloc (.cells #[.int .i64 0] 2)).heap[w.heap.size + 1 + 1]? = some (.cells #[.int .i64 0] 2) := by have := World.alloc_heap_new ((w.alloc (.cells #[.int .u8 0, .int .i64 0, .string ⟨#[]⟩] 25)).alloc (.cells #[.int .i64 0] 2)) (.cells #[.int .i64 0] 2); rwa [World.size_alloc, World.size_alloc] at this
    exact (l4.block _ (by simp)).trans h
  have HF := Lib.hid (filP_nil ((((w.alloc (.cells #[.int .u8 0, .int .i64 0, .string ⟨#[]⟩] 25)).alloc (.cells #[.int .i64 0] 2)).alloc (.cells #[.int .i64 0] 2)).alloc (.cells #[.pointer (some ⟨w.heap.size + 1, 0, none⟩), .pointer (some ⟨w.heap.size + 1 + 1, 0, none⟩)] 83)) [w.heap.size + 1, w.heap.size + 1 + 1] (fun p hp => by
    simp at hp
    rcases hp with rfl | rfl
    · exact f1
    · exact f2))
  have HQ : Hid (QP [w.heap.size + 1, w.heap.size + 1 + 1] (w.heap.size + 1 + 1 + 1) ((((w.alloc (.cells #[.int .u8 0, .int .i64 0, .string ⟨#[]⟩] 25)).alloc (.cells #[.int .i64 0] 2)).alloc (.cells #[.int .i64 0] 2)).alloc (.cells #[.pointer (some ⟨w.heap.size + 1, 0, none⟩), .pointer (some ⟨w.heap.size + 1 + 1, 0, none⟩)] 83))) := ⟨by simp, fun j hj => by
    have hj2 : j < 2 := hj
    obtain rfl | rfl := (by omega : j = 0 ∨ j = 1)
    · have : ((((w.alloc (.cells #[.int .u8 0, .int .i64 0, .string ⟨#[]⟩] 25)).alloc (.cells #[.int .i64 0] 2)).alloc (.cells #[.int .i64 0] 2)).alloc (.cells #[.pointer (some ⟨w.heap.size + 1, 0, none⟩), .pointer (some ⟨w.heap.size + 1 + 1, 0, none⟩)] 83)).cell? ⟨(((w.alloc (.cells #[.int .u8 0, .int .i64 0, .string ⟨#[]⟩] 25)).alloc (.cells #[.int .i64 0] 2)).alloc (.cells #[.int .i64 0] 2)).heap.size, 0, none⟩ = some (.pointer (some ⟨w.heap.size + 1, 0, none⟩)) := (World.cell?_alloc_at _ _ _ 0 rfl).trans rfl
      rwa [World.size_alloc, World.size_alloc, World.size_alloc] at this
    · have : ((((w.alloc (.cells #[.int .u8 0, .int .i64 0, .string ⟨#[]⟩] 25)).alloc (.cells #[.int .i64 0] 2)).alloc (.cells #[.int .i64 0] 2)).alloc (.cells #[.pointer (some ⟨w.heap.size + 1, 0, none⟩), .pointer (some ⟨w.heap.size + 1 + 1, 0, none⟩)] 83)).cell? ⟨(((w.alloc (.cells #[.int .u8 0, .int .i64 0, .string ⟨#[]⟩] 25)).alloc (.cells #[.int .i64 0] 2)).alloc (.cells #[.int .i64 0] 2)).heap.size, 1, none⟩ = some (.pointer (some ⟨w.heap.size + 1 + 1, 0, none⟩)) := (World.cell?_alloc_at _ _ _ 1 rfl).trans rfl
      rwa [World.size_alloc, World.size_alloc, World.size_alloc] at this⟩
  have hnl := hL.1
  have HFL := Lib.hid (fun W hB hQ hF hP => fill_any w a 2 cap (w.heap.size + 1 + 1 + 1) w.heap.size L [w.heap.size + 1, w.heap.size + 1 + 1] rfl (by simp) (by decide) hL hv hT (by intro p hp; simp at hp; omega) W hB hQ (by intro p hp; simp at hp; omega) hF hP)
  have HNM := Lib.hid (fun M h => nm_two (L := L) (M := M) hnl hv h)
  have HR : Hid (∀ k, fnumV k L = match nmR L [] with | .inr x => x | .inl M => if M.length = 1 then oneV k (M.getD 0 0) else twoV k (M.getD 0 0) (M.getD 1 0)) := fun k => rfl
  generalize nmR L [] = R at *
  clear hL hv hT hnl l1 l2 l3 l4 f1 f2
  go_enter Tryz.func34, Tryz.ntmps34
  go_wp2_with fail
  generalize (((w.alloc (.cells #[.int .u8 0, .int .i64 0, .string ⟨#[]⟩] 25)).alloc (.cells #[.int .i64 0] 2)).alloc (.cells #[.int .i64 0] 2)).alloc (.cells #[.pointer (some ⟨w.heap.size + 1, 0, none⟩), .pointer (some ⟨w.heap.size + 1 + 1, 0, none⟩)] 83) = wa at *
  refine (HFL.out wa HB.out HQ.out HF.out HX.out).mono ?_
  rintro e w1 ⟨hR, hB1, hP1, _⟩
  replace HB := Lib.hid hB1
  replace HX := Lib.hid hP1
  clear hB1 hP1 HFL HF HQ
  unfold FlP at hR
  cases R with
  | inr x =>
    obtain ⟨xk, xn, xs⟩ := x
    dsimp only at hR
    subst hR
    have HE : Hid (fnumV 6 L = (xk, xn, xs)) := HR.out 6
    have HY := Lib.hid (B3.start w1 xk xn xs)
    have l4 := valloc w1 (.cells #[.int .u8 (xk : Int), .int .i64 xn, .string xs] 25)
    replace HX := Lib.hid (HX.out.later l4)
    replace HB := Lib.hid (vnext HB.out l4)
    clear l4
    go_upto_region 3 with fail
    generalize w1.alloc (.cells #[.int .u8 (xk : Int), .int .i64 xn, .string xs] 25) = w4 at *
    obtain ⟨y0, y1, y2, _, _, _⟩ := HY.out.cells
    have hyl := HY.out.lt
    have hB : Below w4.heap.size w4 w4 := Below.refl _ _
    have hX : B3 w4 w.heap.size 0 0 ⟨#[]⟩ := HX.out.later hB
    have HBW := Lib.hid (vnext HB.out hB)
    obtain ⟨x0, x1, x2, z0, z1, z2⟩ := hX.cells
    have hXl := hX.lt
    obtain ⟨hq, hg⟩ := b3_set hX xk xn xs
    have hb5 := HBW.out.grown hg HBW.out.size (fun q hq => by injection hq with hq; omega)
    clear hB hg
    go_wp2_with fail
    generalize ((w4.setCell ⟨w.heap.size, 0, none⟩ (.int .u8 (xk : Int))).setCell ⟨w.heap.size, 1, none⟩ (.int .i64 xn)).setCell ⟨w.heap.size, 2, none⟩ (.string xs) = w5 at *
    obtain ⟨y0, y1, y2, _, _, _⟩ := hq.cells
    refine bodyPost_ret (v := .agg #[.int .u8 (xk : Int), .int .i64 xn, .string xs]) (by simp [results, Tryz.results34, go_sem, y0, y1, y2]) rfl ⟨by rw [HE.out]; rfl, hb5⟩
  | inl M =>
    obtain ⟨rfl, hF1⟩ := hR
    obtain ⟨x, y, rfl, ⟨hx1, hx2⟩, hy1, hy2⟩ := HNM.out M rfl
    have l4 := valloc w1 (.cells #[.int .u8 0, .int .i64 0, .string ⟨#[]⟩] 25)
    have HF := Lib.hid (hF1.later l4)
    replace HX := Lib.hid (HX.out.later l4)
    replace HB := Lib.hid (vnext HB.out l4)
    have HE : Hid (fnumV 6 L = twoV 6 x y) := HR.out 6
    clear l4 hF1 HNM HR
    go_upto_region 3 with fail
    generalize w1.alloc (.cells #[.int .u8 0, .int .i64 0, .string ⟨#[]⟩] 25) = wa at *
    obtain ⟨i1, i2, _⟩ := HF.out.at_ (j := 0) (by simp)
    have i3 : wa.cell? ⟨w.heap.size + 1, 0, none⟩ = some (.int .i64 x) := i2
    have i4 : w.heap.size + 1 < wa.heap.size := i1
    clear i1 i2
    obtain ⟨j1, j2, _⟩ := HF.out.at_ (j := 1) (by simp)
    have j3 : wa.cell? ⟨w.heap.size + 1 + 1, 0, none⟩ = some (.int .i64 y) := j2
    have j4 : w.heap.size + 1 + 1 < wa.heap.size := j1
    clear j1 j2
    clear HF
    have HN : Hid (twoV 6 x y = modR x y) := rfl
    go_wp2_with fail
    have HV := Lib.hid (fun W => modulo_any x y ⟨by omega, hx2⟩ ⟨by omega, hy2⟩ W)
    generalize hvv : modR x y = vv at HV
    have HVV := Lib.hid hvv
    clear hvv
    obtain ⟨vk, vn, vs⟩ := vv
    unfold vOf at HV
    dsimp only at HV
    refine (HV.out _).mono ?_
    rintro e w1 ⟨rfl, hB⟩
    have hX : B3 w1 w.heap.size 0 0 ⟨#[]⟩ := HX.out.later hB
    have HBW := Lib.hid (vnext HB.out hB)
    obtain ⟨x0, x1, x2, z0, z1, z2⟩ := hX.cells
    have hXl := hX.lt
    obtain ⟨hq, hg⟩ := b3_set hX vk vn vs
    have hb5 := HBW.out.grown hg HBW.out.size (fun q hq => by injection hq with hq; omega)
    clear hB hg
    go_wp2_with fail
    generalize ((w1.setCell ⟨w.heap.size, 0, none⟩ (.int .u8 (vk : Int))).setCell ⟨w.heap.size, 1, none⟩ (.int .i64 vn)).setCell ⟨w.heap.size, 2, none⟩ (.string vs) = w5 at *
    obtain ⟨y0, y1, y2, _, _, _⟩ := hq.cells
    refine bodyPost_ret (v := .agg #[.int .u8 (vk : Int), .int .i64 vn, .string vs]) (by simp [results, Tryz.results34, go_sem, y0, y1, y2]) rfl ⟨by rw [HE.out, HN.out, HVV.out]; rfl, hb5⟩
set_option maxRecDepth 100000 in
set_option maxHeartbeats 6400000 in
theorem two_7 (a : Option Addr) (cap : Nat) (L : List V3) (w : World) (hL : IsV w a 2 L) (hv : ∀ v ∈ L, v.2.2.size ≤ 2000 ∧ InI v.2.1) (hT : Tb w) : Calls Tryz.prog 34 #[.int .u8 7, .slice a 2 cap] w fun e w' => e = .returned (vOf (fnumV 7 L)) ∧ Below w.heap.size w w' := by
  have l1 := valloc w (.cells #[.int .u8 0, .int .i64 0, .string ⟨#[]⟩] 25)
  have l2 := valloc (w.alloc (.cells #[.int .u8 0, .int .i64 0, .string ⟨#[]⟩] 25)) (.cells #[.int .i64 0] 2)
  have l3 := valloc ((w.alloc (.cells #[.int .u8 0, .int .i64 0, .string ⟨#[]⟩] 25)).alloc (.cells #[.int .i64 0] 2)) (.cells #[.int .i64 0] 2)
  have l4 := valloc (((w.alloc (.cells #[.int .u8 0, .int .i64 0, .string ⟨#[]⟩] 25)).alloc (.cells #[.int .i64 0] 2)).alloc (.cells #[.int .i64 0] 2)) (.cells #[.pointer (some ⟨w.heap.size + 1, 0, none⟩), .pointer (some ⟨w.heap.size + 1 + 1, 0, none⟩)] 83)
  have HB := Lib.hid (show Below w.heap.size w ((((w.alloc (.cells #[.int .u8 0, .int .i64 0, .string ⟨#[]⟩] 25)).alloc (.cells #[.int .i64 0] 2)).alloc (.cells #[.int .i64 0] 2)).alloc (.cells #[.pointer (some ⟨w.heap.size + 1, 0, none⟩), .pointer (some ⟨w.heap.size + 1 + 1, 0, none⟩)] 83)) from (vnext (vnext (vnext l1 l2) l3) l4))
  have HX := Lib.hid (show B3 ((((w.alloc (.cells #[.int .u8 0, .int .i64 0, .string ⟨#[]⟩] 25)).alloc (.cells #[.int .i64 0] 2)).alloc (.cells #[.int .i64 0] 2)).alloc (.cells #[.pointer (some ⟨w.heap.size + 1, 0, none⟩), .pointer (some ⟨w.heap.size + 1 + 1, 0, none⟩)] 83)) w.heap.size 0 0 ⟨#[]⟩ from (((B3.start w 0 0 ⟨#[]⟩).later l2).later l3).later l4)
  have f1 : ((((w.alloc (.cells #[.int .u8 0, .int .i64 0, .string ⟨#[]⟩] 25)).alloc (.cells #[.int .i64 0] 2)).alloc (.cells #[.int .i64 0] 2)).alloc (.cells #[.pointer (some ⟨w.heap.size + 1, 0, none⟩), .pointer (some ⟨w.heap.size + 1 + 1, 0, none⟩)] 83)).heap[w.heap.size + 1]? = some (.cells #[.int .i64 0] 2) := by
    have h : ((w.alloc (.cells #[.int .u8 0, .int .i64 0, .string ⟨#[]⟩] 25)).alloc (.cells #[.int .i64 0] 2)).heap[w.heap.size + 1]? = some (.cells #[.int .i64 0] 2) := by have := World.alloc_heap_new (w.alloc (.cells #[.int .u8 0, .int .i64 0, .string ⟨#[]⟩] 25)) (.cells #[.int .i64 0] 2); rwa [World.size_alloc] at this
    exact (l4.block _ (by simp)).trans ((l3.block _ (by simp)).trans h)
  have f2 : ((((w.alloc (.cells #[.int .u8 0, .int .i64 0, .string ⟨#[]⟩] 25)).alloc (.cells #[.int .i64 0] 2)).alloc (.cells #[.int .i64 0] 2)).alloc (.cells #[.pointer (some ⟨w.heap.size + 1, 0, none⟩), .pointer (some ⟨w.heap.size + 1 + 1, 0, none⟩)] 83)).heap[w.heap.size + 1 + 1]? = some (.cells #[.int .i64 0] 2) := by
    have h : (((w.alloc (.cells #[.int .u8 0, .int .i64 0, .string ⟨#[]⟩] 25)).alloc (.cells #[.int .i64 0] 2)).alloc (.cells #[.int .i64 0] 2)).heap[w.heap.size + 1 + 1]? = some (.cells #[.int .i64 0] 2) := by have := World.alloc_heap_new ((w.alloc (.cells #[.int .u8 0, .int .i64 0, .string ⟨#[]⟩] 25)).alloc (.cells #[.int .i64 0] 2)) (.cells #[.int .i64 0] 2); rwa [World.size_alloc, World.size_alloc] at this
    exact (l4.block _ (by simp)).trans h
  have HF := Lib.hid (filP_nil ((((w.alloc (.cells #[.int .u8 0, .int .i64 0, .string ⟨#[]⟩] 25)).alloc (.cells #[.int .i64 0] 2)).alloc (.cells #[.int .i64 0] 2)).alloc (.cells #[.pointer (some ⟨w.heap.size + 1, 0, none⟩), .pointer (some ⟨w.heap.size + 1 + 1, 0, none⟩)] 83)) [w.heap.size + 1, w.heap.size + 1 + 1] (fun p hp => by
    simp at hp
    rcases hp with rfl | rfl
    · exact f1
    · exact f2))
  have HQ : Hid (QP [w.heap.size + 1, w.heap.size + 1 + 1] (w.heap.size + 1 + 1 + 1) ((((w.alloc (.cells #[.int .u8 0, .int .i64 0, .string ⟨#[]⟩] 25)).alloc (.cells #[.int .i64 0] 2)).alloc (.cells #[.int .i64 0] 2)).alloc (.cells #[.pointer (some ⟨w.heap.size + 1, 0, none⟩), .pointer (some ⟨w.heap.size + 1 + 1, 0, none⟩)] 83))) := ⟨by simp, fun j hj => by
    have hj2 : j < 2 := hj
    obtain rfl | rfl := (by omega : j = 0 ∨ j = 1)
    · have : ((((w.alloc (.cells #[.int .u8 0, .int .i64 0, .string ⟨#[]⟩] 25)).alloc (.cells #[.int .i64 0] 2)).alloc (.cells #[.int .i64 0] 2)).alloc (.cells #[.pointer (some ⟨w.heap.size + 1, 0, none⟩), .pointer (some ⟨w.heap.size + 1 + 1, 0, none⟩)] 83)).cell? ⟨(((w.alloc (.cells #[.int .u8 0, .int .i64 0, .string ⟨#[]⟩] 25)).alloc (.cells #[.int .i64 0] 2)).alloc (.cells #[.int .i64 0] 2)).heap.size, 0, none⟩ = some (.pointer (some ⟨w.heap.size + 1, 0, none⟩)) := (World.cell?_alloc_at _ _ _ 0 rfl).trans rfl
      rwa [World.size_alloc, World.size_alloc, World.size_alloc] at this
    · have : ((((w.alloc (.cells #[.int .u8 0, .int .i64 0, .string ⟨#[]⟩] 25)).alloc (.cells #[.int .i64 0] 2)).alloc (.cells #[.int .i64 0] 2)).alloc (.cells #[.pointer (some ⟨w.heap.size + 1, 0, none⟩), .pointer (some ⟨w.heap.size + 1 + 1, 0, none⟩)] 83)).cell? ⟨(((w.alloc (.cells #[.int .u8 0, .int .i64 0, .string ⟨#[]⟩] 25)).alloc (.cells #[.int .i64 0] 2)).alloc (.cells #[.int .i64 0] 2)).heap.size, 1, none⟩ = some (.pointer (some ⟨w.heap.size + 1 + 1, 0, none⟩)) := (World.cell?_alloc_at _ _ _ 1 rfl).trans rfl
      rwa [World.size_alloc, World.size_alloc, World.size_alloc] at this⟩
  have hnl := hL.1
  have HFL := Lib.hid (fun W hB hQ hF hP => fill_any w a 2 cap (w.heap.size + 1 + 1 + 1) w.heap.size L [w.heap.size + 1, w.heap.size + 1 + 1] rfl (by simp) (by decide) hL hv hT (by intro p hp; simp at hp; omega) W hB hQ (by intro p hp; simp at hp; omega) hF hP)
  have HNM := Lib.hid (fun M h => nm_two (L := L) (M := M) hnl hv h)
  have HR : Hid (∀ k, fnumV k L = match nmR L [] with | .inr x => x | .inl M => if M.length = 1 then oneV k (M.getD 0 0) else twoV k (M.getD 0 0) (M.getD 1 0)) := fun k => rfl
  generalize nmR L [] = R at *
  clear hL hv hT hnl l1 l2 l3 l4 f1 f2
  go_enter Tryz.func34, Tryz.ntmps34
  go_wp2_with fail
  generalize (((w.alloc (.cells #[.int .u8 0, .int .i64 0, .string ⟨#[]⟩] 25)).alloc (.cells #[.int .i64 0] 2)).alloc (.cells #[.int .i64 0] 2)).alloc (.cells #[.pointer (some ⟨w.heap.size + 1, 0, none⟩), .pointer (some ⟨w.heap.size + 1 + 1, 0, none⟩)] 83) = wa at *
  refine (HFL.out wa HB.out HQ.out HF.out HX.out).mono ?_
  rintro e w1 ⟨hR, hB1, hP1, _⟩
  replace HB := Lib.hid hB1
  replace HX := Lib.hid hP1
  clear hB1 hP1 HFL HF HQ
  unfold FlP at hR
  cases R with
  | inr x =>
    obtain ⟨xk, xn, xs⟩ := x
    dsimp only at hR
    subst hR
    have HE : Hid (fnumV 7 L = (xk, xn, xs)) := HR.out 7
    have HY := Lib.hid (B3.start w1 xk xn xs)
    have l4 := valloc w1 (.cells #[.int .u8 (xk : Int), .int .i64 xn, .string xs] 25)
    replace HX := Lib.hid (HX.out.later l4)
    replace HB := Lib.hid (vnext HB.out l4)
    clear l4
    go_upto_region 3 with fail
    generalize w1.alloc (.cells #[.int .u8 (xk : Int), .int .i64 xn, .string xs] 25) = w4 at *
    obtain ⟨y0, y1, y2, _, _, _⟩ := HY.out.cells
    have hyl := HY.out.lt
    have hB : Below w4.heap.size w4 w4 := Below.refl _ _
    have hX : B3 w4 w.heap.size 0 0 ⟨#[]⟩ := HX.out.later hB
    have HBW := Lib.hid (vnext HB.out hB)
    obtain ⟨x0, x1, x2, z0, z1, z2⟩ := hX.cells
    have hXl := hX.lt
    obtain ⟨hq, hg⟩ := b3_set hX xk xn xs
    have hb5 := HBW.out.grown hg HBW.out.size (fun q hq => by injection hq with hq; omega)
    clear hB hg
    go_wp2_with fail
    generalize ((w4.setCell ⟨w.heap.size, 0, none⟩ (.int .u8 (xk : Int))).setCell ⟨w.heap.size, 1, none⟩ (.int .i64 xn)).setCell ⟨w.heap.size, 2, none⟩ (.string xs) = w5 at *
    obtain ⟨y0, y1, y2, _, _, _⟩ := hq.cells
    refine bodyPost_ret (v := .agg #[.int .u8 (xk : Int), .int .i64 xn, .string xs]) (by simp [results, Tryz.results34, go_sem, y0, y1, y2]) rfl ⟨by rw [HE.out]; rfl, hb5⟩
  | inl M =>
    obtain ⟨rfl, hF1⟩ := hR
    obtain ⟨x, y, rfl, ⟨hx1, hx2⟩, hy1, hy2⟩ := HNM.out M rfl
    have l4 := valloc w1 (.cells #[.int .u8 0, .int .i64 0, .string ⟨#[]⟩] 25)
    have HF := Lib.hid (hF1.later l4)
    replace HX := Lib.hid (HX.out.later l4)
    replace HB := Lib.hid (vnext HB.out l4)
    have HE : Hid (fnumV 7 L = twoV 7 x y) := HR.out 7
    clear l4 hF1 HNM HR
    go_upto_region 3 with fail
    generalize w1.alloc (.cells #[.int .u8 0, .int .i64 0, .string ⟨#[]⟩] 25) = wa at *
    obtain ⟨i1, i2, _⟩ := HF.out.at_ (j := 0) (by simp)
    have i3 : wa.cell? ⟨w.heap.size + 1, 0, none⟩ = some (.int .i64 x) := i2
    have i4 : w.heap.size + 1 < wa.heap.size := i1
    clear i1 i2
    obtain ⟨j1, j2, _⟩ := HF.out.at_ (j := 1) (by simp)
    have j3 : wa.cell? ⟨w.heap.size + 1 + 1, 0, none⟩ = some (.int .i64 y) := j2
    have j4 : w.heap.size + 1 + 1 < wa.heap.size := j1
    clear j1 j2
    clear HF
    have HN : Hid (twoV 7 x y = powR x y) := rfl
    go_wp2_with fail
    have HV := Lib.hid (fun W => power_v x y ⟨by omega, hx2⟩ ⟨by omega, hy2⟩ W)
    generalize hvv : powR x y = vv at HV
    have HVV := Lib.hid hvv
    clear hvv
    obtain ⟨vk, vn, vs⟩ := vv
    unfold vOf at HV
    dsimp only at HV
    refine (HV.out _).mono ?_
    rintro e w1 ⟨rfl, hB⟩
    have hX : B3 w1 w.heap.size 0 0 ⟨#[]⟩ := HX.out.later hB
    have HBW := Lib.hid (vnext HB.out hB)
    obtain ⟨x0, x1, x2, z0, z1, z2⟩ := hX.cells
    have hXl := hX.lt
    obtain ⟨hq, hg⟩ := b3_set hX vk vn vs
    have hb5 := HBW.out.grown hg HBW.out.size (fun q hq => by injection hq with hq; omega)
    clear hB hg
    go_wp2_with fail
    generalize ((w1.setCell ⟨w.heap.size, 0, none⟩ (.int .u8 (vk : Int))).setCell ⟨w.heap.size, 1, none⟩ (.int .i64 vn)).setCell ⟨w.heap.size, 2, none⟩ (.string vs) = w5 at *
    obtain ⟨y0, y1, y2, _, _, _⟩ := hq.cells
    refine bodyPost_ret (v := .agg #[.int .u8 (vk : Int), .int .i64 vn, .string vs]) (by simp [results, Tryz.results34, go_sem, y0, y1, y2]) rfl ⟨by rw [HE.out, HN.out, HVV.out]; rfl, hb5⟩
end Go.Proofs.YtfjefanhkbcfgaaGreatDoor.Va
/- fnum.Call in full. -/
namespace Go.Proofs.YtfjefanhkbcfgaaGreatDoor.Va
open Go Go.RowKit GM
set_option linter.unusedVariables false
set_option linter.unusedSimpArgs false
theorem par_1 (w : World) : Calls Tryz.prog 31 #[.int .u8 1] w fun e w' => e = .returned (.int .i64 1) ∧ Below w.heap.size w w' := by
  go_enter Tryz.func31, Tryz.ntmps31
  go_wp2_with fail
  go_ret
  exact ⟨rfl, Below.refl _ _⟩
theorem par_2 (w : World) : Calls Tryz.prog 31 #[.int .u8 2] w fun e w' => e = .returned (.int .i64 1) ∧ Below w.heap.size w w' := by
  go_enter Tryz.func31, Tryz.ntmps31
  go_wp2_with fail
  go_ret
  exact ⟨rfl, Below.refl _ _⟩
theorem par_3 (w : World) : Calls Tryz.prog 31 #[.int .u8 3] w fun e w' => e = .returned (.int .i64 1) ∧ Below w.heap.size w w' := by
  go_enter Tryz.func31, Tryz.ntmps31
  go_wp2_with fail
  go_ret
  exact ⟨rfl, Below.refl _ _⟩
theorem par_4 (w : World) : Calls Tryz.prog 31 #[.int .u8 4] w fun e w' => e = .returned (.int .i64 1) ∧ Below w.heap.size w w' := by
  go_enter Tryz.func31, Tryz.ntmps31
  go_wp2_with fail
  go_ret
  exact ⟨rfl, Below.refl _ _⟩
theorem par_5 (w : World) : Calls Tryz.prog 31 #[.int .u8 5] w fun e w' => e = .returned (.int .i64 2) ∧ Below w.heap.size w w' := by
  go_enter Tryz.func31, Tryz.ntmps31
  go_wp2_with fail
  go_ret
  exact ⟨rfl, Below.refl _ _⟩
theorem par_6 (w : World) : Calls Tryz.prog 31 #[.int .u8 6] w fun e w' => e = .returned (.int .i64 2) ∧ Below w.heap.size w w' := by
  go_enter Tryz.func31, Tryz.ntmps31
  go_wp2_with fail
  go_ret
  exact ⟨rfl, Below.refl _ _⟩
theorem par_7 (w : World) : Calls Tryz.prog 31 #[.int .u8 7] w fun e w' => e = .returned (.int .i64 2) ∧ Below w.heap.size w w' := by
  go_enter Tryz.func31, Tryz.ntmps31
  go_wp2_with fail
  go_ret
  exact ⟨rfl, Below.refl _ _⟩
theorem par_8 (w : World) : Calls Tryz.prog 31 #[.int .u8 8] w fun e w' => e = .returned (.int .i64 1) ∧ Below w.heap.size w w' := by
  go_enter Tryz.func31, Tryz.ntmps31
  go_wp2_with fail
  go_ret
  exact ⟨rfl, Below.refl _ _⟩
theorem par_any (fn : Nat) (h1 : 1 ≤ fn) (h2 : fn ≤ 8) (w : World) : Calls Tryz.prog 31 #[.int .u8 (fn : Int)] w fun e w' => e = .returned (.int .i64 ((arV fn).1 : Int)) ∧ Below w.heap.size w w' := by
  obtain rfl | rfl | rfl | rfl | rfl | rfl | rfl | rfl := (by omega : fn = 1 ∨ fn = 2 ∨ fn = 3 ∨ fn = 4 ∨ fn = 5 ∨ fn = 6 ∨ fn = 7 ∨ fn = 8)
  · exact par_1 w
  · exact par_2 w
  · exact par_3 w
  · exact par_4 w
  · exact par_5 w
  · exact par_6 w
  · exact par_7 w
  · exact par_8 w
theorem ar_num (fn : Nat) (h1 : 1 ≤ fn) (h2 : fn ≤ 8) : (arV fn).2 = (arV fn).1 ∧ ((arV fn).1 = 1 ∧ (fn = 1 ∨ fn = 2 ∨ fn = 3 ∨ fn = 4 ∨ fn = 8) ∨ (arV fn).1 = 2 ∧ (fn = 5 ∨ fn = 6 ∨ fn = 7)) := by
  obtain rfl | rfl | rfl | rfl | rfl | rfl | rfl | rfl := (by omega : fn = 1 ∨ fn = 2 ∨ fn = 3 ∨ fn = 4 ∨ fn = 5 ∨ fn = 6 ∨ fn = 7 ∨ fn = 8)
  all_goals decide
/-- fnum.Call's answer: the value, and the number of the error. -/
noncomputable def callN (fn : Nat) (L : List V3) : V3 × Int :=
  if fn < 1 ∨ 8 < fn then ((0, 0, ⟨#[]⟩), 10)
  else if L.length ≠ (arV fn).1 then ((0, 0, ⟨#[]⟩), 11)
  else if okL L = false then ((0, 0, ⟨#[]⟩), 2)
  else (fnumV fn L, 0)
theorem one_any (fn : Nat) (h : fn = 1 ∨ fn = 2 ∨ fn = 3 ∨ fn = 4 ∨ fn = 8) (a : Option Addr) (cap : Nat) (L : List V3) (w : World) (hL : IsV w a 1 L) (hv : ∀ v ∈ L, v.2.2.size ≤ 2000 ∧ InI v.2.1) (hT : Tb w) : Calls Tryz.prog 33 #[.int .u8 (fn : Int), .slice a 1 cap] w fun e w' => e = .returned (vOf (fnumV fn L)) ∧ Below w.heap.size w w' := by
  obtain rfl | rfl | rfl | rfl | rfl := h
  · exact one_1 a cap L w hL hv hT
  · exact one_2 a cap L w hL hv hT
  · exact one_3 a cap L w hL hv hT
  · exact one_4 a cap L w hL hv hT
  · exact one_8 a cap L w hL hv hT
theorem two_any (fn : Nat) (h : fn = 5 ∨ fn = 6 ∨ fn = 7) (a : Option Addr) (cap : Nat) (L : List V3) (w : World) (hL : IsV w a 2 L) (hv : ∀ v ∈ L, v.2.2.size ≤ 2000 ∧ InI v.2.1) (hT : Tb w) : Calls Tryz.prog 34 #[.int .u8 (fn : Int), .slice a 2 cap] w fun e w' => e = .returned (vOf (fnumV fn L)) ∧ Below w.heap.size w w' := by
  obtain rfl | rfl | rfl := h
  · exact two_5 a cap L w hL hv hT
  · exact two_6 a cap L w hL hv hT
  · exact two_7 a cap L w hL hv hT
set_option maxRecDepth 100000 in
set_option maxHeartbeats 6400000 in
theorem pfnum_any (fn : Nat) (a : Option Addr) (n cap : Nat) (L : List V3) (w : World) (hL : IsV w a n L) (hn : n ≤ 1000) (hv : ∀ v ∈ L, v.2.2.size ≤ 2000 ∧ InI v.2.1) (hT : Tb w) :
    Calls Tryz.prog 12 #[.int .u8 (fn : Int), .slice a n cap] w fun e w' => e = .returned (.tuple #[vOf (callN fn L).1, .int .i64 (callN fn L).2]) ∧ Below w.heap.size w w' := by
  have HX : Hid (B3 (w.alloc (.cells #[.int .u8 0, .int .i64 0, .string ⟨#[]⟩] 25)) w.heap.size 0 0 ⟨#[]⟩) := B3.start w 0 0 ⟨#[]⟩
  have HB := Lib.hid (valloc w (.cells #[.int .u8 0, .int .i64 0, .string ⟨#[]⟩] 25))
  have HL := Lib.hid hL
  have HNL := Lib.hid hL.1
  have HT := Lib.hid hT
  have HV := Lib.hid hv
  have HVA := Lib.hid (fun W hW => pvalid_any a n cap L (by omega) W hW (fun v h => ⟨Nat.le_trans (hv v h).1 (by unfold maxLen; decide), by have := (hv v h).2; unfold InI at this; unfold leastI; omega⟩))
  have HDEF : Hid (callN fn L = if fn < 1 ∨ 8 < fn then ((0, 0, ⟨#[]⟩), 10) else if L.length ≠ (arV fn).1 then ((0, 0, ⟨#[]⟩), 11) else if okL L = false then ((0, 0, ⟨#[]⟩), 2) else (fnumV fn L, 0)) := rfl
  generalize callN fn L = C at *
  clear hL hT hv
  by_cases h1 : fn < 1
  · obtain rfl : C = ((0, 0, ⟨#[]⟩), 10) := by rw [HDEF.out, if_pos (.inl h1)]
    have d1 : decide ((fn : Int) < 1) = true := by simp; omega
    go_enter Tryz.func12, Tryz.ntmps12
    go_wp2_with fail
    refine bodyPost_ret (v := .tuple #[.agg #[.int .u8 0, .int .i64 0, .string ⟨#[]⟩], .int .i64 10]) (by simp [results, Tryz.results12, go_sem]) rfl ⟨rfl, HB.out⟩
  have d1 : decide ((fn : Int) < 1) = false := by simp; omega
  by_cases h2 : 8 < fn
  · obtain rfl : C = ((0, 0, ⟨#[]⟩), 10) := by rw [HDEF.out, if_pos (.inr h2)]
    have d2 : decide ((8 : Int) < (fn : Int)) = true := by simp; omega
    go_enter Tryz.func12, Tryz.ntmps12
    go_wp2_with fail
    refine bodyPost_ret (v := .tuple #[.agg #[.int .u8 0, .int .i64 0, .string ⟨#[]⟩], .int .i64 10]) (by simp [results, Tryz.results12, go_sem]) rfl ⟨rfl, HB.out⟩
  have d2 : decide ((8 : Int) < (fn : Int)) = false := by simp; omega
  rw [if_neg (by omega)] at HDEF
  obtain ⟨_, har⟩ := ar_num fn (by omega) (by omega)
  have HAR := Lib.hid (fun W => par_any fn (by omega) (by omega) W)
  have HA2 := Lib.hid har
  obtain ⟨A, hA⟩ : ∃ A, (arV fn).1 = A := ⟨_, rfl⟩
  rw [hA] at HAR HDEF HA2
  clear har hA
  by_cases h3 : n = A
  · subst h3
    rw [if_neg (by rw [HNL.out]; exact fun h => h rfl)] at HDEF
    by_cases h4 : okL L = true
    · rw [if_neg (by rw [h4]; simp)] at HDEF
      rw [h4] at HVA
      clear h4 d1 d2 h1 h2
      have d1 : decide ((fn : Int) < 1) = false := by simp; have := HA2.out; omega
      have d2 : decide ((8 : Int) < (fn : Int)) = false := by simp; have := HA2.out; omega
      rcases HA2.out with ⟨rfl, hf⟩ | ⟨rfl, hf⟩
      · have HON := Lib.hid (fun W hW hT => one_any fn hf a cap L W hW HV.out hT)
        obtain ⟨⟨vk, vn, vs⟩, hr⟩ : ∃ r, fnumV fn L = r := ⟨_, rfl⟩
        rw [hr] at HON HDEF
        have HC := HDEF.out
        subst HC
        unfold vOf at HON
        dsimp only at HON
        clear hf HV hr HDEF HA2
        go_enter Tryz.func12, Tryz.ntmps12
        go_wp2_with fail
        generalize w.alloc (.cells #[.int .u8 0, .int .i64 0, .string ⟨#[]⟩] 25) = wa at *
        refine (HAR.out _).mono ?_
        rintro e w1 ⟨rfl, hB⟩
        replace HX := Lib.hid (HX.out.later hB)
        replace HB := Lib.hid (vnext HB.out hB)
        clear hB
        go_wp2_with fail
        refine (HVA.out _ (IsOf.later HL.out HB.out)).mono ?_
        rintro e w2 ⟨rfl, hB⟩
        replace HX := Lib.hid (HX.out.later hB)
        replace HB := Lib.hid (vnext HB.out hB)
        clear hB
        go_wp2_with fail
        refine (HON.out _ (IsOf.later HL.out HB.out) (HT.out.later HB.out)).mono ?_
        rintro e w3 ⟨rfl, hB⟩
        replace HX := Lib.hid (HX.out.later hB)
        replace HB := Lib.hid (vnext HB.out hB)
        clear hB
        obtain ⟨x0, x1, x2, z0, z1, z2⟩ := HX.out.cells
        have hXl := HX.out.lt
        obtain ⟨hq, hg⟩ := b3_set HX.out vk vn vs
        have hb5 := HB.out.grown hg HB.out.size (fun q hq => by injection hq with hq; omega)
        clear hg
        go_wp2_with fail
        generalize ((w3.setCell ⟨w.heap.size, 0, none⟩ (.int .u8 (vk : Int))).setCell ⟨w.heap.size, 1, none⟩ (.int .i64 vn)).setCell ⟨w.heap.size, 2, none⟩ (.string vs) = w5 at *
        obtain ⟨v0, v1, v2, _, _, _⟩ := hq.cells
        refine bodyPost_ret (v := .tuple #[.agg #[.int .u8 (vk : Int), .int .i64 vn, .string vs], .int .i64 0]) (by simp [results, Tryz.results12, go_sem, v0, v1, v2]) rfl ⟨rfl, hb5⟩
      · have HON := Lib.hid (fun W hW hT => two_any fn hf a cap L W hW HV.out hT)
        obtain ⟨⟨vk, vn, vs⟩, hr⟩ : ∃ r, fnumV fn L = r := ⟨_, rfl⟩
        rw [hr] at HON HDEF
        have HC := HDEF.out
        subst HC
        unfold vOf at HON
        dsimp only at HON
        clear hf HV hr HDEF HA2
        go_enter Tryz.func12, Tryz.ntmps12
        go_wp2_with fail
        generalize w.alloc (.cells #[.int .u8 0, .int .i64 0, .string ⟨#[]⟩] 25) = wa at *
        refine (HAR.out _).mono ?_
        rintro e w1 ⟨rfl, hB⟩
        replace HX := Lib.hid (HX.out.later hB)
        replace HB := Lib.hid (vnext HB.out hB)
        clear hB
        go_wp2_with fail
        refine (HVA.out _ (IsOf.later HL.out HB.out)).mono ?_
        rintro e w2 ⟨rfl, hB⟩
        replace HX := Lib.hid (HX.out.later hB)
        replace HB := Lib.hid (vnext HB.out hB)
        clear hB
        go_wp2_with fail
        refine (HON.out _ (IsOf.later HL.out HB.out) (HT.out.later HB.out)).mono ?_
        rintro e w3 ⟨rfl, hB⟩
        replace HX := Lib.hid (HX.out.later hB)
        replace HB := Lib.hid (vnext HB.out hB)
        clear hB
        obtain ⟨x0, x1, x2, z0, z1, z2⟩ := HX.out.cells
        have hXl := HX.out.lt
        obtain ⟨hq, hg⟩ := b3_set HX.out vk vn vs
        have hb5 := HB.out.grown hg HB.out.size (fun q hq => by injection hq with hq; omega)
        clear hg
        go_wp2_with fail
        generalize ((w3.setCell ⟨w.heap.size, 0, none⟩ (.int .u8 (vk : Int))).setCell ⟨w.heap.size, 1, none⟩ (.int .i64 vn)).setCell ⟨w.heap.size, 2, none⟩ (.string vs) = w5 at *
        obtain ⟨v0, v1, v2, _, _, _⟩ := hq.cells
        refine bodyPost_ret (v := .tuple #[.agg #[.int .u8 (vk : Int), .int .i64 vn, .string vs], .int .i64 0]) (by simp [results, Tryz.results12, go_sem, v0, v1, v2]) rfl ⟨rfl, hb5⟩
    · have h5 : okL L = false := by cases h : okL L <;> simp_all
      rw [if_pos h5] at HDEF
      have HC := HDEF.out
      subst HC
      rw [h5] at HVA
      clear h5 h4 HV HA2 HDEF
      go_enter Tryz.func12, Tryz.ntmps12
      go_wp2_with fail
      generalize w.alloc (.cells #[.int .u8 0, .int .i64 0, .string ⟨#[]⟩] 25) = wa at *
      have e1 : ((n : Int) != (n : Int)) = false := by simp
      refine (HAR.out _).mono ?_
      rintro e w1 ⟨rfl, hB⟩
      replace HX := Lib.hid (HX.out.later hB)
      replace HB := Lib.hid (vnext HB.out hB)
      clear hB
      go_wp2_with fail
      refine (HVA.out _ (IsOf.later HL.out HB.out)).mono ?_
      rintro e w2 ⟨rfl, hB⟩
      replace HX := Lib.hid (HX.out.later hB)
      replace HB := Lib.hid (vnext HB.out hB)
      clear hB
      obtain ⟨x0, x1, x2, z0, z1, z2⟩ := HX.out.cells
      have hXl := HX.out.lt
      obtain ⟨hq, hg⟩ := b3_set HX.out 0 0 ⟨#[]⟩
      have hb5 := HB.out.grown hg HB.out.size (fun q hq => by injection hq with hq; omega)
      clear hg
      go_wp2_with fail
      generalize ((w2.setCell ⟨w.heap.size, 0, none⟩ (.int .u8 0)).setCell ⟨w.heap.size, 1, none⟩ (.int .i64 0)).setCell ⟨w.heap.size, 2, none⟩ (.string ⟨#[]⟩) = w5 at *
      obtain ⟨v0, v1, v2, _, _, _⟩ := hq.cells
      refine bodyPost_ret (v := .tuple #[.agg #[.int .u8 0, .int .i64 0, .string ⟨#[]⟩], .int .i64 2]) (by simp [results, Tryz.results12, go_sem, v0, v1, v2]) rfl ⟨rfl, hb5⟩
  · rw [if_pos (by rw [HNL.out]; exact h3)] at HDEF
    have HC := HDEF.out
    subst HC
    have e1 : ((n : Int) != (A : Int)) = true := by simp; omega
    have e2 : ((n : Int) == (A : Int)) = false := by simp; omega
    clear h3 HV HA2 HVA HDEF
    go_enter Tryz.func12, Tryz.ntmps12
    go_wp2_with fail
    generalize w.alloc (.cells #[.int .u8 0, .int .i64 0, .string ⟨#[]⟩] 25) = wa at *
    refine (HAR.out _).mono ?_
    rintro e w1 ⟨rfl, hB⟩
    replace HX := Lib.hid (HX.out.later hB)
    replace HB := Lib.hid (vnext HB.out hB)
    clear hB
    obtain ⟨x0, x1, x2, z0, z1, z2⟩ := HX.out.cells
    have hXl := HX.out.lt
    obtain ⟨hq, hg⟩ := b3_set HX.out 0 0 ⟨#[]⟩
    have hb5 := HB.out.grown hg HB.out.size (fun q hq => by injection hq with hq; omega)
    clear hg
    go_wp2_with fail
    generalize ((w1.setCell ⟨w.heap.size, 0, none⟩ (.int .u8 0)).setCell ⟨w.heap.size, 1, none⟩ (.int .i64 0)).setCell ⟨w.heap.size, 2, none⟩ (.string ⟨#[]⟩) = w5 at *
    obtain ⟨v0, v1, v2, _, _, _⟩ := hq.cells
    refine bodyPost_ret (v := .tuple #[.agg #[.int .u8 0, .int .i64 0, .string ⟨#[]⟩], .int .i64 11]) (by simp [results, Tryz.results12, go_sem, v0, v1, v2]) rfl ⟨rfl, hb5⟩
end Go.Proofs.YtfjefanhkbcfgaaGreatDoor.Va
