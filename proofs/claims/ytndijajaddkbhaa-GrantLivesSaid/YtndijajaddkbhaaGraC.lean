/- The contract of Live, and of the statements' test of rules and grants. -/
import Derived.Test.YtndijajaddkbhaaGraB
import Derived.Test.YtndijajaddkbhaaMov
namespace Go.Proofs.Ytndijajaddkbhaa.Re
open Go.RowKit AM
def gr4 (g : GV) : R4 := ⟨g.c1, g.r1, g.c2, g.r2⟩
def lvE (g : GV) (L : List RV) : Int := if okG 64 g = true then mayE g.by_ (gr4 g) L else badG g
def lvB (g : GV) (L : List RV) : Bool := okG 64 g && (mayB RV.ow g.by_ (gr4 g) L && !g.rev)
theorem gck_one (g : GV) : gck 64 [g] = (0, if okG 64 g = true then 0 else badG g) := by
  unfold gck
  rw [if_neg (by decide), if_neg (by simp)]
  unfold findB
  cases h : okG (Int.toNat 64) g
  · have h : okG 64 g = false := h
    rw [h]; rfl
  · have h : okG 64 g = true := h
    rw [h]; rfl
theorem retLv {a a' : Bool} {e e' : Int} (h1 : a = a') (h2 : e = e') : Ending.returned (.tuple #[.bool a, .int .i64 e]) = .returned (.tuple #[.bool a', .int .i64 e']) := by rw [h1, h2]
set_option maxRecDepth 100000 in
set_option maxHeartbeats 3200000 in
theorem plive_any (g : GV) (a : Option Addr) (len cap : Nat) (L : List RV) (hl : len ≤ 100000) (w : World) (hL : IsL w a len L) :
    Calls Try.prog 33 #[.agg (cells8 g).toArray, .slice a len cap] w fun e w' => e = .returned (.tuple #[.bool (lvB g L), .int .i64 (lvE g L)]) ∧ Below w.heap.size w w' := by
  have HL := Lib.hid hL
  clear hL
  have HO := Lib.hid (gck_one g)
  have HBT : Hid (lvB g L = (okG 64 g && (mayB RV.ow g.by_ (gr4 g) L && !g.rev))) := rfl
  have HET : Hid (lvE g L = if okG 64 g = true then mayE g.by_ (gr4 g) L else badG g) := rfl
  have hbad := badG_ne g
  have HG := Lib.hid ((Box8.start w g 68).later (below_alloc _ (.cells (cells8 g).toArray 68)))
  have HI := Lib.hid (isOf_new (c := cells8) (n := 8) (w.alloc (.cells (cells8 g).toArray 68)) (cells8 g).toArray 68 g rfl)
  have HB := Lib.hid (Below.next (below_alloc w (.cells (cells8 g).toArray 68)) (below_alloc _ (.cells (cells8 g).toArray 68)))
  rw [World.size_alloc] at HI
  obtain ⟨x1, x2, x3, x4, x5, x6, x7, x8⟩ := g
  unfold cells8 gr4 at *
  dsimp only at *
  go_enter Try.func33, Try.ntmps33
  go_wp2_with fail
  generalize (w.alloc (.cells #[.int .i64 x1, .int .i64 x2, .int .i64 x3, .int .i64 x4, .int .u8 (x5.toNat : Int), .int .u64 (x6.toNat : Int), .int .i64 x7, .bool x8] 68)).alloc (.cells #[.int .i64 x1, .int .i64 x2, .int .i64 x3, .int .i64 x4, .int .u8 (x5.toNat : Int), .int .u64 (x6.toNat : Int), .int .i64 x7, .bool x8] 68) = w0 at *
  refine (pcheck_any 64 _ 1 1 [⟨x1, x2, x3, x4, x5, x6, x7, x8⟩] (by decide) _ HI.out).mono ?_
  rintro e w1 ⟨rfl, hB1⟩
  have HG1 := Lib.hid (HG.out.later hB1)
  have HB1 := Lib.hid (Below.next HB.out hB1)
  clear hB1 HG HB HI
  rw [HO.out]
  unfold ckV
  dsimp only
  cases hok : okG 64 ⟨x1, x2, x3, x4, x5, x6, x7, x8⟩
  · have HOK := Lib.hid hok
    clear hok
    simp only [Bool.false_eq_true, if_false]
    generalize badG ⟨x1, x2, x3, x4, x5, x6, x7, x8⟩ = e0 at *
    have hz1 : (e0 != 0) = true := by simpa using hbad
    have hz2 : (e0 == 0) = false := by simpa using hbad
    clear hbad
    go_wp2_with fail
    go_ret2
    exact ⟨retLv (by rw [HBT.out, HOK.out]; rfl) (by rw [HET.out, HOK.out]; rfl), HB1.out⟩
  · have HOK := Lib.hid hok
    clear hok hbad
    simp only [if_true]
    obtain ⟨_, c1, c2, c3, c4, c5, c6, c7, c8⟩ := HG1.out
    dsimp only at *
    go_wp2_with fail
    refine (may_any x7 x1 x2 x3 x4 a len cap L hl _ (HL.out.later HB1.out)).mono ?_
    rintro e w2 ⟨rfl, hB2⟩
    have HG2 := Lib.hid (HG1.out.later hB2)
    have HB2 := Lib.hid (Below.next HB1.out hB2)
    clear hB2 HG1 HB1 c1 c2 c3 c4 c5 c6 c7 c8
    obtain ⟨_, c1, c2, c3, c4, c5, c6, c7, c8⟩ := HG2.out
    dsimp only at *
    generalize mayB RV.wr x7 ⟨x1, x2, x3, x4⟩ L = b1 at *
    generalize mayB RV.ow x7 ⟨x1, x2, x3, x4⟩ L = b2 at *
    generalize mayE x7 ⟨x1, x2, x3, x4⟩ L = e2 at *
    cases b2 <;> cases x8
    all_goals
      go_wp2_with fail
      go_ret2
      exact ⟨retLv (by rw [HBT.out, HOK.out]; rfl) (by rw [HET.out, HOK.out]; rfl), HB2.out⟩
def okA21 (L : List RV) (M : List GV) : Bool := decide ((rck 64 L).2 = 0) && (decide ((gck 64 M).2 = 0) && (decide (L.length ≤ 20) && decide (M.length ≤ 30)))
theorem okA21_iff {L : List RV} {M : List GV} : okA21 L M = true ↔ (rck 64 L).2 = 0 ∧ (gck 64 M).2 = 0 ∧ L.length ≤ 20 ∧ M.length ≤ 30 := by
  unfold okA21
  rw [Bool.and_eq_true, Bool.and_eq_true, Bool.and_eq_true, decide_eq_true_iff, decide_eq_true_iff, decide_eq_true_iff, decide_eq_true_iff]
theorem gck_good {M : List GV} (h : (gck 64 M).2 = 0) : M.length ≤ 64 ∧ ∀ j (hj : j < M.length), okG 64 M[j] = true := by
  unfold gck at h
  rw [if_neg (by decide)] at h
  split at h
  · simp at h
  · rename_i hl
    exact ⟨by omega, (findB_zero badG_ne M 0).1 h⟩
theorem okG_parts {g : GV} (h : okG 64 g = true) : (gr4 g).ck = true ∧ 0 ≤ g.by_ ∧ g.by_ < 64 := by
  unfold okG at h
  simp only [Bool.and_eq_true, decide_eq_true_eq] at h
  obtain ⟨h1, _, _, h4, h5⟩ := h
  exact ⟨h1, h4, by simpa using h5⟩
/-- A valid grant by valid rules. -/
theorem lv_good {g : GV} {L : List RV} (h : okG 64 g = true) (hL : (rck 64 L).2 = 0) : lvE g L = 0 ∧ lvB g L = ((ovr RV.ow (gr4 g) L).getLsbD g.by_.toNat && !g.rev) := by
  obtain ⟨h1, h2, h3⟩ := okG_parts h
  have hz : gcE (gr4 g) L = 0 := gcE_zero.2 ⟨h1, hL⟩
  have hv : vld g.by_ = true := vld_t ⟨h2, h3⟩
  constructor
  · unfold lvE mayE; rw [if_pos h, if_pos hz, if_pos hv]
  · unfold lvB mayB; rw [h, decide_eq_true hz, hv]; rfl
end Go.Proofs.Ytndijajaddkbhaa.Re
