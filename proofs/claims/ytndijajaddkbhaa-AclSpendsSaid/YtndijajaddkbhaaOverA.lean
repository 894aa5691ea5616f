/- Contract of region.check. -/
import Derived.Test.YtndijajaddkbhaaOverM
namespace Go.Proofs.Ytndijajaddkbhaa.Re
open Go.RowKit AM
def gcE (r : R4) (L : List RV) : Int := if ckB r.c1 r.r1 r.c2 r.r2 = true then (rck 64 L).2 else 3
theorem retI {a b : Int} (h : a = b) : Ending.returned (.int .i64 a) = .returned (.int .i64 b) := by rw [h]
set_option maxHeartbeats 1600000 in
theorem gcheck_any (x1 x2 x3 x4 : Int) (a : Option Addr) (len cap : Nat) (L : List RV) (hl : len ≤ 100000) (w : World) (hL : IsL w a len L) :
    Calls Try.prog 67 #[.agg #[.int .i64 x1, .int .i64 x2, .int .i64 x3, .int .i64 x4], .slice a len cap] w fun e w' => e = .returned (.int .i64 (gcE ⟨x1, x2, x3, x4⟩ L)) ∧ Below w.heap.size w w' := by
  have HL := Lib.hid hL
  clear hL
  have l1 := Lib.hid (below_alloc w (.cells #[.int .i64 x1, .int .i64 x2, .int .i64 x3, .int .i64 x4] 30))
  go_enter Try.func67, Try.ntmps67
  go_wp2_with fail
  refine (rcheck_any x1 x2 x3 x4 _).mono ?_
  rintro e w1 ⟨rfl, hB1⟩
  have HB1 := Lib.hid (Below.next l1.out hB1)
  clear hB1 l1
  cases hc : ckB x1 x2 x3 x4
  · have HC := Lib.hid hc
    rw [ckE_f hc]
    clear hc
    go_wp2_with fail
    go_ret
    exact ⟨retI (by unfold gcE; rw [if_neg (by rw [HC.out]; decide)]), HB1.out⟩
  · have HC := Lib.hid hc
    rw [ckE_t hc]
    clear hc
    go_wp2_with fail
    refine (acheck_any 64 a len cap L hl _ (HL.out.later HB1.out)).mono ?_
    rintro e w2 ⟨rfl, hB2⟩
    have HB2 := Lib.hid (Below.next HB1.out hB2)
    clear hB2 HB1
    unfold ckV
    go_wp2_with fail
    go_ret
    exact ⟨retI (by unfold gcE; rw [if_pos HC.out]), HB2.out⟩
/-- At the first rule nothing is left. -/
theorem mnL_meet {r s : R4} (hr : r.ck = true) (hs : ∀ p q, has4 r p q = true → has4 s p q = true) (hm : mt4 r s = true) : mnL r (meet4 r s) = [] := by
  cases h : mnL r (meet4 r s) with
  | nil => rfl
  | cons y l =>
    have hy : y ∈ mnL r (meet4 r s) := by rw [h]; exact List.mem_cons_self ..
    have h1 := ck_has ((mnL_ck hr (meet4_ck hm)).1 y hy)
    have h2 := in_mn hr (meet4_ck hm) y.c1 y.r1
    rw [inL_iff.2 ⟨y, hy, h1⟩] at h2
    have h2 := h2.symm
    rw [Bool.and_eq_true, Bool.not_eq_true', ← Bool.not_eq_true] at h2
    exact absurd ((meet4_has r s y.c1 y.r1).2 ⟨h2.1, hs _ _ h2.1⟩) h2.2
end Go.Proofs.Ytndijajaddkbhaa.Re
