/- The contract of the specification's Sqrt: an interval is halved. -/
import Derived.Test.YticjclllhjehfaaDecSqrt
import Derived.Deep.RegionWith
namespace Go.Proofs.Yticjclllhjehfaa
open Go.RowKit

theorem root_of {S lo hi : Int} (h0 : 0 ≤ lo) (h1 : lo * lo ≤ S) (h2 : S < hi * hi) (h3 : hi - lo ≤ 1) (h4 : lo < hi) (hS : S < 302231454903657293676544) : IsRoot S lo := by
  obtain rfl : hi = lo + 1 := by omega
  refine ⟨h0, ?_, h1, h2⟩
  rcases Int.lt_or_le 549755813887 lo with h | h
  · have := sq_le (a := 549755813888) (b := lo) (by omega) (by omega); omega
  · exact h
/-- An interval in which the root lies. -/
def SqJ (S lo hi : Int) : Prop := 0 ≤ lo ∧ lo < hi ∧ hi ≤ 1099511627776 ∧ lo * lo ≤ S ∧ S < hi * hi

set_option maxRecDepth 100000 in
set_option maxHeartbeats 1600000 in
theorem rsqrt_any (a : Int) (h0 : 0 ≤ a) (h1 : a ≤ 9223372036854775807) (w : World) :
    Calls Try.prog 23 #[.int .i64 a] w fun e w' => ∃ r : Int, e = .returned (.tuple #[.int .i64 r, .bool true]) ∧ IsRoot (a * 10000) r ∧ Below w.heap.size w w' := by
  go_enter Try.func23, Try.ntmps23
  go_wp2_with fail
  refine (times_any _ _ ⟨h0, by omega⟩ ⟨by omega, by omega⟩ _).mono ?_
  rintro e w1 ⟨sh, sl, rfl, hI, hB1⟩
  obtain ⟨S, HS⟩ : ∃ S, Hid (a * 10000 = S) := ⟨_, rfl⟩
  have hS0 : Hid (0 ≤ S ∧ S < 302231454903657293676544) := by rw [← HS.out]; unfold Hid; omega
  rw [HS.out] at hI
  have k0 : Hold (w1.alloc (.cells #[.int .u64 sh, .int .u64 sl] 34)) w1.heap.size sh sl := Hold.new
  have hb1 : Below w.heap.size w (w1.alloc (.cells #[.int .u64 sh, .int .u64 sl] 34)) := hB1.alloc hB1.size _
  go_wp2_with fail
  go_loopw [5, 6] (fun s t wr => ∃ lo hi : Int, s = .int .u64 lo ∧ t = .int .u64 hi ∧ SqJ S lo hi ∧ Hold wr w1.heap.size sh sl ∧ Below w.heap.size w wr) (fun s t _ => (intOf t - intOf s).toNat)
  case atStart => exact ⟨0, 1099511627776, rfl, rfl, ⟨by omega, by omega, by omega, by have := hS0.out; omega, by have := hS0.out; omega⟩, k0, hb1⟩
  case round =>
    rename_i wr
    clear k0 hb1
    obtain ⟨lo, hi, rfl, rfl, hJ, hk, hb⟩ := hrel
    obtain ⟨u0, u1, u2, u3, u4⟩ := id hk
    obtain ⟨j0, j1, j2, j3, j4⟩ := id hJ
    have HJ := Lib.hid hJ
    clear j3 j4 hJ
    by_cases hlt : 1 < hi - lo
    · obtain ⟨m, HM⟩ : ∃ m, Hid ((lo + hi) / 2 = m) := ⟨_, rfl⟩
      have m0 : lo < m := by have := HM.out; omega
      have m1 : m < hi := by have := HM.out; omega
      go_upto_region 7 with (fail)
      rw [HM.out]
      by_cases hs : S < m * m
      · go_region_with (first | (go_at_call 37; refine (times_any _ _ ⟨by omega, by omega⟩ ⟨by omega, by omega⟩ _).mono ?_; rintro e w2 ⟨mh, ml, rfl, hI2, hB2⟩; obtain ⟨hc, hf⟩ := bcell hB2; simp at hc hf) | (go_at_call 30; refine (less_any _ _ _ _ _ _ hI hI2 _).mono ?_; rintro e w3 ⟨rfl, hB3⟩; rw [ltB_t hs]))
        all_goals
          go_wp2_with fail
          go_roundw
          case rel => exact ⟨lo, m, rfl, rfl, ⟨j0, m0, by omega, HJ.out.2.2.2.1, hs⟩, Hold.later (Hold.later hk.drew hB2) hB3, Below.next (Below.next hb.drew hB2) hB3⟩
          case measure => simp [intOf]; omega
      · go_region_with (first | (go_at_call 37; refine (times_any _ _ ⟨by omega, by omega⟩ ⟨by omega, by omega⟩ _).mono ?_; rintro e w2 ⟨mh, ml, rfl, hI2, hB2⟩; obtain ⟨hc, hf⟩ := bcell hB2; simp at hc hf) | (go_at_call 30; refine (less_any _ _ _ _ _ _ hI hI2 _).mono ?_; rintro e w3 ⟨rfl, hB3⟩; rw [ltB_f (by omega)]))
        all_goals
          go_wp2_with fail
          go_roundw
          case rel => exact ⟨m, hi, rfl, rfl, ⟨by omega, m1, j2, by omega, HJ.out.2.2.2.2⟩, Hold.later (Hold.later hk.drew hB2) hB3, Below.next (Below.next hb.drew hB2) hB3⟩
          case measure => simp [intOf]; omega
    · have hfin : Hid (IsRoot S lo) := root_of j0 HJ.out.2.2.2.1 HJ.out.2.2.2.2 (by omega) j1 hS0.out.2
      have hl2 : lo ≤ 549755813887 := hfin.out.2.1
      go_wp2_with fail
      go_ret2
      exact ⟨lo, rfl, by rw [HS.out]; exact hfin.out, hb⟩
set_option maxHeartbeats 400000 in
theorem rsqrt_neg (a : Int) (h0 : a < 0) (w : World) :
    Calls Try.prog 23 #[.int .i64 a] w fun e w' => e = .returned (.tuple #[.int .i64 0, .bool false]) ∧ w = w' := by
  go_enter Try.func23, Try.ntmps23
  go_wp2_with fail
  go_ret2
  exact ⟨rfl, rfl⟩
end Go.Proofs.Yticjclllhjehfaa
