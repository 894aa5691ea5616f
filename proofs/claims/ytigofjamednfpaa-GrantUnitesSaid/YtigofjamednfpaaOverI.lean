/- The contract of May. -/
import Derived.Test.YtigofjamednfpaaOverG
import Derived.RegionTactic
namespace Go.Proofs.Ytigofjamednfpaa.Re
open Go.RowKit AM
def mayE (u : Int) (r : R4) (L : List RV) : Int := if gcE r L = 0 then (if vld u = true then 0 else 2) else gcE r L
def mayB (f : RV → W64) (u : Int) (r : R4) (L : List RV) : Bool := decide (gcE r L = 0) && (vld u && (ovr f r L).getLsbD u.toNat)
theorem retMay {a b a' b' : Bool} {e e' : Int} (h1 : a = a') (h2 : b = b') (h3 : e = e') : Ending.returned (.tuple #[.bool a, .bool b, .int .i64 e]) = .returned (.tuple #[.bool a', .bool b', .int .i64 e']) := by rw [h1, h2, h3]
set_option maxRecDepth 100000 in
set_option maxHeartbeats 1600000 in
theorem may_any (u r1 r2 r3 r4 : Int) (a : Option Addr) (len cap : Nat) (L : List RV) (hl : len ≤ 100000) (w : World) (hL : IsL w a len L) :
    Calls Try.prog 14 #[.int .i64 u, .agg #[.int .i64 r1, .int .i64 r2, .int .i64 r3, .int .i64 r4], .slice a len cap] w fun e w' =>
      e = .returned (.tuple #[.bool (mayB RV.wr u ⟨r1, r2, r3, r4⟩ L), .bool (mayB RV.ow u ⟨r1, r2, r3, r4⟩ L), .int .i64 (mayE u ⟨r1, r2, r3, r4⟩ L)]) ∧ Below w.heap.size w w' := by
  have HL := Lib.hid hL
  clear hL
  have HB := Lib.hid (below_alloc w (.cells #[.int .i64 r1, .int .i64 r2, .int .i64 r3, .int .i64 r4] 23))
  go_enter Try.func14, Try.ntmps14
  go_wp2_with fail
  refine (over_any r1 r2 r3 r4 a len cap L hl _ (HL.out.later HB.out)).mono ?_
  rintro e w1 ⟨rfl, hB1⟩
  have HB1 := Lib.hid (Below.next HB.out hB1)
  clear hB1 HB
  have HBz := Lib.hid (Below.next HB1.out (below_alloc w1 (.cells #[.int .u64 ((ovV RV.rd ⟨r1, r2, r3, r4⟩ L).toNat : Int), .int .u64 ((ovV RV.wr ⟨r1, r2, r3, r4⟩ L).toNat : Int), .int .u64 ((ovV RV.ow ⟨r1, r2, r3, r4⟩ L).toNat : Int)] 28)))
  by_cases hz : gcE ⟨r1, r2, r3, r4⟩ L = 0
  · have hv : ∀ f : RV → W64, ovV f ⟨r1, r2, r3, r4⟩ L = ovr f ⟨r1, r2, r3, r4⟩ L := fun f => by unfold ovV; rw [if_pos hz]
    have HM : Hid (∀ f : RV → W64, mayB f u ⟨r1, r2, r3, r4⟩ L = (vld u && (ovr f ⟨r1, r2, r3, r4⟩ L).getLsbD u.toNat)) := fun f => by unfold mayB; rw [decide_eq_true hz]; rfl
    have HE : Hid (mayE u ⟨r1, r2, r3, r4⟩ L = if vld u = true then 0 else 2) := by unfold Hid mayE; rw [if_pos hz]
    unfold overV rights3
    rw [hv] at HBz
    rw [hv] at HBz
    rw [hv] at HBz
    rw [hv, hv, hv, hz]
    have HM2 := Lib.hid (HM.out RV.wr)
    have HM3 := Lib.hid (HM.out RV.ow)
    clear hv hz HM
    generalize ovr RV.rd ⟨r1, r2, r3, r4⟩ L = A1 at *
    generalize ovr RV.wr ⟨r1, r2, r3, r4⟩ L = A2 at *
    generalize ovr RV.ow ⟨r1, r2, r3, r4⟩ L = A3 at *
    rcases Int.lt_or_le u 0 with h | h
    · have hk := Lib.hid (vld_f (u := u) (by omega))
      go_wp2_with fail
      go_ret3
      exact ⟨retMay (by rw [HM2.out, hk.out]; rfl) (by rw [HM3.out, hk.out]; rfl) (by rw [HE.out, hk.out]; rfl), HBz.out⟩
    · rcases Int.lt_or_le u 64 with h2 | h2
      · have hk := Lib.hid (vld_t (u := u) (by omega))
        obtain ⟨n, rfl⟩ : ∃ n : Nat, u = (n : Int) := ⟨u.toNat, by omega⟩
        have H2 := Lib.hid (has_bits A2 n)
        have H3 := Lib.hid (has_bits A3 n)
        have hX := Box3.start w1 (A1.toNat : Int) (A2.toNat : Int) (A3.toNat : Int) 28
        obtain ⟨_, v1, v2, v3⟩ := hX
        go_wp2_with fail
        go_region
        go_wp2_with fail
        go_ret3
        exact ⟨retMay (by rw [HM2.out, hk.out, H2.out]; rfl) (by rw [HM3.out, hk.out, H3.out]; rfl) (by rw [HE.out, hk.out]; rfl), HBz.out.drew⟩
      · have hk := Lib.hid (vld_f (u := u) (by omega))
        go_wp2_with fail
        go_ret3
        exact ⟨retMay (by rw [HM2.out, hk.out]; rfl) (by rw [HM3.out, hk.out]; rfl) (by rw [HE.out, hk.out]; rfl), HBz.out⟩
  · have hv : ∀ f : RV → W64, ovV f ⟨r1, r2, r3, r4⟩ L = 0#64 := fun f => by unfold ovV; rw [if_neg hz]
    have HM : Hid (∀ f : RV → W64, mayB f u ⟨r1, r2, r3, r4⟩ L = false) := fun f => by unfold mayB; rw [decide_eq_false hz]; rfl
    have HE : Hid (mayE u ⟨r1, r2, r3, r4⟩ L = gcE ⟨r1, r2, r3, r4⟩ L) := by unfold Hid mayE; rw [if_neg hz]
    unfold overV rights3
    rw [hv] at HBz
    rw [hv] at HBz
    rw [hv] at HBz
    rw [hv, hv, hv]
    clear hv
    have hz1 : (gcE ⟨r1, r2, r3, r4⟩ L != 0) = true := by simpa using hz
    have hz2 : (gcE ⟨r1, r2, r3, r4⟩ L == 0) = false := by simpa using hz
    generalize gcE ⟨r1, r2, r3, r4⟩ L = g at *
    clear hz
    go_wp2_with fail
    go_ret3
    exact ⟨retMay (by rw [HM.out]) (by rw [HM.out]) (by rw [HE.out]), HBz.out⟩
end Go.Proofs.Ytigofjamednfpaa.Re
