/- The walk of the law. -/
import Derived.Test.YtigofjamednfpaaGraB
import Derived.Test.YtigofjamednfpaaCameG
import Derived.Test.YtigofjamednfpaaClosed
namespace Go.Proofs.Ytigofjamednfpaa.Re
open Go.RowKit AM
set_option maxHeartbeats 3200000 in
theorem grantMatches_any (n : Int) (a : Option Addr) (len cap : Nat) (L : List GV) (x : BitVec 8) (f : Nat) (hf : f < 256) (w : World) (hL : IsG w a len L) :
    Calls Try.prog 7 #[.int .i64 n, .slice a len cap, .int .u8 (x.toNat : Int), .int .u8 (f : Int)] w fun e w' => e = .returned (.bool true) ∧ Below w.heap.size w w' := by
  have HL := Lib.hid hL
  have HLL := Lib.hid hL.1
  clear hL
  by_cases h : 70 < len
  · go_enter Try.func7, Try.ntmps7
    go_wp2_with fail
    go_ret
    exact ⟨rfl, Below.refl _ _⟩
  have hd1 : decide ((70 : Int) < (len : Int)) = false := by simp; omega
  go_enter Try.func7, Try.ntmps7
  go_wp2_with fail
  refine (copygrants_any a len cap L (by omega) _ HL.out).mono ?_
  rintro e w1 ⟨⟨v, rfl, ho⟩, hB1⟩
  obtain ⟨ia, icap, rfl, hi⟩ := ho.isOf cells8_len
  rw [HLL.out] at hi ⊢
  have HB1 := Lib.hid hB1
  have HI1 := Lib.hid hi
  clear ho hi hB1
  go_wp2_with fail
  refine (pcheck_any n ia len icap L (by omega) _ HI1.out).mono ?_
  rintro e w2 ⟨rfl, hB2⟩
  have HB2 := Lib.hid (Below.next HB1.out hB2)
  have HI2 := Lib.hid (HI1.out.later hB2)
  clear hB2 HB1 HI1
  unfold ckV
  go_wp2_with fail
  refine (pscheck_any n a len cap L (by omega) _ (HL.out.later HB2.out)).mono ?_
  rintro e w3 ⟨rfl, hB3⟩
  have HB3 := Lib.hid (Below.next HB2.out hB3)
  have HI3 := Lib.hid (HI2.out.later hB3)
  clear hB3 HB2 HI2
  unfold ckV
  generalize (gck n L).1 = ck1 at *
  generalize (gck n L).2 = ck2 at *
  go_wp2_with fail
  refine (names_any x f hf _).mono ?_
  rintro e w4 ⟨rfl, rfl⟩
  go_wp2_with fail
  refine (snames_any x f hf _).mono ?_
  rintro e w4 ⟨rfl, rfl⟩
  generalize nmB x f = z at *
  go_wp2_with fail
  refine (eqgrants_any ia a len icap cap L (by omega) _ HI3.out (HL.out.later HB3.out)).mono ?_
  rintro e w5 ⟨rfl, hB5⟩
  have HB5 := Lib.hid (Below.next HB3.out hB5)
  clear hB5 HB3 HI3
  go_wp2_with fail
  refine (Go.Proofs.Ytigofjamednfpaa.example21 _).mono ?_
  rintro e wE ⟨rfl, hBE⟩
  have HBE := Lib.hid (Below.next HB5.out hBE)
  go_wp2_with fail
  go_ret
  exact ⟨rfl, HBE.out⟩
theorem grantMatches_law (n : Int) (a : Option Addr) (len cap : Nat) (L : List GV) (x f : Int) (w : World) (hL : IsOf cells8 8 w a len L) (h1 : (Lit.int .u8 x).wf = true) (h2 : (Lit.int .u8 f).wf = true) :
    Calls Try.prog 7 #[.int .i64 n, .slice a len cap, .int .u8 x, .int .u8 f] w fun e w' => e = .returned (.bool true) ∧ Below w.heap.size w w' := by
  obtain ⟨x8, rfl⟩ := u8_word h1
  obtain ⟨f8, rfl⟩ := u8_word h2
  exact grantMatches_any n a len cap L x8 f8.toNat f8.isLt w hL
end Go.Proofs.Ytigofjamednfpaa.Re
