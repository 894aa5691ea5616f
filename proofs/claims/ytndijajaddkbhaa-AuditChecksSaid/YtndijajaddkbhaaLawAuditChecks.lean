/- The walk of the law. -/
import Derived.Test.YtndijajaddkbhaaEvE
import Derived.Test.YtndijajaddkbhaaCameEv
import Derived.Test.YtndijajaddkbhaaClosed
namespace Go.Proofs.Ytndijajaddkbhaa.Re
open Go.RowKit AM
set_option maxRecDepth 100000 in
set_option maxHeartbeats 6400000 in
theorem auditChecks_any (u : Int) (a : Option Addr) (n cap : Nat) (L : List EV) (a' : Option Addr) (m cap' : Nat) (M : List LV) (w : World) (hL : IsEV w a n L) (hM : IsLV w a' m M) :
    Calls Try.prog 8 #[.int .i64 u, .slice a n cap, .slice a' m cap'] w fun e w' => e = .returned (.bool true) ∧ Below w.heap.size w w' := by
  have HL := Lib.hid hL
  have HM := Lib.hid hM
  have HLL := Lib.hid hL.1
  have HML := Lib.hid hM.1
  clear hL hM
  by_cases hl1 : 100 < n
  · go_enter Try.func8, Try.ntmps8
    go_wp2_with fail
    go_ret
    exact ⟨rfl, Below.refl _ _⟩
  have hd1 : decide ((100 : Int) < (n : Int)) = false := by simp; omega
  by_cases hl2 : 100 < m
  · go_enter Try.func8, Try.ntmps8
    go_wp2_with fail
    go_ret
    exact ⟨rfl, Below.refl _ _⟩
  have hd2 : decide ((100 : Int) < (m : Int)) = false := by simp; omega
  go_enter Try.func8, Try.ntmps8
  go_wp2_with fail
  clear hd1 hd2
  refine (copyEV_any a n cap L (by omega) _ HL.out).mono ?_
  rintro e w1 ⟨⟨v, rfl, ho⟩, hB1⟩
  obtain ⟨ca, cc, rfl, hi⟩ := ho.isOf cellsEV_len
  rw [HLL.out] at hi ⊢
  have HI1 := Lib.hid hi
  have HB1 := Lib.hid hB1
  clear ho hB1 hi
  go_wp2_with fail
  refine (copyLV_any a' m cap' M (by omega) _ (HM.out.later HB1.out)).mono ?_
  rintro e w2 ⟨⟨v, rfl, ho⟩, hB2⟩
  obtain ⟨da, dc, rfl, hi⟩ := ho.isOf cellsLV_len
  rw [HML.out] at hi ⊢
  have HJ2 := Lib.hid hi
  have HI2 := Lib.hid (HI1.out.later hB2)
  have HB2 := Lib.hid (Below.next HB1.out hB2)
  clear ho hB2 hi HB1 HI1
  go_wp2_with fail
  refine (plog_any u ca n cc L da m dc M (by omega) (by omega) _ HI2.out HJ2.out).mono ?_
  rintro e w3 ⟨rfl, hB3⟩
  have HI3 := Lib.hid (HI2.out.later hB3)
  have HJ3 := Lib.hid (HJ2.out.later hB3)
  have HB3 := Lib.hid (Below.next HB2.out hB3)
  clear hB3 HB2 HI2 HJ2
  have HS := Lib.hid (fun W h1 h2 => slog_any u a n cap L a' m cap' M (by omega) (by omega) W h1 h2)
  generalize logE u L M = x at *
  go_wp2_with fail
  refine (HS.out _ (HL.out.later HB3.out) (HM.out.later HB3.out)).mono ?_
  rintro e w4 ⟨rfl, hB4⟩
  have HI4 := Lib.hid (HI3.out.later hB4)
  have HJ4 := Lib.hid (HJ3.out.later hB4)
  have HB4 := Lib.hid (Below.next HB3.out hB4)
  clear hB4 HB3 HI3 HJ3 HS
  go_wp2_with fail
  refine (eqEV_any ca a n cc cap L (by omega) _ HI4.out (HL.out.later HB4.out)).mono ?_
  rintro e w5 ⟨rfl, hB5⟩
  have HJ5 := Lib.hid (HJ4.out.later hB5)
  have HB5 := Lib.hid (Below.next HB4.out hB5)
  clear hB5 HB4 HI4 HJ4
  go_wp2_with fail
  refine (eqLV_any da a' m dc cap' M (by omega) _ HJ5.out (HM.out.later HB5.out)).mono ?_
  rintro e w6 ⟨rfl, hB6⟩
  have HB6 := Lib.hid (Below.next HB5.out hB6)
  clear hB6 HB5 HJ5
  go_wp2_with fail
  refine (Go.Proofs.Ytndijajaddkbhaa.awake30 _).mono ?_
  rintro e wE ⟨rfl, hBE⟩
  have HBE := Lib.hid (Below.next HB6.out hBE)
  go_wp2_with fail
  go_ret
  exact ⟨rfl, HBE.out⟩
end Go.Proofs.Ytndijajaddkbhaa.Re
