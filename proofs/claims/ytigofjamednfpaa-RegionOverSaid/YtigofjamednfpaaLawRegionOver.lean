/- The walk of the law. -/
import Derived.Test.YtigofjamednfpaaPtD
import Derived.Test.YtigofjamednfpaaAclD
import Derived.Test.YtigofjamednfpaaClosed
import Derived.Test.YtigofjamednfpaaCame
namespace Go.Proofs.Ytigofjamednfpaa.Re
open Go.RowKit AM
set_option maxRecDepth 100000 in
set_option maxHeartbeats 6400000 in
theorem regionOver_any (r1 r2 r3 r4 : Int) (a : Option Addr) (len cap : Nat) (L : List RV) (u : Int) (w : World) (hL : IsL w a len L) :
    Calls Try.prog 3 #[.agg #[.int .i64 r1, .int .i64 r2, .int .i64 r3, .int .i64 r4], .slice a len cap, .int .i64 u] w fun e w' => e = .returned (.bool true) ∧ Below w.heap.size w w' := by
  have HL := Lib.hid hL
  have HLL := Lib.hid hL.1
  clear hL
  have HF0 := Lib.hid (Four.start w r1 r2 r3 r4 23)
  have HB0 := Lib.hid (below_alloc w (.cells #[.int .i64 r1, .int .i64 r2, .int .i64 r3, .int .i64 r4] 23))
  by_cases h : 66 < len
  · go_enter Try.func3, Try.ntmps3
    go_wp2_with fail
    go_ret
    exact ⟨rfl, HB0.out⟩
  have hd1 : decide ((66 : Int) < (len : Int)) = false := by simp; omega
  go_enter Try.func3, Try.ntmps3
  go_wp2_with fail
  generalize w.alloc (.cells #[.int .i64 r1, .int .i64 r2, .int .i64 r3, .int .i64 r4] 23) = w0 at *
  refine (copyrules_any a len cap L (by omega) _ (HL.out.later HB0.out)).mono ?_
  rintro e w1 ⟨⟨v, rfl, ho⟩, hB1⟩
  obtain ⟨ia, icap, rfl, hi⟩ := ho.isOf cells7_len
  rw [HLL.out] at hi ⊢
  have HB1 := Lib.hid (Below.next HB0.out hB1)
  have HF1 := Lib.hid (HF0.out.later hB1)
  have HI1 := Lib.hid hi
  clear ho hi hB1 HF0 HB0
  obtain ⟨_, e1, e2, e3, e4⟩ := HF1.out
  go_wp2_with fail
  refine (over_any r1 r2 r3 r4 ia len icap L (by omega) _ HI1.out).mono ?_
  rintro e w2 ⟨rfl, hB2⟩
  have HB2 := Lib.hid (Below.next HB1.out hB2)
  have HF2 := Lib.hid (HF1.out.later hB2)
  have HI2 := Lib.hid (HI1.out.later hB2)
  clear hB2 HB1 HF1 HI1 e1 e2 e3 e4
  have hSO := fun W (h : IsL W a len L) => sover_any r1 r2 r3 r4 a len cap L W h
  have HSO := Lib.hid hSO
  clear hSO
  unfold overV rights3 at HSO ⊢
  generalize ovV RV.rd ⟨r1, r2, r3, r4⟩ L = A1 at *
  generalize ovV RV.wr ⟨r1, r2, r3, r4⟩ L = A2 at *
  generalize ovV RV.ow ⟨r1, r2, r3, r4⟩ L = A3 at *
  generalize gcE ⟨r1, r2, r3, r4⟩ L = g at *
  have HBy := Lib.hid (Below.next HB2.out (below_alloc w2 (.cells #[.int .u64 (A1.toNat : Int), .int .u64 (A2.toNat : Int), .int .u64 (A3.toNat : Int)] 28)))
  have HFy := Lib.hid (HF2.out.later (below_alloc w2 (.cells #[.int .u64 (A1.toNat : Int), .int .u64 (A2.toNat : Int), .int .u64 (A3.toNat : Int)] 28)))
  have HIy := Lib.hid (HI2.out.later (below_alloc w2 (.cells #[.int .u64 (A1.toNat : Int), .int .u64 (A2.toNat : Int), .int .u64 (A3.toNat : Int)] 28)))
  have HAy := Lib.hid (Box3.start w2 (A1.toNat : Int) (A2.toNat : Int) (A3.toNat : Int) 28)
  obtain ⟨_, e1, e2, e3, e4⟩ := HF2.out
  go_wp2_with fail
  clear e1 e2 e3 e4 HB2 HF2 HI2
  generalize w2.alloc (.cells #[.int .u64 (A1.toNat : Int), .int .u64 (A2.toNat : Int), .int .u64 (A3.toNat : Int)] 28) = wy at *
  refine (HSO.out _ (HL.out.later HBy.out)).mono ?_
  rintro e w3 ⟨rfl, hB3⟩
  have HB3 := Lib.hid (Below.next HBy.out hB3)
  have HF3 := Lib.hid (HFy.out.later hB3)
  have HI3 := Lib.hid (HIy.out.later hB3)
  have HA3 := Lib.hid (HAy.out.later hB3)
  clear hB3 HBy HFy HIy HAy HSO
  have HBz := Lib.hid (Below.next HB3.out (below_alloc w3 (.cells #[.int .u64 (A1.toNat : Int), .int .u64 (A2.toNat : Int), .int .u64 (A3.toNat : Int)] 28)))
  have HFz := Lib.hid (HF3.out.later (below_alloc w3 (.cells #[.int .u64 (A1.toNat : Int), .int .u64 (A2.toNat : Int), .int .u64 (A3.toNat : Int)] 28)))
  have HIz := Lib.hid (HI3.out.later (below_alloc w3 (.cells #[.int .u64 (A1.toNat : Int), .int .u64 (A2.toNat : Int), .int .u64 (A3.toNat : Int)] 28)))
  have HAz := Lib.hid (HA3.out.later (below_alloc w3 (.cells #[.int .u64 (A1.toNat : Int), .int .u64 (A2.toNat : Int), .int .u64 (A3.toNat : Int)] 28)))
  have HCz := Lib.hid (Box3.start w3 (A1.toNat : Int) (A2.toNat : Int) (A3.toNat : Int) 28)
  obtain ⟨_, e1, e2, e3, e4⟩ := HF3.out
  go_wp2_with fail
  clear e1 e2 e3 e4 HB3 HF3 HI3 HA3
  generalize w3.alloc (.cells #[.int .u64 (A1.toNat : Int), .int .u64 (A2.toNat : Int), .int .u64 (A3.toNat : Int)] 28) = wz at *
  refine (may_any u r1 r2 r3 r4 ia len icap L (by omega) _ HIz.out).mono ?_
  rintro e w4 ⟨rfl, hB4⟩
  have HB4 := Lib.hid (Below.next HBz.out hB4)
  have HF4 := Lib.hid (HFz.out.later hB4)
  have HI4 := Lib.hid (HIz.out.later hB4)
  have HA4 := Lib.hid (HAz.out.later hB4)
  have HC4 := Lib.hid (HCz.out.later hB4)
  clear hB4 HBz HFz HIz HAz HCz
  obtain ⟨_, e1, e2, e3, e4⟩ := HF4.out
  go_wp2_with fail
  refine (smay_any u r1 r2 r3 r4 a len cap L _ (HL.out.later HB4.out)).mono ?_
  rintro e w5 ⟨rfl, hB5⟩
  have HB5 := Lib.hid (Below.next HB4.out hB5)
  have HI5 := Lib.hid (HI4.out.later hB5)
  have HA5 := Lib.hid (HA4.out.later hB5)
  have HC5 := Lib.hid (HC4.out.later hB5)
  clear hB5 HB4 HF4 HI4 HA4 HC4 e1 e2 e3 e4
  generalize mayB RV.wr u ⟨r1, r2, r3, r4⟩ L = b1 at *
  generalize mayB RV.ow u ⟨r1, r2, r3, r4⟩ L = b2 at *
  generalize mayE u ⟨r1, r2, r3, r4⟩ L = e0 at *
  obtain ⟨_, a1, a2, a3⟩ := HA5.out
  obtain ⟨_, c1, c2, c3⟩ := HC5.out
  go_wp2_with fail
  refine (eqrules_any ia a len icap cap L (by omega) _ HI5.out (HL.out.later HB5.out)).mono ?_
  rintro e w6 ⟨rfl, hB6⟩
  have HB6 := Lib.hid (Below.next HB5.out hB6)
  clear hB6 HB5 HI5 HA5 HC5 a1 a2 a3 c1 c2 c3
  go_wp2_with fail
  refine (Go.Proofs.Ytigofjamednfpaa.example20 _).mono ?_
  rintro e wE ⟨rfl, hBE⟩
  have HBE := Lib.hid (Below.next HB6.out hBE)
  go_wp2_with fail
  go_ret
  exact ⟨rfl, HBE.out⟩
end Go.Proofs.Ytigofjamednfpaa.Re
