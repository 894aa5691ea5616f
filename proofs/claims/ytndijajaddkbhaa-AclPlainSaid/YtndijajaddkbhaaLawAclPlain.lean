/- The walk of the law. -/
import Derived.Test.YtndijajaddkbhaaMpl
import Derived.Test.YtndijajaddkbhaaEvB
import Derived.Test.YtndijajaddkbhaaClosed
import Derived.Test.YtndijajaddkbhaaMgrp
namespace Go.Proofs.Ytndijajaddkbhaa.Re
open Go.RowKit AM
set_option maxRecDepth 100000 in
set_option maxHeartbeats 12800000 in
theorem aclPlain_any (a : Option Addr) (n cap : Nat) (L : List RV) (w : World) (hL : IsL w a n L) :
    Calls Try.prog 3 #[.slice a n cap] w fun e w' => e = .returned (.bool true) ∧ Below w.heap.size w w' := by
  have HL := Lib.hid hL
  have HLL := Lib.hid hL.1
  clear hL
  by_cases hl1 : 66 < n
  · go_enter Try.func3, Try.ntmps3
    go_wp2_with fail
    go_ret
    exact ⟨rfl, Below.refl _ _⟩
  have hd1 : decide ((66 : Int) < (n : Int)) = false := by simp; omega
  go_enter Try.func3, Try.ntmps3
  go_wp2_with fail
  clear hd1
  refine (copyrules_any a n cap L (by omega) _ HL.out).mono ?_
  rintro e w1 ⟨⟨v, rfl, ho⟩, hB1⟩
  obtain ⟨ca, cc, rfl, hi⟩ := ho.isOf cells7_len
  rw [HLL.out] at hi ho ⊢
  have hcc := OwnOf.cap ho
  have HI1 := Lib.hid hi
  have HB1 := Lib.hid hB1
  clear ho hB1 hi
  by_cases hv : (rck 64 L).2 = 0
  · have HV := Lib.hid hv
    clear hv
    go_wp2_with fail
    refine (pplain_ok ca n cc hcc L _ HI1.out HV.out).mono ?_
    rintro e w2 ⟨⟨v, rfl, ho⟩, hB2⟩
    obtain ⟨pa, pc, rfl, hi⟩ := ho.isOf cells7_len
    have hpl : (plainL L).length ≤ n := by rw [← HLL.out]; exact plainL_len L
    have HSP := Lib.hid (fun W h => splain_ok a n cap L W h HV.out)
    generalize plainL L = P at *
    obtain ⟨np, hnp⟩ : ∃ q, q = P.length := ⟨_, rfl⟩
    have HNP := Lib.hid hnp
    rw [← hnp] at hi ho hpl ⊢
    clear hnp
    have HP2 := Lib.hid hi
    have HO2 := Lib.hid ho
    have HK2 := Lib.hid hB2
    have HB2 := Lib.hid (Below.next HB1.out hB2)
    clear ho hB2 hi
    go_wp2_with fail
    refine (HSP.out _ (HL.out.later HB2.out)).mono ?_
    rintro e w3 ⟨⟨v, rfl, ho⟩, hB3⟩
    obtain ⟨sa, sc, rfl, hi⟩ := ho.isOf cells7_len
    rw [← HNP.out] at hi ⊢
    have HS3 := Lib.hid hi
    have HP3 := Lib.hid (HP2.out.later hB3)
    have HO3 := Lib.hid (HO2.out.later hB3)
    have HK3 := Lib.hid (Below.next HK2.out hB3)
    have HB3 := Lib.hid (Below.next HB2.out hB3)
    clear ho hB3 hi HSP HP2 HO2 HK2 HB2
    go_wp2_with fail
    refine (eqrules_any pa sa np pc sc P (by omega) _ HP3.out HS3.out).mono ?_
    rintro e w4 ⟨rfl, hB4⟩
    have HO4 := Lib.hid (HO3.out.later hB4)
    have HK4 := Lib.hid (Below.next HK3.out hB4)
    have HB4 := Lib.hid (Below.next HB3.out hB4)
    clear hB4 HP3 HO3 HK3 HB3 HS3
    go_wp2_with fail
    have HZ1 : Hid (w.heap.size ≤ w1.heap.size) := HB1.out.size
    have HGX : Hid (0 < np → ∃ g, pa = some ⟨g, 0, none⟩ ∧ w1.heap.size ≤ g ∧ w4.there g 0 (np * 7)) := fun h => by
      obtain ⟨g, h1, h2, _, h4⟩ := OwnOf.there HO4.out (by rw [← HNP.out]; exact h)
      rw [← HNP.out] at h4
      exact ⟨g, h1, h2, h4⟩
    go_loopw [8] (fun i wr => ∃ k : Nat, k ≤ np ∧ i = .int .i64 k ∧ Below w1.heap.size w4 wr ∧ (∀ g N, w4.there g 0 N → wr.there g 0 N)) (fun i _ => np - (intOf i).toNat)
    case atStart => exact ⟨0, Nat.zero_le _, rfl, Below.refl _ _, fun _ _ h => h⟩
    case round =>
      obtain ⟨k, hk, rfl, hB, hT⟩ := hrel
      have HB := Lib.hid hB
      have HT := Lib.hid hT
      clear hB hT
      by_cases hlt : k < np
      · obtain ⟨g, rfl, hg, hth⟩ := HGX.out (by omega)
        have HTH := Lib.hid (there_mid (n := 7) (HT.out g _ hth) hlt)
        have HNB := Lib.hid (below_setCells HB.out hg [.int .i64 0, .int .i64 0, .int .i64 0, .int .i64 0, .int .u64 0, .int .u64 0, .int .u64 0] (k * 7))
        have HNT : Hid (∀ g' N, w4.there g' 0 N → (wr.setCells g (k * 7) [.int .i64 0, .int .i64 0, .int .i64 0, .int .i64 0, .int .u64 0, .int .u64 0, .int .u64 0]).there g' 0 N) := fun g' N h => World.there_setCells (HT.out g' N h) _ _ _
        have HIN : Hid ((Try.prog.info? 35).map (·.size) = some 7) := by unfold Hid; kernel_rfl
        clear hth
        go_upto_region 11 with fail
        refine wp_region_lit ?_
        refine runTo rfl _ rfl (.slice (some ⟨g, 0, none⟩) np pc) wr (by rfl) ?_
        refine runTo rfl _ rfl (.int .i64 (k : Int)) wr (by rfl) ?_
        refine runTo rfl _ rfl (.agg #[.int .i64 0, .int .i64 0, .int .i64 0, .int .i64 0, .int .u64 0, .int .u64 0, .int .u64 0]) wr (by first | rfl | (go_simp; done)) ?_
        refine runTo rfl _ rfl (.pointer (some ⟨g, k * 7, none⟩)) wr (by first | (go_simp; done) | (simp [execOp, go_sem]; done)) ?_
        refine wpList_store_mid rfl 35 (.tmp 42) (.tmp 41) rfl g (k * 7) #[.int .i64 0, .int .i64 0, .int .i64 0, .int .i64 0, .int .u64 0, .int .u64 0, .int .u64 0] rfl rfl HTH.out HIN.out (by kernel_rfl) ?_
        go_wp2_with fail
        go_roundw
        case rel => exact ⟨k + 1, by omega, by go_num, HNB.out, HNT.out⟩
        case measure => simp [intOf]; omega
      · obtain rfl : k = np := by omega
        have HI := Lib.hid (HI1.out.later (HK4.out.trans HB.out))
        have HBF := Lib.hid (HB4.out.trans (Below.mono HB.out HZ1.out))
        generalize wr = wc at *
        go_wp2_with fail
        refine (eqrules_any ca a n cc cap L (by omega) _ HI.out (HL.out.later HBF.out)).mono ?_
        rintro e we ⟨rfl, hBe⟩
        have HBe := Lib.hid (Below.next HBF.out hBe)
        clear hBe
        go_wp2_with fail
        refine (Go.Proofs.Ytndijajaddkbhaa.example19 _).mono ?_
        rintro e wE ⟨rfl, hBE⟩
        have HBE := Lib.hid (Below.next HBe.out hBE)
        go_wp2_with fail
        go_ret
        exact ⟨rfl, HBE.out⟩
  · obtain ⟨x, hx⟩ : ∃ x, (rck 64 L).2 = x := ⟨_, rfl⟩
    have h0 : ¬ x = 0 := by rw [← hx]; exact hv
    have HXE := Lib.hid hx
    have H0 := Lib.hid h0
    clear hv hx h0
    go_wp2_with fail
    refine (pplain_bad ca n cc (by omega) L _ HI1.out x HXE.out H0.out).mono ?_
    rintro e w2 ⟨rfl, hB2⟩
    have HI2 := Lib.hid (HI1.out.later hB2)
    have HB2 := Lib.hid (Below.next HB1.out hB2)
    clear hB2 HB1 HI1
    go_wp2_with fail
    refine (splain_bad a n cap L _ (HL.out.later HB2.out) x HXE.out H0.out).mono ?_
    rintro e w3 ⟨rfl, hB3⟩
    have HI3 := Lib.hid (HI2.out.later hB3)
    have HB3 := Lib.hid (Below.next HB2.out hB3)
    clear hB3 HB2 HI2
    go_wp2_with fail
    refine (eqrules_any none none 0 0 0 [] (by decide) _ (IsOf.nil _ _) (IsOf.nil _ _)).mono ?_
    rintro e w4 ⟨rfl, hB4⟩
    have HI4 := Lib.hid (HI3.out.later hB4)
    have HB4 := Lib.hid (Below.next HB3.out hB4)
    clear hB4 HB3 HI3
    have hxx : (x != x) = false := by simp
    go_wp2_with fail
    clear hxx
    go_loopw [8] (fun i wr => i = .int .i64 0 ∧ Below w4.heap.size w4 wr) (fun i _ => 0)
    case atStart => exact ⟨rfl, Below.refl _ _⟩
    case round =>
      obtain ⟨rfl, hB⟩ := hrel
      have HI := Lib.hid (HI4.out.later hB)
      have HBF := Lib.hid (Below.next HB4.out hB)
      clear hB
      go_wp2_with fail
      refine (eqrules_any ca a n cc cap L (by omega) _ HI.out (HL.out.later HBF.out)).mono ?_
      rintro e we ⟨rfl, hBe⟩
      have HBe := Lib.hid (Below.next HBF.out hBe)
      clear hBe
      go_wp2_with fail
      refine (Go.Proofs.Ytndijajaddkbhaa.example19 _).mono ?_
      rintro e wE ⟨rfl, hBE⟩
      have HBE := Lib.hid (Below.next HBe.out hBE)
      go_wp2_with fail
      go_ret
      exact ⟨rfl, HBE.out⟩
end Go.Proofs.Ytndijajaddkbhaa.Re
