/- The walk of the law. -/
import Derived.Test.YtndijajaddkbhaaEvC
import Derived.Test.YtndijajaddkbhaaCameEv
import Derived.Test.YtndijajaddkbhaaClosed
namespace Go.Proofs.Ytndijajaddkbhaa.Re
open Go.RowKit AM
theorem tmod_bitn' {n : Nat} (x : BitVec n) (k : Nat) : ((x.toNat : Int) / 2 ^ k).tmod 2 = if x.getLsbD k then 1 else 0 := by
  have h1 : x.getLsbD k = decide (x.toNat / 2 ^ k % 2 = 1) := by
    rw [← BitVec.testBit_toNat, Nat.testBit_eq_decide_div_mod_eq]
  have h2 : ((x.toNat : Int) / 2 ^ k) = ((x.toNat / 2 ^ k : Nat) : Int) := by simp
  rw [h1, h2]
  generalize x.toNat / 2 ^ k = m
  rw [Int.tmod_eq_emod_of_nonneg (by omega)]
  by_cases h : m % 2 = 1
  · rw [decide_eq_true h, if_pos rfl]; omega
  · rw [decide_eq_false h, if_neg (by decide)]; omega
theorem filter_get {α : Type} (P : α → Bool) (A : List α) (i : Nat) (h : i < A.length) (hp : P A[i] = true) : (A.filter P)[((A.take i).filter P).length]? = some A[i] := by
  have e : A = A.take i ++ A[i] :: A.drop (i + 1) := by rw [← List.drop_eq_getElem_cons h, List.take_append_drop]
  conv => lhs; arg 1; rw [e]
  rw [List.filter_append, List.filter_cons, if_pos hp, List.getElem?_append_right (Nat.le_refl _), Nat.sub_self]
  rfl
theorem grB_app (L M : List EV) : grB L (L ++ M) = true := grB_t (by simp)
theorem grB_filt (P : EV → Bool) (L M : List EV) : grB (L.filter P) ((L ++ M).filter P) = true := by rw [List.filter_append]; exact grB_app _ _
theorem grB_more (L M : List EV) (h : 0 < M.length) : grB (L ++ M) L = false := grB_f fun e => by
  have := congrArg List.length e
  rw [List.length_append, List.length_take] at this
  omega
set_option maxRecDepth 100000 in
set_option maxHeartbeats 12800000 in
theorem auditPrefix_any (us : Nat) (hus : us < 256) (a : Option Addr) (n cap : Nat) (L : List EV) (a' : Option Addr) (m cap' : Nat) (M : List EV) (w : World) (hL : IsEV w a n L) (hM : IsEV w a' m M) :
    Calls Try.prog 11 #[.int .u8 (us : Int), .slice a n cap, .slice a' m cap'] w fun e w' => e = .returned (.bool true) ∧ Below w.heap.size w w' := by
  have HL := Lib.hid hL
  have HM := Lib.hid hM
  have HLL := Lib.hid hL.1
  have HML := Lib.hid hM.1
  clear hL hM
  by_cases hl1 : 60 < n
  · go_enter Try.func11, Try.ntmps11
    go_wp2_with fail
    go_ret
    exact ⟨rfl, Below.refl _ _⟩
  have hd1 : decide ((60 : Int) < (n : Int)) = false := by simp; omega
  by_cases hl2 : 60 < m
  · go_enter Try.func11, Try.ntmps11
    go_wp2_with fail
    go_ret
    exact ⟨rfl, Below.refl _ _⟩
  have hd2 : decide ((60 : Int) < (m : Int)) = false := by simp; omega
  obtain ⟨u, hu⟩ : ∃ u : Nat, u = us % 64 := ⟨_, rfl⟩
  have hu64 : u < 64 := by omega
  have hU : ((us : Int).tmod 64 = (u : Int)) := by rw [Int.tmod_eq_emod_of_nonneg (by omega)]; omega
  go_enter Try.func11, Try.ntmps11
  go_wp2_with fail
  clear hd1 hd2
  refine (copyEV_any a n cap L (by omega) _ HL.out).mono ?_
  rintro e w1 ⟨⟨v, rfl, ho⟩, hB1⟩
  obtain ⟨ca, cc, rfl, _⟩ := ho.isOf cellsEV_len
  have HO1 := Lib.hid ho
  have HB1 := Lib.hid hB1
  have HBn : Hid ((L.length + m) * 72 ≤ 140737488355328) := by unfold Hid; rw [HLL.out]; omega
  clear ho hB1
  have hZ1 := HB1.out.size
  go_wp2_with (at_builtin; refine wpList_appOf rfl (.tmp 25) (.tmp 26) 71 rfl Try.underlying71 _ 72 infoEV zeroEV (by decide) (by decide) cellsEV_len cellsEV_one w.heap.size _ L rfl HO1.out a' m cap' M rfl (HM.out.later HB1.out) HBn.out hZ1 ?_)
  intro v2 w2 ho2 hb2
  obtain ⟨aa, ac, rfl, hi2⟩ := ho2.isOf cellsEV_len
  have HAL : Hid ((L ++ M).length = n + m) := by unfold Hid; rw [List.length_append, HLL.out, HML.out]
  have HG1 := Lib.hid (grB_app L M)
  have HG2 := Lib.hid (grB_filt (seeEV (u : Int)) L M)
  have HG3 := Lib.hid (grB_more L M)
  rw [HAL.out] at hi2 ⊢
  have HB2 := Lib.hid (Below.trans HB1.out hb2)
  have HI2 := Lib.hid hi2
  clear ho2 hb2 hi2 HO1 HB1 hZ1
  generalize hA : L ++ M = A at *
  clear hA
  go_wp2_with fail
  rw [show ((us : Int) % 64) = (u : Int) by omega]
  clear hU hu
  refine (seeEV_any (u : Int) a n cap L (by omega) _ (HL.out.later HB2.out)).mono ?_
  rintro e w3 ⟨⟨v, rfl, ho⟩, hB3⟩
  obtain ⟨pa, pc, rfl, hi⟩ := ho.isOf cellsEV_len
  have hpl : (L.filter (seeEV (u : Int))).length ≤ n := by rw [← HLL.out]; exact List.length_filter_le _ _
  have HB3 := Lib.hid (Below.next HB2.out hB3)
  have HI3 := Lib.hid (HI2.out.later hB3)
  have HP3 := Lib.hid hi
  clear ho hi hB3 HB2 HI2
  generalize L.filter (seeEV (u : Int)) = P at *
  go_wp2_with fail
  refine (seeEV_any (u : Int) aa (n + m) ac A (by omega) _ HI3.out).mono ?_
  rintro e w4 ⟨⟨v, rfl, ho⟩, hB4⟩
  obtain ⟨qa, qc, rfl, hi⟩ := ho.isOf cellsEV_len
  have hql : (A.filter (seeEV (u : Int))).length ≤ n + m := by rw [← HAL.out]; exact List.length_filter_le _ _
  have HGET : Hid (∀ i (h : i < A.length), seeEV (u : Int) A[i] = true → (A.filter (seeEV (u : Int)))[((A.take i).filter (seeEV (u : Int))).length]? = some A[i]) := fun i h hp => filter_get _ A i h hp
  have HB4 := Lib.hid (Below.next HB3.out hB4)
  have HI4 := Lib.hid (HI3.out.later hB4)
  have HP4 := Lib.hid (HP3.out.later hB4)
  have HQ4 := Lib.hid hi
  clear ho hi hB4 HB3 HI3 HP3
  have HQE : Hid ((A.take (n + m)).filter (seeEV (u : Int)) = A.filter (seeEV (u : Int))) := by unfold Hid; rw [List.take_of_length_le (by rw [HAL.out]; exact Nat.le_refl _)]
  generalize A.filter (seeEV (u : Int)) = Q at *
  have HGA := Lib.hid (fun W h1 h2 => grows_any a aa n (n + m) cap ac L A (by omega) (by omega) W h1 h2)
  have HGB := Lib.hid (fun W h1 h2 => grows_any pa qa P.length Q.length pc qc P Q (by omega) (by omega) W h1 h2)
  have HGC := Lib.hid (fun W h1 h2 => grows_any aa a (n + m) n ac cap A L (by omega) (by omega) W h1 h2)
  rw [HG1.out] at HGA
  rw [HG2.out] at HGB
  obtain ⟨npl, hnpl⟩ : ∃ x, x = P.length := ⟨_, rfl⟩
  obtain ⟨nql, hnql⟩ : ∃ x, x = Q.length := ⟨_, rfl⟩
  have HNP := Lib.hid hnpl
  have HNQ := Lib.hid hnql
  rw [← hnpl] at HP4 hpl HGB ⊢
  rw [← hnql] at HQ4 hql HGB ⊢
  clear hnpl hnql
  go_wp2_with fail
  refine (HGA.out _ (HL.out.later HB4.out) HI4.out).mono ?_
  rintro e w5 ⟨rfl, hB5⟩
  have HB5 := Lib.hid (Below.next HB4.out hB5)
  have HI5 := Lib.hid (HI4.out.later hB5)
  have HP5 := Lib.hid (HP4.out.later hB5)
  have HQ5 := Lib.hid (HQ4.out.later hB5)
  clear hB5 HB4 HI4 HP4 HQ4 HGA
  go_wp2_with fail
  refine (HGB.out _ HP5.out HQ5.out).mono ?_
  rintro e w6 ⟨rfl, hB6⟩
  have HB6 := Lib.hid (Below.next HB5.out hB6)
  have HI6 := Lib.hid (HI5.out.later hB6)
  have HQ6 := Lib.hid (HQ5.out.later hB6)
  clear hB6 HB5 HI5 HP5 HQ5 HGB
  by_cases hm0 : m = 0
  · have hd3 : decide ((0 : Int) < (m : Int)) = false := by simp; omega
    go_wp2_with fail
    clear hd3
    generalize w6 = w7 at *
    go_loopw [11, 12] (fun c i wr => ∃ k : Nat, k ≤ n + m ∧ i = .int .i64 k ∧ c = .int .i64 (((A.take k).filter (seeEV (u : Int))).length : Int) ∧ Below w7.heap.size w7 wr) (fun _ i _ => n + m - (intOf i).toNat)
    case atStart => exact ⟨0, Nat.zero_le _, rfl, rfl, Below.refl _ _⟩
    case round =>
      obtain ⟨k, hk, rfl, rfl, hB⟩ := hrel
      have HB := Lib.hid hB
      clear hB
      by_cases hlt : k < n + m
      · have hkl : k < A.length := by rw [HAL.out]; exact hlt
        have HT := Lib.hid (take_fEV (seeEV (u : Int)) A k hkl)
        have HG := Lib.hid (HGET.out k hkl)
        obtain ⟨b, off, rfl, hr⟩ := (HI6.out.later HB.out).2 (by omega)
        have s1 := RowOf.atEV hr k hkl
        have HS1 := Lib.hid s1
        have hml : ((A.take k).filter (seeEV (u : Int))).length ≤ k := Nat.le_trans (List.length_filter_le _ _) (by rw [List.length_take]; omega)
        clear hr
        have HSE : Hid (seeEV (u : Int) A[k] = A[k].tos.getLsbD u) := by
          unfold Hid seeEV hasB
          rw [vld_t (by omega), Bool.true_and, Int.toNat_natCast]
        have ht := tmod_bitn' A[k].tos u
        cases hp : A[k].tos.getLsbD u
        · have HE : Hid ((A.take (k + 1)).filter (seeEV (u : Int)) = (A.take k).filter (seeEV (u : Int))) := by unfold Hid; rw [HT.out, HSE.out, hp]; simp
          rw [hp] at ht
          simp only [Bool.false_eq_true, if_false] at ht
          clear hp HT HG HSE HS1
          generalize (A.take k).filter (seeEV (u : Int)) = F at *
          generalize A[k] = r at *
          obtain ⟨x1, x2, x3, x4, x5, x6, x7, x8, x9⟩ := r
          obtain ⟨c1, c2, c3, c4, c5, c6, c7, c8, c9⟩ := s1
          dsimp only at *
          go_wp2_with fail
          go_roundw
          case rel => exact ⟨k + 1, by omega, by go_num, by rw [HE.out], ⟨HB.out.os, HB.out.tape, HB.out.output, HB.out.size, HB.out.block⟩⟩
          case measure => simp [intOf]; omega
        · have HE : Hid ((A.take (k + 1)).filter (seeEV (u : Int)) = (A.take k).filter (seeEV (u : Int)) ++ [A[k]]) := by unfold Hid; rw [HT.out, HSE.out, hp]; rfl
          have HGT := HG.out (by rw [HSE.out]; exact hp)
          rw [hp] at ht
          simp only [if_true] at ht
          clear hp HT HG HSE
          generalize (A.take k).filter (seeEV (u : Int)) = F at *
          obtain ⟨hfl, hfe⟩ := List.getElem?_eq_some_iff.1 HGT
          have hfq : F.length < nql := by rw [HNQ.out]; exact hfl
          obtain ⟨b', off', rfl, hr'⟩ := (HQ6.out.later HB.out).2 (by omega)
          have s2 := RowOf.atEV hr' F.length hfl
          rw [hfe] at s2
          clear hfe HGT hr'
          generalize A[k] = r at *
          have HEL : Hid (((A.take (k + 1)).filter (seeEV (u : Int))).length = F.length + 1) := by unfold Hid; rw [HE.out]; simp
          clear HE
          generalize F.length = fl at *
          obtain ⟨x1, x2, x3, x4, x5, x6, x7, x8, x9⟩ := r
          obtain ⟨c1, c2, c3, c4, c5, c6, c7, c8, c9⟩ := s1
          obtain ⟨d1, d2, d3, d4, d5, d6, d7, d8, d9⟩ := s2
          dsimp only at *
          have hd5 : decide ((nql : Int) ≤ (fl : Int)) = false := by simp; omega
          go_wp2_with fail
          go_quiet (fail)
          go_wp2_with fail
          go_roundw
          case rel => exact ⟨k + 1, by omega, by go_num, by rw [HEL.out]; go_num, ⟨HB.out.os, HB.out.tape, HB.out.output, HB.out.size, HB.out.block⟩⟩
          case measure => simp [intOf]; omega
      · obtain rfl : k = n + m := by omega
        have HE : Hid (((A.take (n + m)).filter (seeEV (u : Int))).length = nql) := by unfold Hid; rw [HQE.out, HNQ.out]
        rw [HE.out]
        have hd6 : ((nql : Int) == (nql : Int)) = true := by simp
        go_wp2_with fail
        refine (Go.Proofs.Ytndijajaddkbhaa.awake30 _).mono ?_
        rintro e wE ⟨rfl, hBE⟩
        have HBE := Lib.hid (Below.next (Below.next HB6.out HB.out) hBE)
        go_wp2_with fail
        go_ret
        exact ⟨rfl, HBE.out⟩
  · have hd3 : decide ((0 : Int) < (m : Int)) = true := by simp; omega
    rw [HG3.out (by rw [HML.out]; omega)] at HGC
    go_wp2_with fail
    refine (HGC.out _ HI6.out (HL.out.later HB6.out)).mono ?_
    rintro e w7 ⟨rfl, hB7⟩
    have HB7 := Lib.hid (Below.next HB6.out hB7)
    have HI7 := Lib.hid (HI6.out.later hB7)
    have HQ7 := Lib.hid (HQ6.out.later hB7)
    clear hB7 HB6 HI6 HQ6
    have HB6 := HB7
    have HI6 := HI7
    have HQ6 := HQ7
    clear HB7 HI7 HQ7 HGC
    go_wp2_with fail
    clear hd3
    go_loopw [11, 12] (fun c i wr => ∃ k : Nat, k ≤ n + m ∧ i = .int .i64 k ∧ c = .int .i64 (((A.take k).filter (seeEV (u : Int))).length : Int) ∧ Below w7.heap.size w7 wr) (fun _ i _ => n + m - (intOf i).toNat)
    case atStart => exact ⟨0, Nat.zero_le _, rfl, rfl, Below.refl _ _⟩
    case round =>
      obtain ⟨k, hk, rfl, rfl, hB⟩ := hrel
      have HB := Lib.hid hB
      clear hB
      by_cases hlt : k < n + m
      · have hkl : k < A.length := by rw [HAL.out]; exact hlt
        have HT := Lib.hid (take_fEV (seeEV (u : Int)) A k hkl)
        have HG := Lib.hid (HGET.out k hkl)
        obtain ⟨b, off, rfl, hr⟩ := (HI6.out.later HB.out).2 (by omega)
        have s1 := RowOf.atEV hr k hkl
        have HS1 := Lib.hid s1
        have hml : ((A.take k).filter (seeEV (u : Int))).length ≤ k := Nat.le_trans (List.length_filter_le _ _) (by rw [List.length_take]; omega)
        clear hr
        have HSE : Hid (seeEV (u : Int) A[k] = A[k].tos.getLsbD u) := by
          unfold Hid seeEV hasB
          rw [vld_t (by omega), Bool.true_and, Int.toNat_natCast]
        have ht := tmod_bitn' A[k].tos u
        cases hp : A[k].tos.getLsbD u
        · have HE : Hid ((A.take (k + 1)).filter (seeEV (u : Int)) = (A.take k).filter (seeEV (u : Int))) := by unfold Hid; rw [HT.out, HSE.out, hp]; simp
          rw [hp] at ht
          simp only [Bool.false_eq_true, if_false] at ht
          clear hp HT HG HSE HS1
          generalize (A.take k).filter (seeEV (u : Int)) = F at *
          generalize A[k] = r at *
          obtain ⟨x1, x2, x3, x4, x5, x6, x7, x8, x9⟩ := r
          obtain ⟨c1, c2, c3, c4, c5, c6, c7, c8, c9⟩ := s1
          dsimp only at *
          go_wp2_with fail
          go_roundw
          case rel => exact ⟨k + 1, by omega, by go_num, by rw [HE.out], ⟨HB.out.os, HB.out.tape, HB.out.output, HB.out.size, HB.out.block⟩⟩
          case measure => simp [intOf]; omega
        · have HE : Hid ((A.take (k + 1)).filter (seeEV (u : Int)) = (A.take k).filter (seeEV (u : Int)) ++ [A[k]]) := by unfold Hid; rw [HT.out, HSE.out, hp]; rfl
          have HGT := HG.out (by rw [HSE.out]; exact hp)
          rw [hp] at ht
          simp only [if_true] at ht
          clear hp HT HG HSE
          generalize (A.take k).filter (seeEV (u : Int)) = F at *
          obtain ⟨hfl, hfe⟩ := List.getElem?_eq_some_iff.1 HGT
          have hfq : F.length < nql := by rw [HNQ.out]; exact hfl
          obtain ⟨b', off', rfl, hr'⟩ := (HQ6.out.later HB.out).2 (by omega)
          have s2 := RowOf.atEV hr' F.length hfl
          rw [hfe] at s2
          clear hfe HGT hr'
          generalize A[k] = r at *
          have HEL : Hid (((A.take (k + 1)).filter (seeEV (u : Int))).length = F.length + 1) := by unfold Hid; rw [HE.out]; simp
          clear HE
          generalize F.length = fl at *
          obtain ⟨x1, x2, x3, x4, x5, x6, x7, x8, x9⟩ := r
          obtain ⟨c1, c2, c3, c4, c5, c6, c7, c8, c9⟩ := s1
          obtain ⟨d1, d2, d3, d4, d5, d6, d7, d8, d9⟩ := s2
          dsimp only at *
          have hd5 : decide ((nql : Int) ≤ (fl : Int)) = false := by simp; omega
          go_wp2_with fail
          go_quiet (fail)
          go_wp2_with fail
          go_roundw
          case rel => exact ⟨k + 1, by omega, by go_num, by rw [HEL.out]; go_num, ⟨HB.out.os, HB.out.tape, HB.out.output, HB.out.size, HB.out.block⟩⟩
          case measure => simp [intOf]; omega
      · obtain rfl : k = n + m := by omega
        have HE : Hid (((A.take (n + m)).filter (seeEV (u : Int))).length = nql) := by unfold Hid; rw [HQE.out, HNQ.out]
        rw [HE.out]
        have hd6 : ((nql : Int) == (nql : Int)) = true := by simp
        go_wp2_with fail
        refine (Go.Proofs.Ytndijajaddkbhaa.awake30 _).mono ?_
        rintro e wE ⟨rfl, hBE⟩
        have HBE := Lib.hid (Below.next (Below.next HB6.out HB.out) hBE)
        go_wp2_with fail
        go_ret
        exact ⟨rfl, HBE.out⟩
theorem auditPrefix_law (x : Int) (a : Option Addr) (n cap : Nat) (L : List EV) (a' : Option Addr) (m cap' : Nat) (M : List EV) (w : World) (h : (Lit.int .u8 x).wf = true) (hL : IsEV w a n L) (hM : IsEV w a' m M) :
    Calls Try.prog 11 #[.int .u8 x, .slice a n cap, .slice a' m cap'] w fun e w' => e = .returned (.bool true) ∧ Below w.heap.size w w' := by
  obtain ⟨x8, rfl⟩ := u8_word h
  exact auditPrefix_any x8.toNat x8.isLt a n cap L a' m cap' M w hL hM
end Go.Proofs.Ytndijajaddkbhaa.Re
