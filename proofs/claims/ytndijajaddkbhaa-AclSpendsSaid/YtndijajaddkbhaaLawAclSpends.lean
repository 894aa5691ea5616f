/- The walk of the law. -/
import Derived.Test.YtndijajaddkbhaaAclT
import Derived.Test.YtndijajaddkbhaaClosed
namespace Go.Proofs.Ytndijajaddkbhaa.Re
open Go.RowKit AM
attribute [local simp] DepA isB rsAt
theorem beqI_f {a b : Int} (h : ¬ a = b) : (a == b) = false := by simpa using h
theorem beqW_f {a b : W64} (h : ¬ a = b) : ((a.toNat : Int) == (b.toNat : Int)) = false := beqI_f fun e => h (BitVec.eq_of_toNat_eq (Int.ofNat.inj e))
/-- Two rules are one, or differ in a field that is the first. -/
theorem rv_eq (r s : RV) : r = s ∨ ((r.c1 == s.c1) = false ∧ ¬ r = s) ∨ (r.c1 = s.c1 ∧ (r.r1 == s.r1) = false ∧ ¬ r = s) ∨ (r.c1 = s.c1 ∧ r.r1 = s.r1 ∧ (r.c2 == s.c2) = false ∧ ¬ r = s) ∨ (r.c1 = s.c1 ∧ r.r1 = s.r1 ∧ r.c2 = s.c2 ∧ (r.r2 == s.r2) = false ∧ ¬ r = s) ∨ (r.c1 = s.c1 ∧ r.r1 = s.r1 ∧ r.c2 = s.c2 ∧ r.r2 = s.r2 ∧ ((r.rd.toNat : Int) == (s.rd.toNat : Int)) = false ∧ ¬ r = s) ∨ (r.c1 = s.c1 ∧ r.r1 = s.r1 ∧ r.c2 = s.c2 ∧ r.r2 = s.r2 ∧ r.rd = s.rd ∧ ((r.wr.toNat : Int) == (s.wr.toNat : Int)) = false ∧ ¬ r = s) ∨ (r.c1 = s.c1 ∧ r.r1 = s.r1 ∧ r.c2 = s.c2 ∧ r.r2 = s.r2 ∧ r.rd = s.rd ∧ r.wr = s.wr ∧ ((r.ow.toNat : Int) == (s.ow.toNat : Int)) = false ∧ ¬ r = s) := by
  obtain ⟨x1, x2, x3, x4, x5, x6, x7⟩ := r
  obtain ⟨y1, y2, y3, y4, y5, y6, y7⟩ := s
  dsimp only
  by_cases h1 : x1 = y1
  rotate_left
  · exact .inr <| .inl ⟨beqI_f h1, fun e => h1 (by injection e)⟩
  subst h1
  by_cases h2 : x2 = y2
  rotate_left
  · exact .inr <| .inr <| .inl ⟨rfl, beqI_f h2, fun e => h2 (by injection e)⟩
  subst h2
  by_cases h3 : x3 = y3
  rotate_left
  · exact .inr <| .inr <| .inr <| .inl ⟨rfl, rfl, beqI_f h3, fun e => h3 (by injection e)⟩
  subst h3
  by_cases h4 : x4 = y4
  rotate_left
  · exact .inr <| .inr <| .inr <| .inr <| .inl ⟨rfl, rfl, rfl, beqI_f h4, fun e => h4 (by injection e)⟩
  subst h4
  by_cases h5 : x5 = y5
  rotate_left
  · exact .inr <| .inr <| .inr <| .inr <| .inr <| .inl ⟨rfl, rfl, rfl, rfl, beqW_f h5, fun e => h5 (by injection e)⟩
  subst h5
  by_cases h6 : x6 = y6
  rotate_left
  · exact .inr <| .inr <| .inr <| .inr <| .inr <| .inr <| .inl ⟨rfl, rfl, rfl, rfl, rfl, beqW_f h6, fun e => h6 (by injection e)⟩
  subst h6
  by_cases h7 : x7 = y7
  rotate_left
  · exact .inr <| .inr <| .inr <| .inr <| .inr <| .inr <| .inr <| ⟨rfl, rfl, rfl, rfl, rfl, rfl, beqW_f h7, fun e => h7 (by injection e)⟩
  subst h7
  exact .inl rfl
theorem rights3_same (a b c : W64) : Value.agg #[.int .u64 (a.toNat : Int), .int .u64 (b.toNat : Int), .int .u64 (c.toNat : Int)] = rightsV ⟨0, 0, 0, 0, a, b, c⟩ := rfl
set_option maxRecDepth 100000 in
set_option maxHeartbeats 12800000 in
theorem aclSpends_any (x5 x6 x7 : W64) (a : Option Addr) (len cap : Nat) (L : List RV) (a2 : Option Addr) (len2 cap2 : Nat) (K : List (Int × Int)) (w : World) (hm : len * 56 ≤ 140737488351232) (hL : IsL w a len L) (hK : IsOf cells2 2 w a2 len2 K) :
    Calls Try.prog 4 #[.agg #[.int .u64 (x5.toNat : Int), .int .u64 (x6.toNat : Int), .int .u64 (x7.toNat : Int)], .slice a len cap, .slice a2 len2 cap2] w fun e w' => e = .returned (.bool true) ∧ Below w.heap.size w w' := by
  have HL := Lib.hid hL
  have HLL := Lib.hid hL.1
  have HK := Lib.hid hK
  have HKL := Lib.hid hK.1
  clear hL hK
  have HB0 := Lib.hid (below_alloc w (.cells #[.int .u64 (x5.toNat : Int), .int .u64 (x6.toNat : Int), .int .u64 (x7.toNat : Int)] 33))
  have HBX := Lib.hid (Box3w.start w (x5.toNat : Int) (x6.toNat : Int) (x7.toNat : Int) 33)
  go_enter Try.func4, Try.ntmps4
  obtain ⟨_, t1, t2, t3⟩ := HBX.out
  go_wp2_with fail
  clear t1 t2 t3
  generalize w.alloc (.cells #[.int .u64 (x5.toNat : Int), .int .u64 (x6.toNat : Int), .int .u64 (x7.toNat : Int)] 33) = w0 at *
  have hm2 : (1 + len) * 56 ≤ 140737488355328 := by omega
  refine (whole_any x5 x6 x7 a len cap L hm2 _ (HL.out.later HB0.out)).mono ?_
  rintro e w1 ⟨⟨v, rfl, ho⟩, hB1⟩
  obtain ⟨aa, acap, rfl, hi⟩ := ho.isOf cells7_len
  have HCAP := Lib.hid (OwnOf.cap ho)
  have HB1 := Lib.hid (Below.next HB0.out hB1)
  have HI1 := Lib.hid hi
  clear ho hi hB1 HBX
  have HAL : Hid ((⟨1, 1, 1024, 1024, x5, x6, x7⟩ :: L : List RV).length = len + 1) := by unfold Hid; rw [List.length_cons, HLL.out]
  have HHD : Hid ((rck 64 (⟨1, 1, 1024, 1024, x5, x6, x7⟩ :: L)).2 = 0 → ∀ p q, okR p q = true → whE p q (⟨1, 1, 1024, 1024, x5, x6, x7⟩ :: L) = 0 ∧ whE p q (plainL (⟨1, 1, 1024, 1024, x5, x6, x7⟩ :: L)) = 0 ∧ atR p q (plainL (⟨1, 1, 1024, 1024, x5, x6, x7⟩ :: L)) = atR p q (⟨1, 1, 1024, 1024, x5, x6, x7⟩ :: L)) := by
    intro h p q ho
    refine atR_plainL ho h (rck_plainL h) fun r l e => ?_
    injection e with e1 e2
    subst e1
    exact rck_head h ho
  have HP0 : Hid ((plainL (⟨1, 1, 1024, 1024, x5, x6, x7⟩ :: L))[0]? = some ⟨1, 1, 1024, 1024, x5, x6, x7⟩) := plainL_head
  have HA0 : Hid ((⟨1, 1, 1024, 1024, x5, x6, x7⟩ :: L : List RV)[0]? = some ⟨1, 1, 1024, 1024, x5, x6, x7⟩) := rfl
  generalize (⟨1, 1, 1024, 1024, x5, x6, x7⟩ :: L : List RV) = A at *
  have HPL := Lib.hid (plainL_len A)
  have HPP : Hid ((rck 64 A).2 = 0 → (rck 64 (plainL A)).2 = 0) := fun h => rck_plainL h
  have HPS := Lib.hid (plainL_sub A)
  have HPW := Lib.hid (plainL_twice A)
  have HPOS : Hid (0 < A.length → 0 < (plainL A).length) := fun h => plainL_pos h
  rw [HAL.out] at HI1 HCAP ⊢
  go_wp2_with fail
  refine (scheck_big 64 aa (len + 1) acap A _ HI1.out).mono ?_
  rintro e w2 ⟨rfl, hB2⟩
  have HB2 := Lib.hid (Below.next HB1.out hB2)
  have HI2 := Lib.hid (HI1.out.later hB2)
  clear hB2 HI1 HB1
  unfold ckV
  by_cases hc : (rck 64 A).2 = 0
  rotate_left
  · generalize (rck 64 A).2 = c2 at *
    generalize (rck 64 A).1 = c1 at *
    have hc' : (c2 == 0) = false := by simpa using hc
    have hc'' : (c2 != 0) = true := by simpa using hc
    go_wp2_with fail
    go_ret
    exact ⟨rfl, HB2.out⟩
  have HC := Lib.hid hc
  have hal := rck_len hc
  generalize (rck 64 A).1 = c1 at *
  rw [hc]
  clear hc
  by_cases hl : 60 < len
  · go_wp2_with fail
    go_ret
    exact ⟨rfl, HB2.out⟩
  have hd1 : decide ((60 : Int) < (len : Int)) = false := by simp; omega
  by_cases hl2 : 60 < len2
  · go_wp2_with fail
    go_ret
    exact ⟨rfl, HB2.out⟩
  have hd2 : decide ((60 : Int) < (len2 : Int)) = false := by simp; omega
  go_wp2_with fail
  clear hd1 hd2
  refine (pplain_ok aa (len + 1) acap HCAP.out A _ HI2.out HC.out).mono ?_
  rintro e w3 ⟨⟨v, rfl, ho⟩, hB3⟩
  obtain ⟨pa, pc, rfl, hi⟩ := ho.isOf cells7_len
  have HPC := Lib.hid (OwnOf.cap ho)
  have HB3 := Lib.hid (Below.next HB2.out hB3)
  have HI3 := Lib.hid (HI2.out.later hB3)
  have HP3 := Lib.hid hi
  have hnp := HPOS.out hal.1
  have hnq := HPL.out
  clear ho hi hB3 HB2 HI2
  have HPV := Lib.hid (HPP.out HC.out)
  have HHD2 := Lib.hid (HHD.out HC.out)
  clear HHD
  rw [HAL.out] at hal hnq
  generalize hPeq : plainL A = P at *
  obtain ⟨np, hnpe⟩ : ∃ np, np = P.length := ⟨_, rfl⟩
  rw [← hnpe] at HPC HP3 hnp hnq ⊢
  have HNP := Lib.hid hnpe
  clear hnpe hPeq
  go_wp2_with fail
  refine (pplain_ok pa np pc HPC.out P _ HP3.out HPV.out).mono ?_
  rintro e w4 ⟨⟨v, rfl, ho⟩, hB4⟩
  rw [HPW.out] at ho
  obtain ⟨qa, qc, rfl, hi⟩ := ho.isOf cells7_len
  rw [← HNP.out] at hi ⊢
  have HB4 := Lib.hid (Below.next HB3.out hB4)
  have HI4 := Lib.hid (HI3.out.later hB4)
  have HP4 := Lib.hid (HP3.out.later hB4)
  have HQ4 := Lib.hid hi
  clear ho hi hB4 HB3 HI3 HP3
  obtain ⟨pb, po, rfl, hpr⟩ := HP4.out.2 (by omega)
  obtain ⟨ab, ao, rfl, har⟩ := HI4.out.2 (by omega)
  have hp0 := RowOf.seven hpr 0 (by rw [← HNP.out]; omega)
  have ha0 := RowOf.seven har 0 (by rw [HAL.out]; omega)
  rw [Nat.zero_mul, Nat.add_zero] at hp0 ha0
  have ep : P[0]'(by rw [← HNP.out]; omega) = ⟨1, 1, 1024, 1024, x5, x6, x7⟩ := by have := HP0.out; rw [List.getElem?_eq_getElem (by rw [← HNP.out]; omega)] at this; injection this
  have ea : A[0]'(by rw [HAL.out]; omega) = ⟨1, 1, 1024, 1024, x5, x6, x7⟩ := by have := HA0.out; rw [List.getElem?_eq_getElem (by rw [HAL.out]; omega)] at this; injection this
  rw [ep] at hp0
  rw [ea] at ha0
  have HPC0 : Hid (pb < w4.heap.size ∧ Seven w4 pb po ⟨1, 1, 1024, 1024, x5, x6, x7⟩) := ⟨hpr.1, hp0⟩
  have HAC0 : Hid (ab < w4.heap.size ∧ Seven w4 ab ao ⟨1, 1, 1024, 1024, x5, x6, x7⟩) := ⟨har.1, ha0⟩
  clear hpr har hp0 ha0 ep ea
  have HEQ := Lib.hid (fun W (h1 : IsL W (some ⟨pb, po, none⟩) np P) (h2 : IsL W qa np P) => eqrules_any (some ⟨pb, po, none⟩) qa np pc qc P (by omega) W h1 h2)
  have hn1 : ¬ ((np : Int) < 1) := by omega
  go_wp2_with fail
  refine wp_region_seqi (fun X => Below w4.heap.size w4 X) (fun W W2 hB h => Below.next h hB) (by kernel_rfl) (by kernel_rfl) (by kernel_rfl) (Below.refl _ _).drew ?_
  simp only [putsL, Act.put, List.setIfInBounds_toArray, List.set_cons_zero, List.set_cons_succ, Nat.zero_add, Nat.reduceAdd]
  refine seqi_run ?_ (fun vs W hD => (by first | rfl | (simp at hD; simp [Region.wanted, yielded, hD]))) (fun vs W hS hD => ?_) ?_
  rotate_left
  · obtain _ := hS; (try simp at hD); (try simp only [hD]); (first | (go_simp; done) | (go_simp; rfl))
  simp only [List.nil_append]
  refine seqi_run ?_ (fun vs W hD => (by first | rfl | (simp at hD; simp [Region.wanted, yielded, hD]))) (fun vs W hS hD => ?_) ?_
  rotate_left
  · obtain _ := hS; (try simp at hD); (try simp only [hD]); (first | (go_simp; done) | (go_simp; rfl))
  simp only [List.nil_append, List.cons_append]
  refine seqi_run ?_ (fun vs W hD => (by first | rfl | (simp at hD; simp [Region.wanted, yielded, hD]))) (fun vs W hS hD => ?_) ?_
  rotate_left
  · obtain _ := hS; (try simp at hD); (try simp only [hD]); (first | (go_simp; done) | (go_simp; rfl))
  simp only [List.nil_append, List.cons_append]
  refine seqi_run ?_ (fun vs W hD => (by first | rfl | (simp at hD; simp [Region.wanted, yielded, hD]))) (fun vs W hS hD => ?_) ?_
  rotate_left
  · obtain _ := hS; (try simp at hD); (try simp only [hD]); (first | (go_simp; done) | (go_simp; rfl))
  simp only [List.nil_append, List.cons_append]
  refine seqi_run ?_ (fun vs W hD => (by first | rfl | (simp at hD; simp [Region.wanted, yielded, hD]))) (fun vs W hS hD => ?_) ?_
  rotate_left
  · obtain _ := hS; (try simp at hD); (try simp only [hD]); (first | (go_simp; done) | (go_simp; rfl))
  simp only [List.nil_append, List.cons_append]
  refine seqi_run ?_ (fun vs W hD => (by first | rfl | (simp at hD; simp [Region.wanted, yielded, hD]))) (fun vs W hS hD => ?_) ?_
  rotate_left
  · obtain _ := hS; (try simp at hD); (try simp only [hD]); (first | (go_simp; done) | (go_simp; rfl))
  simp only [List.nil_append, List.cons_append]
  refine seqi_run ?_ (fun vs W hD => (by first | rfl | (simp at hD; simp [Region.wanted, yielded, hD]))) (fun vs W hS hD => ?_) ?_
  rotate_left
  · obtain _ := hS; (try simp at hD); (try simp only [hD]); (first | (go_simp; done) | (go_simp; rfl))
  simp only [List.nil_append, List.cons_append]
  refine seqi_run ?_ (fun vs W hD => (by first | rfl | (simp at hD; simp [Region.wanted, yielded, hD]))) (fun vs W hS hD => ?_) ?_
  rotate_left
  · obtain _ := hS; (try simp at hD); (try simp only [hD]); (first | (go_simp; done) | (go_simp; rfl))
  simp only [List.nil_append, List.cons_append]
  refine seqi_run ?_ (fun vs W hD => (by first | rfl | (simp at hD; simp [Region.wanted, yielded, hD]))) (fun vs W hS hD => ?_) ?_
  rotate_left
  · obtain _ := hS; (try simp at hD); (try simp only [hD]); (first | (go_simp; done) | (go_simp; rfl))
  simp only [List.nil_append, List.cons_append]
  refine seqi_run (.bool false) (fun vs W hD => (by first | rfl | (simp at hD; simp [Region.wanted, yielded, hD]))) (fun vs W hS hD => ?_) ?_
  · obtain _ := hS; (try simp at hD); (try simp only [hD]); (first | (go_simp; done) | (go_simp; rfl))
  simp only [List.nil_append, List.cons_append]
  refine seqi_run ?_ (fun vs W hD => (by first | rfl | (simp at hD; simp [Region.wanted, yielded, hD]))) (fun vs W hS hD => ?_) ?_
  rotate_left
  · obtain _ := hS; (try simp at hD); (try simp only [hD]); (first | (go_simp; done) | (go_simp; rfl))
  simp only [List.nil_append, List.cons_append]
  refine seqi_run ?_ (fun vs W hD => (by first | rfl | (simp at hD; simp [Region.wanted, yielded, hD]))) (fun vs W hS hD => ?_) ?_
  rotate_left
  · obtain _ := hS; (try simp at hD); (try simp only [hD]); (first | (go_simp; done) | (go_simp; rfl))
  simp only [List.nil_append, List.cons_append]
  refine seqi_run ?_ (fun vs W hD => (by first | rfl | (simp at hD; simp [Region.wanted, yielded, hD]))) (fun vs W hS hD => ?_) ?_
  rotate_left
  · obtain _ := hS; (try simp at hD); (try simp only [hD]); (first | (go_simp; done) | (go_simp; rfl))
  simp only [List.nil_append, List.cons_append]
  refine seqi_run ?_ (fun vs W hD => (by first | rfl | (simp at hD; simp [Region.wanted, yielded, hD]))) (fun vs W hS hD => ?_) ?_
  rotate_left
  · obtain _ := hS; (try simp at hD); (try simp only [hD]); (first | (go_simp; done) | (go_simp; rfl))
  simp only [List.nil_append, List.cons_append]
  refine seqi_run ?_ (fun vs W hD => (by first | rfl | (simp at hD; simp [Region.wanted, yielded, hD]))) (fun vs W hS hD => ?_) ?_
  rotate_left
  · obtain ⟨hb9, d1, d2, d3, d4, d5, d6, d7⟩ := HPC0.out; have hq9 := (bcell hS).1; rw [← hq9 _ _ hb9] at d1 d2 d3 d4 d5 d6 d7; dsimp only at d1 d2 d3 d4 d5 d6 d7; obtain _ := hS; (try simp at hD); (try simp only [hD]); (first | (go_simp; done) | (go_simp; rfl))
  simp only [List.nil_append, List.cons_append]
  refine seqi_run ?_ (fun vs W hD => (by first | rfl | (simp at hD; simp [Region.wanted, yielded, hD]))) (fun vs W hS hD => ?_) ?_
  rotate_left
  · obtain _ := hS; (try simp at hD); (try simp only [hD]); (first | (go_simp; done) | (go_simp; rfl))
  simp only [List.nil_append, List.cons_append]
  refine seqi_run ?_ (fun vs W hD => (by first | rfl | (simp at hD; simp [Region.wanted, yielded, hD]))) (fun vs W hS hD => ?_) ?_
  rotate_left
  · obtain _ := hS; (try simp at hD); (try simp only [hD]); (first | (go_simp; done) | (go_simp; rfl))
  simp only [List.nil_append, List.cons_append]
  refine seqi_run ?_ (fun vs W hD => (by first | rfl | (simp at hD; simp [Region.wanted, yielded, hD]))) (fun vs W hS hD => ?_) ?_
  rotate_left
  · obtain ⟨hb9, d1, d2, d3, d4, d5, d6, d7⟩ := HAC0.out; have hq9 := (bcell hS).1; rw [← hq9 _ _ hb9] at d1 d2 d3 d4 d5 d6 d7; dsimp only at d1 d2 d3 d4 d5 d6 d7; obtain _ := hS; (try simp at hD); (try simp only [hD]); (first | (go_simp; done) | (go_simp; rfl))
  simp only [List.nil_append, List.cons_append]
  refine seqi_run ?_ (fun vs W hD => (by first | rfl | (simp at hD; simp [Region.wanted, yielded, hD]))) (fun vs W hS hD => ?_) ?_
  rotate_left
  · obtain _ := hS; (try simp at hD); (try simp only [hD]); (first | (go_simp; done) | (go_simp; rfl))
  simp only [List.nil_append, List.cons_append]
  refine seqi_run ?_ (fun vs W hD => (by first | rfl | (simp at hD; simp [Region.wanted, yielded, hD]))) (fun vs W hS hD => ?_) ?_
  rotate_left
  · obtain _ := hS; (try simp at hD); (try simp only [hD]); (first | (go_simp; done) | (go_simp; rfl))
  simp only [List.nil_append, List.cons_append]
  refine seqi_run ?_ (fun vs W hD => (by first | rfl | (simp at hD; simp [Region.wanted, yielded, hD]))) (fun vs W hS hD => ?_) ?_
  rotate_left
  · obtain _ := hS; (try simp at hD); (try simp only [hD]); (first | (go_simp; done) | (go_simp; rfl))
  simp only [List.nil_append, List.cons_append]
  refine seqi_run ?_ (fun vs W hD => (by first | rfl | (simp at hD; simp [Region.wanted, yielded, hD]))) (fun vs W hS hD => ?_) ?_
  rotate_left
  · obtain _ := hS; (try simp at hD); (try simp only [hD]); (first | (go_simp; done) | (go_simp; rfl))
  simp only [List.nil_append, List.cons_append]
  refine seqi_run ?_ (fun vs W hD => (by first | rfl | (simp at hD; simp [Region.wanted, yielded, hD]))) (fun vs W hS hD => ?_) ?_
  rotate_left
  · obtain _ := hS; (try simp at hD); (try simp only [hD]); (first | (go_simp; done) | (go_simp; rfl))
  simp only [List.nil_append, List.cons_append]
  refine seqi_call (f := 16) (fun v _ => v = (.bool true)) (stable_val _) (fun vs => #[.slice (some ⟨pb, po, none⟩) np pc, .slice qa np qc]) (fun vs W hD => (by first | rfl | (simp at hD; simp [Region.wanted, yielded, hD]))) (fun vs W hS hD => ?_) (fun vs W hS hD => ?_) ?_
  · obtain _ := hS; (try simp at hD); (try simp only [hD]); go_simp; done
  · exact (HEQ.out W (HP4.out.later hS) (HQ4.out.later hS)).mono fun e W' ⟨he, hB⟩ => ⟨⟨_, he, rfl⟩, hB⟩
  simp only [List.nil_append, List.cons_append]
  refine seqi_run ?_ (fun vs W hD => (by first | rfl | (simp at hD; simp [Region.wanted, yielded, hD]))) (fun vs W hS hD => ?_) ?_
  rotate_left
  · obtain _ := hS; (try simp at hD); (try simp only [hD]); (first | (go_simp; done) | (go_simp; rfl))
  simp only [List.nil_append, List.cons_append]
  refine seqi_run ?_ (fun vs W hD => (by first | rfl | (simp at hD; simp [Region.wanted, yielded, hD]))) (fun vs W hS hD => ?_) ?_
  rotate_left
  · obtain _ := hS; (try simp at hD); (try simp only [hD]); (first | (go_simp; done) | (go_simp; rfl))
  simp only [List.nil_append, List.cons_append]
  refine seqi_end fun vs W0 hS hv => ?_
  simp only [AllF, Nat.zero_add, Nat.reduceAdd] at hv
  obtain ⟨h0, h1, h2, h3, h4, h5, h6, h7, h8, h9, h10, h11, h12, h13, h14, h15, h16, h17, h18, h19, h20, h21, h22, h23, h24, h25, _⟩ := hv
  have HB5 := Lib.hid (Below.next HB4.out hS)
  have HI5 := Lib.hid (HI4.out.later hS)
  have HP5 := Lib.hid (HP4.out.later hS)
  simp only [h0, h1, h2, h3, h4, h5, h6, h7, h8, h9, h10, h11, h12, h13, h14, h15, h16, h17, h18, h19, h20, h21, h22, h23, h24, h25]
  clear h0 h1 h2 h3 h4 h5 h6 h7 h8 h9 h10 h11 h12 h13 h14 h15 h16 h17 h18 h19 h20 h21 h22 h23 h24 h25 hS HI4 HP4 HB4 HQ4 HEQ HPC0 HAC0
  go_wp2_with fail
  go_loopw [14, 15] (fun v i wr => ∃ k j : Nat, k ≤ len + 1 ∧ j ≤ np ∧ i = .int .i64 k ∧ v = .int .i64 j ∧ Hid ((P.drop j).Sublist (A.drop k)) ∧ Below w.heap.size w wr ∧ IsL wr (some ⟨ab, ao, none⟩) (len + 1) A ∧ IsL wr (some ⟨pb, po, none⟩) np P) (fun _ i _ => len + 1 - (intOf i).toNat)
  case atStart => exact ⟨0, 0, Nat.zero_le _, Nat.zero_le _, rfl, rfl, HPS.out, HB5.out, HI5.out, HP5.out⟩
  case round =>
    obtain ⟨k, j, hk, hj, rfl, rfl, HSB, hB, hI, hP⟩ := hrel
    have HBr := Lib.hid hB
    have HIr := Lib.hid hI
    have HPr := Lib.hid hP
    clear hB hI hP HI5 HP5 HB5
    by_cases hcond : k < len + 1 ∧ j < np
    · obtain ⟨hk1, hj1⟩ := hcond
      have hkl : k < A.length := by rw [HAL.out]; exact hk1
      have hjl : j < P.length := by rw [← HNP.out]; exact hj1
      obtain ⟨b1, o1, he1, hr1⟩ := HIr.out.2 (by omega)
      obtain ⟨b2, o2, he2, hr2⟩ := HPr.out.2 (by omega)
      injection he1 with he1
      injection he1 with e1 e2 _
      injection he2 with he2
      injection he2 with e3 e4 _
      subst e1 e2 e3 e4
      have s1 := RowOf.seven hr1 k hkl
      have s2 := RowOf.seven hr2 j hjl
      have hEQ : A[k] = P[j] → (P.drop (j + 1)).Sublist (A.drop (k + 1)) := fun e => by
        have h := HSB.out
        rw [List.drop_eq_getElem_cons hjl, List.drop_eq_getElem_cons hkl, e] at h
        exact scan_eq h
      have hNE : ¬ A[k] = P[j] → (P.drop j).Sublist (A.drop (k + 1)) := fun e => by
        have h := HSB.out
        rw [List.drop_eq_getElem_cons hjl, List.drop_eq_getElem_cons hkl] at h
        rw [List.drop_eq_getElem_cons hjl]
        exact scan_ne e h
      have HEQ := Lib.hid hEQ
      have HNE := Lib.hid hNE
      clear hEQ hNE hr1 hr2
      have hq := rv_eq A[k] P[j]
      generalize A[k] = r at *
      generalize P[j] = s at *
      rcases hq with rfl | hq
      · have HZ := Lib.hid (HEQ.out rfl)
        clear HEQ HNE HSB
        obtain ⟨y1, y2, y3, y4, y5, y6, y7⟩ := r
        obtain ⟨c1', c2', c3', c4', c5', c6', c7'⟩ := s1
        obtain ⟨d1, d2, d3, d4, d5, d6, d7⟩ := s2
        dsimp only at *
        go_wp2_with fail
        go_quiet (fail)
        go_wp2_with fail
        go_roundw
        case rel => exact ⟨k + 1, j + 1, by omega, by omega, by go_num, by go_num, HZ.out, ⟨HBr.out.os, HBr.out.tape, HBr.out.output, HBr.out.size, HBr.out.block⟩, HIr.out, HPr.out⟩
        case measure => simp [intOf]; omega
      · have hne : ¬ r = s := by
          rcases hq with ⟨_, h⟩ | ⟨_, _, h⟩ | ⟨_, _, _, h⟩ | ⟨_, _, _, _, h⟩ | ⟨_, _, _, _, _, h⟩ | ⟨_, _, _, _, _, _, h⟩ | ⟨_, _, _, _, _, _, _, h⟩ <;> exact h
        have HZ := Lib.hid (HNE.out hne)
        clear HEQ HNE HSB hne
        obtain ⟨y1, y2, y3, y4, y5, y6, y7⟩ := r
        obtain ⟨z1, z2, z3, z4, z5, z6, z7⟩ := s
        obtain ⟨c1', c2', c3', c4', c5', c6', c7'⟩ := s1
        obtain ⟨d1, d2, d3, d4, d5, d6, d7⟩ := s2
        dsimp only at *
        rcases hq with ⟨q1, _⟩ | ⟨rfl, q1, _⟩ | ⟨rfl, rfl, q1, _⟩ | ⟨rfl, rfl, rfl, q1, _⟩ | ⟨rfl, rfl, rfl, rfl, q1, _⟩ | ⟨rfl, rfl, rfl, rfl, rfl, q1, _⟩ | ⟨rfl, rfl, rfl, rfl, rfl, rfl, q1, _⟩
        all_goals
          go_wp2_with fail
          go_quiet (fail)
          go_wp2_with fail
          go_roundw
          case rel => exact ⟨k + 1, j, by omega, by omega, by go_num, rfl, HZ.out, ⟨HBr.out.os, HBr.out.tape, HBr.out.output, HBr.out.size, HBr.out.block⟩, HIr.out, HPr.out⟩
          case measure => simp [intOf]; omega
    · have HJ : Hid (j = np) := by
        by_cases h1 : j < np
        · have hk2 : k = len + 1 := by omega
          have h := HSB.out.length_le
          rw [List.length_drop, List.length_drop, HAL.out, ← HNP.out] at h
          unfold Hid; omega
        · unfold Hid; omega
      obtain rfl := HJ.out
      generalize wr = wb at *
      by_cases hk1 : k < len + 1
      · go_wp2_with fail
        go_loopw [16] (fun i wr => ∃ m : Nat, m ≤ len2 ∧ i = .int .i64 m ∧ Below w.heap.size w wr ∧ IsL wr (some ⟨ab, ao, none⟩) (len + 1) A ∧ IsL wr (some ⟨pb, po, none⟩) j P) (fun i _ => len2 - (intOf i).toNat)
        case atStart => exact ⟨0, Nat.zero_le _, rfl, HBr.out, HIr.out, HPr.out⟩
        case round =>
          obtain ⟨m, hm, rfl, hB, hI, hP⟩ := hrel
          have HBs := Lib.hid hB
          have HIs := Lib.hid hI
          have HPs := Lib.hid hP
          clear hB hI hP HBr HIr HPr
          by_cases hlt : m < len2
          · have hml : m < K.length := by rw [HKL.out]; exact hlt
            obtain ⟨kb, ko, rfl, hkr⟩ := (HK.out.later HBs.out).2 (by omega)
            have HKR := Lib.hid hkr
            have k1 := hkr.2 m hml 0 _ rfl
            have k2 := hkr.2 m hml 1 _ rfl
            rw [Nat.add_zero] at k1
            have HH := Lib.hid (HHD2.out K[m].1 K[m].2)
            have HKP : Hid (∀ W, Below wr.heap.size wr W → W.cell? ⟨kb, ko + m * 2, none⟩ = some (.int .i64 K[m].1) ∧ W.cell? ⟨kb, ko + m * 2 + 1, none⟩ = some (.int .i64 K[m].2)) := by
              intro W hB
              have := hkr.later hB
              have h1 := this.2 m hml 0 _ rfl
              have h2 := this.2 m hml 1 _ rfl
              rw [Nat.add_zero] at h1
              exact ⟨h1, h2⟩
            clear hkr HKR
            generalize K[m] = kk at *
            obtain ⟨p, q⟩ := kk
            dsimp only at *
            go_wp2_with fail
            refine (saddress_any p q _).mono ?_
            rintro e w6 ⟨rfl, hB6⟩
            have HW6 := Lib.hid hB6
            have HB6 := Lib.hid (Below.next HBs.out hB6)
            have HI6 := Lib.hid (HIs.out.later hB6)
            have HP6 := Lib.hid (HPs.out.later hB6)
            obtain ⟨l1, l2⟩ := HKP.out w6 hB6
            clear hB6 k1 k2 HBs HIs HPs
            cases hok : okR p q
            · clear l1 l2 hok HH
              go_wp2_with fail
              go_roundw
              case rel => exact ⟨m + 1, by omega, by go_num, HB6.out, HI6.out, HP6.out⟩
              case measure => simp [intOf]; omega
            · obtain ⟨e1, e2, e3⟩ := HH.out hok
              have E1 := Lib.hid e1
              have E2 := Lib.hid e2
              have E3 := Lib.hid e3
              clear e1 e2 e3 hok HH
              go_wp2_with fail
              refine (aat_any p q (some ⟨ab, ao, none⟩) (len + 1) acap A (by omega) _ HI6.out).mono ?_
              rintro e w7 ⟨rfl, hB7⟩
              have HW7 := Lib.hid (Below.next HW6.out hB7)
              have HB7 := Lib.hid (Below.next HB6.out hB7)
              have HI7 := Lib.hid (HI6.out.later hB7)
              have HP7 := Lib.hid (HP6.out.later hB7)
              clear hB7 HW6 HB6 HI6 HP6 l1 l2
              have HAT := Lib.hid (fun W h => aat_any p q (some ⟨pb, po, none⟩) j pc P (by omega) W h)
              rw [E3.out, E2.out] at HAT
              rw [E1.out]
              unfold rightsV at HAT ⊢
              generalize atR p q A = rr at *
              obtain ⟨_, _, _, _, u5, u6, u7⟩ := rr
              dsimp only at *
              have HBA := Lib.hid (below_alloc w7 (.cells #[.int .u64 (u5.toNat : Int), .int .u64 (u6.toNat : Int), .int .u64 (u7.toNat : Int)] 33))
              have HX8 := Lib.hid (Box3w.start w7 (u5.toNat : Int) (u6.toNat : Int) (u7.toNat : Int) 33)
              obtain ⟨l1, l2⟩ := HKP.out _ (Below.next HW7.out HBA.out)
              go_wp2_with fail
              clear l1 l2
              generalize w7.alloc (.cells #[.int .u64 (u5.toNat : Int), .int .u64 (u6.toNat : Int), .int .u64 (u7.toNat : Int)] 33) = w8 at *
              refine (HAT.out _ (HP7.out.later HBA.out)).mono ?_
              rintro e w9 ⟨rfl, hB9⟩
              have HB9 := Lib.hid (Below.next (Below.next HB7.out HBA.out) hB9)
              have HI9 := Lib.hid ((HI7.out.later HBA.out).later hB9)
              have HP9 := Lib.hid ((HP7.out.later HBA.out).later hB9)
              have HX9 := Lib.hid (HX8.out.later hB9)
              clear hB9 HB7 HI7 HP7 HX8 HAT HW7 HBA
              have HBB := Lib.hid (below_alloc w9 (.cells #[.int .u64 (u5.toNat : Int), .int .u64 (u6.toNat : Int), .int .u64 (u7.toNat : Int)] 33))
              obtain ⟨_, g1, g2, g3⟩ := HX9.out.later HBB.out
              obtain ⟨_, g4, g5, g6⟩ := Box3w.start w9 (u5.toNat : Int) (u6.toNat : Int) (u7.toNat : Int) 33
              go_wp2_with fail
              clear g1 g2 g3 g4 g5 g6
              go_roundw
              case rel => exact ⟨m + 1, by omega, by go_num, Below.next HB9.out HBB.out, HI9.out.later HBB.out, HP9.out.later HBB.out⟩
              case measure => simp [intOf]; omega
          · obtain rfl : m = len2 := by omega
            go_wp2_with fail
            refine (Go.Proofs.Ytndijajaddkbhaa.example19 _).mono ?_
            rintro e wE ⟨rfl, hBE⟩
            have HBE := Lib.hid (Below.next HBs.out hBE)
            go_wp2_with fail
            go_ret
            exact ⟨rfl, HBE.out⟩
      · obtain rfl : k = len + 1 := by omega
        go_wp2_with fail
        go_loopw [16] (fun i wr => ∃ m : Nat, m ≤ len2 ∧ i = .int .i64 m ∧ Below w.heap.size w wr ∧ IsL wr (some ⟨ab, ao, none⟩) (len + 1) A ∧ IsL wr (some ⟨pb, po, none⟩) j P) (fun i _ => len2 - (intOf i).toNat)
        case atStart => exact ⟨0, Nat.zero_le _, rfl, HBr.out, HIr.out, HPr.out⟩
        case round =>
          obtain ⟨m, hm, rfl, hB, hI, hP⟩ := hrel
          have HBs := Lib.hid hB
          have HIs := Lib.hid hI
          have HPs := Lib.hid hP
          clear hB hI hP HBr HIr HPr
          by_cases hlt : m < len2
          · have hml : m < K.length := by rw [HKL.out]; exact hlt
            obtain ⟨kb, ko, rfl, hkr⟩ := (HK.out.later HBs.out).2 (by omega)
            have HKR := Lib.hid hkr
            have k1 := hkr.2 m hml 0 _ rfl
            have k2 := hkr.2 m hml 1 _ rfl
            rw [Nat.add_zero] at k1
            have HH := Lib.hid (HHD2.out K[m].1 K[m].2)
            have HKP : Hid (∀ W, Below wr.heap.size wr W → W.cell? ⟨kb, ko + m * 2, none⟩ = some (.int .i64 K[m].1) ∧ W.cell? ⟨kb, ko + m * 2 + 1, none⟩ = some (.int .i64 K[m].2)) := by
              intro W hB
              have := hkr.later hB
              have h1 := this.2 m hml 0 _ rfl
              have h2 := this.2 m hml 1 _ rfl
              rw [Nat.add_zero] at h1
              exact ⟨h1, h2⟩
            clear hkr HKR
            generalize K[m] = kk at *
            obtain ⟨p, q⟩ := kk
            dsimp only at *
            go_wp2_with fail
            refine (saddress_any p q _).mono ?_
            rintro e w6 ⟨rfl, hB6⟩
            have HW6 := Lib.hid hB6
            have HB6 := Lib.hid (Below.next HBs.out hB6)
            have HI6 := Lib.hid (HIs.out.later hB6)
            have HP6 := Lib.hid (HPs.out.later hB6)
            obtain ⟨l1, l2⟩ := HKP.out w6 hB6
            clear hB6 k1 k2 HBs HIs HPs
            cases hok : okR p q
            · clear l1 l2 hok HH
              go_wp2_with fail
              go_roundw
              case rel => exact ⟨m + 1, by omega, by go_num, HB6.out, HI6.out, HP6.out⟩
              case measure => simp [intOf]; omega
            · obtain ⟨e1, e2, e3⟩ := HH.out hok
              have E1 := Lib.hid e1
              have E2 := Lib.hid e2
              have E3 := Lib.hid e3
              clear e1 e2 e3 hok HH
              go_wp2_with fail
              refine (aat_any p q (some ⟨ab, ao, none⟩) (len + 1) acap A (by omega) _ HI6.out).mono ?_
              rintro e w7 ⟨rfl, hB7⟩
              have HW7 := Lib.hid (Below.next HW6.out hB7)
              have HB7 := Lib.hid (Below.next HB6.out hB7)
              have HI7 := Lib.hid (HI6.out.later hB7)
              have HP7 := Lib.hid (HP6.out.later hB7)
              clear hB7 HW6 HB6 HI6 HP6 l1 l2
              have HAT := Lib.hid (fun W h => aat_any p q (some ⟨pb, po, none⟩) j pc P (by omega) W h)
              rw [E3.out, E2.out] at HAT
              rw [E1.out]
              unfold rightsV at HAT ⊢
              generalize atR p q A = rr at *
              obtain ⟨_, _, _, _, u5, u6, u7⟩ := rr
              dsimp only at *
              have HBA := Lib.hid (below_alloc w7 (.cells #[.int .u64 (u5.toNat : Int), .int .u64 (u6.toNat : Int), .int .u64 (u7.toNat : Int)] 33))
              have HX8 := Lib.hid (Box3w.start w7 (u5.toNat : Int) (u6.toNat : Int) (u7.toNat : Int) 33)
              obtain ⟨l1, l2⟩ := HKP.out _ (Below.next HW7.out HBA.out)
              go_wp2_with fail
              clear l1 l2
              generalize w7.alloc (.cells #[.int .u64 (u5.toNat : Int), .int .u64 (u6.toNat : Int), .int .u64 (u7.toNat : Int)] 33) = w8 at *
              refine (HAT.out _ (HP7.out.later HBA.out)).mono ?_
              rintro e w9 ⟨rfl, hB9⟩
              have HB9 := Lib.hid (Below.next (Below.next HB7.out HBA.out) hB9)
              have HI9 := Lib.hid ((HI7.out.later HBA.out).later hB9)
              have HP9 := Lib.hid ((HP7.out.later HBA.out).later hB9)
              have HX9 := Lib.hid (HX8.out.later hB9)
              clear hB9 HB7 HI7 HP7 HX8 HAT HW7 HBA
              have HBB := Lib.hid (below_alloc w9 (.cells #[.int .u64 (u5.toNat : Int), .int .u64 (u6.toNat : Int), .int .u64 (u7.toNat : Int)] 33))
              obtain ⟨_, g1, g2, g3⟩ := HX9.out.later HBB.out
              obtain ⟨_, g4, g5, g6⟩ := Box3w.start w9 (u5.toNat : Int) (u6.toNat : Int) (u7.toNat : Int) 33
              go_wp2_with fail
              clear g1 g2 g3 g4 g5 g6
              go_roundw
              case rel => exact ⟨m + 1, by omega, by go_num, Below.next HB9.out HBB.out, HI9.out.later HBB.out, HP9.out.later HBB.out⟩
              case measure => simp [intOf]; omega
          · obtain rfl : m = len2 := by omega
            go_wp2_with fail
            refine (Go.Proofs.Ytndijajaddkbhaa.example19 _).mono ?_
            rintro e wE ⟨rfl, hBE⟩
            have HBE := Lib.hid (Below.next HBs.out hBE)
            go_wp2_with fail
            go_ret
            exact ⟨rfl, HBE.out⟩
theorem aclSpends_law (a1 a2 a3 : Int) (a : Option Addr) (len cap : Nat) (L : List RV) (b : Option Addr) (len2 cap2 : Nat) (K : List (Int × Int)) (w : World) (h1 : (Lit.int .u64 a1).wf = true) (h2 : (Lit.int .u64 a2).wf = true) (h3 : (Lit.int .u64 a3).wf = true) (hL : IsL w a len L) (hm : len * 56 ≤ 140737488351232) (hK : IsOf cells2 2 w b len2 K) :
    Calls Try.prog 4 #[.agg #[.int .u64 a1, .int .u64 a2, .int .u64 a3], .slice a len cap, .slice b len2 cap2] w fun e w' => e = .returned (.bool true) ∧ Below w.heap.size w w' := by
  obtain ⟨x5, rfl⟩ := u64_word h1
  obtain ⟨x6, rfl⟩ := u64_word h2
  obtain ⟨x7, rfl⟩ := u64_word h3
  exact aclSpends_any x5 x6 x7 a len cap L b len2 cap2 K w hm hL hK
end Go.Proofs.Ytndijajaddkbhaa.Re
