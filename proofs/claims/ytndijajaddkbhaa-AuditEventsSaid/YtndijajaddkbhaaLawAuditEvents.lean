/- The walk of the law. -/
import Derived.Test.YtndijajaddkbhaaEvH
import Derived.Test.YtndijajaddkbhaaCameOp
namespace Go.Proofs.Ytndijajaddkbhaa.Re
open Go.RowKit AM
set_option linter.unusedVariables false
set_option linter.unusedSimpArgs false
theorem grown9 (w : World) (g : Nat) (v0 v1 v2 v3 v4 v5 v6 v7 v8 : Value) : w.grownBy (((((((((w.setCell ⟨g, 0, none⟩ v0).setCell ⟨g, 1, none⟩ v1).setCell ⟨g, 2, none⟩ v2).setCell ⟨g, 3, none⟩ v3).setCell ⟨g, 4, none⟩ v4).setCell ⟨g, 5, none⟩ v5).setCell ⟨g, 6, none⟩ v6).setCell ⟨g, 7, none⟩ v7).setCell ⟨g, 8, none⟩ v8) (some g) := by
  refine ⟨by simp only [World.setCell], by simp only [World.setCell], by simp only [World.setCell], by simp [World.setCell], fun k hk hne => ?_⟩
  have : k ≠ g := fun e => hne (by rw [e])
  rw [Below.heap_setCell _ _ _ _ this, Below.heap_setCell _ _ _ _ this, Below.heap_setCell _ _ _ _ this, Below.heap_setCell _ _ _ _ this, Below.heap_setCell _ _ _ _ this, Below.heap_setCell _ _ _ _ this, Below.heap_setCell _ _ _ _ this, Below.heap_setCell _ _ _ _ this, Below.heap_setCell _ _ _ _ this]
theorem BoxEV.heap {X : World} {q : Nat} {y1 y2 : Int} {y3 : BitVec 8} {y4 y5 y6 y7 : Int} {y8 : Bool} {y9 : BitVec 64} {t : TypeId} (h : X.heap[q]? = some (.cells #[.int .i64 y1, .int .i64 y2, .int .u8 (y3.toNat : Int), .int .i64 y4, .int .i64 y5, .int .i64 y6, .int .i64 y7, .bool y8, .int .u64 (y9.toNat : Int)] t)) : BoxEV X q ⟨y1, y2, y3, y4, y5, y6, y7, y8, y9⟩ :=
  ⟨(Array.getElem?_eq_some_iff.1 h).1, by simp [World.cell?, h], by simp [World.cell?, h], by simp [World.cell?, h], by simp [World.cell?, h], by simp [World.cell?, h], by simp [World.cell?, h], by simp [World.cell?, h], by simp [World.cell?, h], by simp [World.cell?, h]⟩
set_option maxRecDepth 100000 in
set_option maxHeartbeats 12800000 in
theorem auditEvents_any (step : Int) (g : OP) (done : Bool) (a : Option Addr) (len cap : Nat) (L : List RV) (a' : Option Addr) (len' cap' : Nat) (G : List GV) (w : World) (hL : IsL w a len L) (hG : IsG w a' len' G) :
    Calls Try.prog 10 #[.int .i64 step, .agg (cellsOP g).toArray, .bool done, .slice a len cap, .slice a' len' cap'] w fun e w' => e = .returned (.bool true) ∧ Below w.heap.size w w' := by
  have HL := Lib.hid hL
  have HLL := Lib.hid hL.1
  have HG := Lib.hid hG
  have HGL := Lib.hid hG.1
  clear hL hG
  have HX0 := Lib.hid (BoxOP.start w g 91)
  have HB0 := Lib.hid (below_alloc w (.cells (cellsOP g).toArray 91))
  have HCQ := Lib.hid (fun h => Ot.opchk g h)
  obtain ⟨x1, x2, x3, x4, x5, x6, x7, x8, x9, x10, x11, x12, x13⟩ := g
  unfold cellsOP at *
  dsimp only at *
  generalize hrk1 : rck 64 L = rk1
  obtain ⟨ra, rk⟩ := rk1
  have HRC : Hid (∀ W, IsL W a len L → Calls Try.prog 19 #[.int .i64 64, .slice a len cap] W fun e w' => e = .returned (.tuple #[.int .i64 ra, .int .i64 rk]) ∧ Below W.heap.size W w') := fun W h => (scheck_big 64 a len cap L W h).mono fun e w' ⟨he, hB⟩ => ⟨by rw [he, hrk1]; rfl, hB⟩
  clear hrk1
  go_enter Try.func10, Try.ntmps10
  go_upto_region 1 with fail
  generalize w.alloc (.cells #[.int .u8 (x1.toNat : Int), .int .i64 x2, .int .i64 x3, .int .i64 x4, .int .i64 x5, .int .i64 x6, .string x7, .int .u64 (x8.toNat : Int), .int .u64 (x9.toNat : Int), .int .u64 (x10.toNat : Int), .int .u8 (x11.toNat : Int), .int .u64 (x12.toNat : Int), .int .i64 x13] 91) = w0 at *
  go_wp2_with fail
  refine (HRC.out _ (HL.out.later HB0.out)).mono ?_
  rintro e w1 ⟨rfl, hB⟩
  have HX1 := Lib.hid (HX0.out.later hB)
  have HB1 := Lib.hid (Below.next HB0.out hB)
  clear hB HX0 HB0 HRC
  by_cases hl1 : 66 < len
  · have e1 : decide ((66 : Int) < (len : Int)) = true := by simp; omega
    go_wp2_with fail
    go_ret
    exact ⟨rfl, HB1.out⟩
  have e1 : decide ((66 : Int) < (len : Int)) = false := by simp; omega
  by_cases hrk : rk = 0
  · subst hrk
    by_cases hl2 : 10 < len
    · have e2 : decide ((10 : Int) < (len : Int)) = true := by simp; omega
      go_wp2_with fail
      go_ret
      exact ⟨rfl, HB1.out⟩
    have e2 : decide ((10 : Int) < (len : Int)) = false := by simp; omega
    by_cases hl3 : 70 < len'
    · have e3 : decide ((70 : Int) < (len' : Int)) = true := by simp; omega
      go_wp2_with fail
      go_ret
      exact ⟨rfl, HB1.out⟩
    have e3 : decide ((70 : Int) < (len' : Int)) = false := by simp; omega
    obtain ⟨_, d1, d2, d3, d4, d5, d6, d7, d8, d9, d10, d11, d12, d13⟩ := HX1.out
    dsimp only at d1 d2 d3 d4 d5 d6 d7 d8 d9 d10 d11 d12 d13
    by_cases hl4 : 1000 < x7.size
    · have e4 : decide ((1000 : Int) < (x7.size : Int)) = true := by simp; omega
      go_wp2_with fail
      go_ret
      exact ⟨rfl, HB1.out⟩
    have e4 : decide ((1000 : Int) < (x7.size : Int)) = false := by simp; omega
    obtain ⟨r0, hr04, HP0, HS0⟩ := HCQ.out (by unfold maxLen; omega)
    have HPE := Lib.hid (fun a1 l1 c1 hl a2 l2 c2 hl' W h1 h2 => pev_any step (⟨x1, x2, x3, x4, x5, x6, x7, x8, x9, x10, x11, x12, x13⟩ : OP) done r0 HP0 a1 l1 c1 L hl a2 l2 c2 G hl' W h1 h2)
    have HSE := Lib.hid (fun W h1 h2 => sev_any step (⟨x1, x2, x3, x4, x5, x6, x7, x8, x9, x10, x11, x12, x13⟩ : OP) done r0 HS0 a len cap L (by omega) a' len' cap' G (by omega) W h1 h2)
    generalize evV step r0 (⟨x1, x2, x3, x4, x5, x6, x7, x8, x9, x10, x11, x12, x13⟩ : OP) done L G = EV0 at *
    generalize evC step r0 (⟨x1, x2, x3, x4, x5, x6, x7, x8, x9, x10, x11, x12, x13⟩ : OP) L G = EC0 at *
    obtain ⟨y1, y2, y3, y4, y5, y6, y7, y8, y9⟩ := EV0
    unfold cellsOP cellsEV at HPE HSE
    dsimp only at HPE HSE
    clear HP0 HS0 hr04 HCQ
    go_wp2_with fail
    clear d1 d2 d3 d4 d5 d6 d7 d8 d9 d10 d11 d12 d13 e1 e3 e4
    refine wp_region_seqo (fun X => Below w1.heap.size w1 X) w1.heap.size
      [fbC (.int .i64 step), fbC (.agg #[.int .u8 (x1.toNat : Int), .int .i64 x2, .int .i64 x3, .int .i64 x4, .int .i64 x5, .int .i64 x6, .string x7, .int .u64 (x8.toNat : Int), .int .u64 (x9.toNat : Int), .int .u64 (x10.toNat : Int), .int .u8 (x11.toNat : Int), .int .u64 (x12.toNat : Int), .int .i64 x13]), fbC (.bool done), fbC (.slice a len cap), fbL 35 cells7 7 w1.heap.size L, fbC (.slice a' len' cap'), fbL 68 cells8 8 w1.heap.size G,
        fbC (.tuple #[.agg #[.int .i64 y1, .int .i64 y2, .int .u8 (y3.toNat : Int), .int .i64 y4, .int .i64 y5, .int .i64 y6, .int .i64 y7, .bool y8, .int .u64 (y9.toNat : Int)], .int .i64 EC0]), fbC (.tuple #[.agg #[.int .i64 y1, .int .i64 y2, .int .u8 (y3.toNat : Int), .int .i64 y4, .int .i64 y5, .int .i64 y6, .int .i64 y7, .bool y8, .int .u64 (y9.toNat : Int)], .int .i64 EC0]), fbC (.agg #[.int .i64 y1, .int .i64 y2, .int .u8 (y3.toNat : Int), .int .i64 y4, .int .i64 y5, .int .i64 y6, .int .i64 y7, .bool y8, .int .u64 (y9.toNat : Int)]), fbC (.int .i64 EC0),
        fbN (fun g => .pointer (some ⟨g, 0, none⟩)) w1.heap.size (.cells #[.int .i64 0, .int .i64 0, .int .u8 0, .int .i64 0, .int .i64 0, .int .i64 0, .int .i64 0, .bool false, .int .u64 0] 84), fbS 11 w1.heap.size (.cells #[.int .i64 y1, .int .i64 y2, .int .u8 (y3.toNat : Int), .int .i64 y4, .int .i64 y5, .int .i64 y6, .int .i64 y7, .bool y8, .int .u64 (y9.toNat : Int)] 84), fbC (.int .i64 EC0)]
      [[], [], [], [], [], [], [], [], [], [], [], [], [11]] [[], [], [], [], [], [], [], [], [], [], [], [], [11]] [[], [], [], [], [3], [], [5], [0, 1, 2, 4, 6], [7], [8], [8], [], [11, 9], [10]]
      (fun a b h k => k.trans h) (by kernel_rfl) (by kernel_rfl) (by kernel_rfl) ⟨rfl, rfl, rfl, Nat.le_refl _, fun _ _ => rfl⟩ (Nat.le_refl _) ?_ (by kernel_rfl)
      ⟨good_C _ _, good_C _ _, good_C _ _, good_C _ _, good_L _, good_C _ _, good_L _, good_C _ _, good_C _ _, good_C _ _, good_C _ _, good_N _ (fun _ => rfl), good_S (by decide), good_C _ _, trivial⟩ (Nat.le_refl 14)
    simp only [putsL, Act.put, List.setIfInBounds_toArray, List.set_cons_zero, List.set_cons_succ, Nat.zero_add, Nat.reduceAdd]
    refine seqo_cons (obo_run rfl (fun vs W hD => rfl) (fun vs W hS hD => ?_)) ?_
    · go_simp; done
    refine seqo_cons (obo_run rfl (fun vs W hD => rfl) (fun vs W hS hD => ?_)) ?_
    · obtain ⟨_, d1, d2, d3, d4, d5, d6, d7, d8, d9, d10, d11, d12, d13⟩ := HX1.out.later hS
      dsimp only at d1 d2 d3 d4 d5 d6 d7 d8 d9 d10 d11 d12 d13
      go_simp; done
    refine seqo_cons (obo_run rfl (fun vs W hD => rfl) (fun vs W hS hD => ?_)) ?_
    · go_simp; done
    refine seqo_cons (obo_run rfl (fun vs W hD => rfl) (fun vs W hS hD => ?_)) ?_
    · go_simp; done
    refine seqo_cons (obo_list rfl (f := 13) (fun vs => #[.slice a len cap]) (fun vs W hD => rfl) (fun vs W hS hD => ?_) (fun vs W hS hZ hD => ?_)) ?_
    · have h1 : vs 3 = _ := hD.1
      go_simp; done
    · exact copyrules_any a len cap L (by omega) W ((HL.out.later HB1.out).later hS)
    refine seqo_cons (obo_run rfl (fun vs W hD => rfl) (fun vs W hS hD => ?_)) ?_
    · go_simp; done
    refine seqo_cons (obo_list rfl (f := 30) (fun vs => #[.slice a' len' cap']) (fun vs W hD => rfl) (fun vs W hS hD => ?_) (fun vs W hS hZ hD => ?_)) ?_
    · have h1 : vs 5 = _ := hD.1
      go_simp; done
    · exact copygrants_any a' len' cap' G (by omega) W ((IsOf.later HG.out HB1.out).later hS)
    refine seqo_cons (obo_call rfl (f := 49) (fun vs => #[.int .i64 step, .agg #[.int .u8 (x1.toNat : Int), .int .i64 x2, .int .i64 x3, .int .i64 x4, .int .i64 x5, .int .i64 x6, .string x7, .int .u64 (x8.toNat : Int), .int .u64 (x9.toNat : Int), .int .u64 (x10.toNat : Int), .int .u8 (x11.toNat : Int), .int .u64 (x12.toNat : Int), .int .i64 x13], .bool done, vs 4, vs 6]) (fun vs W hD => rfl) (fun vs W hS hD => ?_) (fun vs W hS hZ hD => ?_)) ?_
    · obtain ⟨h0, h1, h2, _⟩ := hD
      have h0 : vs 0 = _ := h0
      have h1 : vs 1 = _ := h1
      have h2 : vs 2 = _ := h2
      go_simp; done
    · obtain ⟨_, _, _, h4, h6, _⟩ := hD
      obtain ⟨a4, c4, e4, i4⟩ := OwnOf.isOf cells7_len h4
      obtain ⟨a6, c6, e6, i6⟩ := OwnOf.isOf cells8_len h6
      rw [e4, e6]
      refine (HPE.out a4 _ c4 (by have := HLL.out; omega) a6 _ c6 (by have := HGL.out; omega) W i4 i6).mono ?_
      rintro e w5 ⟨rfl, hB⟩
      exact ⟨rfl, hB⟩
    refine seqo_cons (obo_run rfl (fun vs W hD => rfl) (fun vs W hS hD => ?_)) ?_
    · have h6 : vs 7 = _ := hD.1
      go_simp; done
    refine seqo_cons (obo_run rfl (fun vs W hD => rfl) (fun vs W hS hD => ?_)) ?_
    · have h6 : vs 8 = _ := hD.1
      go_simp; done
    refine seqo_cons (obo_run rfl (fun vs W hD => rfl) (fun vs W hS hD => ?_)) ?_
    · have h6 : vs 8 = _ := hD.1
      go_simp; done
    refine seqo_cons (obo_new rfl (fun _ => rfl) (fun vs W hD => rfl) (fun vs W hS hD => ?_)) ?_
    · go_simp; done
    refine seqo_cons (obo_store (j := 11) rfl rfl (by decide) (fun vs W hD => rfl) (fun vs W hS hZ hD => ?_)) ?_
    · obtain ⟨⟨g, h11, hg, hh⟩, h9, _⟩ := hD
      have h11 : vs 11 = _ := h11
      have h9 : vs 9 = _ := h9
      have hs := set9 W g 84 _ _ _ _ _ _ _ _ _ (.int .i64 y1) (.int .i64 y2) (.int .u8 (y3.toNat : Int)) (.int .i64 y4) (.int .i64 y5) (.int .i64 y6) (.int .i64 y7) (.bool y8) (.int .u64 (y9.toNat : Int)) hh
      refine ⟨g, _, h11, hg, (Array.getElem?_eq_some_iff.1 hh).1, ?_, grown9 _ _ _ _ _ _ _ _ _ _ _, hs⟩
      obtain ⟨hl1, q0, q1, q2, q3, q4, q5, q6, q7, q8, z0, z1, z2, z3, z4, z5, z6, z7, z8⟩ := blk9 hh
      clear hs hh
      go_simp; done
    refine seqo_cons (obo_run rfl (fun vs W hD => rfl) (fun vs W hS hD => ?_)) ?_
    · have h6 : vs 10 = _ := hD.1
      go_simp; done
    refine seqo_end fun vs W hS hZ hv => ?_
    obtain ⟨h0, h1, h2, h3, _, h5, _, h7, h8, h9, h10, _, h12, h13, _⟩ := hv
    have h0 : vs 0 = _ := h0 rfl
    have h1 : vs 1 = _ := h1 rfl
    have h2 : vs 2 = _ := h2 rfl
    have h3 : vs 3 = _ := h3 rfl
    have h5 : vs 5 = _ := h5 rfl
    have h7 : vs 7 = _ := h7 rfl
    have h8 : vs 8 = _ := h8 rfl
    have h9 : vs 9 = _ := h9 rfl
    have h10 : vs 10 = _ := h10 rfl
    have h13 : vs 13 = _ := h13 rfl
    obtain ⟨p, h11, hp, hQ⟩ := h12 rfl
    have HE2 := Lib.hid (BoxEV.heap hQ)
    have HB2 := Lib.hid (Below.next HB1.out hS)
    obtain ⟨_, d1, d2, d3, d4, d5, d6, d7, d8, d9, d10, d11, d12, d13⟩ := HX1.out.later hS
    dsimp only at d1 d2 d3 d4 d5 d6 d7 d8 d9 d10 d11 d12 d13
    simp only [h0, h1, h2, h3, h5, h7, h8, h9, h10, h11, h13]
    clear h0 h1 h2 h3 h5 h7 h8 h9 h10 h11 h12 h13 hQ hp hS hZ HX1 HB1
    go_wp2_with fail
    clear d1 d2 d3 d4 d5 d6 d7 d8 d9 d10 d11 d12 d13
    refine (HSE.out _ (HL.out.later HB2.out) (IsOf.later HG.out HB2.out)).mono ?_
    rintro e w3 ⟨rfl, hB⟩
    have hba := below_alloc w3 (.cells #[.int .i64 y1, .int .i64 y2, .int .u8 (y3.toNat : Int), .int .i64 y4, .int .i64 y5, .int .i64 y6, .int .i64 y7, .bool y8, .int .u64 (y9.toNat : Int)] 84)
    obtain ⟨_, m1, m2, m3, m4, m5, m6, m7, m8, m9⟩ := BoxEV.start w3 ⟨y1, y2, y3, y4, y5, y6, y7, y8, y9⟩ 84
    obtain ⟨_, n1, n2, n3, n4, n5, n6, n7, n8, n9⟩ := (HE2.out.later hB).later hba
    have HB3 := Lib.hid (Below.next (Below.next HB2.out hB) hba)
    dsimp only at m1 m2 m3 m4 m5 m6 m7 m8 m9 n1 n2 n3 n4 n5 n6 n7 n8 n9
    clear hB hba HE2 HB2 HSE HPE
    go_wp2_with fail
    refine (Ot.awake30' _).mono ?_
    rintro e wE ⟨rfl, hBE⟩
    have HBE := Lib.hid (Below.next HB3.out hBE)
    go_wp2_with fail
    go_ret
    exact ⟨rfl, HBE.out⟩
  have hb1 : (rk == 0) = false := by simpa using hrk
  by_cases hl3 : 70 < len'
  · have e3 : decide ((70 : Int) < (len' : Int)) = true := by simp; omega
    go_wp2_with fail
    go_ret
    exact ⟨rfl, HB1.out⟩
  have e3 : decide ((70 : Int) < (len' : Int)) = false := by simp; omega
  obtain ⟨_, d1, d2, d3, d4, d5, d6, d7, d8, d9, d10, d11, d12, d13⟩ := HX1.out
  dsimp only at d1 d2 d3 d4 d5 d6 d7 d8 d9 d10 d11 d12 d13
  by_cases hl4 : 1000 < x7.size
  · have e4 : decide ((1000 : Int) < (x7.size : Int)) = true := by simp; omega
    go_wp2_with fail
    go_ret
    exact ⟨rfl, HB1.out⟩
  have e4 : decide ((1000 : Int) < (x7.size : Int)) = false := by simp; omega
  obtain ⟨r0, hr04, HP0, HS0⟩ := HCQ.out (by unfold maxLen; omega)
  have HPE := Lib.hid (fun a1 l1 c1 hl a2 l2 c2 hl' W h1 h2 => pev_any step (⟨x1, x2, x3, x4, x5, x6, x7, x8, x9, x10, x11, x12, x13⟩ : OP) done r0 HP0 a1 l1 c1 L hl a2 l2 c2 G hl' W h1 h2)
  have HSE := Lib.hid (fun W h1 h2 => sev_any step (⟨x1, x2, x3, x4, x5, x6, x7, x8, x9, x10, x11, x12, x13⟩ : OP) done r0 HS0 a len cap L (by omega) a' len' cap' G (by omega) W h1 h2)
  generalize evV step r0 (⟨x1, x2, x3, x4, x5, x6, x7, x8, x9, x10, x11, x12, x13⟩ : OP) done L G = EV0 at *
  generalize evC step r0 (⟨x1, x2, x3, x4, x5, x6, x7, x8, x9, x10, x11, x12, x13⟩ : OP) L G = EC0 at *
  obtain ⟨y1, y2, y3, y4, y5, y6, y7, y8, y9⟩ := EV0
  unfold cellsOP cellsEV at HPE HSE
  dsimp only at HPE HSE
  clear HP0 HS0 hr04 HCQ
  go_wp2_with fail
  clear d1 d2 d3 d4 d5 d6 d7 d8 d9 d10 d11 d12 d13 e1 e3 e4
  refine wp_region_seqo (fun X => Below w1.heap.size w1 X) w1.heap.size
    [fbC (.int .i64 step), fbC (.agg #[.int .u8 (x1.toNat : Int), .int .i64 x2, .int .i64 x3, .int .i64 x4, .int .i64 x5, .int .i64 x6, .string x7, .int .u64 (x8.toNat : Int), .int .u64 (x9.toNat : Int), .int .u64 (x10.toNat : Int), .int .u8 (x11.toNat : Int), .int .u64 (x12.toNat : Int), .int .i64 x13]), fbC (.bool done), fbC (.slice a len cap), fbL 35 cells7 7 w1.heap.size L, fbC (.slice a' len' cap'), fbL 68 cells8 8 w1.heap.size G,
      fbC (.tuple #[.agg #[.int .i64 y1, .int .i64 y2, .int .u8 (y3.toNat : Int), .int .i64 y4, .int .i64 y5, .int .i64 y6, .int .i64 y7, .bool y8, .int .u64 (y9.toNat : Int)], .int .i64 EC0]), fbC (.tuple #[.agg #[.int .i64 y1, .int .i64 y2, .int .u8 (y3.toNat : Int), .int .i64 y4, .int .i64 y5, .int .i64 y6, .int .i64 y7, .bool y8, .int .u64 (y9.toNat : Int)], .int .i64 EC0]), fbC (.agg #[.int .i64 y1, .int .i64 y2, .int .u8 (y3.toNat : Int), .int .i64 y4, .int .i64 y5, .int .i64 y6, .int .i64 y7, .bool y8, .int .u64 (y9.toNat : Int)]), fbC (.int .i64 EC0),
      fbN (fun g => .pointer (some ⟨g, 0, none⟩)) w1.heap.size (.cells #[.int .i64 0, .int .i64 0, .int .u8 0, .int .i64 0, .int .i64 0, .int .i64 0, .int .i64 0, .bool false, .int .u64 0] 84), fbS 11 w1.heap.size (.cells #[.int .i64 y1, .int .i64 y2, .int .u8 (y3.toNat : Int), .int .i64 y4, .int .i64 y5, .int .i64 y6, .int .i64 y7, .bool y8, .int .u64 (y9.toNat : Int)] 84), fbC (.int .i64 EC0)]
    [[], [], [], [], [], [], [], [], [], [], [], [], [11]] [[], [], [], [], [], [], [], [], [], [], [], [], [11]] [[], [], [], [], [3], [], [5], [0, 1, 2, 4, 6], [7], [8], [8], [], [11, 9], [10]]
    (fun a b h k => k.trans h) (by kernel_rfl) (by kernel_rfl) (by kernel_rfl) ⟨rfl, rfl, rfl, Nat.le_refl _, fun _ _ => rfl⟩ (Nat.le_refl _) ?_ (by kernel_rfl)
    ⟨good_C _ _, good_C _ _, good_C _ _, good_C _ _, good_L _, good_C _ _, good_L _, good_C _ _, good_C _ _, good_C _ _, good_C _ _, good_N _ (fun _ => rfl), good_S (by decide), good_C _ _, trivial⟩ (Nat.le_refl 14)
  simp only [putsL, Act.put, List.setIfInBounds_toArray, List.set_cons_zero, List.set_cons_succ, Nat.zero_add, Nat.reduceAdd]
  refine seqo_cons (obo_run rfl (fun vs W hD => rfl) (fun vs W hS hD => ?_)) ?_
  · go_simp; done
  refine seqo_cons (obo_run rfl (fun vs W hD => rfl) (fun vs W hS hD => ?_)) ?_
  · obtain ⟨_, d1, d2, d3, d4, d5, d6, d7, d8, d9, d10, d11, d12, d13⟩ := HX1.out.later hS
    dsimp only at d1 d2 d3 d4 d5 d6 d7 d8 d9 d10 d11 d12 d13
    go_simp; done
  refine seqo_cons (obo_run rfl (fun vs W hD => rfl) (fun vs W hS hD => ?_)) ?_
  · go_simp; done
  refine seqo_cons (obo_run rfl (fun vs W hD => rfl) (fun vs W hS hD => ?_)) ?_
  · go_simp; done
  refine seqo_cons (obo_list rfl (f := 13) (fun vs => #[.slice a len cap]) (fun vs W hD => rfl) (fun vs W hS hD => ?_) (fun vs W hS hZ hD => ?_)) ?_
  · have h1 : vs 3 = _ := hD.1
    go_simp; done
  · exact copyrules_any a len cap L (by omega) W ((HL.out.later HB1.out).later hS)
  refine seqo_cons (obo_run rfl (fun vs W hD => rfl) (fun vs W hS hD => ?_)) ?_
  · go_simp; done
  refine seqo_cons (obo_list rfl (f := 30) (fun vs => #[.slice a' len' cap']) (fun vs W hD => rfl) (fun vs W hS hD => ?_) (fun vs W hS hZ hD => ?_)) ?_
  · have h1 : vs 5 = _ := hD.1
    go_simp; done
  · exact copygrants_any a' len' cap' G (by omega) W ((IsOf.later HG.out HB1.out).later hS)
  refine seqo_cons (obo_call rfl (f := 49) (fun vs => #[.int .i64 step, .agg #[.int .u8 (x1.toNat : Int), .int .i64 x2, .int .i64 x3, .int .i64 x4, .int .i64 x5, .int .i64 x6, .string x7, .int .u64 (x8.toNat : Int), .int .u64 (x9.toNat : Int), .int .u64 (x10.toNat : Int), .int .u8 (x11.toNat : Int), .int .u64 (x12.toNat : Int), .int .i64 x13], .bool done, vs 4, vs 6]) (fun vs W hD => rfl) (fun vs W hS hD => ?_) (fun vs W hS hZ hD => ?_)) ?_
  · obtain ⟨h0, h1, h2, _⟩ := hD
    have h0 : vs 0 = _ := h0
    have h1 : vs 1 = _ := h1
    have h2 : vs 2 = _ := h2
    go_simp; done
  · obtain ⟨_, _, _, h4, h6, _⟩ := hD
    obtain ⟨a4, c4, e4, i4⟩ := OwnOf.isOf cells7_len h4
    obtain ⟨a6, c6, e6, i6⟩ := OwnOf.isOf cells8_len h6
    rw [e4, e6]
    refine (HPE.out a4 _ c4 (by have := HLL.out; omega) a6 _ c6 (by have := HGL.out; omega) W i4 i6).mono ?_
    rintro e w5 ⟨rfl, hB⟩
    exact ⟨rfl, hB⟩
  refine seqo_cons (obo_run rfl (fun vs W hD => rfl) (fun vs W hS hD => ?_)) ?_
  · have h6 : vs 7 = _ := hD.1
    go_simp; done
  refine seqo_cons (obo_run rfl (fun vs W hD => rfl) (fun vs W hS hD => ?_)) ?_
  · have h6 : vs 8 = _ := hD.1
    go_simp; done
  refine seqo_cons (obo_run rfl (fun vs W hD => rfl) (fun vs W hS hD => ?_)) ?_
  · have h6 : vs 8 = _ := hD.1
    go_simp; done
  refine seqo_cons (obo_new rfl (fun _ => rfl) (fun vs W hD => rfl) (fun vs W hS hD => ?_)) ?_
  · go_simp; done
  refine seqo_cons (obo_store (j := 11) rfl rfl (by decide) (fun vs W hD => rfl) (fun vs W hS hZ hD => ?_)) ?_
  · obtain ⟨⟨g, h11, hg, hh⟩, h9, _⟩ := hD
    have h11 : vs 11 = _ := h11
    have h9 : vs 9 = _ := h9
    have hs := set9 W g 84 _ _ _ _ _ _ _ _ _ (.int .i64 y1) (.int .i64 y2) (.int .u8 (y3.toNat : Int)) (.int .i64 y4) (.int .i64 y5) (.int .i64 y6) (.int .i64 y7) (.bool y8) (.int .u64 (y9.toNat : Int)) hh
    refine ⟨g, _, h11, hg, (Array.getElem?_eq_some_iff.1 hh).1, ?_, grown9 _ _ _ _ _ _ _ _ _ _ _, hs⟩
    obtain ⟨hl1, q0, q1, q2, q3, q4, q5, q6, q7, q8, z0, z1, z2, z3, z4, z5, z6, z7, z8⟩ := blk9 hh
    clear hs hh
    go_simp; done
  refine seqo_cons (obo_run rfl (fun vs W hD => rfl) (fun vs W hS hD => ?_)) ?_
  · have h6 : vs 10 = _ := hD.1
    go_simp; done
  refine seqo_end fun vs W hS hZ hv => ?_
  obtain ⟨h0, h1, h2, h3, _, h5, _, h7, h8, h9, h10, _, h12, h13, _⟩ := hv
  have h0 : vs 0 = _ := h0 rfl
  have h1 : vs 1 = _ := h1 rfl
  have h2 : vs 2 = _ := h2 rfl
  have h3 : vs 3 = _ := h3 rfl
  have h5 : vs 5 = _ := h5 rfl
  have h7 : vs 7 = _ := h7 rfl
  have h8 : vs 8 = _ := h8 rfl
  have h9 : vs 9 = _ := h9 rfl
  have h10 : vs 10 = _ := h10 rfl
  have h13 : vs 13 = _ := h13 rfl
  obtain ⟨p, h11, hp, hQ⟩ := h12 rfl
  have HE2 := Lib.hid (BoxEV.heap hQ)
  have HB2 := Lib.hid (Below.next HB1.out hS)
  obtain ⟨_, d1, d2, d3, d4, d5, d6, d7, d8, d9, d10, d11, d12, d13⟩ := HX1.out.later hS
  dsimp only at d1 d2 d3 d4 d5 d6 d7 d8 d9 d10 d11 d12 d13
  simp only [h0, h1, h2, h3, h5, h7, h8, h9, h10, h11, h13]
  clear h0 h1 h2 h3 h5 h7 h8 h9 h10 h11 h12 h13 hQ hp hS hZ HX1 HB1
  go_wp2_with fail
  clear d1 d2 d3 d4 d5 d6 d7 d8 d9 d10 d11 d12 d13
  refine (HSE.out _ (HL.out.later HB2.out) (IsOf.later HG.out HB2.out)).mono ?_
  rintro e w3 ⟨rfl, hB⟩
  have hba := below_alloc w3 (.cells #[.int .i64 y1, .int .i64 y2, .int .u8 (y3.toNat : Int), .int .i64 y4, .int .i64 y5, .int .i64 y6, .int .i64 y7, .bool y8, .int .u64 (y9.toNat : Int)] 84)
  obtain ⟨_, m1, m2, m3, m4, m5, m6, m7, m8, m9⟩ := BoxEV.start w3 ⟨y1, y2, y3, y4, y5, y6, y7, y8, y9⟩ 84
  obtain ⟨_, n1, n2, n3, n4, n5, n6, n7, n8, n9⟩ := (HE2.out.later hB).later hba
  have HB3 := Lib.hid (Below.next (Below.next HB2.out hB) hba)
  dsimp only at m1 m2 m3 m4 m5 m6 m7 m8 m9 n1 n2 n3 n4 n5 n6 n7 n8 n9
  clear hB hba HE2 HB2 HSE HPE
  go_wp2_with fail
  refine (Ot.awake30' _).mono ?_
  rintro e wE ⟨rfl, hBE⟩
  have HBE := Lib.hid (Below.next HB3.out hBE)
  go_wp2_with fail
  go_ret
  exact ⟨rfl, HBE.out⟩
end Go.Proofs.Ytndijajaddkbhaa.Re
