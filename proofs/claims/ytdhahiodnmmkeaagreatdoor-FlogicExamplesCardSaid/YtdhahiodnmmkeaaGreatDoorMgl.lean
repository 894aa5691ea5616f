/- Merged: LgH LgI. -/
import Derived.Test.YtdhahiodnmmkeaaGreatDoorMgk
/- flogic.Call in full (reference). -/
namespace Go.Proofs.YtdhahiodnmmkeaaGreatDoor.Va
open Go Go.RowKit GM
set_option linter.unusedVariables false
set_option linter.unusedSimpArgs false
set_option maxHeartbeats 3200000 in
theorem rlcall_name (fn : Nat) (hf : fn < 20 ∨ 30 < fn) (a : Option Addr) (n cap : Nat) (w : World) :
    Calls Tryz.prog 41 #[.int .u8 (fn : Int), .slice a n cap] w fun e w' => e = .returned (.tuple #[vOf (blV), .int .i64 10]) ∧ Below w.heap.size w w' := by
  have HX : Hid (B3 (w.alloc (.cells #[.int .u8 0, .int .i64 0, .string ⟨#[]⟩] 26)) w.heap.size 0 0 ⟨#[]⟩) := B3.start w 0 0 ⟨#[]⟩
  have HB := Lib.hid (valloc w (.cells #[.int .u8 0, .int .i64 0, .string ⟨#[]⟩] 26))
  by_cases h1 : fn < 20
  · have d1 : decide ((fn : Int) < 20) = true := by simp; omega
    go_enter Tryz.func41, Tryz.ntmps41
    go_wp2_with fail
    refine bodyPost_ret (v := .tuple #[.agg #[.int .u8 0, .int .i64 0, .string ⟨#[]⟩], .int .i64 10]) (by simp [results, Tryz.results41, go_sem]) rfl ⟨rfl, HB.out⟩
  · have d1 : decide ((fn : Int) < 20) = false := by simp; omega
    have d2 : decide ((30 : Int) < (fn : Int)) = true := by simp; omega
    go_enter Tryz.func41, Tryz.ntmps41
    go_wp2_with fail
    refine bodyPost_ret (v := .tuple #[.agg #[.int .u8 0, .int .i64 0, .string ⟨#[]⟩], .int .i64 10]) (by simp [results, Tryz.results41, go_sem]) rfl ⟨rfl, HB.out⟩
set_option maxHeartbeats 3200000 in
theorem rlcall_count (fn : Nat) (hf1 : 20 ≤ fn) (hf2 : fn ≤ 30) (a : Option Addr) (n cap : Nat) (hn : n ≤ 1000) (hc : n < (arV fn).1 ∨ (arV fn).2 < n) (w : World) :
    Calls Tryz.prog 41 #[.int .u8 (fn : Int), .slice a n cap] w fun e w' => e = .returned (.tuple #[vOf (blV), .int .i64 11]) ∧ Below w.heap.size w w' := by
  have HX : Hid (B3 (w.alloc (.cells #[.int .u8 0, .int .i64 0, .string ⟨#[]⟩] 26)) w.heap.size 0 0 ⟨#[]⟩) := B3.start w 0 0 ⟨#[]⟩
  have HB := Lib.hid (valloc w (.cells #[.int .u8 0, .int .i64 0, .string ⟨#[]⟩] 26))
  have d1 : decide ((fn : Int) < 20) = false := by simp; omega
  have d2 : decide ((30 : Int) < (fn : Int)) = false := by simp; omega
  have HCN := Lib.hid (fun W => rcount_any fn n (by omega) W (rar_logic fn hf1 hf2))
  rw [decide_eq_false (show ¬ ((arV fn).1 ≤ n ∧ n ≤ (arV fn).2) by omega)] at HCN
  go_enter Tryz.func41, Tryz.ntmps41
  go_wp2_with fail
  generalize w.alloc (.cells #[.int .u8 0, .int .i64 0, .string ⟨#[]⟩] 26) = wa at *
  refine (HCN.out _).mono ?_
  rintro e w1 ⟨rfl, hB⟩
  replace HX := Lib.hid (HX.out.later hB)
  replace HB := Lib.hid (vnext HB.out hB)
  clear hB
  obtain ⟨x0, x1, x2, z0, z1, z2⟩ := HX.out.cells
  have hXl := HX.out.lt
  obtain ⟨hq, hg⟩ := b3_set HX.out 0 0 ⟨#[]⟩
  have hb5 := HB.out.grown hg HB.out.size (fun q hq => by injection hq with hq; omega)
  clear hg
  go_wp2_with fail
  generalize ((w1.setCell ⟨w.heap.size, 0, none⟩ (.int .u8 0)).setCell ⟨w.heap.size, 1, none⟩ (.int .i64 0)).setCell ⟨w.heap.size, 2, none⟩ (.string ⟨#[]⟩) = w5 at *
  obtain ⟨v0, v1, v2, _, _, _⟩ := hq.cells
  refine bodyPost_ret (v := .tuple #[.agg #[.int .u8 0, .int .i64 0, .string ⟨#[]⟩], .int .i64 11]) (by simp [results, Tryz.results41, go_sem, v0, v1, v2]) rfl ⟨rfl, hb5⟩
set_option maxHeartbeats 6400000 in
theorem rlcall_arg (fn : Nat) (hf1 : 20 ≤ fn) (hf2 : fn ≤ 30) (a : Option Addr) (n cap : Nat) (L : List V3) (w : World) (hL : IsV w a n L) (hn : n ≤ 1000) (hv : ∀ v ∈ L, v.2.2.size ≤ 2000 ∧ InI v.2.1) (hc : (arV fn).1 ≤ n ∧ n ≤ (arV fn).2) (hb : okL L = false) :
    Calls Tryz.prog 41 #[.int .u8 (fn : Int), .slice a n cap] w fun e w' => e = .returned (.tuple #[vOf (blV), .int .i64 2]) ∧ Below w.heap.size w w' := by
  have HX : Hid (B3 (w.alloc (.cells #[.int .u8 0, .int .i64 0, .string ⟨#[]⟩] 26)) w.heap.size 0 0 ⟨#[]⟩) := B3.start w 0 0 ⟨#[]⟩
  have HB := Lib.hid (valloc w (.cells #[.int .u8 0, .int .i64 0, .string ⟨#[]⟩] 26))
  have HVA := Lib.hid (fun W hW => rvalid_any a n cap L (by omega) W hW (fun v h => ⟨Nat.le_trans (hv v h).1 (by unfold maxLen; decide), by have := (hv v h).2; unfold InI at this; unfold leastI; omega⟩))
  have HL := Lib.hid hL
  have HNL := Lib.hid hL.1
  have d1 : decide ((fn : Int) < 20) = false := by simp; omega
  have d2 : decide ((30 : Int) < (fn : Int)) = false := by simp; omega
  have HCN := Lib.hid (fun W => rcount_any fn n (by omega) W (rar_logic fn hf1 hf2))
  rw [decide_eq_true hc] at HCN
  rw [hb] at HVA
  clear hL hv hb
  go_enter Tryz.func41, Tryz.ntmps41
  go_wp2_with fail
  generalize w.alloc (.cells #[.int .u8 0, .int .i64 0, .string ⟨#[]⟩] 26) = wa at *
  refine (HCN.out _).mono ?_
  rintro e w1 ⟨rfl, hB⟩
  replace HX := Lib.hid (HX.out.later hB)
  replace HB := Lib.hid (vnext HB.out hB)
  clear hB
  go_wp2_with fail
  refine (HVA.out _ (IsOf.later HL.out HB.out)).mono ?_
  rintro e w2 ⟨rfl, hB⟩
  replace HX := Lib.hid (HX.out.later hB)
  replace HB := Lib.hid (vnext HB.out hB)
  clear hB
  clear HCN HVA
  obtain ⟨x0, x1, x2, z0, z1, z2⟩ := HX.out.cells
  have hXl := HX.out.lt
  obtain ⟨hq, hg⟩ := b3_set HX.out 0 0 ⟨#[]⟩
  have hb5 := HB.out.grown hg HB.out.size (fun q hq => by injection hq with hq; omega)
  clear hg
  go_wp2_with fail
  generalize ((w2.setCell ⟨w.heap.size, 0, none⟩ (.int .u8 0)).setCell ⟨w.heap.size, 1, none⟩ (.int .i64 0)).setCell ⟨w.heap.size, 2, none⟩ (.string ⟨#[]⟩) = w5 at *
  obtain ⟨v0, v1, v2, _, _, _⟩ := hq.cells
  refine bodyPost_ret (v := .tuple #[.agg #[.int .u8 0, .int .i64 0, .string ⟨#[]⟩], .int .i64 2]) (by simp [results, Tryz.results41, go_sem, v0, v1, v2]) rfl ⟨rfl, hb5⟩
set_option maxRecDepth 100000 in
set_option maxHeartbeats 6400000 in
theorem rlcall_25 (a : Option Addr) (n cap : Nat) (L : List V3) (w : World) (hL : IsV w a n L) (hn : n = 2) (hv : ∀ v ∈ L, v.2.2.size ≤ 2000 ∧ InI v.2.1) (hb : okL L = true) :
    Calls Tryz.prog 41 #[.int .u8 25, .slice a n cap] w fun e w' => e = .returned (.tuple #[vOf (ieV L), .int .i64 0]) ∧ Below w.heap.size w w' := by
  have HX : Hid (B3 (w.alloc (.cells #[.int .u8 0, .int .i64 0, .string ⟨#[]⟩] 26)) w.heap.size 0 0 ⟨#[]⟩) := B3.start w 0 0 ⟨#[]⟩
  have HB := Lib.hid (valloc w (.cells #[.int .u8 0, .int .i64 0, .string ⟨#[]⟩] 26))
  have HCN := Lib.hid (fun W => rcount_any 25 n (by omega) W rar_25)
  rw [decide_eq_true (show (arV 25).1 ≤ n ∧ n ≤ (arV 25).2 by subst hn; decide)] at HCN
  have HVA := Lib.hid (fun W hW => rvalid_any a n cap L (by omega) W hW (fun v h => ⟨Nat.le_trans (hv v h).1 (by unfold maxLen; decide), by have := (hv v h).2; unfold InI at this; unfold leastI; omega⟩))
  have HL := Lib.hid hL
  have HNL := Lib.hid hL.1
  rw [hb] at HVA
  clear hL hv hb
  subst hn
  go_enter Tryz.func41, Tryz.ntmps41
  go_wp2_with fail
  generalize w.alloc (.cells #[.int .u8 0, .int .i64 0, .string ⟨#[]⟩] 26) = wa at *
  refine (HCN.out _).mono ?_
  rintro e w1 ⟨rfl, hB⟩
  replace HX := Lib.hid (HX.out.later hB)
  replace HB := Lib.hid (vnext HB.out hB)
  clear hB
  go_wp2_with fail
  refine (HVA.out _ (IsOf.later HL.out HB.out)).mono ?_
  rintro e w2 ⟨rfl, hB⟩
  replace HX := Lib.hid (HX.out.later hB)
  replace HB := Lib.hid (vnext HB.out hB)
  clear hB
  clear HCN HVA
  obtain ⟨b, off, rfl, hbl, c1, c2, c3⟩ := isV_at (IsOf.later HL.out HB.out) (k := 0) (by rw [HNL.out]; omega)
  rw [Nat.zero_mul, Nat.add_zero] at c1 c2 c3
  have hg0 := getD_at (M := L) (k := 0) (by rw [HNL.out]; omega)
  rw [← hg0] at c1 c2 c3
  clear hg0
  by_cases h9 : (L.getD 0 blV).1 = 4
  · have HE2 : Hid (ieV L = L.getD 1 blV) := if_pos h9
    have e1 : (((L.getD 0 blV).1 : Int) == 4) = true := by simp only [h9]; rfl
    obtain ⟨b_, off_, hbe, hbl2, d1, d2, d3⟩ := isV_at (IsOf.later HL.out HB.out) (k := 1) (by rw [HNL.out]; omega)
    cases hbe
    have hg1 := getD_at (M := L) (k := 1) (by rw [HNL.out]; omega)
    rw [← hg1] at d1 d2 d3
    clear hg1
    generalize L.getD 1 blV = u at *
    generalize L.getD 0 blV = v at *
    obtain ⟨uk, un, us⟩ := u
    clear h9
    obtain ⟨x0, x1, x2, z0, z1, z2⟩ := HX.out.cells
    have hXl := HX.out.lt
    obtain ⟨hq, hg⟩ := b3_set HX.out uk un us
    have hb5 := HB.out.grown hg HB.out.size (fun q hq => by injection hq with hq; omega)
    clear hg
    go_wp2_with fail
    generalize ((w2.setCell ⟨w.heap.size, 0, none⟩ (.int .u8 (uk : Int))).setCell ⟨w.heap.size, 1, none⟩ (.int .i64 un)).setCell ⟨w.heap.size, 2, none⟩ (.string us) = w5 at *
    obtain ⟨v0, v1, v2, _, _, _⟩ := hq.cells
    refine bodyPost_ret (v := .tuple #[.agg #[.int .u8 (uk : Int), .int .i64 un, .string us], .int .i64 0]) (by simp [results, Tryz.results41, go_sem, v0, v1, v2]) rfl ⟨by rw [HE2.out]; rfl, hb5⟩
  · have HE2 : Hid (ieV L = L.getD 0 blV) := if_neg h9
    have e1 : (((L.getD 0 blV).1 : Int) == 4) = false := by simp only [beq_eq_false_iff_ne, ne_eq]; omega
    generalize L.getD 0 blV = u at *
    obtain ⟨uk, un, us⟩ := u
    dsimp only at c1 c2 c3 e1
    clear h9
    obtain ⟨x0, x1, x2, z0, z1, z2⟩ := HX.out.cells
    have hXl := HX.out.lt
    obtain ⟨hq, hg⟩ := b3_set HX.out uk un us
    have hb5 := HB.out.grown hg HB.out.size (fun q hq => by injection hq with hq; omega)
    clear hg
    go_wp2_with fail
    generalize ((w2.setCell ⟨w.heap.size, 0, none⟩ (.int .u8 (uk : Int))).setCell ⟨w.heap.size, 1, none⟩ (.int .i64 un)).setCell ⟨w.heap.size, 2, none⟩ (.string us) = w5 at *
    obtain ⟨v0, v1, v2, _, _, _⟩ := hq.cells
    refine bodyPost_ret (v := .tuple #[.agg #[.int .u8 (uk : Int), .int .i64 un, .string us], .int .i64 0]) (by simp [results, Tryz.results41, go_sem, v0, v1, v2]) rfl ⟨by rw [HE2.out]; rfl, hb5⟩
set_option maxRecDepth 100000 in
set_option maxHeartbeats 6400000 in
theorem rlcall_26 (a : Option Addr) (n cap : Nat) (L : List V3) (w : World) (hL : IsV w a n L) (hn : n = 1) (hv : ∀ v ∈ L, v.2.2.size ≤ 2000 ∧ InI v.2.1) (hb : okL L = true) :
    Calls Tryz.prog 41 #[.int .u8 26, .slice a n cap] w fun e w' => e = .returned (.tuple #[vOf (isErV L), .int .i64 0]) ∧ Below w.heap.size w w' := by
  have HX : Hid (B3 (w.alloc (.cells #[.int .u8 0, .int .i64 0, .string ⟨#[]⟩] 26)) w.heap.size 0 0 ⟨#[]⟩) := B3.start w 0 0 ⟨#[]⟩
  have HB := Lib.hid (valloc w (.cells #[.int .u8 0, .int .i64 0, .string ⟨#[]⟩] 26))
  have HCN := Lib.hid (fun W => rcount_any 26 n (by omega) W rar_26)
  rw [decide_eq_true (show (arV 26).1 ≤ n ∧ n ≤ (arV 26).2 by subst hn; decide)] at HCN
  have HVA := Lib.hid (fun W hW => rvalid_any a n cap L (by omega) W hW (fun v h => ⟨Nat.le_trans (hv v h).1 (by unfold maxLen; decide), by have := (hv v h).2; unfold InI at this; unfold leastI; omega⟩))
  have HL := Lib.hid hL
  have HNL := Lib.hid hL.1
  rw [hb] at HVA
  clear hL hv hb
  subst hn
  go_enter Tryz.func41, Tryz.ntmps41
  go_wp2_with fail
  generalize w.alloc (.cells #[.int .u8 0, .int .i64 0, .string ⟨#[]⟩] 26) = wa at *
  refine (HCN.out _).mono ?_
  rintro e w1 ⟨rfl, hB⟩
  replace HX := Lib.hid (HX.out.later hB)
  replace HB := Lib.hid (vnext HB.out hB)
  clear hB
  go_wp2_with fail
  refine (HVA.out _ (IsOf.later HL.out HB.out)).mono ?_
  rintro e w2 ⟨rfl, hB⟩
  replace HX := Lib.hid (HX.out.later hB)
  replace HB := Lib.hid (vnext HB.out hB)
  clear hB
  clear HCN HVA
  obtain ⟨b, off, rfl, hbl, c1, c2, c3⟩ := isV_at (IsOf.later HL.out HB.out) (k := 0) (by rw [HNL.out]; omega)
  rw [Nat.zero_mul, Nat.add_zero] at c1 c2 c3
  have hg0 := getD_at (M := L) (k := 0) (by rw [HNL.out]; omega)
  rw [← hg0] at c1 c2 c3
  clear hg0
  obtain ⟨bb, hbb⟩ : ∃ bb, decide ((L.getD 0 blV).1 = 4) = bb := ⟨_, rfl⟩
  have HE : Hid (isErV L = trV bb) := by unfold Hid isErV; rw [hbb]
  have e1 : (((L.getD 0 blV).1 : Int) == 4) = bb := by
    rw [← hbb]
    by_cases h9 : (L.getD 0 blV).1 = 4
    · rw [decide_eq_true h9]; simp only [h9]; rfl
    · rw [decide_eq_false h9]; simp only [beq_eq_false_iff_ne, ne_eq]; omega
  obtain ⟨z, hz⟩ : ∃ z, b2i bb = z := ⟨_, rfl⟩
  have HTR := Lib.hid (fun W => rtruth_any bb W)
  rw [hz] at HTR
  have HZ9 := Lib.hid hz
  clear hz hbb
  generalize L.getD 0 blV = v at *
  go_wp2_with fail
  refine (HTR.out _).mono ?_
  rintro e w3 ⟨rfl, hB⟩
  replace HX := Lib.hid (HX.out.later hB)
  replace HB := Lib.hid (vnext HB.out hB)
  clear hB
  clear c1 c2 c3 hbl
  obtain ⟨x0, x1, x2, z0, z1, z2⟩ := HX.out.cells
  have hXl := HX.out.lt
  obtain ⟨hq, hg⟩ := b3_set HX.out 2 z ⟨#[]⟩
  have hb5 := HB.out.grown hg HB.out.size (fun q hq => by injection hq with hq; omega)
  clear hg
  go_wp2_with fail
  generalize ((w3.setCell ⟨w.heap.size, 0, none⟩ (.int .u8 2)).setCell ⟨w.heap.size, 1, none⟩ (.int .i64 z)).setCell ⟨w.heap.size, 2, none⟩ (.string ⟨#[]⟩) = w5 at *
  obtain ⟨v0, v1, v2, _, _, _⟩ := hq.cells
  refine bodyPost_ret (v := .tuple #[.agg #[.int .u8 2, .int .i64 z, .string ⟨#[]⟩], .int .i64 0]) (by simp [results, Tryz.results41, go_sem, v0, v1, v2]) rfl ⟨by rw [HE.out]; unfold trV; rw [HZ9.out]; rfl, hb5⟩
set_option maxRecDepth 100000 in
set_option maxHeartbeats 6400000 in
theorem rlcall_gen (fn : Nat) (hf : fn = 20 ∨ fn = 21 ∨ fn = 22 ∨ fn = 23 ∨ fn = 24 ∨ fn = 27 ∨ fn = 28 ∨ fn = 29 ∨ fn = 30) (a : Option Addr) (n cap : Nat) (L : List V3) (w : World) (hL : IsV w a n L) (hl : (arV fn).1 ≤ n) (hm : n ≤ (arV fn).2) (hv : ∀ v ∈ L, v.2.2.size ≤ 2000 ∧ InI v.2.1) (hb : okL L = true) (hT : Tb w) :
    Calls Tryz.prog 41 #[.int .u8 (fn : Int), .slice a n cap] w fun e w' => e = .returned (.tuple #[vOf (lgcR fn (lgC fn 0 L [])), .int .i64 0]) ∧ Below w.heap.size w w' := by
  have HX : Hid (B3 (w.alloc (.cells #[.int .u8 0, .int .i64 0, .string ⟨#[]⟩] 26)) w.heap.size 0 0 ⟨#[]⟩) := B3.start w 0 0 ⟨#[]⟩
  have HB := Lib.hid (valloc w (.cells #[.int .u8 0, .int .i64 0, .string ⟨#[]⟩] 26))
  have hf1 : 20 ≤ fn := by omega
  have hf2 : fn ≤ 30 := by omega
  have e25 : ((fn : Int) == 25) = false := by simp; omega
  have e26 : ((fn : Int) == 26) = false := by simp; omega
  have hm16 := arV_le fn
  have hn16 : n ≤ 16 := by omega
  have d1 : decide ((fn : Int) < 20) = false := by simp; omega
  have d2 : decide ((30 : Int) < (fn : Int)) = false := by simp; omega
  have HCN := Lib.hid (fun W => rcount_any fn n (by omega) W (rar_logic fn hf1 hf2))
  rw [decide_eq_true (show (arV fn).1 ≤ n ∧ n ≤ (arV fn).2 from ⟨hl, hm⟩)] at HCN
  have HVA := Lib.hid (fun W hW => rvalid_any a n cap L (by omega) W hW (fun v h => ⟨Nat.le_trans (hv v h).1 (by unfold maxLen; decide), by have := (hv v h).2; unfold InI at this; unfold leastI; omega⟩))
  have HL := Lib.hid hL
  have HNL := Lib.hid hL.1
  rw [hb] at HVA
  have HT := Lib.hid hT
  have HV := Lib.hid hv
  have HCV := Lib.hid (fun i v hs hi W hT => rconv_any fn hf i v hs hi W hT)
  have HVL := Lib.hid (fun M hM W (hB : Below w.heap.size w W) a' cap' hI hT => rvalueL_any fn hf L M hM hv ⟨by rw [hL.1]; exact hl, by rw [hL.1]; exact hm⟩ w W hB a' L.length cap' hI hT)
  obtain ⟨R, hR⟩ : ∃ R, lgC fn 0 L [] = R := ⟨_, rfl⟩
  have HR0 := Lib.hid hR
  have HR : Hid (lgC fn 0 (L.drop 0) [] = R) := by rw [List.drop_zero]; exact hR
  clear hL hv hb hT hR hf hf1 hf2 hl hm hm16
  go_enter Tryz.func41, Tryz.ntmps41
  go_wp2_with fail
  generalize w.alloc (.cells #[.int .u8 0, .int .i64 0, .string ⟨#[]⟩] 26) = wa at *
  refine (HCN.out _).mono ?_
  rintro e w1 ⟨rfl, hB⟩
  replace HX := Lib.hid (HX.out.later hB)
  replace HB := Lib.hid (vnext HB.out hB)
  clear hB
  go_wp2_with fail
  refine (HVA.out _ (IsOf.later HL.out HB.out)).mono ?_
  rintro e w2 ⟨rfl, hB⟩
  replace HX := Lib.hid (HX.out.later hB)
  replace HB := Lib.hid (vnext HB.out hB)
  clear hB
  clear HCN HVA
  go_wp2_with fail
  generalize w2 = wa at *
  go_loopw [6, 7] (fun u i wr => ∃ (k : Nat) (M : List V3), k ≤ n ∧ i = .int .i64 (k : Int) ∧ Hid (M.length = k) ∧ Hid (lgC fn k (L.drop k) M = R) ∧ Hid (OwnV (w.heap.size + 1) wr u M) ∧ Hid (Below w.heap.size w wr) ∧ Hid (B3 wr w.heap.size 0 0 ⟨#[]⟩)) (fun _ i _ => n - (intOf i).toNat)
  case atStart => exact ⟨0, [], Nat.zero_le _, rfl, rfl, HR.out, OwnOf.nil _ _ _ _ _, HB.out, HX.out⟩
  case round =>
    clear HR HB HX
    obtain ⟨k, M, hk, rfl, HM, HR, HO, HB, HX⟩ := hrel
    obtain ⟨ua, uc, rfl, _⟩ := OwnOf.isOf cellsV_len HO.out
    by_cases hlt : k < n
    · have hkl : k < L.length := by rw [HNL.out]; exact hlt
      obtain ⟨hvs, hvi⟩ := HV.out L[k] (List.getElem_mem hkl)
      obtain ⟨b, off, rfl, hbl, c1, c2, c3⟩ := isV_at (IsOf.later HL.out HB.out) hkl
      have hst := lgC_step (fn := fn) hkl M
      rw [HR.out] at hst
      generalize L[k] = v at *
      have HST := Lib.hid hst
      have HCK := Lib.hid (fun W hW => HCV.out k v hvs hvi W hW)
      clear hst HR hvs hvi
      obtain ⟨r, hr⟩ : ∃ r, cvl fn k v = r := ⟨_, rfl⟩
      rw [hr] at HCK HST
      clear hr
      obtain ⟨rk, rn, rs⟩ := r
      unfold vOf at HCK
      dsimp only at HCK HST
      have hq9 : w.heap.size < wr.heap.size := HX.out.lt
      go_wp2_with fail
      refine (HCK.out _ (HT.out.later HB.out)).mono ?_
      rintro e w1 ⟨rfl, hB1⟩
      have hB2 := vnext hB1 (valloc w1 (.cells #[.int .u8 (rk : Int), .int .i64 rn, .string rs] 26))
      replace HB := Lib.hid (vnext HB.out hB2)
      replace HX := Lib.hid (HX.out.later hB2)
      replace HO := Lib.hid (OwnOf.later HO.out hB2)
      have HY := Lib.hid (B3.start w1 rk rn rs)
      clear hB1 hB2 HCK c1 c2 c3 hbl
      go_upto_region 18 with fail
      generalize w1.alloc (.cells #[.int .u8 (rk : Int), .int .i64 rn, .string rs] 26) = w3 at *
      obtain ⟨y0, y1, y2, _, _, _⟩ := HY.out.cells
      have hyl := HY.out.lt
      by_cases h4 : rk = 4
      · have hk4 : ((rk : Int) == 4) = true := by rw [h4]; rfl
        have HE : Hid (lgcR fn (lgC fn 0 L []) = (rk, rn, rs)) := by unfold Hid; rw [HR0.out, HST.out, if_pos h4]; rfl
        clear h4 HST
        obtain ⟨x0, x1, x2, z0, z1, z2⟩ := HX.out.cells
        have hXl := HX.out.lt
        obtain ⟨hq, hg⟩ := b3_set HX.out rk rn rs
        have hb5 := HB.out.grown hg HB.out.size (fun q hq => by injection hq with hq; omega)
        clear hg
        go_wp2_with fail
        generalize ((w3.setCell ⟨w.heap.size, 0, none⟩ (.int .u8 (rk : Int))).setCell ⟨w.heap.size, 1, none⟩ (.int .i64 rn)).setCell ⟨w.heap.size, 2, none⟩ (.string rs) = w5 at *
        obtain ⟨v0, v1, v2, _, _, _⟩ := hq.cells
        refine bodyPost_ret (v := .tuple #[.agg #[.int .u8 (rk : Int), .int .i64 rn, .string rs], .int .i64 0]) (by simp [results, Tryz.results41, go_sem, v0, v1, v2]) rfl ⟨by rw [HE.out]; rfl, hb5⟩
      · have hk4 : ((rk : Int) == 4) = false := by simp; omega
        rw [if_neg h4] at HST
        have HR := Lib.hid HST.out.symm
        have hws : w.heap.size + 1 ≤ w3.heap.size := HX.out.lt
        have hlm : M.length ≤ 1000 := by have := HM.out; omega
        clear h4 HST
        go_wp2_with (at_builtin; go_loud (refine wpList_appG rfl (.tmp 64) (.tmp 66) 22 rfl Tryz.underlying22 _ 32 infoV zeroV (by decide) (by decide) cellsV_len cellsV_one (w.heap.size + 1) _ M rfl (OwnOf.alloc HO.out _) _ 1 1 [(rk, rn, rs)] rfl (isOf_new _ _ _ _ rfl) (by omega) (by simp; omega) ?_; intro v5 w5 ho5 hg5 hr5; have hn5 : ∀ g, (Value.slice ua M.length uc).ownBlock = some g → w.heap.size + 1 ≤ g := fun g hg => (World.ownsRow.lt HO.out g hg).1; have l5 := valloc w3 (.cells #[.int .u8 (rk : Int), .int .i64 rn, .string rs] 26); have HX5 := Lib.hid ((HX.out.later l5).grownB hg5 (fun e => by have := hn5 _ e; omega)); have HB5 := Lib.hid ((vnext HB.out l5).grown hg5 (vnext HB.out l5).size (fun q hq => by have := hn5 _ hq; omega)); have HO5 := Lib.hid ho5; clear hg5 ho5 hr5 hn5 l5))
        exact ⟨⟨k + 1, M ++ [(rk, rn, rs)], by omega, by go_num, by have := HM.out; unfold Hid; simp; omega, HR.out, HO5.out, HB5.out, HX5.out⟩, by simp [intOf]; omega⟩
    · obtain rfl : k = n := by omega
      have hend := lgC_end (fn := fn) (L := L) (k := k) (by rw [HNL.out]; exact Nat.le_refl _) M
      rw [HR.out] at hend
      have hR := HR0.out.trans hend
      have HE : Hid (lgcR fn (lgC fn 0 L []) = lgV fn M) := by unfold Hid; rw [hR]; rfl
      have hml : M.length = L.length := by have := HM.out; have := HNL.out; omega
      obtain ⟨_, _, hse, hI⟩ := OwnOf.isOf cellsV_len HO.out
      cases hse
      have HI := Lib.hid hI
      have HON := Lib.hid (fun W (hB : Below w.heap.size w W) hI => HVL.out M hR W hB ua uc hI (HT.out.later hB))
      obtain ⟨⟨vk, vn, vs⟩, hr⟩ : ∃ r, lgV fn M = r := ⟨_, rfl⟩
      rw [hr] at HE HON
      unfold vOf at HON
      dsimp only at HON
      rw [← hml] at HON
      clear hI hr HVL hml hR hend HR HO HCV HV HR0
      go_wp2_with fail
      refine (HON.out _ HB.out HI.out).mono ?_
      rintro e w6 ⟨rfl, hB⟩
      replace HX := Lib.hid (HX.out.later hB)
      replace HB := Lib.hid (vnext HB.out hB)
      clear hB
      obtain ⟨x0, x1, x2, z0, z1, z2⟩ := HX.out.cells
      have hXl := HX.out.lt
      obtain ⟨hq, hg⟩ := b3_set HX.out vk vn vs
      have hb5 := HB.out.grown hg HB.out.size (fun q hq => by injection hq with hq; omega)
      clear hg
      go_wp2_with fail
      generalize ((w6.setCell ⟨w.heap.size, 0, none⟩ (.int .u8 (vk : Int))).setCell ⟨w.heap.size, 1, none⟩ (.int .i64 vn)).setCell ⟨w.heap.size, 2, none⟩ (.string vs) = w5 at *
      obtain ⟨v0, v1, v2, _, _, _⟩ := hq.cells
      refine bodyPost_ret (v := .tuple #[.agg #[.int .u8 (vk : Int), .int .i64 vn, .string vs], .int .i64 0]) (by simp [results, Tryz.results41, go_sem, v0, v1, v2]) rfl ⟨by rw [HE.out]; rfl, hb5⟩
theorem plcall_any (fn : Nat) (a : Option Addr) (n cap : Nat) (L : List V3) (w : World) (hL : IsV w a n L) (hn : n ≤ 1000) (hv : ∀ v ∈ L, v.2.2.size ≤ 2000 ∧ InI v.2.1) (hT : Tb w) :
    Calls Tryz.prog 22 #[.int .u8 (fn : Int), .slice a n cap] w fun e w' => e = .returned (.tuple #[vOf (callL fn L).1, .int .i64 (callL fn L).2]) ∧ Below w.heap.size w w' := by
  have hnl := hL.1
  by_cases h1 : fn < 20 ∨ 30 < fn
  · have e : callL fn L = (blV, 10) := if_pos h1
    rw [e]
    exact lcall_name fn h1 a n cap w
  by_cases h2 : L.length < (arV fn).1 ∨ (arV fn).2 < L.length
  · have e : callL fn L = (blV, 11) := by unfold callL; rw [if_neg h1, if_pos h2]
    rw [e]
    exact lcall_count fn (by omega) (by omega) a n cap hn (by omega) w
  by_cases h3 : okL L = false
  · have e : callL fn L = (blV, 2) := by unfold callL; rw [if_neg h1, if_neg h2, if_pos h3]
    rw [e]
    exact lcall_arg fn (by omega) (by omega) a n cap L w hL hn hv (by omega) h3 rfl
  have h4 : okL L = true := by cases h : okL L <;> simp_all
  by_cases h5 : fn = 25
  · subst h5
    have ha : ¬ (L.length < 2 ∨ 2 < L.length) := h2
    have e : callL 25 L = (ieV L, 0) := by unfold callL; rw [if_neg h1, if_neg h2, if_neg h3]; rfl
    rw [e]
    exact lcall_25 a n cap L w hL (by omega) hv h4
  by_cases h6 : fn = 26
  · subst h6
    have ha : ¬ (L.length < 1 ∨ 1 < L.length) := h2
    have e : callL 26 L = (isErV L, 0) := by unfold callL; rw [if_neg h1, if_neg h2, if_neg h3]; rfl
    rw [e]
    exact lcall_26 a n cap L w hL (by omega) hv h4
  rw [callL_conv h1 h2 h4 h5 h6]
  have hlo : (arV fn).1 ≤ n := by omega
  have hhi : n ≤ (arV fn).2 := by omega
  exact lcall_gen fn (by omega) a n cap L w hL hlo hhi hv h4 hT
theorem rlcall_any (fn : Nat) (a : Option Addr) (n cap : Nat) (L : List V3) (w : World) (hL : IsV w a n L) (hn : n ≤ 1000) (hv : ∀ v ∈ L, v.2.2.size ≤ 2000 ∧ InI v.2.1) (hT : Tb w) :
    Calls Tryz.prog 41 #[.int .u8 (fn : Int), .slice a n cap] w fun e w' => e = .returned (.tuple #[vOf (callL fn L).1, .int .i64 (callL fn L).2]) ∧ Below w.heap.size w w' := by
  have hnl := hL.1
  by_cases h1 : fn < 20 ∨ 30 < fn
  · have e : callL fn L = (blV, 10) := if_pos h1
    rw [e]
    exact rlcall_name fn h1 a n cap w
  by_cases h2 : L.length < (arV fn).1 ∨ (arV fn).2 < L.length
  · have e : callL fn L = (blV, 11) := by unfold callL; rw [if_neg h1, if_pos h2]
    rw [e]
    exact rlcall_count fn (by omega) (by omega) a n cap hn (by omega) w
  by_cases h3 : okL L = false
  · have e : callL fn L = (blV, 2) := by unfold callL; rw [if_neg h1, if_neg h2, if_pos h3]
    rw [e]
    exact rlcall_arg fn (by omega) (by omega) a n cap L w hL hn hv (by omega) h3
  have h4 : okL L = true := by cases h : okL L <;> simp_all
  by_cases h5 : fn = 25
  · subst h5
    have ha : ¬ (L.length < 2 ∨ 2 < L.length) := h2
    have e : callL 25 L = (ieV L, 0) := by unfold callL; rw [if_neg h1, if_neg h2, if_neg h3]; rfl
    rw [e]
    exact rlcall_25 a n cap L w hL (by omega) hv h4
  by_cases h6 : fn = 26
  · subst h6
    have ha : ¬ (L.length < 1 ∨ 1 < L.length) := h2
    have e : callL 26 L = (isErV L, 0) := by unfold callL; rw [if_neg h1, if_neg h2, if_neg h3]; rfl
    rw [e]
    exact rlcall_26 a n cap L w hL (by omega) hv h4
  rw [callL_conv h1 h2 h4 h5 h6]
  have hlo : (arV fn).1 ≤ n := by omega
  have hhi : n ≤ (arV fn).2 := by omega
  exact rlcall_gen fn (by omega) a n cap L w hL hlo hhi hv h4 hT
end Go.Proofs.YtdhahiodnmmkeaaGreatDoor.Va
/- The examples of the chapter of conditions. -/
namespace Go.Proofs.YtdhahiodnmmkeaaGreatDoor.Va
open Go Go.RowKit GM Sx
set_option linter.unusedVariables false
set_option maxRecDepth 100000 in
theorem awake15 (w : World) (h : Tb w) : Calls Tryz.prog 17 #[] w fun e w' => e = .returned (.bool true) ∧ Below w.heap.size w w' :=
  va_call (facts := []) (tab := []) (σ := symOf []) (symOf_one rfl) h foks_nil toks_nil (args := []) (v := .bool true) (by kernel_rfl) rfl rfl
end Go.Proofs.YtdhahiodnmmkeaaGreatDoor.Va
