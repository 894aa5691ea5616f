/- flogic: value (program). -/
import Derived.Test.YtdhahiodnmmkeaaGreatDoorMgk
namespace Go.Proofs.YtdhahiodnmmkeaaGreatDoor.Va
open Go Go.RowKit GM
set_option linter.unusedVariables false
set_option linter.unusedSimpArgs false
theorem lgV_20 (M : List V3) (h : 2 ≤ M.length) (h3 : M.length ≤ 3) : lgV 20 M = eitV (M.getD 0 blV) (M.drop 1) := by
  show (if (M.getD 0 blV).2.1 = 1 then M.getD 1 blV else if M.length = 3 then M.getD 2 blV else trV false) = _
  unfold eitV
  have e1 : (M.drop 1).getD 0 blV = M.getD 1 blV := by simp [List.getD_eq_getElem?_getD, List.getElem?_drop]
  have e2 : (M.drop 1).getD 1 blV = M.getD 2 blV := by simp [List.getD_eq_getElem?_getD, List.getElem?_drop]
  rw [e1, e2, List.length_drop]
  split
  · rfl
  · by_cases h9 : M.length = 3
    · rw [if_pos h9, if_neg (by omega)]
    · rw [if_neg h9, if_pos (by omega)]
theorem lgV_30 (M : List V3) (h : 1 ≤ M.length) : lgV 30 M = choV (M.getD 0 blV).2.1 (M.drop 1) := by
  show (if (M.getD 0 blV).2.1.tdiv 10000 < 1 ∨ (M.length : Int) ≤ (M.getD 0 blV).2.1.tdiv 10000 then flV 2 else M.getD ((M.getD 0 blV).2.1.tdiv 10000).toNat blV) = _
  unfold choV
  generalize (M.getD 0 blV).2.1.tdiv 10000 = q
  rw [List.length_drop]
  by_cases h9 : q < 1 ∨ (M.length : Int) ≤ q
  · rw [if_pos h9, if_pos (by omega)]
  · rw [if_neg h9, if_neg (by omega)]
    rw [List.getD_eq_getElem?_getD, List.getD_eq_getElem?_getD, List.getElem?_drop, show 1 + (q - 1).toNat = q.toNat by omega]
set_option maxRecDepth 100000 in
set_option maxHeartbeats 6400000 in
theorem pv_21 (a : Option Addr) (n cap : Nat) (M : List V3) (h1 : 1 ≤ n) (hn : n ≤ 1000) (hcp : n ≤ cap) (w : World) (hL : IsV w a n M) : Calls Tryz.prog 53 #[.int .u8 21, .slice a n cap] w fun e w' => e = .returned (vOf (lgV 21 M)) ∧ Below w.heap.size w w' := by
  have HX : Hid (B3 (w.alloc (.cells #[.int .u8 0, .int .i64 0, .string ⟨#[]⟩] 26)) w.heap.size 0 0 ⟨#[]⟩) := B3.start w 0 0 ⟨#[]⟩
  have HB := Lib.hid (valloc w (.cells #[.int .u8 0, .int .i64 0, .string ⟨#[]⟩] 26))
  have HL := Lib.hid hL
  have hnl := hL.1
  have h0 : 0 < M.length := by omega
  have hg0 := getD_at h0
  obtain ⟨b, off, rfl, hbl, c1, c2, c3⟩ := isV_at (IsOf.later HL.out HB.out) h0
  rw [Nat.zero_mul, Nat.add_zero] at c1 c2 c3
  rw [← hg0] at c1 c2 c3
  clear hL hg0
  generalize M.getD 0 blV = v at *
  have la := valloc (w.alloc (.cells #[.int .u8 0, .int .i64 0, .string ⟨#[]⟩] 26)) (.cells #[.int .u8 (v.1 : Int), .int .i64 v.2.1, .string v.2.2] 26)
  have HY := Lib.hid (B3.start (w.alloc (.cells #[.int .u8 0, .int .i64 0, .string ⟨#[]⟩] 26)) v.1 v.2.1 v.2.2)
  rw [World.size_alloc] at HY
  replace HX := Lib.hid (HX.out.later la)
  replace HB := Lib.hid (vnext HB.out la)
  clear la
  go_enter Tryz.func53, Tryz.ntmps53
  go_upto_region 2 with fail
  clear c1 c2 c3 hbl
  generalize (w.alloc (.cells #[.int .u8 0, .int .i64 0, .string ⟨#[]⟩] 26)).alloc (.cells #[.int .u8 (v.1 : Int), .int .i64 v.2.1, .string v.2.2] 26) = wa at *
  obtain ⟨y0, y1, y2, _, _, _⟩ := HY.out.cells
  have hyl := HY.out.lt
  have HFO := Lib.hid (fun W (hI : IsV W (some ⟨b, off, none⟩) n M) => fold_all (some ⟨b, off, none⟩) n cap M hn W hI)
  have HE := Lib.hid (show lgV 21 M = trV (M.all hB) from rfl)
  generalize M.all hB = bb at *
  go_wp2_with fail
  refine (HFO.out _ (IsOf.later HL.out HB.out)).mono ?_
  rintro e w2 ⟨rfl, hB⟩
  replace HX := Lib.hid (HX.out.later hB)
  replace HB := Lib.hid (vnext HB.out hB)
  clear hB
  go_wp2_with fail
  refine (truth_any bb _).mono ?_
  have HE9 := Lib.hid HE.out
  obtain ⟨z, hz⟩ : ∃ z, b2i bb = z := ⟨_, rfl⟩
  rw [hz]
  have HZ9 := Lib.hid hz
  clear hz
  rintro e w1 ⟨rfl, hB⟩
  have hX : B3 w1 w.heap.size 0 0 ⟨#[]⟩ := HX.out.later hB
  have HBW := Lib.hid (vnext HB.out hB)
  obtain ⟨x0, x1, x2, z0, z1, z2⟩ := hX.cells
  have hXl := hX.lt
  obtain ⟨hq, hg⟩ := b3_set hX 2 z ⟨#[]⟩
  have hb5 := HBW.out.grown hg HBW.out.size (fun q hq => by injection hq with hq; omega)
  clear hB hg
  go_wp2_with fail
  generalize ((w1.setCell ⟨w.heap.size, 0, none⟩ (.int .u8 2)).setCell ⟨w.heap.size, 1, none⟩ (.int .i64 z)).setCell ⟨w.heap.size, 2, none⟩ (.string ⟨#[]⟩) = w5 at *
  obtain ⟨y0, y1, y2, _, _, _⟩ := hq.cells
  refine bodyPost_ret (v := .agg #[.int .u8 2, .int .i64 z, .string ⟨#[]⟩]) (by simp [results, Tryz.results53, go_sem, y0, y1, y2]) rfl ⟨by rw [HE9.out]; unfold trV; rw [HZ9.out]; rfl, hb5⟩
set_option maxRecDepth 100000 in
set_option maxHeartbeats 6400000 in
theorem pv_22 (a : Option Addr) (n cap : Nat) (M : List V3) (h1 : 1 ≤ n) (hn : n ≤ 1000) (hcp : n ≤ cap) (w : World) (hL : IsV w a n M) : Calls Tryz.prog 53 #[.int .u8 22, .slice a n cap] w fun e w' => e = .returned (vOf (lgV 22 M)) ∧ Below w.heap.size w w' := by
  have HX : Hid (B3 (w.alloc (.cells #[.int .u8 0, .int .i64 0, .string ⟨#[]⟩] 26)) w.heap.size 0 0 ⟨#[]⟩) := B3.start w 0 0 ⟨#[]⟩
  have HB := Lib.hid (valloc w (.cells #[.int .u8 0, .int .i64 0, .string ⟨#[]⟩] 26))
  have HL := Lib.hid hL
  have hnl := hL.1
  have h0 : 0 < M.length := by omega
  have hg0 := getD_at h0
  obtain ⟨b, off, rfl, hbl, c1, c2, c3⟩ := isV_at (IsOf.later HL.out HB.out) h0
  rw [Nat.zero_mul, Nat.add_zero] at c1 c2 c3
  rw [← hg0] at c1 c2 c3
  clear hL hg0
  generalize M.getD 0 blV = v at *
  have la := valloc (w.alloc (.cells #[.int .u8 0, .int .i64 0, .string ⟨#[]⟩] 26)) (.cells #[.int .u8 (v.1 : Int), .int .i64 v.2.1, .string v.2.2] 26)
  have HY := Lib.hid (B3.start (w.alloc (.cells #[.int .u8 0, .int .i64 0, .string ⟨#[]⟩] 26)) v.1 v.2.1 v.2.2)
  rw [World.size_alloc] at HY
  replace HX := Lib.hid (HX.out.later la)
  replace HB := Lib.hid (vnext HB.out la)
  clear la
  go_enter Tryz.func53, Tryz.ntmps53
  go_upto_region 2 with fail
  clear c1 c2 c3 hbl
  generalize (w.alloc (.cells #[.int .u8 0, .int .i64 0, .string ⟨#[]⟩] 26)).alloc (.cells #[.int .u8 (v.1 : Int), .int .i64 v.2.1, .string v.2.2] 26) = wa at *
  obtain ⟨y0, y1, y2, _, _, _⟩ := HY.out.cells
  have hyl := HY.out.lt
  have HFO := Lib.hid (fun W (hI : IsV W (some ⟨b, off, none⟩) n M) => fold_any (some ⟨b, off, none⟩) n cap M hn W hI)
  have HE := Lib.hid (show lgV 22 M = trV (M.any hB) from rfl)
  generalize M.any hB = bb at *
  go_wp2_with fail
  refine (HFO.out _ (IsOf.later HL.out HB.out)).mono ?_
  rintro e w2 ⟨rfl, hB⟩
  replace HX := Lib.hid (HX.out.later hB)
  replace HB := Lib.hid (vnext HB.out hB)
  clear hB
  go_wp2_with fail
  refine (truth_any bb _).mono ?_
  have HE9 := Lib.hid HE.out
  obtain ⟨z, hz⟩ : ∃ z, b2i bb = z := ⟨_, rfl⟩
  rw [hz]
  have HZ9 := Lib.hid hz
  clear hz
  rintro e w1 ⟨rfl, hB⟩
  have hX : B3 w1 w.heap.size 0 0 ⟨#[]⟩ := HX.out.later hB
  have HBW := Lib.hid (vnext HB.out hB)
  obtain ⟨x0, x1, x2, z0, z1, z2⟩ := hX.cells
  have hXl := hX.lt
  obtain ⟨hq, hg⟩ := b3_set hX 2 z ⟨#[]⟩
  have hb5 := HBW.out.grown hg HBW.out.size (fun q hq => by injection hq with hq; omega)
  clear hB hg
  go_wp2_with fail
  generalize ((w1.setCell ⟨w.heap.size, 0, none⟩ (.int .u8 2)).setCell ⟨w.heap.size, 1, none⟩ (.int .i64 z)).setCell ⟨w.heap.size, 2, none⟩ (.string ⟨#[]⟩) = w5 at *
  obtain ⟨y0, y1, y2, _, _, _⟩ := hq.cells
  refine bodyPost_ret (v := .agg #[.int .u8 2, .int .i64 z, .string ⟨#[]⟩]) (by simp [results, Tryz.results53, go_sem, y0, y1, y2]) rfl ⟨by rw [HE9.out]; unfold trV; rw [HZ9.out]; rfl, hb5⟩
theorem count_any (a : Option Addr) (n cap : Nat) (L : List V3) (hn : n ≤ 1000) (w : World) (hL : IsV w a n L) : Calls Tryz.prog 97 #[.slice a n cap] w fun e w' => e = .returned (.int .i64 (trues L : Int)) ∧ Below w.heap.size w w' := by
  have HFO := Lib.hid (fun W hI => fold_cnt a n cap L hn W hI)
  go_enter Tryz.func97, Tryz.ntmps97
  go_wp2_with fail
  refine (HFO.out _ hL).mono ?_
  rintro e w1 ⟨rfl, hB⟩
  have HB := Lib.hid hB
  clear hB
  go_wp2_with fail
  go_ret
  exact ⟨rfl, HB.out⟩
set_option maxRecDepth 100000 in
set_option maxHeartbeats 6400000 in
theorem pv_23 (a : Option Addr) (n cap : Nat) (M : List V3) (h1 : 1 ≤ n) (hn : n ≤ 1000) (hcp : n ≤ cap) (w : World) (hL : IsV w a n M) : Calls Tryz.prog 53 #[.int .u8 23, .slice a n cap] w fun e w' => e = .returned (vOf (lgV 23 M)) ∧ Below w.heap.size w w' := by
  have HX : Hid (B3 (w.alloc (.cells #[.int .u8 0, .int .i64 0, .string ⟨#[]⟩] 26)) w.heap.size 0 0 ⟨#[]⟩) := B3.start w 0 0 ⟨#[]⟩
  have HB := Lib.hid (valloc w (.cells #[.int .u8 0, .int .i64 0, .string ⟨#[]⟩] 26))
  have HL := Lib.hid hL
  have hnl := hL.1
  have h0 : 0 < M.length := by omega
  have hg0 := getD_at h0
  obtain ⟨b, off, rfl, hbl, c1, c2, c3⟩ := isV_at (IsOf.later HL.out HB.out) h0
  rw [Nat.zero_mul, Nat.add_zero] at c1 c2 c3
  rw [← hg0] at c1 c2 c3
  clear hL hg0
  generalize M.getD 0 blV = v at *
  have la := valloc (w.alloc (.cells #[.int .u8 0, .int .i64 0, .string ⟨#[]⟩] 26)) (.cells #[.int .u8 (v.1 : Int), .int .i64 v.2.1, .string v.2.2] 26)
  have HY := Lib.hid (B3.start (w.alloc (.cells #[.int .u8 0, .int .i64 0, .string ⟨#[]⟩] 26)) v.1 v.2.1 v.2.2)
  rw [World.size_alloc] at HY
  replace HX := Lib.hid (HX.out.later la)
  replace HB := Lib.hid (vnext HB.out la)
  clear la
  go_enter Tryz.func53, Tryz.ntmps53
  go_upto_region 2 with fail
  clear c1 c2 c3 hbl
  generalize (w.alloc (.cells #[.int .u8 0, .int .i64 0, .string ⟨#[]⟩] 26)).alloc (.cells #[.int .u8 (v.1 : Int), .int .i64 v.2.1, .string v.2.2] 26) = wa at *
  obtain ⟨y0, y1, y2, _, _, _⟩ := HY.out.cells
  have hyl := HY.out.lt
  have HFO := Lib.hid (fun W (hI : IsV W (some ⟨b, off, none⟩) n M) => fold_cnt (some ⟨b, off, none⟩) n cap M hn W hI)
  have HE := Lib.hid (show lgV 23 M = trV (decide (trues M % 2 = 1)) from rfl)
  have htl := trues_le M
  obtain ⟨bb, hbb⟩ : ∃ bb, decide (trues M % 2 = 1) = bb := ⟨_, rfl⟩
  rw [hbb] at HE
  have HFC : Hid (∀ W, IsV W (some ⟨b, off, none⟩) n M → Calls Tryz.prog 97 #[.slice (some ⟨b, off, none⟩) n cap] W fun e w' => e = .returned (.int .i64 (trues M : Int)) ∧ Below W.heap.size W w') := fun W hI => count_any _ n cap M hn W hI
  generalize trues M = t at *
  have e1 : ((t : Int) % 2 == 1) = bb := by
    rw [← hbb]
    by_cases h : t % 2 = 1 <;> simp [h] <;> omega
  go_wp2_with fail
  refine (HFC.out _ (IsOf.later HL.out HB.out)).mono ?_
  rintro e w2 ⟨rfl, hB⟩
  replace HX := Lib.hid (HX.out.later hB)
  replace HB := Lib.hid (vnext HB.out hB)
  clear hB
  go_wp2_with fail
  refine (truth_any bb _).mono ?_
  have HE9 := Lib.hid HE.out
  obtain ⟨z, hz⟩ : ∃ z, b2i bb = z := ⟨_, rfl⟩
  rw [hz]
  have HZ9 := Lib.hid hz
  clear hz
  rintro e w1 ⟨rfl, hB⟩
  have hX : B3 w1 w.heap.size 0 0 ⟨#[]⟩ := HX.out.later hB
  have HBW := Lib.hid (vnext HB.out hB)
  obtain ⟨x0, x1, x2, z0, z1, z2⟩ := hX.cells
  have hXl := hX.lt
  obtain ⟨hq, hg⟩ := b3_set hX 2 z ⟨#[]⟩
  have hb5 := HBW.out.grown hg HBW.out.size (fun q hq => by injection hq with hq; omega)
  clear hB hg
  go_wp2_with fail
  generalize ((w1.setCell ⟨w.heap.size, 0, none⟩ (.int .u8 2)).setCell ⟨w.heap.size, 1, none⟩ (.int .i64 z)).setCell ⟨w.heap.size, 2, none⟩ (.string ⟨#[]⟩) = w5 at *
  obtain ⟨y0, y1, y2, _, _, _⟩ := hq.cells
  refine bodyPost_ret (v := .agg #[.int .u8 2, .int .i64 z, .string ⟨#[]⟩]) (by simp [results, Tryz.results53, go_sem, y0, y1, y2]) rfl ⟨by rw [HE9.out]; unfold trV; rw [HZ9.out]; rfl, hb5⟩
set_option maxRecDepth 100000 in
set_option maxHeartbeats 6400000 in
theorem pv_24 (a : Option Addr) (n cap : Nat) (M : List V3) (h1 : 1 ≤ n) (hn : n ≤ 1000) (hcp : n ≤ cap) (w : World) (hL : IsV w a n M) : Calls Tryz.prog 53 #[.int .u8 24, .slice a n cap] w fun e w' => e = .returned (vOf (lgV 24 M)) ∧ Below w.heap.size w w' := by
  have HX : Hid (B3 (w.alloc (.cells #[.int .u8 0, .int .i64 0, .string ⟨#[]⟩] 26)) w.heap.size 0 0 ⟨#[]⟩) := B3.start w 0 0 ⟨#[]⟩
  have HB := Lib.hid (valloc w (.cells #[.int .u8 0, .int .i64 0, .string ⟨#[]⟩] 26))
  have HL := Lib.hid hL
  have hnl := hL.1
  have h0 : 0 < M.length := by omega
  have hg0 := getD_at h0
  obtain ⟨b, off, rfl, hbl, c1, c2, c3⟩ := isV_at (IsOf.later HL.out HB.out) h0
  rw [Nat.zero_mul, Nat.add_zero] at c1 c2 c3
  rw [← hg0] at c1 c2 c3
  clear hL hg0
  have GV24 : lgV 24 M = trV (!(hB (M.getD 0 blV))) := rfl
  generalize M.getD 0 blV = v at *
  have la := valloc (w.alloc (.cells #[.int .u8 0, .int .i64 0, .string ⟨#[]⟩] 26)) (.cells #[.int .u8 (v.1 : Int), .int .i64 v.2.1, .string v.2.2] 26)
  have HY := Lib.hid (B3.start (w.alloc (.cells #[.int .u8 0, .int .i64 0, .string ⟨#[]⟩] 26)) v.1 v.2.1 v.2.2)
  rw [World.size_alloc] at HY
  replace HX := Lib.hid (HX.out.later la)
  replace HB := Lib.hid (vnext HB.out la)
  clear la
  go_enter Tryz.func53, Tryz.ntmps53
  go_upto_region 2 with fail
  clear c1 c2 c3 hbl
  generalize (w.alloc (.cells #[.int .u8 0, .int .i64 0, .string ⟨#[]⟩] 26)).alloc (.cells #[.int .u8 (v.1 : Int), .int .i64 v.2.1, .string v.2.2] 26) = wa at *
  obtain ⟨y0, y1, y2, _, _, _⟩ := HY.out.cells
  have hyl := HY.out.lt
  have HE := Lib.hid (show lgV 24 M = trV (!(hB v)) from GV24)
  have HHO := Lib.hid (fun W => holds_any v W)
  rw [show decide (v.2.1 = 1) = hB v from rfl] at HHO
  generalize hB v = hb at *
  go_wp2_with fail
  refine (HHO.out _).mono ?_
  rintro e w2 ⟨rfl, hB⟩
  replace HX := Lib.hid (HX.out.later hB)
  replace HB := Lib.hid (vnext HB.out hB)
  clear hB
  go_wp2_with fail
  refine (truth_any (!hb) _).mono ?_
  have HE9 := Lib.hid HE.out
  obtain ⟨z, hz⟩ : ∃ z, b2i (!hb) = z := ⟨_, rfl⟩
  rw [hz]
  have HZ9 := Lib.hid hz
  clear hz
  rintro e w1 ⟨rfl, hB⟩
  have hX : B3 w1 w.heap.size 0 0 ⟨#[]⟩ := HX.out.later hB
  have HBW := Lib.hid (vnext HB.out hB)
  obtain ⟨x0, x1, x2, z0, z1, z2⟩ := hX.cells
  have hXl := hX.lt
  obtain ⟨hq, hg⟩ := b3_set hX 2 z ⟨#[]⟩
  have hb5 := HBW.out.grown hg HBW.out.size (fun q hq => by injection hq with hq; omega)
  clear hB hg
  go_wp2_with fail
  generalize ((w1.setCell ⟨w.heap.size, 0, none⟩ (.int .u8 2)).setCell ⟨w.heap.size, 1, none⟩ (.int .i64 z)).setCell ⟨w.heap.size, 2, none⟩ (.string ⟨#[]⟩) = w5 at *
  obtain ⟨y0, y1, y2, _, _, _⟩ := hq.cells
  refine bodyPost_ret (v := .agg #[.int .u8 2, .int .i64 z, .string ⟨#[]⟩]) (by simp [results, Tryz.results53, go_sem, y0, y1, y2]) rfl ⟨by rw [HE9.out]; unfold trV; rw [HZ9.out]; rfl, hb5⟩
set_option maxRecDepth 100000 in
set_option maxHeartbeats 6400000 in
theorem pv_27 (a : Option Addr) (n cap : Nat) (M : List V3) (h1 : 1 ≤ n) (hn : n ≤ 1000) (hcp : n ≤ cap) (w : World) (hL : IsV w a n M) : Calls Tryz.prog 53 #[.int .u8 27, .slice a n cap] w fun e w' => e = .returned (vOf (lgV 27 M)) ∧ Below w.heap.size w w' := by
  have HX : Hid (B3 (w.alloc (.cells #[.int .u8 0, .int .i64 0, .string ⟨#[]⟩] 26)) w.heap.size 0 0 ⟨#[]⟩) := B3.start w 0 0 ⟨#[]⟩
  have HB := Lib.hid (valloc w (.cells #[.int .u8 0, .int .i64 0, .string ⟨#[]⟩] 26))
  have HL := Lib.hid hL
  have hnl := hL.1
  have h0 : 0 < M.length := by omega
  have hg0 := getD_at h0
  obtain ⟨b, off, rfl, hbl, c1, c2, c3⟩ := isV_at (IsOf.later HL.out HB.out) h0
  rw [Nat.zero_mul, Nat.add_zero] at c1 c2 c3
  rw [← hg0] at c1 c2 c3
  clear hL hg0
  have GV27 : lgV 27 M = trV (decide ((M.getD 0 blV).1 = 0)) := rfl
  generalize M.getD 0 blV = v at *
  have la := valloc (w.alloc (.cells #[.int .u8 0, .int .i64 0, .string ⟨#[]⟩] 26)) (.cells #[.int .u8 (v.1 : Int), .int .i64 v.2.1, .string v.2.2] 26)
  have HY := Lib.hid (B3.start (w.alloc (.cells #[.int .u8 0, .int .i64 0, .string ⟨#[]⟩] 26)) v.1 v.2.1 v.2.2)
  rw [World.size_alloc] at HY
  replace HX := Lib.hid (HX.out.later la)
  replace HB := Lib.hid (vnext HB.out la)
  clear la
  go_enter Tryz.func53, Tryz.ntmps53
  go_upto_region 2 with fail
  clear c1 c2 c3 hbl
  generalize (w.alloc (.cells #[.int .u8 0, .int .i64 0, .string ⟨#[]⟩] 26)).alloc (.cells #[.int .u8 (v.1 : Int), .int .i64 v.2.1, .string v.2.2] 26) = wa at *
  obtain ⟨y0, y1, y2, _, _, _⟩ := HY.out.cells
  have hyl := HY.out.lt
  have HE := Lib.hid (show lgV 27 M = trV (decide (v.1 = 0)) from GV27)
  by_cases h9 : v.1 = 0
  · have e1 : ((v.1 : Int) == 0) = true := by simp; omega
    rw [decide_eq_true h9] at HE
    clear h9
    go_wp2_with fail
    refine (truth_any true _).mono ?_
    have HE9 := Lib.hid HE.out
    obtain ⟨z, hz⟩ : ∃ z, b2i true = z := ⟨_, rfl⟩
    rw [hz]
    have HZ9 := Lib.hid hz
    clear hz
    rintro e w1 ⟨rfl, hB⟩
    have hX : B3 w1 w.heap.size 0 0 ⟨#[]⟩ := HX.out.later hB
    have HBW := Lib.hid (vnext HB.out hB)
    obtain ⟨x0, x1, x2, z0, z1, z2⟩ := hX.cells
    have hXl := hX.lt
    obtain ⟨hq, hg⟩ := b3_set hX 2 z ⟨#[]⟩
    have hb5 := HBW.out.grown hg HBW.out.size (fun q hq => by injection hq with hq; omega)
    clear hB hg
    go_wp2_with fail
    generalize ((w1.setCell ⟨w.heap.size, 0, none⟩ (.int .u8 2)).setCell ⟨w.heap.size, 1, none⟩ (.int .i64 z)).setCell ⟨w.heap.size, 2, none⟩ (.string ⟨#[]⟩) = w5 at *
    obtain ⟨y0, y1, y2, _, _, _⟩ := hq.cells
    refine bodyPost_ret (v := .agg #[.int .u8 2, .int .i64 z, .string ⟨#[]⟩]) (by simp [results, Tryz.results53, go_sem, y0, y1, y2]) rfl ⟨by rw [HE9.out]; unfold trV; rw [HZ9.out]; rfl, hb5⟩
  · have e1 : ((v.1 : Int) == 0) = false := by simp; omega
    rw [decide_eq_false h9] at HE
    clear h9
    go_wp2_with fail
    refine (truth_any false _).mono ?_
    have HE9 := Lib.hid HE.out
    obtain ⟨z, hz⟩ : ∃ z, b2i false = z := ⟨_, rfl⟩
    rw [hz]
    have HZ9 := Lib.hid hz
    clear hz
    rintro e w1 ⟨rfl, hB⟩
    have hX : B3 w1 w.heap.size 0 0 ⟨#[]⟩ := HX.out.later hB
    have HBW := Lib.hid (vnext HB.out hB)
    obtain ⟨x0, x1, x2, z0, z1, z2⟩ := hX.cells
    have hXl := hX.lt
    obtain ⟨hq, hg⟩ := b3_set hX 2 z ⟨#[]⟩
    have hb5 := HBW.out.grown hg HBW.out.size (fun q hq => by injection hq with hq; omega)
    clear hB hg
    go_wp2_with fail
    generalize ((w1.setCell ⟨w.heap.size, 0, none⟩ (.int .u8 2)).setCell ⟨w.heap.size, 1, none⟩ (.int .i64 z)).setCell ⟨w.heap.size, 2, none⟩ (.string ⟨#[]⟩) = w5 at *
    obtain ⟨y0, y1, y2, _, _, _⟩ := hq.cells
    refine bodyPost_ret (v := .agg #[.int .u8 2, .int .i64 z, .string ⟨#[]⟩]) (by simp [results, Tryz.results53, go_sem, y0, y1, y2]) rfl ⟨by rw [HE9.out]; unfold trV; rw [HZ9.out]; rfl, hb5⟩
set_option maxRecDepth 100000 in
set_option maxHeartbeats 6400000 in
theorem pv_28 (a : Option Addr) (n cap : Nat) (M : List V3) (h1 : 1 ≤ n) (hn : n ≤ 1000) (hcp : n ≤ cap) (w : World) (hL : IsV w a n M) : Calls Tryz.prog 53 #[.int .u8 28, .slice a n cap] w fun e w' => e = .returned (vOf (lgV 28 M)) ∧ Below w.heap.size w w' := by
  have HX : Hid (B3 (w.alloc (.cells #[.int .u8 0, .int .i64 0, .string ⟨#[]⟩] 26)) w.heap.size 0 0 ⟨#[]⟩) := B3.start w 0 0 ⟨#[]⟩
  have HB := Lib.hid (valloc w (.cells #[.int .u8 0, .int .i64 0, .string ⟨#[]⟩] 26))
  have HL := Lib.hid hL
  have hnl := hL.1
  have h0 : 0 < M.length := by omega
  have hg0 := getD_at h0
  obtain ⟨b, off, rfl, hbl, c1, c2, c3⟩ := isV_at (IsOf.later HL.out HB.out) h0
  rw [Nat.zero_mul, Nat.add_zero] at c1 c2 c3
  rw [← hg0] at c1 c2 c3
  clear hL hg0
  have GV28 : lgV 28 M = trV (decide ((M.getD 0 blV).1 = 1)) := rfl
  generalize M.getD 0 blV = v at *
  have la := valloc (w.alloc (.cells #[.int .u8 0, .int .i64 0, .string ⟨#[]⟩] 26)) (.cells #[.int .u8 (v.1 : Int), .int .i64 v.2.1, .string v.2.2] 26)
  have HY := Lib.hid (B3.start (w.alloc (.cells #[.int .u8 0, .int .i64 0, .string ⟨#[]⟩] 26)) v.1 v.2.1 v.2.2)
  rw [World.size_alloc] at HY
  replace HX := Lib.hid (HX.out.later la)
  replace HB := Lib.hid (vnext HB.out la)
  clear la
  go_enter Tryz.func53, Tryz.ntmps53
  go_upto_region 2 with fail
  clear c1 c2 c3 hbl
  generalize (w.alloc (.cells #[.int .u8 0, .int .i64 0, .string ⟨#[]⟩] 26)).alloc (.cells #[.int .u8 (v.1 : Int), .int .i64 v.2.1, .string v.2.2] 26) = wa at *
  obtain ⟨y0, y1, y2, _, _, _⟩ := HY.out.cells
  have hyl := HY.out.lt
  have HE := Lib.hid (show lgV 28 M = trV (decide (v.1 = 1)) from GV28)
  by_cases h9 : v.1 = 1
  · have e1 : ((v.1 : Int) == 1) = true := by simp; omega
    rw [decide_eq_true h9] at HE
    clear h9
    go_wp2_with fail
    refine (truth_any true _).mono ?_
    have HE9 := Lib.hid HE.out
    obtain ⟨z, hz⟩ : ∃ z, b2i true = z := ⟨_, rfl⟩
    rw [hz]
    have HZ9 := Lib.hid hz
    clear hz
    rintro e w1 ⟨rfl, hB⟩
    have hX : B3 w1 w.heap.size 0 0 ⟨#[]⟩ := HX.out.later hB
    have HBW := Lib.hid (vnext HB.out hB)
    obtain ⟨x0, x1, x2, z0, z1, z2⟩ := hX.cells
    have hXl := hX.lt
    obtain ⟨hq, hg⟩ := b3_set hX 2 z ⟨#[]⟩
    have hb5 := HBW.out.grown hg HBW.out.size (fun q hq => by injection hq with hq; omega)
    clear hB hg
    go_wp2_with fail
    generalize ((w1.setCell ⟨w.heap.size, 0, none⟩ (.int .u8 2)).setCell ⟨w.heap.size, 1, none⟩ (.int .i64 z)).setCell ⟨w.heap.size, 2, none⟩ (.string ⟨#[]⟩) = w5 at *
    obtain ⟨y0, y1, y2, _, _, _⟩ := hq.cells
    refine bodyPost_ret (v := .agg #[.int .u8 2, .int .i64 z, .string ⟨#[]⟩]) (by simp [results, Tryz.results53, go_sem, y0, y1, y2]) rfl ⟨by rw [HE9.out]; unfold trV; rw [HZ9.out]; rfl, hb5⟩
  · have e1 : ((v.1 : Int) == 1) = false := by simp; omega
    rw [decide_eq_false h9] at HE
    clear h9
    go_wp2_with fail
    refine (truth_any false _).mono ?_
    have HE9 := Lib.hid HE.out
    obtain ⟨z, hz⟩ : ∃ z, b2i false = z := ⟨_, rfl⟩
    rw [hz]
    have HZ9 := Lib.hid hz
    clear hz
    rintro e w1 ⟨rfl, hB⟩
    have hX : B3 w1 w.heap.size 0 0 ⟨#[]⟩ := HX.out.later hB
    have HBW := Lib.hid (vnext HB.out hB)
    obtain ⟨x0, x1, x2, z0, z1, z2⟩ := hX.cells
    have hXl := hX.lt
    obtain ⟨hq, hg⟩ := b3_set hX 2 z ⟨#[]⟩
    have hb5 := HBW.out.grown hg HBW.out.size (fun q hq => by injection hq with hq; omega)
    clear hB hg
    go_wp2_with fail
    generalize ((w1.setCell ⟨w.heap.size, 0, none⟩ (.int .u8 2)).setCell ⟨w.heap.size, 1, none⟩ (.int .i64 z)).setCell ⟨w.heap.size, 2, none⟩ (.string ⟨#[]⟩) = w5 at *
    obtain ⟨y0, y1, y2, _, _, _⟩ := hq.cells
    refine bodyPost_ret (v := .agg #[.int .u8 2, .int .i64 z, .string ⟨#[]⟩]) (by simp [results, Tryz.results53, go_sem, y0, y1, y2]) rfl ⟨by rw [HE9.out]; unfold trV; rw [HZ9.out]; rfl, hb5⟩
set_option maxRecDepth 100000 in
set_option maxHeartbeats 6400000 in
theorem pv_29 (a : Option Addr) (n cap : Nat) (M : List V3) (h1 : 1 ≤ n) (hn : n ≤ 1000) (hcp : n ≤ cap) (w : World) (hL : IsV w a n M) : Calls Tryz.prog 53 #[.int .u8 29, .slice a n cap] w fun e w' => e = .returned (vOf (lgV 29 M)) ∧ Below w.heap.size w w' := by
  have HX : Hid (B3 (w.alloc (.cells #[.int .u8 0, .int .i64 0, .string ⟨#[]⟩] 26)) w.heap.size 0 0 ⟨#[]⟩) := B3.start w 0 0 ⟨#[]⟩
  have HB := Lib.hid (valloc w (.cells #[.int .u8 0, .int .i64 0, .string ⟨#[]⟩] 26))
  have HL := Lib.hid hL
  have hnl := hL.1
  have h0 : 0 < M.length := by omega
  have hg0 := getD_at h0
  obtain ⟨b, off, rfl, hbl, c1, c2, c3⟩ := isV_at (IsOf.later HL.out HB.out) h0
  rw [Nat.zero_mul, Nat.add_zero] at c1 c2 c3
  rw [← hg0] at c1 c2 c3
  clear hL hg0
  have GV29 : lgV 29 M = trV (decide ((M.getD 0 blV).1 = 3)) := rfl
  generalize M.getD 0 blV = v at *
  have la := valloc (w.alloc (.cells #[.int .u8 0, .int .i64 0, .string ⟨#[]⟩] 26)) (.cells #[.int .u8 (v.1 : Int), .int .i64 v.2.1, .string v.2.2] 26)
  have HY := Lib.hid (B3.start (w.alloc (.cells #[.int .u8 0, .int .i64 0, .string ⟨#[]⟩] 26)) v.1 v.2.1 v.2.2)
  rw [World.size_alloc] at HY
  replace HX := Lib.hid (HX.out.later la)
  replace HB := Lib.hid (vnext HB.out la)
  clear la
  go_enter Tryz.func53, Tryz.ntmps53
  go_upto_region 2 with fail
  clear c1 c2 c3 hbl
  generalize (w.alloc (.cells #[.int .u8 0, .int .i64 0, .string ⟨#[]⟩] 26)).alloc (.cells #[.int .u8 (v.1 : Int), .int .i64 v.2.1, .string v.2.2] 26) = wa at *
  obtain ⟨y0, y1, y2, _, _, _⟩ := HY.out.cells
  have hyl := HY.out.lt
  have HE := Lib.hid (show lgV 29 M = trV (decide (v.1 = 3)) from GV29)
  by_cases h9 : v.1 = 3
  · have e1 : ((v.1 : Int) == 3) = true := by simp; omega
    rw [decide_eq_true h9] at HE
    clear h9
    go_wp2_with fail
    refine (truth_any true _).mono ?_
    have HE9 := Lib.hid HE.out
    obtain ⟨z, hz⟩ : ∃ z, b2i true = z := ⟨_, rfl⟩
    rw [hz]
    have HZ9 := Lib.hid hz
    clear hz
    rintro e w1 ⟨rfl, hB⟩
    have hX : B3 w1 w.heap.size 0 0 ⟨#[]⟩ := HX.out.later hB
    have HBW := Lib.hid (vnext HB.out hB)
    obtain ⟨x0, x1, x2, z0, z1, z2⟩ := hX.cells
    have hXl := hX.lt
    obtain ⟨hq, hg⟩ := b3_set hX 2 z ⟨#[]⟩
    have hb5 := HBW.out.grown hg HBW.out.size (fun q hq => by injection hq with hq; omega)
    clear hB hg
    go_wp2_with fail
    generalize ((w1.setCell ⟨w.heap.size, 0, none⟩ (.int .u8 2)).setCell ⟨w.heap.size, 1, none⟩ (.int .i64 z)).setCell ⟨w.heap.size, 2, none⟩ (.string ⟨#[]⟩) = w5 at *
    obtain ⟨y0, y1, y2, _, _, _⟩ := hq.cells
    refine bodyPost_ret (v := .agg #[.int .u8 2, .int .i64 z, .string ⟨#[]⟩]) (by simp [results, Tryz.results53, go_sem, y0, y1, y2]) rfl ⟨by rw [HE9.out]; unfold trV; rw [HZ9.out]; rfl, hb5⟩
  · have e1 : ((v.1 : Int) == 3) = false := by simp; omega
    rw [decide_eq_false h9] at HE
    clear h9
    go_wp2_with fail
    refine (truth_any false _).mono ?_
    have HE9 := Lib.hid HE.out
    obtain ⟨z, hz⟩ : ∃ z, b2i false = z := ⟨_, rfl⟩
    rw [hz]
    have HZ9 := Lib.hid hz
    clear hz
    rintro e w1 ⟨rfl, hB⟩
    have hX : B3 w1 w.heap.size 0 0 ⟨#[]⟩ := HX.out.later hB
    have HBW := Lib.hid (vnext HB.out hB)
    obtain ⟨x0, x1, x2, z0, z1, z2⟩ := hX.cells
    have hXl := hX.lt
    obtain ⟨hq, hg⟩ := b3_set hX 2 z ⟨#[]⟩
    have hb5 := HBW.out.grown hg HBW.out.size (fun q hq => by injection hq with hq; omega)
    clear hB hg
    go_wp2_with fail
    generalize ((w1.setCell ⟨w.heap.size, 0, none⟩ (.int .u8 2)).setCell ⟨w.heap.size, 1, none⟩ (.int .i64 z)).setCell ⟨w.heap.size, 2, none⟩ (.string ⟨#[]⟩) = w5 at *
    obtain ⟨y0, y1, y2, _, _, _⟩ := hq.cells
    refine bodyPost_ret (v := .agg #[.int .u8 2, .int .i64 z, .string ⟨#[]⟩]) (by simp [results, Tryz.results53, go_sem, y0, y1, y2]) rfl ⟨by rw [HE9.out]; unfold trV; rw [HZ9.out]; rfl, hb5⟩
set_option maxRecDepth 100000 in
set_option maxHeartbeats 6400000 in
theorem pv_20 (a : Option Addr) (n cap : Nat) (M : List V3) (h1 : 1 ≤ n) (hn : n ≤ 1000) (hcp : n ≤ cap) (w : World) (hL : IsV w a n M) (hl2 : 2 ≤ n) (hl3 : n ≤ 3) : Calls Tryz.prog 53 #[.int .u8 20, .slice a n cap] w fun e w' => e = .returned (vOf (lgV 20 M)) ∧ Below w.heap.size w w' := by
  have HX : Hid (B3 (w.alloc (.cells #[.int .u8 0, .int .i64 0, .string ⟨#[]⟩] 26)) w.heap.size 0 0 ⟨#[]⟩) := B3.start w 0 0 ⟨#[]⟩
  have HB := Lib.hid (valloc w (.cells #[.int .u8 0, .int .i64 0, .string ⟨#[]⟩] 26))
  have HL := Lib.hid hL
  have hnl := hL.1
  have h0 : 0 < M.length := by omega
  have hg0 := getD_at h0
  have HE := Lib.hid (lgV_20 M (by omega) (by omega))
  obtain ⟨b, off, rfl, hbl, c1, c2, c3⟩ := isV_at (IsOf.later HL.out HB.out) h0
  rw [Nat.zero_mul, Nat.add_zero] at c1 c2 c3
  rw [← hg0] at c1 c2 c3
  clear hL hg0
  generalize M.getD 0 blV = v at *
  have la := valloc (w.alloc (.cells #[.int .u8 0, .int .i64 0, .string ⟨#[]⟩] 26)) (.cells #[.int .u8 (v.1 : Int), .int .i64 v.2.1, .string v.2.2] 26)
  have HY := Lib.hid (B3.start (w.alloc (.cells #[.int .u8 0, .int .i64 0, .string ⟨#[]⟩] 26)) v.1 v.2.1 v.2.2)
  rw [World.size_alloc] at HY
  replace HX := Lib.hid (HX.out.later la)
  replace HB := Lib.hid (vnext HB.out la)
  clear la
  go_enter Tryz.func53, Tryz.ntmps53
  go_upto_region 2 with fail
  clear c1 c2 c3 hbl
  generalize (w.alloc (.cells #[.int .u8 0, .int .i64 0, .string ⟨#[]⟩] 26)).alloc (.cells #[.int .u8 (v.1 : Int), .int .i64 v.2.1, .string v.2.2] 26) = wa at *
  obtain ⟨y0, y1, y2, _, _, _⟩ := HY.out.cells
  have hyl := HY.out.lt
  have HTL := Lib.hid (isV_tail (IsOf.later HL.out HB.out) 1 (by omega))
  have HV := Lib.hid (fun W (hB : Below wa.heap.size wa W) (hI : IsV W (some ⟨b, off + 3, none⟩) (n - 1) (M.drop 1)) => either_any v (some ⟨b, off + 3, none⟩) (n - 1) (cap - 1) (M.drop 1) (by omega) (by omega) W hI)
  obtain ⟨⟨vk, vn, vs⟩, hr⟩ : ∃ r, lgV 20 M = r := ⟨_, rfl⟩
  rw [hr] at HE
  have HR9 := Lib.hid hr
  rw [← HE.out] at HV
  unfold vOf at HV
  dsimp only at HV
  clear hr HE
  have hi1 : (1 : Int) ≤ (n : Int) := by omega
  have hc1 : ¬ cap = 1 := by omega
  have HI2 : Hid (IsV wa (some ⟨b, off + 3, none⟩) (n - 1) (M.drop 1)) := HTL.out
  have hyx : w.heap.size ≠ w.heap.size + 1 := by omega
  go_wp2_with fail
  go_region_law (first
    | (go_simp; refine (HV.out wa.drew (Below.refl _ wa).drew HI2.out).mono ?_; rintro e w1 ⟨rfl, hB⟩; have hX : B3 w1 w.heap.size 0 0 ⟨#[]⟩ := B3.later (w := wa.drew) HX.out hB; have HBW := Lib.hid (vnext HB.out.drew hB); obtain ⟨x0, x1, x2, z0, z1, z2⟩ := hX.cells; have hXl := hX.lt; obtain ⟨hq, hg⟩ := b3_set hX vk vn vs; have HQ := Lib.hid hq; have HB5 := Lib.hid (HBW.out.grown hg HBW.out.size (fun q hq => by injection hq with hq; omega)); clear hB hg hq)
    | fail)
  all_goals
    go_wp2_with fail
    generalize ((w1.setCell ⟨w.heap.size, 0, none⟩ (.int .u8 (vk : Int))).setCell ⟨w.heap.size, 1, none⟩ (.int .i64 vn)).setCell ⟨w.heap.size, 2, none⟩ (.string vs) = w5 at *
    obtain ⟨v0, v1, v2, _, _, _⟩ := HQ.out.cells
    refine bodyPost_ret (v := .agg #[.int .u8 (vk : Int), .int .i64 vn, .string vs]) (by simp [results, Tryz.results53, go_sem, v0, v1, v2]) rfl ⟨by rw [HR9.out]; rfl, HB5.out⟩
set_option maxRecDepth 100000 in
set_option maxHeartbeats 6400000 in
theorem pv_30 (a : Option Addr) (n cap : Nat) (M : List V3) (h1 : 1 ≤ n) (hn : n ≤ 1000) (hcp : n ≤ cap) (w : World) (hL : IsV w a n M) (hl2 : 2 ≤ n) (x : Int) (hx1 : -9223372036854775808 < x) (hx2 : x ≤ 9223372036854775807) (hM0 : M.getD 0 blV = (1, x, ⟨#[]⟩)) (hT : Tb w) : Calls Tryz.prog 53 #[.int .u8 30, .slice a n cap] w fun e w' => e = .returned (vOf (lgV 30 M)) ∧ Below w.heap.size w w' := by
  have HX : Hid (B3 (w.alloc (.cells #[.int .u8 0, .int .i64 0, .string ⟨#[]⟩] 26)) w.heap.size 0 0 ⟨#[]⟩) := B3.start w 0 0 ⟨#[]⟩
  have HB := Lib.hid (valloc w (.cells #[.int .u8 0, .int .i64 0, .string ⟨#[]⟩] 26))
  have HL := Lib.hid hL
  have hnl := hL.1
  have h0 : 0 < M.length := by omega
  have hg0 := getD_at h0
  have HE := Lib.hid (lgV_30 M (by omega))
  rw [hM0] at HE
  obtain ⟨b, off, rfl, hbl, c1, c2, c3⟩ := isV_at (IsOf.later HL.out HB.out) h0
  rw [Nat.zero_mul, Nat.add_zero] at c1 c2 c3
  rw [← hg0] at c1 c2 c3
  rw [hM0] at c1 c2 c3
  clear hL hg0
  have la := valloc (w.alloc (.cells #[.int .u8 0, .int .i64 0, .string ⟨#[]⟩] 26)) (.cells #[.int .u8 1, .int .i64 x, .string ⟨#[]⟩] 26)
  have HY := Lib.hid (B3.start (w.alloc (.cells #[.int .u8 0, .int .i64 0, .string ⟨#[]⟩] 26)) 1 x ⟨#[]⟩)
  rw [World.size_alloc] at HY
  replace HX := Lib.hid (HX.out.later la)
  replace HB := Lib.hid (vnext HB.out la)
  clear la
  go_enter Tryz.func53, Tryz.ntmps53
  go_upto_region 2 with fail
  clear c1 c2 c3 hbl
  generalize (w.alloc (.cells #[.int .u8 0, .int .i64 0, .string ⟨#[]⟩] 26)).alloc (.cells #[.int .u8 1, .int .i64 x, .string ⟨#[]⟩] 26) = wa at *
  obtain ⟨y0, y1, y2, _, _, _⟩ := HY.out.cells
  have hyl := HY.out.lt
  have HTL := Lib.hid (isV_tail (IsOf.later HL.out HB.out) 1 (by omega))
  have HV := Lib.hid (fun W (hB : Below wa.heap.size wa W) (hI : IsV W (some ⟨b, off + 3, none⟩) (n - 1) (M.drop 1)) => chosen_any x hx1 hx2 (some ⟨b, off + 3, none⟩) (n - 1) (cap - 1) (M.drop 1) (by omega) W hI (hT.later (vnext HB.out hB)))
  obtain ⟨⟨vk, vn, vs⟩, hr⟩ : ∃ r, lgV 30 M = r := ⟨_, rfl⟩
  rw [hr] at HE
  have HR9 := Lib.hid hr
  rw [← HE.out] at HV
  unfold vOf at HV
  dsimp only at HV
  clear hr HE
  have hi1 : (1 : Int) ≤ (n : Int) := by omega
  have hc1 : ¬ cap = 1 := by omega
  have HI2 : Hid (IsV wa (some ⟨b, off + 3, none⟩) (n - 1) (M.drop 1)) := HTL.out
  have hyx : w.heap.size ≠ w.heap.size + 1 := by omega
  go_wp2_with fail
  go_region_law (first
    | (go_simp; refine (HV.out wa.drew (Below.refl _ wa).drew HI2.out).mono ?_; rintro e w1 ⟨rfl, hB⟩; have hX : B3 w1 w.heap.size 0 0 ⟨#[]⟩ := B3.later (w := wa.drew) HX.out hB; have HBW := Lib.hid (vnext HB.out.drew hB); obtain ⟨x0, x1, x2, z0, z1, z2⟩ := hX.cells; have hXl := hX.lt; obtain ⟨hq, hg⟩ := b3_set hX vk vn vs; have HQ := Lib.hid hq; have HB5 := Lib.hid (HBW.out.grown hg HBW.out.size (fun q hq => by injection hq with hq; omega)); clear hB hg hq)
    | fail)
  all_goals
    go_wp2_with fail
    generalize ((w1.setCell ⟨w.heap.size, 0, none⟩ (.int .u8 (vk : Int))).setCell ⟨w.heap.size, 1, none⟩ (.int .i64 vn)).setCell ⟨w.heap.size, 2, none⟩ (.string vs) = w5 at *
    obtain ⟨v0, v1, v2, _, _, _⟩ := HQ.out.cells
    refine bodyPost_ret (v := .agg #[.int .u8 (vk : Int), .int .i64 vn, .string vs]) (by simp [results, Tryz.results53, go_sem, v0, v1, v2]) rfl ⟨by rw [HR9.out]; rfl, HB5.out⟩
end Go.Proofs.YtdhahiodnmmkeaaGreatDoor.Va
