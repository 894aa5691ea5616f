/- flogic: the reference's value. -/
import Derived.Test.YtdhahiodnmmkeaaGreatDoorLgD
namespace Go.Proofs.YtdhahiodnmmkeaaGreatDoor.Va
open Go Go.RowKit GM
set_option linter.unusedVariables false
set_option linter.unusedSimpArgs false
def h2B (v : V3) : Bool := decide (v.1 = 2) && decide (v.2.1 = 1)
def trues2 (L : List V3) : Nat := L.countP h2B
theorem trues2_step {L : List V3} {k : Nat} (h : k < L.length) : trues2 (L.take (k + 1)) = trues2 (L.take k) + if h2B L[k] then 1 else 0 := by
  unfold trues2
  rw [List.take_succ_eq_append_getElem h, List.countP_append, List.countP_singleton]
theorem trues2_le (L : List V3) : trues2 L ≤ L.length := List.countP_le_length
theorem trues2_eq {L : List V3} (h : ∀ v ∈ L, v.1 = 2) : trues2 L = trues L := by
  unfold trues2 trues
  refine List.countP_congr fun v hv => ?_
  unfold h2B hB
  simp [h v hv]
theorem trues_all (L : List V3) : (trues L = L.length) ↔ L.all hB = true := by
  unfold trues
  rw [List.countP_eq_length, List.all_eq_true]
theorem trues_any (L : List V3) : (0 < trues L) ↔ L.any hB = true := by
  unfold trues
  rw [List.countP_pos_iff, List.any_eq_true]
set_option maxRecDepth 100000 in
set_option maxHeartbeats 6400000 in
theorem rlv_21 (a : Option Addr) (n cap : Nat) (M : List V3) (h1 : 1 ≤ n) (hn : n ≤ 1000) (w : World) (hL : IsV w a n M) (hK : ∀ v ∈ M, v.1 = 2) : Calls Tryz.prog 85 #[.int .u8 21, .slice a n cap] w fun e w' => e = .returned (vOf (lgV 21 M)) ∧ Below w.heap.size w w' := by
  have HX : Hid (B3 (w.alloc (.cells #[.int .u8 0, .int .i64 0, .string ⟨#[]⟩] 26)) w.heap.size 0 0 ⟨#[]⟩) := B3.start w 0 0 ⟨#[]⟩
  have HB := Lib.hid (valloc w (.cells #[.int .u8 0, .int .i64 0, .string ⟨#[]⟩] 26))
  have HL := Lib.hid hL
  have HNL := Lib.hid hL.1
  have HK2 := Lib.hid (trues2_eq hK)
  clear hL
  go_enter Tryz.func85, Tryz.ntmps85
  go_wp2_with fail
  generalize w.alloc (.cells #[.int .u8 0, .int .i64 0, .string ⟨#[]⟩] 26) = wa at *
  go_loopw [5, 6] (fun u i wr => ∃ k : Nat, k ≤ n ∧ u = .int .i64 ((trues2 (M.take k) : Nat) : Int) ∧ i = .int .i64 (k : Int) ∧ wr = wa) (fun _ i _ => n - (intOf i).toNat)
  case atStart => exact ⟨0, Nat.zero_le _, rfl, rfl, rfl⟩
  case round =>
    obtain ⟨k, hk, rfl, rfl, rfl⟩ := hrel
    by_cases hlt : k < n
    · have hkl : k < M.length := by rw [HNL.out]; exact hlt
      obtain ⟨b, off, rfl, hbl, c1, c2, c3⟩ := isV_at (IsOf.later HL.out HB.out) hkl
      have HST := Lib.hid (trues2_step hkl)
      have hbn : trues2 (M.take k) ≤ 1000 := by have := trues2_le (M.take k); rw [List.length_take] at this; omega
      generalize trues2 (M.take k) = t at *
      by_cases q1 : M[k].1 = 2
      · have e1 : ((M[k].1 : Int) == 2) = true := by simp; omega
        by_cases q2 : M[k].2.1 = 1
        · have e2 : (M[k].2.1 == 1) = true := by simpa using q2
          have HSB : Hid (trues2 (M.take (k + 1)) = t + 1) := by unfold Hid; rw [HST.out]; unfold h2B; rw [decide_eq_true q1, decide_eq_true q2]; rfl
          generalize M[k] = v at *
          clear q1 q2 HST
          go_wp2_with fail
          exact ⟨⟨k + 1, by omega, by rw [HSB.out]; simp, by go_num, trivial⟩, by simp [intOf]; omega⟩
        · have e2 : (M[k].2.1 == 1) = false := by simpa using q2
          have HSB : Hid (trues2 (M.take (k + 1)) = t) := by unfold Hid; rw [HST.out]; unfold h2B; rw [decide_eq_true q1, decide_eq_false q2]; rfl
          generalize M[k] = v at *
          clear q1 q2 HST
          go_wp2_with fail
          exact ⟨⟨k + 1, by omega, by rw [HSB.out], by go_num, trivial⟩, by simp [intOf]; omega⟩
      · have e1 : ((M[k].1 : Int) == 2) = false := by simp; omega
        have HSB : Hid (trues2 (M.take (k + 1)) = t) := by unfold Hid; rw [HST.out]; unfold h2B; rw [decide_eq_false q1]; rfl
        generalize M[k] = v at *
        clear q1 HST
        go_wp2_with fail
        exact ⟨⟨k + 1, by omega, by rw [HSB.out], by go_num, trivial⟩, by simp [intOf]; omega⟩
    · obtain rfl : k = n := by omega
      have htk : M.take k = M := List.take_of_length_le (by rw [HNL.out]; exact Nat.le_refl _)
      rw [htk]
      have hbn := trues2_le M
      rw [HNL.out] at hbn
      clear htk hk hlt
      have HE := Lib.hid (show lgV 21 M = trV (M.all hB) from rfl)
      obtain ⟨bb, hbb⟩ : ∃ bb, M.all hB = bb := ⟨_, rfl⟩
      rw [HK2.out] at *
      have hnl := HNL.out
      have e1 : ((trues M : Int) == (k : Int)) = bb := by
        have := trues_all M
        rw [hnl] at this
        rw [← hbb]
        by_cases h : trues M = k
        · rw [this.1 h, h]; simp
        · have h2 : M.all hB = false := by cases hh : M.all hB <;> simp_all
          rw [h2]; simp; omega
      rw [hbb] at HE
      clear hbb hnl
      generalize trues M = t at *
      have HE9 := Lib.hid HE.out
      obtain ⟨z, hz⟩ : ∃ z, b2i bb = z := ⟨_, rfl⟩
      have HTR := Lib.hid (fun W => rtruth_any bb W)
      rw [hz] at HTR
      have HZ9 := Lib.hid hz
      clear hz
      go_wp2_with fail
      refine (HTR.out _).mono ?_
      rintro e w1 ⟨rfl, hB⟩
      have hX : B3 w1 w.heap.size 0 0 ⟨#[]⟩ := HX.out.later hB
      have HBW := Lib.hid (vnext HB.out hB)
      obtain ⟨x0, x1, x2, z0, z1, z2⟩ := hX.cells
      have hXl := hX.lt
      obtain ⟨hq, hg⟩ := b3_set hX 2 z ⟨#[]⟩
      have hb5 := HBW.out.grown hg HBW.out.size (fun q hq => by injection hq with hq; omega)
      clear hB hg
      go_wp2_with fail
      generalize ((w1.setCell ⟨w.heap.size, 0, none⟩ (.int .u8 2)).setCell ⟨w.heap.size, 1, none⟩ (.int .i64 z)).setCell ⟨w.heap.size, 2, none⟩ (.string ⟨#[]⟩) = w5 at *
      obtain ⟨y0, y1, y2, _, _, _⟩ := hq.cells
      refine bodyPost_ret (v := .agg #[.int .u8 2, .int .i64 z, .string ⟨#[]⟩]) (by simp [results, Tryz.results85, go_sem, y0, y1, y2]) rfl ⟨by rw [HE9.out]; unfold trV; rw [HZ9.out]; rfl, hb5⟩
set_option maxRecDepth 100000 in
set_option maxHeartbeats 6400000 in
theorem rlv_22 (a : Option Addr) (n cap : Nat) (M : List V3) (h1 : 1 ≤ n) (hn : n ≤ 1000) (w : World) (hL : IsV w a n M) (hK : ∀ v ∈ M, v.1 = 2) : Calls Tryz.prog 85 #[.int .u8 22, .slice a n cap] w fun e w' => e = .returned (vOf (lgV 22 M)) ∧ Below w.heap.size w w' := by
  have HX : Hid (B3 (w.alloc (.cells #[.int .u8 0, .int .i64 0, .string ⟨#[]⟩] 26)) w.heap.size 0 0 ⟨#[]⟩) := B3.start w 0 0 ⟨#[]⟩
  have HB := Lib.hid (valloc w (.cells #[.int .u8 0, .int .i64 0, .string ⟨#[]⟩] 26))
  have HL := Lib.hid hL
  have HNL := Lib.hid hL.1
  have HK2 := Lib.hid (trues2_eq hK)
  clear hL
  go_enter Tryz.func85, Tryz.ntmps85
  go_wp2_with fail
  generalize w.alloc (.cells #[.int .u8 0, .int .i64 0, .string ⟨#[]⟩] 26) = wa at *
  go_loopw [5, 6] (fun u i wr => ∃ k : Nat, k ≤ n ∧ u = .int .i64 ((trues2 (M.take k) : Nat) : Int) ∧ i = .int .i64 (k : Int) ∧ wr = wa) (fun _ i _ => n - (intOf i).toNat)
  case atStart => exact ⟨0, Nat.zero_le _, rfl, rfl, rfl⟩
  case round =>
    obtain ⟨k, hk, rfl, rfl, rfl⟩ := hrel
    by_cases hlt : k < n
    · have hkl : k < M.length := by rw [HNL.out]; exact hlt
      obtain ⟨b, off, rfl, hbl, c1, c2, c3⟩ := isV_at (IsOf.later HL.out HB.out) hkl
      have HST := Lib.hid (trues2_step hkl)
      have hbn : trues2 (M.take k) ≤ 1000 := by have := trues2_le (M.take k); rw [List.length_take] at this; omega
      generalize trues2 (M.take k) = t at *
      by_cases q1 : M[k].1 = 2
      · have e1 : ((M[k].1 : Int) == 2) = true := by simp; omega
        by_cases q2 : M[k].2.1 = 1
        · have e2 : (M[k].2.1 == 1) = true := by simpa using q2
          have HSB : Hid (trues2 (M.take (k + 1)) = t + 1) := by unfold Hid; rw [HST.out]; unfold h2B; rw [decide_eq_true q1, decide_eq_true q2]; rfl
          generalize M[k] = v at *
          clear q1 q2 HST
          go_wp2_with fail
          exact ⟨⟨k + 1, by omega, by rw [HSB.out]; simp, by go_num, trivial⟩, by simp [intOf]; omega⟩
        · have e2 : (M[k].2.1 == 1) = false := by simpa using q2
          have HSB : Hid (trues2 (M.take (k + 1)) = t) := by unfold Hid; rw [HST.out]; unfold h2B; rw [decide_eq_true q1, decide_eq_false q2]; rfl
          generalize M[k] = v at *
          clear q1 q2 HST
          go_wp2_with fail
          exact ⟨⟨k + 1, by omega, by rw [HSB.out], by go_num, trivial⟩, by simp [intOf]; omega⟩
      · have e1 : ((M[k].1 : Int) == 2) = false := by simp; omega
        have HSB : Hid (trues2 (M.take (k + 1)) = t) := by unfold Hid; rw [HST.out]; unfold h2B; rw [decide_eq_false q1]; rfl
        generalize M[k] = v at *
        clear q1 HST
        go_wp2_with fail
        exact ⟨⟨k + 1, by omega, by rw [HSB.out], by go_num, trivial⟩, by simp [intOf]; omega⟩
    · obtain rfl : k = n := by omega
      have htk : M.take k = M := List.take_of_length_le (by rw [HNL.out]; exact Nat.le_refl _)
      rw [htk]
      have hbn := trues2_le M
      rw [HNL.out] at hbn
      clear htk hk hlt
      have HE := Lib.hid (show lgV 22 M = trV (M.any hB) from rfl)
      obtain ⟨bb, hbb⟩ : ∃ bb, M.any hB = bb := ⟨_, rfl⟩
      rw [HK2.out] at *
      have hnl := HNL.out
      have e1 : decide (0 < trues M) = bb := by
        have := trues_any M
        rw [← hbb]
        by_cases h : 0 < trues M
        · rw [this.1 h]; simp; omega
        · have h2 : M.any hB = false := by cases hh : M.any hB <;> simp_all
          rw [h2]; simp; omega
      rw [hbb] at HE
      clear hbb hnl
      generalize trues M = t at *
      have HE9 := Lib.hid HE.out
      obtain ⟨z, hz⟩ : ∃ z, b2i bb = z := ⟨_, rfl⟩
      have HTR := Lib.hid (fun W => rtruth_any bb W)
      rw [hz] at HTR
      have HZ9 := Lib.hid hz
      clear hz
      go_wp2_with fail
      refine (HTR.out _).mono ?_
      rintro e w1 ⟨rfl, hB⟩
      have hX : B3 w1 w.heap.size 0 0 ⟨#[]⟩ := HX.out.later hB
      have HBW := Lib.hid (vnext HB.out hB)
      obtain ⟨x0, x1, x2, z0, z1, z2⟩ := hX.cells
      have hXl := hX.lt
      obtain ⟨hq, hg⟩ := b3_set hX 2 z ⟨#[]⟩
      have hb5 := HBW.out.grown hg HBW.out.size (fun q hq => by injection hq with hq; omega)
      clear hB hg
      go_wp2_with fail
      generalize ((w1.setCell ⟨w.heap.size, 0, none⟩ (.int .u8 2)).setCell ⟨w.heap.size, 1, none⟩ (.int .i64 z)).setCell ⟨w.heap.size, 2, none⟩ (.string ⟨#[]⟩) = w5 at *
      obtain ⟨y0, y1, y2, _, _, _⟩ := hq.cells
      refine bodyPost_ret (v := .agg #[.int .u8 2, .int .i64 z, .string ⟨#[]⟩]) (by simp [results, Tryz.results85, go_sem, y0, y1, y2]) rfl ⟨by rw [HE9.out]; unfold trV; rw [HZ9.out]; rfl, hb5⟩
set_option maxRecDepth 100000 in
set_option maxHeartbeats 6400000 in
theorem rlv_23 (a : Option Addr) (n cap : Nat) (M : List V3) (h1 : 1 ≤ n) (hn : n ≤ 1000) (w : World) (hL : IsV w a n M) (hK : ∀ v ∈ M, v.1 = 2) : Calls Tryz.prog 85 #[.int .u8 23, .slice a n cap] w fun e w' => e = .returned (vOf (lgV 23 M)) ∧ Below w.heap.size w w' := by
  have HX : Hid (B3 (w.alloc (.cells #[.int .u8 0, .int .i64 0, .string ⟨#[]⟩] 26)) w.heap.size 0 0 ⟨#[]⟩) := B3.start w 0 0 ⟨#[]⟩
  have HB := Lib.hid (valloc w (.cells #[.int .u8 0, .int .i64 0, .string ⟨#[]⟩] 26))
  have HL := Lib.hid hL
  have HNL := Lib.hid hL.1
  have HK2 := Lib.hid (trues2_eq hK)
  clear hL
  go_enter Tryz.func85, Tryz.ntmps85
  go_wp2_with fail
  generalize w.alloc (.cells #[.int .u8 0, .int .i64 0, .string ⟨#[]⟩] 26) = wa at *
  go_loopw [5, 6] (fun u i wr => ∃ k : Nat, k ≤ n ∧ u = .int .i64 ((trues2 (M.take k) : Nat) : Int) ∧ i = .int .i64 (k : Int) ∧ wr = wa) (fun _ i _ => n - (intOf i).toNat)
  case atStart => exact ⟨0, Nat.zero_le _, rfl, rfl, rfl⟩
  case round =>
    obtain ⟨k, hk, rfl, rfl, rfl⟩ := hrel
    by_cases hlt : k < n
    · have hkl : k < M.length := by rw [HNL.out]; exact hlt
      obtain ⟨b, off, rfl, hbl, c1, c2, c3⟩ := isV_at (IsOf.later HL.out HB.out) hkl
      have HST := Lib.hid (trues2_step hkl)
      have hbn : trues2 (M.take k) ≤ 1000 := by have := trues2_le (M.take k); rw [List.length_take] at this; omega
      generalize trues2 (M.take k) = t at *
      by_cases q1 : M[k].1 = 2
      · have e1 : ((M[k].1 : Int) == 2) = true := by simp; omega
        by_cases q2 : M[k].2.1 = 1
        · have e2 : (M[k].2.1 == 1) = true := by simpa using q2
          have HSB : Hid (trues2 (M.take (k + 1)) = t + 1) := by unfold Hid; rw [HST.out]; unfold h2B; rw [decide_eq_true q1, decide_eq_true q2]; rfl
          generalize M[k] = v at *
          clear q1 q2 HST
          go_wp2_with fail
          exact ⟨⟨k + 1, by omega, by rw [HSB.out]; simp, by go_num, trivial⟩, by simp [intOf]; omega⟩
        · have e2 : (M[k].2.1 == 1) = false := by simpa using q2
          have HSB : Hid (trues2 (M.take (k + 1)) = t) := by unfold Hid; rw [HST.out]; unfold h2B; rw [decide_eq_true q1, decide_eq_false q2]; rfl
          generalize M[k] = v at *
          clear q1 q2 HST
          go_wp2_with fail
          exact ⟨⟨k + 1, by omega, by rw [HSB.out], by go_num, trivial⟩, by simp [intOf]; omega⟩
      · have e1 : ((M[k].1 : Int) == 2) = false := by simp; omega
        have HSB : Hid (trues2 (M.take (k + 1)) = t) := by unfold Hid; rw [HST.out]; unfold h2B; rw [decide_eq_false q1]; rfl
        generalize M[k] = v at *
        clear q1 HST
        go_wp2_with fail
        exact ⟨⟨k + 1, by omega, by rw [HSB.out], by go_num, trivial⟩, by simp [intOf]; omega⟩
    · obtain rfl : k = n := by omega
      have htk : M.take k = M := List.take_of_length_le (by rw [HNL.out]; exact Nat.le_refl _)
      rw [htk]
      have hbn := trues2_le M
      rw [HNL.out] at hbn
      clear htk hk hlt
      have HE := Lib.hid (show lgV 23 M = trV (decide (trues M % 2 = 1)) from rfl)
      obtain ⟨bb, hbb⟩ : ∃ bb, decide (trues M % 2 = 1) = bb := ⟨_, rfl⟩
      rw [HK2.out] at *
      have hnl := HNL.out
      have e1 : ((trues M : Int) % 2 == 1) = bb := by
        rw [← hbb]
        by_cases h : trues M % 2 = 1 <;> simp [h] <;> omega
      rw [hbb] at HE
      clear hbb hnl
      generalize trues M = t at *
      have HE9 := Lib.hid HE.out
      obtain ⟨z, hz⟩ : ∃ z, b2i bb = z := ⟨_, rfl⟩
      have HTR := Lib.hid (fun W => rtruth_any bb W)
      rw [hz] at HTR
      have HZ9 := Lib.hid hz
      clear hz
      go_wp2_with fail
      refine (HTR.out _).mono ?_
      rintro e w1 ⟨rfl, hB⟩
      have hX : B3 w1 w.heap.size 0 0 ⟨#[]⟩ := HX.out.later hB
      have HBW := Lib.hid (vnext HB.out hB)
      obtain ⟨x0, x1, x2, z0, z1, z2⟩ := hX.cells
      have hXl := hX.lt
      obtain ⟨hq, hg⟩ := b3_set hX 2 z ⟨#[]⟩
      have hb5 := HBW.out.grown hg HBW.out.size (fun q hq => by injection hq with hq; omega)
      clear hB hg
      go_wp2_with fail
      generalize ((w1.setCell ⟨w.heap.size, 0, none⟩ (.int .u8 2)).setCell ⟨w.heap.size, 1, none⟩ (.int .i64 z)).setCell ⟨w.heap.size, 2, none⟩ (.string ⟨#[]⟩) = w5 at *
      obtain ⟨y0, y1, y2, _, _, _⟩ := hq.cells
      refine bodyPost_ret (v := .agg #[.int .u8 2, .int .i64 z, .string ⟨#[]⟩]) (by simp [results, Tryz.results85, go_sem, y0, y1, y2]) rfl ⟨by rw [HE9.out]; unfold trV; rw [HZ9.out]; rfl, hb5⟩
set_option maxRecDepth 100000 in
set_option maxHeartbeats 6400000 in
theorem rlv_24 (a : Option Addr) (n cap : Nat) (M : List V3) (h1 : 1 ≤ n) (hn : n ≤ 1000) (w : World) (hL : IsV w a n M) (hK : ∀ v ∈ M, v.1 = 2) (hn1 : n = 1) : Calls Tryz.prog 85 #[.int .u8 24, .slice a n cap] w fun e w' => e = .returned (vOf (lgV 24 M)) ∧ Below w.heap.size w w' := by
  have HX : Hid (B3 (w.alloc (.cells #[.int .u8 0, .int .i64 0, .string ⟨#[]⟩] 26)) w.heap.size 0 0 ⟨#[]⟩) := B3.start w 0 0 ⟨#[]⟩
  have HB := Lib.hid (valloc w (.cells #[.int .u8 0, .int .i64 0, .string ⟨#[]⟩] 26))
  have HL := Lib.hid hL
  have HNL := Lib.hid hL.1
  have HK2 := Lib.hid (trues2_eq hK)
  clear hL
  go_enter Tryz.func85, Tryz.ntmps85
  go_wp2_with fail
  generalize w.alloc (.cells #[.int .u8 0, .int .i64 0, .string ⟨#[]⟩] 26) = wa at *
  go_loopw [5, 6] (fun u i wr => ∃ k : Nat, k ≤ n ∧ u = .int .i64 ((trues2 (M.take k) : Nat) : Int) ∧ i = .int .i64 (k : Int) ∧ wr = wa) (fun _ i _ => n - (intOf i).toNat)
  case atStart => exact ⟨0, Nat.zero_le _, rfl, rfl, rfl⟩
  case round =>
    obtain ⟨k, hk, rfl, rfl, rfl⟩ := hrel
    by_cases hlt : k < n
    · have hkl : k < M.length := by rw [HNL.out]; exact hlt
      obtain ⟨b, off, rfl, hbl, c1, c2, c3⟩ := isV_at (IsOf.later HL.out HB.out) hkl
      have HST := Lib.hid (trues2_step hkl)
      have hbn : trues2 (M.take k) ≤ 1000 := by have := trues2_le (M.take k); rw [List.length_take] at this; omega
      generalize trues2 (M.take k) = t at *
      by_cases q1 : M[k].1 = 2
      · have e1 : ((M[k].1 : Int) == 2) = true := by simp; omega
        by_cases q2 : M[k].2.1 = 1
        · have e2 : (M[k].2.1 == 1) = true := by simpa using q2
          have HSB : Hid (trues2 (M.take (k + 1)) = t + 1) := by unfold Hid; rw [HST.out]; unfold h2B; rw [decide_eq_true q1, decide_eq_true q2]; rfl
          generalize M[k] = v at *
          clear q1 q2 HST
          go_wp2_with fail
          exact ⟨⟨k + 1, by omega, by rw [HSB.out]; simp, by go_num, trivial⟩, by simp [intOf]; omega⟩
        · have e2 : (M[k].2.1 == 1) = false := by simpa using q2
          have HSB : Hid (trues2 (M.take (k + 1)) = t) := by unfold Hid; rw [HST.out]; unfold h2B; rw [decide_eq_true q1, decide_eq_false q2]; rfl
          generalize M[k] = v at *
          clear q1 q2 HST
          go_wp2_with fail
          exact ⟨⟨k + 1, by omega, by rw [HSB.out], by go_num, trivial⟩, by simp [intOf]; omega⟩
      · have e1 : ((M[k].1 : Int) == 2) = false := by simp; omega
        have HSB : Hid (trues2 (M.take (k + 1)) = t) := by unfold Hid; rw [HST.out]; unfold h2B; rw [decide_eq_false q1]; rfl
        generalize M[k] = v at *
        clear q1 HST
        go_wp2_with fail
        exact ⟨⟨k + 1, by omega, by rw [HSB.out], by go_num, trivial⟩, by simp [intOf]; omega⟩
    · obtain rfl : k = n := by omega
      have htk : M.take k = M := List.take_of_length_le (by rw [HNL.out]; exact Nat.le_refl _)
      rw [htk]
      have hbn := trues2_le M
      rw [HNL.out] at hbn
      clear htk hk hlt
      have HE := Lib.hid (show lgV 24 M = trV (!(hB (M.getD 0 blV))) from rfl)
      obtain ⟨bb, hbb⟩ : ∃ bb, (!(hB (M.getD 0 blV))) = bb := ⟨_, rfl⟩
      rw [HK2.out] at *
      have e1 : ((trues M : Int) == 0) = bb := by
        have hl := HNL.out
        match M, hl with
        | [v], _ =>
          rw [← hbb]
          show (((List.countP hB [v] : Nat) : Int) == 0) = !(hB v)
          rw [List.countP_singleton]
          cases hB v <;> rfl
        | [], hl => simp at hl; omega
        | u :: v :: l, hl => simp at hl; omega
      rw [hbb] at HE
      clear hbb
      generalize trues M = t at *
      have HE9 := Lib.hid HE.out
      obtain ⟨z, hz⟩ : ∃ z, b2i bb = z := ⟨_, rfl⟩
      have HTR := Lib.hid (fun W => rtruth_any bb W)
      rw [hz] at HTR
      have HZ9 := Lib.hid hz
      clear hz
      go_wp2_with fail
      refine (HTR.out _).mono ?_
      rintro e w1 ⟨rfl, hB⟩
      have hX : B3 w1 w.heap.size 0 0 ⟨#[]⟩ := HX.out.later hB
      have HBW := Lib.hid (vnext HB.out hB)
      obtain ⟨x0, x1, x2, z0, z1, z2⟩ := hX.cells
      have hXl := hX.lt
      obtain ⟨hq, hg⟩ := b3_set hX 2 z ⟨#[]⟩
      have hb5 := HBW.out.grown hg HBW.out.size (fun q hq => by injection hq with hq; omega)
      clear hB hg
      go_wp2_with fail
      generalize ((w1.setCell ⟨w.heap.size, 0, none⟩ (.int .u8 2)).setCell ⟨w.heap.size, 1, none⟩ (.int .i64 z)).setCell ⟨w.heap.size, 2, none⟩ (.string ⟨#[]⟩) = w5 at *
      obtain ⟨y0, y1, y2, _, _, _⟩ := hq.cells
      refine bodyPost_ret (v := .agg #[.int .u8 2, .int .i64 z, .string ⟨#[]⟩]) (by simp [results, Tryz.results85, go_sem, y0, y1, y2]) rfl ⟨by rw [HE9.out]; unfold trV; rw [HZ9.out]; rfl, hb5⟩
set_option maxRecDepth 100000 in
set_option maxHeartbeats 6400000 in
theorem rlv_27 (a : Option Addr) (n cap : Nat) (M : List V3) (h1 : 1 ≤ n) (hn : n ≤ 1000) (w : World) (hL : IsV w a n M) : Calls Tryz.prog 85 #[.int .u8 27, .slice a n cap] w fun e w' => e = .returned (vOf (lgV 27 M)) ∧ Below w.heap.size w w' := by
  have HX : Hid (B3 (w.alloc (.cells #[.int .u8 0, .int .i64 0, .string ⟨#[]⟩] 26)) w.heap.size 0 0 ⟨#[]⟩) := B3.start w 0 0 ⟨#[]⟩
  have HB := Lib.hid (valloc w (.cells #[.int .u8 0, .int .i64 0, .string ⟨#[]⟩] 26))
  have HL := Lib.hid hL
  have HNL := Lib.hid hL.1
  clear hL
  go_enter Tryz.func85, Tryz.ntmps85
  go_wp2_with fail
  generalize w.alloc (.cells #[.int .u8 0, .int .i64 0, .string ⟨#[]⟩] 26) = wa at *
  go_loopw [5, 6] (fun u i wr => ∃ k : Nat, k ≤ n ∧ u = .int .i64 ((trues2 (M.take k) : Nat) : Int) ∧ i = .int .i64 (k : Int) ∧ wr = wa) (fun _ i _ => n - (intOf i).toNat)
  case atStart => exact ⟨0, Nat.zero_le _, rfl, rfl, rfl⟩
  case round =>
    obtain ⟨k, hk, rfl, rfl, rfl⟩ := hrel
    by_cases hlt : k < n
    · have hkl : k < M.length := by rw [HNL.out]; exact hlt
      obtain ⟨b, off, rfl, hbl, c1, c2, c3⟩ := isV_at (IsOf.later HL.out HB.out) hkl
      have HST := Lib.hid (trues2_step hkl)
      have hbn : trues2 (M.take k) ≤ 1000 := by have := trues2_le (M.take k); rw [List.length_take] at this; omega
      generalize trues2 (M.take k) = t at *
      by_cases q1 : M[k].1 = 2
      · have e1 : ((M[k].1 : Int) == 2) = true := by simp; omega
        by_cases q2 : M[k].2.1 = 1
        · have e2 : (M[k].2.1 == 1) = true := by simpa using q2
          have HSB : Hid (trues2 (M.take (k + 1)) = t + 1) := by unfold Hid; rw [HST.out]; unfold h2B; rw [decide_eq_true q1, decide_eq_true q2]; rfl
          generalize M[k] = v at *
          clear q1 q2 HST
          go_wp2_with fail
          exact ⟨⟨k + 1, by omega, by rw [HSB.out]; simp, by go_num, trivial⟩, by simp [intOf]; omega⟩
        · have e2 : (M[k].2.1 == 1) = false := by simpa using q2
          have HSB : Hid (trues2 (M.take (k + 1)) = t) := by unfold Hid; rw [HST.out]; unfold h2B; rw [decide_eq_true q1, decide_eq_false q2]; rfl
          generalize M[k] = v at *
          clear q1 q2 HST
          go_wp2_with fail
          exact ⟨⟨k + 1, by omega, by rw [HSB.out], by go_num, trivial⟩, by simp [intOf]; omega⟩
      · have e1 : ((M[k].1 : Int) == 2) = false := by simp; omega
        have HSB : Hid (trues2 (M.take (k + 1)) = t) := by unfold Hid; rw [HST.out]; unfold h2B; rw [decide_eq_false q1]; rfl
        generalize M[k] = v at *
        clear q1 HST
        go_wp2_with fail
        exact ⟨⟨k + 1, by omega, by rw [HSB.out], by go_num, trivial⟩, by simp [intOf]; omega⟩
    · obtain rfl : k = n := by omega
      have htk : M.take k = M := List.take_of_length_le (by rw [HNL.out]; exact Nat.le_refl _)
      rw [htk]
      have hbn := trues2_le M
      rw [HNL.out] at hbn
      clear htk hk hlt
      obtain ⟨b, off, rfl, hbl, c1, c2, c3⟩ := isV_at (IsOf.later HL.out HB.out) (k := 0) (by rw [HNL.out]; omega)
      rw [Nat.zero_mul, Nat.add_zero] at c1 c2 c3
      have hg0 := getD_at (M := M) (k := 0) (by rw [HNL.out]; omega)
      rw [← hg0] at c1 c2 c3
      have HE := Lib.hid (show lgV 27 M = trV (decide ((M.getD 0 blV).1 = 0)) from rfl)
      generalize M.getD 0 blV = v at *
      generalize trues2 M = t at *
      by_cases h9 : v.1 = 0
      · have e1 : ((v.1 : Int) == 0) = true := by simp; omega
        rw [decide_eq_true h9] at HE
        clear h9 hg0
        have HE9 := Lib.hid HE.out
        obtain ⟨z, hz⟩ : ∃ z, b2i true = z := ⟨_, rfl⟩
        have HTR := Lib.hid (fun W => rtruth_any true W)
        rw [hz] at HTR
        have HZ9 := Lib.hid hz
        clear hz
        go_wp2_with fail
        refine (HTR.out _).mono ?_
        rintro e w1 ⟨rfl, hB⟩
        have hX : B3 w1 w.heap.size 0 0 ⟨#[]⟩ := HX.out.later hB
        have HBW := Lib.hid (vnext HB.out hB)
        obtain ⟨x0, x1, x2, z0, z1, z2⟩ := hX.cells
        have hXl := hX.lt
        obtain ⟨hq, hg⟩ := b3_set hX 2 z ⟨#[]⟩
        have hb5 := HBW.out.grown hg HBW.out.size (fun q hq => by injection hq with hq; omega)
        clear hB hg
        go_wp2_with fail
        generalize ((w1.setCell ⟨w.heap.size, 0, none⟩ (.int .u8 2)).setCell ⟨w.heap.size, 1, none⟩ (.int .i64 z)).setCell ⟨w.heap.size, 2, none⟩ (.string ⟨#[]⟩) = w5 at *
        obtain ⟨y0, y1, y2, _, _, _⟩ := hq.cells
        refine bodyPost_ret (v := .agg #[.int .u8 2, .int .i64 z, .string ⟨#[]⟩]) (by simp [results, Tryz.results85, go_sem, y0, y1, y2]) rfl ⟨by rw [HE9.out]; unfold trV; rw [HZ9.out]; rfl, hb5⟩
      · have e1 : ((v.1 : Int) == 0) = false := by simp; omega
        rw [decide_eq_false h9] at HE
        clear h9 hg0
        have HE9 := Lib.hid HE.out
        obtain ⟨z, hz⟩ : ∃ z, b2i false = z := ⟨_, rfl⟩
        have HTR := Lib.hid (fun W => rtruth_any false W)
        rw [hz] at HTR
        have HZ9 := Lib.hid hz
        clear hz
        go_wp2_with fail
        refine (HTR.out _).mono ?_
        rintro e w1 ⟨rfl, hB⟩
        have hX : B3 w1 w.heap.size 0 0 ⟨#[]⟩ := HX.out.later hB
        have HBW := Lib.hid (vnext HB.out hB)
        obtain ⟨x0, x1, x2, z0, z1, z2⟩ := hX.cells
        have hXl := hX.lt
        obtain ⟨hq, hg⟩ := b3_set hX 2 z ⟨#[]⟩
        have hb5 := HBW.out.grown hg HBW.out.size (fun q hq => by injection hq with hq; omega)
        clear hB hg
        go_wp2_with fail
        generalize ((w1.setCell ⟨w.heap.size, 0, none⟩ (.int .u8 2)).setCell ⟨w.heap.size, 1, none⟩ (.int .i64 z)).setCell ⟨w.heap.size, 2, none⟩ (.string ⟨#[]⟩) = w5 at *
        obtain ⟨y0, y1, y2, _, _, _⟩ := hq.cells
        refine bodyPost_ret (v := .agg #[.int .u8 2, .int .i64 z, .string ⟨#[]⟩]) (by simp [results, Tryz.results85, go_sem, y0, y1, y2]) rfl ⟨by rw [HE9.out]; unfold trV; rw [HZ9.out]; rfl, hb5⟩
set_option maxRecDepth 100000 in
set_option maxHeartbeats 6400000 in
theorem rlv_28 (a : Option Addr) (n cap : Nat) (M : List V3) (h1 : 1 ≤ n) (hn : n ≤ 1000) (w : World) (hL : IsV w a n M) : Calls Tryz.prog 85 #[.int .u8 28, .slice a n cap] w fun e w' => e = .returned (vOf (lgV 28 M)) ∧ Below w.heap.size w w' := by
  have HX : Hid (B3 (w.alloc (.cells #[.int .u8 0, .int .i64 0, .string ⟨#[]⟩] 26)) w.heap.size 0 0 ⟨#[]⟩) := B3.start w 0 0 ⟨#[]⟩
  have HB := Lib.hid (valloc w (.cells #[.int .u8 0, .int .i64 0, .string ⟨#[]⟩] 26))
  have HL := Lib.hid hL
  have HNL := Lib.hid hL.1
  clear hL
  go_enter Tryz.func85, Tryz.ntmps85
  go_wp2_with fail
  generalize w.alloc (.cells #[.int .u8 0, .int .i64 0, .string ⟨#[]⟩] 26) = wa at *
  go_loopw [5, 6] (fun u i wr => ∃ k : Nat, k ≤ n ∧ u = .int .i64 ((trues2 (M.take k) : Nat) : Int) ∧ i = .int .i64 (k : Int) ∧ wr = wa) (fun _ i _ => n - (intOf i).toNat)
  case atStart => exact ⟨0, Nat.zero_le _, rfl, rfl, rfl⟩
  case round =>
    obtain ⟨k, hk, rfl, rfl, rfl⟩ := hrel
    by_cases hlt : k < n
    · have hkl : k < M.length := by rw [HNL.out]; exact hlt
      obtain ⟨b, off, rfl, hbl, c1, c2, c3⟩ := isV_at (IsOf.later HL.out HB.out) hkl
      have HST := Lib.hid (trues2_step hkl)
      have hbn : trues2 (M.take k) ≤ 1000 := by have := trues2_le (M.take k); rw [List.length_take] at this; omega
      generalize trues2 (M.take k) = t at *
      by_cases q1 : M[k].1 = 2
      · have e1 : ((M[k].1 : Int) == 2) = true := by simp; omega
        by_cases q2 : M[k].2.1 = 1
        · have e2 : (M[k].2.1 == 1) = true := by simpa using q2
          have HSB : Hid (trues2 (M.take (k + 1)) = t + 1) := by unfold Hid; rw [HST.out]; unfold h2B; rw [decide_eq_true q1, decide_eq_true q2]; rfl
          generalize M[k] = v at *
          clear q1 q2 HST
          go_wp2_with fail
          exact ⟨⟨k + 1, by omega, by rw [HSB.out]; simp, by go_num, trivial⟩, by simp [intOf]; omega⟩
        · have e2 : (M[k].2.1 == 1) = false := by simpa using q2
          have HSB : Hid (trues2 (M.take (k + 1)) = t) := by unfold Hid; rw [HST.out]; unfold h2B; rw [decide_eq_true q1, decide_eq_false q2]; rfl
          generalize M[k] = v at *
          clear q1 q2 HST
          go_wp2_with fail
          exact ⟨⟨k + 1, by omega, by rw [HSB.out], by go_num, trivial⟩, by simp [intOf]; omega⟩
      · have e1 : ((M[k].1 : Int) == 2) = false := by simp; omega
        have HSB : Hid (trues2 (M.take (k + 1)) = t) := by unfold Hid; rw [HST.out]; unfold h2B; rw [decide_eq_false q1]; rfl
        generalize M[k] = v at *
        clear q1 HST
        go_wp2_with fail
        exact ⟨⟨k + 1, by omega, by rw [HSB.out], by go_num, trivial⟩, by simp [intOf]; omega⟩
    · obtain rfl : k = n := by omega
      have htk : M.take k = M := List.take_of_length_le (by rw [HNL.out]; exact Nat.le_refl _)
      rw [htk]
      have hbn := trues2_le M
      rw [HNL.out] at hbn
      clear htk hk hlt
      obtain ⟨b, off, rfl, hbl, c1, c2, c3⟩ := isV_at (IsOf.later HL.out HB.out) (k := 0) (by rw [HNL.out]; omega)
      rw [Nat.zero_mul, Nat.add_zero] at c1 c2 c3
      have hg0 := getD_at (M := M) (k := 0) (by rw [HNL.out]; omega)
      rw [← hg0] at c1 c2 c3
      have HE := Lib.hid (show lgV 28 M = trV (decide ((M.getD 0 blV).1 = 1)) from rfl)
      generalize M.getD 0 blV = v at *
      generalize trues2 M = t at *
      by_cases h9 : v.1 = 1
      · have e1 : ((v.1 : Int) == 1) = true := by simp; omega
        rw [decide_eq_true h9] at HE
        clear h9 hg0
        have HE9 := Lib.hid HE.out
        obtain ⟨z, hz⟩ : ∃ z, b2i true = z := ⟨_, rfl⟩
        have HTR := Lib.hid (fun W => rtruth_any true W)
        rw [hz] at HTR
        have HZ9 := Lib.hid hz
        clear hz
        go_wp2_with fail
        refine (HTR.out _).mono ?_
        rintro e w1 ⟨rfl, hB⟩
        have hX : B3 w1 w.heap.size 0 0 ⟨#[]⟩ := HX.out.later hB
        have HBW := Lib.hid (vnext HB.out hB)
        obtain ⟨x0, x1, x2, z0, z1, z2⟩ := hX.cells
        have hXl := hX.lt
        obtain ⟨hq, hg⟩ := b3_set hX 2 z ⟨#[]⟩
        have hb5 := HBW.out.grown hg HBW.out.size (fun q hq => by injection hq with hq; omega)
        clear hB hg
        go_wp2_with fail
        generalize ((w1.setCell ⟨w.heap.size, 0, none⟩ (.int .u8 2)).setCell ⟨w.heap.size, 1, none⟩ (.int .i64 z)).setCell ⟨w.heap.size, 2, none⟩ (.string ⟨#[]⟩) = w5 at *
        obtain ⟨y0, y1, y2, _, _, _⟩ := hq.cells
        refine bodyPost_ret (v := .agg #[.int .u8 2, .int .i64 z, .string ⟨#[]⟩]) (by simp [results, Tryz.results85, go_sem, y0, y1, y2]) rfl ⟨by rw [HE9.out]; unfold trV; rw [HZ9.out]; rfl, hb5⟩
      · have e1 : ((v.1 : Int) == 1) = false := by simp; omega
        rw [decide_eq_false h9] at HE
        clear h9 hg0
        have HE9 := Lib.hid HE.out
        obtain ⟨z, hz⟩ : ∃ z, b2i false = z := ⟨_, rfl⟩
        have HTR := Lib.hid (fun W => rtruth_any false W)
        rw [hz] at HTR
        have HZ9 := Lib.hid hz
        clear hz
        go_wp2_with fail
        refine (HTR.out _).mono ?_
        rintro e w1 ⟨rfl, hB⟩
        have hX : B3 w1 w.heap.size 0 0 ⟨#[]⟩ := HX.out.later hB
        have HBW := Lib.hid (vnext HB.out hB)
        obtain ⟨x0, x1, x2, z0, z1, z2⟩ := hX.cells
        have hXl := hX.lt
        obtain ⟨hq, hg⟩ := b3_set hX 2 z ⟨#[]⟩
        have hb5 := HBW.out.grown hg HBW.out.size (fun q hq => by injection hq with hq; omega)
        clear hB hg
        go_wp2_with fail
        generalize ((w1.setCell ⟨w.heap.size, 0, none⟩ (.int .u8 2)).setCell ⟨w.heap.size, 1, none⟩ (.int .i64 z)).setCell ⟨w.heap.size, 2, none⟩ (.string ⟨#[]⟩) = w5 at *
        obtain ⟨y0, y1, y2, _, _, _⟩ := hq.cells
        refine bodyPost_ret (v := .agg #[.int .u8 2, .int .i64 z, .string ⟨#[]⟩]) (by simp [results, Tryz.results85, go_sem, y0, y1, y2]) rfl ⟨by rw [HE9.out]; unfold trV; rw [HZ9.out]; rfl, hb5⟩
set_option maxRecDepth 100000 in
set_option maxHeartbeats 6400000 in
theorem rlv_29 (a : Option Addr) (n cap : Nat) (M : List V3) (h1 : 1 ≤ n) (hn : n ≤ 1000) (w : World) (hL : IsV w a n M) : Calls Tryz.prog 85 #[.int .u8 29, .slice a n cap] w fun e w' => e = .returned (vOf (lgV 29 M)) ∧ Below w.heap.size w w' := by
  have HX : Hid (B3 (w.alloc (.cells #[.int .u8 0, .int .i64 0, .string ⟨#[]⟩] 26)) w.heap.size 0 0 ⟨#[]⟩) := B3.start w 0 0 ⟨#[]⟩
  have HB := Lib.hid (valloc w (.cells #[.int .u8 0, .int .i64 0, .string ⟨#[]⟩] 26))
  have HL := Lib.hid hL
  have HNL := Lib.hid hL.1
  clear hL
  go_enter Tryz.func85, Tryz.ntmps85
  go_wp2_with fail
  generalize w.alloc (.cells #[.int .u8 0, .int .i64 0, .string ⟨#[]⟩] 26) = wa at *
  go_loopw [5, 6] (fun u i wr => ∃ k : Nat, k ≤ n ∧ u = .int .i64 ((trues2 (M.take k) : Nat) : Int) ∧ i = .int .i64 (k : Int) ∧ wr = wa) (fun _ i _ => n - (intOf i).toNat)
  case atStart => exact ⟨0, Nat.zero_le _, rfl, rfl, rfl⟩
  case round =>
    obtain ⟨k, hk, rfl, rfl, rfl⟩ := hrel
    by_cases hlt : k < n
    · have hkl : k < M.length := by rw [HNL.out]; exact hlt
      obtain ⟨b, off, rfl, hbl, c1, c2, c3⟩ := isV_at (IsOf.later HL.out HB.out) hkl
      have HST := Lib.hid (trues2_step hkl)
      have hbn : trues2 (M.take k) ≤ 1000 := by have := trues2_le (M.take k); rw [List.length_take] at this; omega
      generalize trues2 (M.take k) = t at *
      by_cases q1 : M[k].1 = 2
      · have e1 : ((M[k].1 : Int) == 2) = true := by simp; omega
        by_cases q2 : M[k].2.1 = 1
        · have e2 : (M[k].2.1 == 1) = true := by simpa using q2
          have HSB : Hid (trues2 (M.take (k + 1)) = t + 1) := by unfold Hid; rw [HST.out]; unfold h2B; rw [decide_eq_true q1, decide_eq_true q2]; rfl
          generalize M[k] = v at *
          clear q1 q2 HST
          go_wp2_with fail
          exact ⟨⟨k + 1, by omega, by rw [HSB.out]; simp, by go_num, trivial⟩, by simp [intOf]; omega⟩
        · have e2 : (M[k].2.1 == 1) = false := by simpa using q2
          have HSB : Hid (trues2 (M.take (k + 1)) = t) := by unfold Hid; rw [HST.out]; unfold h2B; rw [decide_eq_true q1, decide_eq_false q2]; rfl
          generalize M[k] = v at *
          clear q1 q2 HST
          go_wp2_with fail
          exact ⟨⟨k + 1, by omega, by rw [HSB.out], by go_num, trivial⟩, by simp [intOf]; omega⟩
      · have e1 : ((M[k].1 : Int) == 2) = false := by simp; omega
        have HSB : Hid (trues2 (M.take (k + 1)) = t) := by unfold Hid; rw [HST.out]; unfold h2B; rw [decide_eq_false q1]; rfl
        generalize M[k] = v at *
        clear q1 HST
        go_wp2_with fail
        exact ⟨⟨k + 1, by omega, by rw [HSB.out], by go_num, trivial⟩, by simp [intOf]; omega⟩
    · obtain rfl : k = n := by omega
      have htk : M.take k = M := List.take_of_length_le (by rw [HNL.out]; exact Nat.le_refl _)
      rw [htk]
      have hbn := trues2_le M
      rw [HNL.out] at hbn
      clear htk hk hlt
      obtain ⟨b, off, rfl, hbl, c1, c2, c3⟩ := isV_at (IsOf.later HL.out HB.out) (k := 0) (by rw [HNL.out]; omega)
      rw [Nat.zero_mul, Nat.add_zero] at c1 c2 c3
      have hg0 := getD_at (M := M) (k := 0) (by rw [HNL.out]; omega)
      rw [← hg0] at c1 c2 c3
      have HE := Lib.hid (show lgV 29 M = trV (decide ((M.getD 0 blV).1 = 3)) from rfl)
      generalize M.getD 0 blV = v at *
      generalize trues2 M = t at *
      by_cases h9 : v.1 = 3
      · have e1 : ((v.1 : Int) == 3) = true := by simp; omega
        rw [decide_eq_true h9] at HE
        clear h9 hg0
        have HE9 := Lib.hid HE.out
        obtain ⟨z, hz⟩ : ∃ z, b2i true = z := ⟨_, rfl⟩
        have HTR := Lib.hid (fun W => rtruth_any true W)
        rw [hz] at HTR
        have HZ9 := Lib.hid hz
        clear hz
        go_wp2_with fail
        refine (HTR.out _).mono ?_
        rintro e w1 ⟨rfl, hB⟩
        have hX : B3 w1 w.heap.size 0 0 ⟨#[]⟩ := HX.out.later hB
        have HBW := Lib.hid (vnext HB.out hB)
        obtain ⟨x0, x1, x2, z0, z1, z2⟩ := hX.cells
        have hXl := hX.lt
        obtain ⟨hq, hg⟩ := b3_set hX 2 z ⟨#[]⟩
        have hb5 := HBW.out.grown hg HBW.out.size (fun q hq => by injection hq with hq; omega)
        clear hB hg
        go_wp2_with fail
        generalize ((w1.setCell ⟨w.heap.size, 0, none⟩ (.int .u8 2)).setCell ⟨w.heap.size, 1, none⟩ (.int .i64 z)).setCell ⟨w.heap.size, 2, none⟩ (.string ⟨#[]⟩) = w5 at *
        obtain ⟨y0, y1, y2, _, _, _⟩ := hq.cells
        refine bodyPost_ret (v := .agg #[.int .u8 2, .int .i64 z, .string ⟨#[]⟩]) (by simp [results, Tryz.results85, go_sem, y0, y1, y2]) rfl ⟨by rw [HE9.out]; unfold trV; rw [HZ9.out]; rfl, hb5⟩
      · have e1 : ((v.1 : Int) == 3) = false := by simp; omega
        rw [decide_eq_false h9] at HE
        clear h9 hg0
        have HE9 := Lib.hid HE.out
        obtain ⟨z, hz⟩ : ∃ z, b2i false = z := ⟨_, rfl⟩
        have HTR := Lib.hid (fun W => rtruth_any false W)
        rw [hz] at HTR
        have HZ9 := Lib.hid hz
        clear hz
        go_wp2_with fail
        refine (HTR.out _).mono ?_
        rintro e w1 ⟨rfl, hB⟩
        have hX : B3 w1 w.heap.size 0 0 ⟨#[]⟩ := HX.out.later hB
        have HBW := Lib.hid (vnext HB.out hB)
        obtain ⟨x0, x1, x2, z0, z1, z2⟩ := hX.cells
        have hXl := hX.lt
        obtain ⟨hq, hg⟩ := b3_set hX 2 z ⟨#[]⟩
        have hb5 := HBW.out.grown hg HBW.out.size (fun q hq => by injection hq with hq; omega)
        clear hB hg
        go_wp2_with fail
        generalize ((w1.setCell ⟨w.heap.size, 0, none⟩ (.int .u8 2)).setCell ⟨w.heap.size, 1, none⟩ (.int .i64 z)).setCell ⟨w.heap.size, 2, none⟩ (.string ⟨#[]⟩) = w5 at *
        obtain ⟨y0, y1, y2, _, _, _⟩ := hq.cells
        refine bodyPost_ret (v := .agg #[.int .u8 2, .int .i64 z, .string ⟨#[]⟩]) (by simp [results, Tryz.results85, go_sem, y0, y1, y2]) rfl ⟨by rw [HE9.out]; unfold trV; rw [HZ9.out]; rfl, hb5⟩
set_option maxRecDepth 100000 in
set_option maxHeartbeats 6400000 in
theorem rlv_20 (a : Option Addr) (n cap : Nat) (M : List V3) (h1 : 1 ≤ n) (hn : n ≤ 1000) (w : World) (hL : IsV w a n M) (hl2 : 2 ≤ n) (hl3 : n ≤ 3) : Calls Tryz.prog 85 #[.int .u8 20, .slice a n cap] w fun e w' => e = .returned (vOf (lgV 20 M)) ∧ Below w.heap.size w w' := by
  have HX : Hid (B3 (w.alloc (.cells #[.int .u8 0, .int .i64 0, .string ⟨#[]⟩] 26)) w.heap.size 0 0 ⟨#[]⟩) := B3.start w 0 0 ⟨#[]⟩
  have HB := Lib.hid (valloc w (.cells #[.int .u8 0, .int .i64 0, .string ⟨#[]⟩] 26))
  have HL := Lib.hid hL
  have HNL := Lib.hid hL.1
  clear hL
  go_enter Tryz.func85, Tryz.ntmps85
  go_wp2_with fail
  generalize w.alloc (.cells #[.int .u8 0, .int .i64 0, .string ⟨#[]⟩] 26) = wa at *
  go_loopw [5, 6] (fun u i wr => ∃ k : Nat, k ≤ n ∧ u = .int .i64 ((trues2 (M.take k) : Nat) : Int) ∧ i = .int .i64 (k : Int) ∧ wr = wa) (fun _ i _ => n - (intOf i).toNat)
  case atStart => exact ⟨0, Nat.zero_le _, rfl, rfl, rfl⟩
  case round =>
    obtain ⟨k, hk, rfl, rfl, rfl⟩ := hrel
    by_cases hlt : k < n
    · have hkl : k < M.length := by rw [HNL.out]; exact hlt
      obtain ⟨b, off, rfl, hbl, c1, c2, c3⟩ := isV_at (IsOf.later HL.out HB.out) hkl
      have HST := Lib.hid (trues2_step hkl)
      have hbn : trues2 (M.take k) ≤ 1000 := by have := trues2_le (M.take k); rw [List.length_take] at this; omega
      generalize trues2 (M.take k) = t at *
      by_cases q1 : M[k].1 = 2
      · have e1 : ((M[k].1 : Int) == 2) = true := by simp; omega
        by_cases q2 : M[k].2.1 = 1
        · have e2 : (M[k].2.1 == 1) = true := by simpa using q2
          have HSB : Hid (trues2 (M.take (k + 1)) = t + 1) := by unfold Hid; rw [HST.out]; unfold h2B; rw [decide_eq_true q1, decide_eq_true q2]; rfl
          generalize M[k] = v at *
          clear q1 q2 HST
          go_wp2_with fail
          exact ⟨⟨k + 1, by omega, by rw [HSB.out]; simp, by go_num, trivial⟩, by simp [intOf]; omega⟩
        · have e2 : (M[k].2.1 == 1) = false := by simpa using q2
          have HSB : Hid (trues2 (M.take (k + 1)) = t) := by unfold Hid; rw [HST.out]; unfold h2B; rw [decide_eq_true q1, decide_eq_false q2]; rfl
          generalize M[k] = v at *
          clear q1 q2 HST
          go_wp2_with fail
          exact ⟨⟨k + 1, by omega, by rw [HSB.out], by go_num, trivial⟩, by simp [intOf]; omega⟩
      · have e1 : ((M[k].1 : Int) == 2) = false := by simp; omega
        have HSB : Hid (trues2 (M.take (k + 1)) = t) := by unfold Hid; rw [HST.out]; unfold h2B; rw [decide_eq_false q1]; rfl
        generalize M[k] = v at *
        clear q1 HST
        go_wp2_with fail
        exact ⟨⟨k + 1, by omega, by rw [HSB.out], by go_num, trivial⟩, by simp [intOf]; omega⟩
    · obtain rfl : k = n := by omega
      have htk : M.take k = M := List.take_of_length_le (by rw [HNL.out]; exact Nat.le_refl _)
      rw [htk]
      have hbn := trues2_le M
      rw [HNL.out] at hbn
      clear htk hk hlt
      obtain ⟨b, off, rfl, hbl, c1, c2, c3⟩ := isV_at (IsOf.later HL.out HB.out) (k := 0) (by rw [HNL.out]; omega)
      rw [Nat.zero_mul, Nat.add_zero] at c1 c2 c3
      have hg0 := getD_at (M := M) (k := 0) (by rw [HNL.out]; omega)
      rw [← hg0] at c1 c2 c3
      have HE : Hid (lgV 20 M = if (M.getD 0 blV).2.1 = 1 then M.getD 1 blV else if M.length = 3 then M.getD 2 blV else trV false) := rfl
      generalize trues2 M = t at *
      generalize M.getD 0 blV = v at *
      clear hg0
      by_cases h9 : v.2.1 = 1
      · have e1 : (v.2.1 == 1) = true := by simpa using h9
        rw [if_pos h9] at HE
        have ix1 : (1 : Int) < (k : Int) := by omega
        clear h9
        obtain ⟨b_, off_, hbe, hbl2, d1, d2, d3⟩ := isV_at (IsOf.later HL.out HB.out) (k := 1) (by rw [HNL.out]; omega)
        cases hbe
        have hgj := getD_at (M := M) (k := 1) (by rw [HNL.out]; omega)
        rw [← hgj] at d1 d2 d3
        generalize M.getD 1 blV = u at *
        clear hgj
        have hB : Below wr.heap.size wr wr := Below.refl _ _
        have hX : B3 wr w.heap.size 0 0 ⟨#[]⟩ := HX.out.later hB
        have HBW := Lib.hid (vnext HB.out hB)
        obtain ⟨x0, x1, x2, z0, z1, z2⟩ := hX.cells
        have hXl := hX.lt
        obtain ⟨hq, hg⟩ := b3_set hX u.1 u.2.1 u.2.2
        have hb5 := HBW.out.grown hg HBW.out.size (fun q hq => by injection hq with hq; omega)
        clear hB hg
        go_wp2_with fail
        generalize ((wr.setCell ⟨w.heap.size, 0, none⟩ (.int .u8 (u.1 : Int))).setCell ⟨w.heap.size, 1, none⟩ (.int .i64 u.2.1)).setCell ⟨w.heap.size, 2, none⟩ (.string u.2.2) = w5 at *
        obtain ⟨y0, y1, y2, _, _, _⟩ := hq.cells
        refine bodyPost_ret (v := .agg #[.int .u8 (u.1 : Int), .int .i64 u.2.1, .string u.2.2]) (by simp [results, Tryz.results85, go_sem, y0, y1, y2]) rfl ⟨by rw [HE.out]; rfl, hb5⟩
      · have e1 : (v.2.1 == 1) = false := by simpa using h9
        rw [if_neg h9] at HE
        clear h9
        by_cases h8 : k = 3
        · have e2 : ((k : Int) == 3) = true := by simp; omega
          rw [if_pos (by rw [HNL.out]; exact h8)] at HE
          have ix2 : (2 : Int) < (k : Int) := by omega
          obtain ⟨b_, off_, hbe, hbl2, d1, d2, d3⟩ := isV_at (IsOf.later HL.out HB.out) (k := 2) (by rw [HNL.out]; omega)
          cases hbe
          have hgj := getD_at (M := M) (k := 2) (by rw [HNL.out]; omega)
          rw [← hgj] at d1 d2 d3
          generalize M.getD 2 blV = u at *
          clear hgj
          have hB : Below wr.heap.size wr wr := Below.refl _ _
          have hX : B3 wr w.heap.size 0 0 ⟨#[]⟩ := HX.out.later hB
          have HBW := Lib.hid (vnext HB.out hB)
          obtain ⟨x0, x1, x2, z0, z1, z2⟩ := hX.cells
          have hXl := hX.lt
          obtain ⟨hq, hg⟩ := b3_set hX u.1 u.2.1 u.2.2
          have hb5 := HBW.out.grown hg HBW.out.size (fun q hq => by injection hq with hq; omega)
          clear hB hg
          go_wp2_with fail
          generalize ((wr.setCell ⟨w.heap.size, 0, none⟩ (.int .u8 (u.1 : Int))).setCell ⟨w.heap.size, 1, none⟩ (.int .i64 u.2.1)).setCell ⟨w.heap.size, 2, none⟩ (.string u.2.2) = w5 at *
          obtain ⟨y0, y1, y2, _, _, _⟩ := hq.cells
          refine bodyPost_ret (v := .agg #[.int .u8 (u.1 : Int), .int .i64 u.2.1, .string u.2.2]) (by simp [results, Tryz.results85, go_sem, y0, y1, y2]) rfl ⟨by rw [HE.out]; rfl, hb5⟩
        · have e2 : ((k : Int) == 3) = false := by simp; omega
          rw [if_neg (by rw [HNL.out]; exact h8)] at HE
          have HE9 := Lib.hid HE.out
          obtain ⟨z, hz⟩ : ∃ z, b2i false = z := ⟨_, rfl⟩
          have HTR := Lib.hid (fun W => rtruth_any false W)
          rw [hz] at HTR
          have HZ9 := Lib.hid hz
          clear hz
          go_wp2_with fail
          refine (HTR.out _).mono ?_
          rintro e w1 ⟨rfl, hB⟩
          have hX : B3 w1 w.heap.size 0 0 ⟨#[]⟩ := HX.out.later hB
          have HBW := Lib.hid (vnext HB.out hB)
          obtain ⟨x0, x1, x2, z0, z1, z2⟩ := hX.cells
          have hXl := hX.lt
          obtain ⟨hq, hg⟩ := b3_set hX 2 z ⟨#[]⟩
          have hb5 := HBW.out.grown hg HBW.out.size (fun q hq => by injection hq with hq; omega)
          clear hB hg
          go_wp2_with fail
          generalize ((w1.setCell ⟨w.heap.size, 0, none⟩ (.int .u8 2)).setCell ⟨w.heap.size, 1, none⟩ (.int .i64 z)).setCell ⟨w.heap.size, 2, none⟩ (.string ⟨#[]⟩) = w5 at *
          obtain ⟨y0, y1, y2, _, _, _⟩ := hq.cells
          refine bodyPost_ret (v := .agg #[.int .u8 2, .int .i64 z, .string ⟨#[]⟩]) (by simp [results, Tryz.results85, go_sem, y0, y1, y2]) rfl ⟨by rw [HE9.out]; unfold trV; rw [HZ9.out]; rfl, hb5⟩
set_option maxRecDepth 100000 in
set_option maxHeartbeats 6400000 in
theorem rlv_30 (a : Option Addr) (n cap : Nat) (M : List V3) (h1 : 1 ≤ n) (hn : n ≤ 1000) (w : World) (hL : IsV w a n M) (x : Int) (hx1 : -9223372036854775808 < x) (hx2 : x ≤ 9223372036854775807) (hM0 : M.getD 0 blV = (1, x, ⟨#[]⟩)) : Calls Tryz.prog 85 #[.int .u8 30, .slice a n cap] w fun e w' => e = .returned (vOf (lgV 30 M)) ∧ Below w.heap.size w w' := by
  have HX : Hid (B3 (w.alloc (.cells #[.int .u8 0, .int .i64 0, .string ⟨#[]⟩] 26)) w.heap.size 0 0 ⟨#[]⟩) := B3.start w 0 0 ⟨#[]⟩
  have HB := Lib.hid (valloc w (.cells #[.int .u8 0, .int .i64 0, .string ⟨#[]⟩] 26))
  have HL := Lib.hid hL
  have HNL := Lib.hid hL.1
  have HM0 := Lib.hid hM0
  clear hM0
  clear hL
  go_enter Tryz.func85, Tryz.ntmps85
  go_wp2_with fail
  generalize w.alloc (.cells #[.int .u8 0, .int .i64 0, .string ⟨#[]⟩] 26) = wa at *
  go_loopw [5, 6] (fun u i wr => ∃ k : Nat, k ≤ n ∧ u = .int .i64 ((trues2 (M.take k) : Nat) : Int) ∧ i = .int .i64 (k : Int) ∧ wr = wa) (fun _ i _ => n - (intOf i).toNat)
  case atStart => exact ⟨0, Nat.zero_le _, rfl, rfl, rfl⟩
  case round =>
    obtain ⟨k, hk, rfl, rfl, rfl⟩ := hrel
    by_cases hlt : k < n
    · have hkl : k < M.length := by rw [HNL.out]; exact hlt
      obtain ⟨b, off, rfl, hbl, c1, c2, c3⟩ := isV_at (IsOf.later HL.out HB.out) hkl
      have HST := Lib.hid (trues2_step hkl)
      have hbn : trues2 (M.take k) ≤ 1000 := by have := trues2_le (M.take k); rw [List.length_take] at this; omega
      generalize trues2 (M.take k) = t at *
      by_cases q1 : M[k].1 = 2
      · have e1 : ((M[k].1 : Int) == 2) = true := by simp; omega
        by_cases q2 : M[k].2.1 = 1
        · have e2 : (M[k].2.1 == 1) = true := by simpa using q2
          have HSB : Hid (trues2 (M.take (k + 1)) = t + 1) := by unfold Hid; rw [HST.out]; unfold h2B; rw [decide_eq_true q1, decide_eq_true q2]; rfl
          generalize M[k] = v at *
          clear q1 q2 HST
          go_wp2_with fail
          exact ⟨⟨k + 1, by omega, by rw [HSB.out]; simp, by go_num, trivial⟩, by simp [intOf]; omega⟩
        · have e2 : (M[k].2.1 == 1) = false := by simpa using q2
          have HSB : Hid (trues2 (M.take (k + 1)) = t) := by unfold Hid; rw [HST.out]; unfold h2B; rw [decide_eq_true q1, decide_eq_false q2]; rfl
          generalize M[k] = v at *
          clear q1 q2 HST
          go_wp2_with fail
          exact ⟨⟨k + 1, by omega, by rw [HSB.out], by go_num, trivial⟩, by simp [intOf]; omega⟩
      · have e1 : ((M[k].1 : Int) == 2) = false := by simp; omega
        have HSB : Hid (trues2 (M.take (k + 1)) = t) := by unfold Hid; rw [HST.out]; unfold h2B; rw [decide_eq_false q1]; rfl
        generalize M[k] = v at *
        clear q1 HST
        go_wp2_with fail
        exact ⟨⟨k + 1, by omega, by rw [HSB.out], by go_num, trivial⟩, by simp [intOf]; omega⟩
    · obtain rfl : k = n := by omega
      have htk : M.take k = M := List.take_of_length_le (by rw [HNL.out]; exact Nat.le_refl _)
      rw [htk]
      have hbn := trues2_le M
      rw [HNL.out] at hbn
      clear htk hk hlt
      obtain ⟨b, off, rfl, hbl, c1, c2, c3⟩ := isV_at (IsOf.later HL.out HB.out) (k := 0) (by rw [HNL.out]; omega)
      rw [Nat.zero_mul, Nat.add_zero] at c1 c2 c3
      have hg0 := getD_at (M := M) (k := 0) (by rw [HNL.out]; omega)
      rw [← hg0] at c1 c2 c3
      have HE : Hid (lgV 30 M = if (M.getD 0 blV).2.1.tdiv 10000 < 1 ∨ (M.length : Int) ≤ (M.getD 0 blV).2.1.tdiv 10000 then flV 2 else M.getD ((M.getD 0 blV).2.1.tdiv 10000).toNat blV) := rfl
      generalize trues2 M = t at *
      rw [HM0.out] at c1 c2 c3 HE
      dsimp only at c1 c2 c3 HE
      clear hg0 HM0
      have hqi := tq_bd (a := x) ⟨by omega, hx2⟩
      have hqw : IntKind.i64.wrap (x.tdiv 10000) = x.tdiv 10000 := IntWalk.i64_in _ (by unfold InI at hqi; omega)
      obtain ⟨q, hq⟩ : ∃ q, x.tdiv 10000 = q := ⟨_, rfl⟩
      rw [hq] at HE hqi hqw
      rw [HNL.out] at HE
      by_cases g1 : q < 1
      · have d1 : decide (q < 1) = true := decide_eq_true g1
        rw [if_pos (.inl g1)] at HE
        go_wp2_with fail
        refine (rfail_any 2 _).mono ?_
        rw [show flN 2 = 2 from rfl]
        rintro e w1 ⟨rfl, hB⟩
        have hX : B3 w1 w.heap.size 0 0 ⟨#[]⟩ := HX.out.later hB
        have HBW := Lib.hid (vnext HB.out hB)
        obtain ⟨x0, x1, x2, z0, z1, z2⟩ := hX.cells
        have hXl := hX.lt
        obtain ⟨hq, hg⟩ := b3_set hX 4 2 ⟨#[]⟩
        have hb5 := HBW.out.grown hg HBW.out.size (fun q hq => by injection hq with hq; omega)
        clear hB hg
        go_wp2_with fail
        generalize ((w1.setCell ⟨w.heap.size, 0, none⟩ (.int .u8 4)).setCell ⟨w.heap.size, 1, none⟩ (.int .i64 2)).setCell ⟨w.heap.size, 2, none⟩ (.string ⟨#[]⟩) = w5 at *
        obtain ⟨y0, y1, y2, _, _, _⟩ := hq.cells
        refine bodyPost_ret (v := .agg #[.int .u8 4, .int .i64 2, .string ⟨#[]⟩]) (by simp [results, Tryz.results85, go_sem, y0, y1, y2]) rfl ⟨by rw [HE.out]; rfl, hb5⟩
      · have d1 : decide (q < 1) = false := decide_eq_false g1
        by_cases g2 : (k : Int) ≤ q
        · have d2 : decide ((k : Int) ≤ q) = true := decide_eq_true g2
          rw [if_pos (.inr g2)] at HE
          go_wp2_with fail
          refine (rfail_any 2 _).mono ?_
          rw [show flN 2 = 2 from rfl]
          rintro e w1 ⟨rfl, hB⟩
          have hX : B3 w1 w.heap.size 0 0 ⟨#[]⟩ := HX.out.later hB
          have HBW := Lib.hid (vnext HB.out hB)
          obtain ⟨x0, x1, x2, z0, z1, z2⟩ := hX.cells
          have hXl := hX.lt
          obtain ⟨hq, hg⟩ := b3_set hX 4 2 ⟨#[]⟩
          have hb5 := HBW.out.grown hg HBW.out.size (fun q hq => by injection hq with hq; omega)
          clear hB hg
          go_wp2_with fail
          generalize ((w1.setCell ⟨w.heap.size, 0, none⟩ (.int .u8 4)).setCell ⟨w.heap.size, 1, none⟩ (.int .i64 2)).setCell ⟨w.heap.size, 2, none⟩ (.string ⟨#[]⟩) = w5 at *
          obtain ⟨y0, y1, y2, _, _, _⟩ := hq.cells
          refine bodyPost_ret (v := .agg #[.int .u8 4, .int .i64 2, .string ⟨#[]⟩]) (by simp [results, Tryz.results85, go_sem, y0, y1, y2]) rfl ⟨by rw [HE.out]; rfl, hb5⟩
        · have d2 : decide ((k : Int) ≤ q) = false := decide_eq_false g2
          rw [if_neg (by omega)] at HE
          obtain ⟨j, rfl⟩ : ∃ j : Nat, q = j := ⟨q.toNat, by omega⟩
          rw [Int.toNat_natCast] at HE
          have hjn : j < k := by omega
          have hji : (j : Int) < (k : Int) := by omega
          obtain ⟨b_, off_, hbe, hbl2, d1, d2, d3⟩ := isV_at (IsOf.later HL.out HB.out) (k := j) (by rw [HNL.out]; omega)
          cases hbe
          have hgj := getD_at (M := M) (k := j) (by rw [HNL.out]; omega)
          rw [← hgj] at d1 d2 d3
          generalize M.getD j blV = u at *
          clear hgj
          have hB : Below wr.heap.size wr wr := Below.refl _ _
          have hX : B3 wr w.heap.size 0 0 ⟨#[]⟩ := HX.out.later hB
          have HBW := Lib.hid (vnext HB.out hB)
          obtain ⟨x0, x1, x2, z0, z1, z2⟩ := hX.cells
          have hXl := hX.lt
          obtain ⟨hq, hg⟩ := b3_set hX u.1 u.2.1 u.2.2
          have hb5 := HBW.out.grown hg HBW.out.size (fun q hq => by injection hq with hq; omega)
          clear hB hg
          go_wp2_with fail
          generalize ((wr.setCell ⟨w.heap.size, 0, none⟩ (.int .u8 (u.1 : Int))).setCell ⟨w.heap.size, 1, none⟩ (.int .i64 u.2.1)).setCell ⟨w.heap.size, 2, none⟩ (.string u.2.2) = w5 at *
          obtain ⟨y0, y1, y2, _, _, _⟩ := hq.cells
          refine bodyPost_ret (v := .agg #[.int .u8 (u.1 : Int), .int .i64 u.2.1, .string u.2.2]) (by simp [results, Tryz.results85, go_sem, y0, y1, y2]) rfl ⟨by rw [HE.out]; rfl, hb5⟩
end Go.Proofs.YtdhahiodnmmkeaaGreatDoor.Va
