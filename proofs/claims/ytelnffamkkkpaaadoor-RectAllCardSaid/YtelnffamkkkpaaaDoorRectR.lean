/- The contracts of Refs: the program's and the specification's. -/
import Derived.Test.YtelnffamkkkpaaaDoorRectP
namespace Go.Proofs.YtelnffamkkkpaaaDoor
open Go.RowKit AM
/-- A row of n addresses from column c on. -/
def rowL (c : Int) (n : Nat) (row : Int) : List (Int × Int) := (List.range n).map fun j : Nat => (c + (j : Int), row)
def refL (c r : Int) (n m : Nat) : List (Int × Int) := (List.range m).flatMap fun i : Nat => rowL c n (r + (i : Int))
theorem rowL_succ (c : Int) (n : Nat) (row : Int) : rowL c (n + 1) row = rowL c n row ++ [(c + (n : Int), row)] := by unfold rowL; rw [List.range_succ, List.map_append]; rfl
theorem refL_succ (c r : Int) (n m : Nat) : refL c r n (m + 1) = refL c r n m ++ rowL c n (r + (m : Int)) := by unfold refL; rw [List.range_succ, List.flatMap_append]; simp
theorem refL_len (c r : Int) (n m : Nat) : (refL c r n m).length = m * n := by
  induction m with
  | zero => simp [refL]
  | succ m ih => rw [refL_succ, List.length_append, ih]; simp [rowL]; rw [Nat.succ_mul]
def rfE (a b c d : Int) : Int := if ckB a b c d = true then (if (c - a + 1) * (d - b + 1) ≤ 1024 then 0 else 5) else 3
def rfL (a b c d : Int) : List (Int × Int) := if ckB a b c d = true then (if (c - a + 1) * (d - b + 1) ≤ 1024 then refL a b (c - a + 1).toNat (d - b + 1).toNat else []) else []
theorem rfE_f {a b c d : Int} (h : ckB a b c d = false) : rfE a b c d = 3 := by unfold rfE; rw [if_neg (by rw [h]; decide)]
theorem rfL_f {a b c d : Int} (h : ckB a b c d = false) : rfL a b c d = [] := by unfold rfL; rw [if_neg (by rw [h]; decide)]
theorem nm_le {n m : Nat} (h : n * m ≤ 1024) : (n : Int) * (m : Int) ≤ 1024 := by
  have h2 : ((n * m : Nat) : Int) ≤ 1024 := by omega
  rwa [Int.natCast_mul] at h2
theorem nm_gt {n m : Nat} (h : ¬ n * m ≤ 1024) : ¬ (n : Int) * (m : Int) ≤ 1024 := by
  have h2 : ¬ ((n * m : Nat) : Int) ≤ 1024 := by omega
  rwa [Int.natCast_mul] at h2
theorem rfE_t {a b c d : Int} {n m : Nat} (h : ckB a b c d = true) (hn : c - a + 1 = (n : Int)) (hm : d - b + 1 = (m : Int)) (hl : n * m ≤ 1024) : rfE a b c d = 0 := by
  unfold rfE; rw [if_pos h, hn, hm, if_pos (nm_le hl)]
theorem rfL_t {a b c d : Int} {n m : Nat} (h : ckB a b c d = true) (hn : c - a + 1 = (n : Int)) (hm : d - b + 1 = (m : Int)) (hl : n * m ≤ 1024) : rfL a b c d = refL a b n m := by
  unfold rfL; rw [if_pos h, hn, hm, if_pos (nm_le hl), Int.toNat_natCast, Int.toNat_natCast]
theorem rfE_l {a b c d : Int} {n m : Nat} (h : ckB a b c d = true) (hn : c - a + 1 = (n : Int)) (hm : d - b + 1 = (m : Int)) (hl : ¬ n * m ≤ 1024) : rfE a b c d = 5 := by
  unfold rfE; rw [if_pos h, hn, hm, if_neg (nm_gt hl)]
theorem rfL_l {a b c d : Int} {n m : Nat} (h : ckB a b c d = true) (hn : c - a + 1 = (n : Int)) (hm : d - b + 1 = (m : Int)) (hl : ¬ n * m ≤ 1024) : rfL a b c d = [] := by
  unfold rfL; rw [if_pos h, hn, hm, if_neg (nm_gt hl)]
set_option maxRecDepth 100000 in
set_option maxHeartbeats 6400000 in
theorem refs_any (a b c d : Int) (w : World) :
    Calls Tryd.prog 14 #[.agg #[.int .i64 a, .int .i64 b, .int .i64 c, .int .i64 d]] w fun e w' => (∃ v, e = .returned (.tuple #[v, .int .i64 (rfE a b c d)]) ∧ OwnQ w.heap.size w' v (rfL a b c d)) ∧ Below w.heap.size w w' := by
  obtain ⟨i0, hi, hz0, hz1, hz2⟩ := info_parts infoRefQ
  have HF := Lib.hid (Four.start w a b c d 23)
  have HB0 := Lib.hid (below_alloc w (.cells #[.int .i64 a, .int .i64 b, .int .i64 c, .int .i64 d] 23))
  go_enter Tryd.func14, Tryd.ntmps14
  go_wp2_with fail
  refine (area_any a b c d _).mono ?_
  rintro e w1 ⟨rfl, hB⟩
  have HF1 := Lib.hid (HF.out.later hB)
  have HB1 := Lib.hid (Below.next HB0.out hB)
  have hzz := HB1.out.size
  clear hB
  cases hc : ckB a b c d
  · have HA := Lib.hid (rfL_f hc)
    have HR := Lib.hid (rfE_f hc)
    rw [ckE_f hc]
    clear hc
    go_wp2_with fail
    go_ret2
    exact ⟨⟨_, ret2V HR.out.symm, by rw [HA.out]; exact OwnQ.nil _ _⟩, HB1.out⟩
  · rw [ckE_t hc]
    have HCK := Lib.hid hc
    rw [ckB_iff] at hc
    obtain ⟨⟨k1, k2, k3, k4⟩, ⟨k5, k6, k7, k8⟩, k9, k10⟩ := hc
    obtain ⟨n, hn⟩ : ∃ n : Nat, c - a + 1 = (n : Int) := ⟨(c - a + 1).toNat, by omega⟩
    obtain ⟨m, hm⟩ : ∃ m : Nat, d - b + 1 = (m : Int) := ⟨(d - b + 1).toNat, by omega⟩
    have hn1 : 1 ≤ n ∧ n ≤ 1024 := by omega
    have hm1 : 1 ≤ m ∧ m ≤ 1024 := by omega
    have hnm : arV a b c d = ((n * m : Nat) : Int) := by rw [arV_t HCK.out, hn, hm]; simp
    rw [hnm]
    by_cases hl : n * m ≤ 1024
    · have HR := Lib.hid (rfE_t HCK.out hn hm hl)
      have HA := Lib.hid (rfL_t HCK.out hn hm hl)
      have HNB := Lib.hid hl
      have hx1 : ¬ (1024 : Int) < ((n * m : Nat) : Int) := by omega
      have ec : c = a + n - 1 := by omega
      have ed : d = b + m - 1 := by omega
      generalize n * m = N at *
      clear hn hm hnm hl
      obtain ⟨n1, n2⟩ := hn1
      obtain ⟨m1, m2⟩ := hm1
      go_wp2_with (at_make; refine wpList_make_own _ rfl _ _ 34 rfl w1.heap.size 40 i0 (.agg #[.int .i64 0, .int .i64 0]) 2 Tryd.underlying34 hi hz0 hz1 _ _ _ N rfl rfl rfl (by rw [hz2]; have := HNB.out; omega) (by have := HNB.out; unfold maxLen; omega) (Nat.le_refl _) ?_)
      intro w2 hown hg
      have HO2 : Hid (OwnQ w1.heap.size w2 (.slice (some ⟨w1.heap.size, 0, none⟩) 0 N) []) := hown
      have HB2 : Hid (Below w1.heap.size w1 w2) := (Below.refl w1.heap.size w1).grown hg (Nat.le_refl _) (fun k hk => by cases hk)
      clear hown hg
      obtain ⟨_, p1, p2, p3, p4⟩ := HF1.out.later HB2.out
      go_wp2_with fail
      clear p1 p2 p3 p4
      have HEC := Lib.hid ec
      have HED := Lib.hid ed
      clear ec ed
      go_loopw [6, 7] (fun v i wr => ∃ k : Nat, k ≤ m ∧ i = .int .i64 (b + k) ∧ OwnQ w1.heap.size wr v (refL a b n k) ∧ Below w1.heap.size w1 wr) (fun _ i _ => (d + 1 - intOf i).toNat)
      case atStart => exact ⟨0, Nat.zero_le _, by simp, HO2.out, HB2.out⟩
      case round =>
        obtain ⟨k, hk, rfl, ho, hB⟩ := hrel
        have HO := Lib.hid ho
        have HB := Lib.hid hB
        clear ho hB
        have HFK := Lib.hid (HF1.out.later HB.out)
        by_cases hlt : k < m
        · obtain ⟨_, p1, p2, p3, p4⟩ := HFK.out
          have hle : b + (k : Int) ≤ d := by have := HED.out; omega
          go_wp2_with fail
          clear p1 p2 p3 p4
          go_loopw [6, 8] (fun v i wq => ∃ j : Nat, j ≤ n ∧ i = .int .i64 (a + j) ∧ OwnQ w1.heap.size wq v (refL a b n k ++ rowL a j (b + k)) ∧ Below w1.heap.size w1 wq) (fun _ i _ => (c + 1 - intOf i).toNat)
          case atStart => exact ⟨0, Nat.zero_le _, by simp, by simpa [rowL] using HO.out, HB.out⟩
          case round =>
            obtain ⟨j, hj, rfl, ho, hB⟩ := hrel
            obtain ⟨va, vc, rfl, _⟩ := ho.isQ
            have HO' := Lib.hid ho
            have HB' := Lib.hid hB
            have hzb := hB.size
            clear ho hB
            obtain ⟨_, p1, p2, p3, p4⟩ := HF1.out.later HB'.out
            by_cases hjt : j < n
            · have hle2 : a + (j : Int) ≤ c := by have := HEC.out; omega
              have HLL : Hid ((refL a b n k ++ rowL a j (b + k)).length ≤ 100000000) := by
                unfold Hid; rw [List.length_append, refL_len]; simp only [rowL, List.length_map, List.length_range]
                have := Nat.mul_le_mul (Nat.le_trans hk m2) n2; omega
              have HST : Hid (refL a b n k ++ rowL a (j + 1) (b + k) = refL a b n k ++ (rowL a j (b + k) ++ [(a + j, b + k)])) := by
                unfold Hid; rw [rowL_succ]
              go_wp2_with (at_builtin; refine wpList_appQ rfl (.tmp 37) _ rfl w1.heap.size _ _ rfl (HO'.out.alloc _) wr.heap.size (a + j, b + k) rfl ⟨by simp, by simp⟩ HLL.out (by simp; omega) ?_)
              intro v1 w5 ho5 hb5
              have HO5 := Lib.hid ho5
              have HB5 := Lib.hid ((HB'.out.alloc hzb _).trans hb5)
              clear ho5 hb5 p1 p2 p3 p4
              go_wp2_with fail
              go_roundw
              case rel => exact ⟨j + 1, by omega, by go_num, by rw [HST.out]; exact HO5.out, HB5.out⟩
              case measure => simp [intOf]; omega
            · obtain rfl : j = n := by omega
              have hgt : ¬ a + (j : Int) ≤ c := by have := HEC.out; omega
              have HST : Hid (refL a b j (k + 1) = refL a b j k ++ rowL a j (b + k)) := refL_succ _ _ _ _
              go_wp2_with fail
              go_roundw
              case rel => exact ⟨k + 1, by omega, by go_num, by rw [HST.out]; exact HO'.out, HB'.out⟩
              case measure => simp [intOf]; omega
        · obtain rfl : k = m := by omega
          obtain ⟨_, p1, p2, p3, p4⟩ := HFK.out
          have hgt : ¬ b + (k : Int) ≤ d := by have := HED.out; omega
          go_wp2_with fail
          go_ret2
          exact ⟨⟨_, ret2V HR.out.symm, by rw [HA.out]; exact HO.out.lower hzz⟩, HB1.out.trans (HB.out.mono hzz)⟩
    · have HR := Lib.hid (rfE_l HCK.out hn hm hl)
      have HA := Lib.hid (rfL_l HCK.out hn hm hl)
      have hx1 : (1024 : Int) < ((n * m : Nat) : Int) := by omega
      generalize n * m = N at *
      clear hn hm hnm hl
      go_wp2_with fail
      go_ret2
      exact ⟨⟨_, ret2V HR.out.symm, by rw [HA.out]; exact OwnQ.nil _ _⟩, HB1.out⟩
end Go.Proofs.YtelnffamkkkpaaaDoor
