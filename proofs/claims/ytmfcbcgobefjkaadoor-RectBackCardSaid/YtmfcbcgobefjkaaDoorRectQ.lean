/- The contract of the specification's reading of a range. -/
import Derived.Test.YtmfcbcgobefjkaaDoorRectD
namespace Go.Proofs.YtmfcbcgobefjkaaDoor
open Go.RowKit AM
theorem get_q (s : ByteArray) (j : Nat) (h : j < s.size) : s.data.toList[j]? = some (s[j]'h) := by
  rw [List.getElem?_eq_getElem (by simpa using h)]; rfl
theorem get_q' (s : ByteArray) (j : Nat) : (∀ h : j < s.size, (s[j].toNat : Int) ≠ 58) → s.data.toList[j]? ≠ some 58 := by
  intro H
  rcases Nat.lt_or_ge j s.size with h | h
  · rw [get_q s j h]
    intro e
    have e := Option.some.inj e
    exact H h (by rw [e]; rfl)
  · rw [List.getElem?_eq_none (by simpa using h)]; simp
theorem byte58 {b : UInt8} (h : (b.toNat : Int) = 58) : b = 58 := by
  have : b.toNat = (58 : UInt8).toNat := by have e : (58 : UInt8).toNat = 58 := rfl; omega
  exact UInt8.toNat_inj.1 this
set_option maxRecDepth 100000 in
set_option maxHeartbeats 6400000 in
theorem qparse_all (s : ByteArray) (hs : s.size ≤ 2000) (w : World) :
    Calls Tryd.prog 26 #[.string s] w fun e w' => e = .returned (rzV (RZ s.data.toList)) ∧ Below w.heap.size w w' := by
  have HLEN := Lib.hid (show s.data.toList.length = s.size by simp)
  go_enter Tryd.func26, Tryd.ntmps26
  go_wp2_with fail
  go_loop [4] (fun p => ∃ n : Nat, p = .int .i64 n ∧ n ≤ s.size ∧ ∀ j, j < n → s.data.toList[j]? ≠ some 58) (fun p => s.size - (intOf p).toNat)
  case atStart => exact ⟨0, rfl, Nat.zero_le _, fun j h => absurd h (Nat.not_lt_zero _)⟩
  case round =>
    obtain ⟨n, rfl, hn, ha⟩ := hrel
    have HA := Lib.hid ha
    clear ha
    by_cases hlt : n < s.size
    · by_cases h58 : (s[n].toNat : Int) = 58
      · have hcn : colon s.data.toList = n := (colon_unique ⟨by rw [HLEN.out]; exact hn, HA.out, fun _ => by rw [get_q s n hlt, byte58 h58]⟩).symm
        have e58 : ((s[n].toNat : Int) != 58) = false := by simpa using h58
        have HZ := Lib.hid (RZ_two hcn hlt)
        have hpe := PZ_err (s.data.toList.take n)
        have hqe := PZ_err (s.data.toList.drop (n + 1))
        have hs1 : (s.extract 0 n).size ≤ 2000 := by simp; omega
        have hs2 : (s.extract (n + 1) s.size).size ≤ 2000 := by simp; omega
        have D1 := Lib.hid (take_data s n)
        have D2 := Lib.hid (drop_data s (n + 1))
        clear hcn h58 HA
        go_wp2_with fail
        refine (rparse_any (s.extract 0 n) hs1 _).mono ?_
        rintro e w2 ⟨rfl, hB2⟩
        rw [D1.out]
        generalize PZ (s.data.toList.take n) = pz at *
        obtain ⟨p1, p2, pe⟩ := pz
        have FZ := Lib.hid ((Four.start w 0 0 0 0 23).later hB2)
        have FO := Lib.hid ((Open'.start w #[.int .i64 0, .int .i64 0, .int .i64 0, .int .i64 0] 23).later hB2)
        have HB2 := Lib.hid (Below.next (below_alloc w (.cells #[.int .i64 0, .int .i64 0, .int .i64 0, .int .i64 0] 23)) hB2)
        clear hB2
        dsimp only
        go_wp2_with fail
        refine (rparse_any (s.extract (n + 1) s.size) hs2 _).mono ?_
        rintro e w3 ⟨rfl, hB3⟩
        rw [D2.out]
        generalize PZ (s.data.toList.drop (n + 1)) = qz at *
        obtain ⟨q1, q2, qe⟩ := qz
        dsimp only at hpe hqe HZ ⊢
        have la := below_alloc w2 (.cells #[.int .i64 p1, .int .i64 p2] 25)
        have lb := below_alloc (w2.alloc (.cells #[.int .i64 p1, .int .i64 p2] 25)) (.cells #[.int .i64 p1, .int .i64 p2] 25)
        have TA := Lib.hid (((Two'.start w2 p1 p2 25).later lb).later hB3)
        have TB' := (Two'.start (w2.alloc (.cells #[.int .i64 p1, .int .i64 p2] 25)) p1 p2 25).later hB3
        have OB' := (Open'.start (w2.alloc (.cells #[.int .i64 p1, .int .i64 p2] 25)) #[.int .i64 p1, .int .i64 p2] 25).later hB3
        rw [alloc_size] at TB' OB'
        have TB := Lib.hid TB'
        have OB := Lib.hid OB'
        have FZ3 := Lib.hid (((FZ.out.later la).later lb).later hB3)
        have FO3 := Lib.hid (((FO.out.later la).later lb).later hB3)
        have HB3 := Lib.hid (Below.next (Below.next (Below.next HB2.out la) lb) hB3)
        have hz2 : w.heap.size < w2.heap.size := FZ.out.1
        clear TB' OB' la lb hB3
        obtain ⟨hz, z1, z2, z3, z4⟩ := FZ3.out
        have zo := FO3.out.2
        obtain ⟨hza, a1, a2⟩ := TA.out
        obtain ⟨hzb, b1, b2⟩ := TB.out
        have bo := OB.out.2
        rcases hpe with rfl | rfl | rfl <;> rcases hqe with rfl | rfl | rfl
        · have HR : Hid (RZ s.data.toList = (min p1 q1, min p2 q2, max p1 q1, max p2 q2, 0)) := by unfold Hid; rw [HZ.out]; exact comb_0 rfl rfl
          go_wp2_with fail
          exact bodyPost_ret (v := .tuple #[.agg #[.int .i64 (min p1 q1), .int .i64 (min p2 q2), .int .i64 (max p1 q1), .int .i64 (max p2 q2)], .int .i64 0]) (by simp [results, Tryd.results26, go_sem, z1, z2, z3, z4]) rfl
            ⟨retR HR.out, ((((((HB3.out.setCell (by first | exact Nat.le_refl _ | (simp; omega)) _).setCell (by first | exact Nat.le_refl _ | (simp; omega)) _).setCell (by first | exact Nat.le_refl _ | (simp; omega)) _).setCell (by first | exact Nat.le_refl _ | (simp; omega)) _).setCell (by first | exact Nat.le_refl _ | (simp; omega)) _).setCell (by first | exact Nat.le_refl _ | (simp; omega)) _)⟩
        · have HR : Hid (RZ s.data.toList = (0, 0, 0, 0, 3)) := by unfold Hid; rw [HZ.out]; exact comb_3 (by simp) (Or.inr (by simp))
          go_wp2_with fail
          exact bodyPost_ret (v := .tuple #[.agg #[.int .i64 0, .int .i64 0, .int .i64 0, .int .i64 0], .int .i64 3]) (by simp [results, Tryd.results26, go_sem, z1, z2, z3, z4]) rfl
            ⟨retR HR.out, ((((((HB3.out.setCell (by first | exact Nat.le_refl _ | (simp; omega)) _).setCell (by first | exact Nat.le_refl _ | (simp; omega)) _).setCell (by first | exact Nat.le_refl _ | (simp; omega)) _).setCell (by first | exact Nat.le_refl _ | (simp; omega)) _).setCell (by first | exact Nat.le_refl _ | (simp; omega)) _).setCell (by first | exact Nat.le_refl _ | (simp; omega)) _)⟩
        · have HR : Hid (RZ s.data.toList = (0, 0, 0, 0, 4)) := by unfold Hid; rw [HZ.out]; exact comb_4 (Or.inr rfl)
          go_wp2_with fail
          exact bodyPost_ret (v := .tuple #[.agg #[.int .i64 0, .int .i64 0, .int .i64 0, .int .i64 0], .int .i64 4]) (by simp [results, Tryd.results26, go_sem, z1, z2, z3, z4]) rfl
            ⟨retR HR.out, ((((((HB3.out.setCell (by first | exact Nat.le_refl _ | (simp; omega)) _).setCell (by first | exact Nat.le_refl _ | (simp; omega)) _).setCell (by first | exact Nat.le_refl _ | (simp; omega)) _).setCell (by first | exact Nat.le_refl _ | (simp; omega)) _).setCell (by first | exact Nat.le_refl _ | (simp; omega)) _).setCell (by first | exact Nat.le_refl _ | (simp; omega)) _)⟩
        · have HR : Hid (RZ s.data.toList = (0, 0, 0, 0, 3)) := by unfold Hid; rw [HZ.out]; exact comb_3 (by simp) (Or.inl (by simp))
          go_wp2_with fail
          exact bodyPost_ret (v := .tuple #[.agg #[.int .i64 0, .int .i64 0, .int .i64 0, .int .i64 0], .int .i64 3]) (by simp [results, Tryd.results26, go_sem, z1, z2, z3, z4]) rfl
            ⟨retR HR.out, ((((((HB3.out.setCell (by first | exact Nat.le_refl _ | (simp; omega)) _).setCell (by first | exact Nat.le_refl _ | (simp; omega)) _).setCell (by first | exact Nat.le_refl _ | (simp; omega)) _).setCell (by first | exact Nat.le_refl _ | (simp; omega)) _).setCell (by first | exact Nat.le_refl _ | (simp; omega)) _).setCell (by first | exact Nat.le_refl _ | (simp; omega)) _)⟩
        · have HR : Hid (RZ s.data.toList = (0, 0, 0, 0, 3)) := by unfold Hid; rw [HZ.out]; exact comb_3 (by simp) (Or.inl (by simp))
          go_wp2_with fail
          exact bodyPost_ret (v := .tuple #[.agg #[.int .i64 0, .int .i64 0, .int .i64 0, .int .i64 0], .int .i64 3]) (by simp [results, Tryd.results26, go_sem, z1, z2, z3, z4]) rfl
            ⟨retR HR.out, ((((((HB3.out.setCell (by first | exact Nat.le_refl _ | (simp; omega)) _).setCell (by first | exact Nat.le_refl _ | (simp; omega)) _).setCell (by first | exact Nat.le_refl _ | (simp; omega)) _).setCell (by first | exact Nat.le_refl _ | (simp; omega)) _).setCell (by first | exact Nat.le_refl _ | (simp; omega)) _).setCell (by first | exact Nat.le_refl _ | (simp; omega)) _)⟩
        · have HR : Hid (RZ s.data.toList = (0, 0, 0, 0, 4)) := by unfold Hid; rw [HZ.out]; exact comb_4 (Or.inr rfl)
          go_wp2_with fail
          exact bodyPost_ret (v := .tuple #[.agg #[.int .i64 0, .int .i64 0, .int .i64 0, .int .i64 0], .int .i64 4]) (by simp [results, Tryd.results26, go_sem, z1, z2, z3, z4]) rfl
            ⟨retR HR.out, ((((((HB3.out.setCell (by first | exact Nat.le_refl _ | (simp; omega)) _).setCell (by first | exact Nat.le_refl _ | (simp; omega)) _).setCell (by first | exact Nat.le_refl _ | (simp; omega)) _).setCell (by first | exact Nat.le_refl _ | (simp; omega)) _).setCell (by first | exact Nat.le_refl _ | (simp; omega)) _).setCell (by first | exact Nat.le_refl _ | (simp; omega)) _)⟩
        · have HR : Hid (RZ s.data.toList = (0, 0, 0, 0, 4)) := by unfold Hid; rw [HZ.out]; exact comb_4 (Or.inl rfl)
          go_wp2_with fail
          exact bodyPost_ret (v := .tuple #[.agg #[.int .i64 0, .int .i64 0, .int .i64 0, .int .i64 0], .int .i64 4]) (by simp [results, Tryd.results26, go_sem, z1, z2, z3, z4]) rfl
            ⟨retR HR.out, ((((((HB3.out.setCell (by first | exact Nat.le_refl _ | (simp; omega)) _).setCell (by first | exact Nat.le_refl _ | (simp; omega)) _).setCell (by first | exact Nat.le_refl _ | (simp; omega)) _).setCell (by first | exact Nat.le_refl _ | (simp; omega)) _).setCell (by first | exact Nat.le_refl _ | (simp; omega)) _).setCell (by first | exact Nat.le_refl _ | (simp; omega)) _)⟩
        · have HR : Hid (RZ s.data.toList = (0, 0, 0, 0, 4)) := by unfold Hid; rw [HZ.out]; exact comb_4 (Or.inl rfl)
          go_wp2_with fail
          exact bodyPost_ret (v := .tuple #[.agg #[.int .i64 0, .int .i64 0, .int .i64 0, .int .i64 0], .int .i64 4]) (by simp [results, Tryd.results26, go_sem, z1, z2, z3, z4]) rfl
            ⟨retR HR.out, ((((((HB3.out.setCell (by first | exact Nat.le_refl _ | (simp; omega)) _).setCell (by first | exact Nat.le_refl _ | (simp; omega)) _).setCell (by first | exact Nat.le_refl _ | (simp; omega)) _).setCell (by first | exact Nat.le_refl _ | (simp; omega)) _).setCell (by first | exact Nat.le_refl _ | (simp; omega)) _).setCell (by first | exact Nat.le_refl _ | (simp; omega)) _)⟩
        · have HR : Hid (RZ s.data.toList = (0, 0, 0, 0, 4)) := by unfold Hid; rw [HZ.out]; exact comb_4 (Or.inl rfl)
          go_wp2_with fail
          exact bodyPost_ret (v := .tuple #[.agg #[.int .i64 0, .int .i64 0, .int .i64 0, .int .i64 0], .int .i64 4]) (by simp [results, Tryd.results26, go_sem, z1, z2, z3, z4]) rfl
            ⟨retR HR.out, ((((((HB3.out.setCell (by first | exact Nat.le_refl _ | (simp; omega)) _).setCell (by first | exact Nat.le_refl _ | (simp; omega)) _).setCell (by first | exact Nat.le_refl _ | (simp; omega)) _).setCell (by first | exact Nat.le_refl _ | (simp; omega)) _).setCell (by first | exact Nat.le_refl _ | (simp; omega)) _).setCell (by first | exact Nat.le_refl _ | (simp; omega)) _)⟩
      · have e58 : ((s[n].toNat : Int) != 58) = true := by simpa using h58
        have HN : Hid (∀ j, j < n + 1 → s.data.toList[j]? ≠ some 58) := by
          intro j hj
          by_cases h : j < n
          · exact HA.out j h
          · obtain rfl : j = n := by omega
            exact get_q' s j fun _ => h58
        clear h58
        go_wp2_with fail
        go_round
        case rel => exact ⟨n + 1, by go_num, by omega, HN.out⟩
        case measure => simp [intOf]; omega
    · obtain rfl : n = s.size := by omega
      have hcn : colon s.data.toList = s.size := (colon_unique ⟨by rw [HLEN.out]; exact Nat.le_refl _, HA.out, fun h => absurd h (by rw [HLEN.out]; exact Nat.lt_irrefl _)⟩).symm
      have HZ := Lib.hid (RZ_one (s := s) (by rw [hcn]; exact Nat.lt_irrefl _))
      have hpe := PZ_err s.data.toList
      clear hcn HA
      go_wp2_with fail
      refine (rparse_any s hs _).mono ?_
      rintro e w2 ⟨rfl, hB2⟩
      generalize PZ s.data.toList = pz at *
      obtain ⟨p1, p2, pe⟩ := pz
      have FZ := Lib.hid ((Four.start w 0 0 0 0 23).later hB2)
      have FO := Lib.hid ((Open'.start w #[.int .i64 0, .int .i64 0, .int .i64 0, .int .i64 0] 23).later hB2)
      have HB2 := Lib.hid (Below.next (below_alloc w (.cells #[.int .i64 0, .int .i64 0, .int .i64 0, .int .i64 0] 23)) hB2)
      clear hB2
      dsimp only at hpe HZ ⊢
      obtain ⟨hz, z1, z2, z3, z4⟩ := FZ.out
      have zo := FO.out.2
      rcases hpe with rfl | rfl | rfl
      · have HR : Hid (RZ s.data.toList = (p1, p2, p1, p2, 0)) := by unfold Hid; rw [HZ.out]; rw [comb_0 rfl rfl]; simp
        go_wp2_with fail
        exact bodyPost_ret (v := .tuple #[.agg #[.int .i64 p1, .int .i64 p2, .int .i64 p1, .int .i64 p2], .int .i64 0]) (by simp [results, Tryd.results26, go_sem, z1, z2, z3, z4, hz]) rfl
          ⟨retR HR.out, ((((((HB2.out.setCell (Nat.le_refl _) _).setCell (Nat.le_refl _) _).setCell (Nat.le_refl _) _).setCell (Nat.le_refl _) _).alloc (by simp; omega) _).alloc (by simp; omega) _)⟩
      · have HR : Hid (RZ s.data.toList = (0, 0, 0, 0, 3)) := by unfold Hid; rw [HZ.out]; exact comb_3 (by simp) (Or.inl (by simp))
        go_wp2_with fail
        exact bodyPost_ret (v := .tuple #[.agg #[.int .i64 0, .int .i64 0, .int .i64 0, .int .i64 0], .int .i64 3]) (by simp [results, Tryd.results26, go_sem, z1, z2, z3, z4, hz]) rfl
          ⟨retR HR.out, ((((((HB2.out.setCell (Nat.le_refl _) _).setCell (Nat.le_refl _) _).setCell (Nat.le_refl _) _).setCell (Nat.le_refl _) _).alloc (by simp; omega) _).alloc (by simp; omega) _)⟩
      · have HR : Hid (RZ s.data.toList = (0, 0, 0, 0, 4)) := by unfold Hid; rw [HZ.out]; exact comb_4 (Or.inl rfl)
        go_wp2_with fail
        exact bodyPost_ret (v := .tuple #[.agg #[.int .i64 0, .int .i64 0, .int .i64 0, .int .i64 0], .int .i64 4]) (by simp [results, Tryd.results26, go_sem, z1, z2, z3, z4, hz]) rfl
          ⟨retR HR.out, ((((((HB2.out.setCell (Nat.le_refl _) _).setCell (Nat.le_refl _) _).setCell (Nat.le_refl _) _).setCell (Nat.le_refl _) _).alloc (by simp; omega) _).alloc (by simp; omega) _)⟩
end Go.Proofs.YtmfcbcgobefjkaaDoor
