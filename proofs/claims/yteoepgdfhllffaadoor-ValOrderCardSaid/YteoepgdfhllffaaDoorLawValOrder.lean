/- The walk of the law: Compare is an order of values. -/
import Derived.Test.YteoepgdfhllffaaDoorValO
import Derived.Test.YteoepgdfhllffaaDoorValK
import Derived.Test.YteoepgdfhllffaaDoorCameV
namespace Go.Proofs.YteoepgdfhllffaaDoor.Va
open Go Go.RowKit GM
theorem retBv {b b' : Bool} (h : b = b') : Ending.returned (.bool b) = .returned (.bool b') := by rw [h]
theorem long_any (k : Nat) (n : Int) (s : ByteArray) (w : World) :
    Calls Tryd.prog 14 #[.agg #[.int .u8 (k : Int), .int .i64 n, .string s]] w fun e w' => e = .returned (.bool (decide (2000 < s.size))) ∧ Below w.heap.size w w' := by
  by_cases h : 2000 < s.size
  · have HD : Hid (decide (2000 < s.size) = true) := decide_eq_true h
    go_enter Tryd.func14, Tryd.ntmps14
    go_wp2_with fail
    go_ret
    exact ⟨retBv (by rw [HD.out]; simp; omega), valloc _ _⟩
  · have HD : Hid (decide (2000 < s.size) = false) := decide_eq_false h
    go_enter Tryd.func14, Tryd.ntmps14
    go_wp2_with fail
    go_ret
    exact ⟨retBv (by rw [HD.out]; simp; omega), valloc _ _⟩
set_option maxRecDepth 100000 in
set_option maxHeartbeats 6400000 in
theorem valOrder_any (k : Nat) (n : Int) (s : ByteArray) (hn : leastI ≤ n) (k' : Nat) (n' : Int) (s' : ByteArray) (hn' : leastI ≤ n') (k2 : Nat) (n2 : Int) (s2 : ByteArray) (hn2 : leastI ≤ n2) (w : World) (hN : Nm w) :
    Calls Tryd.prog 8 #[.agg #[.int .u8 (k : Int), .int .i64 n, .string s], .agg #[.int .u8 (k' : Int), .int .i64 n', .string s'], .agg #[.int .u8 (k2 : Int), .int .i64 n2, .string s2]] w fun e w' => e = .returned (.bool true) ∧ Below w.heap.size w w' := by
  have HA0 := Lib.hid (B3.start w k n s)
  have HB0 := Lib.hid (B3.start (w.alloc (.cells #[.int .u8 (k : Int), .int .i64 n, .string s] 29)) k' n' s')
  have HC0 := Lib.hid (B3.start ((w.alloc (.cells #[.int .u8 (k : Int), .int .i64 n, .string s] 29)).alloc (.cells #[.int .u8 (k' : Int), .int .i64 n', .string s'] 29)) k2 n2 s2)
  rw [World.size_alloc] at HB0
  rw [World.size_alloc, World.size_alloc] at HC0
  have HA1 := Lib.hid ((HA0.out.later (valloc _ (.cells #[.int .u8 (k' : Int), .int .i64 n', .string s'] 29))).later (valloc _ (.cells #[.int .u8 (k2 : Int), .int .i64 n2, .string s2] 29)))
  have HB1 := Lib.hid (HB0.out.later (valloc _ (.cells #[.int .u8 (k2 : Int), .int .i64 n2, .string s2] 29)))
  have HW0 := Lib.hid (vnext (vnext (valloc w (.cells #[.int .u8 (k : Int), .int .i64 n, .string s] 29)) (valloc _ (.cells #[.int .u8 (k' : Int), .int .i64 n', .string s'] 29))) (valloc _ (.cells #[.int .u8 (k2 : Int), .int .i64 n2, .string s2] 29)))
  have HN := Lib.hid hN
  clear HA0 HB0 hN
  go_enter Tryd.func8, Tryd.ntmps8
  go_wp2_with fail
  generalize ((w.alloc (.cells #[.int .u8 (k : Int), .int .i64 n, .string s] 29)).alloc (.cells #[.int .u8 (k' : Int), .int .i64 n', .string s'] 29)).alloc (.cells #[.int .u8 (k2 : Int), .int .i64 n2, .string s2] 29) = w0 at *
  have HS0 : Hid (B3 w0 w.heap.size k n s ∧ B3 w0 (w.heap.size + 1) k' n' s' ∧ B3 w0 (w.heap.size + 1 + 1) k2 n2 s2 ∧ Below w.heap.size w w0) := ⟨HA1.out, HB1.out, HC0.out, HW0.out⟩
  clear HA1 HB1 HC0 HW0
  refine (long_any k n s _).mono ?_
  rintro e w1 ⟨rfl, hB⟩
  have HS1 : Hid (B3 w1 w.heap.size k n s ∧ B3 w1 (w.heap.size + 1) k' n' s' ∧ B3 w1 (w.heap.size + 1 + 1) k2 n2 s2 ∧ Below w.heap.size w w1) := ⟨HS0.out.1.later hB, HS0.out.2.1.later hB, HS0.out.2.2.1.later hB, vnext HS0.out.2.2.2 hB⟩
  clear hB HS0
  by_cases l1 : 2000 < s.size
  · rw [decide_eq_true l1]
    go_wp2_with fail
    refine (known05 _ (HN.out.later (HS1.out.2.2.2))).mono ?_
    rintro e wE ⟨rfl, hBE⟩
    have HBE := Lib.hid (vnext HS1.out.2.2.2 hBE)
    go_wp2_with fail
    go_ret
    exact ⟨rfl, HBE.out⟩
  · rw [decide_eq_false l1]
    obtain ⟨a0, a1, a2, _, _, _⟩ := HS1.out.1.cells
    obtain ⟨b0, b1, b2, _, _, _⟩ := HS1.out.2.1.cells
    obtain ⟨d0, d1, d2, _, _, _⟩ := HS1.out.2.2.1.cells
    go_wp2_with fail
    clear a0 a1 a2 b0 b1 b2 d0 d1 d2
    refine (long_any k' n' s' _).mono ?_
    rintro e w2 ⟨rfl, hB⟩
    have HS2 : Hid (B3 w2 w.heap.size k n s ∧ B3 w2 (w.heap.size + 1) k' n' s' ∧ B3 w2 (w.heap.size + 1 + 1) k2 n2 s2 ∧ Below w.heap.size w w2) := ⟨HS1.out.1.later hB, HS1.out.2.1.later hB, HS1.out.2.2.1.later hB, vnext HS1.out.2.2.2 hB⟩
    clear hB HS1
    by_cases l2 : 2000 < s'.size
    · rw [decide_eq_true l2]
      go_wp2_with fail
      refine (known05 _ (HN.out.later (HS2.out.2.2.2))).mono ?_
      rintro e wE ⟨rfl, hBE⟩
      have HBE := Lib.hid (vnext HS2.out.2.2.2 hBE)
      go_wp2_with fail
      go_ret
      exact ⟨rfl, HBE.out⟩
    · rw [decide_eq_false l2]
      obtain ⟨a0, a1, a2, _, _, _⟩ := HS2.out.1.cells
      obtain ⟨b0, b1, b2, _, _, _⟩ := HS2.out.2.1.cells
      obtain ⟨d0, d1, d2, _, _, _⟩ := HS2.out.2.2.1.cells
      go_wp2_with fail
      clear a0 a1 a2 b0 b1 b2 d0 d1 d2
      refine (long_any k2 n2 s2 _).mono ?_
      rintro e w3 ⟨rfl, hB⟩
      have HS3 : Hid (B3 w3 w.heap.size k n s ∧ B3 w3 (w.heap.size + 1) k' n' s' ∧ B3 w3 (w.heap.size + 1 + 1) k2 n2 s2 ∧ Below w.heap.size w w3) := ⟨HS2.out.1.later hB, HS2.out.2.1.later hB, HS2.out.2.2.1.later hB, vnext HS2.out.2.2.2 hB⟩
      clear hB HS2
      by_cases l3 : 2000 < s2.size
      · rw [decide_eq_true l3]
        go_wp2_with fail
        refine (known05 _ (HN.out.later (HS3.out.2.2.2))).mono ?_
        rintro e wE ⟨rfl, hBE⟩
        have HBE := Lib.hid (vnext HS3.out.2.2.2 hBE)
        go_wp2_with fail
        go_ret
        exact ⟨rfl, HBE.out⟩
      · rw [decide_eq_false l3]
        have HAB := Lib.hid (fun w => compare_any k n s (by omega) hn k' n' s' (by omega) hn' w)
        have HBA := Lib.hid (fun w => compare_any k' n' s' (by omega) hn' k n s (by omega) hn w)
        have HBC := Lib.hid (fun w => compare_any k' n' s' (by omega) hn' k2 n2 s2 (by omega) hn2 w)
        have HAC := Lib.hid (fun w => compare_any k n s (by omega) hn k2 n2 s2 (by omega) hn2 w)
        have HBL := Lib.hid (fun w => compare_any 0 0 ⟨#[]⟩ (by decide) (by decide) k' 0 ⟨#[]⟩ (by decide) (by decide) w)
        obtain ⟨q1, q2, q3, q4⟩ := cp_anti k n s k' n' s'
        rw [q1, q2] at HBA
        have HOK : Hid ((cpR k n s k' n' s').2 = 0 → vldV k n s.data.toList = true ∧ vldV k' n' s'.data.toList = true ∧ k ≠ 4 ∧ k' ≠ 4) := cp_ok
        have HOK2 : Hid ((cpR k' n' s' k2 n2 s2).2 = 0 → vldV k' n' s'.data.toList = true ∧ vldV k2 n2 s2.data.toList = true ∧ k' ≠ 4 ∧ k2 ≠ 4) := cp_ok
        have HF1 : Hid ((cpR k n s k' n' s').2 = 0 → k ≠ 0 → k' ≠ 0 → (cpR k n s k' n' s').1 = c1 k n s k' n' s') := cp_full
        have HF2 : Hid ((cpR k' n' s' k2 n2 s2).2 = 0 → k' ≠ 0 → k2 ≠ 0 → (cpR k' n' s' k2 n2 s2).1 = c1 k' n' s' k2 n2 s2) := cp_full
        have HF3 : Hid ((cpR k n s k2 n2 s2).2 = 0 → k ≠ 0 → k2 ≠ 0 → (cpR k n s k2 n2 s2).1 = c1 k n s k2 n2 s2) := cp_full
        clear q1 q2 hn hn' hn2 l1 l2 l3
        generalize (cpR k n s k' n' s').1 = x at *
        generalize (cpR k n s k' n' s').2 = ex at *
        generalize (cpR k' n' s' k2 n2 s2).1 = y at *
        generalize (cpR k' n' s' k2 n2 s2).2 = ey at *
        generalize (cpR k n s k2 n2 s2).1 = z at *
        generalize (cpR k n s k2 n2 s2).2 = ez at *
        obtain ⟨a0, a1, a2, _, _, _⟩ := HS3.out.1.cells
        obtain ⟨b0, b1, b2, _, _, _⟩ := HS3.out.2.1.cells
        obtain ⟨d0, d1, d2, _, _, _⟩ := HS3.out.2.2.1.cells
        go_wp2_with fail
        clear a0 a1 a2 b0 b1 b2 d0 d1 d2
        refine (HAB.out _).mono ?_
        rintro e w4 ⟨rfl, hB⟩
        have HS4 : Hid (B3 w4 w.heap.size k n s ∧ B3 w4 (w.heap.size + 1) k' n' s' ∧ B3 w4 (w.heap.size + 1 + 1) k2 n2 s2 ∧ Below w.heap.size w w4) := ⟨HS3.out.1.later hB, HS3.out.2.1.later hB, HS3.out.2.2.1.later hB, vnext HS3.out.2.2.2 hB⟩
        clear hB HS3
        obtain ⟨a0, a1, a2, _, _, _⟩ := HS4.out.1.cells
        obtain ⟨b0, b1, b2, _, _, _⟩ := HS4.out.2.1.cells
        obtain ⟨d0, d1, d2, _, _, _⟩ := HS4.out.2.2.1.cells
        go_wp2_with fail
        clear a0 a1 a2 b0 b1 b2 d0 d1 d2
        refine (HBA.out _).mono ?_
        rintro e w5 ⟨rfl, hB⟩
        have HS5 : Hid (B3 w5 w.heap.size k n s ∧ B3 w5 (w.heap.size + 1) k' n' s' ∧ B3 w5 (w.heap.size + 1 + 1) k2 n2 s2 ∧ Below w.heap.size w w5) := ⟨HS4.out.1.later hB, HS4.out.2.1.later hB, HS4.out.2.2.1.later hB, vnext HS4.out.2.2.2 hB⟩
        clear hB HS4
        obtain ⟨a0, a1, a2, _, _, _⟩ := HS5.out.1.cells
        obtain ⟨b0, b1, b2, _, _, _⟩ := HS5.out.2.1.cells
        obtain ⟨d0, d1, d2, _, _, _⟩ := HS5.out.2.2.1.cells
        go_wp2_with fail
        clear a0 a1 a2 b0 b1 b2 d0 d1 d2
        refine (HBC.out _).mono ?_
        rintro e w6 ⟨rfl, hB⟩
        have HS6 : Hid (B3 w6 w.heap.size k n s ∧ B3 w6 (w.heap.size + 1) k' n' s' ∧ B3 w6 (w.heap.size + 1 + 1) k2 n2 s2 ∧ Below w.heap.size w w6) := ⟨HS5.out.1.later hB, HS5.out.2.1.later hB, HS5.out.2.2.1.later hB, vnext HS5.out.2.2.2 hB⟩
        clear hB HS5
        obtain ⟨a0, a1, a2, _, _, _⟩ := HS6.out.1.cells
        obtain ⟨b0, b1, b2, _, _, _⟩ := HS6.out.2.1.cells
        obtain ⟨d0, d1, d2, _, _, _⟩ := HS6.out.2.2.1.cells
        go_wp2_with fail
        clear a0 a1 a2 b0 b1 b2 d0 d1 d2
        refine (HAC.out _).mono ?_
        rintro e w7 ⟨rfl, hB⟩
        have HS7 : Hid (B3 w7 w.heap.size k n s ∧ B3 w7 (w.heap.size + 1) k' n' s' ∧ B3 w7 (w.heap.size + 1 + 1) k2 n2 s2 ∧ Below w.heap.size w w7) := ⟨HS6.out.1.later hB, HS6.out.2.1.later hB, HS6.out.2.2.1.later hB, vnext HS6.out.2.2.2 hB⟩
        clear hB HS6
        by_cases e1 : ex = 0
        · by_cases e2 : ey = 0
          · by_cases e3 : ez = 0
            · obtain ⟨v1, v2, m1, m2⟩ := HOK.out e1
              obtain ⟨_, v3, _, m3⟩ := HOK2.out e2
              have g1 := HF1.out e1
              have g2 := HF2.out e2
              have g3 := HF3.out e3
              have HBZ := Lib.hid (cp_blank v2 m2)
              rw [HBZ.out] at HBL
              subst e1 e2 e3
              clear HOK HOK2 HF1 HF2 HF3 HBZ HAB HBA HBC HAC
              by_cases k0 : k = 0 ∨ k' = 0 ∨ k2 = 0
              · clear v1 v2 v3 m1 m2 m3 g1 g2 g3
                have hB : ((k : Int) == 0) = true ∨ ((k : Int) == 0) = false ∧ ((k' : Int) == 0) = true ∨ ((k : Int) == 0) = false ∧ ((k' : Int) == 0) = false ∧ ((k2 : Int) == 0) = true := by
                  simp
                  omega
                clear k0
                rcases hB with z1 | ⟨z1, z2⟩ | ⟨z1, z2, z3⟩
                all_goals
                  obtain ⟨a0, a1, a2, _, _, _⟩ := HS7.out.1.cells
                  obtain ⟨b0, b1, b2, _, _, _⟩ := HS7.out.2.1.cells
                  obtain ⟨d0, d1, d2, _, _, _⟩ := HS7.out.2.2.1.cells
                  go_wp2_with fail
                  clear a0 a1 a2 b0 b1 b2 d0 d1 d2
                  refine (HBL.out _).mono ?_
                  rintro e w8 ⟨rfl, hB⟩
                  have HS8 : Hid (B3 w8 w.heap.size k n s ∧ B3 w8 (w.heap.size + 1) k' n' s' ∧ B3 w8 (w.heap.size + 1 + 1) k2 n2 s2 ∧ Below w.heap.size w w8) := ⟨HS7.out.1.later hB, HS7.out.2.1.later hB, HS7.out.2.2.1.later hB, vnext HS7.out.2.2.2 hB⟩
                  clear hB HS7
                  go_wp2_with fail
                  refine (known05 _ (HN.out.later (HS8.out.2.2.2))).mono ?_
                  rintro e wE ⟨rfl, hBE⟩
                  have HBE := Lib.hid (vnext HS8.out.2.2.2 hBE)
                  go_wp2_with fail
                  go_ret
                  exact ⟨rfl, HBE.out⟩
              · have hz1 : ((k : Int) == 0) = false := by simp; omega
                have hz2 : ((k' : Int) == 0) = false := by simp; omega
                have hz3 : ((k2 : Int) == 0) = false := by simp; omega
                have w1 := vld_kind v1
                have w2 := vld_kind v2
                have w3 := vld_kind v3
                have u1 : k = 1 ∨ k = 2 ∨ k = 3 := by omega
                have u2 : k' = 1 ∨ k' = 2 ∨ k' = 3 := by omega
                have u3 : k2 = 1 ∨ k2 = 2 ∨ k2 = 3 := by omega
                replace g1 := g1 (by omega) (by omega)
                replace g2 := g2 (by omega) (by omega)
                replace g3 := g3 (by omega) (by omega)
                have HTR : Hid (x ≤ 0 → y ≤ 0 → z ≤ 0 ∧ (z = 0 → x = 0 ∧ y = 0)) := by rw [g1, g2, g3]; exact c1_trans u1 u2 u3
                have HZE : Hid (x = 0 → k = k' ∧ n = n' ∧ (k ≠ 3 → s = s') ∧ s.size = s'.size) := by rw [g1]; exact c1_zero u1 u2 v1 v2
                have HSE : Hid (k = k' → n = n' → s = s' → x = 0) := by rw [g1]; rintro rfl rfl rfl; exact c1_self _ _ _
                clear g1 g2 g3 u1 u2 u3 w1 w2 w3 v1 v2 v3 m1 m2 m3 k0 HBL
                by_cases hx : x = 0
                · obtain ⟨j1, j2, j3, j4⟩ := HZE.out hx
                  subst hx j1 j2
                  by_cases hk3 : k = 3
                  · subst hk3
                    have hsz : ((s.size : Int) != (s'.size : Int)) = false := by simp; omega
                    clear j3 j4 hz1 hz2
                    by_cases hss : s = s'
                    · subst hss
                      by_cases hy : y ≤ 0
                      · obtain ⟨t1, t2⟩ := HTR.out (by omega) hy
                        by_cases hz : z = 0
                        · have hy0 := (t2 hz).2
                          subst hz hy0
                          clear t1 t2 hy HTR HZE HSE
                          obtain ⟨a0, a1, a2, _, _, _⟩ := HS7.out.1.cells
                          obtain ⟨b0, b1, b2, _, _, _⟩ := HS7.out.2.1.cells
                          obtain ⟨d0, d1, d2, _, _, _⟩ := HS7.out.2.2.1.cells
                          go_wp2_with fail
                          clear a0 a1 a2 b0 b1 b2 d0 d1 d2
                          refine (known05 _ (HN.out.later (HS7.out.2.2.2))).mono ?_
                          rintro e wE ⟨rfl, hBE⟩
                          have HBE := Lib.hid (vnext HS7.out.2.2.2 hBE)
                          go_wp2_with fail
                          go_ret
                          exact ⟨rfl, HBE.out⟩
                        · have zz2 : (z == 0) = false := by simpa using hz
                          have zz3 : z < 0 := by omega
                          clear t1 t2 hz HTR HZE HSE
                          obtain ⟨a0, a1, a2, _, _, _⟩ := HS7.out.1.cells
                          obtain ⟨b0, b1, b2, _, _, _⟩ := HS7.out.2.1.cells
                          obtain ⟨d0, d1, d2, _, _, _⟩ := HS7.out.2.2.1.cells
                          go_wp2_with fail
                          clear a0 a1 a2 b0 b1 b2 d0 d1 d2
                          refine (known05 _ (HN.out.later (HS7.out.2.2.2))).mono ?_
                          rintro e wE ⟨rfl, hBE⟩
                          have HBE := Lib.hid (vnext HS7.out.2.2.2 hBE)
                          go_wp2_with fail
                          go_ret
                          exact ⟨rfl, HBE.out⟩
                      · have hy2 : 0 < y := by omega
                        clear hy HTR HZE HSE
                        obtain ⟨a0, a1, a2, _, _, _⟩ := HS7.out.1.cells
                        obtain ⟨b0, b1, b2, _, _, _⟩ := HS7.out.2.1.cells
                        obtain ⟨d0, d1, d2, _, _, _⟩ := HS7.out.2.2.1.cells
                        go_wp2_with fail
                        clear a0 a1 a2 b0 b1 b2 d0 d1 d2
                        refine (known05 _ (HN.out.later (HS7.out.2.2.2))).mono ?_
                        rintro e wE ⟨rfl, hBE⟩
                        have HBE := Lib.hid (vnext HS7.out.2.2.2 hBE)
                        go_wp2_with fail
                        go_ret
                        exact ⟨rfl, HBE.out⟩
                    · have hs1 : (s.toList == s'.toList) = false := by rw [ByteArray.toList_eq, ByteArray.toList_eq]; simpa using fun e => hss (ByteArray.ext (Array.toList_inj.1 e))
                      clear hss
                      by_cases hy : y ≤ 0
                      · obtain ⟨t1, t2⟩ := HTR.out (by omega) hy
                        by_cases hz : z = 0
                        · have hy0 := (t2 hz).2
                          subst hz hy0
                          clear t1 t2 hy HTR HZE HSE
                          obtain ⟨a0, a1, a2, _, _, _⟩ := HS7.out.1.cells
                          obtain ⟨b0, b1, b2, _, _, _⟩ := HS7.out.2.1.cells
                          obtain ⟨d0, d1, d2, _, _, _⟩ := HS7.out.2.2.1.cells
                          go_wp2_with fail
                          clear a0 a1 a2 b0 b1 b2 d0 d1 d2
                          refine (known05 _ (HN.out.later (HS7.out.2.2.2))).mono ?_
                          rintro e wE ⟨rfl, hBE⟩
                          have HBE := Lib.hid (vnext HS7.out.2.2.2 hBE)
                          go_wp2_with fail
                          go_ret
                          exact ⟨rfl, HBE.out⟩
                        · have zz2 : (z == 0) = false := by simpa using hz
                          have zz3 : z < 0 := by omega
                          clear t1 t2 hz HTR HZE HSE
                          obtain ⟨a0, a1, a2, _, _, _⟩ := HS7.out.1.cells
                          obtain ⟨b0, b1, b2, _, _, _⟩ := HS7.out.2.1.cells
                          obtain ⟨d0, d1, d2, _, _, _⟩ := HS7.out.2.2.1.cells
                          go_wp2_with fail
                          clear a0 a1 a2 b0 b1 b2 d0 d1 d2
                          refine (known05 _ (HN.out.later (HS7.out.2.2.2))).mono ?_
                          rintro e wE ⟨rfl, hBE⟩
                          have HBE := Lib.hid (vnext HS7.out.2.2.2 hBE)
                          go_wp2_with fail
                          go_ret
                          exact ⟨rfl, HBE.out⟩
                      · have hy2 : 0 < y := by omega
                        clear hy HTR HZE HSE
                        obtain ⟨a0, a1, a2, _, _, _⟩ := HS7.out.1.cells
                        obtain ⟨b0, b1, b2, _, _, _⟩ := HS7.out.2.1.cells
                        obtain ⟨d0, d1, d2, _, _, _⟩ := HS7.out.2.2.1.cells
                        go_wp2_with fail
                        clear a0 a1 a2 b0 b1 b2 d0 d1 d2
                        refine (known05 _ (HN.out.later (HS7.out.2.2.2))).mono ?_
                        rintro e wE ⟨rfl, hBE⟩
                        have HBE := Lib.hid (vnext HS7.out.2.2.2 hBE)
                        go_wp2_with fail
                        go_ret
                        exact ⟨rfl, HBE.out⟩
                  · have j3 := j3 hk3
                    subst j3
                    have hk4 : ((k : Int) == 3) = false := by simp <;> omega
                    clear j4
                    by_cases hy : y ≤ 0
                    · obtain ⟨t1, t2⟩ := HTR.out (by omega) hy
                      by_cases hz : z = 0
                      · have hy0 := (t2 hz).2
                        subst hz hy0
                        clear t1 t2 hy HTR HZE HSE
                        obtain ⟨a0, a1, a2, _, _, _⟩ := HS7.out.1.cells
                        obtain ⟨b0, b1, b2, _, _, _⟩ := HS7.out.2.1.cells
                        obtain ⟨d0, d1, d2, _, _, _⟩ := HS7.out.2.2.1.cells
                        go_wp2_with fail
                        clear a0 a1 a2 b0 b1 b2 d0 d1 d2
                        refine (known05 _ (HN.out.later (HS7.out.2.2.2))).mono ?_
                        rintro e wE ⟨rfl, hBE⟩
                        have HBE := Lib.hid (vnext HS7.out.2.2.2 hBE)
                        go_wp2_with fail
                        go_ret
                        exact ⟨rfl, HBE.out⟩
                      · have zz2 : (z == 0) = false := by simpa using hz
                        have zz3 : z < 0 := by omega
                        clear t1 t2 hz HTR HZE HSE
                        obtain ⟨a0, a1, a2, _, _, _⟩ := HS7.out.1.cells
                        obtain ⟨b0, b1, b2, _, _, _⟩ := HS7.out.2.1.cells
                        obtain ⟨d0, d1, d2, _, _, _⟩ := HS7.out.2.2.1.cells
                        go_wp2_with fail
                        clear a0 a1 a2 b0 b1 b2 d0 d1 d2
                        refine (known05 _ (HN.out.later (HS7.out.2.2.2))).mono ?_
                        rintro e wE ⟨rfl, hBE⟩
                        have HBE := Lib.hid (vnext HS7.out.2.2.2 hBE)
                        go_wp2_with fail
                        go_ret
                        exact ⟨rfl, HBE.out⟩
                    · have hy2 : 0 < y := by omega
                      clear hy HTR HZE HSE
                      obtain ⟨a0, a1, a2, _, _, _⟩ := HS7.out.1.cells
                      obtain ⟨b0, b1, b2, _, _, _⟩ := HS7.out.2.1.cells
                      obtain ⟨d0, d1, d2, _, _, _⟩ := HS7.out.2.2.1.cells
                      go_wp2_with fail
                      clear a0 a1 a2 b0 b1 b2 d0 d1 d2
                      refine (known05 _ (HN.out.later (HS7.out.2.2.2))).mono ?_
                      rintro e wE ⟨rfl, hBE⟩
                      have HBE := Lib.hid (vnext HS7.out.2.2.2 hBE)
                      go_wp2_with fail
                      go_ret
                      exact ⟨rfl, HBE.out⟩
                · have hxe : (x == 0) = false := by simpa using hx
                  have hne : ¬ (k = k' ∧ n = n' ∧ s = s') := fun ⟨a1, a2, a3⟩ => hx (HSE.out a1 a2 a3)
                  by_cases hx0 : x ≤ 0
                  · have hxl : x < 0 := by omega
                    by_cases hy : y ≤ 0
                    · obtain ⟨t1, t2⟩ := HTR.out (by omega) hy
                      by_cases hz : z = 0
                      · exfalso
                        have := (t2 hz).1
                        omega
                      · have zz2 : (z == 0) = false := by simpa using hz
                        have zz3 : z < 0 := by omega
                        clear t1 t2 hz HTR HZE HSE
                        by_cases n1 : k = k'
                        · subst n1
                          by_cases n3 : n = n'
                          · subst n3
                            have n5 : ¬ s = s' := fun e => hne ⟨rfl, rfl, e⟩
                            have hs1 : (s.toList == s'.toList) = false := by rw [ByteArray.toList_eq, ByteArray.toList_eq]; simpa using fun e => n5 (ByteArray.ext (Array.toList_inj.1 e))
                            clear n5 hne hx
                            obtain ⟨a0, a1, a2, _, _, _⟩ := HS7.out.1.cells
                            obtain ⟨b0, b1, b2, _, _, _⟩ := HS7.out.2.1.cells
                            obtain ⟨d0, d1, d2, _, _, _⟩ := HS7.out.2.2.1.cells
                            go_wp2_with fail
                            clear a0 a1 a2 b0 b1 b2 d0 d1 d2
                            refine (known05 _ (HN.out.later (HS7.out.2.2.2))).mono ?_
                            rintro e wE ⟨rfl, hBE⟩
                            have HBE := Lib.hid (vnext HS7.out.2.2.2 hBE)
                            go_wp2_with fail
                            go_ret
                            exact ⟨rfl, HBE.out⟩
                          · have n6 : (n == n') = false := by simpa using n3
                            clear n3 hne hx
                            obtain ⟨a0, a1, a2, _, _, _⟩ := HS7.out.1.cells
                            obtain ⟨b0, b1, b2, _, _, _⟩ := HS7.out.2.1.cells
                            obtain ⟨d0, d1, d2, _, _, _⟩ := HS7.out.2.2.1.cells
                            go_wp2_with fail
                            clear a0 a1 a2 b0 b1 b2 d0 d1 d2
                            refine (known05 _ (HN.out.later (HS7.out.2.2.2))).mono ?_
                            rintro e wE ⟨rfl, hBE⟩
                            have HBE := Lib.hid (vnext HS7.out.2.2.2 hBE)
                            go_wp2_with fail
                            go_ret
                            exact ⟨rfl, HBE.out⟩
                        · have n7 : ((k : Int) == (k' : Int)) = false := by simp; omega
                          clear n1 hne hx
                          obtain ⟨a0, a1, a2, _, _, _⟩ := HS7.out.1.cells
                          obtain ⟨b0, b1, b2, _, _, _⟩ := HS7.out.2.1.cells
                          obtain ⟨d0, d1, d2, _, _, _⟩ := HS7.out.2.2.1.cells
                          go_wp2_with fail
                          clear a0 a1 a2 b0 b1 b2 d0 d1 d2
                          refine (known05 _ (HN.out.later (HS7.out.2.2.2))).mono ?_
                          rintro e wE ⟨rfl, hBE⟩
                          have HBE := Lib.hid (vnext HS7.out.2.2.2 hBE)
                          go_wp2_with fail
                          go_ret
                          exact ⟨rfl, HBE.out⟩
                    · have hy2 : 0 < y := by omega
                      clear hy HTR HZE HSE
                      by_cases n1 : k = k'
                      · subst n1
                        by_cases n3 : n = n'
                        · subst n3
                          have n5 : ¬ s = s' := fun e => hne ⟨rfl, rfl, e⟩
                          have hs1 : (s.toList == s'.toList) = false := by rw [ByteArray.toList_eq, ByteArray.toList_eq]; simpa using fun e => n5 (ByteArray.ext (Array.toList_inj.1 e))
                          clear n5 hne hx
                          obtain ⟨a0, a1, a2, _, _, _⟩ := HS7.out.1.cells
                          obtain ⟨b0, b1, b2, _, _, _⟩ := HS7.out.2.1.cells
                          obtain ⟨d0, d1, d2, _, _, _⟩ := HS7.out.2.2.1.cells
                          go_wp2_with fail
                          clear a0 a1 a2 b0 b1 b2 d0 d1 d2
                          refine (known05 _ (HN.out.later (HS7.out.2.2.2))).mono ?_
                          rintro e wE ⟨rfl, hBE⟩
                          have HBE := Lib.hid (vnext HS7.out.2.2.2 hBE)
                          go_wp2_with fail
                          go_ret
                          exact ⟨rfl, HBE.out⟩
                        · have n6 : (n == n') = false := by simpa using n3
                          clear n3 hne hx
                          obtain ⟨a0, a1, a2, _, _, _⟩ := HS7.out.1.cells
                          obtain ⟨b0, b1, b2, _, _, _⟩ := HS7.out.2.1.cells
                          obtain ⟨d0, d1, d2, _, _, _⟩ := HS7.out.2.2.1.cells
                          go_wp2_with fail
                          clear a0 a1 a2 b0 b1 b2 d0 d1 d2
                          refine (known05 _ (HN.out.later (HS7.out.2.2.2))).mono ?_
                          rintro e wE ⟨rfl, hBE⟩
                          have HBE := Lib.hid (vnext HS7.out.2.2.2 hBE)
                          go_wp2_with fail
                          go_ret
                          exact ⟨rfl, HBE.out⟩
                      · have n7 : ((k : Int) == (k' : Int)) = false := by simp; omega
                        clear n1 hne hx
                        obtain ⟨a0, a1, a2, _, _, _⟩ := HS7.out.1.cells
                        obtain ⟨b0, b1, b2, _, _, _⟩ := HS7.out.2.1.cells
                        obtain ⟨d0, d1, d2, _, _, _⟩ := HS7.out.2.2.1.cells
                        go_wp2_with fail
                        clear a0 a1 a2 b0 b1 b2 d0 d1 d2
                        refine (known05 _ (HN.out.later (HS7.out.2.2.2))).mono ?_
                        rintro e wE ⟨rfl, hBE⟩
                        have HBE := Lib.hid (vnext HS7.out.2.2.2 hBE)
                        go_wp2_with fail
                        go_ret
                        exact ⟨rfl, HBE.out⟩
                  · have hxl : 0 < x := by omega
                    clear HTR HZE HSE hx0
                    by_cases n1 : k = k'
                    · subst n1
                      by_cases n3 : n = n'
                      · subst n3
                        have n5 : ¬ s = s' := fun e => hne ⟨rfl, rfl, e⟩
                        have hs1 : (s.toList == s'.toList) = false := by rw [ByteArray.toList_eq, ByteArray.toList_eq]; simpa using fun e => n5 (ByteArray.ext (Array.toList_inj.1 e))
                        clear n5 hne hx
                        obtain ⟨a0, a1, a2, _, _, _⟩ := HS7.out.1.cells
                        obtain ⟨b0, b1, b2, _, _, _⟩ := HS7.out.2.1.cells
                        obtain ⟨d0, d1, d2, _, _, _⟩ := HS7.out.2.2.1.cells
                        go_wp2_with fail
                        clear a0 a1 a2 b0 b1 b2 d0 d1 d2
                        refine (known05 _ (HN.out.later (HS7.out.2.2.2))).mono ?_
                        rintro e wE ⟨rfl, hBE⟩
                        have HBE := Lib.hid (vnext HS7.out.2.2.2 hBE)
                        go_wp2_with fail
                        go_ret
                        exact ⟨rfl, HBE.out⟩
                      · have n6 : (n == n') = false := by simpa using n3
                        clear n3 hne hx
                        obtain ⟨a0, a1, a2, _, _, _⟩ := HS7.out.1.cells
                        obtain ⟨b0, b1, b2, _, _, _⟩ := HS7.out.2.1.cells
                        obtain ⟨d0, d1, d2, _, _, _⟩ := HS7.out.2.2.1.cells
                        go_wp2_with fail
                        clear a0 a1 a2 b0 b1 b2 d0 d1 d2
                        refine (known05 _ (HN.out.later (HS7.out.2.2.2))).mono ?_
                        rintro e wE ⟨rfl, hBE⟩
                        have HBE := Lib.hid (vnext HS7.out.2.2.2 hBE)
                        go_wp2_with fail
                        go_ret
                        exact ⟨rfl, HBE.out⟩
                    · have n7 : ((k : Int) == (k' : Int)) = false := by simp; omega
                      clear n1 hne hx
                      obtain ⟨a0, a1, a2, _, _, _⟩ := HS7.out.1.cells
                      obtain ⟨b0, b1, b2, _, _, _⟩ := HS7.out.2.1.cells
                      obtain ⟨d0, d1, d2, _, _, _⟩ := HS7.out.2.2.1.cells
                      go_wp2_with fail
                      clear a0 a1 a2 b0 b1 b2 d0 d1 d2
                      refine (known05 _ (HN.out.later (HS7.out.2.2.2))).mono ?_
                      rintro e wE ⟨rfl, hBE⟩
                      have HBE := Lib.hid (vnext HS7.out.2.2.2 hBE)
                      go_wp2_with fail
                      go_ret
                      exact ⟨rfl, HBE.out⟩
            · have ez2 : (ez != 0) = true := by simpa using e3
              clear HOK HOK2 HF1 HF2 HF3 HAB HBA HBC HAC HBL
              obtain ⟨a0, a1, a2, _, _, _⟩ := HS7.out.1.cells
              obtain ⟨b0, b1, b2, _, _, _⟩ := HS7.out.2.1.cells
              obtain ⟨d0, d1, d2, _, _, _⟩ := HS7.out.2.2.1.cells
              go_wp2_with fail
              clear a0 a1 a2 b0 b1 b2 d0 d1 d2
              refine (known05 _ (HN.out.later (HS7.out.2.2.2))).mono ?_
              rintro e wE ⟨rfl, hBE⟩
              have HBE := Lib.hid (vnext HS7.out.2.2.2 hBE)
              go_wp2_with fail
              go_ret
              exact ⟨rfl, HBE.out⟩
          · have ey2 : (ey != 0) = true := by simpa using e2
            clear HOK HOK2 HF1 HF2 HF3 HAB HBA HBC HAC HBL
            obtain ⟨a0, a1, a2, _, _, _⟩ := HS7.out.1.cells
            obtain ⟨b0, b1, b2, _, _, _⟩ := HS7.out.2.1.cells
            obtain ⟨d0, d1, d2, _, _, _⟩ := HS7.out.2.2.1.cells
            go_wp2_with fail
            clear a0 a1 a2 b0 b1 b2 d0 d1 d2
            refine (known05 _ (HN.out.later (HS7.out.2.2.2))).mono ?_
            rintro e wE ⟨rfl, hBE⟩
            have HBE := Lib.hid (vnext HS7.out.2.2.2 hBE)
            go_wp2_with fail
            go_ret
            exact ⟨rfl, HBE.out⟩
        · have ex2 : (ex != 0) = true := by simpa using e1
          clear HOK HOK2 HF1 HF2 HF3 HAB HBA HBC HAC HBL
          obtain ⟨a0, a1, a2, _, _, _⟩ := HS7.out.1.cells
          obtain ⟨b0, b1, b2, _, _, _⟩ := HS7.out.2.1.cells
          obtain ⟨d0, d1, d2, _, _, _⟩ := HS7.out.2.2.1.cells
          go_wp2_with fail
          clear a0 a1 a2 b0 b1 b2 d0 d1 d2
          refine (known05 _ (HN.out.later (HS7.out.2.2.2))).mono ?_
          rintro e wE ⟨rfl, hBE⟩
          have HBE := Lib.hid (vnext HS7.out.2.2.2 hBE)
          go_wp2_with fail
          go_ret
          exact ⟨rfl, HBE.out⟩
theorem valOrder_law (a b c : VV) (w : World) (hl : laidMetH Tryd.prog Rows.valOrderRow.laid w) :
    Calls Tryd.prog 8 #[.agg (cells3 a).toArray, .agg (cells3 b).toArray, .agg (cells3 c).toArray] w fun e w' => e = .returned (.bool true) ∧ Below w.heap.size w w' :=
  valOrder_any a.kd a.num a.txt a.lo b.kd b.num b.txt b.lo c.kd c.num c.txt c.lo w (nm_fifth (a := ("math/bits.deBruijn32tab", Rows.laid_math_bits_deBruijn32tab)) (b := ("math/bits.deBruijn64tab", Rows.laid_math_bits_deBruijn64tab)) (c := ("internal/strconv.uint64pow10", Rows.laid_internal_strconv_uint64pow10)) (d := ("unicode/utf8.acceptRanges", Rows.laid_unicode_utf8_acceptRanges)) (MakeChecks.laidMetH_plain _ _ _ (by kernel_rfl)) hl)
end Go.Proofs.YteoepgdfhllffaaDoor.Va
