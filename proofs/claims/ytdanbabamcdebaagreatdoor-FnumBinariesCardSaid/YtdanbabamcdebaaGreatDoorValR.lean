/- The contract of the specification's Compare. -/
import Derived.Test.YtdanbabamcdebaaGreatDoorValC
import Derived.Test.YtdanbabamcdebaaGreatDoorG1
namespace Go.Proofs.YtdanbabamcdebaaGreatDoor.Va
open Go Go.RowKit GM
attribute [local simp] DepA isB rsAt
set_option maxRecDepth 100000 in
set_option maxHeartbeats 3200000 in
theorem rvcheck_any (k : Nat) (n : Int) (s : ByteArray) (hs : s.size ≤ maxLen) (hn64 : leastI ≤ n) (w : World) :
    Calls Tryz.prog 52 #[.agg #[.int .u8 (k : Int), .int .i64 n, .string s]] w fun e w' => e = .returned (.int .i64 (vE k n s.data.toList)) ∧ Below w.heap.size w w' := by
  have HV : Hid (vE k n s.data.toList = if vldV k n s.data.toList = true then 0 else 2) := rfl
  have HCH := Lib.hid (fun w => rcheck_any s hs w)
  unfold leastI at hn64
  rcases empty_or s with rfl | ⟨he1, he2⟩
  · rw [show (⟨#[]⟩ : ByteArray).data.toList = [] from rfl] at *
    have hck : chk [] = 0 := rfl
    by_cases h0 : k = 0
    · subst h0
      by_cases hn : n = 0
      · subst hn
        have HR : Hid (vE 0 0 [] = 0) := by unfold Hid vE; rw [show vldV 0 0 [] = true from by unfold vldV; rfl]; rfl
        go_enter Tryz.func52, Tryz.ntmps52
        go_wp2_with fail
        go_ret
        exact ⟨retE (by rw [HR.out]), valloc _ _⟩
      · skip
        have HR : Hid (vE 0 n [] = 2) := by unfold Hid vE; rw [show vldV 0 n [] = false from by unfold vldV; simp [hn]]; rfl
        go_enter Tryz.func52, Tryz.ntmps52
        go_wp2_with fail
        go_ret
        exact ⟨retE (by rw [HR.out]), valloc _ _⟩
    by_cases h1 : k = 1
    · subst h1
      by_cases hn : n = -9223372036854775808
      · subst hn
        have HR : Hid (vE 1 (-9223372036854775808) [] = 2) := by unfold Hid vE; rw [show vldV 1 (-9223372036854775808) [] = false from by unfold vldV; rfl]; rfl
        go_enter Tryz.func52, Tryz.ntmps52
        go_wp2_with fail
        go_ret
        exact ⟨retE (by rw [HR.out]), valloc _ _⟩
      · have hn2 : (n != -9223372036854775808) = true := by simpa using hn
        have hn3 : -9223372036854775807 ≤ n := by omega
        have HR : Hid (vE 1 n [] = 0) := by unfold Hid vE; rw [show vldV 1 n [] = true from by unfold vldV; simp [leastI, hn]]; rfl
        go_enter Tryz.func52, Tryz.ntmps52
        go_wp2_with fail
        go_ret
        exact ⟨retE (by rw [HR.out]), valloc _ _⟩
    by_cases h2 : k = 2
    · subst h2
      by_cases hn : n = 0
      · subst hn
        have HR : Hid (vE 2 0 [] = 0) := by unfold Hid vE; rw [show vldV 2 0 [] = true from by unfold vldV; rfl]; rfl
        go_enter Tryz.func52, Tryz.ntmps52
        go_wp2_with fail
        go_ret
        exact ⟨retE (by rw [HR.out]), valloc _ _⟩
      by_cases hn1 : n = 1
      · subst hn1
        have HR : Hid (vE 2 1 [] = 0) := by unfold Hid vE; rw [show vldV 2 1 [] = true from by unfold vldV; rfl]; rfl
        go_enter Tryz.func52, Tryz.ntmps52
        go_wp2_with fail
        go_ret
        exact ⟨retE (by rw [HR.out]), valloc _ _⟩
      have HR : Hid (vE 2 n [] = 2) := by unfold Hid vE; rw [show vldV 2 n [] = false from by unfold vldV; simp [hn, hn1]]; rfl
      go_enter Tryz.func52, Tryz.ntmps52
      go_wp2_with fail
      go_ret
      exact ⟨retE (by rw [HR.out]), valloc _ _⟩
    by_cases h3 : k = 3
    · subst h3
      by_cases hn : n = 0
      · subst hn
        rw [hck] at HCH
        have HR : Hid (vE 3 0 [] = 0) := by unfold Hid vE; rw [show vldV 3 0 [] = true from by unfold vldV; simp [hck]]; rfl
        go_enter Tryz.func52, Tryz.ntmps52
        go_wp2_with fail
        refine (HCH.out _).mono ?_
        rintro e w1 ⟨rfl, rfl⟩
        go_wp2_with fail
        go_ret
        exact ⟨retE (by rw [HR.out]), valloc _ _⟩
      have HR : Hid (vE 3 n [] = 2) := by unfold Hid vE; rw [show vldV 3 n [] = false from by unfold vldV; simp [hn]]; rfl
      go_enter Tryz.func52, Tryz.ntmps52
      go_wp2_with fail
      go_ret
      exact ⟨retE (by rw [HR.out]), valloc _ _⟩
    by_cases h4 : k = 4
    · subst h4
      by_cases hn : 1 ≤ n
      · by_cases hn6 : n ≤ 6
        · skip
          have HR : Hid (vE 4 n [] = 0) := by unfold Hid vE; rw [show vldV 4 n [] = true from by unfold vldV; simp [hn, hn6]]; rfl
          go_enter Tryz.func52, Tryz.ntmps52
          go_wp2_with fail
          go_ret
          exact ⟨retE (by rw [HR.out]), valloc _ _⟩
        · have hn7 : 6 < n := by omega
          have HR : Hid (vE 4 n [] = 2) := by unfold Hid vE; rw [show vldV 4 n [] = false from by unfold vldV; simp [hn6]]; rfl
          go_enter Tryz.func52, Tryz.ntmps52
          go_wp2_with fail
          go_ret
          exact ⟨retE (by rw [HR.out]), valloc _ _⟩
      · have hn7 : n < 1 := by omega
        have HR : Hid (vE 4 n [] = 2) := by unfold Hid vE; rw [show vldV 4 n [] = false from by unfold vldV; simp [hn]]; rfl
        go_enter Tryz.func52, Tryz.ntmps52
        go_wp2_with fail
        go_ret
        exact ⟨retE (by rw [HR.out]), valloc _ _⟩
    have HR : Hid (vE k n [] = 2) := by unfold Hid vE; rw [show vldV k n [] = false from by unfold vldV; simp [h0, h1, h2, h3, h4]]; rfl
    go_enter Tryz.func52, Tryz.ntmps52
    go_wp2_with fail
    go_ret
    exact ⟨retE (by rw [HR.out]), valloc _ _⟩
  · skip
    by_cases h0 : k = 0
    · subst h0
      by_cases hn : n = 0
      · subst hn
        have HR : Hid (vE 0 0 s.data.toList = 2) := by unfold Hid vE; rw [show vldV 0 0 s.data.toList = false from by unfold vldV; simp [he1]]; rfl
        go_enter Tryz.func52, Tryz.ntmps52
        go_wp2_with fail
        go_ret
        exact ⟨retE (by rw [HR.out]), valloc _ _⟩
      · skip
        have HR : Hid (vE 0 n s.data.toList = 2) := by unfold Hid vE; rw [show vldV 0 n s.data.toList = false from by unfold vldV; simp [he1]]; rfl
        go_enter Tryz.func52, Tryz.ntmps52
        go_wp2_with fail
        go_ret
        exact ⟨retE (by rw [HR.out]), valloc _ _⟩
    by_cases h1 : k = 1
    · subst h1
      by_cases hn : n = -9223372036854775808
      · subst hn
        have HR : Hid (vE 1 (-9223372036854775808) s.data.toList = 2) := by unfold Hid vE; rw [show vldV 1 (-9223372036854775808) s.data.toList = false from by unfold vldV; simp [he1]]; rfl
        go_enter Tryz.func52, Tryz.ntmps52
        go_wp2_with fail
        go_ret
        exact ⟨retE (by rw [HR.out]), valloc _ _⟩
      · have hn2 : (n != -9223372036854775808) = true := by simpa using hn
        have hn3 : -9223372036854775807 ≤ n := by omega
        have HR : Hid (vE 1 n s.data.toList = 2) := by unfold Hid vE; rw [show vldV 1 n s.data.toList = false from by unfold vldV; simp [he1]]; rfl
        go_enter Tryz.func52, Tryz.ntmps52
        go_wp2_with fail
        go_ret
        exact ⟨retE (by rw [HR.out]), valloc _ _⟩
    by_cases h2 : k = 2
    · subst h2
      by_cases hn : n = 0
      · subst hn
        have HR : Hid (vE 2 0 s.data.toList = 2) := by unfold Hid vE; rw [show vldV 2 0 s.data.toList = false from by unfold vldV; simp [he1]]; rfl
        go_enter Tryz.func52, Tryz.ntmps52
        go_wp2_with fail
        go_ret
        exact ⟨retE (by rw [HR.out]), valloc _ _⟩
      by_cases hn1 : n = 1
      · subst hn1
        have HR : Hid (vE 2 1 s.data.toList = 2) := by unfold Hid vE; rw [show vldV 2 1 s.data.toList = false from by unfold vldV; simp [he1]]; rfl
        go_enter Tryz.func52, Tryz.ntmps52
        go_wp2_with fail
        go_ret
        exact ⟨retE (by rw [HR.out]), valloc _ _⟩
      have HR : Hid (vE 2 n s.data.toList = 2) := by unfold Hid vE; rw [show vldV 2 n s.data.toList = false from by unfold vldV; simp [hn, hn1]]; rfl
      go_enter Tryz.func52, Tryz.ntmps52
      go_wp2_with fail
      go_ret
      exact ⟨retE (by rw [HR.out]), valloc _ _⟩
    by_cases h3 : k = 3
    · subst h3
      by_cases hn : n = 0
      · subst hn
        by_cases hc : chk s.data.toList = 0
        · rw [hc] at HCH
          have HR : Hid (vE 3 0 s.data.toList = 0) := by unfold Hid vE; rw [show vldV 3 0 s.data.toList = true from by unfold vldV; simp [hc]]; rfl
          go_enter Tryz.func52, Tryz.ntmps52
          go_wp2_with fail
          refine (HCH.out _).mono ?_
          rintro e w1 ⟨rfl, rfl⟩
          go_wp2_with fail
          go_ret
          exact ⟨retE (by rw [HR.out]), valloc _ _⟩
        · have hc2 : (chk s.data.toList == 0) = false := by simpa using hc
          have HR : Hid (vE 3 0 s.data.toList = 2) := by unfold Hid vE; rw [show vldV 3 0 s.data.toList = false from by unfold vldV; simp [hc]]; rfl
          go_enter Tryz.func52, Tryz.ntmps52
          go_wp2_with fail
          refine (HCH.out _).mono ?_
          rintro e w1 ⟨rfl, rfl⟩
          go_wp2_with fail
          go_ret
          exact ⟨retE (by rw [HR.out]), valloc _ _⟩
      have HR : Hid (vE 3 n s.data.toList = 2) := by unfold Hid vE; rw [show vldV 3 n s.data.toList = false from by unfold vldV; simp [hn]]; rfl
      go_enter Tryz.func52, Tryz.ntmps52
      go_wp2_with fail
      go_ret
      exact ⟨retE (by rw [HR.out]), valloc _ _⟩
    by_cases h4 : k = 4
    · subst h4
      by_cases hn : 1 ≤ n
      · by_cases hn6 : n ≤ 6
        · skip
          have HR : Hid (vE 4 n s.data.toList = 2) := by unfold Hid vE; rw [show vldV 4 n s.data.toList = false from by unfold vldV; simp [he1]]; rfl
          go_enter Tryz.func52, Tryz.ntmps52
          go_wp2_with fail
          go_ret
          exact ⟨retE (by rw [HR.out]), valloc _ _⟩
        · have hn7 : 6 < n := by omega
          have HR : Hid (vE 4 n s.data.toList = 2) := by unfold Hid vE; rw [show vldV 4 n s.data.toList = false from by unfold vldV; simp [hn6]]; rfl
          go_enter Tryz.func52, Tryz.ntmps52
          go_wp2_with fail
          go_ret
          exact ⟨retE (by rw [HR.out]), valloc _ _⟩
      · have hn7 : n < 1 := by omega
        have HR : Hid (vE 4 n s.data.toList = 2) := by unfold Hid vE; rw [show vldV 4 n s.data.toList = false from by unfold vldV; simp [hn]]; rfl
        go_enter Tryz.func52, Tryz.ntmps52
        go_wp2_with fail
        go_ret
        exact ⟨retE (by rw [HR.out]), valloc _ _⟩
    have HR : Hid (vE k n s.data.toList = 2) := by unfold Hid vE; rw [show vldV k n s.data.toList = false from by unfold vldV; simp [h0, h1, h2, h3, h4]]; rfl
    go_enter Tryz.func52, Tryz.ntmps52
    go_wp2_with fail
    go_ret
    exact ⟨retE (by rw [HR.out]), valloc _ _⟩
theorem rbeside_any (k : Nat) (n : Int) (s : ByteArray) (k' : Nat) (n' : Int) (s' : ByteArray) (h0 : k = 0 → n = 0 ∧ s = ⟨#[]⟩) (w : World) :
    Calls Tryz.prog 126 #[.agg #[.int .u8 (k : Int), .int .i64 n, .string s], .agg #[.int .u8 (k' : Int), .int .i64 n', .string s']] w fun e w' =>
      e = .returned (.agg #[.int .u8 (bK k k' : Int), .int .i64 (bN k n), .string (bS k s)]) ∧ Below w.heap.size w w' := by
  by_cases h : k = 0
  · obtain ⟨rfl, rfl⟩ := h0 h
    subst h
    have H1 : Hid (bK 0 k' = k') := rfl
    have H2 : Hid (bN 0 0 = 0) := rfl
    have H3 : Hid (bS 0 ⟨#[]⟩ = ⟨#[]⟩) := rfl
    generalize bK 0 k' = x1 at *
    generalize bN 0 0 = x2 at *
    generalize bS 0 ⟨#[]⟩ = x3 at *
    by_cases h1 : k' = 0
    · subst h1
      go_enter Tryz.func126, Tryz.ntmps126
      go_wp2_with fail
      refine bodyPost_ret (v := .agg #[.int .u8 0, .int .i64 0, .string ⟨#[]⟩]) (by simp [results, Tryz.results126, go_sem]) rfl ⟨by rw [H1.out, H2.out, H3.out]; rfl, ?_⟩
      exact (((Below.refl _ w).alloc (Nat.le_refl _) _).alloc (by simp) _).alloc (by simp; omega) _
    · have h2 : ((k' : Int) != 0) = true := by simp <;> omega
      have h3 : ((k' : Int) == 0) = false := by simp <;> omega
      clear h1
      go_enter Tryz.func126, Tryz.ntmps126
      go_wp2_with fail
      refine bodyPost_ret (v := .agg #[.int .u8 (k' : Int), .int .i64 0, .string ⟨#[]⟩]) (by simp [results, Tryz.results126, go_sem]) rfl ⟨by rw [H1.out, H2.out, H3.out], ?_⟩
      exact (((Below.refl _ w).alloc (Nat.le_refl _) _).alloc (by simp) _).alloc (by simp; omega) _
  · have H1 : Hid (bK k k' = k) := if_neg h
    have H2 : Hid (bN k n = n) := if_neg h
    have H3 : Hid (bS k s = s) := if_neg h
    have h2 : ((k : Int) == 0) = false := by simp <;> omega
    generalize bK k k' = x1 at *
    generalize bN k n = x2 at *
    generalize bS k s = x3 at *
    clear h h0
    go_enter Tryz.func126, Tryz.ntmps126
    go_wp2_with fail
    refine bodyPost_ret (v := .agg #[.int .u8 (k : Int), .int .i64 n, .string s]) (by simp [results, Tryz.results126, go_sem]) rfl ⟨by rw [H1.out, H2.out, H3.out], ?_⟩
    exact (((Below.refl _ w).alloc (Nat.le_refl _) _).alloc (by simp) _).alloc (by simp; omega) _
theorem rsign_any (a b : Int) (w : World) : Calls Tryz.prog 128 #[.int .i64 a, .int .i64 b] w fun e w' => e = .returned (.int .i64 (sgI a b)) ∧ w = w' := by
  have H : Hid (sgI a b = if a < b then -1 else if b < a then 1 else 0) := rfl
  generalize sgI a b = r at *
  by_cases h1 : a < b
  · have HR : Hid (r = -1) := by rw [H.out, if_pos h1]; rfl
    go_enter Tryz.func128, Tryz.ntmps128
    go_wp2_with fail
    go_ret
    exact ⟨retE (by rw [HR.out]), rfl⟩
  · by_cases h2 : b < a
    · have HR : Hid (r = 1) := by rw [H.out, if_neg h1, if_pos h2]; rfl
      go_enter Tryz.func128, Tryz.ntmps128
      go_wp2_with fail
      go_ret
      exact ⟨retE (by rw [HR.out]), rfl⟩
    · have HR : Hid (r = 0) := by rw [H.out, if_neg h1, if_neg h2]; rfl
      have he : a = b := by omega
      subst he
      go_enter Tryz.func128, Tryz.ntmps128
      go_wp2_with fail
      go_ret
      exact ⟨retE (by rw [HR.out]), rfl⟩
theorem rrank_any (k : Nat) (w : World) :
    Calls Tryz.prog 129 #[.int .u8 (k : Int)] w fun e w' => e = .returned (.int .i64 (rkV k)) ∧ w = w' := by
  by_cases h1 : k = 1
  · subst h1
    go_enter Tryz.func129, Tryz.ntmps129
    go_wp2_with fail
    go_ret
    exact ⟨rfl, rfl⟩
  · by_cases h3 : k = 3
    · subst h3
      go_enter Tryz.func129, Tryz.ntmps129
      go_wp2_with fail
      go_ret
      exact ⟨rfl, rfl⟩
    · have HR : Hid (rkV k = 3) := by unfold Hid rkV; rw [if_neg h1, if_neg h3]
      have h11 : ((k : Int) == 1) = false := by simp <;> omega
      have h33 : ((k : Int) == 3) = false := by simp <;> omega
      clear h1 h3
      go_enter Tryz.func129, Tryz.ntmps129
      go_wp2_with fail
      go_ret
      exact ⟨retE (by rw [HR.out]), rfl⟩
theorem vld_blank {n : Int} {s : ByteArray} (h : vldV 0 n s.data.toList = true) : n = 0 ∧ s = ⟨#[]⟩ := by
  unfold vldV at h
  simp at h
  exact ⟨h.1, ByteArray.ext (by simpa using h.2)⟩
set_option maxRecDepth 100000 in
set_option maxHeartbeats 6400000 in
theorem rcompare_v (k : Nat) (n : Int) (s : ByteArray) (hs : s.size ≤ 2000) (hn : leastI ≤ n) (k' : Nat) (n' : Int) (s' : ByteArray) (hs' : s'.size ≤ 2000) (hn' : leastI ≤ n') (w : World) :
    Calls Tryz.prog 94 #[.agg #[.int .u8 (k : Int), .int .i64 n, .string s], .agg #[.int .u8 (k' : Int), .int .i64 n', .string s']] w fun e w' => e = .returned (.tuple #[.int .i64 (cpR k n s k' n' s').1, .int .i64 (cpR k n s k' n' s').2]) ∧ Below w.heap.size w w' := by
  have HC1 := Lib.hid (fun w => rvcheck_any k n s (by unfold maxLen; omega) hn w)
  have HC2 := Lib.hid (fun w => rvcheck_any k' n' s' (by unfold maxLen; omega) hn' w)
  have HR : Hid (cpR k n s k' n' s' = if vldV k n s.data.toList = true ∧ vldV k' n' s'.data.toList = true ∧ k ≠ 4 ∧ k' ≠ 4 then
    (if bK k k' = bK k' k then (if bK k k' = 3 then cmpS (bS k s).data.toList (bS k' s').data.toList else sgI (bN k n) (bN k' n')) else sgI (rkV (bK k k')) (rkV (bK k' k)), 0) else (0, 2)) := rfl
  have HE1 : Hid (vE k n s.data.toList = if vldV k n s.data.toList = true then 0 else 2) := rfl
  have HE2 : Hid (vE k' n' s'.data.toList = if vldV k' n' s'.data.toList = true then 0 else 2) := rfl
  have HS1 : Hid ((bS k s).size ≤ 2000) := by unfold Hid bS; split; · decide
                                              · exact hs
  have HS2 : Hid ((bS k' s').size ≤ 2000) := by unfold Hid bS; split; · decide
                                                · exact hs'
  have HBA : Hid (vldV k n s.data.toList = true → ∀ w, Calls Tryz.prog 126 #[.agg #[.int .u8 (k : Int), .int .i64 n, .string s], .agg #[.int .u8 (k' : Int), .int .i64 n', .string s']] w fun e w' => e = .returned (.agg #[.int .u8 (bK k k' : Int), .int .i64 (bN k n), .string (bS k s)]) ∧ Below w.heap.size w w') := fun h w => rbeside_any k n s k' n' s' (fun e => by subst e; exact vld_blank h) w
  have HBB : Hid (vldV k' n' s'.data.toList = true → ∀ w, Calls Tryz.prog 126 #[.agg #[.int .u8 (k' : Int), .int .i64 n', .string s'], .agg #[.int .u8 (k : Int), .int .i64 n, .string s]] w fun e w' => e = .returned (.agg #[.int .u8 (bK k' k : Int), .int .i64 (bN k' n'), .string (bS k' s')]) ∧ Below w.heap.size w w') := fun h w => rbeside_any k' n' s' k n s (fun e => by subst e; exact vld_blank h) w
  generalize cpR k n s k' n' s' = R at *
  generalize vldV k n s.data.toList = v1 at *
  generalize vldV k' n' s'.data.toList = v2 at *
  generalize vE k n s.data.toList = e1 at *
  generalize vE k' n' s'.data.toList = e2 at *
  generalize bK k k' = ka at *
  generalize bK k' k = kb at *
  generalize bN k n = na at *
  generalize bN k' n' = nb at *
  generalize bS k s = sa at *
  generalize bS k' s' = sb at *
  have HA := Lib.hid (B3.start w k n s)
  have HB := Lib.hid (B3.start (w.alloc (.cells #[.int .u8 (k : Int), .int .i64 n, .string s] 23)) k' n' s')
  rw [World.size_alloc] at HB
  have HA2 := Lib.hid (HA.out.later (valloc _ (.cells #[.int .u8 (k' : Int), .int .i64 n', .string s'] 23)))
  have HW := Lib.hid (vnext (valloc w (.cells #[.int .u8 (k : Int), .int .i64 n, .string s] 23)) (valloc _ (.cells #[.int .u8 (k' : Int), .int .i64 n', .string s'] 23)))
  clear HA hn hn' hs hs'
  go_enter Tryz.func94, Tryz.ntmps94
  go_wp2_with fail
  generalize (w.alloc (.cells #[.int .u8 (k : Int), .int .i64 n, .string s] 23)).alloc (.cells #[.int .u8 (k' : Int), .int .i64 n', .string s'] 23) = w0 at *
  refine (HC1.out _).mono ?_
  rintro e w1 ⟨rfl, hB1⟩
  have HA1 := Lib.hid (HA2.out.later hB1)
  have HB1 := Lib.hid (HB.out.later hB1)
  have HW1 := Lib.hid (vnext HW.out hB1)
  clear hB1 HA2 HB HW
  cases v1
  · have HR2 : Hid (R = (0, 2)) := by rw [HR.out, if_neg (by simp)]; rfl
    rw [HE1.out, if_neg (by decide)]
    clear HR
    go_wp2_with fail
    go_ret2
    exact ⟨retC HR2.out, HW1.out⟩
  · rw [HE1.out, if_pos rfl]
    obtain ⟨c0, c1, c2, f0, f1, f2⟩ := HB1.out.cells
    go_wp2_with fail
    refine (HC2.out _).mono ?_
    rintro e w2 ⟨rfl, hB2⟩
    have HA2 := Lib.hid (HA1.out.later hB2)
    have HB2 := Lib.hid (HB1.out.later hB2)
    have HW2 := Lib.hid (vnext HW1.out hB2)
    clear hB2 HA1 HB1 HW1 c0 c1 c2 f0 f1 f2
    obtain ⟨c0, c1, c2, f0, f1, f2⟩ := HA2.out.cells
    obtain ⟨d0, d1, d2, g0, g1, g2⟩ := HB2.out.cells
    cases v2
    · have HR2 : Hid (R = (0, 2)) := by rw [HR.out, if_neg (by simp)]; rfl
      rw [HE2.out, if_neg (by decide)]
      clear HR
      go_wp2_with fail
      go_ret2
      exact ⟨retC HR2.out, HW2.out⟩
    · rw [HE2.out, if_pos rfl]
      by_cases h4 : k = 4
      · have HR2 : Hid (R = (0, 2)) := by rw [HR.out, if_neg (by simp [h4])]; rfl
        subst h4
        clear HR
        go_wp2_with fail
        go_ret2
        exact ⟨retC HR2.out, HW2.out⟩
      · have h44 : ((k : Int) == 4) = false := by simp <;> omega
        by_cases h5 : k' = 4
        · have HR2 : Hid (R = (0, 2)) := by rw [HR.out, if_neg (by simp [h5])]; rfl
          subst h5
          clear HR h4
          go_wp2_with fail
          go_ret2
          exact ⟨retC HR2.out, HW2.out⟩
        · have h55 : ((k' : Int) == 4) = false := by simp <;> omega
          have HR2 : Hid (R = (if ka = kb then (if ka = 3 then cmpS sa.data.toList sb.data.toList else sgI na nb) else sgI (rkV ka) (rkV kb), 0)) := by rw [HR.out, if_pos (by simp [h4, h5])]; rfl
          clear HR h4 h5
          go_wp2_with fail
          clear c0 c1 c2 f0 f1 f2 d0 d1 d2 g0 g1 g2
          refine wp_region_seqo (fun X => B3 X w.heap.size k n s ∧ B3 X (w.heap.size + 1) k' n' s' ∧ Below w2.heap.size w2 X) w2.heap.size
            [fbC (.agg #[.int .u8 (k : Int), .int .i64 n, .string s]), fbC (.agg #[.int .u8 (k' : Int), .int .i64 n', .string s']), fbC (.agg #[.int .u8 (ka : Int), .int .i64 na, .string sa]), fbC (.agg #[.int .u8 (k' : Int), .int .i64 n', .string s']), fbC (.agg #[.int .u8 (k : Int), .int .i64 n, .string s]), fbC (.agg #[.int .u8 (kb : Int), .int .i64 nb, .string sb]), fbN (fun g => .pointer (some ⟨g, 0, none⟩)) w2.heap.size (.cells #[.int .u8 0, .int .i64 0, .string ⟨#[]⟩] 23), fbN (fun g => .pointer (some ⟨g, 0, none⟩)) w2.heap.size (.cells #[.int .u8 0, .int .i64 0, .string ⟨#[]⟩] 23), fbS 6 w2.heap.size (.cells #[.int .u8 (ka : Int), .int .i64 na, .string sa] 23), fbS 7 w2.heap.size (.cells #[.int .u8 (kb : Int), .int .i64 nb, .string sb] 23)]
            [[], [], [], [], [], [], [], [], [6], [7]] [[], [], [], [], [], [], [], [], [6], [7]] [[], [], [0, 1], [], [], [3, 4], [], [], [6, 2], [7, 5]]
            (fun a b h ⟨h1, h2, h3⟩ => ⟨(h.block _ (by have := HA2.out.lt; omega)).trans h1, (h.block _ (by have := HB2.out.lt; omega)).trans h2, h3.trans h⟩) (by kernel_rfl) (by kernel_rfl) (by kernel_rfl) ⟨HA2.out, HB2.out, (Below.refl _ _).drew⟩ (Nat.le_refl _) ?_ (by kernel_rfl)
            ⟨good_C _ _, good_C _ _, good_C _ _, good_C _ _, good_C _ _, good_C _ _, good_N _ (fun _ => rfl), good_N _ (fun _ => rfl), good_S (by decide), good_S (by decide), trivial⟩ (Nat.le_refl 10)
          simp only [putsL, Act.put, List.setIfInBounds_toArray, List.set_cons_zero, List.set_cons_succ, Nat.zero_add, Nat.reduceAdd]
          refine seqo_cons (obo_run rfl (fun vs W hD => rfl) (fun vs W hS hD => ?_)) ?_
          · obtain ⟨h1, h2, h3⟩ := hS
            obtain ⟨c0, c1, c2, f0, f1, f2⟩ := h1.cells
            obtain ⟨d0, d1, d2, g0, g1, g2⟩ := h2.cells
            go_simp; done
          refine seqo_cons (obo_run rfl (fun vs W hD => rfl) (fun vs W hS hD => ?_)) ?_
          · obtain ⟨h1, h2, h3⟩ := hS
            obtain ⟨c0, c1, c2, f0, f1, f2⟩ := h1.cells
            obtain ⟨d0, d1, d2, g0, g1, g2⟩ := h2.cells
            go_simp; done
          refine seqo_cons (obo_call rfl (f := 126) (fun vs => #[.agg #[.int .u8 (k : Int), .int .i64 n, .string s], .agg #[.int .u8 (k' : Int), .int .i64 n', .string s']]) (fun vs W hD => rfl) (fun vs W hS hD => ?_) (fun vs W hS hZ hD => ?_)) ?_
          · have e1 : vs 0 = _ := hD.1
            have e2 : vs 1 = _ := hD.2.1
            go_simp; done
          · exact HBA.out (by trivial) W
          refine seqo_cons (obo_run rfl (fun vs W hD => rfl) (fun vs W hS hD => ?_)) ?_
          · obtain ⟨h1, h2, h3⟩ := hS
            obtain ⟨c0, c1, c2, f0, f1, f2⟩ := h1.cells
            obtain ⟨d0, d1, d2, g0, g1, g2⟩ := h2.cells
            go_simp; done
          refine seqo_cons (obo_run rfl (fun vs W hD => rfl) (fun vs W hS hD => ?_)) ?_
          · obtain ⟨h1, h2, h3⟩ := hS
            obtain ⟨c0, c1, c2, f0, f1, f2⟩ := h1.cells
            obtain ⟨d0, d1, d2, g0, g1, g2⟩ := h2.cells
            go_simp; done
          refine seqo_cons (obo_call rfl (f := 126) (fun vs => #[.agg #[.int .u8 (k' : Int), .int .i64 n', .string s'], .agg #[.int .u8 (k : Int), .int .i64 n, .string s]]) (fun vs W hD => rfl) (fun vs W hS hD => ?_) (fun vs W hS hZ hD => ?_)) ?_
          · have e1 : vs 3 = _ := hD.1
            have e2 : vs 4 = _ := hD.2.1
            go_simp; done
          · exact HBB.out (by trivial) W
          refine seqo_cons (obo_new rfl (fun _ => rfl) (fun vs W hD => rfl) (fun vs W hS hD => ?_)) ?_
          · go_simp; done
          refine seqo_cons (obo_new rfl (fun _ => rfl) (fun vs W hD => rfl) (fun vs W hS hD => ?_)) ?_
          · go_simp; done
          refine seqo_cons (obo_store (j := 6) rfl rfl (by decide) (fun vs W hD => rfl) (fun vs W hS hZ hD => ?_)) ?_
          · obtain ⟨⟨g, h10, hg, hh⟩, h8, _⟩ := hD
            have h10 : vs 6 = _ := h10
            have h8 : vs 2 = .agg #[.int .u8 (ka : Int), .int .i64 na, .string sa] := h8
            have hs := set3 W g 23 _ _ _ (.int .u8 (ka : Int)) (.int .i64 na) (.string sa) hh
            have hh3 : B3 W g 0 0 ⟨#[]⟩ := hh
            obtain ⟨c0, c1, c2, f0, f1, f2⟩ := hh3.cells
            have hl := hh3.lt
            refine ⟨g, _, h10, hg, hl, ?_, hs.1, hs.2⟩
            go_simp; done
          refine seqo_cons (obo_store (j := 7) rfl rfl (by decide) (fun vs W hD => rfl) (fun vs W hS hZ hD => ?_)) ?_
          · obtain ⟨⟨g, h10, hg, hh⟩, h8, _⟩ := hD
            have h10 : vs 7 = _ := h10
            have h8 : vs 5 = .agg #[.int .u8 (kb : Int), .int .i64 nb, .string sb] := h8
            have hs := set3 W g 23 _ _ _ (.int .u8 (kb : Int)) (.int .i64 nb) (.string sb) hh
            have hh3 : B3 W g 0 0 ⟨#[]⟩ := hh
            obtain ⟨c0, c1, c2, f0, f1, f2⟩ := hh3.cells
            have hl := hh3.lt
            refine ⟨g, _, h10, hg, hl, ?_, hs.1, hs.2⟩
            go_simp; done
          refine seqo_end fun vs X hS hZ hv => ?_
          obtain ⟨k0, k1, k2, k3, k4, k5, k6, k7, k8, k9, kz⟩ := hv
          have h0 : vs 0 = _ := k0 rfl
          have h1 : vs 1 = _ := k1 rfl
          have h2 : vs 2 = _ := k2 rfl
          have h3 : vs 3 = _ := k3 rfl
          have h4 : vs 4 = _ := k4 rfl
          have h5 : vs 5 = _ := k5 rfl
          obtain ⟨ga, ea, _, hA⟩ := k8 rfl
          obtain ⟨gb, eb, _, hB⟩ := k9 rfl
          have hX1 : B3 X ga ka na sa := hA
          have hX2 : B3 X gb kb nb sb := hB
          have HX3 := Lib.hid (vnext HW2.out hS.2.2)
          simp only [h0, h1, h2, h3, h4, h5, ea, eb]
          clear h0 h1 h2 h3 h4 h5 ea eb k0 k1 k2 k3 k4 k5 k6 k7 k8 k9 kz hA hB hS hZ HBA HBB
          obtain ⟨c0, c1, c2, f0, f1, f2⟩ := hX1.cells
          obtain ⟨d0, d1, d2, g0, g1, g2⟩ := hX2.cells
          have HX1 := Lib.hid hX1
          have HX2 := Lib.hid hX2
          clear hX1 hX2
          by_cases hk : ka = kb
          · have hkk : ((ka : Int) == (kb : Int)) = true := by simp <;> omega
            rw [if_pos hk] at HR2
            by_cases h3 : ka = 3
            · rw [if_pos h3] at HR2
              have h33 : ((ka : Int) == 3) = true := by simp <;> omega
              have h34 : ((kb : Int) == 3) = true := by simp <;> omega
              clear hk h3
              go_wp2_with fail
              refine (Go.Proofs.YtdanbabamcdebaaGreatDoor.rcompare_any sa sb (by have := HS1.out; unfold maxLen; omega) (by have := HS2.out; unfold maxLen; omega) _).mono ?_
              rintro e w5 ⟨rfl, hB5⟩
              have HB5 := Lib.hid (vnext HX3.out hB5)
              clear hB5 c0 c1 c2 f0 f1 f2 d0 d1 d2 g0 g1 g2
              go_wp2_with fail
              go_ret2
              exact ⟨retC HR2.out, HB5.out⟩
            · rw [if_neg h3] at HR2
              have h33 : ((ka : Int) == 3) = false := by simp <;> omega
              clear hk h3
              go_wp2_with fail
              refine (rsign_any na nb _).mono ?_
              rintro e w5 ⟨rfl, rfl⟩
              go_wp2_with fail
              go_ret2
              exact ⟨retC HR2.out, HX3.out⟩
          · have hkk : ((ka : Int) == (kb : Int)) = false := by simp <;> omega
            rw [if_neg hk] at HR2
            have h33 : ((ka : Int) == 3) = false ∨ ((ka : Int) == 3) = true ∧ ((kb : Int) == 3) = false := by simp; omega
            clear hk
            rcases h33 with h33 | ⟨h33, h34⟩
            all_goals
              go_wp2_with fail
              clear c0 c1 c2 f0 f1 f2 d0 d1 d2 g0 g1 g2
              refine wp_region_seqi (fun X => B3 X ga ka na sa ∧ B3 X gb kb nb sb ∧ Below w.heap.size w X) (fun W W2 hB ⟨h1, h2, h3⟩ => ⟨h1.later hB, h2.later hB, vnext h3 hB⟩) (by kernel_rfl) (by kernel_rfl) (by kernel_rfl) ⟨HX1.out, HX2.out, HX3.out.drew⟩ ?_
              simp only [putsL, Act.put, List.setIfInBounds_toArray, List.set_cons_zero, List.set_cons_succ, Nat.zero_add, Nat.reduceAdd]
              refine seqi_run ?_ (fun vs W hD => (by first | rfl | (simp at hD; simp [Region.wanted, yielded, hD]))) (fun vs W hS hD => ?_) ?_
              rotate_left
              · obtain ⟨h1, h2, h3⟩ := hS; obtain ⟨c0, c1, c2, f0, f1, f2⟩ := h1.cells; obtain ⟨d0, d1, d2, g0, g1, g2⟩ := h2.cells; have hS := trivial; obtain _ := hS; (try simp at hD); (try simp only [hD]); (first | (go_simp; done) | (go_simp; rfl))
              simp only [List.nil_append]
              refine seqi_run ?_ (fun vs W hD => (by first | rfl | (simp at hD; simp [Region.wanted, yielded, hD]))) (fun vs W hS hD => ?_) ?_
              rotate_left
              · obtain ⟨h1, h2, h3⟩ := hS; obtain ⟨c0, c1, c2, f0, f1, f2⟩ := h1.cells; obtain ⟨d0, d1, d2, g0, g1, g2⟩ := h2.cells; have hS := trivial; obtain _ := hS; (try simp at hD); (try simp only [hD]); (first | (go_simp; done) | (go_simp; rfl))
              simp only [List.nil_append, List.cons_append]
              refine seqi_call (f := 129) (fun v _ => v = .int .i64 (rkV ka)) (stable_val _) (fun vs => #[.int .u8 (ka : Int)]) (fun vs W hD => (by first | rfl | (simp at hD; simp [Region.wanted, yielded, hD]))) (fun vs W hS hD => ?_) (fun vs W hS hD => ?_) ?_
              · obtain _ := hS; (try simp at hD); (try simp only [hD]); go_simp; done
              · exact (rrank_any ka W).mono fun e W' ⟨he, hw⟩ => ⟨⟨_, he, rfl⟩, hw ▸ Below.refl _ _⟩
              simp only [List.nil_append, List.cons_append]
              refine seqi_run ?_ (fun vs W hD => (by first | rfl | (simp at hD; simp [Region.wanted, yielded, hD]))) (fun vs W hS hD => ?_) ?_
              rotate_left
              · obtain ⟨h1, h2, h3⟩ := hS; obtain ⟨c0, c1, c2, f0, f1, f2⟩ := h1.cells; obtain ⟨d0, d1, d2, g0, g1, g2⟩ := h2.cells; have hS := trivial; obtain _ := hS; (try simp at hD); (try simp only [hD]); (first | (go_simp; done) | (go_simp; rfl))
              simp only [List.nil_append, List.cons_append]
              refine seqi_run ?_ (fun vs W hD => (by first | rfl | (simp at hD; simp [Region.wanted, yielded, hD]))) (fun vs W hS hD => ?_) ?_
              rotate_left
              · obtain ⟨h1, h2, h3⟩ := hS; obtain ⟨c0, c1, c2, f0, f1, f2⟩ := h1.cells; obtain ⟨d0, d1, d2, g0, g1, g2⟩ := h2.cells; have hS := trivial; obtain _ := hS; (try simp at hD); (try simp only [hD]); (first | (go_simp; done) | (go_simp; rfl))
              simp only [List.nil_append, List.cons_append]
              refine seqi_call (f := 129) (fun v _ => v = .int .i64 (rkV kb)) (stable_val _) (fun vs => #[.int .u8 (kb : Int)]) (fun vs W hD => (by first | rfl | (simp at hD; simp [Region.wanted, yielded, hD]))) (fun vs W hS hD => ?_) (fun vs W hS hD => ?_) ?_
              · obtain _ := hS; (try simp at hD); (try simp only [hD]); go_simp; done
              · exact (rrank_any kb W).mono fun e W' ⟨he, hw⟩ => ⟨⟨_, he, rfl⟩, hw ▸ Below.refl _ _⟩
              simp only [List.nil_append, List.cons_append]
              refine seqi_call (f := 128) (fun v _ => v = .int .i64 (sgI (rkV ka) (rkV kb))) (stable_val _) (fun vs => #[.int .i64 (rkV ka), .int .i64 (rkV kb)]) (fun vs W hD => (by first | rfl | (simp at hD; simp [Region.wanted, yielded, hD]))) (fun vs W hS hD => ?_) (fun vs W hS hD => ?_) ?_
              · obtain _ := hS; (try simp at hD); (try simp only [hD]); go_simp; done
              · exact (rsign_any (rkV ka) (rkV kb) W).mono fun e W' ⟨he, hw⟩ => ⟨⟨_, he, rfl⟩, hw ▸ Below.refl _ _⟩
              simp only [List.nil_append, List.cons_append]
              refine seqi_run ?_ (fun vs W hD => (by first | rfl | (simp at hD; simp [Region.wanted, yielded, hD]))) (fun vs W hS hD => ?_) ?_
              rotate_left
              · obtain _ := hS; (try simp at hD); (try simp only [hD]); (first | (go_simp; done) | (go_simp; rfl))
              simp only [List.nil_append, List.cons_append]
              refine seqi_run ?_ (fun vs W hD => (by first | rfl | (simp at hD; simp [Region.wanted, yielded, hD]))) (fun vs W hS hD => ?_) ?_
              rotate_left
              · obtain _ := hS; (try simp at hD); (try simp only [hD]); (first | (go_simp; done) | (go_simp; rfl))
              simp only [List.nil_append, List.cons_append]
              refine seqi_end fun vs W hS hv => ?_
              simp only [AllF, Nat.zero_add, Nat.reduceAdd] at hv
              obtain ⟨h0, h1, h2, h3, h4, h5, h6, h7, h8, _⟩ := hv
              have HX5 := Lib.hid hS.2.2
              simp only [h0, h1, h2, h3, h4, h5, h6, h7, h8]
              clear hS h0 h1 h2 h3 h4 h5 h6 h7 h8
              go_wp2_with fail
              go_ret2
              exact ⟨retC HR2.out, HX5.out⟩
end Go.Proofs.YtdanbabamcdebaaGreatDoor.Va
