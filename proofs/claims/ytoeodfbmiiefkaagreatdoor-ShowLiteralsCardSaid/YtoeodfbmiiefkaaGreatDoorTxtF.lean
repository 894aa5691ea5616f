/- Decimal texts: the mathematics of writing, and of reading what was written. -/
import Derived.Test.YtoeodfbmiiefkaaGreatDoorTxtA
import Derived.Lib.ItoaNum
namespace Go.Proofs.YtoeodfbmiiefkaaGreatDoor.Tx
def dgt (n : Nat) : UInt8 := UInt8.ofNat (48 + n)
theorem dgt_nat {n : Nat} (h : n < 10) : (dgt n).toNat = 48 + n := by
  unfold dgt
  rw [UInt8.toNat_ofNat']
  omega
theorem dgt_is {n : Nat} (h : n < 10) : isDg (dgt n) = true := by
  unfold isDg
  rw [dgt_nat h]
  apply decide_eq_true
  omega
theorem dgt_v {n : Nat} (h : n < 10) : dgv (dgt n) = (n : Int) := by unfold dgv; rw [dgt_nat h]; omega
/-- The four places of a rest. -/
def frD (r : Nat) : List UInt8 := [dgt (r / 1000 % 10), dgt (r / 100 % 10), dgt (r / 10 % 10), dgt (r % 10)]
def trimZ (l : List UInt8) : List UInt8 := (l.reverse.dropWhile (· == 48)).reverse
def fracL (r : Nat) : List UInt8 := if r = 0 then [] else 46 :: trimZ (frD r)
def fmtL (a : Int) : List UInt8 := (if a < 0 then [45] else []) ++ (Lib.decDigits (a.natAbs / 10000) ++ fracL (a.natAbs % 10000))
theorem dd_dg : ∀ u : Nat, ∀ c ∈ Lib.decDigits u, isDg c = true := by
  intro u
  induction u using Nat.strongRecOn with
  | _ u ih =>
    intro c hc
    rw [Lib.decDigits] at hc
    split at hc
    · rw [List.mem_singleton] at hc
      subst hc
      exact dgt_is (n := u) (by omega)
    · rcases List.mem_append.1 hc with h | h
      · exact ih (u / 10) (by omega) c h
      · rw [List.mem_singleton] at h
        subst h
        exact dgt_is (n := u % 10) (by omega)
theorem dd_num : ∀ u : Nat, numL (Lib.decDigits u) = (u : Int) := by
  intro u
  induction u using Nat.strongRecOn with
  | _ u ih =>
    rw [Lib.decDigits]
    split
    · show numL ([] ++ [dgt u]) = _
      rw [numL_snoc, numL_nil, dgt_v (by omega)]
      omega
    · have h1 := ih (u / 10) (by omega)
      show numL (Lib.decDigits (u / 10) ++ [dgt (u % 10)]) = _
      rw [numL_snoc, h1, dgt_v (by omega)]
      omega
theorem dd_ne (u : Nat) : Lib.decDigits u ≠ [] := by
  rw [Lib.decDigits]
  split <;> simp
theorem frD_len (r : Nat) : (frD r).length = 4 := rfl
theorem frD_dg (r : Nat) : ∀ c ∈ frD r, isDg c = true := by
  intro c hc
  simp [frD] at hc
  rcases hc with rfl | rfl | rfl | rfl <;> exact dgt_is (by omega)
theorem num_fr (l : List UInt8) {r : Nat} (h : r < 10000) : numL (l ++ frD r) = numL l * 10000 + (r : Int) := by
  have e : l ++ frD r = l ++ [dgt (r / 1000 % 10)] ++ [dgt (r / 100 % 10)] ++ [dgt (r / 10 % 10)] ++ [dgt (r % 10)] := by simp [frD]
  rw [e, numL_snoc, numL_snoc, numL_snoc, numL_snoc, dgt_v (by omega), dgt_v (by omega), dgt_v (by omega), dgt_v (by omega)]
  omega
theorem mem_tw {α : Type} {p : α → Bool} : ∀ {l : List α} {c : α}, c ∈ l.takeWhile p → p c = true
  | [], c, h => by cases h
  | x :: l, c, h => by
    by_cases hx : p x = true
    · rw [List.takeWhile_cons_of_pos hx] at h
      rcases List.mem_cons.1 h with rfl | h
      · exact hx
      · exact mem_tw h
    · rw [List.takeWhile_cons_of_neg hx] at h
      cases h
theorem trimZ_app (l : List UInt8) : l = trimZ l ++ List.replicate (l.length - (trimZ l).length) 48 ∧ (trimZ l).length ≤ l.length := by
  have h1 := List.takeWhile_append_dropWhile (p := (· == (48 : UInt8))) (l := l.reverse)
  have h2 : l.reverse.takeWhile (· == (48 : UInt8)) = List.replicate (l.reverse.takeWhile (· == (48 : UInt8))).length 48 := by
    rw [List.eq_replicate_iff]
    exact ⟨rfl, fun b hb => by have := mem_tw hb; simpa using this⟩
  have h3 : (l.reverse.takeWhile (· == (48 : UInt8))).length + (trimZ l).length = l.length := by
    have := congrArg List.length h1
    rw [List.length_append, List.length_reverse] at this
    unfold trimZ
    rw [List.length_reverse]
    exact this
  refine ⟨?_, by omega⟩
  have h4 := congrArg List.reverse h1
  rw [List.reverse_append, List.reverse_reverse, h2, List.reverse_replicate] at h4
  rw [show l.length - (trimZ l).length = (l.reverse.takeWhile (· == (48 : UInt8))).length by omega]
  exact h4.symm
theorem trimZ_dg {l : List UInt8} (h : ∀ c ∈ l, isDg c = true) : ∀ c ∈ trimZ l, isDg c = true := fun c hc => by
  refine h c ?_
  rw [(trimZ_app l).1]
  exact List.mem_append_left _ hc
theorem p4_trim {l : List UInt8} (h : l.length = 4) : p4 (trimZ l) = l := by
  obtain ⟨h1, h2⟩ := trimZ_app l
  unfold p4
  have e : ([48, 48, 48, 48] : List UInt8) = List.replicate 4 48 := rfl
  rw [e]
  refine Eq.trans ?_ h1.symm
  rw [List.take_append, List.take_of_length_le (by omega), List.take_replicate]
  congr 2
  omega
theorem trimZ_ne {l : List UInt8} (h : ∃ c ∈ l, c ≠ 48) : trimZ l ≠ [] := by
  intro he
  obtain ⟨c, hc, hne⟩ := h
  rw [(trimZ_app l).1, he] at hc
  simp at hc
  exact hne hc.2
theorem frD_nz {r : Nat} (h : r < 10000) (h0 : r ≠ 0) : ∃ c ∈ frD r, c ≠ 48 := by
  have key : ∀ n, n < 10 → n ≠ 0 → dgt n ≠ 48 := fun n hn h0 e => by
    have := dgt_nat hn
    rw [e] at this
    have h8 : (48 : UInt8).toNat = 48 := rfl
    omega
  by_cases h1 : r % 10 ≠ 0
  · exact ⟨_, by simp [frD], key (r % 10) (by omega) h1⟩
  · by_cases h2 : r / 10 % 10 ≠ 0
    · exact ⟨_, by simp [frD], key (r / 10 % 10) (by omega) h2⟩
    · by_cases h3 : r / 100 % 10 ≠ 0
      · exact ⟨_, by simp [frD], key (r / 100 % 10) (by omega) h3⟩
      · exact ⟨_, by simp [frD], key (r / 1000 % 10) (by omega) (by omega)⟩
theorem dg_not46 {c : UInt8} (h : isDg c = true) : c ≠ 46 := by
  intro e; subst e; exact absurd h (by decide)
theorem dg_not45 {c : UInt8} (h : isDg c = true) : c ≠ 45 := by
  intro e; subst e; exact absurd h (by decide)
theorem allB_of {l : List UInt8} (h : ∀ c ∈ l, isDg c = true) (h0 : l ≠ []) : allB l = true := by
  unfold allB
  rw [List.all_eq_true.2 h]
  cases l <;> simp_all
theorem fmt_body (a : Int) : negL (fmtL a) = decide (a < 0) ∧ bodyL (fmtL a) = Lib.decDigits (a.natAbs / 10000) ++ fracL (a.natAbs % 10000) := by
  by_cases h : a < 0
  · have h1 : negL (fmtL a) = true := by unfold negL fmtL; rw [if_pos h]; rfl
    refine ⟨by rw [h1, decide_eq_true h], ?_⟩
    unfold bodyL
    rw [h1, if_pos rfl]
    unfold fmtL
    rw [if_pos h]; rfl
  · have h1 : negL (fmtL a) = false := by
      unfold negL fmtL
      rw [if_neg h]
      have hn := dd_ne (a.natAbs / 10000)
      have hd := dd_dg (a.natAbs / 10000)
      cases hq : Lib.decDigits (a.natAbs / 10000) with
      | nil => exact absurd hq hn
      | cons c l =>
        rw [hq] at hd
        have := dg_not45 (hd c (List.mem_cons_self ..))
        simpa using this
    refine ⟨by rw [h1, decide_eq_false h], ?_⟩
    unfold bodyL
    rw [h1, if_neg (by decide)]
    unfold fmtL
    rw [if_neg h]; rfl
theorem fmt_form (a : Int) : ∃ p, formL (bodyL (fmtL a)) = some (Lib.decDigits (a.natAbs / 10000), p) ∧ valL (Lib.decDigits (a.natAbs / 10000)) p = (a.natAbs : Int) := by
  rw [(fmt_body a).2]
  have hd := dd_dg (a.natAbs / 10000)
  have hn := dd_ne (a.natAbs / 10000)
  have hnum := dd_num (a.natAbs / 10000)
  unfold fracL
  by_cases h : a.natAbs % 10000 = 0
  · rw [if_pos h, List.append_nil, form_no (fun c hc => dg_not46 (hd c hc)), allB_of hd hn, if_pos rfl]
    refine ⟨[], rfl, ?_⟩
    have e : digsL (Lib.decDigits (a.natAbs / 10000)) [] = Lib.decDigits (a.natAbs / 10000) ++ frD 0 := by unfold digsL; congr 1
    unfold valL
    rw [e, num_fr _ (by decide), hnum]
    show _ + (0 : Int) = _
    omega
  · have hr : a.natAbs % 10000 < 10000 := by omega
    have hfd := trimZ_dg (frD_dg (a.natAbs % 10000))
    have hfn := trimZ_ne (frD_nz hr h)
    rw [if_neg h, form_at (fun c hc => dg_not46 (hd c hc)), allB_of hd hn, allB_of hfd hfn]
    refine ⟨trimZ (frD (a.natAbs % 10000)), by simp, ?_⟩
    unfold valL digsL
    rw [p4_trim (frD_len _), num_fr _ hr, hnum]
    have hup : upL (trimZ (frD (a.natAbs % 10000))) = 0 := by
      unfold upL dAt
      rw [List.getElem?_eq_none (by have := (trimZ_app (frD (a.natAbs % 10000))).2; rw [frD_len] at this; omega)]
      rfl
    rw [hup]
    omega
/-- What was written is read as the number. -/
theorem par_fmt {a : Int} (h1 : -mostI ≤ a) (h2 : a ≤ mostI) : parV (fmtL a) = a ∧ parE (fmtL a) = 0 := by
  obtain ⟨p, h3, h4⟩ := fmt_form a
  unfold mostI at h1 h2
  unfold parV parE
  rw [h3]
  dsimp only
  have hm : (a.natAbs : Int) ≤ mostI := by unfold mostI; omega
  rw [h4, if_pos hm, if_pos hm, (fmt_body a).1]
  refine ⟨?_, rfl⟩
  by_cases h : a < 0
  · rw [decide_eq_true h, if_pos rfl]; omega
  · rw [decide_eq_false h, if_neg (by decide)]; omega
theorem par_fmt_least : parV (fmtL (-9223372036854775808)) = 0 ∧ parE (fmtL (-9223372036854775808)) = 3 := by
  obtain ⟨p, h3, h4⟩ := fmt_form (-9223372036854775808)
  unfold parV parE
  rw [h3]
  dsimp only
  have hm : ¬ (((-9223372036854775808 : Int).natAbs : Int) ≤ mostI) := by unfold mostI; omega
  rw [h4, if_neg hm, if_neg hm]
  exact ⟨rfl, rfl⟩
end Go.Proofs.YtoeodfbmiiefkaaGreatDoor.Tx
