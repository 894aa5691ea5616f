/- Decimal texts: what is written is not longer than what was read. -/
import Derived.Test.YtoeodfbmiiefkaaGreatDoorTxtF
namespace Go.Proofs.YtoeodfbmiiefkaaGreatDoor.Tx
theorem dd_short : ∀ (k u : Nat), u < 10 ^ (k + 1) → (Lib.decDigits u).length ≤ k + 1 := by
  intro k
  induction k with
  | zero =>
    intro u h
    rw [Lib.decDigits, dif_pos (by simpa using h)]
    simp
  | succ k ih =>
    intro u h
    rw [Lib.decDigits]
    split
    · simp
    · rw [List.length_append]
      have := ih (u / 10) (by rw [Nat.pow_succ] at h; omega)
      simp only [List.length_cons, List.length_nil]
      omega
theorem num_lt : ∀ l : List UInt8, (∀ c ∈ l, isDg c = true) → numL l < ((10 ^ l.length : Nat) : Int) := by
  refine rev_ind (fun _ => by decide) fun l c ih h => ?_
  have h1 := ih fun x hx => h x (List.mem_append_left _ hx)
  have h2 := dgv_bd (h c (List.mem_append_right _ (List.mem_singleton.2 rfl)))
  rw [numL_snoc, List.length_append, List.length_singleton, Nat.pow_succ]
  generalize 10 ^ l.length = q at *
  omega
theorem dgt_of {c : UInt8} (h : isDg c = true) : ∃ n, n < 10 ∧ c = dgt n := by
  unfold isDg at h
  have h := of_decide_eq_true h
  refine ⟨c.toNat - 48, by omega, ?_⟩
  apply UInt8.toNat_inj.1
  rw [dgt_nat (by omega)]
  omega
theorem four_fr {l : List UInt8} (h : l.length = 4) (hd : ∀ c ∈ l, isDg c = true) : ∃ r, r < 10000 ∧ l = frD r := by
  match l, h with
  | [a, b, c, d], _ =>
    obtain ⟨x, hx, rfl⟩ := dgt_of (hd a (by simp))
    obtain ⟨y, hy, rfl⟩ := dgt_of (hd b (by simp))
    obtain ⟨z, hz, rfl⟩ := dgt_of (hd c (by simp))
    obtain ⟨t, ht, rfl⟩ := dgt_of (hd d (by simp))
    refine ⟨x * 1000 + y * 100 + z * 10 + t, by omega, ?_⟩
    unfold frD
    rw [show (x * 1000 + y * 100 + z * 10 + t) / 1000 % 10 = x by omega, show (x * 1000 + y * 100 + z * 10 + t) / 100 % 10 = y by omega, show (x * 1000 + y * 100 + z * 10 + t) / 10 % 10 = z by omega, show (x * 1000 + y * 100 + z * 10 + t) % 10 = t by omega]
theorem form_some {b w p : List UInt8} (h : formL b = some (w, p)) : (∀ c ∈ w, isDg c = true) ∧ w ≠ [] ∧ (∀ c ∈ p, isDg c = true) ∧ b.length = w.length + (if p = [] then 0 else 1 + p.length) := by
  have hs := List.takeWhile_append_dropWhile (p := isDg) (l := b)
  have hw : ∀ c ∈ b.takeWhile isDg, isDg c = true := fun c hc => mem_tw hc
  unfold formL at h
  generalize b.takeWhile isDg = w' at *
  cases hq : b.dropWhile isDg with
  | nil =>
    rw [hq] at h hs
    dsimp only at h
    split at h
    · cases h
    · rename_i hne
      simp only [Option.some.injEq, Prod.mk.injEq] at h
      obtain ⟨rfl, rfl⟩ := h
      refine ⟨hw, by simpa using hne, (fun c hc => (by cases hc)), ?_⟩
      rw [← hs]; simp
  | cons c q =>
    rw [hq] at h hs
    dsimp only at h
    split at h
    · rename_i hc
      obtain ⟨_, h2, h3, h4⟩ := hc
      simp only [Option.some.injEq, Prod.mk.injEq] at h
      obtain ⟨rfl, rfl⟩ := h
      refine ⟨hw, by simpa using h2, List.all_eq_true.1 h4, ?_⟩
      rw [if_neg (by simpa using h3), ← hs, List.length_append, List.length_cons]
      omega
    · cases h
theorem trimZ_rep (x : List UInt8) (k : Nat) : (trimZ (x ++ List.replicate k 48)).length ≤ x.length := by
  unfold trimZ
  rw [List.reverse_append, List.reverse_replicate, List.dropWhile_append_of_pos (by intro a ha; rw [List.mem_replicate] at ha; simp [ha.2])]
  have := (List.dropWhile_sublist (fun c : UInt8 => c == 48) (l := x.reverse)).length_le
  simpa using this
theorem trim_p4 (p : List UInt8) : (trimZ (p4 p)).length ≤ p.length := by
  by_cases h : 4 ≤ p.length
  · have := (trimZ_app (p4 p)).2
    rw [p4_len] at this
    omega
  · have e : p4 p = p ++ List.replicate (4 - p.length) 48 := by
      unfold p4
      rw [show ([48, 48, 48, 48] : List UInt8) = List.replicate 4 48 from rfl, List.take_append, List.take_of_length_le (by omega), List.take_replicate]
      congr 2
      omega
    rw [e]
    exact trimZ_rep _ _
theorem fmt_len (a : Int) : (fmtL a).length = (if a < 0 then 1 else 0) + ((Lib.decDigits (a.natAbs / 10000)).length + (fracL (a.natAbs % 10000)).length) := by
  unfold fmtL
  rw [List.length_append, List.length_append]
  split <;> rfl
theorem frac_le (r : Nat) : (fracL r).length ≤ 5 := by
  unfold fracL
  split
  · simp
  · have := (trimZ_app (frD r)).2
    rw [frD_len] at this
    simp only [List.length_cons]
    omega
theorem par_parts {l : List UInt8} (h : parE l = 0) : ∃ w p, formL (bodyL l) = some (w, p) ∧ valL w p ≤ mostI ∧ parV l = if negL l = true then -valL w p else valL w p := by
  unfold parE at h
  unfold parV
  cases hf : formL (bodyL l) with
  | none => rw [hf] at h; cases h
  | some x =>
    rw [hf] at h
    dsimp only at h ⊢
    split at h
    · rename_i h2
      exact ⟨x.1, x.2, rfl, h2, if_pos h2⟩
    · cases h
theorem par_bd {l : List UInt8} (h : parE l = 0) : -mostI ≤ parV l ∧ parV l ≤ mostI := by
  obtain ⟨w, p, h1, h2, h3⟩ := par_parts h
  obtain ⟨a1, a2, a3, a4⟩ := form_some h1
  have h0 : 0 ≤ valL w p := by
    have e1 := numL_pos (digsL w p) (fun c hc => (List.mem_append.1 hc).elim (a1 c) (p4_dg a3 c))
    have e2 := upL_bd p
    unfold valL
    omega
  rw [h3]
  unfold mostI at *
  split <;> omega
theorem fmt_short {l : List UInt8} (h : parE l = 0) : (fmtL (parV l)).length ≤ l.length := by
  obtain ⟨w, p, h1, h2, h3⟩ := par_parts h
  obtain ⟨a1, a2, a3, a4⟩ := form_some h1
  obtain ⟨r, hr, hp⟩ := four_fr (p4_len p) (p4_dg a3)
  have hv : valL w p = numL w * 10000 + (r : Int) + upL p := by unfold valL digsL; rw [hp, num_fr _ hr]
  have hu := upL_bd p
  have hw0 := numL_pos w a1
  obtain ⟨W, hW⟩ := Int.eq_ofNat_of_zero_le hw0
  have hwl := num_lt w a1
  have hk : 1 ≤ w.length := by cases w with | nil => exact absurd rfl a2 | cons _ _ => simp
  have hl : l.length = (if negL l = true then 1 else 0) + (bodyL l).length := by
    unfold bodyL
    split
    · rename_i hn
      unfold negL at hn
      cases l with
      | nil => cases hn
      | cons c t => simp; omega
    · simp
  have hneg : (if parV l < 0 then 1 else 0) ≤ (if negL l = true then 1 else 0) := by
    rw [h3]
    by_cases hy : negL l = true
    · rw [if_pos hy, if_pos hy]; split <;> omega
    · rw [if_neg hy, if_neg (by omega)]; exact Nat.zero_le _
  have habs : ((parV l).natAbs : Int) = valL w p := by rw [h3]; split <;> omega
  rw [fmt_len, hl, a4]
  generalize (parV l).natAbs = n at *
  rw [hW] at hv hwl
  have hWl : W < 10 ^ w.length := by omega
  have hd1 : (Lib.decDigits W).length ≤ w.length := by
    have := dd_short (w.length - 1) W (by rwa [show w.length - 1 + 1 = w.length by omega])
    omega
  have hd2 : (Lib.decDigits (W + 1)).length ≤ w.length + 1 := dd_short w.length (W + 1) (by rw [Nat.pow_succ]; omega)
  have hf := frac_le (n % 10000)
  have key : (Lib.decDigits (n / 10000)).length + (fracL (n % 10000)).length ≤ w.length + (if p = [] then 0 else 1 + p.length) := by
    by_cases h5 : 5 ≤ dAt p 4
    · have hpl : 5 ≤ p.length := by
        unfold dAt at h5
        cases hq : p[4]? with
        | none => rw [hq] at h5; exact absurd h5 (by decide)
        | some c => have := (List.getElem?_eq_some_iff.1 hq).1; omega
      have hpn : p ≠ [] := by intro e; subst e; simp at hpl
      have hup : upL p = 1 := if_pos h5
      rw [hup] at hv
      rw [if_neg hpn]
      by_cases hc : r = 9999
      · have e1 : n / 10000 = W + 1 := by omega
        have e2 : n % 10000 = 0 := by omega
        rw [e1, e2]
        have : (fracL 0).length = 0 := rfl
        omega
      · have e1 : n / 10000 = W := by omega
        rw [e1]
        omega
    · have hup : upL p = 0 := if_neg h5
      rw [hup] at hv
      have e1 : n / 10000 = W := by omega
      have e2 : n % 10000 = r := by omega
      rw [e1, e2]
      unfold fracL
      by_cases hr0 : r = 0
      · rw [if_pos hr0]
        simp only [List.length_nil]
        omega
      · rw [if_neg hr0, ← hp]
        have hpn : p ≠ [] := by
          intro e
          subst e
          have h9 : numL (p4 []) = (r : Int) := by have := num_fr [] hr; rw [← hp] at this; simpa [numL_nil] using this
          have : numL (p4 []) = 0 := by decide
          omega
        rw [if_neg hpn, List.length_cons]
        have := trim_p4 p
        omega
  omega
end Go.Proofs.YtoeodfbmiiefkaaGreatDoor.Tx
