/- Merged: TxtF TxtG. -/
import Derived.Test.YtdhahiodnmmkeaaGreatDoorTxtA
import Derived.Lib.ItoaNum
/- Decimal texts: the mathematics of writing, and of reading what was written. -/
namespace Go.Proofs.YtdhahiodnmmkeaaGreatDoor.Tx
def dgt (n : Nat) : UInt8 := UInt8.ofNat (48 + n)
theorem zmw {n : Nat} (h : n < 10) : (dgt n).toNat = 48 + n := by
 unfold dgt
 rw [UInt8.toNat_ofNat']
 omega
theorem zwo {n : Nat} (h : n < 10) : isDg (dgt n) = true := by
 unfold isDg
 rw [zmw h]
 apply decide_eq_true
 omega
def frD (r : Nat) : List UInt8 := [dgt (r / 1000 % 10), dgt (r / 100 % 10), dgt (r / 10 % 10), dgt (r % 10)]
def zbu (l : List UInt8) : List UInt8 := (l.reverse.dropWhile (· == 48)).reverse
def fracL (r : Nat) : List UInt8 := if r = 0 then [] else 46 :: zbu (frD r)
def fmtL (a : Int) : List UInt8 := (if a < 0 then [45] else []) ++ (Lib.decDigits (a.natAbs / 10000) ++ fracL (a.natAbs % 10000))
theorem dd_dg : ∀ u : Nat, ∀ c ∈ Lib.decDigits u, isDg c = true := by
 intro u
 induction u using Nat.strongRecOn with
 | _ u ih =>
  intro c hc
  rw [Lib.decDigits] at hc
  split at hc
  · rw [List.mem_singleton] at hc
    subst hc
    exact zwo (n := u) (by omega)
  · rcases List.mem_append.1 hc with h | h
    · exact ih (u / 10) (by omega) c h
    · rw [List.mem_singleton] at h
      subst h
      exact zwo (n := u % 10) (by omega)
theorem zpr (r : Nat) : (frD r).length = 4 := rfl
theorem frD_dg (r : Nat) : ∀ c ∈ frD r, isDg c = true := by
 intro c hc
 simp [frD] at hc
 rcases hc with rfl | rfl | rfl | rfl <;> exact zwo (by omega)
theorem zrf {α : Type} {p : α → Bool} : ∀ {l : List α} {c : α}, c ∈ l.takeWhile p → p c = true
 | [], c, h => by cases h
 | x :: l, c, h => by
  by_cases hx : p x = true
  · rw [List.takeWhile_cons_of_pos hx] at h
    rcases List.mem_cons.1 h with rfl | h
    · exact hx
    · exact zrf h
  · rw [List.takeWhile_cons_of_neg hx] at h
    cases h
theorem zee (l : List UInt8) : l = zbu l ++ List.replicate (l.length - (zbu l).length) 48 ∧ (zbu l).length ≤ l.length := by
 have h1 := List.takeWhile_append_dropWhile (p := (· == (48 : UInt8))) (l := l.reverse)
 have h2 : l.reverse.takeWhile (· == (48 : UInt8)) = List.replicate (l.reverse.takeWhile (· == (48 : UInt8))).length 48 := by
  rw [List.eq_replicate_iff]
  exact ⟨rfl, fun b hb => by have := zrf hb; simpa using this⟩
 have h3 : (l.reverse.takeWhile (· == (48 : UInt8))).length + (zbu l).length = l.length := by
  have := congrArg List.length h1
  rw [List.length_append, List.length_reverse] at this
  unfold zbu
  rw [List.length_reverse]
  exact this
 refine ⟨?_, by omega⟩
 have h4 := congrArg List.reverse h1
 rw [List.reverse_append, List.reverse_reverse, h2, List.reverse_replicate] at h4
 rw [show l.length - (zbu l).length = (l.reverse.takeWhile (· == (48 : UInt8))).length by omega]
 exact h4.symm
theorem trimZ_dg {l : List UInt8} (h : ∀ c ∈ l, isDg c = true) : ∀ c ∈ zbu l, isDg c = true := fun c hc => by
 refine h c ?_
 rw [(zee l).1]
 exact List.mem_append_left _ hc
theorem zqp {l : List UInt8} (h : ∃ c ∈ l, c ≠ 48) : zbu l ≠ [] := by
 intro he
 obtain ⟨c, hc, hne⟩ := h
 rw [(zee l).1, he] at hc
 simp at hc
 exact hne hc.2
theorem ybc {r : Nat} (h : r < 10000) (h0 : r ≠ 0) : ∃ c ∈ frD r, c ≠ 48 := by
 have key : ∀ n, n < 10 → n ≠ 0 → dgt n ≠ 48 := fun n hn h0 e => by
  have := zmw hn
  rw [e] at this
  have h8 : (48 : UInt8).toNat = 48 := rfl
  omega
 by_cases h1 : r % 10 ≠ 0
 · exact ⟨_, by simp [frD], key (r % 10) (by omega) h1⟩
 · by_cases h2 : r / 10 % 10 ≠ 0
   · exact ⟨_, by simp [frD], key (r / 10 % 10) (by omega) h2⟩
   · by_cases h3 : r / 100 % 10 ≠ 0
     · exact ⟨_, by simp [frD], key (r / 100 % 10) (by omega) h3⟩
     · exact ⟨_, by simp [frD], key (r / 1000 % 10) (by omega) (by omega)⟩
end Go.Proofs.YtdhahiodnmmkeaaGreatDoor.Tx
/- Decimal texts: what is written is not longer than what was read. -/
namespace Go.Proofs.YtdhahiodnmmkeaaGreatDoor.Tx
theorem zzd : ∀ (k u : Nat), u < 10 ^ (k + 1) → (Lib.decDigits u).length ≤ k + 1 := by
 intro k
 induction k with
 | zero =>
  intro u h
  rw [Lib.decDigits, dif_pos (by simpa using h)]
  simp
 | succ k ih =>
  intro u h
  rw [Lib.decDigits]
  split
  · simp
  · rw [List.length_append]
    have := ih (u / 10) (by rw [Nat.pow_succ] at h; omega)
    simp only [List.length_cons, List.length_nil]
    omega
theorem zwb {b w p : List UInt8} (h : zb5 b = some (w, p)) : (∀ c ∈ w, isDg c = true) ∧ w ≠ [] ∧ (∀ c ∈ p, isDg c = true) ∧ b.length = w.length + (if p = [] then 0 else 1 + p.length) := by
 have hs := List.takeWhile_append_dropWhile (p := isDg) (l := b)
 have hw : ∀ c ∈ b.takeWhile isDg, isDg c = true := fun c hc => zrf hc
 unfold zb5 at h
 generalize b.takeWhile isDg = w' at *
 cases hq : b.dropWhile isDg with
 | nil =>
  rw [hq] at h hs
  dsimp only at h
  split at h
  · cases h
  · rename_i hne
    simp only [Option.some.injEq, Prod.mk.injEq] at h
    obtain ⟨rfl, rfl⟩ := h
    refine ⟨hw, by simpa using hne, (fun c hc => (by cases hc)), ?_⟩
    rw [← hs]; simp
 | cons c q =>
  rw [hq] at h hs
  dsimp only at h
  split at h
  · rename_i hc
    obtain ⟨_, h2, h3, h4⟩ := hc
    simp only [Option.some.injEq, Prod.mk.injEq] at h
    obtain ⟨rfl, rfl⟩ := h
    refine ⟨hw, by simpa using h2, List.all_eq_true.1 h4, ?_⟩
    rw [if_neg (by simpa using h3), ← hs, List.length_append, List.length_cons]
    omega
  · cases h
theorem fmt_len (a : Int) : (fmtL a).length = (if a < 0 then 1 else 0) + ((Lib.decDigits (a.natAbs / 10000)).length + (fracL (a.natAbs % 10000)).length) := by
 unfold fmtL
 rw [List.length_append, List.length_append]
 split <;> rfl
theorem frac_le (r : Nat) : (fracL r).length ≤ 5 := by
 unfold fracL
 split
 · simp
 · have := (zee (frD r)).2
   rw [zpr] at this
   simp only [List.length_cons]
   omega
theorem zu7 {l : List UInt8} (h : parE l = 0) : ∃ w p, zb5 (zde l) = some (w, p) ∧ valL w p ≤ mostI ∧ parV l = if negL l = true then -valL w p else valL w p := by
 unfold parE at h
 unfold parV
 cases hf : zb5 (zde l) with
 | none => rw [hf] at h; cases h
 | some x =>
  rw [hf] at h
  dsimp only at h ⊢
  split at h
  · rename_i h2
    exact ⟨x.1, x.2, rfl, h2, if_pos h2⟩
  · cases h
theorem par_bd {l : List UInt8} (h : parE l = 0) : -mostI ≤ parV l ∧ parV l ≤ mostI := by
 obtain ⟨w, p, h1, h2, h3⟩ := zu7 h
 obtain ⟨a1, a2, a3, a4⟩ := zwb h1
 have h0 : 0 ≤ valL w p := by
  have e1 := zcf (zat w p) (fun c hc => (List.mem_append.1 hc).elim (a1 c) (zva a3 c))
  have e2 := zis p
  unfold valL
  omega
 rw [h3]
 unfold mostI at *
 split <;> omega
end Go.Proofs.YtdhahiodnmmkeaaGreatDoor.Tx
