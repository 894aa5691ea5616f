/- Merged: TxtF TxtG. -/
import Derived.Test.YtdhahiodnmmkeaaGreatDoorTxtA
import Derived.Lib.ItoaNum
/- Decimal texts: the mathematics of writing, and of reading what was written. -/
namespace Go.Proofs.YtdhahiodnmmkeaaGreatDoor.Tx
def dgt (n : Nat) : UInt8 := UInt8.ofNat (48 + n)
/-- The four places of a rest. -/
def frD (r : Nat) : List UInt8 := [dgt (r / 1000 % 10), dgt (r / 100 % 10), dgt (r / 10 % 10), dgt (r % 10)]
def trimZ (l : List UInt8) : List UInt8 := (l.reverse.dropWhile (· == 48)).reverse
def fracL (r : Nat) : List UInt8 := if r = 0 then [] else 46 :: trimZ (frD r)
def fmtL (a : Int) : List UInt8 := (if a < 0 then [45] else []) ++ (Lib.decDigits (a.natAbs / 10000) ++ fracL (a.natAbs % 10000))
theorem mem_tw {α : Type} {p : α → Bool} : ∀ {l : List α} {c : α}, c ∈ l.takeWhile p → p c = true
  | [], c, h => by cases h
  | x :: l, c, h => by
    by_cases hx : p x = true
    · rw [List.takeWhile_cons_of_pos hx] at h
      rcases List.mem_cons.1 h with rfl | h
      · exact hx
      · exact mem_tw h
    · rw [List.takeWhile_cons_of_neg hx] at h
      cases h
end Go.Proofs.YtdhahiodnmmkeaaGreatDoor.Tx
/- Decimal texts: what is written is not longer than what was read. -/
namespace Go.Proofs.YtdhahiodnmmkeaaGreatDoor.Tx
theorem form_some {b w p : List UInt8} (h : formL b = some (w, p)) : (∀ c ∈ w, isDg c = true) ∧ w ≠ [] ∧ (∀ c ∈ p, isDg c = true) ∧ b.length = w.length + (if p = [] then 0 else 1 + p.length) := by
  have hs := List.takeWhile_append_dropWhile (p := isDg) (l := b)
  have hw : ∀ c ∈ b.takeWhile isDg, isDg c = true := fun c hc => mem_tw hc
  unfold formL at h
  generalize b.takeWhile isDg = w' at *
  cases hq : b.dropWhile isDg with
  | nil =>
    rw [hq] at h hs
    dsimp only at h
    split at h
    · cases h
    · rename_i hne
      simp only [Option.some.injEq, Prod.mk.injEq] at h
      obtain ⟨rfl, rfl⟩ := h
      refine ⟨hw, by simpa using hne, (fun c hc => (by cases hc)), ?_⟩
      rw [← hs]; simp
  | cons c q =>
    rw [hq] at h hs
    dsimp only at h
    split at h
    · rename_i hc
      obtain ⟨_, h2, h3, h4⟩ := hc
      simp only [Option.some.injEq, Prod.mk.injEq] at h
      obtain ⟨rfl, rfl⟩ := h
      refine ⟨hw, by simpa using h2, List.all_eq_true.1 h4, ?_⟩
      rw [if_neg (by simpa using h3), ← hs, List.length_append, List.length_cons]
      omega
    · cases h
theorem par_parts {l : List UInt8} (h : parE l = 0) : ∃ w p, formL (bodyL l) = some (w, p) ∧ valL w p ≤ mostI ∧ parV l = if negL l = true then -valL w p else valL w p := by
  unfold parE at h
  unfold parV
  cases hf : formL (bodyL l) with
  | none => rw [hf] at h; cases h
  | some x =>
    rw [hf] at h
    dsimp only at h ⊢
    split at h
    · rename_i h2
      exact ⟨x.1, x.2, rfl, h2, if_pos h2⟩
    · cases h
theorem par_bd {l : List UInt8} (h : parE l = 0) : -mostI ≤ parV l ∧ parV l ≤ mostI := by
  obtain ⟨w, p, h1, h2, h3⟩ := par_parts h
  obtain ⟨a1, a2, a3, a4⟩ := form_some h1
  have h0 : 0 ≤ valL w p := by
    have e1 := numL_pos (digsL w p) (fun c hc => (List.mem_append.1 hc).elim (a1 c) (p4_dg a3 c))
    have e2 := upL_bd p
    unfold valL
    omega
  rw [h3]
  unfold mostI at *
  split <;> omega
end Go.Proofs.YtdhahiodnmmkeaaGreatDoor.Tx
