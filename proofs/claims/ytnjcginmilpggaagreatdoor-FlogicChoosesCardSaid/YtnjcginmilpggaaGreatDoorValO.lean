/- The order of values: mathematics. -/
import Derived.Test.YtnjcginmilpggaaGreatDoorValC
namespace Go.Proofs.YtnjcginmilpggaaGreatDoor.Va
open Go Go.RowKit GM
theorem sg_cases (a b : Int) : (a < b ∧ sgI a b = -1) ∨ (a = b ∧ sgI a b = 0) ∨ (b < a ∧ sgI a b = 1) := by
  unfold sgI
  by_cases h1 : a < b
  · exact .inl ⟨h1, if_pos h1⟩
  · by_cases h2 : b < a
    · exact .inr (.inr ⟨h2, by rw [if_neg h1, if_pos h2]⟩)
    · exact .inr (.inl ⟨by omega, by rw [if_neg h1, if_neg h2]⟩)
theorem sg_anti (a b : Int) : sgI b a = -sgI a b := by
  rcases sg_cases a b with ⟨h, e⟩ | ⟨h, e⟩ | ⟨h, e⟩ <;> rcases sg_cases b a with ⟨h', e'⟩ | ⟨h', e'⟩ | ⟨h', e'⟩ <;> omega
theorem cm_anti (a b : List UInt8) : cmpS b a = - cmpS a b := cb_anti _ _
theorem cm_range (a b : List UInt8) : -1 ≤ cmpS a b ∧ cmpS a b ≤ 1 := cb_range _ _
theorem cm_trans (a b c : List UInt8) (h1 : cmpS a b ≤ 0) (h2 : cmpS b c ≤ 0) : cmpS a c ≤ 0 ∧ (cmpS a c = 0 → cmpS a b = 0 ∧ cmpS b c = 0) := cb_trans _ _ _ h1 h2
theorem cm_len {a b : List UInt8} (h : cmpS a b = 0) : a.length = b.length := by
  have := congrArg List.length ((cb_zero _ _).1 h)
  simpa using this
theorem cp_anti (k : Nat) (n : Int) (s : ByteArray) (k' : Nat) (n' : Int) (s' : ByteArray) :
    (cpR k' n' s' k n s).1 = -(cpR k n s k' n' s').1 ∧ (cpR k' n' s' k n s).2 = (cpR k n s k' n' s').2 ∧ -1 ≤ (cpR k n s k' n' s').1 ∧ (cpR k n s k' n' s').1 ≤ 1 := by
  unfold cpR
  by_cases h : vldV k n s.data.toList = true ∧ vldV k' n' s'.data.toList = true ∧ k ≠ 4 ∧ k' ≠ 4
  · rw [if_pos h, if_pos ⟨h.2.1, h.1, h.2.2.2, h.2.2.1⟩]
    dsimp only
    by_cases he : bK k k' = bK k' k
    · rw [if_pos he, if_pos he.symm, ← he]
      by_cases h3 : bK k k' = 3
      · rw [if_pos h3, if_pos h3]
        have := cm_range (bS k s).data.toList (bS k' s').data.toList
        exact ⟨cm_anti _ _, rfl, this.1, this.2⟩
      · rw [if_neg h3, if_neg h3]
        have := sg_cases (bN k n) (bN k' n')
        exact ⟨sg_anti _ _, rfl, by omega, by omega⟩
    · rw [if_neg he, if_neg (fun e => he e.symm)]
      have := sg_cases (rkV (bK k k')) (rkV (bK k' k))
      exact ⟨sg_anti _ _, rfl, by omega, by omega⟩
  · rw [if_neg h, if_neg (fun e => h ⟨e.2.1, e.1, e.2.2.2, e.2.2.1⟩)]
    exact ⟨rfl, rfl, by decide, by decide⟩
/-- What it means that two values can be compared. -/
theorem cp_ok {k : Nat} {n : Int} {s : ByteArray} {k' : Nat} {n' : Int} {s' : ByteArray} (h : (cpR k n s k' n' s').2 = 0) : vldV k n s.data.toList = true ∧ vldV k' n' s'.data.toList = true ∧ k ≠ 4 ∧ k' ≠ 4 := by
  unfold cpR at h
  by_cases h2 : vldV k n s.data.toList = true ∧ vldV k' n' s'.data.toList = true ∧ k ≠ 4 ∧ k' ≠ 4
  · exact h2
  · rw [if_neg h2] at h; cases h
theorem vld_kind {k : Nat} {n : Int} {l : List UInt8} (h : vldV k n l = true) : k ≤ 4 := by
  unfold vldV at h
  by_cases h0 : k = 0
  · omega
  by_cases h1 : k = 1
  · omega
  by_cases h2 : k = 2
  · omega
  by_cases h3 : k = 3
  · omega
  by_cases h4 : k = 4
  · omega
  rw [if_neg h0, if_neg h1, if_neg h2, if_neg h3, if_neg h4] at h
  cases h
theorem vld_text {k : Nat} {n : Int} {l : List UInt8} (h : vldV k n l = true) (h3 : k ≠ 3) : l = [] := by
  have hk := vld_kind h
  unfold vldV at h
  obtain rfl | rfl | rfl | rfl : k = 0 ∨ k = 1 ∨ k = 2 ∨ k = 4 := by omega
  all_goals
    simp at h
    exact h.2
theorem vld_num {n : Int} {l : List UInt8} (h : vldV 3 n l = true) : n = 0 := by
  unfold vldV at h
  simp at h
  exact h.1
theorem cp_blank {k : Nat} {n : Int} {l : List UInt8} (h : vldV k n l = true) (h4 : k ≠ 4) : cpR 0 0 ⟨#[]⟩ k 0 ⟨#[]⟩ = (0, 0) := by
  have hk := vld_kind h
  obtain rfl | rfl | rfl | rfl : k = 0 ∨ k = 1 ∨ k = 2 ∨ k = 3 := by omega
  all_goals rfl
/-- Where no value is blank. -/
def c1 (k : Nat) (n : Int) (s : ByteArray) (k' : Nat) (n' : Int) (s' : ByteArray) : Int := if k = k' then (if k = 3 then cmpS s.data.toList s'.data.toList else sgI n n') else sgI (rkV k) (rkV k')
theorem cp_full {k : Nat} {n : Int} {s : ByteArray} {k' : Nat} {n' : Int} {s' : ByteArray} (h : (cpR k n s k' n' s').2 = 0) (h0 : k ≠ 0) (h0' : k' ≠ 0) : (cpR k n s k' n' s').1 = c1 k n s k' n' s' := by
  have h2 := cp_ok h
  unfold cpR c1
  rw [if_pos h2]
  have e1 : bK k k' = k := if_neg h0
  have e2 : bK k' k = k' := if_neg h0'
  have e3 : bN k n = n := if_neg h0
  have e4 : bN k' n' = n' := if_neg h0'
  have e5 : bS k s = s := if_neg h0
  have e6 : bS k' s' = s' := if_neg h0'
  rw [e1, e2, e3, e4, e5, e6]
theorem rk_inj {k k' : Nat} (h1 : k = 1 ∨ k = 2 ∨ k = 3) (h2 : k' = 1 ∨ k' = 2 ∨ k' = 3) (h : rkV k = rkV k') : k = k' := by
  rcases h1 with rfl | rfl | rfl <;> rcases h2 with rfl | rfl | rfl <;> first | rfl | (exact absurd h (by decide))
theorem c1_trans {k : Nat} {n : Int} {s : ByteArray} {k' : Nat} {n' : Int} {s' : ByteArray} {k2 : Nat} {n2 : Int} {s2 : ByteArray} (h1 : k = 1 ∨ k = 2 ∨ k = 3) (h2 : k' = 1 ∨ k' = 2 ∨ k' = 3) (h3 : k2 = 1 ∨ k2 = 2 ∨ k2 = 3)
    (a : c1 k n s k' n' s' ≤ 0) (b : c1 k' n' s' k2 n2 s2 ≤ 0) : c1 k n s k2 n2 s2 ≤ 0 ∧ (c1 k n s k2 n2 s2 = 0 → c1 k n s k' n' s' = 0 ∧ c1 k' n' s' k2 n2 s2 = 0) := by
  unfold c1 at *
  have i1 := @rk_inj k k' h1 h2
  have i2 := @rk_inj k' k2 h2 h3
  have i3 := @rk_inj k k2 h1 h3
  by_cases e1 : k = k'
  · subst e1
    rw [if_pos rfl] at a ⊢
    by_cases e2 : k = k2
    · subst e2
      rw [if_pos rfl] at b ⊢
      rw [if_pos rfl]
      by_cases e3 : k = 3
      · rw [if_pos e3] at a b ⊢
        rw [if_pos e3, if_pos e3]
        exact cm_trans _ _ _ a b
      · rw [if_neg e3] at a b ⊢
        rw [if_neg e3, if_neg e3]
        have x1 := sg_cases n n'
        have x2 := sg_cases n' n2
        have x3 := sg_cases n n2
        omega
    · rw [if_neg e2] at b ⊢
      rw [if_neg e2]
      have x2 := sg_cases (rkV k) (rkV k2)
      have hne : rkV k ≠ rkV k2 := fun e => e2 (i3 e)
      refine ⟨b, fun e => ?_⟩
      omega
  · rw [if_neg e1] at a ⊢
    have x1 := sg_cases (rkV k) (rkV k')
    have hne1 : rkV k ≠ rkV k' := fun e => e1 (i1 e)
    by_cases e2 : k' = k2
    · subst e2
      rw [if_neg e1]
      refine ⟨a, fun e => ?_⟩
      omega
    · rw [if_neg e2] at b ⊢
      have x2 := sg_cases (rkV k') (rkV k2)
      have hne2 : rkV k' ≠ rkV k2 := fun e => e2 (i2 e)
      by_cases e3 : k = k2
      · subst e3
        exfalso
        omega
      · rw [if_neg e3]
        have x3 := sg_cases (rkV k) (rkV k2)
        omega
theorem c1_zero {k : Nat} {n : Int} {s : ByteArray} {k' : Nat} {n' : Int} {s' : ByteArray} (h1 : k = 1 ∨ k = 2 ∨ k = 3) (h2 : k' = 1 ∨ k' = 2 ∨ k' = 3) (v1 : vldV k n s.data.toList = true) (v2 : vldV k' n' s'.data.toList = true)
    (a : c1 k n s k' n' s' = 0) : k = k' ∧ n = n' ∧ (k ≠ 3 → s = s') ∧ s.size = s'.size := by
  unfold c1 at a
  by_cases e1 : k = k'
  · subst e1
    rw [if_pos rfl] at a
    by_cases e3 : k = 3
    · subst e3
      rw [if_pos rfl] at a
      have hl := cm_len a
      have := vld_num v1
      have := vld_num v2
      refine ⟨rfl, by omega, fun h => absurd rfl h, by simpa using hl⟩
    · rw [if_neg e3] at a
      have x := sg_cases n n'
      have t1 := vld_text v1 e3
      have t2 := vld_text v2 e3
      have hs : s = s' := ByteArray.ext (Array.toList_inj.1 (t1.trans t2.symm))
      exact ⟨rfl, by omega, fun _ => hs, by rw [hs]⟩
  · rw [if_neg e1] at a
    have x := sg_cases (rkV k) (rkV k')
    exact absurd (rk_inj h1 h2 (by omega)) e1
theorem c1_self (k : Nat) (n : Int) (s : ByteArray) : c1 k n s k n s = 0 := by
  unfold c1
  rw [if_pos rfl]
  split
  · exact cmpS_self _
  · have := sg_cases n n; omega
end Go.Proofs.YtnjcginmilpggaaGreatDoor.Va
