/- Contracts of rect's small functions. -/
import Derived.Test.YtbkbikkieabcmaaDoorAddrB
import Derived.RegionTactic
import Derived.BigRegion
import Derived.ChangeAlike
namespace Go.Proofs.YtbkbikkieabcmaaDoor.Re
open Go.RowKit AM
theorem rcorners_any (a b c d : Int) (w : World) :
    Calls Tryd.prog 29 #[.agg #[.int .i64 a, .int .i64 b, .int .i64 c, .int .i64 d]] w fun e w' =>
      e = .returned (.tuple #[.agg #[.int .i64 a, .int .i64 b], .agg #[.int .i64 c, .int .i64 d]]) ∧ Below w.heap.size w w' := by
  go_enter Tryd.func29, Tryd.ntmps29
  go_wp2_with fail
  go_region
  go_wp2_with fail
  exact bodyPost_ret (v := .tuple #[.agg #[_, _], .agg #[_, _]]) (by simp [results, Tryd.results29, go_sem]) rfl ⟨rfl, ((((Below.refl _ _).alloc (Nat.le_refl _) _).alloc (by simp) _).alloc (by simp; omega) _).drew⟩
theorem retI' {k : IntKind} {a b : Int} (h : a = b) : Ending.returned (.int k a) = .returned (.int k b) := by rw [h]
def emB (a b c d : Int) : Bool := decide (c < a ∨ d < b)
theorem emB_t {a b c d : Int} (h : c < a ∨ d < b) : emB a b c d = true := by unfold emB; exact decide_eq_true h
theorem emB_f {a b c d : Int} (h : ¬ (c < a ∨ d < b)) : emB a b c d = false := by unfold emB; exact decide_eq_false h
theorem rempty_any (a b c d : Int) (w : World) :
    Calls Tryd.prog 27 #[.agg #[.int .i64 a, .int .i64 b, .int .i64 c, .int .i64 d]] w fun e w' => e = .returned (.bool (emB a b c d)) ∧ Below w.heap.size w w' := by
  rcases Int.lt_or_le c a with h | h
  · have hk := Lib.hid (emB_t (b := b) (d := d) (Or.inl h))
    go_enter Tryd.func27, Tryd.ntmps27
    go_wp2
    go_ret
    exact ⟨retB hk.out.symm, (Below.refl _ _).alloc (Nat.le_refl _) _⟩
  · rcases Int.lt_or_le d b with h2 | h2
    · have hk := Lib.hid (emB_t (a := a) (c := c) (Or.inr h2))
      go_enter Tryd.func27, Tryd.ntmps27
      go_wp2
      go_ret
      exact ⟨retB hk.out.symm, (Below.refl _ _).alloc (Nat.le_refl _) _⟩
    · have hk := Lib.hid (emB_f (a := a) (b := b) (c := c) (d := d) (by omega))
      go_enter Tryd.func27, Tryd.ntmps27
      go_wp2
      go_ret
      exact ⟨retB (by rw [decide_eq_false (show ¬ c < a by omega), decide_eq_false (show ¬ d < b by omega)]; exact hk.out.symm), (Below.refl _ _).alloc (Nat.le_refl _) _⟩
/-! A range is valid -/
def ckB (a b c d : Int) : Bool := okR a b && (okR c d && !emB a b c d)
def ckE (a b c d : Int) : Int := if ckB a b c d = true then 0 else 3
theorem ckB_iff {a b c d : Int} : ckB a b c d = true ↔ (1 ≤ a ∧ a ≤ 1024 ∧ 1 ≤ b ∧ b ≤ 1024) ∧ (1 ≤ c ∧ c ≤ 1024 ∧ 1 ≤ d ∧ d ≤ 1024) ∧ a ≤ c ∧ b ≤ d := by
  unfold ckB okR emB
  rw [Bool.and_eq_true, Bool.and_eq_true, decide_eq_true_eq, decide_eq_true_eq, Bool.not_eq_true', decide_eq_false_iff_not]
  omega
theorem ckE_t {a b c d : Int} (h : ckB a b c d = true) : ckE a b c d = 0 := by unfold ckE; rw [if_pos h]
theorem ckE_f {a b c d : Int} (h : ckB a b c d = false) : ckE a b c d = 3 := by unfold ckE; rw [if_neg (by rw [h]; decide)]
/-- Four integers lie in block p. -/
def Four (w : World) (p : Nat) (a b c d : Int) : Prop :=
  p < w.heap.size ∧ w.cell? ⟨p, 0, none⟩ = some (.int .i64 a) ∧ w.cell? ⟨p, 1, none⟩ = some (.int .i64 b) ∧ w.cell? ⟨p, 2, none⟩ = some (.int .i64 c) ∧ w.cell? ⟨p, 3, none⟩ = some (.int .i64 d)
theorem Four.later {w w' : World} {p : Nat} {a b c d : Int} (h : Four w p a b c d) (hB : Below w.heap.size w w') : Four w' p a b c d := by
  obtain ⟨h0, h1, h2, h3, h4⟩ := h
  obtain ⟨hc, _⟩ := bcell hB
  have hz := hB.size
  exact ⟨by omega, by rw [hc _ _ h0]; exact h1, by rw [hc _ _ h0]; exact h2, by rw [hc _ _ h0]; exact h3, by rw [hc _ _ h0]; exact h4⟩
theorem Four.start (w : World) (a b c d : Int) (t : TypeId) : Four (w.alloc (.cells #[.int .i64 a, .int .i64 b, .int .i64 c, .int .i64 d] t)) w.heap.size a b c d :=
  ⟨by simp, by simp, by simp, by simp, by simp⟩
def Two' (w : World) (p : Nat) (a b : Int) : Prop := p < w.heap.size ∧ w.cell? ⟨p, 0, none⟩ = some (.int .i64 a) ∧ w.cell? ⟨p, 1, none⟩ = some (.int .i64 b)
theorem Two'.later {w w' : World} {p : Nat} {a b : Int} (h : Two' w p a b) (hB : Below w.heap.size w w') : Two' w' p a b := by
  obtain ⟨h0, h1, h2⟩ := h
  obtain ⟨hc, _⟩ := bcell hB
  have hz := hB.size
  exact ⟨by omega, by rw [hc _ _ h0]; exact h1, by rw [hc _ _ h0]; exact h2⟩
theorem Two'.start (w : World) (a b : Int) (t : TypeId) : Two' (w.alloc (.cells #[.int .i64 a, .int .i64 b] t)) w.heap.size a b := ⟨by simp, by simp, by simp⟩
theorem below_alloc (w : World) (o : Obj) : Below w.heap.size w (w.alloc o) := (Below.refl _ _).alloc (Nat.le_refl _) _
set_option maxHeartbeats 800000 in
theorem rcheck_any (a b c d : Int) (w : World) :
    Calls Tryd.prog 9 #[.agg #[.int .i64 a, .int .i64 b, .int .i64 c, .int .i64 d]] w fun e w' => e = .returned (.int .i64 (ckE a b c d)) ∧ Below w.heap.size w w' := by
  have HE : Hid (ckE a b c d = if okR a b = true then (if okR c d = true then (if emB a b c d = true then 3 else 0) else 3) else 3) := by
    unfold Hid ckE ckB
    cases okR a b <;> cases okR c d <;> cases emB a b c d <;> rfl
  go_enter Tryd.func9, Tryd.ntmps9
  go_wp2_with fail
  refine (rcorners_any a b c d _).mono ?_
  rintro e w1 ⟨rfl, hB1⟩
  have F1 := Lib.hid ((Four.start w a b c d 23).later hB1)
  have B1 := Lib.hid (Below.next (below_alloc w _) hB1)
  have T1 := Lib.hid (Two'.start w1 a b 25)
  have T2 := Lib.hid (Two'.start (w1.alloc (.cells #[.int .i64 a, .int .i64 b] 25)) c d 25)
  have T1' := Lib.hid (T1.out.later (below_alloc _ (.cells #[.int .i64 c, .int .i64 d] 25)))
  have F1' := Lib.hid ((F1.out.later (below_alloc _ (.cells #[.int .i64 a, .int .i64 b] 25))).later (below_alloc _ (.cells #[.int .i64 c, .int .i64 d] 25)))
  have B1' := Lib.hid (Below.next (Below.next B1.out (below_alloc _ (.cells #[.int .i64 a, .int .i64 b] 25))) (below_alloc _ (.cells #[.int .i64 c, .int .i64 d] 25)))
  go_wp2_with fail
  refine (valid_any a b _).mono ?_
  rintro e w2 ⟨rfl, hB2⟩
  simp at T2
  have F2 := Lib.hid (F1'.out.later hB2)
  have T2' := Lib.hid (T2.out.later hB2)
  have B2 := Lib.hid (Below.next B1'.out hB2)
  obtain ⟨_, t1, t2⟩ := T2'.out
  obtain ⟨_, f1, f2, f3, f4⟩ := F2.out
  cases h1 : okR a b
  · have E : Hid (ckE a b c d = 3) := by unfold Hid; rw [HE.out, h1]; rfl
    clear h1
    go_wp2_with fail
    go_ret
    exact ⟨retI' E.out.symm, B2.out⟩
  · have H1 := Lib.hid h1
    clear h1
    go_wp2_with fail
    refine (valid_any c d _).mono ?_
    rintro e w3 ⟨rfl, hB3⟩
    have F3 := Lib.hid (F2.out.later hB3)
    have B3 := Lib.hid (Below.next B2.out hB3)
    obtain ⟨_, f1, f2, f3, f4⟩ := F3.out
    cases h2 : okR c d
    · have E : Hid (ckE a b c d = 3) := by unfold Hid; rw [HE.out, H1.out, h2]; rfl
      clear h2
      go_wp2_with fail
      go_ret
      exact ⟨retI' E.out.symm, B3.out⟩
    · have H2 := Lib.hid h2
      clear h2
      go_wp2_with fail
      refine (rempty_any a b c d _).mono ?_
      rintro e w4 ⟨rfl, hB4⟩
      have B4 := Lib.hid (Below.next B3.out hB4)
      cases h3 : emB a b c d
      · have E : Hid (ckE a b c d = 0) := by unfold Hid; rw [HE.out, H1.out, H2.out, h3]; rfl
        clear h3
        go_wp2_with fail
        go_ret
        exact ⟨retI' E.out.symm, B4.out⟩
      · have E : Hid (ckE a b c d = 3) := by unfold Hid; rw [HE.out, H1.out, H2.out, h3]; rfl
        clear h3
        go_wp2_with fail
        go_ret
        exact ⟨retI' E.out.symm, B4.out⟩
end Go.Proofs.YtbkbikkieabcmaaDoor.Re
