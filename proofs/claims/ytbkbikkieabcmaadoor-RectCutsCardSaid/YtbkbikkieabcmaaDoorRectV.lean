/- What is left, by addresses. -/
import Derived.Test.YtbkbikkieabcmaaDoorRectO
namespace Go.Proofs.YtbkbikkieabcmaaDoor.Re
open Go.RowKit AM
def has4 (r : R4) (p q : Int) : Bool := rhB r.c1 r.r1 r.c2 r.r2 p q
def inL (l : List R4) (p q : Int) : Bool := l.any fun r => has4 r p q
theorem has4_iff {r : R4} {p q : Int} : has4 r p q = true ↔ r.c1 ≤ p ∧ p ≤ r.c2 ∧ r.r1 ≤ q ∧ q ≤ r.r2 := by unfold has4 rhB; exact decide_eq_true_iff
theorem inL_iff {l : List R4} {p q : Int} : inL l p q = true ↔ ∃ r ∈ l, has4 r p q = true := by unfold inL; simp
theorem in_mn {a b : R4} (ha : a.ck = true) (hb : b.ck = true) (p q : Int) : inL (mnL a b) p q = (has4 a p q && !has4 b p q) := by
  have ha' := ha
  have hb' := hb
  unfold R4.ck at ha' hb'
  rw [ckB_iff] at ha' hb'
  rw [Bool.eq_iff_iff, inL_iff, Bool.and_eq_true, Bool.not_eq_true', ← Bool.not_eq_true]
  unfold mnL
  rw [ha, hb]
  simp only [Bool.and_self, if_true]
  by_cases hm : mt4 a b = true
  · rw [if_pos hm]
    have hem : emB (max a.c1 b.c1) (max a.r1 b.r1) (min a.c2 b.c2) (min a.r2 b.r2) = false := by
      unfold mt4 mtB at hm
      simp only [Bool.and_eq_true, Bool.not_eq_true'] at hm
      exact hm.1
    have hne : max a.c1 b.c1 ≤ min a.c2 b.c2 ∧ max a.r1 b.r1 ≤ min a.r2 b.r2 := by
      unfold emB at hem
      have := of_decide_eq_false hem
      omega
    constructor
    · rintro ⟨r, hr, h⟩
      unfold some4 at hr
      have h1 := (List.mem_filter.1 hr).1
      rw [has4_iff] at h
      rw [has4_iff, has4_iff]
      unfold cut4 at h1
      simp only [List.mem_cons, List.not_mem_nil, or_false] at h1
      rcases h1 with rfl | rfl | rfl | rfl <;> dsimp only at * <;> omega
    · rintro ⟨h1, h2⟩
      rw [has4_iff] at h1 h2
      have key : ∀ r ∈ cut4 a b, has4 r p q = true → ∃ r ∈ some4 (cut4 a b), has4 r p q = true := by
        intro r hr h
        refine ⟨r, ?_, h⟩
        unfold some4
        rw [List.mem_filter]
        refine ⟨hr, ?_⟩
        rw [has4_iff] at h
        unfold R4.em emB
        rw [Bool.not_eq_true', decide_eq_false_iff_not]
        omega
      by_cases c1 : q < max a.r1 b.r1
      · exact key ⟨a.c1, a.r1, a.c2, max a.r1 b.r1 - 1⟩ (by unfold cut4; simp) (by rw [has4_iff]; dsimp only; omega)
      · by_cases c2 : min a.r2 b.r2 < q
        · exact key ⟨a.c1, min a.r2 b.r2 + 1, a.c2, a.r2⟩ (by unfold cut4; simp) (by rw [has4_iff]; dsimp only; omega)
        · by_cases c3 : p < max a.c1 b.c1
          · exact key ⟨a.c1, max a.r1 b.r1, max a.c1 b.c1 - 1, min a.r2 b.r2⟩ (by unfold cut4; simp) (by rw [has4_iff]; dsimp only; omega)
          · exact key ⟨min a.c2 b.c2 + 1, max a.r1 b.r1, a.c2, min a.r2 b.r2⟩ (by unfold cut4; simp) (by rw [has4_iff]; dsimp only; omega)
  · rw [if_neg hm]
    have hno : ¬ (max a.c1 b.c1 ≤ min a.c2 b.c2 ∧ max a.r1 b.r1 ≤ min a.r2 b.r2) := by
      intro h
      apply hm
      unfold mt4 mtB
      simp only [Bool.and_eq_true, Bool.not_eq_true']
      refine ⟨?_, ha, hb⟩
      unfold emB
      rw [decide_eq_false_iff_not]
      omega
    constructor
    · rintro ⟨r, hr, h⟩
      simp at hr
      subst hr
      refine ⟨h, ?_⟩
      rw [has4_iff] at h ⊢
      omega
    · rintro ⟨h1, _⟩
      exact ⟨a, by simp, h1⟩
theorem in_gone {s : List R4} {b : R4} (hs : ∀ r ∈ s, r.ck = true) (hb : b.ck = true) (p q : Int) : inL (goneL s b) p q = (inL s p q && !has4 b p q) := by
  induction s with
  | nil => rfl
  | cons a s ih =>
    have e : goneL (a :: s) b = mnL a b ++ goneL s b := by unfold goneL; rw [List.flatMap_cons]
    have e2 : inL (a :: s) p q = (has4 a p q || inL s p q) := by unfold inL; rw [List.any_cons]
    have e3 : inL (mnL a b ++ goneL s b) p q = (inL (mnL a b) p q || inL (goneL s b) p q) := by unfold inL; rw [List.any_append]
    rw [e, e3, in_mn (hs a (List.mem_cons_self ..)) hb, ih fun r hr => hs r (List.mem_cons_of_mem _ hr), e2]
    cases has4 a p q <;> cases inL s p q <;> cases has4 b p q <;> rfl
theorem in_left {r : R4} {l : List R4} (hr : r.ck = true) (hl : ∀ b ∈ l, b.ck = true) (p q : Int) : inL (leftL r l) p q = (has4 r p q && !inL l p q) := by
  have key : ∀ (l : List R4) (s : List R4), (∀ b ∈ l, b.ck = true) → (∀ x ∈ s, x.ck = true) → inL (l.foldl goneL s) p q = (inL s p q && !inL l p q) := by
    intro l
    induction l with
    | nil => intro s _ _; unfold inL; simp
    | cons b l ih =>
      intro s hl hs
      have e2 : inL (b :: l) p q = (has4 b p q || inL l p q) := by unfold inL; rw [List.any_cons]
      rw [List.foldl_cons, ih _ (fun x hx => hl x (List.mem_cons_of_mem _ hx)) (gone_ck hs (hl b (List.mem_cons_self ..))).1, in_gone hs (hl b (List.mem_cons_self ..)), e2]
      cases inL s p q <;> cases has4 b p q <;> cases inL l p q <;> rfl
  have e : inL [r] p q = has4 r p q := by unfold inL; simp
  unfold leftL
  rw [key l [r] hl (fun x hx => by simp at hx; subst hx; exact hr), e]
theorem left_nil {r : R4} {l : List R4} (hr : r.ck = true) (hl : ∀ b ∈ l, b.ck = true) : ((leftL r l).length == 0) = true ↔ ∀ p q, has4 r p q = true → inL l p q = true := by
  constructor
  · intro h p q hp
    have h0 : leftL r l = [] := List.eq_nil_of_length_eq_zero (by simpa using h)
    have := in_left hr hl p q
    rw [h0, hp] at this
    cases hi : inL l p q
    · rw [hi] at this; simp [inL] at this
    · rfl
  · intro h
    rw [beq_iff_eq]
    cases hL : leftL r l with
    | nil => rfl
    | cons x xs =>
      exfalso
      have hx : x.ck = true := (left_ck hr hl).1 x (by rw [hL]; exact List.mem_cons_self ..)
      have hx' := hx
      unfold R4.ck at hx'
      rw [ckB_iff] at hx'
      have h1 : inL (leftL r l) x.c1 x.r1 = true := inL_iff.2 ⟨x, by rw [hL]; exact List.mem_cons_self .., has4_iff.2 (by omega)⟩
      rw [in_left hr hl, Bool.and_eq_true] at h1
      have := h _ _ h1.1
      rw [this] at h1
      simp at h1
/-- Whether the first i addresses of a range are in some range. -/
def allI (r : R4) (l : List R4) (i : Nat) : Bool := (List.range i).all fun j => inL l (r.c1 + (j : Int) % (r.c2 - r.c1 + 1)) (r.r1 + (j : Int) / (r.c2 - r.c1 + 1))
theorem allI_succ (r : R4) (l : List R4) (i : Nat) : allI r l (i + 1) = (allI r l i && inL l (r.c1 + (i : Int) % (r.c2 - r.c1 + 1)) (r.r1 + (i : Int) / (r.c2 - r.c1 + 1))) := by
  unfold allI; rw [List.range_succ, List.all_append]; simp
theorem cov_all {r : R4} {l : List R4} (hr : r.ck = true) (hl : ∀ b ∈ l, b.ck = true) (W H : Nat) (hW : r.c2 - r.c1 + 1 = W) (hH : r.r2 - r.r1 + 1 = H) : ((leftL r l).length == 0) = allI r l (W * H) := by
  have hr' := hr
  unfold R4.ck at hr'
  rw [ckB_iff] at hr'
  have hW0 : 0 < W := by omega
  rw [Bool.eq_iff_iff, left_nil hr hl]
  unfold allI
  rw [List.all_eq_true, hW]
  constructor
  · intro h j hj
    rw [List.mem_range] at hj
    apply h
    rw [has4_iff]
    have h1 : j % W < W := Nat.mod_lt _ hW0
    have h2 : j / W < H := Nat.div_lt_of_lt_mul hj
    have e1 : (j : Int) % (W : Int) = ((j % W : Nat) : Int) := by simp
    have e2 : (j : Int) / (W : Int) = ((j / W : Nat) : Int) := by simp
    rw [e1, e2]
    clear e1 e2
    generalize j % W = u at *
    generalize j / W = v at *
    omega
  · intro h p q hp
    rw [has4_iff] at hp
    obtain ⟨x, hx⟩ : ∃ x : Nat, p = r.c1 + x := ⟨(p - r.c1).toNat, by omega⟩
    obtain ⟨y, hy⟩ : ∃ y : Nat, q = r.r1 + y := ⟨(q - r.r1).toNat, by omega⟩
    have hxW : x < W := by omega
    have hyH : y < H := by omega
    have hlt : y * W + x < W * H := by
      have : (y + 1) * W ≤ H * W := Nat.mul_le_mul_right _ hyH
      rw [Nat.add_mul, Nat.mul_comm H W] at this
      omega
    have := h (y * W + x) (List.mem_range.2 hlt)
    have e1 : ((y * W + x : Nat) : Int) % (W : Int) = (x : Int) := by
      rw [show ((y * W + x : Nat) : Int) % (W : Int) = (((y * W + x) % W : Nat) : Int) by simp, Nat.add_comm, Nat.mul_comm y W, Nat.add_mul_mod_self_left, Nat.mod_eq_of_lt hxW]
    have e2 : ((y * W + x : Nat) : Int) / (W : Int) = (y : Int) := by
      rw [show ((y * W + x : Nat) : Int) / (W : Int) = (((y * W + x) / W : Nat) : Int) by simp, Nat.add_comm, Nat.mul_comm y W, Nat.add_mul_div_left _ _ hW0, Nat.div_eq_of_lt hxW, Nat.zero_add]
    rw [e1, e2, ← hx, ← hy] at this
    exact this
/-- The ranges turned round, each with the first one behind it. -/
def turnL (l : List R4) (x0 : R4) (q : Nat) : List R4 := (l.drop q).reverse.flatMap fun x => [x, x0]
theorem turn_step (l : List R4) (x0 : R4) (q : Nat) (h : q < l.length) : turnL l x0 q = turnL l x0 (q + 1) ++ [l[q], x0] := by
  unfold turnL
  rw [List.drop_eq_getElem_cons h, List.reverse_cons, List.flatMap_append]; rfl
theorem turn_len (l : List R4) (x0 : R4) (q : Nat) : (turnL l x0 q).length = 2 * (l.length - q) := by
  unfold turnL
  have : ∀ (m : List R4), (m.flatMap fun x => [x, x0]).length = 2 * m.length := by
    intro m
    induction m with
    | nil => rfl
    | cons x m ih => rw [List.flatMap_cons, List.length_append, ih]; simp; omega
  rw [this]; simp
theorem turn_end (l : List R4) (x0 : R4) : turnL l x0 l.length = [] := by unfold turnL; simp
theorem turn_mem {l : List R4} {x0 : R4} (h0 : x0 ∈ l) (x : R4) : x ∈ turnL l x0 0 ↔ x ∈ l := by
  unfold turnL
  rw [List.drop_zero, List.mem_flatMap]
  constructor
  · rintro ⟨y, hy, hx⟩
    simp at hx
    rcases hx with rfl | rfl
    · simpa using hy
    · exact h0
  · intro hx; exact ⟨x, by simpa using hx, by simp⟩
theorem turn_in {l : List R4} {x0 : R4} (h0 : x0 ∈ l) (p q : Int) : inL (turnL l x0 0) p q = inL l p q := by
  rw [Bool.eq_iff_iff, inL_iff, inL_iff]
  constructor
  · rintro ⟨r, hr, h⟩; exact ⟨r, (turn_mem h0 r).1 hr, h⟩
  · rintro ⟨r, hr, h⟩; exact ⟨r, (turn_mem h0 r).2 hr, h⟩
end Go.Proofs.YtbkbikkieabcmaaDoor.Re
