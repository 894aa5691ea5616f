/- What Minus leaves: mathematics of RectCuts. -/
import Derived.Test.YtbkbikkieabcmaaDoorRectV
namespace Go.Proofs.YtbkbikkieabcmaaDoor.Re
open Go.RowKit AM
set_option linter.unusedVariables false
set_option linter.unusedSimpArgs false
def meet4 (a b : R4) : R4 := ⟨max a.c1 b.c1, max a.r1 b.r1, min a.c2 b.c2, min a.r2 b.r2⟩
theorem meet4_has (a b : R4) (p q : Int) : has4 (meet4 a b) p q = true ↔ has4 a p q = true ∧ has4 b p q = true := by
  rw [has4_iff, has4_iff, has4_iff]
  unfold meet4
  dsimp only
  omega
theorem mt4_parts {a b : R4} (h : mt4 a b = true) : a.ck = true ∧ b.ck = true ∧ max a.c1 b.c1 ≤ min a.c2 b.c2 ∧ max a.r1 b.r1 ≤ min a.r2 b.r2 := by
  have hc := mtB_ck h
  refine ⟨hc.1, hc.2, ?_⟩
  unfold mt4 mtB at h
  simp only [Bool.and_eq_true, Bool.not_eq_true'] at h
  have hem := h.1
  unfold emB at hem
  have := of_decide_eq_false hem
  omega
theorem meet4_ck {a b : R4} (h : mt4 a b = true) : (meet4 a b).ck = true := by
  obtain ⟨ha, hb, h1, h2⟩ := mt4_parts h
  unfold R4.ck at ha hb ⊢
  rw [ckB_iff] at ha hb ⊢
  unfold meet4
  dsimp only
  omega
/-- What is cut out of a range by the rules up to one, and which rule each part has. -/
theorem area_same (W A X Y mh B mw H : Int) (h1 : X + Y = W - mw) (h2 : A + mh + B = H) : W * A + (X * mh + (Y * mh + (W * B + 0))) + mw * mh = W * H := by
  have e1 : X * mh + Y * mh = W * mh - mw * mh := by rw [← Int.add_mul, h1, Int.sub_mul]
  have e2 : W * H = W * A + W * mh + W * B := by rw [← h2, Int.mul_add, Int.mul_add]
  omega
theorem cut4_areas {a b : R4} (ha : a.ck = true) (hb : b.ck = true) (hm : mt4 a b = true) : areas (some4 (cut4 a b)) + area4 (meet4 a b) = area4 a := by
  obtain ⟨_, _, n1, n2⟩ := mt4_parts hm
  obtain ⟨a1, a2, a3, a4⟩ := a
  obtain ⟨b1, b2, b3, b4⟩ := b
  unfold R4.ck at ha hb
  rw [ckB_iff] at ha hb
  dsimp only at *
  rw [areas_some]
  · unfold cut4 areas area4 meet4
    simp only [List.map_cons, List.map_nil, List.sum_cons, List.sum_nil]
    have := area_same (a3 - a1 + 1) (max a2 b2 - a2) (max a1 b1 - a1) (a3 - min a3 b3) (min a4 b4 - max a2 b2 + 1) (a4 - min a4 b4) (min a3 b3 - max a1 b1 + 1) (a4 - a2 + 1) (by omega) (by omega)
    rw [show max a2 b2 - 1 - a2 + 1 = max a2 b2 - a2 by omega, show max a1 b1 - 1 - a1 + 1 = max a1 b1 - a1 by omega, show a3 - (min a3 b3 + 1) + 1 = a3 - min a3 b3 by omega, show a4 - (min a4 b4 + 1) + 1 = a4 - min a4 b4 by omega]
    exact this
  · intro r hr hE
    unfold R4.em emB at hE
    have hE2 := of_decide_eq_true hE
    unfold cut4 at hr
    simp only [List.mem_cons, List.not_mem_nil, or_false] at hr
    unfold area4
    rcases hr with rfl | rfl | rfl | rfl <;> dsimp only at *
    · exact zero_r (by omega)
    · exact zero_l (by omega)
    · exact zero_l (by omega)
    · exact zero_r (by omega)
/-- No address lies in both. -/
def Apart4 (a b : R4) : Prop := ∀ p q, has4 a p q = true → has4 b p q = true → False
theorem mn_apart {a b : R4} (ha : a.ck = true) (hb : b.ck = true) : (mnL a b).Pairwise Apart4 := by
  unfold mnL
  rw [ha, hb]
  simp only [Bool.and_self, if_true]
  split
  · rename_i hm
    obtain ⟨_, _, n1, n2⟩ := mt4_parts hm
    unfold some4
    refine List.Pairwise.filter _ ?_
    unfold cut4
    simp only [List.pairwise_cons, List.mem_cons, List.not_mem_nil, or_false, List.Pairwise.nil, and_true]
    refine ⟨fun x hx p q h1 h2 => ?_, fun x hx p q h1 h2 => ?_, fun x hx p q h1 h2 => ?_, fun x hx => hx.elim⟩ <;> rw [has4_iff] at h1 h2
    · rcases hx with rfl | rfl | rfl <;> dsimp only at * <;> omega
    · rcases hx with rfl | rfl <;> dsimp only at * <;> omega
    · subst hx; dsimp only at *; omega
  · exact List.pairwise_singleton ..

theorem ck_lo {r : R4} (h : r.ck = true) : has4 r r.c1 r.r1 = true := by
  unfold R4.ck at h
  rw [ckB_iff] at h
  rw [has4_iff]; omega
theorem ck_hi {r : R4} (h : r.ck = true) : has4 r r.c2 r.r2 = true := by
  unfold R4.ck at h
  rw [ckB_iff] at h
  rw [has4_iff]; omega
theorem mt4_pt {a b : R4} (h : mt4 a b = true) : has4 a (max a.c1 b.c1) (max a.r1 b.r1) = true ∧ has4 b (max a.c1 b.c1) (max a.r1 b.r1) = true := by
  obtain ⟨_, _, n1, n2⟩ := mt4_parts h
  rw [has4_iff, has4_iff]; omega
theorem mt4_of_apart {a b : R4} (h : Apart4 a b) : mt4 b a = false := by
  cases hm : mt4 b a with
  | false => rfl
  | true => obtain ⟨h1, h2⟩ := mt4_pt hm; exact (h _ _ h2 h1).elim
def ins4 (x a : R4) : Bool := insB x.c1 x.r1 x.c2 x.r2 a.c1 a.r1 a.c2 a.r2
theorem ins4_t {x a : R4} (hx : x.ck = true) (ha : a.ck = true) (h1 : has4 a x.c1 x.r1 = true) (h2 : has4 a x.c2 x.r2 = true) : ins4 x a = true := by
  rw [has4_iff] at h1 h2
  have hx2 := hx
  unfold R4.ck at hx ha hx2
  rw [ckB_iff] at hx2
  unfold ins4 insB mtB
  rw [hx, ha, emB_f (by omega), show max x.c1 a.c1 = x.c1 by omega, show max x.r1 a.r1 = x.r1 by omega, show min x.c2 a.c2 = x.c2 by omega, show min x.r2 a.r2 = x.r2 by omega]
  simp
structure CutOk (a b : R4) (l : List R4) : Prop where
  len : l.length ≤ 4
  ck : ∀ j (hj : j < l.length), l[j].ck = true
  ins : ∀ j (hj : j < l.length), ins4 l[j] a = true
  no : ∀ j (hj : j < l.length), mt4 l[j] b = false
  two : ∀ j (hj : j < l.length) k (hk : k < j), mt4 l[j] l[k] = false
  sum : areas l + (if mt4 a b then area4 (meet4 a b) else 0) = area4 a
theorem cut_ok {a b : R4} (ha : a.ck = true) (hb : b.ck = true) : CutOk a b (mnL a b) := by
  have hc := (mnL_ck ha hb).1
  have hin : ∀ x ∈ mnL a b, ∀ p q, has4 x p q = true → has4 a p q = true ∧ has4 b p q = false := fun x hx p q hp => by
    have h := in_mn ha hb p q
    rw [inL_iff.2 ⟨x, hx, hp⟩] at h
    have h := h.symm
    simp only [Bool.and_eq_true, Bool.not_eq_true'] at h
    exact h
  have hpw := mn_apart ha hb
  refine ⟨?_, fun j hj => hc _ (List.getElem_mem hj), fun j hj => ?_, fun j hj => ?_, fun j hj k hk => mt4_of_apart (List.pairwise_iff_getElem.1 hpw k j (by omega) hj hk), ?_⟩
  · unfold mnL
    rw [ha, hb]
    simp only [Bool.and_self, if_true]
    split
    · exact Nat.le_trans (some4_len _) (by unfold cut4; simp)
    · simp
  · have hx := hc _ (List.getElem_mem hj)
    exact ins4_t hx ha (hin _ (List.getElem_mem hj) _ _ (ck_lo hx)).1 (hin _ (List.getElem_mem hj) _ _ (ck_hi hx)).1
  · cases hm : mt4 (mnL a b)[j] b with
    | false => rfl
    | true =>
      obtain ⟨h1, h2⟩ := mt4_pt hm
      have := (hin _ (List.getElem_mem hj) _ _ h1).2
      rw [h2] at this; cases this
  · cases hm : mt4 a b with
    | true =>
      have := cut4_areas ha hb hm
      rw [if_pos rfl]
      unfold mnL
      rw [ha, hb, hm]
      simpa using this
    | false =>
      rw [if_neg (by decide)]
      unfold mnL
      rw [ha, hb, hm]
      simp [areas]
theorem areas_take (P : List R4) (k : Nat) (hk : k < P.length) : areas (P.take (k + 1)) = areas (P.take k) + area4 P[k] := by
  rw [List.take_succ_eq_append_getElem hk, areas_app]
  unfold areas
  simp
theorem areas_part (P : List R4) (h : ∀ r ∈ P, r.ck = true) (k : Nat) : 0 ≤ areas (P.take k) ∧ areas (P.take k) ≤ areas P := by
  have h0 : ∀ l : List R4, (∀ r ∈ l, r.ck = true) → 0 ≤ areas l := fun l hl => by have := len_areas hl; omega
  have h1 := h0 (P.take k) (fun r hr => h r (List.mem_of_mem_take hr))
  have h2 := h0 (P.drop k) (fun r hr => h r (List.mem_of_mem_drop hr))
  have h3 : areas P = areas (P.take k) + areas (P.drop k) := by rw [← areas_app, List.take_append_drop]
  omega
end Go.Proofs.YtbkbikkieabcmaaDoor.Re
