/- Merged: PrtA PrtB PrtC PrtD PrtE. -/
import Derived.Test.YthgnhdfppmoooaaMpt
/- Parts of a range: the specification's Meet, Area and One. -/
namespace Go.Proofs.Ythgnhdfppmoooaa.Re
open Go.RowKit AM
set_option linter.unusedVariables false
set_option linter.unusedSimpArgs false
/-- Whether all addresses of a part have the rule i. -/
def oneB (r : R4) (i : Int) (L : List RV) : Bool := (ptsL r L).all fun x => decide ((lastI L x.1 x.2 L.length : Int) = i)
theorem allOk_t {P : Int × Int → Bool} {D : List (Int × Int)} (h : ∀ j (hj : j < D.length), P D[j] = true) : D.all P = true := by
  rw [List.all_eq_true]
  intro x hx
  obtain ⟨j, hj, rfl⟩ := List.mem_iff_getElem.1 hx
  exact h j hj
theorem allOk_f {P : Int × Int → Bool} {D : List (Int × Int)} {k : Nat} (hk : k < D.length) (h : P D[k] = false) : D.all P = false := by
  rw [Bool.eq_false_iff]
  intro e
  have := List.all_eq_true.1 e D[k] (List.getElem_mem hk)
  rw [h] at this
  cases this
theorem oneB_iff {r : R4} {i : Int} {L : List RV} : oneB r i L = true ↔ ∀ p q, has4 r p q = true → (lastI L p q L.length : Int) = i := by
  unfold oneB
  rw [List.all_eq_true]
  constructor
  · intro h p q hp
    obtain ⟨x, hx, hl⟩ := pts_last (L := L) hp
    rw [← hl]
    exact of_decide_eq_true (h x hx)
  · intro h x hx
    exact decide_eq_true (h _ _ (pts_in hx))
end Go.Proofs.Ythgnhdfppmoooaa.Re
/- Parts of a range: the areas of what cut returns add up, and no two parts meet. -/
namespace Go.Proofs.Ythgnhdfppmoooaa.Re
open Go.RowKit AM
set_option linter.unusedVariables false
set_option linter.unusedSimpArgs false
theorem area_same (W A X Y mh B mw H : Int) (h1 : X + Y = W - mw) (h2 : A + mh + B = H) : W * A + (X * mh + (Y * mh + (W * B + 0))) + mw * mh = W * H := by
  have e1 : X * mh + Y * mh = W * mh - mw * mh := by rw [← Int.add_mul, h1, Int.sub_mul]
  have e2 : W * H = W * A + W * mh + W * B := by rw [← h2, Int.mul_add, Int.mul_add]
  omega
theorem cut4_areas {a b : R4} (ha : a.ck = true) (hb : b.ck = true) (hm : mt4 a b = true) : areas (some4 (cut4 a b)) + area4 (meet4 a b) = area4 a := by
  obtain ⟨_, _, n1, n2⟩ := mt4_parts hm
  obtain ⟨a1, a2, a3, a4⟩ := a
  obtain ⟨b1, b2, b3, b4⟩ := b
  unfold R4.ck at ha hb
  rw [ckB_iff] at ha hb
  dsimp only at *
  rw [areas_some]
  · unfold cut4 areas area4 meet4
    simp only [List.map_cons, List.map_nil, List.sum_cons, List.sum_nil]
    have := area_same (a3 - a1 + 1) (max a2 b2 - a2) (max a1 b1 - a1) (a3 - min a3 b3) (min a4 b4 - max a2 b2 + 1) (a4 - min a4 b4) (min a3 b3 - max a1 b1 + 1) (a4 - a2 + 1) (by omega) (by omega)
    rw [show max a2 b2 - 1 - a2 + 1 = max a2 b2 - a2 by omega, show max a1 b1 - 1 - a1 + 1 = max a1 b1 - a1 by omega, show a3 - (min a3 b3 + 1) + 1 = a3 - min a3 b3 by omega, show a4 - (min a4 b4 + 1) + 1 = a4 - min a4 b4 by omega]
    exact this
  · intro r hr hE
    unfold R4.em emB at hE
    have hE2 := of_decide_eq_true hE
    unfold cut4 at hr
    simp only [List.mem_cons, List.not_mem_nil, or_false] at hr
    unfold area4
    rcases hr with rfl | rfl | rfl | rfl <;> dsimp only at *
    · exact zero_r (by omega)
    · exact zero_l (by omega)
    · exact zero_l (by omega)
    · exact zero_r (by omega)
theorem meet4_twice (a b : R4) : meet4 a (meet4 a b) = meet4 a b := by
  unfold meet4
  dsimp only
  rw [show max a.c1 (max a.c1 b.c1) = max a.c1 b.c1 by omega, show max a.r1 (max a.r1 b.r1) = max a.r1 b.r1 by omega, show min a.c2 (min a.c2 b.c2) = min a.c2 b.c2 by omega, show min a.r2 (min a.r2 b.r2) = min a.r2 b.r2 by omega]
theorem mn_areas {r b : R4} (hm : mt4 r b = true) : areas (mnL r (meet4 r b)) + area4 (meet4 r b) = area4 r := by
  have hc := meet4_ck hm
  have hr := (mt4_parts hm).1
  have h2 := mt4_meet hm
  unfold mnL
  rw [hr, hc]
  simp only [Bool.and_self, if_true]
  rw [if_pos h2]
  have := cut4_areas hr hc h2
  rw [meet4_twice] at this
  exact this
theorem areas_flat (f : R4 → List (R4 × Nat)) : ∀ (l : List R4), (∀ x ∈ l, areas ((f x).map (·.1)) = area4 x) → areas ((l.flatMap f).map (·.1)) = areas l
  | [], _ => rfl
  | x :: l, h => by
    rw [List.flatMap_cons, List.map_append, areas_app, h x (List.mem_cons_self ..), areas_flat f l fun y hy => h y (List.mem_cons_of_mem _ hy)]
    unfold areas
    simp
theorem sheet_meet {r : R4} {s : RV} (h0 : isSheet s = true) (hr : r.ck = true) (hs : (rr4 s).ck = true) : mt4 r (rr4 s) = true ∧ meet4 r (rr4 s) = r := by
  have hr2 := hr
  unfold R4.ck at hr2
  rw [ckB_iff] at hr2
  have h0' := h0
  unfold isSheet at h0'
  simp only [Bool.and_eq_true, beq_iff_eq, decide_eq_true_eq] at h0'
  have hh : has4 (rr4 s) r.c1 r.r1 = true := by
    rw [has4_iff]
    unfold rr4
    dsimp only
    omega
  constructor
  · apply Classical.byContradiction
    intro hn
    have := mt4_no hr hs hn r.c1 r.r1 (ck_has hr)
    rw [hh] at this
    cases this
  · obtain ⟨r1, r2, r3, r4⟩ := r
    unfold meet4 rr4
    dsimp only at *
    rw [show max r1 s.c1 = r1 by omega, show max r2 s.r1 = r2 by omega, show min r3 s.c2 = r3 by omega, show min r4 s.r2 = r4 by omega]
theorem down_areas (L : List RV) (hL : ∀ k, k < L.length → (rr4 (ruleAt L k)).ck = true) (h0 : isSheet (ruleAt L 0) = true) : ∀ (i : Nat) (r : R4), i < L.length → r.ck = true → areas ((downL L i r).map (·.1)) = area4 r
  | 0, r, hi, hr => by
    obtain ⟨h1, h2⟩ := sheet_meet h0 hr (hL 0 hi)
    unfold downL
    rw [if_pos h1, h2]
    simp [areas]
  | i + 1, r, hi, hr => by
    have hR := hL (i + 1) hi
    unfold downL
    by_cases hm : mt4 r (rr4 (ruleAt L (i + 1))) = true
    · rw [if_pos hm, List.map_cons]
      have hmn := mnL_ck hr (meet4_ck hm)
      have h1 := areas_flat (downL L i) (mnL r (meet4 r (rr4 (ruleAt L (i + 1))))) fun x hx => down_areas L hL h0 i x (by omega) (hmn.1 x hx)
      have h2 := mn_areas hm
      unfold areas at h1 h2 ⊢
      rw [List.map_cons, List.sum_cons, h1]
      dsimp only
      omega
    · rw [if_neg hm]
      exact down_areas L hL h0 i r (by omega) hr
/-- No address lies in both. -/
def Apart4 (a b : R4) : Prop := ∀ p q, has4 a p q = true → has4 b p q = true → False
theorem mn_apart {a b : R4} (ha : a.ck = true) (hb : b.ck = true) : (mnL a b).Pairwise Apart4 := by
  unfold mnL
  rw [ha, hb]
  simp only [Bool.and_self, if_true]
  split
  · rename_i hm
    obtain ⟨_, _, n1, n2⟩ := mt4_parts hm
    unfold some4
    refine List.Pairwise.filter _ ?_
    unfold cut4
    simp only [List.pairwise_cons, List.mem_cons, List.not_mem_nil, or_false, List.Pairwise.nil, and_true]
    refine ⟨fun x hx p q h1 h2 => ?_, fun x hx p q h1 h2 => ?_, fun x hx p q h1 h2 => ?_, fun x hx => hx.elim⟩ <;> rw [has4_iff] at h1 h2
    · rcases hx with rfl | rfl | rfl <;> dsimp only at * <;> omega
    · rcases hx with rfl | rfl <;> dsimp only at * <;> omega
    · subst hx; dsimp only at *; omega
  · exact List.pairwise_singleton ..
theorem down_apart (L : List RV) (hL : ∀ k, k < L.length → (rr4 (ruleAt L k)).ck = true) : ∀ (i : Nat) (r : R4), i < L.length → r.ck = true → (downL L i r).Pairwise fun x y => Apart4 x.1 y.1
  | 0, r, hi, hr => by
    unfold downL
    split
    · exact List.pairwise_singleton ..
    · exact List.Pairwise.nil
  | i + 1, r, hi, hr => by
    unfold downL
    by_cases hm : mt4 r (rr4 (ruleAt L (i + 1))) = true
    · rw [if_pos hm]
      have hc := meet4_ck hm
      have hmn := mnL_ck hr hc
      generalize hM : meet4 r (rr4 (ruleAt L (i + 1))) = m at *
      refine List.pairwise_cons.2 ⟨fun x hx p q h1 h2 => ?_, ?_⟩
      · obtain ⟨y, hy, hxy⟩ := List.mem_flatMap.1 hx
        have h3 := ((down_ok L hL i y (by omega) (hmn.1 y hy) x hxy).2.2 p q h2).1
        have h4 : inL (mnL r m) p q = true := inL_iff.2 ⟨y, hy, h3⟩
        rw [in_mn hr hc, h1] at h4
        simp at h4
      · rw [List.pairwise_flatMap]
        refine ⟨fun y hy => down_apart L hL i y (by omega) (hmn.1 y hy), ?_⟩
        refine (mn_apart hr hc).imp_of_mem ?_
        intro y z hy hz hyz x hx x' hx' p q h1 h2
        exact hyz p q ((down_ok L hL i y (by omega) (hmn.1 y hy) x hx).2.2 p q h1).1 ((down_ok L hL i z (by omega) (hmn.1 z hz) x' hx').2.2 p q h2).1
    · rw [if_neg hm]
      exact down_apart L hL i r (by omega) hr
end Go.Proofs.Ythgnhdfppmoooaa.Re
/- Parts of a range: the specification's Meet and Area; how many parts there are. -/
namespace Go.Proofs.Ythgnhdfppmoooaa.Re
open Go.RowKit AM
set_option linter.unusedVariables false
set_option linter.unusedSimpArgs false
def mt20 (a b : R4) : Bool := decide (a.c1 ≤ b.c2 ∧ b.c1 ≤ a.c2 ∧ a.r1 ≤ b.r2 ∧ b.r1 ≤ a.r2)
theorem mt20_apart {a b : R4} (ha : a.ck = true) (hb : b.ck = true) (h : Apart4 a b) : mt20 a b = false := by
  unfold R4.ck at ha hb
  rw [ckB_iff] at ha hb
  apply decide_eq_false
  intro hh
  refine h (max a.c1 b.c1) (max a.r1 b.r1) ?_ ?_ <;> rw [has4_iff] <;> omega
set_option maxHeartbeats 1600000 in
theorem meet20_any (a1 a2 a3 a4 b1 b2 b3 b4 : Int) (w : World) :
    Calls Try.prog 30 #[.agg #[.int .i64 a1, .int .i64 a2, .int .i64 a3, .int .i64 a4], .agg #[.int .i64 b1, .int .i64 b2, .int .i64 b3, .int .i64 b4]] w fun e w' => e = .returned (.bool (mt20 ⟨a1, a2, a3, a4⟩ ⟨b1, b2, b3, b4⟩)) ∧ Below w.heap.size w w' := by
  have HB := Lib.hid (Below.next (below_alloc w (.cells #[.int .i64 a1, .int .i64 a2, .int .i64 a3, .int .i64 a4] 23)) (below_alloc _ (.cells #[.int .i64 b1, .int .i64 b2, .int .i64 b3, .int .i64 b4] 23)))
  have HE : Hid (mt20 ⟨a1, a2, a3, a4⟩ ⟨b1, b2, b3, b4⟩ = decide (a1 ≤ b3 ∧ b1 ≤ a3 ∧ a2 ≤ b4 ∧ b2 ≤ a4)) := rfl
  generalize mt20 ⟨a1, a2, a3, a4⟩ ⟨b1, b2, b3, b4⟩ = E at *
  go_enter Try.func30, Try.ntmps30
  by_cases h1 : a1 ≤ b3
  rotate_left
  · have hE : Hid (E = false) := by rw [HE.out]; exact decide_eq_false (by omega)
    go_wp2_with fail
    go_ret
    exact ⟨retB hE.out.symm, HB.out⟩
  by_cases h2 : b1 ≤ a3
  rotate_left
  · have hE : Hid (E = false) := by rw [HE.out]; exact decide_eq_false (by omega)
    go_wp2_with fail
    go_ret
    exact ⟨retB hE.out.symm, HB.out⟩
  by_cases h3 : a2 ≤ b4
  rotate_left
  · have hE : Hid (E = false) := by rw [HE.out]; exact decide_eq_false (by omega)
    go_wp2_with fail
    go_ret
    exact ⟨retB hE.out.symm, HB.out⟩
  by_cases h4 : b2 ≤ a4
  rotate_left
  · have hE : Hid (E = false) := by rw [HE.out]; exact decide_eq_false (by omega)
    go_wp2_with fail
    go_ret
    exact ⟨retB hE.out.symm, HB.out⟩
  have hE : Hid (E = true) := by rw [HE.out]; exact decide_eq_true ⟨h1, h2, h3, h4⟩
  go_wp2_with fail
  go_ret
  exact ⟨retB hE.out.symm, HB.out⟩
theorem len_sub {α : Type} [DecidableEq α] : ∀ (l m : List α), l.Nodup → (∀ x ∈ l, x ∈ m) → l.length ≤ m.length
  | [], _, _, _ => Nat.zero_le _
  | x :: l, m, hn, h => by
    obtain ⟨h1, h2⟩ := List.nodup_cons.1 hn
    have hx := h x (List.mem_cons_self ..)
    have h3 := len_sub l (m.erase x) h2 fun y hy => (List.mem_erase_of_ne (fun e => h1 (by subst e; exact hy))).2 (h y (List.mem_cons_of_mem _ hy))
    rw [List.length_erase_of_mem hx] at h3
    have := List.length_pos_of_mem hx
    rw [List.length_cons]
    omega
/-- Where a part may begin. -/
def gridC (L : List RV) (i : Nat) (x : Int) : Prop := ∃ k, k ≤ i ∧ (x = (ruleAt L k).c1 ∨ x = (ruleAt L k).c2 + 1)
def gridR (L : List RV) (i : Nat) (x : Int) : Prop := ∃ k, k ≤ i ∧ (x = (ruleAt L k).r1 ∨ x = (ruleAt L k).r2 + 1)
theorem mn_corner {r b y : R4} (hm : mt4 r b = true) (hy : y ∈ mnL r (meet4 r b)) : (y.c1 = r.c1 ∨ y.c1 = b.c1 ∨ y.c1 = b.c2 + 1) ∧ (y.r1 = r.r1 ∨ y.r1 = b.r1 ∨ y.r1 = b.r2 + 1) := by
  have hc := meet4_ck hm
  have hr := (mt4_parts hm).1
  have hy2 := (mnL_ck hr hc).1 y hy
  have h2 := mt4_meet hm
  unfold mnL at hy
  rw [hr, hc] at hy
  simp only [Bool.and_self, if_true] at hy
  rw [if_pos h2] at hy
  have hy3 := (List.mem_filter.1 hy).1
  unfold R4.ck at hy2
  rw [ckB_iff] at hy2
  unfold cut4 meet4 at hy3
  simp only [List.mem_cons, List.not_mem_nil, or_false] at hy3
  rcases hy3 with rfl | rfl | rfl | rfl <;> dsimp only at * <;> omega
theorem down_corner (L : List RV) (hL : ∀ k, k < L.length → (rr4 (ruleAt L k)).ck = true) : ∀ (i : Nat) (r : R4), i < L.length → r.ck = true → ∀ x ∈ downL L i r, (x.1.c1 = r.c1 ∨ gridC L i x.1.c1) ∧ (x.1.r1 = r.r1 ∨ gridR L i x.1.r1)
  | 0, r, hi, hr, x, hx => by
    unfold downL at hx
    split at hx
    · simp only [List.mem_singleton] at hx
      subst hx
      unfold meet4 rr4
      dsimp only
      refine ⟨?_, ?_⟩
      · rcases (show max r.c1 (ruleAt L 0).c1 = r.c1 ∨ max r.c1 (ruleAt L 0).c1 = (ruleAt L 0).c1 by omega) with h | h
        · exact .inl h
        · exact .inr ⟨0, Nat.le_refl _, .inl h⟩
      · rcases (show max r.r1 (ruleAt L 0).r1 = r.r1 ∨ max r.r1 (ruleAt L 0).r1 = (ruleAt L 0).r1 by omega) with h | h
        · exact .inl h
        · exact .inr ⟨0, Nat.le_refl _, .inl h⟩
    · cases hx
  | i + 1, r, hi, hr, x, hx => by
    have up1 : ∀ v, gridC L i v → gridC L (i + 1) v := fun v ⟨k, hk, h⟩ => ⟨k, by omega, h⟩
    have up2 : ∀ v, gridR L i v → gridR L (i + 1) v := fun v ⟨k, hk, h⟩ => ⟨k, by omega, h⟩
    unfold downL at hx
    by_cases hm : mt4 r (rr4 (ruleAt L (i + 1))) = true
    · rw [if_pos hm] at hx
      rcases List.mem_cons.1 hx with rfl | hx
      · unfold meet4 rr4
        dsimp only
        refine ⟨?_, ?_⟩
        · rcases (show max r.c1 (ruleAt L (i + 1)).c1 = r.c1 ∨ max r.c1 (ruleAt L (i + 1)).c1 = (ruleAt L (i + 1)).c1 by omega) with h | h
          · exact .inl h
          · exact .inr ⟨i + 1, Nat.le_refl _, .inl h⟩
        · rcases (show max r.r1 (ruleAt L (i + 1)).r1 = r.r1 ∨ max r.r1 (ruleAt L (i + 1)).r1 = (ruleAt L (i + 1)).r1 by omega) with h | h
          · exact .inl h
          · exact .inr ⟨i + 1, Nat.le_refl _, .inl h⟩
      · obtain ⟨y, hy, hxy⟩ := List.mem_flatMap.1 hx
        have hyc := (mnL_ck hr (meet4_ck hm)).1 y hy
        obtain ⟨h1, h2⟩ := down_corner L hL i y (by omega) hyc x hxy
        obtain ⟨h3, h4⟩ := mn_corner hm hy
        refine ⟨?_, ?_⟩
        · rcases h1 with h1 | h1
          · rw [h1]
            rcases h3 with h3 | h3 | h3
            · exact .inl h3
            · exact .inr ⟨i + 1, Nat.le_refl _, .inl h3⟩
            · exact .inr ⟨i + 1, Nat.le_refl _, .inr h3⟩
          · exact .inr (up1 _ h1)
        · rcases h2 with h2 | h2
          · rw [h2]
            rcases h4 with h4 | h4 | h4
            · exact .inl h4
            · exact .inr ⟨i + 1, Nat.le_refl _, .inl h4⟩
            · exact .inr ⟨i + 1, Nat.le_refl _, .inr h4⟩
          · exact .inr (up2 _ h2)
    · rw [if_neg hm] at hx
      obtain ⟨h1, h2⟩ := down_corner L hL i r (by omega) hr x hx
      exact ⟨h1.imp id (up1 _), h2.imp id (up2 _)⟩
def gridL (x : Int) (f g : RV → Int) (L : List RV) (n : Nat) : List Int := x :: (List.range n).flatMap fun k => [f (ruleAt L k), g (ruleAt L k) + 1]
theorem gridL_len (x : Int) (f g : RV → Int) (L : List RV) (n : Nat) : (gridL x f g L n).length = 2 * n + 1 := by
  unfold gridL
  rw [List.length_cons, List.length_flatMap]
  simp
  induction n with
  | zero => rfl
  | succ n ih => rw [List.range_succ, List.map_append, List.sum_append]; simp; omega
theorem parts_len (L : List RV) (hL : ∀ k, k < L.length → (rr4 (ruleAt L k)).ck = true) (n : Nat) (r : R4) (hn : n < L.length) (hr : r.ck = true) : (downL L n r).length ≤ (2 * (n + 1) + 1) * (2 * (n + 1) + 1) := by
  have h1 := down_apart L hL n r hn hr
  have h2 := down_ok L hL n r hn hr
  have h3 := down_corner L hL n r hn hr
  have hnd : ((downL L n r).map fun x => (x.1.c1, x.1.r1)).Nodup := by
    rw [List.Nodup, List.pairwise_map]
    refine h1.imp_of_mem ?_
    intro x y hx hy hxy e
    injection e with e1 e2
    have h5 := ck_has (h2 x hx).1
    have h6 := ck_has (h2 y hy).1
    rw [← e1, ← e2] at h6
    exact hxy _ _ h5 h6
  have h4 := len_sub _ ((gridL r.c1 RV.c1 RV.c2 L (n + 1)).flatMap fun a => (gridL r.r1 RV.r1 RV.r2 L (n + 1)).map fun b => (a, b)) hnd fun y hy => by
    obtain ⟨x, hx, rfl⟩ := List.mem_map.1 hy
    obtain ⟨h5, h6⟩ := h3 x hx
    refine List.mem_flatMap.2 ⟨x.1.c1, ?_, List.mem_map.2 ⟨x.1.r1, ?_, rfl⟩⟩
    · rcases h5 with h5 | ⟨k, hk, h5⟩
      · rw [h5]; exact List.mem_cons_self ..
      · exact List.mem_cons_of_mem _ (List.mem_flatMap.2 ⟨k, List.mem_range.2 (by omega), by rcases h5 with h5 | h5 <;> rw [h5] <;> simp⟩)
    · rcases h6 with h6 | ⟨k, hk, h6⟩
      · rw [h6]; exact List.mem_cons_self ..
      · exact List.mem_cons_of_mem _ (List.mem_flatMap.2 ⟨k, List.mem_range.2 (by omega), by rcases h6 with h6 | h6 <;> rw [h6] <;> simp⟩)
  rw [List.length_map, List.length_flatMap] at h4
  have h7 : ∀ (l : List Int) (m : Nat), (l.map fun _ => m).sum = l.length * m := fun l m => by
    induction l with
    | nil => simp
    | cons a l ih => rw [List.map_cons, List.sum_cons, ih, List.length_cons, Nat.succ_mul]; omega
  simp only [List.length_map, gridL_len] at h4
  rw [h7, gridL_len] at h4
  exact h4
end Go.Proofs.Ythgnhdfppmoooaa.Re
/- Parts of a range: the specification's Partition, where it says yes. -/
namespace Go.Proofs.Ythgnhdfppmoooaa.Re
open Go.RowKit AM
set_option linter.unusedVariables false
set_option linter.unusedSimpArgs false
attribute [local simp] DepA isB rsAt
theorem below_drewN {n : Nat} {w w1 : World} (h : Below n w w1) (k : Nat) : Below n w (w1.drewN k) := ⟨h.os, h.tape, h.output, h.size, h.block⟩
theorem areas_take (P : List R4) (k : Nat) (hk : k < P.length) : areas (P.take (k + 1)) = areas (P.take k) + area4 P[k] := by
  rw [List.take_succ_eq_append_getElem hk, areas_app]
  simp [areas]
theorem areas_part (P : List R4) (h : ∀ r ∈ P, r.ck = true) (k : Nat) : 0 ≤ areas (P.take k) ∧ areas (P.take k) ≤ areas P := by
  have h1 := len_areas (l := P.take k) fun r hr => h r (List.mem_of_mem_take hr)
  have h2 := len_areas (l := P.drop k) fun r hr => h r (List.mem_of_mem_drop hr)
  have h3 : areas P = areas (P.take k) + areas (P.drop k) := by rw [← areas_app, List.take_append_drop]
  omega
set_option maxRecDepth 100000 in
set_option maxHeartbeats 6400000 in
theorem part20_any (r1 r2 r3 r4 m : Int) (a : Option Addr) (n cap : Nat) (P : List R4) (hn : n ≤ 1048576) (w : World) (hP : IsR w a n P)
    (h1 : ∀ j (hj : j < P.length), P[j].ck = true ∧ r1 ≤ P[j].c1 ∧ P[j].c2 ≤ r3 ∧ r2 ≤ P[j].r1 ∧ P[j].r2 ≤ r4)
    (h2 : ∀ j (hj : j + 1 < P.length), P[j].r1 < P[j + 1].r1 ∨ P[j].r1 = P[j + 1].r1 ∧ P[j].c1 < P[j + 1].c1)
    (h3 : ∀ j (hj : j < P.length) k (hk : k < j), mt20 P[k] P[j] = false)
    (h4 : areas P = m) (hm : m ≤ 1048576) :
    Calls Try.prog 13 #[.agg #[.int .i64 r1, .int .i64 r2, .int .i64 r3, .int .i64 r4], .slice a n cap, .int .i64 m] w fun e w' => e = .returned (.bool true) ∧ Below w.heap.size w w' := by
  have HP := Lib.hid hP
  have HPL := Lib.hid hP.1
  have H1 := Lib.hid h1
  have H2 := Lib.hid h2
  have H3 := Lib.hid h3
  have HAK : Hid (∀ k, 0 ≤ areas (P.take k) ∧ areas (P.take k) ≤ m) := fun k => by
    have := areas_part P (fun r hr => by obtain ⟨j, hj, rfl⟩ := List.mem_iff_getElem.1 hr; exact (h1 j hj).1) k
    omega
  have HAE : Hid (areas P = m) := h4
  clear hP h1 h2 h3 h4
  have HF := Lib.hid (Four.start w r1 r2 r3 r4 23)
  have HB := Lib.hid (below_alloc w (.cells #[.int .i64 r1, .int .i64 r2, .int .i64 r3, .int .i64 r4] 23))
  go_enter Try.func13, Try.ntmps13
  go_wp2_with fail
  generalize w.alloc (.cells #[.int .i64 r1, .int .i64 r2, .int .i64 r3, .int .i64 r4] 23) = w0 at *
  go_loopw [7, 8] (fun s i wr => ∃ k : Nat, k ≤ n ∧ i = .int .i64 (k : Int) ∧ s = .int .i64 (areas (P.take k)) ∧ Below w.heap.size w wr ∧ Hid (Four wr w.heap.size r1 r2 r3 r4)) (fun _ i _ => n - (intOf i).toNat)
  case atStart => exact ⟨0, Nat.zero_le _, rfl, rfl, HB.out, HF.out⟩
  case round =>
    obtain ⟨k, hk, rfl, rfl, hBr, HFr⟩ := hrel
    have HBr := Lib.hid hBr
    clear hBr HB HF
    by_cases hlt : k < n
    · have hkl : k < P.length := by rw [HPL.out]; exact hlt
      obtain ⟨bb, off, rfl, hrr⟩ := (HP.out.later HBr.out).2 (by omega)
      obtain ⟨c1, c2, c3, c4⟩ := hrr.2 k hkl
      have hbl := hrr.1
      obtain ⟨hck, hi1, hi2, hi3, hi4⟩ := H1.out k hkl
      have hAt := areas_take P k hkl
      have hA1 := HAK.out k
      have hA2 := HAK.out (k + 1)
      have HM3 : Hid (∀ j (hj : j < k), mt20 P[j] P[k] = false) := fun j hj => H3.out k hkl j hj
      have HM2 : Hid (∀ k' (hk' : k = k' + 1) (hl : k' < P.length), P[k'].r1 < P[k].r1 ∨ P[k'].r1 = P[k].r1 ∧ P[k'].c1 < P[k].c1) := fun k' hk' hl => by
        subst hk'
        exact H2.out k' (by omega)
      have hac : area4 P[k] = (P[k].c2 - P[k].c1 + 1) * (P[k].r2 - P[k].r1 + 1) := rfl
      have ham := area_max hck
      have hap := area_pos hck
      rw [hAt] at hA2
      have HN := Lib.hid hAt
      clear hAt
      generalize areas (P.take k) = S at *
      generalize P[k] = x at *
      obtain ⟨x1, x2, x3, x4⟩ := x
      have HCK := Lib.hid hck
      unfold R4.ck at hck
      dsimp only at *
      have hckb := hck
      rw [ckB_iff] at hck
      have e5 : IntKind.i64.wrap ((x3 - x1 + 1) * (x4 - x2 + 1)) = (x3 - x1 + 1) * (x4 - x2 + 1) := IntWalk.i64_in _ (by omega)
      have e6 : IntKind.i64.wrap (S + (x3 - x1 + 1) * (x4 - x2 + 1)) = S + (x3 - x1 + 1) * (x4 - x2 + 1) := IntWalk.i64_in _ (by omega)
      have q1 : decide (x1 < r1) = false := decide_eq_false (by omega)
      have q2 : decide (r3 < x3) = false := decide_eq_false (by omega)
      have q3 : decide (x2 < r2) = false := decide_eq_false (by omega)
      have q4 : decide (r4 < x4) = false := decide_eq_false (by omega)
      rw [hac] at HN
      clear hA1 hA2 ham hap hac
      go_wp2_with fail
      clear c1 c2 c3 c4
      have l1 := below_alloc wr (.cells #[.int .i64 x1, .int .i64 x2, .int .i64 x3, .int .i64 x4] 23)
      have HX1 := Lib.hid (Four.start wr x1 x2 x3 x4 23)
      have HF1 := Lib.hid (HFr.out.later l1)
      have HB1 := Lib.hid (Below.next HBr.out l1)
      generalize wr.alloc (.cells #[.int .i64 x1, .int .i64 x2, .int .i64 x3, .int .i64 x4] 23) = w1 at *
      generalize wr.heap.size = p at *
      clear l1
      refine (srange_any x1 x2 x3 x4 _).mono ?_
      rintro e w2 ⟨rfl, hB⟩
      have HX2 := Lib.hid (HX1.out.later hB)
      have HF2 := Lib.hid (HF1.out.later hB)
      have HB2 := Lib.hid (Below.next HB1.out hB)
      clear hB HX1 HF1 HB1
      rw [hckb]
      obtain ⟨_, f1, f2, f3, f4⟩ := HF2.out
      obtain ⟨_, y1, y2, y3, y4⟩ := HX2.out
      go_wp2_with fail
      clear q1 q2 q3 q4 e5 e6 f1 f2 f3 f4
      by_cases hk0 : 0 < k
      rotate_left
      · have g0 : decide ((0 : Int) < (k : Int)) = false := by simp; omega
        go_quiet (fail)
        clear y1 y2 y3 y4
        go_wp2_with fail
        go_loopw [10] (fun z wq => ∃ j : Nat, j ≤ k ∧ z = .int .i64 (j : Int) ∧ Below w.heap.size w wq ∧ Hid (Four wq w.heap.size r1 r2 r3 r4) ∧ Hid (Four wq p x1 x2 x3 x4)) (fun z _ => k - (intOf z).toNat)
        case atStart => exact ⟨0, Nat.zero_le _, rfl, by first | exact HB2.out | exact below_drewN HB2.out _ , by first | exact HF2.out | exact HF2.out.drewN _, by first | exact HX2.out | exact HX2.out.drewN _⟩
        case round =>
          obtain ⟨j, hj, rfl, hBj, HFj, HXj⟩ := hrel
          have HBj := Lib.hid hBj
          clear hBj
          by_cases hjk : j < k
          · have hjl : j < P.length := by omega
            have hjn : j < n := by omega
            have hmt := HM3.out j hjk
            rcases hz : P[j] with ⟨z1, z2, z3, z4⟩
            have HZ := Lib.hid hz
            rw [hz] at hmt
            have HMT : Hid (∀ W, Calls Try.prog 30 #[.agg #[.int .i64 z1, .int .i64 z2, .int .i64 z3, .int .i64 z4], .agg #[.int .i64 x1, .int .i64 x2, .int .i64 x3, .int .i64 x4]] W fun e w' => e = .returned (.bool false) ∧ Below W.heap.size W w') := fun W => (meet20_any z1 z2 z3 z4 x1 x2 x3 x4 W).mono fun e w' ⟨he, hB⟩ => ⟨by rw [he, hmt], hB⟩
            clear hz hmt
            go_wp2_with fail
            refine wp_region_seqi (fun X => Below w.heap.size w X ∧ Four X p x1 x2 x3 x4 ∧ Four X w.heap.size r1 r2 r3 r4) (fun W W2 hB ⟨h1, h2, h3⟩ => ⟨Below.next h1 hB, h2.later hB, h3.later hB⟩) (by kernel_rfl) (by kernel_rfl) (by kernel_rfl) ⟨HBj.out.drew, HXj.out, HFj.out⟩ ?_
            simp only [putsL, Act.put, List.setIfInBounds_toArray, List.set_cons_zero, List.set_cons_succ, Nat.zero_add, Nat.reduceAdd]
            refine seqi_run ?_ (fun vs W hD => (by first | rfl | (simp at hD; simp [Region.wanted, yielded, hD]))) (fun vs W hS hD => ?_) ?_
            rotate_left
            · obtain ⟨_, _, hbo, hrr⟩ := (HP.out.later hS.1).2 (by omega); cases hbo; obtain ⟨c1, c2, c3, c4⟩ := hrr.2 j hjl; have hbl := hrr.1; clear hrr; rw [HZ.out] at c1 c2 c3 c4; dsimp only at c1 c2 c3 c4; obtain ⟨_, y1, y2, y3, y4⟩ := hS.2.1; obtain _ := hS; (try simp at hD); (try simp only [hD]); (first | (go_simp; done) | (go_simp; rfl))
            simp only [List.nil_append]
            refine seqi_run ?_ (fun vs W hD => (by first | rfl | (simp at hD; simp [Region.wanted, yielded, hD]))) (fun vs W hS hD => ?_) ?_
            rotate_left
            · obtain ⟨_, _, hbo, hrr⟩ := (HP.out.later hS.1).2 (by omega); cases hbo; obtain ⟨c1, c2, c3, c4⟩ := hrr.2 j hjl; have hbl := hrr.1; clear hrr; rw [HZ.out] at c1 c2 c3 c4; dsimp only at c1 c2 c3 c4; obtain ⟨_, y1, y2, y3, y4⟩ := hS.2.1; obtain _ := hS; (try simp at hD); (try simp only [hD]); (first | (go_simp; done) | (go_simp; rfl))
            simp only [List.nil_append, List.cons_append]
            refine seqi_run ?_ (fun vs W hD => (by first | rfl | (simp at hD; simp [Region.wanted, yielded, hD]))) (fun vs W hS hD => ?_) ?_
            rotate_left
            · obtain ⟨_, _, hbo, hrr⟩ := (HP.out.later hS.1).2 (by omega); cases hbo; obtain ⟨c1, c2, c3, c4⟩ := hrr.2 j hjl; have hbl := hrr.1; clear hrr; rw [HZ.out] at c1 c2 c3 c4; dsimp only at c1 c2 c3 c4; obtain ⟨_, y1, y2, y3, y4⟩ := hS.2.1; obtain _ := hS; (try simp at hD); (try simp only [hD]); (first | (go_simp; done) | (go_simp; rfl))
            simp only [List.nil_append, List.cons_append]
            refine seqi_run ?_ (fun vs W hD => (by first | rfl | (simp at hD; simp [Region.wanted, yielded, hD]))) (fun vs W hS hD => ?_) ?_
            rotate_left
            · obtain ⟨_, _, hbo, hrr⟩ := (HP.out.later hS.1).2 (by omega); cases hbo; obtain ⟨c1, c2, c3, c4⟩ := hrr.2 j hjl; have hbl := hrr.1; clear hrr; rw [HZ.out] at c1 c2 c3 c4; dsimp only at c1 c2 c3 c4; obtain ⟨_, y1, y2, y3, y4⟩ := hS.2.1; obtain _ := hS; (try simp at hD); (try simp only [hD]); (first | (go_simp; done) | (go_simp; rfl))
            simp only [List.nil_append, List.cons_append]
            refine seqi_run ?_ (fun vs W hD => (by first | rfl | (simp at hD; simp [Region.wanted, yielded, hD]))) (fun vs W hS hD => ?_) ?_
            rotate_left
            · obtain ⟨_, _, hbo, hrr⟩ := (HP.out.later hS.1).2 (by omega); cases hbo; obtain ⟨c1, c2, c3, c4⟩ := hrr.2 j hjl; have hbl := hrr.1; clear hrr; rw [HZ.out] at c1 c2 c3 c4; dsimp only at c1 c2 c3 c4; obtain ⟨_, y1, y2, y3, y4⟩ := hS.2.1; obtain _ := hS; (try simp at hD); (try simp only [hD]); (first | (go_simp; done) | (go_simp; rfl))
            simp only [List.nil_append, List.cons_append]
            refine seqi_call (f := 30) (fun v _ => v = .bool false) (stable_val _) (fun vs => #[.agg #[.int .i64 z1, .int .i64 z2, .int .i64 z3, .int .i64 z4], .agg #[.int .i64 x1, .int .i64 x2, .int .i64 x3, .int .i64 x4]]) (fun vs W hD => (by first | rfl | (simp at hD; simp [Region.wanted, yielded, hD]))) (fun vs W hS hD => ?_) (fun vs W hS hD => ?_) ?_
            · obtain _ := hS; (try simp at hD); (try simp only [hD]); go_simp; done
            · exact (HMT.out W).mono fun e W' ⟨he, hB⟩ => ⟨⟨_, he, rfl⟩, hB⟩
            simp only [List.nil_append, List.cons_append]
            refine seqi_end fun vs W hS hv => ?_
            simp only [AllF, Nat.zero_add, Nat.reduceAdd] at hv
            obtain ⟨h0, h1, h2, h3, h4, h5, _⟩ := hv
            have HBk := Lib.hid hS.1
            have HXk := Lib.hid hS.2.1
            have HFk := Lib.hid hS.2.2
            simp only [h0, h1, h2, h3, h4, h5]
            clear h0 h1 h2 h3 h4 h5 hS
            go_wp2_with fail
            exact ⟨⟨j + 1, by omega, by go_num, HBk.out, HFk.out, HXk.out⟩, by simp [intOf]; omega⟩
          · obtain rfl : j = k := by omega
            go_wp2_with fail
            exact ⟨⟨j + 1, by omega, by go_num, by rw [HN.out], HBj.out, HFj.out⟩, by simp [intOf]; omega⟩
      obtain ⟨k', hk'⟩ : ∃ k' : Nat, k = k' + 1 := ⟨k - 1, by omega⟩
      have hk'l : k' < P.length := by omega
      have g0 : decide ((0 : Int) < (k : Int)) = true := by simp; omega
      have g1 : IntKind.i64.wrap ((k : Int) - 1) = (k' : Int) := by rw [IntWalk.i64_in _ (by omega)]; omega
      have g2 : (0 : Int) ≤ (k' : Int) := by omega
      have g3 : (k' : Int) < (n : Int) := by omega
      have hm2 := HM2.out k' hk' hk'l
      obtain ⟨_, _, hbo, hrr⟩ := (HP.out.later HB2.out).2 (by omega)
      cases hbo
      obtain ⟨c1, c2, c3, c4⟩ := hrr.2 k' hk'l
      have hbl2 := hrr.1
      clear hrr
      generalize P[k'] = v at *
      obtain ⟨v1, v2, v3, v4⟩ := v
      dsimp only at *
      rcases hm2 with hv | ⟨hv, hv2⟩
      · have g4 : decide (x2 < v2) = false := decide_eq_false (by omega)
        have g5 : (v2 == x2) = false := by simp; omega
        go_quiet (fail)
        clear c1 c2 c3 c4 g0 g1 g2 g3 g4 g5
        clear y1 y2 y3 y4
        go_wp2_with fail
        go_loopw [10] (fun z wq => ∃ j : Nat, j ≤ k ∧ z = .int .i64 (j : Int) ∧ Below w.heap.size w wq ∧ Hid (Four wq w.heap.size r1 r2 r3 r4) ∧ Hid (Four wq p x1 x2 x3 x4)) (fun z _ => k - (intOf z).toNat)
        case atStart => exact ⟨0, Nat.zero_le _, rfl, by first | exact HB2.out | exact below_drewN HB2.out _ , by first | exact HF2.out | exact HF2.out.drewN _, by first | exact HX2.out | exact HX2.out.drewN _⟩
        case round =>
          obtain ⟨j, hj, rfl, hBj, HFj, HXj⟩ := hrel
          have HBj := Lib.hid hBj
          clear hBj
          by_cases hjk : j < k
          · have hjl : j < P.length := by omega
            have hjn : j < n := by omega
            have hmt := HM3.out j hjk
            rcases hz : P[j] with ⟨z1, z2, z3, z4⟩
            have HZ := Lib.hid hz
            rw [hz] at hmt
            have HMT : Hid (∀ W, Calls Try.prog 30 #[.agg #[.int .i64 z1, .int .i64 z2, .int .i64 z3, .int .i64 z4], .agg #[.int .i64 x1, .int .i64 x2, .int .i64 x3, .int .i64 x4]] W fun e w' => e = .returned (.bool false) ∧ Below W.heap.size W w') := fun W => (meet20_any z1 z2 z3 z4 x1 x2 x3 x4 W).mono fun e w' ⟨he, hB⟩ => ⟨by rw [he, hmt], hB⟩
            clear hz hmt
            go_wp2_with fail
            refine wp_region_seqi (fun X => Below w.heap.size w X ∧ Four X p x1 x2 x3 x4 ∧ Four X w.heap.size r1 r2 r3 r4) (fun W W2 hB ⟨h1, h2, h3⟩ => ⟨Below.next h1 hB, h2.later hB, h3.later hB⟩) (by kernel_rfl) (by kernel_rfl) (by kernel_rfl) ⟨HBj.out.drew, HXj.out, HFj.out⟩ ?_
            simp only [putsL, Act.put, List.setIfInBounds_toArray, List.set_cons_zero, List.set_cons_succ, Nat.zero_add, Nat.reduceAdd]
            refine seqi_run ?_ (fun vs W hD => (by first | rfl | (simp at hD; simp [Region.wanted, yielded, hD]))) (fun vs W hS hD => ?_) ?_
            rotate_left
            · obtain ⟨_, _, hbo, hrr⟩ := (HP.out.later hS.1).2 (by omega); cases hbo; obtain ⟨c1, c2, c3, c4⟩ := hrr.2 j hjl; have hbl := hrr.1; clear hrr; rw [HZ.out] at c1 c2 c3 c4; dsimp only at c1 c2 c3 c4; obtain ⟨_, y1, y2, y3, y4⟩ := hS.2.1; obtain _ := hS; (try simp at hD); (try simp only [hD]); (first | (go_simp; done) | (go_simp; rfl))
            simp only [List.nil_append]
            refine seqi_run ?_ (fun vs W hD => (by first | rfl | (simp at hD; simp [Region.wanted, yielded, hD]))) (fun vs W hS hD => ?_) ?_
            rotate_left
            · obtain ⟨_, _, hbo, hrr⟩ := (HP.out.later hS.1).2 (by omega); cases hbo; obtain ⟨c1, c2, c3, c4⟩ := hrr.2 j hjl; have hbl := hrr.1; clear hrr; rw [HZ.out] at c1 c2 c3 c4; dsimp only at c1 c2 c3 c4; obtain ⟨_, y1, y2, y3, y4⟩ := hS.2.1; obtain _ := hS; (try simp at hD); (try simp only [hD]); (first | (go_simp; done) | (go_simp; rfl))
            simp only [List.nil_append, List.cons_append]
            refine seqi_run ?_ (fun vs W hD => (by first | rfl | (simp at hD; simp [Region.wanted, yielded, hD]))) (fun vs W hS hD => ?_) ?_
            rotate_left
            · obtain ⟨_, _, hbo, hrr⟩ := (HP.out.later hS.1).2 (by omega); cases hbo; obtain ⟨c1, c2, c3, c4⟩ := hrr.2 j hjl; have hbl := hrr.1; clear hrr; rw [HZ.out] at c1 c2 c3 c4; dsimp only at c1 c2 c3 c4; obtain ⟨_, y1, y2, y3, y4⟩ := hS.2.1; obtain _ := hS; (try simp at hD); (try simp only [hD]); (first | (go_simp; done) | (go_simp; rfl))
            simp only [List.nil_append, List.cons_append]
            refine seqi_run ?_ (fun vs W hD => (by first | rfl | (simp at hD; simp [Region.wanted, yielded, hD]))) (fun vs W hS hD => ?_) ?_
            rotate_left
            · obtain ⟨_, _, hbo, hrr⟩ := (HP.out.later hS.1).2 (by omega); cases hbo; obtain ⟨c1, c2, c3, c4⟩ := hrr.2 j hjl; have hbl := hrr.1; clear hrr; rw [HZ.out] at c1 c2 c3 c4; dsimp only at c1 c2 c3 c4; obtain ⟨_, y1, y2, y3, y4⟩ := hS.2.1; obtain _ := hS; (try simp at hD); (try simp only [hD]); (first | (go_simp; done) | (go_simp; rfl))
            simp only [List.nil_append, List.cons_append]
            refine seqi_run ?_ (fun vs W hD => (by first | rfl | (simp at hD; simp [Region.wanted, yielded, hD]))) (fun vs W hS hD => ?_) ?_
            rotate_left
            · obtain ⟨_, _, hbo, hrr⟩ := (HP.out.later hS.1).2 (by omega); cases hbo; obtain ⟨c1, c2, c3, c4⟩ := hrr.2 j hjl; have hbl := hrr.1; clear hrr; rw [HZ.out] at c1 c2 c3 c4; dsimp only at c1 c2 c3 c4; obtain ⟨_, y1, y2, y3, y4⟩ := hS.2.1; obtain _ := hS; (try simp at hD); (try simp only [hD]); (first | (go_simp; done) | (go_simp; rfl))
            simp only [List.nil_append, List.cons_append]
            refine seqi_call (f := 30) (fun v _ => v = .bool false) (stable_val _) (fun vs => #[.agg #[.int .i64 z1, .int .i64 z2, .int .i64 z3, .int .i64 z4], .agg #[.int .i64 x1, .int .i64 x2, .int .i64 x3, .int .i64 x4]]) (fun vs W hD => (by first | rfl | (simp at hD; simp [Region.wanted, yielded, hD]))) (fun vs W hS hD => ?_) (fun vs W hS hD => ?_) ?_
            · obtain _ := hS; (try simp at hD); (try simp only [hD]); go_simp; done
            · exact (HMT.out W).mono fun e W' ⟨he, hB⟩ => ⟨⟨_, he, rfl⟩, hB⟩
            simp only [List.nil_append, List.cons_append]
            refine seqi_end fun vs W hS hv => ?_
            simp only [AllF, Nat.zero_add, Nat.reduceAdd] at hv
            obtain ⟨h0, h1, h2, h3, h4, h5, _⟩ := hv
            have HBk := Lib.hid hS.1
            have HXk := Lib.hid hS.2.1
            have HFk := Lib.hid hS.2.2
            simp only [h0, h1, h2, h3, h4, h5]
            clear h0 h1 h2 h3 h4 h5 hS
            go_wp2_with fail
            exact ⟨⟨j + 1, by omega, by go_num, HBk.out, HFk.out, HXk.out⟩, by simp [intOf]; omega⟩
          · obtain rfl : j = k := by omega
            go_wp2_with fail
            exact ⟨⟨j + 1, by omega, by go_num, by rw [HN.out], HBj.out, HFj.out⟩, by simp [intOf]; omega⟩
      · subst hv
        have g4 : decide (v2 < v2) = false := decide_eq_false (by omega)
        have g5 : (v2 == v2) = true := by simp
        have g6 : decide (x1 ≤ v1) = false := decide_eq_false (by omega)
        go_quiet (fail)
        clear c1 c2 c3 c4 g0 g1 g2 g3 g4 g5 g6
        clear y1 y2 y3 y4
        go_wp2_with fail
        go_loopw [10] (fun z wq => ∃ j : Nat, j ≤ k ∧ z = .int .i64 (j : Int) ∧ Below w.heap.size w wq ∧ Hid (Four wq w.heap.size r1 r2 r3 r4) ∧ Hid (Four wq p x1 v2 x3 x4)) (fun z _ => k - (intOf z).toNat)
        case atStart => exact ⟨0, Nat.zero_le _, rfl, by first | exact HB2.out | exact below_drewN HB2.out _ , by first | exact HF2.out | exact HF2.out.drewN _, by first | exact HX2.out | exact HX2.out.drewN _⟩
        case round =>
          obtain ⟨j, hj, rfl, hBj, HFj, HXj⟩ := hrel
          have HBj := Lib.hid hBj
          clear hBj
          by_cases hjk : j < k
          · have hjl : j < P.length := by omega
            have hjn : j < n := by omega
            have hmt := HM3.out j hjk
            rcases hz : P[j] with ⟨z1, z2, z3, z4⟩
            have HZ := Lib.hid hz
            rw [hz] at hmt
            have HMT : Hid (∀ W, Calls Try.prog 30 #[.agg #[.int .i64 z1, .int .i64 z2, .int .i64 z3, .int .i64 z4], .agg #[.int .i64 x1, .int .i64 v2, .int .i64 x3, .int .i64 x4]] W fun e w' => e = .returned (.bool false) ∧ Below W.heap.size W w') := fun W => (meet20_any z1 z2 z3 z4 x1 v2 x3 x4 W).mono fun e w' ⟨he, hB⟩ => ⟨by rw [he, hmt], hB⟩
            clear hz hmt
            go_wp2_with fail
            refine wp_region_seqi (fun X => Below w.heap.size w X ∧ Four X p x1 v2 x3 x4 ∧ Four X w.heap.size r1 r2 r3 r4) (fun W W2 hB ⟨h1, h2, h3⟩ => ⟨Below.next h1 hB, h2.later hB, h3.later hB⟩) (by kernel_rfl) (by kernel_rfl) (by kernel_rfl) ⟨HBj.out.drew, HXj.out, HFj.out⟩ ?_
            simp only [putsL, Act.put, List.setIfInBounds_toArray, List.set_cons_zero, List.set_cons_succ, Nat.zero_add, Nat.reduceAdd]
            refine seqi_run ?_ (fun vs W hD => (by first | rfl | (simp at hD; simp [Region.wanted, yielded, hD]))) (fun vs W hS hD => ?_) ?_
            rotate_left
            · obtain ⟨_, _, hbo, hrr⟩ := (HP.out.later hS.1).2 (by omega); cases hbo; obtain ⟨c1, c2, c3, c4⟩ := hrr.2 j hjl; have hbl := hrr.1; clear hrr; rw [HZ.out] at c1 c2 c3 c4; dsimp only at c1 c2 c3 c4; obtain ⟨_, y1, y2, y3, y4⟩ := hS.2.1; obtain _ := hS; (try simp at hD); (try simp only [hD]); (first | (go_simp; done) | (go_simp; rfl))
            simp only [List.nil_append]
            refine seqi_run ?_ (fun vs W hD => (by first | rfl | (simp at hD; simp [Region.wanted, yielded, hD]))) (fun vs W hS hD => ?_) ?_
            rotate_left
            · obtain ⟨_, _, hbo, hrr⟩ := (HP.out.later hS.1).2 (by omega); cases hbo; obtain ⟨c1, c2, c3, c4⟩ := hrr.2 j hjl; have hbl := hrr.1; clear hrr; rw [HZ.out] at c1 c2 c3 c4; dsimp only at c1 c2 c3 c4; obtain ⟨_, y1, y2, y3, y4⟩ := hS.2.1; obtain _ := hS; (try simp at hD); (try simp only [hD]); (first | (go_simp; done) | (go_simp; rfl))
            simp only [List.nil_append, List.cons_append]
            refine seqi_run ?_ (fun vs W hD => (by first | rfl | (simp at hD; simp [Region.wanted, yielded, hD]))) (fun vs W hS hD => ?_) ?_
            rotate_left
            · obtain ⟨_, _, hbo, hrr⟩ := (HP.out.later hS.1).2 (by omega); cases hbo; obtain ⟨c1, c2, c3, c4⟩ := hrr.2 j hjl; have hbl := hrr.1; clear hrr; rw [HZ.out] at c1 c2 c3 c4; dsimp only at c1 c2 c3 c4; obtain ⟨_, y1, y2, y3, y4⟩ := hS.2.1; obtain _ := hS; (try simp at hD); (try simp only [hD]); (first | (go_simp; done) | (go_simp; rfl))
            simp only [List.nil_append, List.cons_append]
            refine seqi_run ?_ (fun vs W hD => (by first | rfl | (simp at hD; simp [Region.wanted, yielded, hD]))) (fun vs W hS hD => ?_) ?_
            rotate_left
            · obtain ⟨_, _, hbo, hrr⟩ := (HP.out.later hS.1).2 (by omega); cases hbo; obtain ⟨c1, c2, c3, c4⟩ := hrr.2 j hjl; have hbl := hrr.1; clear hrr; rw [HZ.out] at c1 c2 c3 c4; dsimp only at c1 c2 c3 c4; obtain ⟨_, y1, y2, y3, y4⟩ := hS.2.1; obtain _ := hS; (try simp at hD); (try simp only [hD]); (first | (go_simp; done) | (go_simp; rfl))
            simp only [List.nil_append, List.cons_append]
            refine seqi_run ?_ (fun vs W hD => (by first | rfl | (simp at hD; simp [Region.wanted, yielded, hD]))) (fun vs W hS hD => ?_) ?_
            rotate_left
            · obtain ⟨_, _, hbo, hrr⟩ := (HP.out.later hS.1).2 (by omega); cases hbo; obtain ⟨c1, c2, c3, c4⟩ := hrr.2 j hjl; have hbl := hrr.1; clear hrr; rw [HZ.out] at c1 c2 c3 c4; dsimp only at c1 c2 c3 c4; obtain ⟨_, y1, y2, y3, y4⟩ := hS.2.1; obtain _ := hS; (try simp at hD); (try simp only [hD]); (first | (go_simp; done) | (go_simp; rfl))
            simp only [List.nil_append, List.cons_append]
            refine seqi_call (f := 30) (fun v _ => v = .bool false) (stable_val _) (fun vs => #[.agg #[.int .i64 z1, .int .i64 z2, .int .i64 z3, .int .i64 z4], .agg #[.int .i64 x1, .int .i64 v2, .int .i64 x3, .int .i64 x4]]) (fun vs W hD => (by first | rfl | (simp at hD; simp [Region.wanted, yielded, hD]))) (fun vs W hS hD => ?_) (fun vs W hS hD => ?_) ?_
            · obtain _ := hS; (try simp at hD); (try simp only [hD]); go_simp; done
            · exact (HMT.out W).mono fun e W' ⟨he, hB⟩ => ⟨⟨_, he, rfl⟩, hB⟩
            simp only [List.nil_append, List.cons_append]
            refine seqi_end fun vs W hS hv => ?_
            simp only [AllF, Nat.zero_add, Nat.reduceAdd] at hv
            obtain ⟨h0, h1, h2, h3, h4, h5, _⟩ := hv
            have HBk := Lib.hid hS.1
            have HXk := Lib.hid hS.2.1
            have HFk := Lib.hid hS.2.2
            simp only [h0, h1, h2, h3, h4, h5]
            clear h0 h1 h2 h3 h4 h5 hS
            go_wp2_with fail
            exact ⟨⟨j + 1, by omega, by go_num, HBk.out, HFk.out, HXk.out⟩, by simp [intOf]; omega⟩
          · obtain rfl : j = k := by omega
            go_wp2_with fail
            exact ⟨⟨j + 1, by omega, by go_num, by rw [HN.out], HBj.out, HFj.out⟩, by simp [intOf]; omega⟩
    · obtain rfl : k = n := by omega
      have HT : Hid (areas (P.take k) = m) := by
        rw [List.take_of_length_le (by rw [HPL.out]; exact Nat.le_refl _)]; exact HAE.out
      rw [HT.out]
      go_wp2_with fail
      go_ret
      exact ⟨rfl, HBr.out⟩
end Go.Proofs.Ythgnhdfppmoooaa.Re
/- Parts of a range: the specification's Parts, where it says yes. -/
namespace Go.Proofs.Ythgnhdfppmoooaa.Re
open Go.RowKit AM
set_option linter.unusedVariables false
set_option linter.unusedSimpArgs false
attribute [local simp] DepA isB rsAt
end Go.Proofs.Ythgnhdfppmoooaa.Re
