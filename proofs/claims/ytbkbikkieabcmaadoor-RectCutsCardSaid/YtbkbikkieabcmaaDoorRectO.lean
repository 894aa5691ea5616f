/- Covers of both sides. -/
import Derived.Test.YtbkbikkieabcmaaDoorRectN
import Derived.Test.YtbkbikkieabcmaaDoorRow
namespace Go.Proofs.YtbkbikkieabcmaaDoor.Re
open Go.RowKit AM
theorem cells4_len (r : R4) : (cells4 r).length = 4 := rfl
theorem cells4_one (r : R4) : ∀ u ∈ cells4 r, u.oneCell' = true := by
  intro u hu; simp [cells4] at hu; rcases hu with rfl | rfl | rfl | rfl <;> rfl
theorem ownR_of {B : Nat} {w : World} {v : Value} {l : List R4} : OwnR B w v l ↔ OwnOf 23 cells4 4 B w v l := Iff.rfl
theorem isR_of {w : World} {a : Option Addr} {n : Nat} {l : List R4} (h : IsOf cells4 4 w a n l) : IsR w a n l := by
  refine ⟨h.1, fun h0 => ?_⟩
  obtain ⟨b, off, rfl, hr⟩ := h.2 h0
  exact ⟨b, off, rfl, hr.1, fun k hk => ⟨hr.2 k hk 0 _ rfl, hr.2 k hk 1 _ rfl, hr.2 k hk 2 _ rfl, hr.2 k hk 3 _ rfl⟩⟩
theorem of_isR {w : World} {a : Option Addr} {n : Nat} {l : List R4} (h : IsR w a n l) : IsOf cells4 4 w a n l := by
  refine ⟨h.1, fun h0 => ?_⟩
  obtain ⟨b, off, rfl, hr⟩ := h.2 h0
  refine ⟨b, off, rfl, hr.1, fun k hk j v hv => ?_⟩
  obtain ⟨c1, c2, c3, c4⟩ := hr.2 k hk
  match j, hv with
  | 0, hv => simp [cells4] at hv; subst hv; exact c1
  | 1, hv => simp [cells4] at hv; subst hv; exact c2
  | 2, hv => simp [cells4] at hv; subst hv; exact c3
  | 3, hv => simp [cells4] at hv; subst hv; exact c4
  | (j + 4), hv => simp [cells4] at hv
/-! What is left -/
def goneL (left : List R4) (b : R4) : List R4 := left.flatMap fun a => mnL a b
def leftL (r : R4) (l : List R4) : List R4 := l.foldl goneL [r]
def area4 (r : R4) : Int := (r.c2 - r.c1 + 1) * (r.r2 - r.r1 + 1)
def areas (l : List R4) : Int := (l.map area4).sum
theorem area_pos {r : R4} (h : r.ck = true) : 1 ≤ area4 r := by
  unfold R4.ck at h
  rw [ckB_iff] at h
  unfold area4
  have h1 : 1 ≤ r.c2 - r.c1 + 1 := by omega
  have h2 : 1 ≤ r.r2 - r.r1 + 1 := by omega
  calc (1 : Int) = 1 * 1 := rfl
    _ ≤ (r.c2 - r.c1 + 1) * (r.r2 - r.r1 + 1) := Int.mul_le_mul h1 h2 (by decide) (by omega)
theorem len_areas {l : List R4} (h : ∀ r ∈ l, r.ck = true) : (l.length : Int) ≤ areas l := by
  induction l with
  | nil => simp [areas]
  | cons r l ih =>
    have h1 := area_pos (h r (List.mem_cons_self ..))
    have h2 := ih fun x hx => h x (List.mem_cons_of_mem _ hx)
    unfold areas at *
    simp only [List.map_cons, List.sum_cons, List.length_cons]
    omega
theorem areas_app (l m : List R4) : areas (l ++ m) = areas l + areas m := by unfold areas; simp
theorem areas_some {l : List R4} (h : ∀ r ∈ l, r.em = true → area4 r = 0) : areas (some4 l) = areas l := by
  induction l with
  | nil => rfl
  | cons r l ih =>
    have h1 := ih fun x hx => h x (List.mem_cons_of_mem _ hx)
    have h2 := h r (List.mem_cons_self ..)
    unfold some4 areas at *
    rw [List.filter_cons]
    cases he : r.em
    · simp only [Bool.not_false, if_true, List.map_cons, List.sum_cons]; rw [h1]
    · simp only [Bool.not_true, Bool.false_eq_true, if_false, List.map_cons, List.sum_cons]; rw [h1, h2 he]; omega
theorem area_sum (W A X Y mh B mw H : Int) (h1 : X + Y = W - mw) (h2 : A + mh + B = H) (h3 : 0 ≤ mw) (h4 : 0 ≤ mh) : W * A + (X * mh + (Y * mh + (W * B + 0))) ≤ W * H := by
  have e1 : X * mh + Y * mh = W * mh - mw * mh := by rw [← Int.add_mul, h1, Int.sub_mul]
  have e2 : W * H = W * A + W * mh + W * B := by rw [← h2, Int.mul_add, Int.mul_add]
  have e3 : 0 ≤ mw * mh := Int.mul_nonneg h3 h4
  omega
theorem zero_l {a b : Int} (h : a = 0) : a * b = 0 := by rw [h, Int.zero_mul]
theorem zero_r {a b : Int} (h : b = 0) : a * b = 0 := by rw [h, Int.mul_zero]
theorem some4_ck {a b : R4} (ha : a.ck = true) (hb : b.ck = true) (hm : mt4 a b = true) : (∀ r ∈ some4 (cut4 a b), r.ck = true) ∧ areas (some4 (cut4 a b)) ≤ area4 a := by
  obtain ⟨a1, a2, a3, a4⟩ := a
  obtain ⟨b1, b2, b3, b4⟩ := b
  unfold R4.ck at ha hb
  rw [ckB_iff] at ha hb
  have hem : emB (max a1 b1) (max a2 b2) (min a3 b3) (min a4 b4) = false := by
    unfold mt4 mtB at hm
    simp only [Bool.and_eq_true, Bool.not_eq_true'] at hm
    exact hm.1
  have hne : max a1 b1 ≤ min a3 b3 ∧ max a2 b2 ≤ min a4 b4 := by
    unfold emB at hem
    have := of_decide_eq_false hem
    omega
  dsimp only at *
  constructor
  · intro r hr
    unfold some4 at hr
    obtain ⟨h1, h2⟩ := List.mem_filter.1 hr
    have hE : ¬ (r.c2 < r.c1 ∨ r.r2 < r.r1) := by
      unfold R4.em emB at h2
      simpa using h2
    unfold R4.ck
    rw [ckB_iff]
    unfold cut4 at h1
    simp only [List.mem_cons, List.not_mem_nil, or_false] at h1
    rcases h1 with rfl | rfl | rfl | rfl <;> dsimp only at * <;> omega
  · rw [areas_some]
    · unfold cut4 areas area4
      simp only [List.map_cons, List.map_nil, List.sum_cons, List.sum_nil]
      have := area_sum (a3 - a1 + 1) (max a2 b2 - a2) (max a1 b1 - a1) (a3 - min a3 b3) (min a4 b4 - max a2 b2 + 1) (a4 - min a4 b4) (min a3 b3 - max a1 b1 + 1) (a4 - a2 + 1) (by omega) (by omega) (by omega) (by omega)
      rw [show max a2 b2 - 1 - a2 + 1 = max a2 b2 - a2 by omega, show max a1 b1 - 1 - a1 + 1 = max a1 b1 - a1 by omega, show a3 - (min a3 b3 + 1) + 1 = a3 - min a3 b3 by omega, show a4 - (min a4 b4 + 1) + 1 = a4 - min a4 b4 by omega]
      exact this
    · intro r hr hE
      unfold R4.em emB at hE
      have hE2 := of_decide_eq_true hE
      unfold cut4 at hr
      simp only [List.mem_cons, List.not_mem_nil, or_false] at hr
      unfold area4
      rcases hr with rfl | rfl | rfl | rfl <;> dsimp only at *
      · exact zero_r (by omega)
      · exact zero_l (by omega)
      · exact zero_l (by omega)
      · exact zero_r (by omega)
theorem mnL_ck {a b : R4} (ha : a.ck = true) (hb : b.ck = true) : (∀ r ∈ mnL a b, r.ck = true) ∧ areas (mnL a b) ≤ area4 a := by
  unfold mnL
  rw [ha, hb]
  simp only [Bool.and_self, if_true]
  split
  · rename_i h; exact some4_ck ha hb h
  · exact ⟨fun r hr => by simp at hr; subst hr; exact ha, by simp [areas]⟩
theorem gone_ck {left : List R4} {b : R4} (hl : ∀ r ∈ left, r.ck = true) (hb : b.ck = true) : (∀ r ∈ goneL left b, r.ck = true) ∧ areas (goneL left b) ≤ areas left := by
  induction left with
  | nil => exact ⟨fun r hr => by simp [goneL] at hr, by simp [goneL, areas]⟩
  | cons a l ih =>
    obtain ⟨h1, h2⟩ := ih fun r hr => hl r (List.mem_cons_of_mem _ hr)
    obtain ⟨h3, h4⟩ := mnL_ck (hl a (List.mem_cons_self ..)) hb
    have e : goneL (a :: l) b = mnL a b ++ goneL l b := by unfold goneL; rw [List.flatMap_cons]
    rw [e]
    refine ⟨fun r hr => ?_, ?_⟩
    · rcases List.mem_append.1 hr with hr | hr
      · exact h3 r hr
      · exact h1 r hr
    · rw [areas_app]
      have : areas (a :: l) = area4 a + areas l := by unfold areas; simp
      omega
theorem left_ck {r : R4} {l : List R4} (hr : r.ck = true) (hl : ∀ b ∈ l, b.ck = true) : (∀ x ∈ leftL r l, x.ck = true) ∧ areas (leftL r l) ≤ area4 r := by
  have key : ∀ (l : List R4) (s : List R4), (∀ b ∈ l, b.ck = true) → (∀ x ∈ s, x.ck = true) → (∀ x ∈ l.foldl goneL s, x.ck = true) ∧ areas (l.foldl goneL s) ≤ areas s := by
    intro l
    induction l with
    | nil => intro s _ hs; exact ⟨hs, Int.le_refl _⟩
    | cons b l ih =>
      intro s hl hs
      obtain ⟨h1, h2⟩ := gone_ck hs (hl b (List.mem_cons_self ..))
      obtain ⟨h3, h4⟩ := ih (goneL s b) (fun x hx => hl x (List.mem_cons_of_mem _ hx)) h1
      exact ⟨h3, by rw [List.foldl_cons]; omega⟩
  have := key l [r] hl (fun x hx => by simp at hx; subst hx; exact hr)
  unfold leftL
  refine ⟨this.1, ?_⟩
  have e : areas [r] = area4 r := by simp [areas]
  omega
theorem area_max {r : R4} (h : r.ck = true) : area4 r ≤ 1048576 := by
  unfold R4.ck at h
  rw [ckB_iff] at h
  unfold area4
  calc (r.c2 - r.c1 + 1) * (r.r2 - r.r1 + 1) ≤ 1024 * 1024 := Int.mul_le_mul (by omega) (by omega) (by omega) (by decide)
    _ = 1048576 := rfl
theorem left_len {r : R4} {l : List R4} (hr : r.ck = true) (hl : ∀ b ∈ l, b.ck = true) : (leftL r l).length ≤ 1048576 := by
  obtain ⟨h1, h2⟩ := left_ck hr hl
  have := len_areas h1
  have := area_max hr
  omega
theorem infoRect4 : (Tryd.prog.info? 23).map (fun i => (i.zero, i.size, i.bytes)) = some (some (.agg #[.int .i64 0, .int .i64 0, .int .i64 0, .int .i64 0]), 4, 32) := by kernel_rfl
theorem zero4 : (Value.agg #[.int .i64 0, .int .i64 0, .int .i64 0, .int .i64 0]).cells.size = 4 := rfl
theorem gone_take (left : List R4) (b : R4) (k : Nat) (h : k < left.length) : goneL (left.take (k + 1)) b = goneL (left.take k) b ++ mnL left[k] b := by
  unfold goneL; rw [List.take_succ_eq_append_getElem h, List.flatMap_append]; simp
theorem gone_len {left : List R4} {b : R4} (hl : ∀ r ∈ left, r.ck = true) (hb : b.ck = true) (hn : areas left ≤ 1048576) (k : Nat) : (goneL (left.take k) b).length ≤ 1048576 := by
  have h1 : ∀ r ∈ left.take k, r.ck = true := fun r hr => hl r (List.mem_of_mem_take hr)
  obtain ⟨h2, h3⟩ := gone_ck h1 hb
  have h4 := len_areas h2
  have h5 : areas (left.take k) ≤ areas left := by
    have e : areas left = areas (left.take k) + areas (left.drop k) := by rw [← areas_app, List.take_append_drop]
    have : 0 ≤ areas (left.drop k) := by
      have := len_areas (l := left.drop k) fun r hr => hl r (List.mem_of_mem_drop hr)
      omega
    omega
  omega
/-- What is left: nothing as yet, or a list of the call's own. -/
def RestV (B : Nat) (w : World) (v : Value) (L : List R4) : Prop := (∃ ao, v = .slice ao 0 0 ∧ L = []) ∨ OwnR B w v L
theorem RestV.later {w w1 : World} {v : Value} {l : List R4} {B : Nat} (h : RestV B w v l) (hb : Below w.heap.size w w1) : RestV B w1 v l := h.imp id fun h => h.later hb
theorem RestV.isR {B : Nat} {w : World} {v : Value} {l : List R4} (h : RestV B w v l) : ∃ a cap, v = .slice a l.length cap ∧ IsR w a l.length l := by
  rcases h with ⟨ao, rfl, rfl⟩ | h
  · exact ⟨ao, 0, rfl, rfl, fun h => absurd h (by decide)⟩
  · exact h.isR
theorem RestV.lower {w : World} {B B' : Nat} {v : Value} {l : List R4} (h : RestV B w v l) (hB : B' ≤ B) : RestV B' w v l := h.imp id fun h => h.lower hB
theorem wpList_appRest {ops : Array Oper} {rest : List Oper} {o : Oper} {a : Act} {w : World} {Q : Exit → Act → World → Prop} (hgd : o.guard = none) (s x : Operand)
    (ho : o.op = .call { callee := .builtin .append, args := #[s, x], argTypes := #[36, 36] }) (B : Nat) (v : Value) (L : List R4) (hs : a.eval s = v) (hown : RestV B w v L)
    (A : Option Addr) (m cp : Nat) (M : List R4) (hx : a.eval x = .slice A m cp) (hM : IsR w A m M) (hl : L.length + m ≤ 4194304) (hB : B ≤ w.heap.size)
    (h : ∀ v' w', RestV B w' v' (L ++ M) → Below B w w' → wpList Tryd.prog ops Q rest (a.put o.dst v') w') : wpList Tryd.prog ops Q (o :: rest) a w := by
  rcases hown with ⟨ao, rfl, rfl⟩ | hown
  · by_cases hm : m = 0
    · subst hm
      have hM0 : M = [] := List.eq_nil_of_length_eq_zero hM.1
      subst hM0
      obtain ⟨i0, hi, hz0, hz1, hz2⟩ := info_parts infoRect4
      refine wpList_plain hgd fun K hK => ?_
      have hrun : (Builtin.append_ #[36, 36] o.type #[.slice ao 0 0, .slice A 0 cp]).run Tryd.prog w = .ok (.slice ao 0 0) w := by
        cases ao <;> cases A <;> simp [Builtin.append_, run_underlying Tryd.underlying36, sizeOf, typeInfo, hi, Builtin.lenOf, Builtin.firstCells, storeCells, loadCells, loadCellsFrom]
      unfold Oper.wp
      simp [execOp, ho, resolve, invoke, builtin, hs, hx, hrun, Result.andThen]
      exact hK _ _ (h _ w (.inl ⟨ao, rfl, rfl⟩) (Below.refl _ _))
    · obtain ⟨i0, hi, hz0, hz1, hz2⟩ := info_parts infoRect4
      have hR := IsOf.reads cells4_len (of_isR hM)
      obtain ⟨ad, rfl, _, hc⟩ := hR.2 (by omega)
      refine wpList_append_grows w hgd s x 36 ho 23 i0 _ 4 32 Tryd.underlying36 hi hz0 hz1 hz2 zero4 (by decide) ao 0 0 [] hs (fun _ => ⟨rfl, rfl⟩) rfl (fun _ _ j u hj => by simp at hj) ad m cp (M.flatMap cells4) hx hR.1 hc ?_ (by omega) (by unfold maxLen; omega) (by omega) ?_
      · intro u hu
        obtain ⟨y, _, hy⟩ := List.mem_flatMap.1 hu
        exact cells4_one y u hy
      · intro v' w' ho' hg
        refine h v' w' (.inr (OwnR.lower (B := w.heap.size) ?_ hB)) ((Below.refl _ _).grown hg hB (fun k hk => by cases hk))
        unfold OwnR
        rw [List.length_append, hM.1]
        exact ho'
  · refine wpList_appOf hgd s x 36 ho Tryd.underlying36 _ 32 infoRect4 zero4 (by decide) (by decide) cells4_len cells4_one B v L hs hown A m cp M hx (of_isR hM) (by omega) hB ?_
    intro v' w' ho' hb'
    exact h v' w' (.inr ho') hb'
theorem Four.keep {w w' : World} {p n : Nat} {a b c d : Int} (h : Four w p a b c d) (hB : Below n w w') (hp : p < n) : Four w' p a b c d := by
  obtain ⟨h0, h1, h2, h3, h4⟩ := h
  have hc : ∀ o, w'.cell? ⟨p, o, none⟩ = w.cell? ⟨p, o, none⟩ := fun o => hB.cell (p := ⟨p, o, none⟩) hp
  exact ⟨Nat.lt_of_lt_of_le h0 hB.size, by rw [hc]; exact h1, by rw [hc]; exact h2, by rw [hc]; exact h3, by rw [hc]; exact h4⟩
end Go.Proofs.YtbkbikkieabcmaaDoor.Re
