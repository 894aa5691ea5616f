/- Merged: RectO RectU RectV. -/
import Derived.Test.YthgnhdfppmoooaaMrect
import Derived.Test.YthgnhdfppmoooaaMseq
/- Covers of both sides. -/
namespace Go.Proofs.Ythgnhdfppmoooaa.Re
open Go.RowKit AM
theorem cells4_len (r : R4) : (cells4 r).length = 4 := rfl
theorem cells4_one (r : R4) : ∀ u ∈ cells4 r, u.oneCell' = true := by
  intro u hu; simp [cells4] at hu; rcases hu with rfl | rfl | rfl | rfl <;> rfl
theorem ownR_of {B : Nat} {w : World} {v : Value} {l : List R4} : OwnR B w v l ↔ OwnOf 23 cells4 4 B w v l := Iff.rfl
theorem isR_of {w : World} {a : Option Addr} {n : Nat} {l : List R4} (h : IsOf cells4 4 w a n l) : IsR w a n l := by
  refine ⟨h.1, fun h0 => ?_⟩
  obtain ⟨b, off, rfl, hr⟩ := h.2 h0
  exact ⟨b, off, rfl, hr.1, fun k hk => ⟨hr.2 k hk 0 _ rfl, hr.2 k hk 1 _ rfl, hr.2 k hk 2 _ rfl, hr.2 k hk 3 _ rfl⟩⟩
theorem of_isR {w : World} {a : Option Addr} {n : Nat} {l : List R4} (h : IsR w a n l) : IsOf cells4 4 w a n l := by
  refine ⟨h.1, fun h0 => ?_⟩
  obtain ⟨b, off, rfl, hr⟩ := h.2 h0
  refine ⟨b, off, rfl, hr.1, fun k hk j v hv => ?_⟩
  obtain ⟨c1, c2, c3, c4⟩ := hr.2 k hk
  match j, hv with
  | 0, hv => simp [cells4] at hv; subst hv; exact c1
  | 1, hv => simp [cells4] at hv; subst hv; exact c2
  | 2, hv => simp [cells4] at hv; subst hv; exact c3
  | 3, hv => simp [cells4] at hv; subst hv; exact c4
  | (j + 4), hv => simp [cells4] at hv
/-! What is left -/
def goneL (left : List R4) (b : R4) : List R4 := left.flatMap fun a => mnL a b
def leftL (r : R4) (l : List R4) : List R4 := l.foldl goneL [r]
def area4 (r : R4) : Int := (r.c2 - r.c1 + 1) * (r.r2 - r.r1 + 1)
def areas (l : List R4) : Int := (l.map area4).sum
theorem area_pos {r : R4} (h : r.ck = true) : 1 ≤ area4 r := by
  unfold R4.ck at h
  rw [ckB_iff] at h
  unfold area4
  have h1 : 1 ≤ r.c2 - r.c1 + 1 := by omega
  have h2 : 1 ≤ r.r2 - r.r1 + 1 := by omega
  calc (1 : Int) = 1 * 1 := rfl
    _ ≤ (r.c2 - r.c1 + 1) * (r.r2 - r.r1 + 1) := Int.mul_le_mul h1 h2 (by decide) (by omega)
theorem len_areas {l : List R4} (h : ∀ r ∈ l, r.ck = true) : (l.length : Int) ≤ areas l := by
  induction l with
  | nil => simp [areas]
  | cons r l ih =>
    have h1 := area_pos (h r (List.mem_cons_self ..))
    have h2 := ih fun x hx => h x (List.mem_cons_of_mem _ hx)
    unfold areas at *
    simp only [List.map_cons, List.sum_cons, List.length_cons]
    omega
theorem areas_app (l m : List R4) : areas (l ++ m) = areas l + areas m := by unfold areas; simp
theorem areas_some {l : List R4} (h : ∀ r ∈ l, r.em = true → area4 r = 0) : areas (some4 l) = areas l := by
  induction l with
  | nil => rfl
  | cons r l ih =>
    have h1 := ih fun x hx => h x (List.mem_cons_of_mem _ hx)
    have h2 := h r (List.mem_cons_self ..)
    unfold some4 areas at *
    rw [List.filter_cons]
    cases he : r.em
    · simp only [Bool.not_false, if_true, List.map_cons, List.sum_cons]; rw [h1]
    · simp only [Bool.not_true, Bool.false_eq_true, if_false, List.map_cons, List.sum_cons]; rw [h1, h2 he]; omega
theorem area_sum (W A X Y mh B mw H : Int) (h1 : X + Y = W - mw) (h2 : A + mh + B = H) (h3 : 0 ≤ mw) (h4 : 0 ≤ mh) : W * A + (X * mh + (Y * mh + (W * B + 0))) ≤ W * H := by
  have e1 : X * mh + Y * mh = W * mh - mw * mh := by rw [← Int.add_mul, h1, Int.sub_mul]
  have e2 : W * H = W * A + W * mh + W * B := by rw [← h2, Int.mul_add, Int.mul_add]
  have e3 : 0 ≤ mw * mh := Int.mul_nonneg h3 h4
  omega
theorem zero_l {a b : Int} (h : a = 0) : a * b = 0 := by rw [h, Int.zero_mul]
theorem zero_r {a b : Int} (h : b = 0) : a * b = 0 := by rw [h, Int.mul_zero]
theorem some4_ck {a b : R4} (ha : a.ck = true) (hb : b.ck = true) (hm : mt4 a b = true) : (∀ r ∈ some4 (cut4 a b), r.ck = true) ∧ areas (some4 (cut4 a b)) ≤ area4 a := by
  obtain ⟨a1, a2, a3, a4⟩ := a
  obtain ⟨b1, b2, b3, b4⟩ := b
  unfold R4.ck at ha hb
  rw [ckB_iff] at ha hb
  have hem : emB (max a1 b1) (max a2 b2) (min a3 b3) (min a4 b4) = false := by
    unfold mt4 mtB at hm
    simp only [Bool.and_eq_true, Bool.not_eq_true'] at hm
    exact hm.1
  have hne : max a1 b1 ≤ min a3 b3 ∧ max a2 b2 ≤ min a4 b4 := by
    unfold emB at hem
    have := of_decide_eq_false hem
    omega
  dsimp only at *
  constructor
  · intro r hr
    unfold some4 at hr
    obtain ⟨h1, h2⟩ := List.mem_filter.1 hr
    have hE : ¬ (r.c2 < r.c1 ∨ r.r2 < r.r1) := by
      unfold R4.em emB at h2
      simpa using h2
    unfold R4.ck
    rw [ckB_iff]
    unfold cut4 at h1
    simp only [List.mem_cons, List.not_mem_nil, or_false] at h1
    rcases h1 with rfl | rfl | rfl | rfl <;> dsimp only at * <;> omega
  · rw [areas_some]
    · unfold cut4 areas area4
      simp only [List.map_cons, List.map_nil, List.sum_cons, List.sum_nil]
      have := area_sum (a3 - a1 + 1) (max a2 b2 - a2) (max a1 b1 - a1) (a3 - min a3 b3) (min a4 b4 - max a2 b2 + 1) (a4 - min a4 b4) (min a3 b3 - max a1 b1 + 1) (a4 - a2 + 1) (by omega) (by omega) (by omega) (by omega)
      rw [show max a2 b2 - 1 - a2 + 1 = max a2 b2 - a2 by omega, show max a1 b1 - 1 - a1 + 1 = max a1 b1 - a1 by omega, show a3 - (min a3 b3 + 1) + 1 = a3 - min a3 b3 by omega, show a4 - (min a4 b4 + 1) + 1 = a4 - min a4 b4 by omega]
      exact this
    · intro r hr hE
      unfold R4.em emB at hE
      have hE2 := of_decide_eq_true hE
      unfold cut4 at hr
      simp only [List.mem_cons, List.not_mem_nil, or_false] at hr
      unfold area4
      rcases hr with rfl | rfl | rfl | rfl <;> dsimp only at *
      · exact zero_r (by omega)
      · exact zero_l (by omega)
      · exact zero_l (by omega)
      · exact zero_r (by omega)
theorem mnL_ck {a b : R4} (ha : a.ck = true) (hb : b.ck = true) : (∀ r ∈ mnL a b, r.ck = true) ∧ areas (mnL a b) ≤ area4 a := by
  unfold mnL
  rw [ha, hb]
  simp only [Bool.and_self, if_true]
  split
  · rename_i h; exact some4_ck ha hb h
  · exact ⟨fun r hr => by simp at hr; subst hr; exact ha, by simp [areas]⟩
theorem gone_ck {left : List R4} {b : R4} (hl : ∀ r ∈ left, r.ck = true) (hb : b.ck = true) : (∀ r ∈ goneL left b, r.ck = true) ∧ areas (goneL left b) ≤ areas left := by
  induction left with
  | nil => exact ⟨fun r hr => by simp [goneL] at hr, by simp [goneL, areas]⟩
  | cons a l ih =>
    obtain ⟨h1, h2⟩ := ih fun r hr => hl r (List.mem_cons_of_mem _ hr)
    obtain ⟨h3, h4⟩ := mnL_ck (hl a (List.mem_cons_self ..)) hb
    have e : goneL (a :: l) b = mnL a b ++ goneL l b := by unfold goneL; rw [List.flatMap_cons]
    rw [e]
    refine ⟨fun r hr => ?_, ?_⟩
    · rcases List.mem_append.1 hr with hr | hr
      · exact h3 r hr
      · exact h1 r hr
    · rw [areas_app]
      have : areas (a :: l) = area4 a + areas l := by unfold areas; simp
      omega
theorem left_ck {r : R4} {l : List R4} (hr : r.ck = true) (hl : ∀ b ∈ l, b.ck = true) : (∀ x ∈ leftL r l, x.ck = true) ∧ areas (leftL r l) ≤ area4 r := by
  have key : ∀ (l : List R4) (s : List R4), (∀ b ∈ l, b.ck = true) → (∀ x ∈ s, x.ck = true) → (∀ x ∈ l.foldl goneL s, x.ck = true) ∧ areas (l.foldl goneL s) ≤ areas s := by
    intro l
    induction l with
    | nil => intro s _ hs; exact ⟨hs, Int.le_refl _⟩
    | cons b l ih =>
      intro s hl hs
      obtain ⟨h1, h2⟩ := gone_ck hs (hl b (List.mem_cons_self ..))
      obtain ⟨h3, h4⟩ := ih (goneL s b) (fun x hx => hl x (List.mem_cons_of_mem _ hx)) h1
      exact ⟨h3, by rw [List.foldl_cons]; omega⟩
  have := key l [r] hl (fun x hx => by simp at hx; subst hx; exact hr)
  unfold leftL
  refine ⟨this.1, ?_⟩
  have e : areas [r] = area4 r := by simp [areas]
  omega
theorem area_max {r : R4} (h : r.ck = true) : area4 r ≤ 1048576 := by
  unfold R4.ck at h
  rw [ckB_iff] at h
  unfold area4
  calc (r.c2 - r.c1 + 1) * (r.r2 - r.r1 + 1) ≤ 1024 * 1024 := Int.mul_le_mul (by omega) (by omega) (by omega) (by decide)
    _ = 1048576 := rfl
theorem left_len {r : R4} {l : List R4} (hr : r.ck = true) (hl : ∀ b ∈ l, b.ck = true) : (leftL r l).length ≤ 1048576 := by
  obtain ⟨h1, h2⟩ := left_ck hr hl
  have := len_areas h1
  have := area_max hr
  omega
theorem infoRect4 : (Try.prog.info? 23).map (fun i => (i.zero, i.size, i.bytes)) = some (some (.agg #[.int .i64 0, .int .i64 0, .int .i64 0, .int .i64 0]), 4, 32) := by kernel_rfl
theorem zero4 : (Value.agg #[.int .i64 0, .int .i64 0, .int .i64 0, .int .i64 0]).cells.size = 4 := rfl
theorem gone_take (left : List R4) (b : R4) (k : Nat) (h : k < left.length) : goneL (left.take (k + 1)) b = goneL (left.take k) b ++ mnL left[k] b := by
  unfold goneL; rw [List.take_succ_eq_append_getElem h, List.flatMap_append]; simp
theorem gone_len {left : List R4} {b : R4} (hl : ∀ r ∈ left, r.ck = true) (hb : b.ck = true) (hn : areas left ≤ 1048576) (k : Nat) : (goneL (left.take k) b).length ≤ 1048576 := by
  have h1 : ∀ r ∈ left.take k, r.ck = true := fun r hr => hl r (List.mem_of_mem_take hr)
  obtain ⟨h2, h3⟩ := gone_ck h1 hb
  have h4 := len_areas h2
  have h5 : areas (left.take k) ≤ areas left := by
    have e : areas left = areas (left.take k) + areas (left.drop k) := by rw [← areas_app, List.take_append_drop]
    have : 0 ≤ areas (left.drop k) := by
      have := len_areas (l := left.drop k) fun r hr => hl r (List.mem_of_mem_drop hr)
      omega
    omega
  omega
/-- What is left: nothing as yet, or a list of the call's own. -/
def RestV (B : Nat) (w : World) (v : Value) (L : List R4) : Prop := (∃ ao, v = .slice ao 0 0 ∧ L = []) ∨ OwnR B w v L
theorem RestV.later {w w1 : World} {v : Value} {l : List R4} {B : Nat} (h : RestV B w v l) (hb : Below w.heap.size w w1) : RestV B w1 v l := h.imp id fun h => h.later hb
theorem RestV.isR {B : Nat} {w : World} {v : Value} {l : List R4} (h : RestV B w v l) : ∃ a cap, v = .slice a l.length cap ∧ IsR w a l.length l := by
  rcases h with ⟨ao, rfl, rfl⟩ | h
  · exact ⟨ao, 0, rfl, rfl, fun h => absurd h (by decide)⟩
  · exact h.isR
theorem RestV.lower {w : World} {B B' : Nat} {v : Value} {l : List R4} (h : RestV B w v l) (hB : B' ≤ B) : RestV B' w v l := h.imp id fun h => h.lower hB
theorem wpList_appRest {ops : Array Oper} {rest : List Oper} {o : Oper} {a : Act} {w : World} {Q : Exit → Act → World → Prop} (hgd : o.guard = none) (s x : Operand)
    (ho : o.op = .call { callee := .builtin .append, args := #[s, x], argTypes := #[27, 27] }) (B : Nat) (v : Value) (L : List R4) (hs : a.eval s = v) (hown : RestV B w v L)
    (A : Option Addr) (m cp : Nat) (M : List R4) (hx : a.eval x = .slice A m cp) (hM : IsR w A m M) (hl : L.length + m ≤ 4194304) (hB : B ≤ w.heap.size)
    (h : ∀ v' w', RestV B w' v' (L ++ M) → Below B w w' → wpList Try.prog ops Q rest (a.put o.dst v') w') : wpList Try.prog ops Q (o :: rest) a w := by
  rcases hown with ⟨ao, rfl, rfl⟩ | hown
  · by_cases hm : m = 0
    · subst hm
      have hM0 : M = [] := List.eq_nil_of_length_eq_zero hM.1
      subst hM0
      obtain ⟨i0, hi, hz0, hz1, hz2⟩ := info_parts infoRect4
      refine wpList_plain hgd fun K hK => ?_
      have hrun : (Builtin.append_ #[27, 27] o.type #[.slice ao 0 0, .slice A 0 cp]).run Try.prog w = .ok (.slice ao 0 0) w := by
        cases ao <;> cases A <;> simp [Builtin.append_, run_underlying Try.underlying27, sizeOf, typeInfo, hi, Builtin.lenOf, Builtin.firstCells, storeCells, loadCells, loadCellsFrom]
      unfold Oper.wp
      simp [execOp, ho, resolve, invoke, builtin, hs, hx, hrun, Result.andThen]
      exact hK _ _ (h _ w (.inl ⟨ao, rfl, rfl⟩) (Below.refl _ _))
    · obtain ⟨i0, hi, hz0, hz1, hz2⟩ := info_parts infoRect4
      have hR := IsOf.reads cells4_len (of_isR hM)
      obtain ⟨ad, rfl, _, hc⟩ := hR.2 (by omega)
      refine wpList_append_grows w hgd s x 27 ho 23 i0 _ 4 32 Try.underlying27 hi hz0 hz1 hz2 zero4 (by decide) ao 0 0 [] hs (fun _ => ⟨rfl, rfl⟩) rfl (fun _ _ j u hj => by simp at hj) ad m cp (M.flatMap cells4) hx hR.1 hc ?_ (by omega) (by unfold maxLen; omega) (by omega) ?_
      · intro u hu
        obtain ⟨y, _, hy⟩ := List.mem_flatMap.1 hu
        exact cells4_one y u hy
      · intro v' w' ho' hg
        refine h v' w' (.inr (OwnR.lower (B := w.heap.size) ?_ hB)) ((Below.refl _ _).grown hg hB (fun k hk => by cases hk))
        unfold OwnR
        rw [List.length_append, hM.1]
        exact ho'
  · refine wpList_appOf hgd s x 27 ho Try.underlying27 _ 32 infoRect4 zero4 (by decide) (by decide) cells4_len cells4_one B v L hs hown A m cp M hx (of_isR hM) (by omega) hB ?_
    intro v' w' ho' hb'
    exact h v' w' (.inr ho') hb'
theorem Four.keep {w w' : World} {p n : Nat} {a b c d : Int} (h : Four w p a b c d) (hB : Below n w w') (hp : p < n) : Four w' p a b c d := by
  obtain ⟨h0, h1, h2, h3, h4⟩ := h
  have hc : ∀ o, w'.cell? ⟨p, o, none⟩ = w.cell? ⟨p, o, none⟩ := fun o => hB.cell (p := ⟨p, o, none⟩) hp
  exact ⟨Nat.lt_of_lt_of_le h0 hB.size, by rw [hc]; exact h1, by rw [hc]; exact h2, by rw [hc]; exact h3, by rw [hc]; exact h4⟩
end Go.Proofs.Ythgnhdfppmoooaa.Re
/- Covers of both sides: contracts. -/
namespace Go.Proofs.Ythgnhdfppmoooaa.Re
open Go.RowKit AM
def ListR (L : List R4) (v : Value) (w : World) : Prop := ∃ a cap, v = .slice a L.length cap ∧ IsR w a L.length L
theorem ListR.later {L : List R4} {v : Value} {w w' : World} (h : ListR L v w) (hB : Below w.heap.size w w') : ListR L v w' := by
  obtain ⟨a, cap, e, h⟩ := h; exact ⟨a, cap, e, h.later hB⟩
theorem left_snoc (r : R4) (l : List R4) (k : Nat) (h : k < l.length) : leftL r (l.take (k + 1)) = goneL (leftL r (l.take k)) l[k] := by
  unfold leftL; rw [List.take_succ_eq_append_getElem h, List.foldl_append]; rfl
def covE (r : R4) (l : List R4) : Int := if (r.ck && l.all R4.ck) = true then 0 else 3
def covB (r : R4) (l : List R4) : Bool := (r.ck && l.all R4.ck) && ((leftL r l).length == 0)
theorem cov_f {r : R4} {l : List R4} (h : (r.ck && l.all R4.ck) = false) : covB r l = false ∧ covE r l = 3 := by
  unfold covB covE; rw [h]; exact ⟨rfl, rfl⟩
theorem cov_t {r : R4} {l : List R4} (h : (r.ck && l.all R4.ck) = true) : covB r l = ((leftL r l).length == 0) ∧ covE r l = 0 := by
  unfold covB covE; rw [h]; exact ⟨rfl, rfl⟩
theorem retCov {r : R4} {l : List R4} {b : Bool} {e : Int} (h : covB r l = b ∧ covE r l = e) : Ending.returned (.tuple #[.bool b, .int .i64 e]) = .returned (.tuple #[.bool (covB r l), .int .i64 (covE r l)]) := by rw [h.1, h.2]
theorem nat_beq (n : Nat) : (n == 0) = ((n : Int) == 0) := by
  rw [Bool.eq_iff_iff]; simp
theorem rchecksO_any (a : Option Addr) (n cap : Nat) (l : List R4) (hl : n ≤ 1000) (w : World) (hr : IsR w a n l) :
    Calls Try.prog 39 #[.slice a n cap] w fun e w' => e = .returned (.int .i64 (cksE l)) ∧ Below w.heap.size w w' := by
  by_cases h0 : n = 0
  · subst h0
    have hl0 : l = [] := List.eq_nil_of_length_eq_zero hr.1
    subst hl0
    go_enter Try.func39, Try.ntmps39
    go_wp2_with fail
    refine wp_loop_rounds 1 ?_
    rw [rounds_succ]
    go_wp2_with fail
    go_ret
    exact ⟨rfl, Below.refl _ _⟩
  · obtain ⟨b, off, rfl, hrr⟩ := hr.2 (by omega)
    obtain rfl := hr.1
    exact rchecks_any b off cap l (by omega) w hrr
/-- A range at an address. -/
def RectAt (w : World) (b off : Nat) (a1 a2 a3 a4 : Int) : Prop :=
  b < w.heap.size ∧ w.cell? ⟨b, off, none⟩ = some (.int .i64 a1) ∧ w.cell? ⟨b, off + 1, none⟩ = some (.int .i64 a2) ∧ w.cell? ⟨b, off + 2, none⟩ = some (.int .i64 a3) ∧ w.cell? ⟨b, off + 3, none⟩ = some (.int .i64 a4)
theorem RectAt.later {w w' : World} {b off : Nat} {a1 a2 a3 a4 : Int} (h : RectAt w b off a1 a2 a3 a4) (hB : Below w.heap.size w w') : RectAt w' b off a1 a2 a3 a4 := by
  obtain ⟨h0, h1, h2, h3, h4⟩ := h
  have hc := (bcell hB).1
  exact ⟨Nat.lt_of_lt_of_le h0 hB.size, by rw [hc _ _ h0]; exact h1, by rw [hc _ _ h0]; exact h2, by rw [hc _ _ h0]; exact h3, by rw [hc _ _ h0]; exact h4⟩
theorem RectAt.drew {w : World} {b off : Nat} {a1 a2 a3 a4 : Int} (h : RectAt w b off a1 a2 a3 a4) : RectAt w.drew b off a1 a2 a3 a4 := h
/-- A pair of a list and a code. -/
def PartsF (E : Int) (L : List R4) : Fact := fun v W => ∃ u, v = .tuple #[u, .int .i64 E] ∧ ListR L u W
theorem partsF_stable (E : Int) (L : List R4) : Stable (PartsF E L) := fun _ _ _ hB ⟨u, e, h⟩ => ⟨u, e, h.later hB⟩
theorem listR_stable (L : List R4) : Stable (fun v W => ListR L v W) := fun _ _ _ hB h => h.later hB
end Go.Proofs.Ythgnhdfppmoooaa.Re
/- What is left, by addresses. -/
namespace Go.Proofs.Ythgnhdfppmoooaa.Re
open Go.RowKit AM
def has4 (r : R4) (p q : Int) : Bool := rhB r.c1 r.r1 r.c2 r.r2 p q
def inL (l : List R4) (p q : Int) : Bool := l.any fun r => has4 r p q
theorem has4_iff {r : R4} {p q : Int} : has4 r p q = true ↔ r.c1 ≤ p ∧ p ≤ r.c2 ∧ r.r1 ≤ q ∧ q ≤ r.r2 := by unfold has4 rhB; exact decide_eq_true_iff
theorem inL_iff {l : List R4} {p q : Int} : inL l p q = true ↔ ∃ r ∈ l, has4 r p q = true := by unfold inL; simp
theorem in_mn {a b : R4} (ha : a.ck = true) (hb : b.ck = true) (p q : Int) : inL (mnL a b) p q = (has4 a p q && !has4 b p q) := by
  have ha' := ha
  have hb' := hb
  unfold R4.ck at ha' hb'
  rw [ckB_iff] at ha' hb'
  rw [Bool.eq_iff_iff, inL_iff, Bool.and_eq_true, Bool.not_eq_true', ← Bool.not_eq_true]
  unfold mnL
  rw [ha, hb]
  simp only [Bool.and_self, if_true]
  by_cases hm : mt4 a b = true
  · rw [if_pos hm]
    have hem : emB (max a.c1 b.c1) (max a.r1 b.r1) (min a.c2 b.c2) (min a.r2 b.r2) = false := by
      unfold mt4 mtB at hm
      simp only [Bool.and_eq_true, Bool.not_eq_true'] at hm
      exact hm.1
    have hne : max a.c1 b.c1 ≤ min a.c2 b.c2 ∧ max a.r1 b.r1 ≤ min a.r2 b.r2 := by
      unfold emB at hem
      have := of_decide_eq_false hem
      omega
    constructor
    · rintro ⟨r, hr, h⟩
      unfold some4 at hr
      have h1 := (List.mem_filter.1 hr).1
      rw [has4_iff] at h
      rw [has4_iff, has4_iff]
      unfold cut4 at h1
      simp only [List.mem_cons, List.not_mem_nil, or_false] at h1
      rcases h1 with rfl | rfl | rfl | rfl <;> dsimp only at * <;> omega
    · rintro ⟨h1, h2⟩
      rw [has4_iff] at h1 h2
      have key : ∀ r ∈ cut4 a b, has4 r p q = true → ∃ r ∈ some4 (cut4 a b), has4 r p q = true := by
        intro r hr h
        refine ⟨r, ?_, h⟩
        unfold some4
        rw [List.mem_filter]
        refine ⟨hr, ?_⟩
        rw [has4_iff] at h
        unfold R4.em emB
        rw [Bool.not_eq_true', decide_eq_false_iff_not]
        omega
      by_cases c1 : q < max a.r1 b.r1
      · exact key ⟨a.c1, a.r1, a.c2, max a.r1 b.r1 - 1⟩ (by unfold cut4; simp) (by rw [has4_iff]; dsimp only; omega)
      · by_cases c2 : min a.r2 b.r2 < q
        · exact key ⟨a.c1, min a.r2 b.r2 + 1, a.c2, a.r2⟩ (by unfold cut4; simp) (by rw [has4_iff]; dsimp only; omega)
        · by_cases c3 : p < max a.c1 b.c1
          · exact key ⟨a.c1, max a.r1 b.r1, max a.c1 b.c1 - 1, min a.r2 b.r2⟩ (by unfold cut4; simp) (by rw [has4_iff]; dsimp only; omega)
          · exact key ⟨min a.c2 b.c2 + 1, max a.r1 b.r1, a.c2, min a.r2 b.r2⟩ (by unfold cut4; simp) (by rw [has4_iff]; dsimp only; omega)
  · rw [if_neg hm]
    have hno : ¬ (max a.c1 b.c1 ≤ min a.c2 b.c2 ∧ max a.r1 b.r1 ≤ min a.r2 b.r2) := by
      intro h
      apply hm
      unfold mt4 mtB
      simp only [Bool.and_eq_true, Bool.not_eq_true']
      refine ⟨?_, ha, hb⟩
      unfold emB
      rw [decide_eq_false_iff_not]
      omega
    constructor
    · rintro ⟨r, hr, h⟩
      simp at hr
      subst hr
      refine ⟨h, ?_⟩
      rw [has4_iff] at h ⊢
      omega
    · rintro ⟨h1, _⟩
      exact ⟨a, by simp, h1⟩
theorem in_gone {s : List R4} {b : R4} (hs : ∀ r ∈ s, r.ck = true) (hb : b.ck = true) (p q : Int) : inL (goneL s b) p q = (inL s p q && !has4 b p q) := by
  induction s with
  | nil => rfl
  | cons a s ih =>
    have e : goneL (a :: s) b = mnL a b ++ goneL s b := by unfold goneL; rw [List.flatMap_cons]
    have e2 : inL (a :: s) p q = (has4 a p q || inL s p q) := by unfold inL; rw [List.any_cons]
    have e3 : inL (mnL a b ++ goneL s b) p q = (inL (mnL a b) p q || inL (goneL s b) p q) := by unfold inL; rw [List.any_append]
    rw [e, e3, in_mn (hs a (List.mem_cons_self ..)) hb, ih fun r hr => hs r (List.mem_cons_of_mem _ hr), e2]
    cases has4 a p q <;> cases inL s p q <;> cases has4 b p q <;> rfl
theorem in_left {r : R4} {l : List R4} (hr : r.ck = true) (hl : ∀ b ∈ l, b.ck = true) (p q : Int) : inL (leftL r l) p q = (has4 r p q && !inL l p q) := by
  have key : ∀ (l : List R4) (s : List R4), (∀ b ∈ l, b.ck = true) → (∀ x ∈ s, x.ck = true) → inL (l.foldl goneL s) p q = (inL s p q && !inL l p q) := by
    intro l
    induction l with
    | nil => intro s _ _; unfold inL; simp
    | cons b l ih =>
      intro s hl hs
      have e2 : inL (b :: l) p q = (has4 b p q || inL l p q) := by unfold inL; rw [List.any_cons]
      rw [List.foldl_cons, ih _ (fun x hx => hl x (List.mem_cons_of_mem _ hx)) (gone_ck hs (hl b (List.mem_cons_self ..))).1, in_gone hs (hl b (List.mem_cons_self ..)), e2]
      cases inL s p q <;> cases has4 b p q <;> cases inL l p q <;> rfl
  have e : inL [r] p q = has4 r p q := by unfold inL; simp
  unfold leftL
  rw [key l [r] hl (fun x hx => by simp at hx; subst hx; exact hr), e]
theorem left_nil {r : R4} {l : List R4} (hr : r.ck = true) (hl : ∀ b ∈ l, b.ck = true) : ((leftL r l).length == 0) = true ↔ ∀ p q, has4 r p q = true → inL l p q = true := by
  constructor
  · intro h p q hp
    have h0 : leftL r l = [] := List.eq_nil_of_length_eq_zero (by simpa using h)
    have := in_left hr hl p q
    rw [h0, hp] at this
    cases hi : inL l p q
    · rw [hi] at this; simp [inL] at this
    · rfl
  · intro h
    rw [beq_iff_eq]
    cases hL : leftL r l with
    | nil => rfl
    | cons x xs =>
      exfalso
      have hx : x.ck = true := (left_ck hr hl).1 x (by rw [hL]; exact List.mem_cons_self ..)
      have hx' := hx
      unfold R4.ck at hx'
      rw [ckB_iff] at hx'
      have h1 : inL (leftL r l) x.c1 x.r1 = true := inL_iff.2 ⟨x, by rw [hL]; exact List.mem_cons_self .., has4_iff.2 (by omega)⟩
      rw [in_left hr hl, Bool.and_eq_true] at h1
      have := h _ _ h1.1
      rw [this] at h1
      simp at h1
/-- Whether the first i addresses of a range are in some range. -/
def allI (r : R4) (l : List R4) (i : Nat) : Bool := (List.range i).all fun j => inL l (r.c1 + (j : Int) % (r.c2 - r.c1 + 1)) (r.r1 + (j : Int) / (r.c2 - r.c1 + 1))
theorem allI_succ (r : R4) (l : List R4) (i : Nat) : allI r l (i + 1) = (allI r l i && inL l (r.c1 + (i : Int) % (r.c2 - r.c1 + 1)) (r.r1 + (i : Int) / (r.c2 - r.c1 + 1))) := by
  unfold allI; rw [List.range_succ, List.all_append]; simp
theorem cov_all {r : R4} {l : List R4} (hr : r.ck = true) (hl : ∀ b ∈ l, b.ck = true) (W H : Nat) (hW : r.c2 - r.c1 + 1 = W) (hH : r.r2 - r.r1 + 1 = H) : ((leftL r l).length == 0) = allI r l (W * H) := by
  have hr' := hr
  unfold R4.ck at hr'
  rw [ckB_iff] at hr'
  have hW0 : 0 < W := by omega
  rw [Bool.eq_iff_iff, left_nil hr hl]
  unfold allI
  rw [List.all_eq_true, hW]
  constructor
  · intro h j hj
    rw [List.mem_range] at hj
    apply h
    rw [has4_iff]
    have h1 : j % W < W := Nat.mod_lt _ hW0
    have h2 : j / W < H := Nat.div_lt_of_lt_mul hj
    have e1 : (j : Int) % (W : Int) = ((j % W : Nat) : Int) := by simp
    have e2 : (j : Int) / (W : Int) = ((j / W : Nat) : Int) := by simp
    rw [e1, e2]
    clear e1 e2
    generalize j % W = u at *
    generalize j / W = v at *
    omega
  · intro h p q hp
    rw [has4_iff] at hp
    obtain ⟨x, hx⟩ : ∃ x : Nat, p = r.c1 + x := ⟨(p - r.c1).toNat, by omega⟩
    obtain ⟨y, hy⟩ : ∃ y : Nat, q = r.r1 + y := ⟨(q - r.r1).toNat, by omega⟩
    have hxW : x < W := by omega
    have hyH : y < H := by omega
    have hlt : y * W + x < W * H := by
      have : (y + 1) * W ≤ H * W := Nat.mul_le_mul_right _ hyH
      rw [Nat.add_mul, Nat.mul_comm H W] at this
      omega
    have := h (y * W + x) (List.mem_range.2 hlt)
    have e1 : ((y * W + x : Nat) : Int) % (W : Int) = (x : Int) := by
      rw [show ((y * W + x : Nat) : Int) % (W : Int) = (((y * W + x) % W : Nat) : Int) by simp, Nat.add_comm, Nat.mul_comm y W, Nat.add_mul_mod_self_left, Nat.mod_eq_of_lt hxW]
    have e2 : ((y * W + x : Nat) : Int) / (W : Int) = (y : Int) := by
      rw [show ((y * W + x : Nat) : Int) / (W : Int) = (((y * W + x) / W : Nat) : Int) by simp, Nat.add_comm, Nat.mul_comm y W, Nat.add_mul_div_left _ _ hW0, Nat.div_eq_of_lt hxW, Nat.zero_add]
    rw [e1, e2, ← hx, ← hy] at this
    exact this
/-- The ranges turned round, each with the first one behind it. -/
def turnL (l : List R4) (x0 : R4) (q : Nat) : List R4 := (l.drop q).reverse.flatMap fun x => [x, x0]
theorem turn_step (l : List R4) (x0 : R4) (q : Nat) (h : q < l.length) : turnL l x0 q = turnL l x0 (q + 1) ++ [l[q], x0] := by
  unfold turnL
  rw [List.drop_eq_getElem_cons h, List.reverse_cons, List.flatMap_append]; rfl
theorem turn_len (l : List R4) (x0 : R4) (q : Nat) : (turnL l x0 q).length = 2 * (l.length - q) := by
  unfold turnL
  have : ∀ (m : List R4), (m.flatMap fun x => [x, x0]).length = 2 * m.length := by
    intro m
    induction m with
    | nil => rfl
    | cons x m ih => rw [List.flatMap_cons, List.length_append, ih]; simp; omega
  rw [this]; simp
theorem turn_end (l : List R4) (x0 : R4) : turnL l x0 l.length = [] := by unfold turnL; simp
theorem turn_mem {l : List R4} {x0 : R4} (h0 : x0 ∈ l) (x : R4) : x ∈ turnL l x0 0 ↔ x ∈ l := by
  unfold turnL
  rw [List.drop_zero, List.mem_flatMap]
  constructor
  · rintro ⟨y, hy, hx⟩
    simp at hx
    rcases hx with rfl | rfl
    · simpa using hy
    · exact h0
  · intro hx; exact ⟨x, by simpa using hx, by simp⟩
theorem turn_in {l : List R4} {x0 : R4} (h0 : x0 ∈ l) (p q : Int) : inL (turnL l x0 0) p q = inL l p q := by
  rw [Bool.eq_iff_iff, inL_iff, inL_iff]
  constructor
  · rintro ⟨r, hr, h⟩; exact ⟨r, (turn_mem h0 r).1 hr, h⟩
  · rintro ⟨r, hr, h⟩; exact ⟨r, (turn_mem h0 r).2 hr, h⟩
end Go.Proofs.Ythgnhdfppmoooaa.Re
