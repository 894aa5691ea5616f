/- The addresses that stand for all others stand for as many as there are: mathematics of the specification's Differing. -/
import Derived.Test.YthgnhdfppmoooaaDifM
import Derived.Test.YthgnhdfppmoooaaMpt
namespace Go.Proofs.Ythgnhdfppmoooaa.Re
open Go.RowKit AM
set_option linter.unusedVariables false
set_option linter.unusedSimpArgs false
/-- The least of l behind x, or hi. -/
def nxt (l : List Int) (hi x : Int) : Int := l.foldl (fun a y => if x < y then min a y else a) hi
theorem nxt_iff (x z : Int) : ∀ (l : List Int) (hi : Int), z ≤ nxt l hi x ↔ z ≤ hi ∧ ∀ y ∈ l, x < y → z ≤ y
  | [], hi => by simp [nxt]
  | y :: l, hi => by
    have ih := nxt_iff x z l (if x < y then min hi y else hi)
    show z ≤ nxt l (if x < y then min hi y else hi) x ↔ _
    rw [ih]
    constructor
    · rintro ⟨h1, h2⟩
      by_cases hx : x < y
      · rw [if_pos hx] at h1
        refine ⟨by omega, fun u hu hxu => ?_⟩
        rcases List.mem_cons.1 hu with rfl | hu
        · omega
        · exact h2 u hu hxu
      · rw [if_neg hx] at h1
        refine ⟨h1, fun u hu hxu => ?_⟩
        rcases List.mem_cons.1 hu with rfl | hu
        · exact absurd hxu hx
        · exact h2 u hu hxu
    · rintro ⟨h1, h2⟩
      refine ⟨?_, fun u hu => h2 u (List.mem_cons_of_mem _ hu)⟩
      by_cases hx : x < y
      · rw [if_pos hx]
        have := h2 y (List.mem_cons_self ..) hx
        omega
      · rw [if_neg hx]; exact h1
theorem eq_of_le {a b : Int} (h : ∀ z, z ≤ a ↔ z ≤ b) : a = b := by
  have h1 := (h a).1 (Int.le_refl _)
  have h2 := (h b).2 (Int.le_refl _)
  omega
theorem nxt_set {l m : List Int} (h : ∀ y, y ∈ l ↔ y ∈ m) (hi x : Int) : nxt l hi x = nxt m hi x :=
  eq_of_le fun z => by
    rw [nxt_iff, nxt_iff]
    exact ⟨fun ⟨h1, h2⟩ => ⟨h1, fun y hy => h2 y ((h y).2 hy)⟩, fun ⟨h1, h2⟩ => ⟨h1, fun y hy => h2 y ((h y).1 hy)⟩⟩
theorem nxt_none {l : List Int} {hi x : Int} (h : ∀ y ∈ l, y ≤ x) : nxt l hi x = hi :=
  eq_of_le fun z => by
    rw [nxt_iff]
    exact ⟨fun h => h.1, fun h1 => ⟨h1, fun y hy hx => by have := h y hy; omega⟩⟩
/-- A last one behind: it counts as the bound. -/
theorem nxt_snoc {l : List Int} {hi x y : Int} (hx : x < y) (hy : y ≤ hi) : nxt (l ++ [y]) hi x = nxt l y x :=
  eq_of_le fun z => by
    rw [nxt_iff, nxt_iff]
    constructor
    · rintro ⟨h1, h2⟩
      exact ⟨h2 y (by simp) hx, fun u hu => h2 u (by simp [hu])⟩
    · rintro ⟨h1, h2⟩
      refine ⟨by omega, fun u hu hxu => ?_⟩
      rcases List.mem_append.1 hu with hu | hu
      · exact h2 u hu hxu
      · simp at hu; omega
def wsum (h : Int → Int) (l : List Int) (hi : Int) (ps : List Int) : Int := (ps.map fun p => h p * (nxt l hi p - p)).sum
theorem wsum_congr {h : Int → Int} {l l' : List Int} {hi hi' : Int} : ∀ {ps : List Int}, (∀ p ∈ ps, nxt l hi p = nxt l' hi' p) → wsum h l hi ps = wsum h l' hi' ps
  | [], _ => rfl
  | p :: ps, hh => by
    have ih := wsum_congr (h := h) (ps := ps) fun q hq => hh q (List.mem_cons_of_mem _ hq)
    unfold wsum at ih ⊢
    rw [List.map_cons, List.map_cons, List.sum_cons, List.sum_cons, ih, hh p (List.mem_cons_self ..)]
theorem wsum_snoc (h : Int → Int) (l : List Int) (hi : Int) (ps : List Int) (p : Int) : wsum h l hi (ps ++ [p]) = wsum h l hi ps + h p * (nxt l hi p - p) := by unfold wsum; simp
/-- The sum of h over n numbers. -/
def sumN (h : Int → Int) (lo : Int) : Nat → Int
  | 0 => 0
  | n + 1 => sumN h lo n + h (lo + n)
/-- Between cuts h does not change. -/
def Flat (h : Int → Int) (lo : Int) (B : List Int) (n : Nat) : Prop := ∀ i : Nat, 0 < i → i < n → cutB lo (lo + i) B = false → h (lo + i) = h (lo + i - 1)
theorem cut_last {h : Int → Int} {lo : Int} {B : List Int} : ∀ n : Nat, Flat h lo B (n + 1) → ∃ C p, cutL lo B (n + 1) = C ++ [p] ∧ (∀ y ∈ C, y < p) ∧ p ≤ lo + n ∧ h p = h (lo + n)
  | 0, _ => ⟨[], lo, by unfold cutL; rw [if_pos (by unfold cutB; simp)]; simp [cutL], fun y hy => (by cases hy), by omega, by simp⟩
  | n + 1, hf => by
    obtain ⟨C, p, h1, h2, h3, h4⟩ := cut_last n (fun i h0 hi hc => hf i h0 (by omega) hc)
    unfold cutL
    cases hc : cutB lo (lo + ((n + 1 : Nat) : Int)) B
    · rw [if_neg (by decide), List.append_nil]
      refine ⟨C, p, h1, h2, by omega, ?_⟩
      rw [h4, hf (n + 1) (by omega) (by omega) hc]
      exact congrArg h (by omega)
    · rw [if_pos rfl]
      exact ⟨_, _, rfl, fun y hy => by have := (cutL_mem.1 hy).2.1; omega, Int.le_refl _, rfl⟩
theorem wsum_cut {h : Int → Int} {lo : Int} {B : List Int} : ∀ n : Nat, Flat h lo B n → wsum h (cutL lo B n) (lo + n) (cutL lo B n) = sumN h lo n
  | 0, _ => rfl
  | n + 1, hf => by
    have ih := wsum_cut n (fun i h0 hi hc => hf i h0 (by omega) hc)
    have hlt : ∀ y ∈ cutL lo B n, y < lo + n := fun y hy => (cutL_mem.1 hy).2.1
    unfold sumN
    rw [← ih]
    cases hc : cutB lo (lo + n) B
    · have e : cutL lo B (n + 1) = cutL lo B n := by
        conv => lhs; unfold cutL
        rw [hc, if_neg (by decide), List.append_nil]
      rw [e]
      cases n with
      | zero => unfold cutB at hc; simp at hc
      | succ m =>
        obtain ⟨C, p, h1, h2, h3, h4⟩ := cut_last (h := h) m (fun i h0 hi hc => hf i h0 (by omega) hc)
        have hp := hlt p (by rw [h1]; simp)
        have hn : ∀ y ∈ C ++ [p], y ≤ p := fun y hy => by
          rcases List.mem_append.1 hy with hy | hy
          · have := h2 y hy; omega
          · simp at hy; omega
        rw [h1, wsum_snoc, wsum_snoc, nxt_none hn, nxt_none hn]
        rw [wsum_congr (l' := C ++ [p]) (hi' := lo + ((m + 1 : Nat) : Int)) (fun y hy => by rw [nxt_snoc (h2 y hy) (by omega), nxt_snoc (h2 y hy) (by omega)])]
        have h5 : h (lo + ((m + 1 : Nat) : Int)) = h p := by
          rw [hf (m + 1) (by omega) (by omega) hc, h4]
          exact congrArg h (by omega)
        rw [h5, show lo + ((m + 1 + 1 : Nat) : Int) - p = (lo + ((m + 1 : Nat) : Int) - p) + 1 by omega, Int.mul_add, Int.mul_one]
        omega
    · have e : cutL lo B (n + 1) = cutL lo B n ++ [lo + n] := by
        conv => lhs; unfold cutL
        rw [hc, if_pos rfl]
      rw [e, wsum_snoc, nxt_none (fun y hy => by
        rcases List.mem_append.1 hy with hy | hy
        · have := hlt y hy; omega
        · simp at hy; omega)]
      rw [wsum_congr (l' := cutL lo B n) (hi' := lo + n) (fun y hy => nxt_snoc (hlt y hy) (by omega))]
      rw [show lo + ((n + 1 : Nat) : Int) - (lo + n) = 1 by omega, Int.mul_one]
/-! Two ways -/
theorem rowN_sum (f : Int → Int → Bool) (q c : Int) : ∀ n, rowN f q c n = sumN (fun p => if f p q then 1 else 0) c n
  | 0 => rfl
  | n + 1 => by unfold rowN sumN; rw [rowN_sum f q c n]
theorem cntN_sum (f : Int → Int → Bool) (c : Int) (w : Nat) (r : Int) : ∀ h, cntN f c w r h = sumN (fun q => rowN f q c w) r h
  | 0 => rfl
  | h + 1 => by unfold cntN sumN; rw [cntN_sum f c w r h]
theorem rowN_same {f : Int → Int → Bool} {q q' c : Int} : ∀ n : Nat, (∀ i : Nat, i < n → f (c + i) q = f (c + i) q') → rowN f q c n = rowN f q' c n
  | 0, _ => rfl
  | n + 1, h => by unfold rowN; rw [rowN_same n (fun i hi => h i (by omega)), h n (by omega)]
/-- What one address of the grid stands for. -/
def ptSum (f : Int → Int → Bool) (l : List (Int × Int)) (hc hr : Int) : Int := (l.map fun x => if f x.1 x.2 then (nxt (l.map (·.1)) hc x.1 - x.1) * (nxt (l.map (·.2)) hr x.2 - x.2) else 0).sum
theorem sum_grid (F : Int × Int → Int) (cols : List Int) : ∀ rows : List Int, ((rows.flatMap fun q => cols.map fun p => (p, q)).map F).sum = (rows.map fun q => (cols.map fun p => F (p, q)).sum).sum
  | [] => rfl
  | q :: rows => by
    rw [List.flatMap_cons, List.map_append, List.sum_append, sum_grid F cols rows, List.map_map]
    rfl
theorem sum_mul (b : Int → Bool) (g : Int → Int) (D : Int) : ∀ l : List Int, (l.map fun p => if b p then (g p - p) * D else 0).sum = (l.map fun p => (if b p then 1 else 0) * (g p - p)).sum * D
  | [] => by simp
  | p :: l => by
    rw [List.map_cons, List.map_cons, List.sum_cons, List.sum_cons, sum_mul b g D l, Int.add_mul]
    cases b p <;> simp
theorem grid_sum (f : Int → Int → Bool) (c : Int) (BC : List Int) (w : Nat) (r : Int) (BR : List Int) (h : Nat) (hw : 0 < w) (hh : 0 < h)
    (fc : ∀ q, Flat (fun p => if f p q then 1 else 0) c BC w) (fr : Flat (fun q => rowN f q c w) r BR h) :
    ptSum f ((cutL r BR h).flatMap fun q => (cutL c BC w).map fun p => (p, q)) (c + w) (r + h) = cntN f c w r h := by
  have hc0 : c ∈ cutL c BC w := cutL_mem.2 ⟨Int.le_refl _, by omega, by unfold cutB; simp⟩
  have hr0 : r ∈ cutL r BR h := cutL_mem.2 ⟨Int.le_refl _, by omega, by unfold cutB; simp⟩
  have wc := fun q => wsum_cut w (fc q)
  have wr := wsum_cut h fr
  generalize cutL c BC w = cols at *
  generalize cutL r BR h = rows at *
  have e1 : ∀ x, nxt ((rows.flatMap fun q => cols.map fun p => (p, q)).map (·.1)) (c + w) x = nxt cols (c + w) x := fun x => nxt_set (fun y => by
    simp only [List.mem_map, List.mem_flatMap]
    constructor
    · rintro ⟨z, ⟨q, hq, p, hp, rfl⟩, rfl⟩; exact hp
    · intro hy; exact ⟨(y, r), ⟨r, hr0, y, hy, rfl⟩, rfl⟩) _ _
  have e2 : ∀ x, nxt ((rows.flatMap fun q => cols.map fun p => (p, q)).map (·.2)) (r + h) x = nxt rows (r + h) x := fun x => nxt_set (fun y => by
    simp only [List.mem_map, List.mem_flatMap]
    constructor
    · rintro ⟨z, ⟨q, hq, p, hp, rfl⟩, rfl⟩; exact hq
    · intro hy; exact ⟨(c, y), ⟨y, hy, c, hc0, rfl⟩, rfl⟩) _ _
  unfold ptSum
  simp only [e1, e2]
  rw [sum_grid, cntN_sum, ← wr]
  unfold wsum
  congr 1
  apply List.map_congr_left
  intro q hq
  dsimp only
  rw [sum_mul (fun p => f p q) (fun p => nxt cols (c + w) p), rowN_sum, ← wc q]
  rfl
theorem has_flat {R : RV} {p q : Int} (h1 : p ≠ R.c1) (h2 : p ≠ R.c2 + 1) : hasR R p q = hasR R (p - 1) q := by
  unfold hasR rhB
  by_cases h : R.c1 ≤ p ∧ p ≤ R.c2 ∧ R.r1 ≤ q ∧ q ≤ R.r2
  · rw [decide_eq_true h, decide_eq_true (by omega)]
  · rw [decide_eq_false h, decide_eq_false (by omega)]
theorem has_flatR {R : RV} {p q : Int} (h1 : q ≠ R.r1) (h2 : q ≠ R.r2 + 1) : hasR R p q = hasR R p (q - 1) := by
  unfold hasR rhB
  by_cases h : R.c1 ≤ p ∧ p ≤ R.c2 ∧ R.r1 ≤ q ∧ q ≤ R.r2
  · rw [decide_eq_true h, decide_eq_true (by omega)]
  · rw [decide_eq_false h, decide_eq_false (by omega)]
theorem cutB_f {lo x : Int} {B : List Int} (h : cutB lo x B = false) : ∀ b ∈ B, x ≠ b := by
  intro b hb e
  unfold cutB at h
  rw [Bool.or_eq_false_iff] at h
  have := h.2
  rw [List.any_eq_false] at this
  exact this b hb (by simp [e])
/-- The grid of the rules L stands for the range, where f hangs only on which rules have an address. -/
theorem pts_sum (f : Int → Int → Bool) (L : List RV) (r : R4) (hr : r.ck = true) (hf : ∀ p q p' q', (∀ R ∈ L, hasR R p q = hasR R p' q') → f p q = f p' q') :
    ptSum f (ptsL r L) (r.c2 + 1) (r.r2 + 1) = cnt f r := by
  have hc := hr
  unfold R4.ck at hc
  rw [ckB_iff] at hc
  have hC : ∀ p q, (∀ b ∈ begC L, p ≠ b) → f p q = f (p - 1) q := fun p q h => hf _ _ _ _ fun R hR => has_flat (h _ (by unfold begC; rw [List.mem_flatMap]; exact ⟨R, hR, by simp⟩)) (h _ (by unfold begC; rw [List.mem_flatMap]; exact ⟨R, hR, by simp⟩))
  have hR : ∀ p q, (∀ b ∈ begR L, q ≠ b) → f p q = f p (q - 1) := fun p q h => hf _ _ _ _ fun R hR => has_flatR (h _ (by unfold begR; rw [List.mem_flatMap]; exact ⟨R, hR, by simp⟩)) (h _ (by unfold begR; rw [List.mem_flatMap]; exact ⟨R, hR, by simp⟩))
  have := grid_sum f r.c1 (begC L) (wid4 r) r.r1 (begR L) (hei4 r) (by unfold wid4; omega) (by unfold hei4; omega)
    (fun q i h0 hi hc => by dsimp only; rw [hC _ q (cutB_f hc)])
    (fun i h0 hi hc => rowN_same _ fun j hj => hR _ _ (cutB_f hc))
  unfold ptsL colsP rowsP cnt
  rw [show r.c2 + 1 = r.c1 + ((wid4 r : Nat) : Int) by unfold wid4; omega, show r.r2 + 1 = r.r1 + ((hei4 r : Nat) : Int) by unfold hei4; omega]
  exact this
end Go.Proofs.Ythgnhdfppmoooaa.Re
