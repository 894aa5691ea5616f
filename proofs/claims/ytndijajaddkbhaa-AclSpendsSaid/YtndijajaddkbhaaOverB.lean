/- Parts of a range: how many there are; the list that down appends to, and what it leaves as it is. -/
import Derived.Test.YtndijajaddkbhaaOverA
import Derived.RangeFuncBox
namespace Go.Proofs.Ytndijajaddkbhaa.Re
open Go.RowKit AM
theorem area_sum1 (W A X Y mh B mw H : Int) (h1 : X + Y = W - mw) (h2 : A + mh + B = H) : W * A + (X * mh + (Y * mh + (W * B + 0))) + mw * mh = W * H := by
  have e1 : X * mh + Y * mh = W * mh - mw * mh := by rw [← Int.add_mul, h1, Int.sub_mul]
  have e2 : W * H = W * A + W * mh + W * B := by rw [← h2, Int.mul_add, Int.mul_add]
  omega
theorem mnL_area {a b : R4} (ha : a.ck = true) (hb : b.ck = true) (hm : mt4 a b = true) : areas (mnL a b) + 1 ≤ area4 a := by
  obtain ⟨_, _, hn1, hn2⟩ := mt4_parts hm
  unfold mnL
  rw [ha, hb]
  simp only [Bool.and_self, if_true]
  rw [if_pos hm]
  obtain ⟨a1, a2, a3, a4⟩ := a
  obtain ⟨b1, b2, b3, b4⟩ := b
  unfold R4.ck at ha hb
  rw [ckB_iff] at ha hb
  dsimp only at *
  rw [areas_some]
  · unfold cut4 areas area4
    simp only [List.map_cons, List.map_nil, List.sum_cons, List.sum_nil]
    have := area_sum1 (a3 - a1 + 1) (max a2 b2 - a2) (max a1 b1 - a1) (a3 - min a3 b3) (min a4 b4 - max a2 b2 + 1) (a4 - min a4 b4) (min a3 b3 - max a1 b1 + 1) (a4 - a2 + 1) (by omega) (by omega)
    have h1 : 1 * 1 ≤ (min a3 b3 - max a1 b1 + 1) * (min a4 b4 - max a2 b2 + 1) := Int.mul_le_mul (by omega) (by omega) (by decide) (by omega)
    rw [show max a2 b2 - 1 - a2 + 1 = max a2 b2 - a2 by omega, show max a1 b1 - 1 - a1 + 1 = max a1 b1 - a1 by omega, show a3 - (min a3 b3 + 1) + 1 = a3 - min a3 b3 by omega, show a4 - (min a4 b4 + 1) + 1 = a4 - min a4 b4 by omega]
    omega
  · intro r hr hE
    unfold R4.em emB at hE
    have hE2 := of_decide_eq_true hE
    unfold cut4 at hr
    simp only [List.mem_cons, List.not_mem_nil, or_false] at hr
    unfold area4
    rcases hr with rfl | rfl | rfl | rfl <;> dsimp only at *
    · exact zero_r (by omega)
    · exact zero_l (by omega)
    · exact zero_l (by omega)
    · exact zero_r (by omega)
theorem flat_sum {f : R4 → List (R4 × Nat)} : ∀ (l : List R4), (∀ y ∈ l, ((f y).length : Int) ≤ area4 y) → ((l.flatMap f).length : Int) ≤ areas l
  | [], _ => by simp [areas]
  | y :: l, h => by
    have h1 := flat_sum l fun x hx => h x (List.mem_cons_of_mem _ hx)
    have h2 := h y (List.mem_cons_self ..)
    have e : areas (y :: l) = area4 y + areas l := by unfold areas; simp
    rw [e, List.flatMap_cons, List.length_append]
    omega
theorem mt4_meet {a b : R4} (h : mt4 a b = true) : mt4 a (meet4 a b) = true := by
  have hc := meet4_ck h
  obtain ⟨ha, hb, h1, h2⟩ := mt4_parts h
  have e : emB (max a.c1 (meet4 a b).c1) (max a.r1 (meet4 a b).r1) (min a.c2 (meet4 a b).c2) (min a.r2 (meet4 a b).r2) = false := by
    unfold emB meet4
    apply decide_eq_false
    dsimp only
    omega
  unfold R4.ck at ha hc
  unfold mt4 mtB
  rw [e, ha, hc]; rfl
theorem down_len (L : List RV) (hL : ∀ k, k < L.length → (rr4 (ruleAt L k)).ck = true) : ∀ (i : Nat) (r : R4), i < L.length → r.ck = true → ((downL L i r).length : Int) ≤ area4 r
  | 0, r, hi, hr => by
    have := area_pos hr
    unfold downL
    split
    · simp only [List.length_singleton]; omega
    · simp only [List.length_nil]; omega
  | i + 1, r, hi, hr => by
    unfold downL
    by_cases hm : mt4 r (rr4 (ruleAt L (i + 1))) = true
    · rw [if_pos hm, List.length_cons]
      have h1 := mnL_area hr (meet4_ck hm) (mt4_meet hm)
      have h2 := flat_sum (f := downL L i) (mnL r (meet4 r (rr4 (ruleAt L (i + 1))))) fun y hy => down_len L hL i y (by omega) ((mnL_ck hr (meet4_ck hm)).1 y hy)
      omega
    · rw [if_neg hm]
      exact down_len L hL i r (by omega) hr
/-- What the first k rests have given, and the next one, fits. -/
theorem rest_fits (L : List RV) (hL : ∀ k, k < L.length → (rr4 (ruleAt L k)).ck = true) (i : Nat) (hi : i < L.length) {N : Int} {l : List R4} (hl : ∀ y ∈ l, y.ck = true) (hN : areas l ≤ N) (k : Nat) (hk : k < l.length) :
    (((l.take k).flatMap (downL L i)).length : Int) + area4 l[k] ≤ N := by
  have h1 := flat_sum (f := downL L i) (l.take k) fun y hy => down_len L hL i y hi (hl y (List.mem_of_mem_take hy))
  have e : areas l = areas (l.take k) + (area4 l[k] + areas (l.drop (k + 1))) := by
    have h3 : areas (l[k] :: l.drop (k + 1)) = area4 l[k] + areas (l.drop (k + 1)) := by unfold areas; rw [List.map_cons, List.sum_cons]
    rw [← h3, ← List.drop_eq_getElem_cons hk, ← areas_app, List.take_append_drop]
  have h2 := len_areas (l := l.drop (k + 1)) fun y hy => hl y (List.mem_of_mem_drop hy)
  omega
/-! The list of parts -/
def cells5 (x : R4 × Nat) : List Value := [.int .i64 x.1.c1, .int .i64 x.1.r1, .int .i64 x.1.c2, .int .i64 x.1.r2, .int .i64 (x.2 : Int)]
theorem cells5_len (x : R4 × Nat) : (cells5 x).length = 5 := rfl
theorem cells5_one (x : R4 × Nat) : ∀ u ∈ cells5 x, u.oneCell' = true := by
  intro u hu; simp [cells5] at hu; rcases hu with rfl | rfl | rfl | rfl | rfl <;> rfl
theorem infoPart : (Try.prog.info? 119).map (fun i => (i.zero, i.size, i.bytes)) = some (some (.agg #[.int .i64 0, .int .i64 0, .int .i64 0, .int .i64 0, .int .i64 0]), 5, 40) := by kernel_rfl
abbrev OwnP5 (B : Nat) (w : World) (v : Value) (P : List (R4 × Nat)) : Prop := OwnOf 119 cells5 5 B w v P
/-- Between two worlds nothing has turned but one box and one row. -/
structure Dn (lb : Nat) (row : Option Nat) (w w' : World) : Prop where
  os : w'.os = w.os
  tape : w'.tape = w.tape
  output : w'.output = w.output
  size : w.heap.size ≤ w'.heap.size
  block : ∀ k, k < w.heap.size → k ≠ lb → some k ≠ row → w'.heap[k]? = w.heap[k]?
/-- A row that stayed, or is new. -/
def Rw (n : Nat) (row row' : Option Nat) : Prop := row' = row ∨ ∃ g, row' = some g ∧ n ≤ g
theorem Dn.refl (lb : Nat) (row : Option Nat) (w : World) : Dn lb row w w := ⟨rfl, rfl, rfl, Nat.le_refl _, fun _ _ _ _ => rfl⟩
theorem Dn.trans {lb : Nat} {row row1 : Option Nat} {a b c : World} (h : Dn lb row a b) (hr : Rw a.heap.size row row1) (k : Dn lb row1 b c) : Dn lb row a c :=
  ⟨k.os.trans h.os, k.tape.trans h.tape, k.output.trans h.output, Nat.le_trans h.size k.size, fun i hi h1 h2 =>
    (k.block i (Nat.lt_of_lt_of_le hi h.size) h1 (by
      rcases hr with rfl | ⟨g, rfl, hg⟩
      · exact h2
      · intro e; injection e with e; omega)).trans (h.block i hi h1 h2)⟩
theorem Rw.trans {n m : Nat} {a b c : Option Nat} (h : Rw n a b) (hn : n ≤ m) (k : Rw m b c) : Rw n a c := by
  rcases k with rfl | ⟨g, rfl, hg⟩
  · exact h
  · exact .inr ⟨g, rfl, by omega⟩
theorem Rw.refl (n : Nat) (a : Option Nat) : Rw n a a := .inl rfl
theorem Rw.mono {n m : Nat} {a b : Option Nat} (h : Rw n a b) (hn : m ≤ n) : Rw m a b := by
  rcases h with rfl | ⟨g, rfl, hg⟩
  · exact .inl rfl
  · exact .inr ⟨g, rfl, by omega⟩
theorem Dn.of_below {lb : Nat} {row : Option Nat} {w w' : World} (h : Below w.heap.size w w') : Dn lb row w w' := ⟨h.os, h.tape, h.output, h.size, fun k hk _ _ => h.block k hk⟩
theorem Dn.below {lb : Nat} {row : Option Nat} {w w' : World} (h : Dn lb row w w') {B : Nat} (hB : B ≤ w.heap.size) (h1 : B ≤ lb) (h2 : ∀ g, row = some g → B ≤ g) : Below B w w' :=
  ⟨h.os, h.tape, h.output, h.size, fun k hk => h.block k (by omega) (by omega) (fun e => by have := h2 k e.symm; omega)⟩
theorem Dn.cell {lb : Nat} {row : Option Nat} {w w' : World} (h : Dn lb row w w') {p : Addr} {v : Value} (hp : p.block < w.heap.size) (h1 : p.block ≠ lb) (h2 : some p.block ≠ row) (hv : w.cell? p = some v) : w'.cell? p = some v :=
  (World.cell?_of_block (w := w) (h.block p.block hp h1 h2)).trans hv
theorem Dn.cell' {lb : Nat} {row : Option Nat} {w w' : World} (h : Dn lb row w w') {p : Addr} (hp : p.block < w.heap.size) (h1 : p.block ≠ lb) (h2 : some p.block ≠ row) : w'.cell? p = w.cell? p :=
  World.cell?_of_block (w := w) (h.block p.block hp h1 h2)
theorem Dn.boxed {lb : Nat} {row : Option Nat} {w w' : World} (h : Dn lb row w w') {B : Nat} {t : TypeId} {v : Value} (hv : Boxed w B t v) (h1 : B ≠ lb) (h2 : some B ≠ row) : Boxed w' B t v := (h.block B hv.lt h1 h2).trans hv
end Go.Proofs.Ytndijajaddkbhaa.Re
