/- Lists of addresses that a call makes; the contracts of Area, Refs (both sides) and EqualRefs. -/
import Derived.Test.YtbkbikkieabcmaaDoorRectN
namespace Go.Proofs.YtbkbikkieabcmaaDoor.Re
open Go.RowKit AM
theorem infoRefQ : (Tryd.prog.info? 25).map (fun i => (i.zero, i.size, i.bytes)) = some (some (.agg #[.int .i64 0, .int .i64 0]), 2, 16) := by kernel_rfl
def cellsQ (L : List (Int × Int)) : List Value := L.flatMap fun x => [.int .i64 x.1, .int .i64 x.2]
theorem cellsQ_snoc (L : List (Int × Int)) (x : Int × Int) : cellsQ L ++ [.int .i64 x.1, .int .i64 x.2] = cellsQ (L ++ [x]) := by
  unfold cellsQ; rw [List.flatMap_append]; rfl
theorem cellsQ_at : ∀ (L : List (Int × Int)) (i : Nat) (h : i < L.length), (cellsQ L)[i * 2]? = some (.int .i64 L[i].1) ∧ (cellsQ L)[i * 2 + 1]? = some (.int .i64 L[i].2) := by
  intro L
  induction L with
  | nil => intro i h; cases h
  | cons x L ih =>
    intro i h
    have e : cellsQ (x :: L) = .int .i64 x.1 :: .int .i64 x.2 :: cellsQ L := rfl
    rw [e]
    cases i with
    | zero => exact ⟨rfl, rfl⟩
    | succ i =>
      have := ih i (by simpa using h)
      rw [show (i + 1) * 2 = i * 2 + 1 + 1 by omega]
      simpa using this
def OwnQ (B : Nat) (w : World) (v : Value) (L : List (Int × Int)) : Prop := w.ownsRow B 25 2 v L.length (cellsQ L)
theorem OwnQ.nil (B : Nat) (w : World) : OwnQ B w (.slice none 0 0) [] := World.ownsRow_nil _ _ _ _
theorem OwnQ.alloc {B : Nat} {w : World} {v : Value} {L : List (Int × Int)} (h : OwnQ B w v L) (o : Obj) : OwnQ B (w.alloc o) v L := World.ownsRow.alloc h o
theorem OwnQ.lower {w : World} {B B' : Nat} {v : Value} {L : List (Int × Int)} (h : OwnQ B w v L) (hB : B' ≤ B) : OwnQ B' w v L := by
  obtain ⟨h1, h2⟩ := h
  refine ⟨h1, ?_⟩
  rcases h2 with h2 | ⟨g, cap, cur, rfl, hg, hrest⟩
  · exact .inl h2
  · exact .inr ⟨g, cap, cur, rfl, by omega, hrest⟩
def QRow (w : World) (b off : Nat) (L : List (Int × Int)) : Prop :=
  b < w.heap.size ∧ ∀ k (h : k < L.length), w.cell? ⟨b, off + k * 2, none⟩ = some (.int .i64 L[k].1) ∧ w.cell? ⟨b, off + k * 2 + 1, none⟩ = some (.int .i64 L[k].2)
theorem QRow.later {w w' : World} {b off : Nat} {L : List (Int × Int)} (h : QRow w b off L) (hB : Below w.heap.size w w') : QRow w' b off L := by
  obtain ⟨h0, h1⟩ := h
  obtain ⟨hc, _⟩ := bcell hB
  have hz := hB.size
  exact ⟨by omega, fun i hi => ⟨by rw [hc _ _ h0]; exact (h1 i hi).1, by rw [hc _ _ h0]; exact (h1 i hi).2⟩⟩
/-- A slice that reads as a list of addresses. -/
def IsQ (w : World) (a : Option Addr) (n : Nat) (L : List (Int × Int)) : Prop := L.length = n ∧ (0 < n → ∃ b off, a = some ⟨b, off, none⟩ ∧ QRow w b off L)
theorem IsQ.later {w w' : World} {a : Option Addr} {n : Nat} {L : List (Int × Int)} (h : IsQ w a n L) (hB : Below w.heap.size w w') : IsQ w' a n L :=
  ⟨h.1, fun h0 => by obtain ⟨b, off, hb, hr⟩ := h.2 h0; exact ⟨b, off, hb, hr.later hB⟩⟩
theorem OwnQ.isQ {B : Nat} {w : World} {v : Value} {L : List (Int × Int)} (h : OwnQ B w v L) : ∃ a cap, v = .slice a L.length cap ∧ IsQ w a L.length L := by
  have h' := h
  rcases h.2 with ⟨rfl, h0⟩ | ⟨g, cap, cur, rfl, _, hh, hc, _⟩
  · exact ⟨none, 0, by rw [h0], rfl, fun h => by omega⟩
  · refine ⟨_, cap, rfl, rfl, fun _ => ⟨g, 0, rfl, (Array.getElem?_eq_some_iff.1 hh).1, fun i hi => ?_⟩⟩
    have h3 := cellsQ_at L i hi
    have key : ∀ j, j < L.length * 2 → w.cell? ⟨g, j, none⟩ = (cellsQ L)[j]? := fun j hj => World.ownsRow.cellAt h' j hj
    refine ⟨?_, ?_⟩
    · rw [Nat.zero_add, key _ (by omega)]; exact h3.1
    · rw [Nat.zero_add, key _ (by omega)]; exact h3.2
theorem wpList_appQ {ops : Array Oper} {rest : List Oper} {o : Oper} {a : Act} {w : World} {Q : Exit → Act → World → Prop} (hgd : o.guard = none) (s x : Operand)
    (ho : o.op = .call { callee := .builtin .append, args := #[s, x], argTypes := #[32, 32] }) (B : Nat) (v : Value) (l : List (Int × Int)) (hs : a.eval s = v) (hown : OwnQ B w v l)
    (g : Nat) (r : Int × Int) (hx : a.eval x = .slice (some ⟨g, 0, none⟩) 1 1) (hc : w.cell? ⟨g, 0, none⟩ = some (.int .i64 r.1) ∧ w.cell? ⟨g, 1, none⟩ = some (.int .i64 r.2)) (hl : l.length ≤ 100000000) (hB : B ≤ w.heap.size)
    (h : ∀ v' w', OwnQ B w' v' (l ++ [r]) → Below B w w' → wpList Tryd.prog ops Q rest (a.put o.dst v') w') : wpList Tryd.prog ops Q (o :: rest) a w := by
  obtain ⟨i0, hi, hz0, hz1, hz2⟩ := info_parts infoRefQ
  refine wpList_append_own w hgd s x 32 ho B 25 i0 (.agg #[.int .i64 0, .int .i64 0]) 2 16 Tryd.underlying32 hi hz0 hz1 hz2 rfl (by decide) v l.length (cellsQ l) hs hown ⟨g, 0, none⟩ 1 1 [.int .i64 r.1, .int .i64 r.2] hx rfl ?_ ?_ ?_ ?_ hB ?_
  · intro j u hj
    obtain ⟨c0, c1⟩ := hc
    match j, hj with
    | 0, hj => simp at hj; subst hj; exact c0
    | 1, hj => simp at hj; subst hj; exact c1
  · intro u hu; simp at hu; rcases hu with rfl | rfl <;> rfl
  · unfold maxLen; omega
  · omega
  · intro v' w' ho' hg _
    refine h v' w' ?_ ((Below.refl _ _).grown hg hB (fun k hk => (World.ownsRow.lt hown k hk).1))
    unfold OwnQ
    rw [List.length_append, ← cellsQ_snoc]; exact ho'
def arV (a b c d : Int) : Int := if ckB a b c d = true then (c - a + 1) * (d - b + 1) else 0
theorem arV_t {a b c d : Int} (h : ckB a b c d = true) : arV a b c d = (c - a + 1) * (d - b + 1) := by unfold arV; rw [if_pos h]
theorem arV_f {a b c d : Int} (h : ckB a b c d = false) : arV a b c d = 0 := by unfold arV; rw [if_neg (by rw [h]; decide)]
theorem prod_le {x y : Int} (h0 : 1 ≤ x) (h1 : x ≤ 1024) (h2 : 1 ≤ y) (h3 : y ≤ 1024) : 1 ≤ x * y ∧ x * y ≤ 1048576 := by
  have a := Int.mul_le_mul h1 h3 (by omega) (by omega)
  have b := Int.mul_le_mul h0 h2 (by omega) (by omega)
  omega
theorem ret2II {a b c d : Int} (h : a = c) (h' : b = d) : Ending.returned (.tuple #[.int .i64 a, .int .i64 b]) = .returned (.tuple #[.int .i64 c, .int .i64 d]) := by rw [h, h']
set_option maxHeartbeats 1600000 in
theorem area_any (a b c d : Int) (w : World) :
    Calls Tryd.prog 15 #[.agg #[.int .i64 a, .int .i64 b, .int .i64 c, .int .i64 d]] w fun e w' => e = .returned (.tuple #[.int .i64 (arV a b c d), .int .i64 (ckE a b c d)]) ∧ Below w.heap.size w w' := by
  have HF := Lib.hid (Four.start w a b c d 23)
  have HB0 := Lib.hid (below_alloc w (.cells #[.int .i64 a, .int .i64 b, .int .i64 c, .int .i64 d] 23))
  go_enter Tryd.func15, Tryd.ntmps15
  go_wp2_with fail
  refine (rcheck_any a b c d _).mono ?_
  rintro e w1 ⟨rfl, hB⟩
  have HF1 := Lib.hid (HF.out.later hB)
  have HB1 := Lib.hid (Below.next HB0.out hB)
  clear hB
  cases hc : ckB a b c d
  · have HA := Lib.hid (arV_f hc)
    have HCK := Lib.hid (ckE_f hc)
    rw [HCK.out]
    clear hc
    go_wp2_with fail
    go_ret2
    exact ⟨ret2II HA.out.symm HCK.out.symm, HB1.out⟩
  · have HA := Lib.hid (arV_t hc)
    have HCK := Lib.hid (ckE_t hc)
    rw [HCK.out]
    rw [ckB_iff] at hc
    obtain ⟨⟨k1, k2, k3, k4⟩, ⟨k5, k6, k7, k8⟩, k9, k10⟩ := hc
    obtain ⟨_, p1, p2, p3, p4⟩ := HF1.out
    have hp := prod_le (x := c - a + 1) (y := d - b + 1) (by omega) (by omega) (by omega) (by omega)
    have hwr : IntKind.i64.wrap ((c - a + 1) * (d - b + 1)) = (c - a + 1) * (d - b + 1) := Go.IntWalk.i64_in _ (by omega)
    obtain ⟨hp1, hp2⟩ := hp
    go_wp2_with fail
    go_ret2
    exact ⟨ret2II (by rw [HA.out]) HCK.out.symm, HB1.out⟩
end Go.Proofs.YtbkbikkieabcmaaDoor.Re
