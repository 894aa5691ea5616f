/- The contract of down: what it appends to the list of parts. -/
import Derived.Test.YtndijajaddkbhaaOverB
import Derived.Test.YtndijajaddkbhaaSeqP
import Derived.Deep.CutRange
namespace Go.Proofs.Ytndijajaddkbhaa.Re
open Go.RowKit AM
abbrev ptrV (b : Nat) : Value := .pointer (some ⟨b, 0, none⟩)
/-- What down finds: the boxes of the rules, of the list and of itself, and the list so far. -/
structure Sd (W0 : World) (A : Option Addr) (len cap : Nat) (w : World) (v : Value) (P : List (R4 × Nat)) : Prop where
  bel : Below W0.heap.size W0 w
  rbx : Boxed w (W0.heap.size + 1) 22 (.slice A len cap)
  lbx : Boxed w (W0.heap.size + 2) 115 v
  dbx : Boxed w (W0.heap.size + 3) 163 (.func (.func 119) #[] #[ptrV (W0.heap.size + 1), ptrV (W0.heap.size + 3), ptrV (W0.heap.size + 2)])
  own : OwnP5 W0.heap.size w v P
/-- What it leaves as it was. -/
structure St (n : Nat) (w : World) (v : Value) (w' : World) (v' : Value) : Prop where
  dn : Dn (n + 2) v.ownBlock w w'
  rw : Rw w.heap.size v.ownBlock v'.ownBlock
section
variable {W0 w w1 w' : World} {A : Option Addr} {len cap : Nat} {v v1 v' : Value} {P : List (R4 × Nat)} {n : Nat}
theorem St.refl (n : Nat) (w : World) (v : Value) : St n w v w v := ⟨Dn.refl _ _ _, Rw.refl _ _⟩
theorem St.trans (h : St n w v w1 v1) (k : St n w1 v1 w' v') : St n w v w' v' := ⟨h.dn.trans h.rw k.dn, h.rw.trans h.dn.size k.rw⟩
theorem St.of_below (h : Below w.heap.size w w') : St n w v w' v := ⟨Dn.of_below h, Rw.refl _ _⟩
theorem Sd.below (h : Sd W0 A len cap w v P) (hB : Below w.heap.size w w') : Sd W0 A len cap w' v P :=
  ⟨Below.next h.bel hB, (hB.block _ h.rbx.lt).trans h.rbx, (hB.block _ h.lbx.lt).trans h.lbx, (hB.block _ h.dbx.lt).trans h.dbx, h.own.later hB⟩
theorem Sd.row (h : Sd W0 A len cap w v P) : ∀ g, v.ownBlock = some g → W0.heap.size ≤ g ∧ g < w.heap.size := World.ownsRow.lt h.own
/-- Behind an append to the list. -/
theorem Sd.appended {tmp : Obj} {x : R4 × Nat} (h : Sd W0 A len cap w v P) (hown : OwnP5 W0.heap.size w1 v' (P ++ [x])) (hg : (w.alloc tmp).grownBy w1 v.ownBlock) (hr : v'.ownBlock = v.ownBlock ∨ v'.ownBlock = some (w.alloc tmp).heap.size) :
    Boxed w1 (W0.heap.size + 2) 115 v ∧ Sd W0 A len cap (w1.setCell ⟨W0.heap.size + 2, 0, none⟩ v') v' (P ++ [x]) ∧ St W0.heap.size w v (w1.setCell ⟨W0.heap.size + 2, 0, none⟩ v') v' := by
  have hn0 : W0.heap.size ≤ w.heap.size := h.bel.size
  obtain ⟨g1, g2, g3, _, g5⟩ := Boxed.appended h.lbx (by decide) h.own hn0 (by omega) hown hg
  have hsz := hg.size
  rw [World.size_alloc] at hsz
  have other : ∀ {B : Nat} {t : TypeId} {u : Value}, t ≠ 119 → B ≠ W0.heap.size + 2 → Boxed w B t u → Boxed (w1.setCell ⟨W0.heap.size + 2, 0, none⟩ v') B t u := fun ht hB hb =>
    ((hb.alloc tmp).kept hg (hb.not_row ht h.own)).other hB v'
  refine ⟨g1, ⟨h.bel.trans g5, other (by decide) (by omega) h.rbx, g2, other (by decide) (by omega) h.dbx, g3⟩, ⟨⟨hg.os, hg.tape, hg.output, ?_, fun k hk h1 h2 => ?_⟩, ?_⟩⟩
  · simp only [World.setCell, Array.size_modify]; omega
  · rw [Below.heap_setCell _ _ _ _ h1, hg.block k (by rw [World.size_alloc]; omega) h2]
    exact Below.heap_alloc _ _ _ hk
  · rcases hr with hr | hr
    · exact .inl hr
    · exact .inr ⟨_, hr, by rw [World.size_alloc]; omega⟩
theorem St.boxed (h : St n w v w' v') {B : Nat} {t : TypeId} {u : Value} (hb : Boxed w B t u) (h1 : B ≠ n + 2) (h2 : some B ≠ v.ownBlock) : Boxed w' B t u := h.dn.boxed hb h1 h2
end
/-- The rows of a call's own list of ranges. -/
theorem ownR_row {B : Nat} {w : World} {v : Value} {l : List R4} (h : OwnR B w v l) : ∃ a cap, v = .slice a l.length cap ∧ (0 < l.length → ∃ g, a = some ⟨g, 0, none⟩ ∧ B ≤ g ∧ RRow w g 0 l) := by
  obtain ⟨a, cap, hv, hi⟩ := h.isR
  refine ⟨a, cap, hv, fun h0 => ?_⟩
  obtain ⟨b, off, he, hr⟩ := hi.2 h0
  rcases h.2 with ⟨h1, h2⟩ | ⟨g, cp, cur, h1, hg, _⟩
  · omega
  · rw [h1] at hv
    injection hv with e1 e2 e3
    rw [he] at e1
    injection e1 with e1
    injection e1 with e4 e5
    subst e4; subst e5
    exact ⟨g, he, hg, hr⟩
theorem RRow.far {w w' : World} {g : Nat} {l : List R4} (h : RRow w g 0 l) (hb : w'.heap[g]? = w.heap[g]?) (hs : w.heap.size ≤ w'.heap.size) : RRow w' g 0 l :=
  ⟨Nat.lt_of_lt_of_le h.1 hs, fun k hk => by
    obtain ⟨c1, c2, c3, c4⟩ := h.2 k hk
    have key : ∀ j, w'.cell? ⟨g, j, none⟩ = w.cell? ⟨g, j, none⟩ := fun j => World.cell?_of_block (a := ⟨g, j, none⟩) hb
    exact ⟨(key _).trans c1, (key _).trans c2, (key _).trans c3, (key _).trans c4⟩⟩
theorem Four.dn {lb : Nat} {row : Option Nat} {w w' : World} {p : Nat} {a b c d : Int} (h : Four w p a b c d) (hd : Dn lb row w w') (h1 : p ≠ lb) (h2 : some p ≠ row) : Four w' p a b c d := by
  obtain ⟨h0, c1, c2, c3, c4⟩ := h
  exact ⟨Nat.lt_of_lt_of_le h0 hd.size, hd.cell h0 h1 h2 c1, hd.cell h0 h1 h2 c2, hd.cell h0 h1 h2 c3, hd.cell h0 h1 h2 c4⟩
theorem St.four {n : Nat} {w w' : World} {v v' : Value} {p : Nat} {a b c d : Int} (h : St n w v w' v') (hf : Four w p a b c d) (h1 : p ≠ n + 2) (h2 : ∀ q, v.ownBlock = some q → q < p) : Four w' p a b c d :=
  Four.dn hf h.dn h1 (fun e => by have := h2 p e.symm; omega)
section
theorem wpList_appP {ops : Array Oper} {rest : List Oper} {o : Oper} {a : Act} {w : World} {Q : Exit → Act → World → Prop} (hgd : o.guard = none) (s x : Operand)
    (ho : o.op = .call { callee := .builtin .append, args := #[s, x], argTypes := #[115, 115] }) (B : Nat) (v : Value) (P : List (R4 × Nat)) (hs : a.eval s = v) (hown : OwnP5 B w v P)
    (g : Nat) (y : R4 × Nat) (hx : a.eval x = .slice (some ⟨g, 0, none⟩) 1 1) (hM : IsOf cells5 5 w (some ⟨g, 0, none⟩) 1 [y]) (hl : P.length ≤ 2000000) (hB : B ≤ w.heap.size)
    (h : ∀ v' w', OwnP5 B w' v' (P ++ [y]) → w.grownBy w' v.ownBlock → (v'.ownBlock = v.ownBlock ∨ v'.ownBlock = some w.heap.size) → wpList Try.prog ops Q rest (a.put o.dst v') w') : wpList Try.prog ops Q (o :: rest) a w := by
  obtain ⟨i0, hi, hz0, hz1, hz2⟩ := info_parts infoPart
  refine wpList_append_any w hgd s x 115 ho B 119 i0 _ 5 40 Try.underlying115 hi hz0 hz1 hz2 rfl (by decide) v P.length (P.flatMap cells5) hs hown w.heap.size _ 1 1 ([y].flatMap cells5) hx (hM.reads cells5_len) ?_ ?_ ?_ hB ?_
  · intro u hu
    obtain ⟨z, _, hz⟩ := List.mem_flatMap.1 hu
    exact cells5_one z u hz
  · unfold maxLen; omega
  · omega
  · intro v' w' ho' hg hr
    refine h v' w' ?_ hg hr
    unfold OwnP5 OwnOf
    rw [List.length_append, List.flatMap_append]; exact ho'
end
theorem set4 (w : World) (g : Nat) (t : TypeId) (x y z u x' y' z' u' : Value) (h : w.heap[g]? = some (.cells #[x, y, z, u] t)) :
    w.grownBy ((((w.setCell ⟨g, 0, none⟩ x').setCell ⟨g, 1, none⟩ y').setCell ⟨g, 2, none⟩ z').setCell ⟨g, 3, none⟩ u') (some g) ∧ ((((w.setCell ⟨g, 0, none⟩ x').setCell ⟨g, 1, none⟩ y').setCell ⟨g, 2, none⟩ z').setCell ⟨g, 3, none⟩ u').heap[g]? = some (.cells #[x', y', z', u'] t) := by
  refine ⟨⟨rfl, rfl, rfl, by simp [World.setCell], fun k hk hne => ?_⟩, ?_⟩
  · have : k ≠ g := fun e => hne (by rw [e])
    rw [Below.heap_setCell _ _ _ _ this, Below.heap_setCell _ _ _ _ this, Below.heap_setCell _ _ _ _ this, Below.heap_setCell _ _ _ _ this]
  · obtain ⟨hl, he⟩ := Array.getElem?_eq_some_iff.1 h
    simp [World.setCell, Array.getElem?_modify, h]
end Go.Proofs.Ytndijajaddkbhaa.Re
