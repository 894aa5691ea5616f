/- The steps of a drawn region that holds appends and stores to memory of its own. -/
import Derived.Test.YtdhahiodnmmkeaaGreatDoorMgd
import Derived.Test.YtdhahiodnmmkeaaGreatDoorRow
namespace Go.Proofs.YtdhahiodnmmkeaaGreatDoor
open Go Go.RowKit
def blkV : Value → Option Nat
 | .slice (some a) _ _ => some a.block
 | .pointer (some a) => some a.block
 | _ => none
def fbC (c : Value) : FB := (fun _ v _ => v = c, fun _ _ => none)
def fbN (mk : Nat → Value) (Z : Nat) (o : Obj) : FB := (fun _ v w => ∃ g, v = mk g ∧ Z ≤ g ∧ w.heap[g]? = some o, fun _ v => blkV v)
def fbS (j : Nat) (Z : Nat) (o : Obj) : FB := (fun vs _ w => ∃ g, vs j = .pointer (some ⟨g, 0, none⟩) ∧ Z ≤ g ∧ w.heap[g]? = some o, fun vs _ => blkV (vs j))
section
variable {α : Type} {e : TypeId} {c : α → List Value} {n Z : Nat} {M : List α}
theorem zhu (c : Value) (u : List Nat) : GoodO Z (fbC c) u := ⟨fun _ _ _ _ _ _ h => h, fun _ _ _ _ _ h => h, fun _ _ _ _ => rfl⟩
theorem ybb {mk : Nat → Value} {o : Obj} (u : List Nat) (hm : ∀ g, blkV (mk g) = some g) : GoodO Z (fbN mk Z o) u := by
 refine ⟨fun vs v w w' hk hs h => ?_, fun _ _ _ _ _ h => h, fun _ _ _ _ => rfl⟩
 obtain ⟨g, rfl, hg, hh⟩ := h
 exact ⟨g, rfl, hg, by rw [hk g (Array.getElem?_eq_some_iff.1 hh).1 (.inr (hm g))]; exact hh⟩
theorem yba {j : Nat} {o : Obj} {u : List Nat} (hj : j ∈ u) : GoodO Z (fbS j Z o) u := by
 refine ⟨fun vs v w w' hk hs h => ?_, fun vs vs' v w hu h => ?_, fun vs vs' v hu => ?_⟩
 · obtain ⟨g, hv, hg, hh⟩ := h
   refine ⟨g, hv, hg, ?_⟩
   rw [hk g (Array.getElem?_eq_some_iff.1 hh).1 (.inr (by show blkV (vs j) = _; rw [hv]; rfl))]; exact hh
 · obtain ⟨g, hv, hg, hh⟩ := h
   exact ⟨g, by rw [← hu j hj]; exact hv, hg, hh⟩
 · show blkV (vs j) = blkV (vs' j)
   rw [hu j hj]
theorem Below.grownBy {w w' : World} (h : Below w.heap.size w w') (r : Option Nat) : w.grownBy w' r := ⟨h.os, h.tape, h.output, h.size, fun k hk _ => h.block k hk⟩
end
section
variable {P : Program} {ops : Array Oper} {S : World → Prop} {Z : Nat} {L : List FB} {E U D : List (List Nat)} {A : (Nat → Value) → Act} {o : Oper} {i : Nat}
variable {α : Type} {e : TypeId} {c : α → List Value} {n : Nat} {M : List α}
theorem zbf {Q : Exit → Act → World → Prop} {l : List Oper} (h : ObO P ops S Z L E U D A i o) (hr : SeqO P ops S Z L E U D Q A (i + 1) l) : SeqO P ops S Z L E U D Q A i (o :: l) := ⟨h, hr⟩
theorem zxt {Q : Exit → Act → World → Prop} (h : ∀ vs w, S w → Z ≤ w.heap.size → EndO L E vs w 0 L → Q .normal (A vs) w) : SeqO P ops S Z L E U D Q A i [] := h
theorem zem {v : Value} (hx : L.getD i zd2 = fbC v) (hw : ∀ vs w, DepO L vs w (D.getD i []) → Region.wanted o (yielded ops (A vs).tmps) = true)
 (h : ∀ vs w, S w → DepO L vs w (D.getD i []) → (execOp (A vs).eval o).run P w = .ok (.value v) w) : ObO P ops S Z L E U D A i o :=
 fun vs w hS _ hD => .inl ⟨hw vs w hD, by
  unfold OperR; rw [h vs w hS hD]
  exact ⟨none, World.grownBy.refl w _, by simp, by show (L.getD i zd2).1 _ _ _; rw [hx]; rfl, fun g hg => by have hg : (L.getD i zd2).2 _ _ = some g := hg; rw [hx] at hg; cases hg⟩⟩
theorem zvi {mk : Nat → Value} {b : Obj} (hx : L.getD i zd2 = fbN mk Z b) (hm : ∀ g, blkV (mk g) = some g) (hw : ∀ vs w, DepO L vs w (D.getD i []) → Region.wanted o (yielded ops (A vs).tmps) = true)
 (h : ∀ vs w, S w → DepO L vs w (D.getD i []) → (execOp (A vs).eval o).run P w = .ok (.value (mk w.heap.size)) (w.alloc b)) : ObO P ops S Z L E U D A i o :=
 fun vs w hS hZ hD => .inl ⟨hw vs w hD, by
  unfold OperR; rw [h vs w hS hD]
  refine ⟨none, World.grownBy_alloc w b _, by simp, ?_, fun g hg => ?_⟩
  · show (L.getD i zd2).1 _ _ _
    rw [hx]
    exact ⟨_, rfl, hZ, heap_alloc_new w b⟩
  · have hg : (L.getD i zd2).2 _ _ = some g := hg
    rw [hx] at hg
    have hg : blkV (mk w.heap.size) = some g := hg
    rw [hm] at hg
    injection hg with hg
    subst hg
    exact ⟨by simp, .inl (Nat.le_refl _)⟩⟩
theorem zno {j : Nat} {b b' : Obj} {mk : Nat → Value} (hx : L.getD i zd2 = fbS j Z b') (hj : L.getD j zd2 = fbN mk Z b) (hE : j ∈ E.getD i []) (hw : ∀ vs w, DepO L vs w (D.getD i []) → Region.wanted o (yielded ops (A vs).tmps) = true)
 (h : ∀ vs w, S w → Z ≤ w.heap.size → DepO L vs w (D.getD i []) → ∃ g w', vs j = .pointer (some ⟨g, 0, none⟩) ∧ Z ≤ g ∧ g < w.heap.size ∧ (execOp (A vs).eval o).run P w = .ok .skip w' ∧ w.grownBy w' (some g) ∧ w'.heap[g]? = some b') : ObO P ops S Z L E U D A i o :=
 fun vs w hS hZ hD => .inl ⟨hw vs w hD, by
  obtain ⟨g, w', hv, hg, hgl, hr, hgr, hb⟩ := h vs w hS hZ hD
  unfold OperR; rw [hr]
  have hjb : ∃ k, k ∈ (spOf L E U i).eats ∧ (spOf L E U k).blk vs (vs k) = some g := ⟨j, hE, by show (L.getD j zd2).2 _ _ = _; rw [hj]; show blkV (vs j) = _; rw [hv]; rfl⟩
  refine ⟨some g, hgr, fun g' h' => by injection h' with h'; subst h'; exact hjb, ?_, fun g' hg' => ?_⟩
  · show (L.getD i zd2).1 _ _ _
    rw [hx]; exact ⟨g, hv, hg, hb⟩
  · have hg' : (L.getD i zd2).2 _ _ = some g' := hg'
    rw [hx] at hg'
    have hg' : blkV (vs j) = some g' := hg'
    rw [hv] at hg'
    injection hg' with hg'
    have hg' : g = g' := hg'
    subst hg'
    exact ⟨by have := hgr.size; omega, .inr hjb⟩⟩
theorem set3 (w : World) (g : Nat) (t : TypeId) (x y z x' y' z' : Value) (h : w.heap[g]? = some (.cells #[x, y, z] t)) :
 w.grownBy (((w.setCell ⟨g, 0, none⟩ x').setCell ⟨g, 1, none⟩ y').setCell ⟨g, 2, none⟩ z') (some g) ∧ (((w.setCell ⟨g, 0, none⟩ x').setCell ⟨g, 1, none⟩ y').setCell ⟨g, 2, none⟩ z').heap[g]? = some (.cells #[x', y', z'] t) := by
 refine ⟨⟨rfl, rfl, rfl, by simp [World.setCell], fun k hk hne => ?_⟩, ?_⟩
 · have : k ≠ g := fun e => hne (by rw [e])
   rw [Below.heap_setCell _ _ _ _ this, Below.heap_setCell _ _ _ _ this, Below.heap_setCell _ _ _ _ this]
 · obtain ⟨hl, he⟩ := Array.getElem?_eq_some_iff.1 h
   simp [World.setCell, Array.getElem?_modify, h]
end
end Go.Proofs.YtdhahiodnmmkeaaGreatDoor
