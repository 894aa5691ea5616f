/- The steps of a drawn region that holds appends and stores to memory of its own. -/
import Derived.Test.YtdhahiodnmmkeaaGreatDoorMge
import Derived.Test.YtdhahiodnmmkeaaGreatDoorMga
namespace Go.Proofs.YtdhahiodnmmkeaaGreatDoor
open Go Go.RowKit
def blkV : Value → Option Nat
  | .slice (some a) _ _ => some a.block
  | .pointer (some a) => some a.block
  | _ => none
/-- A value that hangs on nothing. -/
def fbC (c : Value) : FB := (fun _ v _ => v = c, fun _ _ => none)
/-- A list of the region's own. -/
def fbL {α : Type} (e : TypeId) (c : α → List Value) (n Z : Nat) (L : List α) : FB := (fun _ v w => OwnOf e c n Z w v L, fun _ v => v.ownBlock)
/-- A new block. -/
def fbN (mk : Nat → Value) (Z : Nat) (o : Obj) : FB := (fun _ v w => ∃ g, v = mk g ∧ Z ≤ g ∧ w.heap[g]? = some o, fun _ v => blkV v)
section
variable {α : Type} {e : TypeId} {c : α → List Value} {n Z : Nat} {M : List α}
theorem good_C (c : Value) (u : List Nat) : GoodO Z (fbC c) u := ⟨fun _ _ _ _ _ _ h => h, fun _ _ _ _ _ h => h, fun _ _ _ _ => rfl⟩
theorem good_L (u : List Nat) : GoodO Z (fbL e c n Z M) u := by
  refine ⟨fun vs v w w' hk hs h => ?_, fun _ _ _ _ _ h => h, fun _ _ _ _ => rfl⟩
  obtain ⟨h1, h2⟩ := h
  refine ⟨h1, ?_⟩
  rcases h2 with h2 | ⟨g, cap, cur, rfl, hg, hh, hrest⟩
  · exact .inl h2
  · refine .inr ⟨g, cap, cur, rfl, hg, ?_, hrest⟩
    rw [hk g (Array.getElem?_eq_some_iff.1 hh).1 (.inr rfl)]; exact hh
theorem good_N {mk : Nat → Value} {o : Obj} (u : List Nat) (hm : ∀ g, blkV (mk g) = some g) : GoodO Z (fbN mk Z o) u := by
  refine ⟨fun vs v w w' hk hs h => ?_, fun _ _ _ _ _ h => h, fun _ _ _ _ => rfl⟩
  obtain ⟨g, rfl, hg, hh⟩ := h
  exact ⟨g, rfl, hg, by rw [hk g (Array.getElem?_eq_some_iff.1 hh).1 (.inr (hm g))]; exact hh⟩
theorem isOf_heap {w : World} {g : Nat} {cs : Array Value} {t : TypeId} {x : α} (hh : w.heap[g]? = some (.cells cs t)) (h : cs = (c x).toArray) : IsOf c n w (some ⟨g, 0, none⟩) 1 [x] := by
  subst h
  refine ⟨rfl, fun _ => ⟨g, 0, rfl, (Array.getElem?_eq_some_iff.1 hh).1, fun k hk j v hv => ?_⟩⟩
  obtain rfl : k = 0 := by simp at hk; exact hk
  simp at hv
  simp [World.cell?, hh, hv]
theorem Below.grownBy {w w' : World} (h : Below w.heap.size w w') (r : Option Nat) : w.grownBy w' r := ⟨h.os, h.tape, h.output, h.size, fun k hk _ => h.block k hk⟩
end
section
variable {P : Program} {ops : Array Oper} {S : World → Prop} {Z : Nat} {L : List FB} {E U D : List (List Nat)} {A : (Nat → Value) → Act} {o : Oper} {i : Nat}
variable {α : Type} {e : TypeId} {c : α → List Value} {n : Nat} {M : List α}
theorem seqo_cons {Q : Exit → Act → World → Prop} {l : List Oper} (h : ObO P ops S Z L E U D A i o) (hr : SeqO P ops S Z L E U D Q A (i + 1) l) : SeqO P ops S Z L E U D Q A i (o :: l) := ⟨h, hr⟩
theorem seqo_end {Q : Exit → Act → World → Prop} (h : ∀ vs w, S w → Z ≤ w.heap.size → EndO L E vs w 0 L → Q .normal (A vs) w) : SeqO P ops S Z L E U D Q A i [] := h
theorem obo_run {v : Value} (hx : L.getD i dflFB = fbC v) (hw : ∀ vs w, DepO L vs w (D.getD i []) → Region.wanted o (yielded ops (A vs).tmps) = true)
    (h : ∀ vs w, S w → DepO L vs w (D.getD i []) → (execOp (A vs).eval o).run P w = .ok (.value v) w) : ObO P ops S Z L E U D A i o :=
  fun vs w hS _ hD => .inl ⟨hw vs w hD, by
    unfold OperR; rw [h vs w hS hD]
    exact ⟨none, World.grownBy.refl w _, by simp, by show (L.getD i dflFB).1 _ _ _; rw [hx]; rfl, fun g hg => by have hg : (L.getD i dflFB).2 _ _ = some g := hg; rw [hx] at hg; cases hg⟩⟩
/-- A call whose result hangs on nothing. -/
theorem obo_call {v : Value} (hx : L.getD i dflFB = fbC v) {f : FuncId} (args : (Nat → Value) → Array Value) (hw : ∀ vs w, DepO L vs w (D.getD i []) → Region.wanted o (yielded ops (A vs).tmps) = true)
    (h : ∀ vs w, S w → DepO L vs w (D.getD i []) → (execOp (A vs).eval o).run P w = .ok (.enter f (args vs)) w)
    (hc : ∀ vs w, S w → Z ≤ w.heap.size → DepO L vs w (D.getD i []) → Calls P f (args vs) w fun e w' => e = .returned v ∧ Below w.heap.size w w') : ObO P ops S Z L E U D A i o :=
  fun vs w hS hZ hD => .inl ⟨hw vs w hD, by
    unfold OperR; rw [h vs w hS hD]
    refine (hc vs w hS hZ hD).mono fun e w' ⟨he, hB⟩ => ⟨v, he, none, Below.grownBy hB _, by simp, by show (L.getD i dflFB).1 _ _ _; rw [hx]; rfl, fun g hg => ?_⟩
    have hg : (L.getD i dflFB).2 _ _ = some g := hg
    rw [hx] at hg; cases hg⟩
/-- A new block. -/
theorem obo_new {mk : Nat → Value} {b : Obj} (hx : L.getD i dflFB = fbN mk Z b) (hm : ∀ g, blkV (mk g) = some g) (hw : ∀ vs w, DepO L vs w (D.getD i []) → Region.wanted o (yielded ops (A vs).tmps) = true)
    (h : ∀ vs w, S w → DepO L vs w (D.getD i []) → (execOp (A vs).eval o).run P w = .ok (.value (mk w.heap.size)) (w.alloc b)) : ObO P ops S Z L E U D A i o :=
  fun vs w hS hZ hD => .inl ⟨hw vs w hD, by
    unfold OperR; rw [h vs w hS hD]
    refine ⟨none, World.grownBy_alloc w b _, by simp, ?_, fun g hg => ?_⟩
    · show (L.getD i dflFB).1 _ _ _
      rw [hx]
      exact ⟨_, rfl, hZ, heap_alloc_new w b⟩
    · have hg : (L.getD i dflFB).2 _ _ = some g := hg
      rw [hx] at hg
      have hg : blkV (mk w.heap.size) = some g := hg
      rw [hm] at hg
      injection hg with hg
      subst hg
      exact ⟨by simp, .inl (Nat.le_refl _)⟩⟩
/-- Three cells stored into a block. -/
theorem set3 (w : World) (g : Nat) (t : TypeId) (x y z x' y' z' : Value) (h : w.heap[g]? = some (.cells #[x, y, z] t)) :
    w.grownBy (((w.setCell ⟨g, 0, none⟩ x').setCell ⟨g, 1, none⟩ y').setCell ⟨g, 2, none⟩ z') (some g) ∧ (((w.setCell ⟨g, 0, none⟩ x').setCell ⟨g, 1, none⟩ y').setCell ⟨g, 2, none⟩ z').heap[g]? = some (.cells #[x', y', z'] t) := by
  refine ⟨⟨rfl, rfl, rfl, by simp [World.setCell], fun k hk hne => ?_⟩, ?_⟩
  · have : k ≠ g := fun e => hne (by rw [e])
    rw [Below.heap_setCell _ _ _ _ this, Below.heap_setCell _ _ _ _ this, Below.heap_setCell _ _ _ _ this]
  · obtain ⟨hl, he⟩ := Array.getElem?_eq_some_iff.1 h
    simp [World.setCell, Array.getElem?_modify, h]
end
end Go.Proofs.YtdhahiodnmmkeaaGreatDoor
