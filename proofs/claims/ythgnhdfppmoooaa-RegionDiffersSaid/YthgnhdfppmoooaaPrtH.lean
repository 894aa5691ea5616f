/- The contract of region.Parts. -/
import Derived.Test.YthgnhdfppmoooaaPrtG
namespace Go.Proofs.Ythgnhdfppmoooaa.Re
open Go.RowKit AM
set_option linter.unusedVariables false
set_option linter.unusedSimpArgs false
/-- A list of one's own is kept where another one, of another type, has grown. -/
theorem OwnOf.apart {α β : Type} {c : α → List Value} {c' : β → List Value} {n n' : Nat} {e e' : TypeId} {B B' : Nat} {w w1 : World} {v v' : Value} {L : List α} {L' : List β} (h : OwnOf e c n B w v L) (k : OwnOf e' c' n' B' w v' L') (hne : e ≠ e') (hg : w.grownBy w1 v'.ownBlock) : OwnOf e c n B w1 v L := by
  refine World.ownsRow.kept h hg ?_
  rcases h.2 with ⟨rfl, _⟩ | ⟨g, cap, cur, rfl, _, hh, _⟩
  · exact .inl rfl
  · right
    intro he
    rcases k.2 with ⟨rfl, _⟩ | ⟨g', cap', cur', rfl, _, hh', _⟩
    · cases he
    · simp only [Value.ownBlock, Option.some.injEq] at he
      subst he
      rw [hh] at hh'
      injection hh' with hh'
      injection hh' with _ h2 _
      exact hne h2
/-- A block behind a row that grew. -/
theorem cell_apart {α : Type} {c : α → List Value} {n : Nat} {e : TypeId} {B z : Nat} {w w1 : World} {v : Value} {L : List α} (k : OwnOf e c n B w v L) (hg : w.grownBy w1 v.ownBlock) (hz : z < w.heap.size) (hne : ∀ g, v.ownBlock = some g → g ≠ z) (j : Nat) : w1.cell? ⟨z, j, none⟩ = w.cell? ⟨z, j, none⟩ :=
  World.cell?_of_block (a := ⟨z, j, none⟩) (hg.block z hz (fun e => hne z e.symm rfl))
theorem isOf_at {α : Type} {c : α → List Value} {n : Nat} (w : World) (cs : Array Value) (t : TypeId) (x : α) (q : Nat) (hq : q = w.heap.size) (h : cs = (c x).toArray) : IsOf c n (w.alloc (.cells cs t)) (some ⟨q, 0, none⟩) 1 [x] := by
  subst hq; exact isOf_new w cs t x h
def rects (D : List (R4 × Nat)) : List R4 := D.map (·.1)
def idxs (D : List (R4 × Nat)) : List Int := D.map fun x => (x.2 : Int)
end Go.Proofs.Ythgnhdfppmoooaa.Re
