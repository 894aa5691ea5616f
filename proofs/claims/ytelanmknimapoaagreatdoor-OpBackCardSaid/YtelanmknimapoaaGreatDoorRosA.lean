/- Contracts of roster: New, change, Login, Logout, In. -/
import Derived.Test.YtelanmknimapoaaGreatDoorBitA
import Derived.RegionTactic
import Derived.BigRegion
import Derived.BigQuiet
import Derived.StillTailTactics
import Derived.Laws.OwnMore
namespace Go.Proofs.YtelanmknimapoaaGreatDoor
open Go.RowKit
theorem bcell {W w1 : World} (hb : Below W.heap.size W w1) : (∀ b o, b < W.heap.size → w1.cell? ⟨b, o, none⟩ = W.cell? ⟨b, o, none⟩) ∧ (∀ b o, b < W.heap.size → w1.frozen? ⟨b, o, none⟩ = W.frozen? ⟨b, o, none⟩) :=
 ⟨fun b o h => hb.cell (p := ⟨b, o, none⟩) h, fun b o h => hb.frozen (p := ⟨b, o, none⟩) h⟩
theorem Below.next {W w1 w2 : World} (h : Below W.heap.size W w1) (k : Below w1.heap.size w1 w2) : Below W.heap.size W w2 := h.trans (k.mono h.size)
def bitI (b : Bool) : Int := if b then 1 else 0
def Ros (w : World) (b : Nat) (n : Int) (S : Nat → Bool) : Prop :=
 b < w.heap.size ∧ w.cell? ⟨b, 0, none⟩ = some (.int .i64 n) ∧ (∀ i, i < 64 → w.cell? ⟨b, 1 + i, none⟩ = some (.int .i64 (bitI (S i)))) ∧ ∀ o, w.frozen? ⟨b, o, none⟩ = false
theorem below_alloc (w : World) (o : Obj) : Below w.heap.size w (w.alloc o) := (Below.refl _ _).alloc (Nat.le_refl _) _
theorem Ros.later {w w' : World} {b : Nat} {n : Int} {S : Nat → Bool} (h : Ros w b n S) (hB : Below w.heap.size w w') : Ros w' b n S := by
 obtain ⟨h0, h1, h2, h3⟩ := h
 obtain ⟨hc, hf⟩ := bcell hB
 have hz := hB.size
 exact ⟨by omega, by rw [hc _ _ h0]; exact h1, fun i hi => by rw [hc _ _ h0]; exact h2 i hi, fun o => by rw [hf _ _ h0]; exact h3 o⟩
def updS (S : Nat → Bool) (u : Nat) (v : Bool) : Nat → Bool := fun i => if i = u then v else S i
theorem Ros.set {w : World} {b : Nat} {n : Int} {S : Nat → Bool} (h : Ros w b n S) (u : Nat) (hu : u < 64) (v : Bool) : Ros (w.setCell ⟨b, 1 + u, none⟩ (.int .i64 (bitI v))).drew b n (updS S u v) := by
 obtain ⟨h0, h1, h2, h3⟩ := h
 refine ⟨by simpa using h0, ?_, fun i hi => ?_, fun o => by simpa using h3 o⟩
 · show (w.setCell _ _).cell? _ = _
   rw [World.cell?_setCell_other _ _ _ _ (by simp)]; exact h1
 · show (w.setCell _ _).cell? _ = _
   unfold updS
   by_cases hiu : i = u
   · subst hiu
     rw [World.cell?_setCell_same _ _ _ (h2 i hi), if_pos rfl]
   · rw [World.cell?_setCell_other _ _ _ _ (by simp), if_neg hiu]; exact h2 i hi
end Go.Proofs.YtelanmknimapoaaGreatDoor
