/- ftext.convert: its contract. -/
import Derived.Test.YtdhahiodnmmkeaaGreatDoorMgg
import Derived.Test.YtdhahiodnmmkeaaGreatDoorProg
import Derived.WalkKit
import Derived.WalkSpells
import Derived.RangeFuncBox
import Derived.Test.YtdhahiodnmmkeaaGreatDoorValZn
import Derived.Test.YtdhahiodnmmkeaaGreatDoorDecRnd
namespace Go.Proofs.YtdhahiodnmmkeaaGreatDoor.Va
open Go Go.RowKit GM
set_option linter.unusedVariables false
set_option linter.unusedSimpArgs false
def cellsV (v : V3) : List Value := [.int .u8 (v.1 : Int), .int .i64 v.2.1, .string v.2.2]
theorem cellsV_len (v : V3) : (cellsV v).length = 3 := rfl
abbrev IsV (w : World) (a : Option Addr) (n : Nat) (L : List V3) : Prop := IsOf cellsV 3 w a n L
/-- The two slices in a block of their own. -/
def A2 (w : World) (p : Nat) (u v : Value) : Prop := w.heap[p]? = some (.cells #[u, v] 82)
theorem A2.lt {w : World} {p : Nat} {u v : Value} (h : A2 w p u v) : p < w.heap.size := (Array.getElem?_eq_some_iff.1 h).1
theorem A2.cells {w : World} {p : Nat} {u v : Value} (h : A2 w p u v) : w.cell? ⟨p, 0, none⟩ = some u ∧ w.cell? ⟨p, 1, none⟩ = some v ∧ w.frozen? ⟨p, 0, none⟩ = false ∧ w.frozen? ⟨p, 1, none⟩ = false := by
  unfold A2 at h
  refine ⟨?_, ?_, ?_, ?_⟩ <;> simp [World.cell?, World.frozen?, h]
theorem A2.later {w w' : World} {p : Nat} {u v : Value} (h : A2 w p u v) (hB : Below w.heap.size w w') : A2 w' p u v := (hB.block p h.lt).trans h
theorem A2.grown {w w' : World} {p : Nat} {u v : Value} {row : Option Nat} (h : A2 w p u v) (hg : w.grownBy w' row) (hr : row ≠ some p) : A2 w' p u v := (hg.block p h.lt (fun e => hr e.symm)).trans h
theorem A2.set0 {w : World} {p : Nat} {u v : Value} (h : A2 w p u v) (x : Value) : A2 (w.setCell ⟨p, 0, none⟩ x) p x v := by
  unfold A2 at *
  simp [World.setCell, Array.getElem?_modify, h]
theorem A2.set1 {w : World} {p : Nat} {u v : Value} (h : A2 w p u v) (x : Value) : A2 (w.setCell ⟨p, 1, none⟩ x) p u x := by
  unfold A2 at *
  simp [World.setCell, Array.getElem?_modify, h]
theorem B3.other {w : World} {p q k : Nat} {n : Int} {s : ByteArray} (h : B3 w p k n s) (hne : p ≠ q) (i : Nat) (x : Value) : B3 (w.setCell ⟨q, i, none⟩ x) p k n s := by
  unfold B3 at *
  rw [Below.heap_setCell _ _ _ _ hne]; exact h
theorem B3.grownB {w w' : World} {p k : Nat} {n : Int} {s : ByteArray} {row : Option Nat} (h : B3 w p k n s) (hg : w.grownBy w' row) (hr : row ≠ some p) : B3 w' p k n s := (hg.block p h.lt (fun e => hr e.symm)).trans h
theorem OwnOf.apart {α β : Type} {c : α → List Value} {c' : β → List Value} {n n' : Nat} {e e' : TypeId} {B B' : Nat} {w w1 : World} {v v' : Value} {L : List α} {L' : List β} (h : OwnOf e c n B w v L) (k : OwnOf e' c' n' B' w v' L') (hne : e ≠ e') (hg : w.grownBy w1 v'.ownBlock) : OwnOf e c n B w1 v L := by
  refine World.ownsRow.kept h hg ?_
  rcases h.2 with ⟨rfl, _⟩ | ⟨g, cap, cur, rfl, _, hh, _⟩
  · exact .inl rfl
  · right
    intro he
    rcases k.2 with ⟨rfl, _⟩ | ⟨g', cap', cur', rfl, _, hh', _⟩
    · cases he
    · simp only [Value.ownBlock, Option.some.injEq] at he
      subst he
      rw [hh] at hh'
      injection hh' with hh'
      injection hh' with _ h2 _
      exact hne h2
/-- What convert has gathered so far. -/
structure Cv (w wr : World) (u v : Value) (T : List ByteArray) (W : List Int) : Prop where
  a : A2 wr w.heap.size u v
  f : B3 wr (w.heap.size + 1) 0 0 ⟨#[]⟩
  t : OwnT (w.heap.size + 2) wr u T
  n : OwnW (w.heap.size + 2) wr v W
  b : Below w.heap.size w wr
theorem Cv.later {w wr w1 : World} {u v : Value} {T : List ByteArray} {W : List Int} (h : Cv w wr u v T W) (hB : Below wr.heap.size wr w1) : Cv w w1 u v T W :=
  ⟨h.a.later hB, h.f.later hB, OwnOf.later h.t hB, OwnOf.later h.n hB, vnext h.b hB⟩
theorem Cv.other {w wr w1 : World} {u v : Value} {T : List ByteArray} {W : List Int} {q : Nat} (h : Cv w wr u v T W) (hg : wr.grownBy w1 (some q)) (hq : w.heap.size + 1 < q) (hu : ∀ g, u.ownBlock = some g → g ≠ q) (hv : ∀ g, v.ownBlock = some g → g ≠ q) : Cv w w1 u v T W :=
  ⟨h.a.grown hg (fun e => by injection e with e; omega), h.f.grownB hg (fun e => by injection e with e; omega), World.ownsRow.kept h.t hg (.inr fun e => hu q e rfl), World.ownsRow.kept h.n hg (.inr fun e => hv q e rfl), h.b.grown hg h.b.size (fun p hp => by injection hp with hp; omega)⟩
theorem Cv.lt {w wr : World} {u v : Value} {T : List ByteArray} {W : List Int} (h : Cv w wr u v T W) : (∀ g, u.ownBlock = some g → g ≠ wr.heap.size) ∧ (∀ g, v.ownBlock = some g → g ≠ wr.heap.size) :=
  ⟨fun g e => by have := (World.ownsRow.lt h.t g e).2; omega, fun g e => by have := (World.ownsRow.lt h.n g e).2; omega⟩
theorem Cv.fail {w w2 : World} {u v : Value} {T : List ByteArray} {W : List Int} (h : Cv w w2 u v T W) (rk : Nat) (rn : Int) (rs : ByteArray) :
    A2 (((((w2.setCell ⟨w.heap.size, 0, none⟩ (.slice none 0 0)).setCell ⟨w.heap.size, 1, none⟩ (.slice none 0 0)).setCell ⟨w.heap.size + 1, 0, none⟩ (.int .u8 (rk : Int))).setCell ⟨w.heap.size + 1, 1, none⟩ (.int .i64 rn)).setCell ⟨w.heap.size + 1, 2, none⟩ (.string rs)) w.heap.size (.slice none 0 0) (.slice none 0 0) ∧ B3 (((((w2.setCell ⟨w.heap.size, 0, none⟩ (.slice none 0 0)).setCell ⟨w.heap.size, 1, none⟩ (.slice none 0 0)).setCell ⟨w.heap.size + 1, 0, none⟩ (.int .u8 (rk : Int))).setCell ⟨w.heap.size + 1, 1, none⟩ (.int .i64 rn)).setCell ⟨w.heap.size + 1, 2, none⟩ (.string rs)) (w.heap.size + 1) rk rn rs ∧ Below w.heap.size w (((((w2.setCell ⟨w.heap.size, 0, none⟩ (.slice none 0 0)).setCell ⟨w.heap.size, 1, none⟩ (.slice none 0 0)).setCell ⟨w.heap.size + 1, 0, none⟩ (.int .u8 (rk : Int))).setCell ⟨w.heap.size + 1, 1, none⟩ (.int .i64 rn)).setCell ⟨w.heap.size + 1, 2, none⟩ (.string rs)) := by
  have h1 := (h.a.set0 (.slice none 0 0)).set1 (.slice none 0 0)
  have h2 := (h.f.other (show w.heap.size + 1 ≠ w.heap.size by omega) 0 (.slice none 0 0)).other (show w.heap.size + 1 ≠ w.heap.size by omega) 1 (.slice none 0 0)
  have h3 : Below w.heap.size w ((w2.setCell ⟨w.heap.size, 0, none⟩ (.slice none 0 0)).setCell ⟨w.heap.size, 1, none⟩ (.slice none 0 0)) := (h.b.setCell (Nat.le_refl _) _).setCell (Nat.le_refl _) _
  obtain ⟨k1, k2⟩ := b3_set h2 rk rn rs
  exact ⟨h1.grown k2 (fun e => by injection e with e; omega), k1, h3.grown k2 h3.size (fun q hq => by injection hq with hq; omega)⟩
theorem tq_bd {a : Int} (h : InI a) : InI (a.tdiv 10000) := by
  unfold InI at *
  rcases Int.le_total 0 a with h0 | h0
  · rw [Int.tdiv_eq_ediv_of_nonneg h0]; omega
  · have e : a.tdiv 10000 = -((-a).tdiv 10000) := by rw [Int.neg_tdiv]; omega
    rw [e, Int.tdiv_eq_ediv_of_nonneg (by omega)]; omega
theorem Cv.done {w w2 : World} {u v : Value} {T : List ByteArray} {W : List Int} (h : Cv w w2 u v T W) : Cv w (((((w2.setCell ⟨w.heap.size, 0, none⟩ u).setCell ⟨w.heap.size, 1, none⟩ v).setCell ⟨w.heap.size + 1, 0, none⟩ (.int .u8 0)).setCell ⟨w.heap.size + 1, 1, none⟩ (.int .i64 0)).setCell ⟨w.heap.size + 1, 2, none⟩ (.string ⟨#[]⟩)) u v T W := by
  have h1 := (h.a.set0 u).set1 v
  have h2 := (h.f.other (show w.heap.size + 1 ≠ w.heap.size by omega) 0 u).other (show w.heap.size + 1 ≠ w.heap.size by omega) 1 v
  have h3 : Below w.heap.size w ((w2.setCell ⟨w.heap.size, 0, none⟩ u).setCell ⟨w.heap.size, 1, none⟩ v) := (h.b.setCell (Nat.le_refl _) _).setCell (Nat.le_refl _) _
  have h4 : OwnT (w.heap.size + 2) ((w2.setCell ⟨w.heap.size, 0, none⟩ u).setCell ⟨w.heap.size, 1, none⟩ v) u T := ownsRow_setCell_below (ownsRow_setCell_below h.t (by show w.heap.size < _; omega) _) (by show w.heap.size < _; omega) _
  have h5 : OwnW (w.heap.size + 2) ((w2.setCell ⟨w.heap.size, 0, none⟩ u).setCell ⟨w.heap.size, 1, none⟩ v) v W := ownsRow_setCell_below (ownsRow_setCell_below h.n (by show w.heap.size < _; omega) _) (by show w.heap.size < _; omega) _
  obtain ⟨k1, k2⟩ := b3_set h2 0 0 ⟨#[]⟩
  exact ⟨h1.grown k2 (fun e => by injection e with e; omega), k1, World.ownsRow.kept h4 k2 (.inr fun e => by have := (World.ownsRow.lt h4 _ e).1; omega), World.ownsRow.kept h5 k2 (.inr fun e => by have := (World.ownsRow.lt h5 _ e).1; omega), h3.grown k2 h3.size (fun q hq => by injection hq with hq; omega)⟩
/-- What convert returns. -/
def cvK (c : UInt8) (v : V3) : V3 := cvR (if c = 110 then 1 else 3) v.1 v.2.1 v.2.2
def convR : List UInt8 → List V3 → List ByteArray → List Int → (List ByteArray × List Int) ⊕ V3
  | c :: cs, v :: L, T, W => if (cvK c v).1 = 4 then .inr (cvK c v) else if c = 115 then convR cs L (T ++ [(cvK c v).2.2]) W else convR cs L T (W ++ [(truncZ (cvK c v).2.1).tdiv 10000])
  | _, _, T, W => .inl (T, W ++ [1])
section
variable {P : Program} {α : Type} {c : α → List Value} {n : Nat} {e : TypeId}
end
end Go.Proofs.YtdhahiodnmmkeaaGreatDoor.Va
