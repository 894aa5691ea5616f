import Derived.Test.YtelnffamkkkpaaaDoorAddrA
import Derived.RegionTactic
import Derived.BigRegion
import Derived.StillTailTactics
import Derived.Deep.DeepCutAuto
namespace Go.Proofs.YtelnffamkkkpaaaDoor
open Go.RowKit AM
/-- Block b holds what was read, the block behind it the two bases. -/
def Wd (w : World) (b : Nat) (n1 n2 v1 v2 : Int) : Prop :=
  b + 1 < w.heap.size ∧ w.cell? ⟨b, 0, none⟩ = some (.int .i64 0) ∧ w.cell? ⟨b, 1, none⟩ = some (.int .i64 n1) ∧ w.cell? ⟨b, 2, none⟩ = some (.int .i64 n2) ∧
  w.cell? ⟨b, 3, none⟩ = some (.int .i64 0) ∧ w.cell? ⟨b, 4, none⟩ = some (.int .i64 v1) ∧ w.cell? ⟨b, 5, none⟩ = some (.int .i64 v2) ∧
  w.cell? ⟨b + 1, 1, none⟩ = some (.int .i64 26) ∧ w.cell? ⟨b + 1, 2, none⟩ = some (.int .i64 10) ∧
  (∀ o, w.frozen? ⟨b, o, none⟩ = false)
theorem Wd.let1 {w : World} {b : Nat} {n1 n2 v1 v2 : Int} (h : Wd w b n1 n2 v1 v2) (x y : Int) :
    Wd ((w.setCell ⟨b, 1, none⟩ (.int .i64 x)).setCell ⟨b, 4, none⟩ (.int .i64 y)).drew b x n2 y v2 := by
  obtain ⟨h, h0, h1, h2, h3, h4, h5, h6, h7, hf⟩ := h
  have k4 : (w.setCell ⟨b, 1, none⟩ (.int .i64 x)).cell? ⟨b, 4, none⟩ = some (.int .i64 v1) := by rw [World.cell?_setCell_other _ _ _ _ (by simp)]; exact h4
  have k1 : (w.setCell ⟨b, 1, none⟩ (.int .i64 x)).cell? ⟨b, 1, none⟩ = some (.int .i64 x) := World.cell?_setCell_same _ _ _ h1
  refine ⟨by simpa using h, ?_, ?_, ?_, ?_, World.cell?_setCell_same _ _ _ k4, ?_, ?_, ?_, fun o => by simpa using hf o⟩
  all_goals (refine (World.cell?_setCell_other _ _ _ _ (by simp)).trans ?_)
  · exact (World.cell?_setCell_other _ _ _ _ (by simp)).trans h0
  · exact k1
  all_goals (refine (World.cell?_setCell_other _ _ _ _ (by simp)).trans ?_; assumption)
theorem Wd.let2 {w : World} {b : Nat} {n1 n2 v1 v2 : Int} (h : Wd w b n1 n2 v1 v2) (x y : Int) :
    Wd ((w.setCell ⟨b, 2, none⟩ (.int .i64 x)).setCell ⟨b, 5, none⟩ (.int .i64 y)).drew b n1 x v1 y := by
  obtain ⟨h, h0, h1, h2, h3, h4, h5, h6, h7, hf⟩ := h
  have k5 : (w.setCell ⟨b, 2, none⟩ (.int .i64 x)).cell? ⟨b, 5, none⟩ = some (.int .i64 v2) := by rw [World.cell?_setCell_other _ _ _ _ (by simp)]; exact h5
  have k2 : (w.setCell ⟨b, 2, none⟩ (.int .i64 x)).cell? ⟨b, 2, none⟩ = some (.int .i64 x) := World.cell?_setCell_same _ _ _ h2
  refine ⟨by simpa using h, ?_, ?_, ?_, ?_, ?_, World.cell?_setCell_same _ _ _ k5, ?_, ?_, fun o => by simpa using hf o⟩
  all_goals (refine (World.cell?_setCell_other _ _ _ _ (by simp)).trans ?_)
  · exact (World.cell?_setCell_other _ _ _ _ (by simp)).trans h0
  · exact (World.cell?_setCell_other _ _ _ _ (by simp)).trans h1
  · exact k2
  all_goals (refine (World.cell?_setCell_other _ _ _ _ (by simp)).trans ?_; assumption)
theorem Wd.six {w0 w : World} {b : Nat} {n1 n2 v1 v2 : Int} (h : Wd w b n1 n2 v1 v2) (hB : Below b w0 w) (a0 a1 a2 a3 a4 a5 : Value) :
    let W := (((((w.setCell ⟨b, 0, none⟩ a0).setCell ⟨b, 1, none⟩ a1).setCell ⟨b, 2, none⟩ a2).setCell ⟨b, 3, none⟩ a3).setCell ⟨b, 4, none⟩ a4).setCell ⟨b, 5, none⟩ a5
    W.cell? ⟨b, 0, none⟩ = some a0 ∧ W.cell? ⟨b, 1, none⟩ = some a1 ∧ W.cell? ⟨b, 2, none⟩ = some a2 ∧ W.cell? ⟨b, 3, none⟩ = some a3 ∧ W.cell? ⟨b, 4, none⟩ = some a4 ∧ W.cell? ⟨b, 5, none⟩ = some a5 ∧ Below b w0 W := by
  obtain ⟨_, h0, h1, h2, h3, h4, h5, _, _, _⟩ := h
  have o : ∀ (w : World) (i j : Nat) (x v : Value), i ≠ j → w.cell? ⟨b, i, none⟩ = some v → (w.setCell ⟨b, j, none⟩ x).cell? ⟨b, i, none⟩ = some v := fun w i j x v hij hv => by
    rw [World.cell?_setCell_other _ _ _ _ (by simp)]; exact hv
  have s := fun (w : World) (i : Nat) (x v : Value) (hv : w.cell? ⟨b, i, none⟩ = some v) => World.cell?_setCell_same w ⟨b, i, none⟩ x hv
  dsimp only
  refine ⟨?_, ?_, ?_, ?_, ?_, ?_, (((((hB.setCell (by simp) _).setCell (by simp) _).setCell (by simp) _).setCell (by simp) _).setCell (by simp) _).setCell (by simp) _⟩
  · exact o _ _ _ _ _ (by decide) (o _ _ _ _ _ (by decide) (o _ _ _ _ _ (by decide) (o _ _ _ _ _ (by decide) (o _ _ _ _ _ (by decide) (s _ _ _ _ h0)))))
  · exact o _ _ _ _ _ (by decide) (o _ _ _ _ _ (by decide) (o _ _ _ _ _ (by decide) (o _ _ _ _ _ (by decide) (s _ _ _ _ (o _ _ _ _ _ (by decide) h1)))))
  · exact o _ _ _ _ _ (by decide) (o _ _ _ _ _ (by decide) (o _ _ _ _ _ (by decide) (s _ _ _ _ (o _ _ _ _ _ (by decide) (o _ _ _ _ _ (by decide) h2)))))
  · exact o _ _ _ _ _ (by decide) (o _ _ _ _ _ (by decide) (s _ _ _ _ (o _ _ _ _ _ (by decide) (o _ _ _ _ _ (by decide) (o _ _ _ _ _ (by decide) h3)))))
  · exact o _ _ _ _ _ (by decide) (s _ _ _ _ (o _ _ _ _ _ (by decide) (o _ _ _ _ _ (by decide) (o _ _ _ _ _ (by decide) (o _ _ _ _ _ (by decide) h4)))))
  · exact s _ _ _ _ (o _ _ _ _ _ (by decide) (o _ _ _ _ _ (by decide) (o _ _ _ _ _ (by decide) (o _ _ _ _ _ (by decide) (o _ _ _ _ _ (by decide) h5)))))
def wordV (n1 n2 v1 v2 : Int) : Value := .agg #[.int .i64 0, .int .i64 n1, .int .i64 n2, .int .i64 0, .int .i64 v1, .int .i64 v2]
def rdR (l : List UInt8) : Value :=
  match rd l with
  | none => .tuple #[wordV 0 0 0 0, .bool false]
  | some t => .tuple #[wordV t.n1 t.n2 t.v1 t.v2, .bool true]
theorem rdR_no {l : List UInt8} (h : rd l = none) : rdR l = .tuple #[wordV 0 0 0 0, .bool false] := by unfold rdR; rw [h]
theorem rdR_yes {l : List UInt8} {t : St} (h : rd l = some t) : rdR l = .tuple #[wordV t.n1 t.n2 t.v1 t.v2, .bool true] := by unfold rdR; rw [h]
theorem take_snoc (s : ByteArray) (k : Nat) (h : k < s.size) : s.data.toList.take (k + 1) = s.data.toList.take k ++ [s[k]'h] := by
  rw [List.take_succ_eq_append_getElem (by simpa using h)]; rfl
theorem rd_stops (s : ByteArray) (k : Nat) (hn : rd (s.data.toList.take (k + 1)) = none) : rd s.data.toList = none := by
  rw [← List.take_append_drop (k + 1) s.data.toList]; exact rd_none _ _ hn

end Go.Proofs.YtelnffamkkkpaaaDoor
