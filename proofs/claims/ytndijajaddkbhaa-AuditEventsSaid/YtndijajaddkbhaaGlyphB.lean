/- Contracts of glyph.changed, Upper, Lower. -/
import Derived.Test.YtndijajaddkbhaaGlyphA
namespace Go.Proofs.Ytndijajaddkbhaa.Gl
open Go.RowKit GM
/-- Block b holds the bytes l. -/
def Bytes (w : World) (b : Nat) (l : List UInt8) : Prop :=
  b < w.heap.size ∧ (∀ j, j < l.length → w.cell? ⟨b, j, none⟩ = some (.int .u8 ((l.getD j 0).toNat : Int))) ∧ ∀ j, j < l.length → w.frozen? ⟨b, j, none⟩ = false
theorem Bytes.set {w : World} {b : Nat} {l : List UInt8} (h : Bytes w b l) (k : Nat) (hk : k < l.length) (c : UInt8) :
    Bytes (w.setCell ⟨b, k, none⟩ (.int .u8 (c.toNat : Int))) b (l.set k c) := by
  obtain ⟨h0, h1, h2⟩ := h
  refine ⟨by simpa using h0, fun j hj => ?_, fun j hj => ?_⟩
  · rw [List.length_set] at hj
    by_cases e : j = k
    · subst e
      rw [World.cell?_setCell_same _ _ _ (h1 j hj)]
      simp [List.getD, hj]
    · rw [World.cell?_setCell_other _ _ _ _ (by first | (simp; done) | (simp; omega)), h1 j hj]
      simp [List.getD, List.getElem?_set_ne (fun h => e h.symm)]
  · rw [List.length_set] at hj
    rw [World.frozen?_setCell]; exact h2 j hj
theorem Bytes.of (w : World) (s : ByteArray) (e C : Nat) :
    Bytes ((w.alloc (.cells (bytesRow s C) e ((bytesRow s C).size, (bytesRow s C).size + 1))).drew) w.heap.size s.data.toList := by
  have hz : s.size ≤ (bytesRow s C).size := by
    unfold bytesRow; rw [Array.size_append, Array.size_map]; exact Nat.le_add_right _ _
  refine ⟨by simp, fun j hj => ?_, fun j hj => ?_⟩
  · have hj' : j < s.size := by simpa using hj
    have := bytesRow_at s C j hj'
    rw [World.cell?_drew, World.cell?_alloc_mark, this]
    simp [List.getD, hj']
  · have hj' : j < s.size := by simpa using hj
    rw [World.frozen?_drew, World.frozen?_alloc_mark]
    have : ¬ (bytesRow s C).size ≤ j := by omega
    simp [this]
def mixed (g : UInt8 → UInt8) (l : List UInt8) (k : Nat) : List UInt8 := (l.take k).map g ++ l.drop k
theorem mixed_len (g : UInt8 → UInt8) (l : List UInt8) (k : Nat) : (mixed g l k).length = l.length := by simp [mixed]; omega
theorem mixed_at (g : UInt8 → UInt8) (l : List UInt8) (k : Nat) (h : k < l.length) : (mixed g l k).getD k 0 = l[k] := by
  unfold mixed
  simp [List.getD, List.getElem?_append_right, Nat.min_eq_left (Nat.le_of_lt h), h]
theorem mixed_set (g : UInt8 → UInt8) (l : List UInt8) (k : Nat) (h : k < l.length) : (mixed g l k).set k (g l[k]) = mixed g l (k + 1) := by
  unfold mixed
  rw [List.set_append_right _ _ (by simp; omega), List.take_succ_eq_append_getElem h, List.map_append, List.append_assoc]
  congr 1
  have e : k - ((l.take k).map g).length = 0 := by simp; omega
  rw [e, List.drop_eq_getElem_cons h]; rfl
theorem mixed_all (g : UInt8 → UInt8) (l : List UInt8) : mixed g l l.length = l.map g := by simp [mixed]
theorem mixed_none (g : UInt8 → UInt8) (l : List UInt8) : mixed g l 0 = l := by simp [mixed]
def upS (s : ByteArray) : ByteArray := str (s.data.toList.map up)
def loS (s : ByteArray) : ByteArray := str (s.data.toList.map lo)
theorem upS_size (s : ByteArray) : (upS s).size = s.size := by unfold upS; rw [str_size, List.length_map, data_len]
theorem loS_size (s : ByteArray) : (loS s).size = s.size := by unfold loS; rw [str_size, List.length_map, data_len]
end Go.Proofs.Ytndijajaddkbhaa.Gl
