/- Contracts of Quote: the program's and the specification's. -/
import Derived.Test.YthgnhdfppmoooaaGreatDoorGlyphC
import Derived.Test.YthgnhdfppmoooaaGreatDoorGlyphD
namespace Go.Proofs.YthgnhdfppmoooaaGreatDoor
open Go.RowKit GM
/-- The library's bound on a needle holds some number. -/
def ML (w : World) : Prop := 0 < w.heap.size ∧ ∃ m : Int, w.cell? ⟨0, 0, none⟩ = some (.int .i64 m)
theorem ML.later {w w' : World} (h : ML w) (hB : Below w.heap.size w w') : ML w' := by
  obtain ⟨h1, m, h2⟩ := h
  refine ⟨Nat.lt_of_lt_of_le h1 hB.size, m, ?_⟩
  rw [(bcell hB).1 _ _ h1]; exact h2
def quoS (l : List UInt8) : List UInt8 := if chk l = 0 then 34 :: (quo l ++ [34]) else []
theorem quoS_yes {l : List UInt8} (h : chk l = 0) : quoS l = 34 :: (quo l ++ [34]) := by unfold quoS; rw [if_pos h]
theorem quoS_no {l : List UInt8} (h : ¬ chk l = 0) : quoS l = [] := by unfold quoS; rw [if_neg h]
theorem chk_z {l : List UInt8} (h : chk l = 0) : l.length ≤ 256 := by
  unfold chk at h
  split at h
  · cases h
  · omega
theorem rep_str (s : ByteArray) : (⟨(Lib.replaceAll s.data.toList (⟨#[34]⟩ : ByteArray).data.toList (⟨#[34, 34]⟩ : ByteArray).data.toList).toArray⟩ : ByteArray) = str (quo s.data.toList) :=
  congrArg (fun l : List UInt8 => (⟨l.toArray⟩ : ByteArray)) (replace_q _)
theorem quo_str (l : List UInt8) : (⟨#[34]⟩ : ByteArray) ++ str l ++ ⟨#[34]⟩ = str (34 :: (l ++ [34])) := by
  apply ByteArray.ext
  simp [str]
theorem cnt_le (s : ByteArray) : Lib.countB s ⟨#[34]⟩ ≤ s.size + 1 := by
  have := Lib.count_le s.data.toList [34]
  rw [data_len] at this
  exact this
theorem str_app (a b : List UInt8) : (⟨(str a).data ++ (str b).data⟩ : ByteArray) = str (a ++ b) := by simp [str]
end Go.Proofs.YthgnhdfppmoooaaGreatDoor
