/- Contracts of Quote: the program's and the specification's. -/
import Derived.Test.YtelanmknimapoaaGreatDoorMgh
import Derived.Test.YtelanmknimapoaaGreatDoorShelfGlyph
namespace Go.Proofs.YtelanmknimapoaaGreatDoor.Gl
open Go.RowKit GM
def ML (w : World) : Prop := 2 < w.heap.size ∧ ∃ m : Int, w.cell? ⟨2, 0, none⟩ = some (.int .i64 m)
theorem ML.later {w w' : World} (h : ML w) (hB : Below w.heap.size w w') : ML w' := by
 obtain ⟨h1, m, h2⟩ := h
 refine ⟨Nat.lt_of_lt_of_le h1 hB.size, m, ?_⟩
 rw [(bcell hB).1 _ _ h1]; exact h2
def quoS (l : List UInt8) : List UInt8 := if chk l = 0 then 34 :: (quo l ++ [34]) else []
theorem quoS_yes {l : List UInt8} (h : chk l = 0) : quoS l = 34 :: (quo l ++ [34]) := by unfold quoS; rw [if_pos h]
theorem ycl {l : List UInt8} (h : ¬ chk l = 0) : quoS l = [] := by unfold quoS; rw [if_neg h]
theorem chk_z {l : List UInt8} (h : chk l = 0) : l.length ≤ 256 := by
 unfold chk at h
 split at h
 · cases h
 · omega
theorem ycd (s : ByteArray) : (⟨(Lib.replaceAll s.data.toList (⟨#[34]⟩ : ByteArray).data.toList (⟨#[34, 34]⟩ : ByteArray).data.toList).toArray⟩ : ByteArray) = str (quo s.data.toList) :=
 congrArg (fun l : List UInt8 => (⟨l.toArray⟩ : ByteArray)) (zuz _)
theorem yck (l : List UInt8) : (⟨#[34]⟩ : ByteArray) ++ str l ++ ⟨#[34]⟩ = str (34 :: (l ++ [34])) := by
 apply ByteArray.ext
 simp [str]
theorem yg8 (s : ByteArray) : Lib.countB s ⟨#[34]⟩ ≤ s.size + 1 := by
 have := Lib.count_le s.data.toList [34]
 rw [zbj] at this
 exact this
set_option maxRecDepth 100000 in
set_option maxHeartbeats 1000000 in
theorem quote_any (s : ByteArray) (hs : s.size ≤ 4000) (w : World) (hM : ML w) :
 Calls Tryz.prog 22 #[.string s] w fun e w' => e = .returned (.tuple #[.string (str (quoS s.data.toList)), .int .i64 (chk s.data.toList)]) ∧ Below w.heap.size w w' := by
 have hm : s.size ≤ maxLen := by unfold maxLen; omega
 by_cases h : chk s.data.toList = 0
 · have HQ := Lib.hid (quoS_yes h)
   have HC := Lib.hid h
   clear h
   obtain ⟨_, m, hcell⟩ := hM
   have HM := Lib.hid hcell
   clear hcell
   have hql := quo_len s.data.toList
   rw [zbj] at hql
   have HL := Lib.hid hql.2
   clear hql
   go_enter Tryz.func22, Tryz.ntmps22
   go_wp2_with fail
   refine (check_any s hm _).mono ?_
   rintro e w' ⟨rfl, rfl⟩
   rw [HC.out]
   have hadd1 := fun W => run_string_add_sum (P := Tryz.prog) W ⟨#[34]⟩ (str (quo s.data.toList)) (by rw [zqr]; have := HL.out; simp [ByteArray.size]; omega)
   have hadd2 := fun W => run_string_add_sum (P := Tryz.prog) W (⟨#[34]⟩ ++ str (quo s.data.toList)) ⟨#[34]⟩ (by rw [ByteArray.size_append, zqr]; have := HL.out; simp [ByteArray.size]; omega)
   go_wp2_with fail
   refine (Tryz.strings_ReplaceAll s ⟨#[34]⟩ ⟨#[34, 34]⟩ m _ (by omega) HM.out (by decide) (by have := yg8 s; rw [show (⟨#[34, 34]⟩ : ByteArray).size = 2 from rfl]; omega)).mono ?_
   rintro e w' ⟨rfl, hB⟩
   rw [ycd]
   go_wp2_with fail
   go_ret2
   exact ⟨zkg (by rw [HQ.out, yck]) (by rw [HC.out]), hB⟩
 · have HQ := Lib.hid (ycl h)
   generalize hcc : chk s.data.toList = c at *
   have HC := Lib.hid hcc
   clear hcc
   go_enter Tryz.func22, Tryz.ntmps22
   go_wp2_with fail
   refine (check_any s hm _).mono ?_
   rintro e w' ⟨rfl, rfl⟩
   rw [HC.out]
   go_wp2_with fail
   go_ret2
   exact ⟨zkg (by rw [HQ.out]; rfl) rfl, Below.refl _ _⟩
end Go.Proofs.YtelanmknimapoaaGreatDoor.Gl
