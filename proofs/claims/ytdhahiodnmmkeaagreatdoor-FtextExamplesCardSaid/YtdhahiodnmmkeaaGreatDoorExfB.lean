/- A row of bytes that make lays, filled with one byte, and strings made of its beginning. -/
import Derived.Test.YtdhahiodnmmkeaaGreatDoorMga
import Derived.Test.YtdhahiodnmmkeaaGreatDoorMgg
import Derived.Deep.OwnRows
import Derived.Laws.OwnMore
namespace Go.Proofs.YtdhahiodnmmkeaaGreatDoor.Va
open Go Go.RowKit GM
set_option linter.unusedVariables false
set_option linter.unusedSimpArgs false
def cB (b : UInt8) : List Value := [bV b]
theorem ygr (b : UInt8) : (cB b).length = 1 := rfl
theorem zrp (n : Nat) (b : UInt8) : (List.replicate n b).flatMap cB = List.replicate n (bV b) := by
 induction n with
 | zero => rfl
 | succ n ih => rw [List.replicate_succ, List.flatMap_cons, ih, List.replicate_succ]; rfl
def zjs (n k : Nat) (b : UInt8) : List UInt8 := List.replicate k b ++ List.replicate (n - k) 0
theorem zwe {n k : Nat} {b : UInt8} (h : k ≤ n) : (zjs n k b).length = n := by
 unfold zjs
 rw [List.length_append, List.length_replicate, List.length_replicate]; omega
theorem zwd {n k : Nat} {b : UInt8} (h : k < n) : (zjs n k b).set k b = zjs n (k + 1) b := by
 unfold zjs
 rw [List.set_append_right _ _ (by rw [List.length_replicate]; omega), List.length_replicate, Nat.sub_self, show n - k = (n - (k + 1)) + 1 by omega, List.replicate_succ, List.set_cons_zero, List.replicate_succ', List.append_assoc]
 rfl
theorem zwf (n : Nat) (b : UInt8) : zjs n n b = List.replicate n b := by
 unfold zjs
 rw [Nat.sub_self, List.replicate_zero, List.append_nil]
abbrev OwnU (B : Nat) (w : World) (v : Value) (l : List UInt8) : Prop := OwnOf 5 cB 1 B w v l
theorem zvb {B : Nat} (w : World) (n : Nat) (b : UInt8) (hn : n ≤ 1000) (hB : B ≤ w.heap.size) : OwnU B (w.alloc (.cells (madeCells #[.int .u8 0] n) 5)) (.slice (some ⟨w.heap.size, 0, none⟩) n n) (zjs n 0 b) := by
 have e : zjs n 0 b = List.replicate n 0 := by unfold zjs; rw [List.replicate_zero, Nat.sub_zero]; rfl
 rw [e]
 unfold OwnU OwnOf
 rw [zrp, List.length_replicate]
 refine ⟨by rw [List.length_replicate, Nat.mul_one], .inr ⟨w.heap.size, n, _, rfl, hB, World.alloc_heap_new w _, Nat.le_refl _, by unfold maxLen; omega, by rw [size_madeCells, Nat.mul_one], ?_⟩⟩
 rw [toList_madeCells_one, Nat.mul_one, List.take_replicate, Nat.min_self]; rfl
theorem zzf {B : Nat} {X : World} {g n : Nat} {b : UInt8} (h : OwnU B X (.slice (some ⟨g, 0, none⟩) n n) (List.replicate n b)) (m : Nat) (hm : m ≤ n) :
 (convert 29 9 (.slice (some ⟨g, 0, none⟩) m n)).run Tryz.prog X = .ok (.string (str (List.replicate m b))) X := by
 refine OwnB.str (B := B) (l := List.replicate m b) ?_
 unfold OwnU OwnOf at h
 rw [zrp, List.length_replicate] at h
 unfold OwnB
 rw [List.length_replicate, List.map_replicate]
 refine ⟨by rw [List.length_replicate, Nat.mul_one], ?_⟩
 rcases h.2 with ⟨hv, _⟩ | ⟨g', cap, cur, hv, hg, hh, hc, hcm, hsz, hx⟩
 · cases hv
 · injection hv with h3 h4 h5
   injection h3 with h3
   injection h3 with h3
   subst h3
   subst h5
   refine .inr ⟨g, n, cur, rfl, hg, hh, hm, hcm, hsz, ?_⟩
   have := congrArg (List.take m) hx
   rw [List.take_take, List.take_replicate] at this
   rw [Nat.mul_one] at this ⊢
   rw [Nat.min_eq_left hm] at this
   exact this
theorem zo2 (m : Nat) (b : UInt8) : (str (List.replicate m b)).size = m := by
 show (List.replicate m b).toArray.size = m
 simp
theorem yf9 (n : Nat) (hn : n ≤ 1000) (w : World) : (Instr.makeSlice 29 (.int .i64 (n : Int)) (.int .i64 (n : Int))).run Tryz.prog w = .ok (.slice (some ⟨w.heap.size, 0, none⟩) n n) (w.alloc (.cells (madeCells #[.int .u8 0] n) 5)) :=
 Go.run_make_row' 29 5 (.int .u8 0) 1 Tryz.underlying29 zox rfl .i64 .i64 n (by omega) (by omega) w
end Go.Proofs.YtdhahiodnmmkeaaGreatDoor.Va
