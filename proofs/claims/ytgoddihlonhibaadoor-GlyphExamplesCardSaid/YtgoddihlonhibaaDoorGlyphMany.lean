/- The contract of the statements' 'many': n equal bytes. -/
import Derived.Test.YtgoddihlonhibaaDoorGlyphH
import Derived.Laws.OwnMore
namespace Go.Proofs.YtgoddihlonhibaaDoor
open Go.RowKit GM
theorem made_bytes (n : Nat) : (madeCells #[.int .u8 0] n).toList = (List.replicate n (0 : UInt8)).map bV := by
  apply List.ext_getElem
  · simp [madeCells]
  · intro i h1 h2
    have : i % 1 = 0 := by omega
    simp [madeCells, bV, this]
def fillC (c : UInt8) (n k : Nat) : List UInt8 := List.replicate k c ++ List.replicate (n - k) 0
theorem fillC_len (c : UInt8) (n k : Nat) (h : k ≤ n) : (fillC c n k).length = n := by simp [fillC]; omega
theorem fillC_set (c : UInt8) (n k : Nat) (h : k < n) : (fillC c n k).set k c = fillC c n (k + 1) := by
  unfold fillC
  rw [List.set_append_right _ _ (by simp), List.replicate_succ', List.append_assoc]
  congr 1
  obtain ⟨m, hm⟩ : ∃ m, n - k = m + 1 := ⟨n - k - 1, by omega⟩
  rw [hm, show n - (k + 1) = m by omega]
  simp [List.replicate_succ]
set_option maxRecDepth 100000 in
set_option maxHeartbeats 1600000 in
theorem many_any (c : UInt8) (n : Nat) (hn : n ≤ 4000) (w : World) :
    Calls Tryd.prog 25 #[.int .u8 (c.toNat : Int), .int .i64 (n : Int)] w fun e w' => e = .returned (.string (str (List.replicate n c))) ∧ Below w.heap.size w w' := by
  obtain ⟨i0, hi, hz0, hz1, hz2⟩ := info_parts u8_info
  go_enter Tryd.func25, Tryd.ntmps25
  go_wp2_with (at_make; refine wpList_make_full _ rfl _ _ 36 rfl w.heap.size 5 i0 (.int .u8 0) 1 Tryd.underlying36 hi hz0 hz1 _ _ _ _ n rfl rfl rfl rfl (by rw [hz2]; omega) (by unfold maxLen; omega) (Nat.le_refl _) ?_)
  intro w1 hown hg
  have hB := (Below.refl w.heap.size w).grown hg (Nat.le_refl _) (fun k hk => by cases hk)
  have HO : Hid (w1.ownsRow w.heap.size 5 1 (.slice (some ⟨w.heap.size, 0, none⟩) n n) n ((fillC c n 0).map bV)) := by
    rw [made_bytes] at hown; exact hown
  have HB := Lib.hid hB
  clear hown hg hB
  go_wp2_with fail
  go_loopw [6] (fun i wr => ∃ k : Nat, k ≤ n ∧ i = .int .i64 k ∧ wr.ownsRow w.heap.size 5 1 (.slice (some ⟨w.heap.size, 0, none⟩) n n) n ((fillC c n k).map bV) ∧ Below w.heap.size w wr) (fun i _ => n - (intOf i).toNat)
  case atStart => exact ⟨0, Nat.zero_le _, rfl, HO.out, HB.out⟩
  case round =>
    obtain ⟨k, hk, rfl, ho, hB⟩ := hrel
    have HO := Lib.hid ho
    have HB := Lib.hid hB
    by_cases hlt : k < n
    · have hf := World.ownsRow.frozenAt ho k
      have hc := World.ownsRow.cellAt ho k (by omega)
      rw [List.getElem?_map, List.getElem?_eq_getElem (by rw [fillC_len _ _ _ hk]; exact hlt)] at hc
      have hst := (World.ownsRow.stored ho k (bV c)).1
      rw [← List.map_set, fillC_set _ _ _ hlt] at hst
      have HN := Lib.hid hst
      obtain ⟨x, hx⟩ : ∃ x, x = (fillC c n k)[k]'(by rw [fillC_len _ _ _ hk]; exact hlt) := ⟨_, rfl⟩
      rw [← hx] at hc
      simp only [Option.map_some, bV] at hc
      clear hst ho hB hx
      go_wp2_with fail
      go_roundw
      case rel => exact ⟨k + 1, by omega, by go_num, HN.out, HB.out.setCell (Nat.le_refl _) _⟩
      case measure => simp [intOf]; omega
    · obtain rfl : k = n := by omega
      have hfill : fillC c k k = List.replicate k c := by simp [fillC]
      rw [hfill] at ho
      have hs : OwnB w.heap.size wr (.slice (some ⟨w.heap.size, 0, none⟩) k k) (List.replicate k c) := by
        unfold OwnB; rw [List.length_replicate]; exact ho
      have hx := hs.str
      clear ho hB hfill hs
      go_wp2_with fail
      go_ret
      exact ⟨rfl, HB.out⟩
end Go.Proofs.YtgoddihlonhibaaDoor
