/- Contracts of glyph.changed, Upper, Lower. -/
import Derived.Test.YtoeodfbmiiefkaaGreatDoorGlyphA
namespace Go.Proofs.YtoeodfbmiiefkaaGreatDoor
open Go.RowKit GM
/-- Block b holds the bytes l. -/
def Bytes (w : World) (b : Nat) (l : List UInt8) : Prop :=
  b < w.heap.size ∧ (∀ j, j < l.length → w.cell? ⟨b, j, none⟩ = some (.int .u8 ((l.getD j 0).toNat : Int))) ∧ ∀ j, j < l.length → w.frozen? ⟨b, j, none⟩ = false
theorem Bytes.set {w : World} {b : Nat} {l : List UInt8} (h : Bytes w b l) (k : Nat) (hk : k < l.length) (c : UInt8) :
    Bytes (w.setCell ⟨b, k, none⟩ (.int .u8 (c.toNat : Int))) b (l.set k c) := by
  obtain ⟨h0, h1, h2⟩ := h
  refine ⟨by simpa using h0, fun j hj => ?_, fun j hj => ?_⟩
  · rw [List.length_set] at hj
    by_cases e : j = k
    · subst e
      rw [World.cell?_setCell_same _ _ _ (h1 j hj)]
      simp [List.getD, hj]
    · rw [World.cell?_setCell_other _ _ _ _ (by first | (simp; done) | (simp; omega)), h1 j hj]
      simp [List.getD, List.getElem?_set_ne (fun h => e h.symm)]
  · rw [List.length_set] at hj
    rw [World.frozen?_setCell]; exact h2 j hj
theorem Bytes.of (w : World) (s : ByteArray) (e C : Nat) :
    Bytes ((w.alloc (.cells (bytesRow s C) e ((bytesRow s C).size, (bytesRow s C).size + 1))).drew) w.heap.size s.data.toList := by
  have hz : s.size ≤ (bytesRow s C).size := by
    unfold bytesRow; rw [Array.size_append, Array.size_map]; exact Nat.le_add_right _ _
  refine ⟨by simp, fun j hj => ?_, fun j hj => ?_⟩
  · have hj' : j < s.size := by simpa using hj
    have := bytesRow_at s C j hj'
    rw [World.cell?_drew, World.cell?_alloc_mark, this]
    simp [List.getD, hj']
  · have hj' : j < s.size := by simpa using hj
    rw [World.frozen?_drew, World.frozen?_alloc_mark]
    have : ¬ (bytesRow s C).size ≤ j := by omega
    simp [this]
def mixed (g : UInt8 → UInt8) (l : List UInt8) (k : Nat) : List UInt8 := (l.take k).map g ++ l.drop k
theorem mixed_len (g : UInt8 → UInt8) (l : List UInt8) (k : Nat) : (mixed g l k).length = l.length := by simp [mixed]; omega
theorem mixed_at (g : UInt8 → UInt8) (l : List UInt8) (k : Nat) (h : k < l.length) : (mixed g l k).getD k 0 = l[k] := by
  unfold mixed
  simp [List.getD, List.getElem?_append_right, Nat.min_eq_left (Nat.le_of_lt h), h]
theorem mixed_set (g : UInt8 → UInt8) (l : List UInt8) (k : Nat) (h : k < l.length) : (mixed g l k).set k (g l[k]) = mixed g l (k + 1) := by
  unfold mixed
  rw [List.set_append_right _ _ (by simp; omega), List.take_succ_eq_append_getElem h, List.map_append, List.append_assoc]
  congr 1
  have e : k - ((l.take k).map g).length = 0 := by simp; omega
  rw [e, List.drop_eq_getElem_cons h]; rfl
theorem mixed_all (g : UInt8 → UInt8) (l : List UInt8) : mixed g l l.length = l.map g := by simp [mixed]
theorem mixed_none (g : UInt8 → UInt8) (l : List UInt8) : mixed g l 0 = l := by simp [mixed]
set_option maxRecDepth 100000 in
set_option maxHeartbeats 1000000 in
theorem changedU_any (s : ByteArray) (hs : s.size ≤ maxLen) (w : World) :
    Calls Tryz.prog 113 #[.string s, .func (.func 114) #[] #[]] w fun e w' => e = .returned (.string (str (s.data.toList.map up))) ∧ Below w.heap.size w w' := by
  have hm := hs
  unfold maxLen at hs
  have hconv := fun W => run_bytes_of_string (P := Tryz.prog) W 9 57 5 s Tryz.underlying9 Tryz.underlying57 Tryz.underlying5
  go_enter Tryz.func113, Tryz.ntmps113
  go_wp2_with fail
  clear hconv
  go_loopw [12] (fun i wr => ∃ k : Nat, k ≤ s.size ∧ i = .int .i64 k ∧ Bytes wr w.heap.size (mixed up s.data.toList k) ∧ Below w.heap.size w wr) (fun i _ => s.size - (intOf i).toNat)
  case atStart => exact ⟨0, Nat.zero_le _, rfl, by rw [mixed_none]; exact Bytes.of _ _ _ _, ((Below.refl _ _).alloc (Nat.le_refl _) _).drew⟩
  case round =>
    obtain ⟨k, hk, rfl, hb, hB⟩ := hrel
    have HB := Lib.hid hb
    have HE := Lib.hid hB
    clear hb hB
    by_cases hlt : k < s.size
    · have hl : k < s.data.toList.length := by rw [data_len]; exact hlt
      have hl2 : k < (mixed up s.data.toList k).length := by rw [mixed_len]; exact hl
      have hc := HB.out.2.1 k hl2
      rw [mixed_at _ _ _ hl] at hc
      have hf := HB.out.2.2 k hl2
      have HU := Lib.hid (up_int s.data.toList[k])
      have hb1 : ((s.data.toList[k]).toNat : Int) ≤ 255 := by have := (s.data.toList[k]).toNat_lt; omega
      have hb0 : 0 ≤ ((s.data.toList[k]).toNat : Int) := by omega
      have hset := HB.out.set k hl2 (up s.data.toList[k])
      rw [mixed_set _ _ _ hl] at hset
      have HN := Lib.hid hset
      clear hset
      generalize s.data.toList[k] = c at *
      have hz := HB.out.1
      go_wp2_with fail
      refine (upfn_any _ hb0 hb1 _).mono ?_
      rintro e w' ⟨rfl, rfl⟩
      rw [← HU.out]
      go_wp2_with fail
      go_roundw
      case rel => exact ⟨k + 1, by omega, by go_num, HN.out, HE.out.setCell (Nat.le_refl _) _⟩
      case measure => simp [intOf]; omega
    · obtain rfl : k = s.size := by omega
      have hconv := run_convert_bytes_arg (P := Tryz.prog) wr 57 5 Tryz.underlying57 Tryz.underlying5 w.heap.size 0 s.size (grownCap w s.size 0 5) (nums (s.data.toList.map up)) (by simp [nums]) (fun i hi => by
        have h := HB.out.2.1 i (by rw [mixed_len, data_len]; exact hi)
        rw [← data_len s, mixed_all] at h
        rw [Nat.zero_add, h, nums_getD _ _ (by simpa using hi)]
        simp [List.getD, hi]) 9 Tryz.underlying9
      rw [strOf_nums] at hconv
      go_wp2_with fail
      go_ret
      exact ⟨rfl, HE.out⟩
def upS (s : ByteArray) : ByteArray := str (s.data.toList.map up)
def loS (s : ByteArray) : ByteArray := str (s.data.toList.map lo)
theorem upS_size (s : ByteArray) : (upS s).size = s.size := by unfold upS; rw [str_size, List.length_map, data_len]
theorem loS_size (s : ByteArray) : (loS s).size = s.size := by unfold loS; rw [str_size, List.length_map, data_len]
set_option maxHeartbeats 400000 in
theorem upper_any (s : ByteArray) (hs : s.size ≤ maxLen) (w : World) :
    Calls Tryz.prog 87 #[.string s] w fun e w' => e = .returned (.string (upS s)) ∧ Below w.heap.size w w' := by
  go_enter Tryz.func87, Tryz.ntmps87
  go_wp2_with fail
  refine (changedU_any s hs _).mono ?_
  rintro e w' ⟨rfl, hB⟩
  go_wp2_with fail
  go_ret
  exact ⟨rfl, hB⟩
end Go.Proofs.YtoeodfbmiiefkaaGreatDoor
