/- Merged: GlyphB GlyphC OwnB. -/
import Derived.Test.YtdhahiodnmmkeaaGreatDoorGlyphA
/- Contracts of glyph.changed, Upper, Lower. -/
namespace Go.Proofs.YtdhahiodnmmkeaaGreatDoor
open Go.RowKit GM
def Bytes (w : World) (b : Nat) (l : List UInt8) : Prop :=
 b < w.heap.size ∧ (∀ j, j < l.length → w.cell? ⟨b, j, none⟩ = some (.int .u8 ((l.getD j 0).toNat : Int))) ∧ ∀ j, j < l.length → w.frozen? ⟨b, j, none⟩ = false
theorem Bytes.set {w : World} {b : Nat} {l : List UInt8} (h : Bytes w b l) (k : Nat) (hk : k < l.length) (c : UInt8) :
 Bytes (w.setCell ⟨b, k, none⟩ (.int .u8 (c.toNat : Int))) b (l.set k c) := by
 obtain ⟨h0, h1, h2⟩ := h
 refine ⟨by simpa using h0, fun j hj => ?_, fun j hj => ?_⟩
 · rw [List.length_set] at hj
   by_cases e : j = k
   · subst e
     rw [World.cell?_setCell_same _ _ _ (h1 j hj)]
     simp [List.getD, hj]
   · rw [World.cell?_setCell_other _ _ _ _ (by first | (simp; done) | (simp; omega)), h1 j hj]
     simp [List.getD, List.getElem?_set_ne (fun h => e h.symm)]
 · rw [List.length_set] at hj
   rw [World.frozen?_setCell]; exact h2 j hj
theorem Bytes.of (w : World) (s : ByteArray) (e C : Nat) :
 Bytes ((w.alloc (.cells (bytesRow s C) e ((bytesRow s C).size, (bytesRow s C).size + 1))).drew) w.heap.size s.data.toList := by
 have hz : s.size ≤ (bytesRow s C).size := by
  unfold bytesRow; rw [Array.size_append, Array.size_map]; exact Nat.le_add_right _ _
 refine ⟨by simp, fun j hj => ?_, fun j hj => ?_⟩
 · have hj' : j < s.size := by simpa using hj
   have := bytesRow_at s C j hj'
   rw [World.cell?_drew, World.cell?_alloc_mark, this]
   simp [List.getD, hj']
 · have hj' : j < s.size := by simpa using hj
   rw [World.frozen?_drew, World.frozen?_alloc_mark]
   have : ¬ (bytesRow s C).size ≤ j := by omega
   simp [this]
def mixed (g : UInt8 → UInt8) (l : List UInt8) (k : Nat) : List UInt8 := (l.take k).map g ++ l.drop k
theorem zcm (g : UInt8 → UInt8) (l : List UInt8) (k : Nat) : (mixed g l k).length = l.length := by simp [mixed]; omega
theorem ze1 (g : UInt8 → UInt8) (l : List UInt8) (k : Nat) (h : k < l.length) : (mixed g l k).getD k 0 = l[k] := by
 unfold mixed
 simp [List.getD, List.getElem?_append_right, Nat.min_eq_left (Nat.le_of_lt h), h]
theorem zdl (g : UInt8 → UInt8) (l : List UInt8) (k : Nat) (h : k < l.length) : (mixed g l k).set k (g l[k]) = mixed g l (k + 1) := by
 unfold mixed
 rw [List.set_append_right _ _ (by simp; omega), List.take_succ_eq_append_getElem h, List.map_append, List.append_assoc]
 congr 1
 have e : k - ((l.take k).map g).length = 0 := by simp; omega
 rw [e, List.drop_eq_getElem_cons h]; rfl
theorem zgc (g : UInt8 → UInt8) (l : List UInt8) : mixed g l l.length = l.map g := by simp [mixed]
theorem ze0 (g : UInt8 → UInt8) (l : List UInt8) : mixed g l 0 = l := by simp [mixed]
set_option maxRecDepth 100000 in
set_option maxHeartbeats 1000000 in
theorem zoh (s : ByteArray) (hs : s.size ≤ maxLen) (w : World) :
 Calls Tryz.prog 213 #[.string s, .func (.func 214) #[] #[]] w fun e w' => e = .returned (.string (str (s.data.toList.map up))) ∧ Below w.heap.size w w' := by
 have hm := hs
 unfold maxLen at hs
 have hconv := fun W => run_bytes_of_string (P := Tryz.prog) W 9 29 5 s Tryz.underlying9 Tryz.underlying29 Tryz.underlying5
 go_enter Tryz.func213, Tryz.ntmps213
 go_wp2_with fail
 clear hconv
 go_loopw [12] (fun i wr => ∃ k : Nat, k ≤ s.size ∧ i = .int .i64 k ∧ Bytes wr w.heap.size (mixed up s.data.toList k) ∧ Below w.heap.size w wr) (fun i _ => s.size - (intOf i).toNat)
 case atStart => exact ⟨0, Nat.zero_le _, rfl, by rw [ze0]; exact Bytes.of _ _ _ _, ((Below.refl _ _).alloc (Nat.le_refl _) _).drew⟩
 case round =>
  obtain ⟨k, hk, rfl, hb, hB⟩ := hrel
  have HB := Lib.hid hb
  have HE := Lib.hid hB
  clear hb hB
  by_cases hlt : k < s.size
  · have hl : k < s.data.toList.length := by rw [za2]; exact hlt
    have hl2 : k < (mixed up s.data.toList k).length := by rw [zcm]; exact hl
    have hc := HB.out.2.1 k hl2
    rw [ze1 _ _ _ hl] at hc
    have hf := HB.out.2.2 k hl2
    have HU := Lib.hid (zz0 s.data.toList[k])
    have hb1 : ((s.data.toList[k]).toNat : Int) ≤ 255 := by have := (s.data.toList[k]).toNat_lt; omega
    have hb0 : 0 ≤ ((s.data.toList[k]).toNat : Int) := by omega
    have hset := HB.out.set k hl2 (up s.data.toList[k])
    rw [zdl _ _ _ hl] at hset
    have HN := Lib.hid hset
    clear hset
    generalize s.data.toList[k] = c at *
    have hz := HB.out.1
    go_wp2_with fail
    refine (zxn _ hb0 hb1 _).mono ?_
    rintro e w' ⟨rfl, rfl⟩
    rw [← HU.out]
    go_wp2_with fail
    go_roundw
    case rel => exact ⟨k + 1, by omega, by go_num, HN.out, HE.out.setCell (Nat.le_refl _) _⟩
    case measure => simp [intOf]; omega
  · obtain rfl : k = s.size := by omega
    have hconv := run_convert_bytes_arg (P := Tryz.prog) wr 29 5 Tryz.underlying29 Tryz.underlying5 w.heap.size 0 s.size (grownCap w s.size 0 5) (nums (s.data.toList.map up)) (by simp [nums]) (fun i hi => by
     have h := HB.out.2.1 i (by rw [zcm, za2]; exact hi)
     rw [← za2 s, zgc] at h
     rw [Nat.zero_add, h, nums_getD _ _ (by simpa using hi)]
     simp [List.getD, hi]) 9 Tryz.underlying9
    rw [zey] at hconv
    go_wp2_with fail
    go_ret
    exact ⟨rfl, HE.out⟩
set_option maxRecDepth 100000 in
set_option maxHeartbeats 1000000 in
theorem zoi (s : ByteArray) (hs : s.size ≤ maxLen) (w : World) :
 Calls Tryz.prog 213 #[.string s, .func (.func 225) #[] #[]] w fun e w' => e = .returned (.string (str (s.data.toList.map lo))) ∧ Below w.heap.size w w' := by
 have hm := hs
 unfold maxLen at hs
 have hconv := fun W => run_bytes_of_string (P := Tryz.prog) W 9 29 5 s Tryz.underlying9 Tryz.underlying29 Tryz.underlying5
 go_enter Tryz.func213, Tryz.ntmps213
 go_wp2_with fail
 clear hconv
 go_loopw [12] (fun i wr => ∃ k : Nat, k ≤ s.size ∧ i = .int .i64 k ∧ Bytes wr w.heap.size (mixed lo s.data.toList k) ∧ Below w.heap.size w wr) (fun i _ => s.size - (intOf i).toNat)
 case atStart => exact ⟨0, Nat.zero_le _, rfl, by rw [ze0]; exact Bytes.of _ _ _ _, ((Below.refl _ _).alloc (Nat.le_refl _) _).drew⟩
 case round =>
  obtain ⟨k, hk, rfl, hb, hB⟩ := hrel
  have HB := Lib.hid hb
  have HE := Lib.hid hB
  clear hb hB
  by_cases hlt : k < s.size
  · have hl : k < s.data.toList.length := by rw [za2]; exact hlt
    have hl2 : k < (mixed lo s.data.toList k).length := by rw [zcm]; exact hl
    have hc := HB.out.2.1 k hl2
    rw [ze1 _ _ _ hl] at hc
    have hf := HB.out.2.2 k hl2
    have HU := Lib.hid (ya6 s.data.toList[k])
    have hb1 : ((s.data.toList[k]).toNat : Int) ≤ 255 := by have := (s.data.toList[k]).toNat_lt; omega
    have hb0 : 0 ≤ ((s.data.toList[k]).toNat : Int) := by omega
    have hset := HB.out.set k hl2 (lo s.data.toList[k])
    rw [zdl _ _ _ hl] at hset
    have HN := Lib.hid hset
    clear hset
    generalize s.data.toList[k] = c at *
    have hz := HB.out.1
    go_wp2_with fail
    refine (zys _ hb0 hb1 _).mono ?_
    rintro e w' ⟨rfl, rfl⟩
    rw [← HU.out]
    go_wp2_with fail
    go_roundw
    case rel => exact ⟨k + 1, by omega, by go_num, HN.out, HE.out.setCell (Nat.le_refl _) _⟩
    case measure => simp [intOf]; omega
  · obtain rfl : k = s.size := by omega
    have hconv := run_convert_bytes_arg (P := Tryz.prog) wr 29 5 Tryz.underlying29 Tryz.underlying5 w.heap.size 0 s.size (grownCap w s.size 0 5) (nums (s.data.toList.map lo)) (by simp [nums]) (fun i hi => by
     have h := HB.out.2.1 i (by rw [zcm, za2]; exact hi)
     rw [← za2 s, zgc] at h
     rw [Nat.zero_add, h, nums_getD _ _ (by simpa using hi)]
     simp [List.getD, hi]) 9 Tryz.underlying9
    rw [zey] at hconv
    go_wp2_with fail
    go_ret
    exact ⟨rfl, HE.out⟩
def upS (s : ByteArray) : ByteArray := str (s.data.toList.map up)
def loS (s : ByteArray) : ByteArray := str (s.data.toList.map lo)
set_option maxHeartbeats 400000 in
theorem zt0 (s : ByteArray) (hs : s.size ≤ maxLen) (w : World) :
 Calls Tryz.prog 173 #[.string s] w fun e w' => e = .returned (.string (upS s)) ∧ Below w.heap.size w w' := by
 go_enter Tryz.func173, Tryz.ntmps173
 go_wp2_with fail
 refine (zoh s hs _).mono ?_
 rintro e w' ⟨rfl, hB⟩
 go_wp2_with fail
 go_ret
 exact ⟨rfl, hB⟩
set_option maxHeartbeats 400000 in
theorem zvt (s : ByteArray) (hs : s.size ≤ maxLen) (w : World) :
 Calls Tryz.prog 203 #[.string s] w fun e w' => e = .returned (.string (loS s)) ∧ Below w.heap.size w w' := by
 go_enter Tryz.func203, Tryz.ntmps203
 go_wp2_with fail
 refine (zoi s hs _).mono ?_
 rintro e w' ⟨rfl, hB⟩
 go_wp2_with fail
 go_ret
 exact ⟨rfl, hB⟩
end Go.Proofs.YtdhahiodnmmkeaaGreatDoor
/- Contracts of the specification's Plain, Check, Upper, Lower. -/
namespace Go.Proofs.YtdhahiodnmmkeaaGreatDoor
open Go.RowKit GM
set_option maxHeartbeats 400000 in
theorem zk1 (s : ByteArray) (hs : s.size ≤ maxLen) (w : World) :
 Calls Tryz.prog 169 #[.string s] w fun e w' => e = .returned (.bool (plain s.data.toList)) ∧ w = w' := by
 unfold maxLen at hs
 go_enter Tryz.func169, Tryz.ntmps169
 go_wp2_with fail
 go_loop [3] (fun i => ∃ k : Nat, k ≤ s.size ∧ i = .int .i64 k ∧ plain (s.data.toList.take k) = true) (fun i => s.size - (intOf i).toNat)
 case atStart => exact ⟨0, Nat.zero_le _, rfl, rfl⟩
 case round =>
  obtain ⟨k, hk, rfl, hp⟩ := hrel
  have HP := Lib.hid hp
  clear hp
  by_cases hlt : k < s.size
  · by_cases hc : 32 ≤ (s[k].toNat : Int) ∧ (s[k].toNat : Int) ≤ 126
    · have HN := Lib.hid (zk2 s k hlt hc HP.out)
      obtain ⟨c1, c2⟩ := hc
      go_wp2_with fail
      go_round
      case rel => exact ⟨k + 1, by omega, by go_num, HN.out⟩
      case measure => simp [intOf]; omega
    · have HN := Lib.hid (znl s k hlt hc)
      rcases Int.lt_or_le (s[k].toNat : Int) 32 with h1 | h1
      · clear hc
        go_wp2_with fail
        go_ret
        exact ⟨retB HN.out.symm, rfl⟩
      · have h2 : 126 < (s[k].toNat : Int) := by omega
        clear hc
        go_wp2_with fail
        go_ret
        exact ⟨retB HN.out.symm, rfl⟩
  · obtain rfl : k = s.size := by omega
    go_wp2_with fail
    go_ret
    exact ⟨retB (by rw [← HP.out, zh4]), rfl⟩
set_option maxHeartbeats 400000 in
theorem zsh (s : ByteArray) (hs : s.size ≤ maxLen) (w : World) :
 Calls Tryz.prog 86 #[.string s] w fun e w' => e = .returned (.int .i64 (chk s.data.toList)) ∧ w = w' := by
 have hm := hs
 unfold maxLen at hs
 by_cases h1 : 256 < s.size
 · have HC := Lib.hid (zr1 (l := s.data.toList) (by rw [za2]; exact h1))
   go_enter Tryz.func86, Tryz.ntmps86
   go_wp2_with fail
   go_ret
   exact ⟨retI HC.out.symm, rfl⟩
 · have h1' : ¬ 256 < s.data.toList.length := by rw [za2]; exact h1
   have H1 := Lib.hid h1'
   clear h1'
   cases hp : plain s.data.toList with
   | true =>
    have HC := Lib.hid (ybj H1.out hp)
    have HP := Lib.hid hp
    clear hp
    go_enter Tryz.func86, Tryz.ntmps86
    go_wp2_with fail
    refine (zk1 s hm _).mono ?_
    rintro e w' ⟨rfl, rfl⟩
    rw [HP.out]
    go_wp2_with fail
    go_ret
    exact ⟨retI HC.out.symm, rfl⟩
   | false =>
    have HC := Lib.hid (zr2 H1.out hp)
    have HP := Lib.hid hp
    clear hp
    go_enter Tryz.func86, Tryz.ntmps86
    go_wp2_with fail
    refine (zk1 s hm _).mono ?_
    rintro e w' ⟨rfl, rfl⟩
    rw [HP.out]
    go_wp2_with fail
    go_ret
    exact ⟨retI HC.out.symm, rfl⟩
set_option maxRecDepth 100000 in
set_option maxHeartbeats 1600000 in
theorem zsc (s : ByteArray) (hs : s.size ≤ maxLen) (w : World) :
 Calls Tryz.prog 164 #[.string s] w fun e w' => e = .returned (.string (upS s)) ∧ Below w.heap.size w w' := by
 have hm := hs
 unfold maxLen at hs
 have hconv := fun W => run_bytes_of_string (P := Tryz.prog) W 9 29 5 s Tryz.underlying9 Tryz.underlying29 Tryz.underlying5
 go_enter Tryz.func164, Tryz.ntmps164
 go_wp2_with fail
 clear hconv
 go_loopw [4] (fun i wr => ∃ k : Nat, k ≤ s.size ∧ i = .int .i64 k ∧ Bytes wr w.heap.size (mixed up s.data.toList k) ∧ Below w.heap.size w wr) (fun i _ => s.size - (intOf i).toNat)
 case atStart => exact ⟨0, Nat.zero_le _, rfl, by rw [ze0]; exact Bytes.of _ _ _ _, ((Below.refl _ _).alloc (Nat.le_refl _) _).drew⟩
 case round =>
  obtain ⟨k, hk, rfl, hb, hB⟩ := hrel
  have HB := Lib.hid hb
  have HE := Lib.hid hB
  clear hb hB
  by_cases hlt : k < s.size
  · have hl : k < s.data.toList.length := by rw [za2]; exact hlt
    have hl2 : k < (mixed up s.data.toList k).length := by rw [zcm]; exact hl
    have hc := HB.out.2.1 k hl2
    rw [ze1 _ _ _ hl] at hc
    have hf := HB.out.2.2 k hl2
    have HU := Lib.hid (zz0 s.data.toList[k])
    have hb1 : ((s.data.toList[k]).toNat : Int) ≤ 255 := by have := (s.data.toList[k]).toNat_lt; omega
    have hb0 : 0 ≤ ((s.data.toList[k]).toNat : Int) := by omega
    have hset := HB.out.set k hl2 (up s.data.toList[k])
    rw [zdl _ _ _ hl] at hset
    have hid : Hid (up s.data.toList[k] = s.data.toList[k] → Bytes wr w.heap.size (mixed up s.data.toList (k + 1))) := fun e => by
     rw [← zdl _ _ _ hl, e]
     have := HB.out
     rwa [show (mixed up s.data.toList k).set k s.data.toList[k] = mixed up s.data.toList k by
      have h3 := ze1 up s.data.toList k hl
      rw [List.getD, List.getElem?_eq_getElem hl2] at h3
      simp only [Option.getD_some] at h3
      rw [← h3]; exact List.set_getElem_self hl2]
    have HN := Lib.hid hset
    clear hset
    have hsame : Hid (¬ (97 ≤ ((s.data.toList[k]).toNat : Int) ∧ ((s.data.toList[k]).toNat : Int) ≤ 122) → up s.data.toList[k] = s.data.toList[k]) := fun h => UInt8.toNat_inj.1 (by have := HU.out; unfold upI at this; rw [if_neg h] at this; omega)
    have hdif : Hid ((97 ≤ ((s.data.toList[k]).toNat : Int) ∧ ((s.data.toList[k]).toNat : Int) ≤ 122) → ((s.data.toList[k]).toNat : Int) - 32 = ((up s.data.toList[k]).toNat : Int)) := fun h => by have := HU.out; unfold upI at this; rw [if_pos h] at this; omega
    generalize s.data.toList[k] = c at *
    have hz := HB.out.1
    rcases Int.lt_or_le (c.toNat : Int) 97 with a | a
    · have HG := Lib.hid (hid.out (hsame.out (by omega)))
      go_wp2_with fail
      go_roundw
      case rel => exact ⟨k + 1, by omega, by go_num, HG.out, HE.out⟩
      case measure => simp [intOf]; omega
    · rcases Int.lt_or_le 122 (c.toNat : Int) with b | b
      · have HG := Lib.hid (hid.out (hsame.out (by omega)))
        go_wp2_with fail
        go_roundw
        case rel => exact ⟨k + 1, by omega, by go_num, HG.out, HE.out⟩
        case measure => simp [intOf]; omega
      · have HD := Lib.hid (hdif.out ⟨a, b⟩)
        go_wp2_with fail
        go_roundw
        case rel => exact ⟨k + 1, by omega, by go_num, by rw [HD.out]; exact HN.out, HE.out.setCell (Nat.le_refl _) _⟩
        case measure => simp [intOf]; omega
  · obtain rfl : k = s.size := by omega
    have hconv := run_convert_bytes_arg (P := Tryz.prog) wr 29 5 Tryz.underlying29 Tryz.underlying5 w.heap.size 0 s.size (grownCap w s.size 0 5) (nums (s.data.toList.map up)) (by simp [nums]) (fun i hi => by
     have h := HB.out.2.1 i (by rw [zcm, za2]; exact hi)
     rw [← za2 s, zgc] at h
     rw [Nat.zero_add, h, nums_getD _ _ (by simpa using hi)]
     simp [List.getD, hi]) 9 Tryz.underlying9
    rw [zey] at hconv
    go_wp2_with fail
    go_ret
    exact ⟨rfl, HE.out⟩
set_option maxRecDepth 100000 in
set_option maxHeartbeats 1600000 in
theorem zsf (s : ByteArray) (hs : s.size ≤ maxLen) (w : World) :
 Calls Tryz.prog 165 #[.string s] w fun e w' => e = .returned (.string (loS s)) ∧ Below w.heap.size w w' := by
 have hm := hs
 unfold maxLen at hs
 have hconv := fun W => run_bytes_of_string (P := Tryz.prog) W 9 29 5 s Tryz.underlying9 Tryz.underlying29 Tryz.underlying5
 go_enter Tryz.func165, Tryz.ntmps165
 go_wp2_with fail
 clear hconv
 go_loopw [4] (fun i wr => ∃ k : Nat, k ≤ s.size ∧ i = .int .i64 k ∧ Bytes wr w.heap.size (mixed lo s.data.toList k) ∧ Below w.heap.size w wr) (fun i _ => s.size - (intOf i).toNat)
 case atStart => exact ⟨0, Nat.zero_le _, rfl, by rw [ze0]; exact Bytes.of _ _ _ _, ((Below.refl _ _).alloc (Nat.le_refl _) _).drew⟩
 case round =>
  obtain ⟨k, hk, rfl, hb, hB⟩ := hrel
  have HB := Lib.hid hb
  have HE := Lib.hid hB
  clear hb hB
  by_cases hlt : k < s.size
  · have hl : k < s.data.toList.length := by rw [za2]; exact hlt
    have hl2 : k < (mixed lo s.data.toList k).length := by rw [zcm]; exact hl
    have hc := HB.out.2.1 k hl2
    rw [ze1 _ _ _ hl] at hc
    have hf := HB.out.2.2 k hl2
    have HU := Lib.hid (ya6 s.data.toList[k])
    have hb1 : ((s.data.toList[k]).toNat : Int) ≤ 255 := by have := (s.data.toList[k]).toNat_lt; omega
    have hb0 : 0 ≤ ((s.data.toList[k]).toNat : Int) := by omega
    have hset := HB.out.set k hl2 (lo s.data.toList[k])
    rw [zdl _ _ _ hl] at hset
    have hid : Hid (lo s.data.toList[k] = s.data.toList[k] → Bytes wr w.heap.size (mixed lo s.data.toList (k + 1))) := fun e => by
     rw [← zdl _ _ _ hl, e]
     have := HB.out
     rwa [show (mixed lo s.data.toList k).set k s.data.toList[k] = mixed lo s.data.toList k by
      have h3 := ze1 lo s.data.toList k hl
      rw [List.getD, List.getElem?_eq_getElem hl2] at h3
      simp only [Option.getD_some] at h3
      rw [← h3]; exact List.set_getElem_self hl2]
    have HN := Lib.hid hset
    clear hset
    have hsame : Hid (¬ (65 ≤ ((s.data.toList[k]).toNat : Int) ∧ ((s.data.toList[k]).toNat : Int) ≤ 90) → lo s.data.toList[k] = s.data.toList[k]) := fun h => UInt8.toNat_inj.1 (by have := HU.out; unfold loI at this; rw [if_neg h] at this; omega)
    have hdif : Hid ((65 ≤ ((s.data.toList[k]).toNat : Int) ∧ ((s.data.toList[k]).toNat : Int) ≤ 90) → ((s.data.toList[k]).toNat : Int) + 32 = ((lo s.data.toList[k]).toNat : Int)) := fun h => by have := HU.out; unfold loI at this; rw [if_pos h] at this; omega
    generalize s.data.toList[k] = c at *
    have hz := HB.out.1
    rcases Int.lt_or_le (c.toNat : Int) 65 with a | a
    · have HG := Lib.hid (hid.out (hsame.out (by omega)))
      go_wp2_with fail
      go_roundw
      case rel => exact ⟨k + 1, by omega, by go_num, HG.out, HE.out⟩
      case measure => simp [intOf]; omega
    · rcases Int.lt_or_le 90 (c.toNat : Int) with b | b
      · have HG := Lib.hid (hid.out (hsame.out (by omega)))
        go_wp2_with fail
        go_roundw
        case rel => exact ⟨k + 1, by omega, by go_num, HG.out, HE.out⟩
        case measure => simp [intOf]; omega
      · have HD := Lib.hid (hdif.out ⟨a, b⟩)
        go_wp2_with fail
        go_roundw
        case rel => exact ⟨k + 1, by omega, by go_num, by rw [HD.out]; exact HN.out, HE.out.setCell (Nat.le_refl _) _⟩
        case measure => simp [intOf]; omega
  · obtain rfl : k = s.size := by omega
    have hconv := run_convert_bytes_arg (P := Tryz.prog) wr 29 5 Tryz.underlying29 Tryz.underlying5 w.heap.size 0 s.size (grownCap w s.size 0 5) (nums (s.data.toList.map lo)) (by simp [nums]) (fun i hi => by
     have h := HB.out.2.1 i (by rw [zcm, za2]; exact hi)
     rw [← za2 s, zgc] at h
     rw [Nat.zero_add, h, nums_getD _ _ (by simpa using hi)]
     simp [List.getD, hi]) 9 Tryz.underlying9
    rw [zey] at hconv
    go_wp2_with fail
    go_ret
    exact ⟨rfl, HE.out⟩
end Go.Proofs.YtdhahiodnmmkeaaGreatDoor
/- A slice of bytes of the call's own: appended to byte by byte, turned into a string. -/
namespace Go.Proofs.YtdhahiodnmmkeaaGreatDoor
open Go.RowKit GM
def bV (c : UInt8) : Value := .int .u8 (c.toNat : Int)
def OwnB (B : Nat) (w : World) (v : Value) (l : List UInt8) : Prop := w.ownsRow B 5 1 v l.length (l.map bV)
theorem zox : (Tryz.prog.info? 5).map (fun i => (i.zero, i.size, i.bytes)) = some (some (.int .u8 0), 1, 1) := by kernel_rfl
theorem OwnB.nil (B : Nat) (w : World) : OwnB B w (.slice none 0 0) [] := World.ownsRow_nil _ _ _ _
theorem OwnB.alloc {B : Nat} {w : World} {v : Value} {l : List UInt8} (h : OwnB B w v l) (o : Obj) : OwnB B (w.alloc o) v l := World.ownsRow.alloc h o
theorem OwnB.drew {B : Nat} {w : World} {v : Value} {l : List UInt8} (h : OwnB B w v l) : OwnB B w.drew v l := h
theorem OwnB.one {B : Nat} (w : World) (hB : B ≤ w.heap.size) (c : UInt8) : OwnB B (w.alloc (.cells #[.int .u8 (c.toNat : Int)] 5)) (.slice (some ⟨w.heap.size, 0, none⟩) 1 1) [c] :=
 ⟨rfl, .inr ⟨w.heap.size, 1, #[.int .u8 (c.toNat : Int)], rfl, hB, heap_alloc_new w _, Nat.le_refl _, by decide, rfl, rfl⟩⟩
theorem OwnB.shape {B : Nat} {w : World} {v : Value} {l : List UInt8} (h : OwnB B w v l) : ∃ a cap, v = .slice a l.length cap ∧ l.length ≤ cap := by
 rcases h.2 with ⟨rfl, h0⟩ | ⟨g, cap, cur, rfl, _, _, hc, _⟩
 · exact ⟨none, 0, by rw [h0], by omega⟩
 · exact ⟨_, cap, rfl, hc⟩
theorem OwnB.str {B : Nat} {w : World} {v : Value} {l : List UInt8} (h : OwnB B w v l) : (convert 29 9 v).run Tryz.prog w = .ok (.string (str l)) w := by
 rcases h.2 with ⟨rfl, h0⟩ | ⟨g, cap, cur, rfl, _⟩
 · obtain rfl : l = [] := List.length_eq_zero_iff.1 h0
   rw [run_convert_bytes_nil w 29 5 Tryz.underlying29 Tryz.underlying5 0 0 9 Tryz.underlying9]
   rfl
 · have hc := World.ownsRow.cells h (g := g) rfl
   rw [run_convert_bytes_back w 29 9 5 ⟨g, 0, none⟩ cap l Tryz.underlying29 Tryz.underlying5 Tryz.underlying9 (fun j hj => by
    rw [hc j (bV l[j]) (by simp [hj])]; rfl)]
   rfl
theorem zb9 {ops : Array Oper} {rest : List Oper} {o : Oper} {a : Act} {w : World} {Q : Exit → Act → World → Prop} (hgd : o.guard = none) (s x : Operand)
 (ho : o.op = .call { callee := .builtin .append, args := #[s, x], argTypes := #[29, 29] }) (B : Nat) (v : Value) (l : List UInt8) (hs : a.eval s = v) (hown : OwnB B w v l)
 (g : Nat) (c : UInt8) (hx : a.eval x = .slice (some ⟨g, 0, none⟩) 1 1) (hc : w.cell? ⟨g, 0, none⟩ = some (.int .u8 (c.toNat : Int))) (hl : l.length ≤ 1000000) (hB : B ≤ w.heap.size)
 (h : ∀ v' w', OwnB B w' v' (l ++ [c]) → Below B w w' → wpList Tryz.prog ops Q rest (a.put o.dst v') w') : wpList Tryz.prog ops Q (o :: rest) a w := by
 obtain ⟨i0, hi, hz0, hz1, hz2⟩ := info_parts zox
 refine wpList_append_own w hgd s x 29 ho B 5 i0 (.int .u8 0) 1 1 Tryz.underlying29 hi hz0 hz1 hz2 rfl (by decide) v l.length (l.map bV) hs hown ⟨g, 0, none⟩ 1 1 [bV c] hx rfl ?_ ?_ ?_ ?_ hB ?_
 · intro j u hj
   match j, hj with
   | 0, hj => simp at hj; subst hj; exact hc
 · intro u hu; simp at hu; subst hu; rfl
 · unfold maxLen; omega
 · omega
 · intro v' w' ho' hg _
   refine h v' w' ?_ ((Below.refl _ _).grown hg hB (fun k hk => (World.ownsRow.lt hown k hk).1))
   unfold OwnB
   rw [List.length_append, List.map_append]; exact ho'
end Go.Proofs.YtdhahiodnmmkeaaGreatDoor
