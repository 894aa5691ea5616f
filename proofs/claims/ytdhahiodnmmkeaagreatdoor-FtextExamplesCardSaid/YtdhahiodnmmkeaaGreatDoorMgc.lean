/- Merged: GlyphD GlyphE GlyphF. -/
import Derived.Test.YtdhahiodnmmkeaaGreatDoorMga
import Derived.Test.YtdhahiodnmmkeaaGreatDoorMgb
import Derived.WalkMore
import Derived.ScopeJumps
import Derived.Deep.LoopGhost
/- Contracts of Trim: the program's and the specification's. -/
namespace Go.Proofs.YtdhahiodnmmkeaaGreatDoor
open Go.RowKit GM
theorem yd4 (s : ByteArray) (k : Nat) (h : k < s.size) : kp false (s.data.toList.take (k + 1)) = kp false (s.data.toList.take k) ++ (if s[k] = 32 then (if zcz false (s.data.toList.take k) then [32] else []) else [s[k]]) := by
 rw [zdg s k h, yd3]
theorem zyv (s : ByteArray) (k : Nat) (h : k < s.size) : zcz false (s.data.toList.take (k + 1)) = (s[k] != 32) := by rw [zdg s k h, zlc]
theorem zhf (c : UInt8) (h : ¬ (c.toNat : Int) = 32) : c ≠ 32 := fun e => h (by rw [e]; rfl)
theorem zhg (c : UInt8) (h : (c.toNat : Int) = 32) : c = 32 := UInt8.toNat_inj.1 (by have : (32 : UInt8).toNat = 32 := rfl; omega)
set_option maxRecDepth 100000 in
set_option maxHeartbeats 1600000 in
theorem zqo (s : ByteArray) (hs : s.size ≤ 4000) (w : World) :
 Calls Tryz.prog 171 #[.string s] w fun e w' => e = .returned (.string (str (trim s.data.toList))) ∧ Below w.heap.size w w' := by
 obtain ⟨i0, hi, hz0, hz1, hz2⟩ := info_parts zox
 go_enter Tryz.func171, Tryz.ntmps171
 go_wp2_with (at_make; refine wpList_make_own _ rfl _ _ 29 rfl w.heap.size 5 i0 (.int .u8 0) 1 Tryz.underlying29 hi hz0 hz1 _ _ _ s.size rfl rfl rfl (by rw [hz2]; omega) (by unfold maxLen; omega) (Nat.le_refl _) ?_)
 intro w1 hown hg
 have hB := (Below.refl w.heap.size w).grown hg (Nat.le_refl _) (fun k hk => by cases hk)
 have HO : Hid (OwnB w.heap.size w1 (.slice (some ⟨w.heap.size, 0, none⟩) 0 s.size) []) := hown
 have HB := Lib.hid hB
 clear hown hg hB
 go_wp2_with fail
 go_loopw [3, 10] (fun v i wr => ∃ k : Nat, k ≤ s.size ∧ i = .int .i64 k ∧ OwnB w.heap.size wr v (kp false (s.data.toList.take k)) ∧ Below w.heap.size w wr) (fun _ i _ => s.size - (intOf i).toNat)
 case atStart => exact ⟨0, Nat.zero_le _, rfl, HO.out, HB.out⟩
 case round =>
  obtain ⟨k, hk, rfl, ho, hB⟩ := hrel
  have HO := Lib.hid ho
  have HB := Lib.hid hB
  have hz := hB.size
  clear ho hB
  have HL := Lib.hid (ya7 false (s.data.toList.take k))
  have HL2 : Hid ((kp false (s.data.toList.take k)).length ≤ 1000000) := by have := HL.out; simp at this; unfold Hid; omega
  by_cases hlt : k < s.size
  · have HN := Lib.hid (yd4 s k hlt)
    by_cases hc : (s[k].toNat : Int) = 32
    · by_cases h0 : k = 0
      · subst h0
        have HE : Hid (kp false (s.data.toList.take (0 + 1)) = kp false (s.data.toList.take 0)) := by
         unfold Hid; rw [HN.out, if_pos (zhg _ hc)]; simp [zcz]
        go_wp2_with fail
        go_roundw
        case rel => exact ⟨0 + 1, by omega, by go_num, by rw [HE.out]; exact HO.out, HB.out⟩
        case measure => simp [intOf]; omega
      · have h0' : 0 < k := by omega
        have hk1 : k - 1 < s.size := by omega
        have hkk : k - 1 + 1 = k := by omega
        have HLN := zyv s (k - 1) hk1
        rw [hkk] at HLN
        have hi1 : (k : Int) - 1 = ((k - 1 : Nat) : Int) := by omega
        by_cases hp : (s[k - 1].toNat : Int) = 32
        · have HE : Hid (kp false (s.data.toList.take (k + 1)) = kp false (s.data.toList.take k)) := by
           unfold Hid; rw [HN.out, if_pos (zhg _ hc), HLN, zhg _ hp]; simp
          clear HLN
          have HKK := Lib.hid hkk
          clear hkk h0
          go_wp2_with fail
          go_roundw
          case rel => exact ⟨k + 1, by omega, by go_num, by rw [HE.out]; exact HO.out, HB.out⟩
          case measure => simp [intOf]; omega
        · have HE : Hid (kp false (s.data.toList.take (k + 1)) = kp false (s.data.toList.take k) ++ [32]) := by
           unfold Hid; rw [HN.out, if_pos (zhg _ hc), HLN]
           have := zhf _ hp
           simp [this]
          clear HLN
          have HKK := Lib.hid hkk
          clear hkk h0
          go_wp2_with (at_builtin; refine zb9 rfl _ _ rfl w.heap.size _ _ rfl (HO.out.alloc _) wr.heap.size 32 rfl (by simp) HL2.out (by simp; omega) ?_)
          intro v' w' ho' hb'
          have HO' := Lib.hid ho'
          have HB' := Lib.hid ((HB.out.alloc hz _).trans hb')
          clear ho' hb'
          go_wp2_with fail
          go_roundw
          case rel => exact ⟨k + 1, by omega, by go_num, by rw [HE.out]; exact HO'.out, HB'.out⟩
          case measure => simp [intOf]; omega
    · have HE : Hid (kp false (s.data.toList.take (k + 1)) = kp false (s.data.toList.take k) ++ [s[k]]) := by
       unfold Hid; rw [HN.out, if_neg (zhf _ hc)]
      go_wp2_with (at_builtin; refine zb9 rfl _ _ rfl w.heap.size _ _ rfl (HO.out.alloc _) wr.heap.size s[k] rfl (by simp) HL2.out (by simp; omega) ?_)
      intro v' w' ho' hb'
      have HO' := Lib.hid ho'
      have HB' := Lib.hid ((HB.out.alloc hz _).trans hb')
      clear ho' hb'
      go_wp2_with fail
      go_roundw
      case rel => exact ⟨k + 1, by omega, by go_num, by rw [HE.out]; exact HO'.out, HB'.out⟩
      case measure => simp [intOf]; omega
  · obtain rfl : k = s.size := by omega
    have HX := Lib.hid HO.out.str
    rw [zh4] at HX
    have hx := HX.out
    go_wp2_with fail
    refine (Tryz.strings_Trim_one (str (kp false s.data.toList)) 32 (by decide) _ (by rw [zly]; have := ya7 false s.data.toList; rw [za2] at this; omega)).mono ?_
    rintro e w' ⟨rfl, hB2⟩
    rw [zxr, ycx]
    have HB3 : Hid (Below w.heap.size w w') := by
     unfold Hid; rcases hB2 with rfl | rfl
     · exact HB.out
     · exact HB.out.drew
    clear hB2
    go_wp2_with fail
    go_ret
    exact ⟨rfl, HB3.out⟩
theorem ycz (s : ByteArray) (k : Nat) (h : k < s.size) : tr false false (s.data.toList.take (k + 1)) = tr false false (s.data.toList.take k) ++ (if s[k] = 32 then [] else if (!(tr false false (s.data.toList.take k)).isEmpty) && !(zcz true (s.data.toList.take k)) then [32, s[k]] else [s[k]]) := by
 rw [zdg s k h, ycy]; rfl
theorem zyu (s : ByteArray) (k : Nat) (h : k < s.size) : zcz true (s.data.toList.take (k + 1)) = (s[k] != 32) := by rw [zdg s k h, zlc]
set_option maxRecDepth 100000 in
set_option maxHeartbeats 1600000 in
theorem zng (s : ByteArray) (hs : s.size ≤ 4000) (w : World) :
 Calls Tryz.prog 104 #[.string s] w fun e w' => e = .returned (.string (str (trim s.data.toList))) ∧ Below w.heap.size w w' := by
 go_enter Tryz.func104, Tryz.ntmps104
 go_wp2_with fail
 go_loopw [3, 4] (fun v i wr => ∃ k : Nat, k ≤ s.size ∧ i = .int .i64 k ∧ OwnB w.heap.size wr v (tr false false (s.data.toList.take k)) ∧ Below w.heap.size w wr) (fun _ i _ => s.size - (intOf i).toNat)
 case atStart => exact ⟨0, Nat.zero_le _, rfl, OwnB.nil _ _, Below.refl _ _⟩
 case round =>
  obtain ⟨k, hk, rfl, ho, hB⟩ := hrel
  obtain ⟨va, vc, rfl, _⟩ := ho.shape
  have HO := Lib.hid ho
  have HB := Lib.hid hB
  have hz := hB.size
  clear ho hB
  have HL := Lib.hid (yfs false false (s.data.toList.take k))
  have HL2 : Hid ((tr false false (s.data.toList.take k)).length ≤ 1000000) := by have := HL.out; simp at this; unfold Hid; omega
  have HL3 : Hid ((tr false false (s.data.toList.take k) ++ [32]).length ≤ 1000000) := by have := HL.out; simp at this; unfold Hid; simp; omega
  by_cases hlt : k < s.size
  · have HN := Lib.hid (ycz s k hlt)
    by_cases hc : (s[k].toNat : Int) = 32
    · have HE : Hid (tr false false (s.data.toList.take (k + 1)) = tr false false (s.data.toList.take k)) := by
       unfold Hid; rw [HN.out, if_pos (zhg _ hc)]; simp
      go_wp2_with fail
      go_roundw
      case rel => exact ⟨k + 1, by omega, by go_num, by rw [HE.out]; exact HO.out, HB.out⟩
      case measure => simp [intOf]; omega
    · by_cases hg : 0 < (tr false false (s.data.toList.take k)).length
      · have h0 : 0 < k := by
         rcases Nat.eq_zero_or_pos k with h | h
         · subst h; simp [tr] at hg
         · exact h
        have hk1 : k - 1 < s.size := by omega
        have hkk : k - 1 + 1 = k := by omega
        have HLN := zyu s (k - 1) hk1
        rw [hkk] at HLN
        have hi1 : (k : Int) - 1 = ((k - 1 : Nat) : Int) := by omega
        have hgi : (0 : Int) < ((tr false false (s.data.toList.take k)).length : Int) := by omega
        have hne : (tr false false (s.data.toList.take k)).isEmpty = false := by
         cases h : tr false false (s.data.toList.take k) with
         | nil => rw [h] at hg; simp at hg
         | cons => rfl
        by_cases hp : (s[k - 1].toNat : Int) = 32
        · have HE : Hid (tr false false (s.data.toList.take (k + 1)) = tr false false (s.data.toList.take k) ++ [32, s[k]]) := by
           unfold Hid; rw [HN.out, if_neg (zhf _ hc), HLN, zhg _ hp, hne]; simp
          clear HLN hne
          have HKK := Lib.hid hkk
          clear hkk hg
          go_wp2_with (at_builtin; refine zb9 rfl (.tmp 25) _ rfl w.heap.size _ _ rfl (HO.out.alloc _) wr.heap.size 32 rfl (by simp) HL2.out (by simp; omega) ?_)
          intro v1 w1 ho1 hb1
          have HO1 := Lib.hid ho1
          have HB1 := Lib.hid ((HB.out.alloc hz _).trans hb1)
          have hz1 := HB1.out.size
          clear ho1 hb1
          go_wp2_with (at_builtin; refine zb9 rfl (.tmp 28) _ rfl w.heap.size _ _ rfl (HO1.out.alloc _) w1.heap.size s[k] rfl (by simp) HL3.out (by simp; omega) ?_)
          intro v2 w2 ho2 hb2
          have HO2 := Lib.hid ho2
          have HB2 := Lib.hid ((HB1.out.alloc hz1 _).trans hb2)
          clear ho2 hb2
          go_wp2_with fail
          go_roundw
          case rel => exact ⟨k + 1, by omega, by go_num, by rw [HE.out]; exact HO2.out, HB2.out⟩
          case measure => simp [intOf]; omega
        · have HE : Hid (tr false false (s.data.toList.take (k + 1)) = tr false false (s.data.toList.take k) ++ [s[k]]) := by
           unfold Hid; rw [HN.out, if_neg (zhf _ hc), HLN]
           have := zhf _ hp
           simp [this]
          clear HLN hne
          have HKK := Lib.hid hkk
          clear hkk hg
          go_wp2_with (at_builtin; refine zb9 rfl (.tmp 28) _ rfl w.heap.size _ _ rfl (HO.out.alloc _) wr.heap.size s[k] rfl (by simp) HL2.out (by simp; omega) ?_)
          intro v2 w2 ho2 hb2
          have HO2 := Lib.hid ho2
          have HB2 := Lib.hid ((HB.out.alloc hz _).trans hb2)
          clear ho2 hb2
          go_wp2_with fail
          go_roundw
          case rel => exact ⟨k + 1, by omega, by go_num, by rw [HE.out]; exact HO2.out, HB2.out⟩
          case measure => simp [intOf]; omega
      · have h0 : tr false false (s.data.toList.take k) = [] := List.length_eq_zero_iff.1 (by omega)
        have hgi : ¬ (0 : Int) < ((tr false false (s.data.toList.take k)).length : Int) := by omega
        have HE : Hid (tr false false (s.data.toList.take (k + 1)) = tr false false (s.data.toList.take k) ++ [s[k]]) := by
         unfold Hid; rw [HN.out, if_neg (zhf _ hc), h0]; simp
        clear h0 hg
        go_wp2_with (at_builtin; refine zb9 rfl (.tmp 28) _ rfl w.heap.size _ _ rfl (HO.out.alloc _) wr.heap.size s[k] rfl (by simp) HL2.out (by simp; omega) ?_)
        intro v2 w2 ho2 hb2
        have HO2 := Lib.hid ho2
        have HB2 := Lib.hid ((HB.out.alloc hz _).trans hb2)
        clear ho2 hb2
        go_wp2_with fail
        go_roundw
        case rel => exact ⟨k + 1, by omega, by go_num, by rw [HE.out]; exact HO2.out, HB2.out⟩
        case measure => simp [intOf]; omega
  · obtain rfl : k = s.size := by omega
    have HX := Lib.hid HO.out.str
    have HT : Hid (tr false false (s.data.toList.take s.size) = trim s.data.toList) := by unfold Hid; rw [zh4]; rfl
    have hx := HX.out
    go_wp2_with fail
    go_ret
    exact ⟨retS (by rw [HT.out]), HB.out⟩
end Go.Proofs.YtdhahiodnmmkeaaGreatDoor
/- Contracts of Quote: the program's and the specification's. -/
namespace Go.Proofs.YtdhahiodnmmkeaaGreatDoor
open Go.RowKit GM
def ML (w : World) : Prop := 2 < w.heap.size ∧ ∃ m : Int, w.cell? ⟨2, 0, none⟩ = some (.int .i64 m)
theorem ML.later {w w' : World} (h : ML w) (hB : Below w.heap.size w w') : ML w' := by
 obtain ⟨h1, m, h2⟩ := h
 refine ⟨Nat.lt_of_lt_of_le h1 hB.size, m, ?_⟩
 rw [(bcell hB).1 _ _ h1]; exact h2
theorem ygq {l : List UInt8} (h : chk l = 0) : l.length ≤ 256 := by
 unfold chk at h
 split at h
 · cases h
 · omega
end Go.Proofs.YtdhahiodnmmkeaaGreatDoor
/- The contract of the program's Unquote. -/
namespace Go.Proofs.YtdhahiodnmmkeaaGreatDoor
open Go.RowKit GM
def okU (l : List UInt8) : Bool := decide (2 ≤ l.length) && (l.getD 0 0 == 34) && (l.getD (l.length - 1) 0 == 34) && plain l
def RestU (L : List UInt8) (T : List UInt8) (k : Nat) : Prop := unq L = (unq (L.drop k)).map (T ++ ·) ∧ T.length ≤ k
theorem RestU.zero (L : List UInt8) : RestU L [] 0 := ⟨by simp, by simp⟩
theorem zj0 (L : List UInt8) (k : Nat) (h : k < L.length) : L.drop k = L[k] :: L.drop (k + 1) := List.drop_eq_getElem_cons h
theorem RestU.one {L T : List UInt8} {k : Nat} (h : RestU L T k) (hk : k < L.length) (hc : L[k] ≠ 34) : RestU L (T ++ [L[k]]) (k + 1) := by
 refine ⟨?_, by have := h.2; simp; omega⟩
 rw [h.1, zj0 L k hk, zxo _ _ hc, Option.map_map]
 congr 1
 funext x; simp
theorem RestU.two {L T : List UInt8} {k : Nat} (h : RestU L T k) (hk : k + 1 < L.length) (hc : L[k] = 34) (hd : L[k + 1] = 34) : RestU L (T ++ [34]) (k + 2) := by
 refine ⟨?_, by have := h.2; simp; omega⟩
 rw [h.1, zj0 L k (by omega), zj0 L (k + 1) hk, hc, hd, ycw, Option.map_map]
 congr 1
 funext x; simp
theorem RestU.done {L T : List UInt8} (h : RestU L T L.length) : unq L = some T := by
 rw [h.1, List.drop_length]; simp [unq]
end Go.Proofs.YtdhahiodnmmkeaaGreatDoor
