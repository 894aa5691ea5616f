/- Merged: GlyphD GlyphE GlyphF. -/
import Derived.Test.YtdhahiodnmmkeaaGreatDoorMgb
import Derived.Test.YtdhahiodnmmkeaaGreatDoorShelfGlyph
import Derived.WalkMore
import Derived.ScopeJumps
import Derived.Deep.LoopGhost
/- Contracts of Trim: the program's and the specification's. -/
namespace Go.Proofs.YtdhahiodnmmkeaaGreatDoor
open Go.RowKit GM
theorem kp_next (s : ByteArray) (k : Nat) (h : k < s.size) : kp false (s.data.toList.take (k + 1)) = kp false (s.data.toList.take k) ++ (if s[k] = 32 then (if lastN false (s.data.toList.take k) then [32] else []) else [s[k]]) := by
  rw [take_snoc s k h, kp_snoc]
theorem lastN_at (s : ByteArray) (k : Nat) (h : k < s.size) : lastN false (s.data.toList.take (k + 1)) = (s[k] != 32) := by rw [take_snoc s k h, lastN_snoc]
theorem byte_ne (c : UInt8) (h : ¬ (c.toNat : Int) = 32) : c ≠ 32 := fun e => h (by rw [e]; rfl)
theorem byte_eq (c : UInt8) (h : (c.toNat : Int) = 32) : c = 32 := UInt8.toNat_inj.1 (by have : (32 : UInt8).toNat = 32 := rfl; omega)
set_option maxRecDepth 100000 in
set_option maxHeartbeats 1600000 in
theorem trim_any (s : ByteArray) (hs : s.size ≤ 4000) (w : World) :
    Calls Tryz.prog 171 #[.string s] w fun e w' => e = .returned (.string (str (trim s.data.toList))) ∧ Below w.heap.size w w' := by
  obtain ⟨i0, hi, hz0, hz1, hz2⟩ := info_parts u8_info
  go_enter Tryz.func171, Tryz.ntmps171
  go_wp2_with (at_make; refine wpList_make_own _ rfl _ _ 29 rfl w.heap.size 5 i0 (.int .u8 0) 1 Tryz.underlying29 hi hz0 hz1 _ _ _ s.size rfl rfl rfl (by rw [hz2]; omega) (by unfold maxLen; omega) (Nat.le_refl _) ?_)
  intro w1 hown hg
  have hB := (Below.refl w.heap.size w).grown hg (Nat.le_refl _) (fun k hk => by cases hk)
  have HO : Hid (OwnB w.heap.size w1 (.slice (some ⟨w.heap.size, 0, none⟩) 0 s.size) []) := hown
  have HB := Lib.hid hB
  clear hown hg hB
  go_wp2_with fail
  go_loopw [3, 10] (fun v i wr => ∃ k : Nat, k ≤ s.size ∧ i = .int .i64 k ∧ OwnB w.heap.size wr v (kp false (s.data.toList.take k)) ∧ Below w.heap.size w wr) (fun _ i _ => s.size - (intOf i).toNat)
  case atStart => exact ⟨0, Nat.zero_le _, rfl, HO.out, HB.out⟩
  case round =>
    obtain ⟨k, hk, rfl, ho, hB⟩ := hrel
    have HO := Lib.hid ho
    have HB := Lib.hid hB
    have hz := hB.size
    clear ho hB
    have HL := Lib.hid (kp_len false (s.data.toList.take k))
    have HL2 : Hid ((kp false (s.data.toList.take k)).length ≤ 1000000) := by have := HL.out; simp at this; unfold Hid; omega
    by_cases hlt : k < s.size
    · have HN := Lib.hid (kp_next s k hlt)
      by_cases hc : (s[k].toNat : Int) = 32
      · by_cases h0 : k = 0
        · subst h0
          have HE : Hid (kp false (s.data.toList.take (0 + 1)) = kp false (s.data.toList.take 0)) := by
            unfold Hid; rw [HN.out, if_pos (byte_eq _ hc)]; simp [lastN]
          go_wp2_with fail
          go_roundw
          case rel => exact ⟨0 + 1, by omega, by go_num, by rw [HE.out]; exact HO.out, HB.out⟩
          case measure => simp [intOf]; omega
        · have h0' : 0 < k := by omega
          have hk1 : k - 1 < s.size := by omega
          have hkk : k - 1 + 1 = k := by omega
          have HLN := lastN_at s (k - 1) hk1
          rw [hkk] at HLN
          have hi1 : (k : Int) - 1 = ((k - 1 : Nat) : Int) := by omega
          by_cases hp : (s[k - 1].toNat : Int) = 32
          · have HE : Hid (kp false (s.data.toList.take (k + 1)) = kp false (s.data.toList.take k)) := by
              unfold Hid; rw [HN.out, if_pos (byte_eq _ hc), HLN, byte_eq _ hp]; simp
            clear HLN
            have HKK := Lib.hid hkk
            clear hkk h0
            go_wp2_with fail
            go_roundw
            case rel => exact ⟨k + 1, by omega, by go_num, by rw [HE.out]; exact HO.out, HB.out⟩
            case measure => simp [intOf]; omega
          · have HE : Hid (kp false (s.data.toList.take (k + 1)) = kp false (s.data.toList.take k) ++ [32]) := by
              unfold Hid; rw [HN.out, if_pos (byte_eq _ hc), HLN]
              have := byte_ne _ hp
              simp [this]
            clear HLN
            have HKK := Lib.hid hkk
            clear hkk h0
            go_wp2_with (at_builtin; refine wpList_app1 rfl _ _ rfl w.heap.size _ _ rfl (HO.out.alloc _) wr.heap.size 32 rfl (by simp) HL2.out (by simp; omega) ?_)
            intro v' w' ho' hb'
            have HO' := Lib.hid ho'
            have HB' := Lib.hid ((HB.out.alloc hz _).trans hb')
            clear ho' hb'
            go_wp2_with fail
            go_roundw
            case rel => exact ⟨k + 1, by omega, by go_num, by rw [HE.out]; exact HO'.out, HB'.out⟩
            case measure => simp [intOf]; omega
      · have HE : Hid (kp false (s.data.toList.take (k + 1)) = kp false (s.data.toList.take k) ++ [s[k]]) := by
          unfold Hid; rw [HN.out, if_neg (byte_ne _ hc)]
        go_wp2_with (at_builtin; refine wpList_app1 rfl _ _ rfl w.heap.size _ _ rfl (HO.out.alloc _) wr.heap.size s[k] rfl (by simp) HL2.out (by simp; omega) ?_)
        intro v' w' ho' hb'
        have HO' := Lib.hid ho'
        have HB' := Lib.hid ((HB.out.alloc hz _).trans hb')
        clear ho' hb'
        go_wp2_with fail
        go_roundw
        case rel => exact ⟨k + 1, by omega, by go_num, by rw [HE.out]; exact HO'.out, HB'.out⟩
        case measure => simp [intOf]; omega
    · obtain rfl : k = s.size := by omega
      have HX := Lib.hid HO.out.str
      rw [take_all] at HX
      have hx := HX.out
      go_wp2_with fail
      refine (Tryz.strings_Trim_one (str (kp false s.data.toList)) 32 (by decide) _ (by rw [str_size]; have := kp_len false s.data.toList; rw [data_len] at this; omega)).mono ?_
      rintro e w' ⟨rfl, hB2⟩
      rw [str_data, trim_kp]
      have HB3 : Hid (Below w.heap.size w w') := by
        unfold Hid; rcases hB2 with rfl | rfl
        · exact HB.out
        · exact HB.out.drew
      clear hB2
      go_wp2_with fail
      go_ret
      exact ⟨rfl, HB3.out⟩
end Go.Proofs.YtdhahiodnmmkeaaGreatDoor
/- Contracts of Quote: the program's and the specification's. -/
namespace Go.Proofs.YtdhahiodnmmkeaaGreatDoor
open Go.RowKit GM
/-- The library's bound on a needle holds some number. -/
def ML (w : World) : Prop := 2 < w.heap.size ∧ ∃ m : Int, w.cell? ⟨2, 0, none⟩ = some (.int .i64 m)
theorem ML.later {w w' : World} (h : ML w) (hB : Below w.heap.size w w') : ML w' := by
  obtain ⟨h1, m, h2⟩ := h
  refine ⟨Nat.lt_of_lt_of_le h1 hB.size, m, ?_⟩
  rw [(bcell hB).1 _ _ h1]; exact h2
end Go.Proofs.YtdhahiodnmmkeaaGreatDoor
/- The contract of the program's Unquote. -/
namespace Go.Proofs.YtdhahiodnmmkeaaGreatDoor
open Go.RowKit GM
def okU (l : List UInt8) : Bool := decide (2 ≤ l.length) && (l.getD 0 0 == 34) && (l.getD (l.length - 1) 0 == 34) && plain l
/-- Of the rest from place k on. -/
def RestU (L : List UInt8) (T : List UInt8) (k : Nat) : Prop := unq L = (unq (L.drop k)).map (T ++ ·) ∧ T.length ≤ k
theorem RestU.zero (L : List UInt8) : RestU L [] 0 := ⟨by simp, by simp⟩
theorem drop_cons (L : List UInt8) (k : Nat) (h : k < L.length) : L.drop k = L[k] :: L.drop (k + 1) := List.drop_eq_getElem_cons h
theorem RestU.one {L T : List UInt8} {k : Nat} (h : RestU L T k) (hk : k < L.length) (hc : L[k] ≠ 34) : RestU L (T ++ [L[k]]) (k + 1) := by
  refine ⟨?_, by have := h.2; simp; omega⟩
  rw [h.1, drop_cons L k hk, unq_cons _ _ hc, Option.map_map]
  congr 1
  funext x; simp
theorem RestU.two {L T : List UInt8} {k : Nat} (h : RestU L T k) (hk : k + 1 < L.length) (hc : L[k] = 34) (hd : L[k + 1] = 34) : RestU L (T ++ [34]) (k + 2) := by
  refine ⟨?_, by have := h.2; simp; omega⟩
  rw [h.1, drop_cons L k (by omega), drop_cons L (k + 1) hk, hc, hd, unq_two, Option.map_map]
  congr 1
  funext x; simp
theorem RestU.done {L T : List UInt8} (h : RestU L T L.length) : unq L = some T := by
  rw [h.1, List.drop_length]; simp [unq]
end Go.Proofs.YtdhahiodnmmkeaaGreatDoor
