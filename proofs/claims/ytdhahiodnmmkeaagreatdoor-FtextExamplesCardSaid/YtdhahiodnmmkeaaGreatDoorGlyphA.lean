/- Contracts of glyph: printable, Check, the two closures, changed, Upper, Lower. -/
import Derived.Test.YtdhahiodnmmkeaaGreatDoorProg
import Derived.Test.YtdhahiodnmmkeaaGreatDoorGlyphMath
import Derived.WalkKit
import Derived.WalkSpells
import Derived.WalkLawsBesides
import Derived.Lib.Hide
import Derived.BigQuiet
import Derived.Deep.QuietTactic
import Derived.Outline
import Derived.RegionTactic
import Derived.BigRegion
import Derived.StillTailTactics
import Derived.Deep.DeepCutAuto
import Derived.Laws.BytesArg
import Derived.Laws.IdiomStrings
namespace Go.Proofs.YtdhahiodnmmkeaaGreatDoor
open Go.RowKit GM
theorem bcell {W w1 : World} (hb : Below W.heap.size W w1) : (∀ b o, b < W.heap.size → w1.cell? ⟨b, o, none⟩ = W.cell? ⟨b, o, none⟩) ∧ (∀ b o, b < W.heap.size → w1.frozen? ⟨b, o, none⟩ = W.frozen? ⟨b, o, none⟩) :=
 ⟨fun b o h => hb.cell (p := ⟨b, o, none⟩) h, fun b o h => hb.frozen (p := ⟨b, o, none⟩) h⟩
theorem Below.next {W w1 w2 : World} (h : Below W.heap.size W w1) (k : Below w1.heap.size w1 w2) : Below W.heap.size W w2 := h.trans (k.mono h.size)
theorem retB {a b : Bool} (h : a = b) : Ending.returned (.bool a) = .returned (.bool b) := by rw [h]
theorem retI {k : IntKind} {a b : Int} (h : a = b) : Ending.returned (.int k a) = .returned (.int k b) := by rw [h]
theorem retS {a b : ByteArray} (h : a = b) : Ending.returned (.string a) = .returned (.string b) := by rw [h]
theorem zdg (s : ByteArray) (k : Nat) (h : k < s.size) : s.data.toList.take (k + 1) = s.data.toList.take k ++ [s[k]'h] := by
 rw [List.take_succ_eq_append_getElem (by simpa using h)]; rfl
theorem zh4 (s : ByteArray) : s.data.toList.take s.size = s.data.toList := List.take_of_length_le (by simp)
theorem za2 (s : ByteArray) : s.data.toList.length = s.size := by simp
theorem zi7 (l m : List UInt8) : plain (l ++ m) = (plain l && plain m) := by simp [plain]
theorem znl (s : ByteArray) (k : Nat) (h : k < s.size) (hc : ¬ (32 ≤ (s[k].toNat : Int) ∧ (s[k].toNat : Int) ≤ 126)) : plain s.data.toList = false := by
 have : s.data.toList = s.data.toList.take (k + 1) ++ s.data.toList.drop (k + 1) := (List.take_append_drop _ _).symm
 rw [this, zdg s k h, zi7, zi7]
 have : plain [s[k]] = false := by
  simp only [plain, List.all_cons, List.all_nil, Bool.and_true]
  rw [Bool.and_eq_false_iff, decide_eq_false_iff_not, decide_eq_false_iff_not]
  omega
 rw [this]; simp
theorem zk2 (s : ByteArray) (k : Nat) (h : k < s.size) (hc : 32 ≤ (s[k].toNat : Int) ∧ (s[k].toNat : Int) ≤ 126) (hp : plain (s.data.toList.take k) = true) : plain (s.data.toList.take (k + 1)) = true := by
 rw [zdg s k h, zi7, hp]
 simp only [plain, List.all_cons, List.all_nil, Bool.and_true, Bool.true_and]
 rw [Bool.and_eq_true, decide_eq_true_eq, decide_eq_true_eq]; omega
set_option maxHeartbeats 400000 in
theorem zfz (s : ByteArray) (hs : s.size ≤ maxLen) (w : World) :
 Calls Tryz.prog 174 #[.string s] w fun e w' => e = .returned (.bool (plain s.data.toList)) ∧ w = w' := by
 unfold maxLen at hs
 go_enter Tryz.func174, Tryz.ntmps174
 go_wp2_with fail
 go_loop [6] (fun i => ∃ k : Nat, k ≤ s.size ∧ i = .int .i64 k ∧ plain (s.data.toList.take k) = true) (fun i => s.size - (intOf i).toNat)
 case atStart => exact ⟨0, Nat.zero_le _, rfl, rfl⟩
 case round =>
  obtain ⟨k, hk, rfl, hp⟩ := hrel
  have HP := Lib.hid hp
  clear hp
  by_cases hlt : k < s.size
  · by_cases hc : 32 ≤ (s[k].toNat : Int) ∧ (s[k].toNat : Int) ≤ 126
    · have HN := Lib.hid (zk2 s k hlt hc HP.out)
      obtain ⟨c1, c2⟩ := hc
      go_wp2_with fail
      go_round
      case rel => exact ⟨k + 1, by omega, by go_num, HN.out⟩
      case measure => simp [intOf]; omega
    · have HN := Lib.hid (znl s k hlt hc)
      rcases Int.lt_or_le (s[k].toNat : Int) 32 with h1 | h1
      · clear hc
        go_wp2_with fail
        go_ret
        exact ⟨retB HN.out.symm, rfl⟩
      · have h2 : 126 < (s[k].toNat : Int) := by omega
        clear hc
        go_wp2_with fail
        go_ret
        exact ⟨retB HN.out.symm, rfl⟩
  · obtain rfl : k = s.size := by omega
    go_wp2_with fail
    go_ret
    exact ⟨retB (by rw [← HP.out, zh4]), rfl⟩
theorem zr1 {l : List UInt8} (h : 256 < l.length) : chk l = 5 := by unfold chk; rw [if_pos h]
theorem zr2 {l : List UInt8} (h : ¬ 256 < l.length) (h' : plain l = false) : chk l = 4 := by unfold chk; rw [if_neg h, h']; rfl
theorem ybj {l : List UInt8} (h : ¬ 256 < l.length) (h' : plain l = true) : chk l = 0 := by unfold chk; rw [if_neg h, h']; rfl
set_option maxHeartbeats 400000 in
theorem zwt (s : ByteArray) (hs : s.size ≤ maxLen) (w : World) :
 Calls Tryz.prog 91 #[.string s] w fun e w' => e = .returned (.int .i64 (chk s.data.toList)) ∧ w = w' := by
 have hm := hs
 unfold maxLen at hs
 by_cases h1 : 256 < s.size
 · have HC := Lib.hid (zr1 (l := s.data.toList) (by rw [za2]; exact h1))
   go_enter Tryz.func91, Tryz.ntmps91
   go_wp2_with fail
   go_ret
   exact ⟨retI HC.out.symm, rfl⟩
 · have h1' : ¬ 256 < s.data.toList.length := by rw [za2]; exact h1
   have H1 := Lib.hid h1'
   clear h1'
   cases hp : plain s.data.toList with
   | true =>
    have HC := Lib.hid (ybj H1.out hp)
    have HP := Lib.hid hp
    clear hp
    go_enter Tryz.func91, Tryz.ntmps91
    go_wp2_with fail
    refine (zfz s hm _).mono ?_
    rintro e w' ⟨rfl, rfl⟩
    rw [HP.out]
    go_wp2_with fail
    go_ret
    exact ⟨retI HC.out.symm, rfl⟩
   | false =>
    have HC := Lib.hid (zr2 H1.out hp)
    have HP := Lib.hid hp
    clear hp
    go_enter Tryz.func91, Tryz.ntmps91
    go_wp2_with fail
    refine (zfz s hm _).mono ?_
    rintro e w' ⟨rfl, rfl⟩
    rw [HP.out]
    go_wp2_with fail
    go_ret
    exact ⟨retI HC.out.symm, rfl⟩
def upI (c : Int) : Int := if 97 ≤ c ∧ c ≤ 122 then c - 32 else c
def loI (c : Int) : Int := if 65 ≤ c ∧ c ≤ 90 then c + 32 else c
theorem zz0 (c : UInt8) : ((up c).toNat : Int) = upI c.toNat := by rw [yfq]; unfold upI; split <;> split <;> omega
theorem ya6 (c : UInt8) : ((lo c).toNat : Int) = loI c.toNat := by rw [ygf]; unfold loI; split <;> split <;> omega
set_option maxHeartbeats 400000 in
theorem zxn (c : Int) (h0 : 0 ≤ c) (h1 : c ≤ 255) (w : World) :
 Calls Tryz.prog 214 #[.int .u8 c] w fun e w' => e = .returned (.int .u8 (upI c)) ∧ w = w' := by
 have HU : Hid (upI c = if 97 ≤ c ∧ c ≤ 122 then c - 32 else c) := rfl
 rcases Int.lt_or_le c 97 with a | a
 · go_enter Tryz.func214, Tryz.ntmps214
   go_wp2_with fail
   go_ret
   exact ⟨retI (by rw [HU.out, if_neg (by omega)]), rfl⟩
 · rcases Int.lt_or_le 122 c with b | b
   · go_enter Tryz.func214, Tryz.ntmps214
     go_wp2_with fail
     go_ret
     exact ⟨retI (by rw [HU.out, if_neg (by omega)]), rfl⟩
   · go_enter Tryz.func214, Tryz.ntmps214
     go_wp2_with fail
     go_ret
     exact ⟨retI (by rw [HU.out, if_pos ⟨a, b⟩]; omega), rfl⟩
set_option maxHeartbeats 400000 in
theorem zys (c : Int) (h0 : 0 ≤ c) (h1 : c ≤ 255) (w : World) :
 Calls Tryz.prog 225 #[.int .u8 c] w fun e w' => e = .returned (.int .u8 (loI c)) ∧ w = w' := by
 have HU : Hid (loI c = if 65 ≤ c ∧ c ≤ 90 then c + 32 else c) := rfl
 rcases Int.lt_or_le c 65 with a | a
 · go_enter Tryz.func225, Tryz.ntmps225
   go_wp2_with fail
   go_ret
   exact ⟨retI (by rw [HU.out, if_neg (by omega)]), rfl⟩
 · rcases Int.lt_or_le 90 c with b | b
   · go_enter Tryz.func225, Tryz.ntmps225
     go_wp2_with fail
     go_ret
     exact ⟨retI (by rw [HU.out, if_neg (by omega)]), rfl⟩
   · go_enter Tryz.func225, Tryz.ntmps225
     go_wp2_with fail
     go_ret
     exact ⟨retI (by rw [HU.out, if_pos ⟨a, b⟩]; omega), rfl⟩
def nums (l : List UInt8) : List Int := l.map fun c => (c.toNat : Int)
theorem zey (l : List UInt8) : strOfNums (nums l) = str l := by
 unfold strOfNums nums str
 congr 2
 rw [List.map_map]
 refine (List.map_congr_left fun c _ => ?_).trans (List.map_id l)
 simp
theorem nums_getD (l : List UInt8) (i : Nat) (h : i < l.length) : (nums l).getD i 0 = ((l[i]'h).toNat : Int) := by
 simp [nums, List.getD, h]
end Go.Proofs.YtdhahiodnmmkeaaGreatDoor
