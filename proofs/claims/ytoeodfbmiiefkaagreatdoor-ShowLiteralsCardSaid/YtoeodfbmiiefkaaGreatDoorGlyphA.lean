/- Contracts of glyph: printable, Check, the two closures, changed, Upper, Lower. -/
import Derived.Test.YtoeodfbmiiefkaaGreatDoorProg
import Derived.Test.YtoeodfbmiiefkaaGreatDoorGlyphMath
import Derived.WalkKit
import Derived.WalkSpells
import Derived.WalkLawsBesides
import Derived.Lib.Hide
import Derived.BigQuiet
import Derived.Deep.QuietTactic
import Derived.Outline
import Derived.RegionTactic
import Derived.BigRegion
import Derived.StillTailTactics
import Derived.Deep.DeepCutAuto
import Derived.Laws.BytesArg
import Derived.Laws.IdiomStrings
namespace Go.Proofs.YtoeodfbmiiefkaaGreatDoor
open Go.RowKit GM
theorem bcell {W w1 : World} (hb : Below W.heap.size W w1) : (∀ b o, b < W.heap.size → w1.cell? ⟨b, o, none⟩ = W.cell? ⟨b, o, none⟩) ∧ (∀ b o, b < W.heap.size → w1.frozen? ⟨b, o, none⟩ = W.frozen? ⟨b, o, none⟩) :=
  ⟨fun b o h => hb.cell (p := ⟨b, o, none⟩) h, fun b o h => hb.frozen (p := ⟨b, o, none⟩) h⟩
theorem Below.next {W w1 w2 : World} (h : Below W.heap.size W w1) (k : Below w1.heap.size w1 w2) : Below W.heap.size W w2 := h.trans (k.mono h.size)
theorem retB {a b : Bool} (h : a = b) : Ending.returned (.bool a) = .returned (.bool b) := by rw [h]
theorem retI {k : IntKind} {a b : Int} (h : a = b) : Ending.returned (.int k a) = .returned (.int k b) := by rw [h]
theorem retS {a b : ByteArray} (h : a = b) : Ending.returned (.string a) = .returned (.string b) := by rw [h]
theorem retSI {a b : ByteArray} {c d : Int} (h : a = b) (h' : c = d) : Ending.returned (.tuple #[.string a, .int .i64 c]) = .returned (.tuple #[.string b, .int .i64 d]) := by rw [h, h']
theorem take_snoc (s : ByteArray) (k : Nat) (h : k < s.size) : s.data.toList.take (k + 1) = s.data.toList.take k ++ [s[k]'h] := by
  rw [List.take_succ_eq_append_getElem (by simpa using h)]; rfl
theorem take_all (s : ByteArray) : s.data.toList.take s.size = s.data.toList := List.take_of_length_le (by simp)
theorem data_len (s : ByteArray) : s.data.toList.length = s.size := by simp
theorem plain_app (l m : List UInt8) : plain (l ++ m) = (plain l && plain m) := by simp [plain]
theorem plain_bad (s : ByteArray) (k : Nat) (h : k < s.size) (hc : ¬ (32 ≤ (s[k].toNat : Int) ∧ (s[k].toNat : Int) ≤ 126)) : plain s.data.toList = false := by
  have : s.data.toList = s.data.toList.take (k + 1) ++ s.data.toList.drop (k + 1) := (List.take_append_drop _ _).symm
  rw [this, take_snoc s k h, plain_app, plain_app]
  have : plain [s[k]] = false := by
    simp only [plain, List.all_cons, List.all_nil, Bool.and_true]
    rw [Bool.and_eq_false_iff, decide_eq_false_iff_not, decide_eq_false_iff_not]
    omega
  rw [this]; simp
theorem plain_more (s : ByteArray) (k : Nat) (h : k < s.size) (hc : 32 ≤ (s[k].toNat : Int) ∧ (s[k].toNat : Int) ≤ 126) (hp : plain (s.data.toList.take k) = true) : plain (s.data.toList.take (k + 1)) = true := by
  rw [take_snoc s k h, plain_app, hp]
  simp only [plain, List.all_cons, List.all_nil, Bool.and_true, Bool.true_and]
  rw [Bool.and_eq_true, decide_eq_true_eq, decide_eq_true_eq]; omega
set_option maxHeartbeats 400000 in
theorem printable_any (s : ByteArray) (hs : s.size ≤ maxLen) (w : World) :
    Calls Tryz.prog 43 #[.string s] w fun e w' => e = .returned (.bool (plain s.data.toList)) ∧ w = w' := by
  unfold maxLen at hs
  go_enter Tryz.func43, Tryz.ntmps43
  go_wp2_with fail
  go_loop [6] (fun i => ∃ k : Nat, k ≤ s.size ∧ i = .int .i64 k ∧ plain (s.data.toList.take k) = true) (fun i => s.size - (intOf i).toNat)
  case atStart => exact ⟨0, Nat.zero_le _, rfl, rfl⟩
  case round =>
    obtain ⟨k, hk, rfl, hp⟩ := hrel
    have HP := Lib.hid hp
    clear hp
    by_cases hlt : k < s.size
    · by_cases hc : 32 ≤ (s[k].toNat : Int) ∧ (s[k].toNat : Int) ≤ 126
      · have HN := Lib.hid (plain_more s k hlt hc HP.out)
        obtain ⟨c1, c2⟩ := hc
        go_wp2_with fail
        go_round
        case rel => exact ⟨k + 1, by omega, by go_num, HN.out⟩
        case measure => simp [intOf]; omega
      · have HN := Lib.hid (plain_bad s k hlt hc)
        rcases Int.lt_or_le (s[k].toNat : Int) 32 with h1 | h1
        · clear hc
          go_wp2_with fail
          go_ret
          exact ⟨retB HN.out.symm, rfl⟩
        · have h2 : 126 < (s[k].toNat : Int) := by omega
          clear hc
          go_wp2_with fail
          go_ret
          exact ⟨retB HN.out.symm, rfl⟩
    · obtain rfl : k = s.size := by omega
      go_wp2_with fail
      go_ret
      exact ⟨retB (by rw [← HP.out, take_all]), rfl⟩
theorem chk_long {l : List UInt8} (h : 256 < l.length) : chk l = 5 := by unfold chk; rw [if_pos h]
theorem chk_form {l : List UInt8} (h : ¬ 256 < l.length) (h' : plain l = false) : chk l = 4 := by unfold chk; rw [if_neg h, h']; rfl
theorem chk_ok {l : List UInt8} (h : ¬ 256 < l.length) (h' : plain l = true) : chk l = 0 := by unfold chk; rw [if_neg h, h']; rfl
set_option maxHeartbeats 400000 in
theorem check_any (s : ByteArray) (hs : s.size ≤ maxLen) (w : World) :
    Calls Tryz.prog 19 #[.string s] w fun e w' => e = .returned (.int .i64 (chk s.data.toList)) ∧ w = w' := by
  have hm := hs
  unfold maxLen at hs
  by_cases h1 : 256 < s.size
  · have HC := Lib.hid (chk_long (l := s.data.toList) (by rw [data_len]; exact h1))
    go_enter Tryz.func19, Tryz.ntmps19
    go_wp2_with fail
    go_ret
    exact ⟨retI HC.out.symm, rfl⟩
  · have h1' : ¬ 256 < s.data.toList.length := by rw [data_len]; exact h1
    have H1 := Lib.hid h1'
    clear h1'
    cases hp : plain s.data.toList with
    | true =>
      have HC := Lib.hid (chk_ok H1.out hp)
      have HP := Lib.hid hp
      clear hp
      go_enter Tryz.func19, Tryz.ntmps19
      go_wp2_with fail
      refine (printable_any s hm _).mono ?_
      rintro e w' ⟨rfl, rfl⟩
      rw [HP.out]
      go_wp2_with fail
      go_ret
      exact ⟨retI HC.out.symm, rfl⟩
    | false =>
      have HC := Lib.hid (chk_form H1.out hp)
      have HP := Lib.hid hp
      clear hp
      go_enter Tryz.func19, Tryz.ntmps19
      go_wp2_with fail
      refine (printable_any s hm _).mono ?_
      rintro e w' ⟨rfl, rfl⟩
      rw [HP.out]
      go_wp2_with fail
      go_ret
      exact ⟨retI HC.out.symm, rfl⟩
def upI (c : Int) : Int := if 97 ≤ c ∧ c ≤ 122 then c - 32 else c
def loI (c : Int) : Int := if 65 ≤ c ∧ c ≤ 90 then c + 32 else c
theorem up_int (c : UInt8) : ((up c).toNat : Int) = upI c.toNat := by rw [up_nat]; unfold upI; split <;> split <;> omega
theorem lo_int (c : UInt8) : ((lo c).toNat : Int) = loI c.toNat := by rw [lo_nat]; unfold loI; split <;> split <;> omega
set_option maxHeartbeats 400000 in
theorem upfn_any (c : Int) (h0 : 0 ≤ c) (h1 : c ≤ 255) (w : World) :
    Calls Tryz.prog 114 #[.int .u8 c] w fun e w' => e = .returned (.int .u8 (upI c)) ∧ w = w' := by
  have HU : Hid (upI c = if 97 ≤ c ∧ c ≤ 122 then c - 32 else c) := rfl
  rcases Int.lt_or_le c 97 with a | a
  · go_enter Tryz.func114, Tryz.ntmps114
    go_wp2_with fail
    go_ret
    exact ⟨retI (by rw [HU.out, if_neg (by omega)]), rfl⟩
  · rcases Int.lt_or_le 122 c with b | b
    · go_enter Tryz.func114, Tryz.ntmps114
      go_wp2_with fail
      go_ret
      exact ⟨retI (by rw [HU.out, if_neg (by omega)]), rfl⟩
    · go_enter Tryz.func114, Tryz.ntmps114
      go_wp2_with fail
      go_ret
      exact ⟨retI (by rw [HU.out, if_pos ⟨a, b⟩]; omega), rfl⟩
def nums (l : List UInt8) : List Int := l.map fun c => (c.toNat : Int)
theorem strOf_nums (l : List UInt8) : strOfNums (nums l) = str l := by
  unfold strOfNums nums str
  congr 2
  rw [List.map_map]
  refine (List.map_congr_left fun c _ => ?_).trans (List.map_id l)
  simp
theorem nums_getD (l : List UInt8) (i : Nat) (h : i < l.length) : (nums l).getD i 0 = ((l[i]'h).toNat : Int) := by
  simp [nums, List.getD, h]
end Go.Proofs.YtoeodfbmiiefkaaGreatDoor
