/- Merged: GlyphA GlyphB GlyphC OwnB. -/
import Derived.Test.YtelanmknimapoaaGreatDoorProg
import Derived.Test.YtelanmknimapoaaGreatDoorGlyphMath
import Derived.WalkKit
import Derived.WalkSpells
import Derived.WalkLawsBesides
import Derived.Lib.Hide
import Derived.BigQuiet
import Derived.Deep.QuietTactic
import Derived.Outline
import Derived.RegionTactic
import Derived.BigRegion
import Derived.StillTailTactics
import Derived.Deep.DeepCutAuto
import Derived.Laws.BytesArg
import Derived.Laws.IdiomStrings
/- Contracts of glyph: printable, Check, the two closures, changed, Upper, Lower. -/
namespace Go.Proofs.YtelanmknimapoaaGreatDoor.Gl
open Go.RowKit GM
theorem bcell {W w1 : World} (hb : Below W.heap.size W w1) : (∀ b o, b < W.heap.size → w1.cell? ⟨b, o, none⟩ = W.cell? ⟨b, o, none⟩) ∧ (∀ b o, b < W.heap.size → w1.frozen? ⟨b, o, none⟩ = W.frozen? ⟨b, o, none⟩) :=
 ⟨fun b o h => hb.cell (p := ⟨b, o, none⟩) h, fun b o h => hb.frozen (p := ⟨b, o, none⟩) h⟩
theorem Below.next {W w1 w2 : World} (h : Below W.heap.size W w1) (k : Below w1.heap.size w1 w2) : Below W.heap.size W w2 := h.trans (k.mono h.size)
theorem retB {a b : Bool} (h : a = b) : Ending.returned (.bool a) = .returned (.bool b) := by rw [h]
theorem retI {k : IntKind} {a b : Int} (h : a = b) : Ending.returned (.int k a) = .returned (.int k b) := by rw [h]
theorem retS {a b : ByteArray} (h : a = b) : Ending.returned (.string a) = .returned (.string b) := by rw [h]
theorem zkg {a b : ByteArray} {c d : Int} (h : a = b) (h' : c = d) : Ending.returned (.tuple #[.string a, .int .i64 c]) = .returned (.tuple #[.string b, .int .i64 d]) := by rw [h, h']
theorem take_snoc (s : ByteArray) (k : Nat) (h : k < s.size) : s.data.toList.take (k + 1) = s.data.toList.take k ++ [s[k]'h] := by
 rw [List.take_succ_eq_append_getElem (by simpa using h)]; rfl
theorem zqp (s : ByteArray) : s.data.toList.take s.size = s.data.toList := List.take_of_length_le (by simp)
theorem zbj (s : ByteArray) : s.data.toList.length = s.size := by simp
theorem zf2 (l m : List UInt8) : plain (l ++ m) = (plain l && plain m) := by simp [plain]
theorem zni (s : ByteArray) (k : Nat) (h : k < s.size) (hc : ¬ (32 ≤ (s[k].toNat : Int) ∧ (s[k].toNat : Int) ≤ 126)) : plain s.data.toList = false := by
 have : s.data.toList = s.data.toList.take (k + 1) ++ s.data.toList.drop (k + 1) := (List.take_append_drop _ _).symm
 rw [this, take_snoc s k h, zf2, zf2]
 have : plain [s[k]] = false := by
  simp only [plain, List.all_cons, List.all_nil, Bool.and_true]
  rw [Bool.and_eq_false_iff, decide_eq_false_iff_not, decide_eq_false_iff_not]
  omega
 rw [this]; simp
theorem zkv (s : ByteArray) (k : Nat) (h : k < s.size) (hc : 32 ≤ (s[k].toNat : Int) ∧ (s[k].toNat : Int) ≤ 126) (hp : plain (s.data.toList.take k) = true) : plain (s.data.toList.take (k + 1)) = true := by
 rw [take_snoc s k h, zf2, hp]
 simp only [plain, List.all_cons, List.all_nil, Bool.and_true, Bool.true_and]
 rw [Bool.and_eq_true, decide_eq_true_eq, decide_eq_true_eq]; omega
set_option maxHeartbeats 400000 in
theorem zcq (s : ByteArray) (hs : s.size ≤ maxLen) (w : World) :
 Calls Tryz.prog 72 #[.string s] w fun e w' => e = .returned (.bool (plain s.data.toList)) ∧ w = w' := by
 unfold maxLen at hs
 go_enter Tryz.func72, Tryz.ntmps72
 go_wp2_with fail
 go_loop [6] (fun i => ∃ k : Nat, k ≤ s.size ∧ i = .int .i64 k ∧ plain (s.data.toList.take k) = true) (fun i => s.size - (intOf i).toNat)
 case atStart => exact ⟨0, Nat.zero_le _, rfl, rfl⟩
 case round =>
  obtain ⟨k, hk, rfl, hp⟩ := hrel
  have HP := Lib.hid hp
  clear hp
  by_cases hlt : k < s.size
  · by_cases hc : 32 ≤ (s[k].toNat : Int) ∧ (s[k].toNat : Int) ≤ 126
    · have HN := Lib.hid (zkv s k hlt hc HP.out)
      obtain ⟨c1, c2⟩ := hc
      go_wp2_with fail
      go_round
      case rel => exact ⟨k + 1, by omega, by go_num, HN.out⟩
      case measure => simp [intOf]; omega
    · have HN := Lib.hid (zni s k hlt hc)
      rcases Int.lt_or_le (s[k].toNat : Int) 32 with h1 | h1
      · clear hc
        go_wp2_with fail
        go_ret
        exact ⟨retB HN.out.symm, rfl⟩
      · have h2 : 126 < (s[k].toNat : Int) := by omega
        clear hc
        go_wp2_with fail
        go_ret
        exact ⟨retB HN.out.symm, rfl⟩
  · obtain rfl : k = s.size := by omega
    go_wp2_with fail
    go_ret
    exact ⟨retB (by rw [← HP.out, zqp]), rfl⟩
theorem chk_long {l : List UInt8} (h : 256 < l.length) : chk l = 5 := by unfold chk; rw [if_pos h]
theorem chk_form {l : List UInt8} (h : ¬ 256 < l.length) (h' : plain l = false) : chk l = 4 := by unfold chk; rw [if_neg h, h']; rfl
theorem chk_ok {l : List UInt8} (h : ¬ 256 < l.length) (h' : plain l = true) : chk l = 0 := by unfold chk; rw [if_neg h, h']; rfl
set_option maxHeartbeats 400000 in
theorem check_any (s : ByteArray) (hs : s.size ≤ maxLen) (w : World) :
 Calls Tryz.prog 42 #[.string s] w fun e w' => e = .returned (.int .i64 (chk s.data.toList)) ∧ w = w' := by
 have hm := hs
 unfold maxLen at hs
 by_cases h1 : 256 < s.size
 · have HC := Lib.hid (chk_long (l := s.data.toList) (by rw [zbj]; exact h1))
   go_enter Tryz.func42, Tryz.ntmps42
   go_wp2_with fail
   go_ret
   exact ⟨retI HC.out.symm, rfl⟩
 · have h1' : ¬ 256 < s.data.toList.length := by rw [zbj]; exact h1
   have H1 := Lib.hid h1'
   clear h1'
   cases hp : plain s.data.toList with
   | true =>
    have HC := Lib.hid (chk_ok H1.out hp)
    have HP := Lib.hid hp
    clear hp
    go_enter Tryz.func42, Tryz.ntmps42
    go_wp2_with fail
    refine (zcq s hm _).mono ?_
    rintro e w' ⟨rfl, rfl⟩
    rw [HP.out]
    go_wp2_with fail
    go_ret
    exact ⟨retI HC.out.symm, rfl⟩
   | false =>
    have HC := Lib.hid (chk_form H1.out hp)
    have HP := Lib.hid hp
    clear hp
    go_enter Tryz.func42, Tryz.ntmps42
    go_wp2_with fail
    refine (zcq s hm _).mono ?_
    rintro e w' ⟨rfl, rfl⟩
    rw [HP.out]
    go_wp2_with fail
    go_ret
    exact ⟨retI HC.out.symm, rfl⟩
end Go.Proofs.YtelanmknimapoaaGreatDoor.Gl
/- Contracts of glyph.changed, Upper, Lower. -/
namespace Go.Proofs.YtelanmknimapoaaGreatDoor.Gl
open Go.RowKit GM
def Bytes (w : World) (b : Nat) (l : List UInt8) : Prop :=
 b < w.heap.size ∧ (∀ j, j < l.length → w.cell? ⟨b, j, none⟩ = some (.int .u8 ((l.getD j 0).toNat : Int))) ∧ ∀ j, j < l.length → w.frozen? ⟨b, j, none⟩ = false
theorem Bytes.set {w : World} {b : Nat} {l : List UInt8} (h : Bytes w b l) (k : Nat) (hk : k < l.length) (c : UInt8) :
 Bytes (w.setCell ⟨b, k, none⟩ (.int .u8 (c.toNat : Int))) b (l.set k c) := by
 obtain ⟨h0, h1, h2⟩ := h
 refine ⟨by simpa using h0, fun j hj => ?_, fun j hj => ?_⟩
 · rw [List.length_set] at hj
   by_cases e : j = k
   · subst e
     rw [World.cell?_setCell_same _ _ _ (h1 j hj)]
     simp [List.getD, hj]
   · rw [World.cell?_setCell_other _ _ _ _ (by first | (simp; done) | (simp; omega)), h1 j hj]
     simp [List.getD, List.getElem?_set_ne (fun h => e h.symm)]
 · rw [List.length_set] at hj
   rw [World.frozen?_setCell]; exact h2 j hj
theorem Bytes.of (w : World) (s : ByteArray) (e C : Nat) :
 Bytes ((w.alloc (.cells (bytesRow s C) e ((bytesRow s C).size, (bytesRow s C).size + 1))).drew) w.heap.size s.data.toList := by
 have hz : s.size ≤ (bytesRow s C).size := by
  unfold bytesRow; rw [Array.size_append, Array.size_map]; exact Nat.le_add_right _ _
 refine ⟨by simp, fun j hj => ?_, fun j hj => ?_⟩
 · have hj' : j < s.size := by simpa using hj
   have := bytesRow_at s C j hj'
   rw [World.cell?_drew, World.cell?_alloc_mark, this]
   simp [List.getD, hj']
 · have hj' : j < s.size := by simpa using hj
   rw [World.frozen?_drew, World.frozen?_alloc_mark]
   have : ¬ (bytesRow s C).size ≤ j := by omega
   simp [this]
def mixed (g : UInt8 → UInt8) (l : List UInt8) (k : Nat) : List UInt8 := (l.take k).map g ++ l.drop k
end Go.Proofs.YtelanmknimapoaaGreatDoor.Gl
/- Contracts of the specification's Plain, Check, Upper, Lower. -/
namespace Go.Proofs.YtelanmknimapoaaGreatDoor.Gl
open Go.RowKit GM
set_option maxHeartbeats 400000 in
theorem rplain_any (s : ByteArray) (hs : s.size ≤ maxLen) (w : World) :
 Calls Tryz.prog 33 #[.string s] w fun e w' => e = .returned (.bool (plain s.data.toList)) ∧ w = w' := by
 unfold maxLen at hs
 go_enter Tryz.func33, Tryz.ntmps33
 go_wp2_with fail
 go_loop [3] (fun i => ∃ k : Nat, k ≤ s.size ∧ i = .int .i64 k ∧ plain (s.data.toList.take k) = true) (fun i => s.size - (intOf i).toNat)
 case atStart => exact ⟨0, Nat.zero_le _, rfl, rfl⟩
 case round =>
  obtain ⟨k, hk, rfl, hp⟩ := hrel
  have HP := Lib.hid hp
  clear hp
  by_cases hlt : k < s.size
  · by_cases hc : 32 ≤ (s[k].toNat : Int) ∧ (s[k].toNat : Int) ≤ 126
    · have HN := Lib.hid (zkv s k hlt hc HP.out)
      obtain ⟨c1, c2⟩ := hc
      go_wp2_with fail
      go_round
      case rel => exact ⟨k + 1, by omega, by go_num, HN.out⟩
      case measure => simp [intOf]; omega
    · have HN := Lib.hid (zni s k hlt hc)
      rcases Int.lt_or_le (s[k].toNat : Int) 32 with h1 | h1
      · clear hc
        go_wp2_with fail
        go_ret
        exact ⟨retB HN.out.symm, rfl⟩
      · have h2 : 126 < (s[k].toNat : Int) := by omega
        clear hc
        go_wp2_with fail
        go_ret
        exact ⟨retB HN.out.symm, rfl⟩
  · obtain rfl : k = s.size := by omega
    go_wp2_with fail
    go_ret
    exact ⟨retB (by rw [← HP.out, zqp]), rfl⟩
set_option maxHeartbeats 400000 in
theorem rcheck_any (s : ByteArray) (hs : s.size ≤ maxLen) (w : World) :
 Calls Tryz.prog 52 #[.string s] w fun e w' => e = .returned (.int .i64 (chk s.data.toList)) ∧ w = w' := by
 have hm := hs
 unfold maxLen at hs
 by_cases h1 : 256 < s.size
 · have HC := Lib.hid (chk_long (l := s.data.toList) (by rw [zbj]; exact h1))
   go_enter Tryz.func52, Tryz.ntmps52
   go_wp2_with fail
   go_ret
   exact ⟨retI HC.out.symm, rfl⟩
 · have h1' : ¬ 256 < s.data.toList.length := by rw [zbj]; exact h1
   have H1 := Lib.hid h1'
   clear h1'
   cases hp : plain s.data.toList with
   | true =>
    have HC := Lib.hid (chk_ok H1.out hp)
    have HP := Lib.hid hp
    clear hp
    go_enter Tryz.func52, Tryz.ntmps52
    go_wp2_with fail
    refine (rplain_any s hm _).mono ?_
    rintro e w' ⟨rfl, rfl⟩
    rw [HP.out]
    go_wp2_with fail
    go_ret
    exact ⟨retI HC.out.symm, rfl⟩
   | false =>
    have HC := Lib.hid (chk_form H1.out hp)
    have HP := Lib.hid hp
    clear hp
    go_enter Tryz.func52, Tryz.ntmps52
    go_wp2_with fail
    refine (rplain_any s hm _).mono ?_
    rintro e w' ⟨rfl, rfl⟩
    rw [HP.out]
    go_wp2_with fail
    go_ret
    exact ⟨retI HC.out.symm, rfl⟩
end Go.Proofs.YtelanmknimapoaaGreatDoor.Gl
/- A slice of bytes of the call's own: appended to byte by byte, turned into a string. -/
namespace Go.Proofs.YtelanmknimapoaaGreatDoor.Gl
open Go.RowKit GM
def bV (c : UInt8) : Value := .int .u8 (c.toNat : Int)
def OwnB (B : Nat) (w : World) (v : Value) (l : List UInt8) : Prop := w.ownsRow B 5 1 v l.length (l.map bV)
theorem ybz : (Tryz.prog.info? 5).map (fun i => (i.zero, i.size, i.bytes)) = some (some (.int .u8 0), 1, 1) := by kernel_rfl
theorem OwnB.nil (B : Nat) (w : World) : OwnB B w (.slice none 0 0) [] := World.ownsRow_nil _ _ _ _
theorem OwnB.alloc {B : Nat} {w : World} {v : Value} {l : List UInt8} (h : OwnB B w v l) (o : Obj) : OwnB B (w.alloc o) v l := World.ownsRow.alloc h o
theorem OwnB.drew {B : Nat} {w : World} {v : Value} {l : List UInt8} (h : OwnB B w v l) : OwnB B w.drew v l := h
theorem OwnB.one {B : Nat} (w : World) (hB : B ≤ w.heap.size) (c : UInt8) : OwnB B (w.alloc (.cells #[.int .u8 (c.toNat : Int)] 5)) (.slice (some ⟨w.heap.size, 0, none⟩) 1 1) [c] :=
 ⟨rfl, .inr ⟨w.heap.size, 1, #[.int .u8 (c.toNat : Int)], rfl, hB, heap_alloc_new w _, Nat.le_refl _, by decide, rfl, rfl⟩⟩
theorem OwnB.shape {B : Nat} {w : World} {v : Value} {l : List UInt8} (h : OwnB B w v l) : ∃ a cap, v = .slice a l.length cap ∧ l.length ≤ cap := by
 rcases h.2 with ⟨rfl, h0⟩ | ⟨g, cap, cur, rfl, _, _, hc, _⟩
 · exact ⟨none, 0, by rw [h0], by omega⟩
 · exact ⟨_, cap, rfl, hc⟩
theorem OwnB.str {B : Nat} {w : World} {v : Value} {l : List UInt8} (h : OwnB B w v l) : (convert 73 9 v).run Tryz.prog w = .ok (.string (str l)) w := by
 rcases h.2 with ⟨rfl, h0⟩ | ⟨g, cap, cur, rfl, _⟩
 · obtain rfl : l = [] := List.length_eq_zero_iff.1 h0
   rw [run_convert_bytes_nil w 73 5 Tryz.underlying73 Tryz.underlying5 0 0 9 Tryz.underlying9]
   rfl
 · have hc := World.ownsRow.cells h (g := g) rfl
   rw [run_convert_bytes_back w 73 9 5 ⟨g, 0, none⟩ cap l Tryz.underlying73 Tryz.underlying5 Tryz.underlying9 (fun j hj => by
    rw [hc j (bV l[j]) (by simp [hj])]; rfl)]
   rfl
theorem zdr {ops : Array Oper} {rest : List Oper} {o : Oper} {a : Act} {w : World} {Q : Exit → Act → World → Prop} (hgd : o.guard = none) (s x : Operand)
 (ho : o.op = .call { callee := .builtin .append, args := #[s, x], argTypes := #[73, 73] }) (B : Nat) (v : Value) (l : List UInt8) (hs : a.eval s = v) (hown : OwnB B w v l)
 (g : Nat) (c : UInt8) (hx : a.eval x = .slice (some ⟨g, 0, none⟩) 1 1) (hc : w.cell? ⟨g, 0, none⟩ = some (.int .u8 (c.toNat : Int))) (hl : l.length ≤ 1000000) (hB : B ≤ w.heap.size)
 (h : ∀ v' w', OwnB B w' v' (l ++ [c]) → Below B w w' → wpList Tryz.prog ops Q rest (a.put o.dst v') w') : wpList Tryz.prog ops Q (o :: rest) a w := by
 obtain ⟨i0, hi, hz0, hz1, hz2⟩ := info_parts ybz
 refine wpList_append_own w hgd s x 73 ho B 5 i0 (.int .u8 0) 1 1 Tryz.underlying73 hi hz0 hz1 hz2 rfl (by decide) v l.length (l.map bV) hs hown ⟨g, 0, none⟩ 1 1 [bV c] hx rfl ?_ ?_ ?_ ?_ hB ?_
 · intro j u hj
   match j, hj with
   | 0, hj => simp at hj; subst hj; exact hc
 · intro u hu; simp at hu; subst hu; rfl
 · unfold maxLen; omega
 · omega
 · intro v' w' ho' hg _
   refine h v' w' ?_ ((Below.refl _ _).grown hg hB (fun k hk => (World.ownsRow.lt hown k hk).1))
   unfold OwnB
   rw [List.length_append, List.map_append]; exact ho'
end Go.Proofs.YtelanmknimapoaaGreatDoor.Gl
