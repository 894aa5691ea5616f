/- Merged: GlyphMath GlyphA GlyphB GlyphC. -/
import Derived.Lib.Replace
import Derived.Lib.TrimByte
import Derived.Lib.Bytealg
import Derived.Lib.Hide
import Derived.Test.YtdanbabamcdebaaGreatDoorProg
import Derived.WalkKit
import Derived.WalkSpells
import Derived.WalkLawsBesides
import Derived.BigQuiet
import Derived.Deep.QuietTactic
import Derived.Outline
import Derived.RegionTactic
import Derived.BigRegion
import Derived.StillTailTactics
import Derived.Deep.DeepCutAuto
import Derived.Laws.BytesArg
import Derived.Laws.IdiomStrings
/- Texts as lists of bytes: capitals, small letters, blanks, literals. No run in this file. -/
namespace Go.Proofs.YtdanbabamcdebaaGreatDoor.GM
open Go
def up (c : UInt8) : UInt8 := if 97 ≤ c.toNat ∧ c.toNat ≤ 122 then UInt8.ofNat (c.toNat - 32) else c
def lo (c : UInt8) : UInt8 := if 65 ≤ c.toNat ∧ c.toNat ≤ 90 then UInt8.ofNat (c.toNat + 32) else c
theorem up_nat (c : UInt8) : (up c).toNat = if 97 ≤ c.toNat ∧ c.toNat ≤ 122 then c.toNat - 32 else c.toNat := by
  have := c.toNat_lt
  unfold up; split
  · rw [UInt8.toNat_ofNat']; omega
  · rfl
/-- A text as a string. -/
def str (l : List UInt8) : ByteArray := ⟨l.toArray⟩
theorem str_data (l : List UInt8) : (str l).data.toList = l := by simp [str]
theorem str_size (l : List UInt8) : (str l).size = l.length := by simp [str, ByteArray.size]
/-- Printable. -/
def plain (l : List UInt8) : Bool := l.all fun c => 32 ≤ c.toNat && c.toNat ≤ 126
def chk (l : List UInt8) : Int := if 256 < l.length then 5 else if plain l then 0 else 4
/-- Without blanks at the ends, and with single ones within: e: something was written; p: a blank was read last. -/
def tr : Bool → Bool → List UInt8 → List UInt8
  | _, _, [] => []
  | e, p, c :: l => if c = 32 then tr e true l else if e && p then 32 :: c :: tr true false l else c :: tr true false l
/-- The bytes that are no blanks, or follow one that is none. -/
def kp : Bool → List UInt8 → List UInt8
  | _, [] => []
  | n, c :: l => if c = 32 then (if n then 32 :: kp false l else kp false l) else c :: kp true l
theorem trimR_cons (c : UInt8) (l : List UInt8) (h : c ≠ 32) : Lib.trimRightB (c :: l) 32 = c :: Lib.trimRightB l 32 := by
  unfold Lib.trimRightB
  rw [List.reverse_cons, List.dropWhile_append]
  split
  · rename_i he
    have he' : List.dropWhile (fun x => x == 32) l.reverse = [] := by simpa using he
    rw [he']; simp [h]
  · simp
theorem trimR_blank (l : List UInt8) : Lib.trimRightB (32 :: l) 32 = if Lib.trimRightB l 32 = [] then [] else 32 :: Lib.trimRightB l 32 := by
  unfold Lib.trimRightB
  rw [List.reverse_cons, List.dropWhile_append]
  split
  · rename_i he
    have he' : List.dropWhile (fun x => x == 32) l.reverse = [] := by simpa using he
    rw [he']; simp
  · rename_i he
    have he' : ¬ List.dropWhile (fun x => x == 32) l.reverse = [] := by simpa using he
    rw [if_neg (by simpa using he')]; simp
theorem kp_tr (l : List UInt8) : Lib.trimRightB (kp true l) 32 = tr true false l ∧
    (Lib.trimRightB (32 :: kp false l) 32 = tr true true l) ∧ ∀ p, Lib.trimRightB (kp false l) 32 = tr false p l := by
  induction l with
  | nil => refine ⟨by simp [kp, tr, Lib.trimRightB], by simp [kp, tr, Lib.trimRightB], fun p => by simp [kp, tr, Lib.trimRightB]⟩
  | cons c l ih =>
    obtain ⟨h1, h2, h3⟩ := ih
    by_cases hc : c = 32
    · subst hc
      refine ⟨?_, ?_, fun p => ?_⟩
      · simp only [kp, tr, if_true]; exact h2
      · simp only [kp, tr, if_true]; exact h2
      · simp only [kp, tr, if_true]; exact h3 true
    · refine ⟨?_, ?_, fun p => ?_⟩
      · simp only [kp, tr, if_neg hc]; rw [trimR_cons _ _ hc, h1]; simp
      · simp only [kp, tr, if_neg hc]
        rw [trimR_blank, trimR_cons _ _ hc, h1]; simp
      · simp only [kp, tr, if_neg hc]; rw [trimR_cons _ _ hc, h1]; simp
theorem tr_head (e p : Bool) (l : List UInt8) (h : e = false ∨ p = false) : Lib.trimLeftB (tr e p l) 32 = tr e p l ∨ e = true := by
  cases e with
  | true => exact .inr rfl
  | false =>
    left
    induction l generalizing p with
    | nil => simp [tr, Lib.trimLeftB]
    | cons c l ih =>
      unfold tr
      split
      · exact ih true (.inl rfl)
      · rename_i hc; simp [Lib.trimLeftB, hc]
/-- What Trim returns. -/
def trim (l : List UInt8) : List UInt8 := tr false false l
theorem trim_kp (l : List UInt8) : Lib.trimB (kp false l) 32 = trim l := by
  unfold Lib.trimB trim
  rw [(kp_tr l).2.2 false]
  rcases tr_head false false l (.inl rfl) with h | h
  · exact h
  · cases h
/-- A literal's body. -/
def quo : List UInt8 → List UInt8
  | [] => []
  | c :: l => if c = 34 then 34 :: 34 :: quo l else c :: quo l
/-- What a literal's body says: none: a quote stands alone. -/
def unq : List UInt8 → Option (List UInt8)
  | [] => some []
  | [c] => if c = 34 then none else some [c]
  | c :: d :: l => if c = 34 then (if d = 34 then (unq l).map (34 :: ·) else none) else (unq (d :: l)).map (c :: ·)
theorem unq_cons (c : UInt8) (l : List UInt8) (h : c ≠ 34) : unq (c :: l) = (unq l).map (c :: ·) := by
  cases l with
  | nil => simp [unq, h]
  | cons d l => simp [unq, h]
theorem unq_two (l : List UInt8) : unq (34 :: 34 :: l) = (unq l).map (34 :: ·) := by simp [unq]
/-- The last byte is no blank (n: what is said of the empty text). -/
def lastN : Bool → List UInt8 → Bool
  | n, [] => n
  | _, c :: l => lastN (c != 32) l
theorem lastN_snoc (n : Bool) (l : List UInt8) (c : UInt8) : lastN n (l ++ [c]) = (c != 32) := by
  induction l generalizing n with
  | nil => rfl
  | cons d l ih => exact ih _
theorem kp_snoc (n : Bool) (l : List UInt8) (c : UInt8) : kp n (l ++ [c]) = kp n l ++ (if c = 32 then (if lastN n l then [32] else []) else [c]) := by
  induction l generalizing n with
  | nil => by_cases hc : c = 32 <;> cases n <;> simp [kp, lastN, hc]
  | cons d l ih =>
    by_cases hd : d = 32
    · rw [show lastN n (d :: l) = lastN false l by rw [lastN, hd]; rfl]
      subst hd
      simp only [List.cons_append, kp, if_true, ih false]
      cases n <;> simp
    · rw [show lastN n (d :: l) = lastN true l by rw [lastN, show (d != 32) = true by simpa using hd]]
      simp only [List.cons_append, kp, if_neg hd, ih true]
theorem kp_len (n : Bool) (l : List UInt8) : (kp n l).length ≤ l.length := by
  induction l generalizing n with
  | nil => simp [kp]
  | cons c l ih =>
    have h1 := ih false
    have h2 := ih true
    unfold kp
    split
    · split <;> simp <;> omega
    · simp; omega
end Go.Proofs.YtdanbabamcdebaaGreatDoor.GM
/- Contracts of glyph: printable, Check, the two closures, changed, Upper, Lower. -/
namespace Go.Proofs.YtdanbabamcdebaaGreatDoor
open Go.RowKit GM
theorem bcell {W w1 : World} (hb : Below W.heap.size W w1) : (∀ b o, b < W.heap.size → w1.cell? ⟨b, o, none⟩ = W.cell? ⟨b, o, none⟩) ∧ (∀ b o, b < W.heap.size → w1.frozen? ⟨b, o, none⟩ = W.frozen? ⟨b, o, none⟩) :=
  ⟨fun b o h => hb.cell (p := ⟨b, o, none⟩) h, fun b o h => hb.frozen (p := ⟨b, o, none⟩) h⟩
theorem Below.next {W w1 w2 : World} (h : Below W.heap.size W w1) (k : Below w1.heap.size w1 w2) : Below W.heap.size W w2 := h.trans (k.mono h.size)
theorem retB {a b : Bool} (h : a = b) : Ending.returned (.bool a) = .returned (.bool b) := by rw [h]
theorem retI {k : IntKind} {a b : Int} (h : a = b) : Ending.returned (.int k a) = .returned (.int k b) := by rw [h]
theorem retS {a b : ByteArray} (h : a = b) : Ending.returned (.string a) = .returned (.string b) := by rw [h]
theorem take_snoc (s : ByteArray) (k : Nat) (h : k < s.size) : s.data.toList.take (k + 1) = s.data.toList.take k ++ [s[k]'h] := by
  rw [List.take_succ_eq_append_getElem (by simpa using h)]; rfl
theorem take_all (s : ByteArray) : s.data.toList.take s.size = s.data.toList := List.take_of_length_le (by simp)
theorem data_len (s : ByteArray) : s.data.toList.length = s.size := by simp
theorem plain_app (l m : List UInt8) : plain (l ++ m) = (plain l && plain m) := by simp [plain]
theorem plain_bad (s : ByteArray) (k : Nat) (h : k < s.size) (hc : ¬ (32 ≤ (s[k].toNat : Int) ∧ (s[k].toNat : Int) ≤ 126)) : plain s.data.toList = false := by
  have : s.data.toList = s.data.toList.take (k + 1) ++ s.data.toList.drop (k + 1) := (List.take_append_drop _ _).symm
  rw [this, take_snoc s k h, plain_app, plain_app]
  have : plain [s[k]] = false := by
    simp only [plain, List.all_cons, List.all_nil, Bool.and_true]
    rw [Bool.and_eq_false_iff, decide_eq_false_iff_not, decide_eq_false_iff_not]
    omega
  rw [this]; simp
theorem plain_more (s : ByteArray) (k : Nat) (h : k < s.size) (hc : 32 ≤ (s[k].toNat : Int) ∧ (s[k].toNat : Int) ≤ 126) (hp : plain (s.data.toList.take k) = true) : plain (s.data.toList.take (k + 1)) = true := by
  rw [take_snoc s k h, plain_app, hp]
  simp only [plain, List.all_cons, List.all_nil, Bool.and_true, Bool.true_and]
  rw [Bool.and_eq_true, decide_eq_true_eq, decide_eq_true_eq]; omega
set_option maxHeartbeats 400000 in
theorem printable_any (s : ByteArray) (hs : s.size ≤ maxLen) (w : World) :
    Calls Tryz.prog 101 #[.string s] w fun e w' => e = .returned (.bool (plain s.data.toList)) ∧ w = w' := by
  unfold maxLen at hs
  go_enter Tryz.func101, Tryz.ntmps101
  go_wp2_with fail
  go_loop [6] (fun i => ∃ k : Nat, k ≤ s.size ∧ i = .int .i64 k ∧ plain (s.data.toList.take k) = true) (fun i => s.size - (intOf i).toNat)
  case atStart => exact ⟨0, Nat.zero_le _, rfl, rfl⟩
  case round =>
    obtain ⟨k, hk, rfl, hp⟩ := hrel
    have HP := Lib.hid hp
    clear hp
    by_cases hlt : k < s.size
    · by_cases hc : 32 ≤ (s[k].toNat : Int) ∧ (s[k].toNat : Int) ≤ 126
      · have HN := Lib.hid (plain_more s k hlt hc HP.out)
        obtain ⟨c1, c2⟩ := hc
        go_wp2_with fail
        go_round
        case rel => exact ⟨k + 1, by omega, by go_num, HN.out⟩
        case measure => simp [intOf]; omega
      · have HN := Lib.hid (plain_bad s k hlt hc)
        rcases Int.lt_or_le (s[k].toNat : Int) 32 with h1 | h1
        · clear hc
          go_wp2_with fail
          go_ret
          exact ⟨retB HN.out.symm, rfl⟩
        · have h2 : 126 < (s[k].toNat : Int) := by omega
          clear hc
          go_wp2_with fail
          go_ret
          exact ⟨retB HN.out.symm, rfl⟩
    · obtain rfl : k = s.size := by omega
      go_wp2_with fail
      go_ret
      exact ⟨retB (by rw [← HP.out, take_all]), rfl⟩
theorem chk_long {l : List UInt8} (h : 256 < l.length) : chk l = 5 := by unfold chk; rw [if_pos h]
theorem chk_form {l : List UInt8} (h : ¬ 256 < l.length) (h' : plain l = false) : chk l = 4 := by unfold chk; rw [if_neg h, h']; rfl
theorem chk_ok {l : List UInt8} (h : ¬ 256 < l.length) (h' : plain l = true) : chk l = 0 := by unfold chk; rw [if_neg h, h']; rfl
set_option maxHeartbeats 400000 in
theorem check_any (s : ByteArray) (hs : s.size ≤ maxLen) (w : World) :
    Calls Tryz.prog 55 #[.string s] w fun e w' => e = .returned (.int .i64 (chk s.data.toList)) ∧ w = w' := by
  have hm := hs
  unfold maxLen at hs
  by_cases h1 : 256 < s.size
  · have HC := Lib.hid (chk_long (l := s.data.toList) (by rw [data_len]; exact h1))
    go_enter Tryz.func55, Tryz.ntmps55
    go_wp2_with fail
    go_ret
    exact ⟨retI HC.out.symm, rfl⟩
  · have h1' : ¬ 256 < s.data.toList.length := by rw [data_len]; exact h1
    have H1 := Lib.hid h1'
    clear h1'
    cases hp : plain s.data.toList with
    | true =>
      have HC := Lib.hid (chk_ok H1.out hp)
      have HP := Lib.hid hp
      clear hp
      go_enter Tryz.func55, Tryz.ntmps55
      go_wp2_with fail
      refine (printable_any s hm _).mono ?_
      rintro e w' ⟨rfl, rfl⟩
      rw [HP.out]
      go_wp2_with fail
      go_ret
      exact ⟨retI HC.out.symm, rfl⟩
    | false =>
      have HC := Lib.hid (chk_form H1.out hp)
      have HP := Lib.hid hp
      clear hp
      go_enter Tryz.func55, Tryz.ntmps55
      go_wp2_with fail
      refine (printable_any s hm _).mono ?_
      rintro e w' ⟨rfl, rfl⟩
      rw [HP.out]
      go_wp2_with fail
      go_ret
      exact ⟨retI HC.out.symm, rfl⟩
def upI (c : Int) : Int := if 97 ≤ c ∧ c ≤ 122 then c - 32 else c
theorem up_int (c : UInt8) : ((up c).toNat : Int) = upI c.toNat := by rw [up_nat]; unfold upI; split <;> split <;> omega
set_option maxHeartbeats 400000 in
theorem upfn_any (c : Int) (h0 : 0 ≤ c) (h1 : c ≤ 255) (w : World) :
    Calls Tryz.prog 151 #[.int .u8 c] w fun e w' => e = .returned (.int .u8 (upI c)) ∧ w = w' := by
  have HU : Hid (upI c = if 97 ≤ c ∧ c ≤ 122 then c - 32 else c) := rfl
  rcases Int.lt_or_le c 97 with a | a
  · go_enter Tryz.func151, Tryz.ntmps151
    go_wp2_with fail
    go_ret
    exact ⟨retI (by rw [HU.out, if_neg (by omega)]), rfl⟩
  · rcases Int.lt_or_le 122 c with b | b
    · go_enter Tryz.func151, Tryz.ntmps151
      go_wp2_with fail
      go_ret
      exact ⟨retI (by rw [HU.out, if_neg (by omega)]), rfl⟩
    · go_enter Tryz.func151, Tryz.ntmps151
      go_wp2_with fail
      go_ret
      exact ⟨retI (by rw [HU.out, if_pos ⟨a, b⟩]; omega), rfl⟩
def nums (l : List UInt8) : List Int := l.map fun c => (c.toNat : Int)
theorem strOf_nums (l : List UInt8) : strOfNums (nums l) = str l := by
  unfold strOfNums nums str
  congr 2
  rw [List.map_map]
  refine (List.map_congr_left fun c _ => ?_).trans (List.map_id l)
  simp
theorem nums_getD (l : List UInt8) (i : Nat) (h : i < l.length) : (nums l).getD i 0 = ((l[i]'h).toNat : Int) := by
  simp [nums, List.getD, h]
end Go.Proofs.YtdanbabamcdebaaGreatDoor
/- Contracts of glyph.changed, Upper, Lower. -/
namespace Go.Proofs.YtdanbabamcdebaaGreatDoor
open Go.RowKit GM
/-- Block b holds the bytes l. -/
def Bytes (w : World) (b : Nat) (l : List UInt8) : Prop :=
  b < w.heap.size ∧ (∀ j, j < l.length → w.cell? ⟨b, j, none⟩ = some (.int .u8 ((l.getD j 0).toNat : Int))) ∧ ∀ j, j < l.length → w.frozen? ⟨b, j, none⟩ = false
theorem Bytes.set {w : World} {b : Nat} {l : List UInt8} (h : Bytes w b l) (k : Nat) (hk : k < l.length) (c : UInt8) :
    Bytes (w.setCell ⟨b, k, none⟩ (.int .u8 (c.toNat : Int))) b (l.set k c) := by
  obtain ⟨h0, h1, h2⟩ := h
  refine ⟨by simpa using h0, fun j hj => ?_, fun j hj => ?_⟩
  · rw [List.length_set] at hj
    by_cases e : j = k
    · subst e
      rw [World.cell?_setCell_same _ _ _ (h1 j hj)]
      simp [List.getD, hj]
    · rw [World.cell?_setCell_other _ _ _ _ (by first | (simp; done) | (simp; omega)), h1 j hj]
      simp [List.getD, List.getElem?_set_ne (fun h => e h.symm)]
  · rw [List.length_set] at hj
    rw [World.frozen?_setCell]; exact h2 j hj
theorem Bytes.of (w : World) (s : ByteArray) (e C : Nat) :
    Bytes ((w.alloc (.cells (bytesRow s C) e ((bytesRow s C).size, (bytesRow s C).size + 1))).drew) w.heap.size s.data.toList := by
  have hz : s.size ≤ (bytesRow s C).size := by
    unfold bytesRow; rw [Array.size_append, Array.size_map]; exact Nat.le_add_right _ _
  refine ⟨by simp, fun j hj => ?_, fun j hj => ?_⟩
  · have hj' : j < s.size := by simpa using hj
    have := bytesRow_at s C j hj'
    rw [World.cell?_drew, World.cell?_alloc_mark, this]
    simp [List.getD, hj']
  · have hj' : j < s.size := by simpa using hj
    rw [World.frozen?_drew, World.frozen?_alloc_mark]
    have : ¬ (bytesRow s C).size ≤ j := by omega
    simp [this]
def mixed (g : UInt8 → UInt8) (l : List UInt8) (k : Nat) : List UInt8 := (l.take k).map g ++ l.drop k
theorem mixed_len (g : UInt8 → UInt8) (l : List UInt8) (k : Nat) : (mixed g l k).length = l.length := by simp [mixed]; omega
theorem mixed_at (g : UInt8 → UInt8) (l : List UInt8) (k : Nat) (h : k < l.length) : (mixed g l k).getD k 0 = l[k] := by
  unfold mixed
  simp [List.getD, List.getElem?_append_right, Nat.min_eq_left (Nat.le_of_lt h), h]
theorem mixed_set (g : UInt8 → UInt8) (l : List UInt8) (k : Nat) (h : k < l.length) : (mixed g l k).set k (g l[k]) = mixed g l (k + 1) := by
  unfold mixed
  rw [List.set_append_right _ _ (by simp; omega), List.take_succ_eq_append_getElem h, List.map_append, List.append_assoc]
  congr 1
  have e : k - ((l.take k).map g).length = 0 := by simp; omega
  rw [e, List.drop_eq_getElem_cons h]; rfl
theorem mixed_all (g : UInt8 → UInt8) (l : List UInt8) : mixed g l l.length = l.map g := by simp [mixed]
theorem mixed_none (g : UInt8 → UInt8) (l : List UInt8) : mixed g l 0 = l := by simp [mixed]
set_option maxRecDepth 100000 in
set_option maxHeartbeats 1000000 in
theorem changedU_any (s : ByteArray) (hs : s.size ≤ maxLen) (w : World) :
    Calls Tryz.prog 150 #[.string s, .func (.func 151) #[] #[]] w fun e w' => e = .returned (.string (str (s.data.toList.map up))) ∧ Below w.heap.size w w' := by
  have hm := hs
  unfold maxLen at hs
  have hconv := fun W => run_bytes_of_string (P := Tryz.prog) W 9 108 5 s Tryz.underlying9 Tryz.underlying108 Tryz.underlying5
  go_enter Tryz.func150, Tryz.ntmps150
  go_wp2_with fail
  clear hconv
  go_loopw [12] (fun i wr => ∃ k : Nat, k ≤ s.size ∧ i = .int .i64 k ∧ Bytes wr w.heap.size (mixed up s.data.toList k) ∧ Below w.heap.size w wr) (fun i _ => s.size - (intOf i).toNat)
  case atStart => exact ⟨0, Nat.zero_le _, rfl, by rw [mixed_none]; exact Bytes.of _ _ _ _, ((Below.refl _ _).alloc (Nat.le_refl _) _).drew⟩
  case round =>
    obtain ⟨k, hk, rfl, hb, hB⟩ := hrel
    have HB := Lib.hid hb
    have HE := Lib.hid hB
    clear hb hB
    by_cases hlt : k < s.size
    · have hl : k < s.data.toList.length := by rw [data_len]; exact hlt
      have hl2 : k < (mixed up s.data.toList k).length := by rw [mixed_len]; exact hl
      have hc := HB.out.2.1 k hl2
      rw [mixed_at _ _ _ hl] at hc
      have hf := HB.out.2.2 k hl2
      have HU := Lib.hid (up_int s.data.toList[k])
      have hb1 : ((s.data.toList[k]).toNat : Int) ≤ 255 := by have := (s.data.toList[k]).toNat_lt; omega
      have hb0 : 0 ≤ ((s.data.toList[k]).toNat : Int) := by omega
      have hset := HB.out.set k hl2 (up s.data.toList[k])
      rw [mixed_set _ _ _ hl] at hset
      have HN := Lib.hid hset
      clear hset
      generalize s.data.toList[k] = c at *
      have hz := HB.out.1
      go_wp2_with fail
      refine (upfn_any _ hb0 hb1 _).mono ?_
      rintro e w' ⟨rfl, rfl⟩
      rw [← HU.out]
      go_wp2_with fail
      go_roundw
      case rel => exact ⟨k + 1, by omega, by go_num, HN.out, HE.out.setCell (Nat.le_refl _) _⟩
      case measure => simp [intOf]; omega
    · obtain rfl : k = s.size := by omega
      have hconv := run_convert_bytes_arg (P := Tryz.prog) wr 108 5 Tryz.underlying108 Tryz.underlying5 w.heap.size 0 s.size (grownCap w s.size 0 5) (nums (s.data.toList.map up)) (by simp [nums]) (fun i hi => by
        have h := HB.out.2.1 i (by rw [mixed_len, data_len]; exact hi)
        rw [← data_len s, mixed_all] at h
        rw [Nat.zero_add, h, nums_getD _ _ (by simpa using hi)]
        simp [List.getD, hi]) 9 Tryz.underlying9
      rw [strOf_nums] at hconv
      go_wp2_with fail
      go_ret
      exact ⟨rfl, HE.out⟩
def upS (s : ByteArray) : ByteArray := str (s.data.toList.map up)
set_option maxHeartbeats 400000 in
theorem upper_any (s : ByteArray) (hs : s.size ≤ maxLen) (w : World) :
    Calls Tryz.prog 135 #[.string s] w fun e w' => e = .returned (.string (upS s)) ∧ Below w.heap.size w w' := by
  go_enter Tryz.func135, Tryz.ntmps135
  go_wp2_with fail
  refine (changedU_any s hs _).mono ?_
  rintro e w' ⟨rfl, hB⟩
  go_wp2_with fail
  go_ret
  exact ⟨rfl, hB⟩
end Go.Proofs.YtdanbabamcdebaaGreatDoor
/- Contracts of the specification's Plain, Check, Upper, Lower. -/
namespace Go.Proofs.YtdanbabamcdebaaGreatDoor
open Go.RowKit GM
set_option maxHeartbeats 400000 in
theorem rplain_any (s : ByteArray) (hs : s.size ≤ maxLen) (w : World) :
    Calls Tryz.prog 131 #[.string s] w fun e w' => e = .returned (.bool (plain s.data.toList)) ∧ w = w' := by
  unfold maxLen at hs
  go_enter Tryz.func131, Tryz.ntmps131
  go_wp2_with fail
  go_loop [3] (fun i => ∃ k : Nat, k ≤ s.size ∧ i = .int .i64 k ∧ plain (s.data.toList.take k) = true) (fun i => s.size - (intOf i).toNat)
  case atStart => exact ⟨0, Nat.zero_le _, rfl, rfl⟩
  case round =>
    obtain ⟨k, hk, rfl, hp⟩ := hrel
    have HP := Lib.hid hp
    clear hp
    by_cases hlt : k < s.size
    · by_cases hc : 32 ≤ (s[k].toNat : Int) ∧ (s[k].toNat : Int) ≤ 126
      · have HN := Lib.hid (plain_more s k hlt hc HP.out)
        obtain ⟨c1, c2⟩ := hc
        go_wp2_with fail
        go_round
        case rel => exact ⟨k + 1, by omega, by go_num, HN.out⟩
        case measure => simp [intOf]; omega
      · have HN := Lib.hid (plain_bad s k hlt hc)
        rcases Int.lt_or_le (s[k].toNat : Int) 32 with h1 | h1
        · clear hc
          go_wp2_with fail
          go_ret
          exact ⟨retB HN.out.symm, rfl⟩
        · have h2 : 126 < (s[k].toNat : Int) := by omega
          clear hc
          go_wp2_with fail
          go_ret
          exact ⟨retB HN.out.symm, rfl⟩
    · obtain rfl : k = s.size := by omega
      go_wp2_with fail
      go_ret
      exact ⟨retB (by rw [← HP.out, take_all]), rfl⟩
set_option maxHeartbeats 400000 in
theorem rcheck_any (s : ByteArray) (hs : s.size ≤ maxLen) (w : World) :
    Calls Tryz.prog 100 #[.string s] w fun e w' => e = .returned (.int .i64 (chk s.data.toList)) ∧ w = w' := by
  have hm := hs
  unfold maxLen at hs
  by_cases h1 : 256 < s.size
  · have HC := Lib.hid (chk_long (l := s.data.toList) (by rw [data_len]; exact h1))
    go_enter Tryz.func100, Tryz.ntmps100
    go_wp2_with fail
    go_ret
    exact ⟨retI HC.out.symm, rfl⟩
  · have h1' : ¬ 256 < s.data.toList.length := by rw [data_len]; exact h1
    have H1 := Lib.hid h1'
    clear h1'
    cases hp : plain s.data.toList with
    | true =>
      have HC := Lib.hid (chk_ok H1.out hp)
      have HP := Lib.hid hp
      clear hp
      go_enter Tryz.func100, Tryz.ntmps100
      go_wp2_with fail
      refine (rplain_any s hm _).mono ?_
      rintro e w' ⟨rfl, rfl⟩
      rw [HP.out]
      go_wp2_with fail
      go_ret
      exact ⟨retI HC.out.symm, rfl⟩
    | false =>
      have HC := Lib.hid (chk_form H1.out hp)
      have HP := Lib.hid hp
      clear hp
      go_enter Tryz.func100, Tryz.ntmps100
      go_wp2_with fail
      refine (rplain_any s hm _).mono ?_
      rintro e w' ⟨rfl, rfl⟩
      rw [HP.out]
      go_wp2_with fail
      go_ret
      exact ⟨retI HC.out.symm, rfl⟩
end Go.Proofs.YtdanbabamcdebaaGreatDoor
