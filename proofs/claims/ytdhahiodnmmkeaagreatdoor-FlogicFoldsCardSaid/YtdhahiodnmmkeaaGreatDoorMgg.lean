/- Merged: V1 FtA FtB. -/
import Derived.Test.YtdhahiodnmmkeaaGreatDoorValC
import Derived.Test.YtdhahiodnmmkeaaGreatDoorMgc
import Derived.Test.YtdhahiodnmmkeaaGreatDoorTxtE
import Derived.Test.YtdhahiodnmmkeaaGreatDoorProg
import Derived.WalkKit
import Derived.WalkSpells
import Derived.RangeFuncBox
import Derived.Test.YtdhahiodnmmkeaaGreatDoorMgf
import Derived.Test.YtdhahiodnmmkeaaGreatDoorMga
import Derived.Deep.RegionLaw
import Derived.Test.YtdhahiodnmmkeaaGreatDoorMgb
import Derived.Test.YtdhahiodnmmkeaaGreatDoorMge
import Derived.BigQuiet
/- Merged: ValB ValD ValE ValF ValG ValH ValI. -/
/- The contracts of Fail, Make, Truth, and of the methods that convert. -/
namespace Go.Proofs.YtdhahiodnmmkeaaGreatDoor.Va
open Go Go.RowKit GM
def flN (c : Int) : Int := if 1 ≤ c ∧ c ≤ 7 then c else 2
theorem fail_any (c : Int) (w : World) : Calls Tryz.prog 87 #[.int .i64 c] w fun e w' => e = .returned (.agg #[.int .u8 4, .int .i64 (flN c), .string ⟨#[]⟩]) ∧ Below w.heap.size w w' := by
  by_cases h1 : c < 1
  · have H : Hid (flN c = 2) := if_neg (by omega)
    generalize flN c = r at *
    go_enter Tryz.func87, Tryz.ntmps87
    go_wp2_with fail
    refine bodyPost_ret (v := .agg #[.int .u8 4, .int .i64 2, .string ⟨#[]⟩]) (by simp [results, Tryz.results87, go_sem]) rfl ⟨by rw [H.out], valloc _ _⟩
  · by_cases h2 : 7 < c
    · have H : Hid (flN c = 2) := if_neg (by omega)
      generalize flN c = r at *
      go_enter Tryz.func87, Tryz.ntmps87
      go_wp2_with fail
      refine bodyPost_ret (v := .agg #[.int .u8 4, .int .i64 2, .string ⟨#[]⟩]) (by simp [results, Tryz.results87, go_sem]) rfl ⟨by rw [H.out], valloc _ _⟩
    · have H : Hid (flN c = c) := if_pos (by omega)
      generalize flN c = r at *
      go_enter Tryz.func87, Tryz.ntmps87
      go_wp2_with fail
      refine bodyPost_ret (v := .agg #[.int .u8 4, .int .i64 c, .string ⟨#[]⟩]) (by simp [results, Tryz.results87, go_sem]) rfl ⟨by rw [H.out], valloc _ _⟩
def mkK (n : Int) : Nat := if n = leastI then 4 else 1
def mkN (n : Int) : Int := if n = leastI then 3 else n
theorem make_any (n : Int) (w : World) : Calls Tryz.prog 101 #[.int .i64 n] w fun e w' => e = .returned (.agg #[.int .u8 (mkK n : Int), .int .i64 (mkN n), .string ⟨#[]⟩]) ∧ Below w.heap.size w w' := by
  have HX : Hid (B3 (w.alloc (.cells #[.int .u8 0, .int .i64 0, .string ⟨#[]⟩] 26)) w.heap.size 0 0 ⟨#[]⟩) := B3.start w 0 0 ⟨#[]⟩
  have HW := Lib.hid (valloc w (.cells #[.int .u8 0, .int .i64 0, .string ⟨#[]⟩] 26))
  by_cases h : n = -9223372036854775808
  · have H1 : Hid (mkK n = 4) := if_pos h
    have H2 : Hid (mkN n = 3) := if_pos h
    have HF : Hid (flN 3 = 3) := rfl
    generalize mkK n = x at *
    generalize mkN n = y at *
    subst h
    go_enter Tryz.func101, Tryz.ntmps101
    go_wp2_with fail
    generalize w.alloc (.cells #[.int .u8 0, .int .i64 0, .string ⟨#[]⟩] 26) = wa at *
    refine (fail_any 3 _).mono ?_
    rw [HF.out]
    rintro e w1 ⟨rfl, hB⟩
    have hX : B3 w1 w.heap.size 0 0 ⟨#[]⟩ := HX.out.later hB
    have HBW := Lib.hid (vnext HW.out hB)
    clear hB
    obtain ⟨x0, x1, x2, z0, z1, z2⟩ := hX.cells
    have hXl := hX.lt
    have hq : B3 (((w1.setCell ⟨w.heap.size, 0, none⟩ (.int .u8 4)).setCell ⟨w.heap.size, 1, none⟩ (.int .i64 3)).setCell ⟨w.heap.size, 2, none⟩ (.string ⟨#[]⟩)) w.heap.size 4 3 ⟨#[]⟩ ∧ w1.grownBy (((w1.setCell ⟨w.heap.size, 0, none⟩ (.int .u8 4)).setCell ⟨w.heap.size, 1, none⟩ (.int .i64 3)).setCell ⟨w.heap.size, 2, none⟩ (.string ⟨#[]⟩)) (some (w.heap.size)) := hX.set 4 3 ⟨#[]⟩
    have hb5 := HBW.out.grown hq.2 HBW.out.size (fun q hq => by injection hq with hq; omega)
    obtain ⟨hq, _⟩ := hq
    go_wp2_with fail
    generalize ((w1.setCell ⟨w.heap.size, 0, none⟩ (.int .u8 4)).setCell ⟨w.heap.size, 1, none⟩ (.int .i64 3)).setCell ⟨w.heap.size, 2, none⟩ (.string ⟨#[]⟩) = w5 at *
    obtain ⟨y0, y1, y2, _, _, _⟩ := hq.cells
    refine bodyPost_ret (v := .agg #[.int .u8 4, .int .i64 3, .string ⟨#[]⟩]) (by simp [results, Tryz.results101, go_sem, y0, y1, y2]) rfl ⟨by rw [H1.out, H2.out]; rfl, hb5⟩
  · have H1 : Hid (mkK n = 1) := if_neg h
    have H2 : Hid (mkN n = n) := if_neg h
    have h2 : (n == -9223372036854775808) = false := by simpa using h
    generalize mkK n = x at *
    generalize mkN n = y at *
    clear h HX HW
    go_enter Tryz.func101, Tryz.ntmps101
    go_wp2_with fail
    refine bodyPost_ret (v := .agg #[.int .u8 1, .int .i64 n, .string ⟨#[]⟩]) (by simp [results, Tryz.results101, go_sem]) rfl ⟨by rw [H1.out, H2.out]; rfl, valloc _ _⟩
def b2i (b : Bool) : Int := if b then 1 else 0
theorem truth_any (b : Bool) (w : World) : Calls Tryz.prog 51 #[.bool b] w fun e w' => e = .returned (.agg #[.int .u8 2, .int .i64 (b2i b), .string ⟨#[]⟩]) ∧ Below w.heap.size w w' := by
  cases b
  · have H : Hid (b2i false = 0) := rfl
    generalize b2i false = x at *
    go_enter Tryz.func51, Tryz.ntmps51
    go_wp2_with fail
    refine bodyPost_ret (v := .agg #[.int .u8 2, .int .i64 0, .string ⟨#[]⟩]) (by simp [results, Tryz.results51, go_sem]) rfl ⟨by rw [H.out], valloc _ _⟩
  · have H : Hid (b2i true = 1) := rfl
    generalize b2i true = x at *
    go_enter Tryz.func51, Tryz.ntmps51
    go_wp2_with fail
    refine bodyPost_ret (v := .agg #[.int .u8 2, .int .i64 1, .string ⟨#[]⟩]) (by simp [results, Tryz.results51, go_sem]) rfl ⟨by rw [H.out], valloc _ _⟩
end Go.Proofs.YtdhahiodnmmkeaaGreatDoor.Va
/- The contracts of the methods that convert: truth, number, text. -/
namespace Go.Proofs.YtdhahiodnmmkeaaGreatDoor.Va
open Go Go.RowKit GM
theorem tr_le (e p : Bool) (l : List UInt8) : (tr e p l).length ≤ l.length + (if p then 1 else 0) := by
  induction l generalizing e p with
  | nil => simp [tr]
  | cons c l ih =>
    have h1 : (tr true false l).length ≤ l.length := by simpa using ih true false
    have h2 : (tr e true l).length ≤ l.length + 1 := by simpa using ih e true
    clear ih
    unfold tr
    split
    · simp only [List.length_cons]; omega
    · cases e <;> cases p <;> simp <;> omega
theorem trim_le (l : List UInt8) : (trim l).length ≤ l.length := by
  have := tr_le false false l
  simpa [trim] using this
def trR (k : Nat) (n : Int) (s : ByteArray) : Nat × Int := if k = 3 then (if upS s = ⟨#[84, 82, 85, 69]⟩ then (2, 1) else if upS s = ⟨#[70, 65, 76, 83, 69]⟩ then (2, 0) else (4, 2)) else (2, if n = 0 then 0 else 1)
def nbR (k : Nat) (n : Int) (s : ByteArray) : Nat × Int := if k = 3 then (if Tx.parE (trim s.data.toList) = 0 then (mkK (Tx.parV (trim s.data.toList)), mkN (Tx.parV (trim s.data.toList))) else if Tx.parE (trim s.data.toList) = 3 then (4, 3) else (4, 2)) else (mkK (n * 10000), mkN (n * 10000))
end Go.Proofs.YtdhahiodnmmkeaaGreatDoor.Va
/- The contract of the method text. -/
namespace Go.Proofs.YtdhahiodnmmkeaaGreatDoor.Va
open Go Go.RowKit GM
attribute [local simp] DepA isB rsAt
end Go.Proofs.YtdhahiodnmmkeaaGreatDoor.Va
/- The contracts of converted, ToNumber, ToText and ToBool. -/
namespace Go.Proofs.YtdhahiodnmmkeaaGreatDoor.Va
open Go Go.RowKit GM
def cvR (kd : Nat) (k : Nat) (n : Int) (s : ByteArray) : Nat × Int × ByteArray :=
  if vE k n s.data.toList = 0 then
    (if k = kd ∨ k = 4 then (k, n, s)
     else if kd = 1 then ((nbR k n s).1, (nbR k n s).2, ⟨#[]⟩)
     else if kd = 2 then ((trR k n s).1, (trR k n s).2, ⟨#[]⟩)
     else (3, 0, if k = 1 then ⟨(Tx.fmtL n).toArray⟩ else if k = 2 then (if n = 1 then ⟨#[84, 82, 85, 69]⟩ else ⟨#[70, 65, 76, 83, 69]⟩) else ⟨#[]⟩))
  else (4, 2, ⟨#[]⟩)
theorem vE_two (k : Nat) (n : Int) (l : List UInt8) (h : vE k n l ≠ 0) : vE k n l = 2 := by
  unfold vE at *
  split at h
  · exact absurd rfl h
  · rename_i h2; rw [if_neg h2]
end Go.Proofs.YtdhahiodnmmkeaaGreatDoor.Va
/- The contracts of ToNumber, ToText and ToBool. -/
namespace Go.Proofs.YtdhahiodnmmkeaaGreatDoor.Va
open Go Go.RowKit GM
theorem vld_sort {k : Nat} {n : Int} {s : ByteArray} (h : vE k n s.data.toList = 0) : (k = 0 ∧ n = 0 ∧ s = ⟨#[]⟩) ∨ (k = 1 ∧ n ≠ leastI ∧ s = ⟨#[]⟩) ∨ (k = 2 ∧ (n = 0 ∨ n = 1) ∧ s = ⟨#[]⟩) ∨ (k = 3 ∧ n = 0) ∨ (k = 4 ∧ (1 ≤ n ∧ n ≤ 6) ∧ s = ⟨#[]⟩) := by
  have hv : vldV k n s.data.toList = true := by
    unfold vE at h
    split at h
    · assumption
    · omega
  have emp : s.data.toList.isEmpty = true → s = ⟨#[]⟩ := fun e => ByteArray.ext (by simpa using e)
  unfold vldV at hv
  split at hv
  · simp only [Bool.and_eq_true, decide_eq_true_eq] at hv; exact .inl ⟨by assumption, hv.1, emp hv.2⟩
  split at hv
  · simp only [Bool.and_eq_true, decide_eq_true_eq] at hv; exact .inr (.inl ⟨by assumption, hv.1, emp hv.2⟩)
  split at hv
  · simp only [Bool.and_eq_true, decide_eq_true_eq] at hv; exact .inr (.inr (.inl ⟨by assumption, hv.1, emp hv.2⟩))
  split at hv
  · simp only [Bool.and_eq_true, decide_eq_true_eq] at hv; exact .inr (.inr (.inr (.inl ⟨by assumption, hv.1⟩)))
  split at hv
  · simp only [Bool.and_eq_true, decide_eq_true_eq] at hv; exact .inr (.inr (.inr (.inr ⟨by assumption, hv.1, emp hv.2⟩)))
  · cases hv
theorem maxLen_of {s : ByteArray} (h : s.size ≤ 2000) : s.size ≤ maxLen := by unfold maxLen; omega
end Go.Proofs.YtdhahiodnmmkeaaGreatDoor.Va
/- The arithmetic of what converts: kinds, and what a second conversion gives. -/
namespace Go.Proofs.YtdhahiodnmmkeaaGreatDoor.Va
open Go Go.RowKit GM
theorem mk_sort (n : Int) : (mkK n = 4 ∧ mkN n = 3) ∨ (mkK n = 1 ∧ mkN n = n ∧ n ≠ leastI) := by
  unfold mkK mkN
  by_cases h : n = leastI
  · exact .inl ⟨if_pos h, if_pos h⟩
  · exact .inr ⟨if_neg h, if_neg h, h⟩
theorem nb_sort (k : Nat) (n : Int) (s : ByteArray) : ((nbR k n s).1 = 4 ∧ ((nbR k n s).2 = 3 ∨ (nbR k n s).2 = 2)) ∨ ((nbR k n s).1 = 1 ∧ (nbR k n s).2 ≠ leastI) := by
  unfold nbR
  split
  · split
    · rcases mk_sort (Tx.parV (trim s.data.toList)) with ⟨a, b⟩ | ⟨a, b, c⟩
      · exact .inl ⟨a, .inl b⟩
      · exact .inr ⟨a, by rw [b]; exact c⟩
    · split
      · exact .inl ⟨rfl, .inl rfl⟩
      · exact .inl ⟨rfl, .inr rfl⟩
  · rcases mk_sort (n * 10000) with ⟨a, b⟩ | ⟨a, b, c⟩
    · exact .inl ⟨a, .inl b⟩
    · exact .inr ⟨a, by rw [b]; exact c⟩
theorem tr_sort (k : Nat) (n : Int) (s : ByteArray) : trR k n s = (4, 2) ∨ trR k n s = (2, 1) ∨ trR k n s = (2, 0) := by
  unfold trR
  split
  · split
    · exact .inr (.inl rfl)
    · split
      · exact .inr (.inr rfl)
      · exact .inl rfl
  · split
    · exact .inr (.inr rfl)
    · exact .inr (.inl rfl)
theorem vE_err {n : Int} (h : 1 ≤ n ∧ n ≤ 6) : vE 4 n [] = 0 := by unfold vE vldV; simp [h]
theorem vE_num {n : Int} (h : n ≠ leastI) : vE 1 n [] = 0 := by unfold vE vldV; simp [h]
theorem vE_bool {n : Int} (h : n = 0 ∨ n = 1) : vE 2 n [] = 0 := by unfold vE vldV; simp [h]
/-- A number, or an error. -/
theorem cv1_ok (k : Nat) (n : Int) (s : ByteArray) : vE (cvR 1 k n s).1 (cvR 1 k n s).2.1 (cvR 1 k n s).2.2.data.toList = 0 ∧ ((cvR 1 k n s).1 = 1 ∨ (cvR 1 k n s).1 = 4) := by
  unfold cvR
  split
  · rename_i h0
    split
    · rename_i h1; exact ⟨h0, h1⟩
    · rw [if_pos rfl]
      rcases nb_sort k n s with ⟨a, b⟩ | ⟨a, b⟩
      · refine ⟨?_, .inr a⟩
        show vE (nbR k n s).1 (nbR k n s).2 [] = 0
        rw [a]; exact vE_err (by omega)
      · refine ⟨?_, .inl a⟩
        show vE (nbR k n s).1 (nbR k n s).2 [] = 0
        rw [a]; exact vE_num b
  · exact ⟨vE_err (n := 2) (by omega), .inr rfl⟩
/-- A bool, or an error. -/
theorem cv2_ok (k : Nat) (n : Int) (s : ByteArray) : vE (cvR 2 k n s).1 (cvR 2 k n s).2.1 (cvR 2 k n s).2.2.data.toList = 0 ∧ ((cvR 2 k n s).1 = 2 ∨ (cvR 2 k n s).1 = 4) := by
  unfold cvR
  split
  · rename_i h0
    split
    · rename_i h1; exact ⟨h0, h1⟩
    · rw [if_neg (by omega), if_pos rfl]
      rcases tr_sort k n s with a | a | a <;> rw [a]
      · exact ⟨vE_err (n := 2) (by omega), .inr rfl⟩
      · exact ⟨vE_bool (.inr rfl), .inl rfl⟩
      · exact ⟨vE_bool (.inl rfl), .inl rfl⟩
  · exact ⟨vE_err (n := 2) (by omega), .inr rfl⟩
/-- A value of the kind, or an error, stays as it is. -/
theorem cv_same {kd k : Nat} {n : Int} {s : ByteArray} (h : vE k n s.data.toList = 0) (hk : k = kd ∨ k = 4) : cvR kd k n s = (k, n, s) := by
  unfold cvR; rw [if_pos h, if_pos hk]
end Go.Proofs.YtdhahiodnmmkeaaGreatDoor.Va
/- The arithmetic of conversions there and back. -/
namespace Go.Proofs.YtdhahiodnmmkeaaGreatDoor.Va
open Go Go.RowKit GM
end Go.Proofs.YtdhahiodnmmkeaaGreatDoor.Va
/- ftext: rows of strings and of numbers; text and count. -/
namespace Go.Proofs.YtdhahiodnmmkeaaGreatDoor.Va
open Go Go.RowKit GM
set_option linter.unusedVariables false
set_option linter.unusedSimpArgs false
section
variable {P : Program} {α : Type} {c : α → List Value} {n : Nat} {e : TypeId}
/-- append(s, x...): no block but the list's own has turned. -/
theorem wpList_appG {ops : Array Oper} {rest : List Oper} {o : Oper} {a : Act} {w : World} {Q : Exit → Act → World → Prop} (hgd : o.guard = none) (s x : Operand) (t : TypeId)
    (ho : o.op = .call { callee := .builtin .append, args := #[s, x], argTypes := #[t, t] }) (ht : P.underlying t = some (.slice e)) (z : Value) (bytes : Nat)
    (hinfo : (P.info? e).map (fun i => (i.zero, i.size, i.bytes)) = some (some z, n, bytes)) (hzs : z.cells.size = n) (hn0 : 0 < n) (hbl : 0 < bytes)
    (hn : ∀ x, (c x).length = n) (h1 : ∀ x, ∀ u ∈ c x, u.oneCell' = true)
    (B : Nat) (v : Value) (L : List α) (hs : a.eval s = v) (hown : OwnOf e c n B w v L) (A : Option Addr) (m cp : Nat) (M : List α) (hx : a.eval x = .slice A m cp) (hM : IsOf c n w A m M)
    (hl : (L.length + m) * bytes ≤ 140737488355328) (hB : B ≤ w.heap.size)
    (h : ∀ v' w', OwnOf e c n B w' v' (L ++ M) → w.grownBy w' v.ownBlock → (v'.ownBlock = v.ownBlock ∨ v'.ownBlock = some w.heap.size) → wpList P ops Q rest (a.put o.dst v') w') : wpList P ops Q (o :: rest) a w := by
  obtain ⟨i0, hi, hz0, hz1, hz2⟩ := info_parts hinfo
  refine wpList_append_any w hgd s x t ho B e i0 z n bytes ht hi hz0 hz1 hz2 hzs hn0 v L.length (L.flatMap c) hs hown w.heap.size A m cp (M.flatMap c) hx (hM.reads hn) ?_ ?_ ?_ hB ?_
  · intro u hu
    obtain ⟨y, _, hy⟩ := List.mem_flatMap.1 hu
    exact h1 y u hy
  · have : L.length + m ≤ (L.length + m) * bytes := Nat.le_mul_of_pos_right _ hbl
    unfold maxLen; omega
  · exact hl
  · intro v' w' ho' hg hr
    refine h v' w' ?_ hg hr
    unfold OwnOf
    rw [List.length_append, List.flatMap_append, hM.1]; exact ho'
end
def cellsT (s : ByteArray) : List Value := [.string s]
def cellsW (x : Int) : List Value := [.int .i64 x]
abbrev OwnT (B : Nat) (w : World) (v : Value) (L : List ByteArray) : Prop := OwnOf 9 cellsT 1 B w v L
abbrev OwnW (B : Nat) (w : World) (v : Value) (L : List Int) : Prop := OwnOf 2 cellsW 1 B w v L
abbrev IsW (w : World) (a : Option Addr) (n : Nat) (L : List Int) : Prop := IsOf cellsW 1 w a n L
/-- A value: kind, number, text. -/
abbrev V3 := Nat × Int × ByteArray
def vOf (v : V3) : Value := .agg #[.int .u8 (v.1 : Int), .int .i64 v.2.1, .string v.2.2]
def badV : V3 := (4, 2, ⟨#[]⟩)
/-- What ftext.text makes of a string. -/
def txV (s : ByteArray) : V3 := if 256 < s.size then badV else (3, 0, s)
/-- A result that lies in a block of its own. -/
theorem b3_set {w : World} {p : Nat} {k : Nat} {n : Int} {s : ByteArray} (h : B3 w p k n s) (k' : Nat) (n' : Int) (s' : ByteArray) :
    B3 (((w.setCell ⟨p, 0, none⟩ (.int .u8 (k' : Int))).setCell ⟨p, 1, none⟩ (.int .i64 n')).setCell ⟨p, 2, none⟩ (.string s')) p k' n' s' ∧
    w.grownBy (((w.setCell ⟨p, 0, none⟩ (.int .u8 (k' : Int))).setCell ⟨p, 1, none⟩ (.int .i64 n')).setCell ⟨p, 2, none⟩ (.string s')) (some p) := by
  have := set3 w p 26 _ _ _ (.int .u8 (k' : Int)) (.int .i64 n') (.string s') h
  exact ⟨this.2, this.1⟩
def cnV (n : Int) : V3 := (1, n * 10000, ⟨#[]⟩)
end Go.Proofs.YtdhahiodnmmkeaaGreatDoor.Va
/- The methods of ftext's arguments. -/
namespace Go.Proofs.YtdhahiodnmmkeaaGreatDoor.Va
open Go Go.RowKit GM
set_option linter.unusedVariables false
set_option linter.unusedSimpArgs false
/-- Two values in a block of their own. -/
def Arg (w : World) (p : Nat) (u v : Value) : Prop := p < w.heap.size ∧ w.cell? ⟨p, 0, none⟩ = some u ∧ w.cell? ⟨p, 1, none⟩ = some v
theorem Arg.start (w : World) (u v : Value) (t : TypeId) : Arg (w.alloc (.cells #[u, v] t)) w.heap.size u v := ⟨by simp, (World.cell?_alloc_at _ _ _ 0 rfl).trans rfl, (World.cell?_alloc_at _ _ _ 1 rfl).trans rfl⟩
theorem Arg.later {w w' : World} {p : Nat} {u v : Value} (h : Arg w p u v) (hB : Below w.heap.size w w') : Arg w' p u v :=
  ⟨Nat.lt_of_lt_of_le h.1 hB.size, (hB.cell (p := ⟨p, 0, none⟩) h.1).trans h.2.1, (hB.cell (p := ⟨p, 1, none⟩) h.1).trans h.2.2⟩
def leftV (s : ByteArray) (n : Int) : V3 := if n < 0 then badV else txV (s.extract 0 (min n s.size).toNat)
def rightV (s : ByteArray) (n : Int) : V3 := if n < 0 then badV else txV (s.extract ((s.size : Int) - min n s.size).toNat s.size)
def midS (s : ByteArray) (f n : Int) : ByteArray := (s.extract (min (f - 1) s.size).toNat s.size).extract 0 (min n ((s.size - (min (f - 1) s.size).toNat : Nat) : Int)).toNat
def midV (s : ByteArray) (f n : Int) : V3 := if f < 1 ∨ n < 0 then badV else txV (midS s f n)
def exactV (s t : ByteArray) : V3 := (2, b2i (decide (s = t)), ⟨#[]⟩)
attribute [local simp] DepA isB rsAt
end Go.Proofs.YtdhahiodnmmkeaaGreatDoor.Va
