/- Merged: AddrA AddrB RectA RectB. -/
import Derived.Test.YtelanmknimapoaaGreatDoorProg
import Derived.Test.YtelanmknimapoaaGreatDoorAddrMath
import Derived.WalkKit
import Derived.WalkSpells
import Derived.WalkLawsBesides
import Derived.Lib.Hide
import Derived.BigQuiet
import Derived.Deep.QuietTactic
import Derived.Outline
import Derived.Laws.BytesArg
import Derived.RegionTactic
import Derived.BigRegion
import Derived.ChangeAlike
/- Contracts of addr: the kinds of bytes, and what is read of an address. -/
namespace Go.Proofs.YtelanmknimapoaaGreatDoor.Re
open Go.RowKit AM
theorem zo9 {a b c d : Int} {k : IntKind} (h : a = c) (h' : b = d) : Ending.returned (.tuple #[.int k a, .int k b]) = .returned (.tuple #[.int k c, .int k d]) := by rw [h, h']
set_option maxHeartbeats 400000 in
theorem zdf (c : Int) (h0 : 0 ≤ c) (h1 : c ≤ 255) (w : World) :
 Calls Tryz.prog 139 #[.int .u8 c] w fun e w' => e = .returned (.tuple #[.int .i64 (kd c), .int .i64 (nm c)]) ∧ w = w' := by
 by_cases a : 97 ≤ c ∧ c ≤ 122
 · obtain ⟨a0, a1⟩ := a
   go_enter Tryz.func139, Tryz.ntmps139
   go_wp2
   go_ret2
   exact ⟨zo9 (by unfold kd; rw [if_pos ⟨a0, a1⟩]) (by unfold nm; rw [if_pos ⟨a0, a1⟩]; omega), rfl⟩
 · by_cases b : 65 ≤ c ∧ c ≤ 90
   · obtain ⟨b0, b1⟩ := b
     have a0 : ¬ 97 ≤ c := by omega
     have a' : ¬ 97 ≤ c := a0
     clear a
     go_enter Tryz.func139, Tryz.ntmps139
     go_wp2
     go_ret2
     exact ⟨zo9 (by unfold kd; rw [if_neg (by omega), if_pos ⟨b0, b1⟩]) (by unfold nm; rw [if_neg (by omega), if_pos ⟨b0, b1⟩]; omega), rfl⟩
   · by_cases d : 48 ≤ c ∧ c ≤ 57
     · obtain ⟨d0, d1⟩ := d
       clear a b
       go_enter Tryz.func139, Tryz.ntmps139
       go_wp2
       go_ret2
       exact ⟨zo9 (by unfold kd; rw [if_neg (by omega), if_neg (by omega), if_pos ⟨d0, d1⟩]) (by unfold nm; rw [if_neg (by omega), if_neg (by omega), if_pos ⟨d0, d1⟩]), rfl⟩
     · have hk : Hid (kd c = 0 ∧ nm c = 0) := by
        unfold Hid kd nm; rw [if_neg a, if_neg b, if_neg d, if_neg a, if_neg b, if_neg d]; exact ⟨rfl, rfl⟩
       rcases Int.lt_or_le c 48 with u | u
       · clear a b d
         go_enter Tryz.func139, Tryz.ntmps139
         go_wp2
         go_ret2
         exact ⟨zo9 hk.out.1.symm hk.out.2.symm, rfl⟩
       · rcases Int.lt_or_le c 65 with v | v
         · have u' : 57 < c := by omega
           clear a b d
           go_enter Tryz.func139, Tryz.ntmps139
           go_wp2
           go_ret2
           exact ⟨zo9 hk.out.1.symm hk.out.2.symm, rfl⟩
         · rcases Int.lt_or_le c 97 with x | x
           · have u' : 90 < c := by omega
             clear a b d
             go_enter Tryz.func139, Tryz.ntmps139
             go_wp2
             go_ret2
             exact ⟨zo9 hk.out.1.symm hk.out.2.symm, rfl⟩
           · have u' : 122 < c := by omega
             clear a b d
             go_enter Tryz.func139, Tryz.ntmps139
             go_wp2
             go_ret2
             exact ⟨zo9 hk.out.1.symm hk.out.2.symm, rfl⟩
end Go.Proofs.YtelanmknimapoaaGreatDoor.Re
/- Contracts of addr's small functions. -/
namespace Go.Proofs.YtelanmknimapoaaGreatDoor.Re
open Go.RowKit AM
theorem bcell {W w1 : World} (hb : Below W.heap.size W w1) : (∀ b o, b < W.heap.size → w1.cell? ⟨b, o, none⟩ = W.cell? ⟨b, o, none⟩) ∧ (∀ b o, b < W.heap.size → w1.frozen? ⟨b, o, none⟩ = W.frozen? ⟨b, o, none⟩) :=
 ⟨fun b o h => hb.cell (p := ⟨b, o, none⟩) h, fun b o h => hb.frozen (p := ⟨b, o, none⟩) h⟩
theorem Below.next {W w1 w2 : World} (h : Below W.heap.size W w1) (k : Below w1.heap.size w1 w2) : Below W.heap.size W w2 := h.trans (k.mono h.size)
theorem retB {a b : Bool} (h : a = b) : Ending.returned (.bool a) = .returned (.bool b) := by rw [h]
theorem zi8 {c r : Int} (h : 1 ≤ c ∧ c ≤ 1024 ∧ 1 ≤ r ∧ r ≤ 1024) : okR c r = true := by unfold okR; exact decide_eq_true h
theorem zyw {c r : Int} (h : ¬ (1 ≤ c ∧ c ≤ 1024 ∧ 1 ≤ r ∧ r ≤ 1024)) : okR c r = false := by unfold okR; exact decide_eq_false h
theorem zvj {c r : Int} (h : okR c r = true) : 1 ≤ c ∧ c ≤ 1024 ∧ 1 ≤ r ∧ r ≤ 1024 := by unfold okR at h; exact of_decide_eq_true h
set_option maxHeartbeats 400000 in
theorem valid_any (c r : Int) (w : World) :
 Calls Tryz.prog 95 #[.agg #[.int .i64 c, .int .i64 r]] w fun e w' => e = .returned (.bool (okR c r)) ∧ Below w.heap.size w w' := by
 rcases Int.lt_or_le c 1 with h1 | h1
 · have hk := Lib.hid (zyw (c := c) (r := r) (by omega))
   go_enter Tryz.func95, Tryz.ntmps95
   go_wp2
   go_ret
   exact ⟨retB hk.out.symm, (Below.refl _ _).alloc (Nat.le_refl _) _⟩
 · rcases Int.lt_or_le 1024 c with h2 | h2
   · have hk := Lib.hid (zyw (c := c) (r := r) (by omega))
     go_enter Tryz.func95, Tryz.ntmps95
     go_wp2
     go_ret
     exact ⟨retB hk.out.symm, (Below.refl _ _).alloc (Nat.le_refl _) _⟩
   · rcases Int.lt_or_le r 1 with h3 | h3
     · have hk := Lib.hid (zyw (c := c) (r := r) (by omega))
       go_enter Tryz.func95, Tryz.ntmps95
       go_wp2
       go_ret
       exact ⟨retB hk.out.symm, (Below.refl _ _).alloc (Nat.le_refl _) _⟩
     · rcases Int.lt_or_le 1024 r with h4 | h4
       · have hk := Lib.hid (zyw (c := c) (r := r) (by omega))
         go_enter Tryz.func95, Tryz.ntmps95
         go_wp2
         go_ret
         exact ⟨retB ((decide_eq_false (by omega)).trans hk.out.symm), (Below.refl _ _).alloc (Nat.le_refl _) _⟩
       · have hk := Lib.hid (zi8 (c := c) (r := r) (by omega))
         go_enter Tryz.func95, Tryz.ntmps95
         go_wp2
         go_ret
         exact ⟨retB hk.out.symm, (Below.refl _ _).alloc (Nat.le_refl _) _⟩
theorem ydi {n : Int} (h : n ≤ 26) : ze8 n = [65 + (n - 1) % 26] := by unfold ze8; rw [if_pos h]
theorem ydh {n : Int} (h : 26 < n) (h' : n ≤ 702) : ze8 n = [65 + ((n - 1) / 26 - 1) % 26, 65 + (n - 1) % 26] := by unfold ze8; rw [if_neg (by omega), if_pos h']
theorem ydg {n : Int} (h : 702 < n) : ze8 n = [65 + (((n - 1) / 26 - 1) / 26 - 1) % 26, 65 + ((n - 1) / 26 - 1) % 26, 65 + (n - 1) % 26] := by unfold ze8; rw [if_neg (by omega), if_neg (by omega)]
theorem zuy {a b : List Int} (h : a = b) : Ending.returned (.tuple #[.string (strOfNums a), .int .i64 0]) = .returned (.tuple #[.string (strOfNums b), .int .i64 0]) := by rw [h]
set_option maxRecDepth 100000 in
set_option maxHeartbeats 1600000 in
theorem zpj (n : Int) (h0 : 1 ≤ n) (h1 : n ≤ 1024) (w : World) :
 Calls Tryz.prog 97 #[.int .i64 n] w fun e w' => e = .returned (.tuple #[.string (strOfNums (ze8 n)), .int .i64 0]) ∧ Below w.heap.size w w' := by
 rcases Int.lt_or_le 26 n with ha | ha
 · rcases Int.lt_or_le 702 n with hb | hb
   · have hk := Lib.hid (ydg hb)
     go_enter Tryz.func97, Tryz.ntmps97
     go_wp2_with fail
     refine wp_loop_rounds 4 ?_
     rw [rounds_succ]
     go_wp2_with fail
     rw [rounds_succ]
     have : 0 < (n - 1) / 26 := by omega
     go_wp2_with fail
     rw [rounds_succ]
     have : 0 < ((n - 1) / 26 - 1) / 26 := by omega
     go_wp2_with fail
     rw [rounds_succ]
     have : (((n - 1) / 26 - 1) / 26 - 1) / 26 = 0 := by omega
     go_wp2_with fail
     rw [run_convert_bytes_arg (P := Tryz.prog) _ 73 5 Tryz.underlying73 Tryz.underlying5 w.heap.size 0 3 3 [65 + (((n - 1) / 26 - 1) / 26 - 1) % 26, 65 + ((n - 1) / 26 - 1) % 26, 65 + (n - 1) % 26] rfl ?hc 9 Tryz.underlying9]
     case hc => intro i hi; match i, hi with
      | 0, _ => simp
      | 1, _ => simp
      | 2, _ => simp
     go_wp2_with fail
     go_ret2
     exact ⟨zuy hk.out.symm, (Below.refl _ _).alloc (Nat.le_refl _) _⟩
   · have hk := Lib.hid (ydh ha hb)
     go_enter Tryz.func97, Tryz.ntmps97
     go_wp2_with fail
     refine wp_loop_rounds 4 ?_
     rw [rounds_succ]
     go_wp2_with fail
     rw [rounds_succ]
     have : 0 < (n - 1) / 26 := by omega
     go_wp2_with fail
     rw [rounds_succ]
     have : ((n - 1) / 26 - 1) / 26 = 0 := by omega
     go_wp2_with fail
     rw [run_convert_bytes_arg (P := Tryz.prog) _ 73 5 Tryz.underlying73 Tryz.underlying5 w.heap.size 1 2 2 [65 + ((n - 1) / 26 - 1) % 26, 65 + (n - 1) % 26] rfl ?hc 9 Tryz.underlying9]
     case hc => intro i hi; match i, hi with
      | 0, _ => simp
      | 1, _ => simp
     go_wp2_with fail
     go_ret2
     exact ⟨zuy hk.out.symm, (Below.refl _ _).alloc (Nat.le_refl _) _⟩
 · have hk := Lib.hid (ydi ha)
   go_enter Tryz.func97, Tryz.ntmps97
   go_wp2_with fail
   refine wp_loop_rounds 4 ?_
   rw [rounds_succ]
   go_wp2_with fail
   rw [rounds_succ]
   have : (n - 1) / 26 = 0 := by omega
   go_wp2_with fail
   rw [run_convert_bytes_arg (P := Tryz.prog) _ 73 5 Tryz.underlying73 Tryz.underlying5 w.heap.size 2 1 1 [65 + (n - 1) % 26] rfl ?hc 9 Tryz.underlying9]
   case hc => intro i hi; match i, hi with | 0, _ => simp
   go_wp2_with fail
   go_ret2
   exact ⟨zuy hk.out.symm, (Below.refl _ _).alloc (Nat.le_refl _) _⟩
end Go.Proofs.YtelanmknimapoaaGreatDoor.Re
/- Contracts of rect's small functions. -/
namespace Go.Proofs.YtelanmknimapoaaGreatDoor.Re
open Go.RowKit AM
theorem zhi (a b c d : Int) (w : World) :
 Calls Tryz.prog 70 #[.agg #[.int .i64 a, .int .i64 b, .int .i64 c, .int .i64 d]] w fun e w' =>
  e = .returned (.tuple #[.agg #[.int .i64 a, .int .i64 b], .agg #[.int .i64 c, .int .i64 d]]) ∧ Below w.heap.size w w' := by
 go_enter Tryz.func70, Tryz.ntmps70
 go_wp2_with fail
 go_region
 go_wp2_with fail
 exact bodyPost_ret (v := .tuple #[.agg #[_, _], .agg #[_, _]]) (by simp [results, Tryz.results70, go_sem]) rfl ⟨rfl, ((((Below.refl _ _).alloc (Nat.le_refl _) _).alloc (by simp) _).alloc (by simp; omega) _).drew⟩
theorem zxy {k : IntKind} {a b : Int} (h : a = b) : Ending.returned (.int k a) = .returned (.int k b) := by rw [h]
def emB (a b c d : Int) : Bool := decide (c < a ∨ d < b)
theorem yg3 {a b c d : Int} (h : c < a ∨ d < b) : emB a b c d = true := by unfold emB; exact decide_eq_true h
theorem yh1 {a b c d : Int} (h : ¬ (c < a ∨ d < b)) : emB a b c d = false := by unfold emB; exact decide_eq_false h
theorem zsp (a b c d : Int) (w : World) :
 Calls Tryz.prog 96 #[.agg #[.int .i64 a, .int .i64 b, .int .i64 c, .int .i64 d]] w fun e w' => e = .returned (.bool (emB a b c d)) ∧ Below w.heap.size w w' := by
 rcases Int.lt_or_le c a with h | h
 · have hk := Lib.hid (yg3 (b := b) (d := d) (Or.inl h))
   go_enter Tryz.func96, Tryz.ntmps96
   go_wp2
   go_ret
   exact ⟨retB hk.out.symm, (Below.refl _ _).alloc (Nat.le_refl _) _⟩
 · rcases Int.lt_or_le d b with h2 | h2
   · have hk := Lib.hid (yg3 (a := a) (c := c) (Or.inr h2))
     go_enter Tryz.func96, Tryz.ntmps96
     go_wp2
     go_ret
     exact ⟨retB hk.out.symm, (Below.refl _ _).alloc (Nat.le_refl _) _⟩
   · have hk := Lib.hid (yh1 (a := a) (b := b) (c := c) (d := d) (by omega))
     go_enter Tryz.func96, Tryz.ntmps96
     go_wp2
     go_ret
     exact ⟨retB (by rw [decide_eq_false (show ¬ c < a by omega), decide_eq_false (show ¬ d < b by omega)]; exact hk.out.symm), (Below.refl _ _).alloc (Nat.le_refl _) _⟩
/-! A range is valid -/
def ckB (a b c d : Int) : Bool := okR a b && (okR c d && !emB a b c d)
def ckE (a b c d : Int) : Int := if ckB a b c d = true then 0 else 3
theorem ckB_iff {a b c d : Int} : ckB a b c d = true ↔ (1 ≤ a ∧ a ≤ 1024 ∧ 1 ≤ b ∧ b ≤ 1024) ∧ (1 ≤ c ∧ c ≤ 1024 ∧ 1 ≤ d ∧ d ≤ 1024) ∧ a ≤ c ∧ b ≤ d := by
 unfold ckB okR emB
 rw [Bool.and_eq_true, Bool.and_eq_true, decide_eq_true_eq, decide_eq_true_eq, Bool.not_eq_true', decide_eq_false_iff_not]
 omega
theorem yh4 {a b c d : Int} (h : ckB a b c d = true) : ckE a b c d = 0 := by unfold ckE; rw [if_pos h]
theorem yh5 {a b c d : Int} (h : ckB a b c d = false) : ckE a b c d = 3 := by unfold ckE; rw [if_neg (by rw [h]; decide)]
def Four (w : World) (p : Nat) (a b c d : Int) : Prop :=
 p < w.heap.size ∧ w.cell? ⟨p, 0, none⟩ = some (.int .i64 a) ∧ w.cell? ⟨p, 1, none⟩ = some (.int .i64 b) ∧ w.cell? ⟨p, 2, none⟩ = some (.int .i64 c) ∧ w.cell? ⟨p, 3, none⟩ = some (.int .i64 d)
theorem Four.later {w w' : World} {p : Nat} {a b c d : Int} (h : Four w p a b c d) (hB : Below w.heap.size w w') : Four w' p a b c d := by
 obtain ⟨h0, h1, h2, h3, h4⟩ := h
 obtain ⟨hc, _⟩ := bcell hB
 have hz := hB.size
 exact ⟨by omega, by rw [hc _ _ h0]; exact h1, by rw [hc _ _ h0]; exact h2, by rw [hc _ _ h0]; exact h3, by rw [hc _ _ h0]; exact h4⟩
theorem Four.start (w : World) (a b c d : Int) (t : TypeId) : Four (w.alloc (.cells #[.int .i64 a, .int .i64 b, .int .i64 c, .int .i64 d] t)) w.heap.size a b c d :=
 ⟨by simp, by simp, by simp, by simp, by simp⟩
def Two' (w : World) (p : Nat) (a b : Int) : Prop := p < w.heap.size ∧ w.cell? ⟨p, 0, none⟩ = some (.int .i64 a) ∧ w.cell? ⟨p, 1, none⟩ = some (.int .i64 b)
theorem Two'.later {w w' : World} {p : Nat} {a b : Int} (h : Two' w p a b) (hB : Below w.heap.size w w') : Two' w' p a b := by
 obtain ⟨h0, h1, h2⟩ := h
 obtain ⟨hc, _⟩ := bcell hB
 have hz := hB.size
 exact ⟨by omega, by rw [hc _ _ h0]; exact h1, by rw [hc _ _ h0]; exact h2⟩
theorem Two'.start (w : World) (a b : Int) (t : TypeId) : Two' (w.alloc (.cells #[.int .i64 a, .int .i64 b] t)) w.heap.size a b := ⟨by simp, by simp, by simp⟩
theorem below_alloc (w : World) (o : Obj) : Below w.heap.size w (w.alloc o) := (Below.refl _ _).alloc (Nat.le_refl _) _
set_option maxHeartbeats 800000 in
theorem rcheck_any (a b c d : Int) (w : World) :
 Calls Tryz.prog 69 #[.agg #[.int .i64 a, .int .i64 b, .int .i64 c, .int .i64 d]] w fun e w' => e = .returned (.int .i64 (ckE a b c d)) ∧ Below w.heap.size w w' := by
 have HE : Hid (ckE a b c d = if okR a b = true then (if okR c d = true then (if emB a b c d = true then 3 else 0) else 3) else 3) := by
  unfold Hid ckE ckB
  cases okR a b <;> cases okR c d <;> cases emB a b c d <;> rfl
 go_enter Tryz.func69, Tryz.ntmps69
 go_wp2_with fail
 refine (zhi a b c d _).mono ?_
 rintro e w1 ⟨rfl, hB1⟩
 have F1 := Lib.hid ((Four.start w a b c d 23).later hB1)
 have B1 := Lib.hid (Below.next (below_alloc w _) hB1)
 have T1 := Lib.hid (Two'.start w1 a b 98)
 have T2 := Lib.hid (Two'.start (w1.alloc (.cells #[.int .i64 a, .int .i64 b] 98)) c d 98)
 have T1' := Lib.hid (T1.out.later (below_alloc _ (.cells #[.int .i64 c, .int .i64 d] 98)))
 have F1' := Lib.hid ((F1.out.later (below_alloc _ (.cells #[.int .i64 a, .int .i64 b] 98))).later (below_alloc _ (.cells #[.int .i64 c, .int .i64 d] 98)))
 have B1' := Lib.hid (Below.next (Below.next B1.out (below_alloc _ (.cells #[.int .i64 a, .int .i64 b] 98))) (below_alloc _ (.cells #[.int .i64 c, .int .i64 d] 98)))
 go_wp2_with fail
 refine (valid_any a b _).mono ?_
 rintro e w2 ⟨rfl, hB2⟩
 simp at T2
 have F2 := Lib.hid (F1'.out.later hB2)
 have T2' := Lib.hid (T2.out.later hB2)
 have B2 := Lib.hid (Below.next B1'.out hB2)
 obtain ⟨_, t1, t2⟩ := T2'.out
 obtain ⟨_, f1, f2, f3, f4⟩ := F2.out
 cases h1 : okR a b
 · have E : Hid (ckE a b c d = 3) := by unfold Hid; rw [HE.out, h1]; rfl
   clear h1
   go_wp2_with fail
   go_ret
   exact ⟨zxy E.out.symm, B2.out⟩
 · have H1 := Lib.hid h1
   clear h1
   go_wp2_with fail
   refine (valid_any c d _).mono ?_
   rintro e w3 ⟨rfl, hB3⟩
   have F3 := Lib.hid (F2.out.later hB3)
   have B3 := Lib.hid (Below.next B2.out hB3)
   obtain ⟨_, f1, f2, f3, f4⟩ := F3.out
   cases h2 : okR c d
   · have E : Hid (ckE a b c d = 3) := by unfold Hid; rw [HE.out, H1.out, h2]; rfl
     clear h2
     go_wp2_with fail
     go_ret
     exact ⟨zxy E.out.symm, B3.out⟩
   · have H2 := Lib.hid h2
     clear h2
     go_wp2_with fail
     refine (zsp a b c d _).mono ?_
     rintro e w4 ⟨rfl, hB4⟩
     have B4 := Lib.hid (Below.next B3.out hB4)
     cases h3 : emB a b c d
     · have E : Hid (ckE a b c d = 0) := by unfold Hid; rw [HE.out, H1.out, H2.out, h3]; rfl
       clear h3
       go_wp2_with fail
       go_ret
       exact ⟨zxy E.out.symm, B4.out⟩
     · have E : Hid (ckE a b c d = 3) := by unfold Hid; rw [HE.out, H1.out, H2.out, h3]; rfl
       clear h3
       go_wp2_with fail
       go_ret
       exact ⟨zxy E.out.symm, B4.out⟩
end Go.Proofs.YtelanmknimapoaaGreatDoor.Re
/- Contracts of rect.One, Has, check, Meet and Inside. -/
namespace Go.Proofs.YtelanmknimapoaaGreatDoor.Re
open Go.RowKit AM
/-! Ranges in memory -/
structure R4 where
 c1 : Int
 r1 : Int
 c2 : Int
 r2 : Int
def RRow (w : World) (b off : Nat) (l : List R4) : Prop :=
 b < w.heap.size ∧ ∀ k (h : k < l.length), w.cell? ⟨b, off + k * 4, none⟩ = some (.int .i64 l[k].c1) ∧ w.cell? ⟨b, off + k * 4 + 1, none⟩ = some (.int .i64 l[k].r1) ∧
  w.cell? ⟨b, off + k * 4 + 2, none⟩ = some (.int .i64 l[k].c2) ∧ w.cell? ⟨b, off + k * 4 + 3, none⟩ = some (.int .i64 l[k].r2)
theorem RRow.later {w w' : World} {b off : Nat} {l : List R4} (h : RRow w b off l) (hB : Below w.heap.size w w') : RRow w' b off l := by
 obtain ⟨h0, h1⟩ := h
 obtain ⟨hc, _⟩ := bcell hB
 have hz := hB.size
 refine ⟨by omega, fun k hk => ?_⟩
 rw [hc _ _ h0, hc _ _ h0, hc _ _ h0, hc _ _ h0]
 exact h1 k hk
end Go.Proofs.YtelanmknimapoaaGreatDoor.Re
