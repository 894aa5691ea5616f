/- Contracts of the small functions of dec, and of the wide numbers of its specification: what each call returns. -/
import Derived.Test.YtdhahiodnmmkeaaGreatDoorProg
import Derived.Test.YtdhahiodnmmkeaaGreatDoorNumMath
import Derived.WalkKit
import Derived.WalkSpells
import Derived.WalkLawsBesides
import Derived.Lib.Hide
namespace Go.Proofs.YtdhahiodnmmkeaaGreatDoor
open Go.RowKit
set_option maxHeartbeats 400000 in
theorem zpp (a : Int) (x : Bool) (w : World) :
 Calls Tryz.prog 177 #[.int .i64 a, .bool x] w fun e w' => e = .returned (.tuple #[.int .i64 (irV a x), .bool (irB a x)]) ∧ w = w' := by
 cases x
 · rw [yh1, yh4]
   go_enter Tryz.func177, Tryz.ntmps177
   go_wp2
   go_ret2
   exact ⟨rfl, rfl⟩
 · cases h : (a == -9223372036854775808)
   · rw [yhz h, yh2 h]
     go_enter Tryz.func177, Tryz.ntmps177
     go_wp2
     go_ret2
     exact ⟨rfl, rfl⟩
   · rw [yh0 h, yh3 h]
     go_enter Tryz.func177, Tryz.ntmps177
     go_wp2
     go_ret2
     exact ⟨rfl, rfl⟩
set_option maxHeartbeats 400000 in
theorem yfg (a b : Int) (ha : InI a) (hb : InI b) (w : World) :
 Calls Tryz.prog 114 #[.int .i64 a, .int .i64 b] w fun e w' => e = .returned (.tuple #[.int .i64 (resV (a + b)), .bool (resB (a + b))]) ∧ w = w' := by
 have HO := Lib.hid (zzv ha hb)
 have ha' := Lib.hid ha
 have hb' := Lib.hid hb
 clear ha hb
 go_enter Tryz.func114, Tryz.ntmps114
 go_wp2_with fail
 rw [HO.out]
 refine (zpp _ _ _).mono ?_
 rintro e w' ⟨rfl, rfl⟩
 go_wp2
 go_ret2
 have h1 := ha'.out
 have h2 := hb'.out
 exact ⟨ydj (zw8 h1 h2).1 (zw8 h1 h2).2, rfl⟩
/-! The specification's wide numbers -/
set_option maxHeartbeats 400000 in
theorem zur (a : Int) (ha : InI a) (w : World) :
 Calls Tryz.prog 106 #[.int .i64 a] w fun e w' => e = .returned (.int .u64 (zeh a)) ∧ w = w' := by
 have ha' := Lib.hid ha
 unfold InI at ha
 obtain ⟨h1, h2⟩ := ha
 by_cases h : a < 0
 · go_enter Tryz.func106, Tryz.ntmps106
   go_wp2
   go_ret
   exact ⟨retI (by unfold zeh; rw [if_pos h]; omega), rfl⟩
 · go_enter Tryz.func106, Tryz.ntmps106
   go_wp2
   go_ret
   exact ⟨retI (by unfold zeh; rw [if_neg (by omega)]), rfl⟩
set_option maxHeartbeats 400000 in
theorem zbq (a b c d n m : Int) (x : IsW a b n) (y : IsW c d m) (hs : n + m < 340282366920938463463374607431768211456) (w : World) :
 Calls Tryz.prog 131 #[.agg #[.int .u64 a, .int .u64 b], .agg #[.int .u64 c, .int .u64 d]] w fun e w' =>
  ∃ h l, e = .returned (.agg #[.int .u64 h, .int .u64 l]) ∧ IsW h l (n + m) ∧ Below w.heap.size w w' := by
 have hs' := Lib.hid hs
 clear hs
 go_enter Tryz.func131, Tryz.ntmps131
 go_wp2
 · exact bodyPost_ret (v := .agg #[_, _]) (by simp [results, Tryz.results131, go_sem]) rfl ⟨_, _, rfl, x.plus1 y hs'.out (by assumption), (((Below.refl _ _).alloc (Nat.le_refl _) _).alloc (by simp) _).alloc (by simp; omega) _⟩
 · exact bodyPost_ret (v := .agg #[_, _]) (by simp [results, Tryz.results131, go_sem]) rfl ⟨_, _, rfl, x.plus2 y hs'.out (by assumption), (((Below.refl _ _).alloc (Nat.le_refl _) _).alloc (by simp) _).alloc (by simp; omega) _⟩
set_option maxHeartbeats 400000 in
theorem zbw (a b n : Int) (x : IsW a b n) (neg : Bool) (w : World) :
 Calls Tryz.prog 105 #[.agg #[.int .u64 a, .int .u64 b], .bool neg] w fun e w' =>
  e = .returned (.tuple #[.int .i64 (resV (sg n neg)), .bool (resB (sg n neg))]) ∧ Below w.heap.size w w' := by
 by_cases h : a = 0
 · subst h
   have hn := Lib.hid x.lowV
   have hb := x.2.1
   unfold InU at hb
   obtain ⟨hb1, hb2⟩ := hb
   by_cases h2 : b ≤ 9223372036854775807
   · cases neg
     · rw [ze5 (z := sg n false) (by have := hn.out; simp [sg]; omega), ze6 (z := sg n false) (by have := hn.out; simp [sg]; omega)]
       go_enter Tryz.func105, Tryz.ntmps105
       go_wp2
       go_ret2
       exact ⟨ydj (by have := hn.out; simp [sg]; omega) rfl, (Below.refl _ _).alloc (Nat.le_refl _) _⟩
     · rw [ze5 (z := sg n true) (by have := hn.out; simp [sg]; omega), ze6 (z := sg n true) (by have := hn.out; simp [sg]; omega)]
       go_enter Tryz.func105, Tryz.ntmps105
       go_wp2
       go_ret2
       exact ⟨ydj (by have := hn.out; simp [sg]; omega) rfl, (Below.refl _ _).alloc (Nat.le_refl _) _⟩
   · rw [zz7 (z := sg n neg) (by have := hn.out; cases neg <;> simp [sg] <;> omega), ze7 (z := sg n neg) (by have := hn.out; cases neg <;> simp [sg] <;> omega)]
     go_enter Tryz.func105, Tryz.ntmps105
     go_wp2
     go_ret2
     exact ⟨rfl, (Below.refl _ _).alloc (Nat.le_refl _) _⟩
 · have hn := x.big h
   rw [zz7 (z := sg n neg) (by cases neg <;> simp [sg] <;> omega), ze7 (z := sg n neg) (by cases neg <;> simp [sg] <;> omega)]
   have h3 : (a != 0) = true := by simp [h]
   clear hn x
   go_enter Tryz.func105, Tryz.ntmps105
   go_wp2
   go_ret2
   exact ⟨rfl, (Below.refl _ _).alloc (Nat.le_refl _) _⟩
end Go.Proofs.YtdhahiodnmmkeaaGreatDoor
