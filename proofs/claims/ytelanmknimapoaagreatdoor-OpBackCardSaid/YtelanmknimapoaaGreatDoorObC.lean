/- Check of operations, both sides: when it is OK. -/
import Derived.Test.YtelanmknimapoaaGreatDoorOpX
import Derived.Test.YtelanmknimapoaaGreatDoorObJ
import Derived.Test.YtelanmknimapoaaGreatDoorMgh
namespace Go.Proofs.YtelanmknimapoaaGreatDoor.Ot
open Go Go.RowKit
set_option linter.unusedVariables false
theorem retB {a b : Bool} (h : a = b) : Ending.returned (.bool a) = Ending.returned (.bool b) := by rw [h]
theorem data_len' (s : ByteArray) : s.data.toList.length = s.size := rfl
theorem yeo (s : ByteArray) (hs : s.size ≤ maxLen) (w : World) : Calls Tryz.prog 56 #[.string s] w fun e w' => e = .returned (.bool (decide (s.size ≤ 256) && Gl.GM.plain s.data.toList)) ∧ Below w.heap.size w w' := by
 have HC := Lib.hid (Gl.check_any s hs)
 by_cases h : 256 < s.size
 · have HK := Lib.hid (Gl.chk_long (l := s.data.toList) (by rw [data_len']; exact h))
   have HD : Hid ((decide (s.size ≤ 256) && Gl.GM.plain s.data.toList) = false) := by unfold Hid; rw [decide_eq_false (by omega)]; rfl
   rw [HK.out] at HC
   go_enter Tryz.func56, Tryz.ntmps56
   go_wp2_with fail
   refine (HC.out _).mono ?_
   rintro e w' ⟨rfl, rfl⟩
   go_wp2_with fail
   go_ret
   exact ⟨retB HD.out.symm, Below.refl _ _⟩
 · have hD : decide (s.size ≤ 256) = true := decide_eq_true (by omega)
   cases hp : Gl.GM.plain s.data.toList
   · have HK := Lib.hid (Gl.chk_form (l := s.data.toList) (by rw [data_len']; exact h) hp)
     rw [HK.out] at HC
     clear hp
     go_enter Tryz.func56, Tryz.ntmps56
     go_wp2_with fail
     refine (HC.out _).mono ?_
     rintro e w' ⟨rfl, rfl⟩
     go_wp2_with fail
     go_ret
     exact ⟨retB (by simp), Below.refl _ _⟩
   · have HK := Lib.hid (Gl.chk_ok (l := s.data.toList) (by rw [data_len']; exact h) hp)
     rw [HK.out] at HC
     have HD := Lib.hid hD
     have hle : ((s.size : Int) ≤ 256) := by omega
     clear hp hD
     go_enter Tryz.func56, Tryz.ntmps56
     go_wp2_with fail
     refine (HC.out _).mono ?_
     rintro e w' ⟨rfl, rfl⟩
     go_wp2_with fail
     go_ret
     exact ⟨retB (by rw [HD.out]; simp), Below.refl _ _⟩
theorem yhr {f : FuncId} {a : Array Value} {v : Value} (h : ∀ W : World, Calls Tryz.prog f a W fun e w' => e = .returned v ∧ W = w') : ∀ W, Calls Tryz.prog f a W fun e w' => e = .returned v ∧ Below W.heap.size W w' :=
 fun W => (h W).mono fun e w' ⟨a, b⟩ => ⟨a, b ▸ Below.refl _ _⟩
theorem zko {p : Prop} [Decidable p] {q : Bool} (h : ¬ p) : (decide p && q) = false := by rw [decide_eq_false h]; rfl
theorem zby {p : Prop} [Decidable p] {q b : Bool} (h : p) (k : q = b) : (decide p && q) = b := by rw [decide_eq_true h, k]; rfl
def okB (f : Nat) (c1 r1 c2 r2 : Int) (inp : ByteArray) (rd wr ow fns tos idx : Int) : Bool := match f with
 | 1 => decide (c1 = 0 ∧ r1 = 0 ∧ c2 = 0 ∧ r2 = 0 ∧ inp = ⟨#[]⟩ ∧ rd = 0 ∧ wr = 0 ∧ ow = 0 ∧ fns = 0 ∧ tos = 0 ∧ idx = 0)
 | 2 => decide (c1 = 0 ∧ r1 = 0 ∧ c2 = 0 ∧ r2 = 0 ∧ inp = ⟨#[]⟩ ∧ rd = 0 ∧ wr = 0 ∧ ow = 0 ∧ fns = 0 ∧ tos = 0 ∧ idx = 0)
 | 3 => decide (rd = 0 ∧ wr = 0 ∧ ow = 0 ∧ fns = 0 ∧ tos = 0 ∧ idx = 0) && (decide (c1 = c2) && (decide (r1 = r2) && (decide (inp.size ≤ 256) && Gl.GM.plain inp.data.toList)))
 | 4 => decide (inp = ⟨#[]⟩ ∧ rd = 0 ∧ wr = 0 ∧ ow = 0 ∧ fns = 0 ∧ tos = 0 ∧ idx = 0)
 | 5 => decide (inp = ⟨#[]⟩ ∧ rd = 0 ∧ wr = 0 ∧ ow = 0 ∧ fns = 0 ∧ tos = 0 ∧ idx = 0)
 | 6 => decide (inp = ⟨#[]⟩ ∧ rd = 0 ∧ wr = 0 ∧ ow = 0 ∧ fns = 0 ∧ tos = 0 ∧ idx = 0) && (decide (c1 = c2) && decide (r1 = r2))
 | 7 => decide (inp = ⟨#[]⟩ ∧ fns = 0 ∧ tos = 0 ∧ idx = 0)
 | 8 => decide (inp = ⟨#[]⟩ ∧ rd = 0 ∧ wr = 0 ∧ ow = 0 ∧ idx = 0) && (decide (1 ≤ fns) && decide (fns ≤ 31))
 | 9 => decide (c1 = 0 ∧ r1 = 0 ∧ c2 = 0 ∧ r2 = 0 ∧ inp = ⟨#[]⟩ ∧ rd = 0 ∧ wr = 0 ∧ ow = 0 ∧ fns = 0 ∧ tos = 0)
 | 10 => decide (c1 = 0 ∧ r1 = 0 ∧ c2 = 0 ∧ r2 = 0 ∧ inp = ⟨#[]⟩ ∧ rd = 0 ∧ wr = 0 ∧ ow = 0 ∧ fns = 0 ∧ tos = 0 ∧ idx = 0)
 | _ => false
theorem ygg (c1 r1 c2 r2 : Int) (inp : ByteArray) (rd wr ow fns tos idx : Int) : okB 1 c1 r1 c2 r2 inp rd wr ow fns tos idx = (decide (c1 = 0 ∧ r1 = 0 ∧ c2 = 0 ∧ r2 = 0 ∧ inp = ⟨#[]⟩ ∧ rd = 0 ∧ wr = 0 ∧ ow = 0 ∧ fns = 0 ∧ tos = 0 ∧ idx = 0)) := rfl
theorem ygf (c1 r1 c2 r2 : Int) (inp : ByteArray) (rd wr ow fns tos idx : Int) : okB 2 c1 r1 c2 r2 inp rd wr ow fns tos idx = (decide (c1 = 0 ∧ r1 = 0 ∧ c2 = 0 ∧ r2 = 0 ∧ inp = ⟨#[]⟩ ∧ rd = 0 ∧ wr = 0 ∧ ow = 0 ∧ fns = 0 ∧ tos = 0 ∧ idx = 0)) := rfl
theorem okB_3 (c1 r1 c2 r2 : Int) (inp : ByteArray) (rd wr ow fns tos idx : Int) : okB 3 c1 r1 c2 r2 inp rd wr ow fns tos idx = (decide (rd = 0 ∧ wr = 0 ∧ ow = 0 ∧ fns = 0 ∧ tos = 0 ∧ idx = 0) && (decide (c1 = c2) && (decide (r1 = r2) && (decide (inp.size ≤ 256) && Gl.GM.plain inp.data.toList)))) := rfl
theorem zy0 (c1 r1 c2 r2 : Int) (inp : ByteArray) (rd wr ow fns tos idx : Int) : okB 4 c1 r1 c2 r2 inp rd wr ow fns tos idx = (decide (inp = ⟨#[]⟩ ∧ rd = 0 ∧ wr = 0 ∧ ow = 0 ∧ fns = 0 ∧ tos = 0 ∧ idx = 0)) := rfl
theorem zyz (c1 r1 c2 r2 : Int) (inp : ByteArray) (rd wr ow fns tos idx : Int) : okB 5 c1 r1 c2 r2 inp rd wr ow fns tos idx = (decide (inp = ⟨#[]⟩ ∧ rd = 0 ∧ wr = 0 ∧ ow = 0 ∧ fns = 0 ∧ tos = 0 ∧ idx = 0)) := rfl
theorem zyy (c1 r1 c2 r2 : Int) (inp : ByteArray) (rd wr ow fns tos idx : Int) : okB 6 c1 r1 c2 r2 inp rd wr ow fns tos idx = (decide (inp = ⟨#[]⟩ ∧ rd = 0 ∧ wr = 0 ∧ ow = 0 ∧ fns = 0 ∧ tos = 0 ∧ idx = 0) && (decide (c1 = c2) && decide (r1 = r2))) := rfl
theorem zyx (c1 r1 c2 r2 : Int) (inp : ByteArray) (rd wr ow fns tos idx : Int) : okB 7 c1 r1 c2 r2 inp rd wr ow fns tos idx = (decide (inp = ⟨#[]⟩ ∧ fns = 0 ∧ tos = 0 ∧ idx = 0)) := rfl
theorem zkh (c1 r1 c2 r2 : Int) (inp : ByteArray) (rd wr ow fns tos idx : Int) : okB 8 c1 r1 c2 r2 inp rd wr ow fns tos idx = (decide (inp = ⟨#[]⟩ ∧ rd = 0 ∧ wr = 0 ∧ ow = 0 ∧ idx = 0) && (decide (1 ≤ fns) && decide (fns ≤ 31))) := rfl
theorem yge (c1 r1 c2 r2 : Int) (inp : ByteArray) (rd wr ow fns tos idx : Int) : okB 9 c1 r1 c2 r2 inp rd wr ow fns tos idx = (decide (c1 = 0 ∧ r1 = 0 ∧ c2 = 0 ∧ r2 = 0 ∧ inp = ⟨#[]⟩ ∧ rd = 0 ∧ wr = 0 ∧ ow = 0 ∧ fns = 0 ∧ tos = 0)) := rfl
theorem ya9 (c1 r1 c2 r2 : Int) (inp : ByteArray) (rd wr ow fns tos idx : Int) : okB 10 c1 r1 c2 r2 inp rd wr ow fns tos idx = (decide (c1 = 0 ∧ r1 = 0 ∧ c2 = 0 ∧ r2 = 0 ∧ inp = ⟨#[]⟩ ∧ rd = 0 ∧ wr = 0 ∧ ow = 0 ∧ fns = 0 ∧ tos = 0 ∧ idx = 0)) := rfl
def ChkP (b : Bool) (a : Value) : Prop := ∀ W, Calls Tryz.prog 11 #[a] W fun e w' => e = .returned (.int .i64 (if b then 0 else 4)) ∧ Below W.heap.size W w'
theorem zd9 {b : Bool} {a : Value} (hb : b = true) (h1 : ∀ W, Calls Tryz.prog 11 #[a] W fun e w' => e = .returned (.int .i64 0) ∧ Below W.heap.size W w') : ChkP b a := by subst hb; exact h1
theorem zct {b : Bool} {a : Value} (hb : b = false) (h1 : ∀ W, Calls Tryz.prog 11 #[a] W fun e w' => e = .returned (.int .i64 4) ∧ Below W.heap.size W w') : ChkP b a := by subst hb; exact h1
theorem yc6 (f : Nat) (us c1 r1 c2 r2 : Int) (inp : ByteArray) (rd wr ow fns tos idx : Int) (hs : inp.size ≤ maxLen) (hf0 : 0 ≤ fns) : ChkP (okB f c1 r1 c2 r2 inp rd wr ow fns tos idx) (.agg #[.int .u8 (f : Int), .int .i64 us, .int .i64 c1, .int .i64 r1, .int .i64 c2, .int .i64 r2, .string inp, .int .u64 rd, .int .u64 wr, .int .u64 ow, .int .u8 fns, .int .u64 tos, .int .i64 idx]) := by
 rcases (show f = 0 ∨ f = 1 ∨ f = 2 ∨ f = 3 ∨ f = 4 ∨ f = 5 ∨ f = 6 ∨ f = 7 ∨ f = 8 ∨ f = 9 ∨ f = 10 ∨ 10 < f by omega) with rfl | rfl | rfl | rfl | rfl | rfl | rfl | rfl | rfl | rfl | rfl | hk
 · exact zct (rfl) (fun W => k0_p us c1 r1 c2 r2 inp rd wr ow fns tos idx 0 W)
 · by_cases hb : c1 = 0 ∧ r1 = 0 ∧ c2 = 0 ∧ r2 = 0 ∧ inp = ⟨#[]⟩ ∧ rd = 0 ∧ wr = 0 ∧ ow = 0 ∧ fns = 0 ∧ tos = 0 ∧ idx = 0
   rotate_left
   · exact zct ((ygg _ _ _ _ _ _ _ _ _ _ _).trans (decide_eq_false hb)) (fun W => b1_p us c1 r1 c2 r2 inp rd wr ow fns tos idx 0 hb W)
   obtain ⟨rfl, rfl, rfl, rfl, rfl, rfl, rfl, rfl, rfl, rfl, rfl⟩ := hb
   exact zd9 ((ygg _ _ _ _ _ _ _ _ _ _ _).trans (decide_eq_true ⟨rfl, rfl, rfl, rfl, rfl, rfl, rfl, rfl, rfl, rfl, rfl⟩)) (fun W => g1_p us 0 0 0 0 ⟨#[]⟩ 0 0 0 0 0 0 0 W)
 · by_cases hb : c1 = 0 ∧ r1 = 0 ∧ c2 = 0 ∧ r2 = 0 ∧ inp = ⟨#[]⟩ ∧ rd = 0 ∧ wr = 0 ∧ ow = 0 ∧ fns = 0 ∧ tos = 0 ∧ idx = 0
   rotate_left
   · exact zct ((ygf _ _ _ _ _ _ _ _ _ _ _).trans (decide_eq_false hb)) (fun W => b2_p us c1 r1 c2 r2 inp rd wr ow fns tos idx 0 hb W)
   obtain ⟨rfl, rfl, rfl, rfl, rfl, rfl, rfl, rfl, rfl, rfl, rfl⟩ := hb
   exact zd9 ((ygf _ _ _ _ _ _ _ _ _ _ _).trans (decide_eq_true ⟨rfl, rfl, rfl, rfl, rfl, rfl, rfl, rfl, rfl, rfl, rfl⟩)) (fun W => g2_p us 0 0 0 0 ⟨#[]⟩ 0 0 0 0 0 0 0 W)
 · by_cases hb : rd = 0 ∧ wr = 0 ∧ ow = 0 ∧ fns = 0 ∧ tos = 0 ∧ idx = 0
   rotate_left
   · exact zct ((okB_3 _ _ _ _ _ _ _ _ _ _ _).trans (zko hb)) (fun W => b3_p us c1 r1 c2 r2 inp rd wr ow fns tos idx 0 hb W)
   obtain ⟨rfl, rfl, rfl, rfl, rfl, rfl⟩ := hb
   by_cases h1 : c1 = c2
   rotate_left
   · exact zct ((okB_3 _ _ _ _ _ _ _ _ _ _ _).trans (zby ⟨rfl, rfl, rfl, rfl, rfl, rfl⟩ (zko h1))) (fun W => yg1 us c1 r1 c2 r2 inp 0 0 0 0 0 0 0 h1 W)
   by_cases h2 : r1 = r2
   rotate_left
   · exact zct ((okB_3 _ _ _ _ _ _ _ _ _ _ _).trans (zby ⟨rfl, rfl, rfl, rfl, rfl, rfl⟩ (zby h1 (zko h2)))) (fun W => yg0 us c1 r1 c2 r2 inp 0 0 0 0 0 0 0 h1 h2 W)
   have ha := yeo inp hs
   have hp := yhr (Gl.rplain_any inp hs)
   by_cases hl : 256 < inp.size
   · rw [decide_eq_false (by omega), Bool.false_and] at ha
     exact zct ((okB_3 _ _ _ _ _ _ _ _ _ _ _).trans (zby ⟨rfl, rfl, rfl, rfl, rfl, rfl⟩ (zby h1 (zby h2 (zko (by omega)))))) (fun W => zzt us c1 r1 c2 r2 inp 0 0 0 0 0 0 0 h1 h2 ha hl W)
   rw [decide_eq_true (by omega), Bool.true_and] at ha
   cases hq : Gl.GM.plain inp.data.toList
   · rw [hq] at ha hp
     exact zct ((okB_3 _ _ _ _ _ _ _ _ _ _ _).trans (zby ⟨rfl, rfl, rfl, rfl, rfl, rfl⟩ (zby h1 (zby h2 (zby (by omega) hq))))) (fun W => zzs us c1 r1 c2 r2 inp 0 0 0 0 0 0 0 h1 h2 ha hl hp W)
   · rw [hq] at ha hp
     exact zd9 ((okB_3 _ _ _ _ _ _ _ _ _ _ _).trans (zby ⟨rfl, rfl, rfl, rfl, rfl, rfl⟩ (zby h1 (zby h2 (zby (by omega) hq))))) (fun W => zzu us c1 r1 c2 r2 inp 0 0 0 0 0 0 0 h1 h2 ha hl hp W)
 · by_cases hb : inp = ⟨#[]⟩ ∧ rd = 0 ∧ wr = 0 ∧ ow = 0 ∧ fns = 0 ∧ tos = 0 ∧ idx = 0
   rotate_left
   · exact zct ((zy0 _ _ _ _ _ _ _ _ _ _ _).trans (decide_eq_false hb)) (fun W => b4_p us c1 r1 c2 r2 inp rd wr ow fns tos idx 0 hb W)
   obtain ⟨rfl, rfl, rfl, rfl, rfl, rfl, rfl⟩ := hb
   by_cases h1 : c1 = c2
   rotate_left
   · exact zd9 ((zy0 _ _ _ _ _ _ _ _ _ _ _).trans (decide_eq_true ⟨rfl, rfl, rfl, rfl, rfl, rfl, rfl⟩)) (fun W => ygz us c1 r1 c2 r2 ⟨#[]⟩ 0 0 0 0 0 0 0 h1 W)
   by_cases h2 : r1 = r2
   rotate_left
   · exact zd9 ((zy0 _ _ _ _ _ _ _ _ _ _ _).trans (decide_eq_true ⟨rfl, rfl, rfl, rfl, rfl, rfl, rfl⟩)) (fun W => ygy us c1 r1 c2 r2 ⟨#[]⟩ 0 0 0 0 0 0 0 h1 h2 W)
   exact zd9 ((zy0 _ _ _ _ _ _ _ _ _ _ _).trans (decide_eq_true ⟨rfl, rfl, rfl, rfl, rfl, rfl, rfl⟩)) (fun W => ygx us c1 r1 c2 r2 ⟨#[]⟩ 0 0 0 0 0 0 0 h1 h2 W)
 · by_cases hb : inp = ⟨#[]⟩ ∧ rd = 0 ∧ wr = 0 ∧ ow = 0 ∧ fns = 0 ∧ tos = 0 ∧ idx = 0
   rotate_left
   · exact zct ((zyz _ _ _ _ _ _ _ _ _ _ _).trans (decide_eq_false hb)) (fun W => b5_p us c1 r1 c2 r2 inp rd wr ow fns tos idx 0 hb W)
   obtain ⟨rfl, rfl, rfl, rfl, rfl, rfl, rfl⟩ := hb
   by_cases h1 : c1 = c2
   rotate_left
   · exact zd9 ((zyz _ _ _ _ _ _ _ _ _ _ _).trans (decide_eq_true ⟨rfl, rfl, rfl, rfl, rfl, rfl, rfl⟩)) (fun W => ygw us c1 r1 c2 r2 ⟨#[]⟩ 0 0 0 0 0 0 0 h1 W)
   by_cases h2 : r1 = r2
   rotate_left
   · exact zd9 ((zyz _ _ _ _ _ _ _ _ _ _ _).trans (decide_eq_true ⟨rfl, rfl, rfl, rfl, rfl, rfl, rfl⟩)) (fun W => ygv us c1 r1 c2 r2 ⟨#[]⟩ 0 0 0 0 0 0 0 h1 h2 W)
   exact zd9 ((zyz _ _ _ _ _ _ _ _ _ _ _).trans (decide_eq_true ⟨rfl, rfl, rfl, rfl, rfl, rfl, rfl⟩)) (fun W => ygu us c1 r1 c2 r2 ⟨#[]⟩ 0 0 0 0 0 0 0 h1 h2 W)
 · by_cases hb : inp = ⟨#[]⟩ ∧ rd = 0 ∧ wr = 0 ∧ ow = 0 ∧ fns = 0 ∧ tos = 0 ∧ idx = 0
   rotate_left
   · exact zct ((zyy _ _ _ _ _ _ _ _ _ _ _).trans (zko hb)) (fun W => b6_p us c1 r1 c2 r2 inp rd wr ow fns tos idx 0 hb W)
   obtain ⟨rfl, rfl, rfl, rfl, rfl, rfl, rfl⟩ := hb
   by_cases h1 : c1 = c2
   rotate_left
   · exact zct ((zyy _ _ _ _ _ _ _ _ _ _ _).trans (zby ⟨rfl, rfl, rfl, rfl, rfl, rfl, rfl⟩ (zko h1))) (fun W => ygt us c1 r1 c2 r2 ⟨#[]⟩ 0 0 0 0 0 0 0 h1 W)
   by_cases h2 : r1 = r2
   rotate_left
   · exact zct ((zyy _ _ _ _ _ _ _ _ _ _ _).trans (zby ⟨rfl, rfl, rfl, rfl, rfl, rfl, rfl⟩ (zby h1 (decide_eq_false h2)))) (fun W => ygs us c1 r1 c2 r2 ⟨#[]⟩ 0 0 0 0 0 0 0 h1 h2 W)
   exact zd9 ((zyy _ _ _ _ _ _ _ _ _ _ _).trans (zby ⟨rfl, rfl, rfl, rfl, rfl, rfl, rfl⟩ (zby h1 (decide_eq_true h2)))) (fun W => ygr us c1 r1 c2 r2 ⟨#[]⟩ 0 0 0 0 0 0 0 h1 h2 W)
 · by_cases hb : inp = ⟨#[]⟩ ∧ fns = 0 ∧ tos = 0 ∧ idx = 0
   rotate_left
   · exact zct ((zyx _ _ _ _ _ _ _ _ _ _ _).trans (decide_eq_false hb)) (fun W => b7_p us c1 r1 c2 r2 inp rd wr ow fns tos idx 0 hb W)
   obtain ⟨rfl, rfl, rfl, rfl⟩ := hb
   by_cases h1 : c1 = c2
   rotate_left
   · exact zd9 ((zyx _ _ _ _ _ _ _ _ _ _ _).trans (decide_eq_true ⟨rfl, rfl, rfl, rfl⟩)) (fun W => ygq us c1 r1 c2 r2 ⟨#[]⟩ rd wr ow 0 0 0 0 h1 W)
   by_cases h2 : r1 = r2
   rotate_left
   · exact zd9 ((zyx _ _ _ _ _ _ _ _ _ _ _).trans (decide_eq_true ⟨rfl, rfl, rfl, rfl⟩)) (fun W => ygp us c1 r1 c2 r2 ⟨#[]⟩ rd wr ow 0 0 0 0 h1 h2 W)
   exact zd9 ((zyx _ _ _ _ _ _ _ _ _ _ _).trans (decide_eq_true ⟨rfl, rfl, rfl, rfl⟩)) (fun W => ygo us c1 r1 c2 r2 ⟨#[]⟩ rd wr ow 0 0 0 0 h1 h2 W)
 · by_cases hb : inp = ⟨#[]⟩ ∧ rd = 0 ∧ wr = 0 ∧ ow = 0 ∧ idx = 0
   rotate_left
   · exact zct ((zkh _ _ _ _ _ _ _ _ _ _ _).trans (zko hb)) (fun W => b8_p us c1 r1 c2 r2 inp rd wr ow fns tos idx 0 hb W)
   obtain ⟨rfl, rfl, rfl, rfl, rfl⟩ := hb
   by_cases h1 : c1 = c2
   rotate_left
   · by_cases hf : fns = 0
     · exact zct ((zkh _ _ _ _ _ _ _ _ _ _ _).trans (zby ⟨rfl, rfl, rfl, rfl, rfl⟩ (zko (by omega)))) (fun W => zzr us c1 r1 c2 r2 ⟨#[]⟩ 0 0 0 fns tos 0 0 h1 hf W)
     by_cases hg : 31 < fns
     · exact zct ((zkh _ _ _ _ _ _ _ _ _ _ _).trans (zby ⟨rfl, rfl, rfl, rfl, rfl⟩ (zby (by omega) (decide_eq_false (by omega))))) (fun W => zzp us c1 r1 c2 r2 ⟨#[]⟩ 0 0 0 fns tos 0 0 h1 hg W)
     exact zd9 ((zkh _ _ _ _ _ _ _ _ _ _ _).trans (zby ⟨rfl, rfl, rfl, rfl, rfl⟩ (zby (by omega) (decide_eq_true (by omega))))) (fun W => zzq us c1 r1 c2 r2 ⟨#[]⟩ 0 0 0 fns tos 0 0 h1 (by omega) (by omega) W)
   by_cases h2 : r1 = r2
   rotate_left
   · by_cases hf : fns = 0
     · exact zct ((zkh _ _ _ _ _ _ _ _ _ _ _).trans (zby ⟨rfl, rfl, rfl, rfl, rfl⟩ (zko (by omega)))) (fun W => zzo us c1 r1 c2 r2 ⟨#[]⟩ 0 0 0 fns tos 0 0 h1 h2 hf W)
     by_cases hg : 31 < fns
     · exact zct ((zkh _ _ _ _ _ _ _ _ _ _ _).trans (zby ⟨rfl, rfl, rfl, rfl, rfl⟩ (zby (by omega) (decide_eq_false (by omega))))) (fun W => zzm us c1 r1 c2 r2 ⟨#[]⟩ 0 0 0 fns tos 0 0 h1 h2 hg W)
     exact zd9 ((zkh _ _ _ _ _ _ _ _ _ _ _).trans (zby ⟨rfl, rfl, rfl, rfl, rfl⟩ (zby (by omega) (decide_eq_true (by omega))))) (fun W => zzn us c1 r1 c2 r2 ⟨#[]⟩ 0 0 0 fns tos 0 0 h1 h2 (by omega) (by omega) W)
   by_cases hf : fns = 0
   · exact zct ((zkh _ _ _ _ _ _ _ _ _ _ _).trans (zby ⟨rfl, rfl, rfl, rfl, rfl⟩ (zko (by omega)))) (fun W => zzl us c1 r1 c2 r2 ⟨#[]⟩ 0 0 0 fns tos 0 0 h1 h2 hf W)
   by_cases hg : 31 < fns
   · exact zct ((zkh _ _ _ _ _ _ _ _ _ _ _).trans (zby ⟨rfl, rfl, rfl, rfl, rfl⟩ (zby (by omega) (decide_eq_false (by omega))))) (fun W => zzj us c1 r1 c2 r2 ⟨#[]⟩ 0 0 0 fns tos 0 0 h1 h2 hg W)
   exact zd9 ((zkh _ _ _ _ _ _ _ _ _ _ _).trans (zby ⟨rfl, rfl, rfl, rfl, rfl⟩ (zby (by omega) (decide_eq_true (by omega))))) (fun W => zzk us c1 r1 c2 r2 ⟨#[]⟩ 0 0 0 fns tos 0 0 h1 h2 (by omega) (by omega) W)
 · by_cases hb : c1 = 0 ∧ r1 = 0 ∧ c2 = 0 ∧ r2 = 0 ∧ inp = ⟨#[]⟩ ∧ rd = 0 ∧ wr = 0 ∧ ow = 0 ∧ fns = 0 ∧ tos = 0
   rotate_left
   · exact zct ((yge _ _ _ _ _ _ _ _ _ _ _).trans (decide_eq_false hb)) (fun W => b9_p us c1 r1 c2 r2 inp rd wr ow fns tos idx 0 hb W)
   obtain ⟨rfl, rfl, rfl, rfl, rfl, rfl, rfl, rfl, rfl, rfl⟩ := hb
   exact zd9 ((yge _ _ _ _ _ _ _ _ _ _ _).trans (decide_eq_true ⟨rfl, rfl, rfl, rfl, rfl, rfl, rfl, rfl, rfl, rfl⟩)) (fun W => g9_p us 0 0 0 0 ⟨#[]⟩ 0 0 0 0 0 idx 0 W)
 · by_cases hb : c1 = 0 ∧ r1 = 0 ∧ c2 = 0 ∧ r2 = 0 ∧ inp = ⟨#[]⟩ ∧ rd = 0 ∧ wr = 0 ∧ ow = 0 ∧ fns = 0 ∧ tos = 0 ∧ idx = 0
   rotate_left
   · exact zct ((ya9 _ _ _ _ _ _ _ _ _ _ _).trans (decide_eq_false hb)) (fun W => yh7 us c1 r1 c2 r2 inp rd wr ow fns tos idx 0 hb W)
   obtain ⟨rfl, rfl, rfl, rfl, rfl, rfl, rfl, rfl, rfl, rfl, rfl⟩ := hb
   exact zd9 ((ya9 _ _ _ _ _ _ _ _ _ _ _).trans (decide_eq_true ⟨rfl, rfl, rfl, rfl, rfl, rfl, rfl, rfl, rfl, rfl, rfl⟩)) (fun W => yhy us 0 0 0 0 ⟨#[]⟩ 0 0 0 0 0 0 0 W)
 · have e : okB f c1 r1 c2 r2 inp rd wr ow fns tos idx = false := by
    unfold okB; split <;> first | omega | rfl
   exact zct (e) (fun W => kb_p us c1 r1 c2 r2 inp rd wr ow fns tos idx (f : Int) (by omega) W)
def okO (g : Re.OV) : Bool := okB g.kd g.c1 g.r1 g.c2 g.r2 g.inp g.rd.toNat g.wr.toNat g.ow.toNat g.fns g.tos.toNat g.idx
theorem opchkP (g : Re.OV) (hs : g.inp.size ≤ maxLen) : ChkP (okO g) (.agg (Re.cellsOV g).toArray) :=
 yc6 g.kd g.us g.c1 g.r1 g.c2 g.r2 g.inp g.rd.toNat g.wr.toNat g.ow.toNat g.fns g.tos.toNat g.idx hs (Int.natCast_nonneg _)
end Go.Proofs.YtelanmknimapoaaGreatDoor.Ot
