/- Check of operations: both sides return the same. -/
import Derived.Test.YtbblephlijbehaaGreatDoorOpP
import Derived.Test.YtbblephlijbehaaGreatDoorGlyphC
namespace Go.Proofs.YtbblephlijbehaaGreatDoor.Ot
open Go Go.RowKit
set_option linter.unusedVariables false
theorem retB {a b : Bool} (h : a = b) : Ending.returned (.bool a) = Ending.returned (.bool b) := by rw [h]
theorem data_len' (s : ByteArray) : s.data.toList.length = s.size := rfl
theorem acc_any (s : ByteArray) (hs : s.size ≤ maxLen) (w : World) : Calls Tryz.prog 82 #[.string s] w fun e w' => e = .returned (.bool (decide (s.size ≤ 256) && Gl.GM.plain s.data.toList)) ∧ Below w.heap.size w w' := by
  have HC := Lib.hid (Gl.check_any s hs)
  by_cases h : 256 < s.size
  · have HK := Lib.hid (Gl.chk_long (l := s.data.toList) (by rw [data_len']; exact h))
    have HD : Hid ((decide (s.size ≤ 256) && Gl.GM.plain s.data.toList) = false) := by unfold Hid; rw [decide_eq_false (by omega)]; rfl
    rw [HK.out] at HC
    go_enter Tryz.func82, Tryz.ntmps82
    go_wp2_with fail
    refine (HC.out _).mono ?_
    rintro e w' ⟨rfl, rfl⟩
    go_wp2_with fail
    go_ret
    exact ⟨retB HD.out.symm, Below.refl _ _⟩
  · have hD : decide (s.size ≤ 256) = true := decide_eq_true (by omega)
    cases hp : Gl.GM.plain s.data.toList
    · have HK := Lib.hid (Gl.chk_form (l := s.data.toList) (by rw [data_len']; exact h) hp)
      rw [HK.out] at HC
      clear hp
      go_enter Tryz.func82, Tryz.ntmps82
      go_wp2_with fail
      refine (HC.out _).mono ?_
      rintro e w' ⟨rfl, rfl⟩
      go_wp2_with fail
      go_ret
      exact ⟨retB (by simp), Below.refl _ _⟩
    · have HK := Lib.hid (Gl.chk_ok (l := s.data.toList) (by rw [data_len']; exact h) hp)
      rw [HK.out] at HC
      have HD := Lib.hid hD
      have hle : ((s.size : Int) ≤ 256) := by omega
      clear hp hD
      go_enter Tryz.func82, Tryz.ntmps82
      go_wp2_with fail
      refine (HC.out _).mono ?_
      rintro e w' ⟨rfl, rfl⟩
      go_wp2_with fail
      go_ret
      exact ⟨retB (by rw [HD.out]; simp), Below.refl _ _⟩
theorem pureB {f : FuncId} {a : Array Value} {v : Value} (h : ∀ W : World, Calls Tryz.prog f a W fun e w' => e = .returned v ∧ W = w') : ∀ W, Calls Tryz.prog f a W fun e w' => e = .returned v ∧ Below W.heap.size W w' :=
  fun W => (h W).mono fun e w' ⟨a, b⟩ => ⟨a, b ▸ Below.refl _ _⟩
/-- What Check returns. -/
def Some (a : Value) : Prop := ∃ r : Int, (r = 0 ∨ r = 4) ∧ (∀ W, Calls Tryz.prog 19 #[a] W fun e w' => e = .returned (.int .i64 r) ∧ Below W.heap.size W w')
theorem some0 {a : Value} (h1 : ∀ W, Calls Tryz.prog 19 #[a] W fun e w' => e = .returned (.int .i64 0) ∧ Below W.heap.size W w') : Some a := ⟨0, .inl rfl, h1⟩
theorem some4 {a : Value} (h1 : ∀ W, Calls Tryz.prog 19 #[a] W fun e w' => e = .returned (.int .i64 4) ∧ Below W.heap.size W w') : Some a := ⟨4, .inr rfl, h1⟩
theorem opsome (f : Nat) (us c1 r1 c2 r2 : Int) (inp : ByteArray) (rd wr ow fns tos idx : Int) (hs : inp.size ≤ maxLen) (hf0 : 0 ≤ fns) : Some (.agg #[.int .u8 (f : Int), .int .i64 us, .int .i64 c1, .int .i64 r1, .int .i64 c2, .int .i64 r2, .string inp, .int .u64 rd, .int .u64 wr, .int .u64 ow, .int .u8 fns, .int .u64 tos, .int .i64 idx]) := by
  rcases (show f = 0 ∨ f = 1 ∨ f = 2 ∨ f = 3 ∨ f = 4 ∨ f = 5 ∨ f = 6 ∨ f = 7 ∨ f = 8 ∨ f = 9 ∨ f = 10 ∨ 10 < f by omega) with rfl | rfl | rfl | rfl | rfl | rfl | rfl | rfl | rfl | rfl | rfl | hk
  · exact some4 fun W => k0_p us c1 r1 c2 r2 inp rd wr ow fns tos idx 0 W
  · by_cases hb : c1 = 0 ∧ r1 = 0 ∧ c2 = 0 ∧ r2 = 0 ∧ inp = ⟨#[]⟩ ∧ rd = 0 ∧ wr = 0 ∧ ow = 0 ∧ fns = 0 ∧ tos = 0 ∧ idx = 0
    rotate_left
    · exact some4 fun W => b1_p us c1 r1 c2 r2 inp rd wr ow fns tos idx 0 hb W
    obtain ⟨rfl, rfl, rfl, rfl, rfl, rfl, rfl, rfl, rfl, rfl, rfl⟩ := hb
    exact some0 fun W => g1_p us 0 0 0 0 ⟨#[]⟩ 0 0 0 0 0 0 0 W
  · by_cases hb : c1 = 0 ∧ r1 = 0 ∧ c2 = 0 ∧ r2 = 0 ∧ inp = ⟨#[]⟩ ∧ rd = 0 ∧ wr = 0 ∧ ow = 0 ∧ fns = 0 ∧ tos = 0 ∧ idx = 0
    rotate_left
    · exact some4 fun W => b2_p us c1 r1 c2 r2 inp rd wr ow fns tos idx 0 hb W
    obtain ⟨rfl, rfl, rfl, rfl, rfl, rfl, rfl, rfl, rfl, rfl, rfl⟩ := hb
    exact some0 fun W => g2_p us 0 0 0 0 ⟨#[]⟩ 0 0 0 0 0 0 0 W
  · by_cases hb : rd = 0 ∧ wr = 0 ∧ ow = 0 ∧ fns = 0 ∧ tos = 0 ∧ idx = 0
    rotate_left
    · exact some4 fun W => b3_p us c1 r1 c2 r2 inp rd wr ow fns tos idx 0 hb W
    obtain ⟨rfl, rfl, rfl, rfl, rfl, rfl⟩ := hb
    by_cases h1 : c1 = c2
    rotate_left
    · exact some4 fun W => g3_0_p us c1 r1 c2 r2 inp 0 0 0 0 0 0 0 h1 W
    by_cases h2 : r1 = r2
    rotate_left
    · exact some4 fun W => g3_1_p us c1 r1 c2 r2 inp 0 0 0 0 0 0 0 h1 h2 W
    have ha := acc_any inp hs
    by_cases hl : 256 < inp.size
    · rw [decide_eq_false (by omega), Bool.false_and] at ha
      exact some4 fun W => g3_2_1_p us c1 r1 c2 r2 inp 0 0 0 0 0 0 0 h1 h2 ha hl W
    rw [decide_eq_true (by omega), Bool.true_and] at ha
    cases hq : Gl.GM.plain inp.data.toList
    · rw [hq] at ha
      exact some4 fun W => g3_2_2_p us c1 r1 c2 r2 inp 0 0 0 0 0 0 0 h1 h2 ha hl W
    · rw [hq] at ha
      exact some0 fun W => g3_2_0_p us c1 r1 c2 r2 inp 0 0 0 0 0 0 0 h1 h2 ha hl W
  · by_cases hb : inp = ⟨#[]⟩ ∧ rd = 0 ∧ wr = 0 ∧ ow = 0 ∧ fns = 0 ∧ tos = 0 ∧ idx = 0
    rotate_left
    · exact some4 fun W => b4_p us c1 r1 c2 r2 inp rd wr ow fns tos idx 0 hb W
    obtain ⟨rfl, rfl, rfl, rfl, rfl, rfl, rfl⟩ := hb
    by_cases h1 : c1 = c2
    rotate_left
    · exact some0 fun W => g4_0_p us c1 r1 c2 r2 ⟨#[]⟩ 0 0 0 0 0 0 0 h1 W
    by_cases h2 : r1 = r2
    rotate_left
    · exact some0 fun W => g4_1_p us c1 r1 c2 r2 ⟨#[]⟩ 0 0 0 0 0 0 0 h1 h2 W
    exact some0 fun W => g4_2_p us c1 r1 c2 r2 ⟨#[]⟩ 0 0 0 0 0 0 0 h1 h2 W
  · by_cases hb : inp = ⟨#[]⟩ ∧ rd = 0 ∧ wr = 0 ∧ ow = 0 ∧ fns = 0 ∧ tos = 0 ∧ idx = 0
    rotate_left
    · exact some4 fun W => b5_p us c1 r1 c2 r2 inp rd wr ow fns tos idx 0 hb W
    obtain ⟨rfl, rfl, rfl, rfl, rfl, rfl, rfl⟩ := hb
    by_cases h1 : c1 = c2
    rotate_left
    · exact some0 fun W => g5_0_p us c1 r1 c2 r2 ⟨#[]⟩ 0 0 0 0 0 0 0 h1 W
    by_cases h2 : r1 = r2
    rotate_left
    · exact some0 fun W => g5_1_p us c1 r1 c2 r2 ⟨#[]⟩ 0 0 0 0 0 0 0 h1 h2 W
    exact some0 fun W => g5_2_p us c1 r1 c2 r2 ⟨#[]⟩ 0 0 0 0 0 0 0 h1 h2 W
  · by_cases hb : inp = ⟨#[]⟩ ∧ rd = 0 ∧ wr = 0 ∧ ow = 0 ∧ fns = 0 ∧ tos = 0 ∧ idx = 0
    rotate_left
    · exact some4 fun W => b6_p us c1 r1 c2 r2 inp rd wr ow fns tos idx 0 hb W
    obtain ⟨rfl, rfl, rfl, rfl, rfl, rfl, rfl⟩ := hb
    by_cases h1 : c1 = c2
    rotate_left
    · exact some4 fun W => g6_0_p us c1 r1 c2 r2 ⟨#[]⟩ 0 0 0 0 0 0 0 h1 W
    by_cases h2 : r1 = r2
    rotate_left
    · exact some4 fun W => g6_1_p us c1 r1 c2 r2 ⟨#[]⟩ 0 0 0 0 0 0 0 h1 h2 W
    exact some0 fun W => g6_2_p us c1 r1 c2 r2 ⟨#[]⟩ 0 0 0 0 0 0 0 h1 h2 W
  · by_cases hb : inp = ⟨#[]⟩ ∧ fns = 0 ∧ tos = 0 ∧ idx = 0
    rotate_left
    · exact some4 fun W => b7_p us c1 r1 c2 r2 inp rd wr ow fns tos idx 0 hb W
    obtain ⟨rfl, rfl, rfl, rfl⟩ := hb
    by_cases h1 : c1 = c2
    rotate_left
    · exact some0 fun W => g7_0_p us c1 r1 c2 r2 ⟨#[]⟩ rd wr ow 0 0 0 0 h1 W
    by_cases h2 : r1 = r2
    rotate_left
    · exact some0 fun W => g7_1_p us c1 r1 c2 r2 ⟨#[]⟩ rd wr ow 0 0 0 0 h1 h2 W
    exact some0 fun W => g7_2_p us c1 r1 c2 r2 ⟨#[]⟩ rd wr ow 0 0 0 0 h1 h2 W
  · by_cases hb : inp = ⟨#[]⟩ ∧ rd = 0 ∧ wr = 0 ∧ ow = 0 ∧ idx = 0
    rotate_left
    · exact some4 fun W => b8_p us c1 r1 c2 r2 inp rd wr ow fns tos idx 0 hb W
    obtain ⟨rfl, rfl, rfl, rfl, rfl⟩ := hb
    by_cases h1 : c1 = c2
    rotate_left
    · by_cases hf : fns = 0
      · exact some4 fun W => g8_0_0_p us c1 r1 c2 r2 ⟨#[]⟩ 0 0 0 fns tos 0 0 h1 hf W
      by_cases hg : 31 < fns
      · exact some4 fun W => g8_0_2_p us c1 r1 c2 r2 ⟨#[]⟩ 0 0 0 fns tos 0 0 h1 hg W
      exact some0 fun W => g8_0_1_p us c1 r1 c2 r2 ⟨#[]⟩ 0 0 0 fns tos 0 0 h1 (by omega) (by omega) W
    by_cases h2 : r1 = r2
    rotate_left
    · by_cases hf : fns = 0
      · exact some4 fun W => g8_1_0_p us c1 r1 c2 r2 ⟨#[]⟩ 0 0 0 fns tos 0 0 h1 h2 hf W
      by_cases hg : 31 < fns
      · exact some4 fun W => g8_1_2_p us c1 r1 c2 r2 ⟨#[]⟩ 0 0 0 fns tos 0 0 h1 h2 hg W
      exact some0 fun W => g8_1_1_p us c1 r1 c2 r2 ⟨#[]⟩ 0 0 0 fns tos 0 0 h1 h2 (by omega) (by omega) W
    by_cases hf : fns = 0
    · exact some4 fun W => g8_2_0_p us c1 r1 c2 r2 ⟨#[]⟩ 0 0 0 fns tos 0 0 h1 h2 hf W
    by_cases hg : 31 < fns
    · exact some4 fun W => g8_2_2_p us c1 r1 c2 r2 ⟨#[]⟩ 0 0 0 fns tos 0 0 h1 h2 hg W
    exact some0 fun W => g8_2_1_p us c1 r1 c2 r2 ⟨#[]⟩ 0 0 0 fns tos 0 0 h1 h2 (by omega) (by omega) W
  · by_cases hb : c1 = 0 ∧ r1 = 0 ∧ c2 = 0 ∧ r2 = 0 ∧ inp = ⟨#[]⟩ ∧ rd = 0 ∧ wr = 0 ∧ ow = 0 ∧ fns = 0 ∧ tos = 0
    rotate_left
    · exact some4 fun W => b9_p us c1 r1 c2 r2 inp rd wr ow fns tos idx 0 hb W
    obtain ⟨rfl, rfl, rfl, rfl, rfl, rfl, rfl, rfl, rfl, rfl⟩ := hb
    exact some0 fun W => g9_p us 0 0 0 0 ⟨#[]⟩ 0 0 0 0 0 idx 0 W
  · by_cases hb : c1 = 0 ∧ r1 = 0 ∧ c2 = 0 ∧ r2 = 0 ∧ inp = ⟨#[]⟩ ∧ rd = 0 ∧ wr = 0 ∧ ow = 0 ∧ fns = 0 ∧ tos = 0 ∧ idx = 0
    rotate_left
    · exact some4 fun W => b10_p us c1 r1 c2 r2 inp rd wr ow fns tos idx 0 hb W
    obtain ⟨rfl, rfl, rfl, rfl, rfl, rfl, rfl, rfl, rfl, rfl, rfl⟩ := hb
    exact some0 fun W => g10_p us 0 0 0 0 ⟨#[]⟩ 0 0 0 0 0 0 0 W
  · exact some4 fun W => kb_p us c1 r1 c2 r2 inp rd wr ow fns tos idx (f : Int) (by omega) W
end Go.Proofs.YtbblephlijbehaaGreatDoor.Ot
