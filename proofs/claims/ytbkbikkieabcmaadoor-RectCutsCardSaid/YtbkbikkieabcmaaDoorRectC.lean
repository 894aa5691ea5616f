/- Contracts of rect.Meet and rect.Inside. -/
import Derived.Test.YtbkbikkieabcmaaDoorRectB
import Derived.Lib.MinMax
namespace Go.Proofs.YtbkbikkieabcmaaDoor.Re
open Go.RowKit AM
/-- Two ranges have addresses in common. -/
def mtB (a1 a2 a3 a4 b1 b2 b3 b4 : Int) : Bool := !emB (max a1 b1) (max a2 b2) (min a3 b3) (min a4 b4) && (ckB a1 a2 a3 a4 && ckB b1 b2 b3 b4)
def bv (b : Bool) (x : Int) : Int := if b = true then x else 0
theorem bv_t (x : Int) : bv true x = x := rfl
theorem bv_f (x : Int) : bv false x = 0 := rfl
theorem cks_two (a1 a2 a3 a4 b1 b2 b3 b4 : Int) : cksE [⟨a1, a2, a3, a4⟩, ⟨b1, b2, b3, b4⟩] = if (ckB a1 a2 a3 a4 && ckB b1 b2 b3 b4) = true then 0 else 3 := by
  unfold cksE; simp only [List.all_cons, List.all_nil, Bool.and_true]; rfl
theorem RRow.two (w : World) (a1 a2 a3 a4 b1 b2 b3 b4 : Int) (t : TypeId) : RRow (w.alloc (.cells #[.int .i64 a1, .int .i64 a2, .int .i64 a3, .int .i64 a4, .int .i64 b1, .int .i64 b2, .int .i64 b3, .int .i64 b4] t)) w.heap.size 0 [⟨a1, a2, a3, a4⟩, ⟨b1, b2, b3, b4⟩] := by
  refine ⟨by simp, fun k hk => ?_⟩
  match k, hk with
  | 0, _ => exact ⟨by simp, by simp, by simp, by simp⟩
  | 1, _ => exact ⟨by simp, by simp, by simp, by simp⟩
theorem alloc_size (w : World) (o : Obj) : (w.alloc o).heap.size = w.heap.size + 1 := by simp
/-- Block p may be written. -/
def Open' (w : World) (p : Nat) : Prop := p < w.heap.size ∧ ∀ o, w.frozen? ⟨p, o, none⟩ = false
theorem Open'.later {w w' : World} {p : Nat} (h : Open' w p) (hB : Below w.heap.size w w') : Open' w' p := by
  obtain ⟨h0, h1⟩ := h
  obtain ⟨_, hf⟩ := bcell hB
  have hz := hB.size
  exact ⟨by omega, fun o => by rw [hf _ _ h0]; exact h1 o⟩
theorem Open'.start (w : World) (c : Array Value) (t : TypeId) : Open' (w.alloc (.cells c t)) w.heap.size := ⟨by simp, fun o => by simp⟩
theorem four_blocks (w : World) (a1 a2 a3 a4 b1 b2 b3 b4 z1 z2 z3 z4 m1 m2 m3 m4 : Int) (t : TypeId) :
    let W := (((w.alloc (.cells #[.int .i64 a1, .int .i64 a2, .int .i64 a3, .int .i64 a4] t)).alloc (.cells #[.int .i64 b1, .int .i64 b2, .int .i64 b3, .int .i64 b4] t)).alloc (.cells #[.int .i64 z1, .int .i64 z2, .int .i64 z3, .int .i64 z4] t)).alloc (.cells #[.int .i64 m1, .int .i64 m2, .int .i64 m3, .int .i64 m4] t)
    Four W w.heap.size a1 a2 a3 a4 ∧ Four W (w.heap.size + 1) b1 b2 b3 b4 ∧ Four W (w.heap.size + 1 + 1) z1 z2 z3 z4 ∧ Four W (w.heap.size + 1 + 1 + 1) m1 m2 m3 m4 ∧ Open' W (w.heap.size + 1 + 1) ∧ Below w.heap.size w W := by
  dsimp only
  have f1 := Four.start w a1 a2 a3 a4 t
  have l1 := below_alloc w (.cells #[.int .i64 a1, .int .i64 a2, .int .i64 a3, .int .i64 a4] t)
  have s1 := alloc_size w (.cells #[.int .i64 a1, .int .i64 a2, .int .i64 a3, .int .i64 a4] t)
  generalize w.alloc (.cells #[.int .i64 a1, .int .i64 a2, .int .i64 a3, .int .i64 a4] t) = W1 at *
  have f2 := Four.start W1 b1 b2 b3 b4 t
  have l2 := below_alloc W1 (.cells #[.int .i64 b1, .int .i64 b2, .int .i64 b3, .int .i64 b4] t)
  have s2 := alloc_size W1 (.cells #[.int .i64 b1, .int .i64 b2, .int .i64 b3, .int .i64 b4] t)
  generalize W1.alloc (.cells #[.int .i64 b1, .int .i64 b2, .int .i64 b3, .int .i64 b4] t) = W2 at *
  have f3 := Four.start W2 z1 z2 z3 z4 t
  have o3 := Open'.start W2 #[.int .i64 z1, .int .i64 z2, .int .i64 z3, .int .i64 z4] t
  have l3 := below_alloc W2 (.cells #[.int .i64 z1, .int .i64 z2, .int .i64 z3, .int .i64 z4] t)
  have s3 := alloc_size W2 (.cells #[.int .i64 z1, .int .i64 z2, .int .i64 z3, .int .i64 z4] t)
  generalize W2.alloc (.cells #[.int .i64 z1, .int .i64 z2, .int .i64 z3, .int .i64 z4] t) = W3 at *
  have f4 := Four.start W3 m1 m2 m3 m4 t
  have l4 := below_alloc W3 (.cells #[.int .i64 m1, .int .i64 m2, .int .i64 m3, .int .i64 m4] t)
  rw [s1] at f2
  rw [s2, s1] at f3 o3
  rw [s3, s2, s1] at f4
  exact ⟨((f1.later l2).later l3).later l4, (f2.later l3).later l4, f3.later l4, f4, o3.later l4, Below.next (Below.next (Below.next l1 l2) l3) l4⟩
theorem retM {x1 x2 x3 x4 y1 y2 y3 y4 : Int} {b b' : Bool} (h1 : x1 = y1) (h2 : x2 = y2) (h3 : x3 = y3) (h4 : x4 = y4) (h : b = b') :
    Ending.returned (.tuple #[.agg #[.int .i64 x1, .int .i64 x2, .int .i64 x3, .int .i64 x4], .bool b]) = .returned (.tuple #[.agg #[.int .i64 y1, .int .i64 y2, .int .i64 y3, .int .i64 y4], .bool b']) := by rw [h1, h2, h3, h4, h]
set_option maxHeartbeats 1600000 in
theorem rmeet_any (a1 a2 a3 a4 b1 b2 b3 b4 : Int) (w : World) :
    Calls Tryd.prog 8 #[.agg #[.int .i64 a1, .int .i64 a2, .int .i64 a3, .int .i64 a4], .agg #[.int .i64 b1, .int .i64 b2, .int .i64 b3, .int .i64 b4]] w fun e w' =>
      e = .returned (.tuple #[.agg #[.int .i64 (bv (mtB a1 a2 a3 a4 b1 b2 b3 b4) (max a1 b1)), .int .i64 (bv (mtB a1 a2 a3 a4 b1 b2 b3 b4) (max a2 b2)), .int .i64 (bv (mtB a1 a2 a3 a4 b1 b2 b3 b4) (min a3 b3)), .int .i64 (bv (mtB a1 a2 a3 a4 b1 b2 b3 b4) (min a4 b4))], .bool (mtB a1 a2 a3 a4 b1 b2 b3 b4)]) ∧ Below w.heap.size w w' := by
  have HM : Hid (mtB a1 a2 a3 a4 b1 b2 b3 b4 = (!emB (max a1 b1) (max a2 b2) (min a3 b3) (min a4 b4) && (ckB a1 a2 a3 a4 && ckB b1 b2 b3 b4))) := rfl
  generalize mtB a1 a2 a3 a4 b1 b2 b3 b4 = mt at *
  go_enter Tryd.func8, Tryd.ntmps8
  go_wp2_with fail
  generalize hm1 : max a1 b1 = m1 at *
  have E1 := Lib.hid hm1
  clear hm1
  generalize hm2 : max a2 b2 = m2 at *
  have E2 := Lib.hid hm2
  clear hm2
  generalize hm3 : min a3 b3 = m3 at *
  have E3 := Lib.hid hm3
  clear hm3
  generalize hm4 : min a4 b4 = m4 at *
  have E4 := Lib.hid hm4
  clear hm4
  refine (rempty_any _ _ _ _ _).mono ?_
  rintro e w1 ⟨rfl, hB1⟩
  have hF := four_blocks w a1 a2 a3 a4 b1 b2 b3 b4 0 0 0 0 m1 m2 m3 m4 23
  dsimp only at hF
  obtain ⟨fa, fb, fz, fm, fo, fB⟩ := hF
  have FA := Lib.hid (fa.later hB1)
  have FB := Lib.hid (fb.later hB1)
  have FZ := Lib.hid (fz.later hB1)
  have FM := Lib.hid (fm.later hB1)
  have FO := Lib.hid (fo.later hB1)
  have B1 := Lib.hid (Below.next fB hB1)
  clear fa fb fz fm fo fB hB1
  obtain ⟨_, z1, z2, z3, z4⟩ := FZ.out
  have zo := FO.out.2
  cases he : emB m1 m2 m3 m4
  · obtain ⟨_, p1, p2, p3, p4⟩ := FA.out
    obtain ⟨_, q1, q2, q3, q4⟩ := FB.out
    have HE := Lib.hid he
    clear he
    go_wp2_with fail
    refine (rchecks_any w1.heap.size 0 2 [⟨a1, a2, a3, a4⟩, ⟨b1, b2, b3, b4⟩] (by simp) _ (RRow.two w1 a1 a2 a3 a4 b1 b2 b3 b4 _)).mono ?_
    rintro e w2 ⟨rfl, hB2⟩
    have hz1 := below_alloc w1 (.cells #[.int .i64 a1, .int .i64 a2, .int .i64 a3, .int .i64 a4, .int .i64 b1, .int .i64 b2, .int .i64 b3, .int .i64 b4] 23)
    have FZ2 := Lib.hid ((FZ.out.later hz1).later hB2)
    have FM2 := Lib.hid ((FM.out.later hz1).later hB2)
    have FO2 := Lib.hid ((FO.out.later hz1).later hB2)
    have B2 := Lib.hid (Below.next (Below.next B1.out hz1) hB2)
    clear p1 p2 p3 p4 q1 q2 q3 q4 z1 z2 z3 z4 zo hz1 hB2
    obtain ⟨hzl, z1, z2, z3, z4⟩ := FZ2.out
    obtain ⟨_, n1, n2, n3, n4⟩ := FM2.out
    have zo := FO2.out.2
    rw [cks_two]
    cases hc : (ckB a1 a2 a3 a4 && ckB b1 b2 b3 b4)
    · have hmt : Hid (mt = false) := by unfold Hid; rw [HM.out, HE.out, hc]; rfl
      simp only [Bool.false_eq_true, if_false]
      go_wp2_with fail
      exact bodyPost_ret (v := .tuple #[.agg #[.int .i64 0, .int .i64 0, .int .i64 0, .int .i64 0], .bool false]) (by simp [results, Tryd.results8, go_sem, z1, z2, z3, z4]) rfl
        ⟨retM (by rw [hmt.out]; rfl) (by rw [hmt.out]; rfl) (by rw [hmt.out]; rfl) (by rw [hmt.out]; rfl) hmt.out.symm, (((B2.out.setCell (by simp; omega) _).setCell (by simp; omega) _).setCell (by simp; omega) _).setCell (by simp; omega) _⟩
    · have hmt : Hid (mt = true) := by unfold Hid; rw [HM.out, HE.out, hc]; rfl
      simp only [if_true]
      go_wp2_with fail
      exact bodyPost_ret (v := .tuple #[.agg #[.int .i64 m1, .int .i64 m2, .int .i64 m3, .int .i64 m4], .bool true]) (by simp [results, Tryd.results8, go_sem, z1, z2, z3, z4]) rfl
        ⟨retM (by rw [hmt.out, E1.out]; rfl) (by rw [hmt.out, E2.out]; rfl) (by rw [hmt.out, E3.out]; rfl) (by rw [hmt.out, E4.out]; rfl) hmt.out.symm, (((B2.out.setCell (by simp; omega) _).setCell (by simp; omega) _).setCell (by simp; omega) _).setCell (by simp; omega) _⟩
  · have hmt : Hid (mt = false) := by unfold Hid; rw [HM.out, he]; rfl
    clear he
    go_wp2_with fail
    exact bodyPost_ret (v := .tuple #[.agg #[.int .i64 0, .int .i64 0, .int .i64 0, .int .i64 0], .bool false]) (by simp [results, Tryd.results8, go_sem, z1, z2, z3, z4]) rfl
      ⟨retM (by rw [hmt.out]; rfl) (by rw [hmt.out]; rfl) (by rw [hmt.out]; rfl) (by rw [hmt.out]; rfl) hmt.out.symm, (((B1.out.setCell (by simp; omega) _).setCell (by simp; omega) _).setCell (by simp; omega) _).setCell (by simp; omega) _⟩
/-! Inside -/
def insB (a1 a2 a3 a4 b1 b2 b3 b4 : Int) : Bool := mtB a1 a2 a3 a4 b1 b2 b3 b4 && (max a1 b1 == a1 && (max a2 b2 == a2 && (min a3 b3 == a3 && min a4 b4 == a4)))
theorem rinside_any (a1 a2 a3 a4 b1 b2 b3 b4 : Int) (w : World) :
    Calls Tryd.prog 10 #[.agg #[.int .i64 a1, .int .i64 a2, .int .i64 a3, .int .i64 a4], .agg #[.int .i64 b1, .int .i64 b2, .int .i64 b3, .int .i64 b4]] w fun e w' =>
      e = .returned (.bool (insB a1 a2 a3 a4 b1 b2 b3 b4)) ∧ Below w.heap.size w w' := by
  go_enter Tryd.func10, Tryd.ntmps10
  go_wp2_with fail
  refine (rmeet_any a1 a2 a3 a4 b1 b2 b3 b4 _).mono ?_
  rintro e w1 ⟨rfl, hB1⟩
  have l1 := below_alloc w (.cells #[.int .i64 a1, .int .i64 a2, .int .i64 a3, .int .i64 a4] 23)
  have l2 := below_alloc (w.alloc (.cells #[.int .i64 a1, .int .i64 a2, .int .i64 a3, .int .i64 a4] 23)) (.cells #[.int .i64 b1, .int .i64 b2, .int .i64 b3, .int .i64 b4] 23)
  have FA := Lib.hid (((Four.start w a1 a2 a3 a4 23).later l2).later hB1)
  have B1 := Lib.hid (Below.next (Below.next l1 l2) hB1)
  clear l1 l2 hB1
  have HI : Hid (insB a1 a2 a3 a4 b1 b2 b3 b4 = (mtB a1 a2 a3 a4 b1 b2 b3 b4 && (max a1 b1 == a1 && (max a2 b2 == a2 && (min a3 b3 == a3 && min a4 b4 == a4))))) := rfl
  obtain ⟨hl, p1, p2, p3, p4⟩ := FA.out
  have hz := B1.out.size
  cases hm : mtB a1 a2 a3 a4 b1 b2 b3 b4
  · have E : Hid (insB a1 a2 a3 a4 b1 b2 b3 b4 = false) := by unfold Hid; rw [HI.out, hm]; rfl
    clear hm
    go_wp2_with fail
    go_ret
    exact ⟨retB E.out.symm, B1.out.alloc hz _⟩
  · have E : Hid (insB a1 a2 a3 a4 b1 b2 b3 b4 = (max a1 b1 == a1 && (max a2 b2 == a2 && (min a3 b3 == a3 && min a4 b4 == a4)))) := by unfold Hid; rw [HI.out, hm]; rfl
    clear hm
    simp only [bv_t]
    generalize max a1 b1 = m1 at *
    generalize max a2 b2 = m2 at *
    generalize min a3 b3 = m3 at *
    generalize min a4 b4 = m4 at *
    have hz' := Lib.hid hz
    cases e1 : (m1 == a1) <;> cases e2 : (m2 == a2) <;> cases e3 : (m3 == a3) <;> cases e4 : (m4 == a4) <;>
      (have EE := Lib.hid (E.out.trans (by rw [e1, e2, e3, e4]))
       clear E
       go_wp2_with fail
       go_ret
       exact ⟨retB EE.out.symm, B1.out.alloc hz _⟩)
end Go.Proofs.YtbkbikkieabcmaaDoor.Re
