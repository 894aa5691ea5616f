/- The contract of rect.Minus. -/
import Derived.Test.YtbkbikkieabcmaaDoorRectL
namespace Go.Proofs.YtbkbikkieabcmaaDoor.Re
open Go.RowKit AM
def mt4 (a b : R4) : Bool := mtB a.c1 a.r1 a.c2 a.r2 b.c1 b.r1 b.c2 b.r2
/-- What is left of a behind b, where they meet. -/
def cut4 (a b : R4) : List R4 :=
  [⟨a.c1, a.r1, a.c2, max a.r1 b.r1 - 1⟩, ⟨a.c1, max a.r1 b.r1, max a.c1 b.c1 - 1, min a.r2 b.r2⟩, ⟨min a.c2 b.c2 + 1, max a.r1 b.r1, a.c2, min a.r2 b.r2⟩, ⟨a.c1, min a.r2 b.r2 + 1, a.c2, a.r2⟩]
def mnL (a b : R4) : List R4 := if (a.ck && b.ck) = true then (if mt4 a b = true then some4 (cut4 a b) else [a]) else []
def mnE (a b : R4) : Int := if (a.ck && b.ck) = true then 0 else 3
theorem mtB_ck {a1 a2 a3 a4 b1 b2 b3 b4 : Int} (h : mtB a1 a2 a3 a4 b1 b2 b3 b4 = true) : ckB a1 a2 a3 a4 = true ∧ ckB b1 b2 b3 b4 = true := by
  have : mtB a1 a2 a3 a4 b1 b2 b3 b4 = (!emB (max a1 b1) (max a2 b2) (min a3 b3) (min a4 b4) && (ckB a1 a2 a3 a4 && ckB b1 b2 b3 b4)) := rfl
  rw [this] at h
  simp only [Bool.and_eq_true] at h
  exact ⟨h.2.1, h.2.2⟩
theorem four4 (w : World) (x1 x2 x3 x4 y1 y2 y3 y4 z1 z2 z3 z4 u1 u2 u3 u4 : Int) (t : TypeId) :
    RRow (w.alloc (.cells #[.int .i64 x1, .int .i64 x2, .int .i64 x3, .int .i64 x4, .int .i64 y1, .int .i64 y2, .int .i64 y3, .int .i64 y4, .int .i64 z1, .int .i64 z2, .int .i64 z3, .int .i64 z4, .int .i64 u1, .int .i64 u2, .int .i64 u3, .int .i64 u4] t)) w.heap.size 0 [⟨x1, x2, x3, x4⟩, ⟨y1, y2, y3, y4⟩, ⟨z1, z2, z3, z4⟩, ⟨u1, u2, u3, u4⟩] := by
  refine ⟨by simp, fun k hk => ?_⟩
  match k, hk with
  | 0, _ => simp
  | 1, _ => simp
  | 2, _ => simp
  | 3, _ => simp
theorem three_blocks (w : World) (a1 a2 a3 a4 b1 b2 b3 b4 : Int) (t : TypeId) :
    let W := ((w.alloc (.cells #[.int .i64 a1, .int .i64 a2, .int .i64 a3, .int .i64 a4] t)).alloc (.cells #[.int .i64 b1, .int .i64 b2, .int .i64 b3, .int .i64 b4] t)).alloc (.cells #[.int .i64 a1, .int .i64 a2, .int .i64 a3, .int .i64 a4, .int .i64 b1, .int .i64 b2, .int .i64 b3, .int .i64 b4] t)
    Four W w.heap.size a1 a2 a3 a4 ∧ Four W (w.heap.size + 1) b1 b2 b3 b4 ∧ RRow W (w.heap.size + 1 + 1) 0 [⟨a1, a2, a3, a4⟩, ⟨b1, b2, b3, b4⟩] ∧ Below w.heap.size w W := by
  dsimp only
  have l1 := below_alloc w (.cells #[.int .i64 a1, .int .i64 a2, .int .i64 a3, .int .i64 a4] t)
  have l2 := below_alloc (w.alloc (.cells #[.int .i64 a1, .int .i64 a2, .int .i64 a3, .int .i64 a4] t)) (.cells #[.int .i64 b1, .int .i64 b2, .int .i64 b3, .int .i64 b4] t)
  have l3 := below_alloc ((w.alloc (.cells #[.int .i64 a1, .int .i64 a2, .int .i64 a3, .int .i64 a4] t)).alloc (.cells #[.int .i64 b1, .int .i64 b2, .int .i64 b3, .int .i64 b4] t)) (.cells #[.int .i64 a1, .int .i64 a2, .int .i64 a3, .int .i64 a4, .int .i64 b1, .int .i64 b2, .int .i64 b3, .int .i64 b4] t)
  have f1 := ((Four.start w a1 a2 a3 a4 t).later l2).later l3
  have f2 := (Four.start (w.alloc (.cells #[.int .i64 a1, .int .i64 a2, .int .i64 a3, .int .i64 a4] t)) b1 b2 b3 b4 t).later l3
  have r := RRow.two ((w.alloc (.cells #[.int .i64 a1, .int .i64 a2, .int .i64 a3, .int .i64 a4] t)).alloc (.cells #[.int .i64 b1, .int .i64 b2, .int .i64 b3, .int .i64 b4] t)) a1 a2 a3 a4 b1 b2 b3 b4 t
  rw [alloc_size] at f2
  rw [alloc_size, alloc_size] at r
  exact ⟨f1, f2, r, Below.next (Below.next l1 l2) l3⟩
theorem OwnR.lower {w : World} {B B' : Nat} {v : Value} {l : List R4} (h : OwnR B w v l) (hB : B' ≤ B) : OwnR B' w v l := by
  obtain ⟨h1, h2⟩ := h
  refine ⟨h1, ?_⟩
  rcases h2 with h2 | ⟨g, cap, cur, rfl, hg, hrest⟩
  · exact .inl h2
  · exact .inr ⟨g, cap, cur, rfl, by omega, hrest⟩
theorem ret2V {v : Value} {a b : Int} (h : a = b) : Ending.returned (.tuple #[v, .int .i64 a]) = .returned (.tuple #[v, .int .i64 b]) := by rw [h]
set_option maxRecDepth 100000 in
set_option maxHeartbeats 3200000 in
theorem minus_any (a1 a2 a3 a4 b1 b2 b3 b4 : Int) (w : World) :
    Calls Tryd.prog 14 #[.agg #[.int .i64 a1, .int .i64 a2, .int .i64 a3, .int .i64 a4], .agg #[.int .i64 b1, .int .i64 b2, .int .i64 b3, .int .i64 b4]] w fun e w' =>
      (∃ v, e = .returned (.tuple #[v, .int .i64 (mnE ⟨a1, a2, a3, a4⟩ ⟨b1, b2, b3, b4⟩)]) ∧ OwnR w.heap.size w' v (mnL ⟨a1, a2, a3, a4⟩ ⟨b1, b2, b3, b4⟩)) ∧ Below w.heap.size w w' := by
  have HE : Hid (mnE ⟨a1, a2, a3, a4⟩ ⟨b1, b2, b3, b4⟩ = if (ckB a1 a2 a3 a4 && ckB b1 b2 b3 b4) = true then 0 else 3) := rfl
  have HL : Hid (mnL ⟨a1, a2, a3, a4⟩ ⟨b1, b2, b3, b4⟩ = if (ckB a1 a2 a3 a4 && ckB b1 b2 b3 b4) = true then (if mtB a1 a2 a3 a4 b1 b2 b3 b4 = true then some4 (cut4 ⟨a1, a2, a3, a4⟩ ⟨b1, b2, b3, b4⟩) else [⟨a1, a2, a3, a4⟩]) else []) := rfl
  have HCT : Hid (cut4 ⟨a1, a2, a3, a4⟩ ⟨b1, b2, b3, b4⟩ = [⟨a1, a2, a3, max a2 b2 - 1⟩, ⟨a1, max a2 b2, max a1 b1 - 1, min a4 b4⟩, ⟨min a3 b3 + 1, max a2 b2, a3, min a4 b4⟩, ⟨a1, min a4 b4 + 1, a3, a4⟩]) := rfl
  generalize mnE ⟨a1, a2, a3, a4⟩ ⟨b1, b2, b3, b4⟩ = E at *
  generalize mnL ⟨a1, a2, a3, a4⟩ ⟨b1, b2, b3, b4⟩ = L at *
  go_enter Tryd.func14, Tryd.ntmps14
  go_wp2_with fail
  have hW := three_blocks w a1 a2 a3 a4 b1 b2 b3 b4 23
  dsimp only at hW
  generalize (((w.alloc (.cells #[.int .i64 a1, .int .i64 a2, .int .i64 a3, .int .i64 a4] 23)).alloc (.cells #[.int .i64 b1, .int .i64 b2, .int .i64 b3, .int .i64 b4] 23)).alloc (.cells #[.int .i64 a1, .int .i64 a2, .int .i64 a3, .int .i64 a4, .int .i64 b1, .int .i64 b2, .int .i64 b3, .int .i64 b4] 23)) = W0 at *
  obtain ⟨fa, fb, r0, b0⟩ := hW
  refine (rchecks_any (w.heap.size + 1 + 1) 0 2 [⟨a1, a2, a3, a4⟩, ⟨b1, b2, b3, b4⟩] (by simp) W0 r0).mono ?_
  rintro e w1 ⟨rfl, hB1⟩
  rw [cks_two]
  have FA := Lib.hid (fa.later hB1)
  have FB := Lib.hid (fb.later hB1)
  have HB1 := Lib.hid (Below.next b0 hB1)
  clear hB1 fa fb r0 b0
  cases hc : (ckB a1 a2 a3 a4 && ckB b1 b2 b3 b4)
  · have HC := Lib.hid hc
    clear hc
    simp only [Bool.false_eq_true, if_false]
    go_wp2_with fail
    go_ret2
    exact ⟨⟨_, ret2V (by rw [HE.out, HC.out]; rfl), by rw [HL.out, HC.out]; exact OwnR.nil _ _⟩, HB1.out⟩
  · have HC := Lib.hid hc
    clear hc
    simp only [if_true]
    obtain ⟨_, p1, p2, p3, p4⟩ := FA.out
    obtain ⟨_, q1, q2, q3, q4⟩ := FB.out
    go_wp2_with fail
    refine (rmeet_any a1 a2 a3 a4 b1 b2 b3 b4 _).mono ?_
    rintro e w2 ⟨rfl, hB2⟩
    clear p1 p2 p3 p4 q1 q2 q3 q4
    have FA2 := Lib.hid (FA.out.later hB2)
    have HB2 := Lib.hid (Below.next HB1.out hB2)
    clear hB2
    have hz2 := HB2.out.size
    cases hm : mtB a1 a2 a3 a4 b1 b2 b3 b4
    · have HM := Lib.hid hm
      clear hm
      simp only [bv_f]
      obtain ⟨_, p1, p2, p3, p4⟩ := FA2.out
      go_wp2_with fail
      go_ret2
      refine ⟨⟨_, ret2V (by rw [HE.out, HC.out]; rfl), ?_⟩, (HB2.out.alloc hz2 _).alloc (by simp; omega) _⟩
      rw [HL.out, HC.out, HM.out]
      have h1 := OwnR.one (B := w.heap.size) (w2.alloc (.cells #[.int .i64 0, .int .i64 0, .int .i64 0, .int .i64 0] 23)) (by simp; omega) a1 a2 a3 a4
      rw [alloc_size] at h1
      exact h1
    · have HM := Lib.hid hm
      obtain ⟨k1, k2⟩ := mtB_ck hm
      rw [ckB_iff] at k1 k2
      clear hm
      simp only [bv_t]
      have g1 : 1 ≤ max a1 b1 ∧ max a1 b1 ≤ 1024 := by omega
      have g2 : 1 ≤ max a2 b2 ∧ max a2 b2 ≤ 1024 := by omega
      have g3 : 1 ≤ min a3 b3 ∧ min a3 b3 ≤ 1024 := by omega
      have g4 : 1 ≤ min a4 b4 ∧ min a4 b4 ≤ 1024 := by omega
      generalize max a1 b1 = m1 at *
      generalize max a2 b2 = m2 at *
      generalize min a3 b3 = m3 at *
      generalize min a4 b4 = m4 at *
      obtain ⟨g1, g1'⟩ := g1
      obtain ⟨g2, g2'⟩ := g2
      obtain ⟨g3, g3'⟩ := g3
      obtain ⟨g4, g4'⟩ := g4
      obtain ⟨hzl, p1, p2, p3, p4⟩ := FA2.out
      clear k1 k2
      have hR := four4 (w2.alloc (.cells #[.int .i64 m1, .int .i64 m2, .int .i64 m3, .int .i64 m4] 23)) a1 a2 a3 (m2 - 1) a1 m2 (m1 - 1) m4 (m3 + 1) m2 a3 m4 a1 (m4 + 1) a3 a4 23
      rw [alloc_size] at hR
      have HR := Lib.hid hR
      clear hR
      go_wp2_with fail
      refine (present_any (w2.heap.size + 1) 0 4 [⟨a1, a2, a3, m2 - 1⟩, ⟨a1, m2, m1 - 1, m4⟩, ⟨m3 + 1, m2, a3, m4⟩, ⟨a1, m4 + 1, a3, a4⟩] (by simp) _ HR.out).mono ?_
      rintro e w3 ⟨⟨v, rfl, hO⟩, hB3⟩
      have HO := Lib.hid (hO.lower (B' := w.heap.size) (by simp; omega))
      have HB3 := Lib.hid (Below.next (Below.next (Below.next HB2.out (below_alloc _ _)) (below_alloc _ _)) hB3)
      clear hO hB3
      go_wp2_with fail
      go_ret2
      refine ⟨⟨_, ret2V (by rw [HE.out, HC.out]; rfl), ?_⟩, HB3.out⟩
      rw [HL.out, HC.out, HM.out, HCT.out]
      exact HO.out
end Go.Proofs.YtbkbikkieabcmaaDoor.Re
