/- The contract of the specification's Minus. -/
import Derived.Test.YtelnffamkkkpaaaDoorRectM
import Derived.Test.YtelnffamkkkpaaaDoorRectRefB
namespace Go.Proofs.YtelnffamkkkpaaaDoor
open Go.RowKit AM
theorem two_blocks (w : World) (a1 a2 a3 a4 b1 b2 b3 b4 : Int) (t : TypeId) :
    let W := (w.alloc (.cells #[.int .i64 a1, .int .i64 a2, .int .i64 a3, .int .i64 a4] t)).alloc (.cells #[.int .i64 b1, .int .i64 b2, .int .i64 b3, .int .i64 b4] t)
    Four W w.heap.size a1 a2 a3 a4 ∧ Four W (w.heap.size + 1) b1 b2 b3 b4 ∧ Below w.heap.size w W := by
  dsimp only
  have l1 := below_alloc w (.cells #[.int .i64 a1, .int .i64 a2, .int .i64 a3, .int .i64 a4] t)
  have l2 := below_alloc (w.alloc (.cells #[.int .i64 a1, .int .i64 a2, .int .i64 a3, .int .i64 a4] t)) (.cells #[.int .i64 b1, .int .i64 b2, .int .i64 b3, .int .i64 b4] t)
  have f1 := (Four.start w a1 a2 a3 a4 t).later l2
  have f2 := Four.start (w.alloc (.cells #[.int .i64 a1, .int .i64 a2, .int .i64 a3, .int .i64 a4] t)) b1 b2 b3 b4 t
  rw [alloc_size] at f2
  exact ⟨f1, f2, Below.next l1 l2⟩
theorem drewN_below {B : Nat} {a w : World} (h : Below B a w) (n : Nat) : Below B a (w.drewN n) := ⟨h.os, h.tape, h.output, h.size, h.block⟩
theorem OwnR.drewN {B : Nat} {w : World} {v : Value} {l : List R4} (h : OwnR B w v l) (n : Nat) : OwnR B (w.drewN n) v l := h
set_option maxRecDepth 100000 in
set_option maxHeartbeats 6400000 in
theorem qminus_any (a1 a2 a3 a4 b1 b2 b3 b4 : Int) (w : World) :
    Calls Tryd.prog 34 #[.agg #[.int .i64 a1, .int .i64 a2, .int .i64 a3, .int .i64 a4], .agg #[.int .i64 b1, .int .i64 b2, .int .i64 b3, .int .i64 b4]] w fun e w' =>
      (∃ v, e = .returned (.tuple #[v, .int .i64 (mnE ⟨a1, a2, a3, a4⟩ ⟨b1, b2, b3, b4⟩)]) ∧ OwnR w.heap.size w' v (mnL ⟨a1, a2, a3, a4⟩ ⟨b1, b2, b3, b4⟩)) ∧ Below w.heap.size w w' := by
  have HE : Hid (mnE ⟨a1, a2, a3, a4⟩ ⟨b1, b2, b3, b4⟩ = if (ckB a1 a2 a3 a4 && ckB b1 b2 b3 b4) = true then 0 else 3) := rfl
  have HL : Hid (mnL ⟨a1, a2, a3, a4⟩ ⟨b1, b2, b3, b4⟩ = if (ckB a1 a2 a3 a4 && ckB b1 b2 b3 b4) = true then (if mtB a1 a2 a3 a4 b1 b2 b3 b4 = true then some4 (cut4 ⟨a1, a2, a3, a4⟩ ⟨b1, b2, b3, b4⟩) else [⟨a1, a2, a3, a4⟩]) else []) := rfl
  have HCT : Hid (cut4 ⟨a1, a2, a3, a4⟩ ⟨b1, b2, b3, b4⟩ = [⟨a1, a2, a3, max a2 b2 - 1⟩, ⟨a1, max a2 b2, max a1 b1 - 1, min a4 b4⟩, ⟨min a3 b3 + 1, max a2 b2, a3, min a4 b4⟩, ⟨a1, min a4 b4 + 1, a3, a4⟩]) := rfl
  generalize mnE ⟨a1, a2, a3, a4⟩ ⟨b1, b2, b3, b4⟩ = E at *
  generalize mnL ⟨a1, a2, a3, a4⟩ ⟨b1, b2, b3, b4⟩ = L at *
  generalize cut4 ⟨a1, a2, a3, a4⟩ ⟨b1, b2, b3, b4⟩ = C at *
  go_enter Tryd.func34, Tryd.ntmps34
  go_wp2_with fail
  have hW := two_blocks w a1 a2 a3 a4 b1 b2 b3 b4 23
  dsimp only at hW
  generalize ((w.alloc (.cells #[.int .i64 a1, .int .i64 a2, .int .i64 a3, .int .i64 a4] 23)).alloc (.cells #[.int .i64 b1, .int .i64 b2, .int .i64 b3, .int .i64 b4] 23)) = W0 at *
  obtain ⟨fa, fb, b0⟩ := hW
  refine (qcheck_any a1 a2 a3 a4 W0).mono ?_
  rintro e w1 ⟨rfl, hB1⟩
  have FA := Lib.hid (fa.later hB1)
  have FB := Lib.hid (fb.later hB1)
  have HB1 := Lib.hid (Below.next b0 hB1)
  clear hB1 fa fb b0
  cases hca : ckB a1 a2 a3 a4
  · have HC : Hid ((ckB a1 a2 a3 a4 && ckB b1 b2 b3 b4) = false) := by unfold Hid; rw [hca]; rfl
    rw [ckE_f hca]
    clear hca
    go_wp2_with fail
    go_ret2
    exact ⟨⟨_, ret2V (by rw [HE.out, HC.out]; rfl), by rw [HL.out, HC.out]; exact OwnR.nil _ _⟩, HB1.out⟩
  · rw [ckE_t hca]
    have HCA := Lib.hid hca
    clear hca
    obtain ⟨_, q1, q2, q3, q4⟩ := FB.out
    go_wp2_with fail
    refine (qcheck_any b1 b2 b3 b4 _).mono ?_
    rintro e w2 ⟨rfl, hB2⟩
    have FA2 := Lib.hid (FA.out.later hB2)
    have FB2 := Lib.hid (FB.out.later hB2)
    have HB2 := Lib.hid (Below.next HB1.out hB2)
    clear hB2 q1 q2 q3 q4
    cases hcb : ckB b1 b2 b3 b4
    · have HC : Hid ((ckB a1 a2 a3 a4 && ckB b1 b2 b3 b4) = false) := by unfold Hid; rw [hcb, HCA.out]; rfl
      rw [ckE_f hcb]
      clear hcb
      go_wp2_with fail
      go_ret2
      exact ⟨⟨_, ret2V (by rw [HE.out, HC.out]; rfl), by rw [HL.out, HC.out]; exact OwnR.nil _ _⟩, HB2.out⟩
    · have HC : Hid ((ckB a1 a2 a3 a4 && ckB b1 b2 b3 b4) = true) := by unfold Hid; rw [hcb, HCA.out]; rfl
      rw [ckE_t hcb]
      clear hcb
      obtain ⟨_, p1, p2, p3, p4⟩ := FA2.out
      obtain ⟨_, q1, q2, q3, q4⟩ := FB2.out
      go_wp2_with fail
      refine (qmeet_any a1 a2 a3 a4 b1 b2 b3 b4 _).mono ?_
      rintro e w3 ⟨rfl, hB3⟩
      clear p1 p2 p3 p4 q1 q2 q3 q4
      have FA3 := Lib.hid (FA2.out.later hB3)
      have HB3 := Lib.hid (Below.next HB2.out hB3)
      clear hB3
      have hz3 := HB3.out.size
      cases hm : mtB a1 a2 a3 a4 b1 b2 b3 b4
      · have HM := Lib.hid hm
        clear hm
        simp only [bv_f]
        obtain ⟨_, p1, p2, p3, p4⟩ := FA3.out
        go_wp2_with fail
        go_ret2
        refine ⟨⟨_, ret2V (by rw [HE.out, HC.out]; rfl), ?_⟩, (HB3.out.alloc hz3 _).alloc (by simp; omega) _⟩
        rw [HL.out, HC.out, HM.out]
        have h1 := OwnR.one (B := w.heap.size) (w3.alloc (.cells #[.int .i64 0, .int .i64 0, .int .i64 0, .int .i64 0] 23)) (by simp; omega) a1 a2 a3 a4
        rw [alloc_size] at h1
        exact h1
      · have HM := Lib.hid hm
        obtain ⟨k1, k2⟩ := mtB_ck hm
        rw [ckB_iff] at k1 k2
        clear hm
        simp only [bv_t]
        have g1 : 1 ≤ max a1 b1 ∧ max a1 b1 ≤ 1024 := by omega
        have g2 : 1 ≤ max a2 b2 ∧ max a2 b2 ≤ 1024 := by omega
        have g3 : 1 ≤ min a3 b3 ∧ min a3 b3 ≤ 1024 := by omega
        have g4 : 1 ≤ min a4 b4 ∧ min a4 b4 ≤ 1024 := by omega
        generalize max a1 b1 = m1 at *
        generalize max a2 b2 = m2 at *
        generalize min a3 b3 = m3 at *
        generalize min a4 b4 = m4 at *
        obtain ⟨g1, g1'⟩ := g1
        obtain ⟨g2, g2'⟩ := g2
        obtain ⟨g3, g3'⟩ := g3
        obtain ⟨g4, g4'⟩ := g4
        obtain ⟨hzl, p1, p2, p3, p4⟩ := FA3.out
        clear k1 k2
        have hR := four4 (w3.alloc (.cells #[.int .i64 m1, .int .i64 m2, .int .i64 m3, .int .i64 m4] 23)) a1 a2 a3 (m2 - 1) a1 m2 (m1 - 1) m4 (m3 + 1) m2 a3 m4 a1 (m4 + 1) a3 a4 23
        rw [alloc_size, ← HCT.out] at hR
        have HR := Lib.hid hR
        have HB4 := Lib.hid (Below.next (Below.next HB3.out (below_alloc w3 (.cells #[.int .i64 m1, .int .i64 m2, .int .i64 m3, .int .i64 m4] 23))) (below_alloc _ (.cells #[.int .i64 a1, .int .i64 a2, .int .i64 a3, .int .i64 (m2 - 1), .int .i64 a1, .int .i64 m2, .int .i64 (m1 - 1), .int .i64 m4, .int .i64 (m3 + 1), .int .i64 m2, .int .i64 a3, .int .i64 m4, .int .i64 a1, .int .i64 (m4 + 1), .int .i64 a3, .int .i64 a4] 23)))
        have HCL : Hid (C.length = 4) := by unfold Hid; rw [HCT.out]; rfl
        clear hR
        go_wp2_with fail
        clear p1 p2 p3 p4
        generalize ((w3.alloc (.cells #[.int .i64 m1, .int .i64 m2, .int .i64 m3, .int .i64 m4] 23)).alloc (.cells #[.int .i64 a1, .int .i64 a2, .int .i64 a3, .int .i64 (m2 - 1), .int .i64 a1, .int .i64 m2, .int .i64 (m1 - 1), .int .i64 m4, .int .i64 (m3 + 1), .int .i64 m2, .int .i64 a3, .int .i64 m4, .int .i64 a1, .int .i64 (m4 + 1), .int .i64 a3, .int .i64 a4] 23)) = W4 at *
        go_loopw [9, 10] (fun v i wr => ∃ k : Nat, k ≤ 4 ∧ i = .int .i64 k ∧ OwnR W4.heap.size wr v (some4 (C.take k)) ∧ Below W4.heap.size W4 wr) (fun _ i _ => 4 - (intOf i).toNat)
        case atStart => exact ⟨0, Nat.zero_le _, rfl, OwnR.nil _ _, Below.refl _ _⟩
        case round =>
          obtain ⟨k, hk, rfl, ho, hB⟩ := hrel
          have HO := Lib.hid ho
          have HRR := Lib.hid (HR.out.later hB)
          have HB := Lib.hid hB
          have hz := hB.size
          clear ho hB
          have HL2 : Hid ((some4 (C.take k)).length ≤ 1000000) := by have := some4_len (C.take k); simp at this; unfold Hid; omega
          by_cases hlt : k < 4
          · have hkl : k < C.length := by rw [HCL.out]; exact hlt
            obtain ⟨c1, c2, c3, c4⟩ := HRR.out.2 k hkl
            rw [Nat.zero_add] at c1 c2 c3 c4
            have HS := Lib.hid (some4_snoc C k hkl)
            unfold R4.em at HS
            generalize C[k] = r at *
            obtain ⟨x1, x2, x3, x4⟩ := r
            dsimp only at *
            have hk4 : (k : Int) < 4 := by omega
            rcases (show x3 < x1 ∨ (x1 ≤ x3 ∧ x4 < x2) ∨ (x1 ≤ x3 ∧ x2 ≤ x4) by omega) with h1 | ⟨h1, h2⟩ | ⟨h1, h2⟩
            · have HE1 : Hid (some4 (C.take (k + 1)) = some4 (C.take k)) := by unfold Hid; rw [HS.out, emB_t (Or.inl h1)]; simp
              have d1 : decide (x1 ≤ x3) = false := decide_eq_false (by omega)
              go_wp2_with fail
              go_quiet (fail)
              go_wp2_with fail
              go_roundw
              case rel => exact ⟨k + 1, by omega, by go_num, by rw [HE1.out]; exact HO.out.drewN _, drewN_below HB.out _⟩
              case measure => simp [intOf]; omega
            · have HE1 : Hid (some4 (C.take (k + 1)) = some4 (C.take k)) := by unfold Hid; rw [HS.out, emB_t (Or.inr h2)]; simp
              have d1 : decide (x1 ≤ x3) = true := decide_eq_true (by omega)
              have d2 : decide (x2 ≤ x4) = false := decide_eq_false (by omega)
              go_wp2_with fail
              go_quiet (fail)
              go_wp2_with fail
              go_roundw
              case rel => exact ⟨k + 1, by omega, by go_num, by rw [HE1.out]; exact HO.out.drewN _, drewN_below HB.out _⟩
              case measure => simp [intOf]; omega
            · have HE1 : Hid (some4 (C.take (k + 1)) = some4 (C.take k) ++ [⟨x1, x2, x3, x4⟩]) := by unfold Hid; rw [HS.out, emB_f (by omega)]; rfl
              have d1 : decide (x1 ≤ x3) = true := decide_eq_true (by omega)
              have d2 : decide (x2 ≤ x4) = true := decide_eq_true (by omega)
              go_wp2_with fail
              go_quiet (fail)
              go_wp2_with (at_builtin; refine wpList_appR rfl (.tmp 100) _ rfl W4.heap.size _ _ rfl (OwnR.alloc (HO.out.drewN _) _) _ ⟨x1, x2, x3, x4⟩ rfl ⟨World.cell?_alloc_at _ _ _ 0 rfl, World.cell?_alloc_at _ _ _ 1 rfl, World.cell?_alloc_at _ _ _ 2 rfl, World.cell?_alloc_at _ _ _ 3 rfl⟩ HL2.out (by simp; try omega) ?_)
              intro v' w5 ho' hb'
              have HO5 := Lib.hid ho'
              have HB5 := Lib.hid (((drewN_below HB.out _).alloc (by simp; try omega) _).trans hb')
              clear ho' hb'
              go_wp2_with fail
              go_roundw
              case rel => exact ⟨k + 1, by omega, by go_num, by rw [HE1.out]; exact HO5.out, HB5.out⟩
              case measure => simp [intOf]; omega
          · obtain rfl : k = 4 := by omega
            have HT : Hid (C.take 4 = C) := List.take_of_length_le (by rw [HCL.out]; exact Nat.le_refl _)
            rw [HT.out] at HO
            go_wp2_with fail
            go_ret2
            exact ⟨⟨_, ret2V (by rw [HE.out, HC.out]; rfl), by rw [HL.out, HC.out, HM.out]; exact HO.out.lower HB4.out.size⟩, Below.next HB4.out HB.out⟩
end Go.Proofs.YtelnffamkkkpaaaDoor
