/- The contract of the specification's Meet. -/
import Derived.Test.YtelnffamkkkpaaaDoorRectRef
namespace Go.Proofs.YtelnffamkkkpaaaDoor
open Go.RowKit AM
set_option maxHeartbeats 1600000 in
theorem qmeet_any (a1 a2 a3 a4 b1 b2 b3 b4 : Int) (w : World) :
    Calls Tryd.prog 53 #[.agg #[.int .i64 a1, .int .i64 a2, .int .i64 a3, .int .i64 a4], .agg #[.int .i64 b1, .int .i64 b2, .int .i64 b3, .int .i64 b4]] w fun e w' =>
      e = .returned (.tuple #[.agg #[.int .i64 (bv (mtB a1 a2 a3 a4 b1 b2 b3 b4) (max a1 b1)), .int .i64 (bv (mtB a1 a2 a3 a4 b1 b2 b3 b4) (max a2 b2)), .int .i64 (bv (mtB a1 a2 a3 a4 b1 b2 b3 b4) (min a3 b3)), .int .i64 (bv (mtB a1 a2 a3 a4 b1 b2 b3 b4) (min a4 b4))], .bool (mtB a1 a2 a3 a4 b1 b2 b3 b4)]) ∧ Below w.heap.size w w' := by
  have HM := Lib.hid (mtB_eq a1 a2 a3 a4 b1 b2 b3 b4)
  generalize mtB a1 a2 a3 a4 b1 b2 b3 b4 = mt at *
  go_enter Tryd.func53, Tryd.ntmps53
  go_wp2_with fail
  generalize hm1 : max a1 b1 = m1 at *
  have E1 := Lib.hid hm1
  clear hm1
  generalize hm2 : max a2 b2 = m2 at *
  have E2 := Lib.hid hm2
  clear hm2
  generalize hm3 : min a3 b3 = m3 at *
  have E3 := Lib.hid hm3
  clear hm3
  generalize hm4 : min a4 b4 = m4 at *
  have E4 := Lib.hid hm4
  clear hm4
  have hF := four_blocks w a1 a2 a3 a4 b1 b2 b3 b4 0 0 0 0 m1 m2 m3 m4 23
  dsimp only at hF
  obtain ⟨fa, fb, fz, fm, fo, fB⟩ := hF
  have FA0 := Lib.hid fa
  have FB0 := Lib.hid fb
  have FZ0 := Lib.hid fz
  have FM0 := Lib.hid fm
  have FO0 := Lib.hid fo
  have BB0 := Lib.hid fB
  clear fa fb fz fm fo fB
  refine (qcheck_any a1 a2 a3 a4 _).mono ?_
  rintro e w1 ⟨rfl, hB1⟩
  have FA1 := Lib.hid (FA0.out.later hB1)
  have FB1 := Lib.hid (FB0.out.later hB1)
  have FZ1 := Lib.hid (FZ0.out.later hB1)
  have FM1 := Lib.hid (FM0.out.later hB1)
  have FO1 := Lib.hid (FO0.out.later hB1)
  have BB1 := Lib.hid (Below.next BB0.out hB1)
  obtain ⟨hzl1, z1, z2, z3, z4⟩ := FZ1.out
  obtain ⟨_, q1, q2, q3, q4⟩ := FB1.out
  obtain ⟨_, n1, n2, n3, n4⟩ := FM1.out
  have zo := FO1.out.2
  have B := BB1
  clear hB1
  cases h1 : ckB a1 a2 a3 a4
  · have hmt : Hid (mt = false) := by unfold Hid; rw [HM.out, h1]; rfl
    rw [ckE_f h1]
    clear h1
    go_wp2_with fail
    exact bodyPost_ret (v := .tuple #[.agg #[.int .i64 0, .int .i64 0, .int .i64 0, .int .i64 0], .bool false]) (by simp [results, Tryd.results53, go_sem, z1, z2, z3, z4]) rfl
      ⟨retM (by rw [hmt.out]; rfl) (by rw [hmt.out]; rfl) (by rw [hmt.out]; rfl) (by rw [hmt.out]; rfl) hmt.out.symm, (((B.out.setCell (by simp; omega) _).setCell (by simp; omega) _).setCell (by simp; omega) _).setCell (by simp; omega) _⟩
  · have H1 := Lib.hid h1
    rw [ckE_t h1]
    clear h1
    go_wp2_with fail
    clear z1 z2 z3 z4 q1 q2 q3 q4 n1 n2 n3 n4 zo B
    refine (qcheck_any b1 b2 b3 b4 _).mono ?_
    rintro e w2 ⟨rfl, hB2⟩
    have FA2 := Lib.hid (FA1.out.later hB2)
    have FB2 := Lib.hid (FB1.out.later hB2)
    have FZ2 := Lib.hid (FZ1.out.later hB2)
    have FM2 := Lib.hid (FM1.out.later hB2)
    have FO2 := Lib.hid (FO1.out.later hB2)
    have BB2 := Lib.hid (Below.next BB1.out hB2)
    obtain ⟨hzl2, z1, z2, z3, z4⟩ := FZ2.out
    obtain ⟨_, q1, q2, q3, q4⟩ := FB2.out
    obtain ⟨_, n1, n2, n3, n4⟩ := FM2.out
    have zo := FO2.out.2
    have B := BB2
    clear hB2
    cases h2 : ckB b1 b2 b3 b4
    · have hmt : Hid (mt = false) := by unfold Hid; rw [HM.out, H1.out, h2]; rfl
      rw [ckE_f h2]
      clear h2
      go_wp2_with fail
      exact bodyPost_ret (v := .tuple #[.agg #[.int .i64 0, .int .i64 0, .int .i64 0, .int .i64 0], .bool false]) (by simp [results, Tryd.results53, go_sem, z1, z2, z3, z4]) rfl
        ⟨retM (by rw [hmt.out]; rfl) (by rw [hmt.out]; rfl) (by rw [hmt.out]; rfl) (by rw [hmt.out]; rfl) hmt.out.symm, (((B.out.setCell (by simp; omega) _).setCell (by simp; omega) _).setCell (by simp; omega) _).setCell (by simp; omega) _⟩
    · have H2 := Lib.hid h2
      rw [ckE_t h2]
      clear h2
      go_wp2_with fail
      clear z1 z2 z3 z4 q1 q2 q3 q4 n1 n2 n3 n4 zo B
      refine (qcheck_any m1 m2 m3 m4 _).mono ?_
      rintro e w3 ⟨rfl, hB3⟩
      have FA3 := Lib.hid (FA2.out.later hB3)
      have FB3 := Lib.hid (FB2.out.later hB3)
      have FZ3 := Lib.hid (FZ2.out.later hB3)
      have FM3 := Lib.hid (FM2.out.later hB3)
      have FO3 := Lib.hid (FO2.out.later hB3)
      have BB3 := Lib.hid (Below.next BB2.out hB3)
      obtain ⟨hzl3, z1, z2, z3, z4⟩ := FZ3.out
      obtain ⟨_, q1, q2, q3, q4⟩ := FB3.out
      obtain ⟨_, n1, n2, n3, n4⟩ := FM3.out
      have zo := FO3.out.2
      have B := BB3
      clear hB3
      cases h3 : ckB m1 m2 m3 m4
      · have hmt : Hid (mt = false) := by unfold Hid; rw [HM.out, H1.out, H2.out, h3]; rfl
        rw [ckE_f h3]
        clear h3
        go_wp2_with fail
        exact bodyPost_ret (v := .tuple #[.agg #[.int .i64 0, .int .i64 0, .int .i64 0, .int .i64 0], .bool false]) (by simp [results, Tryd.results53, go_sem, z1, z2, z3, z4]) rfl
          ⟨retM (by rw [hmt.out]; rfl) (by rw [hmt.out]; rfl) (by rw [hmt.out]; rfl) (by rw [hmt.out]; rfl) hmt.out.symm, (((B.out.setCell (by simp; omega) _).setCell (by simp; omega) _).setCell (by simp; omega) _).setCell (by simp; omega) _⟩
      · have hmt : Hid (mt = true) := by unfold Hid; rw [HM.out, H1.out, H2.out, h3]; rfl
        rw [ckE_t h3]
        clear h3
        go_wp2_with fail
        exact bodyPost_ret (v := .tuple #[.agg #[.int .i64 m1, .int .i64 m2, .int .i64 m3, .int .i64 m4], .bool true]) (by simp [results, Tryd.results53, go_sem, z1, z2, z3, z4]) rfl
          ⟨retM (by rw [hmt.out, E1.out]; rfl) (by rw [hmt.out, E2.out]; rfl) (by rw [hmt.out, E3.out]; rfl) (by rw [hmt.out, E4.out]; rfl) hmt.out.symm, (((B.out.setCell (by simp; omega) _).setCell (by simp; omega) _).setCell (by simp; omega) _).setCell (by simp; omega) _⟩
theorem eight_keep {w W w' : World} {a1 a2 a3 a4 b1 b2 b3 b4 : Int} (h : w.heap.size + 1 < W.heap.size ∧ Below w.heap.size w W ∧
      W.cell? ⟨w.heap.size, 0, none⟩ = some (.int .i64 a1) ∧ W.cell? ⟨w.heap.size, 1, none⟩ = some (.int .i64 a2) ∧ W.cell? ⟨w.heap.size, 2, none⟩ = some (.int .i64 a3) ∧ W.cell? ⟨w.heap.size, 3, none⟩ = some (.int .i64 a4) ∧
      W.cell? ⟨w.heap.size + 1, 0, none⟩ = some (.int .i64 b1) ∧ W.cell? ⟨w.heap.size + 1, 1, none⟩ = some (.int .i64 b2) ∧ W.cell? ⟨w.heap.size + 1, 2, none⟩ = some (.int .i64 b3) ∧ W.cell? ⟨w.heap.size + 1, 3, none⟩ = some (.int .i64 b4))
    (hB : Below W.heap.size W w') : w.heap.size + 1 < w'.heap.size ∧ Below w.heap.size w w' ∧
      w'.cell? ⟨w.heap.size, 0, none⟩ = some (.int .i64 a1) ∧ w'.cell? ⟨w.heap.size, 1, none⟩ = some (.int .i64 a2) ∧ w'.cell? ⟨w.heap.size, 2, none⟩ = some (.int .i64 a3) ∧ w'.cell? ⟨w.heap.size, 3, none⟩ = some (.int .i64 a4) ∧
      w'.cell? ⟨w.heap.size + 1, 0, none⟩ = some (.int .i64 b1) ∧ w'.cell? ⟨w.heap.size + 1, 1, none⟩ = some (.int .i64 b2) ∧ w'.cell? ⟨w.heap.size + 1, 2, none⟩ = some (.int .i64 b3) ∧ w'.cell? ⟨w.heap.size + 1, 3, none⟩ = some (.int .i64 b4) := by
  obtain ⟨h0, h1, h2, h3, h4, h5, h6, h7, h8, h9⟩ := h
  obtain ⟨hc, _⟩ := bcell hB
  have hz := hB.size
  refine ⟨by omega, h1.trans (hB.mono (by omega)), ?_, ?_, ?_, ?_, ?_, ?_, ?_, ?_⟩
  all_goals (rw [hc _ _ (by omega)]; assumption)
def Eight (w W : World) (a1 a2 a3 a4 b1 b2 b3 b4 : Int) : Prop := w.heap.size + 1 < W.heap.size ∧ Below w.heap.size w W ∧
      W.cell? ⟨w.heap.size, 0, none⟩ = some (.int .i64 a1) ∧ W.cell? ⟨w.heap.size, 1, none⟩ = some (.int .i64 a2) ∧ W.cell? ⟨w.heap.size, 2, none⟩ = some (.int .i64 a3) ∧ W.cell? ⟨w.heap.size, 3, none⟩ = some (.int .i64 a4) ∧
      W.cell? ⟨w.heap.size + 1, 0, none⟩ = some (.int .i64 b1) ∧ W.cell? ⟨w.heap.size + 1, 1, none⟩ = some (.int .i64 b2) ∧ W.cell? ⟨w.heap.size + 1, 2, none⟩ = some (.int .i64 b3) ∧ W.cell? ⟨w.heap.size + 1, 3, none⟩ = some (.int .i64 b4)
theorem Eight.keep {w W V w' : World} {a1 a2 a3 a4 b1 b2 b3 b4 : Int} (h : Eight w W a1 a2 a3 a4 b1 b2 b3 b4) (hB : Below V.heap.size V w') (hV : V.heap = W.heap ∧ V.os = W.os ∧ V.tape = W.tape ∧ V.output = W.output := by exact ⟨rfl, rfl, rfl, rfl⟩) : Eight w w' a1 a2 a3 a4 b1 b2 b3 b4 := by
  obtain ⟨e1, e2, e3, e4⟩ := hV
  have hB' : Below W.heap.size W w' := ⟨hB.os.trans e2, hB.tape.trans e3, hB.output.trans e4, by rw [← e1]; exact hB.size, fun k hk => by rw [← e1] at hk ⊢; exact hB.block k hk⟩
  exact eight_keep h hB'
end Go.Proofs.YtelnffamkkkpaaaDoor
