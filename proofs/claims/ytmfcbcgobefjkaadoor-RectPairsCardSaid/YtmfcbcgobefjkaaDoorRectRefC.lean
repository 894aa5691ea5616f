/- The specification's Inside, by one walk. -/
import Derived.Test.YtmfcbcgobefjkaaDoorRectRefB
import Derived.Test.YtmfcbcgobefjkaaDoorSeq
namespace Go.Proofs.YtmfcbcgobefjkaaDoor
open Go.RowKit AM
set_option maxRecDepth 100000 in
set_option maxHeartbeats 1600000 in
theorem qinside_any (a1 a2 a3 a4 b1 b2 b3 b4 : Int) (w : World) :
    Calls Tryd.prog 20 #[.agg #[.int .i64 a1, .int .i64 a2, .int .i64 a3, .int .i64 a4], .agg #[.int .i64 b1, .int .i64 b2, .int .i64 b3, .int .i64 b4]] w fun e w' => e = .returned (.bool (insB a1 a2 a3 a4 b1 b2 b3 b4)) ∧ Below w.heap.size w w' := by
  have HI := Lib.hid (insB_eq a1 a2 a3 a4 b1 b2 b3 b4)
  generalize insB a1 a2 a3 a4 b1 b2 b3 b4 = ins at *
  go_enter Tryd.func20, Tryd.ntmps20
  go_wp2_with fail
  have hS0 : Eight w ((w.alloc (.cells #[.int .i64 a1, .int .i64 a2, .int .i64 a3, .int .i64 a4] 23)).alloc (.cells #[.int .i64 b1, .int .i64 b2, .int .i64 b3, .int .i64 b4] 23)) a1 a2 a3 a4 b1 b2 b3 b4 :=
    ⟨by simp, ((Below.refl _ _).alloc (Nat.le_refl _) _).alloc (by simp) _, by simp, by simp, by simp, by simp, by simp, by simp, by simp, by simp⟩
  cases h1 : ckB a1 a2 a3 a4
  · have HR : Hid (ins = false) := by unfold Hid; rw [HI.out, h1]; rfl
    have HA : Hid (∀ W : World, Calls Tryd.prog 14 #[.agg #[.int .i64 a1, .int .i64 a2, .int .i64 a3, .int .i64 a4]] W fun e w' => e = .returned (.int .i64 3) ∧ Below W.heap.size W w') := fun W => by have := qcheck_any a1 a2 a3 a4 W; rwa [ckE_f h1] at this
    clear h1
    refine wp_region_seq (fun x => Eight w x a1 a2 a3 a4 b1 b2 b3 b4) (by kernel_rfl) (by kernel_rfl) (by kernel_rfl) (hS0.keep (Below.refl _ _).drew) ?_
    dsimp only
    repeat ((first
        | refine seq_not (by rfl) ?_
        | (refine seq_run (v := ?_) (by rfl) (fun W hS => ?_) ?_; rotate_left; · (obtain ⟨hz, hB, c1, c2, c3, c4, c5, c6, c7, c8⟩ := hS; go_simp <;> rfl))
        | (refine seq_call (.int .i64 3) (by rfl) (f := 14) (args := #[.agg #[.int .i64 a1, .int .i64 a2, .int .i64 a3, .int .i64 a4]]) (fun W hS => ?_) (fun W hS => ?_) ?_; (· (go_simp; done)); exact (HA.out W).mono fun e w' ⟨h1, h2⟩ => ⟨h1, hS.keep h2⟩)); simp only [Act.put, List.setIfInBounds_toArray, List.set_cons_zero, List.set_cons_succ])
    refine seq_end fun W hS => ?_
    obtain ⟨hz, hB, c1, c2, c3, c4, c5, c6, c7, c8⟩ := hS
    go_wp2_with fail
    go_ret
    exact ⟨retB HR.out.symm, hB⟩
  · have HA : Hid (∀ W : World, Calls Tryd.prog 14 #[.agg #[.int .i64 a1, .int .i64 a2, .int .i64 a3, .int .i64 a4]] W fun e w' => e = .returned (.int .i64 0) ∧ Below W.heap.size W w') := fun W => by have := qcheck_any a1 a2 a3 a4 W; rwa [ckE_t h1] at this
    cases h2 : ckB b1 b2 b3 b4
    · have HR : Hid (ins = false) := by unfold Hid; rw [HI.out, h1, h2]; rfl
      have HB : Hid (∀ W : World, Calls Tryd.prog 14 #[.agg #[.int .i64 b1, .int .i64 b2, .int .i64 b3, .int .i64 b4]] W fun e w' => e = .returned (.int .i64 3) ∧ Below W.heap.size W w') := fun W => by have := qcheck_any b1 b2 b3 b4 W; rwa [ckE_f h2] at this
      clear h1 h2
      refine wp_region_seq (fun x => Eight w x a1 a2 a3 a4 b1 b2 b3 b4) (by kernel_rfl) (by kernel_rfl) (by kernel_rfl) (hS0.keep (Below.refl _ _).drew) ?_
      dsimp only
      repeat ((first
          | refine seq_not (by rfl) ?_
          | (refine seq_run (v := ?_) (by rfl) (fun W hS => ?_) ?_; rotate_left; · (obtain ⟨hz, hB, c1, c2, c3, c4, c5, c6, c7, c8⟩ := hS; go_simp <;> rfl))
          | (refine seq_call (.int .i64 0) (by rfl) (f := 14) (args := #[.agg #[.int .i64 a1, .int .i64 a2, .int .i64 a3, .int .i64 a4]]) (fun W hS => ?_) (fun W hS => ?_) ?_; (· (go_simp; done)); exact (HA.out W).mono fun e w' ⟨h1, h2⟩ => ⟨h1, hS.keep h2⟩)
          | (refine seq_call (.int .i64 3) (by rfl) (f := 14) (args := #[.agg #[.int .i64 b1, .int .i64 b2, .int .i64 b3, .int .i64 b4]]) (fun W hS => ?_) (fun W hS => ?_) ?_; (· (go_simp; done)); exact (HB.out W).mono fun e w' ⟨h1, h2⟩ => ⟨h1, hS.keep h2⟩)); simp only [Act.put, List.setIfInBounds_toArray, List.set_cons_zero, List.set_cons_succ])
      refine seq_end fun W hS => ?_
      obtain ⟨hz, hB, c1, c2, c3, c4, c5, c6, c7, c8⟩ := hS
      go_wp2_with fail
      go_ret
      exact ⟨retB HR.out.symm, hB⟩
    · have HB : Hid (∀ W : World, Calls Tryd.prog 14 #[.agg #[.int .i64 b1, .int .i64 b2, .int .i64 b3, .int .i64 b4]] W fun e w' => e = .returned (.int .i64 0) ∧ Below W.heap.size W w') := fun W => by have := qcheck_any b1 b2 b3 b4 W; rwa [ckE_t h2] at this
      cases h3 : hasB b1 b2 b3 b4 a1 a2
      · have HR : Hid (ins = false) := by unfold Hid; rw [HI.out, h1, h2, h3]; rfl
        have HC : Hid (∀ W : World, Calls Tryd.prog 18 #[.agg #[.int .i64 b1, .int .i64 b2, .int .i64 b3, .int .i64 b4], .agg #[.int .i64 a1, .int .i64 a2]] W fun e w' => e = .returned (.bool false) ∧ Below W.heap.size W w') := fun W => by have := qhas_any b1 b2 b3 b4 a1 a2 W; rwa [h3] at this
        clear h1 h2 h3
        refine wp_region_seq (fun x => Eight w x a1 a2 a3 a4 b1 b2 b3 b4) (by kernel_rfl) (by kernel_rfl) (by kernel_rfl) (hS0.keep (Below.refl _ _).drew) ?_
        dsimp only
        repeat ((first
            | refine seq_not (by rfl) ?_
            | (refine seq_run (v := ?_) (by rfl) (fun W hS => ?_) ?_; rotate_left; · (obtain ⟨hz, hB, c1, c2, c3, c4, c5, c6, c7, c8⟩ := hS; go_simp <;> rfl))
            | (refine seq_call (.int .i64 0) (by rfl) (f := 14) (args := #[.agg #[.int .i64 a1, .int .i64 a2, .int .i64 a3, .int .i64 a4]]) (fun W hS => ?_) (fun W hS => ?_) ?_; (· (go_simp; done)); exact (HA.out W).mono fun e w' ⟨h1, h2⟩ => ⟨h1, hS.keep h2⟩)
            | (refine seq_call (.int .i64 0) (by rfl) (f := 14) (args := #[.agg #[.int .i64 b1, .int .i64 b2, .int .i64 b3, .int .i64 b4]]) (fun W hS => ?_) (fun W hS => ?_) ?_; (· (go_simp; done)); exact (HB.out W).mono fun e w' ⟨h1, h2⟩ => ⟨h1, hS.keep h2⟩)
            | (refine seq_call (.agg #[.int .i64 a1, .int .i64 a2]) (by rfl) (f := 42) (args := #[.agg #[.int .i64 a1, .int .i64 a2, .int .i64 a3, .int .i64 a4]]) (fun W hS => ?_) (fun W hS => ?_) ?_; (· (go_simp; done)); exact (qfrom_any _ _ _ _ W).mono fun e w' ⟨h1, h2⟩ => ⟨h1, hS.keep h2⟩)
            | (refine seq_call (.bool false) (by rfl) (f := 18) (args := #[.agg #[.int .i64 b1, .int .i64 b2, .int .i64 b3, .int .i64 b4], .agg #[.int .i64 a1, .int .i64 a2]]) (fun W hS => ?_) (fun W hS => ?_) ?_; (· (go_simp; done)); exact (HC.out W).mono fun e w' ⟨h1, h2⟩ => ⟨h1, hS.keep h2⟩)); simp only [Act.put, List.setIfInBounds_toArray, List.set_cons_zero, List.set_cons_succ])
        refine seq_end fun W hS => ?_
        obtain ⟨hz, hB, c1, c2, c3, c4, c5, c6, c7, c8⟩ := hS
        go_wp2_with fail
        go_ret
        exact ⟨retB HR.out.symm, hB⟩
      · have HC : Hid (∀ W : World, Calls Tryd.prog 18 #[.agg #[.int .i64 b1, .int .i64 b2, .int .i64 b3, .int .i64 b4], .agg #[.int .i64 a1, .int .i64 a2]] W fun e w' => e = .returned (.bool true) ∧ Below W.heap.size W w') := fun W => by have := qhas_any b1 b2 b3 b4 a1 a2 W; rwa [h3] at this
        cases h4 : hasB b1 b2 b3 b4 a3 a4
        · have HR : Hid (ins = false) := by unfold Hid; rw [HI.out, h1, h2, h3, h4]; rfl
          have HD : Hid (∀ W : World, Calls Tryd.prog 18 #[.agg #[.int .i64 b1, .int .i64 b2, .int .i64 b3, .int .i64 b4], .agg #[.int .i64 a3, .int .i64 a4]] W fun e w' => e = .returned (.bool false) ∧ Below W.heap.size W w') := fun W => by have := qhas_any b1 b2 b3 b4 a3 a4 W; rwa [h4] at this
          clear h1 h2 h3 h4
          refine wp_region_seq (fun x => Eight w x a1 a2 a3 a4 b1 b2 b3 b4) (by kernel_rfl) (by kernel_rfl) (by kernel_rfl) (hS0.keep (Below.refl _ _).drew) ?_
          dsimp only
          repeat ((first
              | refine seq_not (by rfl) ?_
              | (refine seq_run (v := ?_) (by rfl) (fun W hS => ?_) ?_; rotate_left; · (obtain ⟨hz, hB, c1, c2, c3, c4, c5, c6, c7, c8⟩ := hS; go_simp <;> rfl))
              | (refine seq_call (.int .i64 0) (by rfl) (f := 14) (args := #[.agg #[.int .i64 a1, .int .i64 a2, .int .i64 a3, .int .i64 a4]]) (fun W hS => ?_) (fun W hS => ?_) ?_; (· (go_simp; done)); exact (HA.out W).mono fun e w' ⟨h1, h2⟩ => ⟨h1, hS.keep h2⟩)
              | (refine seq_call (.int .i64 0) (by rfl) (f := 14) (args := #[.agg #[.int .i64 b1, .int .i64 b2, .int .i64 b3, .int .i64 b4]]) (fun W hS => ?_) (fun W hS => ?_) ?_; (· (go_simp; done)); exact (HB.out W).mono fun e w' ⟨h1, h2⟩ => ⟨h1, hS.keep h2⟩)
              | (refine seq_call (.agg #[.int .i64 a1, .int .i64 a2]) (by rfl) (f := 42) (args := #[.agg #[.int .i64 a1, .int .i64 a2, .int .i64 a3, .int .i64 a4]]) (fun W hS => ?_) (fun W hS => ?_) ?_; (· (go_simp; done)); exact (qfrom_any _ _ _ _ W).mono fun e w' ⟨h1, h2⟩ => ⟨h1, hS.keep h2⟩)
              | (refine seq_call (.bool true) (by rfl) (f := 18) (args := #[.agg #[.int .i64 b1, .int .i64 b2, .int .i64 b3, .int .i64 b4], .agg #[.int .i64 a1, .int .i64 a2]]) (fun W hS => ?_) (fun W hS => ?_) ?_; (· (go_simp; done)); exact (HC.out W).mono fun e w' ⟨h1, h2⟩ => ⟨h1, hS.keep h2⟩)
              | (refine seq_call (.agg #[.int .i64 a3, .int .i64 a4]) (by rfl) (f := 43) (args := #[.agg #[.int .i64 a1, .int .i64 a2, .int .i64 a3, .int .i64 a4]]) (fun W hS => ?_) (fun W hS => ?_) ?_; (· (go_simp; done)); exact (qto_any _ _ _ _ W).mono fun e w' ⟨h1, h2⟩ => ⟨h1, hS.keep h2⟩)
              | (refine seq_call (.bool false) (by rfl) (f := 18) (args := #[.agg #[.int .i64 b1, .int .i64 b2, .int .i64 b3, .int .i64 b4], .agg #[.int .i64 a3, .int .i64 a4]]) (fun W hS => ?_) (fun W hS => ?_) ?_; (· (go_simp; done)); exact (HD.out W).mono fun e w' ⟨h1, h2⟩ => ⟨h1, hS.keep h2⟩)); simp only [Act.put, List.setIfInBounds_toArray, List.set_cons_zero, List.set_cons_succ])
          refine seq_end fun W hS => ?_
          obtain ⟨hz, hB, c1, c2, c3, c4, c5, c6, c7, c8⟩ := hS
          go_wp2_with fail
          go_ret
          exact ⟨retB HR.out.symm, hB⟩
        · have HR : Hid (ins = true) := by unfold Hid; rw [HI.out, h1, h2, h3, h4]; rfl
          have HD : Hid (∀ W : World, Calls Tryd.prog 18 #[.agg #[.int .i64 b1, .int .i64 b2, .int .i64 b3, .int .i64 b4], .agg #[.int .i64 a3, .int .i64 a4]] W fun e w' => e = .returned (.bool true) ∧ Below W.heap.size W w') := fun W => by have := qhas_any b1 b2 b3 b4 a3 a4 W; rwa [h4] at this
          clear h1 h2 h3 h4
          refine wp_region_seq (fun x => Eight w x a1 a2 a3 a4 b1 b2 b3 b4) (by kernel_rfl) (by kernel_rfl) (by kernel_rfl) (hS0.keep (Below.refl _ _).drew) ?_
          dsimp only
          repeat ((first
              | refine seq_not (by rfl) ?_
              | (refine seq_run (v := ?_) (by rfl) (fun W hS => ?_) ?_; rotate_left; · (obtain ⟨hz, hB, c1, c2, c3, c4, c5, c6, c7, c8⟩ := hS; go_simp <;> rfl))
              | (refine seq_call (.int .i64 0) (by rfl) (f := 14) (args := #[.agg #[.int .i64 a1, .int .i64 a2, .int .i64 a3, .int .i64 a4]]) (fun W hS => ?_) (fun W hS => ?_) ?_; (· (go_simp; done)); exact (HA.out W).mono fun e w' ⟨h1, h2⟩ => ⟨h1, hS.keep h2⟩)
              | (refine seq_call (.int .i64 0) (by rfl) (f := 14) (args := #[.agg #[.int .i64 b1, .int .i64 b2, .int .i64 b3, .int .i64 b4]]) (fun W hS => ?_) (fun W hS => ?_) ?_; (· (go_simp; done)); exact (HB.out W).mono fun e w' ⟨h1, h2⟩ => ⟨h1, hS.keep h2⟩)
              | (refine seq_call (.agg #[.int .i64 a1, .int .i64 a2]) (by rfl) (f := 42) (args := #[.agg #[.int .i64 a1, .int .i64 a2, .int .i64 a3, .int .i64 a4]]) (fun W hS => ?_) (fun W hS => ?_) ?_; (· (go_simp; done)); exact (qfrom_any _ _ _ _ W).mono fun e w' ⟨h1, h2⟩ => ⟨h1, hS.keep h2⟩)
              | (refine seq_call (.bool true) (by rfl) (f := 18) (args := #[.agg #[.int .i64 b1, .int .i64 b2, .int .i64 b3, .int .i64 b4], .agg #[.int .i64 a1, .int .i64 a2]]) (fun W hS => ?_) (fun W hS => ?_) ?_; (· (go_simp; done)); exact (HC.out W).mono fun e w' ⟨h1, h2⟩ => ⟨h1, hS.keep h2⟩)
              | (refine seq_call (.agg #[.int .i64 a3, .int .i64 a4]) (by rfl) (f := 43) (args := #[.agg #[.int .i64 a1, .int .i64 a2, .int .i64 a3, .int .i64 a4]]) (fun W hS => ?_) (fun W hS => ?_) ?_; (· (go_simp; done)); exact (qto_any _ _ _ _ W).mono fun e w' ⟨h1, h2⟩ => ⟨h1, hS.keep h2⟩)
              | (refine seq_call (.bool true) (by rfl) (f := 18) (args := #[.agg #[.int .i64 b1, .int .i64 b2, .int .i64 b3, .int .i64 b4], .agg #[.int .i64 a3, .int .i64 a4]]) (fun W hS => ?_) (fun W hS => ?_) ?_; (· (go_simp; done)); exact (HD.out W).mono fun e w' ⟨h1, h2⟩ => ⟨h1, hS.keep h2⟩)); simp only [Act.put, List.setIfInBounds_toArray, List.set_cons_zero, List.set_cons_succ])
          refine seq_end fun W hS => ?_
          obtain ⟨hz, hB, c1, c2, c3, c4, c5, c6, c7, c8⟩ := hS
          go_wp2_with fail
          go_ret
          exact ⟨retB HR.out.symm, hB⟩
end Go.Proofs.YtmfcbcgobefjkaaDoor
