/- RectPairs: Check, One, Has, Inside and Meet return what the specification returns. -/
import Derived.Test.YtmfcbcgobefjkaaDoorRectKnown
import Derived.Test.YtmfcbcgobefjkaaDoorRectRefC
namespace Go.Proofs.YtmfcbcgobefjkaaDoor
open Go.RowKit AM
/-- Two ranges and an address lie in blocks u, v, k; a range twice in x, y. -/
def Pairs (w W : World) (u v k x y : Nat) (a1 a2 a3 a4 b1 b2 b3 b4 p q m1 m2 m3 m4 : Int) : Prop :=
  Below w.heap.size w W ∧ Four W u a1 a2 a3 a4 ∧ Four W v b1 b2 b3 b4 ∧ Two' W k p q ∧ Four W x m1 m2 m3 m4 ∧ Four W y m1 m2 m3 m4
theorem Pairs.later {w W W' : World} {u v k x y : Nat} {a1 a2 a3 a4 b1 b2 b3 b4 p q m1 m2 m3 m4 : Int} (h : Pairs w W u v k x y a1 a2 a3 a4 b1 b2 b3 b4 p q m1 m2 m3 m4) (hB : Below W.heap.size W W') :
    Pairs w W' u v k x y a1 a2 a3 a4 b1 b2 b3 b4 p q m1 m2 m3 m4 := by
  obtain ⟨h0, h1, h2, h3, h4, h5⟩ := h
  exact ⟨Below.next h0 hB, h1.later hB, h2.later hB, h3.later hB, h4.later hB, h5.later hB⟩
set_option maxRecDepth 100000 in
set_option maxHeartbeats 3200000 in
theorem rectPairs_any (a1 a2 a3 a4 b1 b2 b3 b4 p q : Int) (w : World) :
    Calls Tryd.prog 3 #[.agg #[.int .i64 a1, .int .i64 a2, .int .i64 a3, .int .i64 a4], .agg #[.int .i64 b1, .int .i64 b2, .int .i64 b3, .int .i64 b4], .agg #[.int .i64 p, .int .i64 q]] w fun e w' => e = .returned (.bool true) ∧ Below w.heap.size w w' := by
  go_enter Tryd.func3, Tryd.ntmps3
  go_wp2_with fail
  refine (rmeet_any a1 a2 a3 a4 b1 b2 b3 b4 _).mono ?_
  rintro e w1 ⟨rfl, hB1⟩
  have l1 := below_alloc w (.cells #[.int .i64 a1, .int .i64 a2, .int .i64 a3, .int .i64 a4] 23)
  have l2 := below_alloc (w.alloc (.cells #[.int .i64 a1, .int .i64 a2, .int .i64 a3, .int .i64 a4] 23)) (.cells #[.int .i64 b1, .int .i64 b2, .int .i64 b3, .int .i64 b4] 23)
  have l3 := below_alloc ((w.alloc (.cells #[.int .i64 a1, .int .i64 a2, .int .i64 a3, .int .i64 a4] 23)).alloc (.cells #[.int .i64 b1, .int .i64 b2, .int .i64 b3, .int .i64 b4] 23)) (.cells #[.int .i64 p, .int .i64 q] 25)
  have FA := Lib.hid ((((Four.start w a1 a2 a3 a4 23).later l2).later l3).later hB1)
  have FB := Lib.hid (((Four.start (w.alloc (.cells #[.int .i64 a1, .int .i64 a2, .int .i64 a3, .int .i64 a4] 23)) b1 b2 b3 b4 23).later l3).later hB1)
  have FC := Lib.hid ((Two'.start ((w.alloc (.cells #[.int .i64 a1, .int .i64 a2, .int .i64 a3, .int .i64 a4] 23)).alloc (.cells #[.int .i64 b1, .int .i64 b2, .int .i64 b3, .int .i64 b4] 23)) p q 25).later hB1)
  have B1 := Lib.hid (Below.next (Below.next (Below.next l1 l2) l3) hB1)
  clear l1 l2 l3 hB1
  rw [alloc_size, alloc_size] at FC
  rw [alloc_size] at FB
  have HQ := Lib.hid (fun W => qmeet_any a1 a2 a3 a4 b1 b2 b3 b4 W)
  generalize bv (mtB a1 a2 a3 a4 b1 b2 b3 b4) (max a1 b1) = m1 at *
  generalize bv (mtB a1 a2 a3 a4 b1 b2 b3 b4) (max a2 b2) = m2 at *
  generalize bv (mtB a1 a2 a3 a4 b1 b2 b3 b4) (min a3 b3) = m3 at *
  generalize bv (mtB a1 a2 a3 a4 b1 b2 b3 b4) (min a4 b4) = m4 at *
  generalize mtB a1 a2 a3 a4 b1 b2 b3 b4 = mt at *
  have l4 := below_alloc w1 (.cells #[.int .i64 m1, .int .i64 m2, .int .i64 m3, .int .i64 m4] 23)
  have FA2 := Lib.hid (FA.out.later l4)
  have FB2 := Lib.hid (FB.out.later l4)
  have FC2 := Lib.hid (FC.out.later l4)
  have FM2 := Lib.hid (Four.start w1 m1 m2 m3 m4 23)
  have B2 := Lib.hid (Below.next B1.out l4)
  clear l4 FA FB FC B1
  obtain ⟨_, x1, x2, x3, x4⟩ := FA2.out
  obtain ⟨_, y1, y2, y3, y4⟩ := FB2.out
  go_wp2_with fail
  refine (HQ.out _).mono ?_
  rintro e w2 ⟨rfl, hB2⟩
  clear x1 x2 x3 x4 y1 y2 y3 y4 HQ
  have l5 := below_alloc w2 (.cells #[.int .i64 m1, .int .i64 m2, .int .i64 m3, .int .i64 m4] 23)
  have hS0 : Pairs w (w2.alloc (.cells #[.int .i64 m1, .int .i64 m2, .int .i64 m3, .int .i64 m4] 23)) w.heap.size (w.heap.size + 1) (w.heap.size + 1 + 1) w1.heap.size w2.heap.size a1 a2 a3 a4 b1 b2 b3 b4 p q m1 m2 m3 m4 :=
    ⟨Below.next (Below.next B2.out hB2) l5, (FA2.out.later hB2).later l5, (FB2.out.later hB2).later l5, (FC2.out.later hB2).later l5, (FM2.out.later hB2).later l5, Four.start w2 m1 m2 m3 m4 23⟩
  clear l5 hB2 FA2 FB2 FC2 FM2 B2
  go_wp2_with fail
  refine wp_region_seq (fun x => Pairs w x w.heap.size (w.heap.size + 1) (w.heap.size + 1 + 1) w1.heap.size w2.heap.size a1 a2 a3 a4 b1 b2 b3 b4 p q m1 m2 m3 m4) (by kernel_rfl) (by kernel_rfl) (by kernel_rfl) (hS0.later (Below.refl _ _).drew) ?_
  clear hS0
  dsimp only
  repeat ((first
      | refine seq_not (by rfl) ?_
      | (refine seq_run (v := ?_) (by rfl) (fun W hS => ?_) ?_; rotate_left; · (obtain ⟨_, ⟨_, a1, a2, a3, a4⟩, ⟨_, b1, b2, b3, b4⟩, ⟨_, c1, c2⟩, ⟨_, d1, d2, d3, d4⟩, ⟨_, e1, e2, e3, e4⟩⟩ := hS; go_simp <;> rfl))
      | (refine seq_call (.int .i64 (ckE a1 a2 a3 a4)) (by rfl) (f := 13) (args := #[.agg #[.int .i64 a1, .int .i64 a2, .int .i64 a3, .int .i64 a4]]) (fun W hS => ?_) (fun W hS => ?_) ?_; (· (go_simp; done)); exact (rcheck_any a1 a2 a3 a4 W).mono fun e w' ⟨h1, h2⟩ => ⟨h1, hS.later h2⟩)
      | (refine seq_call (.agg #[.int .i64 p, .int .i64 q, .int .i64 p, .int .i64 q]) (by rfl) (f := 15) (args := #[.agg #[.int .i64 p, .int .i64 q]]) (fun W hS => ?_) (fun W hS => ?_) ?_; (· (go_simp; done)); exact (rone_any p q W).mono fun e w' ⟨h1, h2⟩ => ⟨h1, hS.later h2⟩)
      | (refine seq_call (.bool (hasB a1 a2 a3 a4 p q)) (by rfl) (f := 17) (args := #[.agg #[.int .i64 a1, .int .i64 a2, .int .i64 a3, .int .i64 a4], .agg #[.int .i64 p, .int .i64 q]]) (fun W hS => ?_) (fun W hS => ?_) ?_; (· (go_simp; done)); exact (rhas_any a1 a2 a3 a4 p q W).mono fun e w' ⟨h1, h2⟩ => ⟨h1, hS.later h2⟩)
      | (refine seq_call (.bool (insB a1 a2 a3 a4 b1 b2 b3 b4)) (by rfl) (f := 19) (args := #[.agg #[.int .i64 a1, .int .i64 a2, .int .i64 a3, .int .i64 a4], .agg #[.int .i64 b1, .int .i64 b2, .int .i64 b3, .int .i64 b4]]) (fun W hS => ?_) (fun W hS => ?_) ?_; (· (go_simp; done)); exact (rinside_any a1 a2 a3 a4 b1 b2 b3 b4 W).mono fun e w' ⟨h1, h2⟩ => ⟨h1, hS.later h2⟩)
      | (refine seq_call (.int .i64 (ckE a1 a2 a3 a4)) (by rfl) (f := 14) (args := #[.agg #[.int .i64 a1, .int .i64 a2, .int .i64 a3, .int .i64 a4]]) (fun W hS => ?_) (fun W hS => ?_) ?_; (· (go_simp; done)); exact (qcheck_any a1 a2 a3 a4 W).mono fun e w' ⟨h1, h2⟩ => ⟨h1, hS.later h2⟩)
      | (refine seq_call (.agg #[.int .i64 p, .int .i64 q, .int .i64 p, .int .i64 q]) (by rfl) (f := 16) (args := #[.agg #[.int .i64 p, .int .i64 q]]) (fun W hS => ?_) (fun W hS => ?_) ?_; (· (go_simp; done)); exact (qone_any p q W).mono fun e w' ⟨h1, h2⟩ => ⟨h1, hS.later h2⟩)
      | (refine seq_call (.bool (hasB a1 a2 a3 a4 p q)) (by rfl) (f := 18) (args := #[.agg #[.int .i64 a1, .int .i64 a2, .int .i64 a3, .int .i64 a4], .agg #[.int .i64 p, .int .i64 q]]) (fun W hS => ?_) (fun W hS => ?_) ?_; (· (go_simp; done)); exact (qhas_any a1 a2 a3 a4 p q W).mono fun e w' ⟨h1, h2⟩ => ⟨h1, hS.later h2⟩)
      | (refine seq_call (.bool (insB a1 a2 a3 a4 b1 b2 b3 b4)) (by rfl) (f := 20) (args := #[.agg #[.int .i64 a1, .int .i64 a2, .int .i64 a3, .int .i64 a4], .agg #[.int .i64 b1, .int .i64 b2, .int .i64 b3, .int .i64 b4]]) (fun W hS => ?_) (fun W hS => ?_) ?_; (· (go_simp; done)); exact (qinside_any a1 a2 a3 a4 b1 b2 b3 b4 W).mono fun e w' ⟨h1, h2⟩ => ⟨h1, hS.later h2⟩)
      | (refine seq_call (.bool true) (by rfl) (f := 21) (args := #[]) (fun W hS => ?_) (fun W hS => ?_) ?_; (· (go_simp; done)); exact (knownR_any W).mono fun e w' ⟨h1, h2⟩ => ⟨h1, hS.later h2⟩)); simp only [Act.put, List.setIfInBounds_toArray, List.set_cons_zero, List.set_cons_succ])
  refine seq_end fun W hS => ?_
  have hB := hS.1
  go_wp2_with fail
  go_ret
  exact ⟨rfl, hB⟩
end Go.Proofs.YtmfcbcgobefjkaaDoor
