/- The entry for an operation: both sides. -/
import Derived.Test.YtndijajaddkbhaaEvF
import Derived.Test.YtndijajaddkbhaaMpt
namespace Go.Proofs.Ytndijajaddkbhaa.Re
open Go.RowKit AM
theorem set9 (w : World) (g : Nat) (t : TypeId) (x0 x1 x2 x3 x4 x5 x6 x7 x8 y0 y1 y2 y3 y4 y5 y6 y7 y8 : Value) (h : w.heap[g]? = some (.cells #[x0, x1, x2, x3, x4, x5, x6, x7, x8] t)) : (((((((((w.setCell ⟨g, 0, none⟩ y0).setCell ⟨g, 1, none⟩ y1).setCell ⟨g, 2, none⟩ y2).setCell ⟨g, 3, none⟩ y3).setCell ⟨g, 4, none⟩ y4).setCell ⟨g, 5, none⟩ y5).setCell ⟨g, 6, none⟩ y6).setCell ⟨g, 7, none⟩ y7).setCell ⟨g, 8, none⟩ y8).heap[g]? = some (.cells #[y0, y1, y2, y3, y4, y5, y6, y7, y8] t) := by
  obtain ⟨hl, he⟩ := Array.getElem?_eq_some_iff.1 h
  simp [World.setCell, Array.getElem?_modify, h]
theorem below9 {B g : Nat} {w0 w : World} (h : Below B w0 w) (hg : B ≤ g) (y0 y1 y2 y3 y4 y5 y6 y7 y8 : Value) : Below B w0 (((((((((w.setCell ⟨g, 0, none⟩ y0).setCell ⟨g, 1, none⟩ y1).setCell ⟨g, 2, none⟩ y2).setCell ⟨g, 3, none⟩ y3).setCell ⟨g, 4, none⟩ y4).setCell ⟨g, 5, none⟩ y5).setCell ⟨g, 6, none⟩ y6).setCell ⟨g, 7, none⟩ y7).setCell ⟨g, 8, none⟩ y8) :=
  ((((((((h.setCell (p := ⟨g, 0, none⟩) hg _).setCell (p := ⟨g, 1, none⟩) hg _).setCell (p := ⟨g, 2, none⟩) hg _).setCell (p := ⟨g, 3, none⟩) hg _).setCell (p := ⟨g, 4, none⟩) hg _).setCell (p := ⟨g, 5, none⟩) hg _).setCell (p := ⟨g, 6, none⟩) hg _).setCell (p := ⟨g, 7, none⟩) hg _).setCell (p := ⟨g, 8, none⟩) hg _
theorem blk9 {w : World} {g : Nat} {t : TypeId} (h : w.heap[g]? = some (.cells #[.int .i64 0, .int .i64 0, .int .u8 0, .int .i64 0, .int .i64 0, .int .i64 0, .int .i64 0, .bool false, .int .u64 0] t)) : g < w.heap.size ∧ w.cell? ⟨g, 0, none⟩ = some (.int .i64 0) ∧ w.cell? ⟨g, 1, none⟩ = some (.int .i64 0) ∧ w.cell? ⟨g, 2, none⟩ = some (.int .u8 0) ∧ w.cell? ⟨g, 3, none⟩ = some (.int .i64 0) ∧ w.cell? ⟨g, 4, none⟩ = some (.int .i64 0) ∧ w.cell? ⟨g, 5, none⟩ = some (.int .i64 0) ∧ w.cell? ⟨g, 6, none⟩ = some (.int .i64 0) ∧ w.cell? ⟨g, 7, none⟩ = some (.bool false) ∧ w.cell? ⟨g, 8, none⟩ = some (.int .u64 0) ∧ w.frozen? ⟨g, 0, none⟩ = false ∧ w.frozen? ⟨g, 1, none⟩ = false ∧ w.frozen? ⟨g, 2, none⟩ = false ∧ w.frozen? ⟨g, 3, none⟩ = false ∧ w.frozen? ⟨g, 4, none⟩ = false ∧ w.frozen? ⟨g, 5, none⟩ = false ∧ w.frozen? ⟨g, 6, none⟩ = false ∧ w.frozen? ⟨g, 7, none⟩ = false ∧ w.frozen? ⟨g, 8, none⟩ = false := by
  refine ⟨(Array.getElem?_eq_some_iff.1 h).1, ?_⟩
  refine ⟨?_, ?_, ?_, ?_, ?_, ?_, ?_, ?_, ?_, ?_, ?_, ?_, ?_, ?_, ?_, ?_, ?_, ?_⟩ <;> simp [World.cell?, World.frozen?, h]
def evC (step r0 : Int) (g : OP) (L : List RV) (G : List GV) : Int :=
  if step < 0 then 2 else if ¬ r0 = 0 then 2 else if mutB g.kd.toNat = false then 2 else if vld g.us = false then 2 else if ¬ (rck 64 L).2 = 0 then (rck 64 L).2 else
    if ¬ (gck 64 G).2 = 0 then (gck 64 G).2 else if (tarO g G).isSome = false then 6 else if (rectO (tarO g G)).ck = false then 3 else 0
def zeroE : EV := ⟨0, 0, 0#8, 0, 0, 0, 0, false, 0#64⟩
def evO (step : Int) (g : OP) (done : Bool) (L : List RV) (G : List GV) : EV :=
  ⟨step, g.us, g.kd, (rectO (tarO g G)).c1, (rectO (tarO g G)).r1, (rectO (tarO g G)).c2, (rectO (tarO g G)).r2, done, bitW g.us.toNat ||| ovr RV.ow (rectO (tarO g G)) L⟩
def evV (step r0 : Int) (g : OP) (done : Bool) (L : List RV) (G : List GV) : EV := if evC step r0 g L G = 0 then evO step g done L G else zeroE
theorem of1 (w : World) (u : Int) : IsZ (w.alloc (.cells #[.int .i64 u] 3)) (some ⟨w.heap.size, 0, none⟩) 1 [u] := by
  refine ⟨rfl, fun _ => ⟨_, rfl, by simp, fun i v hv => ?_⟩⟩
  cases i with
  | zero => simp at hv; subst hv; simp [Addr.add]
  | succ i => simp at hv
theorem ofE1 (u : Int) : ofE [u] = if vld u = true then 0 else 3 := by unfold ofE okL; simp
theorem ofS1 (u : Int) (h : vld u = true) : ofS [u] = ((bitW u.toNat).toNat : Int) := by
  unfold ofS okL orL bitW
  simp [h]
def rr0 : R4 := ⟨0, 0, 0, 0⟩
set_option maxRecDepth 100000 in
set_option maxHeartbeats 12800000 in
theorem pev_any (step : Int) (g : OP) (done : Bool) (r0 : Int) (HR0 : Hid (∀ W, Calls Try.prog 100 #[.agg (cellsOP g).toArray] W fun e w' => e = .returned (.int .i64 r0) ∧ Below W.heap.size W w'))
    (a : Option Addr) (len cap : Nat) (L : List RV) (hl : len ≤ 100000) (a' : Option Addr) (len' cap' : Nat) (G : List GV) (hl' : len' ≤ 100000) (w : World) (hL : IsL w a len L) (hG : IsG w a' len' G) :
    Calls Try.prog 49 #[.int .i64 step, .agg (cellsOP g).toArray, .bool done, .slice a len cap, .slice a' len' cap'] w fun e w' => e = .returned (.tuple #[.agg (cellsEV (evV step r0 g done L G)).toArray, .int .i64 (evC step r0 g L G)]) ∧ Below w.heap.size w w' := by
  have HL := Lib.hid hL
  have HG := Lib.hid hG
  have HGL := Lib.hid hG.1
  clear hL hG
  have HE : Hid (evC step r0 g L G = if step < 0 then 2 else if ¬ r0 = 0 then 2 else if mutB g.kd.toNat = false then 2 else if vld g.us = false then 2 else if ¬ (rck 64 L).2 = 0 then (rck 64 L).2 else
    if ¬ (gck 64 G).2 = 0 then (gck 64 G).2 else if (tarO g G).isSome = false then 6 else if (rectO (tarO g G)).ck = false then 3 else 0) := rfl
  have HZ : Hid (¬ evC step r0 g L G = 0 → evV step r0 g done L G = zeroE) := fun h => if_neg h
  have HY : Hid (evC step r0 g L G = 0 → evV step r0 g done L G = evO step g done L G) := fun h => if_pos h
  generalize evC step r0 g L G = E at *
  generalize evV step r0 g done L G = V at *
  have HYO : Hid (evO step g done L G = ⟨step, g.us, g.kd, (rectO (tarO g G)).c1, (rectO (tarO g G)).r1, (rectO (tarO g G)).c2, (rectO (tarO g G)).r2, done, bitW g.us.toNat ||| ovr RV.ow (rectO (tarO g G)) L⟩) := rfl
  generalize evO step g done L G = EO at *
  have HMU := Lib.hid (pmut_any g)
  have HTG := Lib.hid (fun hm (W : World) h => target_any g hm a' len' cap' G hl' W h)
  have HOF := Lib.hid (fun (W : World) h => ofz_any (some ⟨W.heap.size, 0, none⟩) 1 1 [g.us] (W.alloc (.cells #[.int .i64 g.us] 3)) (by decide) h)
  rw [ofE1] at HOF
  have HOS := Lib.hid (ofS1 g.us)
  have HCK := Lib.hid (fun W h => ckgrants_any a' len' cap' G W h)
  have HO1 := Lib.hid (fun W h => over_any 1 1 1 1 a len cap L hl W h)
  have HG1 : Hid (gcE ⟨1, 1, 1, 1⟩ L = (rck 64 L).2) := rfl
  have HX0 := Lib.hid ((BoxOP.start w g 91).later (below_alloc _ (.cells #[.int .i64 0, .int .i64 0, .int .u8 0, .int .i64 0, .int .i64 0, .int .i64 0, .int .i64 0, .bool false, .int .u64 0] 84)))
  have hQ0 : ((w.alloc (.cells (cellsOP g).toArray 91)).alloc (.cells #[.int .i64 0, .int .i64 0, .int .u8 0, .int .i64 0, .int .i64 0, .int .i64 0, .int .i64 0, .bool false, .int .u64 0] 84)).heap[w.heap.size + 1]? = some (.cells #[.int .i64 0, .int .i64 0, .int .u8 0, .int .i64 0, .int .i64 0, .int .i64 0, .int .i64 0, .bool false, .int .u64 0] 84) := by
    have := heap_alloc_new (w.alloc (.cells (cellsOP g).toArray 91)) (.cells #[.int .i64 0, .int .i64 0, .int .u8 0, .int .i64 0, .int .i64 0, .int .i64 0, .int .i64 0, .bool false, .int .u64 0] 84)
    rwa [World.size_alloc] at this
  have HQ0 := Lib.hid hQ0
  have HB0 := Lib.hid (Below.next (below_alloc w (.cells (cellsOP g).toArray 91)) (below_alloc _ (.cells #[.int .i64 0, .int .i64 0, .int .u8 0, .int .i64 0, .int .i64 0, .int .i64 0, .int .i64 0, .bool false, .int .u64 0] 84)))
  clear hQ0
  generalize mutB g.kd.toNat = mb at *
  generalize hTO : tarO g G = TO at *
  generalize vld g.us = vu at *
  generalize ofS [g.us] = os at *
  generalize (gck 64 G).2 = gk at *
  clear hTO
  unfold overV rights3 at HO1
  rw [HG1.out] at HO1
  have HRK : Hid (∀ t : R4, gcE t L = if t.ck = true then (rck 64 L).2 else 3) := fun t => rfl
  generalize (rck 64 L).2 = rk at *
  generalize ovV RV.rd ⟨1, 1, 1, 1⟩ L = A1 at *
  generalize ovV RV.wr ⟨1, 1, 1, 1⟩ L = A2 at *
  generalize ovV RV.ow ⟨1, 1, 1, 1⟩ L = A3 at *
  obtain ⟨x1, x2, x3, x4, x5, x6, x7, x8, x9, x10, x11, x12, x13⟩ := g
  unfold cellsOP at *
  dsimp only at *
  go_enter Try.func49, Try.ntmps49
  by_cases hst : step < 0
  · rw [if_pos hst] at HE
    go_upto_region 1 with fail
    generalize (w.alloc (.cells #[.int .u8 (x1.toNat : Int), .int .i64 x2, .int .i64 x3, .int .i64 x4, .int .i64 x5, .int .i64 x6, .string x7, .int .u64 (x8.toNat : Int), .int .u64 (x9.toNat : Int), .int .u64 (x10.toNat : Int), .int .u8 (x11.toNat : Int), .int .u64 (x12.toNat : Int), .int .i64 x13] 91)).alloc (.cells #[.int .i64 0, .int .i64 0, .int .u8 0, .int .i64 0, .int .i64 0, .int .i64 0, .int .i64 0, .bool false, .int .u64 0] 84) = w0 at *
    have hQ := HQ0.out
    obtain ⟨hl1, q0, q1, q2, q3, q4, q5, q6, q7, q8, z0, z1, z2, z3, z4, z5, z6, z7, z8⟩ := blk9 hQ
    clear hQ
    go_wp2_with fail
    clear q0 q1 q2 q3 q4 q5 q6 q7 q8 z0 z1 z2 z3 z4 z5 z6 z7 z8
    have hS := set9 w0 (w.heap.size + 1) 84 _ _ _ _ _ _ _ _ _ (.int .i64 0) (.int .i64 0) (.int .u8 0) (.int .i64 0) (.int .i64 0) (.int .i64 0) (.int .i64 0) (.bool false) (.int .u64 0) HQ0.out
    have hBf := below9 (g := w.heap.size + 1) HB0.out (Nat.le_succ _) (.int .i64 0) (.int .i64 0) (.int .u8 0) (.int .i64 0) (.int .i64 0) (.int .i64 0) (.int .i64 0) (.bool false) (.int .u64 0)
    generalize ((((((((w0.setCell ⟨w.heap.size + 1, 0, none⟩ (.int .i64 0)).setCell ⟨w.heap.size + 1, 1, none⟩ (.int .i64 0)).setCell ⟨w.heap.size + 1, 2, none⟩ (.int .u8 0)).setCell ⟨w.heap.size + 1, 3, none⟩ (.int .i64 0)).setCell ⟨w.heap.size + 1, 4, none⟩ (.int .i64 0)).setCell ⟨w.heap.size + 1, 5, none⟩ (.int .i64 0)).setCell ⟨w.heap.size + 1, 6, none⟩ (.int .i64 0)).setCell ⟨w.heap.size + 1, 7, none⟩ (.bool false)).setCell ⟨w.heap.size + 1, 8, none⟩ (.int .u64 0) = Wf at *
    exact bodyPost_ret (v := .tuple #[.agg #[.int .i64 0, .int .i64 0, .int .u8 0, .int .i64 0, .int .i64 0, .int .i64 0, .int .i64 0, .bool false, .int .u64 0], .int .i64 2]) (by simp [results, Try.results49, go_sem, World.cell?, hS]) rfl ⟨by rw [HZ.out (by rw [HE.out]; decide), HE.out]; rfl, hBf⟩
  rw [if_neg hst] at HE
  obtain ⟨_, d1, d2, d3, d4, d5, d6, d7, d8, d9, d10, d11, d12, d13⟩ := HX0.out
  dsimp only at d1 d2 d3 d4 d5 d6 d7 d8 d9 d10 d11 d12 d13
  go_wp2_with fail
  clear d1 d2 d3 d4 d5 d6 d7 d8 d9 d10 d11 d12 d13
  generalize (w.alloc (.cells #[.int .u8 (x1.toNat : Int), .int .i64 x2, .int .i64 x3, .int .i64 x4, .int .i64 x5, .int .i64 x6, .string x7, .int .u64 (x8.toNat : Int), .int .u64 (x9.toNat : Int), .int .u64 (x10.toNat : Int), .int .u8 (x11.toNat : Int), .int .u64 (x12.toNat : Int), .int .i64 x13] 91)).alloc (.cells #[.int .i64 0, .int .i64 0, .int .u8 0, .int .i64 0, .int .i64 0, .int .i64 0, .int .i64 0, .bool false, .int .u64 0] 84) = w0 at *
  refine (HR0.out _).mono ?_
  rintro e w1 ⟨rfl, hB⟩
  have HX1 := Lib.hid (HX0.out.later hB)
  have HQ1 : Hid (w1.heap[w.heap.size + 1]? = some (.cells #[.int .i64 0, .int .i64 0, .int .u8 0, .int .i64 0, .int .i64 0, .int .i64 0, .int .i64 0, .bool false, .int .u64 0] 84)) := (hB.block _ (Array.getElem?_eq_some_iff.1 HQ0.out).1).trans HQ0.out
  have HB1 := Lib.hid (Below.next HB0.out hB)
  clear hB HX0 HQ0 HB0 HR0
  by_cases hr : r0 = 0
  rotate_left
  · rw [if_pos hr] at HE
    have hb1 : (r0 == 0) = false := by simpa using hr
    have hb2 : (r0 != 0) = true := by simpa using hr
    have hQ := HQ1.out
    obtain ⟨hl1, q0, q1, q2, q3, q4, q5, q6, q7, q8, z0, z1, z2, z3, z4, z5, z6, z7, z8⟩ := blk9 hQ
    clear hQ
    go_wp2_with fail
    clear q0 q1 q2 q3 q4 q5 q6 q7 q8 z0 z1 z2 z3 z4 z5 z6 z7 z8
    have hS := set9 w1 (w.heap.size + 1) 84 _ _ _ _ _ _ _ _ _ (.int .i64 0) (.int .i64 0) (.int .u8 0) (.int .i64 0) (.int .i64 0) (.int .i64 0) (.int .i64 0) (.bool false) (.int .u64 0) HQ1.out
    have hBf := below9 (g := w.heap.size + 1) HB1.out (Nat.le_succ _) (.int .i64 0) (.int .i64 0) (.int .u8 0) (.int .i64 0) (.int .i64 0) (.int .i64 0) (.int .i64 0) (.bool false) (.int .u64 0)
    generalize ((((((((w1.setCell ⟨w.heap.size + 1, 0, none⟩ (.int .i64 0)).setCell ⟨w.heap.size + 1, 1, none⟩ (.int .i64 0)).setCell ⟨w.heap.size + 1, 2, none⟩ (.int .u8 0)).setCell ⟨w.heap.size + 1, 3, none⟩ (.int .i64 0)).setCell ⟨w.heap.size + 1, 4, none⟩ (.int .i64 0)).setCell ⟨w.heap.size + 1, 5, none⟩ (.int .i64 0)).setCell ⟨w.heap.size + 1, 6, none⟩ (.int .i64 0)).setCell ⟨w.heap.size + 1, 7, none⟩ (.bool false)).setCell ⟨w.heap.size + 1, 8, none⟩ (.int .u64 0) = Wf at *
    exact bodyPost_ret (v := .tuple #[.agg #[.int .i64 0, .int .i64 0, .int .u8 0, .int .i64 0, .int .i64 0, .int .i64 0, .int .i64 0, .bool false, .int .u64 0], .int .i64 2]) (by simp [results, Try.results49, go_sem, World.cell?, hS]) rfl ⟨by rw [HZ.out (by rw [HE.out]; decide), HE.out]; rfl, hBf⟩
  rw [if_neg (by simpa using hr)] at HE
  subst hr
  obtain ⟨_, d1, d2, d3, d4, d5, d6, d7, d8, d9, d10, d11, d12, d13⟩ := HX1.out
  dsimp only at d1 d2 d3 d4 d5 d6 d7 d8 d9 d10 d11 d12 d13
  go_wp2_with fail
  clear d1 d2 d3 d4 d5 d6 d7 d8 d9 d10 d11 d12 d13
  refine (HMU.out _).mono ?_
  rintro e w2 ⟨rfl, hB⟩
  have HX2 := Lib.hid (HX1.out.later hB)
  have HQ2 : Hid (w2.heap[w.heap.size + 1]? = some (.cells #[.int .i64 0, .int .i64 0, .int .u8 0, .int .i64 0, .int .i64 0, .int .i64 0, .int .i64 0, .bool false, .int .u64 0] 84)) := (hB.block _ (Array.getElem?_eq_some_iff.1 HQ1.out).1).trans HQ1.out
  have HB2 := Lib.hid (Below.next HB1.out hB)
  clear hB HX1 HQ1 HB1 HMU
  cases mb
  · rw [if_pos rfl] at HE
    have hQ := HQ2.out
    obtain ⟨hl1, q0, q1, q2, q3, q4, q5, q6, q7, q8, z0, z1, z2, z3, z4, z5, z6, z7, z8⟩ := blk9 hQ
    clear hQ
    go_wp2_with fail
    clear q0 q1 q2 q3 q4 q5 q6 q7 q8 z0 z1 z2 z3 z4 z5 z6 z7 z8
    have hS := set9 w2 (w.heap.size + 1) 84 _ _ _ _ _ _ _ _ _ (.int .i64 0) (.int .i64 0) (.int .u8 0) (.int .i64 0) (.int .i64 0) (.int .i64 0) (.int .i64 0) (.bool false) (.int .u64 0) HQ2.out
    have hBf := below9 (g := w.heap.size + 1) HB2.out (Nat.le_succ _) (.int .i64 0) (.int .i64 0) (.int .u8 0) (.int .i64 0) (.int .i64 0) (.int .i64 0) (.int .i64 0) (.bool false) (.int .u64 0)
    generalize ((((((((w2.setCell ⟨w.heap.size + 1, 0, none⟩ (.int .i64 0)).setCell ⟨w.heap.size + 1, 1, none⟩ (.int .i64 0)).setCell ⟨w.heap.size + 1, 2, none⟩ (.int .u8 0)).setCell ⟨w.heap.size + 1, 3, none⟩ (.int .i64 0)).setCell ⟨w.heap.size + 1, 4, none⟩ (.int .i64 0)).setCell ⟨w.heap.size + 1, 5, none⟩ (.int .i64 0)).setCell ⟨w.heap.size + 1, 6, none⟩ (.int .i64 0)).setCell ⟨w.heap.size + 1, 7, none⟩ (.bool false)).setCell ⟨w.heap.size + 1, 8, none⟩ (.int .u64 0) = Wf at *
    exact bodyPost_ret (v := .tuple #[.agg #[.int .i64 0, .int .i64 0, .int .u8 0, .int .i64 0, .int .i64 0, .int .i64 0, .int .i64 0, .bool false, .int .u64 0], .int .i64 2]) (by simp [results, Try.results49, go_sem, World.cell?, hS]) rfl ⟨by rw [HZ.out (by rw [HE.out]; decide), HE.out]; rfl, hBf⟩
  rw [if_neg (by decide)] at HE
  have HT2 := Lib.hid (HTG.out rfl)
  clear HTG
  obtain ⟨_, d1, d2, d3, d4, d5, d6, d7, d8, d9, d10, d11, d12, d13⟩ := HX2.out
  dsimp only at d1 d2 d3 d4 d5 d6 d7 d8 d9 d10 d11 d12 d13
  have hBA := below_alloc w2 (.cells #[.int .i64 x2] 3)
  have HOF2 := Lib.hid (HOF.out w2 (of1 w2 x2))
  go_wp2_with fail
  clear d1 d2 d3 d4 d5 d6 d7 d8 d9 d10 d11 d12 d13
  generalize w2.alloc (.cells #[.int .i64 x2] 3) = w3 at *
  have HX3 := Lib.hid (HX2.out.later hBA)
  have HQ3 : Hid (w3.heap[w.heap.size + 1]? = some (.cells #[.int .i64 0, .int .i64 0, .int .u8 0, .int .i64 0, .int .i64 0, .int .i64 0, .int .i64 0, .bool false, .int .u64 0] 84)) := (hBA.block _ (Array.getElem?_eq_some_iff.1 HQ2.out).1).trans HQ2.out
  have HB3 := Lib.hid (Below.next HB2.out hBA)
  clear hBA HX2 HQ2 HB2 HOF
  refine (HOF2.out).mono ?_
  rintro e w4 ⟨rfl, rfl⟩
  cases vu
  · rw [if_pos rfl] at HE
    simp only [Bool.false_eq_true, if_false]
    have hQ := HQ3.out
    obtain ⟨hl1, q0, q1, q2, q3, q4, q5, q6, q7, q8, z0, z1, z2, z3, z4, z5, z6, z7, z8⟩ := blk9 hQ
    clear hQ
    go_wp2_with fail
    clear q0 q1 q2 q3 q4 q5 q6 q7 q8 z0 z1 z2 z3 z4 z5 z6 z7 z8
    have hS := set9 w3 (w.heap.size + 1) 84 _ _ _ _ _ _ _ _ _ (.int .i64 0) (.int .i64 0) (.int .u8 0) (.int .i64 0) (.int .i64 0) (.int .i64 0) (.int .i64 0) (.bool false) (.int .u64 0) HQ3.out
    have hBf := below9 (g := w.heap.size + 1) HB3.out (Nat.le_succ _) (.int .i64 0) (.int .i64 0) (.int .u8 0) (.int .i64 0) (.int .i64 0) (.int .i64 0) (.int .i64 0) (.bool false) (.int .u64 0)
    generalize ((((((((w3.setCell ⟨w.heap.size + 1, 0, none⟩ (.int .i64 0)).setCell ⟨w.heap.size + 1, 1, none⟩ (.int .i64 0)).setCell ⟨w.heap.size + 1, 2, none⟩ (.int .u8 0)).setCell ⟨w.heap.size + 1, 3, none⟩ (.int .i64 0)).setCell ⟨w.heap.size + 1, 4, none⟩ (.int .i64 0)).setCell ⟨w.heap.size + 1, 5, none⟩ (.int .i64 0)).setCell ⟨w.heap.size + 1, 6, none⟩ (.int .i64 0)).setCell ⟨w.heap.size + 1, 7, none⟩ (.bool false)).setCell ⟨w.heap.size + 1, 8, none⟩ (.int .u64 0) = Wf at *
    exact bodyPost_ret (v := .tuple #[.agg #[.int .i64 0, .int .i64 0, .int .u8 0, .int .i64 0, .int .i64 0, .int .i64 0, .int .i64 0, .bool false, .int .u64 0], .int .i64 2]) (by simp [results, Try.results49, go_sem, World.cell?, hS]) rfl ⟨by rw [HZ.out (by rw [HE.out]; decide), HE.out]; rfl, hBf⟩
  rw [if_neg (by decide)] at HE
  simp only [if_true]
  have hos := HOS.out rfl
  subst hos
  go_wp2_with fail
  refine (rone_any 1 1 _).mono ?_
  rintro e w4 ⟨rfl, hB⟩
  have HX4 := Lib.hid (HX3.out.later hB)
  have HQ4 : Hid (w4.heap[w.heap.size + 1]? = some (.cells #[.int .i64 0, .int .i64 0, .int .u8 0, .int .i64 0, .int .i64 0, .int .i64 0, .int .i64 0, .bool false, .int .u64 0] 84)) := (hB.block _ (Array.getElem?_eq_some_iff.1 HQ3.out).1).trans HQ3.out
  have HB4 := Lib.hid (Below.next HB3.out hB)
  clear hB HX3 HQ3 HB3 HOF2
  go_wp2_with fail
  refine (HO1.out _ (HL.out.later HB4.out)).mono ?_
  rintro e w5 ⟨rfl, hB⟩
  have HX5 := Lib.hid (HX4.out.later hB)
  have HQ5 : Hid (w5.heap[w.heap.size + 1]? = some (.cells #[.int .i64 0, .int .i64 0, .int .u8 0, .int .i64 0, .int .i64 0, .int .i64 0, .int .i64 0, .bool false, .int .u64 0] 84)) := (hB.block _ (Array.getElem?_eq_some_iff.1 HQ4.out).1).trans HQ4.out
  have HB5 := Lib.hid (Below.next HB4.out hB)
  clear hB HX4 HQ4 HB4 HO1
  by_cases hrk : rk = 0
  rotate_left
  · rw [if_pos hrk] at HE
    have hb1 : (rk == 0) = false := by simpa using hrk
    have hb2 : (rk != 0) = true := by simpa using hrk
    have HNE := Lib.hid hrk
    have hQ := HQ5.out
    obtain ⟨hl1, q0, q1, q2, q3, q4, q5, q6, q7, q8, z0, z1, z2, z3, z4, z5, z6, z7, z8⟩ := blk9 hQ
    clear hQ
    go_wp2_with fail
    clear q0 q1 q2 q3 q4 q5 q6 q7 q8 z0 z1 z2 z3 z4 z5 z6 z7 z8
    have hS := set9 w5 (w.heap.size + 1) 84 _ _ _ _ _ _ _ _ _ (.int .i64 0) (.int .i64 0) (.int .u8 0) (.int .i64 0) (.int .i64 0) (.int .i64 0) (.int .i64 0) (.bool false) (.int .u64 0) HQ5.out
    have hBf := below9 (g := w.heap.size + 1) HB5.out (Nat.le_succ _) (.int .i64 0) (.int .i64 0) (.int .u8 0) (.int .i64 0) (.int .i64 0) (.int .i64 0) (.int .i64 0) (.bool false) (.int .u64 0)
    generalize ((((((((w5.setCell ⟨w.heap.size + 1, 0, none⟩ (.int .i64 0)).setCell ⟨w.heap.size + 1, 1, none⟩ (.int .i64 0)).setCell ⟨w.heap.size + 1, 2, none⟩ (.int .u8 0)).setCell ⟨w.heap.size + 1, 3, none⟩ (.int .i64 0)).setCell ⟨w.heap.size + 1, 4, none⟩ (.int .i64 0)).setCell ⟨w.heap.size + 1, 5, none⟩ (.int .i64 0)).setCell ⟨w.heap.size + 1, 6, none⟩ (.int .i64 0)).setCell ⟨w.heap.size + 1, 7, none⟩ (.bool false)).setCell ⟨w.heap.size + 1, 8, none⟩ (.int .u64 0) = Wf at *
    have hlf : w.heap.size + 1 < Wf.heap.size := (Array.getElem?_eq_some_iff.1 hS).1
    have hSa : ∀ o, (Wf.alloc o).heap[w.heap.size + 1]? = _ := fun o => (Below.heap_alloc Wf o _ hlf).trans hS
    exact bodyPost_ret (v := .tuple #[.agg #[.int .i64 0, .int .i64 0, .int .u8 0, .int .i64 0, .int .i64 0, .int .i64 0, .int .i64 0, .bool false, .int .u64 0], .int .i64 rk]) (by simp [results, Try.results49, go_sem, World.cell?, hSa]) rfl ⟨by rw [HZ.out (by rw [HE.out]; exact HNE.out), HE.out]; rfl, hBf.alloc hBf.size _⟩
  rw [if_neg (by simpa using hrk)] at HE
  subst hrk
  have hBA := below_alloc w5 (.cells #[.int .u64 (A1.toNat : Int), .int .u64 (A2.toNat : Int), .int .u64 (A3.toNat : Int)] 33)
  go_wp2_with fail
  generalize w5.alloc (.cells #[.int .u64 (A1.toNat : Int), .int .u64 (A2.toNat : Int), .int .u64 (A3.toNat : Int)] 33) = w6 at *
  have HX6 := Lib.hid (HX5.out.later hBA)
  have HQ6 : Hid (w6.heap[w.heap.size + 1]? = some (.cells #[.int .i64 0, .int .i64 0, .int .u8 0, .int .i64 0, .int .i64 0, .int .i64 0, .int .i64 0, .bool false, .int .u64 0] 84)) := (hBA.block _ (Array.getElem?_eq_some_iff.1 HQ5.out).1).trans HQ5.out
  have HB6 := Lib.hid (Below.next HB5.out hBA)
  clear hBA HX5 HQ5 HB5
  refine (HCK.out _ (IsOf.later HG.out HB6.out)).mono ?_
  rintro e w7 ⟨rfl, hB⟩
  have HX7 := Lib.hid (HX6.out.later hB)
  have HQ7 : Hid (w7.heap[w.heap.size + 1]? = some (.cells #[.int .i64 0, .int .i64 0, .int .u8 0, .int .i64 0, .int .i64 0, .int .i64 0, .int .i64 0, .bool false, .int .u64 0] 84)) := (hB.block _ (Array.getElem?_eq_some_iff.1 HQ6.out).1).trans HQ6.out
  have HB7 := Lib.hid (Below.next HB6.out hB)
  clear hB HX6 HQ6 HB6 HCK
  by_cases hgk : gk = 0
  rotate_left
  · rw [if_pos hgk] at HE
    have hb1 : (gk == 0) = false := by simpa using hgk
    have hb2 : (gk != 0) = true := by simpa using hgk
    have HNE := Lib.hid hgk
    have hQ := HQ7.out
    obtain ⟨hl1, q0, q1, q2, q3, q4, q5, q6, q7, q8, z0, z1, z2, z3, z4, z5, z6, z7, z8⟩ := blk9 hQ
    clear hQ
    go_wp2_with fail
    clear q0 q1 q2 q3 q4 q5 q6 q7 q8 z0 z1 z2 z3 z4 z5 z6 z7 z8
    have hS := set9 w7 (w.heap.size + 1) 84 _ _ _ _ _ _ _ _ _ (.int .i64 0) (.int .i64 0) (.int .u8 0) (.int .i64 0) (.int .i64 0) (.int .i64 0) (.int .i64 0) (.bool false) (.int .u64 0) HQ7.out
    have hBf := below9 (g := w.heap.size + 1) HB7.out (Nat.le_succ _) (.int .i64 0) (.int .i64 0) (.int .u8 0) (.int .i64 0) (.int .i64 0) (.int .i64 0) (.int .i64 0) (.bool false) (.int .u64 0)
    generalize ((((((((w7.setCell ⟨w.heap.size + 1, 0, none⟩ (.int .i64 0)).setCell ⟨w.heap.size + 1, 1, none⟩ (.int .i64 0)).setCell ⟨w.heap.size + 1, 2, none⟩ (.int .u8 0)).setCell ⟨w.heap.size + 1, 3, none⟩ (.int .i64 0)).setCell ⟨w.heap.size + 1, 4, none⟩ (.int .i64 0)).setCell ⟨w.heap.size + 1, 5, none⟩ (.int .i64 0)).setCell ⟨w.heap.size + 1, 6, none⟩ (.int .i64 0)).setCell ⟨w.heap.size + 1, 7, none⟩ (.bool false)).setCell ⟨w.heap.size + 1, 8, none⟩ (.int .u64 0) = Wf at *
    exact bodyPost_ret (v := .tuple #[.agg #[.int .i64 0, .int .i64 0, .int .u8 0, .int .i64 0, .int .i64 0, .int .i64 0, .int .i64 0, .bool false, .int .u64 0], .int .i64 gk]) (by simp [results, Try.results49, go_sem, World.cell?, hS]) rfl ⟨by rw [HZ.out (by rw [HE.out]; exact HNE.out), HE.out]; rfl, hBf⟩
  rw [if_neg (by simpa using hgk)] at HE
  subst hgk
  obtain ⟨_, d1, d2, d3, d4, d5, d6, d7, d8, d9, d10, d11, d12, d13⟩ := HX7.out
  dsimp only at d1 d2 d3 d4 d5 d6 d7 d8 d9 d10 d11 d12 d13
  go_wp2_with fail
  clear d1 d2 d3 d4 d5 d6 d7 d8 d9 d10 d11 d12 d13
  refine (HT2.out _ (IsOf.later HG.out HB7.out)).mono ?_
  rintro e w8 ⟨rfl, hB⟩
  have HX8 := Lib.hid (HX7.out.later hB)
  have HQ8 : Hid (w8.heap[w.heap.size + 1]? = some (.cells #[.int .i64 0, .int .i64 0, .int .u8 0, .int .i64 0, .int .i64 0, .int .i64 0, .int .i64 0, .bool false, .int .u64 0] 84)) := (hB.block _ (Array.getElem?_eq_some_iff.1 HQ7.out).1).trans HQ7.out
  have HB8 := Lib.hid (Below.next HB7.out hB)
  clear hB HX7 HQ7 HB7 HT2
  have HOV := Lib.hid (fun W h => over_any (rectO TO).c1 (rectO TO).r1 (rectO TO).c2 (rectO TO).r2 a len cap L hl W h)
  unfold overV rights3 at HOV
  have HGE := Lib.hid (HRK.out (rectO TO))
  have HOVR : Hid (gcE (rectO TO) L = 0 → ovV RV.ow (rectO TO) L = ovr RV.ow (rectO TO) L) := fun h => if_pos h
  change Hid (∀ W, IsL W a len L → Calls Try.prog 55 #[.agg #[.int .i64 (rectO TO).c1, .int .i64 (rectO TO).r1, .int .i64 (rectO TO).c2, .int .i64 (rectO TO).r2], .slice a len cap] W fun e w' => e = .returned (.tuple #[.agg #[.int .u64 ((ovV RV.rd (rectO TO) L).toNat : Int), .int .u64 ((ovV RV.wr (rectO TO) L).toNat : Int), .int .u64 ((ovV RV.ow (rectO TO) L).toNat : Int)], .int .i64 (gcE (rectO TO) L)]) ∧ Below W.heap.size W w') at HOV
  generalize ovV RV.rd (rectO TO) L = B1 at *
  generalize ovV RV.wr (rectO TO) L = B2 at *
  generalize ovV RV.ow (rectO TO) L = B3 at *
  generalize ovr RV.ow (rectO TO) L = BO at *
  generalize gcE (rectO TO) L = ge at *
  unfold rectV
  generalize rectO TO = tt at *
  generalize TO.isSome = tb at *
  obtain ⟨t1, t2, t3, t4⟩ := tt
  dsimp only at *
  cases tb
  · rw [if_pos rfl] at HE
    have hQ := HQ8.out
    obtain ⟨hl1, q0, q1, q2, q3, q4, q5, q6, q7, q8, z0, z1, z2, z3, z4, z5, z6, z7, z8⟩ := blk9 hQ
    clear hQ
    go_wp2_with fail
    clear q0 q1 q2 q3 q4 q5 q6 q7 q8 z0 z1 z2 z3 z4 z5 z6 z7 z8
    have hS := set9 w8 (w.heap.size + 1) 84 _ _ _ _ _ _ _ _ _ (.int .i64 0) (.int .i64 0) (.int .u8 0) (.int .i64 0) (.int .i64 0) (.int .i64 0) (.int .i64 0) (.bool false) (.int .u64 0) HQ8.out
    have hBf := below9 (g := w.heap.size + 1) HB8.out (Nat.le_succ _) (.int .i64 0) (.int .i64 0) (.int .u8 0) (.int .i64 0) (.int .i64 0) (.int .i64 0) (.int .i64 0) (.bool false) (.int .u64 0)
    generalize ((((((((w8.setCell ⟨w.heap.size + 1, 0, none⟩ (.int .i64 0)).setCell ⟨w.heap.size + 1, 1, none⟩ (.int .i64 0)).setCell ⟨w.heap.size + 1, 2, none⟩ (.int .u8 0)).setCell ⟨w.heap.size + 1, 3, none⟩ (.int .i64 0)).setCell ⟨w.heap.size + 1, 4, none⟩ (.int .i64 0)).setCell ⟨w.heap.size + 1, 5, none⟩ (.int .i64 0)).setCell ⟨w.heap.size + 1, 6, none⟩ (.int .i64 0)).setCell ⟨w.heap.size + 1, 7, none⟩ (.bool false)).setCell ⟨w.heap.size + 1, 8, none⟩ (.int .u64 0) = Wf at *
    have hlf : w.heap.size + 1 < Wf.heap.size := (Array.getElem?_eq_some_iff.1 hS).1
    have hSa : ∀ o, (Wf.alloc o).heap[w.heap.size + 1]? = _ := fun o => (Below.heap_alloc Wf o _ hlf).trans hS
    exact bodyPost_ret (v := .tuple #[.agg #[.int .i64 0, .int .i64 0, .int .u8 0, .int .i64 0, .int .i64 0, .int .i64 0, .int .i64 0, .bool false, .int .u64 0], .int .i64 6]) (by simp [results, Try.results49, go_sem, World.cell?, hSa]) rfl ⟨by rw [HZ.out (by rw [HE.out]; decide), HE.out]; rfl, hBf.alloc hBf.size _⟩
  rw [if_neg (by decide)] at HE
  have hBA := below_alloc w8 (.cells #[.int .i64 t1, .int .i64 t2, .int .i64 t3, .int .i64 t4] 30)
  have HF9 := Lib.hid (Four.start w8 t1 t2 t3 t4 30)
  obtain ⟨_, f1, f2, f3, f4⟩ := HF9.out
  go_wp2_with fail
  clear f1 f2 f3 f4
  generalize w8.alloc (.cells #[.int .i64 t1, .int .i64 t2, .int .i64 t3, .int .i64 t4] 30) = w9 at *
  have HX9 := Lib.hid (HX8.out.later hBA)
  have HQ9 : Hid (w9.heap[w.heap.size + 1]? = some (.cells #[.int .i64 0, .int .i64 0, .int .u8 0, .int .i64 0, .int .i64 0, .int .i64 0, .int .i64 0, .bool false, .int .u64 0] 84)) := (hBA.block _ (Array.getElem?_eq_some_iff.1 HQ8.out).1).trans HQ8.out
  have HB9 := Lib.hid (Below.next HB8.out hBA)
  clear hBA HX8 HQ8 HB8
  refine (HOV.out _ (HL.out.later HB9.out)).mono ?_
  rintro e wa ⟨rfl, hB⟩
  have HFa := Lib.hid (HF9.out.later hB)
  have HXa := Lib.hid (HX9.out.later hB)
  have HQa : Hid (wa.heap[w.heap.size + 1]? = some (.cells #[.int .i64 0, .int .i64 0, .int .u8 0, .int .i64 0, .int .i64 0, .int .i64 0, .int .i64 0, .bool false, .int .u64 0] 84)) := (hB.block _ (Array.getElem?_eq_some_iff.1 HQ9.out).1).trans HQ9.out
  have HBa := Lib.hid (Below.next HB9.out hB)
  clear hB HX9 HQ9 HB9 HOV HF9
  cases hck : (⟨t1, t2, t3, t4⟩ : R4).ck
  · rw [hck, if_pos rfl] at HE
    rw [hck, if_neg (by decide)] at HGE
    have hge := HGE.out
    subst hge
    have hQ := HQa.out
    obtain ⟨hl1, q0, q1, q2, q3, q4, q5, q6, q7, q8, z0, z1, z2, z3, z4, z5, z6, z7, z8⟩ := blk9 hQ
    clear hQ
    go_wp2_with fail
    clear q0 q1 q2 q3 q4 q5 q6 q7 q8 z0 z1 z2 z3 z4 z5 z6 z7 z8
    have hS := set9 wa (w.heap.size + 1) 84 _ _ _ _ _ _ _ _ _ (.int .i64 0) (.int .i64 0) (.int .u8 0) (.int .i64 0) (.int .i64 0) (.int .i64 0) (.int .i64 0) (.bool false) (.int .u64 0) HQa.out
    have hBf := below9 (g := w.heap.size + 1) HBa.out (Nat.le_succ _) (.int .i64 0) (.int .i64 0) (.int .u8 0) (.int .i64 0) (.int .i64 0) (.int .i64 0) (.int .i64 0) (.bool false) (.int .u64 0)
    generalize ((((((((wa.setCell ⟨w.heap.size + 1, 0, none⟩ (.int .i64 0)).setCell ⟨w.heap.size + 1, 1, none⟩ (.int .i64 0)).setCell ⟨w.heap.size + 1, 2, none⟩ (.int .u8 0)).setCell ⟨w.heap.size + 1, 3, none⟩ (.int .i64 0)).setCell ⟨w.heap.size + 1, 4, none⟩ (.int .i64 0)).setCell ⟨w.heap.size + 1, 5, none⟩ (.int .i64 0)).setCell ⟨w.heap.size + 1, 6, none⟩ (.int .i64 0)).setCell ⟨w.heap.size + 1, 7, none⟩ (.bool false)).setCell ⟨w.heap.size + 1, 8, none⟩ (.int .u64 0) = Wf at *
    have hlf : w.heap.size + 1 < Wf.heap.size := (Array.getElem?_eq_some_iff.1 hS).1
    have hSa : ∀ o, (Wf.alloc o).heap[w.heap.size + 1]? = _ := fun o => (Below.heap_alloc Wf o _ hlf).trans hS
    exact bodyPost_ret (v := .tuple #[.agg #[.int .i64 0, .int .i64 0, .int .u8 0, .int .i64 0, .int .i64 0, .int .i64 0, .int .i64 0, .bool false, .int .u64 0], .int .i64 3]) (by simp [results, Try.results49, go_sem, World.cell?, hSa]) rfl ⟨by rw [HZ.out (by rw [HE.out]; decide), HE.out]; rfl, hBf.alloc hBf.size _⟩
  rw [hck, if_neg (by decide)] at HE
  rw [hck, if_pos rfl] at HGE
  have hge := HGE.out
  subst hge
  have HBO := Lib.hid (HOVR.out rfl)
  clear hck HGE HOVR
  have hba := below_alloc wa (.cells #[.int .u64 (B1.toNat : Int), .int .u64 (B2.toNat : Int), .int .u64 (B3.toNat : Int)] 33)
  obtain ⟨_, f1, f2, f3, f4⟩ := HFa.out.later hba
  obtain ⟨_, d1, d2, d3, d4, d5, d6, d7, d8, d9, d10, d11, d12, d13⟩ := HXa.out.later hba
  obtain ⟨_, b1, b2, b3⟩ := Box3.start wa (B1.toNat : Int) (B2.toNat : Int) (B3.toNat : Int) 33
  dsimp only at d1 d2 d3 d4 d5 d6 d7 d8 d9 d10 d11 d12 d13
  have hQ := HQa.out
  obtain ⟨hl1, q0, q1, q2, q3, q4, q5, q6, q7, q8, z0, z1, z2, z3, z4, z5, z6, z7, z8⟩ := blk9 hQ
  clear hQ
  have hor := bits_or (bitW x2.toNat) B3
  go_wp2_with fail
  clear q0 q1 q2 q3 q4 q5 q6 q7 q8 z0 z1 z2 z3 z4 z5 z6 z7 z8
  have hS := set9 wa (w.heap.size + 1) 84 _ _ _ _ _ _ _ _ _ (.int .i64 step) (.int .i64 x2) (.int .u8 (x1.toNat : Int)) (.int .i64 t1) (.int .i64 t2) (.int .i64 t3) (.int .i64 t4) (.bool done) (.int .u64 (((bitW x2.toNat).toNat ||| B3.toNat : Nat) : Int)) HQa.out
  have hBf := below9 (g := w.heap.size + 1) HBa.out (Nat.le_succ _) (.int .i64 step) (.int .i64 x2) (.int .u8 (x1.toNat : Int)) (.int .i64 t1) (.int .i64 t2) (.int .i64 t3) (.int .i64 t4) (.bool done) (.int .u64 (((bitW x2.toNat).toNat ||| B3.toNat : Nat) : Int))
  generalize ((((((((wa.setCell ⟨w.heap.size + 1, 0, none⟩ (.int .i64 step)).setCell ⟨w.heap.size + 1, 1, none⟩ (.int .i64 x2)).setCell ⟨w.heap.size + 1, 2, none⟩ (.int .u8 (x1.toNat : Int))).setCell ⟨w.heap.size + 1, 3, none⟩ (.int .i64 t1)).setCell ⟨w.heap.size + 1, 4, none⟩ (.int .i64 t2)).setCell ⟨w.heap.size + 1, 5, none⟩ (.int .i64 t3)).setCell ⟨w.heap.size + 1, 6, none⟩ (.int .i64 t4)).setCell ⟨w.heap.size + 1, 7, none⟩ (.bool done)).setCell ⟨w.heap.size + 1, 8, none⟩ (.int .u64 (((bitW x2.toNat).toNat ||| B3.toNat : Nat) : Int)) = Wf at *
  have hlf : w.heap.size + 1 < Wf.heap.size := (Array.getElem?_eq_some_iff.1 hS).1
  have hSa : ∀ o, (Wf.alloc o).heap[w.heap.size + 1]? = _ := fun o => (Below.heap_alloc Wf o _ hlf).trans hS
  exact bodyPost_ret (v := .tuple #[.agg #[.int .i64 step, .int .i64 x2, .int .u8 (x1.toNat : Int), .int .i64 t1, .int .i64 t2, .int .i64 t3, .int .i64 t4, .bool done, .int .u64 (((bitW x2.toNat).toNat ||| B3.toNat : Nat) : Int)], .int .i64 0]) (by simp [results, Try.results49, go_sem, World.cell?, hSa]) rfl ⟨by rw [HY.out HE.out, HYO.out, HE.out, ← HBO.out]; unfold cellsEV; dsimp only; rw [BitVec.toNat_or], hBf.alloc hBf.size _⟩
end Go.Proofs.Ytndijajaddkbhaa.Re
