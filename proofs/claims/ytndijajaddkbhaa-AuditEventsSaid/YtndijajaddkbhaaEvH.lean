/- The entry for an operation: the specification's side. -/
import Derived.Test.YtndijajaddkbhaaEvG
import Derived.Test.YtndijajaddkbhaaSeqU
namespace Go.Proofs.Ytndijajaddkbhaa.Re
open Go.RowKit AM
set_option linter.unusedVariables false
set_option linter.unusedSimpArgs false
attribute [local simp] DepA isB rsAt
theorem BoxOP.keepH {w w' : World} {p n : Nat} {r : OP} (h : BoxOP w p r) (hB : Below n w w') (hp : p < n) : BoxOP w' p r := by
  obtain ⟨h0, h1, h2, h3, h4, h5, h6, h7, h8, h9, h10, h11, h12, h13⟩ := h
  have hc : ∀ j, w'.cell? ⟨p, j, none⟩ = w.cell? ⟨p, j, none⟩ := fun j => hB.cell (p := ⟨p, j, none⟩) hp
  exact ⟨Nat.lt_of_lt_of_le h0 hB.size, by rw [hc]; exact h1, by rw [hc]; exact h2, by rw [hc]; exact h3, by rw [hc]; exact h4, by rw [hc]; exact h5, by rw [hc]; exact h6, by rw [hc]; exact h7, by rw [hc]; exact h8, by rw [hc]; exact h9, by rw [hc]; exact h10, by rw [hc]; exact h11, by rw [hc]; exact h12, by rw [hc]; exact h13⟩
theorem eval_put {a : Act} {d t : Nat} {v x : Value} (hne : d ≠ t) (h : a.eval (.tmp t) = x) : (a.put (some d) v).eval (.tmp t) = x := by
  rw [← h]
  simp [Act.put, Act.eval, hne, Array.getD_eq_getD_getElem?]

theorem sto9 {act : Act} {X : World} {g : Nat} (s1 u1 k1 c1 c2 c3 c4 : Int) (dn : Bool) (tt : Int) (K : Value → World → Prop) (ty : TypeId) (pos : String) (aft : Array Edge)
    (h3 : act.eval (.tmp 101) = .agg #[.int .i64 s1, .int .i64 u1, .int .u8 k1, .int .i64 c1, .int .i64 c2, .int .i64 c3, .int .i64 c4, .bool dn, .int .u64 tt]) (h4 : act.eval (.tmp 10) = .pointer (some ⟨g, 0, none⟩))
    (hQ : X.heap[g]? = some (.cells #[.int .i64 0, .int .i64 0, .int .u8 0, .int .i64 0, .int .i64 0, .int .i64 0, .int .i64 0, .bool false, .int .u64 0] 84)) (hK : ∀ v, K v (((((((((X.setCell ⟨g, 0, none⟩ (.int .i64 s1)).setCell ⟨g, 1, none⟩ (.int .i64 u1)).setCell ⟨g, 2, none⟩ (.int .u8 k1)).setCell ⟨g, 3, none⟩ (.int .i64 c1)).setCell ⟨g, 4, none⟩ (.int .i64 c2)).setCell ⟨g, 5, none⟩ (.int .i64 c3)).setCell ⟨g, 6, none⟩ (.int .i64 c4)).setCell ⟨g, 7, none⟩ (.bool dn)).setCell ⟨g, 8, none⟩ (.int .u64 tt))) : OperR Try.prog { dst := none, op := .store 84 (.tmp 10) (.tmp 101), type := ty, pos := pos, after := aft, guard := none } act.eval X K := by
  obtain ⟨hl1, q0, q1, q2, q3, q4, q5, q6, q7, q8, z0, z1, z2, z3, z4, z5, z6, z7, z8⟩ := blk9 hQ
  have h3' : act.tmps[101]?.getD undef = _ := (by simpa [Act.eval, Array.getD_eq_getD_getElem?] using h3)
  have h4' : act.tmps[10]?.getD undef = _ := (by simpa [Act.eval, Array.getD_eq_getD_getElem?] using h4)
  unfold OperR
  go_simp
  exact hK _
theorem asg0 {act : Act} {X : World} (K : Value → World → Prop) (ty : TypeId) (pos : String) (aft : Array Edge) (hK : K (.int .i64 0) X) : OperR Try.prog { dst := some 11, op := .assign (.const (.int .i64 0)), type := ty, pos := pos, after := aft, guard := none } act.eval X K := by
  unfold OperR
  go_simp
  exact hK
set_option maxRecDepth 100000 in
set_option maxHeartbeats 12800000 in
theorem sev_any (step : Int) (g : OP) (done : Bool) (r0 : Int) (HR0 : Hid (∀ W, Calls Try.prog 52 #[.agg (cellsOP g).toArray] W fun e w' => e = .returned (.int .i64 r0) ∧ Below W.heap.size W w'))
    (a : Option Addr) (len cap : Nat) (L : List RV) (hl : len ≤ 100000) (a' : Option Addr) (len' cap' : Nat) (G : List GV) (hl' : len' ≤ 100000) (w : World) (hL : IsL w a len L) (hG : IsG w a' len' G) :
    Calls Try.prog 50 #[.int .i64 step, .agg (cellsOP g).toArray, .bool done, .slice a len cap, .slice a' len' cap'] w fun e w' => e = .returned (.tuple #[.agg (cellsEV (evV step r0 g done L G)).toArray, .int .i64 (evC step r0 g L G)]) ∧ Below w.heap.size w w' := by
  have HL := Lib.hid hL
  have HG := Lib.hid hG
  have HGL := Lib.hid hG.1
  clear hL hG
  have HE : Hid (evC step r0 g L G = if step < 0 then 2 else if ¬ r0 = 0 then 2 else if mutB g.kd.toNat = false then 2 else if vld g.us = false then 2 else if ¬ (rck 64 L).2 = 0 then (rck 64 L).2 else
    if ¬ (gck 64 G).2 = 0 then (gck 64 G).2 else if (tarO g G).isSome = false then 6 else if (rectO (tarO g G)).ck = false then 3 else 0) := rfl
  have HZ : Hid (¬ evC step r0 g L G = 0 → evV step r0 g done L G = zeroE) := fun h => if_neg h
  have HY : Hid (evC step r0 g L G = 0 → evV step r0 g done L G = evO step g done L G) := fun h => if_pos h
  generalize evC step r0 g L G = E at *
  generalize evV step r0 g done L G = V at *
  have HYO : Hid (evO step g done L G = ⟨step, g.us, g.kd, (rectO (tarO g G)).c1, (rectO (tarO g G)).r1, (rectO (tarO g G)).c2, (rectO (tarO g G)).r2, done, bitW g.us.toNat ||| ovr RV.ow (rectO (tarO g G)) L⟩) := rfl
  generalize evO step g done L G = EO at *
  have HMU := Lib.hid (smut_any g)
  have HUS := Lib.hid (suser_any g.us)
  have HRC := Lib.hid (fun W h => scheck_big 64 a len cap L W h)
  have HGC := Lib.hid (fun W h => pscheck_any 64 a' len' cap' G W h)
  unfold ckV at HRC HGC
  have HOW : Hid (∀ r, ownT g = some r → tarO g G = some r) := fun r h => tarO_own h
  have HIN : Hid (ownT g = none → ¬ g.idx < 0 → ∀ (k : Nat), g.idx = (k : Int) → ∀ hl : k < G.length, tarO g G = some ⟨G[k].c1, G[k].r1, G[k].c2, G[k].r2⟩) := fun h hi k => tarO_in h hi k
  have HNG : Hid (ownT g = none → g.idx < 0 → tarO g G = none) := fun h hi => tarO_neg h hi
  have HOU : Hid (ownT g = none → ¬ g.idx < 0 → (G.length : Int) ≤ g.idx → tarO g G = none) := fun h hi ho => tarO_out h hi ho
  have HOT : Hid (ownT g = if g.kd.toNat = 9 then none else some ⟨g.c1, g.r1, g.c2, g.r2⟩) := rfl
  have HVU : Hid (vld g.us = true → ∃ u : Nat, u < 64 ∧ g.us = (u : Int)) := fun h => by
    have h2 := h
    unfold vld at h2
    simp at h2
    exact ⟨g.us.toNat, by omega, by omega⟩
  have HRK : Hid (∀ t : R4, gcE t L = if t.ck = true then (rck 64 L).2 else 3) := fun t => rfl
  have HX0 := Lib.hid ((BoxOP.start w g 91).later (below_alloc _ (.cells #[.int .i64 0, .int .i64 0, .int .u8 0, .int .i64 0, .int .i64 0, .int .i64 0, .int .i64 0, .bool false, .int .u64 0] 84)))
  have hQ0 : ((w.alloc (.cells (cellsOP g).toArray 91)).alloc (.cells #[.int .i64 0, .int .i64 0, .int .u8 0, .int .i64 0, .int .i64 0, .int .i64 0, .int .i64 0, .bool false, .int .u64 0] 84)).heap[w.heap.size + 1]? = some (.cells #[.int .i64 0, .int .i64 0, .int .u8 0, .int .i64 0, .int .i64 0, .int .i64 0, .int .i64 0, .bool false, .int .u64 0] 84) := by
    have := heap_alloc_new (w.alloc (.cells (cellsOP g).toArray 91)) (.cells #[.int .i64 0, .int .i64 0, .int .u8 0, .int .i64 0, .int .i64 0, .int .i64 0, .int .i64 0, .bool false, .int .u64 0] 84)
    rwa [World.size_alloc] at this
  have HQ0 := Lib.hid hQ0
  have HB0 := Lib.hid (Below.next (below_alloc w (.cells (cellsOP g).toArray 91)) (below_alloc _ (.cells #[.int .i64 0, .int .i64 0, .int .u8 0, .int .i64 0, .int .i64 0, .int .i64 0, .int .i64 0, .bool false, .int .u64 0] 84)))
  clear hQ0
  generalize mutB g.kd.toNat = mb at *
  generalize tarO g G = TO at *
  generalize ownT g = ot at *
  generalize vld g.us = vu at *
  generalize (gck 64 G).2 = gk at *
  generalize (gck 64 G).1 = gk1 at *
  generalize (rck 64 L).2 = rk at *
  generalize (rck 64 L).1 = rk1 at *
  obtain ⟨x1, x2, x3, x4, x5, x6, x7, x8, x9, x10, x11, x12, x13⟩ := g
  unfold cellsOP at *
  dsimp only at *
  go_enter Try.func50, Try.ntmps50
  by_cases hst : step < 0
  · rw [if_pos hst] at HE
    go_upto_region 1 with fail
    generalize (w.alloc (.cells #[.int .u8 (x1.toNat : Int), .int .i64 x2, .int .i64 x3, .int .i64 x4, .int .i64 x5, .int .i64 x6, .string x7, .int .u64 (x8.toNat : Int), .int .u64 (x9.toNat : Int), .int .u64 (x10.toNat : Int), .int .u8 (x11.toNat : Int), .int .u64 (x12.toNat : Int), .int .i64 x13] 91)).alloc (.cells #[.int .i64 0, .int .i64 0, .int .u8 0, .int .i64 0, .int .i64 0, .int .i64 0, .int .i64 0, .bool false, .int .u64 0] 84) = w0 at *
    have hQ := HQ0.out
    obtain ⟨hl1, q0, q1, q2, q3, q4, q5, q6, q7, q8, z0, z1, z2, z3, z4, z5, z6, z7, z8⟩ := blk9 hQ
    clear hQ
    go_wp2_with fail
    clear q0 q1 q2 q3 q4 q5 q6 q7 q8 z0 z1 z2 z3 z4 z5 z6 z7 z8
    have hS := set9 w0 (w.heap.size + 1) 84 _ _ _ _ _ _ _ _ _ (.int .i64 0) (.int .i64 0) (.int .u8 0) (.int .i64 0) (.int .i64 0) (.int .i64 0) (.int .i64 0) (.bool false) (.int .u64 0) HQ0.out
    have hBf := below9 (g := w.heap.size + 1) HB0.out (Nat.le_succ _) (.int .i64 0) (.int .i64 0) (.int .u8 0) (.int .i64 0) (.int .i64 0) (.int .i64 0) (.int .i64 0) (.bool false) (.int .u64 0)
    generalize ((((((((w0.setCell ⟨w.heap.size + 1, 0, none⟩ (.int .i64 0)).setCell ⟨w.heap.size + 1, 1, none⟩ (.int .i64 0)).setCell ⟨w.heap.size + 1, 2, none⟩ (.int .u8 0)).setCell ⟨w.heap.size + 1, 3, none⟩ (.int .i64 0)).setCell ⟨w.heap.size + 1, 4, none⟩ (.int .i64 0)).setCell ⟨w.heap.size + 1, 5, none⟩ (.int .i64 0)).setCell ⟨w.heap.size + 1, 6, none⟩ (.int .i64 0)).setCell ⟨w.heap.size + 1, 7, none⟩ (.bool false)).setCell ⟨w.heap.size + 1, 8, none⟩ (.int .u64 0) = Wf at *
    exact bodyPost_ret (v := .tuple #[.agg #[.int .i64 0, .int .i64 0, .int .u8 0, .int .i64 0, .int .i64 0, .int .i64 0, .int .i64 0, .bool false, .int .u64 0], .int .i64 2]) (by simp [results, Try.results50, go_sem, World.cell?, hS]) rfl ⟨by rw [HZ.out (by rw [HE.out]; decide), HE.out]; rfl, hBf⟩
  rw [if_neg hst] at HE
  obtain ⟨_, d1, d2, d3, d4, d5, d6, d7, d8, d9, d10, d11, d12, d13⟩ := HX0.out
  dsimp only at d1 d2 d3 d4 d5 d6 d7 d8 d9 d10 d11 d12 d13
  go_wp2_with fail
  clear d1 d2 d3 d4 d5 d6 d7 d8 d9 d10 d11 d12 d13
  generalize (w.alloc (.cells #[.int .u8 (x1.toNat : Int), .int .i64 x2, .int .i64 x3, .int .i64 x4, .int .i64 x5, .int .i64 x6, .string x7, .int .u64 (x8.toNat : Int), .int .u64 (x9.toNat : Int), .int .u64 (x10.toNat : Int), .int .u8 (x11.toNat : Int), .int .u64 (x12.toNat : Int), .int .i64 x13] 91)).alloc (.cells #[.int .i64 0, .int .i64 0, .int .u8 0, .int .i64 0, .int .i64 0, .int .i64 0, .int .i64 0, .bool false, .int .u64 0] 84) = w0 at *
  refine (HR0.out _).mono ?_
  rintro e w1 ⟨rfl, hB⟩
  have HX1 := Lib.hid (HX0.out.later hB)
  have HQ1 : Hid (w1.heap[w.heap.size + 1]? = some (.cells #[.int .i64 0, .int .i64 0, .int .u8 0, .int .i64 0, .int .i64 0, .int .i64 0, .int .i64 0, .bool false, .int .u64 0] 84)) := (hB.block _ (Array.getElem?_eq_some_iff.1 HQ0.out).1).trans HQ0.out
  have HB1 := Lib.hid (Below.next HB0.out hB)
  clear hB HX0 HQ0 HB0 HR0
  by_cases hr : r0 = 0
  rotate_left
  · rw [if_pos hr] at HE
    have hb1 : (r0 == 0) = false := by simpa using hr
    have hb2 : (r0 != 0) = true := by simpa using hr
    have hQ := HQ1.out
    obtain ⟨hl1, q0, q1, q2, q3, q4, q5, q6, q7, q8, z0, z1, z2, z3, z4, z5, z6, z7, z8⟩ := blk9 hQ
    clear hQ
    go_wp2_with fail
    clear q0 q1 q2 q3 q4 q5 q6 q7 q8 z0 z1 z2 z3 z4 z5 z6 z7 z8
    have hS := set9 w1 (w.heap.size + 1) 84 _ _ _ _ _ _ _ _ _ (.int .i64 0) (.int .i64 0) (.int .u8 0) (.int .i64 0) (.int .i64 0) (.int .i64 0) (.int .i64 0) (.bool false) (.int .u64 0) HQ1.out
    have hBf := below9 (g := w.heap.size + 1) HB1.out (Nat.le_succ _) (.int .i64 0) (.int .i64 0) (.int .u8 0) (.int .i64 0) (.int .i64 0) (.int .i64 0) (.int .i64 0) (.bool false) (.int .u64 0)
    generalize ((((((((w1.setCell ⟨w.heap.size + 1, 0, none⟩ (.int .i64 0)).setCell ⟨w.heap.size + 1, 1, none⟩ (.int .i64 0)).setCell ⟨w.heap.size + 1, 2, none⟩ (.int .u8 0)).setCell ⟨w.heap.size + 1, 3, none⟩ (.int .i64 0)).setCell ⟨w.heap.size + 1, 4, none⟩ (.int .i64 0)).setCell ⟨w.heap.size + 1, 5, none⟩ (.int .i64 0)).setCell ⟨w.heap.size + 1, 6, none⟩ (.int .i64 0)).setCell ⟨w.heap.size + 1, 7, none⟩ (.bool false)).setCell ⟨w.heap.size + 1, 8, none⟩ (.int .u64 0) = Wf at *
    exact bodyPost_ret (v := .tuple #[.agg #[.int .i64 0, .int .i64 0, .int .u8 0, .int .i64 0, .int .i64 0, .int .i64 0, .int .i64 0, .bool false, .int .u64 0], .int .i64 2]) (by simp [results, Try.results50, go_sem, World.cell?, hS]) rfl ⟨by rw [HZ.out (by rw [HE.out]; decide), HE.out]; rfl, hBf⟩
  rw [if_neg (by simpa using hr)] at HE
  subst hr
  obtain ⟨_, d1, d2, d3, d4, d5, d6, d7, d8, d9, d10, d11, d12, d13⟩ := HX1.out
  dsimp only at d1 d2 d3 d4 d5 d6 d7 d8 d9 d10 d11 d12 d13
  go_wp2_with fail
  clear d1 d2 d3 d4 d5 d6 d7 d8 d9 d10 d11 d12 d13
  refine (HMU.out _).mono ?_
  rintro e w2 ⟨rfl, hB⟩
  have HX2 := Lib.hid (HX1.out.later hB)
  have HQ2 : Hid (w2.heap[w.heap.size + 1]? = some (.cells #[.int .i64 0, .int .i64 0, .int .u8 0, .int .i64 0, .int .i64 0, .int .i64 0, .int .i64 0, .bool false, .int .u64 0] 84)) := (hB.block _ (Array.getElem?_eq_some_iff.1 HQ1.out).1).trans HQ1.out
  have HB2 := Lib.hid (Below.next HB1.out hB)
  clear hB HX1 HQ1 HB1 HMU
  cases mb
  · rw [if_pos rfl] at HE
    have hQ := HQ2.out
    obtain ⟨hl1, q0, q1, q2, q3, q4, q5, q6, q7, q8, z0, z1, z2, z3, z4, z5, z6, z7, z8⟩ := blk9 hQ
    clear hQ
    go_wp2_with fail
    clear q0 q1 q2 q3 q4 q5 q6 q7 q8 z0 z1 z2 z3 z4 z5 z6 z7 z8
    have hS := set9 w2 (w.heap.size + 1) 84 _ _ _ _ _ _ _ _ _ (.int .i64 0) (.int .i64 0) (.int .u8 0) (.int .i64 0) (.int .i64 0) (.int .i64 0) (.int .i64 0) (.bool false) (.int .u64 0) HQ2.out
    have hBf := below9 (g := w.heap.size + 1) HB2.out (Nat.le_succ _) (.int .i64 0) (.int .i64 0) (.int .u8 0) (.int .i64 0) (.int .i64 0) (.int .i64 0) (.int .i64 0) (.bool false) (.int .u64 0)
    generalize ((((((((w2.setCell ⟨w.heap.size + 1, 0, none⟩ (.int .i64 0)).setCell ⟨w.heap.size + 1, 1, none⟩ (.int .i64 0)).setCell ⟨w.heap.size + 1, 2, none⟩ (.int .u8 0)).setCell ⟨w.heap.size + 1, 3, none⟩ (.int .i64 0)).setCell ⟨w.heap.size + 1, 4, none⟩ (.int .i64 0)).setCell ⟨w.heap.size + 1, 5, none⟩ (.int .i64 0)).setCell ⟨w.heap.size + 1, 6, none⟩ (.int .i64 0)).setCell ⟨w.heap.size + 1, 7, none⟩ (.bool false)).setCell ⟨w.heap.size + 1, 8, none⟩ (.int .u64 0) = Wf at *
    exact bodyPost_ret (v := .tuple #[.agg #[.int .i64 0, .int .i64 0, .int .u8 0, .int .i64 0, .int .i64 0, .int .i64 0, .int .i64 0, .bool false, .int .u64 0], .int .i64 2]) (by simp [results, Try.results50, go_sem, World.cell?, hS]) rfl ⟨by rw [HZ.out (by rw [HE.out]; decide), HE.out]; rfl, hBf⟩
  rw [if_neg (by decide)] at HE
  obtain ⟨_, d1, d2, d3, d4, d5, d6, d7, d8, d9, d10, d11, d12, d13⟩ := HX2.out
  dsimp only at d1 d2 d3 d4 d5 d6 d7 d8 d9 d10 d11 d12 d13
  go_wp2_with fail
  clear d1 d2 d3 d4 d5 d6 d7 d8 d9 d10 d11 d12 d13
  refine (HUS.out _).mono ?_
  rintro e w3 ⟨rfl, rfl⟩
  cases vu
  · rw [if_pos rfl] at HE
    have hQ := HQ2.out
    obtain ⟨hl1, q0, q1, q2, q3, q4, q5, q6, q7, q8, z0, z1, z2, z3, z4, z5, z6, z7, z8⟩ := blk9 hQ
    clear hQ
    go_wp2_with fail
    clear q0 q1 q2 q3 q4 q5 q6 q7 q8 z0 z1 z2 z3 z4 z5 z6 z7 z8
    have hS := set9 w2 (w.heap.size + 1) 84 _ _ _ _ _ _ _ _ _ (.int .i64 0) (.int .i64 0) (.int .u8 0) (.int .i64 0) (.int .i64 0) (.int .i64 0) (.int .i64 0) (.bool false) (.int .u64 0) HQ2.out
    have hBf := below9 (g := w.heap.size + 1) HB2.out (Nat.le_succ _) (.int .i64 0) (.int .i64 0) (.int .u8 0) (.int .i64 0) (.int .i64 0) (.int .i64 0) (.int .i64 0) (.bool false) (.int .u64 0)
    generalize ((((((((w2.setCell ⟨w.heap.size + 1, 0, none⟩ (.int .i64 0)).setCell ⟨w.heap.size + 1, 1, none⟩ (.int .i64 0)).setCell ⟨w.heap.size + 1, 2, none⟩ (.int .u8 0)).setCell ⟨w.heap.size + 1, 3, none⟩ (.int .i64 0)).setCell ⟨w.heap.size + 1, 4, none⟩ (.int .i64 0)).setCell ⟨w.heap.size + 1, 5, none⟩ (.int .i64 0)).setCell ⟨w.heap.size + 1, 6, none⟩ (.int .i64 0)).setCell ⟨w.heap.size + 1, 7, none⟩ (.bool false)).setCell ⟨w.heap.size + 1, 8, none⟩ (.int .u64 0) = Wf at *
    exact bodyPost_ret (v := .tuple #[.agg #[.int .i64 0, .int .i64 0, .int .u8 0, .int .i64 0, .int .i64 0, .int .i64 0, .int .i64 0, .bool false, .int .u64 0], .int .i64 2]) (by simp [results, Try.results50, go_sem, World.cell?, hS]) rfl ⟨by rw [HZ.out (by rw [HE.out]; decide), HE.out]; rfl, hBf⟩
  rw [if_neg (by decide)] at HE
  obtain ⟨u, hu, rfl⟩ := HVU.out rfl
  clear HUS HVU
  go_wp2_with fail
  refine (HRC.out _ (HL.out.later HB2.out)).mono ?_
  rintro e w3 ⟨rfl, hB⟩
  have HX3 := Lib.hid (HX2.out.later hB)
  have HQ3 : Hid (w3.heap[w.heap.size + 1]? = some (.cells #[.int .i64 0, .int .i64 0, .int .u8 0, .int .i64 0, .int .i64 0, .int .i64 0, .int .i64 0, .bool false, .int .u64 0] 84)) := (hB.block _ (Array.getElem?_eq_some_iff.1 HQ2.out).1).trans HQ2.out
  have HB3 := Lib.hid (Below.next HB2.out hB)
  clear hB HX2 HQ2 HB2 HRC
  by_cases hrk : rk = 0
  rotate_left
  · rw [if_pos hrk] at HE
    have hb1 : (rk == 0) = false := by simpa using hrk
    have hb2 : (rk != 0) = true := by simpa using hrk
    have HNE := Lib.hid hrk
    have hQ := HQ3.out
    obtain ⟨hl1, q0, q1, q2, q3, q4, q5, q6, q7, q8, z0, z1, z2, z3, z4, z5, z6, z7, z8⟩ := blk9 hQ
    clear hQ
    go_wp2_with fail
    clear q0 q1 q2 q3 q4 q5 q6 q7 q8 z0 z1 z2 z3 z4 z5 z6 z7 z8
    have hS := set9 w3 (w.heap.size + 1) 84 _ _ _ _ _ _ _ _ _ (.int .i64 0) (.int .i64 0) (.int .u8 0) (.int .i64 0) (.int .i64 0) (.int .i64 0) (.int .i64 0) (.bool false) (.int .u64 0) HQ3.out
    have hBf := below9 (g := w.heap.size + 1) HB3.out (Nat.le_succ _) (.int .i64 0) (.int .i64 0) (.int .u8 0) (.int .i64 0) (.int .i64 0) (.int .i64 0) (.int .i64 0) (.bool false) (.int .u64 0)
    generalize ((((((((w3.setCell ⟨w.heap.size + 1, 0, none⟩ (.int .i64 0)).setCell ⟨w.heap.size + 1, 1, none⟩ (.int .i64 0)).setCell ⟨w.heap.size + 1, 2, none⟩ (.int .u8 0)).setCell ⟨w.heap.size + 1, 3, none⟩ (.int .i64 0)).setCell ⟨w.heap.size + 1, 4, none⟩ (.int .i64 0)).setCell ⟨w.heap.size + 1, 5, none⟩ (.int .i64 0)).setCell ⟨w.heap.size + 1, 6, none⟩ (.int .i64 0)).setCell ⟨w.heap.size + 1, 7, none⟩ (.bool false)).setCell ⟨w.heap.size + 1, 8, none⟩ (.int .u64 0) = Wf at *
    exact bodyPost_ret (v := .tuple #[.agg #[.int .i64 0, .int .i64 0, .int .u8 0, .int .i64 0, .int .i64 0, .int .i64 0, .int .i64 0, .bool false, .int .u64 0], .int .i64 rk]) (by simp [results, Try.results50, go_sem, World.cell?, hS]) rfl ⟨by rw [HZ.out (by rw [HE.out]; exact HNE.out), HE.out]; rfl, hBf⟩
  rw [if_neg (by simpa using hrk)] at HE
  subst hrk
  go_wp2_with fail
  refine (HGC.out _ (IsOf.later HG.out HB3.out)).mono ?_
  rintro e w4 ⟨rfl, hB⟩
  have HX4 := Lib.hid (HX3.out.later hB)
  have HQ4 : Hid (w4.heap[w.heap.size + 1]? = some (.cells #[.int .i64 0, .int .i64 0, .int .u8 0, .int .i64 0, .int .i64 0, .int .i64 0, .int .i64 0, .bool false, .int .u64 0] 84)) := (hB.block _ (Array.getElem?_eq_some_iff.1 HQ3.out).1).trans HQ3.out
  have HB4 := Lib.hid (Below.next HB3.out hB)
  clear hB HX3 HQ3 HB3 HGC
  by_cases hgk : gk = 0
  rotate_left
  · rw [if_pos hgk] at HE
    have hb1 : (gk == 0) = false := by simpa using hgk
    have hb2 : (gk != 0) = true := by simpa using hgk
    have HNE := Lib.hid hgk
    have hQ := HQ4.out
    obtain ⟨hl1, q0, q1, q2, q3, q4, q5, q6, q7, q8, z0, z1, z2, z3, z4, z5, z6, z7, z8⟩ := blk9 hQ
    clear hQ
    go_wp2_with fail
    clear q0 q1 q2 q3 q4 q5 q6 q7 q8 z0 z1 z2 z3 z4 z5 z6 z7 z8
    have hS := set9 w4 (w.heap.size + 1) 84 _ _ _ _ _ _ _ _ _ (.int .i64 0) (.int .i64 0) (.int .u8 0) (.int .i64 0) (.int .i64 0) (.int .i64 0) (.int .i64 0) (.bool false) (.int .u64 0) HQ4.out
    have hBf := below9 (g := w.heap.size + 1) HB4.out (Nat.le_succ _) (.int .i64 0) (.int .i64 0) (.int .u8 0) (.int .i64 0) (.int .i64 0) (.int .i64 0) (.int .i64 0) (.bool false) (.int .u64 0)
    generalize ((((((((w4.setCell ⟨w.heap.size + 1, 0, none⟩ (.int .i64 0)).setCell ⟨w.heap.size + 1, 1, none⟩ (.int .i64 0)).setCell ⟨w.heap.size + 1, 2, none⟩ (.int .u8 0)).setCell ⟨w.heap.size + 1, 3, none⟩ (.int .i64 0)).setCell ⟨w.heap.size + 1, 4, none⟩ (.int .i64 0)).setCell ⟨w.heap.size + 1, 5, none⟩ (.int .i64 0)).setCell ⟨w.heap.size + 1, 6, none⟩ (.int .i64 0)).setCell ⟨w.heap.size + 1, 7, none⟩ (.bool false)).setCell ⟨w.heap.size + 1, 8, none⟩ (.int .u64 0) = Wf at *
    exact bodyPost_ret (v := .tuple #[.agg #[.int .i64 0, .int .i64 0, .int .u8 0, .int .i64 0, .int .i64 0, .int .i64 0, .int .i64 0, .bool false, .int .u64 0], .int .i64 gk]) (by simp [results, Try.results50, go_sem, World.cell?, hS]) rfl ⟨by rw [HZ.out (by rw [HE.out]; exact HNE.out), HE.out]; rfl, hBf⟩
  rw [if_neg (by simpa using hgk)] at HE
  subst hgk
  obtain ⟨_, d1, d2, d3, d4, d5, d6, d7, d8, d9, d10, d11, d12, d13⟩ := HX4.out
  dsimp only at d1 d2 d3 d4 d5 d6 d7 d8 d9 d10 d11 d12 d13
  have hba := below_alloc w4 (.cells #[.int .i64 x3, .int .i64 x4, .int .i64 x5, .int .i64 x6] 30)
  have HF5 := Lib.hid (Four.start w4 x3 x4 x5 x6 30)
  have HP5 : Hid ((w4.alloc (.cells #[.int .i64 x3, .int .i64 x4, .int .i64 x5, .int .i64 x6] 30)).heap[w4.heap.size]? = some (.cells #[.int .i64 x3, .int .i64 x4, .int .i64 x5, .int .i64 x6] 30)) := heap_alloc_new _ _
  have hz4 : w.heap.size + 1 < w4.heap.size := (Array.getElem?_eq_some_iff.1 HQ4.out).1
  have hz5 : w4.heap.size < (w4.alloc (.cells #[.int .i64 x3, .int .i64 x4, .int .i64 x5, .int .i64 x6] 30)).heap.size := by simp
  have HX5 := Lib.hid (HX4.out.later hba)
  have HQ5 : Hid ((w4.alloc (.cells #[.int .i64 x3, .int .i64 x4, .int .i64 x5, .int .i64 x6] 30)).heap[w.heap.size + 1]? = some (.cells #[.int .i64 0, .int .i64 0, .int .u8 0, .int .i64 0, .int .i64 0, .int .i64 0, .int .i64 0, .bool false, .int .u64 0] 84)) := (hba.block _ (Array.getElem?_eq_some_iff.1 HQ4.out).1).trans HQ4.out
  have HB5 := Lib.hid (Below.next HB4.out hba)
  clear hba HX4 HQ4 HB4
  go_upto_region 10 with fail
  clear d1 d2 d3 d4 d5 d6 d7 d8 d9 d10 d11 d12 d13
  generalize w4.alloc (.cells #[.int .i64 x3, .int .i64 x4, .int .i64 x5, .int .i64 x6] 30) = w5 at *
  generalize w4.heap.size = p at *
  obtain ⟨_, d1, d2, d3, d4, d5, d6, d7, d8, d9, d10, d11, d12, d13⟩ := HX5.out
  dsimp only at d1 d2 d3 d4 d5 d6 d7 d8 d9 d10 d11 d12 d13
  by_cases hk9 : x1.toNat = 9
  · rw [if_pos hk9] at HOT
    have hoe := HOT.out
    subst hoe
    have e9 : (((x1.toNat : Nat) : Int) == 9) = true := by rw [hk9]; rfl
    clear hk9
    by_cases hn : x13 < 0
    · have hto := HNG.out rfl hn
      subst hto
      rw [if_pos (by rfl)] at HE
      have hQ := HQ5.out
      obtain ⟨hl1, q0, q1, q2, q3, q4, q5, q6, q7, q8, z0, z1, z2, z3, z4, z5, z6, z7, z8⟩ := blk9 hQ
      clear hQ
      go_wp2_with fail
      clear q0 q1 q2 q3 q4 q5 q6 q7 q8 z0 z1 z2 z3 z4 z5 z6 z7 z8
      have hS := set9 w5 (w.heap.size + 1) 84 _ _ _ _ _ _ _ _ _ (.int .i64 0) (.int .i64 0) (.int .u8 0) (.int .i64 0) (.int .i64 0) (.int .i64 0) (.int .i64 0) (.bool false) (.int .u64 0) HQ5.out
      have hBf := below9 (g := w.heap.size + 1) HB5.out (Nat.le_succ _) (.int .i64 0) (.int .i64 0) (.int .u8 0) (.int .i64 0) (.int .i64 0) (.int .i64 0) (.int .i64 0) (.bool false) (.int .u64 0)
      generalize ((((((((w5.setCell ⟨w.heap.size + 1, 0, none⟩ (.int .i64 0)).setCell ⟨w.heap.size + 1, 1, none⟩ (.int .i64 0)).setCell ⟨w.heap.size + 1, 2, none⟩ (.int .u8 0)).setCell ⟨w.heap.size + 1, 3, none⟩ (.int .i64 0)).setCell ⟨w.heap.size + 1, 4, none⟩ (.int .i64 0)).setCell ⟨w.heap.size + 1, 5, none⟩ (.int .i64 0)).setCell ⟨w.heap.size + 1, 6, none⟩ (.int .i64 0)).setCell ⟨w.heap.size + 1, 7, none⟩ (.bool false)).setCell ⟨w.heap.size + 1, 8, none⟩ (.int .u64 0) = Wf at *
      exact bodyPost_ret (v := .tuple #[.agg #[.int .i64 0, .int .i64 0, .int .u8 0, .int .i64 0, .int .i64 0, .int .i64 0, .int .i64 0, .bool false, .int .u64 0], .int .i64 6]) (by simp [results, Try.results50, go_sem, World.cell?, hS]) rfl ⟨by rw [HZ.out (by rw [HE.out]; decide), HE.out]; rfl, hBf⟩
    by_cases hh : (len' : Int) ≤ x13
    · have hto := HOU.out rfl (by omega) (by rw [HGL.out]; exact hh)
      subst hto
      rw [if_pos (by rfl)] at HE
      have hQ := HQ5.out
      obtain ⟨hl1, q0, q1, q2, q3, q4, q5, q6, q7, q8, z0, z1, z2, z3, z4, z5, z6, z7, z8⟩ := blk9 hQ
      clear hQ
      go_wp2_with fail
      clear q0 q1 q2 q3 q4 q5 q6 q7 q8 z0 z1 z2 z3 z4 z5 z6 z7 z8
      have hS := set9 w5 (w.heap.size + 1) 84 _ _ _ _ _ _ _ _ _ (.int .i64 0) (.int .i64 0) (.int .u8 0) (.int .i64 0) (.int .i64 0) (.int .i64 0) (.int .i64 0) (.bool false) (.int .u64 0) HQ5.out
      have hBf := below9 (g := w.heap.size + 1) HB5.out (Nat.le_succ _) (.int .i64 0) (.int .i64 0) (.int .u8 0) (.int .i64 0) (.int .i64 0) (.int .i64 0) (.int .i64 0) (.bool false) (.int .u64 0)
      generalize ((((((((w5.setCell ⟨w.heap.size + 1, 0, none⟩ (.int .i64 0)).setCell ⟨w.heap.size + 1, 1, none⟩ (.int .i64 0)).setCell ⟨w.heap.size + 1, 2, none⟩ (.int .u8 0)).setCell ⟨w.heap.size + 1, 3, none⟩ (.int .i64 0)).setCell ⟨w.heap.size + 1, 4, none⟩ (.int .i64 0)).setCell ⟨w.heap.size + 1, 5, none⟩ (.int .i64 0)).setCell ⟨w.heap.size + 1, 6, none⟩ (.int .i64 0)).setCell ⟨w.heap.size + 1, 7, none⟩ (.bool false)).setCell ⟨w.heap.size + 1, 8, none⟩ (.int .u64 0) = Wf at *
      exact bodyPost_ret (v := .tuple #[.agg #[.int .i64 0, .int .i64 0, .int .u8 0, .int .i64 0, .int .i64 0, .int .i64 0, .int .i64 0, .bool false, .int .u64 0], .int .i64 6]) (by simp [results, Try.results50, go_sem, World.cell?, hS]) rfl ⟨by rw [HZ.out (by rw [HE.out]; decide), HE.out]; rfl, hBf⟩
    obtain ⟨k, rfl⟩ : ∃ k : Nat, x13 = (k : Int) := ⟨x13.toNat, by omega⟩
    have hk : k < len' := by omega
    have hkG : k < G.length := by rw [HGL.out]; exact hk
    have hto := HIN.out rfl (by omega) k rfl hkG
    obtain ⟨b, off, hae, hr⟩ := (HG.out.later HB5.out).2 (by omega)
    have sg := RowOf.eight hr k hkG
    have hbl := hr.1
    clear hr
    generalize G[k] = gg at *
    obtain ⟨t1, t2, t3, t4, g5, g6, g7, g8⟩ := gg
    obtain ⟨k1, k2, k3, k4, _, _, _, _⟩ := sg
    dsimp only at *
    subst hae
    have hQ := HP5.out
    have q0 : w5.cell? ⟨p, 0, none⟩ = some (.int .i64 x3) := by simp [World.cell?, hQ]
    have q1 : w5.cell? ⟨p, 1, none⟩ = some (.int .i64 x4) := by simp [World.cell?, hQ]
    have q2 : w5.cell? ⟨p, 2, none⟩ = some (.int .i64 x5) := by simp [World.cell?, hQ]
    have q3 : w5.cell? ⟨p, 3, none⟩ = some (.int .i64 x6) := by simp [World.cell?, hQ]
    have z0 : w5.frozen? ⟨p, 0, none⟩ = false := by simp [World.frozen?, hQ]
    have z1 : w5.frozen? ⟨p, 1, none⟩ = false := by simp [World.frozen?, hQ]
    have z2 : w5.frozen? ⟨p, 2, none⟩ = false := by simp [World.frozen?, hQ]
    have z3 : w5.frozen? ⟨p, 3, none⟩ = false := by simp [World.frozen?, hQ]
    clear hQ
    have hS := (set4 w5 p 30 _ _ _ _ (.int .i64 t1) (.int .i64 t2) (.int .i64 t3) (.int .i64 t4) HP5.out).2
    have hBn : Below (w.heap.size + 2) w5 ((((w5.setCell ⟨p, 0, none⟩ (.int .i64 t1)).setCell ⟨p, 1, none⟩ (.int .i64 t2)).setCell ⟨p, 2, none⟩ (.int .i64 t3)).setCell ⟨p, 3, none⟩ (.int .i64 t4)) :=
      (((((Below.refl _ w5).setCell (p := ⟨p, 0, none⟩) hz4 _).setCell (p := ⟨p, 1, none⟩) hz4 _).setCell (p := ⟨p, 2, none⟩) hz4 _).setCell (p := ⟨p, 3, none⟩) hz4 _)
    go_wp2_with fail
    clear q0 q1 q2 q3 z0 z1 z2 z3 k1 k2 k3 k4 d1 d2 d3 d4 d5 d6 d7 d8 d9 d10 d11 d12 d13
    generalize (((w5.setCell ⟨p, 0, none⟩ (.int .i64 t1)).setCell ⟨p, 1, none⟩ (.int .i64 t2)).setCell ⟨p, 2, none⟩ (.int .i64 t3)).setCell ⟨p, 3, none⟩ (.int .i64 t4) = w6 at *
    have HX6 := Lib.hid (HX5.out.keepH hBn (by omega))
    have HF6 : Hid (Four w6 p t1 t2 t3 t4) := ⟨(Array.getElem?_eq_some_iff.1 hS).1, by simp [World.cell?, hS], by simp [World.cell?, hS], by simp [World.cell?, hS], by simp [World.cell?, hS]⟩
    have HQ6 : Hid (w6.heap[w.heap.size + 1]? = some (.cells #[.int .i64 0, .int .i64 0, .int .u8 0, .int .i64 0, .int .i64 0, .int .i64 0, .int .i64 0, .bool false, .int .u64 0] 84)) := (hBn.block _ (by omega)).trans HQ5.out
    have HB6 := Lib.hid (HB5.out.trans (hBn.mono (by omega)))
    clear hS hBn HX5 HF5 HQ5 HP5
    subst hto
    rw [if_neg (by simp)] at HE
    change Hid (E = if ckB t1 t2 t3 t4 = false then 3 else 0) at HE
    have HYO2 : Hid (EO = ⟨step, (u : Int), x1, t1, t2, t3, t4, done, ovr RV.ow ⟨t1, t2, t3, t4⟩ L ||| bitW u⟩) := by
      rw [HYO.out, BitVec.or_comm]; rfl
    clear HYO
    refine (srange_any t1 t2 t3 t4 _).mono ?_
    rintro e w7 ⟨rfl, hB⟩
    have HX7 := Lib.hid (HX6.out.later hB)
    have HQ7 : Hid (w7.heap[w.heap.size + 1]? = some (.cells #[.int .i64 0, .int .i64 0, .int .u8 0, .int .i64 0, .int .i64 0, .int .i64 0, .int .i64 0, .bool false, .int .u64 0] 84)) := (hB.block _ (Array.getElem?_eq_some_iff.1 HQ6.out).1).trans HQ6.out
    have HB7 := Lib.hid (Below.next HB6.out hB)
    have HF7 := Lib.hid (HF6.out.later hB)
    clear hB HX6 HQ6 HB6 HF6
    cases hck : ckB t1 t2 t3 t4
    · rw [hck, if_pos rfl] at HE
      have hQ := HQ7.out
      obtain ⟨hl1, q0, q1, q2, q3, q4, q5, q6, q7, q8, z0, z1, z2, z3, z4, z5, z6, z7, z8⟩ := blk9 hQ
      clear hQ
      go_wp2_with fail
      clear q0 q1 q2 q3 q4 q5 q6 q7 q8 z0 z1 z2 z3 z4 z5 z6 z7 z8
      have hS := set9 w7 (w.heap.size + 1) 84 _ _ _ _ _ _ _ _ _ (.int .i64 0) (.int .i64 0) (.int .u8 0) (.int .i64 0) (.int .i64 0) (.int .i64 0) (.int .i64 0) (.bool false) (.int .u64 0) HQ7.out
      have hBf := below9 (g := w.heap.size + 1) HB7.out (Nat.le_succ _) (.int .i64 0) (.int .i64 0) (.int .u8 0) (.int .i64 0) (.int .i64 0) (.int .i64 0) (.int .i64 0) (.bool false) (.int .u64 0)
      generalize ((((((((w7.setCell ⟨w.heap.size + 1, 0, none⟩ (.int .i64 0)).setCell ⟨w.heap.size + 1, 1, none⟩ (.int .i64 0)).setCell ⟨w.heap.size + 1, 2, none⟩ (.int .u8 0)).setCell ⟨w.heap.size + 1, 3, none⟩ (.int .i64 0)).setCell ⟨w.heap.size + 1, 4, none⟩ (.int .i64 0)).setCell ⟨w.heap.size + 1, 5, none⟩ (.int .i64 0)).setCell ⟨w.heap.size + 1, 6, none⟩ (.int .i64 0)).setCell ⟨w.heap.size + 1, 7, none⟩ (.bool false)).setCell ⟨w.heap.size + 1, 8, none⟩ (.int .u64 0) = Wf at *
      exact bodyPost_ret (v := .tuple #[.agg #[.int .i64 0, .int .i64 0, .int .u8 0, .int .i64 0, .int .i64 0, .int .i64 0, .int .i64 0, .bool false, .int .u64 0], .int .i64 3]) (by simp [results, Try.results50, go_sem, World.cell?, hS]) rfl ⟨by rw [HZ.out (by rw [HE.out]; decide), HE.out]; rfl, hBf⟩
    rw [hck, if_neg (by decide)] at HE
    have hgc : gcE ⟨t1, t2, t3, t4⟩ L = 0 := (HRK.out _).trans (if_pos hck)
    have HBO : Hid (ovV RV.ow ⟨t1, t2, t3, t4⟩ L = ovr RV.ow ⟨t1, t2, t3, t4⟩ L) := if_pos hgc
    have HOV := Lib.hid (fun W h => sover_any t1 t2 t3 t4 a len cap L W h)
    unfold overV rights3 at HOV
    rw [hgc, HBO.out] at HOV
    clear hgc hck HBO HRK
    have HOR := Lib.hid (bits_or (ovr RV.ow ⟨t1, t2, t3, t4⟩ L) (bitW u))
    have HBI := Lib.hid (sbit_any u hu)
    generalize ovV RV.rd ⟨t1, t2, t3, t4⟩ L = B1 at *
    generalize ovV RV.wr ⟨t1, t2, t3, t4⟩ L = B2 at *
    generalize ovr RV.ow ⟨t1, t2, t3, t4⟩ L = B3 at *
    generalize B3 ||| bitW u = TT at *
    generalize bitW u = BW at *
    obtain ⟨_, f1, f2, f3, f4⟩ := HF7.out
    go_wp2_with fail
    clear f1 f2 f3 f4
    refine (HOV.out _ (HL.out.later HB7.out)).mono ?_
    rintro e w8 ⟨rfl, hB⟩
    have hba := below_alloc w8 (.cells #[.int .u64 (B1.toNat : Int), .int .u64 (B2.toNat : Int), .int .u64 (B3.toNat : Int)] 33)
    have HR9 := Lib.hid (Box3.start w8 (B1.toNat : Int) (B2.toNat : Int) (B3.toNat : Int) 33)
    have HF9 := Lib.hid ((HF7.out.later hB).later hba)
    have HX8 := Lib.hid (HX7.out.later hB)
    have HQ8 : Hid (w8.heap[w.heap.size + 1]? = some (.cells #[.int .i64 0, .int .i64 0, .int .u8 0, .int .i64 0, .int .i64 0, .int .i64 0, .int .i64 0, .bool false, .int .u64 0] 84)) := (hB.block _ (Array.getElem?_eq_some_iff.1 HQ7.out).1).trans HQ7.out
    have HB8 := Lib.hid (Below.next HB7.out hB)
    have HX9 := Lib.hid (HX8.out.later hba)
    have HQ9 : Hid ((w8.alloc (.cells #[.int .u64 (B1.toNat : Int), .int .u64 (B2.toNat : Int), .int .u64 (B3.toNat : Int)] 33)).heap[w.heap.size + 1]? = some (.cells #[.int .i64 0, .int .i64 0, .int .u8 0, .int .i64 0, .int .i64 0, .int .i64 0, .int .i64 0, .bool false, .int .u64 0] 84)) := (hba.block _ (Array.getElem?_eq_some_iff.1 HQ8.out).1).trans HQ8.out
    have HB9 := Lib.hid (Below.next HB8.out hba)
    clear hB hba HX7 HF7 HQ7 HB7 HOV HX8 HQ8 HB8
    go_wp2_with fail
    generalize w8.alloc (.cells #[.int .u64 (B1.toNat : Int), .int .u64 (B2.toNat : Int), .int .u64 (B3.toNat : Int)] 33) = w9 at *
    generalize w8.heap.size = p8 at *
    have hor := HOR.out
    refine wp_region_stu 14 (fun X => BoxOP X w.heap.size ⟨x1, (u : Int), x3, x4, x5, x6, x7, x8, x9, x10, x11, x12, (k : Int)⟩ ∧ Four X p t1 t2 t3 t4 ∧ Box3 X p8 (B1.toNat : Int) (B2.toNat : Int) (B3.toNat : Int) ∧ X.heap[w.heap.size + 1]? = some (.cells #[.int .i64 0, .int .i64 0, .int .u8 0, .int .i64 0, .int .i64 0, .int .i64 0, .int .i64 0, .bool false, .int .u64 0] 84) ∧ Below w.heap.size w X) ((fun (a1 act : Act) (T : Nat → Bool) (X : World) => act.put (some 11) (.int .i64 0) = a1 ∧ (T 15 = true → act = a1) ∧ act.eval (.tmp 101) = .agg #[.int .i64 step, .int .i64 (u : Int), .int .u8 (x1.toNat : Int), .int .i64 t1, .int .i64 t2, .int .i64 t3, .int .i64 t4, .bool done, .int .u64 (TT.toNat : Int)] ∧ act.eval (.tmp 10) = .pointer (some ⟨w.heap.size + 1, 0, none⟩) ∧ X.heap[w.heap.size + 1]? = some (.cells (if T 14 = true then #[.int .i64 step, .int .i64 (u : Int), .int .u8 (x1.toNat : Int), .int .i64 t1, .int .i64 t2, .int .i64 t3, .int .i64 t4, .bool done, .int .u64 (TT.toNat : Int)] else #[.int .i64 0, .int .i64 0, .int .u8 0, .int .i64 0, .int .i64 0, .int .i64 0, .int .i64 0, .bool false, .int .u64 0]) 84) ∧ Below w.heap.size w X) ?act0) (fun W W2 hB ⟨h1, h2, h3, h4, h5⟩ => ⟨h1.later hB, h2.later hB, h3.later hB, (hB.block _ (Array.getElem?_eq_some_iff.1 h4).1).trans h4, Below.next h5 hB⟩) (by kernel_rfl) (by kernel_rfl) (by kernel_rfl) (by kernel_rfl) (by decide) ⟨HX9.out, HF9.out, HR9.out, HQ9.out, HB9.out.drew⟩ ?pre ?sto ?fin
    case pre =>
      simp only [List.take, putsL, Act.put, List.setIfInBounds_toArray, List.set_cons_zero, List.set_cons_succ, Nat.zero_add, Nat.reduceAdd]
      refine seqi_run ?_ (fun vs W hD => (by first | rfl | (simp at hD; simp [Region.wanted, yielded, hD]))) (fun vs W hS hD => ?_) ?_
      rotate_left
      · have hX := hS.1; have hF := hS.2.1; have hR := hS.2.2.1; obtain ⟨_, d1, d2, d3, d4, d5, d6, d7, d8, d9, d10, d11, d12, d13⟩ := hX; obtain ⟨_, f1, f2, f3, f4⟩ := hF; obtain ⟨_, b1, b2, b3⟩ := hR; dsimp only at d1 d2 d3 d4 d5 d6 d7 d8 d9 d10 d11 d12 d13; obtain _ := hS; (try simp at hD); (try simp only [hD]); (first | (go_simp; done) | (go_simp; rfl))
      simp only [List.nil_append]
      refine seqi_run ?_ (fun vs W hD => (by first | rfl | (simp at hD; simp [Region.wanted, yielded, hD]))) (fun vs W hS hD => ?_) ?_
      rotate_left
      · have hX := hS.1; have hF := hS.2.1; have hR := hS.2.2.1; obtain ⟨_, d1, d2, d3, d4, d5, d6, d7, d8, d9, d10, d11, d12, d13⟩ := hX; obtain ⟨_, f1, f2, f3, f4⟩ := hF; obtain ⟨_, b1, b2, b3⟩ := hR; dsimp only at d1 d2 d3 d4 d5 d6 d7 d8 d9 d10 d11 d12 d13; obtain _ := hS; (try simp at hD); (try simp only [hD]); (first | (go_simp; done) | (go_simp; rfl))
      simp only [List.nil_append, List.cons_append]
      refine seqi_run ?_ (fun vs W hD => (by first | rfl | (simp at hD; simp [Region.wanted, yielded, hD]))) (fun vs W hS hD => ?_) ?_
      rotate_left
      · have hX := hS.1; have hF := hS.2.1; have hR := hS.2.2.1; obtain ⟨_, d1, d2, d3, d4, d5, d6, d7, d8, d9, d10, d11, d12, d13⟩ := hX; obtain ⟨_, f1, f2, f3, f4⟩ := hF; obtain ⟨_, b1, b2, b3⟩ := hR; dsimp only at d1 d2 d3 d4 d5 d6 d7 d8 d9 d10 d11 d12 d13; obtain _ := hS; (try simp at hD); (try simp only [hD]); (first | (go_simp; done) | (go_simp; rfl))
      simp only [List.nil_append, List.cons_append]
      refine seqi_run ?_ (fun vs W hD => (by first | rfl | (simp at hD; simp [Region.wanted, yielded, hD]))) (fun vs W hS hD => ?_) ?_
      rotate_left
      · have hX := hS.1; have hF := hS.2.1; have hR := hS.2.2.1; obtain ⟨_, d1, d2, d3, d4, d5, d6, d7, d8, d9, d10, d11, d12, d13⟩ := hX; obtain ⟨_, f1, f2, f3, f4⟩ := hF; obtain ⟨_, b1, b2, b3⟩ := hR; dsimp only at d1 d2 d3 d4 d5 d6 d7 d8 d9 d10 d11 d12 d13; obtain _ := hS; (try simp at hD); (try simp only [hD]); (first | (go_simp; done) | (go_simp; rfl))
      simp only [List.nil_append, List.cons_append]
      refine seqi_run ?_ (fun vs W hD => (by first | rfl | (simp at hD; simp [Region.wanted, yielded, hD]))) (fun vs W hS hD => ?_) ?_
      rotate_left
      · have hX := hS.1; have hF := hS.2.1; have hR := hS.2.2.1; obtain ⟨_, d1, d2, d3, d4, d5, d6, d7, d8, d9, d10, d11, d12, d13⟩ := hX; obtain ⟨_, f1, f2, f3, f4⟩ := hF; obtain ⟨_, b1, b2, b3⟩ := hR; dsimp only at d1 d2 d3 d4 d5 d6 d7 d8 d9 d10 d11 d12 d13; obtain _ := hS; (try simp at hD); (try simp only [hD]); (first | (go_simp; done) | (go_simp; rfl))
      simp only [List.nil_append, List.cons_append]
      refine seqi_run ?_ (fun vs W hD => (by first | rfl | (simp at hD; simp [Region.wanted, yielded, hD]))) (fun vs W hS hD => ?_) ?_
      rotate_left
      · have hX := hS.1; have hF := hS.2.1; have hR := hS.2.2.1; obtain ⟨_, d1, d2, d3, d4, d5, d6, d7, d8, d9, d10, d11, d12, d13⟩ := hX; obtain ⟨_, f1, f2, f3, f4⟩ := hF; obtain ⟨_, b1, b2, b3⟩ := hR; dsimp only at d1 d2 d3 d4 d5 d6 d7 d8 d9 d10 d11 d12 d13; obtain _ := hS; (try simp at hD); (try simp only [hD]); (first | (go_simp; done) | (go_simp; rfl))
      simp only [List.nil_append, List.cons_append]
      refine seqi_run ?_ (fun vs W hD => (by first | rfl | (simp at hD; simp [Region.wanted, yielded, hD]))) (fun vs W hS hD => ?_) ?_
      rotate_left
      · have hX := hS.1; have hF := hS.2.1; have hR := hS.2.2.1; obtain ⟨_, d1, d2, d3, d4, d5, d6, d7, d8, d9, d10, d11, d12, d13⟩ := hX; obtain ⟨_, f1, f2, f3, f4⟩ := hF; obtain ⟨_, b1, b2, b3⟩ := hR; dsimp only at d1 d2 d3 d4 d5 d6 d7 d8 d9 d10 d11 d12 d13; obtain _ := hS; (try simp at hD); (try simp only [hD]); (first | (go_simp; done) | (go_simp; rfl))
      simp only [List.nil_append, List.cons_append]
      refine seqi_run ?_ (fun vs W hD => (by first | rfl | (simp at hD; simp [Region.wanted, yielded, hD]))) (fun vs W hS hD => ?_) ?_
      rotate_left
      · have hX := hS.1; have hF := hS.2.1; have hR := hS.2.2.1; obtain ⟨_, d1, d2, d3, d4, d5, d6, d7, d8, d9, d10, d11, d12, d13⟩ := hX; obtain ⟨_, f1, f2, f3, f4⟩ := hF; obtain ⟨_, b1, b2, b3⟩ := hR; dsimp only at d1 d2 d3 d4 d5 d6 d7 d8 d9 d10 d11 d12 d13; obtain _ := hS; (try simp at hD); (try simp only [hD]); (first | (go_simp; done) | (go_simp; rfl))
      simp only [List.nil_append, List.cons_append]
      refine seqi_run ?_ (fun vs W hD => (by first | rfl | (simp at hD; simp [Region.wanted, yielded, hD]))) (fun vs W hS hD => ?_) ?_
      rotate_left
      · have hX := hS.1; have hF := hS.2.1; have hR := hS.2.2.1; obtain ⟨_, d1, d2, d3, d4, d5, d6, d7, d8, d9, d10, d11, d12, d13⟩ := hX; obtain ⟨_, f1, f2, f3, f4⟩ := hF; obtain ⟨_, b1, b2, b3⟩ := hR; dsimp only at d1 d2 d3 d4 d5 d6 d7 d8 d9 d10 d11 d12 d13; obtain _ := hS; (try simp at hD); (try simp only [hD]); (first | (go_simp; done) | (go_simp; rfl))
      simp only [List.nil_append, List.cons_append]
      refine seqi_run ?_ (fun vs W hD => (by first | rfl | (simp at hD; simp [Region.wanted, yielded, hD]))) (fun vs W hS hD => ?_) ?_
      rotate_left
      · have hX := hS.1; have hF := hS.2.1; have hR := hS.2.2.1; obtain ⟨_, d1, d2, d3, d4, d5, d6, d7, d8, d9, d10, d11, d12, d13⟩ := hX; obtain ⟨_, f1, f2, f3, f4⟩ := hF; obtain ⟨_, b1, b2, b3⟩ := hR; dsimp only at d1 d2 d3 d4 d5 d6 d7 d8 d9 d10 d11 d12 d13; obtain _ := hS; (try simp at hD); (try simp only [hD]); (first | (go_simp; done) | (go_simp; rfl))
      simp only [List.nil_append, List.cons_append]
      refine seqi_run ?_ (fun vs W hD => (by first | rfl | (simp at hD; simp [Region.wanted, yielded, hD]))) (fun vs W hS hD => ?_) ?_
      rotate_left
      · have hX := hS.1; have hF := hS.2.1; have hR := hS.2.2.1; obtain ⟨_, d1, d2, d3, d4, d5, d6, d7, d8, d9, d10, d11, d12, d13⟩ := hX; obtain ⟨_, f1, f2, f3, f4⟩ := hF; obtain ⟨_, b1, b2, b3⟩ := hR; dsimp only at d1 d2 d3 d4 d5 d6 d7 d8 d9 d10 d11 d12 d13; obtain _ := hS; (try simp at hD); (try simp only [hD]); (first | (go_simp; done) | (go_simp; rfl))
      simp only [List.nil_append, List.cons_append]
      refine seqi_call (f := 107) (fun v _ => v = .int .u64 (BW.toNat : Int)) (stable_val _) (fun vs => #[.int .i64 (u : Int)]) (fun vs W hD => (by first | rfl | (simp at hD; simp [Region.wanted, yielded, hD]))) (fun vs W hS hD => ?_) (fun vs W hS hD => ?_) ?_
      · obtain _ := hS; (try simp at hD); (try simp only [hD]); go_simp; done
      · exact (HBI.out W).mono fun e W' ⟨he, hw⟩ => ⟨⟨_, he, rfl⟩, hw ▸ Below.refl _ _⟩
      simp only [List.nil_append, List.cons_append]
      refine seqi_run ?_ (fun vs W hD => (by first | rfl | (simp at hD; simp [Region.wanted, yielded, hD]))) (fun vs W hS hD => ?_) ?_
      rotate_left
      · have hX := hS.1; have hF := hS.2.1; have hR := hS.2.2.1; obtain ⟨_, d1, d2, d3, d4, d5, d6, d7, d8, d9, d10, d11, d12, d13⟩ := hX; obtain ⟨_, f1, f2, f3, f4⟩ := hF; obtain ⟨_, b1, b2, b3⟩ := hR; dsimp only at d1 d2 d3 d4 d5 d6 d7 d8 d9 d10 d11 d12 d13; obtain _ := hS; (try simp at hD); (try simp only [hD]); (first | (go_simp; done) | (go_simp; rfl))
      simp only [List.nil_append, List.cons_append]
      refine seqi_run ?_ (fun vs W hD => (by first | rfl | (simp at hD; simp [Region.wanted, yielded, hD]))) (fun vs W hS hD => ?_) ?_
      rotate_left
      · have hX := hS.1; have hF := hS.2.1; have hR := hS.2.2.1; obtain ⟨_, d1, d2, d3, d4, d5, d6, d7, d8, d9, d10, d11, d12, d13⟩ := hX; obtain ⟨_, f1, f2, f3, f4⟩ := hF; obtain ⟨_, b1, b2, b3⟩ := hR; dsimp only at d1 d2 d3 d4 d5 d6 d7 d8 d9 d10 d11 d12 d13; obtain _ := hS; (try simp at hD); (try simp only [hD]); (first | (go_simp; done) | (go_simp; rfl))
      simp only [List.nil_append, List.cons_append]
      refine seqi_end fun vs W hS hv => ?_
      simp only [AllF, Nat.zero_add, Nat.reduceAdd] at hv
      obtain ⟨h0, h1, h2, h3, h4, h5, h6, h7, h8, h9, h10, h11, h12, h13, _⟩ := hv
      simp only [h0, h1, h2, h3, h4, h5, h6, h7, h8, h9, h10, h11, h12, h13]
      simp only [Act.put, List.setIfInBounds_toArray, List.set_cons_zero, List.set_cons_succ]
      refine ⟨?_, fun hc => (by cases hc), ?_, ?_, hS.2.2.2.1, hS.2.2.2.2⟩
      all_goals rfl
    case sto =>
      rintro i o act T X ho hi hTi ⟨hA1, hA2, hA3, hA4, hQ, hB⟩
      match i, hi with
      | 14, _ =>
        obtain rfl := Option.some.inj ho
        refine ⟨rfl, ?_⟩
        rw [hTi] at hQ
        simp only [Bool.false_eq_true, if_false] at hQ
        have hS := set9 X (w.heap.size + 1) 84 _ _ _ _ _ _ _ _ _ (.int .i64 step) (.int .i64 (u : Int)) (.int .u8 (x1.toNat : Int)) (.int .i64 t1) (.int .i64 t2) (.int .i64 t3) (.int .i64 t4) (.bool done) (.int .u64 (TT.toNat : Int)) hQ
        have hBf := below9 (g := w.heap.size + 1) hB (Nat.le_succ _) (.int .i64 step) (.int .i64 (u : Int)) (.int .u8 (x1.toNat : Int)) (.int .i64 t1) (.int .i64 t2) (.int .i64 t3) (.int .i64 t4) (.bool done) (.int .u64 (TT.toNat : Int))
        exact sto9 _ _ _ _ _ _ _ _ _ _ _ _ _ hA3 hA4 hQ (fun _ => ⟨hA1, hA2, hA3, hA4, hS, hBf⟩)
      | 15, _ =>
        obtain rfl := Option.some.inj ho
        refine ⟨rfl, ?_⟩
        exact asg0 _ _ _ _ ⟨(put_put _ _ _ _).trans hA1, fun _ => hA1, eval_put (by decide) hA3, eval_put (by decide) hA4, hQ, hB⟩
      | j + 16, _ => cases ho
    case fin =>
      rintro act T X hT ⟨_, hA2, _, _, hQ, hB⟩
      have hA := hA2 (hT 15 (by decide) (by decide))
      subst hA
      rw [hT 14 (by decide) (by decide)] at hQ
      simp only [if_true] at hQ
      clear hA2 hT
      go_wp2_with fail
      exact bodyPost_ret (v := .tuple #[.agg #[.int .i64 step, .int .i64 (u : Int), .int .u8 (x1.toNat : Int), .int .i64 t1, .int .i64 t2, .int .i64 t3, .int .i64 t4, .bool done, .int .u64 (TT.toNat : Int)], .int .i64 0]) (by simp [results, Try.results50, go_sem, World.cell?, hQ]) rfl ⟨by rw [HY.out HE.out, HYO2.out, HE.out]; rfl, hB⟩
  · rw [if_neg hk9] at HOT
    have hoe := HOT.out
    subst hoe
    have hto := HOW.out _ rfl
    have e9 : (((x1.toNat : Nat) : Int) == 9) = false := by simp; omega
    clear hk9
    obtain ⟨_, f1, f2, f3, f4⟩ := HF5.out
    go_wp2_with fail
    clear f1 f2 f3 f4 d1 d2 d3 d4 d5 d6 d7 d8 d9 d10 d11 d12 d13
    subst hto
    rw [if_neg (by simp)] at HE
    change Hid (E = if ckB x3 x4 x5 x6 = false then 3 else 0) at HE
    have HYO2 : Hid (EO = ⟨step, (u : Int), x1, x3, x4, x5, x6, done, ovr RV.ow ⟨x3, x4, x5, x6⟩ L ||| bitW u⟩) := by
      rw [HYO.out, BitVec.or_comm]; rfl
    clear HYO
    refine (srange_any x3 x4 x5 x6 _).mono ?_
    rintro e w7 ⟨rfl, hB⟩
    have HX7 := Lib.hid (HX5.out.later hB)
    have HQ7 : Hid (w7.heap[w.heap.size + 1]? = some (.cells #[.int .i64 0, .int .i64 0, .int .u8 0, .int .i64 0, .int .i64 0, .int .i64 0, .int .i64 0, .bool false, .int .u64 0] 84)) := (hB.block _ (Array.getElem?_eq_some_iff.1 HQ5.out).1).trans HQ5.out
    have HB7 := Lib.hid (Below.next HB5.out hB)
    have HF7 := Lib.hid (HF5.out.later hB)
    clear hB HX5 HQ5 HB5 HF5
    cases hck : ckB x3 x4 x5 x6
    · rw [hck, if_pos rfl] at HE
      have hQ := HQ7.out
      obtain ⟨hl1, q0, q1, q2, q3, q4, q5, q6, q7, q8, z0, z1, z2, z3, z4, z5, z6, z7, z8⟩ := blk9 hQ
      clear hQ
      go_wp2_with fail
      clear q0 q1 q2 q3 q4 q5 q6 q7 q8 z0 z1 z2 z3 z4 z5 z6 z7 z8
      have hS := set9 w7 (w.heap.size + 1) 84 _ _ _ _ _ _ _ _ _ (.int .i64 0) (.int .i64 0) (.int .u8 0) (.int .i64 0) (.int .i64 0) (.int .i64 0) (.int .i64 0) (.bool false) (.int .u64 0) HQ7.out
      have hBf := below9 (g := w.heap.size + 1) HB7.out (Nat.le_succ _) (.int .i64 0) (.int .i64 0) (.int .u8 0) (.int .i64 0) (.int .i64 0) (.int .i64 0) (.int .i64 0) (.bool false) (.int .u64 0)
      generalize ((((((((w7.setCell ⟨w.heap.size + 1, 0, none⟩ (.int .i64 0)).setCell ⟨w.heap.size + 1, 1, none⟩ (.int .i64 0)).setCell ⟨w.heap.size + 1, 2, none⟩ (.int .u8 0)).setCell ⟨w.heap.size + 1, 3, none⟩ (.int .i64 0)).setCell ⟨w.heap.size + 1, 4, none⟩ (.int .i64 0)).setCell ⟨w.heap.size + 1, 5, none⟩ (.int .i64 0)).setCell ⟨w.heap.size + 1, 6, none⟩ (.int .i64 0)).setCell ⟨w.heap.size + 1, 7, none⟩ (.bool false)).setCell ⟨w.heap.size + 1, 8, none⟩ (.int .u64 0) = Wf at *
      exact bodyPost_ret (v := .tuple #[.agg #[.int .i64 0, .int .i64 0, .int .u8 0, .int .i64 0, .int .i64 0, .int .i64 0, .int .i64 0, .bool false, .int .u64 0], .int .i64 3]) (by simp [results, Try.results50, go_sem, World.cell?, hS]) rfl ⟨by rw [HZ.out (by rw [HE.out]; decide), HE.out]; rfl, hBf⟩
    rw [hck, if_neg (by decide)] at HE
    have hgc : gcE ⟨x3, x4, x5, x6⟩ L = 0 := (HRK.out _).trans (if_pos hck)
    have HBO : Hid (ovV RV.ow ⟨x3, x4, x5, x6⟩ L = ovr RV.ow ⟨x3, x4, x5, x6⟩ L) := if_pos hgc
    have HOV := Lib.hid (fun W h => sover_any x3 x4 x5 x6 a len cap L W h)
    unfold overV rights3 at HOV
    rw [hgc, HBO.out] at HOV
    clear hgc hck HBO HRK
    have HOR := Lib.hid (bits_or (ovr RV.ow ⟨x3, x4, x5, x6⟩ L) (bitW u))
    have HBI := Lib.hid (sbit_any u hu)
    generalize ovV RV.rd ⟨x3, x4, x5, x6⟩ L = B1 at *
    generalize ovV RV.wr ⟨x3, x4, x5, x6⟩ L = B2 at *
    generalize ovr RV.ow ⟨x3, x4, x5, x6⟩ L = B3 at *
    generalize B3 ||| bitW u = TT at *
    generalize bitW u = BW at *
    obtain ⟨_, f1, f2, f3, f4⟩ := HF7.out
    go_wp2_with fail
    clear f1 f2 f3 f4
    refine (HOV.out _ (HL.out.later HB7.out)).mono ?_
    rintro e w8 ⟨rfl, hB⟩
    have hba := below_alloc w8 (.cells #[.int .u64 (B1.toNat : Int), .int .u64 (B2.toNat : Int), .int .u64 (B3.toNat : Int)] 33)
    have HR9 := Lib.hid (Box3.start w8 (B1.toNat : Int) (B2.toNat : Int) (B3.toNat : Int) 33)
    have HF9 := Lib.hid ((HF7.out.later hB).later hba)
    have HX8 := Lib.hid (HX7.out.later hB)
    have HQ8 : Hid (w8.heap[w.heap.size + 1]? = some (.cells #[.int .i64 0, .int .i64 0, .int .u8 0, .int .i64 0, .int .i64 0, .int .i64 0, .int .i64 0, .bool false, .int .u64 0] 84)) := (hB.block _ (Array.getElem?_eq_some_iff.1 HQ7.out).1).trans HQ7.out
    have HB8 := Lib.hid (Below.next HB7.out hB)
    have HX9 := Lib.hid (HX8.out.later hba)
    have HQ9 : Hid ((w8.alloc (.cells #[.int .u64 (B1.toNat : Int), .int .u64 (B2.toNat : Int), .int .u64 (B3.toNat : Int)] 33)).heap[w.heap.size + 1]? = some (.cells #[.int .i64 0, .int .i64 0, .int .u8 0, .int .i64 0, .int .i64 0, .int .i64 0, .int .i64 0, .bool false, .int .u64 0] 84)) := (hba.block _ (Array.getElem?_eq_some_iff.1 HQ8.out).1).trans HQ8.out
    have HB9 := Lib.hid (Below.next HB8.out hba)
    clear hB hba HX7 HF7 HQ7 HB7 HOV HX8 HQ8 HB8
    go_wp2_with fail
    generalize w8.alloc (.cells #[.int .u64 (B1.toNat : Int), .int .u64 (B2.toNat : Int), .int .u64 (B3.toNat : Int)] 33) = w9 at *
    generalize w8.heap.size = p8 at *
    have hor := HOR.out
    refine wp_region_stu 14 (fun X => BoxOP X w.heap.size ⟨x1, (u : Int), x3, x4, x5, x6, x7, x8, x9, x10, x11, x12, x13⟩ ∧ Four X p x3 x4 x5 x6 ∧ Box3 X p8 (B1.toNat : Int) (B2.toNat : Int) (B3.toNat : Int) ∧ X.heap[w.heap.size + 1]? = some (.cells #[.int .i64 0, .int .i64 0, .int .u8 0, .int .i64 0, .int .i64 0, .int .i64 0, .int .i64 0, .bool false, .int .u64 0] 84) ∧ Below w.heap.size w X) ((fun (a1 act : Act) (T : Nat → Bool) (X : World) => act.put (some 11) (.int .i64 0) = a1 ∧ (T 15 = true → act = a1) ∧ act.eval (.tmp 101) = .agg #[.int .i64 step, .int .i64 (u : Int), .int .u8 (x1.toNat : Int), .int .i64 x3, .int .i64 x4, .int .i64 x5, .int .i64 x6, .bool done, .int .u64 (TT.toNat : Int)] ∧ act.eval (.tmp 10) = .pointer (some ⟨w.heap.size + 1, 0, none⟩) ∧ X.heap[w.heap.size + 1]? = some (.cells (if T 14 = true then #[.int .i64 step, .int .i64 (u : Int), .int .u8 (x1.toNat : Int), .int .i64 x3, .int .i64 x4, .int .i64 x5, .int .i64 x6, .bool done, .int .u64 (TT.toNat : Int)] else #[.int .i64 0, .int .i64 0, .int .u8 0, .int .i64 0, .int .i64 0, .int .i64 0, .int .i64 0, .bool false, .int .u64 0]) 84) ∧ Below w.heap.size w X) ?act1) (fun W W2 hB ⟨h1, h2, h3, h4, h5⟩ => ⟨h1.later hB, h2.later hB, h3.later hB, (hB.block _ (Array.getElem?_eq_some_iff.1 h4).1).trans h4, Below.next h5 hB⟩) (by kernel_rfl) (by kernel_rfl) (by kernel_rfl) (by kernel_rfl) (by decide) ⟨HX9.out, HF9.out, HR9.out, HQ9.out, HB9.out.drew⟩ ?pre ?sto ?fin
    case pre =>
      simp only [List.take, putsL, Act.put, List.setIfInBounds_toArray, List.set_cons_zero, List.set_cons_succ, Nat.zero_add, Nat.reduceAdd]
      refine seqi_run ?_ (fun vs W hD => (by first | rfl | (simp at hD; simp [Region.wanted, yielded, hD]))) (fun vs W hS hD => ?_) ?_
      rotate_left
      · have hX := hS.1; have hF := hS.2.1; have hR := hS.2.2.1; obtain ⟨_, d1, d2, d3, d4, d5, d6, d7, d8, d9, d10, d11, d12, d13⟩ := hX; obtain ⟨_, f1, f2, f3, f4⟩ := hF; obtain ⟨_, b1, b2, b3⟩ := hR; dsimp only at d1 d2 d3 d4 d5 d6 d7 d8 d9 d10 d11 d12 d13; obtain _ := hS; (try simp at hD); (try simp only [hD]); (first | (go_simp; done) | (go_simp; rfl))
      simp only [List.nil_append]
      refine seqi_run ?_ (fun vs W hD => (by first | rfl | (simp at hD; simp [Region.wanted, yielded, hD]))) (fun vs W hS hD => ?_) ?_
      rotate_left
      · have hX := hS.1; have hF := hS.2.1; have hR := hS.2.2.1; obtain ⟨_, d1, d2, d3, d4, d5, d6, d7, d8, d9, d10, d11, d12, d13⟩ := hX; obtain ⟨_, f1, f2, f3, f4⟩ := hF; obtain ⟨_, b1, b2, b3⟩ := hR; dsimp only at d1 d2 d3 d4 d5 d6 d7 d8 d9 d10 d11 d12 d13; obtain _ := hS; (try simp at hD); (try simp only [hD]); (first | (go_simp; done) | (go_simp; rfl))
      simp only [List.nil_append, List.cons_append]
      refine seqi_run ?_ (fun vs W hD => (by first | rfl | (simp at hD; simp [Region.wanted, yielded, hD]))) (fun vs W hS hD => ?_) ?_
      rotate_left
      · have hX := hS.1; have hF := hS.2.1; have hR := hS.2.2.1; obtain ⟨_, d1, d2, d3, d4, d5, d6, d7, d8, d9, d10, d11, d12, d13⟩ := hX; obtain ⟨_, f1, f2, f3, f4⟩ := hF; obtain ⟨_, b1, b2, b3⟩ := hR; dsimp only at d1 d2 d3 d4 d5 d6 d7 d8 d9 d10 d11 d12 d13; obtain _ := hS; (try simp at hD); (try simp only [hD]); (first | (go_simp; done) | (go_simp; rfl))
      simp only [List.nil_append, List.cons_append]
      refine seqi_run ?_ (fun vs W hD => (by first | rfl | (simp at hD; simp [Region.wanted, yielded, hD]))) (fun vs W hS hD => ?_) ?_
      rotate_left
      · have hX := hS.1; have hF := hS.2.1; have hR := hS.2.2.1; obtain ⟨_, d1, d2, d3, d4, d5, d6, d7, d8, d9, d10, d11, d12, d13⟩ := hX; obtain ⟨_, f1, f2, f3, f4⟩ := hF; obtain ⟨_, b1, b2, b3⟩ := hR; dsimp only at d1 d2 d3 d4 d5 d6 d7 d8 d9 d10 d11 d12 d13; obtain _ := hS; (try simp at hD); (try simp only [hD]); (first | (go_simp; done) | (go_simp; rfl))
      simp only [List.nil_append, List.cons_append]
      refine seqi_run ?_ (fun vs W hD => (by first | rfl | (simp at hD; simp [Region.wanted, yielded, hD]))) (fun vs W hS hD => ?_) ?_
      rotate_left
      · have hX := hS.1; have hF := hS.2.1; have hR := hS.2.2.1; obtain ⟨_, d1, d2, d3, d4, d5, d6, d7, d8, d9, d10, d11, d12, d13⟩ := hX; obtain ⟨_, f1, f2, f3, f4⟩ := hF; obtain ⟨_, b1, b2, b3⟩ := hR; dsimp only at d1 d2 d3 d4 d5 d6 d7 d8 d9 d10 d11 d12 d13; obtain _ := hS; (try simp at hD); (try simp only [hD]); (first | (go_simp; done) | (go_simp; rfl))
      simp only [List.nil_append, List.cons_append]
      refine seqi_run ?_ (fun vs W hD => (by first | rfl | (simp at hD; simp [Region.wanted, yielded, hD]))) (fun vs W hS hD => ?_) ?_
      rotate_left
      · have hX := hS.1; have hF := hS.2.1; have hR := hS.2.2.1; obtain ⟨_, d1, d2, d3, d4, d5, d6, d7, d8, d9, d10, d11, d12, d13⟩ := hX; obtain ⟨_, f1, f2, f3, f4⟩ := hF; obtain ⟨_, b1, b2, b3⟩ := hR; dsimp only at d1 d2 d3 d4 d5 d6 d7 d8 d9 d10 d11 d12 d13; obtain _ := hS; (try simp at hD); (try simp only [hD]); (first | (go_simp; done) | (go_simp; rfl))
      simp only [List.nil_append, List.cons_append]
      refine seqi_run ?_ (fun vs W hD => (by first | rfl | (simp at hD; simp [Region.wanted, yielded, hD]))) (fun vs W hS hD => ?_) ?_
      rotate_left
      · have hX := hS.1; have hF := hS.2.1; have hR := hS.2.2.1; obtain ⟨_, d1, d2, d3, d4, d5, d6, d7, d8, d9, d10, d11, d12, d13⟩ := hX; obtain ⟨_, f1, f2, f3, f4⟩ := hF; obtain ⟨_, b1, b2, b3⟩ := hR; dsimp only at d1 d2 d3 d4 d5 d6 d7 d8 d9 d10 d11 d12 d13; obtain _ := hS; (try simp at hD); (try simp only [hD]); (first | (go_simp; done) | (go_simp; rfl))
      simp only [List.nil_append, List.cons_append]
      refine seqi_run ?_ (fun vs W hD => (by first | rfl | (simp at hD; simp [Region.wanted, yielded, hD]))) (fun vs W hS hD => ?_) ?_
      rotate_left
      · have hX := hS.1; have hF := hS.2.1; have hR := hS.2.2.1; obtain ⟨_, d1, d2, d3, d4, d5, d6, d7, d8, d9, d10, d11, d12, d13⟩ := hX; obtain ⟨_, f1, f2, f3, f4⟩ := hF; obtain ⟨_, b1, b2, b3⟩ := hR; dsimp only at d1 d2 d3 d4 d5 d6 d7 d8 d9 d10 d11 d12 d13; obtain _ := hS; (try simp at hD); (try simp only [hD]); (first | (go_simp; done) | (go_simp; rfl))
      simp only [List.nil_append, List.cons_append]
      refine seqi_run ?_ (fun vs W hD => (by first | rfl | (simp at hD; simp [Region.wanted, yielded, hD]))) (fun vs W hS hD => ?_) ?_
      rotate_left
      · have hX := hS.1; have hF := hS.2.1; have hR := hS.2.2.1; obtain ⟨_, d1, d2, d3, d4, d5, d6, d7, d8, d9, d10, d11, d12, d13⟩ := hX; obtain ⟨_, f1, f2, f3, f4⟩ := hF; obtain ⟨_, b1, b2, b3⟩ := hR; dsimp only at d1 d2 d3 d4 d5 d6 d7 d8 d9 d10 d11 d12 d13; obtain _ := hS; (try simp at hD); (try simp only [hD]); (first | (go_simp; done) | (go_simp; rfl))
      simp only [List.nil_append, List.cons_append]
      refine seqi_run ?_ (fun vs W hD => (by first | rfl | (simp at hD; simp [Region.wanted, yielded, hD]))) (fun vs W hS hD => ?_) ?_
      rotate_left
      · have hX := hS.1; have hF := hS.2.1; have hR := hS.2.2.1; obtain ⟨_, d1, d2, d3, d4, d5, d6, d7, d8, d9, d10, d11, d12, d13⟩ := hX; obtain ⟨_, f1, f2, f3, f4⟩ := hF; obtain ⟨_, b1, b2, b3⟩ := hR; dsimp only at d1 d2 d3 d4 d5 d6 d7 d8 d9 d10 d11 d12 d13; obtain _ := hS; (try simp at hD); (try simp only [hD]); (first | (go_simp; done) | (go_simp; rfl))
      simp only [List.nil_append, List.cons_append]
      refine seqi_run ?_ (fun vs W hD => (by first | rfl | (simp at hD; simp [Region.wanted, yielded, hD]))) (fun vs W hS hD => ?_) ?_
      rotate_left
      · have hX := hS.1; have hF := hS.2.1; have hR := hS.2.2.1; obtain ⟨_, d1, d2, d3, d4, d5, d6, d7, d8, d9, d10, d11, d12, d13⟩ := hX; obtain ⟨_, f1, f2, f3, f4⟩ := hF; obtain ⟨_, b1, b2, b3⟩ := hR; dsimp only at d1 d2 d3 d4 d5 d6 d7 d8 d9 d10 d11 d12 d13; obtain _ := hS; (try simp at hD); (try simp only [hD]); (first | (go_simp; done) | (go_simp; rfl))
      simp only [List.nil_append, List.cons_append]
      refine seqi_call (f := 107) (fun v _ => v = .int .u64 (BW.toNat : Int)) (stable_val _) (fun vs => #[.int .i64 (u : Int)]) (fun vs W hD => (by first | rfl | (simp at hD; simp [Region.wanted, yielded, hD]))) (fun vs W hS hD => ?_) (fun vs W hS hD => ?_) ?_
      · obtain _ := hS; (try simp at hD); (try simp only [hD]); go_simp; done
      · exact (HBI.out W).mono fun e W' ⟨he, hw⟩ => ⟨⟨_, he, rfl⟩, hw ▸ Below.refl _ _⟩
      simp only [List.nil_append, List.cons_append]
      refine seqi_run ?_ (fun vs W hD => (by first | rfl | (simp at hD; simp [Region.wanted, yielded, hD]))) (fun vs W hS hD => ?_) ?_
      rotate_left
      · have hX := hS.1; have hF := hS.2.1; have hR := hS.2.2.1; obtain ⟨_, d1, d2, d3, d4, d5, d6, d7, d8, d9, d10, d11, d12, d13⟩ := hX; obtain ⟨_, f1, f2, f3, f4⟩ := hF; obtain ⟨_, b1, b2, b3⟩ := hR; dsimp only at d1 d2 d3 d4 d5 d6 d7 d8 d9 d10 d11 d12 d13; obtain _ := hS; (try simp at hD); (try simp only [hD]); (first | (go_simp; done) | (go_simp; rfl))
      simp only [List.nil_append, List.cons_append]
      refine seqi_run ?_ (fun vs W hD => (by first | rfl | (simp at hD; simp [Region.wanted, yielded, hD]))) (fun vs W hS hD => ?_) ?_
      rotate_left
      · have hX := hS.1; have hF := hS.2.1; have hR := hS.2.2.1; obtain ⟨_, d1, d2, d3, d4, d5, d6, d7, d8, d9, d10, d11, d12, d13⟩ := hX; obtain ⟨_, f1, f2, f3, f4⟩ := hF; obtain ⟨_, b1, b2, b3⟩ := hR; dsimp only at d1 d2 d3 d4 d5 d6 d7 d8 d9 d10 d11 d12 d13; obtain _ := hS; (try simp at hD); (try simp only [hD]); (first | (go_simp; done) | (go_simp; rfl))
      simp only [List.nil_append, List.cons_append]
      refine seqi_end fun vs W hS hv => ?_
      simp only [AllF, Nat.zero_add, Nat.reduceAdd] at hv
      obtain ⟨h0, h1, h2, h3, h4, h5, h6, h7, h8, h9, h10, h11, h12, h13, _⟩ := hv
      simp only [h0, h1, h2, h3, h4, h5, h6, h7, h8, h9, h10, h11, h12, h13]
      simp only [Act.put, List.setIfInBounds_toArray, List.set_cons_zero, List.set_cons_succ]
      refine ⟨?_, fun hc => (by cases hc), ?_, ?_, hS.2.2.2.1, hS.2.2.2.2⟩
      all_goals rfl
    case sto =>
      rintro i o act T X ho hi hTi ⟨hA1, hA2, hA3, hA4, hQ, hB⟩
      match i, hi with
      | 14, _ =>
        obtain rfl := Option.some.inj ho
        refine ⟨rfl, ?_⟩
        rw [hTi] at hQ
        simp only [Bool.false_eq_true, if_false] at hQ
        have hS := set9 X (w.heap.size + 1) 84 _ _ _ _ _ _ _ _ _ (.int .i64 step) (.int .i64 (u : Int)) (.int .u8 (x1.toNat : Int)) (.int .i64 x3) (.int .i64 x4) (.int .i64 x5) (.int .i64 x6) (.bool done) (.int .u64 (TT.toNat : Int)) hQ
        have hBf := below9 (g := w.heap.size + 1) hB (Nat.le_succ _) (.int .i64 step) (.int .i64 (u : Int)) (.int .u8 (x1.toNat : Int)) (.int .i64 x3) (.int .i64 x4) (.int .i64 x5) (.int .i64 x6) (.bool done) (.int .u64 (TT.toNat : Int))
        exact sto9 _ _ _ _ _ _ _ _ _ _ _ _ _ hA3 hA4 hQ (fun _ => ⟨hA1, hA2, hA3, hA4, hS, hBf⟩)
      | 15, _ =>
        obtain rfl := Option.some.inj ho
        refine ⟨rfl, ?_⟩
        exact asg0 _ _ _ _ ⟨(put_put _ _ _ _).trans hA1, fun _ => hA1, eval_put (by decide) hA3, eval_put (by decide) hA4, hQ, hB⟩
      | j + 16, _ => cases ho
    case fin =>
      rintro act T X hT ⟨_, hA2, _, _, hQ, hB⟩
      have hA := hA2 (hT 15 (by decide) (by decide))
      subst hA
      rw [hT 14 (by decide) (by decide)] at hQ
      simp only [if_true] at hQ
      clear hA2 hT
      go_wp2_with fail
      exact bodyPost_ret (v := .tuple #[.agg #[.int .i64 step, .int .i64 (u : Int), .int .u8 (x1.toNat : Int), .int .i64 x3, .int .i64 x4, .int .i64 x5, .int .i64 x6, .bool done, .int .u64 (TT.toNat : Int)], .int .i64 0]) (by simp [results, Try.results50, go_sem, World.cell?, hQ]) rfl ⟨by rw [HY.out HE.out, HYO2.out, HE.out]; rfl, hB⟩
end Go.Proofs.Ytndijajaddkbhaa.Re
