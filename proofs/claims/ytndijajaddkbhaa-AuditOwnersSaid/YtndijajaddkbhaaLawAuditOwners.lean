/- The walk of the law. -/
import Derived.Test.YtndijajaddkbhaaEvG
import Derived.Test.YtndijajaddkbhaaCameOp
namespace Go.Proofs.Ytndijajaddkbhaa.Re
open Go.RowKit AM
theorem evC_ok {step : Int} {g : OP} {L : List RV} {G : List GV} {t : R4} (h0 : ¬ step < 0) (hm : mutB g.kd.toNat = true) (hu : vld g.us = true) (hr : (rck 64 L).2 = 0) (hg : (gck 64 G).2 = 0) (ht : tarO g G = some t) (hk : t.ck = true) : evC step 0 g L G = 0 := by
  unfold evC rectO
  rw [ht]
  simp [h0, hm, hu, hr, hg, hk]
theorem evV_ok {step : Int} {g : OP} {done : Bool} {L : List RV} {G : List GV} {t : R4} (h : evC step 0 g L G = 0) (ht : tarO g G = some t) :
    evV step 0 g done L G = ⟨step, g.us, g.kd, t.c1, t.r1, t.c2, t.r2, done, ovr RV.ow t L ||| bitW g.us.toNat⟩ := by
  unfold evV evO rectO
  rw [if_pos h, ht, BitVec.or_comm]
  rfl
theorem BoxOP.keep {w w' : World} {p n : Nat} {r : OP} (h : BoxOP w p r) (hB : Below n w w') (hp : p < n) : BoxOP w' p r := by
  obtain ⟨h0, h1, h2, h3, h4, h5, h6, h7, h8, h9, h10, h11, h12, h13⟩ := h
  have hc : ∀ j, w'.cell? ⟨p, j, none⟩ = w.cell? ⟨p, j, none⟩ := fun j => hB.cell (p := ⟨p, j, none⟩) hp
  exact ⟨Nat.lt_of_lt_of_le h0 hB.size, by rw [hc]; exact h1, by rw [hc]; exact h2, by rw [hc]; exact h3, by rw [hc]; exact h4, by rw [hc]; exact h5, by rw [hc]; exact h6, by rw [hc]; exact h7, by rw [hc]; exact h8, by rw [hc]; exact h9, by rw [hc]; exact h10, by rw [hc]; exact h11, by rw [hc]; exact h12, by rw [hc]; exact h13⟩
theorem shl_us (u : Nat) : IntKind.u64.wrap ((2 : Int) ^ u) = ((bitW u).toNat : Int) := by unfold bitW; exact shl_one u
set_option maxRecDepth 100000 in
set_option maxHeartbeats 12800000 in
theorem auditOwners_any (g : OP) (done : Bool) (a : Option Addr) (len cap : Nat) (L : List RV) (a' : Option Addr) (len' cap' : Nat) (G : List GV) (s : ByteArray) (w : World) (hL : IsL w a len L) (hG : IsG w a' len' G) :
    Calls Try.prog 12 #[.agg (cellsOP g).toArray, .bool done, .slice a len cap, .slice a' len' cap', .string s] w fun e w' => e = .returned (.bool true) ∧ Below w.heap.size w w' := by
  have HL := Lib.hid hL
  have HLL := Lib.hid hL.1
  have HG := Lib.hid hG
  have HGL := Lib.hid hG.1
  clear hL hG
  have HX0 := Lib.hid (BoxOP.start w g 91)
  have HB0 := Lib.hid (below_alloc w (.cells (cellsOP g).toArray 91))
  have HCQ := Lib.hid (fun h => Ot.opchk g h)
  have HMU := Lib.hid (smut_any g)
  have HOW : Hid (∀ r, ownT g = some r → tarO g G = some r) := fun r h => tarO_own h
  have HIN : Hid (ownT g = none → ¬ g.idx < 0 → ∀ (k : Nat), g.idx = (k : Int) → ∀ hl : k < G.length, tarO g G = some ⟨G[k].c1, G[k].r1, G[k].c2, G[k].r2⟩) := fun h hi k => tarO_in h hi k
  have HOT : Hid (ownT g = if g.kd.toNat = 9 then none else some ⟨g.c1, g.r1, g.c2, g.r2⟩) := rfl
  have HEC : Hid (∀ t, mutB g.kd.toNat = true → vld g.us = true → (rck 64 L).2 = 0 → (gck 64 G).2 = 0 → tarO g G = some t → t.ck = true → evC 3 0 g L G = 0) := fun t h1 h2 h3 h4 h5 h6 => evC_ok (by decide) h1 h2 h3 h4 h5 h6
  have HEV : Hid (∀ t, evC 3 0 g L G = 0 → tarO g G = some t → evV 3 0 g done L G = ⟨3, g.us, g.kd, t.c1, t.r1, t.c2, t.r2, done, ovr RV.ow t L ||| bitW g.us.toNat⟩) := fun t h1 h2 => evV_ok h1 h2
  have HPE := Lib.hid (fun HR hl hl' W h1 h2 => pev_any 3 g done 0 HR a len cap L hl a' len' cap' G hl' W h1 h2)
  have HCY := Lib.hid (fun h => Ot.opchk (⟨g.kd, g.us, g.c1, g.r1, g.c2, g.r2, s, g.rd, g.wr, g.ow, g.fns, g.tos, g.idx⟩ : OP) h)
  have HPY := Lib.hid (fun HR hl hl' W h1 h2 => pev_any 3 (⟨g.kd, g.us, g.c1, g.r1, g.c2, g.r2, s, g.rd, g.wr, g.ow, g.fns, g.tos, g.idx⟩ : OP) done 0 HR a len cap L hl a' len' cap' G hl' W h1 h2)
  have HEY : Hid (evV 3 0 (⟨g.kd, g.us, g.c1, g.r1, g.c2, g.r2, s, g.rd, g.wr, g.ow, g.fns, g.tos, g.idx⟩ : OP) done L G = evV 3 0 g done L G ∧ evC 3 0 (⟨g.kd, g.us, g.c1, g.r1, g.c2, g.r2, s, g.rd, g.wr, g.ow, g.fns, g.tos, g.idx⟩ : OP) L G = evC 3 0 g L G) := ⟨rfl, rfl⟩
  rw [HEY.out.1, HEY.out.2] at HPY
  clear HEY
  generalize evV 3 0 g done L G = EV0 at *
  generalize evC 3 0 g L G = EC0 at *
  generalize tarO g G = TO at *
  generalize ownT g = ot at *
  generalize mutB g.kd.toNat = mb at *
  obtain ⟨x1, x2, x3, x4, x5, x6, x7, x8, x9, x10, x11, x12, x13⟩ := g
  unfold cellsOP at *
  dsimp only at *
  obtain ⟨_, d1, d2, d3, d4, d5, d6, d7, d8, d9, d10, d11, d12, d13⟩ := HX0.out
  dsimp only at d1 d2 d3 d4 d5 d6 d7 d8 d9 d10 d11 d12 d13
  go_enter Try.func12, Try.ntmps12
  go_upto_region 1 with fail
  clear d1 d2 d3 d4 d5 d6 d7 d8 d9 d10 d11 d12 d13
  generalize w.alloc (.cells #[.int .u8 (x1.toNat : Int), .int .i64 x2, .int .i64 x3, .int .i64 x4, .int .i64 x5, .int .i64 x6, .string x7, .int .u64 (x8.toNat : Int), .int .u64 (x9.toNat : Int), .int .u64 (x10.toNat : Int), .int .u8 (x11.toNat : Int), .int .u64 (x12.toNat : Int), .int .i64 x13] 91) = w0 at *
  go_wp2_with fail
  refine (scheck_big 64 a len cap L _ (HL.out.later HB0.out)).mono ?_
  rintro e w1 ⟨rfl, hB⟩
  have HX1 := Lib.hid (HX0.out.later hB)
  have HB1 := Lib.hid (Below.next HB0.out hB)
  clear hB HX0 HB0
  unfold ckV
  generalize (rck 64 L).1 = c1
  go_wp2_with fail
  refine (pscheck_any 64 a' len' cap' G _ (HG.out.later HB1.out)).mono ?_
  rintro e w2 ⟨rfl, hB⟩
  have HX2 := Lib.hid (HX1.out.later hB)
  have HB2 := Lib.hid (Below.next HB1.out hB)
  clear hB HX1 HB1
  unfold ckV
  generalize (gck 64 G).1 = c2
  by_cases hrk : (rck 64 L).2 = 0
  rotate_left
  · generalize (rck 64 L).2 = rk at *
    have hb1 : (rk == 0) = false := by simpa using hrk
    have hb2 : (rk != 0) = true := by simpa using hrk
    go_wp2_with fail
    go_ret
    exact ⟨rfl, HB2.out⟩
  by_cases hgk : (gck 64 G).2 = 0
  rotate_left
  · rw [hrk]
    generalize (gck 64 G).2 = gk at *
    have hb1 : (gk == 0) = false := by simpa using hgk
    have hb2 : (gk != 0) = true := by simpa using hgk
    go_wp2_with fail
    go_ret
    exact ⟨rfl, HB2.out⟩
  have HRK := Lib.hid hrk
  have HGK := Lib.hid hgk
  rw [hrk, hgk]
  clear hrk hgk
  by_cases hl1 : 10 < len
  · go_wp2_with fail
    go_ret
    exact ⟨rfl, HB2.out⟩
  have e1 : decide ((10 : Int) < (len : Int)) = false := by simp; omega
  by_cases hl2 : 20 < len'
  · go_wp2_with fail
    go_ret
    exact ⟨rfl, HB2.out⟩
  have e2 : decide ((20 : Int) < (len' : Int)) = false := by simp; omega
  by_cases hl3 : 256 < s.size
  · have e3 : decide ((256 : Int) < (s.size : Int)) = true := by simp; omega
    go_wp2_with fail
    go_ret
    exact ⟨rfl, HB2.out⟩
  have e3 : decide ((256 : Int) < (s.size : Int)) = false := by simp; omega
  obtain ⟨_, d1, d2, d3, d4, d5, d6, d7, d8, d9, d10, d11, d12, d13⟩ := HX2.out
  dsimp only at d1 d2 d3 d4 d5 d6 d7 d8 d9 d10 d11 d12 d13
  by_cases hl4 : 256 < x7.size
  · have e4 : decide ((256 : Int) < (x7.size : Int)) = true := by simp; omega
    go_wp2_with fail
    go_ret
    exact ⟨rfl, HB2.out⟩
  have e4 : decide ((256 : Int) < (x7.size : Int)) = false := by simp; omega
  obtain ⟨r0, hr04, HP0, HS0⟩ := HCQ.out (by unfold maxLen; omega)
  obtain ⟨r1, hr14, HP1, HS1⟩ := HCY.out (by unfold maxLen; omega)
  change ∀ W, Calls Try.prog 100 #[.agg #[.int .u8 (x1.toNat : Int), .int .i64 x2, .int .i64 x3, .int .i64 x4, .int .i64 x5, .int .i64 x6, .string x7, .int .u64 (x8.toNat : Int), .int .u64 (x9.toNat : Int), .int .u64 (x10.toNat : Int), .int .u8 (x11.toNat : Int), .int .u64 (x12.toNat : Int), .int .i64 x13]] W _ at HP0
  change ∀ W, Calls Try.prog 52 #[.agg #[.int .u8 (x1.toNat : Int), .int .i64 x2, .int .i64 x3, .int .i64 x4, .int .i64 x5, .int .i64 x6, .string x7, .int .u64 (x8.toNat : Int), .int .u64 (x9.toNat : Int), .int .u64 (x10.toNat : Int), .int .u8 (x11.toNat : Int), .int .u64 (x12.toNat : Int), .int .i64 x13]] W _ at HS0
  change ∀ W, Calls Try.prog 100 #[.agg #[.int .u8 (x1.toNat : Int), .int .i64 x2, .int .i64 x3, .int .i64 x4, .int .i64 x5, .int .i64 x6, .string s, .int .u64 (x8.toNat : Int), .int .u64 (x9.toNat : Int), .int .u64 (x10.toNat : Int), .int .u8 (x11.toNat : Int), .int .u64 (x12.toNat : Int), .int .i64 x13]] W _ at HP1
  change ∀ W, Calls Try.prog 52 #[.agg #[.int .u8 (x1.toNat : Int), .int .i64 x2, .int .i64 x3, .int .i64 x4, .int .i64 x5, .int .i64 x6, .string s, .int .u64 (x8.toNat : Int), .int .u64 (x9.toNat : Int), .int .u64 (x10.toNat : Int), .int .u8 (x11.toNat : Int), .int .u64 (x12.toNat : Int), .int .i64 x13]] W _ at HS1
  have HP0 := Lib.hid HP0
  have HS0 := Lib.hid HS0
  have HP1 := Lib.hid HP1
  have HS1 := Lib.hid HS1
  clear HCQ HCY
  go_wp2_with fail
  clear e1 e2 e3 e4 d1 d2 d3 d4 d5 d6 d7 d8 d9 d10 d11 d12 d13
  refine (HS0.out _).mono ?_
  rintro e w3 ⟨rfl, hB⟩
  have HX3 := Lib.hid (HX2.out.later hB)
  have HB3 := Lib.hid (Below.next HB2.out hB)
  clear hB HX2 HB2 HS0
  by_cases hr0 : r0 = 0
  rotate_left
  · have hb1 : (r0 == 0) = false := by simpa using hr0
    have hb2 : (r0 != 0) = true := by simpa using hr0
    go_wp2_with fail
    go_ret
    exact ⟨rfl, HB3.out⟩
  subst hr0
  obtain ⟨_, d1, d2, d3, d4, d5, d6, d7, d8, d9, d10, d11, d12, d13⟩ := HX3.out
  dsimp only at d1 d2 d3 d4 d5 d6 d7 d8 d9 d10 d11 d12 d13
  go_wp2_with fail
  clear d1 d2 d3 d4 d5 d6 d7 d8 d9 d10 d11 d12 d13
  refine (HMU.out _).mono ?_
  rintro e w4 ⟨rfl, hB⟩
  have HX4 := Lib.hid (HX3.out.later hB)
  have HB4 := Lib.hid (Below.next HB3.out hB)
  clear hB HX3 HB3 HMU
  cases mb
  · go_wp2_with fail
    go_ret
    exact ⟨rfl, HB4.out⟩
  obtain ⟨_, d1, d2, d3, d4, d5, d6, d7, d8, d9, d10, d11, d12, d13⟩ := HX4.out
  dsimp only at d1 d2 d3 d4 d5 d6 d7 d8 d9 d10 d11 d12 d13
  by_cases hu0 : x2 < 0
  · go_wp2_with fail
    go_ret
    exact ⟨rfl, HB4.out⟩
  by_cases hu1 : 64 ≤ x2
  · go_wp2_with fail
    go_ret
    exact ⟨rfl, HB4.out⟩
  obtain ⟨u, rfl⟩ : ∃ u : Nat, x2 = (u : Int) := ⟨x2.toNat, by omega⟩
  have hu : u < 64 := by omega
  have HVU : Hid (vld (u : Int) = true) := vld_t (by omega)
  have hba := below_alloc w4 (.cells #[.int .i64 x3, .int .i64 x4, .int .i64 x5, .int .i64 x6] 30)
  have HF5 := Lib.hid (Four.start w4 x3 x4 x5 x6 30)
  have HX5 := Lib.hid (HX4.out.later hba)
  have HB5 := Lib.hid (Below.next HB4.out hba)
  have HQ5 : Hid ((w4.alloc (.cells #[.int .i64 x3, .int .i64 x4, .int .i64 x5, .int .i64 x6] 30)).heap[w4.heap.size]? = some (.cells #[.int .i64 x3, .int .i64 x4, .int .i64 x5, .int .i64 x6] 30)) := heap_alloc_new _ _
  clear hba
  have hz4 := HB4.out.size
  have hwp : w.heap.size < w4.heap.size := HX4.out.1
  go_upto_region 8 with fail
  clear d1 d2 d3 d4 d5 d6 d7 d8 d9 d10 d11 d12 d13
  have hp5 : w4.heap.size < (w4.alloc (.cells #[.int .i64 x3, .int .i64 x4, .int .i64 x5, .int .i64 x6] 30)).heap.size := by simp
  generalize w4.alloc (.cells #[.int .i64 x3, .int .i64 x4, .int .i64 x5, .int .i64 x6] 30) = w5 at *
  generalize w4.heap.size = p at *
  obtain ⟨_, d1, d2, d3, d4, d5, d6, d7, d8, d9, d10, d11, d12, d13⟩ := HX5.out
  dsimp only at d1 d2 d3 d4 d5 d6 d7 d8 d9 d10 d11 d12 d13
  by_cases hk9 : x1.toNat = 9
  · rw [if_pos hk9] at HOT
    have hoe := HOT.out
    subst hoe
    have e9 : (((x1.toNat : Nat) : Int) == 9) = true := by rw [hk9]; rfl
    clear hk9
    by_cases hn : x13 < 0
    · go_wp2_with fail
      go_ret
      exact ⟨rfl, HB5.out⟩
    by_cases hh : (len' : Int) ≤ x13
    · go_wp2_with fail
      go_ret
      exact ⟨rfl, HB5.out⟩
    obtain ⟨k, rfl⟩ : ∃ k : Nat, x13 = (k : Int) := ⟨x13.toNat, by omega⟩
    have hk : k < len' := by omega
    have hkG : k < G.length := by rw [HGL.out]; exact hk
    have HTO := Lib.hid (HIN.out rfl (by omega) k rfl hkG)
    obtain ⟨b, off, hae, hr⟩ := (HG.out.later HB5.out).2 (by omega)
    have sg := RowOf.eight hr k hkG
    have hbl := hr.1
    clear hr
    generalize G[k] = gg at *
    obtain ⟨t1, t2, t3, t4, g5, g6, g7, g8⟩ := gg
    obtain ⟨k1, k2, k3, k4, _, _, _, _⟩ := sg
    dsimp only at *
    subst hae
    have hQ := HQ5.out
    have q0 : w5.cell? ⟨p, 0, none⟩ = some (.int .i64 x3) := by simp [World.cell?, hQ]
    have q1 : w5.cell? ⟨p, 1, none⟩ = some (.int .i64 x4) := by simp [World.cell?, hQ]
    have q2 : w5.cell? ⟨p, 2, none⟩ = some (.int .i64 x5) := by simp [World.cell?, hQ]
    have q3 : w5.cell? ⟨p, 3, none⟩ = some (.int .i64 x6) := by simp [World.cell?, hQ]
    have z0 : w5.frozen? ⟨p, 0, none⟩ = false := by simp [World.frozen?, hQ]
    have z1 : w5.frozen? ⟨p, 1, none⟩ = false := by simp [World.frozen?, hQ]
    have z2 : w5.frozen? ⟨p, 2, none⟩ = false := by simp [World.frozen?, hQ]
    have z3 : w5.frozen? ⟨p, 3, none⟩ = false := by simp [World.frozen?, hQ]
    clear hQ
    have hS := (set4 w5 p 30 _ _ _ _ (.int .i64 t1) (.int .i64 t2) (.int .i64 t3) (.int .i64 t4) HQ5.out).2
    have hBn : Below (w.heap.size + 1) w5 ((((w5.setCell ⟨p, 0, none⟩ (.int .i64 t1)).setCell ⟨p, 1, none⟩ (.int .i64 t2)).setCell ⟨p, 2, none⟩ (.int .i64 t3)).setCell ⟨p, 3, none⟩ (.int .i64 t4)) :=
      (((((Below.refl _ w5).setCell (p := ⟨p, 0, none⟩) hwp _).setCell (p := ⟨p, 1, none⟩) hwp _).setCell (p := ⟨p, 2, none⟩) hwp _).setCell (p := ⟨p, 3, none⟩) hwp _)
    go_wp2_with fail
    clear q0 q1 q2 q3 z0 z1 z2 z3 k1 k2 k3 k4 d1 d2 d3 d4 d5 d6 d7 d8 d9 d10 d11 d12 d13
    generalize (((w5.setCell ⟨p, 0, none⟩ (.int .i64 t1)).setCell ⟨p, 1, none⟩ (.int .i64 t2)).setCell ⟨p, 2, none⟩ (.int .i64 t3)).setCell ⟨p, 3, none⟩ (.int .i64 t4) = w6 at *
    have HX6 := Lib.hid (HX5.out.keep hBn (Nat.lt_succ_self _))
    have HF6 : Hid (Four w6 p t1 t2 t3 t4) := ⟨(Array.getElem?_eq_some_iff.1 hS).1, by simp [World.cell?, hS], by simp [World.cell?, hS], by simp [World.cell?, hS], by simp [World.cell?, hS]⟩
    have HB6 := Lib.hid (HB5.out.trans (hBn.mono (Nat.le_succ _)))
    clear hS hBn HX5 HF5 HQ5
    refine (srange_any t1 t2 t3 t4 _).mono ?_
    rintro e w7 ⟨rfl, hB⟩
    have HX7 := Lib.hid (HX6.out.later hB)
    have HF7 := Lib.hid (HF6.out.later hB)
    have HB7 := Lib.hid (Below.next HB6.out hB)
    clear hB HX6 HF6 HB6
    cases hck : ckB t1 t2 t3 t4
    · go_wp2_with fail
      go_ret
      exact ⟨rfl, HB7.out⟩
    have hgc : gcE ⟨t1, t2, t3, t4⟩ L = 0 := gcE_zero.2 ⟨hck, HRK.out⟩
    have HBO : Hid (ovV RV.ow ⟨t1, t2, t3, t4⟩ L = ovr RV.ow ⟨t1, t2, t3, t4⟩ L) := if_pos hgc
    have hec := HEC.out ⟨t1, t2, t3, t4⟩ (by first | trivial | rfl) HVU.out HRK.out HGK.out HTO.out hck
    have hev := HEV.out ⟨t1, t2, t3, t4⟩ hec HTO.out
    have HGC := Lib.hid hgc
    have HOV := Lib.hid (fun W h => over_any t1 t2 t3 t4 a len cap L (by omega) W h)
    unfold overV rights3 at HOV
    rw [hgc, HBO.out] at HOV
    rw [hec, hev] at HPE HPY
    clear hgc hck hev hec HEC HEV HBO HGC
    rw [Int.toNat_natCast] at HPE HPY
    have HOR := Lib.hid (bits_or (ovr RV.ow ⟨t1, t2, t3, t4⟩ L) (bitW u))
    generalize ovV RV.rd ⟨t1, t2, t3, t4⟩ L = B1 at *
    generalize ovV RV.wr ⟨t1, t2, t3, t4⟩ L = B2 at *
    generalize ovr RV.ow ⟨t1, t2, t3, t4⟩ L = B3 at *
    generalize B3 ||| bitW u = TT at *
    have HSH := Lib.hid (shl_us u)
    generalize bitW u = BW at *
    unfold cellsEV at HPE HPY
    try unfold cellsOP at HPE
    try unfold cellsOP at HPY
    dsimp only at HPE HPY
    obtain ⟨_, f1, f2, f3, f4⟩ := HF7.out
    go_wp2_with fail
    clear f1 f2 f3 f4
    refine (HOV.out _ (HL.out.later HB7.out)).mono ?_
    rintro e w8 ⟨rfl, hB⟩
    have hba := below_alloc w8 (.cells #[.int .u64 (B1.toNat : Int), .int .u64 (B2.toNat : Int), .int .u64 (B3.toNat : Int)] 33)
    have HR9 := Lib.hid (Box3.start w8 (B1.toNat : Int) (B2.toNat : Int) (B3.toNat : Int) 33)
    have HX9 := Lib.hid ((HX7.out.later hB).later hba)
    have HF9 := Lib.hid ((HF7.out.later hB).later hba)
    have HB9 := Lib.hid (Below.next (Below.next HB7.out hB) hba)
    clear hB hba HX7 HF7 HB7 HOV
    obtain ⟨_, d1, d2, d3, d4, d5, d6, d7, d8, d9, d10, d11, d12, d13⟩ := HX9.out
    dsimp only at d1 d2 d3 d4 d5 d6 d7 d8 d9 d10 d11 d12 d13
    go_wp2_with fail
    clear d1 d2 d3 d4 d5 d6 d7 d8 d9 d10 d11 d12 d13
    generalize w8.alloc (.cells #[.int .u64 (B1.toNat : Int), .int .u64 (B2.toNat : Int), .int .u64 (B3.toNat : Int)] 33) = w9 at *
    generalize w8.heap.size = p8 at *
    refine (HPE.out HP0 (by omega) (by omega) _ (HL.out.later HB9.out) (HG.out.later HB9.out)).mono ?_
    rintro e wa ⟨rfl, hB⟩
    have hba := below_alloc wa (.cells #[.int .i64 3, .int .i64 (u : Int), .int .u8 (x1.toNat : Int), .int .i64 t1, .int .i64 t2, .int .i64 t3, .int .i64 t4, .bool done, .int .u64 (TT.toNat : Int)] 84)
    have hEa := BoxEV.start wa ⟨3, (u : Int), x1, t1, t2, t3, t4, done, TT⟩ 84
    have HEb : Hid (BoxEV (wa.alloc (.cells #[.int .i64 3, .int .i64 (u : Int), .int .u8 (x1.toNat : Int), .int .i64 t1, .int .i64 t2, .int .i64 t3, .int .i64 t4, .bool done, .int .u64 (TT.toNat : Int)] 84)) wa.heap.size ⟨3, (u : Int), x1, t1, t2, t3, t4, done, TT⟩) := hEa
    have HXb := Lib.hid ((HX9.out.later hB).later hba)
    have HFb := Lib.hid ((HF9.out.later hB).later hba)
    have HRb := Lib.hid ((HR9.out.later hB).later hba)
    have HBb := Lib.hid (Below.next (Below.next HB9.out hB) hba)
    clear hB hba hEa HX9 HF9 HR9 HB9 HPE
    obtain ⟨_, d1, d2, d3, d4, d5, d6, d7, d8, d9, d10, d11, d12, d13⟩ := HXb.out
    obtain ⟨_, f1, f2, f3, f4⟩ := HFb.out
    obtain ⟨_, b1, b2, b3⟩ := HRb.out
    obtain ⟨_, n1, n2, n3, n4, n5, n6, n7, n8, n9⟩ := HEb.out
    dsimp only at d1 d2 d3 d4 d5 d6 d7 d8 d9 d10 d11 d12 d13 n1 n2 n3 n4 n5 n6 n7 n8 n9
    have hor := HOR.out
    have hsh := HSH.out
    go_upto_region 18 with fail
    clear n1 n2 n3 n4 n5 n6 n7 n8 n9 f1 f2 f3 f4 b1 b2 b3 hor hsh
    generalize wa.alloc (.cells #[.int .i64 3, .int .i64 (u : Int), .int .u8 (x1.toNat : Int), .int .i64 t1, .int .i64 t2, .int .i64 t3, .int .i64 t4, .bool done, .int .u64 (TT.toNat : Int)] 84) = wb at *
    generalize wa.heap.size = pe at *
    go_wp2_with fail
    have hba := below_alloc wb (.cells #[.int .u8 (x1.toNat : Int), .int .i64 (u : Int), .int .i64 x3, .int .i64 x4, .int .i64 x5, .int .i64 x6, .string s, .int .u64 (x8.toNat : Int), .int .u64 (x9.toNat : Int), .int .u64 (x10.toNat : Int), .int .u8 (x11.toNat : Int), .int .u64 (x12.toNat : Int), .int .i64 (k : Int)] 91)
    have HYc : Hid (BoxOP (wb.alloc (.cells #[.int .u8 (x1.toNat : Int), .int .i64 (u : Int), .int .i64 x3, .int .i64 x4, .int .i64 x5, .int .i64 x6, .string s, .int .u64 (x8.toNat : Int), .int .u64 (x9.toNat : Int), .int .u64 (x10.toNat : Int), .int .u8 (x11.toNat : Int), .int .u64 (x12.toNat : Int), .int .i64 (k : Int)] 91)) wb.heap.size ⟨x1, (u : Int), x3, x4, x5, x6, s, x8, x9, x10, x11, x12, (k : Int)⟩) := BoxOP.start wb ⟨x1, (u : Int), x3, x4, x5, x6, s, x8, x9, x10, x11, x12, (k : Int)⟩ 91
    have HEc := Lib.hid (HEb.out.later hba)
    have HBc := Lib.hid (Below.next HBb.out hba)
    clear hba HEb HBb HXb HFb HRb d1 d2 d3 d4 d5 d6 d7 d8 d9 d10 d11 d12 d13
    generalize wb.alloc (.cells #[.int .u8 (x1.toNat : Int), .int .i64 (u : Int), .int .i64 x3, .int .i64 x4, .int .i64 x5, .int .i64 x6, .string s, .int .u64 (x8.toNat : Int), .int .u64 (x9.toNat : Int), .int .u64 (x10.toNat : Int), .int .u8 (x11.toNat : Int), .int .u64 (x12.toNat : Int), .int .i64 (k : Int)] 91) = wc at *
    generalize wb.heap.size = py at *
    refine (HS1.out _).mono ?_
    rintro e wd ⟨rfl, hB⟩
    have HYd := Lib.hid (HYc.out.later hB)
    have HEd := Lib.hid (HEc.out.later hB)
    have HBd := Lib.hid (Below.next HBc.out hB)
    clear hB HYc HEc HBc HS1
    by_cases hr1 : r1 = 0
    rotate_left
    · have hb1 : (r1 == 0) = false := by simpa using hr1
      have hb2 : (r1 != 0) = true := by simpa using hr1
      go_wp2_with fail
      refine (Ot.awake30' _).mono ?_
      rintro e wE ⟨rfl, hBE⟩
      have HBE := Lib.hid (Below.next HBd.out hBE)
      go_wp2_with fail
      go_ret
      exact ⟨rfl, HBE.out⟩
    subst hr1
    obtain ⟨_, d1, d2, d3, d4, d5, d6, d7, d8, d9, d10, d11, d12, d13⟩ := HYd.out
    dsimp only at d1 d2 d3 d4 d5 d6 d7 d8 d9 d10 d11 d12 d13
    go_wp2_with fail
    clear d1 d2 d3 d4 d5 d6 d7 d8 d9 d10 d11 d12 d13
    refine (HPY.out HP1 (by omega) (by omega) _ (HL.out.later HBd.out) (HG.out.later HBd.out)).mono ?_
    rintro e we ⟨rfl, hB⟩
    have hba := below_alloc we (.cells #[.int .i64 3, .int .i64 (u : Int), .int .u8 (x1.toNat : Int), .int .i64 t1, .int .i64 t2, .int .i64 t3, .int .i64 t4, .bool done, .int .u64 (TT.toNat : Int)] 84)
    obtain ⟨_, m1, m2, m3, m4, m5, m6, m7, m8, m9⟩ := BoxEV.start we ⟨3, (u : Int), x1, t1, t2, t3, t4, done, TT⟩ 84
    obtain ⟨_, n1, n2, n3, n4, n5, n6, n7, n8, n9⟩ := (HEd.out.later hB).later hba
    have HBf := Lib.hid (Below.next (Below.next HBd.out hB) hba)
    dsimp only at m1 m2 m3 m4 m5 m6 m7 m8 m9 n1 n2 n3 n4 n5 n6 n7 n8 n9
    clear hB hba HEd HBd HYd HPY
    go_wp2_with fail
    refine (Ot.awake30' _).mono ?_
    rintro e wE ⟨rfl, hBE⟩
    have HBE := Lib.hid (Below.next HBf.out hBE)
    go_wp2_with fail
    go_ret
    exact ⟨rfl, HBE.out⟩
  · rw [if_neg hk9] at HOT
    have HTO := Lib.hid (HOW.out _ HOT.out)
    have e9 : (((x1.toNat : Nat) : Int) == 9) = false := by simp; omega
    clear hk9
    obtain ⟨_, f1, f2, f3, f4⟩ := HF5.out
    go_wp2_with fail
    clear f1 f2 f3 f4 d1 d2 d3 d4 d5 d6 d7 d8 d9 d10 d11 d12 d13
    have HX6 := HX5
    have HF6 := HF5
    have HB6 := HB5
    clear HX5 HF5 HQ5 HB5
    generalize w5 = w6 at *
    refine (srange_any x3 x4 x5 x6 _).mono ?_
    rintro e w7 ⟨rfl, hB⟩
    have HX7 := Lib.hid (HX6.out.later hB)
    have HF7 := Lib.hid (HF6.out.later hB)
    have HB7 := Lib.hid (Below.next HB6.out hB)
    clear hB HX6 HF6 HB6
    cases hck : ckB x3 x4 x5 x6
    · go_wp2_with fail
      go_ret
      exact ⟨rfl, HB7.out⟩
    have hgc : gcE ⟨x3, x4, x5, x6⟩ L = 0 := gcE_zero.2 ⟨hck, HRK.out⟩
    have HBO : Hid (ovV RV.ow ⟨x3, x4, x5, x6⟩ L = ovr RV.ow ⟨x3, x4, x5, x6⟩ L) := if_pos hgc
    have hec := HEC.out ⟨x3, x4, x5, x6⟩ (by first | trivial | rfl) HVU.out HRK.out HGK.out HTO.out hck
    have hev := HEV.out ⟨x3, x4, x5, x6⟩ hec HTO.out
    have HGC := Lib.hid hgc
    have HOV := Lib.hid (fun W h => over_any x3 x4 x5 x6 a len cap L (by omega) W h)
    unfold overV rights3 at HOV
    rw [hgc, HBO.out] at HOV
    rw [hec, hev] at HPE HPY
    clear hgc hck hev hec HEC HEV HBO HGC
    rw [Int.toNat_natCast] at HPE HPY
    have HOR := Lib.hid (bits_or (ovr RV.ow ⟨x3, x4, x5, x6⟩ L) (bitW u))
    generalize ovV RV.rd ⟨x3, x4, x5, x6⟩ L = B1 at *
    generalize ovV RV.wr ⟨x3, x4, x5, x6⟩ L = B2 at *
    generalize ovr RV.ow ⟨x3, x4, x5, x6⟩ L = B3 at *
    generalize B3 ||| bitW u = TT at *
    have HSH := Lib.hid (shl_us u)
    generalize bitW u = BW at *
    unfold cellsEV at HPE HPY
    try unfold cellsOP at HPE
    try unfold cellsOP at HPY
    dsimp only at HPE HPY
    obtain ⟨_, f1, f2, f3, f4⟩ := HF7.out
    go_wp2_with fail
    clear f1 f2 f3 f4
    refine (HOV.out _ (HL.out.later HB7.out)).mono ?_
    rintro e w8 ⟨rfl, hB⟩
    have hba := below_alloc w8 (.cells #[.int .u64 (B1.toNat : Int), .int .u64 (B2.toNat : Int), .int .u64 (B3.toNat : Int)] 33)
    have HR9 := Lib.hid (Box3.start w8 (B1.toNat : Int) (B2.toNat : Int) (B3.toNat : Int) 33)
    have HX9 := Lib.hid ((HX7.out.later hB).later hba)
    have HF9 := Lib.hid ((HF7.out.later hB).later hba)
    have HB9 := Lib.hid (Below.next (Below.next HB7.out hB) hba)
    clear hB hba HX7 HF7 HB7 HOV
    obtain ⟨_, d1, d2, d3, d4, d5, d6, d7, d8, d9, d10, d11, d12, d13⟩ := HX9.out
    dsimp only at d1 d2 d3 d4 d5 d6 d7 d8 d9 d10 d11 d12 d13
    go_wp2_with fail
    clear d1 d2 d3 d4 d5 d6 d7 d8 d9 d10 d11 d12 d13
    generalize w8.alloc (.cells #[.int .u64 (B1.toNat : Int), .int .u64 (B2.toNat : Int), .int .u64 (B3.toNat : Int)] 33) = w9 at *
    generalize w8.heap.size = p8 at *
    refine (HPE.out HP0 (by omega) (by omega) _ (HL.out.later HB9.out) (HG.out.later HB9.out)).mono ?_
    rintro e wa ⟨rfl, hB⟩
    have hba := below_alloc wa (.cells #[.int .i64 3, .int .i64 (u : Int), .int .u8 (x1.toNat : Int), .int .i64 x3, .int .i64 x4, .int .i64 x5, .int .i64 x6, .bool done, .int .u64 (TT.toNat : Int)] 84)
    have hEa := BoxEV.start wa ⟨3, (u : Int), x1, x3, x4, x5, x6, done, TT⟩ 84
    have HEb : Hid (BoxEV (wa.alloc (.cells #[.int .i64 3, .int .i64 (u : Int), .int .u8 (x1.toNat : Int), .int .i64 x3, .int .i64 x4, .int .i64 x5, .int .i64 x6, .bool done, .int .u64 (TT.toNat : Int)] 84)) wa.heap.size ⟨3, (u : Int), x1, x3, x4, x5, x6, done, TT⟩) := hEa
    have HXb := Lib.hid ((HX9.out.later hB).later hba)
    have HFb := Lib.hid ((HF9.out.later hB).later hba)
    have HRb := Lib.hid ((HR9.out.later hB).later hba)
    have HBb := Lib.hid (Below.next (Below.next HB9.out hB) hba)
    clear hB hba hEa HX9 HF9 HR9 HB9 HPE
    obtain ⟨_, d1, d2, d3, d4, d5, d6, d7, d8, d9, d10, d11, d12, d13⟩ := HXb.out
    obtain ⟨_, f1, f2, f3, f4⟩ := HFb.out
    obtain ⟨_, b1, b2, b3⟩ := HRb.out
    obtain ⟨_, n1, n2, n3, n4, n5, n6, n7, n8, n9⟩ := HEb.out
    dsimp only at d1 d2 d3 d4 d5 d6 d7 d8 d9 d10 d11 d12 d13 n1 n2 n3 n4 n5 n6 n7 n8 n9
    have hor := HOR.out
    have hsh := HSH.out
    go_upto_region 18 with fail
    clear n1 n2 n3 n4 n5 n6 n7 n8 n9 f1 f2 f3 f4 b1 b2 b3 hor hsh
    generalize wa.alloc (.cells #[.int .i64 3, .int .i64 (u : Int), .int .u8 (x1.toNat : Int), .int .i64 x3, .int .i64 x4, .int .i64 x5, .int .i64 x6, .bool done, .int .u64 (TT.toNat : Int)] 84) = wb at *
    generalize wa.heap.size = pe at *
    go_wp2_with fail
    have hba := below_alloc wb (.cells #[.int .u8 (x1.toNat : Int), .int .i64 (u : Int), .int .i64 x3, .int .i64 x4, .int .i64 x5, .int .i64 x6, .string s, .int .u64 (x8.toNat : Int), .int .u64 (x9.toNat : Int), .int .u64 (x10.toNat : Int), .int .u8 (x11.toNat : Int), .int .u64 (x12.toNat : Int), .int .i64 x13] 91)
    have HYc : Hid (BoxOP (wb.alloc (.cells #[.int .u8 (x1.toNat : Int), .int .i64 (u : Int), .int .i64 x3, .int .i64 x4, .int .i64 x5, .int .i64 x6, .string s, .int .u64 (x8.toNat : Int), .int .u64 (x9.toNat : Int), .int .u64 (x10.toNat : Int), .int .u8 (x11.toNat : Int), .int .u64 (x12.toNat : Int), .int .i64 x13] 91)) wb.heap.size ⟨x1, (u : Int), x3, x4, x5, x6, s, x8, x9, x10, x11, x12, x13⟩) := BoxOP.start wb ⟨x1, (u : Int), x3, x4, x5, x6, s, x8, x9, x10, x11, x12, x13⟩ 91
    have HEc := Lib.hid (HEb.out.later hba)
    have HBc := Lib.hid (Below.next HBb.out hba)
    clear hba HEb HBb HXb HFb HRb d1 d2 d3 d4 d5 d6 d7 d8 d9 d10 d11 d12 d13
    generalize wb.alloc (.cells #[.int .u8 (x1.toNat : Int), .int .i64 (u : Int), .int .i64 x3, .int .i64 x4, .int .i64 x5, .int .i64 x6, .string s, .int .u64 (x8.toNat : Int), .int .u64 (x9.toNat : Int), .int .u64 (x10.toNat : Int), .int .u8 (x11.toNat : Int), .int .u64 (x12.toNat : Int), .int .i64 x13] 91) = wc at *
    generalize wb.heap.size = py at *
    refine (HS1.out _).mono ?_
    rintro e wd ⟨rfl, hB⟩
    have HYd := Lib.hid (HYc.out.later hB)
    have HEd := Lib.hid (HEc.out.later hB)
    have HBd := Lib.hid (Below.next HBc.out hB)
    clear hB HYc HEc HBc HS1
    by_cases hr1 : r1 = 0
    rotate_left
    · have hb1 : (r1 == 0) = false := by simpa using hr1
      have hb2 : (r1 != 0) = true := by simpa using hr1
      go_wp2_with fail
      refine (Ot.awake30' _).mono ?_
      rintro e wE ⟨rfl, hBE⟩
      have HBE := Lib.hid (Below.next HBd.out hBE)
      go_wp2_with fail
      go_ret
      exact ⟨rfl, HBE.out⟩
    subst hr1
    obtain ⟨_, d1, d2, d3, d4, d5, d6, d7, d8, d9, d10, d11, d12, d13⟩ := HYd.out
    dsimp only at d1 d2 d3 d4 d5 d6 d7 d8 d9 d10 d11 d12 d13
    go_wp2_with fail
    clear d1 d2 d3 d4 d5 d6 d7 d8 d9 d10 d11 d12 d13
    refine (HPY.out HP1 (by omega) (by omega) _ (HL.out.later HBd.out) (HG.out.later HBd.out)).mono ?_
    rintro e we ⟨rfl, hB⟩
    have hba := below_alloc we (.cells #[.int .i64 3, .int .i64 (u : Int), .int .u8 (x1.toNat : Int), .int .i64 x3, .int .i64 x4, .int .i64 x5, .int .i64 x6, .bool done, .int .u64 (TT.toNat : Int)] 84)
    obtain ⟨_, m1, m2, m3, m4, m5, m6, m7, m8, m9⟩ := BoxEV.start we ⟨3, (u : Int), x1, x3, x4, x5, x6, done, TT⟩ 84
    obtain ⟨_, n1, n2, n3, n4, n5, n6, n7, n8, n9⟩ := (HEd.out.later hB).later hba
    have HBf := Lib.hid (Below.next (Below.next HBd.out hB) hba)
    dsimp only at m1 m2 m3 m4 m5 m6 m7 m8 m9 n1 n2 n3 n4 n5 n6 n7 n8 n9
    clear hB hba HEd HBd HYd HPY
    go_wp2_with fail
    refine (Ot.awake30' _).mono ?_
    rintro e wE ⟨rfl, hBE⟩
    have HBE := Lib.hid (Below.next HBf.out hBE)
    go_wp2_with fail
    go_ret
    exact ⟨rfl, HBE.out⟩
end Go.Proofs.Ytndijajaddkbhaa.Re
