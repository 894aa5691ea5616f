/- Check of both sides. -/
import Derived.Test.YtndijajaddkbhaaEvD
namespace Go.Proofs.Ytndijajaddkbhaa.Re
open Go.RowKit AM
/-- The first error of a log, its entries' steps behind b. -/
def scan {α : Type} (err : Int → α → Int) (st : α → Int) : List α → Int → Int
  | [], _ => 0
  | x :: l, b => if err b x = 0 then scan err st l (st x) else err b x
theorem scan_at {α : Type} (err : Int → α → Int) (st : α → Int) (L : List α) (k : Nat) (h : k < L.length) (b : Int) : scan err st (L.drop k) b = if err b L[k] = 0 then scan err st (L.drop (k + 1)) (st L[k]) else err b L[k] := by
  rw [List.drop_eq_getElem_cons h]; rfl
theorem scan_end {α : Type} (err : Int → α → Int) (st : α → Int) (L : List α) (b : Int) : scan err st (L.drop L.length) b = 0 := by
  rw [List.drop_length]; rfl
theorem evE_le {n : Nat} {b : Int} {g : EV} (h : g.st ≤ b) : evE n b g = 12 := by unfold evE; rw [if_pos h]
theorem evE_gt {n : Nat} {b : Int} {g : EV} (h : ¬ g.st ≤ b) : evE n b g = cE n g := by unfold evE; rw [if_neg h]
theorem reE_le {n : Nat} {b : Int} {g : LV} (h : g.st < b) : reE n b g = 12 := by unfold reE; rw [if_pos h]
theorem reE_gt {n : Nat} {b : Int} {g : LV} (h : ¬ g.st < b) : reE n b g = lE n g := by unfold reE; rw [if_neg h]
def logE (n : Int) (L : List EV) (M : List LV) : Int := if n < 1 ∨ 64 < n then 2 else (if scan (evE n.toNat) EV.st L (-1) = 0 then scan (reE n.toNat) LV.st M (-1) else scan (evE n.toNat) EV.st L (-1))
set_option maxRecDepth 100000 in
set_option maxHeartbeats 12800000 in
theorem plog_ok (n : Nat) (h1 : 1 ≤ n) (hn : n ≤ 64) (a : Option Addr) (n1 cap1 : Nat) (L : List EV) (b' : Option Addr) (n2 cap2 : Nat) (M : List LV) (hl1 : n1 ≤ 100000) (hl2 : n2 ≤ 100000) (w : World) (hL : IsEV w a n1 L) (hM : IsLV w b' n2 M) :
    Calls Try.prog 38 #[.int .i64 (n : Int), .slice a n1 cap1, .slice b' n2 cap2] w fun e w' => e = .returned (.int .i64 (logE (n : Int) L M)) ∧ Below w.heap.size w w' := by
  have HL := Lib.hid hL
  have HM := Lib.hid hM
  have HLL := Lib.hid hL.1
  have HML := Lib.hid hM.1
  clear hL hM
  have HLG : Hid (logE (n : Int) L M = (if scan (evE n) EV.st L (-1) = 0 then scan (reE n) LV.st M (-1) else scan (evE n) EV.st L (-1))) := by
    unfold Hid logE
    rw [if_neg (by omega), Int.toNat_natCast]
  have hn0 : ((n : Int) == 0) = false := by simp; omega
  go_enter Try.func38, Try.ntmps38
  go_wp2_with fail
  refine (all_in' n hn _).mono ?_
  rintro e w' ⟨rfl, rfl⟩
  go_wp2_with fail
  go_loopw [9, 29] (fun v i wr => ∃ (k : Nat) (b : Int), k ≤ n1 ∧ i = .int .i64 k ∧ v = .int .i64 b ∧ Hid (scan (evE n) EV.st L (-1) = scan (evE n) EV.st (L.drop k) b) ∧ Below w.heap.size w wr) (fun v i _ => n1 - (intOf i).toNat)
  case atStart => exact ⟨0, -1, Nat.zero_le _, rfl, rfl, rfl, Below.refl _ _⟩
  case round =>
    obtain ⟨k, b, hk, rfl, rfl, HS, hB⟩ := hrel
    have HB := Lib.hid hB
    clear hB
    by_cases hlt : k < n1
    · have hkl : k < L.length := by rw [HLL.out]; exact hlt
      have HSC := Lib.hid (scan_at (evE n) EV.st L k hkl b)
      obtain ⟨bb, off, rfl, hr⟩ := (HL.out.later HB.out).2 (by omega)
      have hbl := hr.1
      have s1 := RowOf.atEV hr k hkl
      have HSF := Lib.hid s1
      have HBX := Lib.hid (BoxEV.start wr L[k] 84)
      have HBA := Lib.hid (below_alloc wr (.cells (cellsEV L[k]).toArray 84))
      have HC := Lib.hid (fun W => pcE_any n L[k] W)
      clear hr HSF
      have HGE : Hid (L[k].st ≤ b → evE n b L[k] = 12) := evE_le
      have HGT : Hid (¬ L[k].st ≤ b → evE n b L[k] = cE n L[k]) := evE_gt
      generalize evE n b L[k] = ee at *
      generalize cE n L[k] = ce at *
      generalize L[k] = r at *
      obtain ⟨x1, x2, x3, x4, x5, x6, x7, x8, x9⟩ := r
      obtain ⟨c1, c2, c3, c4, c5, c6, c7, c8, c9⟩ := s1
      unfold cellsEV at HBX HBA HC
      dsimp only at *
      obtain ⟨_, d1, d2, d3, d4, d5, d6, d7, d8, d9⟩ := HBX.out
      dsimp only at d1 d2 d3 d4 d5 d6 d7 d8 d9
      have HBB := Lib.hid (Below.next HB.out HBA.out)
      by_cases hst : x1 ≤ b
      · have h12 := HGE.out hst
        subst h12
        rw [if_neg (by decide)] at HSC
        have HZ := Lib.hid (HS.out.trans HSC.out)
        clear HSC HS HGE HGT
        go_wp2_with fail
        go_ret
        exact ⟨retZ (HLG.out.trans ((if_neg (by rw [HZ.out]; decide)).trans HZ.out)).symm, HBB.out⟩
      · have hge := HGT.out hst
        subst hge
        clear HGE HGT
        go_wp2_with fail
        clear c1 c2 c3 c4 c5 c6 c7 c8 c9 d1 d2 d3 d4 d5 d6 d7 d8 d9
        generalize wr.alloc (.cells #[.int .i64 x1, .int .i64 x2, .int .u8 (x3.toNat : Int), .int .i64 x4, .int .i64 x5, .int .i64 x6, .int .i64 x7, .bool x8, .int .u64 (x9.toNat : Int)] 84) = wa at *
        refine (HC.out wa).mono ?_
        rintro e w1 ⟨rfl, hB1⟩
        have HB1 := Lib.hid (Below.next HBB.out hB1)
        clear hB1 HBB HBX HBA HB HC
        by_cases hc0 : ee = 0
        · rw [if_pos hc0] at HSC
          have HZ := Lib.hid (HS.out.trans HSC.out)
          subst hc0
          clear HSC HS
          go_wp2_with fail
          go_roundw
          case rel => exact ⟨k + 1, x1, by omega, by go_num, rfl, HZ.out, HB1.out⟩
          case measure => simp [intOf]; omega
        · rw [if_neg hc0] at HSC
          have HZ := Lib.hid (HS.out.trans HSC.out)
          have hb1 : (ee == 0) = false := by simpa using hc0
          have hb2 : (ee != 0) = true := by simpa using hc0
          have HC0 := Lib.hid hc0
          clear HSC HS
          go_wp2_with fail
          go_ret
          exact ⟨retZ (HLG.out.trans ((if_neg (by rw [HZ.out]; exact HC0.out)).trans HZ.out)).symm, HB1.out⟩
    · obtain rfl : k = n1 := by omega
      have HE : Hid (scan (evE n) EV.st L (-1) = 0) := by unfold Hid; rw [HS.out, ← HLL.out]; exact scan_end _ _ _ _
      have HEV := Lib.hid HE.out
      have HB0 := Lib.hid HB.out
      clear HE HS HB
      generalize wr = w0 at *
      go_wp2_with fail
      go_loopw [9, 48] (fun v i wr => ∃ (k : Nat) (b : Int), k ≤ n2 ∧ i = .int .i64 k ∧ v = .int .i64 b ∧ Hid (scan (reE n) LV.st M (-1) = scan (reE n) LV.st (M.drop k) b) ∧ Below w.heap.size w wr) (fun v i _ => n2 - (intOf i).toNat)
      case atStart => exact ⟨0, -1, Nat.zero_le _, rfl, rfl, rfl, HB0.out⟩
      case round =>
        obtain ⟨k, b, hk, rfl, rfl, HS, hB⟩ := hrel
        have HB := Lib.hid hB
        clear hB
        by_cases hlt : k < n2
        · have hkl : k < M.length := by rw [HML.out]; exact hlt
          have HSC := Lib.hid (scan_at (reE n) LV.st M k hkl b)
          obtain ⟨bb, off, rfl, hr⟩ := (HM.out.later HB.out).2 (by omega)
          have hbl := hr.1
          have s1 := RowOf.atLV hr k hkl
          have HSF := Lib.hid s1
          have HBX := Lib.hid (BoxLV.start wr M[k] 88)
          have HBA := Lib.hid (below_alloc wr (.cells (cellsLV M[k]).toArray 88))
          have HC := Lib.hid (fun W => plE_any n M[k] W)
          clear hr HSF
          have HGE : Hid (M[k].st < b → reE n b M[k] = 12) := reE_le
          have HGT : Hid (¬ M[k].st < b → reE n b M[k] = lE n M[k]) := reE_gt
          generalize reE n b M[k] = ee at *
          generalize lE n M[k] = ce at *
          generalize M[k] = r at *
          obtain ⟨x1, x2, x3, x4, x5, x6, x7, x8, x9, x10, x11⟩ := r
          obtain ⟨c1, c2, c3, c4, c5, c6, c7, c8, c9, c10, c11⟩ := s1
          unfold cellsLV at HBX HBA HC
          dsimp only at *
          obtain ⟨_, d1, d2, d3, d4, d5, d6, d7, d8, d9, d10, d11⟩ := HBX.out
          dsimp only at d1 d2 d3 d4 d5 d6 d7 d8 d9 d10 d11
          have HBB := Lib.hid (Below.next HB.out HBA.out)
          by_cases hst : x1 < b
          · have h12 := HGE.out hst
            subst h12
            rw [if_neg (by decide)] at HSC
            have HZ := Lib.hid (HS.out.trans HSC.out)
            clear HSC HS HGE HGT
            go_wp2_with fail
            go_ret
            exact ⟨retZ (HLG.out.trans ((if_pos HEV.out).trans HZ.out)).symm, HBB.out⟩
          · have hge := HGT.out hst
            subst hge
            clear HGE HGT
            go_wp2_with fail
            clear c1 c2 c3 c4 c5 c6 c7 c8 c9 c10 c11 d1 d2 d3 d4 d5 d6 d7 d8 d9 d10 d11
            generalize wr.alloc (.cells #[.int .i64 x1, .int .i64 x2, .int .i64 x3, .int .i64 x4, .int .u8 (x5.toNat : Int), .int .i64 x6, .int .i64 x7, .int .i64 x8, .int .i64 x9, .int .i64 x10, .int .u64 (x11.toNat : Int)] 88) = wa at *
            refine (HC.out wa).mono ?_
            rintro e w1 ⟨rfl, hB1⟩
            have HB1 := Lib.hid (Below.next HBB.out hB1)
            clear hB1 HBB HBX HBA HB HC
            by_cases hc0 : ee = 0
            · rw [if_pos hc0] at HSC
              have HZ := Lib.hid (HS.out.trans HSC.out)
              subst hc0
              clear HSC HS
              go_wp2_with fail
              go_roundw
              case rel => exact ⟨k + 1, x1, by omega, by go_num, rfl, HZ.out, HB1.out⟩
              case measure => simp [intOf]; omega
            · rw [if_neg hc0] at HSC
              have HZ := Lib.hid (HS.out.trans HSC.out)
              have hb1 : (ee == 0) = false := by simpa using hc0
              have hb2 : (ee != 0) = true := by simpa using hc0
              have HC0 := Lib.hid hc0
              clear HSC HS
              go_wp2_with fail
              go_ret
              exact ⟨retZ (HLG.out.trans ((if_pos HEV.out).trans HZ.out)).symm, HB1.out⟩
        · obtain rfl : k = n2 := by omega
          have HE : Hid (scan (reE n) LV.st M (-1) = 0) := by unfold Hid; rw [HS.out, ← HML.out]; exact scan_end _ _ _ _
          go_wp2_with fail
          go_ret
          exact ⟨retZ (HLG.out.trans ((if_pos HEV.out).trans HE.out)).symm, HB.out⟩
theorem plog_any (n : Int) (a : Option Addr) (n1 cap1 : Nat) (L : List EV) (b' : Option Addr) (n2 cap2 : Nat) (M : List LV) (hl1 : n1 ≤ 100000) (hl2 : n2 ≤ 100000) (w : World) (hL : IsEV w a n1 L) (hM : IsLV w b' n2 M) :
    Calls Try.prog 38 #[.int .i64 n, .slice a n1 cap1, .slice b' n2 cap2] w fun e w' => e = .returned (.int .i64 (logE n L M)) ∧ Below w.heap.size w w' := by
  by_cases hout : n < 1 ∨ 64 < n
  rotate_left
  · obtain ⟨v, rfl⟩ : ∃ v : Nat, n = v := ⟨n.toNat, by omega⟩
    exact plog_ok v (by omega) (by omega) a n1 cap1 L b' n2 cap2 M hl1 hl2 w hL hM
  have HLG : Hid (logE n L M = 2) := by unfold Hid logE; rw [if_pos hout]
  by_cases h0 : n = 0
  · subst h0
    go_enter Try.func38, Try.ntmps38
    go_wp2_with fail
    refine (all_in' 0 (by decide) _).mono ?_
    rintro e w' ⟨rfl, rfl⟩
    go_wp2_with fail
    go_ret
    exact ⟨retZ HLG.out.symm, Below.refl _ _⟩
  · have hn0 : (n == 0) = false := by simpa using h0
    go_enter Try.func38, Try.ntmps38
    go_wp2_with fail
    refine (all_out n (by omega) _).mono ?_
    rintro e w' ⟨rfl, rfl⟩
    go_wp2_with fail
    go_ret
    exact ⟨retZ HLG.out.symm, Below.refl _ _⟩
set_option maxRecDepth 100000 in
set_option maxHeartbeats 12800000 in
theorem slog_ok (n : Nat) (h1 : 1 ≤ n) (hn : n ≤ 64) (a : Option Addr) (n1 cap1 : Nat) (L : List EV) (b' : Option Addr) (n2 cap2 : Nat) (M : List LV) (hl1 : n1 ≤ 100000) (hl2 : n2 ≤ 100000) (w : World) (hL : IsEV w a n1 L) (hM : IsLV w b' n2 M) :
    Calls Try.prog 39 #[.int .i64 (n : Int), .slice a n1 cap1, .slice b' n2 cap2] w fun e w' => e = .returned (.int .i64 (logE (n : Int) L M)) ∧ Below w.heap.size w w' := by
  have HL := Lib.hid hL
  have HM := Lib.hid hM
  have HLL := Lib.hid hL.1
  have HML := Lib.hid hM.1
  clear hL hM
  have HLG : Hid (logE (n : Int) L M = (if scan (evE n) EV.st L (-1) = 0 then scan (reE n) LV.st M (-1) else scan (evE n) EV.st L (-1))) := by
    unfold Hid logE
    rw [if_neg (by omega), Int.toNat_natCast]
  have hn0 : ((n : Int) == 0) = false := by simp; omega
  go_enter Try.func39, Try.ntmps39
  go_wp2_with fail
  go_loopw [7, 8] (fun v i wr => ∃ (k : Nat) (b : Int), k ≤ n1 ∧ i = .int .i64 k ∧ v = .int .i64 b ∧ Hid (scan (evE n) EV.st L (-1) = scan (evE n) EV.st (L.drop k) b) ∧ Below w.heap.size w wr) (fun v i _ => n1 - (intOf i).toNat)
  case atStart => exact ⟨0, -1, Nat.zero_le _, rfl, rfl, rfl, Below.refl _ _⟩
  case round =>
    obtain ⟨k, b, hk, rfl, rfl, HS, hB⟩ := hrel
    have HB := Lib.hid hB
    clear hB
    by_cases hlt : k < n1
    · have hkl : k < L.length := by rw [HLL.out]; exact hlt
      have HSC := Lib.hid (scan_at (evE n) EV.st L k hkl b)
      obtain ⟨bb, off, rfl, hr⟩ := (HL.out.later HB.out).2 (by omega)
      have hbl := hr.1
      have s1 := RowOf.atEV hr k hkl
      have HSF := Lib.hid s1
      have HC := Lib.hid (fun W => scE_any n hn b L[k] W)
      have HKE : Hid (∀ W, Below wr.heap.size wr W → W.cell? ⟨bb, off + k * 9, none⟩ = some (.int .i64 L[k].st)) := fun W hB => ((hr.later hB).2 k hkl 0 _ rfl)
      clear hr HSF
      generalize evE n b L[k] = ee at *
      generalize L[k] = r at *
      obtain ⟨x1, x2, x3, x4, x5, x6, x7, x8, x9⟩ := r
      obtain ⟨c1, c2, c3, c4, c5, c6, c7, c8, c9⟩ := s1
      unfold cellsEV at HC
      dsimp only at *
      go_wp2_with fail
      clear c1 c2 c3 c4 c5 c6 c7 c8 c9
      refine (HC.out wr).mono ?_
      rintro e w1 ⟨rfl, hB1⟩
      have HB1 := Lib.hid (Below.next HB.out hB1)
      have c1 := HKE.out _ hB1
      clear hB1 HB HC
      by_cases hc0 : ee = 0
      · rw [if_pos hc0] at HSC
        have HZ := Lib.hid (HS.out.trans HSC.out)
        subst hc0
        clear HSC HS
        go_wp2_with fail
        go_roundw
        case rel => exact ⟨k + 1, x1, by omega, by go_num, rfl, HZ.out, HB1.out⟩
        case measure => simp [intOf]; omega
      · rw [if_neg hc0] at HSC
        have HZ := Lib.hid (HS.out.trans HSC.out)
        have hb1 : (ee == 0) = false := by simpa using hc0
        have hb2 : (ee != 0) = true := by simpa using hc0
        have HC0 := Lib.hid hc0
        clear HSC HS
        go_wp2_with fail
        go_ret
        exact ⟨retZ (HLG.out.trans ((if_neg (by rw [HZ.out]; exact HC0.out)).trans HZ.out)).symm, HB1.out⟩
    · obtain rfl : k = n1 := by omega
      have HE : Hid (scan (evE n) EV.st L (-1) = 0) := by unfold Hid; rw [HS.out, ← HLL.out]; exact scan_end _ _ _ _
      have HEV := Lib.hid HE.out
      have HB0 := Lib.hid HB.out
      clear HE HS HB
      generalize wr = w0 at *
      go_wp2_with fail
      go_loopw [7, 10] (fun v i wr => ∃ (k : Nat) (b : Int), k ≤ n2 ∧ i = .int .i64 k ∧ v = .int .i64 b ∧ Hid (scan (reE n) LV.st M (-1) = scan (reE n) LV.st (M.drop k) b) ∧ Below w.heap.size w wr) (fun v i _ => n2 - (intOf i).toNat)
      case atStart => exact ⟨0, -1, Nat.zero_le _, rfl, rfl, rfl, HB0.out⟩
      case round =>
        obtain ⟨k, b, hk, rfl, rfl, HS, hB⟩ := hrel
        have HB := Lib.hid hB
        clear hB
        by_cases hlt : k < n2
        · have hkl : k < M.length := by rw [HML.out]; exact hlt
          have HSC := Lib.hid (scan_at (reE n) LV.st M k hkl b)
          obtain ⟨bb, off, rfl, hr⟩ := (HM.out.later HB.out).2 (by omega)
          have hbl := hr.1
          have s1 := RowOf.atLV hr k hkl
          have HSF := Lib.hid s1
          have HC := Lib.hid (fun W => slE_any n hn b M[k] W)
          have HKE : Hid (∀ W, Below wr.heap.size wr W → W.cell? ⟨bb, off + k * 11, none⟩ = some (.int .i64 M[k].st)) := fun W hB => ((hr.later hB).2 k hkl 0 _ rfl)
          clear hr HSF
          generalize reE n b M[k] = ee at *
          generalize M[k] = r at *
          obtain ⟨x1, x2, x3, x4, x5, x6, x7, x8, x9, x10, x11⟩ := r
          obtain ⟨c1, c2, c3, c4, c5, c6, c7, c8, c9, c10, c11⟩ := s1
          unfold cellsLV at HC
          dsimp only at *
          go_wp2_with fail
          clear c1 c2 c3 c4 c5 c6 c7 c8 c9 c10 c11
          refine (HC.out wr).mono ?_
          rintro e w1 ⟨rfl, hB1⟩
          have HB1 := Lib.hid (Below.next HB.out hB1)
          have c1 := HKE.out _ hB1
          clear hB1 HB HC
          by_cases hc0 : ee = 0
          · rw [if_pos hc0] at HSC
            have HZ := Lib.hid (HS.out.trans HSC.out)
            subst hc0
            clear HSC HS
            go_wp2_with fail
            go_roundw
            case rel => exact ⟨k + 1, x1, by omega, by go_num, rfl, HZ.out, HB1.out⟩
            case measure => simp [intOf]; omega
          · rw [if_neg hc0] at HSC
            have HZ := Lib.hid (HS.out.trans HSC.out)
            have hb1 : (ee == 0) = false := by simpa using hc0
            have hb2 : (ee != 0) = true := by simpa using hc0
            have HC0 := Lib.hid hc0
            clear HSC HS
            go_wp2_with fail
            go_ret
            exact ⟨retZ (HLG.out.trans ((if_pos HEV.out).trans HZ.out)).symm, HB1.out⟩
        · obtain rfl : k = n2 := by omega
          have HE : Hid (scan (reE n) LV.st M (-1) = 0) := by unfold Hid; rw [HS.out, ← HML.out]; exact scan_end _ _ _ _
          go_wp2_with fail
          go_ret
          exact ⟨retZ (HLG.out.trans ((if_pos HEV.out).trans HE.out)).symm, HB.out⟩
theorem slog_any (n : Int) (a : Option Addr) (n1 cap1 : Nat) (L : List EV) (b' : Option Addr) (n2 cap2 : Nat) (M : List LV) (hl1 : n1 ≤ 100000) (hl2 : n2 ≤ 100000) (w : World) (hL : IsEV w a n1 L) (hM : IsLV w b' n2 M) :
    Calls Try.prog 39 #[.int .i64 n, .slice a n1 cap1, .slice b' n2 cap2] w fun e w' => e = .returned (.int .i64 (logE n L M)) ∧ Below w.heap.size w w' := by
  by_cases hout : n < 1 ∨ 64 < n
  rotate_left
  · obtain ⟨v, rfl⟩ : ∃ v : Nat, n = v := ⟨n.toNat, by omega⟩
    exact slog_ok v (by omega) (by omega) a n1 cap1 L b' n2 cap2 M hl1 hl2 w hL hM
  have HLG : Hid (logE n L M = 2) := by unfold Hid logE; rw [if_pos hout]
  by_cases h0 : n < 1
  · go_enter Try.func39, Try.ntmps39
    go_wp2_with fail
    go_ret
    exact ⟨retZ HLG.out.symm, Below.refl _ _⟩
  · have h1 : 64 < n := by omega
    go_enter Try.func39, Try.ntmps39
    go_wp2_with fail
    go_ret
    exact ⟨retZ HLG.out.symm, Below.refl _ _⟩
end Go.Proofs.Ytndijajaddkbhaa.Re
