/- The walk of FlogicErrors. -/
import Derived.Test.YtdhahiodnmmkeaaGreatDoorFeM
import Derived.Test.YtdhahiodnmmkeaaGreatDoorFlA
import Derived.Test.YtdhahiodnmmkeaaGreatDoorMgk
namespace Go.Proofs.YtdhahiodnmmkeaaGreatDoor.Va
open Go Go.RowKit GM
set_option linter.unusedVariables false
set_option linter.unusedSimpArgs false
theorem idx3f (j : Nat) (hj : j < 3) : ∃ fn : Nat, (∀ w, (Instr.index 37 (.agg #[.int .u8 21, .int .u8 22, .int .u8 23]) (.int .i64 (j : Int))).run Tryz.prog w = .ok (.int .u8 (fn : Int)) w) ∧ (fn = 21 ∨ fn = 22 ∨ fn = 23) := by
  obtain rfl | rfl | rfl := (by omega : j = 0 ∨ j = 1 ∨ j = 2)
  · exact ⟨21, fun w => by kernel_rfl, .inl rfl⟩
  · exact ⟨22, fun w => by kernel_rfl, .inr (.inl rfl)⟩
  · exact ⟨23, fun w => by kernel_rfl, .inr (.inr rfl)⟩
set_option maxRecDepth 100000 in
set_option maxHeartbeats 12800000 in
theorem flogicErrors_any (L G : List V3) (a : Option Addr) (n cap : Nat) (w : World) (hL : IsV w a n L) (hlen : G.length = L.length)
    (hG : ∀ k (h : k < L.length) (h' : k < G.length) W, Tb W → Calls Tryz.prog 20 #[vOf L[k]] W fun e w' => e = .returned (vOf G[k]) ∧ Below W.heap.size W w')
    (hok : ∀ v ∈ G, vE v.1 v.2.1 v.2.2.data.toList = 0 ∧ v.2.2.size ≤ 300 ∧ InI v.2.1) (hT : Tb w) :
    Calls Tryz.prog 7 #[.slice a n cap] w fun e w' => e = .returned (.bool true) ∧ Below w.heap.size w w' := by
  have HT := Lib.hid hT
  have HL := Lib.hid hL
  have hnl := hL.1
  have HG := Lib.hid hG
  have HOK := Lib.hid hok
  have HAW := Lib.hid (fun W (hB : Below w.heap.size w W) => awake15 W (hT.later hB))
  have HP : Hid (∀ (fn : Nat) (a : Option Addr) (cap : Nat) (M : List V3) (hm : M.length ≤ 16) (hM : ∀ v ∈ M, vE v.1 v.2.1 v.2.2.data.toList = 0 ∧ v.2.2.size ≤ 300 ∧ InI v.2.1) W (hB : Below w.heap.size w W) (hI : IsV W a M.length M), Calls Tryz.prog 22 #[.int .u8 (fn : Int), .slice a M.length cap] W fun e w' => e = .returned (.tuple #[vOf (callL fn M).1, .int .i64 (callL fn M).2]) ∧ Below W.heap.size W w') :=
    fun fn a cap M hm hM W hB hI => plcall_any fn a M.length cap M W hI (by omega) (fun v hv => ⟨Nat.le_trans (hM v hv).2.1 (by decide), (hM v hv).2.2⟩) (hT.later hB)
  have HX := Lib.hid (B3.start w 0 0 ⟨#[]⟩)
  have HB := Lib.hid (valloc w (.cells #[.int .u8 0, .int .i64 0, .string ⟨#[]⟩] 26))
  have HLEN := Lib.hid hlen
  clear hL hG hok hT hlen
  go_enter Tryz.func7, Tryz.ntmps7
  go_upto_region 3 with fail
  generalize w.alloc (.cells #[.int .u8 0, .int .i64 0, .string ⟨#[]⟩] 26) = wa at *
  go_wp2_with fail
  go_loopw [3, 5] (fun u i wr => ∃ (k : Nat) (M : List V3), k ≤ n ∧ k ≤ 16 ∧ i = .int .i64 (k : Int) ∧ Hid (G.take k = M) ∧ Hid (OwnV (w.heap.size + 1) wr u M) ∧ Hid (B3 wr w.heap.size (wantL M).1 (wantL M).2.1 (wantL M).2.2) ∧ Hid (Below w.heap.size w wr)) (fun _ i _ => 17 - (intOf i).toNat)
  case atStart => exact ⟨0, [], by omega, by omega, rfl, rfl, OwnOf.nil _ _ _ _ _, HX.out, HB.out⟩
  case round =>
    clear HX HB
    obtain ⟨k, M, hk, hk16, rfl, HM, HO, HX, HB⟩ := hrel
    have hml : M.length = k := by rw [← HM.out, List.length_take, HLEN.out, hnl]; omega
    obtain ⟨ua, uc, rfl, hI0⟩ := OwnOf.isOf cellsV_len HO.out
    by_cases hgo : k < n ∧ k < 16
    · obtain ⟨hlt, h16⟩ := hgo
      have hki : (k : Int) < (n : Int) := by omega
      have d2 : decide ((k : Int) < 16) = true := by simp; omega
      have hkl : k < L.length := by rw [hnl]; exact hlt
      have hkg : k < G.length := by rw [HLEN.out]; exact hkl
      obtain ⟨b, off, rfl, hbl, c1, c2, c3⟩ := isV_at (IsOf.later HL.out HB.out) hkl
      have HC := Lib.hid (fun W (hB : Below w.heap.size w W) => HG.out k hkl hkg W (HT.out.later hB))
      have HS := Lib.hid (List.take_succ_eq_append_getElem hkg)
      have HW2 := Lib.hid (wantL_snoc M G[k])
      rw [HM.out] at HS
      have HVB := Lib.hid (fun W (hB : Below w.heap.size w W) => vto_bool G[k].1 G[k].2.1 G[k].2.2 (Nat.le_trans (HOK.out _ (List.getElem_mem hkg)).2.1 (by decide)) (HOK.out _ (List.getElem_mem hkg)).2.2 W (HT.out.later hB))
      have hlm : M.length ≤ 1000 := by omega
      obtain ⟨⟨uk, un, us⟩, hu⟩ : ∃ u, L[k] = u := ⟨_, rfl⟩
      obtain ⟨⟨gk, gn, gs⟩, hg⟩ : ∃ u, G[k] = u := ⟨_, rfl⟩
      rw [hu] at c1 c2 c3
      rw [hu, hg] at HC
      rw [hg] at HS HW2 HVB
      unfold vOf at HC
      dsimp only at HC HVB c1 c2 c3
      obtain ⟨⟨xk, xn, xs⟩, hx⟩ : ∃ u, cvR 2 gk gn gs = u := ⟨_, rfl⟩
      rw [hx] at HVB
      dsimp only at HVB
      have HX2 : Hid (cv2 (gk, gn, gs) = (xk, xn, xs)) := hx
      obtain ⟨⟨pk, pn, ps⟩, hp⟩ : ∃ u, wantL M = u := ⟨_, rfl⟩
      rw [hp] at HX HW2
      dsimp only at HX
      clear hu hg hx hp hnl hml HM hI0
      go_wp2_with fail
      refine (HC.out _ HB.out).mono ?_
      rintro e w1 ⟨rfl, hB1⟩
      have hq1 : w.heap.size < w1.heap.size := Nat.lt_of_lt_of_le HX.out.lt hB1.size
      have l1 := valloc w1 (.cells #[.int .u8 (gk : Int), .int .i64 gn, .string gs] 26)
      have HV1 := Lib.hid (B3.start w1 gk gn gs)
      replace HX := Lib.hid (HX.out.later (vnext hB1 l1))
      replace HO := Lib.hid (OwnOf.later HO.out (vnext hB1 l1))
      replace HB := Lib.hid (vnext HB.out (vnext hB1 l1))
      clear hB1 l1 c1 c2 c3 hbl
      go_upto_region 7 with fail
      generalize w1.heap.size = q1 at *
      generalize w1.alloc (.cells #[.int .u8 (gk : Int), .int .i64 gn, .string gs] 26) = w2 at *
      obtain ⟨y0, y1, y2, _, _, _⟩ := HV1.out.cells
      have hyl := HV1.out.lt
      go_wp2_with fail
      refine (HVB.out _ HB.out).mono ?_
      rintro e w3 ⟨rfl, hB1⟩
      have l1 := valloc w3 (.cells #[.int .u8 (xk : Int), .int .i64 xn, .string xs] 26)
      have HV3 := Lib.hid (B3.start w3 xk xn xs)
      replace HV1 := Lib.hid (HV1.out.later (vnext hB1 l1))
      replace HX := Lib.hid (HX.out.later (vnext hB1 l1))
      replace HO := Lib.hid (OwnOf.later HO.out (vnext hB1 l1))
      replace HB := Lib.hid (vnext HB.out (vnext hB1 l1))
      clear hB1 l1 y0 y1 y2 hyl
      go_upto_region 8 with fail
      generalize w3.heap.size = q3 at *
      generalize w3.alloc (.cells #[.int .u8 (xk : Int), .int .i64 xn, .string xs] 26) = w4 at *
      obtain ⟨y0, y1, y2, _, _, _⟩ := HV1.out.cells
      have hyl := HV1.out.lt
      obtain ⟨x0, x1, x2, _, _, _⟩ := HV3.out.cells
      have hxl := HV3.out.lt
      obtain ⟨p0, p1, p2, f0, f1, f2⟩ := HX.out.cells
      have hpl := HX.out.lt
      by_cases h4 : xk = 4 ∧ pk = 0
      · obtain ⟨rfl, rfl⟩ := h4
        have HW3 : Hid (wantL (M ++ [(gk, gn, gs)]) = (4, xn, xs)) := by unfold Hid; rw [HW2.out]; unfold wantF; rw [HX2.out]; exact if_pos ⟨rfl, rfl⟩
        obtain ⟨hq, hg⟩ := b3_set HX.out 4 xn xs
        have HQ := Lib.hid hq
        have HO5 := Lib.hid (show OwnV (w.heap.size + 1) (((w4.setCell ⟨w.heap.size, 0, none⟩ (.int .u8 ((4 : Nat) : Int))).setCell ⟨w.heap.size, 1, none⟩ (.int .i64 xn)).setCell ⟨w.heap.size, 2, none⟩ (.string xs)) (.slice ua M.length uc) M from World.ownsRow.kept HO.out hg (.inr fun e => by have := (World.ownsRow.lt HO.out _ e).1; omega))
        have HV5 : Hid (B3 (((w4.setCell ⟨w.heap.size, 0, none⟩ (.int .u8 ((4 : Nat) : Int))).setCell ⟨w.heap.size, 1, none⟩ (.int .i64 xn)).setCell ⟨w.heap.size, 2, none⟩ (.string xs)) q1 gk gn gs) := (hg.block q1 HV1.out.lt (fun e => by injection e with e; omega)).trans HV1.out
        have HB5 := Lib.hid (HB.out.grown hg HB.out.size (fun q hq => by injection hq with hq; omega))
        clear hq hg
        go_upto_region 10 with fail
        generalize ((w4.setCell ⟨w.heap.size, 0, none⟩ (.int .u8 ((4 : Nat) : Int))).setCell ⟨w.heap.size, 1, none⟩ (.int .i64 xn)).setCell ⟨w.heap.size, 2, none⟩ (.string xs) = w5 at *
        clear x0 x1 x2 y0 y1 y2 p0 p1 p2 f0 f1 f2 hyl hxl hpl HX HO HB HV1 HV3
        obtain ⟨y0, y1, y2, _, _, _⟩ := HV5.out.cells
        have hyl := HV5.out.lt
        have hws : w.heap.size + 1 ≤ w5.heap.size := by have := HQ.out.lt; omega
        go_wp2_with (at_builtin; go_loud (refine wpList_appG rfl (.tmp 39) (.tmp 41) 22 rfl Tryz.underlying22 _ 32 infoV zeroV (by decide) (by decide) cellsV_len cellsV_one (w.heap.size + 1) _ M rfl (OwnOf.alloc HO5.out _) _ 1 1 [(gk, gn, gs)] rfl (isOf_new _ _ _ _ rfl) (by omega) (by simp; omega) ?_; intro v5 w6 ho5 hg5 hr5; have hn5 : ∀ g, (Value.slice ua M.length uc).ownBlock = some g → w.heap.size + 1 ≤ g := fun g hg => (World.ownsRow.lt HO5.out g hg).1; have l5 := valloc w5 (.cells #[.int .u8 (gk : Int), .int .i64 gn, .string gs] 26); have HX6 := Lib.hid ((HQ.out.later l5).grownB hg5 (fun e => by have := hn5 _ e; omega)); have HB6 := Lib.hid ((vnext HB5.out l5).grown hg5 (vnext HB5.out l5).size (fun q hq => by have := hn5 _ hq; omega)); have HO6 := Lib.hid ho5; clear hg5 ho5 hr5 hn5 l5))
        exact ⟨⟨k + 1, M ++ [(gk, gn, gs)], by omega, by omega, by go_num, HS.out, HO6.out, by rw [HW3.out]; exact HX6.out, HB6.out⟩, by simp [intOf]; omega⟩
      · have HW3 : Hid (wantL (M ++ [(gk, gn, gs)]) = (pk, pn, ps)) := by unfold Hid; rw [HW2.out]; unfold wantF; rw [HX2.out]; exact if_neg h4
        have HO5 := HO
        have HV5 := HV1
        have HB5 := HB
        have HQ := HX
        clear HX HO HB HV1
        by_cases h41 : xk = 4
        · subst h41
          have h42 : ((pk : Int) == 0) = false := by simp; omega
          go_upto_region 10 with fail
          clear x0 x1 x2 y0 y1 y2 p0 p1 p2 f0 f1 f2 hyl hxl hpl
          generalize w4 = w5 at *
          obtain ⟨y0, y1, y2, _, _, _⟩ := HV5.out.cells
          have hyl := HV5.out.lt
          have hws : w.heap.size + 1 ≤ w5.heap.size := by have := HQ.out.lt; omega
          go_wp2_with (at_builtin; go_loud (refine wpList_appG rfl (.tmp 39) (.tmp 41) 22 rfl Tryz.underlying22 _ 32 infoV zeroV (by decide) (by decide) cellsV_len cellsV_one (w.heap.size + 1) _ M rfl (OwnOf.alloc HO5.out _) _ 1 1 [(gk, gn, gs)] rfl (isOf_new _ _ _ _ rfl) (by omega) (by simp; omega) ?_; intro v5 w6 ho5 hg5 hr5; have hn5 : ∀ g, (Value.slice ua M.length uc).ownBlock = some g → w.heap.size + 1 ≤ g := fun g hg => (World.ownsRow.lt HO5.out g hg).1; have l5 := valloc w5 (.cells #[.int .u8 (gk : Int), .int .i64 gn, .string gs] 26); have HX6 := Lib.hid ((HQ.out.later l5).grownB hg5 (fun e => by have := hn5 _ e; omega)); have HB6 := Lib.hid ((vnext HB5.out l5).grown hg5 (vnext HB5.out l5).size (fun q hq => by have := hn5 _ hq; omega)); have HO6 := Lib.hid ho5; clear hg5 ho5 hr5 hn5 l5))
          exact ⟨⟨k + 1, M ++ [(gk, gn, gs)], by omega, by omega, by go_num, HS.out, HO6.out, by rw [HW3.out]; exact HX6.out, HB6.out⟩, by simp [intOf]; omega⟩
        · have h41i : ((xk : Int) == 4) = false := by simp; omega
          go_upto_region 10 with fail
          clear x0 x1 x2 y0 y1 y2 p0 p1 p2 f0 f1 f2 hyl hxl hpl
          generalize w4 = w5 at *
          obtain ⟨y0, y1, y2, _, _, _⟩ := HV5.out.cells
          have hyl := HV5.out.lt
          have hws : w.heap.size + 1 ≤ w5.heap.size := by have := HQ.out.lt; omega
          go_wp2_with (at_builtin; go_loud (refine wpList_appG rfl (.tmp 39) (.tmp 41) 22 rfl Tryz.underlying22 _ 32 infoV zeroV (by decide) (by decide) cellsV_len cellsV_one (w.heap.size + 1) _ M rfl (OwnOf.alloc HO5.out _) _ 1 1 [(gk, gn, gs)] rfl (isOf_new _ _ _ _ rfl) (by omega) (by simp; omega) ?_; intro v5 w6 ho5 hg5 hr5; have hn5 : ∀ g, (Value.slice ua M.length uc).ownBlock = some g → w.heap.size + 1 ≤ g := fun g hg => (World.ownsRow.lt HO5.out g hg).1; have l5 := valloc w5 (.cells #[.int .u8 (gk : Int), .int .i64 gn, .string gs] 26); have HX6 := Lib.hid ((HQ.out.later l5).grownB hg5 (fun e => by have := hn5 _ e; omega)); have HB6 := Lib.hid ((vnext HB5.out l5).grown hg5 (vnext HB5.out l5).size (fun q hq => by have := hn5 _ hq; omega)); have HO6 := Lib.hid ho5; clear hg5 ho5 hr5 hn5 l5))
          exact ⟨⟨k + 1, M ++ [(gk, gn, gs)], by omega, by omega, by go_num, HS.out, HO6.out, by rw [HW3.out]; exact HX6.out, HB6.out⟩, by simp [intOf]; omega⟩
    · have hcp : M.length ≤ uc := cap9 HO.out
      have HI := Lib.hid hI0
      have hm16 : M.length ≤ 16 := by omega
      have HMO : Hid (∀ v ∈ M, vE v.1 v.2.1 v.2.2.data.toList = 0 ∧ v.2.2.size ≤ 300 ∧ InI v.2.1) := fun v hv => HOK.out v (List.mem_of_mem_take (HM.out ▸ hv))
      have HPM := Lib.hid (fun fn W hB hI => HP.out fn ua uc M hm16 HMO.out W hB hI)
      have HWA : Hid (∀ fn : Nat, (fn = 21 ∨ fn = 22 ∨ fn = 23) → 1 ≤ M.length → ∃ r : V3, callL fn M = (r, 0) ∧ ((wantL M).1 = 4 → r = wantL M) ∧ ((wantL M).1 ≠ 4 → r.1 = 2)) := fun fn hf h1 => callL_want hf (fun v hv => (HMO.out v hv).1) h1 hm16
      have HWZ : Hid (∀ fn : Nat, (fn = 21 ∨ fn = 22 ∨ fn = 23) → M.length = 0 → callL fn M = (blV, 11)) := fun fn hf h0 => by rw [List.length_eq_zero_iff.1 h0]; exact callL_zero hf
      have HWK := Lib.hid (wantL_kind M)
      generalize wantL M = pv at *
      generalize hm : M.length = m at *
      clear hI0 HO hm hcp HMO HM HP HG HOK HL HLEN hnl
      rcases (by omega : ¬ k < n ∨ (k < n ∧ ¬ k < 16)) with h1 | ⟨h1, h2⟩
      · have hki : ¬ (k : Int) < (n : Int) := by omega
        clear hgo hml
        go_wp2_with fail
        go_loopw [44] (fun i wr => ∃ j : Nat, j ≤ 3 ∧ i = .int .i64 (j : Int) ∧ Hid (IsV wr ua m M) ∧ Hid (B3 wr w.heap.size pv.1 pv.2.1 pv.2.2) ∧ Hid (Below w.heap.size w wr)) (fun i _ => 3 - (intOf i).toNat)
        case atStart => exact ⟨0, by omega, rfl, HI.out, HX.out, HB.out⟩
        case round =>
          clear HI HX HB
          obtain ⟨j, hj, rfl, HI, HX, HB⟩ := hrel
          by_cases hj3 : j < 3
          · have d1 : decide ((j : Int) < 3) = true := by simp; omega
            obtain ⟨fn, hidx, hf⟩ := idx3f j hj3
            obtain ⟨⟨⟨rk, rn, rs⟩, re⟩, hr⟩ : ∃ r, callL fn M = r := ⟨_, rfl⟩
            have HPC := Lib.hid (fun W hB hI => HPM.out fn W hB hI)
            rw [hr] at HPC
            unfold vOf at HPC
            dsimp only at HPC
            have HZ := Lib.hid (HWZ.out fn hf)
            have HA := Lib.hid (HWA.out fn hf)
            rw [hr] at HZ HA
            clear hr hf
            go_wp2_with fail
            refine (HPC.out _ HB.out HI.out).mono ?_
            rintro e w1 ⟨rfl, hB1⟩
            have l1 := valloc w1 (.cells #[.int .u8 (rk : Int), .int .i64 rn, .string rs] 26)
            have HV := Lib.hid (B3.start w1 rk rn rs)
            replace HI := Lib.hid (HI.out.later (vnext hB1 l1))
            replace HX := Lib.hid (HX.out.later (vnext hB1 l1))
            replace HB := Lib.hid (vnext HB.out (vnext hB1 l1))
            clear hB1 l1 HPC
            go_upto_region 15 with fail
            generalize w1.heap.size = q1 at *
            generalize w1.alloc (.cells #[.int .u8 (rk : Int), .int .i64 rn, .string rs] 26) = w2 at *
            by_cases h0 : m = 0
            · have hre : re = 11 := congrArg Prod.snd (HZ.out h0)
              subst hre
              have e0 : ((m : Int) == 0) = true := by simp; omega
              clear HZ HA
              go_wp2_with fail
              exact ⟨⟨j + 1, by omega, by go_num, HI.out, HX.out, HB.out⟩, by simp [intOf]; omega⟩
            · obtain ⟨r, h1, h2, h3⟩ := HA.out (by omega)
              have hre : re = 0 := congrArg Prod.snd h1
              have hrv : (rk, rn, rs) = r := congrArg Prod.fst h1
              subst hre
              subst hrv
              have e0 : ((m : Int) == 0) = false := by simp; omega
              obtain ⟨y0, y1, y2, _, _, _⟩ := HV.out.cells
              have hyl := HV.out.lt
              obtain ⟨p0, p1, p2, _, _, _⟩ := HX.out.cells
              have hpl := HX.out.lt
              rcases HWK.out with h4 | h4
              · have h5 := h2 h4
                rw [← h5] at h4
                dsimp only at h4
                subst h4
                rw [← h5] at p0 p1 p2
                dsimp only at p0 p1 p2
                clear h1 h2 h3 HZ HA h5
                go_wp2_with fail
                exact ⟨⟨j + 1, by omega, by go_num, HI.out, HX.out, HB.out⟩, by simp [intOf]; omega⟩
              · have h5 : rk = 2 := h3 (by rw [h4]; decide)
                subst h5
                rw [h4] at p0 p1 p2
                unfold blV at p0 p1 p2
                dsimp only at p0 p1 p2
                clear h1 h2 h3 HZ HA h4
                go_wp2_with fail
                exact ⟨⟨j + 1, by omega, by go_num, HI.out, HX.out, HB.out⟩, by simp [intOf]; omega⟩
          · obtain rfl : j = 3 := by omega
            go_wp2_with fail
            refine (HAW.out _ HB.out).mono ?_
            rintro e w1 ⟨rfl, hB1⟩
            replace HB := Lib.hid (vnext HB.out hB1)
            clear hB1
            go_wp2_with fail
            go_ret
            exact ⟨rfl, HB.out⟩
      · have hki : (k : Int) < (n : Int) := by omega
        have d2 : decide ((k : Int) < 16) = false := by simp; omega
        clear hgo hml
        go_wp2_with fail
        go_loopw [44] (fun i wr => ∃ j : Nat, j ≤ 3 ∧ i = .int .i64 (j : Int) ∧ Hid (IsV wr ua m M) ∧ Hid (B3 wr w.heap.size pv.1 pv.2.1 pv.2.2) ∧ Hid (Below w.heap.size w wr)) (fun i _ => 3 - (intOf i).toNat)
        case atStart => exact ⟨0, by omega, rfl, HI.out, HX.out, HB.out⟩
        case round =>
          clear HI HX HB
          obtain ⟨j, hj, rfl, HI, HX, HB⟩ := hrel
          by_cases hj3 : j < 3
          · have d1 : decide ((j : Int) < 3) = true := by simp; omega
            obtain ⟨fn, hidx, hf⟩ := idx3f j hj3
            obtain ⟨⟨⟨rk, rn, rs⟩, re⟩, hr⟩ : ∃ r, callL fn M = r := ⟨_, rfl⟩
            have HPC := Lib.hid (fun W hB hI => HPM.out fn W hB hI)
            rw [hr] at HPC
            unfold vOf at HPC
            dsimp only at HPC
            have HZ := Lib.hid (HWZ.out fn hf)
            have HA := Lib.hid (HWA.out fn hf)
            rw [hr] at HZ HA
            clear hr hf
            go_wp2_with fail
            refine (HPC.out _ HB.out HI.out).mono ?_
            rintro e w1 ⟨rfl, hB1⟩
            have l1 := valloc w1 (.cells #[.int .u8 (rk : Int), .int .i64 rn, .string rs] 26)
            have HV := Lib.hid (B3.start w1 rk rn rs)
            replace HI := Lib.hid (HI.out.later (vnext hB1 l1))
            replace HX := Lib.hid (HX.out.later (vnext hB1 l1))
            replace HB := Lib.hid (vnext HB.out (vnext hB1 l1))
            clear hB1 l1 HPC
            go_upto_region 15 with fail
            generalize w1.heap.size = q1 at *
            generalize w1.alloc (.cells #[.int .u8 (rk : Int), .int .i64 rn, .string rs] 26) = w2 at *
            by_cases h0 : m = 0
            · have hre : re = 11 := congrArg Prod.snd (HZ.out h0)
              subst hre
              have e0 : ((m : Int) == 0) = true := by simp; omega
              clear HZ HA
              go_wp2_with fail
              exact ⟨⟨j + 1, by omega, by go_num, HI.out, HX.out, HB.out⟩, by simp [intOf]; omega⟩
            · obtain ⟨r, h1, h2, h3⟩ := HA.out (by omega)
              have hre : re = 0 := congrArg Prod.snd h1
              have hrv : (rk, rn, rs) = r := congrArg Prod.fst h1
              subst hre
              subst hrv
              have e0 : ((m : Int) == 0) = false := by simp; omega
              obtain ⟨y0, y1, y2, _, _, _⟩ := HV.out.cells
              have hyl := HV.out.lt
              obtain ⟨p0, p1, p2, _, _, _⟩ := HX.out.cells
              have hpl := HX.out.lt
              rcases HWK.out with h4 | h4
              · have h5 := h2 h4
                rw [← h5] at h4
                dsimp only at h4
                subst h4
                rw [← h5] at p0 p1 p2
                dsimp only at p0 p1 p2
                clear h1 h2 h3 HZ HA h5
                go_wp2_with fail
                exact ⟨⟨j + 1, by omega, by go_num, HI.out, HX.out, HB.out⟩, by simp [intOf]; omega⟩
              · have h5 : rk = 2 := h3 (by rw [h4]; decide)
                subst h5
                rw [h4] at p0 p1 p2
                unfold blV at p0 p1 p2
                dsimp only at p0 p1 p2
                clear h1 h2 h3 HZ HA h4
                go_wp2_with fail
                exact ⟨⟨j + 1, by omega, by go_num, HI.out, HX.out, HB.out⟩, by simp [intOf]; omega⟩
          · obtain rfl : j = 3 := by omega
            go_wp2_with fail
            refine (HAW.out _ HB.out).mono ?_
            rintro e w1 ⟨rfl, hB1⟩
            replace HB := Lib.hid (vnext HB.out hB1)
            clear hB1
            go_wp2_with fail
            go_ret
            exact ⟨rfl, HB.out⟩
theorem good_ex (a : VV) : ∃ u : V3, (∀ W, Tb W → Calls Tryz.prog 20 #[.agg (cells3 a).toArray] W fun e w' => e = .returned (vOf u) ∧ Below W.heap.size W w') ∧ vE u.1 u.2.1 u.2.2.data.toList = 0 ∧ u.2.2.size ≤ 300 ∧ InI u.2.1 := by
  obtain ⟨k, n, s, h⟩ := good_any a
  exact ⟨(k, n, s), h⟩
theorem flogicErrors_law (a : Option Addr) (n cap : Nat) (z : List VV) (w : World) (hL : IsOf cells3 3 w a n z) (hl : laidMetH Tryz.prog Rows.flogicErrorsRow.laid w) :
    Calls Tryz.prog 7 #[.slice a n cap] w fun e w' => e = .returned (.bool true) ∧ Below w.heap.size w w' := by
  have hT : Tb w := tb_of (MakeChecks.laidMetH_plain _ _ _ (by kernel_rfl)) hl
  obtain ⟨g, hg⟩ := Classical.axiomOfChoice good_ex
  refine flogicErrors_any (vsL z) (z.map g) a n cap w (isV_of hL) (by unfold vsL; rw [List.length_map, List.length_map]) (fun k h h' W hW => ?_) (fun v hv => ?_) hT
  · have hk : k < z.length := by rw [List.length_map] at h'; exact h'
    have e1 : (vsL z)[k] = (z[k].kd, z[k].num, z[k].txt) := by simp [vsL]
    have e2 : (z.map g)[k] = g z[k] := by simp
    rw [e1, e2]
    exact (hg z[k]).1 W hW
  · obtain ⟨x, _, rfl⟩ := List.mem_map.1 hv
    exact (hg x).2
end Go.Proofs.YtdhahiodnmmkeaaGreatDoor.Va
