/- ftext.convert: its contract (the walk). -/
import Derived.Test.YtfjefanhkbcfgaaGreatDoorMgj
import Derived.BigQuiet
namespace Go.Proofs.YtfjefanhkbcfgaaGreatDoor.Va
open Go Go.RowKit GM
set_option linter.unusedVariables false
set_option linter.unusedSimpArgs false
set_option maxRecDepth 100000 in
set_option maxHeartbeats 12800000 in
theorem convert_any (ks : ByteArray) (a : Option Addr) (n cap : Nat) (L : List V3) (w : World) (hL : IsV w a n L) (hn : n ≤ ks.size) (hk20 : ks.size ≤ 20) (hks : ∀ c ∈ ks.data.toList, c = 115 ∨ c = 110)
    (hv : ∀ v ∈ L, v.2.2.size ≤ 2000 ∧ InI v.2.1) (hvn : ∀ k (h1 : k < L.length) (h2 : k < ks.data.toList.length), ks.data.toList[k] = 110 → InI (cvR 1 L[k].1 L[k].2.1 L[k].2.2).2.1) (hT : Tb w) :
    Calls Tryz.prog 51 #[.string ks, .slice a n cap] w fun e w' => CvP (convR ks.data.toList L [] []) (w.heap.size + 2) e w' ∧ Below w.heap.size w w' := by
  have HL := Lib.hid hL
  have HNL := Lib.hid hL.1
  have HKS := Lib.hid hks
  have HV := Lib.hid hv
  have HVN := Lib.hid hvn
  have HT := Lib.hid hT
  have HKL : Hid (ks.data.toList.length = ks.size) := Array.length_toList
  obtain ⟨R, hR⟩ : ∃ R, convR ks.data.toList L [] [] = R := ⟨_, rfl⟩
  rw [hR]
  have HR : Hid (convR (ks.data.toList.drop 0) (L.drop 0) [] [] = R) := by rw [List.drop_zero, List.drop_zero]; exact hR
  clear hL hks hv hvn hT hR
  have l1 := valloc w (.cells #[.slice none 0 0, .slice none 0 0] 62)
  have l2 := valloc (w.alloc (.cells #[.slice none 0 0, .slice none 0 0] 62)) (.cells #[.int .u8 0, .int .i64 0, .string ⟨#[]⟩] 25)
  have hX := B3.start (w.alloc (.cells #[.slice none 0 0, .slice none 0 0] 62)) 0 0 ⟨#[]⟩
  rw [World.size_alloc] at hX
  have hA : A2 (w.alloc (.cells #[.slice none 0 0, .slice none 0 0] 62)) w.heap.size (.slice none 0 0) (.slice none 0 0) := World.alloc_heap_new w _
  have HC : Hid (Cv w ((w.alloc (.cells #[.slice none 0 0, .slice none 0 0] 62)).alloc (.cells #[.int .u8 0, .int .i64 0, .string ⟨#[]⟩] 25)) (.slice none 0 0) (.slice none 0 0) [] []) := ⟨hA.later l2, hX, OwnOf.nil _ _ _ _ _, OwnOf.nil _ _ _ _ _, vnext l1 l2⟩
  clear l1 l2 hX hA
  go_enter Tryz.func51, Tryz.ntmps51
  go_wp2_with fail
  generalize (w.alloc (.cells #[.slice none 0 0, .slice none 0 0] 62)).alloc (.cells #[.int .u8 0, .int .i64 0, .string ⟨#[]⟩] 25) = w0 at *
  go_loopw [12] (fun i wr => ∃ (k : Nat) (T : List ByteArray) (W : List Int) (u v : Value), k ≤ n ∧ i = .int .i64 (k : Int) ∧ Hid (Cv w wr u v T W) ∧ Hid (convR (ks.data.toList.drop k) (L.drop k) T W = R) ∧ Hid (T.length ≤ k ∧ W.length ≤ k)) (fun i _ => n - (intOf i).toNat)
  case atStart => exact ⟨0, [], [], _, _, Nat.zero_le _, rfl, HC.out, HR.out, Nat.le_refl _, Nat.le_refl _⟩
  case round =>
    obtain ⟨k, T, W, u, v, hk, rfl, HCr, HRr, HLN⟩ := hrel
    clear HC HR
    by_cases hlt : k < n
    · have hkl : k < L.length := by rw [HNL.out]; exact hlt
      have hks2 : k < ks.size := by omega
      have hkk : k < ks.data.toList.length := by rw [HKL.out]; exact hks2
      have hst := convR_step hkk hkl T W
      rw [HRr.out] at hst
      have hkd := HKS.out _ (List.getElem_mem hkk)
      have hkg : ks.data.toList[k] = ks[k] := rfl
      obtain ⟨hvs, hvi⟩ := HV.out L[k] (List.getElem_mem hkl)
      have hvr := HVN.out k hkl hkk
      obtain ⟨b, off, rfl, hrow⟩ := (IsOf.later HL.out HCr.out.b).2 (by omega)
      have c1 : wr.cell? ⟨b, off + k * 3, none⟩ = some (.int .u8 (L[k].1 : Int)) := by have := hrow.2 k hkl 0 _ rfl; rwa [Nat.add_zero] at this
      have c2 : wr.cell? ⟨b, off + k * 3 + 1, none⟩ = some (.int .i64 L[k].2.1) := hrow.2 k hkl 1 _ rfl
      have c3 : wr.cell? ⟨b, off + k * 3 + 2, none⟩ = some (.string L[k].2.2) := hrow.2 k hkl 2 _ rfl
      have hbl := hrow.1
      clear hrow
      rw [hkg] at hst hkd hvr
      generalize L[k] = vv at *
      obtain ⟨kd, nm, tx⟩ := vv
      dsimp only at c1 c2 c3 hvs hvi hvr
      have HST := Lib.hid hst
      have HVR := Lib.hid hvr
      have HX := Lib.hid (B3.start wr kd nm tx)
      have HCx := Lib.hid (HCr.out.later (valloc wr (.cells #[.int .u8 (kd : Int), .int .i64 nm, .string tx] 25)))
      have HTx := Lib.hid (HT.out.later HCx.out.b)
      have HLT := Lib.hid HCr.out.lt
      have hq8 : w.heap.size + 1 < wr.heap.size := HCr.out.f.lt
      clear hst hvr HRr hkg HCr
      rcases hkd with hkc | hkc
      · have hcv : (ks[k].toNat : Int) = 115 := by rw [hkc]; rfl
        have HCK := Lib.hid (fun W hW => vto_text kd nm tx hvs hvi W hW)
        have hck : cvK ks[k] (kd, nm, tx) = cvR 3 kd nm tx := by unfold cvK; rw [hkc]; rfl
        rw [hck, hkc] at HST
        clear hck hkc
        generalize cvR 3 kd nm tx = r at *
        obtain ⟨rk, rn, rs⟩ := r
        dsimp only at HCK HST
        go_wp2_with fail
        generalize wr.alloc (.cells #[.int .u8 (kd : Int), .int .i64 nm, .string tx] 25) = wb at *
        refine (HCK.out _ HTx.out).mono ?_
        rintro e w1 ⟨rfl, hB1⟩
        have hX1 := HX.out.later hB1
        have HC1 := Lib.hid (HCx.out.later hB1)
        clear hB1 HX HCx HTx HCK
        obtain ⟨x0, x1, x2, z0, z1, z2⟩ := hX1.cells
        have hXl := hX1.lt
        obtain ⟨hq, hg⟩ := b3_set hX1 rk rn rs
        have HC2 := Lib.hid (HC1.out.other hg hq8 HLT.out.1 HLT.out.2)
        have HQ := Lib.hid hq
        clear hq hg hX1 HC1
        go_upto_region 8 with fail
        clear x0 x1 x2 z0 z1 z2
        generalize ((w1.setCell ⟨wr.heap.size, 0, none⟩ (.int .u8 (rk : Int))).setCell ⟨wr.heap.size, 1, none⟩ (.int .i64 rn)).setCell ⟨wr.heap.size, 2, none⟩ (.string rs) = w2 at *
        have hq8l : wr.heap.size < w2.heap.size := HQ.out.lt
        have hql : w.heap.size < w2.heap.size := HC2.out.a.lt
        have hqf : w.heap.size + 1 < w2.heap.size := HC2.out.f.lt
        obtain ⟨a0, a1, f0, f1⟩ := HC2.out.a.cells
        obtain ⟨y0, y1, y2, _, _, _⟩ := HQ.out.cells
        obtain ⟨g0, g1, g2, i0, i1, i2⟩ := HC2.out.f.cells
        by_cases h4 : rk = 4
        · have hk4 : ((rk : Int) == 4) = true := by rw [h4]; rfl
          have HRR : Hid (R = .inr (rk, rn, rs)) := by rw [HST.out, if_pos h4]; exact rfl
          clear h4
          go_wp2_with fail
          obtain ⟨k1, k2, k3⟩ := HC2.out.fail rk rn rs
          have K1 := Lib.hid k1
          have K2 := Lib.hid k2
          have K3 := Lib.hid k3
          clear k1 k2 k3
          go_region
          clear a0 a1 f0 f1 y0 y1 y2 g0 g1 g2 i0 i1 i2
          generalize (((((w2.setCell ⟨w.heap.size, 0, none⟩ (.slice none 0 0)).setCell ⟨w.heap.size, 1, none⟩ (.slice none 0 0)).setCell ⟨w.heap.size + 1, 0, none⟩ (.int .u8 (rk : Int))).setCell ⟨w.heap.size + 1, 1, none⟩ (.int .i64 rn)).setCell ⟨w.heap.size + 1, 2, none⟩ (.string rs)) = w4 at *
          have k1 : A2 w4.drew w.heap.size (.slice none 0 0) (.slice none 0 0) := K1.out
          have k2 : B3 w4.drew (w.heap.size + 1) rk rn rs := K2.out
          have k3 := Lib.hid (show Below w.heap.size w w4.drew from K3.out.drew)
          generalize w4.drew = w6 at *
          obtain ⟨a0, a1, _, _⟩ := k1.cells
          obtain ⟨y0, y1, y2, _, _, _⟩ := k2.cells
          go_wp2_with fail
          refine bodyPost_ret (v := .tuple #[.agg #[.slice none 0 0, .slice none 0 0], .agg #[.int .u8 (rk : Int), .int .i64 rn, .string rs], .bool false]) (by simp [results, Tryz.results51, go_sem, a0, a1, y0, y1, y2]) rfl ⟨by rw [HRR.out]; exact rfl, k3.out⟩
        · have hk4 : ((rk : Int) == 4) = false := by simp; omega
          rw [if_neg h4, if_pos trivial] at HST
          have HST2 := Lib.hid HST.out.symm
          obtain ⟨ua, uc, rfl, _⟩ := OwnOf.isOf cellsT_len HC2.out.t
          have hTl : T.length ≤ 20 := by have := HLN.out.1; omega
          clear h4 HST
          go_wp2_with (at_builtin; go_loud (refine wpList_appG rfl (.tmp 34) (.tmp 37) 60 rfl Tryz.underlying60 _ 16 infoStr zeroS (by decide) (by decide) cellsT_len cellsT_one (w.heap.size + 2) _ T rfl (OwnOf.alloc HC2.out.t _) _ 1 1 [rs] rfl (isOf_new _ _ _ _ rfl) (by omega) (by simp; omega) ?_; intro v5 w5 ho5 hg5 hr5; have hm5 := (HC2.out.later (valloc w2 (.cells #[.string rs] 9))).midT hg5; obtain ⟨b0, b1, j0, j1⟩ := hm5.cells; have hm5l := hm5.lt; have hc5 := (HC2.out.later (valloc w2 (.cells #[.string rs] 9))).putT ho5 hg5; obtain ⟨ub, ud, hve, _⟩ := OwnOf.isOf cellsT_len ho5; simp only [List.length_append, List.length_cons, List.length_nil, Nat.zero_add] at hve; subst hve; have HC5 := Lib.hid hc5; clear hc5 hg5 ho5 hr5))
          exact ⟨⟨k + 1, T ++ [rs], W, _, _, by omega, by go_num, HC5.out, HST2.out, by have := HLN.out; unfold Hid; simp; omega⟩, by simp [intOf]; omega⟩
      · have hcv : (ks[k].toNat : Int) = 110 := by rw [hkc]; rfl
        have HCK := Lib.hid (fun W hW => vto_num kd nm tx hvs hvi W hW)
        have hck : cvK ks[k] (kd, nm, tx) = cvR 1 kd nm tx := by unfold cvK; rw [hkc]; rfl
        rw [hck, hkc] at HST
        have HKN := Lib.hid hkc
        clear hck hkc
        have HRI := HVR.out HKN.out
        generalize cvR 1 kd nm tx = r at *
        obtain ⟨rk, rn, rs⟩ := r
        dsimp only at HCK HST HRI
        go_wp2_with fail
        generalize wr.alloc (.cells #[.int .u8 (kd : Int), .int .i64 nm, .string tx] 25) = wb at *
        refine (HCK.out _ HTx.out).mono ?_
        rintro e w1 ⟨rfl, hB1⟩
        have hX1 := HX.out.later hB1
        have HC1 := Lib.hid (HCx.out.later hB1)
        clear hB1 HX HCx HTx HCK
        obtain ⟨x0, x1, x2, z0, z1, z2⟩ := hX1.cells
        have hXl := hX1.lt
        obtain ⟨hq, hg⟩ := b3_set hX1 rk rn rs
        have HC2 := Lib.hid (HC1.out.other hg hq8 HLT.out.1 HLT.out.2)
        have HQ := Lib.hid hq
        clear hq hg hX1 HC1
        go_upto_region 8 with fail
        clear x0 x1 x2 z0 z1 z2
        generalize ((w1.setCell ⟨wr.heap.size, 0, none⟩ (.int .u8 (rk : Int))).setCell ⟨wr.heap.size, 1, none⟩ (.int .i64 rn)).setCell ⟨wr.heap.size, 2, none⟩ (.string rs) = w2 at *
        have hq8l : wr.heap.size < w2.heap.size := HQ.out.lt
        have hql : w.heap.size < w2.heap.size := HC2.out.a.lt
        have hqf : w.heap.size + 1 < w2.heap.size := HC2.out.f.lt
        obtain ⟨a0, a1, f0, f1⟩ := HC2.out.a.cells
        obtain ⟨y0, y1, y2, _, _, _⟩ := HQ.out.cells
        obtain ⟨g0, g1, g2, i0, i1, i2⟩ := HC2.out.f.cells
        by_cases h4 : rk = 4
        · have hk4 : ((rk : Int) == 4) = true := by rw [h4]; rfl
          have HRR : Hid (R = .inr (rk, rn, rs)) := by rw [HST.out, if_pos h4]; exact rfl
          clear h4
          go_wp2_with fail
          obtain ⟨k1, k2, k3⟩ := HC2.out.fail rk rn rs
          have K1 := Lib.hid k1
          have K2 := Lib.hid k2
          have K3 := Lib.hid k3
          clear k1 k2 k3
          go_region
          clear a0 a1 f0 f1 y0 y1 y2 g0 g1 g2 i0 i1 i2
          generalize (((((w2.setCell ⟨w.heap.size, 0, none⟩ (.slice none 0 0)).setCell ⟨w.heap.size, 1, none⟩ (.slice none 0 0)).setCell ⟨w.heap.size + 1, 0, none⟩ (.int .u8 (rk : Int))).setCell ⟨w.heap.size + 1, 1, none⟩ (.int .i64 rn)).setCell ⟨w.heap.size + 1, 2, none⟩ (.string rs)) = w4 at *
          have k1 : A2 w4.drew w.heap.size (.slice none 0 0) (.slice none 0 0) := K1.out
          have k2 : B3 w4.drew (w.heap.size + 1) rk rn rs := K2.out
          have k3 := Lib.hid (show Below w.heap.size w w4.drew from K3.out.drew)
          generalize w4.drew = w6 at *
          obtain ⟨a0, a1, _, _⟩ := k1.cells
          obtain ⟨y0, y1, y2, _, _, _⟩ := k2.cells
          go_wp2_with fail
          refine bodyPost_ret (v := .tuple #[.agg #[.slice none 0 0, .slice none 0 0], .agg #[.int .u8 (rk : Int), .int .i64 rn, .string rs], .bool false]) (by simp [results, Tryz.results51, go_sem, a0, a1, y0, y1, y2]) rfl ⟨by rw [HRR.out]; exact rfl, k3.out⟩
        · have hk4 : ((rk : Int) == 4) = false := by simp; omega
          rw [if_neg h4, if_neg (by decide)] at HST
          have HST2 := Lib.hid HST.out.symm
          obtain ⟨va, vc, rfl, _⟩ := OwnOf.isOf cellsW_len HC2.out.n
          have hWl : W.length ≤ 20 := by have := HLN.out.2; omega
          obtain ⟨tb1, tb2⟩ := trunc_bd HRI
          have HTR := Lib.hid (fun W => trunc_any rn HRI W)
          generalize truncZ rn = tz at *
          have tb3 := tq_bd tb1
          unfold InI at tb1 tb3
          have hwq : IntKind.i64.wrap (tz.tdiv 10000) = tz.tdiv 10000 := IntWalk.i64_in _ (by omega)
          clear h4 HST HRI HVR tb1 tb2 tb3
          go_wp2_with fail
          have hws : w.heap.size + 2 ≤ w2.heap.size := by omega
          go_region_law (first
            | (go_simp; refine (HTR.out _).mono ?_; rintro e w3 ⟨rfl, rfl⟩)
            | (refine step_appG rfl (.tmp 41) (.tmp 46) 49 rfl Tryz.underlying49 _ 8 infoI64 zeroI (by decide) (by decide) cellsW_len cellsW_one (w.heap.size + 2) _ W rfl (OwnOf.alloc (w := w2.drew) HC2.out.n _) _ 1 1 [tz.tdiv 10000] rfl (by first | exact isOf_new _ _ _ _ rfl | exact isOf_new _ _ _ _ (by rw [hwq]; rfl)) (by omega) (by simp; omega) ?_
               intro v5 w5 ho5 hg5 hr5
               have hcd : Cv w w2.drew u (.slice va W.length vc) T W := HC2.out.later (Below.refl _ w2).drew
               have hm5 := (hcd.later (valloc w2.drew (.cells #[.int .i64 (tz.tdiv 10000)] 2))).midW hg5
               obtain ⟨b0, b1, j0, j1⟩ := hm5.cells
               have hm5l := hm5.lt
               have hc5 := (hcd.later (valloc w2.drew (.cells #[.int .i64 (tz.tdiv 10000)] 2))).putW ho5 hg5
               obtain ⟨vb, vd, hve, _⟩ := OwnOf.isOf cellsW_len ho5
               simp only [List.length_append, List.length_cons, List.length_nil, Nat.zero_add] at hve
               subst hve
               have HC5 := Lib.hid hc5
               clear hc5 hg5 ho5 hr5 hcd))
          all_goals
            go_wp2_with fail
            exact ⟨⟨k + 1, T, W ++ [tz.tdiv 10000], _, _, by omega, by go_num, HC5.out, HST2.out, by have := HLN.out; unfold Hid; simp; omega⟩, by simp [intOf]; omega⟩
    · obtain rfl : k = n := by omega
      have hend := convR_end (ks := ks.data.toList) (L := L) (k := k) (by rw [HNL.out]; exact Nat.le_refl _) T W
      rw [HRr.out] at hend
      have HRE := Lib.hid hend
      clear hend HRr
      obtain ⟨ua, uc, rfl, _⟩ := OwnOf.isOf cellsT_len HCr.out.t
      obtain ⟨va, vc, rfl, _⟩ := OwnOf.isOf cellsW_len HCr.out.n
      have hWl : W.length ≤ 20 := by have := HLN.out.2; omega
      obtain ⟨a0, a1, f0, f1⟩ := HCr.out.a.cells
      have hql : w.heap.size < wr.heap.size := HCr.out.a.lt
      have hqf : w.heap.size + 1 < wr.heap.size := HCr.out.f.lt
      have hws : w.heap.size + 2 ≤ wr.heap.size := by omega
      go_upto_region 15 with (at_builtin; go_loud (refine wpList_appG rfl (.tmp 51) (.tmp 52) 49 rfl Tryz.underlying49 _ 8 infoI64 zeroI (by decide) (by decide) cellsW_len cellsW_one (w.heap.size + 2) _ W rfl (OwnOf.alloc HCr.out.n _) _ 1 1 [1] rfl (isOf_new _ _ _ _ rfl) (by omega) (by simp; omega) ?_; intro v5 w5 ho5 hg5 hr5; have hm5 := (HCr.out.later (valloc wr (.cells #[.int .i64 1] 2))).midW hg5; obtain ⟨b0, b1, j0, j1⟩ := hm5.cells; have hm5l := hm5.lt; have hc5 := (HCr.out.later (valloc wr (.cells #[.int .i64 1] 2))).putW ho5 hg5; obtain ⟨vb, vd, hve, _⟩ := OwnOf.isOf cellsW_len ho5; simp only [List.length_append, List.length_cons, List.length_nil, Nat.zero_add] at hve; subst hve; have HC5 := Lib.hid hc5; clear hc5 hg5 ho5 hr5))
      clear a0 a1 f0 f1 b0 b1 j0 j1
      generalize w5.setCell ⟨w.heap.size, 1, none⟩ (.slice vb (W.length + 1) vd) = w6 at *
      obtain ⟨a0, a1, f0, f1⟩ := HC5.out.a.cells
      obtain ⟨g0, g1, g2, i0, i1, i2⟩ := HC5.out.f.cells
      have hal := HC5.out.a.lt
      have hfl := HC5.out.f.lt
      have HD := Lib.hid HC5.out.done
      go_wp2_with fail
      generalize (((((w6.setCell ⟨w.heap.size, 0, none⟩ (.slice ua T.length uc)).setCell ⟨w.heap.size, 1, none⟩ (.slice vb (W.length + 1) vd)).setCell ⟨w.heap.size + 1, 0, none⟩ (.int .u8 0)).setCell ⟨w.heap.size + 1, 1, none⟩ (.int .i64 0)).setCell ⟨w.heap.size + 1, 2, none⟩ (.string ⟨#[]⟩)) = w7 at *
      obtain ⟨c0, c1, _, _⟩ := HD.out.a.cells
      obtain ⟨y0, y1, y2, _, _, _⟩ := HD.out.f.cells
      refine bodyPost_ret (v := .tuple #[.agg #[.slice ua T.length uc, .slice vb (W.length + 1) vd], .agg #[.int .u8 0, .int .i64 0, .string ⟨#[]⟩], .bool true]) (by simp [results, Tryz.results51, go_sem, c0, c1, y0, y1, y2]) rfl ⟨by rw [HRE.out]; exact ⟨_, _, rfl, HD.out.t, HD.out.n⟩, HD.out.b⟩
end Go.Proofs.YtfjefanhkbcfgaaGreatDoor.Va
