/- Merged: FnuF FuE. -/
import Derived.Test.YtfjefanhkbcfgaaGreatDoorMgl
import Derived.Test.YtfjefanhkbcfgaaGreatDoorValYn
import Derived.Test.YtfjefanhkbcfgaaGreatDoorFuC
/- The reference's Call of a function of numbers. -/
namespace Go.Proofs.YtfjefanhkbcfgaaGreatDoor.Va
open Go Go.RowKit GM
set_option linter.unusedVariables false
set_option linter.unusedSimpArgs false
/-- What the reference's Numbers returns. -/
def NuP (R : List Int ⊕ V3) (B : Nat) (e : Ending) (w' : World) : Prop :=
  match R with
  | .inl M => ∃ v, e = .returned (.tuple #[v, .agg #[.int .u8 0, .int .i64 0, .string ⟨#[]⟩], .bool true]) ∧ OwnW B w' v M
  | .inr x => e = .returned (.tuple #[.slice none 0 0, .agg #[.int .u8 (x.1 : Int), .int .i64 x.2.1, .string x.2.2], .bool false])
set_option maxRecDepth 100000 in
set_option maxHeartbeats 6400000 in
theorem rnumbers_any (a : Option Addr) (n cap : Nat) (L : List V3) (hn : n ≤ 1000) (w : World) (hL : IsV w a n L) (hv : ∀ v ∈ L, v.2.2.size ≤ 2000 ∧ InI v.2.1) (hT : Tb w) :
    Calls Tryz.prog 37 #[.slice a n cap] w fun e w' => NuP (nmR L []) (w.heap.size + 1) e w' ∧ Below w.heap.size w w' := by
  have HL := Lib.hid hL
  have HNL := Lib.hid hL.1
  have HV := Lib.hid hv
  have HT := Lib.hid hT
  obtain ⟨R, hR⟩ : ∃ R, nmR L [] = R := ⟨_, rfl⟩
  rw [hR]
  have HR : Hid (nmR (L.drop 0) [] = R) := by rw [List.drop_zero]; exact hR
  clear hL hv hT hR
  have HX : Hid (B3 (w.alloc (.cells #[.int .u8 0, .int .i64 0, .string ⟨#[]⟩] 25)) w.heap.size 0 0 ⟨#[]⟩) := B3.start w 0 0 ⟨#[]⟩
  have HB := Lib.hid (valloc w (.cells #[.int .u8 0, .int .i64 0, .string ⟨#[]⟩] 25))
  go_enter Tryz.func37, Tryz.ntmps37
  go_wp2_with fail
  generalize w.alloc (.cells #[.int .u8 0, .int .i64 0, .string ⟨#[]⟩] 25) = wa at *
  go_loopw [5, 6] (fun u i wr => ∃ (k : Nat) (M : List Int), k ≤ n ∧ i = .int .i64 (k : Int) ∧ Hid (M.length = k) ∧ Hid (nmR (L.drop k) M = R) ∧ Hid (OwnW (w.heap.size + 1) wr u M) ∧ Hid (Below w.heap.size w wr) ∧ Hid (B3 wr w.heap.size 0 0 ⟨#[]⟩)) (fun _ i _ => n - (intOf i).toNat)
  case atStart => exact ⟨0, [], Nat.zero_le _, rfl, rfl, HR.out, OwnOf.nil _ _ _ _ _, HB.out, HX.out⟩
  case round =>
    clear HR HB HX
    obtain ⟨k, M, hk, rfl, HM, HR, HO, HB, HX⟩ := hrel
    obtain ⟨ua, uc, rfl, _⟩ := OwnOf.isOf cellsW_len HO.out
    by_cases hlt : k < n
    · have hkl : k < L.length := by rw [HNL.out]; exact hlt
      obtain ⟨hvs, hvi⟩ := HV.out L[k] (List.getElem_mem hkl)
      obtain ⟨b, off, rfl, hbl, c1, c2, c3⟩ := isV_at (IsOf.later HL.out HB.out) hkl
      have hst := nmR_step hkl M
      rw [HR.out] at hst
      unfold c1V at hst
      generalize L[k] = vv at *
      obtain ⟨kd, nm, tx⟩ := vv
      dsimp only at c1 c2 c3 hvs hvi hst
      have HST := Lib.hid hst
      have HCK := Lib.hid (fun W hW => rto_num kd nm tx hvs hvi W hW)
      clear hst HR hvs hvi
      generalize cvR 1 kd nm tx = r at *
      obtain ⟨rk, rn, rs⟩ := r
      dsimp only at HCK HST
      go_wp2_with fail
      refine (HCK.out _ (HT.out.later HB.out)).mono ?_
      rintro e w1 ⟨rfl, hB1⟩
      have hB2 := vnext hB1 (valloc w1 (.cells #[.int .u8 (rk : Int), .int .i64 rn, .string rs] 25))
      replace HB := Lib.hid (vnext HB.out hB2)
      replace HX := Lib.hid (HX.out.later hB2)
      replace HO := Lib.hid (OwnOf.later HO.out hB2)
      have HY := Lib.hid (B3.start w1 rk rn rs)
      clear hB1 hB2 HCK c1 c2 c3 hbl
      go_upto_region 6 with fail
      generalize w1.alloc (.cells #[.int .u8 (rk : Int), .int .i64 rn, .string rs] 25) = w2 at *
      obtain ⟨y0, y1, y2, _, _, _⟩ := HY.out.cells
      have hyl := HY.out.lt
      by_cases h4 : rk = 4
      · have hk4 : ((rk : Int) == 4) = true := by rw [h4]; rfl
        have HE : Hid (R = .inr (rk, rn, rs)) := by rw [HST.out, if_pos h4]; exact rfl
        clear h4 HST
        obtain ⟨x0, x1, x2, z0, z1, z2⟩ := HX.out.cells
        have hXl := HX.out.lt
        obtain ⟨hq, hg⟩ := b3_set HX.out rk rn rs
        have HQ := Lib.hid hq
        have HB4 := Lib.hid (HB.out.grown hg HB.out.size (fun q hq => by injection hq with hq; omega))
        clear hg hq
        go_wp2_with fail
        go_region
        clear x0 x1 x2 z0 z1 z2 y0 y1 y2
        generalize ((w2.setCell ⟨w.heap.size, 0, none⟩ (.int .u8 (rk : Int))).setCell ⟨w.heap.size, 1, none⟩ (.int .i64 rn)).setCell ⟨w.heap.size, 2, none⟩ (.string rs) = w4 at *
        have k2 : B3 w4.drew w.heap.size rk rn rs := HQ.out
        have k3 := Lib.hid HB4.out.drew
        generalize w4.drew = w6 at *
        obtain ⟨y0, y1, y2, _, _, _⟩ := k2.cells
        go_wp2_with fail
        refine bodyPost_ret (v := .tuple #[.slice none 0 0, .agg #[.int .u8 (rk : Int), .int .i64 rn, .string rs], .bool false]) (by simp [results, Tryz.results37, go_sem, y0, y1, y2]) rfl ⟨by rw [HE.out]; exact rfl, k3.out⟩
      · have hk4 : ((rk : Int) == 4) = false := by simp; omega
        rw [if_neg h4] at HST
        have HR := Lib.hid HST.out.symm
        have hws : w.heap.size + 1 ≤ w2.heap.size := HX.out.lt
        have hlm : M.length ≤ 1000 := by have := HM.out; omega
        clear h4 HST
        go_wp2_with (at_builtin; go_loud (refine wpList_appG rfl (.tmp 23) (.tmp 26) 49 rfl Tryz.underlying49 _ 8 infoI64 zeroI (by decide) (by decide) cellsW_len cellsW_one (w.heap.size + 1) _ M rfl (OwnOf.alloc HO.out _) _ 1 1 [rn] rfl (isOf_new _ _ _ _ rfl) (by omega) (by simp; omega) ?_; intro v5 w5 ho5 hg5 hr5; have hn5 : ∀ g, (Value.slice ua M.length uc).ownBlock = some g → w.heap.size + 1 ≤ g := fun g hg => (World.ownsRow.lt HO.out g hg).1; have l5 := valloc w2 (.cells #[.int .i64 rn] 2); have HX5 := Lib.hid ((HX.out.later l5).grownB hg5 (fun e => by have := hn5 _ e; omega)); have HB5 := Lib.hid ((vnext HB.out l5).grown hg5 (vnext HB.out l5).size (fun q hq => by have := hn5 _ hq; omega)); have HO5 := Lib.hid ho5; clear hg5 ho5 hr5 hn5 l5))
        exact ⟨⟨k + 1, M ++ [rn], by omega, by go_num, by have := HM.out; unfold Hid; simp; omega, HR.out, HO5.out, HB5.out, HX5.out⟩, by simp [intOf]; omega⟩
    · obtain rfl : k = n := by omega
      have hend := nmR_end (L := L) (k := k) (by rw [HNL.out]; exact Nat.le_refl _) M
      rw [HR.out] at hend
      have HE := Lib.hid hend
      clear hend HR
      obtain ⟨x0, x1, x2, z0, z1, z2⟩ := HX.out.cells
      have hXl := HX.out.lt
      obtain ⟨hq, hg⟩ := b3_set HX.out 0 0 ⟨#[]⟩
      have HO5 := Lib.hid (show OwnW (w.heap.size + 1) (((wr.setCell ⟨w.heap.size, 0, none⟩ (.int .u8 ((0 : Nat) : Int))).setCell ⟨w.heap.size, 1, none⟩ (.int .i64 0)).setCell ⟨w.heap.size, 2, none⟩ (.string ⟨#[]⟩)) (.slice ua M.length uc) M from World.ownsRow.kept HO.out hg (.inr fun e => by have := (World.ownsRow.lt HO.out _ e).1; omega))
      have hb5 := HB.out.grown hg HB.out.size (fun q hq => by injection hq with hq; omega)
      clear hg
      go_wp2_with fail
      generalize ((wr.setCell ⟨w.heap.size, 0, none⟩ (.int .u8 ((0 : Nat) : Int))).setCell ⟨w.heap.size, 1, none⟩ (.int .i64 0)).setCell ⟨w.heap.size, 2, none⟩ (.string ⟨#[]⟩) = w5 at *
      obtain ⟨v0, v1, v2, _, _, _⟩ := hq.cells
      refine bodyPost_ret (v := .tuple #[.slice ua M.length uc, .agg #[.int .u8 0, .int .i64 0, .string ⟨#[]⟩], .bool true]) (by simp [results, Tryz.results37, go_sem, v0, v1, v2]) rfl ⟨by rw [HE.out]; exact ⟨_, rfl, HO5.out⟩, hb5⟩
set_option maxRecDepth 100000 in
set_option maxHeartbeats 6400000 in
theorem rfv_1 (a : Option Addr) (n cap : Nat) (x : Int) (w : World) (hL : IsW w a n [x]) (hx1 : -9223372036854775808 < x) (hx2 : x ≤ 9223372036854775807) : Calls Tryz.prog 38 #[.int .u8 1, .slice a n cap] w fun e w' => e = .returned (vOf (oneV 1 x)) ∧ Below w.heap.size w w' := by
  have HX : Hid (B3 (w.alloc (.cells #[.int .u8 0, .int .i64 0, .string ⟨#[]⟩] 25)) w.heap.size 0 0 ⟨#[]⟩) := B3.start w 0 0 ⟨#[]⟩
  have HB := Lib.hid (valloc w (.cells #[.int .u8 0, .int .i64 0, .string ⟨#[]⟩] 25))
  obtain ⟨n0, b0, o0, ea0, l0, i3⟩ := isW_at (IsOf.later hL HB.out) (k := 0) rfl
  rw [Nat.add_zero] at i3
  subst ea0
  have hnl : n = 1 := hL.1.symm
  subst hnl
  clear hL
  have hng : IntKind.i64.wrap (-x) = -x := IntWalk.i64_in _ (by omega)
  have HN : Hid (oneV 1 x = mkV (max x (-x))) := rfl
  go_enter Tryz.func38, Tryz.ntmps38
  go_wp2_with fail
  generalize w.alloc (.cells #[.int .u8 0, .int .i64 0, .string ⟨#[]⟩] 25) = wa at *
  have HV := Lib.hid (fun W => rmake_any (max x (-x)) (by unfold leastI; omega) W)
  have HV : Hid (∀ W, Calls Tryz.prog 69 #[.int .i64 (max x (-x))] W fun e w' => e = .returned (vOf (mkV (max x (-x)))) ∧ Below W.heap.size W w') := HV
  generalize hvv : mkV (max x (-x)) = vv at HV
  have HVV := Lib.hid hvv
  clear hvv
  obtain ⟨vk, vn, vs⟩ := vv
  unfold vOf at HV
  dsimp only at HV
  refine (HV.out _).mono ?_
  rintro e w1 ⟨rfl, hB⟩
  have hX : B3 w1 w.heap.size 0 0 ⟨#[]⟩ := HX.out.later hB
  have HBW := Lib.hid (vnext HB.out hB)
  obtain ⟨x0, x1, x2, z0, z1, z2⟩ := hX.cells
  have hXl := hX.lt
  obtain ⟨hq, hg⟩ := b3_set hX vk vn vs
  have hb5 := HBW.out.grown hg HBW.out.size (fun q hq => by injection hq with hq; omega)
  clear hB hg
  go_wp2_with fail
  generalize ((w1.setCell ⟨w.heap.size, 0, none⟩ (.int .u8 (vk : Int))).setCell ⟨w.heap.size, 1, none⟩ (.int .i64 vn)).setCell ⟨w.heap.size, 2, none⟩ (.string vs) = w5 at *
  obtain ⟨y0, y1, y2, _, _, _⟩ := hq.cells
  refine bodyPost_ret (v := .agg #[.int .u8 (vk : Int), .int .i64 vn, .string vs]) (by simp [results, Tryz.results38, go_sem, y0, y1, y2]) rfl ⟨by rw [HN.out, HVV.out]; rfl, hb5⟩
set_option maxRecDepth 100000 in
set_option maxHeartbeats 6400000 in
theorem rfv_2 (a : Option Addr) (n cap : Nat) (x : Int) (w : World) (hL : IsW w a n [x]) (hx1 : -9223372036854775808 < x) (hx2 : x ≤ 9223372036854775807) : Calls Tryz.prog 38 #[.int .u8 2, .slice a n cap] w fun e w' => e = .returned (vOf (oneV 2 x)) ∧ Below w.heap.size w w' := by
  have HX : Hid (B3 (w.alloc (.cells #[.int .u8 0, .int .i64 0, .string ⟨#[]⟩] 25)) w.heap.size 0 0 ⟨#[]⟩) := B3.start w 0 0 ⟨#[]⟩
  have HB := Lib.hid (valloc w (.cells #[.int .u8 0, .int .i64 0, .string ⟨#[]⟩] 25))
  obtain ⟨n0, b0, o0, ea0, l0, i3⟩ := isW_at (IsOf.later hL HB.out) (k := 0) rfl
  rw [Nat.add_zero] at i3
  subst ea0
  have hnl : n = 1 := hL.1.symm
  subst hnl
  clear hL
  have hsg : -1 ≤ sgI x 0 ∧ sgI x 0 ≤ 1 := by unfold sgI; split <;> (try split) <;> decide
  have HN : Hid (oneV 2 x = mkV (sgI x 0 * 10000)) := rfl
  go_enter Tryz.func38, Tryz.ntmps38
  go_wp2_with fail
  generalize w.alloc (.cells #[.int .u8 0, .int .i64 0, .string ⟨#[]⟩] 25) = wa at *
  refine (rsign13_any x _).mono ?_
  rintro e w9 ⟨rfl, rfl⟩
  go_wp2_with fail
  have HV := Lib.hid (fun W => rmake_any (sgI x 0 * 10000) (by unfold leastI; omega) W)
  have HV : Hid (∀ W, Calls Tryz.prog 69 #[.int .i64 (sgI x 0 * 10000)] W fun e w' => e = .returned (vOf (mkV (sgI x 0 * 10000))) ∧ Below W.heap.size W w') := HV
  generalize hvv : mkV (sgI x 0 * 10000) = vv at HV
  have HVV := Lib.hid hvv
  clear hvv
  obtain ⟨vk, vn, vs⟩ := vv
  unfold vOf at HV
  dsimp only at HV
  refine (HV.out _).mono ?_
  rintro e w1 ⟨rfl, hB⟩
  have hX : B3 w1 w.heap.size 0 0 ⟨#[]⟩ := HX.out.later hB
  have HBW := Lib.hid (vnext HB.out hB)
  obtain ⟨x0, x1, x2, z0, z1, z2⟩ := hX.cells
  have hXl := hX.lt
  obtain ⟨hq, hg⟩ := b3_set hX vk vn vs
  have hb5 := HBW.out.grown hg HBW.out.size (fun q hq => by injection hq with hq; omega)
  clear hB hg
  go_wp2_with fail
  generalize ((w1.setCell ⟨w.heap.size, 0, none⟩ (.int .u8 (vk : Int))).setCell ⟨w.heap.size, 1, none⟩ (.int .i64 vn)).setCell ⟨w.heap.size, 2, none⟩ (.string vs) = w5 at *
  obtain ⟨y0, y1, y2, _, _, _⟩ := hq.cells
  refine bodyPost_ret (v := .agg #[.int .u8 (vk : Int), .int .i64 vn, .string vs]) (by simp [results, Tryz.results38, go_sem, y0, y1, y2]) rfl ⟨by rw [HN.out, HVV.out]; rfl, hb5⟩
set_option maxRecDepth 100000 in
set_option maxHeartbeats 6400000 in
theorem rfv_3 (a : Option Addr) (n cap : Nat) (x : Int) (w : World) (hL : IsW w a n [x]) (hx1 : -9223372036854775808 < x) (hx2 : x ≤ 9223372036854775807) : Calls Tryz.prog 38 #[.int .u8 3, .slice a n cap] w fun e w' => e = .returned (vOf (oneV 3 x)) ∧ Below w.heap.size w w' := by
  have HX : Hid (B3 (w.alloc (.cells #[.int .u8 0, .int .i64 0, .string ⟨#[]⟩] 25)) w.heap.size 0 0 ⟨#[]⟩) := B3.start w 0 0 ⟨#[]⟩
  have HB := Lib.hid (valloc w (.cells #[.int .u8 0, .int .i64 0, .string ⟨#[]⟩] 25))
  obtain ⟨n0, b0, o0, ea0, l0, i3⟩ := isW_at (IsOf.later hL HB.out) (k := 0) rfl
  rw [Nat.add_zero] at i3
  subst ea0
  have hnl : n = 1 := hL.1.symm
  subst hnl
  clear hL
  have HN : Hid (oneV 3 x = numR (Go.Proofs.YtfjefanhkbcfgaaGreatDoor.resV (floorZ x)) (resB (floorZ x))) := rfl
  go_enter Tryz.func38, Tryz.ntmps38
  go_wp2_with fail
  generalize w.alloc (.cells #[.int .u8 0, .int .i64 0, .string ⟨#[]⟩] 25) = wa at *
  refine (rfloor_any x ⟨by omega, hx2⟩ _).mono ?_
  rintro e w9 ⟨rfl, hB⟩
  replace HX := Lib.hid (HX.out.later hB)
  replace HB := Lib.hid (vnext HB.out hB)
  clear hB
  go_wp2_with fail
  have HV := Lib.hid (fun W => rnumber_any (Go.Proofs.YtfjefanhkbcfgaaGreatDoor.resV (floorZ x)) (resV_ge _) (resB (floorZ x)) W)
  generalize hvv : numR (Go.Proofs.YtfjefanhkbcfgaaGreatDoor.resV (floorZ x)) (resB (floorZ x)) = vv at HV
  have HVV := Lib.hid hvv
  clear hvv
  obtain ⟨vk, vn, vs⟩ := vv
  unfold vOf at HV
  dsimp only at HV
  refine (HV.out _).mono ?_
  rintro e w1 ⟨rfl, hB⟩
  have hX : B3 w1 w.heap.size 0 0 ⟨#[]⟩ := HX.out.later hB
  have HBW := Lib.hid (vnext HB.out hB)
  obtain ⟨x0, x1, x2, z0, z1, z2⟩ := hX.cells
  have hXl := hX.lt
  obtain ⟨hq, hg⟩ := b3_set hX vk vn vs
  have hb5 := HBW.out.grown hg HBW.out.size (fun q hq => by injection hq with hq; omega)
  clear hB hg
  go_wp2_with fail
  generalize ((w1.setCell ⟨w.heap.size, 0, none⟩ (.int .u8 (vk : Int))).setCell ⟨w.heap.size, 1, none⟩ (.int .i64 vn)).setCell ⟨w.heap.size, 2, none⟩ (.string vs) = w5 at *
  obtain ⟨y0, y1, y2, _, _, _⟩ := hq.cells
  refine bodyPost_ret (v := .agg #[.int .u8 (vk : Int), .int .i64 vn, .string vs]) (by simp [results, Tryz.results38, go_sem, y0, y1, y2]) rfl ⟨by rw [HN.out, HVV.out]; rfl, hb5⟩
set_option maxRecDepth 100000 in
set_option maxHeartbeats 6400000 in
theorem rfv_4 (a : Option Addr) (n cap : Nat) (x : Int) (w : World) (hL : IsW w a n [x]) (hx1 : -9223372036854775808 < x) (hx2 : x ≤ 9223372036854775807) : Calls Tryz.prog 38 #[.int .u8 4, .slice a n cap] w fun e w' => e = .returned (vOf (oneV 4 x)) ∧ Below w.heap.size w w' := by
  have HX : Hid (B3 (w.alloc (.cells #[.int .u8 0, .int .i64 0, .string ⟨#[]⟩] 25)) w.heap.size 0 0 ⟨#[]⟩) := B3.start w 0 0 ⟨#[]⟩
  have HB := Lib.hid (valloc w (.cells #[.int .u8 0, .int .i64 0, .string ⟨#[]⟩] 25))
  obtain ⟨n0, b0, o0, ea0, l0, i3⟩ := isW_at (IsOf.later hL HB.out) (k := 0) rfl
  rw [Nat.add_zero] at i3
  subst ea0
  have hnl : n = 1 := hL.1.symm
  subst hnl
  clear hL
  have htb := trunc_bd (a := x) ⟨by omega, hx2⟩
  have HN : Hid (oneV 4 x = mkV (truncZ x)) := rfl
  go_enter Tryz.func38, Tryz.ntmps38
  go_wp2_with fail
  generalize w.alloc (.cells #[.int .u8 0, .int .i64 0, .string ⟨#[]⟩] 25) = wa at *
  refine (rtrunc_any x ⟨by omega, hx2⟩ _).mono ?_
  rintro e w9 ⟨rfl, rfl⟩
  go_wp2_with fail
  have HV := Lib.hid (fun W => rmake_any (truncZ x) (by have := htb.1; unfold InI at this; unfold leastI; omega) W)
  have HV : Hid (∀ W, Calls Tryz.prog 69 #[.int .i64 (truncZ x)] W fun e w' => e = .returned (vOf (mkV (truncZ x))) ∧ Below W.heap.size W w') := HV
  generalize hvv : mkV (truncZ x) = vv at HV
  have HVV := Lib.hid hvv
  clear hvv
  obtain ⟨vk, vn, vs⟩ := vv
  unfold vOf at HV
  dsimp only at HV
  refine (HV.out _).mono ?_
  rintro e w1 ⟨rfl, hB⟩
  have hX : B3 w1 w.heap.size 0 0 ⟨#[]⟩ := HX.out.later hB
  have HBW := Lib.hid (vnext HB.out hB)
  obtain ⟨x0, x1, x2, z0, z1, z2⟩ := hX.cells
  have hXl := hX.lt
  obtain ⟨hq, hg⟩ := b3_set hX vk vn vs
  have hb5 := HBW.out.grown hg HBW.out.size (fun q hq => by injection hq with hq; omega)
  clear hB hg
  go_wp2_with fail
  generalize ((w1.setCell ⟨w.heap.size, 0, none⟩ (.int .u8 (vk : Int))).setCell ⟨w.heap.size, 1, none⟩ (.int .i64 vn)).setCell ⟨w.heap.size, 2, none⟩ (.string vs) = w5 at *
  obtain ⟨y0, y1, y2, _, _, _⟩ := hq.cells
  refine bodyPost_ret (v := .agg #[.int .u8 (vk : Int), .int .i64 vn, .string vs]) (by simp [results, Tryz.results38, go_sem, y0, y1, y2]) rfl ⟨by rw [HN.out, HVV.out]; rfl, hb5⟩
set_option maxRecDepth 100000 in
set_option maxHeartbeats 6400000 in
theorem rfv_8 (a : Option Addr) (n cap : Nat) (x : Int) (w : World) (hL : IsW w a n [x]) (hx1 : -9223372036854775808 < x) (hx2 : x ≤ 9223372036854775807) : Calls Tryz.prog 38 #[.int .u8 8, .slice a n cap] w fun e w' => e = .returned (vOf (oneV 8 x)) ∧ Below w.heap.size w w' := by
  have HX : Hid (B3 (w.alloc (.cells #[.int .u8 0, .int .i64 0, .string ⟨#[]⟩] 25)) w.heap.size 0 0 ⟨#[]⟩) := B3.start w 0 0 ⟨#[]⟩
  have HB := Lib.hid (valloc w (.cells #[.int .u8 0, .int .i64 0, .string ⟨#[]⟩] 25))
  obtain ⟨n0, b0, o0, ea0, l0, i3⟩ := isW_at (IsOf.later hL HB.out) (k := 0) rfl
  rw [Nat.add_zero] at i3
  subst ea0
  have hnl : n = 1 := hL.1.symm
  subst hnl
  clear hL
  by_cases h0 : x < 0
  · have HN : Hid (oneV 8 x = numR 0 false) := if_pos h0
    go_enter Tryz.func38, Tryz.ntmps38
    go_wp2_with fail
    generalize w.alloc (.cells #[.int .u8 0, .int .i64 0, .string ⟨#[]⟩] 25) = wa at *
    refine (rsqrt_neg x h0 _).mono ?_
    rintro e w9 ⟨rfl, rfl⟩
    go_wp2_with fail
    have HV := Lib.hid (fun W => rnumber_any (0) (by unfold leastI; decide) (false) W)
    generalize hvv : numR (0) (false) = vv at HV
    have HVV := Lib.hid hvv
    clear hvv
    obtain ⟨vk, vn, vs⟩ := vv
    unfold vOf at HV
    dsimp only at HV
    refine (HV.out _).mono ?_
    rintro e w1 ⟨rfl, hB⟩
    have hX : B3 w1 w.heap.size 0 0 ⟨#[]⟩ := HX.out.later hB
    have HBW := Lib.hid (vnext HB.out hB)
    obtain ⟨x0, x1, x2, z0, z1, z2⟩ := hX.cells
    have hXl := hX.lt
    obtain ⟨hq, hg⟩ := b3_set hX vk vn vs
    have hb5 := HBW.out.grown hg HBW.out.size (fun q hq => by injection hq with hq; omega)
    clear hB hg
    go_wp2_with fail
    generalize ((w1.setCell ⟨w.heap.size, 0, none⟩ (.int .u8 (vk : Int))).setCell ⟨w.heap.size, 1, none⟩ (.int .i64 vn)).setCell ⟨w.heap.size, 2, none⟩ (.string vs) = w5 at *
    obtain ⟨y0, y1, y2, _, _, _⟩ := hq.cells
    refine bodyPost_ret (v := .agg #[.int .u8 (vk : Int), .int .i64 vn, .string vs]) (by simp [results, Tryz.results38, go_sem, y0, y1, y2]) rfl ⟨by rw [HN.out, HVV.out]; rfl, hb5⟩
  · have HN : Hid (oneV 8 x = numR (rootZ x) true) := if_neg h0
    go_enter Tryz.func38, Tryz.ntmps38
    go_wp2_with fail
    generalize w.alloc (.cells #[.int .u8 0, .int .i64 0, .string ⟨#[]⟩] 25) = wa at *
    refine (rsqrt_any x (by omega) hx2 _).mono ?_
    rintro e w9 ⟨r, rfl, hr, hB⟩
    replace HX := Lib.hid (HX.out.later hB)
    replace HB := Lib.hid (vnext HB.out hB)
    clear hB
    obtain rfl := rootZ_of hr
    have hr0 := hr.1
    clear hr
    go_wp2_with fail
    have HV := Lib.hid (fun W => rnumber_any (rootZ x) (by unfold leastI; omega) (true) W)
    generalize hvv : numR (rootZ x) (true) = vv at HV
    have HVV := Lib.hid hvv
    clear hvv
    obtain ⟨vk, vn, vs⟩ := vv
    unfold vOf at HV
    dsimp only at HV
    refine (HV.out _).mono ?_
    rintro e w1 ⟨rfl, hB⟩
    have hX : B3 w1 w.heap.size 0 0 ⟨#[]⟩ := HX.out.later hB
    have HBW := Lib.hid (vnext HB.out hB)
    obtain ⟨x0, x1, x2, z0, z1, z2⟩ := hX.cells
    have hXl := hX.lt
    obtain ⟨hq, hg⟩ := b3_set hX vk vn vs
    have hb5 := HBW.out.grown hg HBW.out.size (fun q hq => by injection hq with hq; omega)
    clear hB hg
    go_wp2_with fail
    generalize ((w1.setCell ⟨w.heap.size, 0, none⟩ (.int .u8 (vk : Int))).setCell ⟨w.heap.size, 1, none⟩ (.int .i64 vn)).setCell ⟨w.heap.size, 2, none⟩ (.string vs) = w5 at *
    obtain ⟨y0, y1, y2, _, _, _⟩ := hq.cells
    refine bodyPost_ret (v := .agg #[.int .u8 (vk : Int), .int .i64 vn, .string vs]) (by simp [results, Tryz.results38, go_sem, y0, y1, y2]) rfl ⟨by rw [HN.out, HVV.out]; rfl, hb5⟩
set_option maxRecDepth 100000 in
set_option maxHeartbeats 6400000 in
theorem rfv_5 (a : Option Addr) (n cap : Nat) (x y : Int) (w : World) (hL : IsW w a n [x, y]) (hx1 : -9223372036854775808 < x) (hx2 : x ≤ 9223372036854775807) (hy1 : -9223372036854775808 < y) (hy2 : y ≤ 9223372036854775807) : Calls Tryz.prog 38 #[.int .u8 5, .slice a n cap] w fun e w' => e = .returned (vOf (twoV 5 x y)) ∧ Below w.heap.size w w' := by
  have HX : Hid (B3 (w.alloc (.cells #[.int .u8 0, .int .i64 0, .string ⟨#[]⟩] 25)) w.heap.size 0 0 ⟨#[]⟩) := B3.start w 0 0 ⟨#[]⟩
  have HB := Lib.hid (valloc w (.cells #[.int .u8 0, .int .i64 0, .string ⟨#[]⟩] 25))
  obtain ⟨n0, b0, o0, ea0, l0, i3⟩ := isW_at (IsOf.later hL HB.out) (k := 0) rfl
  rw [Nat.add_zero] at i3
  obtain ⟨n1, b1, o1, ea1, l1, j3⟩ := isW_at (IsOf.later hL HB.out) (k := 1) rfl
  subst ea0
  cases ea1
  have hnl : n = 2 := hL.1.symm
  subst hnl
  clear hL
  have hqi := tq_bd (a := y) ⟨by omega, hy2⟩
  have hqw : IntKind.i64.wrap (y.tdiv 10000) = y.tdiv 10000 := IntWalk.i64_in _ (by unfold InI at hqi; omega)
  have HN : Hid (twoV 5 x y = numR (rndV x (min (max (y.tdiv 10000) (-20)) 4)) (rndB x (min (max (y.tdiv 10000) (-20)) 4))) := rfl
  obtain ⟨pl, hpl⟩ : ∃ p, min (max (y.tdiv 10000) (-20)) 4 = p := ⟨_, rfl⟩
  have hpb : -20 ≤ pl ∧ pl ≤ 4 := by omega
  rw [hpl] at HN
  go_enter Tryz.func38, Tryz.ntmps38
  go_wp2_with fail
  generalize w.alloc (.cells #[.int .u8 0, .int .i64 0, .string ⟨#[]⟩] 25) = wa at *
  refine (rround_any x pl ⟨by omega, hx2⟩ (by omega) _).mono ?_
  rintro e w9 ⟨rfl, hB⟩
  replace HX := Lib.hid (HX.out.later hB)
  replace HB := Lib.hid (vnext HB.out hB)
  clear hB
  go_wp2_with fail
  have HV := Lib.hid (fun W => rnumber_any (rndV x pl) (rndV_ge x pl) (rndB x pl) W)
  generalize hvv : numR (rndV x pl) (rndB x pl) = vv at HV
  have HVV := Lib.hid hvv
  clear hvv
  obtain ⟨vk, vn, vs⟩ := vv
  unfold vOf at HV
  dsimp only at HV
  refine (HV.out _).mono ?_
  rintro e w1 ⟨rfl, hB⟩
  have hX : B3 w1 w.heap.size 0 0 ⟨#[]⟩ := HX.out.later hB
  have HBW := Lib.hid (vnext HB.out hB)
  obtain ⟨x0, x1, x2, z0, z1, z2⟩ := hX.cells
  have hXl := hX.lt
  obtain ⟨hq, hg⟩ := b3_set hX vk vn vs
  have hb5 := HBW.out.grown hg HBW.out.size (fun q hq => by injection hq with hq; omega)
  clear hB hg
  go_wp2_with fail
  generalize ((w1.setCell ⟨w.heap.size, 0, none⟩ (.int .u8 (vk : Int))).setCell ⟨w.heap.size, 1, none⟩ (.int .i64 vn)).setCell ⟨w.heap.size, 2, none⟩ (.string vs) = w5 at *
  obtain ⟨y0, y1, y2, _, _, _⟩ := hq.cells
  refine bodyPost_ret (v := .agg #[.int .u8 (vk : Int), .int .i64 vn, .string vs]) (by simp [results, Tryz.results38, go_sem, y0, y1, y2]) rfl ⟨by rw [HN.out, HVV.out]; rfl, hb5⟩
set_option maxRecDepth 100000 in
set_option maxHeartbeats 6400000 in
theorem rfv_6 (a : Option Addr) (n cap : Nat) (x y : Int) (w : World) (hL : IsW w a n [x, y]) (hx1 : -9223372036854775808 < x) (hx2 : x ≤ 9223372036854775807) (hy1 : -9223372036854775808 < y) (hy2 : y ≤ 9223372036854775807) : Calls Tryz.prog 38 #[.int .u8 6, .slice a n cap] w fun e w' => e = .returned (vOf (twoV 6 x y)) ∧ Below w.heap.size w w' := by
  have HX : Hid (B3 (w.alloc (.cells #[.int .u8 0, .int .i64 0, .string ⟨#[]⟩] 25)) w.heap.size 0 0 ⟨#[]⟩) := B3.start w 0 0 ⟨#[]⟩
  have HB := Lib.hid (valloc w (.cells #[.int .u8 0, .int .i64 0, .string ⟨#[]⟩] 25))
  obtain ⟨n0, b0, o0, ea0, l0, i3⟩ := isW_at (IsOf.later hL HB.out) (k := 0) rfl
  rw [Nat.add_zero] at i3
  obtain ⟨n1, b1, o1, ea1, l1, j3⟩ := isW_at (IsOf.later hL HB.out) (k := 1) rfl
  subst ea0
  cases ea1
  have hnl : n = 2 := hL.1.symm
  subst hnl
  clear hL
  by_cases h0 : y = 0
  · have HN : Hid (twoV 6 x y = flV 1) := if_pos h0
    have e0 : (y == 0) = true := by simpa using h0
    clear h0
    go_enter Tryz.func38, Tryz.ntmps38
    go_wp2_with fail
    generalize w.alloc (.cells #[.int .u8 0, .int .i64 0, .string ⟨#[]⟩] 25) = wa at *
    refine (rfail_any 1 _).mono ?_
    rw [show flN 1 = 1 from rfl]
    rintro e w1 ⟨rfl, hB⟩
    have hX : B3 w1 w.heap.size 0 0 ⟨#[]⟩ := HX.out.later hB
    have HBW := Lib.hid (vnext HB.out hB)
    obtain ⟨x0, x1, x2, z0, z1, z2⟩ := hX.cells
    have hXl := hX.lt
    obtain ⟨hq, hg⟩ := b3_set hX 4 1 ⟨#[]⟩
    have hb5 := HBW.out.grown hg HBW.out.size (fun q hq => by injection hq with hq; omega)
    clear hB hg
    go_wp2_with fail
    generalize ((w1.setCell ⟨w.heap.size, 0, none⟩ (.int .u8 4)).setCell ⟨w.heap.size, 1, none⟩ (.int .i64 1)).setCell ⟨w.heap.size, 2, none⟩ (.string ⟨#[]⟩) = w5 at *
    obtain ⟨y0, y1, y2, _, _, _⟩ := hq.cells
    refine bodyPost_ret (v := .agg #[.int .u8 4, .int .i64 1, .string ⟨#[]⟩]) (by simp [results, Tryz.results38, go_sem, y0, y1, y2]) rfl ⟨by rw [HN.out]; rfl, hb5⟩
  · have HN : Hid (twoV 6 x y = mkV (modZ x y)) := if_neg h0
    have e0 : (y == 0) = false := by simpa using h0
    have hmz := (modZ_in (x := x) (y := y) ⟨by omega, hx2⟩ ⟨by omega, hy2⟩ h0).1
    go_enter Tryz.func38, Tryz.ntmps38
    go_wp2_with fail
    generalize w.alloc (.cells #[.int .u8 0, .int .i64 0, .string ⟨#[]⟩] 25) = wa at *
    refine (rmod_any x y ⟨by omega, hx2⟩ ⟨by omega, hy2⟩ h0 _).mono ?_
    rintro e w9 ⟨rfl, hB⟩
    replace HX := Lib.hid (HX.out.later hB)
    replace HB := Lib.hid (vnext HB.out hB)
    clear hB
    go_wp2_with fail
    have HV := Lib.hid (fun W => rmake_any (modZ x y) (by unfold InI at hmz; unfold leastI; omega) W)
    have HV : Hid (∀ W, Calls Tryz.prog 69 #[.int .i64 (modZ x y)] W fun e w' => e = .returned (vOf (mkV (modZ x y))) ∧ Below W.heap.size W w') := HV
    generalize hvv : mkV (modZ x y) = vv at HV
    have HVV := Lib.hid hvv
    clear hvv
    obtain ⟨vk, vn, vs⟩ := vv
    unfold vOf at HV
    dsimp only at HV
    refine (HV.out _).mono ?_
    rintro e w1 ⟨rfl, hB⟩
    have hX : B3 w1 w.heap.size 0 0 ⟨#[]⟩ := HX.out.later hB
    have HBW := Lib.hid (vnext HB.out hB)
    obtain ⟨x0, x1, x2, z0, z1, z2⟩ := hX.cells
    have hXl := hX.lt
    obtain ⟨hq, hg⟩ := b3_set hX vk vn vs
    have hb5 := HBW.out.grown hg HBW.out.size (fun q hq => by injection hq with hq; omega)
    clear hB hg
    go_wp2_with fail
    generalize ((w1.setCell ⟨w.heap.size, 0, none⟩ (.int .u8 (vk : Int))).setCell ⟨w.heap.size, 1, none⟩ (.int .i64 vn)).setCell ⟨w.heap.size, 2, none⟩ (.string vs) = w5 at *
    obtain ⟨y0, y1, y2, _, _, _⟩ := hq.cells
    refine bodyPost_ret (v := .agg #[.int .u8 (vk : Int), .int .i64 vn, .string vs]) (by simp [results, Tryz.results38, go_sem, y0, y1, y2]) rfl ⟨by rw [HN.out, HVV.out]; rfl, hb5⟩
set_option maxRecDepth 100000 in
set_option maxHeartbeats 6400000 in
theorem rfv_7 (a : Option Addr) (n cap : Nat) (x y : Int) (w : World) (hL : IsW w a n [x, y]) (hx1 : -9223372036854775808 < x) (hx2 : x ≤ 9223372036854775807) (hy1 : -9223372036854775808 < y) (hy2 : y ≤ 9223372036854775807) : Calls Tryz.prog 38 #[.int .u8 7, .slice a n cap] w fun e w' => e = .returned (vOf (twoV 7 x y)) ∧ Below w.heap.size w w' := by
  have HX : Hid (B3 (w.alloc (.cells #[.int .u8 0, .int .i64 0, .string ⟨#[]⟩] 25)) w.heap.size 0 0 ⟨#[]⟩) := B3.start w 0 0 ⟨#[]⟩
  have HB := Lib.hid (valloc w (.cells #[.int .u8 0, .int .i64 0, .string ⟨#[]⟩] 25))
  obtain ⟨n0, b0, o0, ea0, l0, i3⟩ := isW_at (IsOf.later hL HB.out) (k := 0) rfl
  rw [Nat.add_zero] at i3
  obtain ⟨n1, b1, o1, ea1, l1, j3⟩ := isW_at (IsOf.later hL HB.out) (k := 1) rfl
  subst ea0
  cases ea1
  have hnl : n = 2 := hL.1.symm
  subst hnl
  clear hL
  have HN : Hid (twoV 7 x y = powR x y) := rfl
  go_enter Tryz.func38, Tryz.ntmps38
  go_wp2_with fail
  generalize w.alloc (.cells #[.int .u8 0, .int .i64 0, .string ⟨#[]⟩] 25) = wa at *
  have HV := Lib.hid (fun W => rpower2_v x y ⟨by omega, hx2⟩ ⟨by omega, hy2⟩ W)
  generalize hvv : powR x y = vv at HV
  have HVV := Lib.hid hvv
  clear hvv
  obtain ⟨vk, vn, vs⟩ := vv
  unfold vOf at HV
  dsimp only at HV
  refine (HV.out _).mono ?_
  rintro e w1 ⟨rfl, hB⟩
  have hX : B3 w1 w.heap.size 0 0 ⟨#[]⟩ := HX.out.later hB
  have HBW := Lib.hid (vnext HB.out hB)
  obtain ⟨x0, x1, x2, z0, z1, z2⟩ := hX.cells
  have hXl := hX.lt
  obtain ⟨hq, hg⟩ := b3_set hX vk vn vs
  have hb5 := HBW.out.grown hg HBW.out.size (fun q hq => by injection hq with hq; omega)
  clear hB hg
  go_wp2_with fail
  generalize ((w1.setCell ⟨w.heap.size, 0, none⟩ (.int .u8 (vk : Int))).setCell ⟨w.heap.size, 1, none⟩ (.int .i64 vn)).setCell ⟨w.heap.size, 2, none⟩ (.string vs) = w5 at *
  obtain ⟨y0, y1, y2, _, _, _⟩ := hq.cells
  refine bodyPost_ret (v := .agg #[.int .u8 (vk : Int), .int .i64 vn, .string vs]) (by simp [results, Tryz.results38, go_sem, y0, y1, y2]) rfl ⟨by rw [HN.out, HVV.out]; rfl, hb5⟩
theorem rone_any (fn : Nat) (h : fn = 1 ∨ fn = 2 ∨ fn = 3 ∨ fn = 4 ∨ fn = 8) (a : Option Addr) (n cap : Nat) (x : Int) (w : World) (hL : IsW w a n [x]) (hx1 : -9223372036854775808 < x) (hx2 : x ≤ 9223372036854775807) : Calls Tryz.prog 38 #[.int .u8 (fn : Int), .slice a n cap] w fun e w' => e = .returned (vOf (oneV fn x)) ∧ Below w.heap.size w w' := by
  obtain rfl | rfl | rfl | rfl | rfl := h
  · exact rfv_1 a n cap x w hL hx1 hx2
  · exact rfv_2 a n cap x w hL hx1 hx2
  · exact rfv_3 a n cap x w hL hx1 hx2
  · exact rfv_4 a n cap x w hL hx1 hx2
  · exact rfv_8 a n cap x w hL hx1 hx2
theorem rtwo_any (fn : Nat) (h : fn = 5 ∨ fn = 6 ∨ fn = 7) (a : Option Addr) (n cap : Nat) (x y : Int) (w : World) (hL : IsW w a n [x, y]) (hx1 : -9223372036854775808 < x) (hx2 : x ≤ 9223372036854775807) (hy1 : -9223372036854775808 < y) (hy2 : y ≤ 9223372036854775807) : Calls Tryz.prog 38 #[.int .u8 (fn : Int), .slice a n cap] w fun e w' => e = .returned (vOf (twoV fn x y)) ∧ Below w.heap.size w w' := by
  obtain rfl | rfl | rfl := h
  · exact rfv_5 a n cap x y w hL hx1 hx2 hy1 hy2
  · exact rfv_6 a n cap x y w hL hx1 hx2 hy1 hy2
  · exact rfv_7 a n cap x y w hL hx1 hx2 hy1 hy2
theorem rfvalue_any (fn : Nat) (L : List V3) (M : List Int) (hM : nmR L [] = .inl M) (hv : ∀ v ∈ L, v.2.2.size ≤ 2000 ∧ InI v.2.1) (hf : L.length = 1 ∧ (fn = 1 ∨ fn = 2 ∨ fn = 3 ∨ fn = 4 ∨ fn = 8) ∨ L.length = 2 ∧ (fn = 5 ∨ fn = 6 ∨ fn = 7)) (a : Option Addr) (n cap : Nat) (w : World) (hL : IsW w a n M) : Calls Tryz.prog 38 #[.int .u8 (fn : Int), .slice a n cap] w fun e w' => e = .returned (vOf (fnumV fn L)) ∧ Below w.heap.size w w' := by
  rcases hf with ⟨h1, h2⟩ | ⟨h1, h2⟩
  · obtain ⟨x, rfl, hx1, hx2⟩ := nm_one h1 hv hM
    have e : fnumV fn L = oneV fn x := by unfold fnumV; rw [hM]; rfl
    rw [e]
    exact rone_any fn h2 a n cap x w hL hx1 hx2
  · obtain ⟨x, y, rfl, ⟨hx1, hx2⟩, hy1, hy2⟩ := nm_two h1 hv hM
    have e : fnumV fn L = twoV fn x y := by unfold fnumV; rw [hM]; rfl
    rw [e]
    exact rtwo_any fn h2 a n cap x y w hL hx1 hx2 hy1 hy2
set_option maxRecDepth 100000 in
set_option maxHeartbeats 6400000 in
theorem rfnum_any (fn : Nat) (a : Option Addr) (n cap : Nat) (L : List V3) (w : World) (hL : IsV w a n L) (hn : n ≤ 1000) (hv : ∀ v ∈ L, v.2.2.size ≤ 2000 ∧ InI v.2.1) (hT : Tb w) :
    Calls Tryz.prog 13 #[.int .u8 (fn : Int), .slice a n cap] w fun e w' => e = .returned (.tuple #[vOf (callN fn L).1, .int .i64 (callN fn L).2]) ∧ Below w.heap.size w w' := by
  have HX : Hid (B3 (w.alloc (.cells #[.int .u8 0, .int .i64 0, .string ⟨#[]⟩] 25)) w.heap.size 0 0 ⟨#[]⟩) := B3.start w 0 0 ⟨#[]⟩
  have HB := Lib.hid (valloc w (.cells #[.int .u8 0, .int .i64 0, .string ⟨#[]⟩] 25))
  have HL := Lib.hid hL
  have HNL := Lib.hid hL.1
  have HT := Lib.hid hT
  have HV := Lib.hid hv
  have HVA := Lib.hid (fun W hW => rvalid_any a n cap L (by omega) W hW (fun v h => ⟨Nat.le_trans (hv v h).1 (by unfold maxLen; decide), by have := (hv v h).2; unfold InI at this; unfold leastI; omega⟩))
  have HNU := Lib.hid (fun W hW hT => rnumbers_any a n cap L hn W hW hv hT)
  have HDEF : Hid (callN fn L = if fn < 1 ∨ 8 < fn then ((0, 0, ⟨#[]⟩), 10) else if L.length ≠ (arV fn).1 then ((0, 0, ⟨#[]⟩), 11) else if okL L = false then ((0, 0, ⟨#[]⟩), 2) else (fnumV fn L, 0)) := rfl
  generalize callN fn L = C at *
  clear hL hT hv
  by_cases h1 : fn < 1
  · obtain rfl : C = ((0, 0, ⟨#[]⟩), 10) := by rw [HDEF.out, if_pos (.inl h1)]
    have d1 : decide ((fn : Int) < 1) = true := by simp; omega
    go_enter Tryz.func13, Tryz.ntmps13
    go_wp2_with fail
    refine bodyPost_ret (v := .tuple #[.agg #[.int .u8 0, .int .i64 0, .string ⟨#[]⟩], .int .i64 10]) (by simp [results, Tryz.results13, go_sem]) rfl ⟨rfl, HB.out⟩
  have d1 : decide ((fn : Int) < 1) = false := by simp; omega
  by_cases h2 : 8 < fn
  · obtain rfl : C = ((0, 0, ⟨#[]⟩), 10) := by rw [HDEF.out, if_pos (.inr h2)]
    have d2 : decide ((8 : Int) < (fn : Int)) = true := by simp; omega
    go_enter Tryz.func13, Tryz.ntmps13
    go_wp2_with fail
    refine bodyPost_ret (v := .tuple #[.agg #[.int .u8 0, .int .i64 0, .string ⟨#[]⟩], .int .i64 10]) (by simp [results, Tryz.results13, go_sem]) rfl ⟨rfl, HB.out⟩
  have d2 : decide ((8 : Int) < (fn : Int)) = false := by simp; omega
  rw [if_neg (by omega)] at HDEF
  obtain ⟨har2, har⟩ := ar_num fn (by omega) (by omega)
  have HCN := Lib.hid (fun W => rcount_any fn n (by omega) W (rar_num fn (by omega) (by omega)))
  rw [har2] at HCN
  by_cases h3 : n = (arV fn).1
  · rw [decide_eq_true (show (arV fn).1 ≤ n ∧ n ≤ (arV fn).1 by omega)] at HCN
    rw [if_neg (by rw [HNL.out]; exact fun h => h h3)] at HDEF
    by_cases h4 : okL L = true
    · rw [if_neg (by rw [h4]; simp)] at HDEF
      rw [h4] at HVA
      have HFV := Lib.hid (fun M hM a n cap W hW => rfvalue_any fn L M hM HV.out (by rw [HNL.out, h3]; exact har) a n cap W hW)
      have HR2 : Hid (∀ x, nmR L [] = .inr x → fnumV fn L = x) := fun x hx => by unfold fnumV; rw [hx]
      have HC := HDEF.out
      subst HC
      obtain ⟨R, hR⟩ : ∃ R, nmR L [] = R := ⟨_, rfl⟩
      rw [hR] at HNU
      rw [hR] at HR2 HFV
      clear hR
      clear h4 h3 har har2 HDEF
      go_enter Tryz.func13, Tryz.ntmps13
      go_wp2_with fail
      generalize w.alloc (.cells #[.int .u8 0, .int .i64 0, .string ⟨#[]⟩] 25) = wa at *
      refine (HCN.out _).mono ?_
      rintro e w1 ⟨rfl, hB⟩
      replace HX := Lib.hid (HX.out.later hB)
      replace HB := Lib.hid (vnext HB.out hB)
      clear hB
      go_wp2_with fail
      refine (HVA.out _ (IsOf.later HL.out HB.out)).mono ?_
      rintro e w2 ⟨rfl, hB⟩
      replace HX := Lib.hid (HX.out.later hB)
      replace HB := Lib.hid (vnext HB.out hB)
      clear hB
      go_wp2_with fail
      refine (HNU.out _ (IsOf.later HL.out HB.out) (HT.out.later HB.out)).mono ?_
      rintro e w3 ⟨hR, hB⟩
      replace HX := Lib.hid (HX.out.later hB)
      replace HB := Lib.hid (vnext HB.out hB)
      clear hB HNU HVA HCN
      unfold NuP at hR
      cases R with
      | inr x =>
        have HE := Lib.hid (HR2.out x rfl)
        obtain ⟨xk, xn, xs⟩ := x
        dsimp only at hR
        subst hR
        have HY := Lib.hid (B3.start w3 xk xn xs)
        have l4 := valloc w3 (.cells #[.int .u8 (xk : Int), .int .i64 xn, .string xs] 25)
        replace HX := Lib.hid (HX.out.later l4)
        replace HB := Lib.hid (vnext HB.out l4)
        clear l4
        go_upto_region 8 with fail
        generalize w3.alloc (.cells #[.int .u8 (xk : Int), .int .i64 xn, .string xs] 25) = w4 at *
        obtain ⟨y0, y1, y2, _, _, _⟩ := HY.out.cells
        have hyl := HY.out.lt
        obtain ⟨x0, x1, x2, z0, z1, z2⟩ := HX.out.cells
        have hXl := HX.out.lt
        obtain ⟨hq, hg⟩ := b3_set HX.out xk xn xs
        have hb5 := HB.out.grown hg HB.out.size (fun q hq => by injection hq with hq; omega)
        clear hg
        go_wp2_with fail
        generalize ((w4.setCell ⟨w.heap.size, 0, none⟩ (.int .u8 (xk : Int))).setCell ⟨w.heap.size, 1, none⟩ (.int .i64 xn)).setCell ⟨w.heap.size, 2, none⟩ (.string xs) = w5 at *
        obtain ⟨v0, v1, v2, _, _, _⟩ := hq.cells
        refine bodyPost_ret (v := .tuple #[.agg #[.int .u8 (xk : Int), .int .i64 xn, .string xs], .int .i64 0]) (by simp [results, Tryz.results13, go_sem, v0, v1, v2]) rfl ⟨by rw [HE.out]; rfl, hb5⟩
      | inl M =>
        obtain ⟨v, rfl, hO⟩ := hR
        obtain ⟨ua, uc, rfl, hI⟩ := OwnOf.isOf cellsW_len hO
        have l4 := valloc w3 (.cells #[.int .u8 0, .int .i64 0, .string ⟨#[]⟩] 25)
        have HI := Lib.hid (hI.later l4)
        replace HX := Lib.hid (HX.out.later l4)
        replace HB := Lib.hid (vnext HB.out l4)
        have HON := Lib.hid (fun a n cap W hW => HFV.out M rfl a n cap W hW)
        obtain ⟨⟨vk, vn, vs⟩, hr⟩ : ∃ r, fnumV fn L = r := ⟨_, rfl⟩
        have HE := Lib.hid hr
        rw [hr] at HON
        unfold vOf at HON
        dsimp only at HON
        clear l4 hI hO hr HFV HR2
        go_upto_region 8 with fail
        generalize w3.alloc (.cells #[.int .u8 0, .int .i64 0, .string ⟨#[]⟩] 25) = w4 at *
        go_wp2_with fail
        refine (HON.out _ _ _ _ HI.out).mono ?_
        rintro e w6 ⟨rfl, hB⟩
        replace HX := Lib.hid (HX.out.later hB)
        replace HB := Lib.hid (vnext HB.out hB)
        clear hB
        obtain ⟨x0, x1, x2, z0, z1, z2⟩ := HX.out.cells
        have hXl := HX.out.lt
        obtain ⟨hq, hg⟩ := b3_set HX.out vk vn vs
        have hb5 := HB.out.grown hg HB.out.size (fun q hq => by injection hq with hq; omega)
        clear hg
        go_wp2_with fail
        generalize ((w6.setCell ⟨w.heap.size, 0, none⟩ (.int .u8 (vk : Int))).setCell ⟨w.heap.size, 1, none⟩ (.int .i64 vn)).setCell ⟨w.heap.size, 2, none⟩ (.string vs) = w5 at *
        obtain ⟨v0, v1, v2, _, _, _⟩ := hq.cells
        refine bodyPost_ret (v := .tuple #[.agg #[.int .u8 (vk : Int), .int .i64 vn, .string vs], .int .i64 0]) (by simp [results, Tryz.results13, go_sem, v0, v1, v2]) rfl ⟨by rw [HE.out]; rfl, hb5⟩
    · have h5 : okL L = false := by cases h : okL L <;> simp_all
      rw [if_pos h5] at HDEF
      have HC := HDEF.out
      subst HC
      rw [h5] at HVA
      clear h5 h4 HV HDEF HNU h3 har har2
      go_enter Tryz.func13, Tryz.ntmps13
      go_wp2_with fail
      generalize w.alloc (.cells #[.int .u8 0, .int .i64 0, .string ⟨#[]⟩] 25) = wa at *
      refine (HCN.out _).mono ?_
      rintro e w1 ⟨rfl, hB⟩
      replace HX := Lib.hid (HX.out.later hB)
      replace HB := Lib.hid (vnext HB.out hB)
      clear hB
      go_wp2_with fail
      refine (HVA.out _ (IsOf.later HL.out HB.out)).mono ?_
      rintro e w2 ⟨rfl, hB⟩
      replace HX := Lib.hid (HX.out.later hB)
      replace HB := Lib.hid (vnext HB.out hB)
      clear hB
      obtain ⟨x0, x1, x2, z0, z1, z2⟩ := HX.out.cells
      have hXl := HX.out.lt
      obtain ⟨hq, hg⟩ := b3_set HX.out 0 0 ⟨#[]⟩
      have hb5 := HB.out.grown hg HB.out.size (fun q hq => by injection hq with hq; omega)
      clear hg
      go_wp2_with fail
      generalize ((w2.setCell ⟨w.heap.size, 0, none⟩ (.int .u8 0)).setCell ⟨w.heap.size, 1, none⟩ (.int .i64 0)).setCell ⟨w.heap.size, 2, none⟩ (.string ⟨#[]⟩) = w5 at *
      obtain ⟨v0, v1, v2, _, _, _⟩ := hq.cells
      refine bodyPost_ret (v := .tuple #[.agg #[.int .u8 0, .int .i64 0, .string ⟨#[]⟩], .int .i64 2]) (by simp [results, Tryz.results13, go_sem, v0, v1, v2]) rfl ⟨rfl, hb5⟩
  · rw [decide_eq_false (show ¬ ((arV fn).1 ≤ n ∧ n ≤ (arV fn).1) by omega)] at HCN
    rw [if_pos (by rw [HNL.out]; exact h3)] at HDEF
    have HC := HDEF.out
    subst HC
    clear h3 HV HVA HDEF HNU har har2
    go_enter Tryz.func13, Tryz.ntmps13
    go_wp2_with fail
    generalize w.alloc (.cells #[.int .u8 0, .int .i64 0, .string ⟨#[]⟩] 25) = wa at *
    refine (HCN.out _).mono ?_
    rintro e w1 ⟨rfl, hB⟩
    replace HX := Lib.hid (HX.out.later hB)
    replace HB := Lib.hid (vnext HB.out hB)
    clear hB
    obtain ⟨x0, x1, x2, z0, z1, z2⟩ := HX.out.cells
    have hXl := HX.out.lt
    obtain ⟨hq, hg⟩ := b3_set HX.out 0 0 ⟨#[]⟩
    have hb5 := HB.out.grown hg HB.out.size (fun q hq => by injection hq with hq; omega)
    clear hg
    go_wp2_with fail
    generalize ((w1.setCell ⟨w.heap.size, 0, none⟩ (.int .u8 0)).setCell ⟨w.heap.size, 1, none⟩ (.int .i64 0)).setCell ⟨w.heap.size, 2, none⟩ (.string ⟨#[]⟩) = w5 at *
    obtain ⟨v0, v1, v2, _, _, _⟩ := hq.cells
    refine bodyPost_ret (v := .tuple #[.agg #[.int .u8 0, .int .i64 0, .string ⟨#[]⟩], .int .i64 11]) (by simp [results, Tryz.results13, go_sem, v0, v1, v2]) rfl ⟨rfl, hb5⟩
end Go.Proofs.YtfjefanhkbcfgaaGreatDoor.Va
/- The reference's conversion of arguments. -/
namespace Go.Proofs.YtfjefanhkbcfgaaGreatDoor.Va
open Go Go.RowKit GM
set_option linter.unusedVariables false
set_option linter.unusedSimpArgs false
abbrev OwnN (B : Nat) (w : World) (v : Value) (L : List Int) : Prop := OwnOf 3 cellsW 1 B w v L
/-- What the reference's convert has gathered so far. -/
structure Cw (w wr : World) (u v : Value) (T : List ByteArray) (W : List Int) : Prop where
  f : B3 wr w.heap.size 0 0 ⟨#[]⟩
  t : OwnT (w.heap.size + 1) wr u T
  n : OwnN (w.heap.size + 1) wr v W
  b : Below w.heap.size w wr
theorem Cw.later {w wr w1 : World} {u v : Value} {T : List ByteArray} {W : List Int} (h : Cw w wr u v T W) (hB : Below wr.heap.size wr w1) : Cw w w1 u v T W :=
  ⟨h.f.later hB, OwnOf.later h.t hB, OwnOf.later h.n hB, vnext h.b hB⟩
/-- A block that is none of the lists'. -/
theorem Cw.other {w wr w1 : World} {u v : Value} {T : List ByteArray} {W : List Int} {q : Nat} (h : Cw w wr u v T W) (hg : wr.grownBy w1 (some q)) (hq : w.heap.size < q) (hu : ∀ g, u.ownBlock = some g → g ≠ q) (hv : ∀ g, v.ownBlock = some g → g ≠ q) : Cw w w1 u v T W :=
  ⟨h.f.grownB hg (fun e => by injection e with e; omega), World.ownsRow.kept h.t hg (.inr fun e => hu q e rfl), World.ownsRow.kept h.n hg (.inr fun e => hv q e rfl), h.b.grown hg h.b.size (fun p hp => by injection hp with hp; omega)⟩
theorem Cw.lt {w wr : World} {u v : Value} {T : List ByteArray} {W : List Int} (h : Cw w wr u v T W) : (∀ g, u.ownBlock = some g → g ≠ wr.heap.size) ∧ (∀ g, v.ownBlock = some g → g ≠ wr.heap.size) :=
  ⟨fun g e => by have := (World.ownsRow.lt h.t g e).2; omega, fun g e => by have := (World.ownsRow.lt h.n g e).2; omega⟩
end Go.Proofs.YtfjefanhkbcfgaaGreatDoor.Va
