/- Merged: LgB LgC. -/
import Derived.Test.YtdhahiodnmmkeaaGreatDoorMgj
/- flogic: the conversion of the arguments, and the folds (program). -/
namespace Go.Proofs.YtdhahiodnmmkeaaGreatDoor.Va
open Go Go.RowKit GM
set_option linter.unusedVariables false
set_option linter.unusedSimpArgs false
/-- What flogic.convert returns. -/
def LgP (R : List V3 ⊕ V3) (B : Nat) (e : Ending) (w' : World) : Prop :=
  match R with
  | .inl M => ∃ v, e = .returned (.tuple #[v, .agg #[.int .u8 0, .int .i64 0, .string ⟨#[]⟩], .bool true]) ∧ OwnV B w' v M
  | .inr x => e = .returned (.tuple #[.slice none 0 0, .agg #[.int .u8 (x.1 : Int), .int .i64 x.2.1, .string x.2.2], .bool false])
set_option maxRecDepth 100000 in
set_option maxHeartbeats 6400000 in
theorem pconvert_any (fn : Nat) (hf : fn = 20 ∨ fn = 21 ∨ fn = 22 ∨ fn = 23 ∨ fn = 24 ∨ fn = 27 ∨ fn = 28 ∨ fn = 29 ∨ fn = 30) (a : Option Addr) (n cap : Nat) (L : List V3) (hn : n ≤ 1000) (w : World) (hL : IsV w a n L) (hv : ∀ v ∈ L, v.2.2.size ≤ 2000 ∧ InI v.2.1) (hT : Tb w) :
    Calls Tryz.prog 52 #[.int .u8 (fn : Int), .slice a n cap] w fun e w' => LgP (lgC fn 0 L []) (w.heap.size + 1) e w' ∧ Below w.heap.size w w' := by
  have HL := Lib.hid hL
  have HNL := Lib.hid hL.1
  have HV := Lib.hid hv
  have HT := Lib.hid hT
  have HCV := Lib.hid (fun i v hs hi W hT => pconv_any fn hf i v hs hi W hT)
  obtain ⟨R, hR⟩ : ∃ R, lgC fn 0 L [] = R := ⟨_, rfl⟩
  rw [hR]
  have HR : Hid (lgC fn 0 (L.drop 0) [] = R) := by rw [List.drop_zero]; exact hR
  clear hL hv hT hR hf
  have HX : Hid (B3 (w.alloc (.cells #[.int .u8 0, .int .i64 0, .string ⟨#[]⟩] 26)) w.heap.size 0 0 ⟨#[]⟩) := B3.start w 0 0 ⟨#[]⟩
  have HB := Lib.hid (valloc w (.cells #[.int .u8 0, .int .i64 0, .string ⟨#[]⟩] 26))
  go_enter Tryz.func52, Tryz.ntmps52
  go_wp2_with fail
  generalize w.alloc (.cells #[.int .u8 0, .int .i64 0, .string ⟨#[]⟩] 26) = wa at *
  go_loopw [4, 11] (fun u i wr => ∃ (k : Nat) (M : List V3), k ≤ n ∧ i = .int .i64 (k : Int) ∧ Hid (M.length = k) ∧ Hid (lgC fn k (L.drop k) M = R) ∧ Hid (OwnV (w.heap.size + 1) wr u M) ∧ Hid (Below w.heap.size w wr) ∧ Hid (B3 wr w.heap.size 0 0 ⟨#[]⟩)) (fun _ i _ => n - (intOf i).toNat)
  case atStart => exact ⟨0, [], Nat.zero_le _, rfl, rfl, HR.out, OwnOf.nil _ _ _ _ _, HB.out, HX.out⟩
  case round =>
    clear HR HB HX
    obtain ⟨k, M, hk, rfl, HM, HR, HO, HB, HX⟩ := hrel
    obtain ⟨ua, uc, rfl, _⟩ := OwnOf.isOf cellsV_len HO.out
    by_cases hlt : k < n
    · have hkl : k < L.length := by rw [HNL.out]; exact hlt
      obtain ⟨hvs, hvi⟩ := HV.out L[k] (List.getElem_mem hkl)
      obtain ⟨b, off, rfl, hbl, c1, c2, c3⟩ := isV_at (IsOf.later HL.out HB.out) hkl
      have hst := lgC_step (fn := fn) hkl M
      rw [HR.out] at hst
      generalize L[k] = v at *
      have HST := Lib.hid hst
      have HCK := Lib.hid (fun W hW => HCV.out k v hvs hvi W hW)
      clear hst HR hvs hvi
      obtain ⟨r, hr⟩ : ∃ r, cvl fn k v = r := ⟨_, rfl⟩
      rw [hr] at HCK HST
      clear hr
      obtain ⟨rk, rn, rs⟩ := r
      unfold vOf at HCK
      dsimp only at HCK HST
      have la := valloc wr (.cells #[.int .u8 (v.1 : Int), .int .i64 v.2.1, .string v.2.2] 26)
      have HY := Lib.hid (B3.start wr v.1 v.2.1 v.2.2)
      have HUA := Lib.hid (fun g (hg : (Value.slice ua M.length uc).ownBlock = some g) => (World.ownsRow.lt HO.out g hg).2)
      have hq9 : w.heap.size < wr.heap.size := HX.out.lt
      replace HB := Lib.hid (vnext HB.out la)
      replace HX := Lib.hid (HX.out.later la)
      replace HO := Lib.hid (OwnOf.later HO.out la)
      clear la
      go_upto_region 4 with fail
      generalize wr.alloc (.cells #[.int .u8 (v.1 : Int), .int .i64 v.2.1, .string v.2.2] 26) = wb at *
      obtain ⟨y0, y1, y2, q0, q1, q2⟩ := HY.out.cells
      have hyl := HY.out.lt
      go_wp2_with fail
      refine (HCK.out _ (HT.out.later HB.out)).mono ?_
      rintro e w1 ⟨rfl, hB1⟩
      replace HB := Lib.hid (vnext HB.out hB1)
      replace HX := Lib.hid (HX.out.later hB1)
      replace HO := Lib.hid (OwnOf.later HO.out hB1)
      replace HY := Lib.hid (HY.out.later hB1)
      clear hB1 HCK c1 c2 c3 hbl y0 y1 y2 q0 q1 q2 hyl
      obtain ⟨y0, y1, y2, q0, q1, q2⟩ := HY.out.cells
      have hyl := HY.out.lt
      obtain ⟨hq, hg⟩ := b3_set HY.out rk rn rs
      have HY2 := Lib.hid hq
      have HB2 := Lib.hid (HB.out.grown hg HB.out.size (fun q hq => by injection hq with hq; omega))
      have HX2 := Lib.hid (HX.out.grownB hg (fun e => by injection e with e; omega))
      have HO2 := Lib.hid (show OwnV (w.heap.size + 1) (((w1.setCell ⟨wr.heap.size, 0, none⟩ (.int .u8 (rk : Int))).setCell ⟨wr.heap.size, 1, none⟩ (.int .i64 rn)).setCell ⟨wr.heap.size, 2, none⟩ (.string rs)) (.slice ua M.length uc) M from World.ownsRow.kept HO.out hg (.inr fun e => by have := HUA.out _ e; omega))
      have hz : (((w1.setCell ⟨wr.heap.size, 0, none⟩ (.int .u8 (rk : Int))).setCell ⟨wr.heap.size, 1, none⟩ (.int .i64 rn)).setCell ⟨wr.heap.size, 2, none⟩ (.string rs)).heap.size = w1.heap.size := by simp [World.setCell]
      clear hq hg HB HX HO HY
      go_upto_region 5 with fail
      clear y0 y1 y2 q0 q1 q2
      generalize ((w1.setCell ⟨wr.heap.size, 0, none⟩ (.int .u8 (rk : Int))).setCell ⟨wr.heap.size, 1, none⟩ (.int .i64 rn)).setCell ⟨wr.heap.size, 2, none⟩ (.string rs) = w2 at *
      obtain ⟨y0, y1, y2, _, _, _⟩ := HY2.out.cells
      have hyl2 := HY2.out.lt
      have HFA := Lib.hid (fun W => failed_any (rk, rn, rs) W)
      dsimp only at HFA
      go_wp2_with fail
      refine (HFA.out _).mono ?_
      rintro e w3 ⟨rfl, hB3⟩
      have HB := Lib.hid (vnext HB2.out hB3)
      have HX := Lib.hid (HX2.out.later hB3)
      have HO := Lib.hid (OwnOf.later HO2.out hB3)
      have HY := Lib.hid (HY2.out.later hB3)
      clear hB3 HB2 HX2 HO2 HY2 HFA y0 y1 y2 hyl hyl2 hz
      obtain ⟨y0, y1, y2, _, _, _⟩ := HY.out.cells
      have hyl := HY.out.lt
      by_cases h4 : rk = 4
      · have hk4 : decide (rk = 4) = true := decide_eq_true h4
        rw [hk4]
        have HE : Hid (R = .inr (rk, rn, rs)) := by rw [HST.out, if_pos h4]; exact rfl
        clear h4 HST hk4
        obtain ⟨x0, x1, x2, z0, z1, z2⟩ := HX.out.cells
        have hXl := HX.out.lt
        obtain ⟨hq, hg⟩ := b3_set HX.out rk rn rs
        have HQ := Lib.hid hq
        have HB4 := Lib.hid (HB.out.grown hg HB.out.size (fun q hq => by injection hq with hq; omega))
        clear hg hq
        go_wp2_with fail
        go_region
        clear x0 x1 x2 z0 z1 z2 y0 y1 y2
        generalize ((w3.setCell ⟨w.heap.size, 0, none⟩ (.int .u8 (rk : Int))).setCell ⟨w.heap.size, 1, none⟩ (.int .i64 rn)).setCell ⟨w.heap.size, 2, none⟩ (.string rs) = w4 at *
        have k2 : B3 w4.drew w.heap.size rk rn rs := HQ.out
        have k3 := Lib.hid HB4.out.drew
        generalize w4.drew = w6 at *
        obtain ⟨y0, y1, y2, _, _, _⟩ := k2.cells
        go_wp2_with fail
        refine bodyPost_ret (v := .tuple #[.slice none 0 0, .agg #[.int .u8 (rk : Int), .int .i64 rn, .string rs], .bool false]) (by simp [results, Tryz.results52, go_sem, y0, y1, y2]) rfl ⟨by rw [HE.out]; exact rfl, k3.out⟩
      · have hk4 : decide (rk = 4) = false := decide_eq_false h4
        rw [hk4]
        rw [if_neg h4] at HST
        have HR := Lib.hid HST.out.symm
        have hws : w.heap.size + 1 ≤ w3.heap.size := HX.out.lt
        have hlm : M.length ≤ 1000 := by have := HM.out; omega
        clear h4 HST hk4
        go_wp2_with (at_builtin; go_loud (refine wpList_appG rfl (.tmp 23) (.tmp 25) 22 rfl Tryz.underlying22 _ 32 infoV zeroV (by decide) (by decide) cellsV_len cellsV_one (w.heap.size + 1) _ M rfl (OwnOf.alloc HO.out _) _ 1 1 [(rk, rn, rs)] rfl (isOf_new _ _ _ _ rfl) (by omega) (by simp; omega) ?_; intro v5 w5 ho5 hg5 hr5; have hn5 : ∀ g, (Value.slice ua M.length uc).ownBlock = some g → w.heap.size + 1 ≤ g := fun g hg => (World.ownsRow.lt HO.out g hg).1; have l5 := valloc w3 (.cells #[.int .u8 (rk : Int), .int .i64 rn, .string rs] 26); have HX5 := Lib.hid ((HX.out.later l5).grownB hg5 (fun e => by have := hn5 _ e; omega)); have HB5 := Lib.hid ((vnext HB.out l5).grown hg5 (vnext HB.out l5).size (fun q hq => by have := hn5 _ hq; omega)); have HO5 := Lib.hid ho5; clear hg5 ho5 hr5 hn5 l5))
        exact ⟨⟨k + 1, M ++ [(rk, rn, rs)], by omega, by go_num, by have := HM.out; unfold Hid; simp; omega, HR.out, HO5.out, HB5.out, HX5.out⟩, by simp [intOf]; omega⟩
    · obtain rfl : k = n := by omega
      have hend := lgC_end (fn := fn) (L := L) (k := k) (by rw [HNL.out]; exact Nat.le_refl _) M
      rw [HR.out] at hend
      have HE := Lib.hid hend
      clear hend HR
      obtain ⟨x0, x1, x2, z0, z1, z2⟩ := HX.out.cells
      have hXl := HX.out.lt
      obtain ⟨hq, hg⟩ := b3_set HX.out 0 0 ⟨#[]⟩
      have HO5 := Lib.hid (show OwnV (w.heap.size + 1) (((wr.setCell ⟨w.heap.size, 0, none⟩ (.int .u8 ((0 : Nat) : Int))).setCell ⟨w.heap.size, 1, none⟩ (.int .i64 0)).setCell ⟨w.heap.size, 2, none⟩ (.string ⟨#[]⟩)) (.slice ua M.length uc) M from World.ownsRow.kept HO.out hg (.inr fun e => by have := (World.ownsRow.lt HO.out _ e).1; omega))
      have hb5 := HB.out.grown hg HB.out.size (fun q hq => by injection hq with hq; omega)
      clear hg
      go_wp2_with fail
      generalize ((wr.setCell ⟨w.heap.size, 0, none⟩ (.int .u8 ((0 : Nat) : Int))).setCell ⟨w.heap.size, 1, none⟩ (.int .i64 0)).setCell ⟨w.heap.size, 2, none⟩ (.string ⟨#[]⟩) = w5 at *
      obtain ⟨v0, v1, v2, _, _, _⟩ := hq.cells
      refine bodyPost_ret (v := .tuple #[.slice ua M.length uc, .agg #[.int .u8 0, .int .i64 0, .string ⟨#[]⟩], .bool true]) (by simp [results, Tryz.results52, go_sem, v0, v1, v2]) rfl ⟨by rw [HE.out]; exact ⟨_, rfl, HO5.out⟩, hb5⟩
def hB (v : V3) : Bool := decide (v.2.1 = 1)
/-- How many of the values hold. -/
def trues (L : List V3) : Nat := L.countP hB
theorem trues_step {L : List V3} {k : Nat} (h : k < L.length) : trues (L.take (k + 1)) = trues (L.take k) + if hB L[k] then 1 else 0 := by
  unfold trues
  rw [List.take_succ_eq_append_getElem h, List.countP_append, List.countP_singleton]
theorem trues_le (L : List V3) : trues L ≤ L.length := List.countP_le_length
theorem all_step {L : List V3} {k : Nat} (h : k < L.length) : (L.take (k + 1)).all hB = ((L.take k).all hB && hB L[k]) := by
  rw [List.take_succ_eq_append_getElem h, List.all_append]; simp
theorem any_step {L : List V3} {k : Nat} (h : k < L.length) : (L.take (k + 1)).any hB = ((L.take k).any hB || hB L[k]) := by
  rw [List.take_succ_eq_append_getElem h, List.any_append]; simp
theorem clo_all (x y : Bool) (w : World) : Calls Tryz.prog 95 #[.bool x, .bool y] w fun e w' => e = .returned (.bool (x && y)) ∧ w = w' := by
  cases x <;> cases y
  · go_enter Tryz.func95, Tryz.ntmps95
    go_wp2_with fail
    go_ret
    exact ⟨rfl, rfl⟩
  · go_enter Tryz.func95, Tryz.ntmps95
    go_wp2_with fail
    go_ret
    exact ⟨rfl, rfl⟩
  · go_enter Tryz.func95, Tryz.ntmps95
    go_wp2_with fail
    go_ret
    exact ⟨rfl, rfl⟩
  · go_enter Tryz.func95, Tryz.ntmps95
    go_wp2_with fail
    go_ret
    exact ⟨rfl, rfl⟩
set_option maxHeartbeats 3200000 in
theorem fold_all (a : Option Addr) (n cap : Nat) (L : List V3) (hn : n ≤ 1000) (w : World) (hL : IsV w a n L) :
    Calls Tryz.prog 94 #[.slice a n cap, .bool true, .func (.func 95) #[] #[]] w fun e w' => e = .returned (.bool (L.all hB)) ∧ Below w.heap.size w w' := by
  have HL := Lib.hid hL
  have HNL := Lib.hid hL.1
  clear hL
  go_enter Tryz.func94, Tryz.ntmps94
  go_wp2_with fail
  go_loopw [1, 11] (fun u i wr => ∃ k : Nat, k ≤ n ∧ i = .int .i64 (k : Int) ∧ u = .bool ((L.take k).all hB) ∧ Hid (Below w.heap.size w wr)) (fun _ i _ => n - (intOf i).toNat)
  case atStart => exact ⟨0, Nat.zero_le _, rfl, rfl, Below.refl _ _⟩
  case round =>
    obtain ⟨k, hk, rfl, rfl, HB⟩ := hrel
    by_cases hlt : k < n
    · have hkl : k < L.length := by rw [HNL.out]; exact hlt
      obtain ⟨b, off, rfl, hbl, c1, c2, c3⟩ := isV_at (IsOf.later HL.out HB.out) hkl
      have HST := Lib.hid (all_step hkl)
      have HHO := Lib.hid (fun W => holds_any L[k] W)
      have hhb : decide (L[k].2.1 = 1) = hB L[k] := rfl
      rw [hhb] at HHO
      generalize hB L[k] = hb at *
      generalize L[k] = v at *
      have la := valloc wr (.cells #[.int .u8 (v.1 : Int), .int .i64 v.2.1, .string v.2.2] 26)
      have HY := Lib.hid (B3.start wr v.1 v.2.1 v.2.2)
      replace HB := Lib.hid (vnext HB.out la)
      clear la hhb
      go_upto_region 4 with fail
      generalize wr.alloc (.cells #[.int .u8 (v.1 : Int), .int .i64 v.2.1, .string v.2.2] 26) = wb at *
      obtain ⟨y0, y1, y2, _, _, _⟩ := HY.out.cells
      have hyl := HY.out.lt
      obtain ⟨A, hA⟩ : ∃ A, (L.take k).all hB = A := ⟨_, rfl⟩
      rw [hA]
      rw [hA] at HST
      clear hA
      go_wp2_with fail
      refine (HHO.out _).mono ?_
      rintro e w1 ⟨rfl, hB1⟩
      replace HB := Lib.hid (vnext HB.out hB1)
      clear hB1 c1 c2 c3 hbl y0 y1 y2 hyl
      go_wp2_with fail
      refine (clo_all A hb _).mono ?_
      rintro e w2 ⟨rfl, rfl⟩
      go_wp2_with fail
      exact ⟨⟨k + 1, by omega, by go_num, by rw [HST.out]; first | done | rfl | simp, HB.out⟩, by simp [intOf]; omega⟩
    · have HE : Hid ((L.take k).all hB = L.all hB) := by unfold Hid; rw [List.take_of_length_le (by rw [HNL.out]; omega)]
      rw [HE.out]
      go_wp2_with fail
      go_ret
      exact ⟨rfl, HB.out⟩
theorem clo_any (x y : Bool) (w : World) : Calls Tryz.prog 96 #[.bool x, .bool y] w fun e w' => e = .returned (.bool (x || y)) ∧ w = w' := by
  cases x <;> cases y
  · go_enter Tryz.func96, Tryz.ntmps96
    go_wp2_with fail
    go_ret
    exact ⟨rfl, rfl⟩
  · go_enter Tryz.func96, Tryz.ntmps96
    go_wp2_with fail
    go_ret
    exact ⟨rfl, rfl⟩
  · go_enter Tryz.func96, Tryz.ntmps96
    go_wp2_with fail
    go_ret
    exact ⟨rfl, rfl⟩
  · go_enter Tryz.func96, Tryz.ntmps96
    go_wp2_with fail
    go_ret
    exact ⟨rfl, rfl⟩
set_option maxHeartbeats 3200000 in
theorem fold_any (a : Option Addr) (n cap : Nat) (L : List V3) (hn : n ≤ 1000) (w : World) (hL : IsV w a n L) :
    Calls Tryz.prog 94 #[.slice a n cap, .bool false, .func (.func 96) #[] #[]] w fun e w' => e = .returned (.bool (L.any hB)) ∧ Below w.heap.size w w' := by
  have HL := Lib.hid hL
  have HNL := Lib.hid hL.1
  clear hL
  go_enter Tryz.func94, Tryz.ntmps94
  go_wp2_with fail
  go_loopw [1, 11] (fun u i wr => ∃ k : Nat, k ≤ n ∧ i = .int .i64 (k : Int) ∧ u = .bool ((L.take k).any hB) ∧ Hid (Below w.heap.size w wr)) (fun _ i _ => n - (intOf i).toNat)
  case atStart => exact ⟨0, Nat.zero_le _, rfl, rfl, Below.refl _ _⟩
  case round =>
    obtain ⟨k, hk, rfl, rfl, HB⟩ := hrel
    by_cases hlt : k < n
    · have hkl : k < L.length := by rw [HNL.out]; exact hlt
      obtain ⟨b, off, rfl, hbl, c1, c2, c3⟩ := isV_at (IsOf.later HL.out HB.out) hkl
      have HST := Lib.hid (any_step hkl)
      have HHO := Lib.hid (fun W => holds_any L[k] W)
      have hhb : decide (L[k].2.1 = 1) = hB L[k] := rfl
      rw [hhb] at HHO
      generalize hB L[k] = hb at *
      generalize L[k] = v at *
      have la := valloc wr (.cells #[.int .u8 (v.1 : Int), .int .i64 v.2.1, .string v.2.2] 26)
      have HY := Lib.hid (B3.start wr v.1 v.2.1 v.2.2)
      replace HB := Lib.hid (vnext HB.out la)
      clear la hhb
      go_upto_region 4 with fail
      generalize wr.alloc (.cells #[.int .u8 (v.1 : Int), .int .i64 v.2.1, .string v.2.2] 26) = wb at *
      obtain ⟨y0, y1, y2, _, _, _⟩ := HY.out.cells
      have hyl := HY.out.lt
      obtain ⟨A, hA⟩ : ∃ A, (L.take k).any hB = A := ⟨_, rfl⟩
      rw [hA]
      rw [hA] at HST
      clear hA
      go_wp2_with fail
      refine (HHO.out _).mono ?_
      rintro e w1 ⟨rfl, hB1⟩
      replace HB := Lib.hid (vnext HB.out hB1)
      clear hB1 c1 c2 c3 hbl y0 y1 y2 hyl
      go_wp2_with fail
      refine (clo_any A hb _).mono ?_
      rintro e w2 ⟨rfl, rfl⟩
      go_wp2_with fail
      exact ⟨⟨k + 1, by omega, by go_num, by rw [HST.out]; first | done | rfl | simp, HB.out⟩, by simp [intOf]; omega⟩
    · have HE : Hid ((L.take k).any hB = L.any hB) := by unfold Hid; rw [List.take_of_length_le (by rw [HNL.out]; omega)]
      rw [HE.out]
      go_wp2_with fail
      go_ret
      exact ⟨rfl, HB.out⟩
theorem clo_cnt (x : Nat) (hx : x ≤ 1000000) (y : Bool) (w : World) : Calls Tryz.prog 176 #[.int .i64 (x : Int), .bool y] w fun e w' => e = .returned (.int .i64 ((x + if y then 1 else 0 : Nat) : Int)) ∧ w = w' := by
  cases y
  · go_enter Tryz.func176, Tryz.ntmps176
    go_wp2_with fail
    go_ret
    exact ⟨rfl, rfl⟩
  · go_enter Tryz.func176, Tryz.ntmps176
    go_wp2_with fail
    go_ret
    exact ⟨by simp, rfl⟩
set_option maxHeartbeats 3200000 in
theorem fold_cnt (a : Option Addr) (n cap : Nat) (L : List V3) (hn : n ≤ 1000) (w : World) (hL : IsV w a n L) :
    Calls Tryz.prog 175 #[.slice a n cap, .int .i64 0, .func (.func 176) #[] #[]] w fun e w' => e = .returned (.int .i64 ((trues L : Nat) : Int)) ∧ Below w.heap.size w w' := by
  have HL := Lib.hid hL
  have HNL := Lib.hid hL.1
  clear hL
  go_enter Tryz.func175, Tryz.ntmps175
  go_wp2_with fail
  go_loopw [1, 11] (fun u i wr => ∃ k : Nat, k ≤ n ∧ i = .int .i64 (k : Int) ∧ u = .int .i64 ((trues (L.take k) : Nat) : Int) ∧ Hid (Below w.heap.size w wr)) (fun _ i _ => n - (intOf i).toNat)
  case atStart => exact ⟨0, Nat.zero_le _, rfl, rfl, Below.refl _ _⟩
  case round =>
    obtain ⟨k, hk, rfl, rfl, HB⟩ := hrel
    by_cases hlt : k < n
    · have hkl : k < L.length := by rw [HNL.out]; exact hlt
      obtain ⟨b, off, rfl, hbl, c1, c2, c3⟩ := isV_at (IsOf.later HL.out HB.out) hkl
      have HST := Lib.hid (trues_step hkl)
      have hbn : trues (L.take k) ≤ 1000000 := by have := trues_le (L.take k); rw [List.length_take] at this; omega
      have HHO := Lib.hid (fun W => holds_any L[k] W)
      have hhb : decide (L[k].2.1 = 1) = hB L[k] := rfl
      rw [hhb] at HHO
      generalize hB L[k] = hb at *
      generalize L[k] = v at *
      have la := valloc wr (.cells #[.int .u8 (v.1 : Int), .int .i64 v.2.1, .string v.2.2] 26)
      have HY := Lib.hid (B3.start wr v.1 v.2.1 v.2.2)
      replace HB := Lib.hid (vnext HB.out la)
      clear la hhb
      go_upto_region 4 with fail
      generalize wr.alloc (.cells #[.int .u8 (v.1 : Int), .int .i64 v.2.1, .string v.2.2] 26) = wb at *
      obtain ⟨y0, y1, y2, _, _, _⟩ := HY.out.cells
      have hyl := HY.out.lt
      obtain ⟨A, hA⟩ : ∃ A, trues (L.take k) = A := ⟨_, rfl⟩
      rw [hA]
      rw [hA] at HST hbn
      clear hA
      go_wp2_with fail
      refine (HHO.out _).mono ?_
      rintro e w1 ⟨rfl, hB1⟩
      replace HB := Lib.hid (vnext HB.out hB1)
      clear hB1 c1 c2 c3 hbl y0 y1 y2 hyl
      go_wp2_with fail
      refine (clo_cnt A hbn hb _).mono ?_
      rintro e w2 ⟨rfl, rfl⟩
      go_wp2_with fail
      exact ⟨⟨k + 1, by omega, by go_num, by rw [HST.out]; first | done | rfl | simp, HB.out⟩, by simp [intOf]; omega⟩
    · have HE : Hid (trues (L.take k) = trues L) := by unfold Hid; rw [List.take_of_length_le (by rw [HNL.out]; omega)]
      rw [HE.out]
      go_wp2_with fail
      go_ret
      exact ⟨rfl, HB.out⟩
end Go.Proofs.YtdhahiodnmmkeaaGreatDoor.Va
/- flogic: the values of its functions, and Call (program). -/
namespace Go.Proofs.YtdhahiodnmmkeaaGreatDoor.Va
open Go Go.RowKit GM
set_option linter.unusedVariables false
set_option linter.unusedSimpArgs false
def blV : V3 := (0, 0, ⟨#[]⟩)
def trV (b : Bool) : V3 := (2, b2i b, ⟨#[]⟩)
/-- The value of a function of converted arguments. -/
def lgV (fn : Nat) (M : List V3) : V3 :=
  match fn with
  | 20 => if (M.getD 0 blV).2.1 = 1 then M.getD 1 blV else if M.length = 3 then M.getD 2 blV else trV false
  | 21 => trV (M.all hB)
  | 22 => trV (M.any hB)
  | 23 => trV (decide (trues M % 2 = 1))
  | 24 => trV (!(hB (M.getD 0 blV)))
  | 27 => trV (decide ((M.getD 0 blV).1 = 0))
  | 28 => trV (decide ((M.getD 0 blV).1 = 1))
  | 29 => trV (decide ((M.getD 0 blV).1 = 3))
  | _ => if (M.getD 0 blV).2.1.tdiv 10000 < 1 ∨ (M.length : Int) ≤ (M.getD 0 blV).2.1.tdiv 10000 then flV 2 else M.getD ((M.getD 0 blV).2.1.tdiv 10000).toNat blV
/-- flogic.Call's answer. -/
def callL (fn : Nat) (L : List V3) : V3 × Int :=
  if fn < 20 ∨ 30 < fn then (blV, 10)
  else if L.length < (arV fn).1 ∨ (arV fn).2 < L.length then (blV, 11)
  else if okL L = false then (blV, 2)
  else if fn = 25 then (if (L.getD 0 blV).1 = 4 then L.getD 1 blV else L.getD 0 blV, 0)
  else if fn = 26 then (trV (decide ((L.getD 0 blV).1 = 4)), 0)
  else match lgC fn 0 L [] with
    | .inr x => (x, 0)
    | .inl M => (lgV fn M, 0)
theorem getD_at {M : List V3} {k : Nat} (h : k < M.length) : M.getD k blV = M[k] := by rw [List.getD_eq_getElem?_getD, List.getElem?_eq_getElem h]; rfl
/-- Some of the list's end. -/
theorem isV_tail {w : World} {b off n : Nat} {L : List V3} (h : IsV w (some ⟨b, off, none⟩) n L) (k : Nat) (hk : k ≤ n) : IsV w (some ⟨b, off + k * 3, none⟩) (n - k) (L.drop k) := by
  refine ⟨by rw [List.length_drop, h.1], fun h0 => ?_⟩
  obtain ⟨b', off', e, hr⟩ := h.2 (by omega)
  cases e
  refine ⟨b, off + k * 3, rfl, hr.1, fun i hi j u hu => ?_⟩
  rw [List.length_drop] at hi
  rw [List.getElem_drop] at hu
  have := hr.2 (k + i) (by omega) j u hu
  rw [show off + k * 3 + i * 3 + j = off + (k + i) * 3 + j by rw [Nat.add_mul]; omega]
  exact this
def eitV (v : V3) (L : List V3) : V3 := if v.2.1 = 1 then L.getD 0 blV else if L.length < 2 then trV false else L.getD 1 blV
set_option maxHeartbeats 3200000 in
theorem either_any (v : V3) (a : Option Addr) (n cap : Nat) (L : List V3) (h1 : 1 ≤ n) (h2 : n ≤ 1000) (w : World) (hL : IsV w a n L) : Calls Tryz.prog 93 #[.agg #[.int .u8 (v.1 : Int), .int .i64 v.2.1, .string v.2.2], .slice a n cap] w fun e w' => e = .returned (vOf (eitV v L)) ∧ Below w.heap.size w w' := by
  have hx := B3.start (w.alloc (.cells #[.int .u8 (v.1 : Int), .int .i64 v.2.1, .string v.2.2] 26)) 0 0 ⟨#[]⟩
  rw [World.size_alloc] at hx
  have HX : Hid (B3 ((w.alloc (.cells #[.int .u8 (v.1 : Int), .int .i64 v.2.1, .string v.2.2] 26)).alloc (.cells #[.int .u8 0, .int .i64 0, .string ⟨#[]⟩] 26)) (w.heap.size + 1) 0 0 ⟨#[]⟩) := hx
  have HV := Lib.hid ((B3.start w v.1 v.2.1 v.2.2).later (valloc (w.alloc (.cells #[.int .u8 (v.1 : Int), .int .i64 v.2.1, .string v.2.2] 26)) (.cells #[.int .u8 0, .int .i64 0, .string ⟨#[]⟩] 26)))
  have HB := Lib.hid (vnext (valloc w (.cells #[.int .u8 (v.1 : Int), .int .i64 v.2.1, .string v.2.2] 26)) (valloc (w.alloc (.cells #[.int .u8 (v.1 : Int), .int .i64 v.2.1, .string v.2.2] 26)) (.cells #[.int .u8 0, .int .i64 0, .string ⟨#[]⟩] 26)))
  clear hx
  have HL := Lib.hid hL
  have hnl := hL.1
  have HHO := Lib.hid (fun W => holds_any v W)
  have HTR := Lib.hid (fun W => truth_any false W)
  rw [show b2i false = 0 from rfl] at HTR
  clear hL
  go_enter Tryz.func93, Tryz.ntmps93
  go_upto_region 1 with fail
  generalize (w.alloc (.cells #[.int .u8 (v.1 : Int), .int .i64 v.2.1, .string v.2.2] 26)).alloc (.cells #[.int .u8 0, .int .i64 0, .string ⟨#[]⟩] 26) = wa at *
  obtain ⟨y0, y1, y2, _, _, _⟩ := HV.out.cells
  have hyl := HV.out.lt
  go_wp2_with fail
  refine (HHO.out _).mono ?_
  rintro e w2 ⟨rfl, hB⟩
  replace HX := Lib.hid (HX.out.later hB)
  replace HB := Lib.hid (vnext HB.out hB)
  clear hB
  clear y0 y1 y2 hyl HV
  have hB : Below w2.heap.size w2 w2 := Below.refl _ _
  by_cases h : v.2.1 = 1
  · have HE : Hid (eitV v L = L.getD 0 blV) := if_pos h
    rw [decide_eq_true h]
    have h0 : 0 < L.length := by omega
    obtain ⟨b, off, rfl, hbl, c1, c2, c3⟩ := isV_at (IsOf.later HL.out HB.out) h0
    rw [getD_at h0] at HE
    rw [Nat.zero_mul, Nat.add_zero] at c1 c2 c3
    generalize L[0] = u at *
    obtain ⟨uk, un, us⟩ := u
    dsimp only at c1 c2 c3
    clear h
    have hX : B3 w2 (w.heap.size + 1) 0 0 ⟨#[]⟩ := HX.out.later hB
    have HBW := Lib.hid (vnext HB.out hB)
    obtain ⟨x0, x1, x2, z0, z1, z2⟩ := hX.cells
    have hXl := hX.lt
    obtain ⟨hq, hg⟩ := b3_set hX uk un us
    have hb5 := HBW.out.grown hg HBW.out.size (fun q hq => by injection hq with hq; omega)
    clear hB hg
    go_wp2_with fail
    generalize ((w2.setCell ⟨(w.heap.size + 1), 0, none⟩ (.int .u8 (uk : Int))).setCell ⟨(w.heap.size + 1), 1, none⟩ (.int .i64 un)).setCell ⟨(w.heap.size + 1), 2, none⟩ (.string us) = w5 at *
    obtain ⟨y0, y1, y2, _, _, _⟩ := hq.cells
    refine bodyPost_ret (v := .agg #[.int .u8 (uk : Int), .int .i64 un, .string us]) (by simp [results, Tryz.results93, go_sem, y0, y1, y2]) rfl ⟨by rw [HE.out]; rfl, hb5⟩
  · rw [decide_eq_false h]
    by_cases hn2 : n < 2
    · have HE : Hid (eitV v L = trV false) := by unfold Hid eitV; rw [if_neg h, if_pos (by omega)]
      have d1 : decide ((n : Int) < 2) = true := by simp; omega
      have d1' : decide (n < 2) = true := decide_eq_true hn2
      clear h hB
      go_wp2_with fail
      refine (HTR.out _).mono ?_
      rintro e w1 ⟨rfl, hB⟩
      have hX : B3 w1 (w.heap.size + 1) 0 0 ⟨#[]⟩ := HX.out.later hB
      have HBW := Lib.hid (vnext HB.out hB)
      obtain ⟨x0, x1, x2, z0, z1, z2⟩ := hX.cells
      have hXl := hX.lt
      obtain ⟨hq, hg⟩ := b3_set hX 2 0 ⟨#[]⟩
      have hb5 := HBW.out.grown hg HBW.out.size (fun q hq => by injection hq with hq; omega)
      clear hB hg
      go_wp2_with fail
      generalize ((w1.setCell ⟨(w.heap.size + 1), 0, none⟩ (.int .u8 2)).setCell ⟨(w.heap.size + 1), 1, none⟩ (.int .i64 0)).setCell ⟨(w.heap.size + 1), 2, none⟩ (.string ⟨#[]⟩) = w5 at *
      obtain ⟨y0, y1, y2, _, _, _⟩ := hq.cells
      refine bodyPost_ret (v := .agg #[.int .u8 2, .int .i64 0, .string ⟨#[]⟩]) (by simp [results, Tryz.results93, go_sem, y0, y1, y2]) rfl ⟨by rw [HE.out]; rfl, hb5⟩
    · have HE : Hid (eitV v L = L.getD 1 blV) := by unfold Hid eitV; rw [if_neg h, if_neg (by omega)]
      have d1 : decide ((n : Int) < 2) = false := by simp; omega
      have d1' : decide (n < 2) = false := decide_eq_false hn2
      have ix1 : (1 : Int) < (n : Int) := by omega
      have h0 : 1 < L.length := by omega
      obtain ⟨b, off, rfl, hbl, c1, c2, c3⟩ := isV_at (IsOf.later HL.out HB.out) h0
      rw [getD_at h0] at HE
      generalize L[1] = u at *
      obtain ⟨uk, un, us⟩ := u
      dsimp only at c1 c2 c3
      clear h
      have hX : B3 w2 (w.heap.size + 1) 0 0 ⟨#[]⟩ := HX.out.later hB
      have HBW := Lib.hid (vnext HB.out hB)
      obtain ⟨x0, x1, x2, z0, z1, z2⟩ := hX.cells
      have hXl := hX.lt
      obtain ⟨hq, hg⟩ := b3_set hX uk un us
      have hb5 := HBW.out.grown hg HBW.out.size (fun q hq => by injection hq with hq; omega)
      clear hB hg
      go_wp2_with fail
      generalize ((w2.setCell ⟨(w.heap.size + 1), 0, none⟩ (.int .u8 (uk : Int))).setCell ⟨(w.heap.size + 1), 1, none⟩ (.int .i64 un)).setCell ⟨(w.heap.size + 1), 2, none⟩ (.string us) = w5 at *
      obtain ⟨y0, y1, y2, _, _, _⟩ := hq.cells
      refine bodyPost_ret (v := .agg #[.int .u8 (uk : Int), .int .i64 un, .string us]) (by simp [results, Tryz.results93, go_sem, y0, y1, y2]) rfl ⟨by rw [HE.out]; rfl, hb5⟩
def choV (x : Int) (L : List V3) : V3 := if x.tdiv 10000 < 1 ∨ (L.length : Int) < x.tdiv 10000 then flV 2 else L.getD (x.tdiv 10000 - 1).toNat blV
/-- What fnum.Call(TRUNC, ..) makes of valid arguments. -/
def fourV (L : List V3) : V3 :=
  match nmR L [] with
  | .inr x => x
  | .inl M => mkV (truncZ (M.getD 0 0))
set_option maxRecDepth 100000 in
set_option maxHeartbeats 6400000 in
theorem one_4f (a : Option Addr) (cap : Nat) (L : List V3) (w : World) (hL : IsV w a 1 L) (hv : ∀ v ∈ L, v.2.2.size ≤ 2000 ∧ InI v.2.1) (hT : Tb w) : Calls Tryz.prog 74 #[.int .u8 4, .slice a 1 cap] w fun e w' => e = .returned (vOf (fourV L)) ∧ Below w.heap.size w w' := by
  have l1 := valloc w (.cells #[.int .u8 0, .int .i64 0, .string ⟨#[]⟩] 26)
  have l2 := valloc (w.alloc (.cells #[.int .u8 0, .int .i64 0, .string ⟨#[]⟩] 26)) (.cells #[.int .i64 0] 2)
  have l4 := valloc ((w.alloc (.cells #[.int .u8 0, .int .i64 0, .string ⟨#[]⟩] 26)).alloc (.cells #[.int .i64 0] 2)) (.cells #[.pointer (some ⟨w.heap.size + 1, 0, none⟩)] 60)
  have HB := Lib.hid (show Below w.heap.size w (((w.alloc (.cells #[.int .u8 0, .int .i64 0, .string ⟨#[]⟩] 26)).alloc (.cells #[.int .i64 0] 2)).alloc (.cells #[.pointer (some ⟨w.heap.size + 1, 0, none⟩)] 60)) from (vnext (vnext l1 l2) l4))
  have HX := Lib.hid (show B3 (((w.alloc (.cells #[.int .u8 0, .int .i64 0, .string ⟨#[]⟩] 26)).alloc (.cells #[.int .i64 0] 2)).alloc (.cells #[.pointer (some ⟨w.heap.size + 1, 0, none⟩)] 60)) w.heap.size 0 0 ⟨#[]⟩ from ((B3.start w 0 0 ⟨#[]⟩).later l2).later l4)
  have f1 : (((w.alloc (.cells #[.int .u8 0, .int .i64 0, .string ⟨#[]⟩] 26)).alloc (.cells #[.int .i64 0] 2)).alloc (.cells #[.pointer (some ⟨w.heap.size + 1, 0, none⟩)] 60)).heap[w.heap.size + 1]? = some (.cells #[.int .i64 0] 2) := by
    have h : ((w.alloc (.cells #[.int .u8 0, .int .i64 0, .string ⟨#[]⟩] 26)).alloc (.cells #[.int .i64 0] 2)).heap[w.heap.size + 1]? = some (.cells #[.int .i64 0] 2) := by have := World.alloc_heap_new (w.alloc (.cells #[.int .u8 0, .int .i64 0, .string ⟨#[]⟩] 26)) (.cells #[.int .i64 0] 2); rwa [World.size_alloc] at this
    exact (l4.block _ (by simp)).trans h
  have HF := Lib.hid (filP_nil (((w.alloc (.cells #[.int .u8 0, .int .i64 0, .string ⟨#[]⟩] 26)).alloc (.cells #[.int .i64 0] 2)).alloc (.cells #[.pointer (some ⟨w.heap.size + 1, 0, none⟩)] 60)) [w.heap.size + 1] (by intro p hp; simp at hp; subst hp; exact f1))
  have HQ : Hid (QP [w.heap.size + 1] (w.heap.size + 1 + 1) (((w.alloc (.cells #[.int .u8 0, .int .i64 0, .string ⟨#[]⟩] 26)).alloc (.cells #[.int .i64 0] 2)).alloc (.cells #[.pointer (some ⟨w.heap.size + 1, 0, none⟩)] 60))) := ⟨by simp, fun j hj => by
    obtain rfl : j = 0 := by have : j < 1 := hj; omega
    have : (((w.alloc (.cells #[.int .u8 0, .int .i64 0, .string ⟨#[]⟩] 26)).alloc (.cells #[.int .i64 0] 2)).alloc (.cells #[.pointer (some ⟨w.heap.size + 1, 0, none⟩)] 60)).cell? ⟨((w.alloc (.cells #[.int .u8 0, .int .i64 0, .string ⟨#[]⟩] 26)).alloc (.cells #[.int .i64 0] 2)).heap.size, 0, none⟩ = some (.pointer (some ⟨w.heap.size + 1, 0, none⟩)) := (World.cell?_alloc_at _ _ _ 0 rfl).trans rfl
    rwa [World.size_alloc, World.size_alloc] at this⟩
  have hnl := hL.1
  have HFL := Lib.hid (fun W hB hQ hF hP => fill_any w a 1 cap (w.heap.size + 1 + 1) w.heap.size L [w.heap.size + 1] rfl (by simp) (by decide) hL hv hT (by intro p hp; simp at hp; omega) W hB hQ (by intro p hp; simp at hp; omega) hF hP)
  have HNM := Lib.hid (fun M h => nm_one (L := L) (M := M) hnl hv h)
  have HR : Hid (fourV L = match nmR L [] with | .inr x => x | .inl M => mkV (truncZ (M.getD 0 0))) := rfl
  generalize nmR L [] = R at *
  clear hL hv hT hnl l1 l2 l4 f1
  go_enter Tryz.func74, Tryz.ntmps74
  go_wp2_with fail
  generalize ((w.alloc (.cells #[.int .u8 0, .int .i64 0, .string ⟨#[]⟩] 26)).alloc (.cells #[.int .i64 0] 2)).alloc (.cells #[.pointer (some ⟨w.heap.size + 1, 0, none⟩)] 60) = wa at *
  refine (HFL.out wa HB.out HQ.out HF.out HX.out).mono ?_
  rintro e w1 ⟨hR, hB1, hP1, _⟩
  replace HB := Lib.hid hB1
  replace HX := Lib.hid hP1
  clear hB1 hP1 HFL HF HQ
  unfold FlP at hR
  cases R with
  | inr x =>
    obtain ⟨xk, xn, xs⟩ := x
    dsimp only at hR
    subst hR
    have HE : Hid (fourV L = (xk, xn, xs)) := HR.out
    have HY := Lib.hid (B3.start w1 xk xn xs)
    have l4 := valloc w1 (.cells #[.int .u8 (xk : Int), .int .i64 xn, .string xs] 26)
    replace HX := Lib.hid (HX.out.later l4)
    replace HB := Lib.hid (vnext HB.out l4)
    clear l4
    go_upto_region 3 with fail
    generalize w1.alloc (.cells #[.int .u8 (xk : Int), .int .i64 xn, .string xs] 26) = w4 at *
    obtain ⟨y0, y1, y2, _, _, _⟩ := HY.out.cells
    have hyl := HY.out.lt
    have hB : Below w4.heap.size w4 w4 := Below.refl _ _
    have hX : B3 w4 w.heap.size 0 0 ⟨#[]⟩ := HX.out.later hB
    have HBW := Lib.hid (vnext HB.out hB)
    obtain ⟨x0, x1, x2, z0, z1, z2⟩ := hX.cells
    have hXl := hX.lt
    obtain ⟨hq, hg⟩ := b3_set hX xk xn xs
    have hb5 := HBW.out.grown hg HBW.out.size (fun q hq => by injection hq with hq; omega)
    clear hB hg
    go_wp2_with fail
    generalize ((w4.setCell ⟨w.heap.size, 0, none⟩ (.int .u8 (xk : Int))).setCell ⟨w.heap.size, 1, none⟩ (.int .i64 xn)).setCell ⟨w.heap.size, 2, none⟩ (.string xs) = w5 at *
    obtain ⟨y0, y1, y2, _, _, _⟩ := hq.cells
    refine bodyPost_ret (v := .agg #[.int .u8 (xk : Int), .int .i64 xn, .string xs]) (by simp [results, Tryz.results74, go_sem, y0, y1, y2]) rfl ⟨by rw [HE.out]; rfl, hb5⟩
  | inl M =>
    obtain ⟨rfl, hF1⟩ := hR
    obtain ⟨x, rfl, hx1, hx2⟩ := HNM.out M rfl
    have l4 := valloc w1 (.cells #[.int .u8 0, .int .i64 0, .string ⟨#[]⟩] 26)
    have HF := Lib.hid (hF1.later l4)
    replace HX := Lib.hid (HX.out.later l4)
    replace HB := Lib.hid (vnext HB.out l4)
    have HE : Hid (fourV L = mkV (truncZ x)) := HR.out
    clear l4 hF1 HNM HR
    go_upto_region 3 with fail
    generalize w1.alloc (.cells #[.int .u8 0, .int .i64 0, .string ⟨#[]⟩] 26) = wa at *
    obtain ⟨i1, i2, _⟩ := HF.out.at_ (j := 0) (by simp)
    have i3 : wa.cell? ⟨w.heap.size + 1, 0, none⟩ = some (.int .i64 x) := i2
    have i4 : w.heap.size + 1 < wa.heap.size := i1
    clear i1 i2
    clear HF
    go_wp2_with fail
    refine (trunc_any x ⟨by omega, hx2⟩ _).mono ?_
    rintro e w9 ⟨rfl, rfl⟩
    go_wp2_with fail
    have HV := Lib.hid (fun W => make_any (truncZ x) W)
    have HV : Hid (∀ W, Calls Tryz.prog 101 #[.int .i64 (truncZ x)] W fun e w' => e = .returned (vOf (mkV (truncZ x))) ∧ Below W.heap.size W w') := HV
    generalize hvv : mkV (truncZ x) = vv at HV
    have HVV := Lib.hid hvv
    clear hvv
    obtain ⟨vk, vn, vs⟩ := vv
    unfold vOf at HV
    dsimp only at HV
    refine (HV.out _).mono ?_
    rintro e w1 ⟨rfl, hB⟩
    have hX : B3 w1 w.heap.size 0 0 ⟨#[]⟩ := HX.out.later hB
    have HBW := Lib.hid (vnext HB.out hB)
    obtain ⟨x0, x1, x2, z0, z1, z2⟩ := hX.cells
    have hXl := hX.lt
    obtain ⟨hq, hg⟩ := b3_set hX vk vn vs
    have hb5 := HBW.out.grown hg HBW.out.size (fun q hq => by injection hq with hq; omega)
    clear hB hg
    go_wp2_with fail
    generalize ((w1.setCell ⟨w.heap.size, 0, none⟩ (.int .u8 (vk : Int))).setCell ⟨w.heap.size, 1, none⟩ (.int .i64 vn)).setCell ⟨w.heap.size, 2, none⟩ (.string vs) = w5 at *
    obtain ⟨y0, y1, y2, _, _, _⟩ := hq.cells
    refine bodyPost_ret (v := .agg #[.int .u8 (vk : Int), .int .i64 vn, .string vs]) (by simp [results, Tryz.results74, go_sem, y0, y1, y2]) rfl ⟨by rw [HE.out, HVV.out]; rfl, hb5⟩
set_option maxRecDepth 100000 in
set_option maxHeartbeats 6400000 in
theorem pfnum_four (a : Option Addr) (cap : Nat) (L : List V3) (w : World) (hL : IsV w a 1 L) (hv : ∀ v ∈ L, v.2.2.size ≤ 2000 ∧ InI v.2.1) (hok : okL L = true) (hT : Tb w) :
    Calls Tryz.prog 30 #[.int .u8 4, .slice a 1 cap] w fun e w' => e = .returned (.tuple #[vOf (fourV L), .int .i64 0]) ∧ Below w.heap.size w w' := by
  have HX : Hid (B3 (w.alloc (.cells #[.int .u8 0, .int .i64 0, .string ⟨#[]⟩] 26)) w.heap.size 0 0 ⟨#[]⟩) := B3.start w 0 0 ⟨#[]⟩
  have HB := Lib.hid (valloc w (.cells #[.int .u8 0, .int .i64 0, .string ⟨#[]⟩] 26))
  have HL := Lib.hid hL
  have HNL := Lib.hid hL.1
  have HT := Lib.hid hT
  have HV := Lib.hid hv
  have HVA := Lib.hid (fun W hW => pvalid_any a 1 cap L (by omega) W hW (fun v h => ⟨Nat.le_trans (hv v h).1 (by unfold maxLen; decide), by have := (hv v h).2; unfold InI at this; unfold leastI; omega⟩))
  rw [hok] at HVA
  have HAR := Lib.hid (fun W => par_4 W)
  have HON := Lib.hid (fun W hW hT => one_4f a cap L W hW HV.out hT)
  obtain ⟨⟨vk, vn, vs⟩, hr⟩ : ∃ r, fourV L = r := ⟨_, rfl⟩
  rw [hr] at HON
  rw [hr]
  unfold vOf at HON
  dsimp only at HON
  clear hL hT hv HV hr hok
  go_enter Tryz.func30, Tryz.ntmps30
  go_wp2_with fail
  generalize w.alloc (.cells #[.int .u8 0, .int .i64 0, .string ⟨#[]⟩] 26) = wa at *
  refine (HAR.out _).mono ?_
  rintro e w1 ⟨rfl, hB⟩
  replace HX := Lib.hid (HX.out.later hB)
  replace HB := Lib.hid (vnext HB.out hB)
  clear hB
  go_wp2_with fail
  refine (HVA.out _ (IsOf.later HL.out HB.out)).mono ?_
  rintro e w2 ⟨rfl, hB⟩
  replace HX := Lib.hid (HX.out.later hB)
  replace HB := Lib.hid (vnext HB.out hB)
  clear hB
  go_wp2_with fail
  refine (HON.out _ (IsOf.later HL.out HB.out) (HT.out.later HB.out)).mono ?_
  rintro e w3 ⟨rfl, hB⟩
  replace HX := Lib.hid (HX.out.later hB)
  replace HB := Lib.hid (vnext HB.out hB)
  clear hB
  obtain ⟨x0, x1, x2, z0, z1, z2⟩ := HX.out.cells
  have hXl := HX.out.lt
  obtain ⟨hq, hg⟩ := b3_set HX.out vk vn vs
  have hb5 := HB.out.grown hg HB.out.size (fun q hq => by injection hq with hq; omega)
  clear hg
  go_wp2_with fail
  generalize ((w3.setCell ⟨w.heap.size, 0, none⟩ (.int .u8 (vk : Int))).setCell ⟨w.heap.size, 1, none⟩ (.int .i64 vn)).setCell ⟨w.heap.size, 2, none⟩ (.string vs) = w5 at *
  obtain ⟨v0, v1, v2, _, _, _⟩ := hq.cells
  refine bodyPost_ret (v := .tuple #[.agg #[.int .u8 (vk : Int), .int .i64 vn, .string vs], .int .i64 0]) (by simp [results, Tryz.results30, go_sem, v0, v1, v2]) rfl ⟨rfl, hb5⟩
theorem four_any (x : Int) (h1 : -9223372036854775808 < x) (h2 : x ≤ 9223372036854775807) (a : Option Addr) (cap : Nat) (w : World) (hL : IsV w a 1 [(1, x, ⟨#[]⟩)]) (hT : Tb w) :
    Calls Tryz.prog 30 #[.int .u8 4, .slice a 1 cap] w fun e w' => e = .returned (.tuple #[vOf (1, truncZ x, ⟨#[]⟩), .int .i64 0]) ∧ Below w.heap.size w w' := by
  have hv : vldV 1 x [] = true := by
    unfold vldV leastI
    simp
    omega
  have hk : okL [(1, x, ⟨#[]⟩)] = true := by
    simp [okL, vE, hv]
  have hc : c1V (1, x, ⟨#[]⟩) = (1, x, ⟨#[]⟩) := by
    simp [c1V, cvR, vE, hv]
  have hn : nmR [(1, x, ⟨#[]⟩)] [] = .inl [x] := by
    unfold nmR
    rw [hc]
    rfl
  have ht2 : ¬ truncZ x = leastI := by
    have ht := (trunc_bd (a := x) ⟨by omega, h2⟩)
    unfold leastI truncZ
    have := Int.tdiv_mul_add_tmod x 10000
    have := Int.tmod_lt_of_pos x (show (0 : Int) < 10000 by decide)
    have := neg_lt_tmod x (show (0 : Int) < 10000 by decide)
    omega
  have hf : fourV [(1, x, ⟨#[]⟩)] = (1, truncZ x, ⟨#[]⟩) := by
    unfold fourV
    rw [hn]
    show mkV (truncZ x) = _
    unfold mkV mkK mkN
    rw [if_neg ht2, if_neg ht2]
  have := pfnum_four a cap [(1, x, ⟨#[]⟩)] w hL (fun v hv => by rw [List.mem_singleton.1 hv]; exact ⟨show (⟨#[]⟩ : ByteArray).size ≤ 2000 by decide, by unfold InI; dsimp only; omega⟩) hk hT
  rwa [hf] at this
set_option maxRecDepth 100000 in
set_option maxHeartbeats 6400000 in
theorem chosen_any (x : Int) (h1 : -9223372036854775808 < x) (h2 : x ≤ 9223372036854775807) (a : Option Addr) (n cap : Nat) (L : List V3) (hn : n ≤ 1000) (w : World) (hL : IsV w a n L) (hT : Tb w) : Calls Tryz.prog 99 #[.agg #[.int .u8 1, .int .i64 x, .string ⟨#[]⟩], .slice a n cap] w fun e w' => e = .returned (vOf (choV x L)) ∧ Below w.heap.size w w' := by
  have HE : Hid (choV x L = if x.tdiv 10000 < 1 ∨ (L.length : Int) < x.tdiv 10000 then flV 2 else L.getD (x.tdiv 10000 - 1).toNat blV) := rfl
  have HFN := Lib.hid (fun a cap W (hB : Below w.heap.size w W) (hI : IsV W a 1 [(1, x, ⟨#[]⟩)]) => four_any x h1 h2 a cap W hI (hT.later hB))
  unfold vOf at HFN
  dsimp only at HFN
  have htd := trunc_div x
  have hqi := tq_bd (a := x) ⟨by omega, h2⟩
  have HL := Lib.hid hL
  have hnl := hL.1
  generalize truncZ x = t at *
  have hqw : IntKind.i64.wrap (t.tdiv 10000) = t.tdiv 10000 := IntWalk.i64_in _ (by rw [htd]; unfold InI at hqi; omega)
  rw [← htd] at HE hqi
  clear hL hT htd
  have hx := B3.start (w.alloc (.cells #[.int .u8 1, .int .i64 x, .string ⟨#[]⟩] 26)) 0 0 ⟨#[]⟩
  rw [World.size_alloc] at hx
  have HX : Hid (B3 ((w.alloc (.cells #[.int .u8 1, .int .i64 x, .string ⟨#[]⟩] 26)).alloc (.cells #[.int .u8 0, .int .i64 0, .string ⟨#[]⟩] 26)) (w.heap.size + 1) 0 0 ⟨#[]⟩) := hx
  have HV := Lib.hid ((B3.start w 1 x ⟨#[]⟩).later (valloc (w.alloc (.cells #[.int .u8 1, .int .i64 x, .string ⟨#[]⟩] 26)) (.cells #[.int .u8 0, .int .i64 0, .string ⟨#[]⟩] 26)))
  have HB := Lib.hid (vnext (valloc w (.cells #[.int .u8 1, .int .i64 x, .string ⟨#[]⟩] 26)) (valloc (w.alloc (.cells #[.int .u8 1, .int .i64 x, .string ⟨#[]⟩] 26)) (.cells #[.int .u8 0, .int .i64 0, .string ⟨#[]⟩] 26)))
  clear hx
  go_enter Tryz.func99, Tryz.ntmps99
  go_upto_region 1 with fail
  generalize (w.alloc (.cells #[.int .u8 1, .int .i64 x, .string ⟨#[]⟩] 26)).alloc (.cells #[.int .u8 0, .int .i64 0, .string ⟨#[]⟩] 26) = wa at *
  obtain ⟨y0, y1, y2, _, _, _⟩ := HV.out.cells
  have hyl := HV.out.lt
  have HI := Lib.hid (isOf_new (c := cellsV) (n := 3) wa #[.int .u8 1, .int .i64 x, .string ⟨#[]⟩] 26 (1, x, ⟨#[]⟩) rfl)
  have la := valloc wa (.cells #[.int .u8 1, .int .i64 x, .string ⟨#[]⟩] 26)
  replace HX := Lib.hid (HX.out.later la)
  replace HB := Lib.hid (vnext HB.out la)
  clear la HV
  go_wp2_with fail
  refine (HFN.out _ _ _ HB.out HI.out).mono ?_
  rintro e w1 ⟨rfl, hB1⟩
  have hB2 := vnext hB1 (valloc w1 (.cells #[.int .u8 1, .int .i64 t, .string ⟨#[]⟩] 26))
  replace HX := Lib.hid (HX.out.later hB2)
  replace HB := Lib.hid (vnext HB.out hB2)
  have HY := Lib.hid (B3.start w1 1 t ⟨#[]⟩)
  clear hB1 hB2 HI HFN y0 y1 y2 hyl
  go_upto_region 2 with fail
  generalize w1.alloc (.cells #[.int .u8 1, .int .i64 t, .string ⟨#[]⟩] 26) = w2 at *
  obtain ⟨y0, y1, y2, _, _, _⟩ := HY.out.cells
  have hyl := HY.out.lt
  obtain ⟨q, hq⟩ : ∃ q, t.tdiv 10000 = q := ⟨_, rfl⟩
  rw [hq] at HE hqi hqw
  have hB : Below w2.heap.size w2 w2 := Below.refl _ _
  by_cases g1 : q < 1
  · have HE2 : Hid (choV x L = flV 2) := by unfold Hid; rw [HE.out, if_pos (.inl g1)]
    have d1 : decide (q < 1) = true := decide_eq_true g1
    clear HE hB
    go_wp2_with fail
    refine (fail_any 2 _).mono ?_
    rw [show flN 2 = 2 from rfl]
    rintro e w1 ⟨rfl, hB⟩
    have hX : B3 w1 (w.heap.size + 1) 0 0 ⟨#[]⟩ := HX.out.later hB
    have HBW := Lib.hid (vnext HB.out hB)
    obtain ⟨x0, x1, x2, z0, z1, z2⟩ := hX.cells
    have hXl := hX.lt
    obtain ⟨hq, hg⟩ := b3_set hX 4 2 ⟨#[]⟩
    have hb5 := HBW.out.grown hg HBW.out.size (fun q hq => by injection hq with hq; omega)
    clear hB hg
    go_wp2_with fail
    generalize ((w1.setCell ⟨(w.heap.size + 1), 0, none⟩ (.int .u8 4)).setCell ⟨(w.heap.size + 1), 1, none⟩ (.int .i64 2)).setCell ⟨(w.heap.size + 1), 2, none⟩ (.string ⟨#[]⟩) = w5 at *
    obtain ⟨y0, y1, y2, _, _, _⟩ := hq.cells
    refine bodyPost_ret (v := .agg #[.int .u8 4, .int .i64 2, .string ⟨#[]⟩]) (by simp [results, Tryz.results99, go_sem, y0, y1, y2]) rfl ⟨by rw [HE2.out]; rfl, hb5⟩
  · have d1 : decide (q < 1) = false := decide_eq_false g1
    by_cases g2 : (n : Int) < q
    · have HE2 : Hid (choV x L = flV 2) := by unfold Hid; rw [HE.out, if_pos (.inr (by omega))]
      have d2 : decide ((n : Int) < q) = true := decide_eq_true g2
      clear HE hB
      go_wp2_with fail
      refine (fail_any 2 _).mono ?_
      rw [show flN 2 = 2 from rfl]
      rintro e w1 ⟨rfl, hB⟩
      have hX : B3 w1 (w.heap.size + 1) 0 0 ⟨#[]⟩ := HX.out.later hB
      have HBW := Lib.hid (vnext HB.out hB)
      obtain ⟨x0, x1, x2, z0, z1, z2⟩ := hX.cells
      have hXl := hX.lt
      obtain ⟨hq, hg⟩ := b3_set hX 4 2 ⟨#[]⟩
      have hb5 := HBW.out.grown hg HBW.out.size (fun q hq => by injection hq with hq; omega)
      clear hB hg
      go_wp2_with fail
      generalize ((w1.setCell ⟨(w.heap.size + 1), 0, none⟩ (.int .u8 4)).setCell ⟨(w.heap.size + 1), 1, none⟩ (.int .i64 2)).setCell ⟨(w.heap.size + 1), 2, none⟩ (.string ⟨#[]⟩) = w5 at *
      obtain ⟨y0, y1, y2, _, _, _⟩ := hq.cells
      refine bodyPost_ret (v := .agg #[.int .u8 4, .int .i64 2, .string ⟨#[]⟩]) (by simp [results, Tryz.results99, go_sem, y0, y1, y2]) rfl ⟨by rw [HE2.out]; rfl, hb5⟩
    · have d2 : decide ((n : Int) < q) = false := decide_eq_false g2
      obtain ⟨j, hj⟩ : ∃ j : Nat, q - 1 = j := ⟨(q - 1).toNat, by omega⟩
      have HE2 : Hid (choV x L = L.getD j blV) := by unfold Hid; rw [HE.out, if_neg (by omega), hj]; rfl
      have hjw : IntKind.i64.wrap (q - 1) = (j : Int) := by rw [← hj]; exact IntWalk.i64_in _ (by omega)
      have h0 : j < L.length := by omega
      have hjn : j < n := by omega
      have hji : (j : Int) < (n : Int) := by omega
      obtain ⟨b, off, rfl, hbl, c1, c2, c3⟩ := isV_at (IsOf.later HL.out HB.out) h0
      rw [getD_at h0] at HE2
      generalize L[j] = u at *
      obtain ⟨uk, un, us⟩ := u
      dsimp only at c1 c2 c3
      clear HE hj
      have hX : B3 w2 (w.heap.size + 1) 0 0 ⟨#[]⟩ := HX.out.later hB
      have HBW := Lib.hid (vnext HB.out hB)
      obtain ⟨x0, x1, x2, z0, z1, z2⟩ := hX.cells
      have hXl := hX.lt
      obtain ⟨hq, hg⟩ := b3_set hX uk un us
      have hb5 := HBW.out.grown hg HBW.out.size (fun q hq => by injection hq with hq; omega)
      clear hB hg
      go_wp2_with fail
      generalize ((w2.setCell ⟨(w.heap.size + 1), 0, none⟩ (.int .u8 (uk : Int))).setCell ⟨(w.heap.size + 1), 1, none⟩ (.int .i64 un)).setCell ⟨(w.heap.size + 1), 2, none⟩ (.string us) = w5 at *
      obtain ⟨y0, y1, y2, _, _, _⟩ := hq.cells
      refine bodyPost_ret (v := .agg #[.int .u8 (uk : Int), .int .i64 un, .string us]) (by simp [results, Tryz.results99, go_sem, y0, y1, y2]) rfl ⟨by rw [HE2.out]; rfl, hb5⟩
end Go.Proofs.YtdhahiodnmmkeaaGreatDoor.Va
