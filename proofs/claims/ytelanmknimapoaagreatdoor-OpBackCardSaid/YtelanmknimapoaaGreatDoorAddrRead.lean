import Derived.Test.YtelanmknimapoaaGreatDoorMgf
import Derived.RegionTactic
import Derived.BigRegion
import Derived.StillTailTactics
import Derived.Deep.DeepCutAuto
namespace Go.Proofs.YtelanmknimapoaaGreatDoor.Re
open Go.RowKit AM
def Wd (w : World) (b : Nat) (n1 n2 v1 v2 : Int) : Prop :=
 b + 1 < w.heap.size ∧ w.cell? ⟨b, 0, none⟩ = some (.int .i64 0) ∧ w.cell? ⟨b, 1, none⟩ = some (.int .i64 n1) ∧ w.cell? ⟨b, 2, none⟩ = some (.int .i64 n2) ∧
 w.cell? ⟨b, 3, none⟩ = some (.int .i64 0) ∧ w.cell? ⟨b, 4, none⟩ = some (.int .i64 v1) ∧ w.cell? ⟨b, 5, none⟩ = some (.int .i64 v2) ∧
 w.cell? ⟨b + 1, 1, none⟩ = some (.int .i64 26) ∧ w.cell? ⟨b + 1, 2, none⟩ = some (.int .i64 10) ∧
 (∀ o, w.frozen? ⟨b, o, none⟩ = false)
theorem Wd.let1 {w : World} {b : Nat} {n1 n2 v1 v2 : Int} (h : Wd w b n1 n2 v1 v2) (x y : Int) :
 Wd ((w.setCell ⟨b, 1, none⟩ (.int .i64 x)).setCell ⟨b, 4, none⟩ (.int .i64 y)).drew b x n2 y v2 := by
 obtain ⟨h, h0, h1, h2, h3, h4, h5, h6, h7, hf⟩ := h
 have k4 : (w.setCell ⟨b, 1, none⟩ (.int .i64 x)).cell? ⟨b, 4, none⟩ = some (.int .i64 v1) := by rw [World.cell?_setCell_other _ _ _ _ (by simp)]; exact h4
 have k1 : (w.setCell ⟨b, 1, none⟩ (.int .i64 x)).cell? ⟨b, 1, none⟩ = some (.int .i64 x) := World.cell?_setCell_same _ _ _ h1
 refine ⟨by simpa using h, ?_, ?_, ?_, ?_, World.cell?_setCell_same _ _ _ k4, ?_, ?_, ?_, fun o => by simpa using hf o⟩
 all_goals (refine (World.cell?_setCell_other _ _ _ _ (by simp)).trans ?_)
 · exact (World.cell?_setCell_other _ _ _ _ (by simp)).trans h0
 · exact k1
 all_goals (refine (World.cell?_setCell_other _ _ _ _ (by simp)).trans ?_; assumption)
theorem Wd.let2 {w : World} {b : Nat} {n1 n2 v1 v2 : Int} (h : Wd w b n1 n2 v1 v2) (x y : Int) :
 Wd ((w.setCell ⟨b, 2, none⟩ (.int .i64 x)).setCell ⟨b, 5, none⟩ (.int .i64 y)).drew b n1 x v1 y := by
 obtain ⟨h, h0, h1, h2, h3, h4, h5, h6, h7, hf⟩ := h
 have k5 : (w.setCell ⟨b, 2, none⟩ (.int .i64 x)).cell? ⟨b, 5, none⟩ = some (.int .i64 v2) := by rw [World.cell?_setCell_other _ _ _ _ (by simp)]; exact h5
 have k2 : (w.setCell ⟨b, 2, none⟩ (.int .i64 x)).cell? ⟨b, 2, none⟩ = some (.int .i64 x) := World.cell?_setCell_same _ _ _ h2
 refine ⟨by simpa using h, ?_, ?_, ?_, ?_, ?_, World.cell?_setCell_same _ _ _ k5, ?_, ?_, fun o => by simpa using hf o⟩
 all_goals (refine (World.cell?_setCell_other _ _ _ _ (by simp)).trans ?_)
 · exact (World.cell?_setCell_other _ _ _ _ (by simp)).trans h0
 · exact (World.cell?_setCell_other _ _ _ _ (by simp)).trans h1
 · exact k2
 all_goals (refine (World.cell?_setCell_other _ _ _ _ (by simp)).trans ?_; assumption)
theorem Wd.six {w0 w : World} {b : Nat} {n1 n2 v1 v2 : Int} (h : Wd w b n1 n2 v1 v2) (hB : Below b w0 w) (a0 a1 a2 a3 a4 a5 : Value) :
 let W := (((((w.setCell ⟨b, 0, none⟩ a0).setCell ⟨b, 1, none⟩ a1).setCell ⟨b, 2, none⟩ a2).setCell ⟨b, 3, none⟩ a3).setCell ⟨b, 4, none⟩ a4).setCell ⟨b, 5, none⟩ a5
 W.cell? ⟨b, 0, none⟩ = some a0 ∧ W.cell? ⟨b, 1, none⟩ = some a1 ∧ W.cell? ⟨b, 2, none⟩ = some a2 ∧ W.cell? ⟨b, 3, none⟩ = some a3 ∧ W.cell? ⟨b, 4, none⟩ = some a4 ∧ W.cell? ⟨b, 5, none⟩ = some a5 ∧ Below b w0 W := by
 obtain ⟨_, h0, h1, h2, h3, h4, h5, _, _, _⟩ := h
 have o : ∀ (w : World) (i j : Nat) (x v : Value), i ≠ j → w.cell? ⟨b, i, none⟩ = some v → (w.setCell ⟨b, j, none⟩ x).cell? ⟨b, i, none⟩ = some v := fun w i j x v hij hv => by
  rw [World.cell?_setCell_other _ _ _ _ (by simp)]; exact hv
 have s := fun (w : World) (i : Nat) (x v : Value) (hv : w.cell? ⟨b, i, none⟩ = some v) => World.cell?_setCell_same w ⟨b, i, none⟩ x hv
 dsimp only
 refine ⟨?_, ?_, ?_, ?_, ?_, ?_, (((((hB.setCell (by simp) _).setCell (by simp) _).setCell (by simp) _).setCell (by simp) _).setCell (by simp) _).setCell (by simp) _⟩
 · exact o _ _ _ _ _ (by decide) (o _ _ _ _ _ (by decide) (o _ _ _ _ _ (by decide) (o _ _ _ _ _ (by decide) (o _ _ _ _ _ (by decide) (s _ _ _ _ h0)))))
 · exact o _ _ _ _ _ (by decide) (o _ _ _ _ _ (by decide) (o _ _ _ _ _ (by decide) (o _ _ _ _ _ (by decide) (s _ _ _ _ (o _ _ _ _ _ (by decide) h1)))))
 · exact o _ _ _ _ _ (by decide) (o _ _ _ _ _ (by decide) (o _ _ _ _ _ (by decide) (s _ _ _ _ (o _ _ _ _ _ (by decide) (o _ _ _ _ _ (by decide) h2)))))
 · exact o _ _ _ _ _ (by decide) (o _ _ _ _ _ (by decide) (s _ _ _ _ (o _ _ _ _ _ (by decide) (o _ _ _ _ _ (by decide) (o _ _ _ _ _ (by decide) h3)))))
 · exact o _ _ _ _ _ (by decide) (s _ _ _ _ (o _ _ _ _ _ (by decide) (o _ _ _ _ _ (by decide) (o _ _ _ _ _ (by decide) (o _ _ _ _ _ (by decide) h4)))))
 · exact s _ _ _ _ (o _ _ _ _ _ (by decide) (o _ _ _ _ _ (by decide) (o _ _ _ _ _ (by decide) (o _ _ _ _ _ (by decide) (o _ _ _ _ _ (by decide) h5)))))
def zee (n1 n2 v1 v2 : Int) : Value := .agg #[.int .i64 0, .int .i64 n1, .int .i64 n2, .int .i64 0, .int .i64 v1, .int .i64 v2]
def rdR (l : List UInt8) : Value :=
 match rd l with
 | none => .tuple #[zee 0 0 0 0, .bool false]
 | some t => .tuple #[zee t.n1 t.n2 t.v1 t.v2, .bool true]
theorem zq2 {l : List UInt8} (h : rd l = none) : rdR l = .tuple #[zee 0 0 0 0, .bool false] := by unfold rdR; rw [h]
theorem zu2 {l : List UInt8} {t : St} (h : rd l = some t) : rdR l = .tuple #[zee t.n1 t.n2 t.v1 t.v2, .bool true] := by unfold rdR; rw [h]
theorem take_snoc (s : ByteArray) (k : Nat) (h : k < s.size) : s.data.toList.take (k + 1) = s.data.toList.take k ++ [s[k]'h] := by
 rw [List.take_succ_eq_append_getElem (by simpa using h)]; rfl
theorem zl3 (s : ByteArray) (k : Nat) (hn : rd (s.data.toList.take (k + 1)) = none) : rd s.data.toList = none := by
 rw [← List.take_append_drop (k + 1) s.data.toList]; exact ycg _ _ hn
set_option maxRecDepth 100000 in
set_option maxHeartbeats 1600000 in
theorem read_any (s : ByteArray) (hs : s.size ≤ 2000) (w : World) :
 Calls Tryz.prog 126 #[.string s] w fun e w' => e = .returned (rdR s.data.toList) ∧ Below w.heap.size w w' := by
 go_enter Tryz.func126, Tryz.ntmps126
 go_wp2_with fail
 go_loopw [5, 13] (fun u i wr => ∃ (k : Nat) (t : St), k ≤ s.size ∧ rd (s.data.toList.take k) = some t ∧ u = .int .i64 t.last ∧ i = .int .i64 k ∧ Wd wr w.heap.size t.n1 t.n2 t.v1 t.v2 ∧ Below w.heap.size w wr) (fun _ i _ => s.size - (intOf i).toNat)
 case atStart =>
  refine ⟨0, s0, by omega, rfl, rfl, rfl, ⟨by simp, by simp, by simp [s0], by simp [s0], by simp, by simp [s0], by simp [s0], by simp, by simp, fun o => by simp⟩, ?_⟩
  exact ((Below.refl _ _).alloc (Nat.le_refl _) _).alloc (by simp) _
 case round =>
  obtain ⟨k, t, hk, ht, rfl, rfl, hW, hB⟩ := hrel
  have HT := Lib.hid ht
  have HB := Lib.hid hB
  have HW := Lib.hid hW
  have hok := yhq _ _ ht
  clear ht hB
  obtain ⟨hw, hw0, hw1, hw2, hw3, hw4, hw5, hb1, hb2, hf⟩ := hW
  obtain ⟨last, n1, n2, v1, v2⟩ := t
  unfold Ok at hok
  obtain ⟨q1, q2, q3, q4, q5, q6, q7, q8, q9⟩ := hok
  dsimp only at *
  by_cases hlt : k < s.size
  · have q4' : n1 ≤ 2000 ∧ n2 ≤ 2000 := by simp at q4; omega
    obtain ⟨q4a, q4b⟩ := q4'
    have Q1 := Lib.hid q1
    clear q4 q9 q1
    have HS := Lib.hid (fun t' => ych (t' := t') s[k] HT.out)
    have HS' := Lib.hid (ycf s[k] HT.out)
    have HTS := Lib.hid (take_snoc s k hlt)
    generalize hc : (s[k].toNat : Int) = c at *
    have hc0 : 0 ≤ c := by omega
    have hc1 : c ≤ 255 := by have := s[k].toNat_lt; omega
    have HC := Lib.hid hc
    clear hc
    have hkc := zb5 c
    by_cases hk1 : kd c = 1
    · have hm : 1 ≤ nm c ∧ nm c ≤ 26 := by omega
      obtain ⟨m0, m1⟩ := hm
      have HK := Lib.hid hk1
      clear hkc hk1
      by_cases hl : last = 1
      · subst hl
        have HE : Hid (rd (s.data.toList.take (k + 1)) = some ⟨1, n1 + 1, n2, cut (v1 * 26 + nm c), v2⟩) := by
         unfold Hid; rw [HTS.out]; refine HS.out _ ?_
         have q := Q1.out
         unfold AM.step; rw [if_neg (by rw [HK.out]; dsimp only; omega), if_pos HK.out]
        go_wp2_with fail
        rw [HC.out]
        refine (zdf c hc0 hc1 _).mono ?_
        rintro e w' ⟨rfl, rfl⟩
        rw [HK.out]
        generalize nm c = m at *
        go_wp2_with fail
        have e1 : IntKind.i64.wrap (v1 * 26) = v1 * 26 := IntWalk.i64_in _ (by omega)
        have e2 : IntKind.i64.wrap (v1 * 26 + m) = v1 * 26 + m := IntWalk.i64_in _ (by omega)
        generalize hX : wr.setCell _ _ = W2
        have c4 : W2.cell? ⟨w.heap.size, 4, none⟩ = some (.int .i64 v1) := by rw [← hX, World.cell?_setCell_other _ _ _ _ (by simp)]; exact hw4
        have c7 : W2.cell? ⟨w.heap.size + 1, 1, none⟩ = some (.int .i64 26) := by rw [← hX, World.cell?_setCell_other _ _ _ _ (by simp)]; exact hb1
        have HX := Lib.hid hX
        clear hX
        have f4 : W2.frozen? ⟨w.heap.size, 4, none⟩ = false := by rw [← HX.out]; simpa using hf 4
        go_still_tail 14, (by kernel_rfl)
        change wpList _ _ _ _ _ W2.drew
        go_wp2
        go_roundw
        case rel =>
         rw [yd7, ← HX.out]
         exact ⟨k + 1, _, by omega, HE.out, rfl, by go_num, HW.out.let1 _ _, ((HB.out.setCell (by simp) _).setCell (by simp) _).drew⟩
        case measure => simp [intOf]; omega
      · have HE : Hid (rd s.data.toList = none) := by
         unfold Hid; refine zl3 s k ?_; rw [HTS.out]; refine HS'.out ?_
         have q := Q1.out
         unfold AM.step; rw [if_pos (by rw [HK.out]; dsimp only; omega)]
        have hl' : 1 < last := by have := Q1.out; omega
        clear hl
        go_wp2_with fail
        rw [HC.out]
        refine (zdf c hc0 hc1 _).mono ?_
        rintro e w' ⟨rfl, rfl⟩
        rw [HK.out]
        generalize nm c = m at *
        go_wp2_with fail
        have hz := HW.out.six HB.out (.int .i64 0) (.int .i64 0) (.int .i64 0) (.int .i64 0) (.int .i64 0) (.int .i64 0)
        dsimp only at hz
        revert hz
        generalize World.setCell _ ⟨w.heap.size, 5, none⟩ _ = W6
        rintro ⟨z0, z1, z2, z3, z4, z5, hB6⟩
        exact bodyPost_ret (v := .tuple #[zee 0 0 0 0, .bool false]) (by simp [results, Tryz.results126, go_sem, zee, z0, z1, z2, z3, z4, z5]) rfl ⟨by rw [zq2 HE.out], hB6⟩
    · by_cases hk2 : kd c = 2
      · have hm : 0 ≤ nm c ∧ nm c ≤ 9 := by omega
        obtain ⟨m0, m1⟩ := hm
        have HK := Lib.hid hk2
        clear hkc hk1 hk2
        have hl2 : ¬ 2 < last := by have := Q1.out; omega
        by_cases hz : nm c = 0 ∧ n2 = 0
        · have HE : Hid (rd s.data.toList = none) := by
           unfold Hid; refine zl3 s k ?_; rw [HTS.out]; refine HS'.out ?_
           unfold AM.step; rw [if_pos (Or.inr ⟨HK.out, hz.1, hz.2⟩)]
          have HZ := Lib.hid hz.1
          obtain ⟨_, rfl⟩ := hz
          go_wp2_with fail
          rw [HC.out]
          refine (zdf c hc0 hc1 _).mono ?_
          rintro e w' ⟨rfl, rfl⟩
          rw [HK.out, HZ.out]
          go_wp2_with fail
          have hz := HW.out.six HB.out (.int .i64 0) (.int .i64 0) (.int .i64 0) (.int .i64 0) (.int .i64 0) (.int .i64 0)
          dsimp only at hz
          revert hz
          generalize World.setCell _ ⟨w.heap.size, 5, none⟩ _ = W6
          rintro ⟨z0, z1, z2, z3, z4, z5, hB6⟩
          exact bodyPost_ret (v := .tuple #[zee 0 0 0 0, .bool false]) (by simp [results, Tryz.results126, go_sem, zee, z0, z1, z2, z3, z4, z5]) rfl ⟨by rw [zq2 HE.out], hB6⟩
        · have HE : Hid (rd (s.data.toList.take (k + 1)) = some ⟨2, n1, n2 + 1, v1, cut (v2 * 10 + nm c)⟩) := by
           unfold Hid; rw [HTS.out]; refine HS.out _ ?_
           unfold AM.step; rw [if_neg (by rw [HK.out]; dsimp only; omega), if_neg (by rw [HK.out]; decide)]
          go_wp2_with fail
          rw [HC.out]
          refine (zdf c hc0 hc1 _).mono ?_
          rintro e w' ⟨rfl, rfl⟩
          rw [HK.out]
          generalize nm c = m at *
          have e1 : IntKind.i64.wrap (v2 * 10) = v2 * 10 := IntWalk.i64_in _ (by omega)
          have e2 : IntKind.i64.wrap (v2 * 10 + m) = v2 * 10 + m := IntWalk.i64_in _ (by omega)
          have E1 := Lib.hid e1
          have E2 := Lib.hid e2
          clear e1 e2
          rcases Decidable.em (m = 0) with hm0 | hm0
          · have hn2 : (n2 == 0) = false := by rw [beq_eq_false_iff_ne]; omega
            subst hm0
            clear hz
            go_wp2_with fail
            have e1 := E1.out
            have e2 := E2.out
            generalize hX : wr.setCell _ _ = W2
            have c4 : W2.cell? ⟨w.heap.size, 5, none⟩ = some (.int .i64 v2) := by rw [← hX, World.cell?_setCell_other _ _ _ _ (by simp)]; exact hw5
            have c7 : W2.cell? ⟨w.heap.size + 1, 2, none⟩ = some (.int .i64 10) := by rw [← hX, World.cell?_setCell_other _ _ _ _ (by simp)]; exact hb2
            have HX := Lib.hid hX
            clear hX
            have f4 : W2.frozen? ⟨w.heap.size, 5, none⟩ = false := by rw [← HX.out]; simpa using hf 5
            go_still_tail 14, (by kernel_rfl)
            change wpList _ _ _ _ _ W2.drew
            go_wp2
            go_roundw
            case rel =>
             rw [yd7, ← HX.out]
             have he := HE.out
             rw [Int.add_zero] at he
             exact ⟨k + 1, _, by omega, he, rfl, by go_num, HW.out.let2 _ _, ((HB.out.setCell (by simp) _).setCell (by simp) _).drew⟩
            case measure => simp [intOf]; omega
          · have hn2 : (m == 0) = false := by rw [beq_eq_false_iff_ne]; omega
            clear hz hm0
            go_wp2_with fail
            have e1 := E1.out
            have e2 := E2.out
            generalize hX : wr.setCell _ _ = W2
            have c4 : W2.cell? ⟨w.heap.size, 5, none⟩ = some (.int .i64 v2) := by rw [← hX, World.cell?_setCell_other _ _ _ _ (by simp)]; exact hw5
            have c7 : W2.cell? ⟨w.heap.size + 1, 2, none⟩ = some (.int .i64 10) := by rw [← hX, World.cell?_setCell_other _ _ _ _ (by simp)]; exact hb2
            have HX := Lib.hid hX
            clear hX
            have f4 : W2.frozen? ⟨w.heap.size, 5, none⟩ = false := by rw [← HX.out]; simpa using hf 5
            go_still_tail 14, (by kernel_rfl)
            change wpList _ _ _ _ _ W2.drew
            go_wp2
            go_roundw
            case rel =>
             rw [yd7, ← HX.out]
             exact ⟨k + 1, _, by omega, HE.out, rfl, by go_num, HW.out.let2 _ _, ((HB.out.setCell (by simp) _).setCell (by simp) _).drew⟩
            case measure => simp [intOf]; omega
      · have HK : Hid (kd c = 0) := by unfold Hid; omega
        have HE : Hid (rd s.data.toList = none) := by
         unfold Hid; refine zl3 s k ?_; rw [HTS.out]; refine HS'.out ?_
         have q := Q1.out
         unfold AM.step; rw [if_pos (by rw [HK.out]; dsimp only; omega)]
        have hl' : 0 < last := by have := Q1.out; omega
        clear hkc hk1 hk2
        go_wp2_with fail
        rw [HC.out]
        refine (zdf c hc0 hc1 _).mono ?_
        rintro e w' ⟨rfl, rfl⟩
        rw [HK.out]
        generalize nm c = m at *
        go_wp2_with fail
        have hz := HW.out.six HB.out (.int .i64 0) (.int .i64 0) (.int .i64 0) (.int .i64 0) (.int .i64 0) (.int .i64 0)
        dsimp only at hz
        revert hz
        generalize World.setCell _ ⟨w.heap.size, 5, none⟩ _ = W6
        rintro ⟨z0, z1, z2, z3, z4, z5, hB6⟩
        exact bodyPost_ret (v := .tuple #[zee 0 0 0 0, .bool false]) (by simp [results, Tryz.results126, go_sem, zee, z0, z1, z2, z3, z4, z5]) rfl ⟨by rw [zq2 HE.out], hB6⟩
  · have HE : Hid (rd s.data.toList = some ⟨last, n1, n2, v1, v2⟩) := by
     unfold Hid; have := HT.out; rwa [List.take_of_length_le (by simp; omega)] at this
    clear q1 q4 q9
    go_wp2_with fail
    have hz := HW.out.six HB.out (.int .i64 0) (.int .i64 n1) (.int .i64 n2) (.int .i64 0) (.int .i64 v1) (.int .i64 v2)
    dsimp only at hz
    revert hz
    generalize World.setCell _ ⟨w.heap.size, 5, none⟩ _ = W6
    rintro ⟨z0, z1, z2, z3, z4, z5, hB6⟩
    exact bodyPost_ret (v := .tuple #[zee n1 n2 v1 v2, .bool true]) (by simp [results, Tryz.results126, go_sem, zee, z0, z1, z2, z3, z4, z5]) rfl ⟨by rw [zu2 HE.out], hB6⟩
end Go.Proofs.YtelanmknimapoaaGreatDoor.Re
