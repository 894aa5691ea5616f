/- The contract of the specification's Parse. -/
import Derived.Test.YtdhahiodnmmkeaaGreatDoorTxtQ
import Derived.Test.YtdhahiodnmmkeaaGreatDoorTxtC
import Derived.Test.YtdhahiodnmmkeaaGreatDoorRefMul
namespace Go.Proofs.YtdhahiodnmmkeaaGreatDoor.Tx
open Go.RowKit
def W2 (w : World) (n : Nat) (h l : Int) : Prop := w.heap[n]? = some (.cells #[.int .u64 h, .int .u64 l] 109)
theorem W2.lt {w : World} {n : Nat} {h l : Int} (x : W2 w n h l) : n < w.heap.size := (Array.getElem?_eq_some_iff.1 x).1
theorem W2.cells {w : World} {n : Nat} {h l : Int} (x : W2 w n h l) : w.cell? ⟨n, 0, none⟩ = some (.int .u64 h) ∧ w.cell? ⟨n, 1, none⟩ = some (.int .u64 l) ∧ w.frozen? ⟨n, 0, none⟩ = false ∧ w.frozen? ⟨n, 1, none⟩ = false := by
 unfold W2 at x
 refine ⟨?_, ?_, ?_, ?_⟩ <;> simp [World.cell?, World.frozen?, x]
theorem W2.later {w w' : World} {n : Nat} {h l : Int} (x : W2 w n h l) (hB : Below w.heap.size w w') : W2 w' n h l := (hB.block n x.lt).trans x
theorem W2.set {w : World} {n : Nat} {h l : Int} (x : W2 w n h l) (h' l' : Int) : W2 ((w.setCell ⟨n, 0, none⟩ (.int .u64 h')).setCell ⟨n, 1, none⟩ (.int .u64 l')) n h' l' := by
 unfold W2 at *
 simp [World.setCell, Array.getElem?_modify, x]
theorem bnx {W w1 w2 : World} (h : Below W.heap.size W w1) (k : Below w1.heap.size w1 w2) : Below W.heap.size W w2 := h.trans (k.mono h.size)
def posI (f n i : Nat) : Nat := if i ≤ f + n then i - f else i - f - 1
theorem zta {w p : List UInt8} {k : Nat} (h : k < w.length) (h4 : k < (zat w p).length) : (zat w p)[k] = w[k] := List.getElem_append_left h
theorem zpw {w p : List UInt8} {k : Nat} (h : w.length ≤ k) (h4 : k < (zat w p).length) (h5 : k - w.length < (p4 p).length) : (zat w p)[k] = (p4 p)[k - w.length] := List.getElem_append_right h
theorem zmv {l : List UInt8} {f i : Nat} {w p : List UInt8} (h : Fm l f w p) (h1 : f ≤ i) (h2 : i < f + w.length + 5) (h3 : i ≠ f + w.length) :
 posI f w.length i < (zat w p).length ∧ posI f w.length (i + 1) = posI f w.length i + 1 ∧
 ∀ h4 : posI f w.length i < (zat w p).length, dgv (zat w p)[posI f w.length i] = (match l[i]? with | some c => dgv c | none => 0) ∧ isDg (zat w p)[posI f w.length i] = true := by
 have hl : (zat w p).length = w.length + 4 := by unfold zat; rw [List.length_append, zf1]
 have hdg := zhd h.dw h.dp
 unfold posI
 by_cases hi : i < f + w.length
 · rw [if_pos (by omega), if_pos (by omega)]
   refine ⟨by omega, by omega, fun h4 => ⟨?_, hdg _ (List.getElem_mem _)⟩⟩
   have hk : i - f < w.length := by omega
   have := h.hw (i - f) hk
   rw [show f + (i - f) = i by omega] at this
   rw [this]
   rw [zta hk]
 · rw [if_neg (by omega), if_neg (by omega)]
   refine ⟨by omega, by omega, fun h4 => ⟨?_, hdg _ (List.getElem_mem _)⟩⟩
   have hk : i - f - 1 - w.length < 4 := by omega
   have := h.hp (i - f - 1 - w.length)
   rw [show f + w.length + 1 + (i - f - 1 - w.length) = i by omega] at this
   have h5 := yf4 p (i - f - 1 - w.length) hk
   unfold dAt at h5
   rw [← this] at h5
   rw [zpw (by omega) h4 (by rw [zf1]; exact hk)]
   exact h5
def dvI (s : ByteArray) (i : Nat) : Int := match s.data.toList[i]? with | some c => dgv c | none => 0
theorem zlk {s : ByteArray} {i : Nat} (h : i < s.size) : dvI s i = (s[i].toNat : Int) - 48 := by
 unfold dvI
 rw [List.getElem?_eq_getElem (by simpa using h)]; rfl
theorem zeq {s : ByteArray} {i : Nat} (h : ¬ i < s.size) : dvI s i = 0 := by
 unfold dvI
 rw [List.getElem?_eq_none (by simpa using h)]
theorem zh2 {a b n : Int} (x : IsW a b n) (h : ¬ (a = 0 ∧ b ≤ 9223372036854775807)) : 9223372036854775807 < n := by unfold IsW InU at x; omega
theorem zed {a b n : Int} (x : IsW a b n) (h : n ≤ 9223372036854775807) : a = 0 ∧ b = n := by unfold IsW InU at x; omega
theorem retE {a b a' b' : Int} (h : a' = a ∧ b' = b) : Ending.returned (.tuple #[.int .i64 a, .int .i64 b]) = .returned (.tuple #[.int .i64 a', .int .i64 b']) := by rw [h.1, h.2]
theorem zc2 (s : ByteArray) (hs : s.size ≤ 2000) (a : Nat) (A : Int) (hA : A = (a : Int)) (ha : a ≤ s.size) (w : World) :
 Calls Tryz.prog 178 #[.string s, .int .i64 A] w fun e w' => e = .returned (.int .i64 (dgN s.data.toList a : Int)) ∧ w = w' := by subst hA; exact ztb s hs a ha w
set_option maxRecDepth 100000 in
set_option maxHeartbeats 6400000 in
theorem rparse_any (s : ByteArray) (hs : s.size ≤ 2000) (z0 : World) :
 Calls Tryz.prog 103 #[.string s] z0 fun e w' => e = .returned (.tuple #[.int .i64 (parV s.data.toList), .int .i64 (parE s.data.toList)]) ∧ Below z0.heap.size z0 w' := by
 have hll : s.data.toList.length = s.size := by simp
 have HLL := Lib.hid hll
 have HPN := Lib.hid (zq4 (l := s.data.toList))
 have HPF := Lib.hid (fun w p => zu9 (l := s.data.toList) (w := w) (p := p))
 have HPM := Lib.hid (fun w p => zu8 (l := s.data.toList) (w := w) (p := p))
 have HPP := Lib.hid (fun w p => zu6 (l := s.data.toList) (w := w) (p := p))
 have HDV : Hid (∀ i (h : i < s.size), s.data.toList[i]? = some s[i]) := fun i h => by rw [List.getElem?_eq_getElem (by rw [hll]; exact h)]; rfl
 generalize parV s.data.toList = rV at *
 generalize parE s.data.toList = rE at *
 clear hll
 by_cases hneg : negL s.data.toList = true
 · have h0 : 0 < s.size := by
    rcases Nat.eq_zero_or_pos s.size with h | h
    · rw [← HLL.out] at h
      rw [List.length_eq_zero_iff.1 h] at hneg
      cases hneg
    · exact h
   have h45 : (s[0].toNat : Int) = 45 := by
    have h1 := HDV.out 0 h0
    unfold negL at hneg
    rw [List.head?_eq_getElem?, h1] at hneg
    have : s[0] = 45 := by simpa using hneg
    rw [this]; rfl
   have HBO : Hid (zb5 (zde s.data.toList) = zb5 (s.data.toList.drop 1)) := by
    unfold Hid zde
    rw [hneg, if_pos rfl, List.drop_one]
   have HNG := Lib.hid hneg
   clear hneg
   go_enter Tryz.func103, Tryz.ntmps103
   have HFS := Lib.hid (zjq s.data.toList 1 (by rw [HLL.out]; omega))
   have hptl : dgN s.data.toList 1 ≤ s.size := by have := zoe (l := s.data.toList) (a := 1) (by rw [HLL.out]; omega); rw [HLL.out] at this; exact this
   have HDF := Lib.hid (fun w => zc2 s hs 1 1 rfl (by omega) w)
   have hptg : 1 ≤ dgN s.data.toList 1 := by unfold dgN; omega
   generalize hpt : dgN s.data.toList 1 = pt at *
   clear hpt
   go_wp2_with fail
   refine (HDF.out _).mono ?_
   rintro e w1 ⟨rfl, rfl⟩
   by_cases h1 : pt < s.size
   · by_cases h2 : s[pt].toNat = 46
     · have HEN := Lib.hid (fun w => zc2 s hs (pt + 1) ((pt : Int) + 1) (by omega) (by omega) w)
       have hen : dgN s.data.toList (pt + 1) ≤ s.size := by have := zoe (l := s.data.toList) (a := pt + 1) (by rw [HLL.out]; omega); rw [HLL.out] at this; exact this
       have hc46 : s.data.toList[pt]'(by rw [HLL.out]; exact h1) = 46 := by
        have := HDV.out pt h1
        rw [List.getElem?_eq_getElem (by rw [HLL.out]; exact h1)] at this
        rw [Option.some.inj this]; exact UInt8.toNat_inj.1 h2
       have h46 : (s[pt].toNat : Int) = 46 := by omega
       have HF4 := Lib.hid (fun x => HFS.out.2.2.2.1 (by rw [HLL.out]; exact h1) hc46 x)
       have HF5 := Lib.hid (fun x y z => HFS.out.2.2.2.2 (by rw [HLL.out]; exact h1) hc46 x y z)
       rw [HLL.out] at HF4 HF5
       go_wp2_with fail
       refine (HEN.out _).mono ?_
       rintro e w1 ⟨rfl, rfl⟩
       generalize hev : dgN s.data.toList (pt + 1) = en at *
       clear hev
       by_cases h0 : pt = 1
       · have hn0 : ((pt : Int) == 1) = true := by simp <;> omega
         have HN := Lib.hid (HPN.out (HBO.out.trans (HFS.out.1 h0)))
         go_wp2_with fail
         go_ret2
         exact ⟨retE HN.out, (Below.refl z0.heap.size z0)⟩
       · have hn0 : ((pt : Int) == 1) = false := by simp <;> omega
         by_cases h3 : en = s.size
         · have hn3 : ((en : Int) != (s.size : Int)) = false := by simp <;> omega
           by_cases h4 : en = pt + 1
           · have hn4 : ((en : Int) == (pt : Int) + 1) = true := by simp <;> omega
             have HN := Lib.hid (HPN.out (HBO.out.trans (HF4.out (.inr h4))))
             clear h3 h4 h0
             go_wp2_with fail
             go_ret2
             exact ⟨retE HN.out, (Below.refl z0.heap.size z0)⟩
           · have hn4 : ((en : Int) == (pt : Int) + 1) = false := by simp <;> omega
             have HG : ∃ w p, zb5 (zde s.data.toList) = some (w, p) ∧ 1 + w.length = pt ∧ Fm s.data.toList 1 w p := by
              obtain ⟨w, p, e1, e2, e3⟩ := HF5.out h0 h3 h4
              exact ⟨w, p, HBO.out.trans e1, e2, e3⟩
             clear HFS HDF HF4 HF5 HEN h3 h4 h0
             obtain ⟨w, p, hfm, hwl, FM⟩ := HG
             have HFM := Lib.hid FM
             have HDD := Lib.hid (zhd FM.dw FM.dp)
             have HDLN : Hid ((zat w p).length = w.length + 4) := by unfold Hid zat; rw [List.length_append, zf1]
             have HFAR : Hid (mostI < valL w p → rV = 0 ∧ rE = 3) := fun h => HPF.out w p hfm h
             have HNEG : Hid (valL w p ≤ mostI → negL s.data.toList = true → rV = -valL w p ∧ rE = 0) := fun h h2 => HPM.out w p hfm h h2
             have HPOS : Hid (valL w p ≤ mostI → negL s.data.toList = false → rV = valL w p ∧ rE = 0) := fun h h2 => HPP.out w p hfm h h2
             have HUP : Hid (dAt p 4 = dvI s (pt + 5)) := by unfold Hid dAt dvI; rw [← FM.hp 4, show 1 + w.length + 1 + 4 = pt + 5 by omega]; rfl
             have HTA : Hid (∀ k, mostI < numL ((zat w p).take k) → mostI < valL w p) := fun k h => by
              have h0 := (zis p).1
              unfold valL
              by_cases hk : k ≤ (zat w p).length
              · have h1 := zf8 HDD.out ((zat w p).length - k) k (by omega)
                omega
              · rw [List.take_of_length_le (by omega)] at h
                omega
             clear FM hfm HPN HPF HPM HPP
             go_wp2_with fail
             have hW0 : W2 (z0.alloc (.cells #[.int .u64 0, .int .u64 0] 109)) z0.heap.size 0 0 := World.alloc_heap_new z0 _
             have HB2 := Lib.hid (bnx (Below.refl z0.heap.size z0) ((Below.refl _ z0).alloc (Nat.le_refl _) (.cells #[.int .u64 0, .int .u64 0] 109)))
             have hsz := (Below.refl z0.heap.size z0).size
             generalize z0.alloc (.cells #[.int .u64 0, .int .u64 0] 109) = w2 at *
             go_loopw [8] (fun x wr => ∃ (i : Nat) (H L : Int), 1 ≤ i ∧ i ≤ pt + 5 ∧ x = .int .i64 (i : Int) ∧ Hid (W2 wr z0.heap.size H L) ∧ Hid (IsW H L (numL ((zat w p).take (posI 1 w.length i)))) ∧ Hid (numL ((zat w p).take (posI 1 w.length i)) ≤ 92233720368547758079) ∧ Below z0.heap.size z0 wr) (fun x _ => pt + 5 - (intOf x).toNat)
             case atStart => exact ⟨1, 0, 0, Nat.le_refl _, by omega, rfl, hW0, by unfold posI; rw [if_pos (by omega), Nat.sub_self]; exact IsW.zero, by unfold posI Hid; rw [if_pos (by omega), Nat.sub_self, List.take_zero]; decide, HB2.out⟩
             case round =>
              obtain ⟨i, H, L, hi1, hi2, rfl, HWr, HIW, HBD, hBr⟩ := hrel
              have HBr := Lib.hid hBr
              have hszr := hBr.size
              clear hBr
              by_cases hit : i < pt + 5
              · obtain ⟨c0, c1, g0, g1⟩ := HWr.out.cells
                have hl := HWr.out.lt
                have HFR : Hid (¬ (H = 0 ∧ L ≤ 9223372036854775807) → rV = 0 ∧ rE = 3) := fun h => HFAR.out (HTA.out _ (zh2 HIW.out h))
                by_cases hip : i = pt
                · have HPS : Hid (posI 1 w.length (i + 1) = posI 1 w.length i) := by unfold Hid posI; rw [if_neg (by omega), if_pos (by omega)]; omega
                  have hne : ((i : Int) != (pt : Int)) = false := by simp <;> omega
                  have hne2 : ((i : Int) == (pt : Int)) = true := by simp <;> omega
                  clear hip
                  by_cases hc : H = 0 ∧ L ≤ 9223372036854775807
                  · obtain ⟨rfl, hc2⟩ := hc
                    go_wp2_with fail
                    exact ⟨⟨i + 1, 0, L, by omega, by omega, by go_num, HWr.out, by rw [HPS.out]; exact HIW.out, by rw [HPS.out]; exact HBD.out, HBr.out⟩, by simp [intOf]; omega⟩
                  · have HE := Lib.hid (HFR.out hc)
                    by_cases hH : H = 0
                    · subst hH
                      have hc2 : 9223372036854775807 < L := by omega
                      clear hc
                      go_wp2_with fail
                      go_ret2
                      exact ⟨retE HE.out, HBr.out⟩
                    · clear hc
                      go_wp2_with fail
                      go_ret2
                      exact ⟨retE HE.out, HBr.out⟩
                · obtain ⟨q1, q2, q3⟩ := zmv HFM.out hi1 (by omega) (by omega)
                  obtain ⟨q4, q5⟩ := q3 q1
                  have hdb := zgk q5
                  have hst := zf9 _ q1
                  have hq4 : dgv (zat w p)[posI 1 w.length i] = dvI s i := q4
                  rw [hq4] at hdb hst
                  rw [← q2] at hst
                  have HST := Lib.hid hst
                  have hne : ((i : Int) != (pt : Int)) = true := by simp <;> omega
                  have hne2 : ((i : Int) == (pt : Int)) = false := by simp <;> omega
                  clear hip q1 q2 q3 q4 q5 hst hq4
                  by_cases his : i < s.size
                  · have hdv := zlk his
                    rw [hdv] at HST hdb
                    have hb48 : 48 ≤ s[i].toNat := by omega
                    have hb57 : s[i].toNat ≤ 57 := by omega
                    clear hdv hdb
                    by_cases hc : H = 0 ∧ L ≤ 9223372036854775807
                    · obtain ⟨rfl, hc2⟩ := hc
                      have hL0 := (zed HIW.out (by have := HIW.out; unfold IsW InU at this; omega)).2
                      have hLp : 0 ≤ L := by have := HIW.out; unfold IsW InU at this; omega
                      rw [← hL0] at HST
                      clear hL0
                      go_wp2_with fail
                      refine (zck L 10 (by unfold InU; omega) (by unfold InU; omega) _).mono ?_
                      rintro e w3 ⟨h3, l3, rfl, hw3, hB3⟩
                      have HW3 := Lib.hid hw3
                      have HM3 := Lib.hid (HWr.out.later hB3)
                      have HB3 := Lib.hid (bnx HBr.out hB3)
                      clear hw3 hB3 c0 c1 g0 g1 hl
                      go_wp2_with fail
                      refine (zbq h3 l3 0 _ _ _ HW3.out (IsW.low (l := ((s[i].toNat : Int) - 48)) (by unfold InU; omega)) (by omega) _).mono ?_
                      rintro e w4 ⟨h4, l4, rfl, hw4, hB4⟩
                      have HW4 := Lib.hid hw4
                      have HM4 := Lib.hid (HM3.out.later hB4)
                      have HB4 := Lib.hid (bnx HB3.out hB4)
                      clear hw4 hB4
                      obtain ⟨c0, c1, g0, g1⟩ := HM4.out.cells
                      have hl := HM4.out.lt
                      go_wp2_with fail
                      exact ⟨⟨i + 1, h4, l4, by omega, by omega, by go_num, HM4.out.set h4 l4, by rw [HST.out]; exact HW4.out, by rw [HST.out]; unfold Hid; omega, (HB4.out.setCell (p := ⟨z0.heap.size, 0, none⟩) (Nat.le_refl _) _).setCell (p := ⟨z0.heap.size, 1, none⟩) (Nat.le_refl _) _⟩, by simp [intOf]; omega⟩
                    · have HE := Lib.hid (HFR.out hc)
                      by_cases hH : H = 0
                      · subst hH
                        have hc2 : 9223372036854775807 < L := by omega
                        clear hc
                        go_wp2_with fail
                        go_ret2
                        exact ⟨retE HE.out, HBr.out⟩
                      · clear hc
                        go_wp2_with fail
                        go_ret2
                        exact ⟨retE HE.out, HBr.out⟩
                  · have hdv := zeq his
                    rw [hdv] at HST hdb
                    clear hdv hdb
                    by_cases hc : H = 0 ∧ L ≤ 9223372036854775807
                    · obtain ⟨rfl, hc2⟩ := hc
                      have hL0 := (zed HIW.out (by have := HIW.out; unfold IsW InU at this; omega)).2
                      have hLp : 0 ≤ L := by have := HIW.out; unfold IsW InU at this; omega
                      rw [← hL0] at HST
                      clear hL0
                      go_wp2_with fail
                      refine (zck L 10 (by unfold InU; omega) (by unfold InU; omega) _).mono ?_
                      rintro e w3 ⟨h3, l3, rfl, hw3, hB3⟩
                      have HW3 := Lib.hid hw3
                      have HM3 := Lib.hid (HWr.out.later hB3)
                      have HB3 := Lib.hid (bnx HBr.out hB3)
                      clear hw3 hB3 c0 c1 g0 g1 hl
                      go_wp2_with fail
                      refine (zbq h3 l3 0 _ _ _ HW3.out (IsW.low (l := 0) (by unfold InU; omega)) (by omega) _).mono ?_
                      rintro e w4 ⟨h4, l4, rfl, hw4, hB4⟩
                      have HW4 := Lib.hid hw4
                      have HM4 := Lib.hid (HM3.out.later hB4)
                      have HB4 := Lib.hid (bnx HB3.out hB4)
                      clear hw4 hB4
                      obtain ⟨c0, c1, g0, g1⟩ := HM4.out.cells
                      have hl := HM4.out.lt
                      go_wp2_with fail
                      exact ⟨⟨i + 1, h4, l4, by omega, by omega, by go_num, HM4.out.set h4 l4, by rw [HST.out]; exact HW4.out, by rw [HST.out]; unfold Hid; omega, (HB4.out.setCell (p := ⟨z0.heap.size, 0, none⟩) (Nat.le_refl _) _).setCell (p := ⟨z0.heap.size, 1, none⟩) (Nat.le_refl _) _⟩, by simp [intOf]; omega⟩
                    · have HE := Lib.hid (HFR.out hc)
                      by_cases hH : H = 0
                      · subst hH
                        have hc2 : 9223372036854775807 < L := by omega
                        clear hc
                        go_wp2_with fail
                        go_ret2
                        exact ⟨retE HE.out, HBr.out⟩
                      · clear hc
                        go_wp2_with fail
                        go_ret2
                        exact ⟨retE HE.out, HBr.out⟩
              · obtain rfl : i = pt + 5 := by omega
                have HE0 : Hid ((zat w p).take (posI 1 w.length (pt + 5)) = zat w p) := by unfold Hid posI; rw [if_neg (by omega), List.take_of_length_le (by rw [HDLN.out]; omega)]
                rw [HE0.out] at HIW HBD
                have hbd := HBD.out
                have hn0 := zcf _ HDD.out
                obtain ⟨c0, c1, g0, g1⟩ := HWr.out.cells
                have hl := HWr.out.lt
                have HVL : Hid (valL w p = numL (zat w p) + upL p) := rfl
                have HUI : Hid (upL p = if 5 ≤ dvI s (pt + 5) then 1 else 0) := by unfold Hid upL; rw [HUP.out]
                clear HTA HE0 HUP HFM HDD HDLN HBD
                generalize numL (zat w p) = nn at *
                generalize upL p = uu at *
                generalize valL w p = vv at *
                by_cases h5 : pt + 5 < s.size
                · have hdv := zlk h5
                  rw [hdv] at HUI
                  by_cases h53 : 53 ≤ s[pt + 5].toNat
                  · have HV2 : Hid (vv = nn + 1) := by rw [HVL.out, HUI.out, if_pos (by omega)]; rfl
                    clear hdv HVL HUI
                    go_wp2_with fail
                    refine (zbq H L 0 1 _ _ HIW.out (IsW.low (l := 1) (by unfold InU; omega)) (by omega) _).mono ?_
                    rintro e w3 ⟨h3, l3, rfl, hw3, hB3⟩
                    rw [← HV2.out] at hw3
                    have HW3 := Lib.hid hw3
                    have HM3 := Lib.hid (HWr.out.later hB3)
                    have HB3 := Lib.hid (bnx HBr.out hB3)
                    clear hw3 hB3 c0 c1 g0 g1 hl
                    obtain ⟨c0, c1, g0, g1⟩ := HM3.out.cells
                    have hl := HM3.out.lt
                    have HM4 := Lib.hid (HM3.out.set h3 l3)
                    have HB4 := Lib.hid ((HB3.out.setCell (p := ⟨z0.heap.size, 0, none⟩) (Nat.le_refl _) (.int .u64 h3)).setCell (p := ⟨z0.heap.size, 1, none⟩) (Nat.le_refl _) (.int .u64 l3))
                    go_wp2_with fail
                    refine (zbw h3 l3 vv HW3.out true _).mono ?_
                    rintro e w5 ⟨rfl, hB5⟩
                    have HB5 := Lib.hid (bnx HB4.out hB5)
                    clear hB5
                    have hvv : 0 ≤ vv := by have := HV2.out; omega
                    by_cases hm : vv ≤ 9223372036854775807
                    · have hrv : resV (sg vv true) = -vv := by rw [show sg vv true = -vv from rfl]; exact ze5 (by omega)
                      have hrb : resB (sg vv true) = true := by rw [show sg vv true = -vv from rfl]; exact ze6 (by omega)
                      have HR := Lib.hid (HNEG.out hm HNG.out)
                      rw [hrv, hrb]
                      clear hrv hrb
                      go_wp2_with fail
                      go_ret2
                      exact ⟨retE HR.out, HB5.out⟩
                    · have hrb : resB (sg vv true) = false := by rw [show sg vv true = -vv from rfl]; exact ze7 (by omega)
                      have HR := Lib.hid (HFAR.out (by unfold mostI; omega))
                      rw [hrb]
                      clear hrb
                      go_wp2_with fail
                      go_ret2
                      exact ⟨retE HR.out, HB5.out⟩
                  · have HV2 : Hid (vv = nn) := by rw [HVL.out, HUI.out, if_neg (by omega)]; exact Int.add_zero _
                    have hlt53 : s[pt + 5].toNat < 53 := by omega
                    clear hdv HVL HUI
                    rw [← HV2.out] at HIW
                    go_wp2_with fail
                    refine (zbw H L vv HIW.out true _).mono ?_
                    rintro e w5 ⟨rfl, hB5⟩
                    have HB5 := Lib.hid (bnx HBr.out hB5)
                    clear hB5
                    have hvv : 0 ≤ vv := by have := HV2.out; omega
                    by_cases hm : vv ≤ 9223372036854775807
                    · have hrv : resV (sg vv true) = -vv := by rw [show sg vv true = -vv from rfl]; exact ze5 (by omega)
                      have hrb : resB (sg vv true) = true := by rw [show sg vv true = -vv from rfl]; exact ze6 (by omega)
                      have HR := Lib.hid (HNEG.out hm HNG.out)
                      rw [hrv, hrb]
                      clear hrv hrb
                      go_wp2_with fail
                      go_ret2
                      exact ⟨retE HR.out, HB5.out⟩
                    · have hrb : resB (sg vv true) = false := by rw [show sg vv true = -vv from rfl]; exact ze7 (by omega)
                      have HR := Lib.hid (HFAR.out (by unfold mostI; omega))
                      rw [hrb]
                      clear hrb
                      go_wp2_with fail
                      go_ret2
                      exact ⟨retE HR.out, HB5.out⟩
                · have hdv := zeq h5
                  rw [hdv] at HUI
                  have HV2 : Hid (vv = nn) := by rw [HVL.out, HUI.out, if_neg (by omega)]; exact Int.add_zero _
                  clear hdv HVL HUI
                  rw [← HV2.out] at HIW
                  go_wp2_with fail
                  refine (zbw H L vv HIW.out true _).mono ?_
                  rintro e w5 ⟨rfl, hB5⟩
                  have HB5 := Lib.hid (bnx HBr.out hB5)
                  clear hB5
                  have hvv : 0 ≤ vv := by have := HV2.out; omega
                  by_cases hm : vv ≤ 9223372036854775807
                  · have hrv : resV (sg vv true) = -vv := by rw [show sg vv true = -vv from rfl]; exact ze5 (by omega)
                    have hrb : resB (sg vv true) = true := by rw [show sg vv true = -vv from rfl]; exact ze6 (by omega)
                    have HR := Lib.hid (HNEG.out hm HNG.out)
                    rw [hrv, hrb]
                    clear hrv hrb
                    go_wp2_with fail
                    go_ret2
                    exact ⟨retE HR.out, HB5.out⟩
                  · have hrb : resB (sg vv true) = false := by rw [show sg vv true = -vv from rfl]; exact ze7 (by omega)
                    have HR := Lib.hid (HFAR.out (by unfold mostI; omega))
                    rw [hrb]
                    clear hrb
                    go_wp2_with fail
                    go_ret2
                    exact ⟨retE HR.out, HB5.out⟩
         · have hn3 : ((en : Int) != (s.size : Int)) = true := by simp <;> omega
           have HN := Lib.hid (HPN.out (HBO.out.trans (HF4.out (.inl h3))))
           clear h3
           go_wp2_with fail
           go_ret2
           exact ⟨retE HN.out, (Below.refl z0.heap.size z0)⟩
     · have hc46 : s.data.toList[pt]'(by rw [HLL.out]; exact h1) ≠ 46 := fun e => h2 (by
        have := HDV.out pt h1
        rw [List.getElem?_eq_getElem (by rw [HLL.out]; exact h1), e] at this
        rw [← Option.some.inj this]; rfl)
       have h46 : ((s[pt].toNat : Int) == 46) = false := by simp <;> omega
       have hn1 : ((pt : Int) == (s.size : Int)) = false := by simp <;> omega
       by_cases h0 : pt = 1
       · subst h0
         have HN := Lib.hid (HPN.out (HBO.out.trans (HFS.out.1 rfl)))
         go_wp2_with fail
         go_ret2
         exact ⟨retE HN.out, (Below.refl z0.heap.size z0)⟩
       · have hn0 : ((pt : Int) == 1) = false := by simp <;> omega
         have HN := Lib.hid (HPN.out (HBO.out.trans (HFS.out.2.2.1 (by rw [HLL.out]; exact h1) hc46)))
         go_wp2_with fail
         go_ret2
         exact ⟨retE HN.out, (Below.refl z0.heap.size z0)⟩
   · have h1' : pt = s.size := by omega
     by_cases h0 : pt = 1
     · have HN := Lib.hid (HPN.out (HBO.out.trans (HFS.out.1 h0)))
       have hn0 : (pt : Int) = 1 := by omega
       go_wp2_with fail
       go_ret2
       exact ⟨retE HN.out, (Below.refl z0.heap.size z0)⟩
     · have hn0 : ((pt : Int) == 1) = false := by simp <;> omega
       have hn2 : ((pt : Int) == (pt : Int) + 1) = false := by simp <;> omega
       have HG : ∃ w p, zb5 (zde s.data.toList) = some (w, p) ∧ 1 + w.length = pt ∧ Fm s.data.toList 1 w p := by
        obtain ⟨w, e1, e2, e3⟩ := HFS.out.2.1 (by rw [HLL.out]; exact h1') h0
        exact ⟨w, [], HBO.out.trans e1, e2, e3⟩
       have hn3 : ((pt : Int) != (s.size : Int)) = false := by simp <;> omega
       have hn4 : ¬ pt < s.size := h1
       clear HFS HDF h1'
       obtain ⟨w, p, hfm, hwl, FM⟩ := HG
       have HFM := Lib.hid FM
       have HDD := Lib.hid (zhd FM.dw FM.dp)
       have HDLN : Hid ((zat w p).length = w.length + 4) := by unfold Hid zat; rw [List.length_append, zf1]
       have HFAR : Hid (mostI < valL w p → rV = 0 ∧ rE = 3) := fun h => HPF.out w p hfm h
       have HNEG : Hid (valL w p ≤ mostI → negL s.data.toList = true → rV = -valL w p ∧ rE = 0) := fun h h2 => HPM.out w p hfm h h2
       have HPOS : Hid (valL w p ≤ mostI → negL s.data.toList = false → rV = valL w p ∧ rE = 0) := fun h h2 => HPP.out w p hfm h h2
       have HUP : Hid (dAt p 4 = dvI s (pt + 5)) := by unfold Hid dAt dvI; rw [← FM.hp 4, show 1 + w.length + 1 + 4 = pt + 5 by omega]; rfl
       have HTA : Hid (∀ k, mostI < numL ((zat w p).take k) → mostI < valL w p) := fun k h => by
        have h0 := (zis p).1
        unfold valL
        by_cases hk : k ≤ (zat w p).length
        · have h1 := zf8 HDD.out ((zat w p).length - k) k (by omega)
          omega
        · rw [List.take_of_length_le (by omega)] at h
          omega
       clear FM hfm HPN HPF HPM HPP
       go_wp2_with fail
       have hW0 : W2 (z0.alloc (.cells #[.int .u64 0, .int .u64 0] 109)) z0.heap.size 0 0 := World.alloc_heap_new z0 _
       have HB2 := Lib.hid (bnx (Below.refl z0.heap.size z0) ((Below.refl _ z0).alloc (Nat.le_refl _) (.cells #[.int .u64 0, .int .u64 0] 109)))
       have hsz := (Below.refl z0.heap.size z0).size
       generalize z0.alloc (.cells #[.int .u64 0, .int .u64 0] 109) = w2 at *
       go_loopw [8] (fun x wr => ∃ (i : Nat) (H L : Int), 1 ≤ i ∧ i ≤ pt + 5 ∧ x = .int .i64 (i : Int) ∧ Hid (W2 wr z0.heap.size H L) ∧ Hid (IsW H L (numL ((zat w p).take (posI 1 w.length i)))) ∧ Hid (numL ((zat w p).take (posI 1 w.length i)) ≤ 92233720368547758079) ∧ Below z0.heap.size z0 wr) (fun x _ => pt + 5 - (intOf x).toNat)
       case atStart => exact ⟨1, 0, 0, Nat.le_refl _, by omega, rfl, hW0, by unfold posI; rw [if_pos (by omega), Nat.sub_self]; exact IsW.zero, by unfold posI Hid; rw [if_pos (by omega), Nat.sub_self, List.take_zero]; decide, HB2.out⟩
       case round =>
        obtain ⟨i, H, L, hi1, hi2, rfl, HWr, HIW, HBD, hBr⟩ := hrel
        have HBr := Lib.hid hBr
        have hszr := hBr.size
        clear hBr
        by_cases hit : i < pt + 5
        · obtain ⟨c0, c1, g0, g1⟩ := HWr.out.cells
          have hl := HWr.out.lt
          have HFR : Hid (¬ (H = 0 ∧ L ≤ 9223372036854775807) → rV = 0 ∧ rE = 3) := fun h => HFAR.out (HTA.out _ (zh2 HIW.out h))
          by_cases hip : i = pt
          · have HPS : Hid (posI 1 w.length (i + 1) = posI 1 w.length i) := by unfold Hid posI; rw [if_neg (by omega), if_pos (by omega)]; omega
            have hne : ((i : Int) != (pt : Int)) = false := by simp <;> omega
            have hne2 : ((i : Int) == (pt : Int)) = true := by simp <;> omega
            clear hip
            by_cases hc : H = 0 ∧ L ≤ 9223372036854775807
            · obtain ⟨rfl, hc2⟩ := hc
              go_wp2_with fail
              exact ⟨⟨i + 1, 0, L, by omega, by omega, by go_num, HWr.out, by rw [HPS.out]; exact HIW.out, by rw [HPS.out]; exact HBD.out, HBr.out⟩, by simp [intOf]; omega⟩
            · have HE := Lib.hid (HFR.out hc)
              by_cases hH : H = 0
              · subst hH
                have hc2 : 9223372036854775807 < L := by omega
                clear hc
                go_wp2_with fail
                go_ret2
                exact ⟨retE HE.out, HBr.out⟩
              · clear hc
                go_wp2_with fail
                go_ret2
                exact ⟨retE HE.out, HBr.out⟩
          · obtain ⟨q1, q2, q3⟩ := zmv HFM.out hi1 (by omega) (by omega)
            obtain ⟨q4, q5⟩ := q3 q1
            have hdb := zgk q5
            have hst := zf9 _ q1
            have hq4 : dgv (zat w p)[posI 1 w.length i] = dvI s i := q4
            rw [hq4] at hdb hst
            rw [← q2] at hst
            have HST := Lib.hid hst
            have hne : ((i : Int) != (pt : Int)) = true := by simp <;> omega
            have hne2 : ((i : Int) == (pt : Int)) = false := by simp <;> omega
            clear hip q1 q2 q3 q4 q5 hst hq4
            by_cases his : i < s.size
            · have hdv := zlk his
              rw [hdv] at HST hdb
              have hb48 : 48 ≤ s[i].toNat := by omega
              have hb57 : s[i].toNat ≤ 57 := by omega
              clear hdv hdb
              by_cases hc : H = 0 ∧ L ≤ 9223372036854775807
              · obtain ⟨rfl, hc2⟩ := hc
                have hL0 := (zed HIW.out (by have := HIW.out; unfold IsW InU at this; omega)).2
                have hLp : 0 ≤ L := by have := HIW.out; unfold IsW InU at this; omega
                rw [← hL0] at HST
                clear hL0
                go_wp2_with fail
                refine (zck L 10 (by unfold InU; omega) (by unfold InU; omega) _).mono ?_
                rintro e w3 ⟨h3, l3, rfl, hw3, hB3⟩
                have HW3 := Lib.hid hw3
                have HM3 := Lib.hid (HWr.out.later hB3)
                have HB3 := Lib.hid (bnx HBr.out hB3)
                clear hw3 hB3 c0 c1 g0 g1 hl
                go_wp2_with fail
                refine (zbq h3 l3 0 _ _ _ HW3.out (IsW.low (l := ((s[i].toNat : Int) - 48)) (by unfold InU; omega)) (by omega) _).mono ?_
                rintro e w4 ⟨h4, l4, rfl, hw4, hB4⟩
                have HW4 := Lib.hid hw4
                have HM4 := Lib.hid (HM3.out.later hB4)
                have HB4 := Lib.hid (bnx HB3.out hB4)
                clear hw4 hB4
                obtain ⟨c0, c1, g0, g1⟩ := HM4.out.cells
                have hl := HM4.out.lt
                go_wp2_with fail
                exact ⟨⟨i + 1, h4, l4, by omega, by omega, by go_num, HM4.out.set h4 l4, by rw [HST.out]; exact HW4.out, by rw [HST.out]; unfold Hid; omega, (HB4.out.setCell (p := ⟨z0.heap.size, 0, none⟩) (Nat.le_refl _) _).setCell (p := ⟨z0.heap.size, 1, none⟩) (Nat.le_refl _) _⟩, by simp [intOf]; omega⟩
              · have HE := Lib.hid (HFR.out hc)
                by_cases hH : H = 0
                · subst hH
                  have hc2 : 9223372036854775807 < L := by omega
                  clear hc
                  go_wp2_with fail
                  go_ret2
                  exact ⟨retE HE.out, HBr.out⟩
                · clear hc
                  go_wp2_with fail
                  go_ret2
                  exact ⟨retE HE.out, HBr.out⟩
            · have hdv := zeq his
              rw [hdv] at HST hdb
              clear hdv hdb
              by_cases hc : H = 0 ∧ L ≤ 9223372036854775807
              · obtain ⟨rfl, hc2⟩ := hc
                have hL0 := (zed HIW.out (by have := HIW.out; unfold IsW InU at this; omega)).2
                have hLp : 0 ≤ L := by have := HIW.out; unfold IsW InU at this; omega
                rw [← hL0] at HST
                clear hL0
                go_wp2_with fail
                refine (zck L 10 (by unfold InU; omega) (by unfold InU; omega) _).mono ?_
                rintro e w3 ⟨h3, l3, rfl, hw3, hB3⟩
                have HW3 := Lib.hid hw3
                have HM3 := Lib.hid (HWr.out.later hB3)
                have HB3 := Lib.hid (bnx HBr.out hB3)
                clear hw3 hB3 c0 c1 g0 g1 hl
                go_wp2_with fail
                refine (zbq h3 l3 0 _ _ _ HW3.out (IsW.low (l := 0) (by unfold InU; omega)) (by omega) _).mono ?_
                rintro e w4 ⟨h4, l4, rfl, hw4, hB4⟩
                have HW4 := Lib.hid hw4
                have HM4 := Lib.hid (HM3.out.later hB4)
                have HB4 := Lib.hid (bnx HB3.out hB4)
                clear hw4 hB4
                obtain ⟨c0, c1, g0, g1⟩ := HM4.out.cells
                have hl := HM4.out.lt
                go_wp2_with fail
                exact ⟨⟨i + 1, h4, l4, by omega, by omega, by go_num, HM4.out.set h4 l4, by rw [HST.out]; exact HW4.out, by rw [HST.out]; unfold Hid; omega, (HB4.out.setCell (p := ⟨z0.heap.size, 0, none⟩) (Nat.le_refl _) _).setCell (p := ⟨z0.heap.size, 1, none⟩) (Nat.le_refl _) _⟩, by simp [intOf]; omega⟩
              · have HE := Lib.hid (HFR.out hc)
                by_cases hH : H = 0
                · subst hH
                  have hc2 : 9223372036854775807 < L := by omega
                  clear hc
                  go_wp2_with fail
                  go_ret2
                  exact ⟨retE HE.out, HBr.out⟩
                · clear hc
                  go_wp2_with fail
                  go_ret2
                  exact ⟨retE HE.out, HBr.out⟩
        · obtain rfl : i = pt + 5 := by omega
          have HE0 : Hid ((zat w p).take (posI 1 w.length (pt + 5)) = zat w p) := by unfold Hid posI; rw [if_neg (by omega), List.take_of_length_le (by rw [HDLN.out]; omega)]
          rw [HE0.out] at HIW HBD
          have hbd := HBD.out
          have hn0 := zcf _ HDD.out
          obtain ⟨c0, c1, g0, g1⟩ := HWr.out.cells
          have hl := HWr.out.lt
          have HVL : Hid (valL w p = numL (zat w p) + upL p) := rfl
          have HUI : Hid (upL p = if 5 ≤ dvI s (pt + 5) then 1 else 0) := by unfold Hid upL; rw [HUP.out]
          clear HTA HE0 HUP HFM HDD HDLN HBD
          generalize numL (zat w p) = nn at *
          generalize upL p = uu at *
          generalize valL w p = vv at *
          by_cases h5 : pt + 5 < s.size
          · exfalso; omega
          · have hdv := zeq h5
            rw [hdv] at HUI
            have HV2 : Hid (vv = nn) := by rw [HVL.out, HUI.out, if_neg (by omega)]; exact Int.add_zero _
            clear hdv HVL HUI
            rw [← HV2.out] at HIW
            go_wp2_with fail
            refine (zbw H L vv HIW.out true _).mono ?_
            rintro e w5 ⟨rfl, hB5⟩
            have HB5 := Lib.hid (bnx HBr.out hB5)
            clear hB5
            have hvv : 0 ≤ vv := by have := HV2.out; omega
            by_cases hm : vv ≤ 9223372036854775807
            · have hrv : resV (sg vv true) = -vv := by rw [show sg vv true = -vv from rfl]; exact ze5 (by omega)
              have hrb : resB (sg vv true) = true := by rw [show sg vv true = -vv from rfl]; exact ze6 (by omega)
              have HR := Lib.hid (HNEG.out hm HNG.out)
              rw [hrv, hrb]
              clear hrv hrb
              go_wp2_with fail
              go_ret2
              exact ⟨retE HR.out, HB5.out⟩
            · have hrb : resB (sg vv true) = false := by rw [show sg vv true = -vv from rfl]; exact ze7 (by omega)
              have HR := Lib.hid (HFAR.out (by unfold mostI; omega))
              rw [hrb]
              clear hrb
              go_wp2_with fail
              go_ret2
              exact ⟨retE HR.out, HB5.out⟩
 · have hneg : negL s.data.toList = false := by simpa using hneg
   have HBO : Hid (zb5 (zde s.data.toList) = zb5 (s.data.toList.drop 0)) := by
    unfold Hid zde
    rw [hneg, if_neg (by decide), List.drop_zero]
   have HNG := Lib.hid hneg
   by_cases h0 : 0 < s.size
   · have h45 : ((s[0].toNat : Int) == 45) = false := by
      have h1 := HDV.out 0 h0
      unfold negL at hneg
      rw [List.head?_eq_getElem?, h1] at hneg
      have hn : s[0] ≠ 45 := by simpa using hneg
      have hn2 : ¬ (s[0].toNat = 45) := fun e => hn (UInt8.toNat_inj.1 e)
      simp
      omega
     clear hneg
     go_enter Tryz.func103, Tryz.ntmps103
     have HFS := Lib.hid (zjq s.data.toList 0 (by rw [HLL.out]; omega))
     have hptl : dgN s.data.toList 0 ≤ s.size := by have := zoe (l := s.data.toList) (a := 0) (by rw [HLL.out]; omega); rw [HLL.out] at this; exact this
     have HDF := Lib.hid (fun w => zc2 s hs 0 0 rfl (by omega) w)
     have hptg : 0 ≤ dgN s.data.toList 0 := by unfold dgN; omega
     generalize hpt : dgN s.data.toList 0 = pt at *
     clear hpt
     go_wp2_with fail
     refine (HDF.out _).mono ?_
     rintro e w1 ⟨rfl, rfl⟩
     by_cases h1 : pt < s.size
     · by_cases h2 : s[pt].toNat = 46
       · have HEN := Lib.hid (fun w => zc2 s hs (pt + 1) ((pt : Int) + 1) (by omega) (by omega) w)
         have hen : dgN s.data.toList (pt + 1) ≤ s.size := by have := zoe (l := s.data.toList) (a := pt + 1) (by rw [HLL.out]; omega); rw [HLL.out] at this; exact this
         have hc46 : s.data.toList[pt]'(by rw [HLL.out]; exact h1) = 46 := by
          have := HDV.out pt h1
          rw [List.getElem?_eq_getElem (by rw [HLL.out]; exact h1)] at this
          rw [Option.some.inj this]; exact UInt8.toNat_inj.1 h2
         have h46 : (s[pt].toNat : Int) = 46 := by omega
         have HF4 := Lib.hid (fun x => HFS.out.2.2.2.1 (by rw [HLL.out]; exact h1) hc46 x)
         have HF5 := Lib.hid (fun x y z => HFS.out.2.2.2.2 (by rw [HLL.out]; exact h1) hc46 x y z)
         rw [HLL.out] at HF4 HF5
         go_wp2_with fail
         refine (HEN.out _).mono ?_
         rintro e w1 ⟨rfl, rfl⟩
         generalize hev : dgN s.data.toList (pt + 1) = en at *
         clear hev
         by_cases h0 : pt = 0
         · have hn0 : ((pt : Int) == 0) = true := by simp <;> omega
           have HN := Lib.hid (HPN.out (HBO.out.trans (HFS.out.1 h0)))
           go_wp2_with fail
           go_ret2
           exact ⟨retE HN.out, (Below.refl z0.heap.size z0)⟩
         · have hn0 : ((pt : Int) == 0) = false := by simp <;> omega
           by_cases h3 : en = s.size
           · have hn3 : ((en : Int) != (s.size : Int)) = false := by simp <;> omega
             by_cases h4 : en = pt + 1
             · have hn4 : ((en : Int) == (pt : Int) + 1) = true := by simp <;> omega
               have HN := Lib.hid (HPN.out (HBO.out.trans (HF4.out (.inr h4))))
               clear h3 h4 h0
               go_wp2_with fail
               go_ret2
               exact ⟨retE HN.out, (Below.refl z0.heap.size z0)⟩
             · have hn4 : ((en : Int) == (pt : Int) + 1) = false := by simp <;> omega
               have HG : ∃ w p, zb5 (zde s.data.toList) = some (w, p) ∧ 0 + w.length = pt ∧ Fm s.data.toList 0 w p := by
                obtain ⟨w, p, e1, e2, e3⟩ := HF5.out h0 h3 h4
                exact ⟨w, p, HBO.out.trans e1, e2, e3⟩
               clear HFS HDF HF4 HF5 HEN h3 h4 h0
               obtain ⟨w, p, hfm, hwl, FM⟩ := HG
               have HFM := Lib.hid FM
               have HDD := Lib.hid (zhd FM.dw FM.dp)
               have HDLN : Hid ((zat w p).length = w.length + 4) := by unfold Hid zat; rw [List.length_append, zf1]
               have HFAR : Hid (mostI < valL w p → rV = 0 ∧ rE = 3) := fun h => HPF.out w p hfm h
               have HNEG : Hid (valL w p ≤ mostI → negL s.data.toList = true → rV = -valL w p ∧ rE = 0) := fun h h2 => HPM.out w p hfm h h2
               have HPOS : Hid (valL w p ≤ mostI → negL s.data.toList = false → rV = valL w p ∧ rE = 0) := fun h h2 => HPP.out w p hfm h h2
               have HUP : Hid (dAt p 4 = dvI s (pt + 5)) := by unfold Hid dAt dvI; rw [← FM.hp 4, show 0 + w.length + 1 + 4 = pt + 5 by omega]; rfl
               have HTA : Hid (∀ k, mostI < numL ((zat w p).take k) → mostI < valL w p) := fun k h => by
                have h0 := (zis p).1
                unfold valL
                by_cases hk : k ≤ (zat w p).length
                · have h1 := zf8 HDD.out ((zat w p).length - k) k (by omega)
                  omega
                · rw [List.take_of_length_le (by omega)] at h
                  omega
               clear FM hfm HPN HPF HPM HPP
               go_wp2_with fail
               have hW0 : W2 (z0.alloc (.cells #[.int .u64 0, .int .u64 0] 109)) z0.heap.size 0 0 := World.alloc_heap_new z0 _
               have HB2 := Lib.hid (bnx (Below.refl z0.heap.size z0) ((Below.refl _ z0).alloc (Nat.le_refl _) (.cells #[.int .u64 0, .int .u64 0] 109)))
               have hsz := (Below.refl z0.heap.size z0).size
               generalize z0.alloc (.cells #[.int .u64 0, .int .u64 0] 109) = w2 at *
               go_loopw [8] (fun x wr => ∃ (i : Nat) (H L : Int), 0 ≤ i ∧ i ≤ pt + 5 ∧ x = .int .i64 (i : Int) ∧ Hid (W2 wr z0.heap.size H L) ∧ Hid (IsW H L (numL ((zat w p).take (posI 0 w.length i)))) ∧ Hid (numL ((zat w p).take (posI 0 w.length i)) ≤ 92233720368547758079) ∧ Below z0.heap.size z0 wr) (fun x _ => pt + 5 - (intOf x).toNat)
               case atStart => exact ⟨0, 0, 0, Nat.le_refl _, by omega, rfl, hW0, by unfold posI; rw [if_pos (by omega), Nat.sub_self]; exact IsW.zero, by unfold posI Hid; rw [if_pos (by omega), Nat.sub_self, List.take_zero]; decide, HB2.out⟩
               case round =>
                obtain ⟨i, H, L, hi1, hi2, rfl, HWr, HIW, HBD, hBr⟩ := hrel
                have HBr := Lib.hid hBr
                have hszr := hBr.size
                clear hBr
                by_cases hit : i < pt + 5
                · obtain ⟨c0, c1, g0, g1⟩ := HWr.out.cells
                  have hl := HWr.out.lt
                  have HFR : Hid (¬ (H = 0 ∧ L ≤ 9223372036854775807) → rV = 0 ∧ rE = 3) := fun h => HFAR.out (HTA.out _ (zh2 HIW.out h))
                  by_cases hip : i = pt
                  · have HPS : Hid (posI 0 w.length (i + 1) = posI 0 w.length i) := by unfold Hid posI; rw [if_neg (by omega), if_pos (by omega)]; omega
                    have hne : ((i : Int) != (pt : Int)) = false := by simp <;> omega
                    have hne2 : ((i : Int) == (pt : Int)) = true := by simp <;> omega
                    clear hip
                    by_cases hc : H = 0 ∧ L ≤ 9223372036854775807
                    · obtain ⟨rfl, hc2⟩ := hc
                      go_wp2_with fail
                      exact ⟨⟨i + 1, 0, L, by omega, by omega, by go_num, HWr.out, by rw [HPS.out]; exact HIW.out, by rw [HPS.out]; exact HBD.out, HBr.out⟩, by simp [intOf]; omega⟩
                    · have HE := Lib.hid (HFR.out hc)
                      by_cases hH : H = 0
                      · subst hH
                        have hc2 : 9223372036854775807 < L := by omega
                        clear hc
                        go_wp2_with fail
                        go_ret2
                        exact ⟨retE HE.out, HBr.out⟩
                      · clear hc
                        go_wp2_with fail
                        go_ret2
                        exact ⟨retE HE.out, HBr.out⟩
                  · obtain ⟨q1, q2, q3⟩ := zmv HFM.out hi1 (by omega) (by omega)
                    obtain ⟨q4, q5⟩ := q3 q1
                    have hdb := zgk q5
                    have hst := zf9 _ q1
                    have hq4 : dgv (zat w p)[posI 0 w.length i] = dvI s i := q4
                    rw [hq4] at hdb hst
                    rw [← q2] at hst
                    have HST := Lib.hid hst
                    have hne : ((i : Int) != (pt : Int)) = true := by simp <;> omega
                    have hne2 : ((i : Int) == (pt : Int)) = false := by simp <;> omega
                    clear hip q1 q2 q3 q4 q5 hst hq4
                    by_cases his : i < s.size
                    · have hdv := zlk his
                      rw [hdv] at HST hdb
                      have hb48 : 48 ≤ s[i].toNat := by omega
                      have hb57 : s[i].toNat ≤ 57 := by omega
                      clear hdv hdb
                      by_cases hc : H = 0 ∧ L ≤ 9223372036854775807
                      · obtain ⟨rfl, hc2⟩ := hc
                        have hL0 := (zed HIW.out (by have := HIW.out; unfold IsW InU at this; omega)).2
                        have hLp : 0 ≤ L := by have := HIW.out; unfold IsW InU at this; omega
                        rw [← hL0] at HST
                        clear hL0
                        go_wp2_with fail
                        refine (zck L 10 (by unfold InU; omega) (by unfold InU; omega) _).mono ?_
                        rintro e w3 ⟨h3, l3, rfl, hw3, hB3⟩
                        have HW3 := Lib.hid hw3
                        have HM3 := Lib.hid (HWr.out.later hB3)
                        have HB3 := Lib.hid (bnx HBr.out hB3)
                        clear hw3 hB3 c0 c1 g0 g1 hl
                        go_wp2_with fail
                        refine (zbq h3 l3 0 _ _ _ HW3.out (IsW.low (l := ((s[i].toNat : Int) - 48)) (by unfold InU; omega)) (by omega) _).mono ?_
                        rintro e w4 ⟨h4, l4, rfl, hw4, hB4⟩
                        have HW4 := Lib.hid hw4
                        have HM4 := Lib.hid (HM3.out.later hB4)
                        have HB4 := Lib.hid (bnx HB3.out hB4)
                        clear hw4 hB4
                        obtain ⟨c0, c1, g0, g1⟩ := HM4.out.cells
                        have hl := HM4.out.lt
                        go_wp2_with fail
                        exact ⟨⟨i + 1, h4, l4, by omega, by omega, by go_num, HM4.out.set h4 l4, by rw [HST.out]; exact HW4.out, by rw [HST.out]; unfold Hid; omega, (HB4.out.setCell (p := ⟨z0.heap.size, 0, none⟩) (Nat.le_refl _) _).setCell (p := ⟨z0.heap.size, 1, none⟩) (Nat.le_refl _) _⟩, by simp [intOf]; omega⟩
                      · have HE := Lib.hid (HFR.out hc)
                        by_cases hH : H = 0
                        · subst hH
                          have hc2 : 9223372036854775807 < L := by omega
                          clear hc
                          go_wp2_with fail
                          go_ret2
                          exact ⟨retE HE.out, HBr.out⟩
                        · clear hc
                          go_wp2_with fail
                          go_ret2
                          exact ⟨retE HE.out, HBr.out⟩
                    · have hdv := zeq his
                      rw [hdv] at HST hdb
                      clear hdv hdb
                      by_cases hc : H = 0 ∧ L ≤ 9223372036854775807
                      · obtain ⟨rfl, hc2⟩ := hc
                        have hL0 := (zed HIW.out (by have := HIW.out; unfold IsW InU at this; omega)).2
                        have hLp : 0 ≤ L := by have := HIW.out; unfold IsW InU at this; omega
                        rw [← hL0] at HST
                        clear hL0
                        go_wp2_with fail
                        refine (zck L 10 (by unfold InU; omega) (by unfold InU; omega) _).mono ?_
                        rintro e w3 ⟨h3, l3, rfl, hw3, hB3⟩
                        have HW3 := Lib.hid hw3
                        have HM3 := Lib.hid (HWr.out.later hB3)
                        have HB3 := Lib.hid (bnx HBr.out hB3)
                        clear hw3 hB3 c0 c1 g0 g1 hl
                        go_wp2_with fail
                        refine (zbq h3 l3 0 _ _ _ HW3.out (IsW.low (l := 0) (by unfold InU; omega)) (by omega) _).mono ?_
                        rintro e w4 ⟨h4, l4, rfl, hw4, hB4⟩
                        have HW4 := Lib.hid hw4
                        have HM4 := Lib.hid (HM3.out.later hB4)
                        have HB4 := Lib.hid (bnx HB3.out hB4)
                        clear hw4 hB4
                        obtain ⟨c0, c1, g0, g1⟩ := HM4.out.cells
                        have hl := HM4.out.lt
                        go_wp2_with fail
                        exact ⟨⟨i + 1, h4, l4, by omega, by omega, by go_num, HM4.out.set h4 l4, by rw [HST.out]; exact HW4.out, by rw [HST.out]; unfold Hid; omega, (HB4.out.setCell (p := ⟨z0.heap.size, 0, none⟩) (Nat.le_refl _) _).setCell (p := ⟨z0.heap.size, 1, none⟩) (Nat.le_refl _) _⟩, by simp [intOf]; omega⟩
                      · have HE := Lib.hid (HFR.out hc)
                        by_cases hH : H = 0
                        · subst hH
                          have hc2 : 9223372036854775807 < L := by omega
                          clear hc
                          go_wp2_with fail
                          go_ret2
                          exact ⟨retE HE.out, HBr.out⟩
                        · clear hc
                          go_wp2_with fail
                          go_ret2
                          exact ⟨retE HE.out, HBr.out⟩
                · obtain rfl : i = pt + 5 := by omega
                  have HE0 : Hid ((zat w p).take (posI 0 w.length (pt + 5)) = zat w p) := by unfold Hid posI; rw [if_neg (by omega), List.take_of_length_le (by rw [HDLN.out]; omega)]
                  rw [HE0.out] at HIW HBD
                  have hbd := HBD.out
                  have hn0 := zcf _ HDD.out
                  obtain ⟨c0, c1, g0, g1⟩ := HWr.out.cells
                  have hl := HWr.out.lt
                  have HVL : Hid (valL w p = numL (zat w p) + upL p) := rfl
                  have HUI : Hid (upL p = if 5 ≤ dvI s (pt + 5) then 1 else 0) := by unfold Hid upL; rw [HUP.out]
                  clear HTA HE0 HUP HFM HDD HDLN HBD
                  generalize numL (zat w p) = nn at *
                  generalize upL p = uu at *
                  generalize valL w p = vv at *
                  by_cases h5 : pt + 5 < s.size
                  · have hdv := zlk h5
                    rw [hdv] at HUI
                    by_cases h53 : 53 ≤ s[pt + 5].toNat
                    · have HV2 : Hid (vv = nn + 1) := by rw [HVL.out, HUI.out, if_pos (by omega)]; rfl
                      clear hdv HVL HUI
                      go_wp2_with fail
                      refine (zbq H L 0 1 _ _ HIW.out (IsW.low (l := 1) (by unfold InU; omega)) (by omega) _).mono ?_
                      rintro e w3 ⟨h3, l3, rfl, hw3, hB3⟩
                      rw [← HV2.out] at hw3
                      have HW3 := Lib.hid hw3
                      have HM3 := Lib.hid (HWr.out.later hB3)
                      have HB3 := Lib.hid (bnx HBr.out hB3)
                      clear hw3 hB3 c0 c1 g0 g1 hl
                      obtain ⟨c0, c1, g0, g1⟩ := HM3.out.cells
                      have hl := HM3.out.lt
                      have HM4 := Lib.hid (HM3.out.set h3 l3)
                      have HB4 := Lib.hid ((HB3.out.setCell (p := ⟨z0.heap.size, 0, none⟩) (Nat.le_refl _) (.int .u64 h3)).setCell (p := ⟨z0.heap.size, 1, none⟩) (Nat.le_refl _) (.int .u64 l3))
                      go_wp2_with fail
                      refine (zbw h3 l3 vv HW3.out false _).mono ?_
                      rintro e w5 ⟨rfl, hB5⟩
                      have HB5 := Lib.hid (bnx HB4.out hB5)
                      clear hB5
                      have hvv : 0 ≤ vv := by have := HV2.out; omega
                      by_cases hm : vv ≤ 9223372036854775807
                      · have hrv : resV (sg vv false) = vv := by rw [show sg vv false = vv from rfl]; exact ze5 (by omega)
                        have hrb : resB (sg vv false) = true := by rw [show sg vv false = vv from rfl]; exact ze6 (by omega)
                        have HR := Lib.hid (HPOS.out hm HNG.out)
                        rw [hrv, hrb]
                        clear hrv hrb
                        go_wp2_with fail
                        go_ret2
                        exact ⟨retE HR.out, HB5.out⟩
                      · have hrb : resB (sg vv false) = false := by rw [show sg vv false = vv from rfl]; exact ze7 (by omega)
                        have HR := Lib.hid (HFAR.out (by unfold mostI; omega))
                        rw [hrb]
                        clear hrb
                        go_wp2_with fail
                        go_ret2
                        exact ⟨retE HR.out, HB5.out⟩
                    · have HV2 : Hid (vv = nn) := by rw [HVL.out, HUI.out, if_neg (by omega)]; exact Int.add_zero _
                      have hlt53 : s[pt + 5].toNat < 53 := by omega
                      clear hdv HVL HUI
                      rw [← HV2.out] at HIW
                      go_wp2_with fail
                      refine (zbw H L vv HIW.out false _).mono ?_
                      rintro e w5 ⟨rfl, hB5⟩
                      have HB5 := Lib.hid (bnx HBr.out hB5)
                      clear hB5
                      have hvv : 0 ≤ vv := by have := HV2.out; omega
                      by_cases hm : vv ≤ 9223372036854775807
                      · have hrv : resV (sg vv false) = vv := by rw [show sg vv false = vv from rfl]; exact ze5 (by omega)
                        have hrb : resB (sg vv false) = true := by rw [show sg vv false = vv from rfl]; exact ze6 (by omega)
                        have HR := Lib.hid (HPOS.out hm HNG.out)
                        rw [hrv, hrb]
                        clear hrv hrb
                        go_wp2_with fail
                        go_ret2
                        exact ⟨retE HR.out, HB5.out⟩
                      · have hrb : resB (sg vv false) = false := by rw [show sg vv false = vv from rfl]; exact ze7 (by omega)
                        have HR := Lib.hid (HFAR.out (by unfold mostI; omega))
                        rw [hrb]
                        clear hrb
                        go_wp2_with fail
                        go_ret2
                        exact ⟨retE HR.out, HB5.out⟩
                  · have hdv := zeq h5
                    rw [hdv] at HUI
                    have HV2 : Hid (vv = nn) := by rw [HVL.out, HUI.out, if_neg (by omega)]; exact Int.add_zero _
                    clear hdv HVL HUI
                    rw [← HV2.out] at HIW
                    go_wp2_with fail
                    refine (zbw H L vv HIW.out false _).mono ?_
                    rintro e w5 ⟨rfl, hB5⟩
                    have HB5 := Lib.hid (bnx HBr.out hB5)
                    clear hB5
                    have hvv : 0 ≤ vv := by have := HV2.out; omega
                    by_cases hm : vv ≤ 9223372036854775807
                    · have hrv : resV (sg vv false) = vv := by rw [show sg vv false = vv from rfl]; exact ze5 (by omega)
                      have hrb : resB (sg vv false) = true := by rw [show sg vv false = vv from rfl]; exact ze6 (by omega)
                      have HR := Lib.hid (HPOS.out hm HNG.out)
                      rw [hrv, hrb]
                      clear hrv hrb
                      go_wp2_with fail
                      go_ret2
                      exact ⟨retE HR.out, HB5.out⟩
                    · have hrb : resB (sg vv false) = false := by rw [show sg vv false = vv from rfl]; exact ze7 (by omega)
                      have HR := Lib.hid (HFAR.out (by unfold mostI; omega))
                      rw [hrb]
                      clear hrb
                      go_wp2_with fail
                      go_ret2
                      exact ⟨retE HR.out, HB5.out⟩
           · have hn3 : ((en : Int) != (s.size : Int)) = true := by simp <;> omega
             have HN := Lib.hid (HPN.out (HBO.out.trans (HF4.out (.inl h3))))
             clear h3
             go_wp2_with fail
             go_ret2
             exact ⟨retE HN.out, (Below.refl z0.heap.size z0)⟩
       · have hc46 : s.data.toList[pt]'(by rw [HLL.out]; exact h1) ≠ 46 := fun e => h2 (by
          have := HDV.out pt h1
          rw [List.getElem?_eq_getElem (by rw [HLL.out]; exact h1), e] at this
          rw [← Option.some.inj this]; rfl)
         have h46 : ((s[pt].toNat : Int) == 46) = false := by simp <;> omega
         have hn1 : ((pt : Int) == (s.size : Int)) = false := by simp <;> omega
         by_cases h0 : pt = 0
         · subst h0
           have HN := Lib.hid (HPN.out (HBO.out.trans (HFS.out.1 rfl)))
           go_wp2_with fail
           go_ret2
           exact ⟨retE HN.out, (Below.refl z0.heap.size z0)⟩
         · have hn0 : ((pt : Int) == 0) = false := by simp <;> omega
           have HN := Lib.hid (HPN.out (HBO.out.trans (HFS.out.2.2.1 (by rw [HLL.out]; exact h1) hc46)))
           go_wp2_with fail
           go_ret2
           exact ⟨retE HN.out, (Below.refl z0.heap.size z0)⟩
     · have h1' : pt = s.size := by omega
       by_cases h0 : pt = 0
       · exfalso; omega
       · have hn0 : ((pt : Int) == 0) = false := by simp <;> omega
         have hn2 : ((pt : Int) == (pt : Int) + 1) = false := by simp <;> omega
         have HG : ∃ w p, zb5 (zde s.data.toList) = some (w, p) ∧ 0 + w.length = pt ∧ Fm s.data.toList 0 w p := by
          obtain ⟨w, e1, e2, e3⟩ := HFS.out.2.1 (by rw [HLL.out]; exact h1') h0
          exact ⟨w, [], HBO.out.trans e1, e2, e3⟩
         have hn3 : ((pt : Int) != (s.size : Int)) = false := by simp <;> omega
         have hn4 : ¬ pt < s.size := h1
         clear HFS HDF h1'
         obtain ⟨w, p, hfm, hwl, FM⟩ := HG
         have HFM := Lib.hid FM
         have HDD := Lib.hid (zhd FM.dw FM.dp)
         have HDLN : Hid ((zat w p).length = w.length + 4) := by unfold Hid zat; rw [List.length_append, zf1]
         have HFAR : Hid (mostI < valL w p → rV = 0 ∧ rE = 3) := fun h => HPF.out w p hfm h
         have HNEG : Hid (valL w p ≤ mostI → negL s.data.toList = true → rV = -valL w p ∧ rE = 0) := fun h h2 => HPM.out w p hfm h h2
         have HPOS : Hid (valL w p ≤ mostI → negL s.data.toList = false → rV = valL w p ∧ rE = 0) := fun h h2 => HPP.out w p hfm h h2
         have HUP : Hid (dAt p 4 = dvI s (pt + 5)) := by unfold Hid dAt dvI; rw [← FM.hp 4, show 0 + w.length + 1 + 4 = pt + 5 by omega]; rfl
         have HTA : Hid (∀ k, mostI < numL ((zat w p).take k) → mostI < valL w p) := fun k h => by
          have h0 := (zis p).1
          unfold valL
          by_cases hk : k ≤ (zat w p).length
          · have h1 := zf8 HDD.out ((zat w p).length - k) k (by omega)
            omega
          · rw [List.take_of_length_le (by omega)] at h
            omega
         clear FM hfm HPN HPF HPM HPP
         go_wp2_with fail
         have hW0 : W2 (z0.alloc (.cells #[.int .u64 0, .int .u64 0] 109)) z0.heap.size 0 0 := World.alloc_heap_new z0 _
         have HB2 := Lib.hid (bnx (Below.refl z0.heap.size z0) ((Below.refl _ z0).alloc (Nat.le_refl _) (.cells #[.int .u64 0, .int .u64 0] 109)))
         have hsz := (Below.refl z0.heap.size z0).size
         generalize z0.alloc (.cells #[.int .u64 0, .int .u64 0] 109) = w2 at *
         go_loopw [8] (fun x wr => ∃ (i : Nat) (H L : Int), 0 ≤ i ∧ i ≤ pt + 5 ∧ x = .int .i64 (i : Int) ∧ Hid (W2 wr z0.heap.size H L) ∧ Hid (IsW H L (numL ((zat w p).take (posI 0 w.length i)))) ∧ Hid (numL ((zat w p).take (posI 0 w.length i)) ≤ 92233720368547758079) ∧ Below z0.heap.size z0 wr) (fun x _ => pt + 5 - (intOf x).toNat)
         case atStart => exact ⟨0, 0, 0, Nat.le_refl _, by omega, rfl, hW0, by unfold posI; rw [if_pos (by omega), Nat.sub_self]; exact IsW.zero, by unfold posI Hid; rw [if_pos (by omega), Nat.sub_self, List.take_zero]; decide, HB2.out⟩
         case round =>
          obtain ⟨i, H, L, hi1, hi2, rfl, HWr, HIW, HBD, hBr⟩ := hrel
          have HBr := Lib.hid hBr
          have hszr := hBr.size
          clear hBr
          by_cases hit : i < pt + 5
          · obtain ⟨c0, c1, g0, g1⟩ := HWr.out.cells
            have hl := HWr.out.lt
            have HFR : Hid (¬ (H = 0 ∧ L ≤ 9223372036854775807) → rV = 0 ∧ rE = 3) := fun h => HFAR.out (HTA.out _ (zh2 HIW.out h))
            by_cases hip : i = pt
            · have HPS : Hid (posI 0 w.length (i + 1) = posI 0 w.length i) := by unfold Hid posI; rw [if_neg (by omega), if_pos (by omega)]; omega
              have hne : ((i : Int) != (pt : Int)) = false := by simp <;> omega
              have hne2 : ((i : Int) == (pt : Int)) = true := by simp <;> omega
              clear hip
              by_cases hc : H = 0 ∧ L ≤ 9223372036854775807
              · obtain ⟨rfl, hc2⟩ := hc
                go_wp2_with fail
                exact ⟨⟨i + 1, 0, L, by omega, by omega, by go_num, HWr.out, by rw [HPS.out]; exact HIW.out, by rw [HPS.out]; exact HBD.out, HBr.out⟩, by simp [intOf]; omega⟩
              · have HE := Lib.hid (HFR.out hc)
                by_cases hH : H = 0
                · subst hH
                  have hc2 : 9223372036854775807 < L := by omega
                  clear hc
                  go_wp2_with fail
                  go_ret2
                  exact ⟨retE HE.out, HBr.out⟩
                · clear hc
                  go_wp2_with fail
                  go_ret2
                  exact ⟨retE HE.out, HBr.out⟩
            · obtain ⟨q1, q2, q3⟩ := zmv HFM.out hi1 (by omega) (by omega)
              obtain ⟨q4, q5⟩ := q3 q1
              have hdb := zgk q5
              have hst := zf9 _ q1
              have hq4 : dgv (zat w p)[posI 0 w.length i] = dvI s i := q4
              rw [hq4] at hdb hst
              rw [← q2] at hst
              have HST := Lib.hid hst
              have hne : ((i : Int) != (pt : Int)) = true := by simp <;> omega
              have hne2 : ((i : Int) == (pt : Int)) = false := by simp <;> omega
              clear hip q1 q2 q3 q4 q5 hst hq4
              by_cases his : i < s.size
              · have hdv := zlk his
                rw [hdv] at HST hdb
                have hb48 : 48 ≤ s[i].toNat := by omega
                have hb57 : s[i].toNat ≤ 57 := by omega
                clear hdv hdb
                by_cases hc : H = 0 ∧ L ≤ 9223372036854775807
                · obtain ⟨rfl, hc2⟩ := hc
                  have hL0 := (zed HIW.out (by have := HIW.out; unfold IsW InU at this; omega)).2
                  have hLp : 0 ≤ L := by have := HIW.out; unfold IsW InU at this; omega
                  rw [← hL0] at HST
                  clear hL0
                  go_wp2_with fail
                  refine (zck L 10 (by unfold InU; omega) (by unfold InU; omega) _).mono ?_
                  rintro e w3 ⟨h3, l3, rfl, hw3, hB3⟩
                  have HW3 := Lib.hid hw3
                  have HM3 := Lib.hid (HWr.out.later hB3)
                  have HB3 := Lib.hid (bnx HBr.out hB3)
                  clear hw3 hB3 c0 c1 g0 g1 hl
                  go_wp2_with fail
                  refine (zbq h3 l3 0 _ _ _ HW3.out (IsW.low (l := ((s[i].toNat : Int) - 48)) (by unfold InU; omega)) (by omega) _).mono ?_
                  rintro e w4 ⟨h4, l4, rfl, hw4, hB4⟩
                  have HW4 := Lib.hid hw4
                  have HM4 := Lib.hid (HM3.out.later hB4)
                  have HB4 := Lib.hid (bnx HB3.out hB4)
                  clear hw4 hB4
                  obtain ⟨c0, c1, g0, g1⟩ := HM4.out.cells
                  have hl := HM4.out.lt
                  go_wp2_with fail
                  exact ⟨⟨i + 1, h4, l4, by omega, by omega, by go_num, HM4.out.set h4 l4, by rw [HST.out]; exact HW4.out, by rw [HST.out]; unfold Hid; omega, (HB4.out.setCell (p := ⟨z0.heap.size, 0, none⟩) (Nat.le_refl _) _).setCell (p := ⟨z0.heap.size, 1, none⟩) (Nat.le_refl _) _⟩, by simp [intOf]; omega⟩
                · have HE := Lib.hid (HFR.out hc)
                  by_cases hH : H = 0
                  · subst hH
                    have hc2 : 9223372036854775807 < L := by omega
                    clear hc
                    go_wp2_with fail
                    go_ret2
                    exact ⟨retE HE.out, HBr.out⟩
                  · clear hc
                    go_wp2_with fail
                    go_ret2
                    exact ⟨retE HE.out, HBr.out⟩
              · have hdv := zeq his
                rw [hdv] at HST hdb
                clear hdv hdb
                by_cases hc : H = 0 ∧ L ≤ 9223372036854775807
                · obtain ⟨rfl, hc2⟩ := hc
                  have hL0 := (zed HIW.out (by have := HIW.out; unfold IsW InU at this; omega)).2
                  have hLp : 0 ≤ L := by have := HIW.out; unfold IsW InU at this; omega
                  rw [← hL0] at HST
                  clear hL0
                  go_wp2_with fail
                  refine (zck L 10 (by unfold InU; omega) (by unfold InU; omega) _).mono ?_
                  rintro e w3 ⟨h3, l3, rfl, hw3, hB3⟩
                  have HW3 := Lib.hid hw3
                  have HM3 := Lib.hid (HWr.out.later hB3)
                  have HB3 := Lib.hid (bnx HBr.out hB3)
                  clear hw3 hB3 c0 c1 g0 g1 hl
                  go_wp2_with fail
                  refine (zbq h3 l3 0 _ _ _ HW3.out (IsW.low (l := 0) (by unfold InU; omega)) (by omega) _).mono ?_
                  rintro e w4 ⟨h4, l4, rfl, hw4, hB4⟩
                  have HW4 := Lib.hid hw4
                  have HM4 := Lib.hid (HM3.out.later hB4)
                  have HB4 := Lib.hid (bnx HB3.out hB4)
                  clear hw4 hB4
                  obtain ⟨c0, c1, g0, g1⟩ := HM4.out.cells
                  have hl := HM4.out.lt
                  go_wp2_with fail
                  exact ⟨⟨i + 1, h4, l4, by omega, by omega, by go_num, HM4.out.set h4 l4, by rw [HST.out]; exact HW4.out, by rw [HST.out]; unfold Hid; omega, (HB4.out.setCell (p := ⟨z0.heap.size, 0, none⟩) (Nat.le_refl _) _).setCell (p := ⟨z0.heap.size, 1, none⟩) (Nat.le_refl _) _⟩, by simp [intOf]; omega⟩
                · have HE := Lib.hid (HFR.out hc)
                  by_cases hH : H = 0
                  · subst hH
                    have hc2 : 9223372036854775807 < L := by omega
                    clear hc
                    go_wp2_with fail
                    go_ret2
                    exact ⟨retE HE.out, HBr.out⟩
                  · clear hc
                    go_wp2_with fail
                    go_ret2
                    exact ⟨retE HE.out, HBr.out⟩
          · obtain rfl : i = pt + 5 := by omega
            have HE0 : Hid ((zat w p).take (posI 0 w.length (pt + 5)) = zat w p) := by unfold Hid posI; rw [if_neg (by omega), List.take_of_length_le (by rw [HDLN.out]; omega)]
            rw [HE0.out] at HIW HBD
            have hbd := HBD.out
            have hn0 := zcf _ HDD.out
            obtain ⟨c0, c1, g0, g1⟩ := HWr.out.cells
            have hl := HWr.out.lt
            have HVL : Hid (valL w p = numL (zat w p) + upL p) := rfl
            have HUI : Hid (upL p = if 5 ≤ dvI s (pt + 5) then 1 else 0) := by unfold Hid upL; rw [HUP.out]
            clear HTA HE0 HUP HFM HDD HDLN HBD
            generalize numL (zat w p) = nn at *
            generalize upL p = uu at *
            generalize valL w p = vv at *
            by_cases h5 : pt + 5 < s.size
            · exfalso; omega
            · have hdv := zeq h5
              rw [hdv] at HUI
              have HV2 : Hid (vv = nn) := by rw [HVL.out, HUI.out, if_neg (by omega)]; exact Int.add_zero _
              clear hdv HVL HUI
              rw [← HV2.out] at HIW
              go_wp2_with fail
              refine (zbw H L vv HIW.out false _).mono ?_
              rintro e w5 ⟨rfl, hB5⟩
              have HB5 := Lib.hid (bnx HBr.out hB5)
              clear hB5
              have hvv : 0 ≤ vv := by have := HV2.out; omega
              by_cases hm : vv ≤ 9223372036854775807
              · have hrv : resV (sg vv false) = vv := by rw [show sg vv false = vv from rfl]; exact ze5 (by omega)
                have hrb : resB (sg vv false) = true := by rw [show sg vv false = vv from rfl]; exact ze6 (by omega)
                have HR := Lib.hid (HPOS.out hm HNG.out)
                rw [hrv, hrb]
                clear hrv hrb
                go_wp2_with fail
                go_ret2
                exact ⟨retE HR.out, HB5.out⟩
              · have hrb : resB (sg vv false) = false := by rw [show sg vv false = vv from rfl]; exact ze7 (by omega)
                have HR := Lib.hid (HFAR.out (by unfold mostI; omega))
                rw [hrb]
                clear hrb
                go_wp2_with fail
                go_ret2
                exact ⟨retE HR.out, HB5.out⟩
   · clear hneg
     go_enter Tryz.func103, Tryz.ntmps103
     have hd0 : dgN s.data.toList 0 = 0 := by
      have := zoe (l := s.data.toList) (a := 0) (Nat.zero_le _)
      rw [HLL.out] at this
      omega
     have HN := Lib.hid (HPN.out (HBO.out.trans ((zjq s.data.toList 0 (Nat.zero_le _)).1 hd0)))
     have HDF := Lib.hid (fun w => zc2 s hs 0 0 rfl (by omega) w)
     rw [hd0] at HDF
     clear hd0
     go_wp2_with fail
     refine (HDF.out _).mono ?_
     rintro e w1 ⟨rfl, rfl⟩
     go_wp2_with fail
     go_ret2
     exact ⟨retE HN.out, (Below.refl z0.heap.size z0)⟩
end Go.Proofs.YtdhahiodnmmkeaaGreatDoor.Tx
