/- Merged: FnA FnuB FnuD FnuE. -/
import Derived.Test.YtdhahiodnmmkeaaGreatDoorFuB
import Derived.Test.YtdhahiodnmmkeaaGreatDoorMgh
import Derived.Test.YtdhahiodnmmkeaaGreatDoorDecSqrt
import Derived.Test.YtdhahiodnmmkeaaGreatDoorDecA
import Derived.Laws.MathBits
import Derived.Laws.Externs
import Derived.Test.YtdhahiodnmmkeaaGreatDoorDivMath
import Derived.Deep.CutBlock
import Derived.Deep.QuietTactic
import Derived.BigQuiet
import Derived.Deep.DeepCutAuto
import Derived.Test.YtdhahiodnmmkeaaGreatDoorDecRnd
import Derived.Test.YtdhahiodnmmkeaaGreatDoorHold
import Derived.Test.YtdhahiodnmmkeaaGreatDoorRefMul
import Derived.Deep.RegionWith
/- fnum: what it makes of numbers; number, modulo, power, sign of both sides. -/
namespace Go.Proofs.YtdhahiodnmmkeaaGreatDoor.Va
open Go Go.RowKit GM
set_option linter.unusedVariables false
set_option linter.unusedSimpArgs false
def mkV (n : Int) : V3 := (mkK n, mkN n, ⟨#[]⟩)
def flV (c : Int) : V3 := (4, c, ⟨#[]⟩)
end Go.Proofs.YtdhahiodnmmkeaaGreatDoor.Va
/- fnum.Call: its parts that read the list of arguments. -/
namespace Go.Proofs.YtdhahiodnmmkeaaGreatDoor.Va
open Go Go.RowKit GM
set_option linter.unusedVariables false
set_option linter.unusedSimpArgs false
set_option maxHeartbeats 3200000 in
theorem pvalid_any (a : Option Addr) (n cap : Nat) (L : List V3) (hn : n ≤ 1000) (w : World) (hL : IsV w a n L) (hv : ∀ v ∈ L, v.2.2.size ≤ maxLen ∧ leastI ≤ v.2.1) :
    Calls Tryz.prog 63 #[.slice a n cap] w fun e w' => e = .returned (.bool (okL L)) ∧ Below w.heap.size w w' := by
  have HL := Lib.hid hL
  have HNL := Lib.hid hL.1
  have HV : Hid (∀ v ∈ L, ∀ W : World, Calls Tryz.prog 49 #[.agg #[.int .u8 (v.1 : Int), .int .i64 v.2.1, .string v.2.2]] W fun e w' => e = .returned (.int .i64 (vE v.1 v.2.1 v.2.2.data.toList)) ∧ Below W.heap.size W w') := fun v hvm W => vcheck_any v.1 v.2.1 v.2.2 (hv v hvm).1 (hv v hvm).2 W
  clear hL hv
  go_enter Tryz.func63, Tryz.ntmps63
  go_wp2_with fail
  go_loopw [7] (fun i wr => ∃ k : Nat, k ≤ n ∧ i = .int .i64 (k : Int) ∧ Hid (Below w.heap.size w wr) ∧ Hid (okL (L.take k) = true)) (fun i _ => n - (intOf i).toNat)
  case atStart => exact ⟨0, Nat.zero_le _, rfl, Below.refl _ _, rfl⟩
  case round =>
    obtain ⟨k, hk, rfl, HB, HOK⟩ := hrel
    by_cases hlt : k < n
    · have hkl : k < L.length := by rw [HNL.out]; exact hlt
      have HVk := Lib.hid (HV.out L[k] (List.getElem_mem hkl))
      obtain ⟨b, off, rfl, hbl, c1, c2, c3⟩ := isV_at (IsOf.later HL.out HB.out) hkl
      have hst := okL_step hkl HOK.out
      have HBAD := Lib.hid (fun h => okL_bad (L := L) (k := k) h)
      have hv02 : vE L[k].1 L[k].2.1 L[k].2.2.data.toList = 0 ∨ vE L[k].1 L[k].2.1 L[k].2.2.data.toList = 2 := by unfold vE; split <;> simp
      generalize L[k] = vv at *
      obtain ⟨kd, nm, tx⟩ := vv
      dsimp only at c1 c2 c3 HVk hst hv02
      have HST := Lib.hid hst
      have HBa := Lib.hid (vnext HB.out (valloc wr (.cells #[.int .u8 (kd : Int), .int .i64 nm, .string tx] 26)))
      clear hst
      go_wp2_with fail
      generalize wr.alloc (.cells #[.int .u8 (kd : Int), .int .i64 nm, .string tx] 26) = wb at *
      refine (HVk.out _).mono ?_
      rintro e w2 ⟨rfl, hB2⟩
      have HB2 := Lib.hid (vnext HBa.out hB2)
      clear hB2 c1 c2 c3 hbl HVk
      rcases hv02 with h0 | h2
      · have HTN : Hid (okL (L.take (k + 1)) = true) := by unfold Hid; rw [HST.out, h0]; rfl
        rw [h0]
        clear h0
        go_wp2_with fail
        exact ⟨⟨k + 1, by omega, by go_num, HB2.out, HTN.out⟩, by simp [intOf]; omega⟩
      · have HTN : Hid (okL L = false) := HBAD.out (by rw [HST.out, h2]; rfl)
        rw [h2]
        clear h2
        go_wp2_with fail
        refine bodyPost_ret (v := .bool false) (by simp [results, Tryz.results63, go_sem]) rfl ⟨by rw [HTN.out], HB2.out⟩
    · have HTN : Hid (okL L = true) := by
        unfold Hid
        have := HOK.out
        rwa [List.take_of_length_le (by rw [HNL.out]; omega)] at this
      go_wp2_with fail
      refine bodyPost_ret (v := .bool true) (by simp [results, Tryz.results63, go_sem]) rfl ⟨by rw [HTN.out], HB.out⟩
/-- A value as a number. -/
def c1V (v : V3) : V3 := cvR 1 v.1 v.2.1 v.2.2
/-- The first of the values that is no number, or the numbers. -/
def nmR : List V3 → List Int → List Int ⊕ V3
  | [], M => .inl M
  | v :: L, M => if (c1V v).1 = 4 then .inr (c1V v) else nmR L (M ++ [(c1V v).2.1])
theorem nmR_step {L : List V3} {k : Nat} (h : k < L.length) (M : List Int) : nmR (L.drop k) M = if (c1V L[k]).1 = 4 then .inr (c1V L[k]) else nmR (L.drop (k + 1)) (M ++ [(c1V L[k]).2.1]) := by
  rw [List.drop_eq_getElem_cons h]; rfl
theorem nmR_end {L : List V3} {k : Nat} (h : L.length ≤ k) (M : List Int) : nmR (L.drop k) M = .inl M := by
  rw [List.drop_of_length_le h]; rfl
theorem nmR_len : ∀ (L : List V3) (M M' : List Int), nmR L M = .inl M' → M'.length = M.length + L.length ∧ ∀ x ∈ M', x ∈ M ∨ ∃ v ∈ L, x = (c1V v).2.1 ∧ (c1V v).1 ≠ 4
  | [], M, M', h => by
    injection h with h; subst h
    exact ⟨rfl, fun x hx => .inl hx⟩
  | v :: L, M, M', h => by
    have e : nmR (v :: L) M = if (c1V v).1 = 4 then .inr (c1V v) else nmR L (M ++ [(c1V v).2.1]) := rfl
    rw [e] at h
    split at h
    · cases h
    · next h4 =>
      obtain ⟨h1, h2⟩ := nmR_len L _ M' h
      refine ⟨by rw [h1]; simp; omega, fun x hx => ?_⟩
      rcases h2 x hx with h3 | ⟨u, hu, h3⟩
      · rcases List.mem_append.1 h3 with h3 | h3
        · exact .inl h3
        · exact .inr ⟨v, List.mem_cons_self .., List.mem_singleton.1 h3, h4⟩
      · exact .inr ⟨u, List.mem_cons_of_mem _ hu, h3⟩
/-- The cells that fill writes: those of the numbers so far, and zeros. -/
def FilP (ps : List Nat) (M : List Int) (w : World) : Prop := ∀ j (h : j < ps.length), w.heap[ps[j]]? = some (.cells #[.int .i64 (M.getD j 0)] 2)
theorem FilP.later {ps : List Nat} {M : List Int} {w w' : World} (h : FilP ps M w) (hB : Below w.heap.size w w') : FilP ps M w' := fun j hj => (hB.block _ (Array.getElem?_eq_some_iff.1 (h j hj)).1).trans (h j hj)
theorem FilP.drew {ps : List Nat} {M : List Int} {w : World} (h : FilP ps M w) : FilP ps M w.drew := h
theorem FilP.set {ps : List Nat} {M : List Int} {w : World} (h : FilP ps M w) (hnd : ps.Nodup) (hk : M.length < ps.length) (x : Int) : FilP ps (M ++ [x]) (w.setCell ⟨ps[M.length], 0, none⟩ (.int .i64 x)) := by
  intro j hj
  by_cases e : j = M.length
  · subst e
    have := h M.length hk
    simp [World.setCell, Array.getElem?_modify, this]
  · have hne : ps[M.length] ≠ ps[j] := fun h' => e ((List.getElem_inj hnd).1 h').symm
    rw [Below.heap_setCell _ _ _ _ (Ne.symm hne), h j hj]
    congr 3
    rw [List.getD_eq_getElem?_getD, List.getD_eq_getElem?_getD]
    by_cases h2 : j < M.length
    · rw [List.getElem?_append_left h2]
    · rw [List.getElem?_eq_none (by omega), List.getElem?_eq_none (by simp; omega)]
/-- The pointers that fill gets. -/
def QP (ps : List Nat) (q : Nat) (w : World) : Prop := q < w.heap.size ∧ ∀ j (h : j < ps.length), w.cell? ⟨q, j, none⟩ = some (.pointer (some ⟨ps[j], 0, none⟩))
theorem QP.later {ps : List Nat} {q : Nat} {w w' : World} (h : QP ps q w) (hB : Below w.heap.size w w') : QP ps q w' := ⟨Nat.lt_of_lt_of_le h.1 hB.size, fun j hj => (hB.cell (p := ⟨q, j, none⟩) h.1).trans (h.2 j hj)⟩
theorem QP.set {ps : List Nat} {q p : Nat} {w : World} (h : QP ps q w) (hne : q ≠ p) (u : Value) : QP ps q (w.setCell ⟨p, 0, none⟩ u) :=
  ⟨by simpa [World.setCell] using h.1, fun j hj => (World.cell?_of_block (a := ⟨q, j, none⟩) (Below.heap_setCell w ⟨p, 0, none⟩ u q hne)).trans (h.2 j hj)⟩
theorem FilP.at_ {ps : List Nat} {M : List Int} {w : World} (h : FilP ps M w) {j : Nat} (hj : j < ps.length) : ps[j] < w.heap.size ∧ w.cell? ⟨ps[j], 0, none⟩ = some (.int .i64 (M.getD j 0)) ∧ w.frozen? ⟨ps[j], 0, none⟩ = false := by
  have := h j hj
  refine ⟨(Array.getElem?_eq_some_iff.1 this).1, ?_, ?_⟩
  · simp [World.cell?, this]
  · simp [World.frozen?, this]
theorem FilP.b3 {ps : List Nat} {M : List Int} {w : World} (h : FilP ps M w) {p k : Nat} {n : Int} {s : ByteArray} (hb : B3 w p k n s) : ∀ x ∈ ps, p ≠ x := by
  intro x hx e
  obtain ⟨j, hj, rfl⟩ := List.getElem_of_mem hx
  have h1 := h j hj
  unfold B3 at hb
  rw [← e, hb] at h1
  injection h1 with h1
  injection h1 with h1 h2 h3
  simp at h1
/-- What fill returns. -/
def FlP (R : List Int ⊕ V3) (ps : List Nat) (e : Ending) (w' : World) : Prop :=
  match R with
  | .inl M => e = .returned (.tuple #[.agg #[.int .u8 0, .int .i64 0, .string ⟨#[]⟩], .bool true]) ∧ FilP ps M w'
  | .inr x => e = .returned (.tuple #[.agg #[.int .u8 (x.1 : Int), .int .i64 x.2.1, .string x.2.2], .bool false])
set_option maxRecDepth 100000 in
set_option maxHeartbeats 6400000 in
theorem fill_any (w0 : World) (a : Option Addr) (n cap q p0 : Nat) (L : List V3) (ps : List Nat) (hps : ps.length = n) (hnd : ps.Nodup) (hn : n ≤ 2) (hL : IsV w0 a n L) (hv : ∀ v ∈ L, v.2.2.size ≤ 2000 ∧ InI v.2.1) (hT : Tb w0)
    (hlo : ∀ p ∈ ps, w0.heap.size ≤ p) (w : World) (hB : Below w0.heap.size w0 w) (hQ : QP ps q w) (hqn : ∀ p ∈ ps, q ≠ p) (hF : FilP ps [] w) (hP : B3 w p0 0 0 ⟨#[]⟩) :
    Calls Tryz.prog 55 #[.slice a n cap, .slice (some ⟨q, 0, none⟩) n n] w fun e w' => FlP (nmR L []) ps e w' ∧ Below w0.heap.size w0 w' ∧ B3 w' p0 0 0 ⟨#[]⟩ ∧ w.heap.size ≤ w'.heap.size := by
  have HL := Lib.hid hL
  have HNL := Lib.hid hL.1
  have HV := Lib.hid hv
  have HT := Lib.hid hT
  have HLO := Lib.hid hlo
  have HQN := Lib.hid hqn
  have HND := Lib.hid hnd
  have l1 := valloc w (.cells #[.int .u8 0, .int .i64 0, .string ⟨#[]⟩] 26)
  have HB := Lib.hid (show Below w0.heap.size w0 (w.alloc (.cells #[.int .u8 0, .int .i64 0, .string ⟨#[]⟩] 26)) from hB.trans (l1.mono hB.size))
  have HX : Hid (B3 (w.alloc (.cells #[.int .u8 0, .int .i64 0, .string ⟨#[]⟩] 26)) w.heap.size 0 0 ⟨#[]⟩) := B3.start w 0 0 ⟨#[]⟩
  have HQ := Lib.hid (hQ.later l1)
  have HF := Lib.hid (hF.later l1)
  have HP := Lib.hid (hP.later l1)
  have HS := Lib.hid l1.size
  obtain ⟨R, hR⟩ : ∃ R, nmR L [] = R := ⟨_, rfl⟩
  rw [hR]
  have HR : Hid (nmR (L.drop 0) [] = R) := by rw [List.drop_zero]; exact hR
  have hp0w : p0 < w.heap.size := hP.lt
  have HW0 : Hid (w0.heap.size ≤ w.heap.size) := hB.size
  have HXP : Hid (p0 ≠ w.heap.size) := by unfold Hid; omega
  clear hL hv hT hlo hqn hnd l1 hB hQ hF hP hR
  go_enter Tryz.func55, Tryz.ntmps55
  go_wp2_with fail
  generalize w.alloc (.cells #[.int .u8 0, .int .i64 0, .string ⟨#[]⟩] 26) = wa at *
  go_loopw [11] (fun i wr => ∃ (k : Nat) (M : List Int), k ≤ n ∧ i = .int .i64 (k : Int) ∧ M.length = k ∧ Hid (nmR (L.drop k) M = R) ∧ Hid (FilP ps M wr) ∧ Hid (Below w0.heap.size w0 wr) ∧ Hid (B3 wr w.heap.size 0 0 ⟨#[]⟩) ∧ Hid (B3 wr p0 0 0 ⟨#[]⟩) ∧ Hid (QP ps q wr) ∧ Hid (w.heap.size ≤ wr.heap.size)) (fun i _ => n - (intOf i).toNat)
  case atStart => exact ⟨0, [], Nat.zero_le _, rfl, rfl, HR.out, HF.out, HB.out, HX.out, HP.out, HQ.out, HS.out⟩
  case round =>
    clear HR HF HB HX HP HQ HS
    obtain ⟨k, M, hk, rfl, hM, HR, HF, HB, HX, HP, HQ, HS⟩ := hrel
    by_cases hlt : k < n
    · have hkl : k < L.length := by rw [HNL.out]; exact hlt
      obtain ⟨hvs, hvi⟩ := HV.out L[k] (List.getElem_mem hkl)
      obtain ⟨b, off, rfl, hbl, c1, c2, c3⟩ := isV_at (IsOf.later HL.out HB.out) hkl
      have hst := nmR_step hkl M
      rw [HR.out] at hst
      unfold c1V at hst
      generalize L[k] = vv at *
      obtain ⟨kd, nm, tx⟩ := vv
      dsimp only at c1 c2 c3 hvs hvi hst
      have HST := Lib.hid hst
      have HCK := Lib.hid (fun W hW => vto_num kd nm tx hvs hvi W hW)
      clear hst HR hvs hvi
      generalize cvR 1 kd nm tx = r at *
      obtain ⟨rk, rn, rs⟩ := r
      dsimp only at HCK HST
      have la := valloc wr (.cells #[.int .u8 (kd : Int), .int .i64 nm, .string tx] 26)
      replace HF := Lib.hid (HF.out.later la)
      replace HB := Lib.hid (show Below w0.heap.size w0 _ from HB.out.trans (la.mono HB.out.size))
      replace HX := Lib.hid (HX.out.later la)
      replace HP := Lib.hid (HP.out.later la)
      replace HQ := Lib.hid (HQ.out.later la)
      replace HS := Lib.hid (Nat.le_trans HS.out la.size)
      clear la
      go_wp2_with fail
      generalize wr.alloc (.cells #[.int .u8 (kd : Int), .int .i64 nm, .string tx] 26) = wb at *
      refine (HCK.out _ (HT.out.later HB.out)).mono ?_
      rintro e w1 ⟨rfl, hB1⟩
      have hB2 := vnext hB1 (valloc w1 (.cells #[.int .u8 (rk : Int), .int .i64 rn, .string rs] 26))
      replace HF := Lib.hid (HF.out.later hB2)
      replace HB := Lib.hid (show Below w0.heap.size w0 _ from HB.out.trans (hB2.mono HB.out.size))
      replace HX := Lib.hid (HX.out.later hB2)
      replace HP := Lib.hid (HP.out.later hB2)
      replace HQ := Lib.hid (HQ.out.later hB2)
      replace HS := Lib.hid (Nat.le_trans HS.out hB2.size)
      have HY := Lib.hid (B3.start w1 rk rn rs)
      clear hB1 hB2 HCK c1 c2 c3 hbl
      go_upto_region 5 with fail
      generalize w1.alloc (.cells #[.int .u8 (rk : Int), .int .i64 rn, .string rs] 26) = w2 at *
      obtain ⟨y0, y1, y2, _, _, _⟩ := HY.out.cells
      have hyl := HY.out.lt
      by_cases h4 : rk = 4
      · have hk4 : ((rk : Int) == 4) = true := by rw [h4]; rfl
        have HE : Hid (R = .inr (rk, rn, rs)) := by rw [HST.out, if_pos h4]; exact rfl
        clear h4 HST
        obtain ⟨x0, x1, x2, z0, z1, z2⟩ := HX.out.cells
        have hXl := HX.out.lt
        obtain ⟨hq, hg⟩ := b3_set HX.out rk rn rs
        have hb5 := HB.out.grown hg HB.out.size (fun q hq => by injection hq with hq; rw [← hq]; exact HW0.out)
        have HP5 := Lib.hid (HP.out.grownB hg (fun e => by injection e with e; exact HXP.out e.symm))
        have HS5 := Lib.hid (Nat.le_trans HS.out hg.size)
        clear hg
        go_wp2_with fail
        generalize ((w2.setCell ⟨w.heap.size, 0, none⟩ (.int .u8 (rk : Int))).setCell ⟨w.heap.size, 1, none⟩ (.int .i64 rn)).setCell ⟨w.heap.size, 2, none⟩ (.string rs) = w5 at *
        obtain ⟨v0, v1, v2, _, _, _⟩ := hq.cells
        refine bodyPost_ret (v := .tuple #[.agg #[.int .u8 (rk : Int), .int .i64 rn, .string rs], .bool false]) (by simp [results, Tryz.results55, go_sem, v0, v1, v2]) rfl ⟨by rw [HE.out]; exact rfl, hb5, HP5.out, HS5.out⟩
      · have hk4 : ((rk : Int) == 4) = false := by simp; omega
        rw [if_neg h4] at HST
        have HR := Lib.hid HST.out.symm
        clear h4 HST
        have hkp : k < ps.length := by omega
        obtain ⟨g1, g2, g3⟩ := HF.out.at_ hkp
        have g4 := HQ.out.2 k hkp
        have g5 := HQ.out.1
        have hmem : ps[k] ∈ ps := List.getElem_mem hkp
        have HF5 := Lib.hid (FilP.set HF.out HND.out (by omega) rn)
        have HB5 := Lib.hid (HB.out.setCell (p := ⟨ps[k], 0, none⟩) (HLO.out _ hmem) (.int .i64 rn))
        have HX5 := Lib.hid (HX.out.other (HF.out.b3 HX.out _ hmem) 0 (.int .i64 rn))
        have HP5 := Lib.hid (HP.out.other (HF.out.b3 HP.out _ hmem) 0 (.int .i64 rn))
        have HQ5 := Lib.hid (HQ.out.set (HQN.out _ hmem) (.int .i64 rn))
        have HS5 : Hid (w.heap.size ≤ (w2.setCell ⟨ps[k], 0, none⟩ (.int .i64 rn)).heap.size) := by unfold Hid; simpa [World.setCell] using HS.out
        subst hM
        generalize ps[M.length] = pk at *
        go_wp2_with fail
        go_region
        go_wp2_with fail
        exact ⟨⟨M.length + 1, M ++ [rn], by omega, by go_num, by simp, HR.out, HF5.out.drew, HB5.out.drew, HX5.out, HP5.out, HQ5.out, HS5.out⟩, by simp [intOf]; omega⟩
    · obtain rfl : k = n := by omega
      have hend := nmR_end (L := L) (k := k) (by rw [HNL.out]; exact Nat.le_refl _) M
      rw [HR.out] at hend
      have HE := Lib.hid hend
      clear hend HR
      obtain ⟨x0, x1, x2, z0, z1, z2⟩ := HX.out.cells
      have hXl := HX.out.lt
      obtain ⟨hq, hg⟩ := b3_set HX.out 0 0 ⟨#[]⟩
      have hb5 := HB.out.grown hg HB.out.size (fun q hq => by injection hq with hq; rw [← hq]; exact HW0.out)
      have HP5 := Lib.hid (HP.out.grownB hg (fun e => by injection e with e; exact HXP.out e.symm))
      have HS5 := Lib.hid (Nat.le_trans HS.out hg.size)
      have HF5 : Hid (FilP ps M (((wr.setCell ⟨w.heap.size, 0, none⟩ (.int .u8 ((0 : Nat) : Int))).setCell ⟨w.heap.size, 1, none⟩ (.int .i64 0)).setCell ⟨w.heap.size, 2, none⟩ (.string ⟨#[]⟩))) := fun j hj => (hg.block _ (HF.out.at_ hj).1 (fun e => HF.out.b3 HX.out _ (List.getElem_mem hj) (by injection e with e; exact e.symm))).trans (HF.out j hj)
      clear hg
      go_wp2_with fail
      generalize ((wr.setCell ⟨w.heap.size, 0, none⟩ (.int .u8 ((0 : Nat) : Int))).setCell ⟨w.heap.size, 1, none⟩ (.int .i64 0)).setCell ⟨w.heap.size, 2, none⟩ (.string ⟨#[]⟩) = w5 at *
      obtain ⟨v0, v1, v2, _, _, _⟩ := hq.cells
      refine bodyPost_ret (v := .tuple #[.agg #[.int .u8 0, .int .i64 0, .string ⟨#[]⟩], .bool true]) (by simp [results, Tryz.results55, go_sem, v0, v1, v2]) rfl ⟨by rw [HE.out]; exact ⟨rfl, HF5.out⟩, hb5, HP5.out, HS5.out⟩
end Go.Proofs.YtdhahiodnmmkeaaGreatDoor.Va
/- fnum.Call of one and of two values. -/
namespace Go.Proofs.YtdhahiodnmmkeaaGreatDoor.Va
open Go Go.RowKit GM
set_option linter.unusedVariables false
set_option linter.unusedSimpArgs false
theorem c1_ok {v : V3} (hi : InI v.2.1) (h4 : (c1V v).1 ≠ 4) : -9223372036854775808 < (c1V v).2.1 ∧ (c1V v).2.1 ≤ 9223372036854775807 := by
  obtain ⟨h1, h2⟩ := cv1_ok v.1 v.2.1 v.2.2
  have hk := h2.resolve_right h4
  rw [hk] at h1
  have h3 := cv1_in v.1 v.2.1 v.2.2 hi
  unfold c1V
  generalize cvR 1 v.1 v.2.1 v.2.2 = r at *
  unfold InI at h3
  unfold vE vldV at h1
  simp [leastI] at h1
  obtain ⟨h5, _⟩ := h1
  refine ⟨?_, h3.2⟩
  rcases Int.lt_or_eq_of_le h3.1 with h | h
  · exact h
  · exact absurd h.symm (of_decide_eq_true h5)
theorem nm_one {L : List V3} {M : List Int} (hL : L.length = 1) (hv : ∀ v ∈ L, v.2.2.size ≤ 2000 ∧ InI v.2.1) (h : nmR L [] = .inl M) : ∃ x, M = [x] ∧ -9223372036854775808 < x ∧ x ≤ 9223372036854775807 := by
  obtain ⟨h1, h2⟩ := nmR_len L [] M h
  match M, h1 with
  | [x], _ =>
    obtain ⟨v, hm, e, h4⟩ := (h2 x (List.mem_cons_self ..)).resolve_left (by simp)
    have := c1_ok (hv v hm).2 h4
    exact ⟨x, rfl, by omega, by omega⟩
  | [], h1 => simp [hL] at h1
  | x :: y :: l, h1 => simp [hL] at h1
theorem filP_nil (w : World) (ps : List Nat) (h : ∀ p ∈ ps, w.heap[p]? = some (.cells #[.int .i64 0] 2)) : FilP ps [] w := fun j hj => h _ (List.getElem_mem hj)
end Go.Proofs.YtdhahiodnmmkeaaGreatDoor.Va
/- fnum.Call in full. -/
namespace Go.Proofs.YtdhahiodnmmkeaaGreatDoor.Va
open Go Go.RowKit GM
set_option linter.unusedVariables false
set_option linter.unusedSimpArgs false
theorem par_4 (w : World) : Calls Tryz.prog 73 #[.int .u8 4] w fun e w' => e = .returned (.int .i64 1) ∧ Below w.heap.size w w' := by
  go_enter Tryz.func73, Tryz.ntmps73
  go_wp2_with fail
  go_ret
  exact ⟨rfl, Below.refl _ _⟩
end Go.Proofs.YtdhahiodnmmkeaaGreatDoor.Va
