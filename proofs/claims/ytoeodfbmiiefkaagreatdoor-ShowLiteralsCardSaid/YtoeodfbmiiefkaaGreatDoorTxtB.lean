/- Contracts of dec's functions on digits. -/
import Derived.Test.YtoeodfbmiiefkaaGreatDoorDecA
import Derived.Test.YtoeodfbmiiefkaaGreatDoorTxtG
import Derived.RangeFuncNested
import Derived.Maps.AppendAt
import Derived.Outline
import Derived.BigQuiet
import Derived.Deep.QuietTactic
namespace Go.Proofs.YtoeodfbmiiefkaaGreatDoor.Tx
open Go.RowKit
/-- A text's byte in the walk's spelling. -/
theorem dAt_in {s : ByteArray} {i : Nat} (h : i < s.size) : dAt s.data.toList i = (s[i].toNat : Int) - 48 := by
  unfold dAt
  rw [List.getElem?_eq_getElem (by simpa using h)]
  rfl
theorem dAt_out {s : ByteArray} {i : Nat} (h : ¬ i < s.size) : dAt s.data.toList i = 0 := by
  unfold dAt
  rw [List.getElem?_eq_none (by simpa using h)]
theorem dg_at {s : ByteArray} (h : ∀ c ∈ s.data.toList, isDg c = true) {i : Nat} (hi : i < s.size) : 48 ≤ s[i].toNat ∧ s[i].toNat ≤ 57 := by
  have := h (s.data.toList[i]'(by simpa using hi)) (List.getElem_mem _)
  unfold isDg at this
  exact of_decide_eq_true this
theorem digitAt_any (s : ByteArray) (i : Nat) (hd : ∀ c ∈ s.data.toList, isDg c = true) (w : World) :
    Calls Tryz.prog 138 #[.string s, .int .i64 (i : Int)] w fun e w' => e = .returned (.int .i64 (dAt s.data.toList i)) ∧ w = w' := by
  by_cases h : i < s.size
  · have HD := Lib.hid (dAt_in h)
    obtain ⟨h1, h2⟩ := dg_at hd h
    clear hd
    go_enter Tryz.func138, Tryz.ntmps138
    go_wp2_with fail
    go_ret
    exact ⟨retI (by rw [HD.out]), rfl⟩
  · have HD := Lib.hid (dAt_out h)
    clear hd
    go_enter Tryz.func138, Tryz.ntmps138
    go_wp2_with fail
    go_ret
    exact ⟨retI (by rw [HD.out]), rfl⟩
set_option maxHeartbeats 400000 in
theorem allDigits_any (s : ByteArray) (hs : s.size ≤ maxLen) (w : World) :
    Calls Tryz.prog 111 #[.string s] w fun e w' => e = .returned (.bool (allB s.data.toList)) ∧ w = w' := by
  unfold maxLen at hs
  go_enter Tryz.func111, Tryz.ntmps111
  go_wp2_with fail
  go_loop [6] (fun i => ∃ k : Nat, k ≤ s.size ∧ i = .int .i64 (k : Int) ∧ Hid ((s.data.toList.take k).all isDg = true)) (fun i => s.size - (intOf i).toNat)
  case atStart => exact ⟨0, Nat.zero_le _, rfl, rfl⟩
  case round =>
    obtain ⟨k, hk, rfl, HA⟩ := hrel
    by_cases hlt : k < s.size
    · have hkl : k < s.data.toList.length := by simpa using hlt
      have HT : Hid ((s.data.toList.take (k + 1)).all isDg = ((s.data.toList.take k).all isDg && isDg s[k])) := by
        unfold Hid
        rw [List.take_succ_eq_append_getElem hkl, List.all_append, List.all_cons, List.all_nil, Bool.and_true]
        rfl
      have HN : Hid (isDg s[k] = false → allB s.data.toList = false) := fun h => by
        unfold allB
        have : s.data.toList.all isDg = false := by
          rw [List.all_eq_false]
          exact ⟨s.data.toList[k], List.getElem_mem _, by rw [show s.data.toList[k] = s[k] from rfl, h]; decide⟩
        rw [this]; rfl
      have HD : Hid (isDg s[k] = decide (48 ≤ s[k].toNat ∧ s[k].toNat ≤ 57)) := rfl
      by_cases h1 : 48 ≤ s[k].toNat ∧ s[k].toNat ≤ 57
      · have HY : Hid (isDg s[k] = true) := by rw [HD.out]; exact decide_eq_true h1
        obtain ⟨h1, h2⟩ := h1
        go_wp2_with fail
        go_round
        case rel => exact ⟨k + 1, by omega, by go_num, by unfold Hid; rw [HT.out, HA.out, HY.out]; rfl⟩
        case measure => simp [intOf]; omega
      · have HY : Hid (isDg s[k] = false) := by rw [HD.out]; exact decide_eq_false h1
        by_cases h2 : s[k].toNat < 48
        · go_wp2_with fail
          go_ret
          exact ⟨retB (by rw [HN.out HY.out]), rfl⟩
        · have h3 : 57 < s[k].toNat := by omega
          clear h1
          go_wp2_with fail
          go_ret
          exact ⟨retB (by rw [HN.out HY.out]), rfl⟩
    · obtain rfl : k = s.size := by omega
      have HA2 : Hid (allB s.data.toList = !s.data.toList.isEmpty) := by
        unfold Hid allB
        have := HA.out
        rw [List.take_of_length_le (by simp)] at this
        rw [this]; rfl
      go_wp2_with fail
      go_ret
      exact ⟨retB (by rw [HA2.out, ByteArray.toList_eq]), rfl⟩
/-- What the two boxes hold when digits have been pushed. -/
structure Psh (l : List UInt8) (m : Int) (k : Bool) : Prop where
  lo : 0 ≤ m
  hi : m ≤ 9223372036854775807
  is : k = decide (numL l ≤ mostI)
  val : k = true → m = numL l
theorem Psh.start : Psh [] 0 true := ⟨by decide, by decide, by decide, fun _ => rfl⟩
theorem Psh.no {l : List UInt8} {m d : Int} {k : Bool} {c : UInt8} (h : Psh l m k) (hl : ∀ c ∈ l, isDg c = true) (hc : isDg c = true) (hd : d = dgv c) (hm : (9223372036854775807 - d) / 10 < m) : Psh (l ++ [c]) m false := by
  have h1 := dgv_bd hc
  have h0 := numL_pos l hl
  refine ⟨h.lo, h.hi, ?_, fun h => by cases h⟩
  symm
  apply decide_eq_false
  rw [numL_snoc]
  have hk := h.is
  unfold mostI at *
  cases k
  · have := of_decide_eq_false hk.symm
    omega
  · have := h.val rfl
    omega
theorem Psh.yes {l : List UInt8} {m d : Int} {k : Bool} {c : UInt8} (h : Psh l m k) (hl : ∀ c ∈ l, isDg c = true) (hc : isDg c = true) (hd : d = dgv c) (hm : ¬ (9223372036854775807 - d) / 10 < m) : Psh (l ++ [c]) (m * 10 + d) k := by
  have h1 := dgv_bd hc
  have h0 := numL_pos l hl
  have h2 := h.lo
  refine ⟨by omega, by omega, ?_, fun hk => by rw [numL_snoc, ← h.val hk, hd]⟩
  have hk := h.is
  rw [numL_snoc]
  unfold mostI at *
  cases k
  · have := of_decide_eq_false hk.symm
    symm
    apply decide_eq_false
    omega
  · have := h.val rfl
    symm
    apply decide_eq_true
    omega
abbrev ptrB (b : Nat) : Value := .pointer (some ⟨b, 0, none⟩)
structure Pbx (n : Nat) (l : List UInt8) (w : World) : Prop where
  ex : ∃ m k, Boxed w n 2 (.int .i64 m) ∧ Boxed w (n + 1) 4 (.bool k) ∧ Psh l m k
set_option maxHeartbeats 800000 in
theorem push_any (n : Nat) (l : List UInt8) (c : UInt8) (d : Int) (hl : ∀ c ∈ l, isDg c = true) (hc : isDg c = true) (hd : d = dgv c) (w : World) (h : Pbx n l w) :
    Calls Tryz.prog 137 #[.int .i64 d, ptrB n, ptrB (n + 1)] w fun e w' => (∃ v, e = .returned v) ∧ Pbx n (l ++ [c]) w' ∧ Below n w w' := by
  obtain ⟨m, k, b1, b2, hp⟩ := h.ex
  have hb := dgv_bd hc
  rw [← hd] at hb
  have hlo := hp.lo
  have hhi := hp.hi
  have c1 := b1.cell
  have f1 := b1.frozen
  have c2 := b2.cell
  have f2 := b2.frozen
  have B1 := Lib.hid b1
  have B2 := Lib.hid b2
  clear b1 b2 h
  by_cases hm : (9223372036854775807 - d) / 10 < m
  · have HP := Lib.hid (hp.no hl hc hd hm)
    clear hp hl hd
    go_enter Tryz.func137, Tryz.ntmps137
    go_wp2_with fail
    refine bodyPost_ret (results_none rfl _ _ _) rfl ?_
    exact ⟨⟨_, rfl⟩, ⟨_, _, Boxed.other B1.out (by omega) _, Boxed.set _ B2.out, HP.out⟩, (Below.refl _ _).setCell (p := ⟨n + 1, 0, none⟩) (by show n ≤ n + 1; omega) _⟩
  · have HP := Lib.hid (hp.yes hl hc hd hm)
    clear hp hl hd
    have hm2 : m * 10 ≤ 9223372036854775807 := by omega
    have hm3 : m * 10 + d ≤ 9223372036854775807 := by omega
    go_enter Tryz.func137, Tryz.ntmps137
    go_wp2_with fail
    go_end0
    exact ⟨⟨_, rfl⟩, ⟨_, _, Boxed.set _ B1.out, Boxed.other B2.out (by omega) _, HP.out⟩, (Below.refl _ _).setCell (p := ⟨n, 0, none⟩) (Nat.le_refl n) _⟩
/-- The digits of two texts, one after another. -/
theorem digs_dg {w p : List UInt8} (hw : ∀ c ∈ w, isDg c = true) (hp : ∀ c ∈ p, isDg c = true) : ∀ c ∈ digsL w p, isDg c = true := fun c hc => (List.mem_append.1 hc).elim (hw c) (p4_dg hp c)
variable {v : Int}
def sclR (w p : List UInt8) (e : Ending) : Prop := ∃ m : Int, e = .returned (.tuple #[.int .i64 m, .bool (decide (valL w p ≤ mostI))]) ∧ (valL w p ≤ mostI → m = valL w p)
theorem sclR_no {w p : List UInt8} (h : mostI < valL w p) (m : Int) : sclR w p (.returned (.tuple #[.int .i64 m, .bool false])) := ⟨m, by rw [decide_eq_false (by omega)], fun h2 => absurd h2 (by omega)⟩
theorem sclR_is {w p : List UInt8} {m : Int} {b : Bool} (hv : valL w p = v) (hb : b = decide (v ≤ mostI)) (hm : v ≤ mostI → m = v) : sclR w p (.returned (.tuple #[.int .i64 m, .bool b])) := by
  subst hv
  exact ⟨m, by rw [hb], hm⟩
theorem take_dg {l : List UInt8} (h : ∀ c ∈ l, isDg c = true) (k : Nat) : ∀ c ∈ l.take k, isDg c = true := fun c hc => h c (List.mem_of_mem_take hc)
set_option maxRecDepth 100000 in
set_option maxHeartbeats 1600000 in
theorem scaled_any (s t : ByteArray) (hs : s.size ≤ maxLen) (hds : ∀ c ∈ s.data.toList, isDg c = true) (hdt : ∀ c ∈ t.data.toList, isDg c = true) (w : World) :
    Calls Tryz.prog 112 #[.string s, .string t] w fun e w' => sclR s.data.toList t.data.toList e ∧ Below w.heap.size w w' := by
  unfold maxLen at hs
  have HDS := Lib.hid hds
  have HDT := Lib.hid hdt
  clear hds hdt
  have HDA : Hid (∀ (x : ByteArray) (i : Nat) (h : ∀ c ∈ x.data.toList, isDg c = true) (w : World), Calls Tryz.prog 138 #[.string x, .int .i64 (i : Int)] w fun e w' => e = .returned (.int .i64 (dAt x.data.toList i)) ∧ w = w') := fun x i h w => digitAt_any x i h w
  go_enter Tryz.func112, Tryz.ntmps112
  go_wp2_with fail
  have hb : Pbx w.heap.size [] ((w.alloc (.cells #[.int .i64 0] 2)).alloc (.cells #[.bool true] 4)) := ⟨0, true, (Boxed.new w _ _).alloc _, by have := Boxed.new (w.alloc (.cells #[.int .i64 0] 2)) 4 (.bool true); rwa [World.size_alloc] at this, Psh.start⟩
  have hB : Below w.heap.size w ((w.alloc (.cells #[.int .i64 0] 2)).alloc (.cells #[.bool true] 4)) := ((Below.refl _ w).alloc (Nat.le_refl _) _).alloc (by simp) _
  generalize (w.alloc (.cells #[.int .i64 0] 2)).alloc (.cells #[.bool true] 4) = w0 at *
  have HB0 := Lib.hid hB
  have HP0 := Lib.hid hb
  clear hB hb
  go_loopw [14] (fun i wr => ∃ k : Nat, k ≤ s.size ∧ i = .int .i64 (k : Int) ∧ Hid (Pbx w.heap.size (s.data.toList.take k) wr) ∧ Below w.heap.size w wr) (fun i _ => s.size - (intOf i).toNat)
  case atStart => exact ⟨0, Nat.zero_le _, rfl, HP0.out, HB0.out⟩
  case round =>
    obtain ⟨k, hk, rfl, HPr, hBr⟩ := hrel
    have HBr := Lib.hid hBr
    clear hBr
    by_cases hlt : k < s.size
    · have hkl : k < s.data.toList.length := by simpa using hlt
      have HT : Hid (s.data.toList.take (k + 1) = s.data.toList.take k ++ [s.data.toList[k]]) := List.take_succ_eq_append_getElem hkl
      have HC : Hid (isDg s.data.toList[k] = true) := HDS.out _ (List.getElem_mem hkl)
      have HV : Hid (dAt s.data.toList k = dgv s.data.toList[k]) := by unfold Hid dAt; rw [List.getElem?_eq_getElem hkl]
      generalize s.data.toList[k] = c at *
      go_wp2_with fail
      refine (HDA.out s k HDS.out _).mono ?_
      rintro e w1 ⟨rfl, rfl⟩
      generalize dAt s.data.toList k = d at *
      go_wp2_with fail
      refine (push_any w.heap.size _ c d (take_dg HDS.out k) HC.out HV.out _ HPr.out).mono ?_
      rintro e w2 ⟨⟨v, rfl⟩, hP, hB⟩
      have HP2 := Lib.hid hP
      have HB2 := Lib.hid (HBr.out.trans hB)
      clear hP hB
      go_wp2_with fail
      exact ⟨⟨k + 1, by omega, by go_num, by rw [HT.out]; exact HP2.out, HB2.out⟩, by simp [intOf]; omega⟩
    · obtain rfl : k = s.size := by omega
      have HPs : Hid (Pbx w.heap.size (s.data.toList ++ (p4 t.data.toList).take 0) wr) := by
        have := HPr.out
        rw [List.take_of_length_le (by simp)] at this
        unfold Hid
        rw [List.take_zero, List.append_nil]; exact this
      clear HPr
      go_wp2_with fail
      go_loopw [23] (fun i wr => ∃ j : Nat, j ≤ 4 ∧ i = .int .i64 (j : Int) ∧ Hid (Pbx w.heap.size (s.data.toList ++ (p4 t.data.toList).take j) wr) ∧ Below w.heap.size w wr) (fun i _ => 4 - (intOf i).toNat)
      case atStart => exact ⟨0, by omega, rfl, HPs.out, HBr.out⟩
      case round =>
        clear HPs HBr
        obtain ⟨j, hj, rfl, HPr, hBr⟩ := hrel
        have HBr := Lib.hid hBr
        clear hBr
        by_cases hjt : j < 4
        · have hjl : j < (p4 t.data.toList).length := by rw [p4_len]; exact hjt
          have HT : Hid (s.data.toList ++ (p4 t.data.toList).take (j + 1) = s.data.toList ++ (p4 t.data.toList).take j ++ [(p4 t.data.toList)[j]]) := by
            unfold Hid
            rw [List.take_succ_eq_append_getElem hjl, List.append_assoc]
          have HC : Hid (isDg (p4 t.data.toList)[j] = true) := p4_dg HDT.out _ (List.getElem_mem hjl)
          have HV : Hid (dAt t.data.toList j = dgv (p4 t.data.toList)[j]) := (p4_at t.data.toList j hjt).symm
          have HAL : Hid (∀ c ∈ s.data.toList ++ (p4 t.data.toList).take j, isDg c = true) := fun c hc => (List.mem_append.1 hc).elim (HDS.out c) (take_dg (p4_dg HDT.out) j c)
          generalize (p4 t.data.toList)[j] = c at *
          go_wp2_with fail
          refine (HDA.out t j HDT.out _).mono ?_
          rintro e w1 ⟨rfl, rfl⟩
          generalize dAt t.data.toList j = d at *
          go_wp2_with fail
          refine (push_any w.heap.size _ c d HAL.out HC.out HV.out _ HPr.out).mono ?_
          rintro e w2 ⟨⟨v, rfl⟩, hP, hB⟩
          have HP2 := Lib.hid hP
          have HB2 := Lib.hid (HBr.out.trans hB)
          clear hP hB
          go_wp2_with fail
          exact ⟨⟨j + 1, by omega, by go_num, by rw [HT.out]; exact HP2.out, HB2.out⟩, by simp [intOf]; omega⟩
        · obtain rfl : j = 4 := by omega
          have HPd : Hid (Pbx w.heap.size (digsL s.data.toList t.data.toList) wr) := by
            have := HPr.out
            rw [List.take_of_length_le (by rw [p4_len]; omega)] at this
            exact this
          clear HPr
          obtain ⟨m, kk, b1, b2, hp⟩ := HPd.out.ex
          have hdl := digs_dg HDS.out HDT.out
          have h0 := numL_pos _ hdl
          have hlo := hp.lo
          have hhi := hp.hi
          have HIS := Lib.hid hp.is
          have HVL := Lib.hid hp.val
          have c1 := b1.cell
          have f1 := b1.frozen
          have c2 := b2.cell
          have f2 := b2.frozen
          have B1 := Lib.hid b1
          have B2 := Lib.hid b2
          clear b1 b2 hp hdl HPd
          cases kk
          · have HN : Hid (mostI < valL s.data.toList t.data.toList) := by
              have h1 := of_decide_eq_false HIS.out.symm
              have h2 := (upL_bd t.data.toList).1
              unfold Hid valL
              omega
            clear HIS HVL h0
            go_wp2_with fail
            go_quiet (fail)
            go_wp2_with fail
            go_ret2
            exact ⟨sclR_no HN.out _, ⟨HBr.out.os, HBr.out.tape, HBr.out.output, HBr.out.size, HBr.out.block⟩⟩
          · have h1 := of_decide_eq_true HIS.out.symm
            have h2 := HVL.out rfl
            by_cases h5 : 5 ≤ dAt t.data.toList 4
            · have HU : Hid (valL s.data.toList t.data.toList = m + 1) := by unfold Hid valL upL; rw [if_pos h5, ← h2]
              have HM : Hid (resB (m + 1) = decide (m + 1 ≤ mostI)) := by
                unfold Hid resB mostI
                by_cases h : m + 1 ≤ 9223372036854775807
                · rw [decide_eq_true h]; apply decide_eq_true; omega
                · rw [decide_eq_false h]; apply decide_eq_false; omega
              have HR : Hid (m + 1 ≤ mostI → resV (m + 1) = m + 1) := fun h => by unfold mostI at h; unfold resV; rw [if_pos (by omega)]
              clear HIS HVL h0 h1 h2
              go_wp2_with fail
              refine (HDA.out t 4 HDT.out _).mono ?_
              rintro e w1 ⟨rfl, rfl⟩
              generalize dAt t.data.toList 4 = d at *
              go_wp2_with fail
              refine (add_any m 1 (by unfold InI; omega) (by unfold InI; omega) _).mono ?_
              rintro e w1 ⟨rfl, rfl⟩
              generalize resV (m + 1) = rv at *
              generalize resB (m + 1) = rb at *
              go_wp2_with fail
              have b3 := Boxed.set (.int .i64 rv) B1.out
              have b4 := Boxed.set (.bool rb) (Boxed.other B2.out (B' := w.heap.size) (by omega) (.int .i64 rv))
              have b5 := Boxed.other b3 (B' := w.heap.size + 1) (by omega) (.bool rb)
              have HB3 := Lib.hid ((HBr.out.setCell (p := ⟨w.heap.size, 0, none⟩) (Nat.le_refl _) (.int .i64 rv)).setCell (p := ⟨w.heap.size + 1, 0, none⟩) (by show w.heap.size ≤ w.heap.size + 1; omega) (.bool rb))
              have d1 := b5.cell
              have d2 := b4.cell
              clear b3 b4 b5
              generalize (wr.setCell ⟨w.heap.size, 0, none⟩ (.int .i64 rv)).setCell ⟨w.heap.size + 1, 0, none⟩ (.bool rb) = w5 at *
              go_quiet (fail)
              go_wp2_with fail
              go_ret2
              exact ⟨sclR_is HU.out HM.out HR.out, ⟨HB3.out.os, HB3.out.tape, HB3.out.output, HB3.out.size, HB3.out.block⟩⟩
            · have HU : Hid (valL s.data.toList t.data.toList = m) := by unfold Hid valL upL; rw [if_neg h5, ← h2]; omega
              have HM : Hid (true = decide (m ≤ mostI)) := by unfold Hid; rw [h2, decide_eq_true h1]
              have h5 : dAt t.data.toList 4 < 5 := by omega
              clear HIS HVL h0 h1 h2
              go_wp2_with fail
              refine (HDA.out t 4 HDT.out _).mono ?_
              rintro e w1 ⟨rfl, rfl⟩
              generalize dAt t.data.toList 4 = d at *
              go_wp2_with fail
              go_quiet (fail)
              go_wp2_with fail
              go_ret2
              exact ⟨sclR_is HU.out HM.out (fun _ => rfl), ⟨HBr.out.os, HBr.out.tape, HBr.out.output, HBr.out.size, HBr.out.block⟩⟩
end Go.Proofs.YtoeodfbmiiefkaaGreatDoor.Tx
