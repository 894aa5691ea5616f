/- GroupMeets: Meet does not depend on order and repetition, and has exactly the users of all sets. -/
import Derived.Test.YtmnbplfgdgjpdaaBitA
import Derived.RegionTactic
import Derived.BigRegion
import Derived.StillTailTactics
import Derived.Deep.DeepCutAuto
import Derived.Laws.OwnMore
import Derived.Deep.RegionLaw
import Derived.Deep.AppendLies
import Derived.DataShut
namespace Go.Proofs.Ytmnbplfgdgjpdaa
open Go.RowKit
theorem u64_info : (Try.prog.info? 24).map (fun i => (i.zero, i.size, i.bytes)) = some (some (.int .u64 0), 1, 8) := by kernel_rfl
def OwnU (B : Nat) (w : World) (v : Value) (L : List W64) : Prop := w.ownsRow B 24 1 v L.length (L.map uV)
theorem OwnU.alloc {B : Nat} {w : World} {v : Value} {L : List W64} (h : OwnU B w v L) (o : Obj) : OwnU B (w.alloc o) v L := World.ownsRow.alloc h o
theorem OwnU.isU {B : Nat} {w : World} {v : Value} {L : List W64} (h : OwnU B w v L) : ∃ a cap, v = .slice a L.length cap ∧ IsU w a L.length L := by
  have h' := h
  rcases h.2 with ⟨rfl, h0⟩ | ⟨g, cap, cur, rfl, _, hh, hc, _⟩
  · exact ⟨none, 0, by rw [h0], rfl, fun h => by omega⟩
  · refine ⟨_, cap, rfl, rfl, fun _ => ⟨_, rfl, ?_, fun i hi => ?_⟩⟩
    · exact (Array.getElem?_eq_some_iff.1 hh).1
    · have := World.ownsRow.cells h' (g := g) rfl i (uV L[i]) (by simp [hi])
      exact this
theorem getLsb_meet (L : List W64) (i : Nat) (hi : i < 64) : (meetL L).getLsbD i = L.all (·.getLsbD i) := by
  have key : ∀ (L : List W64) (s : W64), (L.foldl (· &&& ·) s).getLsbD i = (s.getLsbD i && L.all (·.getLsbD i)) := by
    intro L
    induction L with
    | nil => intro s; simp
    | cons x L ih => intro s; rw [List.foldl_cons, ih]; simp [Bool.and_assoc]
  unfold meetL
  rw [key, BitVec.getLsbD_allOnes, decide_eq_true hi, Bool.true_and]
/-- What is gathered behind place q: each set twice, the last first. -/
def gath (L : List W64) (q : Nat) : List W64 := (L.drop q).reverse.flatMap fun x => [x, x]
theorem gath_step (L : List W64) (q : Nat) (h : q < L.length) : gath L q = gath L (q + 1) ++ [L[q], L[q]] := by
  unfold gath
  rw [List.drop_eq_getElem_cons h, List.reverse_cons, List.flatMap_append]; rfl
theorem gath_end (L : List W64) : gath L L.length = [] := by unfold gath; simp
theorem gath_len (L : List W64) (q : Nat) : (gath L q).length = 2 * (L.length - q) := by
  unfold gath
  have : ∀ (l : List W64), (l.flatMap fun x => [x, x]).length = 2 * l.length := by
    intro l
    induction l with
    | nil => rfl
    | cons x l ih => rw [List.flatMap_cons, List.length_append, ih]; simp; omega
  rw [this]; simp
theorem meet_gath (L : List W64) : meetL (gath L 0) = meetL L := by
  apply BitVec.eq_of_getLsbD_eq
  intro i hi
  rw [getLsb_meet _ _ hi, getLsb_meet _ _ hi]
  unfold gath
  rw [List.drop_zero, Bool.eq_iff_iff, List.all_eq_true, List.all_eq_true]
  constructor
  · intro h x hx; exact h x (by rw [List.mem_flatMap]; exact ⟨x, by simpa using hx, by simp⟩)
  · intro h x hx
    rw [List.mem_flatMap] at hx
    obtain ⟨y, hy, hxy⟩ := hx
    have : x = y := by simpa using hxy
    subst this; exact h x (by simpa using hy)
def inU (L : List W64) (u : Int) (q : Nat) : Bool := vld u && (L.drop q).all (hasB · u)
theorem inU_step (L : List W64) (u : Int) (q : Nat) (h : q < L.length) : inU L u q = (inU L u (q + 1) && hasB L[q] u) := by
  unfold inU
  rw [List.drop_eq_getElem_cons h, List.all_cons]
  cases vld u <;> cases hasB L[q] u <;> simp
theorem inU_all (L : List W64) (u : Int) : hasB (meetL L) u = inU L u 0 := by
  unfold inU hasB
  cases hv : vld u with
  | false => simp
  | true =>
    have hu : 0 ≤ u ∧ u < 64 := by unfold vld at hv; exact of_decide_eq_true hv
    rw [getLsb_meet _ _ (by omega)]
    simp
def allU (L : List W64) (o : W64) (q : Nat) : Bool := (L.drop q).all fun x => bits .andNot .u64 (o.toNat : Int) (x.toNat : Int) == 0
theorem allU_step (L : List W64) (o : W64) (q : Nat) (h : q < L.length) : allU L o q = (allU L o (q + 1) && (bits .andNot .u64 (o.toNat : Int) (L[q].toNat : Int) == 0)) := by
  unfold allU
  rw [List.drop_eq_getElem_cons h, List.all_cons, Bool.and_comm]
theorem andNot_z (x y : W64) : (bits .andNot .u64 (x.toNat : Int) (y.toNat : Int) == 0) = true ↔ ∀ i, i < 64 → x.getLsbD i = true → y.getLsbD i = true := by
  rw [bits_andNot, beq_iff_eq]
  constructor
  · intro h i hi hx
    have h0 : x &&& ~~~y = 0#64 := BitVec.eq_of_toNat_eq (by simpa using (by omega : (x &&& ~~~y).toNat = 0))
    have := congrArg (·.getLsbD i) h0
    simpa [hi, hx] using this
  · intro h
    have h0 : x &&& ~~~y = 0#64 := by
      apply BitVec.eq_of_getLsbD_eq
      intro i hi
      have := h i hi
      cases hx : x.getLsbD i <;> simp_all
    rw [h0]; rfl
theorem allU_all (L : List W64) (o : W64) : (bits .andNot .u64 (o.toNat : Int) ((meetL L).toNat : Int) == 0) = allU L o 0 := by
  unfold allU
  rw [List.drop_zero, Bool.eq_iff_iff, andNot_z, List.all_eq_true]
  constructor
  · intro h x hx
    rw [andNot_z]
    intro i hi ho
    have := h i hi ho
    rw [getLsb_meet _ _ hi, List.all_eq_true] at this
    exact this x hx
  · intro h i hi ho
    rw [getLsb_meet _ _ hi, List.all_eq_true]
    intro x hx
    exact (andNot_z _ _).1 (h x hx) i hi ho
theorem meet_below (L : List W64) (q : Nat) (h : q < L.length) : (bits .andNot .u64 ((meetL L).toNat : Int) (L[q].toNat : Int) != 0) = false := by
  rw [bne, Bool.not_eq_false', andNot_z]
  intro i hi hm
  rw [getLsb_meet _ _ hi, List.all_eq_true] at hm
  exact hm _ (List.getElem_mem h)
theorem IsU.later {w w' : World} {a : Option Addr} {len : Nat} {L : List W64} (h : IsU w a len L) (hB : Below w.heap.size w w') : IsU w' a len L := by
  refine ⟨h.1, fun h0 => ?_⟩
  obtain ⟨x, hx, hb, hc⟩ := h.2 h0
  refine ⟨x, hx, Nat.lt_of_lt_of_le hb hB.size, fun i hi => ?_⟩
  have : (x.add i).block = x.block := by unfold Addr.add; split <;> rfl
  rw [hB.cell (by rw [this]; exact hb)]
  exact hc i hi
theorem step_appU2 {ops : Array Oper} {o : Oper} {a : Act} {w : World} {K : Act → World → Prop} {Q : Exit → Act → World → Prop} {E : Prop} (hgd : o.guard = none) (s x : Operand)
    (ho : o.op = .call { callee := .builtin .append, args := #[s, x], argTypes := #[23, 23] }) (B : Nat) (v : Value) (l : List W64) (hs : a.eval s = v) (hown : OwnU B w v l)
    (g : Nat) (c d : W64) (hx : a.eval x = .slice (some ⟨g, 0, none⟩) 2 2) (hc : w.cell? ⟨g, 0, none⟩ = some (.int .u64 (c.toNat : Int))) (hd : w.cell? ⟨g, 1, none⟩ = some (.int .u64 (d.toNat : Int))) (hl : l.length ≤ 1000000) (hB : B ≤ w.heap.size)
    (h : ∀ v' w', OwnU B w' v' (l ++ [c, d]) → Below B w w' → K (a.put o.dst v') w') : if Region.wanted o (yielded ops a.tmps) = true then Oper.wp Try.prog o a w K Q else E := by
  obtain ⟨i0, hi, hz0, hz1, hz2⟩ := info_parts u64_info
  refine step_append_lies w hgd s x 23 ho B 24 i0 (.int .u64 0) 1 8 Try.underlying23 hi hz0 hz1 hz2 rfl (by decide) v l.length (l.map uV) hs hown ⟨g, 0, none⟩ 2 2 [uV c, uV d] hx rfl ?_ ?_ (by omega) ?_ ?_ hB _ rfl ?_
  · intro j u hj
    match j, hj with
    | 0, hj => simp at hj; subst hj; exact hc
    | 1, hj => simp at hj; subst hj; exact hd
  · intro u hu; simp at hu; rcases hu with rfl | rfl <;> rfl
  · unfold maxLen; omega
  · omega
  · intro g' cap w' ho' hg _ _
    refine h _ w' ?_ ((Below.refl _ _).grown hg hB (fun k hk => (World.ownsRow.lt hown k hk).1))
    unfold OwnU
    rw [List.length_append, List.map_append]; exact ho'
set_option maxRecDepth 100000 in
set_option maxHeartbeats 6400000 in
theorem groupMeets_any (a : Option Addr) (len cap : Nat) (L : List W64) (o : W64) (u : Int) (w : World) (hm : len ≤ maxLen) (hL : IsU w a len L) :
    Calls Try.prog 4 #[.slice a len cap, .int .u64 (o.toNat : Int), .int .i64 u] w fun e w' => e = .returned (.bool true) ∧ Below w.heap.size w w' := by
  have HM := Lib.hid hm
  have HL := Lib.hid hL
  clear hL
  unfold maxLen at hm
  obtain ⟨i0, hi, hz0, hz1, hz2⟩ := info_parts u64_info
  by_cases h : 30 < len
  · go_enter Try.func4, Try.ntmps4
    go_wp2_with fail
    go_ret
    exact ⟨rfl, Below.refl _ _⟩
  · have hlen := HL.out.1
    have hl30 : L.length ≤ 30 := by omega
    subst hlen
    have HV : Hid (decide (0 ≤ u ∧ u < 64) = vld u) := rfl
    rcases (show u < 0 ∨ (0 ≤ u ∧ 64 ≤ u) ∨ (0 ≤ u ∧ u < 64) by omega) with hu | ⟨hu0, hu⟩ | ⟨hu0, hu⟩
    all_goals
      first
        | have HVV := Lib.hid (vld_f (u := u) (by omega))
        | have HVV := Lib.hid (vld_t (u := u) (by omega))
      have HI : Hid (inU L u L.length = vld u) := by unfold Hid inU; simp
      have HA : Hid (allU L o L.length = true) := by unfold Hid allU; simp
      go_enter Try.func4, Try.ntmps4
      go_wp2_with fail
      refine (meet_any a L.length cap L w HM.out HL.out).mono ?_
      rintro e w' ⟨rfl, rfl⟩
      go_wp2_with (at_make; refine wpList_make_own _ rfl _ _ 23 rfl w.heap.size 24 i0 (.int .u64 0) 1 Try.underlying23 hi hz0 hz1 _ _ _ (2 * L.length) rfl rfl (by omega) (by rw [hz2]; omega) (by unfold maxLen; omega) (Nat.le_refl _) ?_)
      intro w1 hown hg
      have hB := (Below.refl w.heap.size w).grown hg (Nat.le_refl _) (fun k hk => by cases hk)
      have HO : Hid (OwnU w.heap.size w1 (.slice (some ⟨w.heap.size, 0, none⟩) 0 (2 * L.length)) (gath L L.length)) := by
        unfold Hid OwnU; rw [gath_end]; exact hown
      have HB := Lib.hid hB
      clear hown hg hB
      go_wp2_with fail
      go_loopw [8, 9, 10, 11] (fun v n al i wr => ∃ r : Nat, r ≤ L.length ∧ i = .int .i64 ((r : Int) - 1) ∧ OwnU w.heap.size wr v (gath L r) ∧ n = .bool (inU L u r) ∧ al = .bool (allU L o r) ∧ Below w.heap.size w wr) (fun _ _ _ i _ => (intOf i + 1).toNat)
      case atStart => exact ⟨L.length, Nat.le_refl _, rfl, HO.out, by first | (rw [HI.out, HVV.out]; done) | (rw [HI.out, HVV.out]; exact congrArg Value.bool (decide_eq_false (by omega))) | (rw [HI.out, HVV.out]; exact congrArg Value.bool (decide_eq_true (by omega))), by rw [HA.out], HB.out⟩
      case round =>
        obtain ⟨r, hr, rfl, ho, rfl, rfl, hB⟩ := hrel
        have HO := Lib.hid ho
        have HB := Lib.hid hB
        have hz := hB.size
        clear ho hB
        cases r with
        | zero =>
          obtain ⟨ba, bc, rfl, hU⟩ := HO.out.isU
          have HU := Lib.hid hU
          clear hU
          have HGL : Hid ((gath L 0).length ≤ maxLen) := by unfold Hid maxLen; rw [gath_len]; omega
          have HMG := Lib.hid (meet_gath L)
          have HIA := Lib.hid (inU_all L u)
          have hAA := allU_all L o
          go_wp2_with fail
          refine (meet_any ba _ bc (gath L 0) wr HGL.out HU.out).mono ?_
          rintro e w' ⟨rfl, rfl⟩
          rw [HMG.out]
          go_wp2_with fail
          refine (has_any (meetL L) u _).mono ?_
          rintro e w' ⟨rfl, rfl⟩
          rw [HIA.out]
          go_wp2_with fail
          refine (meet_any _ 2 2 [12#64, 5#64] _ (by decide) ⟨rfl, fun _ => ⟨_, rfl, by simp, fun i hi => ?_⟩⟩).mono ?_
          · match i, hi with
            | 0, _ => simp [Addr.add]
            | 1, _ => simp [Addr.add]
          rintro e w' ⟨rfl, rfl⟩
          rw [show meetL [12#64, 5#64] = 4#64 by decide]
          go_wp2_with fail
          go_ret
          exact ⟨rfl, HB.out.alloc hz _⟩
        | succ q =>
          rw [show ((q + 1 : Nat) : Int) - 1 = (q : Int) by omega]
          obtain ⟨x, hx, hxb, hcell⟩ := HL.out.2 (by omega)
          have hq : q < L.length := by omega
          have hadd : (x.add q).block < w.heap.size := by
            have : (x.add q).block = x.block := by unfold Addr.add; split <;> rfl
            rw [this]; exact hxb
          have hc := hcell q hq
          rw [← HB.out.cell hadd] at hc
          subst hx
          have HL2 : Hid ((gath L (q + 1)).length ≤ 1000000) := by unfold Hid; rw [gath_len]; omega
          have HG := Lib.hid (gath_step L q hq)
          have HIS := Lib.hid (inU_step L u q hq)
          have HAS := Lib.hid (allU_step L o q hq)
          have HMB := Lib.hid (meet_below L q hq)
          generalize L[q] = y at *
          go_wp2_with fail
          go_region_law (first | (refine step_appU2 rfl (.tmp 34) (.tmp 43) rfl w.heap.size _ _ rfl (HO.out.alloc _) wr.heap.size y y rfl (by simp) (by simp) HL2.out (by simp; try omega) ?_; intro v1 w1' ho1 hb1))
          all_goals
            have HO1 : Hid (OwnU w.heap.size w1' v1 (gath L q)) := by unfold Hid; rw [HG.out]; exact ho1
            have HB1 := Lib.hid ((HB.out.drew.alloc hz _).trans hb1)
            have hc1 : w1'.cell? (x.add q) = some (.int .u64 (y.toNat : Int)) := by rw [HB1.out.cell hadd, ← HB.out.cell hadd]; exact hc
            clear ho1 hb1 hc
            have hmb := HMB.out
            cases hin : inU L u (q + 1)
          all_goals
            have HIN := Lib.hid hin
            clear hin
            cases hal : allU L o (q + 1)
          all_goals
            have HAL := Lib.hid hal
            clear hal
            go_wp2_with fail
            first
              | (refine (has_any y u _).mono ?_
                 rintro e w' ⟨rfl, rfl⟩
                 go_wp2_with fail
                 go_roundw)
              | go_roundw
            case rel => exact ⟨q, by omega, by go_num, HO1.out, by rw [HIS.out, HIN.out]; rfl, by rw [HAS.out, HAL.out]; rfl, HB1.out⟩
            case measure => simp [intOf]
theorem u64_wf {n : Int} (h : (Lit.int .u64 n).wf = true) : ((BitVec.ofInt 64 n).toNat : Int) = n := by
  rw [Lit.wf_int_iff] at h
  simp [IntKind.min, IntKind.max, IntKind.signed, IntKind.bits] at h
  rw [BitVec.toNat_ofInt]
  omega
def words (z : List Int) (n : Nat) : List W64 := (z.take n).map (BitVec.ofInt 64)
theorem words_came {a : Option Addr} {len cap : Nat} {z : List Int} {w : World}
    (h : (a = none ∧ len = 0 ∧ cap = 0 ∧ z = []) ∨ ∃ x, a = some x ∧ len ≤ cap ∧ cap ≤ maxLen ∧ z.length = cap ∧ (∀ i, i < z.length → w.cell? (x.add i) = some (.int .u64 (z.getD i 0))) ∧ ∀ n ∈ z, (Lit.int .u64 n).wf = true) :
    IsU w a len (words z len) ∧ len ≤ maxLen := by
  rcases h with ⟨rfl, rfl, rfl, rfl⟩ | ⟨x, rfl, h1, h2, h3, h4, h5⟩
  · exact ⟨⟨rfl, fun h => by omega⟩, by decide⟩
  · refine ⟨⟨by simp [words]; omega, fun h0 => ⟨x, rfl, ?_, fun i hi => ?_⟩⟩, by omega⟩
    · have := World.block_lt_of_cell? w _ (h4 0 (by omega))
      simpa [Addr.add] using this
    · have hi' : i < len := by simp [words] at hi; omega
      rw [h4 i (by omega)]
      have e : (words z len)[i] = BitVec.ofInt 64 (z[i]'(by omega)) := by simp [words]
      rw [e, u64_wf (h5 _ (List.getElem_mem _))]
      simp [List.getD, show i < z.length by omega]
theorem groupMeets_law (a : Option Addr) (len cap : Nat) (z : List Int) (o u : Int) (w : World)
    (h : (a = none ∧ len = 0 ∧ cap = 0 ∧ z = []) ∨ ∃ x, a = some x ∧ len ≤ cap ∧ cap ≤ maxLen ∧ z.length = cap ∧ (∀ i, i < z.length → w.cell? (x.add i) = some (.int .u64 (z.getD i 0))) ∧ ∀ n ∈ z, (Lit.int .u64 n).wf = true) (ho : (Lit.int .u64 o).wf = true) :
    Calls Try.prog 4 #[.slice a len cap, .int .u64 o, .int .i64 u] w fun e w' => e = .returned (.bool true) ∧ Below w.heap.size w w' := by
  obtain ⟨h1, h2⟩ := words_came h
  rw [← u64_wf ho]
  exact groupMeets_any a len cap _ _ u w h2 h1
end Go.Proofs.Ytmnbplfgdgjpdaa
