/- The walk of FlogicFolds. -/
import Derived.Test.YtdhahiodnmmkeaaGreatDoorFolA
import Derived.Test.YtdhahiodnmmkeaaGreatDoorMge
import Derived.Test.YtdhahiodnmmkeaaGreatDoorMgn
namespace Go.Proofs.YtdhahiodnmmkeaaGreatDoor.Va
open Go Go.RowKit GM
set_option linter.unusedVariables false
attribute [local simp] DepA isB rsAt
set_option linter.unusedSimpArgs false
theorem isB_at {w : World} {a : Option Addr} {n : Nat} {L : List Bool} (h : IsOf cellsB 1 w a n L) {k : Nat} (hk : k < L.length) : ∃ b off, a = some ⟨b, off, none⟩ ∧ b < w.heap.size ∧ w.cell? ⟨b, off + k, none⟩ = some (.bool L[k]) := by
  obtain ⟨b, off, e, h1, h2⟩ := h.2 (by have := h.1; omega)
  have := h2 k hk 0 (.bool L[k]) rfl
  rw [Nat.mul_one, Nat.add_zero] at this
  exact ⟨b, off, e, h1, this⟩
/-- What the end keeps: the three lists, the three values. -/
structure Fo (w0 X : World) (ua ub uc : Option Addr) (k : Nat) (LA LN LR : List V3) (p : Nat) (x y z : Int) : Prop where
  b : Below w0.heap.size w0 X
  a : IsV X ua k LA
  n : IsV X ub k LN
  r : IsV X uc k LR
  x : B3 X p 2 x ⟨#[]⟩
  y : B3 X (p + 1) 2 y ⟨#[]⟩
  z : B3 X (p + 1 + 1) 2 z ⟨#[]⟩
theorem Fo.later {w0 X X' : World} {ua ub uc : Option Addr} {k : Nat} {LA LN LR : List V3} {p : Nat} {x y z : Int} (h : Fo w0 X ua ub uc k LA LN LR p x y z) (hB : Below X.heap.size X X') : Fo w0 X' ua ub uc k LA LN LR p x y z :=
  ⟨vnext h.b hB, IsOf.later h.a hB, IsOf.later h.n hB, IsOf.later h.r hB, h.x.later hB, h.y.later hB, h.z.later hB⟩
theorem Fo.drew {w0 X : World} {ua ub uc : Option Addr} {k : Nat} {LA LN LR : List V3} {p : Nat} {x y z : Int} (h : Fo w0 X ua ub uc k LA LN LR p x y z) : Fo w0 X.drew ua ub uc k LA LN LR p x y z := ⟨h.b.drew, h.a, h.n, h.r, h.x, h.y, h.z⟩
def notL (l : List Bool) : List Bool := l.map (!·)
set_option maxRecDepth 100000 in
set_option maxHeartbeats 25600000 in
theorem flogicFolds_any (z : List Bool) (a : Option Addr) (n cap : Nat) (tn : Int) (w : World) (hL : IsOf cellsB 1 w a n z) (hc : n ≤ cap) (ht : InI tn) (hT : Tb w) :
    Calls Tryz.prog 6 #[.slice a n cap, .int .i64 tn] w fun e w' => e = .returned (.bool true) ∧ Below w.heap.size w w' := by
  have HT := Lib.hid hT
  have HH := Lib.hid (IsOf.head hL 16)
  clear hL hT
  go_enter Tryz.func6, Tryz.ntmps6
  go_upto_if 20 with (fail)
  obtain ⟨m, hm⟩ : ∃ m, (min (n : Int) 16).toNat = m := ⟨_, rfl⟩
  have hmx : max (min (n : Int) 16) 0 = (m : Int) := by omega
  have hmn : min n 16 = m := by omega
  rw [hmn] at HH
  rw [hm, hmx]
  go_cut [0] (fun v wx => ∃ a' m' cap' l', v = .slice a' m' cap' ∧ 1 ≤ m' ∧ m' ≤ 16 ∧ m' ≤ cap' ∧ Hid (IsOf cellsB 1 wx a' m' l') ∧ Hid (Below w.heap.size w wx))
  case first =>
    by_cases h0 : m = 0
    · subst h0
      go_wp2_with fail
      go_meet
      case rel => exact ⟨_, 1, 1, [true], rfl, by decide, by decide, by decide, isOf_new _ _ _ _ rfl, valloc _ _⟩
    · have e0 : ((m : Int) == 0) = false := by simp; omega
      go_wp2_with fail
      go_meet
      case rel => exact ⟨a, m, cap, _, rfl, by omega, by omega, by omega, HH.out, Below.refl _ _⟩
  case rest =>
    obtain ⟨a', m', cap', l, rfl, hm1, hm16, hmc, HI, HB0⟩ := hcut
    clear HH hm hmx hmn
    have ht1 := Int.tmod_lt_of_pos tn (show (0 : Int) < (m' : Int) by omega)
    have ht2 := neg_lt_tmod tn (show (0 : Int) < (m' : Int) by omega)
    have hw1 : IntKind.i64.wrap (tn.tmod (m' : Int)) = tn.tmod (m' : Int) := IntWalk.i64_in _ (by omega)
    have hw2 : IntKind.i64.wrap (tn.tmod (m' : Int) + (m' : Int)) = tn.tmod (m' : Int) + (m' : Int) := IntWalk.i64_in _ (by omega)
    obtain ⟨t, htt⟩ : ∃ t : Nat, (tn.tmod (m' : Int) + (m' : Int)).tmod (m' : Int) = (t : Int) := ⟨((tn.tmod (m' : Int) + (m' : Int)).tmod (m' : Int)).toNat, by
      have := Int.tmod_nonneg (m' : Int) (show 0 ≤ tn.tmod (m' : Int) + (m' : Int) by omega)
      omega⟩
    have htm : t < m' := by have := Int.tmod_lt_of_pos (tn.tmod (m' : Int) + (m' : Int)) (show (0 : Int) < (m' : Int) by omega); omega
    have hw3 : IntKind.i64.wrap (t : Int) = (t : Int) := IntWalk.i64_in _ (by omega)
    have hne : ¬ (m' : Int) = 0 := by omega
    have hne2 : ¬ m' = 0 := by omega
    go_wp2_with fail
    have hl : l.length = m' := HI.out.1
    go_loopw [5, 6, 7, 8, 9] (fun va vb vc c i wr => ∃ k : Nat, k ≤ m' ∧ c = .int .i64 (((l.take k).countP id : Nat) : Int) ∧ i = .int .i64 (k : Int) ∧ Hid (OwnV wc.heap.size wr va (trL (l.take k))) ∧ Hid (OwnV wc.heap.size wr vb (trL (notL (l.take k)))) ∧ Hid (OwnV wc.heap.size wr vc (trL ((rotL l t).take k))) ∧ Hid (ApartV va vb) ∧ Hid (ApartV va vc) ∧ Hid (ApartV vb vc) ∧ Hid (Below wc.heap.size wc wr)) (fun _ _ _ _ i _ => 16 - (intOf i).toNat)
    case atStart => exact ⟨0, by omega, rfl, rfl, OwnOf.nil _ _ _ _ _, OwnOf.nil _ _ _ _ _, OwnOf.nil _ _ _ _ _, ApartV.nil _, ApartV.nil _, ApartV.nil _, Below.refl _ _⟩
    case round =>
      obtain ⟨k, hk, rfl, rfl, HA, HN, HR, D1, D2, D3, HB⟩ := hrel
      by_cases hlt : k < m'
      · obtain ⟨u, hu⟩ : ∃ u : Nat, (k + t) % m' = u := ⟨_, rfl⟩
        have hum : u < m' := by rw [← hu]; exact Nat.mod_lt _ (by omega)
        have hw4 : IntKind.i64.wrap ((k : Int) + (t : Int)) = (k : Int) + (t : Int) := IntWalk.i64_in _ (by omega)
        have hw5 : ((k : Int) + (t : Int)).tmod (m' : Int) = (u : Int) := by rw [← hu, ← Int.natCast_add]; rfl
        have hw6 : IntKind.i64.wrap (u : Int) = (u : Int) := IntWalk.i64_in _ (by omega)
        have hkl : k < l.length := by omega
        have hul : u < l.length := by omega
        have hki : (k : Int) < (m' : Int) := by omega
        have hui : (u : Int) < (m' : Int) := by omega
        have ES := Lib.hid (List.take_succ_eq_append_getElem hkl)
        have ER : Hid ((rotL l t).take (k + 1) = (rotL l t).take k ++ [l[u]]) := by
          have h1 : k < (rotL l t).length := by rw [rotL_len]; exact hkl
          have h2 := rotL_at (l := l) (t := t) (i := k) (by omega) hkl (by rw [hl, hu]; exact hum)
          rw [List.getElem?_eq_getElem h1] at h2
          have h3 := Option.some.inj h2
          unfold Hid
          rw [List.take_succ_eq_append_getElem h1, h3]
          simp only [hl, hu]
        have EXG : Hid (∀ X, Below wc.heap.size wc X → ∃ b off, a' = some ⟨b, off, none⟩ ∧ b < X.heap.size ∧ X.cell? ⟨b, off + k, none⟩ = some (.bool l[k]) ∧ X.cell? ⟨b, off + u, none⟩ = some (.bool l[u])) := fun X hS => by
          obtain ⟨b, off, e, h1, h2⟩ := isB_at (IsOf.later HI.out hS) hkl
          obtain ⟨b', off', e', _, h3⟩ := isB_at (IsOf.later HI.out hS) hul
          rw [e] at e'
          cases e'
          exact ⟨b, off, e, h1, h2, h3⟩
        obtain ⟨b, off, rfl, _⟩ := isB_at HI.out hkl
        have EXF : Hid (∀ X, Below wc.heap.size wc X → b < X.heap.size ∧ X.cell? ⟨b, off + k, none⟩ = some (.bool l[k]) ∧ X.cell? ⟨b, off + u, none⟩ = some (.bool l[u])) := fun X hS => by
          obtain ⟨b', off', e, h⟩ := EXG.out X hS
          cases e
          exact h
        have hla : (trL (l.take k)).length ≤ 16 := by unfold trL; rw [List.length_map, List.length_take]; omega
        have hln : (trL (notL (l.take k))).length ≤ 16 := by unfold trL notL; rw [List.length_map, List.length_map, List.length_take]; omega
        have hlr : (trL ((rotL l t).take k)).length ≤ 16 := by unfold trL; rw [List.length_map, List.length_take]; omega
        have EA : Hid (trL (l.take (k + 1)) = trL (l.take k) ++ [trV l[k]]) := by unfold Hid; rw [ES.out]; unfold trL; rw [List.map_append]; rfl
        have EN : Hid (trL (notL (l.take (k + 1))) = trL (notL (l.take k)) ++ [trV (!l[k])]) := by unfold Hid; rw [ES.out]; unfold trL notL; rw [List.map_append, List.map_append]; rfl
        have EQ : Hid (trL ((rotL l t).take (k + 1)) = trL ((rotL l t).take k) ++ [trV l[u]]) := by unfold Hid; rw [ER.out]; unfold trL; rw [List.map_append]; rfl
        have EC : Hid ((l.take (k + 1)).countP id = (l.take k).countP id + if l[k] then 1 else 0) := by
          unfold Hid
          rw [ES.out, List.countP_append, List.countP_singleton]; rfl
        have hcl : (l.take k).countP id ≤ 16 := by have := List.countP_le_length (p := id) (l := l.take k); rw [List.length_take] at this; omega
        clear ES ER EXG
        generalize trL (l.take k) = LA at *
        generalize trL (notL (l.take k)) = LN at *
        generalize trL ((rotL l t).take k) = LR at *
        generalize l[k] = bk at *
        generalize l[u] = bu at *
        go_upto_region 10 with fail
        refine wp_region_sqv 30 (fun X => Below wc.heap.size wc X) wc.heap.size
          [fbC u5, fbC (.slice (some ⟨b, off, none⟩) m' cap'), fbC (.int .i64 (k : Int)), fbC (.pointer (some ⟨b, off + k, none⟩)), fbC (.bool bk), fbC (.agg #[.int .u8 2, .int .i64 (b2i bk), .string ⟨#[]⟩]), fbN (fun g => .slice (some ⟨g, 0, none⟩) 1 1) wc.heap.size (.cells #[.int .u8 2, .int .i64 (b2i bk), .string ⟨#[]⟩] 26), fbL 26 cellsV 3 wc.heap.size (LA ++ [trV bk]),
           fbC u6, fbC (.slice (some ⟨b, off, none⟩) m' cap'), fbC (.int .i64 (k : Int)), fbC (.pointer (some ⟨b, off + k, none⟩)), fbC (.bool bk), fbC (.bool (!bk)), fbC (.agg #[.int .u8 2, .int .i64 (b2i (!bk)), .string ⟨#[]⟩]), fbN (fun g => .slice (some ⟨g, 0, none⟩) 1 1) wc.heap.size (.cells #[.int .u8 2, .int .i64 (b2i (!bk)), .string ⟨#[]⟩] 26), fbL 26 cellsV 3 wc.heap.size (LN ++ [trV (!bk)]),
           fbC u7, fbC (.slice (some ⟨b, off, none⟩) m' cap'), fbC (.int .i64 (k : Int)), fbC (.int .i64 (t : Int)), fbC (.int .i64 ((k : Int) + (t : Int))), fbC (.slice (some ⟨b, off, none⟩) m' cap'), fbC (.int .i64 (m' : Int)), fbC (.int .i64 (u : Int)), fbC (.pointer (some ⟨b, off + u, none⟩)), fbC (.bool bu), fbC (.agg #[.int .u8 2, .int .i64 (b2i bu), .string ⟨#[]⟩]), fbN (fun g => .slice (some ⟨g, 0, none⟩) 1 1) wc.heap.size (.cells #[.int .u8 2, .int .i64 (b2i bu), .string ⟨#[]⟩] 26), fbL 26 cellsV 3 wc.heap.size (LR ++ [trV bu]),
           dflFB, dflFB, dflFB, fbV 26 cellsV 3 wc.heap.size LA u5, fbV 26 cellsV 3 wc.heap.size LN u6, fbV 26 cellsV 3 wc.heap.size LR u7]
          [[], [], [], [], [], [], [], [33], [], [], [], [], [], [], [], [], [34], [], [], [], [], [], [], [], [], [], [], [], [], [35]] [] [[], [], [], [1, 2], [3], [4], [5], [0, 6, 33], [], [], [], [9, 10], [11], [12], [13], [14], [8, 15, 34], [], [], [], [], [19, 20], [], [22], [21, 23], [18, 24], [25], [26], [27], [17, 28, 35]] (fun j => if j = 33 then u5 else if j = 34 then u6 else u7)
          (J3 ?fin (fun vs X => OwnV wc.heap.size X (vs 7) (LA ++ [trV bk]) ∧ OwnV wc.heap.size X (vs 16) (LN ++ [trV (!bk)]) ∧ OwnV wc.heap.size X (vs 29) (LR ++ [trV bu]) ∧ ApartV (vs 7) (vs 16) ∧ ApartV (vs 7) (vs 29) ∧ ApartV (vs 16) (vs 29) ∧ Below wc.heap.size wc X))
          (fun a b h k => k.trans h) (by kernel_rfl) (by kernel_rfl) (by kernel_rfl) (by kernel_rfl) (by decide) HB.out.drew HB.out.size
          (virt3 rfl rfl rfl rfl HA.out HN.out HR.out D1.out D2.out D3.out) ?hseq (by kernel_rfl) ?good ?hdf ?hE ?hsto ?hend
        case good => exact ⟨good_C _ _, good_C _ _, good_C _ _, good_C _ _, good_C _ _, good_C _ _, good_N _ (fun _ => rfl), good_L _, good_C _ _, good_C _ _, good_C _ _, good_C _ _, good_C _ _, good_C _ _, good_C _ _, good_N _ (fun _ => rfl), good_L _, good_C _ _, good_C _ _, good_C _ _, good_C _ _, good_C _ _, good_C _ _, good_C _ _, good_C _ _, good_C _ _, good_C _ _, good_C _ _, good_N _ (fun _ => rfl), good_L _, GoodO.dfl _ _, GoodO.dfl _ _, GoodO.dfl _ _, good_V _, good_V _, good_V _, trivial⟩
        case hdf =>
          intro j h1 h2
          obtain rfl | rfl | rfl := (by have h3 : j < 33 := h2; omega : j = 30 ∨ j = 31 ∨ j = 32) <;> rfl
        case hseq =>
          simp only [List.take, List.take_succ_cons, List.take_zero, putsL, Act.put, List.setIfInBounds_toArray, List.set_cons_zero, List.set_cons_succ, Nat.zero_add, Nat.reduceAdd]
          refine seqo_cons (obo_run rfl (fun vs W hD => rfl) (fun vs W hS hD => ?_)) ?_
          · go_simp; done
          refine seqo_cons (obo_run rfl (fun vs W hD => rfl) (fun vs W hS hD => ?_)) ?_
          · go_simp; done
          refine seqo_cons (obo_run rfl (fun vs W hD => rfl) (fun vs W hS hD => ?_)) ?_
          · go_simp; done
          refine seqo_cons (obo_run rfl (fun vs W hD => rfl) (fun vs W hS hD => ?_)) ?_
          · have h1 : vs 1 = _ := hD.1
            have h2 : vs 2 = _ := hD.2.1
            obtain ⟨hbl, ck, cu⟩ := EXF.out W hS
            go_simp; done
          refine seqo_cons (obo_run rfl (fun vs W hD => rfl) (fun vs W hS hD => ?_)) ?_
          · have h3 : vs 3 = _ := hD.1
            obtain ⟨hbl, ck, cu⟩ := EXF.out W hS
            go_simp; done
          refine seqo_cons (obo_call rfl (f := 18) (fun vs => #[.bool bk]) (fun vs W hD => rfl) (fun vs W hS hD => ?_) (fun vs W hS hZ hD => ?_)) ?_
          · have h4 : vs 4 = _ := hD.1
            go_simp; done
          · exact ltruth_any bk W
          refine seqo_cons (obo_new rfl (fun _ => rfl) (fun vs W hD => rfl) (fun vs W hS hD => ?_)) ?_
          · have h5 : vs 5 = _ := hD.1
            go_simp; done
          refine seqo_cons (obo_appV (j := 33) (u0 := u5) rfl rfl (by decide) (fun vs W hD => rfl) (.tmp 38) (.tmp 44) 22 rfl Tryz.underlying22 _ 32 infoV zeroV (by decide) (by decide) cellsV_len cellsV_one 1 (by omega) (fun vs W hS hZ hD => ?_)) ?_
          · obtain ⟨h0, ⟨gq, h6, hg6, hh6⟩, ⟨hv, hO⟩, _⟩ := hD
            have h0 : vs 0 = _ := h0
            have h6 : vs 6 = _ := h6
            exact ⟨h0.trans hv.symm, hO, _, 1, h6, isOf_heap hh6 rfl⟩
          refine seqo_cons (obo_run rfl (fun vs W hD => rfl) (fun vs W hS hD => ?_)) ?_
          · go_simp; done
          refine seqo_cons (obo_run rfl (fun vs W hD => rfl) (fun vs W hS hD => ?_)) ?_
          · go_simp; done
          refine seqo_cons (obo_run rfl (fun vs W hD => rfl) (fun vs W hS hD => ?_)) ?_
          · go_simp; done
          refine seqo_cons (obo_run rfl (fun vs W hD => rfl) (fun vs W hS hD => ?_)) ?_
          · have h9 : vs 9 = _ := hD.1
            have h10 : vs 10 = _ := hD.2.1
            obtain ⟨hbl, ck, cu⟩ := EXF.out W hS
            go_simp; done
          refine seqo_cons (obo_run rfl (fun vs W hD => rfl) (fun vs W hS hD => ?_)) ?_
          · have h11 : vs 11 = _ := hD.1
            obtain ⟨hbl, ck, cu⟩ := EXF.out W hS
            go_simp; done
          refine seqo_cons (obo_run rfl (fun vs W hD => rfl) (fun vs W hS hD => ?_)) ?_
          · have h12 : vs 12 = _ := hD.1
            go_simp; done
          refine seqo_cons (obo_call rfl (f := 18) (fun vs => #[.bool (!bk)]) (fun vs W hD => rfl) (fun vs W hS hD => ?_) (fun vs W hS hZ hD => ?_)) ?_
          · have h13 : vs 13 = _ := hD.1
            go_simp; done
          · exact ltruth_any (!bk) W
          refine seqo_cons (obo_new rfl (fun _ => rfl) (fun vs W hD => rfl) (fun vs W hS hD => ?_)) ?_
          · have h14 : vs 14 = _ := hD.1
            go_simp; done
          refine seqo_cons (obo_appV (j := 34) (u0 := u6) rfl rfl (by decide) (fun vs W hD => rfl) (.tmp 46) (.tmp 53) 22 rfl Tryz.underlying22 _ 32 infoV zeroV (by decide) (by decide) cellsV_len cellsV_one 1 (by omega) (fun vs W hS hZ hD => ?_)) ?_
          · obtain ⟨h0, ⟨gq, h6, hg6, hh6⟩, ⟨hv, hO⟩, _⟩ := hD
            have h0 : vs 8 = _ := h0
            have h6 : vs 15 = _ := h6
            exact ⟨h0.trans hv.symm, hO, _, 1, h6, isOf_heap hh6 rfl⟩
          refine seqo_cons (obo_run rfl (fun vs W hD => rfl) (fun vs W hS hD => ?_)) ?_
          · go_simp; done
          refine seqo_cons (obo_run rfl (fun vs W hD => rfl) (fun vs W hS hD => ?_)) ?_
          · go_simp; done
          refine seqo_cons (obo_run rfl (fun vs W hD => rfl) (fun vs W hS hD => ?_)) ?_
          · go_simp; done
          refine seqo_cons (obo_run rfl (fun vs W hD => rfl) (fun vs W hS hD => ?_)) ?_
          · go_simp; done
          refine seqo_cons (obo_run rfl (fun vs W hD => rfl) (fun vs W hS hD => ?_)) ?_
          · have h19 : vs 19 = _ := hD.1
            have h20 : vs 20 = _ := hD.2.1
            go_simp; done
          refine seqo_cons (obo_run rfl (fun vs W hD => rfl) (fun vs W hS hD => ?_)) ?_
          · go_simp; done
          refine seqo_cons (obo_run rfl (fun vs W hD => rfl) (fun vs W hS hD => ?_)) ?_
          · have h22 : vs 22 = _ := hD.1
            go_simp; done
          refine seqo_cons (obo_run rfl (fun vs W hD => rfl) (fun vs W hS hD => ?_)) ?_
          · have h21 : vs 21 = _ := hD.1
            have h23 : vs 23 = _ := hD.2.1
            go_simp; done
          refine seqo_cons (obo_run rfl (fun vs W hD => rfl) (fun vs W hS hD => ?_)) ?_
          · have h18 : vs 18 = _ := hD.1
            have h24 : vs 24 = _ := hD.2.1
            obtain ⟨hbl, ck, cu⟩ := EXF.out W hS
            go_simp; done
          refine seqo_cons (obo_run rfl (fun vs W hD => rfl) (fun vs W hS hD => ?_)) ?_
          · have h25 : vs 25 = _ := hD.1
            obtain ⟨hbl, ck, cu⟩ := EXF.out W hS
            go_simp; done
          refine seqo_cons (obo_call rfl (f := 18) (fun vs => #[.bool bu]) (fun vs W hD => rfl) (fun vs W hS hD => ?_) (fun vs W hS hZ hD => ?_)) ?_
          · have h26 : vs 26 = _ := hD.1
            go_simp; done
          · exact ltruth_any bu W
          refine seqo_cons (obo_new rfl (fun _ => rfl) (fun vs W hD => rfl) (fun vs W hS hD => ?_)) ?_
          · have h27 : vs 27 = _ := hD.1
            go_simp; done
          refine seqo_cons (obo_appV (j := 35) (u0 := u7) rfl rfl (by decide) (fun vs W hD => rfl) (.tmp 55) (.tmp 66) 22 rfl Tryz.underlying22 _ 32 infoV zeroV (by decide) (by decide) cellsV_len cellsV_one 1 (by omega) (fun vs W hS hZ hD => ?_)) ?_
          · obtain ⟨h0, ⟨gq, h6, hg6, hh6⟩, ⟨hv, hO⟩, _⟩ := hD
            have h0 : vs 17 = _ := h0
            have h6 : vs 28 = _ := h6
            exact ⟨h0.trans hv.symm, hO, _, 1, h6, isOf_heap hh6 rfl⟩
          exact seqo_end (fun _ _ _ _ _ => trivial)
        case hE =>
          intro vs W hS hZ hv hD
          have e7 : OwnV wc.heap.size W (vs 7) (LA ++ [trV bk]) := endO_at _ 0 hv 7 (by show 7 < 36; decide) (by decide)
          have e16 : OwnV wc.heap.size W (vs 16) (LN ++ [trV (!bk)]) := endO_at _ 0 hv 16 (by show 16 < 36; decide) (by decide)
          have e29 : OwnV wc.heap.size W (vs 29) (LR ++ [trV bu]) := endO_at _ 0 hv 29 (by show 29 < 36; decide) (by decide)
          have a1 : ApartV (vs 7) (vs 16) := hD 7 16 (by decide) (by decide) (by decide)
          have a2 : ApartV (vs 7) (vs 29) := hD 7 29 (by decide) (by decide) (by decide)
          have a3 : ApartV (vs 16) (vs 29) := hD 16 29 (by decide) (by decide) (by decide)
          simp only [List.take, List.take_succ_cons, List.take_zero, putsL, Act.put, List.setIfInBounds_toArray, List.set_cons_zero, List.set_cons_succ, Nat.zero_add, Nat.reduceAdd]
          refine J3.start vs ⟨e7, e16, e29, a1, a2, a3, hS⟩ ?_ rfl rfl rfl
          simp only [Act.put, List.setIfInBounds_toArray, List.set_cons_zero, List.set_cons_succ]
          rfl
        case hsto =>
          rintro i o act T X ho hi hTi hJ
          match i, hi with
          | 30, _ => obtain rfl := Option.some.inj ho; exact ⟨rfl, asgT _ _ _ _ hJ.s5⟩
          | 31, _ => obtain rfl := Option.some.inj ho; exact ⟨rfl, asgT _ _ _ _ hJ.s6⟩
          | 32, _ => obtain rfl := Option.some.inj ho; exact ⟨rfl, asgT _ _ _ _ hJ.s7⟩
          | j + 33, _ => cases ho
        case hend =>
          rintro act T X hT hJ
          obtain ⟨vs, ⟨o1, o2, o3, a1, a2, a3, hB⟩, hact⟩ := hJ.done (hT 30 (by decide) (by decide)) (hT 31 (by decide) (by decide)) (hT 32 (by decide) (by decide))
          subst hact
          obtain ⟨hbl, ck, cu⟩ := EXF.out X hB
          have H1 : Hid (OwnV wc.heap.size X (vs 7) (trL (l.take (k + 1)))) := by unfold Hid; rw [EA.out]; exact o1
          have H2 : Hid (OwnV wc.heap.size X (vs 16) (trL (notL (l.take (k + 1))))) := by unfold Hid; rw [EN.out]; exact o2
          have H3 : Hid (OwnV wc.heap.size X (vs 29) (trL ((rotL l t).take (k + 1)))) := by unfold Hid; rw [EQ.out]; exact o3
          have G1 := Lib.hid a1
          have G2 := Lib.hid a2
          have G3 := Lib.hid a3
          have GB := Lib.hid hB
          clear o1 o2 o3 a1 a2 a3 hB EA EN EQ HA HN HR D1 D2 D3 HB cu hT
          generalize (l.take k).countP id = C at *
          have hw7 : IntKind.i64.wrap ((C : Int) + 1) = (C : Int) + 1 := IntWalk.i64_in _ (by omega)
          cases bk
          · go_wp2_with fail
            exact ⟨⟨k + 1, by omega, by rw [EC.out]; rfl, by go_num, H1.out, H2.out, H3.out, G1.out, G2.out, G3.out, GB.out⟩, by simp [intOf]; omega⟩
          · go_wp2_with fail
            exact ⟨⟨k + 1, by omega, by rw [EC.out]; rfl, by go_num, H1.out, H2.out, H3.out, G1.out, G2.out, G3.out, GB.out⟩, by simp [intOf]; omega⟩
      · have hkm : k = m' := by omega
        subst hkm
        have hkx : ¬ (k : Int) < (k : Int) := by omega
        have e1 : l.take k = l := List.take_of_length_le (by omega)
        have e2 : (rotL l t).take k = rotL l t := List.take_of_length_le (by rw [rotL_len]; omega)
        rw [e1]
        rw [e1] at HA HN
        rw [e2] at HR
        obtain ⟨ua, xa, rfl, hA⟩ := OwnOf.isOf cellsV_len HA.out
        obtain ⟨ub, xb, rfl, hN⟩ := OwnOf.isOf cellsV_len HN.out
        obtain ⟨uc, xc, rfl, hR⟩ := OwnOf.isOf cellsV_len HR.out
        have l1 : (trL l).length = k := by unfold trL; rw [List.length_map]; exact hl
        have l2 : (trL (notL l)).length = k := by unfold trL notL; rw [List.length_map, List.length_map]; exact hl
        have l3 : (trL (rotL l t)).length = k := by unfold trL; rw [List.length_map, rotL_len]; exact hl
        rw [l1] at hA
        rw [l2] at hN
        rw [l3] at hR
        simp only [l1, l2, l3]
        have hln : (notL l).length = k := by unfold notL; rw [List.length_map]; exact hl
        have hlr : (rotL l t).length = k := by rw [rotL_len]; exact hl
        have HOF : Hid (∀ (fn : Nat) (v x : Option Addr) (q : Nat) (M : List V3) (r : V3) X, callL fn M = (r, 0) → (∀ u ∈ M, u.2.2.size ≤ 2000 ∧ InI u.2.1) → M.length ≤ 16 → Below wc.heap.size wc X → IsV X v M.length M → Calls Tryz.prog 19 #[.int .u8 (fn : Int), .slice v M.length q] X fun e w' => e = .returned (vOf r) ∧ Below X.heap.size X w') := fun fn v x q M r X hr hs hm hX hI => by
          have := lof_any fn v M.length q M X hI (by omega) hs (HT.out.later (vnext HB0.out hX))
          rwa [hr] at this
        have HAW := Lib.hid (fun X (hX : Below wc.heap.size wc X) => awake15 X (HT.out.later (vnext HB0.out hX)))
        obtain ⟨A, hA1⟩ : ∃ A, l.all id = A := ⟨_, rfl⟩
        obtain ⟨Y, hY1⟩ : ∃ Y, l.any id = Y := ⟨_, rfl⟩
        obtain ⟨C, hC1⟩ : ∃ C, l.countP id = C := ⟨_, rfl⟩
        obtain ⟨Z, hZ1⟩ : ∃ Z, decide (C % 2 = 1) = Z := ⟨_, rfl⟩
        have c21 : callL 21 (trL l) = (trV A, 0) := by rw [call_tr (.inl rfl) l (by omega) (by omega), all_tr, hA1]
        have c22 : callL 22 (trL l) = (trV Y, 0) := by rw [call_tr (.inr (.inl rfl)) l (by omega) (by omega), any_tr, hY1]
        have c23 : callL 23 (trL l) = (trV Z, 0) := by rw [call_tr (.inr (.inr rfl)) l (by omega) (by omega), xor_tr, hC1, hZ1]
        have n22 : callL 22 (trL (notL l)) = (trV (!A), 0) := by rw [call_tr (.inr (.inl rfl)) _ (by omega) (by omega), any_tr, ← hA1]; unfold notL; rw [not_any]
        have n21 : callL 21 (trL (notL l)) = (trV (!Y), 0) := by rw [call_tr (.inl rfl) _ (by omega) (by omega), all_tr, ← hY1]; unfold notL; rw [not_all]
        have r21 : callL 21 (trL (rotL l t)) = (trV A, 0) := by rw [call_tr (.inl rfl) _ (by omega) (by omega), all_tr, rot_all, hA1]
        have r22 : callL 22 (trL (rotL l t)) = (trV Y, 0) := by rw [call_tr (.inr (.inl rfl)) _ (by omega) (by omega), any_tr, rot_any, hY1]
        have r23 : callL 23 (trL (rotL l t)) = (trV Z, 0) := by rw [call_tr (.inr (.inr rfl)) _ (by omega) (by omega), xor_tr, rot_count, hC1, hZ1]
        have g1 : ((C : Int) == (k : Int)) = A := by
          rw [← hA1, all_count, hC1, hl]
          by_cases h : C = k
          · simp [h]
          · have h2 : ¬ (C : Int) = (k : Int) := by omega
            simp [h, h2]
        have g2 : decide ((0 : Int) < (C : Int)) = Y := by
          rw [← hY1, any_count, hC1]
          by_cases h : 0 < C
          · rw [decide_eq_true h, decide_eq_true (by omega)]
          · rw [decide_eq_false h, decide_eq_false (by omega)]
        have g2n : decide (0 < C) = Y := by rw [← hY1, any_count, hC1]
        have g3 : ((C : Int) % 2 == 1) = Z := by
          rw [← hZ1]
          by_cases h : C % 2 = 1
          · have h2 : (C : Int) % 2 = 1 := by omega
            simp [h, h2]
          · have h2 : ¬ (C : Int) % 2 = 1 := by omega
            simp [h, h2]
        have g4 : ((C : Int).tmod 2 == 1) = Z := by
          rw [Int.tmod_eq_emod_of_nonneg (by omega)]; exact g3
        have hcC : C ≤ 16 := by have := List.countP_le_length (p := id) (l := l); omega
        have hw8 : IntKind.i64.wrap ((C : Int) % 2) = (C : Int) % 2 := IntWalk.i64_in _ (by omega)
        have hw9 : IntKind.i64.wrap ((C : Int).tmod 2) = (C : Int).tmod 2 := by rw [Int.tmod_eq_emod_of_nonneg (by omega)]; exact hw8
        have hL1 := trL_sz l
        have hL2 := trL_sz (notL l)
        have hL3 := trL_sz (rotL l t)
        rw [hC1]
        have K21 := Lib.hid (fun X hX hI => HOF.out 21 ua none xa _ _ X c21 hL1 (by omega) hX hI)
        have K22 := Lib.hid (fun X hX hI => HOF.out 22 ua none xa _ _ X c22 hL1 (by omega) hX hI)
        have K23 := Lib.hid (fun X hX hI => HOF.out 23 ua none xa _ _ X c23 hL1 (by omega) hX hI)
        have N22 := Lib.hid (fun X hX hI => HOF.out 22 ub none xb _ _ X n22 hL2 (by omega) hX hI)
        have N21 := Lib.hid (fun X hX hI => HOF.out 21 ub none xb _ _ X n21 hL2 (by omega) hX hI)
        have R21 := Lib.hid (fun X hX hI => HOF.out 21 uc none xc _ _ X r21 hL3 (by omega) hX hI)
        have R22 := Lib.hid (fun X hX hI => HOF.out 22 uc none xc _ _ X r22 hL3 (by omega) hX hI)
        have R23 := Lib.hid (fun X hX hI => HOF.out 23 uc none xc _ _ X r23 hL3 (by omega) hX hI)
        rw [l1] at K21 K22 K23
        rw [l2] at N21 N22
        rw [l3] at R21 R22 R23
        have NOT : Hid (∀ (b : Bool) v q X, Below wc.heap.size wc X → IsV X v 1 [trV b] → Calls Tryz.prog 19 #[.int .u8 24, .slice v 1 q] X fun e w' => e = .returned (vOf (trV (!b))) ∧ Below X.heap.size X w') := fun b v q X hX hI => HOF.out 24 v none q [trV b] _ X (not_tr b) (fun u hu => by rw [List.mem_singleton.1 hu]; cases b <;> exact ⟨by decide, by unfold InI; decide⟩) (show 1 ≤ 16 by decide) hX hI
        have HA2 := Lib.hid hA
        have HN2 := Lib.hid hN
        have HR2 := Lib.hid hR
        generalize trL l = LA at *
        generalize trL (notL l) = LN at *
        generalize trL (rotL l t) = LR at *
        clear e1 e2 hA hN hR l1 l2 l3 hln hlr HOF c21 c22 c23 n21 n22 r21 r22 r23 hL1 hL2 hL3 hA1 hY1 hC1 hZ1 hl HA HN HR D1 D2 D3
        unfold vOf trV at K21 K22 K23 N21 N22 R21 R22 R23 NOT
        dsimp only at K21 K22 K23 N21 N22 R21 R22 R23 NOT
        go_wp2_with fail
        refine (K21.out _ HB.out HA2.out).mono ?_
        rintro e w1 ⟨rfl, hB⟩
        replace HB := Lib.hid (HB.out.trans (hB.mono HB.out.size))
        replace HA2 := Lib.hid (IsOf.later HA2.out hB)
        replace HN2 := Lib.hid (IsOf.later HN2.out hB)
        replace HR2 := Lib.hid (IsOf.later HR2.out hB)
        clear hB
        go_wp2_with fail
        refine (K22.out _ HB.out HA2.out).mono ?_
        rintro e w2 ⟨rfl, hB⟩
        replace HB := Lib.hid (HB.out.trans (hB.mono HB.out.size))
        replace HA2 := Lib.hid (IsOf.later HA2.out hB)
        replace HN2 := Lib.hid (IsOf.later HN2.out hB)
        replace HR2 := Lib.hid (IsOf.later HR2.out hB)
        clear hB
        go_wp2_with fail
        refine (K23.out _ HB.out HA2.out).mono ?_
        rintro e w3 ⟨rfl, hB⟩
        replace HB := Lib.hid (HB.out.trans (hB.mono HB.out.size))
        replace HA2 := Lib.hid (IsOf.later HA2.out hB)
        replace HN2 := Lib.hid (IsOf.later HN2.out hB)
        replace HR2 := Lib.hid (IsOf.later HR2.out hB)
        clear hB
        go_upto_region 14 with fail
        have HF : Hid (Fo wc ((((w3.alloc (.cells #[.int .u8 2, .int .i64 (b2i A), .string ⟨#[]⟩] 26)).alloc (.cells #[.int .u8 2, .int .i64 (b2i Y), .string ⟨#[]⟩] 26))).alloc (.cells #[.int .u8 2, .int .i64 (b2i Z), .string ⟨#[]⟩] 26)) ua ub uc k LA LN LR w3.heap.size (b2i A) (b2i Y) (b2i Z)) := by
          have m1 := valloc w3 (.cells #[.int .u8 2, .int .i64 (b2i A), .string ⟨#[]⟩] 26)
          have m2 := valloc (w3.alloc (.cells #[.int .u8 2, .int .i64 (b2i A), .string ⟨#[]⟩] 26)) (.cells #[.int .u8 2, .int .i64 (b2i Y), .string ⟨#[]⟩] 26)
          have m3 := valloc ((w3.alloc (.cells #[.int .u8 2, .int .i64 (b2i A), .string ⟨#[]⟩] 26)).alloc (.cells #[.int .u8 2, .int .i64 (b2i Y), .string ⟨#[]⟩] 26)) (.cells #[.int .u8 2, .int .i64 (b2i Z), .string ⟨#[]⟩] 26)
          have m := vnext (vnext m1 m2) m3
          have z1 := B3.start w3 2 (b2i A) ⟨#[]⟩
          have z2 := B3.start (w3.alloc (.cells #[.int .u8 2, .int .i64 (b2i A), .string ⟨#[]⟩] 26)) 2 (b2i Y) ⟨#[]⟩
          have z3 := B3.start ((w3.alloc (.cells #[.int .u8 2, .int .i64 (b2i A), .string ⟨#[]⟩] 26)).alloc (.cells #[.int .u8 2, .int .i64 (b2i Y), .string ⟨#[]⟩] 26)) 2 (b2i Z) ⟨#[]⟩
          rw [World.size_alloc] at z2
          rw [World.size_alloc, World.size_alloc] at z3
          exact ⟨vnext HB.out m, IsOf.later HA2.out m, IsOf.later HN2.out m, IsOf.later HR2.out m, z1.later (vnext m2 m3), z2.later m3, z3⟩
        generalize w3.heap.size = p at *
        generalize ((w3.alloc (.cells #[.int .u8 2, .int .i64 (b2i A), .string ⟨#[]⟩] 26)).alloc (.cells #[.int .u8 2, .int .i64 (b2i Y), .string ⟨#[]⟩] 26)).alloc (.cells #[.int .u8 2, .int .i64 (b2i Z), .string ⟨#[]⟩] 26) = w4 at *
        clear HA2 HN2 HR2 HB K21 K22 K23
        have EXF : Hid (∀ X, Fo wc X ua ub uc k LA LN LR p (b2i A) (b2i Y) (b2i Z) → p < X.heap.size ∧ X.cell? ⟨p, 0, none⟩ = some (.int .u8 2) ∧ X.cell? ⟨p, 1, none⟩ = some (.int .i64 (b2i A)) ∧ X.cell? ⟨p, 2, none⟩ = some (.string ⟨#[]⟩) ∧
            p + 1 < X.heap.size ∧ X.cell? ⟨p + 1, 0, none⟩ = some (.int .u8 2) ∧ X.cell? ⟨p + 1, 1, none⟩ = some (.int .i64 (b2i Y)) ∧ X.cell? ⟨p + 1, 2, none⟩ = some (.string ⟨#[]⟩) ∧
            p + 1 + 1 < X.heap.size ∧ X.cell? ⟨p + 1 + 1, 0, none⟩ = some (.int .u8 2) ∧ X.cell? ⟨p + 1 + 1, 1, none⟩ = some (.int .i64 (b2i Z)) ∧ X.cell? ⟨p + 1 + 1, 2, none⟩ = some (.string ⟨#[]⟩)) := by
          intro X hS
          obtain ⟨x0, x1, x2, _, _, _⟩ := hS.x.cells
          obtain ⟨y0, y1, y2, _, _, _⟩ := hS.y.cells
          obtain ⟨z0, z1, z2, _, _, _⟩ := hS.z.cells
          exact ⟨hS.x.lt, x0, x1, x2, hS.y.lt, y0, y1, y2, hS.z.lt, z0, z1, z2⟩
        refine wp_region_seqi (fun X => Fo wc X ua ub uc k LA LN LR p (b2i A) (b2i Y) (b2i Z)) (fun X X2 hB h => h.later hB) (by kernel_rfl) (by kernel_rfl) (by kernel_rfl) HF.out.drew ?_
        simp only [List.append_eq, List.cons_append, List.nil_append, putsL, Act.put, List.setIfInBounds_toArray, List.set_cons_zero, List.set_cons_succ, Nat.zero_add, Nat.reduceAdd]
        refine seqi_run ?_ (fun vs W hD => (by first | rfl | (simp at hD; simp [Region.wanted, yielded, hD]))) (fun vs W hS hD => ?_) ?_
        rotate_left
        · (obtain ⟨xl, x0, x1, x2, yl, y0, y1, y2, zl, z0, z1, z2⟩ := EXF.out _ hS; obtain _ := hS; (try simp at hD); (try simp only [hD]); (first | (go_simp; done) | (go_simp; rfl)))
        simp only [List.nil_append, List.cons_append]
        refine seqi_run ?_ (fun vs W hD => (by first | rfl | (simp at hD; simp [Region.wanted, yielded, hD]))) (fun vs W hS hD => ?_) ?_
        rotate_left
        · (obtain ⟨xl, x0, x1, x2, yl, y0, y1, y2, zl, z0, z1, z2⟩ := EXF.out _ hS; obtain _ := hS; (try simp at hD); (try simp only [hD]); (first | (go_simp; done) | (go_simp; rfl)))
        simp only [List.nil_append, List.cons_append]
        refine seqi_run ?_ (fun vs W hD => (by first | rfl | (simp at hD; simp [Region.wanted, yielded, hD]))) (fun vs W hS hD => ?_) ?_
        rotate_left
        · (obtain ⟨xl, x0, x1, x2, yl, y0, y1, y2, zl, z0, z1, z2⟩ := EXF.out _ hS; obtain _ := hS; (try simp at hD); (try simp only [hD]); (first | (go_simp; done) | (go_simp; rfl)))
        simp only [List.nil_append, List.cons_append]
        refine seqi_run ?_ (fun vs W hD => (by first | rfl | (simp at hD; simp [Region.wanted, yielded, hD]))) (fun vs W hS hD => ?_) ?_
        rotate_left
        · (obtain ⟨xl, x0, x1, x2, yl, y0, y1, y2, zl, z0, z1, z2⟩ := EXF.out _ hS; obtain _ := hS; (try simp at hD); (try simp only [hD]); (first | (go_simp; done) | (go_simp; rfl)))
        simp only [List.nil_append, List.cons_append]
        refine seqi_run ?_ (fun vs W hD => (by first | rfl | (simp at hD; simp [Region.wanted, yielded, hD]))) (fun vs W hS hD => ?_) ?_
        rotate_left
        · (obtain ⟨xl, x0, x1, x2, yl, y0, y1, y2, zl, z0, z1, z2⟩ := EXF.out _ hS; obtain _ := hS; (try simp at hD); (try simp only [hD]); (first | (go_simp; done) | (go_simp; rfl)))
        simp only [List.nil_append, List.cons_append]
        refine seqi_call (f := 18) (fun v _ => v = .agg #[.int .u8 2, .int .i64 (b2i A), .string ⟨#[]⟩]) (stable_val _) (fun vs => #[.bool A]) (fun vs W hD => (by first | rfl | (simp at hD; simp [Region.wanted, yielded, hD]))) (fun vs W hS hD => ?_) (fun vs W hS hD => ?_) ?_
        · (try simp at hD); (try simp only [hD]); go_simp; done
        · exact (ltruth_any A W).mono fun e W2 ⟨he, hB⟩ => ⟨⟨_, he, rfl⟩, hB⟩
        simp only [List.nil_append, List.cons_append]
        refine seqi_run ?_ (fun vs W hD => (by first | rfl | (simp at hD; simp [Region.wanted, yielded, hD]))) (fun vs W hS hD => ?_) ?_
        rotate_left
        · (obtain ⟨xl, x0, x1, x2, yl, y0, y1, y2, zl, z0, z1, z2⟩ := EXF.out _ hS; obtain _ := hS; (try simp at hD); (try simp only [hD]); (first | (go_simp; done) | (go_simp; rfl)))
        simp only [List.nil_append, List.cons_append]
        refine seqi_run ?_ (fun vs W hD => (by first | rfl | (simp at hD; simp [Region.wanted, yielded, hD]))) (fun vs W hS hD => ?_) ?_
        rotate_left
        · (obtain ⟨xl, x0, x1, x2, yl, y0, y1, y2, zl, z0, z1, z2⟩ := EXF.out _ hS; obtain _ := hS; (try simp at hD); (try simp only [hD]); (first | (go_simp; done) | (go_simp; rfl)))
        simp only [List.nil_append, List.cons_append]
        refine seqi_run ?_ (fun vs W hD => (by first | rfl | (simp at hD; simp [Region.wanted, yielded, hD]))) (fun vs W hS hD => ?_) ?_
        rotate_left
        · (obtain ⟨xl, x0, x1, x2, yl, y0, y1, y2, zl, z0, z1, z2⟩ := EXF.out _ hS; obtain _ := hS; (try simp at hD); (try simp only [hD]); (first | (go_simp; done) | (go_simp; rfl)))
        simp only [List.nil_append, List.cons_append]
        refine seqi_run ?_ (fun vs W hD => (by first | rfl | (simp at hD; simp [Region.wanted, yielded, hD]))) (fun vs W hS hD => ?_) ?_
        rotate_left
        · (obtain ⟨xl, x0, x1, x2, yl, y0, y1, y2, zl, z0, z1, z2⟩ := EXF.out _ hS; obtain _ := hS; (try simp at hD); (try simp only [hD]); (first | (go_simp; done) | (go_simp; rfl)))
        simp only [List.nil_append, List.cons_append]
        refine seqi_run ?_ (fun vs W hD => (by first | rfl | (simp at hD; simp [Region.wanted, yielded, hD]))) (fun vs W hS hD => ?_) ?_
        rotate_left
        · (obtain ⟨xl, x0, x1, x2, yl, y0, y1, y2, zl, z0, z1, z2⟩ := EXF.out _ hS; obtain _ := hS; (try simp at hD); (try simp only [hD]); (first | (go_simp; done) | (go_simp; rfl)))
        simp only [List.nil_append, List.cons_append]
        refine seqi_call (f := 18) (fun v _ => v = .agg #[.int .u8 2, .int .i64 (b2i Y), .string ⟨#[]⟩]) (stable_val _) (fun vs => #[.bool Y]) (fun vs W hD => (by first | rfl | (simp at hD; simp [Region.wanted, yielded, hD]))) (fun vs W hS hD => ?_) (fun vs W hS hD => ?_) ?_
        · (try simp at hD); (try simp only [hD]); go_simp; done
        · exact (ltruth_any Y W).mono fun e W2 ⟨he, hB⟩ => ⟨⟨_, he, rfl⟩, hB⟩
        simp only [List.nil_append, List.cons_append]
        refine seqi_run ?_ (fun vs W hD => (by first | rfl | (simp at hD; simp [Region.wanted, yielded, hD]))) (fun vs W hS hD => ?_) ?_
        rotate_left
        · (obtain ⟨xl, x0, x1, x2, yl, y0, y1, y2, zl, z0, z1, z2⟩ := EXF.out _ hS; obtain _ := hS; (try simp at hD); (try simp only [hD]); (first | (go_simp; done) | (go_simp; rfl)))
        simp only [List.nil_append, List.cons_append]
        refine seqi_run ?_ (fun vs W hD => (by first | rfl | (simp at hD; simp [Region.wanted, yielded, hD]))) (fun vs W hS hD => ?_) ?_
        rotate_left
        · (obtain ⟨xl, x0, x1, x2, yl, y0, y1, y2, zl, z0, z1, z2⟩ := EXF.out _ hS; obtain _ := hS; (try simp at hD); (try simp only [hD]); (first | (go_simp; done) | (go_simp; rfl)))
        simp only [List.nil_append, List.cons_append]
        refine seqi_run ?_ (fun vs W hD => (by first | rfl | (simp at hD; simp [Region.wanted, yielded, hD]))) (fun vs W hS hD => ?_) ?_
        rotate_left
        · (obtain ⟨xl, x0, x1, x2, yl, y0, y1, y2, zl, z0, z1, z2⟩ := EXF.out _ hS; obtain _ := hS; (try simp at hD); (try simp only [hD]); (first | (go_simp; done) | (go_simp; rfl)))
        simp only [List.nil_append, List.cons_append]
        refine seqi_run ?_ (fun vs W hD => (by first | rfl | (simp at hD; simp [Region.wanted, yielded, hD]))) (fun vs W hS hD => ?_) ?_
        rotate_left
        · (obtain ⟨xl, x0, x1, x2, yl, y0, y1, y2, zl, z0, z1, z2⟩ := EXF.out _ hS; obtain _ := hS; (try simp at hD); (try simp only [hD]); (first | (go_simp; done) | (go_simp; rfl)))
        simp only [List.nil_append, List.cons_append]
        refine seqi_run ?_ (fun vs W hD => (by first | rfl | (simp at hD; simp [Region.wanted, yielded, hD]))) (fun vs W hS hD => ?_) ?_
        rotate_left
        · (obtain ⟨xl, x0, x1, x2, yl, y0, y1, y2, zl, z0, z1, z2⟩ := EXF.out _ hS; obtain _ := hS; (try simp at hD); (try simp only [hD]); (first | (go_simp; done) | (go_simp; rfl)))
        simp only [List.nil_append, List.cons_append]
        refine seqi_run ?_ (fun vs W hD => (by first | rfl | (simp at hD; simp [Region.wanted, yielded, hD]))) (fun vs W hS hD => ?_) ?_
        rotate_left
        · (obtain ⟨xl, x0, x1, x2, yl, y0, y1, y2, zl, z0, z1, z2⟩ := EXF.out _ hS; obtain _ := hS; (try simp at hD); (try simp only [hD]); (first | (go_simp; done) | (go_simp; rfl)))
        simp only [List.nil_append, List.cons_append]
        refine seqi_run ?_ (fun vs W hD => (by first | rfl | (simp at hD; simp [Region.wanted, yielded, hD]))) (fun vs W hS hD => ?_) ?_
        rotate_left
        · (obtain ⟨xl, x0, x1, x2, yl, y0, y1, y2, zl, z0, z1, z2⟩ := EXF.out _ hS; obtain _ := hS; (try simp at hD); (try simp only [hD]); (first | (go_simp; done) | (go_simp; rfl)))
        simp only [List.nil_append, List.cons_append]
        refine seqi_call (f := 18) (fun v _ => v = .agg #[.int .u8 2, .int .i64 (b2i Z), .string ⟨#[]⟩]) (stable_val _) (fun vs => #[.bool Z]) (fun vs W hD => (by first | rfl | (simp at hD; simp [Region.wanted, yielded, hD]))) (fun vs W hS hD => ?_) (fun vs W hS hD => ?_) ?_
        · (try simp at hD); (try simp only [hD]); go_simp; done
        · exact (ltruth_any Z W).mono fun e W2 ⟨he, hB⟩ => ⟨⟨_, he, rfl⟩, hB⟩
        simp only [List.nil_append, List.cons_append]
        refine seqi_run ?_ (fun vs W hD => (by first | rfl | (simp at hD; simp [Region.wanted, yielded, hD]))) (fun vs W hS hD => ?_) ?_
        rotate_left
        · (obtain ⟨xl, x0, x1, x2, yl, y0, y1, y2, zl, z0, z1, z2⟩ := EXF.out _ hS; obtain _ := hS; (try simp at hD); (try simp only [hD]); (first | (go_simp; done) | (go_simp; rfl)))
        simp only [List.nil_append, List.cons_append]
        refine seqi_run ?_ (fun vs W hD => (by first | rfl | (simp at hD; simp [Region.wanted, yielded, hD]))) (fun vs W hS hD => ?_) ?_
        rotate_left
        · (obtain ⟨xl, x0, x1, x2, yl, y0, y1, y2, zl, z0, z1, z2⟩ := EXF.out _ hS; obtain _ := hS; (try simp at hD); (try simp only [hD]); (first | (go_simp; done) | (go_simp; rfl)))
        simp only [List.nil_append, List.cons_append]
        refine seqi_end fun vs W hS hv => ?_
        simp only [AllF, Nat.zero_add, Nat.reduceAdd] at hv
        obtain ⟨h0, h1, h2, h3, h4, h5, h6, h7, h8, h9, h10, h11, h12, h13, h14, h15, h16, h17, h18, h19, h20, h21, _⟩ := hv
        simp only [h0, h1, h2, h3, h4, h5, h6, h7, h8, h9, h10, h11, h12, h13, h14, h15, h16, h17, h18, h19, h20, h21]
        clear h0 h1 h2 h3 h4 h5 h6 h7 h8 h9 h10 h11 h12 h13 h14 h15 h16 h17 h18 h19 h20 h21
        replace HF := Lib.hid hS
        clear hS
        go_upto_region 16 with fail
        refine wp_region_seqi (fun X => Fo wc X ua ub uc k LA LN LR p (b2i A) (b2i Y) (b2i Z)) (fun X X2 hB h => h.later hB) (by kernel_rfl) (by kernel_rfl) (by kernel_rfl) HF.out.drew ?_
        simp only [List.append_eq, List.cons_append, List.nil_append, putsL, Act.put, List.setIfInBounds_toArray, List.set_cons_zero, List.set_cons_succ, Nat.zero_add, Nat.reduceAdd]
        refine seqi_run ?_ (fun vs W hD => (by first | rfl | (simp at hD; simp [Region.wanted, yielded, hD]))) (fun vs W hS hD => ?_) ?_
        rotate_left
        · (obtain ⟨xl, x0, x1, x2, yl, y0, y1, y2, zl, z0, z1, z2⟩ := EXF.out _ hS; obtain _ := hS; (try simp at hD); (try simp only [hD]); (first | (go_simp; done) | (go_simp; rfl)))
        simp only [List.nil_append, List.cons_append]
        refine seqi_oper (SlW [trV A]) (slW_stable _) (fun vs W hD => (by first | rfl | (simp at hD; simp [Region.wanted, yielded, hD]))) (fun vs W hS hD => ?_) ?_
        · ((try simp at hD); unfold OperR; (try simp only [hD]); go_simp; exact ⟨⟨_, _, rfl, isV_new9 _ _ _ _ rfl, by simp⟩, valloc _ _⟩)
        simp only [List.nil_append, List.cons_append]
        refine seqi_call (f := 19) (fun v _ => v = .agg #[.int .u8 2, .int .i64 (b2i (!A)), .string ⟨#[]⟩]) (stable_val _) (fun vs => #[.int .u8 24, vs 1]) (fun vs W hD => (by first | rfl | (simp at hD; simp [Region.wanted, yielded, hD]))) (fun vs W hS hD => ?_) (fun vs W hS hD => ?_) ?_
        · (try simp at hD); (try simp only [hD]); go_simp; done
        · ((try simp at hD); obtain ⟨ya, yc, ye, yi, yl⟩ := (by first | exact hD | exact hD.1 | exact hD.2 | exact hD.2.1 | exact hD.1.1 : SlW [trV A] _ _); rw [ye]; exact (NOT.out A ya yc W hS.b yi).mono fun e W2 ⟨he, hB⟩ => ⟨⟨_, he, rfl⟩, hB⟩)
        simp only [List.nil_append, List.cons_append]
        refine seqi_run ?_ (fun vs W hD => (by first | rfl | (simp at hD; simp [Region.wanted, yielded, hD]))) (fun vs W hS hD => ?_) ?_
        rotate_left
        · (obtain ⟨xl, x0, x1, x2, yl, y0, y1, y2, zl, z0, z1, z2⟩ := EXF.out _ hS; obtain _ := hS; (try simp at hD); (try simp only [hD]); (first | (go_simp; done) | (go_simp; rfl)))
        simp only [List.nil_append, List.cons_append]
        refine seqi_call (f := 19) (fun v _ => v = .agg #[.int .u8 2, .int .i64 (b2i (!A)), .string ⟨#[]⟩]) (stable_val _) (fun vs => #[.int .u8 22, .slice ub k xb]) (fun vs W hD => (by first | rfl | (simp at hD; simp [Region.wanted, yielded, hD]))) (fun vs W hS hD => ?_) (fun vs W hS hD => ?_) ?_
        · (try simp at hD); (try simp only [hD]); go_simp; done
        · exact (N22.out W hS.b hS.n).mono fun e W2 ⟨he, hB⟩ => ⟨⟨_, he, rfl⟩, hB⟩
        simp only [List.nil_append, List.cons_append]
        refine seqi_run ?_ (fun vs W hD => (by first | rfl | (simp at hD; simp [Region.wanted, yielded, hD]))) (fun vs W hS hD => ?_) ?_
        rotate_left
        · (obtain ⟨xl, x0, x1, x2, yl, y0, y1, y2, zl, z0, z1, z2⟩ := EXF.out _ hS; obtain _ := hS; (try simp at hD); (try simp only [hD]); (first | (go_simp; done) | (go_simp; rfl)))
        simp only [List.nil_append, List.cons_append]
        refine seqi_run ?_ (fun vs W hD => (by first | rfl | (simp at hD; simp [Region.wanted, yielded, hD]))) (fun vs W hS hD => ?_) ?_
        rotate_left
        · (obtain ⟨xl, x0, x1, x2, yl, y0, y1, y2, zl, z0, z1, z2⟩ := EXF.out _ hS; obtain _ := hS; (try simp at hD); (try simp only [hD]); (first | (go_simp; done) | (go_simp; rfl)))
        simp only [List.nil_append, List.cons_append]
        refine seqi_run ?_ (fun vs W hD => (by first | rfl | (simp at hD; simp [Region.wanted, yielded, hD]))) (fun vs W hS hD => ?_) ?_
        rotate_left
        · (obtain ⟨xl, x0, x1, x2, yl, y0, y1, y2, zl, z0, z1, z2⟩ := EXF.out _ hS; obtain _ := hS; (try simp at hD); (try simp only [hD]); (first | (go_simp; done) | (go_simp; rfl)))
        simp only [List.nil_append, List.cons_append]
        refine seqi_oper (SlW [trV Y]) (slW_stable _) (fun vs W hD => (by first | rfl | (simp at hD; simp [Region.wanted, yielded, hD]))) (fun vs W hS hD => ?_) ?_
        · ((try simp at hD); unfold OperR; (try simp only [hD]); go_simp; exact ⟨⟨_, _, rfl, isV_new9 _ _ _ _ rfl, by simp⟩, valloc _ _⟩)
        simp only [List.nil_append, List.cons_append]
        refine seqi_call (f := 19) (fun v _ => v = .agg #[.int .u8 2, .int .i64 (b2i (!Y)), .string ⟨#[]⟩]) (stable_val _) (fun vs => #[.int .u8 24, vs 8]) (fun vs W hD => (by first | rfl | (simp at hD; simp [Region.wanted, yielded, hD]))) (fun vs W hS hD => ?_) (fun vs W hS hD => ?_) ?_
        · (try simp at hD); (try simp only [hD]); go_simp; done
        · ((try simp at hD); obtain ⟨ya, yc, ye, yi, yl⟩ := (by first | exact hD | exact hD.1 | exact hD.2 | exact hD.2.1 | exact hD.1.1 : SlW [trV Y] _ _); rw [ye]; exact (NOT.out Y ya yc W hS.b yi).mono fun e W2 ⟨he, hB⟩ => ⟨⟨_, he, rfl⟩, hB⟩)
        simp only [List.nil_append, List.cons_append]
        refine seqi_run ?_ (fun vs W hD => (by first | rfl | (simp at hD; simp [Region.wanted, yielded, hD]))) (fun vs W hS hD => ?_) ?_
        rotate_left
        · (obtain ⟨xl, x0, x1, x2, yl, y0, y1, y2, zl, z0, z1, z2⟩ := EXF.out _ hS; obtain _ := hS; (try simp at hD); (try simp only [hD]); (first | (go_simp; done) | (go_simp; rfl)))
        simp only [List.nil_append, List.cons_append]
        refine seqi_call (f := 19) (fun v _ => v = .agg #[.int .u8 2, .int .i64 (b2i (!Y)), .string ⟨#[]⟩]) (stable_val _) (fun vs => #[.int .u8 21, .slice ub k xb]) (fun vs W hD => (by first | rfl | (simp at hD; simp [Region.wanted, yielded, hD]))) (fun vs W hS hD => ?_) (fun vs W hS hD => ?_) ?_
        · (try simp at hD); (try simp only [hD]); go_simp; done
        · exact (N21.out W hS.b hS.n).mono fun e W2 ⟨he, hB⟩ => ⟨⟨_, he, rfl⟩, hB⟩
        simp only [List.nil_append, List.cons_append]
        refine seqi_run ?_ (fun vs W hD => (by first | rfl | (simp at hD; simp [Region.wanted, yielded, hD]))) (fun vs W hS hD => ?_) ?_
        rotate_left
        · (obtain ⟨xl, x0, x1, x2, yl, y0, y1, y2, zl, z0, z1, z2⟩ := EXF.out _ hS; obtain _ := hS; (try simp at hD); (try simp only [hD]); (first | (go_simp; done) | (go_simp; rfl)))
        simp only [List.nil_append, List.cons_append]
        refine seqi_run ?_ (fun vs W hD => (by first | rfl | (simp at hD; simp [Region.wanted, yielded, hD]))) (fun vs W hS hD => ?_) ?_
        rotate_left
        · (obtain ⟨xl, x0, x1, x2, yl, y0, y1, y2, zl, z0, z1, z2⟩ := EXF.out _ hS; obtain _ := hS; (try simp at hD); (try simp only [hD]); (first | (go_simp; done) | (go_simp; rfl)))
        simp only [List.nil_append, List.cons_append]
        refine seqi_run ?_ (fun vs W hD => (by first | rfl | (simp at hD; simp [Region.wanted, yielded, hD]))) (fun vs W hS hD => ?_) ?_
        rotate_left
        · (obtain ⟨xl, x0, x1, x2, yl, y0, y1, y2, zl, z0, z1, z2⟩ := EXF.out _ hS; obtain _ := hS; (try simp at hD); (try simp only [hD]); (first | (go_simp; done) | (go_simp; rfl)))
        simp only [List.nil_append, List.cons_append]
        refine seqi_run ?_ (fun vs W hD => (by first | rfl | (simp at hD; simp [Region.wanted, yielded, hD]))) (fun vs W hS hD => ?_) ?_
        rotate_left
        · (obtain ⟨xl, x0, x1, x2, yl, y0, y1, y2, zl, z0, z1, z2⟩ := EXF.out _ hS; obtain _ := hS; (try simp at hD); (try simp only [hD]); (first | (go_simp; done) | (go_simp; rfl)))
        simp only [List.nil_append, List.cons_append]
        refine seqi_call (f := 19) (fun v _ => v = .agg #[.int .u8 2, .int .i64 (b2i A), .string ⟨#[]⟩]) (stable_val _) (fun vs => #[.int .u8 21, .slice uc k xc]) (fun vs W hD => (by first | rfl | (simp at hD; simp [Region.wanted, yielded, hD]))) (fun vs W hS hD => ?_) (fun vs W hS hD => ?_) ?_
        · (try simp at hD); (try simp only [hD]); go_simp; done
        · exact (R21.out W hS.b hS.r).mono fun e W2 ⟨he, hB⟩ => ⟨⟨_, he, rfl⟩, hB⟩
        simp only [List.nil_append, List.cons_append]
        refine seqi_run ?_ (fun vs W hD => (by first | rfl | (simp at hD; simp [Region.wanted, yielded, hD]))) (fun vs W hS hD => ?_) ?_
        rotate_left
        · (obtain ⟨xl, x0, x1, x2, yl, y0, y1, y2, zl, z0, z1, z2⟩ := EXF.out _ hS; obtain _ := hS; (try simp at hD); (try simp only [hD]); (first | (go_simp; done) | (go_simp; rfl)))
        simp only [List.nil_append, List.cons_append]
        refine seqi_run ?_ (fun vs W hD => (by first | rfl | (simp at hD; simp [Region.wanted, yielded, hD]))) (fun vs W hS hD => ?_) ?_
        rotate_left
        · (obtain ⟨xl, x0, x1, x2, yl, y0, y1, y2, zl, z0, z1, z2⟩ := EXF.out _ hS; obtain _ := hS; (try simp at hD); (try simp only [hD]); (first | (go_simp; done) | (go_simp; rfl)))
        simp only [List.nil_append, List.cons_append]
        refine seqi_run ?_ (fun vs W hD => (by first | rfl | (simp at hD; simp [Region.wanted, yielded, hD]))) (fun vs W hS hD => ?_) ?_
        rotate_left
        · (obtain ⟨xl, x0, x1, x2, yl, y0, y1, y2, zl, z0, z1, z2⟩ := EXF.out _ hS; obtain _ := hS; (try simp at hD); (try simp only [hD]); (first | (go_simp; done) | (go_simp; rfl)))
        simp only [List.nil_append, List.cons_append]
        refine seqi_run ?_ (fun vs W hD => (by first | rfl | (simp at hD; simp [Region.wanted, yielded, hD]))) (fun vs W hS hD => ?_) ?_
        rotate_left
        · (obtain ⟨xl, x0, x1, x2, yl, y0, y1, y2, zl, z0, z1, z2⟩ := EXF.out _ hS; obtain _ := hS; (try simp at hD); (try simp only [hD]); (first | (go_simp; done) | (go_simp; rfl)))
        simp only [List.nil_append, List.cons_append]
        refine seqi_run ?_ (fun vs W hD => (by first | rfl | (simp at hD; simp [Region.wanted, yielded, hD]))) (fun vs W hS hD => ?_) ?_
        rotate_left
        · (obtain ⟨xl, x0, x1, x2, yl, y0, y1, y2, zl, z0, z1, z2⟩ := EXF.out _ hS; obtain _ := hS; (try simp at hD); (try simp only [hD]); (first | (go_simp; done) | (go_simp; rfl)))
        simp only [List.nil_append, List.cons_append]
        refine seqi_call (f := 19) (fun v _ => v = .agg #[.int .u8 2, .int .i64 (b2i Y), .string ⟨#[]⟩]) (stable_val _) (fun vs => #[.int .u8 22, .slice uc k xc]) (fun vs W hD => (by first | rfl | (simp at hD; simp [Region.wanted, yielded, hD]))) (fun vs W hS hD => ?_) (fun vs W hS hD => ?_) ?_
        · (try simp at hD); (try simp only [hD]); go_simp; done
        · exact (R22.out W hS.b hS.r).mono fun e W2 ⟨he, hB⟩ => ⟨⟨_, he, rfl⟩, hB⟩
        simp only [List.nil_append, List.cons_append]
        refine seqi_run ?_ (fun vs W hD => (by first | rfl | (simp at hD; simp [Region.wanted, yielded, hD]))) (fun vs W hS hD => ?_) ?_
        rotate_left
        · (obtain ⟨xl, x0, x1, x2, yl, y0, y1, y2, zl, z0, z1, z2⟩ := EXF.out _ hS; obtain _ := hS; (try simp at hD); (try simp only [hD]); (first | (go_simp; done) | (go_simp; rfl)))
        simp only [List.nil_append, List.cons_append]
        refine seqi_run ?_ (fun vs W hD => (by first | rfl | (simp at hD; simp [Region.wanted, yielded, hD]))) (fun vs W hS hD => ?_) ?_
        rotate_left
        · (obtain ⟨xl, x0, x1, x2, yl, y0, y1, y2, zl, z0, z1, z2⟩ := EXF.out _ hS; obtain _ := hS; (try simp at hD); (try simp only [hD]); (first | (go_simp; done) | (go_simp; rfl)))
        simp only [List.nil_append, List.cons_append]
        refine seqi_run ?_ (fun vs W hD => (by first | rfl | (simp at hD; simp [Region.wanted, yielded, hD]))) (fun vs W hS hD => ?_) ?_
        rotate_left
        · (obtain ⟨xl, x0, x1, x2, yl, y0, y1, y2, zl, z0, z1, z2⟩ := EXF.out _ hS; obtain _ := hS; (try simp at hD); (try simp only [hD]); (first | (go_simp; done) | (go_simp; rfl)))
        simp only [List.nil_append, List.cons_append]
        refine seqi_run ?_ (fun vs W hD => (by first | rfl | (simp at hD; simp [Region.wanted, yielded, hD]))) (fun vs W hS hD => ?_) ?_
        rotate_left
        · (obtain ⟨xl, x0, x1, x2, yl, y0, y1, y2, zl, z0, z1, z2⟩ := EXF.out _ hS; obtain _ := hS; (try simp at hD); (try simp only [hD]); (first | (go_simp; done) | (go_simp; rfl)))
        simp only [List.nil_append, List.cons_append]
        refine seqi_run ?_ (fun vs W hD => (by first | rfl | (simp at hD; simp [Region.wanted, yielded, hD]))) (fun vs W hS hD => ?_) ?_
        rotate_left
        · (obtain ⟨xl, x0, x1, x2, yl, y0, y1, y2, zl, z0, z1, z2⟩ := EXF.out _ hS; obtain _ := hS; (try simp at hD); (try simp only [hD]); (first | (go_simp; done) | (go_simp; rfl)))
        simp only [List.nil_append, List.cons_append]
        refine seqi_call (f := 19) (fun v _ => v = .agg #[.int .u8 2, .int .i64 (b2i Z), .string ⟨#[]⟩]) (stable_val _) (fun vs => #[.int .u8 23, .slice uc k xc]) (fun vs W hD => (by first | rfl | (simp at hD; simp [Region.wanted, yielded, hD]))) (fun vs W hS hD => ?_) (fun vs W hS hD => ?_) ?_
        · (try simp at hD); (try simp only [hD]); go_simp; done
        · exact (R23.out W hS.b hS.r).mono fun e W2 ⟨he, hB⟩ => ⟨⟨_, he, rfl⟩, hB⟩
        simp only [List.nil_append, List.cons_append]
        refine seqi_run ?_ (fun vs W hD => (by first | rfl | (simp at hD; simp [Region.wanted, yielded, hD]))) (fun vs W hS hD => ?_) ?_
        rotate_left
        · (obtain ⟨xl, x0, x1, x2, yl, y0, y1, y2, zl, z0, z1, z2⟩ := EXF.out _ hS; obtain _ := hS; (try simp at hD); (try simp only [hD]); (first | (go_simp; done) | (go_simp; rfl)))
        simp only [List.nil_append, List.cons_append]
        refine seqi_run ?_ (fun vs W hD => (by first | rfl | (simp at hD; simp [Region.wanted, yielded, hD]))) (fun vs W hS hD => ?_) ?_
        rotate_left
        · (obtain ⟨xl, x0, x1, x2, yl, y0, y1, y2, zl, z0, z1, z2⟩ := EXF.out _ hS; obtain _ := hS; (try simp at hD); (try simp only [hD]); (first | (go_simp; done) | (go_simp; rfl)))
        simp only [List.nil_append, List.cons_append]
        refine seqi_run ?_ (fun vs W hD => (by first | rfl | (simp at hD; simp [Region.wanted, yielded, hD]))) (fun vs W hS hD => ?_) ?_
        rotate_left
        · (obtain ⟨xl, x0, x1, x2, yl, y0, y1, y2, zl, z0, z1, z2⟩ := EXF.out _ hS; obtain _ := hS; (try simp at hD); (try simp only [hD]); (first | (go_simp; done) | (go_simp; rfl)))
        simp only [List.nil_append, List.cons_append]
        refine seqi_run ?_ (fun vs W hD => (by first | rfl | (simp at hD; simp [Region.wanted, yielded, hD]))) (fun vs W hS hD => ?_) ?_
        rotate_left
        · (obtain ⟨xl, x0, x1, x2, yl, y0, y1, y2, zl, z0, z1, z2⟩ := EXF.out _ hS; obtain _ := hS; (try simp at hD); (try simp only [hD]); (first | (go_simp; done) | (go_simp; rfl)))
        simp only [List.nil_append, List.cons_append]
        refine seqi_call (f := 17) (fun v _ => v = .bool true) (stable_val _) (fun vs => #[]) (fun vs W hD => (by first | rfl | (simp at hD; simp [Region.wanted, yielded, hD]))) (fun vs W hS hD => ?_) (fun vs W hS hD => ?_) ?_
        · (try simp at hD); (try simp only [hD]); go_simp; done
        · exact (HAW.out W hS.b).mono fun e W2 ⟨he, hB⟩ => ⟨⟨_, he, rfl⟩, hB⟩
        simp only [List.nil_append, List.cons_append]
        refine seqi_run ?_ (fun vs W hD => (by first | rfl | (simp at hD; simp [Region.wanted, yielded, hD]))) (fun vs W hS hD => ?_) ?_
        rotate_left
        · (obtain ⟨xl, x0, x1, x2, yl, y0, y1, y2, zl, z0, z1, z2⟩ := EXF.out _ hS; obtain _ := hS; (try simp at hD); (try simp only [hD]); (first | (go_simp; done) | (go_simp; rfl)))
        simp only [List.nil_append, List.cons_append]
        refine seqi_run ?_ (fun vs W hD => (by first | rfl | (simp at hD; simp [Region.wanted, yielded, hD]))) (fun vs W hS hD => ?_) ?_
        rotate_left
        · (obtain ⟨xl, x0, x1, x2, yl, y0, y1, y2, zl, z0, z1, z2⟩ := EXF.out _ hS; obtain _ := hS; (try simp at hD); (try simp only [hD]); (first | (go_simp; done) | (go_simp; rfl)))
        simp only [List.nil_append, List.cons_append]
        refine seqi_end fun vs W hS hv => ?_
        simp only [AllF, Nat.zero_add, Nat.reduceAdd] at hv
        obtain ⟨h0, h1, h2, h3, h4, h5, h6, h7, h8, h9, h10, h11, h12, h13, h14, h15, h16, h17, h18, h19, h20, h21, h22, h23, h24, h25, h26, h27, h28, h29, h30, h31, h32, h33, h34, h35, _⟩ := hv
        simp only [h0, h2, h3, h4, h5, h6, h7, h9, h10, h11, h12, h13, h14, h15, h16, h17, h18, h19, h20, h21, h22, h23, h24, h25, h26, h27, h28, h29, h30, h31, h32, h33, h34, h35]
        clear h0 h2 h3 h4 h5 h6 h7 h9 h10 h11 h12 h13 h14 h15 h16 h17 h18 h19 h20 h21 h22 h23 h24 h25 h26 h27 h28 h29 h30 h31 h32 h33 h34 h35
        replace HF := Lib.hid hS
        clear hS
        go_wp2_with fail
        go_ret
        exact ⟨rfl, vnext HB0.out HF.out.b⟩
theorem flogicFolds_law (a : Option Addr) (n cap : Nat) (z : List Bool) (tn : Int) (w : World) (hL : IsOf cellsB 1 w a n z) (hc : n ≤ cap) (ht : (Lit.int .i64 tn).wf = true) (hl : laidMetH Tryz.prog Rows.flogicFoldsRow.laid w) :
    Calls Tryz.prog 6 #[.slice a n cap, .int .i64 tn] w fun e w' => e = .returned (.bool true) ∧ Below w.heap.size w w' := by
  rw [Lit.wf_int_iff] at ht
  simp [IntKind.min, IntKind.max, IntKind.signed, IntKind.bits] at ht
  exact flogicFolds_any z a n cap tn w hL hc (by unfold InI; omega) (tb_of (MakeChecks.laidMetH_plain _ _ _ (by kernel_rfl)) hl)
end Go.Proofs.YtdhahiodnmmkeaaGreatDoor.Va
