/- Merged: GfC GfD. -/
import Derived.Test.YtelanmknimapoaaGreatDoorMgb
import Derived.Test.YtelanmknimapoaaGreatDoorMgc
import Derived.Test.YtelanmknimapoaaGreatDoorMga
import Derived.Test.YtelanmknimapoaaGreatDoorSeqW
import Derived.Lib.SplitLaws
import Derived.Lib.AtoiAllMem
/- The contract of Format. -/
namespace Go.Proofs.YtelanmknimapoaaGreatDoor.Gf
open Go Go.RowKit Go.Shelf
set_option linter.unusedVariables false
set_option linter.unusedSimpArgs false
attribute [local go_sem] Oper.semAt_some
attribute [local simp] DepA isB rsAt
theorem zxv (x : W64) (u m : Nat) (hu : x.getLsbD u = true) (hm : m = eo x u) (w : World) : Calls Tryz.prog 46 #[.int .i64 (u : Int), .int .i64 ((m : Int) - 1)] w fun e w' => (∃ v, e = .returned v ∧ OwnS w.heap.size w' v (runW u (m - 1))) ∧ Below w.heap.size w w' := by
 have h1 := zpw hu
 have h2 := zwo (x := x) (u := u) (by have := zc9 hu; omega)
 have e : (m : Int) - 1 = ((m - 1 : Nat) : Int) := by omega
 rw [e]
 exact yb9 u (m - 1) (by omega) (by omega) w
theorem eval_put {a : Act} {d t : Nat} {v x : Value} (hne : d ≠ t) (h : a.eval (.tmp t) = x) : (a.put (some d) v).eval (.tmp t) = x := by
 rw [← h]
 simp [Act.put, Act.eval, hne, Array.getD_eq_getD_getElem?]
theorem zy9 (B : Nat) {v : Value} (L : List By) (W : World) (h : OwnS B W v L) (hl : L.length ≤ 64) (h5 : ∀ w ∈ L, w.length ≤ 5) : Calls Tryz.prog 24 #[v, .string ⟨#[44]⟩] W fun e w' => e = .returned (.string ⟨(Lib.join L [44]).toArray⟩) ∧ Below W.heap.size W w' := by
 rcases h.2 with ⟨rfl, h0⟩ | ⟨g, cap, cur, rfl, hg, hh, hcap, _⟩
 · obtain rfl : L = [] := List.eq_nil_of_length_eq_zero h0
   exact (Tryz.strings_Join_none none 0 ⟨#[44]⟩ W).mono fun e w' ⟨he, hw⟩ => ⟨he, hw ▸ Below.refl _ _⟩
 · have hx : (L.map fun l => (⟨l.toArray⟩ : ByteArray)).map (·.data.toList) = L := by
    rw [List.map_map]
    exact (List.map_congr_left (fun l _ => rfl)).trans (List.map_id L)
   have hjl := join_len L h5
   have hj := Tryz.strings_Join g 0 cap (L.map fun l => (⟨l.toArray⟩ : ByteArray)) ⟨#[44]⟩ W (fun j y hy => by
    rw [List.getElem?_map, Option.map_eq_some_iff] at hy
    obtain ⟨l, hl1, rfl⟩ := hy
    obtain ⟨hjl, rfl⟩ := List.getElem?_eq_some_iff.1 hl1
    obtain ⟨a, c, e, hi⟩ := h.isOf zb2
    injection e with e1 e2 e3
    subst e1
    obtain ⟨b, off, hb, hr⟩ := hi.2 (by omega)
    injection hb with hb
    injection hb with hb1 hb2
    subst hb1; subst hb2
    have := hr.2 j hjl 0 _ rfl
    rwa [Nat.mul_one, Nat.add_zero] at this) (Array.getElem?_eq_some_iff.1 hh).1 (by rw [List.length_map]; omega) (by rw [List.length_map]; exact hcap) (by rw [hx]; show (Lib.join L [44]).length ≤ _; omega)
   rw [List.length_map, hx] at hj
   exact hj
theorem zmu {l n : Nat} {P : Program} {f : FuncId} {args : Array Value} {w : World} {R : Ending → World → Prop} (h : Calls P f args w R) : CallsIn (Fence.wide.inRound l) n P f args w R := callsIn_wide (n := n).2 h
theorem zwa {A B : World} {b : Nat} {v : Value} (h : A.grownBy B (some b)) : A.grownBy (B.setCell ⟨b, 0, none⟩ v) (some b) := by
 have k := grownBy_setCell' B b v
 exact ⟨k.os.trans h.os, k.tape.trans h.tape, k.output.trans h.output, Nat.le_trans h.size k.size, fun i hi hne => (k.block i (Nat.lt_of_lt_of_le hi h.size) hne).trans (h.block i hi hne)⟩
set_option maxRecDepth 100000 in
set_option maxHeartbeats 3200000 in
theorem zwb (x : W64) (h0 : x ≠ 0#64) (h1 : x ≠ BitVec.allOnes 64) (w : World) :
 CallsIn Fence.wide 3 Tryz.prog 23 #[.int .u64 (x.toNat : Int)] w fun e W' => e = .returned (.string ⟨(fmtS x).toArray⟩) ∧ Below w.heap.size w W' := by
 have HF := Lib.hid (zro h0 h1)
 have e1 := zxs h0
 have e2 := zui h1
 have b1 : ((x.toNat : Int) == 0) = false := by simpa using e1
 have b2 : ((x.toNat : Int) == 18446744073709551615) = false := by simpa using e2
 clear h0 h1
 obtain ⟨i0, hi, hz0, hz1, hz2⟩ := info_parts zpq
 have hul := Lib.hid (show (els x).length ≤ 64 from zwq x 64)
 refine callsIn_of_wp_marks Tryz.func23 rfl trivial ?_ rfl
 simp only [Tryz.ntmps23, List.size_toArray, List.length_cons, List.length_nil, Nat.reduceAdd, Nat.reduceSub, Array.replicate_succ, Array.replicate_zero, List.push_toArray, List.append_toArray, List.nil_append, List.cons_append]
 gi_wp2_with fail
 refine ⟨trivial, ?_⟩
 refine (callsIn_wide.2 (yde _ _)).mono ?_
 rintro e w' ⟨rfl, rfl⟩
 have bS := Boxed.new w 24 (.int .u64 (x.toNat : Int))
 have bO := Boxed.new (w.alloc (.cells #[.int .u64 (x.toNat : Int)] 24)) 45 (.slice none 0 0)
 have bX := Boxed.new ((w.alloc (.cells #[.int .u64 (x.toNat : Int)] 24)).alloc (.cells #[.slice none 0 0] 45)) 3 (.int .i64 0)
 have bN := Boxed.new (((w.alloc (.cells #[.int .u64 (x.toNat : Int)] 24)).alloc (.cells #[.slice none 0 0] 45)).alloc (.cells #[.int .i64 0] 3)) 24 (.int .u64 (x.toNat : Int))
 rw [World.size_alloc] at bO
 rw [World.size_alloc, World.size_alloc] at bX
 rw [World.size_alloc, World.size_alloc, World.size_alloc] at bN
 have hB0 : Below w.heap.size w ((((w.alloc (.cells #[.int .u64 (x.toNat : Int)] 24)).alloc (.cells #[.slice none 0 0] 45)).alloc (.cells #[.int .i64 0] 3)).alloc (.cells #[.int .u64 (x.toNat : Int)] 24)) :=
  ((((Below.refl _ w).alloc (Nat.le_refl _) _).alloc (by simp) _).alloc (by simp; omega) _).alloc (by simp; omega) _
 have hs4 : ((((w.alloc (.cells #[.int .u64 (x.toNat : Int)] 24)).alloc (.cells #[.slice none 0 0] 45)).alloc (.cells #[.int .i64 0] 3)).alloc (.cells #[.int .u64 (x.toNat : Int)] 24)).heap.size = w.heap.size + 4 := by simp
 have bS := ((bS.alloc (.cells #[.slice none 0 0] 45)).alloc (.cells #[.int .i64 0] 3)).alloc (.cells #[.int .u64 (x.toNat : Int)] 24)
 have bO := (bO.alloc (.cells #[.int .i64 0] 3)).alloc (.cells #[.int .u64 (x.toNat : Int)] 24)
 have bX := bX.alloc (.cells #[.int .u64 (x.toNat : Int)] 24)
 have HBS := Lib.hid bS
 have HBO := Lib.hid bO
 have HBX := Lib.hid bX
 have HBN := Lib.hid bN
 have HB0 := Lib.hid hB0
 have HS4 := Lib.hid hs4
 clear bS bO bX bN hB0 hs4
 gi_wp2_with fail
 generalize (((w.alloc (.cells #[.int .u64 (x.toNat : Int)] 24)).alloc (.cells #[.slice none 0 0] 45)).alloc (.cells #[.int .i64 0] 3)).alloc (.cells #[.int .u64 (x.toNat : Int)] 24) = w4 at *
 have hs4 := HS4.out
 refine wpIn_rangeFunc_ownG rfl (by omega) (gf := 74) (lb := #[.pointer (some ⟨w.heap.size + 1 + 1 + 1, 0, none⟩)]) rfl trivial (enters_of Tryz.func74 (by kernel_rfl) rfl)
  (zwp _ (w.heap.size + 1 + 1 + 1) w.heap.size x _ (by omega) HBN.out.cell) ydk (ydl (by omega) (by omega)) (Below.refl _ _) (fun _ => rfl)
  (fun pre W => ((((∃ v, Boxed W (w.heap.size + 1) 45 v ∧ W.ownsRow w.heap.size 9 1 v (stL pre).1.length ((stL pre).1.flatMap zgi) ∧ True) ∧ Boxed W (w.heap.size + 1 + 1) 3 (.int .i64 ((stL pre).2 : Int))) ∧ Boxed W w.heap.size 24 (.int .u64 (x.toNat : Int))) ∧ Boxed W (w.heap.size + 1 + 1 + 1) 24 (.int .u64 (x.toNat : Int))) ∧ Below w.heap.size w W)
  (fun _ _ _ => False)
  (OwnFrom.and (OwnFrom.and (OwnFrom.and (OwnFrom.and (Own.from (holdsRow_own w.heap.size (w.heap.size + 1) 45 9 1 (fun pre : List (El x) => (stL pre).1.length) (fun pre : List (El x) => (stL pre).1.flatMap zgi) (fun _ _ => True)) _) (Own.from (boxed_own (β := List (El x)) (w.heap.size + 1 + 1) 3 (fun pre => .int .i64 ((stL pre).2 : Int))) _)) (Own.from (boxed_own (β := List (El x)) w.heap.size 24 (fun _ => .int .u64 (x.toNat : Int))) _)) (Own.from (boxed_own (β := List (El x)) (w.heap.size + 1 + 1 + 1) 24 (fun _ => .int .u64 (x.toNat : Int))) _)) (ownFrom_below (Nat.le_refl _) (by omega))) (fun _ _ _ _ _ hs _ _ => hs)
  ⟨⟨⟨⟨⟨_, HBO.out, World.ownsRow_nil _ _ _ _, trivial⟩, HBX.out⟩, HBS.out⟩, HBN.out⟩, HB0.out⟩
  (fun u => { tmps := #[.int .u64 (x.toNat : Int), .pointer (some ⟨w.heap.size, 0, none⟩), .string ⟨#[]⟩, .pointer (some ⟨w.heap.size + 1, 0, none⟩), .pointer (some ⟨w.heap.size + 1 + 1, 0, none⟩), .int .i64 (u.1 : Int), .int .u64 (x.toNat : Int), .bool false, .bool false, .bool false, .bool false, .int .u64 (x.toNat : Int), .func (.func 74) #[] #[.pointer (some ⟨w.heap.size + 1 + 1 + 1, 0, none⟩)], .int .i64 (u.1 : Int), undef, undef, undef, undef, undef, undef, undef, undef, undef, undef, undef, undef, undef, undef, undef, undef, undef], defers := [] }) ?assign ?body ?done ?stop
 case assign =>
  intro l u W K hK
  gi_wp2
  exact hK
 case body =>
  rintro l pre u W ⟨⟨⟨⟨⟨v, hv, hrow, _⟩, hx⟩, hs⟩, hn⟩, hB⟩ hlt
  have hsn := zlz pre u
  obtain ⟨hbd1, hbd2⟩ := ye0 pre
  obtain ⟨u, hu⟩ := u
  unfold stF at hsn
  dsimp only at hsn ⊢
  obtain ⟨⟨V, nx⟩, hst⟩ : ∃ s, s = stL pre := ⟨_, rfl⟩
  rw [← hst] at hsn hbd1 hbd2 hrow hx
  dsimp only at hsn hbd1 hbd2 hrow hx
  have hcv := hv.cell
  have hcx := hx.cell
  have hfx := hx.frozen
  have hcs := hs.cell
  by_cases hlt2 : u < nx
  · rw [if_pos hlt2] at hsn
    gi_wp2_with fail
    refine ⟨KeepsFrom.refl _ _, ⟨Below.refl _ _, rfl⟩, ?_⟩
    dsimp only
    rw [hsn]
    exact ⟨⟨⟨⟨⟨_, hv, hrow, trivial⟩, hx⟩, hs⟩, hn⟩, hB⟩
  · rw [if_neg hlt2] at hsn
    have HV0 := Lib.hid hv
    have HX0 := Lib.hid hx
    have HS0 := Lib.hid hs
    have HN0 := Lib.hid hn
    have HR0 := Lib.hid hrow
    have HBB := Lib.hid hB
    have HSN := Lib.hid hsn
    clear hv hx hs hn hrow hB hsn
    gi_wp2_with fail
    gi_loopw [19] (fun z wr => ∃ m : Nat, u ≤ m ∧ m ≤ 64 ∧ Hid (eo x m = eo x u) ∧ Hid (W.grownBy wr (some (w.heap.size + 1 + 1))) ∧ Boxed wr (w.heap.size + 1 + 1) 3 (.int .i64 (m : Int))) (fun _ wr => 64 - (intOf ((wr.cell? ⟨w.heap.size + 1 + 1, 0, none⟩).getD undef)).toNat)
    case atStart => exact ⟨u, Nat.le_refl _, by have := zc9 hu; omega, rfl, grownBy_setCell' _ _ _, HX0.out.set _⟩
    case round =>
     obtain ⟨m, hum, hm, HM, HG, hbm⟩ := hrel
     have HBM := Lib.hid hbm
     have kc := hbm.cell
     have kf := hbm.frozen
     have ks := (HS0.out.kept HG.out (by intro h; injection h with h; omega)).cell
     clear hbm hcv hcx hfx hcs
     gi_wp2_with fail
     refine ⟨trivial, ?_⟩
     refine (zmu (zps x (m : Int) _)).mono ?_
     rw [ydp]
     obtain ⟨q, hq⟩ : ∃ q, x.getLsbD m = q := ⟨_, rfl⟩
     have HQ := Lib.hid hq
     rw [hq]
     clear hq
     rintro e w' ⟨rfl, rfl⟩
     cases q
     rotate_left
     · have hm2 := zc9 HQ.out
       gi_wp2_with fail
       refine ⟨⟨m + 1, by omega, by omega, by rw [← eo_t HQ.out]; exact HM.out, zwa HG.out, ?_⟩, ?_⟩
       · have h := HBM.out.set (.int .i64 ((m + 1 : Nat) : Int))
         rw [show ((m : Int) + 1) = ((m + 1 : Nat) : Int) by omega]
         exact h
       · rw [HBM.out.cell, (HBM.out.set (.int .i64 ((m : Int) + 1))).cell]
         simp [intOf]; omega
     · have HE : Hid (m = eo x u) := by unfold Hid; rw [← HM.out, eo_f HQ.out]
       have hvw := HV0.out.kept HG.out (by intro h; injection h with h; omega)
       have hsw := HS0.out.kept HG.out (by intro h; injection h with h; omega)
       have hnw := HN0.out.kept HG.out (by intro h; injection h with h; omega)
       have hrw : OwnOf 9 zgi 1 w.heap.size wr v V := World.ownsRow.kept HR0.out HG.out (.inr fun h => HX0.out.not_row (by decide) HR0.out h.symm)
       have hko : KeepsFrom w4.heap.size W wr := (KeepsOthers.of_grownBy HG.out (fun j o ej hj => by
        injection ej with ej
        subst ej
        rw [show W.heap[w.heap.size + 1 + 1]? = _ from HX0.out] at hj
        cases hj; rfl)).from _
       have hbw : Below w.heap.size W wr := (Below.refl _ W).grown HG.out HBB.out.size (fun k hk => by injection hk with hk; omega)
       have hsz : w.heap.size ≤ wr.heap.size := Nat.le_trans HBB.out.size hbw.size
       have hcv2 := hvw.cell
       have hfv2 := hvw.frozen
       have hmm : 1 ≤ m := by have := zpw hu; have := HE.out; omega
       have ew : IntKind.i64.wrap ((m : Int) - 1) = (m : Int) - 1 := IntWalk.i64_in _ (by omega)
       obtain ⟨R, hR⟩ : ∃ R, R = runW u (m - 1) := ⟨_, rfl⟩
       have HRR := Lib.hid hR
       have hRl : R.length ≤ 64 := by rw [hR]; exact zqx u (m - 1) (by omega)
       have HRUN : Hid (∀ W2, Calls Tryz.prog 46 #[.int .i64 (u : Int), .int .i64 ((m : Int) - 1)] W2 fun e w' => (∃ v, e = .returned v ∧ OwnS W2.heap.size w' v R) ∧ Below W2.heap.size W2 w') := fun W2 => by rw [hR]; exact zxv x u m hu HE.out W2
       have hSN : Hid (stL (pre ++ [⟨u, hu⟩]) = (V ++ R, m)) := by unfold Hid; rw [HSN.out, hR, HE.out]
       clear hR
       have hmx : Tryz.prog.follows .mixedOrders = true := by kernel_rfl
       gi_wp2_with fail
       refine zir 5 (fun X => Below wr.heap.size wr X) (fun (act : Act) (T : Nat → Bool) (X : World) => (act.tmps.size = 31 ∧ act.eval (.tmp 3) = .pointer (some ⟨w.heap.size + 1, 0, none⟩)) ∧
        (Boxed X (w.heap.size + 1 + 1) 3 (.int .i64 (m : Int)) ∧ Boxed X w.heap.size 24 (.int .u64 (x.toNat : Int)) ∧ Boxed X (w.heap.size + 1 + 1 + 1) 24 (.int .u64 (x.toNat : Int)) ∧ Below w.heap.size W X ∧ KeepsFrom w4.heap.size W X) ∧
        (T 6 = true → T 5 = true) ∧
        (if T 6 = true then ∃ v', Boxed X (w.heap.size + 1) 45 v' ∧ OwnS w.heap.size X v' (V ++ R)
         else Boxed X (w.heap.size + 1) 45 v ∧ (if T 5 = true then ∃ v', act.eval (.tmp 28) = v' ∧ OwnS w.heap.size X v' (V ++ R) else act.eval (.tmp 23) = v ∧ OwnS w.heap.size X v V ∧ ∃ rv, act.eval (.tmp 27) = rv ∧ OwnS wr.heap.size X rv R)))
        (fun W1 W2 hB h1 => Below.next h1 hB) hmx (by kernel_rfl) (by kernel_rfl) (by kernel_rfl) (by decide) (by kernel_rfl) (by rintro ⟨_, _, h⟩; exact h) (Below.refl _ wr).drew ?pre ?sto ?fin
       case pre =>
        simp only [List.take, zst, Act.put, List.setIfInBounds_toArray, List.set_cons_zero, List.set_cons_succ, Nat.zero_add, Nat.reduceAdd]
        refine zh1 ?_ (fun vs W hD => (by first | rfl | (simp at hD; simp [Region.wanted, yielded, hD]))) (fun vs W hS hD => ?_) ?_
        rotate_left
        · have q1 := (hS.cell (p := ⟨w.heap.size + 1, 0, none⟩) hvw.lt).trans hvw.cell; have q2 := (hS.cell (p := ⟨w.heap.size + 1 + 1, 0, none⟩) HBM.out.lt).trans HBM.out.cell; obtain _ := hS; (try simp at hD); (try simp only [hD]); (first | (go_simp; done) | (go_simp; rfl))
        simp only [List.nil_append]
        refine zh1 ?_ (fun vs W hD => (by first | rfl | (simp at hD; simp [Region.wanted, yielded, hD]))) (fun vs W hS hD => ?_) ?_
        rotate_left
        · have q1 := (hS.cell (p := ⟨w.heap.size + 1, 0, none⟩) hvw.lt).trans hvw.cell; have q2 := (hS.cell (p := ⟨w.heap.size + 1 + 1, 0, none⟩) HBM.out.lt).trans HBM.out.cell; obtain _ := hS; (try simp at hD); (try simp only [hD]); (first | (go_simp; done) | (go_simp; rfl))
        simp only [List.nil_append, List.cons_append]
        refine zh1 ?_ (fun vs W hD => (by first | rfl | (simp at hD; simp [Region.wanted, yielded, hD]))) (fun vs W hS hD => ?_) ?_
        rotate_left
        · have q1 := (hS.cell (p := ⟨w.heap.size + 1, 0, none⟩) hvw.lt).trans hvw.cell; have q2 := (hS.cell (p := ⟨w.heap.size + 1 + 1, 0, none⟩) HBM.out.lt).trans HBM.out.cell; obtain _ := hS; (try simp at hD); (try simp only [hD]); (first | (go_simp; done) | (go_simp; rfl))
        simp only [List.nil_append, List.cons_append]
        refine zh1 ?_ (fun vs W hD => (by first | rfl | (simp at hD; simp [Region.wanted, yielded, hD]))) (fun vs W hS hD => ?_) ?_
        rotate_left
        · have q1 := (hS.cell (p := ⟨w.heap.size + 1, 0, none⟩) hvw.lt).trans hvw.cell; have q2 := (hS.cell (p := ⟨w.heap.size + 1 + 1, 0, none⟩) HBM.out.lt).trans HBM.out.cell; obtain _ := hS; (try simp at hD); (try simp only [hD]); (first | (go_simp; done) | (go_simp; rfl))
        simp only [List.nil_append, List.cons_append]
        refine zux (f := 46) (fun z X => OwnS wr.heap.size X z R) (fun _ _ _ hB h => OwnOf.later h hB) (fun vs => #[.int .i64 (u : Int), .int .i64 ((m : Int) - 1)]) (fun vs W hD => (by first | rfl | (simp at hD; simp [Region.wanted, yielded, hD]))) (fun vs W hS hD => ?_) (fun vs W hS hD => ?_) ?_
        · obtain _ := hS; (try simp at hD); (try simp only [hD]); go_simp; done
        · exact (HRUN.out W).mono fun e W' ⟨⟨rv, he, ho⟩, hB⟩ => ⟨⟨rv, he, zsw ho hS.size⟩, hB⟩
        simp only [List.nil_append, List.cons_append]
        refine zxu fun vs W hS hv => ?_
        simp only [AllF, Nat.zero_add, Nat.reduceAdd] at hv
        obtain ⟨h0, h1, h2, h3, h4, _⟩ := hv
        simp only [h0, h1, h2, h3]
        simp only [Bool.false_eq_true, if_false]
        exact ⟨⟨rfl, rfl⟩, ⟨(hS.block _ HBM.out.lt).trans HBM.out, (hS.block _ hsw.lt).trans hsw, (hS.block _ hnw.lt).trans hnw, hbw.trans (hS.mono hsz), hko.trans ⟨hS.size, fun k o _ hk _ => (hS.block k (Array.getElem?_eq_some_iff.1 hk).1).trans hk⟩⟩, fun h => h, (hS.block _ hvw.lt).trans hvw, rfl, hrw.later hS, _, rfl, h4⟩
       case sto =>
        rintro i o act T X ho hi hTi hdep ⟨⟨hA0, hA3⟩, ⟨b1, b2, b3, b4, b5⟩, h65, hC⟩
        have hXs : w.heap.size ≤ X.heap.size := Nat.le_trans HBB.out.size b4.size
        match i, hi with
        | 5, _ =>
         obtain rfl := Option.some.inj ho
         refine ⟨rfl, ?_⟩
         have hT6 : T 6 = false := by
          cases h : T 6
          · rfl
          · have := h65 h; rw [hTi] at this; cases this
         simp only [hT6, hTi, Bool.false_eq_true, if_false] at hC
         obtain ⟨hw1, e23, hrv, rv, e27, hro⟩ := hC
         obtain ⟨ra, rc, rfl, hri⟩ := hro.isOf zb2
         refine zve (.tmp 23) (.tmp 27) 45 rfl Tryz.underlying45 _ 16 zpq yeu (by decide) (by decide) zb2 zlk w.heap.size v V e23 hrv ra _ rc R e27 hri (by have := hul.out; omega) hXs ?_
         intro v' w' ho' hg hr'
         refine ⟨⟨by rw [← hA0]; simp [Act.put], eval_put (by decide) hA3⟩, ⟨b1.kept hg (b1.not_row (by decide) hrv), b2.kept hg (b2.not_row (by decide) hrv), b3.kept hg (b3.not_row (by decide) hrv), b4.grown hg hXs (fun k hk => (World.ownsRow.lt hrv k hk).1), b5.trans ((KeepsOthers.of_grownBy hg (fun j o ej hj => ?_)).from _)⟩, fun _ => by simp [updB], ?_⟩
         · rcases hrv.2 with ⟨rfl, _⟩ | ⟨g, cap, cur, rfl, _, hgb, _⟩
           · cases ej
           · simp only [Value.ownBlock, Option.some.injEq] at ej
             subst ej
             rw [hgb] at hj; cases hj; rfl
         · simp only [updB, hT6, Nat.reduceEqDiff, if_false, if_true, Bool.false_eq_true]
           exact ⟨hw1.kept hg (hw1.not_row (by decide) hrv), v', by simp [Act.put, Act.eval, hA0, Array.getD_eq_getD_getElem?], ho'⟩
        | 6, _ =>
         obtain rfl := Option.some.inj ho
         refine ⟨rfl, ?_⟩
         have hT5 : T 5 = true := hdep _ (by simp; exact .inl rfl) rfl (by decide)
         simp only [hT5, hTi, Bool.false_eq_true, if_false, if_true] at hC
         obtain ⟨hw1, v', e28, ho'⟩ := hC
         obtain ⟨va, vc, rfl, hvi⟩ := ho'.isOf zb2
         have h3' : act.tmps[3]?.getD undef = _ := (by simpa [Act.eval, Array.getD_eq_getD_getElem?] using hA3)
         have h28' : act.tmps[28]?.getD undef = _ := (by simpa [Act.eval, Array.getD_eq_getD_getElem?] using e28)
         have c1 := hw1.cell
         have f1 := hw1.frozen
         have HA0 := Lib.hid hA0
         clear hA0
         unfold OperR
         go_simp
         have hks : KeepsFrom w4.heap.size W (X.setCell ⟨w.heap.size + 1, 0, none⟩ (.slice va (V ++ R).length vc)) := b5.trans ((KeepsOthers.setCell _ _ _).from _)
         have hrk : OwnS w.heap.size (X.setCell ⟨w.heap.size + 1, 0, none⟩ (.slice va (V ++ R).length vc)) (.slice va (V ++ R).length vc) (V ++ R) := World.ownsRow.kept ho' (grownBy_setCell' _ _ _) (.inr fun h => hw1.not_row (by decide) ho' h.symm)
         rw [List.length_append] at hks hrk
         rw [hs4] at hks
         refine ⟨(by first | exact ⟨HA0.out, hA3⟩ | exact HA0.out), ⟨b1.other (by omega) _, b2.other (by omega) _, b3.other (by omega) _, b4.setCell (Nat.le_succ _) _, hks⟩, fun _ => by simp [updB, hT5], ?_⟩
         simp only [updB, if_true]
         exact ⟨_, hw1.set _, hrk⟩
        | j + 7, _ => cases ho
       case fin =>
        rintro act T X hT ⟨_, ⟨b1, b2, b3, b4, b5⟩, _, hC⟩
        rw [hT 6 (by decide) (by decide)] at hC
        simp only [if_true] at hC
        obtain ⟨v', hw, hr⟩ := hC
        refine ⟨b5, ⟨b4, b3.cell.trans HN0.out.cell.symm⟩, ?_⟩
        dsimp only
        rw [hSN.out]
        exact ⟨⟨⟨⟨⟨_, hw, hr, trivial⟩, b1⟩, b2⟩, b3⟩, HBB.out.trans b4⟩
 case done =>
  rintro D ys W hD rfl ⟨⟨⟨⟨⟨v, hv, hrow, _⟩, hx⟩, hs⟩, hn⟩, hB⟩ hK
  have hrow2 : OwnS w.heap.size W v (stL (els x)).1 := hrow
  rw [yb2] at hrow2
  have HJ := Lib.hid (zy9 _ (Gf.W x 0) W hrow2 (by have := zxj x 64 0; unfold Gf.W; omega) (fun w h => (zsa x 0 w h).2.1))
  obtain ⟨va, vc, rfl, hvi⟩ := hrow2.isOf zb2
  have hcv := hv.cell
  have HB := Lib.hid hB
  have HK := Lib.hid hK
  have hDl := (Array.getElem?_eq_some_iff.1 hK).1
  clear hrow hrow2 hvi hx hs hn hB hK
  gi_wp2_with fail
  refine ⟨trivial, ?_⟩
  refine (callsIn_wide.2 HJ.out).mono ?_
  rintro e w6 ⟨rfl, hB6⟩
  have HB6 := Lib.hid (HB.out.trans (hB6.mono HB.out.size))
  have HK6 := Lib.hid ((hB6.block D hDl).trans HK.out)
  rw [← HF.out]
  clear hB6
  gi_wp2_with fail
  refine ⟨by simp, .inl ⟨_, _, rfl, run_takeDeferred HK6.out, ?_⟩⟩
  exact ⟨_, results_tmp rfl _ _ _, rfl, HB6.out.trans (belowK_b (w := w) (Nat.le_refl _) w6 D _ _ (by omega) HK6.out rfl rfl)⟩
 case stop =>
  rintro D c pre W _ _ h _
  exact h.elim
theorem zdm (x : W64) (w : World) : Calls Tryz.prog 23 #[.int .u64 (x.toNat : Int)] w fun e w' => e = .returned (.string ⟨(fmtS x).toArray⟩) ∧ Below w.heap.size w w' := by
 by_cases h0 : x = 0#64
 · subst h0
   have hB := Lib.hid (below_alloc w (.cells #[.int .u64 0] 24))
   go_enter Tryz.func23, Tryz.ntmps23
   go_wp2_with fail
   go_ret
   exact ⟨rfl, hB.out⟩
 by_cases h1 : x = BitVec.allOnes 64
 · subst h1
   have hB := Lib.hid (below_alloc w (.cells #[.int .u64 18446744073709551615] 24))
   go_enter Tryz.func23, Tryz.ntmps23
   go_wp2_with fail
   go_ret
   exact ⟨rfl, hB.out⟩
 exact callsIn_wide.1 (zwb x h0 h1 w)
end Go.Proofs.YtelanmknimapoaaGreatDoor.Gf
/- The contracts of read and Parse. -/
namespace Go.Proofs.YtelanmknimapoaaGreatDoor.Gf
open Go Go.RowKit
set_option linter.unusedVariables false
set_option linter.unusedSimpArgs false
def Gl (w : World) : Prop := 3 ≤ w.heap.size ∧ (∃ m, w.cell? ⟨2, 0, none⟩ = some (.int .i64 m)) ∧ (∃ t p, w.cell? ⟨5, 0, none⟩ = some (.iface t p)) ∧ (∃ t p, w.cell? ⟨6, 0, none⟩ = some (.iface t p))
theorem Gl.later {w w' : World} (h : Gl w) (hB : Below w.heap.size w w') : Gl w' := by
 obtain ⟨h0, ⟨m, h1⟩, ⟨t, p, h2⟩, ⟨t2, p2, h3⟩⟩ := h
 exact ⟨Nat.le_trans h0 hB.size, ⟨m, (hB.cell (p := ⟨2, 0, none⟩) (World.block_lt_of_cell? w _ h1)).trans h1⟩, ⟨t, p, (hB.cell (p := ⟨5, 0, none⟩) (World.block_lt_of_cell? w _ h2)).trans h2⟩, ⟨t2, p2, (hB.cell (p := ⟨6, 0, none⟩) (World.block_lt_of_cell? w _ h3)).trans h3⟩⟩
def rdW (w : By) : Option (Nat × Nat) :=
 match Lib.atoiAll (Lib.cut w [45]).1 with
 | .ok f => match (if (Lib.cut w [45]).2.2 then Lib.atoiAll (Lib.cut w [45]).2.1 else .ok f) with
  | .ok l => if vld f && vld l then some (f.toNat, l.toNat) else none
  | _ => none
 | _ => none
def rngW (s : W64) (f n : Nat) : W64 := (List.range' f n).foldl (fun s u => s ||| bitW u) s
def rdL : W64 → List By → Option W64
 | s, [] => some s
 | s, w :: r => match rdW w with
  | some (f, l) => rdL (rngW s f (l + 1 - f)) r
  | none => none
def wsOf (s : By) : List By := Lib.splitK [44] 0 (Lib.count s [44]) s
def rdS (s : By) : Option W64 := if s = [45] then some 0#64 else if s = [42] then some (BitVec.allOnes 64) else rdL 0#64 (wsOf s)
theorem ziz (s : W64) (f n : Nat) : rngW s f (n + 1) = rngW s f n ||| bitW (f + n) := by
 unfold rngW
 rw [List.range'_concat, List.foldl_append]
 simp
/-! The library's -/
def zll (A : By) (e : Ending) : Prop := match Lib.atoiAll A with
 | .ok v => e = .returned (.tuple #[.int .i64 v, .nilIface])
 | _ => ∃ v t p, e = .returned (.tuple #[.int .i64 v, .iface t (.pointer p)])
theorem zid (A : By) (hA : A.length ≤ 1000000000) (w : World) (h : Gl w) : Calls Tryz.prog 84 #[.string ⟨A.toArray⟩] w fun e w' => zll A e ∧ Below w.heap.size w w' := by
 have hz : (⟨A.toArray⟩ : ByteArray).size = A.length := by simp [ByteArray.size]
 obtain ⟨h0, ⟨m, h1⟩, ⟨t, p, h2⟩, ⟨t2, p2, h3⟩⟩ := h
 unfold zll
 cases hc : Lib.atoiAll A
 case ok v =>
  refine (Tryz.strconv_Atoi_ok ⟨A.toArray⟩ (by omega) v hc w).mono ?_
  rintro e w' ⟨rfl, hw⟩
  refine ⟨rfl, ?_⟩
  rcases hw with rfl | ⟨t, rfl⟩
  · exact Below.refl _ _
  · exact Lib.bytesWorld_below _ _ _
 case range =>
  refine (Tryz.strconv_Atoi_range ⟨A.toArray⟩ (by omega) hc _ w h3 (.inr ⟨_, _, rfl⟩)).mono ?_
  rintro e w' ⟨N, rfl, _, _, hB⟩
  exact ⟨⟨_, _, _, rfl⟩, hB⟩
 · refine (Tryz.strconv_Atoi_syntax ⟨A.toArray⟩ (by omega) hc _ w h2 (.inr ⟨_, _, rfl⟩)).mono ?_
   rintro e w' ⟨N, rfl, _, _, hB⟩
   exact ⟨⟨_, _, _, rfl⟩, hB⟩
theorem cut_any (A : By) (hA : A.length ≤ 1000000000) (w : World) (h : Gl w) : Calls Tryz.prog 85 #[.string ⟨A.toArray⟩, .string ⟨#[45]⟩] w fun e w' => e = .returned (.tuple #[.string ⟨(Lib.cut A [45]).1.toArray⟩, .string ⟨(Lib.cut A [45]).2.1.toArray⟩, .bool (Lib.cut A [45]).2.2]) ∧ Below w.heap.size w w' := by
 have hz : (⟨A.toArray⟩ : ByteArray).size = A.length := by simp [ByteArray.size]
 obtain ⟨h0, ⟨m, h1⟩, _⟩ := h
 refine (Tryz.strings_Cut ⟨A.toArray⟩ ⟨#[45]⟩ m w (by omega) h1).mono ?_
 rintro e w' ⟨rfl, n, rfl⟩
 exact ⟨rfl, ⟨rfl, rfl, rfl, Nat.le_refl _, fun _ _ => rfl⟩⟩
theorem yd6 (A : By) : (Lib.cut A [45]).1.length ≤ A.length ∧ (Lib.cut A [45]).2.1.length ≤ A.length := by
 unfold Lib.cut
 split
 · simp; omega
 · simp
theorem zeh (c : UInt8) : ∀ (k : Nat) (s : By), ∀ w ∈ Lib.splitK [c] 0 k s, w.length ≤ s.length
 | 0, s, w, h => by simp [Lib.splitK] at h; subst h; exact Nat.le_refl _
 | k + 1, s, w, h => by
  unfold Lib.splitK at h
  split at h
  · simp at h; subst h; exact Nat.le_refl _
  · rcases List.mem_cons.1 h with rfl | h
    · simp; omega
    · have := zeh c k _ w h
      simp at this; omega
theorem znf (s : ByteArray) (hs : s.size ≤ 1000000000) (w : World) (h : Gl w) : Calls Tryz.prog 87 #[.string s, .string ⟨#[44]⟩] w fun e w' => (∃ a cap, e = .returned (.slice a (wsOf s.data.toList).length cap) ∧ IsOf zgi 1 w' a (wsOf s.data.toList).length (wsOf s.data.toList)) ∧ Below w.heap.size w w' := by
 obtain ⟨h0, ⟨m, h1⟩, _⟩ := h
 refine (Tryz.strings_Split s ⟨#[44]⟩ m w (by omega) h1 (by decide)).mono ?_
 rintro e w' ⟨rfl, rfl⟩
 have hd := Lib.splitB_data ⟨#[44]⟩ 0 (Lib.countB s ⟨#[44]⟩) s
 have hl := Lib.splitB_all ⟨#[44]⟩ (by decide) 0 _ s rfl
 have hw : wsOf s.data.toList = (Lib.splitB ⟨#[44]⟩ 0 (Lib.countB s ⟨#[44]⟩) s).map (·.data.toList) := hd.symm
 generalize Lib.splitB ⟨#[44]⟩ 0 (Lib.countB s ⟨#[44]⟩) s = B at *
 rw [hw, List.length_map, ← hl]
 refine ⟨⟨_, _, rfl, by rw [List.length_map], fun _ => ⟨w.heap.size, 0, rfl, by simp, fun k hk j v hv => ?_⟩⟩, below_alloc _ _⟩
 rw [List.length_map] at hk
 have hj : j = 0 := by
  have := (List.getElem?_eq_some_iff.1 hv).1
  rw [zb2] at this; omega
 subst hj
 rw [List.getElem_map] at hv
 simp [zgi] at hv
 subst hv
 simp [hk]
end Go.Proofs.YtelanmknimapoaaGreatDoor.Gf
