/- The contract of Points. -/
import Derived.Test.YtigofjamednfpaaPtB
import Derived.Test.YtigofjamednfpaaOverH
import Derived.Test.YtigofjamednfpaaCame
namespace Go.Proofs.Ytigofjamednfpaa.Re
open Go.RowKit AM
theorem cells2_one (x : Int × Int) : ∀ u ∈ cells2 x, u.oneCell' = true := by
  intro u hu; simp [cells2] at hu; rcases hu with rfl | rfl <;> rfl
theorem infoRef2 : (Try.prog.info? 42).map (fun i => (i.zero, i.size, i.bytes)) = some (some (.agg #[.int .i64 0, .int .i64 0]), 2, 16) := by kernel_rfl
theorem zero2 : (Value.agg #[.int .i64 0, .int .i64 0]).cells.size = 2 := rfl
abbrev OwnQ2 (B : Nat) (w : World) (v : Value) (L : List (Int × Int)) : Prop := OwnOf 42 cells2 2 B w v L
abbrev IsQ2 (w : World) (a : Option Addr) (n : Nat) (L : List (Int × Int)) : Prop := IsOf cells2 2 w a n L
/-- Two own rows are two. -/
def Dis (a b : Value) : Prop := ∀ g, a.ownBlock = some g → b.ownBlock ≠ some g
theorem isN_two (w : World) (x y : Int) (t : TypeId) : IsN (w.alloc (.cells #[.int .i64 x, .int .i64 y] t)) (some ⟨w.heap.size, 0, none⟩) 2 [x, y] := by
  refine ⟨rfl, fun _ => ⟨w.heap.size, 0, rfl, by simp, fun k hk j v hv => ?_⟩⟩
  match k, hk with
  | 0, _ =>
    cases j with
    | zero => simp [cells1] at hv; subst hv; simp
    | succ j => simp [cells1] at hv
  | 1, _ =>
    cases j with
    | zero => simp [cells1] at hv; subst hv; simp
    | succ j => simp [cells1] at hv
theorem OwnOf.weaken {α : Type} {c : α → List Value} {n : Nat} {e : TypeId} {B B' : Nat} {w : World} {v : Value} {L : List α} (h : OwnOf e c n B w v L) (hB : B' ≤ B) : OwnOf e c n B' w v L := by
  obtain ⟨h1, h2⟩ := h
  refine ⟨h1, ?_⟩
  rcases h2 with h2 | ⟨g, cap, cur, rfl, hg, hrest⟩
  · exact .inl h2
  · exact .inr ⟨g, cap, cur, rfl, by omega, hrest⟩
theorem begC_len (L : List RV) : (begC L).length = 2 * L.length := by
  induction L with
  | nil => rfl
  | cons r L ih => unfold begC at *; rw [List.flatMap_cons, List.length_append, ih, List.length_cons]; simp; omega
theorem begR_len (L : List RV) : (begR L).length = 2 * L.length := by
  induction L with
  | nil => rfl
  | cons r L ih => unfold begR at *; rw [List.flatMap_cons, List.length_append, ih, List.length_cons]; simp; omega
theorem begC_snoc (L : List RV) (k : Nat) (h : k < L.length) : begC (L.take (k + 1)) = begC (L.take k) ++ [L[k].c1, L[k].c2 + 1] := by
  unfold begC; rw [List.take_succ_eq_append_getElem h, List.flatMap_append]; simp
theorem begR_snoc (L : List RV) (k : Nat) (h : k < L.length) : begR (L.take (k + 1)) = begR (L.take k) ++ [L[k].r1, L[k].r2 + 1] := by
  unfold begR; rw [List.take_succ_eq_append_getElem h, List.flatMap_append]; simp
def lineP (ps : List Int) (q : Int) : List (Int × Int) := ps.map fun p => (p, q)
theorem lines_len (ps : List Int) : ∀ l : List Int, (l.flatMap (lineP ps)).length = l.length * ps.length
  | [] => by simp
  | q :: l => by rw [List.flatMap_cons, List.length_append, lines_len ps l, List.length_cons]; unfold lineP; simp [Nat.add_mul]; omega
theorem lines_snoc (ps qs : List Int) (i : Nat) (h : i < qs.length) : (qs.take (i + 1)).flatMap (lineP ps) = (qs.take i).flatMap (lineP ps) ++ lineP ps qs[i] := by
  rw [List.take_succ_eq_append_getElem h, List.flatMap_append]; simp
theorem line_snoc (ps : List Int) (q : Int) (k : Nat) (h : k < ps.length) : lineP (ps.take (k + 1)) q = lineP (ps.take k) q ++ [(ps[k], q)] := by
  unfold lineP; rw [List.take_succ_eq_append_getElem h, List.map_append]; simp
theorem Dis.new {a b v : Value} {n : Nat} (h : Dis a b) (hb : ∀ g, b.ownBlock = some g → g < n) (hv : v.ownBlock = a.ownBlock ∨ ∃ m, v.ownBlock = some m ∧ n ≤ m) : Dis v b := by
  intro g hg e
  rcases hv with hv | ⟨m, hv, hm⟩
  · exact h g (hv ▸ hg) e
  · rw [hv] at hg; injection hg with hg; have := hb g e; omega
theorem Dis.symm {a b : Value} (h : Dis a b) : Dis b a := fun g hg e => h g e hg
theorem Dis.kept {a b : Value} (h : Dis a b) : b.ownBlock = none ∨ b.ownBlock ≠ a.ownBlock := by
  cases hb : b.ownBlock with
  | none => exact .inl rfl
  | some g => exact .inr fun e => h g e.symm hb
set_option maxRecDepth 100000 in
set_option maxHeartbeats 6400000 in
theorem points_any (r1 r2 r3 r4 : Int) (a : Option Addr) (len cap : Nat) (L : List RV) (hlen : len ≤ 64) (w : World) (hL : IsL w a len L) (hck : ∀ k, k < L.length → (rr4 (ruleAt L k)).ck = true) (hr : (⟨r1, r2, r3, r4⟩ : R4).ck = true) :
    Calls Try.prog 36 #[.agg #[.int .i64 r1, .int .i64 r2, .int .i64 r3, .int .i64 r4], .slice a len cap] w fun e w' => (∃ v, e = .returned v ∧ OwnQ2 w.heap.size w' v (ptsL ⟨r1, r2, r3, r4⟩ L)) ∧ Below w.heap.size w w' := by
  have HL := Lib.hid hL
  have HLL := Lib.hid hL.1
  have HCK := Lib.hid hck
  have hr4 := hr
  unfold R4.ck at hr4
  rw [ckB_iff] at hr4
  dsimp only at hr4
  clear hL hck
  have HF0 := Lib.hid (Four.start w r1 r2 r3 r4 23)
  have HB0 := Lib.hid (below_alloc w (.cells #[.int .i64 r1, .int .i64 r2, .int .i64 r3, .int .i64 r4] 23))
  go_enter Try.func36, Try.ntmps36
  go_wp2_with fail
  generalize w.alloc (.cells #[.int .i64 r1, .int .i64 r2, .int .i64 r3, .int .i64 r4] 23) = w0 at *
  go_loopw [5, 6, 7] (fun vc vr z wr => ∃ k : Nat, k ≤ len ∧ z = .int .i64 (k : Int) ∧ Hid (OwnN w0.heap.size wr vc (begC (L.take k))) ∧ Hid (OwnN w0.heap.size wr vr (begR (L.take k))) ∧ Hid (Dis vc vr) ∧ Hid (Below w0.heap.size w0 wr)) (fun _ _ z _ => len - (intOf z).toNat)
  case atStart => exact ⟨0, Nat.zero_le _, rfl, OwnOf.nil _ _ _ _ _, OwnOf.nil _ _ _ _ _, (fun g hg => by cases hg), Below.refl _ _⟩
  case round =>
    obtain ⟨k, hk, rfl, HC, HR, HD, HB⟩ := hrel
    by_cases hlt : k < len
    · have hkL : k < L.length := by rw [HLL.out]; exact hlt
      have hok := HCK.out k hkL
      rw [ruleAt_get hkL] at hok
      obtain ⟨b, off, rfl, hrow⟩ := (HL.out.later (Below.next HB0.out HB.out)).2 (by omega)
      have hbl := hrow.1
      have s := RowOf.seven hrow k hkL
      have HS1 := Lib.hid (begC_snoc L k hkL)
      have HS2 := Lib.hid (begR_snoc L k hkL)
      have HT1 : Hid ((begC (L.take k)).length ≤ 128) := by unfold Hid; rw [begC_len, List.length_take]; omega
      have HT2 : Hid ((begR (L.take k)).length ≤ 128) := by unfold Hid; rw [begR_len, List.length_take]; omega
      clear hrow
      generalize L[k] = R at *
      obtain ⟨x1, x2, x3, x4, x5, x6, x7⟩ := R
      obtain ⟨c1, c2, c3, c4, _⟩ := s
      unfold rr4 R4.ck at hok
      rw [ckB_iff] at hok
      dsimp only at *
      have hwz := HB.out.size
      have HO1 := Lib.hid ((HC.out.alloc (.cells #[.int .i64 x1, .int .i64 x2, .int .i64 x3, .int .i64 x4] 23)).alloc (.cells #[.int .i64 x1, .int .i64 (x3 + 1)] 3))
      have hi1 := isN_two (wr.alloc (.cells #[.int .i64 x1, .int .i64 x2, .int .i64 x3, .int .i64 x4] 23)) x1 (x3 + 1) 3
      rw [World.size_alloc] at hi1
      have HI1 := Lib.hid hi1
      have HRA := Lib.hid ((HR.out.alloc (.cells #[.int .i64 x1, .int .i64 x2, .int .i64 x3, .int .i64 x4] 23)).alloc (.cells #[.int .i64 x1, .int .i64 (x3 + 1)] 3))
      have HFX := Lib.hid ((Four.start wr x1 x2 x3 x4 23).later (below_alloc _ (.cells #[.int .i64 x1, .int .i64 (x3 + 1)] 3)))
      have HBA := Lib.hid ((HB.out.alloc hwz (.cells #[.int .i64 x1, .int .i64 x2, .int .i64 x3, .int .i64 x4] 23)).alloc (by simp; omega) (.cells #[.int .i64 x1, .int .i64 (x3 + 1)] 3))
      have HCL := Lib.hid (fun g h => (World.ownsRow.lt HC.out g h).2)
      have HCG := Lib.hid (fun g h => (World.ownsRow.lt HC.out g h).1)
      have HRL := Lib.hid (fun g h => (World.ownsRow.lt HR.out g h).2)
      have HRG := Lib.hid (fun g h => (World.ownsRow.lt HR.out g h).1)
      clear hi1
      go_wp2_with (at_builtin; refine wpList_appG rfl (.tmp 25) (.tmp 31) 58 rfl Try.underlying58 _ 8 infoInt1 zero1 (by decide) (by decide) cells1_len cells1_one w0.heap.size _ _ rfl HO1.out _ 2 2 [x1, x3 + 1] rfl HI1.out (by have := HT1.out; omega) (by simp; omega) ?_)
      intro v1 w1 ho1 hg1 hr1
      have HO1' := Lib.hid ho1
      have HRK := Lib.hid (World.ownsRow.kept HRA.out hg1 HD.out.kept)
      have HD1 : Hid (Dis v1 u6) := HD.out.new (n := wr.heap.size) HRL.out (by rcases hr1 with h | h; exact .inl h; exact .inr ⟨_, h, by first | omega | (simp; omega)⟩)
      have HFX1 : Hid (Four w1 wr.heap.size x1 x2 x3 x4) := by
        obtain ⟨h0, q1, q2, q3, q4⟩ := HFX.out
        have hk := hg1.block wr.heap.size h0 (fun e => by have := HCL.out _ e.symm; omega)
        have key : ∀ j, w1.cell? ⟨wr.heap.size, j, none⟩ = _ := fun j => World.cell?_of_block (a := ⟨wr.heap.size, j, none⟩) hk
        exact ⟨Nat.lt_of_lt_of_le h0 hg1.size, (key _).trans q1, (key _).trans q2, (key _).trans q3, (key _).trans q4⟩
      have HB1 := Lib.hid (HBA.out.grown hg1 (by simp; omega) HCG.out)
      have hz1 := hg1.size
      rw [World.size_alloc, World.size_alloc] at hz1
      clear ho1 hg1 hr1 HO1 HI1 HRA HFX HBA c1 c2 c3 c4
      obtain ⟨_, c1, c2, c3, c4⟩ := HFX1.out
      have HO2 := Lib.hid (OwnOf.alloc (e := 3) (c := cells1) (n := 1) (L := begR (L.take k)) HRK.out (.cells #[.int .i64 x2, .int .i64 (x4 + 1)] 3))
      have HI2 := Lib.hid (isN_two w1 x2 (x4 + 1) 3)
      have HCA := Lib.hid (OwnOf.alloc HO1'.out (.cells #[.int .i64 x2, .int .i64 (x4 + 1)] 3))
      have HBB := Lib.hid (HB1.out.alloc (by omega) (.cells #[.int .i64 x2, .int .i64 (x4 + 1)] 3))
      have HVL := Lib.hid (fun g h => (World.ownsRow.lt HO1'.out g h).2)
      go_wp2_with (at_builtin; refine wpList_appG rfl (.tmp 33) (.tmp 39) 58 rfl Try.underlying58 _ 8 infoInt1 zero1 (by decide) (by decide) cells1_len cells1_one w0.heap.size _ _ rfl HO2.out _ 2 2 [x2, x4 + 1] rfl HI2.out (by have := HT2.out; omega) (by simp; omega) ?_)
      intro v2 w2 ho2 hg2 hr2
      have HO2' := Lib.hid ho2
      have HCK2 := Lib.hid (World.ownsRow.kept HCA.out hg2 HD1.out.symm.kept)
      have HD2 : Hid (Dis v2 v1) := HD1.out.symm.new (n := w1.heap.size) HVL.out (by rcases hr2 with h | h; exact .inl h; exact .inr ⟨_, h, by first | omega | (simp; omega)⟩)
      have HB2 := Lib.hid (HBB.out.grown hg2 (by simp; omega) HRG.out)
      clear ho2 hg2 hr2
      go_wp2_with fail
      exact ⟨⟨k + 1, by omega, by go_num, by rw [HS1.out]; exact HCK2.out, by rw [HS2.out]; exact HO2'.out, HD2.out.symm, HB2.out⟩, by simp [intOf]; omega⟩
    · obtain rfl : k = len := by omega
      have hTL : L.take k = L := List.take_of_length_le (by rw [HLL.out]; exact Nat.le_refl _)
      rw [hTL] at HC HR
      clear hTL HD
      obtain ⟨ca, cc, rfl, hci⟩ := HC.out.isOf cells1_len
      obtain ⟨ra, rc, rfl, hri⟩ := HR.out.isOf cells1_len
      have HCI := Lib.hid hci
      have HRI := Lib.hid hri
      have hcl : (begC L).length ≤ 128 := by rw [begC_len, HLL.out]; omega
      have hrl : (begR L).length ≤ 128 := by rw [begR_len, HLL.out]; omega
      have HFr := Lib.hid (HF0.out.later HB.out)
      have HBr := Lib.hid (Below.next HB0.out HB.out)
      have HCO : Hid (colsP ⟨r1, r2, r3, r4⟩ L = cutL r1 (begC L) (wid4 ⟨r1, r2, r3, r4⟩)) := rfl
      have HRO : Hid (rowsP ⟨r1, r2, r3, r4⟩ L = cutL r2 (begR L) (hei4 ⟨r1, r2, r3, r4⟩)) := rfl
      clear hci hri HC HR HB HF0 HB0 HL HCK hlt hk
      generalize begC L = bc at *
      generalize begR L = br at *
      go_wp2_with fail
      refine wp_region_seqo (fun X => Below wr.heap.size wr X) wr.heap.size
        [fbC (.pointer (some ⟨w.heap.size, 1, none⟩)), fbC (.int .i64 r2), fbC (.pointer (some ⟨w.heap.size, 3, none⟩)), fbC (.int .i64 r4), fbC (.slice ra br.length rc), fbL 3 cells1 1 wr.heap.size (cutL r2 br (hei4 ⟨r1, r2, r3, r4⟩)),
          fbC (.pointer (some ⟨w.heap.size, 0, none⟩)), fbC (.int .i64 r1), fbC (.pointer (some ⟨w.heap.size, 2, none⟩)), fbC (.int .i64 r3), fbC (.slice ca bc.length cc), fbL 3 cells1 1 wr.heap.size (cutL r1 bc (wid4 ⟨r1, r2, r3, r4⟩)),
          fbL 3 cells1 1 wr.heap.size (cutL r2 br (hei4 ⟨r1, r2, r3, r4⟩)), fbL 3 cells1 1 wr.heap.size (cutL r1 bc (wid4 ⟨r1, r2, r3, r4⟩))]
        [[], [], [], [], [], [], [], [], [], [], [], [], [5], [11]] [[], [], [], [], [], [], [], [], [], [], [], [], [], []] [[], [0], [], [2], [], [1, 3, 4], [], [6], [], [8], [], [7, 9, 10], [5], [11]]
        (fun a b h k => k.trans h) (by kernel_rfl) (by kernel_rfl) (by kernel_rfl) ⟨rfl, rfl, rfl, Nat.le_refl _, fun _ _ => rfl⟩ (Nat.le_refl _) ?_ (by kernel_rfl)
        ⟨good_C _ _, good_C _ _, good_C _ _, good_C _ _, good_C _ _, good_L _, good_C _ _, good_C _ _, good_C _ _, good_C _ _, good_C _ _, good_L _, good_L _, good_L _, trivial⟩ (Nat.le_refl 14)
      simp only [putsL, Act.put, List.setIfInBounds_toArray, List.set_cons_zero, List.set_cons_succ, Nat.zero_add, Nat.reduceAdd]
      refine seqo_cons (obo_run rfl (fun vs W hD => rfl) (fun vs W hS hD => ?_)) ?_
      · go_simp; done
      refine seqo_cons (obo_run rfl (fun vs W hD => rfl) (fun vs W hS hD => ?_)) ?_
      · obtain ⟨_, e1, e2, e3, e4⟩ := HFr.out.later hS
        have h1 : vs 0 = _ := hD.1
        go_simp; done
      refine seqo_cons (obo_run rfl (fun vs W hD => rfl) (fun vs W hS hD => ?_)) ?_
      · go_simp; done
      refine seqo_cons (obo_run rfl (fun vs W hD => rfl) (fun vs W hS hD => ?_)) ?_
      · obtain ⟨_, e1, e2, e3, e4⟩ := HFr.out.later hS
        have h1 : vs 2 = _ := hD.1
        go_simp; done
      refine seqo_cons (obo_run rfl (fun vs W hD => rfl) (fun vs W hS hD => ?_)) ?_
      · go_simp; done
      refine seqo_cons (obo_list rfl (f := 59) (fun vs => #[.int .i64 r2, .int .i64 r4, .slice ra br.length rc]) (fun vs W hD => rfl) (fun vs W hS hD => ?_) (fun vs W hS hZ hD => ?_)) ?_
      · have h1 : vs 1 = _ := hD.1
        have h2 : vs 3 = _ := hD.2.1
        have h3 : vs 4 = _ := hD.2.2.1
        go_simp; done
      · exact cuts_any r2 r4 ra br.length rc br _ (by omega) (by omega) rfl (by omega) W (HRI.out.later hS)
      refine seqo_cons (obo_run rfl (fun vs W hD => rfl) (fun vs W hS hD => ?_)) ?_
      · go_simp; done
      refine seqo_cons (obo_run rfl (fun vs W hD => rfl) (fun vs W hS hD => ?_)) ?_
      · obtain ⟨_, e1, e2, e3, e4⟩ := HFr.out.later hS
        have h1 : vs 6 = _ := hD.1
        go_simp; done
      refine seqo_cons (obo_run rfl (fun vs W hD => rfl) (fun vs W hS hD => ?_)) ?_
      · go_simp; done
      refine seqo_cons (obo_run rfl (fun vs W hD => rfl) (fun vs W hS hD => ?_)) ?_
      · obtain ⟨_, e1, e2, e3, e4⟩ := HFr.out.later hS
        have h1 : vs 8 = _ := hD.1
        go_simp; done
      refine seqo_cons (obo_run rfl (fun vs W hD => rfl) (fun vs W hS hD => ?_)) ?_
      · go_simp; done
      refine seqo_cons (obo_list rfl (f := 59) (fun vs => #[.int .i64 r1, .int .i64 r3, .slice ca bc.length cc]) (fun vs W hD => rfl) (fun vs W hS hD => ?_) (fun vs W hS hZ hD => ?_)) ?_
      · have h1 : vs 7 = _ := hD.1
        have h2 : vs 9 = _ := hD.2.1
        have h3 : vs 10 = _ := hD.2.2.1
        go_simp; done
      · exact cuts_any r1 r3 ca bc.length cc bc _ (by omega) (by omega) rfl (by omega) W (HCI.out.later hS)
      refine seqo_cons (obo_mv (j := 5) rfl rfl (by decide) (fun vs W hD => rfl) (fun vs W hS hD => ⟨?_, hD.1⟩)) ?_
      · go_simp; done
      refine seqo_cons (obo_mv (j := 11) rfl rfl (by decide) (fun vs W hD => rfl) (fun vs W hS hD => ⟨?_, hD.1⟩)) ?_
      · go_simp; done
      refine seqo_end fun vs W hS hZ hv => ?_
      obtain ⟨k0, k1, k2, k3, k4, k5, k6, k7, k8, k9, k10, k11, k12, k13, kz⟩ := hv
      have h0 : vs 0 = _ := k0 rfl
      have h1 : vs 1 = _ := k1 rfl
      have h2 : vs 2 = _ := k2 rfl
      have h3 : vs 3 = _ := k3 rfl
      have h4 : vs 4 = _ := k4 rfl
      have h6 : vs 6 = _ := k6 rfl
      have h7 : vs 7 = _ := k7 rfl
      have h8 : vs 8 = _ := k8 rfl
      have h9 : vs 9 = _ := k9 rfl
      have h10 : vs 10 = _ := k10 rfl
      obtain ⟨qa, qc, hq, hqi⟩ := OwnOf.isOf cells1_len (k12 rfl)
      obtain ⟨pa, pc, hp, hpi⟩ := OwnOf.isOf cells1_len (k13 rfl)
      rw [← HRO.out] at hq hqi
      rw [← HCO.out] at hp hpi
      have HQI := Lib.hid hqi
      have HPI := Lib.hid hpi
      have HBW := Lib.hid (Below.next HBr.out hS)
      have hlq : (rowsP ⟨r1, r2, r3, r4⟩ L).length ≤ 1024 := by rw [HRO.out]; exact Nat.le_trans (cutL_len _ _ _) (by unfold hei4; dsimp only; omega)
      have hlp : (colsP ⟨r1, r2, r3, r4⟩ L).length ≤ 1024 := by rw [HCO.out]; exact Nat.le_trans (cutL_len _ _ _) (by unfold wid4; dsimp only; omega)
      have HPT : Hid (ptsL ⟨r1, r2, r3, r4⟩ L = (rowsP ⟨r1, r2, r3, r4⟩ L).flatMap (lineP (colsP ⟨r1, r2, r3, r4⟩ L))) := rfl
      simp only [h0, h1, h2, h3, h4, h6, h7, h8, h9, h10, hq, hp]
      clear h0 h1 h2 h3 h4 h6 h7 h8 h9 h10 hq hp hqi hpi k0 k1 k2 k3 k4 k5 k6 k7 k8 k9 k10 k11 k12 k13 kz hS hZ HBr HFr HCI HRI HRO HCO
      generalize rowsP ⟨r1, r2, r3, r4⟩ L = qs at *
      generalize colsP ⟨r1, r2, r3, r4⟩ L = ps at *
      generalize hqn : qs.length = qn at *
      generalize hpn : ps.length = pn at *
      have HQN := Lib.hid hqn
      have HPN := Lib.hid hpn
      clear hqn hpn
      go_wp2_with fail
      go_loopw [11, 12] (fun l z wo => ∃ i : Nat, i ≤ qn ∧ z = .int .i64 (i : Int) ∧ Hid (OwnQ2 W.heap.size wo l ((qs.take i).flatMap (lineP ps))) ∧ Hid (Below W.heap.size W wo)) (fun _ z _ => qn - (intOf z).toNat)
      case atStart => exact ⟨0, Nat.zero_le _, rfl, OwnOf.nil _ _ _ _ _, Below.refl _ _⟩
      case round =>
        obtain ⟨i, hi, rfl, HO, HB⟩ := hrel
        by_cases hit : i < qn
        · have hiq : i < qs.length := by rw [HQN.out]; exact hit
          have HLS := Lib.hid (lines_snoc ps qs i hiq)
          have HLN : Hid (((qs.take i).flatMap (lineP ps)).length = i * pn) := by unfold Hid; rw [lines_len, List.length_take, HPN.out, Nat.min_eq_left (by omega)]
          have HIP : Hid (i * pn ≤ 1048576) := Nat.le_trans (Nat.mul_le_mul (show i ≤ 1024 by omega) hlp) (by decide)
          go_wp2_with fail
          go_loopw [11, 13] (fun l z ws => ∃ k : Nat, k ≤ pn ∧ z = .int .i64 (k : Int) ∧ Hid (OwnQ2 W.heap.size ws l ((qs.take i).flatMap (lineP ps) ++ lineP (ps.take k) qs[i])) ∧ Hid (Below W.heap.size W ws)) (fun _ z _ => pn - (intOf z).toNat)
          case atStart => exact ⟨0, Nat.zero_le _, rfl, by simpa [lineP, Hid] using HO, HB.out⟩
          case round =>
            clear HO HB
            obtain ⟨k, hk, rfl, HO, HB⟩ := hrel
            by_cases hkt : k < pn
            · have hkp : k < ps.length := by rw [HPN.out]; exact hkt
              obtain ⟨qb, qo, rfl, hqrow⟩ := (IsOf.later HQI.out HB.out).2 (by omega)
              obtain ⟨pb, po, rfl, hprow⟩ := (IsOf.later HPI.out HB.out).2 (by omega)
              have cq := RowOf.one_ hqrow i hiq
              have cp := RowOf.one_ hprow k hkp
              have HKS := Lib.hid (line_snoc ps qs[i] k hkp)
              have HKN : Hid (((qs.take i).flatMap (lineP ps) ++ lineP (ps.take k) qs[i]).length ≤ 1050000) := by
                unfold Hid
                rw [List.length_append, HLN.out]
                have := HIP.out
                unfold lineP
                rw [List.length_map, List.length_take]
                omega
              have hqb := hqrow.1
              have hpb := hprow.1
              have hws := HB.out.size
              clear hqrow hprow
              generalize qs[i] = q at *
              generalize ps[k] = p at *
              generalize hMM : (qs.take i).flatMap (lineP ps) ++ lineP (ps.take k) q = M at *
              have HMM := Lib.hid hMM
              clear hMM
              go_wp2_with fail
              go_region_law (first
                | (refine step_appOf rfl (.tmp 65) (.tmp 75) 76 rfl Try.underlying76 _ 16 infoRef2 zero2 (by decide) (by decide) cells2_len cells2_one W.heap.size _ M rfl (by first | exact HO.out.alloc _ | exact HO.out) _ 1 1 [(p, q)] rfl (isOf_new _ _ _ _ rfl) (by have := HKN.out; omega) (by simp; omega) ?_
                   intro v3 w3 ho3 hb3))
              all_goals
                have HO3 := Lib.hid ho3
                have HB3 : Hid (Below W.heap.size W w3) := ((HB.out.alloc hws _).drew).trans hb3
                clear ho3 hb3
                go_wp2_with fail
                go_roundw
                case rel => exact ⟨k + 1, by omega, by go_num, by rw [HKS.out, ← List.append_assoc, HMM.out]; exact HO3.out, HB3.out⟩
                case measure => simp [intOf]; omega
            · obtain rfl : k = pn := by omega
              have hps : ps.take k = ps := List.take_of_length_le (by rw [HPN.out]; exact Nat.le_refl _)
              rw [hps, ← HLS.out] at HO
              clear hps
              go_wp2_with fail
              exact ⟨⟨i + 1, by omega, by go_num, HO.out, HB.out⟩, by simp [intOf]; omega⟩
        · obtain rfl : i = qn := by omega
          have hqs : qs.take i = qs := List.take_of_length_le (by rw [HQN.out]; exact Nat.le_refl _)
          rw [hqs, ← HPT.out] at HO
          clear hqs
          go_wp2_with fail
          go_ret
          exact ⟨⟨_, rfl, OwnOf.weaken HO.out (by have := HBW.out.size; omega)⟩, Below.next HBW.out HB.out⟩
end Go.Proofs.Ytigofjamednfpaa.Re
