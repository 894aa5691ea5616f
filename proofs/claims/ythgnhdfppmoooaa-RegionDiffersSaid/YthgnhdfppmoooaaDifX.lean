/- The contract of the specification's Differ, where it says yes. -/
import Derived.Test.YthgnhdfppmoooaaDifW
import Derived.Test.YthgnhdfppmoooaaDifE
import Derived.Test.YthgnhdfppmoooaaMprt
namespace Go.Proofs.Ythgnhdfppmoooaa.Re
open Go.RowKit AM
set_option linter.unusedVariables false
set_option linter.unusedSimpArgs false
set_option maxRecDepth 100000 in
set_option maxHeartbeats 12800000 in
theorem sdiffer_any (r1 r2 r3 r4 : Int) (aa ab pa : Option Addr) (la ca lb cb n pcap : Nat) (A B : List RV) (P : List R4) (w : World) (hA : IsL w aa la A) (hB : IsL w ab lb B) (hP : IsR w pa n P) (h64 : la + lb ≤ 64) (ha0 : 0 < la) (hb0 : 0 < lb)
    (ckA : ∀ k, k < A.length → (rr4 (ruleAt A k)).ck = true) (ckBB : ∀ k, k < B.length → (rr4 (ruleAt B k)).ck = true) (hr : (⟨r1, r2, r3, r4⟩ : R4).ck = true) (hn : n ≤ 1048576)
    (h1 : ∀ j (hj : j < P.length), P[j].ck = true ∧ r1 ≤ P[j].c1 ∧ P[j].c2 ≤ r3 ∧ r2 ≤ P[j].r1 ∧ P[j].r2 ≤ r4)
    (h2 : ∀ j (hj : j + 1 < P.length), P[j].r1 < P[j + 1].r1 ∨ P[j].r1 = P[j + 1].r1 ∧ P[j].c1 < P[j + 1].c1)
    (h3 : ∀ j (hj : j < P.length) k (hk : k < j), mt20 P[k] P[j] = false)
    (h4 : areas P = cnt (difF A B) ⟨r1, r2, r3, r4⟩)
    (h5 : ∀ j (hj : j < P.length) p q, has4 P[j] p q = true → difF A B p q = true) :
    Calls Try.prog 7 #[.agg #[.int .i64 r1, .int .i64 r2, .int .i64 r3, .int .i64 r4], .slice aa la ca, .slice ab lb cb, .slice pa n pcap] w fun e w' => e = .returned (.bool true) ∧ Below w.heap.size w w' := by
  have HLA := Lib.hid hA
  have HLB := Lib.hid hB
  have HP := Lib.hid hP
  have HNA := Lib.hid hA.1
  have HNB := Lib.hid hB.1
  have HPL := Lib.hid hP.1
  have HCK := Lib.hid (ck_app ckA ckBB)
  have HPK : Hid (∀ j (hj : j < P.length), P[j].ck = true) := fun j hj => (h1 j hj).1
  have H5 := Lib.hid h5
  have HLN : Hid ((A ++ B).length = la + lb) := by unfold Hid; rw [List.length_append, HNA.out, HNB.out]
  have HDG : Hid (∀ W, Below w.heap.size w W → Calls Try.prog 14 #[.agg #[.int .i64 r1, .int .i64 r2, .int .i64 r3, .int .i64 r4], .slice aa la ca, .slice ab lb cb] W fun e w' => e = .returned (.int .i64 (cnt (difF A B) ⟨r1, r2, r3, r4⟩)) ∧ Below W.heap.size W w') := fun W hW => sdiff_any r1 r2 r3 r4 aa ab la ca lb cb A B W (hA.later hW) (hB.later hW) h64 ha0 hb0 ckA ckBB hr
  have HPT : Hid (∀ W, Below w.heap.size w W → Calls Try.prog 13 #[.agg #[.int .i64 r1, .int .i64 r2, .int .i64 r3, .int .i64 r4], .slice pa n pcap, .int .i64 (cnt (difF A B) ⟨r1, r2, r3, r4⟩)] W fun e w' => e = .returned (.bool true) ∧ Below W.heap.size W w') := fun W hW => part20_any r1 r2 r3 r4 _ pa n pcap P hn W (hP.later hW) h1 h2 h3 h4 (cnt_le _ hr)
  obtain ⟨AB, hAB⟩ : ∃ AB, AB = A ++ B := ⟨_, rfl⟩
  rw [← hAB] at HCK
  have HAB := Lib.hid hAB
  clear hAB
  generalize cnt (difF A B) ⟨r1, r2, r3, r4⟩ = CN at *
  clear hA hB hP ckA ckBB hr h1 h2 h3 h4 h5
  have HF := Lib.hid (Four.start w r1 r2 r3 r4 23)
  have HB0 := Lib.hid (below_alloc w (.cells #[.int .i64 r1, .int .i64 r2, .int .i64 r3, .int .i64 r4] 23))
  have hmx : Try.prog.follows .mixedOrders = true := by kernel_rfl
  go_enter Try.func7, Try.ntmps7
  go_upto_region 1 with fail
  generalize w.alloc (.cells #[.int .i64 r1, .int .i64 r2, .int .i64 r3, .int .i64 r4] 23) = w0 at *
  go_wp2_with fail
  refine wp_region_seqi (fun X => (Below w.heap.size w X ∧ Four X w.heap.size r1 r2 r3 r4)) (fun X X2 hB ⟨h1, h2⟩ => ⟨Below.next h1 hB, h2.later hB⟩) (by kernel_rfl) (by kernel_rfl) (by kernel_rfl) ⟨HB0.out.drew, HF.out⟩ ?_
  simp only [putsL, Act.put, List.setIfInBounds_toArray, List.set_cons_zero, List.set_cons_succ, Nat.zero_add, Nat.reduceAdd]
  repeat (first
    | (refine seqi_call (f := 14) (fun v _ => v = .int .i64 CN) (stable_val _) (fun vs => #[.agg #[.int .i64 r1, .int .i64 r2, .int .i64 r3, .int .i64 r4], .slice aa la ca, .slice ab lb cb]) (fun vs W hD => ?_) (fun vs W hS hD => ?_) (fun vs W hS hD => ?_) ?_
       · (first | rfl | ((try simp [DepA, isB, rsAt] at hD); simp [Region.wanted, yielded, hD]; done))
       · (clear hS; (try simp [DepA, isB, rsAt] at hD); (try simp only [hD]); go_simp; done)
       · (exact (HDG.out W hS.1).mono fun e W' ⟨he, hB⟩ => ⟨⟨_, he, rfl⟩, hB⟩)
       simp only [List.nil_append, List.cons_append])
    | (refine seqi_call (f := 13) (fun v _ => v = .bool true) (stable_val _) (fun vs => #[.agg #[.int .i64 r1, .int .i64 r2, .int .i64 r3, .int .i64 r4], .slice pa n pcap, .int .i64 CN]) (fun vs W hD => ?_) (fun vs W hS hD => ?_) (fun vs W hS hD => ?_) ?_
       · (first | rfl | ((try simp [DepA, isB, rsAt] at hD); simp [Region.wanted, yielded, hD]; done))
       · (clear hS; (try simp [DepA, isB, rsAt] at hD); (try simp only [hD]); go_simp; done)
       · (exact (HPT.out W hS.1).mono fun e W' ⟨he, hB⟩ => ⟨⟨_, he, rfl⟩, hB⟩)
       simp only [List.nil_append, List.cons_append])
    | (refine seqi_run ?_ (fun vs W hD => ?_) (fun vs W hS hD => ?_) ?_
       rotate_left
       · (first | rfl | ((try simp [DepA, isB, rsAt] at hD); simp [Region.wanted, yielded, hD]; done))
       (obtain ⟨_, f1, f2, f3, f4⟩ := hS.2; (try simp [DepA, isB, rsAt] at hD); (try simp only [hD]); (first | (go_simp; done) | (go_simp; rfl)))
       simp only [List.nil_append, List.cons_append]))
  refine seqi_end fun vs W hS hv => ?_
  simp only [AllF, Nat.zero_add, Nat.reduceAdd] at hv
  obtain ⟨h0, h1, h2, h3, h4, h5, h6, h7, _⟩ := hv
  simp only [h0, h1, h2, h3, h4, h5, h6, h7]
  clear h0 h1 h2 h3 h4 h5 h6 h7
  have HB1 := Lib.hid hS.1
  clear hS HB0 HF HDG HPT
  have HLA1 := Lib.hid (HLA.out.later HB1.out)
  have HLB1 := Lib.hid (HLB.out.later HB1.out)
  generalize W = W0 at *
  go_wp2_with (at_builtin; refine wpList_appG rfl (.tmp 21) (.tmp 22) 24 rfl Try.underlying24 _ 56 infoRule zero7 (by decide) (by decide) cells7_len cells7_one W0.heap.size _ [] rfl ?own aa la ca A rfl ?isA ?len ?siz ?rest)
  case own =>
    have h := heap_alloc_new W0 (.cells #[] 44)
    exact ⟨rfl, .inr ⟨W0.heap.size, 0, #[], rfl, Nat.le_refl _, h, Nat.le_refl _, by decide, rfl, rfl⟩⟩
  case isA => exact HLA1.out.later (below_alloc _ _)
  case len => simp; omega
  case siz => simp
  case rest =>
    intro v1 w1 ho hg hat
    have HB2 := Lib.hid ((below_alloc W0 (.cells #[] 44)).grown hg (by simp) (fun q hq => by simp [Value.ownBlock] at hq; omega))
    have HO1 : Hid (OwnOf 44 cells7 7 W0.heap.size w1 v1 A) := ho
    have hz1 := HB2.out.size
    clear ho hg hat
    go_wp2_with (at_builtin; refine wpList_appG rfl (.tmp 23) (.tmp 24) 24 rfl Try.underlying24 _ 56 infoRule zero7 (by decide) (by decide) cells7_len cells7_one W0.heap.size _ A rfl HO1.out ab lb cb B rfl ?isA ?len ?siz ?rest)
    case isA => exact HLB1.out.later HB2.out
    case len => rw [HNA.out]; omega
    case siz => exact hz1
    case rest =>
      intro v2 w2 ho hg hat
      have HB3 := Lib.hid (HB2.out.grown hg hz1 (fun q hq => (World.ownsRow.lt HO1.out q hq).1))
      obtain ⟨ka, kc, he, hi⟩ := OwnOf.isOf cells7_len ho
      rw [HLN.out] at he hi
      subst he
      rw [← HAB.out] at hi
      have HL2 := Lib.hid hi
      have HBw := Lib.hid (Below.next HB1.out HB3.out)
      clear ho hg hat hi HO1 HB1 HB2 HB3 HLA1 HLB1 hz1
      go_wp2_with fail
      go_loopw [10] (fun i wr => ∃ j : Nat, j ≤ n ∧ i = .int .i64 (j : Int) ∧ Hid (Below w.heap.size w wr) ∧ Hid (IsL wr ka (la + lb) AB)) (fun i _ => n - (intOf i).toNat)
      case atStart => exact ⟨0, Nat.zero_le _, rfl, HBw.out, HL2.out⟩
      case round =>
        obtain ⟨j, hj, rfl, HBj, HLj⟩ := hrel
        clear HBw HL2
        by_cases hlt : j < n
        · have hjl : j < P.length := by rw [HPL.out]; exact hlt
          obtain ⟨pb, po, rfl, hrr⟩ := (HP.out.later HBj.out).2 (by omega)
          obtain ⟨c1, c2, c3, c4⟩ := hrr.2 j hjl
          have hbl := hrr.1
          have hpk := HPK.out j hjl
          have h5j : ∀ p q, has4 P[j] p q = true → difF A B p q = true := fun p q h => H5.out j hjl p q h
          clear hrr
          generalize P[j] = z at *
          obtain ⟨z1, z2, z3, z4⟩ := z
          dsimp only at c1 c2 c3 c4
          have HIN : Hid (∀ x ∈ ptsL ⟨z1, z2, z3, z4⟩ AB, difF A B x.1 x.2 = true) := fun x hx => h5j _ _ (pts_in hx)
          have HPTN : Hid ((ptsL ⟨z1, z2, z3, z4⟩ AB).length ≤ 1048576) := ptsL_max hpk
          have HZK := Lib.hid hpk
          clear h5j hpk
          go_wp2_with fail
          refine (points_any z1 z2 z3 z4 ka (la + lb) kc AB h64 _ HLj.out HCK.out HZK.out).mono ?_
          rintro e w3 ⟨⟨v, rfl, ho⟩, hB3⟩
          obtain ⟨qa, qc, rfl, hpi⟩ := ho.isOf cells2_len
          have HQ3 := Lib.hid hpi
          have HB3 := Lib.hid (Below.next HBj.out hB3)
          have HL3 := Lib.hid (HLj.out.later hB3)
          have HLA3 := Lib.hid (HLA.out.later HB3.out)
          have HLB3 := Lib.hid (HLB.out.later HB3.out)
          clear ho hpi hB3 c1 c2 c3 c4 hbl HBj HLj HZK
          generalize ptsL ⟨z1, z2, z3, z4⟩ AB = D at *
          generalize hnn : D.length = m at *
          have HNN := Lib.hid hnn
          clear hnn
          have hm20 : m ≤ 1048576 := HPTN.out
          go_wp2_with fail
          go_loopw [12] (fun i wr => ∃ k : Nat, k ≤ m ∧ i = .int .i64 (k : Int) ∧ Hid (Below w3.heap.size w3 wr)) (fun i _ => m - (intOf i).toNat)
          case atStart => exact ⟨0, Nat.zero_le _, rfl, Below.refl _ _⟩
          case round =>
            obtain ⟨k, hk, rfl, HB⟩ := hrel
            by_cases hlk : k < m
            · have hkl : k < D.length := by rw [HNN.out]; exact hlk
              obtain ⟨b, off, rfl, hrow⟩ := HQ3.out.2 (by omega)
              have c1 : wr.cell? ⟨b, off + k * 2, none⟩ = some (.int .i64 D[k].1) := (HB.out.cell (p := ⟨b, off + k * 2, none⟩) hrow.1).trans (by have := hrow.2 k hkl 0 _ rfl; rwa [Nat.add_zero] at this)
              have c2 : wr.cell? ⟨b, off + k * 2 + 1, none⟩ = some (.int .i64 D[k].2) := (HB.out.cell (p := ⟨b, off + k * 2 + 1, none⟩) hrow.1).trans (hrow.2 k hkl 1 _ rfl)
              have HLT : Hid (b < wr.heap.size) := Nat.lt_of_lt_of_le hrow.1 HB.out.size
              have hdif := HIN.out D[k] (List.getElem_mem hkl)
              clear hrow
              obtain ⟨⟨p, qq⟩, hx⟩ : ∃ x, x = D[k] := ⟨_, rfl⟩
              rw [← hx] at c1 c2 hdif
              dsimp only at c1 c2 hdif
              have C1 := Lib.hid c1
              have C2 := Lib.hid c2
              clear hx c1 c2
              obtain ⟨RA, hRA⟩ : ∃ RA, RA = (ruleAt A (lastI A p qq A.length)).rd := ⟨_, rfl⟩
              obtain ⟨RB, hRB⟩ : ∃ RB, RB = (ruleAt B (lastI B p qq B.length)).rd := ⟨_, rfl⟩
              have hdf : difF A B p qq = !(RA == RB) := by unfold difF; rw [hRA, hRB]
              rw [hdif] at hdf
              have HE : ¬ RA = RB := fun e => by rw [e] at hdf; simp at hdf
              have HRA : Hid (∀ W, Below wr.heap.size wr W → Calls Try.prog 16 #[.agg #[.int .i64 p, .int .i64 qq], .slice aa la ca] W fun e w' => e = .returned (.int .u64 (RA.toNat : Int)) ∧ Below W.heap.size W w') := fun W hW => by rw [hRA]; exact readers_any p qq aa la ca A (by omega) ha0 W ((HLA3.out.later HB.out).later hW)
              have HRB : Hid (∀ W, Below wr.heap.size wr W → Calls Try.prog 16 #[.agg #[.int .i64 p, .int .i64 qq], .slice ab lb cb] W fun e w' => e = .returned (.int .u64 (RB.toNat : Int)) ∧ Below W.heap.size W w') := fun W hW => by rw [hRB]; exact readers_any p qq ab lb cb B (by omega) hb0 W ((HLB3.out.later HB.out).later hW)
              have hne : ((RA.toNat : Int) == (RB.toNat : Int)) = false := by
                rw [beq_eq_false_iff_ne]; intro e; exact HE (BitVec.eq_of_toNat_eq (by omega))
              clear hRA hRB hdf hdif HE
              go_wp2_with fail
              refine wp_region_seqi (fun X => Below wr.heap.size wr X) (fun X X2 hB h => Below.next h hB) (by kernel_rfl) (by kernel_rfl) (by kernel_rfl) (Below.refl _ wr).drew ?_
              simp only [putsL, Act.put, List.setIfInBounds_toArray, List.set_cons_zero, List.set_cons_succ, Nat.zero_add, Nat.reduceAdd]
              repeat (first
                | (refine seqi_call (f := 16) (fun v _ => v = .int .u64 (RA.toNat : Int)) (stable_val _) (fun vs => #[.agg #[.int .i64 p, .int .i64 qq], .slice aa la ca]) (fun vs W hD => ?_) (fun vs W hS hD => ?_) (fun vs W hS hD => ?_) ?_
                   · (first | rfl | ((try simp [DepA, isB, rsAt] at hD); simp [Region.wanted, yielded, hD]; done))
                   · (clear hS; (try simp [DepA, isB, rsAt] at hD); (try simp only [hD]); go_simp; done)
                   · (exact (HRA.out W hS).mono fun e W' ⟨he, hB⟩ => ⟨⟨_, he, rfl⟩, hB⟩)
                   simp only [List.nil_append, List.cons_append])
                | (refine seqi_call (f := 16) (fun v _ => v = .int .u64 (RB.toNat : Int)) (stable_val _) (fun vs => #[.agg #[.int .i64 p, .int .i64 qq], .slice ab lb cb]) (fun vs W hD => ?_) (fun vs W hS hD => ?_) (fun vs W hS hD => ?_) ?_
                   · (first | rfl | ((try simp [DepA, isB, rsAt] at hD); simp [Region.wanted, yielded, hD]; done))
                   · (clear hS; (try simp [DepA, isB, rsAt] at hD); (try simp only [hD]); go_simp; done)
                   · (exact (HRB.out W hS).mono fun e W' ⟨he, hB⟩ => ⟨⟨_, he, rfl⟩, hB⟩)
                   simp only [List.nil_append, List.cons_append])
                | (refine seqi_run ?_ (fun vs W hD => ?_) (fun vs W hS hD => ?_) ?_
                   rotate_left
                   · (first | rfl | ((try simp [DepA, isB, rsAt] at hD); simp [Region.wanted, yielded, hD]; done))
                   (have d1 := (hS.cell (p := ⟨b, off + k * 2, none⟩) HLT.out).trans C1.out; have d2 := (hS.cell (p := ⟨b, off + k * 2 + 1, none⟩) HLT.out).trans C2.out; (try simp [DepA, isB, rsAt] at hD); (try simp only [hD]); (first | (go_simp; done) | (go_simp; rfl)))
                   simp only [List.nil_append, List.cons_append]))
              refine seqi_end fun vs W hS hv => ?_
              simp only [AllF, Nat.zero_add, Nat.reduceAdd] at hv
              obtain ⟨h0, h1, h2, h3, h4, h5, h6, h7, h8, h9, h10, h11, h12, _⟩ := hv
              simp only [h0, h1, h2, h3, h4, h5, h6, h7, h8, h9, h10, h11, h12]
              clear h0 h1 h2 h3 h4 h5 h6 h7 h8 h9 h10 h11 h12
              have HBW := Lib.hid (Below.next HB.out hS)
              clear hS HB HRA HRB C1 C2 HLT
              generalize W = w4 at *
              go_wp2_with fail
              go_roundw
              case rel => exact ⟨k + 1, by omega, by go_num, HBW.out⟩
              case measure => simp [intOf]; omega
            · have HBE := Lib.hid (Below.next HB3.out HB.out)
              have HLE := Lib.hid (HL3.out.later HB.out)
              go_wp2_with fail
              exact ⟨⟨j + 1, by omega, by go_num, HBE.out, HLE.out⟩, by simp [intOf]; omega⟩
        · obtain rfl : j = n := by omega
          go_wp2_with fail
          go_ret
          exact ⟨rfl, HBj.out⟩
end Go.Proofs.Ythgnhdfppmoooaa.Re
