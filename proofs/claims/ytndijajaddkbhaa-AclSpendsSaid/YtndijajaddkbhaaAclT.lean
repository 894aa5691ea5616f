/- The contract of Plain. -/
import Derived.Test.YtndijajaddkbhaaAclQ
import Derived.Test.YtndijajaddkbhaaRowCap
namespace Go.Proofs.Ytndijajaddkbhaa.Re
open Go.RowKit AM
attribute [local simp] DepA isB rsAt
theorem run_cutL (a : Option Addr) (len cap k : Nat) (h : k < len) (W : World) :
    (Instr.sliceAt 22 (.slice a len cap) (some (.int .i64 ((k : Int) + 1))) none none).run Try.prog W = .ok (.slice (if cap = k + 1 then a else a.map (·.add ((k + 1) * 7))) (len - (k + 1)) (cap - (k + 1))) W := by
  rw [run_sliceAt_slice W 22 _ _ _ _ (by kernel_rfl), run_slice_l W 22 a len cap (by kernel_rfl) .i64 ((k : Int) + 1) (by omega) (by omega)]
  obtain ⟨i0, hi, hz0, hz1, hz2⟩ := info_parts infoRule
  have he : Try.prog.elem 22 = 35 := by kernel_rfl
  rw [he]
  simp [sizeOf, typeInfo, hi, hz1, sliced, show ((k : Int) + 1).toNat = k + 1 by omega]
theorem OwnOf.cap {α : Type} {c : α → List Value} {n : Nat} {e : TypeId} {B : Nat} {w : World} {a : Option Addr} {m cp : Nat} {L : List α} (h : OwnOf e c n B w (.slice a m cp) L) : m ≤ cp := by
  rcases h.2 with ⟨hv, _⟩ | ⟨g, cap, cur, hv, hg, hh, hc, _⟩
  · injection hv with h1 h2 h3; omega
  · injection hv with h1 h2 h3; omega
set_option maxRecDepth 100000 in
set_option maxHeartbeats 6400000 in
theorem pplain_ok (a : Option Addr) (len cap : Nat) (hc : len ≤ cap) (L : List RV) (w : World) (hL : IsL w a len L) (hv : (rck 64 L).2 = 0) :
    Calls Try.prog 14 #[.slice a len cap] w fun e w' => (∃ v, e = .returned (.tuple #[v, .int .i64 0]) ∧ OwnL w.heap.size w' v (plainL L)) ∧ Below w.heap.size w w' := by
  have HL := Lib.hid hL
  have HLL := Lib.hid hL.1
  obtain ⟨hl0, hl64, _, hok⟩ := rck_zero.1 hv
  have hlen : len ≤ 64 := by rw [← hL.1]; exact hl64
  have HCK : Hid (∀ x ∈ L, (rr4 x).ck = true) := by
    intro x hx
    obtain ⟨j, hj, rfl⟩ := List.getElem_of_mem hx
    have := okRule_ck (hok j hj)
    rwa [ruleAt_get hj] at this
  have HV := Lib.hid hv
  clear hL hl0 hl64 hok hv
  go_enter Try.func14, Try.ntmps14
  go_wp2_with fail
  refine (acheck_any 64 a len cap L (by omega) _ HL.out).mono ?_
  rintro e w1 ⟨rfl, hB1⟩
  unfold ckV
  rw [HV.out]
  generalize (rck 64 L).1 = ck1 at *
  have HB1 := Lib.hid hB1
  clear hB1
  go_wp2_with fail
  go_loopw [6, 19] (fun v i wr => ∃ k : Nat, k ≤ len ∧ i = .int .i64 k ∧ OwnL w.heap.size wr v (plK L k) ∧ Below w.heap.size w wr) (fun _ i _ => len - (intOf i).toNat)
  case atStart => exact ⟨0, Nat.zero_le _, rfl, OwnOf.nil _ _ _ _ _, HB1.out⟩
  case round =>
    obtain ⟨k, hk, rfl, hv, hB⟩ := hrel
    obtain ⟨va, vc, rfl, _⟩ := hv.isOf cells7_len
    have HO := Lib.hid hv
    have HB := Lib.hid hB
    clear hv hB
    by_cases hlt : k < len
    · have HLr := Lib.hid (HL.out.later HB.out)
      have HCUT := Lib.hid (fun W (h : IsL W a len L) => IsOf.cut h (k := k + 1) (cap := cap) (by omega) hc)
      have hkl : k < L.length := by rw [HLL.out]; exact hlt
      have HPT := Lib.hid (plK_t L k hkl)
      have HPF := Lib.hid (plK_f L k hkl)
      have hml := plK_len L k
      have HSP : Hid (∀ W A1 c1, IsL W A1 (len - (k + 1)) (L.drop (k + 1)) → Calls Try.prog 57 #[.agg (cells7 L[k]).toArray, .slice A1 (len - (k + 1)) c1] W fun e w' => e = .returned (.bool (spentB L[k] (L.drop (k + 1)))) ∧ Below W.heap.size W w') := by
        intro W A1 c1 h
        have := spent_any L[k] A1 (len - (k + 1)) c1 (L.drop (k + 1)) (by omega) W h
        rwa [cov_spent L[k] (L.drop (k + 1)) (HCK.out _ (List.getElem_mem _)) (fun x hx => HCK.out x (List.mem_of_mem_drop hx))] at this
      have hsl := fun W => run_cutL a len cap k hlt W
      obtain ⟨bb, off, hae, hrr⟩ := HLr.out.2 (by omega)
      obtain ⟨c1, c2, c3, c4, c5, c6, c7⟩ := RowOf.seven hrr k hkl
      have HBX := Lib.hid (Box7.start wr L[k] 35)
      have HBA := Lib.hid (below_alloc wr (.cells (cells7 L[k]).toArray 35))
      have HOA := Lib.hid (HO.out.alloc (.cells (cells7 L[k]).toArray 35))
      have HIA : Hid (IsL (wr.alloc (.cells (cells7 L[k]).toArray 35)) (if cap = k + 1 then a else a.map (·.add ((k + 1) * 7))) (len - (k + 1)) (L.drop (k + 1))) := HCUT.out _ (HLr.out.later HBA.out)
      have HSP2 := Lib.hid (fun W (h : IsL W (if cap = k + 1 then a else a.map (·.add ((k + 1) * 7))) (len - (k + 1)) (L.drop (k + 1))) => HSP.out W _ (cap - (k + 1)) h)
      clear hrr HSP HCUT HLr
      generalize (if cap = k + 1 then a else a.map (·.add ((k + 1) * 7))) = A1 at *
      generalize hm1 : len - (k + 1) = m1 at *
      generalize hc1 : cap - (k + 1) = c1' at *
      have HSP : Hid (∀ W, IsL W A1 m1 (L.drop (k + 1)) → Calls Try.prog 57 #[.agg (cells7 L[k]).toArray, .slice A1 m1 c1'] W fun e w' => e = .returned (.bool (spentB L[k] (L.drop (k + 1)))) ∧ Below W.heap.size W w') := fun W h => HSP2.out W h
      clear HSP2 hm1 hc1
      generalize spentB L[k] (L.drop (k + 1)) = sp at *
      generalize L.drop (k + 1) = D at *
      generalize plK L k = M at *
      generalize L[k] = r at *
      obtain ⟨x1, x2, x3, x4, x5, x6, x7⟩ := r
      subst hae
      unfold cells7 at HBX HBA HOA HSP HIA
      dsimp only at *
      go_wp2_with fail
      clear c1 c2 c3 c4 c5 c6 c7
      change Hid (Box7 (wr.alloc (.cells #[.int .i64 x1, .int .i64 x2, .int .i64 x3, .int .i64 x4, .int .u64 (x5.toNat : Int), .int .u64 (x6.toNat : Int), .int .u64 (x7.toNat : Int)] 35)) wr.heap.size ⟨x1, x2, x3, x4, x5, x6, x7⟩) at HBX
      generalize wr.alloc (.cells #[.int .i64 x1, .int .i64 x2, .int .i64 x3, .int .i64 x4, .int .u64 (x5.toNat : Int), .int .u64 (x6.toNat : Int), .int .u64 (x7.toNat : Int)] 35) = wa at *
      have HBWA := Lib.hid (Below.next HB.out HBA.out)
      by_cases hk0 : k = 0
      · subst hk0
        have HE := Lib.hid (HPT.out (.inl rfl))
        clear HPT HPF hsl
        refine wp_region_seqi (fun X => Below wa.heap.size wa X) (fun W W2 hB h => Below.next h hB) (by kernel_rfl) (by kernel_rfl) (by kernel_rfl) (Below.refl _ _).drew ?_
        simp only [putsL, Act.put, List.setIfInBounds_toArray, List.set_cons_zero, List.set_cons_succ, Nat.zero_add, Nat.reduceAdd]
        refine seqi_run ?_ (fun vs W hD => (by first | rfl | (simp at hD; simp [Region.wanted, yielded, hD]))) (fun vs W hS hD => ?_) ?_
        rotate_left
        · obtain _ := hS; (try simp at hD); (try simp only [hD]); (first | (go_simp; done) | (go_simp; rfl))
        simp only [List.nil_append]
        refine seqi_run ?_ (fun vs W hD => (by first | rfl | (simp at hD; simp [Region.wanted, yielded, hD]))) (fun vs W hS hD => ?_) ?_
        rotate_left
        · obtain _ := hS; (try simp at hD); (try simp only [hD]); (first | (go_simp; done) | (go_simp; rfl))
        simp only [List.nil_append, List.cons_append]
        refine seqi_run ?_ (fun vs W hD => (by first | rfl | (simp at hD; simp [Region.wanted, yielded, hD]))) (fun vs W hS hD => ?_) ?_
        rotate_left
        · obtain _ := hS; (try simp at hD); (try simp only [hD]); (first | (go_simp; done) | (go_simp; rfl))
        simp only [List.nil_append, List.cons_append]
        refine seqi_not (fun vs W hD => (by (try simp at hD); simp [Region.wanted, yielded, hD])) ?_
        simp only [List.nil_append, List.cons_append]
        refine seqi_not (fun vs W hD => (by (try simp at hD); simp [Region.wanted, yielded, hD])) ?_
        simp only [List.nil_append, List.cons_append]
        refine seqi_not (fun vs W hD => (by (try simp at hD); simp [Region.wanted, yielded, hD])) ?_
        simp only [List.nil_append, List.cons_append]
        refine seqi_not (fun vs W hD => (by (try simp at hD); simp [Region.wanted, yielded, hD])) ?_
        simp only [List.nil_append, List.cons_append]
        refine seqi_not (fun vs W hD => (by (try simp at hD); simp [Region.wanted, yielded, hD])) ?_
        simp only [List.nil_append, List.cons_append]
        refine seqi_not (fun vs W hD => (by (try simp at hD); simp [Region.wanted, yielded, hD])) ?_
        simp only [List.nil_append, List.cons_append]
        refine seqi_not (fun vs W hD => (by (try simp at hD); simp [Region.wanted, yielded, hD])) ?_
        simp only [List.nil_append, List.cons_append]
        refine seqi_run ?_ (fun vs W hD => (by first | rfl | (simp at hD; simp [Region.wanted, yielded, hD]))) (fun vs W hS hD => ?_) ?_
        rotate_left
        · obtain _ := hS; (try simp at hD); (try simp only [hD]); (first | (go_simp; done) | (go_simp; rfl))
        simp only [List.nil_append, List.cons_append]
        refine seqi_end fun vs W0 hS hv => ?_
        simp only [AllF, Nat.zero_add, Nat.reduceAdd] at hv
        obtain ⟨h0, h1, h2, h3, h4, h5, h6, h7, h8, h9, h10, _⟩ := hv
        have HOW := Lib.hid (HOA.out.later hS)
        have HBW := Lib.hid (Below.next HBWA.out hS)
        have HXW := Lib.hid (HBX.out.later hS)
        simp only [h0, h1, h2, h3, h4, h5, h6, h7, h8, h9, h10]
        clear h0 h1 h2 h3 h4 h5 h6 h7 h8 h9 h10 hS HSP HIA HBX HOA HBA HBWA
        have HO3 := Lib.hid (HOW.out.alloc (.cells #[.int .i64 x1, .int .i64 x2, .int .i64 x3, .int .i64 x4, .int .u64 (x5.toNat : Int), .int .u64 (x6.toNat : Int), .int .u64 (x7.toNat : Int)] 35))
        have HI3 := Lib.hid (isOf_new (c := cells7) (n := 7) W0 #[.int .i64 x1, .int .i64 x2, .int .i64 x3, .int .i64 x4, .int .u64 (x5.toNat : Int), .int .u64 (x6.toNat : Int), .int .u64 (x7.toNat : Int)] 35 ⟨x1, x2, x3, x4, x5, x6, x7⟩ rfl)
        have HZ3 : Hid (w.heap.size ≤ (W0.alloc (.cells #[.int .i64 x1, .int .i64 x2, .int .i64 x3, .int .i64 x4, .int .u64 (x5.toNat : Int), .int .u64 (x6.toNat : Int), .int .u64 (x7.toNat : Int)] 35)).heap.size) := by unfold Hid; rw [World.size_alloc]; have := HBW.out.size; omega
        have HM3 : Hid ((M.length + 1) * 56 ≤ 140737488355328) := by unfold Hid; omega
        obtain ⟨_, d1, d2, d3, d4, d5, d6, d7⟩ := HXW.out
        dsimp only at d1 d2 d3 d4 d5 d6 d7
        go_wp2_with (at_builtin; refine wpList_appOf rfl (.tmp 35) (.tmp 37) 22 rfl Try.underlying22 _ 56 infoRule zero7 (by decide) (by decide) cells7_len cells7_one w.heap.size (.slice va M.length vc) M rfl HO3.out (some ⟨W0.heap.size, 0, none⟩) 1 1 [⟨x1, x2, x3, x4, x5, x6, x7⟩] rfl HI3.out HM3.out HZ3.out ?_)
        intro v4 w4 ho4 hb4
        have HO4 := Lib.hid ho4
        have HB4 := Lib.hid (Below.trans (HBW.out.alloc HBW.out.size _) hb4)
        clear ho4 hb4
        go_wp2_with fail
        go_roundw
        case rel => exact ⟨1, by omega, by go_num, by rw [HE.out]; exact HO4.out, HB4.out⟩
        case measure => simp [intOf]; omega
      · have hkn : ((k : Int) == 0) = false := by simp; omega
        have hkw : IntKind.i64.wrap ((k : Int) + 1) = (k : Int) + 1 := by rw [IntKind.wrap_i64]; omega
        have HPF' := Lib.hid (HPF.out hk0)
        clear HPF
        refine wp_region_seqi (fun X => Below wa.heap.size wa X) (fun W W2 hB h => Below.next h hB) (by kernel_rfl) (by kernel_rfl) (by kernel_rfl) (Below.refl _ _).drew ?_
        simp only [putsL, Act.put, List.setIfInBounds_toArray, List.set_cons_zero, List.set_cons_succ, Nat.zero_add, Nat.reduceAdd]
        refine seqi_run ?_ (fun vs W hD => (by first | rfl | (simp at hD; simp [Region.wanted, yielded, hD]))) (fun vs W hS hD => ?_) ?_
        rotate_left
        · obtain _ := hS; (try simp at hD); (try simp only [hD]); (first | (go_simp; done) | (go_simp; rfl))
        simp only [List.nil_append]
        refine seqi_run ?_ (fun vs W hD => (by first | rfl | (simp at hD; simp [Region.wanted, yielded, hD]))) (fun vs W hS hD => ?_) ?_
        rotate_left
        · obtain _ := hS; (try simp at hD); (try simp only [hD]); (first | (go_simp; done) | (go_simp; rfl))
        simp only [List.nil_append, List.cons_append]
        refine seqi_run ?_ (fun vs W hD => (by first | rfl | (simp at hD; simp [Region.wanted, yielded, hD]))) (fun vs W hS hD => ?_) ?_
        rotate_left
        · obtain _ := hS; (try simp at hD); (try simp only [hD]); (first | (go_simp; done) | (go_simp; rfl))
        simp only [List.nil_append, List.cons_append]
        refine seqi_run ?_ (fun vs W hD => (by first | rfl | (simp at hD; simp [Region.wanted, yielded, hD]))) (fun vs W hS hD => ?_) ?_
        rotate_left
        · obtain ⟨_, d1, d2, d3, d4, d5, d6, d7⟩ := HBX.out.later hS; dsimp only at d1 d2 d3 d4 d5 d6 d7; obtain _ := hS; (try simp at hD); (try simp only [hD]); (first | (go_simp; done) | (go_simp; rfl))
        simp only [List.nil_append, List.cons_append]
        refine seqi_run ?_ (fun vs W hD => (by first | rfl | (simp at hD; simp [Region.wanted, yielded, hD]))) (fun vs W hS hD => ?_) ?_
        rotate_left
        · obtain _ := hS; (try simp at hD); (try simp only [hD]); (first | (go_simp; done) | (go_simp; rfl))
        simp only [List.nil_append, List.cons_append]
        refine seqi_run ?_ (fun vs W hD => (by first | rfl | (simp at hD; simp [Region.wanted, yielded, hD]))) (fun vs W hS hD => ?_) ?_
        rotate_left
        · obtain _ := hS; (try simp at hD); (try simp only [hD]); (first | (go_simp; done) | (go_simp; rfl))
        simp only [List.nil_append, List.cons_append]
        refine seqi_run (.int .i64 ((k : Int) + 1)) (fun vs W hD => (by first | rfl | (simp at hD; simp [Region.wanted, yielded, hD]))) (fun vs W hS hD => ?_) ?_
        · obtain _ := hS; (try simp at hD); (try simp only [hD]); (first | (go_simp; done) | (go_simp; rfl))
        simp only [List.nil_append, List.cons_append]
        refine seqi_run ?_ (fun vs W hD => (by first | rfl | (simp at hD; simp [Region.wanted, yielded, hD]))) (fun vs W hS hD => ?_) ?_
        rotate_left
        · obtain _ := hS; (try simp at hD); (try simp only [hD]); (first | (go_simp; done) | (go_simp; rfl))
        simp only [List.nil_append, List.cons_append]
        refine seqi_call (f := 57) (fun v _ => v = (.bool sp)) (stable_val _) (fun vs => #[.agg #[.int .i64 x1, .int .i64 x2, .int .i64 x3, .int .i64 x4, .int .u64 (x5.toNat : Int), .int .u64 (x6.toNat : Int), .int .u64 (x7.toNat : Int)], .slice A1 m1 c1']) (fun vs W hD => (by first | rfl | (simp at hD; simp [Region.wanted, yielded, hD]))) (fun vs W hS hD => ?_) (fun vs W hS hD => ?_) ?_
        · obtain _ := hS; (try simp at hD); (try simp only [hD]); go_simp; done
        · exact (HSP.out W (HIA.out.later hS)).mono fun e W' ⟨he, hB⟩ => ⟨⟨_, he, rfl⟩, hB⟩
        simp only [List.nil_append, List.cons_append]
        refine seqi_run ?_ (fun vs W hD => (by first | rfl | (simp at hD; simp [Region.wanted, yielded, hD]))) (fun vs W hS hD => ?_) ?_
        rotate_left
        · obtain _ := hS; (try simp at hD); (try simp only [hD]); (first | (go_simp; done) | (go_simp; rfl))
        simp only [List.nil_append, List.cons_append]
        refine seqi_run ?_ (fun vs W hD => (by first | rfl | (simp at hD; simp [Region.wanted, yielded, hD]))) (fun vs W hS hD => ?_) ?_
        rotate_left
        · obtain _ := hS; (try simp at hD); (try simp only [hD]); (first | (go_simp; done) | (go_simp; rfl))
        simp only [List.nil_append, List.cons_append]
        refine seqi_end fun vs W0 hS hv => ?_
        simp only [AllF, Nat.zero_add, Nat.reduceAdd] at hv
        obtain ⟨h0, h1, h2, h3, h4, h5, h6, h7, h8, h9, h10, _⟩ := hv
        have HOW := Lib.hid (HOA.out.later hS)
        have HBW := Lib.hid (Below.next HBWA.out hS)
        have HXW := Lib.hid (HBX.out.later hS)
        simp only [h0, h1, h2, h3, h4, h5, h6, h7, h8, h9, h10]
        clear h0 h1 h2 h3 h4 h5 h6 h7 h8 h9 h10 hS HSP HIA HBX HOA HBA HBWA hsl
        cases hsp : sp
        · have HE := Lib.hid (HPT.out (.inr hsp))
          clear hsp HPT HPF'
          have HO3 := Lib.hid (HOW.out.alloc (.cells #[.int .i64 x1, .int .i64 x2, .int .i64 x3, .int .i64 x4, .int .u64 (x5.toNat : Int), .int .u64 (x6.toNat : Int), .int .u64 (x7.toNat : Int)] 35))
          have HI3 := Lib.hid (isOf_new (c := cells7) (n := 7) W0 #[.int .i64 x1, .int .i64 x2, .int .i64 x3, .int .i64 x4, .int .u64 (x5.toNat : Int), .int .u64 (x6.toNat : Int), .int .u64 (x7.toNat : Int)] 35 ⟨x1, x2, x3, x4, x5, x6, x7⟩ rfl)
          have HZ3 : Hid (w.heap.size ≤ (W0.alloc (.cells #[.int .i64 x1, .int .i64 x2, .int .i64 x3, .int .i64 x4, .int .u64 (x5.toNat : Int), .int .u64 (x6.toNat : Int), .int .u64 (x7.toNat : Int)] 35)).heap.size) := by unfold Hid; rw [World.size_alloc]; have := HBW.out.size; omega
          have HM3 : Hid ((M.length + 1) * 56 ≤ 140737488355328) := by unfold Hid; omega
          obtain ⟨_, d1, d2, d3, d4, d5, d6, d7⟩ := HXW.out
          dsimp only at d1 d2 d3 d4 d5 d6 d7
          go_wp2_with (at_builtin; refine wpList_appOf rfl (.tmp 35) (.tmp 37) 22 rfl Try.underlying22 _ 56 infoRule zero7 (by decide) (by decide) cells7_len cells7_one w.heap.size (.slice va M.length vc) M rfl HO3.out (some ⟨W0.heap.size, 0, none⟩) 1 1 [⟨x1, x2, x3, x4, x5, x6, x7⟩] rfl HI3.out HM3.out HZ3.out ?_)
          intro v4 w4 ho4 hb4
          have HO4 := Lib.hid ho4
          have HB4 := Lib.hid (Below.trans (HBW.out.alloc HBW.out.size _) hb4)
          clear ho4 hb4
          go_wp2_with fail
          go_roundw
          case rel => exact ⟨k + 1, by omega, by go_num, by rw [HE.out]; exact HO4.out, HB4.out⟩
          case measure => simp [intOf]; omega
        · have HE := Lib.hid (HPF'.out hsp)
          clear hsp HPT HPF'
          go_wp2_with fail
          go_roundw
          case rel => exact ⟨k + 1, by omega, by go_num, by rw [HE.out]; exact HOW.out, HBW.out⟩
          case measure => simp [intOf]; omega
    · obtain rfl : k = len := by omega
      have HE : Hid (plK L k = plainL L) := by unfold Hid; rw [← HLL.out]; exact plK_end L
      have hV : OwnL w.heap.size wr (.slice va (plK L k).length vc) (plainL L) := by have := HO.out; rw [HE.out] at this ⊢; exact this
      have HV9 := Lib.hid hV
      clear hV
      generalize plK L k = M at *
      go_wp2_with fail
      go_ret2
      exact ⟨⟨_, rfl, HV9.out⟩, HB.out⟩
theorem pplain_bad (a : Option Addr) (len cap : Nat) (hl : len ≤ 100000) (L : List RV) (w : World) (hL : IsL w a len L) (x : Int) (hx : (rck 64 L).2 = x) (h0 : ¬ x = 0) :
    Calls Try.prog 14 #[.slice a len cap] w fun e w' => e = .returned (.tuple #[.slice none 0 0, .int .i64 x]) ∧ Below w.heap.size w w' := by
  have HL := Lib.hid hL
  have HX := Lib.hid hx
  have h1 : (x == 0) = false := by simpa using h0
  have h2 : (x != 0) = true := by simpa using h0
  clear hL hx
  go_enter Try.func14, Try.ntmps14
  go_wp2_with fail
  refine (acheck_any 64 a len cap L hl _ HL.out).mono ?_
  rintro e w1 ⟨rfl, hB1⟩
  unfold ckV
  rw [HX.out]
  generalize (rck 64 L).1 = ck1 at *
  have HB1 := Lib.hid hB1
  clear hB1
  go_wp2_with fail
  go_ret2
  exact ⟨rfl, HB1.out⟩
end Go.Proofs.Ytndijajaddkbhaa.Re
