/- What Show returns of a number. -/
import Derived.Test.YteoepgdfhllffaaDoorValI
namespace Go.Proofs.YteoepgdfhllffaaDoor.Va
open Go Go.RowKit GM
attribute [local simp] DepA isB rsAt
set_option maxRecDepth 100000 in
set_option maxHeartbeats 1600000 in
theorem show_num (n : Int) (hi : InI n) (hl : n ≠ leastI) (w : World) (hT : Pow w) : Calls Tryd.prog 26 #[.agg #[.int .u8 1, .int .i64 n, .string ⟨#[]⟩]] w fun e w' => e = .returned (.string ⟨(Tx.fmtL n).toArray⟩) ∧ Below w.heap.size w w' := by
  have HA := Lib.hid (B3.start w 1 n ⟨#[]⟩)
  have HB := Lib.hid (valloc w (.cells #[.int .u8 1, .int .i64 n, .string ⟨#[]⟩] 29))
  have HC : Hid (∀ W, Below w.heap.size w W → Calls Tryd.prog 19 #[.agg #[.int .u8 1, .int .i64 n, .string ⟨#[]⟩]] W fun e w' => e = .returned (.agg #[.int .u8 3, .int .i64 0, .string ⟨(Tx.fmtL n).toArray⟩]) ∧ Below W.heap.size W w') := by
    intro W hB
    have := to_text 1 n ⟨#[]⟩ (by decide) hi W (hT.later hB)
    rw [cv3_num hl] at this
    exact this
  have HV : Hid (∀ W, Calls Tryd.prog 21 #[.agg #[.int .u8 1, .int .i64 n, .string ⟨#[]⟩]] W fun e w' => e = .returned (.int .i64 0) ∧ Below W.heap.size W w') := by
    intro W
    have := vcheck_any 1 n ⟨#[]⟩ (by decide) hi.1 W
    rw [show vE 1 n (⟨#[]⟩ : ByteArray).data.toList = 0 from vE_num hl] at this
    exact this
  generalize (⟨(Tx.fmtL n).toArray⟩ : ByteArray) = fs at *
  change Hid (B3 (w.alloc (.cells #[.int .u8 1, .int .i64 n, .string ⟨#[]⟩] 29)) w.heap.size 1 n ⟨#[]⟩) at HA
  go_enter Tryd.func26, Tryd.ntmps26
  go_wp2_with fail
  generalize w.alloc (.cells #[.int .u8 1, .int .i64 n, .string ⟨#[]⟩] 29) = wa at *
  refine wp_region_seqi (fun X => Below wa.heap.size wa X) (fun W W2 hB h => Below.next h hB) (by kernel_rfl) (by kernel_rfl) (by kernel_rfl) (Below.refl _ _).drew ?_
  simp only [putsL, Act.put, List.setIfInBounds_toArray, List.set_cons_zero, List.set_cons_succ, Nat.zero_add, Nat.reduceAdd]
  refine seqi_run ?_ (fun vs W hD => (by first | rfl | (simp at hD; simp [Region.wanted, yielded, hD]))) (fun vs W hS hD => ?_) ?_
  rotate_left
  · have hz := (HA.out.later hS).cells; have c0 : W.cell? ⟨w.heap.size, 0, none⟩ = some (.int .u8 1) := hz.1; have c1 : W.cell? ⟨w.heap.size, 1, none⟩ = some (.int .i64 n) := hz.2.1; have c2 : W.cell? ⟨w.heap.size, 2, none⟩ = some (.string ⟨#[]⟩) := hz.2.2.1; clear hz; obtain _ := hS; (try simp at hD); (try simp only [hD]); (first | (go_simp; done) | (go_simp; rfl))
  simp only [List.nil_append]
  refine seqi_call (f := 27) (fun v _ => v = (.agg #[.int .u8 4, .int .i64 7, .string ⟨#[]⟩])) (stable_val _) (fun vs => #[.int .i64 7]) (fun vs W hD => (by first | rfl | (simp at hD; simp [Region.wanted, yielded, hD]))) (fun vs W hS hD => ?_) (fun vs W hS hD => ?_) ?_
  · obtain _ := hS; (try simp at hD); (try simp only [hD]); go_simp; done
  · exact (fail_any 7 W).mono fun e W' ⟨he, hB⟩ => ⟨⟨_, he, rfl⟩, hB⟩
  simp only [List.nil_append, List.cons_append]
  refine seqi_run ?_ (fun vs W hD => (by first | rfl | (simp at hD; simp [Region.wanted, yielded, hD]))) (fun vs W hS hD => ?_) ?_
  rotate_left
  · obtain _ := hS; (try simp at hD); (try simp only [hD]); (first | (go_simp; done) | (go_simp; rfl))
  simp only [List.nil_append, List.cons_append]
  refine seqi_run ?_ (fun vs W hD => (by first | rfl | (simp at hD; simp [Region.wanted, yielded, hD]))) (fun vs W hS hD => ?_) ?_
  rotate_left
  · obtain _ := hS; (try simp at hD); (try simp only [hD]); (first | (go_simp; done) | (go_simp; rfl))
  simp only [List.nil_append, List.cons_append]
  refine seqi_run ?_ (fun vs W hD => (by first | rfl | (simp at hD; simp [Region.wanted, yielded, hD]))) (fun vs W hS hD => ?_) ?_
  rotate_left
  · obtain _ := hS; (try simp at hD); (try simp only [hD]); (first | (go_simp; done) | (go_simp; rfl))
  simp only [List.nil_append, List.cons_append]
  refine seqi_run ?_ (fun vs W hD => (by first | rfl | (simp at hD; simp [Region.wanted, yielded, hD]))) (fun vs W hS hD => ?_) ?_
  rotate_left
  · have hz := (HA.out.later hS).cells; have c0 : W.cell? ⟨w.heap.size, 0, none⟩ = some (.int .u8 1) := hz.1; have c1 : W.cell? ⟨w.heap.size, 1, none⟩ = some (.int .i64 n) := hz.2.1; have c2 : W.cell? ⟨w.heap.size, 2, none⟩ = some (.string ⟨#[]⟩) := hz.2.2.1; clear hz; obtain _ := hS; (try simp at hD); (try simp only [hD]); (first | (go_simp; done) | (go_simp; rfl))
  simp only [List.nil_append, List.cons_append]
  refine seqi_run ?_ (fun vs W hD => (by first | rfl | (simp at hD; simp [Region.wanted, yielded, hD]))) (fun vs W hS hD => ?_) ?_
  rotate_left
  · obtain _ := hS; (try simp at hD); (try simp only [hD]); (first | (go_simp; done) | (go_simp; rfl))
  simp only [List.nil_append, List.cons_append]
  refine seqi_run ?_ (fun vs W hD => (by first | rfl | (simp at hD; simp [Region.wanted, yielded, hD]))) (fun vs W hS hD => ?_) ?_
  rotate_left
  · obtain _ := hS; (try simp at hD); (try simp only [hD]); (first | (go_simp; done) | (go_simp; rfl))
  simp only [List.nil_append, List.cons_append]
  refine seqi_not (fun vs W hD => (by (try simp at hD); simp [Region.wanted, yielded, hD])) ?_
  simp only [List.nil_append, List.cons_append]
  refine seqi_not (fun vs W hD => (by (try simp at hD); simp [Region.wanted, yielded, hD])) ?_
  simp only [List.nil_append, List.cons_append]
  refine seqi_not (fun vs W hD => (by (try simp at hD); simp [Region.wanted, yielded, hD])) ?_
  simp only [List.nil_append, List.cons_append]
  refine seqi_run ?_ (fun vs W hD => (by first | rfl | (simp at hD; simp [Region.wanted, yielded, hD]))) (fun vs W hS hD => ?_) ?_
  rotate_left
  · obtain _ := hS; (try simp at hD); (try simp only [hD]); (first | (go_simp; done) | (go_simp; rfl))
  simp only [List.nil_append, List.cons_append]
  refine seqi_run ?_ (fun vs W hD => (by first | rfl | (simp at hD; simp [Region.wanted, yielded, hD]))) (fun vs W hS hD => ?_) ?_
  rotate_left
  · obtain _ := hS; (try simp at hD); (try simp only [hD]); (first | (go_simp; done) | (go_simp; rfl))
  simp only [List.nil_append, List.cons_append]
  refine seqi_end fun vs W0 hS hv => ?_
  simp only [AllF, Nat.zero_add, Nat.reduceAdd] at hv
  obtain ⟨h0, h1, h2, h3, h4, h5, h6, h7, h8, h9, h10, h11, h12, _⟩ := hv
  replace HA := Lib.hid (HA.out.later hS)
  replace HB := Lib.hid (vnext HB.out hS)
  simp only [h0, h1, h2, h3, h4, h5, h6, h7, h8, h9, h10, h11, h12]
  clear h0 h1 h2 h3 h4 h5 h6 h7 h8 h9 h10 h11 h12 hS
  have hz := HA.out.cells
  have c0 : W0.cell? ⟨w.heap.size, 0, none⟩ = some (.int .u8 1) := hz.1
  have c1 : W0.cell? ⟨w.heap.size, 1, none⟩ = some (.int .i64 n) := hz.2.1
  have c2 : W0.cell? ⟨w.heap.size, 2, none⟩ = some (.string ⟨#[]⟩) := hz.2.2.1
  clear hz
  go_wp2_with fail
  refine (HV.out _).mono ?_
  rintro e w1 ⟨rfl, hB⟩
  replace HA := Lib.hid (HA.out.later hB)
  replace HB := Lib.hid (vnext HB.out hB)
  clear hB c0 c1 c2
  have hz := HA.out.cells
  have c0 : w1.cell? ⟨w.heap.size, 0, none⟩ = some (.int .u8 1) := hz.1
  have c1 : w1.cell? ⟨w.heap.size, 1, none⟩ = some (.int .i64 n) := hz.2.1
  have c2 : w1.cell? ⟨w.heap.size, 2, none⟩ = some (.string ⟨#[]⟩) := hz.2.2.1
  clear hz
  go_wp2_with fail
  refine (HC.out _ HB.out).mono ?_
  rintro e w2 ⟨rfl, hB⟩
  replace HB := Lib.hid (vnext HB.out hB)
  clear hB c0 c1 c2
  have hfd : ∀ (a b c : Value) (W : World), (Instr.field 29 (.agg #[a, b, c]) 2).run Tryd.prog W = .ok c W := fun _ _ _ _ => rfl
  go_wp2_with fail
  go_ret
  exact ⟨rfl, HB.out⟩
end Go.Proofs.YteoepgdfhllffaaDoor.Va
