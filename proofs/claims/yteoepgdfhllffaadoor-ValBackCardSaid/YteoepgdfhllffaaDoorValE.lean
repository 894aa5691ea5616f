/- The contract of the method text. -/
import Derived.Test.YteoepgdfhllffaaDoorValD
namespace Go.Proofs.YteoepgdfhllffaaDoor.Va
open Go Go.RowKit GM
attribute [local simp] DepA isB rsAt
def CnI (w : World) (p : Nat) (k : Int) (n : Int) (s : ByteArray) : Prop := w.heap[p]? = some (.cells #[.int .u8 k, .int .i64 n, .string s] 92)
theorem CnI.lt {w : World} {p : Nat} {k n : Int} {s : ByteArray} (h : CnI w p k n s) : p < w.heap.size := (Array.getElem?_eq_some_iff.1 h).1
theorem CnI.later {w w' : World} {p : Nat} {k n : Int} {s : ByteArray} (h : CnI w p k n s) (hB : Below w.heap.size w w') : CnI w' p k n s := (hB.block p h.lt).trans h
theorem CnI.cells {w : World} {p : Nat} {k n : Int} {s : ByteArray} (h : CnI w p k n s) : w.cell? ⟨p, 0, none⟩ = some (.int .u8 k) ∧ w.cell? ⟨p, 1, none⟩ = some (.int .i64 n) ∧ w.cell? ⟨p, 2, none⟩ = some (.string s) := by
  unfold CnI at h
  exact ⟨by simp [World.cell?, h], by simp [World.cell?, h], by simp [World.cell?, h]⟩
theorem conti_start (w : World) (k n : Int) (s : ByteArray) : CnI ((w.alloc (.cells #[.int .u8 k, .int .i64 n, .string s] 92)).alloc (.cells #[.int .u8 0, .int .i64 0, .string ⟨#[]⟩] 29)) w.heap.size k n s ∧ B3 ((w.alloc (.cells #[.int .u8 k, .int .i64 n, .string s] 92)).alloc (.cells #[.int .u8 0, .int .i64 0, .string ⟨#[]⟩] 29)) (w.heap.size + 1) 0 0 ⟨#[]⟩ ∧ Below w.heap.size w ((w.alloc (.cells #[.int .u8 k, .int .i64 n, .string s] 92)).alloc (.cells #[.int .u8 0, .int .i64 0, .string ⟨#[]⟩] 29)) := by
  refine ⟨?_, ?_, vnext (valloc _ _) (valloc _ _)⟩
  · exact ((valloc (w.alloc (.cells #[.int .u8 k, .int .i64 n, .string s] 92)) (.cells #[.int .u8 0, .int .i64 0, .string ⟨#[]⟩] 29)).block w.heap.size (by simp)).trans (World.alloc_heap_new _ _)
  · have := B3.start (w.alloc (.cells #[.int .u8 k, .int .i64 n, .string s] 92)) 0 0 ⟨#[]⟩
    rwa [World.size_alloc] at this
set_option maxRecDepth 100000 in
set_option maxHeartbeats 1600000 in
theorem text_m_n (n : Int) (w : World) (hn : InI n) (hT : Pow w) : Calls Tryd.prog 77 #[.agg #[.int .u8 1, .int .i64 n, .string ⟨#[]⟩]] w fun e w' => e = .returned (.agg #[.int .u8 3, .int .i64 0, .string ⟨(Tx.fmtL n).toArray⟩]) ∧ Below w.heap.size w w' := by
  have HS := Lib.hid (conti_start w 1 n ⟨#[]⟩)
  have HT := Lib.hid (fun (W : World) (hB : Below w.heap.size w W) => Tx.format_any n hn W (hT.later hB))
  generalize (⟨(Tx.fmtL n).toArray⟩ : ByteArray) = fs at *
  go_enter Tryd.func77, Tryd.ntmps77
  go_wp2_with fail
  generalize (w.alloc (.cells #[.int .u8 1, .int .i64 n, .string ⟨#[]⟩] 92)).alloc (.cells #[.int .u8 0, .int .i64 0, .string ⟨#[]⟩] 29) = wa at *
  obtain ⟨hC, hX0, hB0⟩ := HS.out
  obtain ⟨c0, c1, c2⟩ := hC.cells
  have HC := Lib.hid hC
  have HX := Lib.hid hX0
  have HBB := Lib.hid hB0
  clear HS hC hX0 hB0
  refine (HT.out _ HBB.out).mono ?_
  rintro e w1 ⟨rfl, hB⟩
  replace HX := Lib.hid (HX.out.later hB)
  replace HBB := Lib.hid (vnext HBB.out hB)
  clear hB
  have hX := HX.out
  obtain ⟨x0, x1, x2, z0, z1, z2⟩ := hX.cells
  have hXl := hX.lt
  have HBW := HBB
  go_wp2_with fail
  have hq : B3 (((w1.setCell ⟨(w.heap.size + 1), 0, none⟩ (.int .u8 3)).setCell ⟨(w.heap.size + 1), 1, none⟩ (.int .i64 0)).setCell ⟨(w.heap.size + 1), 2, none⟩ (.string fs)) (w.heap.size + 1) 3 0 fs ∧ w1.grownBy (((w1.setCell ⟨(w.heap.size + 1), 0, none⟩ (.int .u8 3)).setCell ⟨(w.heap.size + 1), 1, none⟩ (.int .i64 0)).setCell ⟨(w.heap.size + 1), 2, none⟩ (.string fs)) (some ((w.heap.size + 1))) := hX.set 3 0 fs
  have hb5 := HBW.out.grown hq.2 HBW.out.size (fun q hq => by injection hq with hq; omega)
  obtain ⟨hq, _⟩ := hq
  go_wp2_with fail
  generalize ((w1.setCell ⟨(w.heap.size + 1), 0, none⟩ (.int .u8 3)).setCell ⟨(w.heap.size + 1), 1, none⟩ (.int .i64 0)).setCell ⟨(w.heap.size + 1), 2, none⟩ (.string fs) = w5 at *
  obtain ⟨y0, y1, y2, _, _, _⟩ := hq.cells
  refine bodyPost_ret (v := .agg #[.int .u8 3, .int .i64 0, .string fs]) (by simp [results, Tryd.results77, go_sem, y0, y1, y2]) rfl ⟨rfl, hb5⟩
set_option maxRecDepth 100000 in
set_option maxHeartbeats 1600000 in
theorem text_m_b (w : World) : Calls Tryd.prog 77 #[.agg #[.int .u8 0, .int .i64 0, .string ⟨#[]⟩]] w fun e w' => e = .returned (.agg #[.int .u8 3, .int .i64 0, .string ⟨#[]⟩]) ∧ Below w.heap.size w w' := by
  have HS := Lib.hid (conti_start w 0 0 ⟨#[]⟩)
  go_enter Tryd.func77, Tryd.ntmps77
  go_wp2_with fail
  generalize (w.alloc (.cells #[.int .u8 0, .int .i64 0, .string ⟨#[]⟩] 92)).alloc (.cells #[.int .u8 0, .int .i64 0, .string ⟨#[]⟩] 29) = wa at *
  obtain ⟨hC, hX0, hB0⟩ := HS.out
  obtain ⟨c0, c1, c2⟩ := hC.cells
  have HC := Lib.hid hC
  have HX := Lib.hid hX0
  have HBB := Lib.hid hB0
  clear HS hC hX0 hB0
  refine wp_region_seqi (fun X => Below wa.heap.size wa X) (fun W W2 hB h => Below.next h hB) (by kernel_rfl) (by kernel_rfl) (by kernel_rfl) (Below.refl _ _).drew ?_
  simp only [putsL, Act.put, List.setIfInBounds_toArray, List.set_cons_zero, List.set_cons_succ, Nat.zero_add, Nat.reduceAdd]
  refine seqi_run ?_ (fun vs W hD => (by first | rfl | (simp at hD; simp [Region.wanted, yielded, hD]))) (fun vs W hS hD => ?_) ?_
  rotate_left
  · obtain _ := hS; (try simp at hD); (try simp only [hD]); (first | (go_simp; done) | (go_simp; rfl))
  simp only [List.nil_append]
  refine seqi_run ?_ (fun vs W hD => (by first | rfl | (simp at hD; simp [Region.wanted, yielded, hD]))) (fun vs W hS hD => ?_) ?_
  rotate_left
  · obtain ⟨c0, c1, c2⟩ := (HC.out.later hS).cells; obtain _ := hS; (try simp at hD); (try simp only [hD]); (first | (go_simp; done) | (go_simp; rfl))
  simp only [List.nil_append, List.cons_append]
  refine seqi_call (f := 24) (fun v _ => v = (.agg #[.int .u8 2, .int .i64 1, .string ⟨#[]⟩])) (stable_val _) (fun vs => #[.bool true]) (fun vs W hD => (by first | rfl | (simp at hD; simp [Region.wanted, yielded, hD]))) (fun vs W hS hD => ?_) (fun vs W hS hD => ?_) ?_
  · obtain _ := hS; (try simp at hD); (try simp only [hD]); go_simp; done
  · exact (truth_any true W).mono fun e W' ⟨he, hB⟩ => ⟨⟨_, he, rfl⟩, hB⟩
  simp only [List.nil_append, List.cons_append]
  refine seqi_run ?_ (fun vs W hD => (by first | rfl | (simp at hD; simp [Region.wanted, yielded, hD]))) (fun vs W hS hD => ?_) ?_
  rotate_left
  · obtain _ := hS; (try simp at hD); (try simp only [hD]); (first | (go_simp; done) | (go_simp; rfl))
  simp only [List.nil_append, List.cons_append]
  refine seqi_run ?_ (fun vs W hD => (by first | rfl | (simp at hD; simp [Region.wanted, yielded, hD]))) (fun vs W hS hD => ?_) ?_
  rotate_left
  · obtain _ := hS; (try simp at hD); (try simp only [hD]); (first | (go_simp; done) | (go_simp; rfl))
  simp only [List.nil_append, List.cons_append]
  refine seqi_end fun vs W0 hS hv => ?_
  simp only [AllF, Nat.zero_add, Nat.reduceAdd] at hv
  obtain ⟨h0, h1, h2, h3, h4, _⟩ := hv
  replace HC := Lib.hid (HC.out.later hS)
  replace HX := Lib.hid (HX.out.later hS)
  replace HBB := Lib.hid (vnext HBB.out hS)
  simp only [h0, h1, h2, h3, h4]
  clear h0 h1 h2 h3 h4 hS c0 c1 c2
  go_wp2_with fail
  refine wp_region_seqi (fun X => Below W0.heap.size W0 X) (fun W W2 hB h => Below.next h hB) (by kernel_rfl) (by kernel_rfl) (by kernel_rfl) (Below.refl _ _).drew ?_
  simp only [putsL, Act.put, List.setIfInBounds_toArray, List.set_cons_zero, List.set_cons_succ, Nat.zero_add, Nat.reduceAdd]
  refine seqi_run ?_ (fun vs W hD => (by first | rfl | (simp at hD; simp [Region.wanted, yielded, hD]))) (fun vs W hS hD => ?_) ?_
  rotate_left
  · obtain _ := hS; (try simp at hD); (try simp only [hD]); (first | (go_simp; done) | (go_simp; rfl))
  simp only [List.nil_append]
  refine seqi_run ?_ (fun vs W hD => (by first | rfl | (simp at hD; simp [Region.wanted, yielded, hD]))) (fun vs W hS hD => ?_) ?_
  rotate_left
  · obtain ⟨c0, c1, c2⟩ := (HC.out.later hS).cells; obtain _ := hS; (try simp at hD); (try simp only [hD]); (first | (go_simp; done) | (go_simp; rfl))
  simp only [List.nil_append, List.cons_append]
  refine seqi_call (f := 24) (fun v _ => v = (.agg #[.int .u8 2, .int .i64 0, .string ⟨#[]⟩])) (stable_val _) (fun vs => #[.bool false]) (fun vs W hD => (by first | rfl | (simp at hD; simp [Region.wanted, yielded, hD]))) (fun vs W hS hD => ?_) (fun vs W hS hD => ?_) ?_
  · obtain _ := hS; (try simp at hD); (try simp only [hD]); go_simp; done
  · exact (truth_any false W).mono fun e W' ⟨he, hB⟩ => ⟨⟨_, he, rfl⟩, hB⟩
  simp only [List.nil_append, List.cons_append]
  refine seqi_run ?_ (fun vs W hD => (by first | rfl | (simp at hD; simp [Region.wanted, yielded, hD]))) (fun vs W hS hD => ?_) ?_
  rotate_left
  · obtain _ := hS; (try simp at hD); (try simp only [hD]); (first | (go_simp; done) | (go_simp; rfl))
  simp only [List.nil_append, List.cons_append]
  refine seqi_run ?_ (fun vs W hD => (by first | rfl | (simp at hD; simp [Region.wanted, yielded, hD]))) (fun vs W hS hD => ?_) ?_
  rotate_left
  · obtain _ := hS; (try simp at hD); (try simp only [hD]); (first | (go_simp; done) | (go_simp; rfl))
  simp only [List.nil_append, List.cons_append]
  refine seqi_end fun vs W1 hS hv => ?_
  simp only [AllF, Nat.zero_add, Nat.reduceAdd] at hv
  obtain ⟨h0, h1, h2, h3, h4, _⟩ := hv
  replace HC := Lib.hid (HC.out.later hS)
  replace HX := Lib.hid (HX.out.later hS)
  replace HBB := Lib.hid (vnext HBB.out hS)
  simp only [h0, h1, h2, h3, h4]
  clear h0 h1 h2 h3 h4 hS
  have hX := HX.out
  obtain ⟨x0, x1, x2, z0, z1, z2⟩ := hX.cells
  have hXl := hX.lt
  have HBW := HBB
  have hq : B3 (((W1.setCell ⟨(w.heap.size + 1), 0, none⟩ (.int .u8 3)).setCell ⟨(w.heap.size + 1), 1, none⟩ (.int .i64 0)).setCell ⟨(w.heap.size + 1), 2, none⟩ (.string ⟨#[]⟩)) (w.heap.size + 1) 3 0 ⟨#[]⟩ ∧ W1.grownBy (((W1.setCell ⟨(w.heap.size + 1), 0, none⟩ (.int .u8 3)).setCell ⟨(w.heap.size + 1), 1, none⟩ (.int .i64 0)).setCell ⟨(w.heap.size + 1), 2, none⟩ (.string ⟨#[]⟩)) (some ((w.heap.size + 1))) := hX.set 3 0 ⟨#[]⟩
  have hb5 := HBW.out.grown hq.2 HBW.out.size (fun q hq => by injection hq with hq; omega)
  obtain ⟨hq, _⟩ := hq
  go_wp2_with fail
  generalize ((W1.setCell ⟨(w.heap.size + 1), 0, none⟩ (.int .u8 3)).setCell ⟨(w.heap.size + 1), 1, none⟩ (.int .i64 0)).setCell ⟨(w.heap.size + 1), 2, none⟩ (.string ⟨#[]⟩) = w5 at *
  obtain ⟨y0, y1, y2, _, _, _⟩ := hq.cells
  refine bodyPost_ret (v := .agg #[.int .u8 3, .int .i64 0, .string ⟨#[]⟩]) (by simp [results, Tryd.results77, go_sem, y0, y1, y2]) rfl ⟨rfl, hb5⟩
set_option maxRecDepth 100000 in
set_option maxHeartbeats 1600000 in
theorem text_m_t (w : World) : Calls Tryd.prog 77 #[.agg #[.int .u8 2, .int .i64 1, .string ⟨#[]⟩]] w fun e w' => e = .returned (.agg #[.int .u8 3, .int .i64 0, .string ⟨#[84, 82, 85, 69]⟩]) ∧ Below w.heap.size w w' := by
  have HS := Lib.hid (conti_start w 2 1 ⟨#[]⟩)
  go_enter Tryd.func77, Tryd.ntmps77
  go_wp2_with fail
  generalize (w.alloc (.cells #[.int .u8 2, .int .i64 1, .string ⟨#[]⟩] 92)).alloc (.cells #[.int .u8 0, .int .i64 0, .string ⟨#[]⟩] 29) = wa at *
  obtain ⟨hC, hX0, hB0⟩ := HS.out
  obtain ⟨c0, c1, c2⟩ := hC.cells
  have HC := Lib.hid hC
  have HX := Lib.hid hX0
  have HBB := Lib.hid hB0
  clear HS hC hX0 hB0
  refine wp_region_seqi (fun X => Below wa.heap.size wa X) (fun W W2 hB h => Below.next h hB) (by kernel_rfl) (by kernel_rfl) (by kernel_rfl) (Below.refl _ _).drew ?_
  simp only [putsL, Act.put, List.setIfInBounds_toArray, List.set_cons_zero, List.set_cons_succ, Nat.zero_add, Nat.reduceAdd]
  refine seqi_run ?_ (fun vs W hD => (by first | rfl | (simp at hD; simp [Region.wanted, yielded, hD]))) (fun vs W hS hD => ?_) ?_
  rotate_left
  · obtain _ := hS; (try simp at hD); (try simp only [hD]); (first | (go_simp; done) | (go_simp; rfl))
  simp only [List.nil_append]
  refine seqi_run ?_ (fun vs W hD => (by first | rfl | (simp at hD; simp [Region.wanted, yielded, hD]))) (fun vs W hS hD => ?_) ?_
  rotate_left
  · obtain ⟨c0, c1, c2⟩ := (HC.out.later hS).cells; obtain _ := hS; (try simp at hD); (try simp only [hD]); (first | (go_simp; done) | (go_simp; rfl))
  simp only [List.nil_append, List.cons_append]
  refine seqi_call (f := 24) (fun v _ => v = (.agg #[.int .u8 2, .int .i64 1, .string ⟨#[]⟩])) (stable_val _) (fun vs => #[.bool true]) (fun vs W hD => (by first | rfl | (simp at hD; simp [Region.wanted, yielded, hD]))) (fun vs W hS hD => ?_) (fun vs W hS hD => ?_) ?_
  · obtain _ := hS; (try simp at hD); (try simp only [hD]); go_simp; done
  · exact (truth_any true W).mono fun e W' ⟨he, hB⟩ => ⟨⟨_, he, rfl⟩, hB⟩
  simp only [List.nil_append, List.cons_append]
  refine seqi_run ?_ (fun vs W hD => (by first | rfl | (simp at hD; simp [Region.wanted, yielded, hD]))) (fun vs W hS hD => ?_) ?_
  rotate_left
  · obtain _ := hS; (try simp at hD); (try simp only [hD]); (first | (go_simp; done) | (go_simp; rfl))
  simp only [List.nil_append, List.cons_append]
  refine seqi_run ?_ (fun vs W hD => (by first | rfl | (simp at hD; simp [Region.wanted, yielded, hD]))) (fun vs W hS hD => ?_) ?_
  rotate_left
  · obtain _ := hS; (try simp at hD); (try simp only [hD]); (first | (go_simp; done) | (go_simp; rfl))
  simp only [List.nil_append, List.cons_append]
  refine seqi_end fun vs W0 hS hv => ?_
  simp only [AllF, Nat.zero_add, Nat.reduceAdd] at hv
  obtain ⟨h0, h1, h2, h3, h4, _⟩ := hv
  replace HC := Lib.hid (HC.out.later hS)
  replace HX := Lib.hid (HX.out.later hS)
  replace HBB := Lib.hid (vnext HBB.out hS)
  simp only [h0, h1, h2, h3, h4]
  clear h0 h1 h2 h3 h4 hS c0 c1 c2
  have hX := HX.out
  obtain ⟨x0, x1, x2, z0, z1, z2⟩ := hX.cells
  have hXl := hX.lt
  have HBW := HBB
  have hq : B3 (((W0.setCell ⟨(w.heap.size + 1), 0, none⟩ (.int .u8 3)).setCell ⟨(w.heap.size + 1), 1, none⟩ (.int .i64 0)).setCell ⟨(w.heap.size + 1), 2, none⟩ (.string ⟨#[84, 82, 85, 69]⟩)) (w.heap.size + 1) 3 0 ⟨#[84, 82, 85, 69]⟩ ∧ W0.grownBy (((W0.setCell ⟨(w.heap.size + 1), 0, none⟩ (.int .u8 3)).setCell ⟨(w.heap.size + 1), 1, none⟩ (.int .i64 0)).setCell ⟨(w.heap.size + 1), 2, none⟩ (.string ⟨#[84, 82, 85, 69]⟩)) (some ((w.heap.size + 1))) := hX.set 3 0 ⟨#[84, 82, 85, 69]⟩
  have hb5 := HBW.out.grown hq.2 HBW.out.size (fun q hq => by injection hq with hq; omega)
  obtain ⟨hq, _⟩ := hq
  go_wp2_with fail
  generalize ((W0.setCell ⟨(w.heap.size + 1), 0, none⟩ (.int .u8 3)).setCell ⟨(w.heap.size + 1), 1, none⟩ (.int .i64 0)).setCell ⟨(w.heap.size + 1), 2, none⟩ (.string ⟨#[84, 82, 85, 69]⟩) = w5 at *
  obtain ⟨y0, y1, y2, _, _, _⟩ := hq.cells
  refine bodyPost_ret (v := .agg #[.int .u8 3, .int .i64 0, .string ⟨#[84, 82, 85, 69]⟩]) (by simp [results, Tryd.results77, go_sem, y0, y1, y2]) rfl ⟨rfl, hb5⟩
set_option maxRecDepth 100000 in
set_option maxHeartbeats 1600000 in
theorem text_m_f (w : World) : Calls Tryd.prog 77 #[.agg #[.int .u8 2, .int .i64 0, .string ⟨#[]⟩]] w fun e w' => e = .returned (.agg #[.int .u8 3, .int .i64 0, .string ⟨#[70, 65, 76, 83, 69]⟩]) ∧ Below w.heap.size w w' := by
  have HS := Lib.hid (conti_start w 2 0 ⟨#[]⟩)
  go_enter Tryd.func77, Tryd.ntmps77
  go_wp2_with fail
  generalize (w.alloc (.cells #[.int .u8 2, .int .i64 0, .string ⟨#[]⟩] 92)).alloc (.cells #[.int .u8 0, .int .i64 0, .string ⟨#[]⟩] 29) = wa at *
  obtain ⟨hC, hX0, hB0⟩ := HS.out
  obtain ⟨c0, c1, c2⟩ := hC.cells
  have HC := Lib.hid hC
  have HX := Lib.hid hX0
  have HBB := Lib.hid hB0
  clear HS hC hX0 hB0
  refine wp_region_seqi (fun X => Below wa.heap.size wa X) (fun W W2 hB h => Below.next h hB) (by kernel_rfl) (by kernel_rfl) (by kernel_rfl) (Below.refl _ _).drew ?_
  simp only [putsL, Act.put, List.setIfInBounds_toArray, List.set_cons_zero, List.set_cons_succ, Nat.zero_add, Nat.reduceAdd]
  refine seqi_run ?_ (fun vs W hD => (by first | rfl | (simp at hD; simp [Region.wanted, yielded, hD]))) (fun vs W hS hD => ?_) ?_
  rotate_left
  · obtain _ := hS; (try simp at hD); (try simp only [hD]); (first | (go_simp; done) | (go_simp; rfl))
  simp only [List.nil_append]
  refine seqi_run ?_ (fun vs W hD => (by first | rfl | (simp at hD; simp [Region.wanted, yielded, hD]))) (fun vs W hS hD => ?_) ?_
  rotate_left
  · obtain ⟨c0, c1, c2⟩ := (HC.out.later hS).cells; obtain _ := hS; (try simp at hD); (try simp only [hD]); (first | (go_simp; done) | (go_simp; rfl))
  simp only [List.nil_append, List.cons_append]
  refine seqi_call (f := 24) (fun v _ => v = (.agg #[.int .u8 2, .int .i64 1, .string ⟨#[]⟩])) (stable_val _) (fun vs => #[.bool true]) (fun vs W hD => (by first | rfl | (simp at hD; simp [Region.wanted, yielded, hD]))) (fun vs W hS hD => ?_) (fun vs W hS hD => ?_) ?_
  · obtain _ := hS; (try simp at hD); (try simp only [hD]); go_simp; done
  · exact (truth_any true W).mono fun e W' ⟨he, hB⟩ => ⟨⟨_, he, rfl⟩, hB⟩
  simp only [List.nil_append, List.cons_append]
  refine seqi_run ?_ (fun vs W hD => (by first | rfl | (simp at hD; simp [Region.wanted, yielded, hD]))) (fun vs W hS hD => ?_) ?_
  rotate_left
  · obtain _ := hS; (try simp at hD); (try simp only [hD]); (first | (go_simp; done) | (go_simp; rfl))
  simp only [List.nil_append, List.cons_append]
  refine seqi_run ?_ (fun vs W hD => (by first | rfl | (simp at hD; simp [Region.wanted, yielded, hD]))) (fun vs W hS hD => ?_) ?_
  rotate_left
  · obtain _ := hS; (try simp at hD); (try simp only [hD]); (first | (go_simp; done) | (go_simp; rfl))
  simp only [List.nil_append, List.cons_append]
  refine seqi_end fun vs W0 hS hv => ?_
  simp only [AllF, Nat.zero_add, Nat.reduceAdd] at hv
  obtain ⟨h0, h1, h2, h3, h4, _⟩ := hv
  replace HC := Lib.hid (HC.out.later hS)
  replace HX := Lib.hid (HX.out.later hS)
  replace HBB := Lib.hid (vnext HBB.out hS)
  simp only [h0, h1, h2, h3, h4]
  clear h0 h1 h2 h3 h4 hS c0 c1 c2
  go_wp2_with fail
  refine wp_region_seqi (fun X => Below W0.heap.size W0 X) (fun W W2 hB h => Below.next h hB) (by kernel_rfl) (by kernel_rfl) (by kernel_rfl) (Below.refl _ _).drew ?_
  simp only [putsL, Act.put, List.setIfInBounds_toArray, List.set_cons_zero, List.set_cons_succ, Nat.zero_add, Nat.reduceAdd]
  refine seqi_run ?_ (fun vs W hD => (by first | rfl | (simp at hD; simp [Region.wanted, yielded, hD]))) (fun vs W hS hD => ?_) ?_
  rotate_left
  · obtain _ := hS; (try simp at hD); (try simp only [hD]); (first | (go_simp; done) | (go_simp; rfl))
  simp only [List.nil_append]
  refine seqi_run ?_ (fun vs W hD => (by first | rfl | (simp at hD; simp [Region.wanted, yielded, hD]))) (fun vs W hS hD => ?_) ?_
  rotate_left
  · obtain ⟨c0, c1, c2⟩ := (HC.out.later hS).cells; obtain _ := hS; (try simp at hD); (try simp only [hD]); (first | (go_simp; done) | (go_simp; rfl))
  simp only [List.nil_append, List.cons_append]
  refine seqi_call (f := 24) (fun v _ => v = (.agg #[.int .u8 2, .int .i64 0, .string ⟨#[]⟩])) (stable_val _) (fun vs => #[.bool false]) (fun vs W hD => (by first | rfl | (simp at hD; simp [Region.wanted, yielded, hD]))) (fun vs W hS hD => ?_) (fun vs W hS hD => ?_) ?_
  · obtain _ := hS; (try simp at hD); (try simp only [hD]); go_simp; done
  · exact (truth_any false W).mono fun e W' ⟨he, hB⟩ => ⟨⟨_, he, rfl⟩, hB⟩
  simp only [List.nil_append, List.cons_append]
  refine seqi_run ?_ (fun vs W hD => (by first | rfl | (simp at hD; simp [Region.wanted, yielded, hD]))) (fun vs W hS hD => ?_) ?_
  rotate_left
  · obtain _ := hS; (try simp at hD); (try simp only [hD]); (first | (go_simp; done) | (go_simp; rfl))
  simp only [List.nil_append, List.cons_append]
  refine seqi_run ?_ (fun vs W hD => (by first | rfl | (simp at hD; simp [Region.wanted, yielded, hD]))) (fun vs W hS hD => ?_) ?_
  rotate_left
  · obtain _ := hS; (try simp at hD); (try simp only [hD]); (first | (go_simp; done) | (go_simp; rfl))
  simp only [List.nil_append, List.cons_append]
  refine seqi_end fun vs W1 hS hv => ?_
  simp only [AllF, Nat.zero_add, Nat.reduceAdd] at hv
  obtain ⟨h0, h1, h2, h3, h4, _⟩ := hv
  replace HC := Lib.hid (HC.out.later hS)
  replace HX := Lib.hid (HX.out.later hS)
  replace HBB := Lib.hid (vnext HBB.out hS)
  simp only [h0, h1, h2, h3, h4]
  clear h0 h1 h2 h3 h4 hS
  have hX := HX.out
  obtain ⟨x0, x1, x2, z0, z1, z2⟩ := hX.cells
  have hXl := hX.lt
  have HBW := HBB
  have hq : B3 (((W1.setCell ⟨(w.heap.size + 1), 0, none⟩ (.int .u8 3)).setCell ⟨(w.heap.size + 1), 1, none⟩ (.int .i64 0)).setCell ⟨(w.heap.size + 1), 2, none⟩ (.string ⟨#[70, 65, 76, 83, 69]⟩)) (w.heap.size + 1) 3 0 ⟨#[70, 65, 76, 83, 69]⟩ ∧ W1.grownBy (((W1.setCell ⟨(w.heap.size + 1), 0, none⟩ (.int .u8 3)).setCell ⟨(w.heap.size + 1), 1, none⟩ (.int .i64 0)).setCell ⟨(w.heap.size + 1), 2, none⟩ (.string ⟨#[70, 65, 76, 83, 69]⟩)) (some ((w.heap.size + 1))) := hX.set 3 0 ⟨#[70, 65, 76, 83, 69]⟩
  have hb5 := HBW.out.grown hq.2 HBW.out.size (fun q hq => by injection hq with hq; omega)
  obtain ⟨hq, _⟩ := hq
  go_wp2_with fail
  generalize ((W1.setCell ⟨(w.heap.size + 1), 0, none⟩ (.int .u8 3)).setCell ⟨(w.heap.size + 1), 1, none⟩ (.int .i64 0)).setCell ⟨(w.heap.size + 1), 2, none⟩ (.string ⟨#[70, 65, 76, 83, 69]⟩) = w5 at *
  obtain ⟨y0, y1, y2, _, _, _⟩ := hq.cells
  refine bodyPost_ret (v := .agg #[.int .u8 3, .int .i64 0, .string ⟨#[70, 65, 76, 83, 69]⟩]) (by simp [results, Tryd.results77, go_sem, y0, y1, y2]) rfl ⟨rfl, hb5⟩
end Go.Proofs.YteoepgdfhllffaaDoor.Va
