/- The walk of the law. -/
import Derived.Test.YtelnffamkkkpaaaGrpS
import Derived.Test.YtelnffamkkkpaaaSeqI
import Derived.BigRegion
import Derived.DataShut
namespace Go.Proofs.Ytelnffamkkkpaaa
open Go.RowKit Go.Shelf
theorem members_any (x : W64) (w : World) : Calls Try.prog 17 #[.int .u64 (x.toNat : Int)] w fun e W' => ∃ v, e = .returned v ∧ OwnI w.heap.size W' v (usr x) ∧ Below w.heap.size w W' :=
  callsIn_wide.1 (members_in x w)
theorem IsI.later {w w' : World} {a : Option Addr} {n : Nat} {L : List Nat} (h : IsI w a n L) (hB : Below w.heap.size w w') : IsI w' a n L := by
  refine ⟨h.1, fun h0 => ?_⟩
  obtain ⟨x, rfl, hx, hc⟩ := h.2 h0
  have hz := hB.size
  refine ⟨x, rfl, by omega, fun i u hu => ?_⟩
  rw [hB.cell (p := x.add i) (by unfold Addr.add; split <;> exact hx)]
  exact hc i u hu
theorem IsU.later {w w' : World} {a : Option Addr} {len : Nat} {L : List W64} (h : IsU w a len L) (hB : Below w.heap.size w w') : IsU w' a len L := by
  refine ⟨h.1, fun h0 => ?_⟩
  obtain ⟨x, hx, hb, hc⟩ := h.2 h0
  refine ⟨x, hx, Nat.lt_of_lt_of_le hb hB.size, fun i hi => ?_⟩
  have : (x.add i).block = x.block := by unfold Addr.add; split <;> rfl
  rw [hB.cell (by rw [this]; exact hb)]
  exact hc i hi
/-- A value that is a list of users. -/
def ListI (l : List Nat) : Fact := fun v W => ∃ a cap, v = .slice a l.length cap ∧ IsI W a l.length l
theorem listI_stable (l : List Nat) : Stable (ListI l) := fun _ _ _ hB ⟨a, cap, h1, h2⟩ => ⟨a, cap, h1, h2.later hB⟩
theorem drewN_below {B : Nat} {a w : World} (h : Below B a w) (n : Nat) : Below B a (w.drewN n) := ⟨h.os, h.tape, h.output, h.size, h.block⟩
set_option maxHeartbeats 1600000 in
theorem eqints_any (a a' : Option Addr) (n cap cap' : Nat) (l : List Nat) (hl : n ≤ 1000000) (w : World) (h1 : IsI w a n l) (h2 : IsI w a' n l) :
    Calls Try.prog 16 #[.slice a n cap, .slice a' n cap'] w fun e w' => e = .returned (.bool true) ∧ Below w.heap.size w w' := by
  have H1 := Lib.hid h1
  have H2 := Lib.hid h2
  clear h1 h2
  go_enter Try.func16, Try.ntmps16
  go_wp2_with fail
  go_loopw [5] (fun i wr => ∃ k : Nat, k ≤ n ∧ i = .int .i64 k ∧ Below w.heap.size w wr) (fun i _ => n - (intOf i).toNat)
  case atStart => exact ⟨0, Nat.zero_le _, rfl, Below.refl _ _⟩
  case round =>
    obtain ⟨k, hk, rfl, hB⟩ := hrel
    have HB := Lib.hid hB
    clear hB
    by_cases hlt : k < n
    · obtain ⟨x, rfl, _, hr⟩ := (H1.out.later HB.out).2 (by omega)
      obtain ⟨x', rfl, _, hr'⟩ := (H2.out.later HB.out).2 (by omega)
      have hkl : k < l.length := by rw [H1.out.1]; exact hlt
      have c1 := hr k _ (List.getElem?_eq_getElem hkl)
      have d1 := hr' k _ (List.getElem?_eq_getElem hkl)
      clear hr hr'
      generalize l[k] = r at *
      go_wp2_with fail
      go_quiet (fail)
      go_wp2_with fail
      go_roundw
      case rel => exact ⟨k + 1, by omega, by go_num, drewN_below HB.out _⟩
      case measure => simp [intOf]; omega
    · go_wp2_with fail
      go_ret
      exact ⟨rfl, HB.out⟩
def alS (n : Int) : Int := if 0 ≤ n ∧ n ≤ 64 then ((allW n.toNat).toNat : Int) else 0
def alE (n : Int) : Int := if 0 ≤ n ∧ n ≤ 64 then 0 else 3
theorem sall_any (n : Int) (w : World) : Calls Try.prog 13 #[.int .i64 n] w fun e w' => e = .returned (.tuple #[.int .u64 (alS n), .int .i64 (alE n)]) ∧ w = w' := by
  by_cases h : 0 ≤ n ∧ n ≤ 64
  · obtain ⟨k, rfl⟩ : ∃ k : Nat, n = k := ⟨n.toNat, by omega⟩
    unfold alS alE
    rw [if_pos h, if_pos h, Int.toNat_natCast]
    exact sall_in k (by omega) w
  · unfold alS alE
    rw [if_neg h, if_neg h]
    exact sall_out n (by omega) w
theorem all_any (n : Int) (w : World) : Calls Try.prog 12 #[.int .i64 n] w fun e w' => e = .returned (.tuple #[.int .u64 (alS n), .int .i64 (alE n)]) ∧ w = w' := by
  by_cases h : 0 ≤ n ∧ n ≤ 64
  · obtain ⟨k, rfl⟩ : ∃ k : Nat, n = k := ⟨n.toNat, by omega⟩
    unfold alS alE
    rw [if_pos h, if_pos h, Int.toNat_natCast]
    by_cases e : k = 64
    · subst e; exact all_64 w
    · exact all_in k (by omega) w
  · unfold alS alE
    rw [if_neg h, if_neg h]
    exact all_out n (by omega) w
set_option maxRecDepth 100000 in
set_option maxHeartbeats 3200000 in
theorem groupSets_any (a : Option Addr) (len cap : Nat) (Z : List Int) (n : Int) (a' : Option Addr) (len' cap' : Nat) (L : List W64) (w : World) (hm : len ≤ maxLen) (hZ : IsZ w a len Z) (hm' : len' ≤ maxLen) (hL : IsU w a' len' L) :
    Calls Try.prog 3 #[.slice a len cap, .int .i64 n, .slice a' len' cap'] w fun e w' => e = .returned (.bool true) ∧ Below w.heap.size w w' := by
  have HM := Lib.hid hm
  have HM' := Lib.hid hm'
  have HZ := Lib.hid hZ
  have HL := Lib.hid hL
  clear hZ hL
  unfold maxLen at hm hm'
  by_cases h : 200 < len
  · go_enter Try.func3, Try.ntmps3
    go_wp2_with fail
    go_ret
    exact ⟨rfl, Below.refl _ _⟩
  by_cases h' : 100 < len'
  · go_enter Try.func3, Try.ntmps3
    go_wp2_with fail
    go_ret
    exact ⟨rfl, Below.refl _ _⟩
  go_enter Try.func3, Try.ntmps3
  go_wp2_with fail
  refine (ofz_any a len cap Z _ HM.out HZ.out).mono ?_
  rintro e w' ⟨rfl, rfl⟩
  go_wp2_with fail
  refine (sofz_any a len cap Z _ HM.out HZ.out).mono ?_
  rintro e w' ⟨rfl, rfl⟩
  go_wp2_with fail
  refine (all_any n _).mono ?_
  rintro e w' ⟨rfl, rfl⟩
  go_wp2_with fail
  refine (sall_any n _).mono ?_
  rintro e w' ⟨rfl, rfl⟩
  go_wp2_with fail
  refine (meet_any a' len' cap' L _ HM'.out HL.out).mono ?_
  rintro e w' ⟨rfl, rfl⟩
  go_wp2_with fail
  refine (smeet_any a' len' cap' L _ HM'.out HL.out).mono ?_
  rintro e w' ⟨rfl, rfl⟩
  go_wp2_with fail
  go_loopw [15] (fun i wr => ∃ k : Nat, k ≤ len' ∧ i = .int .i64 k ∧ Below w.heap.size w wr) (fun i _ => len' - (intOf i).toNat)
  case atStart => exact ⟨0, Nat.zero_le _, rfl, Below.refl _ _⟩
  case round =>
    obtain ⟨k, hk, rfl, hB⟩ := hrel
    have HB := Lib.hid hB
    clear hB
    by_cases hlt : k < len'
    · obtain ⟨x, rfl, hx, hcell⟩ := HL.out.2 (by omega)
      have hkL : k < L.length := by rw [HL.out.1]; exact hlt
      have hxb : (x.add k).block < w.heap.size := by unfold Addr.add; split <;> exact hx
      have c0 := hcell k hkL
      have c1 : wr.cell? (x.add k) = some (.int .u64 (L[k].toNat : Int)) := by rw [HB.out.cell hxb]; exact c0
      clear hcell c0
      generalize L[k] = y at *
      go_wp2_with fail
      refine wp_region_seqi (fun X => Below w.heap.size w X ∧ X.cell? (x.add k) = some (.int .u64 (y.toNat : Int))) (fun W W' hB ⟨h1, h2⟩ => ⟨Below.next h1 hB, by rw [hB.cell (Nat.lt_of_lt_of_le hxb h1.size)]; exact h2⟩) (by kernel_rfl) (by kernel_rfl) (by kernel_rfl) ⟨HB.out.drew, c1⟩ ?_
      simp only [putsL, Act.put, List.setIfInBounds_toArray, List.set_cons_zero, List.set_cons_succ, Nat.zero_add, Nat.reduceAdd]
      repeat (first
        | (refine seqi_run ?_ (fun vs W hD => (by first | rfl | (simp [DepA, isB, rsAt] at hD; simp [Region.wanted, yielded, hD]))) (fun vs W hS hD => ?_) ?_
           rotate_left
           (obtain ⟨_, hc⟩ := hS; (try simp [DepA, isB, rsAt] at hD); (try simp only [hD]); (first | (go_simp; done) | (go_simp; rfl)))
           simp only [List.nil_append, List.cons_append])
        | (refine seqi_call (f := 17) (ListI (usr y)) (listI_stable _) (fun vs => #[.int .u64 (y.toNat : Int)]) (fun vs W hD => (by first | rfl | (simp [DepA, isB, rsAt] at hD; simp [Region.wanted, yielded, hD]))) (fun vs W hS hD => ?_) (fun vs W hS hD => ?_) ?_
           · (simp [DepA, isB, rsAt] at hD; (try simp only [hD]); go_simp; done)
           · (exact (members_any y W).mono fun e W' ⟨v, he, ho, hB⟩ => by obtain ⟨a, cap, rfl, hi⟩ := ho.isI; exact ⟨⟨_, he, a, cap, rfl, hi⟩, hB⟩)
           simp only [List.nil_append, List.cons_append])
        | (refine seqi_call (f := 18) (ListI (usr y)) (listI_stable _) (fun vs => #[.int .u64 (y.toNat : Int)]) (fun vs W hD => (by first | rfl | (simp [DepA, isB, rsAt] at hD; simp [Region.wanted, yielded, hD]))) (fun vs W hS hD => ?_) (fun vs W hS hD => ?_) ?_
           · (simp [DepA, isB, rsAt] at hD; (try simp only [hD]); go_simp; done)
           · (exact (smem_any y W).mono fun e W' ⟨v, he, ho, hB⟩ => by obtain ⟨a, cap, rfl, hi⟩ := ho.isI; exact ⟨⟨_, he, a, cap, rfl, hi⟩, hB⟩)
           simp only [List.nil_append, List.cons_append])
        | (refine seqi_call (f := 16) (fun v _ => v = .bool true) (stable_val _) (fun vs => #[vs 4, vs 9]) (fun vs W hD => (by first | rfl | (simp [DepA, isB, rsAt] at hD; simp [Region.wanted, yielded, hD]))) (fun vs W hS hD => ?_) (fun vs W hS hD => ?_) ?_
           · (simp [DepA, isB, rsAt] at hD; (try simp only [hD]); go_simp; done)
           · (simp [DepA, isB, rsAt] at hD; obtain ⟨⟨a4, c4, e4, i4⟩, a9, c9, e9, i9⟩ := hD; rw [e4, e9]; exact (eqints_any a4 a9 _ c4 c9 _ (by have := usr_len y; omega) W i4 i9).mono fun e W' ⟨he, hB⟩ => ⟨⟨_, he, rfl⟩, hB⟩)
           simp only [List.nil_append, List.cons_append])
        | (refine seqi_call (f := 19) (fun v _ => v = .bool (hasB y n)) (stable_val _) (fun vs => #[.int .u64 (y.toNat : Int), .int .i64 n]) (fun vs W hD => (by first | rfl | (simp [DepA, isB, rsAt] at hD; simp [Region.wanted, yielded, hD]))) (fun vs W hS hD => ?_) (fun vs W hS hD => ?_) ?_
           · (simp [DepA, isB, rsAt] at hD; (try simp only [hD]); go_simp; done)
           · (exact (has_any y n W).mono fun e W' ⟨he, hw⟩ => ⟨⟨_, he, rfl⟩, hw ▸ Below.refl _ _⟩)
           simp only [List.nil_append, List.cons_append])
        | (refine seqi_call (f := 20) (fun v _ => v = .bool (hasB y n)) (stable_val _) (fun vs => #[.int .u64 (y.toNat : Int), .int .i64 n]) (fun vs W hD => (by first | rfl | (simp [DepA, isB, rsAt] at hD; simp [Region.wanted, yielded, hD]))) (fun vs W hS hD => ?_) (fun vs W hS hD => ?_) ?_
           · (simp [DepA, isB, rsAt] at hD; (try simp only [hD]); go_simp; done)
           · (exact (shas_any y n W).mono fun e W' ⟨he, hw⟩ => ⟨⟨_, he, rfl⟩, hw ▸ Below.refl _ _⟩)
           simp only [List.nil_append, List.cons_append]))
      refine seqi_end fun vs W hS hv => ?_
      simp only [AllF, Nat.zero_add, Nat.reduceAdd] at hv
      obtain ⟨_, _, _, _, h4, _, _, _, _, h9, h10, h11, h12, _, _, _, _, _, h18, _, _, _, _, _, h24, h25, h26, _⟩ := hv
      have HB2 := Lib.hid hS.1
      clear hS h4 h9
      simp only [h10, h11, h12, h18, h24, h25, h26]
      go_wp2_with fail
      go_roundw
      case rel => exact ⟨k + 1, by omega, by go_num, HB2.out⟩
      case measure => simp [intOf]; omega
    · have hS9 : ofS [3, 0, 3] = 9 := by kernel_rfl
      have hE0 : ofE [3, 0, 3] = 0 := by kernel_rfl
      have HS9 := Lib.hid hS9
      have HE0 := Lib.hid hE0
      clear hS9 hE0
      go_wp2_with fail
      refine (ofz_any _ 3 3 [3, 0, 3] _ (by decide) ⟨rfl, fun _ => ⟨_, rfl, by simp, fun i u hu => ?_⟩⟩).mono ?_
      · match i, hu with
        | 0, hu => simp at hu; subst hu; simp [Addr.add]
        | 1, hu => simp at hu; subst hu; simp [Addr.add]
        | 2, hu => simp at hu; subst hu; simp [Addr.add]
      rw [HS9.out, HE0.out]
      rintro e w' ⟨rfl, rfl⟩
      go_wp2_with fail
      go_ret
      exact ⟨rfl, HB.out.alloc HB.out.size _⟩
theorem u64_wf {n : Int} (h : (Lit.int .u64 n).wf = true) : ((BitVec.ofInt 64 n).toNat : Int) = n := by
  rw [Lit.wf_int_iff] at h
  simp [IntKind.min, IntKind.max, IntKind.signed, IntKind.bits] at h
  rw [BitVec.toNat_ofInt]
  omega
def words (z : List Int) (n : Nat) : List W64 := (z.take n).map (BitVec.ofInt 64)
theorem words_came {a : Option Addr} {len cap : Nat} {z : List Int} {w : World}
    (h : (a = none ∧ len = 0 ∧ cap = 0 ∧ z = []) ∨ ∃ x, a = some x ∧ len ≤ cap ∧ cap ≤ maxLen ∧ z.length = cap ∧ (∀ i, i < z.length → w.cell? (x.add i) = some (.int .u64 (z.getD i 0))) ∧ ∀ n ∈ z, (Lit.int .u64 n).wf = true) :
    IsU w a len (words z len) ∧ len ≤ maxLen := by
  rcases h with ⟨rfl, rfl, rfl, rfl⟩ | ⟨x, rfl, h1, h2, h3, h4, h5⟩
  · exact ⟨⟨rfl, fun h => by omega⟩, by decide⟩
  · refine ⟨⟨by simp [words]; omega, fun h0 => ⟨x, rfl, ?_, fun i hi => ?_⟩⟩, by omega⟩
    · have := World.block_lt_of_cell? w _ (h4 0 (by omega))
      simpa [Addr.add] using this
    · have hi' : i < len := by simp [words] at hi; omega
      rw [h4 i (by omega)]
      have e : (words z len)[i] = BitVec.ofInt 64 (z[i]'(by omega)) := by simp [words]
      rw [e, u64_wf (h5 _ (List.getElem_mem _))]
      simp [List.getD, show i < z.length by omega]
theorem ints_came {a : Option Addr} {len cap : Nat} {z : List Int} {w : World}
    (h : (a = none ∧ len = 0 ∧ cap = 0 ∧ z = []) ∨ ∃ x, a = some x ∧ len ≤ cap ∧ cap ≤ maxLen ∧ z.length = cap ∧ (∀ i, i < z.length → w.cell? (x.add i) = some (.int .i64 (z.getD i 0))) ∧ ∀ n ∈ z, (Lit.int .i64 n).wf = true) :
    IsZ w a len (z.take len) ∧ len ≤ maxLen := by
  rcases h with ⟨rfl, rfl, rfl, rfl⟩ | ⟨x, rfl, h1, h2, h3, h4, h5⟩
  · exact ⟨⟨rfl, fun h => by omega⟩, by decide⟩
  · refine ⟨⟨by simp; omega, fun h0 => ⟨x, rfl, ?_, fun i u hu => ?_⟩⟩, by omega⟩
    · have := World.block_lt_of_cell? w _ (h4 0 (by omega))
      simpa [Addr.add] using this
    · have hi : i < len := by
        have := (List.getElem?_eq_some_iff.1 hu).1
        simp at this; omega
      rw [h4 i (by omega)]
      rw [List.getElem?_take_of_lt hi] at hu
      simp [List.getD, hu]
theorem groupSets_law (a : Option Addr) (len cap : Nat) (z : List Int) (n : Int) (a' : Option Addr) (len' cap' : Nat) (z' : List Int) (w : World)
    (h : (a = none ∧ len = 0 ∧ cap = 0 ∧ z = []) ∨ ∃ x, a = some x ∧ len ≤ cap ∧ cap ≤ maxLen ∧ z.length = cap ∧ (∀ i, i < z.length → w.cell? (x.add i) = some (.int .i64 (z.getD i 0))) ∧ ∀ n ∈ z, (Lit.int .i64 n).wf = true)
    (h' : (a' = none ∧ len' = 0 ∧ cap' = 0 ∧ z' = []) ∨ ∃ x, a' = some x ∧ len' ≤ cap' ∧ cap' ≤ maxLen ∧ z'.length = cap' ∧ (∀ i, i < z'.length → w.cell? (x.add i) = some (.int .u64 (z'.getD i 0))) ∧ ∀ n ∈ z', (Lit.int .u64 n).wf = true) :
    Calls Try.prog 3 #[.slice a len cap, .int .i64 n, .slice a' len' cap'] w fun e w' => e = .returned (.bool true) ∧ Below w.heap.size w w' := by
  obtain ⟨h1, h2⟩ := ints_came h
  obtain ⟨h3, h4⟩ := words_came h'
  exact groupSets_any a len cap _ n a' len' cap' _ w h2 h1 h4 h3
end Go.Proofs.Ytelnffamkkkpaaa
