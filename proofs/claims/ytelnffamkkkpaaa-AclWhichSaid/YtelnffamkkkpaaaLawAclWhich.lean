/- The walk of the law. -/
import Derived.Test.YtelnffamkkkpaaaAclD
import Derived.Test.YtelnffamkkkpaaaCame
import Derived.Deep.RegionLaw
namespace Go.Proofs.Ytelnffamkkkpaaa.Re
open Go.RowKit AM
/-- Rights in a block of their own. -/
def Box3 (w : World) (p : Nat) (x y z : Int) : Prop := p < w.heap.size ∧ w.cell? ⟨p, 0, none⟩ = some (.int .u64 x) ∧ w.cell? ⟨p, 1, none⟩ = some (.int .u64 y) ∧ w.cell? ⟨p, 2, none⟩ = some (.int .u64 z)
theorem Box3.later {w w' : World} {p : Nat} {x y z : Int} (h : Box3 w p x y z) (hB : Below w.heap.size w w') : Box3 w' p x y z := by
  obtain ⟨h0, h1, h2, h3⟩ := h
  have hc := (bcell hB).1
  exact ⟨Nat.lt_of_lt_of_le h0 hB.size, by rw [hc _ _ h0]; exact h1, by rw [hc _ _ h0]; exact h2, by rw [hc _ _ h0]; exact h3⟩
theorem Box3.start (w : World) (x y z : Int) (t : TypeId) : Box3 (w.alloc (.cells #[.int .u64 x, .int .u64 y, .int .u64 z] t)) w.heap.size x y z := ⟨by simp, by simp, by simp, by simp⟩
set_option maxHeartbeats 1600000 in
theorem whole_any (x5 x6 x7 : W64) (a : Option Addr) (len cap : Nat) (L : List RV) (hl : (1 + len) * 56 ≤ 140737488355328) (w : World) (hL : IsL w a len L) :
    Calls Try.prog 33 #[.agg #[.int .u64 (x5.toNat : Int), .int .u64 (x6.toNat : Int), .int .u64 (x7.toNat : Int)], .slice a len cap] w fun e w' => (∃ v, e = .returned v ∧ OwnL w.heap.size w' v (⟨1, 1, 1024, 1024, x5, x6, x7⟩ :: L)) ∧ Below w.heap.size w w' := by
  have HL := Lib.hid hL
  clear hL
  have HBX := Lib.hid (Box3.start w (x5.toNat : Int) (x6.toNat : Int) (x7.toNat : Int) 47)
  have HB0 := Lib.hid (below_alloc w (.cells #[.int .u64 (x5.toNat : Int), .int .u64 (x6.toNat : Int), .int .u64 (x7.toNat : Int)] 47))
  have HH := Lib.hid hl
  clear hl
  go_enter Try.func33, Try.ntmps33
  go_wp2_with fail
  generalize w.alloc (.cells #[.int .u64 (x5.toNat : Int), .int .u64 (x6.toNat : Int), .int .u64 (x7.toNat : Int)] 47) = w0 at *
  obtain ⟨_, t0, t1, t2⟩ := HBX.out
  go_region_law (first
    | (go_simp; refine (ssheet_any _).mono ?_; rintro e w1 ⟨rfl, hB1⟩; obtain ⟨_, t0, t1, t2⟩ := Box3.later (w := w0.drew) HBX.out hB1; have HB1 := Lib.hid (Below.next (w1 := w0.drew) HB0.out.drew hB1); clear hB1)
    | (refine step_appOf rfl (.tmp 8) (.tmp 9) 36 rfl Try.underlying36 _ 56 infoRule zero7 (by decide) (by decide) cells7_len cells7_one w.heap.size _ [⟨1, 1, 1024, 1024, x5, x6, x7⟩] rfl (OwnOf.one cells7_len _ HB1.out.size _) a len cap L rfl ((HL.out.later HB1.out).later (below_alloc _ _)) HH.out (by have := HB1.out.size; simp; omega) ?_; intro v' w2 ho hb2))
  all_goals
    have HO := Lib.hid ho
    have HB2 := Lib.hid ((HB1.out.alloc HB1.out.size _).trans hb2)
    clear ho hb2
    go_wp2_with fail
    go_ret
    exact ⟨⟨_, rfl, HO.out⟩, HB2.out⟩
theorem lastI_has (L : List RV) (p q : Int) (h00 : 0 < L.length) (h0 : hasR L[0] p q = true) : ∀ k, 0 < k → k ≤ L.length → ∃ h : lastI L p q k < L.length, hasR (L[lastI L p q k]) p q = true := by
  intro k
  induction k with
  | zero => intro h; omega
  | succ k ih =>
    intro _ hk
    cases hh : hasR (L[k]'(by omega)) p q
    · by_cases h : k = 0
      · subst h; rw [h0] at hh; cases hh
      · rw [lastI_f L p q k (by omega) hh]; exact ih (by omega) (by omega)
    · have e := lastI_t L p q k (by omega) hh
      simp only [e]
      exact ⟨by omega, hh⟩
theorem lastI_after (L : List RV) (p q : Int) : ∀ k, k ≤ L.length → ∀ j (hj : j < L.length), lastI L p q k < j → j < k → hasR L[j] p q = false := by
  intro k
  induction k with
  | zero => intro _ j _ _ h; omega
  | succ k ih =>
    intro hk j hj h1 h2
    cases hh : hasR (L[k]'(by omega)) p q
    · rw [lastI_f L p q k (by omega) hh] at h1
      by_cases e : j = k
      · subst e; exact hh
      · exact ih (by omega) j hj h1 (by omega)
    · rw [lastI_t L p q k (by omega) hh] at h1; omega
set_option maxRecDepth 100000 in
set_option maxHeartbeats 6400000 in
theorem aclWhich_any (x5 x6 x7 : W64) (a : Option Addr) (len cap : Nat) (L : List RV) (p q : Int) (w : World) (hm : len * 56 ≤ 140737488351232) (hL : IsL w a len L) :
    Calls Try.prog 9 #[.agg #[.int .u64 (x5.toNat : Int), .int .u64 (x6.toNat : Int), .int .u64 (x7.toNat : Int)], .slice a len cap, .agg #[.int .i64 p, .int .i64 q]] w fun e w' => e = .returned (.bool true) ∧ Below w.heap.size w w' := by
  have HL := Lib.hid hL
  have HLL := Lib.hid hL.1
  clear hL
  have HB0 := Lib.hid (((Below.refl w.heap.size w).alloc (Nat.le_refl _) (.cells #[.int .u64 (x5.toNat : Int), .int .u64 (x6.toNat : Int), .int .u64 (x7.toNat : Int)] 47)).alloc (by simp) (.cells #[.int .i64 p, .int .i64 q] 44))
  have HT0 := Lib.hid (Two'.start (w.alloc (.cells #[.int .u64 (x5.toNat : Int), .int .u64 (x6.toNat : Int), .int .u64 (x7.toNat : Int)] 47)) p q 44)
  rw [World.size_alloc] at HT0
  have HBX := Lib.hid ((Box3.start w (x5.toNat : Int) (x6.toNat : Int) (x7.toNat : Int) 47).later (below_alloc _ (.cells #[.int .i64 p, .int .i64 q] 44)))
  go_enter Try.func9, Try.ntmps9
  go_wp2_with fail
  generalize (w.alloc (.cells #[.int .u64 (x5.toNat : Int), .int .u64 (x6.toNat : Int), .int .u64 (x7.toNat : Int)] 47)).alloc (.cells #[.int .i64 p, .int .i64 q] 44) = w0 at *
  have hm2 : (1 + len) * 56 ≤ 140737488355328 := by omega
  refine (whole_any x5 x6 x7 a len cap L hm2 _ (HL.out.later HB0.out)).mono ?_
  rintro e w1 ⟨⟨v, rfl, ho⟩, hB1⟩
  obtain ⟨aa, acap, rfl, hi⟩ := ho.isOf cells7_len
  have HB1 := Lib.hid (Below.next HB0.out hB1)
  have HT1 := Lib.hid (HT0.out.later hB1)
  have HI1 := Lib.hid hi
  clear ho hi hB1 HT0 HBX
  have HAL : Hid ((⟨1, 1, 1024, 1024, x5, x6, x7⟩ :: L : List RV).length = len + 1) := by unfold Hid; rw [List.length_cons, HLL.out]
  have HS0 : Hid (okR p q = true → ∀ h, hasR ((⟨1, 1, 1024, 1024, x5, x6, x7⟩ :: L : List RV)[0]'h) p q = true) := by
    intro h _
    have := okR_i h
    exact rhB_t (by simp; omega)
  generalize (⟨1, 1, 1024, 1024, x5, x6, x7⟩ :: L : List RV) = A at *
  rw [HAL.out] at HI1 ⊢
  have HW1 : Hid (whE p q A = 0 → okR p q = true ∧ (rck 64 A).2 = 0) := by
    intro h
    unfold whE at h
    cases ho : okR p q
    · rw [ho] at h; simp at h
    · rw [ho] at h; exact ⟨rfl, by simpa using h⟩
  have HW2 : Hid (okR p q = true → (rck 64 A).2 = 0 → whI p q A = (lastI A p q A.length : Int) ∧ whE p q A = 0) := wh_ok
  have HW3 : Hid ((rck 64 A).2 = 0 → 0 < A.length ∧ A.length ≤ 64) := rck_len
  go_wp2_with fail
  refine (scheck_big 64 aa (len + 1) acap A _ HI1.out).mono ?_
  rintro e w2 ⟨rfl, hB2⟩
  have HB2 := Lib.hid (Below.next HB1.out hB2)
  have HT2 := Lib.hid (HT1.out.later hB2)
  have HI2 := Lib.hid (HI1.out.later hB2)
  clear hB2 HT1 HI1 HB1
  unfold ckV
  by_cases hc : (rck 64 A).2 = 0
  · have hl64 := HW3.out hc
    rw [HAL.out] at hl64
    have HC := Lib.hid hc
    generalize (rck 64 A).1 = c1 at *
    rw [hc]
    clear hc
    by_cases hl : 60 < len
    · go_wp2_with fail
      go_ret
      exact ⟨rfl, HB2.out⟩
    · obtain ⟨_, t1, t2⟩ := HT2.out
      go_wp2_with fail
      refine (saddress_any p q _).mono ?_
      rintro e w3 ⟨rfl, hB3⟩
      have HB3 := Lib.hid (Below.next HB2.out hB3)
      have HT3 := Lib.hid (HT2.out.later hB3)
      have HI3 := Lib.hid (HI2.out.later hB3)
      clear hB3 HT2 HI2 HB2 t1 t2
      cases hok : okR p q
      · clear hok HW1 HW2 HW3 HS0
        go_wp2_with fail
        go_ret
        exact ⟨rfl, HB3.out⟩
      · have HOK := Lib.hid hok
        clear hok
        obtain ⟨e1, e2⟩ := HW2.out HOK.out HC.out
        obtain ⟨h00, _⟩ := HW3.out HC.out
        have HHas := Lib.hid (lastI_has A p q h00 (HS0.out HOK.out h00) A.length h00 (Nat.le_refl _))
        have HAft := Lib.hid (lastI_after A p q A.length (Nat.le_refl _))
        clear HW1 HW2 HW3 HS0
        obtain ⟨_, t1, t2⟩ := HT3.out
        go_wp2_with fail
        refine (awhich_any p q aa (len + 1) acap A (by omega) _ HI3.out).mono ?_
        rw [e1, e2]
        clear e1 e2
        rintro e w4 ⟨rfl, hB4⟩
        have HB4 := Lib.hid (Below.next HB3.out hB4)
        have HT4 := Lib.hid (HT3.out.later hB4)
        have HI4 := Lib.hid (HI3.out.later hB4)
        clear hB4 HT3 HI3 HB3 t1 t2
        obtain ⟨hlt, hhas⟩ := HHas.out
        generalize lastI A p q A.length = i at *
        have hil : i < len + 1 := by have := HAL.out; omega
        obtain ⟨b, off, rfl, hr⟩ := HI4.out.2 (by omega)
        have c1 := Seven.quad hr.1 (RowOf.seven hr i hlt)
        have t1 := HT4.out
        have HHR := Lib.hid hhas
        clear hr hhas HHas
        unfold hasR at HHR
        generalize A[i] = r at *
        obtain ⟨x1, x2, x3, x4, x8, x9, x10⟩ := r
        dsimp only at *
        have hi0 : decide ((i : Int) < 0) = false := by simp
        have hi1 : decide ((len : Int) + 1 ≤ (i : Int)) = false := by simp; omega
        have hi2 : decide ((60 : Int) < (len : Int)) = false := by simp; omega
        have hi3 : ¬ (i : Int) < 0 := by omega
        have hi4 : ¬ (len : Int) + 1 ≤ (i : Int) := by omega
        go_wp2_with fail
        refine wp_region_seqi (fun X => Below w.heap.size w X ∧ Quad X b (off + i * 7) x1 x2 x3 x4 ∧ Two' X (w.heap.size + 1) p q ∧ IsL X (some ⟨b, off, none⟩) (len + 1) A) (fun W W' hB ⟨h1, h2, h3, h4⟩ => ⟨Below.next h1 hB, h2.later hB, h3.later hB, h4.later hB⟩) (by kernel_rfl) (by kernel_rfl) (by kernel_rfl) ⟨HB4.out.drew, c1.drew, t1, HI4.out⟩ ?_
        simp only [putsL, Act.put, List.setIfInBounds_toArray, List.set_cons_zero, List.set_cons_succ, Nat.zero_add, Nat.reduceAdd]
        repeat (first
          | (refine seqi_run ?_ (fun vs W hD => (by first | rfl | (simp [DepA, isB, rsAt] at hD; simp [Region.wanted, yielded, hD]))) (fun vs W hS hD => ?_) ?_
             rotate_left
             (obtain ⟨_, ⟨_, c1, c2, c3, c4⟩, ⟨_, t1, t2⟩, _⟩ := hS; (try simp [DepA, isB, rsAt] at hD); (try simp only [hD]); (first | (go_simp; done) | (go_simp; rfl)))
             simp only [List.nil_append, List.cons_append])
          | (refine seqi_call (f := 35) (fun v _ => v = .bool true) (stable_val _) (fun vs => #[.agg #[.int .i64 x1, .int .i64 x2, .int .i64 x3, .int .i64 x4], .agg #[.int .i64 p, .int .i64 q]]) (fun vs W hD => (by first | rfl | (simp [DepA, isB, rsAt] at hD; simp [Region.wanted, yielded, hD]))) (fun vs W hS hD => ?_) (fun vs W hS hD => ?_) ?_
             · (obtain _ := hS; (try simp [DepA, isB, rsAt] at hD); (try simp only [hD]); go_simp; done)
             · (exact (shas19_any x1 x2 x3 x4 p q W).mono fun e W' ⟨he, hB⟩ => ⟨⟨_, he.trans (by rw [HHR.out]), rfl⟩, hB⟩)
             simp only [List.nil_append, List.cons_append]))
        refine seqi_end fun vs W hS hv => ?_
        simp only [AllF, Nat.zero_add, Nat.reduceAdd] at hv
        have HBW := Lib.hid hS.1
        have HTW := Lib.hid hS.2.2.1
        have HIW := Lib.hid hS.2.2.2
        clear hS c1 t1 hi0 hi1 hi3 hi4
        obtain ⟨h0, h1, h2, h3, h4, h5, h6, h7, h8, h9, h10, h11, h12, h13, h14, h15, h16, h17, h18, h19, h20, h21, _⟩ := hv
        simp only [h0, h1, h2, h3, h4, h5, h6, h7, h8, h9, h10, h11, h12, h13, h14, h15, h16, h17, h18, h19, h20, h21]
        clear h0 h1 h2 h3 h4 h5 h6 h7 h8 h9 h10 h11 h12 h13 h14 h15 h16 h17 h18 h19 h20 h21
        go_wp2_with fail
        go_loopw [12] (fun j wr => ∃ k : Nat, i < k ∧ k ≤ len + 1 ∧ j = .int .i64 k ∧ Below w.heap.size w wr ∧ Two' wr (w.heap.size + 1) p q ∧ IsL wr (some ⟨b, off, none⟩) (len + 1) A) (fun j _ => len + 1 - (intOf j).toNat)
        case atStart => exact ⟨i + 1, by omega, by omega, by go_num, HBW.out, HTW.out, HIW.out⟩
        case round =>
          obtain ⟨k, hk0, hk, rfl, hB, hT, hI⟩ := hrel
          have HB := Lib.hid hB
          have HI := Lib.hid hI
          have t1 := hT
          clear hB hT hI HBW HTW HIW
          by_cases hlk : k < len + 1
          · have hkA : k < A.length := by rw [HAL.out]; exact hlk
            obtain ⟨b', off', hbo, hr⟩ := HI.out.2 (by omega)
            obtain ⟨rfl, rfl⟩ : b = b' ∧ off = off' := by simpa using hbo
            have c1 := Seven.quad hr.1 (RowOf.seven hr k hkA)
            have HNR := Lib.hid (HAft.out k hkA hk0 hkA)
            clear hr hbo
            unfold hasR at HNR
            generalize A[k] = r at *
            obtain ⟨y1, y2, y3, y4, y8, y9, y10⟩ := r
            dsimp only at *
            go_wp2_with fail
            refine wp_region_seqi (fun X => Below w.heap.size w X ∧ Quad X b (off + k * 7) y1 y2 y3 y4 ∧ Two' X (w.heap.size + 1) p q ∧ IsL X (some ⟨b, off, none⟩) (len + 1) A) (fun W W' hB ⟨h1, h2, h3, h4⟩ => ⟨Below.next h1 hB, h2.later hB, h3.later hB, h4.later hB⟩) (by kernel_rfl) (by kernel_rfl) (by kernel_rfl) ⟨HB.out.drew, c1.drew, t1, HI.out⟩ ?_
            simp only [putsL, Act.put, List.setIfInBounds_toArray, List.set_cons_zero, List.set_cons_succ, Nat.zero_add, Nat.reduceAdd]
            repeat (first
              | (refine seqi_run ?_ (fun vs W hD => (by first | rfl | (simp [DepA, isB, rsAt] at hD; simp [Region.wanted, yielded, hD]))) (fun vs W hS hD => ?_) ?_
                 rotate_left
                 (obtain ⟨_, ⟨_, c1, c2, c3, c4⟩, ⟨_, t1, t2⟩, _⟩ := hS; (try simp [DepA, isB, rsAt] at hD); (try simp only [hD]); (first | (go_simp; done) | (go_simp; rfl)))
                 simp only [List.nil_append, List.cons_append])
              | (refine seqi_call (f := 35) (fun v _ => v = .bool false) (stable_val _) (fun vs => #[.agg #[.int .i64 y1, .int .i64 y2, .int .i64 y3, .int .i64 y4], .agg #[.int .i64 p, .int .i64 q]]) (fun vs W hD => (by first | rfl | (simp [DepA, isB, rsAt] at hD; simp [Region.wanted, yielded, hD]))) (fun vs W hS hD => ?_) (fun vs W hS hD => ?_) ?_
                 · (obtain _ := hS; (try simp [DepA, isB, rsAt] at hD); (try simp only [hD]); go_simp; done)
                 · (exact (shas19_any y1 y2 y3 y4 p q W).mono fun e W' ⟨he, hB⟩ => ⟨⟨_, he.trans (by rw [HNR.out]), rfl⟩, hB⟩)
                 simp only [List.nil_append, List.cons_append]))
            refine seqi_end fun vs W hS hv => ?_
            simp only [AllF, Nat.zero_add, Nat.reduceAdd] at hv
            have HBW := Lib.hid hS.1
            have HTW := Lib.hid hS.2.2.1
            have HIW := Lib.hid hS.2.2.2
            clear hS c1 t1
            obtain ⟨h0, h1, h2, h3, h4, h5, h6, _⟩ := hv
            simp only [h0, h1, h2, h3, h4, h5, h6]
            clear h0 h1 h2 h3 h4 h5 h6
            go_wp2_with fail
            go_roundw
            case rel => exact ⟨k + 1, by omega, by omega, by go_num, HBW.out, HTW.out, HIW.out⟩
            case measure => simp [intOf]; omega
          · obtain rfl : k = len + 1 := by omega
            clear t1
            go_wp2_with fail
            refine (example_any _).mono ?_
            rintro e w6 ⟨rfl, hB6⟩
            have HB6 := Lib.hid (Below.next HB.out hB6)
            clear hB6
            go_wp2_with fail
            go_ret
            exact ⟨rfl, HB6.out⟩
  · generalize (rck 64 A).1 = c1 at *
    generalize (rck 64 A).2 = c2 at *
    have hc' : (c2 == 0) = false := by simpa using hc
    have hc'' : (c2 != 0) = true := by simpa using hc
    clear HW1 HW2 HW3
    go_wp2_with fail
    go_ret
    exact ⟨rfl, HB2.out⟩
theorem aclWhich_law (a1 a2 a3 : Int) (a : Option Addr) (len cap : Nat) (L : List RV) (p q : Int) (w : World) (h1 : (Lit.int .u64 a1).wf = true) (h2 : (Lit.int .u64 a2).wf = true) (h3 : (Lit.int .u64 a3).wf = true) (hL : IsL w a len L) (hm : len * 56 ≤ 140737488351232) :
    Calls Try.prog 9 #[.agg #[.int .u64 a1, .int .u64 a2, .int .u64 a3], .slice a len cap, .agg #[.int .i64 p, .int .i64 q]] w fun e w' => e = .returned (.bool true) ∧ Below w.heap.size w w' := by
  obtain ⟨x5, rfl⟩ := u64_word h1
  obtain ⟨x6, rfl⟩ := u64_word h2
  obtain ⟨x7, rfl⟩ := u64_word h3
  exact aclWhich_any x5 x6 x7 a len cap L p q w hm hL
end Go.Proofs.Ytelnffamkkkpaaa.Re
