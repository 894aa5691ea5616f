/- Contracts of Check, Which and At of both sides, for any rules. -/
import Derived.Test.YtndijajaddkbhaaAclB
namespace Go.Proofs.Ytndijajaddkbhaa.Re
open Go.RowKit AM
theorem rck_out {n : Int} {L : List RV} (h : n < 1 ∨ 64 < n ∨ L.length = 0) : rck n L = (0, 2) := by unfold rck; rw [if_pos h]
theorem rck_long {n : Int} {L : List RV} (h : 1 ≤ n ∧ n ≤ 64) (hl : 64 < L.length) : rck n L = (64, 5) := by unfold rck; rw [if_neg (by omega), if_pos hl]
set_option maxHeartbeats 1600000 in
theorem acheck_any (n : Int) (a : Option Addr) (len cap : Nat) (L : List RV) (hl : len ≤ 100000) (w : World) (hL : IsL w a len L) :
    Calls Try.prog 56 #[.int .i64 n, .slice a len cap] w fun e w' => e = .returned (ckV (rck n L)) ∧ Below w.heap.size w w' := by
  by_cases hn : n < 0 ∨ 64 < n
  · have HK := Lib.hid (rck_out (n := n) (L := L) (by omega))
    go_enter Try.func56, Try.ntmps56
    go_wp2_with fail
    refine (all_out n hn _).mono ?_
    rintro e w' ⟨rfl, rfl⟩
    go_wp2_with fail
    go_ret2
    exact ⟨retCk HK.out, Below.refl _ _⟩
  obtain ⟨v, rfl⟩ : ∃ v : Nat, n = v := ⟨n.toNat, by omega⟩
  have hv : v ≤ 64 := by omega
  clear hn
  by_cases h0 : v = 0
  · subst h0
    have HK := Lib.hid (rck_out (n := ((0 : Nat) : Int)) (L := L) (by omega))
    go_enter Try.func56, Try.ntmps56
    go_wp2_with fail
    refine (all_in' 0 (by decide) _).mono ?_
    rintro e w' ⟨rfl, rfl⟩
    go_wp2_with fail
    go_ret2
    exact ⟨retCk HK.out, Below.refl _ _⟩
  have hv0 : ((v : Int) == 0) = false := by simp; omega
  by_cases hl0 : len = 0
  · have HK := Lib.hid (rck_out (n := (v : Int)) (L := L) (by have := hL.1; omega))
    subst hl0
    go_enter Try.func56, Try.ntmps56
    go_wp2_with fail
    refine (all_in' v hv _).mono ?_
    rintro e w' ⟨rfl, rfl⟩
    go_wp2_with fail
    go_ret2
    exact ⟨retCk HK.out, Below.refl _ _⟩
  have hl00 : ((len : Int) == 0) = false := by simp; omega
  by_cases hl1 : 64 < len
  · have HK := Lib.hid (rck_long (n := (v : Int)) (L := L) (by omega) (by have := hL.1; omega))
    go_enter Try.func56, Try.ntmps56
    go_wp2_with fail
    refine (all_in' v hv _).mono ?_
    rintro e w' ⟨rfl, rfl⟩
    go_wp2_with fail
    go_ret2
    exact ⟨retCk HK.out, Below.refl _ _⟩
  exact acheck_d v (by omega) hv a len cap L (by omega) (by omega) w hL
set_option maxHeartbeats 1600000 in
theorem scheck_big (n : Int) (a : Option Addr) (len cap : Nat) (L : List RV) (w : World) (hL : IsL w a len L) :
    Calls Try.prog 19 #[.int .i64 n, .slice a len cap] w fun e w' => e = .returned (ckV (rck n L)) ∧ Below w.heap.size w w' := by
  by_cases hn : n < 1 ∨ 64 < n
  · have HK := Lib.hid (rck_out (n := n) (L := L) (by omega))
    rcases hn with h | h
    · go_enter Try.func19, Try.ntmps19
      go_wp2_with fail
      go_ret2
      exact ⟨retCk HK.out, Below.refl _ _⟩
    · have h' : ¬ n < 1 := by omega
      go_enter Try.func19, Try.ntmps19
      go_wp2_with fail
      go_ret2
      exact ⟨retCk HK.out, Below.refl _ _⟩
  obtain ⟨v, rfl⟩ : ∃ v : Nat, n = v := ⟨n.toNat, by omega⟩
  have hv : v ≤ 64 := by omega
  have hv1 : ¬ (v : Int) < 1 := by omega
  have hv2 : ¬ (64 : Int) < v := by omega
  by_cases hl0 : len = 0
  · have HK := Lib.hid (rck_out (n := (v : Int)) (L := L) (by have := hL.1; omega))
    subst hl0
    clear hn hL
    go_enter Try.func19, Try.ntmps19
    go_wp2_with fail
    go_ret2
    exact ⟨retCk HK.out, Below.refl _ _⟩
  have hl00 : ((len : Int) == 0) = false := by simp; omega
  by_cases hl1 : 64 < len
  · have HK := Lib.hid (rck_long (n := (v : Int)) (L := L) (by omega) (by have := hL.1; omega))
    clear hn hL hl0
    go_enter Try.func19, Try.ntmps19
    go_wp2_with fail
    go_ret2
    exact ⟨retCk HK.out, Below.refl _ _⟩
  exact scheck_d v (by omega) hv a len cap L (by omega) (by omega) w hL
theorem scheck_any (n : Int) (a : Option Addr) (len cap : Nat) (L : List RV) (_hl : len ≤ 100000) (w : World) (hL : IsL w a len L) :
    Calls Try.prog 19 #[.int .i64 n, .slice a len cap] w fun e w' => e = .returned (ckV (rck n L)) ∧ Below w.heap.size w w' := scheck_big n a len cap L w hL
/-- The last rule for an address, of the first k. -/
def hasR (r : RV) (p q : Int) : Bool := rhB r.c1 r.r1 r.c2 r.r2 p q
def lastI (L : List RV) (p q : Int) : Nat → Nat
  | 0 => 0
  | k + 1 => if (L[k]?.map (hasR · p q)).getD false then k else lastI L p q k
theorem lastI_t (L : List RV) (p q : Int) (k : Nat) (h : k < L.length) (hh : hasR L[k] p q = true) : lastI L p q (k + 1) = k := by
  unfold lastI; rw [List.getElem?_eq_getElem h]; simp [hh]
theorem lastI_f (L : List RV) (p q : Int) (k : Nat) (h : k < L.length) (hh : hasR L[k] p q = false) : lastI L p q (k + 1) = lastI L p q k := by
  rw [lastI]; rw [List.getElem?_eq_getElem h]; simp [hh]
theorem lastI_one (L : List RV) (p q : Int) : lastI L p q 1 = 0 := by
  unfold lastI; split <;> rfl
theorem lastI_lt (L : List RV) (p q : Int) : ∀ k, 0 < k → lastI L p q k < k := by
  intro k
  induction k with
  | zero => intro h; omega
  | succ k ih =>
    intro _
    unfold lastI
    split
    · omega
    · by_cases h : k = 0
      · subst h; exact Nat.lt_succ_self _
      · have := ih (by omega); omega
def whI (p q : Int) (L : List RV) : Int := if okR p q && decide ((rck 64 L).2 = 0) then (lastI L p q L.length : Int) else 0
def whE (p q : Int) (L : List RV) : Int := if okR p q then (rck 64 L).2 else 3
theorem wh_no {p q : Int} {L : List RV} (h : okR p q = false) : whI p q L = 0 ∧ whE p q L = 3 := by unfold whI whE; rw [h]; exact ⟨rfl, rfl⟩
theorem wh_bad {p q : Int} {L : List RV} {e : Int} (h : okR p q = true) (h' : (rck 64 L).2 = e) (he : ¬ e = 0) : whI p q L = 0 ∧ whE p q L = e := by
  unfold whI whE; rw [h, h', decide_eq_false he]; exact ⟨rfl, rfl⟩
theorem wh_ok {p q : Int} {L : List RV} (h : okR p q = true) (h' : (rck 64 L).2 = 0) : whI p q L = (lastI L p q L.length : Int) ∧ whE p q L = 0 := by
  unfold whI whE; rw [h, h']; exact ⟨rfl, rfl⟩
theorem rck_len {L : List RV} (h : (rck 64 L).2 = 0) : 0 < L.length ∧ L.length ≤ 64 := by
  unfold rck at h
  split at h
  · simp at h
  · split at h
    · simp at h
    · omega
theorem ckB_one (p q : Int) : ckB p q p q = okR p q := by
  rw [Bool.eq_iff_iff, ckB_iff]; unfold okR; rw [decide_eq_true_eq]; omega
theorem retWh {p q : Int} {L : List RV} {a b : Int} (h : whI p q L = a ∧ whE p q L = b) : Ending.returned (.tuple #[.int .i64 a, .int .i64 b]) = .returned (.tuple #[.int .i64 (whI p q L), .int .i64 (whE p q L)]) := by rw [h.1, h.2]
theorem Seven.quad {w : World} {b off : Nat} {r : RV} (hb : b < w.heap.size) (h : Seven w b off r) : Quad w b off r.c1 r.r1 r.c2 r.r2 := ⟨hb, h.1, h.2.1, h.2.2.1, h.2.2.2.1⟩
set_option maxHeartbeats 3200000 in
theorem slast_any (p q : Int) (a : Option Addr) (len cap : Nat) (L : List RV) (hl : len ≤ 100000) (w : World) (hL : IsL w a len L) :
    Calls Try.prog 66 #[.agg #[.int .i64 p, .int .i64 q], .slice a len cap] w fun e w' => e = .returned (.int .i64 (lastI L p q L.length : Int)) ∧ Below w.heap.size w w' := by
  have HL := Lib.hid hL
  have HLL := Lib.hid hL.1
  have HT := Lib.hid (Two'.start w p q 44)
  clear hL
  go_enter Try.func66, Try.ntmps66
  go_wp2_with fail
  go_loopw [5, 6] (fun o i wr => ∃ k : Nat, k ≤ len ∧ i = .int .i64 k ∧ o = .int .i64 (lastI L p q k : Int) ∧ Below w.heap.size w wr ∧ Two' wr w.heap.size p q) (fun _ i _ => len - (intOf i).toNat)
  case atStart => exact ⟨0, Nat.zero_le _, rfl, rfl, below_alloc _ _, HT.out⟩
  case round =>
    obtain ⟨k, hk, rfl, rfl, hB, hT⟩ := hrel
    have HB := Lib.hid hB
    have HT2 := Lib.hid hT
    clear hB hT
    by_cases hlt : k < len
    · obtain ⟨b, off, rfl, hr⟩ := (HL.out.later HB.out).2 (by omega)
      have hkL : k < L.length := by rw [HLL.out]; exact hlt
      have c1 := Seven.quad hr.1 (RowOf.seven hr k hkL)
      have t1 := HT2.out
      have HLT : Hid (hasR L[k] p q = true → lastI L p q (k + 1) = k) := lastI_t L p q k hkL
      have HLF : Hid (hasR L[k] p q = false → lastI L p q (k + 1) = lastI L p q k) := lastI_f L p q k hkL
      clear hr
      generalize L[k] = r at *
      obtain ⟨x1, x2, x3, x4, x5, x6, x7⟩ := r
      dsimp only at *
      generalize lastI L p q k = z at *
      go_wp2_with fail
      refine wp_region_seqi (fun X => Below w.heap.size w X ∧ Quad X b (off + k * 7) x1 x2 x3 x4 ∧ Two' X w.heap.size p q) (fun W W' hB ⟨h1, h2, h3⟩ => ⟨Below.next h1 hB, h2.later hB, h3.later hB⟩) (by kernel_rfl) (by kernel_rfl) (by kernel_rfl) ⟨(HB.out).drew, c1.drew, t1⟩ ?_
      simp only [putsL, Act.put, List.setIfInBounds_toArray, List.set_cons_zero, List.set_cons_succ, Nat.zero_add, Nat.reduceAdd]
      repeat (first
        | (refine seqi_run ?_ (fun vs W hD => (by first | rfl | (simp [DepA, isB, rsAt] at hD; simp [Region.wanted, yielded, hD]))) (fun vs W hS hD => ?_) ?_
           rotate_left
           (obtain ⟨_, ⟨_, c1, c2, c3, c4⟩, _, t1, t2⟩ := hS; (try simp [DepA, isB, rsAt] at hD); (try simp only [hD]); (first | (go_simp; done) | (go_simp; rfl)))
           simp only [List.nil_append, List.cons_append])
        | (refine seqi_call (f := 114) (fun v _ => v = .bool (rhB x1 x2 x3 x4 p q)) (stable_val _) (fun vs => #[.agg #[.int .i64 x1, .int .i64 x2, .int .i64 x3, .int .i64 x4], .agg #[.int .i64 p, .int .i64 q]]) (fun vs W hD => (by first | rfl | (simp [DepA, isB, rsAt] at hD; simp [Region.wanted, yielded, hD]))) (fun vs W hS hD => ?_) (fun vs W hS hD => ?_) ?_
           · (obtain _ := hS; (try simp [DepA, isB, rsAt] at hD); (try simp only [hD]); go_simp; done)
           · (exact (shas19_any x1 x2 x3 x4 p q W).mono fun e W' ⟨he, hB⟩ => ⟨⟨_, he, rfl⟩, hB⟩)
           simp only [List.nil_append, List.cons_append]))
      refine seqi_end fun vs W hS hv => ?_
      simp only [AllF, Nat.zero_add, Nat.reduceAdd] at hv
      have HBW := Lib.hid hS.1
      have HTW := Lib.hid hS.2.2
      clear hS c1 t1
      obtain ⟨h0, h1, h2, h3, h4, h5, h6, _⟩ := hv
      simp only [h0, h1, h2, h3, h4, h5, h6]
      clear h0 h1 h2 h3 h4 h5 h6
      cases hh : rhB x1 x2 x3 x4 p q
      · have HZ := Lib.hid (HLF.out hh)
        clear hh
        go_wp2_with fail
        go_roundw
        case rel => exact ⟨k + 1, by omega, by go_num, by rw [HZ.out], HBW.out, HTW.out⟩
        case measure => simp [intOf]; omega
      · have HZ := Lib.hid (HLT.out hh)
        clear hh
        go_wp2_with fail
        go_roundw
        case rel => exact ⟨k + 1, by omega, by go_num, by rw [HZ.out], HBW.out, HTW.out⟩
        case measure => simp [intOf]; omega
    · obtain rfl : k = len := by omega
      go_wp2_with fail
      go_ret
      exact ⟨retI (by rw [HLL.out]), HB.out⟩
set_option maxHeartbeats 3200000 in
theorem awhich_any (p q : Int) (a : Option Addr) (len cap : Nat) (L : List RV) (hl : len ≤ 100000) (w : World) (hL : IsL w a len L) :
    Calls Try.prog 59 #[.agg #[.int .i64 p, .int .i64 q], .slice a len cap] w fun e w' => e = .returned (.tuple #[.int .i64 (whI p q L), .int .i64 (whE p q L)]) ∧ Below w.heap.size w w' := by
  have HL := Lib.hid hL
  have HT := Lib.hid (Two'.start w p q 44)
  have HN : Hid (okR p q = false → whI p q L = 0 ∧ whE p q L = 3) := wh_no
  have HBd : Hid (okR p q = true → ∀ e, (rck 64 L).2 = e → ¬ e = 0 → whI p q L = 0 ∧ whE p q L = e) := fun h e h' he => wh_bad h h' he
  have HOk : Hid (okR p q = true → (rck 64 L).2 = 0 → whI p q L = (lastI L p q L.length : Int) ∧ whE p q L = 0) := wh_ok
  have HLen : Hid ((rck 64 L).2 = 0 → 0 < L.length ∧ L.length ≤ 64) := rck_len
  clear hL
  go_enter Try.func59, Try.ntmps59
  go_wp2_with fail
  go_step3
  go_wp2_with fail
  refine (rone_any p q _).mono ?_
  rintro e w1 ⟨rfl, hB1⟩
  have HB1 := Lib.hid (Below.next (below_alloc w _) hB1)
  have HT1 := Lib.hid (HT.out.later hB1)
  clear hB1 HT
  go_wp2_with fail
  refine (rcheck_any p q p q _).mono ?_
  rintro e w2 ⟨rfl, hB2⟩
  have HB2 := Lib.hid (Below.next HB1.out hB2)
  have HT2 := Lib.hid (HT1.out.later hB2)
  clear hB2 HT1 HB1
  cases hok : okR p q
  · rw [ckE_f (by rw [ckB_one, hok])]
    have HZ := Lib.hid (HN.out hok)
    clear hok
    go_wp2_with fail
    try rw [Exit.noGoto_ret]
    go_ret2
    exact ⟨retWh HZ.out, HB2.out⟩
  · rw [ckE_t (by rw [ckB_one, hok])]
    have HOK := Lib.hid hok
    clear hok
    go_wp2_with fail
    refine (acheck_any 64 a len cap L hl _ (HL.out.later HB2.out)).mono ?_
    rintro e w3 ⟨rfl, hB3⟩
    have HB3 := Lib.hid (Below.next HB2.out hB3)
    have HT3 := Lib.hid (HT2.out.later hB3)
    clear hB3 HT2 HB2
    unfold ckV
    by_cases hc : (rck 64 L).2 = 0
    · have HZ := Lib.hid (HOk.out HOK.out hc)
      have HLn := Lib.hid (HLen.out hc)
      generalize (rck 64 L).1 = c1 at *
      rw [hc]
      clear hc
      have hln := HLn.out
      rw [HL.out.1] at hln
      have HLL := Lib.hid HL.out.1
      go_wp2_with fail
      go_step3
      go_wp2_with fail
      go_loopw [9] (fun i wr => ∃ k : Nat, k < len ∧ i = .int .i64 k ∧ Hid (lastI L p q (k + 1) = lastI L p q L.length) ∧ Below w.heap.size w wr ∧ Two' wr w.heap.size p q) (fun i _ => (intOf i).toNat)
      case atStart => exact ⟨len - 1, by omega, by rw [show ((len - 1 : Nat) : Int) = (len : Int) - 1 by omega], by unfold Hid; rw [HLL.out]; congr 1; omega, HB3.out, HT3.out⟩
      case round =>
        obtain ⟨k, hk, rfl, HI, hB, hT⟩ := hrel
        have HB := Lib.hid hB
        have HTr := Lib.hid hT
        clear hB hT
        by_cases hlt : 0 < k
        · obtain ⟨b, off, rfl, hr⟩ := (HL.out.later HB.out).2 (by omega)
          have hkL : k < L.length := by rw [HLL.out]; exact hk
          have c1 := Seven.quad hr.1 (RowOf.seven hr k hkL)
          have t1 := HTr.out
          have HLT : Hid (hasR L[k] p q = true → lastI L p q (k + 1) = k) := lastI_t L p q k hkL
          have HLF : Hid (hasR L[k] p q = false → lastI L p q (k + 1) = lastI L p q k) := lastI_f L p q k hkL
          clear hr
          generalize L[k] = r at *
          obtain ⟨x1, x2, x3, x4, x5, x6, x7⟩ := r
          dsimp only at *
          go_wp2_with fail
          refine wp_region_seqi (fun X => Below w.heap.size w X ∧ Quad X b (off + k * 7) x1 x2 x3 x4 ∧ Two' X w.heap.size p q) (fun W W' hB ⟨h1, h2, h3⟩ => ⟨Below.next h1 hB, h2.later hB, h3.later hB⟩) (by kernel_rfl) (by kernel_rfl) (by kernel_rfl) ⟨HB.out.drew, c1.drew, t1⟩ ?_
          simp only [putsL, Act.put, List.setIfInBounds_toArray, List.set_cons_zero, List.set_cons_succ, Nat.zero_add, Nat.reduceAdd]
          repeat (first
            | (refine seqi_run ?_ (fun vs W hD => (by first | rfl | (simp [DepA, isB, rsAt] at hD; simp [Region.wanted, yielded, hD]))) (fun vs W hS hD => ?_) ?_
               rotate_left
               (obtain ⟨_, ⟨_, c1, c2, c3, c4⟩, _, t1, t2⟩ := hS; (try simp [DepA, isB, rsAt] at hD); (try simp only [hD]); (first | (go_simp; done) | (go_simp; rfl)))
               simp only [List.nil_append, List.cons_append])
            | (refine seqi_call (f := 112) (fun v _ => v = .bool (rhB x1 x2 x3 x4 p q)) (stable_val _) (fun vs => #[.agg #[.int .i64 x1, .int .i64 x2, .int .i64 x3, .int .i64 x4], .agg #[.int .i64 p, .int .i64 q]]) (fun vs W hD => (by first | rfl | (simp [DepA, isB, rsAt] at hD; simp [Region.wanted, yielded, hD]))) (fun vs W hS hD => ?_) (fun vs W hS hD => ?_) ?_
               · (obtain _ := hS; (try simp [DepA, isB, rsAt] at hD); (try simp only [hD]); go_simp; done)
               · (exact (rhas_any x1 x2 x3 x4 p q W).mono fun e W' ⟨he, hB⟩ => ⟨⟨_, he, rfl⟩, hB⟩)
               simp only [List.nil_append, List.cons_append]))
          refine seqi_end fun vs W hS hv => ?_
          simp only [AllF, Nat.zero_add, Nat.reduceAdd] at hv
          have HBW := Lib.hid hS.1
          have HTW := Lib.hid hS.2.2
          clear hS c1 t1
          obtain ⟨h0, h1, h2, h3, h4, h5, h6, _⟩ := hv
          simp only [h0, h1, h2, h3, h4, h5, h6]
          clear h0 h1 h2 h3 h4 h5 h6
          cases hh : rhB x1 x2 x3 x4 p q
          · have HZ2 := Lib.hid (HLF.out hh)
            clear hh
            go_wp2_with fail
            go_roundw
            case rel => exact ⟨k - 1, by omega, by rw [show ((k - 1 : Nat) : Int) = (k : Int) - 1 by omega], by unfold Hid; rw [show k - 1 + 1 = k by omega, ← HZ2.out, HI.out], HBW.out, HTW.out⟩
            case measure => simp [intOf]; omega
          · have HZ2 := Lib.hid (HLT.out hh)
            have HZ3 : Hid (whI p q L = (k : Int) ∧ whE p q L = 0) := by
              unfold Hid
              have h0 := HZ.out
              rw [← HI.out, HZ2.out] at h0
              exact h0
            clear hh
            go_wp2_with fail
            try rw [Exit.noGoto_ret]
            go_ret2
            exact ⟨retWh HZ3.out, HBW.out⟩
        · obtain rfl : k = 0 := by omega
          have HZ2 : Hid (whI p q L = 0 ∧ whE p q L = 0) := by
            unfold Hid
            have h0 := HZ.out
            rw [← HI.out, lastI_one] at h0
            exact h0
          go_wp2_with fail
          try rw [Exit.noGoto_ret]
          go_ret2
          exact ⟨retWh HZ2.out, HB.out⟩
    · have HZ := Lib.hid (HBd.out HOK.out _ rfl hc)
      generalize (rck 64 L).1 = c1 at *
      generalize (rck 64 L).2 = c2 at *
      have hc' : (c2 == 0) = false := by simpa using hc
      go_wp2_with fail
      try rw [Exit.noGoto_ret]
      go_ret2
      exact ⟨retWh HZ.out, HB3.out⟩
/-- The rights at an address. -/
def ruleAt (L : List RV) (i : Nat) : RV := L.getD i ⟨0, 0, 0, 0, 0#64, 0#64, 0#64⟩
def rightsV (r : RV) : Value := .agg #[.int .u64 (r.rd.toNat : Int), .int .u64 (r.wr.toNat : Int), .int .u64 (r.ow.toNat : Int)]
def atR (p q : Int) (L : List RV) : RV := if whE p q L = 0 then ruleAt L (lastI L p q L.length) else ⟨0, 0, 0, 0, 0#64, 0#64, 0#64⟩
theorem wh_zero {p q : Int} {L : List RV} (h : whE p q L = 0) : 0 < L.length ∧ L.length ≤ 64 ∧ whI p q L = (lastI L p q L.length : Int) := by
  unfold whE at h
  cases ho : okR p q
  · rw [ho] at h; simp at h
  · rw [ho] at h
    have h' : (rck 64 L).2 = 0 := by simpa using h
    have := rck_len h'
    exact ⟨this.1, this.2, (wh_ok ho h').1⟩
set_option maxHeartbeats 1600000 in
theorem aat_any (p q : Int) (a : Option Addr) (len cap : Nat) (L : List RV) (hl : len ≤ 100000) (w : World) (hL : IsL w a len L) :
    Calls Try.prog 21 #[.agg #[.int .i64 p, .int .i64 q], .slice a len cap] w fun e w' => e = .returned (.tuple #[rightsV (atR p q L), .int .i64 (whE p q L)]) ∧ Below w.heap.size w w' := by
  have HL := Lib.hid hL
  have HLL := Lib.hid hL.1
  have HZ : Hid (whE p q L = 0 → 0 < L.length ∧ L.length ≤ 64 ∧ whI p q L = (lastI L p q L.length : Int)) := wh_zero
  have HLT : Hid (0 < L.length → lastI L p q L.length < L.length) := lastI_lt L p q L.length
  have HAT : Hid (whE p q L = 0 → atR p q L = ruleAt L (lastI L p q L.length)) := fun h => if_pos h
  have HAF : Hid (¬ whE p q L = 0 → atR p q L = ⟨0, 0, 0, 0, 0#64, 0#64, 0#64⟩) := fun h => if_neg h
  clear hL
  have HB0 := Lib.hid (((Below.refl w.heap.size w).alloc (Nat.le_refl _) (.cells #[.int .i64 p, .int .i64 q] 44)).alloc (by simp) (.cells #[.int .u64 0, .int .u64 0, .int .u64 0] 33))
  go_enter Try.func21, Try.ntmps21
  go_wp2_with fail
  refine (awhich_any p q a len cap L hl _ (HL.out.later HB0.out)).mono ?_
  rintro e w1 ⟨rfl, hB1⟩
  obtain ⟨hc, hf⟩ := bcell hB1
  have HB1 := Lib.hid (Below.next HB0.out hB1)
  have hz : w.heap.size + 1 < w1.heap.size := by have := hB1.size; simp at this; omega
  clear hB1
  by_cases he : whE p q L = 0
  · obtain ⟨l0, l1, e1⟩ := HZ.out he
    have hlt := HLT.out l0
    have HA := Lib.hid (HAT.out he)
    rw [e1, he]
    have HWE := Lib.hid he
    clear e1 he HZ HLT HAT HAF
    generalize lastI L p q L.length = i at *
    obtain ⟨b, off, rfl, hr⟩ := (HL.out.later HB1.out).2 (by rw [← HLL.out]; exact l0)
    have hb := hr.1
    have s := RowOf.seven hr i hlt
    have HE : Hid (ruleAt L i = L[i]) := by unfold Hid ruleAt; rw [List.getD_eq_getElem?_getD, List.getElem?_eq_getElem hlt]; rfl
    have hil : i < len := by rw [← HLL.out]; exact hlt
    clear hr l0 l1
    generalize L[i] = r at *
    clear hlt
    obtain ⟨x1, x2, x3, x4, x5, x6, x7⟩ := r
    obtain ⟨_, _, _, _, c5, c6, c7⟩ := s
    dsimp only at *
    go_wp2_with fail
    exact bodyPost_ret (v := .tuple #[.agg #[.int .u64 (x5.toNat : Int), .int .u64 (x6.toNat : Int), .int .u64 (x7.toNat : Int)], .int .i64 0]) (by first | (simp [results, Try.results21, go_sem]; done) | (simp [results, Try.results21, go_sem, hc]; done) | (simp [results, Try.results21, go_sem, hc, hf, hz]; done)) rfl ⟨by rw [HA.out, HE.out, HWE.out]; rfl, ((HB1.out.setCell (by simp; try omega) _).setCell (by simp; try omega) _).setCell (by simp; try omega) _⟩
  · have HA := Lib.hid (HAF.out he)
    obtain ⟨c, hcE⟩ : ∃ c, c = whE p q L := ⟨_, rfl⟩
    rw [← hcE] at he ⊢
    have HCE := Lib.hid hcE
    clear hcE
    generalize whI p q L = d at *
    have he' : (c == 0) = false := by simpa using he
    clear HZ HLT HAT HAF
    go_wp2_with fail
    exact bodyPost_ret (v := .tuple #[.agg #[.int .u64 0, .int .u64 0, .int .u64 0], .int .i64 c]) (by first | (simp [results, Try.results21, go_sem]; done) | (simp [results, Try.results21, go_sem, hc]; done) | (simp [results, Try.results21, go_sem, hc, hf, hz]; done)) rfl ⟨by rw [HA.out, ← HCE.out]; rfl, ((HB1.out.setCell (by simp; try omega) _).setCell (by simp; try omega) _).setCell (by simp; try omega) _⟩
end Go.Proofs.Ytndijajaddkbhaa.Re
