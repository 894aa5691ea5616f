/- Contracts of Check, Which and At of both sides, for any rules. -/
import Derived.Test.YthgnhdfppmoooaaAclB
namespace Go.Proofs.Ythgnhdfppmoooaa.Re
open Go.RowKit AM
theorem rck_out {n : Int} {L : List RV} (h : n < 1 ∨ 64 < n ∨ L.length = 0) : rck n L = (0, 2) := by unfold rck; rw [if_pos h]
theorem rck_long {n : Int} {L : List RV} (h : 1 ≤ n ∧ n ≤ 64) (hl : 64 < L.length) : rck n L = (64, 5) := by unfold rck; rw [if_neg (by omega), if_pos hl]
set_option maxHeartbeats 1600000 in
theorem acheck_any (n : Int) (a : Option Addr) (len cap : Nat) (L : List RV) (hl : len ≤ 100000) (w : World) (hL : IsL w a len L) :
    Calls Try.prog 22 #[.int .i64 n, .slice a len cap] w fun e w' => e = .returned (ckV (rck n L)) ∧ Below w.heap.size w w' := by
  by_cases hn : n < 0 ∨ 64 < n
  · have HK := Lib.hid (rck_out (n := n) (L := L) (by omega))
    go_enter Try.func22, Try.ntmps22
    go_wp2_with fail
    refine (all_out n hn _).mono ?_
    rintro e w' ⟨rfl, rfl⟩
    go_wp2_with fail
    go_ret2
    exact ⟨retCk HK.out, Below.refl _ _⟩
  obtain ⟨v, rfl⟩ : ∃ v : Nat, n = v := ⟨n.toNat, by omega⟩
  have hv : v ≤ 64 := by omega
  clear hn
  by_cases h0 : v = 0
  · subst h0
    have HK := Lib.hid (rck_out (n := ((0 : Nat) : Int)) (L := L) (by omega))
    go_enter Try.func22, Try.ntmps22
    go_wp2_with fail
    refine (all_in' 0 (by decide) _).mono ?_
    rintro e w' ⟨rfl, rfl⟩
    go_wp2_with fail
    go_ret2
    exact ⟨retCk HK.out, Below.refl _ _⟩
  have hv0 : ((v : Int) == 0) = false := by simp; omega
  by_cases hl0 : len = 0
  · have HK := Lib.hid (rck_out (n := (v : Int)) (L := L) (by have := hL.1; omega))
    subst hl0
    go_enter Try.func22, Try.ntmps22
    go_wp2_with fail
    refine (all_in' v hv _).mono ?_
    rintro e w' ⟨rfl, rfl⟩
    go_wp2_with fail
    go_ret2
    exact ⟨retCk HK.out, Below.refl _ _⟩
  have hl00 : ((len : Int) == 0) = false := by simp; omega
  by_cases hl1 : 64 < len
  · have HK := Lib.hid (rck_long (n := (v : Int)) (L := L) (by omega) (by have := hL.1; omega))
    go_enter Try.func22, Try.ntmps22
    go_wp2_with fail
    refine (all_in' v hv _).mono ?_
    rintro e w' ⟨rfl, rfl⟩
    go_wp2_with fail
    go_ret2
    exact ⟨retCk HK.out, Below.refl _ _⟩
  exact acheck_d v (by omega) hv a len cap L (by omega) (by omega) w hL
set_option maxHeartbeats 1600000 in
theorem scheck_big (n : Int) (a : Option Addr) (len cap : Nat) (L : List RV) (w : World) (hL : IsL w a len L) :
    Calls Try.prog 20 #[.int .i64 n, .slice a len cap] w fun e w' => e = .returned (ckV (rck n L)) ∧ Below w.heap.size w w' := by
  by_cases hn : n < 1 ∨ 64 < n
  · have HK := Lib.hid (rck_out (n := n) (L := L) (by omega))
    rcases hn with h | h
    · go_enter Try.func20, Try.ntmps20
      go_wp2_with fail
      go_ret2
      exact ⟨retCk HK.out, Below.refl _ _⟩
    · have h' : ¬ n < 1 := by omega
      go_enter Try.func20, Try.ntmps20
      go_wp2_with fail
      go_ret2
      exact ⟨retCk HK.out, Below.refl _ _⟩
  obtain ⟨v, rfl⟩ : ∃ v : Nat, n = v := ⟨n.toNat, by omega⟩
  have hv : v ≤ 64 := by omega
  have hv1 : ¬ (v : Int) < 1 := by omega
  have hv2 : ¬ (64 : Int) < v := by omega
  by_cases hl0 : len = 0
  · have HK := Lib.hid (rck_out (n := (v : Int)) (L := L) (by have := hL.1; omega))
    subst hl0
    clear hn hL
    go_enter Try.func20, Try.ntmps20
    go_wp2_with fail
    go_ret2
    exact ⟨retCk HK.out, Below.refl _ _⟩
  have hl00 : ((len : Int) == 0) = false := by simp; omega
  by_cases hl1 : 64 < len
  · have HK := Lib.hid (rck_long (n := (v : Int)) (L := L) (by omega) (by have := hL.1; omega))
    clear hn hL hl0
    go_enter Try.func20, Try.ntmps20
    go_wp2_with fail
    go_ret2
    exact ⟨retCk HK.out, Below.refl _ _⟩
  exact scheck_d v (by omega) hv a len cap L (by omega) (by omega) w hL
theorem scheck_any (n : Int) (a : Option Addr) (len cap : Nat) (L : List RV) (_hl : len ≤ 100000) (w : World) (hL : IsL w a len L) :
    Calls Try.prog 20 #[.int .i64 n, .slice a len cap] w fun e w' => e = .returned (ckV (rck n L)) ∧ Below w.heap.size w w' := scheck_big n a len cap L w hL
/-- The last rule for an address, of the first k. -/
def hasR (r : RV) (p q : Int) : Bool := rhB r.c1 r.r1 r.c2 r.r2 p q
def lastI (L : List RV) (p q : Int) : Nat → Nat
  | 0 => 0
  | k + 1 => if (L[k]?.map (hasR · p q)).getD false then k else lastI L p q k
theorem lastI_t (L : List RV) (p q : Int) (k : Nat) (h : k < L.length) (hh : hasR L[k] p q = true) : lastI L p q (k + 1) = k := by
  unfold lastI; rw [List.getElem?_eq_getElem h]; simp [hh]
theorem lastI_f (L : List RV) (p q : Int) (k : Nat) (h : k < L.length) (hh : hasR L[k] p q = false) : lastI L p q (k + 1) = lastI L p q k := by
  rw [lastI]; rw [List.getElem?_eq_getElem h]; simp [hh]
theorem lastI_one (L : List RV) (p q : Int) : lastI L p q 1 = 0 := by
  unfold lastI; split <;> rfl
theorem lastI_lt (L : List RV) (p q : Int) : ∀ k, 0 < k → lastI L p q k < k := by
  intro k
  induction k with
  | zero => intro h; omega
  | succ k ih =>
    intro _
    unfold lastI
    split
    · omega
    · by_cases h : k = 0
      · subst h; exact Nat.lt_succ_self _
      · have := ih (by omega); omega
def whI (p q : Int) (L : List RV) : Int := if okR p q && decide ((rck 64 L).2 = 0) then (lastI L p q L.length : Int) else 0
def whE (p q : Int) (L : List RV) : Int := if okR p q then (rck 64 L).2 else 3
theorem wh_no {p q : Int} {L : List RV} (h : okR p q = false) : whI p q L = 0 ∧ whE p q L = 3 := by unfold whI whE; rw [h]; exact ⟨rfl, rfl⟩
theorem wh_bad {p q : Int} {L : List RV} {e : Int} (h : okR p q = true) (h' : (rck 64 L).2 = e) (he : ¬ e = 0) : whI p q L = 0 ∧ whE p q L = e := by
  unfold whI whE; rw [h, h', decide_eq_false he]; exact ⟨rfl, rfl⟩
theorem wh_ok {p q : Int} {L : List RV} (h : okR p q = true) (h' : (rck 64 L).2 = 0) : whI p q L = (lastI L p q L.length : Int) ∧ whE p q L = 0 := by
  unfold whI whE; rw [h, h']; exact ⟨rfl, rfl⟩
theorem rck_len {L : List RV} (h : (rck 64 L).2 = 0) : 0 < L.length ∧ L.length ≤ 64 := by
  unfold rck at h
  split at h
  · simp at h
  · split at h
    · simp at h
    · omega
theorem ckB_one (p q : Int) : ckB p q p q = okR p q := by
  rw [Bool.eq_iff_iff, ckB_iff]; unfold okR; rw [decide_eq_true_eq]; omega
theorem retWh {p q : Int} {L : List RV} {a b : Int} (h : whI p q L = a ∧ whE p q L = b) : Ending.returned (.tuple #[.int .i64 a, .int .i64 b]) = .returned (.tuple #[.int .i64 (whI p q L), .int .i64 (whE p q L)]) := by rw [h.1, h.2]
theorem Seven.quad {w : World} {b off : Nat} {r : RV} (hb : b < w.heap.size) (h : Seven w b off r) : Quad w b off r.c1 r.r1 r.c2 r.r2 := ⟨hb, h.1, h.2.1, h.2.2.1, h.2.2.2.1⟩
set_option maxHeartbeats 3200000 in
theorem slast_any (p q : Int) (a : Option Addr) (len cap : Nat) (L : List RV) (hl : len ≤ 100000) (w : World) (hL : IsL w a len L) :
    Calls Try.prog 32 #[.agg #[.int .i64 p, .int .i64 q], .slice a len cap] w fun e w' => e = .returned (.int .i64 (lastI L p q L.length : Int)) ∧ Below w.heap.size w w' := by
  have HL := Lib.hid hL
  have HLL := Lib.hid hL.1
  have HT := Lib.hid (Two'.start w p q 52)
  clear hL
  go_enter Try.func32, Try.ntmps32
  go_wp2_with fail
  go_loopw [5, 6] (fun o i wr => ∃ k : Nat, k ≤ len ∧ i = .int .i64 k ∧ o = .int .i64 (lastI L p q k : Int) ∧ Below w.heap.size w wr ∧ Two' wr w.heap.size p q) (fun _ i _ => len - (intOf i).toNat)
  case atStart => exact ⟨0, Nat.zero_le _, rfl, rfl, below_alloc _ _, HT.out⟩
  case round =>
    obtain ⟨k, hk, rfl, rfl, hB, hT⟩ := hrel
    have HB := Lib.hid hB
    have HT2 := Lib.hid hT
    clear hB hT
    by_cases hlt : k < len
    · obtain ⟨b, off, rfl, hr⟩ := (HL.out.later HB.out).2 (by omega)
      have hkL : k < L.length := by rw [HLL.out]; exact hlt
      have c1 := Seven.quad hr.1 (RowOf.seven hr k hkL)
      have t1 := HT2.out
      have HLT : Hid (hasR L[k] p q = true → lastI L p q (k + 1) = k) := lastI_t L p q k hkL
      have HLF : Hid (hasR L[k] p q = false → lastI L p q (k + 1) = lastI L p q k) := lastI_f L p q k hkL
      clear hr
      generalize L[k] = r at *
      obtain ⟨x1, x2, x3, x4, x5, x6, x7⟩ := r
      dsimp only at *
      generalize lastI L p q k = z at *
      go_wp2_with fail
      refine wp_region_seqi (fun X => Below w.heap.size w X ∧ Quad X b (off + k * 7) x1 x2 x3 x4 ∧ Two' X w.heap.size p q) (fun W W' hB ⟨h1, h2, h3⟩ => ⟨Below.next h1 hB, h2.later hB, h3.later hB⟩) (by kernel_rfl) (by kernel_rfl) (by kernel_rfl) ⟨(HB.out).drew, c1.drew, t1⟩ ?_
      simp only [putsL, Act.put, List.setIfInBounds_toArray, List.set_cons_zero, List.set_cons_succ, Nat.zero_add, Nat.reduceAdd]
      repeat (first
        | (refine seqi_run ?_ (fun vs W hD => (by first | rfl | (simp [DepA, isB, rsAt] at hD; simp [Region.wanted, yielded, hD]))) (fun vs W hS hD => ?_) ?_
           rotate_left
           (obtain ⟨_, ⟨_, c1, c2, c3, c4⟩, _, t1, t2⟩ := hS; (try simp [DepA, isB, rsAt] at hD); (try simp only [hD]); (first | (go_simp; done) | (go_simp; rfl)))
           simp only [List.nil_append, List.cons_append])
        | (refine seqi_call (f := 44) (fun v _ => v = .bool (rhB x1 x2 x3 x4 p q)) (stable_val _) (fun vs => #[.agg #[.int .i64 x1, .int .i64 x2, .int .i64 x3, .int .i64 x4], .agg #[.int .i64 p, .int .i64 q]]) (fun vs W hD => (by first | rfl | (simp [DepA, isB, rsAt] at hD; simp [Region.wanted, yielded, hD]))) (fun vs W hS hD => ?_) (fun vs W hS hD => ?_) ?_
           · (obtain _ := hS; (try simp [DepA, isB, rsAt] at hD); (try simp only [hD]); go_simp; done)
           · (exact (shas19_any x1 x2 x3 x4 p q W).mono fun e W' ⟨he, hB⟩ => ⟨⟨_, he, rfl⟩, hB⟩)
           simp only [List.nil_append, List.cons_append]))
      refine seqi_end fun vs W hS hv => ?_
      simp only [AllF, Nat.zero_add, Nat.reduceAdd] at hv
      have HBW := Lib.hid hS.1
      have HTW := Lib.hid hS.2.2
      clear hS c1 t1
      obtain ⟨h0, h1, h2, h3, h4, h5, h6, _⟩ := hv
      simp only [h0, h1, h2, h3, h4, h5, h6]
      clear h0 h1 h2 h3 h4 h5 h6
      cases hh : rhB x1 x2 x3 x4 p q
      · have HZ := Lib.hid (HLF.out hh)
        clear hh
        go_wp2_with fail
        go_roundw
        case rel => exact ⟨k + 1, by omega, by go_num, by rw [HZ.out], HBW.out, HTW.out⟩
        case measure => simp [intOf]; omega
      · have HZ := Lib.hid (HLT.out hh)
        clear hh
        go_wp2_with fail
        go_roundw
        case rel => exact ⟨k + 1, by omega, by go_num, by rw [HZ.out], HBW.out, HTW.out⟩
        case measure => simp [intOf]; omega
    · obtain rfl : k = len := by omega
      go_wp2_with fail
      go_ret
      exact ⟨retI (by rw [HLL.out]), HB.out⟩
/-- The rights at an address. -/
def ruleAt (L : List RV) (i : Nat) : RV := L.getD i ⟨0, 0, 0, 0, 0#64, 0#64, 0#64⟩
def rightsV (r : RV) : Value := .agg #[.int .u64 (r.rd.toNat : Int), .int .u64 (r.wr.toNat : Int), .int .u64 (r.ow.toNat : Int)]
def atR (p q : Int) (L : List RV) : RV := if whE p q L = 0 then ruleAt L (lastI L p q L.length) else ⟨0, 0, 0, 0, 0#64, 0#64, 0#64⟩
theorem wh_zero {p q : Int} {L : List RV} (h : whE p q L = 0) : 0 < L.length ∧ L.length ≤ 64 ∧ whI p q L = (lastI L p q L.length : Int) := by
  unfold whE at h
  cases ho : okR p q
  · rw [ho] at h; simp at h
  · rw [ho] at h
    have h' : (rck 64 L).2 = 0 := by simpa using h
    have := rck_len h'
    exact ⟨this.1, this.2, (wh_ok ho h').1⟩
end Go.Proofs.Ythgnhdfppmoooaa.Re
