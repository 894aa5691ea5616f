/- Contracts of Check and Which of both sides. -/
import Derived.Test.YthgnhdfppmoooaaAclA
import Derived.Test.YthgnhdfppmoooaaMseq
import Derived.Deep.DeepCutAuto
namespace Go.Proofs.Ythgnhdfppmoooaa.Re
open Go.RowKit AM
def isSheet (r : RV) : Bool := decide (r.c1 = 1 ∧ r.r1 = 1 ∧ r.c2 = 1024 ∧ r.r2 = 1024)
def rigB (n : Nat) (r : RV) : Bool := winB r.rd n && (winB r.wr n && winB r.ow n)
def okRule (n : Nat) (r : RV) : Bool := ckB r.c1 r.r1 r.c2 r.r2 && rigB n r
def badE (r : RV) : Int := if ckB r.c1 r.r1 r.c2 r.r2 then 2 else 3
def findBad (n : Nat) : List RV → Nat → Int × Int
  | [], _ => (0, 0)
  | r :: l, i => if okRule n r then findBad n l (i + 1) else ((i : Int), badE r)
def headSheet : List RV → Bool
  | [] => false
  | r :: _ => isSheet r
def rck (n : Int) (L : List RV) : Int × Int :=
  if n < 1 ∨ 64 < n ∨ L.length = 0 then (0, 2) else if 64 < L.length then (64, 5) else if headSheet L then findBad n.toNat L 0 else (0, 2)
def ckV (p : Int × Int) : Value := .tuple #[.int .i64 p.1, .int .i64 p.2]
theorem findBad_at (n : Nat) : ∀ (L : List RV) (i k : Nat) (h : k < L.length), (∀ j (hj : j < L.length), j < k → okRule n L[j] = true) → okRule n L[k] = false → findBad n L i = (((i + k : Nat) : Int), badE L[k]) := by
  intro L
  induction L with
  | nil => intro i k h; cases h
  | cons r L ih =>
    intro i k h hall hk
    cases k with
    | zero => unfold findBad; rw [if_neg (by simp at hk; rw [hk]; decide)]; rfl
    | succ k =>
      unfold findBad
      rw [if_pos (show okRule n r = true from hall 0 (by simp) (by omega)), ih (i + 1) k (by simpa using h) (fun j hj hjk => hall (j + 1) (by simpa using hj) (by omega)) hk]
      rw [show i + 1 + k = i + (k + 1) by omega]; rfl
theorem findBad_none (n : Nat) : ∀ (L : List RV) (i : Nat), (∀ j (hj : j < L.length), okRule n L[j] = true) → findBad n L i = (0, 0) := by
  intro L
  induction L with
  | nil => intro i _; rfl
  | cons r L ih =>
    intro i hall
    unfold findBad
    rw [if_pos (show okRule n r = true from hall 0 (by simp)), ih (i + 1) (fun j hj => hall (j + 1) (by simpa using hj))]
theorem head_at (L : List RV) (h : 0 < L.length) : headSheet L = isSheet L[0] := by
  cases L with
  | nil => cases h
  | cons r L => rfl
/-- A rule in a block of its own. -/
def Box7 (w : World) (p : Nat) (r : RV) : Prop :=
  p < w.heap.size ∧ w.cell? ⟨p, 0, none⟩ = some (.int .i64 r.c1) ∧ w.cell? ⟨p, 1, none⟩ = some (.int .i64 r.r1) ∧ w.cell? ⟨p, 2, none⟩ = some (.int .i64 r.c2) ∧ w.cell? ⟨p, 3, none⟩ = some (.int .i64 r.r2) ∧
  w.cell? ⟨p, 4, none⟩ = some (.int .u64 (r.rd.toNat : Int)) ∧ w.cell? ⟨p, 5, none⟩ = some (.int .u64 (r.wr.toNat : Int)) ∧ w.cell? ⟨p, 6, none⟩ = some (.int .u64 (r.ow.toNat : Int))
theorem Box7.later {w w' : World} {p : Nat} {r : RV} (h : Box7 w p r) (hB : Below w.heap.size w w') : Box7 w' p r := by
  obtain ⟨h0, h1, h2, h3, h4, h5, h6, h7⟩ := h
  have hc := (bcell hB).1
  exact ⟨Nat.lt_of_lt_of_le h0 hB.size, by rw [hc _ _ h0]; exact h1, by rw [hc _ _ h0]; exact h2, by rw [hc _ _ h0]; exact h3, by rw [hc _ _ h0]; exact h4, by rw [hc _ _ h0]; exact h5, by rw [hc _ _ h0]; exact h6, by rw [hc _ _ h0]; exact h7⟩
theorem Box7.start (w : World) (r : RV) (t : TypeId) : Box7 (w.alloc (.cells (cells7 r).toArray t)) w.heap.size r := by
  refine ⟨by simp, ?_, ?_, ?_, ?_, ?_, ?_, ?_⟩ <;> simp [cells7]
theorem rck_bad {n : Nat} {L : List RV} {len : Nat} (hn : 1 ≤ n ∧ n ≤ 64) (hl : 0 < len ∧ len ≤ 64) (hL : L.length = len) (h : headSheet L = false) : rck n L = (0, 2) := by
  unfold rck; rw [if_neg (by omega), if_neg (by omega), if_neg (by rw [h]; decide)]
theorem rck_at {n : Nat} {L : List RV} {len : Nat} (hn : 1 ≤ n ∧ n ≤ 64) (hl : 0 < len ∧ len ≤ 64) (hL : L.length = len) (h : headSheet L = true) (k : Nat) (hk : k < L.length) (hall : ∀ j (hj : j < L.length), j < k → okRule n L[j] = true) (e : okRule n L[k] = false) :
    rck n L = ((k : Int), badE L[k]) := by
  unfold rck; rw [if_neg (by omega), if_neg (by omega), if_pos h, Int.toNat_natCast, findBad_at n L 0 k hk hall e, Nat.zero_add]
theorem rck_ok {n : Nat} {L : List RV} {len : Nat} (hn : 1 ≤ n ∧ n ≤ 64) (hl : 0 < len ∧ len ≤ 64) (hL : L.length = len) (h : headSheet L = true) (hall : ∀ j (hj : j < L.length), okRule n L[j] = true) : rck n L = (0, 0) := by
  unfold rck; rw [if_neg (by omega), if_neg (by omega), if_pos h, Int.toNat_natCast, findBad_none n L 0 hall]
theorem retCk {p : Int × Int} {a b : Int} (h : p = (a, b)) : Ending.returned (.tuple #[.int .i64 a, .int .i64 b]) = .returned (ckV p) := by subst h; rfl
theorem rigQ (x y z : W64) (n : Nat) : ∃ o1 o : W64, bits .or .u64 (x.toNat : Int) (y.toNat : Int) = (o1.toNat : Int) ∧ bits .or .u64 (o1.toNat : Int) (z.toNat : Int) = (o.toNat : Int) ∧ (bits .andNot .u64 (o.toNat : Int) ((allW n).toNat : Int) == 0) = (winB x n && (winB y n && winB z n)) :=
  ⟨x ||| y, (x ||| y) ||| z, bits_or _ _, bits_or _ _, or_win x y z n⟩
set_option maxHeartbeats 3200000 in
theorem acheck_d (n : Nat) (h1 : 1 ≤ n) (h2 : n ≤ 64) (a : Option Addr) (len cap : Nat) (L : List RV) (hl0 : 0 < len) (hl : len ≤ 64) (w : World) (hL : IsL w a len L) :
    Calls Try.prog 22 #[.int .i64 (n : Int), .slice a len cap] w fun e w' => e = .returned (ckV (rck n L)) ∧ Below w.heap.size w w' := by
  obtain ⟨b, off, rfl, hr⟩ := hL.2 hl0
  have h0L : 0 < L.length := by rw [hL.1]; exact hl0
  have s0 := RowOf.seven hr 0 h0L
  have HLL := Lib.hid hL.1
  have HR := Lib.hid hr
  have HH := Lib.hid (head_at L h0L)
  have hn0 : ((n : Int) == 0) = false := by simp; omega
  have hq0 : ((len : Int) == 0) = false := by simp; omega
  rw [Nat.zero_mul, Nat.add_zero] at s0
  clear hL hr
  generalize L[0] = r0 at *
  obtain ⟨a1, a2, a3, a4, a5, a6, a7⟩ := r0
  obtain ⟨k1, k2, k3, k4, _, _, _⟩ := s0
  dsimp only at *
  cases hs : isSheet ⟨a1, a2, a3, a4, a5, a6, a7⟩
  · have HS : Hid (headSheet L = false) := by unfold Hid; rw [HH.out, hs]
    have HN : ¬ (a1 = 1 ∧ a2 = 1 ∧ a3 = 1024 ∧ a4 = 1024) := by unfold isSheet at hs; simpa using hs
    clear HH hs
    go_enter Try.func22, Try.ntmps22
    go_wp2_with fail
    refine (all_in' n h2 _).mono ?_
    rintro e w' ⟨rfl, rfl⟩
    go_wp2_with fail
    all_goals
      first
        | (exfalso; omega)
        | (go_ret2
           exact ⟨retCk (rck_bad ⟨h1, h2⟩ ⟨hl0, hl⟩ HLL.out HS.out), by first | exact Below.refl _ _ | exact below_alloc _ _⟩)
  · have HS : Hid (headSheet L = true) := by unfold Hid; rw [HH.out, hs]
    unfold isSheet at hs
    simp at hs
    obtain ⟨rfl, rfl, rfl, rfl⟩ := hs
    clear HH
    go_enter Try.func22, Try.ntmps22
    go_wp2_with fail
    refine (all_in' n h2 _).mono ?_
    rintro e w' ⟨rfl, rfl⟩
    go_wp2_with fail
    clear k1 k2 k3 k4 hn0 hq0
    go_loopw [37] (fun i wr => ∃ k : Nat, k ≤ len ∧ i = .int .i64 k ∧ Hid (∀ j (hj : j < L.length), j < k → okRule n L[j] = true) ∧ Below w.heap.size w wr) (fun i _ => len - (intOf i).toNat)
    case atStart => exact ⟨0, Nat.zero_le _, rfl, fun j hj h => absurd h (by omega), by first | exact Below.refl _ _ | exact below_alloc _ _⟩
    case round =>
      obtain ⟨k, hk, rfl, HA, hB⟩ := hrel
      have HB := Lib.hid hB
      have hz := hB.size
      clear hB
      by_cases hlt : k < len
      · have hkL : k < L.length := by rw [HLL.out]; exact hlt
        have s := RowOf.seven (HR.out.later HB.out) k hkL
        have HBad : Hid (okRule n L[k] = false → rck n L = ((k : Int), badE L[k])) := fun e => rck_at ⟨h1, h2⟩ ⟨hl0, hl⟩ HLL.out HS.out k hkL HA.out e
        have HOK : Hid (okRule n L[k] = true → ∀ j (hj : j < L.length), j < k + 1 → okRule n L[j] = true) := fun e j hj hjk => by
          by_cases hh : j < k
          · exact HA.out j hj hh
          · obtain rfl : j = k := by omega
            exact e
        clear HA
        generalize L[k] = r at *
        obtain ⟨x1, x2, x3, x4, x5, x6, x7⟩ := r
        obtain ⟨c1, c2, c3, c4, c5, c6, c7⟩ := s
        obtain ⟨o1, o, q1, q2, q3⟩ := rigQ x5 x6 x7 n
        have Q1 := Lib.hid q1
        have Q2 := Lib.hid q2
        have Q3 := Lib.hid (show (bits .andNot .u64 (o.toNat : Int) ((allW n).toNat : Int) == 0) = rigB n ⟨x1, x2, x3, x4, x5, x6, x7⟩ from q3)
        clear q1 q2 q3
        dsimp only at *
        go_wp2_with fail
        refine (rcheck_any x1 x2 x3 x4 _).mono ?_
        rintro e w1 ⟨rfl, hB1⟩
        have HX := Lib.hid ((Box7.start wr ⟨x1, x2, x3, x4, x5, x6, x7⟩ 44).later hB1)
        have HB1 := Lib.hid (Below.next (HB.out.alloc hz _) hB1)
        clear hB1 c1 c2 c3 c4 c5 c6 c7
        cases hck : ckB x1 x2 x3 x4
        · rw [ckE_f hck]
          have HZ := Lib.hid (HBad.out (by unfold okRule; rw [hck]; rfl))
          have HE : Hid (badE ⟨x1, x2, x3, x4, x5, x6, x7⟩ = 3) := by unfold Hid badE; rw [hck]; rfl
          clear hck
          go_wp2_with fail
          go_ret2
          exact ⟨retCk (by rw [HZ.out, HE.out]), HB1.out⟩
        · rw [ckE_t hck]
          obtain ⟨_, d1, d2, d3, d4, d5, d6, d7⟩ := HX.out
          dsimp only at d5 d6 d7
          clear d1 d2 d3 d4
          have HE : Hid (badE ⟨x1, x2, x3, x4, x5, x6, x7⟩ = 2) := by unfold Hid badE; rw [hck]; rfl
          have HC := Lib.hid hck
          clear hck
          have q1 := Q1.out
          have q2 := Q2.out
          have q3 := Q3.out
          cases hrg : rigB n ⟨x1, x2, x3, x4, x5, x6, x7⟩
          · have HZ := Lib.hid (HBad.out (by unfold okRule; rw [hrg, Bool.and_false]))
            rw [hrg] at q3
            have q4 : (bits .andNot .u64 (o.toNat : Int) ((allW n).toNat : Int) != 0) = true := by rw [bne, q3]; rfl
            clear hrg
            go_wp2_with fail
            go_ret2
            exact ⟨retCk (by rw [HZ.out, HE.out]), HB1.out⟩
          · have HZ := Lib.hid (HOK.out (by unfold okRule; rw [hrg, HC.out]; rfl))
            rw [hrg] at q3
            have q4 : (bits .andNot .u64 (o.toNat : Int) ((allW n).toNat : Int) != 0) = false := by rw [bne, q3]; rfl
            clear hrg
            go_wp2_with fail
            go_roundw
            case rel =>
              exact ⟨k + 1, by omega, by go_num, HZ.out, HB1.out⟩
            case measure => simp [intOf]; omega
      · obtain rfl : k = len := by omega
        have HZ := Lib.hid (rck_ok ⟨h1, h2⟩ ⟨hl0, hl⟩ HLL.out HS.out (fun j hj => HA.out j hj (by have := HLL.out; omega)))
        go_wp2_with fail
        go_ret2
        exact ⟨retCk HZ.out, HB.out⟩
/-- A range at an address. -/
def Quad (w : World) (b off : Nat) (a1 a2 a3 a4 : Int) : Prop :=
  b < w.heap.size ∧ w.cell? ⟨b, off, none⟩ = some (.int .i64 a1) ∧ w.cell? ⟨b, off + 1, none⟩ = some (.int .i64 a2) ∧ w.cell? ⟨b, off + 2, none⟩ = some (.int .i64 a3) ∧ w.cell? ⟨b, off + 3, none⟩ = some (.int .i64 a4)
theorem Quad.later {w w' : World} {b off : Nat} {a1 a2 a3 a4 : Int} (h : Quad w b off a1 a2 a3 a4) (hB : Below w.heap.size w w') : Quad w' b off a1 a2 a3 a4 := by
  obtain ⟨h0, h1, h2, h3, h4⟩ := h
  have hc := (bcell hB).1
  exact ⟨Nat.lt_of_lt_of_le h0 hB.size, by rw [hc _ _ h0]; exact h1, by rw [hc _ _ h0]; exact h2, by rw [hc _ _ h0]; exact h3, by rw [hc _ _ h0]; exact h4⟩
theorem Quad.drew {w : World} {b off : Nat} {a1 a2 a3 a4 : Int} (h : Quad w b off a1 a2 a3 a4) : Quad w.drew b off a1 a2 a3 a4 := h
set_option maxHeartbeats 3200000 in
theorem scheck_d (n : Nat) (h1 : 1 ≤ n) (h2 : n ≤ 64) (a : Option Addr) (len cap : Nat) (L : List RV) (hl0 : 0 < len) (hl : len ≤ 64) (w : World) (hL : IsL w a len L) :
    Calls Try.prog 20 #[.int .i64 (n : Int), .slice a len cap] w fun e w' => e = .returned (ckV (rck n L)) ∧ Below w.heap.size w w' := by
  obtain ⟨b, off, rfl, hr⟩ := hL.2 hl0
  have h0L : 0 < L.length := by rw [hL.1]; exact hl0
  have s0 := RowOf.seven hr 0 h0L
  have HLL := Lib.hid hL.1
  have HR := Lib.hid hr
  have HH := Lib.hid (head_at L h0L)
  have hn0 : ¬ (n : Int) < 1 := by omega
  have hn1 : ¬ (64 : Int) < n := by omega
  have hn2 : decide ((64 : Int) < (n : Int)) = false := by simp; omega
  have hn3 : decide ((64 : Int) < (len : Int)) = false := by simp; omega
  have hq0 : ((len : Int) == 0) = false := by simp; omega
  rw [Nat.zero_mul, Nat.add_zero] at s0
  clear hL
  generalize L[0] = r0 at *
  obtain ⟨a1, a2, a3, a4, a5, a6, a7⟩ := r0
  obtain ⟨k1, k2, k3, k4, _, _, _⟩ := s0
  dsimp only at *
  have HQ : Hid (Quad w b off a1 a2 a3 a4) := ⟨hr.1, k1, k2, k3, k4⟩
  clear hr k1 k2 k3 k4
  rcases (show ¬ a1 = 1 ∨ (a1 = 1 ∧ ¬ a2 = 1) ∨ (a1 = 1 ∧ a2 = 1 ∧ ¬ a3 = 1024) ∨ (a1 = 1 ∧ a2 = 1 ∧ a3 = 1024 ∧ ¬ a4 = 1024) ∨ (a1 = 1 ∧ a2 = 1 ∧ a3 = 1024 ∧ a4 = 1024) by omega) with h | ⟨rfl, h⟩ | ⟨rfl, rfl, h⟩ | ⟨rfl, rfl, rfl, h⟩ | ⟨rfl, rfl, rfl, rfl⟩
  rotate_right
  · have HS : Hid (headSheet L = true) := by unfold Hid; rw [HH.out]; rfl
    clear HH
    go_enter Try.func20, Try.ntmps20
    go_wp2_with fail
    refine wp_region_seqi (fun X => Below w.heap.size w X ∧ Quad X b off _ _ _ _) (fun W W' hB ⟨h1, h2⟩ => ⟨Below.next h1 hB, h2.later hB⟩) (by kernel_rfl) (by kernel_rfl) (by kernel_rfl) ⟨(Below.refl _ _).drew, HQ.out.drew⟩ ?_
    simp only [putsL, Act.put, List.setIfInBounds_toArray, List.set_cons_zero, List.set_cons_succ, Nat.zero_add, Nat.reduceAdd]
    repeat (first
      | (refine seqi_run ?_ (fun vs W hD => (by first | rfl | (simp [DepA, isB, rsAt] at hD; simp [Region.wanted, yielded, hD]))) (fun vs W hS hD => ?_) ?_
         rotate_left
         (obtain ⟨_, _, c1, c2, c3, c4⟩ := hS; (try simp [DepA, isB, rsAt] at hD); (try simp only [hD]); (first | (go_simp; done) | (go_simp; rfl)))
         simp only [List.nil_append, List.cons_append])
      | (refine seqi_call (f := 33) (fun v _ => v = .agg #[.int .i64 1, .int .i64 1, .int .i64 1024, .int .i64 1024]) (stable_val _) (fun vs => #[]) (fun vs W hD => (by first | rfl | (simp [DepA, isB, rsAt] at hD; simp [Region.wanted, yielded, hD]))) (fun vs W hS hD => ?_) (fun vs W hS hD => ?_) ?_
         · (go_simp; done)
         · (exact (ssheet_any W).mono fun e W' ⟨he, hB⟩ => ⟨⟨_, he, rfl⟩, hB⟩)
         simp only [List.nil_append, List.cons_append]))
    refine seqi_end fun vs W hS hv => ?_
    simp only [AllF, Nat.zero_add, Nat.reduceAdd] at hv
    have HBW := Lib.hid hS.1
    clear hS HQ
    obtain ⟨h0, h1, h2, h3, h4, h5, _⟩ := hv
    simp only [h0, h1, h2, h3, h4, h5]
    clear h0 h1 h2 h3 h4 h5
    go_wp2_with fail
    go_loopw [6] (fun i wr => ∃ k : Nat, k ≤ len ∧ i = .int .i64 k ∧ Hid (∀ j (hj : j < L.length), j < k → okRule n L[j] = true) ∧ Below w.heap.size w wr) (fun i _ => len - (intOf i).toNat)
    case atStart => exact ⟨0, Nat.zero_le _, rfl, fun j hj h => absurd h (by omega), HBW.out⟩
    case round =>
      obtain ⟨k, hk, rfl, HA, hB⟩ := hrel
      have HB := Lib.hid hB
      have hz := hB.size
      clear hB
      by_cases hlt : k < len
      · have hkL : k < L.length := by rw [HLL.out]; exact hlt
        have s := RowOf.seven (HR.out.later HB.out) k hkL
        have hbk := (HR.out.later HB.out).1
        have HBad : Hid (okRule n L[k] = false → rck n L = ((k : Int), badE L[k])) := fun e => rck_at ⟨h1, h2⟩ ⟨hl0, hl⟩ HLL.out HS.out k hkL HA.out e
        have HOK : Hid (okRule n L[k] = true → ∀ j (hj : j < L.length), j < k + 1 → okRule n L[j] = true) := fun e j hj hjk => by
          by_cases hh : j < k
          · exact HA.out j hj hh
          · obtain rfl : j = k := by omega
            exact e
        clear HA
        generalize L[k] = r at *
        obtain ⟨x1, x2, x3, x4, x5, x6, x7⟩ := r
        obtain ⟨c1, c2, c3, c4, c5, c6, c7⟩ := s
        dsimp only at *
        cases hck : ckB x1 x2 x3 x4
        · have HZ := Lib.hid (HBad.out (by unfold okRule; rw [hck]; rfl))
          have HE : Hid (badE ⟨x1, x2, x3, x4, x5, x6, x7⟩ = 3) := by unfold Hid badE; rw [hck]; rfl
          have HCK := Lib.hid hck
          clear hck
          go_wp2_with fail
          refine (srange_any x1 x2 x3 x4 _).mono ?_
          rw [HCK.out]
          rintro e w1 ⟨rfl, hB1⟩
          have HB1 := Lib.hid (Below.next HB.out hB1)
          clear hB1
          go_wp2_with fail
          go_ret2
          exact ⟨retCk (by rw [HZ.out, HE.out]), by first | exact HB1.out | exact HB1.out.alloc HB1.out.size _⟩
        · have HE : Hid (badE ⟨x1, x2, x3, x4, x5, x6, x7⟩ = 2) := by unfold Hid badE; rw [hck]; rfl
          have HCK := Lib.hid hck
          clear hck
          go_wp2_with fail
          refine (srange_any x1 x2 x3 x4 _).mono ?_
          rw [HCK.out]
          rintro e w1 ⟨rfl, hB1⟩
          have HB1 := Lib.hid (Below.next HB.out hB1)
          have q := (bcell hB1).1
          have g5 : w1.cell? ⟨b, off + k * 7 + 4, none⟩ = some (.int .u64 (x5.toNat : Int)) := by rw [q _ _ hbk]; exact c5
          have g6 : w1.cell? ⟨b, off + k * 7 + 5, none⟩ = some (.int .u64 (x6.toNat : Int)) := by rw [q _ _ hbk]; exact c6
          have g7 : w1.cell? ⟨b, off + k * 7 + 6, none⟩ = some (.int .u64 (x7.toNat : Int)) := by rw [q _ _ hbk]; exact c7
          clear hB1 c1 c2 c3 c4 c5 c6 c7 q
          cases hr5 : winB x5 n
          · have HZ := Lib.hid (HBad.out (by unfold okRule rigB; simp [hr5]))
            have HR5 := Lib.hid hr5
            clear hr5
            go_wp2_with fail
            refine (swithin_any x5 n h2 _).mono ?_
            rw [HR5.out]
            rintro e w' ⟨rfl, rfl⟩
            go_wp2_with fail
            go_ret2
            exact ⟨retCk (by rw [HZ.out, HE.out]), by first | exact HB1.out | exact HB1.out.alloc HB1.out.size _⟩
          · have HR5 := Lib.hid hr5
            clear hr5
            cases hr6 : winB x6 n
            · have HZ := Lib.hid (HBad.out (by unfold okRule rigB; simp [hr6]))
              have HR6 := Lib.hid hr6
              clear hr6
              go_wp2_with fail
              refine (swithin_any x5 n h2 _).mono ?_
              rw [HR5.out]
              rintro e w' ⟨rfl, rfl⟩
              go_wp2_with fail
              refine (swithin_any x6 n h2 _).mono ?_
              rw [HR6.out]
              rintro e w' ⟨rfl, rfl⟩
              go_wp2_with fail
              go_ret2
              exact ⟨retCk (by rw [HZ.out, HE.out]), by first | exact HB1.out | exact HB1.out.alloc HB1.out.size _⟩
            · have HR6 := Lib.hid hr6
              clear hr6
              cases hr7 : winB x7 n
              · have HZ := Lib.hid (HBad.out (by unfold okRule rigB; simp [hr7]))
                have HR7 := Lib.hid hr7
                clear hr7
                go_wp2_with fail
                refine (swithin_any x5 n h2 _).mono ?_
                rw [HR5.out]
                rintro e w' ⟨rfl, rfl⟩
                go_wp2_with fail
                refine (swithin_any x6 n h2 _).mono ?_
                rw [HR6.out]
                rintro e w' ⟨rfl, rfl⟩
                go_wp2_with fail
                refine (swithin_any x7 n h2 _).mono ?_
                rw [HR7.out]
                rintro e w' ⟨rfl, rfl⟩
                go_wp2_with fail
                go_ret2
                exact ⟨retCk (by rw [HZ.out, HE.out]), by first | exact HB1.out | exact HB1.out.alloc HB1.out.size _⟩
              · have HR7 := Lib.hid hr7
                have HZ := Lib.hid (HOK.out (by unfold okRule rigB; simp [HCK.out, HR5.out, HR6.out, hr7]))
                clear hr7
                go_wp2_with fail
                refine (swithin_any x5 n h2 _).mono ?_
                rw [HR5.out]
                rintro e w' ⟨rfl, rfl⟩
                go_wp2_with fail
                refine (swithin_any x6 n h2 _).mono ?_
                rw [HR6.out]
                rintro e w' ⟨rfl, rfl⟩
                go_wp2_with fail
                refine (swithin_any x7 n h2 _).mono ?_
                rw [HR7.out]
                rintro e w' ⟨rfl, rfl⟩
                go_wp2_with fail
                go_roundw
                case rel => exact ⟨k + 1, by omega, by go_num, HZ.out, HB1.out.alloc HB1.out.size _⟩
                case measure => simp [intOf]; omega
      · obtain rfl : k = len := by omega
        have HZ := Lib.hid (rck_ok ⟨h1, h2⟩ ⟨hl0, hl⟩ HLL.out HS.out (fun j hj => HA.out j hj (by have := HLL.out; omega)))
        go_wp2_with fail
        go_ret2
        exact ⟨retCk HZ.out, HB.out⟩
  all_goals
    have HS : Hid (headSheet L = false) := by unfold Hid; rw [HH.out]; unfold isSheet; simp [h]
    clear HH
    go_enter Try.func20, Try.ntmps20
    go_wp2_with fail
    refine wp_region_seqi (fun X => Below w.heap.size w X ∧ Quad X b off _ _ _ _) (fun W W' hB ⟨h1, h2⟩ => ⟨Below.next h1 hB, h2.later hB⟩) (by kernel_rfl) (by kernel_rfl) (by kernel_rfl) ⟨(Below.refl _ _).drew, HQ.out.drew⟩ ?_
    simp only [putsL, Act.put, List.setIfInBounds_toArray, List.set_cons_zero, List.set_cons_succ, Nat.zero_add, Nat.reduceAdd]
    repeat (first
      | (refine seqi_run ?_ (fun vs W hD => (by first | rfl | (simp [DepA, isB, rsAt] at hD; simp [Region.wanted, yielded, hD]))) (fun vs W hS hD => ?_) ?_
         rotate_left
         (obtain ⟨_, _, c1, c2, c3, c4⟩ := hS; (try simp [DepA, isB, rsAt] at hD); (try simp only [hD]); (first | (go_simp; done) | (go_simp; rfl)))
         simp only [List.nil_append, List.cons_append])
      | (refine seqi_call (f := 33) (fun v _ => v = .agg #[.int .i64 1, .int .i64 1, .int .i64 1024, .int .i64 1024]) (stable_val _) (fun vs => #[]) (fun vs W hD => (by first | rfl | (simp [DepA, isB, rsAt] at hD; simp [Region.wanted, yielded, hD]))) (fun vs W hS hD => ?_) (fun vs W hS hD => ?_) ?_
         · (go_simp; done)
         · (exact (ssheet_any W).mono fun e W' ⟨he, hB⟩ => ⟨⟨_, he, rfl⟩, hB⟩)
         simp only [List.nil_append, List.cons_append]))
    refine seqi_end fun vs W hS hv => ?_
    simp only [AllF, Nat.zero_add, Nat.reduceAdd] at hv
    have HBW := Lib.hid hS.1
    clear hS HQ
    obtain ⟨h0, h1, h2, h3, h4, h5, _⟩ := hv
    simp only [h0, h1, h2, h3, h4, h5]
    clear h0 h1 h2 h3 h4 h5
    go_wp2_with fail
    go_ret2
    exact ⟨retCk (rck_bad ⟨h1, h2⟩ ⟨hl0, hl⟩ HLL.out HS.out), HBW.out⟩
end Go.Proofs.Ythgnhdfppmoooaa.Re
