/- Grants in memory; the contracts of Check of both sides. -/
import Derived.Test.YtndijajaddkbhaaAclD
namespace Go.Proofs.Ytndijajaddkbhaa.Re
open Go.RowKit AM
/-- A grant. -/
structure GV where
  c1 : Int
  r1 : Int
  c2 : Int
  r2 : Int
  fns : BitVec 8
  tos : W64
  by_ : Int
  rev : Bool
def cells8 (g : GV) : List Value := [.int .i64 g.c1, .int .i64 g.r1, .int .i64 g.c2, .int .i64 g.r2, .int .u8 (g.fns.toNat : Int), .int .u64 (g.tos.toNat : Int), .int .i64 g.by_, .bool g.rev]
theorem cells8_len (g : GV) : (cells8 g).length = 8 := rfl
theorem cells8_one (g : GV) : ∀ u ∈ cells8 g, u.oneCell' = true := by
  intro u hu; simp [cells8] at hu; rcases hu with rfl | rfl | rfl | rfl | rfl | rfl | rfl | rfl <;> rfl
def GEight (w : World) (b off : Nat) (g : GV) : Prop :=
  w.cell? ⟨b, off, none⟩ = some (.int .i64 g.c1) ∧ w.cell? ⟨b, off + 1, none⟩ = some (.int .i64 g.r1) ∧ w.cell? ⟨b, off + 2, none⟩ = some (.int .i64 g.c2) ∧ w.cell? ⟨b, off + 3, none⟩ = some (.int .i64 g.r2) ∧
  w.cell? ⟨b, off + 4, none⟩ = some (.int .u8 (g.fns.toNat : Int)) ∧ w.cell? ⟨b, off + 5, none⟩ = some (.int .u64 (g.tos.toNat : Int)) ∧ w.cell? ⟨b, off + 6, none⟩ = some (.int .i64 g.by_) ∧ w.cell? ⟨b, off + 7, none⟩ = some (.bool g.rev)
theorem RowOf.eight {w : World} {b off : Nat} {L : List GV} (h : RowOf cells8 8 w b off L) (k : Nat) (hk : k < L.length) : GEight w b (off + k * 8) L[k] :=
  ⟨h.2 k hk 0 _ rfl, h.2 k hk 1 _ rfl, h.2 k hk 2 _ rfl, h.2 k hk 3 _ rfl, h.2 k hk 4 _ rfl, h.2 k hk 5 _ rfl, h.2 k hk 6 _ rfl, h.2 k hk 7 _ rfl⟩
abbrev IsG (w : World) (a : Option Addr) (n : Nat) (L : List GV) : Prop := IsOf cells8 8 w a n L
abbrev OwnG (B : Nat) (w : World) (v : Value) (L : List GV) : Prop := OwnOf 68 cells8 8 B w v L
theorem infoGrant : (Try.prog.info? 68).map (fun i => (i.zero, i.size, i.bytes)) = some (some (.agg #[.int .i64 0, .int .i64 0, .int .i64 0, .int .i64 0, .int .u8 0, .int .u64 0, .int .i64 0, .bool false]), 8, 64) := by kernel_rfl
theorem zero8 : (Value.agg #[.int .i64 0, .int .i64 0, .int .i64 0, .int .i64 0, .int .u8 0, .int .u64 0, .int .i64 0, .bool false]).cells.size = 8 := rfl
/-- A grant in a block of its own. -/
def Box8 (w : World) (p : Nat) (g : GV) : Prop := p < w.heap.size ∧ GEight w p 0 g
theorem Box8.later {w w' : World} {p : Nat} {g : GV} (h : Box8 w p g) (hB : Below w.heap.size w w') : Box8 w' p g := by
  obtain ⟨h0, h1, h2, h3, h4, h5, h6, h7, h8⟩ := h
  have hc := (bcell hB).1
  exact ⟨Nat.lt_of_lt_of_le h0 hB.size, by rw [hc _ _ h0]; exact h1, by rw [hc _ _ h0]; exact h2, by rw [hc _ _ h0]; exact h3, by rw [hc _ _ h0]; exact h4, by rw [hc _ _ h0]; exact h5, by rw [hc _ _ h0]; exact h6, by rw [hc _ _ h0]; exact h7, by rw [hc _ _ h0]; exact h8⟩
theorem Box8.start (w : World) (g : GV) (t : TypeId) : Box8 (w.alloc (.cells (cells8 g).toArray t)) w.heap.size g := by
  refine ⟨by simp, ?_, ?_, ?_, ?_, ?_, ?_, ?_, ?_⟩ <;> simp [cells8]
/-- The first that is not good. -/
def findB {α : Type} (ok : α → Bool) (bad : α → Int) : List α → Nat → Int × Int
  | [], _ => (0, 0)
  | r :: l, i => if ok r then findB ok bad l (i + 1) else ((i : Int), bad r)
section
variable {α : Type} {ok : α → Bool} {bad : α → Int}
theorem findB_at : ∀ (L : List α) (i k : Nat) (h : k < L.length), (∀ j (hj : j < L.length), j < k → ok L[j] = true) → ok L[k] = false → findB ok bad L i = (((i + k : Nat) : Int), bad L[k]) := by
  intro L
  induction L with
  | nil => intro i k h; cases h
  | cons r L ih =>
    intro i k h hall hk
    cases k with
    | zero => unfold findB; rw [if_neg (by simp at hk; rw [hk]; decide)]; rfl
    | succ k =>
      unfold findB
      rw [if_pos (show ok r = true from hall 0 (by simp) (by omega)), ih (i + 1) k (by simpa using h) (fun j hj hjk => hall (j + 1) (by simpa using hj) (by omega)) hk]
      rw [show i + 1 + k = i + (k + 1) by omega]; rfl
theorem findB_none : ∀ (L : List α) (i : Nat), (∀ j (hj : j < L.length), ok L[j] = true) → findB ok bad L i = (0, 0) := by
  intro L
  induction L with
  | nil => intro i _; rfl
  | cons r L ih =>
    intro i hall
    unfold findB
    rw [if_pos (show ok r = true from hall 0 (by simp)), ih (i + 1) (fun j hj => hall (j + 1) (by simpa using hj))]
theorem findB_zero (hb : ∀ r, bad r ≠ 0) : ∀ (L : List α) (i : Nat), (findB ok bad L i).2 = 0 ↔ ∀ j (hj : j < L.length), ok L[j] = true := by
  intro L
  induction L with
  | nil =>
    intro i
    constructor
    · intro _ j hj; exact absurd hj (by simp)
    · intro _; rfl
  | cons r L ih =>
    intro i
    unfold findB
    cases h : ok r
    · rw [if_neg (by decide)]
      constructor
      · intro h0; exact absurd h0 (hb r)
      · intro h0; have := h0 0 (by simp); simp [h] at this
    · rw [if_pos rfl, ih (i + 1)]
      constructor
      · intro h0 j hj
        cases j with
        | zero => exact h
        | succ j => exact h0 j (by simpa using hj)
      · intro h0 j hj; exact h0 (j + 1) (by simpa using hj)
end
def fnsB (f : BitVec 8) : Bool := decide (0 < f.toNat ∧ f.toNat ≤ 31)
def okG (n : Nat) (g : GV) : Bool := ckB g.c1 g.r1 g.c2 g.r2 && (fnsB g.fns && (winB g.tos n && decide (0 ≤ g.by_ ∧ g.by_ < (n : Int))))
def badG (g : GV) : Int := if ckB g.c1 g.r1 g.c2 g.r2 then 2 else 3
theorem badG_ne (g : GV) : badG g ≠ 0 := by unfold badG; split <;> decide
def gck (n : Int) (L : List GV) : Int × Int := if n < 1 ∨ 64 < n then (0, 2) else if 64 < L.length then (64, 5) else findB (okG n.toNat) badG L 0
theorem gck_out {n : Int} {L : List GV} (h : n < 1 ∨ 64 < n) : gck n L = (0, 2) := by unfold gck; rw [if_pos h]
theorem gck_long {n : Int} {L : List GV} (h : 1 ≤ n ∧ n ≤ 64) (hl : 64 < L.length) : gck n L = (64, 5) := by unfold gck; rw [if_neg (by omega), if_pos hl]
theorem gck_at {n : Nat} {L : List GV} {len : Nat} (hn : 1 ≤ n ∧ n ≤ 64) (hl : len ≤ 64) (hL : L.length = len) (k : Nat) (hk : k < L.length) (hall : ∀ j (hj : j < L.length), j < k → okG n L[j] = true) (e : okG n L[k] = false) :
    gck n L = ((k : Int), badG L[k]) := by
  unfold gck; rw [if_neg (by omega), if_neg (by omega), Int.toNat_natCast, findB_at L 0 k hk hall e, Nat.zero_add]
theorem gck_ok {n : Nat} {L : List GV} {len : Nat} (hn : 1 ≤ n ∧ n ≤ 64) (hl : len ≤ 64) (hL : L.length = len) (hall : ∀ j (hj : j < L.length), okG n L[j] = true) : gck n L = (0, 0) := by
  unfold gck; rw [if_neg (by omega), if_neg (by omega), Int.toNat_natCast, findB_none L 0 hall]
theorem allW_bit : ∀ n, n ≤ 64 → ∀ k, k < 64 → (allW n).getLsbD k = decide (k < n) := by
  intro n
  induction n with
  | zero => intro _ k hk; unfold allW orL; simp
  | succ n ih =>
    intro hn k hk
    rw [allW_succ, BitVec.getLsbD_or, ih (by omega) k hk]
    unfold bitW
    rw [BitVec.getLsbD_shiftLeft, BitVec.getLsbD_one]
    by_cases h : k < n
    · simp [h, show k < n + 1 by omega]
    · by_cases h2 : k = n
      · subst h2; simp; omega
      · simp only [h, decide_false, Bool.false_or, show ¬ k < n + 1 by omega]
        simp; omega
theorem has_all {n : Nat} (hn : n ≤ 64) (u : Int) : hasB (allW n) u = decide (0 ≤ u ∧ u < (n : Int)) := by
  unfold hasB vld
  by_cases h : 0 ≤ u ∧ u < 64
  · rw [decide_eq_true h, Bool.true_and, allW_bit n hn _ (by omega)]
    by_cases h2 : u < (n : Int)
    · rw [decide_eq_true (by omega), decide_eq_true ⟨h.1, h2⟩]
    · rw [decide_eq_false (by omega), decide_eq_false (by omega)]
  · rw [decide_eq_false h, decide_eq_false (by omega)]; rfl
set_option maxHeartbeats 3200000 in
theorem pcheck_d (n : Nat) (h1 : 1 ≤ n) (h2 : n ≤ 64) (a : Option Addr) (len cap : Nat) (L : List GV) (hl : len ≤ 64) (w : World) (hL : IsG w a len L) :
    Calls Try.prog 77 #[.int .i64 (n : Int), .slice a len cap] w fun e w' => e = .returned (ckV (gck n L)) ∧ Below w.heap.size w w' := by
  have HL := Lib.hid hL
  have HLL := Lib.hid hL.1
  have hn0 : ((n : Int) == 0) = false := by simp; omega
  clear hL
  go_enter Try.func77, Try.ntmps77
  go_wp2_with fail
  refine (all_in' n h2 _).mono ?_
  rintro e w' ⟨rfl, rfl⟩
  go_wp2_with fail
  go_loopw [26] (fun i wr => ∃ k : Nat, k ≤ len ∧ i = .int .i64 k ∧ Hid (∀ j (hj : j < L.length), j < k → okG n L[j] = true) ∧ Below w.heap.size w wr) (fun i _ => len - (intOf i).toNat)
  case atStart => exact ⟨0, Nat.zero_le _, rfl, fun j hj h => absurd h (by omega), by first | exact Below.refl _ _ | exact below_alloc _ _⟩
  case round =>
    obtain ⟨k, hk, rfl, HA, hB⟩ := hrel
    have HB := Lib.hid hB
    have hz := hB.size
    clear hB
    by_cases hlt : k < len
    · have hkL : k < L.length := by rw [HLL.out]; exact hlt
      obtain ⟨b, off, rfl, hr⟩ := (HL.out.later HB.out).2 (by omega)
      have hbl := hr.1
      have s := RowOf.eight hr k hkL
      have HBad : Hid (okG n L[k] = false → gck n L = ((k : Int), badG L[k])) := fun e => gck_at ⟨h1, h2⟩ hl HLL.out k hkL HA.out e
      have HOK : Hid (okG n L[k] = true → ∀ j (hj : j < L.length), j < k + 1 → okG n L[j] = true) := fun e j hj hjk => by
        by_cases hh : j < k
        · exact HA.out j hj hh
        · obtain rfl : j = k := by omega
          exact e
      clear HA hr
      generalize L[k] = r at *
      obtain ⟨x1, x2, x3, x4, x5, x6, x7, x8⟩ := r
      obtain ⟨c1, c2, c3, c4, c5, c6, c7, c8⟩ := s
      dsimp only at *
      go_wp2_with fail
      refine (rcheck_any x1 x2 x3 x4 _).mono ?_
      rintro e w1 ⟨rfl, hB1⟩
      have HX := Lib.hid ((Box8.start wr ⟨x1, x2, x3, x4, x5, x6, x7, x8⟩ 68).later hB1)
      have HB1 := Lib.hid (Below.next (HB.out.alloc hz _) hB1)
      clear hB1 c1 c2 c3 c4 c5 c6 c7 c8
      cases hck : ckB x1 x2 x3 x4
      · rw [ckE_f hck]
        have HZ := Lib.hid (HBad.out (by unfold okG; rw [hck]; rfl))
        have HE : Hid (badG ⟨x1, x2, x3, x4, x5, x6, x7, x8⟩ = 3) := by unfold Hid badG; rw [hck]; rfl
        clear hck
        go_wp2_with fail
        go_ret2
        exact ⟨retCk (by rw [HZ.out, HE.out]), HB1.out⟩
      · rw [ckE_t hck]
        obtain ⟨_, d1, d2, d3, d4, d5, d6, d7, d8⟩ := HX.out
        dsimp only at d5 d6 d7
        clear d1 d2 d3 d4 d8
        have HE : Hid (badG ⟨x1, x2, x3, x4, x5, x6, x7, x8⟩ = 2) := by unfold Hid badG; rw [hck]; rfl
        have HW := Lib.hid (winB_eq x6 n)
        have HH := Lib.hid (has_all h2 x7)
        have HC : Hid (okG n ⟨x1, x2, x3, x4, x5, x6, x7, x8⟩ = (fnsB x5 && (winB x6 n && decide (0 ≤ x7 ∧ x7 < (n : Int))))) := by unfold Hid okG; rw [hck]; rfl
        clear hck
        rw [HC.out] at HBad HOK
        have HFN : Hid (fnsB x5 = decide (0 < x5.toNat ∧ x5.toNat ≤ 31)) := rfl
        have h8 : x5.toNat < 256 := x5.isLt
        generalize x5.toNat = f at *
        by_cases hf0 : f = 0
        · have HZ := Lib.hid (HBad.out (by rw [HFN.out, decide_eq_false (by omega)]; rfl))
          subst hf0
          go_wp2_with fail
          go_ret2
          exact ⟨retCk (by rw [HZ.out, HE.out]), HB1.out⟩
        · by_cases hf1 : 31 < f
          · have HZ := Lib.hid (HBad.out (by rw [HFN.out, decide_eq_false (by omega)]; rfl))
            go_wp2_with fail
            go_ret2
            exact ⟨retCk (by rw [HZ.out, HE.out]), HB1.out⟩
          · have HF : Hid (fnsB x5 = true) := by unfold Hid; rw [HFN.out, decide_eq_true (by omega)]
            have hf3 : ((f : Int) == 0) = false := by simp; omega
            have hf4 : ¬ (31 < (f : Int)) := by omega
            cases hw : winB x6 n
            · have HZ := Lib.hid (HBad.out (by rw [HF.out, hw]; rfl))
              have q3 := HW.out
              rw [hw] at q3
              have q4 : (bits .andNot .u64 (x6.toNat : Int) ((allW n).toNat : Int) != 0) = true := by rw [bne, q3]; rfl
              clear hw
              go_wp2_with fail
              go_ret2
              exact ⟨retCk (by rw [HZ.out, HE.out]), HB1.out⟩
            · have q3 := HW.out
              rw [hw] at q3
              have q4 : (bits .andNot .u64 (x6.toNat : Int) ((allW n).toNat : Int) != 0) = false := by rw [bne, q3]; rfl
              have HWW := Lib.hid hw
              clear hw
              go_wp2_with fail
              refine (has_any (allW n) x7 _).mono ?_
              rintro e w2 ⟨rfl, rfl⟩
              rw [HH.out]
              cases hb : decide (0 ≤ x7 ∧ x7 < (n : Int))
              · have HZ := Lib.hid (HBad.out (by rw [HF.out, HWW.out, hb]; rfl))
                clear hb
                go_wp2_with fail
                go_ret2
                exact ⟨retCk (by rw [HZ.out, HE.out]), HB1.out⟩
              · have HZ := Lib.hid (HOK.out (by rw [HF.out, HWW.out, hb]; rfl))
                clear hb
                go_wp2_with fail
                go_roundw
                case rel => exact ⟨k + 1, by omega, by go_num, HZ.out, HB1.out⟩
                case measure => simp [intOf]; omega
    · obtain rfl : k = len := by omega
      have HZ := Lib.hid (gck_ok ⟨h1, h2⟩ hl HLL.out (fun j hj => HA.out j hj (by have := HLL.out; omega)))
      go_wp2_with fail
      go_ret2
      exact ⟨retCk HZ.out, HB.out⟩
theorem pcheck_any (n : Int) (a : Option Addr) (len cap : Nat) (L : List GV) (hl : len ≤ 100000) (w : World) (hL : IsG w a len L) :
    Calls Try.prog 77 #[.int .i64 n, .slice a len cap] w fun e w' => e = .returned (ckV (gck n L)) ∧ Below w.heap.size w w' := by
  by_cases hn : n < 0 ∨ 64 < n
  · have HK := Lib.hid (gck_out (n := n) (L := L) (by omega))
    go_enter Try.func77, Try.ntmps77
    go_wp2_with fail
    refine (all_out n hn _).mono ?_
    rintro e w' ⟨rfl, rfl⟩
    go_wp2_with fail
    go_ret2
    exact ⟨retCk HK.out, Below.refl _ _⟩
  obtain ⟨v, rfl⟩ : ∃ v : Nat, n = v := ⟨n.toNat, by omega⟩
  have hv : v ≤ 64 := by omega
  clear hn
  by_cases h0 : v = 0
  · subst h0
    have HK := Lib.hid (gck_out (n := ((0 : Nat) : Int)) (L := L) (by omega))
    go_enter Try.func77, Try.ntmps77
    go_wp2_with fail
    refine (all_in' 0 (by decide) _).mono ?_
    rintro e w' ⟨rfl, rfl⟩
    go_wp2_with fail
    go_ret2
    exact ⟨retCk HK.out, Below.refl _ _⟩
  have hv0 : ((v : Int) == 0) = false := by simp; omega
  by_cases hl1 : 64 < len
  · have HK := Lib.hid (gck_long (n := (v : Int)) (L := L) (by omega) (by have := hL.1; omega))
    go_enter Try.func77, Try.ntmps77
    go_wp2_with fail
    refine (all_in' v hv _).mono ?_
    rintro e w' ⟨rfl, rfl⟩
    go_wp2_with fail
    go_ret2
    exact ⟨retCk HK.out, Below.refl _ _⟩
  exact pcheck_d v (by omega) hv a len cap L (by omega) w hL
set_option maxHeartbeats 3200000 in
theorem pscheck_d (n : Nat) (h1 : 1 ≤ n) (h2 : n ≤ 64) (a : Option Addr) (len cap : Nat) (L : List GV) (hl : len ≤ 64) (w : World) (hL : IsG w a len L) :
    Calls Try.prog 51 #[.int .i64 (n : Int), .slice a len cap] w fun e w' => e = .returned (ckV (gck n L)) ∧ Below w.heap.size w w' := by
  have HL := Lib.hid hL
  have HLL := Lib.hid hL.1
  clear hL
  go_enter Try.func51, Try.ntmps51
  go_wp2_with fail
  go_loopw [6] (fun i wr => ∃ k : Nat, k ≤ len ∧ i = .int .i64 k ∧ Hid (∀ j (hj : j < L.length), j < k → okG n L[j] = true) ∧ Below w.heap.size w wr) (fun i _ => len - (intOf i).toNat)
  case atStart => exact ⟨0, Nat.zero_le _, rfl, fun j hj h => absurd h (by omega), by first | exact Below.refl _ _ | exact below_alloc _ _⟩
  case round =>
    obtain ⟨k, hk, rfl, HA, hB⟩ := hrel
    have HB := Lib.hid hB
    have hz := hB.size
    clear hB
    by_cases hlt : k < len
    · have hkL : k < L.length := by rw [HLL.out]; exact hlt
      obtain ⟨b, off, rfl, hr⟩ := (HL.out.later HB.out).2 (by omega)
      have hbl := hr.1
      have s := RowOf.eight hr k hkL
      have HBad : Hid (okG n L[k] = false → gck n L = ((k : Int), badG L[k])) := fun e => gck_at ⟨h1, h2⟩ hl HLL.out k hkL HA.out e
      have HOK : Hid (okG n L[k] = true → ∀ j (hj : j < L.length), j < k + 1 → okG n L[j] = true) := fun e j hj hjk => by
        by_cases hh : j < k
        · exact HA.out j hj hh
        · obtain rfl : j = k := by omega
          exact e
      clear HA hr
      generalize L[k] = r at *
      obtain ⟨x1, x2, x3, x4, x5, x6, x7, x8⟩ := r
      obtain ⟨c1, c2, c3, c4, c5, c6, c7, c8⟩ := s
      dsimp only at *
      go_wp2_with fail
      refine (srange_any x1 x2 x3 x4 _).mono ?_
      rintro e w1 ⟨rfl, hB1⟩
      have HX := Lib.hid ((Box8.start wr ⟨x1, x2, x3, x4, x5, x6, x7, x8⟩ 68).later hB1)
      have HB1 := Lib.hid (Below.next (HB.out.alloc hz _) hB1)
      clear hB1 c1 c2 c3 c4 c5 c6 c7 c8
      cases hck : ckB x1 x2 x3 x4
      · have HZ := Lib.hid (HBad.out (by unfold okG; rw [hck]; rfl))
        have HE : Hid (badG ⟨x1, x2, x3, x4, x5, x6, x7, x8⟩ = 3) := by unfold Hid badG; rw [hck]; rfl
        clear hck
        go_wp2_with fail
        go_ret2
        exact ⟨retCk (by rw [HZ.out, HE.out]), HB1.out⟩
      · obtain ⟨_, d1, d2, d3, d4, d5, d6, d7, d8⟩ := HX.out
        dsimp only at d5 d6 d7
        clear d1 d2 d3 d4 d8
        have HE : Hid (badG ⟨x1, x2, x3, x4, x5, x6, x7, x8⟩ = 2) := by unfold Hid badG; rw [hck]; rfl
        have HC : Hid (okG n ⟨x1, x2, x3, x4, x5, x6, x7, x8⟩ = (fnsB x5 && (winB x6 n && decide (0 ≤ x7 ∧ x7 < (n : Int))))) := by unfold Hid okG; rw [hck]; rfl
        clear hck
        rw [HC.out] at HBad HOK
        have HFN : Hid (fnsB x5 = decide (0 < x5.toNat ∧ x5.toNat ≤ 31)) := rfl
        have h8 : x5.toNat < 256 := x5.isLt
        generalize x5.toNat = f at *
        by_cases hf0 : f = 0
        · have HZ := Lib.hid (HBad.out (by rw [HFN.out, decide_eq_false (by omega)]; rfl))
          subst hf0
          go_wp2_with fail
          go_ret2
          exact ⟨retCk (by rw [HZ.out, HE.out]), HB1.out⟩
        · have hf2 : ¬ ((f : Int) < 1) := by omega
          by_cases hf1 : 31 < f
          · have HZ := Lib.hid (HBad.out (by rw [HFN.out, decide_eq_false (by omega)]; rfl))
            go_wp2_with fail
            go_ret2
            exact ⟨retCk (by rw [HZ.out, HE.out]), HB1.out⟩
          · have HF : Hid (fnsB x5 = true) := by unfold Hid; rw [HFN.out, decide_eq_true (by omega)]
            go_wp2_with fail
            refine (swithin_any x6 n h2 _).mono ?_
            rintro e w2 ⟨rfl, rfl⟩
            cases hw : winB x6 n
            · have HZ := Lib.hid (HBad.out (by rw [HF.out, hw]; rfl))
              clear hw
              go_wp2_with fail
              go_ret2
              exact ⟨retCk (by rw [HZ.out, HE.out]), HB1.out⟩
            · have HWW := Lib.hid hw
              clear hw
              by_cases hb0 : x7 < 0
              · have HZ := Lib.hid (HBad.out (by rw [HF.out, HWW.out, decide_eq_false (by omega)]; rfl))
                go_wp2_with fail
                go_ret2
                exact ⟨retCk (by rw [HZ.out, HE.out]), HB1.out⟩
              · by_cases hb1 : (n : Int) ≤ x7
                · have HZ := Lib.hid (HBad.out (by rw [HF.out, HWW.out, decide_eq_false (by omega)]; rfl))
                  go_wp2_with fail
                  go_ret2
                  exact ⟨retCk (by rw [HZ.out, HE.out]), HB1.out⟩
                · have HZ := Lib.hid (HOK.out (by rw [HF.out, HWW.out, decide_eq_true (by omega)]; rfl))
                  go_wp2_with fail
                  go_roundw
                  case rel => exact ⟨k + 1, by omega, by go_num, HZ.out, HB1.out⟩
                  case measure => simp [intOf]; omega
    · obtain rfl : k = len := by omega
      have HZ := Lib.hid (gck_ok ⟨h1, h2⟩ hl HLL.out (fun j hj => HA.out j hj (by have := HLL.out; omega)))
      go_wp2_with fail
      go_ret2
      exact ⟨retCk HZ.out, HB.out⟩
theorem pscheck_any (n : Int) (a : Option Addr) (len cap : Nat) (L : List GV) (w : World) (hL : IsG w a len L) :
    Calls Try.prog 51 #[.int .i64 n, .slice a len cap] w fun e w' => e = .returned (ckV (gck n L)) ∧ Below w.heap.size w w' := by
  by_cases hn0 : n < 1
  · have HK := Lib.hid (gck_out (n := n) (L := L) (by omega))
    go_enter Try.func51, Try.ntmps51
    go_wp2_with fail
    go_ret2
    exact ⟨retCk HK.out, Below.refl _ _⟩
  by_cases hn1 : 64 < n
  · have HK := Lib.hid (gck_out (n := n) (L := L) (by omega))
    go_enter Try.func51, Try.ntmps51
    go_wp2_with fail
    go_ret2
    exact ⟨retCk HK.out, Below.refl _ _⟩
  obtain ⟨v, rfl⟩ : ∃ v : Nat, n = v := ⟨n.toNat, by omega⟩
  by_cases hl1 : 64 < len
  · have HK := Lib.hid (gck_long (n := (v : Int)) (L := L) (by omega) (by have := hL.1; omega))
    go_enter Try.func51, Try.ntmps51
    go_wp2_with fail
    go_ret2
    exact ⟨retCk HK.out, Below.refl _ _⟩
  exact pscheck_d v (by omega) (by omega) a len cap L (by omega) w hL
end Go.Proofs.Ytndijajaddkbhaa.Re
