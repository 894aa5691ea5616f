/- The statements' test of a range and rules; mathematics of rights over ranges. -/
import Derived.Test.YtigofjamednfpaaOverF
namespace Go.Proofs.Ytigofjamednfpaa.Re
open Go.RowKit AM
def okA (r : R4) (L : List RV) : Bool := decide (L.length ≤ 40) && (decide ((rck 64 L).2 = 0) && r.ck)
theorem okA_iff {r : R4} {L : List RV} : okA r L = true ↔ L.length ≤ 40 ∧ gcE r L = 0 := by
  unfold okA
  rw [Bool.and_eq_true, Bool.and_eq_true, decide_eq_true_iff, decide_eq_true_iff, gcE_zero]
  constructor
  · rintro ⟨h1, h2, h3⟩; exact ⟨h1, h3, h2⟩
  · rintro ⟨h1, h3, h2⟩; exact ⟨h1, h2, h3⟩
set_option maxHeartbeats 1600000 in
theorem valid20_any (r1 r2 r3 r4 : Int) (a : Option Addr) (len cap : Nat) (L : List RV) (w : World) (hL : IsL w a len L) :
    Calls Try.prog 18 #[.agg #[.int .i64 r1, .int .i64 r2, .int .i64 r3, .int .i64 r4], .slice a len cap] w fun e w' => e = .returned (.bool (okA ⟨r1, r2, r3, r4⟩ L)) ∧ Below w.heap.size w w' := by
  have HL := Lib.hid hL
  have HLL := Lib.hid hL.1
  clear hL
  have HF := Lib.hid (Four.start w r1 r2 r3 r4 23)
  have HB := Lib.hid (below_alloc w (.cells #[.int .i64 r1, .int .i64 r2, .int .i64 r3, .int .i64 r4] 23))
  go_enter Try.func18, Try.ntmps18
  go_wp2_with fail
  generalize w.alloc (.cells #[.int .i64 r1, .int .i64 r2, .int .i64 r3, .int .i64 r4] 23) = w0 at *
  refine (scheck_big 64 a len cap L _ (HL.out.later HB.out)).mono ?_
  rintro e w1 ⟨rfl, hB1⟩
  have HF1 := Lib.hid (HF.out.later hB1)
  have HB1 := Lib.hid (Below.next HB.out hB1)
  clear hB1 HF HB
  obtain ⟨_, e1, e2, e3, e4⟩ := HF1.out
  unfold ckV
  have HOK : Hid (okA ⟨r1, r2, r3, r4⟩ L = (decide (len ≤ 40) && (decide ((rck 64 L).2 = 0) && ckB r1 r2 r3 r4))) := by unfold Hid okA; rw [HLL.out]; rfl
  generalize (rck 64 L).2 = c at *
  generalize (rck 64 L).1 = d at *
  by_cases hl : len ≤ 40
  · by_cases hc : c = 0
    · subst hc
      go_wp2_with fail
      refine (srange_any r1 r2 r3 r4 _).mono ?_
      rintro e w2 ⟨rfl, hB2⟩
      have HB2 := Lib.hid (Below.next HB1.out hB2)
      have HX : Hid ((decide (len ≤ 40) && (decide ((0 : Int) = 0) && ckB r1 r2 r3 r4)) = ckB r1 r2 r3 r4) := by unfold Hid; simp [hl]
      clear hB2
      generalize ckB r1 r2 r3 r4 = z at *
      cases z
      all_goals
        go_wp2_with fail
        go_ret
        exact ⟨by rw [HOK.out, HX.out]; rfl, HB2.out⟩
    · have HC : Hid (decide (c = 0) = false) := decide_eq_false hc
      have hc1 : (c == 0) = false := by simpa using hc
      go_wp2_with fail
      go_ret
      exact ⟨by rw [HOK.out, HC.out]; simp, HB1.out⟩
  · have HC : Hid (decide (len ≤ 40) = false) := decide_eq_false hl
    go_wp2_with fail
    go_ret
    exact ⟨by rw [HOK.out, HC.out]; simp, HB1.out⟩
/-- What the rights over a range say: the premises of ovr_bit from valid arguments. -/
theorem ovr_iff {f : RV → W64} {r : R4} {L : List RV} (h : gcE r L = 0) {b : Nat} (hb : b < 64) :
    (ovr f r L).getLsbD b = true ↔ ∀ p q, has4 r p q = true → (f (ruleAt L (lastI L p q L.length))).getLsbD b = true := by
  obtain ⟨hr, hc⟩ := gcE_zero.1 h
  obtain ⟨h0, h64, hs, hok⟩ := rck_zero.1 hc
  exact ovr_bit hr h0 (fun k hk => okRule_ck (hok k hk)) hs hb
theorem gcE_sub {r a : R4} {L : List RV} (h : gcE r L = 0) (ha : a.ck = true) : gcE a L = 0 := gcE_zero.2 ⟨ha, (gcE_zero.1 h).2⟩
/-- Two parts. -/
theorem ovr_two {f : RV → W64} {r a b : R4} {L : List RV} (h : gcE r L = 0) (ha : a.ck = true) (hb : b.ck = true) (hab : ∀ p q, has4 r p q = true ↔ has4 a p q = true ∨ has4 b p q = true) :
    ovr f r L = ovr f a L &&& ovr f b L := by
  apply BitVec.eq_of_getLsbD_eq
  intro i hi
  rw [BitVec.getLsbD_and, Bool.eq_iff_iff, Bool.and_eq_true, ovr_iff h hi, ovr_iff (gcE_sub h ha) hi, ovr_iff (gcE_sub h hb) hi]
  constructor
  · intro hh
    exact ⟨fun p q hp => hh p q ((hab p q).2 (.inl hp)), fun p q hp => hh p q ((hab p q).2 (.inr hp))⟩
  · rintro ⟨h1, h2⟩ p q hp
    rcases (hab p q).1 hp with h | h
    · exact h1 p q h
    · exact h2 p q h
theorem split_row {r1 r2 r3 r4 x : Int} (hr : (⟨r1, r2, r3, r4⟩ : R4).ck = true) (h1 : r2 ≤ x) (h2 : x < r4) :
    (⟨r1, r2, r3, x⟩ : R4).ck = true ∧ (⟨r1, x + 1, r3, r4⟩ : R4).ck = true ∧ ∀ p q, has4 ⟨r1, r2, r3, r4⟩ p q = true ↔ has4 ⟨r1, r2, r3, x⟩ p q = true ∨ has4 ⟨r1, x + 1, r3, r4⟩ p q = true := by
  unfold R4.ck at *
  rw [ckB_iff] at *
  dsimp only at *
  refine ⟨by omega, by rw [ckB_iff]; omega, fun p q => ?_⟩
  rw [has4_iff, has4_iff, has4_iff]
  dsimp only
  omega
theorem split_col {r1 r2 r3 r4 x : Int} (hr : (⟨r1, r2, r3, r4⟩ : R4).ck = true) (h1 : r1 ≤ x) (h2 : x < r3) :
    (⟨r1, r2, x, r4⟩ : R4).ck = true ∧ (⟨x + 1, r2, r3, r4⟩ : R4).ck = true ∧ ∀ p q, has4 ⟨r1, r2, r3, r4⟩ p q = true ↔ has4 ⟨r1, r2, x, r4⟩ p q = true ∨ has4 ⟨x + 1, r2, r3, r4⟩ p q = true := by
  unfold R4.ck at *
  rw [ckB_iff] at *
  dsimp only at *
  refine ⟨by omega, by rw [ckB_iff]; omega, fun p q => ?_⟩
  rw [has4_iff, has4_iff, has4_iff]
  dsimp only
  omega
end Go.Proofs.Ytigofjamednfpaa.Re
