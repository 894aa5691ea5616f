/- Texts of sets: reading leads back; the specification's reader. -/
import Derived.Test.YtbkbikkieabcmaaDoorGfP
namespace Go.Proofs.YtbkbikkieabcmaaDoor.Gf
open Go Go.RowKit
set_option linter.unusedVariables false
set_option linter.unusedSimpArgs false
theorem bitW_get (u i : Nat) (hi : i < 64) : (bitW u).getLsbD i = decide (i = u) := by
  unfold bitW
  rw [BitVec.getLsbD_shiftLeft]
  simp only [hi, decide_true, Bool.true_and, BitVec.getLsbD_one]
  rcases Nat.lt_trichotomy i u with h | h | h
  · simp [h]; omega
  · subst h; simp
  · have h1 : ¬ i < u := by omega
    have h2 : i - u ≠ 0 := by omega
    have h3 : i ≠ u := by omega
    simp [h1, h2, h3]
theorem rngW_get (s : W64) (f i : Nat) (hi : i < 64) : ∀ n, (rngW s f n).getLsbD i = (s.getLsbD i || decide (f ≤ i ∧ i < f + n))
  | 0 => by
    have : ¬ (f ≤ i ∧ i < f + 0) := by omega
    rw [decide_eq_false this, Bool.or_false]; rfl
  | n + 1 => by
    rw [rngW_succ, BitVec.getLsbD_or, rngW_get s f i hi n, bitW_get _ _ hi, Bool.or_assoc]
    congr 1
    by_cases h1 : i = f + n
    · subst h1; simp
    · by_cases h2 : f ≤ i ∧ i < f + n
      · rw [decide_eq_true h2, decide_eq_true (show f ≤ i ∧ i < f + (n + 1) by omega)]; rfl
      · rw [decide_eq_false h2, decide_eq_false h1, decide_eq_false (show ¬ (f ≤ i ∧ i < f + (n + 1)) by omega)]; rfl
/-- What has been read: the members below u. -/
def Rd (x s : W64) (u : Nat) : Prop := ∀ i, i < 64 → s.getLsbD i = (x.getLsbD i && decide (i < u))
theorem Rd.zero (x : W64) : Rd x 0#64 0 := fun i hi => by simp
theorem Rd.done {x s : W64} {u : Nat} (h : Rd x s u) (hu : 64 ≤ u) : s = x := by
  apply BitVec.eq_of_getLsbD_eq
  intro i hi
  rw [h i hi, decide_eq_true (by omega), Bool.and_true]
theorem Rd.skip {x s : W64} {u : Nat} (h : Rd x s u) (hb : x.getLsbD u = false) : Rd x s (u + 1) := fun i hi => by
  rw [h i hi]
  by_cases h1 : i = u
  · subst h1; rw [hb]; rfl
  · by_cases h2 : i < u
    · rw [decide_eq_true h2, decide_eq_true (show i < u + 1 by omega)]
    · rw [decide_eq_false h2, decide_eq_false (show ¬ i < u + 1 by omega)]
theorem Rd.range {x s : W64} {u n : Nat} (h : Rd x s u) (hb : ∀ i, u ≤ i → i < u + n → x.getLsbD i = true) : Rd x (rngW s u n) (u + n) := fun i hi => by
  rw [rngW_get s u i hi n, h i hi]
  by_cases h2 : i < u
  · rw [decide_eq_true h2, decide_eq_true (show i < u + n by omega), decide_eq_false (show ¬ (u ≤ i ∧ i < u + n) by omega)]; simp
  · by_cases h3 : i < u + n
    · rw [hb i (by omega) h3, decide_eq_true h3, decide_eq_true (show u ≤ i ∧ i < u + n by omega)]; simp
    · rw [decide_eq_false h2, decide_eq_false h3, decide_eq_false (show ¬ (u ≤ i ∧ i < u + n) by omega)]; simp
theorem vld_nat {k : Nat} (h : k < 64) : vld (k : Int) = true := vld_t (by omega)
theorem rdW_dg {k : Nat} (h : k < 64) : rdW (dg k) = some (k, k) := by
  have hc := cut_miss (dg k) 45 (dg_no h (by decide))
  rw [rdW_ok (k : Int) (k : Int) (by rw [hc]; exact atoi_dg h) (by rw [hc]; rfl), vld_nat h]
  rfl
theorem rdW_run {f l : Nat} (hf : f < 64) (hl : l < 64) : rdW (dg f ++ 45 :: dg l) = some (f, l) := by
  have hc := cut_hit (dg f) (dg l) 45 (dg_no hf (by decide))
  rw [rdW_ok (f : Int) (l : Int) (by rw [hc]; exact atoi_dg hf) (by rw [hc]; exact atoi_dg hl), vld_nat hf, vld_nat hl]
  rfl
theorem rdL_W (x : W64) : ∀ (n u : Nat) (s : W64), 64 - u ≤ n → u ≤ 64 → Rd x s u → rdL s (W x u) = some x
  | 0, u, s, hn, hu, h => by
    rw [W_end x (by omega)]
    show some s = some x
    rw [h.done (by omega)]
  | n + 1, u, s, hn, hu, h => by
    rcases Nat.lt_or_ge u 64 with hlt | hge
    · cases hb : x.getLsbD u
      · rw [W_not hb]
        exact rdL_W x n (u + 1) s (by omega) (by omega) (h.skip hb)
      · have hg := eo_gt hb
        have hle := eo_le (x := x) hu
        by_cases h2 : 2 ≤ eo x u - 1 - u
        · rw [W_run hb h2, rdL_cons, rdW_run hlt (by omega)]
          dsimp only
          have h3 := h.range (n := eo x u - 1 + 1 - u) (fun i h4 h5 => eo_in h4 (by omega))
          rw [show u + (eo x u - 1 + 1 - u) = eo x u by omega] at h3
          exact rdL_W x n (eo x u) _ (by omega) hle h3
        · rw [W_one hb h2, rdL_cons, rdW_dg hlt]
          dsimp only
          have h3 := h.range (n := u + 1 - u) (fun i h4 h5 => by obtain rfl : i = u := by omega
                                                                 exact hb)
          rw [show u + (u + 1 - u) = u + 1 by omega] at h3
          exact rdL_W x n (u + 1) _ (by omega) (by omega) h3
    · rw [W_end x hge]
      show some s = some x
      rw [h.done hge]
theorem rd_all (x : W64) : rdL 0#64 (W x 0) = some x := rdL_W x 64 0 0#64 (by omega) (by omega) (Rd.zero x)
theorem W_ne {x : W64} (h : x ≠ 0#64) : W x 0 ≠ [] := fun he => by
  have := rd_all x
  rw [he] at this
  exact h (Option.some.inj this).symm
/-- Words that Format writes. -/
def Gw (w : By) : Prop := (∃ k, k < 64 ∧ w = dg k) ∨ ∃ f l, f < 64 ∧ l < 64 ∧ w = dg f ++ 45 :: dg l
theorem W_good (x : W64) (u : Nat) : ∀ w ∈ W x u, Gw w := W_all x (fun k h => .inl ⟨k, h, rfl⟩) (fun f l hf hl => .inr ⟨f, l, hf, hl, rfl⟩) 64 u
theorem dg_head {k : Nat} (h : k < 64) : ∃ c r, dg k = c :: r ∧ 48 ≤ c.toNat := by
  have h1 := dg_ne k h
  have h2 := dg_digit h
  cases hd : dg k with
  | nil => exact absurd hd h1
  | cons c r => exact ⟨c, r, rfl, (h2 c (by rw [hd]; exact List.mem_cons_self ..)).1⟩
theorem Gw.head {w : By} (h : Gw w) : ∃ c r, w = c :: r ∧ 48 ≤ c.toNat := by
  rcases h with ⟨k, hk, rfl⟩ | ⟨f, l, hf, hl, rfl⟩
  · exact dg_head hk
  · obtain ⟨c, r, h1, h2⟩ := dg_head hf
    exact ⟨c, _, by rw [h1]; rfl, h2⟩
theorem join_head : ∀ (L : List By), L ≠ [] → (∀ w ∈ L, Gw w) → ∃ c r, Lib.join L [44] = c :: r ∧ 48 ≤ c.toNat
  | [], h, _ => absurd rfl h
  | [w], _, h => by rw [Lib.join_one]; exact (h w (List.mem_cons_self ..)).head
  | w :: y :: r, _, h => by
    obtain ⟨c, q, h1, h2⟩ := (h w (List.mem_cons_self ..)).head
    exact ⟨c, _, by rw [join_cons2, h1]; rfl, h2⟩
theorem rdS_fmt (x : W64) : rdS (fmtS x) = some x := by
  by_cases h0 : x = 0#64
  · subst h0; rfl
  by_cases h1 : x = BitVec.allOnes 64
  · subst h1; rfl
  rw [fmtS_gen h0 h1]
  obtain ⟨c, r, hj, hc⟩ := join_head (W x 0) (W_ne h0) (W_good x 0)
  have hw : wsOf (Lib.join (W x 0) [44]) = W x 0 := split_join 44 (W x 0) (W_ne h0) (fun w hw => (W_word x 0 w hw).2.2)
  unfold rdS
  rw [if_neg, if_neg, hw, rd_all]
  · rw [hj]; intro he; injection he with e1 e2; subst e1; exact absurd hc (by decide)
  · rw [hj]; intro he; injection he with e1 e2; subst e1; exact absurd hc (by decide)
theorem fmtS_inj {a b : W64} (h : fmtS a = fmtS b) : a = b := by
  have h1 := rdS_fmt a
  rw [h, rdS_fmt b] at h1
  exact (Option.some.inj h1).symm
theorem pzS_fmt (x : W64) : pzS (fmtS x) = (x, 0) := by
  unfold pzS; rw [rdS_fmt]; dsimp only; rw [if_pos rfl]
theorem pzS_cases (s : By) : (∃ x, fmtS x = s ∧ pzS s = (x, 0)) ∨ ((∀ x, fmtS x ≠ s) ∧ pzS s = (0#64, 4)) := by
  rcases Classical.em (∃ x, fmtS x = s) with ⟨x, h⟩ | h
  · subst h; exact .inl ⟨x, rfl, pzS_fmt x⟩
  · refine .inr ⟨fun x hx => h ⟨x, hx⟩, ?_⟩
    unfold pzS
    cases hr : rdS s with
    | none => rfl
    | some x => dsimp only; rw [if_neg (fun hx => h ⟨x, hx⟩)]
/-! The specification's reader -/
def rgI (fr n : Int) (x : W64) : W64 := rngW x (if fr < 0 then n else fr).toNat (n.toNat + 1 - (if fr < 0 then n else fr).toNat)
def sc : By → Int → Int → W64 → Option W64
  | [], fr, n, x => if n < 0 then none else some (rgI fr n x)
  | c :: r, fr, n, x =>
    if 48 ≤ c.toNat ∧ c.toNat ≤ 57 then
      if vld (max n 0 * 10 + ((c.toNat : Int) - 48)) then sc r fr (max n 0 * 10 + ((c.toNat : Int) - 48)) x else none
    else if n < 0 then none
    else if c.toNat = 45 then sc r n (-1) x
    else if c.toNat = 44 then sc r (-1) (-1) (rgI fr n x)
    else none
theorem sc_digit {c : UInt8} {r : By} {fr n m : Int} {x : W64} (h1 : 48 ≤ c.toNat ∧ c.toNat ≤ 57) (hm : max n 0 * 10 + ((c.toNat : Int) - 48) = m) (h2 : vld m = true) : sc (c :: r) fr n x = sc r fr m x := by
  conv => lhs; unfold sc
  rw [if_pos h1, hm, if_pos h2]
theorem sc_bad {c : UInt8} {r : By} {fr n m : Int} {x : W64} (h1 : 48 ≤ c.toNat ∧ c.toNat ≤ 57) (hm : max n 0 * 10 + ((c.toNat : Int) - 48) = m) (h2 : vld m = false) : sc (c :: r) fr n x = none := by
  conv => lhs; unfold sc
  rw [if_pos h1, hm, if_neg (by rw [h2]; decide)]
theorem sc_neg {c : UInt8} {r : By} {fr n : Int} {x : W64} (h1 : ¬ (48 ≤ c.toNat ∧ c.toNat ≤ 57)) (h2 : n < 0) : sc (c :: r) fr n x = none := by
  conv => lhs; unfold sc
  rw [if_neg h1, if_pos h2]
theorem sc_dash {c : UInt8} {r : By} {fr n : Int} {x : W64} (h1 : c.toNat = 45) (h2 : ¬ n < 0) : sc (c :: r) fr n x = sc r n (-1) x := by
  conv => lhs; unfold sc
  rw [if_neg (by omega), if_neg h2, if_pos h1]
theorem sc_comma {c : UInt8} {r : By} {fr n : Int} {x : W64} (h1 : c.toNat = 44) (h2 : ¬ n < 0) : sc (c :: r) fr n x = sc r (-1) (-1) (rgI fr n x) := by
  conv => lhs; unfold sc
  rw [if_neg (by omega), if_neg h2, if_neg (by omega), if_pos h1]
theorem sc_else {c : UInt8} {r : By} {fr n : Int} {x : W64} (h0 : ¬ (48 ≤ c.toNat ∧ c.toNat ≤ 57)) (h1 : c.toNat ≠ 44) (h2 : c.toNat ≠ 45) : sc (c :: r) fr n x = none := by
  conv => lhs; unfold sc
  rw [if_neg h0]
  by_cases hn : n < 0
  · rw [if_pos hn]
  · rw [if_neg hn, if_neg h2, if_neg h1]
theorem sc_dg {k : Nat} (h : k < 64) (r : By) (fr : Int) (x : W64) : sc (dg k ++ r) fr (-1) x = sc r fr (k : Int) x := by
  by_cases h1 : k < 10
  · rw [dg_1 h1]
    have e := u8_nat (show 48 + k < 256 by omega)
    exact sc_digit (by rw [e]; omega) (by rw [e]; omega) (vld_nat h)
  · rw [dg_2 h1 (by omega)]
    have ea := u8_nat (show 48 + k / 10 < 256 by omega)
    have eb := u8_nat (show 48 + k % 10 < 256 by omega)
    show sc (_ :: _ :: r) fr (-1) x = _
    rw [sc_digit (m := ((k / 10 : Nat) : Int)) (by rw [ea]; omega) (by rw [ea]; omega) (vld_nat (by omega))]
    exact sc_digit (by rw [eb]; omega) (by rw [eb]; omega) (vld_nat h)
theorem rgI_one (k : Nat) (x : W64) : rgI (-1) (k : Int) x = rngW x k (k + 1 - k) := by unfold rgI; simp
theorem rgI_run (f l : Nat) (x : W64) : rgI (f : Int) (l : Int) x = rngW x f (l + 1 - f) := by
  unfold rgI
  rw [if_neg (by omega)]
  simp
theorem sc_word {w : By} (hw : Gw w) (x : W64) : ∃ fr n : Int, 0 ≤ n ∧ (∀ r, sc (w ++ r) (-1) (-1) x = sc r fr n x) ∧ (∀ L, rdL x (w :: L) = rdL (rgI fr n x) L) := by
  rcases hw with ⟨k, hk, rfl⟩ | ⟨f, l, hf, hl, rfl⟩
  · exact ⟨-1, k, by omega, fun r => sc_dg hk r _ x, fun L => by rw [rdL_cons, rdW_dg hk, rgI_one]⟩
  · refine ⟨f, l, by omega, fun r => ?_, fun L => by rw [rdL_cons, rdW_run hf hl, rgI_run]⟩
    rw [List.append_assoc, sc_dg hf, List.cons_append, sc_dash (by decide) (by omega), sc_dg hl]
theorem sc_join : ∀ (L : List By) (x : W64), L ≠ [] → (∀ w ∈ L, Gw w) → sc (Lib.join L [44]) (-1) (-1) x = rdL x L
  | [], _, h, _ => absurd rfl h
  | [w], x, _, h => by
    obtain ⟨fr, n, h0, h1, h2⟩ := sc_word (h w (List.mem_cons_self ..)) x
    rw [Lib.join_one, h2, ← List.append_nil w, h1]
    unfold sc
    rw [if_neg (by omega)]; rfl
  | w :: y :: r, x, _, h => by
    obtain ⟨fr, n, h0, h1, h2⟩ := sc_word (h w (List.mem_cons_self ..)) x
    rw [join_cons2, List.append_assoc, h1, h2, List.singleton_append, sc_comma (by decide) (by omega)]
    exact sc_join (y :: r) _ (by simp) (fun z hz => h z (List.mem_cons_of_mem _ hz))
theorem sc_fmt {x : W64} (h0 : x ≠ 0#64) (h1 : x ≠ BitVec.allOnes 64) : sc (fmtS x) (-1) (-1) 0#64 = some x := by
  rw [fmtS_gen h0 h1, sc_join (W x 0) _ (W_ne h0) (W_good x 0), rd_all]
/-- What the specification's Parse answers: the same. -/
theorem fmt0 : fmtS 0#64 = [45] := rfl
theorem fmt1 : fmtS (BitVec.allOnes 64) = [42] := rfl
theorem pzS_star : pzS [42] = (BitVec.allOnes 64, 0) := pzS_fmt (BitVec.allOnes 64)
theorem pzS_dash : pzS [45] = (0#64, 0) := pzS_fmt 0#64
theorem pzS_none {s : By} (h1 : s ≠ [42]) (h2 : s ≠ [45]) (h : sc s (-1) (-1) 0#64 = none) : pzS s = (0#64, 4) := by
  rcases pzS_cases s with ⟨x, hx, _⟩ | ⟨_, hp⟩
  · subst hx
    rw [sc_fmt (fun e => h2 (by rw [e]; rfl)) (fun e => h1 (by rw [e]; rfl))] at h
    cases h
  · exact hp
theorem pzS_ne {s : By} {x : W64} (h1 : s ≠ [42]) (h2 : s ≠ [45]) (h : sc s (-1) (-1) 0#64 = some x) (hn : fmtS x ≠ s) : pzS s = (0#64, 4) := by
  rcases pzS_cases s with ⟨y, hx, _⟩ | ⟨_, hp⟩
  · subst hx
    rw [sc_fmt (fun e => h2 (by rw [e]; rfl)) (fun e => h1 (by rw [e]; rfl))] at h
    cases h
    exact absurd rfl hn
  · exact hp
theorem pzS_eq {s : By} {x : W64} (hn : fmtS x = s) : pzS s = (x, 0) := by subst hn; exact pzS_fmt x
end Go.Proofs.YtbkbikkieabcmaaDoor.Gf
