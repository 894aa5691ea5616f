/- Contracts of rect.One, Has, check, Meet and Inside. -/
import Derived.Test.YtbkbikkieabcmaaDoorRectA
namespace Go.Proofs.YtbkbikkieabcmaaDoor.Re
open Go.RowKit AM
def rhB (a b c d p q : Int) : Bool := decide (a ≤ p ∧ p ≤ c ∧ b ≤ q ∧ q ≤ d)
theorem rhB_t {a b c d p q : Int} (h : a ≤ p ∧ p ≤ c ∧ b ≤ q ∧ q ≤ d) : rhB a b c d p q = true := by unfold rhB; exact decide_eq_true h
theorem rhB_f {a b c d p q : Int} (h : ¬ (a ≤ p ∧ p ≤ c ∧ b ≤ q ∧ q ≤ d)) : rhB a b c d p q = false := by unfold rhB; exact decide_eq_false h
set_option maxHeartbeats 400000 in
theorem rhas_any (a b c d p q : Int) (w : World) :
    Calls Tryd.prog 13 #[.agg #[.int .i64 a, .int .i64 b, .int .i64 c, .int .i64 d], .agg #[.int .i64 p, .int .i64 q]] w fun e w' => e = .returned (.bool (rhB a b c d p q)) ∧ Below w.heap.size w w' := by
  have hbel : Below w.heap.size w ((w.alloc (.cells #[.int .i64 a, .int .i64 b, .int .i64 c, .int .i64 d] 23)).alloc (.cells #[.int .i64 p, .int .i64 q] 25)) := ((Below.refl _ _).alloc (Nat.le_refl _) _).alloc (by simp) _
  have HBEL := Lib.hid hbel
  clear hbel
  rcases Int.lt_or_le p a with h1 | h1
  · have hk := Lib.hid (rhB_f (a := a) (b := b) (c := c) (d := d) (p := p) (q := q) (by omega))
    go_enter Tryd.func13, Tryd.ntmps13
    go_wp2
    go_ret
    exact ⟨retB hk.out.symm, HBEL.out⟩
  · rcases Int.lt_or_le c p with h2 | h2
    · have hk := Lib.hid (rhB_f (a := a) (b := b) (c := c) (d := d) (p := p) (q := q) (by omega))
      go_enter Tryd.func13, Tryd.ntmps13
      go_wp2
      go_ret
      exact ⟨retB hk.out.symm, HBEL.out⟩
    · rcases Int.lt_or_le q b with h3 | h3
      · have hk := Lib.hid (rhB_f (a := a) (b := b) (c := c) (d := d) (p := p) (q := q) (by omega))
        go_enter Tryd.func13, Tryd.ntmps13
        go_wp2
        go_ret
        exact ⟨retB hk.out.symm, HBEL.out⟩
      · rcases Int.lt_or_le d q with h4 | h4
        · have hk := Lib.hid (rhB_f (a := a) (b := b) (c := c) (d := d) (p := p) (q := q) (by omega))
          go_enter Tryd.func13, Tryd.ntmps13
          go_wp2
          go_ret
          exact ⟨retB ((decide_eq_false (by omega)).trans hk.out.symm), HBEL.out⟩
        · have hk := Lib.hid (rhB_t (a := a) (b := b) (c := c) (d := d) (p := p) (q := q) (by omega))
          go_enter Tryd.func13, Tryd.ntmps13
          go_wp2
          go_ret
          exact ⟨retB hk.out.symm, HBEL.out⟩
/-! Ranges in memory -/
structure R4 where
  c1 : Int
  r1 : Int
  c2 : Int
  r2 : Int
def R4.ck (r : R4) : Bool := ckB r.c1 r.r1 r.c2 r.r2
/-- Block b holds ranges from off on. -/
def RRow (w : World) (b off : Nat) (l : List R4) : Prop :=
  b < w.heap.size ∧ ∀ k (h : k < l.length), w.cell? ⟨b, off + k * 4, none⟩ = some (.int .i64 l[k].c1) ∧ w.cell? ⟨b, off + k * 4 + 1, none⟩ = some (.int .i64 l[k].r1) ∧
    w.cell? ⟨b, off + k * 4 + 2, none⟩ = some (.int .i64 l[k].c2) ∧ w.cell? ⟨b, off + k * 4 + 3, none⟩ = some (.int .i64 l[k].r2)
theorem RRow.later {w w' : World} {b off : Nat} {l : List R4} (h : RRow w b off l) (hB : Below w.heap.size w w') : RRow w' b off l := by
  obtain ⟨h0, h1⟩ := h
  obtain ⟨hc, _⟩ := bcell hB
  have hz := hB.size
  refine ⟨by omega, fun k hk => ?_⟩
  rw [hc _ _ h0, hc _ _ h0, hc _ _ h0, hc _ _ h0]
  exact h1 k hk
def cksE (l : List R4) : Int := if l.all R4.ck = true then 0 else 3
theorem all_snoc (l : List R4) (k : Nat) (h : k < l.length) (ha : (l.take k).all R4.ck = true) (hc : l[k].ck = true) : (l.take (k + 1)).all R4.ck = true := by
  rw [List.take_succ_eq_append_getElem h, List.all_append, ha]; simp [hc]
theorem all_stop (l : List R4) (k : Nat) (h : k < l.length) (hc : l[k].ck = false) : cksE l = 3 := by
  unfold cksE
  rw [if_neg]
  intro ha
  have := List.all_eq_true.1 ha l[k] (List.getElem_mem h)
  rw [hc] at this; cases this
set_option maxHeartbeats 800000 in
theorem rchecks_any (b off cap : Nat) (l : List R4) (hl : l.length ≤ 1000000) (w : World) (hr : RRow w b off l) :
    Calls Tryd.prog 28 #[.slice (some ⟨b, off, none⟩) l.length cap] w fun e w' => e = .returned (.int .i64 (cksE l)) ∧ Below w.heap.size w w' := by
  have HR := Lib.hid hr
  clear hr
  go_enter Tryd.func28, Tryd.ntmps28
  go_wp2_with fail
  go_loopw [8] (fun i wr => ∃ k : Nat, k ≤ l.length ∧ i = .int .i64 k ∧ (l.take k).all R4.ck = true ∧ RRow wr b off l ∧ Below w.heap.size w wr) (fun i _ => l.length - (intOf i).toNat)
  case atStart => exact ⟨0, Nat.zero_le _, rfl, rfl, HR.out, Below.refl _ _⟩
  case round =>
    obtain ⟨k, hk, rfl, ha, hr, hB⟩ := hrel
    have HA := Lib.hid ha
    have HR := Lib.hid hr
    have HB := Lib.hid hB
    clear ha hr hB
    by_cases hlt : k < l.length
    · obtain ⟨c1, c2, c3, c4⟩ := HR.out.2 k hlt
      have HS := Lib.hid (all_snoc l k hlt HA.out)
      have HX := Lib.hid (all_stop l k hlt)
      have HZ := Lib.hid HB.out.size
      unfold R4.ck at HS HX
      generalize l[k] = r at *
      obtain ⟨x1, x2, x3, x4⟩ := r
      dsimp only at *
      go_wp2_with fail
      refine (rcheck_any x1 x2 x3 x4 _).mono ?_
      rintro e w1 ⟨rfl, hB1⟩
      have HR1 := Lib.hid ((HR.out.later (below_alloc _ _)).later hB1)
      have HB1 := Lib.hid (Below.next (HB.out.alloc HZ.out _) hB1)
      cases hc : ckB x1 x2 x3 x4
      · have HE := Lib.hid (ckE_f hc)
        have HE' := Lib.hid (HX.out hc)
        clear hc
        rw [HE.out]
        go_wp2_with fail
        go_ret
        exact ⟨retI' HE'.out.symm, HB1.out⟩
      · have HE := Lib.hid (ckE_t hc)
        have HE' := Lib.hid (HS.out hc)
        clear hc
        rw [HE.out]
        go_wp2_with fail
        go_roundw
        case rel => exact ⟨k + 1, by omega, by go_num, HE'.out, HR1.out, HB1.out⟩
        case measure => simp [intOf]; omega
    · have HE : Hid (cksE l = 0) := by
        unfold Hid cksE; have := HA.out; rw [List.take_of_length_le (by omega)] at this; rw [if_pos this]
      go_wp2_with fail
      go_ret
      exact ⟨retI' HE.out.symm, HB.out⟩
end Go.Proofs.YtbkbikkieabcmaaDoor.Re
