/- Covers of both sides: contracts. -/
import Derived.Test.YtndijajaddkbhaaRectO
import Derived.Test.YtndijajaddkbhaaRectRefB
import Derived.Test.YtndijajaddkbhaaSeqI
namespace Go.Proofs.Ytndijajaddkbhaa.Re
open Go.RowKit AM
def ListR (L : List R4) (v : Value) (w : World) : Prop := ∃ a cap, v = .slice a L.length cap ∧ IsR w a L.length L
theorem ListR.later {L : List R4} {v : Value} {w w' : World} (h : ListR L v w) (hB : Below w.heap.size w w') : ListR L v w' := by
  obtain ⟨a, cap, e, h⟩ := h; exact ⟨a, cap, e, h.later hB⟩
theorem left_snoc (r : R4) (l : List R4) (k : Nat) (h : k < l.length) : leftL r (l.take (k + 1)) = goneL (leftL r (l.take k)) l[k] := by
  unfold leftL; rw [List.take_succ_eq_append_getElem h, List.foldl_append]; rfl
def covE (r : R4) (l : List R4) : Int := if (r.ck && l.all R4.ck) = true then 0 else 3
def covB (r : R4) (l : List R4) : Bool := (r.ck && l.all R4.ck) && ((leftL r l).length == 0)
theorem cov_f {r : R4} {l : List R4} (h : (r.ck && l.all R4.ck) = false) : covB r l = false ∧ covE r l = 3 := by
  unfold covB covE; rw [h]; exact ⟨rfl, rfl⟩
theorem cov_t {r : R4} {l : List R4} (h : (r.ck && l.all R4.ck) = true) : covB r l = ((leftL r l).length == 0) ∧ covE r l = 0 := by
  unfold covB covE; rw [h]; exact ⟨rfl, rfl⟩
theorem retCov {r : R4} {l : List R4} {b : Bool} {e : Int} (h : covB r l = b ∧ covE r l = e) : Ending.returned (.tuple #[.bool b, .int .i64 e]) = .returned (.tuple #[.bool (covB r l), .int .i64 (covE r l)]) := by rw [h.1, h.2]
theorem nat_beq (n : Nat) : (n == 0) = ((n : Int) == 0) := by
  rw [Bool.eq_iff_iff]; simp
theorem rchecksO_any (a : Option Addr) (n cap : Nat) (l : List R4) (hl : n ≤ 1000) (w : World) (hr : IsR w a n l) :
    Calls Try.prog 134 #[.slice a n cap] w fun e w' => e = .returned (.int .i64 (cksE l)) ∧ Below w.heap.size w w' := by
  by_cases h0 : n = 0
  · subst h0
    have hl0 : l = [] := List.eq_nil_of_length_eq_zero hr.1
    subst hl0
    go_enter Try.func134, Try.ntmps134
    go_wp2_with fail
    refine wp_loop_rounds 1 ?_
    rw [rounds_succ]
    go_wp2_with fail
    go_ret
    exact ⟨rfl, Below.refl _ _⟩
  · obtain ⟨b, off, rfl, hrr⟩ := hr.2 (by omega)
    obtain rfl := hr.1
    exact rchecks_any b off cap l (by omega) w hrr
set_option maxHeartbeats 3200000 in
theorem covers_any (r1 r2 r3 r4 : Int) (a : Option Addr) (n cap : Nat) (l : List R4) (hl : n ≤ 1000) (w : World) (hr : IsR w a n l) :
    Calls Try.prog 111 #[.agg #[.int .i64 r1, .int .i64 r2, .int .i64 r3, .int .i64 r4], .slice a n cap] w fun e w' => e = .returned (.tuple #[.bool (covB ⟨r1, r2, r3, r4⟩ l), .int .i64 (covE ⟨r1, r2, r3, r4⟩ l)]) ∧ Below w.heap.size w w' := by
  have HR := Lib.hid hr
  have HLL := Lib.hid hr.1
  have HF := Lib.hid (Four.start w r1 r2 r3 r4 30)
  clear hr
  go_enter Try.func111, Try.ntmps111
  go_wp2_with fail
  refine (rcheck_any r1 r2 r3 r4 _).mono ?_
  rintro e w1 ⟨rfl, hB1⟩
  have HB1 := Lib.hid (Below.next (below_alloc w _) hB1)
  have HF1 := Lib.hid (HF.out.later hB1)
  clear hB1 HF
  cases hc : ckB r1 r2 r3 r4
  · have HZ := Lib.hid (cov_f (r := ⟨r1, r2, r3, r4⟩) (l := l) (by show (ckB r1 r2 r3 r4 && _) = false; rw [hc]; rfl))
    rw [ckE_f hc]
    clear hc
    go_wp2_with fail
    go_ret2
    exact ⟨retCov HZ.out, HB1.out⟩
  · have HC := Lib.hid hc
    rw [ckE_t hc]
    clear hc
    go_wp2_with fail
    refine (rchecksO_any a n cap l hl _ (HR.out.later HB1.out)).mono ?_
    rintro e w2 ⟨rfl, hB2⟩
    have HB2 := Lib.hid (Below.next HB1.out hB2)
    have HF2 := Lib.hid (HF1.out.later hB2)
    clear hB2 HF1 HB1
    unfold cksE
    cases hal : l.all R4.ck
    · have HZ := Lib.hid (cov_f (r := ⟨r1, r2, r3, r4⟩) (l := l) (by rw [hal, Bool.and_false]))
      clear hal
      simp only [Bool.false_eq_true, if_false]
      go_wp2_with fail
      go_ret2
      exact ⟨retCov HZ.out, HB2.out⟩
    · have hck : (R4.ck ⟨r1, r2, r3, r4⟩ && l.all R4.ck) = true := by rw [hal, Bool.and_true]; exact HC.out
      have HZ := Lib.hid (cov_t hck)
      have hall : ∀ x ∈ l, x.ck = true := fun x hx => List.all_eq_true.1 hal x hx
      have HLK : Hid (∀ k, (∀ x ∈ leftL ⟨r1, r2, r3, r4⟩ (l.take k), x.ck = true) ∧ areas (leftL ⟨r1, r2, r3, r4⟩ (l.take k)) ≤ 1048576) := fun k => by
        obtain ⟨q1, q2⟩ := left_ck (r := ⟨r1, r2, r3, r4⟩) (l := l.take k) HC.out (fun b hb => hall b (List.mem_of_mem_take hb))
        have := area_max (r := ⟨r1, r2, r3, r4⟩) HC.out
        exact ⟨q1, by omega⟩
      have HALL : Hid (∀ k (h : k < l.length), l[k].ck = true) := fun k h => hall _ (List.getElem_mem h)
      have H0 : Hid (ListR (leftL ⟨r1, r2, r3, r4⟩ (l.take 0)) (.slice (some ⟨w2.heap.size, 0, none⟩) 1 1) (w2.alloc (.cells #[.int .i64 r1, .int .i64 r2, .int .i64 r3, .int .i64 r4] 30))) :=
        (OwnR.one (B := w2.heap.size) w2 (Nat.le_refl _) r1 r2 r3 r4).isR
      obtain ⟨_, f1, f2, f3, f4⟩ := HF2.out
      clear hck hall hal
      simp only [if_true]
      go_wp2_with fail
      go_loopw [8, 25] (fun v i wr => ∃ k : Nat, k ≤ n ∧ i = .int .i64 k ∧ ListR (leftL ⟨r1, r2, r3, r4⟩ (l.take k)) v wr ∧ Below w.heap.size w wr) (fun _ i _ => n - (intOf i).toNat)
      case atStart => exact ⟨0, Nat.zero_le _, rfl, H0.out, HB2.out.alloc HB2.out.size _⟩
      case round =>
        obtain ⟨k, hk, rfl, ⟨va, vc, rfl, hv⟩, hB⟩ := hrel
        have HV := Lib.hid hv
        have HB := Lib.hid hB
        clear hv hB f1 f2 f3 f4 H0
        by_cases hlt : k < n
        · obtain ⟨bb, off, rfl, hrr⟩ := (HR.out.later HB.out).2 (by omega)
          have hkl : k < l.length := by rw [HLL.out]; exact hlt
          obtain ⟨c1, c2, c3, c4⟩ := hrr.2 k hkl
          have HS := Lib.hid (left_snoc ⟨r1, r2, r3, r4⟩ l k hkl)
          have HCK := Lib.hid (HALL.out k hkl)
          obtain ⟨q1, q2⟩ := HLK.out k
          have HQ1 := Lib.hid q1
          have HQ2 := Lib.hid q2
          clear hrr q1 q2
          generalize l[k] = r at *
          obtain ⟨x1, x2, x3, x4⟩ := r
          dsimp only at *
          go_wp2_with fail
          have l1 := below_alloc wr (.cells #[.int .i64 x1, .int .i64 x2, .int .i64 x3, .int .i64 x4] 30)
          refine (without_any va _ vc (leftL ⟨r1, r2, r3, r4⟩ (l.take k)) x1 x2 x3 x4 _ HQ1.out HCK.out HQ2.out (HV.out.later l1)).mono ?_
          rintro e w3 ⟨⟨pv, rfl, ho⟩, hB3⟩
          have HB3 := Lib.hid (Below.next (Below.next HB.out l1) hB3)
          have HO : Hid (ListR (leftL ⟨r1, r2, r3, r4⟩ (l.take (k + 1))) pv w3) := by unfold Hid; rw [HS.out]; exact ho.isR
          clear hB3 l1 ho c1 c2 c3 c4
          go_wp2_with fail
          go_roundw
          case rel => exact ⟨k + 1, by omega, by go_num, HO.out, HB3.out⟩
          case measure => simp [intOf]; omega
        · obtain rfl : k = n := by omega
          have HT : Hid (l.take k = l) := List.take_of_length_le (by rw [HLL.out]; exact Nat.le_refl _)
          rw [HT.out] at HV ⊢
          go_wp2_with fail
          go_ret2
          refine ⟨retCov ⟨?_, HZ.out.2⟩, HB.out⟩
          rw [HZ.out.1]
          exact nat_beq _
/-- A range at an address. -/
def RectAt (w : World) (b off : Nat) (a1 a2 a3 a4 : Int) : Prop :=
  b < w.heap.size ∧ w.cell? ⟨b, off, none⟩ = some (.int .i64 a1) ∧ w.cell? ⟨b, off + 1, none⟩ = some (.int .i64 a2) ∧ w.cell? ⟨b, off + 2, none⟩ = some (.int .i64 a3) ∧ w.cell? ⟨b, off + 3, none⟩ = some (.int .i64 a4)
theorem RectAt.later {w w' : World} {b off : Nat} {a1 a2 a3 a4 : Int} (h : RectAt w b off a1 a2 a3 a4) (hB : Below w.heap.size w w') : RectAt w' b off a1 a2 a3 a4 := by
  obtain ⟨h0, h1, h2, h3, h4⟩ := h
  have hc := (bcell hB).1
  exact ⟨Nat.lt_of_lt_of_le h0 hB.size, by rw [hc _ _ h0]; exact h1, by rw [hc _ _ h0]; exact h2, by rw [hc _ _ h0]; exact h3, by rw [hc _ _ h0]; exact h4⟩
theorem RectAt.drew {w : World} {b off : Nat} {a1 a2 a3 a4 : Int} (h : RectAt w b off a1 a2 a3 a4) : RectAt w.drew b off a1 a2 a3 a4 := h
/-- A pair of a list and a code. -/
def PartsF (E : Int) (L : List R4) : Fact := fun v W => ∃ u, v = .tuple #[u, .int .i64 E] ∧ ListR L u W
theorem partsF_stable (E : Int) (L : List R4) : Stable (PartsF E L) := fun _ _ _ hB ⟨u, e, h⟩ => ⟨u, e, h.later hB⟩
theorem listR_stable (L : List R4) : Stable (fun v W => ListR L v W) := fun _ _ _ hB h => h.later hB
end Go.Proofs.Ytndijajaddkbhaa.Re
