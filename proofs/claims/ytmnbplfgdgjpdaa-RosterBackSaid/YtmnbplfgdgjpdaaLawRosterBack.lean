/- The walk of the law. -/
import Derived.Test.YtmnbplfgdgjpdaaLawRosterKeeps
namespace Go.Proofs.Ytmnbplfgdgjpdaa
open Go.RowKit
theorem login_some (b : Nat) (n : Int) (hn : n ≤ 64) (S : Nat → Bool) (u : Int) (w : World) (hr : Ros w b n S) :
    Calls Try.prog 29 #[.pointer (some ⟨b, 0, none⟩), .int .i64 u] w fun e w' => ∃ c S', e = .returned (.int .i64 c) ∧ Ros w' b n S' ∧ ∀ B, B ≤ b → Below B w w' := by
  by_cases h : u < 0 ∨ n ≤ u
  · refine (login_range b n S u h w hr).mono ?_
    rintro e w' ⟨rfl, rfl⟩
    exact ⟨_, S, rfl, hr, fun _ _ => Below.refl _ _⟩
  · obtain ⟨v, rfl⟩ : ∃ v : Nat, u = v := ⟨u.toNat, by omega⟩
    cases hs : S v
    · refine (login_in b n S v (by omega) (by omega) w hr hs).mono ?_
      rintro e w' ⟨rfl, h1, h2⟩
      exact ⟨_, _, rfl, h1, h2⟩
    · refine (login_same b n S v (by omega) (by omega) w hr hs).mono ?_
      rintro e w' ⟨rfl, rfl⟩
      exact ⟨_, S, rfl, hr, fun _ _ => Below.refl _ _⟩
theorem logout_some (b : Nat) (n : Int) (hn : n ≤ 64) (S : Nat → Bool) (u : Int) (w : World) (hr : Ros w b n S) :
    Calls Try.prog 27 #[.pointer (some ⟨b, 0, none⟩), .int .i64 u] w fun e w' => ∃ c S', e = .returned (.int .i64 c) ∧ Ros w' b n S' ∧ ∀ B, B ≤ b → Below B w w' := by
  by_cases h : u < 0 ∨ n ≤ u
  · refine (logout_range b n S u h w hr).mono ?_
    rintro e w' ⟨rfl, rfl⟩
    exact ⟨_, S, rfl, hr, fun _ _ => Below.refl _ _⟩
  · obtain ⟨v, rfl⟩ : ∃ v : Nat, u = v := ⟨u.toNat, by omega⟩
    cases hs : S v
    · refine (logout_same b n S v (by omega) (by omega) w hr hs).mono ?_
      rintro e w' ⟨rfl, rfl⟩
      exact ⟨_, S, rfl, hr, fun _ _ => Below.refl _ _⟩
    · refine (logout_in b n S v (by omega) (by omega) w hr hs).mono ?_
      rintro e w' ⟨rfl, h1, h2⟩
      exact ⟨_, _, rfl, h1, h2⟩
theorem rem_facts (u n : Int) (h1 : 1 ≤ n) (h2 : n ≤ 64) : ∃ v : Nat, (u.tmod n + n).tmod n = v ∧ (v : Int) < n ∧ -64 < u.tmod n ∧ u.tmod n < 64 := by
  have a := Int.tmod_lt_of_pos u (show 0 < n by omega)
  have b : -n < u.tmod n := by
    have := Int.lt_tmod_of_pos u (show 0 < n by omega)
    omega
  have c : 0 ≤ (u.tmod n + n).tmod n := Int.tmod_nonneg _ (by omega)
  have d := Int.tmod_lt_of_pos (u.tmod n + n) (show 0 < n by omega)
  exact ⟨((u.tmod n + n).tmod n).toNat, by omega, by omega, by omega, by omega⟩
theorem updS_back (S : Nat → Bool) (v : Nat) (b c : Bool) (h : S v = c) : updS (updS S v b) v c = S := by
  funext i
  unfold updS
  by_cases e : i = v
  · subst e; simp [h]
  · simp [e]
theorem updS_at (S : Nat → Bool) (v : Nat) (b : Bool) : updS S v b v = b := by unfold updS; simp
theorem setW_off (S : Nat → Bool) (v : Nat) : setW (updS S v false) = setW S &&& ~~~(1#64 <<< v) := by
  apply BitVec.eq_of_getLsbD_eq
  intro i hi
  rw [getLsb_setW _ i hi, BitVec.getLsbD_and, getLsb_setW _ i hi, BitVec.getLsbD_not, getLsb_bit _ _ hi]
  unfold updS
  by_cases h : i = v
  · simp [h]
  · simp [h, hi]
theorem setW_on (S : Nat → Bool) (v : Nat) : setW (updS S v true) = setW S ||| (1#64 <<< v) := by
  apply BitVec.eq_of_getLsbD_eq
  intro i hi
  rw [getLsb_setW _ i hi, BitVec.getLsbD_or, getLsb_setW _ i hi, getLsb_bit _ _ hi]
  unfold updS
  by_cases h : i = v
  · simp [h]
  · simp [h]
set_option maxHeartbeats 3200000 in
theorem rosterBack_law (n : Int) (a : Option Addr) (len cap : Nat) (D : Nat → Int × Bool) (user : Int) (w : World) (hd : IsD w a len D) :
    Calls Try.prog 9 #[.int .i64 n, .slice a len cap, .int .i64 user] w fun e w' => e = .returned (.bool true) ∧ Below w.heap.size w w' := by
  have HD := Lib.hid hd
  clear hd
  have key : n < 1 ∨ 64 < n ∨ (1 ≤ n ∧ n ≤ 64 ∧ 100 < len) ∨ (1 ≤ n ∧ n ≤ 64 ∧ len ≤ 100) := by omega
  rcases key with h1 | h1 | ⟨h1, h2, h3⟩ | ⟨h1, h2, h3⟩
  · go_enter Try.func9, Try.ntmps9
    go_wp2_with fail
    refine (known_any _).mono ?_
    rintro e w1 ⟨rfl, hb⟩
    go_wp2_with fail
    go_ret
    exact ⟨rfl, hb⟩
  · have h0 : ¬ n < 1 := by omega
    go_enter Try.func9, Try.ntmps9
    go_wp2_with fail
    refine (known_any _).mono ?_
    rintro e w1 ⟨rfl, hb⟩
    go_wp2_with fail
    go_ret
    exact ⟨rfl, hb⟩
  · go_enter Try.func9, Try.ntmps9
    go_wp2_with fail
    refine (known_any _).mono ?_
    rintro e w1 ⟨rfl, hb⟩
    go_wp2_with fail
    go_ret
    exact ⟨rfl, hb⟩
  · go_enter Try.func9, Try.ntmps9
    go_wp2_with fail
    refine (rnew_ok n h1 h2 _).mono ?_
    rintro e w1 ⟨rfl, hr, hb⟩
    have HR1 := Lib.hid (show Ros w1 w.heap.size n noS from hr)
    have HB1 := Lib.hid hb
    clear hr hb
    go_wp2_with fail
    go_loopw [9] (fun i wr => ∃ (k : Nat) (S : Nat → Bool), k ≤ len ∧ i = .int .i64 k ∧ Ros wr w.heap.size n S ∧ Below w.heap.size w wr) (fun i _ => len - (intOf i).toNat)
    case atStart => exact ⟨0, noS, Nat.zero_le _, rfl, HR1.out, HB1.out⟩
    case round =>
      obtain ⟨k, S, hk, rfl, hr, hb⟩ := hrel
      have HR := Lib.hid hr
      have HB := Lib.hid hb
      clear hr hb
      by_cases hlt : k < len
      · obtain ⟨x, rfl, hx, hcell⟩ := HD.out.later HB.out (by omega)
        obtain ⟨c1, c2⟩ := hcell k hlt
        clear hcell
        generalize D k = d at c1 c2
        obtain ⟨u, o⟩ := d
        dsimp only at c1 c2
        cases o
        · go_wp2_with fail
          refine (login_some w.heap.size n h2 S u _ HR.out).mono ?_
          rintro e w2 ⟨c, S', rfl, hr, hb⟩
          have HR2 := Lib.hid hr
          have HB2 := Lib.hid (HB.out.trans (hb _ (Nat.le_refl _)))
          clear hr hb
          go_wp2_with fail
          go_roundw
          case rel => exact ⟨k + 1, S', by omega, by go_num, HR2.out, HB2.out⟩
          case measure => simp [intOf]; omega
        · go_wp2_with fail
          refine (logout_some w.heap.size n h2 S u _ HR.out).mono ?_
          rintro e w2 ⟨c, S', rfl, hr, hb⟩
          have HR2 := Lib.hid hr
          have HB2 := Lib.hid (HB.out.trans (hb _ (Nat.le_refl _)))
          clear hr hb
          go_wp2_with fail
          go_roundw
          case rel => exact ⟨k + 1, S', by omega, by go_num, HR2.out, HB2.out⟩
          case measure => simp [intOf]; omega
      · obtain ⟨v, hv, hvn, hm1, hm2⟩ := rem_facts user n h1 h2
        have HV := Lib.hid hv
        clear hv
        have hn0 : ¬ n = 0 := by omega
        have hv64 : v < 64 := by omega
        have hH : (bits .and .u64 (((setW S).toNat : Int) / 2 ^ v) 1 == 1) = S v := by rw [has_bits, getLsb_setW S v hv64]
        cases hs : S v
        · have HS := Lib.hid hs
          have hA : bits .or .u64 ((setW S).toNat : Int) (IntKind.u64.wrap (2 ^ v)) = ((setW (updS S v true)).toNat : Int) := by rw [shl_one, bits_or, setW_on]
          have HU := Lib.hid (updS_back S v true false hs)
          rw [hs] at hH
          clear hs
          obtain ⟨s0, e0⟩ : ∃ s0, ((setW S).toNat : Int) = s0 := ⟨_, rfl⟩
          obtain ⟨s1, e1⟩ : ∃ s1, ((setW (updS S v true)).toNat : Int) = s1 := ⟨_, rfl⟩
          rw [e0] at hH
          rw [e0, e1] at hA
          have E0 := Lib.hid (show ((orL (memL S 64)).toNat : Int) = s0 from e0)
          have E1 := Lib.hid (show ((orL (memL (updS S v true) 64)).toNat : Int) = s1 from e1)
          clear e0 e1
          go_wp2_with fail
          rw [HV.out]
          refine (rin_any w.heap.size n S _ HR.out).mono ?_
          rw [E0.out]
          rintro e w2 ⟨rfl, hb⟩
          have HB2 := Lib.hid (HB.out.trans (hb.mono HB.out.size))
          have HR2 := Lib.hid (HR.out.later hb)
          clear hb
          go_wp2_with fail
          refine (login_in w.heap.size n S v hvn hv64 _ HR2.out HS.out).mono ?_
          rintro e w3 ⟨rfl, hr, hb⟩
          have HR3 := Lib.hid hr
          have HB3 := Lib.hid (HB2.out.trans (hb _ (Nat.le_refl _)))
          clear hr hb
          go_wp2_with fail
          refine (rin_any w.heap.size n (updS S v true) _ HR3.out).mono ?_
          rw [E1.out]
          rintro e w4 ⟨rfl, hb⟩
          have HB4 := Lib.hid (HB3.out.trans (hb.mono HB3.out.size))
          have HR4 := Lib.hid (HR3.out.later hb)
          clear hb
          go_wp2_with fail
          refine (logout_in w.heap.size n (updS S v true) v hvn hv64 _ HR4.out (updS_at _ _ _)).mono ?_
          rintro e w5 ⟨rfl, hr, hb⟩
          rw [HU.out] at hr
          have HR5 := Lib.hid hr
          have HB5 := Lib.hid (HB4.out.trans (hb _ (Nat.le_refl _)))
          clear hr hb
          go_wp2_with fail
          refine (rin_any w.heap.size n S _ HR5.out).mono ?_
          rw [E0.out]
          rintro e w6 ⟨rfl, hb⟩
          have HB6 := Lib.hid (HB5.out.trans (hb.mono HB5.out.size))
          clear hb
          go_wp2_with fail
          refine (known_any _).mono ?_
          rintro e w7 ⟨rfl, hb⟩
          go_wp2_with fail
          go_ret
          exact ⟨rfl, HB6.out.trans (hb.mono HB6.out.size)⟩
        · have HS := Lib.hid hs
          have hA : bits .andNot .u64 ((setW S).toNat : Int) (IntKind.u64.wrap (2 ^ v)) = ((setW (updS S v false)).toNat : Int) := by rw [shl_one, bits_andNot, setW_off]
          have HU := Lib.hid (updS_back S v false true hs)
          rw [hs] at hH
          clear hs
          obtain ⟨s0, e0⟩ : ∃ s0, ((setW S).toNat : Int) = s0 := ⟨_, rfl⟩
          obtain ⟨s1, e1⟩ : ∃ s1, ((setW (updS S v false)).toNat : Int) = s1 := ⟨_, rfl⟩
          rw [e0] at hH
          rw [e0, e1] at hA
          have E0 := Lib.hid (show ((orL (memL S 64)).toNat : Int) = s0 from e0)
          have E1 := Lib.hid (show ((orL (memL (updS S v false) 64)).toNat : Int) = s1 from e1)
          clear e0 e1
          go_wp2_with fail
          rw [HV.out]
          refine (rin_any w.heap.size n S _ HR.out).mono ?_
          rw [E0.out]
          rintro e w2 ⟨rfl, hb⟩
          have HB2 := Lib.hid (HB.out.trans (hb.mono HB.out.size))
          have HR2 := Lib.hid (HR.out.later hb)
          clear hb
          go_wp2_with fail
          refine (logout_in w.heap.size n S v hvn hv64 _ HR2.out HS.out).mono ?_
          rintro e w3 ⟨rfl, hr, hb⟩
          have HR3 := Lib.hid hr
          have HB3 := Lib.hid (HB2.out.trans (hb _ (Nat.le_refl _)))
          clear hr hb
          go_wp2_with fail
          refine (rin_any w.heap.size n (updS S v false) _ HR3.out).mono ?_
          rw [E1.out]
          rintro e w4 ⟨rfl, hb⟩
          have HB4 := Lib.hid (HB3.out.trans (hb.mono HB3.out.size))
          have HR4 := Lib.hid (HR3.out.later hb)
          clear hb
          go_wp2_with fail
          refine (login_in w.heap.size n (updS S v false) v hvn hv64 _ HR4.out (updS_at _ _ _)).mono ?_
          rintro e w5 ⟨rfl, hr, hb⟩
          rw [HU.out] at hr
          have HR5 := Lib.hid hr
          have HB5 := Lib.hid (HB4.out.trans (hb _ (Nat.le_refl _)))
          clear hr hb
          go_wp2_with fail
          refine (rin_any w.heap.size n S _ HR5.out).mono ?_
          rw [E0.out]
          rintro e w6 ⟨rfl, hb⟩
          have HB6 := Lib.hid (HB5.out.trans (hb.mono HB5.out.size))
          clear hb
          go_wp2_with fail
          refine (known_any _).mono ?_
          rintro e w7 ⟨rfl, hb⟩
          go_wp2_with fail
          go_ret
          exact ⟨rfl, HB6.out.trans (hb.mono HB6.out.size)⟩
end Go.Proofs.Ytmnbplfgdgjpdaa
