/- The walk of the law. -/
import Derived.Test.YtmnbplfgdgjpdaaLawRosterExamples
import Derived.Deep.SlicePairs
namespace Go.Proofs.Ytmnbplfgdgjpdaa
open Go.RowKit
/-- A slice of deeds. -/
def IsD (w : World) (a : Option Addr) (len : Nat) (D : Nat → Int × Bool) : Prop :=
  0 < len → ∃ x, a = some x ∧ x.block < w.heap.size ∧ ∀ i, i < len → w.cell? (x.add (i * 2)) = some (.int .i64 (D i).1) ∧ w.cell? ⟨(x.add (i * 2)).block, (x.add (i * 2)).off + 1, none⟩ = some (.bool (D i).2)
theorem IsD.later {w w' : World} {a : Option Addr} {len : Nat} {D : Nat → Int × Bool} (h : IsD w a len D) (hB : Below w.heap.size w w') : IsD w' a len D := by
  intro h0
  obtain ⟨x, rfl, hx, hc⟩ := h h0
  have hz := hB.size
  refine ⟨x, rfl, by omega, fun i hi => ?_⟩
  have hbk : ∀ (y : Addr) o, (y.add o).block = y.block := fun y o => by unfold Addr.add; split <;> rfl
  rw [hB.cell (p := x.add (i * 2)) (by rw [hbk]; exact hx), hB.cell (p := ⟨(x.add (i * 2)).block, (x.add (i * 2)).off + 1, none⟩) (by show (x.add (i * 2)).block < _; rw [hbk]; exact hx)]; exact hc i hi
def deedOf (a b : Value) : Int × Bool := match a, b with
  | .int _ u, .bool o => (u, o)
  | _, _ => (0, false)
theorem deeds_came {w : World} {x : Addr} {len m : Nat} {V0 V1 : Nat → Value} (hlm : len ≤ m)
    (h : ∀ i, i < m → w.cell? (x.add (i * 2)) = some (V0 i) ∧ w.cell? (x.add (i * 2 + 1)) = some (V1 i) ∧ (∃ u, V0 i = .int .i64 u) ∧ (∃ b, V1 i = .bool b)) : ∃ D, IsD w (some x) len D := by
  refine ⟨fun i => deedOf (V0 i) (V1 i), fun h0 => ⟨x, rfl, ?_, fun i hi => ?_⟩⟩
  · have := World.block_lt_of_cell? w _ (h 0 (by omega)).1
    simpa [Addr.add] using this
  · obtain ⟨c0, c1, ⟨u, e0⟩, ⟨b, e1⟩⟩ := h i (by omega)
    rw [e0] at c0
    rw [e1] at c1
    dsimp only
    rw [e0, e1]
    refine ⟨c0, ?_⟩
    rw [← Go.Deep.add_add] at c1
    exact c1
def setW (S : Nat → Bool) : W64 := orL (memL S 64)
theorem getLsb_bit (k i : Nat) (hi : i < 64) : (1#64 <<< k).getLsbD i = decide (i = k) := by
  rw [BitVec.getLsbD_shiftLeft]
  by_cases h : i = k
  · subst h; simp [hi]
  · simp [h]; omega
theorem getLsb_orL_snoc (x : W64) (k i : Nat) (hi : i < 64) : (x ||| (1#64 <<< k)).getLsbD i = (x.getLsbD i || decide (i = k)) := by
  rw [BitVec.getLsbD_or, getLsb_bit _ _ hi]
theorem getLsb_memL (S : Nat → Bool) (i : Nat) (hi : i < 64) : ∀ k, (orL (memL S k)).getLsbD i = (decide (i < k) && S i) := by
  intro k
  induction k with
  | zero => simp [memL, orL]
  | succ k ih =>
    rw [memL_succ]
    cases hs : S k
    · rw [if_neg (by decide), ih]
      by_cases h : i = k
      · subst h; simp [hs]
      · have e : decide (i < k + 1) = decide (i < k) := by apply decide_eq_decide.2; omega
        rw [e]
    · rw [if_pos rfl, orL_snoc, getLsb_orL_snoc _ _ _ hi, ih]
      by_cases h : i = k
      · subst h; simp [hs]
      · have e : decide (i < k + 1) = decide (i < k) := by apply decide_eq_decide.2; omega
        rw [e]; simp [h]
theorem getLsb_setW (S : Nat → Bool) (i : Nat) (hi : i < 64) : (setW S).getLsbD i = S i := by
  unfold setW; rw [getLsb_memL S i hi]; simp [hi]
theorem bits_xor (x y : W64) : bits .xor .u64 (x.toNat : Int) (y.toNat : Int) = ((x ^^^ y).toNat : Int) := by
  unfold bits
  simp only [IntKind.bits, ofInt_toNat]
  exact wrap_toNat _
theorem xor_zero (x : W64) : Hid (bits .xor .u64 (x.toNat : Int) 0 = (x.toNat : Int)) := by
  unfold Hid
  rw [show (0 : Int) = ((0#64).toNat : Int) by rfl, bits_xor, BitVec.xor_zero]
theorem setW_xor (S : Nat → Bool) (u : Nat) (v : Bool) (hs : S u = !v) : setW (updS S u v) = setW S ^^^ (1#64 <<< u) := by
  apply BitVec.eq_of_getLsbD_eq
  intro i hi
  rw [getLsb_setW _ i hi, BitVec.getLsbD_xor, getLsb_setW _ i hi, getLsb_bit _ _ hi]
  unfold updS
  by_cases h : i = u
  · subst h; simp [hs]
  · simp [h]
theorem setW_has (S : Nat → Bool) (u : Nat) (hu : u < 64) : (bits .and .u64 ((setW S).toNat : Int) ((1#64 <<< u).toNat : Int) == 0) = !S u := by
  rw [bits_and, Bool.eq_iff_iff, beq_iff_eq]
  rw [show (((setW S &&& 1#64 <<< u).toNat : Int) = 0 ↔ setW S &&& 1#64 <<< u = 0#64) by
    constructor
    · intro h; apply BitVec.eq_of_toNat_eq; simpa using h
    · intro h; rw [h]; rfl]
  constructor
  · intro h
    have h2 : (setW S &&& 1#64 <<< u).getLsbD u = false := by rw [h]; simp
    rw [BitVec.getLsbD_and, getLsb_setW S u hu, getLsb_bit _ _ hu] at h2
    simpa using h2
  · intro h
    apply BitVec.eq_of_getLsbD_eq
    intro i hi
    rw [BitVec.getLsbD_and, getLsb_setW S i hi, getLsb_bit _ _ hi]
    by_cases e : i = u
    · subst e; simp at h; simp [h]
    · simp [e]
set_option maxHeartbeats 3200000 in
theorem known_any (w : World) : Calls Try.prog 21 #[] w fun e w' => e = .returned (.bool true) ∧ Below w.heap.size w w' := by
  have k1 : ((orL (memL (updS noS 4 true) 64)).toNat : Int) = 16 := by kernel_rfl
  have k2 : ((orL (memL (updS (updS noS 4 true) 4 false) 64)).toNat : Int) = 0 := by kernel_rfl
  have K1 := Lib.hid k1
  have K2 := Lib.hid k2
  clear k1 k2
  go_enter Try.func21, Try.ntmps21
  go_wp2_with fail
  refine (rnew_ok 5 (by decide) (by decide) _).mono ?_
  rintro e w1 ⟨rfl, hr, hb⟩
  have HR1 := Lib.hid (show Ros w1 w.heap.size 5 noS from hr)
  have HB1 := Lib.hid hb
  clear hr hb
  go_wp2_with fail
  refine (login_in w.heap.size 5 noS 4 (by decide) (by decide) _ HR1.out rfl).mono ?_
  rintro e w2 ⟨rfl, hr, hb⟩
  have HR2 := Lib.hid hr
  have HB2 := Lib.hid (HB1.out.trans (hb _ (Nat.le_refl _)))
  clear hr hb HR1 HB1
  go_wp2_with fail
  refine (rin_any w.heap.size 5 _ _ HR2.out).mono ?_
  rw [K1.out]
  rintro e w3 ⟨rfl, hb⟩
  have HR3 := Lib.hid (HR2.out.later hb)
  have HB3 := Lib.hid (HB2.out.trans (hb.mono HB2.out.size))
  clear hb HR2 HB2
  go_wp2_with fail
  refine (logout_in w.heap.size 5 _ 4 (by decide) (by decide) _ HR3.out rfl).mono ?_
  rintro e w4 ⟨rfl, hr, hb⟩
  have HR4 := Lib.hid hr
  have HB4 := Lib.hid (HB3.out.trans (hb _ (Nat.le_refl _)))
  clear hr hb HR3 HB3
  go_wp2_with fail
  refine (rin_any w.heap.size 5 _ _ HR4.out).mono ?_
  rw [K2.out]
  rintro e w5 ⟨rfl, hb⟩
  have HB5 := Lib.hid (HB4.out.trans (hb.mono HB4.out.size))
  clear hb HR4 HB4
  go_wp2_with fail
  go_ret
  exact ⟨rfl, HB5.out⟩
set_option maxHeartbeats 3200000 in
theorem rosterKeeps_law (n : Int) (a : Option Addr) (len cap : Nat) (D : Nat → Int × Bool) (w : World) (hd : IsD w a len D) :
    Calls Try.prog 8 #[.int .i64 n, .slice a len cap] w fun e w' => e = .returned (.bool true) ∧ Below w.heap.size w w' := by
  have HD := Lib.hid hd
  clear hd
  have key : n < 1 ∨ 64 < n ∨ (1 ≤ n ∧ n ≤ 64 ∧ 200 < len) ∨ (1 ≤ n ∧ n ≤ 64 ∧ len ≤ 200) := by omega
  rcases key with h1 | h1 | ⟨h1, h2, h3⟩ | ⟨h1, h2, h3⟩
  · go_enter Try.func8, Try.ntmps8
    go_wp2_with fail
    refine (known_any _).mono ?_
    rintro e w1 ⟨rfl, hb⟩
    go_wp2_with fail
    go_ret
    exact ⟨rfl, hb⟩
  · have h0 : ¬ n < 1 := by omega
    go_enter Try.func8, Try.ntmps8
    go_wp2_with fail
    refine (known_any _).mono ?_
    rintro e w1 ⟨rfl, hb⟩
    go_wp2_with fail
    go_ret
    exact ⟨rfl, hb⟩
  · go_enter Try.func8, Try.ntmps8
    go_wp2_with fail
    refine (known_any _).mono ?_
    rintro e w1 ⟨rfl, hb⟩
    go_wp2_with fail
    go_ret
    exact ⟨rfl, hb⟩
  · go_enter Try.func8, Try.ntmps8
    go_wp2_with fail
    refine (rnew_ok n h1 h2 _).mono ?_
    rintro e w1 ⟨rfl, hr, hb⟩
    have HR1 := Lib.hid (show Ros w1 w.heap.size n noS from hr)
    have HB1 := Lib.hid hb
    clear hr hb
    go_wp2_with fail
    go_loopw [7, 8] (fun s i wr => ∃ (k : Nat) (S : Nat → Bool), k ≤ len ∧ i = .int .i64 k ∧ s = .int .u64 ((setW S).toNat : Int) ∧ Ros wr w.heap.size n S ∧ Below w.heap.size w wr) (fun _ i _ => len - (intOf i).toNat)
    case atStart => exact ⟨0, noS, Nat.zero_le _, rfl, by rw [show setW noS = 0#64 by kernel_rfl]; rfl, HR1.out, HB1.out⟩
    case round =>
      obtain ⟨k, S, hk, rfl, rfl, hr, hb⟩ := hrel
      have HR := Lib.hid hr
      have HB := Lib.hid hb
      clear hr hb
      by_cases hlt : k < len
      · obtain ⟨x, rfl, hx, hcell⟩ := HD.out.later HB.out (by omega)
        obtain ⟨c1, c2⟩ := hcell k hlt
        clear hcell
        generalize D k = d at c1 c2
        obtain ⟨u, o⟩ := d
        dsimp only at c1 c2
        have ku : u < 0 ∨ (0 ≤ u ∧ n ≤ u) ∨ ∃ v : Nat, u = v ∧ (v : Int) < n := by
          rcases Int.lt_or_le u 0 with h | h
          · exact .inl h
          · rcases Int.lt_or_le u n with h' | h'
            · exact .inr (.inr ⟨u.toNat, by omega, by omega⟩)
            · exact .inr (.inl ⟨h, h'⟩)
        rcases ku with hu | ⟨hu0, hu⟩ | ⟨v, rfl, hv⟩
        · have HV := Lib.hid (show ((orL (memL S 64)).toNat : Int) = ((setW S).toNat : Int) from rfl)
          have HX : Hid (bits .xor .u64 ((setW S).toNat : Int) 0 = ((setW S).toNat : Int)) := xor_zero _
          cases o
          · go_wp2_with fail
            refine (login_range w.heap.size n S u (by omega) _ HR.out).mono ?_
            rintro e w2 ⟨rfl, rfl⟩
            go_wp2_with fail
            rw [HX.out]
            refine (rin_any w.heap.size n S _ HR.out).mono ?_
            rw [HV.out]
            rintro e w2 ⟨rfl, hb⟩
            have HB2 := Lib.hid (HB.out.trans (hb.mono HB.out.size))
            have HR2 := Lib.hid (HR.out.later hb)
            clear hb
            go_wp2_with fail
            go_roundw
            case rel => exact ⟨k + 1, S, by omega, by go_num, rfl, HR2.out, HB2.out⟩
            case measure => simp [intOf]; omega
          · go_wp2_with fail
            refine (logout_range w.heap.size n S u (by omega) _ HR.out).mono ?_
            rintro e w2 ⟨rfl, rfl⟩
            go_wp2_with fail
            rw [HX.out]
            refine (rin_any w.heap.size n S _ HR.out).mono ?_
            rw [HV.out]
            rintro e w2 ⟨rfl, hb⟩
            have HB2 := Lib.hid (HB.out.trans (hb.mono HB.out.size))
            have HR2 := Lib.hid (HR.out.later hb)
            clear hb
            go_wp2_with fail
            go_roundw
            case rel => exact ⟨k + 1, S, by omega, by go_num, rfl, HR2.out, HB2.out⟩
            case measure => simp [intOf]; omega
        · have HV := Lib.hid (show ((orL (memL S 64)).toNat : Int) = ((setW S).toNat : Int) from rfl)
          have HX : Hid (bits .xor .u64 ((setW S).toNat : Int) 0 = ((setW S).toNat : Int)) := xor_zero _
          cases o
          · go_wp2_with fail
            refine (login_range w.heap.size n S u (by omega) _ HR.out).mono ?_
            rintro e w2 ⟨rfl, rfl⟩
            go_wp2_with fail
            rw [HX.out]
            refine (rin_any w.heap.size n S _ HR.out).mono ?_
            rw [HV.out]
            rintro e w2 ⟨rfl, hb⟩
            have HB2 := Lib.hid (HB.out.trans (hb.mono HB.out.size))
            have HR2 := Lib.hid (HR.out.later hb)
            clear hb
            go_wp2_with fail
            go_roundw
            case rel => exact ⟨k + 1, S, by omega, by go_num, rfl, HR2.out, HB2.out⟩
            case measure => simp [intOf]; omega
          · go_wp2_with fail
            refine (logout_range w.heap.size n S u (by omega) _ HR.out).mono ?_
            rintro e w2 ⟨rfl, rfl⟩
            go_wp2_with fail
            rw [HX.out]
            refine (rin_any w.heap.size n S _ HR.out).mono ?_
            rw [HV.out]
            rintro e w2 ⟨rfl, hb⟩
            have HB2 := Lib.hid (HB.out.trans (hb.mono HB.out.size))
            have HR2 := Lib.hid (HR.out.later hb)
            clear hb
            go_wp2_with fail
            go_roundw
            case rel => exact ⟨k + 1, S, by omega, by go_num, rfl, HR2.out, HB2.out⟩
            case measure => simp [intOf]; omega
        · cases hs : S v <;> cases o
          · have HXa : (bits .and .u64 ((setW S).toNat : Int) (IntKind.u64.wrap (2 ^ v)) == 0) = true := by rw [shl_one, setW_has _ _ (by omega), hs]; rfl
            have HXp : bits .and .u64 ((setW S).toNat : Int) (IntKind.u64.wrap (2 ^ v)) = 0 := by simpa using HXa
            have HX1 : Hid (bits .xor .u64 ((setW S).toNat : Int) (IntKind.u64.wrap (2 ^ v)) = ((setW (updS S v true)).toNat : Int)) := by unfold Hid; rw [shl_one, bits_xor, setW_xor _ _ _ (by rw [hs]; rfl)]
            have HV := Lib.hid (show ((orL (memL (updS S v true) 64)).toNat : Int) = ((setW (updS S v true)).toNat : Int) from rfl)
            go_wp2_with fail
            refine (login_in w.heap.size n S v hv (by omega) _ HR.out hs).mono ?_
            rintro e w2 ⟨rfl, hr, hb⟩
            have HRa := Lib.hid hr
            have HBa := Lib.hid (HB.out.trans (hb _ (Nat.le_refl _)))
            clear hr hb
            go_wp2_with fail
            rw [HX1.out]
            refine (rin_any w.heap.size n (updS S v true) _ HRa.out).mono ?_
            rw [HV.out]
            rintro e w3 ⟨rfl, hb⟩
            have HB2 := Lib.hid (HBa.out.trans (hb.mono HBa.out.size))
            have HR2 := Lib.hid (HRa.out.later hb)
            clear hb
            go_wp2_with fail
            go_roundw
            case rel => exact ⟨k + 1, (updS S v true), by omega, by go_num, rfl, HR2.out, HB2.out⟩
            case measure => simp [intOf]; omega
          · have HXa : (bits .and .u64 ((setW S).toNat : Int) (IntKind.u64.wrap (2 ^ v)) == 0) = true := by rw [shl_one, setW_has _ _ (by omega), hs]; rfl
            have HXp : bits .and .u64 ((setW S).toNat : Int) (IntKind.u64.wrap (2 ^ v)) = 0 := by simpa using HXa
            have HX0 : Hid (bits .xor .u64 ((setW S).toNat : Int) 0 = ((setW S).toNat : Int)) := xor_zero _
            have HV := Lib.hid (show ((orL (memL S 64)).toNat : Int) = ((setW S).toNat : Int) from rfl)
            go_wp2_with fail
            refine (logout_same w.heap.size n S v hv (by omega) _ HR.out hs).mono ?_
            rintro e w2 ⟨rfl, rfl⟩
            go_wp2_with fail
            rw [HX0.out]
            refine (rin_any w.heap.size n S _ HR.out).mono ?_
            rw [HV.out]
            rintro e w3 ⟨rfl, hb⟩
            have HB2 := Lib.hid (HB.out.trans (hb.mono HB.out.size))
            have HR2 := Lib.hid (HR.out.later hb)
            clear hb
            go_wp2_with fail
            go_roundw
            case rel => exact ⟨k + 1, S, by omega, by go_num, rfl, HR2.out, HB2.out⟩
            case measure => simp [intOf]; omega
          · have HXa : (bits .and .u64 ((setW S).toNat : Int) (IntKind.u64.wrap (2 ^ v)) == 0) = false := by rw [shl_one, setW_has _ _ (by omega), hs]; rfl
            have HXp : ¬ bits .and .u64 ((setW S).toNat : Int) (IntKind.u64.wrap (2 ^ v)) = 0 := by simpa using HXa
            have HXn : (bits .and .u64 ((setW S).toNat : Int) (IntKind.u64.wrap (2 ^ v)) != 0) = true := by simpa using HXa
            have HX0 : Hid (bits .xor .u64 ((setW S).toNat : Int) 0 = ((setW S).toNat : Int)) := xor_zero _
            have HV := Lib.hid (show ((orL (memL S 64)).toNat : Int) = ((setW S).toNat : Int) from rfl)
            go_wp2_with fail
            refine (login_same w.heap.size n S v hv (by omega) _ HR.out hs).mono ?_
            rintro e w2 ⟨rfl, rfl⟩
            go_wp2_with fail
            rw [HX0.out]
            refine (rin_any w.heap.size n S _ HR.out).mono ?_
            rw [HV.out]
            rintro e w3 ⟨rfl, hb⟩
            have HB2 := Lib.hid (HB.out.trans (hb.mono HB.out.size))
            have HR2 := Lib.hid (HR.out.later hb)
            clear hb
            go_wp2_with fail
            go_roundw
            case rel => exact ⟨k + 1, S, by omega, by go_num, rfl, HR2.out, HB2.out⟩
            case measure => simp [intOf]; omega
          · have HXa : (bits .and .u64 ((setW S).toNat : Int) (IntKind.u64.wrap (2 ^ v)) == 0) = false := by rw [shl_one, setW_has _ _ (by omega), hs]; rfl
            have HXp : ¬ bits .and .u64 ((setW S).toNat : Int) (IntKind.u64.wrap (2 ^ v)) = 0 := by simpa using HXa
            have HXn : (bits .and .u64 ((setW S).toNat : Int) (IntKind.u64.wrap (2 ^ v)) != 0) = true := by simpa using HXa
            have HX1 : Hid (bits .xor .u64 ((setW S).toNat : Int) (IntKind.u64.wrap (2 ^ v)) = ((setW (updS S v false)).toNat : Int)) := by unfold Hid; rw [shl_one, bits_xor, setW_xor _ _ _ (by rw [hs]; rfl)]
            have HV := Lib.hid (show ((orL (memL (updS S v false) 64)).toNat : Int) = ((setW (updS S v false)).toNat : Int) from rfl)
            go_wp2_with fail
            refine (logout_in w.heap.size n S v hv (by omega) _ HR.out hs).mono ?_
            rintro e w2 ⟨rfl, hr, hb⟩
            have HRa := Lib.hid hr
            have HBa := Lib.hid (HB.out.trans (hb _ (Nat.le_refl _)))
            clear hr hb
            go_wp2_with fail
            rw [HX1.out]
            refine (rin_any w.heap.size n (updS S v false) _ HRa.out).mono ?_
            rw [HV.out]
            rintro e w3 ⟨rfl, hb⟩
            have HB2 := Lib.hid (HBa.out.trans (hb.mono HBa.out.size))
            have HR2 := Lib.hid (HRa.out.later hb)
            clear hb
            go_wp2_with fail
            go_roundw
            case rel => exact ⟨k + 1, (updS S v false), by omega, by go_num, rfl, HR2.out, HB2.out⟩
            case measure => simp [intOf]; omega
      · go_wp2_with fail
        refine (known_any _).mono ?_
        rintro e w2 ⟨rfl, hb⟩
        go_wp2_with fail
        go_ret
        exact ⟨rfl, HB.out.trans (hb.mono HB.out.size)⟩
end Go.Proofs.Ytmnbplfgdgjpdaa
