/- Contracts of dec.total, dec.Sum and dec.Mean, over a list of numbers that lies in memory. -/
import Derived.Test.YticjclllhjehfaaDoorDiv
import Derived.Test.YticjclllhjehfaaDoorRefTot
namespace Go.Proofs.YticjclllhjehfaaDoor
open Go.RowKit

/-- math/bits.Add64 with a carry, and Sub64: the model's own entries. -/
theorem add64c_run (x y c : Int) (hx0 : 0 ≤ x) (hy0 : 0 ≤ y) (hc0 : 0 ≤ c) (hc1 : c ≤ 1) (w : World) :
    (callFunc 54 #[.int .u64 x, .int .u64 y, .int .u64 c]).run Tryd.prog w = .ok (.value (.tuple #[.int .u64 (lo64 (x + y + c)), .int .u64 (hi64 (x + y + c))])) w := by
  rw [run_callFunc_extern Tryd.func54 (by kernel_rfl) (by kernel_rfl) (by kernel_rfl) (e := add64Entry) (by kernel_rfl), run_add64 x y c hx0 hy0 hc0 hc1]
  rfl
def sub64E : Array Value → Sem Value := fun args => do
  let (x, y, b) ← Extern.MathBitsCarry.three "Sub64" args
  pure (Extern.MathBitsCarry.pair ((x + Extern.MathBitsCarry.m64 - y - b) % Extern.MathBitsCarry.m64) (if x < y + b then 1 else 0))
/-- 0 - y - b in 64 bits, and whether something was borrowed. -/
def ng64 (y b : Int) : Int := (18446744073709551616 - y - b) % 18446744073709551616
def bo64 (y b : Int) : Int := if 0 < y + b then 1 else 0
theorem run_sub64E {P : Program} (y b : Nat) (hb : b ≤ 1) (w : World) :
    (sub64E #[.int .u64 0, .int .u64 y, .int .u64 b]).run P w =
      .ok (.tuple #[.int .u64 (((0 + 18446744073709551616 - y - b) % 18446744073709551616 : Nat) : Int), .int .u64 ((if 0 < y + b then 1 else 0 : Nat) : Int)]) w := by
  have : b = 0 ∨ b = 1 := by omega
  rcases this with rfl | rfl <;> rfl
theorem sub64_run (y b : Int) (hy0 : 0 ≤ y) (hy1 : y ≤ 18446744073709551615) (hb0 : 0 ≤ b) (hb1 : b ≤ 1) (w : World) :
    (callFunc 55 #[.int .u64 0, .int .u64 y, .int .u64 b]).run Tryd.prog w = .ok (.value (.tuple #[.int .u64 (ng64 y b), .int .u64 (bo64 y b)])) w := by
  obtain ⟨Y, rfl⟩ := Int.eq_ofNat_of_zero_le hy0
  obtain ⟨B, rfl⟩ := Int.eq_ofNat_of_zero_le hb0
  rw [run_callFunc_extern Tryd.func55 (by kernel_rfl) (by kernel_rfl) (by kernel_rfl) (e := sub64E) (by kernel_rfl), run_sub64E Y B (by omega)]
  have e1 : (((0 + 18446744073709551616 - Y - B) % 18446744073709551616 : Nat) : Int) = ng64 Y B := by
    unfold ng64
    by_cases h : Y + B ≤ 18446744073709551616
    · omega
    · omega
  have e2 : ((if 0 < Y + B then 1 else 0 : Nat) : Int) = bo64 Y B := by
    unfold bo64
    by_cases h : 0 < Y + B
    · rw [if_pos h, if_pos (by omega)]; rfl
    · rw [if_neg h, if_neg (by omega)]; rfl
  simp only [Result.andThen, e1, e2]

/-- Two words hold a signed sum, modulo 2^128. -/
def Tw (h l S : Int) : Prop := InU h ∧ InU l ∧ h * 18446744073709551616 + l = S % 340282366920938463463374607431768211456
theorem Tw.zero : Tw 0 0 0 := by unfold Tw InU; omega
theorem Tw.next {h l S x : Int} (t : Tw h l S) (hx : InI x) :
    Tw (lo64 (h + IntKind.u64.wrap (x / 9223372036854775808) + hi64 (l + IntKind.u64.wrap x))) (lo64 (l + IntKind.u64.wrap x)) (S + x) ∧ 0 ≤ hi64 (l + IntKind.u64.wrap x) ∧ hi64 (l + IntKind.u64.wrap x) ≤ 1 ∧
      0 ≤ IntKind.u64.wrap x ∧ 0 ≤ IntKind.u64.wrap (x / 9223372036854775808) := by
  obtain ⟨⟨a0, a1⟩, ⟨b0, b1⟩, e⟩ := t
  obtain ⟨x0, x1⟩ := hx
  simp only [wrap_u64]
  unfold Tw
  rw [← Int.emod_add_emod, ← e]
  clear e
  unfold InU lo64 hi64
  rcases Int.lt_or_le x 0 with hn | hn
  · rw [show x % 18446744073709551616 = x + 18446744073709551616 by omega, show x / 9223372036854775808 % 18446744073709551616 = 18446744073709551615 by omega]
    refine ⟨⟨⟨by omega, by omega⟩, ⟨by omega, by omega⟩, ?_⟩, by omega, by omega, by omega, by omega⟩
    obtain ⟨c, hc⟩ : ∃ c, (l + (x + 18446744073709551616)) / 18446744073709551616 = c := ⟨_, rfl⟩
    rw [hc]
    have hl : (l + (x + 18446744073709551616)) % 18446744073709551616 = l + x + 18446744073709551616 - c * 18446744073709551616 := by omega
    rw [hl]
    omega
  · rw [show x % 18446744073709551616 = x by omega, show x / 9223372036854775808 % 18446744073709551616 = 0 by omega]
    refine ⟨⟨⟨by omega, by omega⟩, ⟨by omega, by omega⟩, ?_⟩, by omega, by omega, by omega, by omega⟩
    obtain ⟨c, hc⟩ : ∃ c, (l + x) / 18446744073709551616 = c := ⟨_, rfl⟩
    rw [hc]
    have hl : (l + x) % 18446744073709551616 = l + x - c * 18446744073709551616 := by omega
    rw [hl]
    omega
theorem Tw.pos {h l S : Int} (t : Tw h l S) (h0 : 0 ≤ S) (h1 : S < 170141183460469231731687303715884105728) : IsW h l (sizeOf' S) ∧ 0 ≤ wrap64 h := by
  rw [size_p (by omega)]
  unfold Tw InU IsW wrap64 InU at *
  omega
theorem Tw.neg {h l S : Int} (t : Tw h l S) (h0 : S < 0) (h1 : -170141183460469231731687303715884105728 < S) :
    IsW (ng64 h (bo64 l 0)) (ng64 l 0) (sizeOf' S) ∧ ¬ 0 ≤ wrap64 h ∧ 0 ≤ bo64 l 0 ∧ bo64 l 0 ≤ 1 := by
  rw [size_n h0]
  unfold Tw InU IsW wrap64 InU ng64 bo64 at *
  split <;> omega
theorem sum_bd (zs : List Int) (hz : ∀ z ∈ zs, InI z) : -((zs.length : Int) * 9223372036854775808) ≤ zs.sum ∧ zs.sum ≤ (zs.length : Int) * 9223372036854775808 := by
  induction zs with
  | nil => simp
  | cons a t ih =>
    have h1 := hz a (by simp)
    have h2 := ih (fun z h => hz z (by simp [h]))
    unfold InI at h1
    rw [List.sum_cons, List.length_cons]
    omega
theorem getD_InI {zs : List Int} (hz : ∀ z ∈ zs, InI z) (k : Nat) (h : k < zs.length) : InI (zs.getD k 0) := by
  rw [List.getD_eq_getElem?_getD, List.getElem?_eq_getElem h, Option.getD_some]; exact hz _ (List.getElem_mem h)

set_option maxRecDepth 100000 in
set_option maxHeartbeats 1600000 in
theorem dtotal_any (b off cap : Nat) (zs : List Int) (hz : ∀ z ∈ zs, InI z) (hl : zs.length ≤ 4000000000) (w : World) (hm : InMem w b off zs) :
    Calls Tryd.prog 34 #[.slice (some ⟨b, off, none⟩) zs.length cap] w fun e w' =>
      ∃ h l, e = .returned (.tuple #[.int .u64 h, .int .u64 l, .bool (ltB zs.sum 0)]) ∧ IsW h l (sizeOf' zs.sum) ∧ w = w' := by
  have hs := Lib.hid (sum_bd zs hz)
  have HZ := Lib.hid hz
  have HM := Lib.hid hm
  clear hz hm
  go_enter Tryd.func34, Tryd.ntmps34
  go_wp2_with fail
  go_loop [2, 3, 11] (fun s t i => ∃ (k : Nat) (h l : Int), k ≤ zs.length ∧ i = .int .i64 k ∧ s = .int .u64 h ∧ t = .int .u64 l ∧ Tw h l (zs.take k).sum) (fun _ _ i => zs.length - (intOf i).toNat)
  case atStart => exact ⟨0, 0, 0, by omega, rfl, rfl, rfl, Tw.zero⟩
  case round =>
    obtain ⟨k, h, l, hk, rfl, rfl, rfl, ht⟩ := hrel
    have HT := Lib.hid ht
    have h0 : 0 ≤ h ∧ h ≤ 18446744073709551615 := ht.1
    have l0 : 0 ≤ l ∧ l ≤ 18446744073709551615 := ht.2.1
    clear ht
    obtain ⟨h0, h1⟩ := h0
    obtain ⟨l0, l1⟩ := l0
    by_cases hlt : k < zs.length
    · have hcell := HM.out.2 k hlt
      have HI := Lib.hid (getD_InI HZ.out k hlt)
      have HS := Lib.hid (sum_snoc zs k hlt)
      obtain ⟨z, hzd⟩ : ∃ z, z = zs.getD k 0 := ⟨_, rfl⟩
      rw [← hzd] at hcell HI HS
      clear hzd
      have hn := HT.out.next HI.out
      rw [← HS.out] at hn
      have HN := Lib.hid hn.1
      have r1 := fun w : World => add64_run l (IntKind.u64.wrap z) l0 hn.2.2.2.1 w
      have r2 := fun w : World => add64c_run h (IntKind.u64.wrap (z / 9223372036854775808)) (hi64 (l + IntKind.u64.wrap z)) h0 hn.2.2.2.2 hn.2.1 hn.2.2.1 w
      clear hn
      go_wp2_with fail
      go_round
      case rel => exact ⟨k + 1, _, _, by omega, by go_num, rfl, rfl, HN.out⟩
      case measure => simp [intOf]; omega
    · have HT' : Hid (Tw h l zs.sum) := by have := HT.out; rw [List.take_of_length_le (by omega)] at this; exact this
      clear HT
      by_cases hneg : zs.sum < 0
      · have hn := HT'.out.neg hneg (by have := hs.out; omega)
        have hw : ¬ 0 ≤ wrap64 h := hn.2.1
        have r1 := fun w : World => sub64_run l 0 l0 l1 (by omega) (by omega) w
        have r2 := fun w : World => sub64_run h (bo64 l 0) h0 h1 hn.2.2.1 hn.2.2.2 w
        have HN := Lib.hid hn.1
        clear hn
        have hb := Lib.hid (ltB_t hneg)
        go_wp2_with fail
        go_ret3
        exact ⟨_, _, by rw [hb.out]; rfl, HN.out, rfl⟩
      · have hn := HT'.out.pos (by omega) (by have := hs.out; omega)
        have hw : 0 ≤ wrap64 h := hn.2
        have HN := Lib.hid hn.1
        clear hn
        have hb := Lib.hid (ltB_f hneg)
        go_wp2_with fail
        go_ret3
        exact ⟨_, _, by rw [hb.out]; rfl, HN.out, rfl⟩

theorem sgn_size (S : Int) : sg (sizeOf' S) (ltB S 0) = S := by
  by_cases h : S < 0
  · rw [size_n h, ltB_t h]; simp [sg]
  · rw [size_p h, ltB_f h]; simp [sg]
/-- The mean of a list that is not empty. -/
def meanZ (zs : List Int) : Int := sg ((sizeOf' zs.sum + (zs.length : Int) / 2) / zs.length) (ltB zs.sum 0)
set_option maxHeartbeats 400000 in
theorem dsum_any (b off cap : Nat) (zs : List Int) (hz : ∀ z ∈ zs, InI z) (hl : zs.length ≤ 4000000000) (w : World) (hm : InMem w b off zs) :
    Calls Tryd.prog 13 #[.slice (some ⟨b, off, none⟩) zs.length cap] w fun e w' => e = .returned (.tuple #[.int .i64 (resV zs.sum), .bool (resB zs.sum)]) ∧ w = w' := by
  have HZ := Lib.hid hz
  have HM := Lib.hid hm
  clear hz hm
  have hsg := Lib.hid (sgn_size zs.sum)
  go_enter Tryd.func13, Tryd.ntmps13
  go_wp2_with fail
  refine (dtotal_any b off cap zs HZ.out hl _ HM.out).mono ?_
  rintro e w1 ⟨h, l, rfl, hI, rfl⟩
  have HI := Lib.hid hI
  by_cases h0 : h = 0
  · subst h0
    have hv := Lib.hid hI.lowV
    have hb := hI.2.1
    unfold InU at hb
    obtain ⟨hb0, hb1⟩ := hb
    clear hI
    go_wp2_with fail
    refine (dsigned_any l hb0 hb1 _ _).mono ?_
    rintro e w2 ⟨rfl, rfl⟩
    rw [hv.out, hsg.out]
    go_wp2_with fail
    go_ret2
    exact ⟨rfl, rfl⟩
  · have hg := hI.big h0
    have hne : (h != 0) = true := by simp [h0]
    have hr : Hid (resV zs.sum = 0 ∧ resB zs.sum = false) := by
      have : zs.sum ≤ -9223372036854775808 ∨ 9223372036854775808 ≤ zs.sum := by unfold sizeOf' at hg; split at hg <;> omega
      exact ⟨resV_f this, resB_f this⟩
    clear hg hI
    go_wp2_with fail
    go_ret2
    exact ⟨(retIB hr.out.1 hr.out.2).symm, rfl⟩
set_option maxHeartbeats 400000 in
theorem dmean_any (b off cap : Nat) (zs : List Int) (hz : ∀ z ∈ zs, InI z) (hl : zs.length ≤ 4000000000) (h1 : 1 ≤ zs.length) (w : World) (hm : InMem w b off zs) :
    Calls Tryd.prog 15 #[.slice (some ⟨b, off, none⟩) zs.length cap] w fun e w' => e = .returned (.tuple #[.int .i64 (resV (meanZ zs)), .bool (resB (meanZ zs))]) ∧ ∃ k, w' = w.drewN k := by
  have HZ := Lib.hid hz
  have HM := Lib.hid hm
  have hs := Lib.hid (sum_bd zs hz)
  have hbd : Hid (sizeOf' zs.sum + (zs.length : Int) / 2 < 340282366920938463463374607431768211456) := by
    unfold Hid sizeOf'; have := hs.out; split <;> omega
  clear hz hm
  have hne : ((zs.length : Int) == 0) = false := by rw [beq_eq_false_iff_ne]; omega
  go_enter Tryd.func15, Tryd.ntmps15
  go_wp2_with fail
  refine (dtotal_any b off cap zs HZ.out hl _ HM.out).mono ?_
  rintro e w1 ⟨h, l, rfl, hI, rfl⟩
  go_wp2_with fail
  refine (ratio_any _ _ (zs.length : Int) _ _ hI (by omega) (by omega) hbd.out _).mono ?_
  rintro e w2 ⟨rfl, k, rfl⟩
  go_wp2_with fail
  go_ret2
  exact ⟨rfl, k, rfl⟩
end Go.Proofs.YticjclllhjehfaaDoor
