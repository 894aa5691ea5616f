/- Contracts of the specification's sets (User, Bit, Of, All, Has, Members, Meet), and of the program's Of and All for any numbers. -/
import Derived.Test.YtbkbikkieabcmaaDoorGrpC
import Derived.Lib.MinMax
import Derived.RegionTactic
namespace Go.Proofs.YtbkbikkieabcmaaDoor
open Go.RowKit
theorem suser_any (u : Int) (w : World) : Calls Tryd.prog 36 #[.int .i64 u] w fun e w' => e = .returned (.bool (vld u)) ∧ w = w' := by
  rcases Int.lt_or_le u 0 with h | h
  · have hk := Lib.hid (vld_f (u := u) (by omega))
    go_enter Tryd.func36, Tryd.ntmps36
    go_wp2_with fail
    go_ret
    exact ⟨retB hk.out.symm, rfl⟩
  · rcases Int.lt_or_le u 64 with h2 | h2
    · have hk := Lib.hid (vld_t (u := u) (by omega))
      go_enter Tryd.func36, Tryd.ntmps36
      go_wp2_with fail
      go_ret
      exact ⟨retB hk.out.symm, rfl⟩
    · have hk := Lib.hid (vld_f (u := u) (by omega))
      go_enter Tryd.func36, Tryd.ntmps36
      go_wp2_with fail
      go_ret
      exact ⟨retB ((decide_eq_false (by omega)).trans hk.out.symm), rfl⟩
/-- The set of one user. -/
def bitW (k : Nat) : W64 := 1#64 <<< k
theorem sbit_any (u : Nat) (hu : u < 64) (w : World) : Calls Tryd.prog 37 #[.int .i64 (u : Int)] w fun e w' => e = .returned (.int .u64 ((bitW u).toNat : Int)) ∧ w = w' := by
  go_enter Tryd.func37, Tryd.ntmps37
  go_wp2_with fail
  go_ret
  exact ⟨retI (shl_one u), rfl⟩
theorem bit_has (x : W64) (k : Nat) (hk : k < 64) : (bits .and .u64 (x.toNat : Int) ((bitW k).toNat : Int) != 0) = x.getLsbD k := by
  unfold bitW
  rw [bits_and, Bool.eq_iff_iff, bne_iff_ne]
  rw [show (((x &&& 1#64 <<< k).toNat : Int) ≠ 0 ↔ x &&& 1#64 <<< k ≠ 0#64) by
    refine not_congr ⟨fun h => ?_, fun h => by rw [h]; rfl⟩
    apply BitVec.eq_of_toNat_eq; simpa using h]
  have key : ∀ i, i < 64 → (1#64 <<< k).getLsbD i = decide (i = k) := by
    intro i hi
    rw [BitVec.getLsbD_shiftLeft]
    by_cases h : i = k
    · subst h; simp [hi]
    · simp [h]; omega
  constructor
  · intro h
    cases hb : x.getLsbD k with
    | true => rfl
    | false =>
      exfalso; apply h
      apply BitVec.eq_of_getLsbD_eq
      intro i hi
      rw [BitVec.getLsbD_and, key i hi]
      by_cases e : i = k
      · subst e; simp [hb]
      · simp [e]
  · intro h h0
    have h2 : (x &&& 1#64 <<< k).getLsbD k = false := by rw [h0]; simp
    rw [BitVec.getLsbD_and, key k hk, h] at h2
    simp at h2
/-- A slice of whole numbers. -/
def IsZ (w : World) (a : Option Addr) (len : Nat) (L : List Int) : Prop := L.length = len ∧ (0 < len → ∃ x, a = some x ∧ x.block < w.heap.size ∧ ∀ (i : Nat) (u : Int), L[i]? = some u → w.cell? (x.add i) = some (.int .i64 u))
theorem IsZ.later {w w' : World} {a : Option Addr} {n : Nat} {L : List Int} (h : IsZ w a n L) (hB : Below w.heap.size w w') : IsZ w' a n L := by
  refine ⟨h.1, fun h0 => ?_⟩
  obtain ⟨x, rfl, hx, hc⟩ := h.2 h0
  have hz := hB.size
  refine ⟨x, rfl, by omega, fun i u hu => ?_⟩
  rw [hB.cell (p := x.add i) (by unfold Addr.add; split <;> exact hx)]
  exact hc i u hu
def okL (L : List Int) : Bool := L.all vld
def ofS (L : List Int) : Int := if okL L then ((orL (L.map Int.toNat)).toNat : Int) else 0
def ofE (L : List Int) : Int := if okL L then 0 else 3
theorem ofS_t {L : List Int} (h : okL L = true) : ofS L = ((orL (L.map Int.toNat)).toNat : Int) := by unfold ofS; rw [if_pos h]
theorem ofE_t {L : List Int} (h : okL L = true) : ofE L = 0 := by unfold ofE; rw [if_pos h]
theorem okL_f {L : List Int} (k : Nat) (h : k < L.length) (hv : vld L[k] = false) : okL L = false := by
  unfold okL; rw [List.all_eq_false]; exact ⟨_, List.getElem_mem h, by rw [hv]; decide⟩
theorem ofS_f {L : List Int} (h : okL L = false) : ofS L = 0 := by unfold ofS; rw [if_neg (by rw [h]; decide)]
theorem ofE_f {L : List Int} (h : okL L = false) : ofE L = 3 := by unfold ofE; rw [if_neg (by rw [h]; decide)]
theorem okL_snoc (L : List Int) (k : Nat) (h : k < L.length) : okL (L.take (k + 1)) = (okL (L.take k) && vld L[k]) := by
  unfold okL; rw [List.take_succ_eq_append_getElem h, List.all_append]; simp
def orZ (L : List Int) (k : Nat) : W64 := orL ((L.take k).map Int.toNat)
theorem orZ_snoc (L : List Int) (k : Nat) (h : k < L.length) : orZ L (k + 1) = orZ L k ||| (bitW L[k].toNat) := by
  unfold orZ
  rw [List.take_succ_eq_append_getElem h, List.map_append]; exact orL_snoc _ _
theorem orZ_all {L : List Int} (h : okL L = true) (k : Nat) (hk : L.length ≤ k) : ((orZ L k).toNat : Int) = ofS L := by
  rw [ofS_t h]; unfold orZ; rw [List.take_of_length_le hk]
theorem retT {k k' : IntKind} {a b c d : Int} (h : a = c) (h' : b = d) : Ending.returned (.tuple #[.int k a, .int k' b]) = .returned (.tuple #[.int k c, .int k' d]) := by rw [h, h']
set_option maxHeartbeats 800000 in
theorem ofz_any (a : Option Addr) (len cap : Nat) (L : List Int) (w : World) (hm : len ≤ maxLen) (hL : IsZ w a len L) :
    Calls Tryd.prog 21 #[.slice a len cap] w fun e w' => e = .returned (.tuple #[.int .u64 (ofS L), .int .i64 (ofE L)]) ∧ w = w' := by
  unfold maxLen at hm
  obtain ⟨hlen, hc⟩ := hL
  have HL := Lib.hid hlen
  have HC := Lib.hid hc
  clear hlen hc
  go_enter Tryd.func21, Tryd.ntmps21
  go_wp2_with fail
  go_loop [4, 9] (fun s i => ∃ k : Nat, k ≤ len ∧ i = .int .i64 k ∧ okL (L.take k) = true ∧ s = .int .u64 ((orZ L k).toNat : Int)) (fun _ i => len - (intOf i).toNat)
  case atStart => exact ⟨0, Nat.zero_le _, rfl, rfl, rfl⟩
  case round =>
    obtain ⟨k, hk, rfl, hok, rfl⟩ := hrel
    have HOK := Lib.hid hok
    clear hok
    by_cases hlt : k < len
    · obtain ⟨x, rfl, hx, hcell⟩ := HC.out (by omega)
      have hkL : k < L.length := by rw [HL.out]; exact hlt
      have c1 := hcell k _ (List.getElem?_eq_getElem hkL)
      have HN := Lib.hid (orZ_snoc L k hkL)
      have HO := Lib.hid (okL_snoc L k hkL)
      have HF : Hid (vld L[k] = false → okL L = false) := okL_f k hkL
      clear hcell
      generalize L[k] = y at *
      generalize orZ L k = s at *
      by_cases hy : 0 ≤ y ∧ y < 64
      · obtain ⟨v, rfl⟩ : ∃ v : Nat, y = v := ⟨y.toNat, by omega⟩
        have hv := vld_t (u := (v : Int)) hy
        have hv64 : v < 64 := by omega
        have hv0 : (0 : Int) ≤ v := by omega
        clear hy
        go_wp2_with fail
        refine (valid_any _ _).mono ?_
        rintro e w' ⟨rfl, rfl⟩
        have HV := Lib.hid hv
        rw [hv]
        clear hv
        go_wp2_with fail
        go_round
        case rel => exact ⟨k + 1, by omega, by go_num, by rw [HO.out, HOK.out, HV.out]; rfl, by rw [HN.out, ← bits_or, Int.toNat_natCast]; unfold bitW; rw [← shl_one]⟩
        case measure => simp [intOf]; omega
      · have hv := vld_f (u := y) hy
        have HFF := Lib.hid (HF.out hv)
        clear hy
        go_wp2_with fail
        refine (valid_any _ _).mono ?_
        rintro e w' ⟨rfl, rfl⟩
        rw [hv]
        clear hv
        go_wp2_with fail
        go_ret2
        exact ⟨retT (ofS_f HFF.out).symm (ofE_f HFF.out).symm, rfl⟩
    · obtain rfl : k = len := by omega
      have HT : Hid (L.take k = L) := List.take_of_length_le (by rw [HL.out]; exact Nat.le_refl _)
      rw [HT.out] at HOK
      go_wp2_with fail
      go_ret2
      exact ⟨retT (orZ_all HOK.out k (by rw [HL.out]; exact Nat.le_refl _)) (ofE_t HOK.out).symm, rfl⟩
def allW (n : Nat) : W64 := orL (List.range n)
theorem allW_succ (n : Nat) : allW (n + 1) = allW n ||| bitW n := by unfold allW; rw [List.range_succ]; exact orL_snoc _ _
theorem sall_in (n : Nat) (hn : n ≤ 64) (w : World) : Calls Tryd.prog 35 #[.int .i64 (n : Int)] w fun e w' => e = .returned (.tuple #[.int .u64 ((allW n).toNat : Int), .int .i64 0]) ∧ w = w' := by
  go_enter Tryd.func35, Tryd.ntmps35
  go_wp2_with fail
  go_loop [4, 5] (fun s i => ∃ k : Nat, k ≤ n ∧ i = .int .i64 k ∧ s = .int .u64 ((allW k).toNat : Int)) (fun _ i => n - (intOf i).toNat)
  case atStart => exact ⟨0, Nat.zero_le _, rfl, rfl⟩
  case round =>
    obtain ⟨k, hk, rfl, rfl⟩ := hrel
    by_cases hlt : k < n
    · have HN := Lib.hid (allW_succ k)
      generalize allW k = s at *
      go_wp2_with fail
      refine (sbit_any k (by omega) _).mono ?_
      rintro e w' ⟨rfl, rfl⟩
      go_wp2_with fail
      go_round
      case rel => exact ⟨k + 1, by omega, by go_num, by rw [HN.out, ← bits_or]⟩
      case measure => simp [intOf]; omega
    · obtain rfl : k = n := by omega
      go_wp2_with fail
      go_ret2
      exact ⟨rfl, rfl⟩
theorem sall_out (n : Int) (h : n < 0 ∨ 64 < n) (w : World) : Calls Tryd.prog 35 #[.int .i64 n] w fun e w' => e = .returned (.tuple #[.int .u64 0, .int .i64 3]) ∧ w = w' := by
  rcases h with h | h
  · go_enter Tryd.func35, Tryd.ntmps35
    go_wp2_with fail
    go_ret2
    exact ⟨rfl, rfl⟩
  · have h0 : ¬ n < 0 := by omega
    go_enter Tryd.func35, Tryd.ntmps35
    go_wp2_with fail
    go_ret2
    exact ⟨rfl, rfl⟩
theorem allW_sub : ∀ n, n < 64 → IntKind.u64.wrap (IntKind.u64.wrap (2 ^ n) - 1) = ((allW n).toNat : Int) := by decide +kernel
theorem all_in (n : Nat) (hn : n < 64) (w : World) : Calls Tryd.prog 23 #[.int .i64 (n : Int)] w fun e w' => e = .returned (.tuple #[.int .u64 ((allW n).toNat : Int), .int .i64 0]) ∧ w = w' := by
  go_enter Tryd.func23, Tryd.ntmps23
  go_wp2_with fail
  go_ret2
  refine ⟨retT ?_ rfl, rfl⟩
  exact allW_sub n hn
theorem all_64 (w : World) : Calls Tryd.prog 23 #[.int .i64 64] w fun e w' => e = .returned (.tuple #[.int .u64 ((allW 64).toNat : Int), .int .i64 0]) ∧ w = w' := by
  go_enter Tryd.func23, Tryd.ntmps23
  go_wp2_with fail
  go_ret2
  refine ⟨retT ?_ rfl, rfl⟩
  decide +kernel
theorem all_in' (n : Nat) (hn : n ≤ 64) (w : World) : Calls Tryd.prog 23 #[.int .i64 (n : Int)] w fun e w' => e = .returned (.tuple #[.int .u64 ((allW n).toNat : Int), .int .i64 0]) ∧ w = w' := by
  by_cases e : n = 64
  · subst e; exact all_64 w
  · exact all_in n (by omega) w
theorem all_out (n : Int) (h : n < 0 ∨ 64 < n) (w : World) : Calls Tryd.prog 23 #[.int .i64 n] w fun e w' => e = .returned (.tuple #[.int .u64 0, .int .i64 3]) ∧ w = w' := by
  rcases h with h | h
  · go_enter Tryd.func23, Tryd.ntmps23
    go_wp2_with fail
    go_ret2
    exact ⟨rfl, rfl⟩
  · have h0 : ¬ n < 0 := by omega
    go_enter Tryd.func23, Tryd.ntmps23
    go_wp2_with fail
    go_ret2
    exact ⟨rfl, rfl⟩
theorem allW_64 : allW 64 = BitVec.allOnes 64 := by decide +kernel
theorem shas_any (x : W64) (u : Int) (w : World) : Calls Tryd.prog 41 #[.int .u64 (x.toNat : Int), .int .i64 u] w fun e w' => e = .returned (.bool (hasB x u)) ∧ w = w' := by
  cases hv : vld u with
  | true =>
    have HV := Lib.hid hv
    have hu : 0 ≤ u ∧ u < 64 := by unfold vld at hv; exact of_decide_eq_true hv
    obtain ⟨v, rfl⟩ : ∃ v : Nat, u = v := ⟨u.toNat, by omega⟩
    have hv64 : v < 64 := by omega
    clear hv hu
    go_enter Tryd.func41, Tryd.ntmps41
    go_wp2_with fail
    refine (suser_any _ _).mono ?_
    rintro e w' ⟨rfl, rfl⟩
    rw [HV.out]
    go_wp2_with fail
    refine (sbit_any v hv64 _).mono ?_
    rintro e w' ⟨rfl, rfl⟩
    go_wp2_with fail
    go_ret
    exact ⟨retB (by unfold hasB; rw [HV.out, Int.toNat_natCast]; exact bit_has x v hv64), rfl⟩
  | false =>
    have HV := Lib.hid hv
    clear hv
    go_enter Tryd.func41, Tryd.ntmps41
    go_wp2_with fail
    refine (suser_any _ _).mono ?_
    rintro e w' ⟨rfl, rfl⟩
    rw [HV.out]
    go_wp2_with fail
    go_ret
    exact ⟨retB (by unfold hasB; rw [HV.out]; rfl), rfl⟩
end Go.Proofs.YtbkbikkieabcmaaDoor
