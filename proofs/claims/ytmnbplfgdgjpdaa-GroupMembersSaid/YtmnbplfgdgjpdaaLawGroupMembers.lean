/- The walk of the law. -/
import Derived.Test.YtmnbplfgdgjpdaaGrpC
import Derived.Lib.MinMax
import Derived.Test.YtmnbplfgdgjpdaaBitA
import Derived.RegionTactic
import Derived.BigRegion
import Derived.StillTailTactics
import Derived.Deep.DeepCutAuto
import Derived.Laws.OwnMore
import Derived.Deep.RegionLaw
import Derived.Deep.AppendLies
import Derived.DataShut
namespace Go.Proofs.Ytmnbplfgdgjpdaa
open Go.RowKit Go.Shelf
theorem members_any (x : W64) (w : World) : Calls Try.prog 17 #[.int .u64 (x.toNat : Int)] w fun e W' => ∃ v, e = .returned v ∧ OwnI w.heap.size W' v (usr x) ∧ Below w.heap.size w W' :=
  callsIn_wide.1 (members_in x w)
theorem IsI.later {w w' : World} {a : Option Addr} {n : Nat} {L : List Nat} (h : IsI w a n L) (hB : Below w.heap.size w w') : IsI w' a n L := by
  refine ⟨h.1, fun h0 => ?_⟩
  obtain ⟨x, rfl, hx, hc⟩ := h.2 h0
  have hz := hB.size
  refine ⟨x, rfl, by omega, fun i u hu => ?_⟩
  rw [hB.cell (p := x.add i) (by unfold Addr.add; split <;> exact hx)]
  exact hc i u hu
theorem u64_wf {n : Int} (h : (Lit.int .u64 n).wf = true) : ((BitVec.ofInt 64 n).toNat : Int) = n := by
  rw [Lit.wf_int_iff] at h
  simp [IntKind.min, IntKind.max, IntKind.signed, IntKind.bits] at h
  rw [BitVec.toNat_ofInt]
  omega
theorem drewN_below {B : Nat} {a w : World} (h : Below B a w) (n : Nat) : Below B a (w.drewN n) := ⟨h.os, h.tape, h.output, h.size, h.block⟩
set_option maxHeartbeats 1600000 in
theorem eqints_any (a a' : Option Addr) (n cap cap' : Nat) (l : List Nat) (hl : n ≤ 1000000) (w : World) (h1 : IsI w a n l) (h2 : IsI w a' n l) :
    Calls Try.prog 16 #[.slice a n cap, .slice a' n cap'] w fun e w' => e = .returned (.bool true) ∧ Below w.heap.size w w' := by
  have H1 := Lib.hid h1
  have H2 := Lib.hid h2
  clear h1 h2
  go_enter Try.func16, Try.ntmps16
  go_wp2_with fail
  go_loopw [5] (fun i wr => ∃ k : Nat, k ≤ n ∧ i = .int .i64 k ∧ Below w.heap.size w wr) (fun i _ => n - (intOf i).toNat)
  case atStart => exact ⟨0, Nat.zero_le _, rfl, Below.refl _ _⟩
  case round =>
    obtain ⟨k, hk, rfl, hB⟩ := hrel
    have HB := Lib.hid hB
    clear hB
    by_cases hlt : k < n
    · obtain ⟨x, rfl, _, hr⟩ := (H1.out.later HB.out).2 (by omega)
      obtain ⟨x', rfl, _, hr'⟩ := (H2.out.later HB.out).2 (by omega)
      have hkl : k < l.length := by rw [H1.out.1]; exact hlt
      have c1 := hr k _ (List.getElem?_eq_getElem hkl)
      have d1 := hr' k _ (List.getElem?_eq_getElem hkl)
      clear hr hr'
      generalize l[k] = r at *
      go_wp2_with fail
      go_quiet (fail)
      go_wp2_with fail
      go_roundw
      case rel => exact ⟨k + 1, by omega, by go_num, drewN_below HB.out _⟩
      case measure => simp [intOf]; omega
    · go_wp2_with fail
      go_ret
      exact ⟨rfl, HB.out⟩
theorem usr_at (x : W64) (v : Nat) (hv : v < 64) (h : x.getLsbD v = true) : (usr x)[(memL (fun i => x.getLsbD i) v).length]? = some v := by
  have hp := memL_pre (fun i => x.getLsbD i) (64 - (v + 1)) (v + 1)
  rw [show v + 1 + (64 - (v + 1)) = 64 by omega, memL_succ, if_pos h] at hp
  obtain ⟨t, ht⟩ := hp
  unfold usr
  rw [← ht]
  simp
theorem mod_bit (x : W64) (v : Nat) : ((x.toNat : Int) / 2 ^ v) % 2 = if x.getLsbD v then 1 else 0 := by
  have h : x.getLsbD v = decide (x.toNat / 2 ^ v % 2 = 1) := Nat.testBit_eq_decide_div_mod_eq
  have e : ((x.toNat : Int) / 2 ^ v) % 2 = ((x.toNat / 2 ^ v % 2 : Nat) : Int) := by push_cast; rfl
  rw [e, h]
  have := Nat.mod_lt (x.toNat / 2 ^ v) (show 0 < 2 by decide)
  by_cases h1 : x.toNat / 2 ^ v % 2 = 1
  · simp [h1]
  · rw [show x.toNat / 2 ^ v % 2 = 0 by omega]; simp
theorem mod_bool (x : W64) (v : Nat) : (((x.toNat : Int) / 2 ^ v).tmod 2 == 1) = x.getLsbD v := by
  have e : (x.toNat : Int) / 2 ^ v = ((x.toNat / 2 ^ v : Nat) : Int) := by push_cast; rfl
  rw [Int.tmod_eq_emod_of_nonneg (by rw [e]; exact Int.natCast_nonneg _), mod_bit]
  cases x.getLsbD v <;> rfl
def memN (x : W64) (v : Nat) : Nat := (memL (fun i => x.getLsbD i) v).length
theorem memN_succ (x : W64) (v : Nat) : memN x (v + 1) = memN x v + (if x.getLsbD v then 1 else 0) := by
  unfold memN; rw [memL_succ]; cases x.getLsbD v <;> simp
theorem usr_two : usr 10#64 = [1, 3] := by kernel_rfl
set_option maxHeartbeats 3200000 in
theorem groupMembers_law (s : Int) (w : World) (hs : (Lit.int .u64 s).wf = true) :
    Calls Try.prog 5 #[.int .u64 s] w fun e w' => e = .returned (.bool true) ∧ Below w.heap.size w w' := by
  rw [← u64_wf hs]
  generalize BitVec.ofInt 64 s = x
  clear hs
  go_enter Try.func5, Try.ntmps5
  go_wp2_with fail
  refine (members_any x _).mono ?_
  rintro e w1 ⟨v, rfl, ho, hb⟩
  obtain ⟨a, cap, rfl, hi⟩ := ho.isI
  have HI := Lib.hid hi
  have HB := Lib.hid hb
  have HL := Lib.hid (usr_len x)
  have HAT := Lib.hid (usr_at x)
  have HN : Hid (memN x 64 = (usr x).length) := rfl
  clear ho hi hb
  generalize usr x = L at *
  have hL64 : L.length ≤ 64 := HL.out
  go_wp2_with fail
  go_loop [4, 5] (fun n u => ∃ k : Nat, k ≤ 68 ∧ u = .int .i64 ((k : Int) - 2) ∧ n = .int .i64 (memN x (min (k - 2) 64))) (fun _ u => (66 - intOf u).toNat)
  case atStart => exact ⟨0, by omega, rfl, by kernel_rfl⟩
  case round =>
    obtain ⟨k, hk, rfl, rfl⟩ := hrel
    by_cases hlt : k < 68
    · have key : k < 2 ∨ 66 ≤ k ∨ ∃ v, k = v + 2 ∧ v < 64 := by
        by_cases h : k < 2
        · exact .inl h
        · by_cases h' : 66 ≤ k
          · exact .inr (.inl h')
          · exact .inr (.inr ⟨k - 2, by omega, by omega⟩)
      rcases key with h | h | ⟨v, rfl, hv⟩
      · have hf : hasB x ((k : Int) - 2) = false := by unfold hasB; rw [vld_f (by omega)]; rfl
        obtain rfl | rfl : k = 0 ∨ k = 1 := by omega
        · simp only [show ((0 : Nat) : Int) - 2 = -2 by decide] at hf
          go_wp2_with fail
          refine (has_any x _ _).mono ?_
          rw [hf]
          rintro e w' ⟨rfl, rfl⟩
          go_wp2_with fail
          go_round
          case rel => exact ⟨1, by omega, rfl, rfl⟩
          case measure => simp [intOf]
        · simp only [show ((1 : Nat) : Int) - 2 = -1 by decide] at hf
          go_wp2_with fail
          refine (has_any x _ _).mono ?_
          rw [hf]
          rintro e w' ⟨rfl, rfl⟩
          go_wp2_with fail
          go_round
          case rel => exact ⟨2, by omega, rfl, rfl⟩
          case measure => simp [intOf]
      · have hf : hasB x ((k : Int) - 2) = false := by unfold hasB; rw [vld_f (by omega)]; rfl
        obtain rfl | rfl : k = 66 ∨ k = 67 := by omega
        · simp only [show ((66 : Nat) : Int) - 2 = 64 by decide] at hf
          go_wp2_with fail
          refine (has_any x _ _).mono ?_
          rw [hf]
          rintro e w' ⟨rfl, rfl⟩
          go_wp2_with fail
          go_round
          case rel => exact ⟨67, by omega, rfl, rfl⟩
          case measure => simp [intOf]
        · simp only [show ((67 : Nat) : Int) - 2 = 65 by decide] at hf
          go_wp2_with fail
          refine (has_any x _ _).mono ?_
          rw [hf]
          rintro e w' ⟨rfl, rfl⟩
          go_wp2_with fail
          go_round
          case rel => exact ⟨68, by omega, rfl, rfl⟩
          case measure => simp [intOf]
      · have hh := hasB_in x v hv
        have hq := mod_bool x v
        rw [show ((v + 2 : Nat) : Int) - 2 = (v : Int) by omega, show min (v + 2 - 2) 64 = v by omega]
        have HS := Lib.hid (memN_succ x v)
        have HAv := Lib.hid (HAT.out v hv)
        have hnl : memN x v ≤ v := memL_length _ v
        cases hb : x.getLsbD v
        · rw [hb] at hh hq
          go_wp2_with fail
          refine (has_any x _ _).mono ?_
          rw [hh]
          rintro e w' ⟨rfl, rfl⟩
          go_wp2_with fail
          go_round
          case rel => exact ⟨v + 3, by omega, by go_num, by have := HS.out; rw [hb] at this; simp at this; rw [show min (v + 3 - 2) 64 = v + 1 by omega, this]⟩
          case measure => simp [intOf]; omega
        · rw [hb] at hh hq
          have hat := HAv.out hb
          have hnL : memN x v < L.length := (List.getElem?_eq_some_iff.1 hat).1
          obtain ⟨y, rfl, hy, hcy⟩ := HI.out.2 (by omega)
          have c1 := hcy _ _ hat
          have c2 : w1.cell? (y.add (memN x v)) = some (.int .i64 (v : Int)) := c1
          clear c1 hat hcy
          generalize memN x v = nn at *
          go_wp2_with fail
          refine (has_any x _ _).mono ?_
          rw [hh]
          rintro e w' ⟨rfl, rfl⟩
          go_wp2_with fail
          go_round
          case rel => exact ⟨v + 3, by omega, by go_num, by have := HS.out; rw [hb] at this; simp at this; rw [show min (v + 3 - 2) 64 = v + 1 by omega, this]; go_num⟩
          case measure => simp [intOf]; omega
    · obtain rfl : k = 68 := by omega
      have HN' : memN x 64 = L.length := HN.out
      have hm := members_any 10#64 w1
      go_wp2_with fail
      refine Calls.mono hm ?_
      rintro e w2 ⟨v, rfl, ho, hb⟩
      rw [usr_two] at ho
      obtain ⟨b, cap', rfl, hi⟩ := ho.isI
      have HI2 := Lib.hid hi
      have HB2 := Lib.hid (HB.out.trans (hb.mono HB.out.size))
      clear ho hi hb hm
      go_wp2_with fail
      refine (eqints_any _ _ 2 _ _ [1, 3] (by decide) _ (HI2.out.later (below_alloc w2 _)) ⟨rfl, fun _ => ⟨_, rfl, by simp, fun i u hu => ?_⟩⟩).mono ?_
      · match i, hu with
        | 0, hu => simp at hu; subst hu; simp [Addr.add]
        | 1, hu => simp at hu; subst hu; simp [Addr.add]
      rintro e w3 ⟨rfl, hb⟩
      have HB3 := Lib.hid ((HB2.out.alloc HB2.out.size _).trans (hb.mono (by have := HB2.out.size; simp; omega)))
      clear hb
      go_wp2_with fail
      go_ret
      exact ⟨rfl, HB3.out⟩
end Go.Proofs.Ytmnbplfgdgjpdaa
