/- Contracts of the specification's sums of lists (louvreref01.total, Sum, Add). -/
import Derived.Test.YtdanbabamcdebaaGreatDoorHold
namespace Go.Proofs.YtdanbabamcdebaaGreatDoor
open Go.RowKit

/-- A list of numbers that lies in memory from a cell on. -/
def InMem (w : World) (b off : Nat) (zs : List Int) : Prop := b < w.heap.size ∧ ∀ i, i < zs.length → w.cell? ⟨b, off + i, none⟩ = some (.int .i64 (zs.getD i 0))
theorem InMem.later {w w1 : World} {b off : Nat} {zs : List Int} (h : InMem w b off zs) (hb : Below w.heap.size w w1) : InMem w1 b off zs :=
  ⟨Nat.lt_of_lt_of_le h.1 hb.size, fun i hi => (hb.cell (p := ⟨b, off + i, none⟩) h.1).trans (h.2 i hi)⟩
theorem sum_snoc (zs : List Int) (k : Nat) (h : k < zs.length) : (zs.take (k + 1)).sum = (zs.take k).sum + zs.getD k 0 := by
  rw [List.take_succ_eq_append_getElem h, List.sum_append]; simp [List.getD_eq_getElem?_getD, h]

set_option maxHeartbeats 1000000 in
theorem total_any (b off cap : Nat) (zs : List Int) (hz : ∀ z ∈ zs, InI z) (hl : zs.length ≤ 4000000000) (w : World) (hm : InMem w b off zs) :
    Calls Tryz.prog 130 #[.slice (some ⟨b, off, none⟩) zs.length cap] w fun e w' =>
      ∃ h l, e = .returned (.tuple #[.agg #[.int .u64 h, .int .u64 l], .bool (ltB zs.sum 0)]) ∧ IsW h l (sizeOf' zs.sum) ∧ Below w.heap.size w w' := by
  have q0 : Hold (((w.alloc (.cells #[.int .u64 0, .int .u64 0] 85)).alloc (.cells #[.int .u64 0, .int .u64 0] 85)).alloc (.cells #[.int .u64 0, .int .u64 0] 85)) w.heap.size 0 0 :=
    (Hold.new.later ((Below.refl _ _).alloc (by simp) _)).later ((Below.refl _ _).alloc (by simp) _)
  have q1 : Hold (((w.alloc (.cells #[.int .u64 0, .int .u64 0] 85)).alloc (.cells #[.int .u64 0, .int .u64 0] 85)).alloc (.cells #[.int .u64 0, .int .u64 0] 85)) (w.heap.size + 1) 0 0 := by
    have := (Hold.new (w := w.alloc (.cells #[.int .u64 0, .int .u64 0] 85)) (h := 0) (l := 0) (t := 85)).later ((Below.refl _ _).alloc (Nat.le_refl _) (.cells #[.int .u64 0, .int .u64 0] 85))
    simpa using this
  have q2 : Hold (((w.alloc (.cells #[.int .u64 0, .int .u64 0] 85)).alloc (.cells #[.int .u64 0, .int .u64 0] 85)).alloc (.cells #[.int .u64 0, .int .u64 0] 85)) (w.heap.size + 2) 0 0 := by
    have := Hold.new (w := (w.alloc (.cells #[.int .u64 0, .int .u64 0] 85)).alloc (.cells #[.int .u64 0, .int .u64 0] 85)) (h := 0) (l := 0) (t := 85)
    simpa using this
  have hb0 : Below w.heap.size w (((w.alloc (.cells #[.int .u64 0, .int .u64 0] 85)).alloc (.cells #[.int .u64 0, .int .u64 0] 85)).alloc (.cells #[.int .u64 0, .int .u64 0] 85)) := (((Below.refl _ _).alloc (by simp) _).alloc (by simp) _).alloc (by simp; omega) _
  have HZ := Lib.hid hz
  clear hz
  go_enter Tryz.func130, Tryz.ntmps130
  go_wp2_with fail
  go_loopw [6] (fun i wr => ∃ k : Nat, k ≤ zs.length ∧ i = .int .i64 k ∧ Pair w wr (w.heap.size + 1) (zs.take k).sum k ∧ Hold wr w.heap.size 0 0) (fun i _ => zs.length - (intOf i).toNat)
  case atStart => exact ⟨0, Nat.zero_le _, rfl, ⟨0, 0, 0, 0, 0, 0, q1, q2, hb0, IsW.zero, IsW.zero, by simp, by simp, by simp⟩, q0⟩
  case round =>
    rename_i wr
    obtain ⟨k, hk, rfl, ⟨uh, ul, dh, dl, n, m, hu, hd, hb, xu, xd, hz, hn, hmm⟩, h0⟩ := hrel
    clear q0 q1 q2 hb0
    have HZ2 := Lib.hid hz
    clear hz
    obtain ⟨u0, u1, u2, u3, u4⟩ := id hu
    obtain ⟨d0, d1, d2, d3, d4⟩ := id hd
    obtain ⟨r0, r1, r2, r3, r4⟩ := id h0
    have HM := Lib.hid hm
    clear hm
    by_cases hlt : k < zs.length
    · have hcell := (hb.cell (p := ⟨b, off + k, none⟩) HM.out.1).trans (HM.out.2 k hlt)
      obtain ⟨z, hzd⟩ : ∃ z, z = zs.getD k 0 := ⟨_, rfl⟩
      rw [← hzd] at hcell
      have HI : Hid (InI z) := by rw [hzd, List.getD_eq_getElem?_getD]; simp only [List.getElem?_eq_getElem hlt, Option.getD_some]; exact HZ.out _ (List.getElem_mem hlt)
      have HZD := Lib.hid hzd
      clear hzd
      have hs := Lib.hid (size_bd HI.out)
      by_cases h1 : z < 0
      · go_wp2_with fail
        go_region_with (first | (go_at_call 87; refine (rsize_any _ HI.out _).mono ?_; rintro e w' ⟨rfl, rfl⟩) | (go_at_call 96; refine (plus_any _ _ _ _ _ _ xd (size_lo HI.out) (by have := hs.out; omega) _).mono ?_; rintro e w1 ⟨h, l, rfl, hI, hB⟩; obtain ⟨hc, hf⟩ := bcell hB; simp at hc hf))
        all_goals
          go_wp2_with fail
          go_roundw
          case rel =>
            exact ⟨k + 1, by omega, by go_num, ((Pair.down (k := k) (Nat.le_succ _) hu.drew hd.drew hb.drew xu HZ2.out hn hmm hB hI hs.out).as (by rw [size_n h1, sum_snoc _ _ hlt, ← HZD.out]; omega)).ask (by omega), ((h0.drew.later hB).other (by omega) _ _)⟩
          case measure => simp [intOf]; omega
      · go_wp2_with fail
        go_region_with (first | (go_at_call 87; refine (rsize_any _ HI.out _).mono ?_; rintro e w' ⟨rfl, rfl⟩) | (go_at_call 96; refine (plus_any _ _ _ _ _ _ xu (size_lo HI.out) (by have := hs.out; omega) _).mono ?_; rintro e w1 ⟨h, l, rfl, hI, hB⟩; obtain ⟨hc, hf⟩ := bcell hB; simp at hc hf))
        all_goals
          go_wp2_with fail
          go_roundw
          case rel =>
            exact ⟨k + 1, by omega, by go_num, ((Pair.up (k := k) (Nat.le_succ _) hu.drew hd.drew hb.drew xd HZ2.out hn hmm hB hI hs.out).as (by rw [size_p (by omega), sum_snoc _ _ hlt, ← HZD.out])).ask (by omega), ((h0.drew.later hB).other (by omega) _ _)⟩
          case measure => simp [intOf]; omega
    · have hz2 : n - m = zs.sum := by have := HZ2.out; rw [List.take_of_length_le (by omega)] at this; exact this
      have HZ3 := Lib.hid hz2
      clear hz2 HZ2
      by_cases hnm : n < m
      · go_wp2_with fail
        refine (less_any _ _ _ _ _ _ xu xd _).mono ?_
        rintro e w1 ⟨rfl, hB1⟩
        rw [ltB_t hnm]
        have r1' := h0.later hB1
        have hu1 := hu.later hB1
        have hd1 := hd.later hB1
        obtain ⟨u10, u11, u12, u13, u14⟩ := hu1
        obtain ⟨d10, d11, d12, d13, d14⟩ := hd1
        go_wp2_with fail
        refine (minus_any _ _ _ _ _ _ xd xu (by omega) _).mono ?_
        rintro e w2 ⟨h, l, rfl, hI, hB2⟩
        have r2' := r1'.later hB2
        obtain ⟨r20, r21, r22, r23, r24⟩ := id r2'
        go_wp2_with fail
        obtain ⟨s0, s1, s2, s3, s4⟩ := r2'.set h l
        have e1 : ltB zs.sum 0 = true := ltB_t (by have := HZ3.out; omega)
        have e2 : m - n = sizeOf' zs.sum := by have := HZ3.out; rw [size_n (by omega)]; omega
        rw [e2] at hI
        rw [e1]
        refine bodyPost_ret (v := .tuple #[.agg #[_, _], _]) (by simp [results, Tryz.results130, go_sem, s1, s2]) rfl ⟨_, _, rfl, hI, ((Below.next (Below.next hb hB1) hB2).setCell (by simp) _).setCell (by simp) _⟩
      · go_wp2_with fail
        refine (less_any _ _ _ _ _ _ xu xd _).mono ?_
        rintro e w1 ⟨rfl, hB1⟩
        rw [ltB_f (by omega)]
        have r1' := h0.later hB1
        have hu1 := hu.later hB1
        have hd1 := hd.later hB1
        obtain ⟨u10, u11, u12, u13, u14⟩ := hu1
        obtain ⟨d10, d11, d12, d13, d14⟩ := hd1
        go_wp2_with fail
        refine (minus_any _ _ _ _ _ _ xu xd (by omega) _).mono ?_
        rintro e w2 ⟨h, l, rfl, hI, hB2⟩
        have r2' := r1'.later hB2
        obtain ⟨r20, r21, r22, r23, r24⟩ := id r2'
        go_wp2_with fail
        obtain ⟨s0, s1, s2, s3, s4⟩ := r2'.set h l
        have e1 : ltB zs.sum 0 = false := ltB_f (by have := HZ3.out; omega)
        have e2 : n - m = sizeOf' zs.sum := by have := HZ3.out; rw [size_p (by omega)]; omega
        rw [e2] at hI
        rw [e1]
        refine bodyPost_ret (v := .tuple #[.agg #[_, _], _]) (by simp [results, Tryz.results130, go_sem, s1, s2]) rfl ⟨_, _, rfl, hI, ((Below.next (Below.next hb hB1) hB2).setCell (by simp) _).setCell (by simp) _⟩

set_option maxHeartbeats 400000 in
theorem rsum_any (b off cap : Nat) (zs : List Int) (hz : ∀ z ∈ zs, InI z) (hl : zs.length ≤ 4000000000) (w : World) (hm : InMem w b off zs) :
    Calls Tryz.prog 95 #[.slice (some ⟨b, off, none⟩) zs.length cap] w fun e w' =>
      e = .returned (.tuple #[.int .i64 (resV zs.sum), .bool (resB zs.sum)]) ∧ Below w.heap.size w w' := by
  have HZ := Lib.hid hz
  have HM := Lib.hid hm
  clear hz hm
  go_enter Tryz.func95, Tryz.ntmps95
  go_wp2_with fail
  refine (total_any b off cap zs HZ.out hl _ HM.out).mono ?_
  rintro e w1 ⟨h, l, rfl, hI, hB1⟩
  have h1 := Hold.new (w := w1) (h := h) (l := l) (t := 85)
  go_wp2_with fail
  refine (signed_any _ _ _ hI _ _).mono ?_
  rintro e w2 ⟨rfl, hB2⟩
  go_wp2_with fail
  go_ret2
  have e1 : sg (sizeOf' zs.sum) (ltB zs.sum 0) = zs.sum := by
    by_cases h : zs.sum < 0
    · rw [size_n h, ltB_t h]; simp [sg]
    · rw [size_p h, ltB_f h]; simp [sg]
  exact ⟨by rw [e1]; rfl, Below.next (hB1.alloc hB1.size _) hB2⟩
end Go.Proofs.YtdanbabamcdebaaGreatDoor
