/- The walk of the law. -/
import Derived.Test.YtbkbikkieabcmaaDoorLawGroupBack
import Derived.Test.YtbkbikkieabcmaaDoorSeqI
import Derived.Lib.MinMax
namespace Go.Proofs.YtbkbikkieabcmaaDoor
open Go Go.RowKit
theorem IsI.later {w w' : World} {a : Option Addr} {n : Nat} {L : List Nat} (h : IsI w a n L) (hB : Below w.heap.size w w') : IsI w' a n L := by
  refine ⟨h.1, fun h0 => ?_⟩
  obtain ⟨x, rfl, hx, hc⟩ := h.2 h0
  have hz := hB.size
  refine ⟨x, rfl, by omega, fun i u hu => ?_⟩
  rw [hB.cell (p := x.add i) (by unfold Addr.add; split <;> exact hx)]
  exact hc i u hu
theorem drewN_below {B : Nat} {a w : World} (h : Below B a w) (n : Nat) : Below B a (w.drewN n) := ⟨h.os, h.tape, h.output, h.size, h.block⟩
end Go.Proofs.YtbkbikkieabcmaaDoor
namespace Go.Proofs.YtbkbikkieabcmaaDoor.Gf
open Go Go.RowKit
set_option linter.unusedVariables false
set_option linter.unusedSimpArgs false
set_option maxHeartbeats 1600000 in
theorem eqints_any (a a' : Option Addr) (n cap cap' : Nat) (l : List Nat) (hl : n ≤ 1000000) (w : World) (h1 : IsI w a n l) (h2 : IsI w a' n l) :
    Calls Tryd.prog 25 #[.slice a n cap, .slice a' n cap'] w fun e w' => e = .returned (.bool true) ∧ Below w.heap.size w w' := by
  have H1 := Lib.hid h1
  have H2 := Lib.hid h2
  clear h1 h2
  go_enter Tryd.func25, Tryd.ntmps25
  go_wp2_with fail
  go_loopw [5] (fun i wr => ∃ k : Nat, k ≤ n ∧ i = .int .i64 k ∧ Below w.heap.size w wr) (fun i _ => n - (intOf i).toNat)
  case atStart => exact ⟨0, Nat.zero_le _, rfl, Below.refl _ _⟩
  case round =>
    obtain ⟨k, hk, rfl, hB⟩ := hrel
    have HB := Lib.hid hB
    clear hB
    by_cases hlt : k < n
    · obtain ⟨x, rfl, _, hr⟩ := (H1.out.later HB.out).2 (by omega)
      obtain ⟨x', rfl, _, hr'⟩ := (H2.out.later HB.out).2 (by omega)
      have hkl : k < l.length := by rw [H1.out.1]; exact hlt
      have c1 := hr k _ (List.getElem?_eq_getElem hkl)
      have d1 := hr' k _ (List.getElem?_eq_getElem hkl)
      clear hr hr'
      generalize l[k] = r at *
      go_wp2_with fail
      go_quiet (fail)
      go_wp2_with fail
      go_roundw
      case rel => exact ⟨k + 1, by omega, by go_num, drewN_below HB.out _⟩
      case measure => simp [intOf]; omega
    · go_wp2_with fail
      go_ret
      exact ⟨rfl, HB.out⟩
theorem ex0 : fmtS 0#64 = [45] := by decide +kernel
theorem ex1 : fmtS 9#64 = [48, 44, 51] := by decide +kernel
theorem ex2 : fmtS 15#64 = [48, 45, 51] := by decide +kernel
theorem ex3 : fmtS 18446744073709551615#64 = [42] := by decide +kernel
theorem ex4 : fmtS 3#64 = [48, 44, 49] := by decide +kernel
theorem ex5 : fmtS 13835058055282163713#64 = [48, 44, 54, 50, 44, 54, 51] := by decide +kernel
theorem ex6 : fmtS 7#64 = [48, 45, 50] := by decide +kernel
theorem ex7 : fmtS 9223372036854775807#64 = [48, 45, 54, 50] := by decide +kernel
theorem ex8 : fmtS 1099511627790#64 = [49, 45, 51, 44, 52, 48] := by decide +kernel
theorem bx0 : pzS [] = (0#64, 4) := by decide +kernel
theorem bx1 : pzS [48, 44, 49, 44, 50] = (0#64, 4) := by decide +kernel
theorem bx2 : pzS [48, 48] = (0#64, 4) := by decide +kernel
theorem bx3 : pzS [50, 44, 49] = (0#64, 4) := by decide +kernel
theorem bx4 : pzS [48, 45, 54, 51] = (0#64, 4) := by decide +kernel
theorem bx5 : pzS [54, 52] = (0#64, 4) := by decide +kernel
theorem bx6 : pzS [48, 45, 49] = (0#64, 4) := by decide +kernel
theorem bx7 : pzS [49, 44, 49] = (0#64, 4) := by decide +kernel
theorem bx8 : pzS [48, 44] = (0#64, 4) := by decide +kernel
theorem bx9 : pzS [44, 48] = (0#64, 4) := by decide +kernel
theorem bx10 : pzS [48, 45, 45, 50] = (0#64, 4) := by decide +kernel
theorem bx11 : pzS [45, 49] = (0#64, 4) := by decide +kernel
theorem bx12 : pzS [48, 45, 50, 45, 52] = (0#64, 4) := by decide +kernel
theorem bx13 : pzS [42, 42] = (0#64, 4) := by decide +kernel
theorem bx14 : pzS [48, 59, 49] = (0#64, 4) := by decide +kernel
theorem bx15 : pzS [32, 48] = (0#64, 4) := by decide +kernel
theorem bx16 : pzS [57, 57, 57, 57, 57, 57, 57, 57, 57, 57, 57, 57, 57, 57, 57, 57, 57, 57, 57, 57, 57] = (0#64, 4) := by decide +kernel

def txC : Array Value := #[.int .u64 0, .string ⟨#[45]⟩, .int .u64 9, .string ⟨#[48, 44, 51]⟩, .int .u64 15, .string ⟨#[48, 45, 51]⟩, .int .u64 18446744073709551615, .string ⟨#[42]⟩, .int .u64 3, .string ⟨#[48, 44, 49]⟩, .int .u64 13835058055282163713, .string ⟨#[48, 44, 54, 50, 44, 54, 51]⟩, .int .u64 7, .string ⟨#[48, 45, 50]⟩, .int .u64 9223372036854775807, .string ⟨#[48, 45, 54, 50]⟩, .int .u64 1099511627790, .string ⟨#[49, 45, 51, 44, 52, 48]⟩]
def bxC : Array Value := #[.string ⟨#[]⟩, .string ⟨#[48, 44, 49, 44, 50]⟩, .string ⟨#[48, 48]⟩, .string ⟨#[50, 44, 49]⟩, .string ⟨#[48, 45, 54, 51]⟩, .string ⟨#[54, 52]⟩, .string ⟨#[48, 45, 49]⟩, .string ⟨#[49, 44, 49]⟩, .string ⟨#[48, 44]⟩, .string ⟨#[44, 48]⟩, .string ⟨#[48, 45, 45, 50]⟩, .string ⟨#[45, 49]⟩, .string ⟨#[48, 45, 50, 45, 52]⟩, .string ⟨#[42, 42]⟩, .string ⟨#[48, 59, 49]⟩, .string ⟨#[32, 48]⟩, .string ⟨#[57, 57, 57, 57, 57, 57, 57, 57, 57, 57, 57, 57, 57, 57, 57, 57, 57, 57, 57, 57, 57]⟩]
theorem txC_at : ∀ k, k < 9 → ∃ x : W64, txC[k * 2]? = some (.int .u64 (x.toNat : Int)) ∧ txC[k * 2 + 1]? = some (.string ⟨(fmtS x).toArray⟩)
  | 0, _ => ⟨0#64, rfl, by rw [ex0]; rfl⟩
  | 1, _ => ⟨9#64, rfl, by rw [ex1]; rfl⟩
  | 2, _ => ⟨15#64, rfl, by rw [ex2]; rfl⟩
  | 3, _ => ⟨18446744073709551615#64, rfl, by rw [ex3]; rfl⟩
  | 4, _ => ⟨3#64, rfl, by rw [ex4]; rfl⟩
  | 5, _ => ⟨13835058055282163713#64, rfl, by rw [ex5]; rfl⟩
  | 6, _ => ⟨7#64, rfl, by rw [ex6]; rfl⟩
  | 7, _ => ⟨9223372036854775807#64, rfl, by rw [ex7]; rfl⟩
  | 8, _ => ⟨1099511627790#64, rfl, by rw [ex8]; rfl⟩
  | n + 9, h => by omega
theorem bxC_at : ∀ k, k < 17 → ∃ s : ByteArray, bxC[k]? = some (.string s) ∧ s.size ≤ 1000 ∧ pzV s.data.toList = .tuple #[.int .u64 0, .int .i64 4]
  | 0, _ => ⟨⟨#[]⟩, rfl, by decide, by unfold pzV; rw [bx0]; rfl⟩
  | 1, _ => ⟨⟨#[48, 44, 49, 44, 50]⟩, rfl, by decide, by unfold pzV; rw [bx1]; rfl⟩
  | 2, _ => ⟨⟨#[48, 48]⟩, rfl, by decide, by unfold pzV; rw [bx2]; rfl⟩
  | 3, _ => ⟨⟨#[50, 44, 49]⟩, rfl, by decide, by unfold pzV; rw [bx3]; rfl⟩
  | 4, _ => ⟨⟨#[48, 45, 54, 51]⟩, rfl, by decide, by unfold pzV; rw [bx4]; rfl⟩
  | 5, _ => ⟨⟨#[54, 52]⟩, rfl, by decide, by unfold pzV; rw [bx5]; rfl⟩
  | 6, _ => ⟨⟨#[48, 45, 49]⟩, rfl, by decide, by unfold pzV; rw [bx6]; rfl⟩
  | 7, _ => ⟨⟨#[49, 44, 49]⟩, rfl, by decide, by unfold pzV; rw [bx7]; rfl⟩
  | 8, _ => ⟨⟨#[48, 44]⟩, rfl, by decide, by unfold pzV; rw [bx8]; rfl⟩
  | 9, _ => ⟨⟨#[44, 48]⟩, rfl, by decide, by unfold pzV; rw [bx9]; rfl⟩
  | 10, _ => ⟨⟨#[48, 45, 45, 50]⟩, rfl, by decide, by unfold pzV; rw [bx10]; rfl⟩
  | 11, _ => ⟨⟨#[45, 49]⟩, rfl, by decide, by unfold pzV; rw [bx11]; rfl⟩
  | 12, _ => ⟨⟨#[48, 45, 50, 45, 52]⟩, rfl, by decide, by unfold pzV; rw [bx12]; rfl⟩
  | 13, _ => ⟨⟨#[42, 42]⟩, rfl, by decide, by unfold pzV; rw [bx13]; rfl⟩
  | 14, _ => ⟨⟨#[48, 59, 49]⟩, rfl, by decide, by unfold pzV; rw [bx14]; rfl⟩
  | 15, _ => ⟨⟨#[32, 48]⟩, rfl, by decide, by unfold pzV; rw [bx15]; rfl⟩
  | 16, _ => ⟨⟨#[57, 57, 57, 57, 57, 57, 57, 57, 57, 57, 57, 57, 57, 57, 57, 57, 57, 57, 57, 57, 57]⟩, rfl, by decide, by unfold pzV; rw [bx16]; rfl⟩
  | n + 17, h => by omega

theorem usr_nine : usr 9#64 = [0, 3] := by kernel_rfl
theorem of64 (b : Nat) (cap : Nat) (w : World) (hb : b < w.heap.size) (hc : w.cell? ⟨b, 0, none⟩ = some (.int .i64 64)) : Calls Tryd.prog 21 #[.slice (some ⟨b, 0, none⟩) 1 cap] w fun e w' => e = .returned (.tuple #[.int .u64 0, .int .i64 3]) ∧ w = w' := by
  have := ofz_any (some ⟨b, 0, none⟩) 1 cap [64] w (by decide) ⟨rfl, fun _ => ⟨_, rfl, hb, fun i u hu => by
    match i, hu with
    | 0, hu => simp at hu; subst hu; simpa [Addr.add] using hc⟩⟩
  rw [ofS_f (by decide), ofE_f (by decide)] at this
  exact this
theorem parse_fmt (x : W64) (W : World) (h : Gl W) : Calls Tryd.prog 17 #[.string ⟨(fmtS x).toArray⟩] W fun e w' => e = .returned (.tuple #[.int .u64 (x.toNat : Int), .int .i64 0]) ∧ Below W.heap.size W w' := by
  have hfl := fmt_len x
  have := parse_any ⟨(fmtS x).toArray⟩ (by simp [ByteArray.size]; omega) W h
  have e : pzV (fmtS x) = .tuple #[.int .u64 (x.toNat : Int), .int .i64 0] := by unfold pzV; rw [pzS_fmt]
  simp only [e] at this
  exact this
set_option maxRecDepth 100000 in
set_option maxHeartbeats 6400000 in
theorem groupexamples_law (w : World) (hG : Gl w) :
    Calls Tryd.prog 7 #[] w fun e w' => e = .returned (.bool true) ∧ Below w.heap.size w w' := by
  have HGL := Lib.hid hG
  clear hG
  have HA64 : Hid (∀ W, Calls Tryd.prog 23 #[.int .i64 64] W fun e w' => e = .returned (.tuple #[.int .u64 18446744073709551615, .int .i64 0]) ∧ W = w') := fun W => by
    have := all_64 W
    rw [show ((allW 64).toNat : Int) = 18446744073709551615 by decide +kernel] at this
    exact this
  go_enter Tryd.func7, Tryd.ntmps7
  go_wp2_with fail
  refine (of64 _ _ _ (by simp) (by simp)).mono ?_
  rintro e w1 ⟨rfl, rfl⟩
  have HB1 : Hid (Below w.heap.size w _) := below_alloc w (.cells #[.int .i64 64] 3)
  go_wp2_with fail
  refine (HA64.out _).mono ?_
  rintro e w1 ⟨rfl, rfl⟩
  go_wp2_with fail
  refine (all_out 65 (by omega) _).mono ?_
  rintro e w1 ⟨rfl, rfl⟩
  go_wp2_with fail
  refine (has_any 9#64 3 _).mono ?_
  rintro e w1 ⟨rfl, rfl⟩
  rw [show hasB 9#64 3 = true by decide]
  go_wp2_with fail
  refine (has_any 9#64 (-1) _).mono ?_
  rintro e w1 ⟨rfl, rfl⟩
  rw [show hasB 9#64 (-1) = false by decide]
  go_wp2_with fail
  refine (has_any 18446744073709551615#64 64 _).mono ?_
  rintro e w1 ⟨rfl, rfl⟩
  rw [show hasB 18446744073709551615#64 64 = false by decide]
  go_wp2_with fail
  generalize w.alloc (.cells #[.int .i64 64] 3) = W0 at *
  refine (members_any 9#64 _).mono ?_
  rintro e w1 ⟨v, rfl, ho, hb⟩
  rw [usr_nine] at ho
  obtain ⟨b, cap', rfl, hi⟩ := ho.isI
  have HI := Lib.hid hi
  have HB2 := Lib.hid (Below.next HB1.out hb)
  clear ho hi hb
  go_wp2_with fail
  refine (eqints_any _ _ 2 _ _ [0, 3] (by decide) _ (HI.out.later (below_alloc w1 _)) ⟨rfl, fun _ => ⟨_, rfl, by simp, fun i u hu => ?_⟩⟩).mono ?_
  · match i, hu with
    | 0, hu => simp at hu; subst hu; simp [Addr.add]
    | 1, hu => simp at hu; subst hu; simp [Addr.add]
  rintro e w3 ⟨rfl, hb⟩
  have HB3 := Lib.hid ((HB2.out.alloc HB2.out.size _).trans (hb.mono (by have := HB2.out.size; simp; omega)))
  clear hb
  go_wp2_with fail
  refine (meet_any (some ⟨w3.heap.size, 0, none⟩) 2 2 [7#64, 12#64] _ (by decide) ⟨rfl, fun _ => ⟨_, rfl, by simp, fun i h => ?_⟩⟩).mono ?_
  · match i, h with
    | 0, h => simp [Addr.add]
    | 1, h => simp [Addr.add]
    | n + 2, h => simp at h; omega
  rintro e w4 ⟨rfl, rfl⟩
  rw [show ((meetL [7#64, 12#64]).toNat : Int) = 4 by decide +kernel]
  have HB4 := Lib.hid (HB3.out.alloc HB3.out.size (.cells #[.int .u64 7, .int .u64 12] 42))
  go_wp2_with fail
  refine (meet_any none 0 0 [] _ (by decide) ⟨rfl, fun h => absurd h (by decide)⟩).mono ?_
  rintro e w5 ⟨rfl, rfl⟩
  rw [show ((meetL []).toNat : Int) = 18446744073709551615 by decide +kernel]
  generalize w3.alloc (.cells #[.int .u64 7, .int .u64 12] 42) = W1 at *
  go_wp2_with fail
  obtain ⟨W2, hW2⟩ : ∃ W2, W2 = W1.alloc (.cells txC 55) := ⟨_, rfl⟩
  have HT : Hid (∀ k, k < 9 → ∃ x : W64, W2.cell? ⟨W1.heap.size, k * 2, none⟩ = some (.int .u64 (x.toNat : Int)) ∧ W2.cell? ⟨W1.heap.size, k * 2 + 1, none⟩ = some (.string ⟨(fmtS x).toArray⟩)) := fun k hk => by
    obtain ⟨x, h1, h2⟩ := txC_at k hk
    subst hW2
    exact ⟨x, by simpa using h1, by simpa using h2⟩
  have HB5 : Hid (Below w.heap.size w W2) := by subst hW2; exact HB4.out.alloc HB4.out.size _
  have HZ : Hid (W1.heap.size < W2.heap.size) := by unfold Hid; subst hW2; simp
  change Code.wp _ _ _ _ (W1.alloc (.cells txC 55))
  rw [← hW2]
  clear hW2
  generalize W1.heap.size = b2 at *
  go_loopw [9] (fun i wr => ∃ k : Nat, k ≤ 9 ∧ i = .int .i64 (k : Int) ∧ Hid (Below W2.heap.size W2 wr)) (fun i _ => 9 - (intOf i).toNat)
  case atStart => exact ⟨0, by omega, rfl, Below.refl _ _⟩
  case round =>
    obtain ⟨k, hk, rfl, HB⟩ := hrel
    by_cases hlt : k < 9
    · obtain ⟨x, c0, c1⟩ := HT.out k hlt
      have C0 := Lib.hid c0
      have C1 := Lib.hid c1
      have d1 := (HB.out.cell (p := ⟨b2, k * 2 + 1, none⟩) HZ.out).trans c1
      clear c0 c1
      have hx0 := x.isLt
      go_wp2_with fail
      refine (parse_fmt x _ (Gl.later HGL.out (Below.next HB5.out HB.out))).mono ?_
      rintro e w5 ⟨rfl, hb⟩
      have HB6 := Lib.hid (Below.next HB.out hb)
      clear hb d1
      have e0 := (HB6.out.cell (p := ⟨b2, k * 2, none⟩) HZ.out).trans C0.out
      have e1 := (HB6.out.cell (p := ⟨b2, k * 2 + 1, none⟩) HZ.out).trans C1.out
      have E0 := Lib.hid e0
      have E1 := Lib.hid e1
      have HZ5 : Hid (b2 < w5.heap.size) := Nat.lt_of_lt_of_le HZ.out HB6.out.size
      clear e0 e1
      have hmx : Tryd.prog.follows .mixedOrders = true := by kernel_rfl
      go_wp2_with fail
      clear hx0
      refine wp_region_seqi (fun X => Below w5.heap.size w5 X ∧ X.cell? ⟨b2, k * 2, none⟩ = some (.int .u64 (x.toNat : Int)) ∧ X.cell? ⟨b2, k * 2 + 1, none⟩ = some (.string ⟨(fmtS x).toArray⟩)) (fun X X2 hB h => ⟨Below.next h.1 hB, (hB.cell (p := ⟨b2, k * 2, none⟩) (Nat.lt_of_lt_of_le HZ5.out h.1.size)).trans h.2.1, (hB.cell (p := ⟨b2, k * 2 + 1, none⟩) (Nat.lt_of_lt_of_le HZ5.out h.1.size)).trans h.2.2⟩) (by kernel_rfl) (by kernel_rfl) (by kernel_rfl) ⟨(Below.refl _ w5).drew, E0.out, E1.out⟩ ?_
      simp only [putsL, Act.put, List.setIfInBounds_toArray, List.set_cons_zero, List.set_cons_succ, Nat.zero_add, Nat.reduceAdd]
      repeat (first
        | (refine seqi_call (f := 19) (fun v _ => v = .string ⟨(fmtS x).toArray⟩) (stable_val _) (fun vs => #[.int .u64 (x.toNat : Int)]) (fun vs W hD => (by first | rfl | (simp [DepA, isB, rsAt] at hD; simp [Region.wanted, yielded, hD]))) (fun vs W hS hD => ?_) (fun vs W hS hD => ?_) ?_
           · (obtain ⟨_, e0, e1⟩ := hS; (try simp [DepA, isB, rsAt] at hD); (try simp only [hD]); go_simp; done)
           · (exact (format_any x W).mono fun e W' ⟨he, hB⟩ => ⟨⟨_, he, rfl⟩, hB⟩)
           simp only [List.nil_append, List.cons_append])
        | (refine seqi_run ?_ (fun vs W hD => (by first | rfl | (simp [DepA, isB, rsAt] at hD; simp [Region.wanted, yielded, hD]))) (fun vs W hS hD => ?_) ?_
           rotate_left
           (obtain ⟨_, e0, e1⟩ := hS; (try simp [DepA, isB, rsAt] at hD); (try simp only [hD]); (first | (go_simp; done) | (go_simp; rfl)))
           simp only [List.nil_append, List.cons_append]))
      refine seqi_end fun vs W hS hv => ?_
      simp only [AllF, Nat.zero_add, Nat.reduceAdd] at hv
      obtain ⟨h0, h1, h2, h3, h4, h5, h6, h7, h8, h9, h10, h11, h12, h13, h14, h15, h16, h17, h18, h19, h20, h21, h22, h23, h24, _⟩ := hv
      simp only [h0, h1, h2, h3, h4, h5, h6, h7, h8, h9, h10, h11, h12, h13, h14, h15, h16, h17, h18, h19, h20, h21, h22, h23, h24]
      clear h0 h1 h2 h3 h4 h5 h6 h7 h8 h9 h10 h11 h12 h13 h14 h15 h16 h17 h18 h19 h20 h21 h22 h23 h24
      have HB7 := Lib.hid (Below.next HB6.out hS.1)
      clear hS
      go_wp2_with fail
      exact ⟨⟨k + 1, by omega, by go_num, HB7.out⟩, by simp [intOf]; omega⟩
    · have HB6 := Lib.hid (Below.next HB5.out HB.out)
      clear HB
      generalize k = k0 at *
      go_wp2_with fail
      clear hlt hk
      obtain ⟨W3, hW3⟩ : ∃ W3, W3 = wr.alloc (.cells bxC 9) := ⟨_, rfl⟩
      have HT3 : Hid (∀ k, k < 17 → ∃ s : ByteArray, W3.cell? ⟨wr.heap.size, k, none⟩ = some (.string s) ∧ s.size ≤ 1000 ∧ pzV s.data.toList = .tuple #[.int .u64 0, .int .i64 4]) := fun k hk => by
        obtain ⟨x, h1, h2⟩ := bxC_at k hk
        subst hW3
        exact ⟨x, by simpa using h1, h2⟩
      have HB7 : Hid (Below w.heap.size w W3) := by subst hW3; exact HB6.out.alloc HB6.out.size _
      have HZ3 : Hid (wr.heap.size < W3.heap.size) := by unfold Hid; subst hW3; simp
      change Code.wp _ _ _ _ (wr.alloc (.cells bxC 9))
      rw [← hW3]
      clear hW3
      generalize wr.heap.size = b3 at *
      go_loopw [130] (fun i wr => ∃ k : Nat, k ≤ 17 ∧ i = .int .i64 (k : Int) ∧ Hid (Below W3.heap.size W3 wr)) (fun i _ => 17 - (intOf i).toNat)
      case atStart => exact ⟨0, by omega, rfl, Below.refl _ _⟩
      case round =>
        obtain ⟨k, hk, rfl, HB⟩ := hrel
        by_cases hlt : k < 17
        · obtain ⟨s, c0, hs, hp⟩ := HT3.out k hlt
          have d0 := (HB.out.cell (p := ⟨b3, k, none⟩) HZ3.out).trans c0
          have HP := Lib.hid (fun W h => parse_any s (by omega) W h)
          rw [hp] at HP
          clear c0 hp hs
          go_wp2_with fail
          refine (HP.out _ (Gl.later HGL.out (Below.next HB7.out HB.out))).mono ?_
          rintro e w5 ⟨rfl, hb⟩
          have HB8 := Lib.hid (Below.next HB.out hb)
          clear hb d0
          go_wp2_with fail
          go_roundw
          case rel => exact ⟨k + 1, by omega, by go_num, HB8.out⟩
          case measure => simp [intOf]; omega
        · obtain rfl : k = 17 := by omega
          go_wp2_with fail
          go_ret
          exact ⟨rfl, Below.next HB7.out HB.out⟩
end Go.Proofs.YtbkbikkieabcmaaDoor.Gf
