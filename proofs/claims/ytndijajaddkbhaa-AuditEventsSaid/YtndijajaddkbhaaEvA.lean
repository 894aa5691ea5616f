/- Entries of the logs in memory; copies and comparisons. -/
import Derived.Test.YtndijajaddkbhaaAclD
namespace Go.Proofs.Ytndijajaddkbhaa.Re
open Go.RowKit AM
structure EV where
  st : Int
  us : Int
  kd : BitVec 8
  c1 : Int
  r1 : Int
  c2 : Int
  r2 : Int
  dn : Bool
  tos : W64
def cellsEV (r : EV) : List Value := [.int .i64 r.st, .int .i64 r.us, .int .u8 (r.kd.toNat : Int), .int .i64 r.c1, .int .i64 r.r1, .int .i64 r.c2, .int .i64 r.r2, .bool r.dn, .int .u64 (r.tos.toNat : Int)]
theorem cellsEV_len (r : EV) : (cellsEV r).length = 9 := rfl
theorem cellsEV_one (r : EV) : ∀ u ∈ cellsEV r, u.oneCell' = true := by
  intro u hu; simp [cellsEV] at hu; rcases hu with rfl | rfl | rfl | rfl | rfl | rfl | rfl | rfl | rfl <;> rfl
def AtEV (w : World) (b off : Nat) (r : EV) : Prop :=
  w.cell? ⟨b, off, none⟩ = some (.int .i64 r.st) ∧ w.cell? ⟨b, off + 1, none⟩ = some (.int .i64 r.us) ∧ w.cell? ⟨b, off + 2, none⟩ = some (.int .u8 (r.kd.toNat : Int)) ∧ w.cell? ⟨b, off + 3, none⟩ = some (.int .i64 r.c1) ∧ w.cell? ⟨b, off + 4, none⟩ = some (.int .i64 r.r1) ∧ w.cell? ⟨b, off + 5, none⟩ = some (.int .i64 r.c2) ∧ w.cell? ⟨b, off + 6, none⟩ = some (.int .i64 r.r2) ∧ w.cell? ⟨b, off + 7, none⟩ = some (.bool r.dn) ∧ w.cell? ⟨b, off + 8, none⟩ = some (.int .u64 (r.tos.toNat : Int))
theorem RowOf.atEV {w : World} {b off : Nat} {L : List EV} (h : RowOf cellsEV 9 w b off L) (k : Nat) (hk : k < L.length) : AtEV w b (off + k * 9) L[k] :=
  ⟨h.2 k hk 0 _ rfl, h.2 k hk 1 _ rfl, h.2 k hk 2 _ rfl, h.2 k hk 3 _ rfl, h.2 k hk 4 _ rfl, h.2 k hk 5 _ rfl, h.2 k hk 6 _ rfl, h.2 k hk 7 _ rfl, h.2 k hk 8 _ rfl⟩
abbrev IsEV (w : World) (a : Option Addr) (n : Nat) (L : List EV) : Prop := IsOf cellsEV 9 w a n L
abbrev OwnEV (B : Nat) (w : World) (v : Value) (L : List EV) : Prop := OwnOf 84 cellsEV 9 B w v L
theorem infoEV : (Try.prog.info? 84).map (fun i => (i.zero, i.size, i.bytes)) = some (some (.agg #[.int .i64 0, .int .i64 0, .int .u8 0, .int .i64 0, .int .i64 0, .int .i64 0, .int .i64 0, .bool false, .int .u64 0]), 9, 72) := by kernel_rfl
theorem zeroEV : (Value.agg #[.int .i64 0, .int .i64 0, .int .u8 0, .int .i64 0, .int .i64 0, .int .i64 0, .int .i64 0, .bool false, .int .u64 0]).cells.size = 9 := rfl
/-- One in a block of its own. -/
def BoxEV (w : World) (p : Nat) (r : EV) : Prop := p < w.heap.size ∧ AtEV w p 0 r
theorem BoxEV.later {w w' : World} {p : Nat} {r : EV} (h : BoxEV w p r) (hB : Below w.heap.size w w') : BoxEV w' p r := by
  obtain ⟨h0, h1, h2, h3, h4, h5, h6, h7, h8, h9⟩ := h
  have hc := (bcell hB).1
  exact ⟨Nat.lt_of_lt_of_le h0 hB.size, by rw [hc _ _ h0]; exact h1, by rw [hc _ _ h0]; exact h2, by rw [hc _ _ h0]; exact h3, by rw [hc _ _ h0]; exact h4, by rw [hc _ _ h0]; exact h5, by rw [hc _ _ h0]; exact h6, by rw [hc _ _ h0]; exact h7, by rw [hc _ _ h0]; exact h8, by rw [hc _ _ h0]; exact h9⟩
theorem BoxEV.start (w : World) (r : EV) (t : TypeId) : BoxEV (w.alloc (.cells (cellsEV r).toArray t)) w.heap.size r := by
  refine ⟨by simp, ?_, ?_, ?_, ?_, ?_, ?_, ?_, ?_, ?_⟩ <;> simp [cellsEV]
theorem copyEV_any (a : Option Addr) (len cap : Nat) (L : List EV) (hl : len * 72 ≤ 140737488355328) (w : World) (hL : IsEV w a len L) :
    Calls Try.prog 36 #[.slice a len cap] w fun e w' => (∃ v, e = .returned v ∧ OwnEV w.heap.size w' v L) ∧ Below w.heap.size w w' := by
  go_enter Try.func36, Try.ntmps36
  go_wp2_with (at_builtin; refine wpList_appOf rfl (.const (.slice none 0 0)) (.tmp 3) 71 rfl Try.underlying71 _ 72 infoEV zeroEV (by decide) (by decide) cellsEV_len cellsEV_one w.heap.size _ [] rfl (OwnOf.nil _ _ _ _ _) a len cap L rfl hL (by simp only [List.length_nil, Nat.zero_add]; omega) (Nat.le_refl _) ?_)
  intro v' w1 ho hb
  have HO := Lib.hid ho
  have HB := Lib.hid hb
  clear ho hb
  go_wp2_with fail
  go_ret
  exact ⟨⟨_, rfl, by simpa using HO.out⟩, HB.out⟩
set_option maxHeartbeats 1600000 in
theorem eqEV_any (a a' : Option Addr) (n cap cap' : Nat) (l : List EV) (hl : n ≤ 1000000) (w : World) (h1 : IsEV w a n l) (h2 : IsEV w a' n l) :
    Calls Try.prog 40 #[.slice a n cap, .slice a' n cap'] w fun e w' => e = .returned (.bool true) ∧ Below w.heap.size w w' := by
  have H1 := Lib.hid h1
  have H2 := Lib.hid h2
  clear h1 h2
  go_enter Try.func40, Try.ntmps40
  go_wp2_with fail
  go_loopw [5] (fun i wr => ∃ k : Nat, k ≤ n ∧ i = .int .i64 k ∧ Below w.heap.size w wr) (fun i _ => n - (intOf i).toNat)
  case atStart => exact ⟨0, Nat.zero_le _, rfl, Below.refl _ _⟩
  case round =>
    obtain ⟨k, hk, rfl, hB⟩ := hrel
    have HB := Lib.hid hB
    clear hB
    by_cases hlt : k < n
    · obtain ⟨b, off, rfl, hr⟩ := H1.out.2 (by omega)
      obtain ⟨b', off', rfl, hr'⟩ := H2.out.2 (by omega)
      have hkl : k < l.length := by rw [H1.out.1]; exact hlt
      obtain ⟨c1, c2, c3, c4, c5, c6, c7, c8, c9⟩ := RowOf.atEV (hr.later HB.out) k hkl
      obtain ⟨d1, d2, d3, d4, d5, d6, d7, d8, d9⟩ := RowOf.atEV (hr'.later HB.out) k hkl
      clear hr hr'
      generalize l[k] = r at *
      obtain ⟨x1, x2, x3, x4, x5, x6, x7, x8, x9⟩ := r
      dsimp only at *
      go_wp2_with fail
      go_quiet (fail)
      go_wp2_with fail
      go_roundw
      case rel => exact ⟨k + 1, by omega, by go_num, ⟨HB.out.os, HB.out.tape, HB.out.output, HB.out.size, HB.out.block⟩⟩
      case measure => simp [intOf]; omega
    · go_wp2_with fail
      go_ret
      exact ⟨rfl, HB.out⟩
structure LV where
  st : Int
  ac : Int
  ar : Int
  nd : Int
  fn : BitVec 8
  c1 : Int
  r1 : Int
  c2 : Int
  r2 : Int
  gr : Int
  tos : W64
def cellsLV (r : LV) : List Value := [.int .i64 r.st, .int .i64 r.ac, .int .i64 r.ar, .int .i64 r.nd, .int .u8 (r.fn.toNat : Int), .int .i64 r.c1, .int .i64 r.r1, .int .i64 r.c2, .int .i64 r.r2, .int .i64 r.gr, .int .u64 (r.tos.toNat : Int)]
theorem cellsLV_len (r : LV) : (cellsLV r).length = 11 := rfl
theorem cellsLV_one (r : LV) : ∀ u ∈ cellsLV r, u.oneCell' = true := by
  intro u hu; simp [cellsLV] at hu; rcases hu with rfl | rfl | rfl | rfl | rfl | rfl | rfl | rfl | rfl | rfl | rfl <;> rfl
def AtLV (w : World) (b off : Nat) (r : LV) : Prop :=
  w.cell? ⟨b, off, none⟩ = some (.int .i64 r.st) ∧ w.cell? ⟨b, off + 1, none⟩ = some (.int .i64 r.ac) ∧ w.cell? ⟨b, off + 2, none⟩ = some (.int .i64 r.ar) ∧ w.cell? ⟨b, off + 3, none⟩ = some (.int .i64 r.nd) ∧ w.cell? ⟨b, off + 4, none⟩ = some (.int .u8 (r.fn.toNat : Int)) ∧ w.cell? ⟨b, off + 5, none⟩ = some (.int .i64 r.c1) ∧ w.cell? ⟨b, off + 6, none⟩ = some (.int .i64 r.r1) ∧ w.cell? ⟨b, off + 7, none⟩ = some (.int .i64 r.c2) ∧ w.cell? ⟨b, off + 8, none⟩ = some (.int .i64 r.r2) ∧ w.cell? ⟨b, off + 9, none⟩ = some (.int .i64 r.gr) ∧ w.cell? ⟨b, off + 10, none⟩ = some (.int .u64 (r.tos.toNat : Int))
theorem RowOf.atLV {w : World} {b off : Nat} {L : List LV} (h : RowOf cellsLV 11 w b off L) (k : Nat) (hk : k < L.length) : AtLV w b (off + k * 11) L[k] :=
  ⟨h.2 k hk 0 _ rfl, h.2 k hk 1 _ rfl, h.2 k hk 2 _ rfl, h.2 k hk 3 _ rfl, h.2 k hk 4 _ rfl, h.2 k hk 5 _ rfl, h.2 k hk 6 _ rfl, h.2 k hk 7 _ rfl, h.2 k hk 8 _ rfl, h.2 k hk 9 _ rfl, h.2 k hk 10 _ rfl⟩
abbrev IsLV (w : World) (a : Option Addr) (n : Nat) (L : List LV) : Prop := IsOf cellsLV 11 w a n L
abbrev OwnLV (B : Nat) (w : World) (v : Value) (L : List LV) : Prop := OwnOf 88 cellsLV 11 B w v L
theorem infoLV : (Try.prog.info? 88).map (fun i => (i.zero, i.size, i.bytes)) = some (some (.agg #[.int .i64 0, .int .i64 0, .int .i64 0, .int .i64 0, .int .u8 0, .int .i64 0, .int .i64 0, .int .i64 0, .int .i64 0, .int .i64 0, .int .u64 0]), 11, 88) := by kernel_rfl
theorem zeroLV : (Value.agg #[.int .i64 0, .int .i64 0, .int .i64 0, .int .i64 0, .int .u8 0, .int .i64 0, .int .i64 0, .int .i64 0, .int .i64 0, .int .i64 0, .int .u64 0]).cells.size = 11 := rfl
/-- One in a block of its own. -/
def BoxLV (w : World) (p : Nat) (r : LV) : Prop := p < w.heap.size ∧ AtLV w p 0 r
theorem BoxLV.later {w w' : World} {p : Nat} {r : LV} (h : BoxLV w p r) (hB : Below w.heap.size w w') : BoxLV w' p r := by
  obtain ⟨h0, h1, h2, h3, h4, h5, h6, h7, h8, h9, h10, h11⟩ := h
  have hc := (bcell hB).1
  exact ⟨Nat.lt_of_lt_of_le h0 hB.size, by rw [hc _ _ h0]; exact h1, by rw [hc _ _ h0]; exact h2, by rw [hc _ _ h0]; exact h3, by rw [hc _ _ h0]; exact h4, by rw [hc _ _ h0]; exact h5, by rw [hc _ _ h0]; exact h6, by rw [hc _ _ h0]; exact h7, by rw [hc _ _ h0]; exact h8, by rw [hc _ _ h0]; exact h9, by rw [hc _ _ h0]; exact h10, by rw [hc _ _ h0]; exact h11⟩
theorem BoxLV.start (w : World) (r : LV) (t : TypeId) : BoxLV (w.alloc (.cells (cellsLV r).toArray t)) w.heap.size r := by
  refine ⟨by simp, ?_, ?_, ?_, ?_, ?_, ?_, ?_, ?_, ?_, ?_, ?_⟩ <;> simp [cellsLV]
theorem copyLV_any (a : Option Addr) (len cap : Nat) (L : List LV) (hl : len * 88 ≤ 140737488355328) (w : World) (hL : IsLV w a len L) :
    Calls Try.prog 37 #[.slice a len cap] w fun e w' => (∃ v, e = .returned v ∧ OwnLV w.heap.size w' v L) ∧ Below w.heap.size w w' := by
  go_enter Try.func37, Try.ntmps37
  go_wp2_with (at_builtin; refine wpList_appOf rfl (.const (.slice none 0 0)) (.tmp 3) 72 rfl Try.underlying72 _ 88 infoLV zeroLV (by decide) (by decide) cellsLV_len cellsLV_one w.heap.size _ [] rfl (OwnOf.nil _ _ _ _ _) a len cap L rfl hL (by simp only [List.length_nil, Nat.zero_add]; omega) (Nat.le_refl _) ?_)
  intro v' w1 ho hb
  have HO := Lib.hid ho
  have HB := Lib.hid hb
  clear ho hb
  go_wp2_with fail
  go_ret
  exact ⟨⟨_, rfl, by simpa using HO.out⟩, HB.out⟩
set_option maxHeartbeats 1600000 in
theorem eqLV_any (a a' : Option Addr) (n cap cap' : Nat) (l : List LV) (hl : n ≤ 1000000) (w : World) (h1 : IsLV w a n l) (h2 : IsLV w a' n l) :
    Calls Try.prog 41 #[.slice a n cap, .slice a' n cap'] w fun e w' => e = .returned (.bool true) ∧ Below w.heap.size w w' := by
  have H1 := Lib.hid h1
  have H2 := Lib.hid h2
  clear h1 h2
  go_enter Try.func41, Try.ntmps41
  go_wp2_with fail
  go_loopw [5] (fun i wr => ∃ k : Nat, k ≤ n ∧ i = .int .i64 k ∧ Below w.heap.size w wr) (fun i _ => n - (intOf i).toNat)
  case atStart => exact ⟨0, Nat.zero_le _, rfl, Below.refl _ _⟩
  case round =>
    obtain ⟨k, hk, rfl, hB⟩ := hrel
    have HB := Lib.hid hB
    clear hB
    by_cases hlt : k < n
    · obtain ⟨b, off, rfl, hr⟩ := H1.out.2 (by omega)
      obtain ⟨b', off', rfl, hr'⟩ := H2.out.2 (by omega)
      have hkl : k < l.length := by rw [H1.out.1]; exact hlt
      obtain ⟨c1, c2, c3, c4, c5, c6, c7, c8, c9, c10, c11⟩ := RowOf.atLV (hr.later HB.out) k hkl
      obtain ⟨d1, d2, d3, d4, d5, d6, d7, d8, d9, d10, d11⟩ := RowOf.atLV (hr'.later HB.out) k hkl
      clear hr hr'
      generalize l[k] = r at *
      obtain ⟨x1, x2, x3, x4, x5, x6, x7, x8, x9, x10, x11⟩ := r
      dsimp only at *
      go_wp2_with fail
      go_quiet (fail)
      go_wp2_with fail
      go_roundw
      case rel => exact ⟨k + 1, by omega, by go_num, ⟨HB.out.os, HB.out.tape, HB.out.output, HB.out.size, HB.out.block⟩⟩
      case measure => simp [intOf]; omega
    · go_wp2_with fail
      go_ret
      exact ⟨rfl, HB.out⟩
end Go.Proofs.Ytndijajaddkbhaa.Re
