/- The entry for an operation: the program's side. -/
import Derived.Test.YtndijajaddkbhaaOpC
import Derived.Test.YtndijajaddkbhaaEvA
import Derived.Test.YtndijajaddkbhaaEvB
import Derived.Test.YtndijajaddkbhaaGraB
import Derived.Test.YtndijajaddkbhaaMov
namespace Go.Proofs.Ytndijajaddkbhaa.Re
open Go.RowKit AM
theorem win64 (x : W64) : winB x 64 = true := by
  unfold winB
  rw [decide_eq_true_eq]
  apply BitVec.eq_of_getLsbD_eq
  intro i hi
  rw [BitVec.getLsbD_and, BitVec.getLsbD_not, allW_bit 64 (Nat.le_refl _) i hi]
  simp [hi]
theorem okG64 (g : GV) : okG 64 g = (ckB g.c1 g.r1 g.c2 g.r2 && (fnsB g.fns && decide (0 ≤ g.by_ ∧ g.by_ < 64))) := by
  unfold okG; rw [win64]; simp
theorem retI2 {a b : Int} (h : a = b) : Ending.returned (.int .i64 a) = .returned (.int .i64 b) := by rw [h]
theorem gck_e_at {L : List GV} (hl : L.length ≤ 64) (k : Nat) (hk : k < L.length) (hall : ∀ j (hj : j < L.length), j < k → okG 64 L[j] = true) (e : okG 64 L[k] = false) : (gck 64 L).2 = badG L[k] := by
  have := gck_at (n := 64) (L := L) (len := L.length) (by omega) hl rfl k hk hall e
  rw [show ((64 : Nat) : Int) = 64 from rfl] at this
  rw [this]
theorem gck_e_ok {L : List GV} (hl : L.length ≤ 64) (hall : ∀ j (hj : j < L.length), okG 64 L[j] = true) : (gck 64 L).2 = 0 := by
  have := gck_ok (n := 64) (L := L) (len := L.length) (by omega) hl rfl hall
  rw [show ((64 : Nat) : Int) = 64 from rfl] at this
  rw [this]
set_option maxRecDepth 100000 in
set_option maxHeartbeats 6400000 in
theorem ckgrants_any (a : Option Addr) (len cap : Nat) (L : List GV) (w : World) (hL : IsG w a len L) :
    Calls Try.prog 104 #[.slice a len cap] w fun e w' => e = .returned (.int .i64 (gck 64 L).2) ∧ Below w.heap.size w w' := by
  have HL := Lib.hid hL
  have HLL := Lib.hid hL.1
  clear hL
  by_cases hl : 64 < len
  · have HZ : Hid ((gck 64 L).2 = 5) := by unfold Hid; rw [gck_long (by decide) (by rw [HLL.out]; exact hl)]
    go_enter Try.func104, Try.ntmps104
    go_wp2_with fail
    go_ret
    exact ⟨retI2 HZ.out.symm, Below.refl _ _⟩
  have hl64 : L.length ≤ 64 := by rw [HLL.out]; omega
  go_enter Try.func104, Try.ntmps104
  go_wp2_with fail
  go_loopw [11] (fun i wr => ∃ k : Nat, k ≤ len ∧ i = .int .i64 k ∧ Hid (∀ j (hj : j < L.length), j < k → okG 64 L[j] = true) ∧ Below w.heap.size w wr) (fun i _ => len - (intOf i).toNat)
  case atStart => exact ⟨0, Nat.zero_le _, rfl, fun j hj h => absurd h (by omega), Below.refl _ _⟩
  case round =>
    obtain ⟨k, hk, rfl, HA, hB⟩ := hrel
    have HB := Lib.hid hB
    have hz := hB.size
    clear hB
    by_cases hlt : k < len
    · have hkL : k < L.length := by rw [HLL.out]; exact hlt
      obtain ⟨b, off, rfl, hr⟩ := (HL.out.later HB.out).2 (by omega)
      have hbl := hr.1
      have s := RowOf.eight hr k hkL
      have HBad : Hid (okG 64 L[k] = false → (gck 64 L).2 = badG L[k]) := fun e => gck_e_at hl64 k hkL HA.out e
      have HOK : Hid (okG 64 L[k] = true → ∀ j (hj : j < L.length), j < k + 1 → okG 64 L[j] = true) := fun e j hj hjk => by
        by_cases hh : j < k
        · exact HA.out j hj hh
        · obtain rfl : j = k := by omega
          exact e
      rw [okG64] at HBad HOK
      clear HA hr
      generalize L[k] = r at *
      obtain ⟨g1, g2, g3, g4, g5, g6, g7, g8⟩ := r
      obtain ⟨c1, c2, c3, c4, c5, c6, c7, c8⟩ := s
      dsimp only at *
      have hX := Box8.start wr ⟨g1, g2, g3, g4, g5, g6, g7, g8⟩ 68
      have HX0 := Lib.hid hX
      go_wp2_with fail
      clear hX
      refine (rcheck_any g1 g2 g3 g4 _).mono ?_
      rintro e w1 ⟨rfl, hB1⟩
      have HX := Lib.hid (HX0.out.later hB1)
      have HB1 := Lib.hid (Below.next (HB.out.alloc hz _) hB1)
      clear hB1 c1 c2 c3 c4 c5 c6 c7 c8
      cases hck : ckB g1 g2 g3 g4
      · rw [ckE_f hck]
        have HZ := Lib.hid (HBad.out (by rw [hck]; rfl))
        have HE : Hid (badG ⟨g1, g2, g3, g4, g5, g6, g7, g8⟩ = 3) := by unfold Hid badG; rw [hck]; rfl
        clear hck
        go_wp2_with fail
        go_ret
        exact ⟨retI2 (by rw [HZ.out, HE.out]), HB1.out⟩
      · rw [ckE_t hck]
        rw [hck, Bool.true_and] at HBad HOK
        obtain ⟨_, d1, d2, d3, d4, d5, d6, d7, d8⟩ := HX.out
        dsimp only at d5 d6 d7
        clear d1 d2 d3 d4 d8
        have HE : Hid (badG ⟨g1, g2, g3, g4, g5, g6, g7, g8⟩ = 2) := by unfold Hid badG; rw [hck]; rfl
        clear hck
        have HFN : Hid (fnsB g5 = decide (0 < g5.toNat ∧ g5.toNat ≤ 31)) := rfl
        have h8 : g5.toNat < 256 := g5.isLt
        have hcase : (g5.toNat = 0) ∨ (¬ g5.toNat = 0 ∧ 31 < g5.toNat) ∨ (¬ g5.toNat = 0 ∧ g5.toNat ≤ 31 ∧ g7 < 0) ∨ (¬ g5.toNat = 0 ∧ g5.toNat ≤ 31 ∧ 0 ≤ g7 ∧ 64 ≤ g7) ∨ (¬ g5.toNat = 0 ∧ g5.toNat ≤ 31 ∧ 0 ≤ g7 ∧ g7 < 64) := by omega
        rw [HFN.out] at HBad HOK
        generalize g5.toNat = f at *
        rcases hcase with h | ⟨h1, h2⟩ | ⟨h1, h2, h3⟩ | ⟨h1, h2, h3, h4⟩ | ⟨h1, h2, h3, h4⟩
        · have HZ := Lib.hid (HBad.out (by rw [decide_eq_false (by omega)]; rfl))
          subst h
          go_wp2_with fail
          go_ret
          exact ⟨retI2 (by rw [HZ.out, HE.out]), HB1.out⟩
        · have HZ := Lib.hid (HBad.out (by rw [decide_eq_false (by omega)]; rfl))
          have hb : ((f : Int) == 0) = false := by simp; omega
          go_wp2_with fail
          go_ret
          exact ⟨retI2 (by rw [HZ.out, HE.out]), HB1.out⟩
        · have HZ := Lib.hid (HBad.out (by rw [decide_eq_false (p := 0 ≤ g7 ∧ g7 < 64) (by omega)]; simp))
          have hb : ((f : Int) == 0) = false := by simp; omega
          have hb2 : ¬ (31 < (f : Int)) := by omega
          go_wp2_with fail
          go_ret
          exact ⟨retI2 (by rw [HZ.out, HE.out]), HB1.out⟩
        · have HZ := Lib.hid (HBad.out (by rw [decide_eq_false (p := 0 ≤ g7 ∧ g7 < 64) (by omega)]; simp))
          have hb : ((f : Int) == 0) = false := by simp; omega
          have hb2 : ¬ (31 < (f : Int)) := by omega
          go_wp2_with fail
          go_ret
          exact ⟨retI2 (by rw [HZ.out, HE.out]), HB1.out⟩
        · have HZ := Lib.hid (HOK.out (by rw [decide_eq_true (by omega), decide_eq_true (by omega)]; rfl))
          have hb : ((f : Int) == 0) = false := by simp; omega
          have hb2 : ¬ (31 < (f : Int)) := by omega
          go_wp2_with fail
          go_roundw
          case rel => exact ⟨k + 1, by omega, by go_num, HZ.out, HB1.out⟩
          case measure => simp [intOf]; omega
    · obtain rfl : k = len := by omega
      have HZ := Lib.hid (gck_e_ok hl64 (fun j hj => HA.out j hj (by have := HLL.out; omega)))
      go_wp2_with fail
      go_ret
      exact ⟨retI2 HZ.out.symm, HB.out⟩
def rectV (t : R4) : Value := .agg #[.int .i64 t.c1, .int .i64 t.r1, .int .i64 t.c2, .int .i64 t.r2]
end Go.Proofs.Ytndijajaddkbhaa.Re
namespace Go.Proofs.Ytndijajaddkbhaa.Ot
open Go Go.RowKit Sx
set_option linter.unusedVariables false
theorem tgt3 (us c1 r1 c2 r2 : Int) (inp : ByteArray) (rd wr ow fns tos idx : Int) (w : World) : Calls Try.prog 128 #[.agg #[.int .u8 3, .int .i64 us, .int .i64 c1, .int .i64 r1, .int .i64 c2, .int .i64 r2, .string inp, .int .u64 rd, .int .u64 wr, .int .u64 ow, .int .u8 fns, .int .u64 tos, .int .i64 idx]] w fun e w' => e = .returned (.tuple #[.agg #[.int .i64 c1, .int .i64 r1, .int .i64 c2, .int .i64 r2], .bool true]) ∧ Below w.heap.size w w' :=
  op_call (facts := []) (tab := []) (σ := symOf [.int .i64 us, .int .i64 c1, .int .i64 r1, .int .i64 c2, .int .i64 r2, .string inp, .int .u64 rd, .int .u64 wr, .int .u64 ow, .int .u8 fns, .int .u64 tos, .int .i64 idx]) (symOf_one rfl) trivial (foks_nil) (toks_nil) (args := [.agg #[.int .u8 3, (symV 0), (symV 1), (symV 2), (symV 3), (symV 4), (symV 5), (symV 6), (symV 7), (symV 8), (symV 9), (symV 10), (symV 11)]]) (v := .tuple #[.agg #[(symV 1), (symV 2), (symV 3), (symV 4)], .bool true]) (by kernel_rfl) rfl rfl
theorem tgt4 (us c1 r1 c2 r2 : Int) (inp : ByteArray) (rd wr ow fns tos idx : Int) (w : World) : Calls Try.prog 128 #[.agg #[.int .u8 4, .int .i64 us, .int .i64 c1, .int .i64 r1, .int .i64 c2, .int .i64 r2, .string inp, .int .u64 rd, .int .u64 wr, .int .u64 ow, .int .u8 fns, .int .u64 tos, .int .i64 idx]] w fun e w' => e = .returned (.tuple #[.agg #[.int .i64 c1, .int .i64 r1, .int .i64 c2, .int .i64 r2], .bool true]) ∧ Below w.heap.size w w' :=
  op_call (facts := []) (tab := []) (σ := symOf [.int .i64 us, .int .i64 c1, .int .i64 r1, .int .i64 c2, .int .i64 r2, .string inp, .int .u64 rd, .int .u64 wr, .int .u64 ow, .int .u8 fns, .int .u64 tos, .int .i64 idx]) (symOf_one rfl) trivial (foks_nil) (toks_nil) (args := [.agg #[.int .u8 4, (symV 0), (symV 1), (symV 2), (symV 3), (symV 4), (symV 5), (symV 6), (symV 7), (symV 8), (symV 9), (symV 10), (symV 11)]]) (v := .tuple #[.agg #[(symV 1), (symV 2), (symV 3), (symV 4)], .bool true]) (by kernel_rfl) rfl rfl
theorem tgt7 (us c1 r1 c2 r2 : Int) (inp : ByteArray) (rd wr ow fns tos idx : Int) (w : World) : Calls Try.prog 128 #[.agg #[.int .u8 7, .int .i64 us, .int .i64 c1, .int .i64 r1, .int .i64 c2, .int .i64 r2, .string inp, .int .u64 rd, .int .u64 wr, .int .u64 ow, .int .u8 fns, .int .u64 tos, .int .i64 idx]] w fun e w' => e = .returned (.tuple #[.agg #[.int .i64 c1, .int .i64 r1, .int .i64 c2, .int .i64 r2], .bool true]) ∧ Below w.heap.size w w' :=
  op_call (facts := []) (tab := []) (σ := symOf [.int .i64 us, .int .i64 c1, .int .i64 r1, .int .i64 c2, .int .i64 r2, .string inp, .int .u64 rd, .int .u64 wr, .int .u64 ow, .int .u8 fns, .int .u64 tos, .int .i64 idx]) (symOf_one rfl) trivial (foks_nil) (toks_nil) (args := [.agg #[.int .u8 7, (symV 0), (symV 1), (symV 2), (symV 3), (symV 4), (symV 5), (symV 6), (symV 7), (symV 8), (symV 9), (symV 10), (symV 11)]]) (v := .tuple #[.agg #[(symV 1), (symV 2), (symV 3), (symV 4)], .bool true]) (by kernel_rfl) rfl rfl
theorem tgt8 (us c1 r1 c2 r2 : Int) (inp : ByteArray) (rd wr ow fns tos idx : Int) (w : World) : Calls Try.prog 128 #[.agg #[.int .u8 8, .int .i64 us, .int .i64 c1, .int .i64 r1, .int .i64 c2, .int .i64 r2, .string inp, .int .u64 rd, .int .u64 wr, .int .u64 ow, .int .u8 fns, .int .u64 tos, .int .i64 idx]] w fun e w' => e = .returned (.tuple #[.agg #[.int .i64 c1, .int .i64 r1, .int .i64 c2, .int .i64 r2], .bool true]) ∧ Below w.heap.size w w' :=
  op_call (facts := []) (tab := []) (σ := symOf [.int .i64 us, .int .i64 c1, .int .i64 r1, .int .i64 c2, .int .i64 r2, .string inp, .int .u64 rd, .int .u64 wr, .int .u64 ow, .int .u8 fns, .int .u64 tos, .int .i64 idx]) (symOf_one rfl) trivial (foks_nil) (toks_nil) (args := [.agg #[.int .u8 8, (symV 0), (symV 1), (symV 2), (symV 3), (symV 4), (symV 5), (symV 6), (symV 7), (symV 8), (symV 9), (symV 10), (symV 11)]]) (v := .tuple #[.agg #[(symV 1), (symV 2), (symV 3), (symV 4)], .bool true]) (by kernel_rfl) rfl rfl
theorem tgt9 (us c1 r1 c2 r2 : Int) (inp : ByteArray) (rd wr ow fns tos idx : Int) (w : World) : Calls Try.prog 128 #[.agg #[.int .u8 9, .int .i64 us, .int .i64 c1, .int .i64 r1, .int .i64 c2, .int .i64 r2, .string inp, .int .u64 rd, .int .u64 wr, .int .u64 ow, .int .u8 fns, .int .u64 tos, .int .i64 idx]] w fun e w' => e = .returned (.tuple #[.agg #[.int .i64 0, .int .i64 0, .int .i64 0, .int .i64 0], .bool false]) ∧ Below w.heap.size w w' :=
  op_call (facts := []) (tab := []) (σ := symOf [.int .i64 us, .int .i64 c1, .int .i64 r1, .int .i64 c2, .int .i64 r2, .string inp, .int .u64 rd, .int .u64 wr, .int .u64 ow, .int .u8 fns, .int .u64 tos, .int .i64 idx]) (symOf_one rfl) trivial (foks_nil) (toks_nil) (args := [.agg #[.int .u8 9, (symV 0), (symV 1), (symV 2), (symV 3), (symV 4), (symV 5), (symV 6), (symV 7), (symV 8), (symV 9), (symV 10), (symV 11)]]) (v := .tuple #[.agg #[.int .i64 0, .int .i64 0, .int .i64 0, .int .i64 0], .bool false]) (by kernel_rfl) rfl rfl
end Go.Proofs.Ytndijajaddkbhaa.Ot
namespace Go.Proofs.Ytndijajaddkbhaa.Re
open Go.RowKit AM
/-- The target that an operation that mutates has by itself; none of OpRevoke. -/
def ownT (g : OP) : Option R4 := if g.kd.toNat = 9 then none else some ⟨g.c1, g.r1, g.c2, g.r2⟩
theorem otgt_any (g : OP) (hm : mutB g.kd.toNat = true) (w : World) :
    Calls Try.prog 128 #[.agg (cellsOP g).toArray] w fun e w' => e = .returned (.tuple #[rectV ((ownT g).getD ⟨0, 0, 0, 0⟩), .bool (ownT g).isSome]) ∧ Below w.heap.size w w' := by
  have key : ∀ f : Nat, mutB f = true → ∀ us c1 r1 c2 r2 : Int, ∀ inp rd wr ow fns tos idx, Calls Try.prog 128 #[.agg #[.int .u8 (f : Int), .int .i64 us, .int .i64 c1, .int .i64 r1, .int .i64 c2, .int .i64 r2, .string inp, .int .u64 rd, .int .u64 wr, .int .u64 ow, .int .u8 fns, .int .u64 tos, .int .i64 idx]] w fun e w' => e = .returned (.tuple #[rectV ((if f = 9 then (none : Option R4) else some ⟨c1, r1, c2, r2⟩).getD ⟨0, 0, 0, 0⟩), .bool (if f = 9 then (none : Option R4) else some ⟨c1, r1, c2, r2⟩).isSome]) ∧ Below w.heap.size w w' := by
    intro f hm us c1 r1 c2 r2 inp rd wr ow fns tos idx
    unfold mutB at hm
    rcases of_decide_eq_true hm with rfl | rfl | rfl | rfl | rfl
    · exact Ot.tgt3 us c1 r1 c2 r2 inp rd wr ow fns tos idx w
    · exact Ot.tgt4 us c1 r1 c2 r2 inp rd wr ow fns tos idx w
    · exact Ot.tgt7 us c1 r1 c2 r2 inp rd wr ow fns tos idx w
    · exact Ot.tgt8 us c1 r1 c2 r2 inp rd wr ow fns tos idx w
    · exact Ot.tgt9 us c1 r1 c2 r2 inp rd wr ow fns tos idx w
  exact key g.kd.toNat hm g.us g.c1 g.r1 g.c2 g.r2 g.inp g.rd.toNat g.wr.toNat g.ow.toNat g.fns.toNat g.tos.toNat g.idx
/-- The target, with the grants. -/
def tarO (g : OP) (G : List GV) : Option R4 := match ownT g with
  | some r => some r
  | none => if g.idx < 0 then none else (G[g.idx.toNat]?).map gr4'
where gr4' (x : GV) : R4 := ⟨x.c1, x.r1, x.c2, x.r2⟩
theorem tarO_own {g : OP} {G : List GV} {r : R4} (h : ownT g = some r) : tarO g G = some r := by unfold tarO; rw [h]
theorem tarO_neg {g : OP} {G : List GV} (h : ownT g = none) (hi : g.idx < 0) : tarO g G = none := by unfold tarO; rw [h]; simp [hi]
theorem tarO_out {g : OP} {G : List GV} (h : ownT g = none) (hi : ¬ g.idx < 0) (ho : (G.length : Int) ≤ g.idx) : tarO g G = none := by
  unfold tarO; rw [h]; simp only [if_neg hi]
  rw [List.getElem?_eq_none (by omega)]; rfl
theorem tarO_in {g : OP} {G : List GV} (h : ownT g = none) (hi : ¬ g.idx < 0) (k : Nat) (hk : g.idx = (k : Int)) (hl : k < G.length) : tarO g G = some ⟨G[k].c1, G[k].r1, G[k].c2, G[k].r2⟩ := by
  unfold tarO; rw [h]; simp only [if_neg hi]
  rw [hk, Int.toNat_natCast, List.getElem?_eq_getElem hl]; rfl
def rectO (t : Option R4) : R4 := t.getD ⟨0, 0, 0, 0⟩
set_option maxRecDepth 100000 in
set_option maxHeartbeats 6400000 in
theorem target_any (g : OP) (hm : mutB g.kd.toNat = true) (a : Option Addr) (len cap : Nat) (G : List GV) (hl : len ≤ 100000) (w : World) (hG : IsG w a len G) :
    Calls Try.prog 105 #[.agg (cellsOP g).toArray, .slice a len cap] w fun e w' => e = .returned (.tuple #[rectV (rectO (tarO g G)), .bool (tarO g G).isSome]) ∧ Below w.heap.size w w' := by
  have HG := Lib.hid hG
  have HGL := Lib.hid hG.1
  clear hG
  have HOT := Lib.hid (otgt_any g hm)
  have HOW : Hid (∀ r, ownT g = some r → tarO g G = some r) := fun r h => tarO_own h
  have HNEG : Hid (ownT g = none → g.idx < 0 → tarO g G = none) := fun h => tarO_neg h
  have HOUT : Hid (ownT g = none → ¬ g.idx < 0 → (G.length : Int) ≤ g.idx → tarO g G = none) := fun h => tarO_out h
  have HIN : Hid (ownT g = none → ¬ g.idx < 0 → ∀ (k : Nat), g.idx = (k : Int) → ∀ hl : k < G.length, tarO g G = some ⟨G[k].c1, G[k].r1, G[k].c2, G[k].r2⟩) := fun h hi k => tarO_in h hi k
  have HX0 := Lib.hid ((BoxOP.start w g 91).later (below_alloc _ (.cells #[.int .i64 0, .int .i64 0, .int .i64 0, .int .i64 0] 30)))
  have HF0 := Lib.hid (Four.start (w.alloc (.cells (cellsOP g).toArray 91)) 0 0 0 0 30)
  have hQ0 : ((w.alloc (.cells (cellsOP g).toArray 91)).alloc (.cells #[.int .i64 0, .int .i64 0, .int .i64 0, .int .i64 0] 30)).heap[w.heap.size + 1]? = some (.cells #[.int .i64 0, .int .i64 0, .int .i64 0, .int .i64 0] 30) := by
    have := heap_alloc_new (w.alloc (.cells (cellsOP g).toArray 91)) (.cells #[.int .i64 0, .int .i64 0, .int .i64 0, .int .i64 0] 30)
    rwa [World.size_alloc] at this
  have HQ0 := Lib.hid hQ0
  have HB0 := Lib.hid (Below.next (below_alloc w (.cells (cellsOP g).toArray 91)) (below_alloc _ (.cells #[.int .i64 0, .int .i64 0, .int .i64 0, .int .i64 0] 30)))
  clear hQ0
  generalize tarO g G = T at *
  generalize ownT g = ot at *
  obtain ⟨x1, x2, x3, x4, x5, x6, x7, x8, x9, x10, x11, x12, x13⟩ := g
  unfold cellsOP at *
  dsimp only at *
  obtain ⟨_, d1, d2, d3, d4, d5, d6, d7, d8, d9, d10, d11, d12, d13⟩ := HX0.out
  dsimp only at d1 d2 d3 d4 d5 d6 d7 d8 d9 d10 d11 d12 d13
  go_enter Try.func105, Try.ntmps105
  go_wp2_with fail
  clear d1 d2 d3 d4 d5 d6 d7 d8 d9 d10 d11 d12 d13 HF0
  generalize (w.alloc (.cells #[.int .u8 (x1.toNat : Int), .int .i64 x2, .int .i64 x3, .int .i64 x4, .int .i64 x5, .int .i64 x6, .string x7, .int .u64 (x8.toNat : Int), .int .u64 (x9.toNat : Int), .int .u64 (x10.toNat : Int), .int .u8 (x11.toNat : Int), .int .u64 (x12.toNat : Int), .int .i64 x13] 91)).alloc (.cells #[.int .i64 0, .int .i64 0, .int .i64 0, .int .i64 0] 30) = w0 at *
  refine (HOT.out _).mono ?_
  rintro e w1 ⟨rfl, hB1⟩
  have HX1 := Lib.hid (HX0.out.later hB1)
  have HQ1 : Hid (w1.heap[w.heap.size + 1]? = some (.cells #[.int .i64 0, .int .i64 0, .int .i64 0, .int .i64 0] 30)) := (hB1.block _ (Array.getElem?_eq_some_iff.1 HQ0.out).1).trans HQ0.out
  have HB1 := Lib.hid (Below.next HB0.out hB1)
  clear hB1 HX0 HQ0 HB0 HOT
  unfold rectV
  cases ot with
  | some r =>
    obtain rfl := HOW.out r rfl
    obtain ⟨t1, t2, t3, t4⟩ := r
    dsimp only [Option.getD, Option.isSome]
    have hQ2 := HQ1.out
    have hl1 : w.heap.size + 1 < w1.heap.size := (Array.getElem?_eq_some_iff.1 hQ2).1
    have q0 : w1.cell? ⟨w.heap.size + 1, 0, none⟩ = some (.int .i64 0) := by simp [World.cell?, hQ2]
    have q1 : w1.cell? ⟨w.heap.size + 1, 1, none⟩ = some (.int .i64 0) := by simp [World.cell?, hQ2]
    have q2 : w1.cell? ⟨w.heap.size + 1, 2, none⟩ = some (.int .i64 0) := by simp [World.cell?, hQ2]
    have q3 : w1.cell? ⟨w.heap.size + 1, 3, none⟩ = some (.int .i64 0) := by simp [World.cell?, hQ2]
    have z0 : w1.frozen? ⟨w.heap.size + 1, 0, none⟩ = false := by simp [World.frozen?, hQ2]
    have z1 : w1.frozen? ⟨w.heap.size + 1, 1, none⟩ = false := by simp [World.frozen?, hQ2]
    have z2 : w1.frozen? ⟨w.heap.size + 1, 2, none⟩ = false := by simp [World.frozen?, hQ2]
    have z3 : w1.frozen? ⟨w.heap.size + 1, 3, none⟩ = false := by simp [World.frozen?, hQ2]
    clear hQ2
    go_wp2_with fail
    have hS := (set4 w1 (w.heap.size + 1) 30 _ _ _ _ (.int .i64 t1) (.int .i64 t2) (.int .i64 t3) (.int .i64 t4) HQ1.out).2
    have hBf := (((HB1.out.setCell (p := ⟨w.heap.size + 1, 0, none⟩) (by show w.heap.size ≤ w.heap.size + 1; omega) (.int .i64 t1)).setCell (p := ⟨w.heap.size + 1, 1, none⟩) (by show w.heap.size ≤ w.heap.size + 1; omega) (.int .i64 t2)).setCell (p := ⟨w.heap.size + 1, 2, none⟩) (by show w.heap.size ≤ w.heap.size + 1; omega) (.int .i64 t3)).setCell (p := ⟨w.heap.size + 1, 3, none⟩) (by show w.heap.size ≤ w.heap.size + 1; omega) (.int .i64 t4)
    generalize hWf : (((w1.setCell ⟨w.heap.size + 1, 0, none⟩ (.int .i64 t1)).setCell ⟨w.heap.size + 1, 1, none⟩ (.int .i64 t2)).setCell ⟨w.heap.size + 1, 2, none⟩ (.int .i64 t3)).setCell ⟨w.heap.size + 1, 3, none⟩ (.int .i64 t4) = Wf at *
    have hlf : w.heap.size + 1 < Wf.heap.size := (Array.getElem?_eq_some_iff.1 hS).1
    have hSa : ∀ o, (Wf.alloc o).heap[w.heap.size + 1]? = _ := fun o => (Below.heap_alloc Wf o _ hlf).trans hS
    exact bodyPost_ret (v := .tuple #[.agg #[.int .i64 t1, .int .i64 t2, .int .i64 t3, .int .i64 t4], .bool true]) (by simp [results, Try.results105, go_sem, World.cell?, hSa]) rfl ⟨rfl, hBf.alloc hBf.size _⟩
  | none =>
    dsimp only [Option.getD, Option.isSome]
    have hQ2 := HQ1.out
    have hl1 : w.heap.size + 1 < w1.heap.size := (Array.getElem?_eq_some_iff.1 hQ2).1
    have q0 : w1.cell? ⟨w.heap.size + 1, 0, none⟩ = some (.int .i64 0) := by simp [World.cell?, hQ2]
    have q1 : w1.cell? ⟨w.heap.size + 1, 1, none⟩ = some (.int .i64 0) := by simp [World.cell?, hQ2]
    have q2 : w1.cell? ⟨w.heap.size + 1, 2, none⟩ = some (.int .i64 0) := by simp [World.cell?, hQ2]
    have q3 : w1.cell? ⟨w.heap.size + 1, 3, none⟩ = some (.int .i64 0) := by simp [World.cell?, hQ2]
    have z0 : w1.frozen? ⟨w.heap.size + 1, 0, none⟩ = false := by simp [World.frozen?, hQ2]
    have z1 : w1.frozen? ⟨w.heap.size + 1, 1, none⟩ = false := by simp [World.frozen?, hQ2]
    have z2 : w1.frozen? ⟨w.heap.size + 1, 2, none⟩ = false := by simp [World.frozen?, hQ2]
    have z3 : w1.frozen? ⟨w.heap.size + 1, 3, none⟩ = false := by simp [World.frozen?, hQ2]
    have hba := below_alloc w1 (.cells #[.int .i64 0, .int .i64 0, .int .i64 0, .int .i64 0] 30)
    obtain ⟨_, d1, d2, d3, d4, d5, d6, d7, d8, d9, d10, d11, d12, d13⟩ := HX1.out.later hba
    dsimp only at d1 d2 d3 d4 d5 d6 d7 d8 d9 d10 d11 d12 d13
    by_cases hn : x13 < 0
    · obtain rfl := HNEG.out rfl hn
      clear hQ2
      go_wp2_with fail
      have hS := (set4 w1 (w.heap.size + 1) 30 _ _ _ _ (.int .i64 0) (.int .i64 0) (.int .i64 0) (.int .i64 0) HQ1.out).2
      have hBf := (((HB1.out.setCell (p := ⟨w.heap.size + 1, 0, none⟩) (by show w.heap.size ≤ w.heap.size + 1; omega) (.int .i64 0)).setCell (p := ⟨w.heap.size + 1, 1, none⟩) (by show w.heap.size ≤ w.heap.size + 1; omega) (.int .i64 0)).setCell (p := ⟨w.heap.size + 1, 2, none⟩) (by show w.heap.size ≤ w.heap.size + 1; omega) (.int .i64 0)).setCell (p := ⟨w.heap.size + 1, 3, none⟩) (by show w.heap.size ≤ w.heap.size + 1; omega) (.int .i64 0)
      generalize hWf : (((w1.setCell ⟨w.heap.size + 1, 0, none⟩ (.int .i64 0)).setCell ⟨w.heap.size + 1, 1, none⟩ (.int .i64 0)).setCell ⟨w.heap.size + 1, 2, none⟩ (.int .i64 0)).setCell ⟨w.heap.size + 1, 3, none⟩ (.int .i64 0) = Wf at *
      have hlf : w.heap.size + 1 < Wf.heap.size := (Array.getElem?_eq_some_iff.1 hS).1
      have hSa : ∀ o, (Wf.alloc o).heap[w.heap.size + 1]? = _ := fun o => (Below.heap_alloc Wf o _ hlf).trans hS
      exact bodyPost_ret (v := .tuple #[.agg #[.int .i64 0, .int .i64 0, .int .i64 0, .int .i64 0], .bool false]) (by simp [results, Try.results105, go_sem, World.cell?, hSa]) rfl ⟨rfl, hBf.alloc hBf.size _⟩
    by_cases hh : (len : Int) ≤ x13
    · obtain rfl := HOUT.out rfl (by omega) (by rw [HGL.out]; exact hh)
      clear hQ2
      go_wp2_with fail
      have hS := (set4 w1 (w.heap.size + 1) 30 _ _ _ _ (.int .i64 0) (.int .i64 0) (.int .i64 0) (.int .i64 0) HQ1.out).2
      have hBf := (((HB1.out.setCell (p := ⟨w.heap.size + 1, 0, none⟩) (by show w.heap.size ≤ w.heap.size + 1; omega) (.int .i64 0)).setCell (p := ⟨w.heap.size + 1, 1, none⟩) (by show w.heap.size ≤ w.heap.size + 1; omega) (.int .i64 0)).setCell (p := ⟨w.heap.size + 1, 2, none⟩) (by show w.heap.size ≤ w.heap.size + 1; omega) (.int .i64 0)).setCell (p := ⟨w.heap.size + 1, 3, none⟩) (by show w.heap.size ≤ w.heap.size + 1; omega) (.int .i64 0)
      generalize hWf : (((w1.setCell ⟨w.heap.size + 1, 0, none⟩ (.int .i64 0)).setCell ⟨w.heap.size + 1, 1, none⟩ (.int .i64 0)).setCell ⟨w.heap.size + 1, 2, none⟩ (.int .i64 0)).setCell ⟨w.heap.size + 1, 3, none⟩ (.int .i64 0) = Wf at *
      have hlf : w.heap.size + 1 < Wf.heap.size := (Array.getElem?_eq_some_iff.1 hS).1
      have hSa : ∀ o, (Wf.alloc o).heap[w.heap.size + 1]? = _ := fun o => (Below.heap_alloc Wf o _ hlf).trans hS
      exact bodyPost_ret (v := .tuple #[.agg #[.int .i64 0, .int .i64 0, .int .i64 0, .int .i64 0], .bool false]) (by simp [results, Try.results105, go_sem, World.cell?, hSa]) rfl ⟨rfl, hBf.alloc hBf.size _⟩
    obtain ⟨k, rfl⟩ : ∃ k : Nat, x13 = (k : Int) := ⟨x13.toNat, by omega⟩
    have hk : k < len := by omega
    have hkG : k < G.length := by rw [HGL.out]; exact hk
    have HTE := Lib.hid (HIN.out rfl (by omega) k rfl hkG)
    obtain ⟨b, off, rfl, hr⟩ := (HG.out.later (Below.next HB1.out hba)).2 (by omega)
    have hbl := hr.1
    have hblw : b < w.heap.size := by
      obtain ⟨b', off', e', hr'⟩ := HG.out.2 (by omega)
      injection e' with e'
      injection e' with e1 _ _
      subst e1
      exact hr'.1
    have s := RowOf.eight hr k hkG
    clear hr hQ2
    generalize G[k] = gg at *
    obtain ⟨g1, g2, g3, g4, g5, g6, g7, g8⟩ := gg
    obtain ⟨k1, k2, k3, k4, k5, k6, k7, k8⟩ := s
    dsimp only at *
    clear k5 k6 k7 k8
    go_wp2_with fail
    have hS := (set4 w1 (w.heap.size + 1) 30 _ _ _ _ (.int .i64 g1) (.int .i64 g2) (.int .i64 g3) (.int .i64 g4) HQ1.out).2
    have hBf := (((HB1.out.setCell (p := ⟨w.heap.size + 1, 0, none⟩) (by show w.heap.size ≤ w.heap.size + 1; omega) (.int .i64 g1)).setCell (p := ⟨w.heap.size + 1, 1, none⟩) (by show w.heap.size ≤ w.heap.size + 1; omega) (.int .i64 g2)).setCell (p := ⟨w.heap.size + 1, 2, none⟩) (by show w.heap.size ≤ w.heap.size + 1; omega) (.int .i64 g3)).setCell (p := ⟨w.heap.size + 1, 3, none⟩) (by show w.heap.size ≤ w.heap.size + 1; omega) (.int .i64 g4)
    generalize hWf : (((w1.setCell ⟨w.heap.size + 1, 0, none⟩ (.int .i64 g1)).setCell ⟨w.heap.size + 1, 1, none⟩ (.int .i64 g2)).setCell ⟨w.heap.size + 1, 2, none⟩ (.int .i64 g3)).setCell ⟨w.heap.size + 1, 3, none⟩ (.int .i64 g4) = Wf at *
    have hlf : w.heap.size + 1 < Wf.heap.size := (Array.getElem?_eq_some_iff.1 hS).1
    have hSa : ∀ o, (Wf.alloc o).heap[w.heap.size + 1]? = _ := fun o => (Below.heap_alloc Wf o _ hlf).trans hS
    exact bodyPost_ret (v := .tuple #[.agg #[.int .i64 g1, .int .i64 g2, .int .i64 g3, .int .i64 g4], .bool true]) (by simp [results, Try.results105, go_sem, World.cell?, hSa]) rfl ⟨by rw [HTE.out]; rfl, hBf.alloc hBf.size _⟩
end Go.Proofs.Ytndijajaddkbhaa.Re
