/- The walk of the law. -/
import Derived.Test.YtbkbikkieabcmaaDoorGfM
import Derived.Test.YtbkbikkieabcmaaDoorGfW
import Derived.DataShut
namespace Go.Proofs.YtbkbikkieabcmaaDoor.Gf
open Go Go.RowKit
set_option linter.unusedVariables false
set_option linter.unusedSimpArgs false
theorem u64_wf2 {n : Int} (h : (Lit.int .u64 n).wf = true) : ((BitVec.ofInt 64 n).toNat : Int) = n := by
  rw [Lit.wf_int_iff] at h
  simp [IntKind.min, IntKind.max, IntKind.signed, IntKind.bits] at h
  rw [BitVec.toNat_ofInt]
  omega
theorem usr_rd (x : W64) : ∀ k, Rd x (orL (memL (fun i => x.getLsbD i) k)) k
  | 0 => Rd.zero x
  | k + 1 => by
    have ih := usr_rd x k
    rw [memL_succ]
    cases hb : x.getLsbD k
    · exact ih.skip hb
    · rw [if_pos rfl, orL_snoc]
      have := ih.range (n := 1) (fun i h1 h2 => by obtain rfl : i = k := by omega
                                                   exact hb)
      exact this
theorem usr_or (x : W64) : orL (usr x) = x := (usr_rd x 64).done (Nat.le_refl _)
theorem usr_ok (x : W64) : okL ((usr x).map fun n : Nat => (n : Int)) = true := by
  unfold okL
  rw [List.all_eq_true]
  intro u hu
  obtain ⟨n, hn, rfl⟩ := List.mem_map.1 hu
  exact vld_nat (memL_lt _ 64 n hn)
theorem usr_of (x : W64) : ofS ((usr x).map fun n : Nat => (n : Int)) = (x.toNat : Int) ∧ ofE ((usr x).map fun n : Nat => (n : Int)) = 0 := by
  refine ⟨?_, ofE_t (usr_ok x)⟩
  rw [ofS_t (usr_ok x), List.map_map]
  have : (Int.toNat ∘ fun n : Nat => (n : Int)) = id := by funext n; simp
  rw [this, List.map_id, usr_or]
theorem isI_z {w : World} {a : Option Addr} {n : Nat} {L : List Nat} (h : IsI w a n L) : IsZ w a n (L.map fun n : Nat => (n : Int)) := by
  refine ⟨by rw [List.length_map]; exact h.1, fun h0 => ?_⟩
  obtain ⟨x, rfl, hx, hc⟩ := h.2 h0
  refine ⟨x, rfl, hx, fun i u hu => ?_⟩
  rw [List.getElem?_map] at hu
  obtain ⟨v, hv, rfl⟩ := Option.map_eq_some_iff.1 hu
  exact hc i v hv
theorem members_any (x : W64) (w : World) : Calls Tryd.prog 22 #[.int .u64 (x.toNat : Int)] w fun e W' => ∃ v, e = .returned v ∧ OwnI w.heap.size W' v (usr x) ∧ Below w.heap.size w W' :=
  callsIn_wide.1 (members_in x w)
theorem back_of (x : W64) (a : Option Addr) (cap : Nat) (w : World) (h : IsI w a (usr x).length (usr x)) : Calls Tryd.prog 21 #[.slice a (usr x).length cap] w fun e w' => e = .returned (.tuple #[.int .u64 (x.toNat : Int), .int .i64 0]) ∧ w = w' := by
  have hl := usr_len x
  have := ofz_any a (usr x).length cap _ w (by unfold maxLen; omega) (isI_z h)
  rw [(usr_of x).1, (usr_of x).2] at this
  exact this
theorem ne_nat {a b : W64} (h : a ≠ b) : ((a.toNat : Int) == (b.toNat : Int)) = false := by
  rw [beq_eq_false_iff_ne]; intro e; exact h (BitVec.eq_of_toNat_eq (by omega))
theorem ne_fmt {a b : W64} (h : a ≠ b) : (fmtS a == fmtS b) = false := by
  rw [beq_eq_false_iff_ne]; intro e; exact h (fmtS_inj e)
set_option maxRecDepth 100000 in
set_option maxHeartbeats 6400000 in
theorem groupback_law (a0 a1 : Int) (a2 : ByteArray) (w : World) (h0 : (Lit.int .u64 a0).wf = true) (h1 : (Lit.int .u64 a1).wf = true) (hs : a2.size ≤ 1048576) (hG : Gl w) :
    Calls Tryd.prog 6 #[.int .u64 a0, .int .u64 a1, .string a2] w fun e w' => e = .returned (.bool true) ∧ Below w.heap.size w w' := by
  obtain ⟨a, hx⟩ : ∃ x : W64, (x.toNat : Int) = a0 := ⟨_, u64_wf2 h0⟩
  obtain ⟨b, hy⟩ : ∃ x : W64, (x.toNat : Int) = a1 := ⟨_, u64_wf2 h1⟩
  subst hx hy
  have HGL := Lib.hid hG
  clear h0 h1 hG
  have HPS := Lib.hid (fun W h => parse_any a2 (by omega) W h)
  have HPC := Lib.hid (pzS_cases a2.data.toList)
  have hfl := fmt_len a
  have HPA : Hid (∀ W, Gl W → Calls Tryd.prog 17 #[.string ⟨(fmtS a).toArray⟩] W fun e w' => e = .returned (.tuple #[.int .u64 (a.toNat : Int), .int .i64 0]) ∧ Below W.heap.size W w') := fun W h => by
    have := parse_any ⟨(fmtS a).toArray⟩ (by simp [ByteArray.size]; omega) W h
    have e : pzV (fmtS a) = .tuple #[.int .u64 (a.toNat : Int), .int .i64 0] := by unfold pzV; rw [pzS_fmt]
    simp only [e] at this
    exact this
  clear hfl
  have HEQ : Hid ((a = b) ∨ (((a.toNat : Int) == (b.toNat : Int)) = false ∧ (fmtS a == fmtS b) = false)) := by
    rcases Classical.em (a = b) with h | h
    · exact .inl h
    · exact .inr ⟨ne_nat h, ne_fmt h⟩
  go_enter Tryd.func6, Tryd.ntmps6
  go_wp2_with fail
  refine (members_any a _).mono ?_
  rintro e w1 ⟨v, rfl, ho, hb⟩
  obtain ⟨ra, cap, rfl, hi⟩ := ho.isI
  have HI := Lib.hid hi
  have HB1 := Lib.hid hb
  clear ho hi hb
  go_wp2_with fail
  refine (back_of a ra cap _ HI.out).mono ?_
  rintro e w2 ⟨rfl, rfl⟩
  go_wp2_with fail
  refine (format_any a _).mono ?_
  rintro e w3 ⟨rfl, hb⟩
  have HB2 := Lib.hid (Below.next HB1.out hb)
  clear hb
  go_wp2_with fail
  refine (HPA.out _ (Gl.later HGL.out HB2.out)).mono ?_
  rintro e w4 ⟨rfl, hb⟩
  have HB3 := Lib.hid (Below.next HB2.out hb)
  clear hb
  go_wp2_with fail
  refine (format_any a _).mono ?_
  rintro e w5 ⟨rfl, hb⟩
  have HB4 := Lib.hid (Below.next HB3.out hb)
  clear hb
  go_wp2_with fail
  refine (format_any b _).mono ?_
  rintro e w6 ⟨rfl, hb⟩
  have HB5 := Lib.hid (Below.next HB4.out hb)
  clear hb
  rcases HEQ.out with h | ⟨h1, h2⟩
  · subst h
    go_wp2_with fail
    refine (HPS.out _ (Gl.later HGL.out HB5.out)).mono ?_
    rintro e w7 ⟨rfl, hb⟩
    have HB6 := Lib.hid (Below.next HB5.out hb)
    clear hb
    rcases HPC.out with ⟨x, hx, hp⟩ | ⟨_, hp⟩
    · have hq : (fmtS x == a2.toList) = true := by rw [ByteArray.toList_eq, hx]; simp
      unfold pzV
      rw [hp]
      clear hp hx
      go_wp2_with fail
      refine (format_any x _).mono ?_
      rintro e w8 ⟨rfl, hb⟩
      have HB7 := Lib.hid (Below.next HB6.out hb)
      clear hb
      go_wp2_with fail
      go_ret
      exact ⟨rfl, HB7.out⟩
    · unfold pzV
      rw [hp]
      clear hp
      go_wp2_with fail
      go_ret
      exact ⟨rfl, HB6.out⟩
  · go_wp2_with fail
    refine (HPS.out _ (Gl.later HGL.out HB5.out)).mono ?_
    rintro e w7 ⟨rfl, hb⟩
    have HB6 := Lib.hid (Below.next HB5.out hb)
    clear hb
    rcases HPC.out with ⟨x, hx, hp⟩ | ⟨_, hp⟩
    · have hq : (fmtS x == a2.toList) = true := by rw [ByteArray.toList_eq, hx]; simp
      unfold pzV
      rw [hp]
      clear hp hx
      go_wp2_with fail
      refine (format_any x _).mono ?_
      rintro e w8 ⟨rfl, hb⟩
      have HB7 := Lib.hid (Below.next HB6.out hb)
      clear hb
      go_wp2_with fail
      go_ret
      exact ⟨rfl, HB7.out⟩
    · unfold pzV
      rw [hp]
      clear hp
      go_wp2_with fail
      go_ret
      exact ⟨rfl, HB6.out⟩
end Go.Proofs.YtbkbikkieabcmaaDoor.Gf
