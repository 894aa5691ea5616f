/- Lists of nodes compared by the library. -/
import Derived.Test.YtkigjoaoggafeaaDoorNdB
namespace Go.Proofs.YtkigjoaoggafeaaDoor.Nd
open Go Go.RowKit
set_option linter.unusedVariables false
set_option linter.unusedSimpArgs false
set_option maxHeartbeats 6400000 in
theorem geq_any (a a' : Option Addr) (n n' cap cap' : Nat) (A B : List ND) (hn : n ≤ 1000000) (hn' : n' ≤ 1000000) (w : World) (h1 : IsND w a n A) (h2 : IsND w a' n' B) :
    Calls Tryd.prog 35 #[.slice a n cap, .slice a' n' cap'] w fun e w' => e = .returned (.bool (eqN A B)) ∧ Below w.heap.size w w' := by
  have H1 := Lib.hid h1
  have H2 := Lib.hid h2
  clear h1 h2
  obtain ⟨res, hres⟩ : ∃ res, eqN A B = res := ⟨_, rfl⟩
  have HR := Lib.hid hres
  rw [hres]
  clear hres
  by_cases hl : n = n'
  rotate_left
  · have hf : res = false := by rw [← HR.out]; exact eqN_len (by rw [H1.out.1, H2.out.1]; exact hl)
    subst hf
    clear H1 H2 HR
    go_enter Tryd.func35, Tryd.ntmps35
    go_wp2_with fail
    go_ret
    exact ⟨rfl, Below.refl _ _⟩
  subst hl
  go_enter Tryd.func35, Tryd.ntmps35
  go_wp2_with fail
  go_loopw [5, 13] (fun _ i wr => ∃ k : Nat, k ≤ n ∧ i = .int .i64 k ∧ Hid (∀ j (h1 : j < A.length) (h2 : j < B.length), j < k → A[j] = B[j]) ∧ Below w.heap.size w wr) (fun _ i _ => n - (intOf i).toNat)
  case atStart => exact ⟨0, Nat.zero_le _, rfl, fun j _ _ h => absurd h (Nat.not_lt_zero _), Below.refl _ _⟩
  case round =>
    obtain ⟨k, hk, rfl, HE, hB⟩ := hrel
    have HB := Lib.hid hB
    clear hB
    by_cases hlt : k < n
    · have hka : k < A.length := by rw [H1.out.1]; exact hlt
      have hkb : k < B.length := by rw [H2.out.1]; exact hlt
      obtain ⟨b, off, rfl, hbl, c0, c1, c2, c3, c4, c5, c6, c7, c8, c9, c10⟩ := isN_at (IsOf.later H1.out HB.out) hka
      obtain ⟨b', off', rfl, hbl', d0, d1, d2, d3, d4, d5, d6, d7, d8, d9, d10⟩ := isN_at (IsOf.later H2.out HB.out) hkb
      by_cases hk2 : A[k] = B[k]
      · have HN : Hid (∀ j (h1 : j < A.length) (h2 : j < B.length), j < k + 1 → A[j] = B[j]) := fun j h1 h2 hj => by
          rcases Nat.lt_or_ge j k with h | h
          · exact HE j h1 h2 h
          · obtain rfl : j = k := by omega
            exact hk2
        rw [← hk2] at d0 d1 d2 d3 d4 d5 d6 d7 d8 d9 d10
        clear hk2 HE HR
        generalize A[k] = r at *
        obtain ⟨x0, x1, x2, x3, x4, x5, x6, x7, x8, x9, x10⟩ := r
        dsimp only at *
        go_wp2_with fail
        go_quiet (fail)
        go_wp2_with fail
        go_roundw
        case rel => exact ⟨k + 1, by omega, by go_num, HN, ⟨HB.out.os, HB.out.tape, HB.out.output, HB.out.size, HB.out.block⟩⟩
        case measure => simp [intOf]; omega
      · have hf : res = false := by rw [← HR.out]; exact eqN_at hka hkb hk2
        subst hf
        clear HR HE
        generalize A[k] = r at *
        generalize B[k] = s at *
        obtain ⟨x0, x1, x2, x3, x4, x5, x6, x7, x8, x9, x10⟩ := r
        obtain ⟨y0, y1, y2, y3, y4, y5, y6, y7, y8, y9, y10⟩ := s
        dsimp only at *
        by_cases g0 : x0 = y0
        rotate_left
        · have e : ((x0 : Int) == (y0 : Int)) = false := by
            rw [Bool.eq_false_iff]; intro h; rw [beq_iff_eq] at h; exact g0 (by omega)
          clear hk2
          go_wp2_with fail
          go_quiet (fail)
          go_wp2_with fail
          go_ret
          exact ⟨rfl, ⟨HB.out.os, HB.out.tape, HB.out.output, HB.out.size, HB.out.block⟩⟩
        subst g0
        by_cases g1 : x1 = y1
        rotate_left
        · have e : ((x1 : Int) == (y1 : Int)) = false := by
            rw [Bool.eq_false_iff]; intro h; rw [beq_iff_eq] at h; exact g1 (by omega)
          clear hk2
          go_wp2_with fail
          go_quiet (fail)
          go_wp2_with fail
          go_ret
          exact ⟨rfl, ⟨HB.out.os, HB.out.tape, HB.out.output, HB.out.size, HB.out.block⟩⟩
        subst g1
        by_cases g2 : x2 = y2
        rotate_left
        · have e : (x2 == y2) = false := by
            rw [Bool.eq_false_iff]; intro h; rw [beq_iff_eq] at h; exact g2 h
          clear hk2
          go_wp2_with fail
          go_quiet (fail)
          go_wp2_with fail
          go_ret
          exact ⟨rfl, ⟨HB.out.os, HB.out.tape, HB.out.output, HB.out.size, HB.out.block⟩⟩
        subst g2
        by_cases g3 : x3 = y3
        rotate_left
        · have e : (x3.toList == y3.toList) = false := by
            rw [ByteArray.toList_eq, ByteArray.toList_eq, Bool.eq_false_iff]
            intro h
            rw [beq_iff_eq] at h
            exact g3 (ByteArray.ext (Array.toList_inj.1 h))
          clear hk2 g3
          go_wp2_with fail
          go_quiet (fail)
          go_wp2_with fail
          go_ret
          exact ⟨rfl, ⟨HB.out.os, HB.out.tape, HB.out.output, HB.out.size, HB.out.block⟩⟩
        subst g3
        by_cases g4 : x4 = y4
        rotate_left
        · have e : (x4 == y4) = false := by
            rw [Bool.eq_false_iff]; intro h; rw [beq_iff_eq] at h; exact g4 h
          clear hk2
          go_wp2_with fail
          go_quiet (fail)
          go_wp2_with fail
          go_ret
          exact ⟨rfl, ⟨HB.out.os, HB.out.tape, HB.out.output, HB.out.size, HB.out.block⟩⟩
        subst g4
        by_cases g5 : x5 = y5
        rotate_left
        · have e : (x5 == y5) = false := by
            rw [Bool.eq_false_iff]; intro h; rw [beq_iff_eq] at h; exact g5 h
          clear hk2
          go_wp2_with fail
          go_quiet (fail)
          go_wp2_with fail
          go_ret
          exact ⟨rfl, ⟨HB.out.os, HB.out.tape, HB.out.output, HB.out.size, HB.out.block⟩⟩
        subst g5
        by_cases g6 : x6 = y6
        rotate_left
        · have e : (x6 == y6) = false := by
            rw [Bool.eq_false_iff]; intro h; rw [beq_iff_eq] at h; exact g6 h
          clear hk2
          go_wp2_with fail
          go_quiet (fail)
          go_wp2_with fail
          go_ret
          exact ⟨rfl, ⟨HB.out.os, HB.out.tape, HB.out.output, HB.out.size, HB.out.block⟩⟩
        subst g6
        by_cases g7 : x7 = y7
        rotate_left
        · have e : (x7 == y7) = false := by
            rw [Bool.eq_false_iff]; intro h; rw [beq_iff_eq] at h; exact g7 h
          clear hk2
          go_wp2_with fail
          go_quiet (fail)
          go_wp2_with fail
          go_ret
          exact ⟨rfl, ⟨HB.out.os, HB.out.tape, HB.out.output, HB.out.size, HB.out.block⟩⟩
        subst g7
        by_cases g8 : x8 = y8
        rotate_left
        · have e : (x8 == y8) = false := by
            rw [Bool.eq_false_iff]; intro h; rw [beq_iff_eq] at h; exact g8 h
          clear hk2
          go_wp2_with fail
          go_quiet (fail)
          go_wp2_with fail
          go_ret
          exact ⟨rfl, ⟨HB.out.os, HB.out.tape, HB.out.output, HB.out.size, HB.out.block⟩⟩
        subst g8
        by_cases g9 : x9 = y9
        rotate_left
        · have e : ((x9 : Int) == (y9 : Int)) = false := by
            rw [Bool.eq_false_iff]; intro h; rw [beq_iff_eq] at h; exact g9 (by omega)
          clear hk2
          go_wp2_with fail
          go_quiet (fail)
          go_wp2_with fail
          go_ret
          exact ⟨rfl, ⟨HB.out.os, HB.out.tape, HB.out.output, HB.out.size, HB.out.block⟩⟩
        subst g9
        by_cases g10 : x10 = y10
        rotate_left
        · have e : (x10 == y10) = false := by
            rw [Bool.eq_false_iff]; intro h; rw [beq_iff_eq] at h; exact g10 h
          clear hk2
          go_wp2_with fail
          go_quiet (fail)
          go_wp2_with fail
          go_ret
          exact ⟨rfl, ⟨HB.out.os, HB.out.tape, HB.out.output, HB.out.size, HB.out.block⟩⟩
        subst g10
        exact absurd rfl hk2
    · have ht : res = true := by rw [← HR.out]; exact eqN_all (by rw [H1.out.1, H2.out.1]) fun j h1 h2 => HE j h1 h2 (by rw [H1.out.1] at h1; omega)
      subst ht
      go_wp2_with fail
      go_ret
      exact ⟨rfl, HB.out⟩
end Go.Proofs.YtkigjoaoggafeaaDoor.Nd
