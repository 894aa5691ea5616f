/- The contract of group's Parse. -/
import Derived.Test.YtbkbikkieabcmaaDoorGfE
namespace Go.Proofs.YtbkbikkieabcmaaDoor.Gf
open Go Go.RowKit
set_option linter.unusedVariables false
set_option linter.unusedSimpArgs false
/-- What the program's Parse answers. -/
def pzS (s : By) : W64 × Int := match rdS s with
  | some x => if fmtS x = s then (x, 0) else (0#64, 4)
  | none => (0#64, 4)
def pzV (s : By) : Value := .tuple #[.int .u64 ((pzS s).1.toNat : Int), .int .i64 (pzS s).2]
theorem pzV_none {s : By} (h : rdS s = none) : pzV s = .tuple #[.int .u64 0, .int .i64 4] := by unfold pzV pzS; rw [h]; rfl
theorem pzV_ne {s : By} {x : W64} (h : rdS s = some x) (h2 : fmtS x ≠ s) : pzV s = .tuple #[.int .u64 0, .int .i64 4] := by unfold pzV pzS; rw [h]; dsimp only; rw [if_neg h2]; rfl
theorem pzV_eq {s : By} {x : W64} (h : rdS s = some x) (h2 : fmtS x = s) : pzV s = .tuple #[.int .u64 (x.toNat : Int), .int .i64 0] := by unfold pzV pzS; rw [h]; dsimp only; rw [if_pos h2]
theorem fmt_len (x : W64) : (fmtS x).length ≤ 1000 := by
  unfold fmtS
  split
  · simp
  · split
    · simp
    · have h1 := W_mem (x := x) (u := 0) (V := []) rfl
      have h2 := W_mem (x := x) (u := 64) (V := W x 0) (by rw [W_end x (Nat.le_refl _), List.append_nil])
      have h3 := join_len (W x 0) (fun w hw => (h2.2 w hw).2)
      omega
set_option maxRecDepth 100000 in
set_option maxHeartbeats 6400000 in
theorem parse_any (s : ByteArray) (hs : s.size ≤ 1000000000) (w : World) (hG : Gl w) : Calls Tryd.prog 17 #[.string s] w fun e w' => e = .returned (pzV s.data.toList) ∧ Below w.heap.size w w' := by
  have HRD := Lib.hid (fun W h => read_any s hs W h)
  have HGL := Lib.hid hG
  cases hr : rdS s.data.toList with
  | none =>
    have HPZ := Lib.hid (pzV_none hr)
    rw [hr] at HRD
    clear hr hG
    go_enter Tryd.func17, Tryd.ntmps17
    go_wp2_with fail
    refine (HRD.out _ HGL.out).mono ?_
    rintro e w1 ⟨rfl, hB⟩
    have HB := Lib.hid hB
    clear hB
    unfold rdV
    go_wp2_with fail
    go_ret2
    exact ⟨congrArg Ending.returned HPZ.out.symm, HB.out⟩
  | some x =>
    rw [hr] at HRD
    have HFM := Lib.hid (fun W => format_any x W)
    rcases Classical.em (fmtS x = s.data.toList) with he | he
    · have HPZ := Lib.hid (pzV_eq hr he)
      obtain ⟨d⟩ := s
      obtain ⟨l⟩ := d
      dsimp only at he HRD HPZ ⊢
      subst he
      clear hr hG
      go_enter Tryd.func17, Tryd.ntmps17
      go_wp2_with fail
      refine (HRD.out _ HGL.out).mono ?_
      rintro e w1 ⟨rfl, hB⟩
      have HB := Lib.hid hB
      clear hB
      unfold rdV
      go_wp2_with fail
      refine (HFM.out _).mono ?_
      rintro e w2 ⟨rfl, hB⟩
      have HB2 := Lib.hid hB
      clear hB
      go_wp2_with fail
      go_ret2
      exact ⟨congrArg Ending.returned HPZ.out.symm, Below.next HB.out HB2.out⟩
    · have HPZ := Lib.hid (pzV_ne hr he)
      have hne : (fmtS x == s.toList) = false := by rw [ByteArray.toList_eq]; simpa using he
      clear hr hG
      go_enter Tryd.func17, Tryd.ntmps17
      go_wp2_with fail
      refine (HRD.out _ HGL.out).mono ?_
      rintro e w1 ⟨rfl, hB⟩
      have HB := Lib.hid hB
      clear hB
      unfold rdV
      go_wp2_with fail
      refine (HFM.out _).mono ?_
      rintro e w2 ⟨rfl, hB⟩
      have HB2 := Lib.hid hB
      clear hB
      go_wp2_with fail
      go_ret2
      exact ⟨congrArg Ending.returned HPZ.out.symm, Below.next HB.out HB2.out⟩
end Go.Proofs.YtbkbikkieabcmaaDoor.Gf
