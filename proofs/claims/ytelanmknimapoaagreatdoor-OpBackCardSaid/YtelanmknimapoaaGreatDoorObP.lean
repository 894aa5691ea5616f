/- The pieces of a line: numbers and ranges, read or refused with a panic. -/
import Derived.Test.YtelanmknimapoaaGreatDoorObW
import Derived.Test.YtelanmknimapoaaGreatDoorObM
import Derived.Test.YtelanmknimapoaaGreatDoorMgi
import Derived.Test.YtelanmknimapoaaGreatDoorRectD
import Derived.Test.YtelanmknimapoaaGreatDoorSeqK
import Derived.WalkSmall
namespace Go.Proofs.YtelanmknimapoaaGreatDoor.Ob
open Go Go.RowKit Sx Gf Re Re.AM
set_option linter.unusedVariables false
set_option linter.unusedSimpArgs false
def fl : List PanicEntry := [{ v := .iface 59 (.agg #[]), recovered := false }]
theorem zvk (A : By) (v : Int) (h : Lib.atoiAll A = .ok v) (hA : A.length ≤ 1000000000) (w : World) (hG : Gf.Gl w) : Calls Tryz.prog 58 #[.string ⟨A.toArray⟩] w fun e w' => e = .returned (.int .i64 v) ∧ Below w.heap.size w w' := by
 have HC := Lib.hid (zid A hA)
 have HG := Lib.hid hG
 have HH := Lib.hid h
 clear h hG
 go_enter Tryz.func58, Tryz.ntmps58
 go_wp2_with fail
 refine (HC.out _ HG.out).mono ?_
 rintro e w1 ⟨he, hB⟩
 obtain rfl := zkc HH.out he
 go_wp2_with fail
 go_ret
 exact ⟨rfl, hB⟩
theorem zs5 (A : By) (h : ∀ v, Lib.atoiAll A ≠ .ok v) (hA : A.length ≤ 1000000000) (w : World) (hG : Gf.Gl w) : Calls Tryz.prog 58 #[.string ⟨A.toArray⟩] w fun e w' => e = .panicked fl ∧ Below w.heap.size w w' := by
 have HC := Lib.hid (zid A hA)
 have HG := Lib.hid hG
 have HH := Lib.hid h
 clear h hG
 go_enter Tryz.func58, Tryz.ntmps58
 go_wp2_with fail
 refine (HC.out _ HG.out).mono ?_
 rintro e w1 ⟨he, hB⟩
 obtain ⟨v, t, p, rfl⟩ := zmy HH.out he
 go_wp2_with fail
 exact ⟨rfl, rfl, hB⟩
/-! Ranges -/
def numR (A : By) : Option Int := match Lib.atoiAll A with
 | .ok v => some v
 | _ => none
theorem zvl {A : By} {v : Int} (h : numR A = some v) : Lib.atoiAll A = .ok v := by
 unfold numR at h
 split at h
 · rename_i u hu; rw [hu]; cases h; rfl
 · cases h
theorem zy1 {A : By} (h : numR A = none) (v : Int) : Lib.atoiAll A ≠ .ok v := by
 intro hv
 unfold numR at h
 rw [hv] at h
 cases h
theorem zas {A : By} {v : Int} (h : numR A = some v) (hA : A.length ≤ 1000000000) (w : World) (hG : Gf.Gl w) : Calls Tryz.prog 58 #[.string ⟨A.toArray⟩] w fun e w' => e = .returned (.int .i64 v) ∧ Below w.heap.size w w' := zvk A v (zvl h) hA w hG
theorem zbz {A : By} (h : numR A = none) (hA : A.length ≤ 1000000000) (w : World) (hG : Gf.Gl w) : Calls Tryz.prog 58 #[.string ⟨A.toArray⟩] w fun e w' => e = .panicked fl ∧ Below w.heap.size w w' := zs5 A (zy1 h) hA w hG
def zbb (s : By) : Option (Int × Int × Int × Int) :=
 if (RZ s).2.2.2.2 = 0 then some ((RZ s).1, (RZ s).2.1, (RZ s).2.2.1, (RZ s).2.2.2.1)
 else match wsOf s with
  | [A, B, C, D] => match numR A, numR B, numR C, numR D with
   | some a, some b, some c, some d => some (a, b, c, d)
   | _, _, _, _ => none
  | _ => none
theorem ya3 {s : By} : rzV (RZ s) = .tuple #[.agg #[.int .i64 (RZ s).1, .int .i64 (RZ s).2.1, .int .i64 (RZ s).2.2.1, .int .i64 (RZ s).2.2.2.1], .int .i64 (RZ s).2.2.2.2] := rfl
theorem zx5 (s : ByteArray) (hs : s.size ≤ 2000) (h : (RZ s.data.toList).2.2.2.2 ≠ 0) (hn : (wsOf s.data.toList).length ≠ 4) (w : World) (hG : Gf.Gl w) : Calls Tryz.prog 60 #[.string s] w fun e w' => e = .panicked fl ∧ Below w.heap.size w w' := by
 have HC := Lib.hid (zex s hs)
 rw [ya3] at HC
 have HSP := Lib.hid (fun W h => znf s (by omega) W h)
 have hL0 := zqk s
 obtain ⟨L, hL⟩ : ∃ L, L = wsOf s.data.toList := ⟨_, rfl⟩
 rw [← hL] at HSP hn hL0
 obtain ⟨k, hk⟩ : ∃ k, L.length = k := ⟨_, rfl⟩
 rw [hk] at HSP hn hL0
 have hk4 : ¬ (k : Int) = 4 := by omega
 have hkb : k ≤ 2001 := by omega
 generalize (RZ s.data.toList).1 = z1 at *
 generalize (RZ s.data.toList).2.1 = z2 at *
 generalize (RZ s.data.toList).2.2.1 = z3 at *
 generalize (RZ s.data.toList).2.2.2.1 = z4 at *
 generalize (RZ s.data.toList).2.2.2.2 = er at *
 have HG := Lib.hid hG
 clear hG hL hn
 go_enter Tryz.func60, Tryz.ntmps60
 go_wp2_with fail
 refine (HC.out _).mono ?_
 rintro e w1 ⟨rfl, hB1⟩
 have B1 := Lib.hid (Below.next (below_alloc w _) hB1)
 have l1 := below_alloc w1 (.cells #[.int .i64 z1, .int .i64 z2, .int .i64 z3, .int .i64 z4] 23)
 have B2 := Lib.hid (Below.next B1.out l1)
 have G2 := Lib.hid (HG.out.later B2.out)
 clear hB1 l1
 go_wp2_with fail
 refine (HSP.out _ G2.out).mono ?_
 rintro e w3 ⟨⟨a, cap, rfl, _⟩, hB3⟩
 have B3 := Lib.hid (Below.next B2.out hB3)
 clear hB3
 go_wp2_with fail
 exact ⟨rfl, rfl, B3.out⟩
def Row4 (w : World) (b : Nat) (A B C D : By) : Prop := b < w.heap.size ∧ w.cell? ⟨b, 0, none⟩ = some (.string ⟨A.toArray⟩) ∧ w.cell? ⟨b, 1, none⟩ = some (.string ⟨B.toArray⟩) ∧ w.cell? ⟨b, 2, none⟩ = some (.string ⟨C.toArray⟩) ∧ w.cell? ⟨b, 3, none⟩ = some (.string ⟨D.toArray⟩)
theorem Row4.later {w w' : World} {b : Nat} {A B C D : By} (h : Row4 w b A B C D) (hB : Below w.heap.size w w') : Row4 w' b A B C D := by
 obtain ⟨h0, h1, h2, h3, h4⟩ := h
 exact ⟨Nat.lt_of_lt_of_le h0 hB.size, (hB.cell (p := ⟨b, 0, none⟩) h0).trans h1, (hB.cell (p := ⟨b, 1, none⟩) h0).trans h2, (hB.cell (p := ⟨b, 2, none⟩) h0).trans h3, (hB.cell (p := ⟨b, 3, none⟩) h0).trans h4⟩
structure S4 (w0 : World) (b : Nat) (A B C D : By) (w : World) : Prop where
 row : Row4 w b A B C D
 gl : Gf.Gl w
 bel : Below w0.heap.size w0 w
theorem S4.keep {w0 : World} {b : Nat} {A B C D : By} {w w' : World} (h : S4 w0 b A B C D w) (hB : Below w.heap.size w w') : S4 w0 b A B C D w' := ⟨h.row.later hB, h.gl.later hB, Below.next h.bel hB⟩
theorem zx6 (s : ByteArray) (hs : s.size ≤ 2000) (h : (RZ s.data.toList).2.2.2.2 ≠ 0) (A B C D : By) (hn : wsOf s.data.toList = [A, B, C, D]) (hA : A.length ≤ 1000000000) (hBl : B.length ≤ 1000000000) (hC : C.length ≤ 1000000000) (hD : D.length ≤ 1000000000)
 (hb : numR A = none ∨ (∃ a, numR A = some a) ∧ (numR B = none ∨ (∃ b, numR B = some b) ∧ (numR C = none ∨ (∃ c, numR C = some c) ∧ numR D = none))) (w : World) (hG : Gf.Gl w) : Calls Tryz.prog 60 #[.string s] w fun e w' => e = .panicked fl ∧ Below w.heap.size w w' := by
 have HC := Lib.hid (zex s hs)
 rw [ya3] at HC
 have HSP := Lib.hid (fun W h => yay s (by omega) A B C D hn W h)
 generalize (RZ s.data.toList).1 = z1 at *
 generalize (RZ s.data.toList).2.1 = z2 at *
 generalize (RZ s.data.toList).2.2.1 = z3 at *
 generalize (RZ s.data.toList).2.2.2.1 = z4 at *
 generalize (RZ s.data.toList).2.2.2.2 = er at *
 have HG := Lib.hid hG
 clear hG hn
 go_enter Tryz.func60, Tryz.ntmps60
 go_wp2_with fail
 refine (HC.out _).mono ?_
 rintro e w1 ⟨rfl, hB1⟩
 have B1 := Lib.hid (Below.next (below_alloc w _) hB1)
 have l1 := below_alloc w1 (.cells #[.int .i64 z1, .int .i64 z2, .int .i64 z3, .int .i64 z4] 23)
 have B2 := Lib.hid (Below.next B1.out l1)
 have G2 := Lib.hid (HG.out.later B2.out)
 clear hB1 l1
 go_wp2_with fail
 refine (HSP.out _ G2.out).mono ?_
 generalize w1.alloc (.cells #[.int .i64 z1, .int .i64 z2, .int .i64 z3, .int .i64 z4] 23) = w2 at *
 rintro e w3 ⟨rfl, rfl⟩
 have l3 := below_alloc w2 (.cells #[.string ⟨A.toArray⟩, .string ⟨B.toArray⟩, .string ⟨C.toArray⟩, .string ⟨D.toArray⟩] 9)
 have hS0 : S4 w w2.heap.size A B C D (w2.alloc (.cells #[.string ⟨A.toArray⟩, .string ⟨B.toArray⟩, .string ⟨C.toArray⟩, .string ⟨D.toArray⟩] 9)) := ⟨⟨by simp, by simp, by simp, by simp, by simp⟩, G2.out.later l3, Below.next B2.out l3⟩
 change S4 w w2.heap.size A B C D (World.more w2 (.cells #[.string ⟨A.toArray⟩, .string ⟨B.toArray⟩, .string ⟨C.toArray⟩, .string ⟨D.toArray⟩] 9)) at hS0
 generalize World.more w2 (.cells #[.string ⟨A.toArray⟩, .string ⟨B.toArray⟩, .string ⟨C.toArray⟩, .string ⟨D.toArray⟩] 9) = w4 at *
 generalize w2.heap.size = bk at *
 clear B1 B2 G2 l3
 go_wp2_with fail
 -- region 7
 have hB := hBl
 rcases hb with e0 | ⟨⟨n0, e0⟩, e1 | ⟨⟨n1, e1⟩, e2 | ⟨⟨n2, e2⟩, e3⟩⟩⟩
 · refine zcd (S4 w bk A B C D) fl (by kernel_rfl) (by kernel_rfl) (by kernel_rfl) (fun a' W hd hS => ?_) (hS0.keep (Below.refl _ _).drew) ?_
   · exact ⟨hd, rfl, hS.bel⟩
   dsimp only
   refine za7 (v := ?_) (by rfl) (fun W hS => ?_) ?_
   rotate_left
   · (obtain ⟨⟨hz, c0, c1, c2, c3⟩, hg, hB⟩ := hS; go_simp <;> rfl)
   simp only [Act.put, List.setIfInBounds_toArray, List.set_cons_zero, List.set_cons_succ]
   refine za7 (v := ?_) (by rfl) (fun W hS => ?_) ?_
   rotate_left
   · (obtain ⟨⟨hz, c0, c1, c2, c3⟩, hg, hB⟩ := hS; go_simp <;> rfl)
   simp only [Act.put, List.setIfInBounds_toArray, List.set_cons_zero, List.set_cons_succ]
   refine za7 (v := ?_) (by rfl) (fun W hS => ?_) ?_
   rotate_left
   · (obtain ⟨⟨hz, c0, c1, c2, c3⟩, hg, hB⟩ := hS; go_simp <;> rfl)
   simp only [Act.put, List.setIfInBounds_toArray, List.set_cons_zero, List.set_cons_succ]
   refine zy8 (by rfl) (f := 58) (args := #[.string ⟨A.toArray⟩]) (fun W hS => ?_) (fun W hS => ?_) ?_
   · (go_simp; done)
   · exact (zbz e0 hA W hS.gl).mono fun e w' ⟨h1, h2⟩ => ⟨h1, hS.keep h2⟩
   refine za7 (v := ?_) (by rfl) (fun W hS => ?_) ?_
   rotate_left
   · (obtain ⟨⟨hz, c0, c1, c2, c3⟩, hg, hB⟩ := hS; go_simp <;> rfl)
   simp only [Act.put, List.setIfInBounds_toArray, List.set_cons_zero, List.set_cons_succ]
   refine za7 (v := ?_) (by rfl) (fun W hS => ?_) ?_
   rotate_left
   · (obtain ⟨⟨hz, c0, c1, c2, c3⟩, hg, hB⟩ := hS; go_simp <;> rfl)
   simp only [Act.put, List.setIfInBounds_toArray, List.set_cons_zero, List.set_cons_succ]
   refine za7 (v := ?_) (by rfl) (fun W hS => ?_) ?_
   rotate_left
   · (obtain ⟨⟨hz, c0, c1, c2, c3⟩, hg, hB⟩ := hS; go_simp <;> rfl)
   simp only [Act.put, List.setIfInBounds_toArray, List.set_cons_zero, List.set_cons_succ]
   refine zda (by kernel_rfl) ?_
   refine za7 (v := ?_) (by rfl) (fun W hS => ?_) ?_
   rotate_left
   · (obtain ⟨⟨hz, c0, c1, c2, c3⟩, hg, hB⟩ := hS; go_simp <;> rfl)
   simp only [Act.put, List.setIfInBounds_toArray, List.set_cons_zero, List.set_cons_succ]
   refine za7 (v := ?_) (by rfl) (fun W hS => ?_) ?_
   rotate_left
   · (obtain ⟨⟨hz, c0, c1, c2, c3⟩, hg, hB⟩ := hS; go_simp <;> rfl)
   simp only [Act.put, List.setIfInBounds_toArray, List.set_cons_zero, List.set_cons_succ]
   refine za7 (v := ?_) (by rfl) (fun W hS => ?_) ?_
   rotate_left
   · (obtain ⟨⟨hz, c0, c1, c2, c3⟩, hg, hB⟩ := hS; go_simp <;> rfl)
   simp only [Act.put, List.setIfInBounds_toArray, List.set_cons_zero, List.set_cons_succ]
   refine zda (by kernel_rfl) ?_
   refine za7 (v := ?_) (by rfl) (fun W hS => ?_) ?_
   rotate_left
   · (obtain ⟨⟨hz, c0, c1, c2, c3⟩, hg, hB⟩ := hS; go_simp <;> rfl)
   simp only [Act.put, List.setIfInBounds_toArray, List.set_cons_zero, List.set_cons_succ]
   refine za7 (v := ?_) (by rfl) (fun W hS => ?_) ?_
   rotate_left
   · (obtain ⟨⟨hz, c0, c1, c2, c3⟩, hg, hB⟩ := hS; go_simp <;> rfl)
   simp only [Act.put, List.setIfInBounds_toArray, List.set_cons_zero, List.set_cons_succ]
   refine za7 (v := ?_) (by rfl) (fun W hS => ?_) ?_
   rotate_left
   · (obtain ⟨⟨hz, c0, c1, c2, c3⟩, hg, hB⟩ := hS; go_simp <;> rfl)
   simp only [Act.put, List.setIfInBounds_toArray, List.set_cons_zero, List.set_cons_succ]
   refine zda (by kernel_rfl) ?_
   refine zda (by kernel_rfl) ?_
   refine zda (by kernel_rfl) ?_
   exact zy7 (by simp)
 · refine zcd (S4 w bk A B C D) fl (by kernel_rfl) (by kernel_rfl) (by kernel_rfl) (fun a' W hd hS => ?_) (hS0.keep (Below.refl _ _).drew) ?_
   · exact ⟨hd, rfl, hS.bel⟩
   dsimp only
   refine za7 (v := ?_) (by rfl) (fun W hS => ?_) ?_
   rotate_left
   · (obtain ⟨⟨hz, c0, c1, c2, c3⟩, hg, hB⟩ := hS; go_simp <;> rfl)
   simp only [Act.put, List.setIfInBounds_toArray, List.set_cons_zero, List.set_cons_succ]
   refine za7 (v := ?_) (by rfl) (fun W hS => ?_) ?_
   rotate_left
   · (obtain ⟨⟨hz, c0, c1, c2, c3⟩, hg, hB⟩ := hS; go_simp <;> rfl)
   simp only [Act.put, List.setIfInBounds_toArray, List.set_cons_zero, List.set_cons_succ]
   refine za7 (v := ?_) (by rfl) (fun W hS => ?_) ?_
   rotate_left
   · (obtain ⟨⟨hz, c0, c1, c2, c3⟩, hg, hB⟩ := hS; go_simp <;> rfl)
   simp only [Act.put, List.setIfInBounds_toArray, List.set_cons_zero, List.set_cons_succ]
   refine zk5 (.int .i64 n0) (by rfl) (f := 58) (args := #[.string ⟨A.toArray⟩]) (fun W hS => ?_) (fun W hS => ?_) ?_
   · (go_simp; done)
   · exact (zas e0 hA W hS.gl).mono fun e w' ⟨h1, h2⟩ => ⟨h1, hS.keep h2⟩
   simp only [Act.put, List.setIfInBounds_toArray, List.set_cons_zero, List.set_cons_succ]
   refine za7 (v := ?_) (by rfl) (fun W hS => ?_) ?_
   rotate_left
   · (obtain ⟨⟨hz, c0, c1, c2, c3⟩, hg, hB⟩ := hS; go_simp <;> rfl)
   simp only [Act.put, List.setIfInBounds_toArray, List.set_cons_zero, List.set_cons_succ]
   refine za7 (v := ?_) (by rfl) (fun W hS => ?_) ?_
   rotate_left
   · (obtain ⟨⟨hz, c0, c1, c2, c3⟩, hg, hB⟩ := hS; go_simp <;> rfl)
   simp only [Act.put, List.setIfInBounds_toArray, List.set_cons_zero, List.set_cons_succ]
   refine za7 (v := ?_) (by rfl) (fun W hS => ?_) ?_
   rotate_left
   · (obtain ⟨⟨hz, c0, c1, c2, c3⟩, hg, hB⟩ := hS; go_simp <;> rfl)
   simp only [Act.put, List.setIfInBounds_toArray, List.set_cons_zero, List.set_cons_succ]
   refine zy8 (by rfl) (f := 58) (args := #[.string ⟨B.toArray⟩]) (fun W hS => ?_) (fun W hS => ?_) ?_
   · (go_simp; done)
   · exact (zbz e1 hB W hS.gl).mono fun e w' ⟨h1, h2⟩ => ⟨h1, hS.keep h2⟩
   refine za7 (v := ?_) (by rfl) (fun W hS => ?_) ?_
   rotate_left
   · (obtain ⟨⟨hz, c0, c1, c2, c3⟩, hg, hB⟩ := hS; go_simp <;> rfl)
   simp only [Act.put, List.setIfInBounds_toArray, List.set_cons_zero, List.set_cons_succ]
   refine za7 (v := ?_) (by rfl) (fun W hS => ?_) ?_
   rotate_left
   · (obtain ⟨⟨hz, c0, c1, c2, c3⟩, hg, hB⟩ := hS; go_simp <;> rfl)
   simp only [Act.put, List.setIfInBounds_toArray, List.set_cons_zero, List.set_cons_succ]
   refine za7 (v := ?_) (by rfl) (fun W hS => ?_) ?_
   rotate_left
   · (obtain ⟨⟨hz, c0, c1, c2, c3⟩, hg, hB⟩ := hS; go_simp <;> rfl)
   simp only [Act.put, List.setIfInBounds_toArray, List.set_cons_zero, List.set_cons_succ]
   refine zda (by kernel_rfl) ?_
   refine za7 (v := ?_) (by rfl) (fun W hS => ?_) ?_
   rotate_left
   · (obtain ⟨⟨hz, c0, c1, c2, c3⟩, hg, hB⟩ := hS; go_simp <;> rfl)
   simp only [Act.put, List.setIfInBounds_toArray, List.set_cons_zero, List.set_cons_succ]
   refine za7 (v := ?_) (by rfl) (fun W hS => ?_) ?_
   rotate_left
   · (obtain ⟨⟨hz, c0, c1, c2, c3⟩, hg, hB⟩ := hS; go_simp <;> rfl)
   simp only [Act.put, List.setIfInBounds_toArray, List.set_cons_zero, List.set_cons_succ]
   refine za7 (v := ?_) (by rfl) (fun W hS => ?_) ?_
   rotate_left
   · (obtain ⟨⟨hz, c0, c1, c2, c3⟩, hg, hB⟩ := hS; go_simp <;> rfl)
   simp only [Act.put, List.setIfInBounds_toArray, List.set_cons_zero, List.set_cons_succ]
   refine zda (by kernel_rfl) ?_
   refine zda (by kernel_rfl) ?_
   refine zda (by kernel_rfl) ?_
   exact zy7 (by simp)
 · refine zcd (S4 w bk A B C D) fl (by kernel_rfl) (by kernel_rfl) (by kernel_rfl) (fun a' W hd hS => ?_) (hS0.keep (Below.refl _ _).drew) ?_
   · exact ⟨hd, rfl, hS.bel⟩
   dsimp only
   refine za7 (v := ?_) (by rfl) (fun W hS => ?_) ?_
   rotate_left
   · (obtain ⟨⟨hz, c0, c1, c2, c3⟩, hg, hB⟩ := hS; go_simp <;> rfl)
   simp only [Act.put, List.setIfInBounds_toArray, List.set_cons_zero, List.set_cons_succ]
   refine za7 (v := ?_) (by rfl) (fun W hS => ?_) ?_
   rotate_left
   · (obtain ⟨⟨hz, c0, c1, c2, c3⟩, hg, hB⟩ := hS; go_simp <;> rfl)
   simp only [Act.put, List.setIfInBounds_toArray, List.set_cons_zero, List.set_cons_succ]
   refine za7 (v := ?_) (by rfl) (fun W hS => ?_) ?_
   rotate_left
   · (obtain ⟨⟨hz, c0, c1, c2, c3⟩, hg, hB⟩ := hS; go_simp <;> rfl)
   simp only [Act.put, List.setIfInBounds_toArray, List.set_cons_zero, List.set_cons_succ]
   refine zk5 (.int .i64 n0) (by rfl) (f := 58) (args := #[.string ⟨A.toArray⟩]) (fun W hS => ?_) (fun W hS => ?_) ?_
   · (go_simp; done)
   · exact (zas e0 hA W hS.gl).mono fun e w' ⟨h1, h2⟩ => ⟨h1, hS.keep h2⟩
   simp only [Act.put, List.setIfInBounds_toArray, List.set_cons_zero, List.set_cons_succ]
   refine za7 (v := ?_) (by rfl) (fun W hS => ?_) ?_
   rotate_left
   · (obtain ⟨⟨hz, c0, c1, c2, c3⟩, hg, hB⟩ := hS; go_simp <;> rfl)
   simp only [Act.put, List.setIfInBounds_toArray, List.set_cons_zero, List.set_cons_succ]
   refine za7 (v := ?_) (by rfl) (fun W hS => ?_) ?_
   rotate_left
   · (obtain ⟨⟨hz, c0, c1, c2, c3⟩, hg, hB⟩ := hS; go_simp <;> rfl)
   simp only [Act.put, List.setIfInBounds_toArray, List.set_cons_zero, List.set_cons_succ]
   refine za7 (v := ?_) (by rfl) (fun W hS => ?_) ?_
   rotate_left
   · (obtain ⟨⟨hz, c0, c1, c2, c3⟩, hg, hB⟩ := hS; go_simp <;> rfl)
   simp only [Act.put, List.setIfInBounds_toArray, List.set_cons_zero, List.set_cons_succ]
   refine zk5 (.int .i64 n1) (by rfl) (f := 58) (args := #[.string ⟨B.toArray⟩]) (fun W hS => ?_) (fun W hS => ?_) ?_
   · (go_simp; done)
   · exact (zas e1 hB W hS.gl).mono fun e w' ⟨h1, h2⟩ => ⟨h1, hS.keep h2⟩
   simp only [Act.put, List.setIfInBounds_toArray, List.set_cons_zero, List.set_cons_succ]
   refine za7 (v := ?_) (by rfl) (fun W hS => ?_) ?_
   rotate_left
   · (obtain ⟨⟨hz, c0, c1, c2, c3⟩, hg, hB⟩ := hS; go_simp <;> rfl)
   simp only [Act.put, List.setIfInBounds_toArray, List.set_cons_zero, List.set_cons_succ]
   refine za7 (v := ?_) (by rfl) (fun W hS => ?_) ?_
   rotate_left
   · (obtain ⟨⟨hz, c0, c1, c2, c3⟩, hg, hB⟩ := hS; go_simp <;> rfl)
   simp only [Act.put, List.setIfInBounds_toArray, List.set_cons_zero, List.set_cons_succ]
   refine za7 (v := ?_) (by rfl) (fun W hS => ?_) ?_
   rotate_left
   · (obtain ⟨⟨hz, c0, c1, c2, c3⟩, hg, hB⟩ := hS; go_simp <;> rfl)
   simp only [Act.put, List.setIfInBounds_toArray, List.set_cons_zero, List.set_cons_succ]
   refine zy8 (by rfl) (f := 58) (args := #[.string ⟨C.toArray⟩]) (fun W hS => ?_) (fun W hS => ?_) ?_
   · (go_simp; done)
   · exact (zbz e2 hC W hS.gl).mono fun e w' ⟨h1, h2⟩ => ⟨h1, hS.keep h2⟩
   refine za7 (v := ?_) (by rfl) (fun W hS => ?_) ?_
   rotate_left
   · (obtain ⟨⟨hz, c0, c1, c2, c3⟩, hg, hB⟩ := hS; go_simp <;> rfl)
   simp only [Act.put, List.setIfInBounds_toArray, List.set_cons_zero, List.set_cons_succ]
   refine za7 (v := ?_) (by rfl) (fun W hS => ?_) ?_
   rotate_left
   · (obtain ⟨⟨hz, c0, c1, c2, c3⟩, hg, hB⟩ := hS; go_simp <;> rfl)
   simp only [Act.put, List.setIfInBounds_toArray, List.set_cons_zero, List.set_cons_succ]
   refine za7 (v := ?_) (by rfl) (fun W hS => ?_) ?_
   rotate_left
   · (obtain ⟨⟨hz, c0, c1, c2, c3⟩, hg, hB⟩ := hS; go_simp <;> rfl)
   simp only [Act.put, List.setIfInBounds_toArray, List.set_cons_zero, List.set_cons_succ]
   refine zda (by kernel_rfl) ?_
   refine zda (by kernel_rfl) ?_
   refine zda (by kernel_rfl) ?_
   exact zy7 (by simp)
 · refine zcd (S4 w bk A B C D) fl (by kernel_rfl) (by kernel_rfl) (by kernel_rfl) (fun a' W hd hS => ?_) (hS0.keep (Below.refl _ _).drew) ?_
   · exact ⟨hd, rfl, hS.bel⟩
   dsimp only
   refine za7 (v := ?_) (by rfl) (fun W hS => ?_) ?_
   rotate_left
   · (obtain ⟨⟨hz, c0, c1, c2, c3⟩, hg, hB⟩ := hS; go_simp <;> rfl)
   simp only [Act.put, List.setIfInBounds_toArray, List.set_cons_zero, List.set_cons_succ]
   refine za7 (v := ?_) (by rfl) (fun W hS => ?_) ?_
   rotate_left
   · (obtain ⟨⟨hz, c0, c1, c2, c3⟩, hg, hB⟩ := hS; go_simp <;> rfl)
   simp only [Act.put, List.setIfInBounds_toArray, List.set_cons_zero, List.set_cons_succ]
   refine za7 (v := ?_) (by rfl) (fun W hS => ?_) ?_
   rotate_left
   · (obtain ⟨⟨hz, c0, c1, c2, c3⟩, hg, hB⟩ := hS; go_simp <;> rfl)
   simp only [Act.put, List.setIfInBounds_toArray, List.set_cons_zero, List.set_cons_succ]
   refine zk5 (.int .i64 n0) (by rfl) (f := 58) (args := #[.string ⟨A.toArray⟩]) (fun W hS => ?_) (fun W hS => ?_) ?_
   · (go_simp; done)
   · exact (zas e0 hA W hS.gl).mono fun e w' ⟨h1, h2⟩ => ⟨h1, hS.keep h2⟩
   simp only [Act.put, List.setIfInBounds_toArray, List.set_cons_zero, List.set_cons_succ]
   refine za7 (v := ?_) (by rfl) (fun W hS => ?_) ?_
   rotate_left
   · (obtain ⟨⟨hz, c0, c1, c2, c3⟩, hg, hB⟩ := hS; go_simp <;> rfl)
   simp only [Act.put, List.setIfInBounds_toArray, List.set_cons_zero, List.set_cons_succ]
   refine za7 (v := ?_) (by rfl) (fun W hS => ?_) ?_
   rotate_left
   · (obtain ⟨⟨hz, c0, c1, c2, c3⟩, hg, hB⟩ := hS; go_simp <;> rfl)
   simp only [Act.put, List.setIfInBounds_toArray, List.set_cons_zero, List.set_cons_succ]
   refine za7 (v := ?_) (by rfl) (fun W hS => ?_) ?_
   rotate_left
   · (obtain ⟨⟨hz, c0, c1, c2, c3⟩, hg, hB⟩ := hS; go_simp <;> rfl)
   simp only [Act.put, List.setIfInBounds_toArray, List.set_cons_zero, List.set_cons_succ]
   refine zk5 (.int .i64 n1) (by rfl) (f := 58) (args := #[.string ⟨B.toArray⟩]) (fun W hS => ?_) (fun W hS => ?_) ?_
   · (go_simp; done)
   · exact (zas e1 hB W hS.gl).mono fun e w' ⟨h1, h2⟩ => ⟨h1, hS.keep h2⟩
   simp only [Act.put, List.setIfInBounds_toArray, List.set_cons_zero, List.set_cons_succ]
   refine za7 (v := ?_) (by rfl) (fun W hS => ?_) ?_
   rotate_left
   · (obtain ⟨⟨hz, c0, c1, c2, c3⟩, hg, hB⟩ := hS; go_simp <;> rfl)
   simp only [Act.put, List.setIfInBounds_toArray, List.set_cons_zero, List.set_cons_succ]
   refine za7 (v := ?_) (by rfl) (fun W hS => ?_) ?_
   rotate_left
   · (obtain ⟨⟨hz, c0, c1, c2, c3⟩, hg, hB⟩ := hS; go_simp <;> rfl)
   simp only [Act.put, List.setIfInBounds_toArray, List.set_cons_zero, List.set_cons_succ]
   refine za7 (v := ?_) (by rfl) (fun W hS => ?_) ?_
   rotate_left
   · (obtain ⟨⟨hz, c0, c1, c2, c3⟩, hg, hB⟩ := hS; go_simp <;> rfl)
   simp only [Act.put, List.setIfInBounds_toArray, List.set_cons_zero, List.set_cons_succ]
   refine zk5 (.int .i64 n2) (by rfl) (f := 58) (args := #[.string ⟨C.toArray⟩]) (fun W hS => ?_) (fun W hS => ?_) ?_
   · (go_simp; done)
   · exact (zas e2 hC W hS.gl).mono fun e w' ⟨h1, h2⟩ => ⟨h1, hS.keep h2⟩
   simp only [Act.put, List.setIfInBounds_toArray, List.set_cons_zero, List.set_cons_succ]
   refine za7 (v := ?_) (by rfl) (fun W hS => ?_) ?_
   rotate_left
   · (obtain ⟨⟨hz, c0, c1, c2, c3⟩, hg, hB⟩ := hS; go_simp <;> rfl)
   simp only [Act.put, List.setIfInBounds_toArray, List.set_cons_zero, List.set_cons_succ]
   refine za7 (v := ?_) (by rfl) (fun W hS => ?_) ?_
   rotate_left
   · (obtain ⟨⟨hz, c0, c1, c2, c3⟩, hg, hB⟩ := hS; go_simp <;> rfl)
   simp only [Act.put, List.setIfInBounds_toArray, List.set_cons_zero, List.set_cons_succ]
   refine za7 (v := ?_) (by rfl) (fun W hS => ?_) ?_
   rotate_left
   · (obtain ⟨⟨hz, c0, c1, c2, c3⟩, hg, hB⟩ := hS; go_simp <;> rfl)
   simp only [Act.put, List.setIfInBounds_toArray, List.set_cons_zero, List.set_cons_succ]
   refine zy8 (by rfl) (f := 58) (args := #[.string ⟨D.toArray⟩]) (fun W hS => ?_) (fun W hS => ?_) ?_
   · (go_simp; done)
   · exact (zbz e3 hD W hS.gl).mono fun e w' ⟨h1, h2⟩ => ⟨h1, hS.keep h2⟩
   refine zda (by kernel_rfl) ?_
   refine zda (by kernel_rfl) ?_
   exact zy7 (by simp)
end Go.Proofs.YtelanmknimapoaaGreatDoor.Ob
