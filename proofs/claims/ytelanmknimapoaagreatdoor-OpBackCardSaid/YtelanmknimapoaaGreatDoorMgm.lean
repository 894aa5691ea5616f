/- Merged: ObL2 ObL3 ObL4. -/
import Derived.Test.YtelanmknimapoaaGreatDoorMgl
import Derived.Deep.DeepCutAuto
/- The law OpBack, where the first operation is one: a walk (2). -/
namespace Go.Proofs.YtelanmknimapoaaGreatDoor.Ob
open Go Go.RowKit Gf Re Re.AM
set_option linter.unusedVariables false
set_option linter.unusedSimpArgs false
set_option maxRecDepth 100000 in
set_option maxHeartbeats 3200000 in
theorem yeg (akd aus ac1 ar1 ac2 ar2 ard awr aow afns atos aidx : Int) (ainp : ByteArray) (X s : ByteArray) {v0 v1 v2 : Value}
 (HFA : (∀ W, Wo v0 v1 v2 W → Calls Tryz.prog 9 #[.agg #[.int .u8 akd, .int .i64 aus, .int .i64 ac1, .int .i64 ar1, .int .i64 ac2, .int .i64 ar2, .string ainp, .int .u64 ard, .int .u64 awr, .int .u64 aow, .int .u8 afns, .int .u64 atos, .int .i64 aidx]] W fun e w' => e = .returned (.tuple #[.string X, .int .i64 0]) ∧ Below W.heap.size W w')) (HCA : (∀ W, Calls Tryz.prog 11 #[.agg #[.int .u8 akd, .int .i64 aus, .int .i64 ac1, .int .i64 ar1, .int .i64 ac2, .int .i64 ar2, .string ainp, .int .u64 ard, .int .u64 awr, .int .u64 aow, .int .u8 afns, .int .u64 atos, .int .i64 aidx]] W fun e w' => e = .returned (.int .i64 0) ∧ Below W.heap.size W w')) (HPX : (∀ W, Wo v0 v1 v2 W → Calls Tryz.prog 17 #[.string X] W fun e w' => e = .returned (.tuple #[.agg #[.int .u8 akd, .int .i64 aus, .int .i64 ac1, .int .i64 ar1, .int .i64 ac2, .int .i64 ar2, .string ainp, .int .u64 ard, .int .u64 awr, .int .u64 aow, .int .u8 afns, .int .u64 atos, .int .i64 aidx], .int .i64 0]) ∧ Below W.heap.size W w')) (hpr : ∀ (k : Nat) (h : k < X.size), 32 ≤ (X[k].toNat : Int) ∧ (X[k].toNat : Int) ≤ 126) (hX : X.size ≤ 2000)
 (HPS : (∀ W, Wo v0 v1 v2 W → Calls Tryz.prog 17 #[.string s] W fun e w' => e = .returned (.tuple #[.agg #[.int .u8 0, .int .i64 0, .int .i64 0, .int .i64 0, .int .i64 0, .int .i64 0, .string ⟨#[]⟩, .int .u64 0, .int .u64 0, .int .u64 0, .int .u8 0, .int .u64 0, .int .i64 0], .int .i64 4]) ∧ Below W.heap.size W w')) (HK : (∀ W, Wo v0 v1 v2 W → Calls Tryz.prog 6 #[] W fun e w' => e = .returned (.bool true) ∧ Below W.heap.size W w'))
 (h1 : ainp.size ≤ 600) (h3 : s.size ≤ 1000) (w : World) (hw : Wo v0 v1 v2 w) : Calls Tryz.prog 5 #[.agg #[.int .u8 akd, .int .i64 aus, .int .i64 ac1, .int .i64 ar1, .int .i64 ac2, .int .i64 ar2, .string ainp, .int .u64 ard, .int .u64 awr, .int .u64 aow, .int .u8 afns, .int .u64 atos, .int .i64 aidx], .agg #[.int .u8 akd, .int .i64 aus, .int .i64 ac1, .int .i64 ar1, .int .i64 ac2, .int .i64 ar2, .string ainp, .int .u64 ard, .int .u64 awr, .int .u64 aow, .int .u8 afns, .int .u64 atos, .int .i64 aidx], .string s] w fun e w' => e = .returned (.bool true) ∧ Below w.heap.size w w' := by
 have FA := Lib.hid HFA
 have CA := Lib.hid HCA
 have PX := Lib.hid HPX
 have PS := Lib.hid HPS
 have HK' := Lib.hid HK
 have PR := Lib.hid hpr
 have HW := Lib.hid hw
 clear HFA HCA HPX HPS HK hpr hw
 have i1 : ¬ (ainp.size : Int) > 600 := by omega
 have i3 : ¬ (s.size : Int) > 1000 := by omega
 go_enter Tryz.func5, Tryz.ntmps5
 have l1 := below_alloc w (.cells #[.int .u8 akd, .int .i64 aus, .int .i64 ac1, .int .i64 ar1, .int .i64 ac2, .int .i64 ar2, .string ainp, .int .u64 ard, .int .u64 awr, .int .u64 aow, .int .u8 afns, .int .u64 atos, .int .i64 aidx] 28)
 have l2 := below_alloc (w.alloc (.cells #[.int .u8 akd, .int .i64 aus, .int .i64 ac1, .int .i64 ar1, .int .i64 ac2, .int .i64 ar2, .string ainp, .int .u64 ard, .int .u64 awr, .int .u64 aow, .int .u8 afns, .int .u64 atos, .int .i64 aidx] 28)) (.cells #[.int .u8 akd, .int .i64 aus, .int .i64 ac1, .int .i64 ar1, .int .i64 ac2, .int .i64 ar2, .string ainp, .int .u64 ard, .int .u64 awr, .int .u64 aow, .int .u8 afns, .int .u64 atos, .int .i64 aidx] 28)
 have BA := (At13.start w akd aus ac1 ar1 ac2 ar2 ard awr aow afns atos aidx ainp 28).later l2
 have BB := At13.start (w.alloc (.cells #[.int .u8 akd, .int .i64 aus, .int .i64 ac1, .int .i64 ar1, .int .i64 ac2, .int .i64 ar2, .string ainp, .int .u64 ard, .int .u64 awr, .int .u64 aow, .int .u8 afns, .int .u64 atos, .int .i64 aidx] 28)) akd aus ac1 ar1 ac2 ar2 ard awr aow afns atos aidx ainp 28
 rw [zb3] at BB
 have W0 := HW.out.later (Below.next l1 l2)
 have B0 := Below.next l1 l2
 go_wp2_with fail
 generalize (w.alloc (.cells #[.int .u8 akd, .int .i64 aus, .int .i64 ac1, .int .i64 ar1, .int .i64 ac2, .int .i64 ar2, .string ainp, .int .u64 ard, .int .u64 awr, .int .u64 aow, .int .u8 afns, .int .u64 atos, .int .i64 aidx] 28)).alloc (.cells #[.int .u8 akd, .int .i64 aus, .int .i64 ac1, .int .i64 ar1, .int .i64 ac2, .int .i64 ar2, .string ainp, .int .u64 ard, .int .u64 awr, .int .u64 aow, .int .u8 afns, .int .u64 atos, .int .i64 aidx] 28) = w2 at *
 replace BA := Lib.hid BA
 replace BB := Lib.hid BB
 replace W0 := Lib.hid W0
 replace B0 := Lib.hid B0
 clear l1 l2
 obtain ⟨al, a0, a1, a2, a3, a4, a5, a6, a7, a8, a9, a10, a11, a12⟩ := BA.out
 obtain ⟨bl, b0, b1, b2, b3, b4, b5, b6, b7, b8, b9, b10, b11, b12⟩ := BB.out
 refine (FA.out _ W0.out).mono ?_
 rintro e w3 ⟨rfl, hB⟩
 clear al a0 a1 a2 a3 a4 a5 a6 a7 a8 a9 a10 a11 a12 bl b0 b1 b2 b3 b4 b5 b6 b7 b8 b9 b10 b11 b12
 replace BA := Lib.hid (BA.out.later hB)
 replace BB := Lib.hid (BB.out.later hB)
 replace W0 := Lib.hid (W0.out.later hB)
 replace B0 := Lib.hid (Below.next B0.out hB)
 clear hB
 obtain ⟨al, a0, a1, a2, a3, a4, a5, a6, a7, a8, a9, a10, a11, a12⟩ := BA.out
 obtain ⟨bl, b0, b1, b2, b3, b4, b5, b6, b7, b8, b9, b10, b11, b12⟩ := BB.out
 go_wp2_with fail
 refine (FA.out _ W0.out).mono ?_
 rintro e w4 ⟨rfl, hB⟩
 clear al a0 a1 a2 a3 a4 a5 a6 a7 a8 a9 a10 a11 a12 bl b0 b1 b2 b3 b4 b5 b6 b7 b8 b9 b10 b11 b12
 replace BA := Lib.hid (BA.out.later hB)
 replace BB := Lib.hid (BB.out.later hB)
 replace W0 := Lib.hid (W0.out.later hB)
 replace B0 := Lib.hid (Below.next B0.out hB)
 clear hB
 obtain ⟨al, a0, a1, a2, a3, a4, a5, a6, a7, a8, a9, a10, a11, a12⟩ := BA.out
 obtain ⟨bl, b0, b1, b2, b3, b4, b5, b6, b7, b8, b9, b10, b11, b12⟩ := BB.out
 go_wp2_with fail
 refine (CA.out _).mono ?_
 rintro e w5 ⟨rfl, hB⟩
 clear al a0 a1 a2 a3 a4 a5 a6 a7 a8 a9 a10 a11 a12 bl b0 b1 b2 b3 b4 b5 b6 b7 b8 b9 b10 b11 b12
 replace BA := Lib.hid (BA.out.later hB)
 replace BB := Lib.hid (BB.out.later hB)
 replace W0 := Lib.hid (W0.out.later hB)
 replace B0 := Lib.hid (Below.next B0.out hB)
 clear hB
 obtain ⟨al, a0, a1, a2, a3, a4, a5, a6, a7, a8, a9, a10, a11, a12⟩ := BA.out
 obtain ⟨bl, b0, b1, b2, b3, b4, b5, b6, b7, b8, b9, b10, b11, b12⟩ := BB.out
 go_wp2_with fail
 refine (PX.out _ W0.out).mono ?_
 rintro e w6 ⟨rfl, hB⟩
 clear al a0 a1 a2 a3 a4 a5 a6 a7 a8 a9 a10 a11 a12 bl b0 b1 b2 b3 b4 b5 b6 b7 b8 b9 b10 b11 b12
 replace BA := Lib.hid (BA.out.later hB)
 replace BB := Lib.hid (BB.out.later hB)
 replace W0 := Lib.hid (W0.out.later hB)
 replace B0 := Lib.hid (Below.next B0.out hB)
 clear hB
 obtain ⟨al, a0, a1, a2, a3, a4, a5, a6, a7, a8, a9, a10, a11, a12⟩ := BA.out
 obtain ⟨bl, b0, b1, b2, b3, b4, b5, b6, b7, b8, b9, b10, b11, b12⟩ := BB.out
 go_wp2_with fail
 clear al a0 a1 a2 a3 a4 a5 a6 a7 a8 a9 a10 a11 a12 bl b0 b1 b2 b3 b4 b5 b6 b7 b8 b9 b10 b11 b12
 have l7 := below_alloc w6 (.cells #[.int .u8 akd, .int .i64 aus, .int .i64 ac1, .int .i64 ar1, .int .i64 ac2, .int .i64 ar2, .string ainp, .int .u64 ard, .int .u64 awr, .int .u64 aow, .int .u8 afns, .int .u64 atos, .int .i64 aidx] 28)
 replace BA := Lib.hid (BA.out.later l7)
 replace BB := Lib.hid (BB.out.later l7)
 replace W0 := Lib.hid (W0.out.later l7)
 replace B0 := Lib.hid (Below.next B0.out l7)
 clear l7
 generalize w6.alloc (.cells #[.int .u8 akd, .int .i64 aus, .int .i64 ac1, .int .i64 ar1, .int .i64 ac2, .int .i64 ar2, .string ainp, .int .u64 ard, .int .u64 awr, .int .u64 aow, .int .u8 afns, .int .u64 atos, .int .i64 aidx] 28) = w7 at *
 generalize w6.heap.size = p11 at *
 obtain ⟨al, a0, a1, a2, a3, a4, a5, a6, a7, a8, a9, a10, a11, a12⟩ := BA.out
 obtain ⟨bl, b0, b1, b2, b3, b4, b5, b6, b7, b8, b9, b10, b11, b12⟩ := BB.out
 go_loop [13] (fun i => ∃ k : Nat, k ≤ X.size ∧ i = .int .i64 k) (fun i => X.size - (intOf i).toNat)
 case atStart => exact ⟨0, Nat.zero_le _, rfl⟩
 case round =>
  obtain ⟨k, hk, rfl⟩ := hrel
  by_cases hlt : k < X.size
  · obtain ⟨q1, q2⟩ := PR.out k hlt
    go_wp2_with fail
    go_round
    case rel => exact ⟨k + 1, by omega, by go_num⟩
    case measure => simp [intOf]; omega
  · obtain rfl : k = X.size := by omega
    clear hlt hk
    go_wp2_with fail
    refine (PS.out _ W0.out).mono ?_
    rintro e w8 ⟨rfl, hB⟩
    clear al a0 a1 a2 a3 a4 a5 a6 a7 a8 a9 a10 a11 a12 bl b0 b1 b2 b3 b4 b5 b6 b7 b8 b9 b10 b11 b12
    replace BA := Lib.hid (BA.out.later hB)
    replace BB := Lib.hid (BB.out.later hB)
    replace W0 := Lib.hid (W0.out.later hB)
    replace B0 := Lib.hid (Below.next B0.out hB)
    clear hB
    go_wp2_with fail
    have l9 := below_alloc w8 (.cells #[.int .u8 0, .int .i64 0, .int .i64 0, .int .i64 0, .int .i64 0, .int .i64 0, .string ⟨#[]⟩, .int .u64 0, .int .u64 0, .int .u64 0, .int .u8 0, .int .u64 0, .int .i64 0] 28)
    replace BA := Lib.hid (BA.out.later l9)
    replace BB := Lib.hid (BB.out.later l9)
    replace W0 := Lib.hid (W0.out.later l9)
    replace B0 := Lib.hid (Below.next B0.out l9)
    clear l9
    refine (HK'.out _ W0.out).mono ?_
    rintro e w9 ⟨rfl, hB⟩
    replace BA := Lib.hid (BA.out.later hB)
    replace BB := Lib.hid (BB.out.later hB)
    replace W0 := Lib.hid (W0.out.later hB)
    replace B0 := Lib.hid (Below.next B0.out hB)
    clear hB
    go_wp2_with fail
    go_ret
    exact ⟨rfl, B0.out⟩
set_option maxRecDepth 100000 in
set_option maxHeartbeats 3200000 in
theorem yef (akd aus ac1 ar1 ac2 ar2 ard awr aow afns atos aidx : Int) (ainp : ByteArray) (ckd cus cc1 cr1 cc2 cr2 crd cwr cow cfns ctos cidx : Int) (cinp : ByteArray) (X s : ByteArray) {v0 v1 v2 : Value}
 (HFA : (∀ W, Wo v0 v1 v2 W → Calls Tryz.prog 9 #[.agg #[.int .u8 akd, .int .i64 aus, .int .i64 ac1, .int .i64 ar1, .int .i64 ac2, .int .i64 ar2, .string ainp, .int .u64 ard, .int .u64 awr, .int .u64 aow, .int .u8 afns, .int .u64 atos, .int .i64 aidx]] W fun e w' => e = .returned (.tuple #[.string X, .int .i64 0]) ∧ Below W.heap.size W w')) (HCA : (∀ W, Calls Tryz.prog 11 #[.agg #[.int .u8 akd, .int .i64 aus, .int .i64 ac1, .int .i64 ar1, .int .i64 ac2, .int .i64 ar2, .string ainp, .int .u64 ard, .int .u64 awr, .int .u64 aow, .int .u8 afns, .int .u64 atos, .int .i64 aidx]] W fun e w' => e = .returned (.int .i64 0) ∧ Below W.heap.size W w')) (HPX : (∀ W, Wo v0 v1 v2 W → Calls Tryz.prog 17 #[.string X] W fun e w' => e = .returned (.tuple #[.agg #[.int .u8 akd, .int .i64 aus, .int .i64 ac1, .int .i64 ar1, .int .i64 ac2, .int .i64 ar2, .string ainp, .int .u64 ard, .int .u64 awr, .int .u64 aow, .int .u8 afns, .int .u64 atos, .int .i64 aidx], .int .i64 0]) ∧ Below W.heap.size W w')) (hpr : ∀ (k : Nat) (h : k < X.size), 32 ≤ (X[k].toNat : Int) ∧ (X[k].toNat : Int) ≤ 126) (hX : X.size ≤ 2000)
 (HPS : (∀ W, Wo v0 v1 v2 W → Calls Tryz.prog 17 #[.string s] W fun e w' => e = .returned (.tuple #[.agg #[.int .u8 ckd, .int .i64 cus, .int .i64 cc1, .int .i64 cr1, .int .i64 cc2, .int .i64 cr2, .string cinp, .int .u64 crd, .int .u64 cwr, .int .u64 cow, .int .u8 cfns, .int .u64 ctos, .int .i64 cidx], .int .i64 0]) ∧ Below W.heap.size W w')) (HK : (∀ W, Wo v0 v1 v2 W → Calls Tryz.prog 6 #[] W fun e w' => e = .returned (.bool true) ∧ Below W.heap.size W w'))
 (HFC : (∀ W, Wo v0 v1 v2 W → Calls Tryz.prog 9 #[.agg #[.int .u8 ckd, .int .i64 cus, .int .i64 cc1, .int .i64 cr1, .int .i64 cc2, .int .i64 cr2, .string cinp, .int .u64 crd, .int .u64 cwr, .int .u64 cow, .int .u8 cfns, .int .u64 ctos, .int .i64 cidx]] W fun e w' => e = .returned (.tuple #[.string s, .int .i64 0]) ∧ Below W.heap.size W w')) (HCC : (∀ W, Calls Tryz.prog 11 #[.agg #[.int .u8 ckd, .int .i64 cus, .int .i64 cc1, .int .i64 cr1, .int .i64 cc2, .int .i64 cr2, .string cinp, .int .u64 crd, .int .u64 cwr, .int .u64 cow, .int .u8 cfns, .int .u64 ctos, .int .i64 cidx]] W fun e w' => e = .returned (.int .i64 0) ∧ Below W.heap.size W w'))
 (h1 : ainp.size ≤ 600) (h3 : s.size ≤ 1000) (w : World) (hw : Wo v0 v1 v2 w) : Calls Tryz.prog 5 #[.agg #[.int .u8 akd, .int .i64 aus, .int .i64 ac1, .int .i64 ar1, .int .i64 ac2, .int .i64 ar2, .string ainp, .int .u64 ard, .int .u64 awr, .int .u64 aow, .int .u8 afns, .int .u64 atos, .int .i64 aidx], .agg #[.int .u8 akd, .int .i64 aus, .int .i64 ac1, .int .i64 ar1, .int .i64 ac2, .int .i64 ar2, .string ainp, .int .u64 ard, .int .u64 awr, .int .u64 aow, .int .u8 afns, .int .u64 atos, .int .i64 aidx], .string s] w fun e w' => e = .returned (.bool true) ∧ Below w.heap.size w w' := by
 have FA := Lib.hid HFA
 have CA := Lib.hid HCA
 have PX := Lib.hid HPX
 have PS := Lib.hid HPS
 have HK' := Lib.hid HK
 have PR := Lib.hid hpr
 have HW := Lib.hid hw
 have FC := Lib.hid HFC
 have CC := Lib.hid HCC
 clear HFA HCA HPX HPS HK hpr hw HFC HCC
 have i1 : ¬ (ainp.size : Int) > 600 := by omega
 have i3 : ¬ (s.size : Int) > 1000 := by omega
 go_enter Tryz.func5, Tryz.ntmps5
 have l1 := below_alloc w (.cells #[.int .u8 akd, .int .i64 aus, .int .i64 ac1, .int .i64 ar1, .int .i64 ac2, .int .i64 ar2, .string ainp, .int .u64 ard, .int .u64 awr, .int .u64 aow, .int .u8 afns, .int .u64 atos, .int .i64 aidx] 28)
 have l2 := below_alloc (w.alloc (.cells #[.int .u8 akd, .int .i64 aus, .int .i64 ac1, .int .i64 ar1, .int .i64 ac2, .int .i64 ar2, .string ainp, .int .u64 ard, .int .u64 awr, .int .u64 aow, .int .u8 afns, .int .u64 atos, .int .i64 aidx] 28)) (.cells #[.int .u8 akd, .int .i64 aus, .int .i64 ac1, .int .i64 ar1, .int .i64 ac2, .int .i64 ar2, .string ainp, .int .u64 ard, .int .u64 awr, .int .u64 aow, .int .u8 afns, .int .u64 atos, .int .i64 aidx] 28)
 have BA := (At13.start w akd aus ac1 ar1 ac2 ar2 ard awr aow afns atos aidx ainp 28).later l2
 have BB := At13.start (w.alloc (.cells #[.int .u8 akd, .int .i64 aus, .int .i64 ac1, .int .i64 ar1, .int .i64 ac2, .int .i64 ar2, .string ainp, .int .u64 ard, .int .u64 awr, .int .u64 aow, .int .u8 afns, .int .u64 atos, .int .i64 aidx] 28)) akd aus ac1 ar1 ac2 ar2 ard awr aow afns atos aidx ainp 28
 rw [zb3] at BB
 have W0 := HW.out.later (Below.next l1 l2)
 have B0 := Below.next l1 l2
 go_wp2_with fail
 generalize (w.alloc (.cells #[.int .u8 akd, .int .i64 aus, .int .i64 ac1, .int .i64 ar1, .int .i64 ac2, .int .i64 ar2, .string ainp, .int .u64 ard, .int .u64 awr, .int .u64 aow, .int .u8 afns, .int .u64 atos, .int .i64 aidx] 28)).alloc (.cells #[.int .u8 akd, .int .i64 aus, .int .i64 ac1, .int .i64 ar1, .int .i64 ac2, .int .i64 ar2, .string ainp, .int .u64 ard, .int .u64 awr, .int .u64 aow, .int .u8 afns, .int .u64 atos, .int .i64 aidx] 28) = w2 at *
 replace BA := Lib.hid BA
 replace BB := Lib.hid BB
 replace W0 := Lib.hid W0
 replace B0 := Lib.hid B0
 clear l1 l2
 obtain ⟨al, a0, a1, a2, a3, a4, a5, a6, a7, a8, a9, a10, a11, a12⟩ := BA.out
 obtain ⟨bl, b0, b1, b2, b3, b4, b5, b6, b7, b8, b9, b10, b11, b12⟩ := BB.out
 refine (FA.out _ W0.out).mono ?_
 rintro e w3 ⟨rfl, hB⟩
 clear al a0 a1 a2 a3 a4 a5 a6 a7 a8 a9 a10 a11 a12 bl b0 b1 b2 b3 b4 b5 b6 b7 b8 b9 b10 b11 b12
 replace BA := Lib.hid (BA.out.later hB)
 replace BB := Lib.hid (BB.out.later hB)
 replace W0 := Lib.hid (W0.out.later hB)
 replace B0 := Lib.hid (Below.next B0.out hB)
 clear hB
 obtain ⟨al, a0, a1, a2, a3, a4, a5, a6, a7, a8, a9, a10, a11, a12⟩ := BA.out
 obtain ⟨bl, b0, b1, b2, b3, b4, b5, b6, b7, b8, b9, b10, b11, b12⟩ := BB.out
 go_wp2_with fail
 refine (FA.out _ W0.out).mono ?_
 rintro e w4 ⟨rfl, hB⟩
 clear al a0 a1 a2 a3 a4 a5 a6 a7 a8 a9 a10 a11 a12 bl b0 b1 b2 b3 b4 b5 b6 b7 b8 b9 b10 b11 b12
 replace BA := Lib.hid (BA.out.later hB)
 replace BB := Lib.hid (BB.out.later hB)
 replace W0 := Lib.hid (W0.out.later hB)
 replace B0 := Lib.hid (Below.next B0.out hB)
 clear hB
 obtain ⟨al, a0, a1, a2, a3, a4, a5, a6, a7, a8, a9, a10, a11, a12⟩ := BA.out
 obtain ⟨bl, b0, b1, b2, b3, b4, b5, b6, b7, b8, b9, b10, b11, b12⟩ := BB.out
 go_wp2_with fail
 refine (CA.out _).mono ?_
 rintro e w5 ⟨rfl, hB⟩
 clear al a0 a1 a2 a3 a4 a5 a6 a7 a8 a9 a10 a11 a12 bl b0 b1 b2 b3 b4 b5 b6 b7 b8 b9 b10 b11 b12
 replace BA := Lib.hid (BA.out.later hB)
 replace BB := Lib.hid (BB.out.later hB)
 replace W0 := Lib.hid (W0.out.later hB)
 replace B0 := Lib.hid (Below.next B0.out hB)
 clear hB
 obtain ⟨al, a0, a1, a2, a3, a4, a5, a6, a7, a8, a9, a10, a11, a12⟩ := BA.out
 obtain ⟨bl, b0, b1, b2, b3, b4, b5, b6, b7, b8, b9, b10, b11, b12⟩ := BB.out
 go_wp2_with fail
 refine (PX.out _ W0.out).mono ?_
 rintro e w6 ⟨rfl, hB⟩
 clear al a0 a1 a2 a3 a4 a5 a6 a7 a8 a9 a10 a11 a12 bl b0 b1 b2 b3 b4 b5 b6 b7 b8 b9 b10 b11 b12
 replace BA := Lib.hid (BA.out.later hB)
 replace BB := Lib.hid (BB.out.later hB)
 replace W0 := Lib.hid (W0.out.later hB)
 replace B0 := Lib.hid (Below.next B0.out hB)
 clear hB
 obtain ⟨al, a0, a1, a2, a3, a4, a5, a6, a7, a8, a9, a10, a11, a12⟩ := BA.out
 obtain ⟨bl, b0, b1, b2, b3, b4, b5, b6, b7, b8, b9, b10, b11, b12⟩ := BB.out
 go_wp2_with fail
 clear al a0 a1 a2 a3 a4 a5 a6 a7 a8 a9 a10 a11 a12 bl b0 b1 b2 b3 b4 b5 b6 b7 b8 b9 b10 b11 b12
 have l7 := below_alloc w6 (.cells #[.int .u8 akd, .int .i64 aus, .int .i64 ac1, .int .i64 ar1, .int .i64 ac2, .int .i64 ar2, .string ainp, .int .u64 ard, .int .u64 awr, .int .u64 aow, .int .u8 afns, .int .u64 atos, .int .i64 aidx] 28)
 replace BA := Lib.hid (BA.out.later l7)
 replace BB := Lib.hid (BB.out.later l7)
 replace W0 := Lib.hid (W0.out.later l7)
 replace B0 := Lib.hid (Below.next B0.out l7)
 clear l7
 generalize w6.alloc (.cells #[.int .u8 akd, .int .i64 aus, .int .i64 ac1, .int .i64 ar1, .int .i64 ac2, .int .i64 ar2, .string ainp, .int .u64 ard, .int .u64 awr, .int .u64 aow, .int .u8 afns, .int .u64 atos, .int .i64 aidx] 28) = w7 at *
 generalize w6.heap.size = p11 at *
 obtain ⟨al, a0, a1, a2, a3, a4, a5, a6, a7, a8, a9, a10, a11, a12⟩ := BA.out
 obtain ⟨bl, b0, b1, b2, b3, b4, b5, b6, b7, b8, b9, b10, b11, b12⟩ := BB.out
 go_loop [13] (fun i => ∃ k : Nat, k ≤ X.size ∧ i = .int .i64 k) (fun i => X.size - (intOf i).toNat)
 case atStart => exact ⟨0, Nat.zero_le _, rfl⟩
 case round =>
  obtain ⟨k, hk, rfl⟩ := hrel
  by_cases hlt : k < X.size
  · obtain ⟨q1, q2⟩ := PR.out k hlt
    go_wp2_with fail
    go_round
    case rel => exact ⟨k + 1, by omega, by go_num⟩
    case measure => simp [intOf]; omega
  · obtain rfl : k = X.size := by omega
    clear hlt hk
    go_wp2_with fail
    refine (PS.out _ W0.out).mono ?_
    rintro e w8 ⟨rfl, hB⟩
    clear al a0 a1 a2 a3 a4 a5 a6 a7 a8 a9 a10 a11 a12 bl b0 b1 b2 b3 b4 b5 b6 b7 b8 b9 b10 b11 b12
    replace BA := Lib.hid (BA.out.later hB)
    replace BB := Lib.hid (BB.out.later hB)
    replace W0 := Lib.hid (W0.out.later hB)
    replace B0 := Lib.hid (Below.next B0.out hB)
    clear hB
    go_wp2_with fail
    have l9 := below_alloc w8 (.cells #[.int .u8 ckd, .int .i64 cus, .int .i64 cc1, .int .i64 cr1, .int .i64 cc2, .int .i64 cr2, .string cinp, .int .u64 crd, .int .u64 cwr, .int .u64 cow, .int .u8 cfns, .int .u64 ctos, .int .i64 cidx] 28)
    have BC := At13.start w8 ckd cus cc1 cr1 cc2 cr2 crd cwr cow cfns ctos cidx cinp 28
    replace W0 := Lib.hid (W0.out.later l9)
    replace B0 := Lib.hid (Below.next B0.out l9)
    clear l9
    generalize w8.alloc (.cells #[.int .u8 ckd, .int .i64 cus, .int .i64 cc1, .int .i64 cr1, .int .i64 cc2, .int .i64 cr2, .string cinp, .int .u64 crd, .int .u64 cwr, .int .u64 cow, .int .u8 cfns, .int .u64 ctos, .int .i64 cidx] 28) = w9 at *
    generalize w8.heap.size = p14 at *
    clear BA BB
    replace BC := Lib.hid BC
    refine (FC.out _ W0.out).mono ?_
    rintro e w10 ⟨rfl, hB⟩
    replace BC := Lib.hid (BC.out.later hB)
    replace W0 := Lib.hid (W0.out.later hB)
    replace B0 := Lib.hid (Below.next B0.out hB)
    clear hB
    obtain ⟨cl, c0, c1, c2, c3, c4, c5, c6, c7, c8, c9, c10, c11, c12⟩ := BC.out
    go_wp2_with fail
    clear cl c0 c1 c2 c3 c4 c5 c6 c7 c8 c9 c10 c11 c12
    refine (CC.out _).mono ?_
    rintro e w11 ⟨rfl, hB⟩
    replace BC := Lib.hid (BC.out.later hB)
    replace W0 := Lib.hid (W0.out.later hB)
    replace B0 := Lib.hid (Below.next B0.out hB)
    clear hB
    obtain ⟨cl, c0, c1, c2, c3, c4, c5, c6, c7, c8, c9, c10, c11, c12⟩ := BC.out
    go_wp2_with fail
    clear cl c0 c1 c2 c3 c4 c5 c6 c7 c8 c9 c10 c11 c12
    refine (HK'.out _ W0.out).mono ?_
    rintro e w12 ⟨rfl, hB⟩
    replace BC := Lib.hid (BC.out.later hB)
    replace W0 := Lib.hid (W0.out.later hB)
    replace B0 := Lib.hid (Below.next B0.out hB)
    clear hB
    obtain ⟨cl, c0, c1, c2, c3, c4, c5, c6, c7, c8, c9, c10, c11, c12⟩ := BC.out
    go_wp2_with fail
    clear cl c0 c1 c2 c3 c4 c5 c6 c7 c8 c9 c10 c11 c12
    go_ret
    exact ⟨rfl, B0.out⟩
end Go.Proofs.YtelanmknimapoaaGreatDoor.Ob
/- The law OpBack, where the first operation is one: a walk (3). -/
namespace Go.Proofs.YtelanmknimapoaaGreatDoor.Ob
open Go Go.RowKit Gf Re Re.AM
set_option linter.unusedVariables false
set_option linter.unusedSimpArgs false
set_option maxRecDepth 100000 in
set_option maxHeartbeats 3200000 in
theorem yek (akd aus ac1 ar1 ac2 ar2 ard awr aow afns atos aidx : Int) (ainp : ByteArray) (bkd bus bc1 br1 bc2 br2 brd bwr bow bfns btos bidx : Int) (binp : ByteArray) (X Y s : ByteArray) {v0 v1 v2 : Value}
 (HFA : (∀ W, Wo v0 v1 v2 W → Calls Tryz.prog 9 #[.agg #[.int .u8 akd, .int .i64 aus, .int .i64 ac1, .int .i64 ar1, .int .i64 ac2, .int .i64 ar2, .string ainp, .int .u64 ard, .int .u64 awr, .int .u64 aow, .int .u8 afns, .int .u64 atos, .int .i64 aidx]] W fun e w' => e = .returned (.tuple #[.string X, .int .i64 0]) ∧ Below W.heap.size W w')) (HCA : (∀ W, Calls Tryz.prog 11 #[.agg #[.int .u8 akd, .int .i64 aus, .int .i64 ac1, .int .i64 ar1, .int .i64 ac2, .int .i64 ar2, .string ainp, .int .u64 ard, .int .u64 awr, .int .u64 aow, .int .u8 afns, .int .u64 atos, .int .i64 aidx]] W fun e w' => e = .returned (.int .i64 0) ∧ Below W.heap.size W w')) (HPX : (∀ W, Wo v0 v1 v2 W → Calls Tryz.prog 17 #[.string X] W fun e w' => e = .returned (.tuple #[.agg #[.int .u8 akd, .int .i64 aus, .int .i64 ac1, .int .i64 ar1, .int .i64 ac2, .int .i64 ar2, .string ainp, .int .u64 ard, .int .u64 awr, .int .u64 aow, .int .u8 afns, .int .u64 atos, .int .i64 aidx], .int .i64 0]) ∧ Below W.heap.size W w')) (hpr : ∀ (k : Nat) (h : k < X.size), 32 ≤ (X[k].toNat : Int) ∧ (X[k].toNat : Int) ≤ 126) (hX : X.size ≤ 2000)
 (HFB : (∀ W, Wo v0 v1 v2 W → Calls Tryz.prog 9 #[.agg #[.int .u8 bkd, .int .i64 bus, .int .i64 bc1, .int .i64 br1, .int .i64 bc2, .int .i64 br2, .string binp, .int .u64 brd, .int .u64 bwr, .int .u64 bow, .int .u8 bfns, .int .u64 btos, .int .i64 bidx]] W fun e w' => e = .returned (.tuple #[.string Y, .int .i64 0]) ∧ Below W.heap.size W w'))
 (hxy : (X.toList == Y.toList) = false) (hne : ¬ (akd = bkd ∧ aus = bus ∧ ac1 = bc1 ∧ ar1 = br1 ∧ ac2 = bc2 ∧ ar2 = br2 ∧ ainp = binp ∧ ard = brd ∧ awr = bwr ∧ aow = bow ∧ afns = bfns ∧ atos = btos ∧ aidx = bidx))
 (HPS : (∀ W, Wo v0 v1 v2 W → Calls Tryz.prog 17 #[.string s] W fun e w' => e = .returned (.tuple #[.agg #[.int .u8 0, .int .i64 0, .int .i64 0, .int .i64 0, .int .i64 0, .int .i64 0, .string ⟨#[]⟩, .int .u64 0, .int .u64 0, .int .u64 0, .int .u8 0, .int .u64 0, .int .i64 0], .int .i64 4]) ∧ Below W.heap.size W w')) (HK : (∀ W, Wo v0 v1 v2 W → Calls Tryz.prog 6 #[] W fun e w' => e = .returned (.bool true) ∧ Below W.heap.size W w'))
 (h1 : ainp.size ≤ 600) (h2 : binp.size ≤ 600) (h3 : s.size ≤ 1000) (w : World) (hw : Wo v0 v1 v2 w) : Calls Tryz.prog 5 #[.agg #[.int .u8 akd, .int .i64 aus, .int .i64 ac1, .int .i64 ar1, .int .i64 ac2, .int .i64 ar2, .string ainp, .int .u64 ard, .int .u64 awr, .int .u64 aow, .int .u8 afns, .int .u64 atos, .int .i64 aidx], .agg #[.int .u8 bkd, .int .i64 bus, .int .i64 bc1, .int .i64 br1, .int .i64 bc2, .int .i64 br2, .string binp, .int .u64 brd, .int .u64 bwr, .int .u64 bow, .int .u8 bfns, .int .u64 btos, .int .i64 bidx], .string s] w fun e w' => e = .returned (.bool true) ∧ Below w.heap.size w w' := by
 have FA := Lib.hid HFA
 have FB := Lib.hid HFB
 have CA := Lib.hid HCA
 have PX := Lib.hid HPX
 have PS := Lib.hid HPS
 have HK' := Lib.hid HK
 have PR := Lib.hid hpr
 have HW := Lib.hid hw
 have NE := Lib.hid hne
 clear HFA HFB HCA HPX HPS HK hpr hw hne
 have i1 : ¬ (ainp.size : Int) > 600 := by omega
 have i2 : ¬ (binp.size : Int) > 600 := by omega
 have i3 : ¬ (s.size : Int) > 1000 := by omega
 go_enter Tryz.func5, Tryz.ntmps5
 have l1 := below_alloc w (.cells #[.int .u8 akd, .int .i64 aus, .int .i64 ac1, .int .i64 ar1, .int .i64 ac2, .int .i64 ar2, .string ainp, .int .u64 ard, .int .u64 awr, .int .u64 aow, .int .u8 afns, .int .u64 atos, .int .i64 aidx] 28)
 have l2 := below_alloc (w.alloc (.cells #[.int .u8 akd, .int .i64 aus, .int .i64 ac1, .int .i64 ar1, .int .i64 ac2, .int .i64 ar2, .string ainp, .int .u64 ard, .int .u64 awr, .int .u64 aow, .int .u8 afns, .int .u64 atos, .int .i64 aidx] 28)) (.cells #[.int .u8 bkd, .int .i64 bus, .int .i64 bc1, .int .i64 br1, .int .i64 bc2, .int .i64 br2, .string binp, .int .u64 brd, .int .u64 bwr, .int .u64 bow, .int .u8 bfns, .int .u64 btos, .int .i64 bidx] 28)
 have BA := (At13.start w akd aus ac1 ar1 ac2 ar2 ard awr aow afns atos aidx ainp 28).later l2
 have BB := At13.start (w.alloc (.cells #[.int .u8 akd, .int .i64 aus, .int .i64 ac1, .int .i64 ar1, .int .i64 ac2, .int .i64 ar2, .string ainp, .int .u64 ard, .int .u64 awr, .int .u64 aow, .int .u8 afns, .int .u64 atos, .int .i64 aidx] 28)) bkd bus bc1 br1 bc2 br2 brd bwr bow bfns btos bidx binp 28
 rw [zb3] at BB
 have W0 := HW.out.later (Below.next l1 l2)
 have B0 := Below.next l1 l2
 go_wp2_with fail
 generalize (w.alloc (.cells #[.int .u8 akd, .int .i64 aus, .int .i64 ac1, .int .i64 ar1, .int .i64 ac2, .int .i64 ar2, .string ainp, .int .u64 ard, .int .u64 awr, .int .u64 aow, .int .u8 afns, .int .u64 atos, .int .i64 aidx] 28)).alloc (.cells #[.int .u8 bkd, .int .i64 bus, .int .i64 bc1, .int .i64 br1, .int .i64 bc2, .int .i64 br2, .string binp, .int .u64 brd, .int .u64 bwr, .int .u64 bow, .int .u8 bfns, .int .u64 btos, .int .i64 bidx] 28) = w2 at *
 replace BA := Lib.hid BA
 replace BB := Lib.hid BB
 replace W0 := Lib.hid W0
 replace B0 := Lib.hid B0
 clear l1 l2
 obtain ⟨al, a0, a1, a2, a3, a4, a5, a6, a7, a8, a9, a10, a11, a12⟩ := BA.out
 obtain ⟨bl, b0, b1, b2, b3, b4, b5, b6, b7, b8, b9, b10, b11, b12⟩ := BB.out
 refine (FA.out _ W0.out).mono ?_
 rintro e w3 ⟨rfl, hB⟩
 clear al a0 a1 a2 a3 a4 a5 a6 a7 a8 a9 a10 a11 a12 bl b0 b1 b2 b3 b4 b5 b6 b7 b8 b9 b10 b11 b12
 replace BA := Lib.hid (BA.out.later hB)
 replace BB := Lib.hid (BB.out.later hB)
 replace W0 := Lib.hid (W0.out.later hB)
 replace B0 := Lib.hid (Below.next B0.out hB)
 clear hB
 obtain ⟨al, a0, a1, a2, a3, a4, a5, a6, a7, a8, a9, a10, a11, a12⟩ := BA.out
 obtain ⟨bl, b0, b1, b2, b3, b4, b5, b6, b7, b8, b9, b10, b11, b12⟩ := BB.out
 go_wp2_with fail
 refine (FB.out _ W0.out).mono ?_
 rintro e w4 ⟨rfl, hB⟩
 clear al a0 a1 a2 a3 a4 a5 a6 a7 a8 a9 a10 a11 a12 bl b0 b1 b2 b3 b4 b5 b6 b7 b8 b9 b10 b11 b12
 replace BA := Lib.hid (BA.out.later hB)
 replace BB := Lib.hid (BB.out.later hB)
 replace W0 := Lib.hid (W0.out.later hB)
 replace B0 := Lib.hid (Below.next B0.out hB)
 clear hB
 obtain ⟨al, a0, a1, a2, a3, a4, a5, a6, a7, a8, a9, a10, a11, a12⟩ := BA.out
 obtain ⟨bl, b0, b1, b2, b3, b4, b5, b6, b7, b8, b9, b10, b11, b12⟩ := BB.out
 go_wp2_with fail
 refine (CA.out _).mono ?_
 rintro e w5 ⟨rfl, hB⟩
 clear al a0 a1 a2 a3 a4 a5 a6 a7 a8 a9 a10 a11 a12 bl b0 b1 b2 b3 b4 b5 b6 b7 b8 b9 b10 b11 b12
 replace BA := Lib.hid (BA.out.later hB)
 replace BB := Lib.hid (BB.out.later hB)
 replace W0 := Lib.hid (W0.out.later hB)
 replace B0 := Lib.hid (Below.next B0.out hB)
 clear hB
 obtain ⟨al, a0, a1, a2, a3, a4, a5, a6, a7, a8, a9, a10, a11, a12⟩ := BA.out
 obtain ⟨bl, b0, b1, b2, b3, b4, b5, b6, b7, b8, b9, b10, b11, b12⟩ := BB.out
 go_wp2_with fail
 refine (PX.out _ W0.out).mono ?_
 rintro e w6 ⟨rfl, hB⟩
 clear al a0 a1 a2 a3 a4 a5 a6 a7 a8 a9 a10 a11 a12 bl b0 b1 b2 b3 b4 b5 b6 b7 b8 b9 b10 b11 b12
 replace BA := Lib.hid (BA.out.later hB)
 replace BB := Lib.hid (BB.out.later hB)
 replace W0 := Lib.hid (W0.out.later hB)
 replace B0 := Lib.hid (Below.next B0.out hB)
 clear hB
 obtain ⟨al, a0, a1, a2, a3, a4, a5, a6, a7, a8, a9, a10, a11, a12⟩ := BA.out
 obtain ⟨bl, b0, b1, b2, b3, b4, b5, b6, b7, b8, b9, b10, b11, b12⟩ := BB.out
 go_wp2_with fail
 clear al a0 a1 a2 a3 a4 a5 a6 a7 a8 a9 a10 a11 a12 bl b0 b1 b2 b3 b4 b5 b6 b7 b8 b9 b10 b11 b12
 have l7 := below_alloc w6 (.cells #[.int .u8 akd, .int .i64 aus, .int .i64 ac1, .int .i64 ar1, .int .i64 ac2, .int .i64 ar2, .string ainp, .int .u64 ard, .int .u64 awr, .int .u64 aow, .int .u8 afns, .int .u64 atos, .int .i64 aidx] 28)
 replace BA := Lib.hid (BA.out.later l7)
 replace BB := Lib.hid (BB.out.later l7)
 replace W0 := Lib.hid (W0.out.later l7)
 replace B0 := Lib.hid (Below.next B0.out l7)
 clear l7
 generalize w6.alloc (.cells #[.int .u8 akd, .int .i64 aus, .int .i64 ac1, .int .i64 ar1, .int .i64 ac2, .int .i64 ar2, .string ainp, .int .u64 ard, .int .u64 awr, .int .u64 aow, .int .u8 afns, .int .u64 atos, .int .i64 aidx] 28) = w7 at *
 generalize w6.heap.size = p11 at *
 obtain ⟨al, a0, a1, a2, a3, a4, a5, a6, a7, a8, a9, a10, a11, a12⟩ := BA.out
 obtain ⟨bl, b0, b1, b2, b3, b4, b5, b6, b7, b8, b9, b10, b11, b12⟩ := BB.out
 go_loop [13] (fun i => ∃ k : Nat, k ≤ X.size ∧ i = .int .i64 k) (fun i => X.size - (intOf i).toNat)
 case atStart => exact ⟨0, Nat.zero_le _, rfl⟩
 case round =>
  obtain ⟨k, hk, rfl⟩ := hrel
  by_cases hlt : k < X.size
  · obtain ⟨q1, q2⟩ := PR.out k hlt
    go_wp2_with fail
    go_round
    case rel => exact ⟨k + 1, by omega, by go_num⟩
    case measure => simp [intOf]; omega
  · obtain rfl : k = X.size := by omega
    clear hlt hk
    go_upto_region 16 with (fail)
    go_cut [102] (fun z wx => z = .bool false ∧ wx = w7)
    case first =>
     go_wp2_with fail
     all_goals
      subst_vars
      go_meet
      case rel => first | exact ⟨rfl, rfl⟩ | (exfalso; exact NE.out ⟨rfl, rfl, rfl, rfl, rfl, rfl, (by first | rfl | exact tle (by assumption) | exact tlb (by assumption) | exact tlb (by simp_all)), rfl, rfl, rfl, rfl, rfl, rfl⟩)
    case rest =>
    obtain ⟨rfl, rfl⟩ := hcut
    go_wp2_with fail
    refine (PS.out _ W0.out).mono ?_
    rintro e w8 ⟨rfl, hB⟩
    clear al a0 a1 a2 a3 a4 a5 a6 a7 a8 a9 a10 a11 a12 bl b0 b1 b2 b3 b4 b5 b6 b7 b8 b9 b10 b11 b12
    replace BA := Lib.hid (BA.out.later hB)
    replace BB := Lib.hid (BB.out.later hB)
    replace W0 := Lib.hid (W0.out.later hB)
    replace B0 := Lib.hid (Below.next B0.out hB)
    clear hB
    go_wp2_with fail
    have l9 := below_alloc w8 (.cells #[.int .u8 0, .int .i64 0, .int .i64 0, .int .i64 0, .int .i64 0, .int .i64 0, .string ⟨#[]⟩, .int .u64 0, .int .u64 0, .int .u64 0, .int .u8 0, .int .u64 0, .int .i64 0] 28)
    replace BA := Lib.hid (BA.out.later l9)
    replace BB := Lib.hid (BB.out.later l9)
    replace W0 := Lib.hid (W0.out.later l9)
    replace B0 := Lib.hid (Below.next B0.out l9)
    clear l9
    refine (HK'.out _ W0.out).mono ?_
    rintro e w9 ⟨rfl, hB⟩
    replace BA := Lib.hid (BA.out.later hB)
    replace BB := Lib.hid (BB.out.later hB)
    replace W0 := Lib.hid (W0.out.later hB)
    replace B0 := Lib.hid (Below.next B0.out hB)
    clear hB
    go_wp2_with fail
    go_ret
    exact ⟨rfl, B0.out⟩
end Go.Proofs.YtelanmknimapoaaGreatDoor.Ob
/- The law OpBack, where the first operation is one: a walk (4). -/
namespace Go.Proofs.YtelanmknimapoaaGreatDoor.Ob
open Go Go.RowKit Gf Re Re.AM
set_option linter.unusedVariables false
set_option linter.unusedSimpArgs false
set_option maxRecDepth 100000 in
set_option maxHeartbeats 3200000 in
theorem yej (akd aus ac1 ar1 ac2 ar2 ard awr aow afns atos aidx : Int) (ainp : ByteArray) (bkd bus bc1 br1 bc2 br2 brd bwr bow bfns btos bidx : Int) (binp : ByteArray) (ckd cus cc1 cr1 cc2 cr2 crd cwr cow cfns ctos cidx : Int) (cinp : ByteArray) (X Y s : ByteArray) {v0 v1 v2 : Value}
 (HFA : (∀ W, Wo v0 v1 v2 W → Calls Tryz.prog 9 #[.agg #[.int .u8 akd, .int .i64 aus, .int .i64 ac1, .int .i64 ar1, .int .i64 ac2, .int .i64 ar2, .string ainp, .int .u64 ard, .int .u64 awr, .int .u64 aow, .int .u8 afns, .int .u64 atos, .int .i64 aidx]] W fun e w' => e = .returned (.tuple #[.string X, .int .i64 0]) ∧ Below W.heap.size W w')) (HCA : (∀ W, Calls Tryz.prog 11 #[.agg #[.int .u8 akd, .int .i64 aus, .int .i64 ac1, .int .i64 ar1, .int .i64 ac2, .int .i64 ar2, .string ainp, .int .u64 ard, .int .u64 awr, .int .u64 aow, .int .u8 afns, .int .u64 atos, .int .i64 aidx]] W fun e w' => e = .returned (.int .i64 0) ∧ Below W.heap.size W w')) (HPX : (∀ W, Wo v0 v1 v2 W → Calls Tryz.prog 17 #[.string X] W fun e w' => e = .returned (.tuple #[.agg #[.int .u8 akd, .int .i64 aus, .int .i64 ac1, .int .i64 ar1, .int .i64 ac2, .int .i64 ar2, .string ainp, .int .u64 ard, .int .u64 awr, .int .u64 aow, .int .u8 afns, .int .u64 atos, .int .i64 aidx], .int .i64 0]) ∧ Below W.heap.size W w')) (hpr : ∀ (k : Nat) (h : k < X.size), 32 ≤ (X[k].toNat : Int) ∧ (X[k].toNat : Int) ≤ 126) (hX : X.size ≤ 2000)
 (HFB : (∀ W, Wo v0 v1 v2 W → Calls Tryz.prog 9 #[.agg #[.int .u8 bkd, .int .i64 bus, .int .i64 bc1, .int .i64 br1, .int .i64 bc2, .int .i64 br2, .string binp, .int .u64 brd, .int .u64 bwr, .int .u64 bow, .int .u8 bfns, .int .u64 btos, .int .i64 bidx]] W fun e w' => e = .returned (.tuple #[.string Y, .int .i64 0]) ∧ Below W.heap.size W w'))
 (hxy : (X.toList == Y.toList) = false) (hne : ¬ (akd = bkd ∧ aus = bus ∧ ac1 = bc1 ∧ ar1 = br1 ∧ ac2 = bc2 ∧ ar2 = br2 ∧ ainp = binp ∧ ard = brd ∧ awr = bwr ∧ aow = bow ∧ afns = bfns ∧ atos = btos ∧ aidx = bidx))
 (HPS : (∀ W, Wo v0 v1 v2 W → Calls Tryz.prog 17 #[.string s] W fun e w' => e = .returned (.tuple #[.agg #[.int .u8 ckd, .int .i64 cus, .int .i64 cc1, .int .i64 cr1, .int .i64 cc2, .int .i64 cr2, .string cinp, .int .u64 crd, .int .u64 cwr, .int .u64 cow, .int .u8 cfns, .int .u64 ctos, .int .i64 cidx], .int .i64 0]) ∧ Below W.heap.size W w')) (HK : (∀ W, Wo v0 v1 v2 W → Calls Tryz.prog 6 #[] W fun e w' => e = .returned (.bool true) ∧ Below W.heap.size W w'))
 (HFC : (∀ W, Wo v0 v1 v2 W → Calls Tryz.prog 9 #[.agg #[.int .u8 ckd, .int .i64 cus, .int .i64 cc1, .int .i64 cr1, .int .i64 cc2, .int .i64 cr2, .string cinp, .int .u64 crd, .int .u64 cwr, .int .u64 cow, .int .u8 cfns, .int .u64 ctos, .int .i64 cidx]] W fun e w' => e = .returned (.tuple #[.string s, .int .i64 0]) ∧ Below W.heap.size W w')) (HCC : (∀ W, Calls Tryz.prog 11 #[.agg #[.int .u8 ckd, .int .i64 cus, .int .i64 cc1, .int .i64 cr1, .int .i64 cc2, .int .i64 cr2, .string cinp, .int .u64 crd, .int .u64 cwr, .int .u64 cow, .int .u8 cfns, .int .u64 ctos, .int .i64 cidx]] W fun e w' => e = .returned (.int .i64 0) ∧ Below W.heap.size W w'))
 (h1 : ainp.size ≤ 600) (h2 : binp.size ≤ 600) (h3 : s.size ≤ 1000) (w : World) (hw : Wo v0 v1 v2 w) : Calls Tryz.prog 5 #[.agg #[.int .u8 akd, .int .i64 aus, .int .i64 ac1, .int .i64 ar1, .int .i64 ac2, .int .i64 ar2, .string ainp, .int .u64 ard, .int .u64 awr, .int .u64 aow, .int .u8 afns, .int .u64 atos, .int .i64 aidx], .agg #[.int .u8 bkd, .int .i64 bus, .int .i64 bc1, .int .i64 br1, .int .i64 bc2, .int .i64 br2, .string binp, .int .u64 brd, .int .u64 bwr, .int .u64 bow, .int .u8 bfns, .int .u64 btos, .int .i64 bidx], .string s] w fun e w' => e = .returned (.bool true) ∧ Below w.heap.size w w' := by
 have FA := Lib.hid HFA
 have FB := Lib.hid HFB
 have CA := Lib.hid HCA
 have PX := Lib.hid HPX
 have PS := Lib.hid HPS
 have HK' := Lib.hid HK
 have PR := Lib.hid hpr
 have HW := Lib.hid hw
 have NE := Lib.hid hne
 have FC := Lib.hid HFC
 have CC := Lib.hid HCC
 clear HFA HFB HCA HPX HPS HK hpr hw hne HFC HCC
 have i1 : ¬ (ainp.size : Int) > 600 := by omega
 have i2 : ¬ (binp.size : Int) > 600 := by omega
 have i3 : ¬ (s.size : Int) > 1000 := by omega
 go_enter Tryz.func5, Tryz.ntmps5
 have l1 := below_alloc w (.cells #[.int .u8 akd, .int .i64 aus, .int .i64 ac1, .int .i64 ar1, .int .i64 ac2, .int .i64 ar2, .string ainp, .int .u64 ard, .int .u64 awr, .int .u64 aow, .int .u8 afns, .int .u64 atos, .int .i64 aidx] 28)
 have l2 := below_alloc (w.alloc (.cells #[.int .u8 akd, .int .i64 aus, .int .i64 ac1, .int .i64 ar1, .int .i64 ac2, .int .i64 ar2, .string ainp, .int .u64 ard, .int .u64 awr, .int .u64 aow, .int .u8 afns, .int .u64 atos, .int .i64 aidx] 28)) (.cells #[.int .u8 bkd, .int .i64 bus, .int .i64 bc1, .int .i64 br1, .int .i64 bc2, .int .i64 br2, .string binp, .int .u64 brd, .int .u64 bwr, .int .u64 bow, .int .u8 bfns, .int .u64 btos, .int .i64 bidx] 28)
 have BA := (At13.start w akd aus ac1 ar1 ac2 ar2 ard awr aow afns atos aidx ainp 28).later l2
 have BB := At13.start (w.alloc (.cells #[.int .u8 akd, .int .i64 aus, .int .i64 ac1, .int .i64 ar1, .int .i64 ac2, .int .i64 ar2, .string ainp, .int .u64 ard, .int .u64 awr, .int .u64 aow, .int .u8 afns, .int .u64 atos, .int .i64 aidx] 28)) bkd bus bc1 br1 bc2 br2 brd bwr bow bfns btos bidx binp 28
 rw [zb3] at BB
 have W0 := HW.out.later (Below.next l1 l2)
 have B0 := Below.next l1 l2
 go_wp2_with fail
 generalize (w.alloc (.cells #[.int .u8 akd, .int .i64 aus, .int .i64 ac1, .int .i64 ar1, .int .i64 ac2, .int .i64 ar2, .string ainp, .int .u64 ard, .int .u64 awr, .int .u64 aow, .int .u8 afns, .int .u64 atos, .int .i64 aidx] 28)).alloc (.cells #[.int .u8 bkd, .int .i64 bus, .int .i64 bc1, .int .i64 br1, .int .i64 bc2, .int .i64 br2, .string binp, .int .u64 brd, .int .u64 bwr, .int .u64 bow, .int .u8 bfns, .int .u64 btos, .int .i64 bidx] 28) = w2 at *
 replace BA := Lib.hid BA
 replace BB := Lib.hid BB
 replace W0 := Lib.hid W0
 replace B0 := Lib.hid B0
 clear l1 l2
 obtain ⟨al, a0, a1, a2, a3, a4, a5, a6, a7, a8, a9, a10, a11, a12⟩ := BA.out
 obtain ⟨bl, b0, b1, b2, b3, b4, b5, b6, b7, b8, b9, b10, b11, b12⟩ := BB.out
 refine (FA.out _ W0.out).mono ?_
 rintro e w3 ⟨rfl, hB⟩
 clear al a0 a1 a2 a3 a4 a5 a6 a7 a8 a9 a10 a11 a12 bl b0 b1 b2 b3 b4 b5 b6 b7 b8 b9 b10 b11 b12
 replace BA := Lib.hid (BA.out.later hB)
 replace BB := Lib.hid (BB.out.later hB)
 replace W0 := Lib.hid (W0.out.later hB)
 replace B0 := Lib.hid (Below.next B0.out hB)
 clear hB
 obtain ⟨al, a0, a1, a2, a3, a4, a5, a6, a7, a8, a9, a10, a11, a12⟩ := BA.out
 obtain ⟨bl, b0, b1, b2, b3, b4, b5, b6, b7, b8, b9, b10, b11, b12⟩ := BB.out
 go_wp2_with fail
 refine (FB.out _ W0.out).mono ?_
 rintro e w4 ⟨rfl, hB⟩
 clear al a0 a1 a2 a3 a4 a5 a6 a7 a8 a9 a10 a11 a12 bl b0 b1 b2 b3 b4 b5 b6 b7 b8 b9 b10 b11 b12
 replace BA := Lib.hid (BA.out.later hB)
 replace BB := Lib.hid (BB.out.later hB)
 replace W0 := Lib.hid (W0.out.later hB)
 replace B0 := Lib.hid (Below.next B0.out hB)
 clear hB
 obtain ⟨al, a0, a1, a2, a3, a4, a5, a6, a7, a8, a9, a10, a11, a12⟩ := BA.out
 obtain ⟨bl, b0, b1, b2, b3, b4, b5, b6, b7, b8, b9, b10, b11, b12⟩ := BB.out
 go_wp2_with fail
 refine (CA.out _).mono ?_
 rintro e w5 ⟨rfl, hB⟩
 clear al a0 a1 a2 a3 a4 a5 a6 a7 a8 a9 a10 a11 a12 bl b0 b1 b2 b3 b4 b5 b6 b7 b8 b9 b10 b11 b12
 replace BA := Lib.hid (BA.out.later hB)
 replace BB := Lib.hid (BB.out.later hB)
 replace W0 := Lib.hid (W0.out.later hB)
 replace B0 := Lib.hid (Below.next B0.out hB)
 clear hB
 obtain ⟨al, a0, a1, a2, a3, a4, a5, a6, a7, a8, a9, a10, a11, a12⟩ := BA.out
 obtain ⟨bl, b0, b1, b2, b3, b4, b5, b6, b7, b8, b9, b10, b11, b12⟩ := BB.out
 go_wp2_with fail
 refine (PX.out _ W0.out).mono ?_
 rintro e w6 ⟨rfl, hB⟩
 clear al a0 a1 a2 a3 a4 a5 a6 a7 a8 a9 a10 a11 a12 bl b0 b1 b2 b3 b4 b5 b6 b7 b8 b9 b10 b11 b12
 replace BA := Lib.hid (BA.out.later hB)
 replace BB := Lib.hid (BB.out.later hB)
 replace W0 := Lib.hid (W0.out.later hB)
 replace B0 := Lib.hid (Below.next B0.out hB)
 clear hB
 obtain ⟨al, a0, a1, a2, a3, a4, a5, a6, a7, a8, a9, a10, a11, a12⟩ := BA.out
 obtain ⟨bl, b0, b1, b2, b3, b4, b5, b6, b7, b8, b9, b10, b11, b12⟩ := BB.out
 go_wp2_with fail
 clear al a0 a1 a2 a3 a4 a5 a6 a7 a8 a9 a10 a11 a12 bl b0 b1 b2 b3 b4 b5 b6 b7 b8 b9 b10 b11 b12
 have l7 := below_alloc w6 (.cells #[.int .u8 akd, .int .i64 aus, .int .i64 ac1, .int .i64 ar1, .int .i64 ac2, .int .i64 ar2, .string ainp, .int .u64 ard, .int .u64 awr, .int .u64 aow, .int .u8 afns, .int .u64 atos, .int .i64 aidx] 28)
 replace BA := Lib.hid (BA.out.later l7)
 replace BB := Lib.hid (BB.out.later l7)
 replace W0 := Lib.hid (W0.out.later l7)
 replace B0 := Lib.hid (Below.next B0.out l7)
 clear l7
 generalize w6.alloc (.cells #[.int .u8 akd, .int .i64 aus, .int .i64 ac1, .int .i64 ar1, .int .i64 ac2, .int .i64 ar2, .string ainp, .int .u64 ard, .int .u64 awr, .int .u64 aow, .int .u8 afns, .int .u64 atos, .int .i64 aidx] 28) = w7 at *
 generalize w6.heap.size = p11 at *
 obtain ⟨al, a0, a1, a2, a3, a4, a5, a6, a7, a8, a9, a10, a11, a12⟩ := BA.out
 obtain ⟨bl, b0, b1, b2, b3, b4, b5, b6, b7, b8, b9, b10, b11, b12⟩ := BB.out
 go_loop [13] (fun i => ∃ k : Nat, k ≤ X.size ∧ i = .int .i64 k) (fun i => X.size - (intOf i).toNat)
 case atStart => exact ⟨0, Nat.zero_le _, rfl⟩
 case round =>
  obtain ⟨k, hk, rfl⟩ := hrel
  by_cases hlt : k < X.size
  · obtain ⟨q1, q2⟩ := PR.out k hlt
    go_wp2_with fail
    go_round
    case rel => exact ⟨k + 1, by omega, by go_num⟩
    case measure => simp [intOf]; omega
  · obtain rfl : k = X.size := by omega
    clear hlt hk
    go_upto_region 16 with (fail)
    go_cut [102] (fun z wx => z = .bool false ∧ wx = w7)
    case first =>
     go_wp2_with fail
     all_goals
      subst_vars
      go_meet
      case rel => first | exact ⟨rfl, rfl⟩ | (exfalso; exact NE.out ⟨rfl, rfl, rfl, rfl, rfl, rfl, (by first | rfl | exact tle (by assumption) | exact tlb (by assumption) | exact tlb (by simp_all)), rfl, rfl, rfl, rfl, rfl, rfl⟩)
    case rest =>
    obtain ⟨rfl, rfl⟩ := hcut
    go_wp2_with fail
    refine (PS.out _ W0.out).mono ?_
    rintro e w8 ⟨rfl, hB⟩
    clear al a0 a1 a2 a3 a4 a5 a6 a7 a8 a9 a10 a11 a12 bl b0 b1 b2 b3 b4 b5 b6 b7 b8 b9 b10 b11 b12
    replace BA := Lib.hid (BA.out.later hB)
    replace BB := Lib.hid (BB.out.later hB)
    replace W0 := Lib.hid (W0.out.later hB)
    replace B0 := Lib.hid (Below.next B0.out hB)
    clear hB
    go_wp2_with fail
    have l9 := below_alloc w8 (.cells #[.int .u8 ckd, .int .i64 cus, .int .i64 cc1, .int .i64 cr1, .int .i64 cc2, .int .i64 cr2, .string cinp, .int .u64 crd, .int .u64 cwr, .int .u64 cow, .int .u8 cfns, .int .u64 ctos, .int .i64 cidx] 28)
    have BC := At13.start w8 ckd cus cc1 cr1 cc2 cr2 crd cwr cow cfns ctos cidx cinp 28
    replace W0 := Lib.hid (W0.out.later l9)
    replace B0 := Lib.hid (Below.next B0.out l9)
    clear l9
    generalize w8.alloc (.cells #[.int .u8 ckd, .int .i64 cus, .int .i64 cc1, .int .i64 cr1, .int .i64 cc2, .int .i64 cr2, .string cinp, .int .u64 crd, .int .u64 cwr, .int .u64 cow, .int .u8 cfns, .int .u64 ctos, .int .i64 cidx] 28) = w9 at *
    generalize w8.heap.size = p14 at *
    clear BA BB
    replace BC := Lib.hid BC
    refine (FC.out _ W0.out).mono ?_
    rintro e w10 ⟨rfl, hB⟩
    replace BC := Lib.hid (BC.out.later hB)
    replace W0 := Lib.hid (W0.out.later hB)
    replace B0 := Lib.hid (Below.next B0.out hB)
    clear hB
    obtain ⟨cl, c0, c1, c2, c3, c4, c5, c6, c7, c8, c9, c10, c11, c12⟩ := BC.out
    go_wp2_with fail
    clear cl c0 c1 c2 c3 c4 c5 c6 c7 c8 c9 c10 c11 c12
    refine (CC.out _).mono ?_
    rintro e w11 ⟨rfl, hB⟩
    replace BC := Lib.hid (BC.out.later hB)
    replace W0 := Lib.hid (W0.out.later hB)
    replace B0 := Lib.hid (Below.next B0.out hB)
    clear hB
    obtain ⟨cl, c0, c1, c2, c3, c4, c5, c6, c7, c8, c9, c10, c11, c12⟩ := BC.out
    go_wp2_with fail
    clear cl c0 c1 c2 c3 c4 c5 c6 c7 c8 c9 c10 c11 c12
    refine (HK'.out _ W0.out).mono ?_
    rintro e w12 ⟨rfl, hB⟩
    replace BC := Lib.hid (BC.out.later hB)
    replace W0 := Lib.hid (W0.out.later hB)
    replace B0 := Lib.hid (Below.next B0.out hB)
    clear hB
    obtain ⟨cl, c0, c1, c2, c3, c4, c5, c6, c7, c8, c9, c10, c11, c12⟩ := BC.out
    go_wp2_with fail
    clear cl c0 c1 c2 c3 c4 c5 c6 c7 c8 c9 c10 c11 c12
    go_ret
    exact ⟨rfl, B0.out⟩
end Go.Proofs.YtelanmknimapoaaGreatDoor.Ob
