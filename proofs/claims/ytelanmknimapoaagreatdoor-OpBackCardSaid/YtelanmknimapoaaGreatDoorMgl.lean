/- Merged: ObV ObLA ObL1. -/
import Derived.Test.YtelanmknimapoaaGreatDoorObU
import Derived.Deep.DeepCutAuto
/- Lines are short, and printable. No run in this file. -/
namespace Go.Proofs.YtelanmknimapoaaGreatDoor.Ob
open Go Go.RowKit Gf Re Re.AM
set_option linter.unusedVariables false
set_option linter.unusedSimpArgs false
theorem zml (x : W64) : (fmtS x).length ≤ 384 := by
 unfold fmtS
 split
 · decide
 · split
   · decide
   · refine Nat.le_trans (Gf.join_len _ (fun w hw => (zsa x 0 w hw).2.1)) ?_
     have := zxj x 64 0
     have e : W x 0 = wf x 64 0 := rfl
     rw [e]; omega
theorem zx7 {l : By} (h : Gl.GM.chk l = 0) : (Gl.quoS l).length ≤ 514 := by
 rw [Gl.quoS_yes h]
 have h1 := Gl.chk_z h
 have h2 := (Gl.GM.quo_len l).2
 simp only [List.length_cons, List.length_append, List.length_nil]; omega
theorem yev (k : Nat) : (zaj k).length ≤ 7 := by
 unfold zaj
 split <;> decide
theorem zjo (g : OV) (hg : OkV g) (hok : Ot.okO g = true) : (fmtO g).length ≤ 2000 := by
 have h0 := yev g.kd
 have h1 := zde hg.us
 have h2 := zxc hg.c1 hg.r1 hg.c2 hg.r2
 have h3 := zml g.rd
 have h4 := zml g.wr
 have h5 := zml g.ow
 have h6 := zml g.tos
 have h7 := zde (zzd hg.fns)
 have h8 := zde hg.idx
 have h9 := fun h => zx7 (znm hok h)
 unfold fmtO zbr
 have hT : (Lib.join (Lib.itoa g.us :: ((if tgtB g.kd then [za0 g.c1 g.r1 g.c2 g.r2] else []) ++ zhy g)) [32]).length ≤ 1900 := by
  have hC : ∀ (L : List By) (w : By) (n : Nat), (Lib.join L [32]).length ≤ n → (Lib.join (w :: L) [32]).length ≤ w.length + 1 + n := fun L w n h => by
   cases L with
   | nil => rw [join_one]; omega
   | cons y r => rw [za3]; simp only [List.length_append, List.length_cons, List.length_nil]; omega
  have hT : (Lib.join (zhy g) [32]).length ≤ 1200 := by
   unfold zhy
   split
   · rename_i hk; have := h9 hk; rw [join_one]; omega
   · simp only [za3, join_one, List.length_append, List.length_cons, List.length_nil]; omega
   · simp only [za3, join_one, List.length_append, List.length_cons, List.length_nil]; omega
   · rw [join_one]; omega
   · simp [Lib.join]
  refine Nat.le_trans (hC _ _ 1400 ?_) (by omega)
  split
  · exact Nat.le_trans (hC _ _ 1200 hT) (by omega)
  · exact Nat.le_trans hT (by omega)
 rw [za3]
 simp only [List.length_append, List.length_cons, List.length_nil]
 omega
def Pr (c : UInt8) : Prop := 32 ≤ c.toNat ∧ c.toNat ≤ 126
theorem zv1 : ∀ (L : List By), (∀ w ∈ L, ∀ c ∈ w, Pr c) → ∀ c ∈ Lib.join L [32], Pr c
 | [], _, c, hc => by simp [Lib.join] at hc
 | [w], h, c, hc => by rw [join_one] at hc; exact h w (.head _) c hc
 | w :: y :: L, h, c, hc => by
  rw [za3, List.mem_append, List.mem_append, List.mem_singleton] at hc
  rcases hc with (hc | rfl) | hc
  · exact h w (.head _) c hc
  · exact ⟨by decide, by decide⟩
  · exact zv1 (y :: L) (fun w hw => h w (.tail _ hw)) c hc
theorem ydw (g : OV) (hok : Ot.okO g = true) : ∀ c ∈ fmtO g, Pr c := by
 have h0 : ∀ k, ∀ c ∈ zaj k, Pr c := by
  intro k c hc
  have : ∀ c ∈ zaj k, (32 ≤ c.toNat && c.toNat ≤ 126) = true := by unfold zaj; split <;> decide
  have := this c hc
  simpa [Pr] using this
 have hi : ∀ n, ∀ c ∈ Lib.itoa n, Pr c := fun n c hc => by have := zfk hc; unfold Pr; omega
 have ha : ∀ c ∈ za0 g.c1 g.r1 g.c2 g.r2, Pr c := fun c hc => by have := zxd _ _ _ _ hc; unfold Pr; omega
 have hf : ∀ x, ∀ c ∈ fmtS x, Pr c := fun x c hc => by have := zwd x hc; unfold Pr; omega
 have hq : g.kd = 3 → ∀ c ∈ Gl.quoS g.inp.data.toList, Pr c := fun h c hc => by
  have h1 := znm hok h
  have hp : Gl.GM.plain (Gl.quoS g.inp.data.toList) = true := by
   rw [Gl.quoS_yes h1, Gl.GM.plain_cons]; have e := Gl.GM.plain_quo g.inp.data.toList; rw [(yha h1).2] at e; unfold Gl.GM.plain at e ⊢; rw [List.all_append, e]; rfl
  have := List.all_eq_true.1 hp c hc
  simpa [Pr] using this
 refine zv1 _ (fun w hw => ?_)
 unfold zbr at hw
 rw [List.mem_cons, List.mem_cons, List.mem_append] at hw
 rcases hw with rfl | rfl | hw | hw
 · exact h0 _
 · exact hi _
 · split at hw
   · rw [List.mem_singleton] at hw; subst hw; exact ha
   · cases hw
 · unfold zhy at hw
   split at hw
   · rename_i hk
     rw [List.mem_singleton] at hw; subst hw; exact hq hk
   · simp only [List.mem_cons, List.not_mem_nil, or_false] at hw
     rcases hw with rfl | rfl | rfl <;> exact hf _
   · simp only [List.mem_cons, List.not_mem_nil, or_false] at hw
     rcases hw with rfl | rfl
     · exact hi _
     · exact hf _
   · rw [List.mem_singleton] at hw; subst hw; exact hi _
   · cases hw
theorem zzw {g h : OV} (hg : OkV g) (hh : OkV h) (og : Ot.okO g = true) (oh : Ot.okO h = true) (e : fmtO g = fmtO h) : g = h := by
 obtain ⟨x, hx, _⟩ := zg0 (fmtO g) (zjo g hg og)
 have h1 := hx.cmp g hg og rfl
 have h2 := hx.cmp h hh oh e.symm
 exact Option.some.inj (h1.symm.trans h2)
theorem zu9 (g : OV) (hg : OkV g) (og : Ot.okO g = true) {v0 v1 v2 : Value} (w : World) (hw : Wo v0 v1 v2 w) : PC (fmtO g) w (.tuple #[.agg (cellsOV g).toArray, .int .i64 0]) := by
 obtain ⟨x, hx, hc⟩ := zg0 (fmtO g) (zjo g hg og)
 rw [hx.cmp g hg og rfl] at hc
 exact hc v0 v1 v2 w hw
end Go.Proofs.YtelanmknimapoaaGreatDoor.Ob
/- The law OpBack, where the first operation is one: a walk. -/
namespace Go.Proofs.YtelanmknimapoaaGreatDoor.Ob
open Go Go.RowKit Gf Re Re.AM
set_option linter.unusedVariables false
set_option linter.unusedSimpArgs false
theorem tle {a b : ByteArray} (h : a.toList = b.toList) : a = b := by
 rw [ByteArray.toList_eq, ByteArray.toList_eq] at h
 exact ByteArray.ext (Array.toList_inj.1 h)
theorem tlb {a b : ByteArray} (h : (a.toList == b.toList) = true) : a = b := tle (by simpa using h)
theorem yey {a b : ByteArray} (h : a ≠ b) : (a.toList == b.toList) = false := by
 cases e : a.toList == b.toList with
 | false => rfl
 | true => exact absurd (tlb e) h
def At13 (w : World) (p : Nat) (kd us c1 r1 c2 r2 rd wr ow fns tos idx : Int) (inp : ByteArray) : Prop := p < w.heap.size ∧ w.cell? ⟨p, 0, none⟩ = some (.int .u8 kd) ∧ w.cell? ⟨p, 1, none⟩ = some (.int .i64 us) ∧ w.cell? ⟨p, 2, none⟩ = some (.int .i64 c1) ∧ w.cell? ⟨p, 3, none⟩ = some (.int .i64 r1) ∧ w.cell? ⟨p, 4, none⟩ = some (.int .i64 c2) ∧ w.cell? ⟨p, 5, none⟩ = some (.int .i64 r2) ∧ w.cell? ⟨p, 6, none⟩ = some (.string inp) ∧ w.cell? ⟨p, 7, none⟩ = some (.int .u64 rd) ∧ w.cell? ⟨p, 8, none⟩ = some (.int .u64 wr) ∧ w.cell? ⟨p, 9, none⟩ = some (.int .u64 ow) ∧ w.cell? ⟨p, 10, none⟩ = some (.int .u8 fns) ∧ w.cell? ⟨p, 11, none⟩ = some (.int .u64 tos) ∧ w.cell? ⟨p, 12, none⟩ = some (.int .i64 idx)
theorem At13.later {w w' : World} {p : Nat} {kd us c1 r1 c2 r2 rd wr ow fns tos idx : Int} {inp : ByteArray} (h : At13 w p kd us c1 r1 c2 r2 rd wr ow fns tos idx inp) (hB : Below w.heap.size w w') : At13 w' p kd us c1 r1 c2 r2 rd wr ow fns tos idx inp := by
 obtain ⟨h0, g0, g1, g2, g3, g4, g5, g6, g7, g8, g9, g10, g11, g12⟩ := h
 have hc := (bcell hB).1
 exact ⟨Nat.lt_of_lt_of_le h0 hB.size, by rw [hc _ _ h0]; exact g0, by rw [hc _ _ h0]; exact g1, by rw [hc _ _ h0]; exact g2, by rw [hc _ _ h0]; exact g3, by rw [hc _ _ h0]; exact g4, by rw [hc _ _ h0]; exact g5, by rw [hc _ _ h0]; exact g6, by rw [hc _ _ h0]; exact g7, by rw [hc _ _ h0]; exact g8, by rw [hc _ _ h0]; exact g9, by rw [hc _ _ h0]; exact g10, by rw [hc _ _ h0]; exact g11, by rw [hc _ _ h0]; exact g12⟩
theorem At13.start (w : World) (kd us c1 r1 c2 r2 rd wr ow fns tos idx : Int) (inp : ByteArray) (t : TypeId) : At13 (w.alloc (.cells #[.int .u8 kd, .int .i64 us, .int .i64 c1, .int .i64 r1, .int .i64 c2, .int .i64 r2, .string inp, .int .u64 rd, .int .u64 wr, .int .u64 ow, .int .u8 fns, .int .u64 tos, .int .i64 idx] t)) w.heap.size kd us c1 r1 c2 r2 rd wr ow fns tos idx inp := by
 refine ⟨by simp, ?_, ?_, ?_, ?_, ?_, ?_, ?_, ?_, ?_, ?_, ?_, ?_, ?_⟩ <;> simp
end Go.Proofs.YtelanmknimapoaaGreatDoor.Ob
/- The law OpBack, where the first operation is one: a walk (1). -/
namespace Go.Proofs.YtelanmknimapoaaGreatDoor.Ob
open Go Go.RowKit Gf Re Re.AM
set_option linter.unusedVariables false
set_option linter.unusedSimpArgs false
set_option maxRecDepth 100000 in
set_option maxHeartbeats 3200000 in
theorem yei (akd aus ac1 ar1 ac2 ar2 ard awr aow afns atos aidx : Int) (ainp : ByteArray) (bkd bus bc1 br1 bc2 br2 brd bwr bow bfns btos bidx : Int) (binp : ByteArray) (X Y s : ByteArray) {v0 v1 v2 : Value}
 (HFA : (∀ W, Wo v0 v1 v2 W → Calls Tryz.prog 9 #[.agg #[.int .u8 akd, .int .i64 aus, .int .i64 ac1, .int .i64 ar1, .int .i64 ac2, .int .i64 ar2, .string ainp, .int .u64 ard, .int .u64 awr, .int .u64 aow, .int .u8 afns, .int .u64 atos, .int .i64 aidx]] W fun e w' => e = .returned (.tuple #[.string X, .int .i64 0]) ∧ Below W.heap.size W w')) (HCA : (∀ W, Calls Tryz.prog 11 #[.agg #[.int .u8 akd, .int .i64 aus, .int .i64 ac1, .int .i64 ar1, .int .i64 ac2, .int .i64 ar2, .string ainp, .int .u64 ard, .int .u64 awr, .int .u64 aow, .int .u8 afns, .int .u64 atos, .int .i64 aidx]] W fun e w' => e = .returned (.int .i64 0) ∧ Below W.heap.size W w')) (HPX : (∀ W, Wo v0 v1 v2 W → Calls Tryz.prog 17 #[.string X] W fun e w' => e = .returned (.tuple #[.agg #[.int .u8 akd, .int .i64 aus, .int .i64 ac1, .int .i64 ar1, .int .i64 ac2, .int .i64 ar2, .string ainp, .int .u64 ard, .int .u64 awr, .int .u64 aow, .int .u8 afns, .int .u64 atos, .int .i64 aidx], .int .i64 0]) ∧ Below W.heap.size W w')) (hpr : ∀ (k : Nat) (h : k < X.size), 32 ≤ (X[k].toNat : Int) ∧ (X[k].toNat : Int) ≤ 126) (hX : X.size ≤ 2000)
 (HFB : (∀ W, Wo v0 v1 v2 W → Calls Tryz.prog 9 #[.agg #[.int .u8 bkd, .int .i64 bus, .int .i64 bc1, .int .i64 br1, .int .i64 bc2, .int .i64 br2, .string binp, .int .u64 brd, .int .u64 bwr, .int .u64 bow, .int .u8 bfns, .int .u64 btos, .int .i64 bidx]] W fun e w' => e = .returned (.tuple #[.string Y, .int .i64 4]) ∧ Below W.heap.size W w'))
 (HPS : (∀ W, Wo v0 v1 v2 W → Calls Tryz.prog 17 #[.string s] W fun e w' => e = .returned (.tuple #[.agg #[.int .u8 0, .int .i64 0, .int .i64 0, .int .i64 0, .int .i64 0, .int .i64 0, .string ⟨#[]⟩, .int .u64 0, .int .u64 0, .int .u64 0, .int .u8 0, .int .u64 0, .int .i64 0], .int .i64 4]) ∧ Below W.heap.size W w')) (HK : (∀ W, Wo v0 v1 v2 W → Calls Tryz.prog 6 #[] W fun e w' => e = .returned (.bool true) ∧ Below W.heap.size W w'))
 (h1 : ainp.size ≤ 600) (h2 : binp.size ≤ 600) (h3 : s.size ≤ 1000) (w : World) (hw : Wo v0 v1 v2 w) : Calls Tryz.prog 5 #[.agg #[.int .u8 akd, .int .i64 aus, .int .i64 ac1, .int .i64 ar1, .int .i64 ac2, .int .i64 ar2, .string ainp, .int .u64 ard, .int .u64 awr, .int .u64 aow, .int .u8 afns, .int .u64 atos, .int .i64 aidx], .agg #[.int .u8 bkd, .int .i64 bus, .int .i64 bc1, .int .i64 br1, .int .i64 bc2, .int .i64 br2, .string binp, .int .u64 brd, .int .u64 bwr, .int .u64 bow, .int .u8 bfns, .int .u64 btos, .int .i64 bidx], .string s] w fun e w' => e = .returned (.bool true) ∧ Below w.heap.size w w' := by
 have FA := Lib.hid HFA
 have FB := Lib.hid HFB
 have CA := Lib.hid HCA
 have PX := Lib.hid HPX
 have PS := Lib.hid HPS
 have HK' := Lib.hid HK
 have PR := Lib.hid hpr
 have HW := Lib.hid hw
 clear HFA HFB HCA HPX HPS HK hpr hw
 have i1 : ¬ (ainp.size : Int) > 600 := by omega
 have i2 : ¬ (binp.size : Int) > 600 := by omega
 have i3 : ¬ (s.size : Int) > 1000 := by omega
 go_enter Tryz.func5, Tryz.ntmps5
 have l1 := below_alloc w (.cells #[.int .u8 akd, .int .i64 aus, .int .i64 ac1, .int .i64 ar1, .int .i64 ac2, .int .i64 ar2, .string ainp, .int .u64 ard, .int .u64 awr, .int .u64 aow, .int .u8 afns, .int .u64 atos, .int .i64 aidx] 28)
 have l2 := below_alloc (w.alloc (.cells #[.int .u8 akd, .int .i64 aus, .int .i64 ac1, .int .i64 ar1, .int .i64 ac2, .int .i64 ar2, .string ainp, .int .u64 ard, .int .u64 awr, .int .u64 aow, .int .u8 afns, .int .u64 atos, .int .i64 aidx] 28)) (.cells #[.int .u8 bkd, .int .i64 bus, .int .i64 bc1, .int .i64 br1, .int .i64 bc2, .int .i64 br2, .string binp, .int .u64 brd, .int .u64 bwr, .int .u64 bow, .int .u8 bfns, .int .u64 btos, .int .i64 bidx] 28)
 have BA := (At13.start w akd aus ac1 ar1 ac2 ar2 ard awr aow afns atos aidx ainp 28).later l2
 have BB := At13.start (w.alloc (.cells #[.int .u8 akd, .int .i64 aus, .int .i64 ac1, .int .i64 ar1, .int .i64 ac2, .int .i64 ar2, .string ainp, .int .u64 ard, .int .u64 awr, .int .u64 aow, .int .u8 afns, .int .u64 atos, .int .i64 aidx] 28)) bkd bus bc1 br1 bc2 br2 brd bwr bow bfns btos bidx binp 28
 rw [zb3] at BB
 have W0 := HW.out.later (Below.next l1 l2)
 have B0 := Below.next l1 l2
 go_wp2_with fail
 generalize (w.alloc (.cells #[.int .u8 akd, .int .i64 aus, .int .i64 ac1, .int .i64 ar1, .int .i64 ac2, .int .i64 ar2, .string ainp, .int .u64 ard, .int .u64 awr, .int .u64 aow, .int .u8 afns, .int .u64 atos, .int .i64 aidx] 28)).alloc (.cells #[.int .u8 bkd, .int .i64 bus, .int .i64 bc1, .int .i64 br1, .int .i64 bc2, .int .i64 br2, .string binp, .int .u64 brd, .int .u64 bwr, .int .u64 bow, .int .u8 bfns, .int .u64 btos, .int .i64 bidx] 28) = w2 at *
 replace BA := Lib.hid BA
 replace BB := Lib.hid BB
 replace W0 := Lib.hid W0
 replace B0 := Lib.hid B0
 clear l1 l2
 obtain ⟨al, a0, a1, a2, a3, a4, a5, a6, a7, a8, a9, a10, a11, a12⟩ := BA.out
 obtain ⟨bl, b0, b1, b2, b3, b4, b5, b6, b7, b8, b9, b10, b11, b12⟩ := BB.out
 refine (FA.out _ W0.out).mono ?_
 rintro e w3 ⟨rfl, hB⟩
 clear al a0 a1 a2 a3 a4 a5 a6 a7 a8 a9 a10 a11 a12 bl b0 b1 b2 b3 b4 b5 b6 b7 b8 b9 b10 b11 b12
 replace BA := Lib.hid (BA.out.later hB)
 replace BB := Lib.hid (BB.out.later hB)
 replace W0 := Lib.hid (W0.out.later hB)
 replace B0 := Lib.hid (Below.next B0.out hB)
 clear hB
 obtain ⟨al, a0, a1, a2, a3, a4, a5, a6, a7, a8, a9, a10, a11, a12⟩ := BA.out
 obtain ⟨bl, b0, b1, b2, b3, b4, b5, b6, b7, b8, b9, b10, b11, b12⟩ := BB.out
 go_wp2_with fail
 refine (FB.out _ W0.out).mono ?_
 rintro e w4 ⟨rfl, hB⟩
 clear al a0 a1 a2 a3 a4 a5 a6 a7 a8 a9 a10 a11 a12 bl b0 b1 b2 b3 b4 b5 b6 b7 b8 b9 b10 b11 b12
 replace BA := Lib.hid (BA.out.later hB)
 replace BB := Lib.hid (BB.out.later hB)
 replace W0 := Lib.hid (W0.out.later hB)
 replace B0 := Lib.hid (Below.next B0.out hB)
 clear hB
 obtain ⟨al, a0, a1, a2, a3, a4, a5, a6, a7, a8, a9, a10, a11, a12⟩ := BA.out
 obtain ⟨bl, b0, b1, b2, b3, b4, b5, b6, b7, b8, b9, b10, b11, b12⟩ := BB.out
 go_wp2_with fail
 refine (CA.out _).mono ?_
 rintro e w5 ⟨rfl, hB⟩
 clear al a0 a1 a2 a3 a4 a5 a6 a7 a8 a9 a10 a11 a12 bl b0 b1 b2 b3 b4 b5 b6 b7 b8 b9 b10 b11 b12
 replace BA := Lib.hid (BA.out.later hB)
 replace BB := Lib.hid (BB.out.later hB)
 replace W0 := Lib.hid (W0.out.later hB)
 replace B0 := Lib.hid (Below.next B0.out hB)
 clear hB
 obtain ⟨al, a0, a1, a2, a3, a4, a5, a6, a7, a8, a9, a10, a11, a12⟩ := BA.out
 obtain ⟨bl, b0, b1, b2, b3, b4, b5, b6, b7, b8, b9, b10, b11, b12⟩ := BB.out
 go_wp2_with fail
 refine (PX.out _ W0.out).mono ?_
 rintro e w6 ⟨rfl, hB⟩
 clear al a0 a1 a2 a3 a4 a5 a6 a7 a8 a9 a10 a11 a12 bl b0 b1 b2 b3 b4 b5 b6 b7 b8 b9 b10 b11 b12
 replace BA := Lib.hid (BA.out.later hB)
 replace BB := Lib.hid (BB.out.later hB)
 replace W0 := Lib.hid (W0.out.later hB)
 replace B0 := Lib.hid (Below.next B0.out hB)
 clear hB
 obtain ⟨al, a0, a1, a2, a3, a4, a5, a6, a7, a8, a9, a10, a11, a12⟩ := BA.out
 obtain ⟨bl, b0, b1, b2, b3, b4, b5, b6, b7, b8, b9, b10, b11, b12⟩ := BB.out
 go_wp2_with fail
 clear al a0 a1 a2 a3 a4 a5 a6 a7 a8 a9 a10 a11 a12 bl b0 b1 b2 b3 b4 b5 b6 b7 b8 b9 b10 b11 b12
 have l7 := below_alloc w6 (.cells #[.int .u8 akd, .int .i64 aus, .int .i64 ac1, .int .i64 ar1, .int .i64 ac2, .int .i64 ar2, .string ainp, .int .u64 ard, .int .u64 awr, .int .u64 aow, .int .u8 afns, .int .u64 atos, .int .i64 aidx] 28)
 replace BA := Lib.hid (BA.out.later l7)
 replace BB := Lib.hid (BB.out.later l7)
 replace W0 := Lib.hid (W0.out.later l7)
 replace B0 := Lib.hid (Below.next B0.out l7)
 clear l7
 generalize w6.alloc (.cells #[.int .u8 akd, .int .i64 aus, .int .i64 ac1, .int .i64 ar1, .int .i64 ac2, .int .i64 ar2, .string ainp, .int .u64 ard, .int .u64 awr, .int .u64 aow, .int .u8 afns, .int .u64 atos, .int .i64 aidx] 28) = w7 at *
 generalize w6.heap.size = p11 at *
 obtain ⟨al, a0, a1, a2, a3, a4, a5, a6, a7, a8, a9, a10, a11, a12⟩ := BA.out
 obtain ⟨bl, b0, b1, b2, b3, b4, b5, b6, b7, b8, b9, b10, b11, b12⟩ := BB.out
 go_loop [13] (fun i => ∃ k : Nat, k ≤ X.size ∧ i = .int .i64 k) (fun i => X.size - (intOf i).toNat)
 case atStart => exact ⟨0, Nat.zero_le _, rfl⟩
 case round =>
  obtain ⟨k, hk, rfl⟩ := hrel
  by_cases hlt : k < X.size
  · obtain ⟨q1, q2⟩ := PR.out k hlt
    go_wp2_with fail
    go_round
    case rel => exact ⟨k + 1, by omega, by go_num⟩
    case measure => simp [intOf]; omega
  · obtain rfl : k = X.size := by omega
    clear hlt hk
    go_wp2_with fail
    refine (PS.out _ W0.out).mono ?_
    rintro e w8 ⟨rfl, hB⟩
    clear al a0 a1 a2 a3 a4 a5 a6 a7 a8 a9 a10 a11 a12 bl b0 b1 b2 b3 b4 b5 b6 b7 b8 b9 b10 b11 b12
    replace BA := Lib.hid (BA.out.later hB)
    replace BB := Lib.hid (BB.out.later hB)
    replace W0 := Lib.hid (W0.out.later hB)
    replace B0 := Lib.hid (Below.next B0.out hB)
    clear hB
    go_wp2_with fail
    have l9 := below_alloc w8 (.cells #[.int .u8 0, .int .i64 0, .int .i64 0, .int .i64 0, .int .i64 0, .int .i64 0, .string ⟨#[]⟩, .int .u64 0, .int .u64 0, .int .u64 0, .int .u8 0, .int .u64 0, .int .i64 0] 28)
    replace BA := Lib.hid (BA.out.later l9)
    replace BB := Lib.hid (BB.out.later l9)
    replace W0 := Lib.hid (W0.out.later l9)
    replace B0 := Lib.hid (Below.next B0.out l9)
    clear l9
    refine (HK'.out _ W0.out).mono ?_
    rintro e w9 ⟨rfl, hB⟩
    replace BA := Lib.hid (BA.out.later hB)
    replace BB := Lib.hid (BB.out.later hB)
    replace W0 := Lib.hid (W0.out.later hB)
    replace B0 := Lib.hid (Below.next B0.out hB)
    clear hB
    go_wp2_with fail
    go_ret
    exact ⟨rfl, B0.out⟩
set_option maxRecDepth 100000 in
set_option maxHeartbeats 3200000 in
theorem yeh (akd aus ac1 ar1 ac2 ar2 ard awr aow afns atos aidx : Int) (ainp : ByteArray) (bkd bus bc1 br1 bc2 br2 brd bwr bow bfns btos bidx : Int) (binp : ByteArray) (ckd cus cc1 cr1 cc2 cr2 crd cwr cow cfns ctos cidx : Int) (cinp : ByteArray) (X Y s : ByteArray) {v0 v1 v2 : Value}
 (HFA : (∀ W, Wo v0 v1 v2 W → Calls Tryz.prog 9 #[.agg #[.int .u8 akd, .int .i64 aus, .int .i64 ac1, .int .i64 ar1, .int .i64 ac2, .int .i64 ar2, .string ainp, .int .u64 ard, .int .u64 awr, .int .u64 aow, .int .u8 afns, .int .u64 atos, .int .i64 aidx]] W fun e w' => e = .returned (.tuple #[.string X, .int .i64 0]) ∧ Below W.heap.size W w')) (HCA : (∀ W, Calls Tryz.prog 11 #[.agg #[.int .u8 akd, .int .i64 aus, .int .i64 ac1, .int .i64 ar1, .int .i64 ac2, .int .i64 ar2, .string ainp, .int .u64 ard, .int .u64 awr, .int .u64 aow, .int .u8 afns, .int .u64 atos, .int .i64 aidx]] W fun e w' => e = .returned (.int .i64 0) ∧ Below W.heap.size W w')) (HPX : (∀ W, Wo v0 v1 v2 W → Calls Tryz.prog 17 #[.string X] W fun e w' => e = .returned (.tuple #[.agg #[.int .u8 akd, .int .i64 aus, .int .i64 ac1, .int .i64 ar1, .int .i64 ac2, .int .i64 ar2, .string ainp, .int .u64 ard, .int .u64 awr, .int .u64 aow, .int .u8 afns, .int .u64 atos, .int .i64 aidx], .int .i64 0]) ∧ Below W.heap.size W w')) (hpr : ∀ (k : Nat) (h : k < X.size), 32 ≤ (X[k].toNat : Int) ∧ (X[k].toNat : Int) ≤ 126) (hX : X.size ≤ 2000)
 (HFB : (∀ W, Wo v0 v1 v2 W → Calls Tryz.prog 9 #[.agg #[.int .u8 bkd, .int .i64 bus, .int .i64 bc1, .int .i64 br1, .int .i64 bc2, .int .i64 br2, .string binp, .int .u64 brd, .int .u64 bwr, .int .u64 bow, .int .u8 bfns, .int .u64 btos, .int .i64 bidx]] W fun e w' => e = .returned (.tuple #[.string Y, .int .i64 4]) ∧ Below W.heap.size W w'))
 (HPS : (∀ W, Wo v0 v1 v2 W → Calls Tryz.prog 17 #[.string s] W fun e w' => e = .returned (.tuple #[.agg #[.int .u8 ckd, .int .i64 cus, .int .i64 cc1, .int .i64 cr1, .int .i64 cc2, .int .i64 cr2, .string cinp, .int .u64 crd, .int .u64 cwr, .int .u64 cow, .int .u8 cfns, .int .u64 ctos, .int .i64 cidx], .int .i64 0]) ∧ Below W.heap.size W w')) (HK : (∀ W, Wo v0 v1 v2 W → Calls Tryz.prog 6 #[] W fun e w' => e = .returned (.bool true) ∧ Below W.heap.size W w'))
 (HFC : (∀ W, Wo v0 v1 v2 W → Calls Tryz.prog 9 #[.agg #[.int .u8 ckd, .int .i64 cus, .int .i64 cc1, .int .i64 cr1, .int .i64 cc2, .int .i64 cr2, .string cinp, .int .u64 crd, .int .u64 cwr, .int .u64 cow, .int .u8 cfns, .int .u64 ctos, .int .i64 cidx]] W fun e w' => e = .returned (.tuple #[.string s, .int .i64 0]) ∧ Below W.heap.size W w')) (HCC : (∀ W, Calls Tryz.prog 11 #[.agg #[.int .u8 ckd, .int .i64 cus, .int .i64 cc1, .int .i64 cr1, .int .i64 cc2, .int .i64 cr2, .string cinp, .int .u64 crd, .int .u64 cwr, .int .u64 cow, .int .u8 cfns, .int .u64 ctos, .int .i64 cidx]] W fun e w' => e = .returned (.int .i64 0) ∧ Below W.heap.size W w'))
 (h1 : ainp.size ≤ 600) (h2 : binp.size ≤ 600) (h3 : s.size ≤ 1000) (w : World) (hw : Wo v0 v1 v2 w) : Calls Tryz.prog 5 #[.agg #[.int .u8 akd, .int .i64 aus, .int .i64 ac1, .int .i64 ar1, .int .i64 ac2, .int .i64 ar2, .string ainp, .int .u64 ard, .int .u64 awr, .int .u64 aow, .int .u8 afns, .int .u64 atos, .int .i64 aidx], .agg #[.int .u8 bkd, .int .i64 bus, .int .i64 bc1, .int .i64 br1, .int .i64 bc2, .int .i64 br2, .string binp, .int .u64 brd, .int .u64 bwr, .int .u64 bow, .int .u8 bfns, .int .u64 btos, .int .i64 bidx], .string s] w fun e w' => e = .returned (.bool true) ∧ Below w.heap.size w w' := by
 have FA := Lib.hid HFA
 have FB := Lib.hid HFB
 have CA := Lib.hid HCA
 have PX := Lib.hid HPX
 have PS := Lib.hid HPS
 have HK' := Lib.hid HK
 have PR := Lib.hid hpr
 have HW := Lib.hid hw
 have FC := Lib.hid HFC
 have CC := Lib.hid HCC
 clear HFA HFB HCA HPX HPS HK hpr hw HFC HCC
 have i1 : ¬ (ainp.size : Int) > 600 := by omega
 have i2 : ¬ (binp.size : Int) > 600 := by omega
 have i3 : ¬ (s.size : Int) > 1000 := by omega
 go_enter Tryz.func5, Tryz.ntmps5
 have l1 := below_alloc w (.cells #[.int .u8 akd, .int .i64 aus, .int .i64 ac1, .int .i64 ar1, .int .i64 ac2, .int .i64 ar2, .string ainp, .int .u64 ard, .int .u64 awr, .int .u64 aow, .int .u8 afns, .int .u64 atos, .int .i64 aidx] 28)
 have l2 := below_alloc (w.alloc (.cells #[.int .u8 akd, .int .i64 aus, .int .i64 ac1, .int .i64 ar1, .int .i64 ac2, .int .i64 ar2, .string ainp, .int .u64 ard, .int .u64 awr, .int .u64 aow, .int .u8 afns, .int .u64 atos, .int .i64 aidx] 28)) (.cells #[.int .u8 bkd, .int .i64 bus, .int .i64 bc1, .int .i64 br1, .int .i64 bc2, .int .i64 br2, .string binp, .int .u64 brd, .int .u64 bwr, .int .u64 bow, .int .u8 bfns, .int .u64 btos, .int .i64 bidx] 28)
 have BA := (At13.start w akd aus ac1 ar1 ac2 ar2 ard awr aow afns atos aidx ainp 28).later l2
 have BB := At13.start (w.alloc (.cells #[.int .u8 akd, .int .i64 aus, .int .i64 ac1, .int .i64 ar1, .int .i64 ac2, .int .i64 ar2, .string ainp, .int .u64 ard, .int .u64 awr, .int .u64 aow, .int .u8 afns, .int .u64 atos, .int .i64 aidx] 28)) bkd bus bc1 br1 bc2 br2 brd bwr bow bfns btos bidx binp 28
 rw [zb3] at BB
 have W0 := HW.out.later (Below.next l1 l2)
 have B0 := Below.next l1 l2
 go_wp2_with fail
 generalize (w.alloc (.cells #[.int .u8 akd, .int .i64 aus, .int .i64 ac1, .int .i64 ar1, .int .i64 ac2, .int .i64 ar2, .string ainp, .int .u64 ard, .int .u64 awr, .int .u64 aow, .int .u8 afns, .int .u64 atos, .int .i64 aidx] 28)).alloc (.cells #[.int .u8 bkd, .int .i64 bus, .int .i64 bc1, .int .i64 br1, .int .i64 bc2, .int .i64 br2, .string binp, .int .u64 brd, .int .u64 bwr, .int .u64 bow, .int .u8 bfns, .int .u64 btos, .int .i64 bidx] 28) = w2 at *
 replace BA := Lib.hid BA
 replace BB := Lib.hid BB
 replace W0 := Lib.hid W0
 replace B0 := Lib.hid B0
 clear l1 l2
 obtain ⟨al, a0, a1, a2, a3, a4, a5, a6, a7, a8, a9, a10, a11, a12⟩ := BA.out
 obtain ⟨bl, b0, b1, b2, b3, b4, b5, b6, b7, b8, b9, b10, b11, b12⟩ := BB.out
 refine (FA.out _ W0.out).mono ?_
 rintro e w3 ⟨rfl, hB⟩
 clear al a0 a1 a2 a3 a4 a5 a6 a7 a8 a9 a10 a11 a12 bl b0 b1 b2 b3 b4 b5 b6 b7 b8 b9 b10 b11 b12
 replace BA := Lib.hid (BA.out.later hB)
 replace BB := Lib.hid (BB.out.later hB)
 replace W0 := Lib.hid (W0.out.later hB)
 replace B0 := Lib.hid (Below.next B0.out hB)
 clear hB
 obtain ⟨al, a0, a1, a2, a3, a4, a5, a6, a7, a8, a9, a10, a11, a12⟩ := BA.out
 obtain ⟨bl, b0, b1, b2, b3, b4, b5, b6, b7, b8, b9, b10, b11, b12⟩ := BB.out
 go_wp2_with fail
 refine (FB.out _ W0.out).mono ?_
 rintro e w4 ⟨rfl, hB⟩
 clear al a0 a1 a2 a3 a4 a5 a6 a7 a8 a9 a10 a11 a12 bl b0 b1 b2 b3 b4 b5 b6 b7 b8 b9 b10 b11 b12
 replace BA := Lib.hid (BA.out.later hB)
 replace BB := Lib.hid (BB.out.later hB)
 replace W0 := Lib.hid (W0.out.later hB)
 replace B0 := Lib.hid (Below.next B0.out hB)
 clear hB
 obtain ⟨al, a0, a1, a2, a3, a4, a5, a6, a7, a8, a9, a10, a11, a12⟩ := BA.out
 obtain ⟨bl, b0, b1, b2, b3, b4, b5, b6, b7, b8, b9, b10, b11, b12⟩ := BB.out
 go_wp2_with fail
 refine (CA.out _).mono ?_
 rintro e w5 ⟨rfl, hB⟩
 clear al a0 a1 a2 a3 a4 a5 a6 a7 a8 a9 a10 a11 a12 bl b0 b1 b2 b3 b4 b5 b6 b7 b8 b9 b10 b11 b12
 replace BA := Lib.hid (BA.out.later hB)
 replace BB := Lib.hid (BB.out.later hB)
 replace W0 := Lib.hid (W0.out.later hB)
 replace B0 := Lib.hid (Below.next B0.out hB)
 clear hB
 obtain ⟨al, a0, a1, a2, a3, a4, a5, a6, a7, a8, a9, a10, a11, a12⟩ := BA.out
 obtain ⟨bl, b0, b1, b2, b3, b4, b5, b6, b7, b8, b9, b10, b11, b12⟩ := BB.out
 go_wp2_with fail
 refine (PX.out _ W0.out).mono ?_
 rintro e w6 ⟨rfl, hB⟩
 clear al a0 a1 a2 a3 a4 a5 a6 a7 a8 a9 a10 a11 a12 bl b0 b1 b2 b3 b4 b5 b6 b7 b8 b9 b10 b11 b12
 replace BA := Lib.hid (BA.out.later hB)
 replace BB := Lib.hid (BB.out.later hB)
 replace W0 := Lib.hid (W0.out.later hB)
 replace B0 := Lib.hid (Below.next B0.out hB)
 clear hB
 obtain ⟨al, a0, a1, a2, a3, a4, a5, a6, a7, a8, a9, a10, a11, a12⟩ := BA.out
 obtain ⟨bl, b0, b1, b2, b3, b4, b5, b6, b7, b8, b9, b10, b11, b12⟩ := BB.out
 go_wp2_with fail
 clear al a0 a1 a2 a3 a4 a5 a6 a7 a8 a9 a10 a11 a12 bl b0 b1 b2 b3 b4 b5 b6 b7 b8 b9 b10 b11 b12
 have l7 := below_alloc w6 (.cells #[.int .u8 akd, .int .i64 aus, .int .i64 ac1, .int .i64 ar1, .int .i64 ac2, .int .i64 ar2, .string ainp, .int .u64 ard, .int .u64 awr, .int .u64 aow, .int .u8 afns, .int .u64 atos, .int .i64 aidx] 28)
 replace BA := Lib.hid (BA.out.later l7)
 replace BB := Lib.hid (BB.out.later l7)
 replace W0 := Lib.hid (W0.out.later l7)
 replace B0 := Lib.hid (Below.next B0.out l7)
 clear l7
 generalize w6.alloc (.cells #[.int .u8 akd, .int .i64 aus, .int .i64 ac1, .int .i64 ar1, .int .i64 ac2, .int .i64 ar2, .string ainp, .int .u64 ard, .int .u64 awr, .int .u64 aow, .int .u8 afns, .int .u64 atos, .int .i64 aidx] 28) = w7 at *
 generalize w6.heap.size = p11 at *
 obtain ⟨al, a0, a1, a2, a3, a4, a5, a6, a7, a8, a9, a10, a11, a12⟩ := BA.out
 obtain ⟨bl, b0, b1, b2, b3, b4, b5, b6, b7, b8, b9, b10, b11, b12⟩ := BB.out
 go_loop [13] (fun i => ∃ k : Nat, k ≤ X.size ∧ i = .int .i64 k) (fun i => X.size - (intOf i).toNat)
 case atStart => exact ⟨0, Nat.zero_le _, rfl⟩
 case round =>
  obtain ⟨k, hk, rfl⟩ := hrel
  by_cases hlt : k < X.size
  · obtain ⟨q1, q2⟩ := PR.out k hlt
    go_wp2_with fail
    go_round
    case rel => exact ⟨k + 1, by omega, by go_num⟩
    case measure => simp [intOf]; omega
  · obtain rfl : k = X.size := by omega
    clear hlt hk
    go_wp2_with fail
    refine (PS.out _ W0.out).mono ?_
    rintro e w8 ⟨rfl, hB⟩
    clear al a0 a1 a2 a3 a4 a5 a6 a7 a8 a9 a10 a11 a12 bl b0 b1 b2 b3 b4 b5 b6 b7 b8 b9 b10 b11 b12
    replace BA := Lib.hid (BA.out.later hB)
    replace BB := Lib.hid (BB.out.later hB)
    replace W0 := Lib.hid (W0.out.later hB)
    replace B0 := Lib.hid (Below.next B0.out hB)
    clear hB
    go_wp2_with fail
    have l9 := below_alloc w8 (.cells #[.int .u8 ckd, .int .i64 cus, .int .i64 cc1, .int .i64 cr1, .int .i64 cc2, .int .i64 cr2, .string cinp, .int .u64 crd, .int .u64 cwr, .int .u64 cow, .int .u8 cfns, .int .u64 ctos, .int .i64 cidx] 28)
    have BC := At13.start w8 ckd cus cc1 cr1 cc2 cr2 crd cwr cow cfns ctos cidx cinp 28
    replace W0 := Lib.hid (W0.out.later l9)
    replace B0 := Lib.hid (Below.next B0.out l9)
    clear l9
    generalize w8.alloc (.cells #[.int .u8 ckd, .int .i64 cus, .int .i64 cc1, .int .i64 cr1, .int .i64 cc2, .int .i64 cr2, .string cinp, .int .u64 crd, .int .u64 cwr, .int .u64 cow, .int .u8 cfns, .int .u64 ctos, .int .i64 cidx] 28) = w9 at *
    generalize w8.heap.size = p14 at *
    clear BA BB
    replace BC := Lib.hid BC
    refine (FC.out _ W0.out).mono ?_
    rintro e w10 ⟨rfl, hB⟩
    replace BC := Lib.hid (BC.out.later hB)
    replace W0 := Lib.hid (W0.out.later hB)
    replace B0 := Lib.hid (Below.next B0.out hB)
    clear hB
    obtain ⟨cl, c0, c1, c2, c3, c4, c5, c6, c7, c8, c9, c10, c11, c12⟩ := BC.out
    go_wp2_with fail
    clear cl c0 c1 c2 c3 c4 c5 c6 c7 c8 c9 c10 c11 c12
    refine (CC.out _).mono ?_
    rintro e w11 ⟨rfl, hB⟩
    replace BC := Lib.hid (BC.out.later hB)
    replace W0 := Lib.hid (W0.out.later hB)
    replace B0 := Lib.hid (Below.next B0.out hB)
    clear hB
    obtain ⟨cl, c0, c1, c2, c3, c4, c5, c6, c7, c8, c9, c10, c11, c12⟩ := BC.out
    go_wp2_with fail
    clear cl c0 c1 c2 c3 c4 c5 c6 c7 c8 c9 c10 c11 c12
    refine (HK'.out _ W0.out).mono ?_
    rintro e w12 ⟨rfl, hB⟩
    replace BC := Lib.hid (BC.out.later hB)
    replace W0 := Lib.hid (W0.out.later hB)
    replace B0 := Lib.hid (Below.next B0.out hB)
    clear hB
    obtain ⟨cl, c0, c1, c2, c3, c4, c5, c6, c7, c8, c9, c10, c11, c12⟩ := BC.out
    go_wp2_with fail
    clear cl c0 c1 c2 c3 c4 c5 c6 c7 c8 c9 c10 c11 c12
    go_ret
    exact ⟨rfl, B0.out⟩
end Go.Proofs.YtelanmknimapoaaGreatDoor.Ob
