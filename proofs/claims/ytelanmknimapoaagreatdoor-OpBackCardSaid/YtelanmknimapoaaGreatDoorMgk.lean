/- Merged: ObT ObS. -/
import Derived.Test.YtelanmknimapoaaGreatDoorObP
import Derived.Test.YtelanmknimapoaaGreatDoorObF
import Derived.Test.YtelanmknimapoaaGreatDoorAddrMathC
import Derived.Test.YtelanmknimapoaaGreatDoorMgi
/- What a line says, word after word. No run in this file. -/
namespace Go.Proofs.YtelanmknimapoaaGreatDoor.Ob
open Go Go.RowKit Gf Re Re.AM
set_option linter.unusedVariables false
set_option linter.unusedSimpArgs false
def tl : Nat → By → By
 | 0, s => s
 | n + 1, s => (Lib.cut (tl n s) [32]).2.1
def wd (n : Nat) (s : By) : By := (Lib.cut (tl n s) [32]).1
theorem zo1 : ∀ (n : Nat) (L : List By), (∀ w ∈ L.take n, (32 : UInt8) ∉ w) → n ≤ L.length → tl n (Lib.join L [32]) = Lib.join (L.drop n) [32]
 | 0, L, _, _ => rfl
 | n + 1, L, h, hl => by
  have hlt : n < L.length := by omega
  rw [tl, zo1 n L (fun w hw => h w (by
   have : L.take n = (L.take (n + 1)).take n := by rw [List.take_take]; congr 1; omega
   rw [this] at hw; exact List.mem_of_mem_take hw)) (by omega), List.drop_eq_getElem_cons hlt]
  exact (zr2 _ _ (h _ (by rw [List.take_succ_eq_append_getElem hlt]; exact List.mem_append_right _ (List.mem_singleton.2 rfl)))).2
theorem zds (n : Nat) (L : List By) (h : ∀ w ∈ L.take (n + 1), (32 : UInt8) ∉ w) (hl : n < L.length) : wd n (Lib.join L [32]) = L[n] := by
 unfold wd
 rw [zo1 n L (fun w hw => h w (by
  have : L.take n = (L.take (n + 1)).take n := by rw [List.take_take]; congr 1; omega
  rw [this] at hw; exact List.mem_of_mem_take hw)) (by omega), List.drop_eq_getElem_cons hl]
 exact (zr2 _ _ (h _ (by rw [List.take_succ_eq_append_getElem hl]; exact List.mem_append_right _ (List.mem_singleton.2 rfl)))).1
theorem cut_le (A : By) : (Lib.cut A [32]).1.length ≤ A.length ∧ (Lib.cut A [32]).2.1.length ≤ A.length := by
 unfold Lib.cut
 split
 · simp; omega
 · simp
theorem zo0 : ∀ (n : Nat) (s : By), (tl n s).length ≤ s.length
 | 0, s => Nat.le_refl _
 | n + 1, s => Nat.le_trans (cut_le _).2 (zo0 n s)
theorem zap (n : Nat) (s : By) : (wd n s).length ≤ s.length := Nat.le_trans (cut_le _).1 (zo0 n s)
theorem zxl {l : List UInt8} {c r : Int} (h : PZ l = (c, r, 0)) (j : Nat) : l[j]? ≠ some 58 := by
 intro hj
 unfold PZ at h
 cases hr : rd l with
 | none => rw [hr] at h; simp at h
 | some s =>
  obtain ⟨g1, _⟩ := zq1 hr
  have hlt : j < l.length := by
   rcases Nat.lt_or_ge j l.length with h | h
   · exact h
   · rw [List.getElem?_eq_none h] at hj; cases hj
  have := g1 j hlt
  rw [List.getElem?_eq_getElem hlt] at hj
  rw [Option.some.inj hj] at this
  revert this; decide
theorem yhk {a b c d : Int} (hk : ckB a b c d = true) : RZ (fmtR a b c d) = (a, b, c, d, 0) := by
 have hq := ckB_iff.1 hk
 have e1 : PZ (fmtL a b) = (a, b, 0) := ybm (zi8 hq.1)
 have e2 : PZ (fmtL c d) = (c, d, 0) := ybm (zi8 hq.2.1)
 unfold fmtR
 by_cases h : a = c ∧ b = d
 · rw [if_pos h]
   have hc : zbg (fmtL a b) = (fmtL a b).length := (zhv ⟨Nat.le_refl _, fun j _ => zxl e1 j, fun h => absurd h (Nat.lt_irrefl _)⟩).symm
   unfold RZ
   rw [hc, if_neg (Nat.lt_irrefl _), List.take_of_length_le (Nat.le_refl _), e1, zr5 rfl rfl]
   obtain ⟨rfl, rfl⟩ := h
   simp
 · rw [if_neg h]
   have hc : zbg (fmtL a b ++ [58] ++ fmtL c d) = (fmtL a b).length := (zhv ⟨by simp, fun j hj => by
    rw [List.append_assoc, List.getElem?_append_left hj]; exact zxl e1 j, fun _ => by rw [List.append_assoc, List.getElem?_append_right (Nat.le_refl _)]; simp⟩).symm
   unfold RZ
   rw [hc, if_pos (by simp), List.append_assoc, List.take_append_of_le_length (Nat.le_refl _), List.take_of_length_le (Nat.le_refl _)]
   have hd : (fmtL a b ++ ([58] ++ fmtL c d)).drop ((fmtL a b).length + 1) = fmtL c d := by
    rw [List.drop_append]; simp
   rw [hd, e1, e2, zr5 rfl rfl]
   simp only [Prod.mk.injEq, and_true]
   omega
section
open Gl Gl.GM
theorem yha {l : List UInt8} (h : chk l = 0) : l.length ≤ 256 ∧ plain l = true := by
 refine ⟨chk_z h, ?_⟩
 cases hp : plain l with
 | true => rfl
 | false => rw [chk_form (by have := chk_z h; omega) hp] at h; cases h
theorem zv5 (q : List UInt8) : inner (34 :: (q ++ [34])) = q := by unfold inner; simp
theorem zug {l : List UInt8} (h : chk l = 0) : unqS (quoS l) = (l, 0) := by
 obtain ⟨h1, h2⟩ := yha h
 rw [quoS_yes h]
 have hp : plain (34 :: (quo l ++ [34])) = true := by rw [plain_cons, zf2, plain_quo, h2]; rfl
 have hok : okU (34 :: (quo l ++ [34])) = true := by
  unfold okU
  rw [hp]
  have e : (34 :: (quo l ++ [34])).getD ((34 :: (quo l ++ [34])).length - 1) 0 = 34 := by simp [List.getD]
  rw [e]; simp
 exact unqS_yes hok (by rw [zv5]; exact yby l) (by omega)
end
/-! Texts of ranges -/
theorem zxm {l : By} {e : Int} (he : e = 0) (h : (PZ l).2.2 = e) : (44 : UInt8) ∉ l := by
 subst he
 intro hm
 unfold PZ at h
 cases hr : rd l with
 | none => rw [hr] at h; simp at h
 | some s =>
  obtain ⟨g1, _⟩ := zq1 hr
  obtain ⟨j, hlt, hj⟩ := List.getElem_of_mem hm
  have := g1 j hlt
  rw [hj] at this
  revert this; decide
theorem yeq {l : By} (h : (RZ l).2.2.2.2 = 0) : (44 : UInt8) ∉ l := by
 unfold RZ at h
 have h1 : (PZ (l.take (zbg l))).2.2 = 0 ∧ ((if zbg l < l.length then PZ (l.drop (zbg l + 1)) else PZ (l.take (zbg l))).2.2) = 0 := by
  revert h
  generalize PZ (l.take (zbg l)) = p
  generalize (if zbg l < l.length then PZ (l.drop (zbg l + 1)) else p) = q
  intro h
  unfold comb at h
  split at h
  · simp at h
  · rename_i k1
    split at h
    · simp at h
    · rename_i k2
      simp only [ne_eq, not_or, Classical.not_not] at k2
      exact k2
 have hc := (zmt l).2.2
 have k1 := zxm rfl h1.1
 intro hm
 by_cases hlt : zbg l < l.length
 · rw [if_pos hlt] at h1
   have k2 := zxm rfl h1.2
   have e : l = l.take (zbg l) ++ l[zbg l] :: l.drop (zbg l + 1) := by
    rw [← List.drop_eq_getElem_cons hlt, List.take_append_drop]
   rw [e, List.mem_append, List.mem_cons] at hm
   rcases hm with hm | hm | hm
   · exact k1 hm
   · have := hc hlt
     rw [List.getElem?_eq_getElem hlt, ← hm] at this
     exact absurd this (by decide)
   · exact k2 hm
 · rw [List.take_of_length_le (by omega)] at k1
   exact k1 hm
theorem zc2 {n : Int} (h : Ii n) : numR (Lib.itoa n) = some n := by unfold numR; rw [zxa h]
theorem ztw {a b c d : Int} (h0 : Ii a) (h1 : Ii b) (h2 : Ii c) (h3 : Ii d) : zbb (za0 a b c d) = some (a, b, c, d) := by
 unfold za0
 cases hk : ckB a b c d
 · rw [if_neg (by simp)]
   have hn : ∀ w ∈ [Lib.itoa a, Lib.itoa b, Lib.itoa c, Lib.itoa d], (44 : UInt8) ∉ w := by
    intro w hw
    simp only [List.mem_cons, List.not_mem_nil, or_false] at hw
    rcases hw with rfl | rfl | rfl | rfl <;> exact zme (by decide)
   have hsp : wsOf (Lib.join [Lib.itoa a, Lib.itoa b, Lib.itoa c, Lib.itoa d] [44]) = [Lib.itoa a, Lib.itoa b, Lib.itoa c, Lib.itoa d] := zgv 44 _ (by simp) hn
   have hm : (44 : UInt8) ∈ Lib.join [Lib.itoa a, Lib.itoa b, Lib.itoa c, Lib.itoa d] [44] := by rw [za3]; simp
   unfold zbb
   rw [if_neg (fun he => yeq he hm), hsp]
   simp only [zc2 h0, zc2 h1, zc2 h2, zc2 h3]
 · rw [if_pos rfl]
   unfold zbb
   rw [yhk hk]
   rfl
structure Rd (s : By) (g : OV) : Prop where
 w0 : wd 0 s = zaj g.kd
 w1 : numR (wd 1 s) = some g.us
 ar : tgtB g.kd = true → zbb (wd 2 s) = some (g.c1, g.r1, g.c2, g.r2)
 s3 : g.kd = 3 → Gl.unqS (tl 3 s) = (g.inp.data.toList, 0)
 s7 : g.kd = 7 → pzS (wd 3 s) = (g.rd, 0) ∧ pzS (wd 4 s) = (g.wr, 0) ∧ pzS (wd 5 s) = (g.ow, 0)
 s8 : g.kd = 8 → numR (wd 3 s) = some (g.fns : Int) ∧ pzS (wd 4 s) = (g.tos, 0)
 s9 : g.kd = 9 → numR (wd 2 s) = some g.idx
theorem zbu (g : OV) (hg : OkV g) (hok : Ot.okO g = true) : Rd (fmtO g) g := by
 have hk := zav hok
 have hq := znm hok
 have n0 := ybq hk.2
 have n1 : (32 : UInt8) ∉ Lib.itoa g.us := zme (by decide)
 have n2 : (32 : UInt8) ∉ za0 g.c1 g.r1 g.c2 g.r2 := yel _ _ _ _
 have n3 : (32 : UInt8) ∉ Lib.itoa (g.fns : Int) := zme (by decide)
 have n4 : (32 : UInt8) ∉ Lib.itoa g.idx := zme (by decide)
 have n5 := zmk g.rd
 have n6 := zmk g.wr
 have n7 := zmk g.ow
 have n8 := zmk g.tos
 have e0 : wd 0 (fmtO g) = zaj g.kd := by
  refine (zds 0 (zbr g) (fun w hw => ?_) (by simp [zbr])).trans rfl
  simp [zbr] at hw; subst hw; exact n0
 have e1 : wd 1 (fmtO g) = Lib.itoa g.us := by
  refine (zds 1 (zbr g) (fun w hw => ?_) (by simp [zbr])).trans rfl
  simp [zbr] at hw; rcases hw with rfl | rfl
  · exact n0
  · exact n1
 refine ⟨e0, by rw [e1]; exact zc2 hg.us, fun ht => ?_, fun h => ?_, fun h => ?_, fun h => ?_, fun h => ?_⟩
 · have hp : zbr g = zaj g.kd :: Lib.itoa g.us :: za0 g.c1 g.r1 g.c2 g.r2 :: zhy g := by unfold zbr; rw [if_pos ht]; rfl
   have e2 : wd 2 (fmtO g) = za0 g.c1 g.r1 g.c2 g.r2 := by
    unfold fmtO; rw [hp]
    refine (zds 2 _ (fun w hw => ?_) (by simp)).trans rfl
    simp at hw; rcases hw with rfl | rfl | rfl
    · exact n0
    · exact n1
    · exact n2
   rw [e2]; exact ztw hg.c1 hg.r1 hg.c2 hg.r2
 · have hp : zbr g = [zaj g.kd, Lib.itoa g.us, za0 g.c1 g.r1 g.c2 g.r2, Gl.quoS g.inp.data.toList] := by unfold zbr zhy; rw [h]; rfl
   have e3 : tl 3 (fmtO g) = Gl.quoS g.inp.data.toList := by
    unfold fmtO; rw [hp]
    refine (zo1 3 _ (fun w hw => ?_) (by simp)).trans ?_
    · simp at hw; rcases hw with rfl | rfl | rfl
      · exact n0
      · exact n1
      · exact n2
    · exact join_one _ _
   rw [e3]; exact zug (hq h)
 · have hp : zbr g = [zaj g.kd, Lib.itoa g.us, za0 g.c1 g.r1 g.c2 g.r2, fmtS g.rd, fmtS g.wr, fmtS g.ow] := by unfold zbr zhy; rw [h]; rfl
   have hall : ∀ w ∈ [zaj g.kd, Lib.itoa g.us, za0 g.c1 g.r1 g.c2 g.r2, fmtS g.rd, fmtS g.wr, fmtS g.ow], (32 : UInt8) ∉ w := by
    intro w hw
    simp only [List.mem_cons, List.not_mem_nil, or_false] at hw
    rcases hw with rfl | rfl | rfl | rfl | rfl | rfl <;> assumption
   unfold fmtO; rw [hp]
   refine ⟨?_, ?_, ?_⟩
   · rw [zds 3 _ (fun w hw => hall w (List.mem_of_mem_take hw)) (by simp)]; exact zi2 _
   · rw [zds 4 _ (fun w hw => hall w (List.mem_of_mem_take hw)) (by simp)]; exact zi2 _
   · rw [zds 5 _ (fun w hw => hall w (List.mem_of_mem_take hw)) (by simp)]; exact zi2 _
 · have hp : zbr g = [zaj g.kd, Lib.itoa g.us, za0 g.c1 g.r1 g.c2 g.r2, Lib.itoa (g.fns : Int), fmtS g.tos] := by unfold zbr zhy; rw [h]; rfl
   have hall : ∀ w ∈ [zaj g.kd, Lib.itoa g.us, za0 g.c1 g.r1 g.c2 g.r2, Lib.itoa (g.fns : Int), fmtS g.tos], (32 : UInt8) ∉ w := by
    intro w hw
    simp only [List.mem_cons, List.not_mem_nil, or_false] at hw
    rcases hw with rfl | rfl | rfl | rfl | rfl <;> assumption
   unfold fmtO; rw [hp]
   refine ⟨?_, ?_⟩
   · rw [zds 3 _ (fun w hw => hall w (List.mem_of_mem_take hw)) (by simp)]; exact zc2 (zzd hg.fns)
   · rw [zds 4 _ (fun w hw => hall w (List.mem_of_mem_take hw)) (by simp)]; exact zi2 _
 · have hp : zbr g = [zaj g.kd, Lib.itoa g.us, Lib.itoa g.idx] := by unfold zbr zhy; rw [h]; rfl
   have hall : ∀ w ∈ [zaj g.kd, Lib.itoa g.us, Lib.itoa g.idx], (32 : UInt8) ∉ w := by
    intro w hw
    simp only [List.mem_cons, List.not_mem_nil, or_false] at hw
    rcases hw with rfl | rfl | rfl <;> assumption
   unfold fmtO; rw [hp, zds 2 _ (fun w hw => hall w (List.mem_of_mem_take hw)) (by simp)]
   exact zc2 hg.idx
theorem word_inj {j k : Nat} (hj : 1 ≤ j ∧ j ≤ 10) (hk : 1 ≤ k ∧ k ≤ 10) (h : zaj j = zaj k) : j = k := by
 have : ∀ j : Fin 11, ∀ k : Fin 11, 1 ≤ j.1 → 1 ≤ k.1 → zaj j.1 = zaj k.1 → j = k := by decide
 exact congrArg Fin.val (this ⟨j, by omega⟩ ⟨k, by omega⟩ hj.1 hk.1 h)
theorem zc1 {g : OV} (hok : Ot.okO g = true) : (tgtB g.kd = false → g.c1 = 0 ∧ g.r1 = 0 ∧ g.c2 = 0 ∧ g.r2 = 0) ∧ (g.kd ≠ 3 → g.inp = ⟨#[]⟩) ∧ (g.kd ≠ 7 → g.rd = 0#64 ∧ g.wr = 0#64 ∧ g.ow = 0#64) ∧ (g.kd ≠ 8 → g.fns = 0 ∧ g.tos = 0#64) ∧ (g.kd ≠ 9 → g.idx = 0) := by
 have hk := zav hok
 have z64 : ∀ x : W64, (x.toNat : Int) = 0 → x = 0#64 := fun x h => by apply BitVec.eq_of_toNat_eq; simpa using (by omega : x.toNat = 0)
 obtain ⟨kd, us, c1, r1, c2, r2, inp, rd, wr, ow, fns, tos, idx⟩ := g
 dsimp only at hk ⊢
 rcases (show kd = 1 ∨ kd = 2 ∨ kd = 3 ∨ kd = 4 ∨ kd = 5 ∨ kd = 6 ∨ kd = 7 ∨ kd = 8 ∨ kd = 9 ∨ kd = 10 by omega) with rfl | rfl | rfl | rfl | rfl | rfl | rfl | rfl | rfl | rfl <;>
  (simp [Ot.okO, Ot.okB] at hok; simp [tgtB]; try (have y1 := z64 rd; have y2 := z64 wr; have y3 := z64 ow; have y4 := z64 tos); simp_all)
end Go.Proofs.YtelanmknimapoaaGreatDoor.Ob
/- Ranges, and lines, read by the executor. -/
namespace Go.Proofs.YtelanmknimapoaaGreatDoor.Ob
open Go Go.RowKit Sx Gf Re Re.AM
set_option linter.unusedVariables false
set_option linter.unusedSimpArgs false
theorem zx3 (s : ByteArray) (z1 z2 z3 z4 : Int) (hp : ∀ W, Calls Tryz.prog 86 #[.string s] W fun e w' => e = .returned (.tuple #[.agg #[.int .i64 z1, .int .i64 z2, .int .i64 z3, .int .i64 z4], .int .i64 0]) ∧ Below W.heap.size W w') {v0 v1 v2 : Value} (w : World) (hw : Wo v0 v1 v2 w) : Calls Tryz.prog 60 #[(.string s)] w fun e w' => e = .returned (.agg #[(.int .i64 z1), (.int .i64 z2), (.int .i64 z3), (.int .i64 z4)]) ∧ Below w.heap.size w w' :=
 zam (facts := []) (tab := [(86, [(symV 3)], .tuple #[.agg #[(symV 4), (symV 5), (symV 6), (symV 7)], .int .i64 0])]) (σ := zao [v0, v1, v2, .string s, .int .i64 z1, .int .i64 z2, .int .i64 z3, .int .i64 z4]) (zad (all3 hw.tb.o0 hw.tb.o1 hw.tb.o2 rfl)) hw.tb rfl rfl rfl (zae) (zaa (tok rfl rfl rfl rfl (fun W _ => hp W)) (zac)) (args := [(symV 3)]) (v := .agg #[(symV 4), (symV 5), (symV 6), (symV 7)]) (by kernel_rfl) rfl rfl
theorem zx4 (s : ByteArray) (hs : s.size ≤ 2000) (z1 z2 z3 z4 er : Int) (he : ¬ er = 0) (A B C D : By) (hn : wsOf s.data.toList = [A, B, C, D]) (a b c d : Int) (e0 : numR A = some a) (h0 : A.length ≤ 1000000000) (e1 : numR B = some b) (h1 : B.length ≤ 1000000000) (e2 : numR C = some c) (h2 : C.length ≤ 1000000000) (e3 : numR D = some d) (h3 : D.length ≤ 1000000000) (hp : ∀ W, Calls Tryz.prog 86 #[.string s] W fun e w' => e = .returned (.tuple #[.agg #[.int .i64 z1, .int .i64 z2, .int .i64 z3, .int .i64 z4], .int .i64 er]) ∧ Below W.heap.size W w') {v0 v1 v2 : Value} (w : World) (hw : Wo v0 v1 v2 w) : Calls Tryz.prog 60 #[(.string s)] w fun e w' => e = .returned (.agg #[(.int .i64 a), (.int .i64 b), (.int .i64 c), (.int .i64 d)]) ∧ Below w.heap.size w w' :=
 zbt (facts := [⟨zag .eql 32, [(symV 8), .int .i64 0], .bool false, false⟩]) (tab := [(86, [(symV 3)], .tuple #[.agg #[(symV 4), (symV 5), (symV 6), (symV 7)], (symV 8)]), (58, [(symV 9)], (symV 13)), (58, [(symV 10)], (symV 14)), (58, [(symV 11)], (symV 15)), (58, [(symV 12)], (symV 16))]) (kn := knR [([(symV 3), .string ⟨⟨[44]⟩⟩], [(symV 9), (symV 10), (symV 11), (symV 12)])]) (σ := zao [v0, v1, v2, .string s, .int .i64 z1, .int .i64 z2, .int .i64 z3, .int .i64 z4, .int .i64 er, .string ⟨(A).toArray⟩, .string ⟨(B).toArray⟩, .string ⟨(C).toArray⟩, .string ⟨(D).toArray⟩, .int .i64 a, .int .i64 b, .int .i64 c, .int .i64 d]) (zad (all3 hw.tb.o0 hw.tb.o1 hw.tb.o2 rfl)) hw.tb rfl rfl rfl (zab (zai rfl rfl rfl (by simp [cmpI]; exact he)) (zae)) (zaa (tok rfl rfl rfl rfl (fun W _ => hp W)) (zaa (tok rfl rfl rfl rfl (fun W hW => zas e0 h0 W (hw.at hW).gl)) (zaa (tok rfl rfl rfl rfl (fun W hW => zas e1 h1 W (hw.at hW).gl)) (zaa (tok rfl rfl rfl rfl (fun W hW => zas e2 h2 W (hw.at hW).gl)) (zaa (tok rfl rfl rfl rfl (fun W hW => zas e3 h3 W (hw.at hW).gl)) (zac)))))) (ygj (fun x hx => by rw [List.mem_singleton] at hx; subst hx; exact ⟨rfl, rfl, fun W hW => yay s (by omega) A B C D hn W (hw.at hW).gl⟩)) (args := [(symV 3)]) (v := .agg #[(symV 13), (symV 14), (symV 15), (symV 16)]) (by kernel_rfl) rfl rfl
theorem zhf {s : ByteArray} (hs : s.size ≤ 2000) {x : By} (hx : x ∈ wsOf s.data.toList) : x.length ≤ 1000000000 := by
 have := zeh 44 _ _ x hx
 have hz : s.size = s.data.toList.length := (Array.length_toList).symm
 omega
theorem ye2 {s : By} (h : (RZ s).2.2.2.2 = 0) : rzV (RZ s) = .tuple #[.agg #[.int .i64 (RZ s).1, .int .i64 (RZ s).2.1, .int .i64 (RZ s).2.2.1, .int .i64 (RZ s).2.2.2.1], .int .i64 0] := by unfold rzV; rw [h]
theorem zax (s : ByteArray) (hs : s.size ≤ 2000) {a b c d : Int} (h : zbb s.data.toList = some (a, b, c, d)) {v0 v1 v2 : Value} (w : World) (hw : Wo v0 v1 v2 w) : Calls Tryz.prog 60 #[.string s] w fun e w' => e = .returned (.agg #[.int .i64 a, .int .i64 b, .int .i64 c, .int .i64 d]) ∧ Below w.heap.size w w' := by
 unfold zbb at h
 split at h
 · rename_i he
   obtain ⟨rfl, rfl, rfl, rfl⟩ : _ ∧ _ ∧ _ ∧ _ := by simpa using Option.some.inj h
   exact zx3 s _ _ _ _ (fun W => by have := zex s hs W; rwa [ye2 he] at this) w hw
 · rename_i he
   split at h
   · rename_i A B C D hn
     split at h
     · rename_i a' b' c' d' e0 e1 e2 e3
       obtain ⟨rfl, rfl, rfl, rfl⟩ : _ ∧ _ ∧ _ ∧ _ := by simpa using Option.some.inj h
       exact zx4 s hs _ _ _ _ _ he A B C D hn _ _ _ _ e0 (zhf hs (by rw [hn]; simp)) e1 (zhf hs (by rw [hn]; simp)) e2 (zhf hs (by rw [hn]; simp)) e3 (zhf hs (by rw [hn]; simp)) (fun W => zex s hs W) w hw
     · cases h
   · cases h
theorem zcv (s : ByteArray) (hs : s.size ≤ 2000) (h : zbb s.data.toList = none) (w : World) (hG : Gf.Gl w) : Calls Tryz.prog 60 #[.string s] w fun e w' => e = .panicked fl ∧ Below w.heap.size w w' := by
 unfold zbb at h
 split at h
 · cases h
 · rename_i he
   split at h
   · rename_i A B C D hn
     refine zx6 s hs he A B C D hn (zhf hs (by rw [hn]; simp)) (zhf hs (by rw [hn]; simp)) (zhf hs (by rw [hn]; simp)) (zhf hs (by rw [hn]; simp)) ?_ w hG
     cases e0 : numR A with
     | none => exact .inl rfl
     | some a =>
      refine .inr ⟨⟨a, rfl⟩, ?_⟩
      cases e1 : numR B with
      | none => exact .inl rfl
      | some b =>
       refine .inr ⟨⟨b, rfl⟩, ?_⟩
       cases e2 : numR C with
       | none => exact .inl rfl
       | some c =>
        refine .inr ⟨⟨c, rfl⟩, ?_⟩
        cases e3 : numR D with
        | none => rfl
        | some d => rw [e0, e1, e2, e3] at h; cases h
   · rename_i hn
     refine zx5 s hs he (fun h4 => ?_) w hG
     match hq : wsOf s.data.toList, h4 with
     | [A, B, C, D], _ => exact hn A B C D hq
theorem yh2 (A : By) (hA : A.length ≤ 1000000000) (w : World) (h : Gf.Gl w) : Calls Tryz.prog 85 #[.string ⟨A.toArray⟩, .string ⟨⟨[32]⟩⟩] w fun e w' => e = .returned (.tuple #[.string ⟨(Lib.cut A [32]).1.toArray⟩, .string ⟨(Lib.cut A [32]).2.1.toArray⟩, .bool (Lib.cut A [32]).2.2]) ∧ Below w.heap.size w w' := by
 have hz : (⟨A.toArray⟩ : ByteArray).size = A.length := by simp [ByteArray.size]
 obtain ⟨h0, ⟨m, h1⟩, _⟩ := h
 refine (Tryz.strings_Cut ⟨A.toArray⟩ ⟨#[32]⟩ m w (by omega) h1).mono ?_
 rintro e w' ⟨rfl, n, rfl⟩
 exact ⟨rfl, ⟨rfl, rfl, rfl, Nat.le_refl _, fun _ _ => rfl⟩⟩
end Go.Proofs.YtelanmknimapoaaGreatDoor.Ob
