/- What op.Parse returns. -/
import Derived.Test.YtelanmknimapoaaGreatDoorObQ
namespace Go.Proofs.YtelanmknimapoaaGreatDoor.Ob
open Go Go.RowKit Sx Gf Re Re.AM
set_option linter.unusedVariables false
set_option linter.unusedSimpArgs false
theorem yer {l : List UInt8} {a b c d : Int} (h : RZ l = (a, b, c, d, 0)) : ckB a b c d = true := by
 unfold RZ at h
 obtain ⟨p, hp⟩ : ∃ p, PZ (l.take (zbg l)) = p := ⟨_, rfl⟩
 obtain ⟨q, hq, hqq⟩ : ∃ q, (if zbg l < l.length then PZ (l.drop (zbg l + 1)) else PZ (l.take (zbg l))) = q ∧ (∃ m, PZ m = q) := by
  by_cases h : zbg l < l.length
  · exact ⟨_, if_pos h, _, rfl⟩
  · exact ⟨_, if_neg h, _, rfl⟩
 simp only [hq] at h
 rw [hp] at h
 obtain ⟨m, hm⟩ := hqq
 obtain ⟨p1, p2, pe⟩ := p
 obtain ⟨q1, q2, qe⟩ := q
 unfold comb at h
 split at h
 · simp at h
 · split at h
   · simp at h
   · rename_i g1 g2
     simp only at g1 g2 h
     have e1 : pe = 0 := by omega
     have e2 : qe = 0 := by omega
     subst e1 e2
     simp only [Prod.mk.injEq, and_true] at h
     have o1 := zvj (zxo hp).1
     have o2 := zvj (zxo hm).1
     rw [ckB_iff]
     omega
theorem zek {g h : OV} (q0 : g.kd = h.kd) (q1 : g.us = h.us) (q2 : g.c1 = h.c1) (q3 : g.r1 = h.r1) (q4 : g.c2 = h.c2) (q5 : g.r2 = h.r2) (q6 : g.inp = h.inp) (q7 : g.rd = h.rd) (q8 : g.wr = h.wr) (q9 : g.ow = h.ow) (q10 : g.fns = h.fns) (q11 : g.tos = h.tos) (q12 : g.idx = h.idx) : g = h := by
 cases g; cases h; simp_all
theorem yh6 {b : ByteArray} {l : By} (h : b.data.toList = l) : b = ⟨l.toArray⟩ := by subst h; rfl
def prsV : Option OV → Value
 | none => badV
 | some g => .tuple #[.agg (cellsOV g).toArray, .int .i64 0]
structure RdSpec (A : By) (x : Option OV) : Prop where
 snd : ∀ g, x = some g → OkV g ∧ Ot.okO g = true ∧ fmtO g = A
 cmp : ∀ g, OkV g → Ot.okO g = true → fmtO g = A → x = some g
theorem RdSpec.one {A : By} {x y : Option OV} (h : RdSpec A x) (k : RdSpec A y) : x = y := by
 cases x with
 | some g => obtain ⟨h1, h2, h3⟩ := h.snd g rfl; exact (k.cmp g h1 h2 h3).symm
 | none => cases y with
  | none => rfl
  | some g => obtain ⟨h1, h2, h3⟩ := k.snd g rfl; exact h.cmp g h1 h2 h3
abbrev FC (g : OV) (W : World) (v : Value) : Prop := Calls Tryz.prog 9 #[.agg (cellsOV g).toArray] W fun e w' => e = .returned v ∧ Below W.heap.size W w'
def Rs (A : By) : Prop := ∃ x, RdSpec A x ∧ ∀ (v0 v1 v2 : Value) (w : World), Wo v0 v1 v2 w → PC A w (prsV x)
theorem za4 {A : By} (hno : ∀ g, OkV g → Ot.okO g = true → fmtO g = A → False) (hc : ∀ (v0 v1 v2 : Value) (w : World), Wo v0 v1 v2 w → PC A w (badV)) : Rs A :=
 ⟨none, ⟨fun g h => (by cases h), fun g h1 h2 h3 => (hno g h1 h2 h3).elim⟩, hc⟩
theorem fin {A : By} (g : OV) (hg : OkV g) (hs : g.inp.size ≤ 4000) (hu : ∀ h, OkV h → Ot.okO h = true → fmtO h = A → h = g)
 (h1 : ∀ (v0 v1 v2 : Value) (w : World), Wo v0 v1 v2 w → (∀ W, Wo v0 v1 v2 W → FC g W (.tuple #[.string ⟨A.toArray⟩, .int .i64 0])) → PC A w (prsV (some g)))
 (h2 : ∀ (L : By), L ≠ A → ∀ (v0 v1 v2 : Value) (w : World), Wo v0 v1 v2 w → (∀ W, Wo v0 v1 v2 W → FC g W (.tuple #[.string ⟨L.toArray⟩, .int .i64 0])) → PC A w (badV))
 (h3 : ∀ (v0 v1 v2 : Value) (w : World), Wo v0 v1 v2 w → (∀ W, Wo v0 v1 v2 W → FC g W (.tuple #[.string ⟨⟨[]⟩⟩, .int .i64 4])) → PC A w (badV)) : Rs A := by
 have hF : ∀ (v0 v1 v2 : Value) (W : World), Wo v0 v1 v2 W → FC g W (fmtV g) := fun v0 v1 v2 W hW => zi5 g hg hs W hW
 cases hok : Ot.okO g
 · have e : fmtV g = .tuple #[.string ⟨⟨[]⟩⟩, .int .i64 4] := by unfold fmtV; rw [hok]; rfl
   rw [e] at hF
   exact za4 (fun h a b c => by rw [hu h a b c, hok] at b; cases b) (fun v0 v1 v2 w hw => h3 v0 v1 v2 w hw (hF v0 v1 v2))
 · have e : fmtV g = .tuple #[.string ⟨(fmtO g).toArray⟩, .int .i64 0] := by unfold fmtV; rw [hok]; rfl
   rw [e] at hF
   by_cases hA : fmtO g = A
   · rw [hA] at hF
     exact ⟨some g, ⟨fun h e => by cases e; exact ⟨hg, hok, hA⟩, fun h a b c => by rw [hu h a b c]⟩, fun v0 v1 v2 w hw => h1 v0 v1 v2 w hw (hF v0 v1 v2)⟩
   · exact za4 (fun h a b c => hA (by rw [← hu h a b c]; exact c)) (fun v0 v1 v2 w hw => h2 _ hA v0 v1 v2 w hw (hF v0 v1 v2))
theorem zb1 {A : By} {v : Int} (h : numR A = some v) : Ii v := Lib.atoiAll_bounds (zvl h)
theorem ze5 {A : By} {a b c d : Int} (h : zbb A = some (a, b, c, d)) : Ii a ∧ Ii b ∧ Ii c ∧ Ii d := by
 unfold zbb at h
 split at h
 · rename_i he
   obtain ⟨rfl, rfl, rfl, rfl⟩ : _ ∧ _ ∧ _ ∧ _ := by simpa using Option.some.inj h
   have hk := yer (l := A) (a := (RZ A).1) (b := (RZ A).2.1) (c := (RZ A).2.2.1) (d := (RZ A).2.2.2.1) (Prod.ext rfl (Prod.ext rfl (Prod.ext rfl (Prod.ext rfl he))))
   have hq := ckB_iff.1 hk
   unfold Ii
   omega
 · split at h
   · split at h
     · rename_i e0 e1 e2 e3
       obtain ⟨rfl, rfl, rfl, rfl⟩ : _ ∧ _ ∧ _ ∧ _ := by simpa using Option.some.inj h
       exact ⟨zb1 e0, zb1 e1, zb1 e2, zb1 e3⟩
     · cases h
   · cases h
theorem zq3 (l : By) : (∃ x, pzS l = (x, 0)) ∨ pzS l = (0#64, 4) := by
 rcases zu3 l with ⟨x, _, h⟩ | ⟨_, h⟩
 · exact .inl ⟨x, h⟩
 · exact .inr h
theorem ii0 : Ii 0 := ⟨by decide, by decide⟩
theorem zba {α : Type} {a b : α} (h : some a = some b) : a = b := Option.some.inj h
theorem yex {l : By} {u : By} (h : Gl.unqS l = (u, 0)) : u.length ≤ 4000 := by
 cases ho : Gl.okU l with
 | false => rw [Gl.unqS_bad ho] at h; cases h
 | true =>
  cases hu : Gl.GM.unq (Gl.inner l) with
  | none => rw [Gl.unqS_none ho hu] at h; cases h
  | some x =>
   by_cases hl : 256 < x.length
   · rw [Gl.unqS_long ho hu hl] at h; cases h
   · rw [Gl.unqS_yes ho hu hl] at h
     cases h
     omega
theorem yfc (A : By) (hs : A.length ≤ 2000) (h0 : wd 0 A = zaj 1) : Rs A := by
 have hA : A.length ≤ 1000000000 := by omega
 cases e1 : numR (wd 1 A) with
 | none => exact za4 (fun g hg hok hf => by have r := zbu g hg hok; rw [hf] at r; have q0 := word_inj (zav hok) ⟨by decide, by decide⟩ (r.w0.symm.trans h0); have := r.w1.symm.trans e1; cases this) (fun _ _ _ w hw => ycz A hs hA h0 e1 w hw)
 | some us =>
  refine fin ⟨1, us, 0, 0, 0, 0, ⟨#[]⟩, 0#64, 0#64, 0#64, 0, 0#64, 0⟩ ⟨by show 1 < 256; decide, zb1 e1, ii0, ii0, ii0, ii0, by show 0 < 256; decide, ii0⟩ (by show 0 ≤ 4000; decide) (fun g hg hok hf9 => ?_) (fun _ _ _ w hw hf9 => yfs A hs hA h0 us e1 w hw hf9) (fun L hL _ _ _ w hw hf9 => yga A hs hA h0 us e1 L hL w hw hf9) (fun _ _ _ w hw hf9 => yf1 A hs hA h0 us e1 w hw hf9)
  have r := zbu g hg hok; rw [hf9] at r; have q0 := word_inj (zav hok) ⟨by decide, by decide⟩ (r.w0.symm.trans h0)
  obtain ⟨z1, z2, z3, z4, z5⟩ := zc1 hok
  obtain ⟨u1, u2, u3, u4⟩ := z1 (by rw [q0]; rfl)
  exact zek q0 (zba (r.w1.symm.trans e1)) u1 u2 u3 u4 (z2 (by rw [q0]; decide)) (z3 (by rw [q0]; decide)).1 (z3 (by rw [q0]; decide)).2.1 (z3 (by rw [q0]; decide)).2.2 (z4 (by rw [q0]; decide)).1 (z4 (by rw [q0]; decide)).2 (z5 (by rw [q0]; decide))
theorem yfb (A : By) (hs : A.length ≤ 2000) (h0 : wd 0 A = zaj 2) : Rs A := by
 have hA : A.length ≤ 1000000000 := by omega
 cases e1 : numR (wd 1 A) with
 | none => exact za4 (fun g hg hok hf => by have r := zbu g hg hok; rw [hf] at r; have q0 := word_inj (zav hok) ⟨by decide, by decide⟩ (r.w0.symm.trans h0); have := r.w1.symm.trans e1; cases this) (fun _ _ _ w hw => ycy A hs hA h0 e1 w hw)
 | some us =>
  refine fin ⟨2, us, 0, 0, 0, 0, ⟨#[]⟩, 0#64, 0#64, 0#64, 0, 0#64, 0⟩ ⟨by show 2 < 256; decide, zb1 e1, ii0, ii0, ii0, ii0, by show 0 < 256; decide, ii0⟩ (by show 0 ≤ 4000; decide) (fun g hg hok hf9 => ?_) (fun _ _ _ w hw hf9 => yfr A hs hA h0 us e1 w hw hf9) (fun L hL _ _ _ w hw hf9 => yf9 A hs hA h0 us e1 L hL w hw hf9) (fun _ _ _ w hw hf9 => yf0 A hs hA h0 us e1 w hw hf9)
  have r := zbu g hg hok; rw [hf9] at r; have q0 := word_inj (zav hok) ⟨by decide, by decide⟩ (r.w0.symm.trans h0)
  obtain ⟨z1, z2, z3, z4, z5⟩ := zc1 hok
  obtain ⟨u1, u2, u3, u4⟩ := z1 (by rw [q0]; rfl)
  exact zek q0 (zba (r.w1.symm.trans e1)) u1 u2 u3 u4 (z2 (by rw [q0]; decide)) (z3 (by rw [q0]; decide)).1 (z3 (by rw [q0]; decide)).2.1 (z3 (by rw [q0]; decide)).2.2 (z4 (by rw [q0]; decide)).1 (z4 (by rw [q0]; decide)).2 (z5 (by rw [q0]; decide))
theorem yfa (A : By) (hs : A.length ≤ 2000) (h0 : wd 0 A = zaj 3) : Rs A := by
 have hA : A.length ≤ 1000000000 := by omega
 cases e1 : numR (wd 1 A) with
 | none => exact za4 (fun g hg hok hf => by have r := zbu g hg hok; rw [hf] at r; have q0 := word_inj (zav hok) ⟨by decide, by decide⟩ (r.w0.symm.trans h0); have := r.w1.symm.trans e1; cases this) (fun _ _ _ w hw => ycx A hs hA h0 e1 w hw)
 | some us =>
  cases e2 : zbb (wd 2 A) with
  | none => exact za4 (fun g hg hok hf => by have r := zbu g hg hok; rw [hf] at r; have q0 := word_inj (zav hok) ⟨by decide, by decide⟩ (r.w0.symm.trans h0); have := (r.ar (by rw [q0]; rfl)).symm.trans e2; cases this) (fun _ _ _ w hw => zyp A hs hA h0 us e1 e2 w hw)
  | some q =>
   obtain ⟨c1, r1, c2, r2⟩ := q
   obtain ⟨i1, i2, i3, i4⟩ := ze5 e2
   by_cases e3 : (Gl.unqS (tl 3 A)).2 = 0
   rotate_left
   · exact za4 (fun g hg hok hf => by have r := zbu g hg hok; rw [hf] at r; have q0 := word_inj (zav hok) ⟨by decide, by decide⟩ (r.w0.symm.trans h0); have := r.s3 q0; rw [this] at e3; exact e3 rfl) (fun _ _ _ w hw => yc2 A hs hA h0 us e1 c1 r1 c2 r2 e2 e3 w hw)
   obtain ⟨inp, e3⟩ : ∃ inp, Gl.unqS (tl 3 A) = (inp, 0) := ⟨_, Prod.ext rfl e3⟩
   refine fin ⟨3, us, c1, r1, c2, r2, ⟨inp.toArray⟩, 0#64, 0#64, 0#64, 0, 0#64, 0⟩ ⟨by show 3 < 256; decide, zb1 e1, i1, i2, i3, i4, by show 0 < 256; decide, ii0⟩ (by have := yex e3; simpa [ByteArray.size] using this) (fun g hg hok hf9 => ?_) (fun _ _ _ w hw hf9 => yfq A hs hA h0 us e1 c1 r1 c2 r2 e2 inp e3 w hw hf9) (fun L hL _ _ _ w hw hf9 => yf8 A hs hA h0 us e1 c1 r1 c2 r2 e2 inp e3 L hL w hw hf9) (fun _ _ _ w hw hf9 => yfz A hs hA h0 us e1 c1 r1 c2 r2 e2 inp e3 w hw hf9)
   have r := zbu g hg hok; rw [hf9] at r; have q0 := word_inj (zav hok) ⟨by decide, by decide⟩ (r.w0.symm.trans h0)
   obtain ⟨z1, z2, z3, z4, z5⟩ := zc1 hok
   obtain ⟨u1, u2, u3, u4⟩ : _ ∧ _ ∧ _ ∧ _ := by simpa using zba ((r.ar (by rw [q0]; rfl)).symm.trans e2)
   exact zek q0 (zba (r.w1.symm.trans e1)) u1 u2 u3 u4 (yh6 (congrArg Prod.fst ((r.s3 q0).symm.trans e3))) (z3 (by rw [q0]; decide)).1 (z3 (by rw [q0]; decide)).2.1 (z3 (by rw [q0]; decide)).2.2 (z4 (by rw [q0]; decide)).1 (z4 (by rw [q0]; decide)).2 (z5 (by rw [q0]; decide))
theorem ye9 (A : By) (hs : A.length ≤ 2000) (h0 : wd 0 A = zaj 4) : Rs A := by
 have hA : A.length ≤ 1000000000 := by omega
 cases e1 : numR (wd 1 A) with
 | none => exact za4 (fun g hg hok hf => by have r := zbu g hg hok; rw [hf] at r; have q0 := word_inj (zav hok) ⟨by decide, by decide⟩ (r.w0.symm.trans h0); have := r.w1.symm.trans e1; cases this) (fun _ _ _ w hw => ycw A hs hA h0 e1 w hw)
 | some us =>
  cases e2 : zbb (wd 2 A) with
  | none => exact za4 (fun g hg hok hf => by have r := zbu g hg hok; rw [hf] at r; have q0 := word_inj (zav hok) ⟨by decide, by decide⟩ (r.w0.symm.trans h0); have := (r.ar (by rw [q0]; rfl)).symm.trans e2; cases this) (fun _ _ _ w hw => zyo A hs hA h0 us e1 e2 w hw)
  | some q =>
   obtain ⟨c1, r1, c2, r2⟩ := q
   obtain ⟨i1, i2, i3, i4⟩ := ze5 e2
   refine fin ⟨4, us, c1, r1, c2, r2, ⟨#[]⟩, 0#64, 0#64, 0#64, 0, 0#64, 0⟩ ⟨by show 4 < 256; decide, zb1 e1, i1, i2, i3, i4, by show 0 < 256; decide, ii0⟩ (by show 0 ≤ 4000; decide) (fun g hg hok hf9 => ?_) (fun _ _ _ w hw hf9 => yfp A hs hA h0 us e1 c1 r1 c2 r2 e2 w hw hf9) (fun L hL _ _ _ w hw hf9 => yf7 A hs hA h0 us e1 c1 r1 c2 r2 e2 L hL w hw hf9) (fun _ _ _ w hw hf9 => yfy A hs hA h0 us e1 c1 r1 c2 r2 e2 w hw hf9)
   have r := zbu g hg hok; rw [hf9] at r; have q0 := word_inj (zav hok) ⟨by decide, by decide⟩ (r.w0.symm.trans h0)
   obtain ⟨z1, z2, z3, z4, z5⟩ := zc1 hok
   obtain ⟨u1, u2, u3, u4⟩ : _ ∧ _ ∧ _ ∧ _ := by simpa using zba ((r.ar (by rw [q0]; rfl)).symm.trans e2)
   exact zek q0 (zba (r.w1.symm.trans e1)) u1 u2 u3 u4 (z2 (by rw [q0]; decide)) (z3 (by rw [q0]; decide)).1 (z3 (by rw [q0]; decide)).2.1 (z3 (by rw [q0]; decide)).2.2 (z4 (by rw [q0]; decide)).1 (z4 (by rw [q0]; decide)).2 (z5 (by rw [q0]; decide))
theorem ye8 (A : By) (hs : A.length ≤ 2000) (h0 : wd 0 A = zaj 5) : Rs A := by
 have hA : A.length ≤ 1000000000 := by omega
 cases e1 : numR (wd 1 A) with
 | none => exact za4 (fun g hg hok hf => by have r := zbu g hg hok; rw [hf] at r; have q0 := word_inj (zav hok) ⟨by decide, by decide⟩ (r.w0.symm.trans h0); have := r.w1.symm.trans e1; cases this) (fun _ _ _ w hw => ycv A hs hA h0 e1 w hw)
 | some us =>
  cases e2 : zbb (wd 2 A) with
  | none => exact za4 (fun g hg hok hf => by have r := zbu g hg hok; rw [hf] at r; have q0 := word_inj (zav hok) ⟨by decide, by decide⟩ (r.w0.symm.trans h0); have := (r.ar (by rw [q0]; rfl)).symm.trans e2; cases this) (fun _ _ _ w hw => zyn A hs hA h0 us e1 e2 w hw)
  | some q =>
   obtain ⟨c1, r1, c2, r2⟩ := q
   obtain ⟨i1, i2, i3, i4⟩ := ze5 e2
   refine fin ⟨5, us, c1, r1, c2, r2, ⟨#[]⟩, 0#64, 0#64, 0#64, 0, 0#64, 0⟩ ⟨by show 5 < 256; decide, zb1 e1, i1, i2, i3, i4, by show 0 < 256; decide, ii0⟩ (by show 0 ≤ 4000; decide) (fun g hg hok hf9 => ?_) (fun _ _ _ w hw hf9 => yfo A hs hA h0 us e1 c1 r1 c2 r2 e2 w hw hf9) (fun L hL _ _ _ w hw hf9 => yf6 A hs hA h0 us e1 c1 r1 c2 r2 e2 L hL w hw hf9) (fun _ _ _ w hw hf9 => yfx A hs hA h0 us e1 c1 r1 c2 r2 e2 w hw hf9)
   have r := zbu g hg hok; rw [hf9] at r; have q0 := word_inj (zav hok) ⟨by decide, by decide⟩ (r.w0.symm.trans h0)
   obtain ⟨z1, z2, z3, z4, z5⟩ := zc1 hok
   obtain ⟨u1, u2, u3, u4⟩ : _ ∧ _ ∧ _ ∧ _ := by simpa using zba ((r.ar (by rw [q0]; rfl)).symm.trans e2)
   exact zek q0 (zba (r.w1.symm.trans e1)) u1 u2 u3 u4 (z2 (by rw [q0]; decide)) (z3 (by rw [q0]; decide)).1 (z3 (by rw [q0]; decide)).2.1 (z3 (by rw [q0]; decide)).2.2 (z4 (by rw [q0]; decide)).1 (z4 (by rw [q0]; decide)).2 (z5 (by rw [q0]; decide))
theorem ye7 (A : By) (hs : A.length ≤ 2000) (h0 : wd 0 A = zaj 6) : Rs A := by
 have hA : A.length ≤ 1000000000 := by omega
 cases e1 : numR (wd 1 A) with
 | none => exact za4 (fun g hg hok hf => by have r := zbu g hg hok; rw [hf] at r; have q0 := word_inj (zav hok) ⟨by decide, by decide⟩ (r.w0.symm.trans h0); have := r.w1.symm.trans e1; cases this) (fun _ _ _ w hw => ycu A hs hA h0 e1 w hw)
 | some us =>
  cases e2 : zbb (wd 2 A) with
  | none => exact za4 (fun g hg hok hf => by have r := zbu g hg hok; rw [hf] at r; have q0 := word_inj (zav hok) ⟨by decide, by decide⟩ (r.w0.symm.trans h0); have := (r.ar (by rw [q0]; rfl)).symm.trans e2; cases this) (fun _ _ _ w hw => zym A hs hA h0 us e1 e2 w hw)
  | some q =>
   obtain ⟨c1, r1, c2, r2⟩ := q
   obtain ⟨i1, i2, i3, i4⟩ := ze5 e2
   refine fin ⟨6, us, c1, r1, c2, r2, ⟨#[]⟩, 0#64, 0#64, 0#64, 0, 0#64, 0⟩ ⟨by show 6 < 256; decide, zb1 e1, i1, i2, i3, i4, by show 0 < 256; decide, ii0⟩ (by show 0 ≤ 4000; decide) (fun g hg hok hf9 => ?_) (fun _ _ _ w hw hf9 => yfn A hs hA h0 us e1 c1 r1 c2 r2 e2 w hw hf9) (fun L hL _ _ _ w hw hf9 => yf5 A hs hA h0 us e1 c1 r1 c2 r2 e2 L hL w hw hf9) (fun _ _ _ w hw hf9 => yfw A hs hA h0 us e1 c1 r1 c2 r2 e2 w hw hf9)
   have r := zbu g hg hok; rw [hf9] at r; have q0 := word_inj (zav hok) ⟨by decide, by decide⟩ (r.w0.symm.trans h0)
   obtain ⟨z1, z2, z3, z4, z5⟩ := zc1 hok
   obtain ⟨u1, u2, u3, u4⟩ : _ ∧ _ ∧ _ ∧ _ := by simpa using zba ((r.ar (by rw [q0]; rfl)).symm.trans e2)
   exact zek q0 (zba (r.w1.symm.trans e1)) u1 u2 u3 u4 (z2 (by rw [q0]; decide)) (z3 (by rw [q0]; decide)).1 (z3 (by rw [q0]; decide)).2.1 (z3 (by rw [q0]; decide)).2.2 (z4 (by rw [q0]; decide)).1 (z4 (by rw [q0]; decide)).2 (z5 (by rw [q0]; decide))
theorem ye6 (A : By) (hs : A.length ≤ 2000) (h0 : wd 0 A = zaj 7) : Rs A := by
 have hA : A.length ≤ 1000000000 := by omega
 cases e1 : numR (wd 1 A) with
 | none => exact za4 (fun g hg hok hf => by have r := zbu g hg hok; rw [hf] at r; have q0 := word_inj (zav hok) ⟨by decide, by decide⟩ (r.w0.symm.trans h0); have := r.w1.symm.trans e1; cases this) (fun _ _ _ w hw => yct A hs hA h0 e1 w hw)
 | some us =>
  cases e2 : zbb (wd 2 A) with
  | none => exact za4 (fun g hg hok hf => by have r := zbu g hg hok; rw [hf] at r; have q0 := word_inj (zav hok) ⟨by decide, by decide⟩ (r.w0.symm.trans h0); have := (r.ar (by rw [q0]; rfl)).symm.trans e2; cases this) (fun _ _ _ w hw => zyl A hs hA h0 us e1 e2 w hw)
  | some q =>
   obtain ⟨c1, r1, c2, r2⟩ := q
   obtain ⟨i1, i2, i3, i4⟩ := ze5 e2
   rcases zq3 (wd 3 A) with ⟨rd, e3⟩ | e3
   rotate_left
   · exact za4 (fun g hg hok hf => by have r := zbu g hg hok; rw [hf] at r; have q0 := word_inj (zav hok) ⟨by decide, by decide⟩ (r.w0.symm.trans h0); have := (r.s7 q0).1.symm.trans e3; simp at this) (fun _ _ _ w hw => zyj A hs hA h0 us e1 c1 r1 c2 r2 e2 e3 w hw)
   rcases zq3 (wd 4 A) with ⟨wr, e4⟩ | e4
   rotate_left
   · exact za4 (fun g hg hok hf => by have r := zbu g hg hok; rw [hf] at r; have q0 := word_inj (zav hok) ⟨by decide, by decide⟩ (r.w0.symm.trans h0); have := (r.s7 q0).2.1.symm.trans e4; simp at this) (fun _ _ _ w hw => zyi A hs hA h0 us e1 c1 r1 c2 r2 e2 rd e3 e4 w hw)
   rcases zq3 (wd 5 A) with ⟨ow, e5⟩ | e5
   rotate_left
   · exact za4 (fun g hg hok hf => by have r := zbu g hg hok; rw [hf] at r; have q0 := word_inj (zav hok) ⟨by decide, by decide⟩ (r.w0.symm.trans h0); have := (r.s7 q0).2.2.symm.trans e5; simp at this) (fun _ _ _ w hw => zyh A hs hA h0 us e1 c1 r1 c2 r2 e2 rd e3 wr e4 e5 w hw)
   refine fin ⟨7, us, c1, r1, c2, r2, ⟨#[]⟩, rd, wr, ow, 0, 0#64, 0⟩ ⟨by show 7 < 256; decide, zb1 e1, i1, i2, i3, i4, by show 0 < 256; decide, ii0⟩ (by show 0 ≤ 4000; decide) (fun g hg hok hf9 => ?_) (fun _ _ _ w hw hf9 => yfm A hs hA h0 us e1 c1 r1 c2 r2 e2 rd e3 wr e4 ow e5 w hw hf9) (fun L hL _ _ _ w hw hf9 => yf4 A hs hA h0 us e1 c1 r1 c2 r2 e2 rd e3 wr e4 ow e5 L hL w hw hf9) (fun _ _ _ w hw hf9 => yfv A hs hA h0 us e1 c1 r1 c2 r2 e2 rd e3 wr e4 ow e5 w hw hf9)
   have r := zbu g hg hok; rw [hf9] at r; have q0 := word_inj (zav hok) ⟨by decide, by decide⟩ (r.w0.symm.trans h0)
   obtain ⟨z1, z2, z3, z4, z5⟩ := zc1 hok
   obtain ⟨u1, u2, u3, u4⟩ : _ ∧ _ ∧ _ ∧ _ := by simpa using zba ((r.ar (by rw [q0]; rfl)).symm.trans e2)
   exact zek q0 (zba (r.w1.symm.trans e1)) u1 u2 u3 u4 (z2 (by rw [q0]; decide)) (congrArg Prod.fst ((r.s7 q0).1.symm.trans e3)) (congrArg Prod.fst ((r.s7 q0).2.1.symm.trans e4)) (congrArg Prod.fst ((r.s7 q0).2.2.symm.trans e5)) (z4 (by rw [q0]; decide)).1 (z4 (by rw [q0]; decide)).2 (z5 (by rw [q0]; decide))
theorem ye5 (A : By) (hs : A.length ≤ 2000) (h0 : wd 0 A = zaj 8) : Rs A := by
 have hA : A.length ≤ 1000000000 := by omega
 cases e1 : numR (wd 1 A) with
 | none => exact za4 (fun g hg hok hf => by have r := zbu g hg hok; rw [hf] at r; have q0 := word_inj (zav hok) ⟨by decide, by decide⟩ (r.w0.symm.trans h0); have := r.w1.symm.trans e1; cases this) (fun _ _ _ w hw => ycs A hs hA h0 e1 w hw)
 | some us =>
  cases e2 : zbb (wd 2 A) with
  | none => exact za4 (fun g hg hok hf => by have r := zbu g hg hok; rw [hf] at r; have q0 := word_inj (zav hok) ⟨by decide, by decide⟩ (r.w0.symm.trans h0); have := (r.ar (by rw [q0]; rfl)).symm.trans e2; cases this) (fun _ _ _ w hw => zyk A hs hA h0 us e1 e2 w hw)
  | some q =>
   obtain ⟨c1, r1, c2, r2⟩ := q
   obtain ⟨i1, i2, i3, i4⟩ := ze5 e2
   cases e3 : numR (wd 3 A) with
   | none => exact za4 (fun g hg hok hf => by have r := zbu g hg hok; rw [hf] at r; have q0 := word_inj (zav hok) ⟨by decide, by decide⟩ (r.w0.symm.trans h0); have := (r.s8 q0).1.symm.trans e3; cases this) (fun _ _ _ w hw => yc5 A hs hA h0 us e1 c1 r1 c2 r2 e2 e3 w hw)
   | some fz =>
    obtain ⟨fns, hf, hf2⟩ : ∃ fns : Nat, IntKind.u8.wrap fz = (fns : Int) ∧ fns < 256 := ⟨(fz % 256).toNat, by rw [IntKind.wrap_u8]; omega, by omega⟩
    rcases zq3 (wd 4 A) with ⟨tos, e4⟩ | e4
    rotate_left
    · exact za4 (fun g hg hok hf0 => by have r := zbu g hg hok; rw [hf0] at r; have q0 := word_inj (zav hok) ⟨by decide, by decide⟩ (r.w0.symm.trans h0); have := (r.s8 q0).2.symm.trans e4; simp at this) (fun _ _ _ w hw => yc4 A hs hA h0 us e1 c1 r1 c2 r2 e2 fz fns hf e3 e4 w hw)
    refine fin ⟨8, us, c1, r1, c2, r2, ⟨#[]⟩, 0#64, 0#64, 0#64, fns, tos, 0⟩ ⟨by show 8 < 256; decide, zb1 e1, i1, i2, i3, i4, hf2, ii0⟩ (by show 0 ≤ 4000; decide) (fun g hg hok hf9 => ?_) (fun _ _ _ w hw hf9 => yfl A hs hA h0 us e1 c1 r1 c2 r2 e2 fz fns hf e3 tos e4 w hw hf9) (fun L hL _ _ _ w hw hf9 => yf3 A hs hA h0 us e1 c1 r1 c2 r2 e2 fz fns hf e3 tos e4 L hL w hw hf9) (fun _ _ _ w hw hf9 => yfu A hs hA h0 us e1 c1 r1 c2 r2 e2 fz fns hf e3 tos e4 w hw hf9)
    have r := zbu g hg hok; rw [hf9] at r; have q0 := word_inj (zav hok) ⟨by decide, by decide⟩ (r.w0.symm.trans h0)
    obtain ⟨z1, z2, z3, z4, z5⟩ := zc1 hok
    obtain ⟨u1, u2, u3, u4⟩ : _ ∧ _ ∧ _ ∧ _ := by simpa using zba ((r.ar (by rw [q0]; rfl)).symm.trans e2)
    exact zek q0 (zba (r.w1.symm.trans e1)) u1 u2 u3 u4 (z2 (by rw [q0]; decide)) (z3 (by rw [q0]; decide)).1 (z3 (by rw [q0]; decide)).2.1 (z3 (by rw [q0]; decide)).2.2 (by have h1 := zba ((r.s8 q0).1.symm.trans e3); have h2 := hg.fns; rw [← h1, IntKind.wrap_u8] at hf; show g.fns = fns; omega) (congrArg Prod.fst ((r.s8 q0).2.symm.trans e4)) (z5 (by rw [q0]; decide))
theorem ye4 (A : By) (hs : A.length ≤ 2000) (h0 : wd 0 A = zaj 9) : Rs A := by
 have hA : A.length ≤ 1000000000 := by omega
 cases e1 : numR (wd 1 A) with
 | none => exact za4 (fun g hg hok hf => by have r := zbu g hg hok; rw [hf] at r; have q0 := word_inj (zav hok) ⟨by decide, by decide⟩ (r.w0.symm.trans h0); have := r.w1.symm.trans e1; cases this) (fun _ _ _ w hw => ycr A hs hA h0 e1 w hw)
 | some us =>
  cases e2 : numR (wd 2 A) with
  | none => exact za4 (fun g hg hok hf => by have r := zbu g hg hok; rw [hf] at r; have q0 := word_inj (zav hok) ⟨by decide, by decide⟩ (r.w0.symm.trans h0); have := (r.s9 q0).symm.trans e2; cases this) (fun _ _ _ w hw => yc3 A hs hA h0 us e1 e2 w hw)
  | some idx =>
   refine fin ⟨9, us, 0, 0, 0, 0, ⟨#[]⟩, 0#64, 0#64, 0#64, 0, 0#64, idx⟩ ⟨by show 9 < 256; decide, zb1 e1, ii0, ii0, ii0, ii0, by show 0 < 256; decide, zb1 e2⟩ (by show 0 ≤ 4000; decide) (fun g hg hok hf9 => ?_) (fun _ _ _ w hw hf9 => yfk A hs hA h0 us e1 idx e2 w hw hf9) (fun L hL _ _ _ w hw hf9 => yf2 A hs hA h0 us e1 idx e2 L hL w hw hf9) (fun _ _ _ w hw hf9 => yft A hs hA h0 us e1 idx e2 w hw hf9)
   have r := zbu g hg hok; rw [hf9] at r; have q0 := word_inj (zav hok) ⟨by decide, by decide⟩ (r.w0.symm.trans h0)
   obtain ⟨z1, z2, z3, z4, z5⟩ := zc1 hok
   obtain ⟨u1, u2, u3, u4⟩ := z1 (by rw [q0]; rfl)
   exact zek q0 (zba (r.w1.symm.trans e1)) u1 u2 u3 u4 (z2 (by rw [q0]; decide)) (z3 (by rw [q0]; decide)).1 (z3 (by rw [q0]; decide)).2.1 (z3 (by rw [q0]; decide)).2.2 (z4 (by rw [q0]; decide)).1 (z4 (by rw [q0]; decide)).2 (zba ((r.s9 q0).symm.trans e2))
theorem yce (A : By) (hs : A.length ≤ 2000) (h0 : wd 0 A = zaj 10) : Rs A := by
 have hA : A.length ≤ 1000000000 := by omega
 cases e1 : numR (wd 1 A) with
 | none => exact za4 (fun g hg hok hf => by have r := zbu g hg hok; rw [hf] at r; have q0 := word_inj (zav hok) ⟨by decide, by decide⟩ (r.w0.symm.trans h0); have := r.w1.symm.trans e1; cases this) (fun _ _ _ w hw => zyg A hs hA h0 e1 w hw)
 | some us =>
  refine fin ⟨10, us, 0, 0, 0, 0, ⟨#[]⟩, 0#64, 0#64, 0#64, 0, 0#64, 0⟩ ⟨by show 10 < 256; decide, zb1 e1, ii0, ii0, ii0, ii0, by show 0 < 256; decide, ii0⟩ (by show 0 ≤ 4000; decide) (fun g hg hok hf9 => ?_) (fun _ _ _ w hw hf9 => ycq A hs hA h0 us e1 w hw hf9) (fun L hL _ _ _ w hw hf9 => yc1 A hs hA h0 us e1 L hL w hw hf9) (fun _ _ _ w hw hf9 => yc0 A hs hA h0 us e1 w hw hf9)
  have r := zbu g hg hok; rw [hf9] at r; have q0 := word_inj (zav hok) ⟨by decide, by decide⟩ (r.w0.symm.trans h0)
  obtain ⟨z1, z2, z3, z4, z5⟩ := zc1 hok
  obtain ⟨u1, u2, u3, u4⟩ := z1 (by rw [q0]; rfl)
  exact zek q0 (zba (r.w1.symm.trans e1)) u1 u2 u3 u4 (z2 (by rw [q0]; decide)) (z3 (by rw [q0]; decide)).1 (z3 (by rw [q0]; decide)).2.1 (z3 (by rw [q0]; decide)).2.2 (z4 (by rw [q0]; decide)).1 (z4 (by rw [q0]; decide)).2 (z5 (by rw [q0]; decide))
theorem zg0 (A : By) (hs : A.length ≤ 2000) : Rs A := by
 by_cases h : ∃ k, 1 ≤ k ∧ k ≤ 10 ∧ zaj k = wd 0 A
 · obtain ⟨k, k1, k2, hk⟩ := h
   rcases (show k = 1 ∨ k = 2 ∨ k = 3 ∨ k = 4 ∨ k = 5 ∨ k = 6 ∨ k = 7 ∨ k = 8 ∨ k = 9 ∨ k = 10 by omega) with rfl | rfl | rfl | rfl | rfl | rfl | rfl | rfl | rfl | rfl
   · exact yfc A hs hk.symm
   · exact yfb A hs hk.symm
   · exact yfa A hs hk.symm
   · exact ye9 A hs hk.symm
   · exact ye8 A hs hk.symm
   · exact ye7 A hs hk.symm
   · exact ye6 A hs hk.symm
   · exact ye5 A hs hk.symm
   · exact ye4 A hs hk.symm
   · exact yce A hs hk.symm
 · have hn : ∀ k, 1 ≤ k → k ≤ 10 → zaj k ≠ wd 0 A := fun k k1 k2 hk => h ⟨k, k1, k2, hk⟩
   exact za4 (fun g hg hok hf => by have r := zbu g hg hok; rw [hf] at r; exact hn _ (zav hok).1 (zav hok).2 r.w0.symm) (fun _ _ _ w hw => yfj A hs (by omega) hn w hw)
end Go.Proofs.YtelanmknimapoaaGreatDoor.Ob
