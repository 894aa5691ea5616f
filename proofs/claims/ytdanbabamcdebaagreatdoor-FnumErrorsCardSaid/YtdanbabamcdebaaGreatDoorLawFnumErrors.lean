/- The law: errors and validity of the functions of numbers and of the operators. -/
import Derived.Test.YtdanbabamcdebaaGreatDoorFeD
import Derived.Test.YtdanbabamcdebaaGreatDoorFeC0
import Derived.Test.YtdanbabamcdebaaGreatDoorFeC1
import Derived.Test.YtdanbabamcdebaaGreatDoorFeC2
import Derived.Test.YtdanbabamcdebaaGreatDoorE1
namespace Go.Proofs.YtdanbabamcdebaaGreatDoor.Va
open Go Go.RowKit GM Sx
set_option linter.unusedVariables false
theorem sq_neg (x : Int) (h : x < 0) : Rt 63 #[.int .i64 x] (.tuple #[.int .i64 0, .bool false]) := fun w hT =>
  va_call (facts := [⟨isBin .lss 2, [(symV 0), .int .i64 0], .bool true, false⟩]) (tab := []) (σ := symOf [.int .i64 x]) (symOf_one rfl) hT (foks_cons (fok_cmp rfl rfl rfl (by simp [cmpI]; omega)) (foks_nil)) (toks_nil) (args := [(symV 0)]) (v := .tuple #[.int .i64 0, .bool false]) (by kernel_rfl) rfl rfl
theorem rnd_lo {a p : Int} (h : rndB a p = true) : -9223372036854775808 < rndV a p := by
  unfold rndB at h
  unfold rndV
  split
  · rename_i h4; rw [if_pos h4] at h; exact resV_lo h
  · rename_i h4; rw [if_neg h4] at h
    split
    · omega
    · rename_i h5; rw [if_neg h5] at h; exact resV_lo h
theorem exists_root (x : Int) (hx : InI x) (h : 0 ≤ x) : ∃ r : Int, Rt 63 #[.int .i64 x] (.tuple #[.int .i64 r, .bool true]) ∧ -9223372036854775808 < r := by
  by_cases he : ∃ r, IsRoot (x * 10000) r
  · obtain ⟨r, hr⟩ := he
    refine ⟨r, fun W _ => (sqrt_any x h hx.2 W).mono fun e w' hh => ?_, by have := hr.1; omega⟩
    obtain ⟨t, e1, e2, e3⟩ := hh
    rw [IsRoot.unique e2 hr] at e1
    exact ⟨e1, e3 ▸ Below.refl _ _⟩
  · refine ⟨0, fun W _ => (sqrt_any x h hx.2 W).mono fun e w' hh => ?_, by decide⟩
    obtain ⟨t, e1, e2, e3⟩ := hh
    exact absurd ⟨t, e2⟩ he
theorem sqrt_ok (x : Int) (hx : InI x) : ∃ (r : Int) (ok : Bool), Rt 63 #[.int .i64 x] (.tuple #[.int .i64 r, .bool ok]) ∧ (ok = true → -9223372036854775808 < r) := by
  by_cases h : x < 0
  · exact ⟨0, false, sq_neg x h, fun h => by cases h⟩
  · obtain ⟨r, hr⟩ := exists_root x hx (by omega)
    exact ⟨r, true, hr.1, fun _ => hr.2⟩
theorem bin_any (o : Int) (h1 : 1 ≤ o) (h2 : o ≤ 12) (k : Nat) (n : Int) (s : ByteArray) (k' : Nat) (n' : Int) (t : ByteArray) (v : vE k n s.data.toList = 0) (v' : vE k' n' t.data.toList = 0) (hs : s.size ≤ 300) (ht : t.size ≤ 300) (hi : InI n) (hi' : InI n') : ∃ (kv : Nat) (nv : Int) (sv : ByteArray), Rt 14 #[.int .i64 o, Vg (k : Int) n s, Vg (k' : Int) n' t] (.tuple #[Vg (kv : Int) nv sv, .int .i64 0]) ∧ Vd kv nv sv ∧ (o < 6 → ((cvR 1 k n s).1 = 4 → (kv, nv, sv) = cvR 1 k n s) ∧ ((cvR 1 k n s).1 ≠ 4 → k' = 4 → (kv, nv, sv) = (k', n', t))) ∧ (6 ≤ o → (k = 4 → (kv, nv, sv) = (k, n, s)) ∧ (k ≠ 4 → k' = 4 → (kv, nv, sv) = (k', n', t))) := by
  have ho : o = 1 ∨ o = 2 ∨ o = 3 ∨ o = 4 ∨ o = 5 ∨ o = 6 ∨ o = 7 ∨ o = 8 ∨ o = 9 ∨ o = 10 ∨ o = 11 ∨ o = 12 := by omega
  rcases ho with rfl | rfl | rfl | rfl | rfl | rfl | rfl | rfl | rfl | rfl | rfl | rfl
  · obtain ⟨kv, nv, sv, h, hv, c⟩ := bok1 k n s k' n' t v v' hs ht hi hi'
    exact ⟨kv, nv, sv, h, hv, fun _ => c, fun h => by omega⟩
  · obtain ⟨kv, nv, sv, h, hv, c⟩ := bok2 k n s k' n' t v v' hs ht hi hi'
    exact ⟨kv, nv, sv, h, hv, fun _ => c, fun h => by omega⟩
  · obtain ⟨kv, nv, sv, h, hv, c⟩ := bok3 k n s k' n' t v v' hs ht hi hi'
    exact ⟨kv, nv, sv, h, hv, fun _ => c, fun h => by omega⟩
  · obtain ⟨kv, nv, sv, h, hv, c⟩ := bok4 k n s k' n' t v v' hs ht hi hi'
    exact ⟨kv, nv, sv, h, hv, fun _ => c, fun h => by omega⟩
  · obtain ⟨kv, nv, sv, h, hv, c⟩ := bok5 k n s k' n' t v v' hs ht hi hi'
    exact ⟨kv, nv, sv, h, hv, fun _ => c, fun h => by omega⟩
  · obtain ⟨kv, nv, sv, h, hv, c⟩ := bok6 k n s k' n' t v v' hs ht hi hi'
    exact ⟨kv, nv, sv, h, hv, fun h => by omega, fun _ => c⟩
  · obtain ⟨kv, nv, sv, h, hv, c⟩ := bok7 k n s k' n' t v v' hs ht hi hi'
    exact ⟨kv, nv, sv, h, hv, fun h => by omega, fun _ => c⟩
  · obtain ⟨kv, nv, sv, h, hv, c⟩ := bok8 k n s k' n' t v v' hs ht hi hi'
    exact ⟨kv, nv, sv, h, hv, fun h => by omega, fun _ => c⟩
  · obtain ⟨kv, nv, sv, h, hv, c⟩ := bok9 k n s k' n' t v v' hs ht hi hi'
    exact ⟨kv, nv, sv, h, hv, fun h => by omega, fun _ => c⟩
  · obtain ⟨kv, nv, sv, h, hv, c⟩ := bok10 k n s k' n' t v v' hs ht hi hi'
    exact ⟨kv, nv, sv, h, hv, fun h => by omega, fun _ => c⟩
  · obtain ⟨kv, nv, sv, h, hv, c⟩ := bok11 k n s k' n' t v v' hs ht hi hi'
    exact ⟨kv, nv, sv, h, hv, fun h => by omega, fun _ => c⟩
  · obtain ⟨kv, nv, sv, h, hv, c⟩ := bok12 k n s k' n' t v v' hs ht hi hi'
    exact ⟨kv, nv, sv, h, hv, fun h => by omega, fun _ => c⟩
theorem fnumErrors_law (fn op : Int) (a : VV) (b : VV) (w : World) (hf : (Lit.int .u8 fn).wf = true) (hop : (Lit.int .i64 op).wf = true) (hl : laidMetH Tryz.prog Rows.fnumErrorsRow.laid w) :
    Calls Tryz.prog 7 #[.int .u8 fn, .int .i64 op, .agg (cells3 a).toArray, .agg (cells3 b).toArray] w fun e w' => e = .returned (.bool true) ∧ Below w.heap.size w w' := by
  have hT : Tb w := tb_of (MakeChecks.laidMetH_plain _ _ _ (by kernel_rfl)) hl
  obtain ⟨ka, na, sa, ga, v1, s1, i1⟩ := good_any a
  obtain ⟨kb, nb, sb, gb, v2, s2, i2⟩ := good_any b
  obtain ⟨fq, rfl⟩ : ∃ q : Nat, fn = (q : Int) := by
    rw [Lit.wf_int_iff] at hf
    simp [IntKind.min, IntKind.max, IntKind.signed, IntKind.bits] at hf
    exact ⟨fn.toNat, by omega⟩
  have o5 := tmod_rng op (show (0 : Int) < 12 by decide)
  have o6 : 0 ≤ (op.tmod 12 + 12).tmod 12 ∧ (op.tmod 12 + 12).tmod 12 < 12 := ⟨Int.tmod_nonneg 12 (by omega), Int.tmod_lt_of_pos _ (by decide)⟩
  have ca := ckV (vdOf v1 s1 i1)
  have cb := ckV (vdOf v2 s2 i2)
  obtain ⟨kn, nn, sn, gn, vn⟩ := neg_ok ka na sa (by omega) i1
  obtain ⟨kp, np, sp, gp, vp⟩ := perc_ok ka na sa (by omega) i1
  have cn := ckV vn
  have cp := ckV vp
  obtain ⟨kv, nv, sv, bi, vv, cl, ch⟩ := bin_any (1 + (op.tmod 12 + 12).tmod 12) (by omega) (by omega) ka na sa kb nb sb v1 v2 s1 s2 i1 i2
  have cv := ckV vv
  have G : ∀ kv nv sv nx sx nt st r ok kw nw sw ny sy pl, Gs ⟨a.kd, a.num, a.txt, b.kd, b.num, b.txt, fq, op, ka, na, sa, kb, nb, sb, kn, nn, sn, kp, np, sp, kv, nv, sv, nx, sx, nt, st, r, ok, kw, nw, sw, ny, sy, pl⟩ := fun _ _ _ _ _ _ _ _ _ _ _ _ _ _ _ => ⟨ga, gb, ca, cb, gn, cn, gp, cp, o5, o6⟩
  have hj : (fq : Int).tmod 8 = 0 ∨ (fq : Int).tmod 8 = 1 ∨ (fq : Int).tmod 8 = 2 ∨ (fq : Int).tmod 8 = 3 ∨ (fq : Int).tmod 8 = 4 ∨ (fq : Int).tmod 8 = 5 ∨ (fq : Int).tmod 8 = 6 ∨ (fq : Int).tmod 8 = 7 := by
    have h1 := Int.tmod_nonneg 8 (show (0 : Int) ≤ (fq : Int) by omega)
    have h2 := Int.tmod_lt_of_pos (fq : Int) (show (0 : Int) < 8 by decide)
    omega
  have tba := tnum kb nb sb (by omega) i2
  have tta := ttext ka na sa v1 s1 i1
  clear gn vn gp vp cn cp ga gb
  rcases tnum ka na sa (by omega) i1 with ⟨nx, tn, hx, e⟩ | ⟨nx, sx, tn, vx, e⟩
  · have hxl : -9223372036854775808 < nx := by
      have hne : nx ≠ -9223372036854775808 := fun h0 => by
        have hv := (cv1_ok ka na sa).1
        rw [e] at hv
        have h1 : vldV 1 nx (⟨#[]⟩ : ByteArray).data.toList = true := vldE hv
        rw [h0] at h1
        exact absurd h1 (by decide)
      have hx2 := hx.1
      omega
    have hk4 : ka ≠ 4 := fun h => by
      have e2 := cv_same (kd := 1) v1 (.inr h)
      rw [e] at e2
      have := congrArg Prod.fst e2
      simp only at this
      omega
    rcases tta with ⟨h4, _⟩ | ⟨_, u, tt, vt⟩
    · exact absurd h4 hk4
    by_cases ho : 6 ≤ 1 + (op.tmod 12 + 12).tmod 12
    · by_cases hb : kb = 4
      · have hq := (ch ho).2 hk4 hb
        obtain ⟨rfl, h7⟩ := Prod.mk.inj hq
        obtain ⟨rfl, rfl⟩ := Prod.mk.inj h7
        have tb : Rt 23 #[Vg (kv : Int) nv sv] (Vg (kv : Int) nv sv) := fun W hW => by
          have := vto_num kv nv sv (by omega) i2 W hW
          rw [cv_same v2 (.inr hb)] at this
          exact this
        rcases hj with hj | hj | hj | hj | hj | hj | hj | hj
        · by_cases hs : nx < 0
          · have dr : Rt 37 #[.int .i64 nx] (.tuple #[.int .i64 (resV (-nx)), .bool (resB (-nx))]) := pureB fun W => neg_any nx hx W
            obtain ⟨kw, nw, sw, nu, vw⟩ := num_ok (resV (-nx)) (resB (-nx)) resV_lo
            have cw := ckV vw
            exact fe_Ntt0n ⟨a.kd, a.num, a.txt, b.kd, b.num, b.txt, fq, op, ka, na, sa, kv, nv, sv, kn, nn, sn, kp, np, sp, kv, nv, sv, nx, ⟨#[]⟩, 0, u, (resV (-nx)), (resB (-nx)), kw, nw, sw, 0, ⟨#[]⟩, 0⟩ (G kv nv sv nx ⟨#[]⟩ 0 u (resV (-nx)) (resB (-nx)) kw nw sw 0 ⟨#[]⟩ 0) hj ho tn tt bi hb hs dr nu cw w hT
          · obtain ⟨kw, nw, sw, dr, vw⟩ := mk_ok nx hxl
            have cw := ckV vw
            exact fe_Ntt0q ⟨a.kd, a.num, a.txt, b.kd, b.num, b.txt, fq, op, ka, na, sa, kv, nv, sv, kn, nn, sn, kp, np, sp, kv, nv, sv, nx, ⟨#[]⟩, 0, u, 0, false, kw, nw, sw, 0, ⟨#[]⟩, 0⟩ (G kv nv sv nx ⟨#[]⟩ 0 u 0 false kw nw sw 0 ⟨#[]⟩ 0) hj ho tn tt bi hb (Int.not_lt.1 hs) dr cw w hT
        · by_cases hs : nx < 0
          · exact fe_Ntt1n ⟨a.kd, a.num, a.txt, b.kd, b.num, b.txt, fq, op, ka, na, sa, kv, nv, sv, kn, nn, sn, kp, np, sp, kv, nv, sv, nx, ⟨#[]⟩, 0, u, 0, false, 0, 0, ⟨#[]⟩, 0, ⟨#[]⟩, 0⟩ (G kv nv sv nx ⟨#[]⟩ 0 u 0 false 0 0 ⟨#[]⟩ 0 ⟨#[]⟩ 0) hj ho tn tt bi hb hs w hT
          by_cases hs2 : nx = 0
          · exact fe_Ntt1z ⟨a.kd, a.num, a.txt, b.kd, b.num, b.txt, fq, op, ka, na, sa, kv, nv, sv, kn, nn, sn, kp, np, sp, kv, nv, sv, nx, ⟨#[]⟩, 0, u, 0, false, 0, 0, ⟨#[]⟩, 0, ⟨#[]⟩, 0⟩ (G kv nv sv nx ⟨#[]⟩ 0 u 0 false 0 0 ⟨#[]⟩ 0 ⟨#[]⟩ 0) hj ho tn tt bi hb hs2 w hT
          · exact fe_Ntt1p ⟨a.kd, a.num, a.txt, b.kd, b.num, b.txt, fq, op, ka, na, sa, kv, nv, sv, kn, nn, sn, kp, np, sp, kv, nv, sv, nx, ⟨#[]⟩, 0, u, 0, false, 0, 0, ⟨#[]⟩, 0, ⟨#[]⟩, 0⟩ (G kv nv sv nx ⟨#[]⟩ 0 u 0 false 0 0 ⟨#[]⟩ 0 ⟨#[]⟩ 0) hj ho tn tt bi hb (show (0 : Int) < nx by omega) w hT
        · have dr : Rt 61 #[.int .i64 nx] (.tuple #[.int .i64 (resV (floorZ nx)), .bool (resB (floorZ nx))]) := pureB fun W => floor_any nx hx W
          obtain ⟨kw, nw, sw, nu, vw⟩ := num_ok (resV (floorZ nx)) (resB (floorZ nx)) resV_lo
          have cw := ckV vw
          exact fe_Ntt2 ⟨a.kd, a.num, a.txt, b.kd, b.num, b.txt, fq, op, ka, na, sa, kv, nv, sv, kn, nn, sn, kp, np, sp, kv, nv, sv, nx, ⟨#[]⟩, 0, u, (resV (floorZ nx)), (resB (floorZ nx)), kw, nw, sw, 0, ⟨#[]⟩, 0⟩ (G kv nv sv nx ⟨#[]⟩ 0 u (resV (floorZ nx)) (resB (floorZ nx)) kw nw sw 0 ⟨#[]⟩ 0) hj ho tn tt bi hb dr nu cw w hT
        · have dr : Rt 62 #[.int .i64 nx] (.int .i64 (truncZ nx)) := pureB fun W => trunc_any nx hx W
          obtain ⟨kw, nw, sw, mk, vw⟩ := mk_ok (truncZ nx) (trunc_bd hx).2
          have cw := ckV vw
          exact fe_Ntt3 ⟨a.kd, a.num, a.txt, b.kd, b.num, b.txt, fq, op, ka, na, sa, kv, nv, sv, kn, nn, sn, kp, np, sp, kv, nv, sv, nx, ⟨#[]⟩, 0, u, (truncZ nx), false, kw, nw, sw, 0, ⟨#[]⟩, 0⟩ (G kv nv sv nx ⟨#[]⟩ 0 u (truncZ nx) false kw nw sw 0 ⟨#[]⟩ 0) hj ho tn tt bi hb dr mk cw w hT
        · exact fe_Ntt4 ⟨a.kd, a.num, a.txt, b.kd, b.num, b.txt, fq, op, ka, na, sa, kv, nv, sv, kn, nn, sn, kp, np, sp, kv, nv, sv, nx, ⟨#[]⟩, 0, u, 0, false, 0, 0, ⟨#[]⟩, 0, ⟨#[]⟩, 0⟩ (G kv nv sv nx ⟨#[]⟩ 0 u 0 false 0 0 ⟨#[]⟩ 0 ⟨#[]⟩ 0) hj ho tn tt bi hb tb w hT
        · exact fe_Ntt5 ⟨a.kd, a.num, a.txt, b.kd, b.num, b.txt, fq, op, ka, na, sa, kv, nv, sv, kn, nn, sn, kp, np, sp, kv, nv, sv, nx, ⟨#[]⟩, 0, u, 0, false, 0, 0, ⟨#[]⟩, 0, ⟨#[]⟩, 0⟩ (G kv nv sv nx ⟨#[]⟩ 0 u 0 false 0 0 ⟨#[]⟩ 0 ⟨#[]⟩ 0) hj ho tn tt bi hb tb w hT
        · exact fe_Ntt6 ⟨a.kd, a.num, a.txt, b.kd, b.num, b.txt, fq, op, ka, na, sa, kv, nv, sv, kn, nn, sn, kp, np, sp, kv, nv, sv, nx, ⟨#[]⟩, 0, u, 0, false, 0, 0, ⟨#[]⟩, 0, ⟨#[]⟩, 0⟩ (G kv nv sv nx ⟨#[]⟩ 0 u 0 false 0 0 ⟨#[]⟩ 0 ⟨#[]⟩ 0) hj ho tn tt bi hb tb w hT
        · obtain ⟨r, ok, dr, hr⟩ := sqrt_ok nx hx
          obtain ⟨kw, nw, sw, nu, vw⟩ := num_ok r ok hr
          have cw := ckV vw
          exact fe_Ntt7 ⟨a.kd, a.num, a.txt, b.kd, b.num, b.txt, fq, op, ka, na, sa, kv, nv, sv, kn, nn, sn, kp, np, sp, kv, nv, sv, nx, ⟨#[]⟩, 0, u, r, ok, kw, nw, sw, 0, ⟨#[]⟩, 0⟩ (G kv nv sv nx ⟨#[]⟩ 0 u r ok kw nw sw 0 ⟨#[]⟩ 0) hj ho tn tt bi hb dr nu cw w hT
      · skip
        rcases hj with hj | hj | hj | hj | hj | hj | hj | hj
        · by_cases hs : nx < 0
          · have dr : Rt 37 #[.int .i64 nx] (.tuple #[.int .i64 (resV (-nx)), .bool (resB (-nx))]) := pureB fun W => neg_any nx hx W
            obtain ⟨kw, nw, sw, nu, vw⟩ := num_ok (resV (-nx)) (resB (-nx)) resV_lo
            have cw := ckV vw
            exact fe_Ntf0n ⟨a.kd, a.num, a.txt, b.kd, b.num, b.txt, fq, op, ka, na, sa, kb, nb, sb, kn, nn, sn, kp, np, sp, kv, nv, sv, nx, ⟨#[]⟩, 0, u, (resV (-nx)), (resB (-nx)), kw, nw, sw, 0, ⟨#[]⟩, 0⟩ (G kv nv sv nx ⟨#[]⟩ 0 u (resV (-nx)) (resB (-nx)) kw nw sw 0 ⟨#[]⟩ 0) hj ho tn tt bi cv hb hs dr nu cw w hT
          · obtain ⟨kw, nw, sw, dr, vw⟩ := mk_ok nx hxl
            have cw := ckV vw
            exact fe_Ntf0q ⟨a.kd, a.num, a.txt, b.kd, b.num, b.txt, fq, op, ka, na, sa, kb, nb, sb, kn, nn, sn, kp, np, sp, kv, nv, sv, nx, ⟨#[]⟩, 0, u, 0, false, kw, nw, sw, 0, ⟨#[]⟩, 0⟩ (G kv nv sv nx ⟨#[]⟩ 0 u 0 false kw nw sw 0 ⟨#[]⟩ 0) hj ho tn tt bi cv hb (Int.not_lt.1 hs) dr cw w hT
        · by_cases hs : nx < 0
          · exact fe_Ntf1n ⟨a.kd, a.num, a.txt, b.kd, b.num, b.txt, fq, op, ka, na, sa, kb, nb, sb, kn, nn, sn, kp, np, sp, kv, nv, sv, nx, ⟨#[]⟩, 0, u, 0, false, 0, 0, ⟨#[]⟩, 0, ⟨#[]⟩, 0⟩ (G kv nv sv nx ⟨#[]⟩ 0 u 0 false 0 0 ⟨#[]⟩ 0 ⟨#[]⟩ 0) hj ho tn tt bi cv hb hs w hT
          by_cases hs2 : nx = 0
          · exact fe_Ntf1z ⟨a.kd, a.num, a.txt, b.kd, b.num, b.txt, fq, op, ka, na, sa, kb, nb, sb, kn, nn, sn, kp, np, sp, kv, nv, sv, nx, ⟨#[]⟩, 0, u, 0, false, 0, 0, ⟨#[]⟩, 0, ⟨#[]⟩, 0⟩ (G kv nv sv nx ⟨#[]⟩ 0 u 0 false 0 0 ⟨#[]⟩ 0 ⟨#[]⟩ 0) hj ho tn tt bi cv hb hs2 w hT
          · exact fe_Ntf1p ⟨a.kd, a.num, a.txt, b.kd, b.num, b.txt, fq, op, ka, na, sa, kb, nb, sb, kn, nn, sn, kp, np, sp, kv, nv, sv, nx, ⟨#[]⟩, 0, u, 0, false, 0, 0, ⟨#[]⟩, 0, ⟨#[]⟩, 0⟩ (G kv nv sv nx ⟨#[]⟩ 0 u 0 false 0 0 ⟨#[]⟩ 0 ⟨#[]⟩ 0) hj ho tn tt bi cv hb (show (0 : Int) < nx by omega) w hT
        · have dr : Rt 61 #[.int .i64 nx] (.tuple #[.int .i64 (resV (floorZ nx)), .bool (resB (floorZ nx))]) := pureB fun W => floor_any nx hx W
          obtain ⟨kw, nw, sw, nu, vw⟩ := num_ok (resV (floorZ nx)) (resB (floorZ nx)) resV_lo
          have cw := ckV vw
          exact fe_Ntf2 ⟨a.kd, a.num, a.txt, b.kd, b.num, b.txt, fq, op, ka, na, sa, kb, nb, sb, kn, nn, sn, kp, np, sp, kv, nv, sv, nx, ⟨#[]⟩, 0, u, (resV (floorZ nx)), (resB (floorZ nx)), kw, nw, sw, 0, ⟨#[]⟩, 0⟩ (G kv nv sv nx ⟨#[]⟩ 0 u (resV (floorZ nx)) (resB (floorZ nx)) kw nw sw 0 ⟨#[]⟩ 0) hj ho tn tt bi cv hb dr nu cw w hT
        · have dr : Rt 62 #[.int .i64 nx] (.int .i64 (truncZ nx)) := pureB fun W => trunc_any nx hx W
          obtain ⟨kw, nw, sw, mk, vw⟩ := mk_ok (truncZ nx) (trunc_bd hx).2
          have cw := ckV vw
          exact fe_Ntf3 ⟨a.kd, a.num, a.txt, b.kd, b.num, b.txt, fq, op, ka, na, sa, kb, nb, sb, kn, nn, sn, kp, np, sp, kv, nv, sv, nx, ⟨#[]⟩, 0, u, (truncZ nx), false, kw, nw, sw, 0, ⟨#[]⟩, 0⟩ (G kv nv sv nx ⟨#[]⟩ 0 u (truncZ nx) false kw nw sw 0 ⟨#[]⟩ 0) hj ho tn tt bi cv hb dr mk cw w hT
        · rcases tba with ⟨ny, tb, hy, _⟩ | ⟨ny, sy, tb, vy, _⟩
          · obtain ⟨pl, hp⟩ : ∃ pl : Int, pl = if (4 : Int) < (if (-20 : Int) > ny.tdiv 10000 then -20 else ny.tdiv 10000) then 4 else (if (-20 : Int) > ny.tdiv 10000 then -20 else ny.tdiv 10000) := ⟨_, rfl⟩
            have hpl : -20 ≤ pl := by rw [hp]; (repeat' split) <;> omega
            have dr : Rt 64 #[.int .i64 nx, .int .i64 pl] (.tuple #[.int .i64 (rndV nx pl), .bool (rndB nx pl)]) := pureB fun W => round_any nx pl hx (by omega) W
            obtain ⟨kw, nw, sw, nu, vw⟩ := num_ok (rndV nx pl) (rndB nx pl) rnd_lo
            have cw := ckV vw
            exact fe_Ntf4n ⟨a.kd, a.num, a.txt, b.kd, b.num, b.txt, fq, op, ka, na, sa, kb, nb, sb, kn, nn, sn, kp, np, sp, kv, nv, sv, nx, ⟨#[]⟩, 0, u, (rndV nx pl), (rndB nx pl), kw, nw, sw, ny, ⟨#[]⟩, pl⟩ (G kv nv sv nx ⟨#[]⟩ 0 u (rndV nx pl) (rndB nx pl) kw nw sw ny ⟨#[]⟩ pl) hj ho tn tt bi cv hb tb (tdiv_rng hy) hp dr nu cw w hT
          · exact fe_Ntf4e ⟨a.kd, a.num, a.txt, b.kd, b.num, b.txt, fq, op, ka, na, sa, kb, nb, sb, kn, nn, sn, kp, np, sp, kv, nv, sv, nx, ⟨#[]⟩, 0, u, 0, false, 0, 0, ⟨#[]⟩, ny, sy, 0⟩ (G kv nv sv nx ⟨#[]⟩ 0 u 0 false 0 0 ⟨#[]⟩ ny sy 0) hj ho tn tt bi cv hb tb (ckV vy) w hT
        · rcases tba with ⟨ny, tb, hy, _⟩ | ⟨ny, sy, tb, vy, _⟩
          · obtain ⟨kw, nw, sw, dr, vw⟩ := modl_ok nx ny hx hy
            have cw := ckV vw
            exact fe_Ntf5n ⟨a.kd, a.num, a.txt, b.kd, b.num, b.txt, fq, op, ka, na, sa, kb, nb, sb, kn, nn, sn, kp, np, sp, kv, nv, sv, nx, ⟨#[]⟩, 0, u, 0, false, kw, nw, sw, ny, ⟨#[]⟩, 0⟩ (G kv nv sv nx ⟨#[]⟩ 0 u 0 false kw nw sw ny ⟨#[]⟩ 0) hj ho tn tt bi cv hb tb dr cw w hT
          · exact fe_Ntf5e ⟨a.kd, a.num, a.txt, b.kd, b.num, b.txt, fq, op, ka, na, sa, kb, nb, sb, kn, nn, sn, kp, np, sp, kv, nv, sv, nx, ⟨#[]⟩, 0, u, 0, false, 0, 0, ⟨#[]⟩, ny, sy, 0⟩ (G kv nv sv nx ⟨#[]⟩ 0 u 0 false 0 0 ⟨#[]⟩ ny sy 0) hj ho tn tt bi cv hb tb (ckV vy) w hT
        · rcases tba with ⟨ny, tb, hy, _⟩ | ⟨ny, sy, tb, vy, _⟩
          · obtain ⟨kw, nw, sw, dr, vw⟩ := powr_ok nx ny hx hy
            have cw := ckV vw
            exact fe_Ntf6n ⟨a.kd, a.num, a.txt, b.kd, b.num, b.txt, fq, op, ka, na, sa, kb, nb, sb, kn, nn, sn, kp, np, sp, kv, nv, sv, nx, ⟨#[]⟩, 0, u, 0, false, kw, nw, sw, ny, ⟨#[]⟩, 0⟩ (G kv nv sv nx ⟨#[]⟩ 0 u 0 false kw nw sw ny ⟨#[]⟩ 0) hj ho tn tt bi cv hb tb dr cw w hT
          · exact fe_Ntf6e ⟨a.kd, a.num, a.txt, b.kd, b.num, b.txt, fq, op, ka, na, sa, kb, nb, sb, kn, nn, sn, kp, np, sp, kv, nv, sv, nx, ⟨#[]⟩, 0, u, 0, false, 0, 0, ⟨#[]⟩, ny, sy, 0⟩ (G kv nv sv nx ⟨#[]⟩ 0 u 0 false 0 0 ⟨#[]⟩ ny sy 0) hj ho tn tt bi cv hb tb (ckV vy) w hT
        · obtain ⟨r, ok, dr, hr⟩ := sqrt_ok nx hx
          obtain ⟨kw, nw, sw, nu, vw⟩ := num_ok r ok hr
          have cw := ckV vw
          exact fe_Ntf7 ⟨a.kd, a.num, a.txt, b.kd, b.num, b.txt, fq, op, ka, na, sa, kb, nb, sb, kn, nn, sn, kp, np, sp, kv, nv, sv, nx, ⟨#[]⟩, 0, u, r, ok, kw, nw, sw, 0, ⟨#[]⟩, 0⟩ (G kv nv sv nx ⟨#[]⟩ 0 u r ok kw nw sw 0 ⟨#[]⟩ 0) hj ho tn tt bi cv hb dr nu cw w hT
    · by_cases hb : kb = 4
      · have hq := (cl (by omega)).2 (by rw [e]; show (1 : Nat) ≠ 4; decide) hb
        obtain ⟨rfl, h7⟩ := Prod.mk.inj hq
        obtain ⟨rfl, rfl⟩ := Prod.mk.inj h7
        have tb : Rt 23 #[Vg (kv : Int) nv sv] (Vg (kv : Int) nv sv) := fun W hW => by
          have := vto_num kv nv sv (by omega) i2 W hW
          rw [cv_same v2 (.inr hb)] at this
          exact this
        rcases hj with hj | hj | hj | hj | hj | hj | hj | hj
        · by_cases hs : nx < 0
          · have dr : Rt 37 #[.int .i64 nx] (.tuple #[.int .i64 (resV (-nx)), .bool (resB (-nx))]) := pureB fun W => neg_any nx hx W
            obtain ⟨kw, nw, sw, nu, vw⟩ := num_ok (resV (-nx)) (resB (-nx)) resV_lo
            have cw := ckV vw
            exact fe_Nft0n ⟨a.kd, a.num, a.txt, b.kd, b.num, b.txt, fq, op, ka, na, sa, kv, nv, sv, kn, nn, sn, kp, np, sp, kv, nv, sv, nx, ⟨#[]⟩, 0, ⟨#[]⟩, (resV (-nx)), (resB (-nx)), kw, nw, sw, 0, ⟨#[]⟩, 0⟩ (G kv nv sv nx ⟨#[]⟩ 0 ⟨#[]⟩ (resV (-nx)) (resB (-nx)) kw nw sw 0 ⟨#[]⟩ 0) hj (Int.not_le.1 ho) tn bi hb hs dr nu cw w hT
          · obtain ⟨kw, nw, sw, dr, vw⟩ := mk_ok nx hxl
            have cw := ckV vw
            exact fe_Nft0q ⟨a.kd, a.num, a.txt, b.kd, b.num, b.txt, fq, op, ka, na, sa, kv, nv, sv, kn, nn, sn, kp, np, sp, kv, nv, sv, nx, ⟨#[]⟩, 0, ⟨#[]⟩, 0, false, kw, nw, sw, 0, ⟨#[]⟩, 0⟩ (G kv nv sv nx ⟨#[]⟩ 0 ⟨#[]⟩ 0 false kw nw sw 0 ⟨#[]⟩ 0) hj (Int.not_le.1 ho) tn bi hb (Int.not_lt.1 hs) dr cw w hT
        · by_cases hs : nx < 0
          · exact fe_Nft1n ⟨a.kd, a.num, a.txt, b.kd, b.num, b.txt, fq, op, ka, na, sa, kv, nv, sv, kn, nn, sn, kp, np, sp, kv, nv, sv, nx, ⟨#[]⟩, 0, ⟨#[]⟩, 0, false, 0, 0, ⟨#[]⟩, 0, ⟨#[]⟩, 0⟩ (G kv nv sv nx ⟨#[]⟩ 0 ⟨#[]⟩ 0 false 0 0 ⟨#[]⟩ 0 ⟨#[]⟩ 0) hj (Int.not_le.1 ho) tn bi hb hs w hT
          by_cases hs2 : nx = 0
          · exact fe_Nft1z ⟨a.kd, a.num, a.txt, b.kd, b.num, b.txt, fq, op, ka, na, sa, kv, nv, sv, kn, nn, sn, kp, np, sp, kv, nv, sv, nx, ⟨#[]⟩, 0, ⟨#[]⟩, 0, false, 0, 0, ⟨#[]⟩, 0, ⟨#[]⟩, 0⟩ (G kv nv sv nx ⟨#[]⟩ 0 ⟨#[]⟩ 0 false 0 0 ⟨#[]⟩ 0 ⟨#[]⟩ 0) hj (Int.not_le.1 ho) tn bi hb hs2 w hT
          · exact fe_Nft1p ⟨a.kd, a.num, a.txt, b.kd, b.num, b.txt, fq, op, ka, na, sa, kv, nv, sv, kn, nn, sn, kp, np, sp, kv, nv, sv, nx, ⟨#[]⟩, 0, ⟨#[]⟩, 0, false, 0, 0, ⟨#[]⟩, 0, ⟨#[]⟩, 0⟩ (G kv nv sv nx ⟨#[]⟩ 0 ⟨#[]⟩ 0 false 0 0 ⟨#[]⟩ 0 ⟨#[]⟩ 0) hj (Int.not_le.1 ho) tn bi hb (show (0 : Int) < nx by omega) w hT
        · have dr : Rt 61 #[.int .i64 nx] (.tuple #[.int .i64 (resV (floorZ nx)), .bool (resB (floorZ nx))]) := pureB fun W => floor_any nx hx W
          obtain ⟨kw, nw, sw, nu, vw⟩ := num_ok (resV (floorZ nx)) (resB (floorZ nx)) resV_lo
          have cw := ckV vw
          exact fe_Nft2 ⟨a.kd, a.num, a.txt, b.kd, b.num, b.txt, fq, op, ka, na, sa, kv, nv, sv, kn, nn, sn, kp, np, sp, kv, nv, sv, nx, ⟨#[]⟩, 0, ⟨#[]⟩, (resV (floorZ nx)), (resB (floorZ nx)), kw, nw, sw, 0, ⟨#[]⟩, 0⟩ (G kv nv sv nx ⟨#[]⟩ 0 ⟨#[]⟩ (resV (floorZ nx)) (resB (floorZ nx)) kw nw sw 0 ⟨#[]⟩ 0) hj (Int.not_le.1 ho) tn bi hb dr nu cw w hT
        · have dr : Rt 62 #[.int .i64 nx] (.int .i64 (truncZ nx)) := pureB fun W => trunc_any nx hx W
          obtain ⟨kw, nw, sw, mk, vw⟩ := mk_ok (truncZ nx) (trunc_bd hx).2
          have cw := ckV vw
          exact fe_Nft3 ⟨a.kd, a.num, a.txt, b.kd, b.num, b.txt, fq, op, ka, na, sa, kv, nv, sv, kn, nn, sn, kp, np, sp, kv, nv, sv, nx, ⟨#[]⟩, 0, ⟨#[]⟩, (truncZ nx), false, kw, nw, sw, 0, ⟨#[]⟩, 0⟩ (G kv nv sv nx ⟨#[]⟩ 0 ⟨#[]⟩ (truncZ nx) false kw nw sw 0 ⟨#[]⟩ 0) hj (Int.not_le.1 ho) tn bi hb dr mk cw w hT
        · exact fe_Nft4 ⟨a.kd, a.num, a.txt, b.kd, b.num, b.txt, fq, op, ka, na, sa, kv, nv, sv, kn, nn, sn, kp, np, sp, kv, nv, sv, nx, ⟨#[]⟩, 0, ⟨#[]⟩, 0, false, 0, 0, ⟨#[]⟩, 0, ⟨#[]⟩, 0⟩ (G kv nv sv nx ⟨#[]⟩ 0 ⟨#[]⟩ 0 false 0 0 ⟨#[]⟩ 0 ⟨#[]⟩ 0) hj (Int.not_le.1 ho) tn bi hb tb w hT
        · exact fe_Nft5 ⟨a.kd, a.num, a.txt, b.kd, b.num, b.txt, fq, op, ka, na, sa, kv, nv, sv, kn, nn, sn, kp, np, sp, kv, nv, sv, nx, ⟨#[]⟩, 0, ⟨#[]⟩, 0, false, 0, 0, ⟨#[]⟩, 0, ⟨#[]⟩, 0⟩ (G kv nv sv nx ⟨#[]⟩ 0 ⟨#[]⟩ 0 false 0 0 ⟨#[]⟩ 0 ⟨#[]⟩ 0) hj (Int.not_le.1 ho) tn bi hb tb w hT
        · exact fe_Nft6 ⟨a.kd, a.num, a.txt, b.kd, b.num, b.txt, fq, op, ka, na, sa, kv, nv, sv, kn, nn, sn, kp, np, sp, kv, nv, sv, nx, ⟨#[]⟩, 0, ⟨#[]⟩, 0, false, 0, 0, ⟨#[]⟩, 0, ⟨#[]⟩, 0⟩ (G kv nv sv nx ⟨#[]⟩ 0 ⟨#[]⟩ 0 false 0 0 ⟨#[]⟩ 0 ⟨#[]⟩ 0) hj (Int.not_le.1 ho) tn bi hb tb w hT
        · obtain ⟨r, ok, dr, hr⟩ := sqrt_ok nx hx
          obtain ⟨kw, nw, sw, nu, vw⟩ := num_ok r ok hr
          have cw := ckV vw
          exact fe_Nft7 ⟨a.kd, a.num, a.txt, b.kd, b.num, b.txt, fq, op, ka, na, sa, kv, nv, sv, kn, nn, sn, kp, np, sp, kv, nv, sv, nx, ⟨#[]⟩, 0, ⟨#[]⟩, r, ok, kw, nw, sw, 0, ⟨#[]⟩, 0⟩ (G kv nv sv nx ⟨#[]⟩ 0 ⟨#[]⟩ r ok kw nw sw 0 ⟨#[]⟩ 0) hj (Int.not_le.1 ho) tn bi hb dr nu cw w hT
      · skip
        rcases hj with hj | hj | hj | hj | hj | hj | hj | hj
        · by_cases hs : nx < 0
          · have dr : Rt 37 #[.int .i64 nx] (.tuple #[.int .i64 (resV (-nx)), .bool (resB (-nx))]) := pureB fun W => neg_any nx hx W
            obtain ⟨kw, nw, sw, nu, vw⟩ := num_ok (resV (-nx)) (resB (-nx)) resV_lo
            have cw := ckV vw
            exact fe_Nff0n ⟨a.kd, a.num, a.txt, b.kd, b.num, b.txt, fq, op, ka, na, sa, kb, nb, sb, kn, nn, sn, kp, np, sp, kv, nv, sv, nx, ⟨#[]⟩, 0, ⟨#[]⟩, (resV (-nx)), (resB (-nx)), kw, nw, sw, 0, ⟨#[]⟩, 0⟩ (G kv nv sv nx ⟨#[]⟩ 0 ⟨#[]⟩ (resV (-nx)) (resB (-nx)) kw nw sw 0 ⟨#[]⟩ 0) hj (Int.not_le.1 ho) tn bi cv hb hs dr nu cw w hT
          · obtain ⟨kw, nw, sw, dr, vw⟩ := mk_ok nx hxl
            have cw := ckV vw
            exact fe_Nff0q ⟨a.kd, a.num, a.txt, b.kd, b.num, b.txt, fq, op, ka, na, sa, kb, nb, sb, kn, nn, sn, kp, np, sp, kv, nv, sv, nx, ⟨#[]⟩, 0, ⟨#[]⟩, 0, false, kw, nw, sw, 0, ⟨#[]⟩, 0⟩ (G kv nv sv nx ⟨#[]⟩ 0 ⟨#[]⟩ 0 false kw nw sw 0 ⟨#[]⟩ 0) hj (Int.not_le.1 ho) tn bi cv hb (Int.not_lt.1 hs) dr cw w hT
        · by_cases hs : nx < 0
          · exact fe_Nff1n ⟨a.kd, a.num, a.txt, b.kd, b.num, b.txt, fq, op, ka, na, sa, kb, nb, sb, kn, nn, sn, kp, np, sp, kv, nv, sv, nx, ⟨#[]⟩, 0, ⟨#[]⟩, 0, false, 0, 0, ⟨#[]⟩, 0, ⟨#[]⟩, 0⟩ (G kv nv sv nx ⟨#[]⟩ 0 ⟨#[]⟩ 0 false 0 0 ⟨#[]⟩ 0 ⟨#[]⟩ 0) hj (Int.not_le.1 ho) tn bi cv hb hs w hT
          by_cases hs2 : nx = 0
          · exact fe_Nff1z ⟨a.kd, a.num, a.txt, b.kd, b.num, b.txt, fq, op, ka, na, sa, kb, nb, sb, kn, nn, sn, kp, np, sp, kv, nv, sv, nx, ⟨#[]⟩, 0, ⟨#[]⟩, 0, false, 0, 0, ⟨#[]⟩, 0, ⟨#[]⟩, 0⟩ (G kv nv sv nx ⟨#[]⟩ 0 ⟨#[]⟩ 0 false 0 0 ⟨#[]⟩ 0 ⟨#[]⟩ 0) hj (Int.not_le.1 ho) tn bi cv hb hs2 w hT
          · exact fe_Nff1p ⟨a.kd, a.num, a.txt, b.kd, b.num, b.txt, fq, op, ka, na, sa, kb, nb, sb, kn, nn, sn, kp, np, sp, kv, nv, sv, nx, ⟨#[]⟩, 0, ⟨#[]⟩, 0, false, 0, 0, ⟨#[]⟩, 0, ⟨#[]⟩, 0⟩ (G kv nv sv nx ⟨#[]⟩ 0 ⟨#[]⟩ 0 false 0 0 ⟨#[]⟩ 0 ⟨#[]⟩ 0) hj (Int.not_le.1 ho) tn bi cv hb (show (0 : Int) < nx by omega) w hT
        · have dr : Rt 61 #[.int .i64 nx] (.tuple #[.int .i64 (resV (floorZ nx)), .bool (resB (floorZ nx))]) := pureB fun W => floor_any nx hx W
          obtain ⟨kw, nw, sw, nu, vw⟩ := num_ok (resV (floorZ nx)) (resB (floorZ nx)) resV_lo
          have cw := ckV vw
          exact fe_Nff2 ⟨a.kd, a.num, a.txt, b.kd, b.num, b.txt, fq, op, ka, na, sa, kb, nb, sb, kn, nn, sn, kp, np, sp, kv, nv, sv, nx, ⟨#[]⟩, 0, ⟨#[]⟩, (resV (floorZ nx)), (resB (floorZ nx)), kw, nw, sw, 0, ⟨#[]⟩, 0⟩ (G kv nv sv nx ⟨#[]⟩ 0 ⟨#[]⟩ (resV (floorZ nx)) (resB (floorZ nx)) kw nw sw 0 ⟨#[]⟩ 0) hj (Int.not_le.1 ho) tn bi cv hb dr nu cw w hT
        · have dr : Rt 62 #[.int .i64 nx] (.int .i64 (truncZ nx)) := pureB fun W => trunc_any nx hx W
          obtain ⟨kw, nw, sw, mk, vw⟩ := mk_ok (truncZ nx) (trunc_bd hx).2
          have cw := ckV vw
          exact fe_Nff3 ⟨a.kd, a.num, a.txt, b.kd, b.num, b.txt, fq, op, ka, na, sa, kb, nb, sb, kn, nn, sn, kp, np, sp, kv, nv, sv, nx, ⟨#[]⟩, 0, ⟨#[]⟩, (truncZ nx), false, kw, nw, sw, 0, ⟨#[]⟩, 0⟩ (G kv nv sv nx ⟨#[]⟩ 0 ⟨#[]⟩ (truncZ nx) false kw nw sw 0 ⟨#[]⟩ 0) hj (Int.not_le.1 ho) tn bi cv hb dr mk cw w hT
        · rcases tba with ⟨ny, tb, hy, _⟩ | ⟨ny, sy, tb, vy, _⟩
          · obtain ⟨pl, hp⟩ : ∃ pl : Int, pl = if (4 : Int) < (if (-20 : Int) > ny.tdiv 10000 then -20 else ny.tdiv 10000) then 4 else (if (-20 : Int) > ny.tdiv 10000 then -20 else ny.tdiv 10000) := ⟨_, rfl⟩
            have hpl : -20 ≤ pl := by rw [hp]; (repeat' split) <;> omega
            have dr : Rt 64 #[.int .i64 nx, .int .i64 pl] (.tuple #[.int .i64 (rndV nx pl), .bool (rndB nx pl)]) := pureB fun W => round_any nx pl hx (by omega) W
            obtain ⟨kw, nw, sw, nu, vw⟩ := num_ok (rndV nx pl) (rndB nx pl) rnd_lo
            have cw := ckV vw
            exact fe_Nff4n ⟨a.kd, a.num, a.txt, b.kd, b.num, b.txt, fq, op, ka, na, sa, kb, nb, sb, kn, nn, sn, kp, np, sp, kv, nv, sv, nx, ⟨#[]⟩, 0, ⟨#[]⟩, (rndV nx pl), (rndB nx pl), kw, nw, sw, ny, ⟨#[]⟩, pl⟩ (G kv nv sv nx ⟨#[]⟩ 0 ⟨#[]⟩ (rndV nx pl) (rndB nx pl) kw nw sw ny ⟨#[]⟩ pl) hj (Int.not_le.1 ho) tn bi cv hb tb (tdiv_rng hy) hp dr nu cw w hT
          · exact fe_Nff4e ⟨a.kd, a.num, a.txt, b.kd, b.num, b.txt, fq, op, ka, na, sa, kb, nb, sb, kn, nn, sn, kp, np, sp, kv, nv, sv, nx, ⟨#[]⟩, 0, ⟨#[]⟩, 0, false, 0, 0, ⟨#[]⟩, ny, sy, 0⟩ (G kv nv sv nx ⟨#[]⟩ 0 ⟨#[]⟩ 0 false 0 0 ⟨#[]⟩ ny sy 0) hj (Int.not_le.1 ho) tn bi cv hb tb (ckV vy) w hT
        · rcases tba with ⟨ny, tb, hy, _⟩ | ⟨ny, sy, tb, vy, _⟩
          · obtain ⟨kw, nw, sw, dr, vw⟩ := modl_ok nx ny hx hy
            have cw := ckV vw
            exact fe_Nff5n ⟨a.kd, a.num, a.txt, b.kd, b.num, b.txt, fq, op, ka, na, sa, kb, nb, sb, kn, nn, sn, kp, np, sp, kv, nv, sv, nx, ⟨#[]⟩, 0, ⟨#[]⟩, 0, false, kw, nw, sw, ny, ⟨#[]⟩, 0⟩ (G kv nv sv nx ⟨#[]⟩ 0 ⟨#[]⟩ 0 false kw nw sw ny ⟨#[]⟩ 0) hj (Int.not_le.1 ho) tn bi cv hb tb dr cw w hT
          · exact fe_Nff5e ⟨a.kd, a.num, a.txt, b.kd, b.num, b.txt, fq, op, ka, na, sa, kb, nb, sb, kn, nn, sn, kp, np, sp, kv, nv, sv, nx, ⟨#[]⟩, 0, ⟨#[]⟩, 0, false, 0, 0, ⟨#[]⟩, ny, sy, 0⟩ (G kv nv sv nx ⟨#[]⟩ 0 ⟨#[]⟩ 0 false 0 0 ⟨#[]⟩ ny sy 0) hj (Int.not_le.1 ho) tn bi cv hb tb (ckV vy) w hT
        · rcases tba with ⟨ny, tb, hy, _⟩ | ⟨ny, sy, tb, vy, _⟩
          · obtain ⟨kw, nw, sw, dr, vw⟩ := powr_ok nx ny hx hy
            have cw := ckV vw
            exact fe_Nff6n ⟨a.kd, a.num, a.txt, b.kd, b.num, b.txt, fq, op, ka, na, sa, kb, nb, sb, kn, nn, sn, kp, np, sp, kv, nv, sv, nx, ⟨#[]⟩, 0, ⟨#[]⟩, 0, false, kw, nw, sw, ny, ⟨#[]⟩, 0⟩ (G kv nv sv nx ⟨#[]⟩ 0 ⟨#[]⟩ 0 false kw nw sw ny ⟨#[]⟩ 0) hj (Int.not_le.1 ho) tn bi cv hb tb dr cw w hT
          · exact fe_Nff6e ⟨a.kd, a.num, a.txt, b.kd, b.num, b.txt, fq, op, ka, na, sa, kb, nb, sb, kn, nn, sn, kp, np, sp, kv, nv, sv, nx, ⟨#[]⟩, 0, ⟨#[]⟩, 0, false, 0, 0, ⟨#[]⟩, ny, sy, 0⟩ (G kv nv sv nx ⟨#[]⟩ 0 ⟨#[]⟩ 0 false 0 0 ⟨#[]⟩ ny sy 0) hj (Int.not_le.1 ho) tn bi cv hb tb (ckV vy) w hT
        · obtain ⟨r, ok, dr, hr⟩ := sqrt_ok nx hx
          obtain ⟨kw, nw, sw, nu, vw⟩ := num_ok r ok hr
          have cw := ckV vw
          exact fe_Nff7 ⟨a.kd, a.num, a.txt, b.kd, b.num, b.txt, fq, op, ka, na, sa, kb, nb, sb, kn, nn, sn, kp, np, sp, kv, nv, sv, nx, ⟨#[]⟩, 0, ⟨#[]⟩, r, ok, kw, nw, sw, 0, ⟨#[]⟩, 0⟩ (G kv nv sv nx ⟨#[]⟩ 0 ⟨#[]⟩ r ok kw nw sw 0 ⟨#[]⟩ 0) hj (Int.not_le.1 ho) tn bi cv hb dr nu cw w hT
  · have cx := ckV vx
    by_cases ho : 6 ≤ 1 + (op.tmod 12 + 12).tmod 12
    · rcases tta with ⟨h4, tt⟩ | ⟨h4, u, tt, vt⟩
      · have hq := (ch ho).1 h4
        obtain ⟨rfl, h7⟩ := Prod.mk.inj hq
        obtain ⟨rfl, rfl⟩ := Prod.mk.inj h7
        subst h4
        rcases hj with hj | hj | hj | hj | hj | hj | hj | hj
        · exact fe_Tt0 ⟨a.kd, a.num, a.txt, b.kd, b.num, b.txt, fq, op, 4, nv, sv, kb, nb, sb, kn, nn, sn, kp, np, sp, 4, nv, sv, nx, sx, nv, sv, 0, false, 0, 0, ⟨#[]⟩, 0, ⟨#[]⟩, 0⟩ (G 4 nv sv nx sx nv sv 0 false 0 0 ⟨#[]⟩ 0 ⟨#[]⟩ 0) hj ho tn tt bi cv cx w hT
        · exact fe_Tt1 ⟨a.kd, a.num, a.txt, b.kd, b.num, b.txt, fq, op, 4, nv, sv, kb, nb, sb, kn, nn, sn, kp, np, sp, 4, nv, sv, nx, sx, nv, sv, 0, false, 0, 0, ⟨#[]⟩, 0, ⟨#[]⟩, 0⟩ (G 4 nv sv nx sx nv sv 0 false 0 0 ⟨#[]⟩ 0 ⟨#[]⟩ 0) hj ho tn tt bi cv cx w hT
        · exact fe_Tt2 ⟨a.kd, a.num, a.txt, b.kd, b.num, b.txt, fq, op, 4, nv, sv, kb, nb, sb, kn, nn, sn, kp, np, sp, 4, nv, sv, nx, sx, nv, sv, 0, false, 0, 0, ⟨#[]⟩, 0, ⟨#[]⟩, 0⟩ (G 4 nv sv nx sx nv sv 0 false 0 0 ⟨#[]⟩ 0 ⟨#[]⟩ 0) hj ho tn tt bi cv cx w hT
        · exact fe_Tt3 ⟨a.kd, a.num, a.txt, b.kd, b.num, b.txt, fq, op, 4, nv, sv, kb, nb, sb, kn, nn, sn, kp, np, sp, 4, nv, sv, nx, sx, nv, sv, 0, false, 0, 0, ⟨#[]⟩, 0, ⟨#[]⟩, 0⟩ (G 4 nv sv nx sx nv sv 0 false 0 0 ⟨#[]⟩ 0 ⟨#[]⟩ 0) hj ho tn tt bi cv cx w hT
        · exact fe_Tt4 ⟨a.kd, a.num, a.txt, b.kd, b.num, b.txt, fq, op, 4, nv, sv, kb, nb, sb, kn, nn, sn, kp, np, sp, 4, nv, sv, nx, sx, nv, sv, 0, false, 0, 0, ⟨#[]⟩, 0, ⟨#[]⟩, 0⟩ (G 4 nv sv nx sx nv sv 0 false 0 0 ⟨#[]⟩ 0 ⟨#[]⟩ 0) hj ho tn tt bi cv cx w hT
        · exact fe_Tt5 ⟨a.kd, a.num, a.txt, b.kd, b.num, b.txt, fq, op, 4, nv, sv, kb, nb, sb, kn, nn, sn, kp, np, sp, 4, nv, sv, nx, sx, nv, sv, 0, false, 0, 0, ⟨#[]⟩, 0, ⟨#[]⟩, 0⟩ (G 4 nv sv nx sx nv sv 0 false 0 0 ⟨#[]⟩ 0 ⟨#[]⟩ 0) hj ho tn tt bi cv cx w hT
        · exact fe_Tt6 ⟨a.kd, a.num, a.txt, b.kd, b.num, b.txt, fq, op, 4, nv, sv, kb, nb, sb, kn, nn, sn, kp, np, sp, 4, nv, sv, nx, sx, nv, sv, 0, false, 0, 0, ⟨#[]⟩, 0, ⟨#[]⟩, 0⟩ (G 4 nv sv nx sx nv sv 0 false 0 0 ⟨#[]⟩ 0 ⟨#[]⟩ 0) hj ho tn tt bi cv cx w hT
        · exact fe_Tt7 ⟨a.kd, a.num, a.txt, b.kd, b.num, b.txt, fq, op, 4, nv, sv, kb, nb, sb, kn, nn, sn, kp, np, sp, 4, nv, sv, nx, sx, nv, sv, 0, false, 0, 0, ⟨#[]⟩, 0, ⟨#[]⟩, 0⟩ (G 4 nv sv nx sx nv sv 0 false 0 0 ⟨#[]⟩ 0 ⟨#[]⟩ 0) hj ho tn tt bi cv cx w hT
      · by_cases hb : kb = 4
        · have hq := (ch ho).2 h4 hb
          obtain ⟨rfl, h7⟩ := Prod.mk.inj hq
          obtain ⟨rfl, rfl⟩ := Prod.mk.inj h7
          rcases hj with hj | hj | hj | hj | hj | hj | hj | hj
          · exact fe_Xtt0 ⟨a.kd, a.num, a.txt, b.kd, b.num, b.txt, fq, op, ka, na, sa, kv, nv, sv, kn, nn, sn, kp, np, sp, kv, nv, sv, nx, sx, 0, u, 0, false, 0, 0, ⟨#[]⟩, 0, ⟨#[]⟩, 0⟩ (G kv nv sv nx sx 0 u 0 false 0 0 ⟨#[]⟩ 0 ⟨#[]⟩ 0) hj ho tn tt bi hb cx w hT
          · exact fe_Xtt1 ⟨a.kd, a.num, a.txt, b.kd, b.num, b.txt, fq, op, ka, na, sa, kv, nv, sv, kn, nn, sn, kp, np, sp, kv, nv, sv, nx, sx, 0, u, 0, false, 0, 0, ⟨#[]⟩, 0, ⟨#[]⟩, 0⟩ (G kv nv sv nx sx 0 u 0 false 0 0 ⟨#[]⟩ 0 ⟨#[]⟩ 0) hj ho tn tt bi hb cx w hT
          · exact fe_Xtt2 ⟨a.kd, a.num, a.txt, b.kd, b.num, b.txt, fq, op, ka, na, sa, kv, nv, sv, kn, nn, sn, kp, np, sp, kv, nv, sv, nx, sx, 0, u, 0, false, 0, 0, ⟨#[]⟩, 0, ⟨#[]⟩, 0⟩ (G kv nv sv nx sx 0 u 0 false 0 0 ⟨#[]⟩ 0 ⟨#[]⟩ 0) hj ho tn tt bi hb cx w hT
          · exact fe_Xtt3 ⟨a.kd, a.num, a.txt, b.kd, b.num, b.txt, fq, op, ka, na, sa, kv, nv, sv, kn, nn, sn, kp, np, sp, kv, nv, sv, nx, sx, 0, u, 0, false, 0, 0, ⟨#[]⟩, 0, ⟨#[]⟩, 0⟩ (G kv nv sv nx sx 0 u 0 false 0 0 ⟨#[]⟩ 0 ⟨#[]⟩ 0) hj ho tn tt bi hb cx w hT
          · exact fe_Xtt4 ⟨a.kd, a.num, a.txt, b.kd, b.num, b.txt, fq, op, ka, na, sa, kv, nv, sv, kn, nn, sn, kp, np, sp, kv, nv, sv, nx, sx, 0, u, 0, false, 0, 0, ⟨#[]⟩, 0, ⟨#[]⟩, 0⟩ (G kv nv sv nx sx 0 u 0 false 0 0 ⟨#[]⟩ 0 ⟨#[]⟩ 0) hj ho tn tt bi hb cx w hT
          · exact fe_Xtt5 ⟨a.kd, a.num, a.txt, b.kd, b.num, b.txt, fq, op, ka, na, sa, kv, nv, sv, kn, nn, sn, kp, np, sp, kv, nv, sv, nx, sx, 0, u, 0, false, 0, 0, ⟨#[]⟩, 0, ⟨#[]⟩, 0⟩ (G kv nv sv nx sx 0 u 0 false 0 0 ⟨#[]⟩ 0 ⟨#[]⟩ 0) hj ho tn tt bi hb cx w hT
          · exact fe_Xtt6 ⟨a.kd, a.num, a.txt, b.kd, b.num, b.txt, fq, op, ka, na, sa, kv, nv, sv, kn, nn, sn, kp, np, sp, kv, nv, sv, nx, sx, 0, u, 0, false, 0, 0, ⟨#[]⟩, 0, ⟨#[]⟩, 0⟩ (G kv nv sv nx sx 0 u 0 false 0 0 ⟨#[]⟩ 0 ⟨#[]⟩ 0) hj ho tn tt bi hb cx w hT
          · exact fe_Xtt7 ⟨a.kd, a.num, a.txt, b.kd, b.num, b.txt, fq, op, ka, na, sa, kv, nv, sv, kn, nn, sn, kp, np, sp, kv, nv, sv, nx, sx, 0, u, 0, false, 0, 0, ⟨#[]⟩, 0, ⟨#[]⟩, 0⟩ (G kv nv sv nx sx 0 u 0 false 0 0 ⟨#[]⟩ 0 ⟨#[]⟩ 0) hj ho tn tt bi hb cx w hT
        · skip
          rcases hj with hj | hj | hj | hj | hj | hj | hj | hj
          · exact fe_Xtf0 ⟨a.kd, a.num, a.txt, b.kd, b.num, b.txt, fq, op, ka, na, sa, kb, nb, sb, kn, nn, sn, kp, np, sp, kv, nv, sv, nx, sx, 0, u, 0, false, 0, 0, ⟨#[]⟩, 0, ⟨#[]⟩, 0⟩ (G kv nv sv nx sx 0 u 0 false 0 0 ⟨#[]⟩ 0 ⟨#[]⟩ 0) hj ho tn tt bi cv hb cx w hT
          · exact fe_Xtf1 ⟨a.kd, a.num, a.txt, b.kd, b.num, b.txt, fq, op, ka, na, sa, kb, nb, sb, kn, nn, sn, kp, np, sp, kv, nv, sv, nx, sx, 0, u, 0, false, 0, 0, ⟨#[]⟩, 0, ⟨#[]⟩, 0⟩ (G kv nv sv nx sx 0 u 0 false 0 0 ⟨#[]⟩ 0 ⟨#[]⟩ 0) hj ho tn tt bi cv hb cx w hT
          · exact fe_Xtf2 ⟨a.kd, a.num, a.txt, b.kd, b.num, b.txt, fq, op, ka, na, sa, kb, nb, sb, kn, nn, sn, kp, np, sp, kv, nv, sv, nx, sx, 0, u, 0, false, 0, 0, ⟨#[]⟩, 0, ⟨#[]⟩, 0⟩ (G kv nv sv nx sx 0 u 0 false 0 0 ⟨#[]⟩ 0 ⟨#[]⟩ 0) hj ho tn tt bi cv hb cx w hT
          · exact fe_Xtf3 ⟨a.kd, a.num, a.txt, b.kd, b.num, b.txt, fq, op, ka, na, sa, kb, nb, sb, kn, nn, sn, kp, np, sp, kv, nv, sv, nx, sx, 0, u, 0, false, 0, 0, ⟨#[]⟩, 0, ⟨#[]⟩, 0⟩ (G kv nv sv nx sx 0 u 0 false 0 0 ⟨#[]⟩ 0 ⟨#[]⟩ 0) hj ho tn tt bi cv hb cx w hT
          · exact fe_Xtf4 ⟨a.kd, a.num, a.txt, b.kd, b.num, b.txt, fq, op, ka, na, sa, kb, nb, sb, kn, nn, sn, kp, np, sp, kv, nv, sv, nx, sx, 0, u, 0, false, 0, 0, ⟨#[]⟩, 0, ⟨#[]⟩, 0⟩ (G kv nv sv nx sx 0 u 0 false 0 0 ⟨#[]⟩ 0 ⟨#[]⟩ 0) hj ho tn tt bi cv hb cx w hT
          · exact fe_Xtf5 ⟨a.kd, a.num, a.txt, b.kd, b.num, b.txt, fq, op, ka, na, sa, kb, nb, sb, kn, nn, sn, kp, np, sp, kv, nv, sv, nx, sx, 0, u, 0, false, 0, 0, ⟨#[]⟩, 0, ⟨#[]⟩, 0⟩ (G kv nv sv nx sx 0 u 0 false 0 0 ⟨#[]⟩ 0 ⟨#[]⟩ 0) hj ho tn tt bi cv hb cx w hT
          · exact fe_Xtf6 ⟨a.kd, a.num, a.txt, b.kd, b.num, b.txt, fq, op, ka, na, sa, kb, nb, sb, kn, nn, sn, kp, np, sp, kv, nv, sv, nx, sx, 0, u, 0, false, 0, 0, ⟨#[]⟩, 0, ⟨#[]⟩, 0⟩ (G kv nv sv nx sx 0 u 0 false 0 0 ⟨#[]⟩ 0 ⟨#[]⟩ 0) hj ho tn tt bi cv hb cx w hT
          · exact fe_Xtf7 ⟨a.kd, a.num, a.txt, b.kd, b.num, b.txt, fq, op, ka, na, sa, kb, nb, sb, kn, nn, sn, kp, np, sp, kv, nv, sv, nx, sx, 0, u, 0, false, 0, 0, ⟨#[]⟩, 0, ⟨#[]⟩, 0⟩ (G kv nv sv nx sx 0 u 0 false 0 0 ⟨#[]⟩ 0 ⟨#[]⟩ 0) hj ho tn tt bi cv hb cx w hT
    · have hq := (cl (by omega)).1 (by rw [e])
      rw [e] at hq
      obtain ⟨rfl, h7⟩ := Prod.mk.inj hq
      obtain ⟨rfl, rfl⟩ := Prod.mk.inj h7
      rcases hj with hj | hj | hj | hj | hj | hj | hj | hj
      · exact fe_Xf0 ⟨a.kd, a.num, a.txt, b.kd, b.num, b.txt, fq, op, ka, na, sa, kb, nb, sb, kn, nn, sn, kp, np, sp, 4, nv, sv, nv, sv, 0, ⟨#[]⟩, 0, false, 0, 0, ⟨#[]⟩, 0, ⟨#[]⟩, 0⟩ (G 4 nv sv nv sv 0 ⟨#[]⟩ 0 false 0 0 ⟨#[]⟩ 0 ⟨#[]⟩ 0) hj (Int.not_le.1 ho) tn bi cv w hT
      · exact fe_Xf1 ⟨a.kd, a.num, a.txt, b.kd, b.num, b.txt, fq, op, ka, na, sa, kb, nb, sb, kn, nn, sn, kp, np, sp, 4, nv, sv, nv, sv, 0, ⟨#[]⟩, 0, false, 0, 0, ⟨#[]⟩, 0, ⟨#[]⟩, 0⟩ (G 4 nv sv nv sv 0 ⟨#[]⟩ 0 false 0 0 ⟨#[]⟩ 0 ⟨#[]⟩ 0) hj (Int.not_le.1 ho) tn bi cv w hT
      · exact fe_Xf2 ⟨a.kd, a.num, a.txt, b.kd, b.num, b.txt, fq, op, ka, na, sa, kb, nb, sb, kn, nn, sn, kp, np, sp, 4, nv, sv, nv, sv, 0, ⟨#[]⟩, 0, false, 0, 0, ⟨#[]⟩, 0, ⟨#[]⟩, 0⟩ (G 4 nv sv nv sv 0 ⟨#[]⟩ 0 false 0 0 ⟨#[]⟩ 0 ⟨#[]⟩ 0) hj (Int.not_le.1 ho) tn bi cv w hT
      · exact fe_Xf3 ⟨a.kd, a.num, a.txt, b.kd, b.num, b.txt, fq, op, ka, na, sa, kb, nb, sb, kn, nn, sn, kp, np, sp, 4, nv, sv, nv, sv, 0, ⟨#[]⟩, 0, false, 0, 0, ⟨#[]⟩, 0, ⟨#[]⟩, 0⟩ (G 4 nv sv nv sv 0 ⟨#[]⟩ 0 false 0 0 ⟨#[]⟩ 0 ⟨#[]⟩ 0) hj (Int.not_le.1 ho) tn bi cv w hT
      · exact fe_Xf4 ⟨a.kd, a.num, a.txt, b.kd, b.num, b.txt, fq, op, ka, na, sa, kb, nb, sb, kn, nn, sn, kp, np, sp, 4, nv, sv, nv, sv, 0, ⟨#[]⟩, 0, false, 0, 0, ⟨#[]⟩, 0, ⟨#[]⟩, 0⟩ (G 4 nv sv nv sv 0 ⟨#[]⟩ 0 false 0 0 ⟨#[]⟩ 0 ⟨#[]⟩ 0) hj (Int.not_le.1 ho) tn bi cv w hT
      · exact fe_Xf5 ⟨a.kd, a.num, a.txt, b.kd, b.num, b.txt, fq, op, ka, na, sa, kb, nb, sb, kn, nn, sn, kp, np, sp, 4, nv, sv, nv, sv, 0, ⟨#[]⟩, 0, false, 0, 0, ⟨#[]⟩, 0, ⟨#[]⟩, 0⟩ (G 4 nv sv nv sv 0 ⟨#[]⟩ 0 false 0 0 ⟨#[]⟩ 0 ⟨#[]⟩ 0) hj (Int.not_le.1 ho) tn bi cv w hT
      · exact fe_Xf6 ⟨a.kd, a.num, a.txt, b.kd, b.num, b.txt, fq, op, ka, na, sa, kb, nb, sb, kn, nn, sn, kp, np, sp, 4, nv, sv, nv, sv, 0, ⟨#[]⟩, 0, false, 0, 0, ⟨#[]⟩, 0, ⟨#[]⟩, 0⟩ (G 4 nv sv nv sv 0 ⟨#[]⟩ 0 false 0 0 ⟨#[]⟩ 0 ⟨#[]⟩ 0) hj (Int.not_le.1 ho) tn bi cv w hT
      · exact fe_Xf7 ⟨a.kd, a.num, a.txt, b.kd, b.num, b.txt, fq, op, ka, na, sa, kb, nb, sb, kn, nn, sn, kp, np, sp, 4, nv, sv, nv, sv, 0, ⟨#[]⟩, 0, false, 0, 0, ⟨#[]⟩, 0, ⟨#[]⟩, 0⟩ (G 4 nv sv nv sv 0 ⟨#[]⟩ 0 false 0 0 ⟨#[]⟩ 0 ⟨#[]⟩ 0) hj (Int.not_le.1 ho) tn bi cv w hT
end Go.Proofs.YtdanbabamcdebaaGreatDoor.Va
