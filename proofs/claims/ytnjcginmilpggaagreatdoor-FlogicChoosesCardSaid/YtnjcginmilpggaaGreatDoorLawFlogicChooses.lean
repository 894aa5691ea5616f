/- The law: the functions choose. -/
import Derived.Test.YtnjcginmilpggaaGreatDoorFlC0
import Derived.Test.YtnjcginmilpggaaGreatDoorFlC1
import Derived.Test.YtnjcginmilpggaaGreatDoorFlC2
import Derived.OpenShut
namespace Go.Proofs.YtnjcginmilpggaaGreatDoor.Va
open Go Go.RowKit GM Sx
set_option linter.unusedVariables false
/-- What is converted fits again. -/
theorem cv_fit (kd k : Nat) (n : Int) (s : ByteArray) (hs : s.size ≤ 2000) (hi : InI n) : (cvR kd k n s).2.2.size ≤ 2000 ∧ InI (cvR kd k n s).2.1 := by
  have small : ∀ x : Int, -1000000 ≤ x → x ≤ 1000000 → InI x := fun x h1 h2 => by unfold InI; omega
  have mk : ∀ x : Int, InI x → InI (mkN x) := fun x h => by
    unfold mkN
    split
    · exact small 3 (by omega) (by omega)
    · exact h
  unfold cvR
  split
  · rename_i h0
    split
    · exact ⟨hs, hi⟩
    · rename_i hk
      split
      · refine ⟨(by decide : (⟨#[]⟩ : ByteArray).size ≤ 2000), ?_⟩
        show InI (nbR k n s).2
        unfold nbR
        split
        · split
          · rename_i he
            have := Tx.par_bd he
            exact mk _ (by unfold Tx.mostI at this; unfold InI; omega)
          · split
            · exact small 3 (by omega) (by omega)
            · exact small 2 (by omega) (by omega)
        · refine mk _ (small _ ?_ ?_) <;> rcases vld_sort h0 with ⟨g, g', _⟩ | ⟨g, g', _⟩ | ⟨g, g', _⟩ | ⟨g, _⟩ | ⟨g, g', _⟩ <;> omega
      · split
        · refine ⟨(by decide : (⟨#[]⟩ : ByteArray).size ≤ 2000), ?_⟩
          show InI (trR k n s).2
          rcases tr_sort k n s with a | a | a <;> rw [a]
          · exact small 2 (by omega) (by omega)
          · exact small 1 (by omega) (by omega)
          · exact small 0 (by omega) (by omega)
        · refine ⟨?_, small 0 (by omega) (by omega)⟩
          dsimp only
          split
          · have h := chk_fmt hi
            have hl : (Tx.fmtL n).length ≤ 2000 := by
              unfold chk at h
              split at h
              · cases h
              · omega
            exact hl
          · split
            · split <;> decide
            · decide
  · exact ⟨by decide, small 2 (by omega) (by omega)⟩
theorem vldE {k : Nat} {n : Int} {l : List UInt8} (h : vE k n l = 0) : vldV k n l = true := by
  unfold vE at h
  split at h
  · assumption
  · omega
theorem ckOk {k : Nat} {n : Int} {s : ByteArray} (h : vE k n s.data.toList = 0) (hs : s.size ≤ 2000) (hi : InI n) : Rt 14 #[Vg (k : Int) n s] (.int .i64 0) := fun W hW => by
  have h1 := vcheck_any k n s (maxLen_of (by omega)) hi.1 W
  rw [h] at h1
  exact h1
theorem bool_of {n : Int} {s : ByteArray} (h : vE 2 n s.data.toList = 0) : (n = 0 ∨ n = 1) ∧ s = ⟨#[]⟩ := by
  refine ⟨?_, empty_of (vld_text (vldE h) (by decide))⟩
  have h1 := vldE h
  unfold vldV at h1
  simp at h1
  exact h1.1
/-- What ToBool makes of a value. -/
theorem tb_split (k : Nat) (n : Int) (s : ByteArray) (hs : s.size ≤ 300) (hi : InI n) :
    (∃ nt st, Rt 16 #[Vg (k : Int) n s] (Vg 4 nt st) ∧ Rt 14 #[Vg 4 nt st] (.int .i64 0)) ∨ Rt 16 #[Vg (k : Int) n s] (Vg 2 1 ⟨#[]⟩) ∨ Rt 16 #[Vg (k : Int) n s] (Vg 2 0 ⟨#[]⟩) := by
  have h : Rt 16 #[Vg (k : Int) n s] (Vg ((cvR 2 k n s).1 : Int) (cvR 2 k n s).2.1 (cvR 2 k n s).2.2) := fun W hW => vto_bool k n s (by omega) hi W hW
  obtain ⟨ok, hk⟩ := cv2_ok k n s
  obtain ⟨f1, f2⟩ := cv_fit 2 k n s (by omega) hi
  rcases hk with hk | hk
  · rw [hk] at h ok
    obtain ⟨h1, h2⟩ := bool_of ok
    rw [h2] at h
    rcases h1 with h1 | h1
    · rw [h1] at h; exact .inr (.inr h)
    · rw [h1] at h; exact .inr (.inl h)
  · rw [hk] at h ok
    exact .inl ⟨_, _, h, ckOk ok f1 f2⟩
/-- What ToNumber makes of a value. -/
theorem tn_split (k : Nat) (n : Int) (s : ByteArray) (hs : s.size ≤ 300) (hi : InI n) :
    (∃ nu su, Rt 51 #[Vg (k : Int) n s] (Vg 4 nu su) ∧ Rt 14 #[Vg 4 nu su] (.int .i64 0)) ∨
    (∃ nu tr, Rt 51 #[Vg (k : Int) n s] (Vg 1 nu ⟨#[]⟩) ∧ Rt 14 #[Vg 1 nu ⟨#[]⟩] (.int .i64 0) ∧ Rt 51 #[Vg 1 nu ⟨#[]⟩] (Vg 1 nu ⟨#[]⟩) ∧ Rt 87 #[.int .i64 nu] (.int .i64 tr) ∧ -9223372036854775808 < tr ∧ (-922337203685478 ≤ tr.tdiv 10000 ∧ tr.tdiv 10000 ≤ 922337203685478)) := by
  have h : Rt 51 #[Vg (k : Int) n s] (Vg ((cvR 1 k n s).1 : Int) (cvR 1 k n s).2.1 (cvR 1 k n s).2.2) := fun W hW => vto_num k n s (by omega) hi W hW
  obtain ⟨ok, hk⟩ := cv1_ok k n s
  obtain ⟨f1, f2⟩ := cv_fit 1 k n s (by omega) hi
  rcases hk with hk | hk
  · have he := cv1_num hk
    rw [hk, he] at h ok
    generalize (cvR 1 k n s).2.1 = nu at *
    obtain ⟨b1, b2⟩ := trunc_bd f2
    refine .inr ⟨nu, truncZ nu, h, ckOk ok (by decide) f2, fun W hW => ?_, pureB (fun W => trunc_any nu f2 W), b2, ?_⟩
    · have := vto_num 1 nu ⟨#[]⟩ (by decide) f2 W hW
      rw [cv_same ok (.inl rfl)] at this
      exact this
    · unfold InI at b1
      rcases Int.le_total 0 (truncZ nu) with h0 | h0
      · rw [Int.tdiv_eq_ediv_of_nonneg h0]; omega
      · obtain ⟨b, hb⟩ : ∃ b, truncZ nu = -b := ⟨-truncZ nu, by omega⟩
        rw [hb] at b1 h0 ⊢
        rw [Int.neg_tdiv, Int.tdiv_eq_ediv_of_nonneg (by omega)]; omega
  · rw [hk] at h ok
    exact .inl ⟨_, _, h, ckOk ok f1 f2⟩
theorem flogicChooses_law (x : VV) (y : VV) (z : VV) (w : World) (hl : laidMetH Tryz.prog Rows.flogicChoosesRow.laid w) :
    Calls Tryz.prog 4 #[.agg (cells3 x ++ cells3 y ++ cells3 z).toArray] w fun e w' => e = .returned (.bool true) ∧ Below w.heap.size w w' := by
  have hT : Tb w := tb_of (MakeChecks.laidMetH_plain _ _ _ (by kernel_rfl)) hl
  obtain ⟨kc, nc, sc, gc, v1, s1, i1⟩ := good_any x
  obtain ⟨ka, na, sa, ga, v2, s2, i2⟩ := good_any y
  obtain ⟨kb, nb, sb, gb, v3, s3, i3⟩ := good_any z
  obtain ⟨d, hd⟩ : ∃ d : Dt, d = ⟨x.kd, x.num, x.txt, y.kd, y.num, y.txt, z.kd, z.num, z.txt, kc, nc, sc, ka, na, sa, kb, nb, sb⟩ := ⟨_, rfl⟩
  have G : Gs d := by
    subst hd
    have t1 : sc.size ≤ 2000 := by omega
    have t2 : sa.size ≤ 2000 := by omega
    have t3 : sb.size ≤ 2000 := by omega
    exact ⟨gc, ckOk v1 t1 i1, ga, ckOk v2 t2 i2, gb, ckOk v3 t3 i3⟩
  have goal : Calls Tryz.prog 4 #[.agg #[.int .u8 (d.x0 : Int), .int .i64 d.y0, .string d.z0, .int .u8 (d.x1 : Int), .int .i64 d.y1, .string d.z1, .int .u8 (d.x2 : Int), .int .i64 d.y2, .string d.z2]] w (Yes w) := by
    have TBS := tb_split kc nc sc s1 i1
    have TNS := tn_split kc nc sc s1 i1
    have e1 : d.kc = kc := by rw [hd]
    have e2 : d.nc = nc := by rw [hd]
    have e3 : d.sc = sc := by rw [hd]
    have e4 : d.ka = ka := by rw [hd]
    have e5 : d.kb = kb := by rw [hd]
    have same : vE kc nc sc.data.toList = 0 → kc = 4 → Rt 16 #[Vg (kc : Int) nc sc] (Vg (kc : Int) nc sc) ∧ Rt 51 #[Vg (kc : Int) nc sc] (Vg (kc : Int) nc sc) := fun h h4 => by
      constructor
      · intro W hW
        have := vto_bool kc nc sc (by omega) i1 W hW
        rw [cv_same h (.inr h4)] at this
        exact this
      · intro W hW
        have := vto_num kc nc sc (by omega) i1 W hW
        rw [cv_same h (.inr h4)] at this
        exact this
    have SM := same v1
    clear hd same v1 v2 v3 s1 s2 s3 i1 i2 i3 ga gb gc
    subst e1 e2 e3 e4 e5
    by_cases ec : d.kc = 4
    · obtain ⟨tb, tn⟩ := SM ec
      by_cases ea : d.ka = 4
      · exact ch_ee d G ec ea tb tn w hT
      · exact ch_en d G ec ea tb tn w hT
    clear SM
    obtain ⟨qa, qca⟩ : ∃ q, decide ((d.kc : Int) = (d.ka : Int) ∧ d.nc = d.na ∧ d.sc = d.sa) = q := ⟨_, rfl⟩
    obtain ⟨qb, qcb⟩ : ∃ q, decide ((d.kc : Int) = (d.kb : Int) ∧ d.nc = d.nb ∧ d.sc = d.sb) = q := ⟨_, rfl⟩
    obtain ⟨qc, qba⟩ : ∃ q, decide ((d.kb : Int) = (d.ka : Int) ∧ d.nb = d.na ∧ d.sb = d.sa) = q := ⟨_, rfl⟩
    by_cases ea : d.ka = 4
    · have : qa = false := by rw [← qca]; exact decide_eq_false fun h => ec (by have := h.1; omega)
      subst this
      rcases TBS with ⟨nt, st, tb, vt⟩ | tb | tb
      · rcases TNS with ⟨nu, su, tn, vu⟩ | ⟨nu, tr, tn, vu, tu, tc, ht, hq⟩
        · cases qb with
          | true =>
            exact ch_eeakftn d nt st nu su 0 G ec ea tb vt vu tn qca qcb w hT
          | false =>
            exact ch_eeakffn d nt st nu su 0 G ec ea tb vt vu tn qca qcb w hT
        · cases qb with
          | true =>
            exact ch_eoakftn d nt st nu ⟨#[]⟩ 0 G ec ea tb vt tn qca qcb w hT
          | false =>
            exact ch_eoakffn d nt st nu ⟨#[]⟩ 0 G ec ea tb vt tn qca qcb w hT
      · rcases TNS with ⟨nu, su, tn, vu⟩ | ⟨nu, tr, tn, vu, tu, tc, ht, hq⟩
        · cases qb with
          | true =>
            exact ch_oeakftn d 1 ⟨#[]⟩ nu su 0 G ec ea tb vu tn qca qcb w hT
          | false =>
            exact ch_oeakffn d 1 ⟨#[]⟩ nu su 0 G ec ea tb vu tn qca qcb w hT
        · cases qb with
          | true =>
            exact ch_ooakftn d 1 ⟨#[]⟩ nu ⟨#[]⟩ 0 G ec ea tb tn qca qcb w hT
          | false =>
            exact ch_ooakffn d 1 ⟨#[]⟩ nu ⟨#[]⟩ 0 G ec ea tb tn qca qcb w hT
      · rcases TNS with ⟨nu, su, tn, vu⟩ | ⟨nu, tr, tn, vu, tu, tc, ht, hq⟩
        · cases qb with
          | true =>
            exact ch_oeakftn d 0 ⟨#[]⟩ nu su 0 G ec ea tb vu tn qca qcb w hT
          | false =>
            exact ch_oeakffn d 0 ⟨#[]⟩ nu su 0 G ec ea tb vu tn qca qcb w hT
        · cases qb with
          | true =>
            exact ch_ooakftn d 0 ⟨#[]⟩ nu ⟨#[]⟩ 0 G ec ea tb tn qca qcb w hT
          | false =>
            exact ch_ooakffn d 0 ⟨#[]⟩ nu ⟨#[]⟩ 0 G ec ea tb tn qca qcb w hT
    by_cases eb : d.kb = 4
    · have hz : qa = false → qb = false := fun _ => by rw [← qcb]; exact decide_eq_false fun h => ec (by have := h.1; omega)
      rcases TBS with ⟨nt, st, tb, vt⟩ | tb | tb
      · rcases TNS with ⟨nu, su, tn, vu⟩ | ⟨nu, tr, tn, vu, tu, tc, ht, hq⟩
        · cases qa with
          | true =>
            exact ch_eenbtnn d nt st nu su 0 G ec ea eb tb vt vu tn qca w hT
          | false =>
            rw [hz rfl] at qcb
            exact ch_eenbffn d nt st nu su 0 G ec ea eb tb vt vu tn qca qcb w hT
        · cases qa with
          | true =>
            exact ch_eonbtnn d nt st nu ⟨#[]⟩ 0 G ec ea eb tb vt tn qca w hT
          | false =>
            rw [hz rfl] at qcb
            exact ch_eonbffn d nt st nu ⟨#[]⟩ 0 G ec ea eb tb vt tn qca qcb w hT
      · rcases TNS with ⟨nu, su, tn, vu⟩ | ⟨nu, tr, tn, vu, tu, tc, ht, hq⟩
        · cases qa with
          | true =>
            exact ch_oenbtnn d 1 ⟨#[]⟩ nu su 0 G ec ea eb tb vu tn qca w hT
          | false =>
            rw [hz rfl] at qcb
            exact ch_oenbffn d 1 ⟨#[]⟩ nu su 0 G ec ea eb tb vu tn qca qcb w hT
        · cases qa with
          | true =>
            exact ch_oonbtnn d 1 ⟨#[]⟩ nu ⟨#[]⟩ 0 G ec ea eb tb tn qca w hT
          | false =>
            rw [hz rfl] at qcb
            exact ch_oonbffn d 1 ⟨#[]⟩ nu ⟨#[]⟩ 0 G ec ea eb tb tn qca qcb w hT
      · rcases TNS with ⟨nu, su, tn, vu⟩ | ⟨nu, tr, tn, vu, tu, tc, ht, hq⟩
        · cases qa with
          | true =>
            exact ch_oenbtnn d 0 ⟨#[]⟩ nu su 0 G ec ea eb tb vu tn qca w hT
          | false =>
            rw [hz rfl] at qcb
            exact ch_oenbffn d 0 ⟨#[]⟩ nu su 0 G ec ea eb tb vu tn qca qcb w hT
        · cases qa with
          | true =>
            exact ch_oonbtnn d 0 ⟨#[]⟩ nu ⟨#[]⟩ 0 G ec ea eb tb tn qca w hT
          | false =>
            rw [hz rfl] at qcb
            exact ch_oonbffn d 0 ⟨#[]⟩ nu ⟨#[]⟩ 0 G ec ea eb tb tn qca qcb w hT
    rcases TBS with ⟨nt, st, tb, vt⟩ | tb | tb
    · rcases TNS with ⟨nu, su, tn, vu⟩ | ⟨nu, tr, tn, vu, tu, tc, ht, hq⟩
      · cases qa with
        | true =>
          exact ch_eenktnn d nt st nu su 0 G ec ea eb tb vt vu tn qca w hT
        | false =>
          cases qb with
            | true =>
              exact ch_eenkftn d nt st nu su 0 G ec ea eb tb vt vu tn qca qcb w hT
            | false =>
              exact ch_eenkffn d nt st nu su 0 G ec ea eb tb vt vu tn qca qcb w hT
      · have hc : tr.tdiv 10000 < 1 ∨ 2 < tr.tdiv 10000 ∨ tr.tdiv 10000 = 1 ∨ tr.tdiv 10000 = 2 := by omega
        rcases hc with hi | hi | hi | hi
        · cases qa with
          | true =>
            exact ch_elnktnn d nt st nu ⟨#[]⟩ tr G ec ea eb tb vt vu tu tc ht hq hi tn qca w hT
          | false =>
            cases qb with
              | true =>
                exact ch_elnkftn d nt st nu ⟨#[]⟩ tr G ec ea eb tb vt vu tu tc ht hq hi tn qca qcb w hT
              | false =>
                exact ch_elnkffn d nt st nu ⟨#[]⟩ tr G ec ea eb tb vt vu tu tc ht hq hi tn qca qcb w hT
        · cases qa with
          | true =>
            exact ch_egnktnn d nt st nu ⟨#[]⟩ tr G ec ea eb tb vt vu tu tc ht hq hi tn qca w hT
          | false =>
            cases qb with
              | true =>
                exact ch_egnkftn d nt st nu ⟨#[]⟩ tr G ec ea eb tb vt vu tu tc ht hq hi tn qca qcb w hT
              | false =>
                exact ch_egnkffn d nt st nu ⟨#[]⟩ tr G ec ea eb tb vt vu tu tc ht hq hi tn qca qcb w hT
        · cases qa with
          | true =>
            exact ch_e1nktnn d nt st nu ⟨#[]⟩ tr G ec ea eb tb vt vu tu tc ht hi tn qca w hT
          | false =>
            cases qb with
              | true =>
                exact ch_e1nkftn d nt st nu ⟨#[]⟩ tr G ec ea eb tb vt vu tu tc ht hi tn qca qcb w hT
              | false =>
                exact ch_e1nkffn d nt st nu ⟨#[]⟩ tr G ec ea eb tb vt vu tu tc ht hi tn qca qcb w hT
        · cases qa with
          | true =>
            cases qc with
              | true =>
                exact ch_e2nktnt d nt st nu ⟨#[]⟩ tr G ec ea eb tb vt vu tu tc ht hi tn qca qba w hT
              | false =>
                exact ch_e2nktnf d nt st nu ⟨#[]⟩ tr G ec ea eb tb vt vu tu tc ht hi tn qca qba w hT
          | false =>
            cases qb with
              | true =>
                cases qc with
                  | true =>
                    exact ch_e2nkftt d nt st nu ⟨#[]⟩ tr G ec ea eb tb vt vu tu tc ht hi tn qca qcb qba w hT
                  | false =>
                    exact ch_e2nkftf d nt st nu ⟨#[]⟩ tr G ec ea eb tb vt vu tu tc ht hi tn qca qcb qba w hT
              | false =>
                cases qc with
                  | true =>
                    exact ch_e2nkfft d nt st nu ⟨#[]⟩ tr G ec ea eb tb vt vu tu tc ht hi tn qca qcb qba w hT
                  | false =>
                    exact ch_e2nkfff d nt st nu ⟨#[]⟩ tr G ec ea eb tb vt vu tu tc ht hi tn qca qcb qba w hT
    · rcases TNS with ⟨nu, su, tn, vu⟩ | ⟨nu, tr, tn, vu, tu, tc, ht, hq⟩
      · cases qa with
        | true =>
          exact ch_Tenktnn d 0 ⟨#[]⟩ nu su 0 G ec ea eb tb vu tn qca w hT
        | false =>
          cases qb with
            | true =>
              exact ch_Tenkftn d 0 ⟨#[]⟩ nu su 0 G ec ea eb tb vu tn qca qcb w hT
            | false =>
              exact ch_Tenkffn d 0 ⟨#[]⟩ nu su 0 G ec ea eb tb vu tn qca qcb w hT
      · have hc : tr.tdiv 10000 < 1 ∨ 2 < tr.tdiv 10000 ∨ tr.tdiv 10000 = 1 ∨ tr.tdiv 10000 = 2 := by omega
        rcases hc with hi | hi | hi | hi
        · cases qa with
          | true =>
            exact ch_Tlnktnn d 0 ⟨#[]⟩ nu ⟨#[]⟩ tr G ec ea eb tb vu tu tc ht hq hi tn qca w hT
          | false =>
            cases qb with
              | true =>
                exact ch_Tlnkftn d 0 ⟨#[]⟩ nu ⟨#[]⟩ tr G ec ea eb tb vu tu tc ht hq hi tn qca qcb w hT
              | false =>
                exact ch_Tlnkffn d 0 ⟨#[]⟩ nu ⟨#[]⟩ tr G ec ea eb tb vu tu tc ht hq hi tn qca qcb w hT
        · cases qa with
          | true =>
            exact ch_Tgnktnn d 0 ⟨#[]⟩ nu ⟨#[]⟩ tr G ec ea eb tb vu tu tc ht hq hi tn qca w hT
          | false =>
            cases qb with
              | true =>
                exact ch_Tgnkftn d 0 ⟨#[]⟩ nu ⟨#[]⟩ tr G ec ea eb tb vu tu tc ht hq hi tn qca qcb w hT
              | false =>
                exact ch_Tgnkffn d 0 ⟨#[]⟩ nu ⟨#[]⟩ tr G ec ea eb tb vu tu tc ht hq hi tn qca qcb w hT
        · cases qa with
          | true =>
            exact ch_T1nktnn d 0 ⟨#[]⟩ nu ⟨#[]⟩ tr G ec ea eb tb vu tu tc ht hi tn qca w hT
          | false =>
            cases qb with
              | true =>
                exact ch_T1nkftn d 0 ⟨#[]⟩ nu ⟨#[]⟩ tr G ec ea eb tb vu tu tc ht hi tn qca qcb w hT
              | false =>
                exact ch_T1nkffn d 0 ⟨#[]⟩ nu ⟨#[]⟩ tr G ec ea eb tb vu tu tc ht hi tn qca qcb w hT
        · cases qa with
          | true =>
            cases qc with
              | true =>
                exact ch_T2nktnt d 0 ⟨#[]⟩ nu ⟨#[]⟩ tr G ec ea eb tb vu tu tc ht hi tn qca qba w hT
              | false =>
                exact ch_T2nktnf d 0 ⟨#[]⟩ nu ⟨#[]⟩ tr G ec ea eb tb vu tu tc ht hi tn qca qba w hT
          | false =>
            cases qb with
              | true =>
                cases qc with
                  | true =>
                    exact ch_T2nkftt d 0 ⟨#[]⟩ nu ⟨#[]⟩ tr G ec ea eb tb vu tu tc ht hi tn qca qcb qba w hT
                  | false =>
                    exact ch_T2nkftf d 0 ⟨#[]⟩ nu ⟨#[]⟩ tr G ec ea eb tb vu tu tc ht hi tn qca qcb qba w hT
              | false =>
                cases qc with
                  | true =>
                    exact ch_T2nkfft d 0 ⟨#[]⟩ nu ⟨#[]⟩ tr G ec ea eb tb vu tu tc ht hi tn qca qcb qba w hT
                  | false =>
                    exact ch_T2nkfff d 0 ⟨#[]⟩ nu ⟨#[]⟩ tr G ec ea eb tb vu tu tc ht hi tn qca qcb qba w hT
    · rcases TNS with ⟨nu, su, tn, vu⟩ | ⟨nu, tr, tn, vu, tu, tc, ht, hq⟩
      · cases qa with
        | true =>
          cases qc with
            | true =>
              exact ch_Fenktnt d 0 ⟨#[]⟩ nu su 0 G ec ea eb tb vu tn qca qba w hT
            | false =>
              exact ch_Fenktnf d 0 ⟨#[]⟩ nu su 0 G ec ea eb tb vu tn qca qba w hT
        | false =>
          cases qb with
            | true =>
              cases qc with
                | true =>
                  exact ch_Fenkftt d 0 ⟨#[]⟩ nu su 0 G ec ea eb tb vu tn qca qcb qba w hT
                | false =>
                  exact ch_Fenkftf d 0 ⟨#[]⟩ nu su 0 G ec ea eb tb vu tn qca qcb qba w hT
            | false =>
              cases qc with
                | true =>
                  exact ch_Fenkfft d 0 ⟨#[]⟩ nu su 0 G ec ea eb tb vu tn qca qcb qba w hT
                | false =>
                  exact ch_Fenkfff d 0 ⟨#[]⟩ nu su 0 G ec ea eb tb vu tn qca qcb qba w hT
      · have hc : tr.tdiv 10000 < 1 ∨ 2 < tr.tdiv 10000 ∨ tr.tdiv 10000 = 1 ∨ tr.tdiv 10000 = 2 := by omega
        rcases hc with hi | hi | hi | hi
        · cases qa with
          | true =>
            cases qc with
              | true =>
                exact ch_Flnktnt d 0 ⟨#[]⟩ nu ⟨#[]⟩ tr G ec ea eb tb vu tu tc ht hq hi tn qca qba w hT
              | false =>
                exact ch_Flnktnf d 0 ⟨#[]⟩ nu ⟨#[]⟩ tr G ec ea eb tb vu tu tc ht hq hi tn qca qba w hT
          | false =>
            cases qb with
              | true =>
                cases qc with
                  | true =>
                    exact ch_Flnkftt d 0 ⟨#[]⟩ nu ⟨#[]⟩ tr G ec ea eb tb vu tu tc ht hq hi tn qca qcb qba w hT
                  | false =>
                    exact ch_Flnkftf d 0 ⟨#[]⟩ nu ⟨#[]⟩ tr G ec ea eb tb vu tu tc ht hq hi tn qca qcb qba w hT
              | false =>
                cases qc with
                  | true =>
                    exact ch_Flnkfft d 0 ⟨#[]⟩ nu ⟨#[]⟩ tr G ec ea eb tb vu tu tc ht hq hi tn qca qcb qba w hT
                  | false =>
                    exact ch_Flnkfff d 0 ⟨#[]⟩ nu ⟨#[]⟩ tr G ec ea eb tb vu tu tc ht hq hi tn qca qcb qba w hT
        · cases qa with
          | true =>
            cases qc with
              | true =>
                exact ch_Fgnktnt d 0 ⟨#[]⟩ nu ⟨#[]⟩ tr G ec ea eb tb vu tu tc ht hq hi tn qca qba w hT
              | false =>
                exact ch_Fgnktnf d 0 ⟨#[]⟩ nu ⟨#[]⟩ tr G ec ea eb tb vu tu tc ht hq hi tn qca qba w hT
          | false =>
            cases qb with
              | true =>
                cases qc with
                  | true =>
                    exact ch_Fgnkftt d 0 ⟨#[]⟩ nu ⟨#[]⟩ tr G ec ea eb tb vu tu tc ht hq hi tn qca qcb qba w hT
                  | false =>
                    exact ch_Fgnkftf d 0 ⟨#[]⟩ nu ⟨#[]⟩ tr G ec ea eb tb vu tu tc ht hq hi tn qca qcb qba w hT
              | false =>
                cases qc with
                  | true =>
                    exact ch_Fgnkfft d 0 ⟨#[]⟩ nu ⟨#[]⟩ tr G ec ea eb tb vu tu tc ht hq hi tn qca qcb qba w hT
                  | false =>
                    exact ch_Fgnkfff d 0 ⟨#[]⟩ nu ⟨#[]⟩ tr G ec ea eb tb vu tu tc ht hq hi tn qca qcb qba w hT
        · cases qa with
          | true =>
            cases qc with
              | true =>
                exact ch_F1nktnt d 0 ⟨#[]⟩ nu ⟨#[]⟩ tr G ec ea eb tb vu tu tc ht hi tn qca qba w hT
              | false =>
                exact ch_F1nktnf d 0 ⟨#[]⟩ nu ⟨#[]⟩ tr G ec ea eb tb vu tu tc ht hi tn qca qba w hT
          | false =>
            cases qb with
              | true =>
                cases qc with
                  | true =>
                    exact ch_F1nkftt d 0 ⟨#[]⟩ nu ⟨#[]⟩ tr G ec ea eb tb vu tu tc ht hi tn qca qcb qba w hT
                  | false =>
                    exact ch_F1nkftf d 0 ⟨#[]⟩ nu ⟨#[]⟩ tr G ec ea eb tb vu tu tc ht hi tn qca qcb qba w hT
              | false =>
                cases qc with
                  | true =>
                    exact ch_F1nkfft d 0 ⟨#[]⟩ nu ⟨#[]⟩ tr G ec ea eb tb vu tu tc ht hi tn qca qcb qba w hT
                  | false =>
                    exact ch_F1nkfff d 0 ⟨#[]⟩ nu ⟨#[]⟩ tr G ec ea eb tb vu tu tc ht hi tn qca qcb qba w hT
        · cases qa with
          | true =>
            cases qc with
              | true =>
                exact ch_F2nktnt d 0 ⟨#[]⟩ nu ⟨#[]⟩ tr G ec ea eb tb vu tu tc ht hi tn qca qba w hT
              | false =>
                exact ch_F2nktnf d 0 ⟨#[]⟩ nu ⟨#[]⟩ tr G ec ea eb tb vu tu tc ht hi tn qca qba w hT
          | false =>
            cases qb with
              | true =>
                cases qc with
                  | true =>
                    exact ch_F2nkftt d 0 ⟨#[]⟩ nu ⟨#[]⟩ tr G ec ea eb tb vu tu tc ht hi tn qca qcb qba w hT
                  | false =>
                    exact ch_F2nkftf d 0 ⟨#[]⟩ nu ⟨#[]⟩ tr G ec ea eb tb vu tu tc ht hi tn qca qcb qba w hT
              | false =>
                cases qc with
                  | true =>
                    exact ch_F2nkfft d 0 ⟨#[]⟩ nu ⟨#[]⟩ tr G ec ea eb tb vu tu tc ht hi tn qca qcb qba w hT
                  | false =>
                    exact ch_F2nkfff d 0 ⟨#[]⟩ nu ⟨#[]⟩ tr G ec ea eb tb vu tu tc ht hi tn qca qcb qba w hT
  subst hd
  exact goal
/-- An array of three values. -/
structure V9 where
  a : VV
  b : VV
  c : VV
def cells9 (v : V9) : List Value := cells3 v.a ++ cells3 v.b ++ cells3 v.c
theorem okWide_array {P : Program} {w : World} {r : Reach} {base : Nat} {t : TypeId} {v : Value} {n : Nat} {e : TypeId} (ht : P.underlying t = some (.array n e)) (h : Value.okWide P w r base t v) : ∃ cs, v = .agg cs ∧ cs.size = P.cellsOf t := by
  simp only [Value.okWide, ht] at h
  obtain ⟨cs, h1, h2, _⟩ := h
  exact ⟨cs, h1, h2⟩
theorem arr_came {H : Type} {enc : TypeId × Value → H} {w : World} {base : Nat} {spare : Nat → Bool} {held : Bool} {fuel : Nat} {cs : List Value} {y : DataW H × List MemPlace} (h : DataW.trod enc Tryz.prog w base spare held fuel 33 cs = some y) : ∃ r : V9, cs = cells9 r := by
  obtain ⟨xs, m, _, _, hl, hlen, hf⟩ := DataW.trod_array Tryz.underlying33 h
  have hl' : cs.length = 9 := hl.trans (by kernel_rfl)
  rw [show Tryz.prog.cellsOf 25 = 3 by kernel_rfl] at hf
  have hx : ∀ i, i < 3 → ∃ x, xs[i]? = some x := fun i hi => ⟨_, List.getElem?_eq_getElem (by rw [hlen]; exact hi)⟩
  have hv : ∀ i, i < 3 → ∃ r : VV, (cs.drop (i * 3)).take 3 = cells3 r := fun i hi => by
    obtain ⟨x, e⟩ := hx i hi
    exact val_came ((hf i hi).trans e)
  obtain ⟨a, ha⟩ := hv 0 (by decide)
  obtain ⟨b, hb⟩ := hv 1 (by decide)
  obtain ⟨c, hc⟩ := hv 2 (by decide)
  match cs, hl' with
  | [c0, c1, c2, c3, c4, c5, c6, c7, c8], _ =>
    refine ⟨⟨a, b, c⟩, ?_⟩
    unfold cells9
    rw [← ha, ← hb, ← hc]
    rfl
theorem flogicChooses_law9 (v : V9) (w : World) (hl : laidMetH Tryz.prog Rows.flogicChoosesRow.laid w) :
    Calls Tryz.prog 4 #[.agg (cells9 v).toArray] w fun e w' => e = .returned (.bool true) ∧ Below w.heap.size w w' := flogicChooses_law v.a v.b v.c w hl
end Go.Proofs.YtnjcginmilpggaaGreatDoor.Va
