/- The law: Binary returns what the specification returns. -/
import Derived.Test.YtdanbabamcdebaaGreatDoorFnB
namespace Go.Proofs.YtdanbabamcdebaaGreatDoor.Va
open Go Go.RowKit GM Sx
set_option linter.unusedVariables false
theorem pow_strict {a n : Int} (h : powB a n = true) : -9223372036854775808 < powV a n := by
  have up : ∀ k : Nat, pwB a k = true → -9223372036854775808 < pwV a k := fun k hk => by
    cases hz : powZ a k with
    | none => rw [(pw_none hz).2] at hk; cases hk
    | some p =>
      rw [(pw_some hz).1]
      cases k with
      | zero => simp [powZ] at hz; omega
      | succ k =>
        unfold powZ at hz
        cases hq : powZ a k with
        | none => rw [hq] at hz; simp at hz
        | some q =>
          rw [hq] at hz
          simp at hz
          have := (resB_in hz.1).2.1
          omega
  unfold powB at h
  unfold powV
  split at h
  · cases h
  · split at h
    · rename_i h1 h2
      rw [if_neg h1, if_pos h2]; exact up _ h
    · rename_i h1 h2
      rw [if_neg h1, if_neg h2]
      split at h
      · rename_i h3
        rw [if_pos h3]
        obtain ⟨e, k, _⟩ := resB_in h
        rw [e]; exact k
      · cases h
/-- A text that a value is converted to has at most 300 bytes. -/
theorem cv3_short {k : Nat} {n : Int} {s : ByteArray} (hs : s.size ≤ 300) (hi : InI n) : (cvR 3 k n s).2.2.size ≤ 300 := by
  have h := (cv3_ok k n s hi).1
  by_cases h3 : (cvR 3 k n s).1 = 3
  · rw [h3] at h
    unfold vE vldV at h
    simp at h
    have hc := h.2
    unfold chk at hc
    split at hc
    · cases hc
    · have : (cvR 3 k n s).2.2.data.toList.length = (cvR 3 k n s).2.2.size := by simp
      omega
  · have hv : vldV (cvR 3 k n s).1 (cvR 3 k n s).2.1 (cvR 3 k n s).2.2.data.toList = true := by
      unfold vE at h
      split at h
      · assumption
      · omega
    rw [empty_of (vld_text hv h3)]
    decide
theorem cv3_zero {k : Nat} {n : Int} {s : ByteArray} (h3 : (cvR 3 k n s).1 = 3) : (cvR 3 k n s).2.1 = 0 := by
  unfold cvR at *
  split
  · rename_i h0
    rw [if_pos h0] at h3
    split
    · rename_i h
      rw [if_pos h] at h3
      dsimp only at h3 ⊢
      subst h3
      rcases vld_sort h0 with ⟨g, _⟩ | ⟨g, _⟩ | ⟨g, _⟩ | ⟨_, g⟩ | ⟨g, _⟩ <;> omega
    · rw [if_neg (by omega), if_neg (by omega)]
  · rename_i h0
    rw [if_neg h0] at h3
    cases h3
theorem cp_valid {k : Nat} {n : Int} {s : ByteArray} {k' : Nat} {n' : Int} {s' : ByteArray} (h1 : vE k n s.data.toList = 0) (h2 : vE k' n' s'.data.toList = 0) (hk : k ≠ 4) (hk' : k' ≠ 4) : (cpR k n s k' n' s').2 = 0 := by
  have v : ∀ {k : Nat} {n : Int} {l : List UInt8}, vE k n l = 0 → vldV k n l = true := fun h => by
    unfold vE at h
    split at h
    · assumption
    · omega
  unfold cpR
  rw [if_pos ⟨v h1, v h2, hk, hk'⟩]
theorem fnumBinaries_law (op : Int) (a b : VV) (w : World) (hl : laidMetH Tryz.prog Rows.fnumBinariesRow.laid w) :
    Calls Tryz.prog 6 #[.int .i64 op, .agg (cells3 a).toArray, .agg (cells3 b).toArray] w fun e w' => e = .returned (.bool true) ∧ Below w.heap.size w w' := by
  have hT : Tb w := tb_of (MakeChecks.laidMetH_plain _ _ _ (by kernel_rfl)) hl
  have hi : InI a.num := ⟨a.lo, a.hi⟩
  have hi' : InI b.num := ⟨b.lo, b.hi⟩
  obtain ⟨m, hm, hms, h300⟩ := cut_len a.txt
  obtain ⟨m', hm2, hms2, h300'⟩ := cut_len b.txt
  have hs3 : (a.txt.extract 0 m).size ≤ 300 := by rw [cut_size hms]; omega
  have hs3' : (b.txt.extract 0 m').size ≤ 300 := by rw [cut_size hms2]; omega
  have hsz : (a.txt.extract 0 m).size ≤ 2000 := by omega
  have hsz' : (b.txt.extract 0 m').size ≤ 2000 := by omega
  by_cases hlo : op < 1
  · have ho := hlo
    exact bin_lo a.kd a.num a.txt m b.kd b.num b.txt m' op hm hms hm2 hms2 ho w hT
  by_cases hhi : 12 < op
  · have ho := hhi
    exact bin_hi a.kd a.num a.txt m b.kd b.num b.txt m' op hm hms hm2 hms2 ho w hT
  have ho : 1 ≤ op ∧ op ≤ 12 := by omega
  have vca := fun W (_ : Tb W) => vcheck_any a.kd a.num (a.txt.extract 0 m) (maxLen_of hsz) hi.1 W
  have rca := fun W (_ : Tb W) => rvcheck_any a.kd a.num (a.txt.extract 0 m) (maxLen_of hsz) hi.1 W
  have vcb := fun W (_ : Tb W) => vcheck_any b.kd b.num (b.txt.extract 0 m') (maxLen_of hsz') hi'.1 W
  have rcb := fun W (_ : Tb W) => rvcheck_any b.kd b.num (b.txt.extract 0 m') (maxLen_of hsz') hi'.1 W
  by_cases ha : vE a.kd a.num (a.txt.extract 0 m).data.toList = 0
  case neg =>
    rw [vE_two _ _ _ ha] at vca rca
    exact bin_bad1 a.kd a.num a.txt m b.kd b.num b.txt m' op hm hms hm2 hms2 ho vca rca w hT
  rw [ha] at vca rca
  by_cases hb : vE b.kd b.num (b.txt.extract 0 m').data.toList = 0
  case neg =>
    rw [vE_two _ _ _ hb] at vcb rcb
    exact bin_bad2 a.kd a.num a.txt m b.kd b.num b.txt m' op hm hms hm2 hms2 ho vca rca vcb rcb w hT
  rw [hb] at vcb rcb
  have vna := fun W h => vto_num a.kd a.num (a.txt.extract 0 m) hsz hi W h
  have rna := fun W h => rto_num a.kd a.num (a.txt.extract 0 m) hsz hi W h
  have vnb := fun W h => vto_num b.kd b.num (b.txt.extract 0 m') hsz' hi' W h
  have rnb := fun W h => rto_num b.kd b.num (b.txt.extract 0 m') hsz' hi' W h
  have vta := fun W h => vto_text a.kd a.num (a.txt.extract 0 m) hsz hi W h
  have rta := fun W h => rto_text a.kd a.num (a.txt.extract 0 m) hsz hi W h
  have vtb := fun W h => vto_text b.kd b.num (b.txt.extract 0 m') hsz' hi' W h
  have rtb := fun W h => rto_text b.kd b.num (b.txt.extract 0 m') hsz' hi' W h
  have vp := fun W (_ : Tb W) => compare_any a.kd a.num (a.txt.extract 0 m) hsz hi.1 b.kd b.num (b.txt.extract 0 m') hsz' hi'.1 W
  have rp := fun W (_ : Tb W) => rcompare_v a.kd a.num (a.txt.extract 0 m) hsz hi.1 b.kd b.num (b.txt.extract 0 m') hsz' hi'.1 W
  have ok := (cv1_ok a.kd a.num (a.txt.extract 0 m)).2
  have ok' := (cv1_ok b.kd b.num (b.txt.extract 0 m')).2
  have fit := (cv_fit 1 a.kd a.num (a.txt.extract 0 m) hsz hi).2
  have fit' := (cv_fit 1 b.kd b.num (b.txt.extract 0 m') hsz' hi').2
  have kt := (cv3_ok a.kd a.num (a.txt.extract 0 m) hi).2
  have kt' := (cv3_ok b.kd b.num (b.txt.extract 0 m') hi').2
  have hop : op = 1 ∨ op = 2 ∨ op = 3 ∨ op = 4 ∨ op = 5 ∨ op = 6 ∨ op = 7 ∨ op = 8 ∨ op = 9 ∨ op = 10 ∨ op = 11 ∨ op = 12 := by omega
  rcases hop with rfl | rfl | rfl | rfl | rfl | rfl | rfl | rfl | rfl | rfl | rfl | rfl
  · rcases ok with h1 | h4
    · have ht1 := cv1_num h1
      rw [h1, ht1] at vna rna
      rcases ok' with h2 | h4
      · have ht2 := cv1_num h2
        rw [h2, ht2] at vnb rnb
        have hn1 := fit
        have hn2 := fit'
        generalize (cvR 1 a.kd a.num (a.txt.extract 0 m)).2.1 = n1 at *
        generalize (cvR 1 b.kd b.num (b.txt.extract 0 m')).2.1 = n2 at *
        have vd := pureB fun W => add_any n1 n2 hn1 hn2 W
        have rd := fun W (_ : Tb W) => radd_any n1 n2 hn1 hn2 W
        cases hb1 : resB (n1 + n2) with
        | true =>
          obtain ⟨e1, brv, _⟩ := resB_in hb1
          rw [hb1, e1] at vd rd
          exact bin_1_t a.kd a.num a.txt m b.kd b.num b.txt m' _ _ _ hm hms hm2 hms2 vca rca vcb rcb vna rna vnb rnb vd rd brv w hT
        | false =>
          rw [hb1] at vd rd
          exact bin_1_f a.kd a.num a.txt m b.kd b.num b.txt m' _ _ _ hm hms hm2 hms2 vca rca vcb rcb vna rna vnb rnb vd rd w hT
      · rw [h4] at vnb rnb
        exact bin_1_eb a.kd a.num a.txt m b.kd b.num b.txt m' _ _ _ hm hms hm2 hms2 vca rca vcb rcb vna rna vnb rnb w hT
    · rw [h4] at vna rna
      exact bin_1_ea a.kd a.num a.txt m b.kd b.num b.txt m' _ _ hm hms hm2 hms2 vca rca vcb rcb vna rna w hT
  · rcases ok with h1 | h4
    · have ht1 := cv1_num h1
      rw [h1, ht1] at vna rna
      rcases ok' with h2 | h4
      · have ht2 := cv1_num h2
        rw [h2, ht2] at vnb rnb
        have hn1 := fit
        have hn2 := fit'
        generalize (cvR 1 a.kd a.num (a.txt.extract 0 m)).2.1 = n1 at *
        generalize (cvR 1 b.kd b.num (b.txt.extract 0 m')).2.1 = n2 at *
        have vd := pureB fun W => sub_any n1 n2 hn1 hn2 W
        have rd := fun W (_ : Tb W) => rsub_any n1 n2 hn1 hn2 W
        cases hb1 : resB (n1 - n2) with
        | true =>
          obtain ⟨e1, brv, _⟩ := resB_in hb1
          rw [hb1, e1] at vd rd
          exact bin_2_t a.kd a.num a.txt m b.kd b.num b.txt m' _ _ _ hm hms hm2 hms2 vca rca vcb rcb vna rna vnb rnb vd rd brv w hT
        | false =>
          rw [hb1] at vd rd
          exact bin_2_f a.kd a.num a.txt m b.kd b.num b.txt m' _ _ _ hm hms hm2 hms2 vca rca vcb rcb vna rna vnb rnb vd rd w hT
      · rw [h4] at vnb rnb
        exact bin_2_eb a.kd a.num a.txt m b.kd b.num b.txt m' _ _ _ hm hms hm2 hms2 vca rca vcb rcb vna rna vnb rnb w hT
    · rw [h4] at vna rna
      exact bin_2_ea a.kd a.num a.txt m b.kd b.num b.txt m' _ _ hm hms hm2 hms2 vca rca vcb rcb vna rna w hT
  · rcases ok with h1 | h4
    · have ht1 := cv1_num h1
      rw [h1, ht1] at vna rna
      rcases ok' with h2 | h4
      · have ht2 := cv1_num h2
        rw [h2, ht2] at vnb rnb
        have hn1 := fit
        have hn2 := fit'
        generalize (cvR 1 a.kd a.num (a.txt.extract 0 m)).2.1 = n1 at *
        generalize (cvR 1 b.kd b.num (b.txt.extract 0 m')).2.1 = n2 at *
        have vd := drewB fun W => mul_any n1 n2 hn1 hn2 W
        have rd := fun W (_ : Tb W) => rmul_any n1 n2 hn1 hn2 W
        cases hb1 : resB (mulZ n1 n2) with
        | true =>
          obtain ⟨e1, brv, _⟩ := resB_in hb1
          rw [hb1, e1] at vd rd
          exact bin_3_t a.kd a.num a.txt m b.kd b.num b.txt m' _ _ _ hm hms hm2 hms2 vca rca vcb rcb vna rna vnb rnb vd rd brv w hT
        | false =>
          rw [hb1] at vd rd
          exact bin_3_f a.kd a.num a.txt m b.kd b.num b.txt m' _ _ _ hm hms hm2 hms2 vca rca vcb rcb vna rna vnb rnb vd rd w hT
      · rw [h4] at vnb rnb
        exact bin_3_eb a.kd a.num a.txt m b.kd b.num b.txt m' _ _ _ hm hms hm2 hms2 vca rca vcb rcb vna rna vnb rnb w hT
    · rw [h4] at vna rna
      exact bin_3_ea a.kd a.num a.txt m b.kd b.num b.txt m' _ _ hm hms hm2 hms2 vca rca vcb rcb vna rna w hT
  · rcases ok with h1 | h4
    · have ht1 := cv1_num h1
      rw [h1, ht1] at vna rna
      rcases ok' with h2 | h4
      · have ht2 := cv1_num h2
        rw [h2, ht2] at vnb rnb
        have hn1 := fit
        have hn2 := fit'
        generalize (cvR 1 a.kd a.num (a.txt.extract 0 m)).2.1 = n1 at *
        generalize (cvR 1 b.kd b.num (b.txt.extract 0 m')).2.1 = n2 at *
        by_cases h0 : n2 = 0
        · exact bin_4_z a.kd a.num a.txt m b.kd b.num b.txt m' _ _ hm hms hm2 hms2 h0 vca rca vcb rcb vna rna vnb rnb w hT
        have vd := drewB fun W => quo_any n1 n2 hn1 hn2 h0 W
        have rd := fun W (_ : Tb W) => rquo_any n1 n2 hn1 hn2 h0 W
        cases hb1 : resB (quoZ n1 n2) with
        | true =>
          obtain ⟨e1, brv, _⟩ := resB_in hb1
          rw [hb1, e1] at vd rd
          exact bin_4_t a.kd a.num a.txt m b.kd b.num b.txt m' _ _ _ hm hms hm2 hms2 h0 vca rca vcb rcb vna rna vnb rnb vd rd brv w hT
        | false =>
          rw [hb1] at vd rd
          exact bin_4_f a.kd a.num a.txt m b.kd b.num b.txt m' _ _ _ hm hms hm2 hms2 h0 vca rca vcb rcb vna rna vnb rnb vd rd w hT
      · rw [h4] at vnb rnb
        exact bin_4_eb a.kd a.num a.txt m b.kd b.num b.txt m' _ _ _ hm hms hm2 hms2 vca rca vcb rcb vna rna vnb rnb w hT
    · rw [h4] at vna rna
      exact bin_4_ea a.kd a.num a.txt m b.kd b.num b.txt m' _ _ hm hms hm2 hms2 vca rca vcb rcb vna rna w hT
  · rcases ok with h1 | h4
    · have ht1 := cv1_num h1
      rw [h1, ht1] at vna rna
      rcases ok' with h2 | h4
      · have ht2 := cv1_num h2
        rw [h2, ht2] at vnb rnb
        have hn1 := fit
        have hn2 := fit'
        generalize (cvR 1 a.kd a.num (a.txt.extract 0 m)).2.1 = n1 at *
        generalize (cvR 1 b.kd b.num (b.txt.extract 0 m')).2.1 = n2 at *
        have vt := pureB fun W => trunc_any n2 hn2 W
        by_cases hr : n2.tmod 10000 = 0
        case neg =>
          have ht : truncZ n2 ≠ n2 := by unfold truncZ; omega
          exact bin_5_n a.kd a.num a.txt m b.kd b.num b.txt m' _ _ _ hm hms hm2 hms2 vca rca vcb rcb vna rna vnb rnb vt ht hr w hT
        have ht : truncZ n2 = n2 := by unfold truncZ; omega
        have hq : -9223372036854775808 ≤ n2.tdiv 10000 ∧ n2.tdiv 10000 ≤ 9223372036854775807 := by have := Int.mul_tdiv_add_tmod n2 10000; unfold InI at hn2; omega
        have vd := drewB fun W => power_any n1 (n2.tdiv 10000) hn1 hq.1 W
        have rd := fun W (_ : Tb W) => rpower_any n1 (n2.tdiv 10000) hn1 W
        by_cases hz : n1 = 0
        · by_cases hn : n2 < 0
          · have h0 := hz
            exact bin_5_d a.kd a.num a.txt m b.kd b.num b.txt m' _ _ _ hm hms hm2 hms2 h0 hn vca rca vcb rcb vna rna vnb rnb vt ht hr w hT
          · have h0 : n1 = 0 ∧ 0 ≤ n2 := ⟨hz, by omega⟩
            cases hb1 : powB n1 (n2.tdiv 10000) with
            | true =>
              have brv := pow_strict hb1
              rw [hb1] at vd rd
              exact bin_5_zt a.kd a.num a.txt m b.kd b.num b.txt m' _ _ _ _ hm hms hm2 hms2 h0 hq vca rca vcb rcb vna rna vnb rnb vt ht hr vd rd brv w hT
            | false =>
              rw [hb1] at vd rd
              exact bin_5_zf a.kd a.num a.txt m b.kd b.num b.txt m' _ _ _ _ hm hms hm2 hms2 h0 hq vca rca vcb rcb vna rna vnb rnb vt ht hr vd rd w hT
        · have h0 : n1 ≠ 0 := hz
          cases hb1 : powB n1 (n2.tdiv 10000) with
          | true =>
            have brv := pow_strict hb1
            rw [hb1] at vd rd
            exact bin_5_ot a.kd a.num a.txt m b.kd b.num b.txt m' _ _ _ _ hm hms hm2 hms2 h0 hq vca rca vcb rcb vna rna vnb rnb vt ht hr vd rd brv w hT
          | false =>
            rw [hb1] at vd rd
            exact bin_5_of a.kd a.num a.txt m b.kd b.num b.txt m' _ _ _ _ hm hms hm2 hms2 h0 hq vca rca vcb rcb vna rna vnb rnb vt ht hr vd rd w hT
      · rw [h4] at vnb rnb
        exact bin_5_eb a.kd a.num a.txt m b.kd b.num b.txt m' _ _ _ hm hms hm2 hms2 vca rca vcb rcb vna rna vnb rnb w hT
    · rw [h4] at vna rna
      exact bin_5_ea a.kd a.num a.txt m b.kd b.num b.txt m' _ _ hm hms hm2 hms2 vca rca vcb rcb vna rna w hT
  · rcases kt with h3 | h4
    · have z1 : (cvR 3 a.kd a.num (a.txt.extract 0 m)).2.1 = 0 := cv3_zero h3
      have hz1 := cv3_short (k := a.kd) hs3 hi
      rw [h3, z1] at vta rta
      rcases kt' with h3' | h4
      · have z2 : (cvR 3 b.kd b.num (b.txt.extract 0 m')).2.1 = 0 := cv3_zero h3'
        have hz2 := cv3_short (k := b.kd) hs3' hi'
        rw [h3', z2] at vtb rtb
        generalize (cvR 3 a.kd a.num (a.txt.extract 0 m)).2.2 = s1 at *
        generalize (cvR 3 b.kd b.num (b.txt.extract 0 m')).2.2 = s2 at *
        have hsz : (s1 ++ s2).size = s1.size + s2.size := by simp
        by_cases hbig : 256 < s1.size + s2.size
        · have hb := hbig
          exact bin_6_b a.kd a.num a.txt m b.kd b.num b.txt m' _ _ hm hms hm2 hms2 hz1 hz2 hb hsz vca rca vcb rcb vta rta vtb rtb w hT
        · have hb : s1.size + s2.size ≤ 256 := by omega
          exact bin_6_s a.kd a.num a.txt m b.kd b.num b.txt m' _ _ hm hms hm2 hms2 hz1 hz2 hb hsz vca rca vcb rcb vta rta vtb rtb w hT
      · rw [h4] at vtb rtb
        exact bin_6_eb a.kd a.num a.txt m b.kd b.num b.txt m' _ _ _ hm hms hm2 hms2 vca rca vcb rcb vta rta vtb rtb hz1 w hT
    · rw [h4] at vta rta
      exact bin_6_ea a.kd a.num a.txt m b.kd b.num b.txt m' _ _ _ _ _ hm hms hm2 hms2 vca rca vcb rcb vta rta rtb w hT
  · by_cases hk : a.kd = 4
    · exact bin_7_ea a.kd a.num a.txt m b.kd b.num b.txt m'  hm hms hm2 hms2 hk vca rca vcb rcb w hT
    · by_cases hk2 : b.kd = 4
      · exact bin_7_eb a.kd a.num a.txt m b.kd b.num b.txt m'  hm hms hm2 hms2 hk hk2 vca rca vcb rcb w hT
      · rw [cp_valid ha hb hk hk2] at vp rp
        obtain ⟨_, _, q1, q2⟩ := cp_anti a.kd a.num (a.txt.extract 0 m) b.kd b.num (b.txt.extract 0 m')
        generalize (cpR a.kd a.num (a.txt.extract 0 m) b.kd b.num (b.txt.extract 0 m')).1 = c at *
        have hc : c = -1 ∨ c = 0 ∨ c = 1 := by omega
        rcases hc with rfl | rfl | rfl
        · exact bin_7_l a.kd a.num a.txt m b.kd b.num b.txt m'  hm hms hm2 hms2 hk hk2 vca rca vcb rcb vp rp w hT
        · exact bin_7_e a.kd a.num a.txt m b.kd b.num b.txt m'  hm hms hm2 hms2 hk hk2 vca rca vcb rcb vp rp w hT
        · exact bin_7_g a.kd a.num a.txt m b.kd b.num b.txt m'  hm hms hm2 hms2 hk hk2 vca rca vcb rcb vp rp w hT
  · by_cases hk : a.kd = 4
    · exact bin_8_ea a.kd a.num a.txt m b.kd b.num b.txt m'  hm hms hm2 hms2 hk vca rca vcb rcb w hT
    · by_cases hk2 : b.kd = 4
      · exact bin_8_eb a.kd a.num a.txt m b.kd b.num b.txt m'  hm hms hm2 hms2 hk hk2 vca rca vcb rcb w hT
      · rw [cp_valid ha hb hk hk2] at vp rp
        obtain ⟨_, _, q1, q2⟩ := cp_anti a.kd a.num (a.txt.extract 0 m) b.kd b.num (b.txt.extract 0 m')
        generalize (cpR a.kd a.num (a.txt.extract 0 m) b.kd b.num (b.txt.extract 0 m')).1 = c at *
        have hc : c = -1 ∨ c = 0 ∨ c = 1 := by omega
        rcases hc with rfl | rfl | rfl
        · exact bin_8_l a.kd a.num a.txt m b.kd b.num b.txt m'  hm hms hm2 hms2 hk hk2 vca rca vcb rcb vp rp w hT
        · exact bin_8_e a.kd a.num a.txt m b.kd b.num b.txt m'  hm hms hm2 hms2 hk hk2 vca rca vcb rcb vp rp w hT
        · exact bin_8_g a.kd a.num a.txt m b.kd b.num b.txt m'  hm hms hm2 hms2 hk hk2 vca rca vcb rcb vp rp w hT
  · by_cases hk : a.kd = 4
    · exact bin_9_ea a.kd a.num a.txt m b.kd b.num b.txt m'  hm hms hm2 hms2 hk vca rca vcb rcb w hT
    · by_cases hk2 : b.kd = 4
      · exact bin_9_eb a.kd a.num a.txt m b.kd b.num b.txt m'  hm hms hm2 hms2 hk hk2 vca rca vcb rcb w hT
      · rw [cp_valid ha hb hk hk2] at vp rp
        obtain ⟨_, _, q1, q2⟩ := cp_anti a.kd a.num (a.txt.extract 0 m) b.kd b.num (b.txt.extract 0 m')
        generalize (cpR a.kd a.num (a.txt.extract 0 m) b.kd b.num (b.txt.extract 0 m')).1 = c at *
        have hc : c = -1 ∨ c = 0 ∨ c = 1 := by omega
        rcases hc with rfl | rfl | rfl
        · exact bin_9_l a.kd a.num a.txt m b.kd b.num b.txt m'  hm hms hm2 hms2 hk hk2 vca rca vcb rcb vp rp w hT
        · exact bin_9_e a.kd a.num a.txt m b.kd b.num b.txt m'  hm hms hm2 hms2 hk hk2 vca rca vcb rcb vp rp w hT
        · exact bin_9_g a.kd a.num a.txt m b.kd b.num b.txt m'  hm hms hm2 hms2 hk hk2 vca rca vcb rcb vp rp w hT
  · by_cases hk : a.kd = 4
    · exact bin_10_ea a.kd a.num a.txt m b.kd b.num b.txt m'  hm hms hm2 hms2 hk vca rca vcb rcb w hT
    · by_cases hk2 : b.kd = 4
      · exact bin_10_eb a.kd a.num a.txt m b.kd b.num b.txt m'  hm hms hm2 hms2 hk hk2 vca rca vcb rcb w hT
      · rw [cp_valid ha hb hk hk2] at vp rp
        obtain ⟨_, _, q1, q2⟩ := cp_anti a.kd a.num (a.txt.extract 0 m) b.kd b.num (b.txt.extract 0 m')
        generalize (cpR a.kd a.num (a.txt.extract 0 m) b.kd b.num (b.txt.extract 0 m')).1 = c at *
        have hc : c = -1 ∨ c = 0 ∨ c = 1 := by omega
        rcases hc with rfl | rfl | rfl
        · exact bin_10_l a.kd a.num a.txt m b.kd b.num b.txt m'  hm hms hm2 hms2 hk hk2 vca rca vcb rcb vp rp w hT
        · exact bin_10_e a.kd a.num a.txt m b.kd b.num b.txt m'  hm hms hm2 hms2 hk hk2 vca rca vcb rcb vp rp w hT
        · exact bin_10_g a.kd a.num a.txt m b.kd b.num b.txt m'  hm hms hm2 hms2 hk hk2 vca rca vcb rcb vp rp w hT
  · by_cases hk : a.kd = 4
    · exact bin_11_ea a.kd a.num a.txt m b.kd b.num b.txt m'  hm hms hm2 hms2 hk vca rca vcb rcb w hT
    · by_cases hk2 : b.kd = 4
      · exact bin_11_eb a.kd a.num a.txt m b.kd b.num b.txt m'  hm hms hm2 hms2 hk hk2 vca rca vcb rcb w hT
      · rw [cp_valid ha hb hk hk2] at vp rp
        obtain ⟨_, _, q1, q2⟩ := cp_anti a.kd a.num (a.txt.extract 0 m) b.kd b.num (b.txt.extract 0 m')
        generalize (cpR a.kd a.num (a.txt.extract 0 m) b.kd b.num (b.txt.extract 0 m')).1 = c at *
        have hc : c = -1 ∨ c = 0 ∨ c = 1 := by omega
        rcases hc with rfl | rfl | rfl
        · exact bin_11_l a.kd a.num a.txt m b.kd b.num b.txt m'  hm hms hm2 hms2 hk hk2 vca rca vcb rcb vp rp w hT
        · exact bin_11_e a.kd a.num a.txt m b.kd b.num b.txt m'  hm hms hm2 hms2 hk hk2 vca rca vcb rcb vp rp w hT
        · exact bin_11_g a.kd a.num a.txt m b.kd b.num b.txt m'  hm hms hm2 hms2 hk hk2 vca rca vcb rcb vp rp w hT
  · by_cases hk : a.kd = 4
    · exact bin_12_ea a.kd a.num a.txt m b.kd b.num b.txt m'  hm hms hm2 hms2 hk vca rca vcb rcb w hT
    · by_cases hk2 : b.kd = 4
      · exact bin_12_eb a.kd a.num a.txt m b.kd b.num b.txt m'  hm hms hm2 hms2 hk hk2 vca rca vcb rcb w hT
      · rw [cp_valid ha hb hk hk2] at vp rp
        obtain ⟨_, _, q1, q2⟩ := cp_anti a.kd a.num (a.txt.extract 0 m) b.kd b.num (b.txt.extract 0 m')
        generalize (cpR a.kd a.num (a.txt.extract 0 m) b.kd b.num (b.txt.extract 0 m')).1 = c at *
        have hc : c = -1 ∨ c = 0 ∨ c = 1 := by omega
        rcases hc with rfl | rfl | rfl
        · exact bin_12_l a.kd a.num a.txt m b.kd b.num b.txt m'  hm hms hm2 hms2 hk hk2 vca rca vcb rcb vp rp w hT
        · exact bin_12_e a.kd a.num a.txt m b.kd b.num b.txt m'  hm hms hm2 hms2 hk hk2 vca rca vcb rcb vp rp w hT
        · exact bin_12_g a.kd a.num a.txt m b.kd b.num b.txt m'  hm hms hm2 hms2 hk hk2 vca rca vcb rcb vp rp w hT
end Go.Proofs.YtdanbabamcdebaaGreatDoor.Va
