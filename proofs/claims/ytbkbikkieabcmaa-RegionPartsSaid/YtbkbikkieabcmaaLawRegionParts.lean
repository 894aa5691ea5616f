/- The walk of the law. -/
import Derived.Test.YtbkbikkieabcmaaPrtH
import Derived.Test.YtbkbikkieabcmaaMprt
import Derived.Test.YtbkbikkieabcmaaAclD
import Derived.Test.YtbkbikkieabcmaaClosed
import Derived.Test.YtbkbikkieabcmaaCame
namespace Go.Proofs.Ytbkbikkieabcmaa.Re
open Go.RowKit AM
set_option linter.unusedVariables false
set_option linter.unusedSimpArgs false
theorem perm_areas {l m : List R4} (h : l.Perm m) : areas l = areas m := by
  unfold areas
  induction h with
  | nil => rfl
  | cons x _ ih => simp only [List.map_cons, List.sum_cons, ih]
  | swap x y l => simp only [List.map_cons, List.sum_cons]; omega
  | trans _ _ h1 h2 => rw [h1, h2]
theorem ck_has2 {r : R4} (h : r.ck = true) : has4 r r.c2 r.r2 = true := by
  unfold R4.ck at h
  rw [ckB_iff] at h
  rw [has4_iff]
  omega
theorem apart_symm {a b : R4} (h : Apart4 a b) : Apart4 b a := fun p q h1 h2 => h p q h2 h1
/-- What is known of the sorted parts. -/
structure PartsOk (r : R4) (L : List RV) (D : List (R4 × Nat)) : Prop where
  len : D.length ≤ 16384
  h1 : ∀ j (hj : j < (rects D).length), (rects D)[j].ck = true ∧ r.c1 ≤ (rects D)[j].c1 ∧ (rects D)[j].c2 ≤ r.c2 ∧ r.r1 ≤ (rects D)[j].r1 ∧ (rects D)[j].r2 ≤ r.r2
  h2 : ∀ j (hj : j + 1 < (rects D).length), (rects D)[j].r1 < (rects D)[j + 1].r1 ∨ (rects D)[j].r1 = (rects D)[j + 1].r1 ∧ (rects D)[j].c1 < (rects D)[j + 1].c1
  h3 : ∀ j (hj : j < (rects D).length) k (hk : k < j), mt20 (rects D)[k] (rects D)[j] = false
  h4 : areas (rects D) = area4 r
  h5 : ∀ j (hj : j < (rects D).length) (hq : j < (idxs D).length), oneB (rects D)[j] (idxs D)[j] L = true
theorem parts_ok {r : R4} {L : List RV} {D : List (R4 × Nat)} (h : gcE r L = 0) (h14 : L.length ≤ 14) (hS : Sorts (downL L (L.length - 1) r) D) : PartsOk r L D := by
  obtain ⟨hrk, hrc⟩ := gcE_zero.1 h
  obtain ⟨h0, h64, hsh, hok⟩ := rck_zero.1 hrc
  have hck : ∀ k, k < L.length → (rr4 (ruleAt L k)).ck = true := fun k hk => okRule_ck (hok k hk)
  have hlt : L.length - 1 < L.length := by omega
  have hd := down_ok L hck (L.length - 1) r hlt hrk
  have hD : ∀ j (hj : j < D.length), D[j].1.ck = true ∧ ∀ p q, has4 D[j].1 p q = true → has4 r p q = true ∧ lastI L p q L.length = D[j].2 := fun j hj => by
    have := hd D[j] (hS.1.mem_iff.1 (List.getElem_mem hj))
    rw [show L.length - 1 + 1 = L.length by omega] at this
    exact ⟨this.1, this.2.2⟩
  have hap : D.Pairwise fun x y => Apart4 x.1 y.1 := (hS.1.pairwise_iff (fun h => apart_symm h)).2 (down_apart L hck (L.length - 1) r hlt hrk)
  have hap2 : ∀ k j (hk : k < j) (hj : j < D.length), Apart4 D[k].1 D[j].1 := fun k j hk hj => List.pairwise_iff_getElem.1 hap k j (by omega) hj hk
  have hrl : (rects D).length = D.length := List.length_map ..
  have hrg : ∀ j (hj : j < (rects D).length), (rects D)[j] = (D[j]'(by rw [← hrl]; exact hj)).1 := fun j hj => by simp [rects]
  have hig : ∀ j (hj : j < (idxs D).length), (idxs D)[j] = ((D[j]'(by unfold idxs at hj; rwa [List.length_map] at hj)).2 : Int) := fun j hj => by simp [idxs]
  refine ⟨?_, fun j hj => ?_, fun j hj => ?_, fun j hj k hk => ?_, ?_, fun j hj hq => ?_⟩
  · rw [hS.1.length_eq]
    have := parts_len L hck (L.length - 1) r hlt hrk
    have h2 : (2 * (L.length - 1 + 1) + 1) ≤ 29 := by omega
    exact Nat.le_trans this (Nat.le_trans (Nat.mul_le_mul h2 h2) (by decide))
  · rw [hrg j hj]
    obtain ⟨a1, a2⟩ := hD j (by rw [← hrl]; exact hj)
    have b1 := (a2 _ _ (ck_has a1)).1
    have b2 := (a2 _ _ (ck_has2 a1)).1
    rw [has4_iff] at b1 b2
    exact ⟨a1, b1.1, b2.2.1, b1.2.2.1, b2.2.2.2⟩
  · have hj' : j + 1 < D.length := by rw [← hrl]; exact hj
    have hs := hS.2 j (j + 1) (by omega) hj'
    have ha := hap2 j (j + 1) (by omega) hj'
    have c1 := (hD j (by omega)).1
    have c2 := (hD (j + 1) hj').1
    rw [hrg j (by omega), hrg (j + 1) hj]
    generalize D[j].1 = x at *
    generalize D[j + 1].1 = y at *
    by_cases he : x.r1 = y.r1 ∧ x.c1 = y.c1
    · have h5 := ck_has c1
      have h6 := ck_has c2
      rw [← he.1, ← he.2] at h6
      exact (ha _ _ h5 h6).elim
    · omega
  · have hj' : j < D.length := by rw [← hrl]; exact hj
    rw [hrg j hj, hrg k (by omega)]
    exact mt20_apart (hD k (by omega)).1 (hD j hj').1 (hap2 k j hk hj')
  · unfold rects
    rw [perm_areas (hS.1.map _)]
    exact down_areas L hck hsh (L.length - 1) r hlt hrk
  · rw [hrg j hj, hig j hq, oneB_iff]
    intro p q hp
    have := ((hD j (by rw [← hrl]; exact hj)).2 p q hp).2
    rw [this]
set_option maxRecDepth 100000 in
set_option maxHeartbeats 6400000 in
theorem regionParts_any (r1 r2 r3 r4 : Int) (a : Option Addr) (len cap : Nat) (L : List RV) (w : World) (hL : IsL w a len L) :
    Calls Try.prog 3 #[.agg #[.int .i64 r1, .int .i64 r2, .int .i64 r3, .int .i64 r4], .slice a len cap] w fun e w' => e = .returned (.bool true) ∧ Below w.heap.size w w' := by
  have HL := Lib.hid hL
  have HLL := Lib.hid hL.1
  clear hL
  have HSO : Hid (∀ W, IsL W a len L → Calls Try.prog 5 #[.agg #[.int .i64 r1, .int .i64 r2, .int .i64 r3, .int .i64 r4], .slice a len cap] W fun e w' => e = .returned (overV ⟨r1, r2, r3, r4⟩ L) ∧ Below W.heap.size W w') := fun W h => sover_any r1 r2 r3 r4 a len cap L W h
  have HPA : Hid (∀ ia icap W, len ≤ 100000 → IsL W ia len L → Calls Try.prog 7 #[.agg #[.int .i64 r1, .int .i64 r2, .int .i64 r3, .int .i64 r4], .slice ia len icap] W fun e w' => (∃ u v, e = .returned (.tuple #[u, v, .int .i64 (gcE ⟨r1, r2, r3, r4⟩ L)]) ∧
      (gcE ⟨r1, r2, r3, r4⟩ L = 0 → ∃ D, Sorts (downL L (L.length - 1) ⟨r1, r2, r3, r4⟩) D ∧ OwnR W.heap.size w' u (rects D) ∧ OwnN W.heap.size w' v (idxs D)) ∧ (¬ gcE ⟨r1, r2, r3, r4⟩ L = 0 → u = .slice none 0 0 ∧ v = .slice none 0 0)) ∧ Below W.heap.size W w') := fun ia icap W hl h => parts_any r1 r2 r3 r4 ia len icap L hl W h
  unfold overV rights3 at HSO
  generalize ovV RV.rd ⟨r1, r2, r3, r4⟩ L = A1 at *
  generalize ovV RV.wr ⟨r1, r2, r3, r4⟩ L = A2 at *
  generalize ovV RV.ow ⟨r1, r2, r3, r4⟩ L = A3 at *
  obtain ⟨gE, hgE⟩ : ∃ g, gcE ⟨r1, r2, r3, r4⟩ L = g := ⟨_, rfl⟩
  rw [hgE] at HSO HPA
  have HGE := Lib.hid hgE
  clear hgE
  have HF0 := Lib.hid (Four.start w r1 r2 r3 r4 23)
  have HB0 := Lib.hid (below_alloc w (.cells #[.int .i64 r1, .int .i64 r2, .int .i64 r3, .int .i64 r4] 23))
  go_enter Try.func3, Try.ntmps3
  go_wp2_with fail
  generalize w.alloc (.cells #[.int .i64 r1, .int .i64 r2, .int .i64 r3, .int .i64 r4] 23) = w0 at *
  refine (HSO.out _ (HL.out.later HB0.out)).mono ?_
  rintro e w2 ⟨rfl, hB2⟩
  have HB2 := Lib.hid (Below.next HB0.out hB2)
  have HF2 := Lib.hid (HF0.out.later hB2)
  clear hB2 HF0 HB0 HSO
  have HBy := Lib.hid (Below.next HB2.out (below_alloc w2 (.cells #[.int .u64 (A1.toNat : Int), .int .u64 (A2.toNat : Int), .int .u64 (A3.toNat : Int)] 27)))
  have HFy := Lib.hid (HF2.out.later (below_alloc w2 (.cells #[.int .u64 (A1.toNat : Int), .int .u64 (A2.toNat : Int), .int .u64 (A3.toNat : Int)] 27)))
  by_cases h66 : 66 < len
  · go_wp2_with fail
    go_ret
    exact ⟨rfl, HBy.out⟩
  have hd1 : decide ((66 : Int) < (len : Int)) = false := by simp; omega
  by_cases hz : gE = 0
  rotate_left
  · have HZ := Lib.hid hz
    have hz1 : (gE != 0) = true := by simpa using hz
    have hz2 : (gE == 0) = false := by simpa using hz
    clear hz
    go_upto_region 4 with fail
    generalize w2.alloc (.cells #[.int .u64 (A1.toNat : Int), .int .u64 (A2.toNat : Int), .int .u64 (A3.toNat : Int)] 27) = wy at *
    go_wp2_with fail
    refine (copyrules_any a len cap L (by omega) _ (HL.out.later HBy.out)).mono ?_
    rintro e w3 ⟨⟨v, rfl, ho⟩, hB3⟩
    obtain ⟨ia, icap, rfl, hi⟩ := ho.isOf cells7_len
    rw [HLL.out] at hi ⊢
    have HB3 := Lib.hid (Below.next HBy.out hB3)
    have HF3 := Lib.hid (HFy.out.later hB3)
    have HI3 := Lib.hid hi
    clear ho hi hB3 HFy HBy HB2 HF2
    obtain ⟨_, e1, e2, e3, e4⟩ := HF3.out
    go_wp2_with fail
    refine (HPA.out ia icap _ (by omega) HI3.out).mono ?_
    rintro e w4 ⟨⟨u, v, rfl, _, hn⟩, hB4⟩
    obtain ⟨rfl, rfl⟩ := hn HZ.out
    have HB4 := Lib.hid (Below.next HB3.out hB4)
    clear hn hB4 HB3 HF3 HI3 e1 e2 e3 e4
    go_wp2_with fail
    go_ret
    exact ⟨rfl, HB4.out⟩
  subst hz
  by_cases h14 : 14 < len
  · go_wp2_with fail
    go_ret
    exact ⟨rfl, HBy.out⟩
  have hd2 : decide ((14 : Int) < (len : Int)) = false := by simp; omega
  go_upto_region 4 with fail
  generalize w2.alloc (.cells #[.int .u64 (A1.toNat : Int), .int .u64 (A2.toNat : Int), .int .u64 (A3.toNat : Int)] 27) = wy at *
  go_wp2_with fail
  refine (copyrules_any a len cap L (by omega) _ (HL.out.later HBy.out)).mono ?_
  rintro e w3 ⟨⟨v, rfl, ho⟩, hB3⟩
  obtain ⟨ia, icap, rfl, hi⟩ := ho.isOf cells7_len
  rw [HLL.out] at hi ⊢
  have HB3 := Lib.hid (Below.next HBy.out hB3)
  have HF3 := Lib.hid (HFy.out.later hB3)
  have HI3 := Lib.hid hi
  clear ho hi hB3 HFy HBy HB2 HF2
  obtain ⟨_, e1, e2, e3, e4⟩ := HF3.out
  go_wp2_with fail
  refine (HPA.out ia icap _ (by omega) HI3.out).mono ?_
  rintro e w4 ⟨⟨u, v, rfl, hy, _⟩, hB4⟩
  obtain ⟨D, hS, hu, hv⟩ := hy trivial
  have hPO := parts_ok HGE.out (by have := HLL.out; omega) hS
  obtain ⟨pa, pc, rfl, hpi⟩ := hu.isR
  obtain ⟨qa, qc, rfl, hqi⟩ := hv.isOf cells1_len
  have HB4 := Lib.hid (Below.next HB3.out hB4)
  have HF4 := Lib.hid (HF3.out.later hB4)
  have HI4 := Lib.hid (HI3.out.later hB4)
  have hrl : (rects D).length = D.length := List.length_map ..
  have hil : (idxs D).length = D.length := List.length_map ..
  rw [hrl] at hpi ⊢
  rw [hil] at hqi ⊢
  have HP4 := Lib.hid hpi
  have HQ4 := Lib.hid hqi
  have HPO := Lib.hid hPO
  have hDl := hPO.len
  obtain ⟨hrk, hrc⟩ := gcE_zero.1 HGE.out
  obtain ⟨h0, h64, hsh, hok⟩ := rck_zero.1 hrc
  have HRK := Lib.hid hrk
  have HOK : Hid (∀ k, k < L.length → (rr4 (ruleAt L k)).ck = true) := fun k hk => okRule_ck (hok k hk)
  clear hy hS hu hv hPO hpi hqi hB4 HB3 HF3 HI3 e1 e2 e3 e4 hrk hrc h0 h64 hsh hok hrl hil
  generalize D.length = n at *
  obtain ⟨_, e1, e2, e3, e4⟩ := HF4.out
  go_wp2_with fail
  refine (parts20_any r1 r2 r3 r4 a len cap L (by omega) pa n pc (rects D) hDl qa qc (idxs D) _ (HL.out.later HB4.out) HOK.out HRK.out HP4.out HQ4.out HPO.out.h1 HPO.out.h2 HPO.out.h3 HPO.out.h4 HPO.out.h5).mono ?_
  rintro e w5 ⟨rfl, hB5⟩
  have HB5 := Lib.hid (Below.next HB4.out hB5)
  have HI5 := Lib.hid (HI4.out.later hB5)
  clear hB5 HB4 HF4 HI4 HP4 HQ4 e1 e2 e3 e4
  go_wp2_with fail
  refine (eqrules_any ia a len icap cap L (by omega) _ HI5.out (HL.out.later HB5.out)).mono ?_
  rintro e w6 ⟨rfl, hB6⟩
  have HB6 := Lib.hid (Below.next HB5.out hB6)
  clear hB6 HB5 HI5
  go_wp2_with fail
  refine (Go.Proofs.Ytbkbikkieabcmaa.example20 _).mono ?_
  rintro e wE ⟨rfl, hBE⟩
  have HBE := Lib.hid (Below.next HB6.out hBE)
  go_wp2_with fail
  go_ret
  exact ⟨rfl, HBE.out⟩
end Go.Proofs.Ytbkbikkieabcmaa.Re
