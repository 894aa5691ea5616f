/- What is known of the parts that region.Differ returns. -/
import Derived.Test.YthgnhdfppmoooaaDifD
import Derived.Test.YthgnhdfppmoooaaPrtH
namespace Go.Proofs.Ythgnhdfppmoooaa.Re
open Go.RowKit AM
set_option linter.unusedVariables false
set_option linter.unusedSimpArgs false
theorem perm_areas {l m : List R4} (h : l.Perm m) : areas l = areas m := by
  unfold areas
  induction h with
  | nil => rfl
  | cons x _ ih => simp only [List.map_cons, List.sum_cons, ih]
  | swap x y l => simp only [List.map_cons, List.sum_cons]; omega
  | trans _ _ h1 h2 => rw [h1, h2]
theorem ck_has2 {r : R4} (h : r.ck = true) : has4 r r.c2 r.r2 = true := by
  unfold R4.ck at h
  rw [ckB_iff] at h
  rw [has4_iff]
  omega
theorem apart_symm {a b : R4} (h : Apart4 a b) : Apart4 b a := fun p q h1 h2 => h p q h2 h1
/-- The readers of two rules differ. -/
def gRd (a b : RV) : Bool := !(a.rd == b.rd)
theorem difL_ok (A B : List RV) (g : RV → RV → Bool) (hA : ∀ k, k < A.length → (rr4 (ruleAt A k)).ck = true) (hB : ∀ k, k < B.length → (rr4 (ruleAt B k)).ck = true) (hAl : 0 < A.length) (hBl : 0 < B.length) (r : R4) (hr : r.ck = true) :
    ∀ y ∈ difL A B g r, y.1.ck = true ∧ ∀ p q, has4 y.1 p q = true → has4 r p q = true ∧ g (ruleAt A (lastI A p q A.length)) (ruleAt B (lastI B p q B.length)) = true := by
  intro y hy
  unfold difL at hy
  rw [List.mem_flatMap] at hy
  obtain ⟨x, hx, hy⟩ := hy
  rw [List.mem_filter] at hy
  obtain ⟨hy, hg⟩ := hy
  obtain ⟨x1, _, x3⟩ := down_ok A hA (A.length - 1) r (by omega) hr x hx
  obtain ⟨y1, _, y3⟩ := down_ok B hB (B.length - 1) x.1 (by omega) x1 y hy
  rw [show A.length - 1 + 1 = A.length by omega] at x3
  rw [show B.length - 1 + 1 = B.length by omega] at y3
  refine ⟨y1, fun p q hp => ?_⟩
  obtain ⟨h1, h2⟩ := y3 p q hp
  obtain ⟨h3, h4⟩ := x3 p q h1
  exact ⟨h3, by rw [h4, h2]; exact hg⟩
theorem difL_apart (A B : List RV) (g : RV → RV → Bool) (hA : ∀ k, k < A.length → (rr4 (ruleAt A k)).ck = true) (hB : ∀ k, k < B.length → (rr4 (ruleAt B k)).ck = true) (hAl : 0 < A.length) (hBl : 0 < B.length) (r : R4) (hr : r.ck = true) :
    (difL A B g r).Pairwise fun x y => Apart4 x.1 y.1 := by
  have hxk : ∀ x ∈ downL A (A.length - 1) r, x.1.ck = true := fun x hx => (down_ok A hA (A.length - 1) r (by omega) hr x hx).1
  have hin : ∀ x ∈ downL A (A.length - 1) r, ∀ y ∈ (downL B (B.length - 1) x.1).filter fun y => g (ruleAt A x.2) (ruleAt B y.2), ∀ p q, has4 y.1 p q = true → has4 x.1 p q = true := fun x hx y hy p q hp =>
    ((down_ok B hB (B.length - 1) x.1 (by omega) (hxk x hx) y (List.mem_filter.1 hy).1).2.2 p q hp).1
  unfold difL
  rw [List.pairwise_flatMap]
  refine ⟨fun x hx => (down_apart B hB (B.length - 1) x.1 (by omega) (hxk x hx)).filter _, ?_⟩
  refine List.Pairwise.imp_of_mem (fun {a b} ha hb h y hy y' hy' p q hp hp' => ?_) (down_apart A hA (A.length - 1) r (by omega) hr)
  exact h p q (hin a ha y hy p q hp) (hin b hb y' hy' p q hp')
/-- What is known of the sorted parts. -/
structure DifOk (r : R4) (A B : List RV) (D : List (R4 × Nat)) : Prop where
  len : D.length ≤ 1048576
  h1 : ∀ j (hj : j < (rects D).length), (rects D)[j].ck = true ∧ r.c1 ≤ (rects D)[j].c1 ∧ (rects D)[j].c2 ≤ r.c2 ∧ r.r1 ≤ (rects D)[j].r1 ∧ (rects D)[j].r2 ≤ r.r2
  h2 : ∀ j (hj : j + 1 < (rects D).length), (rects D)[j].r1 < (rects D)[j + 1].r1 ∨ (rects D)[j].r1 = (rects D)[j + 1].r1 ∧ (rects D)[j].c1 < (rects D)[j + 1].c1
  h3 : ∀ j (hj : j < (rects D).length) k (hk : k < j), mt20 (rects D)[k] (rects D)[j] = false
  h4 : areas (rects D) = cnt (difF A B) r
  h5 : ∀ j (hj : j < (rects D).length) p q, has4 (rects D)[j] p q = true → difF A B p q = true
theorem dif_ok {r : R4} {A B : List RV} {D : List (R4 × Nat)} (ha : gcE r A = 0) (hb : gcE r B = 0) (hS : Sorts (difL A B gRd r) D) : DifOk r A B D := by
  obtain ⟨hrk, hrc⟩ := gcE_zero.1 ha
  obtain ⟨h0, h64, hsh, hok⟩ := rck_zero.1 hrc
  obtain ⟨_, hrcB⟩ := gcE_zero.1 hb
  obtain ⟨h0B, h64B, hshB, hokB⟩ := rck_zero.1 hrcB
  have hck : ∀ k, k < A.length → (rr4 (ruleAt A k)).ck = true := fun k hk => okRule_ck (hok k hk)
  have hckB : ∀ k, k < B.length → (rr4 (ruleAt B k)).ck = true := fun k hk => okRule_ck (hokB k hk)
  have hd := difL_ok A B gRd hck hckB h0 h0B r hrk
  have hD : ∀ j (hj : j < D.length), D[j].1.ck = true ∧ ∀ p q, has4 D[j].1 p q = true → has4 r p q = true ∧ difF A B p q = true := fun j hj =>
    hd D[j] (hS.1.mem_iff.1 (List.getElem_mem hj))
  have hap : D.Pairwise fun x y => Apart4 x.1 y.1 := (hS.1.pairwise_iff (fun h => apart_symm h)).2 (difL_apart A B gRd hck hckB h0 h0B r hrk)
  have hap2 : ∀ k j (hk : k < j) (hj : j < D.length), Apart4 D[k].1 D[j].1 := fun k j hk hj => List.pairwise_iff_getElem.1 hap k j (by omega) hj hk
  have hrl : (rects D).length = D.length := List.length_map ..
  have hrg : ∀ j (hj : j < (rects D).length), (rects D)[j] = (D[j]'(by rw [← hrl]; exact hj)).1 := fun j hj => by simp [rects]
  have h4 : areas (rects D) = cnt (difF A B) r := by
    unfold rects
    rw [perm_areas (hS.1.map _)]
    exact dif_areas A B gRd hck hckB hsh hshB h0 h0B r hrk
  refine ⟨?_, fun j hj => ?_, fun j hj => ?_, fun j hj k hk => ?_, h4, fun j hj p q hp => ?_⟩
  · have h5 := len_areas (l := rects D) fun x hx => by
      obtain ⟨j, hj, rfl⟩ := List.mem_iff_getElem.1 hx
      rw [hrg j hj]; exact (hD j (by rw [← hrl]; exact hj)).1
    have h6 := cnt_le (difF A B) hrk
    omega
  · rw [hrg j hj]
    obtain ⟨a1, a2⟩ := hD j (by rw [← hrl]; exact hj)
    have b1 := (a2 _ _ (ck_has a1)).1
    have b2 := (a2 _ _ (ck_has2 a1)).1
    rw [has4_iff] at b1 b2
    exact ⟨a1, b1.1, b2.2.1, b1.2.2.1, b2.2.2.2⟩
  · have hj' : j + 1 < D.length := by rw [← hrl]; exact hj
    have hs := hS.2 j (j + 1) (by omega) hj'
    have ha := hap2 j (j + 1) (by omega) hj'
    have c1 := (hD j (by omega)).1
    have c2 := (hD (j + 1) hj').1
    rw [hrg j (by omega), hrg (j + 1) hj]
    generalize D[j].1 = x at *
    generalize D[j + 1].1 = y at *
    by_cases he : x.r1 = y.r1 ∧ x.c1 = y.c1
    · have h5 := ck_has c1
      have h6 := ck_has c2
      rw [← he.1, ← he.2] at h6
      exact (ha _ _ h5 h6).elim
    · omega
  · have hj' : j < D.length := by rw [← hrl]; exact hj
    rw [hrg j hj, hrg k (by omega)]
    exact mt20_apart (hD k (by omega)).1 (hD j hj').1 (hap2 k j hk hj')
  · rw [hrg j hj] at hp
    exact ((hD j (by rw [← hrl]; exact hj)).2 p q hp).2
end Go.Proofs.Ythgnhdfppmoooaa.Re
