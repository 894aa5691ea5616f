/- The addresses that stand for all others: mathematics, and the contract of cuts. -/
import Derived.Test.YtndijajaddkbhaaOverF
namespace Go.Proofs.Ytndijajaddkbhaa.Re
open Go.RowKit AM
def cutB (lo x : Int) (B : List Int) : Bool := x == lo || B.any (· == x)
def cutL (lo : Int) (B : List Int) : Nat → List Int
  | 0 => []
  | n + 1 => cutL lo B n ++ (if cutB lo (lo + n) B = true then [lo + n] else [])
theorem cutL_len (lo : Int) (B : List Int) : ∀ n, (cutL lo B n).length ≤ n
  | 0 => by simp [cutL]
  | n + 1 => by
    have := cutL_len lo B n
    unfold cutL
    rw [List.length_append]
    split <;> simp <;> omega
theorem cutL_mem {lo : Int} {B : List Int} : ∀ {n : Nat} {x : Int}, x ∈ cutL lo B n ↔ lo ≤ x ∧ x < lo + n ∧ cutB lo x B = true
  | 0, x => by simp [cutL]; intro h1 h2; omega
  | n + 1, x => by
    unfold cutL
    rw [List.mem_append, cutL_mem]
    constructor
    · rintro (⟨h1, h2, h3⟩ | h)
      · exact ⟨h1, by omega, h3⟩
      · split at h
        · rename_i hc
          simp at h
          subst h
          exact ⟨by omega, by omega, hc⟩
        · cases h
    · rintro ⟨h1, h2, h3⟩
      by_cases h : x = lo + n
      · subst h; right; rw [if_pos h3]; simp
      · left; exact ⟨h1, by omega, h3⟩
theorem cut_find {lo : Int} {B : List Int} {n : Nat} : ∀ (d : Nat) {p : Int}, p = lo + d → p < lo + n → ∃ p' ∈ cutL lo B n, p' ≤ p ∧ ∀ b ∈ B, ¬ (p' < b ∧ b ≤ p) := by
  intro d
  induction d with
  | zero =>
    intro p hp hn
    refine ⟨p, cutL_mem.2 ⟨by omega, hn, ?_⟩, Int.le_refl _, fun b _ h => by omega⟩
    unfold cutB
    rw [show (p == lo) = true by simp; omega]; rfl
  | succ d ih =>
    intro p hp hn
    by_cases hc : cutB lo p B = true
    · exact ⟨p, cutL_mem.2 ⟨by omega, hn, hc⟩, Int.le_refl _, fun b _ h => by omega⟩
    · obtain ⟨p', h1, h2, h3⟩ := ih (p := p - 1) (by omega) (by omega)
      refine ⟨p', h1, by omega, fun b hb h => ?_⟩
      by_cases hbp : b = p
      · apply hc
        unfold cutB
        rw [Bool.or_eq_true]
        right
        rw [List.any_eq_true]
        exact ⟨b, hb, by simp [hbp]⟩
      · exact h3 b hb (by omega)
def begC (L : List RV) : List Int := L.flatMap fun r => [r.c1, r.c2 + 1]
def begR (L : List RV) : List Int := L.flatMap fun r => [r.r1, r.r2 + 1]
def wid4 (r : R4) : Nat := (r.c2 - r.c1 + 1).toNat
def hei4 (r : R4) : Nat := (r.r2 - r.r1 + 1).toNat
def colsP (r : R4) (L : List RV) : List Int := cutL r.c1 (begC L) (wid4 r)
def rowsP (r : R4) (L : List RV) : List Int := cutL r.r1 (begR L) (hei4 r)
def ptsL (r : R4) (L : List RV) : List (Int × Int) := (rowsP r L).flatMap fun q => (colsP r L).map fun p => (p, q)
theorem pts_in {r : R4} {L : List RV} {x : Int × Int} (h : x ∈ ptsL r L) : has4 r x.1 x.2 = true := by
  unfold ptsL at h
  obtain ⟨q, hq, h⟩ := List.mem_flatMap.1 h
  obtain ⟨p, hp, rfl⟩ := List.mem_map.1 h
  obtain ⟨a1, a2, _⟩ := cutL_mem.1 hq
  obtain ⟨b1, b2, _⟩ := cutL_mem.1 hp
  unfold wid4 at b2
  unfold hei4 at a2
  rw [has4_iff]
  dsimp only
  omega
theorem pts_rep {r : R4} {L : List RV} {p q : Int} (h : has4 r p q = true) : ∃ x ∈ ptsL r L, ∀ R ∈ L, hasR R x.1 x.2 = hasR R p q := by
  rw [has4_iff] at h
  obtain ⟨p', hp, hp1, hp2⟩ := cut_find (lo := r.c1) (B := begC L) (n := wid4 r) (p - r.c1).toNat (p := p) (by omega) (by unfold wid4; omega)
  obtain ⟨q', hq, hq1, hq2⟩ := cut_find (lo := r.r1) (B := begR L) (n := hei4 r) (q - r.r1).toNat (p := q) (by omega) (by unfold hei4; omega)
  refine ⟨(p', q'), ?_, fun R hR => ?_⟩
  · unfold ptsL
    exact List.mem_flatMap.2 ⟨q', hq, List.mem_map.2 ⟨p', hp, rfl⟩⟩
  · have m1 : R.c1 ∈ begC L := List.mem_flatMap.2 ⟨R, hR, by simp⟩
    have m2 : R.c2 + 1 ∈ begC L := List.mem_flatMap.2 ⟨R, hR, by simp⟩
    have m3 : R.r1 ∈ begR L := List.mem_flatMap.2 ⟨R, hR, by simp⟩
    have m4 : R.r2 + 1 ∈ begR L := List.mem_flatMap.2 ⟨R, hR, by simp⟩
    have e1 := hp2 _ m1
    have e2 := hp2 _ m2
    have e3 := hq2 _ m3
    have e4 := hq2 _ m4
    unfold hasR rhB
    dsimp only
    rw [decide_eq_decide]
    omega
theorem lastI_congr {L : List RV} {p q p' q' : Int} (h : ∀ R ∈ L, hasR R p q = hasR R p' q') : ∀ n, n ≤ L.length → lastI L p q n = lastI L p' q' n := by
  intro n
  induction n with
  | zero => intro _; rfl
  | succ n ih =>
    intro hn
    have hlt : n < L.length := by omega
    have hh := h L[n] (List.getElem_mem hlt)
    cases hc : hasR L[n] p q
    · rw [lastI_f L p q n hlt hc, lastI_f L p' q' n hlt (hh ▸ hc), ih (by omega)]
    · rw [lastI_t L p q n hlt hc, lastI_t L p' q' n hlt (hh ▸ hc)]
theorem pts_last {r : R4} {L : List RV} {p q : Int} (h : has4 r p q = true) : ∃ x ∈ ptsL r L, lastI L x.1 x.2 L.length = lastI L p q L.length := by
  obtain ⟨x, hx, hh⟩ := pts_rep (L := L) h
  exact ⟨x, hx, lastI_congr hh _ (Nat.le_refl _)⟩
/-- The sets at all points, met. -/
def ovP (f : RV → W64) (L : List RV) (l : List (Int × Int)) : W64 := l.foldl (fun a x => a &&& f (ruleAt L (lastI L x.1 x.2 L.length))) (BitVec.allOnes 64)
theorem ovP_snoc (f : RV → W64) (L : List RV) (l : List (Int × Int)) (x : Int × Int) : ovP f L (l ++ [x]) = ovP f L l &&& f (ruleAt L (lastI L x.1 x.2 L.length)) := by unfold ovP; simp
theorem ovP_bit (f : RV → W64) (L : List RV) (b : Nat) (hb : b < 64) (l : List (Int × Int)) : (ovP f L l).getLsbD b = l.all fun x => (f (ruleAt L (lastI L x.1 x.2 L.length))).getLsbD b := by
  have key : ∀ (l : List (Int × Int)) (a : W64), (l.foldl (fun a x => a &&& f (ruleAt L (lastI L x.1 x.2 L.length))) a).getLsbD b = (a.getLsbD b && l.all fun x => (f (ruleAt L (lastI L x.1 x.2 L.length))).getLsbD b) := by
    intro l
    induction l with
    | nil => intro a; simp
    | cons x l ih => intro a; rw [List.foldl_cons, ih, BitVec.getLsbD_and, List.all_cons, Bool.and_assoc]
  unfold ovP
  rw [key]
  have h1 : (BitVec.allOnes 64).getLsbD b = true := by rw [BitVec.getLsbD_allOnes]; exact decide_eq_true hb
  rw [h1, Bool.true_and]
end Go.Proofs.Ytndijajaddkbhaa.Re
