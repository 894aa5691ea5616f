/- The parts in order: the contract of region.sorted. -/
import Derived.Test.YthgnhdfppmoooaaPrtF
import Derived.Test.YthgnhdfppmoooaaSortO
import Derived.Test.YthgnhdfppmoooaaShelfSort
namespace Go.Proofs.Ythgnhdfppmoooaa.Re
open Go.RowKit AM Go.Sort
set_option linter.unusedVariables false
set_option linter.unusedSimpArgs false
def cmp5 (a b : R4 × Nat) : Int := cmp4 a.1 b.1
theorem cmp4_lt {a b : R4} : cmp4 a b < 0 ↔ a.r1 < b.r1 ∨ a.r1 = b.r1 ∧ a.c1 < b.c1 := by
  unfold cmp4 cmpI
  split <;> (repeat' split) <;> omega
theorem swo5 : SWO (ltOf cmp5) := by
  have key : ∀ x y, ltOf cmp5 x y = true ↔ x.1.r1 < y.1.r1 ∨ x.1.r1 = y.1.r1 ∧ x.1.c1 < y.1.c1 := fun x y => by
    unfold ltOf; rw [decide_eq_true_iff]; exact cmp4_lt
  have keyf : ∀ x y, ltOf cmp5 x y = false ↔ ¬ (x.1.r1 < y.1.r1 ∨ x.1.r1 = y.1.r1 ∧ x.1.c1 < y.1.c1) := fun x y => by
    rw [← Bool.not_eq_true, key]
  refine ⟨fun x => ?_, fun x y z h1 h2 => ?_, fun x y z h1 h2 => ?_⟩
  · rw [keyf]; omega
  · rw [key] at *; omega
  · rw [keyf] at *; omega
instance : Inhabited R4 := ⟨⟨0, 0, 0, 0⟩⟩
theorem cmp_lays (blk size : Nat) (w : World) : CmpLays Try.prog 27 #[] cells5 5 cmp5 blk 0 size w := fun m os dk _ x y =>
  (sorted1_any x.1.c1 x.1.r1 x.1.c2 x.1.r2 (x.2 : Int) y.1.c1 y.1.r1 y.1.c2 y.1.r2 (y.2 : Int) (sortWorldK cells5 5 w blk 0 m dk os)).mono fun e w' ⟨he, hB⟩ => ⟨he, hB.grow⟩
/-- What sorting makes of parts. -/
def Sorts (D D' : List (R4 × Nat)) : Prop := D'.Perm D ∧ ∀ i j (hi : i < j) (hj : j < D'.length), ¬ (D'[j].1.r1 < D'[i].1.r1 ∨ D'[j].1.r1 = D'[i].1.r1 ∧ D'[j].1.c1 < D'[i].1.c1)
theorem sorts_of {D : List (R4 × Nat)} {d : Array (R4 × Nat)} (hp : PermIn 0 D.toArray.size D.toArray d) (hs : SortedIn (ltOf cmp5) 0 D.toArray.size d) : Sorts D d.toList ∧ d.size = D.length := by
  obtain ⟨h1, _, h3⟩ := hp
  have hl : d.size = D.length := by simpa using h1
  refine ⟨⟨?_, fun i j hi hj => ?_⟩, hl⟩
  · have e1 : (d.extract 0 D.toArray.size).toList = d.toList := by simp [← hl]
    have e2 : (D.toArray.extract 0 D.toArray.size).toList = D := by simp
    rw [e1, e2] at h3
    exact h3
  · have hj2 : j < d.size := by simpa using hj
    have := hs i j (Nat.zero_le _) hi (by simpa [← hl] using hj2)
    rw [getElem!_pos d j hj2, getElem!_pos d i (by omega)] at this
    unfold ltOf at this
    rw [decide_eq_false_iff_not] at this
    have h4 := mt cmp4_lt.2 this
    simpa using h4
set_option maxRecDepth 100000 in
set_option maxHeartbeats 3200000 in
theorem sorted_any (B : Nat) (v : Value) (D : List (R4 × Nat)) (w : World) (hD : OwnP5 B w v D) (hB : B ≤ w.heap.size) (hl : D.length ≤ 2000000) :
    Calls Try.prog 12 #[v] w fun e w' => e = .returned v ∧ (∃ D', Sorts D D' ∧ OwnP5 B w' v D') ∧ Below B w w' := by
  have eg : ∀ args w, (callFunc 27 args).run Try.prog w = .ok (.enter 27 args) w := enters_of Try.func27 (by kernel_rfl) rfl
  have key : Calls Try.prog 26 #[v, .func (.func 27) #[] #[]] w fun e w' => e = .returned (.tuple #[]) ∧ (∃ D', Sorts D D' ∧ OwnP5 B w' v D') ∧ Below B w w' := by
    rcases hD.2 with ⟨rfl, h0⟩ | ⟨g, cap, cur, rfl, hg, hh, _⟩
    · obtain rfl : D = [] := List.eq_nil_of_length_eq_zero h0
      have hcon := AnyF.slices_SortFunc_none Try.sortF none 0 (.func (.func 27) #[] #[]) w
      change Calls Try.prog 26 _ _ _ at hcon
      refine hcon.mono ?_
      rintro e w' ⟨rfl, rfl⟩
      exact ⟨rfl, ⟨[], ⟨.refl _, fun i j _ hj => absurd hj (by simp)⟩, hD⟩, Below.refl _ _⟩
    · have hgl := (Array.getElem?_eq_some_iff.1 hh).1
      have hsz : D.toArray.size < 4611686018427387904 := by rw [List.size_toArray]; omega
      have hcon := AnyQ.slices_SortFunc Try.sortF 5 Try.isAgg39 Try.sizeOf39 cells5 cells5_len cells5_one cmp5 swo5 27 #[] g 0 cap D.toArray w eg (cmp_lays g D.toArray.size w) (OwnOf.holds cells5_len hD) hgl hsz
      change Calls Try.prog 26 _ _ _ at hcon
      refine hcon.mono ?_
      rintro e w' ⟨rfl, d, m, os, hp, hs, rfl⟩
      obtain ⟨h1, h2⟩ := sorts_of hp hs
      refine ⟨rfl, ⟨d.toList, h1, ?_⟩, below_sorted w g m d os hg hgl⟩
      have := OwnOf.sorted cells5_len hD m d h2 os
      exact this
  have KEY := Lib.hid key
  clear key hD
  go_enter Try.func12, Try.ntmps12
  go_wp2_with fail
  refine KEY.out.mono ?_
  rintro e w1 ⟨rfl, h1, h2⟩
  have H1 := Lib.hid h1
  have H2 := Lib.hid h2
  clear h1 h2
  go_wp2_with fail
  go_ret
  exact ⟨rfl, H1.out, H2.out⟩
end Go.Proofs.Ythgnhdfppmoooaa.Re
