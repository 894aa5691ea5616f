/- Contracts of addr.Parse, addr.Column and addr.Format. -/
import Derived.Test.YtelanmknimapoaaGreatDoorMgf
import Derived.Test.YtelanmknimapoaaGreatDoorAddrRead
import Derived.Test.YtelanmknimapoaaGreatDoorShelfItoa
namespace Go.Proofs.YtelanmknimapoaaGreatDoor.Re
open Go.RowKit AM
theorem retP {a b c a' b' c' : Int} (h : a = a') (h' : b = b') (h'' : c = c') : Ending.returned (.tuple #[.agg #[.int .i64 a, .int .i64 b], .int .i64 c]) = .returned (.tuple #[.agg #[.int .i64 a', .int .i64 b'], .int .i64 c']) := by rw [h, h', h'']
theorem yet {l : List UInt8} (h : rd l = none) : PZ l = (0, 0, 4) := by unfold PZ; rw [h]
theorem zxk {l : List UInt8} {t : St} (h : rd l = some t) (h' : t.n1 = 0 ∨ t.n2 = 0) : PZ l = (0, 0, 4) := by unfold PZ; rw [h]; simp [h']
theorem yhm {l : List UInt8} {t : St} (h : rd l = some t) (h' : ¬ (t.n1 = 0 ∨ t.n2 = 0)) (h'' : okR t.v1 t.v2 = false) : PZ l = (0, 0, 3) := by unfold PZ; rw [h]; simp [h', h'']
theorem yhl {l : List UInt8} {t : St} (h : rd l = some t) (h' : ¬ (t.n1 = 0 ∨ t.n2 = 0)) (h'' : okR t.v1 t.v2 = true) : PZ l = (t.v1, t.v2, 0) := by unfold PZ; rw [h]; simp [h', h'']
set_option maxRecDepth 100000 in
set_option maxHeartbeats 1600000 in
theorem parse_any (s : ByteArray) (hs : s.size ≤ 2000) (w : World) :
 Calls Tryz.prog 108 #[.string s] w fun e w' =>
  e = .returned (.tuple #[.agg #[.int .i64 (PZ s.data.toList).1, .int .i64 (PZ s.data.toList).2.1], .int .i64 (PZ s.data.toList).2.2]) ∧ Below w.heap.size w w' := by
 cases hr : rd s.data.toList with
 | none =>
  have HR := Lib.hid (zq2 hr)
  have HP := Lib.hid (yet hr)
  clear hr
  go_enter Tryz.func108, Tryz.ntmps108
  go_wp2_with fail
  refine (read_any s hs _).mono ?_
  rintro e w1 ⟨rfl, hB⟩
  rw [HR.out]
  unfold zee
  obtain ⟨hc, hf⟩ := bcell hB
  simp at hc hf
  have hz : w.heap.size < w1.heap.size := by have := hB.size; simp at this; omega
  have c0 : w1.cell? ⟨w.heap.size, 0, none⟩ = some (.int .i64 0) := by rw [hc _ _ (by simp)]; simp
  have c1 : w1.cell? ⟨w.heap.size, 1, none⟩ = some (.int .i64 0) := by rw [hc _ _ (by simp)]; simp
  have f0 : ∀ o, w1.frozen? ⟨w.heap.size, o, none⟩ = false := fun o => by rw [hf _ _ (by simp)]; simp
  have hB' : Below w.heap.size w w1 := Below.next ((Below.refl _ _).alloc (Nat.le_refl _) _) hB
  clear hc hf
  go_wp2_with fail
  exact bodyPost_ret (v := .tuple #[.agg #[.int .i64 0, .int .i64 0], .int .i64 4]) (by simp [results, Tryz.results108, go_sem, c0, c1, hz]) rfl
   ⟨retP (by rw [HP.out]) (by rw [HP.out]) (by rw [HP.out]), ((hB'.setCell (Nat.le_refl _) _).setCell (Nat.le_refl _) _).alloc (by simp; omega) _⟩
 | some t =>
  have HR := Lib.hid (zu2 hr)
  have Hr := Lib.hid hr
  clear hr
  obtain ⟨last, n1, n2, v1, v2⟩ := t
  dsimp only at HR
  by_cases h1 : n1 = 0
  · have HP := Lib.hid (zxk Hr.out (Or.inl h1))
    have e1 : (n1 == 0) = true := by simpa using h1
    clear h1
    go_enter Tryz.func108, Tryz.ntmps108
    go_wp2_with fail
    refine (read_any s hs _).mono ?_
    rintro e w1 ⟨rfl, hB⟩
    rw [HR.out]
    unfold zee
    obtain ⟨hc, hf⟩ := bcell hB
    simp at hc hf
    have hz : w.heap.size < w1.heap.size := by have := hB.size; simp at this; omega
    have c0 : w1.cell? ⟨w.heap.size, 0, none⟩ = some (.int .i64 0) := by rw [hc _ _ (by simp)]; simp
    have c1 : w1.cell? ⟨w.heap.size, 1, none⟩ = some (.int .i64 0) := by rw [hc _ _ (by simp)]; simp
    have f0 : ∀ o, w1.frozen? ⟨w.heap.size, o, none⟩ = false := fun o => by rw [hf _ _ (by simp)]; simp
    have hB' : Below w.heap.size w w1 := Below.next ((Below.refl _ _).alloc (Nat.le_refl _) _) hB
    clear hc hf
    go_wp2_with fail
    exact bodyPost_ret (v := .tuple #[.agg #[.int .i64 0, .int .i64 0], .int .i64 4]) (by simp [results, Tryz.results108, go_sem, c0, c1, hz]) rfl
     ⟨retP (by rw [HP.out]) (by rw [HP.out]) (by rw [HP.out]), ((hB'.setCell (Nat.le_refl _) _).setCell (Nat.le_refl _) _).alloc (by simp; omega) _⟩
  · have e1 : (n1 == 0) = false := by simpa using h1
    by_cases h2 : n2 = 0
    · have HP := Lib.hid (zxk Hr.out (Or.inr h2))
      have e2 : (n2 == 0) = true := by simpa using h2
      clear h1 h2
      go_enter Tryz.func108, Tryz.ntmps108
      go_wp2_with fail
      refine (read_any s hs _).mono ?_
      rintro e w1 ⟨rfl, hB⟩
      rw [HR.out]
      unfold zee
      obtain ⟨hc, hf⟩ := bcell hB
      simp at hc hf
      have hz : w.heap.size < w1.heap.size := by have := hB.size; simp at this; omega
      have c0 : w1.cell? ⟨w.heap.size, 0, none⟩ = some (.int .i64 0) := by rw [hc _ _ (by simp)]; simp
      have c1 : w1.cell? ⟨w.heap.size, 1, none⟩ = some (.int .i64 0) := by rw [hc _ _ (by simp)]; simp
      have f0 : ∀ o, w1.frozen? ⟨w.heap.size, o, none⟩ = false := fun o => by rw [hf _ _ (by simp)]; simp
      have hB' : Below w.heap.size w w1 := Below.next ((Below.refl _ _).alloc (Nat.le_refl _) _) hB
      clear hc hf
      go_wp2_with fail
      exact bodyPost_ret (v := .tuple #[.agg #[.int .i64 0, .int .i64 0], .int .i64 4]) (by simp [results, Tryz.results108, go_sem, c0, c1, hz]) rfl
       ⟨retP (by rw [HP.out]) (by rw [HP.out]) (by rw [HP.out]), ((hB'.setCell (Nat.le_refl _) _).setCell (Nat.le_refl _) _).alloc (by simp; omega) _⟩
    · have e2 : (n2 == 0) = false := by simpa using h2
      have hn : ¬ (n1 = 0 ∨ n2 = 0) := by omega
      have Hn := Lib.hid hn
      clear h1 h2 hn
      cases hk : okR v1 v2 with
      | true =>
       have HP := Lib.hid (yhl Hr.out Hn.out hk)
       have HK := Lib.hid hk
       clear hk
       go_enter Tryz.func108, Tryz.ntmps108
       go_wp2_with fail
       refine (read_any s hs _).mono ?_
       rintro e w1 ⟨rfl, hB⟩
       rw [HR.out]
       unfold zee
       obtain ⟨hc, hf⟩ := bcell hB
       simp at hc hf
       have hz : w.heap.size < w1.heap.size := by have := hB.size; simp at this; omega
       have c0 : w1.cell? ⟨w.heap.size, 0, none⟩ = some (.int .i64 0) := by rw [hc _ _ (by simp)]; simp
       have c1 : w1.cell? ⟨w.heap.size, 1, none⟩ = some (.int .i64 0) := by rw [hc _ _ (by simp)]; simp
       have f0 : ∀ o, w1.frozen? ⟨w.heap.size, o, none⟩ = false := fun o => by rw [hf _ _ (by simp)]; simp
       have hB' : Below w.heap.size w w1 := Below.next ((Below.refl _ _).alloc (Nat.le_refl _) _) hB
       clear hc hf
       go_wp2_with fail
       refine (valid_any _ _ _).mono ?_
       rintro e w2 ⟨rfl, hB2⟩
       rw [HK.out]
       obtain ⟨hc2, hf2⟩ := bcell hB2
       simp at hc2 hf2
       have hz2 := hB2.size
       simp at hz2
       have hz3 : w.heap.size < w2.heap.size := by omega
       have hB3 : Below w1.heap.size w1 w2 := (((Below.refl _ _).alloc (Nat.le_refl _) _).alloc (by simp) _).trans (hB2.mono (by simp; omega))
       obtain ⟨hc3, hf3⟩ := bcell hB3
       have d0 : w2.cell? ⟨w.heap.size, 0, none⟩ = some (.int .i64 0) := by rw [hc3 _ _ hz]; exact c0
       have d1 : w2.cell? ⟨w.heap.size, 1, none⟩ = some (.int .i64 0) := by rw [hc3 _ _ hz]; exact c1
       have d2 : w2.cell? ⟨w1.heap.size + 1, 0, none⟩ = some (.int .i64 v1) := by rw [hc2 _ _ (by omega)]; simp
       have d3 : w2.cell? ⟨w1.heap.size + 1, 1, none⟩ = some (.int .i64 v2) := by rw [hc2 _ _ (by omega)]; simp
       have g0 : ∀ o, w2.frozen? ⟨w.heap.size, o, none⟩ = false := fun o => by rw [hf3 _ _ hz]; exact f0 o
       have hB2' : Below w.heap.size w w2 := hB'.trans (hB3.mono (by omega))
       clear hc2 hf2 hc3 hf3
       go_wp2_with fail
       exact bodyPost_ret (v := .tuple #[.agg #[.int .i64 v1, .int .i64 v2], .int .i64 0]) (by simp [results, Tryz.results108, go_sem, d0, d1]) rfl
        ⟨retP (by rw [HP.out]) (by rw [HP.out]) (by rw [HP.out]), (hB2'.setCell (Nat.le_refl _) _).setCell (Nat.le_refl _) _⟩
      | false =>
       have HP := Lib.hid (yhm Hr.out Hn.out hk)
       have HK := Lib.hid hk
       clear hk
       go_enter Tryz.func108, Tryz.ntmps108
       go_wp2_with fail
       refine (read_any s hs _).mono ?_
       rintro e w1 ⟨rfl, hB⟩
       rw [HR.out]
       unfold zee
       obtain ⟨hc, hf⟩ := bcell hB
       simp at hc hf
       have hz : w.heap.size < w1.heap.size := by have := hB.size; simp at this; omega
       have c0 : w1.cell? ⟨w.heap.size, 0, none⟩ = some (.int .i64 0) := by rw [hc _ _ (by simp)]; simp
       have c1 : w1.cell? ⟨w.heap.size, 1, none⟩ = some (.int .i64 0) := by rw [hc _ _ (by simp)]; simp
       have f0 : ∀ o, w1.frozen? ⟨w.heap.size, o, none⟩ = false := fun o => by rw [hf _ _ (by simp)]; simp
       have hB' : Below w.heap.size w w1 := Below.next ((Below.refl _ _).alloc (Nat.le_refl _) _) hB
       clear hc hf
       go_wp2_with fail
       refine (valid_any _ _ _).mono ?_
       rintro e w2 ⟨rfl, hB2⟩
       rw [HK.out]
       obtain ⟨hc2, hf2⟩ := bcell hB2
       simp at hc2 hf2
       have hz2 := hB2.size
       simp at hz2
       have hz3 : w.heap.size < w2.heap.size := by omega
       have hB3 : Below w1.heap.size w1 w2 := (((Below.refl _ _).alloc (Nat.le_refl _) _).alloc (by simp) _).trans (hB2.mono (by simp; omega))
       obtain ⟨hc3, hf3⟩ := bcell hB3
       have d0 : w2.cell? ⟨w.heap.size, 0, none⟩ = some (.int .i64 0) := by rw [hc3 _ _ hz]; exact c0
       have d1 : w2.cell? ⟨w.heap.size, 1, none⟩ = some (.int .i64 0) := by rw [hc3 _ _ hz]; exact c1
       have d2 : w2.cell? ⟨w1.heap.size + 1, 0, none⟩ = some (.int .i64 v1) := by rw [hc2 _ _ (by omega)]; simp
       have d3 : w2.cell? ⟨w1.heap.size + 1, 1, none⟩ = some (.int .i64 v2) := by rw [hc2 _ _ (by omega)]; simp
       have g0 : ∀ o, w2.frozen? ⟨w.heap.size, o, none⟩ = false := fun o => by rw [hf3 _ _ hz]; exact f0 o
       have hB2' : Below w.heap.size w w2 := hB'.trans (hB3.mono (by omega))
       clear hc2 hf2 hc3 hf3
       go_wp2_with fail
       exact bodyPost_ret (v := .tuple #[.agg #[.int .i64 0, .int .i64 0], .int .i64 3]) (by simp [results, Tryz.results108, go_sem, d0, d1]) rfl
        ⟨retP (by rw [HP.out]) (by rw [HP.out]) (by rw [HP.out]), (hB2'.setCell (Nat.le_refl _) _).setCell (Nat.le_refl _) _⟩
theorem zrj (c : Int) : (ze8 c).length ≤ 3 := by
 unfold ze8; split
 · simp
 · split <;> simp
def fmtL (c r : Int) : List UInt8 := lets c ++ Lib.itoa r
theorem yb1 (a : List Int) (b : List UInt8) : strOfNums a ++ (⟨b.toArray⟩ : ByteArray) = ⟨((a.map fun n => UInt8.ofNat n.toNat) ++ b).toArray⟩ := by
 apply ByteArray.ext
 simp [strOfNums]
theorem retS {a b : ByteArray} {c : Int} (h : a = b) : Ending.returned (.tuple #[.string a, .int .i64 c]) = .returned (.tuple #[.string b, .int .i64 c]) := by rw [h]
end Go.Proofs.YtelanmknimapoaaGreatDoor.Re
