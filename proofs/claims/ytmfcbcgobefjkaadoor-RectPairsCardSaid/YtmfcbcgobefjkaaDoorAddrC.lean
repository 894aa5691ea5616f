/- Contracts of addr.Parse, addr.Column and addr.Format. -/
import Derived.Test.YtmfcbcgobefjkaaDoorAddrB
import Derived.Test.YtmfcbcgobefjkaaDoorAddrRead
import Derived.Test.YtmfcbcgobefjkaaDoorShelfItoa
namespace Go.Proofs.YtmfcbcgobefjkaaDoor
open Go.RowKit AM
theorem retP {a b c a' b' c' : Int} (h : a = a') (h' : b = b') (h'' : c = c') : Ending.returned (.tuple #[.agg #[.int .i64 a, .int .i64 b], .int .i64 c]) = .returned (.tuple #[.agg #[.int .i64 a', .int .i64 b'], .int .i64 c']) := by rw [h, h', h'']
theorem PZ_none {l : List UInt8} (h : rd l = none) : PZ l = (0, 0, 4) := by unfold PZ; rw [h]
theorem PZ_part {l : List UInt8} {t : St} (h : rd l = some t) (h' : t.n1 = 0 ∨ t.n2 = 0) : PZ l = (0, 0, 4) := by unfold PZ; rw [h]; simp [h']
theorem PZ_far {l : List UInt8} {t : St} (h : rd l = some t) (h' : ¬ (t.n1 = 0 ∨ t.n2 = 0)) (h'' : okR t.v1 t.v2 = false) : PZ l = (0, 0, 3) := by unfold PZ; rw [h]; simp [h', h'']
theorem PZ_yes {l : List UInt8} {t : St} (h : rd l = some t) (h' : ¬ (t.n1 = 0 ∨ t.n2 = 0)) (h'' : okR t.v1 t.v2 = true) : PZ l = (t.v1, t.v2, 0) := by unfold PZ; rw [h]; simp [h', h'']
theorem CZ_none {l : List UInt8} (h : rd l = none) : CZ l = (0, 4) := by unfold CZ; rw [h]
theorem CZ_part {l : List UInt8} {t : St} (h : rd l = some t) (h' : t.n1 = 0 ∨ t.n2 ≠ 0) : CZ l = (0, 4) := by unfold CZ; rw [h]; simp only; rw [if_pos h']
theorem CZ_far {l : List UInt8} {t : St} (h : rd l = some t) (h' : ¬ (t.n1 = 0 ∨ t.n2 ≠ 0)) (h'' : 1024 < t.v1) : CZ l = (0, 3) := by unfold CZ; rw [h]; simp only; rw [if_neg h', if_pos h'']
theorem CZ_yes {l : List UInt8} {t : St} (h : rd l = some t) (h' : ¬ (t.n1 = 0 ∨ t.n2 ≠ 0)) (h'' : ¬ 1024 < t.v1) : CZ l = (t.v1, 0) := by unfold CZ; rw [h]; simp only; rw [if_neg h', if_neg h'']

set_option maxRecDepth 100000 in
set_option maxHeartbeats 1600000 in
theorem parse_any (s : ByteArray) (hs : s.size ≤ 2000) (w : World) :
    Calls Tryd.prog 47 #[.string s] w fun e w' =>
      e = .returned (.tuple #[.agg #[.int .i64 (PZ s.data.toList).1, .int .i64 (PZ s.data.toList).2.1], .int .i64 (PZ s.data.toList).2.2]) ∧ Below w.heap.size w w' := by
  cases hr : rd s.data.toList with
  | none =>
    have HR := Lib.hid (rdR_no hr)
    have HP := Lib.hid (PZ_none hr)
    clear hr
    go_enter Tryd.func47, Tryd.ntmps47
    go_wp2_with fail
    refine (read_any s hs _).mono ?_
    rintro e w1 ⟨rfl, hB⟩
    rw [HR.out]
    unfold wordV
    obtain ⟨hc, hf⟩ := bcell hB
    simp at hc hf
    have hz : w.heap.size < w1.heap.size := by have := hB.size; simp at this; omega
    have c0 : w1.cell? ⟨w.heap.size, 0, none⟩ = some (.int .i64 0) := by rw [hc _ _ (by simp)]; simp
    have c1 : w1.cell? ⟨w.heap.size, 1, none⟩ = some (.int .i64 0) := by rw [hc _ _ (by simp)]; simp
    have f0 : ∀ o, w1.frozen? ⟨w.heap.size, o, none⟩ = false := fun o => by rw [hf _ _ (by simp)]; simp
    have hB' : Below w.heap.size w w1 := Below.next ((Below.refl _ _).alloc (Nat.le_refl _) _) hB
    clear hc hf
    go_wp2_with fail
    exact bodyPost_ret (v := .tuple #[.agg #[.int .i64 0, .int .i64 0], .int .i64 4]) (by simp [results, Tryd.results47, go_sem, c0, c1, hz]) rfl
      ⟨retP (by rw [HP.out]) (by rw [HP.out]) (by rw [HP.out]), ((hB'.setCell (Nat.le_refl _) _).setCell (Nat.le_refl _) _).alloc (by simp; omega) _⟩
  | some t =>
    have HR := Lib.hid (rdR_yes hr)
    have Hr := Lib.hid hr
    clear hr
    obtain ⟨last, n1, n2, v1, v2⟩ := t
    dsimp only at HR
    by_cases h1 : n1 = 0
    · have HP := Lib.hid (PZ_part Hr.out (Or.inl h1))
      have e1 : (n1 == 0) = true := by simpa using h1
      clear h1
      go_enter Tryd.func47, Tryd.ntmps47
      go_wp2_with fail
      refine (read_any s hs _).mono ?_
      rintro e w1 ⟨rfl, hB⟩
      rw [HR.out]
      unfold wordV
      obtain ⟨hc, hf⟩ := bcell hB
      simp at hc hf
      have hz : w.heap.size < w1.heap.size := by have := hB.size; simp at this; omega
      have c0 : w1.cell? ⟨w.heap.size, 0, none⟩ = some (.int .i64 0) := by rw [hc _ _ (by simp)]; simp
      have c1 : w1.cell? ⟨w.heap.size, 1, none⟩ = some (.int .i64 0) := by rw [hc _ _ (by simp)]; simp
      have f0 : ∀ o, w1.frozen? ⟨w.heap.size, o, none⟩ = false := fun o => by rw [hf _ _ (by simp)]; simp
      have hB' : Below w.heap.size w w1 := Below.next ((Below.refl _ _).alloc (Nat.le_refl _) _) hB
      clear hc hf
      go_wp2_with fail
      exact bodyPost_ret (v := .tuple #[.agg #[.int .i64 0, .int .i64 0], .int .i64 4]) (by simp [results, Tryd.results47, go_sem, c0, c1, hz]) rfl
        ⟨retP (by rw [HP.out]) (by rw [HP.out]) (by rw [HP.out]), ((hB'.setCell (Nat.le_refl _) _).setCell (Nat.le_refl _) _).alloc (by simp; omega) _⟩
    · have e1 : (n1 == 0) = false := by simpa using h1
      by_cases h2 : n2 = 0
      · have HP := Lib.hid (PZ_part Hr.out (Or.inr h2))
        have e2 : (n2 == 0) = true := by simpa using h2
        clear h1 h2
        go_enter Tryd.func47, Tryd.ntmps47
        go_wp2_with fail
        refine (read_any s hs _).mono ?_
        rintro e w1 ⟨rfl, hB⟩
        rw [HR.out]
        unfold wordV
        obtain ⟨hc, hf⟩ := bcell hB
        simp at hc hf
        have hz : w.heap.size < w1.heap.size := by have := hB.size; simp at this; omega
        have c0 : w1.cell? ⟨w.heap.size, 0, none⟩ = some (.int .i64 0) := by rw [hc _ _ (by simp)]; simp
        have c1 : w1.cell? ⟨w.heap.size, 1, none⟩ = some (.int .i64 0) := by rw [hc _ _ (by simp)]; simp
        have f0 : ∀ o, w1.frozen? ⟨w.heap.size, o, none⟩ = false := fun o => by rw [hf _ _ (by simp)]; simp
        have hB' : Below w.heap.size w w1 := Below.next ((Below.refl _ _).alloc (Nat.le_refl _) _) hB
        clear hc hf
        go_wp2_with fail
        exact bodyPost_ret (v := .tuple #[.agg #[.int .i64 0, .int .i64 0], .int .i64 4]) (by simp [results, Tryd.results47, go_sem, c0, c1, hz]) rfl
          ⟨retP (by rw [HP.out]) (by rw [HP.out]) (by rw [HP.out]), ((hB'.setCell (Nat.le_refl _) _).setCell (Nat.le_refl _) _).alloc (by simp; omega) _⟩
      · have e2 : (n2 == 0) = false := by simpa using h2
        have hn : ¬ (n1 = 0 ∨ n2 = 0) := by omega
        have Hn := Lib.hid hn
        clear h1 h2 hn
        cases hk : okR v1 v2 with
        | true =>
          have HP := Lib.hid (PZ_yes Hr.out Hn.out hk)
          have HK := Lib.hid hk
          clear hk
          go_enter Tryd.func47, Tryd.ntmps47
          go_wp2_with fail
          refine (read_any s hs _).mono ?_
          rintro e w1 ⟨rfl, hB⟩
          rw [HR.out]
          unfold wordV
          obtain ⟨hc, hf⟩ := bcell hB
          simp at hc hf
          have hz : w.heap.size < w1.heap.size := by have := hB.size; simp at this; omega
          have c0 : w1.cell? ⟨w.heap.size, 0, none⟩ = some (.int .i64 0) := by rw [hc _ _ (by simp)]; simp
          have c1 : w1.cell? ⟨w.heap.size, 1, none⟩ = some (.int .i64 0) := by rw [hc _ _ (by simp)]; simp
          have f0 : ∀ o, w1.frozen? ⟨w.heap.size, o, none⟩ = false := fun o => by rw [hf _ _ (by simp)]; simp
          have hB' : Below w.heap.size w w1 := Below.next ((Below.refl _ _).alloc (Nat.le_refl _) _) hB
          clear hc hf
          go_wp2_with fail
          refine (valid_any _ _ _).mono ?_
          rintro e w2 ⟨rfl, hB2⟩
          rw [HK.out]
          obtain ⟨hc2, hf2⟩ := bcell hB2
          simp at hc2 hf2
          have hz2 := hB2.size
          simp at hz2
          have hz3 : w.heap.size < w2.heap.size := by omega
          have hB3 : Below w1.heap.size w1 w2 := (((Below.refl _ _).alloc (Nat.le_refl _) _).alloc (by simp) _).trans (hB2.mono (by simp; omega))
          obtain ⟨hc3, hf3⟩ := bcell hB3
          have d0 : w2.cell? ⟨w.heap.size, 0, none⟩ = some (.int .i64 0) := by rw [hc3 _ _ hz]; exact c0
          have d1 : w2.cell? ⟨w.heap.size, 1, none⟩ = some (.int .i64 0) := by rw [hc3 _ _ hz]; exact c1
          have d2 : w2.cell? ⟨w1.heap.size + 1, 0, none⟩ = some (.int .i64 v1) := by rw [hc2 _ _ (by omega)]; simp
          have d3 : w2.cell? ⟨w1.heap.size + 1, 1, none⟩ = some (.int .i64 v2) := by rw [hc2 _ _ (by omega)]; simp
          have g0 : ∀ o, w2.frozen? ⟨w.heap.size, o, none⟩ = false := fun o => by rw [hf3 _ _ hz]; exact f0 o
          have hB2' : Below w.heap.size w w2 := hB'.trans (hB3.mono (by omega))
          clear hc2 hf2 hc3 hf3
          go_wp2_with fail
          exact bodyPost_ret (v := .tuple #[.agg #[.int .i64 v1, .int .i64 v2], .int .i64 0]) (by simp [results, Tryd.results47, go_sem, d0, d1]) rfl
            ⟨retP (by rw [HP.out]) (by rw [HP.out]) (by rw [HP.out]), (hB2'.setCell (Nat.le_refl _) _).setCell (Nat.le_refl _) _⟩
        | false =>
          have HP := Lib.hid (PZ_far Hr.out Hn.out hk)
          have HK := Lib.hid hk
          clear hk
          go_enter Tryd.func47, Tryd.ntmps47
          go_wp2_with fail
          refine (read_any s hs _).mono ?_
          rintro e w1 ⟨rfl, hB⟩
          rw [HR.out]
          unfold wordV
          obtain ⟨hc, hf⟩ := bcell hB
          simp at hc hf
          have hz : w.heap.size < w1.heap.size := by have := hB.size; simp at this; omega
          have c0 : w1.cell? ⟨w.heap.size, 0, none⟩ = some (.int .i64 0) := by rw [hc _ _ (by simp)]; simp
          have c1 : w1.cell? ⟨w.heap.size, 1, none⟩ = some (.int .i64 0) := by rw [hc _ _ (by simp)]; simp
          have f0 : ∀ o, w1.frozen? ⟨w.heap.size, o, none⟩ = false := fun o => by rw [hf _ _ (by simp)]; simp
          have hB' : Below w.heap.size w w1 := Below.next ((Below.refl _ _).alloc (Nat.le_refl _) _) hB
          clear hc hf
          go_wp2_with fail
          refine (valid_any _ _ _).mono ?_
          rintro e w2 ⟨rfl, hB2⟩
          rw [HK.out]
          obtain ⟨hc2, hf2⟩ := bcell hB2
          simp at hc2 hf2
          have hz2 := hB2.size
          simp at hz2
          have hz3 : w.heap.size < w2.heap.size := by omega
          have hB3 : Below w1.heap.size w1 w2 := (((Below.refl _ _).alloc (Nat.le_refl _) _).alloc (by simp) _).trans (hB2.mono (by simp; omega))
          obtain ⟨hc3, hf3⟩ := bcell hB3
          have d0 : w2.cell? ⟨w.heap.size, 0, none⟩ = some (.int .i64 0) := by rw [hc3 _ _ hz]; exact c0
          have d1 : w2.cell? ⟨w.heap.size, 1, none⟩ = some (.int .i64 0) := by rw [hc3 _ _ hz]; exact c1
          have d2 : w2.cell? ⟨w1.heap.size + 1, 0, none⟩ = some (.int .i64 v1) := by rw [hc2 _ _ (by omega)]; simp
          have d3 : w2.cell? ⟨w1.heap.size + 1, 1, none⟩ = some (.int .i64 v2) := by rw [hc2 _ _ (by omega)]; simp
          have g0 : ∀ o, w2.frozen? ⟨w.heap.size, o, none⟩ = false := fun o => by rw [hf3 _ _ hz]; exact f0 o
          have hB2' : Below w.heap.size w w2 := hB'.trans (hB3.mono (by omega))
          clear hc2 hf2 hc3 hf3
          go_wp2_with fail
          exact bodyPost_ret (v := .tuple #[.agg #[.int .i64 0, .int .i64 0], .int .i64 3]) (by simp [results, Tryd.results47, go_sem, d0, d1]) rfl
            ⟨retP (by rw [HP.out]) (by rw [HP.out]) (by rw [HP.out]), (hB2'.setCell (Nat.le_refl _) _).setCell (Nat.le_refl _) _⟩
theorem letsN_le (c : Int) : (letsN c).length ≤ 3 := by
  unfold letsN; split
  · simp
  · split <;> simp
/-- What Format writes: the letters and the digits. -/
def fmtL (c r : Int) : List UInt8 := lets c ++ Lib.itoa r
theorem str_add (a : List Int) (b : List UInt8) : strOfNums a ++ (⟨b.toArray⟩ : ByteArray) = ⟨((a.map fun n => UInt8.ofNat n.toNat) ++ b).toArray⟩ := by
  apply ByteArray.ext
  simp [strOfNums]
theorem retS {a b : ByteArray} {c : Int} (h : a = b) : Ending.returned (.tuple #[.string a, .int .i64 c]) = .returned (.tuple #[.string b, .int .i64 c]) := by rw [h]
set_option maxRecDepth 100000 in
set_option maxHeartbeats 1600000 in
theorem format_12 (c : Int) (h1 : 1 ≤ c) (h2 : c ≤ 1024) (w : World) :
    Calls Tryd.prog 49 #[.agg #[.int .i64 c, .int .i64 12]] w fun e w' => e = .returned (.tuple #[.string ⟨(fmtL c 12).toArray⟩, .int .i64 0]) ∧ Below w.heap.size w w' := by
  have HK := Lib.hid (okR_t (c := c) (r := 12) (by omega))
  go_enter Tryd.func49, Tryd.ntmps49
  go_wp2_with fail
  refine (valid_any _ _ _).mono ?_
  rintro e w1 ⟨rfl, hB⟩
  rw [HK.out]
  obtain ⟨hc, hf⟩ := bcell hB
  simp at hc hf
  have c0 : w1.cell? ⟨w.heap.size, 0, none⟩ = some (.int .i64 c) := by rw [hc _ _ (by simp)]; simp
  have c1 : w1.cell? ⟨w.heap.size, 1, none⟩ = some (.int .i64 12) := by rw [hc _ _ (by simp)]; simp
  have hz : w.heap.size < w1.heap.size := by have := hB.size; simp at this; omega
  clear hc hf
  go_wp2_with fail
  refine (letters_yes c h1 h2 _).mono ?_
  rintro e w2 ⟨rfl, hB2⟩
  obtain ⟨hc, hf⟩ := bcell hB2
  have d1 : w2.cell? ⟨w.heap.size, 1, none⟩ = some (.int .i64 12) := by rw [hc _ _ hz]; exact c1
  clear hc hf
  go_wp2_with fail
  refine (Tryd.strconv_Itoa_small 12 (by omega) _).mono ?_
  rintro e w3 ⟨rfl, rfl⟩
  have hadd := fun W => run_string_add_sum (P := Tryd.prog) W (strOfNums (letsN c)) ⟨(Lib.decDigits 12).toArray⟩ (by
    have h1 := letsN_le c
    have h2 : (Lib.decDigits 12).length = 2 := by decide +kernel
    rw [strOfNums_size]; simp [ByteArray.size, h2]; omega)
  go_wp2_with fail
  go_ret2
  refine ⟨retS ?_, (Below.next ((Below.refl _ _).alloc (Nat.le_refl _) _) hB).trans (hB2.mono (by omega))⟩
  rw [str_add]
  rfl
theorem format_no (c r : Int) (h : okR c r = false) (w : World) :
    Calls Tryd.prog 49 #[.agg #[.int .i64 c, .int .i64 r]] w fun e w' => e = .returned (.tuple #[.string ⟨#[]⟩, .int .i64 3]) ∧ Below w.heap.size w w' := by
  have HK := Lib.hid h
  clear h
  go_enter Tryd.func49, Tryd.ntmps49
  go_wp2_with fail
  refine (valid_any _ _ _).mono ?_
  rintro e w1 ⟨rfl, hB⟩
  rw [HK.out]
  go_wp2_with fail
  go_ret2
  exact ⟨rfl, Below.next ((Below.refl _ _).alloc (Nat.le_refl _) _) hB⟩
end Go.Proofs.YtmfcbcgobefjkaaDoor
