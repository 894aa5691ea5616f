/- The walk of the law. -/
import Derived.Test.YtelnffamkkkpaaaAclD
import Derived.Test.YtelnffamkkkpaaaCame
namespace Go.Proofs.Ytelnffamkkkpaaa.Re
open Go.RowKit AM
theorem RowOf.two {w : World} {b off : Nat} {L : List (Int × Int)} (h : RowOf cells2 2 w b off L) (k : Nat) (hk : k < L.length) : w.cell? ⟨b, off + k * 2, none⟩ = some (.int .i64 L[k].1) ∧ w.cell? ⟨b, off + k * 2 + 1, none⟩ = some (.int .i64 L[k].2) :=
  ⟨h.2 k hk 0 _ rfl, h.2 k hk 1 _ rfl⟩
/-- Rights in a block of their own. -/
def Box3 (w : World) (p : Nat) (x y z : Int) : Prop := p < w.heap.size ∧ w.cell? ⟨p, 0, none⟩ = some (.int .u64 x) ∧ w.cell? ⟨p, 1, none⟩ = some (.int .u64 y) ∧ w.cell? ⟨p, 2, none⟩ = some (.int .u64 z)
theorem Box3.later {w w' : World} {p : Nat} {x y z : Int} (h : Box3 w p x y z) (hB : Below w.heap.size w w') : Box3 w' p x y z := by
  obtain ⟨h0, h1, h2, h3⟩ := h
  have hc := (bcell hB).1
  exact ⟨Nat.lt_of_lt_of_le h0 hB.size, by rw [hc _ _ h0]; exact h1, by rw [hc _ _ h0]; exact h2, by rw [hc _ _ h0]; exact h3⟩
theorem Box3.start (w : World) (x y z : Int) (t : TypeId) : Box3 (w.alloc (.cells #[.int .u64 x, .int .u64 y, .int .u64 z] t)) w.heap.size x y z := ⟨by simp, by simp, by simp, by simp⟩
set_option maxRecDepth 100000 in
set_option maxHeartbeats 6400000 in
theorem aclMatches_law (n : Int) (a : Option Addr) (len cap : Nat) (L : List RV) (a' : Option Addr) (len' cap' : Nat) (M : List (Int × Int)) (w : World) (hL : IsL w a len L) (hM : IsOf cells2 2 w a' len' M) :
    Calls Try.prog 4 #[.int .i64 n, .slice a len cap, .slice a' len' cap'] w fun e w' => e = .returned (.bool true) ∧ Below w.heap.size w w' := by
  have HL := Lib.hid hL
  have HM := Lib.hid hM
  have HLL := Lib.hid hL.1
  clear hL hM
  by_cases h : 70 < len
  · go_enter Try.func4, Try.ntmps4
    go_wp2_with fail
    go_ret
    exact ⟨rfl, Below.refl _ _⟩
  by_cases h' : 40 < len'
  · go_enter Try.func4, Try.ntmps4
    go_wp2_with fail
    go_ret
    exact ⟨rfl, Below.refl _ _⟩
  have hd1 : decide ((70 : Int) < (len : Int)) = false := by simp; omega
  have hd2 : decide ((40 : Int) < (len' : Int)) = false := by simp; omega
  go_enter Try.func4, Try.ntmps4
  go_wp2_with fail
  refine (copyrules_any a len cap L (by omega) _ HL.out).mono ?_
  rintro e w1 ⟨⟨v, rfl, ho⟩, hB1⟩
  obtain ⟨ia, icap, rfl, hi⟩ := ho.isOf cells7_len
  rw [HLL.out] at hi ⊢
  have HB1 := Lib.hid hB1
  have HI1 := Lib.hid hi
  clear ho hi hB1
  go_wp2_with fail
  refine (acheck_any n ia len icap L (by omega) _ HI1.out).mono ?_
  rintro e w2 ⟨rfl, hB2⟩
  have HB2 := Lib.hid (Below.next HB1.out hB2)
  have HI2 := Lib.hid (HI1.out.later hB2)
  clear hB2 HB1 HI1
  unfold ckV
  go_wp2_with fail
  refine (scheck_any n a len cap L (by omega) _ (HL.out.later HB2.out)).mono ?_
  rintro e w3 ⟨rfl, hB3⟩
  have HB3 := Lib.hid (Below.next HB2.out hB3)
  have HI3 := Lib.hid (HI2.out.later hB3)
  clear hB3 HB2 HI2
  unfold ckV
  generalize (rck n L).1 = ck1 at *
  generalize (rck n L).2 = ck2 at *
  go_wp2_with fail
  go_loopw [12] (fun i wr => ∃ k : Nat, k ≤ len' ∧ i = .int .i64 k ∧ Below w.heap.size w wr ∧ IsL wr ia len L) (fun i _ => len' - (intOf i).toNat)
  case atStart => exact ⟨0, Nat.zero_le _, rfl, HB3.out, HI3.out⟩
  case round =>
    obtain ⟨k, hk, rfl, hB, hI⟩ := hrel
    have HB := Lib.hid hB
    have HI := Lib.hid hI
    clear hB hI HB3 HI3
    by_cases hlt : k < len'
    · obtain ⟨b, off, rfl, hr⟩ := HM.out.2 (by omega)
      have hkM : k < M.length := by rw [HM.out.1]; exact hlt
      have HR := Lib.hid hr
      have HTW : ∀ W, Below w.heap.size w W → W.cell? ⟨b, off + k * 2, none⟩ = some (.int .i64 M[k].1) ∧ W.cell? ⟨b, off + k * 2 + 1, none⟩ = some (.int .i64 M[k].2) := fun W hW => RowOf.two (hr.later hW) k hkM
      have HT := Lib.hid HTW
      clear HTW hr
      generalize M[k] = m at *
      obtain ⟨p, q⟩ := m
      dsimp only at *
      obtain ⟨c1, c2⟩ := HT.out _ HB.out
      go_wp2_with fail
      refine (awhich_any p q ia len icap L (by omega) _ HI.out).mono ?_
      rintro e w4 ⟨rfl, hB4⟩
      have HB4 := Lib.hid (Below.next HB.out hB4)
      have HI4 := Lib.hid (HI.out.later hB4)
      clear hB4 HB HI c1 c2
      obtain ⟨c1, c2⟩ := HT.out _ HB4.out
      go_wp2_with fail
      refine (swhich_any p q a len cap L (by omega) _ (HL.out.later HB4.out)).mono ?_
      rintro e w5 ⟨rfl, hB5⟩
      have HB5 := Lib.hid (Below.next HB4.out hB5)
      have HI5 := Lib.hid (HI4.out.later hB5)
      clear hB5 HB4 HI4 c1 c2
      obtain ⟨c1, c2⟩ := HT.out _ HB5.out
      go_wp2_with fail
      refine (aat_any p q ia len icap L (by omega) _ HI5.out).mono ?_
      rintro e w6 ⟨rfl, hB6⟩
      have HB6 := Lib.hid (Below.next HB5.out hB6)
      have HI6 := Lib.hid (HI5.out.later hB6)
      clear hB6 HB5 HI5 c1 c2
      obtain ⟨c1, c2⟩ := HT.out _ HB6.out
      unfold rightsV
      have hb6 := (HR.out.later HB6.out).1
      have HX := Lib.hid (Box3.start w6 ((atR p q L).rd.toNat : Int) ((atR p q L).wr.toNat : Int) ((atR p q L).ow.toNat : Int) 47)
      have l7 := below_alloc w6 (.cells #[.int .u64 ((atR p q L).rd.toNat : Int), .int .u64 ((atR p q L).wr.toNat : Int), .int .u64 ((atR p q L).ow.toNat : Int)] 47)
      have HB7 := Lib.hid (Below.next HB6.out l7)
      have HI7 := Lib.hid (HI6.out.later l7)
      clear l7
      go_wp2_with fail
      refine (sat_any p q a len cap L (by omega) _ (HL.out.later HB7.out)).mono ?_
      rintro e w8 ⟨rfl, hB8⟩
      have HB8 := Lib.hid (Below.next HB7.out hB8)
      have HI8 := Lib.hid (HI7.out.later hB8)
      obtain ⟨hx0, hx1, hx2, hx3⟩ := HX.out.later hB8
      clear hB8 HB7 HI7 HX HB6 HI6 c1 c2 hb6
      unfold rightsV
      generalize ((atR p q L).rd.toNat : Int) = x5 at *
      generalize ((atR p q L).wr.toNat : Int) = x6 at *
      generalize ((atR p q L).ow.toNat : Int) = x7 at *
      go_wp2_with fail
      go_roundw
      case rel => exact ⟨k + 1, by omega, by go_num, HB8.out.alloc HB8.out.size _, HI8.out.later (below_alloc _ _)⟩
      case measure => simp [intOf]; omega
    · go_wp2_with fail
      refine (eqrules_any ia a len icap cap L (by omega) _ HI.out (HL.out.later HB.out)).mono ?_
      rintro e w4 ⟨rfl, hB4⟩
      have HB4 := Lib.hid (Below.next HB.out hB4)
      clear hB4 HB
      go_wp2_with fail
      refine (example_any _).mono ?_
      rintro e w5 ⟨rfl, hB5⟩
      have HB5 := Lib.hid (Below.next HB4.out hB5)
      clear hB5 HB4
      go_wp2_with fail
      go_ret
      exact ⟨rfl, HB5.out⟩
end Go.Proofs.Ytelnffamkkkpaaa.Re
