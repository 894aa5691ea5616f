/- The walk of the law. -/
import Derived.Test.YtndijajaddkbhaaEvC
import Derived.Test.YtndijajaddkbhaaCameEv
import Derived.Test.YtndijajaddkbhaaClosed
import Derived.Test.YtndijajaddkbhaaRosB
namespace Go.Proofs.Ytndijajaddkbhaa.Re
open Go.RowKit AM
set_option maxRecDepth 100000 in
set_option maxHeartbeats 12800000 in
theorem auditShows_any (u : Int) (a : Option Addr) (n cap : Nat) (L : List EV) (b : Option Addr) (o capb : Nat) (O : List EV) (a' : Option Addr) (m cap' : Nat) (M : List LV) (w : World) (hL : IsEV w a n L) (hO : IsEV w b o O) (hM : IsLV w a' m M) :
    Calls Try.prog 9 #[.int .i64 u, .slice a n cap, .slice b o capb, .slice a' m cap'] w fun e w' => e = .returned (.bool true) ∧ Below w.heap.size w w' := by
  have HL := Lib.hid hL
  have HO := Lib.hid hO
  have HM := Lib.hid hM
  have HLL := Lib.hid hL.1
  have HOL := Lib.hid hO.1
  have HML := Lib.hid hM.1
  clear hL hM hO
  by_cases hl1 : 100 < n
  · go_enter Try.func9, Try.ntmps9
    go_wp2_with fail
    go_ret
    exact ⟨rfl, Below.refl _ _⟩
  have hd1 : decide ((100 : Int) < (n : Int)) = false := by simp; omega
  by_cases hl2 : 100 < o
  · go_enter Try.func9, Try.ntmps9
    go_wp2_with fail
    go_ret
    exact ⟨rfl, Below.refl _ _⟩
  have hd2 : decide ((100 : Int) < (o : Int)) = false := by simp; omega
  by_cases hl3 : 100 < m
  · go_enter Try.func9, Try.ntmps9
    go_wp2_with fail
    go_ret
    exact ⟨rfl, Below.refl _ _⟩
  have hd3 : decide ((100 : Int) < (m : Int)) = false := by simp; omega
  go_enter Try.func9, Try.ntmps9
  go_wp2_with fail
  clear hd1 hd2 hd3
  refine (copyEV_any a n cap L (by omega) _ HL.out).mono ?_
  rintro e w1 ⟨⟨v, rfl, ho⟩, hB1⟩
  obtain ⟨ca, cc, rfl, hi⟩ := ho.isOf cellsEV_len
  rw [HLL.out] at hi ⊢
  have HI1 := Lib.hid hi
  have HB1 := Lib.hid hB1
  clear ho hB1 hi
  go_wp2_with fail
  refine (copyLV_any a' m cap' M (by omega) _ (HM.out.later HB1.out)).mono ?_
  rintro e w2 ⟨⟨v, rfl, ho⟩, hB2⟩
  obtain ⟨da, dc, rfl, hi⟩ := ho.isOf cellsLV_len
  rw [HML.out] at hi ⊢
  have HJ2 := Lib.hid hi
  have HI2 := Lib.hid (HI1.out.later hB2)
  have HB2 := Lib.hid (Below.next HB1.out hB2)
  clear ho hB2 hi HB1 HI1
  go_wp2_with fail
  have hpl : (L.filter (seeEV u)).length ≤ n := by rw [← HLL.out]; exact List.length_filter_le _ _
  have hql : (M.filter (seeLV u)).length ≤ m := by rw [← HML.out]; exact List.length_filter_le _ _
  have HSA := Lib.hid (fun W h => sSeeEV_any u a n cap L (by omega) W h)
  have HSB := Lib.hid (fun W h => sSeeLV_any u a' m cap' M (by omega) W h)
  have HPB := Lib.hid (fun W h => seeLV_any u da m dc M (by omega) W h)
  refine (seeEV_any u ca n cc L (by omega) _ HI2.out).mono ?_
  rintro e w3 ⟨⟨v, rfl, ho⟩, hB3⟩
  generalize L.filter (seeEV u) = X at *
  generalize M.filter (seeLV u) = Y at *
  obtain ⟨xa, xc, rfl, hi⟩ := ho.isOf cellsEV_len
  obtain ⟨nx, hnx⟩ : ∃ q, q = X.length := ⟨_, rfl⟩
  have HNX := Lib.hid hnx
  obtain ⟨ny, hny⟩ : ∃ q, q = Y.length := ⟨_, rfl⟩
  have HNY := Lib.hid hny
  rw [← hnx] at hi ho hpl ⊢
  rw [← hny] at hql
  clear hnx hny
  have HX3 := Lib.hid hi
  have HXO := Lib.hid ho
  have HI3 := Lib.hid (HI2.out.later hB3)
  have HJ3 := Lib.hid (HJ2.out.later hB3)
  have HB3 := Lib.hid (Below.next HB2.out hB3)
  have hz2 := hB3.size
  have HK3 := Lib.hid hB3
  clear ho hB3 hi
  go_wp2_with fail
  refine (HPB.out _ HJ3.out).mono ?_
  rintro e w4 ⟨⟨v, rfl, ho⟩, hB4⟩
  obtain ⟨ya, yc, rfl, hi⟩ := ho.isOf cellsLV_len
  rw [← HNY.out] at hi ho ⊢
  have HY4 := Lib.hid hi
  have HYO := Lib.hid ho
  have HX4 := Lib.hid (HX3.out.later hB4)
  have HXO4 := Lib.hid (HXO.out.later hB4)
  have HI4 := Lib.hid (HI3.out.later hB4)
  have HJ4 := Lib.hid (HJ3.out.later hB4)
  have HB4 := Lib.hid (Below.next HB3.out hB4)
  have HK4 := Lib.hid (Below.next HK3.out hB4)
  have hz3 := hB4.size
  clear ho hB4 hi HI3 HJ3 HX3 HXO HPB
  go_wp2_with fail
  refine (HSA.out _ (HL.out.later HB4.out)).mono ?_
  rintro e w5 ⟨⟨v, rfl, ho⟩, hB5⟩
  obtain ⟨sa, sc, rfl, hi⟩ := ho.isOf cellsEV_len
  rw [← HNX.out] at hi ⊢
  have HS5 := Lib.hid hi
  have HY5 := Lib.hid (HY4.out.later hB5)
  have HYO5 := Lib.hid (HYO.out.later hB5)
  have HX5 := Lib.hid (HX4.out.later hB5)
  have HXO5 := Lib.hid (HXO4.out.later hB5)
  have HI5 := Lib.hid (HI4.out.later hB5)
  have HJ5 := Lib.hid (HJ4.out.later hB5)
  have HB5 := Lib.hid (Below.next HB4.out hB5)
  have HK5 := Lib.hid (Below.next HK4.out hB5)
  clear ho hB5 hi HI4 HJ4 HX4 HXO4 HY4 HYO HSA
  go_wp2_with fail
  refine (eqEV_any xa sa nx xc sc X (by omega) _ HX5.out HS5.out).mono ?_
  rintro e w6 ⟨rfl, hB6⟩
  have HY6 := Lib.hid (HY5.out.later hB6)
  have HYO6 := Lib.hid (HYO5.out.later hB6)
  have HXO6 := Lib.hid (HXO5.out.later hB6)
  have HI6 := Lib.hid (HI5.out.later hB6)
  have HJ6 := Lib.hid (HJ5.out.later hB6)
  have HB6 := Lib.hid (Below.next HB5.out hB6)
  have HK6 := Lib.hid (Below.next HK5.out hB6)
  clear hB6 HI5 HJ5 HX5 HXO5 HY5 HYO5 HS5
  go_wp2_with fail
  refine (HSB.out _ (HM.out.later HB6.out)).mono ?_
  rintro e w7 ⟨⟨v, rfl, ho⟩, hB7⟩
  obtain ⟨ta, tc, rfl, hi⟩ := ho.isOf cellsLV_len
  rw [← HNY.out] at hi ⊢
  have HS7 := Lib.hid hi
  have HY7 := Lib.hid (HY6.out.later hB7)
  have HYO7 := Lib.hid (HYO6.out.later hB7)
  have HXO7 := Lib.hid (HXO6.out.later hB7)
  have HI7 := Lib.hid (HI6.out.later hB7)
  have HJ7 := Lib.hid (HJ6.out.later hB7)
  have HB7 := Lib.hid (Below.next HB6.out hB7)
  have HK7 := Lib.hid (Below.next HK6.out hB7)
  clear ho hB7 hi HI6 HJ6 HXO6 HY6 HYO6 HSB
  go_wp2_with fail
  refine (eqLV_any ya ta ny yc tc Y (by omega) _ HY7.out HS7.out).mono ?_
  rintro e w8 ⟨rfl, hB8⟩
  have HYO8 := Lib.hid (HYO7.out.later hB8)
  have HXO8 := Lib.hid (HXO7.out.later hB8)
  have HI8 := Lib.hid (HI7.out.later hB8)
  have HJ8 := Lib.hid (HJ7.out.later hB8)
  have HB8 := Lib.hid (Below.next HB7.out hB8)
  have HK8 := Lib.hid (Below.next HK7.out hB8)
  clear hB8 HI7 HJ7 HXO7 HY7 HYO7 HS7
  have HG2 := Lib.hid (fun W h1 h2 => sgrows_any a b n o cap capb L O (by omega) (by omega) W h1 h2)
  have HG1 := Lib.hid (fun W h1 h2 => grows_any ca b n o cc capb L O (by omega) (by omega) W h1 h2)
  generalize grB L O = gb at *
  go_wp2_with fail
  refine (HG1.out _ HI8.out (HO.out.later HB8.out)).mono ?_
  rintro e w9 ⟨rfl, hB9⟩
  have HYO9 := Lib.hid (HYO8.out.later hB9)
  have HXO9 := Lib.hid (HXO8.out.later hB9)
  have HI9 := Lib.hid (HI8.out.later hB9)
  have HJ9 := Lib.hid (HJ8.out.later hB9)
  have HB9 := Lib.hid (Below.next HB8.out hB9)
  have HK9 := Lib.hid (Below.next HK8.out hB9)
  clear hB9 HI8 HJ8 HXO8 HYO8 HG1
  go_wp2_with fail
  refine (HG2.out _ (HL.out.later HB9.out) (HO.out.later HB9.out)).mono ?_
  rintro e wa ⟨rfl, hBa⟩
  have HYOa := Lib.hid (HYO9.out.later hBa)
  have HXOa := Lib.hid (HXO9.out.later hBa)
  have HIa := Lib.hid (HI9.out.later hBa)
  have HJa := Lib.hid (HJ9.out.later hBa)
  have HBa := Lib.hid (Below.next HB9.out hBa)
  have HKa := Lib.hid (Below.next HK9.out hBa)
  have hza := hBa.size
  have hzn := HB9.out.size
  clear hBa HI9 HJ9 HXO9 HYO9 HG2
  have hbb : (gb != gb) = false := by simp
  go_wp2_with fail
  clear hbb
  have HZ2 : Hid (w.heap.size ≤ w2.heap.size) := HB2.out.size
  have HCI : Hid (∀ W, Below w2.heap.size wa W → IsEV W ca n L) := fun W hW => HI2.out.later (HKa.out.trans hW)
  have HCJ : Hid (∀ W, Below w2.heap.size wa W → IsLV W da m M) := fun W hW => HJ2.out.later (HKa.out.trans hW)
  have HGX : Hid (0 < nx → ∃ g, xa = some ⟨g, 0, none⟩ ∧ w2.heap.size ≤ g ∧ wa.there g 0 (nx * 9)) := fun h => by
    obtain ⟨g, h1, h2, _, h4⟩ := OwnOf.there HXOa.out (by rw [← HNX.out]; exact h)
    rw [← HNX.out] at h4
    exact ⟨g, h1, h2, h4⟩
  have HGY : Hid (0 < ny → ∃ g, ya = some ⟨g, 0, none⟩ ∧ w2.heap.size ≤ g ∧ wa.there g 0 (ny * 11)) := fun h => by
    obtain ⟨g, h1, h2, _, h4⟩ := OwnOf.there HYOa.out (by rw [← HNY.out]; exact h)
    rw [← HNY.out] at h4
    exact ⟨g, h1, by omega, h4⟩
  clear HIa HJa HXOa HYOa HK3 HK4 HK5 HK6 HK7 HK8 HK9
  go_loopw [13] (fun i wr => ∃ k : Nat, k ≤ nx ∧ i = .int .i64 k ∧ Below w2.heap.size wa wr ∧ (∀ g N, wa.there g 0 N → wr.there g 0 N)) (fun i _ => nx - (intOf i).toNat)
  case atStart => exact ⟨0, Nat.zero_le _, rfl, Below.refl _ _, fun _ _ h => h⟩
  case round =>
    obtain ⟨k, hk, rfl, hB, hT⟩ := hrel
    have HB := Lib.hid hB
    have HT := Lib.hid hT
    clear hB hT
    by_cases hlt : k < nx
    · obtain ⟨g, rfl, hg, hth⟩ := HGX.out (by omega)
      have HTH := Lib.hid (there_mid (n := 9) (HT.out g _ hth) hlt)
      have HNB := Lib.hid (below_setCells HB.out hg [.int .i64 0, .int .i64 0, .int .u8 0, .int .i64 0, .int .i64 0, .int .i64 0, .int .i64 0, .bool false, .int .u64 0] (k * 9))
      have HNT : Hid (∀ g' N, wa.there g' 0 N → (wr.setCells g (k * 9) [.int .i64 0, .int .i64 0, .int .u8 0, .int .i64 0, .int .i64 0, .int .i64 0, .int .i64 0, .bool false, .int .u64 0]).there g' 0 N) := fun g' N h => World.there_setCells (HT.out g' N h) _ _ _
      have HIN : Hid ((Try.prog.info? 84).map (·.size) = some 9) := by unfold Hid; kernel_rfl
      clear hth
      go_upto_region 10 with fail
      refine wp_region_lit ?_
      refine runTo rfl _ rfl (.slice (some ⟨g, 0, none⟩) nx xc) wr (by rfl) ?_
      refine runTo rfl _ rfl (.int .i64 (k : Int)) wr (by rfl) ?_
      refine runTo rfl _ rfl (.agg #[.int .i64 0, .int .i64 0, .int .u8 0, .int .i64 0, .int .i64 0, .int .i64 0, .int .i64 0, .bool false, .int .u64 0]) wr (by first | rfl | (go_simp; done)) ?_
      refine runTo rfl _ rfl (.pointer (some ⟨g, k * 9, none⟩)) wr (by first | (go_simp; done) | (simp [execOp, go_sem]; done)) ?_
      refine wpList_store_mid rfl 84 (.tmp 70) (.tmp 69) rfl g (k * 9) #[.int .i64 0, .int .i64 0, .int .u8 0, .int .i64 0, .int .i64 0, .int .i64 0, .int .i64 0, .bool false, .int .u64 0] rfl rfl HTH.out HIN.out (by kernel_rfl) ?_
      go_wp2_with fail
      go_roundw
      case rel => exact ⟨k + 1, by omega, by go_num, HNB.out, HNT.out⟩
      case measure => simp [intOf]; omega
    · obtain rfl : k = nx := by omega
      generalize wr = wb at *
      go_wp2_with fail
      go_loopw [14] (fun i wr => ∃ k : Nat, k ≤ ny ∧ i = .int .i64 k ∧ Below w2.heap.size wa wr ∧ (∀ g N, wa.there g 0 N → wr.there g 0 N)) (fun i _ => ny - (intOf i).toNat)
      case atStart => exact ⟨0, Nat.zero_le _, rfl, HB.out, HT.out⟩
      case round =>
        obtain ⟨k, hk, rfl, hB, hT⟩ := hrel
        clear HB HT
        have HB := Lib.hid hB
        have HT := Lib.hid hT
        clear hB hT
        by_cases hlt : k < ny
        · obtain ⟨g, rfl, hg, hth⟩ := HGY.out (by omega)
          have HTH := Lib.hid (there_mid (n := 11) (HT.out g _ hth) hlt)
          have HNB := Lib.hid (below_setCells HB.out hg [.int .i64 0, .int .i64 0, .int .i64 0, .int .i64 0, .int .u8 0, .int .i64 0, .int .i64 0, .int .i64 0, .int .i64 0, .int .i64 0, .int .u64 0] (k * 11))
          have HNT : Hid (∀ g' N, wa.there g' 0 N → (wr.setCells g (k * 11) [.int .i64 0, .int .i64 0, .int .i64 0, .int .i64 0, .int .u8 0, .int .i64 0, .int .i64 0, .int .i64 0, .int .i64 0, .int .i64 0, .int .u64 0]).there g' 0 N) := fun g' N h => World.there_setCells (HT.out g' N h) _ _ _
          have HIN : Hid ((Try.prog.info? 88).map (·.size) = some 11) := by unfold Hid; kernel_rfl
          clear hth
          go_upto_region 14 with fail
          refine wp_region_lit ?_
          refine runTo rfl _ rfl (.slice (some ⟨g, 0, none⟩) ny yc) wr (by rfl) ?_
          refine runTo rfl _ rfl (.int .i64 (k : Int)) wr (by rfl) ?_
          refine runTo rfl _ rfl (.agg #[.int .i64 0, .int .i64 0, .int .i64 0, .int .i64 0, .int .u8 0, .int .i64 0, .int .i64 0, .int .i64 0, .int .i64 0, .int .i64 0, .int .u64 0]) wr (by first | rfl | (go_simp; done)) ?_
          refine runTo rfl _ rfl (.pointer (some ⟨g, k * 11, none⟩)) wr (by first | (go_simp; done) | (simp [execOp, go_sem]; done)) ?_
          refine wpList_store_mid rfl 88 (.tmp 80) (.tmp 79) rfl g (k * 11) #[.int .i64 0, .int .i64 0, .int .i64 0, .int .i64 0, .int .u8 0, .int .i64 0, .int .i64 0, .int .i64 0, .int .i64 0, .int .i64 0, .int .u64 0] rfl rfl HTH.out HIN.out (by kernel_rfl) ?_
          go_wp2_with fail
          go_roundw
          case rel => exact ⟨k + 1, by omega, by go_num, HNB.out, HNT.out⟩
          case measure => simp [intOf]; omega
        · obtain rfl : k = ny := by omega
          have HI := Lib.hid (HCI.out _ HB.out)
          have HJ := Lib.hid (HCJ.out _ HB.out)
          have HBF := Lib.hid (HBa.out.trans (Below.mono HB.out HZ2.out))
          generalize wr = wc at *
          go_wp2_with fail
          refine (eqEV_any ca a n cc cap L (by omega) _ HI.out (HL.out.later HBF.out)).mono ?_
          rintro e we ⟨rfl, hBe⟩
          have HJe := Lib.hid (HJ.out.later hBe)
          have HBe := Lib.hid (Below.next HBF.out hBe)
          clear hBe
          go_wp2_with fail
          refine (eqLV_any da a' m dc cap' M (by omega) _ HJe.out (HM.out.later HBe.out)).mono ?_
          rintro e wf ⟨rfl, hBf⟩
          have HBf := Lib.hid (Below.next HBe.out hBf)
          clear hBf
          go_wp2_with fail
          refine (Go.Proofs.Ytndijajaddkbhaa.awake30 _).mono ?_
          rintro e wE ⟨rfl, hBE⟩
          have HBE := Lib.hid (Below.next HBf.out hBE)
          go_wp2_with fail
          go_ret
          exact ⟨rfl, HBE.out⟩
end Go.Proofs.Ytndijajaddkbhaa.Re
