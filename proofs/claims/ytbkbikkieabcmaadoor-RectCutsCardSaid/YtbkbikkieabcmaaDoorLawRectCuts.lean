/- RectCuts: what Minus returns. -/
import Derived.Test.YtbkbikkieabcmaaDoorLawRectMeets
import Derived.Test.YtbkbikkieabcmaaDoorCutM
import Derived.Test.YtbkbikkieabcmaaDoorRectW
set_option linter.unusedVariables false
set_option linter.unusedSimpArgs false
namespace Go.Proofs.YtbkbikkieabcmaaDoor.Re
open Go.RowKit AM
/-- Two ranges and an address lie in blocks u, v, k. -/
def Tri (w W : World) (u v k : Nat) (a1 a2 a3 a4 b1 b2 b3 b4 p q : Int) : Prop :=
  Below w.heap.size w W ∧ Four W u a1 a2 a3 a4 ∧ Four W v b1 b2 b3 b4 ∧ Two' W k p q
theorem Tri.later {w W W' : World} {u v k : Nat} {a1 a2 a3 a4 b1 b2 b3 b4 p q : Int} (h : Tri w W u v k a1 a2 a3 a4 b1 b2 b3 b4 p q) (hB : Below W.heap.size W W') : Tri w W' u v k a1 a2 a3 a4 b1 b2 b3 b4 p q := by
  obtain ⟨h0, h1, h2, h3⟩ := h
  exact ⟨Below.next h0 hB, h1.later hB, h2.later hB, h3.later hB⟩
theorem cuts_ok (a1 a2 a3 a4 b1 b2 b3 b4 : Int) (ha : ckB a1 a2 a3 a4 = true) (hb : ckB b1 b2 b3 b4 = true) : mnE (⟨a1, a2, a3, a4⟩ : R4) (⟨b1, b2, b3, b4⟩ : R4) = 0 ∧ CutOk (⟨a1, a2, a3, a4⟩ : R4) (⟨b1, b2, b3, b4⟩ : R4) (mnL (⟨a1, a2, a3, a4⟩ : R4) (⟨b1, b2, b3, b4⟩ : R4)) := by
  have ha' : R4.ck (⟨a1, a2, a3, a4⟩ : R4) = true := ha
  have hb' : R4.ck (⟨b1, b2, b3, b4⟩ : R4) = true := hb
  exact ⟨by unfold mnE; rw [ha', hb']; rfl, cut_ok ha' hb'⟩
theorem cuts_no (a1 a2 a3 a4 b1 b2 b3 b4 : Int) (h : ckB a1 a2 a3 a4 = false ∨ ckB b1 b2 b3 b4 = false) : mnE (⟨a1, a2, a3, a4⟩ : R4) (⟨b1, b2, b3, b4⟩ : R4) = 3 ∧ (mnL (⟨a1, a2, a3, a4⟩ : R4) (⟨b1, b2, b3, b4⟩ : R4)).length = 0 := by
  have e : (R4.ck (⟨a1, a2, a3, a4⟩ : R4) && R4.ck (⟨b1, b2, b3, b4⟩ : R4)) = false := by
    show (ckB a1 a2 a3 a4 && ckB b1 b2 b3 b4) = false
    rcases h with h | h <;> rw [h] <;> simp
  unfold mnE mnL
  rw [e]
  exact ⟨rfl, rfl⟩
theorem cuts_meet (a1 a2 a3 a4 b1 b2 b3 b4 : Int) (h : mtB a1 a2 a3 a4 b1 b2 b3 b4 = true) : arV (bv (mtB a1 a2 a3 a4 b1 b2 b3 b4) (max a1 b1)) (bv (mtB a1 a2 a3 a4 b1 b2 b3 b4) (max a2 b2)) (bv (mtB a1 a2 a3 a4 b1 b2 b3 b4) (min a3 b3)) (bv (mtB a1 a2 a3 a4 b1 b2 b3 b4) (min a4 b4)) = area4 (meet4 (⟨a1, a2, a3, a4⟩ : R4) (⟨b1, b2, b3, b4⟩ : R4)) ∧ ckE (bv (mtB a1 a2 a3 a4 b1 b2 b3 b4) (max a1 b1)) (bv (mtB a1 a2 a3 a4 b1 b2 b3 b4) (max a2 b2)) (bv (mtB a1 a2 a3 a4 b1 b2 b3 b4) (min a3 b3)) (bv (mtB a1 a2 a3 a4 b1 b2 b3 b4) (min a4 b4)) = 0 := by
  have hc : ckB (max a1 b1) (max a2 b2) (min a3 b3) (min a4 b4) = true := meet4_ck (a := (⟨a1, a2, a3, a4⟩ : R4)) (b := (⟨b1, b2, b3, b4⟩ : R4)) h
  rw [h, bv_t, bv_t, bv_t, bv_t, arV_t hc, ckE_t hc]
  exact ⟨rfl, rfl⟩
theorem set4 (w : World) (g : Nat) (t : TypeId) (x y z u x' y' z' u' : Value) (h : w.heap[g]? = some (.cells #[x, y, z, u] t)) :
    w.grownBy ((((w.setCell ⟨g, 0, none⟩ x').setCell ⟨g, 1, none⟩ y').setCell ⟨g, 2, none⟩ z').setCell ⟨g, 3, none⟩ u') (some g) ∧ ((((w.setCell ⟨g, 0, none⟩ x').setCell ⟨g, 1, none⟩ y').setCell ⟨g, 2, none⟩ z').setCell ⟨g, 3, none⟩ u').heap[g]? = some (.cells #[x', y', z', u'] t) := by
  refine ⟨⟨rfl, rfl, rfl, by simp [World.setCell], fun k hk hne => ?_⟩, ?_⟩
  · have : k ≠ g := fun e => hne (by rw [e])
    rw [Below.heap_setCell _ _ _ _ this, Below.heap_setCell _ _ _ _ this, Below.heap_setCell _ _ _ _ this, Below.heap_setCell _ _ _ _ this]
  · obtain ⟨hl, he⟩ := Array.getElem?_eq_some_iff.1 h
    simp [World.setCell, Array.getElem?_modify, h]
theorem no_meet {x1 x2 x3 x4 y1 y2 y3 y4 : Int} (h : mtB x1 x2 x3 x4 y1 y2 y3 y4 = false) (w : World) :
    Calls Tryd.prog 8 #[.agg #[.int .i64 x1, .int .i64 x2, .int .i64 x3, .int .i64 x4], .agg #[.int .i64 y1, .int .i64 y2, .int .i64 y3, .int .i64 y4]] w fun e w' => e = .returned (.tuple #[.agg #[.int .i64 0, .int .i64 0, .int .i64 0, .int .i64 0], .bool false]) ∧ Below w.heap.size w w' := by
  have := rmeet_any x1 x2 x3 x4 y1 y2 y3 y4 w
  rw [h] at this
  exact this
theorem cuts_cell {w : World} {b off : Nat} {L : List R4} (h : RRow w b off L) {k : Nat} (hk : k < L.length) : w.cell? ⟨b, off + k * 4, none⟩ = some (.int .i64 L[k].c1) ∧ w.cell? ⟨b, off + k * 4 + 1, none⟩ = some (.int .i64 L[k].r1) ∧ w.cell? ⟨b, off + k * 4 + 2, none⟩ = some (.int .i64 L[k].c2) ∧ w.cell? ⟨b, off + k * 4 + 3, none⟩ = some (.int .i64 L[k].r2) := h.2 k hk
set_option maxRecDepth 100000 in
set_option maxHeartbeats 40000000 in
theorem rectCuts_any (a1 a2 a3 a4 b1 b2 b3 b4 p q : Int) (w : World) :
    Calls Tryd.prog 4 #[.agg #[.int .i64 a1, .int .i64 a2, .int .i64 a3, .int .i64 a4], .agg #[.int .i64 b1, .int .i64 b2, .int .i64 b3, .int .i64 b4], .agg #[.int .i64 p, .int .i64 q]] w fun e w' => e = .returned (.bool true) ∧ Below w.heap.size w w' := by
  have HOK := Lib.hid (cuts_ok a1 a2 a3 a4 b1 b2 b3 b4)
  have HNO := Lib.hid (cuts_no a1 a2 a3 a4 b1 b2 b3 b4)
  have HMN := Lib.hid (fun W => minus_any a1 a2 a3 a4 b1 b2 b3 b4 W)
  have HIN := Lib.hid (fun (ha : ckB a1 a2 a3 a4 = true) (hb : ckB b1 b2 b3 b4 = true) p q => in_mn (a := (⟨a1, a2, a3, a4⟩ : R4)) (b := (⟨b1, b2, b3, b4⟩ : R4)) ha hb p q)
  generalize mnE (⟨a1, a2, a3, a4⟩ : R4) (⟨b1, b2, b3, b4⟩ : R4) = E at *
  generalize mnL (⟨a1, a2, a3, a4⟩ : R4) (⟨b1, b2, b3, b4⟩ : R4) = L at *
  go_enter Tryd.func4, Tryd.ntmps4
  go_wp2_with fail
  refine (HMN.out _).mono ?_
  rintro e w1 ⟨⟨v, rfl, ho⟩, hB1⟩
  obtain ⟨ra, rcap, rfl, hi⟩ := ho.isR
  have l1 := below_alloc w (.cells #[.int .i64 a1, .int .i64 a2, .int .i64 a3, .int .i64 a4] 23)
  have l2 := below_alloc (w.alloc (.cells #[.int .i64 a1, .int .i64 a2, .int .i64 a3, .int .i64 a4] 23)) (.cells #[.int .i64 b1, .int .i64 b2, .int .i64 b3, .int .i64 b4] 23)
  have l3 := below_alloc ((w.alloc (.cells #[.int .i64 a1, .int .i64 a2, .int .i64 a3, .int .i64 a4] 23)).alloc (.cells #[.int .i64 b1, .int .i64 b2, .int .i64 b3, .int .i64 b4] 23)) (.cells #[.int .i64 p, .int .i64 q] 25)
  have FA := Lib.hid ((((Four.start w a1 a2 a3 a4 23).later l2).later l3).later hB1)
  have FB := Lib.hid (((Four.start (w.alloc (.cells #[.int .i64 a1, .int .i64 a2, .int .i64 a3, .int .i64 a4] 23)) b1 b2 b3 b4 23).later l3).later hB1)
  have FC := Lib.hid ((Two'.start ((w.alloc (.cells #[.int .i64 a1, .int .i64 a2, .int .i64 a3, .int .i64 a4] 23)).alloc (.cells #[.int .i64 b1, .int .i64 b2, .int .i64 b3, .int .i64 b4] 23)) p q 25).later hB1)
  have B1 := Lib.hid (Below.next (Below.next (Below.next l1 l2) l3) hB1)
  clear l1 l2 l3 hB1
  rw [alloc_size, alloc_size] at FC
  rw [alloc_size] at FB
  have HT1 : Hid (Tri w w1 w.heap.size (w.heap.size + 1) (w.heap.size + 1 + 1) a1 a2 a3 a4 b1 b2 b3 b4 p q) := ⟨B1.out, FA.out, FB.out, FC.out⟩
  have HL1 := Lib.hid hi
  clear FA FB FC B1 hi ho HMN
  obtain ⟨n, hn⟩ : ∃ n, n = L.length := ⟨_, rfl⟩
  have HN := Lib.hid hn
  rw [← hn] at HL1 HNO ⊢
  clear hn
  obtain ⟨_, ⟨_, x1, x2, x3, x4⟩, ⟨_, y1, y2, y3, y4⟩, ⟨_, z1, z2⟩⟩ := HT1.out
  go_wp2_with fail
  refine (rcheck_any a1 a2 a3 a4 _).mono ?_
  rintro e w3 ⟨rfl, hB3⟩
  have HT3 := Lib.hid (HT1.out.later hB3)
  have HL3 := Lib.hid (HL1.out.later hB3)
  clear x1 x2 x3 x4 y1 y2 y3 y4 z1 z2 HT1 HL1 hB3
  cases ha : ckB a1 a2 a3 a4
  · rw [ckE_f ha]
    obtain ⟨rfl, hn0⟩ := HNO.out (.inl ha)
    subst hn0
    clear ha
    go_wp2_with fail
    refine (known _).mono ?_
    rintro e w5 ⟨rfl, hB5⟩
    have HB := Lib.hid (Below.next HT3.out.1 hB5)
    clear hB5
    go_wp2_with fail
    go_ret
    exact ⟨rfl, HB.out⟩
  · rw [ckE_t ha]
    obtain ⟨_, ⟨_, x1, x2, x3, x4⟩, ⟨_, y1, y2, y3, y4⟩, ⟨_, z1, z2⟩⟩ := HT3.out
    have HA := Lib.hid ha
    clear ha
    go_wp2_with fail
    refine (rcheck_any b1 b2 b3 b4 _).mono ?_
    rintro e w4 ⟨rfl, hB4⟩
    have HT4 := Lib.hid (HT3.out.later hB4)
    have HL4 := Lib.hid (HL3.out.later hB4)
    clear x1 x2 x3 x4 y1 y2 y3 y4 z1 z2 HT3 HL3 hB4
    cases hb : ckB b1 b2 b3 b4
    · rw [ckE_f hb]
      obtain ⟨rfl, hn0⟩ := HNO.out (.inr hb)
      subst hn0
      clear hb
      go_wp2_with fail
      refine (known _).mono ?_
      rintro e w5 ⟨rfl, hB5⟩
      have HB := Lib.hid (Below.next HT4.out.1 hB5)
      clear hB5
      go_wp2_with fail
      go_ret
      exact ⟨rfl, HB.out⟩
    · rw [ckE_t hb]
      obtain ⟨rfl, hok⟩ := HOK.out HA.out hb
      have HC := Lib.hid hok
      have HHAS := Lib.hid (HIN.out HA.out hb)
      have hn4 : n ≤ 4 := by rw [HN.out]; exact hok.len
      have hqa := ckB_iff.1 HA.out
      have hqb := ckB_iff.1 hb
      have hra : (1 ≤ a1 ∧ a1 ≤ 1024) ∧ (1 ≤ a2 ∧ a2 ≤ 1024) ∧ (1 ≤ a3 ∧ a3 ≤ 1024) ∧ (1 ≤ a4 ∧ a4 ≤ 1024) := by omega
      have hrb : (1 ≤ b1 ∧ b1 ≤ 1024) ∧ (1 ≤ b2 ∧ b2 ≤ 1024) ∧ (1 ≤ b3 ∧ b3 ≤ 1024) ∧ (1 ≤ b4 ∧ b4 ≤ 1024) := by omega
      have HRA := Lib.hid hra
      have HRB := Lib.hid hrb
      have HB4 := Lib.hid hb
      clear hqa hqb hra hrb hok hb HNO HOK HIN
      have hmx : Tryd.prog.follows .mixedOrders = true := by kernel_rfl
      obtain ⟨_, ⟨_, x1, x2, x3, x4⟩, ⟨_, y1, y2, y3, y4⟩, ⟨_, z1, z2⟩⟩ := HT4.out
      go_wp2_with fail
      refine (rmeet_any a1 a2 a3 a4 b1 b2 b3 b4 _).mono ?_
      rintro e w5 ⟨rfl, hB5⟩
      have HT5 := Lib.hid (HT4.out.later hB5)
      have HL5 := Lib.hid (HL4.out.later hB5)
      clear x1 x2 x3 x4 y1 y2 y3 y4 z1 z2 HT4 HL4 hB5
      obtain ⟨s0, hs0⟩ : ∃ s0, s0 = if mt4 (⟨a1, a2, a3, a4⟩ : R4) (⟨b1, b2, b3, b4⟩ : R4) = true then area4 (meet4 (⟨a1, a2, a3, a4⟩ : R4) (⟨b1, b2, b3, b4⟩ : R4)) else 0 := ⟨_, rfl⟩
      have HSUM : Hid (areas L + s0 = area4 (⟨a1, a2, a3, a4⟩ : R4)) := by unfold Hid; rw [hs0]; exact HC.out.sum
      have HST : Hid (mtB a1 a2 a3 a4 b1 b2 b3 b4 = true → arV (bv (mtB a1 a2 a3 a4 b1 b2 b3 b4) (max a1 b1)) (bv (mtB a1 a2 a3 a4 b1 b2 b3 b4) (max a2 b2)) (bv (mtB a1 a2 a3 a4 b1 b2 b3 b4) (min a3 b3)) (bv (mtB a1 a2 a3 a4 b1 b2 b3 b4) (min a4 b4)) = s0 ∧ ckE (bv (mtB a1 a2 a3 a4 b1 b2 b3 b4) (max a1 b1)) (bv (mtB a1 a2 a3 a4 b1 b2 b3 b4) (max a2 b2)) (bv (mtB a1 a2 a3 a4 b1 b2 b3 b4) (min a3 b3)) (bv (mtB a1 a2 a3 a4 b1 b2 b3 b4) (min a4 b4)) = 0) := fun h => by
        rw [hs0, show mt4 (⟨a1, a2, a3, a4⟩ : R4) (⟨b1, b2, b3, b4⟩ : R4) = true from h, if_pos rfl]; exact cuts_meet a1 a2 a3 a4 b1 b2 b3 b4 h
      have HSF : Hid (mtB a1 a2 a3 a4 b1 b2 b3 b4 = false → s0 = 0) := fun h => by rw [hs0, show mt4 (⟨a1, a2, a3, a4⟩ : R4) (⟨b1, b2, b3, b4⟩ : R4) = false from h, if_neg (by decide)]
      have Z0 : Hid (0 ≤ s0) := by
        unfold Hid; rw [hs0]; split
        · rename_i hm; have := area_pos (meet4_ck hm); omega
        · exact Int.le_refl 0
      clear hs0
      generalize bv (mtB a1 a2 a3 a4 b1 b2 b3 b4) (max a1 b1) = m1 at *
      generalize bv (mtB a1 a2 a3 a4 b1 b2 b3 b4) (max a2 b2) = m2 at *
      generalize bv (mtB a1 a2 a3 a4 b1 b2 b3 b4) (min a3 b3) = m3 at *
      generalize bv (mtB a1 a2 a3 a4 b1 b2 b3 b4) (min a4 b4) = m4 at *
      generalize mtB a1 a2 a3 a4 b1 b2 b3 b4 = mt at *
      have l4 := below_alloc w5 (.cells #[.int .i64 m1, .int .i64 m2, .int .i64 m3, .int .i64 m4] 23)
      have HT6 := Lib.hid (HT5.out.later l4)
      have HL6 := Lib.hid (HL5.out.later l4)
      have HM6 := Lib.hid (Four.start w5 m1 m2 m3 m4 23)
      clear l4 HT5 HL5
      go_upto_if 62 with (fail)
      go_cut [9] (fun z wx => z = .int .i64 s0 ∧ Tri w wx w.heap.size (w.heap.size + 1) (w.heap.size + 1 + 1) a1 a2 a3 a4 b1 b2 b3 b4 p q ∧ IsR wx ra n L)
      case first =>
        cases mt
        · obtain rfl := HSF.out rfl
          go_wp2_with fail
          go_meet
          case rel => exact ⟨rfl, HT6.out, HL6.out⟩
        · obtain ⟨e1, e2⟩ := HST.out rfl
          obtain ⟨_, u1, u2, u3, u4⟩ := HM6.out
          have HAR := Lib.hid (fun W => area_any m1 m2 m3 m4 W)
          rw [e1, e2] at HAR
          clear e1 e2
          go_wp2_with fail
          refine (HAR.out _).mono ?_
          rintro e w7 ⟨rfl, hB7⟩
          have HT7 := Lib.hid (HT6.out.later hB7)
          have HL7 := Lib.hid (HL6.out.later hB7)
          clear hB7 u1 u2 u3 u4
          go_wp2_with fail
          go_meet
          case rel => exact ⟨rfl, HT7.out, HL7.out⟩
      case rest =>
        obtain ⟨rfl, hT, hL⟩ := hcut
        clear HT6 HL6 HM6 HST HSF
        have HT7 := Lib.hid hT
        have HL7 := Lib.hid hL
        clear hT hL
        generalize wc = w7 at *
        have ZS : Hid (areas L + s0 ≤ 1048576) := by unfold Hid; rw [HSUM.out]; exact area_max HA.out
        obtain ⟨_, ⟨_, x1, x2, x3, x4⟩, ⟨_, y1, y2, y3, y4⟩, ⟨_, z1, z2⟩⟩ := HT7.out
        go_wp2_with fail
        clear x1 x2 x3 x4 y1 y2 y3 y4 z1 z2
        go_loopw [9, 14] (fun z i wr => ∃ k : Nat, k ≤ n ∧ i = .int .i64 (k : Int) ∧ z = .int .i64 (s0 + areas (L.take k)) ∧ Hid (Tri w wr w.heap.size (w.heap.size + 1) (w.heap.size + 1 + 1) a1 a2 a3 a4 b1 b2 b3 b4 p q) ∧ Hid (IsR wr ra n L)) (fun _ i _ => n - (intOf i).toNat)
        case atStart => exact ⟨0, Nat.zero_le _, rfl, by simp [areas], HT7.out, HL7.out⟩
        case round =>
          obtain ⟨k, hk, rfl, rfl, HT8, HL8⟩ := hrel
          by_cases hlt : k < n
          · obtain ⟨b, off, rfl, hrow⟩ := HL8.out.2 (by omega)
            have hkL : k < L.length := by rw [← HN.out]; exact hlt
            obtain ⟨c1, c2, c3, c4⟩ := cuts_cell hrow hkL
            have HLT : Hid (b < wr.heap.size) := hrow.1
            have HX1 := Lib.hid (HC.out.ck k hkL)
            have HX2 := Lib.hid (HC.out.ins k hkL)
            have HX3 := Lib.hid (HC.out.no k hkL)
            have HX4 := Lib.hid (fun j hj => HC.out.two k hkL j hj)
            have HX5 := Lib.hid (areas_take L k hkL)
            obtain ⟨z0, z1⟩ := areas_part L (fun r hr => by obtain ⟨i, hi, rfl⟩ := List.mem_iff_getElem.1 hr; exact HC.out.ck i hi) k
            obtain ⟨z2, z3⟩ := areas_part L (fun r hr => by obtain ⟨i, hi, rfl⟩ := List.mem_iff_getElem.1 hr; exact HC.out.ck i hi) (k + 1)
            obtain ⟨⟨k1, k2, k3, k4⟩, hx⟩ : ∃ x, x = L[k] := ⟨_, rfl⟩
            rw [← hx] at c1 c2 c3 c4 HX1 HX2 HX3 HX4 HX5
            dsimp only at c1 c2 c3 c4
            have C1 := Lib.hid c1
            have C2 := Lib.hid c2
            have C3 := Lib.hid c3
            have C4 := Lib.hid c4
            clear hx c1 c2 c3 c4 hrow
            rw [HX5.out] at z2 z3
            have zs : areas L + s0 ≤ 1048576 := ZS.out
            obtain ⟨AR, hAR⟩ : ∃ AR, AR = area4 (⟨k1, k2, k3, k4⟩ : R4) := ⟨_, rfl⟩
            have HAR : Hid (∀ W, Calls Tryd.prog 15 #[.agg #[.int .i64 k1, .int .i64 k2, .int .i64 k3, .int .i64 k4]] W fun e w' => e = .returned (.tuple #[.int .i64 AR, .int .i64 0]) ∧ Below W.heap.size W w') := fun W => by
              have h1 : ckB k1 k2 k3 k4 = true := HX1.out
              have := area_any k1 k2 k3 k4 W
              rw [arV_t h1, ckE_t h1] at this
              rw [hAR]; exact this
            have HINS : Hid (∀ W, Calls Tryd.prog 10 #[.agg #[.int .i64 k1, .int .i64 k2, .int .i64 k3, .int .i64 k4], .agg #[.int .i64 a1, .int .i64 a2, .int .i64 a3, .int .i64 a4]] W fun e w' => e = .returned (.bool true) ∧ Below W.heap.size W w') := fun W => by
              have := rinside_any k1 k2 k3 k4 a1 a2 a3 a4 W
              rw [show insB k1 k2 k3 k4 a1 a2 a3 a4 = true from HX2.out] at this
              exact this
            rw [← hAR] at HX5 z2 z3
            clear hAR
            obtain ⟨SA, hSA⟩ : ∃ SA, SA = areas (L.take k) := ⟨_, rfl⟩
            rw [← hSA] at HX5 z0 z1 z2 z3 ⊢
            clear hSA
            have d1 := C1.out
            have d2 := C2.out
            have d3 := C3.out
            have d4 := C4.out
            have zr : s0 + SA + AR ≤ 1048576 := by omega
            have zl : 0 ≤ s0 + SA + AR := by have := Z0.out; omega
            have ZR := Lib.hid zr
            have ZL := Lib.hid zl
            clear z0 z1 z2 z3 zs zr zl
            go_wp2_with fail
            refine (HAR.out _).mono ?_
            rintro e w8 ⟨rfl, hB8⟩
            clear d1 d2 d3 d4
            have HT9 := Lib.hid (HT8.out.later hB8)
            have HL9 := Lib.hid (HL8.out.later hB8)
            have C1 := Lib.hid ((hB8.cell (p := ⟨b, off + k * 4, none⟩) HLT.out).trans C1.out)
            have C2 := Lib.hid ((hB8.cell (p := ⟨b, off + k * 4 + 1, none⟩) HLT.out).trans C2.out)
            have C3 := Lib.hid ((hB8.cell (p := ⟨b, off + k * 4 + 2, none⟩) HLT.out).trans C3.out)
            have C4 := Lib.hid ((hB8.cell (p := ⟨b, off + k * 4 + 3, none⟩) HLT.out).trans C4.out)
            have HLT : Hid (b < w8.heap.size) := Nat.lt_of_lt_of_le HLT.out hB8.size
            clear hB8 HT8 HL8
            go_wp2_with fail
            refine wp_region_seqi (fun X => Below w8.heap.size w8 X) (fun X X2 hB h => Below.next h hB) (by kernel_rfl) (by kernel_rfl) (by kernel_rfl) (Below.refl _ w8).drew ?_
            simp only [putsL, Act.put, List.setIfInBounds_toArray, List.set_cons_zero, List.set_cons_succ, Nat.zero_add, Nat.reduceAdd]
            repeat (first
              | (refine seqi_call (f := 10) (fun v _ => v = .bool true) (stable_val _) (fun vs => #[.agg #[.int .i64 k1, .int .i64 k2, .int .i64 k3, .int .i64 k4], .agg #[.int .i64 a1, .int .i64 a2, .int .i64 a3, .int .i64 a4]]) (fun vs W hD => ?_) (fun vs W hS hD => ?_) (fun vs W hS hD => ?_) ?_
                 · (first | rfl | ((try simp [DepA, isB, rsAt] at hD); simp [Region.wanted, yielded, hD]; done))
                 · (clear hS; (try simp [DepA, isB, rsAt] at hD); (try simp only [hD]); go_simp; done)
                 · (exact (HINS.out W).mono fun e W' ⟨he, hB⟩ => ⟨⟨_, he, rfl⟩, hB⟩)
                 simp only [List.nil_append, List.cons_append])
              | (refine seqi_run ?_ (fun vs W hD => ?_) (fun vs W hS hD => ?_) ?_
                 rotate_left
                 · (first | rfl | ((try simp [DepA, isB, rsAt] at hD); simp [Region.wanted, yielded, hD]; done))
                 (have hP := HT9.out.later hS; obtain ⟨_, ⟨_, x1, x2, x3, x4⟩, ⟨_, y1, y2, y3, y4⟩, ⟨_, z1, z2⟩⟩ := hP; have d1 := (hS.cell (p := ⟨b, off + k * 4, none⟩) HLT.out).trans C1.out; have d2 := (hS.cell (p := ⟨b, off + k * 4 + 1, none⟩) HLT.out).trans C2.out; have d3 := (hS.cell (p := ⟨b, off + k * 4 + 2, none⟩) HLT.out).trans C3.out; have d4 := (hS.cell (p := ⟨b, off + k * 4 + 3, none⟩) HLT.out).trans C4.out; (try simp [DepA, isB, rsAt] at hD); (try simp only [hD]); (first | (go_simp; done) | (go_simp; rfl)))
                 simp only [List.nil_append, List.cons_append]))
            refine seqi_end fun vs W hS hv => ?_
            simp only [AllF, Nat.zero_add, Nat.reduceAdd] at hv
            obtain ⟨h0, h1, h2, h3, h4, h5, h6, h7, h8, h9, h10, _⟩ := hv
            simp only [h0, h1, h2, h3, h4, h5, h6, h7, h8, h9, h10]
            clear h0 h1 h2 h3 h4 h5 h6 h7 h8 h9 h10
            have HT10 := Lib.hid (HT9.out.later hS)
            have HL10 := Lib.hid (HL9.out.later hS)
            have C1 := Lib.hid ((hS.cell (p := ⟨b, off + k * 4, none⟩) HLT.out).trans C1.out)
            have C2 := Lib.hid ((hS.cell (p := ⟨b, off + k * 4 + 1, none⟩) HLT.out).trans C2.out)
            have C3 := Lib.hid ((hS.cell (p := ⟨b, off + k * 4 + 2, none⟩) HLT.out).trans C3.out)
            have C4 := Lib.hid ((hS.cell (p := ⟨b, off + k * 4 + 3, none⟩) HLT.out).trans C4.out)
            have HLT : Hid (b < W.heap.size) := Nat.lt_of_lt_of_le HLT.out hS.size
            clear hS HT9 HL9
            generalize W = w10 at *
            go_wp2_with fail
            refine wp_region_seqo (fun X => Below w10.heap.size w10 X) w10.heap.size
              [fbC (.slice (some ⟨b, off, none⟩) n rcap), fbC (.int .i64 (k : Int)), fbC (.pointer (some ⟨b, off + k * 4, none⟩)), fbC (.agg #[.int .i64 k1, .int .i64 k2, .int .i64 k3, .int .i64 k4]), fbC (.agg #[.int .i64 b1, .int .i64 b2, .int .i64 b3, .int .i64 b4]), fbC (.tuple #[.agg #[.int .i64 0, .int .i64 0, .int .i64 0, .int .i64 0], .bool false]), fbC (.tuple #[.agg #[.int .i64 0, .int .i64 0, .int .i64 0, .int .i64 0], .bool false]), fbC (.agg #[.int .i64 0, .int .i64 0, .int .i64 0, .int .i64 0]), fbC (.bool false), fbN (fun g => .pointer (some ⟨g, 0, none⟩)) w10.heap.size (.cells #[.int .i64 0, .int .i64 0, .int .i64 0, .int .i64 0] 23), fbS 9 w10.heap.size (.cells #[.int .i64 0, .int .i64 0, .int .i64 0, .int .i64 0] 23), fbC (.bool false)]
              [[], [], [], [], [], [], [], [], [], [], [9], []] [[], [], [], [], [], [], [], [], [], [], [9], []] [[], [], [0, 1], [2], [], [3, 4], [5], [6], [6], [], [9, 7], [8]]
              (fun a b h k => k.trans h) (by kernel_rfl) (by kernel_rfl) (by kernel_rfl) ⟨rfl, rfl, rfl, Nat.le_refl _, fun _ _ => rfl⟩ (Nat.le_refl _) ?_ (by kernel_rfl)
              ⟨good_C _ _, good_C _ _, good_C _ _, good_C _ _, good_C _ _, good_C _ _, good_C _ _, good_C _ _, good_C _ _, good_N _ (fun _ => rfl), good_S (by decide), good_C _ _, trivial⟩ (Nat.le_refl 12)
            simp only [putsL, Act.put, List.setIfInBounds_toArray, List.set_cons_zero, List.set_cons_succ, Nat.zero_add, Nat.reduceAdd]
            refine seqo_cons (obo_run rfl (fun vs W hD => rfl) (fun vs W hS hD => ?_)) ?_
            · (go_simp; done)
            refine seqo_cons (obo_run rfl (fun vs W hD => rfl) (fun vs W hS hD => ?_)) ?_
            · (go_simp; done)
            refine seqo_cons (obo_run rfl (fun vs W hD => rfl) (fun vs W hS hD => ?_)) ?_
            · (clear hS; have q0 : vs 0 = _ := hD.1; have q1 : vs 1 = _ := hD.2.1; go_simp; done)
            refine seqo_cons (obo_run rfl (fun vs W hD => rfl) (fun vs W hS hD => ?_)) ?_
            · (have hP := HT10.out.later hS; obtain ⟨_, ⟨_, x1, x2, x3, x4⟩, ⟨_, y1, y2, y3, y4⟩, ⟨_, z1, z2⟩⟩ := hP; have d1 := (hS.cell (p := ⟨b, off + k * 4, none⟩) HLT.out).trans C1.out; have d2 := (hS.cell (p := ⟨b, off + k * 4 + 1, none⟩) HLT.out).trans C2.out; have d3 := (hS.cell (p := ⟨b, off + k * 4 + 2, none⟩) HLT.out).trans C3.out; have d4 := (hS.cell (p := ⟨b, off + k * 4 + 3, none⟩) HLT.out).trans C4.out; have q0 : vs 2 = _ := hD.1; go_simp; done)
            refine seqo_cons (obo_run rfl (fun vs W hD => rfl) (fun vs W hS hD => ?_)) ?_
            · (have hP := HT10.out.later hS; obtain ⟨_, ⟨_, x1, x2, x3, x4⟩, ⟨_, y1, y2, y3, y4⟩, ⟨_, z1, z2⟩⟩ := hP; have d1 := (hS.cell (p := ⟨b, off + k * 4, none⟩) HLT.out).trans C1.out; have d2 := (hS.cell (p := ⟨b, off + k * 4 + 1, none⟩) HLT.out).trans C2.out; have d3 := (hS.cell (p := ⟨b, off + k * 4 + 2, none⟩) HLT.out).trans C3.out; have d4 := (hS.cell (p := ⟨b, off + k * 4 + 3, none⟩) HLT.out).trans C4.out; go_simp; done)
            refine seqo_cons (obo_call rfl (f := 8) (fun vs => #[.agg #[.int .i64 k1, .int .i64 k2, .int .i64 k3, .int .i64 k4], .agg #[.int .i64 b1, .int .i64 b2, .int .i64 b3, .int .i64 b4]]) (fun vs W hD => rfl) (fun vs W hS hD => ?_) (fun vs W hS hZ hD => ?_)) ?_
            · (clear hS; have q0 : vs 3 = _ := hD.1; have q1 : vs 4 = _ := hD.2.1; go_simp; done)
            · exact no_meet HX3.out W
            refine seqo_cons (obo_run rfl (fun vs W hD => rfl) (fun vs W hS hD => ?_)) ?_
            · (have q0 : vs 5 = _ := hD.1; go_simp; done)
            refine seqo_cons (obo_run rfl (fun vs W hD => rfl) (fun vs W hS hD => ?_)) ?_
            · (have q0 : vs 6 = _ := hD.1; go_simp; done)
            refine seqo_cons (obo_run rfl (fun vs W hD => rfl) (fun vs W hS hD => ?_)) ?_
            · (have q0 : vs 6 = _ := hD.1; go_simp; done)
            refine seqo_cons (obo_new rfl (fun _ => rfl) (fun vs W hD => rfl) (fun vs W hS hD => ?_)) ?_
            · go_simp; done
            refine seqo_cons (obo_store (j := 9) rfl rfl (by decide) (fun vs W hD => rfl) (fun vs W hS hZ hD => ?_)) ?_
            · obtain ⟨⟨g, h10, hg, hh⟩, h8, _⟩ := hD
              have h10 : vs 9 = _ := h10
              have h8 : vs 7 = .agg #[.int .i64 0, .int .i64 0, .int .i64 0, .int .i64 0] := h8
              have hs := set4 W g 23 _ _ _ _ (.int .i64 0) (.int .i64 0) (.int .i64 0) (.int .i64 0) hh
              refine ⟨g, _, h10, hg, (Array.getElem?_eq_some_iff.1 hh).1, ?_, hs.1, hs.2⟩
              have c0 : W.cell? ⟨g, 0, none⟩ = some (.int .i64 0) := by simp [World.cell?, hh]
              have c1 : W.cell? ⟨g, 1, none⟩ = some (.int .i64 0) := by simp [World.cell?, hh]
              have c2 : W.cell? ⟨g, 2, none⟩ = some (.int .i64 0) := by simp [World.cell?, hh]
              have c3 : W.cell? ⟨g, 3, none⟩ = some (.int .i64 0) := by simp [World.cell?, hh]
              have f0 : W.frozen? ⟨g, 0, none⟩ = false := by simp [World.frozen?, hh]
              have f1 : W.frozen? ⟨g, 1, none⟩ = false := by simp [World.frozen?, hh]
              have f2 : W.frozen? ⟨g, 2, none⟩ = false := by simp [World.frozen?, hh]
              have f3 : W.frozen? ⟨g, 3, none⟩ = false := by simp [World.frozen?, hh]
              clear hs hh hS
              go_simp; done
            refine seqo_cons (obo_run rfl (fun vs W hD => rfl) (fun vs W hS hD => ?_)) ?_
            · (have q0 : vs 8 = _ := hD.1; go_simp; done)
            refine seqo_end fun vs W hS hZ hv => ?_
            obtain ⟨h0, h1, h2, h3, h4, h5, h6, h7, h8, _, _, h11, _⟩ := hv
            have h0 : vs 0 = _ := h0 rfl
            have h1 : vs 1 = _ := h1 rfl
            have h2 : vs 2 = _ := h2 rfl
            have h3 : vs 3 = _ := h3 rfl
            have h4 : vs 4 = _ := h4 rfl
            have h5 : vs 5 = _ := h5 rfl
            have h6 : vs 6 = _ := h6 rfl
            have h7 : vs 7 = _ := h7 rfl
            have h8 : vs 8 = _ := h8 rfl
            have h11 : vs 11 = _ := h11 rfl
            simp only [h0, h1, h2, h3, h4, h5, h6, h7, h8, h11]
            clear h0 h1 h2 h3 h4 h5 h6 h7 h8 h11
            generalize vs 9 = t9_ at *
            generalize vs 10 = t10_ at *
            have HT11 := Lib.hid (HT10.out.later hS)
            have HL11 := Lib.hid (HL10.out.later hS)
            have C1 := Lib.hid ((hS.cell (p := ⟨b, off + k * 4, none⟩) HLT.out).trans C1.out)
            have C2 := Lib.hid ((hS.cell (p := ⟨b, off + k * 4 + 1, none⟩) HLT.out).trans C2.out)
            have C3 := Lib.hid ((hS.cell (p := ⟨b, off + k * 4 + 2, none⟩) HLT.out).trans C3.out)
            have C4 := Lib.hid ((hS.cell (p := ⟨b, off + k * 4 + 3, none⟩) HLT.out).trans C4.out)
            have HLT : Hid (b < W.heap.size) := Nat.lt_of_lt_of_le HLT.out hS.size
            clear hS hZ HT10 HL10
            generalize W = w11 at *
            go_wp2_with fail
            go_loopw [19] (fun i wr => ∃ j : Nat, j ≤ k ∧ i = .int .i64 (j : Int) ∧ Hid (Below w11.heap.size w11 wr)) (fun i _ => k - (intOf i).toNat)
            case atStart => exact ⟨0, Nat.zero_le _, rfl, Below.refl _ _⟩
            case round =>
              obtain ⟨j, hj, rfl, HB⟩ := hrel
              by_cases hlj : j < k
              · obtain ⟨b2, off2, hbo, hrow⟩ := HL11.out.2 (by omega)
                cases hbo
                have hjn : j < n := by omega
                have hjL : j < L.length := by rw [← HN.out]; exact hjn
                obtain ⟨c1, c2, c3, c4⟩ := cuts_cell hrow hjL
                have HXJ := Lib.hid (HX4.out j hlj)
                obtain ⟨⟨j1, j2, j3, j4⟩, hx⟩ : ∃ x, x = L[j] := ⟨_, rfl⟩
                rw [← hx] at c1 c2 c3 c4 HXJ
                dsimp only at c1 c2 c3 c4
                have G1 := Lib.hid ((HB.out.cell (p := ⟨b, off + j * 4, none⟩) HLT.out).trans c1)
                have G2 := Lib.hid ((HB.out.cell (p := ⟨b, off + j * 4 + 1, none⟩) HLT.out).trans c2)
                have G3 := Lib.hid ((HB.out.cell (p := ⟨b, off + j * 4 + 2, none⟩) HLT.out).trans c3)
                have G4 := Lib.hid ((HB.out.cell (p := ⟨b, off + j * 4 + 3, none⟩) HLT.out).trans c4)
                clear hx c1 c2 c3 c4 hrow
                have HT12 := Lib.hid (HT11.out.later HB.out)
                have C1 := Lib.hid ((HB.out.cell (p := ⟨b, off + k * 4, none⟩) HLT.out).trans C1.out)
                have C2 := Lib.hid ((HB.out.cell (p := ⟨b, off + k * 4 + 1, none⟩) HLT.out).trans C2.out)
                have C3 := Lib.hid ((HB.out.cell (p := ⟨b, off + k * 4 + 2, none⟩) HLT.out).trans C3.out)
                have C4 := Lib.hid ((HB.out.cell (p := ⟨b, off + k * 4 + 3, none⟩) HLT.out).trans C4.out)
                have HLT : Hid (b < wr.heap.size) := Nat.lt_of_lt_of_le HLT.out HB.out.size
                generalize wr = w12 at *
                go_wp2_with fail
                refine wp_region_seqo (fun X => Below w12.heap.size w12 X) w12.heap.size
                  [fbC (.slice (some ⟨b, off, none⟩) n rcap), fbC (.int .i64 (k : Int)), fbC (.pointer (some ⟨b, off + k * 4, none⟩)), fbC (.agg #[.int .i64 k1, .int .i64 k2, .int .i64 k3, .int .i64 k4]), fbC (.slice (some ⟨b, off, none⟩) n rcap), fbC (.int .i64 (j : Int)), fbC (.pointer (some ⟨b, off + j * 4, none⟩)), fbC (.agg #[.int .i64 j1, .int .i64 j2, .int .i64 j3, .int .i64 j4]), fbC (.tuple #[.agg #[.int .i64 0, .int .i64 0, .int .i64 0, .int .i64 0], .bool false]), fbC (.tuple #[.agg #[.int .i64 0, .int .i64 0, .int .i64 0, .int .i64 0], .bool false]), fbC (.agg #[.int .i64 0, .int .i64 0, .int .i64 0, .int .i64 0]), fbC (.bool false), fbN (fun g => .pointer (some ⟨g, 0, none⟩)) w12.heap.size (.cells #[.int .i64 0, .int .i64 0, .int .i64 0, .int .i64 0] 23), fbS 12 w12.heap.size (.cells #[.int .i64 0, .int .i64 0, .int .i64 0, .int .i64 0] 23), fbC (.bool false)]
                  [[], [], [], [], [], [], [], [], [], [], [], [], [], [12], []] [[], [], [], [], [], [], [], [], [], [], [], [], [], [12], []] [[], [], [0, 1], [2], [], [], [4, 5], [6], [3, 7], [8], [9], [9], [], [12, 10], [11]]
                  (fun a b h k => k.trans h) (by kernel_rfl) (by kernel_rfl) (by kernel_rfl) ⟨rfl, rfl, rfl, Nat.le_refl _, fun _ _ => rfl⟩ (Nat.le_refl _) ?_ (by kernel_rfl)
                  ⟨good_C _ _, good_C _ _, good_C _ _, good_C _ _, good_C _ _, good_C _ _, good_C _ _, good_C _ _, good_C _ _, good_C _ _, good_C _ _, good_C _ _, good_N _ (fun _ => rfl), good_S (by decide), good_C _ _, trivial⟩ (Nat.le_refl 15)
                simp only [putsL, Act.put, List.setIfInBounds_toArray, List.set_cons_zero, List.set_cons_succ, Nat.zero_add, Nat.reduceAdd]
                refine seqo_cons (obo_run rfl (fun vs W hD => rfl) (fun vs W hS hD => ?_)) ?_
                · (go_simp; done)
                refine seqo_cons (obo_run rfl (fun vs W hD => rfl) (fun vs W hS hD => ?_)) ?_
                · (go_simp; done)
                refine seqo_cons (obo_run rfl (fun vs W hD => rfl) (fun vs W hS hD => ?_)) ?_
                · (clear hS; have q0 : vs 0 = _ := hD.1; have q1 : vs 1 = _ := hD.2.1; go_simp; done)
                refine seqo_cons (obo_run rfl (fun vs W hD => rfl) (fun vs W hS hD => ?_)) ?_
                · (have hP := HT12.out.later hS; obtain ⟨_, ⟨_, x1, x2, x3, x4⟩, ⟨_, y1, y2, y3, y4⟩, ⟨_, z1, z2⟩⟩ := hP; have d1 := (hS.cell (p := ⟨b, off + k * 4, none⟩) HLT.out).trans C1.out; have d2 := (hS.cell (p := ⟨b, off + k * 4 + 1, none⟩) HLT.out).trans C2.out; have d3 := (hS.cell (p := ⟨b, off + k * 4 + 2, none⟩) HLT.out).trans C3.out; have d4 := (hS.cell (p := ⟨b, off + k * 4 + 3, none⟩) HLT.out).trans C4.out; have g1 := (hS.cell (p := ⟨b, off + j * 4, none⟩) HLT.out).trans G1.out; have g2 := (hS.cell (p := ⟨b, off + j * 4 + 1, none⟩) HLT.out).trans G2.out; have g3 := (hS.cell (p := ⟨b, off + j * 4 + 2, none⟩) HLT.out).trans G3.out; have g4 := (hS.cell (p := ⟨b, off + j * 4 + 3, none⟩) HLT.out).trans G4.out; have q0 : vs 2 = _ := hD.1; go_simp; done)
                refine seqo_cons (obo_run rfl (fun vs W hD => rfl) (fun vs W hS hD => ?_)) ?_
                · (go_simp; done)
                refine seqo_cons (obo_run rfl (fun vs W hD => rfl) (fun vs W hS hD => ?_)) ?_
                · (go_simp; done)
                refine seqo_cons (obo_run rfl (fun vs W hD => rfl) (fun vs W hS hD => ?_)) ?_
                · (clear hS; have q0 : vs 4 = _ := hD.1; have q1 : vs 5 = _ := hD.2.1; go_simp; done)
                refine seqo_cons (obo_run rfl (fun vs W hD => rfl) (fun vs W hS hD => ?_)) ?_
                · (have hP := HT12.out.later hS; obtain ⟨_, ⟨_, x1, x2, x3, x4⟩, ⟨_, y1, y2, y3, y4⟩, ⟨_, z1, z2⟩⟩ := hP; have d1 := (hS.cell (p := ⟨b, off + k * 4, none⟩) HLT.out).trans C1.out; have d2 := (hS.cell (p := ⟨b, off + k * 4 + 1, none⟩) HLT.out).trans C2.out; have d3 := (hS.cell (p := ⟨b, off + k * 4 + 2, none⟩) HLT.out).trans C3.out; have d4 := (hS.cell (p := ⟨b, off + k * 4 + 3, none⟩) HLT.out).trans C4.out; have g1 := (hS.cell (p := ⟨b, off + j * 4, none⟩) HLT.out).trans G1.out; have g2 := (hS.cell (p := ⟨b, off + j * 4 + 1, none⟩) HLT.out).trans G2.out; have g3 := (hS.cell (p := ⟨b, off + j * 4 + 2, none⟩) HLT.out).trans G3.out; have g4 := (hS.cell (p := ⟨b, off + j * 4 + 3, none⟩) HLT.out).trans G4.out; have q0 : vs 6 = _ := hD.1; go_simp; done)
                refine seqo_cons (obo_call rfl (f := 8) (fun vs => #[.agg #[.int .i64 k1, .int .i64 k2, .int .i64 k3, .int .i64 k4], .agg #[.int .i64 j1, .int .i64 j2, .int .i64 j3, .int .i64 j4]]) (fun vs W hD => rfl) (fun vs W hS hD => ?_) (fun vs W hS hZ hD => ?_)) ?_
                · (clear hS; have q0 : vs 3 = _ := hD.1; have q1 : vs 7 = _ := hD.2.1; go_simp; done)
                · exact no_meet HXJ.out W
                refine seqo_cons (obo_run rfl (fun vs W hD => rfl) (fun vs W hS hD => ?_)) ?_
                · (have q0 : vs 8 = _ := hD.1; go_simp; done)
                refine seqo_cons (obo_run rfl (fun vs W hD => rfl) (fun vs W hS hD => ?_)) ?_
                · (have q0 : vs 9 = _ := hD.1; go_simp; done)
                refine seqo_cons (obo_run rfl (fun vs W hD => rfl) (fun vs W hS hD => ?_)) ?_
                · (have q0 : vs 9 = _ := hD.1; go_simp; done)
                refine seqo_cons (obo_new rfl (fun _ => rfl) (fun vs W hD => rfl) (fun vs W hS hD => ?_)) ?_
                · go_simp; done
                refine seqo_cons (obo_store (j := 12) rfl rfl (by decide) (fun vs W hD => rfl) (fun vs W hS hZ hD => ?_)) ?_
                · obtain ⟨⟨g, h10, hg, hh⟩, h8, _⟩ := hD
                  have h10 : vs 12 = _ := h10
                  have h8 : vs 10 = .agg #[.int .i64 0, .int .i64 0, .int .i64 0, .int .i64 0] := h8
                  have hs := set4 W g 23 _ _ _ _ (.int .i64 0) (.int .i64 0) (.int .i64 0) (.int .i64 0) hh
                  refine ⟨g, _, h10, hg, (Array.getElem?_eq_some_iff.1 hh).1, ?_, hs.1, hs.2⟩
                  have c0 : W.cell? ⟨g, 0, none⟩ = some (.int .i64 0) := by simp [World.cell?, hh]
                  have c1 : W.cell? ⟨g, 1, none⟩ = some (.int .i64 0) := by simp [World.cell?, hh]
                  have c2 : W.cell? ⟨g, 2, none⟩ = some (.int .i64 0) := by simp [World.cell?, hh]
                  have c3 : W.cell? ⟨g, 3, none⟩ = some (.int .i64 0) := by simp [World.cell?, hh]
                  have f0 : W.frozen? ⟨g, 0, none⟩ = false := by simp [World.frozen?, hh]
                  have f1 : W.frozen? ⟨g, 1, none⟩ = false := by simp [World.frozen?, hh]
                  have f2 : W.frozen? ⟨g, 2, none⟩ = false := by simp [World.frozen?, hh]
                  have f3 : W.frozen? ⟨g, 3, none⟩ = false := by simp [World.frozen?, hh]
                  clear hs hh hS
                  go_simp; done
                refine seqo_cons (obo_run rfl (fun vs W hD => rfl) (fun vs W hS hD => ?_)) ?_
                · (have q0 : vs 11 = _ := hD.1; go_simp; done)
                refine seqo_end fun vs W hS hZ hv => ?_
                obtain ⟨h0, h1, h2, h3, h4, h5, h6, h7, h8, h9, h10, h11, _, _, h14, _⟩ := hv
                have h0 : vs 0 = _ := h0 rfl
                have h1 : vs 1 = _ := h1 rfl
                have h2 : vs 2 = _ := h2 rfl
                have h3 : vs 3 = _ := h3 rfl
                have h4 : vs 4 = _ := h4 rfl
                have h5 : vs 5 = _ := h5 rfl
                have h6 : vs 6 = _ := h6 rfl
                have h7 : vs 7 = _ := h7 rfl
                have h8 : vs 8 = _ := h8 rfl
                have h9 : vs 9 = _ := h9 rfl
                have h10 : vs 10 = _ := h10 rfl
                have h11 : vs 11 = _ := h11 rfl
                have h14 : vs 14 = _ := h14 rfl
                simp only [h0, h1, h2, h3, h4, h5, h6, h7, h8, h9, h10, h11, h14]
                clear h0 h1 h2 h3 h4 h5 h6 h7 h8 h9 h10 h11 h14
                generalize vs 12 = t12_ at *
                generalize vs 13 = t13_ at *
                have HB2 := Lib.hid (Below.next HB.out hS)
                clear hS hZ HT12
                go_wp2_with fail
                go_roundw
                case rel => exact ⟨j + 1, by omega, by go_num, HB2.out⟩
                case measure => simp [intOf]; omega
              · have zr := ZR.out
                have zl := ZL.out
                have HTE := Lib.hid (HT11.out.later HB.out)
                have HLE := Lib.hid (HL11.out.later HB.out)
                go_wp2_with fail
                go_roundw
                case rel => exact ⟨k + 1, by omega, by go_num, by rw [HX5.out]; go_num, HTE.out, HLE.out⟩
                case measure => simp [intOf]; omega
          · have htk : L.take k = L := List.take_of_length_le (by rw [← HN.out]; omega)
            rw [htk]
            clear htk
            obtain ⟨AA, hAA⟩ : ∃ AA, AA = area4 (⟨a1, a2, a3, a4⟩ : R4) := ⟨_, rfl⟩
            have hs : s0 + areas L = AA := by rw [hAA, ← HSUM.out]; omega
            have HARA : Hid (∀ W, Calls Tryd.prog 15 #[.agg #[.int .i64 a1, .int .i64 a2, .int .i64 a3, .int .i64 a4]] W fun e w' => e = .returned (.tuple #[.int .i64 AA, .int .i64 0]) ∧ Below W.heap.size W w') := fun W => by
              have := area_any a1 a2 a3 a4 W
              rw [arV_t HA.out, ckE_t HA.out] at this
              rw [hAA]; exact this
            rw [hs]
            clear hs hAA
            generalize k = k0 at *
            obtain ⟨_, ⟨_, x1, x2, x3, x4⟩, ⟨_, y1, y2, y3, y4⟩, ⟨_, z1, z2⟩⟩ := HT8.out
            go_wp2_with fail
            refine (HARA.out _).mono ?_
            rintro e w8 ⟨rfl, hB8⟩
            have HT9 := Lib.hid (HT8.out.later hB8)
            have HL9 := Lib.hid (HL8.out.later hB8)
            clear x1 x2 x3 x4 y1 y2 y3 y4 z1 z2 hB8 HT8 HL8 hlt hk
            go_wp2_with fail
            refine wp_region_seqo (fun X => Below w8.heap.size w8 X) w8.heap.size
              [fbC (.agg #[.int .i64 a1, .int .i64 a2, .int .i64 a3, .int .i64 a4]), fbX 25 c2L 2 w8.heap.size 16, fbC (.agg #[.int .i64 b1, .int .i64 b2, .int .i64 b3, .int .i64 b4]), fbX 25 c2L 2 w8.heap.size 16, fbX 25 c2L 2 w8.heap.size 32, fbC (.agg #[.int .i64 p, .int .i64 q]),
                fbN (fun g => .slice (some ⟨g, 0, none⟩) 1 1) w8.heap.size (.cells #[.int .i64 p, .int .i64 q] 25), fbX 25 c2L 2 w8.heap.size 33, fbX 25 c2L 2 w8.heap.size 33]
              [[], [], [], [], [1], [], [], [4], [7]] [[], [], [], [], [], [], [], [], []] [[], [0], [], [2], [1, 3], [], [5], [4, 6], [7]]
              (fun a b h k => k.trans h) (by kernel_rfl) (by kernel_rfl) (by kernel_rfl) ⟨rfl, rfl, rfl, Nat.le_refl _, fun _ _ => rfl⟩ (Nat.le_refl _) ?_ (by kernel_rfl)
              ⟨good_C _ _, good_X _, good_C _ _, good_X _, good_X _, good_C _ _, good_N _ (fun _ => rfl), good_X _, good_X _, trivial⟩ (Nat.le_refl 9)
            simp only [putsL, Act.put, List.setIfInBounds_toArray, List.set_cons_zero, List.set_cons_succ, Nat.zero_add, Nat.reduceAdd]
            refine seqo_cons (obo_run rfl (fun vs W hD => rfl) (fun vs W hS hD => ?_)) ?_
            · obtain ⟨_, ⟨_, x1, x2, x3, x4⟩, ⟨_, y1, y2, y3, y4⟩, ⟨_, z1, z2⟩⟩ := HT9.out.later hS
              go_simp; done
            refine seqo_cons (obo_listx rfl (f := 12) (fun vs => #[.agg #[.int .i64 a1, .int .i64 a2, .int .i64 a3, .int .i64 a4]]) (fun vs W hD => rfl) (fun vs W hS hD => ?_) (fun vs W hS hZ hD => ?_)) ?_
            · have h1 : vs 0 = _ := hD.1
              go_simp; done
            · exact corners_x a1 a2 a3 a4 HRA.out W
            refine seqo_cons (obo_run rfl (fun vs W hD => rfl) (fun vs W hS hD => ?_)) ?_
            · obtain ⟨_, ⟨_, x1, x2, x3, x4⟩, ⟨_, y1, y2, y3, y4⟩, ⟨_, z1, z2⟩⟩ := HT9.out.later hS
              go_simp; done
            refine seqo_cons (obo_listx rfl (f := 12) (fun vs => #[.agg #[.int .i64 b1, .int .i64 b2, .int .i64 b3, .int .i64 b4]]) (fun vs W hD => rfl) (fun vs W hS hD => ?_) (fun vs W hS hZ hD => ?_)) ?_
            · have h1 : vs 2 = _ := hD.1
              go_simp; done
            · exact corners_x b1 b2 b3 b4 HRB.out W
            refine seqo_cons (obo_appx (k := 16) (m := 16) (j := 1) rfl rfl (by decide) (fun vs W hD => rfl) (.tmp 140) (.tmp 142) 32 rfl Tryd.underlying32 _ 16 infoRef zeroRef (by decide) (by decide) c2L_len c2L_one (by decide) (fun vs W hS hZ hD => ?_)) ?_
            · obtain ⟨h1, ⟨N, hN, h3⟩, _⟩ := hD
              obtain ⟨a2, cap2, he, hi⟩ := OwnOf.isOf c2L_len h3
              rw [hN] at he hi
              exact ⟨rfl, h1, a2, cap2, N, he, hi⟩
            refine seqo_cons (obo_run rfl (fun vs W hD => rfl) (fun vs W hS hD => ?_)) ?_
            · obtain ⟨_, ⟨_, x1, x2, x3, x4⟩, ⟨_, y1, y2, y3, y4⟩, ⟨_, z1, z2⟩⟩ := HT9.out.later hS
              go_simp; done
            refine seqo_cons (obo_new rfl (fun _ => rfl) (fun vs W hD => rfl) (fun vs W hS hD => ?_)) ?_
            · have h1 : vs 5 = _ := hD.1
              go_simp; done
            refine seqo_cons (obo_appx (k := 32) (m := 1) (j := 4) rfl rfl (by decide) (fun vs W hD => rfl) (.tmp 143) (.tmp 145) 32 rfl Tryd.underlying32 _ 16 infoRef zeroRef (by decide) (by decide) c2L_len c2L_one (by decide) (fun vs W hS hZ hD => ?_)) ?_
            · obtain ⟨h1, ⟨g, h4, hg, hh⟩, _⟩ := hD
              exact ⟨rfl, h1, some ⟨g, 0, none⟩, 1, [(p, q)], h4, isOf_heap hh rfl⟩
            refine seqo_cons (obo_movex (j := 7) rfl rfl (by decide) (fun vs W hD => rfl) (fun vs W hS hD => ?_)) ?_
            · obtain ⟨h1, _⟩ := hD
              refine ⟨?_, h1⟩
              go_simp; done
            refine seqo_end fun vs W hS hZ hv => ?_
            obtain ⟨h0, _, h2, _, _, h5, h6, _, h8, _⟩ := hv
            have h0 : vs 0 = _ := h0 rfl
            have h2 : vs 2 = _ := h2 rfl
            have h5 : vs 5 = _ := h5 rfl
            obtain ⟨M, hM, hO⟩ := h8 rfl
            obtain ⟨sa, scap, he, hi⟩ := OwnOf.isOf c2L_len hO
            rw [hM] at he hi
            have HI := Lib.hid hi
            have HTW := Lib.hid (HT9.out.later hS)
            have HLW := Lib.hid (HL9.out.later hS)
            have HM := Lib.hid hM
            simp only [h0, h2, h5, he]
            clear h0 h2 h5 h6 hO hi hS hM he
            generalize vs 1 = t1 at *
            generalize vs 3 = t3 at *
            generalize vs 4 = t4 at *
            generalize vs 6 = t6 at *
            generalize vs 7 = t7 at *
            clear HT9 HL9 hZ
            go_wp2_with fail
            go_loopw [24] (fun i wr => ∃ k : Nat, k ≤ 33 ∧ i = .int .i64 (k : Int) ∧ Hid (Tri w wr w.heap.size (w.heap.size + 1) (w.heap.size + 1 + 1) a1 a2 a3 a4 b1 b2 b3 b4 p q) ∧ Hid (IsOf c2L 2 wr sa 33 M) ∧ Hid (IsR wr ra n L)) (fun i _ => 33 - (intOf i).toNat)
            case atStart => exact ⟨0, by omega, rfl, HTW.out, HI.out, HLW.out⟩
            case round =>
              obtain ⟨k, hk, rfl, HP, HI2, HLR⟩ := hrel
              by_cases hlt : k < 33
              · obtain ⟨b, off, rfl, hrow⟩ := HI2.out.2 (by omega)
                have hkM : k < M.length := by rw [HM.out]; exact hlt
                have c0 : wr.cell? ⟨b, off + k * 2, none⟩ = some (.int .i64 M[k].1) := by have := hrow.2 k hkM 0 _ rfl; rwa [Nat.add_zero] at this
                have c1 : wr.cell? ⟨b, off + k * 2 + 1, none⟩ = some (.int .i64 M[k].2) := hrow.2 k hkM 1 _ rfl
                have HLT : Hid (b < wr.heap.size) := hrow.1
                clear hrow
                obtain ⟨⟨sp, sq⟩, hspot⟩ : ∃ z, z = M[k] := ⟨_, rfl⟩
                rw [← hspot] at c0 c1
                dsimp only at c0 c1
                have C0 := Lib.hid c0
                have C1 := Lib.hid c1
                clear hspot c0 c1
                have HHS : Hid (inL L sp sq = (rhB a1 a2 a3 a4 sp sq && !rhB b1 b2 b3 b4 sp sq)) := HHAS.out sp sq
                have HR1 := Lib.hid (fun W => rhas_any a1 a2 a3 a4 sp sq W)
                have HR2 := Lib.hid (fun W => rhas_any b1 b2 b3 b4 sp sq W)
                have HRI := Lib.hid (fun W h => in_any sp sq ra n rcap L (by omega) W h)
                rw [HHS.out] at HRI
                clear HHS
                generalize rhB a1 a2 a3 a4 sp sq = r1 at *
                generalize rhB b1 b2 b3 b4 sp sq = r2 at *
                go_wp2_with fail
                cases r1
                · clear HR2
                  simp only [Bool.false_and] at HRI
                  refine wp_region_seqi (fun X => Below wr.heap.size wr X) (fun X X2 hB h => Below.next h hB) (by kernel_rfl) (by kernel_rfl) (by kernel_rfl) (Below.refl _ wr).drew ?_
                  simp only [putsL, Act.put, List.setIfInBounds_toArray, List.set_cons_zero, List.set_cons_succ, Nat.zero_add, Nat.reduceAdd]
                  repeat (first
                    | (refine seqi_not (fun vs W hD => ?_) ?_
                       · ((try simp [DepA, isB, rsAt] at hD); simp [Region.wanted, yielded, hD]; done)
                       simp only [List.nil_append, List.cons_append])
                    | (refine seqi_call (f := 16) (fun v _ => v = .bool false) (stable_val _) (fun vs => #[.agg #[.int .i64 sp, .int .i64 sq], .slice ra n rcap]) (fun vs W hD => ?_) (fun vs W hS hD => ?_) (fun vs W hS hD => ?_) ?_
                       · (first | rfl | ((try simp [DepA, isB, rsAt] at hD); simp [Region.wanted, yielded, hD]; done))
                       · (clear hS; (try simp [DepA, isB, rsAt] at hD); (try simp only [hD]); go_simp; done)
                       · (exact (HRI.out W (HLR.out.later hS)).mono fun e W' ⟨he, hB⟩ => ⟨⟨_, he, rfl⟩, hB⟩)
                       simp only [List.nil_append, List.cons_append])
                    | (refine seqi_call (f := 13) (fun v _ => v = .bool false) (stable_val _) (fun vs => #[.agg #[.int .i64 a1, .int .i64 a2, .int .i64 a3, .int .i64 a4], .agg #[.int .i64 sp, .int .i64 sq]]) (fun vs W hD => ?_) (fun vs W hS hD => ?_) (fun vs W hS hD => ?_) ?_
                       · (first | rfl | ((try simp [DepA, isB, rsAt] at hD); simp [Region.wanted, yielded, hD]; done))
                       · (clear hS; (try simp [DepA, isB, rsAt] at hD); (try simp only [hD]); go_simp; done)
                       · (exact (HR1.out W).mono fun e W' ⟨he, hB⟩ => ⟨⟨_, he, rfl⟩, hB⟩)
                       simp only [List.nil_append, List.cons_append])
                    | (refine seqi_run ?_ (fun vs W hD => ?_) (fun vs W hS hD => ?_) ?_
                       rotate_left
                       · (first | rfl | ((try simp [DepA, isB, rsAt] at hD); simp [Region.wanted, yielded, hD]; done))
                       (have hP := HP.out.later hS; obtain ⟨_, ⟨_, x1, x2, x3, x4⟩, ⟨_, y1, y2, y3, y4⟩, ⟨_, z1, z2⟩⟩ := hP; have d0 := (hS.cell (p := ⟨b, off + k * 2, none⟩) HLT.out).trans C0.out; have d1 := (hS.cell (p := ⟨b, off + k * 2 + 1, none⟩) HLT.out).trans C1.out; (try simp [DepA, isB, rsAt] at hD); (try simp only [hD]); (first | (go_simp; done) | (go_simp; rfl)))
                       simp only [List.nil_append, List.cons_append]))
                  refine seqi_end fun vs W hS hv => ?_
                  simp only [AllF, Nat.zero_add, Nat.reduceAdd] at hv
                  obtain ⟨h0, h1, h2, h3, h4, h5, h6, h7, h8, h9, h10, h11, h12, h13, h14, h15, h16, h17, h18, h19, h20, h21, _⟩ := hv
                  simp only [h0, h1, h2, h3, h4, h5, h6, h7, h8, h9, h10, h11, h12, h13, h14, h15, h16, h17, h18, h19, h20, h21]
                  clear h0 h1 h2 h3 h4 h5 h6 h7 h8 h9 h10 h11 h12 h13 h14 h15 h16 h17 h18 h19 h20 h21
                  have HPW := Lib.hid (HP.out.later hS)
                  have HIW := Lib.hid (HI2.out.later hS)
                  have HLW2 := Lib.hid (HLR.out.later hS)
                  clear hS
                  go_wp2_with fail
                  go_roundw
                  case rel => exact ⟨k + 1, by omega, by go_num, HPW.out, HIW.out, HLW2.out⟩
                  case measure => simp [intOf]; omega
                · cases r2
                  · simp only [Bool.not_false, Bool.and_self] at HRI
                    refine wp_region_seqi (fun X => Below wr.heap.size wr X) (fun X X2 hB h => Below.next h hB) (by kernel_rfl) (by kernel_rfl) (by kernel_rfl) (Below.refl _ wr).drew ?_
                    simp only [putsL, Act.put, List.setIfInBounds_toArray, List.set_cons_zero, List.set_cons_succ, Nat.zero_add, Nat.reduceAdd]
                    repeat (first
                      | (refine seqi_not (fun vs W hD => ?_) ?_
                         · ((try simp [DepA, isB, rsAt] at hD); simp [Region.wanted, yielded, hD]; done)
                         simp only [List.nil_append, List.cons_append])
                      | (refine seqi_call (f := 16) (fun v _ => v = .bool true) (stable_val _) (fun vs => #[.agg #[.int .i64 sp, .int .i64 sq], .slice ra n rcap]) (fun vs W hD => ?_) (fun vs W hS hD => ?_) (fun vs W hS hD => ?_) ?_
                         · (first | rfl | ((try simp [DepA, isB, rsAt] at hD); simp [Region.wanted, yielded, hD]; done))
                         · (clear hS; (try simp [DepA, isB, rsAt] at hD); (try simp only [hD]); go_simp; done)
                         · (exact (HRI.out W (HLR.out.later hS)).mono fun e W' ⟨he, hB⟩ => ⟨⟨_, he, rfl⟩, hB⟩)
                         simp only [List.nil_append, List.cons_append])
                      | (refine seqi_call (f := 13) (fun v _ => v = .bool true) (stable_val _) (fun vs => #[.agg #[.int .i64 a1, .int .i64 a2, .int .i64 a3, .int .i64 a4], .agg #[.int .i64 sp, .int .i64 sq]]) (fun vs W hD => ?_) (fun vs W hS hD => ?_) (fun vs W hS hD => ?_) ?_
                         · (first | rfl | ((try simp [DepA, isB, rsAt] at hD); simp [Region.wanted, yielded, hD]; done))
                         · (clear hS; (try simp [DepA, isB, rsAt] at hD); (try simp only [hD]); go_simp; done)
                         · (exact (HR1.out W).mono fun e W' ⟨he, hB⟩ => ⟨⟨_, he, rfl⟩, hB⟩)
                         simp only [List.nil_append, List.cons_append])
                      | (refine seqi_call (f := 13) (fun v _ => v = .bool false) (stable_val _) (fun vs => #[.agg #[.int .i64 b1, .int .i64 b2, .int .i64 b3, .int .i64 b4], .agg #[.int .i64 sp, .int .i64 sq]]) (fun vs W hD => ?_) (fun vs W hS hD => ?_) (fun vs W hS hD => ?_) ?_
                         · (first | rfl | ((try simp [DepA, isB, rsAt] at hD); simp [Region.wanted, yielded, hD]; done))
                         · (clear hS; (try simp [DepA, isB, rsAt] at hD); (try simp only [hD]); go_simp; done)
                         · (exact (HR2.out W).mono fun e W' ⟨he, hB⟩ => ⟨⟨_, he, rfl⟩, hB⟩)
                         simp only [List.nil_append, List.cons_append])
                      | (refine seqi_run ?_ (fun vs W hD => ?_) (fun vs W hS hD => ?_) ?_
                         rotate_left
                         · (first | rfl | ((try simp [DepA, isB, rsAt] at hD); simp [Region.wanted, yielded, hD]; done))
                         (have hP := HP.out.later hS; obtain ⟨_, ⟨_, x1, x2, x3, x4⟩, ⟨_, y1, y2, y3, y4⟩, ⟨_, z1, z2⟩⟩ := hP; have d0 := (hS.cell (p := ⟨b, off + k * 2, none⟩) HLT.out).trans C0.out; have d1 := (hS.cell (p := ⟨b, off + k * 2 + 1, none⟩) HLT.out).trans C1.out; (try simp [DepA, isB, rsAt] at hD); (try simp only [hD]); (first | (go_simp; done) | (go_simp; rfl)))
                         simp only [List.nil_append, List.cons_append]))
                    refine seqi_end fun vs W hS hv => ?_
                    simp only [AllF, Nat.zero_add, Nat.reduceAdd] at hv
                    obtain ⟨h0, h1, h2, h3, h4, h5, h6, h7, h8, h9, h10, h11, h12, h13, h14, h15, h16, h17, h18, h19, h20, h21, _⟩ := hv
                    simp only [h0, h1, h2, h3, h4, h5, h6, h7, h8, h9, h10, h11, h12, h13, h14, h15, h16, h17, h18, h19, h20, h21]
                    clear h0 h1 h2 h3 h4 h5 h6 h7 h8 h9 h10 h11 h12 h13 h14 h15 h16 h17 h18 h19 h20 h21
                    have HPW := Lib.hid (HP.out.later hS)
                    have HIW := Lib.hid (HI2.out.later hS)
                    have HLW2 := Lib.hid (HLR.out.later hS)
                    clear hS
                    go_wp2_with fail
                    go_roundw
                    case rel => exact ⟨k + 1, by omega, by go_num, HPW.out, HIW.out, HLW2.out⟩
                    case measure => simp [intOf]; omega
                  · simp only [Bool.not_true, Bool.and_false] at HRI
                    refine wp_region_seqi (fun X => Below wr.heap.size wr X) (fun X X2 hB h => Below.next h hB) (by kernel_rfl) (by kernel_rfl) (by kernel_rfl) (Below.refl _ wr).drew ?_
                    simp only [putsL, Act.put, List.setIfInBounds_toArray, List.set_cons_zero, List.set_cons_succ, Nat.zero_add, Nat.reduceAdd]
                    repeat (first
                      | (refine seqi_not (fun vs W hD => ?_) ?_
                         · ((try simp [DepA, isB, rsAt] at hD); simp [Region.wanted, yielded, hD]; done)
                         simp only [List.nil_append, List.cons_append])
                      | (refine seqi_call (f := 16) (fun v _ => v = .bool false) (stable_val _) (fun vs => #[.agg #[.int .i64 sp, .int .i64 sq], .slice ra n rcap]) (fun vs W hD => ?_) (fun vs W hS hD => ?_) (fun vs W hS hD => ?_) ?_
                         · (first | rfl | ((try simp [DepA, isB, rsAt] at hD); simp [Region.wanted, yielded, hD]; done))
                         · (clear hS; (try simp [DepA, isB, rsAt] at hD); (try simp only [hD]); go_simp; done)
                         · (exact (HRI.out W (HLR.out.later hS)).mono fun e W' ⟨he, hB⟩ => ⟨⟨_, he, rfl⟩, hB⟩)
                         simp only [List.nil_append, List.cons_append])
                      | (refine seqi_call (f := 13) (fun v _ => v = .bool true) (stable_val _) (fun vs => #[.agg #[.int .i64 a1, .int .i64 a2, .int .i64 a3, .int .i64 a4], .agg #[.int .i64 sp, .int .i64 sq]]) (fun vs W hD => ?_) (fun vs W hS hD => ?_) (fun vs W hS hD => ?_) ?_
                         · (first | rfl | ((try simp [DepA, isB, rsAt] at hD); simp [Region.wanted, yielded, hD]; done))
                         · (clear hS; (try simp [DepA, isB, rsAt] at hD); (try simp only [hD]); go_simp; done)
                         · (exact (HR1.out W).mono fun e W' ⟨he, hB⟩ => ⟨⟨_, he, rfl⟩, hB⟩)
                         simp only [List.nil_append, List.cons_append])
                      | (refine seqi_call (f := 13) (fun v _ => v = .bool true) (stable_val _) (fun vs => #[.agg #[.int .i64 b1, .int .i64 b2, .int .i64 b3, .int .i64 b4], .agg #[.int .i64 sp, .int .i64 sq]]) (fun vs W hD => ?_) (fun vs W hS hD => ?_) (fun vs W hS hD => ?_) ?_
                         · (first | rfl | ((try simp [DepA, isB, rsAt] at hD); simp [Region.wanted, yielded, hD]; done))
                         · (clear hS; (try simp [DepA, isB, rsAt] at hD); (try simp only [hD]); go_simp; done)
                         · (exact (HR2.out W).mono fun e W' ⟨he, hB⟩ => ⟨⟨_, he, rfl⟩, hB⟩)
                         simp only [List.nil_append, List.cons_append])
                      | (refine seqi_run ?_ (fun vs W hD => ?_) (fun vs W hS hD => ?_) ?_
                         rotate_left
                         · (first | rfl | ((try simp [DepA, isB, rsAt] at hD); simp [Region.wanted, yielded, hD]; done))
                         (have hP := HP.out.later hS; obtain ⟨_, ⟨_, x1, x2, x3, x4⟩, ⟨_, y1, y2, y3, y4⟩, ⟨_, z1, z2⟩⟩ := hP; have d0 := (hS.cell (p := ⟨b, off + k * 2, none⟩) HLT.out).trans C0.out; have d1 := (hS.cell (p := ⟨b, off + k * 2 + 1, none⟩) HLT.out).trans C1.out; (try simp [DepA, isB, rsAt] at hD); (try simp only [hD]); (first | (go_simp; done) | (go_simp; rfl)))
                         simp only [List.nil_append, List.cons_append]))
                    refine seqi_end fun vs W hS hv => ?_
                    simp only [AllF, Nat.zero_add, Nat.reduceAdd] at hv
                    obtain ⟨h0, h1, h2, h3, h4, h5, h6, h7, h8, h9, h10, h11, h12, h13, h14, h15, h16, h17, h18, h19, h20, h21, _⟩ := hv
                    simp only [h0, h1, h2, h3, h4, h5, h6, h7, h8, h9, h10, h11, h12, h13, h14, h15, h16, h17, h18, h19, h20, h21]
                    clear h0 h1 h2 h3 h4 h5 h6 h7 h8 h9 h10 h11 h12 h13 h14 h15 h16 h17 h18 h19 h20 h21
                    have HPW := Lib.hid (HP.out.later hS)
                    have HIW := Lib.hid (HI2.out.later hS)
                    have HLW2 := Lib.hid (HLR.out.later hS)
                    clear hS
                    go_wp2_with fail
                    go_roundw
                    case rel => exact ⟨k + 1, by omega, by go_num, HPW.out, HIW.out, HLW2.out⟩
                    case measure => simp [intOf]; omega
              · have hk33 : k = 33 := by omega
                generalize k = k1 at *
                go_wp2_with fail
                refine (known _).mono ?_
                rintro e w6 ⟨rfl, hB6⟩
                have HB := Lib.hid (Below.next HP.out.1 hB6)
                clear hB6
                go_wp2_with fail
                go_ret
                exact ⟨rfl, HB.out⟩
end Go.Proofs.YtbkbikkieabcmaaDoor.Re
