/- RectMeets: an address is in Meet exactly if it is in both ranges. -/
import Derived.Test.YtbkbikkieabcmaaDoorRectCorn
import Derived.Test.YtbkbikkieabcmaaDoorRectC
import Derived.Test.YtbkbikkieabcmaaDoorSeqX
import Derived.Test.YtbkbikkieabcmaaDoorSeqI
import Derived.Test.YtbkbikkieabcmaaDoorClosed
import Derived.Deep.CutRange
import Derived.Deep.DeepCutAuto
namespace Go.Proofs.YtbkbikkieabcmaaDoor.Re
open Go.RowKit AM
set_option linter.unusedVariables false
set_option linter.unusedSimpArgs false
/-- Two ranges and an address lie in blocks u, v, k; a range twice in x, y. -/
def Pairs (w W : World) (u v k x y : Nat) (a1 a2 a3 a4 b1 b2 b3 b4 p q m1 m2 m3 m4 : Int) : Prop :=
  Below w.heap.size w W ∧ Four W u a1 a2 a3 a4 ∧ Four W v b1 b2 b3 b4 ∧ Two' W k p q ∧ Four W x m1 m2 m3 m4 ∧ Four W y m1 m2 m3 m4
theorem Pairs.later {w W W' : World} {u v k x y : Nat} {a1 a2 a3 a4 b1 b2 b3 b4 p q m1 m2 m3 m4 : Int} (h : Pairs w W u v k x y a1 a2 a3 a4 b1 b2 b3 b4 p q m1 m2 m3 m4) (hB : Below W.heap.size W W') :
    Pairs w W' u v k x y a1 a2 a3 a4 b1 b2 b3 b4 p q m1 m2 m3 m4 := by
  obtain ⟨h0, h1, h2, h3, h4, h5⟩ := h
  exact ⟨Below.next h0 hB, h1.later hB, h2.later hB, h3.later hB, h4.later hB, h5.later hB⟩
theorem mtB_comm (a1 a2 a3 a4 b1 b2 b3 b4 : Int) : mtB b1 b2 b3 b4 a1 a2 a3 a4 = mtB a1 a2 a3 a4 b1 b2 b3 b4 := by
  unfold mtB
  rw [Int.max_comm b1 a1, Int.max_comm b2 a2, Int.min_comm b3 a3, Int.min_comm b4 a4, Bool.and_comm (ckB b1 b2 b3 b4)]
theorem mt_has (a1 a2 a3 a4 b1 b2 b3 b4 : Int) (ha : ckB a1 a2 a3 a4 = true) (hb : ckB b1 b2 b3 b4 = true) (p q : Int) : (mtB a1 a2 a3 a4 b1 b2 b3 b4 && rhB (max a1 b1) (max a2 b2) (min a3 b3) (min a4 b4) p q) = (rhB a1 a2 a3 a4 p q && rhB b1 b2 b3 b4 p q) := by
  unfold mtB
  rw [ha, hb]
  by_cases h1 : (a1 ≤ p ∧ p ≤ a3 ∧ a2 ≤ q ∧ q ≤ a4) ∧ (b1 ≤ p ∧ p ≤ b3 ∧ b2 ≤ q ∧ q ≤ b4)
  · rw [rhB_t h1.1, rhB_t h1.2, rhB_t (show max a1 b1 ≤ p ∧ p ≤ min a3 b3 ∧ max a2 b2 ≤ q ∧ q ≤ min a4 b4 by omega), emB_f (by omega)]; rfl
  · have h2 : rhB (max a1 b1) (max a2 b2) (min a3 b3) (min a4 b4) p q = false := rhB_f (by omega)
    rw [h2, Bool.and_false]
    by_cases h3 : a1 ≤ p ∧ p ≤ a3 ∧ a2 ≤ q ∧ q ≤ a4
    · rw [rhB_f (fun h => h1 ⟨h3, h⟩), Bool.and_false]
    · rw [rhB_f h3, Bool.false_and]
def c2L (x : Int × Int) : List Value := [.int .i64 x.1, .int .i64 x.2]
theorem c2L_len (x : Int × Int) : (c2L x).length = 2 := rfl
theorem c2L_one (x : Int × Int) : ∀ u ∈ c2L x, u.oneCell' = true := by
  intro u hu
  simp [c2L] at hu
  rcases hu with rfl | rfl <;> rfl
theorem zeroRef : (Value.agg #[.int .i64 0, .int .i64 0]).cells.size = 2 := rfl
theorem corners_x (a b c d : Int) (hr : (1 ≤ a ∧ a ≤ 1024) ∧ (1 ≤ b ∧ b ≤ 1024) ∧ (1 ≤ c ∧ c ≤ 1024) ∧ (1 ≤ d ∧ d ≤ 1024)) (w : World) :
    Calls Tryd.prog 12 #[.agg #[.int .i64 a, .int .i64 b, .int .i64 c, .int .i64 d]] w fun e w' => (∃ v, e = .returned v ∧ ∃ M : List (Int × Int), M.length = 16 ∧ OwnOf 25 c2L 2 w.heap.size w' v M) ∧ Below w.heap.size w w' := by
  refine (corners_any a b c d hr.1 hr.2.1 hr.2.2.1 hr.2.2.2 w).mono ?_
  rintro e w' ⟨⟨v, L, rfl, hO, hL⟩, hB⟩
  exact ⟨⟨v, rfl, L, hL, hO⟩, hB⟩
set_option maxRecDepth 100000 in
set_option maxHeartbeats 40000000 in
theorem rectMeets_any (a1 a2 a3 a4 b1 b2 b3 b4 p q : Int) (w : World) :
    Calls Tryd.prog 3 #[.agg #[.int .i64 a1, .int .i64 a2, .int .i64 a3, .int .i64 a4], .agg #[.int .i64 b1, .int .i64 b2, .int .i64 b3, .int .i64 b4], .agg #[.int .i64 p, .int .i64 q]] w fun e w' => e = .returned (.bool true) ∧ Below w.heap.size w w' := by
  go_enter Tryd.func3, Tryd.ntmps3
  go_wp2_with fail
  refine (rmeet_any a1 a2 a3 a4 b1 b2 b3 b4 _).mono ?_
  rintro e w1 ⟨rfl, hB1⟩
  have l1 := below_alloc w (.cells #[.int .i64 a1, .int .i64 a2, .int .i64 a3, .int .i64 a4] 23)
  have l2 := below_alloc (w.alloc (.cells #[.int .i64 a1, .int .i64 a2, .int .i64 a3, .int .i64 a4] 23)) (.cells #[.int .i64 b1, .int .i64 b2, .int .i64 b3, .int .i64 b4] 23)
  have l3 := below_alloc ((w.alloc (.cells #[.int .i64 a1, .int .i64 a2, .int .i64 a3, .int .i64 a4] 23)).alloc (.cells #[.int .i64 b1, .int .i64 b2, .int .i64 b3, .int .i64 b4] 23)) (.cells #[.int .i64 p, .int .i64 q] 25)
  have FA := Lib.hid ((((Four.start w a1 a2 a3 a4 23).later l2).later l3).later hB1)
  have FB := Lib.hid (((Four.start (w.alloc (.cells #[.int .i64 a1, .int .i64 a2, .int .i64 a3, .int .i64 a4] 23)) b1 b2 b3 b4 23).later l3).later hB1)
  have FC := Lib.hid ((Two'.start ((w.alloc (.cells #[.int .i64 a1, .int .i64 a2, .int .i64 a3, .int .i64 a4] 23)).alloc (.cells #[.int .i64 b1, .int .i64 b2, .int .i64 b3, .int .i64 b4] 23)) p q 25).later hB1)
  have B1 := Lib.hid (Below.next (Below.next (Below.next l1 l2) l3) hB1)
  clear l1 l2 l3 hB1
  rw [alloc_size, alloc_size] at FC
  rw [alloc_size] at FB
  have HQ := Lib.hid (fun W => rmeet_any b1 b2 b3 b4 a1 a2 a3 a4 W)
  rw [mtB_comm, Int.max_comm b1 a1, Int.max_comm b2 a2, Int.min_comm b3 a3, Int.min_comm b4 a4] at HQ
  have HIN : Hid (insB a1 a2 a3 a4 b1 b2 b3 b4 = (mtB a1 a2 a3 a4 b1 b2 b3 b4 && (max a1 b1 == a1 && (max a2 b2 == a2 && (min a3 b3 == a3 && min a4 b4 == a4))))) := rfl
  have HNA : Hid (ckB a1 a2 a3 a4 = false → mtB a1 a2 a3 a4 b1 b2 b3 b4 = false) := fun h => by unfold mtB; rw [h]; simp
  have HNB : Hid (ckB b1 b2 b3 b4 = false → mtB a1 a2 a3 a4 b1 b2 b3 b4 = false) := fun h => by unfold mtB; rw [h]; simp
  have HHAS := Lib.hid (mt_has a1 a2 a3 a4 b1 b2 b3 b4)
  have HMX : Hid (mtB a1 a2 a3 a4 b1 b2 b3 b4 = true → (bv (mtB a1 a2 a3 a4 b1 b2 b3 b4) (max a1 b1) = max a1 b1 ∧ bv (mtB a1 a2 a3 a4 b1 b2 b3 b4) (max a2 b2) = max a2 b2 ∧ bv (mtB a1 a2 a3 a4 b1 b2 b3 b4) (min a3 b3) = min a3 b3 ∧ bv (mtB a1 a2 a3 a4 b1 b2 b3 b4) (min a4 b4) = min a4 b4)) := fun h => by rw [h]; exact ⟨rfl, rfl, rfl, rfl⟩
  obtain ⟨m1, hm1⟩ : ∃ m, bv (mtB a1 a2 a3 a4 b1 b2 b3 b4) (max a1 b1) = m := ⟨_, rfl⟩
  obtain ⟨m2, hm2⟩ : ∃ m, bv (mtB a1 a2 a3 a4 b1 b2 b3 b4) (max a2 b2) = m := ⟨_, rfl⟩
  obtain ⟨m3, hm3⟩ : ∃ m, bv (mtB a1 a2 a3 a4 b1 b2 b3 b4) (min a3 b3) = m := ⟨_, rfl⟩
  obtain ⟨m4, hm4⟩ : ∃ m, bv (mtB a1 a2 a3 a4 b1 b2 b3 b4) (min a4 b4) = m := ⟨_, rfl⟩
  rw [hm1, hm2, hm3, hm4] at HQ HMX
  rw [hm1, hm2, hm3, hm4]
  clear hm1 hm2 hm3 hm4
  obtain ⟨mt, hmt⟩ : ∃ m, mtB a1 a2 a3 a4 b1 b2 b3 b4 = m := ⟨_, rfl⟩
  have HMT := Lib.hid hmt
  rw [hmt] at HQ HMX HIN HNA HNB HHAS
  rw [hmt]
  clear hmt
  have l4 := below_alloc w1 (.cells #[.int .i64 m1, .int .i64 m2, .int .i64 m3, .int .i64 m4] 23)
  have FA2 := Lib.hid (FA.out.later l4)
  have FB2 := Lib.hid (FB.out.later l4)
  have FC2 := Lib.hid (FC.out.later l4)
  have FM2 := Lib.hid (Four.start w1 m1 m2 m3 m4 23)
  have B2 := Lib.hid (Below.next B1.out l4)
  clear l4 FA FB FC B1
  obtain ⟨_, x1, x2, x3, x4⟩ := FA2.out
  obtain ⟨_, y1, y2, y3, y4⟩ := FB2.out
  go_wp2_with fail
  refine (HQ.out _).mono ?_
  rintro e w2 ⟨rfl, hB2⟩
  clear x1 x2 x3 x4 y1 y2 y3 y4 HQ
  have l5 := below_alloc w2 (.cells #[.int .i64 m1, .int .i64 m2, .int .i64 m3, .int .i64 m4] 23)
  have hS0 : Pairs w (w2.alloc (.cells #[.int .i64 m1, .int .i64 m2, .int .i64 m3, .int .i64 m4] 23)) w.heap.size (w.heap.size + 1) (w.heap.size + 1 + 1) w1.heap.size w2.heap.size a1 a2 a3 a4 b1 b2 b3 b4 p q m1 m2 m3 m4 :=
    ⟨Below.next (Below.next B2.out hB2) l5, (FA2.out.later hB2).later l5, (FB2.out.later hB2).later l5, (FC2.out.later hB2).later l5, (FM2.out.later hB2).later l5, Four.start w2 m1 m2 m3 m4 23⟩
  clear l5 hB2 FA2 FB2 FC2 FM2 B2
  have HS := Lib.hid hS0
  obtain ⟨_, ⟨_, x1, x2, x3, x4⟩, ⟨_, y1, y2, y3, y4⟩, ⟨_, z1, z2⟩, ⟨_, u1, u2, u3, u4⟩, ⟨_, v1, v2, v3, v4⟩⟩ := hS0
  go_wp2_with fail
  refine (rcheck_any a1 a2 a3 a4 _).mono ?_
  rintro e w3 ⟨rfl, hB3⟩
  have HS3 := Lib.hid (HS.out.later hB3)
  clear x1 x2 x3 x4 y1 y2 y3 y4 z1 z2 u1 u2 u3 u4 v1 v2 v3 v4 HS hB3
  cases ha : ckB a1 a2 a3 a4
  · rw [ckE_f ha]
    obtain rfl := HNA.out ha
    have HI0 : Hid (insB a1 a2 a3 a4 b1 b2 b3 b4 = false) := HIN.out
    clear ha
    obtain ⟨_, ⟨_, x1, x2, x3, x4⟩, ⟨_, y1, y2, y3, y4⟩, ⟨_, z1, z2⟩, ⟨_, u1, u2, u3, u4⟩, ⟨_, v1, v2, v3, v4⟩⟩ := HS3.out
    go_wp2_with fail
    refine (rinside_any a1 a2 a3 a4 b1 b2 b3 b4 _).mono ?_
    rw [HI0.out]
    rintro e w4 ⟨rfl, hB4⟩
    have HS4 := Lib.hid (HS3.out.later hB4)
    clear x1 x2 x3 x4 y1 y2 y3 y4 z1 z2 u1 u2 u3 u4 v1 v2 v3 v4 HS3 hB4
    go_wp2_with fail
    refine (known _).mono ?_
    rintro e w5 ⟨rfl, hB5⟩
    have HB := Lib.hid (Below.next HS4.out.1 hB5)
    clear hB5
    go_wp2_with fail
    go_ret
    exact ⟨rfl, HB.out⟩
  · rw [ckE_t ha]
    obtain ⟨_, ⟨_, x1, x2, x3, x4⟩, ⟨_, y1, y2, y3, y4⟩, ⟨_, z1, z2⟩, ⟨_, u1, u2, u3, u4⟩, ⟨_, v1, v2, v3, v4⟩⟩ := HS3.out
    have HA := Lib.hid ha
    clear ha
    go_wp2_with fail
    refine (rcheck_any b1 b2 b3 b4 _).mono ?_
    rintro e w4 ⟨rfl, hB4⟩
    have HS4 := Lib.hid (HS3.out.later hB4)
    clear x1 x2 x3 x4 y1 y2 y3 y4 z1 z2 u1 u2 u3 u4 v1 v2 v3 v4 HS3 hB4
    cases hb : ckB b1 b2 b3 b4
    · rw [ckE_f hb]
      obtain rfl := HNB.out hb
      have HI0 : Hid (insB a1 a2 a3 a4 b1 b2 b3 b4 = false) := HIN.out
      clear hb
      obtain ⟨_, ⟨_, x1, x2, x3, x4⟩, ⟨_, y1, y2, y3, y4⟩, ⟨_, z1, z2⟩, ⟨_, u1, u2, u3, u4⟩, ⟨_, v1, v2, v3, v4⟩⟩ := HS4.out
      go_wp2_with fail
      refine (rinside_any a1 a2 a3 a4 b1 b2 b3 b4 _).mono ?_
      rw [HI0.out]
      rintro e w5 ⟨rfl, hB5⟩
      have HS5 := Lib.hid (HS4.out.later hB5)
      clear x1 x2 x3 x4 y1 y2 y3 y4 z1 z2 u1 u2 u3 u4 v1 v2 v3 v4 HS4 hB5
      go_wp2_with fail
      refine (known _).mono ?_
      rintro e w6 ⟨rfl, hB6⟩
      have HB := Lib.hid (Below.next HS5.out.1 hB6)
      clear hB6
      go_wp2_with fail
      go_ret
      exact ⟨rfl, HB.out⟩
    · rw [ckE_t hb]
      obtain ⟨_, ⟨_, x1, x2, x3, x4⟩, ⟨_, y1, y2, y3, y4⟩, ⟨_, z1, z2⟩, ⟨_, u1, u2, u3, u4⟩, ⟨_, v1, v2, v3, v4⟩⟩ := HS4.out
      have HBB := Lib.hid hb
      clear hb
      have HH := Lib.hid (HHAS.out HA.out HBB.out)
      have hqa := ckB_iff.1 HA.out
      have hqb := ckB_iff.1 HBB.out
      have hra : (1 ≤ a1 ∧ a1 ≤ 1024) ∧ (1 ≤ a2 ∧ a2 ≤ 1024) ∧ (1 ≤ a3 ∧ a3 ≤ 1024) ∧ (1 ≤ a4 ∧ a4 ≤ 1024) := by omega
      have hrb : (1 ≤ b1 ∧ b1 ≤ 1024) ∧ (1 ≤ b2 ∧ b2 ≤ 1024) ∧ (1 ≤ b3 ∧ b3 ≤ 1024) ∧ (1 ≤ b4 ∧ b4 ≤ 1024) := by omega
      have HRA := Lib.hid hra
      have HRB := Lib.hid hrb
      clear hqa hqb hra hrb
      go_upto_region 7 with (fail)
      go_cut [61] (fun z wx => z = .bool false ∧ Pairs w wx w.heap.size (w.heap.size + 1) (w.heap.size + 1 + 1) w1.heap.size w2.heap.size a1 a2 a3 a4 b1 b2 b3 b4 p q m1 m2 m3 m4)
      case first =>
        go_wp2_with fail
        refine (rinside_any a1 a2 a3 a4 b1 b2 b3 b4 _).mono ?_
        rintro e w5 ⟨rfl, hB5⟩
        have HS5 := Lib.hid (HS4.out.later hB5)
        clear x1 x2 x3 x4 y1 y2 y3 y4 z1 z2 u1 u2 u3 u4 v1 v2 v3 v4 HS4 hB5
        obtain ⟨_, ⟨_, x1, x2, x3, x4⟩, ⟨_, y1, y2, y3, y4⟩, ⟨_, z1, z2⟩, ⟨_, u1, u2, u3, u4⟩, ⟨_, v1, v2, v3, v4⟩⟩ := HS5.out
        cases mt
        · have e1 : insB a1 a2 a3 a4 b1 b2 b3 b4 = false := HIN.out
          rw [e1]
          clear e1
          go_wp2_with fail
          go_meet
          case rel => exact ⟨rfl, HS5.out⟩
        · obtain ⟨q1, q2, q3, q4⟩ := HMX.out rfl
          rw [← q1, ← q2, ← q3, ← q4] at HIN
          clear q1 q2 q3 q4 HMX
          have e1 : insB a1 a2 a3 a4 b1 b2 b3 b4 = (m1 == a1 && (m2 == a2 && (m3 == a3 && m4 == a4))) := HIN.out
          rw [e1]
          clear e1
          obtain ⟨qb, hqb⟩ : ∃ qb, (m1 == a1 && (m2 == a2 && (m3 == a3 && m4 == a4))) = qb := ⟨_, rfl⟩
          rw [hqb]
          cases qb
          · go_wp2_with fail
            all_goals
              go_meet
              case rel => first | exact ⟨rfl, HS5.out⟩ | (exfalso; simp_all)
          · have hm : m1 = a1 ∧ m2 = a2 ∧ m3 = a3 ∧ m4 = a4 := by simpa using hqb
            obtain ⟨e1, e2, e3, e4⟩ := hm
            clear hqb
            go_wp2_with fail
            all_goals
              go_meet
              case rel => first | exact ⟨rfl, HS5.out⟩ | (exfalso; simp_all)
      case rest =>
        obtain ⟨rfl, hp5⟩ := hcut
        clear x1 x2 x3 x4 y1 y2 y3 y4 z1 z2 u1 u2 u3 u4 v1 v2 v3 v4 HS4
        have HS5 := Lib.hid hp5
        clear hp5
        generalize wc = w5 at *
        have hmx : Tryd.prog.follows .mixedOrders = true := by kernel_rfl
        obtain ⟨_, ⟨_, x1, x2, x3, x4⟩, ⟨_, y1, y2, y3, y4⟩, ⟨_, z1, z2⟩, ⟨_, u1, u2, u3, u4⟩, ⟨_, v1, v2, v3, v4⟩⟩ := HS5.out
        cases mt
        · go_wp2_with fail
          clear x1 x2 x3 x4 y1 y2 y3 y4 z1 z2 u1 u2 u3 u4 v1 v2 v3 v4
          refine wp_region_seqo (fun X => Below w5.heap.size w5 X) w5.heap.size
            [fbC (.agg #[.int .i64 a1, .int .i64 a2, .int .i64 a3, .int .i64 a4]), fbX 25 c2L 2 w5.heap.size 16, fbC (.agg #[.int .i64 b1, .int .i64 b2, .int .i64 b3, .int .i64 b4]), fbX 25 c2L 2 w5.heap.size 16, fbX 25 c2L 2 w5.heap.size 32, fbC (.agg #[.int .i64 p, .int .i64 q]),
              fbN (fun g => .slice (some ⟨g, 0, none⟩) 1 1) w5.heap.size (.cells #[.int .i64 p, .int .i64 q] 25), fbX 25 c2L 2 w5.heap.size 33, fbX 25 c2L 2 w5.heap.size 33]
            [[], [], [], [], [1], [], [], [4], [7]] [[], [], [], [], [], [], [], [], []] [[], [0], [], [2], [1, 3], [], [5], [4, 6], [7]]
            (fun a b h k => k.trans h) (by kernel_rfl) (by kernel_rfl) (by kernel_rfl) ⟨rfl, rfl, rfl, Nat.le_refl _, fun _ _ => rfl⟩ (Nat.le_refl _) ?_ (by kernel_rfl)
            ⟨good_C _ _, good_X _, good_C _ _, good_X _, good_X _, good_C _ _, good_N _ (fun _ => rfl), good_X _, good_X _, trivial⟩ (Nat.le_refl 9)
          simp only [putsL, Act.put, List.setIfInBounds_toArray, List.set_cons_zero, List.set_cons_succ, Nat.zero_add, Nat.reduceAdd]
          refine seqo_cons (obo_run rfl (fun vs W hD => rfl) (fun vs W hS hD => ?_)) ?_
          · obtain ⟨_, ⟨_, x1, x2, x3, x4⟩, ⟨_, y1, y2, y3, y4⟩, ⟨_, z1, z2⟩, ⟨_, u1, u2, u3, u4⟩, ⟨_, v1, v2, v3, v4⟩⟩ := HS5.out.later hS
            go_simp; done
          refine seqo_cons (obo_listx rfl (f := 12) (fun vs => #[.agg #[.int .i64 a1, .int .i64 a2, .int .i64 a3, .int .i64 a4]]) (fun vs W hD => rfl) (fun vs W hS hD => ?_) (fun vs W hS hZ hD => ?_)) ?_
          · have h1 : vs 0 = _ := hD.1
            go_simp; done
          · exact corners_x a1 a2 a3 a4 HRA.out W
          refine seqo_cons (obo_run rfl (fun vs W hD => rfl) (fun vs W hS hD => ?_)) ?_
          · obtain ⟨_, ⟨_, x1, x2, x3, x4⟩, ⟨_, y1, y2, y3, y4⟩, ⟨_, z1, z2⟩, ⟨_, u1, u2, u3, u4⟩, ⟨_, v1, v2, v3, v4⟩⟩ := HS5.out.later hS
            go_simp; done
          refine seqo_cons (obo_listx rfl (f := 12) (fun vs => #[.agg #[.int .i64 b1, .int .i64 b2, .int .i64 b3, .int .i64 b4]]) (fun vs W hD => rfl) (fun vs W hS hD => ?_) (fun vs W hS hZ hD => ?_)) ?_
          · have h1 : vs 2 = _ := hD.1
            go_simp; done
          · exact corners_x b1 b2 b3 b4 HRB.out W
          refine seqo_cons (obo_appx (k := 16) (m := 16) (j := 1) rfl rfl (by decide) (fun vs W hD => rfl) (.tmp 63) (.tmp 65) 32 rfl Tryd.underlying32 _ 16 infoRef zeroRef (by decide) (by decide) c2L_len c2L_one (by decide) (fun vs W hS hZ hD => ?_)) ?_
          · obtain ⟨h1, ⟨N, hN, h3⟩, _⟩ := hD
            obtain ⟨a2, cap2, he, hi⟩ := OwnOf.isOf c2L_len h3
            rw [hN] at he hi
            exact ⟨rfl, h1, a2, cap2, N, he, hi⟩
          refine seqo_cons (obo_run rfl (fun vs W hD => rfl) (fun vs W hS hD => ?_)) ?_
          · obtain ⟨_, ⟨_, x1, x2, x3, x4⟩, ⟨_, y1, y2, y3, y4⟩, ⟨_, z1, z2⟩, ⟨_, u1, u2, u3, u4⟩, ⟨_, v1, v2, v3, v4⟩⟩ := HS5.out.later hS
            go_simp; done
          refine seqo_cons (obo_new rfl (fun _ => rfl) (fun vs W hD => rfl) (fun vs W hS hD => ?_)) ?_
          · have h1 : vs 5 = _ := hD.1
            go_simp; done
          refine seqo_cons (obo_appx (k := 32) (m := 1) (j := 4) rfl rfl (by decide) (fun vs W hD => rfl) (.tmp 66) (.tmp 68) 32 rfl Tryd.underlying32 _ 16 infoRef zeroRef (by decide) (by decide) c2L_len c2L_one (by decide) (fun vs W hS hZ hD => ?_)) ?_
          · obtain ⟨h1, ⟨g, h4, hg, hh⟩, _⟩ := hD
            exact ⟨rfl, h1, some ⟨g, 0, none⟩, 1, [(p, q)], h4, isOf_heap hh rfl⟩
          refine seqo_cons (obo_movex (j := 7) rfl rfl (by decide) (fun vs W hD => rfl) (fun vs W hS hD => ?_)) ?_
          · obtain ⟨h1, _⟩ := hD
            refine ⟨?_, h1⟩
            go_simp; done
          refine seqo_end fun vs W hS hZ hv => ?_
          obtain ⟨h0, _, h2, _, _, h5, h6, _, h8, _⟩ := hv
          have h0 : vs 0 = _ := h0 rfl
          have h2 : vs 2 = _ := h2 rfl
          have h5 : vs 5 = _ := h5 rfl
          obtain ⟨M, hM, hO⟩ := h8 rfl
          obtain ⟨ra, rcap, he, hi⟩ := OwnOf.isOf c2L_len hO
          rw [hM] at he hi
          have HI := Lib.hid hi
          have HSW := Lib.hid (HS5.out.later hS)
          have HM := Lib.hid hM
          simp only [h0, h2, h5, he]
          clear h0 h2 h5 h6 hO hi hS hM he
          generalize vs 1 = t1 at *
          generalize vs 3 = t3 at *
          generalize vs 4 = t4 at *
          generalize vs 6 = t6 at *
          generalize vs 7 = t7 at *
          clear HS5 hZ
          go_wp2_with fail
          go_loopw [12] (fun i wr => ∃ k : Nat, k ≤ 33 ∧ i = .int .i64 (k : Int) ∧ Hid (Pairs w wr w.heap.size (w.heap.size + 1) (w.heap.size + 1 + 1) w1.heap.size w2.heap.size a1 a2 a3 a4 b1 b2 b3 b4 p q m1 m2 m3 m4) ∧ Hid (IsOf c2L 2 wr ra 33 M)) (fun i _ => 33 - (intOf i).toNat)
          case atStart => exact ⟨0, by omega, rfl, HSW.out, HI.out⟩
          case round =>
            obtain ⟨k, hk, rfl, HP, HI2⟩ := hrel
            by_cases hlt : k < 33
            · obtain ⟨b, off, rfl, hrow⟩ := HI2.out.2 (by omega)
              have hkM : k < M.length := by rw [HM.out]; exact hlt
              have c0 : wr.cell? ⟨b, off + k * 2, none⟩ = some (.int .i64 M[k].1) := by have := hrow.2 k hkM 0 _ rfl; rwa [Nat.add_zero] at this
              have c1 : wr.cell? ⟨b, off + k * 2 + 1, none⟩ = some (.int .i64 M[k].2) := hrow.2 k hkM 1 _ rfl
              have HLT : Hid (b < wr.heap.size) := hrow.1
              clear hrow
              obtain ⟨⟨sp, sq⟩, hspot⟩ : ∃ z, z = M[k] := ⟨_, rfl⟩
              rw [← hspot] at c0 c1
              dsimp only at c0 c1
              have C0 := Lib.hid c0
              have C1 := Lib.hid c1
              clear hspot c0 c1
              have HHS := Lib.hid (HH.out sp sq)
              have HR1 := Lib.hid (fun W => rhas_any a1 a2 a3 a4 sp sq W)
              have HR2 := Lib.hid (fun W => rhas_any b1 b2 b3 b4 sp sq W)
              skip
              generalize rhB a1 a2 a3 a4 sp sq = r1 at *
              generalize rhB b1 b2 b3 b4 sp sq = r2 at *
              skip
              go_wp2_with fail
              cases r1
              · clear HHS HR2
                refine wp_region_seqi (fun X => Below wr.heap.size wr X) (fun X X2 hB h => Below.next h hB) (by kernel_rfl) (by kernel_rfl) (by kernel_rfl) (Below.refl _ wr).drew ?_
                simp only [putsL, Act.put, List.setIfInBounds_toArray, List.set_cons_zero, List.set_cons_succ, Nat.zero_add, Nat.reduceAdd]
                repeat (first
                  | (refine seqi_not (fun vs W hD => ?_) ?_
                     · ((try simp [DepA, isB, rsAt] at hD); simp [Region.wanted, yielded, hD]; done)
                     simp only [List.nil_append, List.cons_append])
                  | (refine seqi_call (f := 13) (fun v _ => v = .bool false) (stable_val _) (fun vs => #[.agg #[.int .i64 a1, .int .i64 a2, .int .i64 a3, .int .i64 a4], .agg #[.int .i64 sp, .int .i64 sq]]) (fun vs W hD => ?_) (fun vs W hS hD => ?_) (fun vs W hS hD => ?_) ?_
                     · (first | rfl | ((try simp [DepA, isB, rsAt] at hD); simp [Region.wanted, yielded, hD]; done))
                     · (clear hS; (try simp [DepA, isB, rsAt] at hD); (try simp only [hD]); go_simp; done)
                     · (exact (HR1.out W).mono fun e W' ⟨he, hB⟩ => ⟨⟨_, he, rfl⟩, hB⟩)
                     simp only [List.nil_append, List.cons_append])
                  | (refine seqi_run ?_ (fun vs W hD => ?_) (fun vs W hS hD => ?_) ?_
                     rotate_left
                     · (first | rfl | ((try simp [DepA, isB, rsAt] at hD); simp [Region.wanted, yielded, hD]; done))
                     (have hP := HP.out.later hS; obtain ⟨_, ⟨_, x1, x2, x3, x4⟩, ⟨_, y1, y2, y3, y4⟩, ⟨_, z1, z2⟩, ⟨_, u1, u2, u3, u4⟩, ⟨_, v1, v2, v3, v4⟩⟩ := hP; have d0 := (hS.cell (p := ⟨b, off + k * 2, none⟩) HLT.out).trans C0.out; have d1 := (hS.cell (p := ⟨b, off + k * 2 + 1, none⟩) HLT.out).trans C1.out; (try simp [DepA, isB, rsAt] at hD); (try simp only [hD]); (first | (go_simp; done) | (go_simp; rfl)))
                     simp only [List.nil_append, List.cons_append]))
                refine seqi_end fun vs W hS hv => ?_
                simp only [AllF, Nat.zero_add, Nat.reduceAdd] at hv
                obtain ⟨h0, h1, h2, h3, h4, h5, h6, h7, h8, h9, h10, h11, h12, h13, h14, h15, h16, h17, h18, h19, h20, h21, h22, h23, _⟩ := hv
                simp only [h0, h1, h2, h3, h4, h5, h6, h7, h8, h9, h10, h11, h12, h13, h14, h15, h16, h17, h18, h19, h20, h21, h22, h23]
                clear h0 h1 h2 h3 h4 h5 h6 h7 h8 h9 h10 h11 h12 h13 h14 h15 h16 h17 h18 h19 h20 h21 h22 h23
                have HPW := Lib.hid (HP.out.later hS)
                have HIW := Lib.hid (HI2.out.later hS)
                clear hS
                go_wp2_with fail
                go_roundw
                case rel => exact ⟨k + 1, by omega, by go_num, HPW.out, HIW.out⟩
                case measure => simp [intOf]; omega
              · obtain rfl : r2 = false := by have := HHS.out; simpa using this.symm
                refine wp_region_seqi (fun X => Below wr.heap.size wr X) (fun X X2 hB h => Below.next h hB) (by kernel_rfl) (by kernel_rfl) (by kernel_rfl) (Below.refl _ wr).drew ?_
                simp only [putsL, Act.put, List.setIfInBounds_toArray, List.set_cons_zero, List.set_cons_succ, Nat.zero_add, Nat.reduceAdd]
                repeat (first
                  | (refine seqi_not (fun vs W hD => ?_) ?_
                     · ((try simp [DepA, isB, rsAt] at hD); simp [Region.wanted, yielded, hD]; done)
                     simp only [List.nil_append, List.cons_append])
                  | (refine seqi_call (f := 13) (fun v _ => v = .bool true) (stable_val _) (fun vs => #[.agg #[.int .i64 a1, .int .i64 a2, .int .i64 a3, .int .i64 a4], .agg #[.int .i64 sp, .int .i64 sq]]) (fun vs W hD => ?_) (fun vs W hS hD => ?_) (fun vs W hS hD => ?_) ?_
                     · (first | rfl | ((try simp [DepA, isB, rsAt] at hD); simp [Region.wanted, yielded, hD]; done))
                     · (clear hS; (try simp [DepA, isB, rsAt] at hD); (try simp only [hD]); go_simp; done)
                     · (exact (HR1.out W).mono fun e W' ⟨he, hB⟩ => ⟨⟨_, he, rfl⟩, hB⟩)
                     simp only [List.nil_append, List.cons_append])
                  | (refine seqi_call (f := 13) (fun v _ => v = .bool false) (stable_val _) (fun vs => #[.agg #[.int .i64 b1, .int .i64 b2, .int .i64 b3, .int .i64 b4], .agg #[.int .i64 sp, .int .i64 sq]]) (fun vs W hD => ?_) (fun vs W hS hD => ?_) (fun vs W hS hD => ?_) ?_
                     · (first | rfl | ((try simp [DepA, isB, rsAt] at hD); simp [Region.wanted, yielded, hD]; done))
                     · (clear hS; (try simp [DepA, isB, rsAt] at hD); (try simp only [hD]); go_simp; done)
                     · (exact (HR2.out W).mono fun e W' ⟨he, hB⟩ => ⟨⟨_, he, rfl⟩, hB⟩)
                     simp only [List.nil_append, List.cons_append])
                  | (refine seqi_run ?_ (fun vs W hD => ?_) (fun vs W hS hD => ?_) ?_
                     rotate_left
                     · (first | rfl | ((try simp [DepA, isB, rsAt] at hD); simp [Region.wanted, yielded, hD]; done))
                     (have hP := HP.out.later hS; obtain ⟨_, ⟨_, x1, x2, x3, x4⟩, ⟨_, y1, y2, y3, y4⟩, ⟨_, z1, z2⟩, ⟨_, u1, u2, u3, u4⟩, ⟨_, v1, v2, v3, v4⟩⟩ := hP; have d0 := (hS.cell (p := ⟨b, off + k * 2, none⟩) HLT.out).trans C0.out; have d1 := (hS.cell (p := ⟨b, off + k * 2 + 1, none⟩) HLT.out).trans C1.out; (try simp [DepA, isB, rsAt] at hD); (try simp only [hD]); (first | (go_simp; done) | (go_simp; rfl)))
                     simp only [List.nil_append, List.cons_append]))
                refine seqi_end fun vs W hS hv => ?_
                simp only [AllF, Nat.zero_add, Nat.reduceAdd] at hv
                obtain ⟨h0, h1, h2, h3, h4, h5, h6, h7, h8, h9, h10, h11, h12, h13, h14, h15, h16, h17, h18, h19, h20, h21, h22, h23, _⟩ := hv
                simp only [h0, h1, h2, h3, h4, h5, h6, h7, h8, h9, h10, h11, h12, h13, h14, h15, h16, h17, h18, h19, h20, h21, h22, h23]
                clear h0 h1 h2 h3 h4 h5 h6 h7 h8 h9 h10 h11 h12 h13 h14 h15 h16 h17 h18 h19 h20 h21 h22 h23
                have HPW := Lib.hid (HP.out.later hS)
                have HIW := Lib.hid (HI2.out.later hS)
                clear hS
                go_wp2_with fail
                go_roundw
                case rel => exact ⟨k + 1, by omega, by go_num, HPW.out, HIW.out⟩
                case measure => simp [intOf]; omega
            · obtain rfl : k = 33 := by omega
              go_wp2_with fail
              refine (known _).mono ?_
              rintro e w6 ⟨rfl, hB6⟩
              have HB := Lib.hid (Below.next HP.out.1 hB6)
              clear hB6
              go_wp2_with fail
              go_ret
              exact ⟨rfl, HB.out⟩
        · obtain ⟨q1, q2, q3, q4⟩ := HMX.out rfl
          rw [← q1, ← q2, ← q3, ← q4] at HH
          clear q1 q2 q3 q4 HMX
          go_wp2_with fail
          clear x1 x2 x3 x4 y1 y2 y3 y4 z1 z2 u1 u2 u3 u4 v1 v2 v3 v4
          refine wp_region_seqo (fun X => Below w5.heap.size w5 X) w5.heap.size
            [fbC (.agg #[.int .i64 a1, .int .i64 a2, .int .i64 a3, .int .i64 a4]), fbX 25 c2L 2 w5.heap.size 16, fbC (.agg #[.int .i64 b1, .int .i64 b2, .int .i64 b3, .int .i64 b4]), fbX 25 c2L 2 w5.heap.size 16, fbX 25 c2L 2 w5.heap.size 32, fbC (.agg #[.int .i64 p, .int .i64 q]),
              fbN (fun g => .slice (some ⟨g, 0, none⟩) 1 1) w5.heap.size (.cells #[.int .i64 p, .int .i64 q] 25), fbX 25 c2L 2 w5.heap.size 33, fbX 25 c2L 2 w5.heap.size 33]
            [[], [], [], [], [1], [], [], [4], [7]] [[], [], [], [], [], [], [], [], []] [[], [0], [], [2], [1, 3], [], [5], [4, 6], [7]]
            (fun a b h k => k.trans h) (by kernel_rfl) (by kernel_rfl) (by kernel_rfl) ⟨rfl, rfl, rfl, Nat.le_refl _, fun _ _ => rfl⟩ (Nat.le_refl _) ?_ (by kernel_rfl)
            ⟨good_C _ _, good_X _, good_C _ _, good_X _, good_X _, good_C _ _, good_N _ (fun _ => rfl), good_X _, good_X _, trivial⟩ (Nat.le_refl 9)
          simp only [putsL, Act.put, List.setIfInBounds_toArray, List.set_cons_zero, List.set_cons_succ, Nat.zero_add, Nat.reduceAdd]
          refine seqo_cons (obo_run rfl (fun vs W hD => rfl) (fun vs W hS hD => ?_)) ?_
          · obtain ⟨_, ⟨_, x1, x2, x3, x4⟩, ⟨_, y1, y2, y3, y4⟩, ⟨_, z1, z2⟩, ⟨_, u1, u2, u3, u4⟩, ⟨_, v1, v2, v3, v4⟩⟩ := HS5.out.later hS
            go_simp; done
          refine seqo_cons (obo_listx rfl (f := 12) (fun vs => #[.agg #[.int .i64 a1, .int .i64 a2, .int .i64 a3, .int .i64 a4]]) (fun vs W hD => rfl) (fun vs W hS hD => ?_) (fun vs W hS hZ hD => ?_)) ?_
          · have h1 : vs 0 = _ := hD.1
            go_simp; done
          · exact corners_x a1 a2 a3 a4 HRA.out W
          refine seqo_cons (obo_run rfl (fun vs W hD => rfl) (fun vs W hS hD => ?_)) ?_
          · obtain ⟨_, ⟨_, x1, x2, x3, x4⟩, ⟨_, y1, y2, y3, y4⟩, ⟨_, z1, z2⟩, ⟨_, u1, u2, u3, u4⟩, ⟨_, v1, v2, v3, v4⟩⟩ := HS5.out.later hS
            go_simp; done
          refine seqo_cons (obo_listx rfl (f := 12) (fun vs => #[.agg #[.int .i64 b1, .int .i64 b2, .int .i64 b3, .int .i64 b4]]) (fun vs W hD => rfl) (fun vs W hS hD => ?_) (fun vs W hS hZ hD => ?_)) ?_
          · have h1 : vs 2 = _ := hD.1
            go_simp; done
          · exact corners_x b1 b2 b3 b4 HRB.out W
          refine seqo_cons (obo_appx (k := 16) (m := 16) (j := 1) rfl rfl (by decide) (fun vs W hD => rfl) (.tmp 63) (.tmp 65) 32 rfl Tryd.underlying32 _ 16 infoRef zeroRef (by decide) (by decide) c2L_len c2L_one (by decide) (fun vs W hS hZ hD => ?_)) ?_
          · obtain ⟨h1, ⟨N, hN, h3⟩, _⟩ := hD
            obtain ⟨a2, cap2, he, hi⟩ := OwnOf.isOf c2L_len h3
            rw [hN] at he hi
            exact ⟨rfl, h1, a2, cap2, N, he, hi⟩
          refine seqo_cons (obo_run rfl (fun vs W hD => rfl) (fun vs W hS hD => ?_)) ?_
          · obtain ⟨_, ⟨_, x1, x2, x3, x4⟩, ⟨_, y1, y2, y3, y4⟩, ⟨_, z1, z2⟩, ⟨_, u1, u2, u3, u4⟩, ⟨_, v1, v2, v3, v4⟩⟩ := HS5.out.later hS
            go_simp; done
          refine seqo_cons (obo_new rfl (fun _ => rfl) (fun vs W hD => rfl) (fun vs W hS hD => ?_)) ?_
          · have h1 : vs 5 = _ := hD.1
            go_simp; done
          refine seqo_cons (obo_appx (k := 32) (m := 1) (j := 4) rfl rfl (by decide) (fun vs W hD => rfl) (.tmp 66) (.tmp 68) 32 rfl Tryd.underlying32 _ 16 infoRef zeroRef (by decide) (by decide) c2L_len c2L_one (by decide) (fun vs W hS hZ hD => ?_)) ?_
          · obtain ⟨h1, ⟨g, h4, hg, hh⟩, _⟩ := hD
            exact ⟨rfl, h1, some ⟨g, 0, none⟩, 1, [(p, q)], h4, isOf_heap hh rfl⟩
          refine seqo_cons (obo_movex (j := 7) rfl rfl (by decide) (fun vs W hD => rfl) (fun vs W hS hD => ?_)) ?_
          · obtain ⟨h1, _⟩ := hD
            refine ⟨?_, h1⟩
            go_simp; done
          refine seqo_end fun vs W hS hZ hv => ?_
          obtain ⟨h0, _, h2, _, _, h5, h6, _, h8, _⟩ := hv
          have h0 : vs 0 = _ := h0 rfl
          have h2 : vs 2 = _ := h2 rfl
          have h5 : vs 5 = _ := h5 rfl
          obtain ⟨M, hM, hO⟩ := h8 rfl
          obtain ⟨ra, rcap, he, hi⟩ := OwnOf.isOf c2L_len hO
          rw [hM] at he hi
          have HI := Lib.hid hi
          have HSW := Lib.hid (HS5.out.later hS)
          have HM := Lib.hid hM
          simp only [h0, h2, h5, he]
          clear h0 h2 h5 h6 hO hi hS hM he
          generalize vs 1 = t1 at *
          generalize vs 3 = t3 at *
          generalize vs 4 = t4 at *
          generalize vs 6 = t6 at *
          generalize vs 7 = t7 at *
          clear HS5 hZ
          go_wp2_with fail
          go_loopw [12] (fun i wr => ∃ k : Nat, k ≤ 33 ∧ i = .int .i64 (k : Int) ∧ Hid (Pairs w wr w.heap.size (w.heap.size + 1) (w.heap.size + 1 + 1) w1.heap.size w2.heap.size a1 a2 a3 a4 b1 b2 b3 b4 p q m1 m2 m3 m4) ∧ Hid (IsOf c2L 2 wr ra 33 M)) (fun i _ => 33 - (intOf i).toNat)
          case atStart => exact ⟨0, by omega, rfl, HSW.out, HI.out⟩
          case round =>
            obtain ⟨k, hk, rfl, HP, HI2⟩ := hrel
            by_cases hlt : k < 33
            · obtain ⟨b, off, rfl, hrow⟩ := HI2.out.2 (by omega)
              have hkM : k < M.length := by rw [HM.out]; exact hlt
              have c0 : wr.cell? ⟨b, off + k * 2, none⟩ = some (.int .i64 M[k].1) := by have := hrow.2 k hkM 0 _ rfl; rwa [Nat.add_zero] at this
              have c1 : wr.cell? ⟨b, off + k * 2 + 1, none⟩ = some (.int .i64 M[k].2) := hrow.2 k hkM 1 _ rfl
              have HLT : Hid (b < wr.heap.size) := hrow.1
              clear hrow
              obtain ⟨⟨sp, sq⟩, hspot⟩ : ∃ z, z = M[k] := ⟨_, rfl⟩
              rw [← hspot] at c0 c1
              dsimp only at c0 c1
              have C0 := Lib.hid c0
              have C1 := Lib.hid c1
              clear hspot c0 c1
              have HHS := Lib.hid (HH.out sp sq)
              have HR1 := Lib.hid (fun W => rhas_any a1 a2 a3 a4 sp sq W)
              have HR2 := Lib.hid (fun W => rhas_any b1 b2 b3 b4 sp sq W)
              have HR0 := Lib.hid (fun W => rhas_any m1 m2 m3 m4 sp sq W)
              generalize rhB a1 a2 a3 a4 sp sq = r1 at *
              generalize rhB b1 b2 b3 b4 sp sq = r2 at *
              generalize rhB m1 m2 m3 m4 sp sq = r0 at *
              go_wp2_with fail
              cases r1
              · obtain rfl : r0 = false := by have := HHS.out; simpa using this
                clear HHS HR2
                refine wp_region_seqi (fun X => Below wr.heap.size wr X) (fun X X2 hB h => Below.next h hB) (by kernel_rfl) (by kernel_rfl) (by kernel_rfl) (Below.refl _ wr).drew ?_
                simp only [putsL, Act.put, List.setIfInBounds_toArray, List.set_cons_zero, List.set_cons_succ, Nat.zero_add, Nat.reduceAdd]
                repeat (first
                  | (refine seqi_not (fun vs W hD => ?_) ?_
                     · ((try simp [DepA, isB, rsAt] at hD); simp [Region.wanted, yielded, hD]; done)
                     simp only [List.nil_append, List.cons_append])
                  | (refine seqi_call (f := 13) (fun v _ => v = .bool false) (stable_val _) (fun vs => #[.agg #[.int .i64 m1, .int .i64 m2, .int .i64 m3, .int .i64 m4], .agg #[.int .i64 sp, .int .i64 sq]]) (fun vs W hD => ?_) (fun vs W hS hD => ?_) (fun vs W hS hD => ?_) ?_
                     · (first | rfl | ((try simp [DepA, isB, rsAt] at hD); simp [Region.wanted, yielded, hD]; done))
                     · (clear hS; (try simp [DepA, isB, rsAt] at hD); (try simp only [hD]); go_simp; done)
                     · (exact (HR0.out W).mono fun e W' ⟨he, hB⟩ => ⟨⟨_, he, rfl⟩, hB⟩)
                     simp only [List.nil_append, List.cons_append])
                  | (refine seqi_call (f := 13) (fun v _ => v = .bool false) (stable_val _) (fun vs => #[.agg #[.int .i64 a1, .int .i64 a2, .int .i64 a3, .int .i64 a4], .agg #[.int .i64 sp, .int .i64 sq]]) (fun vs W hD => ?_) (fun vs W hS hD => ?_) (fun vs W hS hD => ?_) ?_
                     · (first | rfl | ((try simp [DepA, isB, rsAt] at hD); simp [Region.wanted, yielded, hD]; done))
                     · (clear hS; (try simp [DepA, isB, rsAt] at hD); (try simp only [hD]); go_simp; done)
                     · (exact (HR1.out W).mono fun e W' ⟨he, hB⟩ => ⟨⟨_, he, rfl⟩, hB⟩)
                     simp only [List.nil_append, List.cons_append])
                  | (refine seqi_run ?_ (fun vs W hD => ?_) (fun vs W hS hD => ?_) ?_
                     rotate_left
                     · (first | rfl | ((try simp [DepA, isB, rsAt] at hD); simp [Region.wanted, yielded, hD]; done))
                     (have hP := HP.out.later hS; obtain ⟨_, ⟨_, x1, x2, x3, x4⟩, ⟨_, y1, y2, y3, y4⟩, ⟨_, z1, z2⟩, ⟨_, u1, u2, u3, u4⟩, ⟨_, v1, v2, v3, v4⟩⟩ := hP; have d0 := (hS.cell (p := ⟨b, off + k * 2, none⟩) HLT.out).trans C0.out; have d1 := (hS.cell (p := ⟨b, off + k * 2 + 1, none⟩) HLT.out).trans C1.out; (try simp [DepA, isB, rsAt] at hD); (try simp only [hD]); (first | (go_simp; done) | (go_simp; rfl)))
                     simp only [List.nil_append, List.cons_append]))
                refine seqi_end fun vs W hS hv => ?_
                simp only [AllF, Nat.zero_add, Nat.reduceAdd] at hv
                obtain ⟨h0, h1, h2, h3, h4, h5, h6, h7, h8, h9, h10, h11, h12, h13, h14, h15, h16, h17, h18, h19, h20, h21, h22, h23, _⟩ := hv
                simp only [h0, h1, h2, h3, h4, h5, h6, h7, h8, h9, h10, h11, h12, h13, h14, h15, h16, h17, h18, h19, h20, h21, h22, h23]
                clear h0 h1 h2 h3 h4 h5 h6 h7 h8 h9 h10 h11 h12 h13 h14 h15 h16 h17 h18 h19 h20 h21 h22 h23
                have HPW := Lib.hid (HP.out.later hS)
                have HIW := Lib.hid (HI2.out.later hS)
                clear hS
                go_wp2_with fail
                go_roundw
                case rel => exact ⟨k + 1, by omega, by go_num, HPW.out, HIW.out⟩
                case measure => simp [intOf]; omega
              · obtain rfl : r0 = r2 := by have := HHS.out; simpa using this
                clear HHS
                cases r0
                · skip
                  refine wp_region_seqi (fun X => Below wr.heap.size wr X) (fun X X2 hB h => Below.next h hB) (by kernel_rfl) (by kernel_rfl) (by kernel_rfl) (Below.refl _ wr).drew ?_
                  simp only [putsL, Act.put, List.setIfInBounds_toArray, List.set_cons_zero, List.set_cons_succ, Nat.zero_add, Nat.reduceAdd]
                  repeat (first
                    | (refine seqi_not (fun vs W hD => ?_) ?_
                       · ((try simp [DepA, isB, rsAt] at hD); simp [Region.wanted, yielded, hD]; done)
                       simp only [List.nil_append, List.cons_append])
                    | (refine seqi_call (f := 13) (fun v _ => v = .bool false) (stable_val _) (fun vs => #[.agg #[.int .i64 m1, .int .i64 m2, .int .i64 m3, .int .i64 m4], .agg #[.int .i64 sp, .int .i64 sq]]) (fun vs W hD => ?_) (fun vs W hS hD => ?_) (fun vs W hS hD => ?_) ?_
                       · (first | rfl | ((try simp [DepA, isB, rsAt] at hD); simp [Region.wanted, yielded, hD]; done))
                       · (clear hS; (try simp [DepA, isB, rsAt] at hD); (try simp only [hD]); go_simp; done)
                       · (exact (HR0.out W).mono fun e W' ⟨he, hB⟩ => ⟨⟨_, he, rfl⟩, hB⟩)
                       simp only [List.nil_append, List.cons_append])
                    | (refine seqi_call (f := 13) (fun v _ => v = .bool true) (stable_val _) (fun vs => #[.agg #[.int .i64 a1, .int .i64 a2, .int .i64 a3, .int .i64 a4], .agg #[.int .i64 sp, .int .i64 sq]]) (fun vs W hD => ?_) (fun vs W hS hD => ?_) (fun vs W hS hD => ?_) ?_
                       · (first | rfl | ((try simp [DepA, isB, rsAt] at hD); simp [Region.wanted, yielded, hD]; done))
                       · (clear hS; (try simp [DepA, isB, rsAt] at hD); (try simp only [hD]); go_simp; done)
                       · (exact (HR1.out W).mono fun e W' ⟨he, hB⟩ => ⟨⟨_, he, rfl⟩, hB⟩)
                       simp only [List.nil_append, List.cons_append])
                    | (refine seqi_call (f := 13) (fun v _ => v = .bool false) (stable_val _) (fun vs => #[.agg #[.int .i64 b1, .int .i64 b2, .int .i64 b3, .int .i64 b4], .agg #[.int .i64 sp, .int .i64 sq]]) (fun vs W hD => ?_) (fun vs W hS hD => ?_) (fun vs W hS hD => ?_) ?_
                       · (first | rfl | ((try simp [DepA, isB, rsAt] at hD); simp [Region.wanted, yielded, hD]; done))
                       · (clear hS; (try simp [DepA, isB, rsAt] at hD); (try simp only [hD]); go_simp; done)
                       · (exact (HR2.out W).mono fun e W' ⟨he, hB⟩ => ⟨⟨_, he, rfl⟩, hB⟩)
                       simp only [List.nil_append, List.cons_append])
                    | (refine seqi_run ?_ (fun vs W hD => ?_) (fun vs W hS hD => ?_) ?_
                       rotate_left
                       · (first | rfl | ((try simp [DepA, isB, rsAt] at hD); simp [Region.wanted, yielded, hD]; done))
                       (have hP := HP.out.later hS; obtain ⟨_, ⟨_, x1, x2, x3, x4⟩, ⟨_, y1, y2, y3, y4⟩, ⟨_, z1, z2⟩, ⟨_, u1, u2, u3, u4⟩, ⟨_, v1, v2, v3, v4⟩⟩ := hP; have d0 := (hS.cell (p := ⟨b, off + k * 2, none⟩) HLT.out).trans C0.out; have d1 := (hS.cell (p := ⟨b, off + k * 2 + 1, none⟩) HLT.out).trans C1.out; (try simp [DepA, isB, rsAt] at hD); (try simp only [hD]); (first | (go_simp; done) | (go_simp; rfl)))
                       simp only [List.nil_append, List.cons_append]))
                  refine seqi_end fun vs W hS hv => ?_
                  simp only [AllF, Nat.zero_add, Nat.reduceAdd] at hv
                  obtain ⟨h0, h1, h2, h3, h4, h5, h6, h7, h8, h9, h10, h11, h12, h13, h14, h15, h16, h17, h18, h19, h20, h21, h22, h23, _⟩ := hv
                  simp only [h0, h1, h2, h3, h4, h5, h6, h7, h8, h9, h10, h11, h12, h13, h14, h15, h16, h17, h18, h19, h20, h21, h22, h23]
                  clear h0 h1 h2 h3 h4 h5 h6 h7 h8 h9 h10 h11 h12 h13 h14 h15 h16 h17 h18 h19 h20 h21 h22 h23
                  have HPW := Lib.hid (HP.out.later hS)
                  have HIW := Lib.hid (HI2.out.later hS)
                  clear hS
                  go_wp2_with fail
                  go_roundw
                  case rel => exact ⟨k + 1, by omega, by go_num, HPW.out, HIW.out⟩
                  case measure => simp [intOf]; omega
                · skip
                  refine wp_region_seqi (fun X => Below wr.heap.size wr X) (fun X X2 hB h => Below.next h hB) (by kernel_rfl) (by kernel_rfl) (by kernel_rfl) (Below.refl _ wr).drew ?_
                  simp only [putsL, Act.put, List.setIfInBounds_toArray, List.set_cons_zero, List.set_cons_succ, Nat.zero_add, Nat.reduceAdd]
                  repeat (first
                    | (refine seqi_not (fun vs W hD => ?_) ?_
                       · ((try simp [DepA, isB, rsAt] at hD); simp [Region.wanted, yielded, hD]; done)
                       simp only [List.nil_append, List.cons_append])
                    | (refine seqi_call (f := 13) (fun v _ => v = .bool true) (stable_val _) (fun vs => #[.agg #[.int .i64 m1, .int .i64 m2, .int .i64 m3, .int .i64 m4], .agg #[.int .i64 sp, .int .i64 sq]]) (fun vs W hD => ?_) (fun vs W hS hD => ?_) (fun vs W hS hD => ?_) ?_
                       · (first | rfl | ((try simp [DepA, isB, rsAt] at hD); simp [Region.wanted, yielded, hD]; done))
                       · (clear hS; (try simp [DepA, isB, rsAt] at hD); (try simp only [hD]); go_simp; done)
                       · (exact (HR0.out W).mono fun e W' ⟨he, hB⟩ => ⟨⟨_, he, rfl⟩, hB⟩)
                       simp only [List.nil_append, List.cons_append])
                    | (refine seqi_call (f := 13) (fun v _ => v = .bool true) (stable_val _) (fun vs => #[.agg #[.int .i64 a1, .int .i64 a2, .int .i64 a3, .int .i64 a4], .agg #[.int .i64 sp, .int .i64 sq]]) (fun vs W hD => ?_) (fun vs W hS hD => ?_) (fun vs W hS hD => ?_) ?_
                       · (first | rfl | ((try simp [DepA, isB, rsAt] at hD); simp [Region.wanted, yielded, hD]; done))
                       · (clear hS; (try simp [DepA, isB, rsAt] at hD); (try simp only [hD]); go_simp; done)
                       · (exact (HR1.out W).mono fun e W' ⟨he, hB⟩ => ⟨⟨_, he, rfl⟩, hB⟩)
                       simp only [List.nil_append, List.cons_append])
                    | (refine seqi_call (f := 13) (fun v _ => v = .bool true) (stable_val _) (fun vs => #[.agg #[.int .i64 b1, .int .i64 b2, .int .i64 b3, .int .i64 b4], .agg #[.int .i64 sp, .int .i64 sq]]) (fun vs W hD => ?_) (fun vs W hS hD => ?_) (fun vs W hS hD => ?_) ?_
                       · (first | rfl | ((try simp [DepA, isB, rsAt] at hD); simp [Region.wanted, yielded, hD]; done))
                       · (clear hS; (try simp [DepA, isB, rsAt] at hD); (try simp only [hD]); go_simp; done)
                       · (exact (HR2.out W).mono fun e W' ⟨he, hB⟩ => ⟨⟨_, he, rfl⟩, hB⟩)
                       simp only [List.nil_append, List.cons_append])
                    | (refine seqi_run ?_ (fun vs W hD => ?_) (fun vs W hS hD => ?_) ?_
                       rotate_left
                       · (first | rfl | ((try simp [DepA, isB, rsAt] at hD); simp [Region.wanted, yielded, hD]; done))
                       (have hP := HP.out.later hS; obtain ⟨_, ⟨_, x1, x2, x3, x4⟩, ⟨_, y1, y2, y3, y4⟩, ⟨_, z1, z2⟩, ⟨_, u1, u2, u3, u4⟩, ⟨_, v1, v2, v3, v4⟩⟩ := hP; have d0 := (hS.cell (p := ⟨b, off + k * 2, none⟩) HLT.out).trans C0.out; have d1 := (hS.cell (p := ⟨b, off + k * 2 + 1, none⟩) HLT.out).trans C1.out; (try simp [DepA, isB, rsAt] at hD); (try simp only [hD]); (first | (go_simp; done) | (go_simp; rfl)))
                       simp only [List.nil_append, List.cons_append]))
                  refine seqi_end fun vs W hS hv => ?_
                  simp only [AllF, Nat.zero_add, Nat.reduceAdd] at hv
                  obtain ⟨h0, h1, h2, h3, h4, h5, h6, h7, h8, h9, h10, h11, h12, h13, h14, h15, h16, h17, h18, h19, h20, h21, h22, h23, _⟩ := hv
                  simp only [h0, h1, h2, h3, h4, h5, h6, h7, h8, h9, h10, h11, h12, h13, h14, h15, h16, h17, h18, h19, h20, h21, h22, h23]
                  clear h0 h1 h2 h3 h4 h5 h6 h7 h8 h9 h10 h11 h12 h13 h14 h15 h16 h17 h18 h19 h20 h21 h22 h23
                  have HPW := Lib.hid (HP.out.later hS)
                  have HIW := Lib.hid (HI2.out.later hS)
                  clear hS
                  go_wp2_with fail
                  go_roundw
                  case rel => exact ⟨k + 1, by omega, by go_num, HPW.out, HIW.out⟩
                  case measure => simp [intOf]; omega
            · obtain rfl : k = 33 := by omega
              go_wp2_with fail
              refine (known _).mono ?_
              rintro e w6 ⟨rfl, hB6⟩
              have HB := Lib.hid (Below.next HP.out.1 hB6)
              clear hB6
              go_wp2_with fail
              go_ret
              exact ⟨rfl, HB.out⟩
end Go.Proofs.YtbkbikkieabcmaaDoor.Re
