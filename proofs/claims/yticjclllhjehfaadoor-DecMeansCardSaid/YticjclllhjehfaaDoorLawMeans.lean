/- The statement DecMeans: sums and means do not depend on the order. -/
import Derived.Test.YticjclllhjehfaaDoorLawMany
import Derived.Test.YticjclllhjehfaaDoorDecPow
import Derived.Deep.DeepCutAuto
import Derived.Deep.QuietTactic
import Derived.BigQuiet
namespace Go.Proofs.YticjclllhjehfaaDoor
open Go.RowKit

theorem infoI64 : (Tryd.prog.info? 2).map (fun i => (i.zero, i.size, i.bytes)) = some (some (.int .i64 0), 1, 8) := by kernel_rfl
/-- A list of numbers that the call itself has made. -/
def OwnI (w : World) (B : Nat) (v : Value) (zs : List Int) : Prop := w.ownsRow B 2 1 v zs.length (zs.map (Value.int .i64))
theorem OwnI.nil (w : World) (B : Nat) : OwnI w B (.slice none 0 0) [] := World.ownsRow_nil _ _ _ _
theorem OwnI.mem {w : World} {B : Nat} {v : Value} {zs : List Int} (h : OwnI w B v zs) (hne : zs ≠ []) : ∃ g cap, v = .slice (some ⟨g, 0, none⟩) zs.length cap ∧ B ≤ g ∧ InMem w g 0 zs := by
  have h' := h
  obtain ⟨_, h2⟩ := h
  rcases h2 with ⟨_, hn⟩ | ⟨g, cap, cur, rfl, hg, hh, hn, hc, hs, htake⟩
  · exact absurd (List.length_eq_zero_iff.1 hn) hne
  · refine ⟨g, cap, rfl, hg, ?_, ?_⟩
    · rcases Nat.lt_or_ge g w.heap.size with h | h
      · exact h
      · rw [Array.getElem?_eq_none h] at hh; cases hh
    · intro i hi
      have := World.ownsRow.cellAt h' i (by omega)
      rw [Nat.zero_add, this, List.getElem?_map, List.getElem?_eq_getElem hi, List.getD_eq_getElem?_getD, List.getElem?_eq_getElem hi]; rfl
theorem OwnI.later {w w1 : World} {v : Value} {zs : List Int} {B : Nat} (h : OwnI w B v zs) (hb : Below w.heap.size w w1) : OwnI w1 B v zs := by
  obtain ⟨h1, h2⟩ := h
  refine ⟨h1, ?_⟩
  rcases h2 with h2 | ⟨g, cap, cur, rfl, hg, hh, hn, hc, hs, htake⟩
  · exact .inl h2
  · refine .inr ⟨g, cap, cur, rfl, hg, ?_, hn, hc, hs, htake⟩
    rw [hb.block g (by
      rcases Nat.lt_or_ge g w.heap.size with h | h
      · exact h
      · rw [Array.getElem?_eq_none h] at hh; cases hh)]
    exact hh

theorem OwnI.block {w : World} {B : Nat} {v : Value} {zs : List Int} (h : OwnI w B v zs) : ∀ k, v.ownBlock = some k → B ≤ k := by
  intro k hk
  rcases h.2 with ⟨rfl, _⟩ | ⟨g, cap, cur, rfl, hg, _⟩
  · cases hk
  · simp only [Value.ownBlock, Option.some.injEq] at hk
    omega
/-- What the first loop has done after j rounds: the last j numbers, turned round; two bounds of them. -/
def Rnd (zs : List Int) (j : Nat) (L G : Int) : Prop := InI L ∧ InI G ∧ ∀ i, zs.length - j ≤ i → i < zs.length → L ≤ zs.getD i 0 ∧ zs.getD i 0 ≤ G
theorem drop_step {zs : List Int} {j : Nat} (h : j < zs.length) : (zs.drop (zs.length - (j + 1))).reverse = (zs.drop (zs.length - j)).reverse ++ [zs.getD (zs.length - (j + 1)) 0] := by
  have hk : zs.length - (j + 1) < zs.length := by omega
  rw [List.drop_eq_getElem_cons hk, List.reverse_cons, show zs.length - (j + 1) + 1 = zs.length - j by omega, List.getD_eq_getElem?_getD, List.getElem?_eq_getElem hk]; rfl

theorem Rnd.next {zs : List Int} {j : Nat} {L G z : Int} (h : Rnd zs j L G) (hz : zs.getD (zs.length - (j + 1)) 0 = z) (hI : InI z) : Rnd zs (j + 1) (if z < L then z else L) (if G < z then z else G) := by
  obtain ⟨a, b, c⟩ := h
  refine ⟨by split <;> assumption, by split <;> assumption, fun i h1 h2 => ?_⟩
  by_cases hi : i = zs.length - (j + 1)
  · rw [hi, hz]; constructor <;> split <;> omega
  · have := c i (by omega) h2
    constructor <;> split <;> omega
theorem sum_between {zs : List Int} {L G : Int} (h : ∀ z ∈ zs, L ≤ z ∧ z ≤ G) : (zs.length : Int) * L ≤ zs.sum ∧ zs.sum ≤ (zs.length : Int) * G := by
  induction zs with
  | nil => simp
  | cons a t ih =>
    have h1 := h a (by simp)
    have h2 := ih (fun z hz => h z (by simp [hz]))
    rw [List.sum_cons, List.length_cons]
    have e1 : ((t.length + 1 : Nat) : Int) * L = (t.length : Int) * L + L := by rw [Int.natCast_add, Int.add_mul]; simp
    have e2 : ((t.length + 1 : Nat) : Int) * G = (t.length : Int) * G + G := by rw [Int.natCast_add, Int.add_mul]; simp
    rw [e1, e2]
    omega
theorem near_le {x n u : Int} (hn : 1 ≤ n) (h : x ≤ n * u) : (x + n / 2) / n ≤ u := by
  apply Int.le_of_lt_add_one
  apply Int.ediv_lt_of_lt_mul (by omega)
  rw [Int.add_mul, Int.mul_comm u n]
  omega
theorem near_ge {x n u : Int} (hn : 1 ≤ n) (h : n * u ≤ x) : u ≤ (x + n / 2) / n := by
  apply Int.le_ediv_of_mul_le (by omega)
  rw [Int.mul_comm u n]
  omega
theorem mean_between {zs : List Int} {L G : Int} (h1 : 1 ≤ zs.length) (h : ∀ z ∈ zs, L ≤ z ∧ z ≤ G) : L ≤ meanZ zs ∧ meanZ zs ≤ G := by
  obtain ⟨a, b⟩ := sum_between h
  have hn : (1 : Int) ≤ zs.length := by omega
  unfold meanZ
  by_cases hs : zs.sum < 0
  · rw [size_n hs, ltB_t hs]
    simp only [sg, if_true]
    have g1 := near_le (x := -zs.sum) (n := zs.length) (u := -L) hn (by rw [Int.mul_neg]; omega)
    have g2 := near_ge (x := -zs.sum) (n := zs.length) (u := -G) hn (by rw [Int.mul_neg]; omega)
    omega
  · rw [size_p hs, ltB_f hs]
    have g1 := near_le (x := zs.sum) (n := zs.length) (u := G) hn b
    have g2 := near_ge (x := zs.sum) (n := zs.length) (u := L) hn a
    simp only [sg]
    exact ⟨g2, g1⟩
theorem mean_turned (zs : List Int) : meanZ zs.reverse = meanZ zs := by unfold meanZ; rw [List.sum_reverse, List.length_reverse]
theorem sum_rep (m : Nat) (z : Int) : (List.replicate m z).sum = (m : Int) * z := by
  induction m with
  | zero => simp
  | succ m ih => rw [List.replicate_succ, List.sum_cons, ih, Int.natCast_add, Int.add_mul]; omega
theorem mean_rep {m : Nat} {z : Int} (h : 1 ≤ m) : meanZ (List.replicate m z) = z := by
  have := mean_between (zs := List.replicate m z) (L := z) (G := z) (by simpa using h) (fun y hy => by rw [(List.mem_replicate.1 hy).2]; exact ⟨Int.le_refl _, Int.le_refl _⟩)
  omega
theorem sum_parts (zs : List Int) (k : Nat) : (zs.take k).sum + (zs.drop k).sum = zs.sum := by rw [← List.sum_append, List.take_append_drop]
theorem InMem.part {w : World} {b off : Nat} {zs : List Int} (h : InMem w b off zs) (k : Nat) (hk : k ≤ zs.length) : InMem w b off (zs.take k) ∧ InMem w b (off + k) (zs.drop k) := by
  refine ⟨⟨h.1, fun i hi => ?_⟩, ⟨h.1, fun i hi => ?_⟩⟩
  · rw [List.length_take] at hi
    rw [h.2 i (by omega), List.getD_eq_getElem?_getD, List.getD_eq_getElem?_getD, List.getElem?_take, if_pos (by omega)]
  · rw [List.length_drop] at hi
    rw [show off + k + i = off + (k + i) by omega, h.2 (k + i) (by omega), List.getD_eq_getElem?_getD, List.getD_eq_getElem?_getD, List.getElem?_drop]
theorem Rnd.all {zs : List Int} {L G : Int} (h : Rnd zs zs.length L G) : ∀ z ∈ zs, L ≤ z ∧ z ≤ G := by
  intro z hz
  obtain ⟨i, hi, rfl⟩ := List.mem_iff_getElem.1 hz
  have := h.2.2 i (by omega) hi
  rwa [List.getD_eq_getElem?_getD, List.getElem?_eq_getElem hi, Option.getD_some] at this
/-- The place where the list is cut. -/
theorem cut_place {c n : Int} (hn : 1 ≤ n) : 0 ≤ (c.tmod n + n).tmod n ∧ (c.tmod n + n).tmod n < n ∧ -n < c.tmod n ∧ c.tmod n < n := by
  have h1 := Int.tmod_lt_of_pos c (show 0 < n by omega)
  have h2 : -n < c.tmod n := by
    rcases Int.le_total 0 c with h | h
    · have := Int.tmod_nonneg n h; omega
    · obtain ⟨d, rfl⟩ : ∃ d, c = -d := ⟨-c, by omega⟩
      rw [Int.neg_tmod]
      have := Int.tmod_lt_of_pos d (show 0 < n by omega)
      omega
  exact ⟨Int.tmod_nonneg _ (by omega), Int.tmod_lt_of_pos _ (by omega), h2, h1⟩

set_option maxRecDepth 100000 in
set_option maxHeartbeats 1600000 in
theorem means_up (b off cap : Nat) (zs : List Int) (c n : Int) (hz : ∀ z ∈ zs, InI z) (hl : zs.length ≤ 100) (h1 : 1 ≤ zs.length) (hcap : zs.length ≤ cap) (w : World) (hm : InMem w b off zs) :
    Calls Tryd.prog 9 #[.slice (some ⟨b, off, none⟩) zs.length cap, .int .i64 c, .int .i64 n] w fun e w' => e = .returned (.bool true) ∧ Below w.heap.size w w' := by
  have HZ := Lib.hid hz
  have HM := Lib.hid hm
  obtain ⟨i0, hi, hz0, hz1, hz2⟩ := info_parts infoI64
  have hc0 : w.cell? ⟨b, off, none⟩ = some (.int .i64 (zs.getD 0 0)) := by have := hm.2 0 (by omega); simpa using this
  obtain ⟨z0, HZ0⟩ : ∃ z, Hid (zs.getD 0 0 = z) := ⟨_, rfl⟩
  have hI0 : Hid (InI z0) := by rw [← HZ0.out]; exact getD_InI hz 0 (by omega)
  rw [HZ0.out] at hc0
  have hne : ((zs.length : Int) == 0) = false := by rw [beq_eq_false_iff_ne]; omega
  clear hz hm
  go_enter Tryd.func9, Tryd.ntmps9
  go_upto_region 4 with (fail)
  have hp0 : (0 : Int) < (zs.length : Int) := by omega
  go_quiet (fail)
  go_wp2_with fail
  go_loopw [7, 8, 9, 10] (fun t l g i wr => ∃ (j : Nat) (L G : Int), j ≤ zs.length ∧ i = .int .i64 ((zs.length : Int) - 1 - j) ∧ l = .int .i64 L ∧ g = .int .i64 G ∧ OwnI wr w.heap.size t (zs.drop (zs.length - j)).reverse ∧ Below w.heap.size w wr ∧ Rnd zs j L G) (fun _ _ _ i _ => (intOf i + 1).toNat)
  case atStart => exact ⟨0, z0, z0, by omega, by go_num, rfl, rfl, by rw [Nat.sub_zero, List.drop_length]; exact OwnI.nil _ _, below_drewN _ _, hI0.out, hI0.out, fun i h1 h2 => by omega⟩
  case round =>
    rename_i wr
    obtain ⟨j, L, G, hj, rfl, rfl, rfl, hown, hB, hR⟩ := hrel
    by_cases hlt : j < zs.length
    · obtain ⟨z, HZ1⟩ : ∃ z, Hid (zs.getD (zs.length - (j + 1)) 0 = z) := ⟨_, rfl⟩
      have hcell : wr.cell? ⟨b, off + (zs.length - 1 - j), none⟩ = some (.int .i64 z) := by
        have h2 := (hB.cell (p := ⟨b, off + (zs.length - (j + 1)), none⟩) HM.out.1).trans (HM.out.2 _ (by omega))
        rw [HZ1.out] at h2
        rw [show zs.length - 1 - j = zs.length - (j + 1) by omega]
        exact h2
      have hownr : wr.ownsRow w.heap.size 2 1 u7 (zs.drop (zs.length - j)).reverse.length ((zs.drop (zs.length - j)).reverse.map (Value.int .i64)) := hown
      have hlen : (zs.drop (zs.length - j)).reverse.length = j := by rw [List.length_reverse, List.length_drop]; omega
      have HLEN := Lib.hid hlen
      have HOWN := Lib.hid hown
      clear hlen hown
      go_wp2_with (at_builtin; refine wpList_append_own _ rfl _ _ 22 rfl w.heap.size 2 i0 (.int .i64 0) 1 8 Tryd.underlying22 hi hz0 hz1 hz2 rfl (by decide) _ _ _ rfl (hownr.alloc _) ⟨wr.heap.size, 0, none⟩ 1 1 [.int .i64 z] rfl rfl ?c1 ?c2 ?c3 ?c4 ?c5 ?_)
      case c1 =>
        intro q u hq
        match q, hq with
        | 0, hq => simp at hq; subst hq; simp [Addr.add]
      case c2 => intro u hu; simp at hu; subst hu; rfl
      case c3 => have := HLEN.out; unfold maxLen; omega
      case c4 => have := HLEN.out; omega
      case c5 => have := hB.size; simp; omega
      · intro v' w1 hown' hgrow _
        have e1 : (List.drop (zs.length - j) (List.map (Value.int .i64) zs)).reverse ++ [Value.int .i64 z] = ((zs.drop (zs.length - (j + 1))).reverse).map (Value.int .i64) := by rw [drop_step hlt, HZ1.out]; simp
        have e2 : zs.length - (zs.length - j) + 1 = ((zs.drop (zs.length - (j + 1))).reverse).length := by rw [List.length_reverse, List.length_drop]; omega
        rw [e1, e2] at hown'
        have HOW1 : Hid (OwnI w1 w.heap.size v' (zs.drop (zs.length - (j + 1))).reverse) := hown'
        have hB1 : Below w.heap.size w w1 := (hB.alloc hB.size _).grown hgrow (by have := hB.size; simp; omega) HOWN.out.block
        have hcell1 : w1.cell? ⟨b, off + (zs.length - 1 - j), none⟩ = some (.int .i64 z) := by
          have h2 := (hB1.cell (p := ⟨b, off + (zs.length - (j + 1)), none⟩) HM.out.1).trans (HM.out.2 _ (by omega))
          rw [HZ1.out] at h2
          rw [show zs.length - 1 - j = zs.length - (j + 1) by omega]
          exact h2
        have HR := Lib.hid hR
        clear hown' hgrow e1 e2 hcell hownr hB hR
        have hlt2 := Lib.hid hlt
        have hi1 : (zs.length : Int) - 1 - j < zs.length := by omega
        have hi2 : 0 ≤ (zs.length : Int) - 1 - j := by omega
        go_wp2_with fail
        go_quiet (fail)
        go_wp2_with fail
        go_roundw
        case rel => exact ⟨j + 1, _, _, (by have := hlt2.out; omega), by go_num, rfl, rfl, HOW1.out, hB1.trans ⟨rfl, rfl, rfl, Nat.le_refl _, fun _ _ => rfl⟩, HR.out.next HZ1.out (by rw [← HZ1.out]; exact getD_InI HZ.out _ (by have := hlt2.out; omega))⟩
        case measure => have := hlt2.out; simp only [intOf]; omega
    · have hj' : j = zs.length := by omega
      have hall : Hid (∀ z ∈ zs, L ≤ z ∧ z ≤ G) := by rw [hj'] at hR; exact hR.all
      have hown2 : OwnI wr w.heap.size u7 zs.reverse := by rw [hj', Nat.sub_self, List.drop_zero] at hown; exact hown
      obtain ⟨g, cap2, rfl, hg, hM2⟩ := hown2.mem (by intro h; have h0 := congrArg List.length h; rw [List.length_reverse, List.length_nil] at h0; omega)
      have HM2 := Lib.hid hM2
      have HM1 := Lib.hid (HM.out.later hB)
      have hzr : Hid (∀ z ∈ zs.reverse, InI z) := fun z hz => HZ.out z (List.mem_reverse.1 hz)
      have hbt := Lib.hid (mean_between h1 hall.out)
      have hGI0 := Lib.hid hR.2.1
      have k1 := fun w hm => dsum_any g 0 cap2 zs.reverse hzr.out (by rw [List.length_reverse]; omega) w hm
      have k2 := fun w hm => dmean_b g 0 cap2 zs.reverse hzr.out (by rw [List.length_reverse]; omega) (by rw [List.length_reverse]; omega) w hm
      rw [List.length_reverse, List.sum_reverse] at k1
      rw [List.length_reverse, mean_turned] at k2
      have K1 := Lib.hid k1
      have K2 := Lib.hid k2
      clear k1 k2 hM2 hown hown2 hR hall hc0
      go_wp2_with fail
      refine (dsum_any b off cap zs HZ.out (by omega) _ HM1.out).mono ?_
      rintro e w2 ⟨rfl, rfl⟩
      go_wp2_with fail
      refine (K1.out _ HM2.out).mono ?_
      rintro e w2 ⟨rfl, rfl⟩
      go_wp2_with fail
      refine (dmean_b b off cap zs HZ.out (by omega) h1 _ HM1.out).mono ?_
      rintro e w2 ⟨rfl, hB2⟩
      go_wp2_with fail
      refine (K2.out _ (HM2.out.later hB2)).mono ?_
      rintro e w3 ⟨rfl, hB3⟩
      have HM3 := Lib.hid ((HM1.out.later hB2).later hB3)
      have hBB : Below w.heap.size w w3 := Below.next (Below.next hB hB2) hB3
      clear hB2 hB3 hB HM1 HM2 K1 K2
      go_upto_region 14 with (fail)
      have hGI : Hid (G ≤ 9223372036854775807) := hGI0.out.2
      go_cut [15, 16, 17, 18, 128] (fun _ _ _ _ t wx => t = .bool false ∧ wx = w3)
      case first =>
        cases hb : resB (meanZ zs)
        · have hL : L < -9223372036854775807 := by
            rcases Int.lt_or_le L (-9223372036854775807) with h | h
            · exact h
            · have := hbt.out
              have := hGI.out
              rw [resB_t (by omega)] at hb
              cases hb
          rw [resV_no hb]
          clear hb
          go_wp2_with fail
          go_meet
          exact ⟨congrArg Value.bool (decide_eq_false (by omega)), rfl⟩
        · have hv := Lib.hid (resV_of hb)
          rw [hv.out]
          clear hb
          obtain ⟨m, EM⟩ : ∃ m, Hid (meanZ zs = m) := ⟨_, rfl⟩
          have hm1 : L ≤ m := by rw [← EM.out]; exact hbt.out.1
          have hm2 : m ≤ G := by rw [← EM.out]; exact hbt.out.2
          rw [EM.out]
          go_wp2_with fail
          go_meet
          exact ⟨congrArg Value.bool (by rw [decide_eq_false (by omega), decide_eq_false (by omega)]; rfl), rfl⟩
      case rest =>
      obtain ⟨rfl, rfl⟩ := hcut
      have hlen1 : (1 : Int) ≤ (zs.length : Int) := by omega
      obtain ⟨q0, q1, q2, q3⟩ := cut_place (c := c) hlen1
      go_upto_region 17 with (fail)
      obtain ⟨k, EK⟩ : ∃ k : Nat, Hid ((c.tmod (zs.length : Int) + (zs.length : Int)) % (zs.length : Int) = (k : Int)) :=
        ⟨((c.tmod (zs.length : Int) + (zs.length : Int)) % (zs.length : Int)).toNat, (Int.toNat_of_nonneg (Int.emod_nonneg _ (by omega))).symm⟩
      have hk : k < zs.length := by
        have := Int.emod_lt_of_pos (c.tmod (zs.length : Int) + (zs.length : Int)) (show (0 : Int) < zs.length by omega)
        rw [EK.out] at this
        omega
      rw [EK.out]
      clear q0 q1 q2 q3 hlen1 hbt
      have hpart := Lib.hid (HM3.out.part k (by omega))
      have hl1 : (zs.take k).length = k := by rw [List.length_take]; omega
      have hl2 : (zs.drop k).length = zs.length - k := List.length_drop
      have t1 : Hid (∀ w, InMem w b off (zs.take k) → Calls Tryd.prog 13 #[.slice (some ⟨b, off, none⟩) k cap] w fun e w' => e = .returned (.tuple #[.int .i64 (resV (zs.take k).sum), .bool (resB (zs.take k).sum)]) ∧ w = w') := by
        intro w hm
        by_cases hk0 : k = 0
        · subst hk0
          refine (dsum_nil (some ⟨b, off, none⟩) cap w).mono ?_
          rintro e w1 ⟨he, hw⟩
          exact ⟨by rw [he, List.take_zero, List.sum_nil, resV_t (z := 0) (by omega), resB_t (z := 0) (by omega)], hw⟩
        · have := dsum_any b off cap (zs.take k) (fun z hz => HZ.out z (List.mem_of_mem_take hz)) (by omega) w hm
          rw [hl1] at this
          exact this
      have t2 : Hid (∀ w, InMem w b (off + k) (zs.drop k) → Calls Tryd.prog 13 #[.slice (some ⟨b, off + k, none⟩) (zs.length - k) (cap - k)] w fun e w' => e = .returned (.tuple #[.int .i64 (resV (zs.drop k).sum), .bool (resB (zs.drop k).sum)]) ∧ w = w') := by
        intro w hm
        have := dsum_any b (off + k) (cap - k) (zs.drop k) (fun z hz => HZ.out z (List.mem_of_mem_drop hz)) (by omega) w hm
        rw [hl2] at this
        exact this
      have HS := Lib.hid (sum_parts zs k)
      clear hl1 hl2
      obtain ⟨S1, E1⟩ : ∃ S1, Hid ((zs.take k).sum = S1) := ⟨_, rfl⟩
      obtain ⟨S2, E2⟩ : ∃ S2, Hid ((zs.drop k).sum = S2) := ⟨_, rfl⟩
      rw [E1.out] at t1 HS
      rw [E2.out] at t2 HS
      have nk : ¬ cap = k := by omega
      have nk2 : (k : Int) ≤ (zs.length : Int) := by omega
      have nk3 : (k : Int) ≤ (cap : Int) := by omega
      go_wp2_with fail
      refine (t1.out _ hpart.out.1).mono ?_
      rintro e w4 ⟨rfl, rfl⟩
      go_wp2_with fail
      refine (t2.out _ hpart.out.2).mono ?_
      rintro e w4 ⟨rfl, rfl⟩
      have HB := Lib.hid hBB
      clear hBB t1 t2 hpart nk nk2 nk3
      go_upto_region 19 with (fail)
      go_cut [21, 23, 156] (fun p q t wx => p = .bool (resB S1) ∧ q = .bool (resB S2) ∧ t = .bool (resB S1 && resB S2) ∧ wx = wc)
      case first =>
        cases h1 : resB S1 <;> cases h2 : resB S2 <;> (go_wp2_with fail; go_meet; exact ⟨by first | rfl | rw [h1], by first | rfl | rw [h2], by first | rfl | (rw [h1, h2]; rfl), rfl⟩)
      case rest =>
      obtain ⟨rfl, rfl, rfl, rfl⟩ := hcut
      obtain ⟨tt, ET⟩ : ∃ tt, Hid ((resB S1 && resB S2) = tt) := ⟨_, rfl⟩
      rw [ET.out]
      go_upto_if 156 with (fail)
      go_cut [20, 21, 22, 23, 24, 25, 156] (fun _ _ _ _ _ _ _ wx => wx = wc)
      case first =>
        cases tt
        · go_wp2_with fail
          go_meet
          rfl
        · have e1 := resV_of (Bool.and_eq_true_iff.1 ET.out).1
          have e2 := resV_of (Bool.and_eq_true_iff.1 ET.out).2
          have A := add_any (resV S1) (resV S2) (resV_InI _) (resV_InI _)
          rw [e1, e2, HS.out] at A
          rw [e1, e2]
          have A := Lib.hid A
          clear e1 e2
          go_wp2_with fail
          refine (A.out _).mono ?_
          rintro e w5 ⟨rfl, rfl⟩
          go_wp2_with fail
          go_meet
          rfl
      case rest =>
      subst hcut
      clear HS E1 E2
      obtain ⟨z, EZ⟩ : ∃ z, Hid (zs.getD k 0 = z) := ⟨_, rfl⟩
      have hIz : Hid (InI z) := by rw [← EZ.out]; exact getD_InI HZ.out _ hk
      obtain ⟨p0, p1, p2, p3⟩ := cut_place (c := n) (n := 9) (by omega)
      obtain ⟨m, em⟩ : ∃ m : Nat, (n.tmod 9 + 9) % 9 + 1 = (m : Int) := ⟨((n.tmod 9 + 9) % 9 + 1).toNat, by omega⟩
      go_upto_region 24 with (fail)
      go_wp2_with fail
      go_loopw [26, 27] (fun s i wr => ∃ j : Nat, j ≤ m ∧ i = .int .i64 j ∧ OwnI wr w.heap.size s (List.replicate j z) ∧ Below w.heap.size w wr) (fun _ i _ => m - (intOf i).toNat)
      case atStart => exact ⟨0, by omega, rfl, OwnI.nil _ _, HB.out⟩
      case round =>
        rename_i wr
        obtain ⟨jj, hj2, rfl, hown, hB⟩ := hrel
        by_cases hlt2 : jj < m
        · have hcell : wr.cell? ⟨b, off + k, none⟩ = some (.int .i64 z) := by
            have h2 := (hB.cell (p := ⟨b, off + k, none⟩) HM.out.1).trans (HM.out.2 k hk)
            rw [EZ.out] at h2
            exact h2
          have hownr : wr.ownsRow w.heap.size 2 1 u26 (List.replicate jj z).length ((List.replicate jj z).map (Value.int .i64)) := hown
          rw [List.length_replicate] at hownr
          have hbl := Lib.hid hown.block
          clear hown
          have hm9 : m ≤ 9 := by omega
          go_wp2_with (at_builtin; refine wpList_append_own _ rfl _ _ 22 rfl w.heap.size 2 i0 (.int .i64 0) 1 8 Tryd.underlying22 hi hz0 hz1 hz2 rfl (by decide) _ _ _ rfl (hownr.alloc _) ⟨wr.heap.size, 0, none⟩ 1 1 [.int .i64 z] rfl rfl ?c1 ?c2 ?c3 ?c4 ?c5 ?_)
          case c1 =>
            intro q u hq
            match q, hq with
            | 0, hq => simp at hq; subst hq; simp [Addr.add]
          case c2 => intro u hu; simp at hu; subst hu; rfl
          case c3 => unfold maxLen; omega
          case c4 => omega
          case c5 => have := hB.size; simp; omega
          · intro v' w1 hown' hgrow _
            have e1 : (List.replicate jj z).map (Value.int .i64) ++ [Value.int .i64 z] = (List.replicate (jj + 1) z).map (Value.int .i64) := by rw [List.replicate_succ', List.map_append]; rfl
            have e2 : jj + 1 = (List.replicate (jj + 1) z).length := (List.length_replicate ..).symm
            have HOW1 : Hid (OwnI w1 w.heap.size v' (List.replicate (jj + 1) z)) := by
              unfold OwnI
              rw [← e2, ← e1]
              first | exact hown' | (simp only [List.map_replicate] at hown' ⊢; exact hown')
            have hB1 : Below w.heap.size w w1 := (hB.alloc hB.size _).grown hgrow (by have := hB.size; simp; omega) hbl.out
            clear hown' hgrow e1 e2 hcell hownr hB
            have hlt3 := Lib.hid hlt2
            go_wp2_with fail
            go_roundw
            case rel => exact ⟨jj + 1, (by have := hlt3.out; omega), by go_num, HOW1.out, hB1⟩
            case measure => have := hlt3.out; simp only [intOf]; omega
        · have hj' : jj = m := by omega
          subst hj'
          obtain ⟨g3, cap3, rfl, hg3, hM3⟩ := hown.mem (by intro h; have h0 := congrArg List.length h; rw [List.length_replicate, List.length_nil] at h0; omega)
          have k3 := fun w hm => dmean_b g3 0 cap3 (List.replicate jj z) (fun y hy => by rw [(List.mem_replicate.1 hy).2]; exact hIz.out) (by rw [List.length_replicate]; omega) (by rw [List.length_replicate]; omega) w hm
          rw [List.length_replicate, mean_rep (by omega)] at k3
          rw [List.length_replicate]
          have K3 := Lib.hid k3
          have HM4 := Lib.hid hM3
          clear k3 hM3 hown
          go_wp2_with fail
          refine (K3.out _ HM4.out).mono ?_
          rintro e w4 ⟨rfl, hB4⟩
          have hB5 := Below.next hB hB4
          have hcell : w4.cell? ⟨b, off + k, none⟩ = some (.int .i64 z) := by
            have h2 := (hB5.cell (p := ⟨b, off + k, none⟩) HM.out.1).trans (HM.out.2 k hk)
            rw [EZ.out] at h2
            exact h2
          have HB5 := Lib.hid hB5
          clear hB hB4 hB5 K3 HM4
          cases hb : resB z
          · have hz2 : z < -9223372036854775807 := by
              rcases Int.lt_or_le z (-9223372036854775807) with h | h
              · exact h
              · have := hIz.out.2
                rw [resB_t (by omega)] at hb
                cases hb
            go_wp2_with fail
            refine (known_any _).mono ?_
            rintro e w5 ⟨rfl, hB6⟩
            go_wp2_with fail
            go_ret
            exact ⟨rfl, Below.next HB5.out hB6⟩
          · have hv := resV_of hb
            rw [hv]
            go_wp2_with fail
            refine (known_any _).mono ?_
            rintro e w5 ⟨rfl, hB6⟩
            go_wp2_with fail
            go_ret
            exact ⟨rfl, Below.next HB5.out hB6⟩
set_option maxRecDepth 100000 in
/-- DecMeans, of no numbers or of more than 100. -/
theorem means_other (a : Option Addr) (l cap : Nat) (c n : Int) (hl : ¬ (1 ≤ l ∧ l ≤ 100)) (w : World) :
    Calls Tryd.prog 9 #[.slice a l cap, .int .i64 c, .int .i64 n] w fun e w' => e = .returned (.bool true) ∧ Below w.heap.size w w' := by
  go_enter Tryd.func9, Tryd.ntmps9
  by_cases h : 100 < l
  · go_wp2_with fail
    refine (known_any _).mono ?_
    rintro e w1 ⟨rfl, hB⟩
    go_wp2_with fail
    go_ret
    exact ⟨rfl, hB⟩
  · have h0 : l = 0 := by omega
    subst h0
    go_wp2_with fail
    refine (known_any _).mono ?_
    rintro e w1 ⟨rfl, hB⟩
    go_wp2_with fail
    go_ret
    exact ⟨rfl, hB⟩
theorem decMeans_any (a : Option Addr) (len cap : Nat) (z : List Int) (c n : Int) (w : World)
    (h : (a = none ∧ len = 0 ∧ cap = 0 ∧ z = []) ∨ ∃ x, a = some x ∧ len ≤ cap ∧ cap ≤ maxLen ∧ z.length = cap ∧ (∀ i, i < z.length → w.cell? (x.add i) = some (.int .i64 (z.getD i 0))) ∧ ∀ n ∈ z, (Lit.int .i64 n).wf = true) :
    Calls Tryd.prog 9 #[.slice a len cap, .int .i64 c, .int .i64 n] w fun e w' => e = .returned (.bool true) ∧ Below w.heap.size w w' := by
  by_cases hl : 1 ≤ len ∧ len ≤ 100
  · have hcap : len ≤ cap := by rcases h with ⟨_, h1, h2, _⟩ | ⟨_, _, h1, _⟩ <;> omega
    obtain ⟨⟨he, hI, hn⟩, _⟩ := came_of h
    clear h
    rcases hn with hn | ⟨b, off, rfl, hm⟩
    · rw [hn] at he
      simp at he
      omega
    · revert he hI hm
      generalize z.take len = zs
      intro he hI hm
      subst he
      exact means_up b off cap zs c n hI hl.2 hl.1 hcap w hm
  · exact means_other a len cap c n hl w
end Go.Proofs.YticjclllhjehfaaDoor
