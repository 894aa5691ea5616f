/- The corners of a range, as the statements make them. -/
import Derived.Test.YtbkbikkieabcmaaDoorRectC
import Derived.Maps.AppendAt
import Derived.Deep.AppendLies
import Derived.OwnWalk
import Derived.LoopTactic
namespace Go.Proofs.YtbkbikkieabcmaaDoor.Re
open Go.RowKit AM
theorem infoRef : (Tryd.prog.info? 25).map (fun i => (i.zero, i.size, i.bytes)) = some (some (.agg #[.int .i64 0, .int .i64 0]), 2, 16) := by kernel_rfl
def cellsP (L : List (Int × Int)) : List Value := L.flatMap fun x => [.int .i64 x.1, .int .i64 x.2]
theorem cellsP_length (L : List (Int × Int)) : (cellsP L).length = L.length * 2 := by
  induction L with
  | nil => rfl
  | cons x L ih => unfold cellsP at *; rw [List.flatMap_cons, List.length_append, ih]; simp; omega
theorem cellsP_snoc (L : List (Int × Int)) (a b : Int) : cellsP L ++ [.int .i64 a, .int .i64 b] = cellsP (L ++ [(a, b)]) := by
  unfold cellsP; rw [List.flatMap_append]; rfl
theorem cellsP_at : ∀ (L : List (Int × Int)) (i : Nat) (h : i < L.length), (cellsP L)[2 * i]? = some (.int .i64 L[i].1) ∧ (cellsP L)[2 * i + 1]? = some (.int .i64 L[i].2) := by
  intro L
  induction L with
  | nil => intro i h; cases h
  | cons x L ih =>
    intro i h
    have e : cellsP (x :: L) = .int .i64 x.1 :: .int .i64 x.2 :: cellsP L := rfl
    rw [e]
    cases i with
    | zero => exact ⟨rfl, rfl⟩
    | succ i =>
      have := ih i (by simpa using h)
      rw [show 2 * (i + 1) = 2 * i + 1 + 1 by omega]
      simpa using this
/-- A list of addresses that the call itself has made. -/
def OwnP (w : World) (B : Nat) (v : Value) (L : List (Int × Int)) : Prop := w.ownsRow B 25 2 v L.length (cellsP L)
theorem OwnP.nil (w : World) (B : Nat) : OwnP w B (.slice none 0 0) [] := World.ownsRow_nil _ _ _ _
/-- Addresses lie in a row from the head of block g on. -/
def PRow (w : World) (g : Nat) (L : List (Int × Int)) : Prop := g < w.heap.size ∧ ∀ i (h : i < L.length), w.cell? ⟨g, 2 * i, none⟩ = some (.int .i64 L[i].1) ∧ w.cell? ⟨g, 2 * i + 1, none⟩ = some (.int .i64 L[i].2)
theorem PRow.later {w w' : World} {g : Nat} {L : List (Int × Int)} (h : PRow w g L) (hB : Below w.heap.size w w') : PRow w' g L := by
  obtain ⟨h0, h1⟩ := h
  obtain ⟨hc, _⟩ := bcell hB
  have hz := hB.size
  exact ⟨by omega, fun i hi => ⟨by rw [hc _ _ h0]; exact (h1 i hi).1, by rw [hc _ _ h0]; exact (h1 i hi).2⟩⟩
theorem OwnP.mem {w : World} {B : Nat} {v : Value} {L : List (Int × Int)} (h : OwnP w B v L) (hne : 0 < L.length) : ∃ g cap, v = .slice (some ⟨g, 0, none⟩) L.length cap ∧ B ≤ g ∧ L.length ≤ cap ∧ cap ≤ maxLen ∧ PRow w g L := by
  have h' := h
  obtain ⟨_, h2⟩ := h
  rcases h2 with ⟨_, hn⟩ | ⟨g, cap, cur, rfl, hg, hh, hn, hc, hs, htake⟩
  · omega
  · refine ⟨g, cap, rfl, hg, hn, hc, ?_, ?_⟩
    · rcases Nat.lt_or_ge g w.heap.size with h | h
      · exact h
      · rw [Array.getElem?_eq_none h] at hh; cases hh
    · intro i hi
      have h1 := World.ownsRow.cellAt h' (2 * i) (by omega)
      have h2 := World.ownsRow.cellAt h' (2 * i + 1) (by omega)
      have h3 := cellsP_at L i hi
      exact ⟨h1.trans h3.1, h2.trans h3.2⟩
theorem OwnP.later {w w1 : World} {v : Value} {L : List (Int × Int)} {B : Nat} (h : OwnP w B v L) (hb : Below w.heap.size w w1) : OwnP w1 B v L := by
  obtain ⟨h1, h2⟩ := h
  refine ⟨h1, ?_⟩
  rcases h2 with h2 | ⟨g, cap, cur, rfl, hg, hh, hn, hc, hs, htake⟩
  · exact .inl h2
  · refine .inr ⟨g, cap, cur, rfl, hg, ?_, hn, hc, hs, htake⟩
    rw [hb.block g (by
      rcases Nat.lt_or_ge g w.heap.size with h | h
      · exact h
      · rw [Array.getElem?_eq_none h] at hh; cases hh)]
    exact hh
theorem OwnP.block {w : World} {B : Nat} {v : Value} {L : List (Int × Int)} (h : OwnP w B v L) : ∀ k, v.ownBlock = some k → B ≤ k ∧ k < w.heap.size := World.ownsRow.lt h
/-- Four integers in block p, apart from the row that grew. -/
theorem Four.far {w w' : World} {row : Option Nat} {p : Nat} {a b c d : Int} (h : Four w p a b c d) (hg : w.grownBy w' row) (hne : some p ≠ row) : Four w' p a b c d := by
  obtain ⟨h0, h1, h2, h3, h4⟩ := h
  have hz := hg.size
  exact ⟨by omega, by rw [hg.cell_far _ h0 hne]; exact h1, by rw [hg.cell_far _ h0 hne]; exact h2, by rw [hg.cell_far _ h0 hne]; exact h3, by rw [hg.cell_far _ h0 hne]; exact h4⟩
theorem Four.cell {w : World} {p : Nat} {a b c d : Int} (h : Four w p a b c d) {k : Nat} (hk : k < 4) : ∃ x, w.cell? ⟨p, k, none⟩ = some (.int .i64 x) := by
  obtain ⟨_, h1, h2, h3, h4⟩ := h
  match k, hk with
  | 0, _ => exact ⟨_, h1⟩
  | 1, _ => exact ⟨_, h2⟩
  | 2, _ => exact ⟨_, h3⟩
  | 3, _ => exact ⟨_, h4⟩
theorem OwnP.lower {w : World} {B B' : Nat} {v : Value} {L : List (Int × Int)} (h : OwnP w B v L) (hB : B' ≤ B) : OwnP w B' v L := by
  obtain ⟨h1, h2⟩ := h
  refine ⟨h1, ?_⟩
  rcases h2 with h2 | ⟨g, cap, cur, rfl, hg, hrest⟩
  · exact .inl h2
  · exact .inr ⟨g, cap, cur, rfl, by omega, hrest⟩
theorem own_apart {v v' : Value} {p n : Nat} (h : ∀ q, v.ownBlock = some q → q ≠ p) (hat : v'.ownBlock = v.ownBlock ∨ v'.ownBlock = some (n + 1)) (hp : p < n) : ∀ q, v'.ownBlock = some q → q ≠ p := by
  intro q hq
  rcases hat with h1 | h1
  · exact h q (by rw [← h1]; exact hq)
  · rw [h1] at hq
    have := Option.some.inj hq
    omega
set_option maxRecDepth 100000 in
set_option maxHeartbeats 3200000 in
theorem corners_any (a b c d : Int) (h1 : 1 ≤ a ∧ a ≤ 1024) (h2 : 1 ≤ b ∧ b ≤ 1024) (h3 : 1 ≤ c ∧ c ≤ 1024) (h4 : 1 ≤ d ∧ d ≤ 1024) (w : World) :
    Calls Tryd.prog 12 #[.agg #[.int .i64 a, .int .i64 b, .int .i64 c, .int .i64 d]] w fun e w' => (∃ v L, e = .returned v ∧ OwnP w' w.heap.size v L ∧ L.length = 16) ∧ Below w.heap.size w w' := by
  obtain ⟨i0, hi, hz0, hz1, hz2⟩ := info_parts infoRef
  go_enter Tryd.func12, Tryd.ntmps12
  go_wp2_with fail
  go_loopw [3, 20] (fun s i wr => ∃ k : Nat, k ≤ 4 ∧ i = .int .i64 k ∧ ∃ L : List (Int × Int), OwnP wr (w.heap.size + 2) s L ∧ L.length = 4 * k ∧ Four wr w.heap.size a b c d ∧ Four wr (w.heap.size + 1) (a - 1) a c (c + 1) ∧ Below w.heap.size w wr) (fun _ i _ => 4 - (intOf i).toNat)
  case atStart =>
    exact ⟨0, by omega, rfl, [], OwnP.nil _ _, rfl, (Four.start w a b c d _).later (below_alloc _ _), (alloc_size w _) ▸ Four.start (w.alloc _) (a - 1) a c (c + 1) _, Below.next (below_alloc w _) (below_alloc _ _)⟩
  case round =>
    obtain ⟨k, hk, rfl, L, hown, hL, hF, hG, hB⟩ := hrel
    by_cases hlt : k < 4
    · obtain ⟨x, hx⟩ := hG.cell hlt
      obtain ⟨hz, f1, f2, f3, f4⟩ := id hF
      have HF := Lib.hid hF
      have HG := Lib.hid hG
      have HB := Lib.hid hB
      have HO := Lib.hid hown
      have HL := Lib.hid hL
      clear hF hG hB hown hL
      have hk4 : (k : Int) < 4 := by omega
      go_wp2_with fail
      go_loopw [3, 36] (fun s i wq => ∃ j : Nat, j ≤ 4 ∧ i = .int .i64 j ∧ ∃ M : List (Int × Int), OwnP wq (w.heap.size + 2) s M ∧ M.length = 4 * k + j ∧ (∀ q, s.ownBlock = some q → q ≠ wr.heap.size) ∧ Four wq w.heap.size a b c d ∧ Four wq (w.heap.size + 1) (a - 1) a c (c + 1) ∧ Four wq wr.heap.size (b - 1) b d (d + 1) ∧ Below w.heap.size w wq) (fun _ i _ => 4 - (intOf i).toNat)
      case atStart =>
        exact ⟨0, by omega, rfl, L, HO.out.later (below_alloc _ _), HL.out, fun q hq => by have := (HO.out.block q hq).2; omega, HF.out.later (below_alloc _ _), HG.out.later (below_alloc _ _), Four.start wr (b - 1) b d (d + 1) _, Below.next HB.out (below_alloc _ _)⟩
      case round =>
        obtain ⟨j, hj, rfl, M, hown, hM, hq, hF, hG, hI, hB⟩ := hrel
        have HF := Lib.hid hF
        have HG := Lib.hid hG
        have HI := Lib.hid hI
        have HB := Lib.hid hB
        have HO := Lib.hid hown
        have HM := Lib.hid hM
        have HQ := Lib.hid hq
        by_cases hjt : j < 4
        · obtain ⟨y, hy⟩ := hI.cell hjt
          have hownr : wr.ownsRow (w.heap.size + 2) 25 2 u3 M.length (cellsP M) := hown
          clear hF hG hI hB hown hM hq
          go_wp2_with (at_builtin; refine wpList_append_own_at _ rfl _ _ 32 rfl (w.heap.size + 2) 25 i0 (.agg #[.int .i64 0, .int .i64 0]) 2 16 Tryd.underlying32 hi hz0 hz1 hz2 rfl (by decide) _ _ _ rfl (hownr.alloc _) ⟨wr.heap.size, 0, none⟩ 1 1 [.int .i64 x, .int .i64 y] rfl rfl ?c1 ?c2 ?c3 ?c4 ?c5 ?_)
          case c1 =>
            intro q u hq
            match q, hq with
            | 0, hq => simp at hq; subst hq; simp [Addr.add]
            | 1, hq => simp at hq; subst hq; simp [Addr.add]
          case c2 => intro u hu; simp at hu; rcases hu with rfl | rfl <;> rfl
          case c3 => have := HM.out; unfold maxLen; omega
          case c4 => have := HM.out; omega
          case c5 => have := HG.out.1; simp; omega
          · intro v' w1 hown' hgrow _ hat
            have e2 : M.length + 1 = (M ++ [(x, y)]).length := by simp
            have HO1 : Hid (OwnP w1 (w.heap.size + 2) v' (M ++ [(x, y)])) := by rw [cellsP_snoc, e2] at hown'; exact hown'
            have l := below_alloc wr (.cells #[.int .i64 x, .int .i64 y] 25)
            have HF1 := Lib.hid ((HF.out.later l).far hgrow (fun h => by have := (HO.out.block _ h.symm).1; omega))
            have HG1 := Lib.hid ((HG.out.later l).far hgrow (fun h => by have := (HO.out.block _ h.symm).1; omega))
            have HI1 := Lib.hid ((HI.out.later l).far hgrow (fun h => HQ.out _ h.symm rfl))
            have HB1 := Lib.hid ((HB.out.alloc HB.out.size _).grown hgrow (by have := HB.out.size; simp; omega) (fun q hq => by have := (HO.out.block q hq).1; omega))
            have HQ1 := Lib.hid (own_apart HQ.out hat HI.out.1)
            have HM1 : Hid ((M ++ [(x, y)]).length = 4 * k + (j + 1)) := by have := HM.out; unfold Hid; simp; omega
            clear hown' hgrow hat l e2 hownr hy HF HG HI HB HO HQ HM
            go_wp2_with fail
            go_roundw
            case rel => exact ⟨j + 1, by omega, by go_num, _, HO1.out, HM1.out, HQ1.out, HF1.out, HG1.out, HI1.out, HB1.out⟩
            case measure => simp [intOf]; omega
        · obtain rfl : j = 4 := by omega
          clear hF hG hI hB hown hM hq
          go_wp2_with fail
          go_roundw
          case rel => exact ⟨k + 1, by omega, by go_num, M, HO.out, by have := HM.out; omega, HF.out, HG.out, HB.out⟩
          case measure => simp [intOf]; omega
    · obtain rfl : k = 4 := by omega
      go_wp2_with fail
      go_ret
      exact ⟨⟨_, L, rfl, hown.lower (by omega), by omega⟩, hB⟩
theorem corners_row (a b c d : Int) (hr : (1 ≤ a ∧ a ≤ 1024) ∧ (1 ≤ b ∧ b ≤ 1024) ∧ (1 ≤ c ∧ c ≤ 1024) ∧ (1 ≤ d ∧ d ≤ 1024)) (Z : Nat) (w : World) (hZ : Z ≤ w.heap.size) :
    Calls Tryd.prog 12 #[.agg #[.int .i64 a, .int .i64 b, .int .i64 c, .int .i64 d]] w fun e w' =>
      ∃ g cap L, e = .returned (.slice (some ⟨g, 0, none⟩) 16 cap) ∧ L.length = 16 ∧ OwnP w' Z (.slice (some ⟨g, 0, none⟩) 16 cap) L ∧ Below w.heap.size w w' := by
  refine (corners_any a b c d hr.1 hr.2.1 hr.2.2.1 hr.2.2.2 w).mono ?_
  rintro e w' ⟨⟨v, L, rfl, hO, hL⟩, hB⟩
  obtain ⟨g, cap, rfl, _⟩ := hO.mem (by omega)
  rw [hL] at hO ⊢
  exact ⟨g, cap, L, rfl, hL, hO.lower hZ, hB⟩
end Go.Proofs.YtbkbikkieabcmaaDoor.Re
