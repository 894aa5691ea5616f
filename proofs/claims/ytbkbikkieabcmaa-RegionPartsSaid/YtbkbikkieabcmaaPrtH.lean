/- The contract of region.Parts. -/
import Derived.Test.YtbkbikkieabcmaaPrtG
namespace Go.Proofs.Ytbkbikkieabcmaa.Re
open Go.RowKit AM
set_option linter.unusedVariables false
set_option linter.unusedSimpArgs false
/-- A list of one's own is kept where another one, of another type, has grown. -/
theorem OwnOf.apart {α β : Type} {c : α → List Value} {c' : β → List Value} {n n' : Nat} {e e' : TypeId} {B B' : Nat} {w w1 : World} {v v' : Value} {L : List α} {L' : List β} (h : OwnOf e c n B w v L) (k : OwnOf e' c' n' B' w v' L') (hne : e ≠ e') (hg : w.grownBy w1 v'.ownBlock) : OwnOf e c n B w1 v L := by
  refine World.ownsRow.kept h hg ?_
  rcases h.2 with ⟨rfl, _⟩ | ⟨g, cap, cur, rfl, _, hh, _⟩
  · exact .inl rfl
  · right
    intro he
    rcases k.2 with ⟨rfl, _⟩ | ⟨g', cap', cur', rfl, _, hh', _⟩
    · cases he
    · simp only [Value.ownBlock, Option.some.injEq] at he
      subst he
      rw [hh] at hh'
      injection hh' with hh'
      injection hh' with _ h2 _
      exact hne h2
/-- A block behind a row that grew. -/
theorem cell_apart {α : Type} {c : α → List Value} {n : Nat} {e : TypeId} {B z : Nat} {w w1 : World} {v : Value} {L : List α} (k : OwnOf e c n B w v L) (hg : w.grownBy w1 v.ownBlock) (hz : z < w.heap.size) (hne : ∀ g, v.ownBlock = some g → g ≠ z) (j : Nat) : w1.cell? ⟨z, j, none⟩ = w.cell? ⟨z, j, none⟩ :=
  World.cell?_of_block (a := ⟨z, j, none⟩) (hg.block z hz (fun e => hne z e.symm rfl))
theorem isOf_at {α : Type} {c : α → List Value} {n : Nat} (w : World) (cs : Array Value) (t : TypeId) (x : α) (q : Nat) (hq : q = w.heap.size) (h : cs = (c x).toArray) : IsOf c n (w.alloc (.cells cs t)) (some ⟨q, 0, none⟩) 1 [x] := by
  subst hq; exact isOf_new w cs t x h
def rects (D : List (R4 × Nat)) : List R4 := D.map (·.1)
def idxs (D : List (R4 × Nat)) : List Int := D.map fun x => (x.2 : Int)
set_option maxRecDepth 100000 in
set_option maxHeartbeats 6400000 in
theorem parts_any (r1 r2 r3 r4 : Int) (a : Option Addr) (len cap : Nat) (L : List RV) (hl : len ≤ 100000) (w : World) (hL : IsL w a len L) :
    Calls Try.prog 7 #[.agg #[.int .i64 r1, .int .i64 r2, .int .i64 r3, .int .i64 r4], .slice a len cap] w fun e w' => (∃ u v, e = .returned (.tuple #[u, v, .int .i64 (gcE ⟨r1, r2, r3, r4⟩ L)]) ∧
      (gcE ⟨r1, r2, r3, r4⟩ L = 0 → ∃ D, Sorts (downL L (L.length - 1) ⟨r1, r2, r3, r4⟩) D ∧ OwnR w.heap.size w' u (rects D) ∧ OwnN w.heap.size w' v (idxs D)) ∧ (¬ gcE ⟨r1, r2, r3, r4⟩ L = 0 → u = .slice none 0 0 ∧ v = .slice none 0 0)) ∧ Below w.heap.size w w' := by
  obtain ⟨gE, hgE⟩ : ∃ g, gcE ⟨r1, r2, r3, r4⟩ L = g := ⟨_, rfl⟩
  obtain ⟨D0, hD0⟩ : ∃ D0, downL L (L.length - 1) ⟨r1, r2, r3, r4⟩ = D0 := ⟨_, rfl⟩
  rw [hgE, hD0]
  have HGE := Lib.hid hgE
  have HD0 := Lib.hid hD0
  clear hgE hD0
  have HL := Lib.hid hL
  have HLL := Lib.hid hL.1
  clear hL
  have HF := Lib.hid (Four.start w r1 r2 r3 r4 23)
  have HB := Lib.hid (below_alloc w (.cells #[.int .i64 r1, .int .i64 r2, .int .i64 r3, .int .i64 r4] 23))
  go_enter Try.func7, Try.ntmps7
  go_wp2_with fail
  generalize w.alloc (.cells #[.int .i64 r1, .int .i64 r2, .int .i64 r3, .int .i64 r4] 23) = w0 at *
  refine (gcheck_any r1 r2 r3 r4 a len cap L hl _ (HL.out.later HB.out)).mono ?_
  rintro e w1 ⟨he, hB1⟩
  rw [HGE.out] at he
  subst he
  have HF1 := Lib.hid (HF.out.later hB1)
  have HB1 := Lib.hid (Below.next HB.out hB1)
  clear hB1 HF HB
  obtain ⟨_, e1, e2, e3, e4⟩ := HF1.out
  by_cases hz : gE = 0
  rotate_left
  · have HZ := Lib.hid hz
    have hz1 : (gE != 0) = true := by simpa using hz
    have hz2 : (gE == 0) = false := by simpa using hz
    clear hz
    go_wp2_with fail
    go_ret3
    exact ⟨⟨_, _, rfl, fun h => absurd h HZ.out, fun _ => ⟨rfl, rfl⟩⟩, HB1.out⟩
  subst hz
  obtain ⟨hrk, hrc⟩ := gcE_zero.1 HGE.out
  obtain ⟨h0, h64, hsh, hok⟩ := rck_zero.1 hrc
  have HRK := Lib.hid hrk
  have HSH := Lib.hid hsh
  have HOK : Hid (∀ k, k < L.length → (rr4 (ruleAt L k)).ck = true) := fun k hk => okRule_ck (hok k hk)
  have hlen : len ≤ 64 := by rw [← HLL.out]; exact h64
  have hlen0 : 0 < len := by rw [← HLL.out]; exact h0
  have hdl := down_len L HOK.out (L.length - 1) ⟨r1, r2, r3, r4⟩ (by omega) hrk
  have har := area_max hrk
  rw [HD0.out] at hdl
  clear hrk hrc h0 h64 hsh hok
  go_wp2_with fail
  refine (cut_any r1 r2 r3 r4 a len cap L _ (HL.out.later HB1.out) HOK.out HSH.out hlen0 hlen HRK.out).mono ?_
  rintro e w3 ⟨⟨v, rfl, ho⟩, hB3⟩
  rw [HD0.out] at ho
  have hDn0 : D0.length ≤ 1048576 := by omega
  have HB3 := Lib.hid (Below.next HB1.out hB3)
  have HBs := Lib.hid hB3.size
  have HBt := Lib.hid HB1.out.size
  have HO := Lib.hid (OwnOf.weaken ho HB1.out.size)
  clear ho hB3 HB1 hdl har e1 e2 e3 e4 HF1 HRK HSH HOK
  go_wp2_with fail
  refine (sorted_any w.heap.size v D0 _ HO.out HB3.out.size (by omega)).mono ?_
  rintro e w4 ⟨rfl, ⟨D, hS, hD⟩, hB4⟩
  have HB4 := Lib.hid (HB3.out.trans hB4)
  have HS := Lib.hid hS
  have hDl : D.length ≤ 1048576 := by rw [hS.1.length_eq]; exact hDn0
  obtain ⟨pa, pc, rfl, hpi⟩ := hD.isOf cells5_len
  have HD := Lib.hid hD
  clear HB3 HO hB4 hS hD hpi hDn0
  generalize hnn : D.length = n at *
  have HNN := Lib.hid hnn
  clear hnn
  go_wp2_with fail
  go_loopw [4, 5, 21] (fun u v z wr => ∃ k : Nat, k ≤ n ∧ z = .int .i64 (k : Int) ∧ Hid (OwnR w.heap.size wr u (rects (D.take k))) ∧ Hid (OwnN w.heap.size wr v (idxs (D.take k))) ∧ Hid (OwnP5 w.heap.size wr (.slice pa n pc) D) ∧ Hid (Below w.heap.size w wr)) (fun _ _ z _ => n - (intOf z).toNat)
  case atStart => exact ⟨0, Nat.zero_le _, rfl, OwnR.nil _ _, OwnOf.nil _ _ _ _ _, HD.out, HB4.out⟩
  case round =>
    obtain ⟨k, hk, rfl, HU, HV, HP, HBr⟩ := hrel
    by_cases hlt : k < n
    · have hkl : k < D.length := by rw [HNN.out]; exact hlt
      obtain ⟨g, rfl, hgl, c1, c2, c3, c4, c5⟩ := ownP5_at HP.out k hkl
      have HU2 : Hid (rects (D.take k) ++ [D[k].1] = rects (D.take (k + 1))) := by unfold Hid rects; rw [List.take_succ_eq_append_getElem hkl, List.map_append]; rfl
      have HV2 : Hid (idxs (D.take k) ++ [(D[k].2 : Int)] = idxs (D.take (k + 1))) := by unfold Hid idxs; rw [List.take_succ_eq_append_getElem hkl, List.map_append]; rfl
      have HUL : Hid ((rects (D.take k)).length ≤ 1048576) := by unfold Hid rects; rw [List.length_map, List.length_take]; omega
      have HVL : Hid ((idxs (D.take k)).length ≤ 1048576) := by unfold Hid idxs; rw [List.length_map, List.length_take]; omega
      generalize rects (D.take k) = X at *
      generalize idxs (D.take k) = Y at *
      generalize D[k] = y at *
      obtain ⟨⟨y1, y2, y3, y4⟩, j⟩ := y
      dsimp only at *
      have hwl := HBr.out.size
      have HUb := Lib.hid (HU.out.alloc (.cells #[.int .i64 y1, .int .i64 y2, .int .i64 y3, .int .i64 y4, .int .i64 (j : Int)] 59))
      have HVb := Lib.hid (HV.out.alloc (.cells #[.int .i64 y1, .int .i64 y2, .int .i64 y3, .int .i64 y4, .int .i64 (j : Int)] 59))
      have HPb := Lib.hid (HP.out.alloc (.cells #[.int .i64 y1, .int .i64 y2, .int .i64 y3, .int .i64 y4, .int .i64 (j : Int)] 59))
      have HBb := Lib.hid (HBr.out.alloc hwl (.cells #[.int .i64 y1, .int .i64 y2, .int .i64 y3, .int .i64 y4, .int .i64 (j : Int)] 59))
      have hcb : ∀ (i : Nat) (v : Value), #[Value.int .i64 y1, .int .i64 y2, .int .i64 y3, .int .i64 y4, .int .i64 (j : Int)][i]? = some v → (wr.alloc (.cells #[.int .i64 y1, .int .i64 y2, .int .i64 y3, .int .i64 y4, .int .i64 (j : Int)] 59)).cell? ⟨wr.heap.size, i, none⟩ = some v := fun i v h => (World.cell?_alloc_at _ _ _ i rfl).trans h
      have hsb := World.size_alloc wr (.cells #[.int .i64 y1, .int .i64 y2, .int .i64 y3, .int .i64 y4, .int .i64 (j : Int)] 59)
      have q1 := hcb 0 _ rfl
      have q2 := hcb 1 _ rfl
      have q3 := hcb 2 _ rfl
      have q4 := hcb 3 _ rfl
      have q5 := hcb 4 _ rfl
      have HUN := Lib.hid (World.ownsRow.lt HU.out)
      clear hcb
      go_upto_region 7 with fail
      clear c1 c2 c3 c4 c5
      generalize wr.alloc (.cells #[.int .i64 y1, .int .i64 y2, .int .i64 y3, .int .i64 y4, .int .i64 (j : Int)] 59) = wb at *
      have hws : w.heap.size ≤ wb.heap.size := by omega
      go_upto_region 8 with (at_builtin; go_loud (refine wpList_appG rfl (.tmp 25) (.tmp 28) 32 rfl Try.underlying32 _ 32 infoRect4 zero4 (by decide) (by decide) cells4_len cells4_one w.heap.size _ X rfl (OwnR.alloc HUb.out _) _ 1 1 [⟨y1, y2, y3, y4⟩] rfl (isOf_at _ _ _ _ _ hsb.symm rfl) (by have := HUL.out; omega) (by simp; omega) ?_; intro v3 w3 ho3 hg3 hr3))
      have HU3 := Lib.hid ho3
      have HV3 := Lib.hid (OwnOf.apart (HVb.out.alloc (.cells #[.int .i64 y1, .int .i64 y2, .int .i64 y3, .int .i64 y4] 23)) (OwnR.alloc HUb.out _) (by decide) hg3)
      have HP3 := Lib.hid (OwnOf.apart (HPb.out.alloc (.cells #[.int .i64 y1, .int .i64 y2, .int .i64 y3, .int .i64 y4] 23)) (OwnR.alloc HUb.out _) (by decide) hg3)
      have HB3 : Hid (Below w.heap.size w w3) := (HBb.out.alloc hws _).grown hg3 (by simp; omega) (fun q hq => (HUN.out q hq).1)
      have hw3 := HB3.out.size
      have g5 := (cell_apart (OwnR.alloc HUb.out _) hg3 (show wr.heap.size < _ by simp; omega) (fun q hq e => by have := (HUN.out q hq).2; omega) 4).trans ((World.cell?_alloc_lt wb _ ⟨wr.heap.size, 4, none⟩ (by show wr.heap.size < _; omega)).trans q5)
      clear ho3 hg3 hr3 q1 q2 q3 q4 q5 HUb HVb HPb HBb HU HV HP HBr hws hsb HUN
      go_wp2_with (at_builtin; refine wpList_appG rfl (.tmp 30) (.tmp 33) 33 rfl Try.underlying33 _ 8 infoInt1 zero1 (by decide) (by decide) cells1_len cells1_one w.heap.size _ Y rfl (OwnOf.alloc HV3.out _) _ 1 1 [(j : Int)] rfl (isOf_new _ _ _ _ rfl) (by have := HVL.out; omega) (by simp; omega) ?_; intro v5 w5 ho5 hg5 hr5)
      have HU5 := Lib.hid (OwnOf.apart (c := cells4) (n := 4) (e := 23) (L := X ++ [(⟨y1, y2, y3, y4⟩ : R4)]) (OwnR.alloc HU3.out (.cells #[.int .i64 (j : Int)] 3)) (HV3.out.alloc _) (by decide) hg5)
      have HP5 := Lib.hid (OwnOf.apart (HP3.out.alloc (.cells #[.int .i64 (j : Int)] 3)) (HV3.out.alloc _) (by decide) hg5)
      have HB5 : Hid (Below w.heap.size w w5) := (HB3.out.alloc hw3 _).grown hg5 (by simp; omega) (fun q hq => (World.ownsRow.lt HV3.out q hq).1)
      refine ⟨⟨k + 1, by omega, by go_num, ?_, ?_, HP5.out, HB5.out⟩, by simp [intOf]; omega⟩
      · have h := HU5.out
        rw [HU2.out] at h
        exact h
      · rw [HV2.out] at ho5
        exact ho5
    · obtain rfl : k = n := by omega
      have HT : Hid (D.take k = D) := List.take_of_length_le (by rw [HNN.out]; exact Nat.le_refl _)
      rw [HT.out] at HU HV
      go_wp2_with fail
      go_ret3
      refine ⟨⟨_, _, rfl, ?_⟩, HBr.out⟩
      exact ⟨D, HS.out, HU.out, HV.out⟩
end Go.Proofs.Ytbkbikkieabcmaa.Re
