/- Contract of spent. -/
import Derived.Test.YtndijajaddkbhaaAclS
import Derived.Test.YtndijajaddkbhaaRectU
import Derived.Deep.CutRange
namespace Go.Proofs.Ytndijajaddkbhaa.Re
open Go.RowKit AM
theorem map_snoc (L : List RV) (k : Nat) (h : k < L.length) : (L.take (k + 1)).map rr4 = (L.take k).map rr4 ++ [rr4 L[k]] := by
  rw [List.take_add_one, List.getElem?_eq_getElem h, Option.toList_some, List.map_append]; rfl
theorem isOf_new1 {α : Type} {c : α → List Value} {n : Nat} (w : World) (A : Obj) (cs : Array Value) (t : TypeId) (x : α) (h : cs = (c x).toArray) : IsOf c n ((w.alloc A).alloc (.cells cs t)) (some ⟨w.heap.size + 1, 0, none⟩) 1 [x] := by
  have := isOf_new (n := n) (w.alloc A) cs t x h
  rw [World.size_alloc] at this
  exact this
set_option maxRecDepth 100000 in
set_option maxHeartbeats 3200000 in
theorem spent_any (r : RV) (a : Option Addr) (len cap : Nat) (L : List RV) (hl : len ≤ 64) (w : World) (hL : IsL w a len L) :
    Calls Try.prog 57 #[.agg (cells7 r).toArray, .slice a len cap] w fun e w' => e = .returned (.bool (covB (rr4 r) (L.map rr4))) ∧ Below w.heap.size w w' := by
  obtain ⟨y1, y2, y3, y4, y5, y6, y7⟩ := r
  have HL0 := Lib.hid hL
  have HLL := Lib.hid hL.1
  have HB0 := Lib.hid (below_alloc w (.cells #[.int .i64 y1, .int .i64 y2, .int .i64 y3, .int .i64 y4, .int .u64 (y5.toNat : Int), .int .u64 (y6.toNat : Int), .int .u64 (y7.toNat : Int)] 35))
  have HX0 := Lib.hid (Box7.start w ⟨y1, y2, y3, y4, y5, y6, y7⟩ 35)
  have HLz := Lib.hid (hL.later HB0.out)
  clear hL
  unfold cells7 at HX0 ⊢
  dsimp only at HX0 ⊢
  have HC : Hid (∀ (W : World) (va : Option Addr) (vc : Nat), IsR W va len (L.map rr4) → Calls Try.prog 111 #[.agg #[.int .i64 y1, .int .i64 y2, .int .i64 y3, .int .i64 y4], .slice va len vc] W fun e w' => e = .returned (.tuple #[.bool (covB ⟨y1, y2, y3, y4⟩ (L.map rr4)), .int .i64 (covE ⟨y1, y2, y3, y4⟩ (L.map rr4))]) ∧ Below W.heap.size W w') := fun W va vc h => covers_any y1 y2 y3 y4 va len vc (L.map rr4) (by omega) W h
  have e1 : covB (rr4 ⟨y1, y2, y3, y4, y5, y6, y7⟩) (L.map rr4) = covB ⟨y1, y2, y3, y4⟩ (L.map rr4) := rfl
  rw [e1]
  clear e1
  generalize covB ⟨y1, y2, y3, y4⟩ (L.map rr4) = z at *
  generalize covE ⟨y1, y2, y3, y4⟩ (L.map rr4) = ez at *
  go_enter Try.func57, Try.ntmps57
  go_wp2_with fail
  generalize w.alloc (.cells #[.int .i64 y1, .int .i64 y2, .int .i64 y3, .int .i64 y4, .int .u64 (y5.toNat : Int), .int .u64 (y6.toNat : Int), .int .u64 (y7.toNat : Int)] 35) = wz at *
  go_loopw [5, 12] (fun v i wr => ∃ k : Nat, k ≤ len ∧ i = .int .i64 k ∧ OwnOf 30 cells4 4 wz.heap.size wr v ((L.take k).map rr4) ∧ Below wz.heap.size wz wr) (fun _ i _ => len - (intOf i).toNat)
  case atStart => exact ⟨0, Nat.zero_le _, rfl, OwnOf.nil _ _ _ _ _, Below.refl _ _⟩
  case round =>
    obtain ⟨k, hk, rfl, hv, hB⟩ := hrel
    obtain ⟨va, vc, rfl, _⟩ := hv.isOf cells4_len
    have hlk : ((L.take k).map rr4).length = k := by rw [List.length_map, List.length_take]; have := HLL.out; omega
    rw [hlk] at hv ⊢
    have HV := Lib.hid hv
    have HB := Lib.hid hB
    clear hv hB
    by_cases hlt : k < len
    · obtain ⟨bb, off, rfl, hrr⟩ := (HLz.out.later HB.out).2 (by omega)
      have hkl : k < L.length := by rw [HLL.out]; exact hlt
      obtain ⟨c1, c2, c3, c4, c5, c6, c7⟩ := RowOf.seven hrr k hkl
      have HS := Lib.hid (map_snoc L k hkl)
      have HLT := Lib.hid hlk
      clear hlk
      clear hrr
      generalize L[k] = r at *
      obtain ⟨x1, x2, x3, x4, x5, x6, x7⟩ := r
      dsimp only at *
      have HV1 := Lib.hid ((HV.out.alloc (.cells #[.int .i64 x1, .int .i64 x2, .int .i64 x3, .int .i64 x4, .int .u64 (x5.toNat : Int), .int .u64 (x6.toNat : Int), .int .u64 (x7.toNat : Int)] 35)).alloc (.cells #[.int .i64 x1, .int .i64 x2, .int .i64 x3, .int .i64 x4] 30))
      have HI1 := Lib.hid (isOf_new1 (c := cells4) (n := 4) wr (.cells #[.int .i64 x1, .int .i64 x2, .int .i64 x3, .int .i64 x4, .int .u64 (x5.toNat : Int), .int .u64 (x6.toNat : Int), .int .u64 (x7.toNat : Int)] 35) #[.int .i64 x1, .int .i64 x2, .int .i64 x3, .int .i64 x4] 30 (⟨x1, x2, x3, x4⟩ : R4) rfl)
      have HZ1 : Hid (wz.heap.size ≤ ((wr.alloc (.cells #[.int .i64 x1, .int .i64 x2, .int .i64 x3, .int .i64 x4, .int .u64 (x5.toNat : Int), .int .u64 (x6.toNat : Int), .int .u64 (x7.toNat : Int)] 35)).alloc (.cells #[.int .i64 x1, .int .i64 x2, .int .i64 x3, .int .i64 x4] 30)).heap.size) := by unfold Hid; rw [World.size_alloc, World.size_alloc]; have := HB.out.size; omega
      have HM1 : Hid ((((L.take k).map rr4).length + 1) * 32 ≤ 140737488355328) := by unfold Hid; rw [HLT.out]; omega
      go_wp2_with (at_builtin; refine wpList_appOf rfl (.tmp 16) (.tmp 19) 49 rfl Try.underlying49 _ 32 infoRect4 zero4 (by decide) (by decide) cells4_len cells4_one wz.heap.size (.slice va k vc) ((L.take k).map rr4) rfl HV1.out (some ⟨wr.heap.size + 1, 0, none⟩) 1 1 [⟨x1, x2, x3, x4⟩] rfl HI1.out HM1.out HZ1.out ?_)
      intro v3 w3 ho3 hb3
      have ho4 : OwnOf 30 cells4 4 wz.heap.size w3 v3 ((L.take (k + 1)).map rr4) := by rw [HS.out, List.map_take]; exact ho3
      have HO3 := Lib.hid ho4
      have HB3 := Lib.hid (Below.trans ((HB.out.alloc HB.out.size _).alloc (by have := HB.out.size; simp; omega) _) hb3)
      clear ho3 ho4 hb3
      go_wp2_with fail
      go_roundw
      case rel => exact ⟨k + 1, by omega, by go_num, HO3.out, HB3.out⟩
      case measure => simp [intOf]; omega
    · obtain rfl : k = len := by omega
      have HT : Hid (L.take k = L) := List.take_of_length_le (by rw [HLL.out]; exact Nat.le_refl _)
      have hV := HV.out
      rw [HT.out] at hV
      clear hlk
      obtain ⟨va2, vc2, he, hi⟩ := hV.isOf cells4_len
      obtain ⟨rfl, rfl⟩ : va = va2 ∧ vc = vc2 := by injection he with h1 h2 h3; exact ⟨h1, h3⟩
      rw [List.length_map, HLL.out] at hi
      have HI := Lib.hid (isR_of hi)
      obtain ⟨_, d1, d2, d3, d4, d5, d6, d7⟩ := HX0.out.later HB.out
      dsimp only at d1 d2 d3 d4 d5 d6 d7
      clear hV hi he HV d5 d6 d7
      go_wp2_with fail
      refine (HC.out _ va vc HI.out).mono ?_
      rintro e w2 ⟨rfl, hB2⟩
      have HB2 := Lib.hid (Below.next HB0.out (Below.next (HB.out) hB2))
      clear hB2 d1 d2 d3 d4 HI HB HL0 HX0 HLz HB0 HC HT
      go_wp2_with fail
      go_ret
      exact ⟨rfl, HB2.out⟩
end Go.Proofs.Ytndijajaddkbhaa.Re
