/- For: to whom a call is released. -/
import Derived.RangeFuncBox
import Derived.Maps.AppendAt
import Derived.Test.YtndijajaddkbhaaForA
import Derived.Test.YtndijajaddkbhaaMpt
namespace Go.Proofs.Ytndijajaddkbhaa.Re
open Go Go.RowKit Go.Shelf AM
theorem live_any (ra : Option Addr) (rn rc : Nat) (ga : Option Addr) (gn gc : Nat) (k : Value) (x y : Array Value) (j : Nat) (hk : k = .func (.func j) x y) (w : World) :
    Calls Try.prog 80 #[.slice ra rn rc, .slice ga gn gc, k] w fun e w' =>
      e = .returned (.func (.func 123) #[] #[.pointer (some ⟨w.heap.size + 1, 0, none⟩), .pointer (some ⟨w.heap.size + 2, 0, none⟩), .pointer (some ⟨w.heap.size, 0, none⟩)]) ∧
        w' = ((w.alloc (.cells #[.slice ra rn rc] 22)).alloc (.cells #[.slice ga gn gc] 60)).alloc (.cells #[k] 129) := by
  subst hk
  go_enter Try.func80, Try.ntmps80
  go_wp2_with fail
  go_ret
  exact ⟨rfl, rfl⟩
attribute [local go_sem] Oper.semAt_some
theorem live_stops (n : Nat) (Bn : Nat) (r1 r2 r3 r4 : Int) (f : Nat) (hf : f < 256) (rb fb : Nat) (ra : Option Addr) (rn rc : Nat) (L : List RV) (ga : Option Addr) (gn gc : Nat) (G : List GV) (W0 : World)
    (hR : Four W0 rb r1 r2 r3 r4) (hfb : fb < W0.heap.size) (hF : W0.cell? ⟨fb, 0, none⟩ = some (.int .u8 (f : Int))) (hL : IsL W0 ra rn L) (hG : IsG W0 ga gn G) (hrn : rn ≤ 64) (hgn : gn ≤ 64) (w : World) (hI : ItB Bn rb fb ra rn rc ga gn gc W0 w) :
    SeqStopsK Fence.wide n Try.prog 123 #[.pointer (some ⟨Bn + 1, 0, none⟩), .pointer (some ⟨Bn + 2, 0, none⟩), .pointer (some ⟨Bn, 0, none⟩)] (fun u : Nat × GV => #[.int .i64 (u.1 : Int), .agg (cells8 u.2).toArray]) (KeepV W0.heap.size Bn)
      (fun ys => ys = liveL (fun g => kindB ⟨r1, r2, r3, r4⟩ f g && lvB g L) G G.length) (fun pre => pre <+: liveL (fun g => kindB ⟨r1, r2, r3, r4⟩ f g && lvB g L) G G.length) G.length w :=
  fun l J Jx W hW hJ _ hY h0 => live1_in n l Bn r1 r2 r3 r4 f hf rb fb ra rn rc L ga gn gc G W0 hR hfb hF hL hG hrn hgn J Jx
    (fun pre A B hj hB => hJ pre A B none hj ⟨hB.os, hB.tape, hB.output, hB.size, fun k hk _ => hB.block k hk⟩ (fun r e => by cases e)) hY W (hI.later hW) h0
theorem boxed_later {w w' : World} {B : Nat} {t : TypeId} {v : Value} (h : Boxed w B t v) (k : Below w.heap.size w w') : Boxed w' B t v := (k.block B h.lt).trans h
def toW (l : List (Nat × GV)) : W64 := l.foldl (fun a x => a ||| x.2.tos) 0#64
theorem toW_snoc (l : List (Nat × GV)) (x : Nat × GV) : toW (l ++ [x]) = toW l ||| x.2.tos := by unfold toW; simp
def byL (l : List (Nat × GV)) : List Int := l.map fun x => (x.1 : Int)
theorem byL_snoc (l : List (Nat × GV)) (x : Nat × GV) : byL (l ++ [x]) = byL l ++ [(x.1 : Int)] := by unfold byL; simp
def forE (f : Nat) (r : R4) (L : List RV) (G : List GV) : Int := if onlyV f = 0 then 2 else if gcE r L = 0 then (gck 64 G).2 else gcE r L
def forL (f : Nat) (r : R4) (L : List RV) (G : List GV) : List (Nat × GV) := if forE f r L G = 0 then liveL (fun g => kindB r f g && lvB g L) G G.length else []
/-- A grant in a block. -/
theorem block_own {β : Type} (B : Nat) (cs : β → Array Value) (t : TypeId) : Own (fun s W => W.heap[B]? = some (.cells (cs s) t (0, 0))) := fun s X Y row hs hg hrow =>
  (hg.block B (Array.getElem?_eq_some_iff.1 hs).1 (fun e' => by obtain ⟨o, ho, hc⟩ := hrow B e'.symm; rw [hs] at ho; cases ho; cases hc)).trans hs
set_option maxRecDepth 100000 in
set_option maxHeartbeats 6400000 in
theorem for_in (f : Nat) (hf : f < 256) (r1 r2 r3 r4 : Int) (ra : Option Addr) (rn rc : Nat) (L : List RV) (ga : Option Addr) (gn gc : Nat) (G : List GV) (w : World) (hL : IsL w ra rn L) (hG : IsG w ga gn G) (he : forE f ⟨r1, r2, r3, r4⟩ L G = 0) :
    CallsIn Fence.wide 3 Try.prog 29 #[.int .u8 (f : Int), .agg #[.int .i64 r1, .int .i64 r2, .int .i64 r3, .int .i64 r4], .slice ra rn rc, .slice ga gn gc] w fun e w' =>
      (∃ v, e = .returned (.tuple #[.int .u64 ((toW (forL f ⟨r1, r2, r3, r4⟩ L G)).toNat : Int), v, .int .i64 0]) ∧ OwnN w.heap.size w' v (byL (forL f ⟨r1, r2, r3, r4⟩ L G))) ∧ Below w.heap.size w w' := by
  have HFL : Hid (forL f ⟨r1, r2, r3, r4⟩ L G = liveL (fun g => kindB ⟨r1, r2, r3, r4⟩ f g && lvB g L) G G.length) := by unfold Hid forL; rw [if_pos he]
  have h3 : ¬ onlyV f = 0 ∧ gcE ⟨r1, r2, r3, r4⟩ L = 0 ∧ (gck 64 G).2 = 0 := by
    unfold forE at he
    split at he
    · omega
    · rename_i h
      split at he
      · rename_i h2; exact ⟨h, h2, he⟩
      · rename_i h2; exact absurd he h2
  obtain ⟨ho, hg0, hk0⟩ := h3
  have hL64 := (rck_zero.1 (gcE_zero.1 hg0).2).2.1
  have hG64 := (gck_good hk0).1
  have HL := Lib.hid hL
  have HG := Lib.hid hG
  have HLL := Lib.hid hL.1
  have HGL := Lib.hid hG.1
  have hrn64 : rn ≤ 64 := by rw [← HLL.out]; exact hL64
  have hgn64 : gn ≤ 64 := by rw [← HGL.out]; exact hG64
  clear hL hG hL64 hG64 he
  have ho1 : (onlyV f == 0) = false := by simpa using ho
  have HG0 := Lib.hid hg0
  have HK0 := Lib.hid hk0
  clear ho hg0 hk0
  refine callsIn_of_wp_marks Try.func29 rfl trivial ?_ rfl
  simp only [Try.ntmps29, List.size_toArray, List.length_cons, List.length_nil, Nat.reduceAdd, Nat.reduceSub, Array.replicate_succ, Array.replicate_zero, List.push_toArray, List.append_toArray, List.nil_append, List.cons_append]
  gi_wp2_with fail
  have hf0 := Four.start (w.alloc (.cells #[.int .u8 (f : Int)] 5)) r1 r2 r3 r4 30
  have hc0 : ((w.alloc (.cells #[.int .u8 (f : Int)] 5)).alloc (.cells #[.int .i64 r1, .int .i64 r2, .int .i64 r3, .int .i64 r4] 30)).cell? ⟨w.heap.size, 0, none⟩ = some (.int .u8 (f : Int)) := by
    rw [World.cell?_alloc_lt _ _ _ (by simp)]; simp
  have hb0 := Below.next (below_alloc w (.cells #[.int .u8 (f : Int)] 5)) (below_alloc _ (.cells #[.int .i64 r1, .int .i64 r2, .int .i64 r3, .int .i64 r4] 30))
  have hs0 : ((w.alloc (.cells #[.int .u8 (f : Int)] 5)).alloc (.cells #[.int .i64 r1, .int .i64 r2, .int .i64 r3, .int .i64 r4] 30)).heap.size = w.heap.size + 1 + 1 := by rw [alloc_size, alloc_size]
  rw [alloc_size] at hf0
  have HF0 := Lib.hid hf0
  have HC0 := Lib.hid hc0
  have HB0 := Lib.hid hb0
  have HS0 := Lib.hid hs0
  clear hf0 hc0 hb0 hs0
  generalize (w.alloc (.cells #[.int .u8 (f : Int)] 5)).alloc (.cells #[.int .i64 r1, .int .i64 r2, .int .i64 r3, .int .i64 r4] 30) = W0 at *
  have hbT := (Boxed.new W0 31 (.int .u64 0)).alloc (.cells #[.slice none 0 0] 50)
  have hbY := Boxed.new (W0.alloc (.cells #[.int .u64 0] 31)) 50 (.slice none 0 0)
  have hb2 := Below.next (below_alloc W0 (.cells #[.int .u64 0] 31)) (below_alloc _ (.cells #[.slice none 0 0] 50))
  rw [alloc_size, HS0.out] at hbY
  rw [HS0.out] at hbT
  generalize (W0.alloc (.cells #[.int .u64 0] 31)).alloc (.cells #[.slice none 0 0] 50) = W2 at *
  have HT2 := Lib.hid hbT
  have HY2 := Lib.hid hbY
  have HB2 := Lib.hid hb2
  have hHsz : w.heap.size + 1 < W0.heap.size := by have := HS0.out; omega
  clear hbT hbY hb2
  refine ⟨trivial, ?_⟩
  refine (callsIn_wide.2 (only_any f hf _)).mono ?_
  rintro e w' ⟨rfl, rfl⟩
  generalize onlyV f = oo at *
  obtain ⟨_, e1, e2, e3, e4⟩ := HF0.out.later HB2.out
  gi_wp2_with fail
  refine ⟨trivial, ?_⟩
  refine (callsIn_wide.2 (over_any r1 r2 r3 r4 ra rn rc L (by omega) _ ((IsOf.later HL.out HB0.out).later HB2.out))).mono ?_
  rintro e w3 ⟨rfl, hB3⟩
  unfold overV rights3
  rw [HG0.out]
  have HB3 := Lib.hid (Below.next (Below.next HB2.out hB3) (below_alloc w3 (.cells #[.int .u64 ((ovV RV.rd ⟨r1, r2, r3, r4⟩ L).toNat : Int), .int .u64 ((ovV RV.wr ⟨r1, r2, r3, r4⟩ L).toNat : Int), .int .u64 ((ovV RV.ow ⟨r1, r2, r3, r4⟩ L).toNat : Int)] 33)))
  have HT3 := Lib.hid ((boxed_later HT2.out hB3).alloc (.cells #[.int .u64 ((ovV RV.rd ⟨r1, r2, r3, r4⟩ L).toNat : Int), .int .u64 ((ovV RV.wr ⟨r1, r2, r3, r4⟩ L).toNat : Int), .int .u64 ((ovV RV.ow ⟨r1, r2, r3, r4⟩ L).toNat : Int)] 33))
  have HY3 := Lib.hid ((boxed_later HY2.out hB3).alloc (.cells #[.int .u64 ((ovV RV.rd ⟨r1, r2, r3, r4⟩ L).toNat : Int), .int .u64 ((ovV RV.wr ⟨r1, r2, r3, r4⟩ L).toNat : Int), .int .u64 ((ovV RV.ow ⟨r1, r2, r3, r4⟩ L).toNat : Int)] 33))
  clear hB3 e1 e2 e3 e4 HT2 HY2 HB2
  generalize ovV RV.rd ⟨r1, r2, r3, r4⟩ L = A1 at *
  generalize ovV RV.wr ⟨r1, r2, r3, r4⟩ L = A2 at *
  generalize ovV RV.ow ⟨r1, r2, r3, r4⟩ L = A3 at *
  gi_wp2_with fail
  generalize w3.alloc (.cells #[.int .u64 (A1.toNat : Int), .int .u64 (A2.toNat : Int), .int .u64 (A3.toNat : Int)] 33) = w4 at *
  refine ⟨trivial, ?_⟩
  refine (callsIn_wide.2 (pcheck_any 64 ga gn gc G (by omega) _ ((IsOf.later HG.out HB0.out).later HB3.out))).mono ?_
  rintro e w5 ⟨rfl, hB5⟩
  unfold ckV
  rw [HK0.out]
  have HB5 := Lib.hid (Below.next HB3.out hB5)
  have HT5 : Hid (Boxed w5 (w.heap.size + 1 + 1) 31 (.int .u64 0)) := boxed_later HT3.out hB5
  have HY5 : Hid (Boxed w5 (w.heap.size + 1 + 1 + 1) 50 (.slice none 0 0)) := boxed_later HY3.out hB5
  clear hB5 HB3 HT3 HY3
  generalize (gck 64 G).1 = g1 at *
  gi_wp2_with fail
  refine ⟨trivial, ?_⟩
  refine (callsIn_wide.2 (live_any ra rn rc ga gn gc _ _ _ _ rfl _)).mono ?_
  rintro e w6 ⟨rfl, hw6⟩
  gi_wp2_with fail
  have hb6 : Below w5.heap.size w5 w6 := by rw [hw6]; exact Below.next (Below.next (below_alloc w5 _) (below_alloc _ _)) (below_alloc _ _)
  have hs6 : w6.heap.size = w5.heap.size + 3 := by rw [hw6, alloc_size, alloc_size, alloc_size]
  have hx0 : w6.heap[w5.heap.size]? = some (.cells #[.slice ra rn rc] 22 (0, 0)) := by
    rw [hw6, Below.heap_alloc _ _ _ (by simp; omega), Below.heap_alloc _ _ _ (by simp)]; exact World.alloc_heap_new w5 _
  have hx1 : w6.heap[w5.heap.size + 1]? = some (.cells #[.slice ga gn gc] 60 (0, 0)) := by
    rw [hw6, Below.heap_alloc _ _ _ (by simp)]
    have := World.alloc_heap_new (w5.alloc (.cells #[.slice ra rn rc] 22)) (.cells #[.slice ga gn gc] 60)
    rwa [alloc_size] at this
  have hx2 : w6.heap[w5.heap.size + 2]? = some (.cells #[.func (.func 78) #[] #[.pointer (some ⟨w.heap.size + 1, 0, none⟩), .pointer (some ⟨w.heap.size, 0, none⟩)]] 129 (0, 0)) := by
    rw [hw6]
    have := World.alloc_heap_new ((w5.alloc (.cells #[.slice ra rn rc] 22)).alloc (.cells #[.slice ga gn gc] 60)) (.cells #[.func (.func 78) #[] #[.pointer (some ⟨w.heap.size + 1, 0, none⟩), .pointer (some ⟨w.heap.size, 0, none⟩)]] 129)
    rwa [alloc_size, alloc_size] at this
  rw [← hw6]
  clear hw6
  have hB6 := Below.next HB5.out hb6
  have hT6 := boxed_later HT5.out hb6
  have hY6 := boxed_later HY5.out hb6
  have hI6 : ItB w5.heap.size (w.heap.size + 1) w.heap.size ra rn rc ga gn gc W0 w6 := ⟨hB6, hx0, hx1, hx2⟩
  have hBw := Below.next HB0.out hB6
  have hsz0 := HS0.out
  have hszw : W0.heap.size ≤ w6.heap.size := hB6.size
  have hYl := hY6.lt
  obtain ⟨i0, hi, hz0, hz1, hz2⟩ := info_parts infoInt1
  refine wpIn_rangeFunc_ownH rfl (by omega) (gf := 123) (lb := #[.pointer (some ⟨w5.heap.size + 1, 0, none⟩), .pointer (some ⟨w5.heap.size + 2, 0, none⟩), .pointer (some ⟨w5.heap.size, 0, none⟩)]) rfl trivial (enters_of Try.func123 (by kernel_rfl) rfl)
    (live_stops _ w5.heap.size r1 r2 r3 r4 f hf (w.heap.size + 1) w.heap.size ra rn rc L ga gn gc G W0 HF0.out (by omega) HC0.out (IsOf.later HL.out HB0.out) (IsOf.later HG.out HB0.out) hrn64 hgn64 w6 hI6) keepV_t (keepV_b (by omega) (by omega)) (Below.refl _ _) (fun _ => rfl)
    (fun pre W => ((Boxed W (w.heap.size + 1 + 1) 31 (.int .u64 ((toW pre).toNat : Int)) ∧ ∃ v, Boxed W (w.heap.size + 1 + 1 + 1) 50 v ∧ W.ownsRow (w.heap.size + 1 + 1) 3 1 v pre.length ((byL pre).flatMap cells1) ∧ True) ∧
      (W.heap[w5.heap.size]? = some (.cells #[.slice ra rn rc] 22 (0, 0)) ∧ (W.heap[w5.heap.size + 1]? = some (.cells #[.slice ga gn gc] 60 (0, 0)) ∧ W.heap[w5.heap.size + 2]? = some (.cells #[.func (.func 78) #[] #[.pointer (some ⟨w.heap.size + 1, 0, none⟩), .pointer (some ⟨w.heap.size, 0, none⟩)]] 129 (0, 0))))) ∧ Below w.heap.size w W)
    (fun _ _ _ => False)
    (OwnFrom.and (OwnFrom.and (OwnFrom.and (Own.from (boxed_own (w.heap.size + 1 + 1) 31 (fun pre : List (Nat × GV) => .int .u64 ((toW pre).toNat : Int))) _) (Own.from (holdsRow_own (w.heap.size + 1 + 1) (w.heap.size + 1 + 1 + 1) 50 3 1 (fun pre : List (Nat × GV) => pre.length) (fun pre : List (Nat × GV) => (byL pre).flatMap cells1) (fun _ _ => True)) _))
      (OwnFrom.and (Own.from (block_own (β := List (Nat × GV)) w5.heap.size (fun _ => #[.slice ra rn rc]) 22) _) (OwnFrom.and (Own.from (block_own (β := List (Nat × GV)) (w5.heap.size + 1) (fun _ => #[.slice ga gn gc]) 60) _) (Own.from (block_own (β := List (Nat × GV)) (w5.heap.size + 2) (fun _ => #[.func (.func 78) #[] #[.pointer (some ⟨w.heap.size + 1, 0, none⟩), .pointer (some ⟨w.heap.size, 0, none⟩)]]) 129) _)))) (ownFrom_below (Nat.le_refl _) (by omega)))
    (fun _ _ _ _ _ hs _ _ => hs)
    ⟨⟨⟨hT6, _, hY6, World.ownsRow_nil _ _ _ _, trivial⟩, hx0, hx1, hx2⟩, hBw⟩
    (fun u a' W => ∃ Bx, W.heap[Bx]? = some (.cells (cells8 u.2).toArray 68 (0, 0)) ∧ a' = { tmps := #[.int .u8 (f : Int), .agg #[.int .i64 r1, .int .i64 r2, .int .i64 r3, .int .i64 r4], .slice ra rn rc, .slice ga gn gc, .pointer (some ⟨w.heap.size, 0, none⟩), .pointer (some ⟨w.heap.size + 1, 0, none⟩), undef, undef, .pointer (some ⟨w.heap.size + 1 + 1, 0, none⟩), .pointer (some ⟨w.heap.size + 1 + 1 + 1, 0, none⟩), .int .i64 0, .pointer (some ⟨w3.heap.size, 0, none⟩), .int .i64 0, .int .i64 g1, .int .i64 0, .func (.func 78) #[] #[.pointer (some ⟨w.heap.size + 1, 0, none⟩), .pointer (some ⟨w.heap.size, 0, none⟩)], .int .i64 (u.1 : Int), .pointer (some ⟨Bx, 0, none⟩), .int .u8 (f : Int), .int .u8 oo, .bool false, .tuple #[.agg #[.int .u64 (A1.toNat : Int), .int .u64 (A2.toNat : Int), .int .u64 (A3.toNat : Int)], .int .i64 0], .agg #[.int .i64 r1, .int .i64 r2, .int .i64 r3, .int .i64 r4], .slice ra rn rc, .tuple #[.agg #[.int .u64 (A1.toNat : Int), .int .u64 (A2.toNat : Int), .int .u64 (A3.toNat : Int)], .int .i64 0], .agg #[.int .u64 (A1.toNat : Int), .int .u64 (A2.toNat : Int), .int .u64 (A3.toNat : Int)], .int .i64 0, .int .i64 0, .bool false, undef, .tuple #[.int .i64 g1, .int .i64 0], .slice ga gn gc, .tuple #[.int .i64 g1, .int .i64 0], .int .i64 g1, .int .i64 0, .int .i64 0, .bool false, undef, .func (.func 78) #[] #[.pointer (some ⟨w.heap.size + 1, 0, none⟩), .pointer (some ⟨w.heap.size, 0, none⟩)], .slice ra rn rc, .slice ga gn gc, .func (.func 78) #[] #[.pointer (some ⟨w.heap.size + 1, 0, none⟩), .pointer (some ⟨w.heap.size, 0, none⟩)], .func (.func 123) #[] #[.pointer (some ⟨w5.heap.size + 1, 0, none⟩), .pointer (some ⟨w5.heap.size + 2, 0, none⟩), .pointer (some ⟨w5.heap.size, 0, none⟩)], .int .i64 (u.1 : Int), .agg (cells8 u.2).toArray, undef, undef, undef, undef, undef, undef, undef, undef, undef, undef], defers := [] })
    (fun u a' _ X Y row hs hg hr => by obtain ⟨Bx, h2, h3⟩ := hs; exact ⟨Bx, block_own Bx (fun (_ : Unit) => (cells8 u.2).toArray) 68 () X Y row h2 hg (fun r e => (hr r e).2), h3⟩)
    ?assign ?body ?done ?stop
  case assign =>
    rintro l pre u W K ⟨⟨⟨hT, v, hY, hrow, _⟩, b0, b1, b2⟩, hB⟩ hK
    obtain ⟨i, g⟩ := u
    have HK := Lib.hid hK
    clear hK
    unfold cells8
    dsimp only
    gi_wp2_with fail
    have hbl := (Array.getElem?_eq_some_iff.1 b2).1
    have hTl := hT.lt
    exact HK.out _ _ ((KeepsOthers.alloc _ _).from _) ⟨(Below.refl _ W).alloc (by omega) _, fun j hj => Below.heap_alloc _ _ _ (by omega)⟩
      ⟨⟨⟨hT.alloc _, v, hY.alloc _, World.ownsRow.alloc hrow _, trivial⟩, (Below.heap_alloc _ _ _ (by omega)).trans b0, (Below.heap_alloc _ _ _ (by omega)).trans b1, (Below.heap_alloc _ _ _ (by omega)).trans b2⟩, hB.alloc hB.size _⟩
      ⟨W.heap.size, World.alloc_heap_new W _, rfl⟩
  case body =>
    rintro l pre u a' W hl ⟨r, hr⟩ ⟨⟨⟨hT, v, hY, hrow, _⟩, b0, b1, b2⟩, hB⟩ ⟨Bx, hX, rfl⟩ hlt
    obtain ⟨i, g⟩ := u
    have hcT := hT.cell
    have hfT := hT.frozen
    have hcX : W.cell? ⟨Bx, 5, none⟩ = some (.int .u64 (g.tos.toNat : Int)) := by simp [World.cell?, hX, cells8]
    have hfX : Bx < W.heap.size := (Array.getElem?_eq_some_iff.1 hX).1
    have hcY := hY.cell
    have hTl := hT.lt
    dsimp only
    have h5l := HY5.out.lt
    have hT1 := hT.set (.int .u64 (bits .or .u64 ((toW pre).toNat : Int) (g.tos.toNat : Int)))
    have hY1 := hY.other (B' := w.heap.size + 1 + 1) (by omega) (.int .u64 (bits .or .u64 ((toW pre).toNat : Int) (g.tos.toNat : Int)))
    have hx0 := Boxed.other (B' := w.heap.size + 1 + 1) b0 (by omega) (.int .u64 (bits .or .u64 ((toW pre).toNat : Int) (g.tos.toNat : Int)))
    have hx1 := Boxed.other (B' := w.heap.size + 1 + 1) b1 (by omega) (.int .u64 (bits .or .u64 ((toW pre).toNat : Int) (g.tos.toNat : Int)))
    have hx2 := Boxed.other (B' := w.heap.size + 1 + 1) b2 (by omega) (.int .u64 (bits .or .u64 ((toW pre).toNat : Int) (g.tos.toNat : Int)))
    have hrow1 := hrow.kept (grownBy_setCell' W (w.heap.size + 1 + 1) (.int .u64 (bits .or .u64 ((toW pre).toNat : Int) (g.tos.toNat : Int)))) (.inr (hT.not_row (by decide) hrow).symm)
    have hks := KeepsOthers.setCell W ⟨w.heap.size + 1 + 1, 0, none⟩ (.int .u64 (bits .or .u64 ((toW pre).toNat : Int) (g.tos.toNat : Int)))
    have hbs : Below (w.heap.size + 1 + 1) W (W.setCell ⟨w.heap.size + 1 + 1, 0, none⟩ (.int .u64 (bits .or .u64 ((toW pre).toNat : Int) (g.tos.toNat : Int)))) := (Below.refl _ W).setCell (p := ⟨w.heap.size + 1 + 1, 0, none⟩) (Nat.le_refl _) _
    have hss : (W.setCell ⟨w.heap.size + 1 + 1, 0, none⟩ (.int .u64 (bits .or .u64 ((toW pre).toNat : Int) (g.tos.toNat : Int)))).heap.size = W.heap.size := by simp [World.setCell]
    have hBs := hB.setCell (p := ⟨w.heap.size + 1 + 1, 0, none⟩) (by show w.heap.size ≤ w.heap.size + 1 + 1; omega) (.int .u64 (bits .or .u64 ((toW pre).toNat : Int) (g.tos.toNat : Int)))
    have HT1 := Lib.hid hT1
    have HY1 := Lib.hid hY1
    have HX0 := Lib.hid hx0
    have HX1 := Lib.hid hx1
    have HX2 := Lib.hid hx2
    have HR1 := Lib.hid hrow1
    have HKS := Lib.hid hks
    have HBS := Lib.hid hbs
    have HSS := Lib.hid hss
    have HB1 := Lib.hid hBs
    have HB0' := Lib.hid b0
    have HB1' := Lib.hid b1
    have HB2' := Lib.hid b2
    clear hT1 hY1 hx0 hx1 hx2 hrow1 hks hbs hss hBs hT hY hrow hB b0 b1 b2 hX
    gi_wp2_with (gi_at_builtin; refine wpListIn_append_own _ rfl _ _ 50 rfl (w.heap.size + 1 + 1) 3 i0 (.int .i64 0) 1 8 Try.underlying50 hi hz0 hz1 hz2 rfl (by decide) v pre.length _ rfl (HR1.out.alloc _) ⟨(W.setCell ⟨w.heap.size + 1 + 1, 0, none⟩ (.int .u64 (bits .or .u64 ((toW pre).toNat : Int) (g.tos.toNat : Int)))).heap.size, 0, none⟩ 1 1 [.int .i64 (i : Int)] (by rw [HSS.out]; rfl) rfl (cell_one_new _ _ _) (by simp [Value.oneCell']) (by unfold maxLen; have := HGL.out; omega) (by have := HGL.out; omega) (by rw [alloc_size, HSS.out]; omega) ?_; intro v' w1' hown' hgrow _; obtain ⟨g', cap', rfl⟩ := ownsRow_succ hown'; obtain ⟨hv1, hv2, hr2, hk2, hb2⟩ := HY1.out.appended (by decide) HR1.out (by rw [HSS.out]; omega) (by omega) hown' hgrow; have hT2 := ((HT1.out.alloc (.cells #[.int .i64 (i : Int)] 3)).kept hgrow (HT1.out.not_row (by decide) HR1.out)).other (B' := w.heap.size + 1 + 1 + 1) (by omega) (.slice (some ⟨g', 0, none⟩) (pre.length + 1) cap'); have hx0 := ((HX0.out.alloc (.cells #[.int .i64 (i : Int)] 3)).kept hgrow (HX0.out.not_row (by decide) HR1.out)).other (B' := w.heap.size + 1 + 1 + 1) (by omega) (.slice (some ⟨g', 0, none⟩) (pre.length + 1) cap'); have hx1 := ((HX1.out.alloc (.cells #[.int .i64 (i : Int)] 3)).kept hgrow (HX1.out.not_row (by decide) HR1.out)).other (B' := w.heap.size + 1 + 1 + 1) (by omega) (.slice (some ⟨g', 0, none⟩) (pre.length + 1) cap'); have hx2 := ((HX2.out.alloc (.cells #[.int .i64 (i : Int)] 3)).kept hgrow (HX2.out.not_row (by decide) HR1.out)).other (B' := w.heap.size + 1 + 1 + 1) (by omega) (.slice (some ⟨g', 0, none⟩) (pre.length + 1) cap'); have hc1 := hv1.cell; have hf1 := hv1.frozen)
    refine ⟨(HKS.out.trans hk2).from _, ⟨by rw [hsz0]; exact HBS.out.trans hb2, fun j hj => ?_⟩, ⟨⟨⟨by rw [toW_snoc, ← bits_or]; exact hT2, _, hv2, by simpa [byL_snoc, cells1] using hr2, trivial⟩, hx0, hx1, hx2⟩, HB1.out.trans (hb2.mono (by omega))⟩⟩
    match j, hj with
    | 0, _ => exact Eq.trans hx0 HB0'.out.symm
    | 1, _ => exact Eq.trans hx1 HB1'.out.symm
    | 2, _ => exact Eq.trans hx2 HB2'.out.symm
  case done =>
    rintro D ys W hD rfl ⟨⟨⟨hT, v, hY, hrow, _⟩, b0, b1, b2⟩, hB⟩ hK
    have hown : OwnN (w.heap.size + 1 + 1) W v (byL (liveL (fun g => kindB ⟨r1, r2, r3, r4⟩ f g && lvB g L) G G.length)) := by
      unfold OwnN OwnOf
      rw [show (byL (liveL (fun g => kindB ⟨r1, r2, r3, r4⟩ f g && lvB g L) G G.length)).length = (liveL (fun g => kindB ⟨r1, r2, r3, r4⟩ f g && lvB g L) G G.length).length by simp [byL]]
      exact hrow
    obtain ⟨x, y, rfl, _⟩ := hown.isOf cells1_len
    rw [← HFL.out] at hT hY hown hrow
    generalize hle : forL f ⟨r1, r2, r3, r4⟩ L G = l at *
    generalize htw : toW l = tw at *
    have HLE := Lib.hid hle
    have HTW := Lib.hid htw
    clear hle htw
    have hcT := hT.cell
    have hfT := hT.frozen
    have hcY := hY.cell
    have hfY := hY.frozen
    have HT := Lib.hid hT
    have HY := Lib.hid hY
    have HOW := Lib.hid hown
    have HBW := Lib.hid hB
    have HKK := Lib.hid hK
    have HDD := Lib.hid hD
    clear hT hY hown hrow hB b0 b1 b2 hK
    gi_wp2_with fail
    gi_region
    have hTl := HT.out.lt
    have hYl2 := HY.out.lt
    have hD2 : w6.heap.size ≤ D := HDD.out
    have h5l := HY5.out.lt
    have hT2 := (HT.out.set (.int .u64 (tw.toNat : Int))).other (B' := w.heap.size + 1 + 1 + 1) (by omega) (.slice x (byL l).length y)
    have hY2 := (HY.out.other (B' := w.heap.size + 1 + 1) (by omega) (.int .u64 (tw.toNat : Int))).set (.slice x (byL l).length y)
    have hO1 := World.ownsRow.kept HOW.out (grownBy_setCell' W (w.heap.size + 1 + 1) (.int .u64 (tw.toNat : Int))) (.inr (HT.out.not_row (by decide) HOW.out).symm)
    have hO2 := World.ownsRow.kept hO1 (grownBy_setCell' _ (w.heap.size + 1 + 1 + 1) (.slice x (byL l).length y)) (.inr ((HY.out.other (B' := w.heap.size + 1 + 1) (by omega) (.int .u64 (tw.toNat : Int))).not_row (by decide) hO1).symm)
    have hK2 : ((W.setCell ⟨w.heap.size + 1 + 1, 0, none⟩ (.int .u64 (tw.toNat : Int))).setCell ⟨w.heap.size + 1 + 1 + 1, 0, none⟩ (.slice x (byL l).length y)).heap[D]? = some (.deferred (some [])) := by
      rw [Below.heap_setCell _ _ _ _ (by show D ≠ w.heap.size + 1 + 1 + 1; omega), Below.heap_setCell _ _ _ _ (by show D ≠ w.heap.size + 1 + 1; omega)]; exact HKK.out
    have hB2 := (HBW.out.setCell (p := ⟨w.heap.size + 1 + 1, 0, none⟩) (by show w.heap.size ≤ w.heap.size + 1 + 1; omega) (.int .u64 (tw.toNat : Int))).setCell (p := ⟨w.heap.size + 1 + 1 + 1, 0, none⟩) (by show w.heap.size ≤ w.heap.size + 1 + 1 + 1; omega) (.slice x (byL l).length y)
    have HT2 := Lib.hid hT2
    have HY2 := Lib.hid hY2
    have HO2 := Lib.hid hO2
    have HK2 := Lib.hid hK2
    have HB2 := Lib.hid hB2
    clear hT2 hY2 hO1 hO2 hK2 hB2 hcT hfT hcY hfY
    generalize (W.setCell ⟨w.heap.size + 1 + 1, 0, none⟩ (.int .u64 (tw.toNat : Int))).setCell ⟨w.heap.size + 1 + 1 + 1, 0, none⟩ (.slice x (byL l).length y) = W9 at *
    have hK9 : W9.drew.heap[D]? = some (.deferred (some [])) := HK2.out
    gi_wp2_with fail
    refine ⟨by simp, .inl ⟨_, _, rfl, run_takeDeferred hK9, ?_⟩⟩
    have cT := cell_kept (W := W9.drew) (HT2.out : Boxed W9.drew _ _ _).cell (grownBy_putObj' _ D (.deferred none)) (fun r e => by cases e; exact ⟨_, hK9, rfl⟩)
    have cY := cell_kept (W := W9.drew) (HY2.out : Boxed W9.drew _ _ _).cell (grownBy_putObj' _ D (.deferred none)) (fun r e => by cases e; exact ⟨_, hK9, rfl⟩)
    refine ⟨.tuple #[.int .u64 (tw.toNat : Int), .slice x (byL l).length y, .int .i64 0], by simp [results, Try.results29, go_sem, cT, cY], ⟨_, by rw [HLE.out, HTW.out], ?_⟩, ?_⟩
    · rw [HLE.out]; exact OwnOf.weaken (ownsRow_putObj (W := W9.drew) HO2.out _ hK9 rfl) (by omega)
    · exact (HB2.out.drew).trans (belowK_b (n₀ := w.heap.size) (w := w6) (by omega) W9.drew D _ _ HDD.out hK9 rfl rfl)
  case stop =>
    rintro D c pre W _ _ h _
    exact h.elim
theorem for_any (f : Nat) (hf : f < 256) (r1 r2 r3 r4 : Int) (ra : Option Addr) (rn rc : Nat) (L : List RV) (ga : Option Addr) (gn gc : Nat) (G : List GV) (w : World) (hL : IsL w ra rn L) (hG : IsG w ga gn G) (he : forE f ⟨r1, r2, r3, r4⟩ L G = 0) :
    Calls Try.prog 29 #[.int .u8 (f : Int), .agg #[.int .i64 r1, .int .i64 r2, .int .i64 r3, .int .i64 r4], .slice ra rn rc, .slice ga gn gc] w fun e w' =>
      (∃ v, e = .returned (.tuple #[.int .u64 ((toW (forL f ⟨r1, r2, r3, r4⟩ L G)).toNat : Int), v, .int .i64 0]) ∧ OwnN w.heap.size w' v (byL (forL f ⟨r1, r2, r3, r4⟩ L G))) ∧ Below w.heap.size w w' :=
  callsIn_wide.1 (for_in f hf r1 r2 r3 r4 ra rn rc L ga gn gc G w hL hG he)
end Go.Proofs.Ytndijajaddkbhaa.Re
