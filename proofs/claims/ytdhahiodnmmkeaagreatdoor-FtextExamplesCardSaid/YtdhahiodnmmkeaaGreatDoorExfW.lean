/- The walk of FtextExamples. -/
import Derived.Test.YtdhahiodnmmkeaaGreatDoorMgg
import Derived.Test.YtdhahiodnmmkeaaGreatDoorMgd
import Derived.Test.YtdhahiodnmmkeaaGreatDoorFtX
import Derived.Test.YtdhahiodnmmkeaaGreatDoorExfB
import Derived.Test.YtdhahiodnmmkeaaGreatDoorSeqP
import Derived.Test.YtdhahiodnmmkeaaGreatDoorExfC
namespace Go.Proofs.YtdhahiodnmmkeaaGreatDoor.Va
open Go Go.RowKit GM
set_option linter.unusedVariables false
set_option linter.unusedSimpArgs false
attribute [local simp] DepA isB rsAt
structure Ex (w wr : World) (a : Option Addr) (cap : Nat) (L : List V3) (p : Nat) : Prop where
 b : Below w.heap.size w wr
 i : IsV wr a L.length L
 y : B3 wr p 3 0 ⟨#[97, 98, 99, 98]⟩
theorem Ex.later {w wr w1 : World} {a : Option Addr} {cap : Nat} {L : List V3} {p : Nat} (h : Ex w wr a cap L p) (hB : Below wr.heap.size wr w1) : Ex w w1 a cap L p :=
 ⟨zab h.b hB, IsOf.later h.i hB, h.y.later hB⟩
theorem Ex.drew {w wr : World} {a : Option Addr} {cap : Nat} {L : List V3} {p : Nat} (h : Ex w wr a cap L p) : Ex w wr.drew a cap L p := ⟨h.b.drew, h.i, h.y⟩
theorem Ex.at {w wr : World} {b off cap : Nat} {L : List V3} {p : Nat} (h : Ex w wr (some ⟨b, off, none⟩) cap L p) {k : Nat} (hk : k < L.length) : b < wr.heap.size ∧ wr.cell? ⟨b, off + k * 3, none⟩ = some (.int .u8 (L[k].1 : Int)) ∧ wr.cell? ⟨b, off + k * 3 + 1, none⟩ = some (.int .i64 L[k].2.1) ∧ wr.cell? ⟨b, off + k * 3 + 2, none⟩ = some (.string L[k].2.2) := by
 obtain ⟨b', off', e, h1, h2, h3, h4⟩ := zhs h.i hk
 cases e
 exact ⟨h1, h2, h3, h4⟩
theorem Ex.one {w wr : World} {b off cap : Nat} {L : List V3} {p : Nat} (h : Ex w wr (some ⟨b, off, none⟩) cap L p) {k : Nat} (hk : k < L.length) {u : V3} (hu : L[k] = u) : IsV wr (some ⟨b, off + k * 3, none⟩) 1 [u] := by
 have := IsOf.head (yhd h.i k (by omega)) 1
 rw [show min (L.length - k) 1 = 1 by omega, List.drop_eq_getElem_cons hk, List.take_succ_cons, List.take_zero, hu] at this
 exact this
structure ExL (w X : World) (g q2 q1 : Nat) (BL : List UInt8) (s2 s1 : ByteArray) : Prop where
 b : Below w.heap.size w X
 o : OwnU w.heap.size X (.slice (some ⟨g, 0, none⟩) 257 257) BL
 x : B3 X q2 3 0 s2
 y : B3 X q1 3 0 s1
theorem ExL.later {w X X' : World} {g q2 q1 : Nat} {BL : List UInt8} {s2 s1 : ByteArray} (h : ExL w X g q2 q1 BL s2 s1) (hB : Below X.heap.size X X') : ExL w X' g q2 q1 BL s2 s1 :=
 ⟨zab h.b hB, OwnOf.later h.o hB, h.x.later hB, h.y.later hB⟩
theorem ExL.drew {w X : World} {g q2 q1 : Nat} {BL : List UInt8} {s2 s1 : ByteArray} (h : ExL w X g q2 q1 BL s2 s1) : ExL w X.drew g q2 q1 BL s2 s1 := ⟨h.b.drew, OwnOf.drew h.o, h.x, h.y⟩
theorem zcx : okV (3, 0, ⟨#[97, 98, 99, 98]⟩) := ⟨by decide, by unfold InI; decide⟩
theorem ze8 (n : Int) (h : InI n) : okV (1, n, ⟨#[]⟩) := ⟨show (⟨#[]⟩ : ByteArray).size ≤ 300 by decide, h⟩
theorem zq8 (s : ByteArray) (h : s.size ≤ 300) : okV (3, 0, s) := ⟨h, show InI 0 by unfold InI; decide⟩
theorem yhp : okV (0, 0, ⟨#[]⟩) := ⟨by decide, by unfold InI; decide⟩
set_option maxRecDepth 100000 in
set_option maxHeartbeats 25600000 in
theorem zh0 (w : World)
 (HCA0 : ∀ (fn : Nat) (L : List V3) v W, (∀ u ∈ L, okV u) → Below w.heap.size w W → SlW L v W → Calls Tryz.prog 13 #[.int .u8 (fn : Int), v] W fun e w' => (∃ u, e = .returned u ∧ u = .bool true) ∧ Below W.heap.size W w')
 (HAW0 : ∀ W, Below w.heap.size w W → Calls Tryz.prog 15 #[] W fun e w' => e = .returned (.bool true) ∧ Below W.heap.size W w') : Calls Tryz.prog 4 #[] w fun e w' => e = .returned (.bool true) ∧ Below w.heap.size w w' := by
 have HCA := Lib.hid HCA0
 have HAW := Lib.hid HAW0
 clear HCA0 HAW0
 go_enter Tryz.func4, Tryz.ntmps4
 go_wp2_with fail
 refine (zvs _).mono ?_
 rintro e w1 ⟨⟨v, L, rfl, hO, hl, hk⟩, hB⟩
 obtain ⟨a, cap, rfl, hI⟩ := OwnOf.isOf zav hO
 have hcp : L.length ≤ cap := cap9 hO
 have l1 := zaa w1 (.cells #[.int .u8 3, .int .i64 0, .string ⟨#[97, 98, 99, 98]⟩] 26)
 have hy := B3.start w1 3 0 ⟨#[97, 98, 99, 98]⟩
 have HE := Lib.hid (show Ex w (w1.alloc (.cells #[.int .u8 3, .int .i64 0, .string ⟨#[97, 98, 99, 98]⟩] 26)) a cap L w1.heap.size from ⟨zab hB l1, IsOf.later hI l1, hy⟩)
 have HK := Lib.hid hk
 clear hO hB hI l1 hy hk
 go_upto_region 3 with fail
 generalize w1.alloc (.cells #[.int .u8 3, .int .i64 0, .string ⟨#[97, 98, 99, 98]⟩] 26) = wa at *
 generalize hp : w1.heap.size = p at *
 obtain ⟨n, hn⟩ : ∃ n, L.length = n := ⟨_, rfl⟩
 have HN := Lib.hid hn
 rw [hn] at hcp hl
 rw [hn]
 clear hn hp
 go_wp2_with fail
 go_loopw [3] (fun i wr => ∃ fn : Nat, fn ≤ 52 ∧ i = .int .u8 (fn : Int) ∧ Hid (Ex w wr a cap L p)) (fun i _ => 60 - (intOf i).toNat)
 case atStart => exact ⟨0, by omega, rfl, HE.out⟩
 case round =>
  clear HE
  obtain ⟨fn, hfn, rfl, HE⟩ := hrel
  by_cases hlt : fn ≤ 51
  · have d1 : decide ((fn : Int) ≤ 51) = true := by simp; omega
    go_wp2_with fail
    go_loopw [4] (fun i wr => ∃ k : Nat, k ≤ n ∧ i = .int .i64 (k : Int) ∧ Hid (Ex w wr a cap L p)) (fun i _ => n - (intOf i).toNat)
    case atStart => exact ⟨0, by omega, rfl, HE.out⟩
    case round =>
     clear HE
     obtain ⟨k, hk, rfl, HE⟩ := hrel
     by_cases hlt2 : k < n
     · obtain ⟨m, hm⟩ : ∃ m : Nat, (n : Int) - 1 - (k : Int) = m := ⟨n - 1 - k, by omega⟩
       have hw1 : IntKind.i64.wrap ((n : Int) - 1) = (n : Int) - 1 := IntWalk.i64_in _ (by omega)
       have hw2 : IntKind.i64.wrap ((n : Int) - 1 - (k : Int)) = (m : Int) := by rw [← hm]; exact IntWalk.i64_in _ (by omega)
       have hmn : m < n := by omega
       have hkl : k < L.length := by rw [HN.out]; exact hlt2
       have hml : m < L.length := by rw [HN.out]; exact hmn
       have hki : (k : Int) < (n : Int) := by omega
       have hmi : (m : Int) < (n : Int) := by omega
       have hkc : k + 1 ≤ cap := by omega
       have hw3 : IntKind.i64.wrap ((k : Int) + 1) = (k : Int) + 1 := IntWalk.i64_in _ (by omega)
       have hx1 : (0 : Int) ≤ (k : Int) + 1 := by omega
       have hx2 : (k : Int) + 1 ≤ (cap : Int) := by omega
       have hx3 : k ≤ ((k : Int) + 1).toNat := by omega
       have hx4 : ((k : Int) + 1).toNat - k = 1 := by omega
       have hck : ¬ cap = k := by omega
       obtain ⟨b, off, rfl, _⟩ := zhs HE.out.i hkl
       obtain ⟨⟨uk, un, us⟩, hu⟩ : ∃ u, L[k] = u := ⟨_, rfl⟩
       obtain ⟨⟨vk, vn, vt⟩, hv⟩ : ∃ u, L[m] = u := ⟨_, rfl⟩
       have HU := Lib.hid hu
       have HV := Lib.hid hv
       have HUK := Lib.hid (show okV (uk, un, us) from hu ▸ HK.out _ (List.getElem_mem hkl))
       have HVK := Lib.hid (show okV (vk, vn, vt) from hv ▸ HK.out _ (List.getElem_mem hml))
       clear hm hu hv
       have EXF : Hid (∀ X, Ex w X (some ⟨b, off, none⟩) cap L p → p < X.heap.size ∧ X.cell? ⟨p, 0, none⟩ = some (.int .u8 3) ∧ X.cell? ⟨p, 1, none⟩ = some (.int .i64 0) ∧ X.cell? ⟨p, 2, none⟩ = some (.string ⟨#[97, 98, 99, 98]⟩) ∧ b < X.heap.size ∧
        X.cell? ⟨b, off + k * 3, none⟩ = some (.int .u8 (uk : Int)) ∧ X.cell? ⟨b, off + k * 3 + 1, none⟩ = some (.int .i64 un) ∧ X.cell? ⟨b, off + k * 3 + 2, none⟩ = some (.string us) ∧ X.cell? ⟨b, off + m * 3, none⟩ = some (.int .u8 (vk : Int)) ∧ X.cell? ⟨b, off + m * 3 + 1, none⟩ = some (.int .i64 vn) ∧ X.cell? ⟨b, off + m * 3 + 2, none⟩ = some (.string vt)) := by
        intro X hS
        obtain ⟨y0, y1, y2, _, _, _⟩ := hS.y.cells
        obtain ⟨bl, c1, c2, c3⟩ := hS.at hkl
        obtain ⟨bl2, e1, e2, e3⟩ := hS.at hml
        rw [HU.out] at c1 c2 c3
        rw [HV.out] at e1 e2 e3
        exact ⟨hS.y.lt, y0, y1, y2, bl, c1, c2, c3, e1, e2, e3⟩
       go_upto_region 9 with fail
       refine zda (fun X => Ex w X (some ⟨b, off, none⟩) cap L p) (fun X X2 hB h => h.later hB) (by kernel_rfl) (by kernel_rfl) (by kernel_rfl) HE.out.drew ?_
       simp only [List.append_eq, List.cons_append, List.nil_append, zhz, Act.put, List.setIfInBounds_toArray, List.set_cons_zero, List.set_cons_succ, Nat.zero_add, Nat.reduceAdd]
       iterate 5
        refine sqR ?_ (fun vs W hS hD => ?_) ?_
        rotate_left
        · (obtain ⟨yl, y0, y1, y2, bl, c1, c2, c3, e1, e2, e3⟩ := EXF.out _ hS; obtain _ := hS; (try simp at hD); (try simp only [hD]); (first | (go_simp; done) | (go_simp; rfl)))
        simp only [List.nil_append, List.cons_append]
       refine sqO [(uk, un, us)] (fun vs W hS hD => ?_) ?_
       · ((try simp at hD); unfold OperR; (try simp only [hD]); go_simp; (try simp only [hw3, hx1, hx2, and_self, if_true, hx3, if_neg hck, hx4]); exact ⟨⟨_, _, rfl, hS.one hkl HU.out, by simp; omega⟩, Below.refl _ _⟩)
       simp only [List.nil_append, List.cons_append]
       refine sqC (f := 13) (.bool true) (fun vs => #[.int .u8 (fn : Int), vs 5]) (fun vs W hS hD => ?_) (fun vs W hS hD => ?_) ?_
       · (try simp at hD); (try simp only [hD]); go_simp; done
       · ((try simp at hD); exact HCA.out fn ([(uk, un, us)]) _ W (zan HUK.out zby) hS.b (by first | exact hD | exact hD.1 | exact hD.2 | exact hD.2.1 | exact hD.1.1))
       simp only [List.nil_append, List.cons_append]
       iterate 8
        refine sqR ?_ (fun vs W hS hD => ?_) ?_
        rotate_left
        · (obtain ⟨yl, y0, y1, y2, bl, c1, c2, c3, e1, e2, e3⟩ := EXF.out _ hS; obtain _ := hS; (try simp at hD); (try simp only [hD]); (first | (go_simp; done) | (go_simp; rfl)))
        simp only [List.nil_append, List.cons_append]
       refine sqO ([(3, 0, ⟨#[97, 98, 99, 98]⟩), (uk, un, us)]) (fun vs W hS hD => ?_) ?_
       · ((try simp at hD); unfold OperR; (try simp only [hD]); go_simp; exact ⟨⟨_, _, rfl, za0 _ _ _ _ rfl, by simp⟩, zaa _ _⟩)
       simp only [List.nil_append, List.cons_append]
       refine sqC (f := 13) (.bool true) (fun vs => #[.int .u8 (fn : Int), vs 15]) (fun vs W hS hD => ?_) (fun vs W hS hD => ?_) ?_
       · (try simp at hD); (try simp only [hD]); go_simp; done
       · ((try simp at hD); exact HCA.out fn ([(3, 0, ⟨#[97, 98, 99, 98]⟩), (uk, un, us)]) _ W (zan zcx (zan HUK.out zby)) hS.b (by first | exact hD | exact hD.1 | exact hD.2 | exact hD.2.1 | exact hD.1.1))
       simp only [List.nil_append, List.cons_append]
       iterate 9
        refine sqR ?_ (fun vs W hS hD => ?_) ?_
        rotate_left
        · (obtain ⟨yl, y0, y1, y2, bl, c1, c2, c3, e1, e2, e3⟩ := EXF.out _ hS; obtain _ := hS; (try simp at hD); (try simp only [hD]); (first | (go_simp; done) | (go_simp; rfl)))
        simp only [List.nil_append, List.cons_append]
       refine sqO ([(uk, un, us), (3, 0, ⟨#[97, 98, 99, 98]⟩)]) (fun vs W hS hD => ?_) ?_
       · ((try simp at hD); unfold OperR; (try simp only [hD]); go_simp; exact ⟨⟨_, _, rfl, za0 _ _ _ _ rfl, by simp⟩, zaa _ _⟩)
       simp only [List.nil_append, List.cons_append]
       refine sqC (f := 13) (.bool true) (fun vs => #[.int .u8 (fn : Int), vs 26]) (fun vs W hS hD => ?_) (fun vs W hS hD => ?_) ?_
       · (try simp at hD); (try simp only [hD]); go_simp; done
       · ((try simp at hD); exact HCA.out fn ([(uk, un, us), (3, 0, ⟨#[97, 98, 99, 98]⟩)]) _ W (zan HUK.out (zan zcx zby)) hS.b (by first | exact hD | exact hD.1 | exact hD.2 | exact hD.2.1 | exact hD.1.1))
       simp only [List.nil_append, List.cons_append]
       iterate 16
        refine sqR ?_ (fun vs W hS hD => ?_) ?_
        rotate_left
        · (obtain ⟨yl, y0, y1, y2, bl, c1, c2, c3, e1, e2, e3⟩ := EXF.out _ hS; obtain _ := hS; (try simp at hD); (try simp only [hD]); (first | (go_simp; done) | (go_simp; rfl)))
        simp only [List.nil_append, List.cons_append]
       refine sqO ([(uk, un, us), (vk, vn, vt)]) (fun vs W hS hD => ?_) ?_
       · ((try simp at hD); unfold OperR; (try simp only [hD]); go_simp; exact ⟨⟨_, _, rfl, za0 _ _ _ _ rfl, by simp⟩, zaa _ _⟩)
       simp only [List.nil_append, List.cons_append]
       refine sqC (f := 13) (.bool true) (fun vs => #[.int .u8 (fn : Int), vs 44]) (fun vs W hS hD => ?_) (fun vs W hS hD => ?_) ?_
       · (try simp at hD); (try simp only [hD]); go_simp; done
       · ((try simp at hD); exact HCA.out fn ([(uk, un, us), (vk, vn, vt)]) _ W (zan HUK.out (zan HVK.out zby)) hS.b (by first | exact hD | exact hD.1 | exact hD.2 | exact hD.2.1 | exact hD.1.1))
       simp only [List.nil_append, List.cons_append]
       iterate 9
        refine sqR ?_ (fun vs W hS hD => ?_) ?_
        rotate_left
        · (obtain ⟨yl, y0, y1, y2, bl, c1, c2, c3, e1, e2, e3⟩ := EXF.out _ hS; obtain _ := hS; (try simp at hD); (try simp only [hD]); (first | (go_simp; done) | (go_simp; rfl)))
        simp only [List.nil_append, List.cons_append]
       refine sqC (f := 14) (.agg #[.int .u8 1, .int .i64 (20000), .string ⟨#[]⟩]) (fun vs => #[.int .i64 (20000)]) (fun vs W hS hD => ?_) (fun vs W hS hD => ?_) ?_
       · (try simp at hD); (try simp only [hD]); go_simp; done
       · exact (zbs (20000) W).mono fun _ _ => retT
       simp only [List.nil_append, List.cons_append]
       refine sqO ([(3, 0, ⟨#[97, 98, 99, 98]⟩), (uk, un, us), (1, 20000, ⟨#[]⟩)]) (fun vs W hS hD => ?_) ?_
       · ((try simp at hD); unfold OperR; (try simp only [hD]); go_simp; exact ⟨⟨_, _, rfl, za0 _ _ _ _ rfl, by simp⟩, zaa _ _⟩)
       simp only [List.nil_append, List.cons_append]
       refine sqC (f := 13) (.bool true) (fun vs => #[.int .u8 (fn : Int), vs 56]) (fun vs W hS hD => ?_) (fun vs W hS hD => ?_) ?_
       · (try simp at hD); (try simp only [hD]); go_simp; done
       · ((try simp at hD); exact HCA.out fn ([(3, 0, ⟨#[97, 98, 99, 98]⟩), (uk, un, us), (1, 20000, ⟨#[]⟩)]) _ W (zan zcx (zan HUK.out (zan (ze8 20000 (by unfold InI; decide)) zby))) hS.b (by first | exact hD | exact hD.1 | exact hD.2 | exact hD.2.1 | exact hD.1.1))
       simp only [List.nil_append, List.cons_append]
       iterate 5
        refine sqR ?_ (fun vs W hS hD => ?_) ?_
        rotate_left
        · (obtain ⟨yl, y0, y1, y2, bl, c1, c2, c3, e1, e2, e3⟩ := EXF.out _ hS; obtain _ := hS; (try simp at hD); (try simp only [hD]); (first | (go_simp; done) | (go_simp; rfl)))
        simp only [List.nil_append, List.cons_append]
       refine sqC (f := 14) (.agg #[.int .u8 1, .int .i64 (20000), .string ⟨#[]⟩]) (fun vs => #[.int .i64 (20000)]) (fun vs W hS hD => ?_) (fun vs W hS hD => ?_) ?_
       · (try simp at hD); (try simp only [hD]); go_simp; done
       · exact (zbs (20000) W).mono fun _ _ => retT
       simp only [List.nil_append, List.cons_append]
       iterate 4
        refine sqR ?_ (fun vs W hS hD => ?_) ?_
        rotate_left
        · (obtain ⟨yl, y0, y1, y2, bl, c1, c2, c3, e1, e2, e3⟩ := EXF.out _ hS; obtain _ := hS; (try simp at hD); (try simp only [hD]); (first | (go_simp; done) | (go_simp; rfl)))
        simp only [List.nil_append, List.cons_append]
       refine sqO ([(3, 0, ⟨#[97, 98, 99, 98]⟩), (1, 20000, ⟨#[]⟩), (uk, un, us)]) (fun vs W hS hD => ?_) ?_
       · ((try simp at hD); unfold OperR; (try simp only [hD]); go_simp; exact ⟨⟨_, _, rfl, za0 _ _ _ _ rfl, by simp⟩, zaa _ _⟩)
       simp only [List.nil_append, List.cons_append]
       refine sqC (f := 13) (.bool true) (fun vs => #[.int .u8 (fn : Int), vs 68]) (fun vs W hS hD => ?_) (fun vs W hS hD => ?_) ?_
       · (try simp at hD); (try simp only [hD]); go_simp; done
       · ((try simp at hD); exact HCA.out fn ([(3, 0, ⟨#[97, 98, 99, 98]⟩), (1, 20000, ⟨#[]⟩), (uk, un, us)]) _ W (zan zcx (zan (ze8 20000 (by unfold InI; decide)) (zan HUK.out zby))) hS.b (by first | exact hD | exact hD.1 | exact hD.2 | exact hD.2.1 | exact hD.1.1))
       simp only [List.nil_append, List.cons_append]
       iterate 10
        refine sqR ?_ (fun vs W hS hD => ?_) ?_
        rotate_left
        · (obtain ⟨yl, y0, y1, y2, bl, c1, c2, c3, e1, e2, e3⟩ := EXF.out _ hS; obtain _ := hS; (try simp at hD); (try simp only [hD]); (first | (go_simp; done) | (go_simp; rfl)))
        simp only [List.nil_append, List.cons_append]
       refine sqO ([(3, 0, ⟨#[97, 98, 99, 98]⟩), (3, 0, ⟨#[97, 98, 99, 98]⟩), (uk, un, us)]) (fun vs W hS hD => ?_) ?_
       · ((try simp at hD); unfold OperR; (try simp only [hD]); go_simp; exact ⟨⟨_, _, rfl, za0 _ _ _ _ rfl, by simp⟩, zaa _ _⟩)
       simp only [List.nil_append, List.cons_append]
       refine sqC (f := 13) (.bool true) (fun vs => #[.int .u8 (fn : Int), vs 80]) (fun vs W hS hD => ?_) (fun vs W hS hD => ?_) ?_
       · (try simp at hD); (try simp only [hD]); go_simp; done
       · ((try simp at hD); exact HCA.out fn ([(3, 0, ⟨#[97, 98, 99, 98]⟩), (3, 0, ⟨#[97, 98, 99, 98]⟩), (uk, un, us)]) _ W (zan zcx (zan zcx (zan HUK.out zby))) hS.b (by first | exact hD | exact hD.1 | exact hD.2 | exact hD.2.1 | exact hD.1.1))
       simp only [List.nil_append, List.cons_append]
       iterate 2
        refine sqR ?_ (fun vs W hS hD => ?_) ?_
        rotate_left
        · (obtain ⟨yl, y0, y1, y2, bl, c1, c2, c3, e1, e2, e3⟩ := EXF.out _ hS; obtain _ := hS; (try simp at hD); (try simp only [hD]); (first | (go_simp; done) | (go_simp; rfl)))
        simp only [List.nil_append, List.cons_append]
       refine zh5 fun vs W hS hv => ?_
       simp only [AllF, Nat.zero_add, Nat.reduceAdd] at hv
       obtain ⟨h0, h1, h2, h3, h4, h5, h6, h7, h8, h9, h10, h11, h12, h13, h14, h15, h16, h17, h18, h19, h20, h21, h22, h23, h24, h25, h26, h27, h28, h29, h30, h31, h32, h33, h34, h35, h36, h37, h38, h39, h40, h41, h42, h43, h44, h45, h46, h47, h48, h49, h50, h51, h52, h53, h54, h55, h56, h57, h58, h59, h60, h61, h62, h63, h64, h65, h66, h67, h68, h69, h70, h71, h72, h73, h74, h75, h76, h77, h78, h79, h80, h81, h82, h83, _⟩ := hv
       simp only [h0, h1, h2, h3, h4, h6, h7, h8, h9, h10, h11, h12, h13, h14, h16, h17, h18, h19, h20, h21, h22, h23, h24, h25, h27, h28, h29, h30, h31, h32, h33, h34, h35, h36, h37, h38, h39, h40, h41, h42, h43, h45, h46, h47, h48, h49, h50, h51, h52, h53, h54, h55, h57, h58, h59, h60, h61, h62, h63, h64, h65, h66, h67, h69, h70, h71, h72, h73, h74, h75, h76, h77, h78, h79, h81, h82, h83]
       clear h0 h1 h2 h3 h4 h6 h7 h8 h9 h10 h11 h12 h13 h14 h16 h17 h18 h19 h20 h21 h22 h23 h24 h25 h27 h28 h29 h30 h31 h32 h33 h34 h35 h36 h37 h38 h39 h40 h41 h42 h43 h45 h46 h47 h48 h49 h50 h51 h52 h53 h54 h55 h57 h58 h59 h60 h61 h62 h63 h64 h65 h66 h67 h69 h70 h71 h72 h73 h74 h75 h76 h77 h78 h79 h81 h82 h83
       have HE2 := Lib.hid hS
       clear hS HE
       go_wp2_with fail
       exact ⟨⟨k + 1, by omega, by go_num, HE2.out⟩, by simp [intOf]; omega⟩
     · have hki : ¬ (k : Int) < (n : Int) := by omega
       go_wp2_with fail
       exact ⟨⟨fn + 1, by omega, by go_num, HE.out⟩, by simp [intOf]; omega⟩
  · have d1 : decide ((fn : Int) ≤ 51) = false := by simp; omega
    go_wp2_with fail
    go_loopw [5] (fun i wr => ∃ x : Int, -2 ≤ x ∧ x ≤ 7 ∧ i = .int .i64 x ∧ Hid (Ex w wr a cap L p)) (fun i _ => (7 - intOf i).toNat)
    case atStart => exact ⟨-2, by omega, by omega, rfl, HE.out⟩
    case round =>
     clear HE
     obtain ⟨x, hx1, hx2, rfl, HE⟩ := hrel
     by_cases hlt4 : x < 7
     · have d4 : decide (x < 7) = true := decide_eq_true hlt4
       go_wp2_with fail
       go_loopw [6] (fun i wr => ∃ y : Int, -2 ≤ y ∧ y ≤ 7 ∧ i = .int .i64 y ∧ Hid (Ex w wr a cap L p)) (fun i _ => (7 - intOf i).toNat)
       case atStart => exact ⟨-2, by omega, by omega, rfl, HE.out⟩
       case round =>
        clear HE
        obtain ⟨y, hy1, hy2, rfl, HE⟩ := hrel
        by_cases hlt5 : y < 7
        · have d5 : decide (y < 7) = true := decide_eq_true hlt5
          have hxm : IntKind.i64.wrap (x * 10000) = x * 10000 := IntWalk.i64_in _ (by omega)
          have hym : IntKind.i64.wrap (y * 10000) = y * 10000 := IntWalk.i64_in _ (by omega)
          have hx3 : IntKind.i64.wrap (x * 300000) = x * 300000 := IntWalk.i64_in _ (by omega)
          have hy5 : IntKind.i64.wrap (y * 5000) = y * 5000 := IntWalk.i64_in _ (by omega)
          have hs5 : IntKind.i64.wrap (x * 300000 + y * 5000) = x * 300000 + y * 5000 := IntWalk.i64_in _ (by omega)
          have hy9 : IntKind.i64.wrap (y * 10000 + 9999) = y * 10000 + 9999 := IntWalk.i64_in _ (by omega)
          have o1 := ze8 (x * 10000) (by unfold InI; omega)
          have o2 := ze8 (y * 10000) (by unfold InI; omega)
          have o3 := ze8 (x * 300000 + y * 5000) (by unfold InI; omega)
          have o4 := ze8 (y * 10000 + 9999) (by unfold InI; omega)
          have O1 := Lib.hid o1
          have O2 := Lib.hid o2
          have O3 := Lib.hid o3
          have O4 := Lib.hid o4
          clear o1 o2 o3 o4
          have hq1 := zjd y (show (0 : Int) < 4 by decide)
          have hq2 := Int.tmod_lt_of_pos y (show (0 : Int) < 4 by decide)
          have hrm : IntKind.i64.wrap (y.tmod 4) = y.tmod 4 := IntWalk.i64_in _ (by omega)
          obtain ⟨q, hq⟩ : ∃ q : Nat, max 0 (y.tmod 4) = (q : Int) := ⟨(max 0 (y.tmod 4)).toNat, by omega⟩
          have hq3 : (q : Int) ≤ 4 := by omega
          have HSB := Lib.hid (zq8 (ByteArray.extract ⟨#[97, 98, 99, 98]⟩ 0 q) (by rw [ByteArray.size_extract]; show min q 4 - 0 ≤ 300; omega))
          have EXF : Hid (∀ X, Ex w X a cap L p → p < X.heap.size ∧ X.cell? ⟨p, 0, none⟩ = some (.int .u8 3) ∧ X.cell? ⟨p, 1, none⟩ = some (.int .i64 0) ∧ X.cell? ⟨p, 2, none⟩ = some (.string ⟨#[97, 98, 99, 98]⟩)) := by
           intro X hS
           obtain ⟨y0, y1, y2, _, _, _⟩ := hS.y.cells
           exact ⟨hS.y.lt, y0, y1, y2⟩
          go_upto_region 17 with fail
          refine zda (fun X => Ex w X a cap L p) (fun X X2 hB h => h.later hB) (by kernel_rfl) (by kernel_rfl) (by kernel_rfl) HE.out.drew ?_
          simp only [List.append_eq, List.cons_append, List.nil_append, zhz, Act.put, List.setIfInBounds_toArray, List.set_cons_zero, List.set_cons_succ, Nat.zero_add, Nat.reduceAdd]
          iterate 3
           refine sqR ?_ (fun vs W hS hD => ?_) ?_
           rotate_left
           · (obtain ⟨yl, y0, y1, y2⟩ := EXF.out _ hS; obtain _ := hS; (try simp at hD); (try simp only [hD]); (first | (go_simp; done) | (go_simp; rfl)))
           simp only [List.nil_append, List.cons_append]
          refine sqC (f := 14) (.agg #[.int .u8 1, .int .i64 (x * 10000), .string ⟨#[]⟩]) (fun vs => #[.int .i64 (x * 10000)]) (fun vs W hS hD => ?_) (fun vs W hS hD => ?_) ?_
          · (try simp at hD); (try simp only [hD]); go_simp; done
          · exact (zbs (x * 10000) W).mono fun _ _ => retT
          simp only [List.nil_append, List.cons_append]
          iterate 2
           refine sqR ?_ (fun vs W hS hD => ?_) ?_
           rotate_left
           · (obtain ⟨yl, y0, y1, y2⟩ := EXF.out _ hS; obtain _ := hS; (try simp at hD); (try simp only [hD]); (first | (go_simp; done) | (go_simp; rfl)))
           simp only [List.nil_append, List.cons_append]
          refine sqC (f := 14) (.agg #[.int .u8 1, .int .i64 (y * 10000), .string ⟨#[]⟩]) (fun vs => #[.int .i64 (y * 10000)]) (fun vs W hS hD => ?_) (fun vs W hS hD => ?_) ?_
          · (try simp at hD); (try simp only [hD]); go_simp; done
          · exact (zbs (y * 10000) W).mono fun _ _ => retT
          simp only [List.nil_append, List.cons_append]
          refine sqO ([(3, 0, ⟨#[97, 98, 99, 98]⟩), (1, x * 10000, ⟨#[]⟩), (1, y * 10000, ⟨#[]⟩)]) (fun vs W hS hD => ?_) ?_
          · ((try simp at hD); unfold OperR; (try simp only [hD]); go_simp; exact ⟨⟨_, _, rfl, za0 _ _ _ _ rfl, by simp⟩, zaa _ _⟩)
          simp only [List.nil_append, List.cons_append]
          refine sqC (f := 13) (.bool true) (fun vs => #[.int .u8 34, vs 7]) (fun vs W hS hD => ?_) (fun vs W hS hD => ?_) ?_
          · (try simp at hD); (try simp only [hD]); go_simp; done
          · ((try simp at hD); exact HCA.out 34 ([(3, 0, ⟨#[97, 98, 99, 98]⟩), (1, x * 10000, ⟨#[]⟩), (1, y * 10000, ⟨#[]⟩)]) _ W (zan zcx (zan O1.out (zan O2.out zby))) hS.b (by first | exact hD | exact hD.1 | exact hD.2 | exact hD.2.1 | exact hD.1.1))
          simp only [List.nil_append, List.cons_append]
          iterate 10
           refine sqR ?_ (fun vs W hS hD => ?_) ?_
           rotate_left
           · (obtain ⟨yl, y0, y1, y2⟩ := EXF.out _ hS; obtain _ := hS; (try simp at hD); (try simp only [hD]); (first | (go_simp; done) | (go_simp; rfl)))
           simp only [List.nil_append, List.cons_append]
          refine sqC (f := 14) (.agg #[.int .u8 1, .int .i64 (x * 10000), .string ⟨#[]⟩]) (fun vs => #[.int .i64 (x * 10000)]) (fun vs W hS hD => ?_) (fun vs W hS hD => ?_) ?_
          · (try simp at hD); (try simp only [hD]); go_simp; done
          · exact (zbs (x * 10000) W).mono fun _ _ => retT
          simp only [List.nil_append, List.cons_append]
          refine sqO ([(3, 0, (ByteArray.extract ⟨#[97, 98, 99, 98]⟩ 0 q)), (3, 0, ⟨#[97, 98, 99, 98]⟩), (1, x * 10000, ⟨#[]⟩)]) (fun vs W hS hD => ?_) ?_
          · ((try simp at hD); unfold OperR; (try simp only [hD]); go_simp; exact ⟨⟨_, _, rfl, za0 _ _ _ _ rfl, by simp⟩, zaa _ _⟩)
          simp only [List.nil_append, List.cons_append]
          refine sqC (f := 13) (.bool true) (fun vs => #[.int .u8 41, vs 20]) (fun vs W hS hD => ?_) (fun vs W hS hD => ?_) ?_
          · (try simp at hD); (try simp only [hD]); go_simp; done
          · ((try simp at hD); exact HCA.out 41 ([(3, 0, (ByteArray.extract ⟨#[97, 98, 99, 98]⟩ 0 q)), (3, 0, ⟨#[97, 98, 99, 98]⟩), (1, x * 10000, ⟨#[]⟩)]) _ W (zan HSB.out (zan zcx (zan O1.out zby))) hS.b (by first | exact hD | exact hD.1 | exact hD.2 | exact hD.2.1 | exact hD.1.1))
          simp only [List.nil_append, List.cons_append]
          iterate 9
           refine sqR ?_ (fun vs W hS hD => ?_) ?_
           rotate_left
           · (obtain ⟨yl, y0, y1, y2⟩ := EXF.out _ hS; obtain _ := hS; (try simp at hD); (try simp only [hD]); (first | (go_simp; done) | (go_simp; rfl)))
           simp only [List.nil_append, List.cons_append]
          refine sqC (f := 14) (.agg #[.int .u8 1, .int .i64 (x * 300000 + y * 5000), .string ⟨#[]⟩]) (fun vs => #[.int .i64 (x * 300000 + y * 5000)]) (fun vs W hS hD => ?_) (fun vs W hS hD => ?_) ?_
          · (try simp at hD); (try simp only [hD]); go_simp; done
          · exact (zbs (x * 300000 + y * 5000) W).mono fun _ _ => retT
          simp only [List.nil_append, List.cons_append]
          refine sqO ([(3, 0, ⟨#[97, 98, 99, 98]⟩), (1, x * 300000 + y * 5000, ⟨#[]⟩)]) (fun vs W hS hD => ?_) ?_
          · ((try simp at hD); unfold OperR; (try simp only [hD]); go_simp; exact ⟨⟨_, _, rfl, za0 _ _ _ _ rfl, by simp⟩, zaa _ _⟩)
          simp only [List.nil_append, List.cons_append]
          refine sqC (f := 13) (.bool true) (fun vs => #[.int .u8 39, vs 32]) (fun vs W hS hD => ?_) (fun vs W hS hD => ?_) ?_
          · (try simp at hD); (try simp only [hD]); go_simp; done
          · ((try simp at hD); exact HCA.out 39 ([(3, 0, ⟨#[97, 98, 99, 98]⟩), (1, x * 300000 + y * 5000, ⟨#[]⟩)]) _ W (zan zcx (zan O3.out zby)) hS.b (by first | exact hD | exact hD.1 | exact hD.2 | exact hD.2.1 | exact hD.1.1))
          simp only [List.nil_append, List.cons_append]
          iterate 7
           refine sqR ?_ (fun vs W hS hD => ?_) ?_
           rotate_left
           · (obtain ⟨yl, y0, y1, y2⟩ := EXF.out _ hS; obtain _ := hS; (try simp at hD); (try simp only [hD]); (first | (go_simp; done) | (go_simp; rfl)))
           simp only [List.nil_append, List.cons_append]
          refine sqC (f := 14) (.agg #[.int .u8 1, .int .i64 (y * 10000 + 9999), .string ⟨#[]⟩]) (fun vs => #[.int .i64 (y * 10000 + 9999)]) (fun vs W hS hD => ?_) (fun vs W hS hD => ?_) ?_
          · (try simp at hD); (try simp only [hD]); go_simp; done
          · exact (zbs (y * 10000 + 9999) W).mono fun _ _ => retT
          simp only [List.nil_append, List.cons_append]
          refine sqO ([(3, 0, ⟨#[97, 98, 99, 98]⟩), (1, y * 10000 + 9999, ⟨#[]⟩)]) (fun vs W hS hD => ?_) ?_
          · ((try simp at hD); unfold OperR; (try simp only [hD]); go_simp; exact ⟨⟨_, _, rfl, za0 _ _ _ _ rfl, by simp⟩, zaa _ _⟩)
          simp only [List.nil_append, List.cons_append]
          refine sqC (f := 13) (.bool true) (fun vs => #[.int .u8 32, vs 42]) (fun vs W hS hD => ?_) (fun vs W hS hD => ?_) ?_
          · (try simp at hD); (try simp only [hD]); go_simp; done
          · ((try simp at hD); exact HCA.out 32 ([(3, 0, ⟨#[97, 98, 99, 98]⟩), (1, y * 10000 + 9999, ⟨#[]⟩)]) _ W (zan zcx (zan O4.out zby)) hS.b (by first | exact hD | exact hD.1 | exact hD.2 | exact hD.2.1 | exact hD.1.1))
          simp only [List.nil_append, List.cons_append]
          iterate 6
           refine sqR ?_ (fun vs W hS hD => ?_) ?_
           rotate_left
           · (obtain ⟨yl, y0, y1, y2⟩ := EXF.out _ hS; obtain _ := hS; (try simp at hD); (try simp only [hD]); (first | (go_simp; done) | (go_simp; rfl)))
           simp only [List.nil_append, List.cons_append]
          refine sqC (f := 14) (.agg #[.int .u8 1, .int .i64 (y * 10000), .string ⟨#[]⟩]) (fun vs => #[.int .i64 (y * 10000)]) (fun vs W hS hD => ?_) (fun vs W hS hD => ?_) ?_
          · (try simp at hD); (try simp only [hD]); go_simp; done
          · exact (zbs (y * 10000) W).mono fun _ _ => retT
          simp only [List.nil_append, List.cons_append]
          refine sqO ([(3, 0, ⟨#[97, 98, 99, 98]⟩), (1, y * 10000, ⟨#[]⟩)]) (fun vs W hS hD => ?_) ?_
          · ((try simp at hD); unfold OperR; (try simp only [hD]); go_simp; exact ⟨⟨_, _, rfl, za0 _ _ _ _ rfl, by simp⟩, zaa _ _⟩)
          simp only [List.nil_append, List.cons_append]
          refine sqC (f := 13) (.bool true) (fun vs => #[.int .u8 33, vs 51]) (fun vs W hS hD => ?_) (fun vs W hS hD => ?_) ?_
          · (try simp at hD); (try simp only [hD]); go_simp; done
          · ((try simp at hD); exact HCA.out 33 ([(3, 0, ⟨#[97, 98, 99, 98]⟩), (1, y * 10000, ⟨#[]⟩)]) _ W (zan zcx (zan O2.out zby)) hS.b (by first | exact hD | exact hD.1 | exact hD.2 | exact hD.2.1 | exact hD.1.1))
          simp only [List.nil_append, List.cons_append]
          iterate 2
           refine sqR ?_ (fun vs W hS hD => ?_) ?_
           rotate_left
           · (obtain ⟨yl, y0, y1, y2⟩ := EXF.out _ hS; obtain _ := hS; (try simp at hD); (try simp only [hD]); (first | (go_simp; done) | (go_simp; rfl)))
           simp only [List.nil_append, List.cons_append]
          refine zh5 fun vs W hS hv => ?_
          simp only [AllF, Nat.zero_add, Nat.reduceAdd] at hv
          obtain ⟨h0, h1, h2, h3, h4, h5, h6, h7, h8, h9, h10, h11, h12, h13, h14, h15, h16, h17, h18, h19, h20, h21, h22, h23, h24, h25, h26, h27, h28, h29, h30, h31, h32, h33, h34, h35, h36, h37, h38, h39, h40, h41, h42, h43, h44, h45, h46, h47, h48, h49, h50, h51, h52, h53, h54, _⟩ := hv
          simp only [h0, h1, h2, h3, h4, h5, h6, h8, h9, h10, h11, h12, h13, h14, h15, h16, h17, h18, h19, h21, h22, h23, h24, h25, h26, h27, h28, h29, h30, h31, h33, h34, h35, h36, h37, h38, h39, h40, h41, h43, h44, h45, h46, h47, h48, h49, h50, h52, h53, h54]
          clear h0 h1 h2 h3 h4 h5 h6 h8 h9 h10 h11 h12 h13 h14 h15 h16 h17 h18 h19 h21 h22 h23 h24 h25 h26 h27 h28 h29 h30 h31 h33 h34 h35 h36 h37 h38 h39 h40 h41 h43 h44 h45 h46 h47 h48 h49 h50 h52 h53 h54
          have HE2 := Lib.hid hS
          clear hS HE
          go_wp2_with fail
          exact ⟨⟨y + 1, by omega, by omega, by go_num, HE2.out⟩, by simp [intOf]; omega⟩
        · obtain rfl : y = 7 := by omega
          go_wp2_with fail
          exact ⟨⟨x + 1, by omega, by omega, by go_num, HE.out⟩, by simp [intOf]; omega⟩
     · obtain rfl : x = 7 := by omega
       have hmk : ∀ X : World, (Instr.makeSlice 29 (.int .i64 257) (.int .i64 257)).run Tryz.prog X = .ok (.slice (some ⟨X.heap.size, 0, none⟩) 257 257) (X.alloc (.cells (madeCells #[.int .u8 0] 257) 5)) := yf9 257 (by decide)
       have HO := Lib.hid (zvb wr 257 97 (by decide) HE.out.b.size)
       have HB := Lib.hid (zab HE.out.b (zaa wr (.cells (madeCells #[.int .u8 0] 257) 5)))
       have hgw : w.heap.size ≤ wr.heap.size := HE.out.b.size
       clear HE
       go_wp2_with fail
       clear hmk
       generalize wr.heap.size = g at *
       generalize wr.alloc (.cells (madeCells #[.int .u8 0] 257) 5) = wb at *
       go_loopw [8] (fun i wr => ∃ k : Nat, k ≤ 257 ∧ i = .int .i64 (k : Int) ∧ Hid (OwnU w.heap.size wr (.slice (some ⟨g, 0, none⟩) 257 257) (zjs 257 k 97)) ∧ Hid (Below w.heap.size w wr)) (fun i _ => 257 - (intOf i).toNat)
       case atStart => exact ⟨0, by omega, rfl, HO.out, HB.out⟩
       case round =>
        clear HO HB
        obtain ⟨k, hk, rfl, HO, HB⟩ := hrel
        by_cases hltb : k < 257
        · have d6 : decide ((k : Int) < 257) = true := by simp; omega
          have hk257 : (k : Int) < 257 := by omega
          have hlen := zwe (b := 97) hk
          obtain ⟨g', hgg, hg, hgl, hth⟩ := OwnOf.there2 HO.out (by omega)
          cases hgg
          obtain ⟨hc0, hfz⟩ := hth k (by omega)
          rw [Nat.zero_add] at hc0 hfz
          obtain ⟨old, hold⟩ := Option.isSome_iff_exists.1 hc0
          have HN := Lib.hid (OwnOf.setAt ygr HO.out (k := k) (j := 0) (by omega) (by decide) (x := 97) (u := .int .u8 97) rfl)
          rw [zwd hltb, Nat.mul_one, Nat.add_zero] at HN
          have HBN := Lib.hid (HB.out.setCell (p := ⟨g, k, none⟩) hg (.int .u8 97))
          clear hth hc0 hlen
          go_wp2_with fail
          exact ⟨⟨k + 1, by omega, by go_num, HN.out, HBN.out⟩, by simp [intOf]; omega⟩
        · obtain rfl : k = 257 := by omega
          rw [zwf] at HO
          have HCV := Lib.hid (fun (m : Nat) (hm : m ≤ 257) (X : World) (h : OwnU w.heap.size X (.slice (some ⟨g, 0, none⟩) 257 257) (List.replicate 257 97)) => zzf h m hm)
          obtain ⟨s1, h1⟩ : ∃ s, str (List.replicate 1 (97 : UInt8)) = s := ⟨_, rfl⟩
          obtain ⟨s2, h2⟩ : ∃ s, str (List.replicate 256 (97 : UInt8)) = s := ⟨_, rfl⟩
          obtain ⟨s7, h7⟩ : ∃ s, str (List.replicate 257 (97 : UInt8)) = s := ⟨_, rfl⟩
          have OS1 := Lib.hid (zq8 s1 (by rw [← h1, zo2]; decide))
          have OS2 := Lib.hid (zq8 s2 (by rw [← h2, zo2]; decide))
          have OS7 := Lib.hid (zq8 s7 (by rw [← h7, zo2]; decide))
          have HC1 : Hid (∀ X, OwnU w.heap.size X (.slice (some ⟨g, 0, none⟩) 257 257) (List.replicate 257 97) → (convert 29 9 (.slice (some ⟨g, 0, none⟩) 1 257)).run Tryz.prog X = .ok (.string s1) X) := fun X h => by rw [← h1]; exact HCV.out 1 (by decide) X h
          have HC2 : Hid (∀ X, OwnU w.heap.size X (.slice (some ⟨g, 0, none⟩) 257 257) (List.replicate 257 97) → (convert 29 9 (.slice (some ⟨g, 0, none⟩) 256 257)).run Tryz.prog X = .ok (.string s2) X) := fun X h => by rw [← h2]; exact HCV.out 256 (by decide) X h
          have HC7 : Hid (∀ X, OwnU w.heap.size X (.slice (some ⟨g, 0, none⟩) 257 257) (List.replicate 257 97) → (convert 29 9 (.slice (some ⟨g, 0, none⟩) 257 257)).run Tryz.prog X = .ok (.string s7) X) := fun X h => by rw [← h7]; exact HCV.out 257 (by decide) X h
          clear h1 h2 h7 HCV
          generalize List.replicate 257 (97 : UInt8) = BL at *
          go_upto_region 24 with fail
          have HZ := Lib.hid (HB.out.size)
          refine zkf (fun X => Below wr.heap.size wr X) wr.heap.size
           [fbC (.slice (some ⟨g, 0, none⟩) 257 257), fbC (.slice (some ⟨g, 0, none⟩) 256 257), fbC (.string s2), fbC (.agg #[.int .u8 3, .int .i64 0, .string s2]), fbC (.slice (some ⟨g, 0, none⟩) 257 257), fbC (.slice (some ⟨g, 0, none⟩) 1 257), fbC (.string s1), fbC (.agg #[.int .u8 3, .int .i64 0, .string s1]),
            fbN (fun g => .pointer (some ⟨g, 0, none⟩)) wr.heap.size (.cells #[.int .u8 0, .int .i64 0, .string ⟨#[]⟩] 26), fbN (fun g => .pointer (some ⟨g, 0, none⟩)) wr.heap.size (.cells #[.int .u8 0, .int .i64 0, .string ⟨#[]⟩] 26), fbS 8 wr.heap.size (.cells #[.int .u8 3, .int .i64 0, .string s2] 26), fbS 9 wr.heap.size (.cells #[.int .u8 3, .int .i64 0, .string s1] 26)]
           [[], [], [], [], [], [], [], [], [], [], [8], [9]] [[], [], [], [], [], [], [], [], [], [], [8], [9]] [[], [0], [1], [2], [], [4], [5], [6], [], [], [8, 3], [9, 7]]
           (fun a b h k => k.trans h) (by kernel_rfl) (by kernel_rfl) (by kernel_rfl) ⟨rfl, rfl, rfl, Nat.le_refl _, fun _ _ => rfl⟩ (Nat.le_refl _) ?_ (by kernel_rfl)
           ⟨zhu _ _, zhu _ _, zhu _ _, zhu _ _, zhu _ _, zhu _ _, zhu _ _, zhu _ _, ybb _ (fun _ => rfl), ybb _ (fun _ => rfl), yba (by decide), yba (by decide), trivial⟩ (Nat.le_refl 12)
          simp only [List.append_eq, List.cons_append, List.nil_append, zhz, Act.put, List.setIfInBounds_toArray, List.set_cons_zero, List.set_cons_succ, Nat.zero_add, Nat.reduceAdd]
          refine zbf (zem rfl (fun vs W hD => rfl) (fun vs W hS hD => ?_)) ?_
          · go_simp; done
          refine zbf (zem rfl (fun vs W hD => rfl) (fun vs W hS hD => ?_)) ?_
          · have h1 : vs 0 = _ := hD.1
            go_simp; done
          refine zbf (zem rfl (fun vs W hD => rfl) (fun vs W hS hD => ?_)) ?_
          · have h1 : vs 1 = _ := hD.1
            have hc := HC2.out W (OwnOf.later HO.out hS)
            go_simp; done
          refine zbf (zem rfl (fun vs W hD => rfl) (fun vs W hS hD => ?_)) ?_
          · have h1 : vs 2 = _ := hD.1
            go_simp; done
          refine zbf (zem rfl (fun vs W hD => rfl) (fun vs W hS hD => ?_)) ?_
          · go_simp; done
          refine zbf (zem rfl (fun vs W hD => rfl) (fun vs W hS hD => ?_)) ?_
          · have h1 : vs 4 = _ := hD.1
            go_simp; done
          refine zbf (zem rfl (fun vs W hD => rfl) (fun vs W hS hD => ?_)) ?_
          · have h1 : vs 5 = _ := hD.1
            have hc := HC1.out W (OwnOf.later HO.out hS)
            go_simp; done
          refine zbf (zem rfl (fun vs W hD => rfl) (fun vs W hS hD => ?_)) ?_
          · have h1 : vs 6 = _ := hD.1
            go_simp; done
          refine zbf (zvi rfl (fun _ => rfl) (fun vs W hD => rfl) (fun vs W hS hD => ?_)) ?_
          · go_simp; done
          refine zbf (zvi rfl (fun _ => rfl) (fun vs W hD => rfl) (fun vs W hS hD => ?_)) ?_
          · go_simp; done
          refine zbf (zno (j := 8) rfl rfl (by decide) (fun vs W hD => rfl) (fun vs W hS hZ hD => ?_)) ?_
          · obtain ⟨⟨q, hq1, hq2, hh⟩, h9, _⟩ := hD
            have hq1 : vs 8 = _ := hq1
            have h9 : vs 3 = _ := h9
            have hx : B3 W q 0 0 ⟨#[]⟩ := hh
            obtain ⟨x0, x1, x2, z0, z1, z2⟩ := hx.cells
            have hxl := hx.lt
            obtain ⟨hs, hg⟩ := zae hx 3 0 s2
            refine ⟨q, _, hq1, hq2, hxl, ?_, hg, hs⟩
            clear hg hs hh hx
            go_simp; done
          refine zbf (zno (j := 9) rfl rfl (by decide) (fun vs W hD => rfl) (fun vs W hS hZ hD => ?_)) ?_
          · obtain ⟨⟨q, hq1, hq2, hh⟩, h9, _⟩ := hD
            have hq1 : vs 9 = _ := hq1
            have h9 : vs 7 = _ := h9
            have hx : B3 W q 0 0 ⟨#[]⟩ := hh
            obtain ⟨x0, x1, x2, z0, z1, z2⟩ := hx.cells
            have hxl := hx.lt
            obtain ⟨hs, hg⟩ := zae hx 3 0 s1
            refine ⟨q, _, hq1, hq2, hxl, ?_, hg, hs⟩
            clear hg hs hh hx
            go_simp; done
          refine zxt fun vs W hS hZ hv => ?_
          simp only [EndO] at hv
          obtain ⟨k0, k1, k2, k3, k4, k5, k6, k7, k8, k9, e10, e11, k10⟩ := hv
          clear k0 k1 k2 k3 k4 k5 k6 k7 k8 k9 k10
          obtain ⟨q2, p2, _, b2⟩ := e10 rfl
          obtain ⟨q1, p1, _, b1⟩ := e11 rfl
          replace p2 : vs 8 = .pointer (some ⟨q2, 0, none⟩) := p2
          replace p1 : vs 9 = .pointer (some ⟨q1, 0, none⟩) := p1
          have HL := Lib.hid (show ExL w W g q2 q1 BL s2 s1 from ⟨zab HB.out hS, OwnOf.later HO.out hS, b2, b1⟩)
          simp only [p2, p1]
          clear p2 p1 b2 b1 e10 e11 HO HB hZ HZ hS
          generalize vs 0 = v0, vs 1 = v1, vs 2 = v2, vs 3 = v3, vs 4 = v4, vs 5 = v5, vs 6 = v6, vs 7 = v7
          clear vs
          have HR16 : Hid (∃ R : List V3, ∃ cs, R.length = 16 ∧ (∀ u ∈ R, okV u) ∧ (∀ X : World, (Instr.makeSlice 22 (.int .i64 16) (.int .i64 16)).run Tryz.prog X = .ok (.slice (some ⟨X.heap.size, 0, none⟩) 16 16) (X.alloc (.cells cs 26))) ∧ ∀ X : World, IsV (X.alloc (.cells cs 26)) (some ⟨X.heap.size, 0, none⟩) 16 R) := ⟨List.replicate 16 bl3, _, rfl, ya0 16, ya4 16 (by decide), fun X => za0 X _ _ (List.replicate 16 bl3) rfl⟩
          have HR17 : Hid (∃ R : List V3, ∃ cs, R.length = 17 ∧ (∀ u ∈ R, okV u) ∧ (∀ X : World, (Instr.makeSlice 22 (.int .i64 17) (.int .i64 17)).run Tryz.prog X = .ok (.slice (some ⟨X.heap.size, 0, none⟩) 17 17) (X.alloc (.cells cs 26))) ∧ ∀ X : World, IsV (X.alloc (.cells cs 26)) (some ⟨X.heap.size, 0, none⟩) 17 R) := ⟨List.replicate 17 bl3, _, rfl, ya0 17, ya4 17 (by decide), fun X => za0 X _ _ (List.replicate 17 bl3) rfl⟩
          obtain ⟨R16, cs16, l16, k16, m16, i16⟩ := HR16.out
          obtain ⟨R17, cs17, l17, k17, m17, i17⟩ := HR17.out
          have K16 := Lib.hid k16
          have K17 := Lib.hid k17
          have M16 := Lib.hid m16
          have M17 := Lib.hid m17
          have I16 := Lib.hid i16
          have I17 := Lib.hid i17
          have L16 := Lib.hid l16
          have L17 := Lib.hid l17
          clear HR16 HR17 k16 k17 m16 m17 i16 i17 l16 l17
          have EXL2 : Hid (∀ X, ExL w X g q2 q1 BL s2 s1 → q2 < X.heap.size ∧ X.cell? ⟨q2, 0, none⟩ = some (.int .u8 3) ∧ X.cell? ⟨q2, 1, none⟩ = some (.int .i64 0) ∧ X.cell? ⟨q2, 2, none⟩ = some (.string s2) ∧ q1 < X.heap.size ∧ X.cell? ⟨q1, 0, none⟩ = some (.int .u8 3) ∧ X.cell? ⟨q1, 1, none⟩ = some (.int .i64 0) ∧ X.cell? ⟨q1, 2, none⟩ = some (.string s1) ∧ (convert 29 9 (.slice (some ⟨g, 0, none⟩) 257 257)).run Tryz.prog X = .ok (.string s7) X) := by
           intro X hS
           obtain ⟨y0, y1, y2, _, _, _⟩ := hS.x.cells
           obtain ⟨z0, z1, z2, _, _, _⟩ := hS.y.cells
           exact ⟨hS.x.lt, y0, y1, y2, hS.y.lt, z0, z1, z2, HC7.out X hS.o⟩
          clear HC1 HC2 HC7
          go_upto_region 25 with fail
          refine zda (fun X => ExL w X g q2 q1 BL s2 s1) (fun X X2 hB h => h.later hB) (by kernel_rfl) (by kernel_rfl) (by kernel_rfl) HL.out.drew ?_
          simp only [List.append_eq, List.cons_append, List.nil_append, zhz, Act.put, List.setIfInBounds_toArray, List.set_cons_zero, List.set_cons_succ, Nat.zero_add, Nat.reduceAdd]
          iterate 1
           refine sqR ?_ (fun vs W hS hD => ?_) ?_
           rotate_left
           · (obtain ⟨yl, y0, y1, y2, zl, z0, z1, z2, hc7⟩ := EXL2.out _ hS; obtain _ := hS; (try simp at hD); (try simp only [hD]); (first | (go_simp; done) | (go_simp; rfl)))
           simp only [List.nil_append, List.cons_append]
          refine sqO ([(3, 0, s2)]) (fun vs W hS hD => ?_) ?_
          · ((try simp at hD); unfold OperR; (try simp only [hD]); go_simp; exact ⟨⟨_, _, rfl, za0 _ _ _ _ rfl, by simp⟩, zaa _ _⟩)
          simp only [List.nil_append, List.cons_append]
          refine sqC (f := 13) (.bool true) (fun vs => #[.int .u8 38, vs 1]) (fun vs W hS hD => ?_) (fun vs W hS hD => ?_) ?_
          · (try simp at hD); (try simp only [hD]); go_simp; done
          · ((try simp at hD); exact HCA.out 38 ([(3, 0, s2)]) _ W (zan OS2.out zby) hS.b (by first | exact hD | exact hD.1 | exact hD.2 | exact hD.2.1 | exact hD.1.1))
          simp only [List.nil_append, List.cons_append]
          iterate 3
           refine sqR ?_ (fun vs W hS hD => ?_) ?_
           rotate_left
           · (obtain ⟨yl, y0, y1, y2, zl, z0, z1, z2, hc7⟩ := EXL2.out _ hS; obtain _ := hS; (try simp at hD); (try simp only [hD]); (first | (go_simp; done) | (go_simp; rfl)))
           simp only [List.nil_append, List.cons_append]
          refine sqO ([(3, 0, s2), (3, 0, s1)]) (fun vs W hS hD => ?_) ?_
          · ((try simp at hD); unfold OperR; (try simp only [hD]); go_simp; exact ⟨⟨_, _, rfl, za0 _ _ _ _ rfl, by simp⟩, zaa _ _⟩)
          simp only [List.nil_append, List.cons_append]
          refine sqC (f := 13) (.bool true) (fun vs => #[.int .u8 38, vs 6]) (fun vs W hS hD => ?_) (fun vs W hS hD => ?_) ?_
          · (try simp at hD); (try simp only [hD]); go_simp; done
          · ((try simp at hD); exact HCA.out 38 ([(3, 0, s2), (3, 0, s1)]) _ W (zan OS2.out (zan OS1.out zby)) hS.b (by first | exact hD | exact hD.1 | exact hD.2 | exact hD.2.1 | exact hD.1.1))
          simp only [List.nil_append, List.cons_append]
          iterate 2
           refine sqR ?_ (fun vs W hS hD => ?_) ?_
           rotate_left
           · (obtain ⟨yl, y0, y1, y2, zl, z0, z1, z2, hc7⟩ := EXL2.out _ hS; obtain _ := hS; (try simp at hD); (try simp only [hD]); (first | (go_simp; done) | (go_simp; rfl)))
           simp only [List.nil_append, List.cons_append]
          refine sqO R16 (fun vs W hS hD => ?_) ?_
          · ((try simp at hD); have hm := M16.out W; unfold OperR; (try simp only [hD]); go_simp; exact ⟨⟨_, _, by rw [L16.out], by rw [L16.out]; exact I16.out W, by rw [L16.out]; exact Nat.le_refl _⟩, zaa _ _⟩)
          simp only [List.nil_append, List.cons_append]
          refine sqC (f := 13) (.bool true) (fun vs => #[.int .u8 38, vs 10]) (fun vs W hS hD => ?_) (fun vs W hS hD => ?_) ?_
          · (try simp at hD); (try simp only [hD]); go_simp; done
          · ((try simp at hD); exact HCA.out 38 (R16) _ W K16.out hS.b (by first | exact hD | exact hD.1 | exact hD.2 | exact hD.2.1 | exact hD.1.1))
          simp only [List.nil_append, List.cons_append]
          iterate 2
           refine sqR ?_ (fun vs W hS hD => ?_) ?_
           rotate_left
           · (obtain ⟨yl, y0, y1, y2, zl, z0, z1, z2, hc7⟩ := EXL2.out _ hS; obtain _ := hS; (try simp at hD); (try simp only [hD]); (first | (go_simp; done) | (go_simp; rfl)))
           simp only [List.nil_append, List.cons_append]
          refine sqO R17 (fun vs W hS hD => ?_) ?_
          · ((try simp at hD); have hm := M17.out W; unfold OperR; (try simp only [hD]); go_simp; exact ⟨⟨_, _, by rw [L17.out], by rw [L17.out]; exact I17.out W, by rw [L17.out]; exact Nat.le_refl _⟩, zaa _ _⟩)
          simp only [List.nil_append, List.cons_append]
          refine sqC (f := 13) (.bool true) (fun vs => #[.int .u8 38, vs 14]) (fun vs W hS hD => ?_) (fun vs W hS hD => ?_) ?_
          · (try simp at hD); (try simp only [hD]); go_simp; done
          · ((try simp at hD); exact HCA.out 38 (R17) _ W K17.out hS.b (by first | exact hD | exact hD.1 | exact hD.2 | exact hD.2.1 | exact hD.1.1))
          simp only [List.nil_append, List.cons_append]
          iterate 3
           refine sqR ?_ (fun vs W hS hD => ?_) ?_
           rotate_left
           · (obtain ⟨yl, y0, y1, y2, zl, z0, z1, z2, hc7⟩ := EXL2.out _ hS; obtain _ := hS; (try simp at hD); (try simp only [hD]); (first | (go_simp; done) | (go_simp; rfl)))
           simp only [List.nil_append, List.cons_append]
          refine sqC (f := 14) (.agg #[.int .u8 1, .int .i64 (2560000), .string ⟨#[]⟩]) (fun vs => #[.int .i64 (2560000)]) (fun vs W hS hD => ?_) (fun vs W hS hD => ?_) ?_
          · (try simp at hD); (try simp only [hD]); go_simp; done
          · exact (zbs (2560000) W).mono fun _ _ => retT
          simp only [List.nil_append, List.cons_append]
          refine sqO ([(3, 0, s1), (1, 2560000, ⟨#[]⟩)]) (fun vs W hS hD => ?_) ?_
          · ((try simp at hD); unfold OperR; (try simp only [hD]); go_simp; exact ⟨⟨_, _, rfl, za0 _ _ _ _ rfl, by simp⟩, zaa _ _⟩)
          simp only [List.nil_append, List.cons_append]
          refine sqC (f := 13) (.bool true) (fun vs => #[.int .u8 39, vs 20]) (fun vs W hS hD => ?_) (fun vs W hS hD => ?_) ?_
          · (try simp at hD); (try simp only [hD]); go_simp; done
          · ((try simp at hD); exact HCA.out 39 ([(3, 0, s1), (1, 2560000, ⟨#[]⟩)]) _ W (zan OS1.out (zan (ze8 2560000 (by unfold InI; decide)) zby)) hS.b (by first | exact hD | exact hD.1 | exact hD.2 | exact hD.2.1 | exact hD.1.1))
          simp only [List.nil_append, List.cons_append]
          iterate 3
           refine sqR ?_ (fun vs W hS hD => ?_) ?_
           rotate_left
           · (obtain ⟨yl, y0, y1, y2, zl, z0, z1, z2, hc7⟩ := EXL2.out _ hS; obtain _ := hS; (try simp at hD); (try simp only [hD]); (first | (go_simp; done) | (go_simp; rfl)))
           simp only [List.nil_append, List.cons_append]
          refine sqC (f := 14) (.agg #[.int .u8 1, .int .i64 (2570000), .string ⟨#[]⟩]) (fun vs => #[.int .i64 (2570000)]) (fun vs W hS hD => ?_) (fun vs W hS hD => ?_) ?_
          · (try simp at hD); (try simp only [hD]); go_simp; done
          · exact (zbs (2570000) W).mono fun _ _ => retT
          simp only [List.nil_append, List.cons_append]
          refine sqO ([(3, 0, s1), (1, 2570000, ⟨#[]⟩)]) (fun vs W hS hD => ?_) ?_
          · ((try simp at hD); unfold OperR; (try simp only [hD]); go_simp; exact ⟨⟨_, _, rfl, za0 _ _ _ _ rfl, by simp⟩, zaa _ _⟩)
          simp only [List.nil_append, List.cons_append]
          refine sqC (f := 13) (.bool true) (fun vs => #[.int .u8 39, vs 26]) (fun vs W hS hD => ?_) (fun vs W hS hD => ?_) ?_
          · (try simp at hD); (try simp only [hD]); go_simp; done
          · ((try simp at hD); exact HCA.out 39 ([(3, 0, s1), (1, 2570000, ⟨#[]⟩)]) _ W (zan OS1.out (zan (ze8 2570000 (by unfold InI; decide)) zby)) hS.b (by first | exact hD | exact hD.1 | exact hD.2 | exact hD.2.1 | exact hD.1.1))
          simp only [List.nil_append, List.cons_append]
          iterate 3
           refine sqR ?_ (fun vs W hS hD => ?_) ?_
           rotate_left
           · (obtain ⟨yl, y0, y1, y2, zl, z0, z1, z2, hc7⟩ := EXL2.out _ hS; obtain _ := hS; (try simp at hD); (try simp only [hD]); (first | (go_simp; done) | (go_simp; rfl)))
           simp only [List.nil_append, List.cons_append]
          refine sqC (f := 14) (.agg #[.int .u8 1, .int .i64 (9223372036854775807), .string ⟨#[]⟩]) (fun vs => #[.int .i64 (9223372036854775807)]) (fun vs W hS hD => ?_) (fun vs W hS hD => ?_) ?_
          · (try simp at hD); (try simp only [hD]); go_simp; done
          · exact (zbs (9223372036854775807) W).mono fun _ _ => retT
          simp only [List.nil_append, List.cons_append]
          refine sqO ([(0, 0, ⟨#[]⟩), (1, 9223372036854775807, ⟨#[]⟩)]) (fun vs W hS hD => ?_) ?_
          · ((try simp at hD); unfold OperR; (try simp only [hD]); go_simp; exact ⟨⟨_, _, rfl, za0 _ _ _ _ rfl, by simp⟩, zaa _ _⟩)
          simp only [List.nil_append, List.cons_append]
          refine sqC (f := 13) (.bool true) (fun vs => #[.int .u8 39, vs 32]) (fun vs W hS hD => ?_) (fun vs W hS hD => ?_) ?_
          · (try simp at hD); (try simp only [hD]); go_simp; done
          · ((try simp at hD); exact HCA.out 39 ([(0, 0, ⟨#[]⟩), (1, 9223372036854775807, ⟨#[]⟩)]) _ W (zan yhp (zan (ze8 9223372036854775807 (by unfold InI; decide)) zby)) hS.b (by first | exact hD | exact hD.1 | exact hD.2 | exact hD.2.1 | exact hD.1.1))
          simp only [List.nil_append, List.cons_append]
          iterate 3
           refine sqR ?_ (fun vs W hS hD => ?_) ?_
           rotate_left
           · (obtain ⟨yl, y0, y1, y2, zl, z0, z1, z2, hc7⟩ := EXL2.out _ hS; obtain _ := hS; (try simp at hD); (try simp only [hD]); (first | (go_simp; done) | (go_simp; rfl)))
           simp only [List.nil_append, List.cons_append]
          refine sqC (f := 14) (.agg #[.int .u8 1, .int .i64 (9223372036854775807), .string ⟨#[]⟩]) (fun vs => #[.int .i64 (9223372036854775807)]) (fun vs W hS hD => ?_) (fun vs W hS hD => ?_) ?_
          · (try simp at hD); (try simp only [hD]); go_simp; done
          · exact (zbs (9223372036854775807) W).mono fun _ _ => retT
          simp only [List.nil_append, List.cons_append]
          refine sqO ([(3, 0, s1), (1, 9223372036854775807, ⟨#[]⟩)]) (fun vs W hS hD => ?_) ?_
          · ((try simp at hD); unfold OperR; (try simp only [hD]); go_simp; exact ⟨⟨_, _, rfl, za0 _ _ _ _ rfl, by simp⟩, zaa _ _⟩)
          simp only [List.nil_append, List.cons_append]
          refine sqC (f := 13) (.bool true) (fun vs => #[.int .u8 39, vs 38]) (fun vs W hS hD => ?_) (fun vs W hS hD => ?_) ?_
          · (try simp at hD); (try simp only [hD]); go_simp; done
          · ((try simp at hD); exact HCA.out 39 ([(3, 0, s1), (1, 9223372036854775807, ⟨#[]⟩)]) _ W (zan OS1.out (zan (ze8 9223372036854775807 (by unfold InI; decide)) zby)) hS.b (by first | exact hD | exact hD.1 | exact hD.2 | exact hD.2.1 | exact hD.1.1))
          simp only [List.nil_append, List.cons_append]
          iterate 2
           refine sqR ?_ (fun vs W hS hD => ?_) ?_
           rotate_left
           · (obtain ⟨yl, y0, y1, y2, zl, z0, z1, z2, hc7⟩ := EXL2.out _ hS; obtain _ := hS; (try simp at hD); (try simp only [hD]); (first | (go_simp; done) | (go_simp; rfl)))
           simp only [List.nil_append, List.cons_append]
          refine sqC (f := 13) (.bool true) (fun vs => #[.int .u8 38, .slice none 0 0]) (fun vs W hS hD => ?_) (fun vs W hS hD => ?_) ?_
          · (try simp at hD); (try simp only [hD]); go_simp; done
          · exact HCA.out 38 [] _ W zby hS.b ⟨none, 0, rfl, ⟨rfl, fun h => absurd h (by simp)⟩, Nat.le_refl _⟩
          simp only [List.nil_append, List.cons_append]
          iterate 5
           refine sqR ?_ (fun vs W hS hD => ?_) ?_
           rotate_left
           · (obtain ⟨yl, y0, y1, y2, zl, z0, z1, z2, hc7⟩ := EXL2.out _ hS; obtain _ := hS; (try simp at hD); (try simp only [hD]); (first | (go_simp; done) | (go_simp; rfl)))
           simp only [List.nil_append, List.cons_append]
          refine sqO ([(3, 0, s7)]) (fun vs W hS hD => ?_) ?_
          · ((try simp at hD); unfold OperR; (try simp only [hD]); go_simp; exact ⟨⟨_, _, rfl, za0 _ _ _ _ rfl, by simp⟩, zaa _ _⟩)
          simp only [List.nil_append, List.cons_append]
          refine sqC (f := 13) (.bool true) (fun vs => #[.int .u8 31, vs 48]) (fun vs W hS hD => ?_) (fun vs W hS hD => ?_) ?_
          · (try simp at hD); (try simp only [hD]); go_simp; done
          · ((try simp at hD); exact HCA.out 31 ([(3, 0, s7)]) _ W (zan OS7.out zby) hS.b (by first | exact hD | exact hD.1 | exact hD.2 | exact hD.2.1 | exact hD.1.1))
          simp only [List.nil_append, List.cons_append]
          iterate 4
           refine sqR ?_ (fun vs W hS hD => ?_) ?_
           rotate_left
           · (obtain ⟨yl, y0, y1, y2, zl, z0, z1, z2, hc7⟩ := EXL2.out _ hS; obtain _ := hS; (try simp at hD); (try simp only [hD]); (first | (go_simp; done) | (go_simp; rfl)))
           simp only [List.nil_append, List.cons_append]
          refine sqC (f := 15) (.bool true) (fun vs => #[]) (fun vs W hS hD => ?_) (fun vs W hS hD => ?_) ?_
          · (try simp at hD); (try simp only [hD]); go_simp; done
          · exact (HAW.out W hS.b).mono fun _ _ => retT
          simp only [List.nil_append, List.cons_append]
          iterate 2
           refine sqR ?_ (fun vs W hS hD => ?_) ?_
           rotate_left
           · (obtain ⟨yl, y0, y1, y2, zl, z0, z1, z2, hc7⟩ := EXL2.out _ hS; obtain _ := hS; (try simp at hD); (try simp only [hD]); (first | (go_simp; done) | (go_simp; rfl)))
           simp only [List.nil_append, List.cons_append]
          refine zh5 fun vs W hS hv => ?_
          simp only [AllF, Nat.zero_add, Nat.reduceAdd] at hv
          obtain ⟨h0, h1, h2, h3, h4, h5, h6, h7, h8, h9, h10, h11, h12, h13, h14, h15, h16, h17, h18, h19, h20, h21, h22, h23, h24, h25, h26, h27, h28, h29, h30, h31, h32, h33, h34, h35, h36, h37, h38, h39, h40, h41, h42, h43, h44, h45, h46, h47, h48, h49, h50, h51, h52, h53, h54, h55, h56, _⟩ := hv
          simp only [h0, h2, h3, h4, h5, h7, h8, h9, h11, h12, h13, h15, h16, h17, h18, h19, h21, h22, h23, h24, h25, h27, h28, h29, h30, h31, h33, h34, h35, h36, h37, h39, h40, h41, h42, h43, h44, h45, h46, h47, h49, h50, h51, h52, h53, h54, h55, h56]
          clear h0 h2 h3 h4 h5 h7 h8 h9 h11 h12 h13 h15 h16 h17 h18 h19 h21 h22 h23 h24 h25 h27 h28 h29 h30 h31 h33 h34 h35 h36 h37 h39 h40 h41 h42 h43 h44 h45 h46 h47 h49 h50 h51 h52 h53 h54 h55 h56
          clear HL
          have HL := Lib.hid hS
          clear hS
          go_wp2_with fail
          go_ret
          exact ⟨rfl, HL.out.b⟩
end Go.Proofs.YtdhahiodnmmkeaaGreatDoor.Va
