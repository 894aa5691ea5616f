/- The walk of FlogicExamples. -/
import Derived.Test.YtdhahiodnmmkeaaGreatDoorMgf
import Derived.Test.YtdhahiodnmmkeaaGreatDoorMgc
namespace Go.Proofs.YtdhahiodnmmkeaaGreatDoor.Va
open Go Go.RowKit GM
set_option linter.unusedVariables false
set_option linter.unusedSimpArgs false
attribute [local simp] DepA isB rsAt
/-- What the rounds keep: the list, the two values. -/
structure Ex (w wr : World) (a : Option Addr) (cap : Nat) (L : List V3) (p q : Nat) : Prop where
  b : Below w.heap.size w wr
  i : IsV wr a L.length L
  y : B3 wr p 2 1 ⟨#[]⟩
  f : B3 wr q 1 50000 ⟨#[]⟩
theorem Ex.later {w wr w1 : World} {a : Option Addr} {cap : Nat} {L : List V3} {p q : Nat} (h : Ex w wr a cap L p q) (hB : Below wr.heap.size wr w1) : Ex w w1 a cap L p q :=
  ⟨vnext h.b hB, IsOf.later h.i hB, h.y.later hB, h.f.later hB⟩
theorem Ex.drew {w wr : World} {a : Option Addr} {cap : Nat} {L : List V3} {p q : Nat} (h : Ex w wr a cap L p q) : Ex w wr.drew a cap L p q := ⟨h.b.drew, h.i, h.y, h.f⟩
theorem Ex.at {w wr : World} {b off cap : Nat} {L : List V3} {p q : Nat} (h : Ex w wr (some ⟨b, off, none⟩) cap L p q) {k : Nat} (hk : k < L.length) : b < wr.heap.size ∧ wr.cell? ⟨b, off + k * 3, none⟩ = some (.int .u8 (L[k].1 : Int)) ∧ wr.cell? ⟨b, off + k * 3 + 1, none⟩ = some (.int .i64 L[k].2.1) ∧ wr.cell? ⟨b, off + k * 3 + 2, none⟩ = some (.string L[k].2.2) := by
  obtain ⟨b', off', e, h1, h2, h3, h4⟩ := isV_at h.i hk
  cases e
  exact ⟨h1, h2, h3, h4⟩
theorem Ex.one {w wr : World} {b off cap : Nat} {L : List V3} {p q : Nat} (h : Ex w wr (some ⟨b, off, none⟩) cap L p q) {k : Nat} (hk : k < L.length) {u : V3} (hu : L[k] = u) : IsV wr (some ⟨b, off + k * 3, none⟩) 1 [u] := by
  have := IsOf.head (tail9 h.i k (by omega)) 1
  rw [show min (L.length - k) 1 = 1 by omega, List.drop_eq_getElem_cons hk, List.take_succ_cons, List.take_zero, hu] at this
  exact this
theorem ok_yes : okV (2, 1, ⟨#[]⟩) := ⟨by decide, by unfold InI; decide⟩
theorem ok_five : okV (1, 50000, ⟨#[]⟩) := ⟨by decide, by unfold InI; decide⟩
theorem ok_bl : okV (0, 0, ⟨#[]⟩) := ⟨by decide, by unfold InI; decide⟩
set_option maxRecDepth 100000 in
set_option maxHeartbeats 25600000 in
theorem flogicExamples_of (w : World)
    (HCA0 : ∀ (fn : Nat) a n cap (M : List V3), n ≤ cap → (∀ u ∈ M, okV u) → ∀ W, Below w.heap.size w W → IsV W a n M → Calls Tryz.prog 16 #[.int .u8 (fn : Int), .slice a n cap] W fun e w' => e = .returned (.bool true) ∧ Below W.heap.size W w')
    (HAW0 : ∀ W, Below w.heap.size w W → Calls Tryz.prog 17 #[] W fun e w' => e = .returned (.bool true) ∧ Below W.heap.size W w') : Calls Tryz.prog 5 #[] w fun e w' => e = .returned (.bool true) ∧ Below w.heap.size w w' := by
  have HCA := Lib.hid HCA0
  have HAW := Lib.hid HAW0
  clear HCA0 HAW0
  go_enter Tryz.func5, Tryz.ntmps5
  go_wp2_with fail
  refine (lvals_any _).mono ?_
  rintro e w1 ⟨⟨v, L, rfl, hO, hl, hk⟩, hB⟩
  obtain ⟨a, cap, rfl, hI⟩ := OwnOf.isOf cellsV_len hO
  have hcp : L.length ≤ cap := cap9 hO
  have l1 := valloc w1 (.cells #[.int .u8 2, .int .i64 1, .string ⟨#[]⟩] 26)
  have l2 := valloc (w1.alloc (.cells #[.int .u8 2, .int .i64 1, .string ⟨#[]⟩] 26)) (.cells #[.int .u8 1, .int .i64 50000, .string ⟨#[]⟩] 26)
  have hy := (B3.start w1 2 1 ⟨#[]⟩).later l2
  have hf := B3.start (w1.alloc (.cells #[.int .u8 2, .int .i64 1, .string ⟨#[]⟩] 26)) 1 50000 ⟨#[]⟩
  rw [World.size_alloc] at hf
  have HE := Lib.hid (show Ex w ((w1.alloc (.cells #[.int .u8 2, .int .i64 1, .string ⟨#[]⟩] 26)).alloc (.cells #[.int .u8 1, .int .i64 50000, .string ⟨#[]⟩] 26)) a cap L w1.heap.size (w1.heap.size + 1) from ⟨vnext hB (vnext l1 l2), IsOf.later hI (vnext l1 l2), hy, hf⟩)
  have HK := Lib.hid hk
  clear hO hB hI l1 l2 hy hf hk
  go_upto_region 3 with fail
  generalize (w1.alloc (.cells #[.int .u8 2, .int .i64 1, .string ⟨#[]⟩] 26)).alloc (.cells #[.int .u8 1, .int .i64 50000, .string ⟨#[]⟩] 26) = wa at *
  generalize hp : w1.heap.size = p at *
  obtain ⟨n, hn⟩ : ∃ n, L.length = n := ⟨_, rfl⟩
  have HN := Lib.hid hn
  rw [hn] at hcp hl
  rw [hn]
  clear hn hp
  go_wp2_with fail
  go_loopw [4] (fun i wr => ∃ fn : Nat, fn ≤ 52 ∧ i = .int .u8 (fn : Int) ∧ Hid (Ex w wr a cap L p (p + 1))) (fun i _ => 60 - (intOf i).toNat)
  case atStart => exact ⟨0, by omega, rfl, HE.out⟩
  case round =>
    clear HE
    obtain ⟨fn, hfn, rfl, HE⟩ := hrel
    by_cases hlt : fn ≤ 51
    · have d1 : decide ((fn : Int) ≤ 51) = true := by simp; omega
      go_wp2_with fail
      go_loopw [5] (fun i wr => ∃ k : Nat, k ≤ n ∧ i = .int .i64 (k : Int) ∧ Hid (Ex w wr a cap L p (p + 1))) (fun i _ => n - (intOf i).toNat)
      case atStart => exact ⟨0, by omega, rfl, HE.out⟩
      case round =>
        clear HE
        obtain ⟨k, hk, rfl, HE⟩ := hrel
        by_cases hlt2 : k < n
        · obtain ⟨m, hm⟩ : ∃ m : Nat, (n : Int) - 1 - (k : Int) = m := ⟨n - 1 - k, by omega⟩
          have hw1 : IntKind.i64.wrap ((n : Int) - 1) = (n : Int) - 1 := IntWalk.i64_in _ (by omega)
          have hw2 : IntKind.i64.wrap ((n : Int) - 1 - (k : Int)) = (m : Int) := by rw [← hm]; exact IntWalk.i64_in _ (by omega)
          have hmn : m < n := by omega
          have hkl : k < L.length := by rw [HN.out]; exact hlt2
          have hml : m < L.length := by rw [HN.out]; exact hmn
          have hki : (k : Int) < (n : Int) := by omega
          have hmi : (m : Int) < (n : Int) := by omega
          have hkc : k + 1 ≤ cap := by omega
          have hw3 : IntKind.i64.wrap ((k : Int) + 1) = (k : Int) + 1 := IntWalk.i64_in _ (by omega)
          have hx1 : (0 : Int) ≤ (k : Int) + 1 := by omega
          have hx2 : (k : Int) + 1 ≤ (cap : Int) := by omega
          have hx3 : k ≤ ((k : Int) + 1).toNat := by omega
          have hx4 : ((k : Int) + 1).toNat - k = 1 := by omega
          have hck : ¬ cap = k := by omega
          obtain ⟨b, off, rfl, _⟩ := isV_at HE.out.i hkl
          obtain ⟨⟨uk, un, us⟩, hu⟩ : ∃ u, L[k] = u := ⟨_, rfl⟩
          obtain ⟨⟨vk, vn, vt⟩, hv⟩ : ∃ u, L[m] = u := ⟨_, rfl⟩
          have HU := Lib.hid hu
          have HV := Lib.hid hv
          have HUK := Lib.hid (show okV (uk, un, us) from hu ▸ HK.out _ (List.getElem_mem hkl))
          have HVK := Lib.hid (show okV (vk, vn, vt) from hv ▸ HK.out _ (List.getElem_mem hml))
          clear hm hu hv
          have EXF : Hid (∀ X, Ex w X (some ⟨b, off, none⟩) cap L p (p + 1) → p < X.heap.size ∧ X.cell? ⟨p, 0, none⟩ = some (.int .u8 2) ∧ X.cell? ⟨p, 1, none⟩ = some (.int .i64 1) ∧ X.cell? ⟨p, 2, none⟩ = some (.string ⟨#[]⟩) ∧ p + 1 < X.heap.size ∧ X.cell? ⟨p + 1, 0, none⟩ = some (.int .u8 1) ∧ X.cell? ⟨p + 1, 1, none⟩ = some (.int .i64 50000) ∧ X.cell? ⟨p + 1, 2, none⟩ = some (.string ⟨#[]⟩) ∧ b < X.heap.size ∧
            X.cell? ⟨b, off + k * 3, none⟩ = some (.int .u8 (uk : Int)) ∧ X.cell? ⟨b, off + k * 3 + 1, none⟩ = some (.int .i64 un) ∧ X.cell? ⟨b, off + k * 3 + 2, none⟩ = some (.string us) ∧ X.cell? ⟨b, off + m * 3, none⟩ = some (.int .u8 (vk : Int)) ∧ X.cell? ⟨b, off + m * 3 + 1, none⟩ = some (.int .i64 vn) ∧ X.cell? ⟨b, off + m * 3 + 2, none⟩ = some (.string vt)) := by
            intro X hS
            obtain ⟨y0, y1, y2, _, _, _⟩ := hS.y.cells
            obtain ⟨f0, f1, f2, _, _, _⟩ := hS.f.cells
            obtain ⟨bl, c1, c2, c3⟩ := hS.at hkl
            obtain ⟨bl2, e1, e2, e3⟩ := hS.at hml
            rw [HU.out] at c1 c2 c3
            rw [HV.out] at e1 e2 e3
            exact ⟨hS.y.lt, y0, y1, y2, hS.f.lt, f0, f1, f2, bl, c1, c2, c3, e1, e2, e3⟩
          go_upto_region 9 with fail
          refine wp_region_seqi (fun X => Ex w X (some ⟨b, off, none⟩) cap L p (p + 1)) (fun X X2 hB h => h.later hB) (by kernel_rfl) (by kernel_rfl) (by kernel_rfl) HE.out.drew ?_
          simp only [List.append_eq, List.cons_append, List.nil_append, putsL, Act.put, List.setIfInBounds_toArray, List.set_cons_zero, List.set_cons_succ, Nat.zero_add, Nat.reduceAdd]
          refine seqi_run ?_ (fun vs W hD => (by first | rfl | (simp at hD; simp [Region.wanted, yielded, hD]))) (fun vs W hS hD => ?_) ?_
          rotate_left
          · (obtain ⟨yl, y0, y1, y2, fl, f0, f1, f2, bl, c1, c2, c3, e1, e2, e3⟩ := EXF.out _ hS; obtain _ := hS; (try simp at hD); (try simp only [hD]); (first | (go_simp; done) | (go_simp; rfl)))
          simp only [List.nil_append, List.cons_append]
          refine seqi_run ?_ (fun vs W hD => (by first | rfl | (simp at hD; simp [Region.wanted, yielded, hD]))) (fun vs W hS hD => ?_) ?_
          rotate_left
          · (obtain ⟨yl, y0, y1, y2, fl, f0, f1, f2, bl, c1, c2, c3, e1, e2, e3⟩ := EXF.out _ hS; obtain _ := hS; (try simp at hD); (try simp only [hD]); (first | (go_simp; done) | (go_simp; rfl)))
          simp only [List.nil_append, List.cons_append]
          refine seqi_run ?_ (fun vs W hD => (by first | rfl | (simp at hD; simp [Region.wanted, yielded, hD]))) (fun vs W hS hD => ?_) ?_
          rotate_left
          · (obtain ⟨yl, y0, y1, y2, fl, f0, f1, f2, bl, c1, c2, c3, e1, e2, e3⟩ := EXF.out _ hS; obtain _ := hS; (try simp at hD); (try simp only [hD]); (first | (go_simp; done) | (go_simp; rfl)))
          simp only [List.nil_append, List.cons_append]
          refine seqi_run ?_ (fun vs W hD => (by first | rfl | (simp at hD; simp [Region.wanted, yielded, hD]))) (fun vs W hS hD => ?_) ?_
          rotate_left
          · (obtain ⟨yl, y0, y1, y2, fl, f0, f1, f2, bl, c1, c2, c3, e1, e2, e3⟩ := EXF.out _ hS; obtain _ := hS; (try simp at hD); (try simp only [hD]); (first | (go_simp; done) | (go_simp; rfl)))
          simp only [List.nil_append, List.cons_append]
          refine seqi_run ?_ (fun vs W hD => (by first | rfl | (simp at hD; simp [Region.wanted, yielded, hD]))) (fun vs W hS hD => ?_) ?_
          rotate_left
          · (obtain ⟨yl, y0, y1, y2, fl, f0, f1, f2, bl, c1, c2, c3, e1, e2, e3⟩ := EXF.out _ hS; obtain _ := hS; (try simp at hD); (try simp only [hD]); (first | (go_simp; done) | (go_simp; rfl)))
          simp only [List.nil_append, List.cons_append]
          refine seqi_oper (SlW [(uk, un, us)]) (slW_stable _) (fun vs W hD => (by first | rfl | (simp at hD; simp [Region.wanted, yielded, hD]))) (fun vs W hS hD => ?_) ?_
          · ((try simp at hD); unfold OperR; (try simp only [hD]); go_simp; (try simp only [hw3, hx1, hx2, and_self, if_true, hx3, if_neg hck, hx4]); exact ⟨⟨_, _, rfl, hS.one hkl HU.out, by simp; omega⟩, Below.refl _ _⟩)
          simp only [List.nil_append, List.cons_append]
          refine seqi_call (f := 16) (fun v _ => v = .bool true) (stable_val _) (fun vs => #[.int .u8 (fn : Int), vs 5]) (fun vs W hD => (by first | rfl | (simp at hD; simp [Region.wanted, yielded, hD]))) (fun vs W hS hD => ?_) (fun vs W hS hD => ?_) ?_
          · (try simp at hD); (try simp only [hD]); go_simp; done
          · ((try simp [DepA, isB, rsAt] at hD); obtain ⟨ya, yc, ye, yi, yl⟩ := (by first | exact hD | exact hD.1 | exact hD.2 | exact hD.2.1 | exact hD.1.1 : SlW ([(uk, un, us)]) _ _); rw [ye]; exact (HCA.out fn ya 1 yc ([(uk, un, us)]) yl (ok_cons HUK.out ok_nil) W hS.b yi).mono fun e W' ⟨he, hB⟩ => ⟨⟨_, he, rfl⟩, hB⟩)
          simp only [List.nil_append, List.cons_append]
          refine seqi_run ?_ (fun vs W hD => (by first | rfl | (simp at hD; simp [Region.wanted, yielded, hD]))) (fun vs W hS hD => ?_) ?_
          rotate_left
          · (obtain ⟨yl, y0, y1, y2, fl, f0, f1, f2, bl, c1, c2, c3, e1, e2, e3⟩ := EXF.out _ hS; obtain _ := hS; (try simp at hD); (try simp only [hD]); (first | (go_simp; done) | (go_simp; rfl)))
          simp only [List.nil_append, List.cons_append]
          refine seqi_run ?_ (fun vs W hD => (by first | rfl | (simp at hD; simp [Region.wanted, yielded, hD]))) (fun vs W hS hD => ?_) ?_
          rotate_left
          · (obtain ⟨yl, y0, y1, y2, fl, f0, f1, f2, bl, c1, c2, c3, e1, e2, e3⟩ := EXF.out _ hS; obtain _ := hS; (try simp at hD); (try simp only [hD]); (first | (go_simp; done) | (go_simp; rfl)))
          simp only [List.nil_append, List.cons_append]
          refine seqi_run ?_ (fun vs W hD => (by first | rfl | (simp at hD; simp [Region.wanted, yielded, hD]))) (fun vs W hS hD => ?_) ?_
          rotate_left
          · (obtain ⟨yl, y0, y1, y2, fl, f0, f1, f2, bl, c1, c2, c3, e1, e2, e3⟩ := EXF.out _ hS; obtain _ := hS; (try simp at hD); (try simp only [hD]); (first | (go_simp; done) | (go_simp; rfl)))
          simp only [List.nil_append, List.cons_append]
          refine seqi_run ?_ (fun vs W hD => (by first | rfl | (simp at hD; simp [Region.wanted, yielded, hD]))) (fun vs W hS hD => ?_) ?_
          rotate_left
          · (obtain ⟨yl, y0, y1, y2, fl, f0, f1, f2, bl, c1, c2, c3, e1, e2, e3⟩ := EXF.out _ hS; obtain _ := hS; (try simp at hD); (try simp only [hD]); (first | (go_simp; done) | (go_simp; rfl)))
          simp only [List.nil_append, List.cons_append]
          refine seqi_run ?_ (fun vs W hD => (by first | rfl | (simp at hD; simp [Region.wanted, yielded, hD]))) (fun vs W hS hD => ?_) ?_
          rotate_left
          · (obtain ⟨yl, y0, y1, y2, fl, f0, f1, f2, bl, c1, c2, c3, e1, e2, e3⟩ := EXF.out _ hS; obtain _ := hS; (try simp at hD); (try simp only [hD]); (first | (go_simp; done) | (go_simp; rfl)))
          simp only [List.nil_append, List.cons_append]
          refine seqi_run ?_ (fun vs W hD => (by first | rfl | (simp at hD; simp [Region.wanted, yielded, hD]))) (fun vs W hS hD => ?_) ?_
          rotate_left
          · (obtain ⟨yl, y0, y1, y2, fl, f0, f1, f2, bl, c1, c2, c3, e1, e2, e3⟩ := EXF.out _ hS; obtain _ := hS; (try simp at hD); (try simp only [hD]); (first | (go_simp; done) | (go_simp; rfl)))
          simp only [List.nil_append, List.cons_append]
          refine seqi_run ?_ (fun vs W hD => (by first | rfl | (simp at hD; simp [Region.wanted, yielded, hD]))) (fun vs W hS hD => ?_) ?_
          rotate_left
          · (obtain ⟨yl, y0, y1, y2, fl, f0, f1, f2, bl, c1, c2, c3, e1, e2, e3⟩ := EXF.out _ hS; obtain _ := hS; (try simp at hD); (try simp only [hD]); (first | (go_simp; done) | (go_simp; rfl)))
          simp only [List.nil_append, List.cons_append]
          refine seqi_run ?_ (fun vs W hD => (by first | rfl | (simp at hD; simp [Region.wanted, yielded, hD]))) (fun vs W hS hD => ?_) ?_
          rotate_left
          · (obtain ⟨yl, y0, y1, y2, fl, f0, f1, f2, bl, c1, c2, c3, e1, e2, e3⟩ := EXF.out _ hS; obtain _ := hS; (try simp at hD); (try simp only [hD]); (first | (go_simp; done) | (go_simp; rfl)))
          simp only [List.nil_append, List.cons_append]
          refine seqi_oper (SlW ([(2, 1, ⟨#[]⟩), (uk, un, us)])) (slW_stable _) (fun vs W hD => (by first | rfl | (simp at hD; simp [Region.wanted, yielded, hD]))) (fun vs W hS hD => ?_) ?_
          · ((try simp at hD); unfold OperR; (try simp only [hD]); go_simp; exact ⟨⟨_, _, rfl, isV_new9 _ _ _ _ rfl, by simp⟩, valloc _ _⟩)
          simp only [List.nil_append, List.cons_append]
          refine seqi_call (f := 16) (fun v _ => v = .bool true) (stable_val _) (fun vs => #[.int .u8 (fn : Int), vs 15]) (fun vs W hD => (by first | rfl | (simp at hD; simp [Region.wanted, yielded, hD]))) (fun vs W hS hD => ?_) (fun vs W hS hD => ?_) ?_
          · (try simp at hD); (try simp only [hD]); go_simp; done
          · ((try simp [DepA, isB, rsAt] at hD); obtain ⟨ya, yc, ye, yi, yl⟩ := (by first | exact hD | exact hD.1 | exact hD.2 | exact hD.2.1 | exact hD.1.1 : SlW ([(2, 1, ⟨#[]⟩), (uk, un, us)]) _ _); rw [ye]; exact (HCA.out fn ya 2 yc ([(2, 1, ⟨#[]⟩), (uk, un, us)]) yl (ok_cons ok_yes (ok_cons HUK.out ok_nil)) W hS.b yi).mono fun e W' ⟨he, hB⟩ => ⟨⟨_, he, rfl⟩, hB⟩)
          simp only [List.nil_append, List.cons_append]
          refine seqi_run ?_ (fun vs W hD => (by first | rfl | (simp at hD; simp [Region.wanted, yielded, hD]))) (fun vs W hS hD => ?_) ?_
          rotate_left
          · (obtain ⟨yl, y0, y1, y2, fl, f0, f1, f2, bl, c1, c2, c3, e1, e2, e3⟩ := EXF.out _ hS; obtain _ := hS; (try simp at hD); (try simp only [hD]); (first | (go_simp; done) | (go_simp; rfl)))
          simp only [List.nil_append, List.cons_append]
          refine seqi_run ?_ (fun vs W hD => (by first | rfl | (simp at hD; simp [Region.wanted, yielded, hD]))) (fun vs W hS hD => ?_) ?_
          rotate_left
          · (obtain ⟨yl, y0, y1, y2, fl, f0, f1, f2, bl, c1, c2, c3, e1, e2, e3⟩ := EXF.out _ hS; obtain _ := hS; (try simp at hD); (try simp only [hD]); (first | (go_simp; done) | (go_simp; rfl)))
          simp only [List.nil_append, List.cons_append]
          refine seqi_run ?_ (fun vs W hD => (by first | rfl | (simp at hD; simp [Region.wanted, yielded, hD]))) (fun vs W hS hD => ?_) ?_
          rotate_left
          · (obtain ⟨yl, y0, y1, y2, fl, f0, f1, f2, bl, c1, c2, c3, e1, e2, e3⟩ := EXF.out _ hS; obtain _ := hS; (try simp at hD); (try simp only [hD]); (first | (go_simp; done) | (go_simp; rfl)))
          simp only [List.nil_append, List.cons_append]
          refine seqi_run ?_ (fun vs W hD => (by first | rfl | (simp at hD; simp [Region.wanted, yielded, hD]))) (fun vs W hS hD => ?_) ?_
          rotate_left
          · (obtain ⟨yl, y0, y1, y2, fl, f0, f1, f2, bl, c1, c2, c3, e1, e2, e3⟩ := EXF.out _ hS; obtain _ := hS; (try simp at hD); (try simp only [hD]); (first | (go_simp; done) | (go_simp; rfl)))
          simp only [List.nil_append, List.cons_append]
          refine seqi_run ?_ (fun vs W hD => (by first | rfl | (simp at hD; simp [Region.wanted, yielded, hD]))) (fun vs W hS hD => ?_) ?_
          rotate_left
          · (obtain ⟨yl, y0, y1, y2, fl, f0, f1, f2, bl, c1, c2, c3, e1, e2, e3⟩ := EXF.out _ hS; obtain _ := hS; (try simp at hD); (try simp only [hD]); (first | (go_simp; done) | (go_simp; rfl)))
          simp only [List.nil_append, List.cons_append]
          refine seqi_run ?_ (fun vs W hD => (by first | rfl | (simp at hD; simp [Region.wanted, yielded, hD]))) (fun vs W hS hD => ?_) ?_
          rotate_left
          · (obtain ⟨yl, y0, y1, y2, fl, f0, f1, f2, bl, c1, c2, c3, e1, e2, e3⟩ := EXF.out _ hS; obtain _ := hS; (try simp at hD); (try simp only [hD]); (first | (go_simp; done) | (go_simp; rfl)))
          simp only [List.nil_append, List.cons_append]
          refine seqi_run ?_ (fun vs W hD => (by first | rfl | (simp at hD; simp [Region.wanted, yielded, hD]))) (fun vs W hS hD => ?_) ?_
          rotate_left
          · (obtain ⟨yl, y0, y1, y2, fl, f0, f1, f2, bl, c1, c2, c3, e1, e2, e3⟩ := EXF.out _ hS; obtain _ := hS; (try simp at hD); (try simp only [hD]); (first | (go_simp; done) | (go_simp; rfl)))
          simp only [List.nil_append, List.cons_append]
          refine seqi_run ?_ (fun vs W hD => (by first | rfl | (simp at hD; simp [Region.wanted, yielded, hD]))) (fun vs W hS hD => ?_) ?_
          rotate_left
          · (obtain ⟨yl, y0, y1, y2, fl, f0, f1, f2, bl, c1, c2, c3, e1, e2, e3⟩ := EXF.out _ hS; obtain _ := hS; (try simp at hD); (try simp only [hD]); (first | (go_simp; done) | (go_simp; rfl)))
          simp only [List.nil_append, List.cons_append]
          refine seqi_run ?_ (fun vs W hD => (by first | rfl | (simp at hD; simp [Region.wanted, yielded, hD]))) (fun vs W hS hD => ?_) ?_
          rotate_left
          · (obtain ⟨yl, y0, y1, y2, fl, f0, f1, f2, bl, c1, c2, c3, e1, e2, e3⟩ := EXF.out _ hS; obtain _ := hS; (try simp at hD); (try simp only [hD]); (first | (go_simp; done) | (go_simp; rfl)))
          simp only [List.nil_append, List.cons_append]
          refine seqi_oper (SlW ([(uk, un, us), (1, 50000, ⟨#[]⟩)])) (slW_stable _) (fun vs W hD => (by first | rfl | (simp at hD; simp [Region.wanted, yielded, hD]))) (fun vs W hS hD => ?_) ?_
          · ((try simp at hD); unfold OperR; (try simp only [hD]); go_simp; exact ⟨⟨_, _, rfl, isV_new9 _ _ _ _ rfl, by simp⟩, valloc _ _⟩)
          simp only [List.nil_append, List.cons_append]
          refine seqi_call (f := 16) (fun v _ => v = .bool true) (stable_val _) (fun vs => #[.int .u8 (fn : Int), vs 26]) (fun vs W hD => (by first | rfl | (simp at hD; simp [Region.wanted, yielded, hD]))) (fun vs W hS hD => ?_) (fun vs W hS hD => ?_) ?_
          · (try simp at hD); (try simp only [hD]); go_simp; done
          · ((try simp [DepA, isB, rsAt] at hD); obtain ⟨ya, yc, ye, yi, yl⟩ := (by first | exact hD | exact hD.1 | exact hD.2 | exact hD.2.1 | exact hD.1.1 : SlW ([(uk, un, us), (1, 50000, ⟨#[]⟩)]) _ _); rw [ye]; exact (HCA.out fn ya 2 yc ([(uk, un, us), (1, 50000, ⟨#[]⟩)]) yl (ok_cons HUK.out (ok_cons ok_five ok_nil)) W hS.b yi).mono fun e W' ⟨he, hB⟩ => ⟨⟨_, he, rfl⟩, hB⟩)
          simp only [List.nil_append, List.cons_append]
          refine seqi_run ?_ (fun vs W hD => (by first | rfl | (simp at hD; simp [Region.wanted, yielded, hD]))) (fun vs W hS hD => ?_) ?_
          rotate_left
          · (obtain ⟨yl, y0, y1, y2, fl, f0, f1, f2, bl, c1, c2, c3, e1, e2, e3⟩ := EXF.out _ hS; obtain _ := hS; (try simp at hD); (try simp only [hD]); (first | (go_simp; done) | (go_simp; rfl)))
          simp only [List.nil_append, List.cons_append]
          refine seqi_run ?_ (fun vs W hD => (by first | rfl | (simp at hD; simp [Region.wanted, yielded, hD]))) (fun vs W hS hD => ?_) ?_
          rotate_left
          · (obtain ⟨yl, y0, y1, y2, fl, f0, f1, f2, bl, c1, c2, c3, e1, e2, e3⟩ := EXF.out _ hS; obtain _ := hS; (try simp at hD); (try simp only [hD]); (first | (go_simp; done) | (go_simp; rfl)))
          simp only [List.nil_append, List.cons_append]
          refine seqi_run ?_ (fun vs W hD => (by first | rfl | (simp at hD; simp [Region.wanted, yielded, hD]))) (fun vs W hS hD => ?_) ?_
          rotate_left
          · (obtain ⟨yl, y0, y1, y2, fl, f0, f1, f2, bl, c1, c2, c3, e1, e2, e3⟩ := EXF.out _ hS; obtain _ := hS; (try simp at hD); (try simp only [hD]); (first | (go_simp; done) | (go_simp; rfl)))
          simp only [List.nil_append, List.cons_append]
          refine seqi_run ?_ (fun vs W hD => (by first | rfl | (simp at hD; simp [Region.wanted, yielded, hD]))) (fun vs W hS hD => ?_) ?_
          rotate_left
          · (obtain ⟨yl, y0, y1, y2, fl, f0, f1, f2, bl, c1, c2, c3, e1, e2, e3⟩ := EXF.out _ hS; obtain _ := hS; (try simp at hD); (try simp only [hD]); (first | (go_simp; done) | (go_simp; rfl)))
          simp only [List.nil_append, List.cons_append]
          refine seqi_run ?_ (fun vs W hD => (by first | rfl | (simp at hD; simp [Region.wanted, yielded, hD]))) (fun vs W hS hD => ?_) ?_
          rotate_left
          · (obtain ⟨yl, y0, y1, y2, fl, f0, f1, f2, bl, c1, c2, c3, e1, e2, e3⟩ := EXF.out _ hS; obtain _ := hS; (try simp at hD); (try simp only [hD]); (first | (go_simp; done) | (go_simp; rfl)))
          simp only [List.nil_append, List.cons_append]
          refine seqi_run ?_ (fun vs W hD => (by first | rfl | (simp at hD; simp [Region.wanted, yielded, hD]))) (fun vs W hS hD => ?_) ?_
          rotate_left
          · (obtain ⟨yl, y0, y1, y2, fl, f0, f1, f2, bl, c1, c2, c3, e1, e2, e3⟩ := EXF.out _ hS; obtain _ := hS; (try simp at hD); (try simp only [hD]); (first | (go_simp; done) | (go_simp; rfl)))
          simp only [List.nil_append, List.cons_append]
          refine seqi_run ?_ (fun vs W hD => (by first | rfl | (simp at hD; simp [Region.wanted, yielded, hD]))) (fun vs W hS hD => ?_) ?_
          rotate_left
          · (obtain ⟨yl, y0, y1, y2, fl, f0, f1, f2, bl, c1, c2, c3, e1, e2, e3⟩ := EXF.out _ hS; obtain _ := hS; (try simp at hD); (try simp only [hD]); (first | (go_simp; done) | (go_simp; rfl)))
          simp only [List.nil_append, List.cons_append]
          refine seqi_run ?_ (fun vs W hD => (by first | rfl | (simp at hD; simp [Region.wanted, yielded, hD]))) (fun vs W hS hD => ?_) ?_
          rotate_left
          · (obtain ⟨yl, y0, y1, y2, fl, f0, f1, f2, bl, c1, c2, c3, e1, e2, e3⟩ := EXF.out _ hS; obtain _ := hS; (try simp at hD); (try simp only [hD]); (first | (go_simp; done) | (go_simp; rfl)))
          simp only [List.nil_append, List.cons_append]
          refine seqi_run ?_ (fun vs W hD => (by first | rfl | (simp at hD; simp [Region.wanted, yielded, hD]))) (fun vs W hS hD => ?_) ?_
          rotate_left
          · (obtain ⟨yl, y0, y1, y2, fl, f0, f1, f2, bl, c1, c2, c3, e1, e2, e3⟩ := EXF.out _ hS; obtain _ := hS; (try simp at hD); (try simp only [hD]); (first | (go_simp; done) | (go_simp; rfl)))
          simp only [List.nil_append, List.cons_append]
          refine seqi_run ?_ (fun vs W hD => (by first | rfl | (simp at hD; simp [Region.wanted, yielded, hD]))) (fun vs W hS hD => ?_) ?_
          rotate_left
          · (obtain ⟨yl, y0, y1, y2, fl, f0, f1, f2, bl, c1, c2, c3, e1, e2, e3⟩ := EXF.out _ hS; obtain _ := hS; (try simp at hD); (try simp only [hD]); (first | (go_simp; done) | (go_simp; rfl)))
          simp only [List.nil_append, List.cons_append]
          refine seqi_run ?_ (fun vs W hD => (by first | rfl | (simp at hD; simp [Region.wanted, yielded, hD]))) (fun vs W hS hD => ?_) ?_
          rotate_left
          · (obtain ⟨yl, y0, y1, y2, fl, f0, f1, f2, bl, c1, c2, c3, e1, e2, e3⟩ := EXF.out _ hS; obtain _ := hS; (try simp at hD); (try simp only [hD]); (first | (go_simp; done) | (go_simp; rfl)))
          simp only [List.nil_append, List.cons_append]
          refine seqi_run ?_ (fun vs W hD => (by first | rfl | (simp at hD; simp [Region.wanted, yielded, hD]))) (fun vs W hS hD => ?_) ?_
          rotate_left
          · (obtain ⟨yl, y0, y1, y2, fl, f0, f1, f2, bl, c1, c2, c3, e1, e2, e3⟩ := EXF.out _ hS; obtain _ := hS; (try simp at hD); (try simp only [hD]); (first | (go_simp; done) | (go_simp; rfl)))
          simp only [List.nil_append, List.cons_append]
          refine seqi_run ?_ (fun vs W hD => (by first | rfl | (simp at hD; simp [Region.wanted, yielded, hD]))) (fun vs W hS hD => ?_) ?_
          rotate_left
          · (obtain ⟨yl, y0, y1, y2, fl, f0, f1, f2, bl, c1, c2, c3, e1, e2, e3⟩ := EXF.out _ hS; obtain _ := hS; (try simp at hD); (try simp only [hD]); (first | (go_simp; done) | (go_simp; rfl)))
          simp only [List.nil_append, List.cons_append]
          refine seqi_run ?_ (fun vs W hD => (by first | rfl | (simp at hD; simp [Region.wanted, yielded, hD]))) (fun vs W hS hD => ?_) ?_
          rotate_left
          · (obtain ⟨yl, y0, y1, y2, fl, f0, f1, f2, bl, c1, c2, c3, e1, e2, e3⟩ := EXF.out _ hS; obtain _ := hS; (try simp at hD); (try simp only [hD]); (first | (go_simp; done) | (go_simp; rfl)))
          simp only [List.nil_append, List.cons_append]
          refine seqi_run ?_ (fun vs W hD => (by first | rfl | (simp at hD; simp [Region.wanted, yielded, hD]))) (fun vs W hS hD => ?_) ?_
          rotate_left
          · (obtain ⟨yl, y0, y1, y2, fl, f0, f1, f2, bl, c1, c2, c3, e1, e2, e3⟩ := EXF.out _ hS; obtain _ := hS; (try simp at hD); (try simp only [hD]); (first | (go_simp; done) | (go_simp; rfl)))
          simp only [List.nil_append, List.cons_append]
          refine seqi_run ?_ (fun vs W hD => (by first | rfl | (simp at hD; simp [Region.wanted, yielded, hD]))) (fun vs W hS hD => ?_) ?_
          rotate_left
          · (obtain ⟨yl, y0, y1, y2, fl, f0, f1, f2, bl, c1, c2, c3, e1, e2, e3⟩ := EXF.out _ hS; obtain _ := hS; (try simp at hD); (try simp only [hD]); (first | (go_simp; done) | (go_simp; rfl)))
          simp only [List.nil_append, List.cons_append]
          refine seqi_oper (SlW ([(uk, un, us), (vk, vn, vt)])) (slW_stable _) (fun vs W hD => (by first | rfl | (simp at hD; simp [Region.wanted, yielded, hD]))) (fun vs W hS hD => ?_) ?_
          · ((try simp at hD); unfold OperR; (try simp only [hD]); go_simp; exact ⟨⟨_, _, rfl, isV_new9 _ _ _ _ rfl, by simp⟩, valloc _ _⟩)
          simp only [List.nil_append, List.cons_append]
          refine seqi_call (f := 16) (fun v _ => v = .bool true) (stable_val _) (fun vs => #[.int .u8 (fn : Int), vs 44]) (fun vs W hD => (by first | rfl | (simp at hD; simp [Region.wanted, yielded, hD]))) (fun vs W hS hD => ?_) (fun vs W hS hD => ?_) ?_
          · (try simp at hD); (try simp only [hD]); go_simp; done
          · ((try simp [DepA, isB, rsAt] at hD); obtain ⟨ya, yc, ye, yi, yl⟩ := (by first | exact hD | exact hD.1 | exact hD.2 | exact hD.2.1 | exact hD.1.1 : SlW ([(uk, un, us), (vk, vn, vt)]) _ _); rw [ye]; exact (HCA.out fn ya 2 yc ([(uk, un, us), (vk, vn, vt)]) yl (ok_cons HUK.out (ok_cons HVK.out ok_nil)) W hS.b yi).mono fun e W' ⟨he, hB⟩ => ⟨⟨_, he, rfl⟩, hB⟩)
          simp only [List.nil_append, List.cons_append]
          refine seqi_run ?_ (fun vs W hD => (by first | rfl | (simp at hD; simp [Region.wanted, yielded, hD]))) (fun vs W hS hD => ?_) ?_
          rotate_left
          · (obtain ⟨yl, y0, y1, y2, fl, f0, f1, f2, bl, c1, c2, c3, e1, e2, e3⟩ := EXF.out _ hS; obtain _ := hS; (try simp at hD); (try simp only [hD]); (first | (go_simp; done) | (go_simp; rfl)))
          simp only [List.nil_append, List.cons_append]
          refine seqi_run ?_ (fun vs W hD => (by first | rfl | (simp at hD; simp [Region.wanted, yielded, hD]))) (fun vs W hS hD => ?_) ?_
          rotate_left
          · (obtain ⟨yl, y0, y1, y2, fl, f0, f1, f2, bl, c1, c2, c3, e1, e2, e3⟩ := EXF.out _ hS; obtain _ := hS; (try simp at hD); (try simp only [hD]); (first | (go_simp; done) | (go_simp; rfl)))
          simp only [List.nil_append, List.cons_append]
          refine seqi_run ?_ (fun vs W hD => (by first | rfl | (simp at hD; simp [Region.wanted, yielded, hD]))) (fun vs W hS hD => ?_) ?_
          rotate_left
          · (obtain ⟨yl, y0, y1, y2, fl, f0, f1, f2, bl, c1, c2, c3, e1, e2, e3⟩ := EXF.out _ hS; obtain _ := hS; (try simp at hD); (try simp only [hD]); (first | (go_simp; done) | (go_simp; rfl)))
          simp only [List.nil_append, List.cons_append]
          refine seqi_run ?_ (fun vs W hD => (by first | rfl | (simp at hD; simp [Region.wanted, yielded, hD]))) (fun vs W hS hD => ?_) ?_
          rotate_left
          · (obtain ⟨yl, y0, y1, y2, fl, f0, f1, f2, bl, c1, c2, c3, e1, e2, e3⟩ := EXF.out _ hS; obtain _ := hS; (try simp at hD); (try simp only [hD]); (first | (go_simp; done) | (go_simp; rfl)))
          simp only [List.nil_append, List.cons_append]
          refine seqi_run ?_ (fun vs W hD => (by first | rfl | (simp at hD; simp [Region.wanted, yielded, hD]))) (fun vs W hS hD => ?_) ?_
          rotate_left
          · (obtain ⟨yl, y0, y1, y2, fl, f0, f1, f2, bl, c1, c2, c3, e1, e2, e3⟩ := EXF.out _ hS; obtain _ := hS; (try simp at hD); (try simp only [hD]); (first | (go_simp; done) | (go_simp; rfl)))
          simp only [List.nil_append, List.cons_append]
          refine seqi_run ?_ (fun vs W hD => (by first | rfl | (simp at hD; simp [Region.wanted, yielded, hD]))) (fun vs W hS hD => ?_) ?_
          rotate_left
          · (obtain ⟨yl, y0, y1, y2, fl, f0, f1, f2, bl, c1, c2, c3, e1, e2, e3⟩ := EXF.out _ hS; obtain _ := hS; (try simp at hD); (try simp only [hD]); (first | (go_simp; done) | (go_simp; rfl)))
          simp only [List.nil_append, List.cons_append]
          refine seqi_run ?_ (fun vs W hD => (by first | rfl | (simp at hD; simp [Region.wanted, yielded, hD]))) (fun vs W hS hD => ?_) ?_
          rotate_left
          · (obtain ⟨yl, y0, y1, y2, fl, f0, f1, f2, bl, c1, c2, c3, e1, e2, e3⟩ := EXF.out _ hS; obtain _ := hS; (try simp at hD); (try simp only [hD]); (first | (go_simp; done) | (go_simp; rfl)))
          simp only [List.nil_append, List.cons_append]
          refine seqi_run ?_ (fun vs W hD => (by first | rfl | (simp at hD; simp [Region.wanted, yielded, hD]))) (fun vs W hS hD => ?_) ?_
          rotate_left
          · (obtain ⟨yl, y0, y1, y2, fl, f0, f1, f2, bl, c1, c2, c3, e1, e2, e3⟩ := EXF.out _ hS; obtain _ := hS; (try simp at hD); (try simp only [hD]); (first | (go_simp; done) | (go_simp; rfl)))
          simp only [List.nil_append, List.cons_append]
          refine seqi_run ?_ (fun vs W hD => (by first | rfl | (simp at hD; simp [Region.wanted, yielded, hD]))) (fun vs W hS hD => ?_) ?_
          rotate_left
          · (obtain ⟨yl, y0, y1, y2, fl, f0, f1, f2, bl, c1, c2, c3, e1, e2, e3⟩ := EXF.out _ hS; obtain _ := hS; (try simp at hD); (try simp only [hD]); (first | (go_simp; done) | (go_simp; rfl)))
          simp only [List.nil_append, List.cons_append]
          refine seqi_run ?_ (fun vs W hD => (by first | rfl | (simp at hD; simp [Region.wanted, yielded, hD]))) (fun vs W hS hD => ?_) ?_
          rotate_left
          · (obtain ⟨yl, y0, y1, y2, fl, f0, f1, f2, bl, c1, c2, c3, e1, e2, e3⟩ := EXF.out _ hS; obtain _ := hS; (try simp at hD); (try simp only [hD]); (first | (go_simp; done) | (go_simp; rfl)))
          simp only [List.nil_append, List.cons_append]
          refine seqi_oper (SlW ([(2, 1, ⟨#[]⟩), (1, 50000, ⟨#[]⟩), (uk, un, us)])) (slW_stable _) (fun vs W hD => (by first | rfl | (simp at hD; simp [Region.wanted, yielded, hD]))) (fun vs W hS hD => ?_) ?_
          · ((try simp at hD); unfold OperR; (try simp only [hD]); go_simp; exact ⟨⟨_, _, rfl, isV_new9 _ _ _ _ rfl, by simp⟩, valloc _ _⟩)
          simp only [List.nil_append, List.cons_append]
          refine seqi_call (f := 16) (fun v _ => v = .bool true) (stable_val _) (fun vs => #[.int .u8 (fn : Int), vs 56]) (fun vs W hD => (by first | rfl | (simp at hD; simp [Region.wanted, yielded, hD]))) (fun vs W hS hD => ?_) (fun vs W hS hD => ?_) ?_
          · (try simp at hD); (try simp only [hD]); go_simp; done
          · ((try simp [DepA, isB, rsAt] at hD); obtain ⟨ya, yc, ye, yi, yl⟩ := (by first | exact hD | exact hD.1 | exact hD.2 | exact hD.2.1 | exact hD.1.1 : SlW ([(2, 1, ⟨#[]⟩), (1, 50000, ⟨#[]⟩), (uk, un, us)]) _ _); rw [ye]; exact (HCA.out fn ya 3 yc ([(2, 1, ⟨#[]⟩), (1, 50000, ⟨#[]⟩), (uk, un, us)]) yl (ok_cons ok_yes (ok_cons ok_five (ok_cons HUK.out ok_nil))) W hS.b yi).mono fun e W' ⟨he, hB⟩ => ⟨⟨_, he, rfl⟩, hB⟩)
          simp only [List.nil_append, List.cons_append]
          refine seqi_run ?_ (fun vs W hD => (by first | rfl | (simp at hD; simp [Region.wanted, yielded, hD]))) (fun vs W hS hD => ?_) ?_
          rotate_left
          · (obtain ⟨yl, y0, y1, y2, fl, f0, f1, f2, bl, c1, c2, c3, e1, e2, e3⟩ := EXF.out _ hS; obtain _ := hS; (try simp at hD); (try simp only [hD]); (first | (go_simp; done) | (go_simp; rfl)))
          simp only [List.nil_append, List.cons_append]
          refine seqi_run ?_ (fun vs W hD => (by first | rfl | (simp at hD; simp [Region.wanted, yielded, hD]))) (fun vs W hS hD => ?_) ?_
          rotate_left
          · (obtain ⟨yl, y0, y1, y2, fl, f0, f1, f2, bl, c1, c2, c3, e1, e2, e3⟩ := EXF.out _ hS; obtain _ := hS; (try simp at hD); (try simp only [hD]); (first | (go_simp; done) | (go_simp; rfl)))
          simp only [List.nil_append, List.cons_append]
          refine seqi_run ?_ (fun vs W hD => (by first | rfl | (simp at hD; simp [Region.wanted, yielded, hD]))) (fun vs W hS hD => ?_) ?_
          rotate_left
          · (obtain ⟨yl, y0, y1, y2, fl, f0, f1, f2, bl, c1, c2, c3, e1, e2, e3⟩ := EXF.out _ hS; obtain _ := hS; (try simp at hD); (try simp only [hD]); (first | (go_simp; done) | (go_simp; rfl)))
          simp only [List.nil_append, List.cons_append]
          refine seqi_run ?_ (fun vs W hD => (by first | rfl | (simp at hD; simp [Region.wanted, yielded, hD]))) (fun vs W hS hD => ?_) ?_
          rotate_left
          · (obtain ⟨yl, y0, y1, y2, fl, f0, f1, f2, bl, c1, c2, c3, e1, e2, e3⟩ := EXF.out _ hS; obtain _ := hS; (try simp at hD); (try simp only [hD]); (first | (go_simp; done) | (go_simp; rfl)))
          simp only [List.nil_append, List.cons_append]
          refine seqi_run ?_ (fun vs W hD => (by first | rfl | (simp at hD; simp [Region.wanted, yielded, hD]))) (fun vs W hS hD => ?_) ?_
          rotate_left
          · (obtain ⟨yl, y0, y1, y2, fl, f0, f1, f2, bl, c1, c2, c3, e1, e2, e3⟩ := EXF.out _ hS; obtain _ := hS; (try simp at hD); (try simp only [hD]); (first | (go_simp; done) | (go_simp; rfl)))
          simp only [List.nil_append, List.cons_append]
          refine seqi_run ?_ (fun vs W hD => (by first | rfl | (simp at hD; simp [Region.wanted, yielded, hD]))) (fun vs W hS hD => ?_) ?_
          rotate_left
          · (obtain ⟨yl, y0, y1, y2, fl, f0, f1, f2, bl, c1, c2, c3, e1, e2, e3⟩ := EXF.out _ hS; obtain _ := hS; (try simp at hD); (try simp only [hD]); (first | (go_simp; done) | (go_simp; rfl)))
          simp only [List.nil_append, List.cons_append]
          refine seqi_run ?_ (fun vs W hD => (by first | rfl | (simp at hD; simp [Region.wanted, yielded, hD]))) (fun vs W hS hD => ?_) ?_
          rotate_left
          · (obtain ⟨yl, y0, y1, y2, fl, f0, f1, f2, bl, c1, c2, c3, e1, e2, e3⟩ := EXF.out _ hS; obtain _ := hS; (try simp at hD); (try simp only [hD]); (first | (go_simp; done) | (go_simp; rfl)))
          simp only [List.nil_append, List.cons_append]
          refine seqi_run ?_ (fun vs W hD => (by first | rfl | (simp at hD; simp [Region.wanted, yielded, hD]))) (fun vs W hS hD => ?_) ?_
          rotate_left
          · (obtain ⟨yl, y0, y1, y2, fl, f0, f1, f2, bl, c1, c2, c3, e1, e2, e3⟩ := EXF.out _ hS; obtain _ := hS; (try simp at hD); (try simp only [hD]); (first | (go_simp; done) | (go_simp; rfl)))
          simp only [List.nil_append, List.cons_append]
          refine seqi_run ?_ (fun vs W hD => (by first | rfl | (simp at hD; simp [Region.wanted, yielded, hD]))) (fun vs W hS hD => ?_) ?_
          rotate_left
          · (obtain ⟨yl, y0, y1, y2, fl, f0, f1, f2, bl, c1, c2, c3, e1, e2, e3⟩ := EXF.out _ hS; obtain _ := hS; (try simp at hD); (try simp only [hD]); (first | (go_simp; done) | (go_simp; rfl)))
          simp only [List.nil_append, List.cons_append]
          refine seqi_run ?_ (fun vs W hD => (by first | rfl | (simp at hD; simp [Region.wanted, yielded, hD]))) (fun vs W hS hD => ?_) ?_
          rotate_left
          · (obtain ⟨yl, y0, y1, y2, fl, f0, f1, f2, bl, c1, c2, c3, e1, e2, e3⟩ := EXF.out _ hS; obtain _ := hS; (try simp at hD); (try simp only [hD]); (first | (go_simp; done) | (go_simp; rfl)))
          simp only [List.nil_append, List.cons_append]
          refine seqi_oper (SlW ([(uk, un, us), (1, 50000, ⟨#[]⟩), (2, 1, ⟨#[]⟩)])) (slW_stable _) (fun vs W hD => (by first | rfl | (simp at hD; simp [Region.wanted, yielded, hD]))) (fun vs W hS hD => ?_) ?_
          · ((try simp at hD); unfold OperR; (try simp only [hD]); go_simp; exact ⟨⟨_, _, rfl, isV_new9 _ _ _ _ rfl, by simp⟩, valloc _ _⟩)
          simp only [List.nil_append, List.cons_append]
          refine seqi_call (f := 16) (fun v _ => v = .bool true) (stable_val _) (fun vs => #[.int .u8 (fn : Int), vs 68]) (fun vs W hD => (by first | rfl | (simp at hD; simp [Region.wanted, yielded, hD]))) (fun vs W hS hD => ?_) (fun vs W hS hD => ?_) ?_
          · (try simp at hD); (try simp only [hD]); go_simp; done
          · ((try simp [DepA, isB, rsAt] at hD); obtain ⟨ya, yc, ye, yi, yl⟩ := (by first | exact hD | exact hD.1 | exact hD.2 | exact hD.2.1 | exact hD.1.1 : SlW ([(uk, un, us), (1, 50000, ⟨#[]⟩), (2, 1, ⟨#[]⟩)]) _ _); rw [ye]; exact (HCA.out fn ya 3 yc ([(uk, un, us), (1, 50000, ⟨#[]⟩), (2, 1, ⟨#[]⟩)]) yl (ok_cons HUK.out (ok_cons ok_five (ok_cons ok_yes ok_nil))) W hS.b yi).mono fun e W' ⟨he, hB⟩ => ⟨⟨_, he, rfl⟩, hB⟩)
          simp only [List.nil_append, List.cons_append]
          refine seqi_run ?_ (fun vs W hD => (by first | rfl | (simp at hD; simp [Region.wanted, yielded, hD]))) (fun vs W hS hD => ?_) ?_
          rotate_left
          · (obtain ⟨yl, y0, y1, y2, fl, f0, f1, f2, bl, c1, c2, c3, e1, e2, e3⟩ := EXF.out _ hS; obtain _ := hS; (try simp at hD); (try simp only [hD]); (first | (go_simp; done) | (go_simp; rfl)))
          simp only [List.nil_append, List.cons_append]
          refine seqi_run ?_ (fun vs W hD => (by first | rfl | (simp at hD; simp [Region.wanted, yielded, hD]))) (fun vs W hS hD => ?_) ?_
          rotate_left
          · (obtain ⟨yl, y0, y1, y2, fl, f0, f1, f2, bl, c1, c2, c3, e1, e2, e3⟩ := EXF.out _ hS; obtain _ := hS; (try simp at hD); (try simp only [hD]); (first | (go_simp; done) | (go_simp; rfl)))
          simp only [List.nil_append, List.cons_append]
          refine seqi_run ?_ (fun vs W hD => (by first | rfl | (simp at hD; simp [Region.wanted, yielded, hD]))) (fun vs W hS hD => ?_) ?_
          rotate_left
          · (obtain ⟨yl, y0, y1, y2, fl, f0, f1, f2, bl, c1, c2, c3, e1, e2, e3⟩ := EXF.out _ hS; obtain _ := hS; (try simp at hD); (try simp only [hD]); (first | (go_simp; done) | (go_simp; rfl)))
          simp only [List.nil_append, List.cons_append]
          refine seqi_run ?_ (fun vs W hD => (by first | rfl | (simp at hD; simp [Region.wanted, yielded, hD]))) (fun vs W hS hD => ?_) ?_
          rotate_left
          · (obtain ⟨yl, y0, y1, y2, fl, f0, f1, f2, bl, c1, c2, c3, e1, e2, e3⟩ := EXF.out _ hS; obtain _ := hS; (try simp at hD); (try simp only [hD]); (first | (go_simp; done) | (go_simp; rfl)))
          simp only [List.nil_append, List.cons_append]
          refine seqi_run ?_ (fun vs W hD => (by first | rfl | (simp at hD; simp [Region.wanted, yielded, hD]))) (fun vs W hS hD => ?_) ?_
          rotate_left
          · (obtain ⟨yl, y0, y1, y2, fl, f0, f1, f2, bl, c1, c2, c3, e1, e2, e3⟩ := EXF.out _ hS; obtain _ := hS; (try simp at hD); (try simp only [hD]); (first | (go_simp; done) | (go_simp; rfl)))
          simp only [List.nil_append, List.cons_append]
          refine seqi_run ?_ (fun vs W hD => (by first | rfl | (simp at hD; simp [Region.wanted, yielded, hD]))) (fun vs W hS hD => ?_) ?_
          rotate_left
          · (obtain ⟨yl, y0, y1, y2, fl, f0, f1, f2, bl, c1, c2, c3, e1, e2, e3⟩ := EXF.out _ hS; obtain _ := hS; (try simp at hD); (try simp only [hD]); (first | (go_simp; done) | (go_simp; rfl)))
          simp only [List.nil_append, List.cons_append]
          refine seqi_run ?_ (fun vs W hD => (by first | rfl | (simp at hD; simp [Region.wanted, yielded, hD]))) (fun vs W hS hD => ?_) ?_
          rotate_left
          · (obtain ⟨yl, y0, y1, y2, fl, f0, f1, f2, bl, c1, c2, c3, e1, e2, e3⟩ := EXF.out _ hS; obtain _ := hS; (try simp at hD); (try simp only [hD]); (first | (go_simp; done) | (go_simp; rfl)))
          simp only [List.nil_append, List.cons_append]
          refine seqi_run ?_ (fun vs W hD => (by first | rfl | (simp at hD; simp [Region.wanted, yielded, hD]))) (fun vs W hS hD => ?_) ?_
          rotate_left
          · (obtain ⟨yl, y0, y1, y2, fl, f0, f1, f2, bl, c1, c2, c3, e1, e2, e3⟩ := EXF.out _ hS; obtain _ := hS; (try simp at hD); (try simp only [hD]); (first | (go_simp; done) | (go_simp; rfl)))
          simp only [List.nil_append, List.cons_append]
          refine seqi_run ?_ (fun vs W hD => (by first | rfl | (simp at hD; simp [Region.wanted, yielded, hD]))) (fun vs W hS hD => ?_) ?_
          rotate_left
          · (obtain ⟨yl, y0, y1, y2, fl, f0, f1, f2, bl, c1, c2, c3, e1, e2, e3⟩ := EXF.out _ hS; obtain _ := hS; (try simp at hD); (try simp only [hD]); (first | (go_simp; done) | (go_simp; rfl)))
          simp only [List.nil_append, List.cons_append]
          refine seqi_run ?_ (fun vs W hD => (by first | rfl | (simp at hD; simp [Region.wanted, yielded, hD]))) (fun vs W hS hD => ?_) ?_
          rotate_left
          · (obtain ⟨yl, y0, y1, y2, fl, f0, f1, f2, bl, c1, c2, c3, e1, e2, e3⟩ := EXF.out _ hS; obtain _ := hS; (try simp at hD); (try simp only [hD]); (first | (go_simp; done) | (go_simp; rfl)))
          simp only [List.nil_append, List.cons_append]
          refine seqi_oper (SlW ([(0, 0, ⟨#[]⟩), (uk, un, us), (1, 50000, ⟨#[]⟩)])) (slW_stable _) (fun vs W hD => (by first | rfl | (simp at hD; simp [Region.wanted, yielded, hD]))) (fun vs W hS hD => ?_) ?_
          · ((try simp at hD); unfold OperR; (try simp only [hD]); go_simp; exact ⟨⟨_, _, rfl, isV_new9 _ _ _ _ rfl, by simp⟩, valloc _ _⟩)
          simp only [List.nil_append, List.cons_append]
          refine seqi_call (f := 16) (fun v _ => v = .bool true) (stable_val _) (fun vs => #[.int .u8 (fn : Int), vs 80]) (fun vs W hD => (by first | rfl | (simp at hD; simp [Region.wanted, yielded, hD]))) (fun vs W hS hD => ?_) (fun vs W hS hD => ?_) ?_
          · (try simp at hD); (try simp only [hD]); go_simp; done
          · ((try simp [DepA, isB, rsAt] at hD); obtain ⟨ya, yc, ye, yi, yl⟩ := (by first | exact hD | exact hD.1 | exact hD.2 | exact hD.2.1 | exact hD.1.1 : SlW ([(0, 0, ⟨#[]⟩), (uk, un, us), (1, 50000, ⟨#[]⟩)]) _ _); rw [ye]; exact (HCA.out fn ya 3 yc ([(0, 0, ⟨#[]⟩), (uk, un, us), (1, 50000, ⟨#[]⟩)]) yl (ok_cons ok_bl (ok_cons HUK.out (ok_cons ok_five ok_nil))) W hS.b yi).mono fun e W' ⟨he, hB⟩ => ⟨⟨_, he, rfl⟩, hB⟩)
          simp only [List.nil_append, List.cons_append]
          refine seqi_run ?_ (fun vs W hD => (by first | rfl | (simp at hD; simp [Region.wanted, yielded, hD]))) (fun vs W hS hD => ?_) ?_
          rotate_left
          · (obtain ⟨yl, y0, y1, y2, fl, f0, f1, f2, bl, c1, c2, c3, e1, e2, e3⟩ := EXF.out _ hS; obtain _ := hS; (try simp at hD); (try simp only [hD]); (first | (go_simp; done) | (go_simp; rfl)))
          simp only [List.nil_append, List.cons_append]
          refine seqi_run ?_ (fun vs W hD => (by first | rfl | (simp at hD; simp [Region.wanted, yielded, hD]))) (fun vs W hS hD => ?_) ?_
          rotate_left
          · (obtain ⟨yl, y0, y1, y2, fl, f0, f1, f2, bl, c1, c2, c3, e1, e2, e3⟩ := EXF.out _ hS; obtain _ := hS; (try simp at hD); (try simp only [hD]); (first | (go_simp; done) | (go_simp; rfl)))
          simp only [List.nil_append, List.cons_append]
          refine seqi_end fun vs W hS hv => ?_
          simp only [AllF, Nat.zero_add, Nat.reduceAdd] at hv
          obtain ⟨h0, h1, h2, h3, h4, h5, h6, h7, h8, h9, h10, h11, h12, h13, h14, h15, h16, h17, h18, h19, h20, h21, h22, h23, h24, h25, h26, h27, h28, h29, h30, h31, h32, h33, h34, h35, h36, h37, h38, h39, h40, h41, h42, h43, h44, h45, h46, h47, h48, h49, h50, h51, h52, h53, h54, h55, h56, h57, h58, h59, h60, h61, h62, h63, h64, h65, h66, h67, h68, h69, h70, h71, h72, h73, h74, h75, h76, h77, h78, h79, h80, h81, h82, h83, _⟩ := hv
          simp only [h0, h1, h2, h3, h4, h6, h7, h8, h9, h10, h11, h12, h13, h14, h16, h17, h18, h19, h20, h21, h22, h23, h24, h25, h27, h28, h29, h30, h31, h32, h33, h34, h35, h36, h37, h38, h39, h40, h41, h42, h43, h45, h46, h47, h48, h49, h50, h51, h52, h53, h54, h55, h57, h58, h59, h60, h61, h62, h63, h64, h65, h66, h67, h69, h70, h71, h72, h73, h74, h75, h76, h77, h78, h79, h81, h82, h83]
          clear h0 h1 h2 h3 h4 h6 h7 h8 h9 h10 h11 h12 h13 h14 h16 h17 h18 h19 h20 h21 h22 h23 h24 h25 h27 h28 h29 h30 h31 h32 h33 h34 h35 h36 h37 h38 h39 h40 h41 h42 h43 h45 h46 h47 h48 h49 h50 h51 h52 h53 h54 h55 h57 h58 h59 h60 h61 h62 h63 h64 h65 h66 h67 h69 h70 h71 h72 h73 h74 h75 h76 h77 h78 h79 h81 h82 h83
          have HE2 := Lib.hid hS
          clear hS HE
          go_wp2_with fail
          exact ⟨⟨k + 1, by omega, by go_num, HE2.out⟩, by simp [intOf]; omega⟩
        · have hki : ¬ (k : Int) < (n : Int) := by omega
          go_wp2_with fail
          go_loopw [6] (fun i wr => ∃ j : Nat, j ≤ 18 ∧ i = .int .i64 (j : Int) ∧ Hid (Ex w wr a cap L p (p + 1))) (fun i _ => 18 - (intOf i).toNat)
          case atStart => exact ⟨0, by omega, rfl, HE.out⟩
          case round =>
            clear HE
            obtain ⟨j, hj, rfl, HE⟩ := hrel
            by_cases hlt3 : j < 18
            · have d3 : decide ((j : Int) < 18) = true := by simp; omega
              have hmk := make_V j (by omega)
              have HI : ∀ W : World, IsV (W.alloc (.cells ((List.replicate j bl3).flatMap cellsV).toArray 26)) (some ⟨W.heap.size, 0, none⟩) j (List.replicate j bl3) := fun W => by
                have := isV_new9 W _ 26 (List.replicate j bl3) rfl
                rwa [List.length_replicate] at this
              have HI2 := Lib.hid HI
              have HOR := Lib.hid (ok_rep j)
              generalize ((List.replicate j bl3).flatMap cellsV).toArray = cs at *
              generalize List.replicate j bl3 = R at *
              clear HI
              go_wp2_with fail
              have HE4 := Lib.hid (HE.out.later (valloc wr (.cells cs 26)))
              refine (HCA.out fn _ j j R (Nat.le_refl _) HOR.out _ HE4.out.b (HI2.out wr)).mono ?_
              rintro e w2 ⟨rfl, hB2⟩
              have HE5 := Lib.hid (HE4.out.later hB2)
              clear hB2 HE4 HE
              go_wp2_with fail
              exact ⟨⟨j + 1, by omega, by go_num, HE5.out⟩, by simp [intOf]; omega⟩
            · obtain rfl : j = 18 := by omega
              go_wp2_with fail
              exact ⟨⟨fn + 1, by omega, by go_num, HE.out⟩, by simp [intOf]; omega⟩
    · have d1 : decide ((fn : Int) ≤ 51) = false := by simp; omega
      go_wp2_with fail
      go_loopw [7] (fun i wr => ∃ x : Int, -1 ≤ x ∧ x ≤ 6 ∧ i = .int .i64 x ∧ Hid (Ex w wr a cap L p (p + 1))) (fun i _ => (6 - intOf i).toNat)
      case atStart => exact ⟨-1, by omega, by omega, rfl, HE.out⟩
      case round =>
        clear HE
        obtain ⟨x, hx1, hx2, rfl, HE⟩ := hrel
        by_cases hlt4 : x < 6
        · have d4 : decide (x < 6) = true := decide_eq_true hlt4
          have hw1 : IntKind.i64.wrap (x * 10000) = x * 10000 := IntWalk.i64_in _ (by omega)
          have hw2 : IntKind.i64.wrap (x * 10000 + 9999) = x * 10000 + 9999 := IntWalk.i64_in _ (by omega)
          obtain ⟨y0, y1, y2, _, _, _⟩ := HE.out.y.cells
          have y0 : wr.cell? ⟨p, 0, none⟩ = some (.int .u8 2) := y0
          have yl := HE.out.y.lt
          obtain ⟨f0, f1, f2, _, _, _⟩ := HE.out.f.cells
          have f0 : wr.cell? ⟨p + 1, 0, none⟩ = some (.int .u8 1) := f0
          have fl := HE.out.f.lt
          go_wp2_with fail
          have HE4 := Lib.hid (HE.out.later (valloc wr (.cells #[.int .u8 1, .int .i64 (x * 10000 + 9999), .string ⟨#[]⟩, .int .u8 2, .int .i64 1, .string ⟨#[]⟩, .int .u8 1, .int .i64 50000, .string ⟨#[]⟩, .int .u8 0, .int .i64 0, .string ⟨#[]⟩] 26)))
          have HK4 : Hid (∀ u ∈ [(1, x * 10000 + 9999, ⟨#[]⟩), (2, 1, ⟨#[]⟩), (1, 50000, ⟨#[]⟩), (0, 0, ⟨#[]⟩)], okV u) := ok_cons ⟨show (⟨#[]⟩ : ByteArray).size ≤ 300 by decide, by unfold InI; dsimp only; omega⟩ (ok_cons ok_yes (ok_cons ok_five (ok_cons ok_bl ok_nil)))
          refine (HCA.out 30 _ 4 4 [(1, x * 10000 + 9999, ⟨#[]⟩), (2, 1, ⟨#[]⟩), (1, 50000, ⟨#[]⟩), (0, 0, ⟨#[]⟩)] (Nat.le_refl _) HK4.out _ HE4.out.b (isV_new9 wr _ _ _ rfl)).mono ?_
          rintro e w2 ⟨rfl, hB2⟩
          have HE5 := Lib.hid (HE4.out.later hB2)
          clear hB2 HE4 HE y0 y1 y2 yl f0 f1 f2 fl
          go_wp2_with fail
          exact ⟨⟨x + 1, by omega, by omega, by go_num, HE5.out⟩, by simp [intOf]; omega⟩
        · obtain rfl : x = 6 := by omega
          go_wp2_with fail
          refine (HAW.out _ HE.out.b).mono ?_
          rintro e w2 ⟨rfl, hB2⟩
          have HE5 := Lib.hid (HE.out.later hB2)
          clear hB2 HE
          go_wp2_with fail
          go_ret
          exact ⟨rfl, HE5.out.b⟩
end Go.Proofs.YtdhahiodnmmkeaaGreatDoor.Va
