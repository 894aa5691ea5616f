/- The walk of the law. -/
import Derived.Test.YtmnbplfgdgjpdaaRosS
import Derived.Deep.RegionHeld3
namespace Go.Proofs.Ytmnbplfgdgjpdaa
open Go.RowKit
theorem keepD {w w' : World} {x : Addr} {o : Nat} {v : Value} (hB : Below w.heap.size w w') (hx : x.block < w.heap.size) (c : w.cell? (x.add o) = some v) : Below w.heap.size w w' ∧ w'.cell? (x.add o) = some v := by
  refine ⟨hB, ?_⟩
  rw [hB.cell (p := x.add o) (by unfold Addr.add; split <;> exact hx)]
  exact c
theorem keepD' {w w' : World} {x : Addr} {o : Nat} {v : Value} (hB : Below w.heap.size w w') (hx : x.block < w.heap.size) (c : w.cell? ⟨(x.add o).block, (x.add o).off + 1, none⟩ = some v) : w'.cell? ⟨(x.add o).block, (x.add o).off + 1, none⟩ = some v := by
  rw [hB.cell (p := ⟨(x.add o).block, (x.add o).off + 1, none⟩) (by show (x.add o).block < _; unfold Addr.add; split <;> exact hx)]
  exact c
set_option maxRecDepth 100000 in
set_option maxHeartbeats 3200000 in
theorem rosterDoes_law (n : Int) (a : Option Addr) (len cap : Nat) (D : Nat → Int × Bool) (w : World) (hd : IsD w a len D) :
    Calls Try.prog 6 #[.int .i64 n, .slice a len cap] w fun e w' => e = .returned (.bool true) ∧ Below w.heap.size w w' := by
  have HD := Lib.hid hd
  clear hd
  by_cases hl : 200 < len
  · go_enter Try.func6, Try.ntmps6
    go_wp2_with fail
    refine (known_any _).mono ?_
    rintro e w1 ⟨rfl, hb⟩
    go_wp2_with fail
    go_ret
    exact ⟨rfl, hb⟩
  · by_cases hn : n < 1 ∨ 64 < n
    · go_enter Try.func6, Try.ntmps6
      go_wp2_with fail
      refine (rnew_bad n hn _).mono ?_
      rintro e w1 ⟨rfl, rfl⟩
      go_wp2_with fail
      refine (fnew_bad n hn _).mono ?_
      rintro e w1 ⟨rfl, rfl⟩
      go_wp2_with fail
      refine (in_nil _).mono ?_
      rintro e w1 ⟨rfl, rfl⟩
      go_wp2_with fail
      refine (fin_nil _).mono ?_
      rintro e w1 ⟨rfl, rfl⟩
      go_wp2_with fail
      go_loopw [9] (fun i wr => ∃ k : Nat, k ≤ len ∧ i = .int .i64 k ∧ Below w.heap.size w wr) (fun i _ => len - (intOf i).toNat)
      case atStart => exact ⟨0, Nat.zero_le _, rfl, Below.refl _ _⟩
      case round =>
        obtain ⟨k, hk, rfl, hb⟩ := hrel
        by_cases hlt : k < len
        · obtain ⟨x, rfl, hx, hcell⟩ := HD.out.later hb (by omega)
          obtain ⟨c1, c2⟩ := hcell k hlt
          clear hcell
          generalize D k = d at c1 c2
          obtain ⟨u, o⟩ := d
          dsimp only at c1 c2
          cases o
          · go_wp2_with fail
            refine (copy_nil _).mono ?_
            rintro e w' ⟨rfl, rfl⟩
            go_wp2_with fail
            refine (in_nil _).mono ?_
            rintro e w' ⟨rfl, rfl⟩
            go_wp2_with fail
            go_region_held3 (fun X => Below w.heap.size w X ∧ X.cell? (x.add (k * 2)) = some (.int .i64 u))
              (first
                | assumption
                | exact ⟨hb.drew, c1⟩)
              (first
                | (go_at_call 29; refine (login_nil _ _).mono ?_; rintro e w' ⟨rfl, rfl⟩)
                | (go_at_call 30; refine (flogin_nil _ _).mono ?_; rintro e w' ⟨rfl, rfl⟩))
            go_split_ands
            go_wp2_with fail
            refine (in_nil _).mono ?_
            rintro e w' ⟨rfl, rfl⟩
            go_wp2_with fail
            refine (fin_nil _).mono ?_
            rintro e w' ⟨rfl, rfl⟩
            go_wp2_with fail
            refine (in_nil _).mono ?_
            rintro e w' ⟨rfl, rfl⟩
            go_wp2_with fail
            go_roundw
            case rel => exact ⟨k + 1, by omega, by go_num, by assumption⟩
            case measure => simp [intOf]; omega
          · go_wp2_with fail
            refine (copy_nil _).mono ?_
            rintro e w' ⟨rfl, rfl⟩
            go_wp2_with fail
            refine (in_nil _).mono ?_
            rintro e w' ⟨rfl, rfl⟩
            go_wp2_with fail
            go_region_held3 (fun X => Below w.heap.size w X ∧ X.cell? (x.add (k * 2)) = some (.int .i64 u))
              (first
                | assumption
                | exact ⟨hb.drew, c1⟩)
              (first
                | (go_at_call 27; refine (logout_nil _ _).mono ?_; rintro e w' ⟨rfl, rfl⟩)
                | (go_at_call 28; refine (flogout_nil _ _).mono ?_; rintro e w' ⟨rfl, rfl⟩))
            go_split_ands
            go_wp2_with fail
            refine (in_nil _).mono ?_
            rintro e w' ⟨rfl, rfl⟩
            go_wp2_with fail
            refine (fin_nil _).mono ?_
            rintro e w' ⟨rfl, rfl⟩
            go_wp2_with fail
            refine (in_nil _).mono ?_
            rintro e w' ⟨rfl, rfl⟩
            go_wp2_with fail
            go_roundw
            case rel => exact ⟨k + 1, by omega, by go_num, by assumption⟩
            case measure => simp [intOf]; omega
        · go_wp2_with fail
          go_ret
          exact ⟨rfl, hb⟩
    · obtain ⟨m, rfl⟩ : ∃ m : Nat, n = m := ⟨n.toNat, by omega⟩
      have m1 : 1 ≤ m := by omega
      have m2 : m ≤ 64 := by omega
      clear hn
      go_enter Try.func6, Try.ntmps6
      go_wp2_with fail
      refine (rnew_ok m (by omega) (by omega) _).mono ?_
      rintro e w1 ⟨rfl, hr, hb⟩
      have HR1 := Lib.hid (show Ros w1 w.heap.size m noS from hr)
      have HB1 := Lib.hid hb
      clear hr hb
      go_wp2_with fail
      refine (fnew_ok m m1 m2 _).mono ?_
      rintro e w2 ⟨rfl, hr, hb⟩
      have hbw : w.heap.size < w1.heap.size := HR1.out.1
      have HR2 := Lib.hid (HR1.out.later hb)
      have HF2 := Lib.hid hr
      have HB2 := Lib.hid (HB1.out.trans (hb.mono HB1.out.size))
      clear hr hb
      obtain ⟨g, hg⟩ : ∃ g, g = w1.heap.size := ⟨_, rfl⟩
      rw [← hg] at HF2 hbw
      rw [← hg]
      clear hg HB1 HR1
      go_wp2_with fail
      refine (rin_any w.heap.size m noS _ HR2.out).mono ?_
      rintro e w3 ⟨rfl, hb⟩
      have HR3 := Lib.hid (HR2.out.later hb)
      have HF3 := Lib.hid (HF2.out.later hb)
      have HB3 := Lib.hid (HB2.out.trans (hb.mono HB2.out.size))
      clear hb HR2 HF2 HB2
      go_wp2_with fail
      refine (fin_any (g + 1) g m noS m2 (fun _ _ => rfl) _ HF3.out).mono ?_
      rintro e w4 ⟨rfl, hb⟩
      have HR4 := Lib.hid (HR3.out.later hb)
      have HF4 := Lib.hid (HF3.out.later hb)
      have HB4 := Lib.hid (HB3.out.trans (hb.mono HB3.out.size))
      clear hb HR3 HF3 HB3
      go_wp2_with fail
      go_loopw [9] (fun i wr => ∃ (k : Nat) (S : Nat → Bool), k ≤ len ∧ i = .int .i64 k ∧ Ros wr w.heap.size m S ∧ RefR wr (g + 1) g m S ∧ (∀ i, m ≤ i → S i = false) ∧ Below w.heap.size w wr) (fun i _ => len - (intOf i).toNat)
      case atStart => exact ⟨0, noS, Nat.zero_le _, rfl, HR4.out, HF4.out, fun _ _ => rfl, HB4.out⟩
      case round =>
        obtain ⟨k, S, hk, rfl, hr, hf, hs, hb⟩ := hrel
        have hcb : g + 1 < wr.heap.size := hf.1
        have HR := Lib.hid hr
        have HF := Lib.hid hf
        have HS := Lib.hid hs
        have HB := Lib.hid hb
        clear hr hf hs hb HR4 HF4 HB4
        by_cases hlt : k < len
        · obtain ⟨x, rfl, hx, hcell⟩ := HD.out (by omega)
          obtain ⟨c0, c0'⟩ := hcell k hlt
          clear hcell
          generalize D k = d at c0 c0'
          obtain ⟨u, o⟩ := d
          dsimp only at c0 c0'
          cases o
          · go_wp2_with fail
            refine (copy_any w.heap.size m S _ HR.out).mono ?_
            rintro e w5 ⟨rfl, hc, hb⟩
            have HC5 := Lib.hid hc
            have HR5 := Lib.hid (HR.out.later hb)
            have HF5 := Lib.hid (HF.out.later hb)
            have HB5 := Lib.hid (HB.out.trans (hb.mono HB.out.size))
            clear hb hc
            go_wp2_with fail
            refine (rin_any w.heap.size m S _ HR5.out).mono ?_
            rintro e w6 ⟨rfl, hb⟩
            have HC6 := Lib.hid (HC5.out.later hb)
            have HR6 := Lib.hid (HR5.out.later hb)
            have HF6 := Lib.hid (HF5.out.later hb)
            have HB6 := Lib.hid (HB5.out.trans (hb.mono HB5.out.size))
            have c6 := (keepD HB6.out hx c0).2
            have d6 := keepD' HB6.out hx c0'
            clear hb HC5 HR5 HF5 HB5
            go_wp2_with fail
            go_region_held3 (fun X => Below w.heap.size w X ∧ X.cell? (x.add (k * 2)) = some (.int .i64 u))
              (first
                | assumption
                | exact ⟨HB6.out.drew, c6⟩)
              (first
                | (go_at_call 29; refine (login_u w.heap.size m S u m2 w6.drew HR6.out).mono ?_; rintro e w7 ⟨rfl, hrA, haA⟩; have hS7 := keepD (HB6.out.drew.trans (haA.1 _ (Nat.le_refl _))) hx c0)
                | (go_at_call 30; refine (flogin_u (g + 1) g m (by omega) S u _ (RefR.apart (w := w6.drew) HF6.out haA (by omega) (by omega))).mono ?_; rintro e w8 ⟨rfl, hrF, haF⟩; have hS8 := keepD ((HB6.out.drew.trans (haA.1 _ (Nat.le_refl _))).trans (haF.1 _ (by omega))) hx c0))
            have HR8 := Lib.hid (hrA.apart haF (by omega))
            have HF8 := Lib.hid hrF
            have HC8 := Lib.hid ((Ros.apart (w := w6.drew) HC6.out haA (by omega)).apart haF (by omega))
            have HB8 := Lib.hid hS8.1
            clear hrA hrF haA haF hS7 hS8 HR6 HF6 HC6 HB6 c6 d6
            go_wp2_with fail
            refine (rin_any w.heap.size m _ _ HR8.out).mono ?_
            rintro e w9 ⟨rfl, hb⟩
            have HR9 := Lib.hid (HR8.out.later hb)
            have HF9 := Lib.hid (HF8.out.later hb)
            have HC9 := Lib.hid (HC8.out.later hb)
            have HB9 := Lib.hid (HB8.out.trans (hb.mono HB8.out.size))
            clear hb HR8 HF8 HC8 HB8
            go_wp2_with fail
            refine (fin_any (g + 1) g m _ m2 (chS_hi u _ HS.out) _ HF9.out).mono ?_
            rintro e w10 ⟨rfl, hb⟩
            have HR10 := Lib.hid (HR9.out.later hb)
            have HF10 := Lib.hid (HF9.out.later hb)
            have HC10 := Lib.hid (HC9.out.later hb)
            have HB10 := Lib.hid (HB9.out.trans (hb.mono HB9.out.size))
            clear hb HR9 HF9 HC9 HB9
            go_wp2_with fail
            refine (rin_any wr.heap.size m S _ HC10.out).mono ?_
            rintro e w11 ⟨rfl, hb⟩
            have HR11 := Lib.hid (HR10.out.later hb)
            have HF11 := Lib.hid (HF10.out.later hb)
            have HB11 := Lib.hid (HB10.out.trans (hb.mono HB10.out.size))
            clear hb HR10 HF10 HC10 HB10
            go_wp2_with fail
            go_roundw
            case rel => exact ⟨k + 1, _, by omega, by go_num, HR11.out, HF11.out, chS_hi u _ HS.out, HB11.out⟩
            case measure => simp [intOf]; omega
          · go_wp2_with fail
            refine (copy_any w.heap.size m S _ HR.out).mono ?_
            rintro e w5 ⟨rfl, hc, hb⟩
            have HC5 := Lib.hid hc
            have HR5 := Lib.hid (HR.out.later hb)
            have HF5 := Lib.hid (HF.out.later hb)
            have HB5 := Lib.hid (HB.out.trans (hb.mono HB.out.size))
            clear hb hc
            go_wp2_with fail
            refine (rin_any w.heap.size m S _ HR5.out).mono ?_
            rintro e w6 ⟨rfl, hb⟩
            have HC6 := Lib.hid (HC5.out.later hb)
            have HR6 := Lib.hid (HR5.out.later hb)
            have HF6 := Lib.hid (HF5.out.later hb)
            have HB6 := Lib.hid (HB5.out.trans (hb.mono HB5.out.size))
            have c6 := (keepD HB6.out hx c0).2
            have d6 := keepD' HB6.out hx c0'
            clear hb HC5 HR5 HF5 HB5
            go_wp2_with fail
            go_region_held3 (fun X => Below w.heap.size w X ∧ X.cell? (x.add (k * 2)) = some (.int .i64 u))
              (first
                | assumption
                | exact ⟨HB6.out.drew, c6⟩)
              (first
                | (go_at_call 27; refine (logout_u w.heap.size m S u m2 w6.drew HR6.out).mono ?_; rintro e w7 ⟨rfl, hrA, haA⟩; have hS7 := keepD (HB6.out.drew.trans (haA.1 _ (Nat.le_refl _))) hx c0)
                | (go_at_call 28; refine (flogout_u (g + 1) g m (by omega) S u _ (RefR.apart (w := w6.drew) HF6.out haA (by omega) (by omega))).mono ?_; rintro e w8 ⟨rfl, hrF, haF⟩; have hS8 := keepD ((HB6.out.drew.trans (haA.1 _ (Nat.le_refl _))).trans (haF.1 _ (by omega))) hx c0))
            have HR8 := Lib.hid (hrA.apart haF (by omega))
            have HF8 := Lib.hid hrF
            have HC8 := Lib.hid ((Ros.apart (w := w6.drew) HC6.out haA (by omega)).apart haF (by omega))
            have HB8 := Lib.hid hS8.1
            clear hrA hrF haA haF hS7 hS8 HR6 HF6 HC6 HB6 c6 d6
            go_wp2_with fail
            refine (rin_any w.heap.size m _ _ HR8.out).mono ?_
            rintro e w9 ⟨rfl, hb⟩
            have HR9 := Lib.hid (HR8.out.later hb)
            have HF9 := Lib.hid (HF8.out.later hb)
            have HC9 := Lib.hid (HC8.out.later hb)
            have HB9 := Lib.hid (HB8.out.trans (hb.mono HB8.out.size))
            clear hb HR8 HF8 HC8 HB8
            go_wp2_with fail
            refine (fin_any (g + 1) g m _ m2 (chS_hi u _ HS.out) _ HF9.out).mono ?_
            rintro e w10 ⟨rfl, hb⟩
            have HR10 := Lib.hid (HR9.out.later hb)
            have HF10 := Lib.hid (HF9.out.later hb)
            have HC10 := Lib.hid (HC9.out.later hb)
            have HB10 := Lib.hid (HB9.out.trans (hb.mono HB9.out.size))
            clear hb HR9 HF9 HC9 HB9
            go_wp2_with fail
            refine (rin_any wr.heap.size m S _ HC10.out).mono ?_
            rintro e w11 ⟨rfl, hb⟩
            have HR11 := Lib.hid (HR10.out.later hb)
            have HF11 := Lib.hid (HF10.out.later hb)
            have HB11 := Lib.hid (HB10.out.trans (hb.mono HB10.out.size))
            clear hb HR10 HF10 HC10 HB10
            go_wp2_with fail
            go_roundw
            case rel => exact ⟨k + 1, _, by omega, by go_num, HR11.out, HF11.out, chS_hi u _ HS.out, HB11.out⟩
            case measure => simp [intOf]; omega
        · go_wp2_with fail
          go_ret
          exact ⟨rfl, HB.out⟩
end Go.Proofs.Ytmnbplfgdgjpdaa
