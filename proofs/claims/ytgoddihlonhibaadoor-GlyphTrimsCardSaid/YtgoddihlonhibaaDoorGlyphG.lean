/- The contract of the specification's Unquote. -/
import Derived.Test.YtgoddihlonhibaaDoorGlyphF
namespace Go.Proofs.YtgoddihlonhibaaDoor
open Go.RowKit GM
theorem inner_at (s : ByteArray) (k : Nat) (h : k + 2 < s.size) : (inner s.data.toList)[k]'(by unfold inner; simp; omega) = s[k + 1] := by
  unfold inner
  rw [List.getElem_take, List.getElem_drop]
  have := data_get s (k + 1) (by omega)
  rw [← this]
  congr 1
  omega
theorem inner_len (s : ByteArray) : (inner s.data.toList).length = s.size - 2 := by unfold inner; simp; omega
set_option maxRecDepth 100000 in
set_option maxHeartbeats 3200000 in
theorem runquote_any (s : ByteArray) (hs : s.size ≤ 4000) (w : World) :
    Calls Tryd.prog 22 #[.string s] w fun e w' => e = .returned (.tuple #[.string (str (unqS s.data.toList).1), .int .i64 (unqS s.data.toList).2]) ∧ Below w.heap.size w w' := by
  have hm : s.size ≤ maxLen := by unfold maxLen; omega
  by_cases h2 : s.size < 2
  · have HU := Lib.hid (unqS_bad (okU_short s h2))
    go_enter Tryd.func22, Tryd.ntmps22
    go_wp2_with fail
    go_ret2
    exact ⟨retSI (by rw [HU.out]; rfl) (by rw [HU.out]), Below.refl _ _⟩
  · have h0 : 0 < s.size := by omega
    have hi1 : (s.size : Int) - 1 = ((s.size - 1 : Nat) : Int) := by omega
    by_cases c0 : (s[0].toNat : Int) = 34
    · have hl : s.size - 1 < s.size := by omega
      by_cases c1 : (s[s.size - 1].toNat : Int) = 34
      · cases hp : plain s.data.toList with
        | true =>
          have HO2 := Lib.hid (okU_yes s (by omega) c0 c1 hp)
          have HP := Lib.hid hp
          clear hp
          have HC0 := Lib.hid c0
          have HC1 := Lib.hid c1
          go_enter Tryd.func22, Tryd.ntmps22
          go_wp2_with fail
          refine (rplain_any s hm _).mono ?_
          rintro e w' ⟨rfl, rfl⟩
          rw [HP.out]
          go_wp2_with fail
          clear c0 c1
          go_loopw [5, 6] (fun v i wr => ∃ (k : Nat) (T : List UInt8), k + 2 ≤ s.size ∧ i = .int .i64 (k + 1 : Nat) ∧ RestU (inner s.data.toList) T k ∧ OwnB w.heap.size wr v T ∧ Below w.heap.size w wr) (fun _ i _ => s.size - (intOf i).toNat)
          case atStart => exact ⟨0, [], by omega, rfl, RestU.zero _, OwnB.nil _ _, Below.refl _ _⟩
          case round =>
            obtain ⟨k, T, hk, rfl, hr, ho, hB⟩ := hrel
            obtain ⟨va, vc, rfl, _⟩ := ho.shape
            have HR := Lib.hid hr
            have HO := Lib.hid ho
            have HB := Lib.hid hB
            have hz := hB.size
            have HL : Hid (T.length ≤ 1000000) := by have := hr.2; unfold Hid; omega
            clear hr ho hB
            by_cases hlt : k + 2 < s.size
            · have hk1 : k + 1 < s.size := by omega
              have hkl : k < (inner s.data.toList).length := by rw [inner_len]; omega
              have hA := Lib.hid (inner_at s k hlt)
              by_cases hc : (s[k + 1].toNat : Int) = 34
              · have HC34 : Hid ((inner s.data.toList)[k] = 34) := UInt8.toNat_inj.1 (by have h3 : (34 : UInt8).toNat = 34 := rfl; rw [hA.out]; omega)
                by_cases he : k + 3 = s.size
                · have HU := Lib.hid (unqS_none HO2.out (HR.out.stop1 (by rw [inner_len]; omega) HC34.out))
                  have hei : (k : Int) + 1 + 1 = ((s.size - 1 : Nat) : Int) := by omega
                  go_wp2_with (at_builtin; refine wpList_app1 rfl (.tmp 33) _ rfl w.heap.size _ _ rfl (HO.out.alloc _) wr.heap.size 34 rfl (by simp) HL.out (by simp; omega) ?_)
                  intro v1 w1 ho1 hb1
                  have HB1 := Lib.hid ((HB.out.alloc hz _).trans hb1)
                  clear ho1 hb1
                  go_wp2_with fail
                  go_ret2
                  exact ⟨retSI (by rw [HU.out]; rfl) (by rw [HU.out]), HB1.out⟩
                · have hlt2 : k + 2 < s.size := by omega
                  have hei : ¬ (k : Int) + 1 + 1 = ((s.size - 1 : Nat) : Int) := by omega
                  have hA2 := Lib.hid (inner_at s (k + 1) (by omega))
                  by_cases hd : (s[k + 1 + 1].toNat : Int) = 34
                  · have HN : Hid (RestU (inner s.data.toList) (T ++ [34]) (k + 2)) := HR.out.two (by rw [inner_len]; omega) HC34.out (UInt8.toNat_inj.1 (by have h3 : (34 : UInt8).toNat = 34 := rfl; rw [hA2.out]; omega))
                    go_wp2_with (at_builtin; refine wpList_app1 rfl (.tmp 33) _ rfl w.heap.size _ _ rfl (HO.out.alloc _) wr.heap.size 34 rfl (by simp) HL.out (by simp; omega) ?_)
                    intro v1 w1 ho1 hb1
                    have HO1 := Lib.hid ho1
                    have HB1 := Lib.hid ((HB.out.alloc hz _).trans hb1)
                    clear ho1 hb1
                    go_wp2_with fail
                    refine ⟨⟨k + 2, _, by omega, by go_num, HN.out, HO1.out, HB1.out⟩, ?_⟩
                    simp [intOf]; omega
                  · have HU := Lib.hid (unqS_none HO2.out (HR.out.stop2 (by rw [inner_len]; omega) HC34.out (fun e => hd (by rw [← hA2.out, e]; rfl))))
                    have hd' : ((s[k + 1 + 1].toNat : Int) != 34) = true := by simpa using hd
                    go_wp2_with (at_builtin; refine wpList_app1 rfl (.tmp 33) _ rfl w.heap.size _ _ rfl (HO.out.alloc _) wr.heap.size 34 rfl (by simp) HL.out (by simp; omega) ?_)
                    intro v1 w1 ho1 hb1
                    have HB1 := Lib.hid ((HB.out.alloc hz _).trans hb1)
                    clear ho1 hb1
                    go_wp2_with fail
                    go_ret2
                    exact ⟨retSI (by rw [HU.out]; rfl) (by rw [HU.out]), HB1.out⟩
              · have HN : Hid (RestU (inner s.data.toList) (T ++ [s[k + 1]]) (k + 1)) := by
                  have := HR.out.one hkl (fun e => hc (by rw [← hA.out, e]; rfl))
                  rw [hA.out] at this; exact this
                go_wp2_with (at_builtin; refine wpList_app1 rfl (.tmp 33) _ rfl w.heap.size _ _ rfl (HO.out.alloc _) wr.heap.size s[k + 1] rfl (by simp) HL.out (by simp; omega) ?_)
                intro v1 w1 ho1 hb1
                have HO1 := Lib.hid ho1
                have HB1 := Lib.hid ((HB.out.alloc hz _).trans hb1)
                clear ho1 hb1
                go_wp2_with fail
                go_roundw
                case rel => exact ⟨k + 1, _, by omega, by go_num, HN.out, HO1.out, HB1.out⟩
                case measure => simp [intOf]; omega
            · have HD : Hid (unq (inner s.data.toList) = some T) := by
                have := HR.out
                rw [show k = (inner s.data.toList).length by rw [inner_len]; omega] at this; exact this.done
              by_cases hT : 256 < T.length
              · have HU := Lib.hid (unqS_long HO2.out HD.out hT)
                have hT' : (256 : Int) < (T.length : Int) := by omega
                go_wp2_with fail
                go_ret2
                exact ⟨retSI (by rw [HU.out]; rfl) (by rw [HU.out]), HB.out⟩
              · have HU := Lib.hid (unqS_yes HO2.out HD.out hT)
                have hx := HO.out.str
                go_wp2_with fail
                go_ret2
                exact ⟨retSI (by rw [HU.out]) (by rw [HU.out]), HB.out⟩
        | false =>
          have HU := Lib.hid (unqS_bad (okU_plain s hp))
          have HP := Lib.hid hp
          clear hp
          go_enter Tryd.func22, Tryd.ntmps22
          go_wp2_with fail
          refine (rplain_any s hm _).mono ?_
          rintro e w' ⟨rfl, rfl⟩
          rw [HP.out]
          go_wp2_with fail
          go_ret2
          exact ⟨retSI (by rw [HU.out]; rfl) (by rw [HU.out]), Below.refl _ _⟩
      · have HU := Lib.hid (unqS_bad (okU_last s hl c1))
        go_enter Tryd.func22, Tryd.ntmps22
        go_wp2_with fail
        go_ret2
        exact ⟨retSI (by rw [HU.out]; rfl) (by rw [HU.out]), Below.refl _ _⟩
    · have HU := Lib.hid (unqS_bad (okU_head s h0 c0))
      go_enter Tryd.func22, Tryd.ntmps22
      go_wp2_with fail
      go_ret2
      exact ⟨retSI (by rw [HU.out]; rfl) (by rw [HU.out]), Below.refl _ _⟩
end Go.Proofs.YtgoddihlonhibaaDoor
