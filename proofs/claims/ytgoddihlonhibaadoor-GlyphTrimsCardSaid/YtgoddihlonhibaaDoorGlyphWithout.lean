/- The contract of the statements' 'without': a text without its blanks. -/
import Derived.Test.YtgoddihlonhibaaDoorGlyphH
import Derived.Test.YtgoddihlonhibaaDoorGlyphMathC
namespace Go.Proofs.YtgoddihlonhibaaDoor
open Go.RowKit GM
set_option maxRecDepth 100000 in
set_option maxHeartbeats 1600000 in
theorem without_any (s : ByteArray) (hs : s.size ≤ 4000) (w : World) :
    Calls Tryd.prog 26 #[.string s] w fun e w' => e = .returned (.string (str (fil s.data.toList))) ∧ Below w.heap.size w w' := by
  go_enter Tryd.func26, Tryd.ntmps26
  go_wp2_with fail
  go_loopw [3, 4] (fun v i wr => ∃ k : Nat, k ≤ s.size ∧ i = .int .i64 k ∧ OwnB w.heap.size wr v (fil (s.data.toList.take k)) ∧ Below w.heap.size w wr) (fun _ i _ => s.size - (intOf i).toNat)
  case atStart => exact ⟨0, Nat.zero_le _, rfl, OwnB.nil _ _, Below.refl _ _⟩
  case round =>
    obtain ⟨k, hk, rfl, ho, hB⟩ := hrel
    have HO := Lib.hid ho
    have HB := Lib.hid hB
    have hz := hB.size
    clear ho hB
    have HL := Lib.hid (fil_len (s.data.toList.take k))
    have HL2 : Hid ((fil (s.data.toList.take k)).length ≤ 1000000) := by have := HL.out; simp at this; unfold Hid; omega
    by_cases hlt : k < s.size
    · have HN : Hid (fil (s.data.toList.take (k + 1)) = fil (s.data.toList.take k) ++ (if s[k] = 32 then [] else [s[k]])) := by unfold Hid; rw [take_snoc s k hlt, fil_snoc]
      by_cases hc : (s[k].toNat : Int) = 32
      · have HE : Hid (fil (s.data.toList.take (k + 1)) = fil (s.data.toList.take k)) := by
          unfold Hid; rw [HN.out, if_pos (byte_eq _ hc)]; simp
        go_wp2_with fail
        go_roundw
        case rel => exact ⟨k + 1, by omega, by go_num, by rw [HE.out]; exact HO.out, HB.out⟩
        case measure => simp [intOf]; omega
      · have HE : Hid (fil (s.data.toList.take (k + 1)) = fil (s.data.toList.take k) ++ [s[k]]) := by
          unfold Hid; rw [HN.out, if_neg (byte_ne _ hc)]
        go_wp2_with (at_builtin; refine wpList_app1 rfl _ _ rfl w.heap.size _ _ rfl (HO.out.alloc _) wr.heap.size s[k] rfl (by simp) HL2.out (by simp; omega) ?_)
        intro v' w' ho' hb'
        have HO' := Lib.hid ho'
        have HB' := Lib.hid ((HB.out.alloc hz _).trans hb')
        clear ho' hb'
        go_wp2_with fail
        go_roundw
        case rel => exact ⟨k + 1, by omega, by go_num, by rw [HE.out]; exact HO'.out, HB'.out⟩
        case measure => simp [intOf]; omega
    · obtain rfl : k = s.size := by omega
      have HX := Lib.hid HO.out.str
      rw [take_all] at HX
      have hx := HX.out
      go_wp2_with fail
      go_ret
      exact ⟨rfl, HB.out⟩
end Go.Proofs.YtgoddihlonhibaaDoor
