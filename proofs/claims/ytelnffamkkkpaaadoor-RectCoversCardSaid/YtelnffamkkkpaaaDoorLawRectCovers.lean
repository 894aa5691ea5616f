/- The walk of the law. -/
import Derived.Test.YtelnffamkkkpaaaDoorRectU
import Derived.Test.YtelnffamkkkpaaaDoorRectKnown
import Derived.Test.YtelnffamkkkpaaaDoorCameR
namespace Go.Proofs.YtelnffamkkkpaaaDoor
open Go.RowKit AM
set_option maxHeartbeats 1600000 in
theorem rectCovers_law (r1 r2 r3 r4 : Int) (a : Option Addr) (n cap : Nat) (l : List R4) (w : World) (hr : IsOf cells4 4 w a n l) :
    Calls Tryd.prog 3 #[.agg #[.int .i64 r1, .int .i64 r2, .int .i64 r3, .int .i64 r4], .slice a n cap] w fun e w' => e = .returned (.bool true) ∧ Below w.heap.size w w' := by
  have HR := Lib.hid (isR_of hr)
  have HLL := Lib.hid hr.1
  have HF := Lib.hid (Four.start w r1 r2 r3 r4 23)
  clear hr
  by_cases hn : 24 < n
  · go_enter Tryd.func3, Tryd.ntmps3
    go_wp2_with fail
    refine (knownR_any _).mono ?_
    rintro e w1 ⟨rfl, hB1⟩
    have HB1 := Lib.hid (Below.next (below_alloc w _) hB1)
    clear hB1
    go_wp2_with fail
    go_ret
    exact ⟨rfl, HB1.out⟩
  · go_enter Tryd.func3, Tryd.ntmps3
    have hbel := below_alloc w (.cells #[.int .i64 r1, .int .i64 r2, .int .i64 r3, .int .i64 r4] 23)
    have HB0 := Lib.hid hbel
    clear hbel
    go_wp2_with (at_builtin; refine wpList_appRest rfl (.tmp 14) (.tmp 15) rfl (w.heap.size + 1) _ [] rfl (.inl ⟨_, rfl, rfl⟩) a n cap l rfl ((HR.out.later HB0.out).later (below_alloc _ _)) (by simp; omega) (by simp) ?_)
    intro v' w1 ho hb
    obtain ⟨xa, xcap, rfl, hx⟩ := ho.isR
    rw [HLL.out] at hx ⊢
    have HX := Lib.hid hx
    have HF1 := Lib.hid (Four.keep (HF.out.later (below_alloc _ (.cells #[] 23))) hb (Nat.lt_succ_self _))
    have HB1 := Lib.hid ((HB0.out.alloc HB0.out.size (.cells #[] 23)).trans (hb.mono (Nat.le_succ _)))
    clear ho hb hx HF
    obtain ⟨_, f1, f2, f3, f4⟩ := HF1.out
    go_wp2_with fail
    refine (covers_any r1 r2 r3 r4 xa n xcap l (by omega) _ HX.out).mono ?_
    rintro e w2 ⟨rfl, hB2⟩
    have HB2 := Lib.hid (Below.next HB1.out hB2)
    have HX2 := Lib.hid (HX.out.later hB2)
    have HF2 := Lib.hid (HF1.out.later hB2)
    clear hB2 f1 f2 f3 f4 HF1 HB1 HX
    obtain ⟨_, f1, f2, f3, f4⟩ := HF2.out
    go_wp2_with fail
    refine (scovers_any r1 r2 r3 r4 a n cap l (by omega) _ (HR.out.later HB2.out)).mono ?_
    rintro e w3 ⟨rfl, hB3⟩
    have HB3 := Lib.hid (Below.next HB2.out hB3)
    have HX3 := Lib.hid (HX2.out.later hB3)
    clear hB3 f1 f2 f3 f4 HF2 HB2 HX2
    go_wp2_with fail
    refine (eqrects_any xa a n xcap cap l (by omega) _ HX3.out (HR.out.later HB3.out)).mono ?_
    rintro e w4 ⟨rfl, hB4⟩
    have HB4 := Lib.hid (Below.next HB3.out hB4)
    clear hB4
    go_wp2_with fail
    go_ret
    exact ⟨rfl, HB4.out⟩
end Go.Proofs.YtelnffamkkkpaaaDoor
