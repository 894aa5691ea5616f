/- AddrReads: Parse and Column return what the specification returns. -/
import Derived.Test.YtgedckloooilfaaDoorAddrC
import Derived.Test.YtgedckloooilfaaDoorAddrRefC
import Derived.Test.YtgedckloooilfaaDoorAddrTwo
namespace Go.Proofs.YtgedckloooilfaaDoor
open Go.RowKit AM
set_option maxRecDepth 100000 in
set_option maxHeartbeats 1600000 in
theorem addrReads_any (s : ByteArray) (w : World) (hl : s.size ≤ maxLen) :
    Calls Tryd.prog 6 #[.string s] w fun e w' => e = .returned (.bool true) ∧ Below w.heap.size w w' := by
  unfold maxLen at hl
  rcases Nat.lt_or_ge 2000 s.size with h | h
  · go_enter Tryd.func6, Tryd.ntmps6
    go_wp2_with fail
    refine (knownA_any _).mono ?_
    rintro e w1 ⟨rfl, hB⟩
    go_wp2_with fail
    go_ret
    exact ⟨rfl, hB⟩
  · go_enter Tryd.func6, Tryd.ntmps6
    go_wp2_with fail
    refine (parse_any s h _).mono ?_
    rintro e w1 ⟨rfl, hB1⟩
    go_wp2_with fail
    refine (rparse_any s h _).mono ?_
    rintro e w2 ⟨rfl, hB2⟩
    have hR := RefTwo.start (t := 39) (t' := 39) (c := (PZ s.data.toList).1) (d := (PZ s.data.toList).2.1) hB1 hB2
    have hzz : w.heap.size ≤ (w2.alloc (.cells #[.int .i64 (PZ s.data.toList).1, .int .i64 (PZ s.data.toList).2.1] 39)).heap.size := hR.2.2.1.size
    have HR := Lib.hid hR
    have HZZ := Lib.hid hzz
    clear hR hzz
    generalize (PZ s.data.toList).1 = x1 at *
    generalize (PZ s.data.toList).2.1 = x2 at *
    generalize (PZ s.data.toList).2.2 = x3 at *
    go_wp2_with fail
    refine (column_any s h _).mono ?_
    rintro e w3 ⟨rfl, hB3⟩
    have hR3 := HR.out.later HZZ.out hB3
    obtain ⟨_, _, hb3, c1, c2, c3, c4⟩ := hR3
    go_wp2_with fail
    refine (rcolumn_any s h _).mono ?_
    rintro e w4 ⟨rfl, rfl⟩
    go_wp2_with fail
    go_ret
    exact ⟨rfl, hb3⟩
end Go.Proofs.YtgedckloooilfaaDoor
