/- The contract of the specification's Compare. -/
import Derived.Test.YtdhahiodnmmkeaaGreatDoorValC
import Derived.Test.YtdhahiodnmmkeaaGreatDoorMga
namespace Go.Proofs.YtdhahiodnmmkeaaGreatDoor.Va
open Go Go.RowKit GM
attribute [local simp] DepA isB rsAt
set_option maxRecDepth 100000 in
set_option maxHeartbeats 3200000 in
theorem zfe (k : Nat) (n : Int) (s : ByteArray) (hs : s.size ≤ maxLen) (hn64 : zau ≤ n) (w : World) :
 Calls Tryz.prog 43 #[.agg #[.int .u8 (k : Int), .int .i64 n, .string s]] w fun e w' => e = .returned (.int .i64 (vE k n s.data.toList)) ∧ Below w.heap.size w w' := by
 have HV : Hid (vE k n s.data.toList = if vldV k n s.data.toList = true then 0 else 2) := rfl
 have HCH := Lib.hid (fun w => zsh s hs w)
 unfold zau at hn64
 rcases zif s with rfl | ⟨he1, he2⟩
 · rw [show (⟨#[]⟩ : ByteArray).data.toList = [] from rfl] at *
   have hck : chk [] = 0 := rfl
   by_cases h0 : k = 0
   · subst h0
     by_cases hn : n = 0
     · subst hn
       have HR : Hid (vE 0 0 [] = 0) := by unfold Hid vE; rw [show vldV 0 0 [] = true from by unfold vldV; rfl]; rfl
       go_enter Tryz.func43, Tryz.ntmps43
       go_wp2_with fail
       go_ret
       exact ⟨retE (by rw [HR.out]), zaa _ _⟩
     · skip
       have HR : Hid (vE 0 n [] = 2) := by unfold Hid vE; rw [show vldV 0 n [] = false from by unfold vldV; simp [hn]]; rfl
       go_enter Tryz.func43, Tryz.ntmps43
       go_wp2_with fail
       go_ret
       exact ⟨retE (by rw [HR.out]), zaa _ _⟩
   by_cases h1 : k = 1
   · subst h1
     by_cases hn : n = -9223372036854775808
     · subst hn
       have HR : Hid (vE 1 (-9223372036854775808) [] = 2) := by unfold Hid vE; rw [show vldV 1 (-9223372036854775808) [] = false from by unfold vldV; rfl]; rfl
       go_enter Tryz.func43, Tryz.ntmps43
       go_wp2_with fail
       go_ret
       exact ⟨retE (by rw [HR.out]), zaa _ _⟩
     · have hn2 : (n != -9223372036854775808) = true := by simpa using hn
       have hn3 : -9223372036854775807 ≤ n := by omega
       have HR : Hid (vE 1 n [] = 0) := by unfold Hid vE; rw [show vldV 1 n [] = true from by unfold vldV; simp [zau, hn]]; rfl
       go_enter Tryz.func43, Tryz.ntmps43
       go_wp2_with fail
       go_ret
       exact ⟨retE (by rw [HR.out]), zaa _ _⟩
   by_cases h2 : k = 2
   · subst h2
     by_cases hn : n = 0
     · subst hn
       have HR : Hid (vE 2 0 [] = 0) := by unfold Hid vE; rw [show vldV 2 0 [] = true from by unfold vldV; rfl]; rfl
       go_enter Tryz.func43, Tryz.ntmps43
       go_wp2_with fail
       go_ret
       exact ⟨retE (by rw [HR.out]), zaa _ _⟩
     by_cases hn1 : n = 1
     · subst hn1
       have HR : Hid (vE 2 1 [] = 0) := by unfold Hid vE; rw [show vldV 2 1 [] = true from by unfold vldV; rfl]; rfl
       go_enter Tryz.func43, Tryz.ntmps43
       go_wp2_with fail
       go_ret
       exact ⟨retE (by rw [HR.out]), zaa _ _⟩
     have HR : Hid (vE 2 n [] = 2) := by unfold Hid vE; rw [show vldV 2 n [] = false from by unfold vldV; simp [hn, hn1]]; rfl
     go_enter Tryz.func43, Tryz.ntmps43
     go_wp2_with fail
     go_ret
     exact ⟨retE (by rw [HR.out]), zaa _ _⟩
   by_cases h3 : k = 3
   · subst h3
     by_cases hn : n = 0
     · subst hn
       rw [hck] at HCH
       have HR : Hid (vE 3 0 [] = 0) := by unfold Hid vE; rw [show vldV 3 0 [] = true from by unfold vldV; simp [hck]]; rfl
       go_enter Tryz.func43, Tryz.ntmps43
       go_wp2_with fail
       refine (HCH.out _).mono ?_
       rintro e w1 ⟨rfl, rfl⟩
       go_wp2_with fail
       go_ret
       exact ⟨retE (by rw [HR.out]), zaa _ _⟩
     have HR : Hid (vE 3 n [] = 2) := by unfold Hid vE; rw [show vldV 3 n [] = false from by unfold vldV; simp [hn]]; rfl
     go_enter Tryz.func43, Tryz.ntmps43
     go_wp2_with fail
     go_ret
     exact ⟨retE (by rw [HR.out]), zaa _ _⟩
   by_cases h4 : k = 4
   · subst h4
     by_cases hn : 1 ≤ n
     · by_cases hn6 : n ≤ 6
       · skip
         have HR : Hid (vE 4 n [] = 0) := by unfold Hid vE; rw [show vldV 4 n [] = true from by unfold vldV; simp [hn, hn6]]; rfl
         go_enter Tryz.func43, Tryz.ntmps43
         go_wp2_with fail
         go_ret
         exact ⟨retE (by rw [HR.out]), zaa _ _⟩
       · have hn7 : 6 < n := by omega
         have HR : Hid (vE 4 n [] = 2) := by unfold Hid vE; rw [show vldV 4 n [] = false from by unfold vldV; simp [hn6]]; rfl
         go_enter Tryz.func43, Tryz.ntmps43
         go_wp2_with fail
         go_ret
         exact ⟨retE (by rw [HR.out]), zaa _ _⟩
     · have hn7 : n < 1 := by omega
       have HR : Hid (vE 4 n [] = 2) := by unfold Hid vE; rw [show vldV 4 n [] = false from by unfold vldV; simp [hn]]; rfl
       go_enter Tryz.func43, Tryz.ntmps43
       go_wp2_with fail
       go_ret
       exact ⟨retE (by rw [HR.out]), zaa _ _⟩
   have HR : Hid (vE k n [] = 2) := by unfold Hid vE; rw [show vldV k n [] = false from by unfold vldV; simp [h0, h1, h2, h3, h4]]; rfl
   go_enter Tryz.func43, Tryz.ntmps43
   go_wp2_with fail
   go_ret
   exact ⟨retE (by rw [HR.out]), zaa _ _⟩
 · skip
   by_cases h0 : k = 0
   · subst h0
     by_cases hn : n = 0
     · subst hn
       have HR : Hid (vE 0 0 s.data.toList = 2) := by unfold Hid vE; rw [show vldV 0 0 s.data.toList = false from by unfold vldV; simp [he1]]; rfl
       go_enter Tryz.func43, Tryz.ntmps43
       go_wp2_with fail
       go_ret
       exact ⟨retE (by rw [HR.out]), zaa _ _⟩
     · skip
       have HR : Hid (vE 0 n s.data.toList = 2) := by unfold Hid vE; rw [show vldV 0 n s.data.toList = false from by unfold vldV; simp [he1]]; rfl
       go_enter Tryz.func43, Tryz.ntmps43
       go_wp2_with fail
       go_ret
       exact ⟨retE (by rw [HR.out]), zaa _ _⟩
   by_cases h1 : k = 1
   · subst h1
     by_cases hn : n = -9223372036854775808
     · subst hn
       have HR : Hid (vE 1 (-9223372036854775808) s.data.toList = 2) := by unfold Hid vE; rw [show vldV 1 (-9223372036854775808) s.data.toList = false from by unfold vldV; simp [he1]]; rfl
       go_enter Tryz.func43, Tryz.ntmps43
       go_wp2_with fail
       go_ret
       exact ⟨retE (by rw [HR.out]), zaa _ _⟩
     · have hn2 : (n != -9223372036854775808) = true := by simpa using hn
       have hn3 : -9223372036854775807 ≤ n := by omega
       have HR : Hid (vE 1 n s.data.toList = 2) := by unfold Hid vE; rw [show vldV 1 n s.data.toList = false from by unfold vldV; simp [he1]]; rfl
       go_enter Tryz.func43, Tryz.ntmps43
       go_wp2_with fail
       go_ret
       exact ⟨retE (by rw [HR.out]), zaa _ _⟩
   by_cases h2 : k = 2
   · subst h2
     by_cases hn : n = 0
     · subst hn
       have HR : Hid (vE 2 0 s.data.toList = 2) := by unfold Hid vE; rw [show vldV 2 0 s.data.toList = false from by unfold vldV; simp [he1]]; rfl
       go_enter Tryz.func43, Tryz.ntmps43
       go_wp2_with fail
       go_ret
       exact ⟨retE (by rw [HR.out]), zaa _ _⟩
     by_cases hn1 : n = 1
     · subst hn1
       have HR : Hid (vE 2 1 s.data.toList = 2) := by unfold Hid vE; rw [show vldV 2 1 s.data.toList = false from by unfold vldV; simp [he1]]; rfl
       go_enter Tryz.func43, Tryz.ntmps43
       go_wp2_with fail
       go_ret
       exact ⟨retE (by rw [HR.out]), zaa _ _⟩
     have HR : Hid (vE 2 n s.data.toList = 2) := by unfold Hid vE; rw [show vldV 2 n s.data.toList = false from by unfold vldV; simp [hn, hn1]]; rfl
     go_enter Tryz.func43, Tryz.ntmps43
     go_wp2_with fail
     go_ret
     exact ⟨retE (by rw [HR.out]), zaa _ _⟩
   by_cases h3 : k = 3
   · subst h3
     by_cases hn : n = 0
     · subst hn
       by_cases hc : chk s.data.toList = 0
       · rw [hc] at HCH
         have HR : Hid (vE 3 0 s.data.toList = 0) := by unfold Hid vE; rw [show vldV 3 0 s.data.toList = true from by unfold vldV; simp [hc]]; rfl
         go_enter Tryz.func43, Tryz.ntmps43
         go_wp2_with fail
         refine (HCH.out _).mono ?_
         rintro e w1 ⟨rfl, rfl⟩
         go_wp2_with fail
         go_ret
         exact ⟨retE (by rw [HR.out]), zaa _ _⟩
       · have hc2 : (chk s.data.toList == 0) = false := by simpa using hc
         have HR : Hid (vE 3 0 s.data.toList = 2) := by unfold Hid vE; rw [show vldV 3 0 s.data.toList = false from by unfold vldV; simp [hc]]; rfl
         go_enter Tryz.func43, Tryz.ntmps43
         go_wp2_with fail
         refine (HCH.out _).mono ?_
         rintro e w1 ⟨rfl, rfl⟩
         go_wp2_with fail
         go_ret
         exact ⟨retE (by rw [HR.out]), zaa _ _⟩
     have HR : Hid (vE 3 n s.data.toList = 2) := by unfold Hid vE; rw [show vldV 3 n s.data.toList = false from by unfold vldV; simp [hn]]; rfl
     go_enter Tryz.func43, Tryz.ntmps43
     go_wp2_with fail
     go_ret
     exact ⟨retE (by rw [HR.out]), zaa _ _⟩
   by_cases h4 : k = 4
   · subst h4
     by_cases hn : 1 ≤ n
     · by_cases hn6 : n ≤ 6
       · skip
         have HR : Hid (vE 4 n s.data.toList = 2) := by unfold Hid vE; rw [show vldV 4 n s.data.toList = false from by unfold vldV; simp [he1]]; rfl
         go_enter Tryz.func43, Tryz.ntmps43
         go_wp2_with fail
         go_ret
         exact ⟨retE (by rw [HR.out]), zaa _ _⟩
       · have hn7 : 6 < n := by omega
         have HR : Hid (vE 4 n s.data.toList = 2) := by unfold Hid vE; rw [show vldV 4 n s.data.toList = false from by unfold vldV; simp [hn6]]; rfl
         go_enter Tryz.func43, Tryz.ntmps43
         go_wp2_with fail
         go_ret
         exact ⟨retE (by rw [HR.out]), zaa _ _⟩
     · have hn7 : n < 1 := by omega
       have HR : Hid (vE 4 n s.data.toList = 2) := by unfold Hid vE; rw [show vldV 4 n s.data.toList = false from by unfold vldV; simp [hn]]; rfl
       go_enter Tryz.func43, Tryz.ntmps43
       go_wp2_with fail
       go_ret
       exact ⟨retE (by rw [HR.out]), zaa _ _⟩
   have HR : Hid (vE k n s.data.toList = 2) := by unfold Hid vE; rw [show vldV k n s.data.toList = false from by unfold vldV; simp [h0, h1, h2, h3, h4]]; rfl
   go_enter Tryz.func43, Tryz.ntmps43
   go_wp2_with fail
   go_ret
   exact ⟨retE (by rw [HR.out]), zaa _ _⟩
end Go.Proofs.YtdhahiodnmmkeaaGreatDoor.Va
