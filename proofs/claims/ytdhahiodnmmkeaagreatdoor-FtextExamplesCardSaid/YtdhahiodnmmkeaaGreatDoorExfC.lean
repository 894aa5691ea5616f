/- Steps of a drawn region's walk, the guard's part found by itself; slices that read as lists. -/
import Derived.Test.YtdhahiodnmmkeaaGreatDoorMgg
import Derived.Test.YtdhahiodnmmkeaaGreatDoorMgd
namespace Go.Proofs.YtdhahiodnmmkeaaGreatDoor.Va
open Go Go.RowKit GM
set_option linter.unusedVariables false
section
variable {P : Program} {ops : Array Oper} {Q : Exit → Act → World → Prop} {S : World → Prop} {A : (Nat → Value) → Act} {Rs : List Fact} {o : Oper} {l : List Oper}
theorem sqR (c : Value) (h : ∀ vs w, S w → DepA Rs vs w o.after.toList → (execOp (A vs).eval o).run P w = .ok (.value c) w) (hr : SeqI P ops S Q A l (Rs ++ [fun v _ => v = c]))
 (hw : ∀ vs w, DepA Rs vs w o.after.toList → Region.wanted o (yielded ops (A vs).tmps) = true := by (intro vs w hD; first | rfl | (simp at hD; simp [Region.wanted, yielded, hD]))) : SeqI P ops S Q A (o :: l) Rs := zce c hw h hr
theorem sqC {f : FuncId} (u : Value) (args : (Nat → Value) → Array Value) (h : ∀ vs w, S w → DepA Rs vs w o.after.toList → (execOp (A vs).eval o).run P w = .ok (.enter f (args vs)) w)
 (hc : ∀ vs w, S w → DepA Rs vs w o.after.toList → Calls P f (args vs) w fun e w' => (∃ v, e = .returned v ∧ v = u) ∧ Below w.heap.size w w') (hr : SeqI P ops S Q A l (Rs ++ [fun v _ => v = u]))
 (hw : ∀ vs w, DepA Rs vs w o.after.toList → Region.wanted o (yielded ops (A vs).tmps) = true := by (intro vs w hD; first | rfl | (simp at hD; simp [Region.wanted, yielded, hD]))) : SeqI P ops S Q A (o :: l) Rs := znf (fun v _ => v = u) (zgy u) args hw h hc hr
theorem sqO (L : List V3) (h : ∀ vs w, S w → DepA Rs vs w o.after.toList → OperR P o (A vs).eval w (fun v w' => SlW L v w' ∧ Below w.heap.size w w')) (hr : SeqI P ops S Q A l (Rs ++ [SlW L]))
 (hw : ∀ vs w, DepA Rs vs w o.after.toList → Region.wanted o (yielded ops (A vs).tmps) = true := by (intro vs w hD; first | rfl | (simp at hD; simp [Region.wanted, yielded, hD]))) : SeqI P ops S Q A (o :: l) Rs := zuo _ (zsa L) hw h hr
end
theorem retT {e : Ending} {w w' : World} {v : Value} (h : e = .returned v ∧ Below w.heap.size w w') : (∃ u, e = .returned u ∧ u = v) ∧ Below w.heap.size w w' := ⟨⟨_, h.1, rfl⟩, h.2⟩
end Go.Proofs.YtdhahiodnmmkeaaGreatDoor.Va
