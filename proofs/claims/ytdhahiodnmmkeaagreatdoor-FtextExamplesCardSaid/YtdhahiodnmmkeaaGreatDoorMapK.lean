/- Small maps with integer keys: what an insertion and a look-up do. -/
import Derived.Test.YtdhahiodnmmkeaaGreatDoorProg
import Derived.WalkKit
import Derived.WalkSpells
import Derived.RangeFuncBox
namespace Go.Proofs.YtdhahiodnmmkeaaGreatDoor
open Go Go.RowKit
section
variable {P : Program}
theorem znq {w : World} {r : Nat} {es : Array MapEntry} {k : Nat} (h : w.heap[r]? = some (.map es k)) : (getObj r).run P w = .ok (.map es k) w := by simp [getObj, Sem.run, h]
theorem zvl {w : World} {r : Nat} {es : Array MapEntry} {k : Nat} (h : w.heap[r]? = some (.map es k)) (o : Obj) : (setObj r o).run P w = .ok () (w.putObj r o) := by
 simp [setObj, Sem.run, h, World.putObj]
theorem zrd {kt : TypeId} {kd : IntKind} (hu : P.underlying kt = some (.int kd)) (b : Bool) (v : Value) (w : World) : (Instr.checkKey b 10000 kt v).run P w = .ok () w := by
 show (Instr.checkKey b (9999 + 1) kt v).run P w = _
 unfold Instr.checkKey
 rw [Sem.run_bind, run_underlying hu, Result.andThen_ok]
 rfl
theorem zvm {kt : TypeId} {kd : IntKind} (hu : P.underlying kt = some (.int kd)) {k : Value} {es : List MapEntry} {r : Option (Nat × Value)} (hf : Instr.findNow (.int kd) k es 0 = some r) (w : World) : (Instr.findKey kt k es).run P w = .ok r w := by
 unfold Instr.findKey
 rw [Sem.run_bind, run_underlying hu, Result.andThen_ok, hf]
 rfl
theorem za6 {t kt et : TypeId} {kd : IntKind} (hu : P.underlying t = some (.map kt et)) (hk : P.underlying kt = some (.int kd)) {q clock : Nat} {es : Array MapEntry} {w : World} (hh : w.heap[q]? = some (.map es clock)) (k : Int) (x : Value)
 (hf : Instr.findNow (.int kd) (.int kd k) es.toList 0 = some none) : (Instr.mapUpdate t (.map (some q)) (.int kd k) x).run P w = .ok () (w.putObj q (.map (es.push { key := .int kd k, val := x, born := clock }) (clock + 1))) := by
 unfold Instr.mapUpdate
 rw [Sem.run_bind, run_underlying hu]
 simp only [Result.andThen_ok]
 rw [Sem.run_bind, znq hh]
 simp only [Result.andThen_ok]
 rw [Sem.run_bind, zrd hk]
 simp only [Result.andThen_ok]
 rw [Sem.run_bind, zvm hk hf]
 simp only [Result.andThen_ok]
 exact zvl hh _
theorem za7 {t kt et : TypeId} {kd : IntKind} (hu : P.underlying t = some (.map kt et)) (hk : P.underlying kt = some (.int kd)) {q clock : Nat} {es : Array MapEntry} {w : World} (hh : w.heap[q]? = some (.map es clock)) (k : Int) {j : Nat} {u : Value}
 (hf : Instr.findNow (.int kd) (.int kd k) es.toList 0 = some (some (j, u))) : (Instr.lookup t (.map (some q)) (.int kd k) false).run P w = .ok u w := by
 unfold Instr.lookup
 rw [Sem.run_bind, run_underlying hu]
 simp only [Result.andThen_ok, Sem.run_bind]
 rw [znq hh]
 simp only [Result.andThen_ok, Sem.run_bind, Sem.run_pure]
 rw [zrd hk]
 simp only [Result.andThen_ok]
 rw [zvm hk hf]
 rfl
end
end Go.Proofs.YtdhahiodnmmkeaaGreatDoor
