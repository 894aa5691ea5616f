/- Merged: Lval MakV. -/
import Derived.Test.YtdhahiodnmmkeaaGreatDoorFuB
import Derived.Laws.MakeOwn
/- The values of the examples: some list of values whose texts are short. -/
namespace Go.Proofs.YtdhahiodnmmkeaaGreatDoor.Va
open Go Go.RowKit GM
set_option linter.unusedVariables false
set_option linter.unusedSimpArgs false
/-- A value whose text is short. -/
def okV (v : V3) : Prop := v.2.2.size ≤ 300 ∧ InI v.2.1
end Go.Proofs.YtdhahiodnmmkeaaGreatDoor.Va
/- Lists of blank values that make lays. -/
namespace Go.Proofs.YtdhahiodnmmkeaaGreatDoor.Va
open Go Go.RowKit GM
set_option linter.unusedVariables false
set_option linter.unusedSimpArgs false
theorem cap9 {B : Nat} {w : World} {a : Option Addr} {m cp : Nat} {M : List V3} (h : OwnV B w (.slice a m cp) M) : m ≤ cp := by
  rcases h.2 with ⟨h1, _⟩ | ⟨g, cap, cur, hv, _, _, hc, _⟩
  · injection h1 with h1 h2 h3; omega
  · injection hv with h1 h2 h3; omega
end Go.Proofs.YtdhahiodnmmkeaaGreatDoor.Va
