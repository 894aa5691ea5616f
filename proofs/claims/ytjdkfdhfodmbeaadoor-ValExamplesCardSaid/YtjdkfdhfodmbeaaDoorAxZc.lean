/- An executor of closed runs: drawn regions (7): entering one; renamings cut at a number. -/
import Derived.Test.YtjdkfdhfodmbeaaDoorAxZb
namespace Go.Proofs.YtjdkfdhfodmbeaaDoor.Ax
open Go
variable {P : Program} {G : Nat}

def Rho.cut (ρ : Rho) (m : Nat) : Rho := { ρ with ok := fun n => ρ.ok n ∧ n < m }
theorem Rho.cut_le (ρ : Rho) (m : Nat) : (ρ.cut m).Le ρ := ⟨fun _ h => h.1, fun _ _ => rfl, fun _ _ => rfl, fun _ _ => rfl, fun _ _ => rfl⟩
theorem Rho.cut_mono {ρ ρ' : Rho} (h : ρ.Le ρ') {m m' : Nat} (hm : m ≤ m') : (ρ.cut m).Le (ρ'.cut m') :=
  ⟨fun n x => ⟨h.ok n x.1, Nat.lt_of_lt_of_le x.2 hm⟩, fun n x => h.blk n x.1, fun n x => h.sh n x.1, fun n x => h.esz n x.1, fun n x => h.clen n x.1⟩

/-- A drawn region is entered, and left, by whatever schedule: what holds at its head holds, for some set of operations done, until nothing is ready. -/
theorem region_walk (hm : P.follows .mixedOrders = true) {ops : Array Oper} {b : Frame} {a : Act} {cs : List Frame} {k' : List Item} {w : World} {id : Nat} {I : Array Bool → Act → World → Prop}
    (hI : I (Array.replicate ops.size false) a { w with drawn := w.drawn + 1 })
    (hstep : ∀ listed a w i rest, I listed a w → i ∈ Region.ready .any ops listed →
      ∃ a1 w1, Steps P (lone (b.atR a (.inRegion ops (i :: rest) :: k')) cs w) (lone (b.atR a1 (.inRegion ops rest :: k')) cs w1) ∧ I (listed.setIfInBounds i true) a1 w1) :
    ∃ listed1 a1 w1, Steps P (lone (b.atR a (.code (.region id ops true) :: k')) cs w) (lone (b.atR a1 k') cs w1) ∧ I listed1 a1 w1 ∧ Region.ready .any ops listed1 = [] := by
  have h0 := stepR_region_draw (P := P) (b := b) (a := a) (k := k') (cs := cs) (w := w) (ops := ops) (id := id)
  have hsch : ∀ t, Region.schedule (P.follows .mixedOrders) ops t = Region.linearise .any ops t := fun t => by simp only [Region.schedule, hm, Bool.true_or, if_true]
  rw [hsch] at h0
  have hn : todoN ops (Array.replicate ops.size false) ≤ ops.size := by
    unfold todoN
    refine Nat.le_trans (List.countP_le_length) ?_
    simp
  obtain ⟨l1, a1, w1, s1, g1, g2⟩ := sched_walk (P := P) hstep ops.size (w.tape w.drawn (.order b.fn id)) _ a _ hI hn
  exact ⟨l1, a1, w1, .head h0 s1, g1, g2⟩
end Go.Proofs.YtjdkfdhfodmbeaaDoor.Ax
