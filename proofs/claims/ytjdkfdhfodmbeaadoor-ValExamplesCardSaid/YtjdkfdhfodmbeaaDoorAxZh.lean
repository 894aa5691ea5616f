/- An executor of closed runs: drawn regions (12): whatever order is drawn. -/
import Derived.Test.YtjdkfdhfodmbeaaDoorAxZg
namespace Go.Proofs.YtjdkfdhfodmbeaaDoor.Ax
open Go
variable {P : Program} {G : Nat}

theorem Sat.draw {hp : Hp} {ρ : Rho} {w : World} (h : Sat P G hp ρ w) (k : Nat) : Sat P G hp ρ { w with drawn := k } :=
  ⟨fun n o hn => let ⟨h1, h2, h3⟩ := h.vis n o hn; ⟨h1, h2, h3.mono h1 (.refl ρ) rfl⟩, h.inj, h.lt, h.lim, h.glob⟩

theorem Post.draw {hp hp' : Hp} {ρ ρ' : Rho} {w w' : World} {k : Nat} (h : Post P G hp hp' ρ ρ' { w with drawn := k } w') : Post P G hp hp' ρ ρ' w w' :=
  ⟨h.sat, h.ext, h.new, h.all, h.was, h.next, h.hid, h.limE, h.hidget, h.keep, h.wr, h.wrlt, h.size, h.frame, h.fresh, h.os, h.tape, h.output⟩

/-- The places of a plan. -/
theorem plan_reg {run : Run} {ops : Array Oper} {l : List Step} {sz : Nat} {tm tm2 : T Value} {hp hp2 : Hp} {ms wr : T Nat} (pl : PlanOk P G ops.toList l ms wr) (ch : Chain (oper P run) sz l [] [] tm hp tm2 hp2)
    (hbig : ∀ t, sz ≤ t → evA tm (.tmp t) = undef) :
    ∃ n J O X, Reg P G run ops sz n ms J O X ∧ (X 0).tm = tm ∧ (X 0).hp = hp ∧ (X n).tm = tm2 ∧ (X n).hp = hp2 := by
  have hback := pl.back
  have ord := order_ok hback (number ops.toList 0) 0
  rw [← pl.mask] at ord
  have hl := pl.steps
  generalize orderFrom (number ops.toList 0) ms (number ops.toList 0) 0 = L at ord hl
  obtain ⟨X, x1, x2, x3, x4, x5, x6, x7⟩ := chain_ents ch
  have hlen : l.length = L.length := by rw [hl]; simp
  have at_ : ∀ p (hp : p < L.length), L[p]? = some L[p] := fun p hp => by simp
  let J : Nat → Nat := fun p => (L.getD p default).1
  let O : Nat → Oper := fun p => (L.getD p default).2
  have hJ : ∀ p (hp : p < L.length), L.getD p default = L[p] := fun p hp => by simp [List.getD, at_ p hp]
  have zero : ∀ i, bit 0 i = false := fun i => by rw [bit_eq]; simp
  have op : ∀ p, p < L.length → ops[J p]? = some (O p) := by
    intro p hp
    have := (ord.mem L[p] (List.getElem_mem hp)).1
    show ops[(L.getD p default).1]? = some (L.getD p default).2
    rw [hJ p hp]
    simpa using this
  have opl : ∀ p, p < L.length → ops.toList[J p]? = some (O p) := fun p hp => by simpa using op p hp
  have inj : ∀ p r, p < L.length → r < L.length → J p = J r → p = r := by
    intro p r hp hr e
    have e' : L[p].1 = L[r].1 := by
      have : (L.getD p default).1 = (L.getD r default).1 := e
      rwa [hJ p hp, hJ r hr] at this
    have hpw := List.pairwise_iff_getElem.1 ord.nodup
    rcases Nat.lt_trichotomy p r with h | h | h
    · exact absurd e' (hpw p r hp hr h)
    · exact h
    · exact absurd e'.symm (hpw r p hr hp h)
  have surj : ∀ i, i < ops.size → ∃ p, p < L.length ∧ J p = i := by
    intro i hi
    rcases ord.all i (by simpa using hi) with h | ⟨y, hy, e⟩
    · rw [zero] at h; cases h
    · obtain ⟨p, hp, rfl⟩ := List.mem_iff_getElem.1 hy
      exact ⟨p, hp, by show (L.getD p default).1 = i; rw [hJ p hp]; exact e⟩
  have sizeOf_ : ∀ p, p < L.length → J p < ops.size := fun p hp => (Array.getElem?_eq_some_iff.1 (op p hp)).1
  have bef : ∀ p r, p < L.length → r < L.length → bit (natAt ms (J p)) (J r) = true → r < p := by
    intro p r hp hr hb
    have hsplit : L = L.take p ++ L[p] :: L.drop (p + 1) := by
      rw [List.getElem_cons_drop hp, List.take_append_drop]
    have hb' : bit (natAt (masksN ops.toList 0 .leaf) L[p].1) (J r) = true := by
      rw [← pl.mask]
      have : L[p].1 = J p := by show _ = (L.getD p default).1; rw [hJ p hp]
      rw [this]; exact hb
    rcases ord.bef _ _ _ hsplit _ hb' with h | ⟨y, hy, e⟩
    · rw [zero] at h; cases h
    · obtain ⟨s, hs, rfl⟩ := List.mem_iff_getElem.1 hy
      have hs' : s < p ∧ s < L.length := by
        have : s < (L.take p).length := hs
        rw [List.length_take] at this; omega
      rw [List.getElem_take] at e
      have : J s = J r := by show (L.getD s default).1 = _; rw [hJ s hs'.2]; exact e
      rw [← inj s r hs'.2 hr this]
      exact hs'.1
  refine ⟨L.length, J, O, X, ⟨op, inj, surj, bef, fun p r t hp hr ht hd => ?_, fun p r t hp hr h1 h2 => ?_, fun p g want hp hg => ?_, fun p hp => ?_, x3, x4, fun t ht => by rw [x1]; exact hbig t ht⟩, x1, x2, by rw [← hlen]; exact x5, by rw [← hlen]; exact x6⟩
  · obtain ⟨h1, h2⟩ := pl.named (opl p hp) ht (opl r hr) hd
    exact ⟨fun e => h1 (by rw [e]), h2⟩
  · refine inj p r hp hr ?_
    have e1 := pl.writes _ _ _ (opl p hp) h1
    have e2 := pl.writes _ _ _ (opl r hr) h2
    rw [e1] at e2
    exact Option.some.inj e2
  · obtain ⟨h1, h2⟩ := pl.guarded (opl p hp) hg
    have := sizeOf_ p hp
    obtain ⟨r, hr, e⟩ := surj g (by omega)
    exact ⟨r, hr, e, by rw [e]; exact h2⟩
  · refine x7 p _ ?_
    rw [hl, List.getElem?_map, at_ p hp]
    show some (stepOf P G ops.toList ms L[p]) = some (stepOf P G ops.toList ms (L.getD p default))
    rw [hJ p hp]

theorem getD_listed {listed : Array Bool} {i j : Nat} (hi : i < listed.size) : (listed.setIfInBounds i true).getD j false = true ↔ (listed.getD j false = true ∨ j = i) := by
  simp only [Array.getD_eq_getD_getElem?, Array.getElem?_setIfInBounds]
  by_cases e : i = j
  · subst e; simp [hi]
  · rw [if_neg e]
    constructor
    · exact .inl
    · rintro (h | h)
      · exact h
      · exact absurd h.symm e

/-- **A drawn region's answer, whatever order is drawn.** -/
theorem regOk (hm : P.follows .mixedOrders = true) : RegOk P G := by
  intro run ops l S dfs K tm hp v hp' hrun hplan hx ρ w b a cs id k' c hf
  obtain ⟨ms, wr, pl⟩ := mkPlan_ok hplan
  obtain ⟨tm2, hp2, ch, hK⟩ := xdraw_chain l [] [] tm hp (fun x hx => by
    rw [pl.steps] at hx
    obtain ⟨y, _, rfl⟩ := List.mem_map.1 hx
    exact step_fine ..) hx
  have hbig : ∀ t, S.sz ≤ t → evA tm (.tmp t) = undef := by
    intro t ht
    have h := hf.tm.2 t
    rw [getD_big (by rw [hf.tm.1]; exact ht)] at h
    generalize evA tm (.tmp t) = u at h
    generalize hz : undef = z at h
    cases h <;> first
      | (cases hz; done)
      | (rename_i l l' hl; cases hz; cases hl; rfl)
  obtain ⟨n, J, O, X, R, e1, e2, e3, e4⟩ := plan_reg pl ch hbig
  subst e1 e2 e3 e4
  let w0 : World := { w with drawn := w.drawn + 1 }
  have c0 : CtxA P G (X 0).hp ρ w0 := ⟨c.sat.draw _, c.fresh⟩
  obtain ⟨hF, _⟩ := R.ghost hrun c0 hf.tm b n (Nat.le_refl _)
  have hback := pl.back
  have hlt : ∀ p, p < n → J p < ops.size := fun p hp => (Array.getElem?_eq_some_iff.1 (R.op p hp)).1
  let Dof : Array Bool → Nat → Prop := fun listed p => p < n ∧ listed.getD (J p) false = true
  have h0 : Dof (Array.replicate ops.size false) = fun _ => False := by
    funext p
    refine propext ⟨fun h => ?_, False.elim⟩
    have := h.2
    simp only [Array.getD_eq_getD_getElem?, Array.getElem?_replicate] at this
    split at this <;> cases this
  obtain ⟨listed, a1, w1, hst, ⟨hsz, hcl, ρD, I⟩, hend⟩ := region_walk (P := P) (b := b) (a := a) (cs := cs) (k' := k') (w := w) (id := id) (ops := ops) hm
    (I := fun listed a' w' => listed.size = ops.size ∧ Closed ops listed ∧ ∃ ρD, Inv P S.sz O X ρ w0 a.defers (Dof listed) ρD a' w')
    ⟨by simp, (fun j i hj => by
        simp only [Array.getD_eq_getD_getElem?, Array.getElem?_replicate] at hj
        split at hj <;> (cases hj)), ρ, by rw [h0]; exact Inv.head c0 hf.tm⟩
    (fun listed a' w' i rest ⟨hsz, hcl, ρD, I⟩ hi => by
      obtain ⟨hi1, hi2, _⟩ := mem_ready' hi
      obtain ⟨p, hp, rfl⟩ := R.surj i hi1
      have rd : Ready n ms J (Dof listed) p := by
        refine ⟨hp, fun r h => h.1, fun h => ?_, fun r hr hb => ⟨hr, ?_⟩, fun r s hr hs hb => ⟨hs, ?_⟩⟩
        · have h2 := h.2
          have : listed[J p]? = some listed[J p] := by simp [hsz, hi1]
          simp only [Array.getD_eq_getD_getElem?, this] at hi2 h2
          rw [show (some listed[J p]).getD true = listed[J p] from rfl] at hi2
          rw [show (some listed[J p]).getD false = listed[J p] from rfl] at h2
          rw [hi2] at h2; cases h2
        · rw [pl.mask] at hb; exact ready_before hback hcl hi _ hb
        · rw [pl.mask] at hb; exact hcl _ _ hr.2 hb
      obtain ⟨_, ρ1, a1, w1, g1, g2⟩ := I.step hrun R rd (fun s hs => hF s (by omega)) (fun s hs => hF s hs.1) c0 (b := b) (cs := cs) (k' := k') (rest := rest)
      refine ⟨a1, w1, g2, by simpa using hsz, closed_set hback hcl hi, ρ1, ?_⟩
      have : Dof (listed.setIfInBounds (J p) true) = fun s => Dof listed s ∨ s = p := by
        funext s
        refine propext ⟨fun ⟨h1, h2⟩ => ?_, fun h => ?_⟩
        · rcases (getD_listed (by rw [hsz]; exact hi1)).1 h2 with h3 | h3
          · exact .inl ⟨h1, h3⟩
          · exact .inr (R.inj s p h1 hp h3)
        · rcases h with ⟨h1, h2⟩ | rfl
          · exact ⟨h1, (getD_listed (by rw [hsz]; exact hi1)).2 (.inl h2)⟩
          · exact ⟨hp, (getD_listed (by rw [hsz]; exact hi1)).2 (.inr rfl)⟩
      rw [this]; exact g1)
  have hall := all_listed hsz (fun i o ho => hback i o (by simpa using ho)) hend
  have hD : Dof listed = fun s => s < n := by
    funext s
    exact propext ⟨fun h => h.1, fun h => ⟨h, hall _ (hlt s h)⟩⟩
  rw [hD] at I
  have hpost := (R.post hF c0 I).draw
  have hfs := hf.mono hpost.ext
  exact ⟨_, _, ρD, w1, a1, hK, hpost, ⟨hfs.fn, hfs.kind, hfs.ro, hfs.rook, R.tmps I, by rw [I.df]; exact hfs.defers, hfs.dok, hfs.res⟩, hst⟩
end Go.Proofs.YtjdkfdhfodmbeaaDoor.Ax
