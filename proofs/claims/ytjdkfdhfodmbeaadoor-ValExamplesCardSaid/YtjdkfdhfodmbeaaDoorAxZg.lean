/- An executor of closed runs: drawn regions (11): a region, walked in whatever order. -/
import Derived.Test.YtjdkfdhfodmbeaaDoorAxZf
namespace Go.Proofs.YtjdkfdhfodmbeaaDoor.Ax
open Go
variable {P : Program} {G : Nat}

section
variable {run : Run} {ops : Array Oper} {sz n : Nat} {ms : T Nat} {J : Nat → Nat} {O : Nat → Oper} {X : Nat → Ent}
variable {ρ : Rho} {w0 : World} {df : List Deferred} {D : Nat → Prop} {ρD : Rho} {a : Act} {w : World}

theorem hp_no {hp : Hp} {m : Nat} : hp.no m = false ↔ (hidden hp.hid m = false ∨ hp.lim ≤ m) := by
  unfold Hp.no
  cases h : Nat.ble hp.lim m with
  | true =>
    have := Nat.le_of_ble_eq_true h
    simp [this]
  | false =>
    have : ¬ hp.lim ≤ m := fun h' => by rw [Nat.ble_eq_true_of_le h'] at h; cases h
    simp [this]

/-- The view of an operation that is ready. -/
theorem Inv.ctx (R : Reg P G run ops sz n ms J O X) {p : Nat} (rd : Ready n ms J D p) (I : Inv P sz O X ρ w0 df D ρD a w) (hd : (X p).dn = true) (hF : ∀ s, s < p → Facts ms J X s) (c : CtxA P G (X 0).hp ρ w0) :
    CtxA P G ⟨(X p).hp.h, (X p).hp.next, hdOf ms J X p, [], (X p).hp.next⟩ (ρD.cut (nx X p)) w := by
  have hpn := rd.lt
  have hlt : ∀ {m o}, (X p).hp.h.get m = some o → m < nx X p := fun h => R.lt (fun m o h => c.sat.lt m o h) (by omega) hF h
  have hvis : ∀ m o, Hp.vis ⟨(X p).hp.h, (X p).hp.next, hdOf ms J X p, [], (X p).hp.next⟩ m = some o → hidden (X 0).hp.hid m = false ∧ ∃ N, N ≤ nx X p ∧ Mem X D m o N := by
    intro m o h
    obtain ⟨h1, h2⟩ := Hp.vis_some h
    replace h2 : (X p).hp.h.get m = some o := h2
    have hm := hlt h2
    rw [hp_no] at h1
    rcases h1 with h1 | h1
    · exact R.view rd hF hd hm h1 h2
    · exact absurd hm (Nat.not_lt.2 h1)
  refine ⟨⟨fun m o h => ?_, fun m m' o o' h h' e => ?_, fun m o h => hlt h, Nat.le_refl _, fun g hg => ?_⟩, fun m hm h => absurd h.2 (Nat.not_lt.2 hm)⟩
  · obtain ⟨h1, N, h2, h3⟩ := hvis m o h
    obtain ⟨k1, k2, k3, k4⟩ := I.mem m o N (.inl h1) h3
    exact ⟨⟨k1, by omega⟩, k2, k4.mono ⟨k1, k3⟩ (Rho.cut_mono (.refl _) h2) rfl⟩
  · obtain ⟨h1, N, h2, h3⟩ := hvis m o h
    obtain ⟨h1', N', h2', h3'⟩ := hvis m' o' h'
    exact I.inj m m' o o' N N' (.inl h1) (.inl h1') h3 h3' e
  · obtain ⟨h1, h2, h3⟩ := c.sat.glob g hg
    have : g < nx X 0 := by
      by_cases h : g < nx X 0
      · exact h
      · exact absurd h1 (c.fresh g (by unfold nx at h; omega))
    have := R.mono (p := 0) (r := p) (by omega) (by omega)
    exact ⟨⟨I.le.ok g h1, by omega⟩, by show ρD.blk g = g; rw [I.le.blk g h1]; exact h2, by show ρD.sh g = 0; rw [I.le.sh g h1]; exact h3⟩

theorem ctx_lt (c : CtxA P G (X 0).hp ρ w0) : ∀ m, ρ.ok m → m < nx X 0 := fun m h => by
  by_cases h' : m < nx X 0
  · exact h'
  · exact absurd h (c.fresh m (by unfold nx at h'; omega))

/-- An operation that is ready is carried out. -/
theorem Inv.step (hrun : RunOk P G run) (R : Reg P G run ops sz n ms J O X) {p : Nat} (rd : Ready n ms J D p) (I : Inv P sz O X ρ w0 df D ρD a w) (hF : ∀ s, s < p → Facts ms J X s) (hFD : ∀ s, D s → Facts ms J X s)
    (c : CtxA P G (X 0).hp ρ w0) {b : Frame} {cs : List Frame} {k' : List Item} {rest : List Nat} :
    Facts ms J X p ∧ ∃ ρ1 a1 w1, Inv P sz O X ρ w0 df (fun s => D s ∨ s = p) ρ1 a1 w1 ∧
      Steps P (lone (b.atR a (.inRegion ops (J p :: rest) :: k')) cs w) (lone (b.atR a1 (.inRegion ops rest :: k')) cs w1) := by
  have hpn := rd.lt
  have ho := R.op p hpn
  have hguard : ∀ j want d, (O p).guard = some (j, want) → (ops[j]?).bind (·.dst) = some d → VR (ρD.cut (nx X p)) (evA (X p).tm (.tmp d)) (a.tmps.getD d undef) := by
    intro j want d h1 h2
    obtain ⟨r, hr, rfl, hb⟩ := R.guard p j want hpn h1
    rw [R.op r hr] at h2
    refine Inv.tmp R rd I fun s hs hst => ?_
    have : s = r := R.uniq s r d hs hr hst h2
    subst this
    have := R.bef p s hpn hs hb
    exact ⟨by omega, .inl hb⟩
  cases hd : (X p).dn with
  | false =>
    have g := R.skip hpn hd
    refine ⟨fun h => (by rw [hd] at h; cases h), ρD, _, w, I.skip R rd hd, ?_⟩
    obtain ⟨f, hw, hf⟩ := g.want
    rcases want_ask' hw hguard with ⟨_, h2⟩ | ⟨h1, _⟩
    · have := (h2 .no (.ok undef (X p).hp)).symm.trans (hf .no (.ok undef (X p).hp))
      cases this
    · have hst := stepR_op_skip (P := P) (b := b) (a := a) (k := k') (cs := cs) (w := w) (ops := ops) (i := J p) (rest := rest) (by rw [ho]; exact h1)
      rw [ho] at hst
      exact .one hst
  | true =>
    have g := R.go hpn hd
    have hw : Region.wanted (O p) (yielded ops a.tmps) = true := by
      rcases g.want with h | ⟨f, h, hf⟩
      · exact want_yes h _
      · rcases want_ask' h hguard with ⟨h1, _⟩ | ⟨_, h2⟩
        · exact h1
        · have := (h2 .no (.ok undef (X p).hp)).symm.trans (hf .no (.ok undef (X p).hp))
          cases this
    obtain ⟨v', ρ', w1, h1, h2, h3⟩ := oper_ok' (b := b) (cs := cs) (rest := rest) (k := k') hrun (I.ctx R rd hd hF c) (fun t ht => Inv.tmp R rd I fun s hs hst => R.named p s t hpn hs ht hst) ho hw g.run
    obtain ⟨k1, ρ1, k2⟩ := I.go R rd hd hF hFD (ctx_lt c) h1 h2
    exact ⟨k1, ρ1, _, w1, k2, h3⟩

/-- The region's head. -/
theorem Inv.head (c : CtxA P G (X 0).hp ρ w0) (ht : tmR ρ (X 0).tm sz a.tmps) : Inv P sz O X ρ w0 a.defers (fun _ => False) ρ a w0 := by
  have le : ρ.Le (ρ.cut (nx X 0)) := ⟨fun m h => ⟨h, ctx_lt c m h⟩, fun _ _ => rfl, fun _ _ => rfl, fun _ _ => rfl, fun _ _ => rfl⟩
  have mem : ∀ m o N, hidden (X 0).hp.hid m = false ∨ (X 0).hp.lim ≤ m → Mem X (fun _ => False) m o N → N = nx X 0 ∧ (X 0).hp.h.get m = some o ∧ (X 0).hp.vis m = some o := by
    intro m o N h hm
    cases hm with
    | init h1 h2 => exact ⟨rfl, h2, by rw [Hp.vis_eq, hp_no.2 h]; exact h2⟩
    | last r h1 => exact h1.elim
  refine ⟨.refl ρ, fun m => ⟨.inl, fun h => h.elim id fun ⟨r, h, _⟩ => h.elim⟩, fun m o N h hm => ?_, fun m m' o o' N N' h h' hm hm' e => ?_, ht.1, fun t r h => h.elim, fun t _ => (ht.2 t).mono le, rfl, Nat.le_refl _, fun _ _ _ => rfl, fun r m h => h.elim, rfl, rfl, rfl⟩
  · obtain ⟨rfl, h1, h2⟩ := mem m o N h hm
    obtain ⟨k1, k2, k3⟩ := c.sat.vis m o h2
    exact ⟨k1, k2, c.sat.lt m o h1, k3.mono k1 le rfl⟩
  · exact c.sat.inj m m' o o' (mem m o N h hm).2.2 (mem m' o' N' h' hm').2.2 e

/-- In the executor's own order: what each operation says. -/
theorem Reg.ghost (hrun : RunOk P G run) (R : Reg P G run ops sz n ms J O X) (c : CtxA P G (X 0).hp ρ w0) (ht : tmR ρ (X 0).tm sz a.tmps) (b : Frame) : ∀ p, p ≤ n → (∀ s, s < p → Facts ms J X s) ∧ ∃ ρD a' w, Inv P sz O X ρ w0 a.defers (fun s => s < p) ρD a' w
  | 0, _ => ⟨fun s h => absurd h (Nat.not_lt_zero s), ρ, a, w0, by
      have e : (fun s => s < 0) = (fun _ : Nat => False) := by funext s; simp
      rw [e]; exact Inv.head c ht⟩
  | p + 1, hp => by
    obtain ⟨hF, ρD, a', w, I⟩ := R.ghost hrun c ht b p (by omega)
    have rd : Ready n ms J (fun s => s < p) p := ⟨by omega, fun r h => Nat.lt_of_lt_of_le h (by omega), Nat.lt_irrefl p, fun r hr hb => R.bef p r (by omega) hr hb,
      fun r s h1 h2 h3 => Nat.lt_trans (R.bef r s (by omega) h2 h3) h1⟩
    obtain ⟨h1, ρ1, a1, w1, h2, _⟩ := I.step hrun R rd hF hF c (b := b) (cs := []) (k' := []) (rest := [])
    refine ⟨fun s hs => ?_, ρ1, a1, w1, ?_⟩
    · by_cases e : s = p
      · subst e; exact h1
      · exact hF s (by omega)
    · have e : (fun s => s < p + 1) = (fun s => s < p ∨ s = p) := by funext s; exact propext (by omega)
      rw [e]; exact h2

/-! The whole region. -/
theorem Reg.wr_mono (R : Reg P G run ops sz n ms J O X) {p r m : Nat} (h : p ≤ r) (hr : r ≤ n) (hm : m ∈ (X p).hp.wr) : m ∈ (X r).hp.wr := by
  induction r with
  | zero => have : p = 0 := by omega
            subst this; exact hm
  | succ r ih =>
    by_cases e : p = r + 1
    · subst e; exact hm
    · have := ih (by omega) (by omega)
      rcases R.cases (p := r) (by omega) with ⟨_, g⟩ | ⟨_, g⟩
      · rw [g.hp]; exact this
      · rw [g.hp]; exact (mem_mergeL _ _).2 (.inl this)
theorem Reg.wr_of (R : Reg P G run ops sz n ms J O X) {p m : Nat} (hp : p < n) (hd : (X p).dn = true) (hm : m ∈ (X p).q.wr) (hl : m < (X 0).hp.lim) : m ∈ (X n).hp.wr := by
  refine R.wr_mono (p := p + 1) (by omega) (Nat.le_refl _) ?_
  rw [(R.go hp hd).hp]
  exact (mem_mergeL _ _).2 (.inr ⟨hm, by rw [(R.base p (by omega)).2]; exact hl⟩)
theorem Reg.same (R : Reg P G run ops sz n ms J O X) (hF : ∀ s, s < n → Facts ms J X s) {m : Nat} (hm : m < nx X 0) : ∀ p, p ≤ n → (∀ s, s < p → (X s).dn = true → m ∉ (X s).q.wr) → (X p).hp.h.get m = (X 0).hp.h.get m
  | 0, _, _ => rfl
  | p + 1, hp, hn => by
    have ih := R.same hF hm p (by omega) fun s hs => hn s (by omega)
    rcases R.cases (p := p) (by omega) with ⟨_, g⟩ | ⟨hd, g⟩
    · rw [g.hp]; exact ih
    · rw [R.h_go (by omega) hd, (hF p (by omega) hd).keep m (Nat.lt_of_lt_of_le hm (R.mono (by omega) (by omega))) (hn p (by omega) hd)]; exact ih
theorem Reg.wrlt (R : Reg P G run ops sz n ms J O X) (hF : ∀ s, s < n → Facts ms J X s) (hl : (X 0).hp.lim ≤ nx X 0) {m : Nat} : ∀ p, p ≤ n → m ∈ (X p).hp.wr → m ∈ (X 0).hp.wr ∨ (m < (X 0).hp.lim ∧ ∃ o, (X 0).hp.vis m = some o)
  | 0, _, h => .inl h
  | p + 1, hp, h => by
    rcases R.cases (p := p) (by omega) with ⟨_, g⟩ | ⟨hd, g⟩
    · rw [g.hp] at h; exact R.wrlt hF hl p (by omega) h
    · rw [g.hp] at h
      rcases (mem_mergeL _ _).1 h with h | ⟨h1, h2⟩
      · exact R.wrlt hF hl p (by omega) h
      · rw [(R.base p (by omega)).2] at h2
        by_cases hx : ∃ s, s < p ∧ (X s).dn = true ∧ m ∈ (X s).q.wr
        · obtain ⟨s, h3, h4, h5⟩ := hx
          refine R.wrlt hF hl p (by omega) (R.wr_mono (p := s + 1) (by omega) (by omega) ?_)
          rw [(R.go (by omega) h4).hp]
          exact (mem_mergeL _ _).2 (.inr ⟨h5, by rw [(R.base s (by omega)).2]; exact h2⟩)
        · have h3 := R.same hF (m := m) (by omega) p (by omega) fun s hs h4 h5 => hx ⟨s, hs, h4, h5⟩
          obtain ⟨_, h4, o, h5⟩ := (hF p (by omega) hd).wrv m h1
          refine .inr ⟨h2, o, ?_⟩
          rw [Hp.vis_eq, hp_no.2 (.inl ?_)]
          · rw [← h3]; exact h5
          · cases h6 : hidden (X 0).hp.hid m with
            | false => rfl
            | true => rw [R.hid_hid (by omega) h6] at h4; cases h4

theorem Reg.made (R : Reg P G run ops sz n ms J O X) {m : Nat} (h0 : nx X 0 ≤ m) : ∀ p, p ≤ n → m < nx X p → ∃ r, r < p ∧ (X r).dn = true ∧ nx X r ≤ m ∧ m < nx X (r + 1)
  | 0, _, h => by omega
  | p + 1, hp, h => by
    by_cases h1 : m < nx X p
    · obtain ⟨r, h2, h3⟩ := R.made h0 p (by omega) h1
      exact ⟨r, by omega, h3⟩
    · refine ⟨p, by omega, ?_, by omega, h⟩
      rcases R.cases (p := p) (by omega) with ⟨_, g⟩ | ⟨hd, _⟩
      · unfold nx at h h1; rw [g.hp] at h; omega
      · exact hd

theorem Reg.post (R : Reg P G run ops sz n ms J O X) (hF : ∀ s, s < n → Facts ms J X s) (c : CtxA P G (X 0).hp ρ w0) (I : Inv P sz O X ρ w0 df (fun s => s < n) ρD a w) : Post P G (X 0).hp (X n).hp ρ ρD w0 w := by
  have hb := R.base n (Nat.le_refl _)
  have hmono : ∀ r, r ≤ n → nx X 0 ≤ nx X r := fun r hr => R.mono (by omega) hr
  have hlim : (X 0).hp.lim ≤ nx X 0 := c.sat.lim
  have hvis : ∀ m o, (X n).hp.vis m = some o → (hidden (X 0).hp.hid m = false ∨ (X 0).hp.lim ≤ m) ∧ ∃ N, Mem X (fun s => s < n) m o N := by
    intro m o h
    obtain ⟨h1, h2⟩ := Hp.vis_some h
    rw [hp_no, hb.1, hb.2] at h1
    refine ⟨h1, ?_⟩
    rcases last_touch X m n with h3 | ⟨r, h3, h4, h5⟩
    · exact ⟨_, .init h3 (R.back (by omega) (Nat.le_refl _) hF (fun s _ hs => h3 s hs) h2)⟩
    · exact ⟨_, .last r h3 h4 h5 (R.back (by omega) (Nat.le_refl _) hF (fun s h6 h7 ht => by have := h5 s h7 ht; omega) h2)⟩
  have hwr : ∀ m, Wr X (fun s => s < n) m → ((X 0).hp.lim ≤ m ∧ m < (X 0).hp.next) ∨ m ∈ (X n).hp.wr := by
    rintro m (h | h | ⟨h1, r, h2, h3, h4⟩)
    · exact .inl h
    · exact .inr (R.wr_mono (by omega) (Nat.le_refl _) h)
    · exact .inr (R.wr_of h2 h3 h4 h1)
  refine ⟨⟨fun m o h => ?_, fun m m' o o' h h' e => ?_, fun m o h => R.lt (fun m o h => c.sat.lt m o h) (Nat.le_refl _) hF h, ?_, fun g hg => ?_⟩, I.le, fun m h => ?_, fun m h1 h2 => ?_, fun m h1 _ => c.fresh m h1, hmono n (Nat.le_refl _), hb.1, hb.2,
    fun m h => ?_, fun m h1 h2 => ?_, fun m h => R.wr_mono (by omega) (Nat.le_refl _) h, fun m h => R.wrlt hF hlim n (Nat.le_refl _) h, I.size, fun b h1 h2 => I.frame b h1 fun m h3 h4 => h2 m h3 (hwr m h4), fun m h1 h2 => ?_, I.os, I.tape, I.output⟩
  · obtain ⟨h1, N, h2⟩ := hvis m o h
    obtain ⟨k1, k2, k3, k4⟩ := I.mem m o N h1 h2
    exact ⟨k1, k2, k4.mono ⟨k1, k3⟩ (Rho.cut_le _ _) rfl⟩
  · obtain ⟨h1, N, h2⟩ := hvis m o h
    obtain ⟨h1', N', h2'⟩ := hvis m' o' h'
    exact I.inj m m' o o' N N' h1 h1' h2 h2' e
  · have := hmono n (Nat.le_refl _)
    rw [hb.2]; unfold nx at *; omega
  · obtain ⟨h1, h2, h3⟩ := c.sat.glob g hg
    exact ⟨I.le.ok g h1, by rw [I.le.blk g h1]; exact h2, by rw [I.le.sh g h1]; exact h3⟩
  · rcases (I.ok m).1 h with h | ⟨r, h1, _, h2, h3⟩
    · exact .inl h
    · have e1 := hmono r (by omega)
      have e2 := R.mono (p := r + 1) (r := n) (by omega) (Nat.le_refl _)
      unfold nx at *
      exact .inr ⟨by omega, by omega⟩
  · obtain ⟨r, h3, h4⟩ := R.made h1 n (Nat.le_refl _) h2
    exact (I.ok m).2 (.inr ⟨r, h3, h4⟩)
  · have h1 : hidden (X 0).hp.hid m = true ∧ ¬ (X 0).hp.lim ≤ m := by
      refine ⟨?_, fun h' => ?_⟩
      · cases h2 : hidden (X 0).hp.hid m with
        | true => rfl
        | false => rw [hp_no.2 (.inl h2)] at h; cases h
      · rw [hp_no.2 (.inr h')] at h; cases h
    refine R.same hF (by omega) n (Nat.le_refl _) fun s hs hd hm => ?_
    have := ((hF s hs hd).wrv m hm).2.1
    rw [R.hid_hid hs h1.1] at this
    cases this
  · refine R.same hF (by omega) n (Nat.le_refl _) fun s hs hd hm => h2 (R.wr_of hs hd hm h1)
  · obtain ⟨r, h3, h4, h5, h6⟩ := R.made h1 n (Nat.le_refl _) h2
    rcases I.fresh r m h3 h4 h5 h6 with h | ⟨m', h7, h8, h9⟩
    · exact .inl h
    · exact .inr ⟨m', h7, hwr m' h8, h9⟩

theorem Reg.tmps (R : Reg P G run ops sz n ms J O X) (I : Inv P sz O X ρ w0 df (fun s => s < n) ρD a w) : tmR ρD (X n).tm sz a.tmps := by
  refine ⟨I.tsz, fun t => ?_⟩
  by_cases h : ∃ r, r < n ∧ (O r).dst = some t
  · obtain ⟨r, hr, ht⟩ := h
    rw [R.tm_back (a := r + 1) (by omega) (Nat.le_refl _) fun s h1 h2 e => by have := R.uniq s r t h2 hr e ht; omega]
    exact (I.tm1 t r hr ht).mono (Rho.cut_le _ _)
  · rw [R.tm_back (a := 0) (by omega) (Nat.le_refl _) fun s h1 h2 e => h ⟨s, h2, e⟩]
    exact (I.tm0 t fun s hs e => h ⟨s, hs, e⟩).mono (Rho.cut_le _ _)
end
end Go.Proofs.YtjdkfdhfodmbeaaDoor.Ax
