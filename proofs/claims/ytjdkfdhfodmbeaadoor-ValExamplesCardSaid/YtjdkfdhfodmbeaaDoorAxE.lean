/- An executor of closed runs: values and memory of the executor beside those of a world. -/
import Derived.Test.YtjdkfdhfodmbeaaDoorAxC
namespace Go.Proofs.YtjdkfdhfodmbeaaDoor.Ax
open Go

structure Rho where
  ok : Nat → Prop
  blk : Nat → Nat
  sh : Nat → Nat
  esz : Nat → Nat
  clen : Nat → Nat

structure Rho.Le (ρ ρ' : Rho) : Prop where
  ok : ∀ n, ρ.ok n → ρ'.ok n
  blk : ∀ n, ρ.ok n → ρ'.blk n = ρ.blk n
  sh : ∀ n, ρ.ok n → ρ'.sh n = ρ.sh n
  esz : ∀ n, ρ.ok n → ρ'.esz n = ρ.esz n
  clen : ∀ n, ρ.ok n → ρ'.clen n = ρ.clen n
theorem Rho.Le.refl (ρ : Rho) : ρ.Le ρ := ⟨fun _ h => h, fun _ _ => rfl, fun _ _ => rfl, fun _ _ => rfl, fun _ _ => rfl⟩
theorem Rho.Le.trans {a b c : Rho} (h : a.Le b) (k : b.Le c) : a.Le c :=
  ⟨fun n x => k.ok n (h.ok n x), fun n x => (k.blk n (h.ok n x)).trans (h.blk n x), fun n x => (k.sh n (h.ok n x)).trans (h.sh n x),
   fun n x => (k.esz n (h.ok n x)).trans (h.esz n x), fun n x => (k.clen n (h.ok n x)).trans (h.clen n x)⟩

def noYield : Fn → Bool
  | .yield _ => false
  | _ => true

mutual
inductive VR (ρ : Rho) : Value → Value → Prop
  | bool (b : Bool) : VR ρ (.bool b) (.bool b)
  | int (k : IntKind) (n : Int) : VR ρ (.int k n) (.int k n)
  | float (k : FloatKind) (b : Nat) : VR ρ (.float k b) (.float k b)
  | complex (k : FloatKind) (a b : Nat) : VR ρ (.complex k a b) (.complex k a b)
  | string (s : ByteArray) : VR ρ (.string s) (.string s)
  | nilPtr : VR ρ (.pointer none) (.pointer none)
  | ptr (b o : Nat) : ρ.ok b → VR ρ (.pointer (some ⟨b, o, none⟩)) (.pointer (some ⟨ρ.blk b, ρ.sh b + o, none⟩))
  | nilSlice (l c : Nat) : VR ρ (.slice none l c) (.slice none l c)
  | slice (b o l c : Nat) : ρ.ok b → c < big → VR ρ (.slice (some ⟨b, o, none⟩) l c) (.slice (some ⟨ρ.blk b, ρ.sh b + o, none⟩) l c)
  | openS (b o l x c : Nat) : ρ.ok b → l ≤ c → c ≤ big → (0 < l → x = ρ.sh b + o) → x + c * ρ.esz b ≤ ρ.clen b → VR ρ (.slice (some ⟨b, o, none⟩) l big) (.slice (some ⟨ρ.blk b, x, none⟩) l c)
  | nilMap : VR ρ (.map none) (.map none)
  | map (r : Nat) : ρ.ok r → VR ρ (.map (some r)) (.map (some (ρ.blk r)))
  | nilFunc : VR ρ .nilFunc .nilFunc
  | func (fn : Fn) (a b a' b' : List Value) : noYield fn = true → LR ρ a a' → LR ρ b b' → VR ρ (.func fn ⟨a⟩ ⟨b⟩) (.func fn ⟨a'⟩ ⟨b'⟩)
  | yield (l : Nat) : ρ.ok l → VR ρ (.func (.yield l) #[] #[]) (.func (.yield (ρ.blk l)) #[] #[])
  | nilIface : VR ρ .nilIface .nilIface
  | iface (t : TypeId) (v v' : Value) : VR ρ v v' → VR ρ (.iface t v) (.iface t v')
  | agg (a a' : List Value) : (∀ v ∈ a, oneC v = true) → LR ρ a a' → VR ρ (.agg ⟨a⟩) (.agg ⟨a'⟩)
  | tuple (a a' : List Value) : LR ρ a a' → VR ρ (.tuple ⟨a⟩) (.tuple ⟨a'⟩)
inductive LR (ρ : Rho) : List Value → List Value → Prop
  | nil : LR ρ [] []
  | cons (v v' : Value) (l l' : List Value) : VR ρ v v' → LR ρ l l' → LR ρ (v :: l) (v' :: l')
end

mutual
theorem VR.mono {ρ ρ' : Rho} (h : ρ.Le ρ') {v v' : Value} (r : VR ρ v v') : VR ρ' v v' := by
  cases r with
  | bool b => exact .bool b
  | int k n => exact .int k n
  | float k n => exact .float k n
  | complex k a b => exact .complex k a b
  | string s => exact .string s
  | nilPtr => exact .nilPtr
  | ptr b o hb => rw [← h.blk b hb, ← h.sh b hb]; exact .ptr b o (h.ok b hb)
  | nilSlice l c => exact .nilSlice l c
  | slice b o l c hb hc => rw [← h.blk b hb, ← h.sh b hb]; exact .slice b o l c (h.ok b hb) hc
  | openS b o l x c hb h1 h2 h3 h4 =>
    rw [← h.blk b hb]
    exact .openS b o l x c (h.ok b hb) h1 h2 (by rw [h.sh b hb]; exact h3) (by rw [h.esz b hb, h.clen b hb]; exact h4)
  | nilMap => exact .nilMap
  | map r hr => rw [← h.blk r hr]; exact .map r (h.ok r hr)
  | nilFunc => exact .nilFunc
  | func fn a b a' b' hy ha hb => exact .func fn a b a' b' hy (ha.mono h) (hb.mono h)
  | yield l hl => rw [← h.blk l hl]; exact .yield l (h.ok l hl)
  | nilIface => exact .nilIface
  | iface t v v' hv => exact .iface t v v' (hv.mono h)
  | agg a a' h1 ha => exact .agg a a' h1 (ha.mono h)
  | tuple a a' ha => exact .tuple a a' (ha.mono h)
theorem LR.mono {ρ ρ' : Rho} (h : ρ.Le ρ') {l l' : List Value} (r : LR ρ l l') : LR ρ' l l' := by
  cases r with
  | nil => exact .nil
  | cons v v' l l' hv hl => exact .cons v v' l l' (hv.mono h) (hl.mono h)
end

namespace LR
variable {ρ : Rho}
theorem length {l l' : List Value} (h : LR ρ l l') : l.length = l'.length := by
  induction l generalizing l' with
  | nil => cases h; rfl
  | cons v l ih => cases h with | cons _ v' _ l' hv hl => simp [ih hl]
theorem get {l l' : List Value} (h : LR ρ l l') (i : Nat) : (l[i]? = none ∧ l'[i]? = none) ∨ ∃ v v', l[i]? = some v ∧ l'[i]? = some v' ∧ VR ρ v v' := by
  induction l generalizing l' i with
  | nil => cases h; exact .inl ⟨rfl, rfl⟩
  | cons v l ih =>
    cases h with
    | cons _ v' _ l' hv hl =>
      cases i with
      | zero => exact .inr ⟨v, v', rfl, rfl, hv⟩
      | succ i => simpa using ih hl i
theorem get_some {l l' : List Value} (h : LR ρ l l') {i : Nat} {v : Value} (hi : l[i]? = some v) : ∃ v', l'[i]? = some v' ∧ VR ρ v v' := by
  rcases h.get i with ⟨h1, _⟩ | ⟨u, u', h1, h2, h3⟩
  · rw [hi] at h1; cases h1
  · rw [hi] at h1; cases h1; exact ⟨u', h2, h3⟩
theorem of_get {l l' : List Value} (hl : l.length = l'.length) (h : ∀ (i : Nat) (v : Value), l[i]? = some v → ∃ v' : Value, l'[i]? = some v' ∧ VR ρ v v') : LR ρ l l' := by
  induction l generalizing l' with
  | nil => cases l' with
    | nil => exact .nil
    | cons _ _ => simp at hl
  | cons v l ih =>
    cases l' with
    | nil => simp at hl
    | cons v' l' =>
      obtain ⟨u, h1, h2⟩ := h 0 v rfl
      simp at h1; subst h1
      exact .cons _ _ _ _ h2 (ih (by simpa using hl) fun i u hi => by simpa using h (i + 1) u (by simpa using hi))
theorem append {a a' b b' : List Value} (h : LR ρ a a') (k : LR ρ b b') : LR ρ (a ++ b) (a' ++ b') := by
  induction a generalizing a' with
  | nil => cases h; exact k
  | cons v l ih => cases h with | cons _ v' _ l' hv hl => exact .cons _ _ _ _ hv (ih hl)
theorem take {l l' : List Value} (h : LR ρ l l') (n : Nat) : LR ρ (l.take n) (l'.take n) := by
  induction l generalizing l' n with
  | nil => cases h; simpa using LR.nil
  | cons v l ih => cases h with | cons _ v' _ l' hv hl => cases n with
    | zero => exact .nil
    | succ n => exact .cons _ _ _ _ hv (ih hl n)
theorem drop {l l' : List Value} (h : LR ρ l l') (n : Nat) : LR ρ (l.drop n) (l'.drop n) := by
  induction l generalizing l' n with
  | nil => cases h; simpa using LR.nil
  | cons v l ih => cases h with | cons _ v' _ l' hv hl => cases n with
    | zero => exact .cons _ _ _ _ hv hl
    | succ n => exact ih hl n
theorem map {α : Type} {f g : α → Value} (l : List α) (h : ∀ x ∈ l, VR ρ (f x) (g x)) : LR ρ (l.map f) (l.map g) := by
  induction l with
  | nil => exact .nil
  | cons x l ih => exact .cons _ _ _ _ (h x (List.mem_cons_self ..)) (ih fun y hy => h y (List.mem_cons_of_mem _ hy))
end LR

theorem VR.one {ρ : Rho} {v v' : Value} (h : VR ρ v v') : oneC v' = oneC v := by cases h <;> rfl
/-- What memory holds: values of one cell. -/
theorem VR.cells {ρ : Rho} {v v' : Value} (h : VR ρ v v') : LR ρ (cellsOf v) v'.cells.toList := by
  cases h with
  | agg a a' _ ha => exact ha
  | func fn a b a' b' hy ha hb => exact .cons _ _ _ _ (.func fn a b a' b' hy ha hb) .nil
  | _ => exact .cons _ _ _ _ (by constructor <;> assumption) .nil
theorem oneC_cell {v : Value} (h : oneC v = true) : v.oneCell' = true := by cases v <;> first | rfl | cases h

/-! Values that lead nowhere are the same in the world. -/
theorem pl0_eq {ρ : Rho} {v v' : Value} (hp : pl0 v = true) (h : VR ρ v v') : v' = v := by
  cases h <;> first | rfl | (simp [pl0] at hp)
theorem pl0_vr {ρ : Rho} {v : Value} (hp : pl0 v = true) : VR ρ v v := by
  cases v with
  | pointer a => cases a with
    | none => exact .nilPtr
    | some a => simp [pl0] at hp
  | slice a l c => cases a with
    | none => exact .nilSlice _ _
    | some a => simp [pl0] at hp
  | map a => cases a with
    | none => exact .nilMap
    | some a => simp [pl0] at hp
  | _ => first | (constructor; done) | (simp [pl0] at hp)
theorem pl1_one {v : Value} (h : pl1 v = true) : oneC v = true := by
  cases v <;> first | rfl | (simp [pl1, pl0] at h)
theorem pl1_eq {ρ : Rho} {v v' : Value} (hp : pl1 v = true) (h : VR ρ v v') : v' = v := by
  cases h with
  | iface t v v' hv => rw [pl0_eq (by simpa [pl1] using hp) hv]
  | func fn a b a' b' hy ha hb =>
    cases fn <;> first
      | (simp [pl1] at hp; obtain ⟨rfl, rfl⟩ := hp; cases ha; cases hb; rfl)
      | (simp [pl1, pl0] at hp)
  | _ => first | rfl | (simp [pl1, pl0] at hp)
theorem pl1_vr {ρ : Rho} {v : Value} (hp : pl1 v = true) : VR ρ v v := by
  cases v with
  | iface t v => exact .iface t _ _ (pl0_vr (by simpa [pl1] using hp))
  | func fn a b =>
    cases fn <;> first
      | (simp [pl1] at hp
         obtain ⟨h1, h2⟩ := hp
         cases a; cases b
         simp at h1 h2
         subst h1 h2
         exact .func _ _ _ _ _ rfl .nil .nil)
      | (simp [pl1, pl0] at hp)
  | _ => exact pl0_vr (by simpa [pl1] using hp)
theorem all1_eq {ρ : Rho} : ∀ {l l' : List Value}, all1 l = true → LR ρ l l' → l' = l
  | [], _, _, .nil => rfl
  | v :: l, _, h, .cons _ v' _ l' hv hl => by
    simp only [all1] at h
    cases h1 : pl1 v <;> simp [h1] at h
    rw [pl1_eq h1 hv, all1_eq h hl]
theorem all1_vr {ρ : Rho} : ∀ {l : List Value}, all1 l = true → LR ρ l l
  | [], _ => .nil
  | v :: l, h => by
    simp only [all1] at h
    cases h1 : pl1 v <;> simp [h1] at h
    exact .cons _ _ _ _ (pl1_vr h1) (all1_vr h)
theorem all1_mem : ∀ {l : List Value}, all1 l = true → ∀ v ∈ l, pl1 v = true
  | [], _, v, hv => by cases hv
  | u :: l, h, v, hv => by
    simp only [all1] at h
    cases h1 : pl1 u <;> simp [h1] at h
    rcases List.mem_cons.1 hv with rfl | hv
    · exact h1
    · exact all1_mem h v hv
theorem pl2_eq {ρ : Rho} {v v' : Value} (hp : pl2 v = true) (h : VR ρ v v') : v' = v := by
  cases h with
  | agg a a' _ ha => rw [all1_eq (by simpa [pl2] using hp) ha]
  | iface t v v' hv =>
    cases hv with
    | agg a a' _ ha => rw [all1_eq (by simpa [pl2] using hp) ha]
    | func fn a b a' b' hy ha hb => exact pl1_eq (ρ := ρ) (by simpa [pl2] using hp) (.iface _ _ _ (.func fn a b a' b' hy ha hb))
    | _ => exact pl1_eq (ρ := ρ) (by simpa [pl2] using hp) (.iface _ _ _ (by constructor <;> assumption))
  | func fn a b a' b' hy ha hb => exact pl1_eq (ρ := ρ) (by simpa [pl2] using hp) (.func fn a b a' b' hy ha hb)
  | _ => exact pl1_eq (ρ := ρ) (by simpa [pl2] using hp) (by constructor <;> assumption)
theorem pl2_vr {ρ : Rho} {v : Value} (hp : pl2 v = true) : VR ρ v v := by
  have ag : ∀ a : List Value, all1 a = true → VR ρ (.agg ⟨a⟩) (.agg ⟨a⟩) := fun a h => .agg _ _ (fun v hv => pl1_one (all1_mem h v hv)) (all1_vr h)
  cases v with
  | agg a => exact ag a.toList (by simpa [pl2] using hp)
  | iface t v =>
    cases v with
    | agg a => exact .iface _ _ _ (ag a.toList (by simpa [pl2] using hp))
    | _ => exact pl1_vr (by simpa [pl2] using hp)
  | _ => exact pl1_vr (by simpa [pl2] using hp)
theorem all2_eq {ρ : Rho} : ∀ {l l' : List Value}, all2 l = true → LR ρ l l' → l' = l
  | [], _, _, .nil => rfl
  | v :: l, _, h, .cons _ v' _ l' hv hl => by
    simp only [all2] at h
    cases h1 : pl2 v <;> simp [h1] at h
    rw [pl2_eq h1 hv, all2_eq h hl]
theorem all2_vr {ρ : Rho} : ∀ {l : List Value}, all2 l = true → LR ρ l l
  | [], _ => .nil
  | v :: l, h => by
    simp only [all2] at h
    cases h1 : pl2 v <;> simp [h1] at h
    exact .cons _ _ _ _ (pl2_vr h1) (all2_vr h)
theorem pl_eq {ρ : Rho} {v v' : Value} (hp : pl v = true) (h : VR ρ v v') : v' = v := by
  cases h with
  | tuple a a' ha => rw [all2_eq (by simpa [pl] using hp) ha]
  | agg a a' h1 ha => exact pl2_eq (ρ := ρ) (by simpa [pl] using hp) (.agg a a' h1 ha)
  | func fn a b a' b' hy ha hb => exact pl2_eq (ρ := ρ) (by simpa [pl] using hp) (.func fn a b a' b' hy ha hb)
  | _ => exact pl2_eq (ρ := ρ) (by simpa [pl] using hp) (by constructor <;> assumption)
theorem pl_vr {ρ : Rho} {v : Value} (hp : pl v = true) : VR ρ v v := by
  cases v with
  | tuple a => exact .tuple a.toList _ (all2_vr (by simpa [pl] using hp))
  | _ => exact pl2_vr (by simpa [pl] using hp)
theorem allPl_eq {ρ : Rho} : ∀ {l l' : List Value}, allPl l = true → LR ρ l l' → l' = l
  | [], _, _, .nil => rfl
  | v :: l, _, h, .cons _ v' _ l' hv hl => by
    simp only [allPl] at h
    cases h1 : pl v <;> simp [h1] at h
    rw [pl_eq h1 hv, allPl_eq h hl]

theorem pureRun_run {α : Type} (P : Program) (s : Sem α) (a : α) (w : World) (h : pureRun P s = some a) : s.run P w = .ok a w := by
  induction s with
  | pure b => simp [pureRun] at h; simp [Sem.run, h]
  | program k ih => simp only [pureRun] at h; simp only [Sem.run]; exact ih P h
  | mark m k ih => simp only [pureRun] at h; simp only [Sem.run]; exact ih h
  | _ => simp [pureRun] at h

/-! The memory beside a world. -/
def ER (ρ : Rho) (es es' : List MapEntry) : Prop :=
  es.length = es'.length ∧ ∀ (i : Nat) (e : MapEntry), es[i]? = some e → ∃ e' : MapEntry, es'[i]? = some e' ∧ VR ρ e.key e'.key ∧ VR ρ e.val e'.val ∧ e'.born = e.born

def tmR (ρ : Rho) (tm : T Value) (sz : Nat) (tmps : Array Value) : Prop :=
  tmps.size = sz ∧ ∀ t : Nat, VR ρ (evA tm (.tmp t)) (tmps.getD t undef)

def objSat (P : Program) (ρ : Rho) (w : World) (n : Nat) : AObj → Prop
  | .cells t m e => ∃ c fz, w.heap[ρ.blk n]? = some (.cells c e fz) ∧ c.size = ρ.clen n ∧ ρ.sh n + m ≤ c.size ∧ (∀ i, i < c.size → ¬ (fz.1 ≤ i ∧ i < fz.2)) ∧
      ρ.esz n = (size? P e).getD 0 ∧ ∀ i v, t.get i = some v → oneC v = true ∧ ∃ v', c[ρ.sh n + i]? = some v' ∧ VR ρ v v'
  | .ro t => ∀ i v, t.get i = some v → oneC v = true ∧ ∃ v', w.cell? ⟨ρ.blk n, ρ.sh n + i, none⟩ = some v' ∧ VR ρ v v'
  | .map es clock => ∃ es', w.heap[ρ.blk n]? = some (.map es' clock) ∧ ER ρ es es'.toList
  | .iter s pos => w.heap[ρ.blk n]? = some (.stringIter s pos) ∧ ρ.sh n = 0
  | .loop st pend fn tm sz ps a b d => ρ.ok d ∧ ∃ tmps params, w.heap[ρ.blk n]? = some (.loop { state := st, pending := pend, fn, tmps, params, assign := a, body := b, defers := ρ.blk d }) ∧ params.toList = ps ∧ tmR ρ tm sz tmps
  | .dfs o => w.heap[ρ.blk n]? = some (.deferred (if o then some [] else none))

structure Sat (P : Program) (G : Nat) (hp : Hp) (ρ : Rho) (w : World) : Prop where
  vis : ∀ n o, hp.vis n = some o → ρ.ok n ∧ ρ.blk n < w.heap.size ∧ objSat P ρ w n o
  inj : ∀ n m o o', hp.vis n = some o → hp.vis m = some o' → ρ.blk n = ρ.blk m → n = m
  lt : ∀ n o, hp.h.get n = some o → n < hp.next
  lim : hp.lim ≤ hp.next
  glob : ∀ g, g < G → ρ.ok g ∧ ρ.blk g = g ∧ ρ.sh g = 0

structure Post (P : Program) (G : Nat) (hp hp' : Hp) (ρ ρ' : Rho) (w w' : World) : Prop where
  sat : Sat P G hp' ρ' w'
  ext : ρ.Le ρ'
  new : ∀ n, ρ'.ok n → ρ.ok n ∨ (hp.next ≤ n ∧ n < hp'.next)
  all : ∀ n, hp.next ≤ n → n < hp'.next → ρ'.ok n
  was : ∀ n, hp.next ≤ n → n < hp'.next → ¬ ρ.ok n
  next : hp.next ≤ hp'.next
  hid : hp'.hid = hp.hid
  limE : hp'.lim = hp.lim
  hidget : ∀ n, hp.no n = true → hp'.h.get n = hp.h.get n
  keep : ∀ n, n < hp.lim → n ∉ hp'.wr → hp'.h.get n = hp.h.get n
  wr : ∀ n, n ∈ hp.wr → n ∈ hp'.wr
  wrlt : ∀ n, n ∈ hp'.wr → n ∈ hp.wr ∨ (n < hp.lim ∧ ∃ o, hp.vis n = some o)
  size : w.heap.size ≤ w'.heap.size
  frame : ∀ b, b < w.heap.size → (∀ n, ρ.ok n → ((hp.lim ≤ n ∧ n < hp.next) ∨ n ∈ hp'.wr) → ρ.blk n ≠ b) → w'.heap[b]? = w.heap[b]?
  fresh : ∀ n, hp.next ≤ n → n < hp'.next → w.heap.size ≤ ρ'.blk n ∨ ∃ m, ρ.ok m ∧ ((hp.lim ≤ m ∧ m < hp.next) ∨ m ∈ hp'.wr) ∧ ρ'.blk n = ρ.blk m
  os : w'.os = w.os
  tape : w'.tape = w.tape
  output : w'.output = w.output

def Fresh (hp : Hp) (N : Nat) (ρ : Rho) : Prop := ∀ n, hp.next ≤ n → n < N → ¬ ρ.ok n

theorem Post.refl {P : Program} {G : Nat} {hp : Hp} {ρ : Rho} {w : World} (h : Sat P G hp ρ w) : Post P G hp hp ρ ρ w w :=
  ⟨h, .refl ρ, fun n h => .inl h, fun n h1 h2 => by omega, fun n h1 h2 => by omega, Nat.le_refl _, rfl, rfl, fun _ _ => rfl, fun _ _ _ => rfl, fun _ h => h, fun _ h => .inl h, Nat.le_refl _, fun _ _ _ => rfl, fun n h1 h2 => by omega, rfl, rfl, rfl⟩

theorem Post.trans {P : Program} {G : Nat} {a b c : Hp} {ρ ρ1 ρ2 : Rho} {w w1 w2 : World} (h : Post P G a b ρ ρ1 w w1) (k : Post P G b c ρ1 ρ2 w1 w2) : Post P G a c ρ ρ2 w w2 := by
  have hn := h.next
  have kn := k.next
  have hno : ∀ n, a.no n = true → b.no n = true := fun n hn => by
    unfold Hp.no at *
    rw [h.hid, h.limE]; exact hn
  refine ⟨k.sat, h.ext.trans k.ext, ?_, ?_, fun n h1 h2 h3 => ?_, by omega, k.hid.trans h.hid, k.limE.trans h.limE, ?_, ?_, fun n hn => k.wr n (h.wr n hn), ?_, Nat.le_trans h.size k.size, ?_, ?_, k.os.trans h.os, k.tape.trans h.tape, k.output.trans h.output⟩
  · intro n hn'
    rcases k.new n hn' with h1 | h1
    · rcases h.new n h1 with h2 | h2
      · exact .inl h2
      · exact .inr ⟨h2.1, by omega⟩
    · exact .inr ⟨by omega, h1.2⟩
  · intro n h1 h2
    by_cases h3 : n < b.next
    · exact k.ext.ok n (h.all n h1 h3)
    · exact k.all n (by omega) h2
  · by_cases h4 : n < b.next
    · exact h.was n h1 h4 h3
    · exact k.was n (by omega) h2 (h.ext.ok n h3)
  · intro n hn'
    rw [k.hidget n (hno n hn'), h.hidget n hn']
  · intro n h1 h2
    rw [k.keep n (by rw [h.limE]; exact h1) h2, h.keep n h1 (fun h3 => h2 (k.wr n h3))]
  · intro n hn'
    rcases k.wrlt n hn' with h1 | ⟨h1, o, h2⟩
    · exact h.wrlt n h1
    · by_cases h3 : n ∈ b.wr
      · exact h.wrlt n h3
      · rw [h.limE] at h1
        refine .inr ⟨h1, o, ?_⟩
        rw [Hp.vis_eq] at h2 ⊢
        have e : a.no n = b.no n := by unfold Hp.no; rw [h.hid, h.limE]
        rw [e, ← h.keep n h1 h3]; exact h2
  · intro x hx hall
    have h1 : w1.heap[x]? = w.heap[x]? := h.frame x hx fun n hn' hor => hall n hn' (hor.imp id fun h2 => k.wr n h2)
    have h2 : w2.heap[x]? = w1.heap[x]? := by
      refine k.frame x (Nat.lt_of_lt_of_le hx h.size) fun n hn' hor => ?_
      rcases h.new n hn' with h3 | ⟨h3, h4⟩
      · rw [h.ext.blk n h3]
        refine hall n h3 ?_
        rcases hor with ⟨h5, h6⟩ | h5
        · rw [h.limE] at h5
          by_cases h7 : n < a.next
          · exact .inl ⟨h5, h7⟩
          · exact absurd h3 (h.was n (by omega) h6)
        · exact .inr h5
      · rcases h.fresh n h3 h4 with h5 | ⟨m, h5, h6, h7⟩
        · omega
        · rw [h7]
          exact hall m h5 (h6.imp id fun h8 => k.wr m h8)
    rw [h2, h1]
  · intro n h1 h2
    by_cases h3 : n < b.next
    · rcases h.fresh n h1 h3 with h5 | ⟨m, h5, h6, h7⟩
      · exact .inl (by rw [k.ext.blk n (h.all n h1 h3)]; exact h5)
      · exact .inr ⟨m, h5, h6.imp id fun h8 => k.wr m h8, by rw [k.ext.blk n (h.all n h1 h3)]; exact h7⟩
    · rcases k.fresh n (by omega) h2 with h5 | ⟨m, h5, h6, h7⟩
      · exact .inl (Nat.le_trans h.size h5)
      · rcases h.new m h5 with h8 | ⟨h8, h9⟩
        · refine .inr ⟨m, h8, ?_, by rw [h7, h.ext.blk m h8]⟩
          rcases h6 with ⟨h10, h11⟩ | h10
          · rw [h.limE] at h10
            by_cases h12 : m < a.next
            · exact .inl ⟨h10, h12⟩
            · exact absurd h8 (h.was m (by omega) h11)
          · exact .inr h10
        · rcases h.fresh m h8 h9 with h10 | ⟨q, h10, h11, h12⟩
          · exact .inl (by rw [h7]; exact h10)
          · exact .inr ⟨q, h10, h11.imp id fun h13 => k.wr q h13, by rw [h7, h12]⟩
end Go.Proofs.YtjdkfdhfodmbeaaDoor.Ax
