/- An executor of closed runs: what it computes. -/
import Derived.Calls
import Derived.Orders
import Derived.Below
namespace Go.Proofs.YtjdkfdhfodmbeaaDoor.Ax
open Go
noncomputable section

def pick {β : Type} (b : Bool) (x y : β) : β := Bool.rec (motive := fun _ => β) y x b
def onSome {α β : Type} (o : Option α) (d : β) (k : α → β) : β := Option.rec (motive := fun _ => β) d k o
def andB (a b : Bool) : Bool := Bool.rec (motive := fun _ => Bool) false b a
def orB (a b : Bool) : Bool := Bool.rec (motive := fun _ => Bool) b true a
def lt (a b : Nat) : Bool := Nat.ble (Nat.succ a) b

/-! Trees by position. -/
inductive T (α : Type) where
  | leaf
  | node (v : Option α) (l r : T α)

namespace T
variable {α : Type}
def getSide (gl gr : Nat → Option α) (m : Nat) : Option α := pick (Nat.beq (Nat.mod m 2) 0) (gl (Nat.div m 2)) (gr (Nat.div m 2))
def getNode (v : Option α) (gl gr : Nat → Option α) (n : Nat) : Option α := Nat.rec (motive := fun _ => Option α) v (fun m _ => getSide gl gr m) n
def get (t : T α) : Nat → Option α :=
  T.rec (motive := fun _ => Nat → Option α) (fun _ => none) (fun v _ _ gl gr => getNode v gl gr) t

section
variable {β : Type}
abbrev SetK (α β : Type) := T α → Nat → Option α → (T α → β) → β
def toL (v : Option α) (r : T α) (k : T α → β) (l : T α) : β := k (.node v l r)
def toR (v : Option α) (l : T α) (k : T α → β) (r : T α) : β := k (.node v l r)
def setSide (ih : SetK α β) (v : Option α) (l r : T α) (x : Option α) (k : T α → β) (m : Nat) : β :=
  pick (Nat.beq (Nat.mod m 2) 0) (ih l (Nat.div m 2) x (toL v r k)) (ih r (Nat.div m 2) x (toR v l k))
def setAt (ih : SetK α β) (v : Option α) (l r : T α) (n : Nat) (x : Option α) (k : T α → β) : β :=
  Nat.rec (motive := fun _ => β) (k (.node x l r)) (fun m _ => setSide ih v l r x k m) n
def setStep (ih : SetK α β) : SetK α β := fun t n x k =>
  T.rec (motive := fun _ => β) (setAt ih none .leaf .leaf n x k) (fun v l r _ _ => setAt ih v l r n x k) t
def setK (f : Nat) : SetK α β :=
  Nat.rec (motive := fun _ => SetK α β) (fun t _ _ k => k t) (fun _ ih => setStep ih) f
end

/-! The same along a path that is known beforehand. -/
def left (t : T α) : T α := T.rec (motive := fun _ => T α) .leaf (fun _ l _ _ _ => l) t
def right (t : T α) : T α := T.rec (motive := fun _ => T α) .leaf (fun _ _ r _ _ => r) t
def val (t : T α) : Option α := T.rec (motive := fun _ => Option α) none (fun v _ _ _ _ => v) t
def pathF : Nat → Nat → List Bool
  | 0, _ => []
  | f + 1, n => match n with
    | 0 => []
    | m + 1 => Nat.beq (m % 2) 0 :: pathF f (m / 2)
inductive GBx (α : Type) where
  | mk (f : T α → Option α)
def getPath (p : List Bool) : GBx α :=
  List.rec (motive := fun _ => GBx α) (.mk val) (fun b _ ih => GBx.rec (motive := fun _ => GBx α) (fun g => Bool.rec (motive := fun _ => GBx α) (.mk fun t => g (right t)) (.mk fun t => g (left t)) b) ih) p
section
variable {β : Type}
def setHere (t : T α) (x : α) (k : T α → β) : β := T.rec (motive := fun _ => β) (k (.node (some x) .leaf .leaf)) (fun _ l r _ _ => k (.node (some x) l r)) t
def setL (s : T α → α → (T α → β) → β) (t : T α) (x : α) (k : T α → β) : β :=
  T.rec (motive := fun _ => β) (s .leaf x (toL none .leaf k)) (fun v l r _ _ => s l x (toL v r k)) t
def setR (s : T α → α → (T α → β) → β) (t : T α) (x : α) (k : T α → β) : β :=
  T.rec (motive := fun _ => β) (s .leaf x (toR none .leaf k)) (fun v l r _ _ => s r x (toR v l k)) t
end
inductive SBx (α β : Type) where
  | mk (f : T α → α → (T α → β) → β)
def setPath {β : Type} (p : List Bool) : SBx α β :=
  List.rec (motive := fun _ => SBx α β) (.mk setHere) (fun b _ ih => SBx.rec (motive := fun _ => SBx α β) (fun s => Bool.rec (motive := fun _ => SBx α β) (.mk (setR s)) (.mk (setL s)) b) ih) p

def put {β : Type} (t : T α) (n : Nat) (x : Option α) (k : T α → β) : β := setK (Nat.succ n) t n x k

/-- Cells from place n on. -/
def putStep {β : Type} (x : α) (ih : T α → Nat → (T α → β) → β) : T α → Nat → (T α → β) → β := fun t n k => put t n (some x) fun t => ih t (Nat.succ n) k
def putList {β : Type} (l : List α) : T α → Nat → (T α → β) → β :=
  List.rec (motive := fun _ => T α → Nat → (T α → β) → β) (fun t _ k => k t) (fun x _ ih => putStep x ih) l
end T

/-! Values brought to their plain form before they are kept. -/
section
variable {β : Type}
def fNat (n : Nat) (k : Nat → β) : β := Nat.rec (motive := fun _ => β) (k 0) (fun m _ => k (Nat.succ m)) n
def fInt (n : Int) (k : Int → β) : β := Int.rec (motive := fun _ => β) (fun n => fNat n fun n => k (.ofNat n)) (fun n => fNat n fun n => k (.negSucc n)) n
def fBool (b : Bool) (k : Bool → β) : β := Bool.rec (motive := fun _ => β) (k false) (k true) b
def fBytes (l : List UInt8) : (List UInt8 → β) → β :=
  List.rec (motive := fun _ => (List UInt8 → β) → β) (fun k => k []) (fun b _ ih k => fNat b.toNat fun n => ih fun bs => k (UInt8.ofNat n :: bs)) l
/-- The head of a value. -/
def fHead (v : Value) (k : Value → β) : β :=
  Value.rec (motive_1 := fun _ => β) (motive_2 := fun _ => Unit) (motive_3 := fun _ => Unit)
    (fun b => k (.bool b)) (fun a b => k (.int a b)) (fun a b => k (.float a b)) (fun a b c => k (.complex a b c)) (fun s => k (.string s)) (fun a => k (.pointer a)) (fun a l c => k (.slice a l c))
    (fun r => k (.map r)) (fun r => k (.chan r)) (fun a b c _ _ => k (.func a b c)) (k .nilFunc) (fun t v _ => k (.iface t v)) (k .nilIface) (fun c _ => k (.agg c)) (fun c _ => k (.tuple c))
    (fun _ _ => ()) () (fun _ _ _ _ => ()) v
def fHeads (l : List Value) : (List Value → β) → β :=
  List.rec (motive := fun _ => (List Value → β) → β) (fun k => k []) (fun v _ ih k => fHead v fun v => ih fun vs => k (v :: vs)) l
/-! Looking at a value: one kind of it, else d. -/
def onInt (v : Value) (d : β) (k : IntKind → Int → β) : β :=
  Value.rec (motive_1 := fun _ => β) (motive_2 := fun _ => Unit) (motive_3 := fun _ => Unit)
    (fun _ => d) k (fun _ _ => d) (fun _ _ _ => d) (fun _ => d) (fun _ => d) (fun _ _ _ => d) (fun _ => d) (fun _ => d) (fun _ _ _ _ _ => d) d (fun _ _ _ => d) d (fun _ _ => d) (fun _ _ => d) (fun _ _ => ()) () (fun _ _ _ _ => ()) v
def onBool (v : Value) (d : β) (k : Bool → β) : β :=
  Value.rec (motive_1 := fun _ => β) (motive_2 := fun _ => Unit) (motive_3 := fun _ => Unit)
    k (fun _ _ => d) (fun _ _ => d) (fun _ _ _ => d) (fun _ => d) (fun _ => d) (fun _ _ _ => d) (fun _ => d) (fun _ => d) (fun _ _ _ _ _ => d) d (fun _ _ _ => d) d (fun _ _ => d) (fun _ _ => d) (fun _ _ => ()) () (fun _ _ _ _ => ()) v
def onStr (v : Value) (d : β) (k : ByteArray → β) : β :=
  Value.rec (motive_1 := fun _ => β) (motive_2 := fun _ => Unit) (motive_3 := fun _ => Unit)
    (fun _ => d) (fun _ _ => d) (fun _ _ => d) (fun _ _ _ => d) k (fun _ => d) (fun _ _ _ => d) (fun _ => d) (fun _ => d) (fun _ _ _ _ _ => d) d (fun _ _ _ => d) d (fun _ _ => d) (fun _ _ => d) (fun _ _ => ()) () (fun _ _ _ _ => ()) v
def onPtrA (v : Value) (d : β) (k : Option Addr → β) : β :=
  Value.rec (motive_1 := fun _ => β) (motive_2 := fun _ => Unit) (motive_3 := fun _ => Unit)
    (fun _ => d) (fun _ _ => d) (fun _ _ => d) (fun _ _ _ => d) (fun _ => d) k (fun _ _ _ => d) (fun _ => d) (fun _ => d) (fun _ _ _ _ _ => d) d (fun _ _ _ => d) d (fun _ _ => d) (fun _ _ => d) (fun _ _ => ()) () (fun _ _ _ _ => ()) v
def onSlice (v : Value) (d : β) (k : Option Addr → Nat → Nat → β) : β :=
  Value.rec (motive_1 := fun _ => β) (motive_2 := fun _ => Unit) (motive_3 := fun _ => Unit)
    (fun _ => d) (fun _ _ => d) (fun _ _ => d) (fun _ _ _ => d) (fun _ => d) (fun _ => d) k (fun _ => d) (fun _ => d) (fun _ _ _ _ _ => d) d (fun _ _ _ => d) d (fun _ _ => d) (fun _ _ => d) (fun _ _ => ()) () (fun _ _ _ _ => ()) v
def onMap (v : Value) (d : β) (k : Option Nat → β) : β :=
  Value.rec (motive_1 := fun _ => β) (motive_2 := fun _ => Unit) (motive_3 := fun _ => Unit)
    (fun _ => d) (fun _ _ => d) (fun _ _ => d) (fun _ _ _ => d) (fun _ => d) (fun _ => d) (fun _ _ _ => d) k (fun _ => d) (fun _ _ _ _ _ => d) d (fun _ _ _ => d) d (fun _ _ => d) (fun _ _ => d) (fun _ _ => ()) () (fun _ _ _ _ => ()) v
def onFunc (v : Value) (d : β) (k : Fn → List Value → List Value → β) : β :=
  Value.rec (motive_1 := fun _ => β) (motive_2 := fun _ => Unit) (motive_3 := fun _ => Unit)
    (fun _ => d) (fun _ _ => d) (fun _ _ => d) (fun _ _ _ => d) (fun _ => d) (fun _ => d) (fun _ _ _ => d) (fun _ => d) (fun _ => d) (fun a b c _ _ => k a b.toList c.toList) d (fun _ _ _ => d) d (fun _ _ => d) (fun _ _ => d) (fun _ _ => ()) () (fun _ _ _ _ => ()) v
def onIface (v : Value) (d : β) (n : β) (k : TypeId → Value → β) : β :=
  Value.rec (motive_1 := fun _ => β) (motive_2 := fun _ => Unit) (motive_3 := fun _ => Unit)
    (fun _ => d) (fun _ _ => d) (fun _ _ => d) (fun _ _ _ => d) (fun _ => d) (fun _ => d) (fun _ _ _ => d) (fun _ => d) (fun _ => d) (fun _ _ _ _ _ => d) d (fun t v _ => k t v) n (fun _ _ => d) (fun _ _ => d) (fun _ _ => ()) () (fun _ _ _ _ => ()) v
def onAgg (v : Value) (d : β) (k : List Value → β) : β :=
  Value.rec (motive_1 := fun _ => β) (motive_2 := fun _ => Unit) (motive_3 := fun _ => Unit)
    (fun _ => d) (fun _ _ => d) (fun _ _ => d) (fun _ _ _ => d) (fun _ => d) (fun _ => d) (fun _ _ _ => d) (fun _ => d) (fun _ => d) (fun _ _ _ _ _ => d) d (fun _ _ _ => d) d (fun c _ => k c.toList) (fun _ _ => d) (fun _ _ => ()) () (fun _ _ _ _ => ()) v
def onTuple (v : Value) (d : β) (k : List Value → β) : β :=
  Value.rec (motive_1 := fun _ => β) (motive_2 := fun _ => Unit) (motive_3 := fun _ => Unit)
    (fun _ => d) (fun _ _ => d) (fun _ _ => d) (fun _ _ _ => d) (fun _ => d) (fun _ => d) (fun _ _ _ => d) (fun _ => d) (fun _ => d) (fun _ _ _ _ _ => d) d (fun _ _ _ => d) d (fun _ _ => d) (fun c _ => k c.toList) (fun _ _ => ()) () (fun _ _ _ _ => ()) v
def onPlain (s : Option Nat) (d k : β) : β := Option.rec (motive := fun _ => β) k (fun _ => d) s
def onAddr (a : Addr) (d : β) (k : Nat → Nat → β) : β := Addr.rec (motive := fun _ => β) (fun b o s => onPlain s d (k b o)) a
/-- A pointer that is not nil. -/
def onPtr (v : Value) (d : β) (k : Nat → Nat → β) : β := onPtrA v d fun a => onSome a d fun a => onAddr a d k
end
def fScal {β : Type} (v : Value) (k : Value → β) : β := match v with
  | .int kd n => fInt n fun n => k (.int kd n)
  | .bool b => fBool b fun b => k (.bool b)
  | .string s => fBytes s.data.toList fun l => k (.string ⟨⟨l⟩⟩)
  | v => k v
def fScals {β : Type} (l : List Value) : (List Value → β) → β :=
  List.rec (motive := fun _ => (List Value → β) → β) (fun k => k []) (fun v _ ih k => fScal v fun v => ih fun vs => k (v :: vs)) l
def fVal {β : Type} (v : Value) (k : Value → β) : β := match v with
  | .agg cs => fScals cs.toList fun l => k (.agg ⟨l⟩)
  | .tuple cs => fScals cs.toList fun l => k (.tuple ⟨l⟩)
  | v => fScal v k

/-! Values that lead nowhere. -/
def pl0 : Value → Bool
  | .bool _ | .int .. | .float .. | .complex .. | .string _ | .pointer none | .slice none _ _ | .map none | .nilFunc | .nilIface => true
  | _ => false
def pl1 : Value → Bool
  | .iface _ v => pl0 v
  | .func (.func _) a b => a.toList.isEmpty && b.toList.isEmpty
  | v => pl0 v
def all1 : List Value → Bool
  | [] => true
  | v :: vs => cond (pl1 v) (all1 vs) false
def pl2 : Value → Bool
  | .agg cs => all1 cs.toList
  | .iface _ (.agg cs) => all1 cs.toList
  | v => pl1 v
def all2 : List Value → Bool
  | [] => true
  | v :: vs => cond (pl2 v) (all2 vs) false
def pl : Value → Bool
  | .tuple cs => all2 cs.toList
  | v => pl2 v

/-! The abstract memory. -/
inductive AObj where
  | cells (t : T Value) (n : Nat) (elem : TypeId)
  | ro (t : T Value)
  | map (es : List MapEntry) (clock : Nat)
  | iter (s : ByteArray) (pos : Nat)
  | loop (st : LoopState) (pending : Option Code) (fn : FuncId) (tm : T Value) (sz : Nat) (params : List Tmp) (assign body : Code) (dfs : Nat)
  | dfs (open_ : Bool)

/-- The memory: what lies in it, the next name, names that may not be looked at, and which of the names below 'lim' have been written. -/
structure Hp where
  h : T AObj
  next : Nat
  hid : List (Nat × Nat)
  wr : List Nat
  lim : Nat

def hidden : List (Nat × Nat) → Nat → Bool
  | [], _ => false
  | (a, b) :: l, n => pick (andB (Nat.ble a n) (lt n b)) true (hidden l n)
def visIn (h : T AObj) (hid : List (Nat × Nat)) (lim n : Nat) : Option AObj :=
  pick (Nat.ble lim n) (h.get n) (pick (hidden hid n) none (h.get n))
def Hp.vis (p : Hp) (n : Nat) : Option AObj := Hp.rec (motive := fun _ => Option AObj) (fun h _ hid _ lim => visIn h hid lim n) p

def memW (n : Nat) : List Nat → Bool
  | [] => false
  | m :: l => pick (Nat.beq m n) true (memW n l)
def addW {β : Type} (lim n : Nat) (l : List Nat) (k : List Nat → β) : β := pick (lt n lim) (pick (memW n l) (k l) (k (n :: l))) (k l)
/-- Something else at a name that is there. -/
def Hp.set {β : Type} (p : Hp) (b : Nat) (o : Option AObj) (k : Hp → β) : β :=
  Hp.rec (motive := fun _ => β) (fun h next hid wr lim => T.put h b o fun h => addW lim b wr fun wr => k ⟨h, next, hid, wr, lim⟩) p
/-- A new block. -/
def xnew {β : Type} (hp : Hp) (o : AObj) (k : Nat → Hp → β) : β :=
  Hp.rec (motive := fun _ => β) (fun h next hid wr lim => T.put h next (some o) fun h => fNat (Nat.succ next) fun next' => k next ⟨h, next', hid, wr, lim⟩) hp
def onCells {β : Type} (o : Option AObj) (d : β) (k : T Value → Nat → TypeId → β) : β :=
  Option.rec (motive := fun _ => β) d (fun o => AObj.rec (motive := fun _ => β) k (fun _ => d) (fun _ _ => d) (fun _ _ => d) (fun _ _ _ _ _ _ _ _ _ => d) (fun _ => d) o) o
/-- The cells that may be read. -/
def onRead {β : Type} (o : Option AObj) (d : β) (k : T Value → β) : β :=
  Option.rec (motive := fun _ => β) d (fun o => AObj.rec (motive := fun _ => β) (fun t _ _ => k t) k (fun _ _ => d) (fun _ _ => d) (fun _ _ _ _ _ _ _ _ _ => d) (fun _ => d) o) o

/-- Capacities of arrays that append made. -/
def big : Nat := 9223372036854775808
def most : Nat := 16777216

def isAgg? (P : Program) (t : TypeId) : Option Bool :=
  match P.underlying t with
  | some (.struct _) | some (.array ..) => some true
  | some _ => some false
  | none => none
def size? (P : Program) (t : TypeId) : Option Nat := (P.info? t).map (·.size)

def consO (v : Value) (l : Option (List Value)) : Option (List Value) := onSome l none fun l => some (v :: l)
def readStep (ct : T Value) (ih : Nat → Option (List Value)) (o : Nat) : Option (List Value) :=
  onSome (ct.get o) none fun v => consO v (ih (Nat.succ o))
def readCells (ct : T Value) (o n : Nat) : Option (List Value) :=
  Nat.rec (motive := fun _ => Nat → Option (List Value)) (fun _ => some []) (fun _ ih => readStep ct ih) n o

/-- What the operands stand for. -/
def evA (tm : T Value) : Operand → Value
  | .tmp t => onSome (tm.get t) undef fun v => v
  | .const v => v
  | .global g => .pointer (some ⟨g, 0, none⟩)
  | .func f => .func (.func f) #[] #[]

def okOpd (G : Nat) : Operand → Bool
  | .const v => pl v
  | .global g => lt g G
  | _ => true

/-- A run that asks nothing of the memory. -/
def pureRun {α : Type} (P : Program) : Sem α → Option α
  | .pure a => some a
  | .program k => pureRun P (k P)
  | .mark _ k => pureRun P k
  | _ => none

/-- An operation's value, and the memory behind it. -/
inductive R where
  | no
  | ok (v : Value) (hp : Hp)
def onR {β : Type} (r : R) (d : β) (k : Value → Hp → β) : β := R.rec (motive := fun _ => β) d k r
def okV (hp : Hp) (o : Option Value) : R := onSome o .no fun v => .ok v hp

def xloadAgg (n : Nat) (a : Value) (hp : Hp) : R :=
  onPtr a .no fun b o => onRead (hp.vis b) .no fun ct => onSome (readCells ct o n) .no fun l => .ok (.agg ⟨l⟩) hp
def xloadOne (a : Value) (hp : Hp) : R :=
  onPtr a .no fun b o => onRead (hp.vis b) .no fun ct => onSome (ct.get o) .no fun v => .ok v hp
/-- What loading or storing a type means. -/
inductive Kd where
  | agg (n : Nat)
  | one
  | bad
def kindT (P : Program) (t : TypeId) : Kd :=
  match isAgg? P t, size? P t with
  | some true, some n => fNat n fun n => .agg n
  | some false, some 1 => .one
  | _, _ => .bad
def xload (P : Program) (t : TypeId) (a : Value) (hp : Hp) : R :=
  Kd.rec (motive := fun _ => R) (fun n => xloadAgg n a hp) (xloadOne a hp) .no (kindT P t)

def isAggV (v : Value) : Option (List Value) := onAgg v none fun l => some l
/-- A value of one cell. -/
def oneC (v : Value) : Bool :=
  Value.rec (motive_1 := fun _ => Bool) (motive_2 := fun _ => Unit) (motive_3 := fun _ => Unit)
    (fun _ => true) (fun _ _ => true) (fun _ _ => true) (fun _ _ _ => true) (fun _ => true) (fun _ => true) (fun _ _ _ => true) (fun _ => true) (fun _ => true) (fun _ _ _ _ _ => true) true (fun _ _ _ => true) true (fun _ _ => false) (fun _ _ => false) (fun _ _ => ()) () (fun _ _ _ _ => ()) v
def cellsOf (v : Value) : List Value := onSome (isAggV v) [v] fun l => l

/-- Cells are written into block b from place o on. -/
def xwrite {β : Type} (hp : Hp) (b o : Nat) (l : List Value) (d : β) (k : Hp → β) : β :=
  onCells (hp.vis b) d fun ct n e =>
    pick (Nat.ble (Nat.add o l.length) n) (T.putList l ct o fun ct => hp.set b (some (.cells ct n e)) k) d

def xstoreAgg (n : Nat) (a x : Value) (hp : Hp) : R :=
  onPtr a .no fun b o => onAgg x .no fun l => pick (Nat.beq l.length n) (xwrite hp b o l .no fun hp => .ok undef hp) .no
def xstoreOne (a x : Value) (hp : Hp) : R :=
  onPtr a .no fun b o => onCells (hp.vis b) .no fun ct n e =>
    pick (andB (lt o n) (oneC x)) (T.put ct o (some x) fun ct => hp.set b (some (.cells ct n e)) fun hp => .ok undef hp) .no

def xnewCells {β : Type} (hp : Hp) (elem : TypeId) (l : List Value) (k : Nat → Hp → β) : β :=
  T.putList l .leaf 0 fun ct => fNat l.length fun n => xnew hp (.cells ct n elem) k
def ptrV (b o : Nat) : Value := .pointer (some ⟨b, o, none⟩)

def zero? (P : Program) (t : TypeId) : Option Value := (P.info? t).bind (·.zero)
/-- The zero, plain, its cells. -/
def zeroL (P : Program) (t : TypeId) : Option (List Value) :=
  match zero? P t with
  | some z => cond (all1 (cellsOf z)) (some (cellsOf z)) none
  | none => none

/-- The cells of a value. -/
def onCellsOf {β : Type} (v : Value) (d : β) (k : List Value → β) : β := onSome (isAggV v) (pick (oneC v) (k [v]) d) k
def xbox (elem : TypeId) (v : Value) (hp : Hp) : R := onCellsOf v .no fun l => xnewCells hp elem l fun b hp => .ok (ptrV b 0) hp

/-- Parts laid over a row of zeros. -/
def xfill {β : Type} (size : Nat) (d : β) : List (Nat × Value) → T Value → (T Value → β) → β
  | [], t, k => k t
  | (i, v) :: ps, t, k => onCellsOf v d fun l => pick (Nat.beq l.length size) (T.putList l t (Nat.mul i size) fun t => xfill size d ps t k) d

def zeros {β : Type} (z : List Value) : Nat → Nat → T Value → (T Value → β) → β
  | 0, _, t, k => k t
  | n + 1, o, t, k => T.putList z t o fun t => fNat (Nat.add o z.length) fun o => zeros z n o t k

def bnd (len : Nat) : List (Nat × Operand) → Bool
  | [] => true
  | (i, _) :: l => cond (Nat.blt i len) (bnd len l) false

def sliceV (b o l c : Nat) (hp : Hp) : R := fNat o fun o => fNat l fun l => fNat c fun c => .ok (.slice (some ⟨b, o, none⟩) l c) hp

def natV (v : Value) (d : R) (k : Nat → R) : R := onInt v d fun _ n => Int.rec (motive := fun _ => R) k (fun _ => d) n

def xmakeSlice (elem size : Nat) (zl : List Value) (bytes : Nat) (l c : Value) (hp : Hp) : R :=
  natV l .no fun l => natV c .no fun c =>
    pick (andB (Nat.ble l c) (andB (Nat.ble (Nat.mul c (Nat.add bytes size)) most) (Nat.ble c most)))
      (zeros zl c 0 .leaf fun ct => fNat (Nat.mul c size) fun n => xnew hp (.cells ct n elem) fun b hp => .ok (.slice (some ⟨b, 0, none⟩) l c) hp)
      .no

def xfieldAddr (off : Nat) (a : Value) (hp : Hp) : R := onPtr a .no fun b o => fNat (Nat.add o off) fun o => .ok (ptrV b o) hp
def xindexAddrA (len n : Nat) (x ix : Value) (hp : Hp) : R :=
  onPtr x .no fun b o => natV ix .no fun i => pick (lt i len) (fNat (Nat.add o (Nat.mul i n)) fun o => .ok (ptrV b o) hp) .no
def xindexAddrS (n : Nat) (x ix : Value) (hp : Hp) : R :=
  onSlice x .no fun a len _ => onSome a .no fun a => onAddr a .no fun b o => natV ix .no fun i => pick (lt i len) (fNat (Nat.add o (Nat.mul i n)) fun o => .ok (ptrV b o) hp) .no

def sizeIs (P : Program) (e n : Nat) : Bool :=
  match size? P e with
  | some m => Nat.beq m n
  | none => false
/-- A slice of a slice whose array's end is not known. -/
def xsliceOpen (P : Program) (n b o len l h : Nat) (hp : Hp) : R :=
  onCells (hp.vis b) .no fun _ _ e => pick (andB (sizeIs P e n) (Nat.ble h len)) (sliceV b (Nat.add o (Nat.mul l n)) (Nat.sub h l) big hp) .no
def xsliceFull (n b o cap l h : Nat) (hp : Hp) : R :=
  pick (Nat.ble h cap) (sliceV b (pick (Nat.beq cap l) o (Nat.add o (Nat.mul l n))) (Nat.sub h l) (Nat.sub cap l) hp) .no
def xslice2 (P : Program) (n b o len cap l h : Nat) (hp : Hp) : R :=
  pick (Nat.ble l h) (pick (Nat.beq cap big) (xsliceOpen P n b o len l h hp) (xsliceFull n b o cap l h hp)) .no
/-- With a third index. -/
def xslice3 (n b o len cap l h m : Nat) (hp : Hp) : R :=
  pick (andB (Nat.ble l h) (andB (Nat.ble h m) (andB (Nat.ble m (pick (Nat.beq cap big) len cap)) (andB (Nat.ble 1 len) (Nat.ble m most)))))
    (sliceV b (pick (Nat.beq m l) o (Nat.add o (Nat.mul l n))) (Nat.sub h l) (Nat.sub m l) hp) .no
def xsliceNil (_ cap l h : Nat) (hp : Hp) : R :=
  pick (andB (Nat.ble l h) (Nat.ble h cap)) (fNat (Nat.sub h l) fun a => fNat (Nat.sub cap l) fun c => .ok (.slice none a c) hp) .no
def xsliceArr (n b o len l h : Nat) (hp : Hp) : R :=
  pick (andB (Nat.ble l h) (andB (Nat.ble h len) (Nat.ble len most))) (sliceV b (pick (Nat.beq len l) o (Nat.add o (Nat.mul l n))) (Nat.sub h l) (Nat.sub len l) hp) .no

def ofBytes (l : List UInt8) : List Value := l.map fun b => .int .u8 (.ofNat b.toNat)

/-- The first n elements of a slice or a string. -/
def xfirst (hp : Hp) (size n : Nat) (x : Value) : Option (List Value) :=
  onStr x
    (onSlice x none fun a _ _ => onSome a (pick (Nat.beq n 0) (some []) none) fun a => onAddr a none fun b o => onRead (hp.vis b) none fun ct => readCells ct o (Nat.mul n size))
    fun s => pick (Nat.beq size 1) (fScals (ofBytes (s.data.toList.take n)) fun l => some l) none
def xlen (x : Value) : Option Nat := onStr x (onSlice x none fun _ n _ => some n) fun s => some s.data.toList.length

def notInt (P : Program) (t : TypeId) : Bool :=
  match P.underlying t with
  | some (.int _) => false
  | some _ => true
  | none => false

/-- Append where the array's end is not known: what the slice led to is given up. -/
def xappOpen (hp : Hp) (elem size : Nat) (b o sLen need : Nat) (new : List Value) : R :=
  onCells (hp.vis b) .no fun ct _ e => onSome (readCells ct o (Nat.mul sLen size)) .no fun old => pick (Nat.beq e elem)
    (hp.set b none fun hp => xnewCells hp elem (old ++ new) fun b hp => .ok (.slice (some ⟨b, 0, none⟩) need big) hp) .no
def xappExact (hp : Hp) (elem size : Nat) (b o sLen sCap need : Nat) (new : List Value) : R :=
  pick (Nat.ble need sCap)
    (fNat (Nat.add o (Nat.mul sLen size)) fun at_ => xwrite hp b at_ new .no fun hp => .ok (.slice (some ⟨b, o, none⟩) need sCap) hp)
    (onRead (hp.vis b) .no fun ct => onSome (readCells ct o (Nat.mul sLen size)) .no fun old =>
      xnewCells hp elem (old ++ new) fun b hp => .ok (.slice (some ⟨b, 0, none⟩) need big) hp)
def xappNil (hp : Hp) (elem sLen sCap n need : Nat) (new : List Value) : R :=
  pick (andB (Nat.beq sLen 0) (Nat.beq sCap 0))
    (pick (Nat.beq n 0) (.ok (.slice none 0 0) hp) (xnewCells hp elem new fun b hp => .ok (.slice (some ⟨b, 0, none⟩) need big) hp)) .no
def xappend (elem size : Nat) (s x : Value) (hp : Hp) : R :=
  onSlice s .no fun base sLen sCap => onSome (xlen x) .no fun n => onSome (xfirst hp size n x) .no fun new => fNat (Nat.add sLen n) fun need =>
    pick (Nat.ble need most)
      (onSome base (xappNil hp elem sLen sCap n need new) fun a => onAddr a .no fun b o =>
        pick (Nat.beq sCap big) (xappOpen hp elem size b o sLen need new) (xappExact hp elem size b o sLen sCap need new)) .no

def intV (n : Nat) : Value := .int .i64 (.ofNat n)
def xcopy (size : Nat) (d x : Value) (hp : Hp) : R :=
  onSlice d .no fun base dLen _ => onSome (xlen x) .no fun sl => fNat (pick (Nat.ble sl dLen) sl dLen) fun n => onSome (xfirst hp size n x) .no fun l =>
    onSome base (.ok (intV n) hp) fun a => onAddr a .no fun b o => xwrite hp b o l .no fun hp => .ok (intV n) hp

/-- A list so many times. -/
def repL (zl : List Value) : Nat → List Value
  | 0 => []
  | n + 1 => zl ++ repL zl n
def xclear (zl : List Value) (x : Value) (hp : Hp) : R :=
  onSlice x .no fun base n _ => onSome base (.ok undef hp) fun a => onAddr a .no fun b o => pick (Nat.beq n 0) (.ok undef hp) (xwrite hp b o (repL zl n) .no fun hp => .ok undef hp)

end
end Go.Proofs.YtjdkfdhfodmbeaaDoor.Ax
