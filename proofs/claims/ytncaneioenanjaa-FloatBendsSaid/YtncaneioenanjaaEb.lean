/- The engine, part 2: operations without types (AOp), how Go's are turned into them (compOp), and what they do (aop). Own work; imports no translation. -/
import Derived.Test.YtncaneioenanjaaEa
namespace Go.Proofs.Ytncaneioenanjaa
open Go.RowKit
set_option linter.unusedVariables false
set_option linter.unusedSimpArgs false

inductive AOpd where
  | tmp (t : Nat)
  | con (x : AV)
  deriving Inhabited

/-- How two values are compared: ones that are no aggregates (0 truth values, 1 numbers, 2 strings), or field by field. -/
inductive EqT where
  | sc (c : Nat)
  | nil
  | cons (off : Nat) (n : Option Nat) (h t : EqT)
  deriving Inhabited

inductive AOp where
  | eqn (neg : Bool) (k : Nat) (x y : AOpd)
  | eqs (neg : Bool) (T : EqT) (x y : AOpd)
  | mov (x : AOpd)
  | pick (c a b : AOpd)
  | box (x : AOpd)
  | build (zero : List AV) (parts : List (Nat × Nat × AOpd))
  | bsl (s : Nat) (ag : Bool) (zero : List AV) (len : Nat) (parts : List (Nat × AOpd))
  | load (n : Option Nat) (a : AOpd)
  | store (n : Nat) (a v : AOpd)
  | nilck (x : AOpd)
  | bin (op : BinOp) (x y : AOpd)
  | un (op : UnOp) (x : AOpd)
  | conv (k : IntKind) (x : AOpd)
  | mkfn (f : FuncId) (first caps : List AOpd)
  | mksl (s : Nat) (ag : Bool) (zero : List AV) (bytes : Nat) (len cap : AOpd)
  | slc (str : Bool) (s : Nat) (x : AOpd) (lo hi : Option AOpd)
  | faddr (x : AOpd) (off : Nat)
  | fld (x : AOpd) (off : Nat) (n : Option Nat)
  | iaddr (x i : AOpd) (s : Nat) (arr : Option Nat)
  | idx (x i : AOpd)
  | aidx (x i : AOpd) (len s : Nat) (n : Option Nat)
  | ext (x : AOpd) (i : Nat)
  | call (f : AOpd) (args : List AOpd)
  | app (s x : AOpd) (es bytes : Nat) (zero : List AV)
  | len (str : Bool) (x : AOpd)
  | mn (x y : AOpd)
  | mx (x y : AOpd)
  deriving Inhabited

structure AOper where
  dst : Option Nat
  op : AOp
  guard : Option (Nat × Bool)
  deriving Inhabited

/-! ### Turned -/
def AV.ofS : Value → Option AV
  | .int k n => some (.int k n)
  | .bool b => some (.bool b)
  | .string s => some (.str s)
  | .pointer none => some .nilp
  | .slice none 0 0 => some .nils
  | .nilFunc => some .nilf
  | _ => none
def AV.ofV : Value → Option AV
  | .agg cs => (cs.toList.mapM AV.ofS).map .agg
  | .tuple cs => (cs.toList.mapM AV.ofS).map .tup
  | v => AV.ofS v

def compOpd : Operand → Option AOpd
  | .tmp t => some (.tmp t)
  | .const v => (AV.ofV v).map .con
  | .func f => some (.con (.fn f [] []))
  | .global _ => none
def compOpds (xs : Array Operand) : Option (List AOpd) := xs.toList.mapM compOpd
def compOpt : Option Operand → Option (Option AOpd)
  | none => some none
  | some x => (compOpd x).map some

/-- How many cells an aggregate has; none if it is none. -/
def aggOf (P : Program) (t : TypeId) : Option (Option Nat) :=
  match P.underlying t, P.info? t with
  | some (.struct _), some i => some (some i.size)
  | some (.array _ _), some i => some (some i.size)
  | some _, some i => some none
  | _, _ => none
def zeroOf (P : Program) (t : TypeId) : Option (List AV) :=
  match P.info? t with
  | some i => match i.zero with
    | some v => if v.cells.size = i.size then v.cells.toList.mapM AV.ofS else none
    | none => none
  | none => none
def fieldOf (P : Program) (t : TypeId) (f : Nat) : Option Field :=
  match P.underlying t with
  | some (.struct fs) => fs[f]?
  | _ => none
def elemOf' (P : Program) (t : TypeId) : Option TypeId :=
  match P.underlying t with
  | some (.slice e) => some e
  | _ => none

def isEq : BinOp → Option Bool
  | .eql => some false
  | .neq => some true
  | _ => none
def compFs (P : Program) (g : TypeId → Option EqT) : List Field → Option EqT
  | [] => some .nil
  | f :: fs => if f.name = "_" then none else do
    let n ← aggOf P f.type
    let a ← g f.type
    let b ← compFs P g fs
    pure (.cons f.offset n a b)
def compEq (P : Program) : Nat → TypeId → Option EqT
  | 0, _ => none
  | d + 1, t => match P.underlying t with
    | some .bool => some (.sc 0)
    | some (.int _) => some (.sc 1)
    | some .string => some (.sc 2)
    | some (.struct fs) => if P.stoodInHeld t then none else compFs P (compEq P d) fs.toList
    | _ => none

def compOp (P : Program) (type : TypeId) : Op → Option AOp
  | .move x | .assign x => (compOpd x).map .mov
  | .pick c a b => do pure (.pick (← compOpd c) (← compOpd a) (← compOpd b))
  | .alloc t => do
    let z ← zeroOf P t
    match ← aggOf P t with
    | some _ => pure (.box (.con (.agg z)))
    | none => match z with
      | [x] => pure (.box (.con x))
      | _ => none
  | .box t x => (compOpd x).map .box
  | .build t parts => do
    let d ← P.underlying t
    match d with
    | .struct fs =>
      let z ← zeroOf P t
      let ps ← parts.toList.mapM fun (i, x) => do
        let f ← fs[i]?
        let j ← P.info? f.type
        pure (f.offset, j.size, ← compOpd x)
      if fs.all fun f => (P.info? f.type).isSome then pure (.build z ps) else none
    | .array _ e =>
      let z ← zeroOf P t
      let j ← P.info? e
      let ps ← parts.toList.mapM fun (i, x) => do pure (i * j.size, j.size, ← compOpd x)
      pure (.build z ps)
    | _ => none
  | .buildSlice t len parts => do
    let e ← elemOf' P t
    let i ← P.info? e
    let z ← zeroOf P e
    let g ← aggOf P e
    let ps ← parts.toList.mapM fun (i, x) => do pure (i, ← compOpd x)
    if 0 < i.size && decide (len * i.size ≤ 2 ^ 24) then pure (.bsl i.size g.isSome z len ps) else none
  | .load t a => do pure (.load (← aggOf P t) (← compOpd a))
  | .store t a v => do pure (.store (← P.info? t).size (← compOpd a) (← compOpd v))
  | .nilCheck x => (compOpd x).map .nilck
  | .binOp op t x y _ => do
    let x ← compOpd x
    let y ← compOpd y
    match isEq op, P.underlying t with
    | some n, some (.slice _) => some (.eqn n 0 x y)
    | some n, some (.pointer _) => some (.eqn n 1 x y)
    | some n, some (.func _ _ _) => some (.eqn n 2 x y)
    | some n, some (.struct _) => if P.eqGuardType P.depth t then none else (compEq P 8 t).map fun T => .eqs n T x y
    | some n, some .bool => some (.eqs n (.sc 0) x y)
    | _, _ => some (.bin op x y)
  | .unOp op _ x => do pure (.un op (← compOpd x))
  | .convert src dst x => do
    let _ ← P.underlying src
    let .int k ← P.underlying dst | none
    pure (.conv k (← compOpd x))
  | .makeFunc (.func f) first caps => do pure (.mkfn f (← compOpds first) (← compOpds caps))
  | .makeSlice t l c => do
    let e ← elemOf' P t
    let i ← P.info? e
    let z ← zeroOf P e
    let g ← aggOf P e
    if 0 < i.size then pure (.mksl i.size g.isSome z i.bytes (← compOpd l) (← compOpd c)) else none
  | .slice t x lo hi none => do
    match P.underlying t with
    | some .string => pure (.slc true 1 (← compOpd x) (← compOpt lo) (← compOpt hi))
    | some (.slice e) => do
      let i ← P.info? e
      pure (.slc false i.size (← compOpd x) (← compOpt lo) (← compOpt hi))
    | _ => none
  | .fieldAddr t x f => do
    let f ← fieldOf P t f
    let i ← P.info? f.type
    if i.size = 0 then none else pure (.faddr (← compOpd x) f.offset)
  | .field t x f => do
    let f ← fieldOf P t f
    pure (.fld (← compOpd x) f.offset (← aggOf P f.type))
  | .indexAddr t x i => do
    match P.underlying t with
    | some (.slice e) => do pure (.iaddr (← compOpd x) (← compOpd i) (← P.info? e).size none)
    | some (.array n e) => do pure (.iaddr (← compOpd x) (← compOpd i) (← P.info? e).size (some n))
    | _ => none
  | .index t x i => do
    match P.underlying t with
    | some .string => pure (.idx (← compOpd x) (← compOpd i))
    | some (.array n e) => do pure (.aidx (← compOpd x) (← compOpd i) n (← P.info? e).size (← aggOf P e))
    | _ => none
  | .extract t i => do pure (.ext (← compOpd t) i)
  | .call { callee := .value f, args, .. } => do pure (.call (← compOpd f) (← compOpds args))
  | .call { callee := .builtin .append, args, argTypes } =>
    match args.toList, argTypes.toList with
    | [s, x], [t, u] => do
      let e ← elemOf' P t
      let i ← P.info? e
      let z ← zeroOf P e
      if t = u && 0 < i.size then pure (.app (← compOpd s) (← compOpd x) i.size i.bytes z) else none
    | _, _ => none
  | .call { callee := .builtin .len, args, argTypes } =>
    match args.toList, argTypes.toList with
    | [x], [t] => do
      match P.underlying t with
      | some .string => pure (.len true (← compOpd x))
      | some (.slice _) => pure (.len false (← compOpd x))
      | _ => none
    | _, _ => none
  | .call { callee := .builtin .min, args, .. } =>
    match args.toList with
    | [x, y] => do pure (.mn (← compOpd x) (← compOpd y))
    | _ => none
  | .call { callee := .builtin .max, args, .. } =>
    match args.toList with
    | [x, y] => do pure (.mx (← compOpd x) (← compOpd y))
    | _ => none
  | _ => none

/-! ### Done -/
/-- What an operation comes to. -/
inductive Res where
  | val (v : AV)
  | box (cs : List AV)
  | mbox (cs : List AV) (n s : Nat)
  | lit (s : Nat) (els : List AV)
  | put (b : Nat) (cs : List AV)
  | app (s : Nat) (t : Option Nat) (els news : List AV)
  | call (f : FuncId) (args : List AV)

def AV.scalar : AV → Bool
  | .agg _ | .tup _ | .junk => false
  | _ => true
def AV.okCells (x : AV) : Bool := x.cells.all AV.scalar && (match x with | .tup _ | .junk => false | _ => true)

def evd (a : List AV) : AOpd → AV
  | .tmp t => a.getD t .junk
  | .con x => x

def cmpI (op : BinOp) (x y : Int) : Option Bool :=
  match op with
  | .eql => some (x == y)
  | .neq => some (x != y)
  | .lss => some (decide (x < y))
  | .leq => some (decide (x ≤ y))
  | .gtr => some (decide (x > y))
  | .geq => some (decide (x ≥ y))
  | _ => none
def binA (op : BinOp) : AV → AV → Option AV
  | .int k x, .int k' y =>
    match op with
    | .shl => if y < 0 then none else some (.int k (k.wrap (x * 2 ^ (min y.toNat k.bits))))
    | .shr => if y < 0 then none else some (.int k (x.fdiv (2 ^ (min y.toNat k.bits))))
    | _ => if k ≠ k' then none else
      match op with
      | .add => some (.int k (k.wrap (x + y)))
      | .sub => some (.int k (k.wrap (x - y)))
      | .mul => some (.int k (k.wrap (x * y)))
      | .quo => if y = 0 then none else some (.int k (k.wrap (x.tdiv y)))
      | .rem => if y = 0 then none else some (.int k (x.tmod y))
      | .and => some (.int k (k.wrap (BitVec.ofInt k.bits x &&& BitVec.ofInt k.bits y).toNat))
      | .or => some (.int k (k.wrap (BitVec.ofInt k.bits x ||| BitVec.ofInt k.bits y).toNat))
      | .xor => some (.int k (k.wrap (BitVec.ofInt k.bits x ^^^ BitVec.ofInt k.bits y).toNat))
      | _ => (cmpI op x y).map .bool
  | .str x, .str y =>
    match op with
    | .add => if ((x.size + y.size : Nat) : Int) > IntKind.i64.max then none else some (.str (x ++ y))
    | .eql => some (.bool (x.toList == y.toList))
    | .neq => some (.bool !(x.toList == y.toList))
    | .lss => some (.bool (Op.bytesLess x.toList y.toList))
    | _ => none
  | _, _ => none

/-- One part laid into an aggregate. -/
def layAt (cs : List AV) (off : Nat) : List AV → List AV
  | [] => cs
  | x :: l => layAt (cs.set off x) (off + 1) l
def fillA (a : AOpd → AV) (cs : List AV) : List (Nat × Nat × AOpd) → Option (List AV)
  | [] => some cs
  | (off, s, x) :: l =>
    let v := a x
    if v.okCells && decide (v.cells.length = s ∧ off + s ≤ cs.length) then fillA a (layAt cs off v.cells) l else none

def takeCells (cs : List AV) (o : Nat) : Option Nat → Option AV
  | none => cs[o]?
  | some n => if o + n ≤ cs.length then some (.agg ((cs.drop o).take n)) else none

/-- The elements of a slice of n elements of s cells. -/
def chunk (ag : Bool) (s : Nat) : Nat → List AV → List AV
  | 0, _ => []
  | n + 1, cs => (if ag then .agg (cs.take s) else cs.headD .junk) :: chunk ag s n (cs.drop s)

def rep (z : List AV) : Nat → List AV
  | 0 => []
  | n + 1 => z ++ rep z n

/-- The new elements, as the operand holds them. -/
def newsOf : AV → Option (List AV)
  | .sl els _ => some els
  | .nils => some []
  | _ => none

def isNilA : Nat → AV → Option Bool
  | 0, .nils => some true
  | 0, .sl (_ :: _) _ => some false
  | 0, .ms _ _ _ => some false
  | 1, .nilp => some true
  | 1, .ptr _ _ => some false
  | 1, .rop _ => some false
  | 2, .nilf => some true
  | 2, .fn _ _ _ => some false
  | _, _ => none
def eqSc : Nat → AV → AV → Option Bool
  | 0, .bool a, .bool b => some (a == b)
  | 1, .int k a, .int k' b => if k = k' then some (a == b) else none
  | 2, .str a, .str b => some (a.toList == b.toList)
  | _, _, _ => none
def eqT : EqT → AV → AV → Option Bool
  | .sc c, x, y => eqSc c x y
  | .nil, .agg _, .agg _ => some true
  | .cons off n h t, .agg xs, .agg ys =>
    match takeCells xs off n, takeCells ys off n with
    | some x, some y => match eqT h x y, eqT t (.agg xs) (.agg ys) with
      | some p, some q => some (p && q)
      | _, _ => none
    | _, _ => none
  | _, _, _ => none

def aop (op : AOp) (a : AOpd → AV) (S : St) : Option Res :=
  match op with
  | .eqn n k x y => match isNilA k (a x), isNilA k (a y) with
    | some p, some q => if p || q then some (.val (.bool (if n then !(p && q) else p && q))) else none
    | _, _ => none
  | .eqs n T x y => (eqT T (a x) (a y)).map fun b => .val (.bool (if n then !b else b))
  | .mov x => some (.val (a x))
  | .pick c x y => match a c with
    | .bool b => some (.val (if b then a x else a y))
    | _ => none
  | .box x => match a x with
    | .junk => none
    | v => some (.box v.cells)
  | .build z ps => (fillA a z ps).map fun cs => .val (.agg cs)
  | .bsl s ag z len ps => (fillA a (rep z len) (ps.map fun (i, x) => (i * s, s, x))).bind fun cs => if ag = true ∨ (s = 1 ∧ cs.all AV.scalar = true) then some (.lit s (chunk ag s len cs)) else none
  | .load n x => match a x with
    | .rop cs => (takeCells cs 0 n).map .val
    | .ptr b o => (S.bx[b]?).bind fun cs => (takeCells cs o n).map .val
    | _ => none
  | .store n x y => match a x with
    | .ptr b o =>
      let v := a y
      (S.bx[b]?).bind fun cs => if v.okCells && decide (v.cells.length = n ∧ 0 < n ∧ o + n ≤ cs.length) then some (.put b (layAt cs o v.cells)) else none
    | _ => none
  | .nilck x => match a x with
    | .ptr b o => some (.val (.ptr b o))
    | .rop cs => some (.val (.rop cs))
    | .fn f ps caps => some (.val (.fn f ps caps))
    | _ => none
  | .bin op x y => (binA op (a x) (a y)).map .val
  | .un op x => match op, a x with
    | .neg, .int k n => some (.val (.int k (k.wrap (0 - n))))
    | .not, .bool b => some (.val (.bool !b))
    | _, _ => none
  | .conv k x => match a x with
    | .int _ n => some (.val (.int k (k.wrap n)))
    | _ => none
  | .mkfn f ps caps => some (.val (.fn f (ps.map a) (caps.map a)))
  | .mksl s ag z by_ l c => match a l, a c with
    | .int _ n, .int _ m => if 0 ≤ n ∧ n ≤ m ∧ m ≤ 65536 ∧ by_ ≤ 65536 then
        (if n = 0 then some (.lit s []) else some (.mbox (rep z m.toNat) n.toNat s)) else none
    | _, _ => none
  | .slc true _ x lo hi => match a x with
    | .str b =>
      match (match lo with | none => some 0 | some l => match a l with | .int _ n => if 0 ≤ n then some n.toNat else none | _ => none),
        (match hi with | none => some b.size | some h => match a h with | .int _ n => if 0 ≤ n then some n.toNat else none | _ => none) with
      | some l, some h => if l ≤ h ∧ h ≤ b.size then some (.val (.str (b.extract l h))) else none
      | _, _ => none
    | _ => none
  | .slc false s x lo hi => match a x with
    | .sl els _ =>
      match (match lo with | none => some 0 | some l => match a l with | .int _ n => if 0 ≤ n then some n.toNat else none | _ => none),
        (match hi with | none => some els.length | some h => match a h with | .int _ n => if 0 ≤ n then some n.toNat else none | _ => none) with
      | some l, some h => if l ≤ h ∧ h ≤ els.length ∧ els.all (fun e => decide (e.cells.length = s)) then some (.val (.sl ((els.take h).drop l) none)) else none
      | _, _ => none
    | _ => none
  | .faddr x off => match a x with
    | .ptr b o => some (.val (.ptr b (o + off)))
    | .rop cs => if off ≤ cs.length then some (.val (.rop (cs.drop off))) else none
    | _ => none
  | .fld x off n => match a x with
    | .agg cs => (takeCells cs off n).map .val
    | _ => none
  | .iaddr x i s none => match a x, a i with
    | .sl els _, .int _ n => if 0 ≤ n ∧ n < els.length then
        (els[n.toNat]?).bind fun e => if e.cells.length = s then some (.val (.rop e.cells)) else none else none
    | .ms b m s', .int _ n => if 0 ≤ n ∧ n < m ∧ s = s' then some (.val (.ptr b (n.toNat * s))) else none
    | _, _ => none
  | .iaddr x i s (some m) => match a x, a i with
    | .ptr b o, .int _ n => if 0 ≤ n ∧ n < m then some (.val (.ptr b (o + n.toNat * s))) else none
    | .rop cs, .int _ n => if 0 ≤ n ∧ n < m ∧ n.toNat * s ≤ cs.length then some (.val (.rop (cs.drop (n.toNat * s)))) else none
    | _, _ => none
  | .idx x i => match a x, a i with
    | .str b, .int _ n => if 0 ≤ n then (b[n.toNat]?).map fun c => .val (.int .u8 c.toNat) else none
    | _, _ => none
  | .aidx x i m s n => match a x, a i with
    | .agg cs, .int _ j => if 0 ≤ j ∧ j < m then (takeCells cs (j.toNat * s) n).map .val else none
    | _, _ => none
  | .ext x i => match a x with
    | .tup vs => (vs[i]?).map .val
    | _ => none
  | .call f args => match a f with
    | .fn g ps caps => some (.call g (ps ++ args.map a ++ caps))
    | _ => none
  | .app s x es by_ z =>
    match newsOf (a x) with
    | none => none
    | some news =>
      if news.all (fun e => decide (e.cells.length = es) && e.okCells) && decide (by_ ≤ 65536) then
        match a s with
        | .nils => if news.length ≤ 65536 then (if news.length = 0 then some (.val .nils) else some (.app es none [] (news.map AV.plain))) else none
        | .sl els (some t) => if S.lv[t]? = some (els.length, es) ∧ els.length + news.length ≤ 65536 ∧ els.all (fun e => decide (e.cells.length = es)) then
            (if news.length = 0 then some (.val (.sl els (some t))) else some (.app es (some t) els (news.map AV.plain))) else none
        | _ => none
      else none
  | .len true x => match a x with
    | .str b => some (.val (.int .i64 b.size))
    | _ => none
  | .len false x => match a x with
    | .sl els _ => some (.val (.int .i64 els.length))
    | .nils => some (.val (.int .i64 0))
    | .ms _ n _ => some (.val (.int .i64 n))
    | _ => none
  | .mn x y => match a x, a y with
    | .int k m, .int _ n => some (.val (.int k (if n < m then n else m)))
    | _, _ => none
  | .mx x y => match a x, a y with
    | .int k m, .int _ n => some (.val (.int k (if n > m then n else m)))
    | _, _ => none
end Go.Proofs.Ytncaneioenanjaa
