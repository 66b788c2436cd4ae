import Derived.Test.YtmlpgfmbhpefmaaEvB
set_option linter.all false
namespace Go.Ev

/-! ### from the model's code -/
def posB : Nat → Nat → Pos
  | 0, _ => .h
  | f + 1, n => bif Nat.ble n 1 then .h else bif Nat.beq (n % 2) 0 then .o (posB f (n / 2)) else .i (posB f (n / 2))
def slot (s : Nat) : Option Pos := bif Nat.beq (posB 20 (s + 1)).ix s then some (posB 20 (s + 1)) else none
theorem slot_ix {s : Nat} {p : Pos} (h : slot s = some p) : p.ix = s := by
  unfold slot at h
  cases hb : Nat.beq (posB 20 (s + 1)).ix s with
  | true => rw [hb] at h; cases h; exact Nat.eq_of_beq_eq_true hb
  | false => rw [hb] at h; cases h
/-- A slot that is there. -/
def slotN (nt s : Nat) : Option Pos := bif Nat.blt s nt then slot s else none
theorem slotN_ix {nt s : Nat} {p : Pos} (h : slotN nt s = some p) : p.ix = s ∧ s < nt := by
  unfold slotN at h
  cases hb : Nat.blt s nt with
  | true => rw [hb] at h; exact ⟨slot_ix h, Nat.le_of_ble_eq_true hb⟩
  | false => rw [hb] at h; cases h
def slots (nt : Nat) : List Nat → Option (List Pos)
  | [] => some []
  | s :: l => match slotN nt s, slots nt l with
    | some p, some ps => some (p :: ps)
    | _, _ => none

def constD : Value → Option D
  | .bool x => some (.b x)
  | .int k n => some (.i k n)
  | .string s => some (.s s)
  | .slice none 0 0 => some .ns
  | .pointer none => some .np
  | .nilFunc => some .nf
  | .nilIface => some .ni
  | .map none => some .nm
  | _ => none
def constDs : List Value → Option (List D)
  | [] => some []
  | v :: vs => match constD v, constDs vs with
    | some d, some ds => some (d :: ds)
    | _, _ => none
def rx : Operand → Option RX
  | .tmp t => match slot t with
    | some p => some (.t p)
    | none => none
  | .const v => match constD v with
    | some d => some (.k d)
    | none => match v with
      | .agg cs => match constDs cs.toList with
        | some ds => some (.k (.ag ds))
        | none => none
      | _ => none
  | .func f => match slot f with
    | some p => some (.k (.fn p [] []))
    | none => none
  | .global _ => none
def rxs : List Operand → Option (List RX)
  | [] => some []
  | x :: l => match rx x, rxs l with
    | some p, some ps => some (p :: ps)
    | _, _ => none
def rxo : Option Operand → Option (Option RX)
  | none => some none
  | some x => match rx x with
    | some p => some (some p)
    | none => none

section
variable (P : Program)
def isRow (t : TypeId) : Option Bool :=
  match P.underlying t with
  | some (.struct _) => some true
  | some (.array _ _) => some true
  | some _ => some false
  | none => none
def szOf (t : TypeId) : Option Nat := (P.info? t).map (·.size)
def zeroD (t : TypeId) : Option (List D) :=
  match P.info? t with
  | some i => match i.zero with
    | some z => constDs z.cells.toList
    | none => none
  | none => none
def zeroV (t : TypeId) : Option D :=
  match P.info? t with
  | some i => match i.zero with
    | some (.agg cs) => match constDs cs.toList with
      | some ds => some (.ag ds)
      | none => none
    | some v => constD v
    | none => none
  | none => none
def fieldOf (s : TypeId) (f : Nat) : Option (Nat × TypeId) :=
  match P.underlying s with
  | some (.struct fs) => match fs[f]? with
    | some x => some (x.offset, x.type)
    | none => none
  | _ => none
def sliceEl (t : TypeId) : Option (TypeId × Nat) :=
  match P.underlying t with
  | some (.slice el) => match szOf P el with
    | some n => some (el, n)
    | none => none
  | _ => none
/-- Where the parts of a struct or an array lie, and how great they are. -/
def fldPlaces : List Field → Option (List (Nat × Nat))
  | [] => some []
  | f :: fs => match szOf P f.type, fldPlaces fs with
    | some n, some r => some ((f.offset, n) :: r)
    | _, _ => none
def placeOf (t : TypeId) : Option (Nat → Option (Nat × Nat)) :=
  match P.underlying t with
  | some (.struct fs) => (fldPlaces P fs.toList).map fun pl i => pl[i]?
  | some (.array _ el) => (szOf P el).map fun n i => some (i * n, n)
  | _ => none
def partsC (place : Nat → Option (Nat × Nat)) : List (Nat × Operand) → Option (List (Nat × Nat × RX))
  | [] => some []
  | (i, x) :: l => match place i, rx x, partsC place l with
    | some (o, n), some x, some l => some ((o, n, x) :: l)
    | _, _, _ => none
def reps (z : List D) : Nat → List D
  | 0 => []
  | n + 1 => z ++ reps z n

/-- The cells of a key's type. -/
def kindFs (kinds : TypeId → Option (List LK)) : List Field → Nat → Option (List LK)
  | [], _ => some []
  | f :: fs, acc => match kinds f.type with
    | some ks => bif Nat.beq f.offset acc && Nat.beq (P.cellsOf f.type) ks.length then match kindFs kinds fs (acc + ks.length) with
        | some r => some (ks ++ r)
        | none => none
      else none
    | none => none
def repK (ks : List LK) : Nat → List LK
  | 0 => []
  | n + 1 => ks ++ repK ks n
def kinds : Nat → TypeId → Option (List LK)
  | 0, _ => none
  | d + 1, t => match P.underlying t with
    | some .bool => some [.b]
    | some (.int k) => some [.i k]
    | some (.struct fs) => match kindFs P (kinds d) fs.toList 0 with
      | some ks => bif Nat.beq (P.cellsOf t) ks.length && fs.all (·.name != "_") then some ks else none
      | none => none
    | some (.array n e) => match kinds d e with
      | some ks => bif Nat.beq (P.cellsOf t) (n * ks.length) && Nat.beq (P.cellsOf e) ks.length then some (repK ks n) else none
      | none => none
    | _ => none
/-- The kinds of a row that can be a key. -/
def keyRow (t : TypeId) : Option (List LK) :=
  match isRow P t with
  | some true => bif P.keyTypeAt 20 t && !P.eqGuardType P.depth t then kinds P 20 t else none
  | _ => none
def eqOK (t : TypeId) : Option Nat :=
  match P.underlying t with
  | some .bool => some 0
  | some (.slice _) => some 1
  | some (.func ..) => some 2
  | some (.map ..) => some 3
  | some (.pointer _) => some 4
  | _ => none

def compO (nt : Nat) (o : Oper) : Option RO :=
  match o.op with
  | .move x => match o.dst, rx x with
    | some s, some x => (slotN nt s).map fun d => .mv d x
    | _, _ => none
  | .assign x => match o.dst, rx x with
    | some s, some x => (slotN nt s).map fun d => .mv d x
    | _, _ => none
  | .pick c a b => match o.dst, rx c, rx a, rx b with
    | some s, some c, some a, some b => (slotN nt s).map fun d => .pick d c a b
    | _, _, _, _ => none
  | .alloc t => match o.dst, zeroD P t with
    | some s, some zs => (slotN nt s).map fun d => .new d zs
    | _, _ => none
  | .box _ x => match o.dst, rx x with
    | some s, some x => (slotN nt s).map fun d => .box d x
    | _, _ => none
  | .build t ps => match o.dst, zeroD P t, placeOf P t with
    | some s, some zs, some pl => match partsC pl ps.toList with
      | some ps => (slotN nt s).map fun d => .bld d zs ps
      | none => none
    | _, _, _ => none
  | .buildSlice t len ps => match o.dst, sliceEl P t with
    | some s, some (el, n) => match zeroD P el, partsC (fun i => some (i * n, n)) ps.toList with
      | some z, some ps => bif Nat.ble (len * n) 16777216 && Nat.beq z.length n then (slotN nt s).map fun d => .bsl d n len (reps z len) ps else none
      | _, _ => none
    | _, _ => none
  | .load t x => match o.dst, rx x, isRow P t, szOf P t with
    | some s, some x, some true, some n => (slotN nt s).map fun d => .ldn d x n
    | some s, some x, some false, some _ => (slotN nt s).map fun d => .ld1 d x
    | _, _, _, _ => none
  | .store t x y => match o.dst, rx x, rx y, szOf P t with
    | none, some x, some y, some (n + 1) => some (.st x y (n + 1))
    | _, _, _, _ => none
  | .nilCheck x => match o.dst, rx x with
    | some s, some x => (slotN nt s).map fun d => .nilc d x
    | _, _ => none
  | .binOp op t x y _ => match o.dst, rx x, rx y with
    | some s, some x, some y => match P.underlying t with
      | some (.int _) => (slotN nt s).map fun d => .bin d op x y
      | _ => match op, keyRow P t with
        | .eql, some ks => (slotN nt s).map fun d => .eqr d false ks x y
        | .neq, some ks => (slotN nt s).map fun d => .eqr d true ks x y
        | .eql, none => match eqOK P t with
          | some tk => (slotN nt s).map fun d => .eq d false tk x y
          | none => none
        | .neq, none => match eqOK P t with
          | some tk => (slotN nt s).map fun d => .eq d true tk x y
          | none => none
        | _, _ => none
    | _, _, _ => none
  | .unOp op _ x => match o.dst, rx x with
    | some s, some x => (slotN nt s).map fun d => .un d op x
    | _, _ => none
  | .convert s' t x => match o.dst, rx x, P.underlying s', P.underlying t with
    | some s, some x, some (.int _), some (.int k) => (slotN nt s).map fun d => .cvi d k x
    | _, _, _, _ => none
  | .makeFunc (.func f) first caps => match o.dst, slot f, rxs first.toList, rxs caps.toList with
    | some s, some f, some a, some b => (slotN nt s).map fun d => .fnl d f a b
    | _, _, _, _ => none
  | .makeMap _ none => match o.dst with
    | some s => (slotN nt s).map fun d => .mkm d
    | none => none
  | .makeSlice t l c => match o.dst, sliceEl P t, rx l, rx c with
    | some s, some (el, n), some l, some c => match zeroD P el, P.info? el with
      | some z, some i => bif Nat.ble i.bytes 65536 && Nat.beq z.length n then (slotN nt s).map fun d => .mks d n z l c else none
      | _, _ => none
    | _, _, _, _ => none
  | .slice t x lo hi mx => match o.dst, rx x, rxo lo, rxo hi, rxo mx with
    | some s, some x, some lo, some hi, some mx => bif hi.isNone && mx.isSome then none else match P.underlying t with
      | some (.slice el) => match szOf P el with
        | some n => (slotN nt s).map fun d => .slc d n x lo hi mx
        | none => none
      | some (.array len el) => match szOf P el with
        | some n => (slotN nt s).map fun d => .sla d len n x lo hi mx
        | none => none
      | _ => none
    | _, _, _, _, _ => none
  | .fieldAddr t x f => match o.dst, rx x, fieldOf P t f with
    | some s, some x, some (k, ft) => match szOf P ft with
      | some (_ + 1) => (slotN nt s).map fun d => .fad d x k
      | _ => none
    | _, _, _ => none
  | .field t x f => match o.dst, rx x, fieldOf P t f with
    | some s, some x, some (k, ft) => match isRow P ft, szOf P ft with
      | some row, some n => (slotN nt s).map fun d => .fld d x k n row
      | _, _ => none
    | _, _, _ => none
  | .indexAddr t x i => match o.dst, rx x, rx i, P.underlying t with
    | some s, some x, some i, some (.slice el) => match szOf P el with
      | some n => (slotN nt s).map fun d => .ixs d n x i
      | none => none
    | some s, some x, some i, some (.array len el) => match szOf P el with
      | some n => (slotN nt s).map fun d => .ixa d len n x i
      | none => none
    | _, _, _, _ => none
  | .lookup t x i ok => match o.dst, rx x, rx i, P.underlying t with
    | some s, some x, some i, some (.map k el) => match zeroV P el, keyRow P k with
      | some zero, some ks => (slotN nt s).map fun d => .lkp d zero ok ks x i
      | _, _ => none
    | _, _, _, _ => none
  | .mapUpdate t m i v => match o.dst, rx m, rx i, rx v, P.underlying t with
    | none, some m, some i, some v, some (.map k _) => match keyRow P k with
      | some ks => some (.mup ks m i v)
      | none => none
    | _, _, _, _, _ => none
  | .extract x n => match o.dst, rx x with
    | some s, some x => (slotN nt s).map fun d => .ext d x n
    | _, _ => none
  | .index t x i => match o.dst, rx x, rx i with
    | some s, some x, some i => match P.underlying t with
      | some (.array len el) => match isRow P el, szOf P el with
        | some row, some z => (slotN nt s).map fun d => .ixv d len z row x i
        | _, _ => none
      | some .string => (slotN nt s).map fun d => .ixt d x i
      | _ => none
    | _, _, _ => none
  | .call c => match c.callee with
    | .value (.func f) => match slot f, rxs c.args.toList with
      | some f, some xs => match o.dst with
        | none => some (.cf none f xs)
        | some s => (slotN nt s).map fun d => .cf (some d) f xs
      | _, _ => none
    | .value x => match rx x, rxs c.args.toList with
      | some x, some xs => match o.dst with
        | none => some (.cv none x xs)
        | some s => (slotN nt s).map fun d => .cv (some d) x xs
      | _, _ => none
    | .builtin .len => match o.dst, c.args.toList, c.argTypes.toList with
      | some s, [x], [t] => match rx x, P.underlying t with
        | some x, some (.slice _) => (slotN nt s).map fun d => .len d x
        | _, _ => none
      | _, _, _ => none
    | .builtin .append => match o.dst, c.args.toList, c.argTypes.toList with
      | some s, [x, y], [t, t'] => match rx x, rx y, sliceEl P t, P.underlying t' with
        | some x, some y, some (el, n), some (.slice _) => match zeroD P el, P.info? el with
          | some z, some i => bif Nat.beq z.length n && Nat.ble i.bytes 65536 then (slotN nt s).map fun d => .app d n x y else none
          | _, _ => none
        | _, _, _, _ => none
      | _, _, _ => none
    | .builtin .copy => match c.args.toList, c.argTypes.toList with
      | [x, y], [t, t'] => match rx x, rx y, sliceEl P t, P.underlying t' with
        | some x, some y, some (_, n), some (.slice _) => match o.dst with
          | none => some (.cpy none n x y)
          | some s => (slotN nt s).map fun d => .cpy (some d) n x y
        | _, _, _, _ => none
      | _, _ => none
    | .builtin .max => match o.dst, c.args.toList, c.argTypes.toList with
      | some s, [x, y], _ => match rx x, rx y with
        | some x, some y => (slotN nt s).map fun d => .mx d x y
        | _, _ => none
      | _, _, _ => none
    | .builtin .min => match o.dst, c.args.toList, c.argTypes.toList with
      | some s, [x, y], _ => match rx x, rx y with
        | some x, some y => (slotN nt s).map fun d => .mn d x y
        | _, _ => none
      | _, _, _ => none
    | _ => none
  | _ => none

def compG (nt : Nat) (ops : Array Oper) (o : Oper) : RG :=
  match compO P nt o with
  | none => .u .bad
  | some r => match o.guard with
    | none => .u r
    | some (j, want) => match ops[j]? with
      | some oj => match oj.dst with
        | some t => match slot t with
          | some p => match o.dst with
            | none => .g p want none r
            | some s => match slotN nt s with
              | some d => .g p want (some d) r
              | none => .u .bad
          | none => .u .bad
        | none => .u .bad
      | none => .u .bad
def compL (nt : Nat) (ops : Array Oper) : List Oper → List RG
  | [] => []
  | o :: l => compG P nt ops o :: compL nt ops l
def compD (nt : Nat) (ops : Array Oper) (M : List Nat) : RC :=
  bif P.follows .mixedOrders then (bif masksOk M 0 ops.toList then (bif pairsOk M 0 (fps (compL P nt ops ops.toList) ops.toList) then .drw (compL P nt ops ops.toList) M else .reg [.u .bad]) else .reg [.u .bad]) else .reg [.u .bad]
def comp (nt : Nat) : Code → RC
  | .skip => .skip
  | .label _ => .skip
  | .ret => .ret
  | .exit id => .exit id
  | .region _ ops draw => bif draw then compD P nt ops (masksL [] ops.toList) else .reg (compL P nt ops ops.toList)
  | .seq a b => .seq (comp nt a) (comp nt b)
  | .cond c a b => match rx c with
    | some x => .cond x (comp nt a) (comp nt b)
    | none => .reg [.u .bad]
  | .block id c => .blk id (comp nt c)
  | .loop c => .loop (comp nt c)
  | .scope c => comp nt c
  | .rangeFunc f ps a b => match rx f, slots nt ps.toList with
    | some f, some ps => .rf f ps nt a b
    | _, _ => .reg [.u .bad]
  | .goto _ => .reg [.u .bad]
  | .refuse _ => .reg [.u .bad]
def compR : List ResultVar → Option (List RR)
  | [] => some []
  | .tmp t :: l => match slot t, compR l with
    | some p, some l => some (.t p :: l)
    | _, _ => none
  | .cell a t :: l => match slot a, isRow P t, szOf P t, compR l with
    | some p, some true, some n, some l => some (.cn p n :: l)
    | some p, some false, some _, some l => some (.c1 p :: l)
    | _, _, _, _ => none
def compF (f : Nat) : Option RF :=
  match P.funcs[f]? with
  | some fn => match fn.body, compR P fn.results.toList with
    | some c, some rs => bif fn.name == "runtime.NumGoroutine" then none else some ⟨fn.ntmps, comp P fn.ntmps c, rs, none⟩
    | _, _ => none
  | none => none
end
end Go.Ev
