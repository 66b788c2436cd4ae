import Derived.Test.YtkbgaadfednjpaaGreatDoorEvUA
set_option linter.all false
set_option maxHeartbeats 8000000
noncomputable section
namespace Go.Ev
inductive Cell where
 | o (d : D) (lo : Nat)
 | c (d : D) (lo hi : Nat)
def Cell.d : Cell -> D
 | .o d _ => d
 | .c d _ _ => d
def Cell.has : Cell -> Nat -> Bool
 | .o _ lo, st => Nat.ble lo st
 | .c _ lo hi, st => Nat.ble lo st && Nat.ble st hi
inductive Ex where
 | normal
 | ret
 | exit (id : Nat)
inductive LS where
 | ready
 | busy
 | done
 | gone
inductive C where
 | cells (ro : Bool) (cs : List Cell) (cur : Nat)
 | map (es : List (D × D))
 | lp (sl : T D) (ps : List Pos) (nt : Nat) (asg body : Code) (st : LS) (jump : Option Ex)
 | hole
structure X where
 sl : T D
 ob : T C
 nx : Pos
 lg : Option (T Bool)
def eD {β : Type} (n : Nat) (k : Nat -> β) : β := Nat.casesOn n (k 0) fun m => k (Nat.succ m)
def fF : IntKind -> Nat
 | .i8 => 127
 | .i16 => 32767
 | .i32 => 2147483647
 | .i64 => 9223372036854775807
 | .u8 => 255
 | .u16 => 65535
 | .u32 => 4294967295
 | .u64 => 18446744073709551615
def eQ {β : Type} (k : IntKind) (r : Int) (f : D -> β) : β :=
 Int.casesOn r
  (fun m => bif Nat.ble m (fF k) then eD m fun m => f (.i k (.ofNat m)) else Int.casesOn (k.wrap (.ofNat m)) (fun m => eD m fun m => f (.i k (.ofNat m))) (fun m => eD m fun m => f (.i k (.negSucc m))))
  (fun m => bif k.signed && Nat.ble m (fF k) then eD m fun m => f (.i k (.negSucc m)) else Int.casesOn (k.wrap (.negSucc m)) (fun m => eD m fun m => f (.i k (.ofNat m))) (fun m => eD m fun m => f (.i k (.negSucc m))))
def DB {β : Type} (k : IntKind) (r : Int) (f : D -> β) : β := Int.casesOn r (fun m => eD m fun m => f (.i k (.ofNat m))) (fun m => eD m fun m => f (.i k (.negSucc m)))
def EE : Int -> Int -> Bool
 | .ofNat m, .ofNat n => Nat.blt m n
 | .ofNat _, .negSucc _ => false
 | .negSucc _, .ofNat _ => true
 | .negSucc m, .negSucc n => Nat.blt n m
def yU : Int -> Int -> Bool
 | .ofNat m, .ofNat n => Nat.beq m n
 | .negSucc m, .negSucc n => Nat.beq m n
 | _, _ => false
def kR {β : Type} (b : Bool) (f : D -> β) : β := Bool.casesOn b (f (.b false)) (f (.b true))
def sI : IntKind -> IntKind -> Bool
 | .i8, .i8 => true
 | .i16, .i16 => true
 | .i32, .i32 => true
 | .i64, .i64 => true
 | .u8, .u8 => true
 | .u16, .u16 => true
 | .u32, .u32 => true
 | .u64, .u64 => true
 | _, _ => false
def JW (a b : Int) : Int := Int.casesOn a (fun m => Int.casesOn b (fun n => .ofNat (Nat.add m n)) (fun n => Int.add (.ofNat m) (.negSucc n))) (fun m => Int.add (.negSucc m) b)
def HQ (a b : Int) : Int := Int.casesOn a (fun m => Int.casesOn b (fun n => bif Nat.ble n m then .ofNat (Nat.sub m n) else .negSucc (Nat.sub (Nat.sub n m) 1)) (fun n => Int.sub (.ofNat m) (.negSucc n))) (fun m => Int.sub (.negSucc m) b)
def IK (a b : Int) : Int := Int.casesOn a (fun m => Int.casesOn b (fun n => .ofNat (Nat.mul m n)) (fun n => Int.mul (.ofNat m) (.negSucc n))) (fun m => Int.mul (.negSucc m) b)
def IQ (a b : Int) : Int := Int.casesOn a (fun m => Int.casesOn b (fun n => .ofNat (Nat.div m n)) (fun n => Int.tdiv (.ofNat m) (.negSucc n))) (fun m => Int.tdiv (.negSucc m) b)
def Ma (a b : Int) : Int := Int.casesOn a (fun m => Int.casesOn b (fun n => .ofNat (Nat.mod m n)) (fun n => Int.tmod (.ofNat m) (.negSucc n))) (fun m => Int.tmod (.negSucc m) b)
def bT : IntKind -> Nat
 | .i8 => 255
 | .i16 => 65535
 | .i32 => 4294967295
 | .i64 => 18446744073709551615
 | .u8 => 255
 | .u16 => 65535
 | .u32 => 4294967295
 | .u64 => 18446744073709551615
def mH (k : IntKind) (a b : Int) : Int := ((BitVec.ofInt k.bits a &&& BitVec.ofInt k.bits b).toNat : Int)
def qU (k : IntKind) (a b : Int) : Int := ((BitVec.ofInt k.bits a ||| BitVec.ofInt k.bits b).toNat : Int)
def pU (k : IntKind) (a b : Int) : Int := ((BitVec.ofInt k.bits a ^^^ BitVec.ofInt k.bits b).toNat : Int)
def nE (k : IntKind) (a b : Int) : Int := ((BitVec.ofInt k.bits a &&& ~~~BitVec.ofInt k.bits b).toNat : Int)
def BC (slow : IntKind -> Int -> Int -> Int) (fast : IntKind -> Nat -> Nat -> Nat) (k : IntKind) (a b : Int) : Int :=
 Int.casesOn a (fun m => Int.casesOn b (fun n => bif Nat.ble m (bT k) && Nat.ble n (bT k) then .ofNat (fast k m n) else slow k (.ofNat m) (.ofNat n)) (fun n => slow k (.ofNat m) (.negSucc n))) (fun m => slow k (.negSucc m) b)
def Gi : IntKind -> Int -> Int -> Int := BC mH fun _ m n => Nat.land m n
def Mn : IntKind -> Int -> Int -> Int := BC qU fun _ m n => Nat.lor m n
def LL : IntKind -> Int -> Int -> Int := BC pU fun _ m n => Nat.xor m n
def Dm : IntKind -> Int -> Int -> Int := BC nE fun k m n => Nat.land m (Nat.sub (bT k) n)
def vM : IntKind -> Nat
 | .i8 => 8
 | .i16 => 16
 | .i32 => 32
 | .i64 => 64
 | .u8 => 8
 | .u16 => 16
 | .u32 => 32
 | .u64 => 64
def Cr (a : Int) (n : Nat) : Int := Int.casesOn a (fun m => .ofNat (Nat.mul m (Nat.pow 2 n))) (fun m => Int.mul (.negSucc m) (2 ^ n))
def Df (a : Int) (n : Nat) : Int := Int.casesOn a (fun m => .ofNat (Nat.div m (Nat.pow 2 n))) (fun m => Int.fdiv (.negSucc m) (2 ^ n))
def pG (a b : Nat) : Nat := bif Nat.ble a b then a else b
def dF (op : BinOp) (k : IntKind) (a b : Int) (f : D -> Option X) : Option X :=
 match op with
 | .add => eQ k (JW a b) f
 | .sub => eQ k (HQ a b) f
 | .mul => eQ k (IK a b) f
 | .quo => bif yU b (.ofNat 0) then none else eQ k (IQ a b) f
 | .rem => bif yU b (.ofNat 0) then none else DB k (Ma a b) f
 | .and => eQ k (Gi k a b) f
 | .or => eQ k (Mn k a b) f
 | .xor => eQ k (LL k a b) f
 | .andNot => eQ k (Dm k a b) f
 | .eql => kR (yU a b) f
 | .neq => kR (!yU a b) f
 | .lss => kR (EE a b) f
 | .leq => kR (!EE b a) f
 | .gtr => kR (EE b a) f
 | .geq => kR (!EE a b) f
 | .shl => none
 | .shr => none
def yF (op : BinOp) (k : IntKind) (a b : Int) (f : D -> Option X) : Option X :=
 match b with
 | .ofNat n => match op with
   | .shl => eQ k (Cr a (pG n (vM k))) f
   | .shr => DB k (Df a (pG n (vM k))) f
   | _ => none
 | .negSucc _ => none
def fO (op : BinOp) (x y : D) (f : D -> Option X) : Option X :=
 match x, y with
 | .i k a, .i k' b => match op with
   | .shl => yF .shl k a b f
   | .shr => yF .shr k a b f
   | op => bif sI k k' then dF op k a b f else none
 | _, _ => none
def AU (k : IntKind) : Int -> Bool
 | .ofNat m => Nat.ble m (fF k)
 | .negSucc m => k.signed && Nat.ble m (fF k)
def Of : LK -> D -> D -> Option Bool
 | .b, .b x, .b y => some (x == y)
 | .i k, .i k1 a, .i k2 b => bif sI k1 k && sI k2 k && AU k a && AU k b then some (yU a b) else none
 | _, _, _ => none
def Fu : List LK -> List D -> List D -> Option Bool
 | [], [], [] => some true
 | k :: ks, x :: xs, y :: ys => match Of k x y, Fu ks xs ys with
   | some a, some b => some (a && b)
   | _, _ => none
 | _, _, _ => none
def BW (ks : List LK) : D -> D -> Option Bool
 | .ag xs, .ag ys => Fu ks xs ys
 | _, _ => none
def Mw : Nat -> D -> D -> Option Bool
 | 0, .b x, .b y => some (x == y)
 | 1, .ns, .ns => some true
 | 1, .sl .., .ns => some false
 | 1, .em, .ns => some false
 | 1, .lst _ (_ :: _), .ns => some false
 | 1, .ns, .sl .. => some false
 | 1, .ns, .em => some false
 | 2, .nf, .nf => some true
 | 2, .fn .., .nf => some false
 | 3, .nm, .nm => some true
 | 3, .mp _, .nm => some false
 | 4, .np, .np => some true
 | 4, .pt .., .np => some false
 | 4, .np, .pt .. => some false
 | _, _, _ => none
def pN {α : Type} (l : List α) : Nat -> Option α := List.rec (fun _ => none) (fun x _ ih n => Nat.casesOn n (some x) ih) l
def dB {α : Type} (n : Nat) : List α -> List α := Nat.rec (fun l => l) (fun _ ih l => List.casesOn l [] fun _ l => ih l) n
def dV {β : Type} (st n : Nat) : List Cell -> (List D -> Option β) -> Option β :=
 Nat.rec (fun _ k => k []) (fun _ ih l k => List.casesOn l none fun c l => Cell.casesOn c
  (fun d lo => bif Nat.ble lo st then ih l fun ds => k (d :: ds) else none)
  (fun d lo hi => bif Nat.ble lo st && Nat.ble st hi then ih l fun ds => k (d :: ds) else none)) n
def putsK {β : Type} (st : Nat) (mk : D -> Cell) (new : List D) : List Cell -> (List Cell -> Option β) -> Option β :=
 List.rec (fun l k => k l) (fun d _ ih l k => List.casesOn l none fun c l => Cell.casesOn c
  (fun _ lo => bif Nat.ble lo st then ih l fun l => k (mk d :: l) else none)
  (fun _ lo hi => bif Nat.ble lo st && Nat.ble st hi then ih l fun l => k (mk d :: l) else none)) new
def eL {β : Type} (st : Nat) (mk : D -> Cell) (new : List D) (off : Nat) : List Cell -> (List Cell -> Option β) -> Option β :=
 Nat.rec (putsK st mk new) (fun _ ih l k => List.casesOn l none fun c l => ih l fun l => k (c :: l)) off
def mA {β : Type} (hi : Nat) (l : List Cell) : (List Cell -> Option β) -> Option β :=
 List.rec (fun k => k []) (fun c _ ih k => ih fun l => Cell.casesOn c (fun d lo => k (.c d lo hi :: l)) (fun d lo h => k (.c d lo (bif Nat.ble h hi then h else hi) :: l))) l
def iV {β : Type} (mk : D -> Cell) (new : List D) (l : List Cell) : (List Cell -> Option β) -> Option β :=
 List.rec (fun k => k l) (fun d _ ih k => ih fun l => k (mk d :: l)) new
def lW {β : Type} (st cur : Nat) (new : List D) (n : Nat) : List Cell -> (List Cell -> Option β) -> Option β :=
 Nat.rec (fun l k => mA (Nat.pred cur) (dB (List.length new) l) fun l => iV (fun d => .o d cur) new l k)
  (fun _ ih l k => List.casesOn l none fun c l => Cell.casesOn c (fun d lo => bif Nat.ble lo st then ih l fun l => k (.o d lo :: l) else none) (fun _ _ _ => none)) n
def rG {β : Type} (st : Nat) (c : Cell) (k : D -> Option β) : Option β :=
 Cell.casesOn c (fun d lo => bif Nat.ble lo st then k d else none) (fun d lo hi => bif Nat.ble lo st && Nat.ble st hi then k d else none)
def oZ {β : Type} (new : List D) : (List Cell -> Option β) -> Option β := iV (fun d => .o d 0) new []
def oC : D -> Option (List D)
 | .ag cs => some cs
 | .tp _ => none
 | .any => none
 | d => some [d]
def Ai {β : Type} (n : Nat) : List D -> (List D -> Option β) -> Option β :=
 Nat.rec (fun _ k => k []) (fun _ ih l k => List.casesOn l none fun d l => ih l fun ds => k (d :: ds)) n
def Jd {β : Type} (new : List D) : List D -> (List D -> Option β) -> Option β :=
 List.rec (fun l k => k l) (fun d _ ih l k => List.casesOn l none fun _ l => ih l fun l => k (d :: l)) new
def yA {β : Type} (new : List D) (off : Nat) : List D -> (List D -> Option β) -> Option β :=
 Nat.rec (Jd new) (fun _ ih l k => List.casesOn l none fun c l => ih l fun l => k (c :: l)) off
def bC (sl : T D) (x : RX) : Option D := RX.casesOn x (fun p => sl.get p) (fun d => some d)
def pK (sl : T D) (xs : List RX) : Option (List D) :=
 List.rec (some []) (fun x _ ih => Option.casesOn (bC sl x) none fun d => Option.casesOn ih none fun ds => some (d :: ds)) xs
def uF {β : Type} (sl : T D) (ps : List (Nat × Nat × RX)) : List D -> (List D -> Option β) -> Option β :=
 List.rec (fun l k => k l) (fun p _ ih l k => match p with
  | (off, n, x) => match bC sl x with
    | some d => match oC d with
      | some cs => bif Nat.beq cs.length n then yA cs off l fun l => ih l k else none
      | none => none
    | none => none) ps
def aZ (sl : T D) (ob : T C) (nx : Pos) (lg : Option (T Bool)) (d : Pos) (v : D) : Option X := T.setK d v sl fun sl => some ⟨sl, ob, nx, lg⟩
def rQ (lg : Option (T Bool)) (id : Pos) (k : Option (T Bool) -> Option X) : Option X :=
 Option.casesOn lg (k none) fun L => T.setK id true L fun L => k (some L)
def gH (lg : Option (T Bool)) (id : Pos) (k : Option (T Bool) -> Option X) : Option X :=
 Option.casesOn lg (k none) fun L => Option.casesOn (L.get id) (T.setK id false L fun L => k (some L)) fun _ => k (some L)
def eK (sl : T D) (ob : T C) (nx : Pos) (lg : Option (T Bool)) (c : C) (d : Pos) (v : D) : Option X :=
 rQ lg nx fun lg => T.setK nx c ob fun ob => Pos.succK nx fun nx' => aZ sl ob nx' lg d v
def oP (sl : T D) (ob : T C) (nx : Pos) (lg : Option (T Bool)) (id : Pos) (c : C) : Option X :=
 rQ lg id fun lg => T.setK id c ob fun ob => some ⟨sl, ob, nx, lg⟩
def eP (sl : T D) (ob : T C) (nx : Pos) (lg : Option (T Bool)) (id : Pos) (c : C) (d : Pos) (v : D) : Option X :=
 rQ lg id fun lg => T.setK id c ob fun ob => aZ sl ob nx lg d v
def EZ (n : Int) (len : Nat) : Option Nat :=
 match n with
 | .ofNat m => bif Nat.blt m len then some m else none
 | .negSucc _ => none
def vJ (sl : T D) (x : Option RX) (dflt : Nat) (k : Nat -> Option X) : Option X :=
 match x with
 | none => k dflt
 | some x => match bC sl x with
   | some (.i _ (.ofNat m)) => k m
   | _ => none
def pI (ob : T C) (z : Nat) (y : D) (k : Option Pos -> Nat -> List D -> Option X) : Option X :=
 match y with
 | .ns => k none 0 []
 | .em => k none 0 []
 | .sl id off len st z' => bif Nat.beq z z' then
    match ob.get id with
    | some (.cells _ cs _) => dV st (Nat.mul len z) (dB off cs) fun ds => k (some id) len ds
    | _ => none
   else none
 | .lst z' es => bif Nat.beq z z' && Nat.beq (List.length (List.flatten es)) (Nat.mul (List.length es) z) then k none (List.length es) (List.flatten es) else none
 | _ => none
def rK (lg : Option (T Bool)) (id : Option Pos) (k : Option (T Bool) -> Option X) : Option X :=
 match id with
 | none => k lg
 | some id => gH lg id k
def Fg (d : Pos) (x : RX) (sl : T D) (ob : T C) (nx : Pos) (lg : Option (T Bool)) : Option X := match bC sl x with
 | some v => aZ sl ob nx lg d v
 | none => none
def jS (d : Pos) (c : RX) (x : RX) (y : RX) (sl : T D) (ob : T C) (nx : Pos) (lg : Option (T Bool)) : Option X := match bC sl c with
 | some (.b true) => match bC sl x with
   | some v => aZ sl ob nx lg d v
   | none => none
 | some (.b false) => match bC sl y with
   | some v => aZ sl ob nx lg d v
   | none => none
 | _ => none
def AA (d : Pos) (zs : List D) (sl : T D) (ob : T C) (nx : Pos) (lg : Option (T Bool)) : Option X := oZ zs fun cs => eK sl ob nx lg (.cells false cs 1) d (.pt nx 0 0)
def zY (d : Pos) (x : RX) (sl : T D) (ob : T C) (nx : Pos) (lg : Option (T Bool)) : Option X := match bC sl x with
 | some v => match oC v with
   | some ds => oZ ds fun cs => eK sl ob nx lg (.cells false cs 1) d (.pt nx 0 0)
   | none => none
 | none => none
def zN (d : Pos) (zs : List D) (ps : List (Nat × Nat × RX)) (sl : T D) (ob : T C) (nx : Pos) (lg : Option (T Bool)) : Option X := uF sl ps zs fun ds => aZ sl ob nx lg d (.ag ds)
def AP (d : Pos) (z : Nat) (len : Nat) (zs : List D) (ps : List (Nat × Nat × RX)) (sl : T D) (ob : T C) (nx : Pos) (lg : Option (T Bool)) : Option X := uF sl ps zs fun ds => oZ ds fun cs => eK sl ob nx lg (.cells false cs 1) d (.sl nx 0 len 0 z)
def tR (d : Pos) (x : RX) (sl : T D) (ob : T C) (nx : Pos) (lg : Option (T Bool)) : Option X := match bC sl x with
 | some (.pt id off st) => match ob.get id with
   | some (.cells _ cs _) => match pN cs off with
     | some c => rG st c fun v => gH lg id fun lg => aZ sl ob nx lg d v
     | none => none
   | _ => none
 | some (.pl r k) => match pN r k with
   | some v => aZ sl ob nx lg d v
   | none => none
 | _ => none
def zJ (d : Pos) (x : RX) (n : Nat) (sl : T D) (ob : T C) (nx : Pos) (lg : Option (T Bool)) : Option X := match bC sl x with
 | some (.pt id off st) => match ob.get id with
   | some (.cells _ cs _) => dV st n (dB off cs) fun ds => gH lg id fun lg => aZ sl ob nx lg d (.ag ds)
   | _ => none
 | some (.pl r k) => Ai n (dB k r) fun ds => aZ sl ob nx lg d (.ag ds)
 | _ => none
def By (x : RX) (y : RX) (n : Nat) (sl : T D) (ob : T C) (nx : Pos) (lg : Option (T Bool)) : Option X := match bC sl x, bC sl y with
 | some (.pt id off st), some v => match ob.get id, oC v with
   | some (.cells false cs cur), some ds => bif Nat.beq ds.length n then
      bif Nat.beq (Nat.succ st) cur then eL st (fun d => .o d st) ds off cs fun cs => oP sl ob nx lg id (.cells false cs cur)
      else eL st (fun d => .c d st st) ds off cs fun cs => oP sl ob nx lg id (.cells false cs cur)
     else none
   | _, _ => none
 | _, _ => none
def tT (d : Pos) (x : RX) (sl : T D) (ob : T C) (nx : Pos) (lg : Option (T Bool)) : Option X := match bC sl x with
 | some .np => none
 | some .ni => none
 | some .nf => none
 | some (.pt id off st) => aZ sl ob nx lg d (.pt id off st)
 | some (.fn f a b) => aZ sl ob nx lg d (.fn f a b)
 | some (.yl id) => aZ sl ob nx lg d (.yl id)
 | some (.pl r k) => aZ sl ob nx lg d (.pl r k)
 | _ => none
def dO (d : Pos) (op : BinOp) (x : RX) (y : RX) (sl : T D) (ob : T C) (nx : Pos) (lg : Option (T Bool)) : Option X := match bC sl x, bC sl y with
 | some a, some b => fO op a b fun v => aZ sl ob nx lg d v
 | _, _ => none
def AY (d : Pos) (neg : Bool) (tk : Nat) (x : RX) (y : RX) (sl : T D) (ob : T C) (nx : Pos) (lg : Option (T Bool)) : Option X := match bC sl x, bC sl y with
 | some a, some b => match Mw tk a b with
   | some e => kR (bif neg then !e else e) fun v => aZ sl ob nx lg d v
   | none => none
 | _, _ => none
def sY (d : Pos) (neg : Bool) (ks : List LK) (x : RX) (y : RX) (sl : T D) (ob : T C) (nx : Pos) (lg : Option (T Bool)) : Option X := match bC sl x, bC sl y with
 | some a, some b => match BW ks a b with
   | some e => kR (bif neg then !e else e) fun v => aZ sl ob nx lg d v
   | none => none
 | _, _ => none
def wQ (d : Pos) (op : UnOp) (x : RX) (sl : T D) (ob : T C) (nx : Pos) (lg : Option (T Bool)) : Option X := match op, bC sl x with
 | .not, some (.b a) => kR (!a) fun v => aZ sl ob nx lg d v
 | .neg, some (.i k n) => eQ k (HQ (.ofNat 0) n) fun v => aZ sl ob nx lg d v
 | _, _ => none
def tS (d : Pos) (k : IntKind) (x : RX) (sl : T D) (ob : T C) (nx : Pos) (lg : Option (T Bool)) : Option X := match bC sl x with
 | some (.i _ n) => eQ k n fun v => aZ sl ob nx lg d v
 | _ => none
def An (d : Pos) (f : Pos) (first : List RX) (caps : List RX) (sl : T D) (ob : T C) (nx : Pos) (lg : Option (T Bool)) : Option X := match pK sl first, pK sl caps with
 | some a, some b => aZ sl ob nx lg d (.fn f a b)
 | _, _ => none
def AF (d : Pos) (sl : T D) (ob : T C) (nx : Pos) (lg : Option (T Bool)) : Option X := eK sl ob nx lg (.map []) d (.mp nx)
def Ad (d : Pos) (z : Nat) (zs : List D) (l : RX) (c : RX) (sl : T D) (ob : T C) (nx : Pos) (lg : Option (T Bool)) : Option X := match bC sl l, bC sl c with
 | some (.i _ (.ofNat l)), some (.i _ (.ofNat c)) => bif Nat.beq l c && Nat.ble l 65536 then
    Nat.rec (fun k => k []) (fun _ ih k => ih fun l => iV (fun d => .o d 0) zs l k) l fun cs => eK sl ob nx lg (.cells false cs 1) d (.sl nx 0 l 0 z)
   else none
 | _, _ => none
def sO (d : Pos) (z : Nat) (x : RX) (lo : Option RX) (hi : Option RX) (mx : Option RX) (sl : T D) (ob : T C) (nx : Pos) (lg : Option (T Bool)) : Option X := match bC sl x with
 | some (.sl id off len st z') => bif Nat.beq z z' then vJ sl lo 0 fun l => vJ sl hi len fun h =>
    bif Nat.ble l h && Nat.ble h len then match mx with
     | none => bif Nat.blt l h || Nat.beq l 0 then eD (Nat.add off (Nat.mul l z)) fun off => eD (Nat.sub h l) fun n => aZ sl ob nx lg d (.sl id off n st z) else none
     | some mx => vJ sl (some mx) 0 fun m => bif Nat.ble h m && Nat.ble m len then
        bif Nat.blt l m then eD (Nat.add off (Nat.mul l z)) fun off => eD (Nat.sub h l) fun n => aZ sl ob nx lg d (.sl id off n st z) else aZ sl ob nx lg d .em
       else none
    else none
   else none
 | some (.lst z' es) => bif Nat.beq z z' then vJ sl lo 0 fun l => vJ sl hi (List.length es) fun h =>
    bif Nat.ble l h && Nat.ble h (List.length es) then match mx with
     | none => aZ sl ob nx lg d (.lst z ((es.drop l).take (Nat.sub h l)))
     | some _ => none
    else none
   else none
 | some .ns => vJ sl lo 0 fun l => vJ sl hi 0 fun h => vJ sl mx 0 fun m => bif Nat.beq l 0 && Nat.beq h 0 && Nat.beq m 0 then aZ sl ob nx lg d .ns else none
 | some .em => vJ sl lo 0 fun l => vJ sl hi 0 fun h => vJ sl mx 0 fun m => bif Nat.beq l 0 && Nat.beq h 0 && Nat.beq m 0 then aZ sl ob nx lg d .em else none
 | _ => none
def lL (z : Nat) : Nat -> List D -> List (List D)
 | 0, _ => []
 | n + 1, l => l.take z :: lL z n (l.drop z)
def zS (d : Pos) (n : Nat) (z : Nat) (x : RX) (lo : Option RX) (hi : Option RX) (mx : Option RX) (sl : T D) (ob : T C) (nx : Pos) (lg : Option (T Bool)) : Option X := match bC sl x with
 | some (.pt id off st) => match ob.get id with
   | some (.cells _ cs _) => vJ sl lo 0 fun l => vJ sl hi n fun h => match mx with
     | none => bif Nat.ble l h && Nat.ble h n && Nat.blt l n && Nat.blt 0 z then match pN cs (Nat.pred (Nat.add off (Nat.mul n z))) with
        | some c => rG st c fun _ => eD (Nat.add off (Nat.mul l z)) fun off => eD (Nat.sub h l) fun m => gH lg id fun lg => aZ sl ob nx lg d (.sl id off m st z)
        | none => none
       else none
     | some _ => none
   | _ => none
 | some (.pl r off) => vJ sl lo 0 fun l => vJ sl hi n fun h => match mx with
    | none => bif Nat.ble l h && Nat.ble h n && Nat.blt l n && Nat.ble (Nat.add off (Nat.mul n z)) (List.length r) then aZ sl ob nx lg d (.lst z (lL z (Nat.sub h l) (r.drop (Nat.add off (Nat.mul l z))))) else none
    | some _ => none
 | _ => none
def sN (d : Pos) (x : RX) (k : Nat) (sl : T D) (ob : T C) (nx : Pos) (lg : Option (T Bool)) : Option X := match bC sl x with
 | some (.pt id off st) => eD (Nat.add off k) fun off => aZ sl ob nx lg d (.pt id off st)
 | some (.pl r off) => eD (Nat.add off k) fun off => aZ sl ob nx lg d (.pl r off)
 | _ => none
def zR (d : Pos) (x : RX) (off : Nat) (n : Nat) (row : Bool) (sl : T D) (ob : T C) (nx : Pos) (lg : Option (T Bool)) : Option X := match bC sl x with
 | some (.ag cs) => bif row then Ai n (dB off cs) fun ds => aZ sl ob nx lg d (.ag ds) else match pN cs off with
   | some v => aZ sl ob nx lg d v
   | none => none
 | _ => none
def tF (d : Pos) (z : Nat) (x : RX) (i : RX) (sl : T D) (ob : T C) (nx : Pos) (lg : Option (T Bool)) : Option X := match bC sl x, bC sl i with
 | some (.sl id off len st z'), some (.i _ n) => bif Nat.beq z z' then match EZ n len with
    | some m => eD (Nat.add off (Nat.mul m z)) fun off => aZ sl ob nx lg d (.pt id off st)
    | none => none
   else none
 | some (.lst z' es), some (.i _ n) => bif Nat.beq z z' then match EZ n (List.length es) with
    | some m => match pN es m with
      | some r => aZ sl ob nx lg d (.pl r 0)
      | none => none
    | none => none
   else none
 | _, _ => none
def sX (d : Pos) (len : Nat) (z : Nat) (x : RX) (i : RX) (sl : T D) (ob : T C) (nx : Pos) (lg : Option (T Bool)) : Option X := match bC sl x, bC sl i with
 | some (.pt id off st), some (.i _ n) => match EZ n len with
    | some m => eD (Nat.add off (Nat.mul m z)) fun off => aZ sl ob nx lg d (.pt id off st)
    | none => none
 | some (.pl r off), some (.i _ n) => match EZ n len with
    | some m => eD (Nat.add off (Nat.mul m z)) fun off => aZ sl ob nx lg d (.pl r off)
    | none => none
 | _, _ => none
def Ab (d : Pos) (x : RX) (n : Nat) (sl : T D) (ob : T C) (nx : Pos) (lg : Option (T Bool)) : Option X := match bC sl x with
 | some (.tp vs) => match pN vs n with
   | some v => aZ sl ob nx lg d v
   | none => none
 | _ => none
def tE (d : Pos) (x : RX) (sl : T D) (ob : T C) (nx : Pos) (lg : Option (T Bool)) : Option X := match bC sl x with
 | some .ns => aZ sl ob nx lg d (.i .i64 (.ofNat 0))
 | some .em => aZ sl ob nx lg d (.i .i64 (.ofNat 0))
 | some (.sl _ _ n _ _) => aZ sl ob nx lg d (.i .i64 (.ofNat n))
 | some (.lst _ es) => eD (List.length es) fun n => aZ sl ob nx lg d (.i .i64 (.ofNat n))
 | _ => none
def dP (d : Pos) (z : Nat) (x : RX) (y : RX) (sl : T D) (ob : T C) (nx : Pos) (lg : Option (T Bool)) : Option X := match bC sl x, bC sl y with
 | some x, some y => pI ob z y fun idy k ds => rK lg idy fun lg => match k with
   | 0 => match x with
     | .ns => aZ sl ob nx lg d .ns
     | .em => aZ sl ob nx lg d .em
     | .sl id off len st z' => bif Nat.beq z z' then match ob.get id with
        | some (.cells false _ _) => gH lg id fun lg => aZ sl ob nx lg d (.sl id off len st z')
        | _ => none
       else none
     | _ => none
   | k' + 1 => match x with
     | .ns => bif Nat.ble (Nat.succ k') 2147483648 then oZ ds fun cs => eK sl ob nx lg (.cells false cs 1) d (.sl nx 0 (Nat.succ k') 0 z) else none
     | .em => bif Nat.ble (Nat.succ k') 2147483648 then oZ ds fun cs => eK sl ob nx lg (.cells false cs 1) d (.sl nx 0 (Nat.succ k') 0 z) else none
     | .sl id off len st z' => bif Nat.beq z z' && Nat.ble (Nat.add len (Nat.succ k')) 2147483648 then match ob.get id with
        | some (.cells false cs cur) => lW st cur ds (Nat.add off (Nat.mul len z)) cs fun cs => eD (Nat.add len (Nat.succ k')) fun n => eD (Nat.succ cur) fun cur' => eP sl ob nx lg id (.cells false cs cur') d (.sl id off n cur z)
        | _ => none
       else none
     | _ => none
 | _, _ => none
def AV (d : Option Pos) (z : Nat) (x : RX) (y : RX) (sl : T D) (ob : T C) (nx : Pos) (lg : Option (T Bool)) : Option X := match bC sl x, bC sl y with
 | some (.sl id off len st z'), some y => pI ob z y fun idy k ds => rK lg idy fun lg =>
    bif Nat.beq z z' && Nat.ble k len && Nat.blt 0 (List.length ds) then match ob.get id with
     | some (.cells false cs cur) =>
       let fin := fun cs => match d with
        | none => oP sl ob nx lg id (.cells false cs cur)
        | some d => eP sl ob nx lg id (.cells false cs cur) d (.i .i64 (.ofNat k))
       bif Nat.beq (Nat.succ st) cur then eL st (fun d => .o d st) ds off cs fin else eL st (fun d => .c d st st) ds off cs fin
     | _ => none
    else none
 | _, _ => none
def Bs (d : Pos) (x : RX) (y : RX) (sl : T D) (ob : T C) (nx : Pos) (lg : Option (T Bool)) : Option X := match bC sl x, bC sl y with
 | some (.i k a), some (.i k' b) => bif sI k k' then bif EE a b then aZ sl ob nx lg d (.i k b) else aZ sl ob nx lg d (.i k a) else none
 | _, _ => none
def Bp (d : Pos) (x : RX) (y : RX) (sl : T D) (ob : T C) (nx : Pos) (lg : Option (T Bool)) : Option X := match bC sl x, bC sl y with
 | some (.i k a), some (.i k' b) => bif sI k k' then bif EE b a then aZ sl ob nx lg d (.i k b) else aZ sl ob nx lg d (.i k a) else none
 | _, _ => none
def AO (ks : List LK) (key : D) (es : List (D × D)) : Option (Option D) :=
 List.rec (some none) (fun e _ ih => match BW ks key e.1 with
  | some true => some (some e.2)
  | some false => ih
  | none => none) es
def Da {β : Type} (ks : List LK) (key v : D) (es : List (D × D)) : (List (D × D) -> Option β) -> Option β :=
 List.rec (fun k => k [(key, v)]) (fun e l ih k => match BW ks key e.1 with
  | some true => k ((key, v) :: l)
  | some false => ih fun l => k (e :: l)
  | none => none) es
def Ag (d : Pos) (zero : D) (ok : Bool) (ks : List LK) (x : RX) (i : RX) (sl : T D) (ob : T C) (nx : Pos) (lg : Option (T Bool)) : Option X := match bC sl x, bC sl i with
 | some (.mp id), some key => match ob.get id, BW ks key key with
   | some (.map es), some _ => match AO ks key es with
     | some (some v) => gH lg id fun lg => bif ok then aZ sl ob nx lg d (.tp [v, .b true]) else aZ sl ob nx lg d v
     | some none => gH lg id fun lg => bif ok then aZ sl ob nx lg d (.tp [zero, .b false]) else aZ sl ob nx lg d zero
     | none => none
   | _, _ => none
 | _, _ => none
def zK (ks : List LK) (x : RX) (i : RX) (v : RX) (sl : T D) (ob : T C) (nx : Pos) (lg : Option (T Bool)) : Option X := match bC sl x, bC sl i, bC sl v with
 | some (.mp id), some key, some v => match ob.get id, BW ks key key with
   | some (.map es), some _ => Da ks key v es fun es => oP sl ob nx lg id (.map es)
   | _, _ => none
 | _, _, _ => none
def Az (d : Pos) (len z : Nat) (row : Bool) (x i : RX) (sl : T D) (ob : T C) (nx : Pos) (lg : Option (T Bool)) : Option X := match bC sl x, bC sl i with
 | some (.ag cs), some (.i _ n) => match EZ n len with
   | some m => bif row then Ai z (dB (Nat.mul m z) cs) fun ds => aZ sl ob nx lg d (.ag ds) else match pN cs (Nat.mul m z) with
     | some v => aZ sl ob nx lg d v
     | none => none
   | none => none
 | _, _ => none
def Af (d : Pos) (x i : RX) (sl : T D) (ob : T C) (nx : Pos) (lg : Option (T Bool)) : Option X := match bC sl x, bC sl i with
 | some (.s b), some (.i _ n) => match n with
   | .ofNat m => match pN b.data.toList m with
     | some v => eD v.toNat fun n => aZ sl ob nx lg d (.i .u8 (.ofNat n))
     | none => none
   | .negSucc _ => none
 | _, _ => none
def Aj (d : Pos) (x : RX) (sl : T D) (ob : T C) (nx : Pos) (lg : Option (T Bool)) : Option X := match bC sl x with
 | some .ns => aZ sl ob nx lg d (.i .i64 (.ofNat 0))
 | _ => none
def zU (d : Pos) (z : Nat) (zs : List D) (x : RX) (y : RX) (sl : T D) (ob : T C) (nx : Pos) (lg : Option (T Bool)) : Option X := match bC sl x, bC sl y with
 | some .ns, some (.i .i64 (.ofNat m)) => bif Nat.blt 0 m && Nat.ble m 65536 then
    Nat.rec (fun k => k []) (fun _ ih k => ih fun l => iV (fun d => .o d 0) zs l k) m fun cs => eK sl ob nx lg (.cells false cs 1) d (.sl nx 0 m 0 z)
   else none
 | _, _ => none
def Au (z : Nat) (zs : List D) (x : RX) (sl : T D) (ob : T C) (nx : Pos) (lg : Option (T Bool)) : Option X := match bC sl x with
 | some (.sl id off len st z') => bif Nat.beq z z' && Nat.blt 0 (List.length (fQ zs len)) then match ob.get id with
    | some (.cells false cs cur) =>
      bif Nat.beq (Nat.succ st) cur then eL st (fun d => .o d st) (fQ zs len) off cs (fun cs => oP sl ob nx lg id (.cells false cs cur)) else eL st (fun d => .c d st st) (fQ zs len) off cs (fun cs => oP sl ob nx lg id (.cells false cs cur))
    | _ => none
    else none
 | _ => none
def NF (_ : Option Pos) (_ : Pos) (_ : List RX) (_ : T D) (_ : T C) (_ : Pos) (_ : Option (T Bool)) : Option X := none
def Ol (_ : Option Pos) (_ : RX) (_ : List RX) (_ : T D) (_ : T C) (_ : Pos) (_ : Option (T Bool)) : Option X := none
def GJ  (_ : T D) (_ : T C) (_ : Pos) (_ : Option (T Bool)) : Option X := none
def step (r : RO) : T D -> T C -> Pos -> Option (T Bool) -> Option X :=
 RO.casesOn r Fg jS AA zY zN AP tR zJ By tT dO AY sY wQ tS An AF Ad sO zS sN zR tF sX Ab tE dP AV Bs Bp Ag zK Az Af Aj zU Au NF Ol GJ
def Cs {β : Type} (ds : List D) : Pos -> T D -> (T D -> Option β) -> Option β :=
 List.rec (fun _ t k => k t) (fun d _ ih p t k => T.setK p d t fun t => Pos.succK p fun p => ih p t k) ds
def results (rs : List RR) (sl : T D) (ob : T C) (lg : Option (T Bool)) : (List D -> Option (T Bool) -> Option X) -> Option X :=
 List.rec (fun k => k [] lg) (fun r _ ih k => match r with
  | .t p => match sl.get p with
    | some d => ih fun ds lg => k (d :: ds) lg
    | none => none
  | .c1 p => match sl.get p with
    | some (.pt id off st) => match ob.get id with
      | some (.cells _ cs _) => match pN cs off with
        | some c => rG st c fun v => ih fun ds lg => gH lg id fun lg => k (v :: ds) lg
        | none => none
      | _ => none
    | _ => none
  | .cn p n => match sl.get p with
    | some (.pt id off st) => match ob.get id with
      | some (.cells _ cs _) => dV st n (dB off cs) fun es => ih fun ds lg => gH lg id fun lg => k (.ag es :: ds) lg
      | _ => none
    | _ => none) rs
def one (ds : List D) : D :=
 match ds with
 | [d] => d
 | ds => .tp ds
def iY (sl : T D) (ob : T C) (nx : Pos) (lg : Option (T Bool)) (d : Option Pos) (v : D) : Option X :=
 match d with
 | none => some ⟨sl, ob, nx, lg⟩
 | some d => aZ sl ob nx lg d v
def wM {α : Type} (m : T Unit) : T α -> T α :=
 T.rec (fun _ => .e) (fun _ v _ gl gr t => T.casesOn t .e fun l' v' r' => .n (gl l') (Option.casesOn v none fun _ => v') (gr r')) m
theorem nR {α : Type} : ∀ (m : T Unit) (t : T α) (p : Pos) {x : α}, (wM m t).get p = some x -> t.get p = some x
 | .e, t, p, x, h => by
   have h : (T.e : T α).get p = some x := h
   rw [T.get_e] at h; cases h
 | .n _ _ _, .e, p, x, h => by
   have h : (T.e : T α).get p = some x := h
   rw [T.get_e] at h; cases h
 | .n l v r, .n l' v' r', p, x, h => by
   cases p with
   | h =>
     have h : (Option.casesOn v none fun _ => v' : Option α) = some x := h
     cases v with
     | none => cases h
     | some _ => exact h
   | o p => exact nR l l' p h
   | i p => exact nR r r' p h
def mpO {α β : Type} (f : α -> Option β) : List α -> Option (List β)
 | [] => some []
 | a :: l => match f a with
   | some b => match mpO f l with
     | some r => some (b :: r)
     | none => none
   | none => none
def vC (st : Nat) : Nat -> List Cell -> Option (List D × List Cell)
 | 0, l => some ([], l)
 | _ + 1, [] => none
 | n + 1, c :: l => bif c.has st then match vC st n l with
   | some (ds, r) => some (c.d :: ds, r)
   | none => none
   else none
def xC (st z : Nat) : Nat -> List Cell -> Option (List (List D))
 | 0, _ => some []
 | n + 1, l => match vC st z l with
   | some (r, l') => match xC st z n l' with
     | some es => some (r :: es)
     | none => none
   | none => none
def Ej (ob : T C) : Nat -> D -> Option D
 | 0, _ => none
 | n + 1, d => match d with
   | .sl id off len st z => match ob.get id with
     | some (.cells _ cs _) => match xC st z len (dB off cs) with
       | some es => match mpO (mpO (Ej ob n)) es with
         | some fs => some (.lst z fs)
         | none => none
       | none => none
     | _ => none
   | .lst z es => match mpO (mpO (Ej ob n)) es with
     | some fs => some (.lst z fs)
     | none => none
   | .ag cs => match mpO (Ej ob n) cs with
     | some ds => some (.ag ds)
     | none => none
   | .tp cs => match mpO (Ej ob n) cs with
     | some ds => some (.tp ds)
     | none => none
   | .b x => some (.b x)
   | .i k n => some (.i k n)
   | .ns => some .ns
   | .em => some .em
   | .np => some .np
   | .nf => some .nf
   | .nm => some .nm
   | _ => none
def Bt (ob : T C) : Nat -> D -> List Pos -> List Pos
 | 0, _, r => r
 | n + 1, d, r => match d with
   | .sl id _ _ _ _ => match ob.get id with
     | some (.cells _ cs _) => cs.foldl (fun r c => Bt ob n c.d r) (id :: r)
     | _ => r
   | .ag cs => cs.foldl (fun r d => Bt ob n d r) r
   | .tp cs => cs.foldl (fun r d => Bt ob n d r) r
   | .lst _ es => es.foldl (fun r ds => ds.foldl (fun r d => Bt ob n d r) r) r
   | _ => r
def sZ : List Pos -> T Unit
 | [] => .e
 | p :: l => T.set p () (sZ l)
def Mm : IntKind -> Nat
 | .i8 => 0
 | .i16 => 1
 | .i32 => 2
 | .i64 => 3
 | .u8 => 4
 | .u16 => 5
 | .u32 => 6
 | .u64 => 7
def Gw : Int -> Int -> Bool
 | .ofNat m, .ofNat n => Nat.beq m n
 | .negSucc m, .negSucc n => Nat.beq m n
 | _, _ => false
def Fj {α : Type} (f : α -> α -> Bool) : List α -> List α -> Bool
 | [], [] => true
 | a :: l, b :: m => f a b && Fj f l m
 | _, _ => false
def oW : Nat -> D -> D -> Bool
 | 0, _, _ => false
 | n + 1, a, b => match a with
   | .b x => match b with
     | .b y => x == y
     | _ => false
   | .i k x => match b with
     | .i l y => Nat.beq (Mm k) (Mm l) && Gw x y
     | _ => false
   | .ns => match b with
     | .ns => true
     | _ => false
   | .em => match b with
     | .em => true
     | _ => false
   | .np => match b with
     | .np => true
     | _ => false
   | .nf => match b with
     | .nf => true
     | _ => false
   | .nm => match b with
     | .nm => true
     | _ => false
   | .ag x => match b with
     | .ag y => Fj (oW n) x y
     | _ => false
   | .tp x => match b with
     | .tp y => Fj (oW n) x y
     | _ => false
   | .lst z x => match b with
     | .lst u y => Nat.beq z u && Fj (Fj (oW n)) x y
     | _ => false
   | _ => false
def Mq (ds : List D) : List (List D × D) -> Option D
 | [] => none
 | m :: l => bif Fj (oW 12) ds m.1 then some m.2 else Mq ds l
def Iz (mem : List (List D × D)) (ob : T C) (args : List D) : Option (D × List Pos) :=
 match mem with
 | [] => none
 | m :: l => match mpO (Ej (wM (sZ (args.foldl (fun r d => Bt ob 12 d r) [])) ob) 12) args with
   | some ds => match Mq ds (m :: l) with
     | some v => some (v, args.foldl (fun r d => Bt ob 12 d r) [])
     | none => none
   | none => none
def uS : List Pos -> Option (T Bool) -> (Option (T Bool) -> Option X) -> Option X
 | [], lg, k => k lg
 | p :: l, lg, k => gH lg p fun lg => uS l lg k
def rO (FP : T RF) (ex : RC -> X -> Option (Ex × X)) (f : Pos) (args : List D) (ob : T C) (nx : Pos) (lg : Option (T Bool)) (k : D -> T C -> Pos -> Option (T Bool) -> Option X) : Option X :=
 match FP.get f with
 | some rf => match rf.kn with
   | some v => match args with
     | [] => k v ob nx lg
     | _ => none
   | none => match Iz rf.mem ob args with
   | some (v, ids) => uS ids lg fun lg => k v ob nx lg
   | none => bif Nat.ble (List.length args) rf.nt then Cs args .h .e fun sl => match ex rf.body ⟨sl, ob, nx, lg⟩ with
   | some (.normal, ⟨sl, ob, nx, lg⟩) => results rf.res sl ob lg fun ds lg => k (one ds) ob nx lg
   | some (.ret, ⟨sl, ob, nx, lg⟩) => results rf.res sl ob lg fun ds lg => k (one ds) ob nx lg
   | _ => none
   else none
 | none => none
def vT (ps : List Pos) : List D -> T D -> (T D -> Option X) -> Option X :=
 List.rec (fun ds t k => List.casesOn ds (k t) fun _ _ => none) (fun p _ ih ds t k => List.casesOn ds none fun d ds => T.setK p d t fun t => ih ds t k) ps
def Cy (P : Program) (FP : T RF) (ex : RC -> X -> Option (Ex × X)) (v : D) (args : List D) (ob : T C) (nx : Pos) (lg : Option (T Bool)) (k : D -> T C -> Pos -> Option (T Bool) -> Option X) : Option X :=
 match v with
 | .fn f first caps => rO FP ex f (first ++ (args ++ caps)) ob nx lg k
 | .yl id => match ob.get id with
   | some (.lp sl ps nt asg body .ready _) => vT ps args sl fun sl' => match ex (aY P nt asg) ⟨sl', ob, nx, lg⟩ with
     | some (.normal, ⟨sl2, ob, nx, lg⟩) => match ob.get id with
       | some (.lp a b m c d .ready j) => T.setK id (.lp a b m c d .busy j) ob fun ob => rQ lg id fun lg => match ex (aY P nt body) ⟨sl2, ob, nx, lg⟩ with
         | some (e, ⟨_, ob, nx, lg⟩) => match ob.get id with
           | some (.lp a b m c d _ _) => match e with
             | .normal => T.setK id (.lp a b m c d .ready none) ob fun ob => k (.b true) ob nx lg
             | .ret => T.setK id (.lp a b m c d .done (some .ret)) ob fun ob => k (.b false) ob nx lg
             | .exit i => T.setK id (.lp a b m c d .done (some (.exit i))) ob fun ob => k (.b false) ob nx lg
           | _ => none
         | none => none
       | _ => none
     | _ => none
   | _ => none
 | _ => none
def Hf (FP : T RF) (ex : RC -> X -> Option (Ex × X)) (d : Option Pos) (f : Pos) (xs : List RX) (sl : T D) (ob : T C) (nx : Pos) (lg : Option (T Bool)) : Option X :=
 match pK sl xs with
 | some ds => rO FP ex f ds ob nx lg fun v ob nx lg => iY sl ob nx lg d v
 | none => none
def It (P : Program) (FP : T RF) (ex : RC -> X -> Option (Ex × X)) (d : Option Pos) (g : RX) (xs : List RX) (sl : T D) (ob : T C) (nx : Pos) (lg : Option (T Bool)) : Option X :=
 match bC sl g, pK sl xs with
 | some v, some ds => Cy P FP ex v ds ob nx lg fun v ob nx lg => iY sl ob nx lg d v
 | _, _ => none
def HP (P : Program) (FP : T RF) (ex : RC -> X -> Option (Ex × X)) (r : RO) : T D -> T C -> Pos -> Option (T Bool) -> Option X :=
 RO.casesOn r Fg jS AA zY zN AP tR zJ By tT dO AY sY wQ tS An AF Ad sO zS sN zR tF sX Ab tE dP AV Bs Bp Ag zK Az Af Aj zU Au (Hf FP ex) (It P FP ex) GJ
def OV (P : Program) (FP : T RF) (ex : RC -> X -> Option (Ex × X)) (r : RO) (x : X) : Option X := X.casesOn x (HP P FP ex r)
def Nt (P : Program) (FP : T RF) (ex : RC -> X -> Option (Ex × X)) (p : Pos) (want : Bool) (d : Option Pos) (r : RO) (x : X) : Option X :=
 X.casesOn x fun sl ob nx lg => match sl.get p with
  | some (.b b) => bif (bif want then b else !b) then HP P FP ex r sl ob nx lg else iY sl ob nx lg d (.tp [])
  | some (.tp []) => iY sl ob nx lg d (.tp [])
  | _ => none
def yG (P : Program) (FP : T RF) (ex : RC -> X -> Option (Ex × X)) (g : RG) : X -> Option X := RG.casesOn g (OV P FP ex) (Nt P FP ex)
def Ho (P : Program) (FP : T RF) (ex : RC -> X -> Option (Ex × X)) (l : List RG) : X -> Option X :=
 List.rec (fun x => some x) (fun g _ ih x => match yG P FP ex g x with
  | some x => ih x
  | none => none) l
def Iq (id : Nat) (x : X) : Option (Ex × X) := some (.exit id, x)
def Es (P : Program) (FP : T RF) (ex : RC -> X -> Option (Ex × X)) (l : List RG) (x : X) : Option (Ex × X) :=
 match Ho P FP ex l x with
 | some y => some (.normal, y)
 | none => none
def tU : Option Bool -> Option Bool -> Bool
 | some x, some y => bif x then false else !y
 | _, _ => true
def fI (a : T Bool) : T Bool -> Bool :=
 T.rec (fun _ => true) (fun _ v _ gl gr b => T.casesOn b true fun l' v' r' => bif tU v v' then (bif gl l' then gr r' else false) else false) a
def kA {β : Type} (a b : Option Bool) (k : Option Bool -> β) : β :=
 Option.casesOn a (k b) fun x => Option.casesOn b (k (some x)) fun y => Bool.casesOn x (k (some y)) (k (some true))
def gK {β : Type} (a : T Bool) : T Bool -> (T Bool -> β) -> β :=
 T.rec (fun b k => k b) (fun l v r gl gr b k => T.casesOn b (k (.n l v r)) fun l' v' r' => gl l' fun l2 => gr r' fun r2 => kA v v' fun v2 => k (.n l2 v2 r2)) a
def jV {β : Type} (lg : Option (T Bool)) (M : T Bool) (k : Option (T Bool) -> β) : β :=
 match lg with
 | none => k none
 | some L => gK L M fun L => k (some L)
def jU (m : Nat) (L : T Bool) (acc : List (Nat × T Bool)) : Bool :=
 List.rec true (fun p _ ih => bif cU m p.1 then ih else bif fI p.2 L then ih else false) acc
def vY (l : List Nat) : List Nat := List.casesOn l [] fun _ l => l
def Bc (P : Program) (FP : T RF) (ex : RC -> X -> Option (Ex × X)) (l : List RG) : List Nat -> Nat -> List (Nat × T Bool) -> X -> Option X :=
 List.rec (fun _ _ _ x => some x) (fun g _ ih ms i acc x => X.casesOn x fun sl ob nx lg => match yG P FP ex g ⟨sl, ob, nx, some .e⟩ with
  | some ⟨sl, ob, nx, some L⟩ => match L with
    | .e => ih (vY ms) (Nat.succ i) acc ⟨sl, ob, nx, lg⟩
    | .n l v r => bif jU (cK ms 0) (.n l v r) acc then jV lg (.n l v r) fun lg => ih (vY ms) (Nat.succ i) ((i, .n l v r) :: acc) ⟨sl, ob, nx, lg⟩ else none
  | _ => none) l
def Cu (P : Program) (FP : T RF) (ex : RC -> X -> Option (Ex × X)) (l : List RG) (ms : List Nat) (x : X) : Option (Ex × X) :=
 match Bc P FP ex l ms 0 [] x with
 | some y => some (.normal, y)
 | none => none
def EC (ex : RC -> X -> Option (Ex × X)) (a b : RC) (x : X) : Option (Ex × X) :=
 match ex a x with
 | some (.normal, y) => ex b y
 | r => r
def yR (ex : RC -> X -> Option (Ex × X)) (c : RX) (a b : RC) (x : X) : Option (Ex × X) :=
 X.casesOn x fun sl ob nx lg => match bC sl c with
 | some (.b true) => ex a ⟨sl, ob, nx, lg⟩
 | some (.b false) => ex b ⟨sl, ob, nx, lg⟩
 | _ => none
def Db (ex : RC -> X -> Option (Ex × X)) (id : Nat) (a : RC) (x : X) : Option (Ex × X) :=
 match ex a x with
 | some (.exit i, y) => bif Nat.beq i id then some (.normal, y) else some (.exit i, y)
 | r => r
def xW (ex : RC -> X -> Option (Ex × X)) (a : RC) (x : X) : Option (Ex × X) :=
 match ex a x with
 | some (.normal, y) => ex (.loop a) y
 | r => r
def GZ (FP : T RF) (ex : RC -> X -> Option (Ex × X)) (f : RX) (ps : List Pos) (nt : Nat) (asg body : Code) (x : X) : Option (Ex × X) :=
 X.casesOn x fun sl ob nx lg => match bC sl f with
  | some (.fn f first caps) => T.setK nx (.lp sl ps nt asg body .ready none) ob fun ob => Pos.succK nx fun nx' =>
    match rQ lg nx fun lg => rO FP ex f (first ++ (.yl nx :: caps)) ob nx' lg fun _ ob nx lg => some ⟨sl, ob, nx, lg⟩ with
    | some ⟨sl, ob, nx2, lg⟩ => match ob.get nx with
      | some (.lp _ _ _ _ _ .busy _) => none
      | some (.lp a b m c d _ j) => T.setK nx (.lp a b m c d .gone j) ob fun ob => match j with
        | none => some (.normal, ⟨sl, ob, nx2, lg⟩)
        | some e => some (e, ⟨sl, ob, nx2, lg⟩)
      | _ => none
    | none => none
  | _ => none
def wX (P : Program) (FP : T RF) (ex : RC -> X -> Option (Ex × X)) (c : RC) : X -> Option (Ex × X) :=
 RC.casesOn c (fun x => some (.normal, x)) (fun x => some (.ret, x)) Iq (Es P FP ex) (Cu P FP ex) (EC ex) (yR ex) (Db ex) (xW ex) (GZ FP ex)
def exec (P : Program) (FP : T RF) (n : Nat) : RC -> X -> Option (Ex × X) :=
 Nat.rec (fun _ _ => none) (fun _ ih => wX P FP ih) n
end Go.Ev
end
