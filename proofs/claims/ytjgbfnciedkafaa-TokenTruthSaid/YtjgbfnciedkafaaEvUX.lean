import Derived.Test.YtjgbfnciedkafaaEvUA
set_option linter.all false
set_option maxHeartbeats 8000000
noncomputable section
namespace Go.Ev
inductive Cell where
 | o (d : D) (lo : Nat)
 | c (d : D) (lo hi : Nat)
def Cell.d : Cell -> D
 | .o d _ => d
 | .c d _ _ => d
def Cell.has : Cell -> Nat -> Bool
 | .o _ lo, st => Nat.ble lo st
 | .c _ lo hi, st => Nat.ble lo st && Nat.ble st hi
inductive Ex where
 | normal
 | ret
 | exit (id : Nat)
inductive LS where
 | ready
 | busy
 | done
 | gone
inductive C where
 | cells (ro : Bool) (cs : List Cell) (cur : Nat)
 | map (es : List (D × D))
 | lp (sl : T D) (ps : List Pos) (nt : Nat) (asg body : Code) (st : LS) (jump : Option Ex)
 | hole
structure X where
 sl : T D
 ob : T C
 nx : Pos
 lg : Option (T Bool)
def gJ {β : Type} (n : Nat) (k : Nat -> β) : β := Nat.casesOn n (k 0) fun m => k (Nat.succ m)
def hU : IntKind -> Nat
 | .i8 => 127
 | .i16 => 32767
 | .i32 => 2147483647
 | .i64 => 9223372036854775807
 | .u8 => 255
 | .u16 => 65535
 | .u32 => 4294967295
 | .u64 => 18446744073709551615
def iZ {β : Type} (k : IntKind) (r : Int) (f : D -> β) : β :=
 Int.casesOn r
  (fun m => bif Nat.ble m (hU k) then gJ m fun m => f (.i k (.ofNat m)) else Int.casesOn (k.wrap (.ofNat m)) (fun m => gJ m fun m => f (.i k (.ofNat m))) (fun m => gJ m fun m => f (.i k (.negSucc m))))
  (fun m => bif k.signed && Nat.ble m (hU k) then gJ m fun m => f (.i k (.negSucc m)) else Int.casesOn (k.wrap (.negSucc m)) (fun m => gJ m fun m => f (.i k (.ofNat m))) (fun m => gJ m fun m => f (.i k (.negSucc m))))
def KN {β : Type} (k : IntKind) (r : Int) (f : D -> β) : β := Int.casesOn r (fun m => gJ m fun m => f (.i k (.ofNat m))) (fun m => gJ m fun m => f (.i k (.negSucc m)))
def KA : Int -> Int -> Bool
 | .ofNat m, .ofNat n => Nat.blt m n
 | .ofNat _, .negSucc _ => false
 | .negSucc _, .ofNat _ => true
 | .negSucc m, .negSucc n => Nat.blt n m
def Dp : Int -> Int -> Bool
 | .ofNat m, .ofNat n => Nat.beq m n
 | .negSucc m, .negSucc n => Nat.beq m n
 | _, _ => false
def pH {β : Type} (b : Bool) (f : D -> β) : β := Bool.casesOn b (f (.b false)) (f (.b true))
def xK : IntKind -> IntKind -> Bool
 | .i8, .i8 => true
 | .i16, .i16 => true
 | .i32, .i32 => true
 | .i64, .i64 => true
 | .u8, .u8 => true
 | .u16, .u16 => true
 | .u32, .u32 => true
 | .u64, .u64 => true
 | _, _ => false
def Tq (a b : Int) : Int := Int.casesOn a (fun m => Int.casesOn b (fun n => .ofNat (Nat.add m n)) (fun n => Int.add (.ofNat m) (.negSucc n))) (fun m => Int.add (.negSucc m) b)
def PT (a b : Int) : Int := Int.casesOn a (fun m => Int.casesOn b (fun n => bif Nat.ble n m then .ofNat (Nat.sub m n) else .negSucc (Nat.sub (Nat.sub n m) 1)) (fun n => Int.sub (.ofNat m) (.negSucc n))) (fun m => Int.sub (.negSucc m) b)
def Vg (a b : Int) : Int := Int.casesOn a (fun m => Int.casesOn b (fun n => .ofNat (Nat.mul m n)) (fun n => Int.mul (.ofNat m) (.negSucc n))) (fun m => Int.mul (.negSucc m) b)
def Ud (a b : Int) : Int := Int.casesOn a (fun m => Int.casesOn b (fun n => .ofNat (Nat.div m n)) (fun n => Int.tdiv (.ofNat m) (.negSucc n))) (fun m => Int.tdiv (.negSucc m) b)
def RA (a b : Int) : Int := Int.casesOn a (fun m => Int.casesOn b (fun n => .ofNat (Nat.mod m n)) (fun n => Int.tmod (.ofNat m) (.negSucc n))) (fun m => Int.tmod (.negSucc m) b)
def dO : IntKind -> Nat
 | .i8 => 255
 | .i16 => 65535
 | .i32 => 4294967295
 | .i64 => 18446744073709551615
 | .u8 => 255
 | .u16 => 65535
 | .u32 => 4294967295
 | .u64 => 18446744073709551615
def oN (k : IntKind) (a b : Int) : Int := ((BitVec.ofInt k.bits a &&& BitVec.ofInt k.bits b).toNat : Int)
def Al (k : IntKind) (a b : Int) : Int := ((BitVec.ofInt k.bits a ||| BitVec.ofInt k.bits b).toNat : Int)
def uN (k : IntKind) (a b : Int) : Int := ((BitVec.ofInt k.bits a ^^^ BitVec.ofInt k.bits b).toNat : Int)
def uV (k : IntKind) (a b : Int) : Int := ((BitVec.ofInt k.bits a &&& ~~~BitVec.ofInt k.bits b).toNat : Int)
def Ga (slow : IntKind -> Int -> Int -> Int) (fast : IntKind -> Nat -> Nat -> Nat) (k : IntKind) (a b : Int) : Int :=
 Int.casesOn a (fun m => Int.casesOn b (fun n => bif Nat.ble m (dO k) && Nat.ble n (dO k) then .ofNat (fast k m n) else slow k (.ofNat m) (.ofNat n)) (fun n => slow k (.ofNat m) (.negSucc n))) (fun m => slow k (.negSucc m) b)
def Gw : IntKind -> Int -> Int -> Int := Ga oN fun _ m n => Nat.land m n
def Ze : IntKind -> Int -> Int -> Int := Ga Al fun _ m n => Nat.lor m n
def Un : IntKind -> Int -> Int -> Int := Ga uN fun _ m n => Nat.xor m n
def TU : IntKind -> Int -> Int -> Int := Ga uV fun k m n => Nat.land m (Nat.sub (dO k) n)
def tS : IntKind -> Nat
 | .i8 => 8
 | .i16 => 16
 | .i32 => 32
 | .i64 => 64
 | .u8 => 8
 | .u16 => 16
 | .u32 => 32
 | .u64 => 64
def ID (a : Int) (n : Nat) : Int := Int.casesOn a (fun m => .ofNat (Nat.mul m (Nat.pow 2 n))) (fun m => Int.mul (.negSucc m) (2 ^ n))
def IQ (a : Int) (n : Nat) : Int := Int.casesOn a (fun m => .ofNat (Nat.div m (Nat.pow 2 n))) (fun m => Int.fdiv (.negSucc m) (2 ^ n))
def uE (a b : Nat) : Nat := bif Nat.ble a b then a else b
def fU (op : BinOp) (k : IntKind) (a b : Int) (f : D -> Option X) : Option X :=
 match op with
 | .add => iZ k (Tq a b) f
 | .sub => iZ k (PT a b) f
 | .mul => iZ k (Vg a b) f
 | .quo => bif Dp b (.ofNat 0) then none else iZ k (Ud a b) f
 | .rem => bif Dp b (.ofNat 0) then none else KN k (RA a b) f
 | .and => iZ k (Gw k a b) f
 | .or => iZ k (Ze k a b) f
 | .xor => iZ k (Un k a b) f
 | .andNot => iZ k (TU k a b) f
 | .eql => pH (Dp a b) f
 | .neq => pH (!Dp a b) f
 | .lss => pH (KA a b) f
 | .leq => pH (!KA b a) f
 | .gtr => pH (KA b a) f
 | .geq => pH (!KA a b) f
 | .shl => none
 | .shr => none
def Du (op : BinOp) (k : IntKind) (a b : Int) (f : D -> Option X) : Option X :=
 match b with
 | .ofNat n => match op with
   | .shl => iZ k (ID a (uE n (tS k))) f
   | .shr => KN k (IQ a (uE n (tS k))) f
   | _ => none
 | .negSucc _ => none
def lH (op : BinOp) (x y : D) (f : D -> Option X) : Option X :=
 match x, y with
 | .i k a, .i k' b => match op with
   | .shl => Du .shl k a b f
   | .shr => Du .shr k a b f
   | op => bif xK k k' then fU op k a b f else none
 | _, _ => none
def sM (k : IntKind) : Int -> Bool
 | .ofNat m => Nat.ble m (hU k)
 | .negSucc m => k.signed && Nat.ble m (hU k)
def Rv : LK -> D -> D -> Option Bool
 | .b, .b x, .b y => some (x == y)
 | .i k, .i k1 a, .i k2 b => bif xK k1 k && xK k2 k && sM k a && sM k b then some (Dp a b) else none
 | _, _, _ => none
def EM : List LK -> List D -> List D -> Option Bool
 | [], [], [] => some true
 | k :: ks, x :: xs, y :: ys => match Rv k x y, EM ks xs ys with
   | some a, some b => some (a && b)
   | _, _ => none
 | _, _, _ => none
def Bw (ks : List LK) : D -> D -> Option Bool
 | .ag xs, .ag ys => EM ks xs ys
 | _, _ => none
def Wm : Nat -> D -> D -> Option Bool
 | 0, .b x, .b y => some (x == y)
 | 1, .ns, .ns => some true
 | 1, .sl .., .ns => some false
 | 1, .em, .ns => some false
 | 1, .lst _ (_ :: _), .ns => some false
 | 1, .ns, .sl .. => some false
 | 1, .ns, .em => some false
 | 2, .nf, .nf => some true
 | 2, .fn .., .nf => some false
 | 3, .nm, .nm => some true
 | 3, .mp _, .nm => some false
 | 4, .np, .np => some true
 | 4, .pt .., .np => some false
 | 4, .np, .pt .. => some false
 | _, _, _ => none
def sP {α : Type} (l : List α) : Nat -> Option α := List.rec (fun _ => none) (fun x _ ih n => Nat.casesOn n (some x) ih) l
def fA {α : Type} (n : Nat) : List α -> List α := Nat.rec (fun l => l) (fun _ ih l => List.casesOn l [] fun _ l => ih l) n
def eZ {β : Type} (st n : Nat) : List Cell -> (List D -> Option β) -> Option β :=
 Nat.rec (fun _ k => k []) (fun _ ih l k => List.casesOn l none fun c l => Cell.casesOn c
  (fun d lo => bif Nat.ble lo st then ih l fun ds => k (d :: ds) else none)
  (fun d lo hi => bif Nat.ble lo st && Nat.ble st hi then ih l fun ds => k (d :: ds) else none)) n
def xV {β : Type} (st : Nat) (mk : D -> Cell) (new : List D) : List Cell -> (List Cell -> Option β) -> Option β :=
 List.rec (fun l k => k l) (fun d _ ih l k => List.casesOn l none fun c l => Cell.casesOn c
  (fun _ lo => bif Nat.ble lo st then ih l fun l => k (mk d :: l) else none)
  (fun _ lo hi => bif Nat.ble lo st && Nat.ble st hi then ih l fun l => k (mk d :: l) else none)) new
def eK {β : Type} (st : Nat) (mk : D -> Cell) (new : List D) (off : Nat) : List Cell -> (List Cell -> Option β) -> Option β :=
 Nat.rec (xV st mk new) (fun _ ih l k => List.casesOn l none fun c l => ih l fun l => k (c :: l)) off
def tO {β : Type} (hi : Nat) (l : List Cell) : (List Cell -> Option β) -> Option β :=
 List.rec (fun k => k []) (fun c _ ih k => ih fun l => Cell.casesOn c (fun d lo => k (.c d lo hi :: l)) (fun d lo h => k (.c d lo (bif Nat.ble h hi then h else hi) :: l))) l
def nU {β : Type} (mk : D -> Cell) (new : List D) (l : List Cell) : (List Cell -> Option β) -> Option β :=
 List.rec (fun k => k l) (fun d _ ih k => ih fun l => k (mk d :: l)) new
def yY {β : Type} (st cur : Nat) (new : List D) (n : Nat) : List Cell -> (List Cell -> Option β) -> Option β :=
 Nat.rec (fun l k => tO (Nat.pred cur) (fA (List.length new) l) fun l => nU (fun d => .o d cur) new l k)
  (fun _ ih l k => List.casesOn l none fun c l => Cell.casesOn c (fun d lo => bif Nat.ble lo st then ih l fun l => k (.o d lo :: l) else none) (fun _ _ _ => none)) n
def tV {β : Type} (st : Nat) (c : Cell) (k : D -> Option β) : Option β :=
 Cell.casesOn c (fun d lo => bif Nat.ble lo st then k d else none) (fun d lo hi => bif Nat.ble lo st && Nat.ble st hi then k d else none)
def tJ {β : Type} (new : List D) : (List Cell -> Option β) -> Option β := nU (fun d => .o d 0) new []
def nS : D -> Option (List D)
 | .ag cs => some cs
 | .tp _ => none
 | .any => none
 | d => some [d]
def FO {β : Type} (n : Nat) : List D -> (List D -> Option β) -> Option β :=
 Nat.rec (fun _ k => k []) (fun _ ih l k => List.casesOn l none fun d l => ih l fun ds => k (d :: ds)) n
def UA {β : Type} (new : List D) : List D -> (List D -> Option β) -> Option β :=
 List.rec (fun l k => k l) (fun d _ ih l k => List.casesOn l none fun _ l => ih l fun l => k (d :: l)) new
def Dk {β : Type} (new : List D) (off : Nat) : List D -> (List D -> Option β) -> Option β :=
 Nat.rec (UA new) (fun _ ih l k => List.casesOn l none fun c l => ih l fun l => k (c :: l)) off
def bE (sl : T D) (x : RX) : Option D := RX.casesOn x (fun p => sl.get p) (fun d => some d)
def uF (sl : T D) (xs : List RX) : Option (List D) :=
 List.rec (some []) (fun x _ ih => Option.casesOn (bE sl x) none fun d => Option.casesOn ih none fun ds => some (d :: ds)) xs
def An {β : Type} (sl : T D) (ps : List (Nat × Nat × RX)) : List D -> (List D -> Option β) -> Option β :=
 List.rec (fun l k => k l) (fun p _ ih l k => match p with
  | (off, n, x) => match bE sl x with
    | some d => match nS d with
      | some cs => bif Nat.beq cs.length n then Dk cs off l fun l => ih l k else none
      | none => none
    | none => none) ps
def bJ (sl : T D) (ob : T C) (nx : Pos) (lg : Option (T Bool)) (d : Pos) (v : D) : Option X := T.setK d v sl fun sl => some ⟨sl, ob, nx, lg⟩
def Bi (lg : Option (T Bool)) (id : Pos) (k : Option (T Bool) -> Option X) : Option X :=
 Option.casesOn lg (k none) fun L => T.setK id true L fun L => k (some L)
def kF (lg : Option (T Bool)) (id : Pos) (k : Option (T Bool) -> Option X) : Option X :=
 Option.casesOn lg (k none) fun L => Option.casesOn (L.get id) (T.setK id false L fun L => k (some L)) fun _ => k (some L)
def gO (sl : T D) (ob : T C) (nx : Pos) (lg : Option (T Bool)) (c : C) (d : Pos) (v : D) : Option X :=
 Bi lg nx fun lg => T.setK nx c ob fun ob => Pos.succK nx fun nx' => bJ sl ob nx' lg d v
def pD (sl : T D) (ob : T C) (nx : Pos) (lg : Option (T Bool)) (id : Pos) (c : C) : Option X :=
 Bi lg id fun lg => T.setK id c ob fun ob => some ⟨sl, ob, nx, lg⟩
def jB (sl : T D) (ob : T C) (nx : Pos) (lg : Option (T Bool)) (id : Pos) (c : C) (d : Pos) (v : D) : Option X :=
 Bi lg id fun lg => T.setK id c ob fun ob => bJ sl ob nx lg d v
def Kl (n : Int) (len : Nat) : Option Nat :=
 match n with
 | .ofNat m => bif Nat.blt m len then some m else none
 | .negSucc _ => none
def bnd (sl : T D) (x : Option RX) (dflt : Nat) (k : Nat -> Option X) : Option X :=
 match x with
 | none => k dflt
 | some x => match bE sl x with
   | some (.i _ (.ofNat m)) => k m
   | _ => none
def uB (ob : T C) (z : Nat) (y : D) (k : Option Pos -> Nat -> List D -> Option X) : Option X :=
 match y with
 | .ns => k none 0 []
 | .em => k none 0 []
 | .sl id off len st z' => bif Nat.beq z z' then
    match ob.get id with
    | some (.cells _ cs _) => eZ st (Nat.mul len z) (fA off cs) fun ds => k (some id) len ds
    | _ => none
   else none
 | .lst z' es => bif Nat.beq z z' && Nat.beq (List.length (List.flatten es)) (Nat.mul (List.length es) z) then k none (List.length es) (List.flatten es) else none
 | _ => none
def vN (lg : Option (T Bool)) (id : Option Pos) (k : Option (T Bool) -> Option X) : Option X :=
 match id with
 | none => k lg
 | some id => kF lg id k
def Mn (d : Pos) (x : RX) (sl : T D) (ob : T C) (nx : Pos) (lg : Option (T Bool)) : Option X := match bE sl x with
 | some v => bJ sl ob nx lg d v
 | none => none
def oF (d : Pos) (c : RX) (x : RX) (y : RX) (sl : T D) (ob : T C) (nx : Pos) (lg : Option (T Bool)) : Option X := match bE sl c with
 | some (.b true) => match bE sl x with
   | some v => bJ sl ob nx lg d v
   | none => none
 | some (.b false) => match bE sl y with
   | some v => bJ sl ob nx lg d v
   | none => none
 | _ => none
def Fj (d : Pos) (zs : List D) (sl : T D) (ob : T C) (nx : Pos) (lg : Option (T Bool)) : Option X := tJ zs fun cs => gO sl ob nx lg (.cells false cs 1) d (.pt nx 0 0)
def EY (d : Pos) (x : RX) (sl : T D) (ob : T C) (nx : Pos) (lg : Option (T Bool)) : Option X := match bE sl x with
 | some v => match nS v with
   | some ds => tJ ds fun cs => gO sl ob nx lg (.cells false cs 1) d (.pt nx 0 0)
   | none => none
 | none => none
def Fu (d : Pos) (zs : List D) (ps : List (Nat × Nat × RX)) (sl : T D) (ob : T C) (nx : Pos) (lg : Option (T Bool)) : Option X := An sl ps zs fun ds => bJ sl ob nx lg d (.ag ds)
def FM (d : Pos) (z : Nat) (len : Nat) (zs : List D) (ps : List (Nat × Nat × RX)) (sl : T D) (ob : T C) (nx : Pos) (lg : Option (T Bool)) : Option X := An sl ps zs fun ds => tJ ds fun cs => gO sl ob nx lg (.cells false cs 1) d (.sl nx 0 len 0 z)
def zW (d : Pos) (x : RX) (sl : T D) (ob : T C) (nx : Pos) (lg : Option (T Bool)) : Option X := match bE sl x with
 | some (.pt id off st) => match ob.get id with
   | some (.cells _ cs _) => match sP cs off with
     | some c => tV st c fun v => kF lg id fun lg => bJ sl ob nx lg d v
     | none => none
   | _ => none
 | some (.pl r k) => match sP r k with
   | some v => bJ sl ob nx lg d v
   | none => none
 | _ => none
def pK (d : Pos) (x : RX) (n : Nat) (sl : T D) (ob : T C) (nx : Pos) (lg : Option (T Bool)) : Option X := match bE sl x with
 | some (.pt id off st) => match ob.get id with
   | some (.cells _ cs _) => eZ st n (fA off cs) fun ds => kF lg id fun lg => bJ sl ob nx lg d (.ag ds)
   | _ => none
 | some (.pl r k) => FO n (fA k r) fun ds => bJ sl ob nx lg d (.ag ds)
 | _ => none
def xQ (x : RX) (y : RX) (n : Nat) (sl : T D) (ob : T C) (nx : Pos) (lg : Option (T Bool)) : Option X := match bE sl x, bE sl y with
 | some (.pt id off st), some v => match ob.get id, nS v with
   | some (.cells false cs cur), some ds => bif Nat.beq ds.length n then
      bif Nat.beq (Nat.succ st) cur then eK st (fun d => .o d st) ds off cs fun cs => pD sl ob nx lg id (.cells false cs cur)
      else eK st (fun d => .c d st st) ds off cs fun cs => pD sl ob nx lg id (.cells false cs cur)
     else none
   | _, _ => none
 | _, _ => none
def AZ (d : Pos) (x : RX) (sl : T D) (ob : T C) (nx : Pos) (lg : Option (T Bool)) : Option X := match bE sl x with
 | some .np => none
 | some .ni => none
 | some .nf => none
 | some (.pt id off st) => bJ sl ob nx lg d (.pt id off st)
 | some (.fn f a b) => bJ sl ob nx lg d (.fn f a b)
 | some (.yl id) => bJ sl ob nx lg d (.yl id)
 | some (.pl r k) => bJ sl ob nx lg d (.pl r k)
 | _ => none
def kK (d : Pos) (op : BinOp) (x : RX) (y : RX) (sl : T D) (ob : T C) (nx : Pos) (lg : Option (T Bool)) : Option X := match bE sl x, bE sl y with
 | some a, some b => lH op a b fun v => bJ sl ob nx lg d v
 | _, _ => none
def GQ (d : Pos) (neg : Bool) (tk : Nat) (x : RX) (y : RX) (sl : T D) (ob : T C) (nx : Pos) (lg : Option (T Bool)) : Option X := match bE sl x, bE sl y with
 | some a, some b => match Wm tk a b with
   | some e => pH (bif neg then !e else e) fun v => bJ sl ob nx lg d v
   | none => none
 | _, _ => none
def tK (d : Pos) (neg : Bool) (ks : List LK) (x : RX) (y : RX) (sl : T D) (ob : T C) (nx : Pos) (lg : Option (T Bool)) : Option X := match bE sl x, bE sl y with
 | some a, some b => match Bw ks a b with
   | some e => pH (bif neg then !e else e) fun v => bJ sl ob nx lg d v
   | none => none
 | _, _ => none
def BJ (d : Pos) (op : UnOp) (x : RX) (sl : T D) (ob : T C) (nx : Pos) (lg : Option (T Bool)) : Option X := match op, bE sl x with
 | .not, some (.b a) => pH (!a) fun v => bJ sl ob nx lg d v
 | .neg, some (.i k n) => iZ k (PT (.ofNat 0) n) fun v => bJ sl ob nx lg d v
 | _, _ => none
def zP (d : Pos) (k : IntKind) (x : RX) (sl : T D) (ob : T C) (nx : Pos) (lg : Option (T Bool)) : Option X := match bE sl x with
 | some (.i _ n) => iZ k n fun v => bJ sl ob nx lg d v
 | _ => none
def Ey (d : Pos) (f : Pos) (first : List RX) (caps : List RX) (sl : T D) (ob : T C) (nx : Pos) (lg : Option (T Bool)) : Option X := match uF sl first, uF sl caps with
 | some a, some b => bJ sl ob nx lg d (.fn f a b)
 | _, _ => none
def EW (d : Pos) (sl : T D) (ob : T C) (nx : Pos) (lg : Option (T Bool)) : Option X := gO sl ob nx lg (.map []) d (.mp nx)
def ER (d : Pos) (z : Nat) (zs : List D) (l : RX) (c : RX) (sl : T D) (ob : T C) (nx : Pos) (lg : Option (T Bool)) : Option X := match bE sl l, bE sl c with
 | some (.i _ (.ofNat l)), some (.i _ (.ofNat c)) => bif Nat.beq l c && Nat.ble l 65536 then
    Nat.rec (fun k => k []) (fun _ ih k => ih fun l => nU (fun d => .o d 0) zs l k) l fun cs => gO sl ob nx lg (.cells false cs 1) d (.sl nx 0 l 0 z)
   else none
 | _, _ => none
def yL (d : Pos) (z : Nat) (x : RX) (lo : Option RX) (hi : Option RX) (mx : Option RX) (sl : T D) (ob : T C) (nx : Pos) (lg : Option (T Bool)) : Option X := match bE sl x with
 | some (.sl id off len st z') => bif Nat.beq z z' then bnd sl lo 0 fun l => bnd sl hi len fun h =>
    bif Nat.ble l h && Nat.ble h len then match mx with
     | none => bif Nat.blt l h || Nat.beq l 0 then gJ (Nat.add off (Nat.mul l z)) fun off => gJ (Nat.sub h l) fun n => bJ sl ob nx lg d (.sl id off n st z) else none
     | some mx => bnd sl (some mx) 0 fun m => bif Nat.ble h m && Nat.ble m len then
        bif Nat.blt l m then gJ (Nat.add off (Nat.mul l z)) fun off => gJ (Nat.sub h l) fun n => bJ sl ob nx lg d (.sl id off n st z) else bJ sl ob nx lg d .em
       else none
    else none
   else none
 | some (.lst z' es) => bif Nat.beq z z' then bnd sl lo 0 fun l => bnd sl hi (List.length es) fun h =>
    bif Nat.ble l h && Nat.ble h (List.length es) then match mx with
     | none => bJ sl ob nx lg d (.lst z ((es.drop l).take (Nat.sub h l)))
     | some _ => none
    else none
   else none
 | some .ns => bnd sl lo 0 fun l => bnd sl hi 0 fun h => bnd sl mx 0 fun m => bif Nat.beq l 0 && Nat.beq h 0 && Nat.beq m 0 then bJ sl ob nx lg d .ns else none
 | some .em => bnd sl lo 0 fun l => bnd sl hi 0 fun h => bnd sl mx 0 fun m => bif Nat.beq l 0 && Nat.beq h 0 && Nat.beq m 0 then bJ sl ob nx lg d .em else none
 | _ => none
def pP (z : Nat) : Nat -> List D -> List (List D)
 | 0, _ => []
 | n + 1, l => l.take z :: pP z n (l.drop z)
def zI (d : Pos) (n : Nat) (z : Nat) (x : RX) (lo : Option RX) (hi : Option RX) (mx : Option RX) (sl : T D) (ob : T C) (nx : Pos) (lg : Option (T Bool)) : Option X := match bE sl x with
 | some (.pt id off st) => match ob.get id with
   | some (.cells _ cs _) => bnd sl lo 0 fun l => bnd sl hi n fun h => match mx with
     | none => bif Nat.ble l h && Nat.ble h n && Nat.blt l n && Nat.blt 0 z then match sP cs (Nat.pred (Nat.add off (Nat.mul n z))) with
        | some c => tV st c fun _ => gJ (Nat.add off (Nat.mul l z)) fun off => gJ (Nat.sub h l) fun m => kF lg id fun lg => bJ sl ob nx lg d (.sl id off m st z)
        | none => none
       else none
     | some _ => none
   | _ => none
 | some (.pl r off) => bnd sl lo 0 fun l => bnd sl hi n fun h => match mx with
    | none => bif Nat.ble l h && Nat.ble h n && Nat.blt l n && Nat.ble (Nat.add off (Nat.mul n z)) (List.length r) then bJ sl ob nx lg d (.lst z (pP z (Nat.sub h l) (r.drop (Nat.add off (Nat.mul l z))))) else none
    | some _ => none
 | _ => none
def yD (d : Pos) (x : RX) (k : Nat) (sl : T D) (ob : T C) (nx : Pos) (lg : Option (T Bool)) : Option X := match bE sl x with
 | some (.pt id off st) => gJ (Nat.add off k) fun off => bJ sl ob nx lg d (.pt id off st)
 | some (.pl r off) => gJ (Nat.add off k) fun off => bJ sl ob nx lg d (.pl r off)
 | _ => none
def EB (d : Pos) (x : RX) (off : Nat) (n : Nat) (row : Bool) (sl : T D) (ob : T C) (nx : Pos) (lg : Option (T Bool)) : Option X := match bE sl x with
 | some (.ag cs) => bif row then FO n (fA off cs) fun ds => bJ sl ob nx lg d (.ag ds) else match sP cs off with
   | some v => bJ sl ob nx lg d v
   | none => none
 | _ => none
def tY (d : Pos) (z : Nat) (x : RX) (i : RX) (sl : T D) (ob : T C) (nx : Pos) (lg : Option (T Bool)) : Option X := match bE sl x, bE sl i with
 | some (.sl id off len st z'), some (.i _ n) => bif Nat.beq z z' then match Kl n len with
    | some m => gJ (Nat.add off (Nat.mul m z)) fun off => bJ sl ob nx lg d (.pt id off st)
    | none => none
   else none
 | some (.lst z' es), some (.i _ n) => bif Nat.beq z z' then match Kl n (List.length es) with
    | some m => match sP es m with
      | some r => bJ sl ob nx lg d (.pl r 0)
      | none => none
    | none => none
   else none
 | _, _ => none
def zT (d : Pos) (len : Nat) (z : Nat) (x : RX) (i : RX) (sl : T D) (ob : T C) (nx : Pos) (lg : Option (T Bool)) : Option X := match bE sl x, bE sl i with
 | some (.pt id off st), some (.i _ n) => match Kl n len with
    | some m => gJ (Nat.add off (Nat.mul m z)) fun off => bJ sl ob nx lg d (.pt id off st)
    | none => none
 | some (.pl r off), some (.i _ n) => match Kl n len with
    | some m => gJ (Nat.add off (Nat.mul m z)) fun off => bJ sl ob nx lg d (.pl r off)
    | none => none
 | _, _ => none
def FY (d : Pos) (x : RX) (n : Nat) (sl : T D) (ob : T C) (nx : Pos) (lg : Option (T Bool)) : Option X := match bE sl x with
 | some (.tp vs) => match sP vs n with
   | some v => bJ sl ob nx lg d v
   | none => none
 | _ => none
def yO (d : Pos) (x : RX) (sl : T D) (ob : T C) (nx : Pos) (lg : Option (T Bool)) : Option X := match bE sl x with
 | some .ns => bJ sl ob nx lg d (.i .i64 (.ofNat 0))
 | some .em => bJ sl ob nx lg d (.i .i64 (.ofNat 0))
 | some (.sl _ _ n _ _) => bJ sl ob nx lg d (.i .i64 (.ofNat n))
 | some (.lst _ es) => gJ (List.length es) fun n => bJ sl ob nx lg d (.i .i64 (.ofNat n))
 | _ => none
def fP (d : Pos) (z : Nat) (x : RX) (y : RX) (sl : T D) (ob : T C) (nx : Pos) (lg : Option (T Bool)) : Option X := match bE sl x, bE sl y with
 | some x, some y => uB ob z y fun idy k ds => vN lg idy fun lg => match k with
   | 0 => match x with
     | .ns => bJ sl ob nx lg d .ns
     | .em => bJ sl ob nx lg d .em
     | .sl id off len st z' => bif Nat.beq z z' then match ob.get id with
        | some (.cells false _ _) => kF lg id fun lg => bJ sl ob nx lg d (.sl id off len st z')
        | _ => none
       else none
     | _ => none
   | k' + 1 => match x with
     | .ns => bif Nat.ble (Nat.succ k') 2147483648 then tJ ds fun cs => gO sl ob nx lg (.cells false cs 1) d (.sl nx 0 (Nat.succ k') 0 z) else none
     | .em => bif Nat.ble (Nat.succ k') 2147483648 then tJ ds fun cs => gO sl ob nx lg (.cells false cs 1) d (.sl nx 0 (Nat.succ k') 0 z) else none
     | .sl id off len st z' => bif Nat.beq z z' && Nat.ble (Nat.add len (Nat.succ k')) 2147483648 then match ob.get id with
        | some (.cells false cs cur) => yY st cur ds (Nat.add off (Nat.mul len z)) cs fun cs => gJ (Nat.add len (Nat.succ k')) fun n => gJ (Nat.succ cur) fun cur' => jB sl ob nx lg id (.cells false cs cur') d (.sl id off n cur z)
        | _ => none
       else none
     | _ => none
 | _, _ => none
def EZ (d : Option Pos) (z : Nat) (x : RX) (y : RX) (sl : T D) (ob : T C) (nx : Pos) (lg : Option (T Bool)) : Option X := match bE sl x, bE sl y with
 | some (.sl id off len st z'), some y => uB ob z y fun idy k ds => vN lg idy fun lg =>
    bif Nat.beq z z' && Nat.ble k len && Nat.blt 0 (List.length ds) then match ob.get id with
     | some (.cells false cs cur) =>
       let fin := fun cs => match d with
        | none => pD sl ob nx lg id (.cells false cs cur)
        | some d => jB sl ob nx lg id (.cells false cs cur) d (.i .i64 (.ofNat k))
       bif Nat.beq (Nat.succ st) cur then eK st (fun d => .o d st) ds off cs fin else eK st (fun d => .c d st st) ds off cs fin
     | _ => none
    else none
 | _, _ => none
def Gt (d : Pos) (x : RX) (y : RX) (sl : T D) (ob : T C) (nx : Pos) (lg : Option (T Bool)) : Option X := match bE sl x, bE sl y with
 | some (.i k a), some (.i k' b) => bif xK k k' then bif KA a b then bJ sl ob nx lg d (.i k b) else bJ sl ob nx lg d (.i k a) else none
 | _, _ => none
def Gf (d : Pos) (x : RX) (y : RX) (sl : T D) (ob : T C) (nx : Pos) (lg : Option (T Bool)) : Option X := match bE sl x, bE sl y with
 | some (.i k a), some (.i k' b) => bif xK k k' then bif KA b a then bJ sl ob nx lg d (.i k b) else bJ sl ob nx lg d (.i k a) else none
 | _, _ => none
def rP (ks : List LK) (key : D) (es : List (D × D)) : Option (Option D) :=
 List.rec (some none) (fun e _ ih => match Bw ks key e.1 with
  | some true => some (some e.2)
  | some false => ih
  | none => none) es
def BK {β : Type} (ks : List LK) (key v : D) (es : List (D × D)) : (List (D × D) -> Option β) -> Option β :=
 List.rec (fun k => k [(key, v)]) (fun e l ih k => match Bw ks key e.1 with
  | some true => k ((key, v) :: l)
  | some false => ih fun l => k (e :: l)
  | none => none) es
def yK (d : Pos) (zero : D) (ok : Bool) (ks : List LK) (x : RX) (i : RX) (sl : T D) (ob : T C) (nx : Pos) (lg : Option (T Bool)) : Option X := match bE sl x, bE sl i with
 | some (.mp id), some key => match ob.get id, Bw ks key key with
   | some (.map es), some _ => match rP ks key es with
     | some (some v) => kF lg id fun lg => bif ok then bJ sl ob nx lg d (.tp [v, .b true]) else bJ sl ob nx lg d v
     | some none => kF lg id fun lg => bif ok then bJ sl ob nx lg d (.tp [zero, .b false]) else bJ sl ob nx lg d zero
     | none => none
   | _, _ => none
 | _, _ => none
def zD (ks : List LK) (x : RX) (i : RX) (v : RX) (sl : T D) (ob : T C) (nx : Pos) (lg : Option (T Bool)) : Option X := match bE sl x, bE sl i, bE sl v with
 | some (.mp id), some key, some v => match ob.get id, Bw ks key key with
   | some (.map es), some _ => BK ks key v es fun es => pD sl ob nx lg id (.map es)
   | _, _ => none
 | _, _, _ => none
def Fo (d : Pos) (len z : Nat) (row : Bool) (x i : RX) (sl : T D) (ob : T C) (nx : Pos) (lg : Option (T Bool)) : Option X := match bE sl x, bE sl i with
 | some (.ag cs), some (.i _ n) => match Kl n len with
   | some m => bif row then FO z (fA (Nat.mul m z) cs) fun ds => bJ sl ob nx lg d (.ag ds) else match sP cs (Nat.mul m z) with
     | some v => bJ sl ob nx lg d v
     | none => none
   | none => none
 | _, _ => none
def FQ (d : Pos) (x i : RX) (sl : T D) (ob : T C) (nx : Pos) (lg : Option (T Bool)) : Option X := match bE sl x, bE sl i with
 | some (.s b), some (.i _ n) => match n with
   | .ofNat m => match sP b.data.toList m with
     | some v => gJ v.toNat fun n => bJ sl ob nx lg d (.i .u8 (.ofNat n))
     | none => none
   | .negSucc _ => none
 | _, _ => none
def EI (d : Pos) (x : RX) (sl : T D) (ob : T C) (nx : Pos) (lg : Option (T Bool)) : Option X := match bE sl x with
 | some .ns => bJ sl ob nx lg d (.i .i64 (.ofNat 0))
 | _ => none
def Ft (d : Pos) (z : Nat) (zs : List D) (x : RX) (y : RX) (sl : T D) (ob : T C) (nx : Pos) (lg : Option (T Bool)) : Option X := match bE sl x, bE sl y with
 | some .ns, some (.i .i64 (.ofNat m)) => bif Nat.blt 0 m && Nat.ble m 65536 then
    Nat.rec (fun k => k []) (fun _ ih k => ih fun l => nU (fun d => .o d 0) zs l k) m fun cs => gO sl ob nx lg (.cells false cs 1) d (.sl nx 0 m 0 z)
   else none
 | _, _ => none
def Fw (z : Nat) (zs : List D) (x : RX) (sl : T D) (ob : T C) (nx : Pos) (lg : Option (T Bool)) : Option X := match bE sl x with
 | some (.sl id off len st z') => bif Nat.beq z z' && Nat.blt 0 (List.length (jH zs len)) then match ob.get id with
    | some (.cells false cs cur) =>
      bif Nat.beq (Nat.succ st) cur then eK st (fun d => .o d st) (jH zs len) off cs (fun cs => pD sl ob nx lg id (.cells false cs cur)) else eK st (fun d => .c d st st) (jH zs len) off cs (fun cs => pD sl ob nx lg id (.cells false cs cur))
    | _ => none
    else none
 | _ => none
def Yk (_ : Option Pos) (_ : Pos) (_ : List RX) (_ : T D) (_ : T C) (_ : Pos) (_ : Option (T Bool)) : Option X := none
def Xh (_ : Option Pos) (_ : RX) (_ : List RX) (_ : T D) (_ : T C) (_ : Pos) (_ : Option (T Bool)) : Option X := none
def Nu  (_ : T D) (_ : T C) (_ : Pos) (_ : Option (T Bool)) : Option X := none
def step (r : RO) : T D -> T C -> Pos -> Option (T Bool) -> Option X :=
 RO.casesOn r Mn oF Fj EY Fu FM zW pK xQ AZ kK GQ tK BJ zP Ey EW ER yL zI yD EB tY zT FY yO fP EZ Gt Gf yK zD Fo FQ EI Ft Fw Yk Xh Nu
def JI {β : Type} (ds : List D) : Pos -> T D -> (T D -> Option β) -> Option β :=
 List.rec (fun _ t k => k t) (fun d _ ih p t k => T.setK p d t fun t => Pos.succK p fun p => ih p t k) ds
def results (rs : List RR) (sl : T D) (ob : T C) (lg : Option (T Bool)) : (List D -> Option (T Bool) -> Option X) -> Option X :=
 List.rec (fun k => k [] lg) (fun r _ ih k => match r with
  | .t p => match sl.get p with
    | some d => ih fun ds lg => k (d :: ds) lg
    | none => none
  | .c1 p => match sl.get p with
    | some (.pt id off st) => match ob.get id with
      | some (.cells _ cs _) => match sP cs off with
        | some c => tV st c fun v => ih fun ds lg => kF lg id fun lg => k (v :: ds) lg
        | none => none
      | _ => none
    | _ => none
  | .cn p n => match sl.get p with
    | some (.pt id off st) => match ob.get id with
      | some (.cells _ cs _) => eZ st n (fA off cs) fun es => ih fun ds lg => kF lg id fun lg => k (.ag es :: ds) lg
      | _ => none
    | _ => none) rs
def one (ds : List D) : D :=
 match ds with
 | [d] => d
 | ds => .tp ds
def mW (sl : T D) (ob : T C) (nx : Pos) (lg : Option (T Bool)) (d : Option Pos) (v : D) : Option X :=
 match d with
 | none => some ⟨sl, ob, nx, lg⟩
 | some d => bJ sl ob nx lg d v
def rK {α : Type} (m : T Unit) : T α -> T α :=
 T.rec (fun _ => .e) (fun _ v _ gl gr t => T.casesOn t .e fun l' v' r' => .n (gl l') (Option.casesOn v none fun _ => v') (gr r')) m
theorem lQ {α : Type} : ∀ (m : T Unit) (t : T α) (p : Pos) {x : α}, (rK m t).get p = some x -> t.get p = some x
 | .e, t, p, x, h => by
   have h : (T.e : T α).get p = some x := h
   rw [T.get_e] at h; cases h
 | .n _ _ _, .e, p, x, h => by
   have h : (T.e : T α).get p = some x := h
   rw [T.get_e] at h; cases h
 | .n l v r, .n l' v' r', p, x, h => by
   cases p with
   | h =>
     have h : (Option.casesOn v none fun _ => v' : Option α) = some x := h
     cases v with
     | none => cases h
     | some _ => exact h
   | o p => exact lQ l l' p h
   | i p => exact lQ r r' p h
def xS {α β : Type} (f : α -> Option β) : List α -> Option (List β)
 | [] => some []
 | a :: l => match f a with
   | some b => match xS f l with
     | some r => some (b :: r)
     | none => none
   | none => none
def JW (st : Nat) : Nat -> List Cell -> Option (List D × List Cell)
 | 0, l => some ([], l)
 | _ + 1, [] => none
 | n + 1, c :: l => bif c.has st then match JW st n l with
   | some (ds, r) => some (c.d :: ds, r)
   | none => none
   else none
def Nw (st z : Nat) : Nat -> List Cell -> Option (List (List D))
 | 0, _ => some []
 | n + 1, l => match JW st z l with
   | some (r, l') => match Nw st z n l' with
     | some es => some (r :: es)
     | none => none
   | none => none
def PR (ob : T C) : Nat -> D -> Option D
 | 0, _ => none
 | n + 1, d => match d with
   | .sl id off len st z => match ob.get id with
     | some (.cells _ cs _) => match Nw st z len (fA off cs) with
       | some es => match xS (xS (PR ob n)) es with
         | some fs => some (.lst z fs)
         | none => none
       | none => none
     | _ => none
   | .lst z es => match xS (xS (PR ob n)) es with
     | some fs => some (.lst z fs)
     | none => none
   | .ag cs => match xS (PR ob n) cs with
     | some ds => some (.ag ds)
     | none => none
   | .tp cs => match xS (PR ob n) cs with
     | some ds => some (.tp ds)
     | none => none
   | .b x => some (.b x)
   | .i k n => some (.i k n)
   | .ns => some .ns
   | .em => some .em
   | .np => some .np
   | .nf => some .nf
   | .nm => some .nm
   | _ => none
def GL (ob : T C) : Nat -> D -> List Pos -> List Pos
 | 0, _, r => r
 | n + 1, d, r => match d with
   | .sl id _ _ _ _ => match ob.get id with
     | some (.cells _ cs _) => cs.foldl (fun r c => GL ob n c.d r) (id :: r)
     | _ => r
   | .ag cs => cs.foldl (fun r d => GL ob n d r) r
   | .tp cs => cs.foldl (fun r d => GL ob n d r) r
   | .lst _ es => es.foldl (fun r ds => ds.foldl (fun r d => GL ob n d r) r) r
   | _ => r
def yA : List Pos -> T Unit
 | [] => .e
 | p :: l => T.set p () (yA l)
def Wc : IntKind -> Nat
 | .i8 => 0
 | .i16 => 1
 | .i32 => 2
 | .i64 => 3
 | .u8 => 4
 | .u16 => 5
 | .u32 => 6
 | .u64 => 7
def Nq : Int -> Int -> Bool
 | .ofNat m, .ofNat n => Nat.beq m n
 | .negSucc m, .negSucc n => Nat.beq m n
 | _, _ => false
def wK {α : Type} (f : α -> α -> Bool) : List α -> List α -> Bool
 | [], [] => true
 | a :: l, b :: m => f a b && wK f l m
 | _, _ => false
def tL : Nat -> D -> D -> Bool
 | 0, _, _ => false
 | n + 1, a, b => match a with
   | .b x => match b with
     | .b y => x == y
     | _ => false
   | .i k x => match b with
     | .i l y => Nat.beq (Wc k) (Wc l) && Nq x y
     | _ => false
   | .ns => match b with
     | .ns => true
     | _ => false
   | .em => match b with
     | .em => true
     | _ => false
   | .np => match b with
     | .np => true
     | _ => false
   | .nf => match b with
     | .nf => true
     | _ => false
   | .nm => match b with
     | .nm => true
     | _ => false
   | .ag x => match b with
     | .ag y => wK (tL n) x y
     | _ => false
   | .tp x => match b with
     | .tp y => wK (tL n) x y
     | _ => false
   | .lst z x => match b with
     | .lst u y => Nat.beq z u && wK (wK (tL n)) x y
     | _ => false
   | _ => false
def EL (ds : List D) : List (List D × D) -> Option D
 | [] => none
 | m :: l => bif wK (tL 12) ds m.1 then some m.2 else EL ds l
def Rd (mem : List (List D × D)) (ob : T C) (args : List D) : Option (D × List Pos) :=
 match mem with
 | [] => none
 | m :: l => match xS (PR (rK (yA (args.foldl (fun r d => GL ob 12 d r) [])) ob) 12) args with
   | some ds => match EL ds (m :: l) with
     | some v => some (v, args.foldl (fun r d => GL ob 12 d r) [])
     | none => none
   | none => none
def AF : List Pos -> Option (T Bool) -> (Option (T Bool) -> Option X) -> Option X
 | [], lg, k => k lg
 | p :: l, lg, k => kF lg p fun lg => AF l lg k
def zB (FP : T RF) (ex : RC -> X -> Option (Ex × X)) (f : Pos) (args : List D) (ob : T C) (nx : Pos) (lg : Option (T Bool)) (k : D -> T C -> Pos -> Option (T Bool) -> Option X) : Option X :=
 match FP.get f with
 | some rf => match rf.kn with
   | some v => match args with
     | [] => k v ob nx lg
     | _ => none
   | none => match Rd rf.mem ob args with
   | some (v, ids) => AF ids lg fun lg => k v ob nx lg
   | none => bif Nat.ble (List.length args) rf.nt then JI args .h .e fun sl => match ex rf.body ⟨sl, ob, nx, lg⟩ with
   | some (.normal, ⟨sl, ob, nx, lg⟩) => results rf.res sl ob lg fun ds lg => k (one ds) ob nx lg
   | some (.ret, ⟨sl, ob, nx, lg⟩) => results rf.res sl ob lg fun ds lg => k (one ds) ob nx lg
   | _ => none
   else none
 | none => none
def BE (ps : List Pos) : List D -> T D -> (T D -> Option X) -> Option X :=
 List.rec (fun ds t k => List.casesOn ds (k t) fun _ _ => none) (fun p _ ih ds t k => List.casesOn ds none fun d ds => T.setK p d t fun t => ih ds t k) ps
def Jb (P : Program) (FP : T RF) (ex : RC -> X -> Option (Ex × X)) (v : D) (args : List D) (ob : T C) (nx : Pos) (lg : Option (T Bool)) (k : D -> T C -> Pos -> Option (T Bool) -> Option X) : Option X :=
 match v with
 | .fn f first caps => zB FP ex f (first ++ (args ++ caps)) ob nx lg k
 | .yl id => match ob.get id with
   | some (.lp sl ps nt asg body .ready _) => BE ps args sl fun sl' => match ex (aT P nt asg) ⟨sl', ob, nx, lg⟩ with
     | some (.normal, ⟨sl2, ob, nx, lg⟩) => match ob.get id with
       | some (.lp a b m c d .ready j) => T.setK id (.lp a b m c d .busy j) ob fun ob => Bi lg id fun lg => match ex (aT P nt body) ⟨sl2, ob, nx, lg⟩ with
         | some (e, ⟨_, ob, nx, lg⟩) => match ob.get id with
           | some (.lp a b m c d _ _) => match e with
             | .normal => T.setK id (.lp a b m c d .ready none) ob fun ob => k (.b true) ob nx lg
             | .ret => T.setK id (.lp a b m c d .done (some .ret)) ob fun ob => k (.b false) ob nx lg
             | .exit i => T.setK id (.lp a b m c d .done (some (.exit i))) ob fun ob => k (.b false) ob nx lg
           | _ => none
         | none => none
       | _ => none
     | _ => none
   | _ => none
 | _ => none
def Ov (FP : T RF) (ex : RC -> X -> Option (Ex × X)) (d : Option Pos) (f : Pos) (xs : List RX) (sl : T D) (ob : T C) (nx : Pos) (lg : Option (T Bool)) : Option X :=
 match uF sl xs with
 | some ds => zB FP ex f ds ob nx lg fun v ob nx lg => mW sl ob nx lg d v
 | none => none
def OH (P : Program) (FP : T RF) (ex : RC -> X -> Option (Ex × X)) (d : Option Pos) (g : RX) (xs : List RX) (sl : T D) (ob : T C) (nx : Pos) (lg : Option (T Bool)) : Option X :=
 match bE sl g, uF sl xs with
 | some v, some ds => Jb P FP ex v ds ob nx lg fun v ob nx lg => mW sl ob nx lg d v
 | _, _ => none
def PN (P : Program) (FP : T RF) (ex : RC -> X -> Option (Ex × X)) (r : RO) : T D -> T C -> Pos -> Option (T Bool) -> Option X :=
 RO.casesOn r Mn oF Fj EY Fu FM zW pK xQ AZ kK GQ tK BJ zP Ey EW ER yL zI yD EB tY zT FY yO fP EZ Gt Gf yK zD Fo FQ EI Ft Fw (Ov FP ex) (OH P FP ex) Nu
def Zx (P : Program) (FP : T RF) (ex : RC -> X -> Option (Ex × X)) (r : RO) (x : X) : Option X := X.casesOn x (PN P FP ex r)
def XM (P : Program) (FP : T RF) (ex : RC -> X -> Option (Ex × X)) (p : Pos) (want : Bool) (d : Option Pos) (r : RO) (x : X) : Option X :=
 X.casesOn x fun sl ob nx lg => match sl.get p with
  | some (.b b) => bif (bif want then b else !b) then PN P FP ex r sl ob nx lg else mW sl ob nx lg d (.tp [])
  | some (.tp []) => mW sl ob nx lg d (.tp [])
  | _ => none
def Dm (P : Program) (FP : T RF) (ex : RC -> X -> Option (Ex × X)) (g : RG) : X -> Option X := RG.casesOn g (Zx P FP ex) (XM P FP ex)
def PK (P : Program) (FP : T RF) (ex : RC -> X -> Option (Ex × X)) (l : List RG) : X -> Option X :=
 List.rec (fun x => some x) (fun g _ ih x => match Dm P FP ex g x with
  | some x => ih x
  | none => none) l
def Re (id : Nat) (x : X) : Option (Ex × X) := some (.exit id, x)
def II (P : Program) (FP : T RF) (ex : RC -> X -> Option (Ex × X)) (l : List RG) (x : X) : Option (Ex × X) :=
 match PK P FP ex l x with
 | some y => some (.normal, y)
 | none => none
def AN : Option Bool -> Option Bool -> Bool
 | some x, some y => bif x then false else !y
 | _, _ => true
def iY (a : T Bool) : T Bool -> Bool :=
 T.rec (fun _ => true) (fun _ v _ gl gr b => T.casesOn b true fun l' v' r' => bif AN v v' then (bif gl l' then gr r' else false) else false) a
def oW {β : Type} (a b : Option Bool) (k : Option Bool -> β) : β :=
 Option.casesOn a (k b) fun x => Option.casesOn b (k (some x)) fun y => Bool.casesOn x (k (some y)) (k (some true))
def kV {β : Type} (a : T Bool) : T Bool -> (T Bool -> β) -> β :=
 T.rec (fun b k => k b) (fun l v r gl gr b k => T.casesOn b (k (.n l v r)) fun l' v' r' => gl l' fun l2 => gr r' fun r2 => oW v v' fun v2 => k (.n l2 v2 r2)) a
def oH {β : Type} (lg : Option (T Bool)) (M : T Bool) (k : Option (T Bool) -> β) : β :=
 match lg with
 | none => k none
 | some L => kV L M fun L => k (some L)
def nO (m : Nat) (L : T Bool) (acc : List (Nat × T Bool)) : Bool :=
 List.rec true (fun p _ ih => bif eI m p.1 then ih else bif iY p.2 L then ih else false) acc
def BV (l : List Nat) : List Nat := List.casesOn l [] fun _ l => l
def GM (P : Program) (FP : T RF) (ex : RC -> X -> Option (Ex × X)) (l : List RG) : List Nat -> Nat -> List (Nat × T Bool) -> X -> Option X :=
 List.rec (fun _ _ _ x => some x) (fun g _ ih ms i acc x => X.casesOn x fun sl ob nx lg => match Dm P FP ex g ⟨sl, ob, nx, some .e⟩ with
  | some ⟨sl, ob, nx, some L⟩ => match L with
    | .e => ih (BV ms) (Nat.succ i) acc ⟨sl, ob, nx, lg⟩
    | .n l v r => bif nO (dV ms 0) (.n l v r) acc then oH lg (.n l v r) fun lg => ih (BV ms) (Nat.succ i) ((i, .n l v r) :: acc) ⟨sl, ob, nx, lg⟩ else none
  | _ => none) l
def Ks (P : Program) (FP : T RF) (ex : RC -> X -> Option (Ex × X)) (l : List RG) (ms : List Nat) (x : X) : Option (Ex × X) :=
 match GM P FP ex l ms 0 [] x with
 | some y => some (.normal, y)
 | none => none
def BX (ex : RC -> X -> Option (Ex × X)) (a b : RC) (x : X) : Option (Ex × X) :=
 match ex a x with
 | some (.normal, y) => ex b y
 | r => r
def Dd (ex : RC -> X -> Option (Ex × X)) (c : RX) (a b : RC) (x : X) : Option (Ex × X) :=
 X.casesOn x fun sl ob nx lg => match bE sl c with
 | some (.b true) => ex a ⟨sl, ob, nx, lg⟩
 | some (.b false) => ex b ⟨sl, ob, nx, lg⟩
 | _ => none
def JY (ex : RC -> X -> Option (Ex × X)) (id : Nat) (a : RC) (x : X) : Option (Ex × X) :=
 match ex a x with
 | some (.exit i, y) => bif Nat.beq i id then some (.normal, y) else some (.exit i, y)
 | r => r
def Do (ex : RC -> X -> Option (Ex × X)) (a : RC) (x : X) : Option (Ex × X) :=
 match ex a x with
 | some (.normal, y) => ex (.loop a) y
 | r => r
def QD (FP : T RF) (ex : RC -> X -> Option (Ex × X)) (f : RX) (ps : List Pos) (nt : Nat) (asg body : Code) (x : X) : Option (Ex × X) :=
 X.casesOn x fun sl ob nx lg => match bE sl f with
  | some (.fn f first caps) => T.setK nx (.lp sl ps nt asg body .ready none) ob fun ob => Pos.succK nx fun nx' =>
    match Bi lg nx fun lg => zB FP ex f (first ++ (.yl nx :: caps)) ob nx' lg fun _ ob nx lg => some ⟨sl, ob, nx, lg⟩ with
    | some ⟨sl, ob, nx2, lg⟩ => match ob.get nx with
      | some (.lp _ _ _ _ _ .busy _) => none
      | some (.lp a b m c d _ j) => T.setK nx (.lp a b m c d .gone j) ob fun ob => match j with
        | none => some (.normal, ⟨sl, ob, nx2, lg⟩)
        | some e => some (e, ⟨sl, ob, nx2, lg⟩)
      | _ => none
    | none => none
  | _ => none
def CD (P : Program) (FP : T RF) (ex : RC -> X -> Option (Ex × X)) (c : RC) : X -> Option (Ex × X) :=
 RC.casesOn c (fun x => some (.normal, x)) (fun x => some (.ret, x)) Re (II P FP ex) (Ks P FP ex) (BX ex) (Dd ex) (JY ex) (Do ex) (QD FP ex)
def exec (P : Program) (FP : T RF) (n : Nat) : RC -> X -> Option (Ex × X) :=
 Nat.rec (fun _ _ => none) (fun _ ih => CD P FP ih) n
end Go.Ev
end
