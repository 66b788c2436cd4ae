import Derived.Test.YtihlllachfonoaaGreatDoorEvA
set_option linter.all false
namespace Go.Ev

/-! ### the state -/
inductive Cell where
  | o (d : D) (lo : Nat)
  | c (d : D) (lo hi : Nat)
def Cell.d : Cell → D
  | .o d _ => d
  | .c d _ _ => d
def Cell.has : Cell → Nat → Bool
  | .o _ lo, st => Nat.ble lo st
  | .c _ lo hi, st => Nat.ble lo st && Nat.ble st hi

inductive Ex where
  | normal
  | ret
  | exit (id : Nat)

inductive LS where
  | ready
  | busy
  | done
  | gone

inductive C where
  | cells (ro : Bool) (cs : List Cell) (cur : Nat)
  | map (es : List (D × D))
  | lp (sl : T D) (ps : List Pos) (nt : Nat) (asg body : Code) (st : LS) (jump : Option Ex)
  | hole

structure X where
  sl : T D
  ob : T C
  nx : Pos
  lg : Option (T Bool)

/-! ### numbers, worked out before they are handed on -/
noncomputable def natK {β : Type} (n : Nat) (k : Nat → β) : β := Nat.casesOn n (k 0) fun m => k (Nat.succ m)
def imax : IntKind → Nat
  | .i8 => 127
  | .i16 => 32767
  | .i32 => 2147483647
  | .i64 => 9223372036854775807
  | .u8 => 255
  | .u16 => 65535
  | .u32 => 4294967295
  | .u64 => 18446744073709551615
/-- A number, wrapped. -/
noncomputable def wrapK {β : Type} (k : IntKind) (r : Int) (f : D → β) : β :=
  Int.casesOn r
    (fun m => bif Nat.ble m (imax k) then natK m fun m => f (.i k (.ofNat m)) else Int.casesOn (k.wrap (.ofNat m)) (fun m => natK m fun m => f (.i k (.ofNat m))) (fun m => natK m fun m => f (.i k (.negSucc m))))
    (fun m => bif k.signed && Nat.ble m (imax k) then natK m fun m => f (.i k (.negSucc m)) else Int.casesOn (k.wrap (.negSucc m)) (fun m => natK m fun m => f (.i k (.ofNat m))) (fun m => natK m fun m => f (.i k (.negSucc m))))
/-- A number as it is. -/
noncomputable def intK {β : Type} (k : IntKind) (r : Int) (f : D → β) : β := Int.casesOn r (fun m => natK m fun m => f (.i k (.ofNat m))) (fun m => natK m fun m => f (.i k (.negSucc m)))
def ltB : Int → Int → Bool
  | .ofNat m, .ofNat n => Nat.blt m n
  | .ofNat _, .negSucc _ => false
  | .negSucc _, .ofNat _ => true
  | .negSucc m, .negSucc n => Nat.blt n m
def eqB : Int → Int → Bool
  | .ofNat m, .ofNat n => Nat.beq m n
  | .negSucc m, .negSucc n => Nat.beq m n
  | _, _ => false
noncomputable def boolK {β : Type} (b : Bool) (f : D → β) : β := Bool.casesOn b (f (.b false)) (f (.b true))
def kEq : IntKind → IntKind → Bool
  | .i8, .i8 => true
  | .i16, .i16 => true
  | .i32, .i32 => true
  | .i64, .i64 => true
  | .u8, .u8 => true
  | .u16, .u16 => true
  | .u32, .u32 => true
  | .u64, .u64 => true
  | _, _ => false

/-- The operations on numbers, by the numbers' own. -/
noncomputable def iadd (a b : Int) : Int := Int.casesOn a (fun m => Int.casesOn b (fun n => .ofNat (Nat.add m n)) (fun n => Int.add (.ofNat m) (.negSucc n))) (fun m => Int.add (.negSucc m) b)
noncomputable def isub (a b : Int) : Int := Int.casesOn a (fun m => Int.casesOn b (fun n => bif Nat.ble n m then .ofNat (Nat.sub m n) else .negSucc (Nat.sub (Nat.sub n m) 1)) (fun n => Int.sub (.ofNat m) (.negSucc n))) (fun m => Int.sub (.negSucc m) b)
noncomputable def imul (a b : Int) : Int := Int.casesOn a (fun m => Int.casesOn b (fun n => .ofNat (Nat.mul m n)) (fun n => Int.mul (.ofNat m) (.negSucc n))) (fun m => Int.mul (.negSucc m) b)
noncomputable def iquo (a b : Int) : Int := Int.casesOn a (fun m => Int.casesOn b (fun n => .ofNat (Nat.div m n)) (fun n => Int.tdiv (.ofNat m) (.negSucc n))) (fun m => Int.tdiv (.negSucc m) b)
noncomputable def irem (a b : Int) : Int := Int.casesOn a (fun m => Int.casesOn b (fun n => .ofNat (Nat.mod m n)) (fun n => Int.tmod (.ofNat m) (.negSucc n))) (fun m => Int.tmod (.negSucc m) b)
def ubits : IntKind → Nat
  | .i8 => 255
  | .i16 => 65535
  | .i32 => 4294967295
  | .i64 => 18446744073709551615
  | .u8 => 255
  | .u16 => 65535
  | .u32 => 4294967295
  | .u64 => 18446744073709551615
def slowAnd (k : IntKind) (a b : Int) : Int := ((BitVec.ofInt k.bits a &&& BitVec.ofInt k.bits b).toNat : Int)
def slowOr (k : IntKind) (a b : Int) : Int := ((BitVec.ofInt k.bits a ||| BitVec.ofInt k.bits b).toNat : Int)
def slowXor (k : IntKind) (a b : Int) : Int := ((BitVec.ofInt k.bits a ^^^ BitVec.ofInt k.bits b).toNat : Int)
def slowNot (k : IntKind) (a b : Int) : Int := ((BitVec.ofInt k.bits a &&& ~~~BitVec.ofInt k.bits b).toNat : Int)
noncomputable def ibit (slow : IntKind → Int → Int → Int) (fast : IntKind → Nat → Nat → Nat) (k : IntKind) (a b : Int) : Int :=
  Int.casesOn a (fun m => Int.casesOn b (fun n => bif Nat.ble m (ubits k) && Nat.ble n (ubits k) then .ofNat (fast k m n) else slow k (.ofNat m) (.ofNat n)) (fun n => slow k (.ofNat m) (.negSucc n))) (fun m => slow k (.negSucc m) b)
noncomputable def iand : IntKind → Int → Int → Int := ibit slowAnd fun _ m n => Nat.land m n
noncomputable def ior : IntKind → Int → Int → Int := ibit slowOr fun _ m n => Nat.lor m n
noncomputable def ixor : IntKind → Int → Int → Int := ibit slowXor fun _ m n => Nat.xor m n
noncomputable def inot : IntKind → Int → Int → Int := ibit slowNot fun k m n => Nat.land m (Nat.sub (ubits k) n)
def kbits : IntKind → Nat
  | .i8 => 8
  | .i16 => 16
  | .i32 => 32
  | .i64 => 64
  | .u8 => 8
  | .u16 => 16
  | .u32 => 32
  | .u64 => 64
noncomputable def ishl (a : Int) (n : Nat) : Int := Int.casesOn a (fun m => .ofNat (Nat.mul m (Nat.pow 2 n))) (fun m => Int.mul (.negSucc m) (2 ^ n))
noncomputable def ishr (a : Int) (n : Nat) : Int := Int.casesOn a (fun m => .ofNat (Nat.div m (Nat.pow 2 n))) (fun m => Int.fdiv (.negSucc m) (2 ^ n))
noncomputable def minN (a b : Nat) : Nat := bif Nat.ble a b then a else b
noncomputable def arithK (op : BinOp) (k : IntKind) (a b : Int) (f : D → Option X) : Option X :=
  match op with
  | .add => wrapK k (iadd a b) f
  | .sub => wrapK k (isub a b) f
  | .mul => wrapK k (imul a b) f
  | .quo => bif eqB b (.ofNat 0) then none else wrapK k (iquo a b) f
  | .rem => bif eqB b (.ofNat 0) then none else intK k (irem a b) f
  | .and => wrapK k (iand k a b) f
  | .or => wrapK k (ior k a b) f
  | .xor => wrapK k (ixor k a b) f
  | .andNot => wrapK k (inot k a b) f
  | .eql => boolK (eqB a b) f
  | .neq => boolK (!eqB a b) f
  | .lss => boolK (ltB a b) f
  | .leq => boolK (!ltB b a) f
  | .gtr => boolK (ltB b a) f
  | .geq => boolK (!ltB a b) f
  | .shl => none
  | .shr => none
noncomputable def shiftK (op : BinOp) (k : IntKind) (a b : Int) (f : D → Option X) : Option X :=
  match b with
  | .ofNat n => match op with
    | .shl => wrapK k (ishl a (minN n (kbits k))) f
    | .shr => intK k (ishr a (minN n (kbits k))) f
    | _ => none
  | .negSucc _ => none
noncomputable def binK (op : BinOp) (x y : D) (f : D → Option X) : Option X :=
  match x, y with
  | .i k a, .i k' b => match op with
    | .shl => shiftK .shl k a b f
    | .shr => shiftK .shr k a b f
    | op => bif kEq k k' then arithK op k a b f else none
  | _, _ => none

def wfB (k : IntKind) : Int → Bool
  | .ofNat m => Nat.ble m (imax k)
  | .negSucc m => k.signed && Nat.ble m (imax k)
/-- Whether two rows of plain cells are the same. -/
def eqC : LK → D → D → Option Bool
  | .b, .b x, .b y => some (x == y)
  | .i k, .i k1 a, .i k2 b => bif kEq k1 k && kEq k2 k && wfB k a && wfB k b then some (eqB a b) else none
  | _, _, _ => none
def eqL : List LK → List D → List D → Option Bool
  | [], [], [] => some true
  | k :: ks, x :: xs, y :: ys => match eqC k x y, eqL ks xs ys with
    | some a, some b => some (a && b)
    | _, _ => none
  | _, _, _ => none
def eqR (ks : List LK) : D → D → Option Bool
  | .ag xs, .ag ys => eqL ks xs ys
  | _, _ => none
def eqV : Nat → D → D → Option Bool
  | 0, .b x, .b y => some (x == y)
  | 1, .ns, .ns => some true
  | 1, .sl .., .ns => some false
  | 1, .em, .ns => some false
  | 1, .lst _ (_ :: _), .ns => some false
  | 1, .ns, .sl .. => some false
  | 1, .ns, .em => some false
  | 2, .nf, .nf => some true
  | 2, .fn .., .nf => some false
  | 3, .nm, .nm => some true
  | 3, .mp _, .nm => some false
  | 4, .np, .np => some true
  | 4, .pt .., .np => some false
  | 4, .np, .pt .. => some false
  | _, _, _ => none

/-! ### lists of cells -/
noncomputable def nthC {α : Type} (l : List α) : Nat → Option α := List.rec (fun _ => none) (fun x _ ih n => Nat.casesOn n (some x) ih) l
noncomputable def dropC {α : Type} (n : Nat) : List α → List α := Nat.rec (fun l => l) (fun _ ih l => List.casesOn l [] fun _ l => ih l) n
/-- The next n cells, as the stamp sees them. -/
noncomputable def readK {β : Type} (st n : Nat) : List Cell → (List D → Option β) → Option β :=
  Nat.rec (fun _ k => k []) (fun _ ih l k => List.casesOn l none fun c l => Cell.casesOn c
    (fun d lo => bif Nat.ble lo st then ih l fun ds => k (d :: ds) else none)
    (fun d lo hi => bif Nat.ble lo st && Nat.ble st hi then ih l fun ds => k (d :: ds) else none)) n
/-- New cells in the place of those from off on, which the stamp sees. -/
noncomputable def putsK {β : Type} (st : Nat) (mk : D → Cell) (new : List D) : List Cell → (List Cell → Option β) → Option β :=
  List.rec (fun l k => k l) (fun d _ ih l k => List.casesOn l none fun c l => Cell.casesOn c
    (fun _ lo => bif Nat.ble lo st then ih l fun l => k (mk d :: l) else none)
    (fun _ lo hi => bif Nat.ble lo st && Nat.ble st hi then ih l fun l => k (mk d :: l) else none)) new
noncomputable def writeK {β : Type} (st : Nat) (mk : D → Cell) (new : List D) (off : Nat) : List Cell → (List Cell → Option β) → Option β :=
  Nat.rec (putsK st mk new) (fun _ ih l k => List.casesOn l none fun c l => ih l fun l => k (c :: l)) off
/-- The cells that were, shut from the stamp on. -/
noncomputable def shutK {β : Type} (hi : Nat) (l : List Cell) : (List Cell → Option β) → Option β :=
  List.rec (fun k => k []) (fun c _ ih k => ih fun l => Cell.casesOn c (fun d lo => k (.c d lo hi :: l)) (fun d lo h => k (.c d lo (bif Nat.ble h hi then h else hi) :: l))) l
noncomputable def consK {β : Type} (mk : D → Cell) (new : List D) (l : List Cell) : (List Cell → Option β) → Option β :=
  List.rec (fun k => k l) (fun d _ ih k => ih fun l => k (mk d :: l)) new
/-- The first n cells stay, all open to the stamp; new ones behind them; what was behind them is shut. -/
noncomputable def growK {β : Type} (st cur : Nat) (new : List D) (n : Nat) : List Cell → (List Cell → Option β) → Option β :=
  Nat.rec (fun l k => shutK (Nat.pred cur) (dropC (List.length new) l) fun l => consK (fun d => .o d cur) new l k)
    (fun _ ih l k => List.casesOn l none fun c l => Cell.casesOn c (fun d lo => bif Nat.ble lo st then ih l fun l => k (.o d lo :: l) else none) (fun _ _ _ => none)) n
/-- A cell, as the stamp sees it. -/
noncomputable def cellK {β : Type} (st : Nat) (c : Cell) (k : D → Option β) : Option β :=
  Cell.casesOn c (fun d lo => bif Nat.ble lo st then k d else none) (fun d lo hi => bif Nat.ble lo st && Nat.ble st hi then k d else none)
noncomputable def openK {β : Type} (new : List D) : (List Cell → Option β) → Option β := consK (fun d => .o d 0) new []

def cellsD : D → Option (List D)
  | .ag cs => some cs
  | .tp _ => none
  | .any => none
  | d => some [d]
noncomputable def takeK {β : Type} (n : Nat) : List D → (List D → Option β) → Option β :=
  Nat.rec (fun _ k => k []) (fun _ ih l k => List.casesOn l none fun d l => ih l fun ds => k (d :: ds)) n
/-- Parts into their places. -/
noncomputable def layK {β : Type} (new : List D) : List D → (List D → Option β) → Option β :=
  List.rec (fun l k => k l) (fun d _ ih l k => List.casesOn l none fun _ l => ih l fun l => k (d :: l)) new
noncomputable def layAtK {β : Type} (new : List D) (off : Nat) : List D → (List D → Option β) → Option β :=
  Nat.rec (layK new) (fun _ ih l k => List.casesOn l none fun c l => ih l fun l => k (c :: l)) off

/-! ### operations -/
noncomputable def opd (sl : T D) (x : RX) : Option D := RX.casesOn x (fun p => sl.get p) (fun d => some d)
noncomputable def opds (sl : T D) (xs : List RX) : Option (List D) :=
  List.rec (some []) (fun x _ ih => Option.casesOn (opd sl x) none fun d => Option.casesOn ih none fun ds => some (d :: ds)) xs
noncomputable def partsK {β : Type} (sl : T D) (ps : List (Nat × Nat × RX)) : List D → (List D → Option β) → Option β :=
  List.rec (fun l k => k l) (fun p _ ih l k => match p with
    | (off, n, x) => match opd sl x with
      | some d => match cellsD d with
        | some cs => bif Nat.beq cs.length n then layAtK cs off l fun l => ih l k else none
        | none => none
      | none => none) ps

/-- A value into a slot. -/
noncomputable def outK (sl : T D) (ob : T C) (nx : Pos) (lg : Option (T Bool)) (d : Pos) (v : D) : Option X := T.setK d v sl fun sl => some ⟨sl, ob, nx, lg⟩
noncomputable def logW (lg : Option (T Bool)) (id : Pos) (k : Option (T Bool) → Option X) : Option X :=
  Option.casesOn lg (k none) fun L => T.setK id true L fun L => k (some L)
noncomputable def logR (lg : Option (T Bool)) (id : Pos) (k : Option (T Bool) → Option X) : Option X :=
  Option.casesOn lg (k none) fun L => Option.casesOn (L.get id) (T.setK id false L fun L => k (some L)) fun _ => k (some L)
/-- A new object, and a value into a slot. -/
noncomputable def freshK (sl : T D) (ob : T C) (nx : Pos) (lg : Option (T Bool)) (c : C) (d : Pos) (v : D) : Option X :=
  logW lg nx fun lg => T.setK nx c ob fun ob => Pos.succK nx fun nx' => outK sl ob nx' lg d v
noncomputable def objK (sl : T D) (ob : T C) (nx : Pos) (lg : Option (T Bool)) (id : Pos) (c : C) : Option X :=
  logW lg id fun lg => T.setK id c ob fun ob => some ⟨sl, ob, nx, lg⟩
noncomputable def objOutK (sl : T D) (ob : T C) (nx : Pos) (lg : Option (T Bool)) (id : Pos) (c : C) (d : Pos) (v : D) : Option X :=
  logW lg id fun lg => T.setK id c ob fun ob => outK sl ob nx lg d v

def idx (n : Int) (len : Nat) : Option Nat :=
  match n with
  | .ofNat m => bif Nat.blt m len then some m else none
  | .negSucc _ => none
noncomputable def bnd (sl : T D) (x : Option RX) (dflt : Nat) (k : Nat → Option X) : Option X :=
  match x with
  | none => k dflt
  | some x => match opd sl x with
    | some (.i _ (.ofNat m)) => k m
    | _ => none

/-- What lies behind a slice, as its stamp sees it. -/
noncomputable def srcK (ob : T C) (z : Nat) (y : D) (k : Option Pos → Nat → List D → Option X) : Option X :=
  match y with
  | .ns => k none 0 []
  | .em => k none 0 []
  | .sl id off len st z' => bif Nat.beq z z' then
      match ob.get id with
      | some (.cells _ cs _) => readK st (Nat.mul len z) (dropC off cs) fun ds => k (some id) len ds
      | _ => none
    else none
  | .lst z' es => bif Nat.beq z z' && Nat.beq (List.length (List.flatten es)) (Nat.mul (List.length es) z) then k none (List.length es) (List.flatten es) else none
  | _ => none

noncomputable def logO (lg : Option (T Bool)) (id : Option Pos) (k : Option (T Bool) → Option X) : Option X :=
  match id with
  | none => k lg
  | some id => logR lg id k

noncomputable def s_mv (d : Pos) (x : RX) (sl : T D) (ob : T C) (nx : Pos) (lg : Option (T Bool)) : Option X := match opd sl x with
    | some v => outK sl ob nx lg d v
    | none => none
noncomputable def s_pick (d : Pos) (c : RX) (x : RX) (y : RX) (sl : T D) (ob : T C) (nx : Pos) (lg : Option (T Bool)) : Option X := match opd sl c with
    | some (.b true) => match opd sl x with
      | some v => outK sl ob nx lg d v
      | none => none
    | some (.b false) => match opd sl y with
      | some v => outK sl ob nx lg d v
      | none => none
    | _ => none
noncomputable def s_new (d : Pos) (zs : List D) (sl : T D) (ob : T C) (nx : Pos) (lg : Option (T Bool)) : Option X := openK zs fun cs => freshK sl ob nx lg (.cells false cs 1) d (.pt nx 0 0)
noncomputable def s_box (d : Pos) (x : RX) (sl : T D) (ob : T C) (nx : Pos) (lg : Option (T Bool)) : Option X := match opd sl x with
    | some v => match cellsD v with
      | some ds => openK ds fun cs => freshK sl ob nx lg (.cells false cs 1) d (.pt nx 0 0)
      | none => none
    | none => none
noncomputable def s_bld (d : Pos) (zs : List D) (ps : List (Nat × Nat × RX)) (sl : T D) (ob : T C) (nx : Pos) (lg : Option (T Bool)) : Option X := partsK sl ps zs fun ds => outK sl ob nx lg d (.ag ds)
noncomputable def s_bsl (d : Pos) (z : Nat) (len : Nat) (zs : List D) (ps : List (Nat × Nat × RX)) (sl : T D) (ob : T C) (nx : Pos) (lg : Option (T Bool)) : Option X := partsK sl ps zs fun ds => openK ds fun cs => freshK sl ob nx lg (.cells false cs 1) d (.sl nx 0 len 0 z)
noncomputable def s_ld1 (d : Pos) (x : RX) (sl : T D) (ob : T C) (nx : Pos) (lg : Option (T Bool)) : Option X := match opd sl x with
    | some (.pt id off st) => match ob.get id with
      | some (.cells _ cs _) => match nthC cs off with
        | some c => cellK st c fun v => logR lg id fun lg => outK sl ob nx lg d v
        | none => none
      | _ => none
    | some (.pl r k) => match nthC r k with
      | some v => outK sl ob nx lg d v
      | none => none
    | _ => none
noncomputable def s_ldn (d : Pos) (x : RX) (n : Nat) (sl : T D) (ob : T C) (nx : Pos) (lg : Option (T Bool)) : Option X := match opd sl x with
    | some (.pt id off st) => match ob.get id with
      | some (.cells _ cs _) => readK st n (dropC off cs) fun ds => logR lg id fun lg => outK sl ob nx lg d (.ag ds)
      | _ => none
    | some (.pl r k) => takeK n (dropC k r) fun ds => outK sl ob nx lg d (.ag ds)
    | _ => none
noncomputable def s_st (x : RX) (y : RX) (n : Nat) (sl : T D) (ob : T C) (nx : Pos) (lg : Option (T Bool)) : Option X := match opd sl x, opd sl y with
    | some (.pt id off st), some v => match ob.get id, cellsD v with
      | some (.cells false cs cur), some ds => bif Nat.beq ds.length n then
          bif Nat.beq (Nat.succ st) cur then writeK st (fun d => .o d st) ds off cs fun cs => objK sl ob nx lg id (.cells false cs cur)
          else writeK st (fun d => .c d st st) ds off cs fun cs => objK sl ob nx lg id (.cells false cs cur)
        else none
      | _, _ => none
    | _, _ => none
noncomputable def s_nilc (d : Pos) (x : RX) (sl : T D) (ob : T C) (nx : Pos) (lg : Option (T Bool)) : Option X := match opd sl x with
    | some .np => none
    | some .ni => none
    | some .nf => none
    | some (.pt id off st) => outK sl ob nx lg d (.pt id off st)
    | some (.fn f a b) => outK sl ob nx lg d (.fn f a b)
    | some (.yl id) => outK sl ob nx lg d (.yl id)
    | some (.pl r k) => outK sl ob nx lg d (.pl r k)
    | _ => none
noncomputable def s_bin (d : Pos) (op : BinOp) (x : RX) (y : RX) (sl : T D) (ob : T C) (nx : Pos) (lg : Option (T Bool)) : Option X := match opd sl x, opd sl y with
    | some a, some b => binK op a b fun v => outK sl ob nx lg d v
    | _, _ => none
noncomputable def s_eq (d : Pos) (neg : Bool) (tk : Nat) (x : RX) (y : RX) (sl : T D) (ob : T C) (nx : Pos) (lg : Option (T Bool)) : Option X := match opd sl x, opd sl y with
    | some a, some b => match eqV tk a b with
      | some e => boolK (bif neg then !e else e) fun v => outK sl ob nx lg d v
      | none => none
    | _, _ => none
noncomputable def s_eqr (d : Pos) (neg : Bool) (ks : List LK) (x : RX) (y : RX) (sl : T D) (ob : T C) (nx : Pos) (lg : Option (T Bool)) : Option X := match opd sl x, opd sl y with
    | some a, some b => match eqR ks a b with
      | some e => boolK (bif neg then !e else e) fun v => outK sl ob nx lg d v
      | none => none
    | _, _ => none
noncomputable def s_un (d : Pos) (op : UnOp) (x : RX) (sl : T D) (ob : T C) (nx : Pos) (lg : Option (T Bool)) : Option X := match op, opd sl x with
    | .not, some (.b a) => boolK (!a) fun v => outK sl ob nx lg d v
    | .neg, some (.i k n) => wrapK k (isub (.ofNat 0) n) fun v => outK sl ob nx lg d v
    | _, _ => none
noncomputable def s_cvi (d : Pos) (k : IntKind) (x : RX) (sl : T D) (ob : T C) (nx : Pos) (lg : Option (T Bool)) : Option X := match opd sl x with
    | some (.i _ n) => wrapK k n fun v => outK sl ob nx lg d v
    | _ => none
noncomputable def s_fnl (d : Pos) (f : Pos) (first : List RX) (caps : List RX) (sl : T D) (ob : T C) (nx : Pos) (lg : Option (T Bool)) : Option X := match opds sl first, opds sl caps with
    | some a, some b => outK sl ob nx lg d (.fn f a b)
    | _, _ => none
noncomputable def s_mkm (d : Pos) (sl : T D) (ob : T C) (nx : Pos) (lg : Option (T Bool)) : Option X := freshK sl ob nx lg (.map []) d (.mp nx)
noncomputable def s_mks (d : Pos) (z : Nat) (zs : List D) (l : RX) (c : RX) (sl : T D) (ob : T C) (nx : Pos) (lg : Option (T Bool)) : Option X := match opd sl l, opd sl c with
    | some (.i _ (.ofNat l)), some (.i _ (.ofNat c)) => bif Nat.beq l c && Nat.ble l 65536 then
        Nat.rec (fun k => k []) (fun _ ih k => ih fun l => consK (fun d => .o d 0) zs l k) l fun cs => freshK sl ob nx lg (.cells false cs 1) d (.sl nx 0 l 0 z)
      else none
    | _, _ => none
noncomputable def s_slc (d : Pos) (z : Nat) (x : RX) (lo : Option RX) (hi : Option RX) (mx : Option RX) (sl : T D) (ob : T C) (nx : Pos) (lg : Option (T Bool)) : Option X := match opd sl x with
    | some (.sl id off len st z') => bif Nat.beq z z' then bnd sl lo 0 fun l => bnd sl hi len fun h =>
        bif Nat.ble l h && Nat.ble h len then match mx with
          | none => bif Nat.blt l h || Nat.beq l 0 then natK (Nat.add off (Nat.mul l z)) fun off => natK (Nat.sub h l) fun n => outK sl ob nx lg d (.sl id off n st z) else none
          | some mx => bnd sl (some mx) 0 fun m => bif Nat.ble h m && Nat.ble m len then
              bif Nat.blt l m then natK (Nat.add off (Nat.mul l z)) fun off => natK (Nat.sub h l) fun n => outK sl ob nx lg d (.sl id off n st z) else outK sl ob nx lg d .em
            else none
        else none
      else none
    | some (.lst z' es) => bif Nat.beq z z' then bnd sl lo 0 fun l => bnd sl hi (List.length es) fun h =>
        bif Nat.ble l h && Nat.ble h (List.length es) then match mx with
          | none => outK sl ob nx lg d (.lst z ((es.drop l).take (Nat.sub h l)))
          | some _ => none
        else none
      else none
    | some .ns => bnd sl lo 0 fun l => bnd sl hi 0 fun h => bnd sl mx 0 fun m => bif Nat.beq l 0 && Nat.beq h 0 && Nat.beq m 0 then outK sl ob nx lg d .ns else none
    | some .em => bnd sl lo 0 fun l => bnd sl hi 0 fun h => bnd sl mx 0 fun m => bif Nat.beq l 0 && Nat.beq h 0 && Nat.beq m 0 then outK sl ob nx lg d .em else none
    | _ => none
/-- So many rows. -/
def chunks (z : Nat) : Nat → List D → List (List D)
  | 0, _ => []
  | n + 1, l => l.take z :: chunks z n (l.drop z)
noncomputable def s_sla (d : Pos) (n : Nat) (z : Nat) (x : RX) (lo : Option RX) (hi : Option RX) (mx : Option RX) (sl : T D) (ob : T C) (nx : Pos) (lg : Option (T Bool)) : Option X := match opd sl x with
    | some (.pt id off st) => match ob.get id with
      | some (.cells _ cs _) => bnd sl lo 0 fun l => bnd sl hi n fun h => match mx with
        | none => bif Nat.ble l h && Nat.ble h n && Nat.blt l n && Nat.blt 0 z then match nthC cs (Nat.pred (Nat.add off (Nat.mul n z))) with
            | some c => cellK st c fun _ => natK (Nat.add off (Nat.mul l z)) fun off => natK (Nat.sub h l) fun m => logR lg id fun lg => outK sl ob nx lg d (.sl id off m st z)
            | none => none
          else none
        | some _ => none
      | _ => none
    | some (.pl r off) => bnd sl lo 0 fun l => bnd sl hi n fun h => match mx with
        | none => bif Nat.ble l h && Nat.ble h n && Nat.blt l n && Nat.ble (Nat.add off (Nat.mul n z)) (List.length r) then outK sl ob nx lg d (.lst z (chunks z (Nat.sub h l) (r.drop (Nat.add off (Nat.mul l z))))) else none
        | some _ => none
    | _ => none
noncomputable def s_fad (d : Pos) (x : RX) (k : Nat) (sl : T D) (ob : T C) (nx : Pos) (lg : Option (T Bool)) : Option X := match opd sl x with
    | some (.pt id off st) => natK (Nat.add off k) fun off => outK sl ob nx lg d (.pt id off st)
    | some (.pl r off) => natK (Nat.add off k) fun off => outK sl ob nx lg d (.pl r off)
    | _ => none
noncomputable def s_fld (d : Pos) (x : RX) (off : Nat) (n : Nat) (row : Bool) (sl : T D) (ob : T C) (nx : Pos) (lg : Option (T Bool)) : Option X := match opd sl x with
    | some (.ag cs) => bif row then takeK n (dropC off cs) fun ds => outK sl ob nx lg d (.ag ds) else match nthC cs off with
      | some v => outK sl ob nx lg d v
      | none => none
    | _ => none
noncomputable def s_ixs (d : Pos) (z : Nat) (x : RX) (i : RX) (sl : T D) (ob : T C) (nx : Pos) (lg : Option (T Bool)) : Option X := match opd sl x, opd sl i with
    | some (.sl id off len st z'), some (.i _ n) => bif Nat.beq z z' then match idx n len with
        | some m => natK (Nat.add off (Nat.mul m z)) fun off => outK sl ob nx lg d (.pt id off st)
        | none => none
      else none
    | some (.lst z' es), some (.i _ n) => bif Nat.beq z z' then match idx n (List.length es) with
        | some m => match nthC es m with
          | some r => outK sl ob nx lg d (.pl r 0)
          | none => none
        | none => none
      else none
    | _, _ => none
noncomputable def s_ixa (d : Pos) (len : Nat) (z : Nat) (x : RX) (i : RX) (sl : T D) (ob : T C) (nx : Pos) (lg : Option (T Bool)) : Option X := match opd sl x, opd sl i with
    | some (.pt id off st), some (.i _ n) => match idx n len with
        | some m => natK (Nat.add off (Nat.mul m z)) fun off => outK sl ob nx lg d (.pt id off st)
        | none => none
    | some (.pl r off), some (.i _ n) => match idx n len with
        | some m => natK (Nat.add off (Nat.mul m z)) fun off => outK sl ob nx lg d (.pl r off)
        | none => none
    | _, _ => none
noncomputable def s_ext (d : Pos) (x : RX) (n : Nat) (sl : T D) (ob : T C) (nx : Pos) (lg : Option (T Bool)) : Option X := match opd sl x with
    | some (.tp vs) => match nthC vs n with
      | some v => outK sl ob nx lg d v
      | none => none
    | _ => none
noncomputable def s_len (d : Pos) (x : RX) (sl : T D) (ob : T C) (nx : Pos) (lg : Option (T Bool)) : Option X := match opd sl x with
    | some .ns => outK sl ob nx lg d (.i .i64 (.ofNat 0))
    | some .em => outK sl ob nx lg d (.i .i64 (.ofNat 0))
    | some (.sl _ _ n _ _) => outK sl ob nx lg d (.i .i64 (.ofNat n))
    | some (.lst _ es) => natK (List.length es) fun n => outK sl ob nx lg d (.i .i64 (.ofNat n))
    | _ => none
noncomputable def s_app (d : Pos) (z : Nat) (x : RX) (y : RX) (sl : T D) (ob : T C) (nx : Pos) (lg : Option (T Bool)) : Option X := match opd sl x, opd sl y with
    | some x, some y => srcK ob z y fun idy k ds => logO lg idy fun lg => match k with
      | 0 => match x with
        | .ns => outK sl ob nx lg d .ns
        | .em => outK sl ob nx lg d .em
        | .sl id off len st z' => bif Nat.beq z z' then match ob.get id with
            | some (.cells false _ _) => logR lg id fun lg => outK sl ob nx lg d (.sl id off len st z')
            | _ => none
          else none
        | _ => none
      | k' + 1 => match x with
        | .ns => bif Nat.ble (Nat.succ k') 2147483648 then openK ds fun cs => freshK sl ob nx lg (.cells false cs 1) d (.sl nx 0 (Nat.succ k') 0 z) else none
        | .em => bif Nat.ble (Nat.succ k') 2147483648 then openK ds fun cs => freshK sl ob nx lg (.cells false cs 1) d (.sl nx 0 (Nat.succ k') 0 z) else none
        | .sl id off len st z' => bif Nat.beq z z' && Nat.ble (Nat.add len (Nat.succ k')) 2147483648 then match ob.get id with
            | some (.cells false cs cur) => growK st cur ds (Nat.add off (Nat.mul len z)) cs fun cs => natK (Nat.add len (Nat.succ k')) fun n => natK (Nat.succ cur) fun cur' => objOutK sl ob nx lg id (.cells false cs cur') d (.sl id off n cur z)
            | _ => none
          else none
        | _ => none
    | _, _ => none
noncomputable def s_cpy (d : Option Pos) (z : Nat) (x : RX) (y : RX) (sl : T D) (ob : T C) (nx : Pos) (lg : Option (T Bool)) : Option X := match opd sl x, opd sl y with
    | some (.sl id off len st z'), some y => srcK ob z y fun idy k ds => logO lg idy fun lg =>
        bif Nat.beq z z' && Nat.ble k len && Nat.blt 0 (List.length ds) then match ob.get id with
          | some (.cells false cs cur) =>
            let fin := fun cs => match d with
              | none => objK sl ob nx lg id (.cells false cs cur)
              | some d => objOutK sl ob nx lg id (.cells false cs cur) d (.i .i64 (.ofNat k))
            bif Nat.beq (Nat.succ st) cur then writeK st (fun d => .o d st) ds off cs fin else writeK st (fun d => .c d st st) ds off cs fin
          | _ => none
        else none
    | _, _ => none
noncomputable def s_mx (d : Pos) (x : RX) (y : RX) (sl : T D) (ob : T C) (nx : Pos) (lg : Option (T Bool)) : Option X := match opd sl x, opd sl y with
    | some (.i k a), some (.i k' b) => bif kEq k k' then bif ltB a b then outK sl ob nx lg d (.i k b) else outK sl ob nx lg d (.i k a) else none
    | _, _ => none
noncomputable def s_mn (d : Pos) (x : RX) (y : RX) (sl : T D) (ob : T C) (nx : Pos) (lg : Option (T Bool)) : Option X := match opd sl x, opd sl y with
    | some (.i k a), some (.i k' b) => bif kEq k k' then bif ltB b a then outK sl ob nx lg d (.i k b) else outK sl ob nx lg d (.i k a) else none
    | _, _ => none
/-- The value under a key. -/
noncomputable def findD (ks : List LK) (key : D) (es : List (D × D)) : Option (Option D) :=
  List.rec (some none) (fun e _ ih => match eqR ks key e.1 with
    | some true => some (some e.2)
    | some false => ih
    | none => none) es
noncomputable def putD {β : Type} (ks : List LK) (key v : D) (es : List (D × D)) : (List (D × D) → Option β) → Option β :=
  List.rec (fun k => k [(key, v)]) (fun e l ih k => match eqR ks key e.1 with
    | some true => k ((key, v) :: l)
    | some false => ih fun l => k (e :: l)
    | none => none) es
noncomputable def s_lkp (d : Pos) (zero : D) (ok : Bool) (ks : List LK) (x : RX) (i : RX) (sl : T D) (ob : T C) (nx : Pos) (lg : Option (T Bool)) : Option X := match opd sl x, opd sl i with
    | some (.mp id), some key => match ob.get id, eqR ks key key with
      | some (.map es), some _ => match findD ks key es with
        | some (some v) => logR lg id fun lg => bif ok then outK sl ob nx lg d (.tp [v, .b true]) else outK sl ob nx lg d v
        | some none => logR lg id fun lg => bif ok then outK sl ob nx lg d (.tp [zero, .b false]) else outK sl ob nx lg d zero
        | none => none
      | _, _ => none
    | _, _ => none
noncomputable def s_mup (ks : List LK) (x : RX) (i : RX) (v : RX) (sl : T D) (ob : T C) (nx : Pos) (lg : Option (T Bool)) : Option X := match opd sl x, opd sl i, opd sl v with
    | some (.mp id), some key, some v => match ob.get id, eqR ks key key with
      | some (.map es), some _ => putD ks key v es fun es => objK sl ob nx lg id (.map es)
      | _, _ => none
    | _, _, _ => none
noncomputable def s_ixv (d : Pos) (len z : Nat) (row : Bool) (x i : RX) (sl : T D) (ob : T C) (nx : Pos) (lg : Option (T Bool)) : Option X := match opd sl x, opd sl i with
    | some (.ag cs), some (.i _ n) => match idx n len with
      | some m => bif row then takeK z (dropC (Nat.mul m z) cs) fun ds => outK sl ob nx lg d (.ag ds) else match nthC cs (Nat.mul m z) with
        | some v => outK sl ob nx lg d v
        | none => none
      | none => none
    | _, _ => none
noncomputable def s_ixt (d : Pos) (x i : RX) (sl : T D) (ob : T C) (nx : Pos) (lg : Option (T Bool)) : Option X := match opd sl x, opd sl i with
    | some (.s b), some (.i _ n) => match n with
      | .ofNat m => match nthC b.data.toList m with
        | some v => natK v.toNat fun n => outK sl ob nx lg d (.i .u8 (.ofNat n))
        | none => none
      | .negSucc _ => none
    | _, _ => none
noncomputable def s_cap (d : Pos) (x : RX) (sl : T D) (ob : T C) (nx : Pos) (lg : Option (T Bool)) : Option X := match opd sl x with
    | some .ns => outK sl ob nx lg d (.i .i64 (.ofNat 0))
    | _ => none
/-- So many zeros onto nothing. -/
noncomputable def s_apn (d : Pos) (z : Nat) (zs : List D) (x : RX) (y : RX) (sl : T D) (ob : T C) (nx : Pos) (lg : Option (T Bool)) : Option X := match opd sl x, opd sl y with
    | some .ns, some (.i .i64 (.ofNat m)) => bif Nat.blt 0 m && Nat.ble m 65536 then
        Nat.rec (fun k => k []) (fun _ ih k => ih fun l => consK (fun d => .o d 0) zs l k) m fun cs => freshK sl ob nx lg (.cells false cs 1) d (.sl nx 0 m 0 z)
      else none
    | _, _ => none
/-- The rows made zeros. -/
noncomputable def s_clr (z : Nat) (zs : List D) (x : RX) (sl : T D) (ob : T C) (nx : Pos) (lg : Option (T Bool)) : Option X := match opd sl x with
    | some (.sl id off len st z') => bif Nat.beq z z' && Nat.blt 0 (List.length (reps zs len)) then match ob.get id with
          | some (.cells false cs cur) =>
            bif Nat.beq (Nat.succ st) cur then writeK st (fun d => .o d st) (reps zs len) off cs (fun cs => objK sl ob nx lg id (.cells false cs cur)) else writeK st (fun d => .c d st st) (reps zs len) off cs (fun cs => objK sl ob nx lg id (.cells false cs cur))
          | _ => none
        else none
    | _ => none
noncomputable def s_cf (_ : Option Pos) (_ : Pos) (_ : List RX) (_ : T D) (_ : T C) (_ : Pos) (_ : Option (T Bool)) : Option X := none
noncomputable def s_cv (_ : Option Pos) (_ : RX) (_ : List RX) (_ : T D) (_ : T C) (_ : Pos) (_ : Option (T Bool)) : Option X := none
noncomputable def s_bad  (_ : T D) (_ : T C) (_ : Pos) (_ : Option (T Bool)) : Option X := none
noncomputable def step (r : RO) : T D → T C → Pos → Option (T Bool) → Option X :=
  RO.casesOn r s_mv s_pick s_new s_box s_bld s_bsl s_ld1 s_ldn s_st s_nilc s_bin s_eq s_eqr s_un s_cvi s_fnl s_mkm s_mks s_slc s_sla s_fad s_fld s_ixs s_ixa s_ext s_len s_app s_cpy s_mx s_mn s_lkp s_mup s_ixv s_ixt s_cap s_apn s_clr s_cf s_cv s_bad

/-! ### calls -/
noncomputable def argsK {β : Type} (ds : List D) : Pos → T D → (T D → Option β) → Option β :=
  List.rec (fun _ t k => k t) (fun d _ ih p t k => T.setK p d t fun t => Pos.succK p fun p => ih p t k) ds
noncomputable def results (rs : List RR) (sl : T D) (ob : T C) (lg : Option (T Bool)) : (List D → Option (T Bool) → Option X) → Option X :=
  List.rec (fun k => k [] lg) (fun r _ ih k => match r with
    | .t p => match sl.get p with
      | some d => ih fun ds lg => k (d :: ds) lg
      | none => none
    | .c1 p => match sl.get p with
      | some (.pt id off st) => match ob.get id with
        | some (.cells _ cs _) => match nthC cs off with
          | some c => cellK st c fun v => ih fun ds lg => logR lg id fun lg => k (v :: ds) lg
          | none => none
        | _ => none
      | _ => none
    | .cn p n => match sl.get p with
      | some (.pt id off st) => match ob.get id with
        | some (.cells _ cs _) => readK st n (dropC off cs) fun es => ih fun ds lg => logR lg id fun lg => k (.ag es :: ds) lg
        | _ => none
      | _ => none) rs
def one (ds : List D) : D :=
  match ds with
  | [d] => d
  | ds => .tp ds
noncomputable def dstK (sl : T D) (ob : T C) (nx : Pos) (lg : Option (T Bool)) (d : Option Pos) (v : D) : Option X :=
  match d with
  | none => some ⟨sl, ob, nx, lg⟩
  | some d => outK sl ob nx lg d v

/-! ### calls that are known: what a call reads, written as values -/
noncomputable def restr {α : Type} (m : T Unit) : T α → T α :=
  T.rec (fun _ => .e) (fun _ v _ gl gr t => T.casesOn t .e fun l' v' r' => .n (gl l') (Option.casesOn v none fun _ => v') (gr r')) m
theorem restr_get {α : Type} : ∀ (m : T Unit) (t : T α) (p : Pos) {x : α}, (restr m t).get p = some x → t.get p = some x
  | .e, t, p, x, h => by
    have h : (T.e : T α).get p = some x := h
    rw [T.get_e] at h; cases h
  | .n _ _ _, .e, p, x, h => by
    have h : (T.e : T α).get p = some x := h
    rw [T.get_e] at h; cases h
  | .n l v r, .n l' v' r', p, x, h => by
    cases p with
    | h =>
      have h : (Option.casesOn v none fun _ => v' : Option α) = some x := h
      cases v with
      | none => cases h
      | some _ => exact h
    | o p => exact restr_get l l' p h
    | i p => exact restr_get r r' p h


def mpO {α β : Type} (f : α → Option β) : List α → Option (List β)
  | [] => some []
  | a :: l => match f a with
    | some b => match mpO f l with
      | some r => some (b :: r)
      | none => none
    | none => none
def cellsO (st : Nat) : Nat → List Cell → Option (List D × List Cell)
  | 0, l => some ([], l)
  | _ + 1, [] => none
  | n + 1, c :: l => bif c.has st then match cellsO st n l with
    | some (ds, r) => some (c.d :: ds, r)
    | none => none
    else none
def rowsO (st z : Nat) : Nat → List Cell → Option (List (List D))
  | 0, _ => some []
  | n + 1, l => match cellsO st z l with
    | some (r, l') => match rowsO st z n l' with
      | some es => some (r :: es)
      | none => none
    | none => none
noncomputable def fzD (ob : T C) : Nat → D → Option D
  | 0, _ => none
  | n + 1, d => match d with
    | .sl id off len st z => match ob.get id with
      | some (.cells _ cs _) => match rowsO st z len (dropC off cs) with
        | some es => match mpO (mpO (fzD ob n)) es with
          | some fs => some (.lst z fs)
          | none => none
        | none => none
      | _ => none
    | .lst z es => match mpO (mpO (fzD ob n)) es with
      | some fs => some (.lst z fs)
      | none => none
    | .ag cs => match mpO (fzD ob n) cs with
      | some ds => some (.ag ds)
      | none => none
    | .tp cs => match mpO (fzD ob n) cs with
      | some ds => some (.tp ds)
      | none => none
    | .b x => some (.b x)
    | .i k n => some (.i k n)
    | .ns => some .ns
    | .em => some .em
    | .np => some .np
    | .nf => some .nf
    | .nm => some .nm
    | _ => none
/-- What a value reaches. -/
noncomputable def idsD (ob : T C) : Nat → D → List Pos → List Pos
  | 0, _, r => r
  | n + 1, d, r => match d with
    | .sl id _ _ _ _ => match ob.get id with
      | some (.cells _ cs _) => cs.foldl (fun r c => idsD ob n c.d r) (id :: r)
      | _ => r
    | .ag cs => cs.foldl (fun r d => idsD ob n d r) r
    | .tp cs => cs.foldl (fun r d => idsD ob n d r) r
    | .lst _ es => es.foldl (fun r ds => ds.foldl (fun r d => idsD ob n d r) r) r
    | _ => r
noncomputable def maskP : List Pos → T Unit
  | [] => .e
  | p :: l => T.set p () (maskP l)
def ikN : IntKind → Nat
  | .i8 => 0
  | .i16 => 1
  | .i32 => 2
  | .i64 => 3
  | .u8 => 4
  | .u16 => 5
  | .u32 => 6
  | .u64 => 7
def sameI : Int → Int → Bool
  | .ofNat m, .ofNat n => Nat.beq m n
  | .negSucc m, .negSucc n => Nat.beq m n
  | _, _ => false
def alq {α : Type} (f : α → α → Bool) : List α → List α → Bool
  | [], [] => true
  | a :: l, b :: m => f a b && alq f l m
  | _, _ => false
def sameD : Nat → D → D → Bool
  | 0, _, _ => false
  | n + 1, a, b => match a with
    | .b x => match b with
      | .b y => x == y
      | _ => false
    | .i k x => match b with
      | .i l y => Nat.beq (ikN k) (ikN l) && sameI x y
      | _ => false
    | .ns => match b with
      | .ns => true
      | _ => false
    | .em => match b with
      | .em => true
      | _ => false
    | .np => match b with
      | .np => true
      | _ => false
    | .nf => match b with
      | .nf => true
      | _ => false
    | .nm => match b with
      | .nm => true
      | _ => false
    | .ag x => match b with
      | .ag y => alq (sameD n) x y
      | _ => false
    | .tp x => match b with
      | .tp y => alq (sameD n) x y
      | _ => false
    | .lst z x => match b with
      | .lst u y => Nat.beq z u && alq (alq (sameD n)) x y
      | _ => false
    | _ => false
def fdM (ds : List D) : List (List D × D) → Option D
  | [] => none
  | m :: l => bif alq (sameD 12) ds m.1 then some m.2 else fdM ds l
noncomputable def memK (mem : List (List D × D)) (ob : T C) (args : List D) : Option (D × List Pos) :=
  match mem with
  | [] => none
  | m :: l => match mpO (fzD (restr (maskP (args.foldl (fun r d => idsD ob 12 d r) [])) ob) 12) args with
    | some ds => match fdM ds (m :: l) with
      | some v => some (v, args.foldl (fun r d => idsD ob 12 d r) [])
      | none => none
    | none => none
noncomputable def logAll : List Pos → Option (T Bool) → (Option (T Bool) → Option X) → Option X
  | [], lg, k => k lg
  | p :: l, lg, k => logR lg p fun lg => logAll l lg k
noncomputable def callF (FP : T RF) (ex : RC → X → Option (Ex × X)) (f : Pos) (args : List D) (ob : T C) (nx : Pos) (lg : Option (T Bool)) (k : D → T C → Pos → Option (T Bool) → Option X) : Option X :=
  match FP.get f with
  | some rf => match rf.kn with
    | some v => match args with
      | [] => k v ob nx lg
      | _ => none
    | none => match memK rf.mem ob args with
    | some (v, ids) => logAll ids lg fun lg => k v ob nx lg
    | none => bif Nat.ble (List.length args) rf.nt then argsK args .h .e fun sl => match ex rf.body ⟨sl, ob, nx, lg⟩ with
    | some (.normal, ⟨sl, ob, nx, lg⟩) => results rf.res sl ob lg fun ds lg => k (one ds) ob nx lg
    | some (.ret, ⟨sl, ob, nx, lg⟩) => results rf.res sl ob lg fun ds lg => k (one ds) ob nx lg
    | _ => none
    else none
  | none => none
noncomputable def parmK (ps : List Pos) : List D → T D → (T D → Option X) → Option X :=
  List.rec (fun ds t k => List.casesOn ds (k t) fun _ _ => none) (fun p _ ih ds t k => List.casesOn ds none fun d ds => T.setK p d t fun t => ih ds t k) ps
noncomputable def callV (P : Program) (FP : T RF) (ex : RC → X → Option (Ex × X)) (v : D) (args : List D) (ob : T C) (nx : Pos) (lg : Option (T Bool)) (k : D → T C → Pos → Option (T Bool) → Option X) : Option X :=
  match v with
  | .fn f first caps => callF FP ex f (first ++ (args ++ caps)) ob nx lg k
  | .yl id => match ob.get id with
    | some (.lp sl ps nt asg body .ready _) => parmK ps args sl fun sl' => match ex (comp P nt asg) ⟨sl', ob, nx, lg⟩ with
      | some (.normal, ⟨sl2, ob, nx, lg⟩) => match ob.get id with
        | some (.lp a b m c d .ready j) => T.setK id (.lp a b m c d .busy j) ob fun ob => logW lg id fun lg => match ex (comp P nt body) ⟨sl2, ob, nx, lg⟩ with
          | some (e, ⟨_, ob, nx, lg⟩) => match ob.get id with
            | some (.lp a b m c d _ _) => match e with
              | .normal => T.setK id (.lp a b m c d .ready none) ob fun ob => k (.b true) ob nx lg
              | .ret => T.setK id (.lp a b m c d .done (some .ret)) ob fun ob => k (.b false) ob nx lg
              | .exit i => T.setK id (.lp a b m c d .done (some (.exit i))) ob fun ob => k (.b false) ob nx lg
            | _ => none
          | none => none
        | _ => none
      | _ => none
    | _ => none
  | _ => none
noncomputable def r_cf (FP : T RF) (ex : RC → X → Option (Ex × X)) (d : Option Pos) (f : Pos) (xs : List RX) (sl : T D) (ob : T C) (nx : Pos) (lg : Option (T Bool)) : Option X :=
  match opds sl xs with
  | some ds => callF FP ex f ds ob nx lg fun v ob nx lg => dstK sl ob nx lg d v
  | none => none
noncomputable def r_cv (P : Program) (FP : T RF) (ex : RC → X → Option (Ex × X)) (d : Option Pos) (g : RX) (xs : List RX) (sl : T D) (ob : T C) (nx : Pos) (lg : Option (T Bool)) : Option X :=
  match opd sl g, opds sl xs with
  | some v, some ds => callV P FP ex v ds ob nx lg fun v ob nx lg => dstK sl ob nx lg d v
  | _, _ => none
noncomputable def runO (P : Program) (FP : T RF) (ex : RC → X → Option (Ex × X)) (r : RO) : T D → T C → Pos → Option (T Bool) → Option X :=
  RO.casesOn r s_mv s_pick s_new s_box s_bld s_bsl s_ld1 s_ldn s_st s_nilc s_bin s_eq s_eqr s_un s_cvi s_fnl s_mkm s_mks s_slc s_sla s_fad s_fld s_ixs s_ixa s_ext s_len s_app s_cpy s_mx s_mn s_lkp s_mup s_ixv s_ixt s_cap s_apn s_clr (r_cf FP ex) (r_cv P FP ex) s_bad
noncomputable def g_u (P : Program) (FP : T RF) (ex : RC → X → Option (Ex × X)) (r : RO) (x : X) : Option X := X.casesOn x (runO P FP ex r)
noncomputable def g_g (P : Program) (FP : T RF) (ex : RC → X → Option (Ex × X)) (p : Pos) (want : Bool) (d : Option Pos) (r : RO) (x : X) : Option X :=
  X.casesOn x fun sl ob nx lg => match sl.get p with
    | some (.b b) => bif (bif want then b else !b) then runO P FP ex r sl ob nx lg else dstK sl ob nx lg d (.tp [])
    | some (.tp []) => dstK sl ob nx lg d (.tp [])
    | _ => none
noncomputable def runG (P : Program) (FP : T RF) (ex : RC → X → Option (Ex × X)) (g : RG) : X → Option X := RG.casesOn g (g_u P FP ex) (g_g P FP ex)
noncomputable def runL (P : Program) (FP : T RF) (ex : RC → X → Option (Ex × X)) (l : List RG) : X → Option X :=
  List.rec (fun x => some x) (fun g _ ih x => match runG P FP ex g x with
    | some x => ih x
    | none => none) l

noncomputable def e_exit (id : Nat) (x : X) : Option (Ex × X) := some (.exit id, x)
noncomputable def e_reg (P : Program) (FP : T RF) (ex : RC → X → Option (Ex × X)) (l : List RG) (x : X) : Option (Ex × X) :=
  match runL P FP ex l x with
  | some y => some (.normal, y)
  | none => none
def vApart : Option Bool → Option Bool → Bool
  | some x, some y => bif x then false else !y
  | _, _ => true
noncomputable def apart (a : T Bool) : T Bool → Bool :=
  T.rec (fun _ => true) (fun _ v _ gl gr b => T.casesOn b true fun l' v' r' => bif vApart v v' then (bif gl l' then gr r' else false) else false) a
noncomputable def vUnionK {β : Type} (a b : Option Bool) (k : Option Bool → β) : β :=
  Option.casesOn a (k b) fun x => Option.casesOn b (k (some x)) fun y => Bool.casesOn x (k (some y)) (k (some true))
noncomputable def unionK {β : Type} (a : T Bool) : T Bool → (T Bool → β) → β :=
  T.rec (fun b k => k b) (fun l v r gl gr b k => T.casesOn b (k (.n l v r)) fun l' v' r' => gl l' fun l2 => gr r' fun r2 => vUnionK v v' fun v2 => k (.n l2 v2 r2)) a
noncomputable def mergeK {β : Type} (lg : Option (T Bool)) (M : T Bool) (k : Option (T Bool) → β) : β :=
  match lg with
  | none => k none
  | some L => unionK L M fun L => k (some L)
noncomputable def accOk (m : Nat) (L : T Bool) (acc : List (Nat × T Bool)) : Bool :=
  List.rec true (fun p _ ih => bif bitOf m p.1 then ih else bif apart p.2 L then ih else false) acc
noncomputable def tlN (l : List Nat) : List Nat := List.casesOn l [] fun _ l => l
noncomputable def runD (P : Program) (FP : T RF) (ex : RC → X → Option (Ex × X)) (l : List RG) : List Nat → Nat → List (Nat × T Bool) → X → Option X :=
  List.rec (fun _ _ _ x => some x) (fun g _ ih ms i acc x => X.casesOn x fun sl ob nx lg => match runG P FP ex g ⟨sl, ob, nx, some .e⟩ with
    | some ⟨sl, ob, nx, some L⟩ => match L with
      | .e => ih (tlN ms) (Nat.succ i) acc ⟨sl, ob, nx, lg⟩
      | .n l v r => bif accOk (nthN ms 0) (.n l v r) acc then mergeK lg (.n l v r) fun lg => ih (tlN ms) (Nat.succ i) ((i, .n l v r) :: acc) ⟨sl, ob, nx, lg⟩ else none
    | _ => none) l
noncomputable def e_drw (P : Program) (FP : T RF) (ex : RC → X → Option (Ex × X)) (l : List RG) (ms : List Nat) (x : X) : Option (Ex × X) :=
  match runD P FP ex l ms 0 [] x with
  | some y => some (.normal, y)
  | none => none
noncomputable def e_seq (ex : RC → X → Option (Ex × X)) (a b : RC) (x : X) : Option (Ex × X) :=
  match ex a x with
  | some (.normal, y) => ex b y
  | r => r
noncomputable def e_cond (ex : RC → X → Option (Ex × X)) (c : RX) (a b : RC) (x : X) : Option (Ex × X) :=
  X.casesOn x fun sl ob nx lg => match opd sl c with
  | some (.b true) => ex a ⟨sl, ob, nx, lg⟩
  | some (.b false) => ex b ⟨sl, ob, nx, lg⟩
  | _ => none
noncomputable def e_blk (ex : RC → X → Option (Ex × X)) (id : Nat) (a : RC) (x : X) : Option (Ex × X) :=
  match ex a x with
  | some (.exit i, y) => bif Nat.beq i id then some (.normal, y) else some (.exit i, y)
  | r => r
noncomputable def e_loop (ex : RC → X → Option (Ex × X)) (a : RC) (x : X) : Option (Ex × X) :=
  match ex a x with
  | some (.normal, y) => ex (.loop a) y
  | r => r
noncomputable def e_rf (FP : T RF) (ex : RC → X → Option (Ex × X)) (f : RX) (ps : List Pos) (nt : Nat) (asg body : Code) (x : X) : Option (Ex × X) :=
  X.casesOn x fun sl ob nx lg => match opd sl f with
    | some (.fn f first caps) => T.setK nx (.lp sl ps nt asg body .ready none) ob fun ob => Pos.succK nx fun nx' =>
      match logW lg nx fun lg => callF FP ex f (first ++ (.yl nx :: caps)) ob nx' lg fun _ ob nx lg => some ⟨sl, ob, nx, lg⟩ with
      | some ⟨sl, ob, nx2, lg⟩ => match ob.get nx with
        | some (.lp _ _ _ _ _ .busy _) => none
        | some (.lp a b m c d _ j) => T.setK nx (.lp a b m c d .gone j) ob fun ob => match j with
          | none => some (.normal, ⟨sl, ob, nx2, lg⟩)
          | some e => some (e, ⟨sl, ob, nx2, lg⟩)
        | _ => none
      | none => none
    | _ => none
noncomputable def execB (P : Program) (FP : T RF) (ex : RC → X → Option (Ex × X)) (c : RC) : X → Option (Ex × X) :=
  RC.casesOn c (fun x => some (.normal, x)) (fun x => some (.ret, x)) e_exit (e_reg P FP ex) (e_drw P FP ex) (e_seq ex) (e_cond ex) (e_blk ex) (e_loop ex) (e_rf FP ex)
noncomputable def exec (P : Program) (FP : T RF) (n : Nat) : RC → X → Option (Ex × X) :=
  Nat.rec (fun _ _ => none) (fun _ ih => execB P FP ih) n
end Go.Ev
