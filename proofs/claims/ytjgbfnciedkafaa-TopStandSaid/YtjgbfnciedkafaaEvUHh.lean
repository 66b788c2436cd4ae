import Derived.Test.YtjgbfnciedkafaaEvUGc
import Derived.Test.YtjgbfnciedkafaaEvUJs
import Derived.Test.YtjgbfnciedkafaaEvUJb
import Derived.Test.YtjgbfnciedkafaaEvUIt
set_option linter.all false
set_option maxHeartbeats 8000000
noncomputable section
namespace Go.Ev
open Go.Proofs
set_option maxRecDepth 100000
def yA (yes many : Int) : Int := if yes = many then 1 else if yes = 0 then 2 else 3
def zL (p : List Ln -> Bool) (L : List (List Ln)) : Int := ((L.filter p).length : Int)
def cP (m : Nat) (c : Int) (t : List Ln) : Bool := decide (0 <= bK t c m)
def tP (m : Nat) (c : Int) (t : List Ln) : Bool := decide (0 <= bY t c m)
theorem mX {α : Type} {p : α -> Bool} {L : List α} : (L.filter p).length = L.length ↔ ∀ x ∈ L, p x = true := by
 induction L with
 | nil => simp
 | cons a L ih =>
   have h1 := List.length_filter_le p L
   cases h : p a with
   | true => 
     rw [List.filter_cons_of_pos h, List.length_cons, List.length_cons, List.forall_mem_cons, <- ih]
     constructor
     ·intro h2; exact ⟨h, by omega⟩
     ·intro h2; have := h2.2; omega
   | false =>
     rw [List.filter_cons_of_neg (by rw [h]; simp), List.length_cons]
     constructor
     ·intro h2; omega
     ·intro h2; have := h2 a List.mem_cons_self; rw [h] at this; cases this
theorem lR {α : Type} {p : α -> Bool} {L : List α} : (L.filter p).length = 0 ↔ ∀ x ∈ L, p x = false := by
 rw [List.length_eq_zero_iff, List.filter_eq_nil_iff]
 constructor
 ·intro h x hx; have := h x hx; cases hp : p x with
  | true => exact absurd hp this
  | false => rfl
 ·intro h x hx; rw [h x hx]; simp
theorem Ar {A : List Int} {L : List (List Ln)} {p : List Ln -> Bool} (hne : A ≠ []) (hs : ∀ x, x ∈ A ↔ x ∈ L.map fun t => FM (p t)) : Nz (A.foldl min (A.getD 0 0)) (A.foldl max (A.getD 0 0)) = yA (zL p L) (L.length : Int) := by
 have hA := xC hne
 obtain ⟨a1, a2, a3⟩ := iY A (A.getD 0 0)
 obtain ⟨c1, c2, c3⟩ := iZ A (A.getD 0 0)
 have m1 : A.foldl min (A.getD 0 0) ∈ A := by
  rcases a3 with h | h
  ·rw [h]; exact hA
  ·exact h
 have m2 : A.foldl max (A.getD 0 0) ∈ A := by
  rcases c3 with h | h
  ·rw [h]; exact hA
  ·exact h
 obtain ⟨t1, ht1, e1⟩ := List.mem_map.1 ((hs _).1 m1)
 obtain ⟨t2, ht2, e2⟩ := List.mem_map.1 ((hs _).1 m2)
 have hmem : ∀ t ∈ L, A.foldl min (A.getD 0 0) <= FM (p t) /\ FM (p t) <= A.foldl max (A.getD 0 0) := fun t ht => by
  have := (hs (FM (p t))).2 (List.mem_map.2 ⟨t, ht, rfl⟩)
  exact ⟨a2 _ this, c2 _ this⟩
 have h0 : L.length ≠ 0 := fun h => by
  rw [List.length_eq_zero_iff.1 h] at ht1; cases ht1
 generalize A.foldl min (A.getD 0 0) = lo at *
 generalize A.foldl max (A.getD 0 0) = hi at *
 unfold Nz yA zL
 cases q1 : p t1 with
 | true =>
   rw [q1] at e1
   have e1 : (1 : Int) = lo := e1
   have hall : ∀ t ∈ L, p t = true := fun t ht => by
    have := (hmem t ht).1
    cases h : p t with
    | true => rfl
    | false => rw [h] at this; have : lo <= 0 := this; omega
   have e2 : (1 : Int) = hi := by rw [hall t2 ht2] at e2; exact e2
   rw [if_pos (show lo = 1 /\ hi = 1 from ⟨by omega, by omega⟩), if_pos (by rw [mX.2 hall])]
 | false =>
   rw [q1] at e1
   have e1 : (0 : Int) = lo := e1
   have hn1 : ¬ (L.filter p).length = L.length := fun h => by
    have := mX.1 h t1 ht1
    rw [q1] at this; cases this
   rw [if_neg (show ¬ (lo = 1 /\ hi = 1) from fun h => by omega), if_neg (show ¬ ((L.filter p).length : Int) = (L.length : Int) from fun h => hn1 (by omega))]
   cases q2 : p t2 with
   | false =>
     rw [q2] at e2
     have e2 : (0 : Int) = hi := e2
     have hnone : ∀ t ∈ L, p t = false := fun t ht => by
      have := (hmem t ht).2
      cases h : p t with
      | false => rfl
      | true => rw [h] at this; have : 1 <= hi := this; omega
     rw [if_pos (show lo = 0 /\ hi = 0 from ⟨by omega, by omega⟩), if_pos (show ((L.filter p).length : Int) = 0 from by rw [lR.2 hnone]; rfl)]
   | true =>
     rw [q2] at e2
     have e2 : (1 : Int) = hi := e2
     have hn2 : ¬ (L.filter p).length = 0 := fun h => by
      have := lR.1 h t2 ht2
      rw [q2] at this; cases this
     rw [if_neg (show ¬ (lo = 0 /\ hi = 0) from fun h => by omega), if_neg (show ¬ ((L.filter p).length : Int) = 0 from fun h => hn2 (by omega))]
theorem Pw {B : Bk} (V : VB B) {aft x : Nat} (hx : x < 8) (hne : hU B B.ls.length [] ≠ []) : CM B aft x = if x < 4 then yA (zL (cP aft (x : Int)) (pA B)) ((pA B).length : Int) else yA (zL (tP aft ((x - 4 : Nat) : Int)) (pA B)) ((pA B).length : Int) := by
 unfold CM BC
 by_cases h4 : x < 4
 ·rw [if_pos h4]
  refine Ar (CN hne) (Dc V fun X => ?_)
  show min ((if x < 4 then bK X (x : Int) aft + 1 else _) : Int) 1 = FM (decide (0 <= bK X (x : Int) aft))
  rw [if_pos h4]
  have := jO X (x : Int) aft
  by_cases h : 0 <= bK X (x : Int) aft
  ·rw [decide_eq_true h]; show _ = (1 : Int); omega
  ·rw [decide_eq_false h]; show _ = (0 : Int); omega
 ·rw [if_neg h4]
  refine Ar (CN hne) (Dc V fun X => ?_)
  show min ((if x < 4 then _ else bY X ((x - 4 : Nat) : Int) aft + 1) : Int) 1 = FM (decide (0 <= bY X ((x - 4 : Nat) : Int) aft))
  rw [if_neg h4]
  have := jK X ((x - 4 : Nat) : Int) aft
  by_cases h : 0 <= bY X ((x - 4 : Nat) : Int) aft
  ·rw [decide_eq_true h]; show _ = (1 : Int); omega
  ·rw [decide_eq_false h]; show _ = (0 : Int); omega
theorem yP {n coin box : Int} {ls : List Ln} {cs : List Ct} (h : aS n coin box ls cs = 0) (hb : sQ (B5 n coin box ls cs) = true) : sE n coin box ls cs true = 0 := by unfold sE; rw [if_neg (fun k => k h), hb]; rfl
set_option maxRecDepth 1000000
def GB : Pos := .o p63
def Ks : Pos := .i p63
def uG : Pos := .o Gx
def Ib : Pos := .i Gx
def Hi : Pos := .o Cl
def Gk : Pos := .i Cl
def IE : Pos := .o FF
def Hm : Pos := .i FF
def IG : Pos := .o HY
def Kv : Pos := .o p73
def Lv : Pos := .i p73
def Lk : Pos := .o p74
def Li : Pos := .i p74
def LA : Pos := .o p75
def Kc : Pos := .i p75
def LT : Pos := .o p76
def KO : Pos := .i p76
def LY : Pos := .o p77
def KL : Pos := .i p77
def AJ : Pos := .o p81
def yC : Pos := .i p81
def Fj : Pos := .o p82
def Fk : Pos := .o Jh
def Hl : Pos := .i Jh
def LZ : Pos := .o p84
def Jm : Pos := .i p84
def KI : Pos := .o p85
def Mi : Pos := .i p85
def Lf : Pos := .o p86
def Mn : Pos := .i p86
def KU : Pos := .o p87
def Kd : Pos := .i p87
def Oq : Pos := .o HJ
def PP : Pos := .i HJ
def SO : Pos := .o p89
def RL : Pos := .i p89
def Rv : Pos := .o FG
def SZ : Pos := .i FG
def Sz : Pos := .o FI
def QT : Pos := .i FI
def Qh : Pos := .o Jj
def SI : Pos := .i Jj
def PY : Pos := .o p93
def RB : Pos := .i p93
def Qr : Pos := .o p94
def QB : Pos := .i p94
def SD : Pos := .o FR
def Ko : RC := (Sr [(.u (.box p3 p1)), (.u (.new p5 [(.i .i64 0), (.i .i64 0), (.i .i64 0), .ns, .ns])), (.u (.mv p6 (.k .ns)))] (Sr [(bU p21 p3 5), (.u (.new p7 [(.i .i64 0), (.i .i64 0), (.i .i64 0), .ns, .ns])), (.u (.st p7 p21 5))] (Sr [(Fd dB p7 3), (.u (.st dB (.k .ns) 1)), (Fd p23 p7 4), (.u (.st p23 (.k .ns) 1))] (Sr [(.u (.mv p8 (.k .ns)))] (.seq (Sr [(.u (.mv p9 (K_ 0)))] (.blk 0 (.loop (.seq (Sr [(Mv p24 p9), (Mv p25 p2), (Cf eS p97 [p25, (K_ 0)]), (dH fY .rem eS 9), (fR p28 .lss p24 fY)] (.cond p28 .skip (.exit 0))) (.seq (.blk 1 (Sr [(Mv p31 p2), (Mv jM p9), (dH p33 .add jM 1), (Cf p34 p97 [p31, p33]), (Mv bE p34)] (Sr [(.u (.mv bM (.k .ns)))] (.seq (Sr [(.u (.mv bW (K_ 1)))] (.blk 2 (.loop (.seq (Sr [(Mv kS bW), (dH p36 .leq kS 2)] (.cond p36 .skip (.exit 2))) (.seq (.blk 3 (Sr [(.u (.mv cH (K_ 0)))] (.blk 4 (.loop (.seq (Sr [(Mv p39 cH), (Fd qZ p3 0), (L1 p41 qZ), (Fd rJ p3 0), (L1 tC rJ), (fR tB .mul p41 tC), (fR xR .lss p39 tB)] (.cond xR .skip (.exit 4))) (.seq (.blk 5 (.seq (.drw [(Mv Ej bW), (Mv FK cH), (Fd Ac p3 0), (L1 BK Ac), (fR EA .rem FK BK), (Mv CZ cH), (Fd p54 p3 0), (L1 EL p54), (fR Fm .quo CZ EL), (.u (.bld p57 [(.i .i64 0), (.i .i64 0), (.i .i64 0)] [(0, (1, Ej)), (1, (1, EA)), (2, (1, Fm))])), (.u (.new bX [(.i .i64 0), (.i .i64 0), (.i .i64 0)])), (.u (.st bX p57 3))] [0, 0, 0, 4, 14, 0, 0, 64, 224, 511, 0, 2047]) (.seq (.drw [(.u (.bsl p58 3 0 [] [])), (Mv yD p8), (.u (.app Fo 3 p58 yD)), (bU Ff bX 3), (.u (.bsl Fn 3 1 [(.i .i64 0), (.i .i64 0), (.i .i64 0)] [(0, (3, Ff))])), (.u (.app p63 3 Fo Fn)), (Cf Gx p31 [p63])] [0, 0, 3, 0, 8, 31, 63]) (.cond Gx (.reg [(Mv Cl bM), (bU FF bX 3), (.u (.bsl HY 3 1 [(.i .i64 0), (.i .i64 0), (.i .i64 0)] [(0, (3, FF))])), (.u (.app HX 3 Cl HY)), (Mv bM HX)]) .skip)))) (.reg [(Mv AA cH), (dH BI .add AA 1), (Mv cH BI)]))))))) (.reg [(Mv nG bW), (dH nZ .add nG 1), (Mv bW nZ)])))))) (.seq (Sr [(Mv p69 bM), (.u (.len p70 p69)), (dH p71 .eql p70 0)] (.cond p71 (.exit 0) .skip)) (Sr [(Mv p72 bM), (Mv p73 bE), (Mv p74 bM), (.u (.len p75 p74)), (fR p76 .rem p73 p75), (.u (.ixs p77 3 p72 p76)), (bU p78 p77 3), (.u (.new cW [(.i .i64 0), (.i .i64 0), (.i .i64 0)])), (.u (.st cW p78 3))] (Sr [(Mv Jb p8), (bU p80 cW 3), (.u (.bsl p81 3 1 [(.i .i64 0), (.i .i64 0), (.i .i64 0)] [(0, (3, p80))])), (.u (.app p82 3 Jb p81)), (Mv p8 p82)] (Sr [(bU Jh p7 5), (.u (.new cE [(.i .i64 0), (.i .i64 0), (.i .i64 0), .ns, .ns])), (.u (.st cE Jh 5))] (.seq (Sr [(Mv p84 bE), (dH p85 .quo p84 64), (dH p86 .rem p85 5), (dH p87 .eql p86 0)] (.cond p87 (.reg [(Fd HJ cW 1), (.u (.st HJ (.k (.i .i64 (-1))) 1))]) .skip)) (.seq (Sr [(Mv p89 bE), (dH FG .quo p89 512), (dH FI .rem FG 5), (dH Jj .eql FI 0)] (.cond Jj (.reg [(Fd p93 cW 2), (.u (.st p93 (.k (.i .i64 (-1))) 1))]) .skip)) (.seq (Sr [(Mv p94 bE), (dH FR .quo p94 4096), (dH Hx .rem FR 5), (dH p97 .eql Hx 0)] (.cond p97 (.reg [(Fd FH cW 0), (.u (.st FH (K_ 0) 1))]) .skip)) (.seq (.drw [(.u (.bsl FB 3 0 [] [])), (Fd sV p7 3), (L1 tT sV), (.u (.app oU 3 FB tT)), (bU vF cW 3), (.u (.bsl pB 3 1 [(.i .i64 0), (.i .i64 0), (.i .i64 0)] [(0, (3, vF))])), (.u (.app p105 3 oU pB)), (Fd p106 cE 3), (.u (.st p106 p105 1))] [0, 0, 2, 7, 0, 16, 63, 127, 255]) (.seq (Sr [(bU p107 cE 5), (Cf p108 p63 [p107]), (dH p109 .gtr p108 100)] (.cond p109 (.drw [(Fd p110 cE 3), (L1 p111 p110), (Fd p112 cE 3), (L1 p113 p112), (.u (.len p114 p113)), (dH p115 .sub p114 1), (Mv p116 p8), (Mv p117 p8), (.u (.len p118 p117)), (dH p119 .sub p118 1), (.u (.ixs p120 3 p116 p119)), (bU p121 p120 3), (.u (.ixs p122 3 p111 p115)), (.u (.st p122 p121 3))] [0, 1, 0, 4, 12, 28, 0, 0, 128, 384, 960, 1984, 4095, 8191]) .skip)) (.reg [(bU p123 cE 5), (.u (.st p7 p123 5))])))))))))))))) (.reg [(Mv gA p9), (dH fW .add gA 1), (Mv p9 fW)])))))) (.seq (Sr [(.u (.mv dG (K_ 0)))] (.blk 6 (.loop (.seq (Sr [(Mv HL dG), (Mv HO p2), (Cf GB p97 [HO, (K_ 10)]), (dH Ks .rem GB 4), (fR uG .lss HL Ks)] (.cond uG .skip (.exit 6))) (.seq (.blk 7 (Sr [(Mv Gk p2), (Mv IE dG), (dH Hm .add IE 11), (Cf IG p97 [Gk, Hm]), (Mv dE IG)] (Sr [(Mv p135 dE), (Mv p136 p8), (.u (.len p137 p136)), (dH p138 .add p137 1), (fR p139 .rem p135 p138), (.u (.bld p140 [(.i .i64 0), (.i .i64 0), (.i .i64 0)] [(0, (1, p139))])), (.u (.new dO [(.i .i64 0), (.i .i64 0), (.i .i64 0)])), (.u (.st dO p140 3))] (Sr [(bU Kj p3 5), (Mv JN p8), (Fd LU dO 0), (L1 JD LU), (Cf Lr p33 [Kj, JN, JD]), (Mv p20 Lr)] (Sr [(Mv Kv p20), (Mv Lv dE), (dH Lk .quo Lv 16), (dH Li .rem Lk 8), (fR LA .sub Kv Li), (.u (.mx Kc (K_ 0) LA)), (Mv LT p20), (Mv KO dE), (dH LY .quo KO 128), (dH KL .rem LY 8), (fR p156 .add LT KL), (.u (.mx Md (K_ 0) p156)), (.u (.bld Mr [(.i .i64 0), (.i .i64 0)] [(0, (1, Kc)), (1, (1, Md))])), (Fd EY dO 1), (.u (.st EY Mr 2))] (Sr [(Mv FV p20), (dH GA .geq FV 0), (Mv AJ GA), (Gs AJ true yC (.fad yC dO 1)), (Gs AJ true Fj (.fad Fj yC 1)), (Gs AJ true ER (.ld1 ER Fj)), (Gs AJ true Fk (.bin Fk .leq ER (K_ 2000))), (Pa Hl AJ Fk)] (.cond Hl (.reg [(Fd LZ p7 4), (L1 Jm LZ), (bU KI dO 3), (.u (.bsl Mi 3 1 [(.i .i64 0), (.i .i64 0), (.i .i64 0)] [(0, (3, KI))])), (.u (.app Lf 3 Jm Mi)), (Fd Mn p7 4), (.u (.st Mn Lf 1))]) .skip))))))) (.reg [(Mv Ib dG), (dH Hi .add Ib 1), (Mv dG Hi)])))))) (Sr [(bU KU p7 5), (Mv Kd p8), (.u (.st p5 KU 5)), (Mv p6 Kd)] .ret)))))))
def Sq : List RR := [(.cn p5 5), (.t p6)]
theorem Uy : FnOk Try.prog p54.ix 175 Ko Sq := fX Try.f53 Try.func53
def Vn : RC := (Sr [(.u (.mv p5 (K_ 0)))] (.seq (Sr [(Mv p6 p1), (.u (.len p7 p6)), (dH p8 .eql p7 0)] (.cond p8 (Sr [(.u (.mv p5 (K_ 0)))] .ret) .skip)) (Sr [(Mv p9 p1), (Mv bE p2), (Mv bM p1), (.u (.len bW bM)), (fR cH .rem bE bW), (.u (.ixs bX 1 p9 cH)), (L1 cW bX), (.u (.cvi cE .i64 cW)), (Mv p5 cE)] .ret)))
def TY : List RR := [(.t p5)]
theorem Ul : FnOk Try.prog p97.ix 16 Vn TY := fX Try.f96 Try.func96
theorem vX : ∀ {es : List (List D)}, (∀ x ∈ es, FitL [.i .i64, .i .i64, .i .i64] x) -> ∃ l : List Ln, es = aD aM l /\ ∀ r ∈ l, vJ r
 | [], _ => ⟨[], rfl, fun r h => by cases h⟩
 | x :: es, h => by
   obtain ⟨l, rfl, hl⟩ := vX (es := es) fun y hy => h y (by simp [hy])
   have h1 := h x (by simp)
   simp only [FitL, kG] at h1
   obtain ⟨d, ds, rfl, ⟨n1, rfl, w1⟩, d2, ds2, rfl, ⟨n2, rfl, w2⟩, d3, ds3, rfl, ⟨n3, rfl, w3⟩, rfl⟩ := h1
   refine ⟨⟨n1, n2, n3⟩ :: l, rfl, fun r hr => ?_⟩
   rcases List.mem_cons.1 hr with rfl | hr
   ·exact ⟨zC w1, zC w2, zC w3⟩
   ·exact hl r hr
theorem vN : ∀ {es : List (List D)}, (∀ x ∈ es, FitL [.i .i64, .i .i64, .i .i64] x) -> ∃ l : List Ct, es = aD dZ l
 | [], _ => ⟨[], rfl⟩
 | x :: es, h => by
   obtain ⟨l, rfl⟩ := vN (es := es) fun y hy => h y (by simp [hy])
   have h1 := h x (by simp)
   simp only [FitL, kG] at h1
   obtain ⟨d, ds, rfl, ⟨n1, rfl, w1⟩, d2, ds2, rfl, ⟨n2, rfl, w2⟩, d3, ds3, rfl, ⟨n3, rfl, w3⟩, rfl⟩ := h1
   exact ⟨⟨n1, n2, n3⟩ :: l, rfl⟩
theorem FitP.book {ps : List (Bool × List CK)} {ds : List D} (h : FitP ((true, [.i .i64, .i .i64, .i .i64, .sl [.i .i64, .i .i64, .i .i64], .sl [.i .i64, .i .i64, .i .i64]]) :: ps) ds) : ∃ n coin box ls cs ds', ds = .ag [.i .i64 n, .i .i64 coin, .i .i64 box, .lst 3 (aD aM ls), .lst 3 (aD dZ cs)] :: ds' /\ FitP ps ds' := by
 unfold FitP at h
 obtain ⟨es, ds', rfl, h1, h2⟩ := h
 simp only [FitL, kG] at h1
 obtain ⟨d, ds, rfl, ⟨n1, rfl, _⟩, d2, ds2, rfl, ⟨n2, rfl, _⟩, d3, ds3, rfl, ⟨n3, rfl, _⟩, d4, ds4, rfl, ⟨e4, rfl, k4⟩, d5, ds5, rfl, ⟨e5, rfl, k5⟩, rfl⟩ := h1
 obtain ⟨ls, rfl, _⟩ := vX fun x hx => by have := k4 x hx; simpa only [FitL, kG] using this
 obtain ⟨cs, rfl⟩ := vN fun x hx => by have := k5 x hx; simpa only [FitL, kG] using this
 exact ⟨n1, n2, n3, ls, cs, ds', rfl, h2⟩
set_option maxRecDepth 100000
def zG (n coin box : Int) (ls : List Ln) (cs : List Ct) : Bool := BE n coin box ls cs && decide (aS n coin box ls cs = 0)
theorem Ha {n coin box : Int} {ls : List Ln} {cs : List Ct} (h : zG n coin box ls cs = true) : ls.length <= 8 /\ cs.length <= 4 /\ aS n coin box ls cs = 0 := by
 unfold zG at h
 rw [Bool.and_eq_true, decide_eq_true_iff] at h
 obtain ⟨f1, f2, _, _⟩ := nI h.2
 exact ⟨f1, f2, h.2⟩
theorem Hp {A : List Int} (hne : A ≠ []) : A.foldl min (A.getD 0 0) ∈ A /\ A.foldl max (A.getD 0 0) ∈ A := by
 have hA := xC hne
 obtain ⟨a1, a2, a3⟩ := iY A (A.getD 0 0)
 obtain ⟨c1, c2, c3⟩ := iZ A (A.getD 0 0)
 constructor
 ·rcases a3 with h | h
  ·rw [h]; exact hA
  ·exact h
 ·rcases c3 with h | h
  ·rw [h]; exact hA
  ·exact h
def jU (n coin box : Int) (ls : List Ln) (cs : List Ct) : C := .cells false [.o (.i .i64 n) 0, .o (.i .i64 coin) 0, .o (.i .i64 box) 0, .o (.lst 3 (aD aM ls)) 0, .o (.lst 3 (aD dZ cs)) 0] 1
theorem aZ {n coin box : Int} {ls : List Ln} {cs : List Ct} {B : Pos -> Prop} {ob : T C} : ShC B ob (jU n coin box ls cs) (jU n coin box ls cs) := ShC.same (ShC.cn (.pu trivial) (ShC.cn (.pu trivial) (ShC.cn (.pu trivial) (ShC.cn (.pu (aB _)) (ShC.cn (.pu (aE _)) ShC.nl)))))
set_option maxRecDepth 1000000
set_option maxRecDepth 100000
set_option maxRecDepth 1000000
set_option maxRecDepth 100000
theorem WSt.app_slEL {sl : T D} {ob : T C} {nx : Pos} {lg : Option (T Bool)} {K : X -> Prop} {d id idy : Pos} {z n st curY : Nat} {roY : Bool} {x y : RX} {ds : List D} (hx : bG sl x = some (.sl id 0 0 0 z)) (hox : ob.get id = some (.cells false [] 1)) (hy : bG sl y = some (.sl idy 0 n st z)) (hoy : ob.get idy = some (.cells roY (ds.map fun d => Cell.o d st) curY)) (hl : ds.length = n * z) (hn : 0 < n) (hmax : n <= 2147483648)
 (h : FJ lg idy fun lg => IM lg id fun lg => T.setK id (.cells false (ds.map fun d => Cell.o d 1) 2) ob fun ob => dX sl ob nx lg d K (.sl id 0 n 1 z)) : WSt (.app d z x y) ⟨sl, ob, nx, lg⟩ K := by
 obtain ⟨l1, e1, h⟩ := jP h
 obtain ⟨l2, e2, h⟩ := lN h
 rw [T.setK_eq] at h
 obtain ⟨h2, h3⟩ := aT h
 refine ⟨_, ?_, h3⟩
 show fA d z x y sl ob nx lg = _
 unfold fA
 rw [hx, hy]
 have hm : Nat.mul n z = ds.length := hl.symm
 have hm0 : Nat.add 0 (Nat.mul 0 z) = 0 := by show 0 + 0 * z = 0; simp
 obtain ⟨k, rfl⟩ : ∃ k, n = k + 1 := ⟨n - 1, by omega⟩
 have hle : Nat.ble (Nat.add 0 (Nat.succ k)) 2147483648 = true := Nat.ble_eq_true_of_le (by simpa using hmax)
 have hrd : eT (β := X) st (Nat.mul (k + 1) z) (eI 0 (ds.map fun d => Cell.o d st)) = fun k => k ds := by
  rw [bT, List.drop_zero, hm]
  have key : ∀ (l : List D) (k : List D -> Option X), eT st l.length (l.map fun d => Cell.o d st) k = k l := by
   intro l
   induction l with
   | nil => exact fun k => rfl
   | cons a l ih =>
     intro k
     have e : eT st (a :: l).length ((a :: l).map fun d => Cell.o d st) k = (bif Nat.ble st st then eT st l.length (l.map fun d => Cell.o d st) (fun ds => k (a :: ds)) else none) := rfl
     rw [e, Nat.ble_eq_true_of_le (Nat.le_refl _), cond_true, ih]
  exact funext fun k => key ds k
 simp only [sS, Nat.beq_refl, cond_true, hoy, hrd, tK, e1]
 simp only [Bool.true_and, hle, cond_true, hox, hm0, xD, bH, iE, e2, T.setK_eq]
 have e3 : Nat.add 0 (Nat.succ k) = k + 1 := by show 0 + (k + 1) = k + 1; omega
 rw [e3]
 exact h2
theorem WSt.app_nsE {sl : T D} {ob : T C} {nx : Pos} {lg : Option (T Bool)} {K : X -> Prop} {d id : Pos} {z : Nat} {x y : RX} (hx : bG sl x = some (.sl id 0 0 0 z)) (hox : ob.get id = some (.cells false [] 1)) (hy : bG sl y = some .ns)
 (h : FJ lg id fun lg => dX sl ob nx lg d K (.sl id 0 0 0 z)) : WSt (.app d z x y) ⟨sl, ob, nx, lg⟩ K := by
 obtain ⟨l1, e1, h⟩ := jP h
 obtain ⟨h2, h3⟩ := aT h
 refine ⟨_, ?_, h3⟩
 show fA d z x y sl ob nx lg = _
 unfold fA
 rw [hx, hy]
 simp only [sS, cond_true, tK, hox, Nat.beq_refl, e1]
 exact h2
def pK (n : Int) : List D := [.i .u16 n]
theorem cX (ws : List Int) : eB (aD pK ws) := nL (fun l => by simp [pK, aO, Pu]) ws
def uX (ws : List Int) (k : Nat) : Int := if ws.length = 0 then 0 else ws.getD (k % ws.length) 0
theorem zP {ws : List Int} (hw : ∀ w ∈ ws, 0 <= w /\ w <= 65535) (k : Nat) : 0 <= uX ws k /\ uX ws k <= 65535 := by
 unfold uX
 split
 ·omega
 ·exact hw _ (bV (d := 0) (Nat.mod_lt _ (by omega)))
theorem yU (ws : List Int) (hw : ∀ w ∈ ws, 0 <= w /\ w <= 65535) (k : Nat) : PureF Try.prog p97.ix [.lst 1 (aD pK ws), .i .i64 (k : Int)] (.i .i64 (uX ws k)) := by
 have e1 := aC pK ws
 refine PureF.run Ul (by simp) (by simp [aO, eB, Pu, cX]) ?_; conv => whnf
 by_cases h0 : ws.length = 0
 ·have q0 : Int.ofNat (aD pK ws).length = 0 := by rw [e1, h0]; rfl
  have hR : uX ws k = 0 := by unfold uX; rw [if_pos h0]
  rw [hR]
  repeat' ((first | refine Qw ?_ | refine Qf e1 ?_ | refine Qv ?_) <;> conv => whnf)
  exact Fin.i rfl rfl
 ·have hR : uX ws k = ws.getD (k % ws.length) 0 := by unfold uX; rw [if_neg h0]
  have hlt : k % ws.length < ws.length := Nat.mod_lt _ (by omega)
  have hb := hw _ (bV (d := 0) hlt)
  have hm : (k : Int).tmod ((aD pK ws).length : Int) = ((k % ws.length : Nat) : Int) := by
   rw [e1, Int.tmod_eq_emod_of_nonneg (by omega)]; rfl
  rw [hR]
  repeat' ((first | refine Qw ?_ | refine Qf e1 ?_ | refine Qv ?_) <;> conv => whnf)
  rw [hm]
  generalize k % ws.length = m at *
  have hb : 0 <= ws.getD m (default : Int) /\ ws.getD m (default : Int) <= 65535 := hb
  refine WIx.rowsN (f := pK) hlt ?_; conv => whnf
  repeat' ((first | refine Qw ?_ | refine Qf e1 ?_ | refine Qv ?_) <;> conv => whnf)
  exact Fin.i rfl rfl
def Io : RC -> RC
 | .seq a _ => a
 | c => c
def Pe : RC -> RC
 | .blk _ a => a
 | c => c
def Rg : RC -> RC
 | .loop a => a
 | c => c
def Uu : RC := Pe (Io (eX (Rg (Pe (eX (Io (eX (eX (eX (eX Ko))))))))))
def TV : RC := Io (eX Uu)
def UG : RC := Io (eX (eX Uu))
theorem pI {α : Type} {p q : Pos} {A B : List α} (h : p.nat <= q.nat) (k : A.length <= B.length) : (BT p q A).nat <= (BT p q B).nat := by
 cases A with
 | nil => cases B <;> simp [BT, h]
 | cons a s =>
   cases B with
   | nil => simp at k
   | cons b r => exact Nat.le_refl _
structure CanP (n : Int) (T C : List Ln) : Prop where
 all : ∀ l ∈ C, (l.k = 1 \/ l.k = 2) /\ (0 <= l.c /\ l.c < n) /\ (0 <= l.t /\ l.t < n) /\ eG (T ++ [l]) = true
theorem CanP.nil {n : Int} {T : List Ln} : CanP n T [] := ⟨fun l h => by cases h⟩
theorem CanP.snoc {n : Int} {T C : List Ln} (h : CanP n T C) {l : Ln} (hk : l.k = 1 \/ l.k = 2) (hc : 0 <= l.c /\ l.c < n) (ht : 0 <= l.t /\ l.t < n) (hp : eG (T ++ [l]) = true) : CanP n T (C ++ [l]) := ⟨fun x hx => by
 rcases List.mem_append.1 hx with hx | hx
 ·exact h.all x hx
 ·rw [List.mem_singleton.1 hx]; exact ⟨hk, hc, ht, hp⟩⟩
def Vw (n coin box : Int) (ls : List Ln) (cs : List Ct) (ws : List Int) (L T : List Ln) (i w : Int) : X := ⟨(.n (.n (.n (.n .e (some (Ao (.o (.i .h)) 3 T)) .e) none .e) (some (.lst 1 (aD pK ws))) (.n (.n .e (some (.i .i64 w)) .e) none .e)) none (.n (.n (.n .e (some (.i .i64 i)) .e) (some (.pt (.o .h) 0 0)) .e) (some (.pt .h 0 0)) (.n .e (some (.pt (.i .h) 0 0)) .e))), (.n (.n .e (some (lL)) (.n .e (BW aM T) .e)) (some (jU n coin box ls cs)) (.n .e (some (jR n coin box (.lst 3 (aD aM L)) .ns)) .e)), BT (.o (.o .h)) (.i (.i .h)) T, none⟩
def RU (n coin box : Int) (ls : List Ln) (cs : List Ct) (ws : List Int) (L T : List Ln) (i w : Int) (C : List Ln) : X := ⟨(.n (.n (.n (.n .e (some (Ao (.o (.i .h)) 3 T)) .e) none .e) (some (.lst 1 (aD pK ws))) (.n (.n .e (some (.i .i64 w)) .e) none .e)) none (.n (.n (.n .e (some (.i .i64 i)) .e) (some (.pt (.o .h) 0 0)) .e) (some (.pt .h 0 0)) (.n (.n .e (some (.lst 3 (aD aM C))) .e) (some (.pt (.i .h) 0 0)) .e))), (.n (.n .e (some (lL)) (.n .e (BW aM T) .e)) (some (jU n coin box ls cs)) (.n .e (some (jR n coin box (.lst 3 (aD aM L)) .ns)) .e)), BT (.o (.o .h)) (.i (.i .h)) T, none⟩
theorem HA (n coin box : Int) (ls : List Ln) (cs : List Ct) (ws : List Int) (L T : List Ln) (i w : Int) (hn : 1 <= n /\ n <= 4) (hTl : T.length <= 8) {rest : RC} {K : Ex -> X -> Prop} (hrest : ∀ C, CanP n T C -> C.length <= 32 -> Rn Try.prog 175 rest (RU n coin box ls cs ws L T i w C) K) : Rn Try.prog 175 (.seq TV (.seq UG rest)) (Vw n coin box ls cs ws L T i w) K := by
 have hsq : 1 <= n * n /\ n * n <= 16 := by
  have : n = 1 \/ n = 2 \/ n = 3 \/ n = 4 := by omega
  rcases this with rfl | rfl | rfl | rfl <;> decide
 cases T with
 | nil =>
   refine Rn.far rfl ?_
   refine RnF.seq ?_; conv => whnf
   refine Qg ?_
   refine ⟨rfl, rfl, (show 4 <= 4 by omega), ?_⟩
   refine RnF.seq ?_; conv => whnf
   refine Qg ?_
   refine Rn.loop (fun s : Nat × List Ln => match s with | (kd, C) => (⟨(.n (.n (.n (.n .e (some (.ns)) .e) none (.n .e (some (.i .i64 (kd : Int))) .e)) (some (.lst 1 (aD pK ws))) (.n (.n .e (some (.i .i64 w)) .e) none .e)) none (.n (.n (.n .e (some (.i .i64 i)) .e) (some (.pt (.o .h) 0 0)) .e) (some (.pt .h 0 0)) (.n (.n .e (some (Ao (.o (.o (.o .h))) 3 C)) .e) (some (.pt (.i .h) 0 0)) .e))), (.n (.n (.n (.n .e (BW aM C) .e) none .e) (some (lL)) .e) (some (jU n coin box ls cs)) (.n .e (some (jR n coin box (.lst 3 (aD aM L)) .ns)) .e)), BT (.o (.o .h)) (.i (.o (.o .h))) C, none⟩ : X)) (fun s => 1 <= s.1 /\ s.1 <= 3 /\ CanP n [] s.2 /\ s.2.length <= 16 * (s.1 - 1)) (fun s => 3 - s.1) (1, []) ?_ ?_ ?_
   ·refine X.le.mk ?_ ?_ (Nat.le_refl _) rfl rfl
    all_goals (repeat' first | exact T.le_e _ | refine T.le_some ?_ rfl ?_ | refine T.le_none ?_ ?_ | refine T.le_ee ?_ ?_)
   ·exact ⟨Nat.le_refl _, (show 1 <= 3 by omega), .nil, Nat.zero_le _⟩
   rintro ⟨kd, C0⟩ ⟨hk1, hk3, hC0, hCl0⟩
   have hk1 : 1 <= kd := hk1
   have hk3 : kd <= 3 := hk3
   have hC0 : CanP n [] C0 := hC0
   have hCl0 : C0.length <= 16 * (kd - 1) := hCl0
   conv => whnf
   refine Qg ?_
   refine WB.dec (fun h => ?_) (fun h => ?_) <;> conv => whnf
   ·have hk2 : kd <= 2 := by omega
    refine Qg ?_
    refine Rn.loop (fun s : Nat × List Ln => match s with | (k, C) => (⟨(.n (.n (.n (.n .e (some (.ns)) .e) none (.n .e (some (.i .i64 (kd : Int))) .e)) (some (.lst 1 (aD pK ws))) (.n (.n .e (some (.i .i64 w)) .e) none .e)) none (.n (.n (.n .e (some (.i .i64 i)) .e) (some (.pt (.o .h) 0 0)) (.n .e (some (.i .i64 (k : Int))) .e)) (some (.pt .h 0 0)) (.n (.n .e (some (Ao (.o (.o (.o .h))) 3 C)) .e) (some (.pt (.i .h) 0 0)) .e))), (.n (.n (.n (.n .e (BW aM C) .e) none .e) (some (lL)) .e) (some (jU n coin box ls cs)) (.n .e (some (jR n coin box (.lst 3 (aD aM L)) .ns)) .e)), BT (.o (.o .h)) (.i (.o (.o .h))) C, none⟩ : X)) (fun s => (s.1 : Int) <= n * n /\ CanP n [] s.2 /\ s.2.length <= 16 * (kd - 1) + s.1 /\ C0.length <= s.2.length) (fun s => 16 - s.1) (0, C0) ?_ ?_ ?_
    ·refine X.le.mk ?_ ?_ (Nat.le_refl _) rfl rfl
     all_goals (repeat' first | exact T.le_e _ | exact T.le_refl _ | refine T.le_some ?_ rfl ?_ | refine T.le_none ?_ ?_ | refine T.le_ee ?_ ?_ | refine T.le_same ?_ ?_)
    ·exact ⟨(show (0 : Int) <= n * n by omega), hC0, hCl0, Nat.le_refl _⟩
    rintro ⟨k, C⟩ ⟨hkn, hC, hCl, hCm⟩
    have hkn : (k : Int) <= n * n := hkn
    have hC : CanP n [] C := hC
    have hCl : C.length <= 16 * (kd - 1) + k := hCl
    have hCm : C0.length <= C.length := hCm
    conv => whnf
    refine Qg ?_
    refine WB.dec (fun h => ?_) (fun h => ?_) <;> conv => whnf
    ·have hkl : (k : Int) < n * n := h
     have c1 := Int.tmod_nonneg n (show (0 : Int) <= (k : Int) by omega)
     have c2 := Int.tmod_lt_of_pos (k : Int) (show (0 : Int) < n by omega)
     have t1 := Int.tdiv_nonneg (show (0 : Int) <= (k : Int) by omega) (show 0 <= n by omega)
     have t2 : (k : Int).tdiv n < n := by
      rw [Int.tdiv_eq_ediv_of_nonneg (by omega)]
      exact Int.ediv_lt_of_lt_mul (by omega) hkl
     have iP := pH ([] ++ [⟨(kd : Int), (k : Int).tmod n, (k : Int).tdiv n⟩]) (by simp)
     have hkk : (kd : Int) = 1 \/ (kd : Int) = 2 := by omega
     generalize hp : eG ([] ++ [⟨(kd : Int), (k : Int).tmod n, (k : Int).tdiv n⟩]) = bb at *
     cases C with
     | nil =>
       refine Qg ?_
       refine WSt.app_nsE (id := (.i (.o .h))) (by rfl) (by rfl) (by rfl) ?_; conv => whnf
       refine Qg ?_
       refine WSt.app_oneL (id := (.i (.o .h))) (ds := ([] : List D)) (r := aM ⟨(kd : Int), (k : Int).tmod n, (k : Int).tdiv n⟩) (len := 0) (st := 0) (by rfl) (by rfl) (by rfl) (by rfl) (by rfl) (by rfl) (by rfl) (by rfl) (by rfl) (by omega) (by rfl) ?_; conv => whnf
       refine Qg ?_
       refine WCall.borrow1 iP (.i (.o .h)) (.cells false ((([] : List D).map fun d => Cell.o d 0) ++ (aM ⟨(kd : Int), (k : Int).tmod n, (k : Int).tdiv n⟩).map fun d => Cell.o d 1) 2) (.cons (Fz.grown (ds := ([] : List D)) (r := aM ⟨(kd : Int), (k : Int).tmod n, (k : Int).tdiv n⟩) (s1 := 0) (s2 := 1) (fun h => h) (T.get_set_same _ _ _) rfl (by omega) (by simp [aD]) (by rw [aC]; simp) (dN _) (aB _)) .nil) trivial rfl rfl ?_; conv => whnf
       refine Qg ?_
       refine WB.mk (fun hb => ?_) (fun hb => ?_) <;> conv => whnf
       ·subst hb
        refine Qg ?_
        refine WSt.app_first (r := aM ⟨(kd : Int), (k : Int).tmod n, (k : Int).tdiv n⟩) (by rfl) (.inl rfl) (by rfl) (by rfl) (by rfl) (by rfl) ?_; conv => whnf
        refine Qg ?_
        refine Again.to (k + 1, [⟨(kd : Int), (k : Int).tmod n, (k : Int).tdiv n⟩]) (show 16 - (k + 1) < 16 - k by omega) ⟨(show ((k + 1 : Nat) : Int) <= n * n by omega), (show CanP n [] [⟨(kd : Int), (k : Int).tmod n, (k : Int).tdiv n⟩] from CanP.nil.snoc hkk ⟨c1, c2⟩ ⟨t1, t2⟩ hp), (show 1 <= 16 * (kd - 1) + (k + 1) by omega), (Nat.le_trans hCm (Nat.zero_le _))⟩ (show 4 <= 9 by omega) ?_
        refine Shr.of ?_ ?_ rfl rfl
        ·(repeat' first | exact Rel.e | refine Rel.some ?_ ?_ ?_ | refine Rel.none ?_ ?_ | refine Rel.ee ?_ ?_)
         all_goals show Fz _ _ _ _
         all_goals first | exact Fy | exact .pu (cX _) | exact .pu (aB _) | exact gV (Ql rfl) _ (Ql rfl)
        ·(repeat' first | exact Rel.e | refine Rel.some ?_ ?_ ?_ | refine Rel.none ?_ ?_ | refine Rel.ee ?_ ?_)
         all_goals first
          | exact Ro aZ
          | exact Ro bF
          | exact Ro (aW (.pu (aB _)) (.pu trivial))
          | (refine Ro (ShC.same fun c hc => ?_); obtain ⟨d, hd, rfl⟩ := List.mem_map.1 hc; exact .pu (aG.1 (eD _) d hd))
       ·refine Qg ?_
        refine Again.to (k + 1, []) (show 16 - (k + 1) < 16 - k by omega) ⟨(show ((k + 1 : Nat) : Int) <= n * n by omega), hC, (Nat.zero_le _), hCm⟩ (show 4 <= 4 by omega) ?_
        refine Shr.of ?_ ?_ rfl rfl
        ·(repeat' first | exact Rel.e | refine Rel.some ?_ ?_ ?_ | refine Rel.none ?_ ?_ | refine Rel.ee ?_ ?_)
         all_goals show Fz _ _ _ _
         all_goals first | exact Fy | exact .pu (cX _) | exact .pu (aB _) | exact gV (Ql rfl) _ (Ql rfl)
        ·(repeat' first | exact Rel.e | refine Rel.some ?_ ?_ ?_ | refine Rel.none ?_ ?_ | refine Rel.ee ?_ ?_)
         all_goals first
          | exact Ro aZ
          | exact Ro bF
          | exact Ro (aW (.pu (aB _)) (.pu trivial))
     | cons a s =>
       refine Qg ?_
       refine WSt.app_nsE (id := (.o (.i (.o .h)))) (by rfl) (by rfl) (by rfl) ?_; conv => whnf
       refine Qg ?_
       refine WSt.app_oneL (id := (.o (.i (.o .h)))) (ds := ([] : List D)) (r := aM ⟨(kd : Int), (k : Int).tmod n, (k : Int).tdiv n⟩) (len := 0) (st := 0) (by rfl) (by rfl) (by rfl) (by rfl) (by rfl) (by rfl) (by rfl) (by rfl) (by rfl) (by omega) (by rfl) ?_; conv => whnf
       refine Qg ?_
       refine WCall.borrow1 iP (.o (.i (.o .h))) (.cells false ((([] : List D).map fun d => Cell.o d 0) ++ (aM ⟨(kd : Int), (k : Int).tmod n, (k : Int).tdiv n⟩).map fun d => Cell.o d 1) 2) (.cons (Fz.grown (ds := ([] : List D)) (r := aM ⟨(kd : Int), (k : Int).tmod n, (k : Int).tdiv n⟩) (s1 := 0) (s2 := 1) (fun h => h) (T.get_set_same _ _ _) rfl (by omega) (by simp [aD]) (by rw [aC]; simp) (dN _) (aB _)) .nil) trivial rfl rfl ?_; conv => whnf
       refine Qg ?_
       refine WB.mk (fun hb => ?_) (fun hb => ?_) <;> conv => whnf
       ·subst hb
        refine Qg ?_
        refine WSt.app_one (id := (.o (.o (.o .h)))) (ds := (aD aM (a :: s)).flatten) (r := aM ⟨(kd : Int), (k : Int).tmod n, (k : Int).tdiv n⟩) (by rfl) (by rfl) (by rfl) (by rfl) (by rfl) (by rfl) (by rw [dL (z := 3) nS]; rfl) (by rfl) (by rfl) (by simp at hCl; omega) (by rfl) ?_; conv => whnf
        refine Qg ?_
        refine Again.to (k + 1, (a :: (s ++ [⟨(kd : Int), (k : Int).tmod n, (k : Int).tdiv n⟩]))) (show 16 - (k + 1) < 16 - k by omega) ⟨(show ((k + 1 : Nat) : Int) <= n * n by omega), (show CanP n [] (a :: (s ++ [⟨(kd : Int), (k : Int).tmod n, (k : Int).tdiv n⟩])) from hC.snoc hkk ⟨c1, c2⟩ ⟨t1, t2⟩ hp), (by have h := hCl; rw [List.length_cons] at h; show (s ++ [_]).length + 1 <= _; rw [List.length_append, List.length_singleton]; omega), (by have h := hCm; rw [List.length_cons] at h; show _ <= (s ++ [_]).length + 1; rw [List.length_append, List.length_singleton]; omega)⟩ (show 9 <= 9 by omega) ?_
        refine Shr.of ?_ ?_ rfl rfl
        ·show Rel _ _ ((.n (.n (.n (.n .e (some (.ns)) .e) none (.n .e (some (.i .i64 (kd : Int))) .e)) (some (.lst 1 (aD pK ws))) (.n (.n .e (some (.i .i64 w)) .e) none .e)) none (.n (.n (.n .e (some (.i .i64 i)) .e) (some (.pt (.o .h) 0 0)) (.n .e (some (.i .i64 ((k + 1 : Nat) : Int))) .e)) (some (.pt .h 0 0)) (.n (.n .e (some ((Ao (.o (.o (.o .h))) 3 (a :: (s ++ [⟨(kd : Int), (k : Int).tmod n, (k : Int).tdiv n⟩]))))) .e) (some (.pt (.i .h) 0 0)) .e))) : Ev.T D) _
         rw [lW]
         (repeat' first | exact Rel.e | refine Rel.some ?_ ?_ ?_ | refine Rel.none ?_ ?_ | refine Rel.ee ?_ ?_)
         all_goals show Fz _ _ _ _
         all_goals first | exact Fy | exact .pu (cX _) | exact .pu (aB _) | exact gV (Ql rfl) _ (Ql rfl)
        ·show Rel _ _ ((.n (.n (.n (.n .e (BW aM (a :: (s ++ [⟨(kd : Int), (k : Int).tmod n, (k : Int).tdiv n⟩]))) .e) none .e) (some (lL)) .e) (some (jU n coin box ls cs)) (.n .e (some (jR n coin box (.lst 3 (aD aM L)) .ns)) .e)) : Ev.T Ev.C) _
         rw [mB]
         (repeat' first | exact Rel.e | refine Rel.some ?_ ?_ ?_ | refine Rel.none ?_ ?_ | refine Rel.ee ?_ ?_)
         all_goals first
          | exact Ro aZ
          | exact Ro bF
          | exact Ro (aW (.pu (aB _)) (.pu trivial))
          | (refine Ro (ShC.grown (by omega) (aG.2 fun d hd => ?_)); rcases List.mem_append.1 hd with hd | hd <;> first | exact aG.1 (gP eD _) d hd | exact aG.1 (eD _) d hd)
       ·refine Qg ?_
        refine Again.to (k + 1, (a :: s)) (show 16 - (k + 1) < 16 - k by omega) ⟨(show ((k + 1 : Nat) : Int) <= n * n by omega), hC, (by have h := hCl; rw [List.length_cons] at h; show s.length + 1 <= _; omega), hCm⟩ (show 9 <= 9 by omega) ?_
        refine Shr.of ?_ ?_ rfl rfl
        ·(repeat' first | exact Rel.e | refine Rel.some ?_ ?_ ?_ | refine Rel.none ?_ ?_ | refine Rel.ee ?_ ?_)
         all_goals show Fz _ _ _ _
         all_goals first | exact Fy | exact .pu (cX _) | exact .pu (aB _) | exact gV (Ql rfl) _ (Ql rfl)
        ·(repeat' first | exact Rel.e | refine Rel.some ?_ ?_ ?_ | refine Rel.none ?_ ?_ | refine Rel.ee ?_ ?_)
         all_goals first
          | exact Ro aZ
          | exact Ro bF
          | exact Ro (aW (.pu (aB _)) (.pu trivial))
          | exact Ro (ShC.G eD a s)
    ·have hk16 : k <= 16 := by omega
     cases C with
     | nil =>
       refine Qg ?_
       refine Again.to (kd + 1, []) (show 3 - (kd + 1) < 3 - kd by omega) ⟨(show 1 <= kd + 1 by omega), (show kd + 1 <= 3 by omega), hC, (by show ([] : List Ln).length <= 16 * (kd + 1 - 1); have h := hCl; omega)⟩ (by simp only []; exact pI (by decide) hCm) ?_
       refine Shr.of ?_ ?_ rfl rfl
       ·(repeat' first | exact Rel.e | refine Rel.some ?_ ?_ ?_ | refine Rel.none ?_ ?_ | refine Rel.ee ?_ ?_)
        all_goals show Fz _ _ _ _
        all_goals first | exact Fy | exact .pu (cX _) | exact .pu (aB _) | exact gV (Ql rfl) _ (Ql rfl)
       ·(repeat' first | exact Rel.e | refine Rel.some ?_ ?_ ?_ | refine Rel.none ?_ ?_ | refine Rel.ee ?_ ?_)
        all_goals first
         | exact Ro aZ
         | exact Ro bF
         | exact Ro (aW (.pu (aB _)) (.pu trivial))
     | cons a s =>
       refine Qg ?_
       refine Again.to (kd + 1, (a :: s)) (show 3 - (kd + 1) < 3 - kd by omega) ⟨(show 1 <= kd + 1 by omega), (show kd + 1 <= 3 by omega), hC, (by show (a :: s).length <= 16 * (kd + 1 - 1); have h := hCl; omega)⟩ (by simp only []; exact pI (by decide) hCm) ?_
       refine Shr.of ?_ ?_ rfl rfl
       ·(repeat' first | exact Rel.e | refine Rel.some ?_ ?_ ?_ | refine Rel.none ?_ ?_ | refine Rel.ee ?_ ?_)
        all_goals show Fz _ _ _ _
        all_goals first | exact Fy | exact .pu (cX _) | exact .pu (aB _) | exact gV (Ql rfl) _ (Ql rfl)
       ·(repeat' first | exact Rel.e | refine Rel.some ?_ ?_ ?_ | refine Rel.none ?_ ?_ | refine Rel.ee ?_ ?_)
        all_goals first
         | exact Ro aZ
         | exact Ro bF
         | exact Ro (aW (.pu (aB _)) (.pu trivial))
         | exact Ro (ShC.G eD a s)
   ·refine Qg ?_
    refine ⟨rfl, rfl, (show 4 <= (BT (.o (.o .h)) (.i (.o (.o .h))) C0).nat by cases C0 <;> simp [BT, Pos.nat]), RnF.turn (z' := RU n coin box ls cs ws L [] i w C0) (B := fun id => id.nat < 4) ?_ (fun id h => h) (fun id h => h) (Nat.le_refl _) (hrest C0 hC0 (by omega))⟩
    refine ShrB.of ?_ ?_ rfl rfl
    ·(repeat' first | exact Rel.e | refine Rel.some ?_ ?_ ?_ | refine Rel.none ?_ ?_ | refine Rel.ee ?_ ?_)
     all_goals show Fz _ _ _ _
     all_goals first | exact Fy | exact .pu (cX _) | exact Fz.G C0 (show ¬ (8 : Nat) < 4 by omega) (fun c h => h) nS eD
    ·(repeat' first | exact Rel.e | refine Rel.some ?_ ?_ ?_ | refine Rel.none ?_ ?_ | refine Rel.ee ?_ ?_)
     all_goals first
      | exact ⟨show _ < 4 by simp [Pos.nat], aZ⟩
      | exact ⟨show _ < 4 by simp [Pos.nat], bF⟩
      | exact ⟨show _ < 4 by simp [Pos.nat], aW (.pu (aB _)) (.pu trivial)⟩
      | exact ⟨show _ < 4 by simp [Pos.nat], ShC.G eD _ _⟩
 | cons a' s' =>
   refine Rn.far rfl ?_
   refine RnF.seq ?_; conv => whnf
   refine Qg ?_
   refine ⟨rfl, rfl, (show 7 <= 7 by omega), ?_⟩
   refine RnF.seq ?_; conv => whnf
   refine Qg ?_
   refine Rn.loop (fun s : Nat × List Ln => match s with | (kd, C) => (⟨(.n (.n (.n (.n .e (some (.sl (.o (.i .h)) 0 (s'.length + 1) s'.length 3)) .e) none (.n .e (some (.i .i64 (kd : Int))) .e)) (some (.lst 1 (aD pK ws))) (.n (.n .e (some (.i .i64 w)) .e) none .e)) none (.n (.n (.n .e (some (.i .i64 i)) .e) (some (.pt (.o .h) 0 0)) .e) (some (.pt .h 0 0)) (.n (.n .e (some (Ao (.i (.i (.o .h))) 3 C)) .e) (some (.pt (.i .h) 0 0)) .e))), (.n (.n .e (some (lL)) (.n .e (some ((Ev.C.cells false ((aD aM (a' :: s')).flatten.map fun d => Cell.o d s'.length) (s'.length + 1)))) .e)) (some (jU n coin box ls cs)) (.n .e (some (jR n coin box (.lst 3 (aD aM L)) .ns)) (.n (.n .e (BW aM C) .e) none .e))), BT (.i (.i .h)) (.o (.o (.i .h))) C, none⟩ : X)) (fun s => 1 <= s.1 /\ s.1 <= 3 /\ CanP n (a' :: s') s.2 /\ s.2.length <= 16 * (s.1 - 1)) (fun s => 3 - s.1) (1, []) ?_ ?_ ?_
   ·refine X.le.mk ?_ ?_ (Nat.le_refl _) rfl rfl
    all_goals (repeat' first | exact T.le_e _ | refine T.le_some ?_ rfl ?_ | refine T.le_none ?_ ?_ | refine T.le_ee ?_ ?_)
   ·exact ⟨Nat.le_refl _, (show 1 <= 3 by omega), .nil, Nat.zero_le _⟩
   rintro ⟨kd, C0⟩ ⟨hk1, hk3, hC0, hCl0⟩
   have hk1 : 1 <= kd := hk1
   have hk3 : kd <= 3 := hk3
   have hC0 : CanP n (a' :: s') C0 := hC0
   have hCl0 : C0.length <= 16 * (kd - 1) := hCl0
   conv => whnf
   refine Qg ?_
   refine WB.dec (fun h => ?_) (fun h => ?_) <;> conv => whnf
   ·have hk2 : kd <= 2 := by omega
    refine Qg ?_
    refine Rn.loop (fun s : Nat × List Ln => match s with | (k, C) => (⟨(.n (.n (.n (.n .e (some (.sl (.o (.i .h)) 0 (s'.length + 1) s'.length 3)) .e) none (.n .e (some (.i .i64 (kd : Int))) .e)) (some (.lst 1 (aD pK ws))) (.n (.n .e (some (.i .i64 w)) .e) none .e)) none (.n (.n (.n .e (some (.i .i64 i)) .e) (some (.pt (.o .h) 0 0)) (.n .e (some (.i .i64 (k : Int))) .e)) (some (.pt .h 0 0)) (.n (.n .e (some (Ao (.i (.i (.o .h))) 3 C)) .e) (some (.pt (.i .h) 0 0)) .e))), (.n (.n .e (some (lL)) (.n .e (some ((Ev.C.cells false ((aD aM (a' :: s')).flatten.map fun d => Cell.o d s'.length) (s'.length + 1)))) .e)) (some (jU n coin box ls cs)) (.n .e (some (jR n coin box (.lst 3 (aD aM L)) .ns)) (.n (.n .e (BW aM C) .e) none .e))), BT (.i (.i .h)) (.o (.o (.i .h))) C, none⟩ : X)) (fun s => (s.1 : Int) <= n * n /\ CanP n (a' :: s') s.2 /\ s.2.length <= 16 * (kd - 1) + s.1 /\ C0.length <= s.2.length) (fun s => 16 - s.1) (0, C0) ?_ ?_ ?_
    ·refine X.le.mk ?_ ?_ (Nat.le_refl _) rfl rfl
     all_goals (repeat' first | exact T.le_e _ | exact T.le_refl _ | refine T.le_some ?_ rfl ?_ | refine T.le_none ?_ ?_ | refine T.le_ee ?_ ?_ | refine T.le_same ?_ ?_)
    ·exact ⟨(show (0 : Int) <= n * n by omega), hC0, hCl0, Nat.le_refl _⟩
    rintro ⟨k, C⟩ ⟨hkn, hC, hCl, hCm⟩
    have hkn : (k : Int) <= n * n := hkn
    have hC : CanP n (a' :: s') C := hC
    have hCl : C.length <= 16 * (kd - 1) + k := hCl
    have hCm : C0.length <= C.length := hCm
    conv => whnf
    refine Qg ?_
    refine WB.dec (fun h => ?_) (fun h => ?_) <;> conv => whnf
    ·have hkl : (k : Int) < n * n := h
     have c1 := Int.tmod_nonneg n (show (0 : Int) <= (k : Int) by omega)
     have c2 := Int.tmod_lt_of_pos (k : Int) (show (0 : Int) < n by omega)
     have t1 := Int.tdiv_nonneg (show (0 : Int) <= (k : Int) by omega) (show 0 <= n by omega)
     have t2 : (k : Int).tdiv n < n := by
      rw [Int.tdiv_eq_ediv_of_nonneg (by omega)]
      exact Int.ediv_lt_of_lt_mul (by omega) hkl
     have iP := pH ((a' :: s') ++ [⟨(kd : Int), (k : Int).tmod n, (k : Int).tdiv n⟩]) (by simp at hTl ⊢; omega)
     have hkk : (kd : Int) = 1 \/ (kd : Int) = 2 := by omega
     generalize hp : eG ((a' :: s') ++ [⟨(kd : Int), (k : Int).tmod n, (k : Int).tdiv n⟩]) = bb at *
     cases C with
     | nil =>
       refine Qg ?_
       refine WSt.app_slEL (id := (.o (.o (.o .h)))) (idy := (.o (.i .h))) (ds := (aD aM (a' :: s')).flatten) (by rfl) (by rfl) (by rfl) (by rfl) (by rw [dL (z := 3) nS]; rfl) (by omega) (by simp at hTl; omega) ?_; conv => whnf
       refine Qg ?_
       refine WSt.app_oneL (id := (.o (.o (.o .h)))) (ds := (aD aM (a' :: s')).flatten) (r := aM ⟨(kd : Int), (k : Int).tmod n, (k : Int).tdiv n⟩) (len := (s'.length + 1)) (st := 1) (by rfl) (by rfl) (by rfl) (by rfl) (by rfl) (by rfl) (by rw [dL (z := 3) nS]; rfl) (by rfl) (by rfl) (by simp at hTl; omega) (by rfl) ?_; conv => whnf
       refine Qg ?_
       refine WCall.borrow1 iP (.o (.o (.o .h))) (.cells false (((aD aM (a' :: s')).flatten.map fun d => Cell.o d 1) ++ (aM ⟨(kd : Int), (k : Int).tmod n, (k : Int).tdiv n⟩).map fun d => Cell.o d 2) 3) (.cons (Fz.grown (ds := (aD aM (a' :: s')).flatten) (r := aM ⟨(kd : Int), (k : Int).tmod n, (k : Int).tdiv n⟩) (s1 := 1) (s2 := 2) (fun h => h) (T.get_set_same _ _ _) rfl (by omega) (gD (a' :: s') _) (by rw [aC]; simp) (dN _) (aB _)) .nil) trivial rfl rfl ?_; conv => whnf
       refine Qg ?_
       refine WB.mk (fun hb => ?_) (fun hb => ?_) <;> conv => whnf
       ·subst hb
        refine Qg ?_
        refine WSt.app_first (r := aM ⟨(kd : Int), (k : Int).tmod n, (k : Int).tdiv n⟩) (by rfl) (.inl rfl) (by rfl) (by rfl) (by rfl) (by rfl) ?_; conv => whnf
        refine Qg ?_
        refine Again.to (k + 1, [⟨(kd : Int), (k : Int).tmod n, (k : Int).tdiv n⟩]) (show 16 - (k + 1) < 16 - k by omega) ⟨(show ((k + 1 : Nat) : Int) <= n * n by omega), (show CanP n (a' :: s') [⟨(kd : Int), (k : Int).tmod n, (k : Int).tdiv n⟩] from CanP.nil.snoc hkk ⟨c1, c2⟩ ⟨t1, t2⟩ hp), (show 1 <= 16 * (kd - 1) + (k + 1) by omega), (Nat.le_trans hCm (Nat.zero_le _))⟩ (show 7 <= 12 by omega) ?_
        refine Shr.of ?_ ?_ rfl rfl
        ·(repeat' first | exact Rel.e | refine Rel.some ?_ ?_ ?_ | refine Rel.none ?_ ?_ | refine Rel.ee ?_ ?_)
         all_goals show Fz _ _ _ _
         all_goals first | exact Fy | exact .pu (cX _) | exact .pu (aB _) | exact gV (Ql rfl) _ (Ql rfl)
        ·(repeat' first | exact Rel.e | refine Rel.some ?_ ?_ ?_ | refine Rel.none ?_ ?_ | refine Rel.ee ?_ ?_)
         all_goals first
          | exact Ro aZ
          | exact Ro bF
          | exact Ro (aW (.pu (aB _)) (.pu trivial))
          | exact Ro (ShC.G eD a' s')
          | (refine Ro (ShC.same fun c hc => ?_); obtain ⟨d, hd, rfl⟩ := List.mem_map.1 hc; exact .pu (aG.1 (eD _) d hd))
       ·refine Qg ?_
        refine Again.to (k + 1, []) (show 16 - (k + 1) < 16 - k by omega) ⟨(show ((k + 1 : Nat) : Int) <= n * n by omega), hC, (Nat.zero_le _), hCm⟩ (show 7 <= 7 by omega) ?_
        refine Shr.of ?_ ?_ rfl rfl
        ·(repeat' first | exact Rel.e | refine Rel.some ?_ ?_ ?_ | refine Rel.none ?_ ?_ | refine Rel.ee ?_ ?_)
         all_goals show Fz _ _ _ _
         all_goals first | exact Fy | exact .pu (cX _) | exact .pu (aB _) | exact gV (Ql rfl) _ (Ql rfl)
        ·(repeat' first | exact Rel.e | refine Rel.some ?_ ?_ ?_ | refine Rel.none ?_ ?_ | refine Rel.ee ?_ ?_)
         all_goals first
          | exact Ro aZ
          | exact Ro bF
          | exact Ro (aW (.pu (aB _)) (.pu trivial))
          | exact Ro (ShC.G eD a' s')
     | cons a s =>
       refine Qg ?_
       refine WSt.app_slEL (id := (.i (.o (.i .h)))) (idy := (.o (.i .h))) (ds := (aD aM (a' :: s')).flatten) (by rfl) (by rfl) (by rfl) (by rfl) (by rw [dL (z := 3) nS]; rfl) (by omega) (by simp at hTl; omega) ?_; conv => whnf
       refine Qg ?_
       refine WSt.app_oneL (id := (.i (.o (.i .h)))) (ds := (aD aM (a' :: s')).flatten) (r := aM ⟨(kd : Int), (k : Int).tmod n, (k : Int).tdiv n⟩) (len := (s'.length + 1)) (st := 1) (by rfl) (by rfl) (by rfl) (by rfl) (by rfl) (by rfl) (by rw [dL (z := 3) nS]; rfl) (by rfl) (by rfl) (by simp at hTl; omega) (by rfl) ?_; conv => whnf
       refine Qg ?_
       refine WCall.borrow1 iP (.i (.o (.i .h))) (.cells false (((aD aM (a' :: s')).flatten.map fun d => Cell.o d 1) ++ (aM ⟨(kd : Int), (k : Int).tmod n, (k : Int).tdiv n⟩).map fun d => Cell.o d 2) 3) (.cons (Fz.grown (ds := (aD aM (a' :: s')).flatten) (r := aM ⟨(kd : Int), (k : Int).tmod n, (k : Int).tdiv n⟩) (s1 := 1) (s2 := 2) (fun h => h) (T.get_set_same _ _ _) rfl (by omega) (gD (a' :: s') _) (by rw [aC]; simp) (dN _) (aB _)) .nil) trivial rfl rfl ?_; conv => whnf
       refine Qg ?_
       refine WB.mk (fun hb => ?_) (fun hb => ?_) <;> conv => whnf
       ·subst hb
        refine Qg ?_
        refine WSt.app_one (id := (.i (.i (.o .h)))) (ds := (aD aM (a :: s)).flatten) (r := aM ⟨(kd : Int), (k : Int).tmod n, (k : Int).tdiv n⟩) (by rfl) (by rfl) (by rfl) (by rfl) (by rfl) (by rfl) (by rw [dL (z := 3) nS]; rfl) (by rfl) (by rfl) (by simp at hCl; omega) (by rfl) ?_; conv => whnf
        refine Qg ?_
        refine Again.to (k + 1, (a :: (s ++ [⟨(kd : Int), (k : Int).tmod n, (k : Int).tdiv n⟩]))) (show 16 - (k + 1) < 16 - k by omega) ⟨(show ((k + 1 : Nat) : Int) <= n * n by omega), (show CanP n (a' :: s') (a :: (s ++ [⟨(kd : Int), (k : Int).tmod n, (k : Int).tdiv n⟩])) from hC.snoc hkk ⟨c1, c2⟩ ⟨t1, t2⟩ hp), (by have h := hCl; rw [List.length_cons] at h; show (s ++ [_]).length + 1 <= _; rw [List.length_append, List.length_singleton]; omega), (by have h := hCm; rw [List.length_cons] at h; show _ <= (s ++ [_]).length + 1; rw [List.length_append, List.length_singleton]; omega)⟩ (show 12 <= 12 by omega) ?_
        refine Shr.of ?_ ?_ rfl rfl
        ·show Rel _ _ ((.n (.n (.n (.n .e (some (.sl (.o (.i .h)) 0 (s'.length + 1) s'.length 3)) .e) none (.n .e (some (.i .i64 (kd : Int))) .e)) (some (.lst 1 (aD pK ws))) (.n (.n .e (some (.i .i64 w)) .e) none .e)) none (.n (.n (.n .e (some (.i .i64 i)) .e) (some (.pt (.o .h) 0 0)) (.n .e (some (.i .i64 ((k + 1 : Nat) : Int))) .e)) (some (.pt .h 0 0)) (.n (.n .e (some ((Ao (.i (.i (.o .h))) 3 (a :: (s ++ [⟨(kd : Int), (k : Int).tmod n, (k : Int).tdiv n⟩]))))) .e) (some (.pt (.i .h) 0 0)) .e))) : Ev.T D) _
         rw [lW]
         (repeat' first | exact Rel.e | refine Rel.some ?_ ?_ ?_ | refine Rel.none ?_ ?_ | refine Rel.ee ?_ ?_)
         all_goals show Fz _ _ _ _
         all_goals first | exact Fy | exact .pu (cX _) | exact .pu (aB _) | exact gV (Ql rfl) _ (Ql rfl)
        ·show Rel _ _ ((.n (.n .e (some (lL)) (.n .e (some ((Ev.C.cells false ((aD aM (a' :: s')).flatten.map fun d => Cell.o d s'.length) (s'.length + 1)))) .e)) (some (jU n coin box ls cs)) (.n .e (some (jR n coin box (.lst 3 (aD aM L)) .ns)) (.n (.n .e (BW aM (a :: (s ++ [⟨(kd : Int), (k : Int).tmod n, (k : Int).tdiv n⟩]))) .e) none .e))) : Ev.T Ev.C) _
         rw [mB]
         (repeat' first | exact Rel.e | refine Rel.some ?_ ?_ ?_ | refine Rel.none ?_ ?_ | refine Rel.ee ?_ ?_)
         all_goals first
          | exact Ro aZ
          | exact Ro bF
          | exact Ro (aW (.pu (aB _)) (.pu trivial))
          | exact Ro (ShC.G eD a' s')
          | (refine Ro (ShC.grown (by omega) (aG.2 fun d hd => ?_)); rcases List.mem_append.1 hd with hd | hd <;> first | exact aG.1 (gP eD _) d hd | exact aG.1 (eD _) d hd)
       ·refine Qg ?_
        refine Again.to (k + 1, (a :: s)) (show 16 - (k + 1) < 16 - k by omega) ⟨(show ((k + 1 : Nat) : Int) <= n * n by omega), hC, (by have h := hCl; rw [List.length_cons] at h; show s.length + 1 <= _; omega), hCm⟩ (show 12 <= 12 by omega) ?_
        refine Shr.of ?_ ?_ rfl rfl
        ·(repeat' first | exact Rel.e | refine Rel.some ?_ ?_ ?_ | refine Rel.none ?_ ?_ | refine Rel.ee ?_ ?_)
         all_goals show Fz _ _ _ _
         all_goals first | exact Fy | exact .pu (cX _) | exact .pu (aB _) | exact gV (Ql rfl) _ (Ql rfl)
        ·(repeat' first | exact Rel.e | refine Rel.some ?_ ?_ ?_ | refine Rel.none ?_ ?_ | refine Rel.ee ?_ ?_)
         all_goals first
          | exact Ro aZ
          | exact Ro bF
          | exact Ro (aW (.pu (aB _)) (.pu trivial))
          | exact Ro (ShC.G eD a' s')
          | exact Ro (ShC.G eD a s)
    ·have hk16 : k <= 16 := by omega
     cases C with
     | nil =>
       refine Qg ?_
       refine Again.to (kd + 1, []) (show 3 - (kd + 1) < 3 - kd by omega) ⟨(show 1 <= kd + 1 by omega), (show kd + 1 <= 3 by omega), hC, (by show ([] : List Ln).length <= 16 * (kd + 1 - 1); have h := hCl; omega)⟩ (by simp only []; exact pI (by decide) hCm) ?_
       refine Shr.of ?_ ?_ rfl rfl
       ·(repeat' first | exact Rel.e | refine Rel.some ?_ ?_ ?_ | refine Rel.none ?_ ?_ | refine Rel.ee ?_ ?_)
        all_goals show Fz _ _ _ _
        all_goals first | exact Fy | exact .pu (cX _) | exact .pu (aB _) | exact gV (Ql rfl) _ (Ql rfl)
       ·(repeat' first | exact Rel.e | refine Rel.some ?_ ?_ ?_ | refine Rel.none ?_ ?_ | refine Rel.ee ?_ ?_)
        all_goals first
         | exact Ro aZ
         | exact Ro bF
         | exact Ro (aW (.pu (aB _)) (.pu trivial))
         | exact Ro (ShC.G eD a' s')
     | cons a s =>
       refine Qg ?_
       refine Again.to (kd + 1, (a :: s)) (show 3 - (kd + 1) < 3 - kd by omega) ⟨(show 1 <= kd + 1 by omega), (show kd + 1 <= 3 by omega), hC, (by show (a :: s).length <= 16 * (kd + 1 - 1); have h := hCl; omega)⟩ (by simp only []; exact pI (by decide) hCm) ?_
       refine Shr.of ?_ ?_ rfl rfl
       ·(repeat' first | exact Rel.e | refine Rel.some ?_ ?_ ?_ | refine Rel.none ?_ ?_ | refine Rel.ee ?_ ?_)
        all_goals show Fz _ _ _ _
        all_goals first | exact Fy | exact .pu (cX _) | exact .pu (aB _) | exact gV (Ql rfl) _ (Ql rfl)
       ·(repeat' first | exact Rel.e | refine Rel.some ?_ ?_ ?_ | refine Rel.none ?_ ?_ | refine Rel.ee ?_ ?_)
        all_goals first
         | exact Ro aZ
         | exact Ro bF
         | exact Ro (aW (.pu (aB _)) (.pu trivial))
         | exact Ro (ShC.G eD a' s')
         | exact Ro (ShC.G eD a s)
   ·refine Qg ?_
    refine ⟨rfl, rfl, (show 7 <= (BT (.i (.i .h)) (.o (.o (.i .h))) C0).nat by cases C0 <;> simp [BT, Pos.nat]), RnF.turn (z' := RU n coin box ls cs ws L (a' :: s') i w C0) (B := fun id => id.nat < 7) ?_ (fun id h => h) (fun id h => h) (Nat.le_refl _) (hrest C0 hC0 (by omega))⟩
    refine ShrB.of ?_ ?_ rfl rfl
    ·(repeat' first | exact Rel.e | refine Rel.some ?_ ?_ ?_ | refine Rel.none ?_ ?_ | refine Rel.ee ?_ ?_)
     all_goals show Fz _ _ _ _
     all_goals first | exact Fy | exact .pu (cX _) | exact Fz.G C0 (show ¬ (11 : Nat) < 7 by omega) (fun c h => h) nS eD
    ·(repeat' first | exact Rel.e | refine Rel.some ?_ ?_ ?_ | refine Rel.none ?_ ?_ | refine Rel.ee ?_ ?_)
     all_goals first
      | exact ⟨show _ < 7 by simp [Pos.nat], aZ⟩
      | exact ⟨show _ < 7 by simp [Pos.nat], bF⟩
      | exact ⟨show _ < 7 by simp [Pos.nat], aW (.pu (aB _)) (.pu trivial)⟩
      | exact ⟨show _ < 7 by simp [Pos.nat], ShC.G eD _ _⟩
end Go.Ev
end
