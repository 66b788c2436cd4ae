import Derived.Test.YtkbgaadfednjpaaGreatDoorEvU4b
import Derived.Test.YtkbgaadfednjpaaGreatDoorEvUS4T
set_option linter.all false
set_option maxHeartbeats 8000000
noncomputable section
namespace Go.Ev
open Go.Proofs
set_option maxRecDepth 1000000
def QO : RC := (.seq (.reg [(.u (.box p5 (.t p1))), (.u (.box p7 (.t p3))), (.u (.mv p9 (.k (.b false))))]) (.seq (.seq (.reg [(eG cG p5 9), (.u (.cf (some cY) p20 [(.t cG)])), (.u (.un dH .not (.t cY))), (Mv p20 dH), (.g p20 false (some p21) (.mv p21 (.t p2))), (.g p20 false (some p22) (.cf (some p22) p21 [(.t p21)])), (.g p20 false (some dU) (.un dU .not (.t p22))), (.u (.pick p24 (.t p20) (.k (.b true)) (.t dU)))]) (.cond (.t p24) (.seq (.reg [(.u (.cf (some p25) p22 [])), (Mv p9 p25)]) .ret) .skip)) (.seq (.drw [(eG eS p5 9), (.u (.cf (some p28) p24 [(.t eS)])), (Mv p29 p2), (.u (.cf (some p30) p25 [(.t p29)])), (eG p31 p7 2), (.u (.cf (some p32) p42 [(.t p31)])), (Mv iT p4), (.u (.cf (some p34) p41 [(.t p28), (.t p30), (.t p32), (.t iT)])), (Mv p26 p34), (.u (.ext iL (.t p26) 0)), (.u (.ext mB (.t p26) 1)), (Mv bA iL), (Mv bL mB)] [0, 1, 0, 7, 0, 31, 0, 127, 255, 511, 511, 1023, 4095]) (.seq (.reg [(eG oP p5 9), (.u (.cf (some oR) p24 [(.t oP)])), (Mv p40 p2), (.u (.cf (some p41) p25 [(.t p40)])), (.u (.cf (some p42) p43 [(.t oR), (.t p41)])), (Mv p37 p42), (.u (.ext p43 (.t p37) 0)), (.u (.ext p44 (.t p37) 1)), (.u (.new bJ [(.i .i64 0), (.i .i64 0)])), (.u (.st (.t bJ) (.t p43) 2)), (Mv bH p44)]) (.seq (.reg [(eG p46 p5 9), (.u (.cf (some p47) p37 [(.t p46)])), (Mv p45 p47), (.u (.ext wT (.t p45) 0)), (.u (.ext p49 (.t p45) 1)), (Mv bO wT), (Mv bP p49)]) (.seq (.reg [(Mv wV bP), (Mv bV wV)]) (.seq (.seq (.reg [(eG zJ p5 9), (.u (.cf (some mH) p28 [(.t zJ)])), (dI wR .eql mH 0), (Mv tA wR), (.g tA true (some uT) (.ldn uT (.t p5) 9)), (.g tA true (some vF) (.mv vF (.t p2))), (.g tA true (some wF) (.cf (some wF) p31 [(.t uT), (.t vF)])), (.g tA true (some vS) (.un vS .not (.t wF))), (.u (.pick yX (.t tA) (.t vS) (.k (.b false))))]) (.cond (.t yX) (.reg [(.u (.mv bV (.k (.i .i64 2)))), (.u (.mv bP (.k (.i .i64 2))))]) .skip)) (.seq (.seq (.reg [(eG rD p5 9), (.u (.cf (some wQ) p28 [(.t rD)])), (dI xX .eql wQ 0), (Mv pI xX), (.g pI true (some xM) (.ldn xM (.t p5) 9)), (.g pI true (some p65) (.ldn p65 (.t p7) 2)), (.g pI true (some p66) (.cf (some p66) p44 [(.t xM), (.t p65)])), (.g pI true (some xG) (.un xG .not (.t p66))), (.g pI true (some p68) (.mv p68 (.t xG))), (.g p68 false (some qG) (.mv qG (.t p4))), (.g p68 false (some p70) (.fad p70 (.t p5) 0)), (.g p68 false (some Ag) (.ld1 Ag (.t p70))), (.g p68 false (some zQ) (.cf (some zQ) p45 [(.t qG), (.k (.i .i64 0)), (.t Ag)])), (.g p68 false (some Al) (.un Al .not (.t zQ))), (.g pI true (some zK) (.pick zK (.t p68) (.k (.b true)) (.t Al))), (.u (.pick Aq (.t pI) (.t zK) (.k (.b false))))]) (.cond (.t Aq) (.reg [(.u (.mv bV (.k (.i .i64 2))))]) .skip)) (.seq (.seq (.reg [(Mv CZ bL), (Mv zG bV), (eA p78 .neq CZ zG), (Mv zT p78), (.g zT false (some CV) (.mv CV (.t bH))), (.g zT false (some Df) (.mv Df (.t bP))), (.g zT false (some p82) (.bin p82 .neq (.t CV) (.t Df))), (.u (.pick El (.t zT) (.k (.b true)) (.t p82))), (Mv p84 El), (.g p84 false (some Gk) (.mv Gk (.t bV))), (.g p84 false (some Gl) (.bin Gl .neq (.t Gk) (.k (.i .i64 0)))), (.g p84 false (some Dh) (.mv Dh (.t Gl))), (.g Dh true (some p88) (.mv p88 (.t bA))), (.g Dh true (some p89) (.bin p89 .neq (.t p88) (.k (.i .i64 0)))), (.g p84 false (some p90) (.pick p90 (.t Dh) (.t p89) (.k (.b false)))), (.u (.pick Ns (.t p84) (.k (.b true)) (.t p90))), (Mv p92 Ns), (.g p92 false (some Kc) (.mv Kc (.t bP))), (.g p92 false (some Ln) (.bin Ln .neq (.t Kc) (.k (.i .i64 0)))), (.g p92 false (some Hn) (.mv Hn (.t Ln))), (.g Hn true (some JH) (.ldn JH (.t bJ) 2)), (.g Hn true (some p97) (.bld p97 [(.i .i64 0), (.i .i64 0)] [])), (.g Hn true (some p98) (.eqr p98 true [(.i .i64), (.i .i64)] (.t JH) (.t p97))), (.g p92 false (some p99) (.pick p99 (.t Hn) (.t p98) (.k (.b false)))), (.u (.pick p100 (.t p92) (.k (.b true)) (.t p99)))]) (.cond (.t p100) (.seq (.reg [(.u (.mv p9 (.k (.b false))))]) .ret) .skip)) (.seq (.drw [(Mv p101 bV), (dI p102 .neq p101 0), (Mv p103 p102), (.g p103 false (some p104) (.mv p104 (.t bA))), (.g p103 false (some p105) (.ldn p105 (.t p5) 9)), (.g p103 false (some CL) (.mv CL (.t bO))), (.g p103 false (some p107) (.mv p107 (.t p2))), (.g p103 false (some De) (.ldn De (.t p7) 2)), (.g p103 false (some Cy) (.mv Cy (.t p4))), (.g p103 false (some Cu) (.cf (some Cu) p46 [(.t p105), (.t CL), (.t p107), (.t De), (.t Cy)])), (.g p103 false (some p111) (.bin p111 .eql (.t p104) (.t Cu))), (.u (.pick GY (.t p103) (.k (.b true)) (.t p111))), (Mv yU GY), (.g yU true (some Fc) (.mv Fc (.t bP))), (.g yU true (some Eh) (.bin Eh .neq (.t Fc) (.k (.i .i64 0)))), (.g yU true (some p116) (.mv p116 (.t Eh))), (.g p116 false (some p117) (.ldn p117 (.t bJ) 2)), (.g p116 false (some p118) (.ldn p118 (.t p5) 9)), (.g p116 false (some p119) (.mv p119 (.t bO))), (.g p116 false (some Er) (.mv Er (.t p2))), (.g p116 false (some Dp) (.cf (some Dp) p47 [(.t p118), (.t p119), (.t Er)])), (.g p116 false (some p122) (.cf (some p122) p40 [(.t Dp)])), (.g p116 false (some p123) (.eqr p123 false [(.i .i64), (.i .i64)] (.t p117) (.t p122))), (.g yU true (some p124) (.pick p124 (.t p116) (.k (.b true)) (.t p123))), (.u (.pick p125 (.t yU) (.t p124) (.k (.b false)))), (Mv p126 p125), (.g p126 true (some p127) (.cf (some p127) p22 [])), (.u (.pick p128 (.t p126) (.t p127) (.k (.b false)))), (Mv p9 p128)] [0, 1, 3, 7, 7, 7, 7, 7, 7, 503, 1023, 2047, 4095, 8191, 16383, 32767, 65535, 65535, 65535, 65535, 983039, 2031615, 4194303, 8388607, 16777215, 33554431, 67108863, 134217727, 268435455]) .ret))))))))))
def QY : List RR := [(.t p9)]
theorem QI : FnOk Tryz.prog p6.ix 128 QO QY := ⟨Tryz.f5, aO Tryz.f5, Tryz.func5, by kernel_rfl, by kernel_rfl, by kernel_rfl, by kernel_rfl, by kernel_rfl⟩
set_option maxRecDepth 100000
theorem At {sl : T D} {ob : T C} {nx : Pos} {K : X → Prop} {lg : Option (T Bool)} {d : Pos} {x y : RX} (a c : Int) (h1 : bT sl x = some (.ag (wS a c))) (h2 : bT sl y = some (.ag (wS a c))) (w1 : tC .i64 a = true) (w2 : tC .i64 c = true) (k : fK sl ob nx lg d K (.b true)) : WSt (.eqr d false [.i .i64, .i .i64] x y) ⟨sl, ob, nx, lg⟩ K :=
  WSt.eqrN (neg := false) (r := true) [a, c] [a, c] h1 h2 rfl rfl (by simp [w1, w2]) (by simp [w1, w2]) (by simp) k
theorem CX (b : Bh) (V : VW b) (p : Int × Int) : PureF Tryz.prog p44.ix [.ag (dW b), .ag (aV p)] (.b (cJ b p)) := by
  have q1 := V.rws
  have q2 := V.pls
  exact xS b p (by omega) (by omega)
theorem FitP.spot {ps : List (Bool × List CK)} {ds : List D} (h : FitP ((true, [.i .i64, .i .i64]) :: ps) ds) : ∃ (p : Int × Int) (ds' : List D), ds = .ag (aV p) :: ds' ∧ (i64 p.1 ∧ i64 p.2) ∧ FitP ps ds' := by
  unfold FitP at h
  obtain ⟨es, ds', rfl, h1, h2⟩ := h
  simp only [FitL, gH] at h1
  obtain ⟨d, ds, rfl, ⟨n1, rfl, w1⟩, d2, ds2, rfl, ⟨n2, rfl, w2⟩, rfl⟩ := h1
  exact ⟨(n1, n2), ds', rfl, ⟨sS w1, sS w2⟩, h2⟩
theorem tV {n : Int} (h : 0 ≤ n ∧ n ≤ 1099511627776) : tC .i64 n = true := gD (by omega)
theorem EJ {b : Bh} (V : VW b) (L : List (List Int)) (hT : bC b ≠ []) : (0 ≤ zM (eL b L) (bC b) (bC b).length ∧ zM (eL b L) (bC b) (bC b).length ≤ 1099511627776) ∧ (0 ≤ zI (eL b L) (bC b) (bC b).length ∧ zI (eL b L) (bC b) (bC b).length ≤ 1099511627776) := by
  have hne : (bC b).map (eL b L) ≠ [] := fun k => hT (List.map_eq_nil_iff.1 k)
  have g : ∀ x ∈ (bC b).map (eL b L), 0 ≤ x ∧ x ≤ 1099511627776 := fun x hx => by
    obtain ⟨t, ht, rfl⟩ := List.mem_map.1 hx
    exact vV V L ((cZ V).1 ht)
  have h1 := Cd (c := 1099511627776) hne (fun x hx => (g x hx).2)
  have h2 := Cn (c := -1) hne (fun x hx => by have := (g x hx).1; omega)
  unfold zM zI
  rw [List.take_length]
  exact ⟨g _ h1.1, g _ h2.1⟩
set_option maxHeartbeats 16000000 in
theorem yI (b : Bh) (hb : i64 b.last ∧ i64 b.rws ∧ i64 b.pls) (L : List (List Int)) (p : Int × Int) (h : Int) (AW : PureF Tryz.prog p22.ix [] (.b true)) : PureF Tryz.prog p6.ix [.ag (dW b), .lst 1 (aC bY L), .ag (aV p), .i .i64 h] (.b true) := by
  have e1 := aH bY L
  have cTh := IS b
  have cBr := BL L
  refine PureF.run QI (by simp) (by simp [aR, dL, Pu, aQ, aE, aV]) ?_; conv => whnf
  cases hTh : rI b with
  | false =>
    rw [hTh] at cTh
    repeat' first | ((first | refine Qz ?_ | refine Qf (cTh) ?_ | refine Qf (AW) ?_ | with_reducible (first | refine Qm ?_ | refine Qn ?_ | refine Qo ?_ | refine Qp ?_ | refine WB.nt ?_ | refine WB.nf ?_ | refine WB.dec (fun h => ?_) (fun h => ?_) | refine WB.ndec (fun h => ?_) (fun h => ?_)) | refine WB.mk (fun h => ?_) (fun h => ?_)) <;> conv => whnf) | (refine WB.tt ?_; conv => whnf) | (refine WB.ff ?_; conv => whnf)
    exact Fin.b rfl rfl
  | true =>
  rw [hTh] at cTh
  cases hBr : vK L with
  | false =>
    rw [hBr] at cBr
    repeat' first | ((first | refine Qz ?_ | refine Qf (cTh) ?_ | refine Qf (cBr) ?_ | refine Qf (AW) ?_ | with_reducible (first | refine Qm ?_ | refine Qn ?_ | refine Qo ?_ | refine Qp ?_ | refine WB.nt ?_ | refine WB.nf ?_ | refine WB.dec (fun h => ?_) (fun h => ?_) | refine WB.ndec (fun h => ?_) (fun h => ?_)) | refine WB.mk (fun h => ?_) (fun h => ?_)) <;> conv => whnf) | (refine WB.tt ?_; conv => whnf) | (refine WB.ff ?_; conv => whnf)
    exact Fin.b rfl rfl
  | true =>
  rw [hBr] at cBr
  have N := HJ hTh
  have F := N.f
  obtain ⟨b1, b2⟩ := qX hBr
  have b3 : ∀ w ∈ L, w.length ≤ 1000 := fun w hw => Nat.le_trans (b2 w hw) (by decide)
  have cB := GS b F.l1 F.l2 F.l3 F.l4 F.l5 F.l6
  have cL := Bt L (by omega) (fun w hw => Nat.le_trans (b2 w hw) (by decide))
  have cF := qY b F.l1 F.l2 F.l3 F.l6
  have cSp := DB p
  by_cases hf : aZ b = 0
  rotate_left
  · have cX := sF b L F.l1 F.l2 F.l3 F.l6 (by omega) b3 hb.1 (by rw [Dr hf]; exact hf)
    have cC := oD b L p h F.l1 F.l2 F.l3 F.l6 (by omega) b3 hb (by rw [Dr hf]; exact hf)
    have cS := He b N hf
    rw [Dr hf] at cX cC
    repeat' first | ((first | refine Qz ?_ | refine Qf (cTh) ?_ | refine Qf (cBr) ?_ | refine Qf (cB) ?_ | refine Qf (cL) ?_ | refine Qf (cF) ?_ | refine Qf (cSp) ?_ | refine Qf (cX) ?_ | refine Qf (cC) ?_ | refine Qf (cS) ?_ | refine Qf (AW) ?_ | refine WSt.eqrN (neg := true) (r := false) [0, 0] [0, 0] rfl rfl rfl rfl (by decide) (by decide) (by simp) ?_ | with_reducible (first | refine Qm ?_ | refine Qn ?_ | refine Qo ?_ | refine Qp ?_ | refine WB.nt ?_ | refine WB.nf ?_ | refine WB.dec (fun h => ?_) (fun h => ?_) | refine WB.ndec (fun h => ?_) (fun h => ?_)) | refine WB.mk (fun h => ?_) (fun h => ?_)) <;> conv => whnf) | (refine WB.tt ?_; conv => whnf) | (refine WB.ff ?_; conv => whnf)
    all_goals first | exact Fin.b rfl rfl | exact absurd h (by decide)
  have Z := fW hf
  have V := Z.v
  have hv := V.last
  have q1 := V.rws
  have q2 := V.pls
  have cI := ET b L (by omega) (by omega) b3
  have cQ := CX b V p
  have cN := AG h 0 b.last
  rw [hf] at cF
  cases hp : gS b L with
  | false =>
    have et : Bp b L p h = false := by unfold Bp; rw [hp]; rfl
    have cX := sF b L F.l1 F.l2 F.l3 F.l6 (by omega) b3 hb.1 (by rw [hp, lZ hf]; decide)
    have cC := oD b L p h F.l1 F.l2 F.l3 F.l6 (by omega) b3 hb (by rw [et, lZ hf]; decide)
    rw [hp, lZ hf] at cX
    rw [et, lZ hf] at cC
    rw [hp] at cI
    have cS : ∃ l n, PureF Tryz.prog p37.ix [.ag (dW b)] (.tp [.lst 1 l, .i .i64 n]) := by
      by_cases hT : bC b = []
      · exact ⟨_, _, BB b N hf hT⟩
      · exact ⟨_, _, AU b N hf hT⟩
    obtain ⟨l0, n0, cS⟩ := cS
    cases k1 : cJ b p <;> cases k2 : gQ h 0 b.last
    all_goals
      rw [k1] at cQ
      rw [k2] at cN
      repeat' first | ((first | refine Qz ?_ | refine Qf (cTh) ?_ | refine Qf (cBr) ?_ | refine Qf (cB) ?_ | refine Qf (cL) ?_ | refine Qf (cF) ?_ | refine Qf (cSp) ?_ | refine Qf (cX) ?_ | refine Qf (cC) ?_ | refine Qf (cS) ?_ | refine Qf (cI) ?_ | refine Qf (cQ) ?_ | refine Qf (cN) ?_ | refine Qf (AW) ?_ | refine WSt.eqrN (neg := true) (r := false) [0, 0] [0, 0] rfl rfl rfl rfl (by decide) (by decide) (by simp) ?_ | with_reducible (first | refine Qm ?_ | refine Qn ?_ | refine Qo ?_ | refine Qp ?_ | refine WB.nt ?_ | refine WB.nf ?_ | refine WB.dec (fun h => ?_) (fun h => ?_) | refine WB.ndec (fun h => ?_) (fun h => ?_)) | refine WB.mk (fun h => ?_) (fun h => ?_)) <;> conv => whnf) | (refine WB.tt ?_; conv => whnf) | (refine WB.ff ?_; conv => whnf)
      all_goals first | exact Fin.b rfl rfl | exact absurd h (by decide)
  | true =>
  rw [hp] at cI
  by_cases hT : bC b = []
  · have hh : gN b = false := by
      cases hh : gN b with
      | false => rfl
      | true => exact absurd hT ((kT V).2 hh)
    have cX := sF b L F.l1 F.l2 F.l3 F.l6 (by omega) b3 hb.1 (by rw [hp, hh, BF hf]; decide)
    rw [hp, hh, BF hf] at cX
    have cS := BB b N hf hT
    cases k1 : cJ b p <;> cases k2 : gQ h 0 b.last
    all_goals
      have et : Bp b L p h = (cJ b p && gQ h 0 b.last) := by unfold Bp; rw [hp, Bd V]; rfl
      rw [k1, k2] at et
      have cC := oD b L p h F.l1 F.l2 F.l3 F.l6 (by omega) b3 hb (by rw [et, hh]; first | (rw [show (true && true) = true from rfl, BF hf]; decide) | (rw [show (_ && _) = false from rfl, lZ hf]; decide))
      rw [et, hh] at cC
      first | rw [show (true && true) = true from rfl, BF hf] at cC | rw [show (_ && _) = false from rfl, lZ hf] at cC
      rw [k1] at cQ
      rw [k2] at cN
      repeat' first | ((first | refine Qz ?_ | refine Qf (cTh) ?_ | refine Qf (cBr) ?_ | refine Qf (cB) ?_ | refine Qf (cL) ?_ | refine Qf (cF) ?_ | refine Qf (cSp) ?_ | refine Qf (cX) ?_ | refine Qf (cC) ?_ | refine Qf (cS) ?_ | refine Qf (cI) ?_ | refine Qf (cQ) ?_ | refine Qf (cN) ?_ | refine Qf (AW) ?_ | refine WSt.eqrN (neg := true) (r := false) [0, 0] [0, 0] rfl rfl rfl rfl (by decide) (by decide) (by simp) ?_ | with_reducible (first | refine Qm ?_ | refine Qn ?_ | refine Qo ?_ | refine Qp ?_ | refine WB.nt ?_ | refine WB.nf ?_ | refine WB.dec (fun h => ?_) (fun h => ?_) | refine WB.ndec (fun h => ?_) (fun h => ?_)) | refine WB.mk (fun h => ?_) (fun h => ?_)) <;> conv => whnf) | (refine WB.tt ?_; conv => whnf) | (refine WB.ff ?_; conv => whnf)
      all_goals first | exact Fin.b rfl rfl | exact absurd h (by decide)
  have hh := (kT V).1 hT
  have cX := EN b L F.l1 F.l2 F.l3 F.l6 (by omega) b3 hf hp hh
  rw [Hi V L hT] at cX
  have cS := AU b N hf hT
  have hmem : ∀ t ∈ bC b, TruP b t := fun t ht => (cZ V).1 ht
  have hTl : (bC b).length ≤ 1000 := by
    have h1 := xD b (jU b)
    have h2 := N.m hf
    have h3 : (jU b : Int) = hJ b.winds b.winds.length := by unfold jU; omega
    have h4 : (bC b).length ≤ jU b := h1
    omega
  have cT := FJ b V L hp (bC b) hmem hTl F.l4
  have cO := NL (zM (eL b L) (bC b) (bC b).length) (zI (eL b L) (bC b) (bC b).length)
  obtain ⟨g1, g2⟩ := EJ V L hT
  generalize zM (eL b L) (bC b) (bC b).length = a1 at *
  generalize zI (eL b L) (bC b) (bC b).length = a2 at *
  cases k1 : cJ b p with
  | false =>
    have et : Bp b L p h = false := by unfold Bp; rw [hp, Bd V, k1]; rfl
    have cC := oD b L p h F.l1 F.l2 F.l3 F.l6 (by omega) b3 hb (by rw [et, lZ hf]; decide)
    rw [et, lZ hf] at cC
    rw [k1] at cQ
    repeat' first | ((first | refine Qz ?_ | refine Qf (cTh) ?_ | refine Qf (cBr) ?_ | refine Qf (cB) ?_ | refine Qf (cL) ?_ | refine Qf (cF) ?_ | refine Qf (cSp) ?_ | refine Qf (cX) ?_ | refine Qf (cC) ?_ | refine Qf (cS) ?_ | refine Qf (cI) ?_ | refine Qf (cQ) ?_ | refine Qf (cT) ?_ | refine Qf (cO) ?_ | refine Qf (AW) ?_ | refine At a1 a2 rfl rfl (tV g1) (tV g2) ?_ | with_reducible (first | refine Qm ?_ | refine Qn ?_ | refine Qo ?_ | refine Qp ?_ | refine WB.nt ?_ | refine WB.nf ?_ | refine WB.dec (fun h => ?_) (fun h => ?_) | refine WB.ndec (fun h => ?_) (fun h => ?_)) | refine WB.mk (fun h => ?_) (fun h => ?_)) <;> conv => whnf) | (refine WB.tt ?_; conv => whnf) | (refine WB.ff ?_; conv => whnf)
    all_goals first | exact Fin.b rfl rfl | exact absurd h (by decide)
  | true =>
  rw [k1] at cQ
  cases k2 : gQ h 0 b.last with
  | false =>
    have et : Bp b L p h = false := by unfold Bp; rw [hp, Bd V, k1, k2]; rfl
    have cC := oD b L p h F.l1 F.l2 F.l3 F.l6 (by omega) b3 hb (by rw [et, lZ hf]; decide)
    rw [et, lZ hf] at cC
    rw [k2] at cN
    repeat' first | ((first | refine Qz ?_ | refine Qf (cTh) ?_ | refine Qf (cBr) ?_ | refine Qf (cB) ?_ | refine Qf (cL) ?_ | refine Qf (cF) ?_ | refine Qf (cSp) ?_ | refine Qf (cX) ?_ | refine Qf (cC) ?_ | refine Qf (cS) ?_ | refine Qf (cI) ?_ | refine Qf (cQ) ?_ | refine Qf (cN) ?_ | refine Qf (cT) ?_ | refine Qf (cO) ?_ | refine Qf (AW) ?_ | refine At a1 a2 rfl rfl (tV g1) (tV g2) ?_ | with_reducible (first | refine Qm ?_ | refine Qn ?_ | refine Qo ?_ | refine Qp ?_ | refine WB.nt ?_ | refine WB.nf ?_ | refine WB.dec (fun h => ?_) (fun h => ?_) | refine WB.ndec (fun h => ?_) (fun h => ?_)) | refine WB.mk (fun h => ?_) (fun h => ?_)) <;> conv => whnf) | (refine WB.tt ?_; conv => whnf) | (refine WB.ff ?_; conv => whnf)
    all_goals first | exact Fin.b rfl rfl | exact absurd h (by decide)
  | true =>
  rw [k2] at cN
  have k3 := aX k2
  obtain ⟨m, rfl⟩ : ∃ m : Nat, h = (m : Int) := ⟨h.toNat, by omega⟩
  have cC := Gx b L p m F.l1 F.l2 F.l3 F.l6 (by omega) b3 hf hp k1 k3.2 hh
  rw [CO V L p (show m < (b.last + 1).toNat by omega) hT] at cC
  have cK := Gt b V L hp (bC b) hmem hTl F.l4 p k1 m k3.2
  generalize Kx (rB b L p m) (bC b) = v at *
  repeat' first | ((first | refine Qz ?_ | refine Qf (cTh) ?_ | refine Qf (cBr) ?_ | refine Qf (cB) ?_ | refine Qf (cL) ?_ | refine Qf (cF) ?_ | refine Qf (cSp) ?_ | refine Qf (cX) ?_ | refine Qf (cC) ?_ | refine Qf (cS) ?_ | refine Qf (cI) ?_ | refine Qf (cQ) ?_ | refine Qf (cN) ?_ | refine Qf (cT) ?_ | refine Qf (cO) ?_ | refine Qf (cK) ?_ | refine Qf (AW) ?_ | refine At a1 a2 rfl rfl (tV g1) (tV g2) ?_ | with_reducible (first | refine Qm ?_ | refine Qn ?_ | refine Qo ?_ | refine Qp ?_ | refine WB.nt ?_ | refine WB.nf ?_ | refine WB.dec (fun h => ?_) (fun h => ?_) | refine WB.ndec (fun h => ?_) (fun h => ?_)) | refine WB.mk (fun h => ?_) (fun h => ?_)) <;> conv => whnf) | (refine WB.tt ?_; conv => whnf) | (refine WB.ff ?_; conv => whnf)
  all_goals first | exact Fin.b rfl rfl | exact absurd h (by decide)
theorem main_windCalms (AW : PureF Tryz.prog p22.ix [] (.b true)) {es : List D} (fit : FitP [(true, [.i .i64, .i .i64, .i .i64, .i .i64, .sl [.i .i64], .sl [.i .i64], .sl [.sl [.i .i64]], .sl [.i .i64, .i .i64], .sl [.i .i64, .i .i64]]), (false, [.sl [.sl [.i .i64]]]), (true, [.i .i64, .i .i64]), (false, [.i .i64])] es) : PureF Tryz.prog 5 es (.b true) := by
  obtain ⟨b, _, rfl, hb, g1⟩ := fit.beachW
  obtain ⟨L, _, rfl, g2⟩ := g1.wins
  obtain ⟨p, _, rfl, _, g3⟩ := g2.spot
  obtain ⟨h, _, rfl, _, g4⟩ := g3.i
  obtain rfl := g4.no
  exact yI b hb L p h AW
end Go.Ev
end
