import Derived.Test.YtkbgaadfednjpaaGreatDoorEvU5g
import Derived.Test.YtkbgaadfednjpaaGreatDoorEvU4b
set_option linter.all false
set_option maxHeartbeats 8000000
noncomputable section
namespace Go.Ev
open Go.Proofs
set_option maxRecDepth 100000
theorem Aw {n : Int} (h : (Lit.int .i64 n).wf = true) : i64 n := by
  simp only [Lit.wf, Bool.and_eq_true, decide_eq_true_eq] at h
  exact ⟨h.1, h.2⟩
theorem FitP.beachW {ps : List (Bool × List CK)} {ds : List D} (h : FitP ((true, [.i .i64, .i .i64, .i .i64, .i .i64, .sl [.i .i64], .sl [.i .i64], .sl [.sl [.i .i64]], .sl [.i .i64, .i .i64], .sl [.i .i64, .i .i64]]) :: ps) ds) : ∃ (b : Bh) (ds' : List D), ds = .ag (dS b) :: ds' ∧ (i64 b.last ∧ i64 b.rws ∧ i64 b.pls) ∧ FitP ps ds' := by
  unfold FitP at h
  obtain ⟨es, ds', rfl, h1, h2⟩ := h
  simp only [FitL, gT] at h1
  obtain ⟨d, ds, rfl, ⟨n1, rfl, w1⟩, d2, ds2, rfl, ⟨n2, rfl, w2⟩, d3, ds3, rfl, ⟨n3, rfl, w3⟩, d4, ds4, rfl, ⟨n4, rfl, _⟩, d5, ds5, rfl, ⟨e5, rfl, k5⟩, d6, ds6, rfl, ⟨e6, rfl, k6⟩, d7, ds7, rfl, ⟨e7, rfl, k7⟩, d8, ds8, rfl, ⟨e8, rfl, k8⟩, d9, ds9, rfl, ⟨e9, rfl, k9⟩, rfl⟩ := h1
  obtain ⟨l5, rfl⟩ := lM fun x hx => by have := k5 x hx; simpa only [FitL, gT] using this
  obtain ⟨l6, rfl⟩ := lM fun x hx => by have := k6 x hx; simpa only [FitL, gT] using this
  obtain ⟨l7, rfl⟩ := rR fun x hx => by have := k7 x hx; simpa only [FitL, gT] using this
  obtain ⟨l8, rfl⟩ := vR fun x hx => by have := k8 x hx; simpa only [FitL, gT] using this
  obtain ⟨l9, rfl⟩ := vR fun x hx => by have := k9 x hx; simpa only [FitL, gT] using this
  exact ⟨⟨n1, n2, n3, n4, l5, l6, l7, l8, l9⟩, ds', rfl, ⟨Aw w1, Aw w2, Aw w3⟩, h2⟩
set_option maxRecDepth 1000000
def Qe : RC := (.seq (.reg [(.u (.box p3 (.t p1))), (.u (.mv p5 (.k (.b false))))]) (.seq (.seq (.reg [(dW dA p3 9), (.u (.cf (some dK) p20 [(.t dA)])), (.u (.un p20 .not (.t dK))), (Mv p21 p20), (.g p21 false (some p22) (.mv p22 (.t p2))), (.g p21 false (some eC) (.cf (some eC) p21 [(.t p22)])), (.g p21 false (some p24) (.un p24 .not (.t eC))), (.u (.pick p25 (.t p21) (.k (.b true)) (.t p24)))]) (.cond (.t p25) (.seq (.reg [(.u (.cf (some p26) p22 [])), (Mv p5 p26)]) .ret) .skip)) (.seq (.reg [(dW p28 p3 9), (.u (.cf (some p29) p24 [(.t p28)])), (Mv p30 p2), (.u (.cf (some p31) p25 [(.t p30)])), (.u (.cf (some p32) p35 [(.t p29), (.t p31)])), (Mv fF p32), (.u (.ext iB (.t fF) 0)), (.u (.ext p34 (.t fF) 1)), (Mv p6 iB), (Mv p7 p34)]) (.seq (.reg [(dW p36 p3 9), (.u (.cf (some p37) p24 [(.t p36)])), (Mv p38 p2), (.u (.cf (some p39) p25 [(.t p38)])), (.u (.cf (some p40) p36 [(.t p37), (.t p39)])), (Mv p35 p40), (.u (.ext nZ (.t p35) 0)), (.u (.ext p42 (.t p35) 1)), (Mv p8 nZ), (Mv p9 p42)]) (.seq (.reg [(dW p44 p3 9), (.u (.cf (some p45) p37 [(.t p44)])), (Mv oM p45), (.u (.ext oL (.t oM) 0)), (.u (.ext sZ (.t oM) 1)), (Mv aY oL), (Mv bJ sZ)]) (.seq (.reg [(dW uK p3 9), (.u (.cf (some p49) p28 [(.t uK)])), (Mv bC p49)]) (.seq (.seq (.reg [(Mv uM bC), (dD wU .eql uM 0), (Mv kL wU), (.g kL true (some uV) (.ldn uV (.t p3) 9)), (.g kL true (some vU) (.mv vU (.t p2))), (.g kL true (some uS) (.cf (some uS) p31 [(.t uV), (.t vU)])), (.g kL true (some vI) (.un vI .not (.t uS))), (.u (.pick wW (.t kL) (.t vI) (.k (.b false))))]) (.cond (.t wW) (.reg [(.u (.mv bC (.k (.i .i64 2)))), (.u (.mv bJ (.k (.i .i64 2))))]) .skip)) (.seq (.seq (.reg [(Mv wV p7), (Mv yX bC), (dN rB .neq wV yX), (Mv tC rB), (.g tC false (some wT) (.mv wT (.t p9))), (.g tC false (some tA) (.mv tA (.t bJ))), (.g tC false (some xO) (.bin xO .neq (.t wT) (.t tA))), (.u (.pick p65 (.t tC) (.k (.b true)) (.t xO))), (Mv uJ p65), (.g uJ false (some xI) (.mv xI (.t bC))), (.g uJ false (some p68) (.bin p68 .neq (.t xI) (.k (.i .i64 0)))), (.g uJ false (some oN) (.mv oN (.t p68))), (.g oN true (some p70) (.mv p70 (.t p6))), (.g oN true (some Ai) (.bin Ai .neq (.t p70) (.k (.i .i64 0)))), (.g uJ false (some zQ) (.pick zQ (.t oN) (.t Ai) (.k (.b false)))), (.u (.pick BB (.t uJ) (.k (.b true)) (.t zQ))), (Mv wI BB), (.g wI false (some zK) (.mv zK (.t bC))), (.g wI false (some Ch) (.bin Ch .eql (.t zK) (.k (.i .i64 0)))), (.g wI false (some sW) (.mv sW (.t Ch))), (.g sW true (some p78) (.mv p78 (.t p6))), (.g sW true (some CD) (.ldn CD (.t p3) 9)), (.g sW true (some Dg) (.mv Dg (.t p2))), (.g sW true (some Dt) (.cf (some Dt) p38 [(.t CD), (.t Dg)])), (.g sW true (some p82) (.bin p82 .neq (.t p78) (.t Dt))), (.g wI false (some Dw) (.pick Dw (.t sW) (.t p82) (.k (.b false)))), (.u (.pick p84 (.t wI) (.k (.b true)) (.t Dw)))]) (.cond (.t p84) (.seq (.reg [(.u (.mv p5 (.k (.b false))))]) .ret) .skip)) (.seq (.seq (.reg [(Mv GP bJ), (dD GV .neq GP 0)]) (.cond (.t GV) (.seq (.reg [(Mv Gz p8), (.u (.len p88 (.t Gz))), (dD p89 .eql p88 0), (Mv p90 p89), (.g p90 true (some p91) (.cf (some p91) p22 [])), (.u (.pick p92 (.t p90) (.t p91) (.k (.b false)))), (Mv p5 p92)]) .ret) .skip)) (.seq (.seq (.reg [(Mv p93 p8), (.u (.len p94 (.t p93))), (Fd p95 p3 1), (L1 p96 p95), (dN p97 .neq p94 p96)]) (.cond (.t p97) (.seq (.reg [(.u (.mv p5 (.k (.b false))))]) .ret) .skip)) (.seq (.seq (.reg [(.u (.mv aW (.k (.i .i64 0))))]) (.blk 0 (.loop (.seq (.seq (.reg [(Mv p98 aW), (Fd p99 p3 1), (L1 p100 p99), (dN FV .lss p98 p100)]) (.cond (.t FV) .skip (.exit 0))) (.seq (.blk 1 (.seq (.seq (.drw [(Mv CU p8), (Mv p105 aW), (.u (.ixs CN 1 (.t CU) (.t p105))), (L1 p107 CN), (.u (.len Ds (.t p107))), (Fd Ct p3 2), (L1 Cq Ct), (dN p111 .neq Ds Cq)] [0, 0, 3, 7, 15, 0, 32, 127]) (.cond (.t p111) (.seq (.reg [(.u (.mv p5 (.k (.b false))))]) .ret) .skip)) (.seq (.reg [(.u (.mv bH (.k (.i .i64 0))))]) (.blk 2 (.loop (.seq (.seq (.reg [(Mv Db bH), (Fd Dh p3 2), (L1 Dc Dh), (dN CL .lss Db Dc)]) (.cond (.t CL) .skip (.exit 2))) (.seq (.blk 3 (.seq (.reg [(Mv p118 aW), (Mv p119 bH), (.u (.bld CQ [(.i .i64 0), (.i .i64 0)] [(0, (1, (.t p118))), (1, (1, (.t p119)))])), (.u (.new bO [(.i .i64 0), (.i .i64 0)])), (.u (.st (.t bO) (.t CQ) 2))]) (.seq (.reg [(dW p122 p3 9), (Mv p123 aY), (Mv p124 p2), (dW p125 bO 2), (.u (.cf (some p126) p39 [(.t p122), (.t p123), (.t p124), (.t p125)])), (Mv zR p126), (.u (.ext p127 (.t zR) 0)), (.u (.ext p128 (.t zR) 1)), (.u (.new bU [(.i .i64 0), (.i .i64 0)])), (.u (.new cU [(.i .i64 0), (.i .i64 0)])), (.u (.st (.t bU) (.t p127) 2)), (.u (.st (.t cU) (.t p128) 2))]) (.seq (.drw [(Mv p129 p8), (Mv p130 aW), (.u (.ixs p131 1 (.t p129) (.t p130))), (L1 p132 p131), (Mv p133 bH), (.u (.ixs p134 5 (.t p132) (.t p133))), (dW p135 p134 5), (dW p136 p3 9), (Mv Cn p2), (Mv CR aY), (.u (.ixs CW 1 (.t CR) (.k (.i .i64 0)))), (L1 CB CW), (.u (.cf (some CT) p34 [(.t p136), (.t Cn), (.t CB)])), (Mv Dj aW), (.u (.ixs p143 1 (.t CT) (.t Dj))), (L1 CX p143), (Mv Dd bH), (.u (.ixs p146 3 (.t CX) (.t Dd))), (Fd p147 p146 0), (L1 p148 p147), (dW p149 bU 2), (.u (.cf (some p150) p40 [(.t p149)])), (dW p151 cU 2), (.u (.cf (some p152) p40 [(.t p151)])), (.u (.bld CH [(.i .i64 0), (.i .i64 0), (.i .i64 0), (.i .i64 0), (.i .i64 0)] [(0, (1, (.t p148))), (1, (2, (.t p150))), (3, (2, (.t p152)))])), (.u (.eqr CA true [(.i .i64), (.i .i64), (.i .i64), (.i .i64), (.i .i64)] (.t p135) (.t CH)))] [0, 0, 3, 7, 0, 31, 63, 0, 0, 0, 512, 1536, 3968, 0, 16256, 32640, 0, 130944, 262016, 524160, 0, 1056640, 0, 7348096, 16777088, 33554431]) (.cond (.t CA) (.seq (.reg [(.u (.mv p5 (.k (.b false))))]) .ret) .skip))))) (.reg [(Mv p116 bH), (dD p117 .add p116 1), (Mv bH p117)])))))))) (.reg [(Mv p102 aW), (dD p103 .add p102 1), (Mv aW p103)])))))) (.seq (.reg [(.u (.cf (some GZ) p22 [])), (Mv p5 GZ)]) .ret))))))))))))
def PR : List RR := [(.t p5)]
theorem PW : FnOk Tryz.prog p5.ix 155 Qe PR := ⟨Tryz.f4, aM Tryz.f4, Tryz.func4, by kernel_rfl, by kernel_rfl, by kernel_rfl, by kernel_rfl, by kernel_rfl⟩
set_option maxRecDepth 100000
theorem IK {b : Bh} (V : VW b) (S : Nat → Nat → Int) (p : Int × Int) : ∀ n ∈ [(sY b S p).sun, (sY b S p).cl, (sY b S p).ch, (sY b S p).gl, (sY b S p).gh], 0 ≤ n ∧ n ≤ 500 := fun n hn => by
  have hv := V.last
  have k : ∀ f : Nat → Int, (∀ h, 0 ≤ f h ∧ f h ≤ 50) → 0 ≤ iM f 0 (0 + (b.last + 1).toNat) ∧ iM f 0 (0 + (b.last + 1).toNat) ≤ 500 := fun f hf => by
    have := uX hf 0 (0 + (b.last + 1).toNat); omega
  simp only [sY, List.mem_cons, List.not_mem_nil, or_false] at hn
  rcases hn with rfl | rfl | rfl | rfl | rfl
  · exact k _ fun h => vE KOk.sun b S [p] (by simp) h
  · exact k _ fun h => vE KOk.calm b S [p] (by simp) h
  · exact k _ fun h => zS KOk.calm b S [p] (by simp) h
  · exact k _ fun h => vE KOk.good b S [p] (by simp) h
  · exact k _ fun h => zS KOk.good b S [p] (by simp) h
theorem DG (l : List (List Bnd)) : dP (aC eB l) := iI dR l
theorem Ei (l : List Bnd) : dP (aC yY l) := iI xN l
theorem Hg {B : Pos → Prop} {ob : T C} {d : D} (h : Pu d := by simp [Cell.d, Pu, aR, dP, aB, aG, aF, aQ, fO, AY, DG, Ei, dR]; done) : Fz B ob d d := .pu h
instance : Inhabited Bnd := ⟨⟨0, 0, 0, 0, 0⟩⟩
theorem Hl {b : Bh} {t u : Bool} (h : aV b ≠ 0) : pI b t u = aV b := if_neg h
theorem Hz {b : Bh} {u : Bool} (h : aV b = 0) : pI b false u = 2 := if_pos h
theorem Hu {b : Bh} (h : aV b = 0) : pI b true false = 11 := if_pos h
set_option maxHeartbeats 8000000 in
theorem vH (b : Bh) (hb : i64 b.last) (L : List (List Int)) (AW : PureF Tryz.prog p22.ix [] (.b true)) : PureF Tryz.prog p5.ix [.ag (dS b), .lst 1 (aC bZ L)] (.b true) := by
  have e1 := aI bZ L
  have cTh := IL b
  have cBr := BH L
  refine PureF.run PW (by simp) (by simp [aR, dP, Pu, aQ, aF]) ?_; conv => whnf
  cases hTh : rG b with
  | false =>
    rw [hTh] at cTh
    repeat' first | ((first | refine Qz ?_ | refine Qf (cTh) ?_ | refine Qf (AW) ?_ | with_reducible (first | refine Qm ?_ | refine Qn ?_ | refine Qo ?_ | refine Qp ?_ | refine WB.nt ?_ | refine WB.nf ?_ | refine WB.dec (fun h => ?_) (fun h => ?_) | refine WB.ndec (fun h => ?_) (fun h => ?_)) | refine WB.mk (fun h => ?_) (fun h => ?_)) <;> conv => whnf) | (refine WB.tt ?_; conv => whnf) | (refine WB.ff ?_; conv => whnf)
    exact Fin.b rfl rfl
  | true =>
  rw [hTh] at cTh
  cases hBr : vN L with
  | false =>
    rw [hBr] at cBr
    repeat' first | ((first | refine Qz ?_ | refine Qf (cTh) ?_ | refine Qf (cBr) ?_ | refine Qf (AW) ?_ | with_reducible (first | refine Qm ?_ | refine Qn ?_ | refine Qo ?_ | refine Qp ?_ | refine WB.nt ?_ | refine WB.nf ?_ | refine WB.dec (fun h => ?_) (fun h => ?_) | refine WB.ndec (fun h => ?_) (fun h => ?_)) | refine WB.mk (fun h => ?_) (fun h => ?_)) <;> conv => whnf) | (refine WB.tt ?_; conv => whnf) | (refine WB.ff ?_; conv => whnf)
    exact Fin.b rfl rfl
  | true =>
  rw [hBr] at cBr
  have N := HG hTh
  have F := N.f
  obtain ⟨b1, b2⟩ := qU hBr
  have b3 : ∀ w ∈ L, w.length ≤ 1000 := fun w hw => Nat.le_trans (b2 w hw) (by decide)
  have cB := GL b F.l1 F.l2 F.l3 F.l4 F.l5 F.l6
  have cL := Bn L (by omega) (fun w hw => Nat.le_trans (b2 w hw) (by decide))
  have cF := qV b F.l1 F.l2 F.l3 F.l6
  have cW := HF b L F.l1 F.l2 F.l3 F.l6 (by omega) b3
  by_cases hf : aV b = 0
  rotate_left
  · have e2 : zV b L = 0 := if_neg fun h => hf h.1
    have e3 : sJ b L = aV b := if_neg hf
    have cX := oV b L F.l1 F.l2 F.l3 F.l6 (by omega) b3 hb (by rw [Hl hf]; exact hf)
    have cS := GX b N hf
    rw [Hl hf] at cX
    rw [e2, e3] at cW
    have e0 : (([] : List (List D)).length : Int) = 0 := rfl
    repeat' first | ((first | refine Qz ?_ | refine Qf (cTh) ?_ | refine Qf (cBr) ?_ | refine Qf (cB) ?_ | refine Qf (cL) ?_ | refine Qf (cF) ?_ | refine Qf (cW) ?_ | refine Qf (cX) ?_ | refine Qf (cS) ?_ | refine Qf (AW) ?_ | with_reducible (first | refine Qm ?_ | refine Qn ?_ | refine Qo ?_ | refine Qp ?_ | refine WB.nt ?_ | refine WB.nf ?_ | refine WB.dec (fun h => ?_) (fun h => ?_) | refine WB.ndec (fun h => ?_) (fun h => ?_)) | refine WB.mk (fun h => ?_) (fun h => ?_)) <;> conv => whnf) | (refine WB.tt ?_; conv => whnf) | (refine WB.ff ?_; conv => whnf)
    all_goals first | exact Fin.b rfl rfl | exact absurd h (by decide)
  have Z := gA hf
  have V := Z.v
  have hv := V.last
  have q1 := V.rws
  have q2 := V.pls
  have cI := ES b L (by omega) (by omega) b3
  have e0 : (([] : List (List D)).length : Int) = 0 := rfl
  rw [hf] at cF
  cases hp : gU b L with
  | false =>
    have e2 : zV b L = 0 := if_neg fun h => by rw [hp] at h; exact absurd h.2 (by decide)
    have e3 : sJ b L = 2 := by unfold sJ; rw [if_pos hf, hp]; rfl
    have cX := oV b L F.l1 F.l2 F.l3 F.l6 (by omega) b3 hb (by rw [hp, Hz hf]; decide)
    rw [hp, Hz hf] at cX
    rw [e2, e3] at cW
    rw [hp] at cI
    by_cases hT : dB b = []
    · have cS := Bw b N hf hT
      repeat' first | ((first | refine Qz ?_ | refine Qf (cTh) ?_ | refine Qf (cBr) ?_ | refine Qf (cB) ?_ | refine Qf (cL) ?_ | refine Qf (cF) ?_ | refine Qf (cW) ?_ | refine Qf (cX) ?_ | refine Qf (cS) ?_ | refine Qf (cI) ?_ | refine Qf (AW) ?_ | with_reducible (first | refine Qm ?_ | refine Qn ?_ | refine Qo ?_ | refine Qp ?_ | refine WB.nt ?_ | refine WB.nf ?_ | refine WB.dec (fun h => ?_) (fun h => ?_) | refine WB.ndec (fun h => ?_) (fun h => ?_)) | refine WB.mk (fun h => ?_) (fun h => ?_)) <;> conv => whnf) | (refine WB.tt ?_; conv => whnf) | (refine WB.ff ?_; conv => whnf)
      all_goals first | exact Fin.b rfl rfl | exact absurd h (by decide)
    · have cS := AP b N hf hT
      repeat' first | ((first | refine Qz ?_ | refine Qf (cTh) ?_ | refine Qf (cBr) ?_ | refine Qf (cB) ?_ | refine Qf (cL) ?_ | refine Qf (cF) ?_ | refine Qf (cW) ?_ | refine Qf (cX) ?_ | refine Qf (cS) ?_ | refine Qf (cI) ?_ | refine Qf (AW) ?_ | with_reducible (first | refine Qm ?_ | refine Qn ?_ | refine Qo ?_ | refine Qp ?_ | refine WB.nt ?_ | refine WB.nf ?_ | refine WB.dec (fun h => ?_) (fun h => ?_) | refine WB.ndec (fun h => ?_) (fun h => ?_)) | refine WB.mk (fun h => ?_) (fun h => ?_)) <;> conv => whnf) | (refine WB.tt ?_; conv => whnf) | (refine WB.ff ?_; conv => whnf)
      all_goals first | exact Fin.b rfl rfl | exact absurd h (by decide)
  | true =>
  have e2 : zV b L = uE b (fun r => b.face.getD r 0) (bY L) (b.last + 1).toNat := if_pos ⟨hf, hp⟩
  have e3 : sJ b L = 0 := by unfold sJ; rw [if_pos hf, hp]; rfl
  rw [e2, e3] at cW
  rw [hp] at cI
  have cR := Hk b V L hp
  generalize uE b (fun r => b.face.getD r 0) (bY L) (b.last + 1).toNat = wk at *
  by_cases hT : dB b = []
  · have hh : kE b = false := by
      cases hh : kE b with
      | false => rfl
      | true => exact absurd hT ((lB V).2 hh)
    have cX := oV b L F.l1 F.l2 F.l3 F.l6 (by omega) b3 hb (by rw [hp, hh, Hu hf]; decide)
    rw [hp, hh, Hu hf] at cX
    have cS := Bw b N hf hT
    repeat' first | ((first | refine Qz ?_ | refine Qf (cTh) ?_ | refine Qf (cBr) ?_ | refine Qf (cB) ?_ | refine Qf (cL) ?_ | refine Qf (cF) ?_ | refine Qf (cW) ?_ | refine Qf (cX) ?_ | refine Qf (cS) ?_ | refine Qf (cI) ?_ | refine Qf (cR) ?_ | refine Qf (AW) ?_ | with_reducible (first | refine Qm ?_ | refine Qn ?_ | refine Qo ?_ | refine Qp ?_ | refine WB.nt ?_ | refine WB.nf ?_ | refine WB.dec (fun h => ?_) (fun h => ?_) | refine WB.ndec (fun h => ?_) (fun h => ?_)) | refine WB.mk (fun h => ?_) (fun h => ?_)) <;> conv => whnf) | (refine WB.tt ?_; conv => whnf) | (refine WB.ff ?_; conv => whnf)
    all_goals first | exact Fin.b rfl rfl | exact absurd h (by decide)
  have hh := (lB V).1 hT
  have cX := Di b L F.l1 F.l2 F.l3 F.l6 (by omega) b3 hf hp hh
  have cS := AP b N hf hT
  have hTp := List.length_pos_iff.2 hT
  have hmem : ∀ t ∈ dB b, TruP b t := fun t ht => (fJ V).1 ht
  have hTl : (dB b).length ≤ 1000 := by
    have h1 := xF b (jX b)
    have h2 := N.m hf
    have h3 : (jX b : Int) = iC b.winds b.winds.length := by unfold jX; omega
    have h4 : (dB b).length ≤ jX b := h1
    omega
  have t0 := hmem _ (aN (d := default) hTp)
  have cY := BC b V L ((dB b).getD 0 default) hp t0.len (JT V t0) F.l4
  have eX : ((aC eB (jT (fun r p => sY b (bY L) ((r : Int), (p : Int))) b.rws.toNat b.pls.toNat)).length : Int) = b.rws := by rw [aI, lV]; omega
  repeat' first | ((first | refine Qz ?_ | refine Qf (cTh) ?_ | refine Qf (cBr) ?_ | refine Qf (cB) ?_ | refine Qf (cL) ?_ | refine Qf (cF) ?_ | refine Qf (cW) ?_ | refine Qf (cX) ?_ | refine Qf (cS) ?_ | refine Qf (cI) ?_ | refine Qf (cR) ?_ | with_reducible (first | refine Qm ?_ | refine Qn ?_ | refine Qo ?_ | refine Qp ?_ | refine WB.nt ?_ | refine WB.nf ?_ | refine WB.dec (fun h => ?_) (fun h => ?_) | refine WB.ndec (fun h => ?_) (fun h => ?_)) | refine WB.mk (fun h => ?_) (fun h => ?_)) <;> conv => whnf) | (refine WB.tt ?_; conv => whnf) | (refine WB.ff ?_; conv => whnf)
  refine Rn.loopV [(p5, none), (aW, none), (bH, none), (bO, none), (bU, none), (cU, none), (p98, none), (p99, none), (p100, none), (FV, none), (p102, none), (p103, none), (CU, none), (p105, none), (CN, none), (p107, none), (Ds, none), (Ct, none), (Cq, none), (p111, none), (Db, none), (Dh, none), (Dc, none), (CL, none), (p116, none), (p117, none), (p118, none), (p119, none), (CQ, none), (zR, none), (p122, none), (p123, none), (p124, none), (p125, none), (p126, none), (p127, none), (p128, none), (p129, none), (p130, none), (p131, none), (p132, none), (p133, none), (p134, none), (p135, none), (p136, none), (Cn, none), (CR, none), (CW, none), (CB, none), (CT, none), (Dj, none), (p143, none), (CX, none), (Dd, none), (p146, none), (p147, none), (p148, none), (p149, none), (p150, none), (p151, none), (p152, none), (CH, none), (CA, none)] (fun i : Nat => [(aW, some (.i .i64 (i : Int)))]) (fun i : Nat => []) (fun i : Nat => (.o .h)) (fun i : Nat => i ≤ b.rws.toNat) (fun i : Nat => b.rws.toNat - i) 0 ?_ ?_ ?_
  · conv => whnf
    (refine X.le.mk ?_ ?_ (Nat.le_refl _) rfl rfl) <;> (repeat' first | exact T.le_e _ | refine T.le_some ?_ rfl ?_ | refine T.le_none ?_ ?_ | refine T.le_ee ?_ ?_)
  rotate_left
  intro xl1 hxl1
  rotate_right
  · exact Nat.zero_le _
  intro i hi
  have hi : i ≤ b.rws.toNat := hi
  conv => whnf
  repeat' first | ((first | refine Qz ?_ | refine Qy ?_) <;> conv => whnf) | (refine WB.tt ?_; conv => whnf) | (refine WB.ff ?_; conv => whnf)
  refine WB.dec (fun hd => ?_) (fun hd => ?_) <;> conv => whnf
  · have hlt : i < b.rws.toNat := by omega
    have eR : ((aC yY ((jT (fun r p => sY b (bY L) ((r : Int), (p : Int))) b.rws.toNat b.pls.toNat).getD i default)).length : Int) = b.pls := by rw [aI, qY _ hlt]; simp; omega
    repeat' first | ((first | refine Qz ?_ | refine WIx.rowsM (by rw [lV]; exact hlt) rfl ?_ | with_reducible (first | refine Qm ?_ | refine Qn ?_ | refine Qo ?_ | refine Qp ?_ | refine WB.nt ?_ | refine WB.nf ?_ | refine WB.dec (fun h => ?_) (fun h => ?_) | refine WB.ndec (fun h => ?_) (fun h => ?_)) | refine WB.mk (fun h => ?_) (fun h => ?_)) <;> conv => whnf) | (refine WB.tt ?_; conv => whnf) | (refine WB.ff ?_; conv => whnf)
    refine Rn.loopV [(p5, none), (bH, none), (bO, none), (bU, none), (cU, none), (Db, none), (Dh, none), (Dc, none), (CL, none), (p116, none), (p117, none), (p118, none), (p119, none), (CQ, none), (zR, none), (p122, none), (p123, none), (p124, none), (p125, none), (p126, none), (p127, none), (p128, none), (p129, none), (p130, none), (p131, none), (p132, none), (p133, none), (p134, none), (p135, none), (p136, none), (Cn, none), (CR, none), (CW, none), (CB, none), (CT, none), (Dj, none), (p143, none), (CX, none), (Dd, none), (p146, none), (p147, none), (p148, none), (p149, none), (p150, none), (p151, none), (p152, none), (CH, none), (CA, none)] (fun j : Nat => [(bH, some (.i .i64 (j : Int)))]) (fun j : Nat => []) (fun j : Nat => (.o .h)) (fun j : Nat => j ≤ b.pls.toNat) (fun j : Nat => b.pls.toNat - j) 0 ?_ ?_ ?_
    · conv => whnf
      (refine X.le.mk ?_ ?_ (Nat.le_refl _) rfl rfl) <;> (repeat' first | exact T.le_e _ | refine T.le_some ?_ rfl ?_ | refine T.le_none ?_ ?_ | refine T.le_ee ?_ ?_)
    rotate_left
    intro xl2 hxl2
    rotate_right
    · exact Nat.zero_le _
    intro j hj
    have hj : j ≤ b.pls.toNat := hj
    conv => whnf
    repeat' first | ((first | refine Qz ?_ | refine Qy ?_) <;> conv => whnf) | (refine WB.tt ?_; conv => whnf) | (refine WB.ff ?_; conv => whnf)
    refine WB.dec (fun hd2 => ?_) (fun hd2 => ?_) <;> conv => whnf
    · have hlt2 : j < b.pls.toNat := by omega
      have cRB := Dm b V L hp (dB b) hmem hTl F.l4 i j hlt hlt2
      have c1 := Jk
      have g4 : j < ((jT (jZ b L ((dB b).getD 0 default)) b.rws.toNat b.pls.toNat).getD i default).length := by rw [qY _ hlt]; simpa using hlt2
      have g5 : j < ((jT (fun r p => sY b (bY L) ((r : Int), (p : Int))) b.rws.toNat b.pls.toNat).getD i default).length := by rw [qY _ hlt]; simpa using hlt2
      have key := Fk V (bY L) ((i : Int), (j : Int)) hT t0
      have hbd := IK V (bY L) ((i : Int), (j : Int))
      repeat' first | ((first | refine Qz ?_ | refine Qf (cRB) ?_ | refine Qf (cY) ?_ | refine Qf (Jk _ _) ?_ | refine WIx.rowsM hTp rfl ?_ | refine WIx.rowsM (by rw [lV]; exact hlt) rfl ?_ | refine WIx.rowsM g4 rfl ?_ | refine WIx.rowsM g5 rfl ?_ | refine Qy ?_) <;> conv => whnf) | (refine WB.tt ?_; conv => whnf) | (refine WB.ff ?_; conv => whnf)
      rw [wB (jZ b L ((dB b).getD 0 default)) hlt hlt2, wB (fun r p => sY b (bY L) ((r : Int), (p : Int))) hlt hlt2]
      refine WSt.eqrN (neg := true) (r := false) [(sY b (bY L) ((i : Int), (j : Int))).sun, (sY b (bY L) ((i : Int), (j : Int))).cl, (sY b (bY L) ((i : Int), (j : Int))).ch, (sY b (bY L) ((i : Int), (j : Int))).gl, (sY b (bY L) ((i : Int), (j : Int))).gh] [(jZ b L ((dB b).getD 0 default) i j).sun, wR (fun t => (jZ b L t i j).calm) (dB b) (dB b).length, vG (fun t => (jZ b L t i j).calm) (dB b) (dB b).length, wR (fun t => (jZ b L t i j).good) (dB b) (dB b).length, vG (fun t => (jZ b L t i j).good) (dB b) (dB b).length] rfl rfl rfl rfl ?_ ?_ ?_ ?_
      · exact fun n hn => gI (by have := hbd n hn; omega)
      · rw [key] at hbd
        exact fun n hn => gI (by have := hbd n hn; omega)
      · rw [key]; simp [jZ]
      conv => whnf
      repeat' first | ((first | refine Qz ?_ | refine Qy ?_) <;> conv => whnf) | (refine WB.tt ?_; conv => whnf) | (refine WB.ff ?_; conv => whnf)
      refine AgainB.v (j + 1) (by omega) (show j + 1 ≤ b.pls.toNat by omega) (Nat.le_refl _) (by assumption) ?_
      conv => whnf
      refine Shr.of ?_ ?_ rfl rfl
      · (repeat' first | exact Rel.e | refine Rel.some ?_ ?_ ?_ | refine Rel.none ?_ ?_ | refine Rel.ee ?_ ?_)
        all_goals show Fz _ _ _ _
        all_goals first | exact Fq | exact Hg
      · (repeat' first | exact Rel.e | refine Rel.some ?_ ?_ ?_ | refine Rel.none ?_ ?_ | refine Rel.ee ?_ ?_)
        all_goals refine BZ ?_
        all_goals first | exact Sq | (refine ShC.same ?_; (repeat' first | exact ShC.nl | refine ShC.cn ?_ ?_) <;> first | exact Fq | exact Hg)
    · repeat' first | ((first | refine Qz ?_ | refine Qy ?_) <;> conv => whnf) | (refine WB.tt ?_; conv => whnf) | (refine WB.ff ?_; conv => whnf)
      refine AgainB.v (i + 1) (by omega) (show i + 1 ≤ b.rws.toNat by omega) (Nat.le_refl _) (by assumption) ?_
      conv => whnf
      refine Shr.of ?_ ?_ rfl rfl
      · (repeat' first | exact Rel.e | refine Rel.some ?_ ?_ ?_ | refine Rel.none ?_ ?_ | refine Rel.ee ?_ ?_)
        all_goals show Fz _ _ _ _
        all_goals first | exact Fq | exact Hg
      · (repeat' first | exact Rel.e | refine Rel.some ?_ ?_ ?_ | refine Rel.none ?_ ?_ | refine Rel.ee ?_ ?_)
        all_goals refine BZ ?_
        all_goals first | exact Sq | (refine ShC.same ?_; (repeat' first | exact ShC.nl | refine ShC.cn ?_ ?_) <;> first | exact Fq | exact Hg)
  · repeat' first | ((first | refine Qz ?_ | refine Qf (AW) ?_ | refine Qy ?_) <;> conv => whnf) | (refine WB.tt ?_; conv => whnf) | (refine WB.ff ?_; conv => whnf)
    exact Fin.b rfl rfl
theorem main_windBounds (AW : PureF Tryz.prog p22.ix [] (.b true)) {es : List D} (fit : FitP [(true, [.i .i64, .i .i64, .i .i64, .i .i64, .sl [.i .i64], .sl [.i .i64], .sl [.sl [.i .i64]], .sl [.i .i64, .i .i64], .sl [.i .i64, .i .i64]]), (false, [.sl [.sl [.i .i64]]])] es) : PureF Tryz.prog 4 es (.b true) := by
  obtain ⟨b, _, rfl, ⟨hb, _, _⟩, g1⟩ := fit.beachW
  obtain ⟨L, _, rfl, g2⟩ := g1.wins
  obtain rfl := g2.no
  exact vH b hb L AW
end Go.Ev
end
