import Derived.Test.YtkbgaadfednjpaaGreatDoorEvULk
import Derived.Test.YtkbgaadfednjpaaGreatDoorEvUSq
import Derived.Test.YtkbgaadfednjpaaGreatDoorEvU4r
import Derived.Test.YtkbgaadfednjpaaGreatDoorEvU4b
import Derived.Test.YtkbgaadfednjpaaGreatDoorEvU4u
import Derived.Test.YtkbgaadfednjpaaGreatDoorEvUIt
set_option linter.all false
set_option maxHeartbeats 8000000
noncomputable section
namespace Go.Ev
set_option maxRecDepth 100000
theorem uM : ∀ (xs ys : List Int), xs.length = ys.length → (∀ n ∈ xs, qS .i64 n = true) → (∀ n ∈ ys, qS .i64 n = true) → AI (xs.map fun _ => .i .i64) (xs.map fun n => D.i .i64 n) (ys.map fun n => D.i .i64 n) = some (decide (xs = ys))
  | [], [], _, _, _ => by simp [AI]
  | a :: xs, b :: ys, hl, h1, h2 => by
    have ih := uM xs ys (by simpa using hl) (fun n hn => h1 n (by simp [hn])) (fun n hn => h2 n (by simp [hn]))
    have hk : rL .i64 .i64 = true := rfl
    have w1 := h1 a (by simp)
    have w2 := h2 b (by simp)
    simp only [List.map_cons, AI, JF, hk, w1, w2, Bool.and_self, cond_true, ih, Option.some.injEq]
    rw [jR]
    by_cases h : a = b
    · by_cases h' : xs = ys <;> simp [h, h']
    · simp [h]
  | [], _ :: _, h, _, _ => by simp at h
  | _ :: _, [], h, _, _ => by simp at h
theorem WSt.eqrN {sl : T D} {ob : T C} {nx : Pos} {K : X → Prop} {lg : Option (T Bool)} {d : Pos} {x y : RX} {neg : Bool} {ks : List LK} (xs ys : List Int) (h1 : bO sl x = some (.ag (xs.map fun n => D.i .i64 n))) (h2 : bO sl y = some (.ag (ys.map fun n => D.i .i64 n))) (hk : ks = xs.map fun _ => .i .i64) (hl : xs.length = ys.length) (w1 : ∀ n ∈ xs, qS .i64 n = true) (w2 : ∀ n ∈ ys, qS .i64 n = true) {r : Bool} (hr : (bif neg then !decide (xs = ys) else decide (xs = ys)) = r) (k : eT sl ob nx lg d K (.b r)) :
    WSt (.eqr d neg ks x y) ⟨sl, ob, nx, lg⟩ K := by
  obtain ⟨k1, k2⟩ := bF k
  refine ⟨_, ?_, k2⟩
  show nW _ _ _ x y sl ob nx lg = _
  unfold nW
  rw [h1, h2]
  have e : AC ks (.ag (xs.map fun n => D.i .i64 n)) (.ag (ys.map fun n => D.i .i64 n)) = some (decide (xs = ys)) := by
    rw [hk]
    exact uM xs ys hl w1 w2
  simp only [e, bK, hr]
  exact k1
open Go.Proofs
def Js (x : Hr) : Prop := qS .i64 x.sun = true ∧ qS .i64 x.calm = true ∧ qS .i64 x.good = true
instance : Inhabited Hr := ⟨⟨0, 0, 0⟩⟩
theorem Jk (A : List (List Hr)) (hA : A.length ≤ 1000) (hl : ∀ w ∈ A, w.length ≤ 1000) (hw : ∀ w ∈ A, ∀ x ∈ w, Js x) : PureF Tryz.prog p33.ix [.lst 1 (aD aF A), .lst 1 (aD aF A)] (.b true) := by
  have e1 := aK aF A
  refine PureF.run Lr (by simp) ⟨fS aP _, fS aP _, trivial⟩ ?_; conv => whnf
  repeat' first | ((first | with_reducible apply WB.tt | with_reducible apply WB.ff | refine Rn.seq ?_ | refine Rn.reg ?_ | refine Rn.drw ?_ | refine Rn.blk ?_ | refine Rn.skip ?_ | refine Rn.ret ?_ | refine Rn.exit ?_ | refine Rn.cond rfl ?_ | refine And.intro (InR.i64 (by omega) (by omega)) ?_ | refine And.intro (show _ ≠ (0 : Int) by omega) ?_ | refine WIx.intsN (by omega) ?_ | refine WIx.rowsN (by omega) ?_ | with_reducible refine WB.decT (by first | with_reducible rfl | assumption | omega | exact ⟨rfl, rfl⟩) ?_ | with_reducible refine WB.decF (by first | assumption | omega) ?_ | with_reducible refine WB.ndT (by first | with_reducible rfl | assumption | omega | exact ⟨rfl, rfl⟩) ?_ | with_reducible refine WB.ndF (by first | assumption | omega) ?_ | with_reducible refine WB.nt ?_ | with_reducible refine WB.nf ?_) <;> conv => whnf) | (refine WB.tt ?_; conv => whnf) | (refine WB.ff ?_; conv => whnf)
  refine Rn.loop (fun j : Nat => ⟨(.n (.n .e (some (.lst 1 (aD aF A))) (.n .e (some (.i .i64 (j : Int))) .e)) (some (.lst 1 (aD aF A))) .e), .e, .h, none⟩) (fun j => j ≤ A.length) (fun j => A.length - j) 0 ?_ (Nat.zero_le _) ?_
  · refine X.le.mk ?_ ?_ (Nat.le_refl _) rfl rfl
    all_goals (repeat' first | exact T.le_e _ | exact T.le_refl _ | refine T.le_some ?_ rfl ?_ | refine T.le_none ?_ ?_ | refine T.le_ee ?_ ?_)
  intro i hi
  have hi : i ≤ A.length := hi
  conv => whnf
  repeat' first | ((first | with_reducible apply WB.tt | with_reducible apply WB.ff | refine Rn.seq ?_ | refine Rn.reg ?_ | refine Rn.drw ?_ | refine Rn.blk ?_ | refine Rn.skip ?_ | refine Rn.ret ?_ | refine Rn.exit ?_ | refine Rn.cond rfl ?_ | refine And.intro (InR.i64 (by omega) (by omega)) ?_ | refine And.intro (show _ ≠ (0 : Int) by omega) ?_ | refine WIx.intsN (by omega) ?_ | refine WIx.rowsN (by omega) ?_ | with_reducible refine WB.decT (by first | with_reducible rfl | assumption | omega | exact ⟨rfl, rfl⟩) ?_ | with_reducible refine WB.decF (by first | assumption | omega) ?_ | with_reducible refine WB.ndT (by first | with_reducible rfl | assumption | omega | exact ⟨rfl, rfl⟩) ?_ | with_reducible refine WB.ndF (by first | assumption | omega) ?_ | with_reducible refine WB.nt ?_ | with_reducible refine WB.nf ?_) <;> conv => whnf) | (refine WB.tt ?_; conv => whnf) | (refine WB.ff ?_; conv => whnf)
  refine WB.dec (fun h => ?_) (fun h => ?_) <;> conv => whnf
  · have hlt : i < A.length := by omega
    have hm := aR (d := default) hlt
    have hl1 := hl _ hm
    have hw1 := hw _ hm
    have e2 := aK dX (A.getD i default)
    repeat' first | ((first | with_reducible apply WB.tt | with_reducible apply WB.ff | refine Rn.seq ?_ | refine Rn.reg ?_ | refine Rn.drw ?_ | refine Rn.blk ?_ | refine Rn.skip ?_ | refine Rn.ret ?_ | refine Rn.exit ?_ | refine Rn.cond rfl ?_ | refine And.intro (InR.i64 (by omega) (by omega)) ?_ | refine And.intro (show _ ≠ (0 : Int) by omega) ?_ | refine WIx.intsN (by omega) ?_ | refine WIx.rowsN (by omega) ?_ | with_reducible refine WB.decT (by first | with_reducible rfl | assumption | omega | exact ⟨rfl, rfl⟩) ?_ | with_reducible refine WB.decF (by first | assumption | omega) ?_ | with_reducible refine WB.ndT (by first | with_reducible rfl | assumption | omega | exact ⟨rfl, rfl⟩) ?_ | with_reducible refine WB.ndF (by first | assumption | omega) ?_ | with_reducible refine WB.nt ?_ | with_reducible refine WB.nf ?_) <;> conv => whnf) | (refine WB.tt ?_; conv => whnf) | (refine WB.ff ?_; conv => whnf)
    refine Rn.loop (fun j : Nat => ⟨(.n (.n .e (some (.lst 1 (aD aF A))) (.n .e (some (.i .i64 (i : Int))) .e)) (some (.lst 1 (aD aF A))) (.n .e none (.n .e (some (.i .i64 (j : Int))) .e))), .e, .h, none⟩) (fun j => j ≤ (A.getD i default).length) (fun j => (A.getD i default).length - j) 0 ?_ (Nat.zero_le _) ?_
    · refine X.le.mk ?_ ?_ (Nat.le_refl _) rfl rfl
      all_goals (repeat' first | exact T.le_e _ | exact T.le_refl _ | refine T.le_some ?_ rfl ?_ | refine T.le_none ?_ ?_ | refine T.le_ee ?_ ?_)
    intro j hj
    have hj : j ≤ (A.getD i default).length := hj
    conv => whnf
    repeat' first | ((first | with_reducible apply WB.tt | with_reducible apply WB.ff | refine Rn.seq ?_ | refine Rn.reg ?_ | refine Rn.drw ?_ | refine Rn.blk ?_ | refine Rn.skip ?_ | refine Rn.ret ?_ | refine Rn.exit ?_ | refine Rn.cond rfl ?_ | refine And.intro (InR.i64 (by omega) (by omega)) ?_ | refine And.intro (show _ ≠ (0 : Int) by omega) ?_ | refine WIx.intsN (by omega) ?_ | refine WIx.rowsN (by omega) ?_ | with_reducible refine WB.decT (by first | with_reducible rfl | assumption | omega | exact ⟨rfl, rfl⟩) ?_ | with_reducible refine WB.decF (by first | assumption | omega) ?_ | with_reducible refine WB.ndT (by first | with_reducible rfl | assumption | omega | exact ⟨rfl, rfl⟩) ?_ | with_reducible refine WB.ndF (by first | assumption | omega) ?_ | with_reducible refine WB.nt ?_ | with_reducible refine WB.nf ?_) <;> conv => whnf) | (refine WB.tt ?_; conv => whnf) | (refine WB.ff ?_; conv => whnf)
    refine WB.dec (fun h2 => ?_) (fun h2 => ?_) <;> conv => whnf
    · have hlt2 : j < (A.getD i default).length := by omega
      have hx := hw1 _ (aR (d := default) hlt2)
      repeat' first | ((first | with_reducible apply WB.tt | with_reducible apply WB.ff | refine Rn.seq ?_ | refine Rn.reg ?_ | refine Rn.drw ?_ | refine Rn.blk ?_ | refine Rn.skip ?_ | refine Rn.ret ?_ | refine Rn.exit ?_ | refine Rn.cond rfl ?_ | refine And.intro (InR.i64 (by omega) (by omega)) ?_ | refine And.intro (show _ ≠ (0 : Int) by omega) ?_ | refine WIx.intsN (by omega) ?_ | refine WIx.rowsN (by omega) ?_ | with_reducible refine WB.decT (by first | with_reducible rfl | assumption | omega | exact ⟨rfl, rfl⟩) ?_ | with_reducible refine WB.decF (by first | assumption | omega) ?_ | with_reducible refine WB.ndT (by first | with_reducible rfl | assumption | omega | exact ⟨rfl, rfl⟩) ?_ | with_reducible refine WB.ndF (by first | assumption | omega) ?_ | with_reducible refine WB.nt ?_ | with_reducible refine WB.nf ?_) <;> conv => whnf) | (refine WB.tt ?_; conv => whnf) | (refine WB.ff ?_; conv => whnf)
      refine WSt.eqrN (neg := true) (r := false) [((A.getD i default).getD j default).sun, ((A.getD i default).getD j default).calm, ((A.getD i default).getD j default).good] [((A.getD i default).getD j default).sun, ((A.getD i default).getD j default).calm, ((A.getD i default).getD j default).good] rfl rfl rfl rfl (by simpa [Js] using hx) (by simpa [Js] using hx) (by simp) ?_; conv => whnf
      repeat' first | ((first | with_reducible apply WB.tt | with_reducible apply WB.ff | refine Rn.seq ?_ | refine Rn.reg ?_ | refine Rn.drw ?_ | refine Rn.blk ?_ | refine Rn.skip ?_ | refine Rn.ret ?_ | refine Rn.exit ?_ | refine Rn.cond rfl ?_ | refine And.intro (InR.i64 (by omega) (by omega)) ?_ | refine And.intro (show _ ≠ (0 : Int) by omega) ?_ | refine WIx.intsN (by omega) ?_ | refine WIx.rowsN (by omega) ?_ | with_reducible refine WB.decT (by first | with_reducible rfl | assumption | omega | exact ⟨rfl, rfl⟩) ?_ | with_reducible refine WB.decF (by first | assumption | omega) ?_ | with_reducible refine WB.ndT (by first | with_reducible rfl | assumption | omega | exact ⟨rfl, rfl⟩) ?_ | with_reducible refine WB.ndF (by first | assumption | omega) ?_ | with_reducible refine WB.nt ?_ | with_reducible refine WB.nf ?_) <;> conv => whnf) | (refine WB.tt ?_; conv => whnf) | (refine WB.ff ?_; conv => whnf)
      refine Again.to (j + 1) (by omega) (show j + 1 ≤ (A.getD i default).length by omega) (Nat.le_refl _) ?_
      refine Shr.of ?_ ?_ rfl rfl
      · show Rel _ _ ((.n (.n .e (some (.lst 1 (aD aF A))) (.n .e (some (.i .i64 (i : Int))) .e)) (some (.lst 1 (aD aF A))) (.n .e none (.n .e (some (.i .i64 ((j + 1 : Nat) : Int))) .e))) : T D) _
        (repeat' first | exact Rel.e | refine Rel.some ?_ ?_ ?_ | refine Rel.none ?_ ?_ | refine Rel.ee ?_ ?_)
        all_goals show Fz _ _ _ _
        all_goals first | exact .pu trivial | exact .pu (fS aP _)
      · show Rel _ _ (.e : T C) _
        (repeat' first | exact Rel.e | refine Rel.some ?_ ?_ ?_ | refine Rel.none ?_ ?_ | refine Rel.ee ?_ ?_)
    · repeat' first | ((first | with_reducible apply WB.tt | with_reducible apply WB.ff | refine Rn.seq ?_ | refine Rn.reg ?_ | refine Rn.drw ?_ | refine Rn.blk ?_ | refine Rn.skip ?_ | refine Rn.ret ?_ | refine Rn.exit ?_ | refine Rn.cond rfl ?_ | refine And.intro (InR.i64 (by omega) (by omega)) ?_ | refine And.intro (show _ ≠ (0 : Int) by omega) ?_ | refine WIx.intsN (by omega) ?_ | refine WIx.rowsN (by omega) ?_ | with_reducible refine WB.decT (by first | with_reducible rfl | assumption | omega | exact ⟨rfl, rfl⟩) ?_ | with_reducible refine WB.decF (by first | assumption | omega) ?_ | with_reducible refine WB.ndT (by first | with_reducible rfl | assumption | omega | exact ⟨rfl, rfl⟩) ?_ | with_reducible refine WB.ndF (by first | assumption | omega) ?_ | with_reducible refine WB.nt ?_ | with_reducible refine WB.nf ?_) <;> conv => whnf) | (refine WB.tt ?_; conv => whnf) | (refine WB.ff ?_; conv => whnf)
      refine Again.to (i + 1) (by omega) (show i + 1 ≤ A.length by omega) (Nat.le_refl _) ?_
      refine Shr.of ?_ ?_ rfl rfl
      · show Rel _ _ ((.n (.n .e (some (.lst 1 (aD aF A))) (.n .e (some (.i .i64 ((i + 1 : Nat) : Int))) .e)) (some (.lst 1 (aD aF A))) .e) : T D) _
        (repeat' first | exact Rel.e | refine Rel.some ?_ ?_ ?_ | refine Rel.none ?_ ?_ | refine Rel.ee ?_ ?_)
        all_goals show Fz _ _ _ _
        all_goals first | exact .pu trivial | exact .pu (fS aP _)
      · show Rel _ _ (.e : T C) _
        (repeat' first | exact Rel.e | refine Rel.some ?_ ?_ ?_ | refine Rel.none ?_ ?_ | refine Rel.ee ?_ ?_)
  · repeat' first | ((first | with_reducible apply WB.tt | with_reducible apply WB.ff | refine Rn.seq ?_ | refine Rn.reg ?_ | refine Rn.drw ?_ | refine Rn.blk ?_ | refine Rn.skip ?_ | refine Rn.ret ?_ | refine Rn.exit ?_ | refine Rn.cond rfl ?_ | refine And.intro (InR.i64 (by omega) (by omega)) ?_ | refine And.intro (show _ ≠ (0 : Int) by omega) ?_ | refine WIx.intsN (by omega) ?_ | refine WIx.rowsN (by omega) ?_ | with_reducible refine WB.decT (by first | with_reducible rfl | assumption | omega | exact ⟨rfl, rfl⟩) ?_ | with_reducible refine WB.decF (by first | assumption | omega) ?_ | with_reducible refine WB.ndT (by first | with_reducible rfl | assumption | omega | exact ⟨rfl, rfl⟩) ?_ | with_reducible refine WB.ndF (by first | assumption | omega) ?_ | with_reducible refine WB.nt ?_ | with_reducible refine WB.nf ?_) <;> conv => whnf) | (refine WB.tt ?_; conv => whnf) | (refine WB.ff ?_; conv => whnf)
    exact Fin.b rfl rfl
set_option maxRecDepth 1000000
def Mo : RC := (.seq (.reg [(.u (.box p4 (.t p1))), (.u (.mv p7 (.k (.b false))))]) (.seq (.seq (.reg [(fW bM p4 9), (.u (.cf (some bJ) p20 [(.t bM)])), (.u (.un bS .not (.t bJ))), (Mv bU bS), (.g bU false (some cQ) (.mv cQ (.t p2))), (.g bU false (some cZ) (.cf (some cZ) p21 [(.t cQ)])), (.g bU false (some dC) (.un dC .not (.t cZ))), (.u (.pick dT (.t bU) (.k (.b true)) (.t dC))), (Mv p20 dT), (.g p20 false (some p21) (.mv p21 (.t p3))), (.g p20 false (some p22) (.len p22 (.t p21))), (.g p20 false (some p23) (.bin p23 .gtr (.t p22) (.k (.i .i64 7)))), (.u (.pick p24 (.t p20) (.k (.b true)) (.t p23)))]) (.cond (.t p24) (.seq (.reg [(.u (.cf (some p25) p22 [])), (Mv p7 p25)]) .ret) .skip)) (.seq (.reg [(fW p27 p4 9), (.u (.cf (some p28) p24 [(.t p27)])), (Mv p29 p2), (.u (.cf (some p30) p25 [(.t p29)])), (Mv p31 p3), (.u (.cf (some p32) p26 [(.t p31)])), (.u (.cf (some p33) p23 [(.t p28), (.t p30), (.t p32)])), (Mv p26 p33), (.u (.ext p34 (.t p26) 0)), (.u (.ext iS (.t p26) 1)), (Mv p8 p34), (Mv p9 iS)]) (.seq (.reg [(fW mU p4 9), (.u (.cf (some pV) p24 [(.t mU)])), (Mv qG p3), (.u (.cf (some qP) p26 [(.t qG)])), (.u (.cf (some tN) p27 [(.t pV), (.t qP)])), (Mv bE tN)]) (.seq (.reg [(fW qQ p4 9), (.u (.cf (some p42) p28 [(.t qQ)])), (Mv bH p42)]) (.seq (.seq (.reg [(fW sA p4 9), (.u (.cf (some p44) p24 [(.t sA)])), (.u (.cf (some p45) p29 [(.t p44)])), (Mv oW bH), (dW tY .neq p45 oW), (Mv oY tY), (.g oY false (some p49) (.mv p49 (.t bE))), (.g oY false (some tP) (.mv tP (.t bH))), (.g oY false (some vN) (.bin vN .eql (.t tP) (.k (.i .i64 0)))), (.g oY false (some jA) (.mv jA (.t vN))), (.g jA true (some sJ) (.ldn sJ (.t p4) 9)), (.g jA true (some tA) (.mv tA (.t p3))), (.g jA true (some sG) (.cf (some sG) p30 [(.t sJ), (.t tA)])), (.g oY false (some sQ) (.pick sQ (.t jA) (.t sG) (.k (.b false)))), (.g oY false (some tO) (.eq tO true 0 (.t p49) (.t sQ))), (.u (.pick tZ (.t oY) (.k (.b true)) (.t tO)))]) (.cond (.t tZ) (.seq (.reg [(.u (.mv p7 (.k (.b false))))]) .ret) .skip)) (.seq (.seq (.reg [(Mv vU bH), (dI oX .eql vU 0), (Mv oM oX), (.g oM true (some tW) (.ldn tW (.t p4) 9)), (.g oM true (some qR) (.mv qR (.t p2))), (.g oM true (some uP) (.cf (some uP) p31 [(.t tW), (.t qR)])), (.g oM true (some vV) (.un vV .not (.t uP))), (.g oM true (some rC) (.mv rC (.t vV))), (.g rC false (some uL) (.ldn uL (.t p4) 9)), (.g rC false (some xG) (.mv xG (.t p3))), (.g rC false (some oE) (.cf (some oE) p32 [(.t uL), (.t xG)])), (.g rC false (some p70) (.un p70 .not (.t oE))), (.g oM true (some wY) (.pick wY (.t rC) (.k (.b true)) (.t p70))), (.u (.pick AH (.t oM) (.t wY) (.k (.b false))))]) (.cond (.t AH) (.reg [(.u (.mv bH (.k (.i .i64 2))))]) .skip)) (.seq (.seq (.reg [(Mv AK bH), (dI AB .neq AK 0)]) (.cond (.t AB) (.seq (.reg [(Mv Ax p9), (Mv CM bH), (dW wC .eql Ax CM), (Mv p78 wC), (.g p78 true (some Ak) (.mv Ak (.t p8))), (.g p78 true (some Az) (.len Az (.t Ak))), (.g p78 true (some AG) (.bin AG .eql (.t Az) (.k (.i .i64 0)))), (.u (.pick p82 (.t p78) (.t AG) (.k (.b false)))), (Mv p83 p82), (.g p83 true (some p84) (.cf (some p84) p22 [])), (.u (.pick p85 (.t p83) (.t p84) (.k (.b false)))), (Mv p7 p85)]) .ret) .skip)) (.seq (.reg [(Mv p86 p9), (dI p87 .eql p86 0), (Mv p88 p87), (.g p88 true (some p89) (.mv p89 (.t p8))), (.g p88 true (some p90) (.ldn p90 (.t p4) 9)), (.g p88 true (some Gm) (.mv Gm (.t p2))), (.g p88 true (some Ii) (.mv Ii (.t p3))), (.g p88 true (some GJ) (.cf (some GJ) p34 [(.t p90), (.t Gm), (.t Ii)])), (.g p88 true (some HL) (.cf (some HL) p33 [(.t p89), (.t GJ)])), (.u (.pick Jt (.t p88) (.t HL) (.k (.b false)))), (Mv Gp Jt), (.g Gp true (some Hm) (.cf (some Hm) p22 [])), (.u (.pick Jz (.t Gp) (.t Hm) (.k (.b false)))), (Mv p7 Jz)]) .ret)))))))))
def Ms : List RR := [(.t p7)]
theorem Mi : FnOk Tryz.prog p4.ix 98 Mo Ms := ⟨Tryz.f3, aO Tryz.f3, Tryz.func3, by kernel_rfl, by kernel_rfl, by kernel_rfl, by kernel_rfl, by kernel_rfl⟩
set_option maxRecDepth 100000
theorem Df {b : Bh} (V : VW b) (t : List Int) : mL b t = uI (kM b) t := by
  have hv := V.last
  have hw := V.winl
  have key : mL b t = true ↔ uI (kM b) t = true := by
    rw [mO V.nt]
    unfold mL
    simp only [Bool.and_eq_true, decide_eq_true_iff, List.all_eq_true, List.mem_range, jT]
    constructor
    · rintro ⟨h1, h2⟩
      refine ⟨by show t.length = (b.last + 1).toNat; omega, fun i hi => ?_⟩
      have hi : i < (b.last + 1).toNat := hi
      exact iC.2 ⟨h2 i (by omega), fun n hn => absurd hn (by simp [kM])⟩
    · rintro ⟨h1, h2⟩
      have h1 : t.length = (b.last + 1).toNat := h1
      refine ⟨by omega, fun i hi => ?_⟩
      exact (iC.1 (h2 i (by show i < (b.last + 1).toNat; omega))).1
  cases h : uI (kM b) t with
  | true => exact key.2 h
  | false =>
    cases k : mL b t with
    | false => rfl
    | true => rw [key.1 k] at h; cases h
theorem zB (b : Bh) (p : Int × Int) (d : Int) : ∀ k, iU (kM b) p d k = iU b p d k
  | 0 => rfl
  | k + 1 => by
    show (iU (kM b) p d k || rD b.brk (aW p d (k + 1))) = (iU b p d k || rD b.brk (aW p d (k + 1)))
    rw [zB b p d k]
theorem ER (b : Bh) (p : Int × Int) (f : Int) (h : Nat) (d : Int) : kF (kM b) p f h d = kF b p f h d := by
  unfold kF xJ
  rw [show iU (kM b) p d (kM b).rch.toNat = iU b p d b.rch.toNat from zB b p d _]
  rfl
theorem Cr (b : Bh) (S : Nat → Nat → Int) (p : Int × Int) (t : List Int) : ∀ j, bY (kM b) S p t j = bY b S p t j
  | 0 => rfl
  | j + 1 => by
    show oS (bY (kM b) S p t j) _ = oS (bY b S p t j) _
    rw [Cr b S p t j, ER]
theorem Fv (b : Bh) (L : List (List Int)) (t : List Int) : DD (kM b) L t = DD b L t := by
  funext r p
  exact Cr b (dA L) _ t t.length
theorem FL (b : Bh) (L : List (List Int)) (t : List Int) (ht : t.length ≤ 7) (r p : Nat) : Js (DD b L t r p) := by
  have h := kZ b (dA L) ((r : Int), (p : Int)) t t.length
  exact ⟨qC (by show _ ≤ (bY b (dA L) ((r : Int), (p : Int)) t t.length).sun; omega) (by show (bY b (dA L) ((r : Int), (p : Int)) t t.length).sun ≤ _; omega), qC (by show _ ≤ (bY b (dA L) ((r : Int), (p : Int)) t t.length).calm; omega) (by show (bY b (dA L) ((r : Int), (p : Int)) t t.length).calm ≤ _; omega), qC (by show _ ≤ (bY b (dA L) ((r : Int), (p : Int)) t t.length).good; omega) (by show (bY b (dA L) ((r : Int), (p : Int)) t t.length).good ≤ _; omega)⟩
theorem yO {τ : Type} {H : Nat → Nat → τ} {n m : Nat} {w : List τ} (h : w ∈ iW H n m) : w.length = m ∧ ∀ x ∈ w, ∃ r p, x = H r p := by
  unfold iW at h
  obtain ⟨r, _, rfl⟩ := List.mem_map.1 h
  refine ⟨by simp, fun x hx => ?_⟩
  obtain ⟨p, _, rfl⟩ := List.mem_map.1 hx
  exact ⟨r, p, rfl⟩
structure ThF (b : Bh) : Prop where
  l1 : b.face.length ≤ 1000
  l2 : b.sun.length ≤ 1000
  l3 : b.winds.length ≤ 1000
  l4 : b.brk.length ≤ 1000
  l5 : b.nts.length ≤ 1000
  l6 : ∀ w ∈ b.winds, w.length ≤ 1000
theorem Fu {b : Bh} (h : uG b = true) : ThF b := by
  unfold uG at h
  simp only [Bool.and_eq_true, decide_eq_true_iff] at h
  obtain ⟨a1, a2, a3, a4, a5, _⟩ := h
  obtain ⟨b1, b2⟩ := sO a3
  exact ⟨by omega, by omega, by omega, by omega, by omega, fun w hw => Nat.le_trans (b2 w hw) (by decide)⟩
set_option maxHeartbeats 8000000 in
theorem vR (b : Bh) (L : List (List Int)) (t : List Int) (AW : PureF Tryz.prog p22.ix [] (.b true)) : PureF Tryz.prog p4.ix [.ag (eA b), .lst 1 (aD cJ L), .lst 1 (ints t)] (.b true) := by
  have e1 := aK cJ L
  have e2 := aL t
  have cTh := Fx b
  have cBr := zG L
  refine PureF.run Mi (by simp) (by simp [aT, dU, Pu, aX, aG, aB]) ?_; conv => whnf
  cases hTh : uG b with
  | false =>
    rw [hTh] at cTh
    repeat' first | ((first | with_reducible apply WB.tt | with_reducible apply WB.ff | refine Rn.seq ?_ | refine Rn.reg ?_ | refine Rn.drw ?_ | refine Rn.blk ?_ | refine Rn.skip ?_ | refine Rn.ret ?_ | refine Rn.exit ?_ | refine Rn.cond rfl ?_ | refine And.intro (InR.i64 (by omega) (by omega)) ?_ | refine And.intro (show _ ≠ (0 : Int) by omega) ?_ | refine WIx.intsN (by omega) ?_ | refine WIx.rowsN (by omega) ?_ | refine WCall.pure (cTh) ?_ | refine WCall.pure (AW) ?_ | with_reducible refine WB.decT (by first | with_reducible rfl | assumption | omega | exact ⟨rfl, rfl⟩) ?_ | with_reducible refine WB.decF (by first | assumption | omega) ?_ | with_reducible refine WB.ndT (by first | with_reducible rfl | assumption | omega | exact ⟨rfl, rfl⟩) ?_ | with_reducible refine WB.ndF (by first | assumption | omega) ?_ | with_reducible refine WB.nt ?_ | with_reducible refine WB.nf ?_ | with_reducible refine WB.dec (fun h => ?_) (fun h => ?_) | with_reducible refine WB.ndec (fun h => ?_) (fun h => ?_) | refine WB.mk (fun h => ?_) (fun h => ?_)) <;> conv => whnf) | (refine WB.tt ?_; conv => whnf) | (refine WB.ff ?_; conv => whnf)
    exact Fin.b rfl rfl
  | true =>
  rw [hTh] at cTh
  cases hBr : sU L with
  | false =>
    rw [hBr] at cBr
    repeat' first | ((first | with_reducible apply WB.tt | with_reducible apply WB.ff | refine Rn.seq ?_ | refine Rn.reg ?_ | refine Rn.drw ?_ | refine Rn.blk ?_ | refine Rn.skip ?_ | refine Rn.ret ?_ | refine Rn.exit ?_ | refine Rn.cond rfl ?_ | refine And.intro (InR.i64 (by omega) (by omega)) ?_ | refine And.intro (show _ ≠ (0 : Int) by omega) ?_ | refine WIx.intsN (by omega) ?_ | refine WIx.rowsN (by omega) ?_ | refine WCall.pure (cTh) ?_ | refine WCall.pure (cBr) ?_ | refine WCall.pure (AW) ?_ | with_reducible refine WB.decT (by first | with_reducible rfl | assumption | omega | exact ⟨rfl, rfl⟩) ?_ | with_reducible refine WB.decF (by first | assumption | omega) ?_ | with_reducible refine WB.ndT (by first | with_reducible rfl | assumption | omega | exact ⟨rfl, rfl⟩) ?_ | with_reducible refine WB.ndF (by first | assumption | omega) ?_ | with_reducible refine WB.nt ?_ | with_reducible refine WB.nf ?_ | with_reducible refine WB.dec (fun h => ?_) (fun h => ?_) | with_reducible refine WB.ndec (fun h => ?_) (fun h => ?_) | refine WB.mk (fun h => ?_) (fun h => ?_)) <;> conv => whnf) | (refine WB.tt ?_; conv => whnf) | (refine WB.ff ?_; conv => whnf)
    exact Fin.b rfl rfl
  | true =>
  rw [hBr] at cBr
  by_cases ht : 7 < t.length
  · repeat' first | ((first | with_reducible apply WB.tt | with_reducible apply WB.ff | refine Rn.seq ?_ | refine Rn.reg ?_ | refine Rn.drw ?_ | refine Rn.blk ?_ | refine Rn.skip ?_ | refine Rn.ret ?_ | refine Rn.exit ?_ | refine Rn.cond rfl ?_ | refine And.intro (InR.i64 (by omega) (by omega)) ?_ | refine And.intro (show _ ≠ (0 : Int) by omega) ?_ | refine WIx.intsN (by omega) ?_ | refine WIx.rowsN (by omega) ?_ | refine WCall.pure (cTh) ?_ | refine WCall.pure (cBr) ?_ | refine WCall.pure (AW) ?_ | with_reducible refine WB.decT (by first | with_reducible rfl | assumption | omega | exact ⟨rfl, rfl⟩) ?_ | with_reducible refine WB.decF (by first | assumption | omega) ?_ | with_reducible refine WB.ndT (by first | with_reducible rfl | assumption | omega | exact ⟨rfl, rfl⟩) ?_ | with_reducible refine WB.ndF (by first | assumption | omega) ?_ | with_reducible refine WB.nt ?_ | with_reducible refine WB.nf ?_ | with_reducible refine WB.dec (fun h => ?_) (fun h => ?_) | with_reducible refine WB.ndec (fun h => ?_) (fun h => ?_) | refine WB.mk (fun h => ?_) (fun h => ?_)) <;> conv => whnf) | (refine WB.tt ?_; conv => whnf) | (refine WB.ff ?_; conv => whnf)
    exact Fin.b rfl rfl
  have F := Fu hTh
  obtain ⟨b1, b2⟩ := sO hBr
  have b3 : ∀ w ∈ L, w.length ≤ 1000 := fun w hw => Nat.le_trans (b2 w hw) (by decide)
  have cB := Dw b F.l1 F.l2 F.l3 F.l4 F.l5 F.l6
  have cL := yP L (by omega) (fun w hw => Nat.le_trans (b2 w hw) (by decide))
  have cl := tH t (by omega)
  have cP := De b t F.l1 F.l2 F.l3 F.l6
  have cF := Dt b F.l1 F.l2 F.l3 F.l6
  have cC := mE b F.l1 F.l2 F.l3 F.l6
  by_cases hf : bQ b = 0
  rotate_left
  · have cY := DE b L t F.l1 F.l2 F.l3 F.l6 hf
    rw [decide_eq_false hf, Bool.false_and] at cP
    repeat' first | ((first | with_reducible apply WB.tt | with_reducible apply WB.ff | refine Rn.seq ?_ | refine Rn.reg ?_ | refine Rn.drw ?_ | refine Rn.blk ?_ | refine Rn.skip ?_ | refine Rn.ret ?_ | refine Rn.exit ?_ | refine Rn.cond rfl ?_ | refine And.intro (InR.i64 (by omega) (by omega)) ?_ | refine And.intro (show _ ≠ (0 : Int) by omega) ?_ | refine WIx.intsN (by omega) ?_ | refine WIx.rowsN (by omega) ?_ | refine WCall.pure (cTh) ?_ | refine WCall.pure (cBr) ?_ | refine WCall.pure (cB) ?_ | refine WCall.pure (cL) ?_ | refine WCall.pure (cl) ?_ | refine WCall.pure (cP) ?_ | refine WCall.pure (cF) ?_ | refine WCall.pure (cC) ?_ | refine WCall.pure (cY) ?_ | refine WCall.pure (AW) ?_ | with_reducible refine WB.decT (by first | with_reducible rfl | assumption | omega | exact ⟨rfl, rfl⟩) ?_ | with_reducible refine WB.decF (by first | assumption | omega) ?_ | with_reducible refine WB.ndT (by first | with_reducible rfl | assumption | omega | exact ⟨rfl, rfl⟩) ?_ | with_reducible refine WB.ndF (by first | assumption | omega) ?_ | with_reducible refine WB.nt ?_ | with_reducible refine WB.nf ?_ | with_reducible refine WB.dec (fun h => ?_) (fun h => ?_) | with_reducible refine WB.ndec (fun h => ?_) (fun h => ?_) | refine WB.mk (fun h => ?_) (fun h => ?_)) <;> conv => whnf) | (refine WB.tt ?_; conv => whnf) | (refine WB.ff ?_; conv => whnf)
    all_goals first | exact Fin.b rfl rfl | exact absurd h (by decide)
  rw [decide_eq_true hf, Bool.true_and] at cP
  have Z := gH hf
  have V := Z.v
  have hv := V.last
  have cT := Aw b V t F.l6 F.l5
  rw [← Bs V] at cT
  have cI := BX b L (by omega) (by omega) b3
  have cS := qN b t F.l6 F.l3
  rw [Df V] at cS
  cases hp : jF b L with
  | false =>
    have cY := yC b L t F.l1 F.l2 F.l3 F.l6 (by omega) b3 hf (by rw [hp]; rfl)
    rw [hf] at cF cC
    rw [hp] at cI
    cases hi : uI b t
    all_goals
      rw [hi] at cP cT
      repeat' first | ((first | with_reducible apply WB.tt | with_reducible apply WB.ff | refine Rn.seq ?_ | refine Rn.reg ?_ | refine Rn.drw ?_ | refine Rn.blk ?_ | refine Rn.skip ?_ | refine Rn.ret ?_ | refine Rn.exit ?_ | refine Rn.cond rfl ?_ | refine And.intro (InR.i64 (by omega) (by omega)) ?_ | refine And.intro (show _ ≠ (0 : Int) by omega) ?_ | refine WIx.intsN (by omega) ?_ | refine WIx.rowsN (by omega) ?_ | refine WCall.pure (cTh) ?_ | refine WCall.pure (cBr) ?_ | refine WCall.pure (cB) ?_ | refine WCall.pure (cL) ?_ | refine WCall.pure (cl) ?_ | refine WCall.pure (cP) ?_ | refine WCall.pure (cF) ?_ | refine WCall.pure (cC) ?_ | refine WCall.pure (cY) ?_ | refine WCall.pure (cT) ?_ | refine WCall.pure (cI) ?_ | refine WCall.pure (AW) ?_ | with_reducible refine WB.decT (by first | with_reducible rfl | assumption | omega | exact ⟨rfl, rfl⟩) ?_ | with_reducible refine WB.decF (by first | assumption | omega) ?_ | with_reducible refine WB.ndT (by first | with_reducible rfl | assumption | omega | exact ⟨rfl, rfl⟩) ?_ | with_reducible refine WB.ndF (by first | assumption | omega) ?_ | with_reducible refine WB.nt ?_ | with_reducible refine WB.nf ?_ | with_reducible refine WB.dec (fun h => ?_) (fun h => ?_) | with_reducible refine WB.ndec (fun h => ?_) (fun h => ?_) | refine WB.mk (fun h => ?_) (fun h => ?_)) <;> conv => whnf) | (refine WB.tt ?_; conv => whnf) | (refine WB.ff ?_; conv => whnf)
      all_goals first | exact Fin.b rfl rfl | exact absurd h (by decide)
  | true =>
  rw [hp] at cI
  cases hl : uI (kM b) t with
  | false =>
    have cY := yC b L t F.l1 F.l2 F.l3 F.l6 (by omega) b3 hf (by rw [hp, hl]; rfl)
    rw [hf] at cF cC
    rw [hl] at cS
    cases hi : uI b t
    all_goals
      rw [hi] at cP cT
      repeat' first | ((first | with_reducible apply WB.tt | with_reducible apply WB.ff | refine Rn.seq ?_ | refine Rn.reg ?_ | refine Rn.drw ?_ | refine Rn.blk ?_ | refine Rn.skip ?_ | refine Rn.ret ?_ | refine Rn.exit ?_ | refine Rn.cond rfl ?_ | refine And.intro (InR.i64 (by omega) (by omega)) ?_ | refine And.intro (show _ ≠ (0 : Int) by omega) ?_ | refine WIx.intsN (by omega) ?_ | refine WIx.rowsN (by omega) ?_ | refine WCall.pure (cTh) ?_ | refine WCall.pure (cBr) ?_ | refine WCall.pure (cB) ?_ | refine WCall.pure (cL) ?_ | refine WCall.pure (cl) ?_ | refine WCall.pure (cP) ?_ | refine WCall.pure (cF) ?_ | refine WCall.pure (cC) ?_ | refine WCall.pure (cY) ?_ | refine WCall.pure (cT) ?_ | refine WCall.pure (cI) ?_ | refine WCall.pure (cS) ?_ | refine WCall.pure (AW) ?_ | with_reducible refine WB.decT (by first | with_reducible rfl | assumption | omega | exact ⟨rfl, rfl⟩) ?_ | with_reducible refine WB.decF (by first | assumption | omega) ?_ | with_reducible refine WB.ndT (by first | with_reducible rfl | assumption | omega | exact ⟨rfl, rfl⟩) ?_ | with_reducible refine WB.ndF (by first | assumption | omega) ?_ | with_reducible refine WB.nt ?_ | with_reducible refine WB.nf ?_ | with_reducible refine WB.dec (fun h => ?_) (fun h => ?_) | with_reducible refine WB.ndec (fun h => ?_) (fun h => ?_) | refine WB.mk (fun h => ?_) (fun h => ?_)) <;> conv => whnf) | (refine WB.tt ?_; conv => whnf) | (refine WB.ff ?_; conv => whnf)
      all_goals first | exact Fin.b rfl rfl | exact absurd h (by decide)
  | true =>
  have cY := DQ b L t F.l1 F.l2 F.l3 F.l6 (by omega) b3 hf hp hl
  rw [Fv] at cY
  have tp := (mO V.nt).1 hl
  have cR := Dy b V L t hp tp.len (GO V.nt tp) F.l4
  have q1 := V.rws
  have q2 := V.pls
  have cH := Jk (iW (DD b L t) b.rws.toNat b.pls.toNat) (by rw [tJ]; omega) (fun w hw => by rw [(yO hw).1]; omega) (fun w hw x hx => by
    obtain ⟨r, p, rfl⟩ := (yO hw).2 x hx
    exact FL b L t (by omega) r p)
  rw [hf] at cF cC
  rw [hl] at cS
  cases hi : uI b t
  all_goals
    rw [hi] at cP cT
    repeat' first | ((first | with_reducible apply WB.tt | with_reducible apply WB.ff | refine Rn.seq ?_ | refine Rn.reg ?_ | refine Rn.drw ?_ | refine Rn.blk ?_ | refine Rn.skip ?_ | refine Rn.ret ?_ | refine Rn.exit ?_ | refine Rn.cond rfl ?_ | refine And.intro (InR.i64 (by omega) (by omega)) ?_ | refine And.intro (show _ ≠ (0 : Int) by omega) ?_ | refine WIx.intsN (by omega) ?_ | refine WIx.rowsN (by omega) ?_ | refine WCall.pure (cTh) ?_ | refine WCall.pure (cBr) ?_ | refine WCall.pure (cB) ?_ | refine WCall.pure (cL) ?_ | refine WCall.pure (cl) ?_ | refine WCall.pure (cP) ?_ | refine WCall.pure (cF) ?_ | refine WCall.pure (cC) ?_ | refine WCall.pure (cY) ?_ | refine WCall.pure (cT) ?_ | refine WCall.pure (cI) ?_ | refine WCall.pure (cS) ?_ | refine WCall.pure (cR) ?_ | refine WCall.pure (cH) ?_ | refine WCall.pure (AW) ?_ | with_reducible refine WB.decT (by first | with_reducible rfl | assumption | omega | exact ⟨rfl, rfl⟩) ?_ | with_reducible refine WB.decF (by first | assumption | omega) ?_ | with_reducible refine WB.ndT (by first | with_reducible rfl | assumption | omega | exact ⟨rfl, rfl⟩) ?_ | with_reducible refine WB.ndF (by first | assumption | omega) ?_ | with_reducible refine WB.nt ?_ | with_reducible refine WB.nf ?_ | with_reducible refine WB.dec (fun h => ?_) (fun h => ?_) | with_reducible refine WB.ndec (fun h => ?_) (fun h => ?_) | refine WB.mk (fun h => ?_) (fun h => ?_)) <;> conv => whnf) | (refine WB.tt ?_; conv => whnf) | (refine WB.ff ?_; conv => whnf)
    all_goals first | exact Fin.b rfl rfl | exact absurd h (by decide)
theorem kB : ∀ {es : List (List D)}, (∀ x ∈ es, FitL [.i .i64] x) → ∃ l : List Int, es = ints l
  | [], _ => ⟨[], rfl⟩
  | x :: es, h => by
    obtain ⟨l, rfl⟩ := kB (es := es) fun y hy => h y (by simp [hy])
    have h1 := h x (by simp)
    simp only [FitL, fR] at h1
    obtain ⟨d, ds, rfl, ⟨n1, rfl, w1⟩, rfl⟩ := h1
    exact ⟨n1 :: l, rfl⟩
theorem pK : ∀ {es : List (List D)}, (∀ x ∈ es, FitL [.sl [.i .i64]] x) → ∃ l : List (List Int), es = aD cJ l
  | [], _ => ⟨[], rfl⟩
  | x :: es, h => by
    obtain ⟨l, rfl⟩ := pK (es := es) fun y hy => h y (by simp [hy])
    have h1 := h x (by simp)
    simp only [FitL, fR] at h1
    obtain ⟨d, ds, rfl, ⟨e1, rfl, k1⟩, rfl⟩ := h1
    obtain ⟨w, rfl⟩ := kB fun x hx => by have := k1 x hx; simpa only [FitL, fR] using this
    exact ⟨w :: l, rfl⟩
theorem sX : ∀ {es : List (List D)}, (∀ x ∈ es, FitL [.i .i64, .i .i64] x) → ∃ l : List (Int × Int), es = aD bL l
  | [], _ => ⟨[], rfl⟩
  | x :: es, h => by
    obtain ⟨l, rfl⟩ := sX (es := es) fun y hy => h y (by simp [hy])
    have h1 := h x (by simp)
    simp only [FitL, fR] at h1
    obtain ⟨d, ds, rfl, ⟨n1, rfl, w1⟩, d2, ds2, rfl, ⟨n2, rfl, w2⟩, rfl⟩ := h1
    exact ⟨(n1, n2) :: l, rfl⟩
theorem FitP.beach {ps : List (Bool × List CK)} {ds : List D} (h : FitP ((true, [.i .i64, .i .i64, .i .i64, .i .i64, .sl [.i .i64], .sl [.i .i64], .sl [.sl [.i .i64]], .sl [.i .i64, .i .i64], .sl [.i .i64, .i .i64]]) :: ps) ds) : ∃ (b : Bh) (ds' : List D), ds = .ag (eA b) :: ds' ∧ FitP ps ds' := by
  unfold FitP at h
  obtain ⟨es, ds', rfl, h1, h2⟩ := h
  simp only [FitL, fR] at h1
  obtain ⟨d, ds, rfl, ⟨n1, rfl, _⟩, d2, ds2, rfl, ⟨n2, rfl, _⟩, d3, ds3, rfl, ⟨n3, rfl, _⟩, d4, ds4, rfl, ⟨n4, rfl, _⟩, d5, ds5, rfl, ⟨e5, rfl, k5⟩, d6, ds6, rfl, ⟨e6, rfl, k6⟩, d7, ds7, rfl, ⟨e7, rfl, k7⟩, d8, ds8, rfl, ⟨e8, rfl, k8⟩, d9, ds9, rfl, ⟨e9, rfl, k9⟩, rfl⟩ := h1
  obtain ⟨l5, rfl⟩ := kB fun x hx => by have := k5 x hx; simpa only [FitL, fR] using this
  obtain ⟨l6, rfl⟩ := kB fun x hx => by have := k6 x hx; simpa only [FitL, fR] using this
  obtain ⟨l7, rfl⟩ := pK fun x hx => by have := k7 x hx; simpa only [FitL, fR] using this
  obtain ⟨l8, rfl⟩ := sX fun x hx => by have := k8 x hx; simpa only [FitL, fR] using this
  obtain ⟨l9, rfl⟩ := sX fun x hx => by have := k9 x hx; simpa only [FitL, fR] using this
  exact ⟨⟨n1, n2, n3, n4, l5, l6, l7, l8, l9⟩, ds', rfl, h2⟩
theorem FitP.wins {ps : List (Bool × List CK)} {ds : List D} (h : FitP ((false, [.sl [.sl [.i .i64]]]) :: ps) ds) : ∃ (t : List (List Int)) (ds' : List D), ds = .lst 1 (aD cJ t) :: ds' ∧ FitP ps ds' := by
  unfold FitP at h
  obtain ⟨d, ds', rfl, h1, h2⟩ := h
  simp only [FitL, fR] at h1
  obtain ⟨d, ds, e, ⟨es, rfl, h1⟩, rfl⟩ := h1
  cases e
  obtain ⟨l, rfl⟩ := pK fun x hx => by have := h1 x hx; simpa only [FitL, fR] using this
  exact ⟨l, ds', rfl, h2⟩
theorem main_windPlays (AW : PureF Tryz.prog p22.ix [] (.b true)) {es : List D} (fit : FitP [(true, [.i .i64, .i .i64, .i .i64, .i .i64, .sl [.i .i64], .sl [.i .i64], .sl [.sl [.i .i64]], .sl [.i .i64, .i .i64], .sl [.i .i64, .i .i64]]), (false, [.sl [.sl [.i .i64]]]), (false, [.sl [.i .i64]])] es) : PureF Tryz.prog 3 es (.b true) := by
  obtain ⟨b, _, rfl, g1⟩ := fit.beach
  obtain ⟨L, _, rfl, g2⟩ := g1.wins
  obtain ⟨t, _, rfl, _, g3⟩ := g2.list
  obtain rfl := g3.no
  exact vR b L t AW
end Go.Ev
end
