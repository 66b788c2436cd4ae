import Derived.Test.YtkbgaadfednjpaaGreatDoorEvULk
import Derived.Test.YtkbgaadfednjpaaGreatDoorEvUSq
import Derived.Test.YtkbgaadfednjpaaGreatDoorEvU4r
import Derived.Test.YtkbgaadfednjpaaGreatDoorEvU4b
set_option linter.all false
set_option maxHeartbeats 8000000
noncomputable section
namespace Go.Ev
set_option maxRecDepth 100000
theorem vO : ∀ (xs ys : List Int), xs.length = ys.length → (∀ n ∈ xs, qS .i64 n = true) → (∀ n ∈ ys, qS .i64 n = true) → AH (xs.map fun _ => .i .i64) (xs.map fun n => D.i .i64 n) (ys.map fun n => D.i .i64 n) = some (decide (xs = ys))
  | [], [], _, _, _ => by simp [AH]
  | a :: xs, b :: ys, hl, h1, h2 => by
    have ih := vO xs ys (by simpa using hl) (fun n hn => h1 n (by simp [hn])) (fun n hn => h2 n (by simp [hn]))
    have hk : rV .i64 .i64 = true := rfl
    have w1 := h1 a (by simp)
    have w2 := h2 b (by simp)
    simp only [List.map_cons, AH, Jq, hk, w1, w2, Bool.and_self, cond_true, ih, Option.some.injEq]
    rw [jJ]
    by_cases h : a = b
    · by_cases h' : xs = ys <;> simp [h, h']
    · simp [h]
  | [], _ :: _, h, _, _ => by simp at h
  | _ :: _, [], h, _, _ => by simp at h
theorem WSt.eqrN {sl : T D} {ob : T C} {nx : Pos} {K : X → Prop} {lg : Option (T Bool)} {d : Pos} {x y : RX} {neg : Bool} {ks : List LK} (xs ys : List Int) (h1 : bO sl x = some (.ag (xs.map fun n => D.i .i64 n))) (h2 : bO sl y = some (.ag (ys.map fun n => D.i .i64 n))) (hk : ks = xs.map fun _ => .i .i64) (hl : xs.length = ys.length) (w1 : ∀ n ∈ xs, qS .i64 n = true) (w2 : ∀ n ∈ ys, qS .i64 n = true) {r : Bool} (hr : (bif neg then !decide (xs = ys) else decide (xs = ys)) = r) (k : eT sl ob nx lg d K (.b r)) :
    WSt (.eqr d neg ks x y) ⟨sl, ob, nx, lg⟩ K := by
  obtain ⟨k1, k2⟩ := bG k
  refine ⟨_, ?_, k2⟩
  show nW _ _ _ x y sl ob nx lg = _
  unfold nW
  rw [h1, h2]
  have e : Aw ks (.ag (xs.map fun n => D.i .i64 n)) (.ag (ys.map fun n => D.i .i64 n)) = some (decide (xs = ys)) := by
    rw [hk]
    exact vO xs ys hl w1 w2
  simp only [e, bK, hr]
  exact k1
open Go.Proofs
def Jy (x : Hr) : Prop := qS .i64 x.sun = true ∧ qS .i64 x.calm = true ∧ qS .i64 x.good = true
instance : Inhabited Hr := ⟨⟨0, 0, 0⟩⟩
theorem Hs (A : List (List Hr)) (hA : A.length ≤ 1000) (hl : ∀ w ∈ A, w.length ≤ 1000) (hw : ∀ w ∈ A, ∀ x ∈ w, Jy x) : PureF Tryz.prog p33.ix [.lst 1 (aD aF A), .lst 1 (aD aF A)] (.b true) := by
  have e1 := aK aF A
  refine PureF.run KN (by simp) ⟨fS aP _, fS aP _, trivial⟩ ?_; conv => whnf
  repeat' first | ((first | with_reducible apply WB.tt | with_reducible apply WB.ff | refine Rn.seq ?_ | refine Rn.reg ?_ | refine Rn.drw ?_ | refine Rn.blk ?_ | refine Rn.skip ?_ | refine Rn.ret ?_ | refine Rn.exit ?_ | refine Rn.cond rfl ?_ | refine And.intro (InR.i64 (by omega) (by omega)) ?_ | refine And.intro (show _ ≠ (0 : Int) by omega) ?_ | refine WIx.intsN (by omega) ?_ | refine WIx.rowsN (by omega) ?_ | with_reducible refine WB.decT (by first | with_reducible rfl | assumption | omega | exact ⟨rfl, rfl⟩) ?_ | with_reducible refine WB.decF (by first | assumption | omega) ?_ | with_reducible refine WB.ndT (by first | with_reducible rfl | assumption | omega | exact ⟨rfl, rfl⟩) ?_ | with_reducible refine WB.ndF (by first | assumption | omega) ?_ | with_reducible refine WB.nt ?_ | with_reducible refine WB.nf ?_) <;> conv => whnf) | (refine WB.tt ?_; conv => whnf) | (refine WB.ff ?_; conv => whnf)
  refine Rn.loop (fun j : Nat => ⟨(.n (.n .e (some (.lst 1 (aD aF A))) (.n .e (some (.i .i64 (j : Int))) .e)) (some (.lst 1 (aD aF A))) .e), .e, .h, none⟩) (fun j => j ≤ A.length) (fun j => A.length - j) 0 ?_ (Nat.zero_le _) ?_
  · refine X.le.mk ?_ ?_ (Nat.le_refl _) rfl rfl
    all_goals (repeat' first | exact T.le_e _ | exact T.le_refl _ | refine T.le_some ?_ rfl ?_ | refine T.le_none ?_ ?_ | refine T.le_ee ?_ ?_)
  intro i hi
  have hi : i ≤ A.length := hi
  conv => whnf
  repeat' first | ((first | with_reducible apply WB.tt | with_reducible apply WB.ff | refine Rn.seq ?_ | refine Rn.reg ?_ | refine Rn.drw ?_ | refine Rn.blk ?_ | refine Rn.skip ?_ | refine Rn.ret ?_ | refine Rn.exit ?_ | refine Rn.cond rfl ?_ | refine And.intro (InR.i64 (by omega) (by omega)) ?_ | refine And.intro (show _ ≠ (0 : Int) by omega) ?_ | refine WIx.intsN (by omega) ?_ | refine WIx.rowsN (by omega) ?_ | with_reducible refine WB.decT (by first | with_reducible rfl | assumption | omega | exact ⟨rfl, rfl⟩) ?_ | with_reducible refine WB.decF (by first | assumption | omega) ?_ | with_reducible refine WB.ndT (by first | with_reducible rfl | assumption | omega | exact ⟨rfl, rfl⟩) ?_ | with_reducible refine WB.ndF (by first | assumption | omega) ?_ | with_reducible refine WB.nt ?_ | with_reducible refine WB.nf ?_) <;> conv => whnf) | (refine WB.tt ?_; conv => whnf) | (refine WB.ff ?_; conv => whnf)
  refine WB.dec (fun h => ?_) (fun h => ?_) <;> conv => whnf
  · have hlt : i < A.length := by omega
    have hm := aR (d := default) hlt
    have hl1 := hl _ hm
    have hw1 := hw _ hm
    have e2 := aK dX (A.getD i default)
    repeat' first | ((first | with_reducible apply WB.tt | with_reducible apply WB.ff | refine Rn.seq ?_ | refine Rn.reg ?_ | refine Rn.drw ?_ | refine Rn.blk ?_ | refine Rn.skip ?_ | refine Rn.ret ?_ | refine Rn.exit ?_ | refine Rn.cond rfl ?_ | refine And.intro (InR.i64 (by omega) (by omega)) ?_ | refine And.intro (show _ ≠ (0 : Int) by omega) ?_ | refine WIx.intsN (by omega) ?_ | refine WIx.rowsN (by omega) ?_ | with_reducible refine WB.decT (by first | with_reducible rfl | assumption | omega | exact ⟨rfl, rfl⟩) ?_ | with_reducible refine WB.decF (by first | assumption | omega) ?_ | with_reducible refine WB.ndT (by first | with_reducible rfl | assumption | omega | exact ⟨rfl, rfl⟩) ?_ | with_reducible refine WB.ndF (by first | assumption | omega) ?_ | with_reducible refine WB.nt ?_ | with_reducible refine WB.nf ?_) <;> conv => whnf) | (refine WB.tt ?_; conv => whnf) | (refine WB.ff ?_; conv => whnf)
    refine Rn.loop (fun j : Nat => ⟨(.n (.n .e (some (.lst 1 (aD aF A))) (.n .e (some (.i .i64 (i : Int))) .e)) (some (.lst 1 (aD aF A))) (.n .e none (.n .e (some (.i .i64 (j : Int))) .e))), .e, .h, none⟩) (fun j => j ≤ (A.getD i default).length) (fun j => (A.getD i default).length - j) 0 ?_ (Nat.zero_le _) ?_
    · refine X.le.mk ?_ ?_ (Nat.le_refl _) rfl rfl
      all_goals (repeat' first | exact T.le_e _ | exact T.le_refl _ | refine T.le_some ?_ rfl ?_ | refine T.le_none ?_ ?_ | refine T.le_ee ?_ ?_)
    intro j hj
    have hj : j ≤ (A.getD i default).length := hj
    conv => whnf
    repeat' first | ((first | with_reducible apply WB.tt | with_reducible apply WB.ff | refine Rn.seq ?_ | refine Rn.reg ?_ | refine Rn.drw ?_ | refine Rn.blk ?_ | refine Rn.skip ?_ | refine Rn.ret ?_ | refine Rn.exit ?_ | refine Rn.cond rfl ?_ | refine And.intro (InR.i64 (by omega) (by omega)) ?_ | refine And.intro (show _ ≠ (0 : Int) by omega) ?_ | refine WIx.intsN (by omega) ?_ | refine WIx.rowsN (by omega) ?_ | with_reducible refine WB.decT (by first | with_reducible rfl | assumption | omega | exact ⟨rfl, rfl⟩) ?_ | with_reducible refine WB.decF (by first | assumption | omega) ?_ | with_reducible refine WB.ndT (by first | with_reducible rfl | assumption | omega | exact ⟨rfl, rfl⟩) ?_ | with_reducible refine WB.ndF (by first | assumption | omega) ?_ | with_reducible refine WB.nt ?_ | with_reducible refine WB.nf ?_) <;> conv => whnf) | (refine WB.tt ?_; conv => whnf) | (refine WB.ff ?_; conv => whnf)
    refine WB.dec (fun h2 => ?_) (fun h2 => ?_) <;> conv => whnf
    · have hlt2 : j < (A.getD i default).length := by omega
      have hx := hw1 _ (aR (d := default) hlt2)
      repeat' first | ((first | with_reducible apply WB.tt | with_reducible apply WB.ff | refine Rn.seq ?_ | refine Rn.reg ?_ | refine Rn.drw ?_ | refine Rn.blk ?_ | refine Rn.skip ?_ | refine Rn.ret ?_ | refine Rn.exit ?_ | refine Rn.cond rfl ?_ | refine And.intro (InR.i64 (by omega) (by omega)) ?_ | refine And.intro (show _ ≠ (0 : Int) by omega) ?_ | refine WIx.intsN (by omega) ?_ | refine WIx.rowsN (by omega) ?_ | with_reducible refine WB.decT (by first | with_reducible rfl | assumption | omega | exact ⟨rfl, rfl⟩) ?_ | with_reducible refine WB.decF (by first | assumption | omega) ?_ | with_reducible refine WB.ndT (by first | with_reducible rfl | assumption | omega | exact ⟨rfl, rfl⟩) ?_ | with_reducible refine WB.ndF (by first | assumption | omega) ?_ | with_reducible refine WB.nt ?_ | with_reducible refine WB.nf ?_) <;> conv => whnf) | (refine WB.tt ?_; conv => whnf) | (refine WB.ff ?_; conv => whnf)
      refine WSt.eqrN (neg := true) (r := false) [((A.getD i default).getD j default).sun, ((A.getD i default).getD j default).calm, ((A.getD i default).getD j default).good] [((A.getD i default).getD j default).sun, ((A.getD i default).getD j default).calm, ((A.getD i default).getD j default).good] rfl rfl rfl rfl (by simpa [Jy] using hx) (by simpa [Jy] using hx) (by simp) ?_; conv => whnf
      repeat' first | ((first | with_reducible apply WB.tt | with_reducible apply WB.ff | refine Rn.seq ?_ | refine Rn.reg ?_ | refine Rn.drw ?_ | refine Rn.blk ?_ | refine Rn.skip ?_ | refine Rn.ret ?_ | refine Rn.exit ?_ | refine Rn.cond rfl ?_ | refine And.intro (InR.i64 (by omega) (by omega)) ?_ | refine And.intro (show _ ≠ (0 : Int) by omega) ?_ | refine WIx.intsN (by omega) ?_ | refine WIx.rowsN (by omega) ?_ | with_reducible refine WB.decT (by first | with_reducible rfl | assumption | omega | exact ⟨rfl, rfl⟩) ?_ | with_reducible refine WB.decF (by first | assumption | omega) ?_ | with_reducible refine WB.ndT (by first | with_reducible rfl | assumption | omega | exact ⟨rfl, rfl⟩) ?_ | with_reducible refine WB.ndF (by first | assumption | omega) ?_ | with_reducible refine WB.nt ?_ | with_reducible refine WB.nf ?_) <;> conv => whnf) | (refine WB.tt ?_; conv => whnf) | (refine WB.ff ?_; conv => whnf)
      refine Again.to (j + 1) (by omega) (show j + 1 ≤ (A.getD i default).length by omega) (Nat.le_refl _) ?_
      refine Shr.of ?_ ?_ rfl rfl
      · show Rel _ _ ((.n (.n .e (some (.lst 1 (aD aF A))) (.n .e (some (.i .i64 (i : Int))) .e)) (some (.lst 1 (aD aF A))) (.n .e none (.n .e (some (.i .i64 ((j + 1 : Nat) : Int))) .e))) : T D) _
        (repeat' first | exact Rel.e | refine Rel.some ?_ ?_ ?_ | refine Rel.none ?_ ?_ | refine Rel.ee ?_ ?_)
        all_goals show Fz _ _ _ _
        all_goals first | exact .pu trivial | exact .pu (fS aP _)
      · show Rel _ _ (.e : T C) _
        (repeat' first | exact Rel.e | refine Rel.some ?_ ?_ ?_ | refine Rel.none ?_ ?_ | refine Rel.ee ?_ ?_)
    · repeat' first | ((first | with_reducible apply WB.tt | with_reducible apply WB.ff | refine Rn.seq ?_ | refine Rn.reg ?_ | refine Rn.drw ?_ | refine Rn.blk ?_ | refine Rn.skip ?_ | refine Rn.ret ?_ | refine Rn.exit ?_ | refine Rn.cond rfl ?_ | refine And.intro (InR.i64 (by omega) (by omega)) ?_ | refine And.intro (show _ ≠ (0 : Int) by omega) ?_ | refine WIx.intsN (by omega) ?_ | refine WIx.rowsN (by omega) ?_ | with_reducible refine WB.decT (by first | with_reducible rfl | assumption | omega | exact ⟨rfl, rfl⟩) ?_ | with_reducible refine WB.decF (by first | assumption | omega) ?_ | with_reducible refine WB.ndT (by first | with_reducible rfl | assumption | omega | exact ⟨rfl, rfl⟩) ?_ | with_reducible refine WB.ndF (by first | assumption | omega) ?_ | with_reducible refine WB.nt ?_ | with_reducible refine WB.nf ?_) <;> conv => whnf) | (refine WB.tt ?_; conv => whnf) | (refine WB.ff ?_; conv => whnf)
      refine Again.to (i + 1) (by omega) (show i + 1 ≤ A.length by omega) (Nat.le_refl _) ?_
      refine Shr.of ?_ ?_ rfl rfl
      · show Rel _ _ ((.n (.n .e (some (.lst 1 (aD aF A))) (.n .e (some (.i .i64 ((i + 1 : Nat) : Int))) .e)) (some (.lst 1 (aD aF A))) .e) : T D) _
        (repeat' first | exact Rel.e | refine Rel.some ?_ ?_ ?_ | refine Rel.none ?_ ?_ | refine Rel.ee ?_ ?_)
        all_goals show Fz _ _ _ _
        all_goals first | exact .pu trivial | exact .pu (fS aP _)
      · show Rel _ _ (.e : T C) _
        (repeat' first | exact Rel.e | refine Rel.some ?_ ?_ ?_ | refine Rel.none ?_ ?_ | refine Rel.ee ?_ ?_)
  · repeat' first | ((first | with_reducible apply WB.tt | with_reducible apply WB.ff | refine Rn.seq ?_ | refine Rn.reg ?_ | refine Rn.drw ?_ | refine Rn.blk ?_ | refine Rn.skip ?_ | refine Rn.ret ?_ | refine Rn.exit ?_ | refine Rn.cond rfl ?_ | refine And.intro (InR.i64 (by omega) (by omega)) ?_ | refine And.intro (show _ ≠ (0 : Int) by omega) ?_ | refine WIx.intsN (by omega) ?_ | refine WIx.rowsN (by omega) ?_ | with_reducible refine WB.decT (by first | with_reducible rfl | assumption | omega | exact ⟨rfl, rfl⟩) ?_ | with_reducible refine WB.decF (by first | assumption | omega) ?_ | with_reducible refine WB.ndT (by first | with_reducible rfl | assumption | omega | exact ⟨rfl, rfl⟩) ?_ | with_reducible refine WB.ndF (by first | assumption | omega) ?_ | with_reducible refine WB.nt ?_ | with_reducible refine WB.nf ?_) <;> conv => whnf) | (refine WB.tt ?_; conv => whnf) | (refine WB.ff ?_; conv => whnf)
    exact Fin.b rfl rfl
set_option maxRecDepth 1000000
def Mo : RC := (.seq (.reg [(.u (.box p4 (.t p1))), (.u (.mv p7 (.k (.b false))))]) (.seq (.seq (.reg [(fX bM p4 9), (.u (.cf (some bJ) p20 [(.t bM)])), (.u (.un bS .not (.t bJ))), (Mv bT bS), (.g bT false (some cN) (.mv cN (.t p2))), (.g bT false (some cZ) (.cf (some cZ) p21 [(.t cN)])), (.g bT false (some dB) (.un dB .not (.t cZ))), (.u (.pick dS (.t bT) (.k (.b true)) (.t dB))), (Mv p20 dS), (.g p20 false (some p21) (.mv p21 (.t p3))), (.g p20 false (some p22) (.len p22 (.t p21))), (.g p20 false (some p23) (.bin p23 .gtr (.t p22) (.k (.i .i64 7)))), (.u (.pick p24 (.t p20) (.k (.b true)) (.t p23)))]) (.cond (.t p24) (.seq (.reg [(.u (.cf (some p25) p22 [])), (Mv p7 p25)]) .ret) .skip)) (.seq (.reg [(fX p27 p4 9), (.u (.cf (some p28) p24 [(.t p27)])), (Mv p29 p2), (.u (.cf (some p30) p25 [(.t p29)])), (Mv p31 p3), (.u (.cf (some p32) p26 [(.t p31)])), (.u (.cf (some p33) p23 [(.t p28), (.t p30), (.t p32)])), (Mv p26 p33), (.u (.ext p34 (.t p26) 0)), (.u (.ext iS (.t p26) 1)), (Mv p8 p34), (Mv p9 iS)]) (.seq (.reg [(fX lR p4 9), (.u (.cf (some pF) p24 [(.t lR)])), (Mv pK p3), (.u (.cf (some qQ) p26 [(.t pK)])), (.u (.cf (some sH) p27 [(.t pF), (.t qQ)])), (Mv bE sH)]) (.seq (.reg [(fX qR p4 9), (.u (.cf (some p42) p28 [(.t qR)])), (Mv bH p42)]) (.seq (.seq (.reg [(fX rE p4 9), (.u (.cf (some p44) p24 [(.t rE)])), (.u (.cf (some p45) p29 [(.t p44)])), (Mv oZ bH), (dW tZ .neq p45 oZ), (Mv oU tZ), (.g oU false (some p49) (.mv p49 (.t bE))), (.g oU false (some tI) (.mv tI (.t bH))), (.g oU false (some vK) (.bin vK .eql (.t tI) (.k (.i .i64 0)))), (.g oU false (some jP) (.mv jP (.t vK))), (.g jP true (some tB) (.ldn tB (.t p4) 9)), (.g jP true (some tF) (.mv tF (.t p3))), (.g jP true (some sZ) (.cf (some sZ) p30 [(.t tB), (.t tF)])), (.g oU false (some sW) (.pick sW (.t jP) (.t sZ) (.k (.b false)))), (.g oU false (some sM) (.eq sM true 0 (.t p49) (.t sW))), (.u (.pick tW (.t oU) (.k (.b true)) (.t sM)))]) (.cond (.t tW) (.seq (.reg [(.u (.mv p7 (.k (.b false))))]) .ret) .skip)) (.seq (.seq (.reg [(Mv uQ bH), (dJ oV .eql uQ 0), (Mv oM oV), (.g oM true (some tX) (.ldn tX (.t p4) 9)), (.g oM true (some qP) (.mv qP (.t p2))), (.g oM true (some uR) (.cf (some uR) p31 [(.t tX), (.t qP)])), (.g oM true (some uI) (.un uI .not (.t uR))), (.g oM true (some qW) (.mv qW (.t uI))), (.g qW false (some uP) (.ldn uP (.t p4) 9)), (.g qW false (some xG) (.mv xG (.t p3))), (.g qW false (some nS) (.cf (some nS) p32 [(.t uP), (.t xG)])), (.g qW false (some p70) (.un p70 .not (.t nS))), (.g oM true (some xI) (.pick xI (.t qW) (.k (.b true)) (.t p70))), (.u (.pick AL (.t oM) (.t xI) (.k (.b false))))]) (.cond (.t AL) (.reg [(.u (.mv bH (.k (.i .i64 2))))]) .skip)) (.seq (.seq (.reg [(Mv AK bH), (dJ AG .neq AK 0)]) (.cond (.t AG) (.seq (.reg [(Mv Af p9), (Mv BS bH), (dW wC .eql Af BS), (Mv p78 wC), (.g p78 true (some Ai) (.mv Ai (.t p8))), (.g p78 true (some Am) (.len Am (.t Ai))), (.g p78 true (some Ah) (.bin Ah .eql (.t Am) (.k (.i .i64 0)))), (.u (.pick p82 (.t p78) (.t Ah) (.k (.b false)))), (Mv p83 p82), (.g p83 true (some p84) (.cf (some p84) p22 [])), (.u (.pick p85 (.t p83) (.t p84) (.k (.b false)))), (Mv p7 p85)]) .ret) .skip)) (.seq (.reg [(Mv p86 p9), (dJ p87 .eql p86 0), (Mv p88 p87), (.g p88 true (some p89) (.mv p89 (.t p8))), (.g p88 true (some p90) (.ldn p90 (.t p4) 9)), (.g p88 true (some FN) (.mv FN (.t p2))), (.g p88 true (some IY) (.mv IY (.t p3))), (.g p88 true (some Gz) (.cf (some Gz) p34 [(.t p90), (.t FN), (.t IY)])), (.g p88 true (some FS) (.cf (some FS) p33 [(.t p89), (.t Gz)])), (.u (.pick JD (.t p88) (.t FS) (.k (.b false)))), (Mv Ga JD), (.g Ga true (some If) (.cf (some If) p22 [])), (.u (.pick Jv (.t Ga) (.t If) (.k (.b false)))), (Mv p7 Jv)]) .ret)))))))))
def Mm : List RR := [(.t p7)]
theorem Ml : FnOk Tryz.prog p4.ix 98 Mo Mm := ⟨Tryz.f3, aO Tryz.f3, Tryz.func3, by kernel_rfl, by kernel_rfl, by kernel_rfl, by kernel_rfl, by kernel_rfl⟩
end Go.Ev
end
