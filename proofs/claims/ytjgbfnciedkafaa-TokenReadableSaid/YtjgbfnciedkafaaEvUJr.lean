import Derived.Test.YtjgbfnciedkafaaEvUJ1
import Derived.Test.YtjgbfnciedkafaaEvUJ8
import Derived.Test.YtjgbfnciedkafaaEvUIt
set_option linter.all false
namespace Go.Ev
open Go.Proofs
set_option maxRecDepth 1000000
noncomputable def rc40 : RC := (.seq (.reg [(.u (.box p2 (.t p1))), (.u (.new p3 [(.i .i64 0), (.i .i64 0)]))]) (.seq (.reg [(.u (.fad p4 (.t p2) 0)), (.u (.ld1 p5 (.t p4))), (.u (.fad p6 (.t p2) 1)), (.u (.ld1 p7 (.t p6))), (.u (.bld p8 [(.i .i64 0), (.i .i64 0)] [(0, (1, (.t p5))), (1, (1, (.t p7)))])), (.u (.st (.t p3) (.t p8) 2))]) .ret))
def rs40 : List RR := [(.cn p3 2)]
theorem fn40 : FnOk Try.prog p41.ix 8 rc40 rs40 := ⟨Try.f40, bodyC Try.f40, Try.func40, by kernel_rfl, by kernel_rfl, by kernel_rfl, by kernel_rfl, by kernel_rfl⟩
noncomputable def rc134 : RC := (.seq (.reg [(.u (.ldn p12 (.t p2) 6)), (.u (.ldn p13 (.t p3) 3)), (.u (.cf (some p14) p116 [(.t p12), (.t p13)])), (.u (.mv p11 (.t p14))), (.u (.ext p15 (.t p11) 0)), (.u (.ext p16 (.t p11) 1)), (.u (.ext p17 (.t p11) 2)), (.u (.new p5 [(.i .i64 0), (.i .i64 0)])), (.u (.new p6 [(.i .i64 0), (.i .i64 0)])), (.u (.new p7 [(.i .i64 0), (.i .i64 0)])), (.u (.st (.t p5) (.t p15) 2)), (.u (.st (.t p6) (.t p16) 2)), (.u (.st (.t p7) (.t p17) 2))]) (.seq (.reg [(.u (.fad p18 (.t p5) 0)), (.u (.ld1 p19 (.t p18))), (.u (.mv p8 (.t p19)))]) (.blk 0 (.loop (.seq (.seq (.reg [(.u (.mv p20 (.t p8))), (.u (.fad p21 (.t p5) 1)), (.u (.ld1 p22 (.t p21))), (.u (.bin p23 .leq (.t p20) (.t p22)))]) (.cond (.t p23) .skip (.exit 0))) (.seq (.blk 1 (.seq (.reg [(.u (.fad p26 (.t p6) 0)), (.u (.ld1 p27 (.t p26))), (.u (.mv p9 (.t p27)))]) (.blk 2 (.loop (.seq (.seq (.reg [(.u (.mv p28 (.t p9))), (.u (.fad p29 (.t p6) 1)), (.u (.ld1 p30 (.t p29))), (.u (.bin p31 .leq (.t p28) (.t p30)))]) (.cond (.t p31) .skip (.exit 2))) (.seq (.blk 3 (.seq (.reg [(.u (.fad p34 (.t p7) 0)), (.u (.ld1 p35 (.t p34))), (.u (.mv p10 (.t p35)))]) (.blk 4 (.loop (.seq (.seq (.reg [(.u (.mv p36 (.t p10))), (.u (.fad p37 (.t p7) 1)), (.u (.ld1 p38 (.t p37))), (.u (.bin p39 .leq (.t p36) (.t p38)))]) (.cond (.t p39) .skip (.exit 4))) (.seq (.blk 5 (.seq (.reg [(.u (.mv p42 (.t p1))), (.u (.mv p43 (.t p8))), (.u (.mv p44 (.t p9))), (.u (.mv p45 (.t p10))), (.u (.bld p46 [(.i .i64 0), (.i .i64 0), (.i .i64 0)] [(0, (1, (.t p43))), (1, (1, (.t p44))), (2, (1, (.t p45)))])), (.u (.cv (some p47) (.t p42) [(.t p46)])), (.u (.un p48 .not (.t p47)))]) (.cond (.t p48) .ret .skip))) (.reg [(.u (.mv p40 (.t p10))), (.u (.bin p41 .add (.t p40) (.k (.i .i64 1)))), (.u (.mv p10 (.t p41)))]))))))) (.reg [(.u (.mv p32 (.t p9))), (.u (.bin p33 .add (.t p32) (.k (.i .i64 1)))), (.u (.mv p9 (.t p33)))]))))))) (.reg [(.u (.mv p24 (.t p8))), (.u (.bin p25 .add (.t p24) (.k (.i .i64 1)))), (.u (.mv p8 (.t p25)))])))))))
def rs134 : List RR := []
theorem fn134 : FnOk Try.prog p135.ix 48 rc134 rs134 := ⟨Try.f134, bodyC Try.f134, Try.func134, by kernel_rfl, by kernel_rfl, by kernel_rfl, by kernel_rfl, by kernel_rfl⟩
end Go.Ev

namespace Go.Ev
open Go.Proofs
set_option maxRecDepth 100000
def ln3 (l : Ln) : List D := [.i .i64 l.k, .i .i64 l.c, .i .i64 l.t]
def lnWf (l : Ln) : Prop := wfB .i64 l.k = true ∧ wfB .i64 l.c = true ∧ wfB .i64 l.t = true
def eq3 (x r : Ln) : Bool := decide ([x.k, x.c, x.t] = [r.k, r.c, r.t])
theorem eq3_iff {x r : Ln} : eq3 x r = true ↔ x.k = r.k ∧ x.c = r.c ∧ x.t = r.t := by
  unfold eq3
  rw [decide_eq_true_iff]
  simp
theorem j_eq (x r : Ln) (hx : lnWf x) (hr : lnWf r) : PureF Try.prog p108.ix [.ag [.i .i64 x.k, .i .i64 x.c, .i .i64 x.t], .pl (ln3 r) 0] (.b (eq3 x r)) := by
  refine PureF.run fn107 (by simp) (by simp [PuL, PuE, Pu, ln3]) ?_; conv => whnf
  repeat' first | ((first | with_reducible apply WB.tt | with_reducible apply WB.ff | refine Rn.seq ?_ | refine Rn.reg ?_ | refine Rn.drw ?_ | refine Rn.blk ?_ | refine Rn.skip ?_ | refine Rn.ret ?_ | refine Rn.exit ?_ | refine Rn.cond rfl ?_ | refine And.intro (InR.i64 (by omega) (by omega)) ?_ | refine And.intro (show _ ≠ (0 : Int) by omega) ?_ | refine WIx.intsN (by omega) ?_ | refine WIx.rowsN (by omega) ?_) <;> conv => whnf)
  refine WSt.eqrN [x.k, x.c, x.t] [r.k, r.c, r.t] rfl rfl rfl rfl (by intro y hy; simp only [List.mem_cons, List.not_mem_nil, or_false] at hy; rcases hy with rfl | rfl | rfl; exact hx.1; exact hx.2.1; exact hx.2.2) (by intro y hy; simp only [List.mem_cons, List.not_mem_nil, or_false] at hy; rcases hy with rfl | rfl | rfl; exact hr.1; exact hr.2.1; exact hr.2.2) (r := eq3 x r) rfl ?_; conv => whnf
  repeat' first | ((first | with_reducible apply WB.tt | with_reducible apply WB.ff | refine Rn.seq ?_ | refine Rn.reg ?_ | refine Rn.drw ?_ | refine Rn.blk ?_ | refine Rn.skip ?_ | refine Rn.ret ?_ | refine Rn.exit ?_ | refine Rn.cond rfl ?_ | refine And.intro (InR.i64 (by omega) (by omega)) ?_ | refine And.intro (show _ ≠ (0 : Int) by omega) ?_ | refine WIx.intsN (by omega) ?_ | refine WIx.rowsN (by omega) ?_) <;> conv => whnf)
  exact Fin.b rfl rfl
theorem j_readings (n coin box : Int) (ls : List Ln) (cs : List Ct) (l : Ln) : PureF Try.prog p107.ix [.ag [.i .i64 n, .i .i64 coin, .i .i64 box, .lst 3 (rows lnD ls), .lst 3 (rows ctD cs), .any], .ag [.i .i64 l.k, .i .i64 l.c, .i .i64 l.t]] (.fn p135 [] [.pl (wk6 n coin box ls cs) 0, .pl (ln3 l) 0]) := by
  refine PureF.run fn106 (by simp) (by simp [PuL, PuE, Pu, pu_ints, pu_ln, pu_ct]) ?_; conv => whnf
  repeat' first | ((first | with_reducible apply WB.tt | with_reducible apply WB.ff | refine Rn.seq ?_ | refine Rn.reg ?_ | refine Rn.drw ?_ | refine Rn.blk ?_ | refine Rn.skip ?_ | refine Rn.ret ?_ | refine Rn.exit ?_ | refine Rn.cond rfl ?_ | refine And.intro (InR.i64 (by omega) (by omega)) ?_ | refine And.intro (show _ ≠ (0 : Int) by omega) ?_ | refine WIx.intsN (by omega) ?_ | refine WIx.rowsN (by omega) ?_) <;> conv => whnf)
  refine Fin.t (.inr rfl) rfl (.fn .nil (.cons (Frz.ptr rfl rfl (by simp [wk6]) (by simp [wk6, PuL, Pu, pu_ln, pu_ct])) (.cons (Frz.ptr rfl rfl (by simp [ln3]) (by simp [ln3, PuL, Pu])) .nil)))
def smS (row : List D) (l : Ln) : T D := (.n (.n (.n .e (some (.pt .h 0 0)) .e) none .e) none (.n (.n .e (some (.pt (.o .h) 0 0)) .e) none (.n .e (some (.fn p135 [] [.pl row 0, .pl (ln3 l) 0])) .e)))
noncomputable def sm3 (row : List D) (l r : Ln) (ok : Bool) (st : LS) (j : Option Ex) : T C := (.n (.n .e (some (.cells false [.o (.b ok) 0] 1)) .e) (some (.cells false [.o (.fn p108 [] [.pl (ln3 r) 0]) 0] 1)) (.n .e (some (.lp (smS row l) [p8] 11 (rfA (bodyC Try.f105) 0) (rfB (bodyC Try.f105) 0) st j)) .e))
noncomputable def smO (row : List D) (n : Int) (l r : Ln) (ok : Bool) (st : LS) (j : Option Ex) : T C := (.n (.n (.n .e (some (.cells false [.o (.i .i64 (kLo l)) 0, .o (.i .i64 (kHi l)) 0] 1)) .e) (some (.cells false [.o (.b ok) 0] 1)) (.n .e (some (.cells false [.o (.i .i64 (tLo l)) 0, .o (.i .i64 (tHi n l)) 0] 1)) .e)) (some (.cells false [.o (.fn p108 [] [.pl (ln3 r) 0]) 0] 1)) (.n (.n .e (some (.cells false [.o (.i .i64 (cLo l)) 0, .o (.i .i64 (cHi n l)) 0] 1)) .e) (some (.lp (smS row l) [p8] 11 (rfA (bodyC Try.f105) 0) (rfB (bodyC Try.f105) 0) st j)) .e))
def four4 : Pos := .o (.o .h)
def seven7 : Pos := .i (.i .h)
theorem smS_kp {row : List D} (h : PuL row) (l : Ln) (q : Nat) (hq : 4 ≤ q) : ∀ s d, (smS row l).get s = some d → Kp q d := by
  show TAll (fun _ d => Kp q d) (smS row l)
  unfold smS
  repeat' first | exact TAll.e | refine TAll.some ?_ ?_ ?_ | refine TAll.none ?_ ?_
  all_goals first
    | (simp [Kp, KpL, Pu, PuL, h, ln3, Pos.nat]; done)
    | (simp [Kp, KpL, Pu, PuL, h, ln3, Pos.nat]; omega)
theorem sm3_kp {row : List D} (h : PuL row) (l r : Ln) (ok : Bool) (st : LS) (j : Option Ex) : KpO four4.nat (sm3 row l r ok st j) := by
  have hs := smS_kp h l four4.nat (Nat.le_refl _)
  show TAll (fun id c => id.nat < four4.nat ∧ KpC four4.nat c) (sm3 row l r ok st j)
  unfold sm3
  repeat' first | exact TAll.e | refine TAll.some ?_ ?_ ?_ | refine TAll.none ?_ ?_
  all_goals refine ⟨by simp [Pos.nat, four4], ?_⟩
  all_goals first
    | exact hs
    | (refine KpL.all ?_; simp [KpL, Kp, Cell.d, Pu, PuL, ln3])
theorem smO_kp {row : List D} (h : PuL row) (n : Int) (l r : Ln) (ok : Bool) (st : LS) (j : Option Ex) : KpO seven7.nat (smO row n l r ok st j) := by
  have hs := smS_kp h l seven7.nat (by decide)
  show TAll (fun id c => id.nat < seven7.nat ∧ KpC seven7.nat c) (smO row n l r ok st j)
  unfold smO
  repeat' first | exact TAll.e | refine TAll.some ?_ ?_ ?_ | refine TAll.none ?_ ?_
  all_goals refine ⟨by simp [Pos.nat, seven7], ?_⟩
  all_goals first
    | exact hs
    | (refine KpL.all ?_; simp [KpL, Kp, Cell.d, Pu, PuL, ln3])
theorem j_yield (row : List D) (hrow : PuL row) (n : Int) (l r x : Ln) (hx : lnWf x) (hr : lnWf r) (sl : T D) (d : Option Pos) (K : X → Prop)
    (k1 : eq3 x r = true → wDst sl (smO row n l r true .done (some .ret)) seven7 none d K (.b false)) (k2 : eq3 x r = false → wDst sl (smO row n l r false .ready none) seven7 none d K (.b true)) :
    WRnd Try.prog (.i .h) [.ag [.i .i64 x.k, .i .i64 x.c, .i .i64 x.t]] d ⟨sl, smO row n l r false .ready none, seven7, none⟩ K := by
  refine WRnd.run rfl rc105a0_ok rc105b0_ok ⟨_, rfl, ?_⟩
  conv => whnf
  repeat' first | ((first | with_reducible apply WB.tt | with_reducible apply WB.ff | refine Rn.seq ?_ | refine Rn.reg ?_ | refine Rn.drw ?_ | refine Rn.blk ?_ | refine Rn.skip ?_ | refine Rn.ret ?_ | refine Rn.exit ?_ | refine Rn.cond rfl ?_ | refine And.intro (InR.i64 (by omega) (by omega)) ?_ | refine And.intro (show _ ≠ (0 : Int) by omega) ?_ | refine WIx.intsN (by omega) ?_ | refine WIx.rowsN (by omega) ?_) <;> conv => whnf)
  refine ⟨rfl, rfl, _, _, _, _, _, _, rfl, ?_⟩
  conv => whnf
  repeat' first | ((first | with_reducible apply WB.tt | with_reducible apply WB.ff | refine Rn.seq ?_ | refine Rn.reg ?_ | refine Rn.drw ?_ | refine Rn.blk ?_ | refine Rn.skip ?_ | refine Rn.ret ?_ | refine Rn.exit ?_ | refine Rn.cond rfl ?_ | refine And.intro (InR.i64 (by omega) (by omega)) ?_ | refine And.intro (show _ ≠ (0 : Int) by omega) ?_ | refine WIx.intsN (by omega) ?_ | refine WIx.rowsN (by omega) ?_ | refine WCall.pure (j_eq x r hx hr) ?_) <;> conv => whnf)
  refine WB.mk (fun h => ?_) (fun h => ?_) <;> conv => whnf
  · repeat' first | ((first | with_reducible apply WB.tt | with_reducible apply WB.ff | refine Rn.seq ?_ | refine Rn.reg ?_ | refine Rn.drw ?_ | refine Rn.blk ?_ | refine Rn.skip ?_ | refine Rn.ret ?_ | refine Rn.exit ?_ | refine Rn.cond rfl ?_ | refine And.intro (InR.i64 (by omega) (by omega)) ?_ | refine And.intro (show _ ≠ (0 : Int) by omega) ?_ | refine WIx.intsN (by omega) ?_ | refine WIx.rowsN (by omega) ?_) <;> conv => whnf)
    refine ⟨_, _, _, _, _, _, _, smO row n l r true .done (some .ret), seven7, rfl, rfl, ?_, Nat.le_refl _, k1 h⟩
    refine Shr.kp ?_ (smO_kp hrow _ _ _ _ _ _)
    (repeat' first | exact T.le_e _ | refine T.le_some ?_ rfl ?_ | refine T.le_none ?_ ?_)
  · repeat' first | ((first | with_reducible apply WB.tt | with_reducible apply WB.ff | refine Rn.seq ?_ | refine Rn.reg ?_ | refine Rn.drw ?_ | refine Rn.blk ?_ | refine Rn.skip ?_ | refine Rn.ret ?_ | refine Rn.exit ?_ | refine Rn.cond rfl ?_ | refine And.intro (InR.i64 (by omega) (by omega)) ?_ | refine And.intro (show _ ≠ (0 : Int) by omega) ?_ | refine WIx.intsN (by omega) ?_ | refine WIx.rowsN (by omega) ?_) <;> conv => whnf)
    refine ⟨_, _, _, _, _, _, _, smO row n l r false .ready none, seven7, rfl, rfl, ?_, Nat.le_refl _, k2 h⟩
    refine Shr.kp ?_ (smO_kp hrow _ _ _ _ _ _)
    (repeat' first | exact T.le_e _ | refine T.le_some ?_ rfl ?_ | refine T.le_none ?_ ?_)
end Go.Ev

namespace Go.Ev
open Go.Proofs
set_option maxRecDepth 100000
def isRd (n : Int) (l r : Ln) : Prop := kLo l ≤ r.k ∧ r.k ≤ kHi l ∧ cLo l ≤ r.c ∧ r.c ≤ cHi n l ∧ tLo l ≤ r.t ∧ r.t ≤ tHi n l
def itS (row : List D) (l : Ln) (a : Int) : T D := (.n (.n (.n (.n .e (some (.i .i64 a)) .e) none .e) (some (.pl row 0)) (.n .e (some (.pt (.i (.o .h)) 0 0)) .e)) (some (.yl (.i .h))) (.n (.n .e (some (.pt (.o (.o .h)) 0 0)) .e) (some (.pl (ln3 l) 0)) (.n .e (some (.pt (.o (.i .h)) 0 0)) .e)))
def itS2 (row : List D) (l : Ln) (a b : Int) : T D := (.n (.n (.n (.n .e (some (.i .i64 a)) .e) none .e) (some (.pl row 0)) (.n .e (some (.pt (.i (.o .h)) 0 0)) .e)) (some (.yl (.i .h))) (.n (.n (.n .e (some (.i .i64 b)) .e) (some (.pt (.o (.o .h)) 0 0)) .e) (some (.pl (ln3 l) 0)) (.n .e (some (.pt (.o (.i .h)) 0 0)) .e)))
def itS3 (row : List D) (l : Ln) (a b c : Int) : T D := (.n (.n (.n (.n .e (some (.i .i64 a)) .e) none .e) (some (.pl row 0)) (.n (.n .e (some (.i .i64 c)) .e) (some (.pt (.i (.o .h)) 0 0)) .e)) (some (.yl (.i .h))) (.n (.n (.n .e (some (.i .i64 b)) .e) (some (.pt (.o (.o .h)) 0 0)) .e) (some (.pl (ln3 l) 0)) (.n .e (some (.pt (.o (.i .h)) 0 0)) .e)))
theorem itS_kp {row : List D} (h : PuL row) (l : Ln) (a : Int) : ∀ s d, (itS row l a).get s = some d → Kp seven7.nat d := by
  show TAll (fun _ d => Kp seven7.nat d) (itS row l a)
  unfold itS
  repeat' first | exact TAll.e | refine TAll.some ?_ ?_ ?_ | refine TAll.none ?_ ?_
  all_goals simp [Kp, KpL, Pu, PuL, h, ln3, seven7, Pos.nat]
theorem itS2_kp {row : List D} (h : PuL row) (l : Ln) (a b : Int) : ∀ s d, (itS2 row l a b).get s = some d → Kp seven7.nat d := by
  show TAll (fun _ d => Kp seven7.nat d) (itS2 row l a b)
  unfold itS2
  repeat' first | exact TAll.e | refine TAll.some ?_ ?_ ?_ | refine TAll.none ?_ ?_
  all_goals simp [Kp, KpL, Pu, PuL, h, ln3, seven7, Pos.nat]
theorem itS3_kp {row : List D} (h : PuL row) (l : Ln) (a b c : Int) : ∀ s d, (itS3 row l a b c).get s = some d → Kp seven7.nat d := by
  show TAll (fun _ d => Kp seven7.nat d) (itS3 row l a b c)
  unfold itS3
  repeat' first | exact TAll.e | refine TAll.some ?_ ?_ ?_ | refine TAll.none ?_ ?_
  all_goals simp [Kp, KpL, Pu, PuL, h, ln3, seven7, Pos.nat]
def itΦ (row : List D) (n : Int) (l r : Ln) (v : D) (ob' : T C) : Prop :=
  v = .tp [] ∧ ((isRd n l r ∧ ob' = sm3 row l r true .done (some .ret)) ∨ (¬ isRd n l r ∧ ob' = sm3 row l r false .ready none))
theorem j_iter (n coin box : Int) (ls : List Ln) (cs : List Ct) (hn : 1 ≤ n ∧ n ≤ 4) (l : Ln) (hk : 0 ≤ l.k ∧ l.k ≤ 2) (hc : -1 ≤ l.c ∧ l.c ≤ 3) (ht : -1 ≤ l.t ∧ l.t ≤ 3) (r : Ln) (hr : lnWf r) :
    ∃ v ob', itΦ (wk6 n coin box ls cs) n l r v ob' ∧ CallOk Try.prog p135.ix [.yl (.i .h), .pl (wk6 n coin box ls cs) 0, .pl (ln3 l) 0] (sm3 (wk6 n coin box ls cs) l r false .ready none) four4 none v ob' four4 none := by
  have hrow := pu_wk6 n coin box ls cs
  have b1 : 1 ≤ kLo l ∧ kLo l ≤ kHi l ∧ kHi l ≤ 2 := by
    unfold kLo kHi
    split <;> omega
  have b2 : 0 ≤ cLo l ∧ cLo l ≤ cHi n l ∧ cHi n l ≤ 3 := by
    unfold cLo cHi
    split <;> omega
  have b3 : 0 ≤ tLo l ∧ tLo l ≤ tHi n l ∧ tHi n l ≤ 3 := by
    unfold tLo tHi
    split <;> omega
  refine CallOk.runE fn134 (by simp) (Nat.le_refl _) ?_; conv => whnf
  repeat' first | ((first | with_reducible apply WB.tt | with_reducible apply WB.ff | refine Rn.seq ?_ | refine Rn.reg ?_ | refine Rn.drw ?_ | refine Rn.blk ?_ | refine Rn.skip ?_ | refine Rn.ret ?_ | refine Rn.exit ?_ | refine Rn.cond rfl ?_ | refine And.intro (InR.i64 (by omega) (by omega)) ?_ | refine And.intro (show _ ≠ (0 : Int) by omega) ?_ | refine WIx.intsN (by omega) ?_ | refine WIx.rowsN (by omega) ?_ | refine WCall.pure (j_signs n coin box ls cs hn l) ?_) <;> conv => whnf)
  refine Rn.loop (fun a : Int => ⟨itS (wk6 n coin box ls cs) l a, smO (wk6 n coin box ls cs) n l r false .ready none, seven7, none⟩) (fun a => kLo l ≤ a ∧ a ≤ kHi l + 1 ∧ (isRd n l r → a ≤ r.k)) (fun a => (kHi l + 1 - a).toNat) (kLo l) ?_ ?_ ?_
  · refine X.le.mk ?_ ?_ (Nat.le_refl _) rfl rfl <;> (first | unfold itS | unfold smO) <;> (repeat' first | exact T.le_e _ | refine T.le_some ?_ rfl ?_ | refine T.le_none ?_ ?_)
  · exact ⟨Int.le_refl _, by omega, fun h => h.1⟩
  rintro a ⟨i1, i2, i3⟩
  have i1 : kLo l ≤ a := i1
  have i2 : a ≤ kHi l + 1 := i2
  have i3 : isRd n l r → a ≤ r.k := i3
  conv => whnf
  repeat' first | ((first | with_reducible apply WB.tt | with_reducible apply WB.ff | refine Rn.seq ?_ | refine Rn.reg ?_ | refine Rn.drw ?_ | refine Rn.blk ?_ | refine Rn.skip ?_ | refine Rn.ret ?_ | refine Rn.exit ?_ | refine Rn.cond rfl ?_ | refine And.intro (InR.i64 (by omega) (by omega)) ?_ | refine And.intro (show _ ≠ (0 : Int) by omega) ?_ | refine WIx.intsN (by omega) ?_ | refine WIx.rowsN (by omega) ?_) <;> conv => whnf)
  refine WB.dec (fun h => ?_) (fun h => ?_) <;> conv => whnf
  · repeat' first | ((first | with_reducible apply WB.tt | with_reducible apply WB.ff | refine Rn.seq ?_ | refine Rn.reg ?_ | refine Rn.drw ?_ | refine Rn.blk ?_ | refine Rn.skip ?_ | refine Rn.ret ?_ | refine Rn.exit ?_ | refine Rn.cond rfl ?_ | refine And.intro (InR.i64 (by omega) (by omega)) ?_ | refine And.intro (show _ ≠ (0 : Int) by omega) ?_ | refine WIx.intsN (by omega) ?_ | refine WIx.rowsN (by omega) ?_) <;> conv => whnf)
    refine Rn.loop (fun b : Int => ⟨itS2 (wk6 n coin box ls cs) l a b, smO (wk6 n coin box ls cs) n l r false .ready none, seven7, none⟩) (fun b => cLo l ≤ b ∧ b ≤ cHi n l + 1 ∧ (isRd n l r → r.k = a → b ≤ r.c)) (fun b => (cHi n l + 1 - b).toNat) (cLo l) ?_ ?_ ?_
    · refine X.le.mk ?_ ?_ (Nat.le_refl _) rfl rfl <;> (first | unfold itS2 | unfold smO) <;> (repeat' first | exact T.le_e _ | refine T.le_some ?_ rfl ?_ | refine T.le_none ?_ ?_)
    · exact ⟨Int.le_refl _, by omega, fun h _ => h.2.2.1⟩
    rintro b ⟨j1, j2, j3⟩
    have j1 : cLo l ≤ b := j1
    have j2 : b ≤ cHi n l + 1 := j2
    have j3 : isRd n l r → r.k = a → b ≤ r.c := j3
    conv => whnf
    repeat' first | ((first | with_reducible apply WB.tt | with_reducible apply WB.ff | refine Rn.seq ?_ | refine Rn.reg ?_ | refine Rn.drw ?_ | refine Rn.blk ?_ | refine Rn.skip ?_ | refine Rn.ret ?_ | refine Rn.exit ?_ | refine Rn.cond rfl ?_ | refine And.intro (InR.i64 (by omega) (by omega)) ?_ | refine And.intro (show _ ≠ (0 : Int) by omega) ?_ | refine WIx.intsN (by omega) ?_ | refine WIx.rowsN (by omega) ?_) <;> conv => whnf)
    refine WB.dec (fun h => ?_) (fun h => ?_) <;> conv => whnf
    · repeat' first | ((first | with_reducible apply WB.tt | with_reducible apply WB.ff | refine Rn.seq ?_ | refine Rn.reg ?_ | refine Rn.drw ?_ | refine Rn.blk ?_ | refine Rn.skip ?_ | refine Rn.ret ?_ | refine Rn.exit ?_ | refine Rn.cond rfl ?_ | refine And.intro (InR.i64 (by omega) (by omega)) ?_ | refine And.intro (show _ ≠ (0 : Int) by omega) ?_ | refine WIx.intsN (by omega) ?_ | refine WIx.rowsN (by omega) ?_) <;> conv => whnf)
      refine Rn.loop (fun c : Int => ⟨itS3 (wk6 n coin box ls cs) l a b c, smO (wk6 n coin box ls cs) n l r false .ready none, seven7, none⟩) (fun c => tLo l ≤ c ∧ c ≤ tHi n l + 1 ∧ (isRd n l r → r.k = a → r.c = b → c ≤ r.t)) (fun c => (tHi n l + 1 - c).toNat) (tLo l) ?_ ?_ ?_
      · refine X.le.mk ?_ ?_ (Nat.le_refl _) rfl rfl <;> (first | unfold itS3 | unfold smO) <;> (repeat' first | exact T.le_e _ | refine T.le_some ?_ rfl ?_ | refine T.le_none ?_ ?_)
      · exact ⟨Int.le_refl _, by omega, fun h _ _ => h.2.2.2.2.1⟩
      rintro c ⟨q1, q2, q3⟩
      have q1 : tLo l ≤ c := q1
      have q2 : c ≤ tHi n l + 1 := q2
      have q3 : isRd n l r → r.k = a → r.c = b → c ≤ r.t := q3
      conv => whnf
      repeat' first | ((first | with_reducible apply WB.tt | with_reducible apply WB.ff | refine Rn.seq ?_ | refine Rn.reg ?_ | refine Rn.drw ?_ | refine Rn.blk ?_ | refine Rn.skip ?_ | refine Rn.ret ?_ | refine Rn.exit ?_ | refine Rn.cond rfl ?_ | refine And.intro (InR.i64 (by omega) (by omega)) ?_ | refine And.intro (show _ ≠ (0 : Int) by omega) ?_ | refine WIx.intsN (by omega) ?_ | refine WIx.rowsN (by omega) ?_) <;> conv => whnf)
      refine WB.dec (fun h => ?_) (fun h => ?_) <;> conv => whnf
      · repeat' first | ((first | with_reducible apply WB.tt | with_reducible apply WB.ff | refine Rn.seq ?_ | refine Rn.reg ?_ | refine Rn.drw ?_ | refine Rn.blk ?_ | refine Rn.skip ?_ | refine Rn.ret ?_ | refine Rn.exit ?_ | refine Rn.cond rfl ?_ | refine And.intro (InR.i64 (by omega) (by omega)) ?_ | refine And.intro (show _ ≠ (0 : Int) by omega) ?_ | refine WIx.intsN (by omega) ?_ | refine WIx.rowsN (by omega) ?_) <;> conv => whnf)
        refine j_yield (wk6 n coin box ls cs) hrow n l r ⟨a, b, c⟩ ⟨wf_small (by show _ ≤ a; omega) (by show a ≤ _; omega), wf_small (by show _ ≤ b; omega) (by show b ≤ _; omega), wf_small (by show _ ≤ c; omega) (by show c ≤ _; omega)⟩ hr _ _ _ (fun h => ?_) (fun h => ?_) <;> conv => whnf
        · repeat' first | ((first | with_reducible apply WB.tt | with_reducible apply WB.ff | refine Rn.seq ?_ | refine Rn.reg ?_ | refine Rn.drw ?_ | refine Rn.blk ?_ | refine Rn.skip ?_ | refine Rn.ret ?_ | refine Rn.exit ?_ | refine Rn.cond rfl ?_ | refine And.intro (InR.i64 (by omega) (by omega)) ?_ | refine And.intro (show _ ≠ (0 : Int) by omega) ?_ | refine WIx.intsN (by omega) ?_ | refine WIx.rowsN (by omega) ?_) <;> conv => whnf)
          refine WB.mk (fun _ => ?_) (fun e => by cases e); conv => whnf
          repeat' first | ((first | with_reducible apply WB.tt | with_reducible apply WB.ff | refine Rn.seq ?_ | refine Rn.reg ?_ | refine Rn.drw ?_ | refine Rn.blk ?_ | refine Rn.skip ?_ | refine Rn.ret ?_ | refine Rn.exit ?_ | refine Rn.cond rfl ?_ | refine And.intro (InR.i64 (by omega) (by omega)) ?_ | refine And.intro (show _ ≠ (0 : Int) by omega) ?_ | refine WIx.intsN (by omega) ?_ | refine WIx.rowsN (by omega) ?_) <;> conv => whnf)
          obtain ⟨z1, z2, z3⟩ := eq3_iff.1 h
          have z1 : a = r.k := z1
          have z2 : b = r.c := z2
          have z3 : c = r.t := z3
          refine ⟨_, _, ⟨rfl, .inl ⟨⟨by omega, by omega, by omega, by omega, by omega, by omega⟩, rfl⟩⟩, ⟨.inr rfl, ⟨_, rfl, .pu trivial⟩, Shr.kp ?_ (sm3_kp hrow _ _ _ _ _)⟩⟩
          unfold sm3 smO
          repeat' first | exact T.le_e _ | refine T.le_some ?_ rfl ?_ | refine T.le_none ?_ ?_
        · repeat' first | ((first | with_reducible apply WB.tt | with_reducible apply WB.ff | refine Rn.seq ?_ | refine Rn.reg ?_ | refine Rn.drw ?_ | refine Rn.blk ?_ | refine Rn.skip ?_ | refine Rn.ret ?_ | refine Rn.exit ?_ | refine Rn.cond rfl ?_ | refine And.intro (InR.i64 (by omega) (by omega)) ?_ | refine And.intro (show _ ≠ (0 : Int) by omega) ?_ | refine WIx.intsN (by omega) ?_ | refine WIx.rowsN (by omega) ?_) <;> conv => whnf)
          refine WB.mk (fun e => by cases e) (fun _ => ?_); conv => whnf
          repeat' first | ((first | with_reducible apply WB.tt | with_reducible apply WB.ff | refine Rn.seq ?_ | refine Rn.reg ?_ | refine Rn.drw ?_ | refine Rn.blk ?_ | refine Rn.skip ?_ | refine Rn.ret ?_ | refine Rn.exit ?_ | refine Rn.cond rfl ?_ | refine And.intro (InR.i64 (by omega) (by omega)) ?_ | refine And.intro (show _ ≠ (0 : Int) by omega) ?_ | refine WIx.intsN (by omega) ?_ | refine WIx.rowsN (by omega) ?_) <;> conv => whnf)
          refine Again.to (c + 1) (by omega) ⟨by omega, by omega, fun h1 h2 h3 => ?_⟩ (Nat.le_refl _) (Shr.kp2 ?_ (itS3_kp hrow _ _ _ _) (T.le_refl _) (smO_kp hrow _ _ _ _ _ _))
          · have h4 := q3 h1 h2 h3
            have h5 : ¬ c = r.t := fun e => by
              have := eq3_iff.2 (show (⟨a, b, c⟩ : Ln).k = r.k ∧ (⟨a, b, c⟩ : Ln).c = r.c ∧ (⟨a, b, c⟩ : Ln).t = r.t from ⟨h2.symm, h3.symm, e⟩)
              rw [h] at this; cases this
            show c + 1 ≤ r.t
            omega
          · (unfold itS3; repeat' first | exact T.le_e _ | refine T.le_some ?_ rfl ?_ | refine T.le_none ?_ ?_)
      · repeat' first | ((first | with_reducible apply WB.tt | with_reducible apply WB.ff | refine Rn.seq ?_ | refine Rn.reg ?_ | refine Rn.drw ?_ | refine Rn.blk ?_ | refine Rn.skip ?_ | refine Rn.ret ?_ | refine Rn.exit ?_ | refine Rn.cond rfl ?_ | refine And.intro (InR.i64 (by omega) (by omega)) ?_ | refine And.intro (show _ ≠ (0 : Int) by omega) ?_ | refine WIx.intsN (by omega) ?_ | refine WIx.rowsN (by omega) ?_) <;> conv => whnf)
        refine Again.to (b + 1) (by omega) ⟨by omega, by omega, fun h1 h2 => ?_⟩ (Nat.le_refl _) (Shr.kp2 ?_ (itS2_kp hrow _ _ _) (T.le_refl _) (smO_kp hrow _ _ _ _ _ _))
        · have h4 := j3 h1 h2
          have h5 := h1.2.2.2.2.2
          have h6 : ¬ r.c = b := fun e => by have := q3 h1 h2 e; omega
          show b + 1 ≤ r.c
          omega
        · (unfold itS2; repeat' first | exact T.le_e _ | refine T.le_some ?_ rfl ?_ | refine T.le_none ?_ ?_)
    · repeat' first | ((first | with_reducible apply WB.tt | with_reducible apply WB.ff | refine Rn.seq ?_ | refine Rn.reg ?_ | refine Rn.drw ?_ | refine Rn.blk ?_ | refine Rn.skip ?_ | refine Rn.ret ?_ | refine Rn.exit ?_ | refine Rn.cond rfl ?_ | refine And.intro (InR.i64 (by omega) (by omega)) ?_ | refine And.intro (show _ ≠ (0 : Int) by omega) ?_ | refine WIx.intsN (by omega) ?_ | refine WIx.rowsN (by omega) ?_) <;> conv => whnf)
      refine Again.to (a + 1) (by omega) ⟨by omega, by omega, fun h1 => ?_⟩ (Nat.le_refl _) (Shr.kp2 ?_ (itS_kp hrow _ _) (T.le_refl _) (smO_kp hrow _ _ _ _ _ _))
      · have h4 := i3 h1
        have h5 := h1.2.2.2.1
        have h6 : ¬ r.k = a := fun e => by have := j3 h1 e; omega
        show a + 1 ≤ r.k
        omega
      · (unfold itS; repeat' first | exact T.le_e _ | refine T.le_some ?_ rfl ?_ | refine T.le_none ?_ ?_)
  · repeat' first | ((first | with_reducible apply WB.tt | with_reducible apply WB.ff | refine Rn.seq ?_ | refine Rn.reg ?_ | refine Rn.drw ?_ | refine Rn.blk ?_ | refine Rn.skip ?_ | refine Rn.ret ?_ | refine Rn.exit ?_ | refine Rn.cond rfl ?_ | refine And.intro (InR.i64 (by omega) (by omega)) ?_ | refine And.intro (show _ ≠ (0 : Int) by omega) ?_ | refine WIx.intsN (by omega) ?_ | refine WIx.rowsN (by omega) ?_) <;> conv => whnf)
    refine ⟨_, _, ⟨rfl, .inr ⟨fun h1 => ?_, rfl⟩⟩, ⟨.inl rfl, ⟨_, rfl, .pu trivial⟩, Shr.kp ?_ (sm3_kp hrow _ _ _ _ _)⟩⟩
    · have h4 := i3 h1
      have h5 := h1.2.1
      omega
    · unfold sm3 smO
      repeat' first | exact T.le_e _ | refine T.le_some ?_ rfl ?_ | refine T.le_none ?_ ?_
def rdB (n : Int) (l r : Ln) : Bool := decide (kLo l ≤ r.k ∧ r.k ≤ kHi l ∧ cLo l ≤ r.c ∧ r.c ≤ cHi n l ∧ tLo l ≤ r.t ∧ r.t ≤ tHi n l)
theorem j_some (n coin box : Int) (ls : List Ln) (cs : List Ct) (hn : 1 ≤ n ∧ n ≤ 4) (l : Ln) (hk : 0 ≤ l.k ∧ l.k ≤ 2) (hc : -1 ≤ l.c ∧ l.c ≤ 3) (ht : -1 ≤ l.t ∧ l.t ≤ 3) (r : Ln) (hr : lnWf r) :
    PureF Try.prog p106.ix [.fn p135 [] [.pl (wk6 n coin box ls cs) 0, .pl (ln3 l) 0], .fn p108 [] [.pl (ln3 r) 0]] (.b (rdB n l r)) := by
  have hrow := pu_wk6 n coin box ls cs
  have h3 : ∀ x : Ln, PuL (ln3 x) := fun x => by simp [ln3, PuL, Pu]
  refine PureF.run fn105 (by simp) (by simp [PuL, Pu, hrow, h3]) ?_; conv => whnf
  repeat' first | ((first | with_reducible apply WB.tt | with_reducible apply WB.ff | refine Rn.seq ?_ | refine Rn.reg ?_ | refine Rn.drw ?_ | refine Rn.blk ?_ | refine Rn.skip ?_ | refine Rn.ret ?_ | refine Rn.exit ?_ | refine Rn.cond rfl ?_ | refine And.intro (InR.i64 (by omega) (by omega)) ?_ | refine And.intro (show _ ≠ (0 : Int) by omega) ?_ | refine WIx.intsN (by omega) ?_ | refine WIx.rowsN (by omega) ?_) <;> conv => whnf)
  refine Rn.le (a := ⟨smS (wk6 n coin box ls cs) l, (.n (.n .e (some (.cells false [.o (.b false) 0] 1)) .e) (some (.cells false [.o (.fn p108 [] [.pl (ln3 r) 0]) 0] 1)) .e), .i .h, none⟩) ?_ ?_
  · obtain ⟨v, ob', ⟨rfl, hΦ⟩, C⟩ := j_iter n coin box ls cs hn l hk hc ht r hr
    rcases hΦ with ⟨ha, rfl⟩ | ⟨ha, rfl⟩
    · refine Rn.rf rfl rfl C rfl (by simp) ?_; conv => whnf
      repeat' first | ((first | with_reducible apply WB.tt | with_reducible apply WB.ff | refine Rn.seq ?_ | refine Rn.reg ?_ | refine Rn.drw ?_ | refine Rn.blk ?_ | refine Rn.skip ?_ | refine Rn.ret ?_ | refine Rn.exit ?_ | refine Rn.cond rfl ?_ | refine And.intro (InR.i64 (by omega) (by omega)) ?_ | refine And.intro (show _ ≠ (0 : Int) by omega) ?_ | refine WIx.intsN (by omega) ?_ | refine WIx.rowsN (by omega) ?_) <;> conv => whnf)
      refine ⟨.inr rfl, _, rfl, ?_⟩
      rw [show rdB n l r = true from decide_eq_true ha]
      exact .pu trivial
    · refine Rn.rf rfl rfl C rfl (by simp) ?_; conv => whnf
      repeat' first | ((first | with_reducible apply WB.tt | with_reducible apply WB.ff | refine Rn.seq ?_ | refine Rn.reg ?_ | refine Rn.drw ?_ | refine Rn.blk ?_ | refine Rn.skip ?_ | refine Rn.ret ?_ | refine Rn.exit ?_ | refine Rn.cond rfl ?_ | refine And.intro (InR.i64 (by omega) (by omega)) ?_ | refine And.intro (show _ ≠ (0 : Int) by omega) ?_ | refine WIx.intsN (by omega) ?_ | refine WIx.rowsN (by omega) ?_) <;> conv => whnf)
      refine ⟨.inr rfl, _, rfl, ?_⟩
      rw [show rdB n l r = false from decide_eq_false ha]
      exact .pu trivial
  · refine X.le.mk ?_ ?_ (Nat.le_refl _) rfl rfl <;> (first | unfold smS | skip) <;> (repeat' first | exact T.le_e _ | refine T.le_some ?_ rfl ?_ | refine T.le_none ?_ ?_)
end Go.Ev
