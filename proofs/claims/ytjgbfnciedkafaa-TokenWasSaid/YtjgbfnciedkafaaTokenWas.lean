/-
  TokenWas: all that a line is in some truth, in the order of the readings.
-/
import Derived.Test.YtjgbfnciedkafaaEvUGo
import Derived.Test.YtjgbfnciedkafaaRows
import Derived.WalkKit
import Derived.ProofKit
import Derived.OpenShut
import Derived.Test.YtjgbfnciedkafaaEvUOc
import Derived.Test.YtjgbfnciedkafaaEvUS3F21D0
import Derived.ShutString
import Derived.Test.YtjgbfnciedkafaaFaTokenWas
set_option linter.all false
namespace Go.Ev
open Go.Proofs
set_option maxRecDepth 1000000
noncomputable def rc6 : RC := (.seq (.reg [(.u (.box p3 (.t p1))), (.u (.mv p5 (.k (.b false))))]) (.seq (.seq (.reg [(.u (.ldn p10 (.t p3) 5)), (.u (.cf (some p11) p21 [(.t p10)])), (.u (.un p12 .not (.t p11)))]) (.cond (.t p12) (.seq (.reg [(.u (.cf (some p13) p22 [])), (.u (.mv p5 (.t p13)))]) .ret) .skip)) (.seq (.reg [(.u (.ldn p15 (.t p3) 5)), (.u (.cf (some p16) p24 [(.t p15)])), (.u (.mv p17 (.t p2))), (.u (.cf (some p18) p44 [(.t p16), (.t p17)])), (.u (.mv p14 (.t p18))), (.u (.ext p19 (.t p14) 0)), (.u (.ext p20 (.t p14) 1)), (.u (.mv p6 (.t p19))), (.u (.mv p7 (.t p20)))]) (.seq (.reg [(.u (.ldn p22 (.t p3) 5)), (.u (.cf (some p23) p35 [(.t p22)])), (.u (.mv p21 (.t p23))), (.u (.ext p24 (.t p21) 0)), (.u (.ext p25 (.t p21) 1)), (.u (.mv p8 (.t p24))), (.u (.mv p9 (.t p25)))]) (.seq (.seq (.reg [(.u (.ldn p26 (.t p3) 5)), (.u (.cf (some p27) p27 [(.t p26)])), (.u (.bin p28 .eql (.t p27) (.k (.i .i64 0)))), (.u (.mv p29 (.t p28))), (.g p29 true (some p30) (.mv p30 (.t p2))), (.g p29 true (some p31) (.fad p31 (.t p3) 3)), (.g p29 true (some p32) (.ld1 p32 (.t p31))), (.g p29 true (some p33) (.len p33 (.t p32))), (.g p29 true (some p34) (.bin p34 .sub (.t p33) (.k (.i .i64 1)))), (.g p29 true (some p35) (.cf (some p35) p36 [(.t p30), (.k (.i .i64 0)), (.t p34)])), (.g p29 true (some p36) (.un p36 .not (.t p35))), (.u (.pick p37 (.t p29) (.t p36) (.k (.b false))))]) (.cond (.t p37) (.reg [(.u (.mv p9 (.k (.i .i64 2))))]) .skip)) (.seq (.seq (.reg [(.u (.mv p38 (.t p9))), (.u (.bin p39 .neq (.t p38) (.k (.i .i64 0))))]) (.cond (.t p39) (.seq (.reg [(.u (.mv p40 (.t p7))), (.u (.mv p41 (.t p9))), (.u (.bin p42 .eql (.t p40) (.t p41))), (.u (.mv p43 (.t p42))), (.g p43 true (some p44) (.mv p44 (.t p6))), (.g p43 true (some p45) (.len p45 (.t p44))), (.g p43 true (some p46) (.bin p46 .eql (.t p45) (.k (.i .i64 0)))), (.u (.pick p47 (.t p43) (.t p46) (.k (.b false)))), (.u (.mv p48 (.t p47))), (.g p48 true (some p49) (.cf (some p49) p22 [])), (.u (.pick p50 (.t p48) (.t p49) (.k (.b false)))), (.u (.mv p5 (.t p50)))]) .ret) .skip)) (.seq (.reg [(.u (.mv p51 (.t p7))), (.u (.bin p52 .eql (.t p51) (.k (.i .i64 0)))), (.u (.mv p53 (.t p52))), (.g p53 true (some p54) (.mv p54 (.t p6))), (.g p53 true (some p55) (.ldn p55 (.t p3) 5)), (.g p53 true (some p56) (.mv p56 (.t p8))), (.g p53 true (some p57) (.mv p57 (.t p2))), (.g p53 true (some p58) (.cf (some p58) p46 [(.t p55), (.t p56), (.t p57)])), (.g p53 true (some p59) (.cf (some p59) p25 [(.t p58)])), (.g p53 true (some p60) (.cf (some p60) p45 [(.t p54), (.t p59)])), (.u (.pick p61 (.t p53) (.t p60) (.k (.b false)))), (.u (.mv p62 (.t p61))), (.g p62 true (some p63) (.cf (some p63) p22 [])), (.u (.pick p64 (.t p62) (.t p63) (.k (.b false)))), (.u (.mv p5 (.t p64)))]) .ret)))))))
def rs6 : List RR := [(.t p5)]
theorem fn6 : FnOk Try.prog p7.ix 64 rc6 rs6 := ⟨Try.f6, bodyC Try.f6, Try.func6, by kernel_rfl, by kernel_rfl, by kernel_rfl, by kernel_rfl, by kernel_rfl⟩

end Go.Ev

namespace Go.Ev
open Go.Proofs
set_option maxRecDepth 100000
/-! ### TokenWas -/
theorem j_lines (A : List Ln) (ha : A.length ≤ 1000) (hw : ∀ a ∈ A, lnWf a) : PureF Try.prog p45.ix [.lst 3 (rows lnD A), .lst 3 (rows lnD A)] (.b true) := by
  have e1 := rows_length lnD A
  refine PureF.run fn44 (by simp) (by simp [PuL, Pu, pu_ln]) ?_; conv => whnf
  repeat' first | ((first | with_reducible apply WB.tt | with_reducible apply WB.ff | refine Rn.seq ?_ | refine Rn.reg ?_ | refine Rn.drw ?_ | refine Rn.blk ?_ | refine Rn.skip ?_ | refine Rn.ret ?_ | refine Rn.exit ?_ | refine Rn.cond rfl ?_ | refine And.intro (InR.i64 (by omega) (by omega)) ?_ | refine And.intro (show _ ≠ (0 : Int) by omega) ?_ | refine WIx.intsN (by omega) ?_ | refine WIx.rowsN (by omega) ?_ | with_reducible refine WB.decT (by first | with_reducible rfl | assumption | omega | exact ⟨rfl, rfl⟩) ?_ | with_reducible refine WB.decF (by first | assumption | omega) ?_ | with_reducible refine WB.ndT (by first | with_reducible rfl | assumption | omega | exact ⟨rfl, rfl⟩) ?_ | with_reducible refine WB.ndF (by first | assumption | omega) ?_ | with_reducible refine WB.nt ?_ | with_reducible refine WB.nf ?_ | with_reducible refine WB.dec (fun h => ?_) (fun h => ?_) | with_reducible refine WB.ndec (fun h => ?_) (fun h => ?_) | refine WB.mk (fun h => ?_) (fun h => ?_)) <;> conv => whnf)
  refine Rn.loop (fun j : Nat => ⟨(.n (.n .e (some (.lst 3 (rows lnD A))) (.n .e (some (.i .i64 (j : Int))) .e)) (some (.lst 3 (rows lnD A))) .e), .e, .h, none⟩) (fun j => j ≤ A.length) (fun j => A.length - j) 0 ?_ ?_ ?_
  · (first | (refine X.le.mk ?_ ?_ (Nat.le_refl _) rfl rfl) | skip) <;> (repeat' first | exact T.le_e _ | refine T.le_some ?_ ?_ ?_ | refine T.le_none ?_ ?_ | rfl)
  · exact Nat.zero_le _
  intro j hj
  have hj : j ≤ A.length := hj
  conv => whnf
  repeat' first | ((first | with_reducible apply WB.tt | with_reducible apply WB.ff | refine Rn.seq ?_ | refine Rn.reg ?_ | refine Rn.drw ?_ | refine Rn.blk ?_ | refine Rn.skip ?_ | refine Rn.ret ?_ | refine Rn.exit ?_ | refine Rn.cond rfl ?_ | refine And.intro (InR.i64 (by omega) (by omega)) ?_ | refine And.intro (show _ ≠ (0 : Int) by omega) ?_ | refine WIx.intsN (by omega) ?_ | refine WIx.rowsN (by omega) ?_) <;> conv => whnf)
  refine WB.dec (fun h => ?_) (fun h => ?_) <;> conv => whnf
  · have hlt : j < A.length := by omega
    have hwj := hw _ (getD_mem (d := default) hlt)
    repeat' first | ((first | with_reducible apply WB.tt | with_reducible apply WB.ff | refine Rn.seq ?_ | refine Rn.reg ?_ | refine Rn.drw ?_ | refine Rn.blk ?_ | refine Rn.skip ?_ | refine Rn.ret ?_ | refine Rn.exit ?_ | refine Rn.cond rfl ?_ | refine And.intro (InR.i64 (by omega) (by omega)) ?_ | refine And.intro (show _ ≠ (0 : Int) by omega) ?_ | refine WIx.intsN (by omega) ?_ | refine WIx.rowsN (by omega) ?_ | with_reducible refine WB.decT (by first | with_reducible rfl | assumption | omega | exact ⟨rfl, rfl⟩) ?_ | with_reducible refine WB.decF (by first | assumption | omega) ?_ | with_reducible refine WB.ndT (by first | with_reducible rfl | assumption | omega | exact ⟨rfl, rfl⟩) ?_ | with_reducible refine WB.ndF (by first | assumption | omega) ?_ | with_reducible refine WB.nt ?_ | with_reducible refine WB.nf ?_ | with_reducible refine WB.dec (fun h => ?_) (fun h => ?_) | with_reducible refine WB.ndec (fun h => ?_) (fun h => ?_) | refine WB.mk (fun h => ?_) (fun h => ?_)) <;> conv => whnf)
    refine WSt.eqLn (A.getD j default) (A.getD j default) (by rfl) (by rfl) hwj hwj (r := false) (by simp) ?_; conv => whnf
    repeat' first | ((first | with_reducible apply WB.tt | with_reducible apply WB.ff | refine Rn.seq ?_ | refine Rn.reg ?_ | refine Rn.drw ?_ | refine Rn.blk ?_ | refine Rn.skip ?_ | refine Rn.ret ?_ | refine Rn.exit ?_ | refine Rn.cond rfl ?_ | refine And.intro (InR.i64 (by omega) (by omega)) ?_ | refine And.intro (show _ ≠ (0 : Int) by omega) ?_ | refine WIx.intsN (by omega) ?_ | refine WIx.rowsN (by omega) ?_ | with_reducible refine WB.decT (by first | with_reducible rfl | assumption | omega | exact ⟨rfl, rfl⟩) ?_ | with_reducible refine WB.decF (by first | assumption | omega) ?_ | with_reducible refine WB.ndT (by first | with_reducible rfl | assumption | omega | exact ⟨rfl, rfl⟩) ?_ | with_reducible refine WB.ndF (by first | assumption | omega) ?_ | with_reducible refine WB.nt ?_ | with_reducible refine WB.nf ?_ | with_reducible refine WB.dec (fun h => ?_) (fun h => ?_) | with_reducible refine WB.ndec (fun h => ?_) (fun h => ?_) | refine WB.mk (fun h => ?_) (fun h => ?_)) <;> conv => whnf)
    refine Again.to (j + 1) (by omega) (by omega) (Nat.le_refl _) ?_
    (refine Shr.of ?_ ?_ rfl rfl) <;> (repeat' first | exact Rel.e | refine Rel.some ?_ ?_ ?_ | refine Rel.none ?_ ?_) <;> (try first | (show Fz _ _ _ _; first | exact Fz.pu trivial | (refine Fz.i ?_; first | rfl | omega) | (refine Fz.kpt ?_; (focus (show Pos.nat _ < Pos.nat _; simp [Pos.nat]; done))) | (refine Fz.ksl ?_; (focus (show Pos.nat _ < Pos.nat _; simp [Pos.nat]; done))) | (refine Fz.kmp ?_; (focus (show Pos.nat _ < Pos.nat _; simp [Pos.nat]; done))) | (refine Fz.pu ?_; simp [Cell.d, Pu, PuL, PuE, pu_ints, pu_ln, pu_ct, pu_tl]; done) | (refine Fz.pu ?_; simp only [Cell.d]; assumption)) | (refine RO'.of ?_ (ShC.same ?_); (focus (show Pos.nat _ < Pos.nat _; simp [Pos.nat]; done)); (repeat' first | exact ShC.nl | refine ShC.cn ?_ ?_) <;> first | exact Fz.pu trivial | (refine Fz.i ?_; first | rfl | omega) | (refine Fz.kpt ?_; (focus (show Pos.nat _ < Pos.nat _; simp [Pos.nat]; done))) | (refine Fz.ksl ?_; (focus (show Pos.nat _ < Pos.nat _; simp [Pos.nat]; done))) | (refine Fz.kmp ?_; (focus (show Pos.nat _ < Pos.nat _; simp [Pos.nat]; done))) | (refine Fz.pu ?_; simp [Cell.d, Pu, PuL, PuE, pu_ints, pu_ln, pu_ct, pu_tl]; done) | (refine Fz.pu ?_; simp only [Cell.d]; assumption)))
    all_goals exact Fz.pu (pu_ln _)
  · repeat' first | ((first | with_reducible apply WB.tt | with_reducible apply WB.ff | refine Rn.seq ?_ | refine Rn.reg ?_ | refine Rn.drw ?_ | refine Rn.blk ?_ | refine Rn.skip ?_ | refine Rn.ret ?_ | refine Rn.exit ?_ | refine Rn.cond rfl ?_ | refine And.intro (InR.i64 (by omega) (by omega)) ?_ | refine And.intro (show _ ≠ (0 : Int) by omega) ?_ | refine WIx.intsN (by omega) ?_ | refine WIx.rowsN (by omega) ?_) <;> conv => whnf)
    exact Fin.b rfl rfl
theorem was_same {B : Bk} (V : VB B) {line : Nat} (hl : line < B.ls.length) : (readL B.n (B.ls.getD line default)).filter (metB (refT B) line) = wasL B line := by
  unfold wasL metB
  rw [read_rds V.n (List.all_eq_true.1 V.ls _ (getD_mem hl))]
  refine List.filter_congr fun l _ => ?_
  rw [Bool.eq_iff_iff, List.any_eq_true, List.any_eq_true]
  exact ⟨fun ⟨X, h1, h2⟩ => ⟨X, (refT_ext V).1 h1, h2⟩, fun ⟨X, h1, h2⟩ => ⟨X, (refT_ext V).2 h1, h2⟩⟩
theorem rd_wf {B : Bk} (V : VB B) {line : Nat} (hl : line < B.ls.length) {a : Ln} (h : rdB B.n (B.ls.getD line default) a = true) : lnWf a := by
  obtain ⟨h1, h2, h3⟩ := V.rd hl h
  exact ⟨wf_small (by omega) (by omega), wf_small (by omega) (by omega), wf_small (by omega) (by omega)⟩
set_option maxHeartbeats 4000000 in
theorem j_TokenWas (n coin box : Int) (ls : List Ln) (cs : List Ct) (line : Int) (AW : PureF Try.prog p22.ix [] (.b true)) : PureF Try.prog p7.ix [.ag [.i .i64 n, .i .i64 coin, .i .i64 box, .lst 3 (rows lnD ls), .lst 3 (rows ctD cs)], .i .i64 line] (.b true) := by
  have e1 := rows_length lnD ls
  have iT := j_Thin n coin box ls cs
  unfold bk5 at iT
  refine PureF.run fn6 (by simp) (by simp [PuL, PuE, Pu, pu_ints, pu_ln, pu_ct, pu_tl]) ?_; conv => whnf
  cases hT : thinT n coin box ls cs with
  | false =>
    rw [hT] at iT
    repeat' first | ((first | with_reducible apply WB.tt | with_reducible apply WB.ff | refine Rn.seq ?_ | refine Rn.reg ?_ | refine Rn.drw ?_ | refine Rn.blk ?_ | refine Rn.skip ?_ | refine Rn.ret ?_ | refine Rn.exit ?_ | refine Rn.cond rfl ?_ | refine And.intro (InR.i64 (by omega) (by omega)) ?_ | refine And.intro (show _ ≠ (0 : Int) by omega) ?_ | refine WIx.intsN (by omega) ?_ | refine WIx.rowsN (by omega) ?_ | refine WCall.pure (iT) ?_) <;> conv => whnf)
    refine WB.tt ?_; conv => whnf
    repeat' first | ((first | with_reducible apply WB.tt | with_reducible apply WB.ff | refine Rn.seq ?_ | refine Rn.reg ?_ | refine Rn.drw ?_ | refine Rn.blk ?_ | refine Rn.skip ?_ | refine Rn.ret ?_ | refine Rn.exit ?_ | refine Rn.cond rfl ?_ | refine And.intro (InR.i64 (by omega) (by omega)) ?_ | refine And.intro (show _ ≠ (0 : Int) by omega) ?_ | refine WIx.intsN (by omega) ?_ | refine WIx.rowsN (by omega) ?_ | refine WCall.pure (AW) ?_) <;> conv => whnf)
    exact Fin.b rfl rfl
  | true =>
  rw [hT] at iT
  have hT' := hT
  unfold thinT at hT'
  rw [Bool.and_eq_true, Bool.and_eq_true, decide_eq_true_iff, decide_eq_true_iff] at hT'
  obtain ⟨t1, t2, _⟩ := hT'
  have iB := j_Book n coin box ls cs (by omega) (by omega)
  have iF := j_fault n coin box ls cs
  have iO := j_WasP n coin box ls cs line (by omega)
  have iS := j_sure n coin box ls cs
  have iI := j_In line 0 ((ls.length : Int) - 1)
  unfold bk5 at iF iS
  unfold wasT at iO
  unfold surD at iS
  have hz : ((([] : List (List D)).length : Int)) = 0 := rfl
  rw [← e1] at iI
  by_cases h0 : faultT n coin box ls cs ≠ 0
  · rw [sE_bad h0, if_neg h0] at iO iS
    generalize faultT n coin box ls cs = f at *
    repeat' first | ((first | with_reducible apply WB.tt | with_reducible apply WB.ff | refine Rn.seq ?_ | refine Rn.reg ?_ | refine Rn.drw ?_ | refine Rn.blk ?_ | refine Rn.skip ?_ | refine Rn.ret ?_ | refine Rn.exit ?_ | refine Rn.cond rfl ?_ | refine And.intro (InR.i64 (by omega) (by omega)) ?_ | refine And.intro (show _ ≠ (0 : Int) by omega) ?_ | refine WIx.intsN (by omega) ?_ | refine WIx.rowsN (by omega) ?_ | refine WCall.pure (iT) ?_ | refine WCall.pure (iB) ?_ | refine WCall.pure (iF) ?_ | refine WCall.pure (iO) ?_ | refine WCall.pure (iS) ?_ | refine WCall.pure (AW) ?_ | with_reducible refine WB.decT (by first | with_reducible rfl | assumption | omega | exact ⟨rfl, rfl⟩) ?_ | with_reducible refine WB.decF (by first | assumption | omega) ?_ | with_reducible refine WB.ndT (by first | with_reducible rfl | assumption | omega | exact ⟨rfl, rfl⟩) ?_ | with_reducible refine WB.ndF (by first | assumption | omega) ?_ | with_reducible refine WB.nt ?_ | with_reducible refine WB.nf ?_ | with_reducible refine WB.dec (fun h => ?_) (fun h => ?_) | with_reducible refine WB.ndec (fun h => ?_) (fun h => ?_) | refine WB.mk (fun h => ?_) (fun h => ?_)) <;> conv => whnf)
    exact Fin.b rfl rfl
  have h0 : faultT n coin box ls cs = 0 := by omega
  have V := VB.of h0
  have hlen := fun X (h : X ∈ refT (B5 n coin box ls cs)) => refT_len V h
  have hRl : (refT (B5 n coin box ls cs)).length ≤ 4096 := Nat.le_trans (List.length_filter_le _ _) (allN3_len V)
  rw [h0] at iF
  cases ht : inR line 0 ((ls.length : Int) - 1) with
  | false =>
    rw [ht, sE_away h0, if_neg (by decide)] at iO
    rw [e1, ht] at iI
    rw [← e1] at iI
    cases hb : hasB (B5 n coin box ls cs) with
    | false =>
      rw [sE_false h0 hb, if_neg (by decide)] at iS
      repeat' first | ((first | with_reducible apply WB.tt | with_reducible apply WB.ff | refine Rn.seq ?_ | refine Rn.reg ?_ | refine Rn.drw ?_ | refine Rn.blk ?_ | refine Rn.skip ?_ | refine Rn.ret ?_ | refine Rn.exit ?_ | refine Rn.cond rfl ?_ | refine And.intro (InR.i64 (by omega) (by omega)) ?_ | refine And.intro (show _ ≠ (0 : Int) by omega) ?_ | refine WIx.intsN (by omega) ?_ | refine WIx.rowsN (by omega) ?_ | refine WCall.pure (iT) ?_ | refine WCall.pure (iB) ?_ | refine WCall.pure (iF) ?_ | refine WCall.pure (iO) ?_ | refine WCall.pure (iS) ?_ | refine WCall.pure (iI) ?_ | refine WCall.pure (AW) ?_ | with_reducible refine WB.decT (by first | with_reducible rfl | assumption | omega | exact ⟨rfl, rfl⟩) ?_ | with_reducible refine WB.decF (by first | assumption | omega) ?_ | with_reducible refine WB.ndT (by first | with_reducible rfl | assumption | omega | exact ⟨rfl, rfl⟩) ?_ | with_reducible refine WB.ndF (by first | assumption | omega) ?_ | with_reducible refine WB.nt ?_ | with_reducible refine WB.nf ?_ | with_reducible refine WB.dec (fun h => ?_) (fun h => ?_) | with_reducible refine WB.ndec (fun h => ?_) (fun h => ?_) | refine WB.mk (fun h => ?_) (fun h => ?_)) <;> conv => whnf)
      exact Fin.b rfl rfl
    | true =>
      rw [sE_true h0 hb, if_pos rfl] at iS
      repeat' first | ((first | with_reducible apply WB.tt | with_reducible apply WB.ff | refine Rn.seq ?_ | refine Rn.reg ?_ | refine Rn.drw ?_ | refine Rn.blk ?_ | refine Rn.skip ?_ | refine Rn.ret ?_ | refine Rn.exit ?_ | refine Rn.cond rfl ?_ | refine And.intro (InR.i64 (by omega) (by omega)) ?_ | refine And.intro (show _ ≠ (0 : Int) by omega) ?_ | refine WIx.intsN (by omega) ?_ | refine WIx.rowsN (by omega) ?_ | refine WCall.pure (iT) ?_ | refine WCall.pure (iB) ?_ | refine WCall.pure (iF) ?_ | refine WCall.pure (iO) ?_ | refine WCall.pure (iS) ?_ | refine WCall.pure (iI) ?_ | refine WCall.pure (AW) ?_ | with_reducible refine WB.decT (by first | with_reducible rfl | assumption | omega | exact ⟨rfl, rfl⟩) ?_ | with_reducible refine WB.decF (by first | assumption | omega) ?_ | with_reducible refine WB.ndT (by first | with_reducible rfl | assumption | omega | exact ⟨rfl, rfl⟩) ?_ | with_reducible refine WB.ndF (by first | assumption | omega) ?_ | with_reducible refine WB.nt ?_ | with_reducible refine WB.nf ?_ | with_reducible refine WB.dec (fun h => ?_) (fun h => ?_) | with_reducible refine WB.ndec (fun h => ?_) (fun h => ?_) | refine WB.mk (fun h => ?_) (fun h => ?_)) <;> conv => whnf)
      exact Fin.b rfl rfl
  | true =>
  rw [ht] at iO
  rw [e1, ht] at iI
  rw [← e1] at iI
  cases hb : hasB (B5 n coin box ls cs) with
  | false =>
    rw [sE_false h0 hb, if_neg (by decide)] at iO iS
    repeat' first | ((first | with_reducible apply WB.tt | with_reducible apply WB.ff | refine Rn.seq ?_ | refine Rn.reg ?_ | refine Rn.drw ?_ | refine Rn.blk ?_ | refine Rn.skip ?_ | refine Rn.ret ?_ | refine Rn.exit ?_ | refine Rn.cond rfl ?_ | refine And.intro (InR.i64 (by omega) (by omega)) ?_ | refine And.intro (show _ ≠ (0 : Int) by omega) ?_ | refine WIx.intsN (by omega) ?_ | refine WIx.rowsN (by omega) ?_ | refine WCall.pure (iT) ?_ | refine WCall.pure (iB) ?_ | refine WCall.pure (iF) ?_ | refine WCall.pure (iO) ?_ | refine WCall.pure (iS) ?_ | refine WCall.pure (iI) ?_ | refine WCall.pure (AW) ?_ | with_reducible refine WB.decT (by first | with_reducible rfl | assumption | omega | exact ⟨rfl, rfl⟩) ?_ | with_reducible refine WB.decF (by first | assumption | omega) ?_ | with_reducible refine WB.ndT (by first | with_reducible rfl | assumption | omega | exact ⟨rfl, rfl⟩) ?_ | with_reducible refine WB.ndF (by first | assumption | omega) ?_ | with_reducible refine WB.nt ?_ | with_reducible refine WB.nf ?_ | with_reducible refine WB.dec (fun h => ?_) (fun h => ?_) | with_reducible refine WB.ndec (fun h => ?_) (fun h => ?_) | refine WB.mk (fun h => ?_) (fun h => ?_)) <;> conv => whnf)
    exact Fin.b rfl rfl
  | true =>
    have ha := inR_iff.1 ht
    obtain ⟨m, rfl⟩ : ∃ m : Nat, line = (m : Int) := ⟨line.toNat, by omega⟩
    have hm : m < ls.length := by omega
    have hn : 1 ≤ n ∧ n ≤ 4 := V.n
    have hl8 : ls.length ≤ 8 := V.len
    rw [sE_true h0 hb, if_pos rfl, Int.toNat_natCast] at iO
    rw [sE_true h0 hb, if_pos rfl] at iS
    have hrr : readL n (ls.getD m default) = rdsL n (ls.getD m default) := read_rds hn (List.all_eq_true.1 V.ls _ (getD_mem hm))
    have iW := j_WasR n coin box ls cs (refT (B5 n coin box ls cs)) m hn hm hl8 hRl (fun t h => ⟨by have h1 : t.length = ls.length := hlen t h; omega, ws_wf V ((refT_ext V).1 h) hm⟩) (fun a h => by
      rw [hrr] at h
      exact rd_wf V hm (mem_rdsL.1 h)) (by rw [hrr]; exact rds_32 V _)
    unfold bk5 at iW
    rw [show (readL n (ls.getD m default)).filter (metB (refT (B5 n coin box ls cs)) m) = wasL (B5 n coin box ls cs) m from was_same V hm] at iW
    have hwl : (wasL (B5 n coin box ls cs) m).length ≤ 1000 := Nat.le_trans (List.length_filter_le _ _) (rds_32 V _)
    have iTr := j_Truth (wasL (B5 n coin box ls cs) m) (by omega)
    have iL := j_lines (wasL (B5 n coin box ls cs) m) hwl (fun a h => rd_wf V hm (mem_rdsL.1 (List.mem_filter.1 h).1))
    generalize wasL (B5 n coin box ls cs) m = W at *
    generalize refT (B5 n coin box ls cs) = L at *
    repeat' first | ((first | with_reducible apply WB.tt | with_reducible apply WB.ff | refine Rn.seq ?_ | refine Rn.reg ?_ | refine Rn.drw ?_ | refine Rn.blk ?_ | refine Rn.skip ?_ | refine Rn.ret ?_ | refine Rn.exit ?_ | refine Rn.cond rfl ?_ | refine And.intro (InR.i64 (by omega) (by omega)) ?_ | refine And.intro (show _ ≠ (0 : Int) by omega) ?_ | refine WIx.intsN (by omega) ?_ | refine WIx.rowsN (by omega) ?_ | refine WCall.pure (iT) ?_ | refine WCall.pure (iB) ?_ | refine WCall.pure (iF) ?_ | refine WCall.pure (iO) ?_ | refine WCall.pure (iS) ?_ | refine WCall.pure (iI) ?_ | refine WCall.pure (iW) ?_ | refine WCall.pure (iTr) ?_ | refine WCall.pure (iL) ?_ | refine WCall.pure (AW) ?_ | with_reducible refine WB.decT (by first | with_reducible rfl | assumption | omega | exact ⟨rfl, rfl⟩) ?_ | with_reducible refine WB.decF (by first | assumption | omega) ?_ | with_reducible refine WB.ndT (by first | with_reducible rfl | assumption | omega | exact ⟨rfl, rfl⟩) ?_ | with_reducible refine WB.ndF (by first | assumption | omega) ?_ | with_reducible refine WB.nt ?_ | with_reducible refine WB.nf ?_ | with_reducible refine WB.dec (fun h => ?_) (fun h => ?_) | with_reducible refine WB.ndec (fun h => ?_) (fun h => ?_) | refine WB.mk (fun h => ?_) (fun h => ?_)) <;> conv => whnf)
    exact Fin.b rfl rfl
theorem main_tokenWas (AW : PureF Try.prog p22.ix [] (.b true)) {es : List D} (fit : FitP [(true, [.i .i64, .i .i64, .i .i64, .sl [.i .i64, .i .i64, .i .i64], .sl [.i .i64, .i .i64, .i .i64]]), (false, [.i .i64])] es) : PureF Try.prog 6 es (.b true) := by
  obtain ⟨n, coin, box, ls, cs, _, rfl, g1⟩ := fit.book
  obtain ⟨k, _, rfl, _, g2⟩ := g1.i
  obtain rfl := g2.no
  exact j_TokenWas n coin box ls cs k AW
end Go.Ev

namespace Go.Proofs.Ytjgbfnciedkafaa.tokenWas
open Go.ChangeShapes Go.WideShapes Go.ChangeAt Go.RowKit
open Go.ChangeMaps (open_string shut_string)
set_option linter.unusedVariables false

theorem laid : laidOutB Try.prog = true := faP.laid
theorem own : ownKnob Try.prog.godebug = none := by kernel_rfl

/-! ### the walk -/
theorem walk {es : List Go.Ev.D} (fit : Go.Ev.FitP [(true, [.i .i64, .i .i64, .i .i64, .sl [.i .i64, .i .i64, .i .i64], .sl [.i .i64, .i .i64, .i .i64]]), (false, [.i .i64])] es) {args : Array Value} {W : World} (ha : Go.Ev.DVL (Go.Ev.γH W) W es args.toList) :
    Calls Try.prog 6 args W fun e w' => e = .returned (.bool true) ∧ Grown W w' ∧ Below W.heap.size W w' :=
  Go.Ev.PureF.calls (Go.Ev.main_tokenWas (fun ob nx lg => Go.Ev.t21.any ob nx lg) fit) ha

set_option maxRecDepth 100000 in
theorem lifted (os : Os) (started : os.Started) (H : Type) (enc : TypeId × Value → H) :
    ReturnsInHanded {} Try.checked os 6 .any (Rows.tokenWasSpec.pre6 enc Try.prog Try.f6 Rows.tokenWasRow.domain false) (Rows.tokenWasSpec.post enc Try.prog Try.f6 false true false false) := by
  refine returnsInHanded_of_change (C := Try.checked) own started (by kernel_rfl) Try.func6
    (ChangeSpec.witness6 (enc := enc) (C := Try.checked) false ⟨#[], #[.agg #[.int .i64 0, .int .i64 0, .int .i64 0, .slice none 0 0, .slice none 0 0], .int .i64 0], []⟩ 8 (by kernel_rfl) (by kernel_rfl) (by kernel_rfl) (by kernel_rfl)) ?_
  intro W base args ds gs before hval0 hW hcnd _
  have hval : ∀ (j : Nat) t v, Try.f6.params[j]? = some t → args[j]? = some v → Value.okWide Try.prog W .any base t v := hval0
  have hW' := hW
  obtain ⟨p, q, hA0, hV, rfl, hfz, hnd⟩ := hW
  have hA : DataW.TrodAll enc Try.prog W 0 (fun _ => true) true Try.f6.params.toList args.toList ds p := hA0
  rw [Try.params6] at hA hval
  obtain ⟨rfl, rfl⟩ := trodVars_none hV
  obtain ⟨d0, d1, rfl⟩ := Go.Ev.len2 (Go.Ev.trod_len hA)
  clear hA0 hval0
  simp only [List.append_nil] at hW'
  obtain ⟨es, fit, dv⟩ := Go.Ev.open_all (n := 6) (pars := [(true, [.i .i64, .i .i64, .i .i64, .sl [.i .i64, .i .i64, .i .i64], .sl [.i .i64, .i .i64, .i .i64]]), (false, [.i .i64])]) (by kernel_rfl) hA (fun j t v h1 h2 => hval j t v (by simpa using h1) (by simpa using h2))
  have hlt : ∀ x ∈ p, x.block < W.heap.size := fun x hx => by simpa using hW'.lt x hx
  refine (walk fit dv).mono fun e W' ⟨he, hg, hb⟩ => ?_
  subst he
  exact ⟨_, rfl, post_of_same (pa := p) (pv := []) hW' (fun _ _ _ => (trodAll_cons_mk (shut_bool Try.underlying4 _) trodAll_mk0))
    (fun sp hs => Go.Ev.stays_all laid (Go.Ev.of_allT (by kernel_rfl)) hA (fun x hx => hb.same (hlt x hx)) (fun x hx => hs x hx))
    (fun _ _ => rfl) (List.append_nil _).symm
    (hg.frame _) hg.2.1 (ok_one (by kernel_rfl) rfl (okWide_bool_mk Try.underlying4 _))⟩

theorem over : Rows.tokenWasRow.holds Try.pinned (OpenSpec.ofChange Rows.tokenWasSpec) :=
  OpenClaim.holds_of_wide 6 Try.f6 rfl rfl rfl rfl rfl rfl rfl ⟨rfl, rfl, rfl, rfl, rfl⟩ rfl rfl rfl rfl rfl (by kernel_rfl) Try.func6 faTokenWas.all
    (of_decide_eq_true (by kernel_rfl)) (by unfold Func.isWrapper; first | (rw [if_pos (by decide +kernel)]; kernel_rfl) | (rw [if_neg (by decide +kernel)]; exact ⟨rfl, rfl⟩))
    (fun os started H enc _ => lifted os started H enc)

/-- ████ THE STATEMENT ████ -/
theorem proved : Rows.TokenWasSaid :=
  over
#print axioms proved
end Go.Proofs.Ytjgbfnciedkafaa.tokenWas
