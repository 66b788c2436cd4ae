/-
  the statement TokenLeaves of the layer token is true for all inputs: the first wrong line, and the smallest set, are as the document says, or the error is; all sets and readings are tried
-/
import Derived.Test.YtjgbfnciedkafaaEvUN8
import Derived.Test.YtjgbfnciedkafaaEvUNb
import Derived.Test.YtjgbfnciedkafaaEvUHt
import Derived.Test.YtjgbfnciedkafaaRows
import Derived.WalkKit
import Derived.ProofKit
import Derived.OpenShut
import Derived.Test.YtjgbfnciedkafaaEvUPl
import Derived.ShutString
import Derived.Test.YtjgbfnciedkafaaFaTokenLeaves
set_option linter.all false
namespace Go.Ev
open Go.Proofs
set_option maxRecDepth 1000000
noncomputable def rc7 : RC := (.seq (.reg [(.u (.box p2 (.t p1))), (.u (.mv p3 (.k (.b false))))]) (.seq (.seq (.reg [(.u (.ldn p12 (.t p2) 5)), (.u (.cf (some p13) p21 [(.t p12)])), (.u (.un p14 .not (.t p13)))]) (.cond (.t p14) (.seq (.reg [(.u (.cf (some p15) p22 [])), (.u (.mv p3 (.t p15)))]) .ret) .skip)) (.seq (.reg [(.u (.ldn p17 (.t p2) 5)), (.u (.cf (some p18) p24 [(.t p17)])), (.u (.cf (some p19) p47 [(.t p18)])), (.u (.mv p16 (.t p19))), (.u (.ext p20 (.t p16) 0)), (.u (.ext p21 (.t p16) 1)), (.u (.mv p4 (.t p20))), (.u (.mv p5 (.t p21)))]) (.seq (.reg [(.u (.ldn p23 (.t p2) 5)), (.u (.cf (some p24) p24 [(.t p23)])), (.u (.cf (some p25) p48 [(.t p24)])), (.u (.mv p22 (.t p25))), (.u (.ext p26 (.t p22) 0)), (.u (.ext p27 (.t p22) 1)), (.u (.mv p6 (.t p26))), (.u (.mv p7 (.t p27)))]) (.seq (.seq (.reg [(.u (.ldn p28 (.t p2) 5)), (.u (.cf (some p29) p27 [(.t p28)])), (.u (.mv p8 (.t p29)))]) (.seq (.reg [(.u (.mv p30 (.t p8))), (.u (.bin p31 .neq (.t p30) (.k (.i .i64 0))))]) (.cond (.t p31) (.seq (.reg [(.u (.mv p32 (.t p5))), (.u (.mv p33 (.t p8))), (.u (.bin p34 .eql (.t p32) (.t p33))), (.u (.mv p35 (.t p34))), (.g p35 true (some p36) (.mv p36 (.t p7))), (.g p35 true (some p37) (.mv p37 (.t p8))), (.g p35 true (some p38) (.bin p38 .eql (.t p36) (.t p37))), (.u (.pick p39 (.t p35) (.t p38) (.k (.b false)))), (.u (.mv p40 (.t p39))), (.g p40 true (some p41) (.mv p41 (.t p4))), (.g p40 true (some p42) (.bin p42 .eql (.t p41) (.k (.i .i64 0)))), (.u (.pick p43 (.t p40) (.t p42) (.k (.b false)))), (.u (.mv p44 (.t p43))), (.g p44 true (some p45) (.mv p45 (.t p6))), (.g p44 true (some p46) (.len p46 (.t p45))), (.g p44 true (some p47) (.bin p47 .eql (.t p46) (.k (.i .i64 0)))), (.u (.pick p48 (.t p44) (.t p47) (.k (.b false)))), (.u (.mv p49 (.t p48))), (.g p49 true (some p50) (.cf (some p50) p22 [])), (.u (.pick p51 (.t p49) (.t p50) (.k (.b false)))), (.u (.mv p3 (.t p51)))]) .ret) .skip))) (.seq (.seq (.reg [(.u (.ldn p53 (.t p2) 5)), (.u (.cf (some p54) p49 [(.t p53)])), (.u (.mv p52 (.t p54))), (.u (.ext p55 (.t p52) 0)), (.u (.ext p56 (.t p52) 1)), (.u (.mv p9 (.t p55))), (.u (.mv p10 (.t p56)))]) (.seq (.reg [(.u (.mv p57 (.t p10))), (.u (.mv p58 (.t p57))), (.g p58 true (some p59) (.mv p59 (.t p7))), (.g p58 true (some p60) (.bin p60 .neq (.t p59) (.k (.i .i64 0)))), (.g p58 true (some p61) (.mv p61 (.t p60))), (.g p61 false (some p62) (.mv p62 (.t p6))), (.g p61 false (some p63) (.mv p63 (.t p9))), (.g p61 false (some p64) (.cf (some p64) p50 [(.t p62), (.t p63)])), (.g p61 false (some p65) (.un p65 .not (.t p64))), (.g p58 true (some p66) (.pick p66 (.t p61) (.k (.b true)) (.t p65))), (.u (.pick p67 (.t p58) (.t p66) (.k (.b false)))), (.u (.mv p68 (.t p67))), (.g p68 false (some p69) (.mv p69 (.t p10))), (.g p68 false (some p70) (.un p70 .not (.t p69))), (.g p68 false (some p71) (.mv p71 (.t p70))), (.g p71 true (some p72) (.mv p72 (.t p7))), (.g p71 true (some p73) (.bin p73 .neq (.t p72) (.k (.i .i64 10)))), (.g p71 true (some p74) (.mv p74 (.t p73))), (.g p74 false (some p75) (.mv p75 (.t p6))), (.g p74 false (some p76) (.len p76 (.t p75))), (.g p74 false (some p77) (.bin p77 .neq (.t p76) (.k (.i .i64 0)))), (.g p71 true (some p78) (.pick p78 (.t p74) (.k (.b true)) (.t p77))), (.g p68 false (some p79) (.pick p79 (.t p71) (.t p78) (.k (.b false)))), (.u (.pick p80 (.t p68) (.k (.b true)) (.t p79)))]) (.cond (.t p80) (.seq (.reg [(.u (.mv p3 (.k (.b false))))]) .ret) .skip))) (.seq (.seq (.reg [(.u (.ldn p81 (.t p2) 5)), (.u (.cf (some p82) p51 [(.t p81)])), (.u (.mv p11 (.t p82)))]) (.seq (.reg [(.u (.mv p83 (.t p11))), (.u (.bin p84 .geq (.t p83) (.k (.i .i64 0))))]) (.cond (.t p84) (.seq (.reg [(.u (.mv p85 (.t p5))), (.u (.bin p86 .eql (.t p85) (.k (.i .i64 0)))), (.u (.mv p87 (.t p86))), (.g p87 true (some p88) (.mv p88 (.t p4))), (.g p87 true (some p89) (.mv p89 (.t p11))), (.g p87 true (some p90) (.bin p90 .eql (.t p88) (.t p89))), (.u (.pick p91 (.t p87) (.t p90) (.k (.b false)))), (.u (.mv p92 (.t p91))), (.g p92 true (some p93) (.cf (some p93) p22 [])), (.u (.pick p94 (.t p92) (.t p93) (.k (.b false)))), (.u (.mv p3 (.t p94)))]) .ret) .skip))) (.seq (.reg [(.u (.mv p95 (.t p5))), (.u (.bin p96 .eql (.t p95) (.k (.i .i64 7)))), (.u (.mv p97 (.t p96))), (.g p97 true (some p98) (.mv p98 (.t p4))), (.g p97 true (some p99) (.bin p99 .eql (.t p98) (.k (.i .i64 0)))), (.u (.pick p100 (.t p97) (.t p99) (.k (.b false)))), (.u (.mv p101 (.t p100))), (.g p101 true (some p102) (.cf (some p102) p22 [])), (.u (.pick p103 (.t p101) (.t p102) (.k (.b false)))), (.u (.mv p3 (.t p103)))]) .ret))))))))
def rs7 : List RR := [(.t p3)]
theorem fn7 : FnOk Try.prog p8.ix 103 rc7 rs7 := ⟨Try.f7, bodyC Try.f7, Try.func7, by kernel_rfl, by kernel_rfl, by kernel_rfl, by kernel_rfl, by kernel_rfl⟩
end Go.Ev
namespace Go.Ev
open Go.Proofs
set_option maxRecDepth 100000
theorem j_intsS (S : List Int) (h : S.length ≤ 1000) : PureF Try.prog p50.ix [setD S, .lst 1 (ints S)] (.b true) := by
  cases S with
  | nil => exact (j_ints [] (by simp)).sub fun γ w => .cons .ns (.cons (.pu (fun _ h => h) (pu_ints _)) .nil)
  | cons a l => exact j_ints (a :: l) h
theorem fst_bd {n coin box : Int} {ls : List Ln} {k : Nat} (h : fstN n coin box ls = some k) : k < ls.length := by
  unfold fstN at h
  exact List.mem_range.1 (List.mem_of_find?_eq_some h)
set_option maxHeartbeats 4000000 in
theorem j_TokenLeaves (n coin box : Int) (ls : List Ln) (cs : List Ct) (AW : PureF Try.prog p22.ix [] (.b true)) : PureF Try.prog p8.ix [.ag [.i .i64 n, .i .i64 coin, .i .i64 box, .lst 3 (rows lnD ls), .lst 3 (rows ctD cs)]] (.b true) := by
  have iT := j_Thin n coin box ls cs
  unfold bk5 at iT
  refine PureF.run fn7 (by simp) (by simp [PuL, PuE, Pu, pu_ints, pu_ln, pu_ct, pu_tl]) ?_; conv => whnf
  cases hT : thinT n coin box ls cs with
  | false =>
    rw [hT] at iT
    repeat' first | ((first | with_reducible (first | apply Qt | apply Qu) | refine Qa rfl ?_ | refine Qk rfl ?_ | refine Qb ?_ | refine Qc ?_ | refine Qi ?_ | refine Qj ?_ | refine Qf (iT) ?_ | refine Qf (AW) ?_ | with_reducible (first | refine Qm ?_ | refine Qn ?_ | refine Qo ?_ | refine Qp ?_ | refine WB.nt ?_ | refine WB.nf ?_)) <;> conv => whnf) | (refine WB.tt ?_; conv => whnf) | (refine WB.ff ?_; conv => whnf)
    exact Fin.b rfl rfl
  | true =>
  rw [hT] at iT
  have hT' := hT
  unfold thinT at hT'
  rw [Bool.and_eq_true, Bool.and_eq_true, decide_eq_true_iff, decide_eq_true_iff] at hT'
  obtain ⟨t1, t2, _⟩ := hT'
  have iB := j_Book n coin box ls cs (by omega) (by omega)
  have iF := j_fault n coin box ls cs
  unfold bk5 at iF
  have iN := j_FirstP n coin box ls cs
  have iL := j_LeaveP n coin box ls cs
  unfold fstT at iN
  unfold levT at iL
  by_cases h0 : faultT n coin box ls cs ≠ 0
  · rw [if_neg h0] at iN iL
    have q0 : ¬ (0 : Int) ≠ 0 := by decide
    generalize faultT n coin box ls cs = f at *
    repeat' first | ((first | with_reducible (first | apply Qt | apply Qu) | refine Qa rfl ?_ | refine Qk rfl ?_ | refine Qb ?_ | refine Qc ?_ | refine Qi ?_ | refine Qj ?_ | refine Qf (iT) ?_ | refine Qf (iB) ?_ | refine Qf (iF) ?_ | refine Qf (iN) ?_ | refine Qf (iL) ?_ | refine Qf (AW) ?_ | with_reducible (first | refine Qm ?_ | refine Qn ?_ | refine Qo ?_ | refine Qp ?_ | refine WB.nt ?_ | refine WB.nf ?_)) <;> conv => whnf) | (refine WB.tt ?_; conv => whnf) | (refine WB.ff ?_; conv => whnf)
    all_goals exact Fin.b rfl rfl
  · have h0 : faultT n coin box ls cs = 0 := Decidable.not_not.1 h0
    have V := VB.of h0
    rw [if_pos h0] at iN iL
    rw [h0] at iF
    have h8 : ls.length ≤ 8 := V.len
    have iR := j_LeaveR n coin box ls cs V
    have iG := j_FirstR n coin box ls cs V
    rcases lev_same V with ⟨l1, l2⟩ | ⟨c, b, l1, l2, l3, l4, _⟩
    · have l2 : rlJ (B5 n coin box ls cs) (2 ^ ls.length) = none := l2
      rw [l1] at iL
      rw [l2] at iR
      cases hf : fstN n coin box ls with
      | none =>
        rw [hf] at iN iG
        repeat' first | ((first | with_reducible (first | apply Qt | apply Qu) | refine Qa rfl ?_ | refine Qk rfl ?_ | refine Qb ?_ | refine Qc ?_ | refine Qi ?_ | refine Qj ?_ | refine Qf (iT) ?_ | refine Qf (iB) ?_ | refine Qf (iF) ?_ | refine Qf (iN) ?_ | refine Qf (iL) ?_ | refine Qf (iR) ?_ | refine Qf (iG) ?_ | refine Qf (AW) ?_ | with_reducible (first | refine Qm ?_ | refine Qn ?_ | refine Qo ?_ | refine Qp ?_ | refine WB.nt ?_ | refine WB.nf ?_)) <;> conv => whnf) | (refine WB.tt ?_; conv => whnf) | (refine WB.ff ?_; conv => whnf)
        all_goals exact Fin.b rfl rfl
      | some k =>
        rw [hf] at iN iG
        repeat' first | ((first | with_reducible (first | apply Qt | apply Qu) | refine Qa rfl ?_ | refine Qk rfl ?_ | refine Qb ?_ | refine Qc ?_ | refine Qi ?_ | refine Qj ?_ | refine Qf (iT) ?_ | refine Qf (iB) ?_ | refine Qf (iF) ?_ | refine Qf (iN) ?_ | refine Qf (iL) ?_ | refine Qf (iR) ?_ | refine Qf (iG) ?_ | refine Qf (AW) ?_ | with_reducible (first | refine Qm ?_ | refine Qn ?_ | refine Qo ?_ | refine Qp ?_ | refine WB.nt ?_ | refine WB.nf ?_)) <;> conv => whnf) | (refine WB.tt ?_; conv => whnf) | (refine WB.ff ?_; conv => whnf)
        all_goals exact Fin.b rfl rfl
    · have l2 : rlJ (B5 n coin box ls cs) (2 ^ ls.length) = some b := l2
      have l3 : bitL b = numL c ls.length := l3
      have hnl := numL_len c ls.length
      have iI := j_intsS (numL c ls.length) (by omega)
      rw [l1] at iL
      rw [l2] at iR
      have hD : rlD (some b) = .lst 1 (ints (numL c ls.length)) := by rw [← l3]; rfl
      rw [hD] at iR
      cases hf : fstN n coin box ls with
      | none =>
        rw [hf] at iN iG
        repeat' first | ((first | with_reducible (first | apply Qt | apply Qu) | refine Qa rfl ?_ | refine Qk rfl ?_ | refine Qb ?_ | refine Qc ?_ | refine Qi ?_ | refine Qj ?_ | refine Qf (iT) ?_ | refine Qf (iB) ?_ | refine Qf (iF) ?_ | refine Qf (iN) ?_ | refine Qf (iL) ?_ | refine Qf (iR) ?_ | refine Qf (iG) ?_ | refine Qf (iI) ?_ | refine Qf (AW) ?_ | with_reducible (first | refine Qm ?_ | refine Qn ?_ | refine Qo ?_ | refine Qp ?_ | refine WB.nt ?_ | refine WB.nf ?_)) <;> conv => whnf) | (refine WB.tt ?_; conv => whnf) | (refine WB.ff ?_; conv => whnf)
        all_goals exact Fin.b rfl rfl
      | some k =>
        rw [hf] at iN iG
        repeat' first | ((first | with_reducible (first | apply Qt | apply Qu) | refine Qa rfl ?_ | refine Qk rfl ?_ | refine Qb ?_ | refine Qc ?_ | refine Qi ?_ | refine Qj ?_ | refine Qf (iT) ?_ | refine Qf (iB) ?_ | refine Qf (iF) ?_ | refine Qf (iN) ?_ | refine Qf (iL) ?_ | refine Qf (iR) ?_ | refine Qf (iG) ?_ | refine Qf (iI) ?_ | refine Qf (AW) ?_ | with_reducible (first | refine Qm ?_ | refine Qn ?_ | refine Qo ?_ | refine Qp ?_ | refine WB.nt ?_ | refine WB.nf ?_)) <;> conv => whnf) | (refine WB.tt ?_; conv => whnf) | (refine WB.ff ?_; conv => whnf)
        all_goals exact Fin.b rfl rfl
theorem main_tokenLeaves (AW : PureF Try.prog p22.ix [] (.b true)) {es : List D} (fit : FitP [(true, [.i .i64, .i .i64, .i .i64, .sl [.i .i64, .i .i64, .i .i64], .sl [.i .i64, .i .i64, .i .i64]])] es) : PureF Try.prog 7 es (.b true) := by
  obtain ⟨n, coin, box, ls, cs, _, rfl, g1⟩ := fit.book
  obtain rfl := g1.no
  exact j_TokenLeaves n coin box ls cs AW
end Go.Ev
namespace Go.Proofs.Ytjgbfnciedkafaa.tokenLeaves
open Go.ChangeShapes Go.WideShapes Go.ChangeAt Go.RowKit
open Go.ChangeMaps (open_string shut_string)
set_option linter.unusedVariables false
theorem laid : laidOutB Try.prog = true := faP.laid
theorem own : ownKnob Try.prog.godebug = none := by kernel_rfl
theorem walk {es : List Go.Ev.D} (fit : Go.Ev.FitP [(true, [.i .i64, .i .i64, .i .i64, .sl [.i .i64, .i .i64, .i .i64], .sl [.i .i64, .i .i64, .i .i64]])] es) {args : Array Value} {W : World} (ha : Go.Ev.DVL (Go.Ev.γH W) W es args.toList) :
    Calls Try.prog 7 args W fun e w' => e = .returned (.bool true) ∧ Grown W w' ∧ Below W.heap.size W w' :=
  Go.Ev.PureF.calls (Go.Ev.main_tokenLeaves (fun ob nx lg => Go.Ev.t21.any ob nx lg) fit) ha
set_option maxRecDepth 100000 in
theorem lifted (os : Os) (started : os.Started) (H : Type) (enc : TypeId × Value → H) :
    ReturnsInHanded {} Try.checked os 7 .any (Rows.tokenLeavesSpec.pre6 enc Try.prog Try.f7 Rows.tokenLeavesRow.domain false) (Rows.tokenLeavesSpec.post enc Try.prog Try.f7 false true false false) := by
  refine returnsInHanded_of_change (C := Try.checked) own started (by kernel_rfl) Try.func7
    (ChangeSpec.witness6 (enc := enc) (C := Try.checked) false ⟨#[], #[.agg #[.int .i64 0, .int .i64 0, .int .i64 0, .slice none 0 0, .slice none 0 0]], []⟩ 8 (by kernel_rfl) (by kernel_rfl) (by kernel_rfl) (by kernel_rfl)) ?_
  intro W base args ds gs before hval0 hW hcnd _
  have hval : ∀ (j : Nat) t v, Try.f7.params[j]? = some t → args[j]? = some v → Value.okWide Try.prog W .any base t v := hval0
  have hW' := hW
  obtain ⟨p, q, hA0, hV, rfl, hfz, hnd⟩ := hW
  have hA : DataW.TrodAll enc Try.prog W 0 (fun _ => true) true Try.f7.params.toList args.toList ds p := hA0
  rw [Try.params7] at hA hval
  obtain ⟨rfl, rfl⟩ := trodVars_none hV
  obtain ⟨d0, rfl⟩ := Go.Ev.len1 (Go.Ev.trod_len hA)
  clear hA0 hval0
  simp only [List.append_nil] at hW'
  obtain ⟨es, fit, dv⟩ := Go.Ev.open_all (n := 6) (pars := [(true, [.i .i64, .i .i64, .i .i64, .sl [.i .i64, .i .i64, .i .i64], .sl [.i .i64, .i .i64, .i .i64]])]) (by kernel_rfl) hA (fun j t v h1 h2 => hval j t v (by simpa using h1) (by simpa using h2))
  have hlt : ∀ x ∈ p, x.block < W.heap.size := fun x hx => by simpa using hW'.lt x hx
  refine (walk fit dv).mono fun e W' ⟨he, hg, hb⟩ => ?_
  subst he
  exact ⟨_, rfl, post_of_same (pa := p) (pv := []) hW' (fun _ _ _ => (trodAll_cons_mk (shut_bool Try.underlying4 _) trodAll_mk0))
    (fun sp hs => Go.Ev.stays_all laid (Go.Ev.of_allT (by kernel_rfl)) hA (fun x hx => hb.same (hlt x hx)) (fun x hx => hs x hx))
    (fun _ _ => rfl) (List.append_nil _).symm
    (hg.frame _) hg.2.1 (ok_one (by kernel_rfl) rfl (okWide_bool_mk Try.underlying4 _))⟩
theorem over : Rows.tokenLeavesRow.holds Try.pinned (OpenSpec.ofChange Rows.tokenLeavesSpec) :=
  OpenClaim.holds_of_wide 7 Try.f7 rfl rfl rfl rfl rfl rfl rfl ⟨rfl, rfl, rfl, rfl, rfl⟩ rfl rfl rfl rfl rfl (by kernel_rfl) Try.func7 faTokenLeaves.all
    (of_decide_eq_true (by kernel_rfl)) (by unfold Func.isWrapper; first | (rw [if_pos (by decide +kernel)]; kernel_rfl) | (rw [if_neg (by decide +kernel)]; exact ⟨rfl, rfl⟩))
    (fun os started H enc _ => lifted os started H enc)
theorem proved : Rows.TokenLeavesSaid :=
  over
#print axioms proved
end Go.Proofs.Ytjgbfnciedkafaa.tokenLeaves