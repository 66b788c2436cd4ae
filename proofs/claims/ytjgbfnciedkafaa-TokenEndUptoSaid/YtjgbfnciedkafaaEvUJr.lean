import Derived.Test.YtjgbfnciedkafaaEvUJ1
import Derived.Test.YtjgbfnciedkafaaEvUJ8
import Derived.Test.YtjgbfnciedkafaaEvUIt
set_option linter.all false
namespace Go.Ev
open Go.Proofs
set_option maxRecDepth 1000000
noncomputable def rc40 : RC := (.seq (.reg [(.u (.box p2 (.t p1))), (.u (.new p3 [(.i .i64 0), (.i .i64 0)]))]) (.seq (.reg [(.u (.fad p4 (.t p2) 0)), (.u (.ld1 p5 (.t p4))), (.u (.fad p6 (.t p2) 1)), (.u (.ld1 p7 (.t p6))), (.u (.bld p8 [(.i .i64 0), (.i .i64 0)] [(0, (1, (.t p5))), (1, (1, (.t p7)))])), (.u (.st (.t p3) (.t p8) 2))]) .ret))
def rs40 : List RR := [(.cn p3 2)]
theorem fn40 : FnOk Try.prog p41.ix 8 rc40 rs40 := ⟨Try.f40, bodyC Try.f40, Try.func40, by kernel_rfl, by kernel_rfl, by kernel_rfl, by kernel_rfl, by kernel_rfl⟩
noncomputable def rc134 : RC := (.seq (.reg [(.u (.ldn p12 (.t p2) 6)), (.u (.ldn p13 (.t p3) 3)), (.u (.cf (some p14) p116 [(.t p12), (.t p13)])), (.u (.mv p11 (.t p14))), (.u (.ext p15 (.t p11) 0)), (.u (.ext p16 (.t p11) 1)), (.u (.ext p17 (.t p11) 2)), (.u (.new p5 [(.i .i64 0), (.i .i64 0)])), (.u (.new p6 [(.i .i64 0), (.i .i64 0)])), (.u (.new p7 [(.i .i64 0), (.i .i64 0)])), (.u (.st (.t p5) (.t p15) 2)), (.u (.st (.t p6) (.t p16) 2)), (.u (.st (.t p7) (.t p17) 2))]) (.seq (.reg [(.u (.fad p18 (.t p5) 0)), (.u (.ld1 p19 (.t p18))), (.u (.mv p8 (.t p19)))]) (.blk 0 (.loop (.seq (.seq (.reg [(.u (.mv p20 (.t p8))), (.u (.fad p21 (.t p5) 1)), (.u (.ld1 p22 (.t p21))), (.u (.bin p23 .leq (.t p20) (.t p22)))]) (.cond (.t p23) .skip (.exit 0))) (.seq (.blk 1 (.seq (.reg [(.u (.fad p26 (.t p6) 0)), (.u (.ld1 p27 (.t p26))), (.u (.mv p9 (.t p27)))]) (.blk 2 (.loop (.seq (.seq (.reg [(.u (.mv p28 (.t p9))), (.u (.fad p29 (.t p6) 1)), (.u (.ld1 p30 (.t p29))), (.u (.bin p31 .leq (.t p28) (.t p30)))]) (.cond (.t p31) .skip (.exit 2))) (.seq (.blk 3 (.seq (.reg [(.u (.fad p34 (.t p7) 0)), (.u (.ld1 p35 (.t p34))), (.u (.mv p10 (.t p35)))]) (.blk 4 (.loop (.seq (.seq (.reg [(.u (.mv p36 (.t p10))), (.u (.fad p37 (.t p7) 1)), (.u (.ld1 p38 (.t p37))), (.u (.bin p39 .leq (.t p36) (.t p38)))]) (.cond (.t p39) .skip (.exit 4))) (.seq (.blk 5 (.seq (.reg [(.u (.mv p42 (.t p1))), (.u (.mv p43 (.t p8))), (.u (.mv p44 (.t p9))), (.u (.mv p45 (.t p10))), (.u (.bld p46 [(.i .i64 0), (.i .i64 0), (.i .i64 0)] [(0, (1, (.t p43))), (1, (1, (.t p44))), (2, (1, (.t p45)))])), (.u (.cv (some p47) (.t p42) [(.t p46)])), (.u (.un p48 .not (.t p47)))]) (.cond (.t p48) .ret .skip))) (.reg [(.u (.mv p40 (.t p10))), (.u (.bin p41 .add (.t p40) (.k (.i .i64 1)))), (.u (.mv p10 (.t p41)))]))))))) (.reg [(.u (.mv p32 (.t p9))), (.u (.bin p33 .add (.t p32) (.k (.i .i64 1)))), (.u (.mv p9 (.t p33)))]))))))) (.reg [(.u (.mv p24 (.t p8))), (.u (.bin p25 .add (.t p24) (.k (.i .i64 1)))), (.u (.mv p8 (.t p25)))])))))))
def rs134 : List RR := []
theorem fn134 : FnOk Try.prog p135.ix 48 rc134 rs134 := ⟨Try.f134, bodyC Try.f134, Try.func134, by kernel_rfl, by kernel_rfl, by kernel_rfl, by kernel_rfl, by kernel_rfl⟩
end Go.Ev

namespace Go.Ev
open Go.Proofs
set_option maxRecDepth 100000
def ln3 (l : Ln) : List D := [.i .i64 l.k, .i .i64 l.c, .i .i64 l.t]
def lnWf (l : Ln) : Prop := wfB .i64 l.k = true ∧ wfB .i64 l.c = true ∧ wfB .i64 l.t = true
theorem j_readings (n coin box : Int) (ls : List Ln) (cs : List Ct) (l : Ln) : PureF Try.prog p107.ix [.ag [.i .i64 n, .i .i64 coin, .i .i64 box, .lst 3 (rows lnD ls), .lst 3 (rows ctD cs), .any], .ag [.i .i64 l.k, .i .i64 l.c, .i .i64 l.t]] (.fn p135 [] [.pl (wk6 n coin box ls cs) 0, .pl (ln3 l) 0]) := by
  refine PureF.run fn106 (by simp) (by simp [PuL, PuE, Pu, pu_ints, pu_ln, pu_ct]) ?_; conv => whnf
  repeat' first | ((first | with_reducible apply WB.tt | with_reducible apply WB.ff | refine Rn.seq ?_ | refine Rn.reg ?_ | refine Rn.drw ?_ | refine Rn.blk ?_ | refine Rn.skip ?_ | refine Rn.ret ?_ | refine Rn.exit ?_ | refine Rn.cond rfl ?_ | refine And.intro (InR.i64 (by omega) (by omega)) ?_ | refine And.intro (show _ ≠ (0 : Int) by omega) ?_ | refine WIx.intsN (by omega) ?_ | refine WIx.rowsN (by omega) ?_) <;> conv => whnf)
  refine Fin.t (.inr rfl) rfl (.fn .nil (.cons (Frz.ptr rfl rfl (by simp [wk6]) (by simp [wk6, PuL, Pu, pu_ln, pu_ct])) (.cons (Frz.ptr rfl rfl (by simp [ln3]) (by simp [ln3, PuL, Pu])) .nil)))
end Go.Ev

namespace Go.Ev
open Go.Proofs
set_option maxRecDepth 100000
def rdB (n : Int) (l r : Ln) : Bool := decide (kLo l ≤ r.k ∧ r.k ≤ kHi l ∧ cLo l ≤ r.c ∧ r.c ≤ cHi n l ∧ tLo l ≤ r.t ∧ r.t ≤ tHi n l)
end Go.Ev
