/-
  TokenEnd (second form): one more line at the end.
-/
import Derived.Test.YtjgbfnciedkafaaEvUHv
import Derived.Test.YtjgbfnciedkafaaEvUHa
import Derived.Test.YtjgbfnciedkafaaEvUOc
import Derived.Test.YtjgbfnciedkafaaRows
import Derived.WalkKit
import Derived.ProofKit
import Derived.OpenShut
import Derived.JoinedCond
import Derived.Test.YtjgbfnciedkafaaFaTokenEndUpto
import Derived.Test.YtjgbfnciedkafaaEvUS3T
import Derived.ShutString
set_option linter.all false
namespace Go.Ev
open Go.Proofs
set_option maxRecDepth 1000000
noncomputable def rc18 : RC := (.seq (.reg [(.u (.box p5 (.t p1))), (.u (.box p6 (.t p2))), (.u (.mv p9 (.k (.b false))))]) (.seq (.reg [(.u (.ldn p15 (.t p5) 5)), (.u (.new p10 [(.i .i64 0), (.i .i64 0), (.i .i64 0), .ns, .ns])), (.u (.st (.t p10) (.t p15) 5))]) (.seq (.drw [(.u (.bsl p16 3 0 [] [])), (.u (.fad p17 (.t p5) 3)), (.u (.ld1 p18 (.t p17))), (.u (.app p19 3 (.t p16) (.t p18))), (.u (.ldn p20 (.t p6) 3)), (.u (.bsl p21 3 1 [(.i .i64 0), (.i .i64 0), (.i .i64 0)] [(0, (3, (.t p20)))])), (.u (.app p22 3 (.t p19) (.t p21))), (.u (.fad p23 (.t p10) 3)), (.u (.st (.t p23) (.t p22) 1))] [0, 0, 2, 7, 0, 16, 63, 127, 255]) (.seq (.seq (.reg [(.u (.ldn p24 (.t p5) 5)), (.u (.cf (some p25) p55 [(.t p24)])), (.u (.un p26 .not (.t p25))), (.u (.mv p27 (.t p26))), (.g p27 false (some p28) (.ldn p28 (.t p10) 5)), (.g p27 false (some p29) (.cf (some p29) p55 [(.t p28)])), (.g p27 false (some p30) (.un p30 .not (.t p29))), (.u (.pick p31 (.t p27) (.k (.b true)) (.t p30)))]) (.cond (.t p31) (.seq (.reg [(.u (.cf (some p32) p22 [])), (.u (.mv p9 (.t p32)))]) .ret) .skip)) (.seq (.reg [(.u (.ldn p34 (.t p10) 5)), (.u (.cf (some p35) p24 [(.t p34)])), (.u (.cf (some p36) p40 [(.t p35)])), (.u (.mv p33 (.t p36))), (.u (.ext p37 (.t p33) 0)), (.u (.ext p38 (.t p33) 1)), (.u (.new p11 [(.i .i64 0), (.i .i64 0)])), (.u (.st (.t p11) (.t p37) 2)), (.u (.mv p12 (.t p38)))]) (.seq (.seq (.reg [(.u (.mv p39 (.t p12))), (.u (.bin p40 .neq (.t p39) (.k (.i .i64 0))))]) (.cond (.t p40) (.seq (.reg [(.u (.mv p41 (.t p12))), (.u (.bin p42 .eql (.t p41) (.k (.i .i64 11)))), (.u (.mv p43 (.t p42))), (.g p43 true (some p44) (.cf (some p44) p22 [])), (.u (.pick p45 (.t p43) (.t p44) (.k (.b false)))), (.u (.mv p9 (.t p45)))]) .ret) .skip)) (.seq (.reg [(.u (.mv p13 (.k (.i .i64 (-1)))))]) (.seq (.seq (.reg [(.u (.fad p46 (.t p5) 3)), (.u (.ld1 p47 (.t p46))), (.u (.len p48 (.t p47))), (.u (.mv p14 (.t p48)))]) (.seq (.reg [(.u (.mv p49 (.t p14))), (.u (.bin p50 .gtr (.t p49) (.k (.i .i64 0))))]) (.cond (.t p50) (.reg [(.u (.mv p51 (.t p4))), (.u (.cvi p52 .i64 (.t p51))), (.u (.mv p53 (.t p14))), (.u (.bin p54 .rem (.t p52) (.t p53))), (.u (.mv p13 (.t p54)))]) .skip))) (.seq (.drw [(.u (.ldn p55 (.t p10) 5)), (.u (.ldn p56 (.t p5) 5)), (.u (.mv p57 (.t p3))), (.u (.cvi p58 .i64 (.t p57))), (.u (.fad p59 (.t p5) 3)), (.u (.ld1 p60 (.t p59))), (.u (.len p61 (.t p60))), (.u (.bin p62 .add (.t p61) (.k (.i .i64 1)))), (.u (.bin p63 .rem (.t p58) (.t p62))), (.u (.mv p64 (.t p13))), (.u (.cf (some p65) p64 [(.t p55), (.t p56), (.t p63), (.t p64)])), (.u (.mv p66 (.t p65))), (.g p66 true (some p67) (.cf (some p67) p22 [])), (.u (.pick p68 (.t p66) (.t p67) (.k (.b false)))), (.u (.mv p9 (.t p68)))] [0, 0, 0, 4, 0, 16, 48, 112, 252, 0, 1023, 2047, 4095, 8191, 16383]) .ret)))))))))
def rs18 : List RR := [(.t p9)]
theorem fn18 : FnOk Try.prog p19.ix 68 rc18 rs18 := ⟨Try.f18, bodyC Try.f18, Try.func18, by kernel_rfl, by kernel_rfl, by kernel_rfl, by kernel_rfl, by kernel_rfl⟩
end Go.Ev
namespace Go.Ev
open Go.Proofs
set_option maxRecDepth 100000
theorem fine_end {n coin box : Int} {ls : List Ln} {cs : List Ct} {x : Ln} (fx : faultT n coin box (ls ++ [x]) cs = 0) (fb : faultT n coin box ls cs = 0) (hx : hasB (B5 n coin box (ls ++ [x]) cs) = true) : Finer (B5 n coin box (ls ++ [x]) cs) (B5 n coin box ls cs) := by
  have Vx := VB.of fx
  have V := VB.of fb
  refine ⟨rfl, rfl, rfl, Vx, V, ex_ne (sE_true fx hx), fun X hX => ⟨X.take ls.length, ?_, fun j hj => SameTo.take X ls.length j hj⟩⟩
  have h1 := (refT_ext Vx).2 hX
  have hXl : X.length = ls.length + 1 := by
    have := refT_len Vx h1
    rw [this]; show (ls ++ [x]).length = _; simp
  rw [mem_refT Vx] at h1
  refine (refT_ext V).1 ((mem_refT V).2 ?_)
  have h1 : (readB n (ls ++ [x]) X && (possB X && cntB box coin cs X)) = true := h1
  show (readB n ls (X.take ls.length) && (possB (X.take ls.length) && cntB box coin cs (X.take ls.length))) = true
  rw [Bool.and_eq_true, Bool.and_eq_true] at h1 ⊢
  obtain ⟨r1, r2, r3⟩ := h1
  have hlt : (X.take ls.length).length = ls.length := by rw [List.length_take]; omega
  have hat : ∀ i, i < ls.length → (X.take ls.length).getD i default = X.getD i default := fun i hi => SameTo.take X ls.length i hi
  refine ⟨?_, ?_, ?_⟩
  · rw [readB_iff] at r1 ⊢
    refine ⟨hlt, fun i hi => ?_⟩
    have hi2 : i < ls.length := by omega
    have := r1.2 i (by omega)
    rw [SameTo.app ls x i hi2] at this
    rw [hat i hi2]; exact this
  · unfold possB at r2 ⊢
    rw [List.all_eq_true] at r2 ⊢
    intro i hi
    have hi2 : i < ls.length := by rw [← hlt]; exact List.mem_range.1 hi
    have hs : SameTo (i + 1) X (X.take ls.length) := (SameTo.take X ls.length).le (by omega)
    rw [pos1_same hs]
    exact r2 i (List.mem_range.2 (by omega))
  · unfold cntB at r3 ⊢
    rw [List.all_eq_true] at r3 ⊢
    intro c hc
    have h4 : 0 ≤ c.a ∧ c.a ≤ (ls.length : Int) := V.cs c hc
    have hs : SameTo c.a.toNat X (X.take ls.length) := (SameTo.take X ls.length).le (by omega)
    rw [monR_same _ hs]
    exact r3 c hc
noncomputable def enK (n coin box : Int) (ls : List Ln) (cs : List Ct) (x : Ln) (after line : Int) : X := ⟨(.n (.n (.n .e (some (.i .u8 line)) .e) none (.n (.n .e (some (.pt (.i .h) 0 0)) .e) none .e)) none (.n (.n .e (some (.pt .h 0 0)) .e) (some (.i .u8 after)) .e)), (.n .e (some (bkC n coin box ls cs)) (.n .e (some (bkC n coin box (ls ++ [x]) cs)) .e)), .o (.o .h), none⟩
noncomputable def rc18R : RC := seqR (seqR (seqR rc18))
set_option maxHeartbeats 4000000 in
theorem j_TokenEndR (n coin box : Int) (ls : List Ln) (cs : List Ct) (x : Ln) (after line : Int) (w1 : 0 ≤ after ∧ after ≤ 255) (w2 : 0 ≤ line ∧ line ≤ 255) (AW : PureF Try.prog p22.ix [] (.b true)) : Rn Try.prog 68 rc18R (enK n coin box ls cs x after line) (Fin rs18 (.b true)) := by
  have e1 := rows_length lnD ls
  have iR := j_ready n coin box ls cs
  have iRx := j_ready n coin box (ls ++ [x]) cs
  unfold bk5 at iR iRx
  conv => whnf
  cases hR : readyB n coin box ls cs with
  | false =>
    rw [hR] at iR
    repeat' first | ((first | with_reducible apply WB.tt | with_reducible apply WB.ff | refine Rn.seq ?_ | refine Rn.reg ?_ | refine Rn.drw ?_ | refine Rn.blk ?_ | refine Rn.skip ?_ | refine Rn.ret ?_ | refine Rn.exit ?_ | refine Rn.cond rfl ?_ | refine And.intro (InR.i64 (by omega) (by omega)) ?_ | refine And.intro (show _ ≠ (0 : Int) by omega) ?_ | refine WIx.intsN (by omega) ?_ | refine WIx.rowsN (by omega) ?_ | refine WCall.pure (iR) ?_ | refine WCall.pure (AW) ?_ | with_reducible refine WB.decT (by first | with_reducible rfl | assumption | omega | exact ⟨rfl, rfl⟩) ?_ | with_reducible refine WB.decF (by first | assumption | omega) ?_ | with_reducible refine WB.ndT (by first | with_reducible rfl | assumption | omega | exact ⟨rfl, rfl⟩) ?_ | with_reducible refine WB.ndF (by first | assumption | omega) ?_ | with_reducible refine WB.nt ?_ | with_reducible refine WB.nf ?_ | with_reducible refine WB.dec (fun h => ?_) (fun h => ?_) | with_reducible refine WB.ndec (fun h => ?_) (fun h => ?_) | refine WB.mk (fun h => ?_) (fun h => ?_)) <;> conv => whnf)
    exact Fin.b rfl rfl
  | true =>
  rw [hR] at iR
  cases hRx : readyB n coin box (ls ++ [x]) cs with
  | false =>
    rw [hRx] at iRx
    repeat' first | ((first | with_reducible apply WB.tt | with_reducible apply WB.ff | refine Rn.seq ?_ | refine Rn.reg ?_ | refine Rn.drw ?_ | refine Rn.blk ?_ | refine Rn.skip ?_ | refine Rn.ret ?_ | refine Rn.exit ?_ | refine Rn.cond rfl ?_ | refine And.intro (InR.i64 (by omega) (by omega)) ?_ | refine And.intro (show _ ≠ (0 : Int) by omega) ?_ | refine WIx.intsN (by omega) ?_ | refine WIx.rowsN (by omega) ?_ | refine WCall.pure (iR) ?_ | refine WCall.pure (iRx) ?_ | refine WCall.pure (AW) ?_ | with_reducible refine WB.decT (by first | with_reducible rfl | assumption | omega | exact ⟨rfl, rfl⟩) ?_ | with_reducible refine WB.decF (by first | assumption | omega) ?_ | with_reducible refine WB.ndT (by first | with_reducible rfl | assumption | omega | exact ⟨rfl, rfl⟩) ?_ | with_reducible refine WB.ndF (by first | assumption | omega) ?_ | with_reducible refine WB.nt ?_ | with_reducible refine WB.nf ?_ | with_reducible refine WB.dec (fun h => ?_) (fun h => ?_) | with_reducible refine WB.ndec (fun h => ?_) (fun h => ?_) | refine WB.mk (fun h => ?_) (fun h => ?_)) <;> conv => whnf)
    exact Fin.b rfl rfl
  | true =>
  rw [hRx] at iRx
  obtain ⟨l8, l4, h0⟩ := ready_of hR
  obtain ⟨l8x, _, h0x⟩ := ready_of hRx
  have hxl : (ls ++ [x]).length = ls.length + 1 := by simp
  have iBx := j_Book n coin box (ls ++ [x]) cs (by omega) (by omega)
  have iX := j_MixedP n coin box (ls ++ [x]) cs
  unfold mixT lohi at iX
  cases hx : hasB (B5 n coin box (ls ++ [x]) cs) with
  | false =>
    rw [sE_false h0x hx, if_neg (by decide)] at iX
    repeat' first | ((first | with_reducible apply WB.tt | with_reducible apply WB.ff | refine Rn.seq ?_ | refine Rn.reg ?_ | refine Rn.drw ?_ | refine Rn.blk ?_ | refine Rn.skip ?_ | refine Rn.ret ?_ | refine Rn.exit ?_ | refine Rn.cond rfl ?_ | refine And.intro (InR.i64 (by omega) (by omega)) ?_ | refine And.intro (show _ ≠ (0 : Int) by omega) ?_ | refine WIx.intsN (by omega) ?_ | refine WIx.rowsN (by omega) ?_ | refine WCall.pure (iR) ?_ | refine WCall.pure (iRx) ?_ | refine WCall.pure (iBx) ?_ | refine WCall.pure (iX) ?_ | refine WCall.pure (AW) ?_ | with_reducible refine WB.decT (by first | with_reducible rfl | assumption | omega | exact ⟨rfl, rfl⟩) ?_ | with_reducible refine WB.decF (by first | assumption | omega) ?_ | with_reducible refine WB.ndT (by first | with_reducible rfl | assumption | omega | exact ⟨rfl, rfl⟩) ?_ | with_reducible refine WB.ndF (by first | assumption | omega) ?_ | with_reducible refine WB.nt ?_ | with_reducible refine WB.nf ?_ | with_reducible refine WB.dec (fun h => ?_) (fun h => ?_) | with_reducible refine WB.ndec (fun h => ?_) (fun h => ?_) | refine WB.mk (fun h => ?_) (fun h => ?_)) <;> conv => whnf)
    exact Fin.b rfl rfl
  | true =>
  rw [sE_true h0x hx, if_pos rfl] at iX
  have F := fine_end h0x h0 hx
  have m1 := Int.tmod_nonneg (((rows lnD ls).length : Int) + 1) w1.1
  have m2 := Int.tmod_lt_of_pos after (show (0 : Int) < ((rows lnD ls).length : Int) + 1 by omega)
  obtain ⟨k, hk2⟩ := Int.eq_ofNat_of_zero_le m1
  have hk : k ≤ ls.length := by omega
  by_cases hl0 : 0 < ls.length
  · have b1 := Int.tmod_nonneg ((rows lnD ls).length : Int) w2.1
    have b2 := Int.tmod_lt_of_pos line (show (0 : Int) < ((rows lnD ls).length : Int) by omega)
    have iC := j_closer F h0x h0 hx F.has hk (by omega) (line.tmod ((rows lnD ls).length : Int)) (.inr ⟨b1, by omega, by omega⟩)
    repeat' first | ((first | with_reducible apply WB.tt | with_reducible apply WB.ff | refine Rn.seq ?_ | refine Rn.reg ?_ | refine Rn.drw ?_ | refine Rn.blk ?_ | refine Rn.skip ?_ | refine Rn.ret ?_ | refine Rn.exit ?_ | refine Rn.cond rfl ?_ | refine And.intro (InR.i64 (by omega) (by omega)) ?_ | refine And.intro (show _ ≠ (0 : Int) by omega) ?_ | refine WIx.intsN (by omega) ?_ | refine WIx.rowsN (by omega) ?_ | refine WCall.pure (iR) ?_ | refine WCall.pure (iRx) ?_ | refine WCall.pure (iBx) ?_ | refine WCall.pure (iX) ?_ | with_reducible refine WB.decT (by first | with_reducible rfl | assumption | omega | exact ⟨rfl, rfl⟩) ?_ | with_reducible refine WB.decF (by first | assumption | omega) ?_ | with_reducible refine WB.ndT (by first | with_reducible rfl | assumption | omega | exact ⟨rfl, rfl⟩) ?_ | with_reducible refine WB.ndF (by first | assumption | omega) ?_ | with_reducible refine WB.nt ?_ | with_reducible refine WB.nf ?_ | with_reducible refine WB.dec (fun h => ?_) (fun h => ?_) | with_reducible refine WB.ndec (fun h => ?_) (fun h => ?_) | refine WB.mk (fun h => ?_) (fun h => ?_)) <;> conv => whnf)
    rw [hk2]
    repeat' first | ((first | with_reducible apply WB.tt | with_reducible apply WB.ff | refine Rn.seq ?_ | refine Rn.reg ?_ | refine Rn.drw ?_ | refine Rn.blk ?_ | refine Rn.skip ?_ | refine Rn.ret ?_ | refine Rn.exit ?_ | refine Rn.cond rfl ?_ | refine And.intro (InR.i64 (by omega) (by omega)) ?_ | refine And.intro (show _ ≠ (0 : Int) by omega) ?_ | refine WIx.intsN (by omega) ?_ | refine WIx.rowsN (by omega) ?_ | refine WCall.pure (iC) ?_ | refine WCall.pure (AW) ?_ | with_reducible refine WB.decT (by first | with_reducible rfl | assumption | omega | exact ⟨rfl, rfl⟩) ?_ | with_reducible refine WB.decF (by first | assumption | omega) ?_ | with_reducible refine WB.ndT (by first | with_reducible rfl | assumption | omega | exact ⟨rfl, rfl⟩) ?_ | with_reducible refine WB.ndF (by first | assumption | omega) ?_ | with_reducible refine WB.nt ?_ | with_reducible refine WB.nf ?_ | with_reducible refine WB.dec (fun h => ?_) (fun h => ?_) | with_reducible refine WB.ndec (fun h => ?_) (fun h => ?_) | refine WB.mk (fun h => ?_) (fun h => ?_)) <;> conv => whnf)
    exact Fin.b rfl rfl
  · have iC := j_closer F h0x h0 hx F.has hk (by omega) (-1) (.inl rfl)
    repeat' first | ((first | with_reducible apply WB.tt | with_reducible apply WB.ff | refine Rn.seq ?_ | refine Rn.reg ?_ | refine Rn.drw ?_ | refine Rn.blk ?_ | refine Rn.skip ?_ | refine Rn.ret ?_ | refine Rn.exit ?_ | refine Rn.cond rfl ?_ | refine And.intro (InR.i64 (by omega) (by omega)) ?_ | refine And.intro (show _ ≠ (0 : Int) by omega) ?_ | refine WIx.intsN (by omega) ?_ | refine WIx.rowsN (by omega) ?_ | refine WCall.pure (iR) ?_ | refine WCall.pure (iRx) ?_ | refine WCall.pure (iBx) ?_ | refine WCall.pure (iX) ?_ | with_reducible refine WB.decT (by first | with_reducible rfl | assumption | omega | exact ⟨rfl, rfl⟩) ?_ | with_reducible refine WB.decF (by first | assumption | omega) ?_ | with_reducible refine WB.ndT (by first | with_reducible rfl | assumption | omega | exact ⟨rfl, rfl⟩) ?_ | with_reducible refine WB.ndF (by first | assumption | omega) ?_ | with_reducible refine WB.nt ?_ | with_reducible refine WB.nf ?_ | with_reducible refine WB.dec (fun h => ?_) (fun h => ?_) | with_reducible refine WB.ndec (fun h => ?_) (fun h => ?_) | refine WB.mk (fun h => ?_) (fun h => ?_)) <;> conv => whnf)
    rw [hk2]
    repeat' first | ((first | with_reducible apply WB.tt | with_reducible apply WB.ff | refine Rn.seq ?_ | refine Rn.reg ?_ | refine Rn.drw ?_ | refine Rn.blk ?_ | refine Rn.skip ?_ | refine Rn.ret ?_ | refine Rn.exit ?_ | refine Rn.cond rfl ?_ | refine And.intro (InR.i64 (by omega) (by omega)) ?_ | refine And.intro (show _ ≠ (0 : Int) by omega) ?_ | refine WIx.intsN (by omega) ?_ | refine WIx.rowsN (by omega) ?_ | refine WCall.pure (iC) ?_ | refine WCall.pure (AW) ?_ | with_reducible refine WB.decT (by first | with_reducible rfl | assumption | omega | exact ⟨rfl, rfl⟩) ?_ | with_reducible refine WB.decF (by first | assumption | omega) ?_ | with_reducible refine WB.ndT (by first | with_reducible rfl | assumption | omega | exact ⟨rfl, rfl⟩) ?_ | with_reducible refine WB.ndF (by first | assumption | omega) ?_ | with_reducible refine WB.nt ?_ | with_reducible refine WB.nf ?_ | with_reducible refine WB.dec (fun h => ?_) (fun h => ?_) | with_reducible refine WB.ndec (fun h => ?_) (fun h => ?_) | refine WB.mk (fun h => ?_) (fun h => ?_)) <;> conv => whnf)
    exact Fin.b rfl rfl
end Go.Ev
namespace Go.Ev
open Go.Proofs
set_option maxRecDepth 100000
theorem bkC_shL {n coin box : Int} {ls : List Ln} {cs : List Ct} {d : D} {B : Pos → Prop} {ob : T C} (hd : Fz B ob d (.lst 3 (rows lnD ls))) : ShC B ob (.cells false [.o (.i .i64 n) 0, .o (.i .i64 coin) 0, .o (.i .i64 box) 0, .o d 0, .o (.lst 3 (rows ctD cs)) 0] 1) (bkC n coin box ls cs) := by
  refine .cells fun k c' hc => ?_
  match k, hc with
  | 0, hc => cases hc; exact ⟨_, rfl, fun _ h => h, .pu trivial⟩
  | 1, hc => cases hc; exact ⟨_, rfl, fun _ h => h, .pu trivial⟩
  | 2, hc => cases hc; exact ⟨_, rfl, fun _ h => h, .pu trivial⟩
  | 3, hc => cases hc; exact ⟨_, rfl, fun _ h => h, hd⟩
  | 4, hc => cases hc; exact ⟨_, rfl, fun _ h => h, .pu (pu_ct _)⟩
  | k + 5, hc => cases hc
theorem lnF_three (ls : List Ln) : (rows lnD ls).flatten.length = ls.length * 3 := lnF_len ls
set_option maxHeartbeats 4000000 in
theorem j_TokenEnd (n coin box : Int) (ls : List Ln) (cs : List Ct) (x : Ln) (after line : Int) (hml : ls.length ≤ 1048576) (w1 : 0 ≤ after ∧ after ≤ 255) (w2 : 0 ≤ line ∧ line ≤ 255) (AW : PureF Try.prog p22.ix [] (.b true)) : PureF Try.prog p19.ix [.ag [.i .i64 n, .i .i64 coin, .i .i64 box, .lst 3 (rows lnD ls), .lst 3 (rows ctD cs)], .ag (lnD x), .i .u8 after, .i .u8 line] (.b true) := by
  have e3 := rows_length ctD cs
  have e2 := rows_length lnD ls
  refine PureF.run fn18 (by simp) (by simp [PuL, PuE, Pu, pu_ln, pu_ct, lnD]) ?_; conv => whnf
  refine Rn.seq ?_; conv => whnf
  refine Rn.reg ?_; conv => whnf
  refine Rn.seqB ?_; conv => whnf
  repeat' first | ((first | with_reducible apply WB.tt | with_reducible apply WB.ff | refine Rn.seq ?_ | refine Rn.reg ?_ | refine Rn.drw ?_ | refine Rn.blk ?_ | refine Rn.skip ?_ | refine Rn.ret ?_ | refine Rn.exit ?_ | refine Rn.cond rfl ?_ | refine And.intro (InR.i64 (by omega) (by omega)) ?_ | refine And.intro (show _ ≠ (0 : Int) by omega) ?_ | refine WIx.intsN (by omega) ?_ | refine WIx.rowsN (by omega) ?_) <;> conv => whnf)
  refine WSt.app_empE (es := rows lnD ls) rfl rfl rfl (ln_three ls) (by omega) (fun st w => ?_); conv => whnf
  cases w
  all_goals
    repeat' first | ((first | with_reducible apply WB.tt | with_reducible apply WB.ff | refine Rn.seq ?_ | refine Rn.reg ?_ | refine Rn.drw ?_ | refine Rn.blk ?_ | refine Rn.skip ?_ | refine Rn.ret ?_ | refine Rn.exit ?_ | refine Rn.cond rfl ?_ | refine And.intro (InR.i64 (by omega) (by omega)) ?_ | refine And.intro (show _ ≠ (0 : Int) by omega) ?_ | refine WIx.intsN (by omega) ?_ | refine WIx.rowsN (by omega) ?_) <;> conv => whnf)
    refine WSt.app_oneL (id := .o (.o .h)) (idy := .i (.o .h)) (st := st) (cur := st + 1) (ds := (rows lnD ls).flatten) (r := lnD x) (len := (rows lnD ls).length) (by rfl) (by rfl) (by rfl) (by rfl) (by rfl) (by rfl) (by rw [e2]; exact lnF_three ls) (by rfl) (by rfl) (by omega) (by rfl) ?_; conv => whnf
    repeat' first | ((first | with_reducible apply WB.tt | with_reducible apply WB.ff | refine Rn.seq ?_ | refine Rn.reg ?_ | refine Rn.drw ?_ | refine Rn.blk ?_ | refine Rn.skip ?_ | refine Rn.ret ?_ | refine Rn.exit ?_ | refine Rn.cond rfl ?_ | refine And.intro (InR.i64 (by omega) (by omega)) ?_ | refine And.intro (show _ ≠ (0 : Int) by omega) ?_ | refine WIx.intsN (by omega) ?_ | refine WIx.rowsN (by omega) ?_) <;> conv => whnf)
    refine ⟨rfl, enK n coin box ls cs x after line, (fun id => id.nat < 4), ?_, (fun id (h : id.nat < 3) => show id.nat < 4 by omega), (fun id h => h), (show 3 ≤ 4 by omega), ?_⟩
    · refine ShrB.of ?_ ?_ rfl rfl
      · show Rel _ _ ((.n (.n (.n .e (some (.i .u8 line)) .e) none (.n (.n .e (some (.pt (.i .h) 0 0)) .e) none .e)) none (.n (.n .e (some (.pt .h 0 0)) .e) (some (.i .u8 after)) .e)) : T D) _
        (repeat' first | exact Rel.e | refine Rel.some ?_ ?_ ?_ | refine Rel.none ?_ ?_ | refine Rel.ee ?_ ?_)
        all_goals show Fz _ _ _ _
        all_goals first | exact .pu trivial | exact .kpt (show _ < 4 by simp [Pos.nat])
      · show Rel _ _ ((.n .e (some (bkC n coin box ls cs)) (.n .e (some (bkC n coin box (ls ++ [x]) cs)) .e)) : T C) _
        (repeat' first | exact Rel.e | refine Rel.some ?_ ?_ ?_ | refine Rel.none ?_ ?_ | refine Rel.ee ?_ ?_)
        · exact ⟨show _ < 4 by simp [Pos.nat], ShC.kp (bkC_kp _ _ _ _ _ _)⟩
        · refine ⟨show _ < 4 by simp [Pos.nat], bkC_shL ?_⟩
          exact Fz.grown (ds := (rows lnD ls).flatten) (r := lnD x) (s1 := st) (s2 := st + 1) (show ¬ 4 < 4 by omega) rfl rfl (Nat.le_succ _) (by simp [rows]) (by first | (rw [rows_length, e2]; simp) | (rw [rows_length]; simp [rows_length])) (ln_three _) (pu_ln _)
    exact j_TokenEndR n coin box ls cs x after line w1 w2 AW
theorem FitP.ln {ps : List (Bool × List CK)} {ds : List D} (h : FitP ((true, [.i .i64, .i .i64, .i .i64]) :: ps) ds) : ∃ (x : Ln) (ds' : List D), ds = .ag (lnD x) :: ds' ∧ FitP ps ds' := by
  unfold FitP at h
  obtain ⟨es, ds', rfl, h1, h2⟩ := h
  simp only [FitL, FitC] at h1
  obtain ⟨d, ds, rfl, ⟨n1, rfl, _⟩, d2, ds2, rfl, ⟨n2, rfl, _⟩, d3, ds3, rfl, ⟨n3, rfl, _⟩, rfl⟩ := h1
  exact ⟨⟨n1, n2, n3⟩, ds', rfl, h2⟩
theorem main_tokenEnd (AW : PureF Try.prog p22.ix [] (.b true)) {es : List D} (fit : FitP [(true, [.i .i64, .i .i64, .i .i64, .sl [.i .i64, .i .i64, .i .i64], .sl [.i .i64, .i .i64, .i .i64]]), (true, [.i .i64, .i .i64, .i .i64]), (false, [.i .u8]), (false, [.i .u8])] es) (hB : ∀ e ∈ es, LstLe 1048576 e) : PureF Try.prog 18 es (.b true) := by
  obtain ⟨n, coin, box, ls, cs, _, rfl, g1⟩ := fit.book
  obtain ⟨c, _, rfl, g2⟩ := g1.ln
  obtain ⟨k, _, rfl, w1, g3⟩ := g2.i
  obtain ⟨l, _, rfl, w2, g4⟩ := g3.i
  obtain rfl := g4.no
  exact j_TokenEnd n coin box ls cs c k l (by
    have := hB _ (List.mem_cons_self ..)
    have := this (.lst 3 (rows lnD ls)) (by simp) 3 (rows lnD ls) rfl
    rw [rows_length] at this
    exact this) (wf_u8 w1) (wf_u8 w2) AW
end Go.Ev
namespace Go.Proofs.Ytjgbfnciedkafaa.tokenEnd
open Go.ChangeShapes Go.WideShapes Go.ChangeAt Go.RowKit
open Go.ChangeMaps (open_string shut_string)
set_option linter.unusedVariables false
theorem laid : laidOutB Try.prog = true := faP.laid
theorem own : ownKnob Try.prog.godebug = none := by kernel_rfl
theorem bulk_one {H : Type} (d : DataW H) : 1 ≤ Rows.uptoBulk d := by
  cases d with
  | lit l => cases l <;> simp [Rows.uptoBulk]
  | _ => simp [Rows.uptoBulk]
theorem bulk_len {H : Type} : ∀ (l : List (DataW H)), l.length ≤ Rows.uptoBulkAll l
  | [] => Nat.zero_le _
  | x :: r => by
    have h1 := bulk_one x
    have h2 := bulk_len r
    simp only [Rows.uptoBulkAll, List.length_cons]
    omega
theorem bulk_mem {H : Type} {d : DataW H} : ∀ {l : List (DataW H)}, d ∈ l → Rows.uptoBulk d ≤ Rows.uptoBulkAll l
  | [], h => by cases h
  | x :: r, h => by
    simp only [Rows.uptoBulkAll]
    rcases List.mem_cons.1 h with rfl | h
    · omega
    · have := bulk_mem h; omega
theorem bulk_slice {H : Type} (elems spare : List (DataW H)) : elems.length ≤ Rows.uptoBulk (.slice elems spare) := by
  have := bulk_len elems
  simp only [Rows.uptoBulk]
  omega
theorem bulk_agg {H : Type} (parts : List (DataW H)) (d : DataW H) (h : d ∈ parts) : Rows.uptoBulk d ≤ Rows.uptoBulk (.agg parts) := by
  have := bulk_mem h
  simp only [Rows.uptoBulk]
  omega
theorem walk {es : List Go.Ev.D} (fit : Go.Ev.FitP [(true, [.i .i64, .i .i64, .i .i64, .sl [.i .i64, .i .i64, .i .i64], .sl [.i .i64, .i .i64, .i .i64]]), (true, [.i .i64, .i .i64, .i .i64]), (false, [.i .u8]), (false, [.i .u8])] es) (hB : ∀ e ∈ es, Go.Ev.LstLe 1048576 e) {args : Array Value} {W : World} (ha : Go.Ev.DVL (Go.Ev.γH W) W es args.toList) :
    Calls Try.prog 18 args W fun e w' => e = .returned (.bool true) ∧ Grown W w' ∧ Below W.heap.size W w' :=
  Go.Ev.PureF.calls (Go.Ev.main_tokenEnd (fun ob nx lg => Go.Ev.t21.any ob nx lg) fit hB) ha
set_option maxRecDepth 100000 in
theorem lifted (os : Os) (started : os.Started) (H : Type) (enc : TypeId × Value → H) (F : Stop.Interp) :
    ReturnsInHanded {} Try.checked os 18 .any ((Rows.OpenSpec.upto Rows.tokenEndSpec).pre6 enc Try.prog Try.f18 Rows.tokenEndUptoRow.domain false) (((Rows.OpenSpec.upto Rows.tokenEndSpec).at F).post enc Try.prog Try.f18 false true false false) := by
  refine returnsInHanded_of_cond (C := Try.checked) (s := Rows.OpenSpec.upto Rows.tokenEndSpec) (k := Rows.uptoSmall) rfl own started (by kernel_rfl) Try.func18
    (OpenSpec.witness (enc := enc) (C := Try.checked) (s := Rows.OpenSpec.upto Rows.tokenEndSpec) (k := Rows.uptoSmall) rfl false ⟨#[], #[.agg #[.int .i64 0, .int .i64 0, .int .i64 0, .slice none 0 0, .slice none 0 0], .agg #[.int .i64 0, .int .i64 0, .int .i64 0], .int .u8 0, .int .u8 0], []⟩ 8 (by kernel_rfl) (by kernel_rfl) (by kernel_rfl)
      (x := ([.agg [.lit (.int .i64 0), .lit (.int .i64 0), .lit (.int .i64 0), .nil, .nil], .agg [.lit (.int .i64 0), .lit (.int .i64 0), .lit (.int .i64 0)], .lit (.int .u8 0), .lit (.int .u8 0)], [], [])) (by kernel_rfl) rfl (by kernel_rfl)) ?_
  intro W base args ds gs before hval0 hW _ hk _
  have hval : ∀ (j : Nat) t v, Try.f18.params[j]? = some t → args[j]? = some v → Value.okWide Try.prog W .any base t v := hval0
  have hW' := hW
  obtain ⟨p, q, hA0, hV, rfl, hfz, hnd⟩ := hW
  have hA : DataW.TrodAll enc Try.prog W 0 (fun _ => true) true Try.f18.params.toList args.toList ds p := hA0
  rw [Try.params18] at hA hval
  obtain ⟨rfl, rfl⟩ := trodVars_none hV
  have hk1 : Rows.uptoBulkAll (ds ++ []) ≤ 1048576 := of_decide_eq_true hk
  rw [List.append_nil] at hk1
  obtain ⟨es, fit, dv, hB⟩ := Go.Ev.open_allB (B := Rows.uptoBulk) (n := 6) (N := 1048576) (pars := [(true, [.i .i64, .i .i64, .i .i64, .sl [.i .i64, .i .i64, .i .i64], .sl [.i .i64, .i .i64, .i .i64]]), (true, [.i .i64, .i .i64, .i .i64]), (false, [.i .u8]), (false, [.i .u8])]) bulk_slice bulk_agg (by kernel_rfl) hA (fun j t v h1 h2 => hval j t v (by simpa using h1) (by simpa using h2)) (fun d hd => Nat.le_trans (bulk_mem hd) hk1)
  obtain ⟨d0, d1, d2, d3, rfl⟩ := Go.Ev.len4 (Go.Ev.trod_len hA)
  clear hA0 hval0
  simp only [List.append_nil] at hW'
  have hlt : ∀ x ∈ p, x.block < W.heap.size := fun x hx => by simpa using hW'.lt x hx
  refine (walk fit hB dv).mono fun e W' ⟨he, hg, hb⟩ => ?_
  subst he
  exact ⟨_, rfl, post_of_same (pa := p) (pv := []) hW' (fun _ _ _ => (trodAll_cons_mk (shut_bool Try.underlying4 _) trodAll_mk0))
    (fun sp hs => Go.Ev.stays_all laid (Go.Ev.of_allT (by kernel_rfl)) hA (fun x hx => hb.same (hlt x hx)) (fun x hx => hs x hx))
    (fun _ _ => rfl) (List.append_nil _).symm
    (hg.frame _) hg.2.1 (ok_one (by kernel_rfl) rfl (okWide_bool_mk Try.underlying4 _))⟩
theorem over : Rows.tokenEndUptoRow.holds Try.pinned (Rows.OpenSpec.upto Rows.tokenEndSpec) :=
  OpenClaim.holds_of_cond 18 Try.f18 rfl rfl rfl rfl rfl rfl rfl ⟨rfl, rfl, rfl, rfl, rfl⟩ rfl rfl rfl rfl rfl (by kernel_rfl) Try.func18 faTokenEndUpto.all
    (of_decide_eq_true (by kernel_rfl)) (by unfold Func.isWrapper; first | (rw [if_pos (by decide +kernel)]; kernel_rfl) | (rw [if_neg (by decide +kernel)]; exact ⟨rfl, rfl⟩))
    (fun os started H enc _ F => lifted os started H enc F)
theorem proved : Rows.TokenEndUptoSaid :=
  over
#print axioms proved
end Go.Proofs.Ytjgbfnciedkafaa.tokenEnd