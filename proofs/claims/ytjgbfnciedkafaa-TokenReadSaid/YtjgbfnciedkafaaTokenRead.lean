/-
  the statement TokenRead of the layer token is true for all inputs: if a sign that cannot be read becomes readable, no bounds are wider, as long as there is a truth
-/
import Derived.Test.YtjgbfnciedkafaaEvUHk
import Derived.Test.YtjgbfnciedkafaaRows
import Derived.WalkKit
import Derived.ProofKit
import Derived.OpenShut
import Derived.Test.YtjgbfnciedkafaaEvUPl
import Derived.Test.YtjgbfnciedkafaaEvUS3T
import Derived.ShutString
import Derived.Test.YtjgbfnciedkafaaFaTokenRead
set_option linter.all false
namespace Go.Ev
open Go.Proofs
set_option maxRecDepth 1000000
noncomputable def rc14 : RC := (.seq (.reg [(.u (.box p6 (.t p1))), (.u (.mv p11 (.k (.b false))))]) (.seq (.seq (.reg [(.u (.ldn p17 (.t p6) 5)), (.u (.cf (some p18) p55 [(.t p17)])), (.u (.un p19 .not (.t p18))), (.u (.mv p20 (.t p19))), (.g p20 false (some p21) (.fad p21 (.t p6) 3)), (.g p20 false (some p22) (.ld1 p22 (.t p21))), (.g p20 false (some p23) (.len p23 (.t p22))), (.g p20 false (some p24) (.bin p24 .eql (.t p23) (.k (.i .i64 0)))), (.u (.pick p25 (.t p20) (.k (.b true)) (.t p24)))]) (.cond (.t p25) (.seq (.reg [(.u (.cf (some p26) p22 [])), (.u (.mv p11 (.t p26)))]) .ret) .skip)) (.seq (.reg [(.u (.mv p27 (.t p2))), (.u (.cvi p28 .i64 (.t p27))), (.u (.fad p29 (.t p6) 3)), (.u (.ld1 p30 (.t p29))), (.u (.len p31 (.t p30))), (.u (.bin p32 .rem (.t p28) (.t p31))), (.u (.mv p12 (.t p32)))]) (.seq (.reg [(.u (.ldn p33 (.t p6) 5)), (.u (.new p13 [(.i .i64 0), (.i .i64 0), (.i .i64 0), .ns, .ns])), (.u (.st (.t p13) (.t p33) 5))]) (.seq (.reg [(.u (.bsl p34 3 0 [] [])), (.u (.fad p35 (.t p6) 3)), (.u (.ld1 p36 (.t p35))), (.u (.app p37 3 (.t p34) (.t p36))), (.u (.fad p38 (.t p13) 3)), (.u (.st (.t p38) (.t p37) 1))]) (.seq (.reg [(.u (.fad p39 (.t p13) 3)), (.u (.ld1 p40 (.t p39))), (.u (.mv p41 (.t p12))), (.u (.ixs p42 3 (.t p40) (.t p41))), (.u (.mv p14 (.t p42)))]) (.seq (.seq (.reg [(.u (.mv p43 (.t p3))), (.u (.bin p44 .rem (.t p43) (.k (.i .u8 3)))), (.u (.bin p45 .eql (.t p44) (.k (.i .u8 0)))), (.u (.mv p46 (.t p45))), (.g p46 true (some p47) (.mv p47 (.t p14))), (.g p46 true (some p48) (.nilc p48 (.t p47))), (.g p46 true (some p49) (.fad p49 (.t p48) 0)), (.g p46 true (some p50) (.ld1 p50 (.t p49))), (.g p46 true (some p51) (.bin p51 .eql (.t p50) (.k (.i .i64 0)))), (.u (.pick p52 (.t p46) (.t p51) (.k (.b false))))]) (.cond (.t p52) (.reg [(.u (.mv p53 (.t p14))), (.u (.mv p54 (.t p4))), (.u (.cvi p55 .i64 (.t p54))), (.u (.bin p56 .rem (.t p55) (.k (.i .i64 2)))), (.u (.bin p57 .add (.t p56) (.k (.i .i64 1)))), (.u (.nilc p58 (.t p53))), (.u (.fad p59 (.t p58) 0)), (.u (.st (.t p59) (.t p57) 1))]) .skip)) (.seq (.seq (.reg [(.u (.mv p60 (.t p3))), (.u (.bin p61 .rem (.t p60) (.k (.i .u8 3)))), (.u (.bin p62 .eql (.t p61) (.k (.i .u8 1)))), (.u (.mv p63 (.t p62))), (.g p63 true (some p64) (.mv p64 (.t p14))), (.g p63 true (some p65) (.nilc p65 (.t p64))), (.g p63 true (some p66) (.fad p66 (.t p65) 1)), (.g p63 true (some p67) (.ld1 p67 (.t p66))), (.g p63 true (some p68) (.bin p68 .lss (.t p67) (.k (.i .i64 0)))), (.u (.pick p69 (.t p63) (.t p68) (.k (.b false))))]) (.cond (.t p69) (.reg [(.u (.mv p70 (.t p14))), (.u (.mv p71 (.t p4))), (.u (.cvi p72 .i64 (.t p71))), (.u (.fad p73 (.t p6) 0)), (.u (.ld1 p74 (.t p73))), (.u (.bin p75 .rem (.t p72) (.t p74))), (.u (.nilc p76 (.t p70))), (.u (.fad p77 (.t p76) 1)), (.u (.st (.t p77) (.t p75) 1))]) .skip)) (.seq (.seq (.reg [(.u (.mv p78 (.t p3))), (.u (.bin p79 .rem (.t p78) (.k (.i .u8 3)))), (.u (.bin p80 .eql (.t p79) (.k (.i .u8 2)))), (.u (.mv p81 (.t p80))), (.g p81 true (some p82) (.mv p82 (.t p14))), (.g p81 true (some p83) (.nilc p83 (.t p82))), (.g p81 true (some p84) (.fad p84 (.t p83) 2)), (.g p81 true (some p85) (.ld1 p85 (.t p84))), (.g p81 true (some p86) (.bin p86 .lss (.t p85) (.k (.i .i64 0)))), (.u (.pick p87 (.t p81) (.t p86) (.k (.b false))))]) (.cond (.t p87) (.reg [(.u (.mv p88 (.t p14))), (.u (.mv p89 (.t p4))), (.u (.cvi p90 .i64 (.t p89))), (.u (.fad p91 (.t p6) 0)), (.u (.ld1 p92 (.t p91))), (.u (.bin p93 .rem (.t p90) (.t p92))), (.u (.nilc p94 (.t p88))), (.u (.fad p95 (.t p94) 2)), (.u (.st (.t p95) (.t p93) 1))]) .skip)) (.seq (.reg [(.u (.ldn p97 (.t p13) 5)), (.u (.cf (some p98) p24 [(.t p97)])), (.u (.cf (some p99) p40 [(.t p98)])), (.u (.mv p96 (.t p99))), (.u (.ext p100 (.t p96) 0)), (.u (.ext p101 (.t p96) 1)), (.u (.new p15 [(.i .i64 0), (.i .i64 0)])), (.u (.st (.t p15) (.t p100) 2)), (.u (.mv p16 (.t p101)))]) (.seq (.seq (.reg [(.u (.mv p102 (.t p16))), (.u (.bin p103 .neq (.t p102) (.k (.i .i64 0))))]) (.cond (.t p103) (.seq (.reg [(.u (.mv p104 (.t p16))), (.u (.bin p105 .eql (.t p104) (.k (.i .i64 11)))), (.u (.mv p106 (.t p105))), (.g p106 true (some p107) (.cf (some p107) p22 [])), (.u (.pick p108 (.t p106) (.t p107) (.k (.b false)))), (.u (.mv p11 (.t p108)))]) .ret) .skip)) (.seq (.drw [(.u (.ldn p109 (.t p13) 5)), (.u (.ldn p110 (.t p6) 5)), (.u (.mv p111 (.t p5))), (.u (.cvi p112 .i64 (.t p111))), (.u (.fad p113 (.t p6) 3)), (.u (.ld1 p114 (.t p113))), (.u (.len p115 (.t p114))), (.u (.bin p116 .add (.t p115) (.k (.i .i64 1)))), (.u (.bin p117 .rem (.t p112) (.t p116))), (.u (.mv p118 (.t p12))), (.u (.cf (some p119) p64 [(.t p109), (.t p110), (.t p117), (.t p118)])), (.u (.mv p120 (.t p119))), (.g p120 true (some p121) (.cf (some p121) p22 [])), (.u (.pick p122 (.t p120) (.t p121) (.k (.b false)))), (.u (.mv p11 (.t p122)))] [0, 0, 0, 4, 0, 16, 48, 112, 252, 0, 1023, 2047, 4095, 8191, 16383]) .ret))))))))))))
def rs14 : List RR := [(.t p11)]
theorem fn14 : FnOk Try.prog p15.ix 122 rc14 rs14 := ⟨Try.f14, bodyC Try.f14, Try.func14, by kernel_rfl, by kernel_rfl, by kernel_rfl, by kernel_rfl, by kernel_rfl⟩
end Go.Ev
namespace Go.Ev
open Go.Proofs
set_option maxRecDepth 100000
structure RdP (n : Int) (o x : Ln) : Prop where
  k : x.k = o.k ∨ o.k = 0 ∧ (x.k = 1 ∨ x.k = 2)
  c : x.c = o.c ∨ o.c < 0 ∧ 0 ≤ x.c ∧ x.c < n
  t : x.t = o.t ∨ o.t < 0 ∧ 0 ≤ x.t ∧ x.t < n
theorem RdP.ok {n : Int} {o x : Ln} (h : RdP n o x) (ho : lnOk n o = true) : lnOk n x = true := by
  obtain ⟨h1, h2, h3⟩ := h
  unfold lnOk at ho ⊢
  simp only [Bool.and_eq_true, inR_iff] at ho ⊢
  omega
theorem RdP.n {n : Int} {o x : Ln} (h : RdP n o x) (ho : lnOk n o = true) (h1 : 1 ≤ n) (h4 : n ≤ 4) : rdN n x ≤ rdN n o := by
  obtain ⟨p1, p2, p3⟩ := h
  unfold lnOk at ho
  simp only [Bool.and_eq_true, inR_iff] at ho
  unfold rdN szK szC szT
  have : n = 1 ∨ n = 2 ∨ n = 3 ∨ n = 4 := by omega
  rcases this with rfl | rfl | rfl | rfl <;> split <;> split <;> split <;> split <;> split <;> split <;> omega
theorem many_mono {n : Int} (h1 : 1 ≤ n) (h4 : n ≤ 4) : ∀ (ls : List Ln) (p q : Int), p ≤ q → ls.foldl (fun m l => min 5000 (m * rdN n l)) p ≤ ls.foldl (fun m l => min 5000 (m * rdN n l)) q
  | [], _, _, h => h
  | l :: ls, p, q, h => by
    obtain ⟨b1, _⟩ := rdN_bd h1 h4 l
    have := Int.mul_le_mul_of_nonneg_right h (show 0 ≤ rdN n l by omega)
    exact many_mono h1 h4 ls _ _ (show min 5000 (p * rdN n l) ≤ min 5000 (q * rdN n l) by omega)
theorem many_set {n : Int} (h1 : 1 ≤ n) (h4 : n ≤ 4) (x : Ln) : ∀ (ls : List Ln) (k : Nat) (p : Int), 0 ≤ p → rdN n x ≤ rdN n (ls.getD k default) → (ls.set k x).foldl (fun m l => min 5000 (m * rdN n l)) p ≤ ls.foldl (fun m l => min 5000 (m * rdN n l)) p
  | [], _, _, _, _ => Int.le_refl _
  | l :: ls, 0, p, hp, h => by
    have h : rdN n x ≤ rdN n l := h
    have := Int.mul_le_mul_of_nonneg_left h hp
    exact many_mono h1 h4 ls _ _ (show min 5000 (p * rdN n x) ≤ min 5000 (p * rdN n l) by omega)
  | l :: ls, k + 1, p, hp, h => by
    obtain ⟨b1, _⟩ := rdN_bd h1 h4 l
    have := Int.mul_nonneg hp (show 0 ≤ rdN n l by omega)
    exact many_set h1 h4 x ls k _ (show 0 ≤ min 5000 (p * rdN n l) by omega) h
theorem fault_set {n coin box : Int} {ls : List Ln} {cs : List Ct} {k : Nat} {x : Ln} (hk : k < ls.length) (h : RdP n (ls.getD k default) x) (hf : faultT n coin box ls cs = 0) : faultT n coin box (ls.set k x) cs = 0 := by
  obtain ⟨f1, f2, f3, f4⟩ := fault_okT hf
  have f3' := f3
  unfold vldT at f3
  simp only [Bool.and_eq_true, inR_iff] at f3
  obtain ⟨v1, v2, v3, v4, v5⟩ := f3
  have ho := List.all_eq_true.1 v4 _ (getD_mem (d := default) hk)
  have hv : vldT n coin box (ls.set k x) cs = true := by
    unfold vldT
    simp only [Bool.and_eq_true, inR_iff, List.length_set]
    refine ⟨v1, v2, v3, List.all_eq_true.2 fun y hy => ?_, v5⟩
    rcases List.mem_or_eq_of_mem_set hy with hy | rfl
    · exact List.all_eq_true.1 v4 y hy
    · exact h.ok ho
  have hm : manyR n (ls.set k x) ≤ manyR n ls := many_set v1.1 v1.2 x ls k 1 (by omega) (h.n ho v1.1 v1.2)
  unfold faultT
  rw [if_neg (by rw [List.length_set]; omega), if_pos hv, if_neg (by omega)]
theorem fine_set {n coin box : Int} {ls : List Ln} {cs : List Ct} {k : Nat} {x : Ln} (hk : k < ls.length) (h : RdP n (ls.getD k default) x) (hf : faultT n coin box ls cs = 0) (hx : hasB (B5 n coin box (ls.set k x) cs) = true) : Finer (B5 n coin box (ls.set k x) cs) (B5 n coin box ls cs) := by
  have fx := fault_set hk h hf
  have Vx := VB.of fx
  have V := VB.of hf
  refine ⟨rfl, rfl, rfl, Vx, V, ex_ne (sE_true fx hx), fun X hX => ⟨X, ?_, fun j _ => rfl⟩⟩
  have h1 := (refT_ext Vx).2 hX
  rw [mem_refT Vx] at h1
  refine (refT_ext V).1 ((mem_refT V).2 ?_)
  have h1 : (readB n (ls.set k x) X && (possB X && cntB box coin cs X)) = true := h1
  show (readB n ls X && (possB X && cntB box coin cs X)) = true
  rw [Bool.and_eq_true] at h1 ⊢
  refine ⟨?_, h1.2⟩
  have h1 := h1.1
  unfold readB at h1 ⊢
  rw [Bool.and_eq_true, decide_eq_true_iff, List.all_eq_true] at h1 ⊢
  rw [List.length_set] at h1
  refine ⟨h1.1, fun i hi => ?_⟩
  have h2 := h1.2 i hi
  have hil : i < ls.length := by have := List.mem_range.1 hi; omega
  by_cases e : k = i
  · subst e
    rw [show (ls.set k x).getD k default = x by simp [List.getD, hk]] at h2
    obtain ⟨p1, p2, p3⟩ := h
    unfold rd1 agB at h2 ⊢
    simp only [Bool.and_eq_true, Bool.or_eq_true, decide_eq_true_iff, inR_iff] at h2 ⊢
    omega
  · rw [show (ls.set k x).getD i default = ls.getD i default by simp [List.getD, List.getElem?_set_ne e]] at h2
    exact h2
theorem lnF_at (st : Nat) : ∀ (ls : List Ln) (k : Nat), k < ls.length → ((rows lnD ls).flatten.map fun d => Cell.o d st)[k * 3]? = some (.o (.i .i64 (ls.getD k default).k) st) ∧ ((rows lnD ls).flatten.map fun d => Cell.o d st)[k * 3 + 1]? = some (.o (.i .i64 (ls.getD k default).c) st) ∧ ((rows lnD ls).flatten.map fun d => Cell.o d st)[k * 3 + 2]? = some (.o (.i .i64 (ls.getD k default).t) st)
  | [], k, h => absurd h (Nat.not_lt_zero _)
  | r :: ls, 0, _ => ⟨rfl, rfl, rfl⟩
  | r :: ls, k + 1, h => by
    have := lnF_at st ls k (by simpa using h)
    rw [show (k + 1) * 3 = k * 3 + 1 + 1 + 1 by omega]
    exact this
theorem lnF_k (st : Nat) (a : Int) : ∀ (ls : List Ln) (k : Nat), k < ls.length → (((rows lnD ls).flatten.map fun d => Cell.o d st).set (k * 3) (.o (.i .i64 a) st)) = (rows lnD (ls.set k ⟨a, (ls.getD k default).c, (ls.getD k default).t⟩)).flatten.map fun d => Cell.o d st
  | [], k, h => absurd h (Nat.not_lt_zero _)
  | r :: ls, 0, _ => rfl
  | r :: ls, k + 1, h => by
    have := lnF_k st a ls k (by simpa using h)
    rw [show (k + 1) * 3 = k * 3 + 1 + 1 + 1 by omega]
    exact congrArg (fun l => Cell.o (.i .i64 r.k) st :: Cell.o (.i .i64 r.c) st :: Cell.o (.i .i64 r.t) st :: l) this
theorem lnF_c (st : Nat) (a : Int) : ∀ (ls : List Ln) (k : Nat), k < ls.length → (((rows lnD ls).flatten.map fun d => Cell.o d st).set (k * 3 + 1) (.o (.i .i64 a) st)) = (rows lnD (ls.set k ⟨(ls.getD k default).k, a, (ls.getD k default).t⟩)).flatten.map fun d => Cell.o d st
  | [], k, h => absurd h (Nat.not_lt_zero _)
  | r :: ls, 0, _ => rfl
  | r :: ls, k + 1, h => by
    have := lnF_c st a ls k (by simpa using h)
    rw [show (k + 1) * 3 = k * 3 + 1 + 1 + 1 by omega]
    exact congrArg (fun l => Cell.o (.i .i64 r.k) st :: Cell.o (.i .i64 r.c) st :: Cell.o (.i .i64 r.t) st :: l) this
theorem lnF_t (st : Nat) (a : Int) : ∀ (ls : List Ln) (k : Nat), k < ls.length → (((rows lnD ls).flatten.map fun d => Cell.o d st).set (k * 3 + 2) (.o (.i .i64 a) st)) = (rows lnD (ls.set k ⟨(ls.getD k default).k, (ls.getD k default).c, a⟩)).flatten.map fun d => Cell.o d st
  | [], k, h => absurd h (Nat.not_lt_zero _)
  | r :: ls, 0, _ => rfl
  | r :: ls, k + 1, h => by
    have := lnF_t st a ls k (by simpa using h)
    rw [show (k + 1) * 3 = k * 3 + 1 + 1 + 1 by omega]
    exact congrArg (fun l => Cell.o (.i .i64 r.k) st :: Cell.o (.i .i64 r.c) st :: Cell.o (.i .i64 r.t) st :: l) this
noncomputable def rdKt (n coin box : Int) (ls xs : List Ln) (cs : List Ct) (k : Nat) (after : Int) : X := ⟨(.n (.n (.n .e none (.n .e (some (.i .i64 (k : Int))) .e)) none (.n .e (some (.pt .h 0 0)) .e)) none (.n (.n .e (some (.i .u8 after)) (.n .e (some (.pt (.o .h) 0 0)) .e)) none .e)), (.n (.n .e (some (bkC n coin box xs cs)) .e) (some (bkC n coin box ls cs)) .e), .i .h, none⟩
noncomputable def rc14R : RC := seqR (seqR (seqR (seqR (seqR (seqR (seqR (seqR (seqR rc14))))))))
set_option maxHeartbeats 4000000 in
theorem j_TokenReadR (n coin box : Int) (ls : List Ln) (cs : List Ct) (x : Ln) (k : Nat) (after : Int) (hk : k < ls.length) (hx : RdP n (ls.getD k default) x) (h0 : faultT n coin box ls cs = 0) (w1 : 0 ≤ after ∧ after ≤ 255) (AW : PureF Try.prog p22.ix [] (.b true)) : Rn Try.prog 122 rc14R (rdKt n coin box ls (ls.set k x) cs k after) (Fin rs14 (.b true)) := by
  have e1 := rows_length lnD ls
  have hxl : (ls.set k x).length = ls.length := List.length_set ..
  have h0x := fault_set hk hx h0
  have h8 := (VB.of h0).len
  have h4 := (VB.of h0).clen
  have h8 : ls.length ≤ 8 := h8
  have h4 : cs.length ≤ 4 := h4
  have iBx := j_Book n coin box (ls.set k x) cs (by omega) (by omega)
  have iX := j_MixedP n coin box (ls.set k x) cs
  unfold mixT lohi at iX
  cases hb : hasB (B5 n coin box (ls.set k x) cs) with
  | false =>
    rw [sE_false h0x hb, if_neg (by decide)] at iX
    conv => whnf
    repeat' first | ((first | with_reducible apply WB.tt | with_reducible apply WB.ff | refine Rn.seq ?_ | refine Rn.reg ?_ | refine Rn.drw ?_ | refine Rn.blk ?_ | refine Rn.skip ?_ | refine Rn.ret ?_ | refine Rn.exit ?_ | refine Rn.cond rfl ?_ | refine And.intro (InR.i64 (by omega) (by omega)) ?_ | refine And.intro (show _ ≠ (0 : Int) by omega) ?_ | refine WIx.intsN (by omega) ?_ | refine WIx.rowsN (by omega) ?_ | refine WCall.pure (iBx) ?_ | refine WCall.pure (iX) ?_ | refine WCall.pure (AW) ?_ | with_reducible refine WB.decT (by first | with_reducible rfl | assumption | omega | exact ⟨rfl, rfl⟩) ?_ | with_reducible refine WB.decF (by first | assumption | omega) ?_ | with_reducible refine WB.ndT (by first | with_reducible rfl | assumption | omega | exact ⟨rfl, rfl⟩) ?_ | with_reducible refine WB.ndF (by first | assumption | omega) ?_ | with_reducible refine WB.nt ?_ | with_reducible refine WB.nf ?_ | with_reducible refine WB.dec (fun h => ?_) (fun h => ?_) | with_reducible refine WB.ndec (fun h => ?_) (fun h => ?_) | refine WB.mk (fun h => ?_) (fun h => ?_)) <;> conv => whnf)
    exact Fin.b rfl rfl
  | true =>
  rw [sE_true h0x hb, if_pos rfl] at iX
  have F := fine_set hk hx h0 hb
  have m1 := Int.tmod_nonneg (((rows lnD ls).length : Int) + 1) w1.1
  have m2 := Int.tmod_lt_of_pos after (show (0 : Int) < ((rows lnD ls).length : Int) + 1 by omega)
  obtain ⟨j, hj2⟩ := Int.eq_ofNat_of_zero_le m1
  have hj : j ≤ ls.length := by omega
  have iC := j_closer F h0x h0 hb F.has hj (by omega) (k : Int) (.inr ⟨by omega, by omega, by omega⟩)
  conv => whnf
  repeat' first | ((first | with_reducible apply WB.tt | with_reducible apply WB.ff | refine Rn.seq ?_ | refine Rn.reg ?_ | refine Rn.drw ?_ | refine Rn.blk ?_ | refine Rn.skip ?_ | refine Rn.ret ?_ | refine Rn.exit ?_ | refine Rn.cond rfl ?_ | refine And.intro (InR.i64 (by omega) (by omega)) ?_ | refine And.intro (show _ ≠ (0 : Int) by omega) ?_ | refine WIx.intsN (by omega) ?_ | refine WIx.rowsN (by omega) ?_ | refine WCall.pure (iBx) ?_ | refine WCall.pure (iX) ?_ | with_reducible refine WB.decT (by first | with_reducible rfl | assumption | omega | exact ⟨rfl, rfl⟩) ?_ | with_reducible refine WB.decF (by first | assumption | omega) ?_ | with_reducible refine WB.ndT (by first | with_reducible rfl | assumption | omega | exact ⟨rfl, rfl⟩) ?_ | with_reducible refine WB.ndF (by first | assumption | omega) ?_ | with_reducible refine WB.nt ?_ | with_reducible refine WB.nf ?_ | with_reducible refine WB.dec (fun h => ?_) (fun h => ?_) | with_reducible refine WB.ndec (fun h => ?_) (fun h => ?_) | refine WB.mk (fun h => ?_) (fun h => ?_)) <;> conv => whnf)
  rw [hj2]
  repeat' first | ((first | with_reducible apply WB.tt | with_reducible apply WB.ff | refine Rn.seq ?_ | refine Rn.reg ?_ | refine Rn.drw ?_ | refine Rn.blk ?_ | refine Rn.skip ?_ | refine Rn.ret ?_ | refine Rn.exit ?_ | refine Rn.cond rfl ?_ | refine And.intro (InR.i64 (by omega) (by omega)) ?_ | refine And.intro (show _ ≠ (0 : Int) by omega) ?_ | refine WIx.intsN (by omega) ?_ | refine WIx.rowsN (by omega) ?_ | refine WCall.pure (iC) ?_ | refine WCall.pure (AW) ?_ | with_reducible refine WB.decT (by first | with_reducible rfl | assumption | omega | exact ⟨rfl, rfl⟩) ?_ | with_reducible refine WB.decF (by first | assumption | omega) ?_ | with_reducible refine WB.ndT (by first | with_reducible rfl | assumption | omega | exact ⟨rfl, rfl⟩) ?_ | with_reducible refine WB.ndF (by first | assumption | omega) ?_ | with_reducible refine WB.nt ?_ | with_reducible refine WB.nf ?_ | with_reducible refine WB.dec (fun h => ?_) (fun h => ?_) | with_reducible refine WB.ndec (fun h => ?_) (fun h => ?_) | refine WB.mk (fun h => ?_) (fun h => ?_)) <;> conv => whnf)
  exact Fin.b rfl rfl
end Go.Ev
namespace Go.Ev
open Go.Proofs
set_option maxRecDepth 100000
theorem bkC_shLr {n coin box : Int} {ls : List Ln} {cs : List Ct} {d : D} {B : Pos → Prop} {ob : T C} (hd : Fz B ob d (.lst 3 (rows lnD ls))) : ShC B ob (.cells false [.o (.i .i64 n) 0, .o (.i .i64 coin) 0, .o (.i .i64 box) 0, .o d 0, .o (.lst 3 (rows ctD cs)) 0] 1) (bkC n coin box ls cs) := by
  refine .cells fun k c' hc => ?_
  match k, hc with
  | 0, hc => cases hc; exact ⟨_, rfl, fun _ h => h, .pu trivial⟩
  | 1, hc => cases hc; exact ⟨_, rfl, fun _ h => h, .pu trivial⟩
  | 2, hc => cases hc; exact ⟨_, rfl, fun _ h => h, .pu trivial⟩
  | 3, hc => cases hc; exact ⟨_, rfl, fun _ h => h, hd⟩
  | 4, hc => cases hc; exact ⟨_, rfl, fun _ h => h, .pu (pu_ct _)⟩
  | k + 5, hc => cases hc
set_option maxHeartbeats 8000000 in
theorem j_TokenRead (n coin box : Int) (ls : List Ln) (cs : List Ct) (line sign what after : Int) (w1 : 0 ≤ line ∧ line ≤ 255) (w2 : 0 ≤ sign ∧ sign ≤ 255) (w3 : 0 ≤ what ∧ what ≤ 255) (w4 : 0 ≤ after ∧ after ≤ 255) (AW : PureF Try.prog p22.ix [] (.b true)) : PureF Try.prog p15.ix [.ag [.i .i64 n, .i .i64 coin, .i .i64 box, .lst 3 (rows lnD ls), .lst 3 (rows ctD cs)], .i .u8 line, .i .u8 sign, .i .u8 what, .i .u8 after] (.b true) := by
  have e2 := rows_length lnD ls
  have iR := j_ready n coin box ls cs
  unfold bk5 at iR
  refine PureF.run fn14 (by simp) (by simp [PuL, PuE, Pu, pu_ln, pu_ct]) ?_; conv => whnf
  cases hR : readyB n coin box ls cs with
  | false =>
    rw [hR] at iR
    repeat' first | ((first | with_reducible apply WB.tt | with_reducible apply WB.ff | refine Rn.seq ?_ | refine Rn.reg ?_ | refine Rn.drw ?_ | refine Rn.blk ?_ | refine Rn.skip ?_ | refine Rn.ret ?_ | refine Rn.exit ?_ | refine Rn.cond rfl ?_ | refine And.intro (InR.i64 (by omega) (by omega)) ?_ | refine And.intro (show _ ≠ (0 : Int) by omega) ?_ | refine WIx.intsN (by omega) ?_ | refine WIx.rowsN (by omega) ?_ | refine WCall.pure (iR) ?_ | refine WCall.pure (AW) ?_ | with_reducible refine WB.decT (by first | with_reducible rfl | assumption | omega | exact ⟨rfl, rfl⟩) ?_ | with_reducible refine WB.decF (by first | assumption | omega) ?_ | with_reducible refine WB.ndT (by first | with_reducible rfl | assumption | omega | exact ⟨rfl, rfl⟩) ?_ | with_reducible refine WB.ndF (by first | assumption | omega) ?_ | with_reducible refine WB.nt ?_ | with_reducible refine WB.nf ?_ | with_reducible refine WB.dec (fun h => ?_) (fun h => ?_) | with_reducible refine WB.ndec (fun h => ?_) (fun h => ?_) | refine WB.mk (fun h => ?_) (fun h => ?_)) <;> conv => whnf)
    exact Fin.b rfl rfl
  | true =>
  rw [hR] at iR
  obtain ⟨l8, l4, h0⟩ := ready_of hR
  by_cases hl0 : ls.length = 0
  · have q0 : Int.ofNat (rows lnD ls).length = 0 := by rw [e2, hl0]; rfl
    repeat' first | ((first | with_reducible apply WB.tt | with_reducible apply WB.ff | refine Rn.seq ?_ | refine Rn.reg ?_ | refine Rn.drw ?_ | refine Rn.blk ?_ | refine Rn.skip ?_ | refine Rn.ret ?_ | refine Rn.exit ?_ | refine Rn.cond rfl ?_ | refine And.intro (InR.i64 (by omega) (by omega)) ?_ | refine And.intro (show _ ≠ (0 : Int) by omega) ?_ | refine WIx.intsN (by omega) ?_ | refine WIx.rowsN (by omega) ?_ | refine WCall.pure (iR) ?_ | refine WCall.pure (AW) ?_ | with_reducible refine WB.decT (by first | with_reducible rfl | assumption | omega | exact ⟨rfl, rfl⟩) ?_ | with_reducible refine WB.decF (by first | assumption | omega) ?_ | with_reducible refine WB.ndT (by first | with_reducible rfl | assumption | omega | exact ⟨rfl, rfl⟩) ?_ | with_reducible refine WB.ndF (by first | assumption | omega) ?_ | with_reducible refine WB.nt ?_ | with_reducible refine WB.nf ?_ | with_reducible refine WB.dec (fun h => ?_) (fun h => ?_) | with_reducible refine WB.ndec (fun h => ?_) (fun h => ?_) | refine WB.mk (fun h => ?_) (fun h => ?_)) <;> conv => whnf)
    all_goals exact Fin.b rfl rfl
  have b1 := Int.tmod_nonneg ((rows lnD ls).length : Int) w1.1
  have b2 := Int.tmod_lt_of_pos line (show (0 : Int) < ((rows lnD ls).length : Int) by omega)
  obtain ⟨k, hk2⟩ := Int.eq_ofNat_of_zero_le b1
  have hk : k < ls.length := by omega
  have hn : 1 ≤ n ∧ n ≤ 4 := (VB.of h0).n
  have hat := fun st => lnF_at st ls k hk
  have hself : ls.set k (ls.getD k default) = ls := by
    rw [show ls.getD k default = ls[k] by simp [List.getD, hk]]
    exact List.set_getElem_self ..
  have hrest : ∀ x, RdP n (ls.getD k default) x → Rn Try.prog 122 rc14R (rdKt n coin box ls (ls.set k x) cs k after) (Fin rs14 (.b true)) := fun x hx => j_TokenReadR n coin box ls cs x k after hk hx h0 w4 AW
  have s1 := Int.tmod_nonneg 3 w2.1
  have s2 := Int.tmod_lt_of_pos sign (show (0 : Int) < 3 by omega)
  have t1 := Int.tmod_nonneg 2 w3.1
  have t2 := Int.tmod_lt_of_pos what (show (0 : Int) < 2 by omega)
  have t3 := Int.tmod_nonneg n w3.1
  have t4 := Int.tmod_lt_of_pos what (show (0 : Int) < n by omega)
  refine Rn.seq ?_; conv => whnf
  refine Rn.reg ?_; conv => whnf
  refine Rn.seq ?_; conv => whnf
  refine Rn.seq ?_; conv => whnf
  refine Rn.reg ?_; conv => whnf
  refine WCall.pure iR ?_; conv => whnf
  repeat' first | ((first | with_reducible apply WB.tt | with_reducible apply WB.ff | with_reducible refine WB.decF (by omega) ?_ | with_reducible refine WB.decT (by omega) ?_ | refine WB.ff ?_ | refine WB.tt ?_) <;> conv => whnf)
  refine Rn.cond rfl ?_; conv => whnf
  repeat' first | ((first | with_reducible apply WB.tt | with_reducible apply WB.ff | with_reducible refine WB.decF (by omega) ?_ | with_reducible refine WB.decT (by omega) ?_ | refine WB.ff ?_ | refine WB.tt ?_) <;> conv => whnf)
  refine Rn.skip ?_; conv => whnf
  refine Rn.far rfl ?_
  refine RnF.seq ?_; conv => whnf
  repeat' first | ((first | with_reducible apply WB.tt | with_reducible apply WB.ff | refine Rn.seq ?_ | refine Rn.reg ?_ | refine Rn.drw ?_ | refine Rn.blk ?_ | refine Rn.skip ?_ | refine Rn.ret ?_ | refine Rn.exit ?_ | refine Rn.cond rfl ?_ | refine And.intro (InR.i64 (by omega) (by omega)) ?_ | refine And.intro (show _ ≠ (0 : Int) by omega) ?_ | refine WIx.intsN (by omega) ?_ | refine WIx.rowsN (by omega) ?_) <;> conv => whnf)
  rw [hk2]
  refine ⟨rfl, rfl, (show 2 ≤ 2 by omega), ?_⟩
  refine RnF.seq ?_; conv => whnf
  repeat' first | ((first | with_reducible apply WB.tt | with_reducible apply WB.ff | refine Rn.seq ?_ | refine Rn.reg ?_ | refine Rn.drw ?_ | refine Rn.blk ?_ | refine Rn.skip ?_ | refine Rn.ret ?_ | refine Rn.exit ?_ | refine Rn.cond rfl ?_ | refine And.intro (InR.i64 (by omega) (by omega)) ?_ | refine And.intro (show _ ≠ (0 : Int) by omega) ?_ | refine WIx.intsN (by omega) ?_ | refine WIx.rowsN (by omega) ?_) <;> conv => whnf)
  refine ⟨rfl, rfl, (show 2 ≤ 3 by omega), ?_⟩
  refine RnF.seq ?_; conv => whnf
  repeat' first | ((first | with_reducible apply WB.tt | with_reducible apply WB.ff | refine Rn.seq ?_ | refine Rn.reg ?_ | refine Rn.drw ?_ | refine Rn.blk ?_ | refine Rn.skip ?_ | refine Rn.ret ?_ | refine Rn.exit ?_ | refine Rn.cond rfl ?_ | refine And.intro (InR.i64 (by omega) (by omega)) ?_ | refine And.intro (show _ ≠ (0 : Int) by omega) ?_ | refine WIx.intsN (by omega) ?_ | refine WIx.rowsN (by omega) ?_) <;> conv => whnf)
  refine WSt.app_emp (es := rows lnD ls) (by rfl) (by rfl) (by rfl) (ln_three ls) (by omega) (fun st => ?_); conv => whnf
  repeat' first | ((first | with_reducible apply WB.tt | with_reducible apply WB.ff | refine Rn.seq ?_ | refine Rn.reg ?_ | refine Rn.drw ?_ | refine Rn.blk ?_ | refine Rn.skip ?_ | refine Rn.ret ?_ | refine Rn.exit ?_ | refine Rn.cond rfl ?_ | refine And.intro (InR.i64 (by omega) (by omega)) ?_ | refine And.intro (show _ ≠ (0 : Int) by omega) ?_ | refine WIx.intsN (by omega) ?_ | refine WIx.rowsN (by omega) ?_) <;> conv => whnf)
  refine ⟨rfl, rfl, (show 2 ≤ 4 by omega), ?_⟩
  refine RnF.seq ?_; conv => whnf
  repeat' first | ((first | with_reducible apply WB.tt | with_reducible apply WB.ff | refine Rn.seq ?_ | refine Rn.reg ?_ | refine Rn.drw ?_ | refine Rn.blk ?_ | refine Rn.skip ?_ | refine Rn.ret ?_ | refine Rn.exit ?_ | refine Rn.cond rfl ?_ | refine And.intro (InR.i64 (by omega) (by omega)) ?_ | refine And.intro (show _ ≠ (0 : Int) by omega) ?_ | refine WIx.intsN (by omega) ?_ | refine WIx.rowsN (by omega) ?_) <;> conv => whnf)
  refine WSt.ixsY (m := k) (by rfl) (by rfl) (by omega) ?_; conv => whnf
  repeat' first | ((first | with_reducible apply WB.tt | with_reducible apply WB.ff | refine Rn.seq ?_ | refine Rn.reg ?_ | refine Rn.drw ?_ | refine Rn.blk ?_ | refine Rn.skip ?_ | refine Rn.ret ?_ | refine Rn.exit ?_ | refine Rn.cond rfl ?_ | refine And.intro (InR.i64 (by omega) (by omega)) ?_ | refine And.intro (show _ ≠ (0 : Int) by omega) ?_ | refine WIx.intsN (by omega) ?_ | refine WIx.rowsN (by omega) ?_) <;> conv => whnf)
  refine ⟨rfl, rfl, (show 2 ≤ 4 by omega), ?_⟩
  have hs3 : sign.tmod 3 = 0 ∨ sign.tmod 3 = 1 ∨ sign.tmod 3 = 2 := by omega
  rcases hs3 with hs3 | hs3 | hs3
  iterate 3
    all_goals
      refine RnF.seq ?_; conv => whnf
      repeat' first | ((first | with_reducible apply WB.tt | with_reducible apply WB.ff | refine Rn.seq ?_ | refine Rn.reg ?_ | refine Rn.drw ?_ | refine Rn.blk ?_ | refine Rn.skip ?_ | refine Rn.ret ?_ | refine Rn.exit ?_ | refine Rn.cond rfl ?_ | refine And.intro (InR.i64 (by omega) (by omega)) ?_ | refine And.intro (show _ ≠ (0 : Int) by omega) ?_ | refine WIx.intsN (by omega) ?_ | refine WIx.rowsN (by omega) ?_ | (show wSt _ _; refine wSt.fad (by rfl) ?_) | (show wSt _ _; refine wSt.ld1 (by rfl) (by rfl) (by show _[0 + k * 3 + 0]? = _; rw [Nat.zero_add]; exact (hat st).1) (Nat.le_refl _) ?_) | (show wSt _ _; refine wSt.st1 (by rfl) (by rfl) (by rfl) (by rfl) (by show _[0 + k * 3 + 0]? = _; rw [Nat.zero_add]; exact (hat st).1) (Nat.le_refl _) ?_) | (show wSt _ _; refine wSt.ld1 (by rfl) (by rfl) (by show _[0 + k * 3 + 1]? = _; rw [Nat.zero_add]; exact (hat st).2.1) (Nat.le_refl _) ?_) | (show wSt _ _; refine wSt.st1 (by rfl) (by rfl) (by rfl) (by rfl) (by show _[0 + k * 3 + 1]? = _; rw [Nat.zero_add]; exact (hat st).2.1) (Nat.le_refl _) ?_) | (show wSt _ _; refine wSt.ld1 (by rfl) (by rfl) (by show _[0 + k * 3 + 2]? = _; rw [Nat.zero_add]; exact (hat st).2.2) (Nat.le_refl _) ?_) | (show wSt _ _; refine wSt.st1 (by rfl) (by rfl) (by rfl) (by rfl) (by show _[0 + k * 3 + 2]? = _; rw [Nat.zero_add]; exact (hat st).2.2) (Nat.le_refl _) ?_) | with_reducible refine WB.decT (by first | with_reducible rfl | assumption | omega | exact ⟨rfl, rfl⟩) ?_ | with_reducible refine WB.decF (by first | assumption | omega) ?_ | with_reducible refine WB.ndT (by first | with_reducible rfl | assumption | omega | exact ⟨rfl, rfl⟩) ?_ | with_reducible refine WB.ndF (by first | assumption | omega) ?_ | with_reducible refine WB.nt ?_ | with_reducible refine WB.nf ?_ | with_reducible refine WB.dec (fun h => ?_) (fun h => ?_) | with_reducible refine WB.ndec (fun h => ?_) (fun h => ?_) | refine WB.mk (fun h => ?_) (fun h => ?_)) <;> conv => whnf)
    all_goals refine ⟨rfl, rfl, (show 2 ≤ 4 by omega), ?_⟩
  all_goals first
    | refine RnF.turn (z' := rdKt n coin box ls (ls.set k ⟨what.tmod 2 + 1, (ls.getD k default).c, (ls.getD k default).t⟩) cs k after) (B := fun id => id.nat < 3) ?_ (fun id (h : id.nat < 2) => show id.nat < 3 by omega) (fun id h => h) (show 2 ≤ 3 by omega) (hrest ⟨what.tmod 2 + 1, (ls.getD k default).c, (ls.getD k default).t⟩ ⟨.inr ⟨h, by show what.tmod 2 + 1 = 1 ∨ what.tmod 2 + 1 = 2; omega⟩, .inl rfl, .inl rfl⟩)
    | refine RnF.turn (z' := rdKt n coin box ls (ls.set k ⟨(ls.getD k default).k, what.tmod n, (ls.getD k default).t⟩) cs k after) (B := fun id => id.nat < 3) ?_ (fun id (h : id.nat < 2) => show id.nat < 3 by omega) (fun id h => h) (show 2 ≤ 3 by omega) (hrest ⟨(ls.getD k default).k, what.tmod n, (ls.getD k default).t⟩ ⟨.inl rfl, .inr ⟨h, t3, t4⟩, .inl rfl⟩)
    | refine RnF.turn (z' := rdKt n coin box ls (ls.set k ⟨(ls.getD k default).k, (ls.getD k default).c, what.tmod n⟩) cs k after) (B := fun id => id.nat < 3) ?_ (fun id (h : id.nat < 2) => show id.nat < 3 by omega) (fun id h => h) (show 2 ≤ 3 by omega) (hrest ⟨(ls.getD k default).k, (ls.getD k default).c, what.tmod n⟩ ⟨.inl rfl, .inl rfl, .inr ⟨h, t3, t4⟩⟩)
    | refine RnF.turn (z' := rdKt n coin box ls (ls.set k (ls.getD k default)) cs k after) (B := fun id => id.nat < 3) ?_ (fun id (h : id.nat < 2) => show id.nat < 3 by omega) (fun id h => h) (show 2 ≤ 3 by omega) (hrest (ls.getD k default) ⟨.inl rfl, .inl rfl, .inl rfl⟩)
  all_goals
    refine ShrB.of ?_ ?_ rfl rfl
    · show Rel _ _ ((.n (.n (.n .e none (.n .e (some (.i .i64 (k : Int))) .e)) none (.n .e (some (.pt .h 0 0)) .e)) none (.n (.n .e (some (.i .u8 after)) (.n .e (some (.pt (.o .h) 0 0)) .e)) none .e)) : T D) _
      (repeat' first | exact Rel.e | refine Rel.some ?_ ?_ ?_ | refine Rel.none ?_ ?_ | refine Rel.ee ?_ ?_)
      all_goals show Fz _ _ _ _
      all_goals first | exact .pu trivial | exact .kpt (show _ < 3 by simp [Pos.nat])
    · show Rel _ _ ((.n (.n .e (some (bkC n coin box _ cs)) .e) (some (bkC n coin box ls cs)) .e) : T C) _
      (repeat' first | exact Rel.e | refine Rel.some ?_ ?_ ?_ | refine Rel.none ?_ ?_ | refine Rel.ee ?_ ?_)
      · refine ⟨show _ < 3 by simp [Pos.nat], bkC_shLr ?_⟩
        refine Fz.whole (show ¬ 3 < 3 by omega) (by rfl) (by rw [rows_length, rows_length, List.length_set]) (ln_three _) ?_ (pu_ln _)
        first
          | rw [hself]
          | (rw [← lnF_k st _ ls k hk]; show List.set _ (0 + k * 3 + 0) _ = _; rw [Nat.zero_add]; try rfl; done)
          | (rw [← lnF_c st _ ls k hk]; show List.set _ (0 + k * 3 + 1) _ = _; rw [Nat.zero_add]; try rfl; done)
          | (rw [← lnF_t st _ ls k hk]; show List.set _ (0 + k * 3 + 2) _ = _; rw [Nat.zero_add]; try rfl; done)
      · exact ⟨show _ < 3 by simp [Pos.nat], ShC.kp (bkC_kp _ _ _ _ _ _)⟩
theorem main_tokenRead (AW : PureF Try.prog p22.ix [] (.b true)) {es : List D} (fit : FitP [(true, [.i .i64, .i .i64, .i .i64, .sl [.i .i64, .i .i64, .i .i64], .sl [.i .i64, .i .i64, .i .i64]]), (false, [.i .u8]), (false, [.i .u8]), (false, [.i .u8]), (false, [.i .u8])] es) : PureF Try.prog 14 es (.b true) := by
  obtain ⟨n, coin, box, ls, cs, _, rfl, g1⟩ := fit.book
  obtain ⟨a, _, rfl, w1, g2⟩ := g1.i
  obtain ⟨b, _, rfl, w2, g3⟩ := g2.i
  obtain ⟨c, _, rfl, w3, g4⟩ := g3.i
  obtain ⟨d, _, rfl, w4, g5⟩ := g4.i
  obtain rfl := g5.no
  exact j_TokenRead n coin box ls cs a b c d (wf_u8 w1) (wf_u8 w2) (wf_u8 w3) (wf_u8 w4) AW
end Go.Ev
namespace Go.Proofs.Ytjgbfnciedkafaa.tokenRead
open Go.ChangeShapes Go.WideShapes Go.ChangeAt Go.RowKit
open Go.ChangeMaps (open_string shut_string)
set_option linter.unusedVariables false
theorem laid : laidOutB Try.prog = true := faP.laid
theorem own : ownKnob Try.prog.godebug = none := by kernel_rfl
theorem walk {es : List Go.Ev.D} (fit : Go.Ev.FitP [(true, [.i .i64, .i .i64, .i .i64, .sl [.i .i64, .i .i64, .i .i64], .sl [.i .i64, .i .i64, .i .i64]]), (false, [.i .u8]), (false, [.i .u8]), (false, [.i .u8]), (false, [.i .u8])] es) {args : Array Value} {W : World} (ha : Go.Ev.DVL (Go.Ev.γH W) W es args.toList) :
    Calls Try.prog 14 args W fun e w' => e = .returned (.bool true) ∧ Grown W w' ∧ Below W.heap.size W w' :=
  Go.Ev.PureF.calls (Go.Ev.main_tokenRead (fun ob nx lg => Go.Ev.t21.any ob nx lg) fit) ha
set_option maxRecDepth 100000 in
theorem lifted (os : Os) (started : os.Started) (H : Type) (enc : TypeId × Value → H) :
    ReturnsInHanded {} Try.checked os 14 .any (Rows.tokenReadSpec.pre6 enc Try.prog Try.f14 Rows.tokenReadRow.domain false) (Rows.tokenReadSpec.post enc Try.prog Try.f14 false true false false) := by
  refine returnsInHanded_of_change (C := Try.checked) own started (by kernel_rfl) Try.func14
    (ChangeSpec.witness6 (enc := enc) (C := Try.checked) false ⟨#[], #[.agg #[.int .i64 0, .int .i64 0, .int .i64 0, .slice none 0 0, .slice none 0 0], .int .u8 0, .int .u8 0, .int .u8 0, .int .u8 0], []⟩ 8 (by kernel_rfl) (by kernel_rfl) (by kernel_rfl) (by kernel_rfl)) ?_
  intro W base args ds gs before hval0 hW hcnd _
  have hval : ∀ (j : Nat) t v, Try.f14.params[j]? = some t → args[j]? = some v → Value.okWide Try.prog W .any base t v := hval0
  have hW' := hW
  obtain ⟨p, q, hA0, hV, rfl, hfz, hnd⟩ := hW
  have hA : DataW.TrodAll enc Try.prog W 0 (fun _ => true) true Try.f14.params.toList args.toList ds p := hA0
  rw [Try.params14] at hA hval
  obtain ⟨rfl, rfl⟩ := trodVars_none hV
  obtain ⟨d0, d1, d2, d3, d4, rfl⟩ := Go.Ev.len5 (Go.Ev.trod_len hA)
  clear hA0 hval0
  simp only [List.append_nil] at hW'
  obtain ⟨es, fit, dv⟩ := Go.Ev.open_all (n := 6) (pars := [(true, [.i .i64, .i .i64, .i .i64, .sl [.i .i64, .i .i64, .i .i64], .sl [.i .i64, .i .i64, .i .i64]]), (false, [.i .u8]), (false, [.i .u8]), (false, [.i .u8]), (false, [.i .u8])]) (by kernel_rfl) hA (fun j t v h1 h2 => hval j t v (by simpa using h1) (by simpa using h2))
  have hlt : ∀ x ∈ p, x.block < W.heap.size := fun x hx => by simpa using hW'.lt x hx
  refine (walk fit dv).mono fun e W' ⟨he, hg, hb⟩ => ?_
  subst he
  exact ⟨_, rfl, post_of_same (pa := p) (pv := []) hW' (fun _ _ _ => (trodAll_cons_mk (shut_bool Try.underlying4 _) trodAll_mk0))
    (fun sp hs => Go.Ev.stays_all laid (Go.Ev.of_allT (by kernel_rfl)) hA (fun x hx => hb.same (hlt x hx)) (fun x hx => hs x hx))
    (fun _ _ => rfl) (List.append_nil _).symm
    (hg.frame _) hg.2.1 (ok_one (by kernel_rfl) rfl (okWide_bool_mk Try.underlying4 _))⟩
theorem over : Rows.tokenReadRow.holds Try.pinned (OpenSpec.ofChange Rows.tokenReadSpec) :=
  OpenClaim.holds_of_wide 14 Try.f14 rfl rfl rfl rfl rfl rfl rfl ⟨rfl, rfl, rfl, rfl, rfl⟩ rfl rfl rfl rfl rfl (by kernel_rfl) Try.func14 faTokenRead.all
    (of_decide_eq_true (by kernel_rfl)) (by unfold Func.isWrapper; first | (rw [if_pos (by decide +kernel)]; kernel_rfl) | (rw [if_neg (by decide +kernel)]; exact ⟨rfl, rfl⟩))
    (fun os started H enc _ => lifted os started H enc)
theorem proved : Rows.TokenReadSaid :=
  over
#print axioms proved
end Go.Proofs.Ytjgbfnciedkafaa.tokenRead