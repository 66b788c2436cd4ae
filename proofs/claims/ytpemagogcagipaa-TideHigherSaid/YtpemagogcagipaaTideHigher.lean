/-
  TideHigher: the law answers true for every table, every list number and every two levels; the only conditions are those of the row itself.
-/
import Derived.Test.YtpemagogcagipaaRows
import Derived.WalkKit
import Derived.ProofKit
import Derived.OpenShut
import Derived.Test.YtpemagogcagipaaEvFt
import Derived.Test.YtpemagogcagipaaEvSy
import Derived.ShutString
import Derived.Test.YtpemagogcagipaaEvMN
set_option linter.all false
namespace Go.Ev
open Go.Proofs
set_option maxRecDepth 1000000
noncomputable def rc11 : RC := (.seq (.reg [(.u (.box p5 (.t p1))), (.u (.mv p9 (.k (.b false))))]) (.seq (.reg [(.u (.ldn p20 (.t p5) 5)), (.u (.new p10 [(.i .i64 0), .ns, (.i .i64 0), .ns, .ns])), (.u (.st (.t p10) (.t p20) 5))]) (.seq (.reg [(.u (.mv p21 (.t p3))), (.u (.cvi p22 .i64 (.t p21))), (.u (.bin p23 .rem (.t p22) (.k (.i .i64 100)))), (.u (.mv p24 (.t p3))), (.u (.cvi p25 .i64 (.t p24))), (.u (.bin p26 .rem (.t p25) (.k (.i .i64 100)))), (.u (.mv p27 (.t p4))), (.u (.cvi p28 .i64 (.t p27))), (.u (.bin p29 .rem (.t p28) (.k (.i .i64 7)))), (.u (.bin p30 .add (.t p26) (.t p29))), (.u (.mn p31 (.k (.i .i64 99)) (.t p30))), (.u (.bsl p32 1 2 [(.i .i64 0), (.i .i64 0)] [(0, (1, (.t p23))), (1, (1, (.t p31)))])), (.u (.fad p33 (.t p10) 3)), (.u (.st (.t p33) (.t p32) 1))]) (.seq (.seq (.reg [(.u (.ldn p34 (.t p10) 5)), (.u (.cf (some p35) p52 [(.t p34)])), (.u (.un p36 .not (.t p35)))]) (.cond (.t p36) (.seq (.reg [(.u (.cf (some p37) p21 [])), (.u (.mv p9 (.t p37)))]) .ret) .skip)) (.seq (.reg [(.u (.ldn p38 (.t p10) 5)), (.u (.cf (some p39) p57 [(.t p38)])), (.u (.mv p11 (.t p39)))]) (.seq (.drw [(.u (.ldn p41 (.t p10) 5)), (.u (.cf (some p42) p23 [(.t p41)])), (.u (.mv p43 (.t p11))), (.u (.mv p44 (.t p2))), (.u (.cvi p45 .i64 (.t p44))), (.u (.mv p46 (.t p11))), (.u (.len p47 (.t p46))), (.u (.bin p48 .rem (.t p45) (.t p47))), (.u (.ixs p49 1 (.t p43) (.t p48))), (.u (.ld1 p50 (.t p49))), (.u (.cf (some p51) p24 [(.t p50)])), (.u (.cf (some p52) p22 [(.t p42), (.t p51)])), (.u (.mv p40 (.t p52))), (.u (.ext p53 (.t p40) 0)), (.u (.ext p54 (.t p40) 1)), (.u (.mv p12 (.t p53))), (.u (.mv p13 (.t p54)))] [0, 1, 0, 0, 8, 0, 32, 120, 252, 508, 1023, 2047, 4095, 8191, 8191, 16383, 65535]) (.seq (.reg [(.u (.ldn p56 (.t p10) 5)), (.u (.cf (some p57) p23 [(.t p56)])), (.u (.cf (some p58) p39 [(.t p57), (.k (.i .i64 0))])), (.u (.mv p55 (.t p58))), (.u (.ext p59 (.t p55) 0)), (.u (.ext p60 (.t p55) 1)), (.u (.new p14 [(.i .i64 0), (.i .i64 0)])), (.u (.st (.t p14) (.t p59) 2)), (.u (.mv p15 (.t p60)))]) (.seq (.reg [(.u (.ldn p62 (.t p10) 5)), (.u (.cf (some p63) p23 [(.t p62)])), (.u (.cf (some p64) p39 [(.t p63), (.k (.i .i64 1))])), (.u (.mv p61 (.t p64))), (.u (.ext p65 (.t p61) 0)), (.u (.ext p66 (.t p61) 1)), (.u (.new p16 [(.i .i64 0), (.i .i64 0)])), (.u (.st (.t p16) (.t p65) 2)), (.u (.mv p17 (.t p66)))]) (.seq (.seq (.reg [(.u (.mv p67 (.t p13))), (.u (.bin p68 .neq (.t p67) (.k (.i .i64 0)))), (.u (.mv p69 (.t p68))), (.g p69 false (some p70) (.mv p70 (.t p12))), (.g p69 false (some p71) (.len p71 (.t p70))), (.g p69 false (some p72) (.bin p72 .neq (.t p71) (.k (.i .i64 2)))), (.u (.pick p73 (.t p69) (.k (.b true)) (.t p72))), (.u (.mv p74 (.t p73))), (.g p74 false (some p75) (.mv p75 (.t p15))), (.g p74 false (some p76) (.mv p76 (.t p17))), (.g p74 false (some p77) (.bin p77 .neq (.t p75) (.t p76))), (.u (.pick p78 (.t p74) (.k (.b true)) (.t p77))), (.u (.mv p79 (.t p78))), (.g p79 false (some p80) (.mv p80 (.t p15))), (.g p79 false (some p81) (.bin p81 .eql (.t p80) (.k (.i .i64 0)))), (.g p79 false (some p82) (.mv p82 (.t p81))), (.g p82 true (some p83) (.fad p83 (.t p16) 0)), (.g p82 true (some p84) (.ld1 p84 (.t p83))), (.g p82 true (some p85) (.fad p85 (.t p14) 0)), (.g p82 true (some p86) (.ld1 p86 (.t p85))), (.g p82 true (some p87) (.bin p87 .lss (.t p84) (.t p86))), (.g p82 true (some p88) (.mv p88 (.t p87))), (.g p88 false (some p89) (.fad p89 (.t p16) 1)), (.g p88 false (some p90) (.ld1 p90 (.t p89))), (.g p88 false (some p91) (.fad p91 (.t p14) 1)), (.g p88 false (some p92) (.ld1 p92 (.t p91))), (.g p88 false (some p93) (.bin p93 .lss (.t p90) (.t p92))), (.g p82 true (some p94) (.pick p94 (.t p88) (.k (.b true)) (.t p93))), (.g p79 false (some p95) (.pick p95 (.t p82) (.t p94) (.k (.b false)))), (.u (.pick p96 (.t p79) (.k (.b true)) (.t p95))), (.u (.mv p97 (.t p96))), (.g p97 false (some p98) (.mv p98 (.t p15))), (.g p97 false (some p99) (.bin p99 .neq (.t p98) (.k (.i .i64 0)))), (.g p97 false (some p100) (.mv p100 (.t p99))), (.g p100 true (some p101) (.mv p101 (.t p15))), (.g p100 true (some p102) (.bin p102 .neq (.t p101) (.k (.i .i64 11)))), (.g p97 false (some p103) (.pick p103 (.t p100) (.t p102) (.k (.b false)))), (.u (.pick p104 (.t p97) (.k (.b true)) (.t p103)))]) (.cond (.t p104) (.seq (.reg [(.u (.mv p9 (.k (.b false))))]) .ret) .skip)) (.seq (.reg [(.u (.mv p18 (.k (.i .i64 0))))]) (.seq (.seq (.reg [(.u (.mv p19 (.k (.i .i64 0))))]) (.blk 0 (.loop (.seq (.seq (.reg [(.u (.mv p105 (.t p19))), (.u (.mv p106 (.t p12))), (.u (.ixs p107 1 (.t p106) (.k (.i .i64 1)))), (.u (.ld1 p108 (.t p107))), (.u (.len p109 (.t p108))), (.u (.bin p110 .lss (.t p105) (.t p109)))]) (.cond (.t p110) .skip (.exit 0))) (.seq (.blk 1 (.seq (.blk 2 (.loop (.seq (.seq (.drw [(.u (.mv p113 (.t p18))), (.u (.mv p114 (.t p12))), (.u (.ixs p115 1 (.t p114) (.k (.i .i64 0)))), (.u (.ld1 p116 (.t p115))), (.u (.len p117 (.t p116))), (.u (.bin p118 .lss (.t p113) (.t p117))), (.u (.mv p119 (.t p118))), (.g p119 true (some p120) (.mv p120 (.t p12))), (.g p119 true (some p121) (.ixs p121 1 (.t p120) (.k (.i .i64 0)))), (.g p119 true (some p122) (.ld1 p122 (.t p121))), (.g p119 true (some p123) (.mv p123 (.t p18))), (.g p119 true (some p124) (.ixs p124 1 (.t p122) (.t p123))), (.g p119 true (some p125) (.ld1 p125 (.t p124))), (.g p119 true (some p126) (.mv p126 (.t p12))), (.g p119 true (some p127) (.ixs p127 1 (.t p126) (.k (.i .i64 1)))), (.g p119 true (some p128) (.ld1 p128 (.t p127))), (.g p119 true (some p129) (.mv p129 (.t p19))), (.g p119 true (some p130) (.ixs p130 1 (.t p128) (.t p129))), (.g p119 true (some p131) (.ld1 p131 (.t p130))), (.g p119 true (some p132) (.bin p132 .neq (.t p125) (.t p131))), (.u (.pick p133 (.t p119) (.t p132) (.k (.b false))))] [0, 0, 2, 6, 14, 31, 63, 127, 255, 511, 127, 2047, 4095, 127, 8319, 24703, 127, 123007, 254079, 524287, 1048575]) (.cond (.t p133) .skip (.exit 2))) (.blk 3 (.reg [(.u (.mv p134 (.t p18))), (.u (.bin p135 .add (.t p134) (.k (.i .i64 1)))), (.u (.mv p18 (.t p135)))]))))) (.seq (.reg [(.u (.mv p136 (.t p18))), (.u (.mv p137 (.t p12))), (.u (.ixs p138 1 (.t p137) (.k (.i .i64 0)))), (.u (.ld1 p139 (.t p138))), (.u (.len p140 (.t p139))), (.u (.bin p141 .eql (.t p136) (.t p140)))]) (.cond (.t p141) (.seq (.reg [(.u (.mv p9 (.k (.b false))))]) .ret) .skip)))) (.reg [(.u (.mv p111 (.t p19))), (.u (.bin p112 .add (.t p111) (.k (.i .i64 1)))), (.u (.mv p19 (.t p112)))])))))) (.seq (.reg [(.u (.cf (some p142) p21 [])), (.u (.mv p9 (.t p142)))]) .ret))))))))))))
def rs11 : List RR := [(.t p9)]
theorem fn11 : FnOk Try.prog p12.ix 142 rc11 rs11 := ⟨Try.f11, bodyC Try.f11, Try.func11, by kernel_rfl, by kernel_rfl, by kernel_rfl, by kernel_rfl, by kernel_rfl⟩
end Go.Ev
namespace Go.Ev
open Go.Proofs
set_option maxRecDepth 100000
/-! ### TideHigher -/
theorem wetR_mem {lv : List Int} {c : Nat → Int} {row : Nat} {last x : Int} : x ∈ wetR lv c row last ↔ x ∈ hrs last ∧ lv.getD row 0 < c x.toNat := by
  unfold wetR
  rw [List.mem_filter]
  unfold wetB
  rw [decide_eq_true_iff]
theorem wetR_sorted (lv : List Int) (c : Nat → Int) (row : Nat) (last : Int) : (wetR lv c row last).Pairwise (fun a b => a < b) := by
  unfold wetR hrs
  refine List.Pairwise.filter _ ?_
  rw [List.pairwise_map]
  exact List.Pairwise.imp (fun {a b} h => by omega) List.pairwise_lt_range
theorem first_mono {lv : List Int} {c : Nat → Int} {i k : Nat} {last : Int} (h : lv.getD i 0 ≤ lv.getD k 0) : firstR lv c i last ≤ firstR lv c k last := by
  unfold firstR
  have e : ∀ L : List Int, minL (last + 1) L = L.foldl min (last + 1) := fun _ => rfl
  rw [e, e]
  obtain ⟨p1, p2, p3⟩ := foldl_minS (wetR lv c i last) (last + 1)
  obtain ⟨q1, q2, q3⟩ := foldl_minS (wetR lv c k last) (last + 1)
  rcases q3 with q | q
  · omega
  · refine p2 _ ?_
    rw [wetR_mem] at q ⊢
    exact ⟨q.1, by omega⟩
theorem bd_mono {α : Type} {L : List α} {f g : α → Int} (h0 : 0 < L.length) (h : ∀ x ∈ L, f x ≤ g x) : (bdR (L.map f)).1 ≤ (bdR (L.map g)).1 ∧ (bdR (L.map f)).2 ≤ (bdR (L.map g)).2 := by
  obtain ⟨a, s, rfl⟩ : ∃ a s, L = a :: s := by
    cases L with
    | nil => cases h0
    | cons a s => exact ⟨a, s, rfl⟩
  unfold bdR
  show (f a :: s.map f).foldl min (f a) ≤ (g a :: s.map g).foldl min (g a) ∧ maxN (f a :: s.map f) ((f a :: s.map f).length - 1) ≤ maxN (g a :: s.map g) ((g a :: s.map g).length - 1)
  rw [maxN_all, maxN_all]
  have m1 : ∀ x ∈ (f a :: s.map f), ∃ y ∈ a :: s, f y = x := fun x hx => by
    rcases List.mem_cons.1 hx with rfl | hx
    · exact ⟨a, by simp, rfl⟩
    · obtain ⟨y, hy, e⟩ := List.mem_map.1 hx
      exact ⟨y, by simp [hy], e⟩
  have m2 : ∀ x ∈ (g a :: s.map g), ∃ y ∈ a :: s, g y = x := fun x hx => by
    rcases List.mem_cons.1 hx with rfl | hx
    · exact ⟨a, by simp, rfl⟩
    · obtain ⟨y, hy, e⟩ := List.mem_map.1 hx
      exact ⟨y, by simp [hy], e⟩
  have i1 : ∀ y ∈ a :: s, f y ∈ (f a :: s.map f) := fun y hy => List.mem_map_of_mem (f := f) hy
  have i2 : ∀ y ∈ a :: s, g y ∈ (g a :: s.map g) := fun y hy => List.mem_map_of_mem (f := g) hy
  obtain ⟨p1, p2, p3⟩ := foldl_minS (f a :: s.map f) (f a)
  obtain ⟨q1, q2, q3⟩ := foldl_minS (g a :: s.map g) (g a)
  obtain ⟨u1, u2, u3⟩ := foldl_maxS (f a :: s.map f) (f a)
  obtain ⟨v1, v2, v3⟩ := foldl_maxS (g a :: s.map g) (g a)
  refine ⟨?_, ?_⟩
  · obtain ⟨y, hy, e⟩ : ∃ y ∈ a :: s, g y = (g a :: s.map g).foldl min (g a) := by
      rcases q3 with q | q
      · exact ⟨a, by simp, q.symm⟩
      · exact m2 _ q
    have := p2 _ (i1 y hy)
    have := h y hy
    omega
  · obtain ⟨y, hy, e⟩ : ∃ y ∈ a :: s, f y = (f a :: s.map f).foldl max (f a) := by
      rcases u3 with u | u
      · exact ⟨a, by simp, u.symm⟩
      · exact m1 _ u
    have := v2 _ (i2 y hy)
    have := h y hy
    omega
theorem sorted_at {A : List Int} (h : A.Pairwise (fun a b => a < b)) {i j : Nat} (hij : i < j) (hj : j < A.length) : A.getD i 0 < A.getD j 0 := by
  have := List.pairwise_iff_getElem.1 h i j (by omega) hj hij
  simpa [List.getD, hj, show i < A.length by omega] using this
theorem mem_at {A : List Int} {x : Int} (h : x ∈ A) : ∃ k : Nat, k < A.length ∧ A.getD k 0 = x := by
  obtain ⟨k, hk, e⟩ := List.mem_iff_getElem.1 h
  exact ⟨k, hk, by simpa [List.getD, hk] using e⟩
theorem WIx.r0 {a b : List Int} {F : List D → Prop} (k : F (tD a)) : WIx (rows tD [a, b]) 0 F := by
  show WIx (rows tD [a, b]) ((0 : Nat) : Int) F
  exact WIx.at rfl k
theorem WIx.r1 {a b : List Int} {F : List D → Prop} (k : F (tD b)) : WIx (rows tD [a, b]) 1 F := by
  show WIx (rows tD [a, b]) ((1 : Nat) : Int) F
  exact WIx.at rfl k
def hiZ (last : Int) (hs : List Rg) (step : Int) (lv : List Int) (ms : List Mk) (which P Q : Int) : X := ⟨(.n (.n .e (some (.i .u16 which)) (.n (.n .e (some (.pt (.o .h) 0 0)) .e) none .e)) none .e), (.n (.n .e (some (tabC last hs step [P, Q] ms)) .e) (some (tabC last hs step lv ms)) .e), .i .h, none⟩
set_option maxHeartbeats 8000000 in
theorem c_TideHigher (last : Int) (hs : List Rg) (step : Int) (lv : List Int) (ms : List Mk) (which low more : Int) (h1 : 0 ≤ which ∧ which ≤ 65535) (h2 : 0 ≤ low ∧ low ≤ 255) (h3 : 0 ≤ more ∧ more ≤ 255) (AW : PureF Try.prog p21.ix [] (.b true)) : PureF Try.prog p12.ix [.ag [.i .i64 last, .lst 2 (rows rgD hs), .i .i64 step, .lst 1 (ints lv), .lst 4 (rows mkD ms)], .i .u16 which, .i .u8 low, .i .u8 more] (.b true) := by
  have m1 := Int.tmod_nonneg 100 h2.1
  have m2 := Int.tmod_lt_of_pos low (show (0 : Int) < 100 by omega)
  have m3 := Int.tmod_nonneg 7 h3.1
  have m4 := Int.tmod_lt_of_pos more (show (0 : Int) < 7 by omega)
  refine PureF.run fn11 (by simp) (by simp [PuL, PuE, Pu, pu_ints, pu_rg, pu_mk]) ?_; conv => whnf
  refine Rn.seq ?_; conv => whnf
  refine Rn.reg ?_; conv => whnf
  refine Rn.seqB ?_; conv => whnf
  repeat' first | ((with_reducible apply WB.tt); conv => whnf) | ((with_reducible apply WB.ff); conv => whnf) | (refine Rn.seq ?_; conv => whnf) | (refine Rn.reg ?_; conv => whnf) | (refine Rn.drw ?_; conv => whnf) | (refine Rn.blk ?_; conv => whnf) | (refine Rn.skip ?_; conv => whnf) | (refine Rn.ret ?_; conv => whnf) | (refine Rn.exit ?_; conv => whnf) | (refine Rn.cond rfl ?_; conv => whnf) | (refine And.intro (InR.i64 (by omega) (by omega)) ?_; conv => whnf) | (refine And.intro (show _ ≠ (0 : Int) by omega) ?_; conv => whnf) | (refine WIx.intsN (by omega) ?_; conv => whnf) | (refine WIx.rowsN (by omega) ?_; conv => whnf)
  refine ⟨rfl, hiZ last hs step lv ms which (low.tmod 100) (min 99 (low.tmod 100 + more.tmod 7)), (fun id => id.nat < 3), ?_, (fun id (h : id.nat < 2) => show id.nat < 3 by omega), (fun id h => h), (show 2 ≤ 3 by omega), ?_⟩
  · refine ShrB.of ?_ ?_ rfl rfl
    · show Rel _ _ ((.n (.n .e (some (.i .u16 which)) (.n (.n .e (some (.pt (.o .h) 0 0)) .e) none .e)) none .e) : T D) _
      (repeat' first | exact Rel.e | refine Rel.some ?_ ?_ ?_ | refine Rel.none ?_ ?_ | refine Rel.ee ?_ ?_)
      all_goals show Fz _ _ _ _
      all_goals first | exact .pu trivial | exact .kpt (show _ < 3 by simp [Pos.nat])
    · show Rel _ _ ((.n (.n .e (some (tabC last hs step [low.tmod 100, min 99 (low.tmod 100 + more.tmod 7)] ms)) .e) (some (tabC last hs step lv ms)) .e) : T C) _
      (repeat' first | exact Rel.e | refine Rel.some ?_ ?_ ?_ | refine Rel.none ?_ ?_ | refine Rel.ee ?_ ?_)
      · refine ⟨show _ < 3 by simp [Pos.nat], tab_sh ?_⟩
        exact Fz.grown (ds := []) (r := [.i .i64 (low.tmod 100), .i .i64 (min 99 (low.tmod 100 + more.tmod 7))]) (s1 := 0) (show ¬ 3 < 3 by omega) rfl rfl (Nat.le_refl _) rfl rfl (ints_one _) (pu_ints _)
      · exact ⟨show _ < 3 by simp [Pos.nat], tabC_sh last hs step lv ms⟩
  have hPQ : low.tmod 100 ≤ min 99 (low.tmod 100 + more.tmod 7) := by omega
  generalize low.tmod 100 = P at *
  generalize min 99 (P + more.tmod 7) = Q at *
  have iR := c_ready last hs step [P, Q] ms
  conv => whnf
  cases hR : readyB last hs step [P, Q] ms with
  | false =>
    rw [hR] at iR
    repeat' first | ((with_reducible apply WB.tt); conv => whnf) | ((with_reducible apply WB.ff); conv => whnf) | (refine Rn.seq ?_; conv => whnf) | (refine Rn.reg ?_; conv => whnf) | (refine Rn.drw ?_; conv => whnf) | (refine Rn.blk ?_; conv => whnf) | (refine Rn.skip ?_; conv => whnf) | (refine Rn.ret ?_; conv => whnf) | (refine Rn.exit ?_; conv => whnf) | (refine Rn.cond rfl ?_; conv => whnf) | (refine And.intro (InR.i64 (by omega) (by omega)) ?_; conv => whnf) | (refine And.intro (show _ ≠ (0 : Int) by omega) ?_; conv => whnf) | (refine WIx.intsN (by omega) ?_; conv => whnf) | (refine WIx.rowsN (by omega) ?_; conv => whnf) | (refine WCall.pure (iR) ?_; conv => whnf) | (refine WCall.pure (AW) ?_; conv => whnf) | ((with_reducible refine WB.decT (by first | with_reducible rfl | assumption | omega | exact ⟨rfl, rfl⟩) ?_); conv => whnf) | ((with_reducible refine WB.decF (by first | assumption | omega) ?_); conv => whnf) | ((with_reducible refine WB.ndT (by first | with_reducible rfl | assumption | omega | exact ⟨rfl, rfl⟩) ?_); conv => whnf) | ((with_reducible refine WB.ndF (by first | assumption | omega) ?_); conv => whnf) | ((with_reducible refine WB.nt ?_); conv => whnf) | ((with_reducible refine WB.nf ?_); conv => whnf) | ((with_reducible refine WB.dec (fun h => ?_) (fun h => ?_)) <;> conv => whnf) | ((with_reducible refine WB.ndec (fun h => ?_) (fun h => ?_)) <;> conv => whnf) | (refine WB.mk (fun h => ?_) (fun h => ?_) <;> conv => whnf) | (refine WB.tt ?_; conv => whnf) | (refine WB.ff ?_; conv => whnf)
    exact Fin.b rfl rfl
  | true =>
    rw [hR] at iR
    have hR' := hR
    unfold readyB at hR'
    rw [Bool.and_eq_true, decide_eq_true_iff] at hR'
    obtain ⟨hT, hf⟩ := hR'
    obtain ⟨V, hm, hA⟩ := fault_zero hf
    have h5 := V.ms5
    have h10 := V.h10
    have hpos := V.h1
    have hn := V.n
    have iT0 := c_Table last hs step [P, Q] ms (by omega) (by simp) (by omega)
    have hTl : (truthS hs step ms).length ≤ 1000 := Nat.le_trans (List.length_filter_le _ _) (Nat.le_trans (thin_exS hT hf) (by omega))
    have iL := c_Lists last hs step [P, Q] ms V.hv (by omega)
    have e1 := rows_length tD (listsR hs step)
    have hLp : 0 < (listsR hs step).length := by
      obtain ⟨t, ht, hq⟩ := List.any_eq_true.1 hA
      exact List.length_pos_of_mem (List.mem_filter.2 ⟨ht, hq⟩)
    have hL3 := lists_len V.hv step
    have m5 := Int.tmod_nonneg ((rows tD (listsR hs step)).length : Int) h1.1
    have m6 := Int.tmod_lt_of_pos which (show (0 : Int) < ((rows tD (listsR hs step)).length : Int) by omega)
    obtain ⟨z, hz⟩ := Int.eq_ofNat_of_zero_le m5
    have hzl : z < (listsR hs step).length := by omega
    have htm := getD_mem (d := default) hzl
    have hlisted := (mem_listsR V.hv hm).1 htm
    have htl := listed_lenZ hlisted
    have iC := c_list ((listsR hs step).getD z default) (by omega)
    have hH : Hts ((listsR hs step).getD z default) := by
      have h9 := hlisted
      unfold listedR at h9
      rw [Bool.and_eq_true, htl, Nat.min_self, ← htl] at h9
      exact listed_hts V.hv htl h9.1
    have iP := c_Play last hs step [P, Q] ms ((listsR hs step).getD z default) fun i => by
      have := hH.at i
      exact wf_small (by omega) (by omega)
    have hpl : playR last hs step [P, Q] ms ((listsR hs step).getD z default) = (wetsR [P, Q] (wantS ((listsR hs step).getD z default)) last, 0) := by unfold playR; rw [if_pos hf, if_pos hlisted]
    rw [hpl] at iP
    have hs0 := wetR_sorted [P, Q] (wantS ((listsR hs step).getD z default)) 0 last
    have hs1 := wetR_sorted [P, Q] (wantS ((listsR hs step).getD z default)) 1 last
    have hsub : ∀ x, x ∈ wetR [P, Q] (wantS ((listsR hs step).getD z default)) 1 last → x ∈ wetR [P, Q] (wantS ((listsR hs step).getD z default)) 0 last := fun x hx => by
      rw [wetR_mem] at hx ⊢
      have h7 : Q < wantS ((listsR hs step).getD z default) x.toNat := hx.2
      exact ⟨hx.1, show P < wantS ((listsR hs step).getD z default) x.toNat by omega⟩
    have hb0 := wetR_len [P, Q] (wantS ((listsR hs step).getD z default)) 0 last (by omega)
    have hb1 := wetR_len [P, Q] (wantS ((listsR hs step).getD z default)) 1 last (by omega)
    have iP : PureF Try.prog p22.ix [.ag [.i .i64 last, .lst 2 (rows rgD hs), .i .i64 step, .lst 1 (ints [P, Q]), .lst 4 (rows mkD ms)], .lst 1 (ints ((listsR hs step).getD z default))] (.tp [.lst 1 (rows tD [wetR [P, Q] (wantS ((listsR hs step).getD z default)) 0 last, wetR [P, Q] (wantS ((listsR hs step).getD z default)) 1 last]), .i .i64 0]) := iP
    have iR0 := c_Reach last hs step [P, Q] ms 0 (by simp) fun _ => hTl
    have iR1 := c_Reach last hs step [P, Q] ms 1 (by simp) fun _ => hTl
    have hE0 : reachE last hs step [P, Q] ms 0 = if truthS hs step ms = [] then 11 else 0 := by
      unfold reachE startE
      rw [if_pos hf]
      rfl
    have hE1 : reachE last hs step [P, Q] ms 1 = if truthS hs step ms = [] then 11 else 0 := by
      unfold reachE startE
      rw [if_pos hf]
      rfl
    have hmono : (reachR last hs step [P, Q] ms 0).1 ≤ (reachR last hs step [P, Q] ms 1).1 ∧ (reachR last hs step [P, Q] ms 0).2 ≤ (reachR last hs step [P, Q] ms 1).2 := by
      by_cases hne : truthS hs step ms = []
      · rw [if_pos hne] at hE0 hE1
        unfold reachR
        rw [hE0, hE1]
        exact ⟨Int.le_refl _, Int.le_refl _⟩
      · rw [if_neg hne] at hE0 hE1
        unfold reachR
        rw [if_pos hE0, if_pos hE1]
        exact bd_mono (List.length_pos_iff.2 hne) fun c _ => first_mono (show P ≤ Q from hPQ)
    obtain ⟨hm1, hm2⟩ := hmono
    have hE : ∃ e : Int, (e = 0 ∨ e = 11) ∧ reachE last hs step [P, Q] ms 0 = e ∧ reachE last hs step [P, Q] ms 1 = e := by
      refine ⟨_, ?_, rfl, hE1.trans hE0.symm⟩
      rw [hE0]
      by_cases hne : truthS hs step ms = []
      · rw [if_pos hne]; exact .inr rfl
      · rw [if_neg hne]; exact .inl rfl
    obtain ⟨e, he, he0, he1⟩ := hE
    rw [he0] at iR0
    rw [he1] at iR1
    clear hE0 hE1 he0 he1 hpl
    generalize wetR [P, Q] (wantS ((listsR hs step).getD z default)) 0 last = A0 at *
    generalize wetR [P, Q] (wantS ((listsR hs step).getD z default)) 1 last = A1 at *
    generalize reachR last hs step [P, Q] ms 0 = r0 at *
    generalize reachR last hs step [P, Q] ms 1 = r1 at *
    repeat' first | ((with_reducible apply WB.tt); conv => whnf) | ((with_reducible apply WB.ff); conv => whnf) | (refine Rn.seq ?_; conv => whnf) | (refine Rn.reg ?_; conv => whnf) | (refine Rn.drw ?_; conv => whnf) | (refine Rn.blk ?_; conv => whnf) | (refine Rn.skip ?_; conv => whnf) | (refine Rn.ret ?_; conv => whnf) | (refine Rn.exit ?_; conv => whnf) | (refine Rn.cond rfl ?_; conv => whnf) | (refine And.intro (InR.i64 (by omega) (by omega)) ?_; conv => whnf) | (refine And.intro (show _ ≠ (0 : Int) by omega) ?_; conv => whnf) | (refine WIx.intsN (by omega) ?_; conv => whnf) | (refine WIx.rowsN (by omega) ?_; conv => whnf) | (refine WCall.pure (iR) ?_; conv => whnf) | (refine WCall.pure (iL) ?_; conv => whnf) | (refine WCall.pure (iT0) ?_; conv => whnf) | ((with_reducible refine WB.decT (by first | with_reducible rfl | assumption | omega | exact ⟨rfl, rfl⟩) ?_); conv => whnf) | ((with_reducible refine WB.decF (by first | assumption | omega) ?_); conv => whnf) | ((with_reducible refine WB.ndT (by first | with_reducible rfl | assumption | omega | exact ⟨rfl, rfl⟩) ?_); conv => whnf) | ((with_reducible refine WB.ndF (by first | assumption | omega) ?_); conv => whnf) | ((with_reducible refine WB.nt ?_); conv => whnf) | ((with_reducible refine WB.nf ?_); conv => whnf) | ((with_reducible refine WB.dec (fun h => ?_) (fun h => ?_)) <;> conv => whnf) | ((with_reducible refine WB.ndec (fun h => ?_) (fun h => ?_)) <;> conv => whnf) | (refine WB.mk (fun h => ?_) (fun h => ?_) <;> conv => whnf) | (refine WB.tt ?_; conv => whnf) | (refine WB.ff ?_; conv => whnf)
    rw [hz]
    have er : (rows tD [A0, A1]).length = 2 := rfl
    rcases he with rfl | rfl
    all_goals
      repeat' first | ((with_reducible apply WB.tt); conv => whnf) | ((with_reducible apply WB.ff); conv => whnf) | (refine Rn.seq ?_; conv => whnf) | (refine Rn.reg ?_; conv => whnf) | (refine Rn.drw ?_; conv => whnf) | (refine Rn.blk ?_; conv => whnf) | (refine Rn.skip ?_; conv => whnf) | (refine Rn.ret ?_; conv => whnf) | (refine Rn.exit ?_; conv => whnf) | (refine Rn.cond rfl ?_; conv => whnf) | (refine And.intro (InR.i64 (by omega) (by omega)) ?_; conv => whnf) | (refine And.intro (show _ ≠ (0 : Int) by omega) ?_; conv => whnf) | (refine WIx.intsN (by omega) ?_; conv => whnf) | (refine WIx.rowsN (by omega) ?_; conv => whnf) | (refine WCall.pure (iR) ?_; conv => whnf) | (refine WCall.pure (iL) ?_; conv => whnf) | (refine WCall.pure (iT0) ?_; conv => whnf) | (refine WCall.pure (iC) ?_; conv => whnf) | (refine WCall.pure (iP) ?_; conv => whnf) | (refine WCall.pure (iR0) ?_; conv => whnf) | (refine WCall.pure (iR1) ?_; conv => whnf) | ((with_reducible refine WB.decT (by first | with_reducible rfl | assumption | omega | exact ⟨rfl, rfl⟩) ?_); conv => whnf) | ((with_reducible refine WB.decF (by first | assumption | omega) ?_); conv => whnf) | ((with_reducible refine WB.ndT (by first | with_reducible rfl | assumption | omega | exact ⟨rfl, rfl⟩) ?_); conv => whnf) | ((with_reducible refine WB.ndF (by first | assumption | omega) ?_); conv => whnf) | ((with_reducible refine WB.nt ?_); conv => whnf) | ((with_reducible refine WB.nf ?_); conv => whnf) | ((with_reducible refine WB.dec (fun h => ?_) (fun h => ?_)) <;> conv => whnf) | ((with_reducible refine WB.ndec (fun h => ?_) (fun h => ?_)) <;> conv => whnf) | (refine WB.mk (fun h => ?_) (fun h => ?_) <;> conv => whnf) | (refine WB.tt ?_; conv => whnf) | (refine WB.ff ?_; conv => whnf)
      all_goals first | (exfalso; omega) | exact absurd h (by decide) | skip
      refine Rn.loop (fun s : Nat × Nat => match s with | (i, at') => ⟨(.n (.n (.n .e none (.n .e (some (.lst 1 (rows tD [A0, A1]))) .e)) none (.n (.n (.n .e (some (.i .i64 (at' : Int))) .e) none .e) none .e)) none (.n .e none (.n (.n (.n .e (some (.i .i64 (i : Int))) .e) none .e) none .e))), .e, .i (.o .h), none⟩) (fun s => s.1 ≤ A1.length ∧ s.2 ≤ A0.length ∧ ∀ i', s.1 ≤ i' → i' < A1.length → ∃ k, s.2 ≤ k ∧ k < A0.length ∧ A0.getD k 0 = A1.getD i' 0) (fun s => A1.length - s.1) (0, 0) ?_ ?_ ?_
      · refine X.le.mk ?_ ?_ (Nat.le_refl _) rfl rfl
        · show T.le ((.n (.n (.n .e none (.n .e (some (.lst 1 (rows tD [A0, A1]))) .e)) none (.n (.n (.n .e (some (.i .i64 ((0 : Nat) : Int))) .e) none .e) none .e)) none (.n .e none (.n (.n (.n .e (some (.i .i64 ((0 : Nat) : Int))) .e) none .e) none .e))) : T D) _
          (repeat' first | exact T.le_e _ | refine T.le_some ?_ rfl ?_ | refine T.le_none ?_ ?_)
        · exact T.le_e _
      · exact ⟨Nat.zero_le _, Nat.zero_le _, fun i' _ hi => by
          obtain ⟨k, hk, e⟩ := mem_at (hsub _ (getD_mem (d := 0) hi))
          exact ⟨k, Nat.zero_le _, hk, e⟩⟩
      rintro ⟨i, a⟩ ⟨hi, ha, hall⟩
      have hi : i ≤ A1.length := hi
      have ha : a ≤ A0.length := ha
      have hall : ∀ i', i ≤ i' → i' < A1.length → ∃ k, a ≤ k ∧ k < A0.length ∧ A0.getD k 0 = A1.getD i' 0 := hall
      have el0 := ints_length A0
      have el1 := ints_length A1
      conv => whnf
      repeat' first | ((with_reducible apply WB.tt); conv => whnf) | ((with_reducible apply WB.ff); conv => whnf) | (refine Rn.seq ?_; conv => whnf) | (refine Rn.reg ?_; conv => whnf) | (refine Rn.drw ?_; conv => whnf) | (refine Rn.blk ?_; conv => whnf) | (refine Rn.skip ?_; conv => whnf) | (refine Rn.ret ?_; conv => whnf) | (refine Rn.exit ?_; conv => whnf) | (refine Rn.cond rfl ?_; conv => whnf) | (refine And.intro (InR.i64 (by omega) (by omega)) ?_; conv => whnf) | (refine And.intro (show _ ≠ (0 : Int) by omega) ?_; conv => whnf) | (refine WIx.intsN (by omega) ?_; conv => whnf) | (refine WIx.rowsN (by omega) ?_; conv => whnf) | (refine WIx.r1 ?_; conv => whnf) | (refine WIx.r0 ?_; conv => whnf)
      refine WB.dec (fun h => ?_) (fun h => ?_) <;> conv => whnf
      · have hlt : i < A1.length := by omega
        have hnow := hall i (Nat.le_refl _) hlt
        repeat' first | ((with_reducible apply WB.tt); conv => whnf) | ((with_reducible apply WB.ff); conv => whnf) | (refine Rn.seq ?_; conv => whnf) | (refine Rn.reg ?_; conv => whnf) | (refine Rn.drw ?_; conv => whnf) | (refine Rn.blk ?_; conv => whnf) | (refine Rn.skip ?_; conv => whnf) | (refine Rn.ret ?_; conv => whnf) | (refine Rn.exit ?_; conv => whnf) | (refine Rn.cond rfl ?_; conv => whnf) | (refine And.intro (InR.i64 (by omega) (by omega)) ?_; conv => whnf) | (refine And.intro (show _ ≠ (0 : Int) by omega) ?_; conv => whnf) | (refine WIx.intsN (by omega) ?_; conv => whnf) | (refine WIx.rowsN (by omega) ?_; conv => whnf) | (refine WIx.r1 ?_; conv => whnf) | (refine WIx.r0 ?_; conv => whnf)
        refine Rn.loop (fun b : Nat => ⟨(.n (.n (.n .e none (.n .e (some (.lst 1 (rows tD [A0, A1]))) .e)) none (.n (.n (.n .e (some (.i .i64 (b : Int))) .e) none .e) none .e)) none (.n .e none (.n (.n (.n .e (some (.i .i64 (i : Int))) .e) none .e) none .e))), .e, .i (.o .h), none⟩) (fun b => b ≤ A0.length ∧ ∃ k, b ≤ k ∧ k < A0.length ∧ A0.getD k 0 = A1.getD i 0) (fun b => A0.length - b) a ?_ ?_ ?_
        · refine X.le.mk ?_ ?_ (Nat.le_refl _) rfl rfl
          · show T.le ((.n (.n (.n .e none (.n .e (some (.lst 1 (rows tD [A0, A1]))) .e)) none (.n (.n (.n .e (some (.i .i64 (a : Int))) .e) none .e) none .e)) none (.n .e none (.n (.n (.n .e (some (.i .i64 (i : Int))) .e) none .e) none .e))) : T D) _
            (repeat' first | exact T.le_e _ | refine T.le_some ?_ rfl ?_ | refine T.le_none ?_ ?_)
          · exact T.le_e _
        · exact ⟨ha, hnow⟩
        rintro b ⟨hb, k, hbk, hk, hek⟩
        have hb : b ≤ A0.length := hb
        have hblt : b < A0.length := by omega
        conv => whnf
        repeat' first | ((with_reducible apply WB.tt); conv => whnf) | ((with_reducible apply WB.ff); conv => whnf) | (refine Rn.seq ?_; conv => whnf) | (refine Rn.reg ?_; conv => whnf) | (refine Rn.drw ?_; conv => whnf) | (refine Rn.blk ?_; conv => whnf) | (refine Rn.skip ?_; conv => whnf) | (refine Rn.ret ?_; conv => whnf) | (refine Rn.exit ?_; conv => whnf) | (refine Rn.cond rfl ?_; conv => whnf) | (refine And.intro (InR.i64 (by omega) (by omega)) ?_; conv => whnf) | (refine And.intro (show _ ≠ (0 : Int) by omega) ?_; conv => whnf) | (refine WIx.intsN (by omega) ?_; conv => whnf) | (refine WIx.rowsN (by omega) ?_; conv => whnf) | (refine WIx.r1 ?_; conv => whnf) | (refine WIx.r0 ?_; conv => whnf)
        refine WB.decT (by omega) ?_; conv => whnf
        repeat' first | ((with_reducible apply WB.tt); conv => whnf) | ((with_reducible apply WB.ff); conv => whnf) | (refine Rn.seq ?_; conv => whnf) | (refine Rn.reg ?_; conv => whnf) | (refine Rn.drw ?_; conv => whnf) | (refine Rn.blk ?_; conv => whnf) | (refine Rn.skip ?_; conv => whnf) | (refine Rn.ret ?_; conv => whnf) | (refine Rn.exit ?_; conv => whnf) | (refine Rn.cond rfl ?_; conv => whnf) | (refine And.intro (InR.i64 (by omega) (by omega)) ?_; conv => whnf) | (refine And.intro (show _ ≠ (0 : Int) by omega) ?_; conv => whnf) | (refine WIx.intsN (by omega) ?_; conv => whnf) | (refine WIx.rowsN (by omega) ?_; conv => whnf) | (refine WIx.r1 ?_; conv => whnf) | (refine WIx.r0 ?_; conv => whnf)
        by_cases hbe : A0.getD b 0 = A1.getD i 0
        · have hall2 : ∀ i', i + 1 ≤ i' → i' < A1.length → ∃ k, b ≤ k ∧ k < A0.length ∧ A0.getD k 0 = A1.getD i' 0 := fun i' h1 h2 => by
            obtain ⟨k', hk', e'⟩ := mem_at (hsub _ (getD_mem (d := 0) h2))
            have hlt1 := sorted_at hs1 (show i < i' by omega) h2
            refine ⟨k', ?_, hk', e'⟩
            by_cases hx : b ≤ k'
            · exact hx
            · have := sorted_at hs0 (show k' < b by omega) hblt
              omega
          refine WB.ndT hbe ?_; conv => whnf
          repeat' first | ((with_reducible apply WB.tt); conv => whnf) | ((with_reducible apply WB.ff); conv => whnf) | (refine Rn.seq ?_; conv => whnf) | (refine Rn.reg ?_; conv => whnf) | (refine Rn.drw ?_; conv => whnf) | (refine Rn.blk ?_; conv => whnf) | (refine Rn.skip ?_; conv => whnf) | (refine Rn.ret ?_; conv => whnf) | (refine Rn.exit ?_; conv => whnf) | (refine Rn.cond rfl ?_; conv => whnf) | (refine And.intro (InR.i64 (by omega) (by omega)) ?_; conv => whnf) | (refine And.intro (show _ ≠ (0 : Int) by omega) ?_; conv => whnf) | (refine WIx.intsN (by omega) ?_; conv => whnf) | (refine WIx.rowsN (by omega) ?_; conv => whnf) | (refine WIx.r1 ?_; conv => whnf) | (refine WIx.r0 ?_; conv => whnf)
          refine WB.decF (by omega) ?_; conv => whnf
          repeat' first | ((with_reducible apply WB.tt); conv => whnf) | ((with_reducible apply WB.ff); conv => whnf) | (refine Rn.seq ?_; conv => whnf) | (refine Rn.reg ?_; conv => whnf) | (refine Rn.drw ?_; conv => whnf) | (refine Rn.blk ?_; conv => whnf) | (refine Rn.skip ?_; conv => whnf) | (refine Rn.ret ?_; conv => whnf) | (refine Rn.exit ?_; conv => whnf) | (refine Rn.cond rfl ?_; conv => whnf) | (refine And.intro (InR.i64 (by omega) (by omega)) ?_; conv => whnf) | (refine And.intro (show _ ≠ (0 : Int) by omega) ?_; conv => whnf) | (refine WIx.intsN (by omega) ?_; conv => whnf) | (refine WIx.rowsN (by omega) ?_; conv => whnf) | (refine WIx.r1 ?_; conv => whnf) | (refine WIx.r0 ?_; conv => whnf)
          refine Again.to (i + 1, b) (by dsimp only; omega) ⟨by dsimp only; omega, hb, hall2⟩ (Nat.le_refl _) ?_
          refine Shr.of ?_ ?_ rfl rfl
          · show Rel _ _ ((.n (.n (.n .e none (.n .e (some (.lst 1 (rows tD [A0, A1]))) .e)) none (.n (.n (.n .e (some (.i .i64 (b : Int))) .e) none .e) none .e)) none (.n .e none (.n (.n (.n .e (some (.i .i64 ((i + 1 : Nat) : Int))) .e) none .e) none .e))) : T D) _
            (repeat' first | exact Rel.e | refine Rel.some ?_ ?_ ?_ | refine Rel.none ?_ ?_ | refine Rel.ee ?_ ?_)
            all_goals show Fz _ _ _ _
            all_goals first | exact .pu trivial | exact .pu (pu_tR _) | (refine Fz.i ?_; omega)
          · exact Rel.e
        · have hkb : b < k := by
            rcases Nat.lt_or_ge b k with h | h
            · exact h
            · exact absurd (show A0.getD b 0 = A1.getD i 0 by rw [show b = k by omega]; exact hek) hbe
          refine WB.ndF hbe ?_; conv => whnf
          repeat' first | ((with_reducible apply WB.tt); conv => whnf) | ((with_reducible apply WB.ff); conv => whnf) | (refine Rn.seq ?_; conv => whnf) | (refine Rn.reg ?_; conv => whnf) | (refine Rn.drw ?_; conv => whnf) | (refine Rn.blk ?_; conv => whnf) | (refine Rn.skip ?_; conv => whnf) | (refine Rn.ret ?_; conv => whnf) | (refine Rn.exit ?_; conv => whnf) | (refine Rn.cond rfl ?_; conv => whnf) | (refine And.intro (InR.i64 (by omega) (by omega)) ?_; conv => whnf) | (refine And.intro (show _ ≠ (0 : Int) by omega) ?_; conv => whnf) | (refine WIx.intsN (by omega) ?_; conv => whnf) | (refine WIx.rowsN (by omega) ?_; conv => whnf) | (refine WIx.r1 ?_; conv => whnf) | (refine WIx.r0 ?_; conv => whnf)
          refine Again.to (b + 1) (by omega) ⟨by omega, k, by omega, hk, hek⟩ (Nat.le_refl _) ?_
          refine Shr.of ?_ ?_ rfl rfl
          · show Rel _ _ ((.n (.n (.n .e none (.n .e (some (.lst 1 (rows tD [A0, A1]))) .e)) none (.n (.n (.n .e (some (.i .i64 ((b + 1 : Nat) : Int))) .e) none .e) none .e)) none (.n .e none (.n (.n (.n .e (some (.i .i64 (i : Int))) .e) none .e) none .e))) : T D) _
            (repeat' first | exact Rel.e | refine Rel.some ?_ ?_ ?_ | refine Rel.none ?_ ?_ | refine Rel.ee ?_ ?_)
            all_goals show Fz _ _ _ _
            all_goals first | exact .pu trivial | exact .pu (pu_tR _) | (refine Fz.i ?_; omega)
          · exact Rel.e
      · repeat' first | ((with_reducible apply WB.tt); conv => whnf) | ((with_reducible apply WB.ff); conv => whnf) | (refine Rn.seq ?_; conv => whnf) | (refine Rn.reg ?_; conv => whnf) | (refine Rn.drw ?_; conv => whnf) | (refine Rn.blk ?_; conv => whnf) | (refine Rn.skip ?_; conv => whnf) | (refine Rn.ret ?_; conv => whnf) | (refine Rn.exit ?_; conv => whnf) | (refine Rn.cond rfl ?_; conv => whnf) | (refine And.intro (InR.i64 (by omega) (by omega)) ?_; conv => whnf) | (refine And.intro (show _ ≠ (0 : Int) by omega) ?_; conv => whnf) | (refine WIx.intsN (by omega) ?_; conv => whnf) | (refine WIx.rowsN (by omega) ?_; conv => whnf) | (refine WCall.pure (AW) ?_; conv => whnf) | ((with_reducible refine WB.decT (by first | with_reducible rfl | assumption | omega | exact ⟨rfl, rfl⟩) ?_); conv => whnf) | ((with_reducible refine WB.decF (by first | assumption | omega) ?_); conv => whnf) | ((with_reducible refine WB.ndT (by first | with_reducible rfl | assumption | omega | exact ⟨rfl, rfl⟩) ?_); conv => whnf) | ((with_reducible refine WB.ndF (by first | assumption | omega) ?_); conv => whnf) | ((with_reducible refine WB.nt ?_); conv => whnf) | ((with_reducible refine WB.nf ?_); conv => whnf) | ((with_reducible refine WB.dec (fun h => ?_) (fun h => ?_)) <;> conv => whnf) | ((with_reducible refine WB.ndec (fun h => ?_) (fun h => ?_)) <;> conv => whnf) | (refine WB.mk (fun h => ?_) (fun h => ?_) <;> conv => whnf) | (refine WB.tt ?_; conv => whnf) | (refine WB.ff ?_; conv => whnf)
        exact Fin.b rfl rfl
theorem main_tideHigher (AW : PureF Try.prog p21.ix [] (.b true)) {es : List D} (fit : FitP [(true, [.i .i64, .sl [.i .i64, .i .i64], .i .i64, .sl [.i .i64], .sl [.i .i64, .i .i64, .i .i64, .i .i64]]), (false, [.i .u16]), (false, [.i .u8]), (false, [.i .u8])] es) : PureF Try.prog 11 es (.b true) := by
  obtain ⟨last, hs, step, lv, ms, _, rfl, g1⟩ := fit.tab
  obtain ⟨f, _, rfl, w1, g2⟩ := g1.i
  obtain ⟨t, _, rfl, w2, g3⟩ := g2.i
  obtain ⟨u, _, rfl, w3, g4⟩ := g3.i
  obtain rfl := g4.no
  exact c_TideHigher last hs step lv ms f t u (wf_u16 w1) (wf_u8 w2) (wf_u8 w3) AW
end Go.Ev

namespace Go.Proofs.Ytpemagogcagipaa.tideHigher
open Go.ChangeShapes Go.WideShapes Go.ChangeAt Go.RowKit
open Go.ChangeMaps (open_string shut_string)
set_option linter.unusedVariables false

theorem laid : laidOutB Try.prog = true := by kernel_rfl
theorem own : ownKnob Try.prog.godebug = none := by kernel_rfl

/-! ### the walk -/
theorem walk {es : List Go.Ev.D} (fit : Go.Ev.FitP [(true, [.i .i64, .sl [.i .i64, .i .i64], .i .i64, .sl [.i .i64], .sl [.i .i64, .i .i64, .i .i64, .i .i64]]), (false, [.i .u16]), (false, [.i .u8]), (false, [.i .u8])] es) {args : Array Value} {W : World} (ha : Go.Ev.DVL (Go.Ev.γH W) W es args.toList) :
    Calls Try.prog 11 args W fun e w' => e = .returned (.bool true) ∧ Grown W w' ∧ Below W.heap.size W w' :=
  Go.Ev.PureF.calls (Go.Ev.main_tideHigher (fun ob nx lg => Go.Ev.closed_call Go.Ev.fp_ok Go.Ev.aw ob nx lg) fit) ha

set_option maxRecDepth 100000 in
theorem lifted (os : Os) (started : os.Started) (H : Type) (enc : TypeId × Value → H) :
    ReturnsInHanded {} Try.checked os 11 .any (Rows.tideHigherSpec.pre6 enc Try.prog Try.f11 Rows.tideHigherRow.domain false) (Rows.tideHigherSpec.post enc Try.prog Try.f11 false true false false) := by
  refine returnsInHanded_of_change (C := Try.checked) own started (by kernel_rfl) Try.func11
    (ChangeSpec.witness6 (enc := enc) (C := Try.checked) false ⟨#[], #[.agg #[.int .i64 0, .slice none 0 0, .int .i64 0, .slice none 0 0, .slice none 0 0], .int .u16 0, .int .u8 0, .int .u8 0], []⟩ 8 (by kernel_rfl) (by kernel_rfl) (by kernel_rfl) (by kernel_rfl)) ?_
  intro W base args ds gs before hval0 hW hcnd _
  have hval : ∀ (j : Nat) t v, Try.f11.params[j]? = some t → args[j]? = some v → Value.okWide Try.prog W .any base t v := hval0
  have hW' := hW
  obtain ⟨p, q, hA0, hV, rfl, hfz, hnd⟩ := hW
  have hA : DataW.TrodAll enc Try.prog W 0 (fun _ => true) true Try.f11.params.toList args.toList ds p := hA0
  rw [Try.params11] at hA hval
  obtain ⟨rfl, rfl⟩ := trodVars_none hV
  obtain ⟨d0, d1, d2, d3, rfl⟩ := Go.Ev.len4 (Go.Ev.trod_len hA)
  clear hA0 hval0
  simp only [List.append_nil] at hW'
  obtain ⟨es, fit, dv⟩ := Go.Ev.open_all (n := 6) (pars := [(true, [.i .i64, .sl [.i .i64, .i .i64], .i .i64, .sl [.i .i64], .sl [.i .i64, .i .i64, .i .i64, .i .i64]]), (false, [.i .u16]), (false, [.i .u8]), (false, [.i .u8])]) (by kernel_rfl) hA (fun j t v h1 h2 => hval j t v (by simpa using h1) (by simpa using h2))
  have hlt : ∀ x ∈ p, x.block < W.heap.size := fun x hx => by simpa using hW'.lt x hx
  refine (walk fit dv).mono fun e W' ⟨he, hg, hb⟩ => ?_
  subst he
  exact ⟨_, rfl, post_of_same (pa := p) (pv := []) hW' (fun _ _ _ => (trodAll_cons_mk (shut_bool Try.underlying4 _) trodAll_mk0))
    (fun sp hs => Go.Ev.stays_all laid (Go.Ev.of_allT (by kernel_rfl)) hA (fun x hx => hb.same (hlt x hx)) (fun x hx => hs x hx))
    (fun _ _ => rfl) (List.append_nil _).symm
    (hg.frame _) hg.2.1 (ok_one (by kernel_rfl) rfl (okWide_bool_mk Try.underlying4 _))⟩

theorem over : Rows.tideHigherRow.holds Try.pinned (OpenSpec.ofChange Rows.tideHigherSpec) :=
  OpenClaim.holds_of_wide 11 Try.f11 rfl rfl rfl rfl rfl rfl rfl ⟨rfl, rfl, rfl, rfl, rfl⟩ rfl rfl rfl rfl rfl (by kernel_rfl) Try.func11 (by kernel_rfl)
    (of_decide_eq_true (by kernel_rfl)) (by unfold Func.isWrapper; first | (rw [if_pos (by decide +kernel)]; kernel_rfl) | (rw [if_neg (by decide +kernel)]; exact ⟨rfl, rfl⟩))
    (fun os started H enc _ => lifted os started H enc)

/-- ████ THE STATEMENT ████ -/
theorem proved : Rows.TideHigherSaid :=
  over
#print axioms proved
end Go.Proofs.Ytpemagogcagipaa.tideHigher
