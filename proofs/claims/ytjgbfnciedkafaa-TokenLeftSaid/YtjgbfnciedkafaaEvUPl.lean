import Derived.Test.YtjgbfnciedkafaaEvUTc
import Derived.ShutString
import Derived.WalkKit
import Derived.ProofKit
import Derived.Test.YtjgbfnciedkafaaEvUWp
import Derived.Test.YtjgbfnciedkafaaProg
set_option linter.all false
namespace Go.Ev
open Go.RowKit Go.ChangeShapes
def FitP : List (Bool × List CK) → List D → Prop
  | [], ds => ds = []
  | (true, r) :: ps, ds => ∃ es ds', ds = .ag es :: ds' ∧ FitL r es ∧ FitP ps ds'
  | (false, r) :: ps, ds => ∃ d ds', ds = d :: ds' ∧ FitL r [d] ∧ FitP ps ds'
def parT (P : Program) (n : Nat) (t : TypeId) : Option (Bool × List CK) := match P.underlying t with
  | some (.struct _) => match rowT P n t with
    | some r => some (true, r)
    | none => none
  | some (.slice _) => match rowT P n t with
    | some r => some (false, r)
    | none => none
  | some (.int _) => match rowT P n t with
    | some r => some (false, r)
    | none => none
  | some .bool => match rowT P n t with
    | some r => some (false, r)
    | none => none
  | _ => none
def parsT (P : Program) (n : Nat) : List TypeId → Option (List (Bool × List CK))
  | [] => some []
  | t :: ts => match parT P n t, parsT P n ts with
    | some p, some ps => some (p :: ps)
    | _, _ => none
section
variable {H : Type} {enc : TypeId × Value → H} {P : Program} {w : World} {r : Reach} {b0 : Nat} {spare : Nat → Bool} {held : Bool} {n : Nat}
theorem open_bool {t : TypeId} {v : Value} {d : DataW H} {ps : List MemPlace} (ht : P.underlying t = some .bool) (hv : Value.okWide P w r b0 t v) (h : DataW.Trod enc P w 0 spare held t v d ps) : ∃ b, v = .bool b := by
  simp only [Value.okWide, ht, Cell.okWide] at hv
  obtain ⟨m, h⟩ := h
  obtain ⟨b, hc, _⟩ := DataW.trod_bool ht h
  cases v <;> simp_all [Value.cells, Cell.ok]
theorem open_one {t : TypeId} {v : Value} {d : DataW H} {ps : List MemPlace} {par : Bool × List CK} (hp : parT P n t = some par) (hv : Value.okWide P w r b0 t v) (h : DataW.Trod enc P w 0 spare held t v d ps) :
    ∃ e : D, DV (γH w) w e v ∧ ∀ (qs : List (Bool × List CK)) (es : List D), FitP qs es → FitP (par :: qs) (e :: es) := by
  unfold parT at hp
  cases ht : P.underlying t with
  | none => rw [ht] at hp; cases hp
  | some u =>
    rw [ht] at hp
    cases hr : rowT P n t with
    | none => cases u <;> simp only [hr] at hp <;> cases hp
    | some row =>
      cases u <;> simp only [hr] at hp <;> first | cases hp; done | skip
      case bool =>
        cases hp
        obtain ⟨b, rfl⟩ := open_bool ht hv h
        have hrow : row = [.b] := by
          cases n with
          | zero => cases hr
          | succ n => simp only [rowT, ht, Option.some.injEq] at hr; exact hr.symm
        subst hrow
        exact ⟨.b b, DV_of_b _, fun qs es hq => by unfold FitP; exact ⟨_, _, rfl, by simp [FitL, FitC], hq⟩⟩
      case int k =>
        cases hp
        obtain ⟨m, rfl, hm⟩ := open_num ht hv h
        have hrow : row = [.i k] := by
          cases n with
          | zero => cases hr
          | succ n => simp only [rowT, ht, Option.some.injEq] at hr; exact hr.symm
        subst hrow
        exact ⟨.i k m, DV_of_i _ _, fun qs es hq => by unfold FitP; exact ⟨_, _, rfl, by simp [FitL, FitC, hm], hq⟩⟩
      case slice e =>
        cases hp
        obtain ⟨ds, h1, h2⟩ := open_list ht hv hr h
        cases ds with
        | nil => unfold DVL at h2; cases h2
        | cons d ds =>
          unfold DVL at h2
          obtain ⟨v', r', h3, h4, h5⟩ := h2
          cases h3
          cases ds with
          | nil => exact ⟨d, h4, fun qs es hq => by unfold FitP; exact ⟨_, _, rfl, h1, hq⟩⟩
          | cons d' ds =>
            unfold DVL at h5
            obtain ⟨_, _, h6, _⟩ := h5
            cases h6
      case struct fs =>
        cases hp
        obtain ⟨ds, h1, h2⟩ := open_struct ht hv hr h
        exact ⟨.ag ds, h2, fun qs es hq => by unfold FitP; exact ⟨_, _, rfl, h1, hq⟩⟩
theorem open_all : ∀ {ts : List TypeId} {vs : List Value} {ds : List (DataW H)} {ps : List MemPlace} {pars : List (Bool × List CK)}, parsT P n ts = some pars → DataW.TrodAll enc P w 0 spare held ts vs ds ps → (∀ (j : Nat) t v, ts[j]? = some t → vs[j]? = some v → Value.okWide P w r b0 t v) → ∃ es, FitP pars es ∧ DVL (γH w) w es vs
  | [], vs, ds, ps, pars, hp, h, hv => by
    obtain ⟨rfl, rfl, rfl⟩ := trodAll_nil h
    cases hp
    exact ⟨[], by simp [FitP], DVL.nil⟩
  | t :: ts, vs, ds, ps, pars, hp, h, hv => by
    obtain ⟨v, vs', d, ds', p, q, rfl, rfl, rfl, h1, h2⟩ := trodAll_cons h
    unfold parsT at hp
    cases ha : parT P n t with
    | none => rw [ha] at hp; cases hp
    | some a =>
      cases hb : parsT P n ts with
      | none => rw [ha, hb] at hp; cases hp
      | some b =>
        rw [ha, hb] at hp
        cases hp
        obtain ⟨e, k1, k2⟩ := open_one ha (hv 0 t v rfl rfl) h1
        obtain ⟨es, k3, k4⟩ := open_all hb h2 fun j t v x y => hv (j + 1) t v x y
        exact ⟨e :: es, k2 _ _ k3, DVL.cons k1 k4⟩
theorem stays_all (hl : laidOutB P = true) {W W' : World} {sp' : Nat → Bool} : ∀ {ts : List TypeId} {vs : List Value} {ds : List (DataW H)} {ps : List MemPlace}, (∀ t ∈ ts, P.readableRec t = true ∧ t < P.types.size) → DataW.TrodAll enc P W 0 (fun _ => true) true ts vs ds ps → (∀ p ∈ ps, W.sameAt W' p) → (∀ p ∈ ps, sp' p.block = true) → DataW.TrodAll enc P W' 0 sp' true ts vs ds ps
  | [], vs, ds, ps, _, h, _, _ => by
    obtain ⟨rfl, rfl, rfl⟩ := trodAll_nil h
    exact trodAll_mk0
  | t :: ts, vs, ds, ps, ht, h, h1, h2 => by
    obtain ⟨v, vs', d, ds', p, q, rfl, rfl, rfl, k1, k2⟩ := trodAll_cons h
    exact ⟨p, q, Go.WideElems.Trod_stays hl (ht t (by simp)).1 (ht t (by simp)).2 k1 (fun x hx => h1 x (List.mem_append_left _ hx)) (fun x hx => h2 x (List.mem_append_left _ hx)),
      stays_all hl (fun t h => ht t (by simp [h])) k2 (fun x hx => h1 x (List.mem_append_right _ hx)) (fun x hx => h2 x (List.mem_append_right _ hx)), rfl⟩
end
end Go.Ev
namespace Go.Ev
section
variable {ps : List (Bool × List CK)} {ds : List D}
theorem FitP.i {k : IntKind} (h : FitP ((false, [.i k]) :: ps) ds) : ∃ n ds', ds = .i k n :: ds' ∧ (Lit.int k n).wf = true ∧ FitP ps ds' := by
  unfold FitP at h
  obtain ⟨d, ds', rfl, h1, h2⟩ := h
  simp only [FitL, FitC] at h1
  obtain ⟨d, ds, e, ⟨n, rfl, hw⟩, rfl⟩ := h1
  cases e
  exact ⟨n, ds', rfl, hw, h2⟩
theorem FitP.b (h : FitP ((false, [.b]) :: ps) ds) : ∃ t ds', ds = .b t :: ds' ∧ FitP ps ds' := by
  unfold FitP at h
  obtain ⟨d, ds', rfl, h1, h2⟩ := h
  simp only [FitL, FitC] at h1
  obtain ⟨d, ds, e, ⟨n, rfl⟩, rfl⟩ := h1
  cases e
  exact ⟨n, ds', rfl, h2⟩
theorem FitP.list (h : FitP ((false, [.sl [.i .i64]]) :: ps) ds) : ∃ t ds', ds = .lst 1 (ints t) :: ds' ∧ (∀ n ∈ t, wfB .i64 n = true) ∧ FitP ps ds' := by
  unfold FitP at h
  obtain ⟨d, ds', rfl, h1, h2⟩ := h
  simp only [FitL, FitC] at h1
  obtain ⟨d, ds, e, ⟨es, rfl, h1⟩, rfl⟩ := h1
  cases e
  obtain ⟨l, rfl, hl⟩ := fit_ints fun x hx => by have := h1 x hx; simpa only [FitL, FitC] using this
  exact ⟨l, ds', rfl, hl, h2⟩
theorem FitP.no (h : FitP [] ds) : ds = [] := by unfold FitP at h; exact h
end
theorem wf_u8 {n : Int} (h : (Lit.int .u8 n).wf = true) : 0 ≤ n ∧ n ≤ 255 := by
  simp only [Lit.wf, Bool.and_eq_true, decide_eq_true_eq] at h
  exact ⟨h.1, h.2⟩
theorem len2 {α : Type} {l : List α} (h : l.length = 2) : ∃ a b, l = [a, b] := by
  match l, h with
  | [a, b], _ => exact ⟨a, b, rfl⟩
theorem trod_len {H : Type} {enc : TypeId × Value → H} {P : Program} {w : World} {base : Nat} {spare : Nat → Bool} {held : Bool} : ∀ {ts : List TypeId} {vs : List Value} {ds : List (DataW H)} {ps : List MemPlace}, DataW.TrodAll enc P w base spare held ts vs ds ps → ds.length = ts.length
  | [], vs, ds, ps, h => by obtain ⟨rfl, rfl, rfl⟩ := Go.ChangeShapes.trodAll_nil h; rfl
  | t :: ts, vs, ds, ps, h => by
    obtain ⟨v, vs', d, ds', p, q, rfl, rfl, rfl, h1, h2⟩ := Go.ChangeShapes.trodAll_cons h
    rw [List.length_cons, List.length_cons, trod_len h2]
end Go.Ev
namespace Go.Ev
def allT (P : Program) : List TypeId → Bool
  | [] => true
  | t :: ts => P.readableRec t && decide (t < P.types.size) && allT P ts
theorem of_allT {P : Program} : ∀ {ts : List TypeId}, allT P ts = true → ∀ t ∈ ts, P.readableRec t = true ∧ t < P.types.size
  | [], _, t, h => by cases h
  | a :: ts, h, t, ht => by
    unfold allT at h
    rw [Bool.and_eq_true, Bool.and_eq_true, decide_eq_true_iff] at h
    rcases List.mem_cons.1 ht with rfl | ht
    · exact h.1
    · exact of_allT h.2 t ht
end Go.Ev
namespace Go.Ev
open Go.Proofs
set_option maxRecDepth 1000000
def p1 : Pos := .h
def p2 : Pos := .o p1
def p3 : Pos := .i p1
def p4 : Pos := .o p2
def p5 : Pos := .i p2
def p6 : Pos := .o p3
def p7 : Pos := .i p3
def p8 : Pos := .o p4
def p9 : Pos := .i p4
def p10 : Pos := .o p5
def p11 : Pos := .i p5
def p12 : Pos := .o p6
def p13 : Pos := .i p6
def p14 : Pos := .o p7
def p15 : Pos := .i p7
def p16 : Pos := .o p8
def p17 : Pos := .i p8
def p18 : Pos := .o p9
def p19 : Pos := .i p9
def p20 : Pos := .o p10
def p21 : Pos := .i p10
def p22 : Pos := .o p11
def p23 : Pos := .i p11
def p24 : Pos := .o p12
def p25 : Pos := .i p12
def p26 : Pos := .o p13
def p27 : Pos := .i p13
def p28 : Pos := .o p14
def p29 : Pos := .i p14
def p30 : Pos := .o p15
def p31 : Pos := .i p15
def p32 : Pos := .o p16
def p33 : Pos := .i p16
def p34 : Pos := .o p17
def p35 : Pos := .i p17
def p36 : Pos := .o p18
def p37 : Pos := .i p18
def p38 : Pos := .o p19
def p39 : Pos := .i p19
def p40 : Pos := .o p20
def p41 : Pos := .i p20
def p42 : Pos := .o p21
def p43 : Pos := .i p21
def p44 : Pos := .o p22
def p45 : Pos := .i p22
def p46 : Pos := .o p23
def p47 : Pos := .i p23
def p48 : Pos := .o p24
def p49 : Pos := .i p24
def p50 : Pos := .o p25
def p51 : Pos := .i p25
def p52 : Pos := .o p26
def p53 : Pos := .i p26
def p54 : Pos := .o p27
def p55 : Pos := .i p27
def p56 : Pos := .o p28
def p57 : Pos := .i p28
def p58 : Pos := .o p29
def p59 : Pos := .i p29
def p60 : Pos := .o p30
def p61 : Pos := .i p30
def p62 : Pos := .o p31
def p63 : Pos := .i p31
def p64 : Pos := .o p32
def p65 : Pos := .i p32
def p66 : Pos := .o p33
def p67 : Pos := .i p33
def p68 : Pos := .o p34
def p69 : Pos := .i p34
def p70 : Pos := .o p35
def p71 : Pos := .i p35
def p72 : Pos := .o p36
def p73 : Pos := .i p36
def p74 : Pos := .o p37
def p75 : Pos := .i p37
def p76 : Pos := .o p38
def p77 : Pos := .i p38
def p78 : Pos := .o p39
def p79 : Pos := .i p39
def p80 : Pos := .o p40
def p81 : Pos := .i p40
def p82 : Pos := .o p41
def p83 : Pos := .i p41
def p84 : Pos := .o p42
def p85 : Pos := .i p42
def p86 : Pos := .o p43
def p87 : Pos := .i p43
def p88 : Pos := .o p44
def p89 : Pos := .i p44
def p90 : Pos := .o p45
def p91 : Pos := .i p45
def p92 : Pos := .o p46
def p93 : Pos := .i p46
def p94 : Pos := .o p47
def p95 : Pos := .i p47
def p96 : Pos := .o p48
def p97 : Pos := .i p48
def p98 : Pos := .o p49
def p99 : Pos := .i p49
def p100 : Pos := .o p50
def p101 : Pos := .i p50
def p102 : Pos := .o p51
def p103 : Pos := .i p51
def p104 : Pos := .o p52
def p105 : Pos := .i p52
def p106 : Pos := .o p53
def p107 : Pos := .i p53
def p108 : Pos := .o p54
def p109 : Pos := .i p54
def p110 : Pos := .o p55
def p111 : Pos := .i p55
def p112 : Pos := .o p56
def p113 : Pos := .i p56
def p114 : Pos := .o p57
def p115 : Pos := .i p57
def p116 : Pos := .o p58
def p117 : Pos := .i p58
def p135 : Pos := .i p67
noncomputable def rc20 : RC := (.seq (.reg [(.u (.box p2 (.t p1))), (.u (.mv p3 (.k (.b false))))]) (.seq (.reg [(.u (.fad p4 (.t p2) 3)), (.u (.ld1 p5 (.t p4))), (.u (.len p6 (.t p5))), (.u (.bin p7 .leq (.t p6) (.k (.i .i64 10)))), (.u (.mv p8 (.t p7))), (.g p8 true (some p9) (.fad p9 (.t p2) 4)), (.g p8 true (some p10) (.ld1 p10 (.t p9))), (.g p8 true (some p11) (.len p11 (.t p10))), (.g p8 true (some p12) (.bin p12 .leq (.t p11) (.k (.i .i64 6)))), (.u (.pick p13 (.t p8) (.t p12) (.k (.b false)))), (.u (.mv p14 (.t p13))), (.g p14 true (some p15) (.ldn p15 (.t p2) 5)), (.g p14 true (some p16) (.cf (some p16) p70 [(.t p15)])), (.g p14 true (some p17) (.bin p17 .neq (.t p16) (.k (.i .i64 0)))), (.g p14 true (some p18) (.mv p18 (.t p17))), (.g p18 false (some p19) (.ldn p19 (.t p2) 5)), (.g p18 false (some p20) (.cf (some p20) p63 [(.t p19)])), (.g p18 false (some p21) (.bin p21 .leq (.t p20) (.k (.i .i64 100)))), (.g p14 true (some p22) (.pick p22 (.t p18) (.k (.b true)) (.t p21))), (.u (.pick p23 (.t p14) (.t p22) (.k (.b false)))), (.u (.mv p3 (.t p23)))]) .ret))
def rs20 : List RR := [(.t p3)]
theorem fn20 : FnOk Try.prog p21.ix 23 rc20 rs20 := ⟨Try.f20, bodyC Try.f20, Try.func20, by kernel_rfl, by kernel_rfl, by kernel_rfl, by kernel_rfl, by kernel_rfl⟩
noncomputable def rc23 : RC := (.seq (.reg [(.u (.box p2 (.t p1))), (.u (.new p3 [(.i .i64 0), (.i .i64 0), (.i .i64 0), .ns, .ns]))]) (.seq (.drw [(.u (.fad p6 (.t p2) 0)), (.u (.ld1 p7 (.t p6))), (.u (.fad p8 (.t p2) 1)), (.u (.ld1 p9 (.t p8))), (.u (.fad p10 (.t p2) 2)), (.u (.ld1 p11 (.t p10))), (.u (.fad p12 (.t p2) 3)), (.u (.ld1 p13 (.t p12))), (.u (.cf (some p14) p25 [(.t p13)])), (.u (.bld p15 [(.i .i64 0), (.i .i64 0), (.i .i64 0), .ns, .ns] [(0, (1, (.t p7))), (1, (1, (.t p9))), (2, (1, (.t p11))), (3, (1, (.t p14)))])), (.u (.new p4 [(.i .i64 0), (.i .i64 0), (.i .i64 0), .ns, .ns])), (.u (.st (.t p4) (.t p15) 5))] [0, 1, 0, 4, 0, 16, 0, 64, 192, 511, 0, 2047]) (.seq (.seq (.reg [(.u (.mv p5 (.k (.i .i64 0))))]) (.blk 0 (.loop (.seq (.seq (.reg [(.u (.mv p16 (.t p5))), (.u (.fad p17 (.t p2) 4)), (.u (.ld1 p18 (.t p17))), (.u (.len p19 (.t p18))), (.u (.bin p20 .lss (.t p16) (.t p19)))]) (.cond (.t p20) .skip (.exit 0))) (.seq (.blk 1 (.drw [(.u (.fad p23 (.t p4) 4)), (.u (.ld1 p24 (.t p23))), (.u (.fad p25 (.t p2) 4)), (.u (.ld1 p26 (.t p25))), (.u (.mv p27 (.t p5))), (.u (.ixs p28 3 (.t p26) (.t p27))), (.u (.fad p29 (.t p28) 0)), (.u (.ld1 p30 (.t p29))), (.u (.fad p31 (.t p2) 4)), (.u (.ld1 p32 (.t p31))), (.u (.mv p33 (.t p5))), (.u (.ixs p34 3 (.t p32) (.t p33))), (.u (.fad p35 (.t p34) 1)), (.u (.ldn p36 (.t p35) 2)), (.u (.cf (some p37) p41 [(.t p36)])), (.u (.bld p38 [(.i .i64 0), (.i .i64 0), (.i .i64 0)] [(0, (1, (.t p30))), (1, (2, (.t p37)))])), (.u (.bsl p39 3 1 [(.i .i64 0), (.i .i64 0), (.i .i64 0)] [(0, (3, (.t p38)))])), (.u (.app p40 3 (.t p24) (.t p39))), (.u (.fad p41 (.t p4) 4)), (.u (.st (.t p41) (.t p40) 1))] [0, 1, 0, 4, 0, 28, 60, 124, 0, 256, 0, 1792, 3840, 7936, 16128, 32764, 65532, 131071, 262143, 524287])) (.reg [(.u (.mv p21 (.t p5))), (.u (.bin p22 .add (.t p21) (.k (.i .i64 1)))), (.u (.mv p5 (.t p22)))])))))) (.seq (.reg [(.u (.ldn p42 (.t p4) 5)), (.u (.st (.t p3) (.t p42) 5))]) .ret))))
def rs23 : List RR := [(.cn p3 5)]
theorem fn23 : FnOk Try.prog p24.ix 42 rc23 rs23 := ⟨Try.f23, bodyC Try.f23, Try.func23, by kernel_rfl, by kernel_rfl, by kernel_rfl, by kernel_rfl, by kernel_rfl⟩
noncomputable def rc24 : RC := (.seq (.reg [(.u (.mv p3 (.k .ns)))]) (.seq (.reg [(.u (.mv p4 (.k .ns)))]) (.seq (.seq (.reg [(.u (.mv p5 (.k (.i .i64 0))))]) (.blk 0 (.loop (.seq (.seq (.reg [(.u (.mv p6 (.t p5))), (.u (.mv p7 (.t p1))), (.u (.len p8 (.t p7))), (.u (.bin p9 .lss (.t p6) (.t p8)))]) (.cond (.t p9) .skip (.exit 0))) (.seq (.blk 1 (.drw [(.u (.mv p12 (.t p4))), (.u (.mv p13 (.t p1))), (.u (.mv p14 (.t p5))), (.u (.ixs p15 3 (.t p13) (.t p14))), (.u (.fad p16 (.t p15) 0)), (.u (.ld1 p17 (.t p16))), (.u (.mv p18 (.t p1))), (.u (.mv p19 (.t p5))), (.u (.ixs p20 3 (.t p18) (.t p19))), (.u (.fad p21 (.t p20) 1)), (.u (.ld1 p22 (.t p21))), (.u (.mv p23 (.t p1))), (.u (.mv p24 (.t p5))), (.u (.ixs p25 3 (.t p23) (.t p24))), (.u (.fad p26 (.t p25) 2)), (.u (.ld1 p27 (.t p26))), (.u (.bld p28 [(.i .i64 0), (.i .i64 0), (.i .i64 0)] [(0, (1, (.t p17))), (1, (1, (.t p22))), (2, (1, (.t p27)))])), (.u (.bsl p29 3 1 [(.i .i64 0), (.i .i64 0), (.i .i64 0)] [(0, (3, (.t p28)))])), (.u (.app p30 3 (.t p12) (.t p29))), (.u (.mv p4 (.t p30)))] [0, 0, 0, 6, 14, 30, 0, 0, 192, 448, 960, 0, 0, 6144, 14336, 30720, 65534, 131070, 262143, 524287])) (.reg [(.u (.mv p10 (.t p5))), (.u (.bin p11 .add (.t p10) (.k (.i .i64 1)))), (.u (.mv p5 (.t p11)))])))))) (.seq (.reg [(.u (.mv p31 (.t p4))), (.u (.mv p3 (.t p31)))]) .ret))))
def rs24 : List RR := [(.t p3)]
theorem fn24 : FnOk Try.prog p25.ix 31 rc24 rs24 := ⟨Try.f24, bodyC Try.f24, Try.func24, by kernel_rfl, by kernel_rfl, by kernel_rfl, by kernel_rfl, by kernel_rfl⟩
noncomputable def rc27 : RC := (.seq (.reg [(.u (.box p2 (.t p1))), (.u (.mv p3 (.k (.i .i64 0))))]) (.seq (.reg [(.u (.ldn p5 (.t p2) 5)), (.u (.cf (some p6) p75 [(.t p5)])), (.u (.new p4 [(.i .i64 0), (.i .i64 0), (.i .i64 0), .ns, .ns, .nm])), (.u (.st (.t p4) (.t p6) 6))]) (.seq (.blk 0 (.seq (.reg [(.u (.fad p8 (.t p2) 3)), (.u (.ld1 p9 (.t p8))), (.u (.len p10 (.t p9))), (.u (.bin p11 .gtr (.t p10) (.k (.i .i64 8)))), (.u (.mv p12 (.t p11))), (.g p12 false (some p13) (.fad p13 (.t p2) 4)), (.g p12 false (some p14) (.ld1 p14 (.t p13))), (.g p12 false (some p15) (.len p15 (.t p14))), (.g p12 false (some p16) (.bin p16 .gtr (.t p15) (.k (.i .i64 4)))), (.u (.pick p17 (.t p12) (.k (.b true)) (.t p16))), (.u (.mv p7 (.t p17)))]) (.cond (.t p7) (.seq (.reg [(.u (.mv p3 (.k (.i .i64 3))))]) .ret) (.seq (.reg [(.u (.ldn p19 (.t p4) 6)), (.u (.cf (some p20) p81 [(.t p19)])), (.u (.un p21 .not (.t p20))), (.u (.mv p18 (.t p21)))]) (.cond (.t p18) (.seq (.reg [(.u (.mv p3 (.k (.i .i64 1))))]) .ret) (.seq (.reg [(.u (.ldn p23 (.t p4) 6)), (.u (.cf (some p24) p82 [(.t p23)])), (.u (.bin p25 .gtr (.t p24) (.k (.i .i64 4096)))), (.u (.mv p22 (.t p25)))]) (.cond (.t p22) (.seq (.reg [(.u (.mv p3 (.k (.i .i64 3))))]) .ret) .skip))))))) (.seq (.reg [(.u (.mv p3 (.k (.i .i64 0))))]) .ret))))
def rs27 : List RR := [(.t p3)]
theorem fn27 : FnOk Try.prog p28.ix 25 rc27 rs27 := ⟨Try.f27, bodyC Try.f27, Try.func27, by kernel_rfl, by kernel_rfl, by kernel_rfl, by kernel_rfl, by kernel_rfl⟩
noncomputable def rc35 : RC := (.seq (.reg [(.u (.mv p7 (.k (.b false))))]) (.seq (.reg [(.u (.mv p8 (.t p1))), (.u (.mv p9 (.t p2))), (.u (.bin p10 .geq (.t p8) (.t p9))), (.u (.mv p11 (.t p10))), (.g p11 true (some p12) (.mv p12 (.t p1))), (.g p11 true (some p13) (.mv p13 (.t p3))), (.g p11 true (some p14) (.bin p14 .leq (.t p12) (.t p13))), (.u (.pick p15 (.t p11) (.t p14) (.k (.b false)))), (.u (.mv p7 (.t p15)))]) .ret))
def rs35 : List RR := [(.t p7)]
theorem fn35 : FnOk Try.prog p36.ix 15 rc35 rs35 := ⟨Try.f35, bodyC Try.f35, Try.func35, by kernel_rfl, by kernel_rfl, by kernel_rfl, by kernel_rfl, by kernel_rfl⟩
noncomputable def rc62 : RC := (.seq (.reg [(.u (.box p2 (.t p1))), (.u (.mv p3 (.k (.i .i64 0))))]) (.seq (.reg [(.u (.mv p4 (.k (.i .i64 1))))]) (.seq (.seq (.reg [(.u (.mv p5 (.k (.i .i64 0))))]) (.blk 0 (.loop (.seq (.seq (.reg [(.u (.mv p6 (.t p5))), (.u (.fad p7 (.t p2) 3)), (.u (.ld1 p8 (.t p7))), (.u (.len p9 (.t p8))), (.u (.bin p10 .lss (.t p6) (.t p9)))]) (.cond (.t p10) .skip (.exit 0))) (.seq (.blk 1 (.drw [(.u (.mv p13 (.t p4))), (.u (.ldn p14 (.t p2) 5)), (.u (.fad p15 (.t p2) 3)), (.u (.ld1 p16 (.t p15))), (.u (.mv p17 (.t p5))), (.u (.ixs p18 3 (.t p16) (.t p17))), (.u (.ldn p19 (.t p18) 3)), (.u (.cf (some p20) p93 [(.t p14), (.t p19)])), (.u (.len p21 (.t p20))), (.u (.bin p22 .mul (.t p13) (.t p21))), (.u (.mn p23 (.k (.i .i64 5000)) (.t p22))), (.u (.mv p4 (.t p23)))] [0, 0, 0, 4, 0, 28, 60, 126, 254, 511, 1023, 2047])) (.reg [(.u (.mv p11 (.t p5))), (.u (.bin p12 .add (.t p11) (.k (.i .i64 1)))), (.u (.mv p5 (.t p12)))])))))) (.seq (.reg [(.u (.mv p24 (.t p4))), (.u (.mv p3 (.t p24)))]) .ret))))
def rs62 : List RR := [(.t p3)]
theorem fn62 : FnOk Try.prog p63.ix 24 rc62 rs62 := ⟨Try.f62, bodyC Try.f62, Try.func62, by kernel_rfl, by kernel_rfl, by kernel_rfl, by kernel_rfl, by kernel_rfl⟩
noncomputable def rc69 : RC := (.seq (.reg [(.u (.box p2 (.t p1))), (.u (.mv p3 (.k (.i .i64 0))))]) (.seq (.seq (.reg [(.u (.fad p8 (.t p2) 3)), (.u (.ld1 p9 (.t p8))), (.u (.len p10 (.t p9))), (.u (.bin p11 .gtr (.t p10) (.k (.i .i64 8)))), (.u (.mv p12 (.t p11))), (.g p12 false (some p13) (.fad p13 (.t p2) 4)), (.g p12 false (some p14) (.ld1 p14 (.t p13))), (.g p12 false (some p15) (.len p15 (.t p14))), (.g p12 false (some p16) (.bin p16 .gtr (.t p15) (.k (.i .i64 4)))), (.u (.pick p17 (.t p12) (.k (.b true)) (.t p16)))]) (.cond (.t p17) (.seq (.reg [(.u (.mv p3 (.k (.i .i64 3))))]) .ret) .skip)) (.seq (.seq (.reg [(.u (.fad p18 (.t p2) 0)), (.u (.ld1 p19 (.t p18))), (.u (.cf (some p20) p36 [(.t p19), (.k (.i .i64 1)), (.k (.i .i64 4))])), (.u (.un p21 .not (.t p20))), (.u (.mv p22 (.t p21))), (.g p22 false (some p23) (.fad p23 (.t p2) 1)), (.g p22 false (some p24) (.ld1 p24 (.t p23))), (.g p22 false (some p25) (.cf (some p25) p36 [(.t p24), (.k (.i .i64 1)), (.k (.i .i64 99))])), (.g p22 false (some p26) (.un p26 .not (.t p25))), (.u (.pick p27 (.t p22) (.k (.b true)) (.t p26))), (.u (.mv p28 (.t p27))), (.g p28 false (some p29) (.fad p29 (.t p2) 2)), (.g p28 false (some p30) (.ld1 p30 (.t p29))), (.g p28 false (some p31) (.cf (some p31) p36 [(.t p30), (.k (.i .i64 0)), (.k (.i .i64 999))])), (.g p28 false (some p32) (.un p32 .not (.t p31))), (.u (.pick p33 (.t p28) (.k (.b true)) (.t p32)))]) (.cond (.t p33) (.seq (.reg [(.u (.mv p3 (.k (.i .i64 1))))]) .ret) .skip)) (.seq (.seq (.reg [(.u (.mv p4 (.k (.i .i64 0))))]) (.blk 0 (.loop (.seq (.seq (.reg [(.u (.mv p34 (.t p4))), (.u (.fad p35 (.t p2) 3)), (.u (.ld1 p36 (.t p35))), (.u (.len p37 (.t p36))), (.u (.bin p38 .lss (.t p34) (.t p37)))]) (.cond (.t p38) .skip (.exit 0))) (.seq (.blk 1 (.seq (.reg [(.u (.fad p41 (.t p2) 3)), (.u (.ld1 p42 (.t p41))), (.u (.mv p43 (.t p4))), (.u (.ixs p44 3 (.t p42) (.t p43))), (.u (.ldn p45 (.t p44) 3)), (.u (.new p5 [(.i .i64 0), (.i .i64 0), (.i .i64 0)])), (.u (.st (.t p5) (.t p45) 3))]) (.seq (.reg [(.u (.fad p46 (.t p5) 0)), (.u (.ld1 p47 (.t p46))), (.u (.cf (some p48) p36 [(.t p47), (.k (.i .i64 0)), (.k (.i .i64 2))])), (.u (.un p49 .not (.t p48))), (.u (.mv p50 (.t p49))), (.g p50 false (some p51) (.fad p51 (.t p5) 1)), (.g p50 false (some p52) (.ld1 p52 (.t p51))), (.g p50 false (some p53) (.fad p53 (.t p2) 0)), (.g p50 false (some p54) (.ld1 p54 (.t p53))), (.g p50 false (some p55) (.bin p55 .sub (.t p54) (.k (.i .i64 1)))), (.g p50 false (some p56) (.cf (some p56) p36 [(.t p52), (.k (.i .i64 (-1))), (.t p55)])), (.g p50 false (some p57) (.un p57 .not (.t p56))), (.u (.pick p58 (.t p50) (.k (.b true)) (.t p57))), (.u (.mv p59 (.t p58))), (.g p59 false (some p60) (.fad p60 (.t p5) 2)), (.g p59 false (some p61) (.ld1 p61 (.t p60))), (.g p59 false (some p62) (.fad p62 (.t p2) 0)), (.g p59 false (some p63) (.ld1 p63 (.t p62))), (.g p59 false (some p64) (.bin p64 .sub (.t p63) (.k (.i .i64 1)))), (.g p59 false (some p65) (.cf (some p65) p36 [(.t p61), (.k (.i .i64 (-1))), (.t p64)])), (.g p59 false (some p66) (.un p66 .not (.t p65))), (.u (.pick p67 (.t p59) (.k (.b true)) (.t p66)))]) (.cond (.t p67) (.seq (.reg [(.u (.mv p3 (.k (.i .i64 1))))]) .ret) .skip)))) (.reg [(.u (.mv p39 (.t p4))), (.u (.bin p40 .add (.t p39) (.k (.i .i64 1)))), (.u (.mv p4 (.t p40)))])))))) (.seq (.seq (.reg [(.u (.mv p6 (.k (.i .i64 0))))]) (.blk 2 (.loop (.seq (.seq (.reg [(.u (.mv p68 (.t p6))), (.u (.fad p69 (.t p2) 4)), (.u (.ld1 p70 (.t p69))), (.u (.len p71 (.t p70))), (.u (.bin p72 .lss (.t p68) (.t p71)))]) (.cond (.t p72) .skip (.exit 2))) (.seq (.blk 3 (.seq (.reg [(.u (.fad p75 (.t p2) 4)), (.u (.ld1 p76 (.t p75))), (.u (.mv p77 (.t p6))), (.u (.ixs p78 3 (.t p76) (.t p77))), (.u (.ldn p79 (.t p78) 3)), (.u (.new p7 [(.i .i64 0), (.i .i64 0), (.i .i64 0)])), (.u (.st (.t p7) (.t p79) 3))]) (.seq (.reg [(.u (.fad p80 (.t p7) 0)), (.u (.ld1 p81 (.t p80))), (.u (.fad p82 (.t p2) 3)), (.u (.ld1 p83 (.t p82))), (.u (.len p84 (.t p83))), (.u (.cf (some p85) p36 [(.t p81), (.k (.i .i64 0)), (.t p84)])), (.u (.un p86 .not (.t p85))), (.u (.mv p87 (.t p86))), (.g p87 false (some p88) (.fad p88 (.t p7) 1)), (.g p87 false (some p89) (.fad p89 (.t p88) 0)), (.g p87 false (some p90) (.ld1 p90 (.t p89))), (.g p87 false (some p91) (.bin p91 .lss (.t p90) (.k (.i .i64 0)))), (.u (.pick p92 (.t p87) (.k (.b true)) (.t p91))), (.u (.mv p93 (.t p92))), (.g p93 false (some p94) (.fad p94 (.t p7) 1)), (.g p93 false (some p95) (.fad p95 (.t p94) 0)), (.g p93 false (some p96) (.ld1 p96 (.t p95))), (.g p93 false (some p97) (.fad p97 (.t p7) 1)), (.g p93 false (some p98) (.fad p98 (.t p97) 1)), (.g p93 false (some p99) (.ld1 p99 (.t p98))), (.g p93 false (some p100) (.bin p100 .gtr (.t p96) (.t p99))), (.u (.pick p101 (.t p93) (.k (.b true)) (.t p100))), (.u (.mv p102 (.t p101))), (.g p102 false (some p103) (.fad p103 (.t p7) 1)), (.g p102 false (some p104) (.fad p104 (.t p103) 1)), (.g p102 false (some p105) (.ld1 p105 (.t p104))), (.g p102 false (some p106) (.bin p106 .gtr (.t p105) (.k (.i .i64 2000)))), (.u (.pick p107 (.t p102) (.k (.b true)) (.t p106)))]) (.cond (.t p107) (.seq (.reg [(.u (.mv p3 (.k (.i .i64 1))))]) .ret) .skip)))) (.reg [(.u (.mv p73 (.t p6))), (.u (.bin p74 .add (.t p73) (.k (.i .i64 1)))), (.u (.mv p6 (.t p74)))])))))) (.seq (.seq (.reg [(.u (.ldn p108 (.t p2) 5)), (.u (.cf (some p109) p63 [(.t p108)])), (.u (.bin p110 .gtr (.t p109) (.k (.i .i64 4096))))]) (.cond (.t p110) (.seq (.reg [(.u (.mv p3 (.k (.i .i64 3))))]) .ret) .skip)) (.seq (.reg [(.u (.mv p3 (.k (.i .i64 0))))]) .ret)))))))
def rs69 : List RR := [(.t p3)]
theorem fn69 : FnOk Try.prog p70.ix 110 rc69 rs69 := ⟨Try.f69, bodyC Try.f69, Try.func69, by kernel_rfl, by kernel_rfl, by kernel_rfl, by kernel_rfl, by kernel_rfl⟩
noncomputable def rc74 : RC := (.seq (.reg [(.u (.box p2 (.t p1))), (.u (.new p3 [(.i .i64 0), (.i .i64 0), (.i .i64 0), .ns, .ns, .nm]))]) (.seq (.reg [(.u (.ldn p4 (.t p2) 5)), (.u (.mkm p5)), (.u (.bld p6 [(.i .i64 0), (.i .i64 0), (.i .i64 0), .ns, .ns, .nm] [(0, (5, (.t p4))), (5, (1, (.t p5)))])), (.u (.st (.t p3) (.t p6) 6))]) .ret))
def rs74 : List RR := [(.cn p3 6)]
theorem fn74 : FnOk Try.prog p75.ix 6 rc74 rs74 := ⟨Try.f74, bodyC Try.f74, Try.func74, by kernel_rfl, by kernel_rfl, by kernel_rfl, by kernel_rfl, by kernel_rfl⟩
noncomputable def rc77 : RC := (.seq (.reg [(.u (.box p2 (.t p1))), (.u (.mv p3 (.k (.i .i64 0))))]) (.seq (.reg [(.u (.fad p4 (.t p2) 10)), (.u (.ld1 p5 (.t p4))), (.u (.mv p3 (.t p5)))]) .ret))
def rs77 : List RR := [(.t p3)]
theorem fn77 : FnOk Try.prog p78.ix 5 rc77 rs77 := ⟨Try.f77, bodyC Try.f77, Try.func77, by kernel_rfl, by kernel_rfl, by kernel_rfl, by kernel_rfl, by kernel_rfl⟩
noncomputable def rc79 : RC := (.seq (.reg [(.u (.box p3 (.t p1))), (.u (.box p4 (.t p2))), (.u (.mv p5 (.k (.b false))))]) (.seq (.reg [(.u (.fad p6 (.t p3) 0)), (.u (.fad p7 (.t p6) 4)), (.u (.ld1 p8 (.t p7))), (.u (.ldn p9 (.t p4) 14)), (.u (.fnl p10 p111 [(.t p9)] [])), (.u (.cf (some p11) p110 [(.t p8), (.t p10)])), (.u (.mv p5 (.t p11)))]) .ret))
def rs79 : List RR := [(.t p5)]
theorem fn79 : FnOk Try.prog p80.ix 11 rc79 rs79 := ⟨Try.f79, bodyC Try.f79, Try.func79, by kernel_rfl, by kernel_rfl, by kernel_rfl, by kernel_rfl, by kernel_rfl⟩
noncomputable def rc80 : RC := (.seq (.reg [(.u (.box p2 (.t p1))), (.u (.mv p3 (.k (.b false))))]) (.seq (.reg [(.u (.bld p4 [(.i .i64 0), (.i .i64 0)] [(0, (1, (.k (.i .i64 1)))), (1, (1, (.k (.i .i64 4))))])), (.u (.fad p5 (.t p2) 0)), (.u (.fad p6 (.t p5) 0)), (.u (.ld1 p7 (.t p6))), (.u (.cf (some p8) p112 [(.t p4), (.t p7)])), (.u (.mv p9 (.t p8))), (.g p9 true (some p10) (.bld p10 [(.i .i64 0), (.i .i64 0)] [(0, (1, (.k (.i .i64 1)))), (1, (1, (.k (.i .i64 99))))])), (.g p9 true (some p11) (.fad p11 (.t p2) 0)), (.g p9 true (some p12) (.fad p12 (.t p11) 1)), (.g p9 true (some p13) (.ld1 p13 (.t p12))), (.g p9 true (some p14) (.cf (some p14) p112 [(.t p10), (.t p13)])), (.u (.pick p15 (.t p9) (.t p14) (.k (.b false)))), (.u (.mv p16 (.t p15))), (.g p16 true (some p17) (.fad p17 (.t p2) 0)), (.g p16 true (some p18) (.fad p18 (.t p17) 2)), (.g p16 true (some p19) (.ld1 p19 (.t p18))), (.g p16 true (some p20) (.cf (some p20) p86 [(.t p19), (.k (.i .i64 999))])), (.u (.pick p21 (.t p16) (.t p20) (.k (.b false)))), (.u (.mv p22 (.t p21))), (.g p22 true (some p23) (.fad p23 (.t p2) 0)), (.g p22 true (some p24) (.fad p24 (.t p23) 3)), (.g p22 true (some p25) (.ld1 p25 (.t p24))), (.g p22 true (some p26) (.ldn p26 (.t p2) 6)), (.g p22 true (some p27) (.fnl p27 p114 [(.t p26)] [])), (.g p22 true (some p28) (.cf (some p28) p113 [(.t p25), (.t p27)])), (.u (.pick p29 (.t p22) (.t p28) (.k (.b false)))), (.u (.mv p30 (.t p29))), (.g p30 true (some p31) (.fad p31 (.t p2) 0)), (.g p30 true (some p32) (.fad p32 (.t p31) 4)), (.g p30 true (some p33) (.ld1 p33 (.t p32))), (.g p30 true (some p34) (.ldn p34 (.t p2) 6)), (.g p30 true (some p35) (.fnl p35 p115 [(.t p34)] [])), (.g p30 true (some p36) (.cf (some p36) p110 [(.t p33), (.t p35)])), (.u (.pick p37 (.t p30) (.t p36) (.k (.b false)))), (.u (.mv p3 (.t p37)))]) .ret))
def rs80 : List RR := [(.t p3)]
theorem fn80 : FnOk Try.prog p81.ix 37 rc80 rs80 := ⟨Try.f80, bodyC Try.f80, Try.func80, by kernel_rfl, by kernel_rfl, by kernel_rfl, by kernel_rfl, by kernel_rfl⟩
noncomputable def rc81 : RC := (.seq (.reg [(.u (.box p2 (.t p1))), (.u (.mv p3 (.k (.i .i64 0))))]) (.seq (.reg [(.u (.mv p4 (.k (.i .i64 1))))]) (.seq (.seq (.reg [(.u (.fad p10 (.t p2) 0)), (.u (.fad p11 (.t p10) 3)), (.u (.ld1 p12 (.t p11))), (.u (.len p13 (.t p12))), (.u (.mv p14 (.k (.i .i64 0))))]) (.blk 0 (.loop (.seq (.reg [(.u (.bin p15 .lss (.t p14) (.t p13)))]) (.seq (.cond (.t p15) .skip (.exit 0)) (.seq (.blk 1 (.seq (.reg [(.u (.ixs p16 3 (.t p12) (.t p14))), (.u (.ldn p17 (.t p16) 3)), (.u (.new p6 [(.i .i64 0), (.i .i64 0), (.i .i64 0)])), (.u (.st (.t p6) (.t p17) 3))]) (.seq (.reg [(.u (.ldn p19 (.t p2) 6)), (.u (.ldn p20 (.t p6) 3)), (.u (.cf (some p21) p116 [(.t p19), (.t p20)])), (.u (.mv p18 (.t p21))), (.u (.ext p22 (.t p18) 0)), (.u (.ext p23 (.t p18) 1)), (.u (.ext p24 (.t p18) 2)), (.u (.new p7 [(.i .i64 0), (.i .i64 0)])), (.u (.new p8 [(.i .i64 0), (.i .i64 0)])), (.u (.new p9 [(.i .i64 0), (.i .i64 0)])), (.u (.st (.t p7) (.t p22) 2)), (.u (.st (.t p8) (.t p23) 2)), (.u (.st (.t p9) (.t p24) 2))]) (.drw [(.u (.mv p25 (.t p4))), (.u (.ldn p26 (.t p7) 2)), (.u (.cf (some p27) p117 [(.t p26)])), (.u (.ldn p28 (.t p8) 2)), (.u (.cf (some p29) p117 [(.t p28)])), (.u (.bin p30 .mul (.t p27) (.t p29))), (.u (.ldn p31 (.t p9) 2)), (.u (.cf (some p32) p117 [(.t p31)])), (.u (.bin p33 .mul (.t p30) (.t p32))), (.u (.bin p34 .mul (.t p25) (.t p33))), (.u (.mv p4 (.t p34)))] [0, 0, 2, 0, 14, 30, 0, 94, 254, 511, 1023])))) (.reg [(.u (.bin p35 .add (.t p14) (.k (.i .i64 1)))), (.u (.mv p14 (.t p35)))]))))))) (.seq (.reg [(.u (.mv p36 (.t p4))), (.u (.mv p3 (.t p36)))]) .ret))))
def rs81 : List RR := [(.t p3)]
theorem fn81 : FnOk Try.prog p82.ix 36 rc81 rs81 := ⟨Try.f81, bodyC Try.f81, Try.func81, by kernel_rfl, by kernel_rfl, by kernel_rfl, by kernel_rfl, by kernel_rfl⟩
noncomputable def rc83 : RC := (.seq (.reg [(.u (.box p3 (.t p1))), (.u (.box p4 (.t p2))), (.u (.mv p5 (.k (.b false))))]) (.seq (.reg [(.u (.fad p6 (.t p3) 0)), (.u (.ld1 p7 (.t p6))), (.u (.bin p8 .eql (.t p7) (.k (.i .i64 0)))), (.u (.mv p9 (.t p8))), (.g p9 false (some p10) (.fad p10 (.t p3) 0)), (.g p9 false (some p11) (.ld1 p11 (.t p10))), (.g p9 false (some p12) (.fad p12 (.t p4) 0)), (.g p9 false (some p13) (.ld1 p13 (.t p12))), (.g p9 false (some p14) (.bin p14 .eql (.t p11) (.t p13))), (.u (.pick p15 (.t p9) (.k (.b true)) (.t p14))), (.u (.mv p16 (.t p15))), (.g p16 true (some p17) (.fad p17 (.t p3) 1)), (.g p16 true (some p18) (.ld1 p18 (.t p17))), (.g p16 true (some p19) (.bin p19 .lss (.t p18) (.k (.i .i64 0)))), (.g p16 true (some p20) (.mv p20 (.t p19))), (.g p20 false (some p21) (.fad p21 (.t p3) 1)), (.g p20 false (some p22) (.ld1 p22 (.t p21))), (.g p20 false (some p23) (.fad p23 (.t p4) 1)), (.g p20 false (some p24) (.ld1 p24 (.t p23))), (.g p20 false (some p25) (.bin p25 .eql (.t p22) (.t p24))), (.g p16 true (some p26) (.pick p26 (.t p20) (.k (.b true)) (.t p25))), (.u (.pick p27 (.t p16) (.t p26) (.k (.b false)))), (.u (.mv p28 (.t p27))), (.g p28 true (some p29) (.fad p29 (.t p3) 2)), (.g p28 true (some p30) (.ld1 p30 (.t p29))), (.g p28 true (some p31) (.bin p31 .lss (.t p30) (.k (.i .i64 0)))), (.g p28 true (some p32) (.mv p32 (.t p31))), (.g p32 false (some p33) (.fad p33 (.t p3) 2)), (.g p32 false (some p34) (.ld1 p34 (.t p33))), (.g p32 false (some p35) (.fad p35 (.t p4) 2)), (.g p32 false (some p36) (.ld1 p36 (.t p35))), (.g p32 false (some p37) (.bin p37 .eql (.t p34) (.t p36))), (.g p28 true (some p38) (.pick p38 (.t p32) (.k (.b true)) (.t p37))), (.u (.pick p39 (.t p28) (.t p38) (.k (.b false)))), (.u (.mv p5 (.t p39)))]) .ret))
def rs83 : List RR := [(.t p5)]
theorem fn83 : FnOk Try.prog p84.ix 39 rc83 rs83 := ⟨Try.f83, bodyC Try.f83, Try.func83, by kernel_rfl, by kernel_rfl, by kernel_rfl, by kernel_rfl, by kernel_rfl⟩
noncomputable def rc85 : RC := (.seq (.reg [(.u (.mv p5 (.k (.b false))))]) (.seq (.reg [(.u (.mv p6 (.t p2))), (.u (.bld p7 [(.i .i64 0), (.i .i64 0)] [(0, (1, (.k (.i .i64 0)))), (1, (1, (.t p6)))])), (.u (.mv p8 (.t p1))), (.u (.cf (some p9) p112 [(.t p7), (.t p8)])), (.u (.mv p5 (.t p9)))]) .ret))
def rs85 : List RR := [(.t p5)]
theorem fn85 : FnOk Try.prog p86.ix 9 rc85 rs85 := ⟨Try.f85, bodyC Try.f85, Try.func85, by kernel_rfl, by kernel_rfl, by kernel_rfl, by kernel_rfl, by kernel_rfl⟩
noncomputable def rc92 : RC := (.seq (.reg [(.u (.box p3 (.t p1))), (.u (.box p4 (.t p2))), (.u (.mv p5 (.k .ns)))]) (.seq (.reg [(.u (.mv p6 (.k .ns)))]) (.seq (.seq (.reg [(.u (.mv p7 (.k (.i .i64 1))))]) (.blk 0 (.loop (.seq (.seq (.reg [(.u (.mv p10 (.t p7))), (.u (.bin p11 .leq (.t p10) (.k (.i .i64 2))))]) (.cond (.t p11) .skip (.exit 0))) (.seq (.blk 1 (.seq (.reg [(.u (.mv p8 (.k (.i .i64 0))))]) (.blk 2 (.loop (.seq (.seq (.reg [(.u (.mv p14 (.t p8))), (.u (.fad p15 (.t p3) 0)), (.u (.ld1 p16 (.t p15))), (.u (.bin p17 .lss (.t p14) (.t p16)))]) (.cond (.t p17) .skip (.exit 2))) (.seq (.blk 3 (.seq (.reg [(.u (.mv p9 (.k (.i .i64 0))))]) (.blk 4 (.loop (.seq (.seq (.reg [(.u (.mv p20 (.t p9))), (.u (.fad p21 (.t p3) 0)), (.u (.ld1 p22 (.t p21))), (.u (.bin p23 .lss (.t p20) (.t p22)))]) (.cond (.t p23) .skip (.exit 4))) (.seq (.blk 5 (.seq (.reg [(.u (.ldn p26 (.t p4) 3)), (.u (.mv p27 (.t p7))), (.u (.mv p28 (.t p8))), (.u (.mv p29 (.t p9))), (.u (.bld p30 [(.i .i64 0), (.i .i64 0), (.i .i64 0)] [(0, (1, (.t p27))), (1, (1, (.t p28))), (2, (1, (.t p29)))])), (.u (.cf (some p31) p84 [(.t p26), (.t p30)]))]) (.cond (.t p31) (.reg [(.u (.mv p32 (.t p6))), (.u (.mv p33 (.t p7))), (.u (.mv p34 (.t p8))), (.u (.mv p35 (.t p9))), (.u (.bld p36 [(.i .i64 0), (.i .i64 0), (.i .i64 0)] [(0, (1, (.t p33))), (1, (1, (.t p34))), (2, (1, (.t p35)))])), (.u (.bsl p37 3 1 [(.i .i64 0), (.i .i64 0), (.i .i64 0)] [(0, (3, (.t p36)))])), (.u (.app p38 3 (.t p32) (.t p37))), (.u (.mv p6 (.t p38)))]) .skip))) (.reg [(.u (.mv p24 (.t p9))), (.u (.bin p25 .add (.t p24) (.k (.i .i64 1)))), (.u (.mv p9 (.t p25)))]))))))) (.reg [(.u (.mv p18 (.t p8))), (.u (.bin p19 .add (.t p18) (.k (.i .i64 1)))), (.u (.mv p8 (.t p19)))]))))))) (.reg [(.u (.mv p12 (.t p7))), (.u (.bin p13 .add (.t p12) (.k (.i .i64 1)))), (.u (.mv p7 (.t p13)))])))))) (.seq (.reg [(.u (.mv p39 (.t p6))), (.u (.mv p5 (.t p39)))]) .ret))))
def rs92 : List RR := [(.t p5)]
theorem fn92 : FnOk Try.prog p93.ix 39 rc92 rs92 := ⟨Try.f92, bodyC Try.f92, Try.func92, by kernel_rfl, by kernel_rfl, by kernel_rfl, by kernel_rfl, by kernel_rfl⟩
noncomputable def rc104 : RC := (.seq (.reg [(.u (.box p2 (.t p1))), (.u (.new p3 [(.i .i64 0), (.i .i64 0), (.i .i64 0), (.i .i64 0), (.i .i64 0), (.i .i64 0), (.i .i64 0), (.i .i64 0), (.i .i64 0), (.i .i64 0), (.i .i64 0), (.i .i64 0), (.i .i64 0), (.i .i64 0)]))]) (.seq (.reg [(.u (.fad p4 (.t p2) 0)), (.u (.fad p5 (.t p4) 2)), (.u (.ld1 p6 (.t p5))), (.u (.bld p7 [(.i .i64 0), (.i .i64 0), (.i .i64 0), (.i .i64 0), (.i .i64 0), (.i .i64 0), (.i .i64 0), (.i .i64 0), (.i .i64 0), (.i .i64 0), (.i .i64 0), (.i .i64 0), (.i .i64 0), (.i .i64 0)] [(9, (1, (.t p6)))])), (.u (.st (.t p3) (.t p7) 14))]) .ret))
def rs104 : List RR := [(.cn p3 14)]
theorem fn104 : FnOk Try.prog p105.ix 7 rc104 rs104 := ⟨Try.f104, bodyC Try.f104, Try.func104, by kernel_rfl, by kernel_rfl, by kernel_rfl, by kernel_rfl, by kernel_rfl⟩
noncomputable def rc106 : RC := (.seq (.reg [(.u (.box p3 (.t p1))), (.u (.box p4 (.t p2))), (.u (.mv p5 (.k .nf)))]) (.seq (.reg [(.u (.fnl p6 p135 [] [(.t p3), (.t p4)])), (.u (.mv p5 (.t p6)))]) .ret))
def rs106 : List RR := [(.t p5)]
theorem fn106 : FnOk Try.prog p107.ix 6 rc106 rs106 := ⟨Try.f106, bodyC Try.f106, Try.func106, by kernel_rfl, by kernel_rfl, by kernel_rfl, by kernel_rfl, by kernel_rfl⟩
noncomputable def rc108 : RC := (.seq (.reg [(.u (.box p4 (.t p1))), (.u (.box p5 (.t p2))), (.u (.box p6 (.t p3))), (.u (.new p7 [(.i .i64 0), (.i .i64 0), (.i .i64 0), (.i .i64 0), (.i .i64 0), (.i .i64 0), (.i .i64 0), (.i .i64 0), (.i .i64 0), (.i .i64 0), (.i .i64 0), (.i .i64 0), (.i .i64 0), (.i .i64 0)])), (.u (.mv p8 (.k (.b false))))]) (.seq (.reg [(.u (.fad p12 (.t p5) 1)), (.u (.ldn p13 (.t p12) 8)), (.u (.new p9 [(.i .i64 0), (.i .i64 0), (.i .i64 0), (.i .i64 0), (.i .i64 0), (.i .i64 0), (.i .i64 0), (.i .i64 0)])), (.u (.st (.t p9) (.t p13) 8))]) (.seq (.drw [(.u (.fad p14 (.t p6) 1)), (.u (.ld1 p15 (.t p14))), (.u (.bin p16 .add (.k (.i .i64 0)) (.t p15))), (.u (.fad p17 (.t p5) 1)), (.u (.ixa p18 8 1 (.t p17) (.t p16))), (.u (.fad p19 (.t p6) 2)), (.u (.ld1 p20 (.t p19))), (.u (.bin p21 .add (.k (.i .i64 4)) (.t p20))), (.u (.fad p22 (.t p5) 1)), (.u (.ixa p23 8 1 (.t p22) (.t p21))), (.u (.mv p10 (.t p18))), (.u (.mv p11 (.t p23)))] [0, 1, 3, 0, 15, 0, 32, 96, 0, 480, 31, 2047]) (.seq (.reg [(.u (.fad p24 (.t p5) 0)), (.u (.ld1 p25 (.t p24))), (.u (.bin p26 .add (.t p25) (.k (.i .i64 1)))), (.u (.fad p27 (.t p5) 0)), (.u (.st (.t p27) (.t p26) 1))]) (.seq (.reg [(.u (.ldn p28 (.t p6) 3)), (.u (.fad p29 (.t p5) 11)), (.u (.st (.t p29) (.t p28) 3))]) (.seq (.blk 0 (.seq (.reg [(.u (.fad p31 (.t p6) 0)), (.u (.ld1 p32 (.t p31))), (.u (.bin p33 .eql (.t p32) (.k (.i .i64 1)))), (.u (.mv p34 (.t p33))), (.g p34 true (some p35) (.mv p35 (.t p10))), (.g p34 true (some p36) (.nilc p36 (.t p35))), (.g p34 true (some p37) (.ld1 p37 (.t p36))), (.g p34 true (some p38) (.bin p38 .eql (.t p37) (.k (.i .i64 0)))), (.u (.pick p39 (.t p34) (.t p38) (.k (.b false)))), (.u (.mv p40 (.t p39))), (.g p40 true (some p41) (.mv p41 (.t p11))), (.g p40 true (some p42) (.nilc p42 (.t p41))), (.g p40 true (some p43) (.ld1 p43 (.t p42))), (.g p40 true (some p44) (.bin p44 .eql (.t p43) (.k (.i .i64 0)))), (.u (.pick p45 (.t p40) (.t p44) (.k (.b false)))), (.u (.mv p30 (.t p45)))]) (.cond (.t p30) (.seq (.reg [(.u (.mv p46 (.t p10))), (.u (.mv p47 (.t p11))), (.u (.fad p48 (.t p5) 0)), (.u (.ld1 p49 (.t p48))), (.u (.fad p50 (.t p5) 0)), (.u (.ld1 p51 (.t p50))), (.u (.nilc p52 (.t p46))), (.u (.st (.t p52) (.t p49) 1)), (.u (.nilc p53 (.t p47))), (.u (.st (.t p53) (.t p51) 1))]) (.reg [(.u (.fad p54 (.t p5) 9)), (.u (.ld1 p55 (.t p54))), (.u (.fad p56 (.t p4) 0)), (.u (.fad p57 (.t p56) 1)), (.u (.ld1 p58 (.t p57))), (.u (.bin p59 .add (.t p55) (.t p58))), (.u (.fad p60 (.t p5) 9)), (.u (.st (.t p60) (.t p59) 1))])) (.seq (.reg [(.u (.fad p62 (.t p6) 0)), (.u (.ld1 p63 (.t p62))), (.u (.bin p64 .eql (.t p63) (.k (.i .i64 2)))), (.u (.mv p65 (.t p64))), (.g p65 true (some p66) (.mv p66 (.t p10))), (.g p65 true (some p67) (.nilc p67 (.t p66))), (.g p65 true (some p68) (.ld1 p68 (.t p67))), (.g p65 true (some p69) (.bin p69 .neq (.t p68) (.k (.i .i64 0)))), (.u (.pick p70 (.t p65) (.t p69) (.k (.b false)))), (.u (.mv p71 (.t p70))), (.g p71 true (some p72) (.mv p72 (.t p11))), (.g p71 true (some p73) (.nilc p73 (.t p72))), (.g p71 true (some p74) (.ld1 p74 (.t p73))), (.g p71 true (some p75) (.bin p75 .neq (.t p74) (.k (.i .i64 0)))), (.u (.pick p76 (.t p71) (.t p75) (.k (.b false)))), (.u (.mv p61 (.t p76)))]) (.cond (.t p61) (.seq (.seq (.drw [(.u (.mv p77 (.t p10))), (.u (.nilc p78 (.t p77))), (.u (.ld1 p79 (.t p78))), (.u (.mv p80 (.t p11))), (.u (.nilc p81 (.t p80))), (.u (.ld1 p82 (.t p81))), (.u (.bin p83 .neq (.t p79) (.t p82)))] [0, 1, 3, 0, 8, 24, 63]) (.cond (.t p83) (.reg [(.u (.fad p84 (.t p5) 10)), (.u (.ld1 p85 (.t p84))), (.u (.bin p86 .add (.t p85) (.k (.i .i64 1)))), (.u (.fad p87 (.t p5) 10)), (.u (.st (.t p87) (.t p86) 1))]) .skip)) (.seq (.reg [(.u (.mv p88 (.t p10))), (.u (.mv p89 (.t p11))), (.u (.nilc p90 (.t p88))), (.u (.st (.t p90) (.k (.i .i64 0)) 1)), (.u (.nilc p91 (.t p89))), (.u (.st (.t p91) (.k (.i .i64 0)) 1))]) (.reg [(.u (.fad p92 (.t p5) 9)), (.u (.ld1 p93 (.t p92))), (.u (.fad p94 (.t p4) 0)), (.u (.fad p95 (.t p94) 1)), (.u (.ld1 p96 (.t p95))), (.u (.bin p97 .sub (.t p93) (.t p96))), (.u (.fad p98 (.t p5) 9)), (.u (.st (.t p98) (.t p97) 1))]))) .skip))))) (.seq (.drw [(.u (.ldn p99 (.t p5) 14)), (.u (.fad p100 (.t p5) 1)), (.u (.ldn p101 (.t p100) 8)), (.u (.ldn p102 (.t p9) 8)), (.u (.eqr p103 true [(.i .i64), (.i .i64), (.i .i64), (.i .i64), (.i .i64), (.i .i64), (.i .i64), (.i .i64)] (.t p101) (.t p102))), (.u (.st (.t p7) (.t p99) 14)), (.u (.mv p8 (.t p103)))] [0, 0, 2, 0, 14, 1, 63]) .ret)))))))
def rs108 : List RR := [(.cn p7 14), (.t p8)]
theorem fn108 : FnOk Try.prog p109.ix 103 rc108 rs108 := ⟨Try.f108, bodyC Try.f108, Try.func108, by kernel_rfl, by kernel_rfl, by kernel_rfl, by kernel_rfl, by kernel_rfl⟩
noncomputable def rc109 : RC := (.seq (.reg [(.u (.mv p5 (.k (.b false))))]) (.seq (.seq (.reg [(.u (.mv p8 (.t p1))), (.u (.len p9 (.t p8))), (.u (.mv p10 (.k (.i .i64 0))))]) (.blk 0 (.loop (.seq (.reg [(.u (.bin p11 .lss (.t p10) (.t p9)))]) (.seq (.cond (.t p11) .skip (.exit 0)) (.seq (.blk 1 (.seq (.reg [(.u (.ixs p12 3 (.t p8) (.t p10))), (.u (.ldn p13 (.t p12) 3)), (.u (.new p7 [(.i .i64 0), (.i .i64 0), (.i .i64 0)])), (.u (.st (.t p7) (.t p13) 3))]) (.seq (.reg [(.u (.mv p14 (.t p2))), (.u (.ldn p15 (.t p7) 3)), (.u (.cv (some p16) (.t p14) [(.t p15)])), (.u (.un p17 .not (.t p16)))]) (.cond (.t p17) (.seq (.reg [(.u (.mv p5 (.k (.b false))))]) .ret) .skip)))) (.reg [(.u (.bin p18 .add (.t p10) (.k (.i .i64 1)))), (.u (.mv p10 (.t p18)))]))))))) (.seq (.reg [(.u (.mv p5 (.k (.b true))))]) .ret)))
def rs109 : List RR := [(.t p5)]
theorem fn109 : FnOk Try.prog p110.ix 18 rc109 rs109 := ⟨Try.f109, bodyC Try.f109, Try.func109, by kernel_rfl, by kernel_rfl, by kernel_rfl, by kernel_rfl, by kernel_rfl⟩
noncomputable def rc110 : RC := (.seq (.reg [(.u (.box p3 (.t p1))), (.u (.box p4 (.t p2))), (.u (.mv p5 (.k (.b false))))]) (.seq (.reg [(.u (.fad p6 (.t p4) 0)), (.u (.ld1 p7 (.t p6))), (.u (.fad p8 (.t p3) 0)), (.u (.ld1 p9 (.t p8))), (.u (.bin p10 .neq (.t p7) (.t p9))), (.u (.mv p11 (.t p10))), (.g p11 false (some p12) (.fad p12 (.t p4) 1)), (.g p11 false (some p13) (.ldn p13 (.t p12) 2)), (.g p11 false (some p14) (.fad p14 (.t p3) 9)), (.g p11 false (some p15) (.ld1 p15 (.t p14))), (.g p11 false (some p16) (.cf (some p16) p112 [(.t p13), (.t p15)])), (.u (.pick p17 (.t p11) (.k (.b true)) (.t p16))), (.u (.mv p5 (.t p17)))]) .ret))
def rs110 : List RR := [(.t p5)]
theorem fn110 : FnOk Try.prog p111.ix 17 rc110 rs110 := ⟨Try.f110, bodyC Try.f110, Try.func110, by kernel_rfl, by kernel_rfl, by kernel_rfl, by kernel_rfl, by kernel_rfl⟩
noncomputable def rc111 : RC := (.seq (.reg [(.u (.box p3 (.t p1))), (.u (.mv p5 (.k (.b false))))]) (.seq (.reg [(.u (.fad p6 (.t p3) 0)), (.u (.ld1 p7 (.t p6))), (.u (.mv p8 (.t p2))), (.u (.bin p9 .leq (.t p7) (.t p8))), (.u (.mv p10 (.t p9))), (.g p10 true (some p11) (.mv p11 (.t p2))), (.g p10 true (some p12) (.fad p12 (.t p3) 1)), (.g p10 true (some p13) (.ld1 p13 (.t p12))), (.g p10 true (some p14) (.bin p14 .leq (.t p11) (.t p13))), (.u (.pick p15 (.t p10) (.t p14) (.k (.b false)))), (.u (.mv p5 (.t p15)))]) .ret))
def rs111 : List RR := [(.t p5)]
theorem fn111 : FnOk Try.prog p112.ix 15 rc111 rs111 := ⟨Try.f111, bodyC Try.f111, Try.func111, by kernel_rfl, by kernel_rfl, by kernel_rfl, by kernel_rfl, by kernel_rfl⟩
noncomputable def rc112 : RC := (.seq (.reg [(.u (.mv p5 (.k (.b false))))]) (.seq (.seq (.reg [(.u (.mv p8 (.t p1))), (.u (.len p9 (.t p8))), (.u (.mv p10 (.k (.i .i64 0))))]) (.blk 0 (.loop (.seq (.reg [(.u (.bin p11 .lss (.t p10) (.t p9)))]) (.seq (.cond (.t p11) .skip (.exit 0)) (.seq (.blk 1 (.seq (.reg [(.u (.ixs p12 3 (.t p8) (.t p10))), (.u (.ldn p13 (.t p12) 3)), (.u (.new p7 [(.i .i64 0), (.i .i64 0), (.i .i64 0)])), (.u (.st (.t p7) (.t p13) 3))]) (.seq (.reg [(.u (.mv p14 (.t p2))), (.u (.ldn p15 (.t p7) 3)), (.u (.cv (some p16) (.t p14) [(.t p15)])), (.u (.un p17 .not (.t p16)))]) (.cond (.t p17) (.seq (.reg [(.u (.mv p5 (.k (.b false))))]) .ret) .skip)))) (.reg [(.u (.bin p18 .add (.t p10) (.k (.i .i64 1)))), (.u (.mv p10 (.t p18)))]))))))) (.seq (.reg [(.u (.mv p5 (.k (.b true))))]) .ret)))
def rs112 : List RR := [(.t p5)]
theorem fn112 : FnOk Try.prog p113.ix 18 rc112 rs112 := ⟨Try.f112, bodyC Try.f112, Try.func112, by kernel_rfl, by kernel_rfl, by kernel_rfl, by kernel_rfl, by kernel_rfl⟩
noncomputable def rc113 : RC := (.seq (.reg [(.u (.box p3 (.t p1))), (.u (.box p4 (.t p2))), (.u (.mv p5 (.k (.b false))))]) (.seq (.reg [(.u (.bld p6 [(.i .i64 0), (.i .i64 0)] [(0, (1, (.k (.i .i64 0)))), (1, (1, (.k (.i .i64 2))))])), (.u (.fad p7 (.t p4) 0)), (.u (.ld1 p8 (.t p7))), (.u (.cf (some p9) p112 [(.t p6), (.t p8)])), (.u (.mv p10 (.t p9))), (.g p10 true (some p11) (.fad p11 (.t p3) 0)), (.g p10 true (some p12) (.fad p12 (.t p11) 0)), (.g p10 true (some p13) (.ld1 p13 (.t p12))), (.g p10 true (some p14) (.bin p14 .sub (.t p13) (.k (.i .i64 1)))), (.g p10 true (some p15) (.bld p15 [(.i .i64 0), (.i .i64 0)] [(0, (1, (.k (.i .i64 (-1))))), (1, (1, (.t p14)))])), (.g p10 true (some p16) (.fad p16 (.t p4) 1)), (.g p10 true (some p17) (.ld1 p17 (.t p16))), (.g p10 true (some p18) (.cf (some p18) p112 [(.t p15), (.t p17)])), (.u (.pick p19 (.t p10) (.t p18) (.k (.b false)))), (.u (.mv p20 (.t p19))), (.g p20 true (some p21) (.fad p21 (.t p3) 0)), (.g p20 true (some p22) (.fad p22 (.t p21) 0)), (.g p20 true (some p23) (.ld1 p23 (.t p22))), (.g p20 true (some p24) (.bin p24 .sub (.t p23) (.k (.i .i64 1)))), (.g p20 true (some p25) (.bld p25 [(.i .i64 0), (.i .i64 0)] [(0, (1, (.k (.i .i64 (-1))))), (1, (1, (.t p24)))])), (.g p20 true (some p26) (.fad p26 (.t p4) 2)), (.g p20 true (some p27) (.ld1 p27 (.t p26))), (.g p20 true (some p28) (.cf (some p28) p112 [(.t p25), (.t p27)])), (.u (.pick p29 (.t p20) (.t p28) (.k (.b false)))), (.u (.mv p5 (.t p29)))]) .ret))
def rs113 : List RR := [(.t p5)]
theorem fn113 : FnOk Try.prog p114.ix 29 rc113 rs113 := ⟨Try.f113, bodyC Try.f113, Try.func113, by kernel_rfl, by kernel_rfl, by kernel_rfl, by kernel_rfl, by kernel_rfl⟩
noncomputable def rc114 : RC := (.seq (.reg [(.u (.box p3 (.t p1))), (.u (.box p4 (.t p2))), (.u (.mv p5 (.k (.b false))))]) (.seq (.reg [(.u (.fad p6 (.t p4) 0)), (.u (.ld1 p7 (.t p6))), (.u (.fad p8 (.t p3) 0)), (.u (.fad p9 (.t p8) 3)), (.u (.ld1 p10 (.t p9))), (.u (.len p11 (.t p10))), (.u (.cf (some p12) p86 [(.t p7), (.t p11)])), (.u (.mv p13 (.t p12))), (.g p13 true (some p14) (.fad p14 (.t p4) 1)), (.g p13 true (some p15) (.fad p15 (.t p14) 0)), (.g p13 true (some p16) (.ld1 p16 (.t p15))), (.g p13 true (some p17) (.fad p17 (.t p4) 1)), (.g p13 true (some p18) (.fad p18 (.t p17) 1)), (.g p13 true (some p19) (.ld1 p19 (.t p18))), (.g p13 true (some p20) (.cf (some p20) p86 [(.t p16), (.t p19)])), (.u (.pick p21 (.t p13) (.t p20) (.k (.b false)))), (.u (.mv p22 (.t p21))), (.g p22 true (some p23) (.fad p23 (.t p4) 1)), (.g p22 true (some p24) (.fad p24 (.t p23) 1)), (.g p22 true (some p25) (.ld1 p25 (.t p24))), (.g p22 true (some p26) (.cf (some p26) p86 [(.t p25), (.k (.i .i64 2000))])), (.u (.pick p27 (.t p22) (.t p26) (.k (.b false)))), (.u (.mv p5 (.t p27)))]) .ret))
def rs114 : List RR := [(.t p5)]
theorem fn114 : FnOk Try.prog p115.ix 27 rc114 rs114 := ⟨Try.f114, bodyC Try.f114, Try.func114, by kernel_rfl, by kernel_rfl, by kernel_rfl, by kernel_rfl, by kernel_rfl⟩
noncomputable def rc115 : RC := (.seq (.reg [(.u (.box p3 (.t p1))), (.u (.box p4 (.t p2))), (.u (.new p5 [(.i .i64 0), (.i .i64 0)])), (.u (.new p6 [(.i .i64 0), (.i .i64 0)])), (.u (.new p7 [(.i .i64 0), (.i .i64 0)]))]) (.seq (.drw [(.u (.fad p8 (.t p4) 0)), (.u (.ld1 p9 (.t p8))), (.u (.fad p10 (.t p4) 0)), (.u (.ld1 p11 (.t p10))), (.u (.bld p12 [(.i .i64 0), (.i .i64 0)] [(0, (1, (.t p9))), (1, (1, (.t p11)))])), (.u (.fad p13 (.t p4) 1)), (.u (.ld1 p14 (.t p13))), (.u (.fad p15 (.t p4) 1)), (.u (.ld1 p16 (.t p15))), (.u (.bld p17 [(.i .i64 0), (.i .i64 0)] [(0, (1, (.t p14))), (1, (1, (.t p16)))])), (.u (.fad p18 (.t p4) 2)), (.u (.ld1 p19 (.t p18))), (.u (.fad p20 (.t p4) 2)), (.u (.ld1 p21 (.t p20))), (.u (.bld p22 [(.i .i64 0), (.i .i64 0)] [(0, (1, (.t p19))), (1, (1, (.t p21)))])), (.u (.st (.t p5) (.t p12) 2)), (.u (.st (.t p6) (.t p17) 2)), (.u (.st (.t p7) (.t p22) 2))] [0, 1, 0, 4, 15, 0, 32, 0, 128, 480, 0, 1024, 0, 4096, 15360, 31, 33791, 131071]) (.seq (.seq (.reg [(.u (.fad p23 (.t p4) 0)), (.u (.ld1 p24 (.t p23))), (.u (.bin p25 .eql (.t p24) (.k (.i .i64 0))))]) (.cond (.t p25) (.reg [(.u (.bld p26 [(.i .i64 0), (.i .i64 0)] [(0, (1, (.k (.i .i64 1)))), (1, (1, (.k (.i .i64 2))))])), (.u (.st (.t p5) (.t p26) 2))]) .skip)) (.seq (.seq (.reg [(.u (.fad p27 (.t p4) 1)), (.u (.ld1 p28 (.t p27))), (.u (.bin p29 .eql (.t p28) (.k (.i .i64 (-1)))))]) (.cond (.t p29) (.reg [(.u (.fad p30 (.t p3) 0)), (.u (.fad p31 (.t p30) 0)), (.u (.ld1 p32 (.t p31))), (.u (.bin p33 .sub (.t p32) (.k (.i .i64 1)))), (.u (.bld p34 [(.i .i64 0), (.i .i64 0)] [(0, (1, (.k (.i .i64 0)))), (1, (1, (.t p33)))])), (.u (.st (.t p6) (.t p34) 2))]) .skip)) (.seq (.seq (.reg [(.u (.fad p35 (.t p4) 2)), (.u (.ld1 p36 (.t p35))), (.u (.bin p37 .eql (.t p36) (.k (.i .i64 (-1)))))]) (.cond (.t p37) (.reg [(.u (.fad p38 (.t p3) 0)), (.u (.fad p39 (.t p38) 0)), (.u (.ld1 p40 (.t p39))), (.u (.bin p41 .sub (.t p40) (.k (.i .i64 1)))), (.u (.bld p42 [(.i .i64 0), (.i .i64 0)] [(0, (1, (.k (.i .i64 0)))), (1, (1, (.t p41)))])), (.u (.st (.t p7) (.t p42) 2))]) .skip)) (.seq (.drw [(.u (.ldn p43 (.t p5) 2)), (.u (.ldn p44 (.t p6) 2)), (.u (.ldn p45 (.t p7) 2)), (.u (.st (.t p5) (.t p43) 2)), (.u (.st (.t p6) (.t p44) 2)), (.u (.st (.t p7) (.t p45) 2))] [0, 0, 0, 1, 11, 31]) .ret))))))
def rs115 : List RR := [(.cn p5 2), (.cn p6 2), (.cn p7 2)]
theorem fn115 : FnOk Try.prog p116.ix 45 rc115 rs115 := ⟨Try.f115, bodyC Try.f115, Try.func115, by kernel_rfl, by kernel_rfl, by kernel_rfl, by kernel_rfl, by kernel_rfl⟩
noncomputable def rc116 : RC := (.seq (.reg [(.u (.box p2 (.t p1))), (.u (.mv p3 (.k (.i .i64 0))))]) (.seq (.reg [(.u (.fad p4 (.t p2) 1)), (.u (.ld1 p5 (.t p4))), (.u (.fad p6 (.t p2) 0)), (.u (.ld1 p7 (.t p6))), (.u (.bin p8 .sub (.t p5) (.t p7))), (.u (.bin p9 .add (.t p8) (.k (.i .i64 1)))), (.u (.mv p3 (.t p9)))]) .ret))
def rs116 : List RR := [(.t p3)]
theorem fn116 : FnOk Try.prog p117.ix 9 rc116 rs116 := ⟨Try.f116, bodyC Try.f116, Try.func116, by kernel_rfl, by kernel_rfl, by kernel_rfl, by kernel_rfl, by kernel_rfl⟩
end Go.Ev
namespace Go.Ev
open Go.Proofs
set_option maxRecDepth 1000000
noncomputable def rc40 : RC := (.seq (.reg [(.u (.box p2 (.t p1))), (.u (.new p3 [(.i .i64 0), (.i .i64 0)]))]) (.seq (.reg [(.u (.fad p4 (.t p2) 0)), (.u (.ld1 p5 (.t p4))), (.u (.fad p6 (.t p2) 1)), (.u (.ld1 p7 (.t p6))), (.u (.bld p8 [(.i .i64 0), (.i .i64 0)] [(0, (1, (.t p5))), (1, (1, (.t p7)))])), (.u (.st (.t p3) (.t p8) 2))]) .ret))
def rs40 : List RR := [(.cn p3 2)]
theorem fn40 : FnOk Try.prog p41.ix 8 rc40 rs40 := ⟨Try.f40, bodyC Try.f40, Try.func40, by kernel_rfl, by kernel_rfl, by kernel_rfl, by kernel_rfl, by kernel_rfl⟩
noncomputable def rc134 : RC := (.seq (.reg [(.u (.ldn p12 (.t p2) 6)), (.u (.ldn p13 (.t p3) 3)), (.u (.cf (some p14) p116 [(.t p12), (.t p13)])), (.u (.mv p11 (.t p14))), (.u (.ext p15 (.t p11) 0)), (.u (.ext p16 (.t p11) 1)), (.u (.ext p17 (.t p11) 2)), (.u (.new p5 [(.i .i64 0), (.i .i64 0)])), (.u (.new p6 [(.i .i64 0), (.i .i64 0)])), (.u (.new p7 [(.i .i64 0), (.i .i64 0)])), (.u (.st (.t p5) (.t p15) 2)), (.u (.st (.t p6) (.t p16) 2)), (.u (.st (.t p7) (.t p17) 2))]) (.seq (.reg [(.u (.fad p18 (.t p5) 0)), (.u (.ld1 p19 (.t p18))), (.u (.mv p8 (.t p19)))]) (.blk 0 (.loop (.seq (.seq (.reg [(.u (.mv p20 (.t p8))), (.u (.fad p21 (.t p5) 1)), (.u (.ld1 p22 (.t p21))), (.u (.bin p23 .leq (.t p20) (.t p22)))]) (.cond (.t p23) .skip (.exit 0))) (.seq (.blk 1 (.seq (.reg [(.u (.fad p26 (.t p6) 0)), (.u (.ld1 p27 (.t p26))), (.u (.mv p9 (.t p27)))]) (.blk 2 (.loop (.seq (.seq (.reg [(.u (.mv p28 (.t p9))), (.u (.fad p29 (.t p6) 1)), (.u (.ld1 p30 (.t p29))), (.u (.bin p31 .leq (.t p28) (.t p30)))]) (.cond (.t p31) .skip (.exit 2))) (.seq (.blk 3 (.seq (.reg [(.u (.fad p34 (.t p7) 0)), (.u (.ld1 p35 (.t p34))), (.u (.mv p10 (.t p35)))]) (.blk 4 (.loop (.seq (.seq (.reg [(.u (.mv p36 (.t p10))), (.u (.fad p37 (.t p7) 1)), (.u (.ld1 p38 (.t p37))), (.u (.bin p39 .leq (.t p36) (.t p38)))]) (.cond (.t p39) .skip (.exit 4))) (.seq (.blk 5 (.seq (.reg [(.u (.mv p42 (.t p1))), (.u (.mv p43 (.t p8))), (.u (.mv p44 (.t p9))), (.u (.mv p45 (.t p10))), (.u (.bld p46 [(.i .i64 0), (.i .i64 0), (.i .i64 0)] [(0, (1, (.t p43))), (1, (1, (.t p44))), (2, (1, (.t p45)))])), (.u (.cv (some p47) (.t p42) [(.t p46)])), (.u (.un p48 .not (.t p47)))]) (.cond (.t p48) .ret .skip))) (.reg [(.u (.mv p40 (.t p10))), (.u (.bin p41 .add (.t p40) (.k (.i .i64 1)))), (.u (.mv p10 (.t p41)))]))))))) (.reg [(.u (.mv p32 (.t p9))), (.u (.bin p33 .add (.t p32) (.k (.i .i64 1)))), (.u (.mv p9 (.t p33)))]))))))) (.reg [(.u (.mv p24 (.t p8))), (.u (.bin p25 .add (.t p24) (.k (.i .i64 1)))), (.u (.mv p8 (.t p25)))])))))))
def rs134 : List RR := []
theorem fn134 : FnOk Try.prog p135.ix 48 rc134 rs134 := ⟨Try.f134, bodyC Try.f134, Try.func134, by kernel_rfl, by kernel_rfl, by kernel_rfl, by kernel_rfl, by kernel_rfl⟩
end Go.Ev