import Derived.Test.YtmlpgfmbhpefmaaEvOO
import Derived.ShutString
import Derived.WalkKit
import Derived.ProofKit
import Derived.Test.YtmlpgfmbhpefmaaEvKp
set_option linter.all false
namespace Go.Ev
open Go.RowKit Go.ChangeShapes

/-- What the parameters of a function are: a struct, or one cell. -/
def FitP : List (Bool × List CK) → List D → Prop
  | [], ds => ds = []
  | (true, r) :: ps, ds => ∃ es ds', ds = .ag es :: ds' ∧ FitL r es ∧ FitP ps ds'
  | (false, r) :: ps, ds => ∃ d ds', ds = d :: ds' ∧ FitL r [d] ∧ FitP ps ds'
def parT (P : Program) (n : Nat) (t : TypeId) : Option (Bool × List CK) := match P.underlying t with
  | some (.struct _) => match rowT P n t with
    | some r => some (true, r)
    | none => none
  | some (.slice _) => match rowT P n t with
    | some r => some (false, r)
    | none => none
  | some (.int _) => match rowT P n t with
    | some r => some (false, r)
    | none => none
  | some .bool => match rowT P n t with
    | some r => some (false, r)
    | none => none
  | _ => none
def parsT (P : Program) (n : Nat) : List TypeId → Option (List (Bool × List CK))
  | [] => some []
  | t :: ts => match parT P n t, parsT P n ts with
    | some p, some ps => some (p :: ps)
    | _, _ => none
section
variable {H : Type} {enc : TypeId × Value → H} {P : Program} {w : World} {r : Reach} {b0 : Nat} {spare : Nat → Bool} {held : Bool} {n : Nat}
theorem open_bool {t : TypeId} {v : Value} {d : DataW H} {ps : List MemPlace} (ht : P.underlying t = some .bool) (hv : Value.okWide P w r b0 t v) (h : DataW.Trod enc P w 0 spare held t v d ps) : ∃ b, v = .bool b := by
  simp only [Value.okWide, ht, Cell.okWide] at hv
  obtain ⟨m, h⟩ := h
  obtain ⟨b, hc, _⟩ := DataW.trod_bool ht h
  cases v <;> simp_all [Value.cells, Cell.ok]
theorem open_one {t : TypeId} {v : Value} {d : DataW H} {ps : List MemPlace} {par : Bool × List CK} (hp : parT P n t = some par) (hv : Value.okWide P w r b0 t v) (h : DataW.Trod enc P w 0 spare held t v d ps) :
    ∃ e : D, DV (γH w) w e v ∧ ∀ (qs : List (Bool × List CK)) (es : List D), FitP qs es → FitP (par :: qs) (e :: es) := by
  unfold parT at hp
  cases ht : P.underlying t with
  | none => rw [ht] at hp; cases hp
  | some u =>
    rw [ht] at hp
    cases hr : rowT P n t with
    | none => cases u <;> simp only [hr] at hp <;> cases hp
    | some row =>
      cases u <;> simp only [hr] at hp <;> first | cases hp; done | skip
      case bool =>
        cases hp
        obtain ⟨b, rfl⟩ := open_bool ht hv h
        have hrow : row = [.b] := by
          cases n with
          | zero => cases hr
          | succ n => simp only [rowT, ht, Option.some.injEq] at hr; exact hr.symm
        subst hrow
        exact ⟨.b b, DV_of_b _, fun qs es hq => by unfold FitP; exact ⟨_, _, rfl, by simp [FitL, FitC], hq⟩⟩
      case int k =>
        cases hp
        obtain ⟨m, rfl, hm⟩ := open_num ht hv h
        have hrow : row = [.i k] := by
          cases n with
          | zero => cases hr
          | succ n => simp only [rowT, ht, Option.some.injEq] at hr; exact hr.symm
        subst hrow
        exact ⟨.i k m, DV_of_i _ _, fun qs es hq => by unfold FitP; exact ⟨_, _, rfl, by simp [FitL, FitC, hm], hq⟩⟩
      case slice e =>
        cases hp
        obtain ⟨ds, h1, h2⟩ := open_list ht hv hr h
        cases ds with
        | nil => unfold DVL at h2; cases h2
        | cons d ds =>
          unfold DVL at h2
          obtain ⟨v', r', h3, h4, h5⟩ := h2
          cases h3
          cases ds with
          | nil => exact ⟨d, h4, fun qs es hq => by unfold FitP; exact ⟨_, _, rfl, h1, hq⟩⟩
          | cons d' ds =>
            unfold DVL at h5
            obtain ⟨_, _, h6, _⟩ := h5
            cases h6
      case struct fs =>
        cases hp
        obtain ⟨ds, h1, h2⟩ := open_struct ht hv hr h
        exact ⟨.ag ds, h2, fun qs es hq => by unfold FitP; exact ⟨_, _, rfl, h1, hq⟩⟩
theorem open_all : ∀ {ts : List TypeId} {vs : List Value} {ds : List (DataW H)} {ps : List MemPlace} {pars : List (Bool × List CK)}, parsT P n ts = some pars → DataW.TrodAll enc P w 0 spare held ts vs ds ps → (∀ (j : Nat) t v, ts[j]? = some t → vs[j]? = some v → Value.okWide P w r b0 t v) → ∃ es, FitP pars es ∧ DVL (γH w) w es vs
  | [], vs, ds, ps, pars, hp, h, hv => by
    obtain ⟨rfl, rfl, rfl⟩ := trodAll_nil h
    cases hp
    exact ⟨[], by simp [FitP], DVL.nil⟩
  | t :: ts, vs, ds, ps, pars, hp, h, hv => by
    obtain ⟨v, vs', d, ds', p, q, rfl, rfl, rfl, h1, h2⟩ := trodAll_cons h
    unfold parsT at hp
    cases ha : parT P n t with
    | none => rw [ha] at hp; cases hp
    | some a =>
      cases hb : parsT P n ts with
      | none => rw [ha, hb] at hp; cases hp
      | some b =>
        rw [ha, hb] at hp
        cases hp
        obtain ⟨e, k1, k2⟩ := open_one ha (hv 0 t v rfl rfl) h1
        obtain ⟨es, k3, k4⟩ := open_all hb h2 fun j t v x y => hv (j + 1) t v x y
        exact ⟨e :: es, k2 _ _ k3, DVL.cons k1 k4⟩
theorem stays_all (hl : laidOutB P = true) {W W' : World} {sp' : Nat → Bool} : ∀ {ts : List TypeId} {vs : List Value} {ds : List (DataW H)} {ps : List MemPlace}, (∀ t ∈ ts, P.readableRec t = true ∧ t < P.types.size) → DataW.TrodAll enc P W 0 (fun _ => true) true ts vs ds ps → (∀ p ∈ ps, W.sameAt W' p) → (∀ p ∈ ps, sp' p.block = true) → DataW.TrodAll enc P W' 0 sp' true ts vs ds ps
  | [], vs, ds, ps, _, h, _, _ => by
    obtain ⟨rfl, rfl, rfl⟩ := trodAll_nil h
    exact trodAll_mk0
  | t :: ts, vs, ds, ps, ht, h, h1, h2 => by
    obtain ⟨v, vs', d, ds', p, q, rfl, rfl, rfl, k1, k2⟩ := trodAll_cons h
    exact ⟨p, q, Go.WideElems.Trod_stays hl (ht t (by simp)).1 (ht t (by simp)).2 k1 (fun x hx => h1 x (List.mem_append_left _ hx)) (fun x hx => h2 x (List.mem_append_left _ hx)),
      stays_all hl (fun t h => ht t (by simp [h])) k2 (fun x hx => h1 x (List.mem_append_right _ hx)) (fun x hx => h2 x (List.mem_append_right _ hx)), rfl⟩
end
end Go.Ev

namespace Go.Ev
theorem fit_cnts : ∀ {es : List (List D)}, (∀ x ∈ es, FitL [.b, .i .i64, .i .i64] x) → ∃ cs, es = rows cntD cs
  | [], _ => ⟨[], rfl⟩
  | x :: es, h => by
    obtain ⟨l, rfl⟩ := fit_cnts (es := es) fun y hy => h y (by simp [hy])
    have h1 := h x (by simp)
    simp only [FitL, FitC] at h1
    obtain ⟨d, ds, rfl, ⟨b, rfl⟩, d2, ds2, rfl, ⟨n2, rfl, _⟩, d3, ds3, rfl, ⟨n3, rfl, _⟩, rfl⟩ := h1
    exact ⟨⟨b, n2, n3⟩ :: l, rfl⟩
theorem fit_row {ds : List D} (h : FitL [.sl [.i .i64], .sl [.b, .i .i64, .i .i64], .i .i64, .i .i64] ds) : ∃ l cs wr off, ds = [.lst 1 (ints l), .lst 3 (rows cntD cs), .i .i64 wr, .i .i64 off] := by
  simp only [FitL, FitC] at h
  obtain ⟨d, ds, rfl, ⟨e1, rfl, h1⟩, d2, ds2, rfl, ⟨e2, rfl, h2⟩, d3, ds3, rfl, ⟨n3, rfl, _⟩, d4, ds4, rfl, ⟨n4, rfl, _⟩, rfl⟩ := h
  obtain ⟨l, rfl, _⟩ := fit_ints fun x hx => by have := h1 x hx; simpa only [FitL, FitC] using this
  obtain ⟨cs, rfl⟩ := fit_cnts fun x hx => by have := h2 x hx; simpa only [FitL, FitC] using this
  exact ⟨l, cs, n3, n4, rfl⟩
section
variable {ps : List (Bool × List CK)} {ds : List D}
theorem FitP.row (h : FitP ((true, [.sl [.i .i64], .sl [.b, .i .i64, .i .i64], .i .i64, .i .i64]) :: ps) ds) : ∃ l cs wr off ds', ds = .ag [.lst 1 (ints l), .lst 3 (rows cntD cs), .i .i64 wr, .i .i64 off] :: ds' ∧ FitP ps ds' := by
  unfold FitP at h
  obtain ⟨es, ds', rfl, h1, h2⟩ := h
  obtain ⟨l, cs, wr, off, rfl⟩ := fit_row h1
  exact ⟨l, cs, wr, off, ds', rfl, h2⟩
theorem FitP.cnt (h : FitP ((true, [.b, .i .i64, .i .i64]) :: ps) ds) : ∃ (c : Cnt) (ds' : List D), ds = .ag (cntD c) :: ds' ∧ FitP ps ds' := by
  unfold FitP at h
  obtain ⟨es, ds', rfl, h1, h2⟩ := h
  simp only [FitL, FitC] at h1
  obtain ⟨d, ds, rfl, ⟨b, rfl⟩, d2, ds2, rfl, ⟨n2, rfl, _⟩, d3, ds3, rfl, ⟨n3, rfl, _⟩, rfl⟩ := h1
  exact ⟨⟨b, n2, n3⟩, ds', rfl, h2⟩
theorem FitP.i {k : IntKind} (h : FitP ((false, [.i k]) :: ps) ds) : ∃ n ds', ds = .i k n :: ds' ∧ (Lit.int k n).wf = true ∧ FitP ps ds' := by
  unfold FitP at h
  obtain ⟨d, ds', rfl, h1, h2⟩ := h
  simp only [FitL, FitC] at h1
  obtain ⟨d, ds, e, ⟨n, rfl, hw⟩, rfl⟩ := h1
  cases e
  exact ⟨n, ds', rfl, hw, h2⟩
theorem FitP.b (h : FitP ((false, [.b]) :: ps) ds) : ∃ t ds', ds = .b t :: ds' ∧ FitP ps ds' := by
  unfold FitP at h
  obtain ⟨d, ds', rfl, h1, h2⟩ := h
  simp only [FitL, FitC] at h1
  obtain ⟨d, ds, e, ⟨n, rfl⟩, rfl⟩ := h1
  cases e
  exact ⟨n, ds', rfl, h2⟩
theorem FitP.list (h : FitP ((false, [.sl [.i .i64]]) :: ps) ds) : ∃ t ds', ds = .lst 1 (ints t) :: ds' ∧ (∀ n ∈ t, wfB .i64 n = true) ∧ FitP ps ds' := by
  unfold FitP at h
  obtain ⟨d, ds', rfl, h1, h2⟩ := h
  simp only [FitL, FitC] at h1
  obtain ⟨d, ds, e, ⟨es, rfl, h1⟩, rfl⟩ := h1
  cases e
  obtain ⟨l, rfl, hl⟩ := fit_ints fun x hx => by have := h1 x hx; simpa only [FitL, FitC] using this
  exact ⟨l, ds', rfl, hl, h2⟩
/-- Rows of numbers of a kind. -/
def numsK (k : IntKind) (l : List Int) : List (List D) := l.map fun n => [D.i k n]
theorem fit_nums {k : IntKind} : ∀ {es : List (List D)}, (∀ x ∈ es, FitL [.i k] x) → ∃ l, es = numsK k l ∧ ∀ n ∈ l, (Lit.int k n).wf = true
  | [], _ => ⟨[], rfl, fun n h => by cases h⟩
  | x :: es, h => by
    obtain ⟨l, rfl, hl⟩ := fit_nums (es := es) fun y hy => h y (by simp [hy])
    have h1 := h x (by simp)
    simp only [FitL, FitC] at h1
    obtain ⟨d, ds, rfl, ⟨n, rfl, hn⟩, rfl⟩ := h1
    refine ⟨n :: l, rfl, fun m hm => ?_⟩
    rcases List.mem_cons.1 hm with rfl | hm
    · exact hn
    · exact hl m hm
theorem FitP.nums {k : IntKind} (h : FitP ((false, [.sl [.i k]]) :: ps) ds) : ∃ t ds', ds = .lst 1 (numsK k t) :: ds' ∧ (∀ n ∈ t, (Lit.int k n).wf = true) ∧ FitP ps ds' := by
  unfold FitP at h
  obtain ⟨d, ds', rfl, h1, h2⟩ := h
  simp only [FitL, FitC] at h1
  obtain ⟨d, ds, e, ⟨es, rfl, h1⟩, rfl⟩ := h1
  cases e
  obtain ⟨l, rfl, hl⟩ := fit_nums (k := k) fun x hx => by have := h1 x hx; simpa only [FitL, FitC] using this
  exact ⟨l, ds', rfl, hl, h2⟩
theorem FitP.no (h : FitP [] ds) : ds = [] := by unfold FitP at h; exact h
end
theorem wf_u8 {n : Int} (h : (Lit.int .u8 n).wf = true) : 0 ≤ n ∧ n ≤ 255 := by
  simp only [Lit.wf, Bool.and_eq_true, decide_eq_true_eq] at h
  exact ⟨h.1, h.2⟩
theorem wf_u16 {n : Int} (h : (Lit.int .u16 n).wf = true) : 0 ≤ n ∧ n ≤ 65535 := by
  simp only [Lit.wf, Bool.and_eq_true, decide_eq_true_eq] at h
  exact ⟨h.1, h.2⟩
theorem len1 {α : Type} {l : List α} (h : l.length = 1) : ∃ a, l = [a] := by
  match l, h with
  | [a], _ => exact ⟨a, rfl⟩
theorem len2 {α : Type} {l : List α} (h : l.length = 2) : ∃ a b, l = [a, b] := by
  match l, h with
  | [a, b], _ => exact ⟨a, b, rfl⟩
theorem len3 {α : Type} {l : List α} (h : l.length = 3) : ∃ a b c, l = [a, b, c] := by
  match l, h with
  | [a, b, c], _ => exact ⟨a, b, c, rfl⟩
theorem len4 {α : Type} {l : List α} (h : l.length = 4) : ∃ a b c d, l = [a, b, c, d] := by
  match l, h with
  | [a, b, c, d], _ => exact ⟨a, b, c, d, rfl⟩
theorem len5 {α : Type} {l : List α} (h : l.length = 5) : ∃ a b c d e, l = [a, b, c, d, e] := by
  match l, h with
  | [a, b, c, d, e], _ => exact ⟨a, b, c, d, e, rfl⟩
theorem trod_len {H : Type} {enc : TypeId × Value → H} {P : Program} {w : World} {base : Nat} {spare : Nat → Bool} {held : Bool} : ∀ {ts : List TypeId} {vs : List Value} {ds : List (DataW H)} {ps : List MemPlace}, DataW.TrodAll enc P w base spare held ts vs ds ps → ds.length = ts.length
  | [], vs, ds, ps, h => by obtain ⟨rfl, rfl, rfl⟩ := Go.ChangeShapes.trodAll_nil h; rfl
  | t :: ts, vs, ds, ps, h => by
    obtain ⟨v, vs', d, ds', p, q, rfl, rfl, rfl, h1, h2⟩ := Go.ChangeShapes.trodAll_cons h
    rw [List.length_cons, List.length_cons, trod_len h2]
end Go.Ev
namespace Go.Ev
def allT (P : Program) : List TypeId → Bool
  | [] => true
  | t :: ts => P.readableRec t && decide (t < P.types.size) && allT P ts
theorem of_allT {P : Program} : ∀ {ts : List TypeId}, allT P ts = true → ∀ t ∈ ts, P.readableRec t = true ∧ t < P.types.size
  | [], _, t, h => by cases h
  | a :: ts, h, t, ht => by
    unfold allT at h
    rw [Bool.and_eq_true, Bool.and_eq_true, decide_eq_true_iff] at h
    rcases List.mem_cons.1 ht with rfl | ht
    · exact h.1
    · exact of_allT h.2 t ht
end Go.Ev
