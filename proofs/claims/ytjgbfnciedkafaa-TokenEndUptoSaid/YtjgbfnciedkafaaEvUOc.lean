import Derived.Test.YtjgbfnciedkafaaEvUIt
import Derived.Test.YtjgbfnciedkafaaEvUSh
import Derived.Below
import Derived.ShutString
import Derived.WalkKit
import Derived.ProofKit
import Derived.Test.YtjgbfnciedkafaaEvUWp
set_option linter.all false
namespace Go.Ev
open Go.RowKit

theorem PureF.calls {P : Program} {f : Nat} {ds : List D} (h : PureF P f ds (.b true)) {args : Array Value} {w : World} (ha : DVL (γH w) w ds args.toList) (hL : LRok w := by intro g r h; cases h) : Calls P f args w fun e w' => e = .returned (.bool true) ∧ Grown w w' ∧ Below w.heap.size w w' := by
  obtain ⟨_, c2⟩ := (h .e .h none).ok (fun _ => True) (fun _ _ => trivial) (γH w) args w (ghH hL) ha (fun id c _ hc => by rw [T.get_e] at hc; cases hc) (fun _ _ _ => rfl)
  refine (callsIn_wide (n := 0)).1 (c2 none 0 _ fun γ' w' u _ F hu _ _ => ?_)
  obtain rfl := DV_b hu
  exact ⟨rfl, F.grown (fun _ => rfl), ⟨F.os, F.tape, F.output, F.size, fun k hk => F.blk k hk fun id st _ hst => absurd hst (Nat.not_lt_zero st)⟩⟩
theorem wfB_of {n : Int} (h : (Lit.int .i64 n).wf = true) : wfB .i64 n = true := by
  obtain ⟨h1, h2⟩ := Go.bounds_i64 h
  cases n with
  | ofNat m =>
    have h2 : (m : Int) ≤ 9223372036854775807 := h2
    exact Nat.ble_eq_true_of_le (by simp only [imax]; omega)
  | negSucc m =>
    show (IntKind.signed .i64 && Nat.ble m (imax .i64)) = true
    rw [show IntKind.signed .i64 = true from rfl, Bool.true_and]
    exact Nat.ble_eq_true_of_le (by simp only [imax]; omega)
theorem fit_ints : ∀ {es : List (List D)}, (∀ x ∈ es, FitL [.i .i64] x) → ∃ l, es = ints l ∧ ∀ n ∈ l, wfB .i64 n = true
  | [], _ => ⟨[], rfl, fun n h => by cases h⟩
  | x :: es, h => by
    obtain ⟨l, rfl, hl⟩ := fit_ints (es := es) fun y hy => h y (by simp [hy])
    have h1 := h x (by simp)
    simp only [FitL, FitC] at h1
    obtain ⟨d, ds, rfl, ⟨n, rfl, hn⟩, rfl⟩ := h1
    refine ⟨n :: l, rfl, fun m hm => ?_⟩
    rcases List.mem_cons.1 hm with rfl | hm
    · exact wfB_of hn
    · exact hl m hm
theorem open_list {H : Type} {enc : TypeId × Value → H} {P : Program} {w : World} {r : Reach} {b0 : Nat} {t e : TypeId} {v : Value} {d : DataW H} {ps : List MemPlace} {spare : Nat → Bool} {held : Bool} {n : Nat} {row : List CK} (ht : P.underlying t = some (.slice e)) (hv : Value.okWide P w r b0 t v) (hr : rowT P n t = some row) (h : DataW.Trod enc P w 0 spare held t v d ps) : ∃ ds, FitL row ds ∧ DVL (γH w) w ds [v] := by
  obtain ⟨a, len, cap, rfl⟩ := Go.WideShapes.okWide_slice ht hv
  obtain ⟨m, h⟩ := h
  obtain ⟨ds, h1, h2, _⟩ := trod_row n hr h
  exact ⟨ds, h1, h2⟩
theorem open_struct {H : Type} {enc : TypeId × Value → H} {P : Program} {w : World} {r : Reach} {b0 : Nat} {t : TypeId} {fs : Array Field} {v : Value} {d : DataW H} {ps : List MemPlace} {spare : Nat → Bool} {held : Bool} {n : Nat} {row : List CK} (ht : P.underlying t = some (.struct fs)) (hv : Value.okWide P w r b0 t v) (hr : rowT P n t = some row) (h : DataW.Trod enc P w 0 spare held t v d ps) : ∃ ds, FitL row ds ∧ DV (γH w) w (.ag ds) v := by
  have : ∃ cs, v = .agg cs := by
    simp only [Value.okWide, ht] at hv
    obtain ⟨cs, rfl, _⟩ := hv
    exact ⟨cs, rfl⟩
  obtain ⟨cs, rfl⟩ := this
  obtain ⟨m, h⟩ := h
  obtain ⟨ds, h1, h2, h3⟩ := trod_row n hr h
  refine ⟨ds, h1, ?_⟩
  unfold DV
  exact ⟨cs, rfl, h2, h3⟩
theorem open_num {H : Type} {enc : TypeId × Value → H} {P : Program} {w : World} {r : Reach} {b0 : Nat} {t : TypeId} {k : IntKind} {v : Value} {d : DataW H} {ps : List MemPlace} {spare : Nat → Bool} {held : Bool} (ht : P.underlying t = some (.int k)) (hv : Value.okWide P w r b0 t v) (h : DataW.Trod enc P w 0 spare held t v d ps) : ∃ n, v = .int k n ∧ (Lit.int k n).wf = true := by
  simp only [Value.okWide, ht, Cell.okWide] at hv
  obtain ⟨m, h⟩ := h
  obtain ⟨n, hc, _, hw⟩ := DataW.trod_int ht h
  cases v <;> simp_all [Value.cells, Cell.ok]
end Go.Ev

namespace Go.Ev
open Go.RowKit Go.ChangeShapes

def FitP : List (Bool × List CK) → List D → Prop
  | [], ds => ds = []
  | (true, r) :: ps, ds => ∃ es ds', ds = .ag es :: ds' ∧ FitL r es ∧ FitP ps ds'
  | (false, r) :: ps, ds => ∃ d ds', ds = d :: ds' ∧ FitL r [d] ∧ FitP ps ds'
def parT (P : Program) (n : Nat) (t : TypeId) : Option (Bool × List CK) := match P.underlying t with
  | some (.struct _) => match rowT P n t with
    | some r => some (true, r)
    | none => none
  | some (.slice _) => match rowT P n t with
    | some r => some (false, r)
    | none => none
  | some (.int _) => match rowT P n t with
    | some r => some (false, r)
    | none => none
  | some .bool => match rowT P n t with
    | some r => some (false, r)
    | none => none
  | _ => none
def parsT (P : Program) (n : Nat) : List TypeId → Option (List (Bool × List CK))
  | [] => some []
  | t :: ts => match parT P n t, parsT P n ts with
    | some p, some ps => some (p :: ps)
    | _, _ => none
section
variable {H : Type} {enc : TypeId × Value → H} {P : Program} {w : World} {r : Reach} {b0 : Nat} {spare : Nat → Bool} {held : Bool} {n : Nat}
theorem open_bool {t : TypeId} {v : Value} {d : DataW H} {ps : List MemPlace} (ht : P.underlying t = some .bool) (hv : Value.okWide P w r b0 t v) (h : DataW.Trod enc P w 0 spare held t v d ps) : ∃ b, v = .bool b := by
  simp only [Value.okWide, ht, Cell.okWide] at hv
  obtain ⟨m, h⟩ := h
  obtain ⟨b, hc, _⟩ := DataW.trod_bool ht h
  cases v <;> simp_all [Value.cells, Cell.ok]
theorem open_one {t : TypeId} {v : Value} {d : DataW H} {ps : List MemPlace} {par : Bool × List CK} (hp : parT P n t = some par) (hv : Value.okWide P w r b0 t v) (h : DataW.Trod enc P w 0 spare held t v d ps) :
    ∃ e : D, DV (γH w) w e v ∧ ∀ (qs : List (Bool × List CK)) (es : List D), FitP qs es → FitP (par :: qs) (e :: es) := by
  unfold parT at hp
  cases ht : P.underlying t with
  | none => rw [ht] at hp; cases hp
  | some u =>
    rw [ht] at hp
    cases hr : rowT P n t with
    | none => cases u <;> simp only [hr] at hp <;> cases hp
    | some row =>
      cases u <;> simp only [hr] at hp <;> first | cases hp; done | skip
      case bool =>
        cases hp
        obtain ⟨b, rfl⟩ := open_bool ht hv h
        have hrow : row = [.b] := by
          cases n with
          | zero => cases hr
          | succ n => simp only [rowT, ht, Option.some.injEq] at hr; exact hr.symm
        subst hrow
        exact ⟨.b b, DV_of_b _, fun qs es hq => by unfold FitP; exact ⟨_, _, rfl, by simp [FitL, FitC], hq⟩⟩
      case int k =>
        cases hp
        obtain ⟨m, rfl, hm⟩ := open_num ht hv h
        have hrow : row = [.i k] := by
          cases n with
          | zero => cases hr
          | succ n => simp only [rowT, ht, Option.some.injEq] at hr; exact hr.symm
        subst hrow
        exact ⟨.i k m, DV_of_i _ _, fun qs es hq => by unfold FitP; exact ⟨_, _, rfl, by simp [FitL, FitC, hm], hq⟩⟩
      case slice e =>
        cases hp
        obtain ⟨ds, h1, h2⟩ := open_list ht hv hr h
        cases ds with
        | nil => unfold DVL at h2; cases h2
        | cons d ds =>
          unfold DVL at h2
          obtain ⟨v', r', h3, h4, h5⟩ := h2
          cases h3
          cases ds with
          | nil => exact ⟨d, h4, fun qs es hq => by unfold FitP; exact ⟨_, _, rfl, h1, hq⟩⟩
          | cons d' ds =>
            unfold DVL at h5
            obtain ⟨_, _, h6, _⟩ := h5
            cases h6
      case struct fs =>
        cases hp
        obtain ⟨ds, h1, h2⟩ := open_struct ht hv hr h
        exact ⟨.ag ds, h2, fun qs es hq => by unfold FitP; exact ⟨_, _, rfl, h1, hq⟩⟩
theorem stays_all (hl : laidOutB P = true) {W W' : World} {sp' : Nat → Bool} : ∀ {ts : List TypeId} {vs : List Value} {ds : List (DataW H)} {ps : List MemPlace}, (∀ t ∈ ts, P.readableRec t = true ∧ t < P.types.size) → DataW.TrodAll enc P W 0 (fun _ => true) true ts vs ds ps → (∀ p ∈ ps, W.sameAt W' p) → (∀ p ∈ ps, sp' p.block = true) → DataW.TrodAll enc P W' 0 sp' true ts vs ds ps
  | [], vs, ds, ps, _, h, _, _ => by
    obtain ⟨rfl, rfl, rfl⟩ := trodAll_nil h
    exact trodAll_mk0
  | t :: ts, vs, ds, ps, ht, h, h1, h2 => by
    obtain ⟨v, vs', d, ds', p, q, rfl, rfl, rfl, k1, k2⟩ := trodAll_cons h
    exact ⟨p, q, Go.WideElems.Trod_stays hl (ht t (by simp)).1 (ht t (by simp)).2 k1 (fun x hx => h1 x (List.mem_append_left _ hx)) (fun x hx => h2 x (List.mem_append_left _ hx)),
      stays_all hl (fun t h => ht t (by simp [h])) k2 (fun x hx => h1 x (List.mem_append_right _ hx)) (fun x hx => h2 x (List.mem_append_right _ hx)), rfl⟩
end
end Go.Ev

namespace Go.Ev
section
variable {ps : List (Bool × List CK)} {ds : List D}
theorem FitP.i {k : IntKind} (h : FitP ((false, [.i k]) :: ps) ds) : ∃ n ds', ds = .i k n :: ds' ∧ (Lit.int k n).wf = true ∧ FitP ps ds' := by
  unfold FitP at h
  obtain ⟨d, ds', rfl, h1, h2⟩ := h
  simp only [FitL, FitC] at h1
  obtain ⟨d, ds, e, ⟨n, rfl, hw⟩, rfl⟩ := h1
  cases e
  exact ⟨n, ds', rfl, hw, h2⟩
theorem FitP.b (h : FitP ((false, [.b]) :: ps) ds) : ∃ t ds', ds = .b t :: ds' ∧ FitP ps ds' := by
  unfold FitP at h
  obtain ⟨d, ds', rfl, h1, h2⟩ := h
  simp only [FitL, FitC] at h1
  obtain ⟨d, ds, e, ⟨n, rfl⟩, rfl⟩ := h1
  cases e
  exact ⟨n, ds', rfl, h2⟩
theorem FitP.list (h : FitP ((false, [.sl [.i .i64]]) :: ps) ds) : ∃ t ds', ds = .lst 1 (ints t) :: ds' ∧ (∀ n ∈ t, wfB .i64 n = true) ∧ FitP ps ds' := by
  unfold FitP at h
  obtain ⟨d, ds', rfl, h1, h2⟩ := h
  simp only [FitL, FitC] at h1
  obtain ⟨d, ds, e, ⟨es, rfl, h1⟩, rfl⟩ := h1
  cases e
  obtain ⟨l, rfl, hl⟩ := fit_ints fun x hx => by have := h1 x hx; simpa only [FitL, FitC] using this
  exact ⟨l, ds', rfl, hl, h2⟩
theorem FitP.no (h : FitP [] ds) : ds = [] := by unfold FitP at h; exact h
end
theorem wf_u8 {n : Int} (h : (Lit.int .u8 n).wf = true) : 0 ≤ n ∧ n ≤ 255 := by
  simp only [Lit.wf, Bool.and_eq_true, decide_eq_true_eq] at h
  exact ⟨h.1, h.2⟩
theorem len4 {α : Type} {l : List α} (h : l.length = 4) : ∃ a b c d, l = [a, b, c, d] := by
  match l, h with
  | [a, b, c, d], _ => exact ⟨a, b, c, d, rfl⟩
theorem trod_len {H : Type} {enc : TypeId × Value → H} {P : Program} {w : World} {base : Nat} {spare : Nat → Bool} {held : Bool} : ∀ {ts : List TypeId} {vs : List Value} {ds : List (DataW H)} {ps : List MemPlace}, DataW.TrodAll enc P w base spare held ts vs ds ps → ds.length = ts.length
  | [], vs, ds, ps, h => by obtain ⟨rfl, rfl, rfl⟩ := Go.ChangeShapes.trodAll_nil h; rfl
  | t :: ts, vs, ds, ps, h => by
    obtain ⟨v, vs', d, ds', p, q, rfl, rfl, rfl, h1, h2⟩ := Go.ChangeShapes.trodAll_cons h
    rw [List.length_cons, List.length_cons, trod_len h2]
end Go.Ev
namespace Go.Ev
def allT (P : Program) : List TypeId → Bool
  | [] => true
  | t :: ts => P.readableRec t && decide (t < P.types.size) && allT P ts
theorem of_allT {P : Program} : ∀ {ts : List TypeId}, allT P ts = true → ∀ t ∈ ts, P.readableRec t = true ∧ t < P.types.size
  | [], _, t, h => by cases h
  | a :: ts, h, t, ht => by
    unfold allT at h
    rw [Bool.and_eq_true, Bool.and_eq_true, decide_eq_true_iff] at h
    rcases List.mem_cons.1 ht with rfl | ht
    · exact h.1
    · exact of_allT h.2 t ht
end Go.Ev

namespace Go.Ev
open Go.RowKit Go.ChangeShapes
def LstLe (n : Nat) : D → Prop
  | .lst _ es => es.length ≤ n
  | .ag ds => ∀ d ∈ ds, ∀ z es, d = .lst z es → es.length ≤ n
  | _ => True
section
variable {H : Type} {enc : TypeId × Value → H} {P : Program} {w : World} {base : Nat} {spare : Nat → Bool} {held : Bool} {B : DataW H → Nat}
theorem rowF_mem {g : TypeId → Option (List CK)} {cs : List Value} {Q : Value → Prop} : ∀ {fs : List Field} {off : Nat} {r : List CK}, rowF P g fs off = some r → (∀ f ∈ fs, ∀ r', g f.type = some r' → ∀ u ∈ (cs.drop f.offset).take (P.cellsOf f.type), Q u) → off + r.length = cs.length → ∀ u ∈ cs.drop off, Q u
  | [], off, r, h, _, hl, u, hu => by
    cases h
    rw [List.drop_of_length_le (by simp at hl; omega)] at hu
    cases hu
  | f :: fs, off, r, h, hf, hl, u, hu => by
    unfold rowF at h
    split at h
    · rename_i ho
      split at h
      · rename_i r1 hr1
        split at h
        · rename_i hlen
          split at h
          · rename_i rs hrs
            cases h
            rw [List.length_append] at hl
            have e : cs.drop off = (cs.drop off).take r1.length ++ cs.drop (off + r1.length) := by
              rw [← List.drop_drop]; exact (List.take_append_drop _ _).symm
            rw [e] at hu
            rcases List.mem_append.1 hu with hu | hu
            · exact hf f (by simp) r1 hr1 u (by rw [ho, ← hlen]; exact hu)
            · exact rowF_mem hrs (fun f hm => hf f (by simp [hm])) (by omega) u hu
          · cases h
        · cases h
      · cases h
    · cases h
theorem trod_bulk (hs : ∀ (elems spare : List (DataW H)), elems.length ≤ B (.slice elems spare)) (ha : ∀ (parts : List (DataW H)) d, d ∈ parts → B d ≤ B (.agg parts)) : ∀ (n : Nat) {t : TypeId} {r : List CK} {m : Nat} {cs : List Value} {x : DataW H × List MemPlace}, rowT P n t = some r → DataW.trod enc P w base spare held m t cs = some x → ∀ u ∈ cs, ∀ ad len cap, u = .slice ad len cap → len ≤ B x.1
  | 0, t, r, m, cs, x, h, k => by cases h
  | n + 1, t, r, m, cs, x, h, k => by
    unfold rowT at h
    split at h
    · rename_i ht
      obtain ⟨b, rfl, _⟩ := DataW.trod_bool ht k
      intro u hu ad len cap e
      rw [List.mem_singleton.1 hu] at e
      cases e
    · rename_i kk ht
      obtain ⟨v, rfl, _, hw⟩ := DataW.trod_int ht k
      intro u hu ad len cap e
      rw [List.mem_singleton.1 hu] at e
      cases e
    · rename_i e ht
      rcases DataW.trod_slice ht k with ⟨rfl, _⟩ | ⟨a, len, cap, elems, rest, m', _, rfl, hx, _, hlc, _, hel, _⟩
      · intro u hu ad len cap e
        rw [List.mem_singleton.1 hu] at e
        cases e
        exact Nat.zero_le _
      · intro u hu ad len' cap' e
        rw [List.mem_singleton.1 hu] at e
        cases e
        rw [hx]
        have := hs (elems.map (·.1)) (rest.map (·.1))
        rw [List.length_map] at this
        show len ≤ B (.slice _ _)
        omega
    · rename_i fs ht
      split at h
      · rename_i r1 hr1
        split at h
        · rename_i hl
          cases h
          obtain ⟨xs, m', _, hx0, hcl, hxl, hx⟩ := DataW.trod_struct ht k
          intro u hu
          have hu : u ∈ cs.drop 0 := by rw [List.drop_zero]; exact hu
          refine rowF_mem (Q := fun u => ∀ ad len cap, u = .slice ad len cap → len ≤ B x.1) hr1 (fun f hm r' hr' u hu ad len cap e => ?_) (by omega) u hu
          obtain ⟨i, hi, rfl⟩ := List.getElem_of_mem hm
          have h1 := hx i _ (by rw [Array.getElem?_eq_getElem (by simpa using hi)])
          have hxi : i < xs.length := by simp at hi; omega
          rw [List.getElem?_eq_getElem hxi] at h1
          refine Nat.le_trans (trod_bulk hs ha n hr' h1 u hu ad len cap e) ?_
          rw [hx0]
          exact ha _ _ (List.mem_map.2 ⟨xs[i], List.getElem_mem _, rfl⟩)
        · cases h
      · cases h
    · cases h
theorem lstLe_of {γ : Gh} {n : Nat} (hs : ∀ (elems spare : List (DataW H)), elems.length ≤ B (.slice elems spare)) (ha : ∀ (parts : List (DataW H)) d, d ∈ parts → B d ≤ B (.agg parts)) {t : TypeId} {row : List CK} {v : Value} {e : D} {d : DataW H} {ps : List MemPlace} (hr : rowT P n t = some row) (hv : DV γ w e v) (h : DataW.Trod enc P w base spare held t v d ps) : LstLe (B d) e := by
  obtain ⟨m, h⟩ := h
  have key := trod_bulk hs ha n hr h
  cases e <;> try exact trivial
  case lst z es =>
    unfold DV at hv
    obtain ⟨p, cap, rfl, _⟩ := hv
    exact key (.slice p es.length cap) (List.mem_singleton.2 rfl) _ _ _ rfl
  case ag ds =>
    unfold DV at hv
    obtain ⟨cs, rfl, hl, _⟩ := hv
    intro d' hd z es e
    subst e
    obtain ⟨i, hi, he⟩ := List.getElem_of_mem hd
    obtain ⟨h1, h2⟩ := DVL_iff.1 hl
    have h3 := h2 i _ _ (List.getElem?_eq_getElem hi) (List.getElem?_eq_getElem (by omega))
    rw [he] at h3
    unfold DV at h3
    obtain ⟨p, cap, h4, _⟩ := h3
    exact key _ (by simp only [Value.cells]; exact List.getElem_mem _) _ _ _ h4
theorem parT_row {n : Nat} {t : TypeId} {p : Bool × List CK} (h : parT P n t = some p) : ∃ r, rowT P n t = some r := by
  unfold parT at h
  cases hr : rowT P n t with
  | some r => exact ⟨r, rfl⟩
  | none =>
    rw [hr] at h
    split at h <;> cases h
theorem open_allB {r : Reach} {b0 n : Nat} {spare : Nat → Bool} (hs : ∀ (elems spare : List (DataW H)), elems.length ≤ B (.slice elems spare)) (ha : ∀ (parts : List (DataW H)) d, d ∈ parts → B d ≤ B (.agg parts)) : ∀ {ts : List TypeId} {vs : List Value} {ds : List (DataW H)} {ps : List MemPlace} {pars : List (Bool × List CK)} {N : Nat}, parsT P n ts = some pars → DataW.TrodAll enc P w 0 spare held ts vs ds ps → (∀ (j : Nat) t v, ts[j]? = some t → vs[j]? = some v → Value.okWide P w r b0 t v) → (∀ d ∈ ds, B d ≤ N) → ∃ es, FitP pars es ∧ DVL (γH w) w es vs ∧ ∀ e ∈ es, LstLe N e
  | [], vs, ds, ps, pars, N, hp, h, hv, _ => by
    obtain ⟨rfl, rfl, rfl⟩ := trodAll_nil h
    cases hp
    exact ⟨[], by simp [FitP], DVL.nil, fun e he => by cases he⟩
  | t :: ts, vs, ds, ps, pars, N, hp, h, hv, hb => by
    obtain ⟨v, vs', d, ds', p, q, rfl, rfl, rfl, h1, h2⟩ := trodAll_cons h
    unfold parsT at hp
    cases ha' : parT P n t with
    | none => rw [ha'] at hp; cases hp
    | some a =>
      cases hb' : parsT P n ts with
      | none => rw [ha', hb'] at hp; cases hp
      | some b =>
        rw [ha', hb'] at hp
        cases hp
        obtain ⟨e, k1, k2⟩ := open_one ha' (hv 0 t v rfl rfl) h1
        obtain ⟨es, k3, k4, k5⟩ := open_allB hs ha hb' h2 (fun j t v x y => hv (j + 1) t v x y) (fun d hd => hb d (by simp [hd]))
        obtain ⟨row, hrow⟩ := parT_row ha'
        have k6 := lstLe_of hs ha hrow k1 h1
        refine ⟨e :: es, k2 _ _ k3, DVL.cons k1 k4, fun x hx => ?_⟩
        rcases List.mem_cons.1 hx with rfl | hx
        · have hd : B d ≤ N := hb d (by simp)
          cases x <;> first | exact trivial | exact Nat.le_trans k6 hd | exact fun d' hd' z es e => Nat.le_trans (k6 d' hd' z es e) hd
        · exact k5 x hx
end
end Go.Ev

namespace Go.Ev
open Go.RowKit (Below Grown)

structure ShrB (B : Pos → Prop) (z z' : X) : Prop where
  sl : ∀ s d', z'.sl.get s = some d' → ∃ d, z.sl.get s = some d ∧ Fz B z.ob d d'
  ob : ∀ id c', z'.ob.get id = some c' → B id ∧ ∃ c, z.ob.get id = some c ∧ ShC B z.ob c c'
  l : z.lg = none
  l' : z'.lg = none
section
variable {P : Program} {nt : Nat}
structure AgainB {σ : Type} (S : σ → X) (I : σ → Prop) (μ : σ → Nat) (s : σ) (z : X) : Prop where
  ok : ∃ s' B, μ s' < μ s ∧ I s' ∧ (S s).nx.nat ≤ (S s').nx.nat ∧ (∀ id : Pos, id.nat < (S s).nx.nat → B id) ∧ (∀ id : Pos, B id → id.nat < (S s').nx.nat) ∧ ShrB B z (S s')
theorem AgainB.to {σ : Type} {S : σ → X} {I : σ → Prop} {μ : σ → Nat} {s : σ} {z : X} (s' : σ) (B : Pos → Prop) (h : μ s' < μ s) (i : I s') (n : (S s).nx.nat ≤ (S s').nx.nat) (b1 : ∀ id : Pos, id.nat < (S s).nx.nat → B id) (b2 : ∀ id : Pos, B id → id.nat < (S s').nx.nat) (l : ShrB B z (S s')) : AgainB S I μ s z := ⟨s', B, h, i, n, b1, b2, l⟩
theorem Shr.toB {z z' : X} (h : Shr z z') : ShrB (fun id => id.nat < z'.nx.nat) z z' := ⟨h.sl, h.ob, h.l, h.l'⟩
theorem AgainB.sh {σ : Type} {S : σ → X} {I : σ → Prop} {μ : σ → Nat} {s : σ} {z : X} (s' : σ) (h : μ s' < μ s) (i : I s') (n : (S s).nx.nat ≤ (S s').nx.nat) (l : Shr z (S s')) : AgainB S I μ s z :=
  ⟨s', _, h, i, n, fun _ h => Nat.lt_of_lt_of_le h n, fun _ h => h, l.toB⟩
end
end Go.Ev

namespace Go.Ev
open Go.RowKit (Below Grown)
section
variable {P : Program} {nt : Nat}
open Classical in
theorem shrinkB_at {x Z Z' : X} {B : Pos → Prop} {ro : Option Nat} {so : Pos → Prop} {γ γ1 : Gh} {a a1 : Act} {w w1 : World} (S : ShrB B Z Z') (hx : ∀ id : Pos, id.nat < x.nx.nat → B id) (hz : ∀ id : Pos, B id → id.nat < Z'.nx.nat) (hall : ∀ id, so id) (R : Rep P (allS so) γ a w x) (cst : CSt ro Z.lg γ a w γ1 a1 w1) (rep : Rep P (allS so) γ1 a1 w1 Z) :
    ∃ γ2, CSt ro Z'.lg γ a w γ2 a1 w1 ∧ Rep P (allS so) γ2 a1 w1 Z' := by
  have hzero : ∀ id, ¬ B id → γ.cur id = 0 := fun id hid => R.nx id (hall id) (Nat.not_lt.1 fun h => hid (hx id h))
  let γ2 : Gh := ⟨fun id => if B id then γ1.cur id else 0, γ1.β, fun b => γ1.im b ∨ ((∃ id st, ¬ B id ∧ st < γ1.cur id ∧ (γ1.β id st).1 = b) ∧ ∃ vs e fr, w1.heap[b]? = some (.cells vs e fr))⟩
  have c2 : ∀ id, B id → γ2.cur id = γ1.cur id := fun id hid => by show (if _ then _ else _) = _; rw [if_pos hid]
  have c2' : ∀ id, ¬ B id → γ2.cur id = 0 := fun id hid => by show (if _ then _ else _) = _; rw [if_neg hid]
  have lt2 : ∀ id st, st < γ2.cur id → B id ∧ st < γ1.cur id := fun id st hst => by
    by_cases hid : B id
    · rw [c2 id hid] at hst; exact ⟨hid, hst⟩
    · rw [c2' id hid] at hst; exact absurd hst (Nat.not_lt_zero _)
  have hob1 : ∀ id c, Z.ob.get id = some c → HoldsO P γ1 w1 id c := fun id c hc => rep.ob id c (hall id) hc
  have fz : ∀ d d', Fz B Z.ob d d' → ∀ v, DV γ1 w1 d v → DV γ2 w1 d' v := fun d d' hf =>
    Fz.ok (γ := γ1) (γ' := γ2) (fun b hb => .inl hb) hob1 (fun id hid => ⟨c2 id hid, rfl⟩) (fun id st vs e fr hid hst hc => .inr ⟨⟨id, st, hid, hst, rfl⟩, vs, e, fr, hc⟩) hf
  have F := cst.fr
  have fresh : ∀ id st, ¬ B id → st < γ1.cur id → w.heap.size ≤ (γ1.β id st).1 := fun id st hid hst => by
    rcases F.new id st (by rw [hzero id hid]; exact Nat.zero_le _) hst with h | ⟨st0, h, _⟩
    · exact h
    · rw [hzero id hid] at h; exact absurd h (Nat.not_lt_zero _)
  have G2 : G ro γ2 a1 w1 := by
    refine ⟨fun id st hst => cst.g.ob id st (lt2 id st hst).2, fun id st id' st' hst hst' he => cst.g.inj id st id' st' (lt2 id st hst).2 (lt2 id' st' hst').2 he, ?_, cst.g.rd, fun b hb => ?_, cst.g.gl.im fun _ h => .inl h⟩
    · obtain ⟨ms, d1, d2, d3⟩ := cst.g.df
      exact ⟨ms, d1, d2, fun r hr => ⟨(d3 r hr).1, fun id st hst => (d3 r hr).2 id st (lt2 id st hst).2⟩⟩
    · rcases hb with hb | ⟨⟨id', st', h1, h2, h3⟩, h4⟩
      · exact ⟨(cst.g.im b hb).1, fun id st hst => (cst.g.im b hb).2 id st (lt2 id st hst).2⟩
      · refine ⟨h4, fun id st hst e => ?_⟩
        obtain ⟨k1, k2⟩ := lt2 id st hst
        have e : (γ1.β id st).1 = b := e
        obtain ⟨rfl, _⟩ := cst.g.inj id st id' st' k2 h2 (e.trans h3.symm)
        exact h1 k1
  have hw : ∀ {id : Pos}, wrtn Z'.lg id := fun {id} => by rw [S.l']; trivial
  have hwZ : ∀ {id : Pos}, wrtn Z.lg id := fun {id} => by rw [S.l]; trivial
  refine ⟨γ2, ⟨G2, ⟨⟨fun id => ?_, fun id st hst => F.up.β id st hst, F.up.sh, fun b hb => ⟨.inl (F.up.im b hb).1, (F.up.im b hb).2⟩⟩, fun id hn => absurd hw hn, fun b hb hn => F.blk b hb fun id st _ hst => hn id st hw hst, fun id st h1 h2 => F.new id st h1 (lt2 id st h2).2, fun b hb hlt => ?_, F.lp, F.size, F.os, F.tape, F.output, F.fz⟩, cst.sz, cst.dn⟩,
    ⟨fun s d' _ hd => ?_, fun id c' _ hc => ?_, fun id _ hle => c2' id (fun hb => by have := hz id hb; omega), cst.g.gl.im fun _ h => .inl h⟩⟩
  · by_cases hid : B id
    · rw [c2 id hid]; exact F.up.cur id
    · rw [hzero id hid]; exact Nat.zero_le _
  · rcases hb with hb | ⟨⟨id', st', h1, h2, h3⟩, h4⟩
    · exact F.imn b hb hlt
    · have := fresh id' st' h1 h2
      omega
  · obtain ⟨d, h1, h2⟩ := S.sl s d' hd
    obtain ⟨h3, h4⟩ := rep.sl s d trivial h1
    exact ⟨h3, fz d d' h2 _ h4⟩
  · obtain ⟨hid, c, h1, h2⟩ := S.ob id c' hc
    have H := hob1 id c h1
    cases h2 with
    | cells hcc =>
      obtain ⟨q0, q1, q2⟩ := H
      refine ⟨q0, (c2 id hid).trans q1, fun st hst => ?_⟩
      obtain ⟨vs, e, fr, q3, q4, q5⟩ := q2 st hst
      refine ⟨vs, e, fr, q3, q4, fun p c' hp hh hd => ?_⟩
      obtain ⟨c, k1, k2, k3⟩ := hcc p c' hp
      obtain ⟨u, k4, k5, k6⟩ := q5 p c k1 (k2 st hh) hd
      exact ⟨u, k4, fz _ _ k3 u k5, k6⟩
    | map hl hm =>
      obtain ⟨q1, en, cl, q2, q3, q4⟩ := H
      refine ⟨(c2 id hid).trans q1, en, cl, q2, by rw [← hl]; exact q3, fun i e' f he' hf => ?_⟩
      rename_i es es'
      have hi : i < es.length := by rw [hl]; exact (List.getElem?_eq_some_iff.1 he').1
      obtain ⟨k1, k2⟩ := hm i _ e' (List.getElem?_eq_getElem hi) he'
      obtain ⟨k3, k4⟩ := q4 i _ f (List.getElem?_eq_getElem hi) hf
      exact ⟨fz _ _ k1 _ k3, fz _ _ k2 _ k4⟩
    | lp hsl =>
      obtain ⟨q1, l, q2, q3, q4, q5, q6⟩ := H
      refine ⟨(c2 id hid).trans q1, l, q2, q3, q4, fun s d' hs => ?_, q6⟩
      obtain ⟨d, k1, k2⟩ := hsl s d' hs
      exact ⟨(q5 s d k1).1, fz _ _ k2 _ (q5 s d k1).2⟩
    | hole => exact (c2 id hid).trans H
theorem bareW : ∀ c : Code, ∃ c', comp P nt c' = comp P nt c ∧ (∀ d, c' ≠ .scope d) ∧ ∀ {F : Fence} {n : Nat} {Q : Exit → Act → World → Prop} {a : Act} {w : World}, ∃ Q' : Exit → Act → World → Prop, (∀ (e : Ex) a w, Q e.to a w → Q' e.to a w) ∧ (c'.wpIn F n P Q' a w → c.wpIn F n P Q a w)
  | .scope c => let ⟨c', h1, h2, h3⟩ := bareW c; ⟨c', h1, h2, fun {F n Q a w} => by
    obtain ⟨Q', k1, k2⟩ := h3 (F := F) (n := n) (Q := Exit.noGoto Q) (a := a) (w := w)
    exact ⟨Q', fun e a w h => k1 e a w (by cases e <;> exact h), fun h => wpIn_scope_straight' (k2 h)⟩⟩
  | .skip => ⟨.skip, rfl, (fun _ h => by cases h), fun {F n Q a w} => ⟨Q, fun _ _ _ h => h, fun h => h⟩⟩
  | .label l => ⟨.label l, rfl, (fun _ h => by cases h), fun {F n Q a w} => ⟨Q, fun _ _ _ h => h, fun h => h⟩⟩
  | .ret => ⟨.ret, rfl, (fun _ h => by cases h), fun {F n Q a w} => ⟨Q, fun _ _ _ h => h, fun h => h⟩⟩
  | .exit i => ⟨.exit i, rfl, (fun _ h => by cases h), fun {F n Q a w} => ⟨Q, fun _ _ _ h => h, fun h => h⟩⟩
  | .region i o d => ⟨.region i o d, rfl, (fun _ h => by cases h), fun {F n Q a w} => ⟨Q, fun _ _ _ h => h, fun h => h⟩⟩
  | .seq a b => ⟨.seq a b, rfl, (fun _ h => by cases h), fun {F n Q a w} => ⟨Q, fun _ _ _ h => h, fun h => h⟩⟩
  | .cond c a b => ⟨.cond c a b, rfl, (fun _ h => by cases h), fun {F n Q a w} => ⟨Q, fun _ _ _ h => h, fun h => h⟩⟩
  | .block i a => ⟨.block i a, rfl, (fun _ h => by cases h), fun {F n Q a w} => ⟨Q, fun _ _ _ h => h, fun h => h⟩⟩
  | .loop a => ⟨.loop a, rfl, (fun _ h => by cases h), fun {F n Q a w} => ⟨Q, fun _ _ _ h => h, fun h => h⟩⟩
  | .rangeFunc f p a b => ⟨.rangeFunc f p a b, rfl, (fun _ h => by cases h), fun {F n Q a w} => ⟨Q, fun _ _ _ h => h, fun h => h⟩⟩
  | .goto l => ⟨.goto l, rfl, (fun _ h => by cases h), fun {F n Q a w} => ⟨Q, fun _ _ _ h => h, fun h => h⟩⟩
  | .refuse s => ⟨.refuse s, rfl, (fun _ h => by cases h), fun {F n Q a w} => ⟨Q, fun _ _ _ h => h, fun h => h⟩⟩
theorem XOk.seqB {a b c b2 : Code} {x y z z' Z : X} {ex : Ex} {B : Pos → Prop} (hb : ∀ {F : Fence} {n : Nat} {Q : Exit → Act → World → Prop} {a : Act} {w : World}, ∃ Q' : Exit → Act → World → Prop, (∀ (e : Ex) a w, Q e.to a w → Q' e.to a w) ∧ ((Code.seq b c).wpIn F n P Q' a w → b2.wpIn F n P Q a w))
    (h1 : XOk P nt a x .normal y) (h2 : XOk P nt b y .normal z) (S : ShrB B z z') (hx : ∀ id : Pos, id.nat < x.nx.nat → B id) (hz : ∀ id : Pos, B id → id.nat < z'.nx.nat) (hn : x.nx.nat ≤ z'.nx.nat) (h3 : XOk P nt c z' ex Z) : XOk P nt (.seq a b2) x ex Z := by
  have hl : x.lg = none := (h1.lg.trans h2.lg).none.2 S.l
  have hZ : Z.lg = none := h3.lg.none.1 S.l'
  refine ⟨by rw [hl, hZ]; exact LgLe.refl _, Nat.le_trans hn h3.nx, fun id hn => by rw [hZ] at hn; exact absurd trivial hn, fun so hs ro γ a w hn g R n Q hQ => ?_⟩
  have hall : ∀ id, so id := fun id => hs id (by rw [hZ]; trivial)
  refine wpIn_seq (h1.ok so (fun id _ => hall id) ro γ a w hn g R n _ fun γ1 a1 w1 s1 R1 => ?_)
  obtain ⟨Q', k1, k2⟩ := hb (F := FW ro) (n := n) (Q := Q) (a := a1) (w := w1)
  refine k2 (wpIn_seq (h2.ok so (fun id _ => hall id) ro γ1 a1 w1 (s1.sz.trans hn) s1.g R1 n _ fun γ2 a2 w2 s2 R2 => ?_))
  obtain ⟨γ3, s3, R3⟩ := shrinkB_at S hx hz hall R (CSt.trans h2.lg s1 s2) R2
  exact h3.ok so hs ro γ3 a2 w2 (s3.sz.trans hn) s3.g R3 n Q' fun γ4 a4 w4 s4 R4 => k1 _ _ _ <| hQ γ4 a4 w4 (CSt.trans h3.lg s3 s4) R4
structure SeqZ (P : Program) (nt : Nat) (c : RC) (x : X) (K : Ex → X → Prop) (e : Ex) (z : X) : Prop where
  ok : e = .normal ∧ ∃ z' B, ShrB B z z' ∧ (∀ id : Pos, id.nat < x.nx.nat → B id) ∧ (∀ id : Pos, B id → id.nat < z'.nx.nat) ∧ x.nx.nat ≤ z'.nx.nat ∧ Rn P nt c z' K
def seqY (P : Program) (nt : Nat) (b c : RC) (x : X) (K : Ex → X → Prop) (e : Ex) (y : X) : Prop :=
  match e with
  | .normal => Rn P nt b y (SeqZ P nt c x K)
  | .ret => False
  | .exit _ => False
theorem Rn.seqB {a b c : RC} {x : X} {K : Ex → X → Prop} (h : Rn P nt a x (seqY P nt b c x K)) : Rn P nt (.seq a (.seq b c)) x K := Rn.of_bare fun code hc hs => by
  refine other hc hs (fun e => by cases e) (fun _ e => by cases e) (fun j _ e => by cases e) (fun i ops _ e => by cases e) (fun i ops _ e => by cases e) (fun a' b2 e e' => ?_) (fun _ _ _ _ _ _ e => by cases e) (fun _ _ _ e => by cases e) (fun _ _ e => by cases e) (fun _ _ _ _ _ _ _ _ _ e => by cases e) (fun e => by cases e)
  simp only [RC.seq.injEq] at e'
  obtain ⟨e1, e2⟩ := e'
  subst e
  obtain ⟨c1, k1, k2, k3⟩ := bareW (P := P) (nt := nt) b2
  refine other (k1.trans e2.symm) k2 (fun e => by cases e) (fun _ e => by cases e) (fun j _ e => by cases e) (fun i ops _ e => by cases e) (fun i ops _ e => by cases e) (fun b' c' e e' => ?_) (fun _ _ _ _ _ _ e => by cases e) (fun _ _ _ e => by cases e) (fun _ _ e => by cases e) (fun _ _ _ _ _ _ _ _ _ e => by cases e) (fun e => by cases e)
  simp only [RC.seq.injEq] at e'
  obtain ⟨e3, e4⟩ := e'
  subst e
  obtain ⟨e, y, h1, h2⟩ := h.ok a' e1.symm
  cases e with
  | normal =>
    obtain ⟨e, z, h3, h4⟩ := h2.ok b' e3.symm
    obtain ⟨rfl, z', B, S, q1, q2, q3, h5⟩ := h4.ok
    obtain ⟨e, Z, h6, h7⟩ := h5.ok c' e4.symm
    exact ⟨e, Z, XOk.seqB k3 h1 h3 S q1 q2 q3 h6, h7⟩
  | ret => exact absurd h2 (fun h => h)
  | exit i => exact absurd h2 (fun h => h)
end
end Go.Ev

namespace Go.Ev
theorem WB.decT {p : Prop} [Decidable p] {F : Bool → Prop} (h : p) (k : F true) : WB (decide p) F := WB.of (by rw [decide_eq_true h]; exact k)
theorem WB.decF {p : Prop} [Decidable p] {F : Bool → Prop} (h : ¬ p) (k : F false) : WB (decide p) F := WB.of (by rw [decide_eq_false h]; exact k)
theorem WB.ndT {p : Prop} [Decidable p] {F : Bool → Prop} (h : p) (k : F false) : WB (!decide p) F := WB.of (by rw [decide_eq_true h]; exact k)
theorem WB.ndF {p : Prop} [Decidable p] {F : Bool → Prop} (h : ¬ p) (k : F true) : WB (!decide p) F := WB.of (by rw [decide_eq_false h]; exact k)
theorem WB.nt {F : Bool → Prop} (k : F false) : WB (!true) F := WB.of k
theorem WB.nf {F : Bool → Prop} (k : F true) : WB (!false) F := WB.of k
theorem WB.at' {b c : Bool} {F : Bool → Prop} (h : b = c) (k : F c) : WB b F := WB.of (by rw [h]; exact k)
end Go.Ev

namespace Go.Ev
open Go.RowKit (Below Grown)

section
variable {ob : T C}
end

section
variable {P : Program} {FP : T RF}
end
end Go.Ev

namespace Go.Ev
set_option maxRecDepth 100000
theorem WSt.ixaN {sl : T D} {ob : T C} {nx : Pos} {lg : Option (T Bool)} {K : X → Prop} {d id : Pos} {len z off st m : Nat} {k : IntKind} {x i : RX} {n : Int} (hx : opd sl x = some (.pt id off st)) (hi : opd sl i = some (.i k n)) (hn : n = (m : Int)) (hm : m < len) (h : wOut sl ob nx lg d K (.pt id (off + m * z) st)) : WSt (.ixa d len z x i) ⟨sl, ob, nx, lg⟩ K := by
  obtain ⟨h2, h3⟩ := wOut_ok h
  refine ⟨_, ?_, h3⟩
  show s_ixa d len z x i sl ob nx lg = _
  unfold s_ixa
  rw [hx, hi, hn]
  have e : idx (m : Int) len = some m := by
    show (bif Nat.blt m len then some m else none) = _
    rw [show Nat.blt m len = true from Nat.ble_eq_true_of_le hm]
    rfl
  simp only [e, natK_eq]
  exact h2
theorem Frz.ptr {ob : T C} {id : Pos} {st : Nat} {cs : List Cell} {cur : Nat} {r : List D} (h : ob.get id = some (.cells false cs cur)) (hc : cs = r.map fun d => Cell.o d st) (h0 : 0 < r.length) (hp : PuL r) : Frz ob (.pt id 0 st) (.pl r 0) := by
  subst hc
  refine .pt (fun h => h) h h0 (fun k d hk => ⟨.o d st, ?_, ?_, rfl⟩) (FzL.of hp)
  · rw [List.drop_zero, List.getElem?_map, hk]; rfl
  · show Nat.ble st st = true
    exact Nat.ble_eq_true_of_le (Nat.le_refl _)
theorem T.le_ee {α : Type} {l r : T α} (hl : T.le l .e) (hr : T.le r .e) : T.le (.n l none r) .e := fun p x h => by
  cases p with
  | h => rw [T.get_h] at h; cases h
  | o p => exact absurd (hl p x h) (by rw [T.get_e]; exact fun h => by cases h)
  | i p => exact absurd (hr p x h) (by rw [T.get_e]; exact fun h => by cases h)
theorem KpO.le {n : Nat} {a b : T C} (h : T.le a b) (k : KpO n b) : KpO n a := fun id c hc => k id c (h id c hc)
theorem one_kp {n : Nat} {d : D} {r : Bool} {k m : Nat} (h : Kp n d) : KpC n (.cells r [.o d k] m) := by
  refine KpL.all ?_
  simp [KpL, Cell.d, h]
theorem ShrB.of {B : Pos → Prop} {z z' : X} (hs : Rel (RS B z.ob) (fun p => p) z'.sl z.sl) (ho : Rel (fun id c c' => B id ∧ ShC B z.ob c c') (fun p => p) z'.ob z.ob) (l : z.lg = none) (l' : z'.lg = none) : ShrB B z z' :=
  ⟨fun s d' h => hs s d' h, fun id c' h => by
    obtain ⟨c, h1, h2, h3⟩ := ho id c' h
    exact ⟨h2, c, h1, h3⟩, l, l'⟩
theorem Rel.ee {α : Type} {R : Pos → α → α → Prop} {g : Pos → Pos} {l r : T α} (hl : Rel R (fun p => g (.o p)) l .e) (hr : Rel R (fun p => g (.i p)) r .e) : Rel R g (.n l Option.none r) .e := fun p x h => by
  cases p with
  | h => rw [T.get_h] at h; cases h
  | o p => obtain ⟨y, h1, _⟩ := hl p x h; rw [T.get_e] at h1; cases h1
  | i p => obtain ⟨y, h1, _⟩ := hr p x h; rw [T.get_e] at h1; cases h1
theorem Fz.grown {B : Pos → Prop} {ob : T C} {id : Pos} {s1 s2 cur n z : Nat} {ds r : List D} {cs : List Cell} {es : List (List D)} (hB : ¬ B id) (h : ob.get id = some (.cells false cs cur)) (hc : cs = (ds.map fun d => Cell.o d s1) ++ r.map fun d => Cell.o d s2) (hs : s1 ≤ s2) (he : es.flatten = ds ++ r) (hn : n = es.length) (hz : ∀ x ∈ es, x.length = z) (hp : PuE es) : Fz B ob (.sl id 0 n s2 z) (.lst z es) := by
  subst hc
  refine .sl hB h hn.symm hz (fun k d hk => ?_) (FzE.of hp)
  rw [he] at hk
  rw [List.drop_zero]
  by_cases hlt : k < ds.length
  · rw [List.getElem?_append_left hlt] at hk
    refine ⟨.o d s1, ?_, Nat.ble_eq_true_of_le hs, rfl⟩
    rw [List.getElem?_append_left (by simpa using hlt), List.getElem?_map, hk]; rfl
  · rw [List.getElem?_append_right (by omega)] at hk
    refine ⟨.o d s2, ?_, Nat.ble_eq_true_of_le (Nat.le_refl _), rfl⟩
    rw [List.getElem?_append_right (by simp; omega), List.length_map, List.getElem?_map, hk]; rfl
theorem growK_emp {β : Type} (new : List D) (k : List Cell → Option β) : growK 0 1 new 0 [] k = k (new.map fun d => Cell.o d 1) := by
  show shutK (Nat.pred 1) (dropC (List.length new) []) (fun l => consK (fun d => .o d 1) new l k) = _
  rw [dropC_eq, shutK_eq, consK_eq]
  simp
section
variable {sl : T D} {ob : T C} {nx : Pos} {K : X → Prop}
theorem WSt.eqr2 {lg : Option (T Bool)} {d : Pos} {x y : RX} {a b a' b' : Int} (h1 : opd sl x = some (.ag [.i .i64 a, .i .i64 b])) (h2 : opd sl y = some (.ag [.i .i64 a', .i .i64 b'])) (w1 : wfB .i64 a = true) (w2 : wfB .i64 b = true) (w3 : wfB .i64 a' = true) (w4 : wfB .i64 b' = true) (k : wOut sl ob nx lg d K (.b (decide (a = a' ∧ b = b')))) :
    WSt (.eqr d false [.i .i64, .i .i64] x y) ⟨sl, ob, nx, lg⟩ K := by
  obtain ⟨k1, k2⟩ := wOut_ok k
  refine ⟨_, ?_, k2⟩
  show s_eqr _ _ _ x y sl ob nx lg = _
  unfold s_eqr
  rw [h1, h2]
  have e : eqR [.i .i64, .i .i64] (.ag [.i .i64 a, .i .i64 b]) (.ag [.i .i64 a', .i .i64 b']) = some (decide (a = a' ∧ b = b')) := by
    have hk : kEq .i64 .i64 = true := rfl
    simp only [eqR, eqL, eqC, hk, w1, w2, w3, w4, Bool.and_self, cond_true, Option.some.injEq]
    simp only [eqB_eq, Bool.decide_and]
    have hb : ∀ a b : Int, (a == b) = decide (a = b) := fun a b => by by_cases h : a = b <;> simp [h]
    simp only [hb, Bool.and_true]
  simp only [e, cond_false, boolK_eq]
  exact k1
end
theorem wf_small {n : Int} (h1 : -1000000000000000000 ≤ n) (h2 : n ≤ 1000000000000000000) : wfB .i64 n = true := by
  cases n with
  | ofNat m =>
    have h2 : (m : Int) ≤ 1000000000000000000 := h2
    exact Nat.ble_eq_true_of_le (by simp only [imax]; omega)
  | negSucc m =>
    have h1 : -1000000000000000000 ≤ Int.negSucc m := h1
    show (IntKind.signed .i64 && Nat.ble m (imax .i64)) = true
    rw [show IntKind.signed .i64 = true from rfl, Bool.true_and]
    exact Nat.ble_eq_true_of_le (by simp only [imax]; omega)
theorem foldmin_mem : ∀ {L : List Int} {a : Int}, L.foldl min a = a ∨ L.foldl min a ∈ L
  | [], a => .inl rfl
  | b :: L, a => by
    show List.foldl min (min a b) L = a ∨ _
    rcases foldmin_mem (L := L) (a := min a b) with h | h
    · have : min a b = a ∨ min a b = b := by omega
      rcases this with e | e
      · exact .inl (by rw [h, e])
      · exact .inr (by show List.foldl min (min a b) L ∈ _; rw [h, e]; simp)
    · exact .inr (List.mem_cons_of_mem _ h)
theorem foldmax_mem : ∀ {L : List Int} {a : Int}, L.foldl max a = a ∨ L.foldl max a ∈ L
  | [], a => .inl rfl
  | b :: L, a => by
    show List.foldl max (max a b) L = a ∨ _
    rcases foldmax_mem (L := L) (a := max a b) with h | h
    · have : max a b = a ∨ max a b = b := by omega
      rcases this with e | e
      · exact .inl (by rw [h, e])
      · exact .inr (by show List.foldl max (max a b) L ∈ _; rw [h, e]; simp)
    · exact .inr (List.mem_cons_of_mem _ h)
structure FinX (rs : List RR) (Φ : D → Prop) (e : Ex) (z : X) : Prop where
  ok : ∃ v, Φ v ∧ Fin rs v e z
theorem PureF.runE {P : Program} {f nt : Nat} {rc : RC} {rs : List RR} {ds : List D} {Φ : D → Prop} (F : FnOk P f nt rc rs) (hlen : ds.length ≤ nt) (hp : PuL ds) (h : argsP ds .h .e fun sl => Rn P nt rc ⟨sl, .e, .h, none⟩ (FinX rs Φ)) : ∃ v, Φ v ∧ PureF P f ds v := by
  obtain ⟨fn, c, hf, hb, hc, hr, hname, h6⟩ := F.ok
  subst h6
  obtain ⟨sl0, h, hsl⟩ := argsP_ok h
  obtain ⟨e, ⟨sl, ob1, nx1, lg1⟩, X1, FE⟩ := h.ok c hc
  obtain ⟨v, hΦ, F⟩ := FE.ok
  obtain ⟨u, h1, h2⟩ := F.hr
  obtain ⟨v', ob', nx', lg', h3, C⟩ := body_ok (k := fun v ob nx lg => some ⟨T.set .h v .e, ob, nx, lg⟩) hf hb hr hname hlen hsl F.he X1 h1
  have h3 := Option.some.inj h3
  have e1 := congrArg (fun t => T.get t .h) (X.mk.inj h3).1
  simp only [T.get_set_same, Option.some.injEq] at e1
  have e2 := (X.mk.inj h3).2.1
  have e3 : ob' = ob1 := e2
  subst e1
  subst e3
  exact ⟨v, hΦ, C.shut hp h2⟩
theorem pre6 {l : List Int} (h : 6 < l.length) : ∃ a0 a1 a2 a3 a4 a5 a6 r, l = a0 :: a1 :: a2 :: a3 :: a4 :: a5 :: a6 :: r := by
  match l, h with
  | a0 :: a1 :: a2 :: a3 :: a4 :: a5 :: a6 :: r, _ => exact ⟨a0, a1, a2, a3, a4, a5, a6, r, rfl⟩
end Go.Ev
