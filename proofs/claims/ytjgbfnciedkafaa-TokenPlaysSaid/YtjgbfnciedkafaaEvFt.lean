import Derived.Test.YtjgbfnciedkafaaEvIt
import Derived.Test.YtjgbfnciedkafaaEvDd
import Derived.OpenShut
import Derived.DataReads
import Derived.Test.YtjgbfnciedkafaaEvTc
import Derived.Below
import Derived.ShutString
import Derived.WalkKit
import Derived.ProofKit
set_option linter.all false
namespace Go.Ev
open Go.RowKit

/-- What a cell of an argument is. -/
inductive CK where
  | b
  | i (k : IntKind)
  | sl (r : List CK)
mutual
def FitC : CK → D → Prop
  | .b, d => ∃ x, d = .b x
  | .i k, d => ∃ n, d = .i k n ∧ (Lit.int k n).wf = true
  | .sl r, d => ∃ es, d = .lst r.length es ∧ ∀ x ∈ es, FitL r x
def FitL : List CK → List D → Prop
  | [], ds => ds = []
  | c :: r, ds => ∃ d ds', ds = d :: ds' ∧ FitC c d ∧ FitL r ds'
end
theorem FitL.length : ∀ {r : List CK} {ds : List D}, FitL r ds → ds.length = r.length
  | [], ds, h => by unfold FitL at h; subst h; rfl
  | c :: r, ds, h => by
    unfold FitL at h
    obtain ⟨d, ds', rfl, _, h⟩ := h
    simp [FitL.length h]
theorem FitL.append : ∀ {r r' : List CK} {ds ds' : List D}, FitL r ds → FitL r' ds' → FitL (r ++ r') (ds ++ ds')
  | [], r', ds, ds', h, k => by unfold FitL at h; subst h; exact k
  | c :: r, r', ds, ds', h, k => by
    unfold FitL at h
    obtain ⟨d, ds1, rfl, h1, h2⟩ := h
    show FitL (c :: (r ++ r')) (d :: (ds1 ++ ds'))
    unfold FitL
    exact ⟨d, _, rfl, h1, FitL.append h2 k⟩
/-- The row of a type's cells. -/
def rowF (P : Program) (g : TypeId → Option (List CK)) : List Field → Nat → Option (List CK)
  | [], _ => some []
  | f :: fs, off => if f.offset = off then
      match g f.type with
      | some r => if r.length = P.cellsOf f.type then
          match rowF P g fs (off + r.length) with
          | some rs => some (r ++ rs)
          | none => none
        else none
      | none => none
    else none
def rowT (P : Program) : Nat → TypeId → Option (List CK)
  | 0, _ => none
  | n + 1, t => match P.underlying t with
    | some .bool => some [.b]
    | some (.int k) => some [.i k]
    | some (.slice e) =>
      match rowT P n e with
      | some r => if r.length = P.cellsOf e ∧ 0 < r.length then some [.sl r] else none
      | none => none
    | some (.struct fs) =>
      match rowF P (rowT P n) fs.toList 0 with
      | some r => if r.length = P.cellsOf t then some r else none
      | none => none
    | _ => none
/-- All blocks of cells, written no more. -/
def γH (w : World) : Gh := ⟨fun _ => 0, fun _ _ => (0, 0), fun b => ∃ vs e fr, w.heap[b]? = some (.cells vs e fr)⟩
theorem ghH {w : World} (hL : LRok w) : GH (γH w) w := ⟨fun _ st h => absurd h (Nat.not_lt_zero st), fun _ st _ _ h => absurd h (Nat.not_lt_zero st), fun _ h => ⟨h, fun _ st h => absurd h (Nat.not_lt_zero st)⟩, fun g r h => ⟨let ⟨vs, e, fr, h1, _⟩ := hL g r h; ⟨vs, e, fr, h1⟩, hL g r h⟩⟩
theorem DVE_of {γ : Gh} {w : World} {z : Nat} : ∀ {es : List (List D)} {vs : List Value}, (∀ (i : Nat) r, es[i]? = some r → r.length = z ∧ DVL γ w r ((vs.drop (i * z)).take z)) → DVE γ w z es vs
  | [], vs, _ => by unfold DVE; trivial
  | r :: es, vs, h => by
    unfold DVE
    obtain ⟨h1, h2⟩ := h 0 r rfl
    refine ⟨h1, by simpa using h2, DVE_of fun i r' hi => ?_⟩
    obtain ⟨h3, h4⟩ := h (i + 1) r' (by simpa using hi)
    refine ⟨h3, ?_⟩
    rw [List.drop_drop, show z + i * z = (i + 1) * z by rw [Nat.add_mul]; omega]
    exact h4
def Op1 (w : World) (r : List CK) (cs : List Value) : Prop := ∃ ds, FitL r ds ∧ DVL (γH w) w ds cs ∧ ∀ u ∈ cs, u.oneCell' = true
theorem rowF_ok {P : Program} {w : World} {g : TypeId → Option (List CK)} {cs : List Value} : ∀ {fs : List Field} {off : Nat} {r : List CK}, rowF P g fs off = some r → (∀ f ∈ fs, ∀ r', g f.type = some r' → Op1 w r' ((cs.drop f.offset).take (P.cellsOf f.type))) → off + r.length = cs.length → Op1 w r (cs.drop off)
  | [], off, r, h, _, hl => by
    cases h
    rw [List.drop_of_length_le (by simp at hl; omega)]
    exact ⟨[], by unfold FitL; rfl, DVL.nil, fun u hu => by cases hu⟩
  | f :: fs, off, r, h, hf, hl => by
    unfold rowF at h
    split at h
    · rename_i ho
      split at h
      · rename_i r1 hr1
        split at h
        · rename_i hlen
          split at h
          · rename_i rs hrs
            cases h
            rw [List.length_append] at hl
            obtain ⟨d1, f1, v1, o1⟩ := hf f (by simp) r1 hr1
            obtain ⟨d2, f2, v2, o2⟩ := rowF_ok hrs (fun f hm => hf f (by simp [hm])) (by omega)
            rw [ho, ← hlen] at v1 o1
            have e : cs.drop off = (cs.drop off).take r1.length ++ cs.drop (off + r1.length) := by
              rw [← List.drop_drop]; exact (List.take_append_drop _ _).symm
            refine ⟨d1 ++ d2, f1.append f2, by rw [e]; exact v1.append v2, fun u hu => ?_⟩
            rw [e] at hu
            rcases List.mem_append.1 hu with hu | hu
            · exact o1 u hu
            · exact o2 u hu
          · cases h
        · cases h
      · cases h
    · cases h
theorem choose_list {α : Type} {Q : Nat → α → Prop} : ∀ (n : Nat), (∀ i, i < n → ∃ y, Q i y) → ∃ l : List α, l.length = n ∧ ∀ (i : Nat) y, l[i]? = some y → Q i y
  | 0, _ => ⟨[], rfl, fun i y h => by simp at h⟩
  | n + 1, h => by
    obtain ⟨l, h1, h2⟩ := choose_list n fun i hi => h i (by omega)
    obtain ⟨y, hy⟩ := h n (by omega)
    refine ⟨l ++ [y], by simp [h1], fun i z hz => ?_⟩
    by_cases e : i < l.length
    · rw [List.getElem?_append_left e] at hz
      exact h2 i z hz
    · rw [List.getElem?_append_right (by omega)] at hz
      have : i - l.length = 0 := by
        cases e2 : i - l.length with
        | zero => rfl
        | succ k => rw [e2] at hz; simp at hz
      rw [this] at hz
      simp at hz
      subst hz
      rw [show i = n by omega]
      exact hy
theorem cell_block {w : World} {b o : Nat} {v : Value} (h : w.cell? ⟨b, o, none⟩ = some v) : ∃ vs e fr, w.heap[b]? = some (.cells vs e fr) ∧ vs[o]? = some v := by
  unfold World.cell? at h
  split at h
  · rename_i vs e fr hb
    exact ⟨vs, e, fr, hb, by simpa using h⟩
  · cases h
theorem cell_in {w : World} {b o : Nat} {vs : Array Value} {e : TypeId} {fr : Nat × Nat} (h : w.heap[b]? = some (.cells vs e fr)) : w.cell? ⟨b, o, none⟩ = vs[o]? := by
  unfold World.cell?
  rw [h]; rfl
theorem cellsW_at {w : World} {base : Nat} {a : Addr} {n : Nat} {cs : List Value} (h : w.cells? base a n = some cs) : cs.length = n ∧ ∀ i, i < n → w.cell? (a.add i) = cs[i]? := by
  unfold World.cells? at h
  split at h
  · refine ⟨by simpa using mapM_some_length h, fun i hi => mapM_some_get h i i (by simp [hi])⟩
  · cases h
section
variable {H : Type} {enc : TypeId × Value → H} {P : Program} {w : World} {base : Nat} {spare : Nat → Bool} {held : Bool}
theorem trod_row : ∀ (n : Nat) {t : TypeId} {r : List CK} {m : Nat} {cs : List Value} {x : DataW H × List MemPlace}, rowT P n t = some r → DataW.trod enc P w base spare held m t cs = some x → Op1 w r cs
  | 0, t, r, m, cs, x, h, k => by cases h
  | n + 1, t, r, m, cs, x, h, k => by
    unfold rowT at h
    split at h
    · rename_i ht
      cases h
      obtain ⟨b, rfl, _⟩ := DataW.trod_bool ht k
      exact ⟨[.b b], by simp [FitL, FitC], DVL.cons (DV_of_b _) DVL.nil, fun u hu => by simp at hu; subst hu; rfl⟩
    · rename_i kk ht
      cases h
      obtain ⟨v, rfl, _, hw⟩ := DataW.trod_int ht k
      exact ⟨[.i kk v], by simp [FitL, FitC, hw], DVL.cons (by unfold DV; rfl) DVL.nil, fun u hu => by simp at hu; subst hu; rfl⟩
    · rename_i e ht
      split at h
      · rename_i re hre
        split at h
        · rename_i hz
          cases h
          obtain ⟨hz, hpos⟩ := hz
          rcases DataW.trod_slice ht k with ⟨rfl, _⟩ | ⟨a, len, cap, elems, rest, m', _, rfl, _, _, hlc, _, hel, hsome, _, _⟩
          · exact ⟨[.lst re.length []], by simp [FitL, FitC], DVL.cons (by unfold DV; exact ⟨none, 0, rfl, Nat.le_refl _, fun _ => rfl, .inl rfl⟩) DVL.nil, fun u hu => by simp at hu; subst hu; rfl⟩
          · have each : ∀ i, i < len → ∃ cs, w.cells? base (a.add (i * re.length)) re.length = some cs ∧ Op1 w re cs := fun i hi => by
              have h1 := hsome i hi
              rw [List.getElem?_eq_getElem (by omega)] at h1
              obtain ⟨cs, h2, h3⟩ := Option.bind_eq_some_iff.1 h1
              rw [hz]
              exact ⟨cs, h2, trod_row n hre h3⟩
            obtain ⟨es, hes, hq⟩ := choose_list (Q := fun i ds => ∃ cs, w.cells? base (a.add (i * re.length)) re.length = some cs ∧ FitL re ds ∧ DVL (γH w) w ds cs ∧ ∀ u ∈ cs, u.oneCell' = true) len fun i hi => by
              obtain ⟨cs, h1, ds, h2, h3, h4⟩ := each i hi
              exact ⟨ds, cs, h1, h2, h3, h4⟩
            subst hes
            have fit : FitL [CK.sl re] [.lst re.length es] := by
              simp only [FitL, FitC]
              refine ⟨_, _, rfl, ⟨es, rfl, fun r hr => ?_⟩, rfl⟩
              obtain ⟨i, hi, rfl⟩ := List.getElem_of_mem hr
              obtain ⟨_, _, h, _⟩ := hq i _ (List.getElem?_eq_getElem hi)
              exact h
            refine ⟨_, fit, DVL.cons ?_ DVL.nil, fun u hu => by simp at hu; subst hu; rfl⟩
            by_cases h0 : es.length = 0
            · unfold DV
              exact ⟨some a, cap, rfl, hlc, (fun h => by cases h), .inl (List.length_eq_zero_iff.1 h0)⟩
            obtain ⟨b, off, spot⟩ := a
            have hsp : spot = none := by
              obtain ⟨cs, h1, _⟩ := each 0 (by omega)
              obtain ⟨h2, h3⟩ := cellsW_at h1
              have h4 := h3 0 hpos
              rw [List.getElem?_eq_getElem (by omega)] at h4
              simpa [Addr.add] using World.cell?_spot h4
            subst hsp
            have cel : ∀ i ds, es[i]? = some ds → ∃ cs, cs.length = re.length ∧ (∀ j, j < re.length → w.cell? ⟨b, off + i * re.length + j, none⟩ = cs[j]?) ∧ FitL re ds ∧ DVL (γH w) w ds cs ∧ ∀ u ∈ cs, u.oneCell' = true := fun i ds hi => by
              obtain ⟨cs, h1, h2, h3, h4⟩ := hq i ds hi
              obtain ⟨h5, h6⟩ := cellsW_at h1
              refine ⟨cs, h5, fun j hj => ?_, h2, h3, h4⟩
              rw [← h6 j hj, Go.WideShapes.add_plain, Go.WideShapes.add_plain]
            obtain ⟨vs, ee, fr, hb⟩ : ∃ vs e fr, w.heap[b]? = some (.cells vs e fr) := by
              obtain ⟨cs, h1, h2, _⟩ := cel 0 es[0] (List.getElem?_eq_getElem (by omega))
              have h3 := h2 0 hpos
              rw [List.getElem?_eq_getElem (by omega)] at h3
              obtain ⟨vs, e, fr, h4, _⟩ := cell_block h3
              exact ⟨vs, e, fr, h4⟩
            have at' : ∀ i ds, es[i]? = some ds → ∃ cs, cs.length = re.length ∧ (∀ j, j < re.length → vs[off + i * re.length + j]? = cs[j]?) ∧ FitL re ds ∧ DVL (γH w) w ds cs ∧ ∀ u ∈ cs, u.oneCell' = true := fun i ds hi => by
              obtain ⟨cs, h1, h2, h3⟩ := cel i ds hi
              exact ⟨cs, h1, fun j hj => by rw [← cell_in hb]; exact h2 j hj, h3⟩
            unfold DV
            refine ⟨some ⟨b, off, none⟩, cap, rfl, hlc, (fun h => by cases h), .inr ⟨b, off, vs, ee, fr, ⟨vs, ee, fr, hb⟩, hb, rfl, ?_, DVE_of fun i r hi => ?_, fun u hu => ?_⟩⟩
            · obtain ⟨l', hl'⟩ : ∃ l', es.length = l' + 1 := ⟨es.length - 1, by omega⟩
              obtain ⟨cs, h1, h2, _⟩ := at' l' _ (List.getElem?_eq_getElem (by omega))
              have h3 := h2 (re.length - 1) (by omega)
              rw [List.getElem?_eq_getElem (by omega)] at h3
              have h4 := (Array.getElem?_eq_some_iff.1 h3).1
              rw [hl', Nat.succ_mul]
              omega
            · obtain ⟨cs, h1, h2, h3, h4, _⟩ := at' i r hi
              refine ⟨h3.length, ?_⟩
              have e : ((vs.toList.drop off).drop (i * re.length)).take re.length = cs := by
                apply List.ext_getElem?
                intro j
                by_cases hj : j < re.length
                · rw [List.getElem?_take_of_lt hj, List.getElem?_drop, List.getElem?_drop, ← h2 j hj, Array.getElem?_toList, Nat.add_assoc]
                · rw [List.getElem?_eq_none (by simp; omega), List.getElem?_eq_none (by omega)]
              rw [e]; exact h4
            · obtain ⟨k, hk, rfl⟩ := List.getElem_of_mem hu
              rw [List.length_take] at hk
              have hkz : k / re.length < es.length := Nat.div_lt_of_lt_mul (by rw [Nat.mul_comm]; omega)
              obtain ⟨cs, h1, h2, _, _, h5⟩ := at' (k / re.length) _ (List.getElem?_eq_getElem hkz)
              have hm := Nat.mod_lt k hpos
              have h3 := h2 (k % re.length) hm
              have e : off + k / re.length * re.length + k % re.length = off + k := by
                have := Nat.div_add_mod k re.length
                rw [Nat.mul_comm] at this
                omega
              rw [e, List.getElem?_eq_getElem (by omega)] at h3
              have h6 : vs.toList[off + k]? = some cs[k % re.length] := by rw [Array.getElem?_toList]; exact h3
              have h7 : ((vs.toList.drop off).take (es.length * re.length))[k]? = some cs[k % re.length] := by
                rw [List.getElem?_take_of_lt (by omega), List.getElem?_drop]; exact h6
              rw [List.getElem?_eq_getElem (by rw [List.length_take]; exact hk)] at h7
              rw [Option.some.inj h7]
              exact h5 _ (List.getElem_mem _)
        · cases h
      · cases h
    · rename_i fs ht
      split at h
      · rename_i r1 hr1
        split at h
        · rename_i hl
          cases h
          obtain ⟨xs, m', _, _, hcl, hxl, hx⟩ := DataW.trod_struct ht k
          refine rowF_ok hr1 (fun f hm r' hr' => ?_) (by omega)
          obtain ⟨i, hi, rfl⟩ := List.getElem_of_mem hm
          have h1 := hx i _ (by rw [Array.getElem?_eq_getElem (by simpa using hi)])
          rw [List.getElem?_eq_getElem (by simp at hi; omega)] at h1
          exact trod_row n hr' h1
        · cases h
      · cases h
    · cases h
end
end Go.Ev

namespace Go.Ev
open Go.RowKit

/-- A call on values, off the arguments as they came in. -/
theorem PureF.calls {P : Program} {f : Nat} {ds : List D} (h : PureF P f ds (.b true)) {args : Array Value} {w : World} (ha : DVL (γH w) w ds args.toList) (hL : LRok w := by intro g r h; cases h) : Calls P f args w fun e w' => e = .returned (.bool true) ∧ Grown w w' ∧ Below w.heap.size w w' := by
  obtain ⟨_, c2⟩ := (h .e .h none).ok (fun _ => True) (fun _ _ => trivial) (γH w) args w (ghH hL) ha (fun id c _ hc => by rw [T.get_e] at hc; cases hc) (fun _ _ _ => rfl)
  refine (callsIn_wide (n := 0)).1 (c2 none 0 _ fun γ' w' u _ F hu _ _ => ?_)
  obtain rfl := DV_b hu
  exact ⟨rfl, F.grown (fun _ => rfl), ⟨F.os, F.tape, F.output, F.size, fun k hk => F.blk k hk fun id st _ hst => absurd hst (Nat.not_lt_zero st)⟩⟩
theorem wfB_of {n : Int} (h : (Lit.int .i64 n).wf = true) : wfB .i64 n = true := by
  obtain ⟨h1, h2⟩ := Go.bounds_i64 h
  cases n with
  | ofNat m =>
    have h2 : (m : Int) ≤ 9223372036854775807 := h2
    exact Nat.ble_eq_true_of_le (by simp only [imax]; omega)
  | negSucc m =>
    show (IntKind.signed .i64 && Nat.ble m (imax .i64)) = true
    rw [show IntKind.signed .i64 = true from rfl, Bool.true_and]
    exact Nat.ble_eq_true_of_le (by simp only [imax]; omega)
theorem fit_ints : ∀ {es : List (List D)}, (∀ x ∈ es, FitL [.i .i64] x) → ∃ l, es = ints l ∧ ∀ n ∈ l, wfB .i64 n = true
  | [], _ => ⟨[], rfl, fun n h => by cases h⟩
  | x :: es, h => by
    obtain ⟨l, rfl, hl⟩ := fit_ints (es := es) fun y hy => h y (by simp [hy])
    have h1 := h x (by simp)
    simp only [FitL, FitC] at h1
    obtain ⟨d, ds, rfl, ⟨n, rfl, hn⟩, rfl⟩ := h1
    refine ⟨n :: l, rfl, fun m hm => ?_⟩
    rcases List.mem_cons.1 hm with rfl | hm
    · exact wfB_of hn
    · exact hl m hm
theorem getD_wf {l : List Int} (h : ∀ n ∈ l, wfB .i64 n = true) (i : Nat) : wfB .i64 (l.getD i 0) = true := by
  by_cases hi : i < l.length
  · exact h _ (getD_mem hi)
  · rw [List.getD_eq_getElem?_getD, List.getElem?_eq_none (by omega)]; rfl
/-- A slice as it came in. -/
theorem open_list {H : Type} {enc : TypeId × Value → H} {P : Program} {w : World} {r : Reach} {b0 : Nat} {t e : TypeId} {v : Value} {d : DataW H} {ps : List MemPlace} {spare : Nat → Bool} {held : Bool} {n : Nat} {row : List CK} (ht : P.underlying t = some (.slice e)) (hv : Value.okWide P w r b0 t v) (hr : rowT P n t = some row) (h : DataW.Trod enc P w 0 spare held t v d ps) : ∃ ds, FitL row ds ∧ DVL (γH w) w ds [v] := by
  obtain ⟨a, len, cap, rfl⟩ := Go.WideShapes.okWide_slice ht hv
  obtain ⟨m, h⟩ := h
  obtain ⟨ds, h1, h2, _⟩ := trod_row n hr h
  exact ⟨ds, h1, h2⟩
/-- A struct as it came in. -/
theorem open_struct {H : Type} {enc : TypeId × Value → H} {P : Program} {w : World} {r : Reach} {b0 : Nat} {t : TypeId} {fs : Array Field} {v : Value} {d : DataW H} {ps : List MemPlace} {spare : Nat → Bool} {held : Bool} {n : Nat} {row : List CK} (ht : P.underlying t = some (.struct fs)) (hv : Value.okWide P w r b0 t v) (hr : rowT P n t = some row) (h : DataW.Trod enc P w 0 spare held t v d ps) : ∃ ds, FitL row ds ∧ DV (γH w) w (.ag ds) v := by
  have : ∃ cs, v = .agg cs := by
    simp only [Value.okWide, ht] at hv
    obtain ⟨cs, rfl, _⟩ := hv
    exact ⟨cs, rfl⟩
  obtain ⟨cs, rfl⟩ := this
  obtain ⟨m, h⟩ := h
  obtain ⟨ds, h1, h2, h3⟩ := trod_row n hr h
  refine ⟨ds, h1, ?_⟩
  unfold DV
  exact ⟨cs, rfl, h2, h3⟩
/-- An integer as it came in. -/
theorem open_num {H : Type} {enc : TypeId × Value → H} {P : Program} {w : World} {r : Reach} {b0 : Nat} {t : TypeId} {k : IntKind} {v : Value} {d : DataW H} {ps : List MemPlace} {spare : Nat → Bool} {held : Bool} (ht : P.underlying t = some (.int k)) (hv : Value.okWide P w r b0 t v) (h : DataW.Trod enc P w 0 spare held t v d ps) : ∃ n, v = .int k n ∧ (Lit.int k n).wf = true := by
  simp only [Value.okWide, ht, Cell.okWide] at hv
  obtain ⟨m, h⟩ := h
  obtain ⟨n, hc, _, hw⟩ := DataW.trod_int ht h
  cases v <;> simp_all [Value.cells, Cell.ok]
end Go.Ev

namespace Go.Ev
open Go.RowKit Go.ChangeShapes

/-- What the parameters of a function are: a struct, or one cell. -/
def FitP : List (Bool × List CK) → List D → Prop
  | [], ds => ds = []
  | (true, r) :: ps, ds => ∃ es ds', ds = .ag es :: ds' ∧ FitL r es ∧ FitP ps ds'
  | (false, r) :: ps, ds => ∃ d ds', ds = d :: ds' ∧ FitL r [d] ∧ FitP ps ds'
def parT (P : Program) (n : Nat) (t : TypeId) : Option (Bool × List CK) := match P.underlying t with
  | some (.struct _) => match rowT P n t with
    | some r => some (true, r)
    | none => none
  | some (.slice _) => match rowT P n t with
    | some r => some (false, r)
    | none => none
  | some (.int _) => match rowT P n t with
    | some r => some (false, r)
    | none => none
  | some .bool => match rowT P n t with
    | some r => some (false, r)
    | none => none
  | _ => none
def parsT (P : Program) (n : Nat) : List TypeId → Option (List (Bool × List CK))
  | [] => some []
  | t :: ts => match parT P n t, parsT P n ts with
    | some p, some ps => some (p :: ps)
    | _, _ => none
section
variable {H : Type} {enc : TypeId × Value → H} {P : Program} {w : World} {r : Reach} {b0 : Nat} {spare : Nat → Bool} {held : Bool} {n : Nat}
theorem open_bool {t : TypeId} {v : Value} {d : DataW H} {ps : List MemPlace} (ht : P.underlying t = some .bool) (hv : Value.okWide P w r b0 t v) (h : DataW.Trod enc P w 0 spare held t v d ps) : ∃ b, v = .bool b := by
  simp only [Value.okWide, ht, Cell.okWide] at hv
  obtain ⟨m, h⟩ := h
  obtain ⟨b, hc, _⟩ := DataW.trod_bool ht h
  cases v <;> simp_all [Value.cells, Cell.ok]
theorem open_one {t : TypeId} {v : Value} {d : DataW H} {ps : List MemPlace} {par : Bool × List CK} (hp : parT P n t = some par) (hv : Value.okWide P w r b0 t v) (h : DataW.Trod enc P w 0 spare held t v d ps) :
    ∃ e : D, DV (γH w) w e v ∧ ∀ (qs : List (Bool × List CK)) (es : List D), FitP qs es → FitP (par :: qs) (e :: es) := by
  unfold parT at hp
  cases ht : P.underlying t with
  | none => rw [ht] at hp; cases hp
  | some u =>
    rw [ht] at hp
    cases hr : rowT P n t with
    | none => cases u <;> simp only [hr] at hp <;> cases hp
    | some row =>
      cases u <;> simp only [hr] at hp <;> first | cases hp; done | skip
      case bool =>
        cases hp
        obtain ⟨b, rfl⟩ := open_bool ht hv h
        have hrow : row = [.b] := by
          cases n with
          | zero => cases hr
          | succ n => simp only [rowT, ht, Option.some.injEq] at hr; exact hr.symm
        subst hrow
        exact ⟨.b b, DV_of_b _, fun qs es hq => by unfold FitP; exact ⟨_, _, rfl, by simp [FitL, FitC], hq⟩⟩
      case int k =>
        cases hp
        obtain ⟨m, rfl, hm⟩ := open_num ht hv h
        have hrow : row = [.i k] := by
          cases n with
          | zero => cases hr
          | succ n => simp only [rowT, ht, Option.some.injEq] at hr; exact hr.symm
        subst hrow
        exact ⟨.i k m, DV_of_i _ _, fun qs es hq => by unfold FitP; exact ⟨_, _, rfl, by simp [FitL, FitC, hm], hq⟩⟩
      case slice e =>
        cases hp
        obtain ⟨ds, h1, h2⟩ := open_list ht hv hr h
        cases ds with
        | nil => unfold DVL at h2; cases h2
        | cons d ds =>
          unfold DVL at h2
          obtain ⟨v', r', h3, h4, h5⟩ := h2
          cases h3
          cases ds with
          | nil => exact ⟨d, h4, fun qs es hq => by unfold FitP; exact ⟨_, _, rfl, h1, hq⟩⟩
          | cons d' ds =>
            unfold DVL at h5
            obtain ⟨_, _, h6, _⟩ := h5
            cases h6
      case struct fs =>
        cases hp
        obtain ⟨ds, h1, h2⟩ := open_struct ht hv hr h
        exact ⟨.ag ds, h2, fun qs es hq => by unfold FitP; exact ⟨_, _, rfl, h1, hq⟩⟩
theorem open_all : ∀ {ts : List TypeId} {vs : List Value} {ds : List (DataW H)} {ps : List MemPlace} {pars : List (Bool × List CK)}, parsT P n ts = some pars → DataW.TrodAll enc P w 0 spare held ts vs ds ps → (∀ (j : Nat) t v, ts[j]? = some t → vs[j]? = some v → Value.okWide P w r b0 t v) → ∃ es, FitP pars es ∧ DVL (γH w) w es vs
  | [], vs, ds, ps, pars, hp, h, hv => by
    obtain ⟨rfl, rfl, rfl⟩ := trodAll_nil h
    cases hp
    exact ⟨[], by simp [FitP], DVL.nil⟩
  | t :: ts, vs, ds, ps, pars, hp, h, hv => by
    obtain ⟨v, vs', d, ds', p, q, rfl, rfl, rfl, h1, h2⟩ := trodAll_cons h
    unfold parsT at hp
    cases ha : parT P n t with
    | none => rw [ha] at hp; cases hp
    | some a =>
      cases hb : parsT P n ts with
      | none => rw [ha, hb] at hp; cases hp
      | some b =>
        rw [ha, hb] at hp
        cases hp
        obtain ⟨e, k1, k2⟩ := open_one ha (hv 0 t v rfl rfl) h1
        obtain ⟨es, k3, k4⟩ := open_all hb h2 fun j t v x y => hv (j + 1) t v x y
        exact ⟨e :: es, k2 _ _ k3, DVL.cons k1 k4⟩
theorem stays_all (hl : laidOutB P = true) {W W' : World} {sp' : Nat → Bool} : ∀ {ts : List TypeId} {vs : List Value} {ds : List (DataW H)} {ps : List MemPlace}, (∀ t ∈ ts, P.readableRec t = true ∧ t < P.types.size) → DataW.TrodAll enc P W 0 (fun _ => true) true ts vs ds ps → (∀ p ∈ ps, W.sameAt W' p) → (∀ p ∈ ps, sp' p.block = true) → DataW.TrodAll enc P W' 0 sp' true ts vs ds ps
  | [], vs, ds, ps, _, h, _, _ => by
    obtain ⟨rfl, rfl, rfl⟩ := trodAll_nil h
    exact trodAll_mk0
  | t :: ts, vs, ds, ps, ht, h, h1, h2 => by
    obtain ⟨v, vs', d, ds', p, q, rfl, rfl, rfl, k1, k2⟩ := trodAll_cons h
    exact ⟨p, q, Go.WideElems.Trod_stays hl (ht t (by simp)).1 (ht t (by simp)).2 k1 (fun x hx => h1 x (List.mem_append_left _ hx)) (fun x hx => h2 x (List.mem_append_left _ hx)),
      stays_all hl (fun t h => ht t (by simp [h])) k2 (fun x hx => h1 x (List.mem_append_right _ hx)) (fun x hx => h2 x (List.mem_append_right _ hx)), rfl⟩
end
end Go.Ev

namespace Go.Ev
section
variable {ps : List (Bool × List CK)} {ds : List D}
theorem FitP.i {k : IntKind} (h : FitP ((false, [.i k]) :: ps) ds) : ∃ n ds', ds = .i k n :: ds' ∧ (Lit.int k n).wf = true ∧ FitP ps ds' := by
  unfold FitP at h
  obtain ⟨d, ds', rfl, h1, h2⟩ := h
  simp only [FitL, FitC] at h1
  obtain ⟨d, ds, e, ⟨n, rfl, hw⟩, rfl⟩ := h1
  cases e
  exact ⟨n, ds', rfl, hw, h2⟩
theorem FitP.b (h : FitP ((false, [.b]) :: ps) ds) : ∃ t ds', ds = .b t :: ds' ∧ FitP ps ds' := by
  unfold FitP at h
  obtain ⟨d, ds', rfl, h1, h2⟩ := h
  simp only [FitL, FitC] at h1
  obtain ⟨d, ds, e, ⟨n, rfl⟩, rfl⟩ := h1
  cases e
  exact ⟨n, ds', rfl, h2⟩
theorem FitP.list (h : FitP ((false, [.sl [.i .i64]]) :: ps) ds) : ∃ t ds', ds = .lst 1 (ints t) :: ds' ∧ (∀ n ∈ t, wfB .i64 n = true) ∧ FitP ps ds' := by
  unfold FitP at h
  obtain ⟨d, ds', rfl, h1, h2⟩ := h
  simp only [FitL, FitC] at h1
  obtain ⟨d, ds, e, ⟨es, rfl, h1⟩, rfl⟩ := h1
  cases e
  obtain ⟨l, rfl, hl⟩ := fit_ints fun x hx => by have := h1 x hx; simpa only [FitL, FitC] using this
  exact ⟨l, ds', rfl, hl, h2⟩
/-- Rows of numbers of a kind. -/
def numsK (k : IntKind) (l : List Int) : List (List D) := l.map fun n => [D.i k n]
theorem fit_nums {k : IntKind} : ∀ {es : List (List D)}, (∀ x ∈ es, FitL [.i k] x) → ∃ l, es = numsK k l ∧ ∀ n ∈ l, (Lit.int k n).wf = true
  | [], _ => ⟨[], rfl, fun n h => by cases h⟩
  | x :: es, h => by
    obtain ⟨l, rfl, hl⟩ := fit_nums (es := es) fun y hy => h y (by simp [hy])
    have h1 := h x (by simp)
    simp only [FitL, FitC] at h1
    obtain ⟨d, ds, rfl, ⟨n, rfl, hn⟩, rfl⟩ := h1
    refine ⟨n :: l, rfl, fun m hm => ?_⟩
    rcases List.mem_cons.1 hm with rfl | hm
    · exact hn
    · exact hl m hm
theorem FitP.nums {k : IntKind} (h : FitP ((false, [.sl [.i k]]) :: ps) ds) : ∃ t ds', ds = .lst 1 (numsK k t) :: ds' ∧ (∀ n ∈ t, (Lit.int k n).wf = true) ∧ FitP ps ds' := by
  unfold FitP at h
  obtain ⟨d, ds', rfl, h1, h2⟩ := h
  simp only [FitL, FitC] at h1
  obtain ⟨d, ds, e, ⟨es, rfl, h1⟩, rfl⟩ := h1
  cases e
  obtain ⟨l, rfl, hl⟩ := fit_nums (k := k) fun x hx => by have := h1 x hx; simpa only [FitL, FitC] using this
  exact ⟨l, ds', rfl, hl, h2⟩
theorem FitP.no (h : FitP [] ds) : ds = [] := by unfold FitP at h; exact h
end
theorem wf_u8 {n : Int} (h : (Lit.int .u8 n).wf = true) : 0 ≤ n ∧ n ≤ 255 := by
  simp only [Lit.wf, Bool.and_eq_true, decide_eq_true_eq] at h
  exact ⟨h.1, h.2⟩
theorem wf_u16 {n : Int} (h : (Lit.int .u16 n).wf = true) : 0 ≤ n ∧ n ≤ 65535 := by
  simp only [Lit.wf, Bool.and_eq_true, decide_eq_true_eq] at h
  exact ⟨h.1, h.2⟩
theorem len1 {α : Type} {l : List α} (h : l.length = 1) : ∃ a, l = [a] := by
  match l, h with
  | [a], _ => exact ⟨a, rfl⟩
theorem len2 {α : Type} {l : List α} (h : l.length = 2) : ∃ a b, l = [a, b] := by
  match l, h with
  | [a, b], _ => exact ⟨a, b, rfl⟩
theorem len3 {α : Type} {l : List α} (h : l.length = 3) : ∃ a b c, l = [a, b, c] := by
  match l, h with
  | [a, b, c], _ => exact ⟨a, b, c, rfl⟩
theorem len4 {α : Type} {l : List α} (h : l.length = 4) : ∃ a b c d, l = [a, b, c, d] := by
  match l, h with
  | [a, b, c, d], _ => exact ⟨a, b, c, d, rfl⟩
theorem len5 {α : Type} {l : List α} (h : l.length = 5) : ∃ a b c d e, l = [a, b, c, d, e] := by
  match l, h with
  | [a, b, c, d, e], _ => exact ⟨a, b, c, d, e, rfl⟩
theorem trod_len {H : Type} {enc : TypeId × Value → H} {P : Program} {w : World} {base : Nat} {spare : Nat → Bool} {held : Bool} : ∀ {ts : List TypeId} {vs : List Value} {ds : List (DataW H)} {ps : List MemPlace}, DataW.TrodAll enc P w base spare held ts vs ds ps → ds.length = ts.length
  | [], vs, ds, ps, h => by obtain ⟨rfl, rfl, rfl⟩ := Go.ChangeShapes.trodAll_nil h; rfl
  | t :: ts, vs, ds, ps, h => by
    obtain ⟨v, vs', d, ds', p, q, rfl, rfl, rfl, h1, h2⟩ := Go.ChangeShapes.trodAll_cons h
    rw [List.length_cons, List.length_cons, trod_len h2]
end Go.Ev
namespace Go.Ev
def allT (P : Program) : List TypeId → Bool
  | [] => true
  | t :: ts => P.readableRec t && decide (t < P.types.size) && allT P ts
theorem of_allT {P : Program} : ∀ {ts : List TypeId}, allT P ts = true → ∀ t ∈ ts, P.readableRec t = true ∧ t < P.types.size
  | [], _, t, h => by cases h
  | a :: ts, h, t, ht => by
    unfold allT at h
    rw [Bool.and_eq_true, Bool.and_eq_true, decide_eq_true_iff] at h
    rcases List.mem_cons.1 ht with rfl | ht
    · exact h.1
    · exact of_allT h.2 t ht
end Go.Ev
