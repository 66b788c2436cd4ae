import Derived.Test.YtmlpgfmbhpefmaaEvOp
import Derived.Test.YtmlpgfmbhpefmaaEvTc
import Derived.Test.YtmlpgfmbhpefmaaEvIt
import Derived.Below
set_option linter.all false
namespace Go.Ev
open Go.RowKit

/-- A call on values, off the arguments as they came in. -/
theorem PureF.calls {P : Program} {f : Nat} {ds : List D} (h : PureF P f ds (.b true)) {args : Array Value} {w : World} (ha : DVL (γH w) w ds args.toList) : Calls P f args w fun e w' => e = .returned (.bool true) ∧ Grown w w' ∧ Below w.heap.size w w' := by
  obtain ⟨_, c2⟩ := (h .e .h none).ok (fun _ => True) (fun _ _ => trivial) (γH w) args w (ghH w) ha (fun id c _ hc => by rw [T.get_e] at hc; cases hc) (fun _ _ _ => rfl)
  refine (callsIn_wide (n := 0)).1 (c2 none 0 _ fun γ' w' u _ F hu _ _ => ?_)
  obtain rfl := DV_b hu
  exact ⟨rfl, F.grown (fun _ => rfl), ⟨F.os, F.tape, F.output, F.size, fun k hk => F.blk k hk fun id st _ hst => absurd hst (Nat.not_lt_zero st)⟩⟩
theorem wfB_of {n : Int} (h : (Lit.int .i64 n).wf = true) : wfB .i64 n = true := by
  obtain ⟨h1, h2⟩ := Go.bounds_i64 h
  cases n with
  | ofNat m =>
    have h2 : (m : Int) ≤ 9223372036854775807 := h2
    exact Nat.ble_eq_true_of_le (by simp only [imax]; omega)
  | negSucc m =>
    show (IntKind.signed .i64 && Nat.ble m (imax .i64)) = true
    rw [show IntKind.signed .i64 = true from rfl, Bool.true_and]
    exact Nat.ble_eq_true_of_le (by simp only [imax]; omega)
theorem fit_ints : ∀ {es : List (List D)}, (∀ x ∈ es, FitL [.i .i64] x) → ∃ l, es = ints l ∧ ∀ n ∈ l, wfB .i64 n = true
  | [], _ => ⟨[], rfl, fun n h => by cases h⟩
  | x :: es, h => by
    obtain ⟨l, rfl, hl⟩ := fit_ints (es := es) fun y hy => h y (by simp [hy])
    have h1 := h x (by simp)
    simp only [FitL, FitC] at h1
    obtain ⟨d, ds, rfl, ⟨n, rfl, hn⟩, rfl⟩ := h1
    refine ⟨n :: l, rfl, fun m hm => ?_⟩
    rcases List.mem_cons.1 hm with rfl | hm
    · exact wfB_of hn
    · exact hl m hm
theorem getD_wf {l : List Int} (h : ∀ n ∈ l, wfB .i64 n = true) (i : Nat) : wfB .i64 (l.getD i 0) = true := by
  by_cases hi : i < l.length
  · exact h _ (getD_mem hi)
  · rw [List.getD_eq_getElem?_getD, List.getElem?_eq_none (by omega)]; rfl
/-- A slice as it came in. -/
theorem open_list {H : Type} {enc : TypeId × Value → H} {P : Program} {w : World} {r : Reach} {b0 : Nat} {t e : TypeId} {v : Value} {d : DataW H} {ps : List MemPlace} {spare : Nat → Bool} {held : Bool} {n : Nat} {row : List CK} (ht : P.underlying t = some (.slice e)) (hv : Value.okWide P w r b0 t v) (hr : rowT P n t = some row) (h : DataW.Trod enc P w 0 spare held t v d ps) : ∃ ds, FitL row ds ∧ DVL (γH w) w ds [v] := by
  obtain ⟨a, len, cap, rfl⟩ := Go.WideShapes.okWide_slice ht hv
  obtain ⟨m, h⟩ := h
  obtain ⟨ds, h1, h2, _⟩ := trod_row n hr h
  exact ⟨ds, h1, h2⟩
/-- A struct as it came in. -/
theorem open_struct {H : Type} {enc : TypeId × Value → H} {P : Program} {w : World} {r : Reach} {b0 : Nat} {t : TypeId} {fs : Array Field} {v : Value} {d : DataW H} {ps : List MemPlace} {spare : Nat → Bool} {held : Bool} {n : Nat} {row : List CK} (ht : P.underlying t = some (.struct fs)) (hv : Value.okWide P w r b0 t v) (hr : rowT P n t = some row) (h : DataW.Trod enc P w 0 spare held t v d ps) : ∃ ds, FitL row ds ∧ DV (γH w) w (.ag ds) v := by
  have : ∃ cs, v = .agg cs := by
    simp only [Value.okWide, ht] at hv
    obtain ⟨cs, rfl, _⟩ := hv
    exact ⟨cs, rfl⟩
  obtain ⟨cs, rfl⟩ := this
  obtain ⟨m, h⟩ := h
  obtain ⟨ds, h1, h2, h3⟩ := trod_row n hr h
  refine ⟨ds, h1, ?_⟩
  unfold DV
  exact ⟨cs, rfl, h2, h3⟩
/-- An integer as it came in. -/
theorem open_num {H : Type} {enc : TypeId × Value → H} {P : Program} {w : World} {r : Reach} {b0 : Nat} {t : TypeId} {k : IntKind} {v : Value} {d : DataW H} {ps : List MemPlace} {spare : Nat → Bool} {held : Bool} (ht : P.underlying t = some (.int k)) (hv : Value.okWide P w r b0 t v) (h : DataW.Trod enc P w 0 spare held t v d ps) : ∃ n, v = .int k n ∧ (Lit.int k n).wf = true := by
  simp only [Value.okWide, ht, Cell.okWide] at hv
  obtain ⟨m, h⟩ := h
  obtain ⟨n, hc, _, hw⟩ := DataW.trod_int ht h
  cases v <;> simp_all [Value.cells, Cell.ok]
end Go.Ev
