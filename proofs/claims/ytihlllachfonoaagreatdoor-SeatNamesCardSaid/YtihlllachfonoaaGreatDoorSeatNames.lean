/-
  The law SeatNames answers true, and leaves memory as it was, whatever the state of the machine that it starts in in which the package variable ahead reads as the program's text lays it; the card ties that reading to the text of the pruned copy of the program that this seat holds (it says nothing of the project's other packages). No other conditions. (Its body is run inside the kernel by an evaluator on abstract values that is proved sound for any program, the calls that it makes are run each by itself.)
-/
import Derived.Test.YtihlllachfonoaaGreatDoorCards
import Derived.Test.YtihlllachfonoaaGreatDoorTie
import Derived.WalkKit
import Derived.ProofKit
import Derived.OpenShut
import Derived.Deep.DeepHandedRow
import Derived.Lib.LaidTab
import Derived.MakeChecks
import Derived.Test.YtihlllachfonoaaGreatDoorEvS5Z
set_option linter.all false
set_option maxRecDepth 100000
namespace Go.Proofs.YtihlllachfonoaaGreatDoor.seatNames
open Go.ChangeShapes Go.WideShapes Go.ChangeAt Go.RowKit

theorem own : ownKnob Tryz.prog.godebug = none := by kernel_rfl
theorem gAhead : Tryz.prog.globalNamed "foreshore/wind.ahead" = some 0 := by kernel_rfl
theorem tAhead : (Tryz.prog.globals[0]?).map (·.type) = some 213 := by kernel_rfl
theorem cA : Tryz.prog.cellsOf 213 = 8 := by kernel_rfl
theorem cS : Tryz.prog.cellsOf 23 = 2 := by kernel_rfl
theorem cI : Tryz.prog.cellsOf 3 = 1 := by kernel_rfl

/-- A pair of numbers, read. -/
theorem pair {W : World} {m : Nat} {a b : Value} {d0 d1 : Int} {x : DataW Unit × List MemPlace} {enc : TypeId × Value → Unit} {sp : Nat → Bool} (h : DataW.trod enc Tryz.prog W 0 sp false m 23 [a, b] = some x) (e : x.1 = .agg [.lit (.int .i64 d0), .lit (.int .i64 d1)]) : a = .int .i64 d0 ∧ b = .int .i64 d1 := by
  obtain ⟨y0, y1, n, rfl, _, h0, h1⟩ := trod_struct2 Tryz.underlying23 h
  simp only [cI, List.drop_zero, List.take_succ_cons, List.take_zero, List.drop_succ_cons] at h0 h1
  obtain ⟨k0, q0, rfl, _⟩ := DataW.trod_int Tryz.underlying3 h0
  obtain ⟨k1, q1, rfl, _⟩ := DataW.trod_int Tryz.underlying3 h1
  simp only [DataW.agg.injEq, List.cons.injEq, DataW.lit.injEq, Lit.int.injEq, true_and, and_true] at e
  simp only [List.cons.injEq, and_true] at q0 q1
  exact ⟨q0.trans (by rw [e.1]), q1.trans (by rw [e.2])⟩

/-- WHAT THE ROW's LIST GIVES: the variable's cells. -/
theorem listed {W : World} (h : laidMetH Tryz.prog Rows.seatNamesRow.laid W) : Go.Ev.LRok W := by
  rw [MakeChecks.laidMetH_plain _ _ _ (by kernel_rfl)] at h
  obtain ⟨ps, ⟨g0, t0, cs0, f0, p0, q0, hg0, ht0, hv0, hd0, _, _⟩, _, _⟩ := h
  obtain rfl := Option.some.inj (gAhead.symm.trans hg0)
  obtain rfl := Option.some.inj (tAhead.symm.trans ht0)
  obtain ⟨xs, m, rfl, hx, hl, hn, hel⟩ := DataW.trod_array Tryz.underlying213 hd0
  have hh : ∃ e fr, W.heap[0]? = some (.cells cs0 e fr) := by
    simp only [World.var?, gAhead, Option.bind_some] at hv0
    split at hv0
    · rename_i vs e fr hb
      cases hv0
      exact ⟨e, fr, hb⟩
    · cases hv0
  have hcs : cs0.toList = [.int .i64 (-1), .int .i64 0, .int .i64 0, .int .i64 1, .int .i64 1, .int .i64 0, .int .i64 0, .int .i64 (-1)] := by
    rw [cA] at hl
    have hx := congrArg Prod.fst hx
    generalize cs0.toList = l at hl hel
    match l, hl, xs, hn with
    | [c0, c1, c2, c3, c4, c5, c6, c7], _, [x0, x1, x2, x3], _ =>
      have h0 := hel 0 (by decide)
      have h1 := hel 1 (by decide)
      have h2 := hel 2 (by decide)
      have h3 := hel 3 (by decide)
      simp only [cS] at h0 h1 h2 h3
      have h0 : DataW.trod _ Tryz.prog W 0 _ false m 23 [c0, c1] = some x0 := h0
      have h1 : DataW.trod _ Tryz.prog W 0 _ false m 23 [c2, c3] = some x1 := h1
      have h2 : DataW.trod _ Tryz.prog W 0 _ false m 23 [c4, c5] = some x2 := h2
      have h3 : DataW.trod _ Tryz.prog W 0 _ false m 23 [c6, c7] = some x3 := h3
      simp only [Rows.laid_foreshore_wind_ahead, List.map_cons, List.map_nil, DataW.agg.injEq, List.cons.injEq, and_true] at hx
      obtain ⟨y0, y1, y2, y3⟩ := hx
      obtain ⟨rfl, rfl⟩ := pair h0 y0.symm
      obtain ⟨rfl, rfl⟩ := pair h1 y1.symm
      obtain ⟨rfl, rfl⟩ := pair h2 y2.symm
      obtain ⟨rfl, rfl⟩ := pair h3 y3.symm
      rfl
  obtain ⟨e, fr, hb⟩ := hh
  have hsz : cs0.size = 8 := by rw [← Array.length_toList, hcs]; rfl
  intro g r hr
  match g, hr with
  | 0, hr =>
    cases hr
    refine ⟨cs0, e, fr, hb, by rw [hsz]; exact Nat.le_refl _, fun γ' w' => ?_, fun u hu => ?_⟩
    · rw [hcs]
      simp only [List.length_cons, List.length_nil, List.take_succ_cons, List.take_nil]
      repeat' first | exact Go.Ev.DVL.nil | refine Go.Ev.DVL.cons (Go.Ev.DV_of_i _ _) ?_
    · rw [hcs] at hu
      simp only [List.length_cons, List.length_nil, List.take_succ_cons, List.take_nil, List.mem_cons, List.not_mem_nil, or_false] at hu
      rcases hu with rfl | rfl | rfl | rfl | rfl | rfl | rfl | rfl <;> rfl

theorem walk (w : World) (hL : Go.Ev.LRok w) : Calls Tryz.prog 3 #[] w fun e w' => e = .returned (.bool true) ∧ Grown w w' := Go.Ev.closed_calls (f := Go.Ev.pfMain) Go.Ev.fpA_ok Go.Ev.mainT w hL

theorem contract (H : Type) (enc : TypeId × Value → H) (W : World) (base : Nat) (args : Array Value) (ds gs : List (DataW H)) (before : List MemPlace)
    (hW : DataW.Whole enc Tryz.prog Tryz.f3.params.toList Rows.seatNamesSpec.vars false W args.toList ds gs before) (hL : laidMetH Tryz.prog Rows.seatNamesRow.laid W) :
    Calls Tryz.prog 3 args W fun e W' => ∃ v, e = .returned v ∧ Rows.seatNamesSpec.post enc Tryz.prog Tryz.f3 false true false false W args v W' := by
  have hW' := hW
  obtain ⟨p, q, hA0, hV, rfl, hfz, hnd⟩ := hW
  have hA : DataW.TrodAll enc Tryz.prog W 0 (fun _ => true) true Tryz.f3.params.toList args.toList ds p := hA0
  rw [Tryz.params3] at hA
  obtain ⟨rfl, rfl, rfl⟩ := trodAll_none hA
  obtain ⟨rfl, rfl⟩ := trodVars_none hV
  clear hA0
  simp only [List.append_nil] at hW'
  refine (walk W (listed hL)).mono fun e W' ⟨he, hg⟩ => ?_
  subst he
  exact ⟨_, rfl, post_of_same (pa := []) (pv := []) hW' (fun _ _ _ => (trodAll_cons_mk (shut_bool Tryz.underlying4 _) trodAll_mk0)) (fun _ _ => rfl) (fun _ _ => rfl) rfl
    (hg.frame _) hg.2.1 (ok_one (by kernel_rfl) rfl (okWide_bool_mk Tryz.underlying4 _))⟩

/-- A WORLD FOR THE WITNESS: the settled one, the variable (block 0) holding what its initialiser lays. -/
noncomputable def laidWorld (os : Os) : World :=
  { World.holding Tryz.prog os ⟨#[], #[], []⟩ with heap := (World.holding Tryz.prog os ⟨#[], #[], []⟩).heap.modify 0 fun
      | .cells _ t frozen => .cells #[.int .i64 (-1), .int .i64 0, .int .i64 0, .int .i64 1, .int .i64 1, .int .i64 0, .int .i64 0, .int .i64 (-1)] t frozen
      | o => o }
theorem laid_met (os : Os) : laidMet Tryz.prog Rows.seatNamesRow.laid ((laidWorld os).forCall (fun _ _ => 0) ⟨#[], #[], []⟩).memory :=
  laidMet_of_run' 8 (by kernel_rfl) (by kernel_rfl)
theorem reads (os : Os) {H : Type} (enc : TypeId × Value → H) : ∃ places, DataW.whole enc Tryz.prog ((laidWorld os).forCall (fun _ _ => 0) ⟨#[], #[], []⟩).memory Tryz.f3.params.toList Rows.seatNamesSpec.vars false (#[] : Array Value).toList 8 = some ([], [], places) :=
  ⟨[], by kernel_rfl⟩

set_option maxRecDepth 100000 in
theorem lifted (os : Os) (started : os.Started) (H : Type) (enc : TypeId × Value → H) (F : Stop.Interp) :
    ReturnsInHanded {} Tryz.checked os 3 .any ((OpenSpec.ofChange Rows.seatNamesSpec).preRow enc Tryz.prog Tryz.f3 Rows.seatNamesRow.domain false Rows.seatNamesRow.laid) (((OpenSpec.ofChange Rows.seatNamesSpec).at F).post enc Tryz.prog Tryz.f3 false true false false) := by
  obtain ⟨places, hx⟩ := reads os enc
  refine returnsInHanded_of_row (C := Tryz.checked) (s := OpenSpec.ofChange Rows.seatNamesSpec) own started (by kernel_rfl) Tryz.func3
    (witness_row_at (enc := enc) (C := Tryz.checked) false (laidWorld os) #[] rfl (by kernel_rfl) (by kernel_rfl) (by kernel_rfl)
      (OpenSpec.preRow_of_cond 8 hx (by kernel_rfl) (fun k hk => by cases hk) (by kernel_rfl) (laid_met os))) ?_
  intro W base args ds gs before hval hW _ _ _ hL _ _
  exact contract H enc W base args ds gs before hW hL

theorem said : Rows.SeatNamesSaid :=
  OpenClaim.holds_of_cond 3 Tryz.f3 rfl rfl rfl rfl rfl rfl rfl ⟨rfl, rfl, rfl, rfl, rfl⟩ rfl rfl rfl rfl rfl (by kernel_rfl) Tryz.func3 (by kernel_rfl)
    (of_decide_eq_true (by kernel_rfl)) (by unfold Func.isWrapper; first | (rw [if_pos (by decide +kernel)]; kernel_rfl) | (rw [if_neg (by decide +kernel)]; exact ⟨rfl, rfl⟩))
    (fun os started H enc _ F => by rw [OpenClaim.pre_eq_preRow]; exact lifted os started H enc F)

/-- No parameter wants a stand-in; the program's own looks are off. -/
theorem plain (f : FuncId) (fn : Func) (hf : Tryz.pinned.checked.prog.funcNamed "foreshore/foreshorelaw05.SeatNames" = some f) (hfn : Tryz.pinned.checked.prog.funcs[f]? = some fn) :
    false = Tryz.pinned.checked.prog.looks [] ∧ ∀ (j : Nat) t, fn.params[j]? = some t → Tryz.pinned.checked.prog.wantsStandIn t = false := by
  obtain rfl : f = 3 := Option.some.inj ((show Tryz.prog.funcNamed "foreshore/foreshorelaw05.SeatNames" = some 3 by kernel_rfl).symm.trans hf) |>.symm
  obtain rfl : fn = Tryz.f3 := (Option.some.inj (Tryz.func3.symm.trans hfn)).symm
  refine ⟨by kernel_rfl, fun j t ht => ?_⟩
  rw [Tryz.params3] at ht
  exact absurd (Array.mem_of_getElem? ht) (by simp)

/-- THE CARD -/
theorem proved : Rows.SeatNamesCardSaid :=
  Claim7.holds_tied_plain_at .later [] _ _ _ _ said (fun _ h => by cases h) (by kernel_rfl) (fun _ h => by cases h) seatNames_row_tie rfl ⟨rfl, rfl⟩ (by kernel_rfl) rfl plain (by kernel_rfl)
#print axioms proved
end Go.Proofs.YtihlllachfonoaaGreatDoor.seatNames
