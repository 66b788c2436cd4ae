/-
  The law WindLeaves answers true for every input, and leaves memory as it was, whatever the state of the machine that it starts in in which the package variable ahead reads as the program text lays it; the card ties that reading to the text of the pruned copy of the program that this seat holds. No other conditions. (Contracts of every function that it calls, over all inputs; awake is run inside the kernel.)
-/
import Derived.Test.YtkbgaadfednjpaaGreatDoorCards
import Derived.Test.YtkbgaadfednjpaaGreatDoorTie
import Derived.WalkKit
import Derived.ProofKit
import Derived.OpenShut
import Derived.Deep.DeepHandedRow
import Derived.Lib.LaidTab
import Derived.MakeChecks
import Derived.Test.YtkbgaadfednjpaaGreatDoorEvUIt
import Derived.Test.YtkbgaadfednjpaaGreatDoorEvU5v
import Derived.Test.YtkbgaadfednjpaaGreatDoorEvUS4A
import Derived.ShutString
import Derived.Test.YtkbgaadfednjpaaGreatDoorFaWindLeaves
set_option linter.all false
set_option maxHeartbeats 8000000

/-
  The law WindLeaves answers true for every input, and leaves memory as it was, whatever the state of the machine that it starts in in which the package variable ahead reads as the program text lays it; the card ties that reading to the text of the pruned copy of the program that this seat holds. No other conditions. (Contracts of every function that it calls, over all inputs; awake is run inside the kernel.)
-/
set_option linter.all false
set_option maxRecDepth 100000
namespace Go.Proofs.YtkbgaadfednjpaaGreatDoor.windLeaves
open Go.ChangeShapes Go.WideShapes Go.ChangeAt Go.RowKit
theorem laid : laidOutB Tryz.prog = true := faP.laid
theorem own : ownKnob Tryz.prog.godebug = none := by kernel_rfl
theorem gAhead : Tryz.prog.globalNamed "foreshore/wind.ahead" = some 0 := by kernel_rfl
theorem tAhead : (Tryz.prog.globals[0]?).map (·.type) = some 214 := by kernel_rfl
theorem cA : Tryz.prog.cellsOf 214 = 8 := by kernel_rfl
theorem cS : Tryz.prog.cellsOf 74 = 2 := by kernel_rfl
theorem cI : Tryz.prog.cellsOf 3 = 1 := by kernel_rfl
theorem pair {W : World} {m : Nat} {a b : Value} {d0 d1 : Int} {x : DataW Unit × List MemPlace} {enc : TypeId × Value → Unit} {sp : Nat → Bool} (h : DataW.trod enc Tryz.prog W 0 sp false m 74 [a, b] = some x) (e : x.1 = .agg [.lit (.int .i64 d0), .lit (.int .i64 d1)]) : a = .int .i64 d0 ∧ b = .int .i64 d1 := by
  obtain ⟨y0, y1, n, rfl, _, h0, h1⟩ := trod_struct2 Tryz.underlying74 h
  simp only [cI, List.drop_zero, List.take_succ_cons, List.take_zero, List.drop_succ_cons] at h0 h1
  obtain ⟨k0, q0, rfl, _⟩ := DataW.trod_int Tryz.underlying3 h0
  obtain ⟨k1, q1, rfl, _⟩ := DataW.trod_int Tryz.underlying3 h1
  simp only [DataW.agg.injEq, List.cons.injEq, DataW.lit.injEq, Lit.int.injEq, true_and, and_true] at e
  simp only [List.cons.injEq, and_true] at q0 q1
  exact ⟨q0.trans (by rw [e.1]), q1.trans (by rw [e.2])⟩
theorem listed {W : World} (h : laidMetH Tryz.prog Rows.windLeavesRow.laid W) : Go.Ev.LRok W := by
  rw [MakeChecks.laidMetH_plain _ _ _ (by kernel_rfl)] at h
  obtain ⟨ps, ⟨g0, t0, cs0, f0, p0, q0, hg0, ht0, hv0, hd0, _, _⟩, _, _⟩ := h
  obtain rfl := Option.some.inj (gAhead.symm.trans hg0)
  obtain rfl := Option.some.inj (tAhead.symm.trans ht0)
  obtain ⟨xs, m, rfl, hx, hl, hn, hel⟩ := DataW.trod_array Tryz.underlying214 hd0
  have hh : ∃ e fr, W.heap[0]? = some (.cells cs0 e fr) := by
    simp only [World.var?, gAhead, Option.bind_some] at hv0
    split at hv0
    · rename_i vs e fr hb
      cases hv0
      exact ⟨e, fr, hb⟩
    · cases hv0
  have hcs : cs0.toList = [.int .i64 (-1), .int .i64 0, .int .i64 0, .int .i64 1, .int .i64 1, .int .i64 0, .int .i64 0, .int .i64 (-1)] := by
    rw [cA] at hl
    have hx := congrArg Prod.fst hx
    generalize cs0.toList = l at hl hel
    match l, hl, xs, hn with
    | [c0, c1, c2, c3, c4, c5, c6, c7], _, [x0, x1, x2, x3], _ =>
      have h0 := hel 0 (by decide)
      have h1 := hel 1 (by decide)
      have h2 := hel 2 (by decide)
      have h3 := hel 3 (by decide)
      simp only [cS] at h0 h1 h2 h3
      have h0 : DataW.trod _ Tryz.prog W 0 _ false m 74 [c0, c1] = some x0 := h0
      have h1 : DataW.trod _ Tryz.prog W 0 _ false m 74 [c2, c3] = some x1 := h1
      have h2 : DataW.trod _ Tryz.prog W 0 _ false m 74 [c4, c5] = some x2 := h2
      have h3 : DataW.trod _ Tryz.prog W 0 _ false m 74 [c6, c7] = some x3 := h3
      simp only [Rows.laid_foreshore_wind_ahead, List.map_cons, List.map_nil, DataW.agg.injEq, List.cons.injEq, and_true] at hx
      obtain ⟨y0, y1, y2, y3⟩ := hx
      obtain ⟨rfl, rfl⟩ := pair h0 y0.symm
      obtain ⟨rfl, rfl⟩ := pair h1 y1.symm
      obtain ⟨rfl, rfl⟩ := pair h2 y2.symm
      obtain ⟨rfl, rfl⟩ := pair h3 y3.symm
      rfl
  obtain ⟨e, fr, hb⟩ := hh
  have hsz : cs0.size = 8 := by rw [← Array.length_toList, hcs]; rfl
  intro g r hr
  match g, hr with
  | 0, hr =>
    cases hr
    refine ⟨cs0, e, fr, hb, by rw [hsz]; exact Nat.le_refl _, fun γ' w' => ?_, fun u hu => ?_⟩
    · rw [hcs]
      simp only [List.length_cons, List.length_nil, List.take_succ_cons, List.take_nil]
      repeat' first | exact Go.Ev.DVL.nil | refine Go.Ev.DVL.cons (Go.Ev.DV_of_i _ _) ?_
    · rw [hcs] at hu
      simp only [List.length_cons, List.length_nil, List.take_succ_cons, List.take_nil, List.mem_cons, List.not_mem_nil, or_false] at hu
      rcases hu with rfl | rfl | rfl | rfl | rfl | rfl | rfl | rfl <;> rfl
theorem walk {es : List Go.Ev.D} (fit : Go.Ev.FitP [(true, [.i .i64, .i .i64, .i .i64, .i .i64, .sl [.i .i64], .sl [.i .i64], .sl [.sl [.i .i64]], .sl [.i .i64, .i .i64], .sl [.i .i64, .i .i64]])] es) {args : Array Value} {W : World} (ha : Go.Ev.DVL (Go.Ev.γH W) W es args.toList) (hL : Go.Ev.LRok W) :
    Calls Tryz.prog 7 args W fun e w' => e = .returned (.bool true) ∧ Grown W w' ∧ Below W.heap.size W w' :=
  Go.Ev.PureF.calls (Go.Ev.main_windLeaves (fun ob nx lg => Go.Ev.closed_call Go.Ev.fp1_ok Go.Ev.aw ob nx lg) fit) ha hL
theorem contract (H : Type) (enc : TypeId × Value → H) (W : World) (base : Nat) (args : Array Value) (ds gs : List (DataW H)) (before : List MemPlace)
    (hval0 : ∀ (j : Nat) t v, Tryz.f7.params[j]? = some t → args[j]? = some v → Value.okWide Tryz.prog W .any base t v)
    (hW : DataW.Whole enc Tryz.prog Tryz.f7.params.toList Rows.windLeavesSpec.vars false W args.toList ds gs before) (hL : laidMetH Tryz.prog Rows.windLeavesRow.laid W) :
    Calls Tryz.prog 7 args W fun e W' => ∃ v, e = .returned v ∧ Rows.windLeavesSpec.post enc Tryz.prog Tryz.f7 false true false false W args v W' := by
  have hval : ∀ (j : Nat) t v, Tryz.f7.params[j]? = some t → args[j]? = some v → Value.okWide Tryz.prog W .any base t v := hval0
  have hW' := hW
  obtain ⟨p, q, hA0, hV, rfl, hfz, hnd⟩ := hW
  have hA : DataW.TrodAll enc Tryz.prog W 0 (fun _ => true) true Tryz.f7.params.toList args.toList ds p := hA0
  rw [Tryz.params7] at hA hval
  obtain ⟨rfl, rfl⟩ := trodVars_none hV
  obtain ⟨d0, rfl⟩ := Go.Ev.len1 (Go.Ev.trod_len hA)
  clear hA0 hval0
  simp only [List.append_nil] at hW'
  obtain ⟨es, fit, dv⟩ := Go.Ev.open_all (n := 6) (pars := [(true, [.i .i64, .i .i64, .i .i64, .i .i64, .sl [.i .i64], .sl [.i .i64], .sl [.sl [.i .i64]], .sl [.i .i64, .i .i64], .sl [.i .i64, .i .i64]])]) (by kernel_rfl) hA (fun j t v h1 h2 => hval j t v (by simpa using h1) (by simpa using h2))
  have hlt : ∀ x ∈ p, x.block < W.heap.size := fun x hx => by simpa using hW'.lt x hx
  refine (walk fit dv (listed hL)).mono fun e W' ⟨he, hg, hb⟩ => ?_
  subst he
  exact ⟨_, rfl, post_of_same (pa := p) (pv := []) hW' (fun _ _ _ => (trodAll_cons_mk (shut_bool Tryz.underlying4 _) trodAll_mk0))
    (fun sp hs => Go.Ev.stays_all laid (Go.Ev.of_allT (by kernel_rfl)) hA (fun x hx => hb.same (hlt x hx)) (fun x hx => hs x hx))
    (fun _ _ => rfl) (List.append_nil _).symm
    (hg.frame _) hg.2.1 (ok_one (by kernel_rfl) rfl (okWide_bool_mk Tryz.underlying4 _))⟩
noncomputable def laidWorld (os : Os) : World :=
  { World.holding Tryz.prog os ⟨#[], #[], []⟩ with heap := (World.holding Tryz.prog os ⟨#[], #[], []⟩).heap.modify 0 fun
      | .cells _ t frozen => .cells #[.int .i64 (-1), .int .i64 0, .int .i64 0, .int .i64 1, .int .i64 1, .int .i64 0, .int .i64 0, .int .i64 (-1)] t frozen
      | o => o }
theorem laid_met (os : Os) : laidMet Tryz.prog Rows.windLeavesRow.laid ((laidWorld os).forCall (fun _ _ => 0) ⟨#[], #[.agg #[.int .i64 0, .int .i64 0, .int .i64 0, .int .i64 0, .slice none 0 0, .slice none 0 0, .slice none 0 0, .slice none 0 0, .slice none 0 0]], []⟩).memory :=
  laidMet_of_run' 8 (by kernel_rfl) (by kernel_rfl)
theorem reads (os : Os) {H : Type} (enc : TypeId × Value → H) : ∃ places, DataW.whole enc Tryz.prog ((laidWorld os).forCall (fun _ _ => 0) ⟨#[], #[.agg #[.int .i64 0, .int .i64 0, .int .i64 0, .int .i64 0, .slice none 0 0, .slice none 0 0, .slice none 0 0, .slice none 0 0, .slice none 0 0]], []⟩).memory Tryz.f7.params.toList Rows.windLeavesSpec.vars false (#[.agg #[.int .i64 0, .int .i64 0, .int .i64 0, .int .i64 0, .slice none 0 0, .slice none 0 0, .slice none 0 0, .slice none 0 0, .slice none 0 0]] : Array Value).toList 8 = some ([.agg [.lit (.int .i64 0), .lit (.int .i64 0), .lit (.int .i64 0), .lit (.int .i64 0), .nil, .nil, .nil, .nil, .nil]], [], places) :=
  ⟨[], by kernel_rfl⟩
theorem lifted (os : Os) (started : os.Started) (H : Type) (enc : TypeId × Value → H) (F : Stop.Interp) :
    ReturnsInHanded {} Tryz.checked os 7 .any ((OpenSpec.ofChange Rows.windLeavesSpec).preRow enc Tryz.prog Tryz.f7 Rows.windLeavesRow.domain false Rows.windLeavesRow.laid) (((OpenSpec.ofChange Rows.windLeavesSpec).at F).post enc Tryz.prog Tryz.f7 false true false false) := by
  obtain ⟨places, hx⟩ := reads os enc
  refine returnsInHanded_of_row (C := Tryz.checked) (s := OpenSpec.ofChange Rows.windLeavesSpec) own started (by kernel_rfl) Tryz.func7
    (witness_row_at (enc := enc) (C := Tryz.checked) false (laidWorld os) #[.agg #[.int .i64 0, .int .i64 0, .int .i64 0, .int .i64 0, .slice none 0 0, .slice none 0 0, .slice none 0 0, .slice none 0 0, .slice none 0 0]] rfl (by kernel_rfl) (by kernel_rfl) (by kernel_rfl)
      (OpenSpec.preRow_of_cond 8 hx (by kernel_rfl) (fun k hk => by cases hk) (by kernel_rfl) (laid_met os))) ?_
  intro W base args ds gs before hval hW _ _ _ hL _ _
  exact contract H enc W base args ds gs before hval hW hL
theorem said : Rows.WindLeavesSaid :=
  OpenClaim.holds_of_cond 7 Tryz.f7 rfl rfl rfl rfl rfl rfl rfl ⟨rfl, rfl, rfl, rfl, rfl⟩ rfl rfl rfl rfl rfl (by kernel_rfl) Tryz.func7 faWindLeaves.all
    (of_decide_eq_true (by kernel_rfl)) (by unfold Func.isWrapper; first | (rw [if_pos (by decide +kernel)]; kernel_rfl) | (rw [if_neg (by decide +kernel)]; exact ⟨rfl, rfl⟩))
    (fun os started H enc _ F => by rw [OpenClaim.pre_eq_preRow]; exact lifted os started H enc F)
theorem plain (f : FuncId) (fn : Func) (hf : Tryz.pinned.checked.prog.funcNamed "foreshore/foreshorelaw04.WindLeaves" = some f) (hfn : Tryz.pinned.checked.prog.funcs[f]? = some fn) :
    false = Tryz.pinned.checked.prog.looks [] ∧ ∀ (j : Nat) t, fn.params[j]? = some t → Tryz.pinned.checked.prog.wantsStandIn t = false := by
  obtain rfl : f = 7 := Option.some.inj ((show Tryz.prog.funcNamed "foreshore/foreshorelaw04.WindLeaves" = some 7 by kernel_rfl).symm.trans hf) |>.symm
  obtain rfl : fn = Tryz.f7 := (Option.some.inj (Tryz.func7.symm.trans hfn)).symm
  refine ⟨by kernel_rfl, fun j t ht => ?_⟩
  rw [Tryz.params7] at ht
  have hm := Array.mem_of_getElem? ht
  simp only [List.mem_toArray, List.mem_cons, List.not_mem_nil, or_false] at hm
  rcases hm with rfl
  · exact (show Tryz.prog.wantsStandIn 27 = false by kernel_rfl)
theorem proved : Rows.WindLeavesCardSaid :=
  Claim7.holds_tied_plain_at .later [] _ _ _ _ said (fun _ h => by cases h) (by kernel_rfl) (fun _ h => by cases h) windLeaves_row_tie rfl ⟨rfl, rfl⟩ (by kernel_rfl) rfl plain (by kernel_rfl)
#print axioms proved
end Go.Proofs.YtkbgaadfednjpaaGreatDoor.windLeaves