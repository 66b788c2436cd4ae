/-
  The law CountPlays answers true for every input (a row and a list), and leaves memory as it was, whatever the state of the machine that it starts in. No conditions. (Its functions are taken one by one by what they answer on values: code for values that are not known is run by rules that are proved sound for any program; the range over the iterator of truths is taken by induction; awake, which it calls last, is closed and is run inside the kernel.)
-/
import Derived.Test.YtmlpgfmbhpefmaaRows
import Derived.WalkKit
import Derived.ProofKit
import Derived.OpenShut
import Derived.Test.YtmlpgfmbhpefmaaEvKq
import Derived.Test.YtmlpgfmbhpefmaaEvOc
import Derived.Test.YtmlpgfmbhpefmaaEvS1B
import Derived.ShutString
namespace Go.Proofs.Ytmlpgfmbhpefmaa.countPlays
open Go.ChangeShapes Go.WideShapes Go.ChangeAt Go.RowKit
open Go.ChangeMaps (open_string shut_string)
set_option linter.unusedVariables false

theorem laid : laidOutB Try.prog = true := by kernel_rfl
theorem own : ownKnob Try.prog.godebug = none := by kernel_rfl

theorem fit_cnts : ∀ {es : List (List Go.Ev.D)}, (∀ x ∈ es, Go.Ev.FitL [.b, .i .i64, .i .i64] x) → ∃ cs, es = Go.Ev.rows Go.Ev.cntD cs
  | [], _ => ⟨[], rfl⟩
  | x :: es, h => by
    obtain ⟨l, rfl⟩ := fit_cnts (es := es) fun y hy => h y (by simp [hy])
    have h1 := h x (by simp)
    simp only [Go.Ev.FitL, Go.Ev.FitC] at h1
    obtain ⟨d, ds, rfl, ⟨b, rfl⟩, d2, ds2, rfl, ⟨n2, rfl, _⟩, d3, ds3, rfl, ⟨n3, rfl, _⟩, rfl⟩ := h1
    exact ⟨⟨b, n2, n3⟩ :: l, rfl⟩
theorem fit_row {ds : List Go.Ev.D} (h : Go.Ev.FitL [.sl [.i .i64], .sl [.b, .i .i64, .i .i64], .i .i64, .i .i64] ds) : ∃ l cs wr off, ds = [.lst 1 (Go.Ev.ints l), .lst 3 (Go.Ev.rows Go.Ev.cntD cs), .i .i64 wr, .i .i64 off] := by
  simp only [Go.Ev.FitL, Go.Ev.FitC] at h
  obtain ⟨d, ds, rfl, ⟨e1, rfl, h1⟩, d2, ds2, rfl, ⟨e2, rfl, h2⟩, d3, ds3, rfl, ⟨n3, rfl, _⟩, d4, ds4, rfl, ⟨n4, rfl, _⟩, rfl⟩ := h
  obtain ⟨l, rfl, _⟩ := Go.Ev.fit_ints fun x hx => by have := h1 x hx; simpa only [Go.Ev.FitL, Go.Ev.FitC] using this
  obtain ⟨cs, rfl⟩ := fit_cnts fun x hx => by have := h2 x hx; simpa only [Go.Ev.FitL, Go.Ev.FitC] using this
  exact ⟨l, cs, n3, n4, rfl⟩

theorem fit_list {ds : List Go.Ev.D} (h : Go.Ev.FitL [.sl [.i .i64]] ds) : ∃ t, ds = [.lst 1 (Go.Ev.ints t)] ∧ ∀ n ∈ t, Go.Ev.wfB .i64 n = true := by
  simp only [Go.Ev.FitL, Go.Ev.FitC] at h
  obtain ⟨d, ds, rfl, ⟨e1, rfl, h1⟩, rfl⟩ := h
  obtain ⟨l, rfl, hl⟩ := Go.Ev.fit_ints fun x hx => by have := h1 x hx; simpa only [Go.Ev.FitL, Go.Ev.FitC] using this
  exact ⟨l, rfl, hl⟩

/-! ### the walk -/
theorem walk (l : List Int) (cs : List Go.Ev.Cnt) (wr off : Int) (t : List Int) (ht : ∀ n ∈ t, Go.Ev.wfB .i64 n = true) {args : Array Value} {W : World} (ha : Go.Ev.DVL (Go.Ev.γH W) W [.ag [.lst 1 (Go.Ev.ints l), .lst 3 (Go.Ev.rows Go.Ev.cntD cs), .i .i64 wr, .i .i64 off], .lst 1 (Go.Ev.ints t)] args.toList) :
    Calls Try.prog 3 args W fun e w' => e = .returned (.bool true) ∧ Grown W w' ∧ Below W.heap.size W w' :=
  Go.Ev.PureF.calls (Go.Ev.c_CountPlays l cs wr off t (Go.Ev.getD_wf ht) fun ob nx lg => Go.Ev.awT.any ob nx lg) ha

set_option maxRecDepth 100000 in
theorem lifted (os : Os) (started : os.Started) (H : Type) (enc : TypeId × Value → H) :
    ReturnsInHanded {} Try.checked os 3 .any (Rows.countPlaysSpec.pre6 enc Try.prog Try.f3 Rows.countPlaysRow.domain false) (Rows.countPlaysSpec.post enc Try.prog Try.f3 false true false false) := by
  refine returnsInHanded_of_change (C := Try.checked) own started (by kernel_rfl) Try.func3
    (ChangeSpec.witness6 (enc := enc) (C := Try.checked) false ⟨#[], #[.agg #[.slice none 0 0, .slice none 0 0, .int .i64 0, .int .i64 0], .slice none 0 0], []⟩ 8 (by kernel_rfl) (by kernel_rfl) (by kernel_rfl) (by kernel_rfl)) ?_
  intro W base args ds gs before hval0 hW hcnd _
  have hval : ∀ (j : Nat) t v, Try.f3.params[j]? = some t → args[j]? = some v → Value.okWide Try.prog W .any base t v := hval0
  have hW' := hW
  obtain ⟨p, q, hA0, hV, rfl, hfz, hnd⟩ := hW
  have hA : DataW.TrodAll enc Try.prog W 0 (fun _ => true) true Try.f3.params.toList args.toList ds p := hA0
  rw [Try.params3] at hA hval
  obtain ⟨v, v', d, d', p1, p2, rfl, rfl, rfl, h1, h2⟩ := trodAll_two hA
  obtain ⟨rfl, rfl⟩ := trodVars_none hV
  clear hA0 hval0
  simp only [List.append_nil] at hW'
  obtain ⟨ds1, f1, v1⟩ := Go.Ev.open_struct (n := 4) (row := [.sl [.i .i64], .sl [.b, .i .i64, .i .i64], .i .i64, .i .i64]) Try.underlying25 (hval 0 _ v rfl rfl) (by kernel_rfl) h1
  obtain ⟨ds2, f2, v2⟩ := Go.Ev.open_list (n := 4) (row := [.sl [.i .i64]]) Try.underlying22 (hval 1 _ v' rfl rfl) (by kernel_rfl) h2
  obtain ⟨l, cs, wr, off, rfl⟩ := fit_row f1
  obtain ⟨t, rfl, ht⟩ := fit_list f2
  have hlt : ∀ x ∈ p1 ++ p2, x.block < W.heap.size := fun x hx => by simpa using hW'.lt x hx
  refine (walk l cs wr off t ht (W := W) (args := #[v, v']) (Go.Ev.DVL.cons v1 v2)).mono fun e W' ⟨he, hg, hb⟩ => ?_
  subst he
  exact ⟨_, rfl, post_of_same (pa := p1 ++ p2) (pv := []) hW' (fun _ _ _ => (trodAll_cons_mk (shut_bool Try.underlying4 _) trodAll_mk0))
    (fun sp hs => trodAll_mk2 (Go.WideElems.Trod_stays laid (by kernel_rfl) (of_decide_eq_true (by kernel_rfl)) h1 (fun x hx => hb.same (hlt x (List.mem_append_left _ hx))) (fun x hx => hs x (List.mem_append_left _ hx)))
      (Go.WideElems.Trod_stays laid (by kernel_rfl) (of_decide_eq_true (by kernel_rfl)) h2 (fun x hx => hb.same (hlt x (List.mem_append_right _ hx))) (fun x hx => hs x (List.mem_append_right _ hx))))
    (fun _ _ => rfl) (List.append_nil _).symm
    (hg.frame _) hg.2.1 (ok_one (by kernel_rfl) rfl (okWide_bool_mk Try.underlying4 _))⟩

theorem over : Rows.countPlaysRow.holds Try.pinned (OpenSpec.ofChange Rows.countPlaysSpec) :=
  OpenClaim.holds_of_wide 3 Try.f3 rfl rfl rfl rfl rfl rfl rfl ⟨rfl, rfl, rfl, rfl, rfl⟩ rfl rfl rfl rfl rfl (by kernel_rfl) Try.func3 (by kernel_rfl)
    (of_decide_eq_true (by kernel_rfl)) (by unfold Func.isWrapper; first | (rw [if_pos (by decide +kernel)]; kernel_rfl) | (rw [if_neg (by decide +kernel)]; exact ⟨rfl, rfl⟩))
    (fun os started H enc _ => lifted os started H enc)

/-- ████ THE STATEMENT ████ -/
theorem proved : Rows.CountPlaysSaid :=
  over
#print axioms proved
end Go.Proofs.Ytmlpgfmbhpefmaa.countPlays
