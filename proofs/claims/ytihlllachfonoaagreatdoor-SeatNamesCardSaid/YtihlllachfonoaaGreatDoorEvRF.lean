import Derived.Test.YtihlllachfonoaaGreatDoorEvY
import Derived.RangeFuncNested
set_option linter.all false
namespace Go.Ev
open Go.RowKit (Below)

theorem slots_ok {nt : Nat} : ∀ {l : List Nat} {ps : List Pos}, slots nt l = some ps → l = ps.map Pos.ix ∧ ∀ p, p ∈ ps → p.ix < nt
  | [], ps, h => by cases h; exact ⟨rfl, fun p hp => by cases hp⟩
  | s :: l, ps, h => by
    simp only [slots] at h
    split at h
    · rename_i p ps' h1 h2
      cases h
      obtain ⟨h3, h4⟩ := slotN_ix h1
      obtain ⟨h5, h6⟩ := slots_ok h2
      refine ⟨by rw [List.map_cons, h3, ← h5], fun q hq => ?_⟩
      rcases List.mem_cons.1 hq with e | hq
      · rw [e, h3]; exact h4
      · exact h6 q hq
    · cases h

section
variable {P : Program} {FP : T RF} {ex : RC → X → Option (Ex × X)} {nt : Nat}

/-- The record is laid: with or without a block for the rounds' deferred calls. -/
theorem enterLoop_ok {ro : Option Nat} {γ : Gh} {a : Act} {w : World} (g : G ro γ a w) (fn : FuncId) (ps : Array Tmp) (asg body : Code) :
    ∃ (l : Nat) (mk : List Deferred) (w0 : World) (r : Loop), (Instr.enterLoop fn a.tmps ps asg body ro).run P w = .ok (l, mk) (w0.alloc (.loop r)) ∧ l = w0.heap.size ∧ w.heap.size ≤ l ∧
      r.state = .ready ∧ r.pending = none ∧ r.tmps = a.tmps ∧ r.params = ps ∧ r.assign = asg ∧ r.body = body ∧
      (∀ id, Fr (fun j => j = id) γ γ w w0) ∧ G ro γ { a with defers := mk ++ a.defers } w0 ∧ ∀ r, mark r ∈ mk ++ a.defers → mark r ∈ a.defers ∨ w.heap.size ≤ r := by
  cases ro with
  | some l0 =>
    obtain ⟨r0, hr0⟩ := g.rd l0 rfl
    exact ⟨_, [], w, _, run_enterLoop_inner hr0 _ _ _ _ _, rfl, Nat.le_refl _, rfl, rfl, rfl, rfl, rfl, rfl, fun id => Fr.refl _ _ _, g, fun r hr => .inl hr⟩
  | none =>
    have key : ∀ id, Fr (fun j => j = id) γ γ w (w.alloc (.deferred (some []))) ∧ ∀ a' : Act, a'.defers = a.defers → G none γ a' (w.alloc (.deferred (some []))) := fun id =>
      same_all g id (by rw [size_alloc']; omega) (fun c hc _ => heap_alloc_lt w _ hc)
        (fun c x hx => by rw [shape_same (heap_alloc_lt w _ (shape_lt hx))]; exact hx)
        (fun c r hr => ⟨r, by rw [heap_alloc_lt w _ (Array.getElem?_eq_some_iff.1 hr).1]; exact hr⟩) ⟨rfl, rfl, rfl⟩ (frozen_alloc w _ (fun _ _ _ h => by cases h))
    refine ⟨_, [mark w.heap.size], w.alloc (.deferred (some [])), _, run_enterLoop_outer _ _ _ _ _, by rw [size_alloc'], by omega, rfl, rfl, rfl, rfl, rfl, rfl, fun id => (key id).1, ?_, fun r hr => ?_⟩
    · have g1 := (key .h).2 a rfl
      refine ⟨g1.ob, g1.inj, ?_, (fun l hl => by cases hl), g1.im, g1.gl⟩
      obtain ⟨ms, h1, h2, h3⟩ := g1.df
      obtain ⟨ms', h1', h2', h3'⟩ := g.df
      have hms : ∀ q, q ∈ ms → q ≠ w.heap.size := by
        intro q hq e
        have : mark q ∈ a.defers := by rw [h1]; exact mark_mem.2 hq
        rw [h1'] at this
        have := (h3' q (mark_mem.1 this)).1
        have := (Array.getElem?_eq_some_iff.1 this).1
        omega
      refine ⟨w.heap.size :: ms, by simp [h1], List.nodup_cons.2 ⟨fun h => hms _ h rfl, h2⟩, fun q hq => ?_⟩
      rcases List.mem_cons.1 hq with e | hq
      · subst e
        exact ⟨heap_alloc_self w _, fun id st hst e => by have := g.ob id st hst; omega⟩
      · exact h3 q hq
    · rcases List.mem_cons.1 hr with e | hr
      · right
        have : r = w.heap.size := by
          unfold mark at e
          cases e; rfl
        omega
      · exact .inl hr

theorem XOk.rf (hFP : FPok P FP) (IH : ∀ nt c x e Z, ex (comp P nt c) x = some (e, Z) → XOk P nt c x e Z) {f : Operand} {psT : Array Tmp} {asg body : Code} {rf : RX} {ps : List Pos} {x Z : X} {e : Ex} (hf : rx f = some rf) (hps : slots nt psT.toList = some ps)
    (h : e_rf FP ex rf ps nt asg body x = some (e, Z)) : XOk P nt (.rangeFunc f psT asg body) x e Z := by
  obtain ⟨sl, ob, nx, lg⟩ := x
  obtain ⟨hps1, hps2⟩ := slots_ok hps
  simp only [e_rf] at h
  split at h
  · rename_i f' first caps hv
    rw [T.setK_eq, Pos.succK_eq] at h
    split at h
    · rename_i sl2 ob2 nx2 lg2 hcall
      obtain ⟨lg1, h1, hl1, hw1⟩ := logW_ok hcall
      obtain ⟨v, ob', nx', lg', h2, C⟩ := callF_ok hFP IH h1
      cases h2
      have main : ∀ {tm : T D} {pp : List Pos} {nt' : Nat} {c1 c2 : Code} {st : LS} {j : Option Ex}, ob2.get nx = some (.lp tm pp nt' c1 c2 st j) → st ≠ .busy → j.getD .normal = e → Z = ⟨sl, T.set nx (.lp tm pp nt' c1 c2 .gone j) ob2, nx2, lg2⟩ → XOk P nt (.rangeFunc f psT asg body) ⟨sl, ob, nx, lg⟩ e Z := by
        intro tm pp nt' c1 c2 st j hob hst he hZ
        subst hZ
        have hhl := C.hl
        have hhx := C.hx
        rw [Pos.succ_nat] at hhx
        refine ⟨hl1.trans hhl, by show nx.nat ≤ nx2.nat; omega, (((Keeps.refl _ _).set hw1 _).trans hhl C.hk).set (hhl.w nx hw1) _, fun so hso ro γ a w hn g R n Q hQ => wpIn_rangeFunc fun fn _ => ?_⟩
        have hsn : so nx := hso nx (hhl.w nx hw1).tchd
        obtain ⟨l, mk, w0, r, he1, rfl, hle, hr1, hr2, hr3, hr4, hr5, hr6, F0, g0, hmk⟩ := enterLoop_ok (P := P) g fn psT asg body
        obtain ⟨F1, g1⟩ := fresh_move g0 nx (.loop r) (fun _ _ _ h => by cases h)
        have h0 := R.nx nx hsn (Nat.le_refl _)
        have U1 : Up γ (γ.push nx (w0.heap.size, 0)) w (w0.alloc (.loop r)) := (F0 nx).up.trans F1.up
        have F01 : Fr (fun j => j = nx) γ (γ.push nx (w0.heap.size, 0)) w (w0.alloc (.loop r)) := (F0 nx).trans F1
        have hcur : (γ.push nx (w0.heap.size, 0)).cur nx = 1 := by rw [γ.push_cur, h0]
        have hβ : (γ.push nx (w0.heap.size, 0)).β nx 0 = (w0.heap.size, 0) := by rw [← h0]; exact γ.push_β nx _
        obtain ⟨vx, vy, ev, hvx, hvy⟩ := DV_fn (opd_ok hf hv R fun _ _ => trivial)
        have hargs : DVL (γ.push nx (w0.heap.size, 0)) (w0.alloc (.loop r)) (first ++ (.yl nx :: caps)) (vx ++ #[Value.func (.yield w0.heap.size) #[] #[]] ++ vy).toList := by
          simp only [Array.toList_append, List.append_assoc]
          refine (DVL.mono U1 _ _ hvx).append ?_
          refine DVL.cons ?_ (DVL.mono U1 _ _ hvy)
          unfold DV
          exact ⟨by rw [hcur]; exact Nat.one_pos, by rw [hβ]⟩
        have hobs : ∀ id c, so id → (T.set nx (Ev.C.lp sl ps nt asg body .ready none) ob).get id = some c → HoldsO P (γ.push nx (w0.heap.size, 0)) (w0.alloc (.loop r)) id c :=
          others_hold (V := allS so) R g F01 fun _ => by
            refine ⟨hcur, r, by rw [hβ]; exact heap_alloc_self w0 _, by rw [hr1]; rfl, by rw [hr2]; rfl, fun s d hd => ?_, by rw [hr4]; exact hps1, fun p hp => by rw [hr3, hn]; exact hps2 p hp, by rw [hr3]; exact hn, hr5, hr6⟩
            obtain ⟨q1, q2⟩ := R.sl s d trivial hd
            rw [hr3]
            exact ⟨q1, DV.mono U1 _ _ q2⟩
        have hnx : ∀ id, so id → nx.succ.nat ≤ id.nat → (γ.push nx (w0.heap.size, 0)).cur id = 0 := by
          intro id hid hle
          rw [Pos.succ_nat] at hle
          have hne : id ≠ nx := by rintro rfl; omega
          rw [γ.push_cur_ne _ hne]
          exact R.nx id hid (by show nx.nat ≤ id.nat; omega)
        have G1 := g1 { a with defers := mk ++ a.defers } rfl
        obtain ⟨hc, hcalls⟩ := C.ok so hso _ _ _ G1.gh hargs hobs hnx
        refine ⟨w0.heap.size, mk, _, { target := .fn (.func f'.ix) vy, args := vx ++ #[.func (.yield w0.heap.size) #[] #[]] }, w0.alloc (.loop r), f'.ix, _, _, he1, ?_, fun _ _ => trivial, ?_, (fun h => by cases h), hcalls ro (n - 1) _ fun γ2 w2 u gh2 F2 _ ho2 hn2 => ?_⟩
        · simp only [resolve, rangeCall, ev]
          simp [Deferred.ofValue, Act.eval]
        · simp only [invoke]
          exact hc _
        · have G2 : G ro γ2 { a with defers := mk ++ a.defers } w2 := G1.of F2 rfl gh2.ob gh2.inj gh2.im
          have hcur2 : 0 < γ2.cur nx := Nat.lt_of_lt_of_le (by rw [hcur]; exact Nat.one_pos) (F2.up.cur nx)
          have hβ2 : (γ2.β nx 0).1 = w0.heap.size := by rw [F2.up.β nx 0 (by rw [hcur]; exact Nat.one_pos), hβ]
          obtain ⟨hc3, l3, hl3, hst3, hpd3, hsl3, hps3, hpb3, hnt3, ha3, hb3⟩ := ho2 nx _ hsn hob
          rw [hβ2] at hl3
          have hlt3 : w0.heap.size < w2.heap.size := (Array.getElem?_eq_some_iff.1 hl3).1
          have hnb : l3.state ≠ .busy := by
            rw [hst3]
            cases st <;> first | exact absurd rfl hst | (intro h; cases h)
          refine ⟨_, _, run_endLoop hl3 hnb, ?_⟩
          have LP := loop_put (l' := { l3 with state := .exhausted }) G2 hcur2 (by rw [hβ2]; exact hl3)
          rw [hβ2] at LP
          obtain ⟨F3, g3⟩ := LP
          have rep2 : Rep P (allS so) γ2 { a with defers := mk ++ a.defers } w2 ⟨sl, ob2, nx2, lg2⟩ :=
            ⟨fun s d hs hd => ⟨(R.sl s d hs hd).1, DV.mono F2.up _ _ (DV.mono U1 _ _ (R.sl s d hs hd).2)⟩, ho2, hn2, gh2.gl⟩
          have hwn : ∀ j, j = nx → wrtn lg2 j := fun j e => by rw [e]; exact hhl.w nx hw1
          have fin := hQ γ2 { a with defers := mk ++ a.defers } (w2.putObj w0.heap.size (.loop { l3 with state := .exhausted }))
            ⟨g3 _ rfl, ((F01.mono hwn).trans F2).trans (F3.mono hwn), rfl, hmk⟩
            ⟨fun s d hs hd => ⟨(rep2.sl s d hs hd).1, DV.mono F3.up _ _ (rep2.sl s d hs hd).2⟩, others_hold rep2 G2 F3 (fun _ => by
              refine ⟨hc3, { l3 with state := .exhausted }, by rw [hβ2]; exact World.putObj_heap_same hlt3, rfl, hpd3, fun s d hd => ⟨(hsl3 s d hd).1, DV.mono F3.up _ _ (hsl3 s d hd).2⟩, hps3, hpb3, hnt3, ha3, hb3⟩), rep2.nx, rep2.gl.up F3.up⟩
          generalize w2.putObj w0.heap.size (.loop { l3 with state := .exhausted }) = w4 at fin ⊢
          rw [hpd3]
          cases j with
          | none => subst he; exact fin
          | some e' =>
            cases e' with
            | normal => subst he; exact fin
            | ret => subst he; exact wpIn_ret fin
            | exit i => subst he; exact wpIn_exit fin
      split at h
      · cases h
      · rename_i tm pp nt' c1 c2 st j hne hob
        rw [T.setK_eq] at h
        split at h
        · cases h
          exact main hob (fun e => by subst e; exact hne rfl) rfl rfl
        · rename_i e'
          cases h
          exact main hob (fun e => by subst e; exact hne rfl) rfl rfl
      · cases h
    · cases h
  · cases h
end
end Go.Ev
