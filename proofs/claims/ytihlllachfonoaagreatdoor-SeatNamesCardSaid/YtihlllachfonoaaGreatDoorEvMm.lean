import Derived.Test.YtihlllachfonoaaGreatDoorEvFz
set_option linter.all false
namespace Go.Ev
open Go.RowKit (Below Grown)

/-! ### known calls: off a run from nothing -/
theorem dropC_drop {α : Type} : ∀ (n : Nat) (l : List α), dropC n l = l.drop n
  | 0, l => rfl
  | n + 1, [] => rfl
  | n + 1, _ :: l => dropC_drop n l
theorem Vis.nil {st : Nat} {l : List Cell} : Vis st l [] := fun k d hk => by cases hk
theorem Vis.app {st : Nat} {l : List Cell} {a b : List D} (h : Vis st l a) (k : Vis st (l.drop a.length) b) : Vis st l (a ++ b) := fun i d hi => by
  by_cases hlt : i < a.length
  · rw [List.getElem?_append_left hlt] at hi
    exact h i d hi
  · rw [List.getElem?_append_right (by omega)] at hi
    obtain ⟨c, h1, h2⟩ := k _ d hi
    rw [List.getElem?_drop] at h1
    exact ⟨c, by rw [← h1]; congr 1; omega, h2⟩
theorem cellsO_ok {st : Nat} : ∀ {n : Nat} {l : List Cell} {ds : List D} {r : List Cell}, cellsO st n l = some (ds, r) → ds.length = n ∧ Vis st l ds ∧ r = l.drop n
  | 0, l, ds, r, h => by cases h; exact ⟨rfl, Vis.nil, rfl⟩
  | n + 1, [], ds, r, h => by cases h
  | n + 1, c :: l, ds, r, h => by
    unfold cellsO at h
    cases hc : c.has st with
    | false => rw [hc] at h; cases h
    | true =>
      rw [hc, cond_true] at h
      split at h
      · rename_i ds' r' h1
        cases h
        obtain ⟨k1, k2, k3⟩ := cellsO_ok h1
        refine ⟨by rw [List.length_cons, k1], fun k d hk => ?_, k3⟩
        cases k with
        | zero => cases hk; exact ⟨c, rfl, hc, rfl⟩
        | succ k => exact k2 k d hk
      · cases h
theorem rowsO_ok {st z : Nat} : ∀ {n : Nat} {l : List Cell} {es : List (List D)}, rowsO st z n l = some es → es.length = n ∧ (∀ r ∈ es, r.length = z) ∧ Vis st l es.flatten
  | 0, l, es, h => by cases h; exact ⟨rfl, (fun r hr => by cases hr), Vis.nil⟩
  | n + 1, l, es, h => by
    unfold rowsO at h
    split at h
    · rename_i r l' h1
      split at h
      · rename_i es' h2
        cases h
        obtain ⟨k1, k2, rfl⟩ := cellsO_ok h1
        obtain ⟨k3, k4, k5⟩ := rowsO_ok h2
        refine ⟨by rw [List.length_cons, k3], fun q hq => ?_, ?_⟩
        · rcases List.mem_cons.1 hq with e | hq
          · rw [e]; exact k1
          · exact k4 q hq
        · rw [List.flatten_cons]
          exact k2.app (by rw [k1]; exact k5)
      · cases h
    · cases h
theorem mpO_ok {α β : Type} {f : α → Option β} : ∀ {l : List α} {r : List β}, mpO f l = some r → l.length = r.length ∧ ∀ (i : Nat) (a : α), l[i]? = some a → ∃ b, f a = some b ∧ r[i]? = some b
  | [], r, h => by cases h; exact ⟨rfl, fun i a hi => by cases hi⟩
  | a :: l, r, h => by
    unfold mpO at h
    split at h
    · rename_i b hb
      split at h
      · rename_i r' hr
        cases h
        obtain ⟨k1, k2⟩ := mpO_ok hr
        refine ⟨by simp [k1], fun i x hi => ?_⟩
        cases i with
        | zero => cases hi; exact ⟨b, hb, rfl⟩
        | succ i => exact k2 i x hi
      · cases h
    · cases h
theorem mpO_cons {α β : Type} {f : α → Option β} {a : α} {l : List α} {r : List β} (h : mpO f (a :: l) = some r) : ∃ b r', f a = some b ∧ mpO f l = some r' ∧ r = b :: r' := by
  unfold mpO at h
  split at h
  · rename_i b hb
    split at h
    · rename_i r' hr
      cases h
      exact ⟨b, r', hb, hr, rfl⟩
    · cases h
  · cases h
section
variable {B : Pos → Prop} {ob : T C}
theorem mpO_fzL {f : D → Option D} (hf : ∀ d e, f d = some e → Fz B ob d e) : ∀ {l r : List D}, mpO f l = some r → FzL B ob l r
  | [], r, h => by cases h; exact .nil
  | a :: l, r, h => by
    obtain ⟨b, r', h1, h2, rfl⟩ := mpO_cons h
    exact .cons (hf _ _ h1) (mpO_fzL hf h2)
theorem mpO_fzE {f : D → Option D} (hf : ∀ d e, f d = some e → Fz B ob d e) : ∀ {l r : List (List D)}, mpO (mpO f) l = some r → FzE B ob l r
  | [], r, h => by cases h; exact .nil
  | a :: l, r, h => by
    obtain ⟨b, r', h1, h2, rfl⟩ := mpO_cons h
    exact .cons (mpO_fzL hf h1) (mpO_fzE hf h2)
theorem mpO_puL {f : D → Option D} (hf : ∀ d e, f d = some e → Pu e) : ∀ {l r : List D}, mpO f l = some r → PuL r
  | [], r, h => by cases h; trivial
  | a :: l, r, h => by
    obtain ⟨b, r', h1, h2, rfl⟩ := mpO_cons h
    unfold PuL
    exact ⟨hf _ _ h1, mpO_puL hf h2⟩
theorem mpO_puE {f : D → Option D} (hf : ∀ d e, f d = some e → Pu e) : ∀ {l r : List (List D)}, mpO (mpO f) l = some r → PuE r
  | [], r, h => by cases h; trivial
  | a :: l, r, h => by
    obtain ⟨b, r', h1, h2, rfl⟩ := mpO_cons h
    unfold PuE
    exact ⟨mpO_puL hf h1, mpO_puE hf h2⟩
theorem fzD_ok (hB : ∀ id, ¬ B id) : ∀ {n : Nat} {d e : D}, fzD ob n d = some e → Fz B ob d e ∧ Pu e
  | 0, _, _, h => by cases h
  | n + 1, d, e, h => by
    have i1 : ∀ d e, fzD ob n d = some e → Fz B ob d e := fun _ _ h => (fzD_ok hB h).1
    have i2 : ∀ d e, fzD ob n d = some e → Pu e := fun _ _ h => (fzD_ok hB h).2
    unfold fzD at h
    cases d
    case sl id off len st z =>
      dsimp only at h
      split at h
      · rename_i ro cs cur hc
        split at h
        · rename_i es hes
          split at h
          · rename_i fs hfs
            cases h
            obtain ⟨k1, k2, k3⟩ := rowsO_ok hes
            rw [dropC_drop] at k3
            exact ⟨.sl (hB id) hc k1 k2 k3 (mpO_fzE i1 hfs), by unfold Pu; exact mpO_puE i2 hfs⟩
          · cases h
        · cases h
      · cases h
    case lst z es =>
      dsimp only at h
      split at h
      · rename_i fs hfs
        cases h
        exact ⟨.lst (mpO_fzE i1 hfs), by unfold Pu; exact mpO_puE i2 hfs⟩
      · cases h
    case ag cs =>
      dsimp only at h
      split at h
      · rename_i fs hfs
        cases h
        exact ⟨.ag (mpO_fzL i1 hfs), by unfold Pu; exact mpO_puL i2 hfs⟩
      · cases h
    case tp cs =>
      dsimp only at h
      split at h
      · rename_i fs hfs
        cases h
        exact ⟨.tp (mpO_fzL i1 hfs), by unfold Pu; exact mpO_puL i2 hfs⟩
      · cases h
    all_goals first | (cases h; done) | (cases h; exact ⟨.pu (by unfold Pu; trivial), by unfold Pu; trivial⟩)
end
/-- What is handed back, if nothing of it is the caller's. -/
noncomputable def fzN (ob : T C) : Nat → D → Option D
  | 0, _ => none
  | n + 1, d => match d with
    | .sl id off len st z => match ob.get id with
      | some (.cells _ cs _) => match rowsO st z len (dropC off cs) with
        | some es => match mpO (mpO (fzN ob n)) es with
          | some fs => some (.lst z fs)
          | none => none
        | none => none
      | _ => none
    | .ag cs => match mpO (fzN ob n) cs with
      | some ds => some (.ag ds)
      | none => none
    | .tp cs => match mpO (fzN ob n) cs with
      | some ds => some (.tp ds)
      | none => none
    | .b x => some (.b x)
    | .i k n => some (.i k n)
    | .ns => some .ns
    | .em => some .em
    | .np => some .np
    | .nf => some .nf
    | .nm => some .nm
    | _ => none
section
variable {P : Program} {γ γ' : Gh} {w : World} {ob : T C}
theorem mpO_dvL {f : D → Option D} (hf : ∀ d e, f d = some e → ∀ v, DV γ w d v → DV γ' w e v) : ∀ {l r : List D}, mpO f l = some r → ∀ vs, DVL γ w l vs → DVL γ' w r vs
  | [], r, h, vs, H => by cases h; unfold DVL at *; exact H
  | a :: l, r, h, vs, H => by
    obtain ⟨b, r', h1, h2, rfl⟩ := mpO_cons h
    unfold DVL at H ⊢
    obtain ⟨v, r, rfl, h4, h5⟩ := H
    exact ⟨v, r, rfl, hf _ _ h1 _ h4, mpO_dvL hf h2 _ h5⟩
theorem mpO_dvE {f : D → Option D} {z : Nat} (hf : ∀ d e, f d = some e → ∀ v, DV γ w d v → DV γ' w e v) : ∀ {l r : List (List D)}, mpO (mpO f) l = some r → ∀ vs, DVE γ w z l vs → DVE γ' w z r vs
  | [], r, h, vs, H => by cases h; unfold DVE; trivial
  | a :: l, r, h, vs, H => by
    obtain ⟨b, r', h1, h2, rfl⟩ := mpO_cons h
    unfold DVE at H ⊢
    exact ⟨by rw [← (mpO_ok h1).1]; exact H.1, mpO_dvL hf h1 _ H.2.1, mpO_dvE hf h2 _ H.2.2⟩
theorem fzN_ok (hob : ∀ id c, ob.get id = some c → HoldsO P γ w id c) (hown : ∀ id st vs e fr, st < γ.cur id → w.heap[(γ.β id st).1]? = some (.cells vs e fr) → γ'.im (γ.β id st).1) : ∀ {n : Nat} {d e : D}, fzN ob n d = some e → ∀ v, DV γ w d v → DV γ' w e v
  | 0, _, _, h => by cases h
  | n + 1, d, e, h => by
    have ih : ∀ d e, fzN ob n d = some e → ∀ v, DV γ w d v → DV γ' w e v := fun _ _ h => fzN_ok hob hown h
    unfold fzN at h
    cases d
    case sl id off len st z =>
      dsimp only at h
      split at h
      · rename_i ro cs cur hg
        split at h
        · rename_i es hes
          split at h
          · rename_i fs hfs
            cases h
            obtain ⟨hl, hz, hv⟩ := rowsO_ok hes
            rw [dropC_drop] at hv
            intro v H
            obtain ⟨e1, e2, cap, e, n, rfl, e4, e5, e6⟩ := DV_sl H
            have hfl := (mpO_ok hfs).1
            obtain ⟨vs, e', fr, k1, k2, k3, k4⟩ := vis_cells (hob id _ hg) e1 e2 hv
            have hlen : es.flatten.length = es.length * z := by
              clear hv ih k2 k3 k4 hfl hl hfs hes
              induction es with
              | nil => simp
              | cons r es ih => simp [ih (fun r h => hz r (by simp [h])), hz r (by simp), Nat.add_mul]; omega
            have hsz : off - (γ.β id st).2 + es.length * z ≤ vs.size := by
              have h1 : w.shape? (γ.β id st).1 = some (e', vs.size) := shape_cells k1
              rw [h1] at e5
              cases e5
              have : es.length * z ≤ cap * z := Nat.mul_le_mul_right z (by omega)
              omega
            unfold DV
            refine ⟨_, cap, by rw [← hfl, hl], by omega, (fun h => by cases h), .inr ⟨_, _, vs, e', fr, hown id st _ _ _ e1 k1, k1, rfl, by rw [← hfl]; exact hsz, ?_, ?_⟩⟩
            · refine mpO_dvE ih hfs _ (DVE_of_flat hz ?_)
              rw [← hlen]
              exact k3
            · rw [← hfl, ← hlen]; exact k4
          · cases h
        · cases h
      · cases h
    case ag cs =>
      dsimp only at h
      split at h
      · rename_i fs hfs
        cases h
        intro v H
        obtain ⟨vs, rfl, h2, h3⟩ := DV_ag H
        unfold DV
        exact ⟨vs, rfl, mpO_dvL ih hfs _ h2, h3⟩
      · cases h
    case tp cs =>
      dsimp only at h
      split at h
      · rename_i fs hfs
        cases h
        intro v H
        obtain ⟨vs, rfl, h2⟩ := DV_tp H
        unfold DV
        exact ⟨vs, rfl, mpO_dvL ih hfs _ h2⟩
      · cases h
    all_goals first | (cases h; done) | (cases h; intro v H; unfold DV at *; exact H)
end
theorem MemOk.of {P : Program} {f : FuncId} {es : List D} {v v' : D} {ob' : T C} {nx' : Pos} {lg' : Option (T Bool)} (K : CallOk P f es .e .h none v ob' nx' lg') (hz : fzN ob' 12 v = some v') : MemOk P f es v' := by
  intro ob1 ds ob nx lg lg2 hds hle hl ht
  refine ⟨hl, Nat.le_refl _, Keeps.refl _ _, fun so hs γ args w gh hargs hob hnx => ?_⟩
  let γs : Gh := ⟨fun _ => 0, fun _ _ => (0, 0), fun b => γ.im b ∨ ((∃ id st, st < γ.cur id ∧ (γ.β id st).1 = b) ∧ ∃ vs e fr, w.heap[b]? = some (.cells vs e fr))⟩
  have hargs' : DVL γs w es args.toList := by
    have h1 : DV γ w (.tp ds) (.tuple args) := by unfold DV; exact ⟨args, rfl, hargs⟩
    have h2 := Fz.ok (γ := γ) (γ' := γs) (B := fun _ => False) (fun b hb => .inl hb) (fun id c hc => hob id c (hs id (ht id c hc)) (hle id c hc)) (fun _ h => h.elim) (fun id st vs e fr _ hst hc => .inr ⟨⟨id, st, hst, rfl⟩, vs, e, fr, hc⟩) (.tp (mpO_fzL (fun d e h => (fzD_ok (fun _ h => h) h).1) hds)) _ h1
    obtain ⟨vs, e, h3⟩ := DV_tp h2
    cases e
    exact h3
  obtain ⟨c1, c2⟩ := K.ok (fun _ => True) (fun _ _ => trivial) γs args w ⟨fun _ st h => absurd h (Nat.not_lt_zero st), fun _ st _ _ h => absurd h (Nat.not_lt_zero st), fun b hb => ⟨by
      rcases hb with hb | hb
      · exact (gh.im b hb).1
      · exact hb.2, fun _ st h => absurd h (Nat.not_lt_zero st)⟩, gh.gl.im fun _ h => .inl h⟩ hargs' (fun id c _ hc => by rw [T.get_e] at hc; cases hc) (fun _ _ _ => rfl)
  refine ⟨c1, fun ro m R hR => c2 ro m R fun γ' w' u gh' F hu hob' _ => ?_⟩
  have hb : ∀ b, b < w.heap.size → w'.heap[b]? = w.heap[b]? := fun b hb => F.blk b hb fun id st _ hst => absurd hst (Nat.not_lt_zero st)
  have hnew : ∀ id st, st < γ'.cur id → w.heap.size ≤ (γ'.β id st).1 := fun id st hst => by
    rcases F.new id st (Nat.zero_le _) hst with h | ⟨st0, h, _⟩
    · exact h
    · exact absurd h (Nat.not_lt_zero st0)
  let γ2 : Gh := ⟨γ.cur, γ.β, fun b => γ.im b ∨ ((∃ id st, st < γ'.cur id ∧ (γ'.β id st).1 = b) ∧ ∃ vs e fr, w'.heap[b]? = some (.cells vs e fr))⟩
  have U : Up γ γ2 w w' := ⟨fun _ => Nat.le_refl _, fun _ _ _ => rfl, F.up.3, fun b hm => ⟨.inl hm, fun o ho => by rw [hb b (Array.getElem?_eq_some_iff.1 ho).1]; exact ho⟩⟩
  have U0 : Up γ γ w w' := ⟨fun _ => Nat.le_refl _, fun _ _ _ => rfl, F.up.3, fun b hm => ⟨hm, fun o ho => by rw [hb b (Array.getElem?_eq_some_iff.1 ho).1]; exact ho⟩⟩
  refine hR γ2 w' u ⟨fun id st hst => Nat.lt_of_lt_of_le (gh.ob id st hst) F.size, gh.inj, fun b hm => ?_, (gh.gl.up U0).im fun _ h => .inl h⟩ ⟨U, fun _ _ => rfl, fun b h1 _ => hb b h1, fun _ _ h1 h2 => absurd h2 (by show ¬ _ < γ.cur _; omega), fun b hm hlt => ?_, F.lp, F.size, F.os, F.tape, F.output, F.fz⟩
    (fzN_ok (γ := γ') (γ' := γ2) (fun id c hc => hob' id c trivial hc) (fun id st vs e fr hst hc => .inr ⟨⟨id, st, hst, rfl⟩, vs, e, fr, hc⟩) hz u hu)
    (fun id c hid hc => HoldsO.mono U rfl (fun st hst => hb _ (gh.ob id st hst)) (hob id c hid hc)) hnx
  · rcases hm with hm | ⟨⟨id', st', h1, h2⟩, h3⟩
    · refine ⟨let ⟨⟨vs, e, fr, k1⟩, _⟩ := gh.im b hm; ⟨vs, e, fr, (U0.im b hm).2 _ k1⟩, (gh.im b hm).2⟩
    · refine ⟨h3, fun id st hst e => ?_⟩
      have hlt := gh.ob id st hst
      have e : (γ.β id st).1 = b := e
      have := hnew id' st' h1
      omega
  · rcases hm with hm | ⟨⟨id', st', h1, h2⟩, h3⟩
    · exact hm
    · have := hnew id' st' h1
      omega

/-! ### the run -/
noncomputable def memR (P : Program) (FP : T RF) (n : Nat) (f : Pos) (es : List D) : Option D :=
  match callF FP (exec P FP n) f es .e .h none (fun v ob nx lg => match fzN ob 12 v with
    | some d => some ⟨T.set .h d .e, .e, .h, none⟩
    | none => none) with
  | some y => y.sl.get .h
  | none => none
theorem MemOk.run {P : Program} {FP : T RF} (hFP : FPok P FP) {n : Nat} {f : Pos} {es : List D} {v : D} (h : memR P FP n f es = some v) : MemOk P f.ix es v := by
  unfold memR at h
  split at h
  · rename_i y hy
    obtain ⟨v', ob', nx', lg', h1, C⟩ := callF_ok hFP (exec_ok hFP n).1 hy
    split at h1
    · rename_i d hd
      cases h1
      rw [T.get_set_same] at h
      cases h
      exact MemOk.of C hd
    · cases h1
  · cases h
end Go.Ev
