import Derived.Test.YtihlllachfonoaaGreatDoorEvP
set_option linter.all false
namespace Go.Ev
open Go.RowKit (Below)

theorem sameBits_row : ∀ {ks : List LK} {us : List Value}, Mt ks us → ∀ n, (us.zip us).all (fun (x, y) => Instr.sameBits n x y) = true
  | [], us, h, n => by unfold Mt at h; subst h; rfl
  | .b :: ks, us, h, n => by
    unfold Mt at h
    obtain ⟨b, r, rfl, h⟩ := h
    have := sameBits_row h n
    simp only [List.zip_cons_cons, List.all_cons, this, Bool.and_true]
    cases n <;> simp [Instr.sameBits]
  | .i k :: ks, us, h, n => by
    unfold Mt at h
    obtain ⟨b, r, rfl, _, h⟩ := h
    have := sameBits_row h n
    simp only [List.zip_cons_cons, List.all_cons, this, Bool.and_true]
    cases n <;> simp [Instr.sameBits]

section
variable {P : Program} {V : Sel} {γ : Gh} {a : Act} {w : World} {sl : T D} {ob : T C} {nx : Pos} {lg : Option (T Bool)} {nt : Nat} {o : Oper} {ro : Option Nat}

def MapV (γ : Gh) (w : World) (es : List (D × D)) (en : List MapEntry) : Prop := es.length = en.length ∧ ∀ (i : Nat) e f, es[i]? = some e → en[i]? = some f → DV γ w e.1 f.key ∧ DV γ w e.2 f.val

theorem find_ok {t : TypeId} {ks : List LK} (hk : keyRow P t = some ks) {key : D} {u : Value} (hu : DV γ w key u) : ∀ {es : List (D × D)} {en : List MapEntry} {r : Option D} {i : Nat}, findD ks key es = some r → MapV γ w es en →
    ∃ res, (Instr.findAsking t u en i).run P w = .ok res w ∧ (match r with
      | none => res = none
      | some v => ∃ j x, res = some (j, x) ∧ DV γ w v x)
  | [], en, r, i, h, hm => by
    have he : en = [] := List.length_eq_zero_iff.1 hm.1.symm
    subst he
    have h : (some none : Option (Option D)) = some r := h
    cases h
    exact ⟨none, rfl, rfl⟩
  | e :: es, [], r, i, h, hm => by have := hm.1; simp at this
  | e :: es, f :: en, r, i, h, hm => by
    have h : (match eqR ks key e.1 with
      | some true => some (some e.2)
      | some false => findD ks key es
      | none => none) = some r := h
    obtain ⟨h1, h2⟩ := hm.2 0 e f rfl rfl
    have hm' : MapV γ w es en := ⟨by have := hm.1; simpa using this, fun j e' f' he hf => hm.2 (j + 1) e' f' (by simpa using he) (by simpa using hf)⟩
    split at h
    · rename_i heq
      cases h
      obtain ⟨q1, _⟩ := run_equal_row hk heq hu h1 w
      exact ⟨some (i, f.val), by simp [Instr.findAsking, q1], i, f.val, rfl, h2⟩
    · rename_i heq
      obtain ⟨q1, _⟩ := run_equal_row hk heq hu h1 w
      obtain ⟨res, q2, q3⟩ := find_ok hk hu (i := i + 1) h hm'
      exact ⟨res, by simp [Instr.findAsking, q1, q2], q3⟩
    · cases h

theorem mapV_of {id : Pos} {es : List (D × D)} (H : HoldsO P γ w id (.map es)) : γ.cur id = 1 ∧ ∃ en cl, w.heap[(γ.β id 0).1]? = some (.map en cl) ∧ MapV γ w es en.toList := by
  obtain ⟨h1, en, cl, h2, h3, h4⟩ := H
  exact ⟨h1, en, cl, h2, by simpa using h3, fun i e f he hf => h4 i e f he (by simpa using hf)⟩

theorem row_wide {t : TypeId} {ks : List LK} (hk : keyRow P t = some ks) : (match P.underlying t with | some (.array _ _) | some (.struct _) => true | _ => false) = true := by
  have := (keyRow_ok hk).1
  unfold isRow at this
  split at this
  · rename_i hu; rw [hu]
  · rename_i hu; rw [hu]
  · cases this
  · cases this

theorem zeroV_ok {t : TypeId} {zero : D} (h : zeroV P t = some zero) : ∃ z : Value, (∀ w, (zeroValue t).run P w = .ok z w) ∧ ∀ γ w, DV γ w zero z := by
  unfold zeroV at h
  split at h
  · rename_i i hi
    split at h
    · rename_i cs hz
      split at h
      · rename_i ds hds
        cases h
        refine ⟨.agg cs, fun w => by simp [zeroValue, typeInfo, hi, hz], fun γ w => ?_⟩
        unfold DV
        exact ⟨cs, rfl, (constDs_ok hds).1, (constDs_ok (γ := γ) (w := w) hds).2⟩
      · cases h
    · rename_i z _ hz
      exact ⟨z, fun w => by simp [zeroValue, typeInfo, hi, hz], fun γ w => constD_ok h⟩
    · cases h
  · cases h

theorem lkp_ok {t kt el : TypeId} {x i : Operand} {ok : Bool} {zero : D} {ks : List LK} {d : Pos} {r1 r2 : RX} {Z : X} (ho : o.op = .lookup t x i ok) (hd : o.dst = some d.ix) (hlt : d.ix < nt) (hx : rx x = some r1) (hi : rx i = some r2) (hu : P.underlying t = some (.map kt el)) (hz : zeroV P el = some zero) (hk : keyRow P kt = some ks)
    (h : s_lkp d zero ok ks r1 r2 sl ob nx lg = some Z) : OpOk P nt o (r1.ss ++ r2.ss) ⟨sl, ob, nx, lg⟩ Z := by
  obtain ⟨z, z1, hzv⟩ := zeroV_ok hz
  unfold s_lkp at h
  split at h
  · rename_i id key hvx hvi
    split at h
    · rename_i es b hob hself
      have main : ∀ (r : Option D), findD ks key es = some r → ∀ {lg' : Option (T Bool)}, LgLe lg lg' → tchd lg' id → ∀ v b, (match r with | none => v = zero ∧ b = false | some v' => v = v' ∧ b = true) →
          OpOk P nt o (r1.ss ++ r2.ss) ⟨sl, ob, nx, lg⟩ ⟨T.set d (bif ok then .tp [v, .b b] else v) sl, ob, nx, lg'⟩ := by
        intro r hf lg' hl hto v b hvb
        refine OpOk.pure hd hlt hl fun V hs ht γ a w R => ?_
        have hmx := opd_ok hx hvx R fun s h => hs s (by simp [h])
        have hki := opd_ok hi hvi R fun s h => hs s (by simp [h])
        unfold DV at hmx
        obtain ⟨_, en, cl, m2, m3⟩ := mapV_of (R.ob id _ (ht id hto) hob)
        obtain ⟨res, q1, q2⟩ := find_ok hk hki (i := 0) hf m3
        obtain ⟨_, _, us, _, e1, _, mt, _⟩ := run_equal_row hk hself hki hki w
        have hc := run_checkKey_row hk mt en.isEmpty w
        rw [← e1] at hc
        have hfk := (run_findKey_eq (P := P) w (row_wide hk) (a.eval i) en.toList).trans q1
        have hg : (getObj (γ.β id 0).1).run P w = .ok (.map en cl) w := by simp [getObj, Sem.run, m2]
        have hrun : ∃ x' , (Instr.lookup t (a.eval x) (a.eval i) ok).run P w = .ok (if ok then .tuple #[x', .bool b] else x') w ∧ DV γ w v x' := by
          cases r with
          | none =>
            obtain ⟨rfl, rfl⟩ := hvb
            subst q2
            refine ⟨z, ?_, hzv γ w⟩
            simp [Instr.lookup, run_underlying hu, hmx.2, hg, hc, hfk, z1]
          | some v' =>
            obtain ⟨rfl, rfl⟩ := hvb
            obtain ⟨j, x', rfl, q3⟩ := q2
            refine ⟨x', ?_, q3⟩
            simp [Instr.lookup, run_underlying hu, hmx.2, hg, hc, hfk]
        obtain ⟨x', q4, q5⟩ := hrun
        refine ⟨_, by simp [execOp, ho, q4]; rfl, ?_⟩
        cases ok with
        | true =>
          simp only [cond_true, if_true]
          unfold DV
          exact ⟨_, rfl, DVL.cons q5 (DVL.one (DV_of_b _))⟩
        | false => exact q5
      split at h
      · rename_i v hf
        obtain ⟨lg', h1, h2, h3⟩ := logR_ok h
        cases ok with
        | true => rw [outK_eq h1]; exact main _ hf h2 h3 v true ⟨rfl, rfl⟩
        | false => rw [outK_eq h1]; exact main _ hf h2 h3 v true ⟨rfl, rfl⟩
      · rename_i hf
        obtain ⟨lg', h1, h2, h3⟩ := logR_ok h
        cases ok with
        | true => rw [outK_eq h1]; exact main _ hf h2 h3 zero false ⟨rfl, rfl⟩
        | false => rw [outK_eq h1]; exact main _ hf h2 h3 zero false ⟨rfl, rfl⟩
      · cases h
    · cases h
  · cases h

theorem put_move {id : Pos} {obj obj' : Obj} (g : G ro γ a w) (hst : 0 < γ.cur id) (hob : w.heap[(γ.β id 0).1]? = some obj) (h1 : ∀ vs e fr, obj ≠ .cells vs e fr) (h2 : ∀ l, obj ≠ .loop l) (h3 : ∀ vs e fr, obj' ≠ .cells vs e fr) :
    Fr (fun j => j = id) γ γ w (w.putObj (γ.β id 0).1 obj') ∧ ∀ a' : Act, a'.defers = a.defers → G ro γ a' (w.putObj (γ.β id 0).1 obj') :=
  same_all g id (by simp [World.putObj]) (fun c hc hn => World.putObj_heap_other (fun e => hn 0 hst e.symm))
    (fun c x hx => by
      have hne : c ≠ (γ.β id 0).1 := by
        rintro rfl
        unfold World.shape? at hx
        rw [hob] at hx
        cases obj <;> first | (cases hx; done) | exact absurd rfl (h1 _ _ _)
      rw [shape_same (World.putObj_heap_other hne)]; exact hx)
    (fun c r hr => by
      have hne : c ≠ (γ.β id 0).1 := by
        rintro rfl
        rw [hob] at hr
        cases hr
        exact absurd rfl (h2 _)
      exact ⟨r, by rw [World.putObj_heap_other hne]; exact hr⟩) ⟨rfl, rfl, rfl⟩ (frozen_put w _ _ h3 fun vs e fr h => by rw [hob] at h; cases h; exact absurd rfl (h1 _ _ _))

theorem putD_ok {β : Type} {t : TypeId} {ks : List LK} (hk : keyRow P t = some ks) {key v : D} {u : Value} (hu : DV γ w key u) : ∀ {es : List (D × D)} {en : List MapEntry} {k : List (D × D) → Option β} {Z : β} {i : Nat}, putD ks key v es k = some Z → MapV γ w es en →
    ∃ es', k es' = some Z ∧ ((∃ j x f, (Instr.findAsking t u en i).run P w = .ok (some (i + j, x)) w ∧ en[j]? = some f ∧ f.key = u ∧ es' = es.set j (key, v)) ∨ ((Instr.findAsking t u en i).run P w = .ok none w ∧ es' = es ++ [(key, v)]))
  | [], en, k, Z, i, h, hm => by
    have he : en = [] := List.length_eq_zero_iff.1 hm.1.symm
    subst he
    exact ⟨[(key, v)], h, .inr ⟨rfl, rfl⟩⟩
  | e :: es, [], k, Z, i, h, hm => by have := hm.1; simp at this
  | e :: es, f :: en, k, Z, i, h, hm => by
    have h : (match eqR ks key e.1 with
      | some true => k ((key, v) :: es)
      | some false => putD ks key v es fun l => k (e :: l)
      | none => none) = some Z := h
    obtain ⟨h1, h2⟩ := hm.2 0 e f rfl rfl
    have hm' : MapV γ w es en := ⟨by have := hm.1; simpa using this, fun j e' f' he hf => hm.2 (j + 1) e' f' (by simpa using he) (by simpa using hf)⟩
    split at h
    · rename_i heq
      obtain ⟨q1, q2, _⟩ := run_equal_row hk heq hu h1 w
      exact ⟨_, h, .inl ⟨0, f.val, f, by simp [Instr.findAsking, q1], rfl, (q2.1 rfl).symm, rfl⟩⟩
    · rename_i heq
      obtain ⟨q1, _⟩ := run_equal_row hk heq hu h1 w
      obtain ⟨es', q2, q3⟩ := putD_ok hk hu (i := i + 1) h hm'
      refine ⟨e :: es', q2, ?_⟩
      rcases q3 with ⟨j, x, f', q4, q5, q6, q7⟩ | ⟨q4, q5⟩
      · refine .inl ⟨j + 1, x, f', ?_, by simpa using q5, q6, by simp [q7]⟩
        simp [Instr.findAsking, q1, q4]; omega
      · exact .inr ⟨by simp [Instr.findAsking, q1, q4], by simp [q5]⟩
    · cases h

theorem mup_ok {t kt el : TypeId} {x i y : Operand} {ks : List LK} {r1 r2 r3 : RX} {Z : X} (ho : o.op = .mapUpdate t x i y ∨ o.op = .insert t x i y) (hd : o.dst = none) (hx : rx x = some r1) (hi : rx i = some r2) (hy : rx y = some r3) (hu : P.underlying t = some (.map kt el)) (hk : keyRow P kt = some ks)
    (h : s_mup ks r1 r2 r3 sl ob nx lg = some Z) : OpOk P nt o (r1.ss ++ (r2.ss ++ r3.ss)) ⟨sl, ob, nx, lg⟩ Z := by
  unfold s_mup at h
  split at h
  · rename_i id key v hvx hvi hvy
    split at h
    · rename_i es b hob hself
      have h0 := h
      -- the new list does not hang on the world
      obtain ⟨es', k1⟩ : ∃ es', objK sl ob nx lg id (.map es') = some Z := by
        clear hvx hvi hvy hob hself
        revert h
        suffices ∀ (es : List (D × D)) (k : List (D × D) → Option X), putD ks key v es k = some Z → ∃ es', k es' = some Z from this es _
        intro es
        induction es with
        | nil => exact fun k h => ⟨_, h⟩
        | cons e es ih =>
          intro k h
          have h : (match eqR ks key e.1 with
            | some true => k ((key, v) :: es)
            | some false => putD ks key v es fun l => k (e :: l)
            | none => none) = some Z := h
          split at h
          · exact ⟨_, h⟩
          · obtain ⟨es', h⟩ := ih _ h
            exact ⟨_, h⟩
          · cases h
      obtain ⟨lg', rfl, h2, h3⟩ := objK_eq k1
      refine OpOk.skip hd h2 ((Keeps.refl _ _).set h3 _) fun V hs hto ro γ a w g R => ?_
      have hmx := opd_ok hx hvx R fun s h => hs s (by simp [h])
      have hki := opd_ok hi hvi R fun s h => hs s (by simp [h])
      have hvy' := opd_ok hy hvy R fun s h => hs s (by simp [h])
      unfold DV at hmx
      obtain ⟨mc, en, cl, m2, m3⟩ := mapV_of (R.ob id _ (hto id h3.tchd) hob)
      obtain ⟨_, _, us, _, e1, _, mt, _⟩ := run_equal_row hk hself hki hki w
      have hc := run_checkKey_row hk mt false w
      rw [← e1] at hc
      have hg : (getObj (γ.β id 0).1).run P w = .ok (.map en cl) w := by simp [getObj, Sem.run, m2]
      have hset : ∀ o' : Obj, (setObj (γ.β id 0).1 o').run P w = .ok () (w.putObj (γ.β id 0).1 o') := fun o' => by simp [setObj, Sem.run, m2, World.putObj]
      obtain ⟨es2, p1, p2⟩ := putD_ok (v := v) hk hki (i := 0) h0 m3
      have e2 : es2 = es' := by
        obtain ⟨lg2, q1, _, _⟩ := objK_eq p1
        have q2 := (X.mk.inj q1).2.1
        have := congrArg (fun t => T.get t id) q2
        simp only [T.get_set_same, Option.some.injEq, C.map.injEq] at this
        exact this.symm
      subst e2
      have hlt : (γ.β id 0).1 < w.heap.size := (Array.getElem?_eq_some_iff.1 m2).1
      rcases p2 with ⟨j, x', f, q4, q5, q6, q7⟩ | ⟨q4, q5⟩
      · -- the key was there
        have hfk := (run_findKey_eq (P := P) w (row_wide hk) (a.eval i) en.toList).trans q4
        simp only [Nat.zero_add] at hfk
        have hsb : Instr.sameBits 10000 (a.eval i) (a.eval i) = true := by
          rw [e1]
          simp [Instr.sameBits]
          have := sameBits_row mt 9999
          simpa using this
        have hkey : ((en[j]?).map (·.key)).getD (a.eval i) = a.eval i := by
          have : en[j]? = some f := by simpa using q5
          rw [this]; simpa using q6
        have hks : (Instr.keyThatStays (a.eval i) (a.eval i)).run P w = .ok (a.eval i) w := by simp [Instr.keyThatStays, hsb]
        obtain ⟨F, g'⟩ := put_move (obj' := .map (en.modify j fun e => { e with key := a.eval i, val := a.eval y }) cl) g (by omega) m2 (fun _ _ _ e => by cases e) (fun _ e => by cases e) (fun _ _ _ e => by cases e)
        refine ⟨_, .inl ?_, F.mono (fun k e => by rw [e]; exact h3), g', others_hold R g F fun _ => ?_⟩
        · rcases ho with ho | ho <;> simp [execOp, ho, Instr.mapUpdate, run_underlying hu, hmx.2, hg, hc, hfk, hkey, hks, hset]
        · refine ⟨mc, _, cl, World.putObj_heap_same hlt, ?_, fun n e f' he hf => ?_⟩
          · rw [q7]; simp; simpa using m3.1
          · rw [q7] at he
            have hjl : j < es.length := by
              have := (List.getElem?_eq_some_iff.1 q5).1
              rw [m3.1]; exact this
            by_cases hnj : n = j
            · subst hnj
              simp [hjl] at he
              subst he
              have hf0 : en[n]? = some f := by simpa using q5
              simp [Array.getElem?_modify, hf0] at hf
              subst hf
              exact ⟨DV.mono F.up _ _ hki, DV.mono F.up _ _ hvy'⟩
            · rw [List.getElem?_set_ne (fun e => hnj e.symm)] at he
              rw [Array.getElem?_modify, if_neg (fun e => hnj e.symm)] at hf
              obtain ⟨d1, d2⟩ := m3.2 n e f' he (by simpa using hf)
              exact ⟨DV.mono F.up _ _ d1, DV.mono F.up _ _ d2⟩
      · have hfk := (run_findKey_eq (P := P) w (row_wide hk) (a.eval i) en.toList).trans q4
        obtain ⟨F, g'⟩ := put_move (obj' := .map (en.push { key := a.eval i, val := a.eval y, born := cl }) (cl + 1)) g (by omega) m2 (fun _ _ _ e => by cases e) (fun _ e => by cases e) (fun _ _ _ e => by cases e)
        refine ⟨_, .inl ?_, F.mono (fun k e => by rw [e]; exact h3), g', others_hold R g F fun _ => ?_⟩
        · rcases ho with ho | ho <;> simp [execOp, ho, Instr.mapUpdate, run_underlying hu, hmx.2, hg, hc, hfk, hset]
        · refine ⟨mc, _, cl + 1, World.putObj_heap_same hlt, ?_, fun n e f' he hf => ?_⟩
          · rw [q5]; simp; simpa using m3.1
          · rw [q5] at he
            have hl : es.length = en.size := by simpa using m3.1
            by_cases hn : n < es.length
            · rw [List.getElem?_append_left hn] at he
              rw [Array.getElem?_push, if_neg (by omega)] at hf
              obtain ⟨d1, d2⟩ := m3.2 n e f' he (by simpa using hf)
              exact ⟨DV.mono F.up _ _ d1, DV.mono F.up _ _ d2⟩
            · have hn2 : n = es.length := by
                have := (List.getElem?_eq_some_iff.1 he).1
                simp at this; omega
              subst hn2
              rw [List.getElem?_append_right (Nat.le_refl _)] at he
              simp at he
              subst he
              rw [Array.getElem?_push, if_pos hl] at hf
              cases hf
              exact ⟨DV.mono F.up _ _ hki, DV.mono F.up _ _ hvy'⟩
    · cases h
  · cases h
end
end Go.Ev
