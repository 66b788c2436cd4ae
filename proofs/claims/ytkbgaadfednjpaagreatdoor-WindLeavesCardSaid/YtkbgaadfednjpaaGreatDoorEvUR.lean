import Derived.Test.YtkbgaadfednjpaaGreatDoorEvUO
import Derived.Scope
import Derived.LoopNIn
set_option linter.all false
set_option maxHeartbeats 8000000
noncomputable section
namespace Go.Ev
open Go.RowKit (Below)
theorem iM : ∀ {ks : List LK} {us : List Value}, Mt ks us -> ∀ n, (us.zip us).all (fun (x, y) => Instr.sameBits n x y) = true
 | [], us, h, n => by unfold Mt at h; subst h; rfl
 | .b :: ks, us, h, n => by
   unfold Mt at h
   obtain ⟨b, r, rfl, h⟩ := h
   have := iM h n
   simp only [List.zip_cons_cons, List.all_cons, this, Bool.and_true]
   cases n <;> simp [Instr.sameBits]
 | .i k :: ks, us, h, n => by
   unfold Mt at h
   obtain ⟨b, r, rfl, _, h⟩ := h
   have := iM h n
   simp only [List.zip_cons_cons, List.all_cons, this, Bool.and_true]
   cases n <;> simp [Instr.sameBits]
section
variable {P : Program} {V : Sel} {γ : Gh} {a : Act} {w : World} {sl : T D} {ob : T C} {nx : Pos} {lg : Option (T Bool)} {nt : Nat} {o : Oper} {ro : Option Nat}
def EG (γ : Gh) (w : World) (es : List (D × D)) (en : List MapEntry) : Prop := es.length = en.length /\ ∀ (i : Nat) e f, es[i]? = some e -> en[i]? = some f -> DV γ w e.1 f.key /\ DV γ w e.2 f.val
theorem As {t : TypeId} {ks : List LK} (hk : dM P t = some ks) {key : D} {u : Value} (hu : DV γ w key u) : ∀ {es : List (D × D)} {en : List MapEntry} {r : Option D} {i : Nat}, AO ks key es = some r -> EG γ w es en ->
 ∃ res, (Instr.findAsking t u en i).run P w = .ok res w /\ (match r with
   | none => res = none
   | some v => ∃ j x, res = some (j, x) /\ DV γ w v x)
 | [], en, r, i, h, hm => by
   have he : en = [] := List.length_eq_zero_iff.1 hm.1.symm
   subst he
   have h : (some none : Option (Option D)) = some r := h
   cases h
   exact ⟨none, rfl, rfl⟩
 | e :: es, [], r, i, h, hm => by have := hm.1; simp at this
 | e :: es, f :: en, r, i, h, hm => by
   have h : (match BW ks key e.1 with
    | some true => some (some e.2)
    | some false => AO ks key es
    | none => none) = some r := h
   obtain ⟨h1, h2⟩ := hm.2 0 e f rfl rfl
   have hm' : EG γ w es en := ⟨by have := hm.1; simpa using this, fun j e' f' he hf => hm.2 (j + 1) e' f' (by simpa using he) (by simpa using hf)⟩
   split at h
   ·rename_i heq
    cases h
    obtain ⟨q1, _⟩ := cE hk heq hu h1 w
    exact ⟨some (i, f.val), by simp [Instr.findAsking, q1], i, f.val, rfl, h2⟩
   ·rename_i heq
    obtain ⟨q1, _⟩ := cE hk heq hu h1 w
    obtain ⟨res, q2, q3⟩ := As hk hu (i := i + 1) h hm'
    exact ⟨res, by simp [Instr.findAsking, q1, q2], q3⟩
   ·cases h
theorem AR {id : Pos} {es : List (D × D)} (H : HoldsO P γ w id (.map es)) : γ.cur id = 1 /\ ∃ en cl, w.heap[(γ.β id 0).1]? = some (.map en cl) /\ EG γ w es en.toList := by
 obtain ⟨h1, en, cl, h2, h3, h4⟩ := H
 exact ⟨h1, en, cl, h2, by simpa using h3, fun i e f he hf => h4 i e f he (by simpa using hf)⟩
theorem rN {t : TypeId} {ks : List LK} (hk : dM P t = some ks) : (match P.underlying t with | some (.array _ _) | some (.struct _) => true | _ => false) = true := by
 have := (gP hk).1
 unfold dS at this
 split at this
 ·rename_i hu; rw [hu]
 ·rename_i hu; rw [hu]
 ·cases this
 ·cases this
theorem CX {t : TypeId} {zero : D} (h : zQ P t = some zero) : ∃ z : Value, (∀ w, (zeroValue t).run P w = .ok z w) /\ ∀ γ w, DV γ w zero z := by
 unfold zQ at h
 split at h
 ·rename_i i hi
  split at h
  ·rename_i cs hz
   split at h
   ·rename_i ds hds
    cases h
    refine ⟨.agg cs, fun w => by simp [zeroValue, typeInfo, hi, hz], fun γ w => ?_⟩
    unfold DV
    exact ⟨cs, rfl, (bR hds).1, (bR (γ := γ) (w := w) hds).2⟩
   ·cases h
  ·rename_i z _ hz
   exact ⟨z, fun w => by simp [zeroValue, typeInfo, hi, hz], fun γ w => oF h⟩
  ·cases h
 ·cases h
theorem DG {t kt el : TypeId} {x i : Operand} {ok : Bool} {zero : D} {ks : List LK} {d : Pos} {r1 r2 : RX} {Z : X} (ho : o.op = .lookup t x i ok) (hd : o.dst = some d.ix) (hlt : d.ix < nt) (hx : rx x = some r1) (hi : rx i = some r2) (hu : P.underlying t = some (.map kt el)) (hz : zQ P el = some zero) (hk : dM P kt = some ks)
 (h : Ag d zero ok ks r1 r2 sl ob nx lg = some Z) : OpOk P nt o (r1.ss ++ r2.ss) ⟨sl, ob, nx, lg⟩ Z := by
 obtain ⟨z, z1, hzv⟩ := CX hz
 unfold Ag at h
 split at h
 ·rename_i id key hvx hvi
  split at h
  ·rename_i es b hob hself
   have main : ∀ (r : Option D), AO ks key es = some r -> ∀ {lg' : Option (T Bool)}, LgLe lg lg' -> tchd lg' id -> ∀ v b, (match r with | none => v = zero /\ b = false | some v' => v = v' /\ b = true) ->
    OpOk P nt o (r1.ss ++ r2.ss) ⟨sl, ob, nx, lg⟩ ⟨T.set d (bif ok then .tp [v, .b b] else v) sl, ob, nx, lg'⟩ := by
    intro r hf lg' hl hto v b hvb
    refine OpOk.pure hd hlt hl fun V hs ht γ a w R => ?_
    have hmx := aB hx hvx R fun s h => hs s (by simp [h])
    have hki := aB hi hvi R fun s h => hs s (by simp [h])
    unfold DV at hmx
    obtain ⟨_, en, cl, m2, m3⟩ := AR (R.ob id _ (ht id hto) hob)
    obtain ⟨res, q1, q2⟩ := As hk hki (i := 0) hf m3
    obtain ⟨_, _, us, _, e1, _, mt, _⟩ := cE hk hself hki hki w
    have hc := gZ hk mt en.isEmpty w
    rw [<- e1] at hc
    have hfk := (run_findKey_eq (P := P) w (rN hk) (a.eval i) en.toList).trans q1
    have hg : (getObj (γ.β id 0).1).run P w = .ok (.map en cl) w := by simp [getObj, Sem.run, m2]
    have hrun : ∃ x' , (Instr.lookup t (a.eval x) (a.eval i) ok).run P w = .ok (if ok then .tuple #[x', .bool b] else x') w /\ DV γ w v x' := by
     cases r with
     | none =>
       obtain ⟨rfl, rfl⟩ := hvb
       subst q2
       refine ⟨z, ?_, hzv γ w⟩
       simp [Instr.lookup, run_underlying hu, hmx.2, hg, hc, hfk, z1]
     | some v' =>
       obtain ⟨rfl, rfl⟩ := hvb
       obtain ⟨j, x', rfl, q3⟩ := q2
       refine ⟨x', ?_, q3⟩
       simp [Instr.lookup, run_underlying hu, hmx.2, hg, hc, hfk]
    obtain ⟨x', q4, q5⟩ := hrun
    refine ⟨_, by simp [execOp, ho, q4]; rfl, ?_⟩
    cases ok with
    | true =>
      simp only [cond_true, if_true]
      unfold DV
      exact ⟨_, rfl, DVL.cons q5 (DVL.one (dD _))⟩
    | false => exact q5
   split at h
   ·rename_i v hf
    obtain ⟨lg', h1, h2, h3⟩ := eN h
    cases ok with
    | true => rw [aE h1]; exact main _ hf h2 h3 v true ⟨rfl, rfl⟩
    | false => rw [aE h1]; exact main _ hf h2 h3 v true ⟨rfl, rfl⟩
   ·rename_i hf
    obtain ⟨lg', h1, h2, h3⟩ := eN h
    cases ok with
    | true => rw [aE h1]; exact main _ hf h2 h3 zero false ⟨rfl, rfl⟩
    | false => rw [aE h1]; exact main _ hf h2 h3 zero false ⟨rfl, rfl⟩
   ·cases h
  ·cases h
 ·cases h
theorem wU {id : Pos} {obj obj' : Obj} (g : G ro γ a w) (hst : 0 < γ.cur id) (hob : w.heap[(γ.β id 0).1]? = some obj) (h1 : ∀ vs e fr, obj ≠ .cells vs e fr) (h2 : ∀ l, obj ≠ .loop l) (h3 : ∀ vs e fr, obj' ≠ .cells vs e fr) :
 Fr (fun j => j = id) γ γ w (w.putObj (γ.β id 0).1 obj') /\ ∀ a' : Act, a'.defers = a.defers -> G ro γ a' (w.putObj (γ.β id 0).1 obj') :=
 nO g id (by simp [World.putObj]) (fun c hc hn => World.putObj_heap_other (fun e => hn 0 hst e.symm))
  (fun c x hx => by
    have hne : c ≠ (γ.β id 0).1 := by
     rintro rfl
     unfold World.shape? at hx
     rw [hob] at hx
     cases obj <;> first | (cases hx; done) | exact absurd rfl (h1 _ _ _)
    rw [cY (World.putObj_heap_other hne)]; exact hx)
  (fun c r hr => by
    have hne : c ≠ (γ.β id 0).1 := by
     rintro rfl
     rw [hob] at hr
     cases hr
     exact absurd rfl (h2 _)
    exact ⟨r, by rw [World.putObj_heap_other hne]; exact hr⟩) ⟨rfl, rfl, rfl⟩ (lF w _ _ h3 fun vs e fr h => by rw [hob] at h; cases h; exact absurd rfl (h1 _ _ _))
theorem Aa {β : Type} {t : TypeId} {ks : List LK} (hk : dM P t = some ks) {key v : D} {u : Value} (hu : DV γ w key u) : ∀ {es : List (D × D)} {en : List MapEntry} {k : List (D × D) -> Option β} {Z : β} {i : Nat}, Da ks key v es k = some Z -> EG γ w es en ->
 ∃ es', k es' = some Z /\ ((∃ j x f, (Instr.findAsking t u en i).run P w = .ok (some (i + j, x)) w /\ en[j]? = some f /\ f.key = u /\ es' = es.set j (key, v)) \/ ((Instr.findAsking t u en i).run P w = .ok none w /\ es' = es ++ [(key, v)]))
 | [], en, k, Z, i, h, hm => by
   have he : en = [] := List.length_eq_zero_iff.1 hm.1.symm
   subst he
   exact ⟨[(key, v)], h, .inr ⟨rfl, rfl⟩⟩
 | e :: es, [], k, Z, i, h, hm => by have := hm.1; simp at this
 | e :: es, f :: en, k, Z, i, h, hm => by
   have h : (match BW ks key e.1 with
    | some true => k ((key, v) :: es)
    | some false => Da ks key v es fun l => k (e :: l)
    | none => none) = some Z := h
   obtain ⟨h1, h2⟩ := hm.2 0 e f rfl rfl
   have hm' : EG γ w es en := ⟨by have := hm.1; simpa using this, fun j e' f' he hf => hm.2 (j + 1) e' f' (by simpa using he) (by simpa using hf)⟩
   split at h
   ·rename_i heq
    obtain ⟨q1, q2, _⟩ := cE hk heq hu h1 w
    exact ⟨_, h, .inl ⟨0, f.val, f, by simp [Instr.findAsking, q1], rfl, (q2.1 rfl).symm, rfl⟩⟩
   ·rename_i heq
    obtain ⟨q1, _⟩ := cE hk heq hu h1 w
    obtain ⟨es', q2, q3⟩ := Aa hk hu (i := i + 1) h hm'
    refine ⟨e :: es', q2, ?_⟩
    rcases q3 with ⟨j, x, f', q4, q5, q6, q7⟩ | ⟨q4, q5⟩
    ·refine .inl ⟨j + 1, x, f', ?_, by simpa using q5, q6, by simp [q7]⟩
     simp [Instr.findAsking, q1, q4]; omega
    ·exact .inr ⟨by simp [Instr.findAsking, q1, q4], by simp [q5]⟩
   ·cases h
theorem uB {t kt el : TypeId} {x i y : Operand} {ks : List LK} {r1 r2 r3 : RX} {Z : X} (ho : o.op = .mapUpdate t x i y \/ o.op = .insert t x i y) (hd : o.dst = none) (hx : rx x = some r1) (hi : rx i = some r2) (hy : rx y = some r3) (hu : P.underlying t = some (.map kt el)) (hk : dM P kt = some ks)
 (h : zK ks r1 r2 r3 sl ob nx lg = some Z) : OpOk P nt o (r1.ss ++ (r2.ss ++ r3.ss)) ⟨sl, ob, nx, lg⟩ Z := by
 unfold zK at h
 split at h
 ·rename_i id key v hvx hvi hvy
  split at h
  ·rename_i es b hob hself
   have h0 := h
   -- the new list does not hang on the world
   obtain ⟨es', k1⟩ : ∃ es', oP sl ob nx lg id (.map es') = some Z := by
    clear hvx hvi hvy hob hself
    revert h
    suffices ∀ (es : List (D × D)) (k : List (D × D) -> Option X), Da ks key v es k = some Z -> ∃ es', k es' = some Z from this es _
    intro es
    induction es with
    | nil => exact fun k h => ⟨_, h⟩
    | cons e es ih =>
      intro k h
      have h : (match BW ks key e.1 with
       | some true => k ((key, v) :: es)
       | some false => Da ks key v es fun l => k (e :: l)
       | none => none) = some Z := h
      split at h
      ·exact ⟨_, h⟩
      ·obtain ⟨es', h⟩ := ih _ h
       exact ⟨_, h⟩
      ·cases h
   obtain ⟨lg', rfl, h2, h3⟩ := lS k1
   refine OpOk.skip hd h2 ((Keeps.refl _ _).set h3 _) fun V hs hto ro γ a w g R => ?_
   have hmx := aB hx hvx R fun s h => hs s (by simp [h])
   have hki := aB hi hvi R fun s h => hs s (by simp [h])
   have hvy' := aB hy hvy R fun s h => hs s (by simp [h])
   unfold DV at hmx
   obtain ⟨mc, en, cl, m2, m3⟩ := AR (R.ob id _ (hto id h3.tchd) hob)
   obtain ⟨_, _, us, _, e1, _, mt, _⟩ := cE hk hself hki hki w
   have hc := gZ hk mt false w
   rw [<- e1] at hc
   have hg : (getObj (γ.β id 0).1).run P w = .ok (.map en cl) w := by simp [getObj, Sem.run, m2]
   have hset : ∀ o' : Obj, (setObj (γ.β id 0).1 o').run P w = .ok () (w.putObj (γ.β id 0).1 o') := fun o' => by simp [setObj, Sem.run, m2, World.putObj]
   obtain ⟨es2, p1, p2⟩ := Aa (v := v) hk hki (i := 0) h0 m3
   have e2 : es2 = es' := by
    obtain ⟨lg2, q1, _, _⟩ := lS p1
    have q2 := (X.mk.inj q1).2.1
    have := congrArg (fun t => T.get t id) q2
    simp only [T.get_set_same, Option.some.injEq, C.map.injEq] at this
    exact this.symm
   subst e2
   have hlt : (γ.β id 0).1 < w.heap.size := (Array.getElem?_eq_some_iff.1 m2).1
   rcases p2 with ⟨j, x', f, q4, q5, q6, q7⟩ | ⟨q4, q5⟩
   ·-- the key was there
    have hfk := (run_findKey_eq (P := P) w (rN hk) (a.eval i) en.toList).trans q4
    simp only [Nat.zero_add] at hfk
    have hsb : Instr.sameBits 10000 (a.eval i) (a.eval i) = true := by
     rw [e1]
     simp [Instr.sameBits]
     have := iM mt 9999
     simpa using this
    have hkey : ((en[j]?).map (·.key)).getD (a.eval i) = a.eval i := by
     have : en[j]? = some f := by simpa using q5
     rw [this]; simpa using q6
    have hks : (Instr.keyThatStays (a.eval i) (a.eval i)).run P w = .ok (a.eval i) w := by simp [Instr.keyThatStays, hsb]
    obtain ⟨F, g'⟩ := wU (obj' := .map (en.modify j fun e => { e with key := a.eval i, val := a.eval y }) cl) g (by omega) m2 (fun _ _ _ e => by cases e) (fun _ e => by cases e) (fun _ _ _ e => by cases e)
    refine ⟨_, .inl ?_, F.mono (fun k e => by rw [e]; exact h3), g', aQ R g F fun _ => ?_⟩
    ·rcases ho with ho | ho <;> simp [execOp, ho, Instr.mapUpdate, run_underlying hu, hmx.2, hg, hc, hfk, hkey, hks, hset]
    ·refine ⟨mc, _, cl, World.putObj_heap_same hlt, ?_, fun n e f' he hf => ?_⟩
     ·rw [q7]; simp; simpa using m3.1
     ·rw [q7] at he
      have hjl : j < es.length := by
       have := (List.getElem?_eq_some_iff.1 q5).1
       rw [m3.1]; exact this
      by_cases hnj : n = j
      ·subst hnj
       simp [hjl] at he
       subst he
       have hf0 : en[n]? = some f := by simpa using q5
       simp [Array.getElem?_modify, hf0] at hf
       subst hf
       exact ⟨DV.mono F.up _ _ hki, DV.mono F.up _ _ hvy'⟩
      ·rw [List.getElem?_set_ne (fun e => hnj e.symm)] at he
       rw [Array.getElem?_modify, if_neg (fun e => hnj e.symm)] at hf
       obtain ⟨d1, d2⟩ := m3.2 n e f' he (by simpa using hf)
       exact ⟨DV.mono F.up _ _ d1, DV.mono F.up _ _ d2⟩
   ·have hfk := (run_findKey_eq (P := P) w (rN hk) (a.eval i) en.toList).trans q4
    obtain ⟨F, g'⟩ := wU (obj' := .map (en.push { key := a.eval i, val := a.eval y, born := cl }) (cl + 1)) g (by omega) m2 (fun _ _ _ e => by cases e) (fun _ e => by cases e) (fun _ _ _ e => by cases e)
    refine ⟨_, .inl ?_, F.mono (fun k e => by rw [e]; exact h3), g', aQ R g F fun _ => ?_⟩
    ·rcases ho with ho | ho <;> simp [execOp, ho, Instr.mapUpdate, run_underlying hu, hmx.2, hg, hc, hfk, hset]
    ·refine ⟨mc, _, cl + 1, World.putObj_heap_same hlt, ?_, fun n e f' he hf => ?_⟩
     ·rw [q5]; simp; simpa using m3.1
     ·rw [q5] at he
      have hl : es.length = en.size := by simpa using m3.1
      by_cases hn : n < es.length
      ·rw [List.getElem?_append_left hn] at he
       rw [Array.getElem?_push, if_neg (by omega)] at hf
       obtain ⟨d1, d2⟩ := m3.2 n e f' he (by simpa using hf)
       exact ⟨DV.mono F.up _ _ d1, DV.mono F.up _ _ d2⟩
      ·have hn2 : n = es.length := by
        have := (List.getElem?_eq_some_iff.1 he).1
        simp at this; omega
       subst hn2
       rw [List.getElem?_append_right (Nat.le_refl _)] at he
       simp at he
       subst he
       rw [Array.getElem?_push, if_pos hl] at hf
       cases hf
       exact ⟨DV.mono F.up _ _ hki, DV.mono F.up _ _ hvy'⟩
  ·cases h
 ·cases h
end
open Go.RowKit (Below)
section
variable {P : Program} {sl : T D} {ob : T C} {nx : Pos} {lg : Option (T Bool)} {nt : Nat} {o : Oper}
theorem bN {t el : TypeId} {n : Nat} (h : iE P t = some (el, n)) : P.underlying t = some (.slice el) /\ cT P el = some n := by
 unfold iE at h
 split at h
 ·rename_i el' hu
  split at h
  ·rename_i m hm
   cases h
   exact ⟨hu, hm⟩
  ·cases h
 ·cases h
theorem FY {r : RO} {Z : X} (hc : aH P nt o = some r) (h : step r sl ob nx lg = some Z) : OpOk P nt o r.ss ⟨sl, ob, nx, lg⟩ Z := by
 cases hop : o.op with
 | move x =>
   simp only [aH, hop] at hc
   split at hc
   ·rename_i s rxx hd hx
    obtain ⟨d, rfl, hd, hlt⟩ := aD hd hc
    exact Ao (.inl hop) hd hlt hx h
   ·cases hc
 | assign x =>
   simp only [aH, hop] at hc
   split at hc
   ·rename_i s rxx hd hx
    obtain ⟨d, rfl, hd, hlt⟩ := aD hd hc
    exact Ao (.inr hop) hd hlt hx h
   ·cases hc
 | pick c x y =>
   simp only [aH, hop] at hc
   split at hc
   ·rename_i s r1 r2 r3 hd h1 h2 h3
    obtain ⟨d, rfl, hd, hlt⟩ := aD hd hc
    exact Av hop hd hlt h1 h2 h3 h
   ·cases hc
 | alloc t =>
   simp only [aH, hop] at hc
   split at hc
   ·rename_i s zs hd hz
    obtain ⟨d, rfl, hd, hlt⟩ := aD hd hc
    exact DN hop hd hlt hz h
   ·cases hc
 | box t x =>
   simp only [aH, hop] at hc
   split at hc
   ·rename_i s rxx hd hx
    obtain ⟨d, rfl, hd, hlt⟩ := aD hd hc
    exact Cb hop hd hlt hx h
   ·cases hc
 | build t ps =>
   simp only [aH, hop] at hc
   split at hc
   ·rename_i s zs pl hd hz hpl
    split at hc
    ·rename_i rs hrs
     obtain ⟨d, rfl, hd, hlt⟩ := aD hd hc
     exact Eq hop hd hlt hz hpl hrs h
    ·cases hc
   ·cases hc
 | buildSlice t len ps =>
   simp only [aH, hop] at hc
   split at hc
   ·rename_i s el n hd hsl
    obtain ⟨hu, hs⟩ := bN hsl
    split at hc
    ·rename_i z rs hz hrs
     cases hb : (Nat.ble (len * n) 16777216 && Nat.beq z.length n) with
     | false => rw [hb] at hc; cases hc
     | true =>
       rw [hb] at hc
       rw [Bool.and_eq_true] at hb
       obtain ⟨d, rfl, hd, hlt⟩ := aD hd hc
       exact Em hop hd hlt hu hs hz hrs (Nat.le_of_ble_eq_true hb.1) (Nat.eq_of_beq_eq_true hb.2) h
    ·cases hc
   ·cases hc
 | load t x =>
   simp only [aH, hop] at hc
   split at hc
   ·rename_i s rxx n hd hx ht hn
    obtain ⟨d, rfl, hd, hlt⟩ := aD hd hc
    exact Ce hop hd hlt hx ht hn h
   ·rename_i s rxx n hd hx ht hn
    obtain ⟨d, rfl, hd, hlt⟩ := aD hd hc
    exact Er hop hd hlt hx ht h
   ·cases hc
 | store t x y =>
   simp only [aH, hop] at hc
   split at hc
   ·rename_i r1 r2 n hd hx hy hn
    cases hc
    exact GA hop hd hx hy hn h
   ·cases hc
 | nilCheck x =>
   simp only [aH, hop] at hc
   split at hc
   ·rename_i s rxx hd hx
    obtain ⟨d, rfl, hd, hlt⟩ := aD hd hc
    exact Ap hop hd hlt hx h
   ·cases hc
 | binOp op t x y t' =>
   simp only [aH, hop] at hc
   split at hc
   ·rename_i s r1 r2 hd hx hy
    split at hc
    ·rename_i k hu
     obtain ⟨d, rfl, hd, hlt⟩ := aD hd hc
     exact Dt hop hd hlt hx hy h
    ·split at hc
     ·rename_i ks hk
      obtain ⟨d, rfl, hd, hlt⟩ := aD hd hc
      exact vA hop rfl hk hd hlt hx hy h
     ·rename_i ks hk
      obtain ⟨d, rfl, hd, hlt⟩ := aD hd hc
      exact vA hop rfl hk hd hlt hx hy h
     ·split at hc
      ·rename_i tk htk
       obtain ⟨d, rfl, hd, hlt⟩ := aD hd hc
       exact AB hop rfl htk hd hlt hx hy h
      ·cases hc
     ·split at hc
      ·rename_i tk htk
       obtain ⟨d, rfl, hd, hlt⟩ := aD hd hc
       exact AB hop rfl htk hd hlt hx hy h
      ·cases hc
     ·cases hc
   ·cases hc
 | unOp op t x =>
   simp only [aH, hop] at hc
   split at hc
   ·rename_i s rxx hd hx
    obtain ⟨d, rfl, hd, hlt⟩ := aD hd hc
    exact Gy hop hd hlt hx h
   ·cases hc
 | convert t' t x =>
   simp only [aH, hop] at hc
   split at hc
   ·rename_i s rxx k' k hd hx hu' hu
    obtain ⟨d, rfl, hd, hlt⟩ := aD hd hc
    exact Cc hop hu' hu hd hlt hx h
   ·cases hc
 | makeFunc fn first caps =>
   cases fn with
   | func f =>
     simp only [aH, hop] at hc
     split at hc
     ·rename_i s pf r1 r2 hd hf h1 h2
      obtain ⟨d, rfl, hd, hlt⟩ := aD hd hc
      exact DA hop hd hlt hf h1 h2 h
     ·cases hc
   | _ => simp only [aH, hop] at hc; cases hc
 | makeMap t res =>
   cases res with
   | none =>
     simp only [aH, hop] at hc
     split at hc
     ·rename_i s hd
      obtain ⟨d, rfl, hd, hlt⟩ := aD hd hc
      exact CC hop hd hlt h
     ·cases hc
   | some q => simp only [aH, hop] at hc; cases hc
 | makeSlice t l c =>
   simp only [aH, hop] at hc
   split at hc
   ·rename_i s el n r1 r2 hd hsl h1 h2
    obtain ⟨hu, hs⟩ := bN hsl
    split at hc
    ·rename_i z i hz hi
     cases hb : (Nat.ble i.bytes 65536 && Nat.beq z.length n) with
     | false => rw [hb] at hc; cases hc
     | true =>
       rw [hb] at hc
       rw [Bool.and_eq_true] at hb
       obtain ⟨d, rfl, hd, hlt⟩ := aD hd hc
       exact Dw hop hd hlt h1 h2 hu hs hz hi (Nat.le_of_ble_eq_true hb.1) (Nat.eq_of_beq_eq_true hb.2) h
    ·cases hc
   ·cases hc
 | slice t x lo hi mx =>
   simp only [aH, hop] at hc
   split at hc
   ·rename_i s rxx rlo rhi rmx hd hx hlo hhi hmx
    cases hb : (rhi.isNone && rmx.isSome) with
    | true => rw [hb] at hc; cases hc
    | false =>
      rw [hb] at hc
      simp only [cond_false] at hc
      split at hc
      ·rename_i el hu
       split at hc
       ·rename_i n hn
        obtain ⟨d, rfl, hd, hlt⟩ := aD hd hc
        exact ED hop hd hlt hx hlo hhi hmx hb hu hn h
       ·cases hc
      ·rename_i len el hu
       split at hc
       ·rename_i n hn
        obtain ⟨d, rfl, hd, hlt⟩ := aD hd hc
        exact Eb hop hd hlt hx hlo hhi hmx hu hn h
       ·cases hc
      ·cases hc
   ·cases hc
 | fieldAddr t x f =>
   simp only [aH, hop] at hc
   split at hc
   ·rename_i s rxx k ft hd hx hf
    split at hc
    ·rename_i n hn
     obtain ⟨d, rfl, hd, hlt⟩ := aD hd hc
     exact ET hop hd hlt hx hf hn h
    ·cases hc
   ·cases hc
 | field t x f =>
   simp only [aH, hop] at hc
   split at hc
   ·rename_i s rxx k ft hd hx hf
    split at hc
    ·rename_i row n hr hn
     obtain ⟨d, rfl, hd, hlt⟩ := aD hd hc
     exact CJ hop hd hlt hx hf hr hn h
    ·cases hc
   ·cases hc
 | indexAddr t x i =>
   simp only [aH, hop] at hc
   split at hc
   ·rename_i s r1 r2 el hd hx hi hu
    split at hc
    ·rename_i n hn
     obtain ⟨d, rfl, hd, hlt⟩ := aD hd hc
     exact Dy hop hd hlt hx hi hu hn h
    ·cases hc
   ·rename_i s r1 r2 len el hd hx hi hu
    split at hc
    ·rename_i n hn
     obtain ⟨d, rfl, hd, hlt⟩ := aD hd hc
     exact CY hop hd hlt hx hi hu hn h
    ·cases hc
   ·cases hc
 | lookup t x i ok =>
   simp only [aH, hop] at hc
   split at hc
   ·rename_i s r1 r2 k el hd hx hi hu
    split at hc
    ·rename_i zero ks hz hk
     obtain ⟨d, rfl, hd, hlt⟩ := aD hd hc
     exact DG hop hd hlt hx hi hu hz hk h
    ·cases hc
   ·cases hc
 | mapUpdate t m i v =>
   simp only [aH, hop] at hc
   split at hc
   ·rename_i r1 r2 r3 k el hd h1 h2 h3 hu
    split at hc
    ·rename_i ks hk
     cases hc
     exact uB (.inl hop) hd h1 h2 h3 hu hk h
    ·cases hc
   ·cases hc
 | insert t m i v =>
   simp only [aH, hop] at hc
   split at hc
   ·rename_i r1 r2 r3 k el hd h1 h2 h3 hu
    split at hc
    ·rename_i ks hk
     cases hc
     exact uB (.inr hop) hd h1 h2 h3 hu hk h
    ·cases hc
   ·cases hc
 | extract x n =>
   simp only [aH, hop] at hc
   split at hc
   ·rename_i s rxx hd hx
    obtain ⟨d, rfl, hd, hlt⟩ := aD hd hc
    exact CU hop hd hlt hx h
   ·cases hc
 | index t x i =>
   simp only [aH, hop] at hc
   split at hc
   ·rename_i s r1 r2 hd hx hi
    split at hc
    ·rename_i len el hu
     split at hc
     ·rename_i row z hr hz
      obtain ⟨d, rfl, hd, hlt⟩ := aD hd hc
      exact Cj hop hd hlt hx hi hu hr hz h
     ·cases hc
    ·rename_i hu
     obtain ⟨d, rfl, hd, hlt⟩ := aD hd hc
     exact Dz hop hd hlt hx hi hu h
    ·cases hc
   ·cases hc
 | call c =>
   obtain ⟨callee, args, tys⟩ := c
   cases callee with
   | value f =>
     exfalso
     cases f with
     | func f =>
       simp only [aH, hop] at hc
       split at hc
       ·split at hc
        ·cases hc; cases h
        ·rename_i s hd
         obtain ⟨d, rfl, _⟩ := aD hd hc
         cases h
       ·cases hc
     | _ =>
       simp only [aH, hop] at hc
       split at hc
       ·split at hc
        ·cases hc; cases h
        ·rename_i s hd
         obtain ⟨d, rfl, _⟩ := aD hd hc
         cases h
       ·cases hc
   | invoke r m => simp only [aH, hop] at hc; cases hc
   | builtin b =>
     cases b with
     | len =>
       simp only [aH, hop] at hc
       split at hc
       ·rename_i s x t hd ha ht
        split at hc
        ·rename_i rxx el hx hu
         obtain ⟨d, rfl, hd, hlt⟩ := aD hd hc
         exact DS hop ha ht hd hlt hx hu h
        ·cases hc
       ·cases hc
     | cap =>
       simp only [aH, hop] at hc
       split at hc
       ·rename_i s x t hd ha ht
        split at hc
        ·rename_i rxx el hx hu
         obtain ⟨d, rfl, hd, hlt⟩ := aD hd hc
         exact CR hop ha ht hd hlt hx hu h
        ·cases hc
       ·cases hc
     | append =>
       simp only [aH, hop] at hc
       split at hc
       ·rename_i s x y t t' hd ha ht
        split at hc
        ·rename_i r1 r2 el n e' hx hy hsl hu'
         obtain ⟨hu, hs⟩ := bN hsl
         split at hc
         ·rename_i z i hz hi
          cases hb : (Nat.beq z.length n && Nat.ble i.bytes 65536) with
          | false => rw [hb] at hc; cases hc
          | true =>
            rw [hb] at hc
            rw [Bool.and_eq_true] at hb
            obtain ⟨d, rfl, hd, hlt⟩ := aD hd hc
            exact DD hop ha ht hd hlt hx hy hu hs hu' hz hi (Nat.eq_of_beq_eq_true hb.1) (Nat.le_of_ble_eq_true hb.2) h
         ·cases hc
        ·rename_i r1 r2 el n e' hx hy hsl hu'
         obtain ⟨hu, hs⟩ := bN hsl
         split at hc
         ·rename_i z i hz hi
          cases hb : (Nat.beq z.length n && Nat.ble i.bytes 65536) with
          | false => rw [hb] at hc; cases hc
          | true =>
            rw [hb] at hc
            rw [Bool.and_eq_true] at hb
            obtain ⟨d, rfl, hd, hlt⟩ := aD hd hc
            exact CL hop ha ht hd hlt hx hy hu hs hu' hz hi (Nat.eq_of_beq_eq_true hb.1) (Nat.le_of_ble_eq_true hb.2) h
         ·cases hc
        ·cases hc
       ·cases hc
     | copy =>
       simp only [aH, hop] at hc
       split at hc
       ·rename_i x y t t' ha ht
        split at hc
        ·rename_i r1 r2 el n e' hx hy hsl hu'
         obtain ⟨hu, hs⟩ := bN hsl
         split at hc
         ·rename_i hd
          cases hc
          exact uK (dst := none) hop ha ht hd (fun d e => by cases e) hx hy hu hs hu' h
         ·rename_i s hd
          obtain ⟨d, rfl, hd, hlt⟩ := aD hd hc
          exact uK (dst := some d) hop ha ht hd (fun d' e => by cases e; exact hlt) hx hy hu hs hu' h
        ·cases hc
       ·cases hc
     | clear =>
       simp only [aH, hop] at hc
       split at hc
       ·rename_i x t hd ha ht
        split at hc
        ·rename_i r1 el n hx hsl
         obtain ⟨hu, hs⟩ := bN hsl
         split at hc
         ·rename_i z hz
          cases hb : Nat.beq z.length n with
          | false => rw [hb] at hc; cases hc
          | true =>
            rw [hb] at hc
            cases hc
            exact Cq hop ha ht hd hx hu hs hz (Nat.eq_of_beq_eq_true hb) h
         ·cases hc
        ·cases hc
       ·cases hc
     | max =>
       simp only [aH, hop] at hc
       split at hc
       ·rename_i s x y _ hd ha
        split at hc
        ·rename_i r1 r2 hx hy
         obtain ⟨d, rfl, hd, hlt⟩ := aD hd hc
         exact kI hop ha hd hlt hx hy (.inl ⟨rfl, h⟩)
        ·cases hc
       ·cases hc
     | min =>
       simp only [aH, hop] at hc
       split at hc
       ·rename_i s x y _ hd ha
        split at hc
        ·rename_i r1 r2 hx hy
         obtain ⟨d, rfl, hd, hlt⟩ := aD hd hc
         exact kI hop ha hd hlt hx hy (.inr ⟨rfl, h⟩)
        ·cases hc
       ·cases hc
     | _ => simp only [aH, hop] at hc; cases hc
 | _ => simp only [aH, hop] at hc; cases hc
end
end Go.Ev
namespace Go
theorem eW {F : Fence} {n : Nat} {P : Program} {Q : Exit -> Act -> World -> Prop} {a : Act} {w : World} {c : Code} (h : c.wpIn F n P (Exit.noGoto Q) a w) : (Code.scope c).wpIn F n P Q a w := by
 intro b k cs hro hb hr
 have h0 : (lone (b.atR a (.code (.scope c) :: k)) cs w).fenced P F := fenced_calm hb hr rfl
 have hs : step P (lone (b.atR a (.code (.scope c) :: k)) cs w) = .next (lone (b.atR a (.code c :: .inScope c :: k)) cs w) := step_lone_go (by simp [stepG, stepG.exec, Frame.atR])
 obtain ⟨e, a₁, w₁, hq, harr⟩ := h b (.inScope c :: k) cs hro hb hr
 cases e with
 | normal =>
   have he : step P (lone (b.atR a₁ (.inScope c :: k)) cs w₁) = .next (lone (b.atR a₁ k) cs w₁) := step_lone_go (by simp [stepG, stepG.exec, Frame.atR])
   exact ⟨.normal, a₁, w₁, hq, .head h0 hs (StepsIn.trans harr (.one (fenced_calm hb hr rfl) he))⟩
 | exit id =>
   have hx : exitTo id (.inScope c :: k) = exitTo id k := by simp [exitTo]
   exact ⟨.exit id, a₁, w₁, hq, fun k' hk => .head h0 hs (harr.1 k' (by rw [hx]; exact hk)), fun hr' hk => let ⟨k₁, h1, h2⟩ := harr.2 hr' (by rw [hx]; exact hk); ⟨k₁, h1, .head h0 hs h2⟩⟩
 | goto l => exact hq.elim
 | ret => exact ⟨_, a₁, w₁, hq, .of_steps (.one h0 hs) harr⟩
 | panic ch => exact ⟨_, a₁, w₁, hq, .of_steps (.one h0 hs) harr⟩
 | outgrown => exact ⟨_, a₁, w₁, hq, .of_steps (.one h0 hs) harr⟩
end Go
namespace Go.Ev
open Go.RowKit (Below)
def Ex.to : Ex -> Exit
 | .normal => .normal
 | .ret => .ret
 | .exit id => .exit id
structure CSt (ro : Option Nat) (lg : Option (T Bool)) (γ : Gh) (a : Act) (w : World) (γ' : Gh) (a' : Act) (w' : World) : Prop where
 g : G ro γ' a' w'
 fr : Fr (wrtn lg) γ γ' w w'
 sz : a'.tmps.size = a.tmps.size
 dn : ∀ r, pH r ∈ a'.defers -> pH r ∈ a.defers \/ w.heap.size <= r
theorem CSt.refl {ro : Option Nat} {lg : Option (T Bool)} {γ : Gh} {a : Act} {w : World} (g : G ro γ a w) : CSt ro lg γ a w γ a w := ⟨g, Fr.refl _ _ _, rfl, fun _ h => .inl h⟩
theorem CSt.trans {ro : Option Nat} {lg lg' : Option (T Bool)} {γ γ1 γ2 : Gh} {a a1 a2 : Act} {w w1 w2 : World} (hl : LgLe lg lg') (h : CSt ro lg γ a w γ1 a1 w1) (k : CSt ro lg' γ1 a1 w1 γ2 a2 w2) : CSt ro lg' γ a w γ2 a2 w2 :=
 ⟨k.g, (h.fr.mono hl.w).trans k.fr, k.sz.trans h.sz, fun r hr => by
  rcases k.dn r hr with h1 | h1
  ·exact h.dn r h1
  ·exact .inr (Nat.le_trans h.fr.size h1)⟩
theorem St.code {ro : Option Nat} {lg : Option (T Bool)} {dst : Option Tmp} {γ γ' : Gh} {a a' : Act} {w w' : World} (s : St ro lg dst γ a w γ' a' w') : CSt ro lg γ a w γ' a' w' :=
 ⟨s.g, s.fr, s.sz, fun r hr => .inl (by rw [<- s.df]; exact hr)⟩
def eH (so : Pos -> Prop) : Sel := ⟨fun _ => True, so⟩
structure XOk (P : Program) (nt : Nat) (c : Code) (x : X) (ex : Ex) (Z : X) : Prop where
 lg : LgLe x.lg Z.lg
 nx : x.nx.nat <= Z.nx.nat
 obf : Keeps Z.lg x.ob Z.ob
 ok : ∀ so : Pos -> Prop, (∀ id, tchd Z.lg id -> so id) -> ∀ (ro : Option Nat) (γ : Gh) (a : Act) (w : World), a.tmps.size = nt -> G ro γ a w -> Rep P (eH so) γ a w x ->
  ∀ (n : Nat) (Q : Exit -> Act -> World -> Prop), (∀ γ' a' w', CSt ro Z.lg γ a w γ' a' w' -> Rep P (eH so) γ' a' w' Z -> Q ex.to a' w') -> c.wpIn (FW ro) n P Q a w
section
variable {P : Program} {nt : Nat} {x y Z : X} {ex : Ex}
theorem XOk.here {c : Code} (h : ∀ {F : Fence} {n : Nat} {Q : Exit -> Act -> World -> Prop} {a : Act} {w : World}, Q ex.to a w -> c.wpIn F n P Q a w) : XOk P nt c x ex x :=
 ⟨LgLe.refl _, Nat.le_refl _, Keeps.refl _ _, fun _ _ _ _ _ _ _ g R _ _ hQ => h (hQ _ _ _ (CSt.refl g) R)⟩
theorem XOk.skip : XOk P nt .skip x .normal x := XOk.here wpIn_skip
theorem XOk.label {l : Nat} : XOk P nt (.label l) x .normal x := XOk.here wpIn_label
theorem XOk.exit {id : Nat} : XOk P nt (.exit id) x (.exit id) x := XOk.here wpIn_exit
theorem XOk.ret : XOk P nt .ret x .ret x := XOk.here wpIn_ret
theorem XOk.seq {a b : Code} (h1 : XOk P nt a x .normal y) (h2 : XOk P nt b y ex Z) : XOk P nt (.seq a b) x ex Z :=
 ⟨h1.lg.trans h2.lg, Nat.le_trans h1.nx h2.nx, h1.obf.trans h2.lg h2.obf, fun so hs ro γ a w hn g R n Q hQ => wpIn_seq (h1.ok so (fun id hid => hs id (h2.lg.t id hid)) ro γ a w hn g R n _ fun γ1 a1 w1 s1 R1 =>
  h2.ok so hs ro γ1 a1 w1 (s1.sz.trans hn) s1.g R1 n Q fun γ2 a2 w2 s2 R2 => hQ γ2 a2 w2 (CSt.trans h2.lg s1 s2) R2)⟩
theorem XOk.seqEnd {a b : Code} (h1 : XOk P nt a x ex Z) (hne : ex ≠ .normal) : XOk P nt (.seq a b) x ex Z :=
 ⟨h1.lg, h1.nx, h1.obf, fun so hs ro γ a w hn g R n Q hQ => wpIn_seq (h1.ok so hs ro γ a w hn g R n _ fun γ1 a1 w1 s1 R1 => by
  have := hQ γ1 a1 w1 s1 R1
  cases ex with
  | normal => exact absurd rfl hne
  | exit id => exact this
  | ret => exact this)⟩
theorem XOk.cond {c : Operand} {a b : Code} {r : RX} {t : Bool} (hc : rx c = some r) (hv : bC x.sl r = some (.b t)) (h : XOk P nt (bif t then a else b) x ex Z) : XOk P nt (.cond c a b) x ex Z :=
 ⟨h.lg, h.nx, h.obf, fun so hs ro γ a w hn g R n Q hQ => by
  have e := pL (aB (sl := x.sl) (ob := x.ob) (nx := x.nx) (lg := x.lg) hc hv R fun _ _ => trivial)
  refine wpIn_cond e ?_
  have := h.ok so hs ro γ a w hn g R n Q hQ
  cases t <;> exact this⟩
theorem XOk.block {id : Nat} {c : Code} (h : XOk P nt c x (.exit id) Z) : XOk P nt (.block id c) x .normal Z :=
 ⟨h.lg, h.nx, h.obf, fun so hs ro γ a w hn g R n Q hQ => wpIn_block (h.ok so hs ro γ a w hn g R n _ fun γ1 a1 w1 s1 R1 => by
  simp only [Ex.to, Exit.inBlock, if_true]
  exact hQ γ1 a1 w1 s1 R1)⟩
theorem XOk.blockThrough {id : Nat} {c : Code} (h : XOk P nt c x ex Z) (hne : ex ≠ .exit id) : XOk P nt (.block id c) x ex Z :=
 ⟨h.lg, h.nx, h.obf, fun so hs ro γ a w hn g R n Q hQ => wpIn_block (h.ok so hs ro γ a w hn g R n _ fun γ1 a1 w1 s1 R1 => by
  have := hQ γ1 a1 w1 s1 R1
  cases ex with
  | normal => exact this
  | exit i =>
    have hi : ¬ i = id := fun e => hne (by rw [e])
    simp only [Ex.to, Exit.inBlock, hi, if_false]
    exact this
  | ret => exact this)⟩
theorem XOk.scope {c : Code} (h : XOk P nt c x ex Z) : XOk P nt (.scope c) x ex Z :=
 ⟨h.lg, h.nx, h.obf, fun so hs ro γ a w hn g R n Q hQ => eW (h.ok so hs ro γ a w hn g R n _ fun γ1 a1 w1 s1 R1 => by
  have := hQ γ1 a1 w1 s1 R1
  cases ex <;> exact this)⟩
inductive XRounds (P : Program) (nt : Nat) (c : Code) : X -> Ex -> X -> Prop where
 | last {x Z : X} {ex : Ex} (h : XOk P nt c x ex Z) (hne : ex ≠ .normal) : XRounds P nt c x ex Z
 | more {x y Z : X} {ex : Ex} (h : XOk P nt c x .normal y) (r : XRounds P nt c y ex Z) : XRounds P nt c x ex Z
theorem XRounds.lg {c : Code} (h : XRounds P nt c x ex Z) : LgLe x.lg Z.lg /\ x.nx.nat <= Z.nx.nat /\ Keeps Z.lg x.ob Z.ob := by
 induction h with
 | last h _ => exact ⟨h.lg, h.nx, h.obf⟩
 | more h _ ih => exact ⟨h.lg.trans ih.1, Nat.le_trans h.nx ih.2.1, h.obf.trans ih.1 ih.2.2⟩
theorem XRounds.rounds {c : Code} (h : XRounds P nt c x ex Z) (so : Pos -> Prop) (hs : ∀ id, tchd Z.lg id -> so id) (ro : Option Nat) (n : Nat) (Q : Exit -> Act -> World -> Prop) : ∃ m, ∀ γ a w, a.tmps.size = nt -> G ro γ a w -> Rep P (eH so) γ a w x ->
 (∀ γ' a' w', CSt ro Z.lg γ a w γ' a' w' -> Rep P (eH so) γ' a' w' Z -> Q ex.to a' w') -> Code.roundsIn (FW ro) n P c Q m a w := by
 induction h with
 | last hx hne =>
   refine ⟨1, fun γ a w hn g R hq => ?_⟩
   rw [roundsIn_succ]
   refine hx.ok so hs ro γ a w hn g R n _ fun γ' a' w' s1 R1 => ?_
   have := hq γ' a' w' s1 R1
   rename_i ex'
   cases ex' with
   | normal => exact absurd rfl hne
   | exit id => exact this
   | ret => exact this
 | more hx r ih =>
   obtain ⟨m, hm⟩ := ih hs
   refine ⟨m + 1, fun γ a w hn g R hq => ?_⟩
   rw [roundsIn_succ]
   refine hx.ok so (fun id hid => hs id (r.lg.1.t id hid)) ro γ a w hn g R n _ fun γ' a' w' s1 R1 => ?_
   exact hm γ' a' w' (s1.sz.trans hn) s1.g R1 fun γ2 a2 w2 s2 R2 => hq γ2 a2 w2 (CSt.trans r.lg.1 s1 s2) R2
theorem XOk.loop {c : Code} (h : XRounds P nt c x ex Z) : XOk P nt (.loop c) x ex Z :=
 ⟨h.lg.1, h.lg.2.1, h.lg.2.2, fun so hs ro γ a w hn g R n Q hQ => by
  obtain ⟨m, hm⟩ := h.rounds so hs ro n Q
  exact wpIn_loop_rounds m (hm γ a w hn g R hQ)⟩
end
structure GH (γ : Gh) (w : World) : Prop where
 ob : ∀ id st, st < γ.cur id -> (γ.β id st).1 < w.heap.size
 inj : ∀ id st id' st', st < γ.cur id -> st' < γ.cur id' -> (γ.β id st).1 = (γ.β id' st').1 -> id = id' /\ (γ.β id st).2 = (γ.β id' st').2
 im : ∀ b, γ.im b -> (∃ vs e fr, w.heap[b]? = some (.cells vs e fr)) /\ ∀ id st, st < γ.cur id -> (γ.β id st).1 ≠ b
 gl : GLok γ w
theorem G.gh {ro : Option Nat} {γ : Gh} {a : Act} {w : World} (g : G ro γ a w) : GH γ w := ⟨g.ob, g.inj, g.im, g.gl⟩
structure CallOk (P : Program) (f : FuncId) (ds : List D) (ob : T C) (nx : Pos) (lg : Option (T Bool)) (v : D) (ob' : T C) (nx' : Pos) (lg' : Option (T Bool)) : Prop where
 hl : LgLe lg lg'
 hx : nx.nat <= nx'.nat
 hk : Keeps lg' ob ob'
 ok : ∀ so : Pos -> Prop, (∀ id, tchd lg' id -> so id) -> ∀ (γ : Gh) (args : Array Value) (w : World), GH γ w -> DVL γ w ds args.toList -> (∀ id c, so id -> ob.get id = some c -> HoldsO P γ w id c) -> (∀ id, so id -> nx.nat <= id.nat -> γ.cur id = 0) ->
  (∀ w, (callFunc f args).run P w = .ok (.enter f args) w) /\ ∀ (ro : Option Nat) (n : Nat) (R : Ending -> World -> Prop), (∀ γ' w' u, GH γ' w' -> Fr (wrtn lg') γ γ' w w' -> DV γ' w' v u -> (∀ id c, so id -> ob'.get id = some c -> HoldsO P γ' w' id c) -> (∀ id, so id -> nx'.nat <= id.nat -> γ'.cur id = 0) -> R (.returned u) w') ->
    CallsIn (FW ro) n P f args w R
def MemOk (P : Program) (f : FuncId) (es : List D) (v : D) : Prop := ∀ (ob1 : T C) (ds : List D) (ob : T C) (nx : Pos) (lg lg' : Option (T Bool)), mpO (Ej ob1 12) ds = some es -> (∀ id c, ob1.get id = some c -> ob.get id = some c) -> LgLe lg lg' -> (∀ id c, ob1.get id = some c -> tchd lg' id) -> CallOk P f ds ob nx lg v ob nx lg'
def qJ (P : Program) (k : Nat) (rf : RF) : Prop := (rf.kn = none -> aA P k = some ⟨rf.nt, rf.body, rf.res, none, []⟩) /\ (∀ v, rf.kn = some v -> ∀ ob nx lg, CallOk P k [] ob nx lg v ob nx lg) /\ ∀ m ∈ rf.mem, MemOk P k m.1 m.2
def FPok (P : Program) (FP : T RF) : Prop := ∀ p rf, FP.get p = some rf -> qJ P p.ix rf
theorem xP {β : Type} : ∀ {ds : List D} {p : Pos} {t : T D} {k : T D -> Option β} {z : β}, Cs ds p t k = some z -> ∃ t', k t' = some z /\ ∀ s d, t'.get s = some d -> t.get s = some d \/ ∃ i : Nat, s.nat = p.nat + i /\ ds[i]? = some d
 | [], p, t, k, z, h => ⟨t, h, fun s d hd => .inl hd⟩
 | d :: ds, p, t, k, z, h => by
   have h : T.setK p d t (fun t => Pos.succK p fun p => Cs ds p t k) = some z := h
   rw [T.setK_eq, Pos.succK_eq] at h
   obtain ⟨t', h1, h2⟩ := xP h
   refine ⟨t', h1, fun s e hs => ?_⟩
   rcases h2 s e hs with h3 | ⟨i, h3, h4⟩
   ·by_cases hsp : s = p
    ·subst hsp
     rw [T.get_set_same] at h3
     cases h3
     exact .inr ⟨0, rfl, rfl⟩
    ·rw [T.get_set_ne hsp] at h3
     exact .inl h3
   ·rw [Pos.succ_nat] at h3
    exact .inr ⟨i + 1, by omega, by simpa using h4⟩
theorem tW {P : Program} {f : FuncId} {fn : Func} {c : Code} (hf : P.funcs[f]? = some fn) (hb : fn.body = some c) (hn : (fn.name == "runtime.NumGoroutine") = false) (args : Array Value) (w : World) : (callFunc f args).run P w = .ok (.enter f args) w := by
 simp [callFunc, Sem.run, hf, hb, hn]
 have : fn.name ≠ "runtime.NumGoroutine" := by simpa using hn
 simp [this]
theorem iA {P : Program} : ∀ {rs : List ResultVar} {rr : List RR} {sl : T D} {ob : T C} {lg : Option (T Bool)} {k : List D -> Option (T Bool) -> Option X} {Z : X}, jK P rs = some rr -> results rr sl ob lg k = some Z ->
 ∃ ds lg', k ds lg' = some Z /\ LgLe lg lg' /\ ∀ {so : Pos -> Prop} {γ : Gh} {tmps : Array Value} {w : World}, (∀ id, tchd lg' id -> so id) -> (∀ s d, sl.get s = some d -> s.ix < tmps.size /\ DV γ w d (tmps.getD s.ix undef)) -> (∀ id c, so id -> ob.get id = some c -> HoldsO P γ w id c) ->
   ∃ vs : List Value, (rs.mapM fun
     | .tmp t => pure (tmps.getD t undef)
     | .cell a t => do loadVar t (<- asAddr (tmps.getD a undef)) : Sem (List Value)).run P w = .ok vs w /\ DVL γ w ds vs
 | [], rr, sl, ob, lg, k, Z, hc, h => by
   cases hc
   exact ⟨[], lg, h, LgLe.refl _, fun _ _ _ => ⟨[], rfl, DVL.nil⟩⟩
 | .tmp t :: rs, rr, sl, ob, lg, k, Z, hc, h => by
   simp only [jK] at hc
   split at hc
   ·rename_i p l hp hl
    cases hc
    have h : (match sl.get p with
     | some d => results l sl ob lg fun ds lg => k (d :: ds) lg
     | none => none) = some Z := h
    split at h
    ·rename_i d hd
     obtain ⟨ds, lg', h1, h2, h3⟩ := iA hl h
     refine ⟨d :: ds, lg', h1, h2, fun hso hsl hob => ?_⟩
     obtain ⟨vs, h4, h5⟩ := h3 hso hsl hob
     have := (hsl p d hd).2
     rw [cQ hp] at this
     refine ⟨_ :: vs, ?_, DVL.cons this h5⟩
     rw [List.mapM_cons]
     simp only [Sem.run_bind, Sem.run_pure, Result.andThen_ok, h4]
    ·cases h
   ·cases hc
 | .cell a t :: rs, rr, sl, ob, lg, k, Z, hc, h => by
   simp only [jK] at hc
   split at hc
   ·rename_i p n l hp ht hn hl
    cases hc
    have h : (match sl.get p with
     | some (.pt id off st) => match ob.get id with
       | some (.cells _ cs _) => dV st n (dB off cs) fun es => results l sl ob lg fun ds lg => gH lg id fun lg => k (.ag es :: ds) lg
       | _ => none
     | _ => none) = some Z := h
    split at h
    ·rename_i id off st hd
     split at h
     ·rename_i q cs cur hob
      obtain ⟨es, h1, h2, h3⟩ := mW h
      rw [bK] at h3
      obtain ⟨ds, lg1, h4, h5, h6⟩ := iA hl h1
      obtain ⟨lg2, h7, h8, h9⟩ := eN h4
      refine ⟨.ag es :: ds, lg2, h7, h5.trans h8, fun {so γ tmps w} hso hsl hobs => ?_⟩
      obtain ⟨vs, g1, g2⟩ := h6 (fun id hid => hso id (h8.t id hid)) hsl hobs
      have hv := (hsl p _ hd).2
      rw [cQ hp] at hv
      obtain ⟨e1, e2, e3⟩ := jN hv
      obtain ⟨us, q1, q2, q3, q4⟩ := nG (hobs id _ (hso id h9) hob) e1 e2 h2 h3
      refine ⟨.agg us.toArray :: vs, ?_, DVL.cons (by unfold DV; exact ⟨_, rfl, q3, q4⟩) g2⟩
      have ha : (asAddr (tmps.getD a undef)).run P w = .ok ⟨(γ.β id st).1, off - (γ.β id st).2, none⟩ w := by rw [e3]; rfl
      rw [List.mapM_cons]
      simp only [Sem.run_bind, ha, Sem.run_pure, Result.andThen_ok, eF ht hn q2 q1, g1]
     ·cases h
    ·cases h
   ·rename_i p n l hp ht hn hl
    cases hc
    have h : (match sl.get p with
     | some (.pt id off st) => match ob.get id with
       | some (.cells _ cs _) => match pN cs off with
         | some c => rG st c fun v => results l sl ob lg fun ds lg => gH lg id fun lg => k (v :: ds) lg
         | none => none
       | _ => none
     | _ => none) = some Z := h
    split at h
    ·rename_i id off st hd
     split at h
     ·rename_i q cs cur hob
      split at h
      ·rename_i c hcc
       rw [dJ] at hcc
       obtain ⟨h1, h2⟩ := jR h
       obtain ⟨ds, lg1, h4, h5, h6⟩ := iA hl h2
       obtain ⟨lg2, h7, h8, h9⟩ := eN h4
       refine ⟨c.d :: ds, lg2, h7, h5.trans h8, fun {so γ tmps w} hso hsl hobs => ?_⟩
       obtain ⟨vs, g1, g2⟩ := h6 (fun id hid => hso id (h8.t id hid)) hsl hobs
       have hv := (hsl p _ hd).2
       rw [cQ hp] at hv
       obtain ⟨e1, e2, e3⟩ := jN hv
       obtain ⟨u, q1, q2, q3⟩ := uY (hobs id _ (hso id h9) hob) e1 hcc h1 e2
       refine ⟨u :: vs, ?_, DVL.cons q2 g2⟩
       have ha : (asAddr (tmps.getD a undef)).run P w = .ok ⟨(γ.β id st).1, off - (γ.β id st).2, none⟩ w := by rw [e3]; rfl
       rw [List.mapM_cons]
       simp only [Sem.run_bind, ha, Sem.run_pure, Result.andThen_ok, fH ht q1, g1]
      ·cases h
     ·cases h
    ·cases h
   ·cases hc
open Go.RowKit (Below)
theorem Dj {F : Fence} {n : Nat} {P : Program} {fn : Func} {tmps : Array Value} {R : Ending -> World -> Prop} : ∀ (ms : List Nat) (w : World), ms.Nodup -> (∀ r, r ∈ ms -> w.heap[r]? = some (.deferred (some []))) ->
 (∀ w2 : World, (∀ b, b ∉ ms -> w2.heap[b]? = w.heap[b]?) -> w2.heap.size = w.heap.size -> (w2.os = w.os /\ w2.tape = w.tape /\ w2.output = w.output /\ ∀ a : Addr, w2.frozen? a = w.frozen? a) -> LeavesInM F n P fn tmps R [] .returning w2) -> LeavesInM F n P fn tmps R (ms.map pH) .returning w
 | [], w, _, _, h => h w (fun _ _ => rfl) rfl ⟨rfl, rfl, rfl, fun _ => rfl⟩
 | r :: ms, w, hn, hm, h => by
   have hr := hm r (by simp)
   rw [List.nodup_cons] at hn
   refine ⟨by simp, .inl ⟨r, w.putObj r (.deferred none), rfl, run_takeDeferred hr, ?_⟩⟩
   refine Dj ms _ hn.2 (fun q hq => ?_) fun w2 h1 h2 h3 => ?_
   ·rw [World.putObj_heap_other (show q ≠ r from fun e => hn.1 (e ▸ hq))]
    exact hm q (by simp [hq])
   ·refine h w2 (fun b hb => ?_) (by rw [h2]; simp [World.putObj]) ⟨h3.1, h3.2.1, h3.2.2.1, fun a => (h3.2.2.2 a).trans (lF w r _ (fun _ _ _ h => by cases h) (fun _ _ _ h => by rw [hr] at h; cases h) a)⟩
    simp only [List.mem_cons, not_or] at hb
    rw [h1 b hb.2, World.putObj_heap_other hb.1]
theorem vL {P : Program} {fn : Func} {tmps : Array Value} {w : World} {vs : List Value} (h : (fn.results.toList.mapM fun
        | .tmp t => pure (tmps.getD t undef)
        | .cell a t => do loadVar t (<- asAddr (tmps.getD a undef)) : Sem (List Value)).run P w = .ok vs w) : (_root_.Go.results fn tmps).run P w = .ok (if h : vs.length = 1 then vs[0] else .tuple vs.toArray) w := by
 unfold _root_.Go.results
 rw [Sem.run_bind, Array.mapM_eq_mapM_toList]
 simp only [Sem.run_map]
 erw [h]
 simp only [Result.andThen_ok, Sem.run_pure]
 congr 1
theorem Iu {γ : Gh} {w : World} {ds : List D} {vs : List Value} (h : DVL γ w ds vs) : DV γ w (one ds) (if h : vs.length = 1 then vs[0] else .tuple vs.toArray) := by
 obtain ⟨h1, h2⟩ := aK.1 h
 unfold one
 split
 ·rename_i d
  have h3 : vs.length = 1 := by rw [<- h1]; rfl
  rw [dif_pos h3]
  exact h2 0 d _ rfl (List.getElem?_eq_getElem (by omega))
 ·rename_i hne
  have h3 : vs.length ≠ 1 := by
   intro h3
   rw [<- h1] at h3
   obtain ⟨d, hd⟩ := List.length_eq_one_iff.1 h3
   exact hne d hd
  rw [dif_neg h3]
  unfold DV
  exact ⟨_, rfl, h⟩
theorem rB {P : Program} {f : Nat} {rf : RF} (h : aA P f = some rf) : ∃ fn c rs, P.funcs[f]? = some fn /\ fn.body = some c /\ jK P fn.results.toList = some rs /\ (fn.name == "runtime.NumGoroutine") = false /\ rf = ⟨fn.ntmps, aY P fn.ntmps c, rs, none, []⟩ := by
 unfold aA at h
 split at h
 ·rename_i fn hf
  split at h
  ·rename_i c rs hb hr
   cases hn : (fn.name == "runtime.NumGoroutine") with
   | true => rw [hn] at h; cases h
   | false =>
     rw [hn] at h
     cases h
     exact ⟨fn, c, rs, hf, hb, hr, hn, rfl⟩
  ·cases h
 ·cases h
theorem xY {ro : Option Nat} {n : Nat} {P : Program} {f : FuncId} {args : Array Value} {w : World} {R : Ending -> World -> Prop} (h : CallsIn (FW none) n P f args w R) : CallsIn (FW ro) n P f args w R := h
theorem qI {r : Nat} {ms : List Nat} : pH r ∈ ms.map pH ↔ r ∈ ms := by
 constructor
 ·intro h
  obtain ⟨q, h1, h2⟩ := List.mem_map.1 h
  have : q = r := by
   unfold pH at h2
   cases h2; rfl
  exact this ▸ h1
 ·exact fun h => List.mem_map.2 ⟨r, h, rfl⟩
section
variable {P : Program} {FP : T RF} {ex : RC -> X -> Option (Ex × X)}
theorem nI {f : Nat} {fn : Func} {c : Code} {rs : List RR} {ds : List D} {sl : T D} {ob : T C} {nx : Pos} {lg : Option (T Bool)} {k : D -> T C -> Pos -> Option (T Bool) -> Option X} {Z : X} (hf : P.funcs[f]? = some fn) (hb : fn.body = some c) (hr : jK P fn.results.toList = some rs) (hname : (fn.name == "runtime.NumGoroutine") = false)
 (hlen : ds.length <= fn.ntmps) (hsl : ∀ s d, sl.get s = some d -> (T.e : T D).get s = some d \/ ∃ i : Nat, s.nat = Pos.h.nat + i /\ ds[i]? = some d) {e : Ex} {sl' : T D} {ob1 : T C} {nx1 : Pos} {lg1 : Option (T Bool)} (he : e = .normal \/ e = .ret)
 (X1 : XOk P fn.ntmps c ⟨sl, ob, nx, lg⟩ e ⟨sl', ob1, nx1, lg1⟩) (hres : results rs sl' ob1 lg1 (fun ds lg => k (one ds) ob1 nx1 lg) = some Z) :
 ∃ v ob' nx' lg', k v ob' nx' lg' = some Z /\ CallOk P f ds ob nx lg v ob' nx' lg' := by
 obtain ⟨rds, lg2, h2, h3, h4⟩ := iA hr hres
 refine ⟨one rds, ob1, nx1, lg2, h2, X1.lg.trans h3, X1.nx, (fun id hn => X1.obf id fun hw => hn (h3.w id hw)), fun so hso γ args w gh hargs hob hnx => ⟨tW hf hb hname args, fun ro n R hR => xY ?_⟩⟩
 have hasz : args.size = ds.length := by have := (aK.1 hargs).1; simpa using this.symm
 have hsz : (args ++ Array.replicate (fn.ntmps - args.size) undef).size = fn.ntmps := by simp; omega
 have g0 : G none γ { tmps := args ++ Array.replicate (fn.ntmps - args.size) undef, defers := [] } w := ⟨gh.ob, gh.inj, ⟨[], rfl, List.nodup_nil, fun r hr => by cases hr⟩, (fun l hl => by cases hl), gh.im, gh.gl⟩
 refine callsIn_of_wp_marks hf hb trivial (X1.ok so (fun id hid => hso id (h3.t id hid)) none γ _ w hsz g0 ⟨fun s d _ hd => ?_, hob, hnx, gh.gl⟩ n _ fun γ' a' w' cst rep => ?_) rfl
 ·rcases hsl s d hd with h5 | ⟨i, h5, h6⟩
  ·rw [T.get_e] at h5; cases h5
  ·have hi : i < args.size := by have := (List.getElem?_eq_some_iff.1 h6).1; omega
   have hix : s.ix = i := by
    unfold Pos.ix
    rw [h5]
    show 1 + i - 1 = i
    omega
   rw [hix]
   refine ⟨by rw [hsz]; omega, ?_⟩
   have hav : (args ++ Array.replicate (fn.ntmps - args.size) undef).getD i undef = args[i] := by
    simp [Array.getD, hi, Array.getElem_append_left]
    omega
   show DV γ w d ((args ++ Array.replicate (fn.ntmps - args.size) undef).getD i undef)
   rw [hav]
   exact (aK.1 hargs).2 i d _ h6 (by simp [hi])
 ·have fin : LeavesInM (FW none) n P fn a'.tmps R a'.defers .returning w' := by
   obtain ⟨ms, d1, d2, d3⟩ := cst.g.df
   rw [d1]
   refine Dj ms w' d2 (fun r hr => (d3 r hr).1) fun w2 e1 e2 e3 => ?_
   have hnew : ∀ r, r ∈ ms -> w.heap.size <= r := by
    intro r hr
    rcases cst.dn r (by rw [d1]; exact qI.2 hr) with h5 | h5
    ·cases h5
    ·exact h5
   have hown : ∀ id st, st < γ'.cur id -> (γ'.β id st).1 ∉ ms := fun id st hst hm => (d3 _ hm).2 id st hst rfl
   have U : Up γ' γ' w' w2 := ⟨fun _ => Nat.le_refl _, fun _ _ _ => rfl, fun b x hx => by
    have hb : b ∉ ms := by
     intro hm
     have := (d3 b hm).1
     unfold World.shape? at hx
     rw [this] at hx
     cases hx
    rw [cY (e1 b hb)]; exact hx, fun b hb => ⟨hb, fun o ho => by
    rw [e1 b (fun hm => ?_)]; exact ho
    obtain ⟨⟨vs, e, fr, k1⟩, _⟩ := cst.g.im b hb
    have := (d3 b hm).1
    rw [k1] at this
    cases this⟩⟩
   have hold : ∀ id c, so id -> ob1.get id = some c -> HoldsO P γ' w2 id c := fun id c hid hc => HoldsO.mono U rfl (fun st hst => e1 _ (hown id st hst)) (rep.ob id c hid hc)
   have hsl2 : ∀ s d, sl'.get s = some d -> s.ix < a'.tmps.size /\ DV γ' w2 d (a'.tmps.getD s.ix undef) := fun s d hd => ⟨(rep.sl s d trivial hd).1, DV.mono U _ _ (rep.sl s d trivial hd).2⟩
   obtain ⟨vs, q1, q2⟩ := h4 hso hsl2 hold
   refine ⟨_, vL q1, hR γ' w2 _ ⟨fun id st hst => by rw [e2]; exact cst.g.ob id st hst, cst.g.inj, fun b hb => ⟨let ⟨⟨vs, e, fr, k1⟩, _⟩ := cst.g.im b hb; ⟨vs, e, fr, (U.im b hb).2 _ k1⟩, (cst.g.im b hb).2⟩, cst.g.gl.up U⟩ ?_ (Iu q2) hold rep.nx⟩
   have F := cst.fr.mono h3.w
   exact ⟨F.up.trans U, F.cur, fun b hb hn => by
    rw [e1 b (fun hm => by have := hnew b hm; omega)]
    exact F.blk b hb hn, F.new, F.imn, fun b r hr => by
    obtain ⟨r', hr'⟩ := F.lp b r hr
    refine ⟨r', ?_⟩
    rw [e1 b (fun hm => by have := (d3 b hm).1; rw [hr'] at this; cases this)]
    exact hr', by rw [e2]; exact F.size, e3.1.trans F.os, e3.2.1.trans F.tape, e3.2.2.1.trans F.output, fun a => (e3.2.2.2 a).trans (F.fz a)⟩
  rcases he with rfl | rfl <;> exact fin
theorem sW : ∀ {l : List Pos} {p : Pos} {u : Unit}, (sZ l).get p = some u -> p ∈ l
 | [], p, u, h => by
   have h : (T.e : T Unit).get p = some u := h
   rw [T.get_e] at h; cases h
 | q :: l, p, u, h => by
   have h : (T.set q () (sZ l)).get p = some u := h
   by_cases e : p = q
   ·subst e; exact List.mem_cons_self ..
   ·rw [T.get_set_ne e] at h
    exact List.mem_cons_of_mem _ (sW h)
theorem lM {α : Type} : ∀ (m : T Unit) (t : T α) (p : Pos) {x : α}, (wM m t).get p = some x -> ∃ u, m.get p = some u
 | .e, t, p, x, h => by
   have h : (T.e : T α).get p = some x := h
   rw [T.get_e] at h; cases h
 | .n _ _ _, .e, p, x, h => by
   have h : (T.e : T α).get p = some x := h
   rw [T.get_e] at h; cases h
 | .n l v r, .n l' v' r', p, x, h => by
   cases p with
   | h =>
     have h : (Option.casesOn v none fun _ => v' : Option α) = some x := h
     cases v with
     | none => cases h
     | some u => exact ⟨u, rfl⟩
   | o p => exact lM l l' p h
   | i p => exact lM r r' p h
theorem nU {α : Type} {f : α -> α -> Bool} (hf : ∀ a b, f a b = true -> a = b) : ∀ {x y : List α}, Fj f x y = true -> x = y
 | [], [], _ => rfl
 | [], _ :: _, h => by cases h
 | _ :: _, [], h => by cases h
 | a :: l, b :: m, h => by
   have h : (f a b && Fj f l m) = true := h
   rw [Bool.and_eq_true] at h
   rw [hf a b h.1, nU hf h.2]
theorem CG : ∀ {m n : Int}, Gw m n = true -> m = n
 | .ofNat m, .ofNat n, h => by rw [Nat.eq_of_beq_eq_true h]
 | .ofNat m, .negSucc n, h => by cases h
 | .negSucc m, .ofNat n, h => by cases h
 | .negSucc m, .negSucc n, h => by rw [Nat.eq_of_beq_eq_true h]
theorem HB {k l : IntKind} (h : Nat.beq (Mm k) (Mm l) = true) : k = l := by
 cases k <;> cases l <;> first | rfl | cases h
theorem xA : ∀ {n : Nat} {a b : D}, oW n a b = true -> a = b
 | 0, _, _, h => by cases h
 | n + 1, a, b, h => by
   have ih : ∀ a b, oW n a b = true -> a = b := fun a b => xA
   unfold oW at h
   cases a <;> cases b <;> first | rfl | (cases h; done) | skip
   ·rw [eq_of_beq h]
   ·simp only [Bool.and_eq_true] at h
    rw [HB h.1, CG h.2]
   ·rw [nU ih h]
   ·rw [nU ih h]
   ·simp only [Bool.and_eq_true] at h
    rw [Nat.eq_of_beq_eq_true h.1, nU (fun _ _ => nU ih) h.2]
theorem Cz {ds : List D} {v : D} : ∀ {l : List (List D × D)}, Mq ds l = some v -> (ds, v) ∈ l
 | [], h => by cases h
 | m :: l, h => by
   unfold Mq at h
   cases hm : Fj (oW 12) ds m.1 with
   | true =>
     rw [hm] at h
     cases h
     rw [nU (fun _ _ => xA) hm]
     exact List.mem_cons_self ..
   | false =>
     rw [hm] at h
     exact List.mem_cons_of_mem _ (Cz h)
theorem sQ : ∀ {ids : List Pos} {lg : Option (T Bool)} {k : Option (T Bool) -> Option X} {Z : X}, uS ids lg k = some Z -> ∃ lg', k lg' = some Z /\ LgLe lg lg' /\ ∀ id ∈ ids, tchd lg' id
 | [], lg, k, Z, h => ⟨lg, h, LgLe.refl _, fun id hid => by cases hid⟩
 | p :: l, lg, k, Z, h => by
   obtain ⟨lg1, h1, h2, h3⟩ := eN (show gH lg p (fun lg => uS l lg k) = some Z from h)
   obtain ⟨lg2, h4, h5, h6⟩ := sQ h1
   refine ⟨lg2, h4, h2.trans h5, fun id hid => ?_⟩
   rcases List.mem_cons.1 hid with e | hid
   ·rw [e]; exact h5.t _ h3
   ·exact h6 id hid
theorem Gf {mem : List (List D × D)} {ob : T C} {args : List D} {v : D} {ids : List Pos} (h : Iz mem ob args = some (v, ids)) : ∃ ds, mpO (Ej (wM (sZ ids) ob) 12) args = some ds /\ (ds, v) ∈ mem := by
 unfold Iz at h
 split at h
 ·cases h
 ·split at h
  ·rename_i ds hds
   split at h
   ·rename_i v' hv
    cases h
    exact ⟨ds, hds, Cz hv⟩
   ·cases h
  ·cases h
theorem gY (hFP : FPok P FP) (IH : ∀ nt c x e Z, ex (aY P nt c) x = some (e, Z) -> XOk P nt c x e Z) {f : Pos} {ds : List D} {ob : T C} {nx : Pos} {lg : Option (T Bool)} {k : D -> T C -> Pos -> Option (T Bool) -> Option X} {Z : X} (h : rO FP ex f ds ob nx lg k = some Z) :
 ∃ v ob' nx' lg', k v ob' nx' lg' = some Z /\ CallOk P f.ix ds ob nx lg v ob' nx' lg' := by
 unfold rO at h
 split at h
 ·rename_i rf hrf
  split at h
  ·rename_i v hkn
   split at h
   ·exact ⟨v, ob, nx, lg, h, (hFP f rf hrf).2.1 v hkn ob nx lg⟩
   ·cases h
  rename_i hkn
  split at h
  ·rename_i v ids hmem
   obtain ⟨es, h1, h2⟩ := Gf hmem
   obtain ⟨lg', h3, h4, h5⟩ := sQ h
   refine ⟨v, ob, nx, lg', h3, (hFP f rf hrf).2.2 _ h2 (wM (sZ ids) ob) ds ob nx lg lg' h1 (fun id c hc => nR _ _ _ hc) h4 fun id c hc => ?_⟩
   obtain ⟨u, hu⟩ := lM _ _ _ hc
   exact h5 id (sW hu)
  obtain ⟨fn, c, rs, hf, hb, hr, hname, hrfe⟩ := rB ((hFP f rf hrf).1 hkn)
  obtain ⟨rfnt, rfbody, rfres, rfkn, rfmem⟩ := rf
  cases hrfe
  cases hle : Nat.ble (List.length ds) fn.ntmps with
  | false => rw [hle] at h; cases h
  | true =>
    rw [hle] at h
    simp only [cond_true] at h
    have hlen := Nat.le_of_ble_eq_true hle
    obtain ⟨sl, h1, hsl⟩ := xP h
    have main : ∀ e sl' ob1 nx1 lg1, (e = .normal \/ e = .ret) -> ex (aY P fn.ntmps c) ⟨sl, ob, nx, lg⟩ = some (e, ⟨sl', ob1, nx1, lg1⟩) -> results rfres sl' ob1 lg1 (fun ds lg => k (one ds) ob1 nx1 lg) = some Z ->
     ∃ v ob' nx' lg', k v ob' nx' lg' = some Z /\ CallOk P f.ix ds ob nx lg v ob' nx' lg' := by
     exact fun e sl' ob1 nx1 lg1 he hex hres => nI hf hb hr hname hlen hsl he (IH _ _ _ _ _ hex) hres
    split at h1
    ·rename_i sl' ob1 nx1 lg1 hex
     exact main .normal sl' ob1 nx1 lg1 (.inl rfl) hex h1
    ·rename_i sl' ob1 nx1 lg1 hex
     exact main .ret sl' ob1 nx1 lg1 (.inr rfl) hex h1
    ·cases h1
 ·cases h
end
end Go.Ev
end
