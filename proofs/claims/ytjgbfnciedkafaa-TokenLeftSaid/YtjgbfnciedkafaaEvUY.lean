import Derived.Test.YtjgbfnciedkafaaEvUT
import Derived.OrdersIn
import Derived.RangeFuncNested
set_option linter.all false
namespace Go.Ev
open Go.RowKit (Below)
structure IOk (P : Program) (nt : Nat) (ops : Array Oper) (i : Nat) (names : List Pos) (x Z : X) : Prop where
  lg : LgLe x.lg Z.lg
  nx : x.nx.nat ≤ Z.nx.nat
  obf : Keeps Z.lg x.ob Z.ob
  slf : ∀ s : Pos, (ops[i]?).bind (·.dst) ≠ some s.ix → Z.sl.get s = x.sl.get s
  ok : ∀ V : Sel, (∀ s, s ∈ names → V.ss s) → (∀ id, tchd Z.lg id → V.so id) → ∀ (ro : Option Nat) (γ : Gh) (a : Act) (w : World), a.tmps.size = nt → G ro γ a w → Rep P V γ a w x →
    ∀ (n : Nat) (K : Act → World → Prop) (Q : Exit → Act → World → Prop), (∀ γ' a' w', St ro Z.lg ((ops[i]?).bind (·.dst)) γ a w γ' a' w' → Rep P V γ' a' w' Z → K a' w') → wpOpIn (FW ro) n P ops Q i K a w
section
variable {P : Program} {FP : T RF} {ex : RC → X → Option (Ex × X)} {nt : Nat} {ops : Array Oper} {o : Oper}
theorem runG_bad {x Z : X} (h : runG P FP ex (.u .bad) x = some Z) : False := by
  cases x; cases h
theorem IOk.of_op {i : Nat} {names names' : List Pos} {x Z : X} (ho : ops[i]? = some o) (hg : ∀ V : Sel, (∀ s, s ∈ names' → V.ss s) → ∀ γ a w, Rep P V γ a w x → Region.wanted o (yielded ops a.tmps) = true) (hs : ∀ s, s ∈ names → s ∈ names') (h : OpOk P nt o names x Z) : IOk P nt ops i names' x Z :=
  ⟨h.lg, h.nx, h.obf, fun s hs => h.slf s (by rw [ho] at hs; exact hs), fun V hV hto ro γ a w hn g R n K Q hK => by
    simp only [wpOpIn, ho, hg V hV γ a w R, if_true]
    simp only [ho, Option.bind_some] at hK
    exact h.ok V (fun s hs' => hV s (hs s hs')) hto ro γ a w hn g R n K Q hK⟩
theorem DV_undef {γ : Gh} {w : World} : DV γ w (.tp []) undef := by
  unfold DV
  exact ⟨#[], rfl, DVL.nil⟩
theorem DV_tp_nil {γ : Gh} {w : World} {v : Value} (h : DV γ w (.tp []) v) : v = .tuple #[] := by
  obtain ⟨vs, rfl, h2⟩ := DV_tp h
  unfold DVL at h2
  rw [show vs = #[] by cases vs; simp at h2; rw [h2]]
theorem runG_ok (hFP : FPok P FP) (IH : ∀ nt c x e Z, ex (comp P nt c) x = some (e, Z) → XOk P nt c x e Z) {i : Nat} {x Z : X} (ho : ops[i]? = some o) (h : runG P FP ex (compG P nt ops o) x = some Z) : IOk P nt ops i (compG P nt ops o).ss x Z := by
  obtain ⟨sl, ob, nx, lg⟩ := x
  unfold compG at h ⊢
  split at h
  · exact (runG_bad h).elim
  · rename_i r hr
    split at h
    · rename_i hg
      exact IOk.of_op ho (fun V hV γ a w R => by simp [Region.wanted, hg]) (fun s hs => hs) (runO_ok hFP IH hr h)
    · rename_i j want hg
      -- guarded
      have main : ∀ {oj : Oper} {t : Nat} {p : Pos} {d : Option Pos}, ops[j]? = some oj → oj.dst = some t → slot t = some p → o.dst = d.map Pos.ix → (∀ e, d = some e → e.ix < nt) → runG P FP ex (.g p want d r) ⟨sl, ob, nx, lg⟩ = some Z → IOk P nt ops i (RG.g p want d r).ss ⟨sl, ob, nx, lg⟩ Z := by
        intro oj t p d hoj ht hp hd hlt h
        have h : g_g P FP ex p want d r ⟨sl, ob, nx, lg⟩ = some Z := h
        simp only [g_g] at h
        split at h
        · rename_i b hb
          have hy : ∀ V : Sel, (∀ s, s ∈ (RG.g p want d r).ss → V.ss s) → ∀ γ a w, Rep P V γ a w ⟨sl, ob, nx, lg⟩ → yielded ops a.tmps j = some b := by
            intro V hV γ a w R
            obtain ⟨h1, h2⟩ := R.sl p _ (hV p List.mem_cons_self) hb
            rw [slot_ix hp] at h1 h2
            have h2 := DV_b h2
            simp only [yielded, hoj, ht, Option.bind_some]
            rw [Array.getD_eq_getD_getElem?] at h2
            rw [Array.getElem?_eq_getElem h1] at h2 ⊢
            simp only [Option.getD_some] at h2
            rw [h2]
          cases hw : (bif want then b else !b) with
          | true =>
            rw [hw] at h
            refine IOk.of_op ho (fun V hV γ a w R => ?_) (fun s hs => List.mem_cons_of_mem _ hs) (runO_ok hFP IH hr h)
            simp only [Region.wanted, hg, hy V hV γ a w R]
            cases want <;> cases b <;> first | rfl | cases hw
          | false =>
            rw [hw] at h
            have h : dstK sl ob nx lg d (.tp []) = some Z := h
            have hl := dstK_lg h
            refine ⟨hl.1 ▸ LgLe.refl _, hl.2.1 ▸ Nat.le_refl _, by rw [hl.2.2.1]; exact Keeps.refl _ _, fun s hs => hl.2.2.2 s (by rw [ho] at hs; rw [← hd]; exact hs), fun V hV hto ro γ a w hn g R n K Q hK => ?_⟩
            have hwn : Region.wanted o (yielded ops a.tmps) = false := by
              simp only [Region.wanted, hg, hy V hV γ a w R]
              cases want <;> cases b <;> first | rfl | cases hw
            simp only [wpOpIn, ho, hwn]
            simp only [ho, Option.bind_some] at hK
            refine ⟨fun _ _ => trivial, ?_⟩
            obtain ⟨_, _, s1, r1⟩ := dst_fin (ro := ro) (u := undef) (a := a) hd (fun e he => by rw [hn]; exact hlt e he) R h (Fr.refl _ _ _) (fun a' ha => { g with df := by rw [ha]; exact g.df }) DV_undef R.ob R.nx
            rw [← hl.1] at s1
            exact hK γ _ w s1 r1
        · rename_i hb
          have hy : ∀ V : Sel, (∀ s, s ∈ (RG.g p want d r).ss → V.ss s) → ∀ γ a w, Rep P V γ a w ⟨sl, ob, nx, lg⟩ → yielded ops a.tmps j = none := by
            intro V hV γ a w R
            obtain ⟨h1, h2⟩ := R.sl p _ (hV p List.mem_cons_self) hb
            rw [slot_ix hp] at h1 h2
            have h2 := DV_tp_nil h2
            simp only [yielded, hoj, ht, Option.bind_some]
            rw [Array.getD_eq_getD_getElem?] at h2
            rw [Array.getElem?_eq_getElem h1] at h2 ⊢
            simp only [Option.getD_some] at h2
            rw [h2]
          have h : dstK sl ob nx lg d (.tp []) = some Z := h
          have hl := dstK_lg h
          refine ⟨hl.1 ▸ LgLe.refl _, hl.2.1 ▸ Nat.le_refl _, by rw [hl.2.2.1]; exact Keeps.refl _ _, fun s hs => hl.2.2.2 s (by rw [ho] at hs; rw [← hd]; exact hs), fun V hV hto ro γ a w hn g R n K Q hK => ?_⟩
          have hwn : Region.wanted o (yielded ops a.tmps) = false := by
            simp only [Region.wanted, hg, hy V hV γ a w R]
            rfl
          simp only [wpOpIn, ho, hwn]
          simp only [ho, Option.bind_some] at hK
          refine ⟨fun _ _ => trivial, ?_⟩
          obtain ⟨_, _, s1, r1⟩ := dst_fin (ro := ro) (u := undef) (a := a) hd (fun e he => by rw [hn]; exact hlt e he) R h (Fr.refl _ _ _) (fun a' ha => { g with df := by rw [ha]; exact g.df }) DV_undef R.ob R.nx
          rw [← hl.1] at s1
          exact hK γ _ w s1 r1
        · cases h
      split at h
      · rename_i oj hoj
        split at h
        · rename_i t ht
          split at h
          · rename_i p hp
            split at h
            · rename_i hd
              exact main hoj ht hp hd (fun e he => by cases he) h
            · rename_i s hd
              split at h
              · rename_i d hs
                obtain ⟨h1, h2⟩ := slotN_ix hs
                exact main (d := some d) hoj ht hp (by rw [hd, ← h1]; rfl) (fun e he => by cases he; rw [h1]; exact h2) h
              · exact (runG_bad h).elim
          · exact (runG_bad h).elim
        · exact (runG_bad h).elim
      · exact (runG_bad h).elim
end
end Go.Ev
namespace Go.Ev
open Go.RowKit (Below)
section
variable {P : Program} {FP : T RF} {ex : RC → X → Option (Ex × X)} {nt : Nat} {ops : Array Oper} {o : Oper}
theorem runL_ok (hFP : FPok P FP) (IH : ∀ nt c x e Z, ex (comp P nt c) x = some (e, Z) → XOk P nt c x e Z) : ∀ (l pre : List Oper) {x Z : X}, ops.toList = pre ++ l → runL P FP ex (compL P nt ops l) x = some Z →
    LgLe x.lg Z.lg ∧ x.nx.nat ≤ Z.nx.nat ∧ Keeps Z.lg x.ob Z.ob ∧ ∀ so : Pos → Prop, (∀ id, tchd Z.lg id → so id) → ∀ (ro : Option Nat) (γ : Gh) (a : Act) (w : World), a.tmps.size = nt → G ro γ a w → Rep P (allS so) γ a w x →
    ∀ (n : Nat) (Q : Exit → Act → World → Prop), (∀ γ' a' w', CSt ro Z.lg γ a w γ' a' w' → Rep P (allS so) γ' a' w' Z → Q .normal a' w') → wpOpsIn (FW ro) n P ops Q (List.range' pre.length l.length) a w
  | [], pre, x, Z, ho, h => by
    cases h
    exact ⟨LgLe.refl _, Nat.le_refl _, Keeps.refl _ _, fun so hs ro γ a w hn g R n Q hQ => hQ γ a w (CSt.refl g) R⟩
  | o :: l, pre, x, Z, ho, h => by
    have h : (match runG P FP ex (compG P nt ops o) x with
      | some x => runL P FP ex (compL P nt ops l) x
      | none => none) = some Z := h
    split at h
    · rename_i y hy
      have hoi : ops[pre.length]? = some o := by
        rw [← Array.getElem?_toList, ho]; simp
      have I := runG_ok hFP IH hoi hy
      obtain ⟨h1, h2, hk, h3⟩ := runL_ok hFP IH l (pre ++ [o]) (by rw [ho]; simp) h
      refine ⟨I.lg.trans h1, Nat.le_trans I.nx h2, I.obf.trans h1 hk, fun so hs ro γ a w hn g R n Q hQ => ?_⟩
      rw [List.length_cons, List.range'_succ, wpOpsIn_cons]
      refine I.ok (allS so) (fun _ _ => trivial) (fun id hid => hs id (h1.t id hid)) ro γ a w hn g R n _ Q fun γ1 a1 w1 s1 R1 => ?_
      have := h3 so hs ro γ1 a1 w1 (s1.sz.trans hn) s1.g R1 n Q fun γ2 a2 w2 s2 R2 => hQ γ2 a2 w2 (CSt.trans h1 s1.code s2) R2
      rw [List.length_append, List.length_singleton] at this
      exact this
    · cases h
theorem XOk.reg (hFP : FPok P FP) (IH : ∀ nt c x e Z, ex (comp P nt c) x = some (e, Z) → XOk P nt c x e Z) {id : Nat} {x Z : X} {e : Ex} (h : e_reg P FP ex (compL P nt ops ops.toList) x = some (e, Z)) : XOk P nt (.region id ops false) x e Z := by
  unfold e_reg at h
  split at h
  · rename_i y hy
    cases h
    obtain ⟨h1, h2, hk, h3⟩ := runL_ok hFP IH ops.toList [] rfl hy
    refine ⟨h1, h2, hk, fun so hs ro γ a w hn g R n Q hQ => wpIn_region ?_⟩
    have := h3 so hs ro γ a w hn g R n Q hQ
    rw [List.range_eq_range']
    rw [Array.length_toList] at this
    exact this
  · cases h
end
end Go.Ev
namespace Go.Ev
open Go.RowKit (Below)
theorem slots_ok {nt : Nat} : ∀ {l : List Nat} {ps : List Pos}, slots nt l = some ps → l = ps.map Pos.ix ∧ ∀ p, p ∈ ps → p.ix < nt
  | [], ps, h => by cases h; exact ⟨rfl, fun p hp => by cases hp⟩
  | s :: l, ps, h => by
    simp only [slots] at h
    split at h
    · rename_i p ps' h1 h2
      cases h
      obtain ⟨h3, h4⟩ := slotN_ix h1
      obtain ⟨h5, h6⟩ := slots_ok h2
      refine ⟨by rw [List.map_cons, h3, ← h5], fun q hq => ?_⟩
      rcases List.mem_cons.1 hq with e | hq
      · rw [e, h3]; exact h4
      · exact h6 q hq
    · cases h
section
variable {P : Program} {FP : T RF} {ex : RC → X → Option (Ex × X)} {nt : Nat}
theorem enterLoop_ok {ro : Option Nat} {γ : Gh} {a : Act} {w : World} (g : G ro γ a w) (fn : FuncId) (ps : Array Tmp) (asg body : Code) :
    ∃ (l : Nat) (mk : List Deferred) (w0 : World) (r : Loop), (Instr.enterLoop fn a.tmps ps asg body ro).run P w = .ok (l, mk) (w0.alloc (.loop r)) ∧ l = w0.heap.size ∧ w.heap.size ≤ l ∧
      r.state = .ready ∧ r.pending = none ∧ r.tmps = a.tmps ∧ r.params = ps ∧ r.assign = asg ∧ r.body = body ∧
      (∀ id, Fr (fun j => j = id) γ γ w w0) ∧ G ro γ { a with defers := mk ++ a.defers } w0 ∧ ∀ r, mark r ∈ mk ++ a.defers → mark r ∈ a.defers ∨ w.heap.size ≤ r := by
  cases ro with
  | some l0 =>
    obtain ⟨r0, hr0⟩ := g.rd l0 rfl
    exact ⟨_, [], w, _, run_enterLoop_inner hr0 _ _ _ _ _, rfl, Nat.le_refl _, rfl, rfl, rfl, rfl, rfl, rfl, fun id => Fr.refl _ _ _, g, fun r hr => .inl hr⟩
  | none =>
    have key : ∀ id, Fr (fun j => j = id) γ γ w (w.alloc (.deferred (some []))) ∧ ∀ a' : Act, a'.defers = a.defers → G none γ a' (w.alloc (.deferred (some []))) := fun id =>
      same_all g id (by rw [size_alloc']; omega) (fun c hc _ => heap_alloc_lt w _ hc)
        (fun c x hx => by rw [shape_same (heap_alloc_lt w _ (shape_lt hx))]; exact hx)
        (fun c r hr => ⟨r, by rw [heap_alloc_lt w _ (Array.getElem?_eq_some_iff.1 hr).1]; exact hr⟩) ⟨rfl, rfl, rfl⟩ (frozen_alloc w _ (fun _ _ _ h => by cases h))
    refine ⟨_, [mark w.heap.size], w.alloc (.deferred (some [])), _, run_enterLoop_outer _ _ _ _ _, by rw [size_alloc'], by omega, rfl, rfl, rfl, rfl, rfl, rfl, fun id => (key id).1, ?_, fun r hr => ?_⟩
    · have g1 := (key .h).2 a rfl
      refine ⟨g1.ob, g1.inj, ?_, (fun l hl => by cases hl), g1.im, g1.gl⟩
      obtain ⟨ms, h1, h2, h3⟩ := g1.df
      obtain ⟨ms', h1', h2', h3'⟩ := g.df
      have hms : ∀ q, q ∈ ms → q ≠ w.heap.size := by
        intro q hq e
        have : mark q ∈ a.defers := by rw [h1]; exact mark_mem.2 hq
        rw [h1'] at this
        have := (h3' q (mark_mem.1 this)).1
        have := (Array.getElem?_eq_some_iff.1 this).1
        omega
      refine ⟨w.heap.size :: ms, by simp [h1], List.nodup_cons.2 ⟨fun h => hms _ h rfl, h2⟩, fun q hq => ?_⟩
      rcases List.mem_cons.1 hq with e | hq
      · subst e
        exact ⟨heap_alloc_self w _, fun id st hst e => by have := g.ob id st hst; omega⟩
      · exact h3 q hq
    · rcases List.mem_cons.1 hr with e | hr
      · right
        have : r = w.heap.size := by
          unfold mark at e
          cases e; rfl
        omega
      · exact .inl hr
theorem XOk.rf (hFP : FPok P FP) (IH : ∀ nt c x e Z, ex (comp P nt c) x = some (e, Z) → XOk P nt c x e Z) {f : Operand} {psT : Array Tmp} {asg body : Code} {rf : RX} {ps : List Pos} {x Z : X} {e : Ex} (hf : rx f = some rf) (hps : slots nt psT.toList = some ps)
    (h : e_rf FP ex rf ps nt asg body x = some (e, Z)) : XOk P nt (.rangeFunc f psT asg body) x e Z := by
  obtain ⟨sl, ob, nx, lg⟩ := x
  obtain ⟨hps1, hps2⟩ := slots_ok hps
  simp only [e_rf] at h
  split at h
  · rename_i f' first caps hv
    rw [T.setK_eq, Pos.succK_eq] at h
    split at h
    · rename_i sl2 ob2 nx2 lg2 hcall
      obtain ⟨lg1, h1, hl1, hw1⟩ := logW_ok hcall
      obtain ⟨v, ob', nx', lg', h2, C⟩ := callF_ok hFP IH h1
      cases h2
      have main : ∀ {tm : T D} {pp : List Pos} {nt' : Nat} {c1 c2 : Code} {st : LS} {j : Option Ex}, ob2.get nx = some (.lp tm pp nt' c1 c2 st j) → st ≠ .busy → j.getD .normal = e → Z = ⟨sl, T.set nx (.lp tm pp nt' c1 c2 .gone j) ob2, nx2, lg2⟩ → XOk P nt (.rangeFunc f psT asg body) ⟨sl, ob, nx, lg⟩ e Z := by
        intro tm pp nt' c1 c2 st j hob hst he hZ
        subst hZ
        have hhl := C.hl
        have hhx := C.hx
        rw [Pos.succ_nat] at hhx
        refine ⟨hl1.trans hhl, by show nx.nat ≤ nx2.nat; omega, (((Keeps.refl _ _).set hw1 _).trans hhl C.hk).set (hhl.w nx hw1) _, fun so hso ro γ a w hn g R n Q hQ => wpIn_rangeFunc fun fn _ => ?_⟩
        have hsn : so nx := hso nx (hhl.w nx hw1).tchd
        obtain ⟨l, mk, w0, r, he1, rfl, hle, hr1, hr2, hr3, hr4, hr5, hr6, F0, g0, hmk⟩ := enterLoop_ok (P := P) g fn psT asg body
        obtain ⟨F1, g1⟩ := fresh_move g0 nx (.loop r) (fun _ _ _ h => by cases h)
        have h0 := R.nx nx hsn (Nat.le_refl _)
        have U1 : Up γ (γ.push nx (w0.heap.size, 0)) w (w0.alloc (.loop r)) := (F0 nx).up.trans F1.up
        have F01 : Fr (fun j => j = nx) γ (γ.push nx (w0.heap.size, 0)) w (w0.alloc (.loop r)) := (F0 nx).trans F1
        have hcur : (γ.push nx (w0.heap.size, 0)).cur nx = 1 := by rw [γ.push_cur, h0]
        have hβ : (γ.push nx (w0.heap.size, 0)).β nx 0 = (w0.heap.size, 0) := by rw [← h0]; exact γ.push_β nx _
        obtain ⟨vx, vy, ev, hvx, hvy⟩ := DV_fn (opd_ok hf hv R fun _ _ => trivial)
        have hargs : DVL (γ.push nx (w0.heap.size, 0)) (w0.alloc (.loop r)) (first ++ (.yl nx :: caps)) (vx ++ #[Value.func (.yield w0.heap.size) #[] #[]] ++ vy).toList := by
          simp only [Array.toList_append, List.append_assoc]
          refine (DVL.mono U1 _ _ hvx).append ?_
          refine DVL.cons ?_ (DVL.mono U1 _ _ hvy)
          unfold DV
          exact ⟨by rw [hcur]; exact Nat.one_pos, by rw [hβ]⟩
        have hobs : ∀ id c, so id → (T.set nx (Ev.C.lp sl ps nt asg body .ready none) ob).get id = some c → HoldsO P (γ.push nx (w0.heap.size, 0)) (w0.alloc (.loop r)) id c :=
          others_hold (V := allS so) R g F01 fun _ => by
            refine ⟨hcur, r, by rw [hβ]; exact heap_alloc_self w0 _, by rw [hr1]; rfl, by rw [hr2]; rfl, fun s d hd => ?_, by rw [hr4]; exact hps1, fun p hp => by rw [hr3, hn]; exact hps2 p hp, by rw [hr3]; exact hn, hr5, hr6⟩
            obtain ⟨q1, q2⟩ := R.sl s d trivial hd
            rw [hr3]
            exact ⟨q1, DV.mono U1 _ _ q2⟩
        have hnx : ∀ id, so id → nx.succ.nat ≤ id.nat → (γ.push nx (w0.heap.size, 0)).cur id = 0 := by
          intro id hid hle
          rw [Pos.succ_nat] at hle
          have hne : id ≠ nx := by rintro rfl; omega
          rw [γ.push_cur_ne _ hne]
          exact R.nx id hid (by show nx.nat ≤ id.nat; omega)
        have G1 := g1 { a with defers := mk ++ a.defers } rfl
        obtain ⟨hc, hcalls⟩ := C.ok so hso _ _ _ G1.gh hargs hobs hnx
        refine ⟨w0.heap.size, mk, _, { target := .fn (.func f'.ix) vy, args := vx ++ #[.func (.yield w0.heap.size) #[] #[]] }, w0.alloc (.loop r), f'.ix, _, _, he1, ?_, fun _ _ => trivial, ?_, (fun h => by cases h), hcalls ro (n - 1) _ fun γ2 w2 u gh2 F2 _ ho2 hn2 => ?_⟩
        · simp only [resolve, rangeCall, ev]
          simp [Deferred.ofValue, Act.eval]
        · simp only [invoke]
          exact hc _
        · have G2 : G ro γ2 { a with defers := mk ++ a.defers } w2 := G1.of F2 rfl gh2.ob gh2.inj gh2.im
          have hcur2 : 0 < γ2.cur nx := Nat.lt_of_lt_of_le (by rw [hcur]; exact Nat.one_pos) (F2.up.cur nx)
          have hβ2 : (γ2.β nx 0).1 = w0.heap.size := by rw [F2.up.β nx 0 (by rw [hcur]; exact Nat.one_pos), hβ]
          obtain ⟨hc3, l3, hl3, hst3, hpd3, hsl3, hps3, hpb3, hnt3, ha3, hb3⟩ := ho2 nx _ hsn hob
          rw [hβ2] at hl3
          have hlt3 : w0.heap.size < w2.heap.size := (Array.getElem?_eq_some_iff.1 hl3).1
          have hnb : l3.state ≠ .busy := by
            rw [hst3]
            cases st <;> first | exact absurd rfl hst | (intro h; cases h)
          refine ⟨_, _, run_endLoop hl3 hnb, ?_⟩
          have LP := loop_put (l' := { l3 with state := .exhausted }) G2 hcur2 (by rw [hβ2]; exact hl3)
          rw [hβ2] at LP
          obtain ⟨F3, g3⟩ := LP
          have rep2 : Rep P (allS so) γ2 { a with defers := mk ++ a.defers } w2 ⟨sl, ob2, nx2, lg2⟩ :=
            ⟨fun s d hs hd => ⟨(R.sl s d hs hd).1, DV.mono F2.up _ _ (DV.mono U1 _ _ (R.sl s d hs hd).2)⟩, ho2, hn2, gh2.gl⟩
          have hwn : ∀ j, j = nx → wrtn lg2 j := fun j e => by rw [e]; exact hhl.w nx hw1
          have fin := hQ γ2 { a with defers := mk ++ a.defers } (w2.putObj w0.heap.size (.loop { l3 with state := .exhausted }))
            ⟨g3 _ rfl, ((F01.mono hwn).trans F2).trans (F3.mono hwn), rfl, hmk⟩
            ⟨fun s d hs hd => ⟨(rep2.sl s d hs hd).1, DV.mono F3.up _ _ (rep2.sl s d hs hd).2⟩, others_hold rep2 G2 F3 (fun _ => by
              refine ⟨hc3, { l3 with state := .exhausted }, by rw [hβ2]; exact World.putObj_heap_same hlt3, rfl, hpd3, fun s d hd => ⟨(hsl3 s d hd).1, DV.mono F3.up _ _ (hsl3 s d hd).2⟩, hps3, hpb3, hnt3, ha3, hb3⟩), rep2.nx, rep2.gl.up F3.up⟩
          generalize w2.putObj w0.heap.size (.loop { l3 with state := .exhausted }) = w4 at fin ⊢
          rw [hpd3]
          cases j with
          | none => subst he; exact fin
          | some e' =>
            cases e' with
            | normal => subst he; exact fin
            | ret => subst he; exact wpIn_ret fin
            | exit i => subst he; exact wpIn_exit fin
      split at h
      · cases h
      · rename_i tm pp nt' c1 c2 st j hne hob
        rw [T.setK_eq] at h
        split at h
        · cases h
          exact main hob (fun e => by subst e; exact hne rfl) rfl rfl
        · rename_i e'
          cases h
          exact main hob (fun e => by subst e; exact hne rfl) rfl rfl
      · cases h
    · cases h
  · cases h
end
end Go.Ev
namespace Go.Ev
open Go.RowKit (Below)
theorem vApart_ok {a b : Option Bool} (h : vApart a b = true) {x y : Bool} (ha : a = some x) (hb : b = some y) : x = false ∧ y = false := by
  subst ha hb
  cases x <;> cases y <;> first | exact ⟨rfl, rfl⟩ | cases h
theorem apart_e (b : T Bool) : apart .e b = true := rfl
theorem apart_e' (a : T Bool) : apart a .e = true := by cases a <;> rfl
theorem apart_n {l r l' r' : T Bool} {v v' : Option Bool} : apart (.n l v r) (.n l' v' r') = (bif vApart v v' then (bif apart l l' then apart r r' else false) else false) := rfl
theorem apart_ok : ∀ {a b : T Bool}, apart a b = true → ∀ (p : Pos) {x y : Bool}, a.get p = some x → b.get p = some y → x = false ∧ y = false
  | .e, b, _, p, x, y, ha, _ => by rw [T.get_e] at ha; cases ha
  | .n l v r, .e, _, p, x, y, _, hb => by rw [T.get_e] at hb; cases hb
  | .n l v r, .n l' v' r', h, p, x, y, ha, hb => by
    rw [apart_n] at h
    cases h1 : vApart v v' with
    | false => rw [h1] at h; cases h
    | true =>
      cases h2 : apart l l' with
      | false => rw [h1, h2] at h; cases h
      | true =>
        rw [h1, h2] at h
        cases p with
        | h => exact vApart_ok h1 ha hb
        | o p => exact apart_ok h2 p ha hb
        | i p => exact apart_ok h p ha hb
def vUnion (a b : Option Bool) : Option Bool :=
  match a, b with
  | none, b => b
  | some x, none => some x
  | some true, some _ => some true
  | some false, some y => some y
theorem vUnionK_eq {β : Type} (a b : Option Bool) (k : Option Bool → β) : vUnionK a b k = k (vUnion a b) := by
  cases a with
  | none => rfl
  | some x => cases b with
    | none => cases x <;> rfl
    | some y => cases x <;> rfl
theorem unionK_ok {β : Type} : ∀ (a b : T Bool) (k : T Bool → β), ∃ u, unionK a b k = k u ∧ ∀ p, u.get p = vUnion (a.get p) (b.get p)
  | .e, b, k => ⟨b, rfl, fun p => by rw [T.get_e]; rfl⟩
  | .n l v r, .e, k => ⟨_, rfl, fun p => by rw [T.get_e]; cases (T.n l v r).get p with
    | none => rfl
    | some x => cases x <;> rfl⟩
  | .n l v r, .n l' v' r', k => by
    have h0 : unionK (.n l v r) (.n l' v' r') k = unionK l l' fun l2 => unionK r r' fun r2 => vUnionK v v' fun v2 => k (.n l2 v2 r2) := rfl
    obtain ⟨u1, h1, h2⟩ := unionK_ok l l' fun l2 => unionK r r' fun r2 => vUnionK v v' fun v2 => k (.n l2 v2 r2)
    obtain ⟨u2, h3, h4⟩ := unionK_ok r r' fun r2 => vUnionK v v' fun v2 => k (.n u1 v2 r2)
    refine ⟨.n u1 (vUnion v v') u2, by rw [h0, h1, h3, vUnionK_eq], fun p => ?_⟩
    cases p with
    | h => rfl
    | o p => exact h2 p
    | i p => exact h4 p
theorem mergeK_ok {β : Type} (lg : Option (T Bool)) (L : T Bool) (k : Option (T Bool) → β) : ∃ lg', mergeK lg L k = k lg' ∧ LgLe lg lg' ∧ (∀ id, tchd (some L) id → tchd lg' id) ∧ ∀ id, wrtn (some L) id → wrtn lg' id := by
  cases lg with
  | none => exact ⟨none, rfl, LgLe.refl _, fun _ _ => trivial, fun _ _ => trivial⟩
  | some A =>
    obtain ⟨u, h1, h2⟩ := unionK_ok A L fun L => k (some L)
    refine ⟨some u, h1, ⟨by simp, fun id ⟨b, hb⟩ => ?_, fun id hb => ?_⟩, fun id ⟨b, hb⟩ => ?_, fun id hb => ?_⟩
    · show ∃ b, u.get id = some b
      rw [h2, hb]
      cases hL : L.get id with
      | none => cases b <;> exact ⟨_, rfl⟩
      | some y => cases b <;> exact ⟨_, rfl⟩
    · show u.get id = some true
      have hb : A.get id = some true := hb
      rw [h2, hb]
      cases L.get id <;> rfl
    · show ∃ b, u.get id = some b
      rw [h2, hb]
      cases A.get id with
      | none => exact ⟨_, rfl⟩
      | some y => cases y <;> exact ⟨_, rfl⟩
    · show u.get id = some true
      have hb : L.get id = some true := hb
      rw [h2, hb]
      cases A.get id with
      | none => rfl
      | some y => cases y <;> rfl
theorem accOk_ok {m : Nat} {L : T Bool} : ∀ {acc : List (Nat × T Bool)}, accOk m L acc = true → ∀ i A, (i, A) ∈ acc → bitOf m i = true ∨ apart A L = true
  | [], _, i, A, h => by cases h
  | (j, B) :: acc, h, i, A, hm => by
    have h : (bif bitOf m j then accOk m L acc else bif apart B L then accOk m L acc else false) = true := h
    cases h1 : bitOf m j with
    | true =>
      rw [h1] at h
      rcases List.mem_cons.1 hm with e | hm
      · cases e; exact .inl h1
      · exact accOk_ok h i A hm
    | false =>
      cases h2 : apart B L with
      | false => rw [h1, h2] at h; cases h
      | true =>
        rw [h1, h2] at h
        rcases List.mem_cons.1 hm with e | hm
        · cases e; exact .inr h2
        · exact accOk_ok h i A hm
theorem nthN_tl (ms : List Nat) (j : Nat) : nthN (tlN ms) j = nthN ms (j + 1) := by
  cases ms with
  | nil => cases j <;> rfl
  | cons x l => rfl
section
variable {P : Program} {FP : T RF} {ex : RC → X → Option (Ex × X)} {nt : Nat} {ops : Array Oper} {o : Oper}
def X.at (x : X) (lg : Option (T Bool)) : X := ⟨x.sl, x.ob, x.nx, lg⟩
def opNames (P : Program) (nt : Nat) (ops : Array Oper) (i : Nat) : List Pos :=
  match ops[i]? with
  | some o => (compG P nt ops o).ss
  | none => []
structure DRun (P : Program) (nt : Nat) (ops : Array Oper) (M : List Nat) (p : Nat) (acc : List (Nat × T Bool)) (x Z : X) (xs : Nat → X) (Ls : Nat → T Bool) : Prop where
  b : (xs p).sl = x.sl ∧ (xs p).ob = x.ob ∧ (xs p).nx = x.nx
  e : (xs ops.size).sl = Z.sl ∧ (xs ops.size).ob = Z.ob ∧ (xs ops.size).nx = Z.nx
  ok : ∀ i, p ≤ i → i < ops.size → IOk P nt ops i (opNames P nt ops i) ((xs i).at (some .e)) ((xs (i + 1)).at (some (Ls i)))
  lg : LgLe x.lg Z.lg
  t : ∀ i, p ≤ i → i < ops.size → ∀ id, tchd (some (Ls i)) id → tchd Z.lg id
  w : ∀ i, p ≤ i → i < ops.size → ∀ id, wrtn (some (Ls i)) id → wrtn Z.lg id
  ac : ∀ j, p ≤ j → j < ops.size → ∀ i A, (i, A) ∈ acc → bitOf (nthN M j) i = true ∨ apart A (Ls j) = true
  pr : ∀ i j, p ≤ i → i < j → j < ops.size → bitOf (nthN M j) i = true ∨ apart (Ls i) (Ls j) = true
theorem runD_ok (hFP : FPok P FP) (IH : ∀ nt c x e Z, ex (comp P nt c) x = some (e, Z) → XOk P nt c x e Z) {M : List Nat} : ∀ (l pre : List Oper) {ms : List Nat} {acc : List (Nat × T Bool)} {x Z : X}, ops.toList = pre ++ l → (∀ j, nthN ms j = nthN M (pre.length + j)) →
    runD P FP ex (compL P nt ops l) ms pre.length acc x = some Z → ∃ xs Ls, DRun P nt ops M pre.length acc x Z xs Ls
  | [], pre, ms, acc, x, Z, ho, hms, h => by
    cases h
    have hsz : ops.size = pre.length := by rw [← Array.length_toList, ho]; simp
    exact ⟨fun _ => x, fun _ => .e, ⟨rfl, rfl, rfl⟩, ⟨rfl, rfl, rfl⟩, fun i h1 h2 => by omega, LgLe.refl _, fun i h1 h2 => by omega, fun i h1 h2 => by omega, fun i h1 h2 => by omega, fun i j h1 h2 h3 => by omega⟩
  | o :: l, pre, ms, acc, x, Z, ho, hms, h => by
    obtain ⟨sl, ob, nx, lg⟩ := x
    have hp : ops[pre.length]? = some o := by
      rw [← Array.getElem?_toList, ho]; simp
    have hlt : pre.length < ops.size := (Array.getElem?_eq_some_iff.1 hp).1
    have hn : opNames P nt ops pre.length = (compG P nt ops o).ss := by unfold opNames; rw [hp]
    have hlen : (pre ++ [o]).length = pre.length + 1 := by simp
    have step : ∀ {sl1 : T D} {ob1 : T C} {nx1 : Pos} {L : T Bool} {lg1 : Option (T Bool)} {acc1 : List (Nat × T Bool)}, IOk P nt ops pre.length (compG P nt ops o).ss ⟨sl, ob, nx, some .e⟩ ⟨sl1, ob1, nx1, some L⟩ →
        LgLe lg lg1 → (∀ id, tchd (some L) id → tchd lg1 id) → (∀ id, wrtn (some L) id → wrtn lg1 id) → (∀ i A, (i, A) ∈ acc → (i, A) ∈ acc1 ∧ (bitOf (nthN M pre.length) i = true ∨ apart A L = true)) → (L = .e ∨ (pre.length, L) ∈ acc1) →
        runD P FP ex (compL P nt ops l) (tlN ms) (Nat.succ pre.length) acc1 ⟨sl1, ob1, nx1, lg1⟩ = some Z → ∃ xs Ls, DRun P nt ops M pre.length acc ⟨sl, ob, nx, lg⟩ Z xs Ls := by
      intro sl1 ob1 nx1 L lg1 acc1 I hl ht hw hacc hL hrun
      obtain ⟨xs, Ls, R⟩ := runD_ok hFP IH (M := M) l (pre ++ [o]) (ms := tlN ms) (acc := acc1) (x := ⟨sl1, ob1, nx1, lg1⟩) (by rw [ho]; simp) (fun j => by rw [nthN_tl, hms, hlen]; congr 1; omega) (by rw [hlen]; exact hrun)
      rw [hlen] at R
      have hx1 : (xs (pre.length + 1)).at (some L) = ⟨sl1, ob1, nx1, some L⟩ := by
        obtain ⟨b1, b2, b3⟩ := R.b
        unfold X.at
        rw [b1, b2, b3]
      refine ⟨fun i => if i = pre.length then ⟨sl, ob, nx, lg⟩ else xs i, fun i => if i = pre.length then L else Ls i, ⟨by simp, by simp, by simp⟩, ?_, fun i h1 h2 => ?_, hl.trans R.lg, fun i h1 h2 id => ?_, fun i h1 h2 id => ?_, fun j h1 h2 i A hA => ?_, fun i j h1 h2 h3 => ?_⟩
      · rw [if_neg (by omega)]; exact R.e
      · by_cases e : i = pre.length
        · subst e
          rw [if_pos rfl, if_pos rfl, if_neg (by omega), hx1, hn]
          exact I
        · rw [if_neg e, if_neg e, if_neg (by omega)]
          exact R.ok i (by omega) h2
      · by_cases e : i = pre.length
        · rw [if_pos e]; exact fun h => R.lg.t id (ht id h)
        · rw [if_neg e]; exact R.t i (by omega) h2 id
      · by_cases e : i = pre.length
        · rw [if_pos e]; exact fun h => R.lg.w id (hw id h)
        · rw [if_neg e]; exact R.w i (by omega) h2 id
      · by_cases e : j = pre.length
        · rw [if_pos e, e]; exact (hacc i A hA).2
        · rw [if_neg e]; exact R.ac j (by omega) h2 i A (hacc i A hA).1
      · rw [if_neg (show j ≠ pre.length by omega)]
        by_cases e : i = pre.length
        · rw [if_pos e, e]
          rcases hL with rfl | hL
          · exact .inr (apart_e _)
          · exact R.ac j (by omega) h3 _ _ hL
        · rw [if_neg e]; exact R.pr i j (by omega) h2 h3
    have h : (match runG P FP ex (compG P nt ops o) ⟨sl, ob, nx, some .e⟩ with
      | some ⟨sl, ob, nx, some L⟩ => match L with
        | .e => runD P FP ex (compL P nt ops l) (tlN ms) (Nat.succ pre.length) acc ⟨sl, ob, nx, lg⟩
        | .n l' v r => bif accOk (nthN ms 0) (.n l' v r) acc then mergeK lg (.n l' v r) fun lg => runD P FP ex (compL P nt ops l) (tlN ms) (Nat.succ pre.length) ((pre.length, .n l' v r) :: acc) ⟨sl, ob, nx, lg⟩ else none
      | _ => none) = some Z := h
    split at h
    · rename_i sl1 ob1 nx1 L hg
      have I := runG_ok hFP IH hp hg
      split at h
      · refine step I (LgLe.refl _) (fun id ⟨b, hb⟩ => ?_) (fun id hb => ?_) (fun i A hA => ⟨hA, .inr (apart_e' _)⟩) (.inl rfl) h
        · rw [T.get_e] at hb; cases hb
        · have hb : (T.e : T Bool).get id = some true := hb
          rw [T.get_e] at hb; cases hb
      · rename_i l' v r
        cases ha : accOk (nthN ms 0) (.n l' v r) acc with
        | false => rw [ha] at h; cases h
        | true =>
          rw [ha] at h
          simp only [cond_true] at h
          obtain ⟨lg1, h1, h2, h3, h4⟩ := mergeK_ok lg (.n l' v r) fun lg => runD P FP ex (compL P nt ops l) (tlN ms) (Nat.succ pre.length) ((pre.length, .n l' v r) :: acc) ⟨sl1, ob1, nx1, lg⟩
          rw [h1] at h
          exact step I h2 h3 h4 (fun i A hA => ⟨List.mem_cons_of_mem _ hA, by
            have := accOk_ok ha i A hA
            rw [hms, Nat.add_zero] at this
            exact this⟩) (.inr List.mem_cons_self) h
    · cases h
end
end Go.Ev