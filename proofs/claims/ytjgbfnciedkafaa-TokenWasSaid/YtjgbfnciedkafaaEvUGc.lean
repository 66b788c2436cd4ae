import Derived.Test.YtjgbfnciedkafaaEvUG7
import Derived.Test.YtjgbfnciedkafaaEvUJt
set_option linter.all false
namespace Go.Ev
open Go.Proofs
set_option maxRecDepth 100000
def i14 : Pos := .o (.i (.i .h))
structure AskOk (B : Bk) (g : Pos) (first caps : List D) (ak : Mo → Int) : Prop where
  p1 : PuL first
  p2 : PuL caps
  ok : ∀ (Q : List Ln) (i : Nat), i ≤ 8 → PureF Try.prog g.ix (first ++ ([.ag (moD (moR B.box B.coin Q i))] ++ caps)) (.i .i64 (ak (moR B.box B.coin Q i)))
theorem j_truths {B : Bk} {x1 x2 x3 x4 x5 : Option Ev.C} (hk : KpO 6 (trL x1 x2 x3 x4 x5 none none none none none none none none none none none none none none none)) : CallOk Try.prog p120.ix [.ag (wkQ B ++ [.mp .h])] (trL x1 x2 x3 x4 x5 none none none none none none none none none none none none none none none) i6 none (.fn p136 [] [.pt i6 0 0]) (trL x1 x2 x3 x4 x5 (some (wkCl B)) none none none none none none none none none none none none none none) i7 none := by
  refine CallOk.run fn119 (by simp) (by simp [i6, i7, Pos.nat]) ?_
  unfold wkQ trL
  conv => whnf
  repeat' first | ((first | with_reducible apply WB.tt | with_reducible apply WB.ff | refine Rn.seq ?_ | refine Rn.reg ?_ | refine Rn.drw ?_ | refine Rn.blk ?_ | refine Rn.skip ?_ | refine Rn.ret ?_ | refine Rn.exit ?_ | refine Rn.cond rfl ?_ | refine And.intro (InR.i64 (by omega) (by omega)) ?_ | refine And.intro (show _ ≠ (0 : Int) by omega) ?_ | refine WIx.intsN (by omega) ?_ | refine WIx.rowsN (by omega) ?_) <;> conv => whnf)
  refine ⟨.inr rfl, ⟨_, rfl, .fn .nil (.cons (.kpt (by simp [i6, i7, Pos.nat])) .nil)⟩, Shr.kp (T.le_refl _) fun id c h => ?_⟩
  by_cases e : id = i6
  · subst e
    have h : some (wkCl B) = some c := h
    cases h
    exact ⟨by simp [i6, i7, Pos.nat], wkCl_kp B (by simp [i7, Pos.nat])⟩
  · have h2 : (trL x1 x2 x3 x4 x5 none none none none none none none none none none none none none none none).get id = some c := by
      have := T.get_set_ne e (wkCl B) (trL x1 x2 x3 x4 x5 none none none none none none none none none none none none none none none)
      rw [← this]; exact h
    obtain ⟨q1, q2⟩ := hk id c h2
    exact ⟨by simp [i7, Pos.nat]; omega, q2.up (by simp [i7, Pos.nat])⟩
end Go.Ev

namespace Go.Ev
open Go.Proofs
set_option maxRecDepth 100000
theorem sE_fault {n coin box : Int} {ls : List Ln} {cs : List Ct} {t : Bool} (h : sE n coin box ls cs t = 0) : faultT n coin box ls cs = 0 ∧ t = true := by
  unfold sE at h
  by_cases hf : faultT n coin box ls cs ≠ 0
  · rw [if_pos hf] at h; exact absurd h hf
  · rw [if_neg hf] at h
    refine ⟨by omega, ?_⟩
    cases t with
    | true => rfl
    | false => cases h
theorem start_at {n coin box : Int} {ls : List Ln} {cs : List Ct} {M : Memo} (Hs : CallOk Try.prog p85.ix [.ag (wkQ (B5 n coin box ls cs)), .b true] .e .h none (.tp [.ag (wkQ (B5 n coin box ls cs) ++ [.mp .h]), .i .i64 0]) (mapP M) (.o .h) none) {ob : T C} {nx : Pos} {lg : Option (T Bool)} : CallOk Try.prog p85.ix [.ag (wkQ (B5 n coin box ls cs)), .b true] ob nx lg (.tp [.ag (wkQ (B5 n coin box ls cs) ++ [.mp nx]), .i .i64 0]) (T.set nx (.map (mapL M)) ob) nx.succ (lgW lg nx) :=
  CallOk.newG Hs rfl (mapL_pu M) (by simp [PuL, Pu, wkQ_pu]) (fun γ γ' w => .tp (.cons (.ag (.app (.pu psh1_im (wkQ_pu _)) rfl (.cons .mpO .nil))) (.cons (.pu psh1_im trivial) .nil)))
end Go.Ev

namespace Go.Ev
open Go.Proofs
set_option maxRecDepth 100000
theorem Fz.whole {B : Pos → Prop} {ob : T C} {id : Pos} {z st : Nat} {cs : List Cell} {cur : Nat} {es : List (List D)} {n : Nat} (hB : ¬ B id) (h : ob.get id = some (.cells false cs cur)) (hn : n = es.length) (hz : ∀ r ∈ es, r.length = z) (hc : cs = es.flatten.map fun d => Cell.o d st) (hp : PuE es) : Fz B ob (.sl id 0 n st z) (.lst z es) := by
  subst hc
  refine .sl hB h hn.symm hz (fun k d hk => ⟨.o d st, ?_, ?_, rfl⟩) (FzE.of hp)
  · rw [List.drop_zero, List.getElem?_map, hk]; rfl
  · show Nat.ble st st = true
    exact Nat.ble_eq_true_of_le (Nat.le_refl _)
end Go.Ev

namespace Go.Ev
open Go.Proofs
set_option maxRecDepth 100000
end Go.Ev

namespace Go.Ev
open Go.Proofs
set_option maxRecDepth 100000
deriving instance DecidableEq for Ln
def lnK (l : Ln) : D := .ag (lnD l)
def lnLK : List LK := [.i .i64, .i .i64, .i .i64]
theorem ln_key : KeyOk lnLK lnK lnWf := ⟨fun a b ha hb => by
  have hk : kEq .i64 .i64 = true := rfl
  obtain ⟨a1, a2, a3⟩ := a
  obtain ⟨b1, b2, b3⟩ := b
  obtain ⟨h1, h2, h3⟩ := ha
  obtain ⟨k1, k2, k3⟩ := hb
  simp only at h1 h2 h3 k1 k2 k3
  simp only [lnLK, lnK, lnD, eqR, eqL, eqC, hk, h1, h2, h3, k1, k2, k3, Bool.and_self, cond_true, Option.some.injEq, eqB_eq, Bool.and_true]
  rw [Bool.eq_iff_iff]
  simp [Ln.mk.injEq]⟩
abbrev Met := List (Ln × Bool)
def metL (m : Met) : List (D × D) := m.map (enD lnK boD)
theorem metL_kp {n : Nat} {m : Met} : KpC n (.map (metL m)) := fun e he => by
  obtain ⟨p, _, rfl⟩ := List.mem_map.1 he
  simp [enD, lnK, lnD, boD, Kp, KpL, Pu]
def lsD (m : Mo) : List D := [.i .i64 m.last.k, .i .i64 m.last.c, .i .i64 m.last.t]
theorem readLast {β : Type} (F : Nat → Mo) {q : Nat} (hq : q < 9) (k : List D → Option β) : readK 0 3 (dropC (0 + q * 14 + 11) ((mo126 F).map fun d => Cell.o d 0)) k = k (lsD (F q)) := by
  rw [dropC_eq]
  rcases nineT hq with rfl | rfl | rfl | rfl | rfl | rfl | rfl | rfl | rfl <;> rfl
theorem wSt.ldLast {sl : T D} {ob : T Ev.C} {nx : Pos} {lg : Option (T Bool)} {K : X → Prop} {d id : Pos} {cs : List Cell} {F : Nat → Mo} {q : Nat} {x : RX} (hx : opd sl x = some (.pt id (0 + q * 14 + 11) 0)) (ho : ob.get id = some (.cells false cs 1)) (hcs : cs = (mo126 F).map fun d => Cell.o d 0) (hq : q < 9) (h : lRK lg id fun lg => wOut sl ob nx lg d K (.ag (lsD (F q)))) : wSt (step (.ldn d x 3) sl ob nx lg) K := by
  subst hcs
  obtain ⟨l1, e1, h⟩ := lRK_ex h
  obtain ⟨h2, h3⟩ := wOut_ok h
  refine wSt.ok ?_ h3
  show s_ldn d x 3 sl ob nx lg = _
  unfold s_ldn
  rw [hx]
  simp only [ho, readLast F hq, e1]
  exact h2
def wsS : T D := (.n (.n (.n .e (some (.pt (.i .h) 0 0)) (.n .e (some (.fn p136 [] [.pt i6 0 0])) .e)) none (.n .e (some (.pt (.i (.o .h)) 0 0)) .e)) none (.n .e (some (.pt (.o .h) 0 0)) .e))
noncomputable def wsM (B : Bk) (line : Nat) : Tns Met where
  o := fun i s => match i with
    | 2 => some (wkCl B)
    | 3 => some (.cells false [.o (.i .i64 (line : Int)) 0] 1)
    | 4 => some (.map (metL s))
    | 5 => some (.cells false [.o (.mp (.o (.o .h))) 0] 1)
    | 7 => some (.lp wsS [p13] 36 (rfA (bodyC Try.f91) 0) (rfB (bodyC Try.f91) 0) .ready none)
    | 11 => some .hole
    | _ => none
theorem wsS_kp : ∀ s d, wsS.get s = some d → Kp 11 d := by
  show TAll (fun _ d => Kp 11 d) wsS
  unfold wsS
  repeat' first | exact TAll.e | refine TAll.some ?_ ?_ ?_ | refine TAll.none ?_ ?_
  all_goals simp [Kp, KpL, i6, Pos.nat]
theorem ws_kp (B : Bk) (line : Nat) (M : Memo) (F : Nat → Mo) (s : Met) : KpO 12 ((wsM B line).ob B M F s) := by
  show TAll (fun id c => id.nat < 12 ∧ KpC 12 c) _
  unfold Tns.ob trL wsM
  repeat' first | exact TAll.e | refine TAll.some ?_ ?_ ?_ | refine TAll.none ?_ ?_
  all_goals refine ⟨by simp [Pos.nat], ?_⟩
  all_goals first
    | exact mapL_kp
    | exact metL_kp
    | exact fun s d h => (wsS_kp s d h).up (by omega)
    | exact puC (kp_mo126 _ _)
    | exact wkCl_kp B (by omega)
    | trivial
    | (refine KpL.all ?_; simp [KpL, Kp, Cell.d, Pu, rdF, i6, i7, i8, i9, i10, Pos.nat])
def wsI (line : Nat) (h : List (List Ln)) (s : Met) : Prop := (∀ e ∈ s, lnWf e.1 ∧ e.2 = true) ∧ ∀ l, (l, true) ∈ s ↔ ∃ X ∈ h, X.getD line default = l
def wsR (line : Nat) (s : Met) (X : List Ln) (s' : Met) (g : Bool) : Prop := g = true ∧ (∀ e ∈ s', e = (X.getD line default, true) ∨ e ∈ s) ∧ (X.getD line default, true) ∈ s' ∧ ∀ e ∈ s, e.1 = X.getD line default ∨ e ∈ s'
theorem ws_wf {B : Bk} (V : VB B) {X : List Ln} (h : X ∈ exT B B.ls.length []) {i : Nat} (hi : i < B.ls.length) : lnWf (X.getD i default) := by
  have hX := mem_exT.1 h
  have hl : X.length = B.ls.length := by have := hX.len; simpa using this
  obtain ⟨h1, _⟩ := hX.st i (Nat.zero_le _) (by omega)
  obtain ⟨hk, hc, ht⟩ := V.rd hi h1
  exact ⟨wf_small (by omega) (by omega), wf_small (by omega) (by omega), wf_small (by omega) (by omega)⟩
set_option maxHeartbeats 1000000 in
theorem ws_ok {B : Bk} (V : VB B) {line : Nat} (hl : line < B.ls.length) : TnsOk (wsM B line) B (wsI line) (wsR line) := by
  have hL := V.len
  refine ⟨fun M F s => ws_kp B line M F s, ?_, ?_⟩
  · rintro h s X s' hpre ⟨hI1, hI2⟩ ⟨_, r1, r2, r3⟩
    have hXe : X ∈ exT B B.ls.length [] := hpre.subset (show X ∈ h ++ [X] by simp)
    refine ⟨fun e he => ?_, fun l => ?_⟩
    · rcases r1 e he with rfl | he
      · exact ⟨ws_wf V hXe hl, rfl⟩
      · exact hI1 e he
    · constructor
      · intro hm
        rcases r1 _ hm with h1 | h1
        · exact ⟨X, by simp, (Prod.mk.inj h1).1.symm⟩
        · obtain ⟨Y, hY, e⟩ := (hI2 l).1 h1
          exact ⟨Y, by simp [hY], e⟩
      · rintro ⟨Y, hY, rfl⟩
        rcases List.mem_append.1 hY with hY | hY
        · rcases r3 _ ((hI2 _).2 ⟨Y, hY, rfl⟩) with h1 | h1
          · have h1 : Y.getD line default = X.getD line default := h1
            rw [h1]; exact r2
          · exact h1
        · rw [List.mem_singleton.1 hY]; exact r2
  · rintro h s ⟨hI1, hI2⟩ X hpre M hM
    have hXe : X ∈ exT B B.ls.length [] := hpre.subset (show X ∈ h ++ [X] by simp)
    have hXl : X.length = B.ls.length := by have := (mem_exT.1 hXe).len; simpa using this
    have hmo : moF B.box B.coin X X.length (line + 1) = moR B.box B.coin X (line + 1) := moF_le (by omega)
    have hlast : lsD (moR B.box B.coin X (line + 1)) = lnD (X.getD line default) := rfl
    have hwf := ws_wf V hXe hl
    generalize hx : X.getD line default = x at hlast hwf
    generalize hF : moF B.box B.coin X X.length = F at hmo ⊢
    refine RndOk.runE (sl0 := wsS) rfl rc91a0_ok rc91b0_ok ⟨_, rfl, ?_⟩
    unfold Tns.ob trL wsM wsS
    conv => whnf
    repeat' first | ((first | with_reducible apply WB.tt | with_reducible apply WB.ff | refine Rn.seq ?_ | refine Rn.reg ?_ | refine Rn.drw ?_ | refine Rn.blk ?_ | refine Rn.skip ?_ | refine Rn.ret ?_ | refine Rn.exit ?_ | refine Rn.cond rfl ?_ | refine And.intro (InR.i64 (by omega) (by omega)) ?_ | refine And.intro (show _ ≠ (0 : Int) by omega) ?_ | refine WIx.intsN (by omega) ?_ | refine WIx.rowsN (by omega) ?_) <;> conv => whnf)
    refine ⟨rfl, rfl, _, _, _, _, _, _, rfl, ?_⟩
    conv => whnf
    repeat' first | ((first | with_reducible apply WB.tt | with_reducible apply WB.ff | refine Rn.seq ?_ | refine Rn.reg ?_ | refine Rn.drw ?_ | refine Rn.blk ?_ | refine Rn.skip ?_ | refine Rn.ret ?_ | refine Rn.exit ?_ | refine Rn.cond rfl ?_ | refine And.intro (InR.i64 (by omega) (by omega)) ?_ | refine And.intro (show _ ≠ (0 : Int) by omega) ?_ | refine WIx.intsN (by omega) ?_ | refine WIx.rowsN (by omega) ?_) <;> conv => whnf)
    refine WSt.ixaN (m := line + 1) rfl rfl (by omega) (by omega) ?_; conv => whnf
    refine wSt.ldLast (F := F) (q := line + 1) (by rfl) (by rfl) (by rfl) (by omega) ?_
    rw [hmo, hlast]
    conv => whnf
    repeat' first | ((first | with_reducible apply WB.tt | with_reducible apply WB.ff | refine Rn.seq ?_ | refine Rn.reg ?_ | refine Rn.drw ?_ | refine Rn.blk ?_ | refine Rn.skip ?_ | refine Rn.ret ?_ | refine Rn.exit ?_ | refine Rn.cond rfl ?_ | refine And.intro (InR.i64 (by omega) (by omega)) ?_ | refine And.intro (show _ ≠ (0 : Int) by omega) ?_ | refine WIx.intsN (by omega) ?_ | refine WIx.rowsN (by omega) ?_) <;> conv => whnf)
    refine WSt.mupG ln_key (w := x) (n := true) (M := s) (by rfl) (by rfl) (by rfl) (by rfl) hwf (fun e he => (hI1 e he).1) ?_
    intro s' q1 q2 q3
    conv => whnf
    repeat' first | ((first | with_reducible apply WB.tt | with_reducible apply WB.ff | refine Rn.seq ?_ | refine Rn.reg ?_ | refine Rn.drw ?_ | refine Rn.blk ?_ | refine Rn.skip ?_ | refine Rn.ret ?_ | refine Rn.exit ?_ | refine Rn.cond rfl ?_ | refine And.intro (InR.i64 (by omega) (by omega)) ?_ | refine And.intro (show _ ≠ (0 : Int) by omega) ?_ | refine WIx.intsN (by omega) ?_ | refine WIx.rowsN (by omega) ?_) <;> conv => whnf)
    refine ⟨_, _, _, _, _, _, _, (wsM B line).ob B M F s', rfl, rfl, ?_, s', ⟨rfl, by rw [hx]; exact q1, by rw [hx]; exact q2, by rw [hx]; exact q3⟩, rfl⟩
    refine Shr.kp ?_ (ws_kp B line M F s')
    unfold Tns.ob trL wsM wsS
    repeat' first | exact T.le_e _ | refine T.le_some ?_ rfl ?_ | refine T.le_same ?_ ?_ | refine T.le_none ?_ ?_
theorem ws_fld {B : Bk} (V : VB B) {line : Nat} (hl : line < B.ls.length) : ∀ (L h : List (List Ln)) {s s' : Met} {g : Bool}, h ++ L = exT B B.ls.length [] → wsI line h s → Fld (wsR line) L s s' g → wsI line (exT B B.ls.length []) s' ∧ g = true
  | [], h, s, s', g, he, hI, hF => by
    cases hF
    rw [List.append_nil] at he
    rw [← he]
    exact ⟨hI, rfl⟩
  | X :: L, h, s, s', g, he, hI, hF => by
    cases hF with
    | stop k => cases k.1
    | go k k2 =>
      have he2 : (h ++ [X]) ++ L = exT B B.ls.length [] := by rw [← he]; simp
      refine ws_fld V hl L (h ++ [X]) he2 ?_ k2
      exact (ws_ok V hl).inv h s X _ ⟨L, he2⟩ hI k
end Go.Ev

namespace Go.Ev
open Go.RowKit (Below Grown)
section
variable {γ γ' : Gh} {w : World} {n : Nat}
theorem HoldsO.kp2 {P : Program} (him : ∀ b, γ.im b → γ'.im b) (hc : ∀ id : Pos, id.nat < n → γ'.cur id = γ.cur id ∧ γ'.β id = γ.β id) {id : Pos} (hid : γ'.cur id = γ.cur id ∧ γ'.β id = γ.β id) : ∀ {c : C}, KpC n c → HoldsO P γ w id c → HoldsO P γ' w id c
  | .cells ro cs cur, k, H => by
    obtain ⟨h0, h1, h2⟩ := H
    obtain ⟨e1, e2⟩ := hid
    refine ⟨h0, e1.trans h1, fun st hst => ?_⟩
    obtain ⟨vs, e, fr, h3, h4, h5⟩ := h2 st hst
    rw [e2]
    exact ⟨vs, e, fr, h3, h4, fun p c hp hh hd => by
      obtain ⟨u, h6, h7, h8⟩ := h5 p c hp hh hd
      exact ⟨u, h6, DV.kp him hc _ _ (k c (List.mem_of_getElem? hp)) h7, h8⟩⟩
  | .map es, k, H => by
    obtain ⟨h1, en, cl, h2, h3, h4⟩ := H
    obtain ⟨e1, e2⟩ := hid
    refine ⟨e1.trans h1, en, cl, by rw [e2]; exact h2, h3, fun i e f he hf => ?_⟩
    obtain ⟨k1, k2⟩ := k e (List.mem_of_getElem? he)
    exact ⟨DV.kp him hc _ _ k1 (h4 i e f he hf).1, DV.kp him hc _ _ k2 (h4 i e f he hf).2⟩
  | .lp sl ps nt asg body st jump, k, H => by
    obtain ⟨h1, l, h2, h3, h4, h5, h6⟩ := H
    obtain ⟨e1, e2⟩ := hid
    refine ⟨e1.trans h1, l, by rw [e2]; exact h2, h3, h4, fun s d hs => ⟨(h5 s d hs).1, DV.kp him hc _ _ (k s d hs) (h5 s d hs).2⟩, h6⟩
  | .hole, _, H => (hid).1.trans H
end
structure Fill2 (nx a : Pos) (ob1 ob2 : T C) : Prop where
  ok : ∃ (r q : Pos) (ro : Bool) (n st z k m st0 cur : Nat) (ds : List D), r.nat < nx.nat ∧ q.nat < r.nat ∧ ob1.get r = some .hole ∧ PuL ds ∧
    ob1.get a = some (.cells false (ds.map fun d => Cell.o d st0) cur) ∧ ob1.get q = some (.cells ro [.o (.sl a 0 n st z) k] m) ∧
    ∀ i ci, ob2.get i = some ci → (i = r ∧ ci = .cells false (ds.map fun d => Cell.o d st0) cur) ∨ (i = q ∧ ci = .cells ro [.o (.sl r 0 n st z) k] m) ∨ (i ≠ r ∧ i.nat < nx.nat ∧ ob1.get i = some ci ∧ KpC r.nat ci)
open Classical in
theorem RndOk.fill2 {P : Program} {id : Pos} {ds : List D} {ob ob1 ob2 : T C} {nx nx1 a : Pos} {v : D} (h : RndOk P id ds ob nx none v ob1 nx1 none) (hv : Pu v) (ha : nx.nat ≤ a.nat) (F : Fill2 nx a ob1 ob2) : RndOk P id ds ob nx none v ob2 nx none := by
  obtain ⟨r, q, ro, n, st, z, k, m, st0, cu, dz, hr, hq, hole, hpu, hn, hqq, hrest⟩ := F.ok
  refine ⟨LgLe.refl _, Nat.le_refl _, fun id hn => absurd trivial hn, fun so hs γ args w gh hargs hob hnx hcur => ?_⟩
  have hall : ∀ id, so id := fun id => hs id trivial
  obtain ⟨fn, tmps, asg, body, h1, h2⟩ := h.ok so (fun id _ => hall id) γ args w gh hargs hob hnx hcur
  refine ⟨fn, tmps, asg, body, h1, fun ro' n' R hR => h2 ro' n' R fun γ1 w1 u g1 F1 hu ho hz => ?_⟩
  have hnr : a ≠ r := fun e => by rw [e] at ha; omega
  have hr1 : γ1.cur r = 0 := ho r _ (hall r) hole
  have hr0 : γ.cur r = 0 := by have := F1.up.cur r; omega
  have hnx0 : γ.cur a = 0 := hnx a (hall a) ha
  let γ2 : Gh := ⟨fun i => if i = r then γ1.cur a else if i.nat < nx.nat then γ1.cur i else 0, fun i => if i = r then γ1.β a else γ1.β i, γ1.im⟩
  have cr : γ2.cur r = γ1.cur a := by show (if _ then _ else _) = _; rw [if_pos rfl]
  have br : γ2.β r = γ1.β a := by show (if _ then _ else _) = _; rw [if_pos rfl]
  have cl : ∀ i : Pos, i ≠ r → i.nat < nx.nat → γ2.cur i = γ1.cur i := fun i hne hi => by
    show (if _ then _ else _) = _; rw [if_neg hne, if_pos hi]
  have bl : ∀ i : Pos, i ≠ r → γ2.β i = γ1.β i := fun i hi => by show (if _ then _ else _) = _; rw [if_neg hi]
  have c0 : ∀ i : Pos, i ≠ r → ¬ i.nat < nx.nat → γ2.cur i = 0 := fun i h1 h2 => by show (if _ then _ else _) = _; rw [if_neg h1, if_neg h2]
  have lt2 : ∀ i s, s < γ2.cur i → ∃ j, s < γ1.cur j ∧ γ2.β i = γ1.β j ∧ ((i = r ∧ j = a) ∨ ((i ≠ r ∧ i.nat < nx.nat) ∧ j = i)) := fun i s hi => by
    by_cases e : i = r
    · subst e; rw [cr] at hi; exact ⟨a, hi, br, .inl ⟨rfl, rfl⟩⟩
    · by_cases hl : i.nat < nx.nat
      · rw [cl i e hl] at hi; exact ⟨i, hi, bl i e, .inr ⟨⟨e, hl⟩, rfl⟩⟩
      · rw [c0 i e hl] at hi; exact absurd hi (Nat.not_lt_zero _)
  have kp : ∀ id : Pos, id.nat < r.nat → γ2.cur id = γ1.cur id ∧ γ2.β id = γ1.β id := fun i hi => ⟨cl i (fun e => by rw [e] at hi; omega) (by omega), bl i fun e => by rw [e] at hi; omega⟩
  have G2 : GH γ2 w1 := by
    refine ⟨fun i s hi => ?_, fun i s i' s' hi hi' he => ?_, fun b hb => ⟨(g1.im b hb).1, fun i s hi => ?_⟩, g1.gl.im fun _ h => h⟩
    · obtain ⟨j, k1, k2, _⟩ := lt2 i s hi
      rw [k2]; exact g1.ob j s k1
    · obtain ⟨j, k1, k2, k3⟩ := lt2 i s hi
      obtain ⟨j', k1', k2', k3'⟩ := lt2 i' s' hi'
      rw [k2, k2'] at he ⊢
      obtain ⟨e1, e2⟩ := g1.inj j s j' s' k1 k1' he
      refine ⟨?_, e2⟩
      rcases k3 with ⟨a1, a2⟩ | ⟨a1, a2⟩ <;> rcases k3' with ⟨b1, b2⟩ | ⟨b1, b2⟩
      · rw [a1, b1]
      · exfalso; rw [a2, b2] at e1; rw [← e1] at b1; omega
      · exfalso; rw [a2, b2] at e1; rw [e1] at a1; omega
      · rw [← a2, ← b2, e1]
    · obtain ⟨j, k1, k2, _⟩ := lt2 i s hi
      rw [k2]; exact (g1.im b hb).2 j s k1
  have F2 : Fr (wrtn none) γ γ2 w w1 := by
    refine ⟨⟨fun i => ?_, fun i s hi => ?_, F1.up.sh, F1.up.im⟩, fun id hn => absurd trivial hn, F1.blk, fun i s h1 h2 => ?_, F1.imn, F1.lp, F1.size, F1.os, F1.tape, F1.output, F1.fz⟩
    · by_cases e : i = r
      · subst e; rw [hr0]; exact Nat.zero_le _
      · by_cases hl : i.nat < nx.nat
        · rw [cl i e hl]; exact F1.up.cur i
        · rw [hnx i (hall i) (by omega)]; exact Nat.zero_le _
    · have e : i ≠ r := fun e => by subst e; rw [hr0] at hi; exact absurd hi (Nat.not_lt_zero _)
      rw [bl i e]; exact F1.up.β i s hi
    · obtain ⟨j, k1, k2, k3⟩ := lt2 i s h2
      rw [k2]
      rcases k3 with ⟨a1, a2⟩ | ⟨a1, a2⟩
      · subst a2
        rcases F1.new j s (by rw [hnx0]; exact Nat.zero_le _) k1 with h | ⟨s0, h, _⟩
        · exact .inl h
        · rw [hnx0] at h; exact absurd h (Nat.not_lt_zero _)
      · subst a2; exact F1.new j s h1 k1
  refine hR γ2 w1 u G2 F2 (DV.pu (γ := γ1) (γ' := γ2) (fun _ h => h) _ _ hv hu) (fun i ci _ hci => ?_) (fun i _ hi => c0 i (fun e => by rw [e] at hi; omega) (by omega))
  rcases hrest i ci hci with ⟨rfl, rfl⟩ | ⟨rfl, rfl⟩ | ⟨hne, hi, hg, hk⟩
  · obtain ⟨q0, q1, q2⟩ := ho a _ (hall a) hn
    refine ⟨q0, cr.trans q1, fun s hs => ?_⟩
    obtain ⟨vs, e, fr, q3, q4, q5⟩ := q2 s hs
    rw [br]
    refine ⟨vs, e, fr, q3, q4, fun p c hpc hh hd => ?_⟩
    obtain ⟨u', q6, q7, q8⟩ := q5 p c hpc hh hd
    refine ⟨u', q6, DV.pu (γ := γ1) (γ' := γ2) (fun _ h => h) _ _ ?_ q7, q8⟩
    obtain ⟨d, hd1, rfl⟩ := List.mem_map.1 (List.mem_of_getElem? hpc)
    exact PuL_iff.1 hpu d hd1
  · obtain ⟨q0, q1, q2⟩ := ho i _ (hall i) hqq
    obtain ⟨e1, e2⟩ := kp i hq
    refine ⟨q0, e1.trans q1, fun s hs => ?_⟩
    obtain ⟨vs, e, fr, q3, q4, q5⟩ := q2 s hs
    rw [e2]
    refine ⟨vs, e, fr, q3, q4, fun p c hpc hh hd => ?_⟩
    cases p with
    | zero =>
      have hc : c = Cell.o (.sl r 0 n st z) k := by simpa using hpc.symm
      subst hc
      obtain ⟨u', q6, q7, q8⟩ := q5 0 (Cell.o (.sl a 0 n st z) k) rfl hh hd
      refine ⟨u', q6, ?_, q8⟩
      have q7 : DV γ1 w1 (.sl a 0 n st z) u' := q7
      show DV γ2 w1 (.sl r 0 n st z) u'
      unfold DV at q7 ⊢
      rw [cr, br]
      exact q7
    | succ p => simp at hpc
  · exact HoldsO.kp2 (γ := γ1) (γ' := γ2) (fun _ h => h) kp ⟨cl i hne hi, bl i hne⟩ hk (ho i ci (hall i) hg)
structure RndEF2 (Φ : Bool → T C → Prop) (id : Pos) (nx' : Pos) (e : Ex) (z : X) : Prop where
  ok : ∃ a b m c q s j ob' ob2, z.lg = none ∧ z.ob.get id = some (.lp a b m c q s j) ∧ ∃ nx1 a0, nx'.nat ≤ nx1.nat ∧ nx'.nat ≤ a0.nat ∧ Shr ⟨.e, T.set id (.lp a b m c q (endS e) (endJ e)) z.ob, z.nx, none⟩ ⟨.e, ob', nx1, none⟩ ∧ Fill2 nx' a0 ob' ob2 ∧ Φ (endB e) ob2
theorem RndOk.runEF2 {P : Program} {id : Pos} {ds : List D} {ob : T C} {nx : Pos} {Φ : Bool → T C → Prop} {sl0 : T D} {ps : List Pos} {nt : Nat} {asg body : Code} {j0 : Option Ex} {rcA rcB : RC} (hob0 : ob.get id = some (.lp sl0 ps nt asg body .ready j0)) (hA : comp P nt asg = rcA) (hB : comp P nt body = rcB)
    (hp : parmP ps ds sl0 fun sl' => Rn P nt rcA ⟨sl', ob, nx, none⟩ (RndEA P nt rcB id (RndEF2 Φ id nx))) : ∃ g ob', Φ g ob' ∧ RndOk P id ds ob nx none (.b g) ob' nx none := by
  obtain ⟨sl', h1, h2⟩ := hp
  obtain ⟨e, ⟨s2, ob1, nx1, lg1⟩, X1, h3⟩ := h2.ok asg hA
  obtain ⟨rfl, h4, a1, b1, m1, c1, q1, j1, h5, h6⟩ := h3.ok
  have h4 : lg1 = none := h4
  subst h4
  obtain ⟨e, ⟨s3, ob3, nx3, lg3⟩, X2, h7⟩ := h6.ok body hB
  obtain ⟨a3, b3, m3, c3, q3, s3', j3, ob', ob2, k1, k2, nx1, a0, l1, l2, k3, k4, k5⟩ := h7.ok
  have k1 : lg3 = none := k1
  subst k1
  exact ⟨endB e, ob2, k5, ((RndOk.of hob0 h1 X1 h5 X2 k2).shrink k3 l1 (.pu trivial)).fill2 trivial l2 k4⟩
end Go.Ev

namespace Go.Ev
open Go.Proofs
set_option maxRecDepth 100000
def i12 : Pos := .o (.o (.i .h))
def i13 : Pos := .i (.o (.i .h))
def slC : List Ln → D
  | [] => .ns
  | _ :: s => .sl i14 0 (s.length + 1) s.length 3
noncomputable def blC : List Ln → Option Ev.C
  | [] => some .hole
  | a :: s => some (.cells false ((lnF (a :: s)).map fun d => Cell.o d s.length) (s.length + 1))
def wcS (row lrow : List D) : T D := (.n (.n (.n (.n .e (some (.pt i12 0 0)) .e) none .e) none (.n .e (some (.pt (.i (.o .h)) 0 0)) .e)) none (.n .e none (.n (.n .e none (.n .e (some (.fn p135 [] [.pl row 0, .pl lrow 0])) .e)) none .e)))
noncomputable def wcL (M : Memo) (m : Met) (row lrow : List D) : Lns (List Ln) where
  o := fun i s => match i with
    | 1 => some (.map (mapL M))
    | 4 => some (.map (metL m))
    | 5 => some (.cells false [.o (.mp (.o (.o .h))) 0] 1)
    | 12 => some (.cells false [.o (slC s) 0] 1)
    | 13 => some (.lp (wcS row lrow) [p28] 36 (rfA (bodyC Try.f91) 1) (rfB (bodyC Try.f91) 1) .ready none)
    | 14 => blC s
    | _ => none
theorem wcS_kp {row lrow : List D} (h1 : PuL row) (h2 : PuL lrow) : ∀ s d, (wcS row lrow).get s = some d → Kp 13 d := by
  show TAll (fun _ d => Kp 13 d) _
  unfold wcS
  repeat' first | exact TAll.e | refine TAll.some ?_ ?_ ?_ | refine TAll.none ?_ ?_
  all_goals simp [Kp, KpL, Pu, PuL, h1, h2, i12, Pos.nat]
def wcI (m : Met) (h s : List Ln) : Prop := s = h.filter fun l => decide ((l, true) ∈ m)
def wcR (m : Met) (s : List Ln) (a : Ln) (s' : List Ln) (g : Bool) : Prop := g = true ∧ s' = s ++ bif decide ((a, true) ∈ m) then [a] else []
section
variable {M : Memo} {m : Met} {row lrow : List D} (h1 : PuL row) (h2 : PuL lrow)
include h1 h2
theorem wc_kp (s : List Ln) : KpO 18 ((wcL M m row lrow).base s) := by
  show TAll (fun id c => id.nat < 18 ∧ KpC 18 c) _
  cases s with
  | nil =>
    unfold Lns.base trL wcL blC slC
    repeat' first | exact TAll.e | refine TAll.some ?_ ?_ ?_ | refine TAll.none ?_ ?_
    all_goals refine ⟨by simp [Pos.nat], ?_⟩
    all_goals first
      | exact mapL_kp
      | exact metL_kp
      | exact fun s d h => (wcS_kp h1 h2 s d h).up (by omega)
      | trivial
      | (refine KpL.all ?_; simp [KpL, Kp, Cell.d, Pu, Pos.nat])
  | cons a s =>
    unfold Lns.base trL wcL blC slC
    repeat' first | exact TAll.e | refine TAll.some ?_ ?_ ?_ | refine TAll.none ?_ ?_
    all_goals refine ⟨by simp [Pos.nat], ?_⟩
    all_goals first
      | exact mapL_kp
      | exact metL_kp
      | exact fun s d h => (wcS_kp h1 h2 s d h).up (by omega)
      | exact lnF_kp _ _ _ _
      | (refine KpL.all ?_; simp [KpL, Kp, Cell.d, Pu, i14, Pos.nat])
end
noncomputable def trS (x1 x2 x3 x4 x5 x6 x7 x8 x9 x10 x11 x12 x13 x14 x15 x16 x17 x18 x19 x20 x23 : Option Ev.C) : T Ev.C := .n (.n (.n (.n (.n .e x16 .e) x8 .e) x4 (.n (.n .e x20 .e) x12 .e)) x2 (.n (.n (.n .e x18 .e) x10 .e) x6 (.n .e x14 .e))) x1 (.n (.n (.n (.n .e x17 .e) x9 .e) x5 (.n .e x13 .e)) x3 (.n (.n (.n .e x19 .e) x11 .e) x7 (.n (.n .e x23 .e) x15 .e)))
def n24 : Pos := .o (.o (.o (.i .h)))
section
variable {M : Memo} {m : Met} {row lrow : List D} (h1 : PuL row) (h2 : PuL lrow)
include h1 h2
theorem wcS_kp14 : KpC 14 (.lp (wcS row lrow) [p28] 36 (rfA (bodyC Try.f91) 1) (rfB (bodyC Try.f91) 1) .ready none) := fun s d h => (wcS_kp h1 h2 s d h).up (by omega)
set_option maxHeartbeats 1000000 in
theorem wc_ok {n : Int} {l : Ln} (hm : ∀ e ∈ m, lnWf e.1 ∧ e.2 = true) (hwf : ∀ a, rdB n l a = true → lnWf a) (hlen : (rdsL n l).length ≤ 1000) : LnsOk (wcL M m row lrow) i13 (wcI m) (wcR m) n l := by
  refine ⟨by simp [i13, Pos.nat], fun s => wc_kp h1 h2 s, ?_, ?_⟩
  · rintro h s a s' _ hI ⟨_, rfl⟩
    have hI : s = h.filter fun l => decide ((l, true) ∈ m) := hI
    show s ++ _ = (h ++ [a]).filter _
    rw [hI, List.filter_append]
    cases hd : decide ((a, true) ∈ m) with
    | true => rw [List.filter_cons_of_pos (by exact hd)]; rfl
    | false => rw [List.filter_cons_of_neg (by rw [hd]; simp)]; rfl
  · intro h s hI a hpre sl d K k
    have hI : s = h.filter fun l => decide ((l, true) ∈ m) := hI
    have hsl : s.length < 1000 := by
      have q1 := hpre.length_le
      have q2 := List.length_filter_le (fun l => decide ((l, true) ∈ m)) h
      rw [List.length_append, List.length_singleton] at q1
      rw [hI]; omega
    have haw : lnWf a := hwf a (mem_rdsL.1 (hpre.subset (by simp)))
    suffices hs : ∃ g ob', (∃ s', wcR m s a s' g ∧ ob' = (wcL M m row lrow).ob n l s') ∧ RndOk Try.prog i13 [.ag [.i .i64 a.k, .i .i64 a.c, .i .i64 a.t]] ((wcL M m row lrow).ob n l s) nb5 none (.b g) ob' nb5 none by
      obtain ⟨g, _, ⟨s', hR, rfl⟩, HR⟩ := hs
      exact WRnd.at HR (k s' g hR)
    have kpo := ob_kp (S := wcL M m row lrow) (n := n) (l := l) (fun s => wc_kp h1 h2 s)
    by_cases hin : (a, true) ∈ m
    · have hR : ∀ s', s' = s ++ [a] → wcR m s a s' true := fun s' e => ⟨rfl, by rw [e, decide_eq_true hin]; rfl⟩
      cases s with
      | nil =>
        refine RndOk.runEF2 (sl0 := wcS row lrow) rfl rc91a1_ok rc91b1_ok ⟨_, rfl, ?_⟩
        unfold Lns.ob trL wcL wcS blC slC
        conv => whnf
        repeat' first | ((first | with_reducible apply WB.tt | with_reducible apply WB.ff | refine Rn.seq ?_ | refine Rn.reg ?_ | refine Rn.drw ?_ | refine Rn.blk ?_ | refine Rn.skip ?_ | refine Rn.ret ?_ | refine Rn.exit ?_ | refine Rn.cond rfl ?_ | refine And.intro (InR.i64 (by omega) (by omega)) ?_ | refine And.intro (show _ ≠ (0 : Int) by omega) ?_ | refine WIx.intsN (by omega) ?_ | refine WIx.rowsN (by omega) ?_) <;> conv => whnf)
        refine ⟨rfl, rfl, _, _, _, _, _, _, rfl, ?_⟩
        conv => whnf
        repeat' first | ((first | with_reducible apply WB.tt | with_reducible apply WB.ff | refine Rn.seq ?_ | refine Rn.reg ?_ | refine Rn.drw ?_ | refine Rn.blk ?_ | refine Rn.skip ?_ | refine Rn.ret ?_ | refine Rn.exit ?_ | refine Rn.cond rfl ?_ | refine And.intro (InR.i64 (by omega) (by omega)) ?_ | refine And.intro (show _ ≠ (0 : Int) by omega) ?_ | refine WIx.intsN (by omega) ?_ | refine WIx.rowsN (by omega) ?_) <;> conv => whnf)
        refine WSt.lkpG ln_key (w := a) (M := m) (by rfl) (by rfl) (by rfl) haw (fun e he => (hm e he).1) (fun nn hn => ?_) (fun hn => absurd hin (hn true))
        obtain rfl : nn = true := (hm _ hn).2
        conv => whnf
        repeat' first | ((first | with_reducible apply WB.tt | with_reducible apply WB.ff | refine Rn.seq ?_ | refine Rn.reg ?_ | refine Rn.drw ?_ | refine Rn.blk ?_ | refine Rn.skip ?_ | refine Rn.ret ?_ | refine Rn.exit ?_ | refine Rn.cond rfl ?_ | refine And.intro (InR.i64 (by omega) (by omega)) ?_ | refine And.intro (show _ ≠ (0 : Int) by omega) ?_ | refine WIx.intsN (by omega) ?_ | refine WIx.rowsN (by omega) ?_) <;> conv => whnf)
        refine WSt.app_first (r := lnD a) rfl (.inl rfl) rfl rfl rfl rfl ?_; conv => whnf
        repeat' first | ((first | with_reducible apply WB.tt | with_reducible apply WB.ff | refine Rn.seq ?_ | refine Rn.reg ?_ | refine Rn.drw ?_ | refine Rn.blk ?_ | refine Rn.skip ?_ | refine Rn.ret ?_ | refine Rn.exit ?_ | refine Rn.cond rfl ?_ | refine And.intro (InR.i64 (by omega) (by omega)) ?_ | refine And.intro (show _ ≠ (0 : Int) by omega) ?_ | refine WIx.intsN (by omega) ?_ | refine WIx.rowsN (by omega) ?_) <;> conv => whnf)
        refine ⟨_, _, _, _, _, _, _, (trS (some (.map (mapL M))) none none (some (.map (metL m))) (some (.cells false [.o (.mp (.o (.o .h))) 0] 1)) none none none none none none (some (.cells false [.o (.sl nb7 0 1 0 3) 0] 1)) (some (.lp (wcS row lrow) [p28] 36 (rfA (bodyC Try.f91) 1) (rfB (bodyC Try.f91) 1) .ready none)) (some .hole) none none none (some (.cells false [.o (.i .i64 (kLo l)) 0, .o (.i .i64 (kHi l)) 0] 1)) (some (.cells false [.o (.i .i64 (cLo l)) 0, .o (.i .i64 (cHi n l)) 0] 1)) (some (.cells false [.o (.i .i64 (tLo l)) 0, .o (.i .i64 (tHi n l)) 0] 1)) (some (.cells false ((lnD a).map fun d => Cell.o d 0) 1))), (wcL M m row lrow).ob n l [a], rfl, rfl, n24, nb7, by simp [nb5, n24, Pos.nat], by simp [nb5, nb7, Pos.nat], Shr.kp ?_ ?_, ?_, [a], hR _ rfl, rfl⟩
        · unfold trS wcS
          repeat' first | exact T.le_e _ | refine T.le_some ?_ rfl ?_ | refine T.le_same ?_ ?_ | refine T.le_none ?_ ?_
        · show TAll (fun id c => id.nat < 24 ∧ KpC 24 c) _
          unfold trS
          repeat' first | exact TAll.e | refine TAll.some ?_ ?_ ?_ | refine TAll.none ?_ ?_
          all_goals refine ⟨by simp [Pos.nat], ?_⟩
          all_goals first
            | exact mapL_kp
            | exact metL_kp
            | exact fun s d h => (wcS_kp h1 h2 s d h).up (by omega)
            | trivial
            | (refine KpL.all ?_; simp [KpL, Kp, Cell.d, Pu, nb7, lnD, Pos.nat])
        · refine ⟨i14, i12, false, 1, 0, 3, 0, 1, 0, 1, lnD a, by simp [i14, nb5, Pos.nat], by simp [i12, i14, Pos.nat], rfl, by simp [PuL, Pu, lnD], rfl, rfl, ?_⟩
          show TAll (fun i ci => (i = i14 ∧ ci = .cells false ((lnD a).map fun d => Cell.o d 0) 1) ∨ (i = i12 ∧ ci = .cells false [.o (.sl i14 0 1 0 3) 0] 1) ∨ (i ≠ i14 ∧ i.nat < nb5.nat ∧ T.get (trS (some (.map (mapL M))) none none (some (.map (metL m))) (some (.cells false [.o (.mp (.o (.o .h))) 0] 1)) none none none none none none (some (.cells false [.o (.sl nb7 0 1 0 3) 0] 1)) (some (.lp (wcS row lrow) [p28] 36 (rfA (bodyC Try.f91) 1) (rfB (bodyC Try.f91) 1) .ready none)) (some .hole) none none none (some (.cells false [.o (.i .i64 (kLo l)) 0, .o (.i .i64 (kHi l)) 0] 1)) (some (.cells false [.o (.i .i64 (cLo l)) 0, .o (.i .i64 (cHi n l)) 0] 1)) (some (.cells false [.o (.i .i64 (tLo l)) 0, .o (.i .i64 (tHi n l)) 0] 1)) (some (.cells false ((lnD a).map fun d => Cell.o d 0) 1))) i = some ci ∧ KpC 14 ci)) _
          unfold Lns.ob trL wcL
          repeat' first | exact TAll.e | refine TAll.some ?_ ?_ ?_ | refine TAll.none ?_ ?_
          all_goals first
            | exact .inl ⟨rfl, rfl⟩
            | exact .inr (.inl ⟨rfl, rfl⟩)
            | (refine .inr (.inr ⟨by decide, by simp [nb5, Pos.nat], rfl, ?_⟩)
               first
                 | exact mapL_kp
                 | exact metL_kp
                 | exact wcS_kp14 h1 h2
                 | (refine KpL.all ?_; simp [KpL, Kp, Cell.d, Pu, Pos.nat]))
      | cons b s =>
        have hs9 : s.length + 1 < 1000 := hsl
        refine RndOk.runE (sl0 := wcS row lrow) rfl rc91a1_ok rc91b1_ok ⟨_, rfl, ?_⟩
        unfold Lns.ob trL wcL wcS blC slC
        conv => whnf
        repeat' first | ((first | with_reducible apply WB.tt | with_reducible apply WB.ff | refine Rn.seq ?_ | refine Rn.reg ?_ | refine Rn.drw ?_ | refine Rn.blk ?_ | refine Rn.skip ?_ | refine Rn.ret ?_ | refine Rn.exit ?_ | refine Rn.cond rfl ?_ | refine And.intro (InR.i64 (by omega) (by omega)) ?_ | refine And.intro (show _ ≠ (0 : Int) by omega) ?_ | refine WIx.intsN (by omega) ?_ | refine WIx.rowsN (by omega) ?_) <;> conv => whnf)
        refine ⟨rfl, rfl, _, _, _, _, _, _, rfl, ?_⟩
        conv => whnf
        repeat' first | ((first | with_reducible apply WB.tt | with_reducible apply WB.ff | refine Rn.seq ?_ | refine Rn.reg ?_ | refine Rn.drw ?_ | refine Rn.blk ?_ | refine Rn.skip ?_ | refine Rn.ret ?_ | refine Rn.exit ?_ | refine Rn.cond rfl ?_ | refine And.intro (InR.i64 (by omega) (by omega)) ?_ | refine And.intro (show _ ≠ (0 : Int) by omega) ?_ | refine WIx.intsN (by omega) ?_ | refine WIx.rowsN (by omega) ?_) <;> conv => whnf)
        refine WSt.lkpG ln_key (w := a) (M := m) (by rfl) (by rfl) (by rfl) haw (fun e he => (hm e he).1) (fun nn hn => ?_) (fun hn => absurd hin (hn true))
        obtain rfl : nn = true := (hm _ hn).2
        conv => whnf
        repeat' first | ((first | with_reducible apply WB.tt | with_reducible apply WB.ff | refine Rn.seq ?_ | refine Rn.reg ?_ | refine Rn.drw ?_ | refine Rn.blk ?_ | refine Rn.skip ?_ | refine Rn.ret ?_ | refine Rn.exit ?_ | refine Rn.cond rfl ?_ | refine And.intro (InR.i64 (by omega) (by omega)) ?_ | refine And.intro (show _ ≠ (0 : Int) by omega) ?_ | refine WIx.intsN (by omega) ?_ | refine WIx.rowsN (by omega) ?_) <;> conv => whnf)
        refine WSt.app_one (ds := lnF (b :: s)) (r := lnD a) rfl rfl rfl rfl rfl rfl (by rw [lnF_len]; rfl) rfl rfl (by omega) rfl ?_; conv => whnf
        repeat' first | ((first | with_reducible apply WB.tt | with_reducible apply WB.ff | refine Rn.seq ?_ | refine Rn.reg ?_ | refine Rn.drw ?_ | refine Rn.blk ?_ | refine Rn.skip ?_ | refine Rn.ret ?_ | refine Rn.exit ?_ | refine Rn.cond rfl ?_ | refine And.intro (InR.i64 (by omega) (by omega)) ?_ | refine And.intro (show _ ≠ (0 : Int) by omega) ?_ | refine WIx.intsN (by omega) ?_ | refine WIx.rowsN (by omega) ?_) <;> conv => whnf)
        have hln : (s ++ [a]).length = s.length + 1 := by simp
        have hb : blC (b :: s ++ [a]) = some (.cells false ((lnF (b :: s) ++ lnD a).map fun d => Cell.o d (s.length + 1)) (s.length + 1 + 1)) := by
          show some (Ev.C.cells false ((lnF (b :: (s ++ [a]))).map fun d => Cell.o d (s ++ [a]).length) ((s ++ [a]).length + 1)) = _
          rw [hln, ← List.cons_append, lnF_snoc]
        have hs' : slC (b :: s ++ [a]) = .sl i14 0 (s.length + 1 + 1) (s.length + 1) 3 := by
          show D.sl i14 0 ((s ++ [a]).length + 1) (s ++ [a]).length 3 = _
          rw [hln]
        refine ⟨_, _, _, _, _, _, _, (wcL M m row lrow).ob n l (b :: s ++ [a]), rfl, rfl, ?_, b :: s ++ [a], hR _ rfl, rfl⟩
        show Shr _ ⟨.e, trL (some (.map (mapL M))) none none (some (.map (metL m))) (some (.cells false [.o (.mp (.o (.o .h))) 0] 1)) none none none none none none (some (.cells false [.o (slC (b :: s ++ [a])) 0] 1)) (some (.lp (wcS row lrow) [p28] 36 (rfA (bodyC Try.f91) 1) (rfB (bodyC Try.f91) 1) .ready none)) (blC (b :: s ++ [a])) none none none (some (.cells false [.o (.i .i64 (kLo l)) 0, .o (.i .i64 (kHi l)) 0] 1)) (some (.cells false [.o (.i .i64 (cLo l)) 0, .o (.i .i64 (cHi n l)) 0] 1)) (some (.cells false [.o (.i .i64 (tLo l)) 0, .o (.i .i64 (tHi n l)) 0] 1)), nb5, none⟩
        rw [hb, hs']
        have hpv : PuL (lnF (b :: s) ++ lnD a) := PuL_iff.2 fun d hd => by
          rcases List.mem_append.1 hd with h | h
          · exact PuL_iff.1 (lnF_pu _) d h
          · exact PuL_iff.1 (pl_ln a) d h
        refine Shr.of ?_ ?_ rfl rfl
        · exact Rel.e
        · unfold trL
          repeat' first | exact Rel.e | refine Rel.some ?_ ?_ ?_ | refine Rel.none ?_ ?_
          all_goals refine RO'.of (by simp [Pos.nat, nb5]) ?_
          all_goals first
            | exact ShC.kp mapL_kp
            | exact ShC.kp metL_kp
            | exact ShC.kp (n := 21) (fun s d h => (wcS_kp h1 h2 s d h).up (by omega))
            | exact ShC.grown (by omega) hpv
            | (refine ShC.kp (n := 21) (KpL.all ?_); simp [KpL, Kp, Cell.d, Pu, i14, Pos.nat])
    · have hR : ∀ s', s' = s → wcR m s a s' true := fun s' e => ⟨rfl, by rw [e, decide_eq_false hin, cond_false, List.append_nil]⟩
      cases s with
      | nil =>
        refine RndOk.runE (sl0 := wcS row lrow) rfl rc91a1_ok rc91b1_ok ⟨_, rfl, ?_⟩
        unfold Lns.ob trL wcL wcS blC slC
        conv => whnf
        repeat' first | ((first | with_reducible apply WB.tt | with_reducible apply WB.ff | refine Rn.seq ?_ | refine Rn.reg ?_ | refine Rn.drw ?_ | refine Rn.blk ?_ | refine Rn.skip ?_ | refine Rn.ret ?_ | refine Rn.exit ?_ | refine Rn.cond rfl ?_ | refine And.intro (InR.i64 (by omega) (by omega)) ?_ | refine And.intro (show _ ≠ (0 : Int) by omega) ?_ | refine WIx.intsN (by omega) ?_ | refine WIx.rowsN (by omega) ?_) <;> conv => whnf)
        refine ⟨rfl, rfl, _, _, _, _, _, _, rfl, ?_⟩
        conv => whnf
        repeat' first | ((first | with_reducible apply WB.tt | with_reducible apply WB.ff | refine Rn.seq ?_ | refine Rn.reg ?_ | refine Rn.drw ?_ | refine Rn.blk ?_ | refine Rn.skip ?_ | refine Rn.ret ?_ | refine Rn.exit ?_ | refine Rn.cond rfl ?_ | refine And.intro (InR.i64 (by omega) (by omega)) ?_ | refine And.intro (show _ ≠ (0 : Int) by omega) ?_ | refine WIx.intsN (by omega) ?_ | refine WIx.rowsN (by omega) ?_) <;> conv => whnf)
        refine WSt.lkpG ln_key (w := a) (M := m) (by rfl) (by rfl) (by rfl) haw (fun e he => (hm e he).1) (fun nn hn => absurd (show (a, true) ∈ m from by have h3 : nn = true := (hm _ hn).2; rw [h3] at hn; exact hn) hin) (fun hn => ?_)
        conv => whnf
        repeat' first | ((first | with_reducible apply WB.tt | with_reducible apply WB.ff | refine Rn.seq ?_ | refine Rn.reg ?_ | refine Rn.drw ?_ | refine Rn.blk ?_ | refine Rn.skip ?_ | refine Rn.ret ?_ | refine Rn.exit ?_ | refine Rn.cond rfl ?_ | refine And.intro (InR.i64 (by omega) (by omega)) ?_ | refine And.intro (show _ ≠ (0 : Int) by omega) ?_ | refine WIx.intsN (by omega) ?_ | refine WIx.rowsN (by omega) ?_) <;> conv => whnf)
        refine ⟨_, _, _, _, _, _, _, (wcL M m row lrow).ob n l ([]), rfl, rfl, Shr.kp ?_ (kpo _), [], hR _ rfl, rfl⟩
        unfold Lns.ob trL wcL wcS blC slC
        repeat' first | exact T.le_e _ | refine T.le_some ?_ rfl ?_ | refine T.le_same ?_ ?_ | refine T.le_none ?_ ?_
      | cons b s =>
        refine RndOk.runE (sl0 := wcS row lrow) rfl rc91a1_ok rc91b1_ok ⟨_, rfl, ?_⟩
        unfold Lns.ob trL wcL wcS blC slC
        conv => whnf
        repeat' first | ((first | with_reducible apply WB.tt | with_reducible apply WB.ff | refine Rn.seq ?_ | refine Rn.reg ?_ | refine Rn.drw ?_ | refine Rn.blk ?_ | refine Rn.skip ?_ | refine Rn.ret ?_ | refine Rn.exit ?_ | refine Rn.cond rfl ?_ | refine And.intro (InR.i64 (by omega) (by omega)) ?_ | refine And.intro (show _ ≠ (0 : Int) by omega) ?_ | refine WIx.intsN (by omega) ?_ | refine WIx.rowsN (by omega) ?_) <;> conv => whnf)
        refine ⟨rfl, rfl, _, _, _, _, _, _, rfl, ?_⟩
        conv => whnf
        repeat' first | ((first | with_reducible apply WB.tt | with_reducible apply WB.ff | refine Rn.seq ?_ | refine Rn.reg ?_ | refine Rn.drw ?_ | refine Rn.blk ?_ | refine Rn.skip ?_ | refine Rn.ret ?_ | refine Rn.exit ?_ | refine Rn.cond rfl ?_ | refine And.intro (InR.i64 (by omega) (by omega)) ?_ | refine And.intro (show _ ≠ (0 : Int) by omega) ?_ | refine WIx.intsN (by omega) ?_ | refine WIx.rowsN (by omega) ?_) <;> conv => whnf)
        refine WSt.lkpG ln_key (w := a) (M := m) (by rfl) (by rfl) (by rfl) haw (fun e he => (hm e he).1) (fun nn hn => absurd (show (a, true) ∈ m from by have h3 : nn = true := (hm _ hn).2; rw [h3] at hn; exact hn) hin) (fun hn => ?_)
        conv => whnf
        repeat' first | ((first | with_reducible apply WB.tt | with_reducible apply WB.ff | refine Rn.seq ?_ | refine Rn.reg ?_ | refine Rn.drw ?_ | refine Rn.blk ?_ | refine Rn.skip ?_ | refine Rn.ret ?_ | refine Rn.exit ?_ | refine Rn.cond rfl ?_ | refine And.intro (InR.i64 (by omega) (by omega)) ?_ | refine And.intro (show _ ≠ (0 : Int) by omega) ?_ | refine WIx.intsN (by omega) ?_ | refine WIx.rowsN (by omega) ?_) <;> conv => whnf)
        refine ⟨_, _, _, _, _, _, _, (wcL M m row lrow).ob n l (b :: s), rfl, rfl, Shr.kp ?_ (kpo _), b :: s, hR _ rfl, rfl⟩
        unfold Lns.ob trL wcL wcS blC slC
        repeat' first | exact T.le_e _ | refine T.le_some ?_ rfl ?_ | refine T.le_same ?_ ?_ | refine T.le_none ?_ ?_
end
end Go.Ev
