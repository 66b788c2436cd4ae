import Derived.Test.YtjgbfnciedkafaaEvUFo
import Derived.Test.YtjgbfnciedkafaaEvUJe
set_option linter.all false
set_option maxHeartbeats 8000000
noncomputable section
namespace Go.Ev
open Classical in
theorem CallOk.toH {P : Program} {f : Nat} {ds : List D} {ob1 : T C} {nx1 a : Pos} {v v2 : D} {es : List (D × D)} (h : CallOk P f ds .e .h none v ob1 nx1 none) (ha : ob1.get a = some (.map es)) (hp : ∀ e ∈ es, Pu e.1 /\ Pu e.2)
 (hv : ∀ (γ γ' : Gh) (w : World), γ'.cur .h = γ.cur a -> γ'.β .h = γ.β a -> (∀ b, γ.im b -> γ'.im b) -> Cv γ γ' w v v2) : CallOk P f ds .e .h none v2 (.n .e (some (.map es)) .e) (.o .h) none := by
 refine ⟨LgLe.refl _, by simp [Pos.nat], fun id hn => absurd trivial hn, fun so hs γ args w gh hargs hob hnx => ?_⟩
 have hall : ∀ id, so id := fun id => hs id trivial
 have hz : ∀ id, γ.cur id = 0 := fun id => hnx id (hall id) (Pos.nat_pos id)
 obtain ⟨c1, c2⟩ := h.ok so (fun id _ => hall id) γ args w gh hargs hob hnx
 refine ⟨c1, fun ro n R hR => c2 ro n R fun γ1 w1 u g1 F1 hu ho hn => ?_⟩
 let γ2 : Gh := ⟨fun i => if i = .h then γ1.cur a else 0, fun _ => γ1.β a, γ1.im⟩
 have c0 : γ2.cur .h = γ1.cur a := by show (if Pos.h = Pos.h then γ1.cur a else 0) = _; rw [if_pos rfl]
 have cn : ∀ i : Pos, i ≠ .h -> γ2.cur i = 0 := fun i hi => by show (if i = Pos.h then γ1.cur a else 0) = _; rw [if_neg hi]
 have lt : ∀ i s, s < γ2.cur i -> i = .h /\ s < γ1.cur a := fun i s hi => by
  by_cases e : i = .h
  ·subst e; rw [c0] at hi; exact ⟨rfl, hi⟩
  ·rw [cn i e] at hi; exact absurd hi (Nat.not_lt_zero _)
 have G2 : GH γ2 w1 := by
  refine ⟨fun i s hi => g1.ob a s (lt i s hi).2, fun i s i' s' hi hi' he => ?_, fun b hb => ⟨(g1.im b hb).1, fun i s hi => (g1.im b hb).2 a s (lt i s hi).2⟩, g1.gl.im fun _ h => h⟩
  obtain ⟨e1, k1⟩ := lt i s hi
  obtain ⟨e2, k2⟩ := lt i' s' hi'
  exact ⟨e1.trans e2.symm, (g1.inj a s a s' k1 k2 he).2⟩
 refine hR γ2 w1 u G2 ⟨⟨fun i => by rw [hz]; exact Nat.zero_le _, fun i s hi => by rw [hz] at hi; exact absurd hi (Nat.not_lt_zero _), F1.up.sh, F1.up.im⟩, fun id hn => absurd trivial hn, F1.blk, fun i s _ h2 => ?_, F1.imn, F1.lp, F1.size, F1.os, F1.tape, F1.output, F1.fz⟩ (hv γ1 γ2 w1 c0 rfl (fun _ h => h) u hu) (fun i c _ hc => ?_) (fun i _ hi => cn i fun e => by subst e; simp [Pos.nat] at hi)
 ·obtain ⟨_, k⟩ := lt i s h2
  rcases F1.new a s (by rw [hz]; exact Nat.zero_le _) k with h | ⟨s0, h, _⟩
  ·exact .inl h
  ·rw [hz] at h; exact absurd h (Nat.not_lt_zero _)
 ·cases i with
  | h =>
    rw [T.get_h] at hc
    cases hc
    obtain ⟨q1, en, cl, q2, q3, q4⟩ := ho a _ (hall a) ha
    refine ⟨c0.trans q1, en, cl, q2, q3, fun j e f he hf => ?_⟩
    obtain ⟨k1, k2⟩ := hp e (List.mem_of_getElem? he)
    exact ⟨DV.pu (γ := γ1) (γ' := γ2) (fun _ h => h) _ _ k1 (q4 j e f he hf).1, DV.pu (γ := γ1) (γ' := γ2) (fun _ h => h) _ _ k2 (q4 j e f he hf).2⟩
  | o p => rw [T.get_o, T.get_e] at hc; cases hc
  | i p => rw [T.get_i, T.get_e] at hc; cases hc
theorem Cv.mpH {γ γ' : Gh} {w : World} {a : Pos} (h1 : γ'.cur .h = γ.cur a) (h2 : γ'.β .h = γ.β a) : Cv γ γ' w (.mp a) (.mp .h) := fun u h => by
 unfold DV at h ⊢
 rw [h1, h2]
 exact h
structure KeyOk {κ : Type} [DecidableEq κ] (ks : List LK) (kD : κ -> D) (ok : κ -> Prop) : Prop where
 eq : ∀ a b, ok a -> ok b -> Br ks (kD a) (kD b) = some (decide (a = b))
def yG {κ ν : Type} (kD : κ -> D) (vD : ν -> D) (e : κ × ν) : D × D := (kD e.1, vD e.2)
section
variable {κ ν : Type} [DecidableEq κ] {ks : List LK} {kD : κ -> D} {vD : ν -> D} {ok : κ -> Prop} (H : KeyOk ks kD ok)
include H
theorem Nq {w : κ} (hw : ok w) : ∀ (M : List (κ × ν)), (∀ e ∈ M, ok e.1) -> (∃ n, (w, n) ∈ M /\ qF ks (kD w) (M.map (yG kD vD)) = some (some (vD n))) \/ ((∀ n, (w, n) ∉ M) /\ qF ks (kD w) (M.map (yG kD vD)) = some none)
 | [], _ => .inr ⟨fun _ h => (by cases h), rfl⟩
 | q :: M, h => by
   obtain ⟨v, n⟩ := q
   have hv := h (v, n) (by simp)
   have e : qF ks (kD w) (((v, n) :: M).map (yG kD vD)) = (match Br ks (kD w) (kD v) with
    | some true => some (some (vD n))
    | some false => qF ks (kD w) (M.map (yG kD vD))
    | none => none) := rfl
   rw [e, H.eq _ _ hw hv]
   by_cases hwv : w = v
   ·subst hwv
    rw [decide_eq_true rfl]
    exact .inl ⟨n, by simp, rfl⟩
   ·rw [decide_eq_false hwv]
    rcases Nq hw M (fun e he => h e (by simp [he])) with ⟨n', h1, h2⟩ | ⟨h1, h2⟩
    ·exact .inl ⟨n', by simp [h1], h2⟩
    ·refine .inr ⟨fun n' hn => ?_, h2⟩
     rcases List.mem_cons.1 hn with hn | hn
     ·exact hwv (Prod.mk.inj hn).1
     ·exact h1 n' hn
theorem Sl {w : κ} (n : ν) (hw : ok w) : ∀ (M : List (κ × ν)), (∀ e ∈ M, ok e.1) -> ∃ M' : List (κ × ν), (∀ e ∈ M', e = (w, n) \/ e ∈ M) /\ (w, n) ∈ M' /\ (∀ e ∈ M, e.1 = w \/ e ∈ M') /\ ∀ {β : Type} (k : List (D × D) -> Option β), Cz ks (kD w) (vD n) (M.map (yG kD vD)) k = k (M'.map (yG kD vD))
 | [], _ => ⟨[(w, n)], fun e he => .inl (List.mem_singleton.1 he), by simp, fun e he => (by cases he), fun k => rfl⟩
 | q :: M, h => by
   obtain ⟨v, n'⟩ := q
   have hv := h (v, n') (by simp)
   have e : ∀ {β : Type} (k : List (D × D) -> Option β), Cz ks (kD w) (vD n) (((v, n') :: M).map (yG kD vD)) k = (match Br ks (kD w) (kD v) with
    | some true => k ((kD w, vD n) :: M.map (yG kD vD))
    | some false => Cz ks (kD w) (vD n) (M.map (yG kD vD)) fun l => k (yG kD vD (v, n') :: l)
    | none => none) := fun k => rfl
   by_cases hwv : w = v
   ·subst hwv
    refine ⟨(w, n) :: M, fun e he => ?_, by simp, fun e he => ?_, fun k => ?_⟩
    ·rcases List.mem_cons.1 he with rfl | he
     ·exact .inl rfl
     ·exact .inr (by simp [he])
    ·rcases List.mem_cons.1 he with rfl | he
     ·exact .inl rfl
     ·exact .inr (by simp [he])
    ·rw [e, H.eq _ _ hw hv, decide_eq_true rfl]
     rfl
   ·obtain ⟨M', h1, h2, h3, h4⟩ := Sl n hw M (fun e he => h e (by simp [he]))
    refine ⟨(v, n') :: M', fun e he => ?_, by simp [h2], fun e he => ?_, fun k => ?_⟩
    ·rcases List.mem_cons.1 he with rfl | he
     ·exact .inr (by simp)
     ·rcases h1 e he with h | h
      ·exact .inl h
      ·exact .inr (by simp [h])
    ·rcases List.mem_cons.1 he with rfl | he
     ·exact .inr (by simp)
     ·rcases h3 e he with h | h
      ·exact .inl h
      ·exact .inr (by simp [h])
    ·rw [e, H.eq _ _ hw hv, decide_eq_false hwv]
     exact h4 fun l => k (yG kD vD (v, n') :: l)
variable {sl : T D} {ob : T C} {nx : Pos} {lg : Option (T Bool)} {K : X -> Prop}
theorem WSt.lkpG {d id : Pos} {x i : RX} {w : κ} {z : D} {two : Bool} {M : List (κ × ν)} (hx : bE sl x = some (.mp id)) (hi : bE sl i = some (kD w)) (hob : ob.get id = some (.map (M.map (yG kD vD)))) (hw : ok w) (hM : ∀ e ∈ M, ok e.1)
 (h1 : ∀ n, (w, n) ∈ M -> Gu lg id fun lg => dL sl ob nx lg d K (bif two then .tp [vD n, .b true] else vD n)) (h2 : (∀ n, (w, n) ∉ M) -> Gu lg id fun lg => dL sl ob nx lg d K (bif two then .tp [z, .b false] else z)) : WSt (.lkp d z two ks x i) ⟨sl, ob, nx, lg⟩ K := by
 have hstep : step (.lkp d z two ks x i) sl ob nx lg = (match qF ks (kD w) (M.map (yG kD vD)) with
  | some (some v) => kE lg id fun lg => bif two then bJ sl ob nx lg d (.tp [v, .b true]) else bJ sl ob nx lg d v
  | some none => kE lg id fun lg => bif two then bJ sl ob nx lg d (.tp [z, .b false]) else bJ sl ob nx lg d z
  | none => none) := by
  show zM d _ _ _ x i sl ob nx lg = _
  unfold zM
  rw [hx, hi]
  simp only [hob, H.eq w w hw hw]
  rfl
 rcases Nq H (vD := vD) hw M hM with ⟨n, k1, k2⟩ | ⟨k1, k2⟩
 ·obtain ⟨l1, e1, h⟩ := jT (h1 n k1)
  obtain ⟨j1, j2⟩ := aV h
  refine ⟨_, ?_, j2⟩
  rw [hstep, k2, e1]
  cases two <;> exact j1
 ·obtain ⟨l1, e1, h⟩ := jT (h2 k1)
  obtain ⟨j1, j2⟩ := aV h
  refine ⟨_, ?_, j2⟩
  rw [hstep, k2, e1]
  cases two <;> exact j1
theorem WSt.mupG {id : Pos} {x i v : RX} {w : κ} {n : ν} {M : List (κ × ν)} (hx : bE sl x = some (.mp id)) (hi : bE sl i = some (kD w)) (hv : bE sl v = some (vD n)) (hob : ob.get id = some (.map (M.map (yG kD vD)))) (hw : ok w) (hM : ∀ e ∈ M, ok e.1)
 (h : ∀ M' : List (κ × ν), (∀ e ∈ M', e = (w, n) \/ e ∈ M) -> (w, n) ∈ M' -> (∀ e ∈ M, e.1 = w \/ e ∈ M') -> Lm lg id fun lg => T.setK id (.map (M'.map (yG kD vD))) ob fun ob => K ⟨sl, ob, nx, lg⟩) : WSt (.mup ks x i v) ⟨sl, ob, nx, lg⟩ K := by
 obtain ⟨M', h1, h2, h3, h4⟩ := Sl H (vD := vD) n hw M hM
 obtain ⟨l1, e1, h⟩ := nH (h M' h1 h2 h3)
 rw [T.setK_eq] at h
 refine ⟨_, ?_, h⟩
 show yN _ x i v sl ob nx lg = _
 unfold yN
 rw [hx, hi, hv]
 simp only [hob, H.eq w w hw hw, h4]
 unfold pC
 rw [e1]
 show (T.setK id _ ob fun ob => some ⟨sl, ob, nx, l1⟩ : Option X) = _
 rw [T.setK_eq]
end
open Go.Proofs
set_option maxRecDepth 100000
structure Pt where
 n : Int
 a0 : Bool
 a1 : Bool
 a2 : Bool
 a3 : Bool
 a4 : Bool
 a5 : Bool
 a6 : Bool
 a7 : Bool
deriving DecidableEq
def Ug (p : Pt) : D := .ag [.i .i64 p.n, .b p.a0, .b p.a1, .b p.a2, .b p.a3, .b p.a4, .b p.a5, .b p.a6, .b p.a7]
def Za : List LK := [.i .i64, .b, .b, .b, .b, .b, .b, .b, .b]
def Ig (p : Pt) : Prop := sL .i64 p.n = true
theorem sO : KeyOk Za Ug Ig := ⟨fun a b ha hb => by
 have ha : sL .i64 a.n = true := ha
 have hb : sL .i64 b.n = true := hb
 have hk : xJ .i64 .i64 = true := rfl
 obtain ⟨n, a0, a1, a2, a3, a4, a5, a6, a7⟩ := a
 obtain ⟨m, b0, b1, b2, b3, b4, b5, b6, b7⟩ := b
 simp only at ha hb
 simp only [Za, Ug, Br, FL, Rk, hk, ha, hb, Bool.and_self, cond_true, Option.some.injEq, kX, Bool.and_true]
 rw [Bool.eq_iff_iff]
 simp [Pt.mk.injEq]⟩
def GX (m : Mo) : Pt := ⟨m.n, nz (m.h 0), nz (m.h 1), nz (m.h 2), nz (m.h 3), nz (m.h 4), nz (m.h 5), nz (m.h 6), nz (m.h 7)⟩
def Lb (b : Bool) : D := .b b
abbrev dN := List (Pt × Bool)
def bT (M : dN) : List (D × D) := M.map (yG Ug Lb)
theorem mC (M : dN) : ∀ e ∈ bT M, Pu e.1 /\ Pu e.2 := fun e he => by
 obtain ⟨p, _, rfl⟩ := List.mem_map.1 he
 simp [yG, Ug, Lb, Pu, aO]
theorem dP {n : Nat} {M : dN} : KpC n (.map (bT M)) := fun e he => by
 obtain ⟨p, _, rfl⟩ := List.mem_map.1 he
 simp [yG, Ug, Lb, Kp, KpL, Pu]
def eT (M : dN) : T C := .n .e (some (.map (bT M))) .e
theorem fI (M : dN) : KpO 2 (eT M) := by
 show TAll (fun id c => id.nat < 2 /\ KpC 2 c) _
 exact TAll.some TAll.e ⟨by simp [Pos.nat], dP⟩ TAll.e
structure MOk (B : Bk) (M : dN) : Prop where
 wf : ∀ e ∈ M, Ig e.1
 ok : ∀ e ∈ M, ∀ (k : Nat) (Q : List Ln), okT B Q -> Q.length + k = B.ls.length -> GX (cX B Q) = e.1 -> e.2 = dA B k Q
theorem MOk.nil (B : Bk) : MOk B [] := ⟨fun e h => (by cases h), fun e h => (by cases h)⟩
theorem Nj {B : Bk} (Q : List Ln) (q : Nat) : nz ((cX B Q).h q) = Bv Q q := by
 have g1 := kL Q (q : Int) Q.length
 have g2 := kI Q ((q - 4 : Nat) : Int) Q.length
 show nz (if q < 4 then aZ Q (q : Int) Q.length + 1 else bC Q ((q - 4 : Nat) : Int) Q.length + 1) = Bv Q q
 unfold Bv nz
 by_cases hq : q < 4
 ·simp only [if_pos hq]
  by_cases h : 0 <= aZ Q (q : Int) Q.length
  ·rw [decide_eq_true h, decide_eq_false (by omega)]; rfl
  ·rw [decide_eq_false h, decide_eq_true (by omega)]; rfl
 ·simp only [if_neg hq]
  by_cases h : 0 <= bC Q ((q - 4 : Nat) : Int) Q.length
  ·rw [decide_eq_true h, decide_eq_false (by omega)]; rfl
  ·rw [decide_eq_false h, decide_eq_true (by omega)]; rfl
theorem Fs {B : Bk} (V : VB B) {k k' : Nat} {Q Q' : List Ln} (h : okT B Q) (h' : okT B Q') (hk : Q.length + k = B.ls.length) (hk' : Q'.length + k' = B.ls.length) (he : GX (cX B Q') = GX (cX B Q)) : dA B k' Q' = dA B k Q := by
 obtain ⟨e, f0, f1, f2, f3, f4, f5, f6, f7⟩ := Pt.mk.inj he
 have e : (Q'.length : Int) = (Q.length : Int) := e
 have e : Q'.length = Q.length := by omega
 have ek : k' = k := by omega
 subst ek
 refine KF V k' h h' e hk fun q hq => ?_
 rw [Nj, Nj] at f0 f1 f2 f3 f4 f5 f6 f7
 have : q = 0 \/ q = 1 \/ q = 2 \/ q = 3 \/ q = 4 \/ q = 5 \/ q = 6 \/ q = 7 := by omega
 rcases this with rfl | rfl | rfl | rfl | rfl | rfl | rfl | rfl <;> assumption
open Classical in
def IT (B : Bk) (k : Nat) (m : Mo) : Bool := decide (∃ Q, okT B Q /\ Q.length + k = B.ls.length /\ m = cX B Q /\ dA B k Q = true)
open Classical in
theorem FM {B : Bk} (V : VB B) {k : Nat} {Q : List Ln} (h : okT B Q) (hk : Q.length + k = B.ls.length) : IT B k (cX B Q) = dA B k Q := by
 unfold IT
 cases hc : dA B k Q with
 | true => exact decide_eq_true ⟨Q, h, hk, rfl, hc⟩
 | false =>
   refine decide_eq_false ?_
   rintro ⟨Q', h1, h2, h3, h4⟩
   rw [Fs V h h1 hk h2 (by rw [h3])] at h4
   rw [hc] at h4; cases h4
def gI (B : Bk) : List D := [.i .i64 B.n, .i .i64 B.coin, .i .i64 B.box, .lst 3 (aC aI B.ls), .lst 3 (aC cY B.cs)]
theorem jP (B : Bk) : aO (gI B) := by simp [gI, aO, Pu, aB, aE]
theorem Am {B : Bk} {d : D} {rest : List D} (hr : aO rest) : ∀ γ w, CvL γ γ w (.ag [.i .i64 B.n, .i .i64 B.coin, .i .i64 B.box, .lst 3 (aC aI B.ls), .lst 3 (aC cY B.cs), d] :: rest) (.ag [.i .i64 B.n, .i .i64 B.coin, .i .i64 B.box, .lst 3 (aC aI B.ls), .lst 3 (aC cY B.cs), .any] :: rest) := fun γ w =>
 .cons (.ag (.cons (.pu (fun _ h => h) trivial) (.cons (.pu (fun _ h => h) trivial) (.cons (.pu (fun _ h => h) trivial) (.cons (.pu (fun _ h => h) (aB _)) (.cons (.pu (fun _ h => h) (aE _)) (.cons .any .nil))))))) (.pu (fun _ h => h) hr)
def Lf (B : Bk) (m : Mo) : T D := (.n (.n (.n .e (some (.pt (.o .h) 0 0)) .e) none .e) none (.n (.n .e (some (.pt (.i .h) 0 0)) .e) none (.n .e (some (.fn p156 [] [.pl (jF B.n B.coin B.box B.ls B.cs) 0, .pl (dI m) 0])) .e)))
def LV (B : Bk) (m : Mo) : Mns (dN × Bool) where
 o := fun i s => match i with
   | 1 => some (.map (bT s.1))
   | 2 => some (.cells false [.o (.fn p123 [.ag (gI B ++ [.mp .h])] []) 0] 1)
   | 3 => some (.cells false [.o (.b s.2) 0] 1)
   | 4 => some (.lp (Lf B m) [p8] 11 (mB (aN Try.f139) 0) (mQ (aN Try.f139) 0) (bif s.2 then .done else .ready) (bif s.2 then some .ret else none))
   | _ => none
theorem QD {B : Bk} {m : Mo} : ∀ s d, (Lf B m).get s = some d -> Kp 16 d := by
 show TAll (fun _ d => Kp 16 d) (Lf B m)
 unfold Lf
 repeat' first | exact TAll.e | refine TAll.some ?_ ?_ ?_ | refine TAll.none ?_ ?_
 all_goals simp [Kp, KpL, Pu, aO, jS, fU, Pos.nat]
theorem CX {B : Bk} {m : Mo} (s : dN × Bool) : KpO 16 ((LV B m).base s) := by
 show TAll (fun id c => id.nat < 16 /\ KpC 16 c) _
 unfold Mns.base bQ LV
 repeat' first | exact TAll.e | refine TAll.some ?_ ?_ ?_ | refine TAll.none ?_ ?_
 all_goals refine ⟨by simp [Pos.nat], ?_⟩
 all_goals first
  | exact dP
  | exact QD
  | (refine KpL.all ?_; simp [gI, KpL, Kp, Cell.d, Pu, aB, aE, Pos.nat])
def Ir (B : Bk) (k : Nat) : Prop := ∀ M, MOk B M -> ∀ Q, okT B Q -> Q.length + k = B.ls.length -> ∃ M', MOk B M' /\ CallOk Try.prog p123.ix [.ag (gI B ++ [.mp .h]), .ag (dI (cX B Q))] (eT M) (.o .h) none (.b (dA B k Q)) (eT M') (.o .h) none
def Zw (B : Bk) (_ : List Mo) (s : dN × Bool) : Prop := MOk B s.1 /\ s.2 = false
def Zf (B : Bk) (k : Nat) (s : dN × Bool) (m : Mo) (s' : dN × Bool) (g : Bool) : Prop := MOk B s'.1 /\ s'.2 = IT B k m /\ g = !s'.2
theorem CallOk.mapHere {f : Nat} {M M' : dN} {ds : List D} {t : Bool} (Hc : CallOk Try.prog f ds (eT M) (.o .h) none (.b t) (eT M') (.o .h) none) {ob : T C} {nx : Pos} {lg : Option (T Bool)} (hid : ob.get .h = some (.map (bT M))) (hlt : 1 < nx.nat) (hd : ∀ γ w, CvL γ (GC .h γ) w ds ds) : CallOk Try.prog f ds ob nx lg (.b t) (T.set .h (.map (bT M')) ob) nx (Hm lg .h) :=
 CallOk.oneG Hc rfl (mC M) (mC M') hid hlt hd (fun γ γ' w => .pu qG trivial)
theorem VG {B : Bk} (V : VB B) {k : Nat} (hcan : Ir B k) {Q : List Ln} (m : Mo) (hQ : okT B Q) (hk : Q.length + (k + 1) = B.ls.length) : MnsOk (LV B m) (.o (.o .h)) (Zw B) (Zf B k) ((kY B Q).map (cX B)) := by
 refine ⟨by simp [Pos.nat], CX, ?_, ?_⟩
 ·rintro h ⟨M, f⟩ a ⟨M', f'⟩ _ _ ⟨h1, h2, h3⟩
  exact ⟨h1, by simpa using h3⟩
 ·rintro h ⟨M, f⟩ ⟨hM, hf⟩ a hpre
  obtain ⟨T', hT', rfl⟩ := List.mem_map.1 (hpre.subset (show a ∈ h ++ [a] by simp))
  have hf : f = false := hf
  subst hf
  obtain ⟨ho, hl⟩ := hQ.step hT'
  have hM : MOk B M := hM
  obtain ⟨M', hM', C⟩ := hcan M hM T' ho (by omega)
  have hcm : dA B k T' = IT B k (cX B T') := (FM V ho (by omega)).symm
  refine RndOk.runE (sl0 := Lf B m) rfl Dc DX ⟨_, rfl, ?_⟩
  unfold Mns.base bQ LV Lf
  conv => whnf
  refine Qg ?_
  refine ⟨rfl, rfl, _, _, _, _, _, _, rfl, ?_⟩
  conv => whnf
  refine Qg ?_
  refine WCall.of (CallOk.mapHere C rfl (show 1 < Pos.nat Nh from by decide) (fun γ w => .cons (.ag (.app (.pu kP (jP B)) rfl (.cons .mpI .nil))) (.cons (.ag (.pu kP (fU _))) .nil))) ?_; conv => whnf
  rw [hcm]
  cases hc : IT B k (cX B T') with
  | true =>
    repeat' ((first | refine Qw ?_ | refine Qd (fun h => ?_) (fun h => ?_)) <;> conv => whnf)
    refine ⟨_, _, _, _, _, _, _, (LV B m).base (M', true), rfl, rfl, Shr.kp ?_ (CX _), (M', true), ⟨hM', hc.symm, rfl⟩, rfl⟩
    unfold Mns.base bQ LV Lf
    repeat' first | exact T.le_refl _ | exact T.le_e _ | refine T.le_some ?_ rfl ?_ | refine T.le_same ?_ ?_ | refine T.le_none ?_ ?_
  | false =>
    repeat' ((first | refine Qw ?_ | refine Qd (fun h => ?_) (fun h => ?_)) <;> conv => whnf)
    refine ⟨_, _, _, _, _, _, _, (LV B m).base (M', false), rfl, rfl, Shr.kp ?_ (CX _), (M', false), ⟨hM', hc.symm, rfl⟩, rfl⟩
    unfold Mns.base bQ LV Lf
    repeat' first | exact T.le_refl _ | exact T.le_e _ | refine T.le_some ?_ rfl ?_ | refine T.le_same ?_ ?_ | refine T.le_none ?_ ?_
theorem KV {B : Bk} (V : VB B) {k : Nat} : ∀ (L : List (List Ln)) {s s' : dN × Bool} {g : Bool}, (∀ T' ∈ L, okT B T' /\ T'.length + k = B.ls.length) -> MOk B s.1 /\ s.2 = false -> Fld (Zf B k) (L.map (cX B)) s s' g -> MOk B s'.1 /\ s'.2 = L.any (dA B k) /\ g = !s'.2
 | [], s, s', g, _, hI, h => by
   cases h
   exact ⟨hI.1, hI.2, by rw [hI.2]; rfl⟩
 | T' :: L, s, s', g, hL, hI, h => by
   obtain ⟨ho, hl⟩ := hL T' (by simp)
   have hc := FM V ho hl
   cases h with
   | stop h =>
     obtain ⟨h1, h2, h3⟩ := h
     rw [hc] at h2
     have h4 : dA B k T' = true := by rw [<- h2]; simpa using h3.symm
     exact ⟨h1, by rw [h2, List.any_cons, h4]; rfl, h3⟩
   | go h k2 =>
     obtain ⟨h1, h2, h3⟩ := h
     rename_i s1
     have h5 : s1.2 = false := by simpa using h3.symm
     rw [hc, h5] at h2
     obtain ⟨q1, q2, q3⟩ := KV V L (fun x hx => hL x (by simp [hx])) ⟨h1, h5⟩ k2
     exact ⟨q1, by rw [q2, List.any_cons, <- h2]; rfl, q3⟩
theorem Ly {B : Bk} (V : VB B) {k : Nat} (hcan : Ir B k) {Q : List Ln} (hQ : okT B Q) (hk : Q.length + (k + 1) = B.ls.length) (M : dN) (hM : MOk B M) :
 ∃ M', MOk B M' /\ CallOk Try.prog p140.ix [.fn p156 [] [.pl (jF B.n B.coin B.box B.ls B.cs) 0, .pl (dI (cX B Q)) 0], .fn p123 [.ag (gI B ++ [.mp .h])] []] (eT M) (.o .h) none (.b ((kY B Q).any (dA B k))) (eT M') (.o .h) none := by
 obtain ⟨v, ob', ⟨M', hM', rfl, rfl⟩, C⟩ := CallOk.runE (Φ := fun v ob' => ∃ M', MOk B M' /\ v = .b ((kY B Q).any (dA B k)) /\ ob' = eT M') (ob := eT M) (nx := .o .h) (nx' := .o .h) (ds := [.fn p156 [] [.pl (jF B.n B.coin B.box B.ls B.cs) 0, .pl (dI (cX B Q)) 0], .fn p123 [.ag (gI B ++ [.mp .h])] []]) Si (by simp) (Nat.le_refl _) (by
  conv => whnf
  refine Qg ?_
  refine Rn.le (a := ⟨Lf B (cX B Q), bQ (some (.map (bT M))) (some (.cells false [.o (.fn p123 [.ag (gI B ++ [.mp .h])] []) 0] 1)) (some (.cells false [.o (.b false) 0] 1)) none none none none none none none none none none none none none none none none none, .o (.o .h), none⟩) ?_ ?_
  ·obtain ⟨_, _, ⟨s', g, F, rfl, rfl⟩, Cn⟩ := NC (LV B (cX B Q)) (.o (.o .h)) _ _ V (by omega) (VG V hcan (cX B Q) hQ hk) (M, false) ⟨hM, rfl⟩
   obtain ⟨M', f'⟩ := s'
   obtain ⟨q1, q2, q3⟩ := KV V _ (fun T' h => by obtain ⟨h1, h2⟩ := hQ.step h; exact ⟨h1, by omega⟩) (show MOk B (M, false).1 /\ (M, false).2 = false from ⟨hM, rfl⟩) F
   have q1 : MOk B M' := q1
   have q2 : f' = (kY B Q).any (dA B k) := q2
   have q3 : g = !f' := q3
   rw [<- q2]
   cases f' with
   | true =>
     refine Rn.rf rfl rfl (Cn.lower (by decide)) rfl (by simp) ?_; conv => whnf
     refine Qg ?_
     refine ⟨_, _, ⟨M', q1, rfl, rfl⟩, ⟨.inr rfl, ⟨_, rfl, .pu trivial⟩, Shr.kp ?_ (fI M')⟩⟩
     show T.le (T.n .e (some (.map (bT M'))) .e : T Ev.C) _
     refine T.le_some (T.le_e _) rfl (T.le_e _)
   | false =>
     refine Rn.rf rfl rfl (Cn.lower (by decide)) rfl (by simp) ?_; conv => whnf
     refine Qg ?_
     refine ⟨_, _, ⟨M', q1, rfl, rfl⟩, ⟨.inr rfl, ⟨_, rfl, .pu trivial⟩, Shr.kp ?_ (fI M')⟩⟩
     show T.le (T.n .e (some (.map (bT M'))) .e : T Ev.C) _
     refine T.le_some (T.le_e _) rfl (T.le_e _)
  ·refine X.le.mk ?_ ?_ (Nat.le_refl _) rfl rfl
   ·unfold Lf
    exact eN
   ·unfold bQ
    repeat' first | exact T.le_refl _ | exact T.le_e _ | refine T.le_some ?_ rfl ?_ | refine T.le_same ?_ ?_ | refine T.le_ee ?_ ?_ | refine T.le_none ?_ ?_)
 exact ⟨M', hM', C⟩
theorem CH (B : Bk) (hc : B.cs.length <= 1000) (m : Mo) (d : D) : PureF Try.prog p80.ix [.ag [.i .i64 B.n, .i .i64 B.coin, .i .i64 B.box, .lst 3 (aC aI B.ls), .lst 3 (aC cY B.cs), d], .ag (dI m)] (.b (dE B.cs m)) :=
 (zB B.n B.coin B.box B.ls B.cs m hc).sub (Am (by simp [aO, Pu, fU]))
theorem vY (B : Bk) (m : Mo) (d : D) : PureF Try.prog p138.ix [.ag [.i .i64 B.n, .i .i64 B.coin, .i .i64 B.box, .lst 3 (aC aI B.ls), .lst 3 (aC cY B.cs), d], .ag (dI m)] (.fn p156 [] [.pl (jF B.n B.coin B.box B.ls B.cs) 0, .pl (dI m) 0]) :=
 (Lz B.n B.coin B.box B.ls B.cs m).sub (Am (by simp [aO, Pu, fU]))
theorem DD (B : Bk) (k : Nat) (Q : List Ln) : dA B (k + 1) Q = (dE B.cs (cX B Q) && (kY B Q).any (dA B k)) := rfl
theorem Ez {B : Bk} {Q : List Ln} (h : dE B.cs (cX B Q) = false) : ∀ k, dA B k Q = false
 | 0 => h
 | k + 1 => by rw [DD, h]; rfl
theorem MOk.put {B : Bk} (V : VB B) {M M' : dN} {k : Nat} {Q : List Ln} (h : MOk B M) (hQ : okT B Q) (hk : Q.length + k = B.ls.length) (hw : Ig (GX (cX B Q))) (h1 : ∀ e ∈ M', e = (GX (cX B Q), dA B k Q) \/ e ∈ M) : MOk B M' := by
 refine ⟨fun e he => ?_, fun e he k' Q' q1 q2 q3 => ?_⟩
 ·rcases h1 e he with rfl | he
  ·exact hw
  ·exact h.wf e he
 ·rcases h1 e he with rfl | he
  ·exact Fs V q1 hQ q2 hk q3.symm
  ·exact h.ok e he k' Q' q1 q2 q3
theorem Af {B : Bk} (V : VB B) : ∀ k, Ir B k := by
 intro k
 induction k with
 | zero =>
   intro M hM Q hQ hk
   have e1 := aD aI B.ls
   have hlen := V.len
   have hmn : (cX B Q).n = (Q.length : Int) := rfl
   have hw : Ig (GX (cX B Q)) := cK (show (_ : Int) <= (Q.length : Int) by omega) (show (Q.length : Int) <= _ by omega)
   have cP := Fl (cX B Q)
   have cR := CH B (by have := V.clen; omega) (cX B Q) (.mp .h)
   have cN := vY B (cX B Q) (.mp .h)
   obtain ⟨v, ob', ⟨M', hM', rfl, rfl⟩, Hc⟩ := CallOk.runE (Φ := fun v ob' => ∃ M', MOk B M' /\ v = .b (dA B 0 Q) /\ ob' = eT M') (ob := eT M) (nx := .o .h) (nx' := .o .h) (ds := [.ag (gI B ++ [.mp .h]), .ag (dI (cX B Q))]) MW (by simp) (Nat.le_refl _) (by
    unfold gI
    conv => whnf
    repeat' ((first | refine Qz ?_ | refine Qf cP ?_) <;> conv => whnf)
    refine WSt.lkpG sO (vD := Lb) (w := GX (cX B Q)) (M := M) rfl rfl rfl hw hM.wf (fun b hb => ?_) (fun hno => ?_)
    ·have hb' := hM.ok _ hb 0 Q hQ hk rfl
     have hb' : b = dA B 0 Q := hb'
     subst hb'
     conv => whnf
     repeat' ((first | refine Qw ?_ | refine Qd (fun h => ?_) (fun h => ?_)) <;> conv => whnf)
     refine ⟨_, _, ⟨M, hM, rfl, rfl⟩, ⟨.inr rfl, ⟨_, rfl, .pu trivial⟩, Shr.kp ?_ (fI M)⟩⟩
     show T.le (T.n .e (some (.map (bT M))) .e : T Ev.C) _
     refine T.le_some (T.le_e _) rfl (T.le_e _)
    ·cases hr : dE B.cs (cX B Q) with
     | false =>
       rw [hr] at cR
       have hcan := Ez hr 0
       conv => whnf
       repeat' ((first | refine Qw ?_ | refine Qf cR ?_ | refine Qd (fun h => ?_) (fun h => ?_)) <;> conv => whnf)
       refine WSt.mupG sO (vD := Lb) (w := GX (cX B Q)) (n := false) (M := M) rfl rfl rfl rfl hw hM.wf (fun M2 h1 _ _ => ?_); conv => whnf
       repeat' ((first | refine Qw ?_ | refine Qd (fun h => ?_) (fun h => ?_)) <;> conv => whnf)
       refine ⟨_, _, ⟨M2, hM.put V hQ hk hw (by rw [hcan]; exact h1), rfl, rfl⟩, ⟨.inr rfl, ⟨_, rfl, by rw [hcan]; exact .pu trivial⟩, Shr.kp ?_ (fI M2)⟩⟩
       show T.le (T.n .e (some (.map (bT M2))) .e : T Ev.C) _
       refine T.le_some (T.le_e _) rfl (T.le_e _)
     | true =>
       rw [hr] at cR
       have hcan : dA B 0 Q = true := hr
       conv => whnf
       repeat' ((first | refine Qw ?_ | refine Qf cR ?_ | refine Qd (fun h => ?_) (fun h => ?_)) <;> conv => whnf)
       refine WSt.mupG sO (vD := Lb) (w := GX (cX B Q)) (n := true) (M := M) rfl rfl rfl rfl hw hM.wf (fun M2 h1 _ _ => ?_); conv => whnf
       repeat' ((first | refine Qw ?_ | refine Qd (fun h => ?_) (fun h => ?_)) <;> conv => whnf)
       refine ⟨_, _, ⟨M2, hM.put V hQ hk hw (by rw [hcan]; exact h1), rfl, rfl⟩, ⟨.inr rfl, ⟨_, rfl, by rw [hcan]; exact .pu trivial⟩, Shr.kp ?_ (fI M2)⟩⟩
       show T.le (T.n .e (some (.map (bT M2))) .e : T Ev.C) _
       refine T.le_some (T.le_e _) rfl (T.le_e _))
   exact ⟨M', hM', Hc⟩
 | succ k ih =>
   intro M hM Q hQ hk
   have e1 := aD aI B.ls
   have hlen := V.len
   have hmn : (cX B Q).n = (Q.length : Int) := rfl
   have hw : Ig (GX (cX B Q)) := cK (show (_ : Int) <= (Q.length : Int) by omega) (show (Q.length : Int) <= _ by omega)
   have cP := Fl (cX B Q)
   have cR := CH B (by have := V.clen; omega) (cX B Q) (.mp .h)
   have cN := vY B (cX B Q) (.mp .h)
   obtain ⟨v, ob', ⟨M', hM', rfl, rfl⟩, Hc⟩ := CallOk.runE (Φ := fun v ob' => ∃ M', MOk B M' /\ v = .b (dA B (k + 1) Q) /\ ob' = eT M') (ob := eT M) (nx := .o .h) (nx' := .o .h) (ds := [.ag (gI B ++ [.mp .h]), .ag (dI (cX B Q))]) MW (by simp) (Nat.le_refl _) (by
    unfold gI
    conv => whnf
    repeat' ((first | refine Qz ?_ | refine Qf cP ?_) <;> conv => whnf)
    refine WSt.lkpG sO (vD := Lb) (w := GX (cX B Q)) (M := M) rfl rfl rfl hw hM.wf (fun b hb => ?_) (fun hno => ?_)
    ·have hb' := hM.ok _ hb (k + 1) Q hQ hk rfl
     have hb' : b = dA B (k + 1) Q := hb'
     subst hb'
     conv => whnf
     repeat' ((first | refine Qw ?_ | refine Qd (fun h => ?_) (fun h => ?_)) <;> conv => whnf)
     refine ⟨_, _, ⟨M, hM, rfl, rfl⟩, ⟨.inr rfl, ⟨_, rfl, .pu trivial⟩, Shr.kp ?_ (fI M)⟩⟩
     show T.le (T.n .e (some (.map (bT M))) .e : T Ev.C) _
     refine T.le_some (T.le_e _) rfl (T.le_e _)
    ·cases hr : dE B.cs (cX B Q) with
     | false =>
       rw [hr] at cR
       have hcan := Ez hr (k + 1)
       conv => whnf
       repeat' ((first | refine Qw ?_ | refine Qf cR ?_ | refine Qd (fun h => ?_) (fun h => ?_)) <;> conv => whnf)
       refine WSt.mupG sO (vD := Lb) (w := GX (cX B Q)) (n := false) (M := M) rfl rfl rfl rfl hw hM.wf (fun M2 h1 _ _ => ?_); conv => whnf
       repeat' ((first | refine Qw ?_ | refine Qd (fun h => ?_) (fun h => ?_)) <;> conv => whnf)
       refine ⟨_, _, ⟨M2, hM.put V hQ hk hw (by rw [hcan]; exact h1), rfl, rfl⟩, ⟨.inr rfl, ⟨_, rfl, by rw [hcan]; exact .pu trivial⟩, Shr.kp ?_ (fI M2)⟩⟩
       show T.le (T.n .e (some (.map (bT M2))) .e : T Ev.C) _
       refine T.le_some (T.le_e _) rfl (T.le_e _)
     | true =>
       rw [hr] at cR
       have hcan : dA B (k + 1) Q = (kY B Q).any (dA B k) := by rw [DD, hr]; rfl
       obtain ⟨M1, hM1, Hs⟩ := Ly V ih hQ hk M hM
       conv => whnf
       repeat' ((first | refine Qw ?_ | refine Qf cR ?_ | refine Qf cN ?_ | refine Qd (fun h => ?_) (fun h => ?_)) <;> conv => whnf)
       refine WCall.of (CallOk.mapHere Hs rfl (show 1 < Pos.nat (.i (.o .h)) from by decide) (fun γ w => .cons (.pu kP (by simp [Pu, aO, jS, fU])) (.cons (.fn (.cons (.ag (.app (.pu kP (jP B)) rfl (.cons .mpI .nil))) .nil) .nil) .nil))) ?_; conv => whnf
       repeat' ((first | refine Qw ?_ | refine Qd (fun h => ?_) (fun h => ?_)) <;> conv => whnf)
       refine WSt.mupG sO (vD := Lb) (w := GX (cX B Q)) (n := (kY B Q).any (dA B k)) (M := M1) rfl rfl rfl rfl hw hM1.wf (fun M2 h1 _ _ => ?_); conv => whnf
       repeat' ((first | refine Qw ?_ | refine Qd (fun h => ?_) (fun h => ?_)) <;> conv => whnf)
       refine ⟨_, _, ⟨M2, hM1.put V hQ hk hw (by rw [hcan]; exact h1), rfl, rfl⟩, ⟨.inr rfl, ⟨_, rfl, by rw [hcan]; exact .pu trivial⟩, Shr.kp ?_ (fI M2)⟩⟩
       show T.le (T.n .e (some (.map (bT M2))) .e : T Ev.C) _
       refine T.le_some (T.le_e _) rfl (T.le_e _))
   exact ⟨M', hM', Hc⟩
def lI (B : Bk) : Bool := dA B B.ls.length []
theorem ED (B : Bk) (d : D) : PureF Try.prog p105.ix [.ag [.i .i64 B.n, .i .i64 B.coin, .i .i64 B.box, .lst 3 (aC aI B.ls), .lst 3 (aC cY B.cs), d]] (.ag (dI (cX B []))) :=
 (sX B.n B.coin B.box B.ls B.cs []).sub (Am trivial)
theorem mG {B : Bk} (V : VB B) (M : dN) (hM : MOk B M) : ∃ M', MOk B M' /\ CallOk Try.prog p94.ix [.ag (gI B ++ [.mp .h])] (eT M) (.o .h) none (.b (lI B)) (eT M') (.o .h) none := by
 have cO := ED B (.mp .h)
 obtain ⟨M1, hM1, Hc⟩ := Af V B.ls.length M hM [] (okT.nil B) (by simp)
 obtain ⟨v, ob', ⟨M', hM', rfl, rfl⟩, Hc⟩ := CallOk.runE (Φ := fun v ob' => ∃ M', MOk B M' /\ v = .b (lI B) /\ ob' = eT M') (ob := eT M) (nx := .o .h) (nx' := .o .h) (ds := [.ag (gI B ++ [.mp .h])]) YI (by simp) (Nat.le_refl _) (by
  unfold gI
  conv => whnf
  repeat' ((first | refine Qz ?_ | refine Qf cO ?_) <;> conv => whnf)
  refine WCall.of (CallOk.mapHere Hc rfl (show 1 < Pos.nat (.i .h) from by decide) (fun γ w => .cons (.ag (.app (.pu kP (jP B)) rfl (.cons .mpI .nil))) (.cons (.ag (.pu kP (fU _))) .nil))) ?_; conv => whnf
  refine Qg ?_
  refine ⟨_, _, ⟨M1, hM1, rfl, rfl⟩, ⟨.inr rfl, ⟨_, rfl, .pu trivial⟩, Shr.kp ?_ (fI M1)⟩⟩
  show T.le (T.n .e (some (.map (bT M1))) .e : T Ev.C) _
  refine T.le_some (T.le_e _) rfl (T.le_e _))
 exact ⟨M', hM', Hc⟩
theorem ID (B : Bk) : CallOk Try.prog p75.ix [.ag (gI B)] .e .h none (.ag (gI B ++ [.mp .h])) (eT []) (.o .h) none := by
 have Hc : CallOk Try.prog p75.ix [.ag (gI B)] .e .h none (.ag (gI B ++ [.mp (.i .h)])) (.n .e none (.n .e (some (.map [])) .e)) (.o (.o .h)) none := by
  refine CallOk.run RH (by simp) (by simp [Pos.nat]) ?_
  unfold gI
  conv => whnf
  refine Qg ?_
  refine ⟨.inr rfl, ⟨_, rfl, .ag ?_⟩, ?_⟩
  ·repeat' first | exact FzL.nil | refine FzL.cons ?_ ?_
   all_goals first
    | exact .pu trivial
    | exact .pu (aB _)
    | exact .pu (aE _)
    | exact .kmp (by simp [Pos.nat])
  ·refine Shr.kp ?_ ?_
   ·exact eN
   ·show TAll (fun id c => id.nat < 4 /\ KpC 4 c) _
    repeat' first | exact TAll.e | refine TAll.some ?_ ?_ ?_ | refine TAll.none ?_ ?_
    exact ⟨by simp [Pos.nat], fun e h => by cases h⟩
 exact Hc.toH (a := .i .h) rfl (fun e h => by cases h) fun γ γ' w h1 h2 him => .ag (.app (.pu him (jP B)) rfl (.cons (.mpH h1 h2) .nil))
def sE (n coin box : Int) (ls : List Ln) (cs : List Ct) (t : Bool) : Int :=
 if aS n coin box ls cs ≠ 0 then aS n coin box ls cs else bif !t then 2 else bif !lI (B5 n coin box ls cs) then 11 else 0
theorem CallOk.mapAt {f : Nat} {M M' : dN} {ds ds' : List D} {t : D} (Hc : CallOk Try.prog f ds (eT M) (.o .h) none t (eT M') (.o .h) none) (ht : Pu t) {id : Pos} {ob : T C} {nx : Pos} {lg : Option (T Bool)} (hid : ob.get id = some (.map (bT M))) (hlt : id.nat < nx.nat) (hd : ∀ γ w, CvL γ (GC id γ) w ds' ds) : CallOk Try.prog f ds' ob nx lg t (T.set id (.map (bT M')) ob) nx (Hm lg id) :=
 CallOk.oneG Hc rfl (mC M) (mC M') hid hlt hd (fun γ γ' w => .pu qG ht)
theorem jX {B : Bk} {id : Pos} {rest : List D} (hr : aO rest) : ∀ γ w, CvL γ (GC id γ) w (.ag (gI B ++ [.mp id]) :: rest) (.ag (gI B ++ [.mp .h]) :: rest) := fun γ w => .cons (.ag (.app (.pu kP (jP B)) rfl (.cons .mpI .nil))) (.pu kP hr)
theorem oI {B : Bk} {ob : T C} {nx : Pos} {lg : Option (T Bool)} : CallOk Try.prog p75.ix [.ag (gI B)] ob nx lg (.ag (gI B ++ [.mp nx])) (T.set nx (.map (bT [])) ob) nx.succ (Hm lg nx) :=
 CallOk.newG (ID B) rfl (mC []) (by simp only [aO, and_true]; exact jP B) (fun γ γ' w => .ag (.app (.pu qG (jP B)) rfl (.cons .mpO .nil)))
def Rs : List D := [.i .i64 0, .i .i64 0, .i .i64 0, .ns, .ns, .nm]
theorem qO (n coin box : Int) (ls : List Ln) (cs : List Ct) (t : Bool) (h : sE n coin box ls cs t ≠ 0) : PureF Try.prog p85.ix [.ag (gI (B5 n coin box ls cs)), .b t] (.tp [.ag Rs, .i .i64 (sE n coin box ls cs t)]) := by
 have cF := fN n coin box ls cs
 unfold sE at h ⊢
 unfold gI B5 Rs
 by_cases hf : aS n coin box ls cs ≠ 0
 ·rw [if_pos hf]
  refine PureF.run MP (by simp) (by simp [aO, dF, Pu, aH, aB, aE]) ?_; conv => whnf
  repeat' ((first | refine Qw ?_ | refine Qf cF ?_ | refine Qd (fun h => ?_) (fun h => ?_)) <;> conv => whnf)
  all_goals first
   | (exfalso; omega)
   | (refine ⟨.inr rfl, _, rfl, .tp (.cons (.ag ?_) (.cons (.pu trivial) .nil))⟩
      repeat' first | exact FzL.nil | refine FzL.cons ?_ ?_
      all_goals exact .pu trivial)
 ·have hf : aS n coin box ls cs = 0 := by omega
  rw [hf] at cF
  cases t with
  | false =>
    rw [if_neg (by omega)]
    refine PureF.run MP (by simp) (by simp [aO, dF, Pu, aH, aB, aE]) ?_; conv => whnf
    repeat' ((first | refine Qw ?_ | refine Qf cF ?_ | refine Qd (fun h => ?_) (fun h => ?_)) <;> conv => whnf)
    all_goals first
     | (exfalso; omega)
     | (refine ⟨.inr rfl, _, rfl, .tp (.cons (.ag ?_) (.cons (.pu trivial) .nil))⟩
        repeat' first | exact FzL.nil | refine FzL.cons ?_ ?_
        all_goals exact .pu trivial)
  | true =>
    cases hh : lI (B5 n coin box ls cs) with
    | true => rw [if_neg (by omega), hh] at h; exact absurd rfl h
    | false =>
      obtain ⟨M1, hM1, Hc⟩ := mG (VB.of hf) [] (MOk.nil _)
      rw [hh] at Hc
      rw [if_neg (by omega), show lI ⟨n, coin, box, ls, cs⟩ = false from hh]
      refine PureF.run MP (by simp) (by simp [aO, dF, Pu, aH, aB, aE]) ?_; conv => whnf
      repeat' ((first | refine Qw ?_ | refine Qf cF ?_ | refine Qd (fun h => ?_) (fun h => ?_)) <;> conv => whnf)
      refine WCall.of (oI (B := B5 n coin box ls cs)) ?_; conv => whnf
      repeat' ((first | refine Qw ?_ | refine Qd (fun h => ?_) (fun h => ?_)) <;> conv => whnf)
      refine WCall.of (CallOk.mapAt Hc trivial (id := .i .h) rfl (show 3 < Pos.nat (.i (.o .h)) from by decide) (jX trivial)) ?_; conv => whnf
      repeat' ((first | refine Qw ?_ | refine Qd (fun h => ?_) (fun h => ?_)) <;> conv => whnf)
      refine ⟨.inr rfl, _, rfl, .tp (.cons (.ag ?_) (.cons (Fz.i rfl) .nil))⟩
      repeat' first | exact FzL.nil | refine FzL.cons ?_ ?_
      all_goals exact .pu trivial
theorem qN (n coin box : Int) (ls : List Ln) (cs : List Ct) (h : sE n coin box ls cs true = 0) : ∃ M, MOk (B5 n coin box ls cs) M /\ CallOk Try.prog p85.ix [.ag (gI (B5 n coin box ls cs)), .b true] .e .h none (.tp [.ag (gI (B5 n coin box ls cs) ++ [.mp .h]), .i .i64 0]) (eT M) (.o .h) none := by
 have cF := fN n coin box ls cs
 unfold sE at h
 by_cases hf : aS n coin box ls cs ≠ 0
 ·rw [if_pos hf] at h; exact absurd h hf
 have hf : aS n coin box ls cs = 0 := by omega
 rw [hf] at cF
 rw [if_neg (by omega)] at h
 cases hh : lI (B5 n coin box ls cs) with
 | false => rw [hh] at h; cases h
 | true =>
   obtain ⟨M1, hM1, Hc⟩ := mG (VB.of hf) [] (MOk.nil _)
   rw [hh] at Hc
   refine ⟨M1, hM1, ?_⟩
   have Hs : CallOk Try.prog p85.ix [.ag (gI (B5 n coin box ls cs)), .b true] .e .h none (.tp [.ag (gI (B5 n coin box ls cs) ++ [.mp (.i .h)]), .i .i64 0]) (.n .e none (.n .e (some (.map (bT M1))) .e)) (.o (.o .h)) none := by
    refine CallOk.run MP (by simp) (by simp [Pos.nat]) ?_
    unfold gI B5
    conv => whnf
    repeat' ((first | refine Qw ?_ | refine Qf cF ?_ | refine Qd (fun h => ?_) (fun h => ?_)) <;> conv => whnf)
    refine WCall.of (oI (B := B5 n coin box ls cs)) ?_; conv => whnf
    repeat' ((first | refine Qw ?_ | refine Qd (fun h => ?_) (fun h => ?_)) <;> conv => whnf)
    refine WCall.of (CallOk.mapAt Hc trivial (id := .i .h) rfl (show 3 < Pos.nat (.i (.o .h)) from by decide) (jX trivial)) ?_; conv => whnf
    repeat' ((first | refine Qw ?_ | refine Qd (fun h => ?_) (fun h => ?_)) <;> conv => whnf)
    refine ⟨.inr rfl, ⟨_, rfl, .tp (.cons (.ag ?_) (.cons (.pu trivial) .nil))⟩, ?_⟩
    ·repeat' first | exact FzL.nil | refine FzL.cons ?_ ?_
     all_goals first
      | exact .pu trivial
      | exact .pu (aB _)
      | exact .pu (aE _)
      | exact .kmp (by simp [Pos.nat])
    ·refine Shr.kp ?_ ?_
     ·exact eN
     ·show TAll (fun id c => id.nat < 4 /\ KpC 4 c) _
      repeat' first | exact TAll.e | refine TAll.some ?_ ?_ ?_ | refine TAll.none ?_ ?_
      exact ⟨by simp [Pos.nat], dP⟩
   exact Hs.toH (a := .i .h) rfl (mC M1) fun γ γ' w h1 h2 him => .tp (.cons (.ag (.app (.pu him (jP _)) rfl (.cons (.mpH h1 h2) .nil))) (.cons (.pu him trivial) .nil))
def NN (F : Nat -> Mo) (q : Nat) (m : Mo) (i : Nat) : Mo := bif Nat.beq i q then m else F i
theorem PR (F : Nat -> Mo) (q : Nat) (m : Mo) : NN F q m q = m := by simp [NN]
theorem KW (F : Nat -> Mo) {q i : Nat} (m : Mo) (h : i ≠ q) : NN F q m i = F i := by
 unfold NN
 rw [show Nat.beq i q = false from by
  cases e : Nat.beq i q with
  | false => rfl
  | true => exact absurd (Nat.eq_of_beq_eq_true e) h]
 rfl
theorem Pr {β : Type} (F : Nat -> Mo) (m : Mo) {q : Nat} (hq : q < 9) (k : List Cell -> Option β) : eP 0 (fun d => Cell.o d 0) (dI m) (0 + q * 14) ((fG F).map fun d => Cell.o d 0) k = k ((fG (NN F q m)).map fun d => Cell.o d 0) := by
 rcases Eh hq with rfl | rfl | rfl | rfl | rfl | rfl | rfl | rfl | rfl <;> rfl
theorem Ss {β : Type} (F : Nat -> Mo) {q : Nat} (hq : q < 9) (k : List D -> Option β) : fA 0 14 (eZ (0 + q * 14) ((fG F).map fun d => Cell.o d 0)) k = k (dI (F q)) := by
 rw [cE]
 rcases Eh hq with rfl | rfl | rfl | rfl | rfl | rfl | rfl | rfl | rfl <;> rfl
section
variable {sl : T D} {ob : T Ev.C} {nx : Pos} {lg : Option (T Bool)} {K : X -> Prop}
theorem wSt.stM {id : Pos} {cs : List Cell} {F : Nat -> Mo} {m : Mo} {q : Nat} {x y : RX} (hx : bE sl x = some (.pt id (0 + q * 14) 0)) (hy : bE sl y = some (.ag (dI m))) (ho : ob.get id = some (.cells false cs 1)) (hcs : cs = (fG F).map fun d => Cell.o d 0) (hq : q < 9) (h : Lm lg id fun lg => T.setK id (.cells false ((fG (NN F q m)).map fun d => Cell.o d 0) 1) ob fun ob => K ⟨sl, ob, nx, lg⟩) : wSt (step (.st x y 14) sl ob nx lg) K := by
 subst hcs
 obtain ⟨l1, e1, h⟩ := nH h
 rw [T.setK_eq] at h
 refine wSt.ok ?_ h
 show xL x y 14 sl ob nx lg = _
 unfold xL
 rw [hx, hy]
 have hcd : nT (.ag (dI m)) = some (dI m) := rfl
 have hl : Nat.beq (dI m).length 14 = true := rfl
 have hs : Nat.beq (Nat.succ 0) 1 = true := rfl
 simp only [ho, hcd, hl, hs, cond_true, Pr F m hq]
 unfold pC
 rw [e1]
 show (T.setK id _ ob fun ob => some ⟨sl, ob, nx, l1⟩ : Option X) = _
 rw [T.setK_eq]
theorem wSt.ldM {d id : Pos} {cs : List Cell} {F : Nat -> Mo} {q : Nat} {x : RX} (hx : bE sl x = some (.pt id (0 + q * 14) 0)) (ho : ob.get id = some (.cells false cs 1)) (hcs : cs = (fG F).map fun d => Cell.o d 0) (hq : q < 9) (h : Gu lg id fun lg => dL sl ob nx lg d K (.ag (dI (F q)))) : wSt (step (.ldn d x 14) sl ob nx lg) K := by
 subst hcs
 obtain ⟨l1, e1, h⟩ := jT h
 obtain ⟨h2, h3⟩ := aV h
 refine wSt.ok ?_ h3
 show pE d x 14 sl ob nx lg = _
 unfold pE
 rw [hx]
 simp only [ho, Ss F hq, e1]
 exact h2
end
structure Tns (σ : Type) where
 o : Nat -> σ -> Option Ev.C
def i6 : Pos := .o (.i .h)
def i7 : Pos := .i (.i .h)
def i8 : Pos := .o (.o (.o .h))
def i9 : Pos := .i (.o (.o .h))
def Lg : Pos := .o (.i (.o .h))
def xS : Pos := .i (.i (.o .h))
def eG (B : Bk) : Ev.C := .cells false ((gI B ++ [D.mp .h]).map fun d => Cell.o d 0) 1
def sP : D := .fn p137 [] [.pt i6 0 0, .pt i9 0 0, .pt i8 0 0, .pt Lg 0 0]
def Tns.ob {σ : Type} (S : Tns σ) (B : Bk) (M : dN) (F : Nat -> Mo) (s : σ) : T Ev.C := bQ (some (.map (bT M))) (S.o 2 s) (S.o 3 s) (S.o 4 s) (S.o 5 s) (some (eG B)) (S.o 7 s) (some (.cells false [.o (.yl i7) 0] 1)) (some (qL F)) (some (.cells false [.o sP 0] 1)) (S.o 11 s) none none none none none none none none none
structure TnsOk {σ : Type} (S : Tns σ) (B : Bk) (I : List (List Ln) -> σ -> Prop) (R : σ -> List Ln -> σ -> Bool -> Prop) : Prop where
 kp : ∀ M F s, KpO 12 (S.ob B M F s)
 inv : ∀ h s a s', h ++ [a] <+: gN B B.ls.length [] -> I h s -> R s a s' true -> I (h ++ [a]) s'
 rnd : ∀ h s, I h s -> ∀ X, h ++ [X] <+: gN B B.ls.length [] -> ∀ M, MOk B M -> ∃ g ob', (∃ s', R s X s' g /\ ob' = S.ob B M (uA B.box B.coin X X.length) s') /\ RndOk Try.prog i7 [.ag (fG (uA B.box B.coin X X.length))] (S.ob B M (uA B.box B.coin X X.length) s) zZ none (.b g) ob' zZ none
structure FOk (B : Bk) (i : Nat) (Q : List Ln) (F : Nat -> Mo) : Prop where
 lo : ∀ q, q < i -> F q = fJ B.box B.coin Q q
 hi : ∀ q, B.ls.length < q -> F q = Fg
theorem FOk.le {B : Bk} {i j : Nat} {Q : List Ln} {F : Nat -> Mo} (h : FOk B i Q F) (k : j <= i) : FOk B j Q F := ⟨fun q hq => h.lo q (by omega), h.hi⟩
theorem FOk.put {B : Bk} {Q : List Ln} {F : Nat -> Mo} (h : FOk B Q.length Q F) (hl : Q.length <= B.ls.length) : FOk B (Q.length + 1) Q (NN F Q.length (cX B Q)) := by
 refine ⟨fun q hq => ?_, fun q hq => ?_⟩
 ·by_cases e : q = Q.length
  ·subst e; rw [PR]; rfl
  ·rw [KW _ _ e]; exact h.lo q (by omega)
 ·rw [KW _ _ (by omega)]; exact h.hi q hq
theorem FOk.same {B : Bk} {i : Nat} {Q Q' : List Ln} {F : Nat -> Mo} (h : FOk B (i + 1) Q F) (hs : SameTo i Q Q') : FOk B (i + 1) Q' F := ⟨fun q hq => by
 rw [h.lo q hq]
 exact (kA (hs.le (by omega))).symm, h.hi⟩
theorem FOk.full {B : Bk} {Q : List Ln} {F : Nat -> Mo} (h : FOk B (Q.length + 1) Q F) (hl : Q.length = B.ls.length) : F = uA B.box B.coin Q Q.length := by
 funext q
 unfold uA
 by_cases hq : q <= Q.length
 ·rw [Nat.ble_eq_true_of_le hq, h.lo q (by omega)]; rfl
 ·rw [show Nat.ble q Q.length = false from by
   cases e : Nat.ble q Q.length with
   | false => rfl
   | true => exact absurd (Nat.le_of_ble_eq_true e) hq, h.hi q (by omega)]
  rfl
def sQ (B : Bk) (Q : List Ln) : List D := [.ag (dI (cX B Q)), .pt i6 0 0, .pt i9 0 0, .pt i8 0 0, .pt Lg 0 0]
def Kg {σ : Type} (S : Tns σ) (B : Bk) (I : List (List Ln) -> σ -> Prop) (R : σ -> List Ln -> σ -> Bool -> Prop) (k : Nat) : Prop :=
 ∀ Q, okT B Q -> Q.length + k = B.ls.length -> (∀ i, i < Q.length -> dE B.cs (fJ B.box B.coin Q i) = true) -> ∀ M, MOk B M -> ∀ F, FOk B Q.length Q F -> ∀ H0 s, H0 ++ gN B k Q <+: gN B B.ls.length [] -> I H0 s ->
   ∃ v ob', (∃ M' F' s' g, MOk B M' /\ FOk B Q.length Q F' /\ Fld R (gN B k Q) s s' g /\ v = .b g /\ ob' = S.ob B M' F' s') /\ CallOk Try.prog p137.ix (sQ B Q) (S.ob B M F s) zZ none v ob' zZ none
def Li (B : Bk) (Q : List Ln) : T D := (.n .e none (.n (.n .e (some (.pt Lg 0 0)) (.n .e none (.n .e (some (.fn p156 [] [.pl (jF B.n B.coin B.box B.ls B.cs) 0, .pl (dI (cX B Q)) 0])) .e))) none (.n .e (some (.pt (.i (.o (.i .h))) 0 0)) .e)))
def Df {σ : Type} (S : Tns σ) (B : Bk) (Q : List Ln) : Mns (dN × (Nat -> Mo) × σ × Bool) where
 o := fun i t => match i with
   | 1 => some (.map (bT t.1))
   | 6 => some (eG B)
   | 8 => some (.cells false [.o (.yl i7) 0] 1)
   | 9 => some (qL t.2.1)
   | 10 => some (.cells false [.o sP 0] 1)
   | 12 => some (.cells false ((dI (cX B Q)).map fun d => Cell.o d 0) 1)
   | 13 => some (.cells false [.o (.b false) 0] 1)
   | 14 => some (.lp (Li B Q) [eH] 34 (mB (aN Try.f136) 0) (mQ (aN Try.f136) 0) (bif t.2.2.2 then .done else .ready) (bif t.2.2.2 then some .ret else none))
   | 15 => none
   | i => S.o i t.2.2.1
theorem DQ {σ : Type} {S : Tns σ} {B : Bk} {Q : List Ln} (hk : ∀ M F s, KpO 12 (S.ob B M F s)) (t : dN × (Nat -> Mo) × σ × Bool) : KpO 16 ((Df S B Q).base t) := by
 intro id c hc
 by_cases hlt : id.nat < 12
 ·have h2 : (S.ob B t.1 t.2.1 t.2.2.1).get id = some c := by
   rw [<- hc]
   rcases rB hlt with rfl | rfl | rfl | rfl | rfl | rfl | rfl | rfl | rfl | rfl | rfl <;> rfl
  obtain ⟨q1, q2⟩ := hk _ _ _ id c h2
  exact ⟨by omega, q2.up (by omega)⟩
 ·have h3 : (bQ (some (.map (bT t.1))) (S.o 2 t.2.2.1) (S.o 3 t.2.2.1) (S.o 4 t.2.2.1) (S.o 5 t.2.2.1) (some (eG B)) (S.o 7 t.2.2.1) (some (.cells false [.o (.yl i7) 0] 1)) (some (qL t.2.1)) (some (.cells false [.o sP 0] 1)) (S.o 11 t.2.2.1) ((Df S B Q).o 12 t) ((Df S B Q).o 13 t) ((Df S B Q).o 14 t) none none none none none none).get id = some c := hc
  rw [wU (x1 := none) (x2 := none) (x3 := none) (x4 := none) (x5 := none) (x6 := none) (x7 := none) (x8 := none) (x9 := none) (x10 := none) (x11 := none) (Nat.not_lt.1 hlt)] at h3
  have key : TAll (fun id c => id.nat < 16 /\ KpC 16 c) (bQ none none none none none none none none none none none ((Df S B Q).o 12 t) ((Df S B Q).o 13 t) ((Df S B Q).o 14 t) none none none none none none) := by
   unfold bQ Df
   repeat' first | exact TAll.e | refine TAll.some ?_ ?_ ?_ | refine TAll.none ?_ ?_
   all_goals refine ⟨by simp [Pos.nat], ?_⟩
   ·exact Lj (KpL.pu _ (fU _))
   ·show TAll (fun _ d => Kp 16 d) (Li B Q)
    unfold Li
    repeat' first | exact TAll.e | refine TAll.some ?_ ?_ ?_ | refine TAll.none ?_ ?_
    all_goals simp [Kp, KpL, Pu, aO, jS, fU, Lg, Pos.nat]
   ·exact PE (by simp [Kp, Pu])
  exact key id c h3
end Go.Ev
end
