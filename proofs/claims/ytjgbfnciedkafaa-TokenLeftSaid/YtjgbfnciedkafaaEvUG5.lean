import Derived.Test.YtjgbfnciedkafaaEvUJw
set_option linter.all false
namespace Go.Ev
open Go.Proofs
set_option maxRecDepth 100000
theorem CallOk.mapAt {f : Nat} {M M' : Memo} {ds ds' : List D} {t : D} (Hc : CallOk Try.prog f ds (mapP M) (.o .h) none t (mapP M') (.o .h) none) (ht : Pu t) {id : Pos} {ob : T C} {nx : Pos} {lg : Option (T Bool)} (hid : ob.get id = some (.map (mapL M))) (hlt : id.nat < nx.nat) (hd : ∀ γ w, CvL γ (pul1 id γ) w ds' ds) : CallOk Try.prog f ds' ob nx lg t (T.set id (.map (mapL M')) ob) nx (lgW lg id) :=
  CallOk.oneG Hc rfl (mapL_pu M) (mapL_pu M') hid hlt hd (fun γ γ' w => .pu psh1_im ht)
theorem mp_at {B : Bk} {id : Pos} {rest : List D} (hr : PuL rest) : ∀ γ w, CvL γ (pul1 id γ) w (.ag (wkQ B ++ [.mp id]) :: rest) (.ag (wkQ B ++ [.mp .h]) :: rest) := fun γ w => .cons (.ag (.app (.pu pul1_im (wkQ_pu B)) rfl (.cons .mpI .nil))) (.pu pul1_im hr)
theorem begin_at {B : Bk} {ob : T C} {nx : Pos} {lg : Option (T Bool)} : CallOk Try.prog p75.ix [.ag (wkQ B)] ob nx lg (.ag (wkQ B ++ [.mp nx])) (T.set nx (.map (mapL [])) ob) nx.succ (lgW lg nx) :=
  CallOk.newG (j_beginM B) rfl (mapL_pu []) (by simp only [PuL, and_true]; exact wkQ_pu B) (fun γ γ' w => .ag (.app (.pu psh1_im (wkQ_pu B)) rfl (.cons .mpO .nil)))
def zwk : List D := [.i .i64 0, .i .i64 0, .i .i64 0, .ns, .ns, .nm]
theorem j_startE (n coin box : Int) (ls : List Ln) (cs : List Ct) (t : Bool) (h : sE n coin box ls cs t ≠ 0) : PureF Try.prog p85.ix [.ag (wkQ (B5 n coin box ls cs)), .b t] (.tp [.ag zwk, .i .i64 (sE n coin box ls cs t)]) := by
  have cF := j_CheckBook n coin box ls cs
  unfold sE at h ⊢
  unfold wkQ B5 zwk
  by_cases hf : faultT n coin box ls cs ≠ 0
  · rw [if_pos hf]
    refine PureF.run fn84 (by simp) (by simp [PuL, PuE, Pu, pu_ints, pu_ln, pu_ct]) ?_; conv => whnf
    repeat' first | ((first | with_reducible (first | apply Qt | apply Qu) | refine Qa rfl ?_ | refine Qk rfl ?_ | refine Qb ?_ | refine Qc ?_ | refine Qi ?_ | refine Qj ?_ | refine Qf (cF) ?_ | with_reducible (first | refine Qm ?_ | refine Qn ?_ | refine Qo ?_ | refine Qp ?_ | refine WB.nt ?_ | refine WB.nf ?_ | refine WB.dec (fun h => ?_) (fun h => ?_) | refine WB.ndec (fun h => ?_) (fun h => ?_)) | refine WB.mk (fun h => ?_) (fun h => ?_)) <;> conv => whnf)
    all_goals first
      | (exfalso; omega)
      | (refine ⟨.inr rfl, _, rfl, .tp (.cons (.ag ?_) (.cons (.pu trivial) .nil))⟩
         repeat' first | exact FzL.nil | refine FzL.cons ?_ ?_
         all_goals exact .pu trivial)
  · have hf : faultT n coin box ls cs = 0 := by omega
    rw [hf] at cF
    cases t with
    | false =>
      rw [if_neg (by omega)]
      refine PureF.run fn84 (by simp) (by simp [PuL, PuE, Pu, pu_ints, pu_ln, pu_ct]) ?_; conv => whnf
      repeat' first | ((first | with_reducible (first | apply Qt | apply Qu) | refine Qa rfl ?_ | refine Qk rfl ?_ | refine Qb ?_ | refine Qc ?_ | refine Qi ?_ | refine Qj ?_ | refine Qf (cF) ?_ | with_reducible (first | refine Qm ?_ | refine Qn ?_ | refine Qo ?_ | refine Qp ?_ | refine WB.nt ?_ | refine WB.nf ?_ | refine WB.dec (fun h => ?_) (fun h => ?_) | refine WB.ndec (fun h => ?_) (fun h => ?_)) | refine WB.mk (fun h => ?_) (fun h => ?_)) <;> conv => whnf)
      all_goals first
        | (exfalso; omega)
        | (refine ⟨.inr rfl, _, rfl, .tp (.cons (.ag ?_) (.cons (.pu trivial) .nil))⟩
           repeat' first | exact FzL.nil | refine FzL.cons ?_ ?_
           all_goals exact .pu trivial)
    | true =>
      cases hh : hasB (B5 n coin box ls cs) with
      | true => rw [if_neg (by omega), hh] at h; exact absurd rfl h
      | false =>
        obtain ⟨M1, hM1, Hc⟩ := j_hasTruth (VB.of hf) [] (MOk.nil _)
        rw [hh] at Hc
        rw [if_neg (by omega), show hasB ⟨n, coin, box, ls, cs⟩ = false from hh]
        refine PureF.run fn84 (by simp) (by simp [PuL, PuE, Pu, pu_ints, pu_ln, pu_ct]) ?_; conv => whnf
        repeat' first | ((first | with_reducible (first | apply Qt | apply Qu) | refine Qa rfl ?_ | refine Qk rfl ?_ | refine Qb ?_ | refine Qc ?_ | refine Qi ?_ | refine Qj ?_ | refine Qf (cF) ?_ | with_reducible (first | refine Qm ?_ | refine Qn ?_ | refine Qo ?_ | refine Qp ?_ | refine WB.nt ?_ | refine WB.nf ?_ | refine WB.dec (fun h => ?_) (fun h => ?_) | refine WB.ndec (fun h => ?_) (fun h => ?_)) | refine WB.mk (fun h => ?_) (fun h => ?_)) <;> conv => whnf)
        refine WCall.of (begin_at (B := B5 n coin box ls cs)) ?_; conv => whnf
        repeat' first | ((first | with_reducible (first | apply Qt | apply Qu) | refine Qa rfl ?_ | refine Qk rfl ?_ | refine Qb ?_ | refine Qc ?_ | refine Qi ?_ | refine Qj ?_ | with_reducible (first | refine Qm ?_ | refine Qn ?_ | refine Qo ?_ | refine Qp ?_ | refine WB.nt ?_ | refine WB.nf ?_ | refine WB.dec (fun h => ?_) (fun h => ?_) | refine WB.ndec (fun h => ?_) (fun h => ?_)) | refine WB.mk (fun h => ?_) (fun h => ?_)) <;> conv => whnf)
        refine WCall.of (CallOk.mapAt Hc trivial (id := .i .h) rfl (show 3 < Pos.nat (.i (.o .h)) from by decide) (mp_at trivial)) ?_; conv => whnf
        repeat' first | ((first | with_reducible (first | apply Qt | apply Qu) | refine Qa rfl ?_ | refine Qk rfl ?_ | refine Qb ?_ | refine Qc ?_ | refine Qi ?_ | refine Qj ?_ | with_reducible (first | refine Qm ?_ | refine Qn ?_ | refine Qo ?_ | refine Qp ?_ | refine WB.nt ?_ | refine WB.nf ?_ | refine WB.dec (fun h => ?_) (fun h => ?_) | refine WB.ndec (fun h => ?_) (fun h => ?_)) | refine WB.mk (fun h => ?_) (fun h => ?_)) <;> conv => whnf)
        refine ⟨.inr rfl, _, rfl, .tp (.cons (.ag ?_) (.cons (Fz.i rfl) .nil))⟩
        repeat' first | exact FzL.nil | refine FzL.cons ?_ ?_
        all_goals exact .pu trivial
theorem j_startO (n coin box : Int) (ls : List Ln) (cs : List Ct) (h : sE n coin box ls cs true = 0) : ∃ M, MOk (B5 n coin box ls cs) M ∧ CallOk Try.prog p85.ix [.ag (wkQ (B5 n coin box ls cs)), .b true] .e .h none (.tp [.ag (wkQ (B5 n coin box ls cs) ++ [.mp .h]), .i .i64 0]) (mapP M) (.o .h) none := by
  have cF := j_CheckBook n coin box ls cs
  unfold sE at h
  by_cases hf : faultT n coin box ls cs ≠ 0
  · rw [if_pos hf] at h; exact absurd h hf
  have hf : faultT n coin box ls cs = 0 := by omega
  rw [hf] at cF
  rw [if_neg (by omega)] at h
  cases hh : hasB (B5 n coin box ls cs) with
  | false => rw [hh] at h; cases h
  | true =>
    obtain ⟨M1, hM1, Hc⟩ := j_hasTruth (VB.of hf) [] (MOk.nil _)
    rw [hh] at Hc
    refine ⟨M1, hM1, ?_⟩
    have Hs : CallOk Try.prog p85.ix [.ag (wkQ (B5 n coin box ls cs)), .b true] .e .h none (.tp [.ag (wkQ (B5 n coin box ls cs) ++ [.mp (.i .h)]), .i .i64 0]) (.n .e none (.n .e (some (.map (mapL M1))) .e)) (.o (.o .h)) none := by
      refine CallOk.run fn84 (by simp) (by simp [Pos.nat]) ?_
      unfold wkQ B5
      conv => whnf
      repeat' first | ((first | with_reducible (first | apply Qt | apply Qu) | refine Qa rfl ?_ | refine Qk rfl ?_ | refine Qb ?_ | refine Qc ?_ | refine Qi ?_ | refine Qj ?_ | refine Qf (cF) ?_ | with_reducible (first | refine Qm ?_ | refine Qn ?_ | refine Qo ?_ | refine Qp ?_ | refine WB.nt ?_ | refine WB.nf ?_ | refine WB.dec (fun h => ?_) (fun h => ?_) | refine WB.ndec (fun h => ?_) (fun h => ?_)) | refine WB.mk (fun h => ?_) (fun h => ?_)) <;> conv => whnf)
      refine WCall.of (begin_at (B := B5 n coin box ls cs)) ?_; conv => whnf
      repeat' first | ((first | with_reducible (first | apply Qt | apply Qu) | refine Qa rfl ?_ | refine Qk rfl ?_ | refine Qb ?_ | refine Qc ?_ | refine Qi ?_ | refine Qj ?_ | with_reducible (first | refine Qm ?_ | refine Qn ?_ | refine Qo ?_ | refine Qp ?_ | refine WB.nt ?_ | refine WB.nf ?_ | refine WB.dec (fun h => ?_) (fun h => ?_) | refine WB.ndec (fun h => ?_) (fun h => ?_)) | refine WB.mk (fun h => ?_) (fun h => ?_)) <;> conv => whnf)
      refine WCall.of (CallOk.mapAt Hc trivial (id := .i .h) rfl (show 3 < Pos.nat (.i (.o .h)) from by decide) (mp_at trivial)) ?_; conv => whnf
      repeat' first | ((first | with_reducible (first | apply Qt | apply Qu) | refine Qa rfl ?_ | refine Qk rfl ?_ | refine Qb ?_ | refine Qc ?_ | refine Qi ?_ | refine Qj ?_ | with_reducible (first | refine Qm ?_ | refine Qn ?_ | refine Qo ?_ | refine Qp ?_ | refine WB.nt ?_ | refine WB.nf ?_ | refine WB.dec (fun h => ?_) (fun h => ?_) | refine WB.ndec (fun h => ?_) (fun h => ?_)) | refine WB.mk (fun h => ?_) (fun h => ?_)) <;> conv => whnf)
      refine ⟨.inr rfl, ⟨_, rfl, .tp (.cons (.ag ?_) (.cons (.pu trivial) .nil))⟩, ?_⟩
      · repeat' first | exact FzL.nil | refine FzL.cons ?_ ?_
        all_goals first
          | exact .pu trivial
          | exact .pu (pu_ln _)
          | exact .pu (pu_ct _)
          | exact .kmp (by simp [Pos.nat])
      · refine Shr.kp ?_ ?_
        · repeat' first | exact T.le_e _ | refine T.le_some ?_ rfl ?_ | refine T.le_none ?_ ?_
        · show TAll (fun id c => id.nat < 4 ∧ KpC 4 c) _
          repeat' first | exact TAll.e | refine TAll.some ?_ ?_ ?_ | refine TAll.none ?_ ?_
          exact ⟨by simp [Pos.nat], mapL_kp⟩
    exact Hs.toH (a := .i .h) rfl (mapL_pu M1) fun γ γ' w h1 h2 him => .tp (.cons (.ag (.app (.pu him (wkQ_pu _)) rfl (.cons (.mpH h1 h2) .nil))) (.cons (.pu him trivial) .nil))
end Go.Ev
namespace Go.Ev
open Go.Proofs
set_option maxRecDepth 100000
def upF (F : Nat → Mo) (q : Nat) (m : Mo) (i : Nat) : Mo := bif Nat.beq i q then m else F i
theorem upF_eq (F : Nat → Mo) (q : Nat) (m : Mo) : upF F q m q = m := by simp [upF]
theorem upF_ne (F : Nat → Mo) {q i : Nat} (m : Mo) (h : i ≠ q) : upF F q m i = F i := by
  unfold upF
  rw [show Nat.beq i q = false from by
    cases e : Nat.beq i q with
    | false => rfl
    | true => exact absurd (Nat.eq_of_beq_eq_true e) h]
  rfl
theorem writeM {β : Type} (F : Nat → Mo) (m : Mo) {q : Nat} (hq : q < 9) (k : List Cell → Option β) : writeK 0 (fun d => Cell.o d 0) (moD m) (0 + q * 14) ((mo126 F).map fun d => Cell.o d 0) k = k ((mo126 (upF F q m)).map fun d => Cell.o d 0) := by
  rcases nineT hq with rfl | rfl | rfl | rfl | rfl | rfl | rfl | rfl | rfl <;> rfl
theorem readM {β : Type} (F : Nat → Mo) {q : Nat} (hq : q < 9) (k : List D → Option β) : readK 0 14 (dropC (0 + q * 14) ((mo126 F).map fun d => Cell.o d 0)) k = k (moD (F q)) := by
  rw [dropC_eq]
  rcases nineT hq with rfl | rfl | rfl | rfl | rfl | rfl | rfl | rfl | rfl <;> rfl
section
variable {sl : T D} {ob : T Ev.C} {nx : Pos} {lg : Option (T Bool)} {K : X → Prop}
theorem wSt.stM {id : Pos} {cs : List Cell} {F : Nat → Mo} {m : Mo} {q : Nat} {x y : RX} (hx : opd sl x = some (.pt id (0 + q * 14) 0)) (hy : opd sl y = some (.ag (moD m))) (ho : ob.get id = some (.cells false cs 1)) (hcs : cs = (mo126 F).map fun d => Cell.o d 0) (hq : q < 9) (h : lWK lg id fun lg => T.setK id (.cells false ((mo126 (upF F q m)).map fun d => Cell.o d 0) 1) ob fun ob => K ⟨sl, ob, nx, lg⟩) : wSt (step (.st x y 14) sl ob nx lg) K := by
  subst hcs
  obtain ⟨l1, e1, h⟩ := lWK_ex h
  rw [T.setK_eq] at h
  refine wSt.ok ?_ h
  show s_st x y 14 sl ob nx lg = _
  unfold s_st
  rw [hx, hy]
  have hcd : cellsD (.ag (moD m)) = some (moD m) := rfl
  have hl : Nat.beq (moD m).length 14 = true := rfl
  have hs : Nat.beq (Nat.succ 0) 1 = true := rfl
  simp only [ho, hcd, hl, hs, cond_true, writeM F m hq]
  unfold objK
  rw [e1]
  show (T.setK id _ ob fun ob => some ⟨sl, ob, nx, l1⟩ : Option X) = _
  rw [T.setK_eq]
theorem wSt.ldM {d id : Pos} {cs : List Cell} {F : Nat → Mo} {q : Nat} {x : RX} (hx : opd sl x = some (.pt id (0 + q * 14) 0)) (ho : ob.get id = some (.cells false cs 1)) (hcs : cs = (mo126 F).map fun d => Cell.o d 0) (hq : q < 9) (h : lRK lg id fun lg => wOut sl ob nx lg d K (.ag (moD (F q)))) : wSt (step (.ldn d x 14) sl ob nx lg) K := by
  subst hcs
  obtain ⟨l1, e1, h⟩ := lRK_ex h
  obtain ⟨h2, h3⟩ := wOut_ok h
  refine wSt.ok ?_ h3
  show s_ldn d x 14 sl ob nx lg = _
  unfold s_ldn
  rw [hx]
  simp only [ho, readM F hq, e1]
  exact h2
end
structure Tns (σ : Type) where
  o : Nat → σ → Option Ev.C
def i6 : Pos := .o (.i .h)
def i7 : Pos := .i (.i .h)
def i8 : Pos := .o (.o (.o .h))
def i9 : Pos := .i (.o (.o .h))
def i10 : Pos := .o (.i (.o .h))
def i11 : Pos := .i (.i (.o .h))
noncomputable def wkCl (B : Bk) : Ev.C := .cells false ((wkQ B ++ [D.mp .h]).map fun d => Cell.o d 0) 1
def rdF : D := .fn p137 [] [.pt i6 0 0, .pt i9 0 0, .pt i8 0 0, .pt i10 0 0]
noncomputable def Tns.ob {σ : Type} (S : Tns σ) (B : Bk) (M : Memo) (F : Nat → Mo) (s : σ) : T Ev.C := trL (some (.map (mapL M))) (S.o 2 s) (S.o 3 s) (S.o 4 s) (S.o 5 s) (some (wkCl B)) (S.o 7 s) (some (.cells false [.o (.yl i7) 0] 1)) (some (moC F)) (some (.cells false [.o rdF 0] 1)) (S.o 11 s) none none none none none none none none none
structure TnsOk {σ : Type} (S : Tns σ) (B : Bk) (I : List (List Ln) → σ → Prop) (R : σ → List Ln → σ → Bool → Prop) : Prop where
  kp : ∀ M F s, KpO 12 (S.ob B M F s)
  inv : ∀ h s a s', h ++ [a] <+: exT B B.ls.length [] → I h s → R s a s' true → I (h ++ [a]) s'
  rnd : ∀ h s, I h s → ∀ X, h ++ [X] <+: exT B B.ls.length [] → ∀ M, MOk B M → ∃ g ob', (∃ s', R s X s' g ∧ ob' = S.ob B M (moF B.box B.coin X X.length) s') ∧ RndOk Try.prog i7 [.ag (mo126 (moF B.box B.coin X X.length))] (S.ob B M (moF B.box B.coin X X.length) s) n12 none (.b g) ob' n12 none
structure FOk (B : Bk) (i : Nat) (Q : List Ln) (F : Nat → Mo) : Prop where
  lo : ∀ q, q < i → F q = moR B.box B.coin Q q
  hi : ∀ q, B.ls.length < q → F q = mo0
theorem FOk.le {B : Bk} {i j : Nat} {Q : List Ln} {F : Nat → Mo} (h : FOk B i Q F) (k : j ≤ i) : FOk B j Q F := ⟨fun q hq => h.lo q (by omega), h.hi⟩
theorem FOk.put {B : Bk} {Q : List Ln} {F : Nat → Mo} (h : FOk B Q.length Q F) (hl : Q.length ≤ B.ls.length) : FOk B (Q.length + 1) Q (upF F Q.length (mo1 B Q)) := by
  refine ⟨fun q hq => ?_, fun q hq => ?_⟩
  · by_cases e : q = Q.length
    · subst e; rw [upF_eq]; rfl
    · rw [upF_ne _ _ e]; exact h.lo q (by omega)
  · rw [upF_ne _ _ (by omega)]; exact h.hi q hq
theorem FOk.same {B : Bk} {i : Nat} {Q Q' : List Ln} {F : Nat → Mo} (h : FOk B (i + 1) Q F) (hs : SameTo i Q Q') : FOk B (i + 1) Q' F := ⟨fun q hq => by
  rw [h.lo q hq]
  exact (moR_same (hs.le (by omega))).symm, h.hi⟩
theorem FOk.full {B : Bk} {Q : List Ln} {F : Nat → Mo} (h : FOk B (Q.length + 1) Q F) (hl : Q.length = B.ls.length) : F = moF B.box B.coin Q Q.length := by
  funext q
  unfold moF
  by_cases hq : q ≤ Q.length
  · rw [Nat.ble_eq_true_of_le hq, h.lo q (by omega)]; rfl
  · rw [show Nat.ble q Q.length = false from by
      cases e : Nat.ble q Q.length with
      | false => rfl
      | true => exact absurd (Nat.le_of_ble_eq_true e) hq, h.hi q (by omega)]
    rfl
def rdArgs (B : Bk) (Q : List Ln) : List D := [.ag (moD (mo1 B Q)), .pt i6 0 0, .pt i9 0 0, .pt i8 0 0, .pt i10 0 0]
def ReadOk {σ : Type} (S : Tns σ) (B : Bk) (I : List (List Ln) → σ → Prop) (R : σ → List Ln → σ → Bool → Prop) (k : Nat) : Prop :=
  ∀ Q, okT B Q → Q.length + k = B.ls.length → (∀ i, i < Q.length → rightB B.cs (moR B.box B.coin Q i) = true) → ∀ M, MOk B M → ∀ F, FOk B Q.length Q F → ∀ H0 s, H0 ++ exT B k Q <+: exT B B.ls.length [] → I H0 s →
    ∃ v ob', (∃ M' F' s' g, MOk B M' ∧ FOk B Q.length Q F' ∧ Fld R (exT B k Q) s s' g ∧ v = .b g ∧ ob' = S.ob B M' F' s') ∧ CallOk Try.prog p137.ix (rdArgs B Q) (S.ob B M F s) n12 none v ob' n12 none
def rdS (B : Bk) (Q : List Ln) : T D := (.n .e none (.n (.n .e (some (.pt i10 0 0)) (.n .e none (.n .e (some (.fn p156 [] [.pl (wk6 B.n B.coin B.box B.ls B.cs) 0, .pl (moD (mo1 B Q)) 0])) .e))) none (.n .e (some (.pt (.i (.o (.i .h))) 0 0)) .e)))
noncomputable def rdM {σ : Type} (S : Tns σ) (B : Bk) (Q : List Ln) : Mns (Memo × (Nat → Mo) × σ × Bool) where
  o := fun i t => match i with
    | 1 => some (.map (mapL t.1))
    | 6 => some (wkCl B)
    | 8 => some (.cells false [.o (.yl i7) 0] 1)
    | 9 => some (moC t.2.1)
    | 10 => some (.cells false [.o rdF 0] 1)
    | 12 => some (.cells false ((moD (mo1 B Q)).map fun d => Cell.o d 0) 1)
    | 13 => some (.cells false [.o (.b false) 0] 1)
    | 14 => some (.lp (rdS B Q) [p30] 34 (rfA (bodyC Try.f136) 0) (rfB (bodyC Try.f136) 0) (bif t.2.2.2 then .done else .ready) (bif t.2.2.2 then some .ret else none))
    | 15 => none
    | i => S.o i t.2.2.1
theorem rdM_kp {σ : Type} {S : Tns σ} {B : Bk} {Q : List Ln} (hk : ∀ M F s, KpO 12 (S.ob B M F s)) (t : Memo × (Nat → Mo) × σ × Bool) : KpO 16 ((rdM S B Q).base t) := by
  intro id c hc
  by_cases hlt : id.nat < 12
  · have h2 : (S.ob B t.1 t.2.1 t.2.2.1).get id = some c := by
      rw [← hc]
      rcases pos_lt12 hlt with rfl | rfl | rfl | rfl | rfl | rfl | rfl | rfl | rfl | rfl | rfl <;> rfl
    obtain ⟨q1, q2⟩ := hk _ _ _ id c h2
    exact ⟨by omega, q2.up (by omega)⟩
  · have h3 : (trL (some (.map (mapL t.1))) (S.o 2 t.2.2.1) (S.o 3 t.2.2.1) (S.o 4 t.2.2.1) (S.o 5 t.2.2.1) (some (wkCl B)) (S.o 7 t.2.2.1) (some (.cells false [.o (.yl i7) 0] 1)) (some (moC t.2.1)) (some (.cells false [.o rdF 0] 1)) (S.o 11 t.2.2.1) ((rdM S B Q).o 12 t) ((rdM S B Q).o 13 t) ((rdM S B Q).o 14 t) none none none none none none).get id = some c := hc
    rw [trL_hi12 (x1 := none) (x2 := none) (x3 := none) (x4 := none) (x5 := none) (x6 := none) (x7 := none) (x8 := none) (x9 := none) (x10 := none) (x11 := none) (Nat.not_lt.1 hlt)] at h3
    have key : TAll (fun id c => id.nat < 16 ∧ KpC 16 c) (trL none none none none none none none none none none none ((rdM S B Q).o 12 t) ((rdM S B Q).o 13 t) ((rdM S B Q).o 14 t) none none none none none none) := by
      unfold trL rdM
      repeat' first | exact TAll.e | refine TAll.some ?_ ?_ ?_ | refine TAll.none ?_ ?_
      all_goals refine ⟨by simp [Pos.nat], ?_⟩
      · exact puC (KpL.pu _ (pu_moD _))
      · show TAll (fun _ d => Kp 16 d) (rdS B Q)
        unfold rdS
        repeat' first | exact TAll.e | refine TAll.some ?_ ?_ ?_ | refine TAll.none ?_ ?_
        all_goals simp [Kp, KpL, Pu, PuL, pu_wk6, pu_moD, i10, Pos.nat]
      · exact one_kp (by simp [Kp, Pu])
    exact key id c h3
end Go.Ev