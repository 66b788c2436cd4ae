import Derived.Test.YtjgbfnciedkafaaEvUJu
set_option linter.all false
set_option maxHeartbeats 8000000
noncomputable section
namespace Go.Ev
open Go.Proofs
set_option maxRecDepth 100000
theorem AP (B : Bk) (hc : B.cs.length <= 1000) (m : Mo) (d : D) : PureF Try.prog p80.ix [.ag [.i .i64 B.n, .i .i64 B.coin, .i .i64 B.box, .lst 3 (aD aM B.ls), .lst 3 (aD dZ B.cs), d], .ag (dW m)] (.b (dU B.cs m)) :=
 (EN B.n B.coin B.box B.ls B.cs m hc).sub (Cx (by simp [aO, Pu, fJ]))
theorem uT (B : Bk) (m : Mo) (d : D) : PureF Try.prog p138.ix [.ag [.i .i64 B.n, .i .i64 B.coin, .i .i64 B.box, .lst 3 (aD aM B.ls), .lst 3 (aD dZ B.cs), d], .ag (dW m)] (.fn p156 [] [.pl (jI B.n B.coin B.box B.ls B.cs) 0, .pl (dW m) 0]) :=
 (LN B.n B.coin B.box B.ls B.cs m).sub (Cx (by simp [aO, Pu, fJ]))
theorem CA (B : Bk) (k : Nat) (Q : List Ln) : cT B (k + 1) Q = (dU B.cs (cJ B Q) && (jW B Q).any (cT B k)) := rfl
theorem EB {B : Bk} {Q : List Ln} (h : dU B.cs (cJ B Q) = false) : ∀ k, cT B k Q = false
 | 0 => h
 | k + 1 => by rw [CA, h]; rfl
theorem MOk.put {B : Bk} (V : VB B) {M M' : dQ} {k : Nat} {Q : List Ln} (h : MOk B M) (hQ : okT B Q) (hk : Q.length + k = B.ls.length) (hw : Gz (EV (cJ B Q))) (h1 : ∀ e ∈ M', e = (EV (cJ B Q), cT B k Q) \/ e ∈ M) : MOk B M' := by
 refine ⟨fun e he => ?_, fun e he k' Q' q1 q2 q3 => ?_⟩
 ·rcases h1 e he with rfl | he
  ·exact hw
  ·exact h.wf e he
 ·rcases h1 e he with rfl | he
  ·exact Dq V q1 hQ q2 hk q3.symm
  ·exact h.ok e he k' Q' q1 q2 q3
theorem Ae {B : Bk} (V : VB B) : ∀ k, IQ B k := by
 intro k
 induction k with
 | zero =>
   intro M hM Q hQ hk
   have e1 := aC aM B.ls
   have hlen := V.len
   have hmn : (cJ B Q).n = (Q.length : Int) := rfl
   have hw : Gz (EV (cJ B Q)) := cL (show (_ : Int) <= (Q.length : Int) by omega) (show (Q.length : Int) <= _ by omega)
   have cP := CU (cJ B Q)
   have cR := AP B (by have := V.clen; omega) (cJ B Q) (.mp .h)
   have cN := uT B (cJ B Q) (.mp .h)
   obtain ⟨v, ob', ⟨M', hM', rfl, rfl⟩, Hc⟩ := CallOk.runE (Φ := fun v ob' => ∃ M', MOk B M' /\ v = .b (cT B 0 Q) /\ ob' = fE M') (ob := fE M) (nx := .o .h) (nx' := .o .h) (ds := [.ag (iK B ++ [.mp .h]), .ag (dW (cJ B Q))]) MP (by simp) (Nat.le_refl _) (by
    unfold iK
    conv => whnf
    repeat' ((first | refine Qz ?_ | refine Qf cP ?_) <;> conv => whnf)
    refine WSt.lkpG rK (vD := Jl) (w := EV (cJ B Q)) (M := M) rfl rfl rfl hw hM.wf (fun b hb => ?_) (fun hno => ?_)
    ·have hb' := hM.ok _ hb 0 Q hQ hk rfl
     have hb' : b = cT B 0 Q := hb'
     subst hb'
     conv => whnf
     repeat' ((first | refine Qw ?_ | refine Qd (fun h => ?_) (fun h => ?_)) <;> conv => whnf)
     refine ⟨_, _, ⟨M, hM, rfl, rfl⟩, ⟨.inr rfl, ⟨_, rfl, .pu trivial⟩, Shr.kp ?_ (fK M)⟩⟩
     show T.le (T.n .e (some (.map (bR M))) .e : T Ev.C) _
     refine T.le_some (T.le_e _) rfl (T.le_e _)
    ·cases hr : dU B.cs (cJ B Q) with
     | false =>
       rw [hr] at cR
       have hcan := EB hr 0
       conv => whnf
       repeat' ((first | refine Qw ?_ | refine Qf cR ?_ | refine Qd (fun h => ?_) (fun h => ?_)) <;> conv => whnf)
       refine WSt.mupG rK (vD := Jl) (w := EV (cJ B Q)) (n := false) (M := M) rfl rfl rfl rfl hw hM.wf (fun M2 h1 _ _ => ?_); conv => whnf
       repeat' ((first | refine Qw ?_ | refine Qd (fun h => ?_) (fun h => ?_)) <;> conv => whnf)
       refine ⟨_, _, ⟨M2, hM.put V hQ hk hw (by rw [hcan]; exact h1), rfl, rfl⟩, ⟨.inr rfl, ⟨_, rfl, by rw [hcan]; exact .pu trivial⟩, Shr.kp ?_ (fK M2)⟩⟩
       show T.le (T.n .e (some (.map (bR M2))) .e : T Ev.C) _
       refine T.le_some (T.le_e _) rfl (T.le_e _)
     | true =>
       rw [hr] at cR
       have hcan : cT B 0 Q = true := hr
       conv => whnf
       repeat' ((first | refine Qw ?_ | refine Qf cR ?_ | refine Qd (fun h => ?_) (fun h => ?_)) <;> conv => whnf)
       refine WSt.mupG rK (vD := Jl) (w := EV (cJ B Q)) (n := true) (M := M) rfl rfl rfl rfl hw hM.wf (fun M2 h1 _ _ => ?_); conv => whnf
       repeat' ((first | refine Qw ?_ | refine Qd (fun h => ?_) (fun h => ?_)) <;> conv => whnf)
       refine ⟨_, _, ⟨M2, hM.put V hQ hk hw (by rw [hcan]; exact h1), rfl, rfl⟩, ⟨.inr rfl, ⟨_, rfl, by rw [hcan]; exact .pu trivial⟩, Shr.kp ?_ (fK M2)⟩⟩
       show T.le (T.n .e (some (.map (bR M2))) .e : T Ev.C) _
       refine T.le_some (T.le_e _) rfl (T.le_e _))
   exact ⟨M', hM', Hc⟩
 | succ k ih =>
   intro M hM Q hQ hk
   have e1 := aC aM B.ls
   have hlen := V.len
   have hmn : (cJ B Q).n = (Q.length : Int) := rfl
   have hw : Gz (EV (cJ B Q)) := cL (show (_ : Int) <= (Q.length : Int) by omega) (show (Q.length : Int) <= _ by omega)
   have cP := CU (cJ B Q)
   have cR := AP B (by have := V.clen; omega) (cJ B Q) (.mp .h)
   have cN := uT B (cJ B Q) (.mp .h)
   obtain ⟨v, ob', ⟨M', hM', rfl, rfl⟩, Hc⟩ := CallOk.runE (Φ := fun v ob' => ∃ M', MOk B M' /\ v = .b (cT B (k + 1) Q) /\ ob' = fE M') (ob := fE M) (nx := .o .h) (nx' := .o .h) (ds := [.ag (iK B ++ [.mp .h]), .ag (dW (cJ B Q))]) MP (by simp) (Nat.le_refl _) (by
    unfold iK
    conv => whnf
    repeat' ((first | refine Qz ?_ | refine Qf cP ?_) <;> conv => whnf)
    refine WSt.lkpG rK (vD := Jl) (w := EV (cJ B Q)) (M := M) rfl rfl rfl hw hM.wf (fun b hb => ?_) (fun hno => ?_)
    ·have hb' := hM.ok _ hb (k + 1) Q hQ hk rfl
     have hb' : b = cT B (k + 1) Q := hb'
     subst hb'
     conv => whnf
     repeat' ((first | refine Qw ?_ | refine Qd (fun h => ?_) (fun h => ?_)) <;> conv => whnf)
     refine ⟨_, _, ⟨M, hM, rfl, rfl⟩, ⟨.inr rfl, ⟨_, rfl, .pu trivial⟩, Shr.kp ?_ (fK M)⟩⟩
     show T.le (T.n .e (some (.map (bR M))) .e : T Ev.C) _
     refine T.le_some (T.le_e _) rfl (T.le_e _)
    ·cases hr : dU B.cs (cJ B Q) with
     | false =>
       rw [hr] at cR
       have hcan := EB hr (k + 1)
       conv => whnf
       repeat' ((first | refine Qw ?_ | refine Qf cR ?_ | refine Qd (fun h => ?_) (fun h => ?_)) <;> conv => whnf)
       refine WSt.mupG rK (vD := Jl) (w := EV (cJ B Q)) (n := false) (M := M) rfl rfl rfl rfl hw hM.wf (fun M2 h1 _ _ => ?_); conv => whnf
       repeat' ((first | refine Qw ?_ | refine Qd (fun h => ?_) (fun h => ?_)) <;> conv => whnf)
       refine ⟨_, _, ⟨M2, hM.put V hQ hk hw (by rw [hcan]; exact h1), rfl, rfl⟩, ⟨.inr rfl, ⟨_, rfl, by rw [hcan]; exact .pu trivial⟩, Shr.kp ?_ (fK M2)⟩⟩
       show T.le (T.n .e (some (.map (bR M2))) .e : T Ev.C) _
       refine T.le_some (T.le_e _) rfl (T.le_e _)
     | true =>
       rw [hr] at cR
       have hcan : cT B (k + 1) Q = (jW B Q).any (cT B k) := by rw [CA, hr]; rfl
       obtain ⟨M1, hM1, Hs⟩ := JI V ih hQ hk M hM
       conv => whnf
       repeat' ((first | refine Qw ?_ | refine Qf cR ?_ | refine Qf cN ?_ | refine Qd (fun h => ?_) (fun h => ?_)) <;> conv => whnf)
       refine WCall.of (CallOk.mapHere Hs rfl (show 1 < Pos.nat (.i (.o .h)) from by decide) (fun γ w => .cons (.pu jF (by simp [Pu, aO, jV, fJ])) (.cons (.fn (.cons (.ag (.app (.pu jF (jQ B)) rfl (.cons .mpI .nil))) .nil) .nil) .nil))) ?_; conv => whnf
       repeat' ((first | refine Qw ?_ | refine Qd (fun h => ?_) (fun h => ?_)) <;> conv => whnf)
       refine WSt.mupG rK (vD := Jl) (w := EV (cJ B Q)) (n := (jW B Q).any (cT B k)) (M := M1) rfl rfl rfl rfl hw hM1.wf (fun M2 h1 _ _ => ?_); conv => whnf
       repeat' ((first | refine Qw ?_ | refine Qd (fun h => ?_) (fun h => ?_)) <;> conv => whnf)
       refine ⟨_, _, ⟨M2, hM1.put V hQ hk hw (by rw [hcan]; exact h1), rfl, rfl⟩, ⟨.inr rfl, ⟨_, rfl, by rw [hcan]; exact .pu trivial⟩, Shr.kp ?_ (fK M2)⟩⟩
       show T.le (T.n .e (some (.map (bR M2))) .e : T Ev.C) _
       refine T.le_some (T.le_e _) rfl (T.le_e _))
   exact ⟨M', hM', Hc⟩
def sQ (B : Bk) : Bool := cT B B.ls.length []
theorem DA (B : Bk) (d : D) : PureF Try.prog p105.ix [.ag [.i .i64 B.n, .i .i64 B.coin, .i .i64 B.box, .lst 3 (aD aM B.ls), .lst 3 (aD dZ B.cs), d]] (.ag (dW (cJ B []))) :=
 (rS B.n B.coin B.box B.ls B.cs []).sub (Cx trivial)
theorem uR {B : Bk} (V : VB B) (M : dQ) (hM : MOk B M) : ∃ M', MOk B M' /\ CallOk Try.prog p94.ix [.ag (iK B ++ [.mp .h])] (fE M) (.o .h) none (.b (sQ B)) (fE M') (.o .h) none := by
 have cO := DA B (.mp .h)
 obtain ⟨M1, hM1, Hc⟩ := Ae V B.ls.length M hM [] (okT.nil B) (by simp)
 obtain ⟨v, ob', ⟨M', hM', rfl, rfl⟩, Hc⟩ := CallOk.runE (Φ := fun v ob' => ∃ M', MOk B M' /\ v = .b (sQ B) /\ ob' = fE M') (ob := fE M) (nx := .o .h) (nx' := .o .h) (ds := [.ag (iK B ++ [.mp .h])]) TN (by simp) (Nat.le_refl _) (by
  unfold iK
  conv => whnf
  repeat' ((first | refine Qz ?_ | refine Qf cO ?_) <;> conv => whnf)
  refine WCall.of (CallOk.mapHere Hc rfl (show 1 < Pos.nat (.i .h) from by decide) (fun γ w => .cons (.ag (.app (.pu jF (jQ B)) rfl (.cons .mpI .nil))) (.cons (.ag (.pu jF (fJ _))) .nil))) ?_; conv => whnf
  refine Qg ?_
  refine ⟨_, _, ⟨M1, hM1, rfl, rfl⟩, ⟨.inr rfl, ⟨_, rfl, .pu trivial⟩, Shr.kp ?_ (fK M1)⟩⟩
  show T.le (T.n .e (some (.map (bR M1))) .e : T Ev.C) _
  refine T.le_some (T.le_e _) rfl (T.le_e _))
 exact ⟨M', hM', Hc⟩
theorem Iu (B : Bk) : CallOk Try.prog p75.ix [.ag (iK B)] .e .h none (.ag (iK B ++ [.mp .h])) (fE []) (.o .h) none := by
 have Hc : CallOk Try.prog p75.ix [.ag (iK B)] .e .h none (.ag (iK B ++ [.mp (.i .h)])) (.n .e none (.n .e (some (.map [])) .e)) (.o (.o .h)) none := by
  refine CallOk.run Tw (by simp) (by simp [Pos.nat]) ?_
  unfold iK
  conv => whnf
  refine Qg ?_
  refine ⟨.inr rfl, ⟨_, rfl, .ag ?_⟩, ?_⟩
  ·repeat' first | exact FzL.nil | refine FzL.cons ?_ ?_
   all_goals first
    | exact .pu trivial
    | exact .pu (aB _)
    | exact .pu (aE _)
    | exact .kmp (by simp [Pos.nat])
  ·refine Shr.kp ?_ ?_
   ·exact gC
   ·show TAll (fun id c => id.nat < 4 /\ KpC 4 c) _
    repeat' first | exact TAll.e | refine TAll.some ?_ ?_ ?_ | refine TAll.none ?_ ?_
    exact ⟨by simp [Pos.nat], fun e h => by cases h⟩
 exact Hc.toH (a := .i .h) rfl (fun e h => by cases h) fun γ γ' w h1 h2 him => .ag (.app (.pu him (jQ B)) rfl (.cons (.mpH h1 h2) .nil))
def sE (n coin box : Int) (ls : List Ln) (cs : List Ct) (t : Bool) : Int :=
 if aS n coin box ls cs ≠ 0 then aS n coin box ls cs else bif !t then 2 else bif !sQ (B5 n coin box ls cs) then 11 else 0
theorem CallOk.mapAt {f : Nat} {M M' : dQ} {ds ds' : List D} {t : D} (Hc : CallOk Try.prog f ds (fE M) (.o .h) none t (fE M') (.o .h) none) (ht : Pu t) {id : Pos} {ob : T C} {nx : Pos} {lg : Option (T Bool)} (hid : ob.get id = some (.map (bR M))) (hlt : id.nat < nx.nat) (hd : ∀ γ w, CvL γ (Fq id γ) w ds' ds) : CallOk Try.prog f ds' ob nx lg t (T.set id (.map (bR M')) ob) nx (HH lg id) :=
 CallOk.oneG Hc rfl (kV M) (kV M') hid hlt hd (fun γ γ' w => .pu qV ht)
theorem mW {B : Bk} {id : Pos} {rest : List D} (hr : aO rest) : ∀ γ w, CvL γ (Fq id γ) w (.ag (iK B ++ [.mp id]) :: rest) (.ag (iK B ++ [.mp .h]) :: rest) := fun γ w => .cons (.ag (.app (.pu jF (jQ B)) rfl (.cons .mpI .nil))) (.pu jF hr)
theorem Ba {B : Bk} {ob : T C} {nx : Pos} {lg : Option (T Bool)} : CallOk Try.prog p75.ix [.ag (iK B)] ob nx lg (.ag (iK B ++ [.mp nx])) (T.set nx (.map (bR [])) ob) nx.succ (HH lg nx) :=
 CallOk.newG (Iu B) rfl (kV []) (by simp only [aO, and_true]; exact jQ B) (fun γ γ' w => .ag (.app (.pu qV (jQ B)) rfl (.cons .mpO .nil)))
def TJ : List D := [.i .i64 0, .i .i64 0, .i .i64 0, .ns, .ns, .nm]
theorem Bc (n coin box : Int) (ls : List Ln) (cs : List Ct) (t : Bool) (h : sE n coin box ls cs t ≠ 0) : PureF Try.prog p85.ix [.ag (iK (B5 n coin box ls cs)), .b t] (.tp [.ag TJ, .i .i64 (sE n coin box ls cs t)]) := by
 have cF := mH n coin box ls cs
 unfold sE at h ⊢
 unfold iK B5 TJ
 by_cases hf : aS n coin box ls cs ≠ 0
 ·rw [if_pos hf]
  refine PureF.run Lu (by simp) (by simp [aO, eB, Pu, aJ, aB, aE]) ?_; conv => whnf
  repeat' ((first | refine Qw ?_ | refine Qf cF ?_ | refine Qd (fun h => ?_) (fun h => ?_)) <;> conv => whnf)
  all_goals first
   | (exfalso; omega)
   | (refine ⟨.inr rfl, _, rfl, .tp (.cons (.ag ?_) (.cons (.pu trivial) .nil))⟩
      repeat' first | exact FzL.nil | refine FzL.cons ?_ ?_
      all_goals exact .pu trivial)
 ·have hf : aS n coin box ls cs = 0 := by omega
  rw [hf] at cF
  cases t with
  | false =>
    rw [if_neg (by omega)]
    refine PureF.run Lu (by simp) (by simp [aO, eB, Pu, aJ, aB, aE]) ?_; conv => whnf
    repeat' ((first | refine Qw ?_ | refine Qf cF ?_ | refine Qd (fun h => ?_) (fun h => ?_)) <;> conv => whnf)
    all_goals first
     | (exfalso; omega)
     | (refine ⟨.inr rfl, _, rfl, .tp (.cons (.ag ?_) (.cons (.pu trivial) .nil))⟩
        repeat' first | exact FzL.nil | refine FzL.cons ?_ ?_
        all_goals exact .pu trivial)
  | true =>
    cases hh : sQ (B5 n coin box ls cs) with
    | true => rw [if_neg (by omega), hh] at h; exact absurd rfl h
    | false =>
      obtain ⟨M1, hM1, Hc⟩ := uR (VB.of hf) [] (MOk.nil _)
      rw [hh] at Hc
      rw [if_neg (by omega), show sQ ⟨n, coin, box, ls, cs⟩ = false from hh]
      refine PureF.run Lu (by simp) (by simp [aO, eB, Pu, aJ, aB, aE]) ?_; conv => whnf
      repeat' ((first | refine Qw ?_ | refine Qf cF ?_ | refine Qd (fun h => ?_) (fun h => ?_)) <;> conv => whnf)
      refine WCall.of (Ba (B := B5 n coin box ls cs)) ?_; conv => whnf
      repeat' ((first | refine Qw ?_ | refine Qd (fun h => ?_) (fun h => ?_)) <;> conv => whnf)
      refine WCall.of (CallOk.mapAt Hc trivial (id := .i .h) rfl (show 3 < Pos.nat (.i (.o .h)) from by decide) (mW trivial)) ?_; conv => whnf
      repeat' ((first | refine Qw ?_ | refine Qd (fun h => ?_) (fun h => ?_)) <;> conv => whnf)
      refine ⟨.inr rfl, _, rfl, .tp (.cons (.ag ?_) (.cons (Fz.i rfl) .nil))⟩
      repeat' first | exact FzL.nil | refine FzL.cons ?_ ?_
      all_goals exact .pu trivial
theorem BB (n coin box : Int) (ls : List Ln) (cs : List Ct) (h : sE n coin box ls cs true = 0) : ∃ M, MOk (B5 n coin box ls cs) M /\ CallOk Try.prog p85.ix [.ag (iK (B5 n coin box ls cs)), .b true] .e .h none (.tp [.ag (iK (B5 n coin box ls cs) ++ [.mp .h]), .i .i64 0]) (fE M) (.o .h) none := by
 have cF := mH n coin box ls cs
 unfold sE at h
 by_cases hf : aS n coin box ls cs ≠ 0
 ·rw [if_pos hf] at h; exact absurd h hf
 have hf : aS n coin box ls cs = 0 := by omega
 rw [hf] at cF
 rw [if_neg (by omega)] at h
 cases hh : sQ (B5 n coin box ls cs) with
 | false => rw [hh] at h; cases h
 | true =>
   obtain ⟨M1, hM1, Hc⟩ := uR (VB.of hf) [] (MOk.nil _)
   rw [hh] at Hc
   refine ⟨M1, hM1, ?_⟩
   have Hs : CallOk Try.prog p85.ix [.ag (iK (B5 n coin box ls cs)), .b true] .e .h none (.tp [.ag (iK (B5 n coin box ls cs) ++ [.mp (.i .h)]), .i .i64 0]) (.n .e none (.n .e (some (.map (bR M1))) .e)) (.o (.o .h)) none := by
    refine CallOk.run Lu (by simp) (by simp [Pos.nat]) ?_
    unfold iK B5
    conv => whnf
    repeat' ((first | refine Qw ?_ | refine Qf cF ?_ | refine Qd (fun h => ?_) (fun h => ?_)) <;> conv => whnf)
    refine WCall.of (Ba (B := B5 n coin box ls cs)) ?_; conv => whnf
    repeat' ((first | refine Qw ?_ | refine Qd (fun h => ?_) (fun h => ?_)) <;> conv => whnf)
    refine WCall.of (CallOk.mapAt Hc trivial (id := .i .h) rfl (show 3 < Pos.nat (.i (.o .h)) from by decide) (mW trivial)) ?_; conv => whnf
    repeat' ((first | refine Qw ?_ | refine Qd (fun h => ?_) (fun h => ?_)) <;> conv => whnf)
    refine ⟨.inr rfl, ⟨_, rfl, .tp (.cons (.ag ?_) (.cons (.pu trivial) .nil))⟩, ?_⟩
    ·repeat' first | exact FzL.nil | refine FzL.cons ?_ ?_
     all_goals first
      | exact .pu trivial
      | exact .pu (aB _)
      | exact .pu (aE _)
      | exact .kmp (by simp [Pos.nat])
    ·refine Shr.kp ?_ ?_
     ·exact gC
     ·show TAll (fun id c => id.nat < 4 /\ KpC 4 c) _
      repeat' first | exact TAll.e | refine TAll.some ?_ ?_ ?_ | refine TAll.none ?_ ?_
      exact ⟨by simp [Pos.nat], hJ⟩
   exact Hs.toH (a := .i .h) rfl (kV M1) fun γ γ' w h1 h2 him => .tp (.cons (.ag (.app (.pu him (jQ _)) rfl (.cons (.mpH h1 h2) .nil))) (.cons (.pu him trivial) .nil))
def Mz (F : Nat -> Mo) (q : Nat) (m : Mo) (i : Nat) : Mo := bif Nat.beq i q then m else F i
theorem Of (F : Nat -> Mo) (q : Nat) (m : Mo) : Mz F q m q = m := by simp [Mz]
theorem IZ (F : Nat -> Mo) {q i : Nat} (m : Mo) (h : i ≠ q) : Mz F q m i = F i := by
 unfold Mz
 rw [show Nat.beq i q = false from by
  cases e : Nat.beq i q with
  | false => rfl
  | true => exact absurd (Nat.eq_of_beq_eq_true e) h]
 rfl
theorem NU {β : Type} (F : Nat -> Mo) (m : Mo) {q : Nat} (hq : q < 9) (k : List Cell -> Option β) : eF 0 (fun d => Cell.o d 0) (dW m) (0 + q * 14) ((kP F).map fun d => Cell.o d 0) k = k ((kP (Mz F q m)).map fun d => Cell.o d 0) := by
 rcases GT hq with rfl | rfl | rfl | rfl | rfl | rfl | rfl | rfl | rfl <;> rfl
theorem QF {β : Type} (F : Nat -> Mo) {q : Nat} (hq : q < 9) (k : List D -> Option β) : eT 0 14 (eI (0 + q * 14) ((kP F).map fun d => Cell.o d 0)) k = k (dW (F q)) := by
 rw [bT]
 rcases GT hq with rfl | rfl | rfl | rfl | rfl | rfl | rfl | rfl | rfl <;> rfl
section
variable {sl : T D} {ob : T Ev.C} {nx : Pos} {lg : Option (T Bool)} {K : X -> Prop}
theorem wSt.stM {id : Pos} {cs : List Cell} {F : Nat -> Mo} {m : Mo} {q : Nat} {x y : RX} (hx : bG sl x = some (.pt id (0 + q * 14) 0)) (hy : bG sl y = some (.ag (dW m))) (ho : ob.get id = some (.cells false cs 1)) (hcs : cs = (kP F).map fun d => Cell.o d 0) (hq : q < 9) (h : IM lg id fun lg => T.setK id (.cells false ((kP (Mz F q m)).map fun d => Cell.o d 0) 1) ob fun ob => K ⟨sl, ob, nx, lg⟩) : wSt (step (.st x y 14) sl ob nx lg) K := by
 subst hcs
 obtain ⟨l1, e1, h⟩ := lN h
 rw [T.setK_eq] at h
 refine wSt.ok ?_ h
 show vV x y 14 sl ob nx lg = _
 unfold vV
 rw [hx, hy]
 have hcd : mJ (.ag (dW m)) = some (dW m) := rfl
 have hl : Nat.beq (dW m).length 14 = true := rfl
 have hs : Nat.beq (Nat.succ 0) 1 = true := rfl
 simp only [ho, hcd, hl, hs, cond_true, NU F m hq]
 unfold nT
 rw [e1]
 show (T.setK id _ ob fun ob => some ⟨sl, ob, nx, l1⟩ : Option X) = _
 rw [T.setK_eq]
theorem wSt.ldM {d id : Pos} {cs : List Cell} {F : Nat -> Mo} {q : Nat} {x : RX} (hx : bG sl x = some (.pt id (0 + q * 14) 0)) (ho : ob.get id = some (.cells false cs 1)) (hcs : cs = (kP F).map fun d => Cell.o d 0) (hq : q < 9) (h : FJ lg id fun lg => dX sl ob nx lg d K (.ag (dW (F q)))) : wSt (step (.ldn d x 14) sl ob nx lg) K := by
 subst hcs
 obtain ⟨l1, e1, h⟩ := jP h
 obtain ⟨h2, h3⟩ := aT h
 refine wSt.ok ?_ h3
 show sJ d x 14 sl ob nx lg = _
 unfold sJ
 rw [hx]
 simp only [ho, QF F hq, e1]
 exact h2
end
structure Tns (σ : Type) where
 o : Nat -> σ -> Option Ev.C
def i6 : Pos := .o (.i .h)
def i7 : Pos := .i (.i .h)
def i8 : Pos := .o (.o (.o .h))
def i9 : Pos := .i (.o (.o .h))
def JH : Pos := .o (.i (.o .h))
def vS : Pos := .i (.i (.o .h))
def eR (B : Bk) : Ev.C := .cells false ((iK B ++ [D.mp .h]).map fun d => Cell.o d 0) 1
def sD : D := .fn p137 [] [.pt i6 0 0, .pt i9 0 0, .pt i8 0 0, .pt JH 0 0]
def Tns.ob {σ : Type} (S : Tns σ) (B : Bk) (M : dQ) (F : Nat -> Mo) (s : σ) : T Ev.C := bP (some (.map (bR M))) (S.o 2 s) (S.o 3 s) (S.o 4 s) (S.o 5 s) (some (eR B)) (S.o 7 s) (some (.cells false [.o (.yl i7) 0] 1)) (some (pN F)) (some (.cells false [.o sD 0] 1)) (S.o 11 s) none none none none none none none none none
structure TnsOk {σ : Type} (S : Tns σ) (B : Bk) (I : List (List Ln) -> σ -> Prop) (R : σ -> List Ln -> σ -> Bool -> Prop) : Prop where
 kp : ∀ M F s, KpO 12 (S.ob B M F s)
 inv : ∀ h s a s', h ++ [a] <+: hU B B.ls.length [] -> I h s -> R s a s' true -> I (h ++ [a]) s'
 rnd : ∀ h s, I h s -> ∀ X, h ++ [X] <+: hU B B.ls.length [] -> ∀ M, MOk B M -> ∃ g ob', (∃ s', R s X s' g /\ ob' = S.ob B M (vP B.box B.coin X X.length) s') /\ RndOk Try.prog i7 [.ag (kP (vP B.box B.coin X X.length))] (S.ob B M (vP B.box B.coin X X.length) s) zZ none (.b g) ob' zZ none
structure FOk (B : Bk) (i : Nat) (Q : List Ln) (F : Nat -> Mo) : Prop where
 lo : ∀ q, q < i -> F q = fC B.box B.coin Q q
 hi : ∀ q, B.ls.length < q -> F q = Ei
theorem FOk.le {B : Bk} {i j : Nat} {Q : List Ln} {F : Nat -> Mo} (h : FOk B i Q F) (k : j <= i) : FOk B j Q F := ⟨fun q hq => h.lo q (by omega), h.hi⟩
theorem FOk.put {B : Bk} {Q : List Ln} {F : Nat -> Mo} (h : FOk B Q.length Q F) (hl : Q.length <= B.ls.length) : FOk B (Q.length + 1) Q (Mz F Q.length (cJ B Q)) := by
 refine ⟨fun q hq => ?_, fun q hq => ?_⟩
 ·by_cases e : q = Q.length
  ·subst e; rw [Of]; rfl
  ·rw [IZ _ _ e]; exact h.lo q (by omega)
 ·rw [IZ _ _ (by omega)]; exact h.hi q hq
theorem FOk.same {B : Bk} {i : Nat} {Q Q' : List Ln} {F : Nat -> Mo} (h : FOk B (i + 1) Q F) (hs : SameTo i Q Q') : FOk B (i + 1) Q' F := ⟨fun q hq => by
 rw [h.lo q hq]
 exact (iX (hs.le (by omega))).symm, h.hi⟩
theorem FOk.full {B : Bk} {Q : List Ln} {F : Nat -> Mo} (h : FOk B (Q.length + 1) Q F) (hl : Q.length = B.ls.length) : F = vP B.box B.coin Q Q.length := by
 funext q
 unfold vP
 by_cases hq : q <= Q.length
 ·rw [Nat.ble_eq_true_of_le hq, h.lo q (by omega)]; rfl
 ·rw [show Nat.ble q Q.length = false from by
   cases e : Nat.ble q Q.length with
   | false => rfl
   | true => exact absurd (Nat.le_of_ble_eq_true e) hq, h.hi q (by omega)]
  rfl
def rD (B : Bk) (Q : List Ln) : List D := [.ag (dW (cJ B Q)), .pt i6 0 0, .pt i9 0 0, .pt i8 0 0, .pt JH 0 0]
def GE {σ : Type} (S : Tns σ) (B : Bk) (I : List (List Ln) -> σ -> Prop) (R : σ -> List Ln -> σ -> Bool -> Prop) (k : Nat) : Prop :=
 ∀ Q, okT B Q -> Q.length + k = B.ls.length -> (∀ i, i < Q.length -> dU B.cs (fC B.box B.coin Q i) = true) -> ∀ M, MOk B M -> ∀ F, FOk B Q.length Q F -> ∀ H0 s, H0 ++ hU B k Q <+: hU B B.ls.length [] -> I H0 s ->
   ∃ v ob', (∃ M' F' s' g, MOk B M' /\ FOk B Q.length Q F' /\ Fld R (hU B k Q) s s' g /\ v = .b g /\ ob' = S.ob B M' F' s') /\ CallOk Try.prog p137.ix (rD B Q) (S.ob B M F s) zZ none v ob' zZ none
def Ji (B : Bk) (Q : List Ln) : T D := (.n .e none (.n (.n .e (some (.pt JH 0 0)) (.n .e none (.n .e (some (.fn p156 [] [.pl (jI B.n B.coin B.box B.ls B.cs) 0, .pl (dW (cJ B Q)) 0])) .e))) none (.n .e (some (.pt (.i (.o (.i .h))) 0 0)) .e)))
def Cq {σ : Type} (S : Tns σ) (B : Bk) (Q : List Ln) : Mns (dQ × (Nat -> Mo) × σ × Bool) where
 o := fun i t => match i with
   | 1 => some (.map (bR t.1))
   | 6 => some (eR B)
   | 8 => some (.cells false [.o (.yl i7) 0] 1)
   | 9 => some (pN t.2.1)
   | 10 => some (.cells false [.o sD 0] 1)
   | 12 => some (.cells false ((dW (cJ B Q)).map fun d => Cell.o d 0) 1)
   | 13 => some (.cells false [.o (.b false) 0] 1)
   | 14 => some (.lp (Ji B Q) [fW] 34 (uY (aY Try.f136) 0) (uC (aY Try.f136) 0) (bif t.2.2.2 then .done else .ready) (bif t.2.2.2 then some .ret else none))
   | 15 => none
   | i => S.o i t.2.2.1
theorem Ci {σ : Type} {S : Tns σ} {B : Bk} {Q : List Ln} (hk : ∀ M F s, KpO 12 (S.ob B M F s)) (t : dQ × (Nat -> Mo) × σ × Bool) : KpO 16 ((Cq S B Q).base t) := by
 intro id c hc
 by_cases hlt : id.nat < 12
 ·have h2 : (S.ob B t.1 t.2.1 t.2.2.1).get id = some c := by
   rw [<- hc]
   rcases qS hlt with rfl | rfl | rfl | rfl | rfl | rfl | rfl | rfl | rfl | rfl | rfl <;> rfl
  obtain ⟨q1, q2⟩ := hk _ _ _ id c h2
  exact ⟨by omega, q2.up (by omega)⟩
 ·have h3 : (bP (some (.map (bR t.1))) (S.o 2 t.2.2.1) (S.o 3 t.2.2.1) (S.o 4 t.2.2.1) (S.o 5 t.2.2.1) (some (eR B)) (S.o 7 t.2.2.1) (some (.cells false [.o (.yl i7) 0] 1)) (some (pN t.2.1)) (some (.cells false [.o sD 0] 1)) (S.o 11 t.2.2.1) ((Cq S B Q).o 12 t) ((Cq S B Q).o 13 t) ((Cq S B Q).o 14 t) none none none none none none).get id = some c := hc
  rw [uS (x1 := none) (x2 := none) (x3 := none) (x4 := none) (x5 := none) (x6 := none) (x7 := none) (x8 := none) (x9 := none) (x10 := none) (x11 := none) (Nat.not_lt.1 hlt)] at h3
  have key : TAll (fun id c => id.nat < 16 /\ KpC 16 c) (bP none none none none none none none none none none none ((Cq S B Q).o 12 t) ((Cq S B Q).o 13 t) ((Cq S B Q).o 14 t) none none none none none none) := by
   unfold bP Cq
   repeat' first | exact TAll.e | refine TAll.some ?_ ?_ ?_ | refine TAll.none ?_ ?_
   all_goals refine ⟨by simp [Pos.nat], ?_⟩
   ·exact JK (KpL.pu _ (fJ _))
   ·show TAll (fun _ d => Kp 16 d) (Ji B Q)
    unfold Ji
    repeat' first | exact TAll.e | refine TAll.some ?_ ?_ ?_ | refine TAll.none ?_ ?_
    all_goals simp [Kp, KpL, Pu, aO, jV, fJ, JH, Pos.nat]
   ·exact OI (by simp [Kp, Pu])
  exact key id c h3
end Go.Ev
end
