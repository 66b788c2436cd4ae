import Derived.Test.YtjgbfnciedkafaaEvUG7
import Derived.Test.YtjgbfnciedkafaaEvUJs
import Derived.Test.YtjgbfnciedkafaaEvUIt
set_option linter.all false
set_option maxHeartbeats 8000000
noncomputable section
namespace Go.Ev
open Go.Proofs
set_option maxRecDepth 100000
def wP : Pos := .o (.i (.i .h))
structure AskOk (B : Bk) (g : Pos) (first caps : List D) (ak : Mo -> Int) : Prop where
 p1 : aO first
 p2 : aO caps
 ok : ∀ (Q : List Ln) (i : Nat), i <= 8 -> PureF Try.prog g.ix (first ++ ([.ag (dI (fJ B.box B.coin Q i))] ++ caps)) (.i .i64 (ak (fJ B.box B.coin Q i)))
def Zt (B : Bk) (aft : Nat) (ak : Mo -> Int) (h : List (List Ln)) (s : List Int) : Prop := s = h.map fun X => ak (fJ B.box B.coin X aft)
def SG (B : Bk) (aft : Nat) (ak : Mo -> Int) (s : List Int) (X : List Ln) (s' : List Int) (g : Bool) : Prop := s' = s ++ [ak (fJ B.box B.coin X aft)] /\ g = true
theorem Tq {B : Bk} (V : VB B) {aft : Nat} {g : Pos} {first caps : List D} {ak : Mo -> Int} (A : AskOk B g first caps ak) (ha : aft <= B.ls.length) : TnsOk (Fa aft g first caps) B (Zt B aft ak) (SG B aft ak) := by
 have hL := V.len
 refine ⟨fun M F s => Th A.p1 A.p2 M F s, ?_, ?_⟩
 ·rintro h s X s' _ hI ⟨rfl, _⟩
  have hI : s = h.map fun X => ak (fJ B.box B.coin X aft) := hI
  show s ++ [_] = (h ++ [X]).map _
  rw [hI, List.map_append]; rfl
 ·intro h s hI X hpre M hM
  have hXe := fH.1 (hpre.subset (show X ∈ h ++ [X] by simp))
  have hXl : X.length = B.ls.length := by have := hXe.len; simpa using this
  have hsl : s.length < 4096 := by
   have hI : s = h.map fun X => ak (fJ B.box B.coin X aft) := hI
   have q1 := hpre.length_le
   have q2 := Iv V
   rw [hI, List.length_map]
   rw [List.length_append, List.length_singleton] at q1
   omega
  have hmo : uA B.box B.coin X X.length aft = fJ B.box B.coin X aft := nP (by omega)
  have cA := A.ok X aft (by omega)
  generalize hv : ak (fJ B.box B.coin X aft) = v at cA
  generalize hF : uA B.box B.coin X X.length = F at hmo ⊢
  cases s with
  | nil =>
    refine RndOk.runEF (sl0 := bdS) rfl zO zR ⟨_, rfl, ?_⟩
    unfold Tns.ob bQ Fa bdS
    conv => whnf
    refine Qg ?_
    refine ⟨rfl, rfl, _, _, _, _, _, _, rfl, ?_⟩
    conv => whnf
    refine Qg ?_
    refine WSt.ixaN (m := aft) rfl rfl rfl (by omega) ?_; conv => whnf
    refine wSt.ldM (F := F) (q := aft) (by rfl) (by rfl) (by rfl) (by omega) ?_
    rw [hmo]
    conv => whnf
    repeat' ((first | refine Qz ?_ | refine Qf cA ?_) <;> conv => whnf)
    refine WSt.app_firstL (r := [.i .i64 v]) rfl (.inl rfl) rfl rfl rfl rfl ?_; conv => whnf
    refine Qg ?_
    refine ⟨_, _, _, _, _, _, _, (bQ (some (.map (bT M))) none (some (.cells false [.o (.i .i64 (aft : Int)) 0, .o (.fn g first caps) 0] 1)) (some (.cells false [.o (.i .i64 0) 0, .o (.i .i64 0) 0] 1)) (some (.cells false [.o (.sl wP 0 1 0 1) 0] 1)) (some (eG B)) (some (.lp bdS [p10] 28 (mB (aN Try.f88) 0) (mQ (aN Try.f88) 0) .ready none)) (some (.cells false [.o (.yl i7) 0] 1)) (some (qL F)) (some (.cells false [.o sP 0] 1)) (some .hole) none none (some (.cells false [.o (.i .i64 v) 0] 1)) none none none none none none), (Fa aft g first caps).ob B M F [v], rfl, rfl, .i (.i (.i .h)), wP, by simp [zZ, Pos.nat], by simp [zZ, wP, Pos.nat], Shr.kp ?_ ?_, ?_, [v], ⟨by rw [<- hv]; rfl, rfl⟩, rfl⟩
    ·unfold bQ bdS
     repeat' first | exact T.le_e _ | refine T.le_some ?_ rfl ?_ | refine T.le_same ?_ ?_ | refine T.le_none ?_ ?_
    ·have k1 := KpL.pu (n := 15) first A.p1
     have k2 := KpL.pu (n := 15) caps A.p2
     show TAll (fun id c => id.nat < 15 /\ KpC 15 c) _
     unfold bQ
     repeat' first | exact TAll.e | refine TAll.some ?_ ?_ ?_ | refine TAll.none ?_ ?_
     all_goals refine ⟨by simp [Pos.nat], ?_⟩
     all_goals first
      | exact dP
      | exact fun s d h => (De s d h).up (by omega)
      | exact Lj (jZ _ _)
      | exact jD B (by omega)
      | trivial
      | (refine KpL.all ?_; simp [KpL, Kp, Cell.d, Pu, sP, k1, k2, i6, i7, i8, i9, Lg, wP, Pos.nat])
    ·refine ⟨xS, .i (.o .h), false, 1, 0, 1, 0, 1, 0, 1, [.i .i64 v], by simp [xS, zZ, Pos.nat], by simp [xS, Pos.nat], rfl, by simp [aO, Pu], rfl, rfl, fun i ci hci => ?_⟩
     rcases NO A.p1 A.p2 M F [v] hci with ⟨q1, q2⟩ | ⟨q1, q2⟩ | ⟨_, _, q3⟩
     ·exact .inl ⟨q1, (Option.some.inj q2).symm⟩
     ·exact .inr (.inl ⟨q1, q2⟩)
     ·obtain ⟨r1, r2⟩ := KX A.p1 A.p2 M F i ci q3
      refine .inr (.inr ⟨r1, ?_, r2⟩)
      have hle : T.le (VE B M F aft g first caps) (bQ (some (.map (bT M))) none (some (.cells false [.o (.i .i64 (aft : Int)) 0, .o (.fn g first caps) 0] 1)) (some (.cells false [.o (.i .i64 0) 0, .o (.i .i64 0) 0] 1)) (some (.cells false [.o (.sl wP 0 1 0 1) 0] 1)) (some (eG B)) (some (.lp bdS [p10] 28 (mB (aN Try.f88) 0) (mQ (aN Try.f88) 0) .ready none)) (some (.cells false [.o (.yl i7) 0] 1)) (some (qL F)) (some (.cells false [.o sP 0] 1)) (some .hole) none none (some (.cells false [.o (.i .i64 v) 0] 1)) none none none none none none) := by
       unfold VE bQ
       repeat' first | exact T.le_e _ | refine T.le_some ?_ rfl ?_ | refine T.le_same ?_ ?_ | refine T.le_none ?_ ?_
      exact hle i ci q3
  | cons a s =>
    have hs2 : s.length + 1 < 4096 := hsl
    refine RndOk.runE (sl0 := bdS) rfl zO zR ⟨_, rfl, ?_⟩
    unfold Tns.ob bQ Fa bdS Nn Rq
    conv => whnf
    refine Qg ?_
    refine ⟨rfl, rfl, _, _, _, _, _, _, rfl, ?_⟩
    conv => whnf
    refine Qg ?_
    refine WSt.ixaN (m := aft) rfl rfl rfl (by omega) ?_; conv => whnf
    refine wSt.ldM (F := F) (q := aft) (by rfl) (by rfl) (by rfl) (by omega) ?_
    rw [hmo]
    conv => whnf
    repeat' ((first | refine Qz ?_ | refine Qf cA ?_) <;> conv => whnf)
    refine WSt.app_oneL (ds := (a :: s).map fun n => D.i .i64 n) (r := [.i .i64 v]) rfl rfl rfl rfl rfl rfl (by simp) rfl rfl (by omega) rfl ?_; conv => whnf
    refine Qg ?_
    have hln : (s ++ [v]).length = s.length + 1 := by simp
    have hb : Rq (a :: s ++ [v]) = some (.cells false (((a :: s).map fun n => D.i .i64 n) ++ [D.i .i64 v] |>.map fun d => Cell.o d (s.length + 1)) (s.length + 1 + 1)) := by
     show some (Ev.C.cells false (((a :: (s ++ [v])).map fun n => D.i .i64 n).map fun d => Cell.o d (s ++ [v]).length) ((s ++ [v]).length + 1)) = _
     rw [hln, <- List.cons_append, List.map_append]; rfl
    have hsl' : Nn (a :: s ++ [v]) = .sl xS 0 (s.length + 1 + 1) (s.length + 1) 1 := by
     show D.sl xS 0 ((s ++ [v]).length + 1) (s ++ [v]).length 1 = _
     rw [hln]
    refine ⟨_, _, _, _, _, _, _, (Fa aft g first caps).ob B M F (a :: s ++ [v]), rfl, rfl, ?_, a :: s ++ [v], ⟨by rw [<- hv], rfl⟩, rfl⟩
    show Shr _ ⟨.e, bQ (some (.map (bT M))) none (some (.cells false [.o (.i .i64 (aft : Int)) 0, .o (.fn g first caps) 0] 1)) (some (.cells false [.o (.i .i64 0) 0, .o (.i .i64 0) 0] 1)) (some (.cells false [.o (Nn (a :: s ++ [v])) 0] 1)) (some (eG B)) (some (.lp bdS [p10] 28 (mB (aN Try.f88) 0) (mQ (aN Try.f88) 0) .ready none)) (some (.cells false [.o (.yl i7) 0] 1)) (some (qL F)) (some (.cells false [.o sP 0] 1)) (Rq (a :: s ++ [v])) none none none none none none none none none, zZ, none⟩
    rw [hb, hsl']
    have k1 := KpL.pu (n := 12) first A.p1
    have k2 := KpL.pu (n := 12) caps A.p2
    have hpv : aO (((a :: s).map fun n => D.i .i64 n) ++ [D.i .i64 v]) := aF.2 fun d hd => by
     rcases List.mem_append.1 hd with h | h
     ·exact aF.1 (dQ (a :: s)) d h
     ·rw [List.mem_singleton.1 h]; trivial
    refine Shr.of ?_ ?_ rfl rfl
    ·exact Rel.e
    ·unfold bQ
     repeat' first | exact Rel.e | refine Rel.some ?_ ?_ ?_ | refine Rel.none ?_ ?_
     all_goals refine RO'.of (by simp [Pos.nat, zZ]) ?_
     all_goals first
      | exact ShC.kp dP
      | exact ShC.kp (n := 12) (fun s d h => (De s d h).up (by omega))
      | exact ShC.kp (Lj (jZ _ _))
      | exact ShC.kp (n := 12) (jD B (by omega))
      | exact ShC.grown (by omega) hpv
      | (refine ShC.kp (n := 12) (KpL.all ?_); simp [KpL, Kp, Cell.d, Pu, sP, k1, k2, i6, i7, i8, i9, Lg, xS, Pos.nat])
theorem BY {B : Bk} {x1 x2 x3 x4 x5 : Option Ev.C} (hk : KpO 6 (bQ x1 x2 x3 x4 x5 none none none none none none none none none none none none none none none)) : CallOk Try.prog p120.ix [.ag (gI B ++ [.mp .h])] (bQ x1 x2 x3 x4 x5 none none none none none none none none none none none none none none none) i6 none (.fn p136 [] [.pt i6 0 0]) (bQ x1 x2 x3 x4 x5 (some (eG B)) none none none none none none none none none none none none none none) i7 none := by
 refine CallOk.run Sn (by simp) (by simp [i6, i7, Pos.nat]) ?_
 unfold gI bQ
 conv => whnf
 refine Qg ?_
 refine ⟨.inr rfl, ⟨_, rfl, .fn .nil (.cons (.kpt (by simp [i6, i7, Pos.nat])) .nil)⟩, Shr.kp (T.le_refl _) fun id c h => ?_⟩
 by_cases e : id = i6
 ·subst e
  have h : some (eG B) = some c := h
  cases h
  exact ⟨by simp [i6, i7, Pos.nat], jD B (by simp [i7, Pos.nat])⟩
 ·have h2 : (bQ x1 x2 x3 x4 x5 none none none none none none none none none none none none none none none).get id = some c := by
   have := T.get_set_ne e (eG B) (bQ x1 x2 x3 x4 x5 none none none none none none none none none none none none none none none)
   rw [<- this]; exact h
  obtain ⟨q1, q2⟩ := hk id c h2
  exact ⟨by simp [i7, Pos.nat]; omega, q2.up (by simp [i7, Pos.nat])⟩
def Cd (L : List Int) : D := .ag [.i .i64 (L.foldl min (L.getD 0 0)), .i .i64 (L.foldl max (L.getD 0 0))]
def eX (B : Bk) (aft : Nat) (ak : Mo -> Int) : List Int := (gN B B.ls.length []).map fun X => ak (fJ B.box B.coin X aft)
theorem Jz {B : Bk} {aft : Nat} {ak : Mo -> Int} : ∀ (L : List (List Ln)) {s s' : List Int} {g : Bool}, Fld (SG B aft ak) L s s' g -> s' = s ++ L.map (fun X => ak (fJ B.box B.coin X aft)) /\ g = true
 | [], s, s', g, h => by cases h; simp
 | X :: L, s, s', g, h => by
   cases h with
   | stop h => cases h.2
   | go h k =>
     obtain ⟨rfl, _⟩ := h
     obtain ⟨h1, h2⟩ := Jz L k
     exact ⟨by rw [h1]; simp, h2⟩
theorem rN {B : Bk} (V : VB B) {aft : Nat} {g : Pos} {first caps : List D} {ak : Mo -> Int} (A : AskOk B g first caps ak) (ha : aft <= B.ls.length) (hne : gN B B.ls.length [] ≠ []) (M : dN) (hM : MOk B M) :
 ∃ M', MOk B M' /\ CallOk Try.prog p89.ix [.ag (gI B ++ [.mp .h]), .ag [.i .i64 (aft : Int), .fn g first caps]] (eT M) (.o .h) none (Cd (eX B aft ak)) (eT M') (.o .h) none := by
 have h1 := A.p1
 have h2 := A.p2
 obtain ⟨_, _, ⟨M', s', gg, hM', hFl, rfl, rfl⟩, Hc⟩ := yZ V (Tq V A ha) M hM [] rfl rfl
 obtain ⟨hs', _⟩ := Jz _ hFl
 have hs' : s' = eX B aft ak := hs'
 have hlen : s'.length <= 4096 := by rw [hs']; unfold eX; rw [List.length_map]; exact Iv V
 have hpos : 0 < s'.length := by rw [hs']; unfold eX; rw [List.length_map]; exact List.length_pos_iff.2 hne
 rw [<- hs']
 obtain ⟨a, t, rfl⟩ : ∃ a t, s' = a :: t := by
  cases s' with
  | nil => exact absurd hpos (Nat.lt_irrefl _)
  | cons a t => exact ⟨a, t, rfl⟩
 have e1 := aU (a :: t)
 have hfz : ∀ (ob : T Ev.C), ob.get xS = some (.cells false (((a :: t).map fun n => D.i .i64 n).map fun d => Cell.o d t.length) (t.length + 1)) -> Frz ob (.sl xS 0 (t.length + 1) t.length 1) (.lst 1 (ints (a :: t))) := fun ob h => Frz.whole (cs := ((a :: t).map fun n => D.i .i64 n).map fun d => Cell.o d t.length) (cur := t.length + 1) h (by rw [aU]; rfl) (dS _) (by rw [bV]) (aH _)
 obtain ⟨v, ob', ⟨M', hM', rfl, rfl⟩, Hb⟩ := CallOk.runE (Φ := fun v ob' => ∃ M', MOk B M' /\ v = Cd (a :: t) /\ ob' = eT M') (ob := eT M) (nx := .o .h) (nx' := .o .h) (ds := [.ag (gI B ++ [.mp .h]), .ag [.i .i64 (aft : Int), .fn g first caps]]) Xh (by simp) (Nat.le_refl _) (by
  conv => whnf
  refine Rn.le (a := ⟨(.n (.n .e (some (.ag [.i .i64 (aft : Int), .fn g first caps])) .e) (some (.ag (gI B ++ [.mp .h]))) .e), bQ (some (.map (bT M))) none none none none none none none none none none none none none none none none none none none, .o .h, none⟩) ?_ ?_
  ·unfold gI bQ
   conv => whnf
   refine Qg ?_
   have k1 := KpL.pu (n := 6) first h1
   have k2 := KpL.pu (n := 6) caps h2
   refine WCall.of (BY (B := B) (x1 := some (.map (bT M))) (x2 := some (eG B)) (x3 := (some (.cells false [.o (.i .i64 (aft : Int)) 0, .o (.fn g first caps) 0] 1))) (x4 := (some (.cells false [.o (.i .i64 0) 0, .o (.i .i64 0) 0] 1))) (x5 := some (.cells false [.o .ns 0] 1)) ?_) ?_
   ·show TAll (fun id c => id.nat < 6 /\ KpC 6 c) _
    unfold bQ
    repeat' first | exact TAll.e | refine TAll.some ?_ ?_ ?_ | refine TAll.none ?_ ?_
    all_goals refine ⟨by simp [Pos.nat], ?_⟩
    all_goals first
     | exact dP
     | exact jD B (by omega)
     | (refine KpL.all ?_; simp [KpL, Kp, Cell.d, Pu, k1, k2, Pos.nat])
   conv => whnf
   refine Qg ?_
   refine Rn.le (a := ⟨bdS, bQ (some (.map (bT M))) none (some (.cells false [.o (.i .i64 (aft : Int)) 0, .o (.fn g first caps) 0] 1)) (some (.cells false [.o (.i .i64 0) 0, .o (.i .i64 0) 0] 1)) (some (.cells false [.o .ns 0] 1)) (some (eG B)) none none none none none none none none none none none none none none, i7, none⟩) ?_ ?_
   ·refine Rn.rf rfl rfl Hc rfl (by simp) ?_
    unfold Tns.bob bQ Fa Nn Rq bdS
    conv => whnf
    refine Qg ?_
    refine WSt.ixsY (m := 0) (by rfl) (by rfl) (by omega) ?_; conv => whnf
    refine wSt.ld1 (v := .i .i64 a) (lo := t.length) (by rfl) (by rfl) (by rfl) (Nat.le_refl _) ?_; conv => whnf
    refine Qg ?_
    refine WCall.borrow1 (SE a (a :: t) (by omega)) xS (.cells false (((a :: t).map fun n => D.i .i64 n).map fun d => Cell.o d t.length) (t.length + 1)) (.cons (.pu trivial) (.cons (hfz _ (T.get_set_same _ _ _)) .nil)) trivial rfl rfl ?_; conv => whnf
    refine Qg ?_
    refine WCall.borrow1 (Vw (a :: t) (by simp) (by omega)) xS (.cells false (((a :: t).map fun n => D.i .i64 n).map fun d => Cell.o d t.length) (t.length + 1)) (.cons (hfz _ (T.get_set_same _ _ _)) .nil) trivial rfl rfl ?_; conv => whnf
    refine Qg ?_
    refine ⟨_, _, ⟨M', hM', rfl, rfl⟩, ⟨.inr rfl, ⟨_, rfl, .ag (.cons (Fz.i rfl) (.cons (Fz.i rfl) .nil))⟩, Shr.kp ?_ (fI M')⟩⟩
    show T.le (T.n .e (some (.map (bT M'))) .e : T Ev.C) _
    refine T.le_some (T.le_e _) rfl (T.le_e _)
   ·refine X.le.mk ?_ ?_ (Nat.le_refl _) rfl rfl
    ·unfold bdS
     repeat' first | exact T.le_refl _ | exact T.le_e _ | refine T.le_some ?_ rfl ?_ | refine T.le_same ?_ ?_ | refine T.le_none ?_ ?_
    ·unfold bQ
     repeat' first | exact T.le_refl _ | exact T.le_e _ | refine T.le_some ?_ rfl ?_ | refine T.le_same ?_ ?_ | refine T.le_none ?_ ?_
  ·refine X.le.mk (T.le_refl _) ?_ (Nat.le_refl _) rfl rfl
   unfold bQ
   exact Lw)
 exact ⟨M', hM', Hb⟩
theorem GL (B : Bk) : AskOk B p77 [] [] Mo.box := ⟨trivial, trivial, fun Q i _ => gV _⟩
theorem Ga (B : Bk) : AskOk B p78 [] [] Mo.mix := ⟨trivial, trivial, fun Q i _ => gT _⟩
theorem xW {n coin box : Int} {ls : List Ln} {cs : List Ct} {t : Bool} (h : sE n coin box ls cs t = 0) : gN (B5 n coin box ls cs) ls.length [] ≠ [] := by
 unfold sE at h
 have hb : lI (B5 n coin box ls cs) = true := by
  cases hh : lI (B5 n coin box ls cs) with
  | true => rfl
  | false =>
    rw [hh] at h
    split at h
    ·exact absurd h (by assumption)
    ·cases t <;> cases h
 obtain ⟨X, hX⟩ := rM.1 hb
 intro he
 have := fH.2 hX
 rw [show (B5 n coin box ls cs).ls.length = ls.length from rfl, he] at this
 cases this
theorem rL {n coin box : Int} {ls : List Ln} {cs : List Ct} {t : Bool} (h : sE n coin box ls cs t = 0) : aS n coin box ls cs = 0 /\ t = true := by
 unfold sE at h
 by_cases hf : aS n coin box ls cs ≠ 0
 ·rw [if_pos hf] at h; exact absurd h hf
 ·rw [if_neg hf] at h
  refine ⟨by omega, ?_⟩
  cases t with
  | true => rfl
  | false => cases h
theorem rY {n coin box : Int} {ls : List Ln} {cs : List Ct} {M : dN} (Hs : CallOk Try.prog p85.ix [.ag (gI (B5 n coin box ls cs)), .b true] .e .h none (.tp [.ag (gI (B5 n coin box ls cs) ++ [.mp .h]), .i .i64 0]) (eT M) (.o .h) none) {ob : T C} {nx : Pos} {lg : Option (T Bool)} : CallOk Try.prog p85.ix [.ag (gI (B5 n coin box ls cs)), .b true] ob nx lg (.tp [.ag (gI (B5 n coin box ls cs) ++ [.mp nx]), .i .i64 0]) (T.set nx (.map (bT M)) ob) nx.succ (Hm lg nx) :=
 CallOk.newG Hs rfl (mC M) (by simp [aO, Pu, jP]) (fun γ γ' w => .tp (.cons (.ag (.app (.pu qG (jP _)) rfl (.cons .mpO .nil))) (.cons (.pu qG trivial) .nil)))
theorem uW (L : List Int) : Pu (Cd L) := by simp [Cd, Pu, aO]
def Pq (n coin box : Int) (ls : List Ln) (cs : List Ct) (after : Int) : D :=
 if sE n coin box ls cs (gE after 0 ls.length) = 0 then .tp [Cd (eX (B5 n coin box ls cs) after.toNat Mo.box), .i .i64 0] else .tp [.ag [.i .i64 0, .i .i64 0], .i .i64 (sE n coin box ls cs (gE after 0 ls.length))]
theorem JR (n coin box : Int) (ls : List Ln) (cs : List Ct) (after : Int) : PureF Try.prog p39.ix [.ag [.i .i64 n, .i .i64 coin, .i .i64 box, .lst 3 (aC aI ls), .lst 3 (aC cY cs)], .i .i64 after] (Pq n coin box ls cs after) := by
 have e1 := aD aI ls
 have cU : PureF Try.prog p86.ix [.i .i64 after, .i .i64 ((aC aI ls).length : Int)] (.b (gE after 0 ls.length)) := by
  have := uZ after ((aC aI ls).length : Int)
  rw [e1] at this ⊢
  exact this
 unfold Pq
 by_cases hE : sE n coin box ls cs (gE after 0 ls.length) = 0
 ·rw [if_pos hE]
  obtain ⟨hf, ht⟩ := rL hE
  have hE' := hE
  rw [ht] at hE' cU
  obtain ⟨M, hM, Hs⟩ := qN n coin box ls cs hE'
  have ha := aP.1 ht
  have V := VB.of hf
  obtain ⟨M', hM', Hb⟩ := rN V (GL _) (aft := after.toNat) (show after.toNat <= ls.length by omega) (xW hE) M hM
  rw [show ((after.toNat : Nat) : Int) = after by omega] at Hb
  refine PureF.run SZ (by simp) (by simp [aO, dF, Pu, aH, aB, aE]) ?_; conv => whnf
  repeat' ((first | refine Qw ?_ | refine Qf cU ?_ | refine Qd (fun h => ?_) (fun h => ?_)) <;> conv => whnf)
  refine WCall.of (rY Hs) ?_; conv => whnf
  repeat' ((first | refine Qw ?_ | refine Qd (fun h => ?_) (fun h => ?_)) <;> conv => whnf)
  refine WCall.of (CallOk.mapAt Hb (uW _) (id := .i .h) rfl (show 3 < Pos.nat (.i (.o .h)) from by decide) (jX (by simp [aO, Pu]))) ?_; conv => whnf
  repeat' ((first | refine Qw ?_ | refine Qd (fun h => ?_) (fun h => ?_)) <;> conv => whnf)
  exact ⟨.inr rfl, _, rfl, .tp (.cons (.ag (.cons (Fz.i rfl) (.cons (Fz.i rfl) .nil))) (.cons (.pu trivial) .nil))⟩
 ·rw [if_neg hE]
  have cS := qO n coin box ls cs _ hE
  generalize sE n coin box ls cs (gE after 0 ls.length) = e at hE cS ⊢
  unfold gI B5 Rs at cS
  refine PureF.run SZ (by simp) (by simp [aO, dF, Pu, aH, aB, aE]) ?_; conv => whnf
  repeat' ((first | refine Qw ?_ | refine Qf cU ?_ | refine Qf cS ?_ | refine Qd (fun h => ?_) (fun h => ?_)) <;> conv => whnf)
  all_goals first
   | (exfalso; omega)
   | exact ⟨.inr rfl, _, rfl, .tp (.cons (.ag (.cons (.pu trivial) (.cons (.pu trivial) .nil))) (.cons (.pu trivial) .nil))⟩
def QI (n coin box : Int) (ls : List Ln) (cs : List Ct) : D :=
 if sE n coin box ls cs true = 0 then .tp [Cd (eX (B5 n coin box ls cs) ls.length Mo.mix), .i .i64 0] else .tp [.ag [.i .i64 0, .i .i64 0], .i .i64 (sE n coin box ls cs true)]
theorem JW (n coin box : Int) (ls : List Ln) (cs : List Ct) : PureF Try.prog p40.ix [.ag [.i .i64 n, .i .i64 coin, .i .i64 box, .lst 3 (aC aI ls), .lst 3 (aC cY cs)]] (QI n coin box ls cs) := by
 have e1 := aD aI ls
 unfold QI
 by_cases hE : sE n coin box ls cs true = 0
 ·rw [if_pos hE]
  obtain ⟨hf, _⟩ := rL hE
  obtain ⟨M, hM, Hs⟩ := qN n coin box ls cs hE
  have V := VB.of hf
  obtain ⟨M', hM', Hb⟩ := rN V (Ga _) (aft := ls.length) (Nat.le_refl _) (xW hE) M hM
  rw [<- e1] at Hb ⊢
  refine PureF.run Sg (by simp) (by simp [aO, dF, Pu, aH, aB, aE]) ?_; conv => whnf
  repeat' ((first | refine Qw ?_ | refine Qd (fun h => ?_) (fun h => ?_)) <;> conv => whnf)
  refine WCall.of (rY Hs) ?_; conv => whnf
  repeat' ((first | refine Qw ?_ | refine Qd (fun h => ?_) (fun h => ?_)) <;> conv => whnf)
  refine WCall.of (CallOk.mapAt Hb (uW _) (id := .i .h) rfl (show 3 < Pos.nat (.i (.o .h)) from by decide) (jX (by simp [aO, Pu]))) ?_; conv => whnf
  repeat' ((first | refine Qw ?_ | refine Qd (fun h => ?_) (fun h => ?_)) <;> conv => whnf)
  exact ⟨.inr rfl, _, rfl, .tp (.cons (.ag (.cons (Fz.i rfl) (.cons (Fz.i rfl) .nil))) (.cons (.pu trivial) .nil))⟩
 ·rw [if_neg hE]
  have cS := qO n coin box ls cs _ hE
  generalize sE n coin box ls cs true = e at hE cS ⊢
  unfold gI B5 Rs at cS
  refine PureF.run Sg (by simp) (by simp [aO, dF, Pu, aH, aB, aE]) ?_; conv => whnf
  repeat' ((first | refine Qw ?_ | refine Qf cS ?_ | refine Qd (fun h => ?_) (fun h => ?_)) <;> conv => whnf)
  all_goals first
   | (exfalso; omega)
   | exact ⟨.inr rfl, _, rfl, .tp (.cons (.ag (.cons (.pu trivial) (.cons (.pu trivial) .nil))) (.cons (.pu trivial) .nil))⟩
theorem My (m : Mo) (x : Nat) (hx : x < 8) : PureF Try.prog p119.ix [.i .i64 (x : Int), .ag (dI m)] (.i .i64 (min (m.h x) 1)) := by
 unfold dI
 refine PureF.run Sk (by simp) (by simp [aO, Pu]) ?_; conv => whnf
 repeat' ((first | refine Qw ?_ | refine Qd (fun h => ?_) (fun h => ?_)) <;> conv => whnf)
 refine WSt.ixaN (m := x) rfl rfl rfl (by omega) ?_; conv => whnf
 refine wSt.ldH (n := m.n) (h := m.h) (box := m.box) (mix := m.mix) (c := x) (by rfl) (by rfl) (by rfl) (by omega) ?_; conv => whnf
 repeat' ((first | refine Qw ?_ | refine Qd (fun h => ?_) (fun h => ?_)) <;> conv => whnf)
 exact Fin.i rfl rfl
theorem zV (B : Bk) (x : Nat) (hx : x < 8) : AskOk B p119 [.i .i64 (x : Int)] [] (fun m => min (m.h x) 1) := ⟨by simp [aO, Pu], trivial, fun _ _ _ => My _ x hx⟩
def OX (a b : Int) : Int := if a = 1 /\ b = 1 then 1 else if a = 0 /\ b = 0 then 2 else 3
theorem GT (a b : Int) (ha : sL .i64 a = true) (hb : sL .i64 b = true) : PureF Try.prog p118.ix [.ag [.i .i64 a, .i .i64 b]] (.i .i64 (OX a b)) := by
 refine PureF.run Se (by simp) (by simp [aO, Pu]) ?_; conv => whnf
 repeat' ((first | refine Qw ?_ | refine Qd (fun h => ?_) (fun h => ?_)) <;> conv => whnf)
 refine WSt.eqr2 (a := a) (b := b) (a' := 1) (b' := 1) rfl rfl ha hb rfl rfl ?_; conv => whnf
 by_cases h1 : a = 1 /\ b = 1
 ·repeat' ((first | refine Qw ?_ | refine Qd (fun h => ?_) (fun h => ?_)) <;> conv => whnf)
  exact Fin.i rfl (by unfold OX; rw [if_pos h1])
 ·repeat' ((first | refine Qw ?_ | refine Qd (fun h => ?_) (fun h => ?_)) <;> conv => whnf)
  refine WSt.eqr2 (a := a) (b := b) (a' := 0) (b' := 0) rfl rfl ha hb rfl rfl ?_; conv => whnf
  by_cases h2 : a = 0 /\ b = 0
  ·repeat' ((first | refine Qw ?_ | refine Qd (fun h => ?_) (fun h => ?_)) <;> conv => whnf)
   exact Fin.i rfl (by unfold OX; rw [if_neg h1, if_pos h2])
  ·repeat' ((first | refine Qw ?_ | refine Qd (fun h => ?_) (fun h => ?_)) <;> conv => whnf)
   exact Fin.i rfl (by unfold OX; rw [if_neg h1, if_neg h2])
theorem Cv.ns {γ γ' : Gh} {w : World} {z : Nat} : Cv γ γ' w .ns (.lst z []) := fun v h => by
 unfold DV at h ⊢
 exact ⟨none, 0, h, Nat.le_refl _, fun _ => rfl, .inl rfl⟩
theorem WSt.slcT {sl : T D} {ob : T C} {nx : Pos} {lg : Option (T Bool)} {K : X -> Prop} {d : Pos} {z h : Nat} {x xh : RX} {es : List (List D)} (hx : bE sl x = some (.lst z es)) (hhi : bE sl xh = some (.i .i64 (h : Int))) (h2 : h <= es.length) (k : dL sl ob nx lg d K (.lst z (es.take h))) : WSt (.slc d z x none (some xh) none) ⟨sl, ob, nx, lg⟩ K := by
 obtain ⟨k2, k3⟩ := aV k
 refine ⟨_, ?_, k3⟩
 show yT d z x none (some xh) none sl ob nx lg = _
 unfold yT
 rw [hx]
 have hhi' : ((h : Nat) : Int) = Int.ofNat h := rfl
 have b1 : Nat.ble 0 h = true := Nat.ble_eq_true_of_le (Nat.zero_le _)
 have b2 : Nat.ble h es.length = true := Nat.ble_eq_true_of_le h2
 simp only [bnd, hhi, hhi', Nat.beq_refl, cond_true, b1, b2, Bool.and_self, List.drop_zero]
 exact k2
theorem Jk {n coin box : Int} {ls : List Ln} {ob : T C} {nx : Pos} {lg : Option (T Bool)} : CallOk Try.prog p75.ix [.ag [.i .i64 n, .i .i64 coin, .i .i64 box, .lst 3 (aC aI ls), .ns]] ob nx lg (.ag (gI (B5 n coin box ls []) ++ [.mp nx])) (T.set nx (.map (bT [])) ob) nx.succ (Hm lg nx) :=
 (oI (B := B5 n coin box ls [])).sub fun γ w => .cons (.ag (.cons (.pu (fun _ h => h) trivial) (.cons (.pu (fun _ h => h) trivial) (.cons (.pu (fun _ h => h) trivial) (.cons (.pu (fun _ h => h) (aB _)) (.cons .ns .nil)))))) .nil
theorem GN {n : Int} (hn : 1 <= n /\ n <= 4) (ls : List Ln) (k : Nat) : eY n (ls.take k) <= eY n ls := by
 have h1 : eY n ls = (ls.drop k).foldl (fun m l => m * kU n l) (eY n (ls.take k)) := by
  unfold eY
  rw [<- List.foldl_append, List.take_append_drop]
 have h2 := (fQ hn.1 hn.2 (ls.take k)).2
 rw [h1]
 generalize eY n (ls.take k) = p at h2 ⊢
 generalize ls.drop k = r
 induction r generalizing p with
 | nil => exact Int.le_refl _
 | cons x r ih =>
   obtain ⟨b1, b2⟩ := oC hn.1 hn.2 x
   have h0 : p * 1 <= p * kU n x := Int.mul_le_mul (Int.le_refl _) b1 (by omega) (by omega)
   rw [Int.mul_one] at h0
   exact Int.le_trans h0 (ih (p * kU n x) (by omega))
theorem VB.pre {n coin box : Int} {ls : List Ln} {cs : List Ct} (V : VB (B5 n coin box ls cs)) (k : Nat) : VB (B5 n coin box (ls.take k) []) := by
 have hn : 1 <= n /\ n <= 4 := V.n
 have h8 : ls.length <= 8 := V.len
 refine ⟨V.n, V.coin, V.box, ?_, by show (0 : Nat) <= 4; omega, ?_, fun c hc => absurd (show c ∈ ([] : List Ct) from hc) (by simp), ?_⟩
 ·show (ls.take k).length <= 8
  rw [List.length_take]; omega
 ·show (ls.take k).all (cL n) = true
  rw [List.all_eq_true]
  exact fun x hx => List.all_eq_true.1 V.ls x (List.mem_of_mem_take hx)
 ·show eL n (ls.take k) <= 4096
  have h1 := fQ hn.1 hn.2 (ls.take k)
  have h2 := fQ hn.1 hn.2 ls
  have h3 := GN hn ls k
  have h4 : eL n ls <= 4096 := V.many
  omega
def KR (n coin box : Int) (ls : List Ln) (k : Nat) : Bool := !lI (B5 n coin box (ls.take (k + 1)) [])
def KJ (n coin box : Int) (ls : List Ln) : Option Nat := (List.range ls.length).find? (KR n coin box ls)
def Dj (n coin box : Int) (ls : List Ln) (cs : List Ct) : Int × Int :=
 if aS n coin box ls cs = 0 then (match KJ n coin box ls with | some k => ((k : Int), 0) | none => (0, 7)) else (0, aS n coin box ls cs)
def Zz (n coin box : Int) (ls : List Ln) (es : List (List D)) (d : D) (j : Nat) : X := ⟨(.n (.n .e (some (.pt .h 0 0)) (.n (.n (.n .e (some (.i .i64 (j : Int))) .e) none .e) (some (.lst 3 (aC aI ls))) .e)) none (.n (.n (.n (.n .e (some (.i .i64 (ls.length : Int))) .e) none .e) none .e) none .e)), (.n .e (some (.cells false [.o (.i .i64 n) 0, .o (.i .i64 coin) 0, .o (.i .i64 box) 0, .o (.lst 3 es) 0, .o .ns 0] 1)) .e), .o .h, none⟩
theorem Id (n coin box : Int) (ls : List Ln) (cs : List Ct) : PureF Try.prog p47.ix [.ag [.i .i64 n, .i .i64 coin, .i .i64 box, .lst 3 (aC aI ls), .lst 3 (aC cY cs)]] (.tp [.i .i64 (Dj n coin box ls cs).1, .i .i64 (Dj n coin box ls cs).2]) := by
 have e1 := aD aI ls
 have iC := fN n coin box ls cs
 refine PureF.run XO (by simp) (by simp [aO, dF, Pu, aH, aB, aE]) ?_; conv => whnf
 by_cases hf : aS n coin box ls cs = 0
 ·have V := VB.of hf
  have hR : Dj n coin box ls cs = (match KJ n coin box ls with | some k => ((k : Int), 0) | none => (0, 7)) := by unfold Dj; rw [if_pos hf]
  rw [hf] at iC
  rw [hR]
  have h8 : ls.length <= 8 := V.len
  repeat' ((first | refine Qw ?_ | refine Qf iC ?_ | refine Qd (fun h => ?_) (fun h => ?_)) <;> conv => whnf)
  refine Rn.loop (fun j : Nat => Zz n coin box ls (match j with | 0 => aC aI ls | j + 1 => (aC aI ls).take (j + 1)) .ns j) (fun j => j <= ls.length /\ ∀ i, i < j -> KR n coin box ls i = false) (fun j => ls.length - j) 0 ?_ ?_ ?_
  ·refine X.le.mk ?_ ?_ (Nat.le_refl _) rfl rfl
   ·show T.le ((.n (.n .e (some (.pt .h 0 0)) (.n (.n (.n .e (some (.i .i64 0)) .e) none .e) (some (.lst 3 (aC aI ls))) .e)) none (.n (.n (.n (.n .e (some (.i .i64 (ls.length : Int))) .e) none .e) none .e) none .e)) : T D) _
    rw [<- e1]
    exact eN
   ·exact Lw
  ·exact ⟨Nat.zero_le _, fun i h => absurd h (Nat.not_lt_zero _)⟩
  rintro j ⟨hj, ha⟩
  have hj : j <= ls.length := hj
  generalize (match j with | 0 => aC aI ls | j + 1 => (aC aI ls).take (j + 1)) = es
  conv => whnf
  refine Qg ?_
  refine WB.dec (fun h => ?_) (fun h => ?_) <;> conv => whnf
  ·have hlt : j < ls.length := by omega
   have hw : KR n coin box ls j = !lI (B5 n coin box (ls.take (j + 1)) []) := rfl
   obtain ⟨M', hM', Hh⟩ := mG (V.pre (j + 1)) [] (MOk.nil _)
   have hrow : (aC aI ls).take (j + 1) = aC aI (ls.take (j + 1)) := List.map_take.symm
   refine Qg ?_
   refine WSt.slcT (h := j + 1) (by rfl) (by rfl) (by rw [e1]; omega) ?_; conv => whnf
   refine Qg ?_
   rw [hrow]
   refine WCall.of Jk ?_; conv => whnf
   refine Qg ?_
   refine WCall.of (CallOk.mapAt Hh trivial (id := .o .h) rfl (show 2 < 3 from by decide) (jX trivial)) ?_; conv => whnf
   generalize lI (B5 n coin box (ls.take (j + 1)) []) = bb at *
   refine Qg ?_
   cases bb with
   | false =>
     refine WB.tt ?_; conv => whnf
     refine Qg ?_
     refine ⟨.inr rfl, _, rfl, ?_⟩
     have : KJ n coin box ls = some j := List.find?_range_eq_some.2 ⟨hw, List.mem_range.2 hlt, fun i hi => by rw [ha i hi]; rfl⟩
     rw [this]
     exact .tp (.cons (.pu trivial) (.cons (.pu trivial) .nil))
   | true =>
     refine WB.ff ?_; conv => whnf
     refine Qg ?_
     refine Again.to (j + 1) (by omega) ⟨by omega, fun i hi => ?_⟩ (Nat.le_of_ble_eq_true rfl) ?_
     ·by_cases e : i = j
      ·subst e; exact hw
      ·exact ha i (by omega)
     refine Shr.of ?_ ?_ rfl rfl
     ·exact Rw
     ·show Rel _ _ ((.n .e (some (.cells false [.o (.i .i64 n) 0, .o (.i .i64 coin) 0, .o (.i .i64 box) 0, .o (.lst 3 ((aC aI ls).take (j + 1))) 0, .o .ns 0] 1)) .e) : T C) _
      rw [hrow]
      (repeat' first | exact Rel.e | refine Rel.some ?_ ?_ ?_ | refine Rel.none ?_ ?_ | refine Rel.ee ?_ ?_)
      exact Ro (ShC.same (ShC.cn (.pu trivial) (ShC.cn (.pu trivial) (ShC.cn (.pu trivial) (ShC.cn (.pu (aB _)) (ShC.cn (.pu trivial) ShC.nl))))))
  ·have hje : j = ls.length := by omega
   have : KJ n coin box ls = none := List.find?_range_eq_none.2 fun i hi => by rw [ha i (by omega)]; rfl
   rw [this]
   refine Qg ?_
   refine ⟨.inr rfl, _, rfl, ?_⟩
   exact .tp (.cons (.pu trivial) (.cons (.pu trivial) .nil))
 ·have hR : Dj n coin box ls cs = (0, aS n coin box ls cs) := by unfold Dj; rw [if_neg hf]
  rw [hR]
  generalize aS n coin box ls cs = f at *
  repeat' ((first | refine Qw ?_ | refine Qf iC ?_ | refine Qd (fun h => ?_) (fun h => ?_)) <;> conv => whnf)
  all_goals first
   | (exfalso; omega)
   | exact ⟨.inr rfl, _, rfl, .tp (.cons (.pu trivial) (.cons (.pu trivial) .nil))⟩
theorem BI (slow : IntKind -> Int -> Int -> Int) (fast : IntKind -> Nat -> Nat -> Nat) (k : IntKind) (m n : Nat) (h1 : Nat.ble m (dO k) = true) (h2 : Nat.ble n (dO k) = true) : GV slow fast k (.ofNat m) (.ofNat n) = .ofNat (fast k m n) := by
 show (bif Nat.ble m (dO k) && Nat.ble n (dO k) then Int.ofNat (fast k m n) else slow k (.ofNat m) (.ofNat n)) = _
 rw [h1, h2]
 rfl
theorem IW (a b : Int) (f : D -> Option X) : lF .and (.i .i64 a) (.i .i64 b) f = iZ .i64 (Gr .i64 a b) f := rfl
theorem Nu {a : Nat} (h : a < 1024) : Nat.ble a (dO .i64) = true := Nat.ble_eq_true_of_le (Nat.le_trans (show a <= 1023 by omega) (of_decide_eq_true rfl))
theorem WSt.andB {sl : T D} {ob : T C} {nx : Pos} {lg : Option (T Bool)} {K : X -> Prop} {d : Pos} {a b : Nat} {x y : RX} (hx : bE sl x = some (.i .i64 (a : Int))) (hy : bE sl y = some (.i .i64 (b : Int))) (ha : a < 1024) (hb : b < 1024) (k : dL sl ob nx lg d K (.i .i64 ((a &&& b : Nat) : Int))) : WSt (.bin d .and x y) ⟨sl, ob, nx, lg⟩ K := by
 obtain ⟨k2, k3⟩ := aV k
 refine ⟨_, ?_, k3⟩
 show kN d .and x y sl ob nx lg = _
 unfold kN
 rw [hx, hy]
 have hs : Gr .i64 ((a : Nat) : Int) ((b : Nat) : Int) = ((a &&& b : Nat) : Int) := BI oY (fun _ m n => Nat.land m n) .i64 a b (Nu ha) (Nu hb)
 have hlt : a &&& b <= a := Nat.and_le_left
 show lF .and (.i .i64 ((a : Nat) : Int)) (.i .i64 ((b : Nat) : Int)) _ = _
 rw [IW, hs, bW]
 have hw : IntKind.i64.wrap ((a &&& b : Nat) : Int) = ((a &&& b : Nat) : Int) := InR.i64 (by omega) (by omega)
 rw [hw]
 exact k2
theorem TL {a : Nat} (h : a < 2 ^ 64) : Nat.ble a (dO .u64) = true := Nat.ble_eq_true_of_le (show a <= 18446744073709551615 by omega)
theorem DF (a b : Int) (f : D -> Option X) : lF .and (.i .u64 a) (.i .u64 b) f = iZ .u64 (Gr .u64 a b) f := rfl
section
variable {sl : T D} {ob : T C} {nx : Pos} {lg : Option (T Bool)} {K : X -> Prop} {d : Pos} {a b j : Nat} {x y : RX} {k kk : IntKind}
theorem WSt.andU (hx : bE sl x = some (.i .u64 (a : Int))) (hy : bE sl y = some (.i .u64 (b : Int))) (ha : a < 2 ^ 64) (hb : b < 2 ^ 64) (h : ∀ r : Nat, r = a &&& b -> r <= a -> dL sl ob nx lg d K (.i .u64 (r : Int))) : WSt (.bin d .and x y) ⟨sl, ob, nx, lg⟩ K := by
 obtain ⟨k2, k3⟩ := aV (h (a &&& b) rfl Nat.and_le_left)
 refine ⟨_, ?_, k3⟩
 show kN d .and x y sl ob nx lg = _
 unfold kN
 rw [hx, hy]
 have hs : Gr .u64 ((a : Nat) : Int) ((b : Nat) : Int) = ((a &&& b : Nat) : Int) := BI oY (fun _ m n => Nat.land m n) .u64 a b (TL ha) (TL hb)
 have hlt : a &&& b <= a := Nat.and_le_left
 show lF .and (.i .u64 ((a : Nat) : Int)) (.i .u64 ((b : Nat) : Int)) _ = _
 rw [DF, hs, bW]
 have hw : IntKind.u64.wrap ((a &&& b : Nat) : Int) = ((a &&& b : Nat) : Int) := InR.u64 (by omega) (by omega)
 rw [hw]
 exact k2
theorem WSt.shrU (hx : bE sl x = some (.i k (a : Int))) (hy : bE sl y = some (.i kk (j : Int))) (hk : tR k = 64) (hj : j <= 63) (h : ∀ r : Nat, r = a / 2 ^ j -> r <= a -> dL sl ob nx lg d K (.i k (r : Int))) : WSt (.bin d .shr x y) ⟨sl, ob, nx, lg⟩ K := by
 obtain ⟨k2, k3⟩ := aV (h (a / 2 ^ j) rfl (Nat.div_le_self _ _))
 refine ⟨_, ?_, k3⟩
 show kN d .shr x y sl ob nx lg = _
 unfold kN
 rw [hx, hy]
 have hm : uH j (tR k) = j := by
  unfold uH
  rw [hk, Nat.ble_eq_true_of_le (show j <= 64 by omega)]
  rfl
 have hs : Ld ((a : Nat) : Int) j = ((a / 2 ^ j : Nat) : Int) := rfl
 show IL k (Ld ((a : Nat) : Int) (uH j (tR k))) _ = _
 rw [hm, hs, uS]
 exact k2
theorem WSt.shlU (hx : bE sl x = some (.i .i64 (a : Int))) (hy : bE sl y = some (.i kk (j : Int))) (ha : a * 2 ^ j <= 1000) (hj : j <= 63) (h : dL sl ob nx lg d K (.i .i64 ((a * 2 ^ j : Nat) : Int))) : WSt (.bin d .shl x y) ⟨sl, ob, nx, lg⟩ K := by
 obtain ⟨k2, k3⟩ := aV h
 refine ⟨_, ?_, k3⟩
 show kN d .shl x y sl ob nx lg = _
 unfold kN
 rw [hx, hy]
 have hm : uH j 64 = j := by
  unfold uH
  rw [Nat.ble_eq_true_of_le (show j <= 64 by omega)]
  rfl
 have hs : JE ((a : Nat) : Int) j = ((a * 2 ^ j : Nat) : Int) := rfl
 show iZ .i64 (JE ((a : Nat) : Int) (uH j 64)) _ = _
 rw [hm, hs, bW]
 have hw : IntKind.i64.wrap ((a * 2 ^ j : Nat) : Int) = ((a * 2 ^ j : Nat) : Int) := InR.i64 (by omega) (by omega)
 rw [hw]
 exact k2
end
def iE (c e j : Nat) : List Int := ((List.range j).filter fun i => c.testBit (e - 1 - i)).map fun i : Nat => (i : Int)
def iA (c e : Nat) : List Int := iE c e e
theorem FV (c e j : Nat) : iE c e (j + 1) = if c / 2 ^ (e - 1 - j) % 2 = 1 then iE c e j ++ [(j : Int)] else iE c e j := by
 unfold iE
 rw [List.range_succ, List.filter_append, List.map_append]
 have h : c.testBit (e - 1 - j) = decide (c / 2 ^ (e - 1 - j) % 2 = 1) := Nat.testBit_eq_decide_div_mod_eq
 by_cases hq : c / 2 ^ (e - 1 - j) % 2 = 1
 ·rw [if_pos hq]; simp [h, hq]
 ·rw [if_neg hq]; simp [h, hq]
theorem CD (c e j : Nat) : (iE c e j).length <= j := by
 unfold iE
 rw [List.length_map]
 have := List.length_filter_le (fun i => c.testBit (e - 1 - i)) (List.range j)
 rw [List.length_range] at this
 exact this
def fY (c : Nat) : Nat := ((List.range 8).filter fun i => c.testBit i).length
def nD (A : List Int) : List D := A.map fun n => D.i .i64 n
theorem LJ (A : List Int) (n : Int) : nD (A ++ [n]) = nD A ++ [.i .i64 n] := by simp [nD]
theorem NB (L : List Int) : aO (nD L) := GO L
def lZ : List Int -> D
 | [] => .ns
 | a :: l => .lst 1 (ints (a :: l))
theorem gC (S : List Int) : Pu (lZ S) := by
 cases S with
 | nil => trivial
 | cons a l => exact aH _
theorem Mk : ∀ a : _root_.Fin 256, ((((((a.1 / 2 ^ 1 &&& 6148914691236517205) + (a.1 &&& 6148914691236517205)) / 2 ^ 2 &&& 3689348814741910323) + (((a.1 / 2 ^ 1 &&& 6148914691236517205) + (a.1 &&& 6148914691236517205)) &&& 3689348814741910323)) / 2 ^ 4 + ((((a.1 / 2 ^ 1 &&& 6148914691236517205) + (a.1 &&& 6148914691236517205)) / 2 ^ 2 &&& 3689348814741910323) + (((a.1 / 2 ^ 1 &&& 6148914691236517205) + (a.1 &&& 6148914691236517205)) &&& 3689348814741910323)) &&& 1085102592571150095)) = fY a.1 := by decide +kernel
theorem QK (a : Nat) : fY a <= 8 := by
 unfold fY
 have := List.length_filter_le (fun i => a.testBit i) (List.range 8)
 rw [List.length_range] at this
 exact this
theorem MH (a : Nat) (ha : a < 256) : PureF Try.prog p158.ix [.i .u64 (a : Int)] (.i .i64 (fY a : Int)) := by
 refine PureF.run Vc (by simp) (by simp [aO, dF, Pu]) ?_; conv => whnf
 refine Qg ?_
 refine WSt.shrU (j := 1) (by rfl) (by rfl) rfl (by omega) (fun r1 h1 b1 => ?_); conv => whnf
 refine WSt.andU (b := 6148914691236517205) (by rfl) (by rfl) (by omega) (by decide) (fun r2 h2 b2 => ?_); conv => whnf
 refine WSt.andU (b := 6148914691236517205) (by rfl) (by rfl) (by omega) (by decide) (fun r3 h3 b3 => ?_); conv => whnf
 refine And.intro (InR.u64 (by omega) (by omega)) ?_; conv => whnf
 refine Qg ?_
 refine WSt.shrU (a := r2 + r3) (j := 2) (by rfl) (by rfl) rfl (by omega) (fun r4 h4 b4 => ?_); conv => whnf
 refine WSt.andU (b := 3689348814741910323) (by rfl) (by rfl) (by omega) (by decide) (fun r5 h5 b5 => ?_); conv => whnf
 refine WSt.andU (a := r2 + r3) (b := 3689348814741910323) (by rfl) (by rfl) (by omega) (by decide) (fun r6 h6 b6 => ?_); conv => whnf
 refine And.intro (InR.u64 (by omega) (by omega)) ?_; conv => whnf
 refine Qg ?_
 refine WSt.shrU (a := r5 + r6) (j := 4) (by rfl) (by rfl) rfl (by omega) (fun r7 h7 b7 => ?_); conv => whnf
 refine And.intro (InR.u64 (by omega) (by omega)) ?_; conv => whnf
 refine WSt.andU (a := r7 + (r5 + r6)) (b := 1085102592571150095) (by rfl) (by rfl) (by omega) (by decide) (fun r8 h8 b8 => ?_); conv => whnf
 have hr8 : r8 = fY a := by
  rw [h8, h7, h6, h5, h4, h3, h2, h1]
  exact Mk ⟨a, ha⟩
 have h88 := QK a
 rw [<- hr8] at h88 ⊢
 refine Qg ?_
 refine WSt.shrU (a := r8) (j := 8) (by rfl) (by rfl) rfl (by omega) (fun r9 h9 b9 => ?_); conv => whnf
 have z9 : r9 = 0 := by rw [h9]; exact Nat.div_eq_of_lt (by omega)
 subst z9
 refine And.intro (InR.u64 (by omega) (by omega)) ?_; conv => whnf
 refine Qg ?_
 refine WSt.shrU (a := r8) (j := 16) (by rfl) (by rfl) rfl (by omega) (fun r10 h10 b10 => ?_); conv => whnf
 have z10 : r10 = 0 := by rw [h10]; exact Nat.div_eq_of_lt (by omega)
 subst z10
 refine And.intro (InR.u64 (by omega) (by omega)) ?_; conv => whnf
 refine Qg ?_
 refine WSt.shrU (a := r8) (j := 32) (by rfl) (by rfl) rfl (by omega) (fun r11 h11 b11 => ?_); conv => whnf
 have z11 : r11 = 0 := by rw [h11]; exact Nat.div_eq_of_lt (by omega)
 subst z11
 refine And.intro (InR.u64 (by omega) (by omega)) ?_; conv => whnf
 refine Qg ?_
 refine WSt.andB (a := r8) (b := 127) (by rfl) (by rfl) (by omega) (by omega) ?_; conv => whnf
 refine Qg ?_
 refine Fin.i rfl ?_
 have : ∀ r : _root_.Fin 9, r.1 &&& 127 = r.1 := by decide
 rw [this ⟨r8, by omega⟩]
theorem VS (a : Nat) (ha : a < 256) : PureF Try.prog p142.ix [.i .u64 (a : Int)] (.i .i64 (fY a : Int)) := by
 have h := MH a ha
 refine PureF.run VA (by simp) (by simp [aO, dF, Pu]) ?_; conv => whnf
 repeat' ((first | refine Qz ?_ | refine Qf h ?_) <;> conv => whnf)
 try (refine WB.ff ?_; conv => whnf)
 repeat' ((first | refine Qz ?_ | refine Qf h ?_) <;> conv => whnf)
 exact Fin.i rfl rfl
def Wn : List Int -> D
 | [] => .ns
 | _ :: s => .sl (.o .h) 0 (s.length + 1) s.length 1
def Wa : List Int -> Option C
 | [] => none
 | a :: s => some (.cells false ((nD (a :: s)).map fun d => Cell.o d s.length) (s.length + 1))
def LC : List Int -> Pos
 | [] => .h
 | _ :: _ => .i .h
theorem Hy (a : Int) (s : List Int) (x : Int) : Wn (a :: (s ++ [x])) = .sl (.o .h) 0 (s.length + 1 + 1) (s.length + 1) 1 := by simp [Wn]
theorem Ia (a : Int) (s : List Int) (x : Int) : Wa (a :: (s ++ [x])) = some (.cells false ((nD (a :: s) ++ [D.i .i64 x]).map fun d => Cell.o d (s.length + 1)) (s.length + 1 + 1)) := by
 have h2 : nD (a :: (s ++ [x])) = nD (a :: s) ++ [.i .i64 x] := LJ (a :: s) x
 simp [Wa, h2]
def Vy (c e : Nat) (A : List Int) (j : Nat) : X := ⟨(.n (.n (.n (.n .e (some (.i .i64 (e : Int))) .e) none .e) (some (.i .i64 (e : Int))) (.n .e (some (Wn A)) .e)) (some (.i .i64 (c : Int))) (.n (.n (.n .e (some (.i .i64 (j : Int))) .e) none .e) none .e)), .n (.n .e (Wa A) .e) none .e, LC A, none⟩
theorem Gk (c e : Nat) (hc : c < 256) (he : e <= 8) : PureF Try.prog p143.ix [.i .i64 (c : Int), .i .i64 (e : Int)] (lZ (iA c e)) := by
 refine PureF.run SL (by simp) (by simp [aO, dF, Pu]) ?_; conv => whnf
 refine Qg ?_
 refine Rn.loop (fun j : Nat => Vy c e (iE c e j) j) (fun j => j <= e /\ True) (fun j => e - j) 0 ?_ ?_ ?_
 ·refine X.le.mk ?_ ?_ (Nat.le_refl _) rfl rfl
  ·exact eN
  ·exact Lw
 ·exact ⟨Nat.zero_le _, trivial⟩
 rintro j ⟨hj, _⟩
 have hsc := FV c e j
 have hAl := CD c e j
 have hend : j = e -> iE c e j = iA c e := fun h => by rw [h]; rfl
 generalize hA : iE c e j = A at *
 conv => whnf
 refine Qg ?_
 refine WB.dec (fun h => ?_) (fun h => ?_) <;> conv => whnf
 ·have hlt : j < e := by omega
  obtain ⟨q, hq⟩ : ∃ q : Nat, e - 1 - j = q := ⟨_, rfl⟩
  have hqi : (e : Int) - 1 - (j : Int) = (q : Int) := by omega
  refine Qg ?_
  rw [hqi]
  refine WSt.shrU (a := c) (j := q) (by rfl) (by rfl) rfl (by omega) (fun r h1 b1 => ?_); conv => whnf
  refine WSt.andB (a := r) (b := 1) (by rfl) (by rfl) (by omega) (by omega) ?_; conv => whnf
  have hr1 : (r &&& 1 : Nat) = c / 2 ^ (e - 1 - j) % 2 := by rw [Nat.and_one_is_mod, h1, hq]
  rw [hr1]
  by_cases hx : c / 2 ^ (e - 1 - j) % 2 = 1
  ·rw [if_pos hx] at hsc
   refine Qg ?_
   refine WB.decT (by omega) ?_; conv => whnf
   cases A with
   | nil =>
     refine Qg ?_
     refine WSt.app_first (r := [_]) rfl (.inl rfl) rfl rfl rfl rfl ?_; conv => whnf
     refine Qg ?_
     refine Again.to (j + 1) (by omega) ⟨by omega, trivial⟩ (by show (LC (iE c e j)).nat <= (LC (iE c e (j + 1))).nat; rw [hA, hsc]; exact (show 1 <= 3 by omega)) ?_
     show Shr _ (Vy c e (iE c e (j + 1)) (j + 1))
     rw [hsc]
     refine Shr.of ?_ ?_ rfl rfl
     ·(repeat' first | exact Rel.e | refine Rel.some ?_ ?_ ?_ | refine Rel.none ?_ ?_ | refine Rel.ee ?_ ?_)
      all_goals show Fz _ _ _ _
      all_goals first | exact .pu trivial | exact .ksl (Ql rfl)
     ·(repeat' first | exact Rel.e | refine Rel.some ?_ ?_ ?_ | refine Rel.none ?_ ?_ | refine Rel.ee ?_ ?_)
      exact Ro (ShC.same (ShC.cn (.pu trivial) ShC.nl))
   | cons a s =>
     have hs5 : s.length + 1 <= 10 := Nat.le_trans hAl (by omega)
     refine Qg ?_
     refine WSt.app_one (ds := nD (a :: s)) (r := [_]) rfl rfl rfl rfl rfl rfl (by simp [nD]) rfl rfl (by omega) rfl ?_; conv => whnf
     refine Qg ?_
     refine Again.to (j + 1) (by omega) ⟨by omega, trivial⟩ (by show (LC (iE c e j)).nat <= (LC (iE c e (j + 1))).nat; rw [hA, hsc, List.cons_append]; exact (show 3 <= 3 by omega)) ?_
     show Shr _ (Vy c e (iE c e (j + 1)) (j + 1))
     rw [hsc, List.cons_append]
     refine Shr.of ?_ ?_ rfl rfl
     ·show Rel _ _ ((.n (.n (.n (.n .e (some (.i .i64 (e : Int))) .e) none .e) (some (.i .i64 (e : Int))) (.n .e (some ((Wn (a :: (s ++ [(j : Int)]))))) .e)) (some (.i .i64 (c : Int))) (.n (.n (.n .e (some (.i .i64 ((j + 1 : Nat) : Int))) .e) none .e) none .e)) : T D) _
      rw [Hy]
      (repeat' first | exact Rel.e | refine Rel.some ?_ ?_ ?_ | refine Rel.none ?_ ?_ | refine Rel.ee ?_ ?_)
      all_goals show Fz _ _ _ _
      all_goals first | exact .pu trivial | exact .ksl (Ql rfl)
     ·show Rel _ _ (.n (.n .e (Wa (a :: (s ++ [(j : Int)]))) .e) none .e) _
      rw [Ia]
      (repeat' first | exact Rel.e | refine Rel.some ?_ ?_ ?_ | refine Rel.none ?_ ?_ | refine Rel.ee ?_ ?_)
      exact Ro (ShC.grown (by omega) (aF.2 fun d hd => by
       rcases List.mem_append.1 hd with hd | hd
       ·exact aF.1 (NB _) d hd
       ·simp at hd; subst hd; exact trivial))
  ·rw [if_neg hx] at hsc
   refine Qg ?_
   refine WB.decF (by omega) ?_; conv => whnf
   cases A with
   | nil =>
     refine Qg ?_
     refine Again.to (j + 1) (by omega) ⟨by omega, trivial⟩ (by show (LC (iE c e j)).nat <= (LC (iE c e (j + 1))).nat; rw [hA, hsc]; exact (show 1 <= 1 by omega)) ?_
     show Shr _ (Vy c e (iE c e (j + 1)) (j + 1))
     rw [hsc]
     refine Shr.of ?_ ?_ rfl rfl
     ·(repeat' first | exact Rel.e | refine Rel.some ?_ ?_ ?_ | refine Rel.none ?_ ?_ | refine Rel.ee ?_ ?_)
      all_goals show Fz _ _ _ _
      all_goals first | exact .pu trivial | exact .ksl (Ql rfl)
     ·(repeat' first | exact Rel.e | refine Rel.some ?_ ?_ ?_ | refine Rel.none ?_ ?_ | refine Rel.ee ?_ ?_)
   | cons a s =>
     refine Qg ?_
     refine Again.to (j + 1) (by omega) ⟨by omega, trivial⟩ (by show (LC (iE c e j)).nat <= (LC (iE c e (j + 1))).nat; rw [hA, hsc]; exact (show 3 <= 3 by omega)) ?_
     show Shr _ (Vy c e (iE c e (j + 1)) (j + 1))
     rw [hsc]
     refine Shr.of ?_ ?_ rfl rfl
     ·(repeat' first | exact Rel.e | refine Rel.some ?_ ?_ ?_ | refine Rel.none ?_ ?_ | refine Rel.ee ?_ ?_)
      all_goals show Fz _ _ _ _
      all_goals first | exact .pu trivial | exact .ksl (Ql rfl)
     ·(repeat' first | exact Rel.e | refine Rel.some ?_ ?_ ?_ | refine Rel.none ?_ ?_ | refine Rel.ee ?_ ?_)
      exact Ro (ShC.same fun c hc => by
       obtain ⟨d, hd, rfl⟩ := List.mem_map.1 hc
       exact .pu (aF.1 (NB _) d hd))
 ·have he := hend (by omega)
  rw [<- he]
  cases A with
  | nil =>
    refine Qg ?_
    exact Fin.t (.inr rfl) rfl (.pu trivial)
  | cons a s =>
    refine Qg ?_
    exact Fin.t (.inr rfl) rfl (Frz.whole (cs := (nD (a :: s)).map fun d => Cell.o d s.length) (cur := s.length + 1) rfl (by rw [aU]; rfl) (Ka _) (by rw [bV]; rfl) (aH _))
section
variable {α : Type}
def xI (id : Pos) (z : Nat) : List α -> D
 | [] => .ns
 | _ :: s => .sl id 0 (s.length + 1) s.length z
def Bo (f : α -> List D) : List α -> Option C
 | [] => none
 | a :: s => some (.cells false ((aC f (a :: s)).flatten.map fun d => Cell.o d s.length) (s.length + 1))
def qC (p q : Pos) : List α -> Pos
 | [] => p
 | _ :: _ => q
variable {f : α -> List D}
theorem gP (A : List α) (x : α) : (aC f (A ++ [x])).flatten = (aC f A).flatten ++ f x := by simp [aC]
theorem cZ {z : Nat} (hz : ∀ a, (f a).length = z) (A : List α) : (aC f A).flatten.length = A.length * z := by
 induction A with
 | nil => simp [aC]
 | cons a s ih =>
   show (f a ++ (aC f s).flatten).length = _
   rw [List.length_append, hz, ih, List.length_cons, Nat.add_mul]; omega
theorem fE (hp : ∀ a, aO (f a)) (A : List α) : aO (aC f A).flatten := aF.2 fun d hd => by
 obtain ⟨r, hr, hd⟩ := List.mem_flatten.1 hd
 obtain ⟨a, _, rfl⟩ := List.mem_map.1 hr
 exact aF.1 (hp a) d hd
theorem jY {id : Pos} {z : Nat} (a : α) (s : List α) (x : α) : xI id z (a :: (s ++ [x])) = .sl id 0 (s.length + 1 + 1) (s.length + 1) z := by simp [xI]
theorem kB (a : α) (s : List α) (x : α) : Bo f (a :: (s ++ [x])) = some (.cells false (((aC f (a :: s)).flatten ++ f x).map fun d => Cell.o d (s.length + 1)) (s.length + 1 + 1)) := by
 have h2 : (aC f (a :: (s ++ [x]))).flatten = (aC f (a :: s)).flatten ++ f x := gP (a :: s) x
 show some (Ev.C.cells false ((aC f (a :: (s ++ [x]))).flatten.map fun d => Cell.o d (s ++ [x]).length) ((s ++ [x]).length + 1)) = _
 rw [h2, List.length_append, List.length_singleton]
theorem iK {id : Pos} {z n : Nat} (h : id.nat < n) (A : List α) {B : Pos -> Prop} {ob : T C} (hB : B id) : Fz B ob (xI id z A) (xI id z A) := by
 cases A with
 | nil => exact .pu trivial
 | cons a s => exact .ksl hB
theorem Fz.G {B : Pos -> Prop} {ob : T C} {id : Pos} {z : Nat} (A : List α) (hB : ¬ B id) (ho : ∀ c, Bo f A = some c -> ob.get id = some c) (hz : ∀ a, (f a).length = z) (hp : ∀ a, aO (f a)) : Fz B ob (xI id z A) (.lst z (aC f A)) := by
 cases A with
 | nil => exact .ns
 | cons a s =>
   refine .sl (cs := (aC f (a :: s)).flatten.map fun d => Cell.o d s.length) hB (ho _ rfl) (by rw [aD]; rfl) (fun r hr => ?_) (fun k d hk => ⟨.o d s.length, ?_, ?_, rfl⟩) (FzE.of (lX hp _))
   ·obtain ⟨a, _, rfl⟩ := List.mem_map.1 hr
    exact hz a
   ·rw [List.drop_zero, List.getElem?_map, hk]; rfl
   ·show Nat.ble s.length s.length = true
    exact Nat.ble_eq_true_of_le (Nat.le_refl _)
theorem ShC.G {B : Pos -> Prop} {ob : T C} (hp : ∀ a, aO (f a)) (a : α) (s : List α) : ShC B ob (.cells false ((aC f (a :: s)).flatten.map fun d => Cell.o d s.length) (s.length + 1)) (.cells false ((aC f (a :: s)).flatten.map fun d => Cell.o d s.length) (s.length + 1)) :=
 ShC.same fun c hc => by
  obtain ⟨d, hd, rfl⟩ := List.mem_map.1 hc
  exact .pu (aF.1 (fE hp _) d hd)
end
end Go.Ev
end
