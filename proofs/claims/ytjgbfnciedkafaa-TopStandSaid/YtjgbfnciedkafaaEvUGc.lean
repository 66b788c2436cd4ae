import Derived.Test.YtjgbfnciedkafaaEvUG7
import Derived.Test.YtjgbfnciedkafaaEvUJs
import Derived.Test.YtjgbfnciedkafaaEvUIt
import Derived.Test.YtjgbfnciedkafaaEvUJi
import Derived.Test.YtjgbfnciedkafaaEvUJ2
import Derived.Test.YtjgbfnciedkafaaEvUJb
set_option linter.all false
set_option maxHeartbeats 8000000
noncomputable section
namespace Go.Ev
open Go.Proofs
set_option maxRecDepth 100000
def RI : Pos := .o (.i (.i .h))
structure AskOk (B : Bk) (g : Pos) (first caps : List D) (ak : Mo -> Int) : Prop where
 p1 : aO first
 p2 : aO caps
 ok : ∀ (Q : List Ln) (i : Nat), i <= 8 -> PureF Try.prog g.ix (first ++ ([.ag (dW (fC B.box B.coin Q i))] ++ caps)) (.i .i64 (ak (fC B.box B.coin Q i)))
def We (B : Bk) (aft : Nat) (ak : Mo -> Int) (h : List (List Ln)) (s : List Int) : Prop := s = h.map fun X => ak (fC B.box B.coin X aft)
def PX (B : Bk) (aft : Nat) (ak : Mo -> Int) (s : List Int) (X : List Ln) (s' : List Int) (g : Bool) : Prop := s' = s ++ [ak (fC B.box B.coin X aft)] /\ g = true
theorem Sa {B : Bk} (V : VB B) {aft : Nat} {g : Pos} {first caps : List D} {ak : Mo -> Int} (A : AskOk B g first caps ak) (ha : aft <= B.ls.length) : TnsOk (Di aft g first caps) B (We B aft ak) (PX B aft ak) := by
 have hL := V.len
 refine ⟨fun M F s => Sg A.p1 A.p2 M F s, ?_, ?_⟩
 ·rintro h s X s' _ hI ⟨rfl, _⟩
  have hI : s = h.map fun X => ak (fC B.box B.coin X aft) := hI
  show s ++ [_] = (h ++ [X]).map _
  rw [hI, List.map_append]; rfl
 ·intro h s hI X hpre M hM
  have hXe := iF.1 (hpre.subset (show X ∈ h ++ [X] by simp))
  have hXl : X.length = B.ls.length := by have := hXe.len; simpa using this
  have hsl : s.length < 4096 := by
   have hI : s = h.map fun X => ak (fC B.box B.coin X aft) := hI
   have q1 := hpre.length_le
   have q2 := Ix V
   rw [hI, List.length_map]
   rw [List.length_append, List.length_singleton] at q1
   omega
  have hmo : vP B.box B.coin X X.length aft = fC B.box B.coin X aft := oP (by omega)
  have cA := A.ok X aft (by omega)
  generalize hv : ak (fC B.box B.coin X aft) = v at cA
  generalize hF : vP B.box B.coin X X.length = F at hmo ⊢
  cases s with
  | nil =>
    refine RndOk.runEF (sl0 := bdS) rfl vY wY ⟨_, rfl, ?_⟩
    unfold Tns.ob bP Di bdS
    conv => whnf
    refine Qg ?_
    refine ⟨rfl, rfl, _, _, _, _, _, _, rfl, ?_⟩
    conv => whnf
    refine Qg ?_
    refine WSt.ixaN (m := aft) rfl rfl rfl (by omega) ?_; conv => whnf
    refine wSt.ldM (F := F) (q := aft) (by rfl) (by rfl) (by rfl) (by omega) ?_
    rw [hmo]
    conv => whnf
    repeat' ((first | refine Qz ?_ | refine Qf cA ?_) <;> conv => whnf)
    refine WSt.app_firstL (r := [.i .i64 v]) rfl (.inl rfl) rfl rfl rfl rfl ?_; conv => whnf
    refine Qg ?_
    refine ⟨_, _, _, _, _, _, _, (bP (some (.map (bR M))) none (some (.cells false [.o (.i .i64 (aft : Int)) 0, .o (.fn g first caps) 0] 1)) (some (.cells false [.o (.i .i64 0) 0, .o (.i .i64 0) 0] 1)) (some (.cells false [.o (.sl RI 0 1 0 1) 0] 1)) (some (eR B)) (some (.lp bdS [bE] 28 (uY (aY Try.f88) 0) (uC (aY Try.f88) 0) .ready none)) (some (.cells false [.o (.yl i7) 0] 1)) (some (pN F)) (some (.cells false [.o sD 0] 1)) (some .hole) none none (some (.cells false [.o (.i .i64 v) 0] 1)) none none none none none none), (Di aft g first caps).ob B M F [v], rfl, rfl, .i (.i (.i .h)), RI, by simp [zZ, Pos.nat], by simp [zZ, RI, Pos.nat], Shr.kp ?_ ?_, ?_, [v], ⟨by rw [<- hv]; rfl, rfl⟩, rfl⟩
    ·unfold bP bdS
     repeat' first | exact T.le_e _ | refine T.le_some ?_ rfl ?_ | refine T.le_same ?_ ?_ | refine T.le_none ?_ ?_
    ·have k1 := KpL.pu (n := 15) first A.p1
     have k2 := KpL.pu (n := 15) caps A.p2
     show TAll (fun id c => id.nat < 15 /\ KpC 15 c) _
     unfold bP
     repeat' first | exact TAll.e | refine TAll.some ?_ ?_ ?_ | refine TAll.none ?_ ?_
     all_goals refine ⟨by simp [Pos.nat], ?_⟩
     all_goals first
      | exact hJ
      | exact fun s d h => (Cs s d h).up (by omega)
      | exact JK (jZ _ _)
      | exact lE B (by omega)
      | trivial
      | (refine KpL.all ?_; simp [KpL, Kp, Cell.d, Pu, sD, k1, k2, i6, i7, i8, i9, JH, RI, Pos.nat])
    ·refine ⟨vS, .i (.o .h), false, 1, 0, 1, 0, 1, 0, 1, [.i .i64 v], by simp [vS, zZ, Pos.nat], by simp [vS, Pos.nat], rfl, by simp [aO, Pu], rfl, rfl, fun i ci hci => ?_⟩
     rcases MG A.p1 A.p2 M F [v] hci with ⟨q1, q2⟩ | ⟨q1, q2⟩ | ⟨_, _, q3⟩
     ·exact .inl ⟨q1, (Option.some.inj q2).symm⟩
     ·exact .inr (.inl ⟨q1, q2⟩)
     ·obtain ⟨r1, r2⟩ := Gq A.p1 A.p2 M F i ci q3
      refine .inr (.inr ⟨r1, ?_, r2⟩)
      have hle : T.le (RA B M F aft g first caps) (bP (some (.map (bR M))) none (some (.cells false [.o (.i .i64 (aft : Int)) 0, .o (.fn g first caps) 0] 1)) (some (.cells false [.o (.i .i64 0) 0, .o (.i .i64 0) 0] 1)) (some (.cells false [.o (.sl RI 0 1 0 1) 0] 1)) (some (eR B)) (some (.lp bdS [bE] 28 (uY (aY Try.f88) 0) (uC (aY Try.f88) 0) .ready none)) (some (.cells false [.o (.yl i7) 0] 1)) (some (pN F)) (some (.cells false [.o sD 0] 1)) (some .hole) none none (some (.cells false [.o (.i .i64 v) 0] 1)) none none none none none none) := by
       unfold RA bP
       repeat' first | exact T.le_e _ | refine T.le_some ?_ rfl ?_ | refine T.le_same ?_ ?_ | refine T.le_none ?_ ?_
      exact hle i ci q3
  | cons a s =>
    have hs2 : s.length + 1 < 4096 := hsl
    refine RndOk.runE (sl0 := bdS) rfl vY wY ⟨_, rfl, ?_⟩
    unfold Tns.ob bP Di bdS MM PL
    conv => whnf
    refine Qg ?_
    refine ⟨rfl, rfl, _, _, _, _, _, _, rfl, ?_⟩
    conv => whnf
    refine Qg ?_
    refine WSt.ixaN (m := aft) rfl rfl rfl (by omega) ?_; conv => whnf
    refine wSt.ldM (F := F) (q := aft) (by rfl) (by rfl) (by rfl) (by omega) ?_
    rw [hmo]
    conv => whnf
    repeat' ((first | refine Qz ?_ | refine Qf cA ?_) <;> conv => whnf)
    refine WSt.app_oneL (ds := (a :: s).map fun n => D.i .i64 n) (r := [.i .i64 v]) rfl rfl rfl rfl rfl rfl (by simp) rfl rfl (by omega) rfl ?_; conv => whnf
    refine Qg ?_
    have hln : (s ++ [v]).length = s.length + 1 := by simp
    have hb : PL (a :: s ++ [v]) = some (.cells false (((a :: s).map fun n => D.i .i64 n) ++ [D.i .i64 v] |>.map fun d => Cell.o d (s.length + 1)) (s.length + 1 + 1)) := by
     show some (Ev.C.cells false (((a :: (s ++ [v])).map fun n => D.i .i64 n).map fun d => Cell.o d (s ++ [v]).length) ((s ++ [v]).length + 1)) = _
     rw [hln, <- List.cons_append, List.map_append]; rfl
    have hsl' : MM (a :: s ++ [v]) = .sl vS 0 (s.length + 1 + 1) (s.length + 1) 1 := by
     show D.sl vS 0 ((s ++ [v]).length + 1) (s ++ [v]).length 1 = _
     rw [hln]
    refine ⟨_, _, _, _, _, _, _, (Di aft g first caps).ob B M F (a :: s ++ [v]), rfl, rfl, ?_, a :: s ++ [v], ⟨by rw [<- hv], rfl⟩, rfl⟩
    show Shr _ ⟨.e, bP (some (.map (bR M))) none (some (.cells false [.o (.i .i64 (aft : Int)) 0, .o (.fn g first caps) 0] 1)) (some (.cells false [.o (.i .i64 0) 0, .o (.i .i64 0) 0] 1)) (some (.cells false [.o (MM (a :: s ++ [v])) 0] 1)) (some (eR B)) (some (.lp bdS [bE] 28 (uY (aY Try.f88) 0) (uC (aY Try.f88) 0) .ready none)) (some (.cells false [.o (.yl i7) 0] 1)) (some (pN F)) (some (.cells false [.o sD 0] 1)) (PL (a :: s ++ [v])) none none none none none none none none none, zZ, none⟩
    rw [hb, hsl']
    have k1 := KpL.pu (n := 12) first A.p1
    have k2 := KpL.pu (n := 12) caps A.p2
    have hpv : aO (((a :: s).map fun n => D.i .i64 n) ++ [D.i .i64 v]) := aG.2 fun d hd => by
     rcases List.mem_append.1 hd with h | h
     ·exact aG.1 (dJ (a :: s)) d h
     ·rw [List.mem_singleton.1 h]; trivial
    refine Shr.of ?_ ?_ rfl rfl
    ·exact Rel.e
    ·unfold bP
     repeat' first | exact Rel.e | refine Rel.some ?_ ?_ ?_ | refine Rel.none ?_ ?_
     all_goals refine RO'.of (by simp [Pos.nat, zZ]) ?_
     all_goals first
      | exact ShC.kp hJ
      | exact ShC.kp (n := 12) (fun s d h => (Cs s d h).up (by omega))
      | exact ShC.kp (JK (jZ _ _))
      | exact ShC.kp (n := 12) (lE B (by omega))
      | exact ShC.grown (by omega) hpv
      | (refine ShC.kp (n := 12) (KpL.all ?_); simp [KpL, Kp, Cell.d, Pu, sD, k1, k2, i6, i7, i8, i9, JH, vS, Pos.nat])
theorem II {B : Bk} {x1 x2 x3 x4 x5 : Option Ev.C} (hk : KpO 6 (bP x1 x2 x3 x4 x5 none none none none none none none none none none none none none none none)) : CallOk Try.prog p120.ix [.ag (iK B ++ [.mp .h])] (bP x1 x2 x3 x4 x5 none none none none none none none none none none none none none none none) i6 none (.fn p136 [] [.pt i6 0 0]) (bP x1 x2 x3 x4 x5 (some (eR B)) none none none none none none none none none none none none none none) i7 none := by
 refine CallOk.run PR (by simp) (by simp [i6, i7, Pos.nat]) ?_
 unfold iK bP
 conv => whnf
 refine Qg ?_
 refine ⟨.inr rfl, ⟨_, rfl, .fn .nil (.cons (.kpt (by simp [i6, i7, Pos.nat])) .nil)⟩, Shr.kp (T.le_refl _) fun id c h => ?_⟩
 by_cases e : id = i6
 ·subst e
  have h : some (eR B) = some c := h
  cases h
  exact ⟨by simp [i6, i7, Pos.nat], lE B (by simp [i7, Pos.nat])⟩
 ·have h2 : (bP x1 x2 x3 x4 x5 none none none none none none none none none none none none none none none).get id = some c := by
   have := T.get_set_ne e (eR B) (bP x1 x2 x3 x4 x5 none none none none none none none none none none none none none none none)
   rw [<- this]; exact h
  obtain ⟨q1, q2⟩ := hk id c h2
  exact ⟨by simp [i7, Pos.nat]; omega, q2.up (by simp [i7, Pos.nat])⟩
def Ch (L : List Int) : D := .ag [.i .i64 (L.foldl min (L.getD 0 0)), .i .i64 (L.foldl max (L.getD 0 0))]
def fL (B : Bk) (aft : Nat) (ak : Mo -> Int) : List Int := (hU B B.ls.length []).map fun X => ak (fC B.box B.coin X aft)
theorem Hn {B : Bk} {aft : Nat} {ak : Mo -> Int} : ∀ (L : List (List Ln)) {s s' : List Int} {g : Bool}, Fld (PX B aft ak) L s s' g -> s' = s ++ L.map (fun X => ak (fC B.box B.coin X aft)) /\ g = true
 | [], s, s', g, h => by cases h; simp
 | X :: L, s, s', g, h => by
   cases h with
   | stop h => cases h.2
   | go h k =>
     obtain ⟨rfl, _⟩ := h
     obtain ⟨h1, h2⟩ := Hn L k
     exact ⟨by rw [h1]; simp, h2⟩
theorem uJ {B : Bk} (V : VB B) {aft : Nat} {g : Pos} {first caps : List D} {ak : Mo -> Int} (A : AskOk B g first caps ak) (ha : aft <= B.ls.length) (hne : hU B B.ls.length [] ≠ []) (M : dQ) (hM : MOk B M) :
 ∃ M', MOk B M' /\ CallOk Try.prog p89.ix [.ag (iK B ++ [.mp .h]), .ag [.i .i64 (aft : Int), .fn g first caps]] (fE M) (.o .h) none (Ch (fL B aft ak)) (fE M') (.o .h) none := by
 have h1 := A.p1
 have h2 := A.p2
 obtain ⟨_, _, ⟨M', s', gg, hM', hFl, rfl, rfl⟩, Hc⟩ := EQ V (Sa V A ha) M hM [] rfl rfl
 obtain ⟨hs', _⟩ := Hn _ hFl
 have hs' : s' = fL B aft ak := hs'
 have hlen : s'.length <= 4096 := by rw [hs']; unfold fL; rw [List.length_map]; exact Ix V
 have hpos : 0 < s'.length := by rw [hs']; unfold fL; rw [List.length_map]; exact List.length_pos_iff.2 hne
 rw [<- hs']
 obtain ⟨a, t, rfl⟩ : ∃ a t, s' = a :: t := by
  cases s' with
  | nil => exact absurd hpos (Nat.lt_irrefl _)
  | cons a t => exact ⟨a, t, rfl⟩
 have e1 := aR (a :: t)
 have hfz : ∀ (ob : T Ev.C), ob.get vS = some (.cells false (((a :: t).map fun n => D.i .i64 n).map fun d => Cell.o d t.length) (t.length + 1)) -> Frz ob (.sl vS 0 (t.length + 1) t.length 1) (.lst 1 (ints (a :: t))) := fun ob h => Frz.whole (cs := ((a :: t).map fun n => D.i .i64 n).map fun d => Cell.o d t.length) (cur := t.length + 1) h (by rw [aR]; rfl) (dK _) (by rw [bJ]) (aJ _)
 obtain ⟨v, ob', ⟨M', hM', rfl, rfl⟩, Hb⟩ := CallOk.runE (Φ := fun v ob' => ∃ M', MOk B M' /\ v = Ch (a :: t) /\ ob' = fE M') (ob := fE M) (nx := .o .h) (nx' := .o .h) (ds := [.ag (iK B ++ [.mp .h]), .ag [.i .i64 (aft : Int), .fn g first caps]]) Ug (by simp) (Nat.le_refl _) (by
  conv => whnf
  refine Rn.le (a := ⟨(.n (.n .e (some (.ag [.i .i64 (aft : Int), .fn g first caps])) .e) (some (.ag (iK B ++ [.mp .h]))) .e), bP (some (.map (bR M))) none none none none none none none none none none none none none none none none none none none, .o .h, none⟩) ?_ ?_
  ·unfold iK bP
   conv => whnf
   refine Qg ?_
   have k1 := KpL.pu (n := 6) first h1
   have k2 := KpL.pu (n := 6) caps h2
   refine WCall.of (II (B := B) (x1 := some (.map (bR M))) (x2 := some (eR B)) (x3 := (some (.cells false [.o (.i .i64 (aft : Int)) 0, .o (.fn g first caps) 0] 1))) (x4 := (some (.cells false [.o (.i .i64 0) 0, .o (.i .i64 0) 0] 1))) (x5 := some (.cells false [.o .ns 0] 1)) ?_) ?_
   ·show TAll (fun id c => id.nat < 6 /\ KpC 6 c) _
    unfold bP
    repeat' first | exact TAll.e | refine TAll.some ?_ ?_ ?_ | refine TAll.none ?_ ?_
    all_goals refine ⟨by simp [Pos.nat], ?_⟩
    all_goals first
     | exact hJ
     | exact lE B (by omega)
     | (refine KpL.all ?_; simp [KpL, Kp, Cell.d, Pu, k1, k2, Pos.nat])
   conv => whnf
   refine Qg ?_
   refine Rn.le (a := ⟨bdS, bP (some (.map (bR M))) none (some (.cells false [.o (.i .i64 (aft : Int)) 0, .o (.fn g first caps) 0] 1)) (some (.cells false [.o (.i .i64 0) 0, .o (.i .i64 0) 0] 1)) (some (.cells false [.o .ns 0] 1)) (some (eR B)) none none none none none none none none none none none none none none, i7, none⟩) ?_ ?_
   ·refine Rn.rf rfl rfl Hc rfl (by simp) ?_
    unfold Tns.bob bP Di MM PL bdS
    conv => whnf
    refine Qg ?_
    refine WSt.ixsY (m := 0) (by rfl) (by rfl) (by omega) ?_; conv => whnf
    refine wSt.ld1 (v := .i .i64 a) (lo := t.length) (by rfl) (by rfl) (by rfl) (Nat.le_refl _) ?_; conv => whnf
    refine Qg ?_
    refine WCall.borrow1 (SB a (a :: t) (by omega)) vS (.cells false (((a :: t).map fun n => D.i .i64 n).map fun d => Cell.o d t.length) (t.length + 1)) (.cons (.pu trivial) (.cons (hfz _ (T.get_set_same _ _ _)) .nil)) trivial rfl rfl ?_; conv => whnf
    refine Qg ?_
    refine WCall.borrow1 (Sw (a :: t) (by simp) (by omega)) vS (.cells false (((a :: t).map fun n => D.i .i64 n).map fun d => Cell.o d t.length) (t.length + 1)) (.cons (hfz _ (T.get_set_same _ _ _)) .nil) trivial rfl rfl ?_; conv => whnf
    refine Qg ?_
    refine ⟨_, _, ⟨M', hM', rfl, rfl⟩, ⟨.inr rfl, ⟨_, rfl, .ag (.cons (Fz.i rfl) (.cons (Fz.i rfl) .nil))⟩, Shr.kp ?_ (fK M')⟩⟩
    show T.le (T.n .e (some (.map (bR M'))) .e : T Ev.C) _
    refine T.le_some (T.le_e _) rfl (T.le_e _)
   ·refine X.le.mk ?_ ?_ (Nat.le_refl _) rfl rfl
    ·unfold bdS
     repeat' first | exact T.le_refl _ | exact T.le_e _ | refine T.le_some ?_ rfl ?_ | refine T.le_same ?_ ?_ | refine T.le_none ?_ ?_
    ·unfold bP
     repeat' first | exact T.le_refl _ | exact T.le_e _ | refine T.le_some ?_ rfl ?_ | refine T.le_same ?_ ?_ | refine T.le_none ?_ ?_
  ·refine X.le.mk (T.le_refl _) ?_ (Nat.le_refl _) rfl rfl
   unfold bP
   exact Lw)
 exact ⟨M', hM', Hb⟩
theorem Fv (B : Bk) : AskOk B p77 [] [] Mo.box := ⟨trivial, trivial, fun Q i _ => gL _⟩
theorem Dl {n coin box : Int} {ls : List Ln} {cs : List Ct} {t : Bool} (h : sE n coin box ls cs t = 0) : hU (B5 n coin box ls cs) ls.length [] ≠ [] := by
 unfold sE at h
 have hb : sQ (B5 n coin box ls cs) = true := by
  cases hh : sQ (B5 n coin box ls cs) with
  | true => rfl
  | false =>
    rw [hh] at h
    split at h
    ·exact absurd h (by assumption)
    ·cases t <;> cases h
 obtain ⟨X, hX⟩ := pL.1 hb
 intro he
 have := iF.2 hX
 rw [show (B5 n coin box ls cs).ls.length = ls.length from rfl, he] at this
 cases this
theorem Au {n coin box : Int} {ls : List Ln} {cs : List Ct} {t : Bool} (h : sE n coin box ls cs t = 0) : aS n coin box ls cs = 0 /\ t = true := by
 unfold sE at h
 by_cases hf : aS n coin box ls cs ≠ 0
 ·rw [if_pos hf] at h; exact absurd h hf
 ·rw [if_neg hf] at h
  refine ⟨by omega, ?_⟩
  cases t with
  | true => rfl
  | false => cases h
theorem AK {n coin box : Int} {ls : List Ln} {cs : List Ct} {M : dQ} (Hs : CallOk Try.prog p85.ix [.ag (iK (B5 n coin box ls cs)), .b true] .e .h none (.tp [.ag (iK (B5 n coin box ls cs) ++ [.mp .h]), .i .i64 0]) (fE M) (.o .h) none) {ob : T C} {nx : Pos} {lg : Option (T Bool)} : CallOk Try.prog p85.ix [.ag (iK (B5 n coin box ls cs)), .b true] ob nx lg (.tp [.ag (iK (B5 n coin box ls cs) ++ [.mp nx]), .i .i64 0]) (T.set nx (.map (bR M)) ob) nx.succ (HH lg nx) :=
 CallOk.newG Hs rfl (kV M) (by simp [aO, Pu, jQ]) (fun γ γ' w => .tp (.cons (.ag (.app (.pu qV (jQ _)) rfl (.cons .mpO .nil))) (.cons (.pu qV trivial) .nil)))
theorem zJ (L : List Int) : Pu (Ch L) := by simp [Ch, Pu, aO]
def Pi (n coin box : Int) (ls : List Ln) (cs : List Ct) (after : Int) : D :=
 if sE n coin box ls cs (gS after 0 ls.length) = 0 then .tp [Ch (fL (B5 n coin box ls cs) after.toNat Mo.box), .i .i64 0] else .tp [.ag [.i .i64 0, .i .i64 0], .i .i64 (sE n coin box ls cs (gS after 0 ls.length))]
theorem Gu (n coin box : Int) (ls : List Ln) (cs : List Ct) (after : Int) : PureF Try.prog p39.ix [.ag [.i .i64 n, .i .i64 coin, .i .i64 box, .lst 3 (aD aM ls), .lst 3 (aD dZ cs)], .i .i64 after] (Pi n coin box ls cs after) := by
 have e1 := aC aM ls
 have cU : PureF Try.prog p86.ix [.i .i64 after, .i .i64 ((aD aM ls).length : Int)] (.b (gS after 0 ls.length)) := by
  have := yZ after ((aD aM ls).length : Int)
  rw [e1] at this ⊢
  exact this
 unfold Pi
 by_cases hE : sE n coin box ls cs (gS after 0 ls.length) = 0
 ·rw [if_pos hE]
  obtain ⟨hf, ht⟩ := Au hE
  have hE' := hE
  rw [ht] at hE' cU
  obtain ⟨M, hM, Hs⟩ := BB n coin box ls cs hE'
  have ha := aP.1 ht
  have V := VB.of hf
  obtain ⟨M', hM', Hb⟩ := uJ V (Fv _) (aft := after.toNat) (show after.toNat <= ls.length by omega) (Dl hE) M hM
  rw [show ((after.toNat : Nat) : Int) = after by omega] at Hb
  refine PureF.run QC (by simp) (by simp [aO, eB, Pu, aJ, aB, aE]) ?_; conv => whnf
  repeat' ((first | refine Qw ?_ | refine Qf cU ?_ | refine Qd (fun h => ?_) (fun h => ?_)) <;> conv => whnf)
  refine WCall.of (AK Hs) ?_; conv => whnf
  repeat' ((first | refine Qw ?_ | refine Qd (fun h => ?_) (fun h => ?_)) <;> conv => whnf)
  refine WCall.of (CallOk.mapAt Hb (zJ _) (id := .i .h) rfl (show 3 < Pos.nat (.i (.o .h)) from by decide) (mW (by simp [aO, Pu]))) ?_; conv => whnf
  repeat' ((first | refine Qw ?_ | refine Qd (fun h => ?_) (fun h => ?_)) <;> conv => whnf)
  exact ⟨.inr rfl, _, rfl, .tp (.cons (.ag (.cons (Fz.i rfl) (.cons (Fz.i rfl) .nil))) (.cons (.pu trivial) .nil))⟩
 ·rw [if_neg hE]
  have cS := Bc n coin box ls cs _ hE
  generalize sE n coin box ls cs (gS after 0 ls.length) = e at hE cS ⊢
  unfold iK B5 TJ at cS
  refine PureF.run QC (by simp) (by simp [aO, eB, Pu, aJ, aB, aE]) ?_; conv => whnf
  repeat' ((first | refine Qw ?_ | refine Qf cU ?_ | refine Qf cS ?_ | refine Qd (fun h => ?_) (fun h => ?_)) <;> conv => whnf)
  all_goals first
   | (exfalso; omega)
   | exact ⟨.inr rfl, _, rfl, .tp (.cons (.ag (.cons (.pu trivial) (.cons (.pu trivial) .nil))) (.cons (.pu trivial) .nil))⟩
theorem JC (m : Mo) (x : Nat) (hx : x < 8) : PureF Try.prog p119.ix [.i .i64 (x : Int), .ag (dW m)] (.i .i64 (min (m.h x) 1)) := by
 unfold dW
 refine PureF.run Sc (by simp) (by simp [aO, Pu]) ?_; conv => whnf
 repeat' ((first | refine Qw ?_ | refine Qd (fun h => ?_) (fun h => ?_)) <;> conv => whnf)
 refine WSt.ixaN (m := x) rfl rfl rfl (by omega) ?_; conv => whnf
 refine wSt.ldH (n := m.n) (h := m.h) (box := m.box) (mix := m.mix) (c := x) (by rfl) (by rfl) (by rfl) (by omega) ?_; conv => whnf
 repeat' ((first | refine Qw ?_ | refine Qd (fun h => ?_) (fun h => ?_)) <;> conv => whnf)
 exact Fin.i rfl rfl
theorem wJ (B : Bk) (x : Nat) (hx : x < 8) : AskOk B p119 [.i .i64 (x : Int)] [] (fun m => min (m.h x) 1) := ⟨by simp [aO, Pu], trivial, fun _ _ _ => JC _ x hx⟩
def Nz (a b : Int) : Int := if a = 1 /\ b = 1 then 1 else if a = 0 /\ b = 0 then 2 else 3
theorem Fu (a b : Int) (ha : qY .i64 a = true) (hb : qY .i64 b = true) : PureF Try.prog p118.ix [.ag [.i .i64 a, .i .i64 b]] (.i .i64 (Nz a b)) := by
 refine PureF.run QD (by simp) (by simp [aO, Pu]) ?_; conv => whnf
 repeat' ((first | refine Qw ?_ | refine Qd (fun h => ?_) (fun h => ?_)) <;> conv => whnf)
 refine WSt.eqr2 (a := a) (b := b) (a' := 1) (b' := 1) rfl rfl ha hb rfl rfl ?_; conv => whnf
 by_cases h1 : a = 1 /\ b = 1
 ·repeat' ((first | refine Qw ?_ | refine Qd (fun h => ?_) (fun h => ?_)) <;> conv => whnf)
  exact Fin.i rfl (by unfold Nz; rw [if_pos h1])
 ·repeat' ((first | refine Qw ?_ | refine Qd (fun h => ?_) (fun h => ?_)) <;> conv => whnf)
  refine WSt.eqr2 (a := a) (b := b) (a' := 0) (b' := 0) rfl rfl ha hb rfl rfl ?_; conv => whnf
  by_cases h2 : a = 0 /\ b = 0
  ·repeat' ((first | refine Qw ?_ | refine Qd (fun h => ?_) (fun h => ?_)) <;> conv => whnf)
   exact Fin.i rfl (by unfold Nz; rw [if_neg h1, if_pos h2])
  ·repeat' ((first | refine Qw ?_ | refine Qd (fun h => ?_) (fun h => ?_)) <;> conv => whnf)
   exact Fin.i rfl (by unfold Nz; rw [if_neg h1, if_neg h2])
theorem Cv.ns {γ γ' : Gh} {w : World} {z : Nat} : Cv γ γ' w .ns (.lst z []) := fun v h => by
 unfold DV at h ⊢
 exact ⟨none, 0, h, Nat.le_refl _, fun _ => rfl, .inl rfl⟩
theorem Fe {n : Int} (hn : 1 <= n /\ n <= 4) (ls : List Ln) (k : Nat) : eP n (ls.take k) <= eP n ls := by
 have h1 : eP n ls = (ls.drop k).foldl (fun m l => m * jX n l) (eP n (ls.take k)) := by
  unfold eP
  rw [<- List.foldl_append, List.take_append_drop]
 have h2 := (fD hn.1 hn.2 (ls.take k)).2
 rw [h1]
 generalize eP n (ls.take k) = p at h2 ⊢
 generalize ls.drop k = r
 induction r generalizing p with
 | nil => exact Int.le_refl _
 | cons x r ih =>
   obtain ⟨b1, b2⟩ := mD hn.1 hn.2 x
   have h0 : p * 1 <= p * jX n x := Int.mul_le_mul (Int.le_refl _) b1 (by omega) (by omega)
   rw [Int.mul_one] at h0
   exact Int.le_trans h0 (ih (p * jX n x) (by omega))
theorem VB.pre {n coin box : Int} {ls : List Ln} {cs : List Ct} (V : VB (B5 n coin box ls cs)) (k : Nat) : VB (B5 n coin box (ls.take k) []) := by
 have hn : 1 <= n /\ n <= 4 := V.n
 have h8 : ls.length <= 8 := V.len
 refine ⟨V.n, V.coin, V.box, ?_, by show (0 : Nat) <= 4; omega, ?_, fun c hc => absurd (show c ∈ ([] : List Ct) from hc) (by simp), ?_⟩
 ·show (ls.take k).length <= 8
  rw [List.length_take]; omega
 ·show (ls.take k).all (cB n) = true
  rw [List.all_eq_true]
  exact fun x hx => List.all_eq_true.1 V.ls x (List.mem_of_mem_take hx)
 ·show eE n (ls.take k) <= 4096
  have h1 := fD hn.1 hn.2 (ls.take k)
  have h2 := fD hn.1 hn.2 ls
  have h3 := Fe hn ls k
  have h4 : eE n ls <= 4096 := V.many
  omega
section
variable {sl : T D} {ob : T C} {nx : Pos} {lg : Option (T Bool)} {K : X -> Prop} {d : Pos} {a b j : Nat} {x y : RX} {k kk : IntKind}
end
section
variable {α : Type}
def Ao (id : Pos) (z : Nat) : List α -> D
 | [] => .ns
 | _ :: s => .sl id 0 (s.length + 1) s.length z
def BW (f : α -> List D) : List α -> Option C
 | [] => none
 | a :: s => some (.cells false ((aD f (a :: s)).flatten.map fun d => Cell.o d s.length) (s.length + 1))
def BT (p q : Pos) : List α -> Pos
 | [] => p
 | _ :: _ => q
variable {f : α -> List D}
theorem gD (A : List α) (x : α) : (aD f (A ++ [x])).flatten = (aD f A).flatten ++ f x := by simp [aD]
theorem dL {z : Nat} (hz : ∀ a, (f a).length = z) (A : List α) : (aD f A).flatten.length = A.length * z := by
 induction A with
 | nil => simp [aD]
 | cons a s ih =>
   show (f a ++ (aD f s).flatten).length = _
   rw [List.length_append, hz, ih, List.length_cons, Nat.add_mul]; omega
theorem gP (hp : ∀ a, aO (f a)) (A : List α) : aO (aD f A).flatten := aG.2 fun d hd => by
 obtain ⟨r, hr, hd⟩ := List.mem_flatten.1 hd
 obtain ⟨a, _, rfl⟩ := List.mem_map.1 hr
 exact aG.1 (hp a) d hd
theorem lW {id : Pos} {z : Nat} (a : α) (s : List α) (x : α) : Ao id z (a :: (s ++ [x])) = .sl id 0 (s.length + 1 + 1) (s.length + 1) z := by simp [Ao]
theorem mB (a : α) (s : List α) (x : α) : BW f (a :: (s ++ [x])) = some (.cells false (((aD f (a :: s)).flatten ++ f x).map fun d => Cell.o d (s.length + 1)) (s.length + 1 + 1)) := by
 have h2 : (aD f (a :: (s ++ [x]))).flatten = (aD f (a :: s)).flatten ++ f x := gD (a :: s) x
 show some (Ev.C.cells false ((aD f (a :: (s ++ [x]))).flatten.map fun d => Cell.o d (s ++ [x]).length) ((s ++ [x]).length + 1)) = _
 rw [h2, List.length_append, List.length_singleton]
theorem gV {id : Pos} {z n : Nat} (h : id.nat < n) (A : List α) {B : Pos -> Prop} {ob : T C} (hB : B id) : Fz B ob (Ao id z A) (Ao id z A) := by
 cases A with
 | nil => exact .pu trivial
 | cons a s => exact .ksl hB
theorem Fz.G {B : Pos -> Prop} {ob : T C} {id : Pos} {z : Nat} (A : List α) (hB : ¬ B id) (ho : ∀ c, BW f A = some c -> ob.get id = some c) (hz : ∀ a, (f a).length = z) (hp : ∀ a, aO (f a)) : Fz B ob (Ao id z A) (.lst z (aD f A)) := by
 cases A with
 | nil => exact .ns
 | cons a s =>
   refine .sl (cs := (aD f (a :: s)).flatten.map fun d => Cell.o d s.length) hB (ho _ rfl) (by rw [aC]; rfl) (fun r hr => ?_) (fun k d hk => ⟨.o d s.length, ?_, ?_, rfl⟩) (FzE.of (nL hp _))
   ·obtain ⟨a, _, rfl⟩ := List.mem_map.1 hr
    exact hz a
   ·rw [List.drop_zero, List.getElem?_map, hk]; rfl
   ·show Nat.ble s.length s.length = true
    exact Nat.ble_eq_true_of_le (Nat.le_refl _)
theorem ShC.G {B : Pos -> Prop} {ob : T C} (hp : ∀ a, aO (f a)) (a : α) (s : List α) : ShC B ob (.cells false ((aD f (a :: s)).flatten.map fun d => Cell.o d s.length) (s.length + 1)) (.cells false ((aD f (a :: s)).flatten.map fun d => Cell.o d s.length) (s.length + 1)) :=
 ShC.same fun c hc => by
  obtain ⟨d, hd, rfl⟩ := List.mem_map.1 hc
  exact .pu (aG.1 (gP hp _) d hd)
end
theorem nS (a : Ln) : (aM a).length = 3 := rfl
theorem RV (a : Ct) : (dZ a).length = 3 := rfl
theorem eD (a : Ln) : aO (aM a) := by simp [aM, aO, Pu]
theorem FT (a : Ct) : aO (dZ a) := by simp [dZ, aO, Pu]
def lL : C := .cells false [.o (.i .i64 0) 0, .o (.i .i64 0) 0, .o (.i .i64 0) 0, .o .ns 0, .o .ns 0] 1
def jR (n coin box : Int) (d e : D) : C := .cells false [.o (.i .i64 n) 0, .o (.i .i64 coin) 0, .o (.i .i64 box) 0, .o d 0, .o e 0] 1
theorem bF {B : Pos -> Prop} {ob : T C} : ShC B ob lL lL := ShC.same (ShC.cn (.pu trivial) (ShC.cn (.pu trivial) (ShC.cn (.pu trivial) (ShC.cn (.pu trivial) (ShC.cn (.pu trivial) ShC.nl)))))
theorem aW {n coin box : Int} {d d' e e' : D} {B : Pos -> Prop} {ob : T C} (hd : Fz B ob d d') (he : Fz B ob e e') : ShC B ob (jR n coin box d e) (jR n coin box d' e') := by
 refine .cells fun k c' hc => ?_
 match k, hc with
 | 0, hc => cases hc; exact ⟨_, rfl, fun _ h => h, .pu trivial⟩
 | 1, hc => cases hc; exact ⟨_, rfl, fun _ h => h, .pu trivial⟩
 | 2, hc => cases hc; exact ⟨_, rfl, fun _ h => h, .pu trivial⟩
 | 3, hc => cases hc; exact ⟨_, rfl, fun _ h => h, hd⟩
 | 4, hc => cases hc; exact ⟨_, rfl, fun _ h => h, he⟩
 | k + 5, hc => cases hc
def eX : RC -> RC
 | .seq _ b => b
 | c => c
def wV (q : Nat -> Bool) (ls : List Ln) : List Ln := ((List.range ls.length).filter fun i => !q i).map fun i => ls.getD i default
def Nf (q : Nat -> Bool) (c : Ct) : Ct := ⟨(((List.range c.a.toNat).filter fun i => !q i).length : Int), c.lo, c.hi⟩
def SX (q : Nat -> Bool) (B : Bk) : Bk := ⟨B.n, B.coin, B.box, wV q B.ls, B.cs.map (Nf q)⟩
theorem AO (q : Nat -> Bool) {k e : Nat} (h : k <= e) : ((List.range k).filter q).length <= ((List.range e).filter q).length := by
 obtain ⟨d, rfl⟩ : ∃ d, e = k + d := ⟨e - k, by omega⟩
 rw [List.range_add, List.filter_append, List.length_append]
 omega
theorem xF (q : Nat -> Bool) (ls : List Ln) : (wV q ls).length = ((List.range ls.length).filter fun i => !q i).length := List.length_map _
theorem Ic (q : Nat -> Bool) (ls : List Ln) : (wV q ls).length <= ls.length := by
 rw [xF]
 have := List.length_filter_le (fun i => !q i) (List.range ls.length)
 rw [List.length_range] at this
 exact this
theorem xI (q : Nat -> Bool) (ls : List Ln) : (wV q ls).Sublist ls := by
 have h : (List.range ls.length).map (fun i => ls.getD i default) = ls := by
  apply List.ext_getElem (by simp)
  intro i h1 h2
  simp [List.getD, h2]
 have := (List.filter_sublist (p := fun i => !q i) (l := List.range ls.length)).map fun i => ls.getD i default
 rw [h] at this
 exact this
theorem IB {n : Int} (h1 : 1 <= n) (h4 : n <= 4) {A C : List Ln} (h : A.Sublist C) : ∀ p q : Int, 1 <= p -> p <= q -> p <= 5000 -> A.foldl (fun m l => min 5000 (m * jX n l)) p <= C.foldl (fun m l => min 5000 (m * jX n l)) q := by
 induction h with
 | slnil => exact fun p q _ h _ => h
 | cons a _ ih =>
   intro p q hp hpq h5
   obtain ⟨b1, _⟩ := mD h1 h4 a
   have k1 : q * 1 <= q * jX n a := Int.mul_le_mul_of_nonneg_left b1 (by omega)
   exact ih p _ hp (show p <= min 5000 (q * jX n a) by omega) h5
 | cons_cons a _ ih =>
   intro p q hp hpq h5
   obtain ⟨b1, _⟩ := mD h1 h4 a
   have k1 : p * 1 <= p * jX n a := Int.mul_le_mul_of_nonneg_left b1 (by omega)
   have k2 := Int.mul_le_mul_of_nonneg_right hpq (show 0 <= jX n a by omega)
   exact ih _ _ (show 1 <= min 5000 (p * jX n a) by omega) (show min 5000 (p * jX n a) <= min 5000 (q * jX n a) by omega) (show min 5000 (p * jX n a) <= 5000 by omega)
theorem VB.keep {B : Bk} (V : VB B) (q : Nat -> Bool) : VB (SX q B) := by
 refine ⟨V.n, V.coin, V.box, Nat.le_trans (Ic q B.ls) V.len, ?_, ?_, ?_, ?_⟩
 ·show (B.cs.map (Nf q)).length <= 4
  rw [List.length_map]; exact V.clen
 ·show (wV q B.ls).all (cB B.n) = true
  rw [List.all_eq_true]
  exact fun x hx => List.all_eq_true.1 V.ls x ((xI q B.ls).subset hx)
 ·intro c hc
  obtain ⟨d, hd, rfl⟩ := List.mem_map.1 hc
  have := V.cs d hd
  refine ⟨Int.natCast_nonneg _, ?_⟩
  show (((List.range d.a.toNat).filter fun i => !q i).length : Int) <= ((wV q B.ls).length : Int)
  rw [xF]
  have := AO (fun i => !q i) (show d.a.toNat <= B.ls.length by omega)
  omega
 ·have hs := IB V.n.1 V.n.2 (xI q B.ls) 1 1 (by omega) (by omega) (by omega)
  have hm := V.many
  exact Int.le_trans hs hm
theorem Dp {n : Int} {l x : Ln} {i j : Int} : ∀ k : Nat, x ∈ rA n l i j k ↔ (x.k = i /\ x.c = j /\ (0 <= x.t /\ x.t < (k : Int)) /\ oI l x = true)
 | 0 => by
   unfold rA
   constructor
   ·intro h; cases h
   ·rintro ⟨_, _, h, _⟩; exact absurd h (by omega)
 | k + 1 => by
   unfold rA
   rw [List.mem_append, Dp k]
   constructor
   ·rintro (⟨h1, h2, h3, h4⟩ | h)
    ·exact ⟨h1, h2, by omega, h4⟩
    ·cases ha : oI l ⟨i, j, (k : Int)⟩ with
     | false => rw [ha] at h; cases h
     | true =>
       rw [ha, cond_true, List.mem_singleton] at h
       subst h
       exact ⟨rfl, rfl, ⟨by show (0 : Int) <= (k : Int); omega, by show (k : Int) < ((k + 1 : Nat) : Int); omega⟩, ha⟩
   ·obtain ⟨xk, xc, xt⟩ := x
    rintro ⟨h1, h2, h3, h4⟩
    have h1 : xk = i := h1
    have h2 : xc = j := h2
    have h3 : 0 <= xt /\ xt < ((k + 1 : Nat) : Int) := h3
    by_cases h : xt < (k : Int)
    ·exact .inl ⟨h1, h2, ⟨h3.1, h⟩, h4⟩
    ·right
     have : xt = (k : Int) := by omega
     subst h1 h2 this
     rw [h4, cond_true]
     exact List.mem_singleton.2 rfl
theorem tX {n : Int} {l x : Ln} {i : Int} : ∀ k : Nat, x ∈ gQ n l i k ↔ (x.k = i /\ (0 <= x.c /\ x.c < (k : Int)) /\ (0 <= x.t /\ x.t < (n.toNat : Int)) /\ oI l x = true)
 | 0 => by
   unfold gQ
   constructor
   ·intro h; cases h
   ·rintro ⟨_, h, _, _⟩; exact absurd h (by omega)
 | k + 1 => by
   unfold gQ
   rw [List.mem_append, tX k, Dp]
   constructor
   ·rintro (⟨h1, h2, h3, h4⟩ | ⟨h1, h2, h3, h4⟩)
    ·exact ⟨h1, by omega, h3, h4⟩
    ·exact ⟨h1, by omega, h3, h4⟩
   ·rintro ⟨h1, h2, h3, h4⟩
    by_cases h : x.c < (k : Int)
    ·exact .inl ⟨h1, ⟨h2.1, h⟩, h3, h4⟩
    ·exact .inr ⟨h1, by omega, h3, h4⟩
theorem wE {n : Int} {l x : Ln} (hn : 0 <= n) : x ∈ nW n l ↔ Ni n l x = true := by
 unfold nW
 show x ∈ ([] ++ gQ n l (((0 : Nat) : Int) + 1) n.toNat) ++ gQ n l (((1 : Nat) : Int) + 1) n.toNat ↔ _
 rw [List.nil_append, List.mem_append, tX, tX]
 unfold Ni
 rw [Bool.and_eq_true, Bool.and_eq_true, Bool.and_eq_true, aP, aP, aP]
 constructor
 ·rintro (⟨h1, h2, h3, h4⟩ | ⟨h1, h2, h3, h4⟩)
  ·exact ⟨by omega, by omega, by omega, h4⟩
  ·exact ⟨by omega, by omega, by omega, h4⟩
 ·rintro ⟨h1, h2, h3, h4⟩
  have : x.k = 1 \/ x.k = 2 := by omega
  rcases this with h | h
  ·exact .inl ⟨by omega, by omega, by omega, h4⟩
  ·exact .inr ⟨by omega, by omega, by omega, h4⟩
abbrev vO (n : Int) (ls : List Ln) (i : Nat) : List Ln := nW n (ls.getD i default)
def zM (n : Int) (ls : List Ln) (m : Nat) : Nat -> Nat
 | 0 => m
 | i + 1 => zM n ls m i / (vO n ls i).length
def nP (n : Int) (ls : List Ln) (m : Nat) : Nat -> List Ln
 | 0 => []
 | i + 1 => nP n ls m i ++ [(vO n ls i).getD (zM n ls m i % (vO n ls i).length) default]
def KT (n : Int) (ls : List Ln) (m : Nat) : List Ln := nP n ls m ls.length
def pF (n : Int) (ls : List Ln) : Nat -> Nat
 | 0 => 1
 | i + 1 => pF n ls i * (vO n ls i).length
theorem uI (n : Int) (ls : List Ln) (m : Nat) : ∀ i, (nP n ls m i).length = i
 | 0 => rfl
 | i + 1 => by
   unfold nP
   rw [List.length_append, uI n ls m i]; rfl
theorem Db (n : Int) (ls : List Ln) (m : Nat) : ∀ {i j : Nat}, j < i -> (nP n ls m i).getD j default = (vO n ls j).getD (zM n ls m j % (vO n ls j).length) default
 | 0, _, h => absurd h (Nat.not_lt_zero _)
 | i + 1, j, h => by
   unfold nP
   have hl := uI n ls m i
   by_cases e : j = i
   ·subst e
    have := cG (nP n ls m j) ((vO n ls j).getD (zM n ls m j % (vO n ls j).length) default)
    rw [hl] at this
    exact this
   ·have := SameTo.app (nP n ls m i) ((vO n ls i).getD (zM n ls m i % (vO n ls i).length) default) j (by rw [hl]; omega)
    rw [this]
    exact Db n ls m (by omega)
theorem tH (n : Int) (ls : List Ln) (m : Nat) : ∀ i, zM n ls m i = m / pF n ls i
 | 0 => by
   show m = m / 1
   rw [Nat.div_one]
 | i + 1 => by
   unfold zM pF
   rw [tH n ls m i, Nat.div_div_eq_div_mul]
theorem zV {B : Bk} (V : VB B) {i : Nat} (h : i < B.ls.length) : ((vO B.n B.ls i).length : Int) = jX B.n (B.ls.getD i default) /\ 1 <= (vO B.n B.ls i).length /\ (vO B.n B.ls i).length <= 32 := by
 have h1 := Av V.n (List.all_eq_true.1 V.ls _ (bV (d := default) h))
 have h2 := mD V.n.1 V.n.2 (B.ls.getD i default)
 have h1 : ((vO B.n B.ls i).length : Int) = jX B.n (B.ls.getD i default) := h1
 exact ⟨h1, by omega, by omega⟩
theorem Cr {B : Bk} (V : VB B) : ∀ i, i <= B.ls.length -> 1 <= pF B.n B.ls i
 | 0, _ => Nat.le_refl _
 | i + 1, h => by
   have h1 := Cr V i (by omega)
   have h2 := (zV V (i := i) (by omega)).2.1
   unfold pF
   exact Nat.mul_pos h1 h2
theorem DZ {B : Bk} (V : VB B) : ∀ i, i <= B.ls.length -> (pF B.n B.ls i : Int) = eP B.n (B.ls.take i)
 | 0, _ => rfl
 | i + 1, h => by
   have h1 := DZ V i (by omega)
   have h2 := (zV V (i := i) (by omega)).1
   have h3 : eP B.n (B.ls.take (i + 1)) = eP B.n (B.ls.take i) * jX B.n (B.ls.getD i default) := jJ _ _ (by omega)
   unfold pF
   rw [h3, <- h1, <- h2, Int.natCast_mul]
theorem GC (n : Int) (ls : List Ln) {q : Nat} : ∀ {i : Nat}, q < i -> ∃ K, pF n ls i = pF n ls q * ((vO n ls q).length * K)
 | 0, h => absurd h (Nat.not_lt_zero _)
 | i + 1, h => by
   by_cases e : q = i
   ·subst e
    exact ⟨1, by rw [Nat.mul_one]; rfl⟩
   ·obtain ⟨K, hK⟩ := GC n ls (show q < i by omega)
    refine ⟨K * (vO n ls i).length, ?_⟩
    show pF n ls i * (vO n ls i).length = _
    rw [hK, Nat.mul_assoc, Nat.mul_assoc]
theorem xW {n : Int} {ls : List Ln} {m m' : Nat} : ∀ i, (∀ q, q < i -> zM n ls m' q % (vO n ls q).length = zM n ls m q % (vO n ls q).length) -> nP n ls m' i = nP n ls m i
 | 0, _ => rfl
 | i + 1, h => by
   unfold nP
   rw [xW i (fun q hq => h q (by omega)), h i (by omega)]
theorem Dk {B : Bk} (V : VB B) {X : List Ln} (hl : X.length = B.ls.length) (hX : ∀ i, i < X.length -> X.getD i default ∈ vO B.n B.ls i) : ∀ i, i <= B.ls.length -> ∃ m, m < pF B.n B.ls i /\ nP B.n B.ls m i = X.take i
 | 0, _ => ⟨0, Nat.one_pos, rfl⟩
 | i + 1, h => by
   obtain ⟨m, hm, he⟩ := Dk V hl hX i (by omega)
   obtain ⟨k, hk, hg⟩ := List.getElem_of_mem (hX i (show i < X.length by omega))
   have hP := Cr V i (by omega)
   have hdiv : (m + pF B.n B.ls i * k) / pF B.n B.ls i = k := by
    rw [Nat.add_mul_div_left _ _ hP, Nat.div_eq_of_lt hm, Nat.zero_add]
   refine ⟨m + pF B.n B.ls i * k, ?_, ?_⟩
   ·show m + pF B.n B.ls i * k < pF B.n B.ls i * (vO B.n B.ls i).length
    have : pF B.n B.ls i * (k + 1) <= pF B.n B.ls i * (vO B.n B.ls i).length := Nat.mul_le_mul_left _ hk
    rw [Nat.mul_add, Nat.mul_one] at this
    omega
   ·rw [aL (d := default) (show i < X.length by omega)]
    show nP B.n B.ls _ i ++ [_] = _
    have hc : nP B.n B.ls (m + pF B.n B.ls i * k) i = nP B.n B.ls m i := xW i fun q hq => by
     obtain ⟨K, hK⟩ := GC B.n B.ls hq
     have hPq : 0 < pF B.n B.ls q := Cr V q (Nat.le_trans (Nat.le_of_lt hq) (Nat.le_of_succ_le h))
     rw [tH, tH, hK, Nat.mul_assoc, Nat.add_mul_div_left _ _ hPq, Nat.mul_assoc, Nat.add_mul_mod_self_left]
    rw [hc, he, tH, hdiv, Nat.mod_eq_of_lt hk]
    congr 2
    rw [<- hg]
    simp [List.getD, hk]
def TQ (box coin : Int) (cs : List Ct) (T : List Ln) : Bool := eG T && yG box coin cs T
def Hr (n : Int) (ls : List Ln) : List (List Ln) := (List.range (eE n ls).toNat).map (KT n ls)
def pA (B : Bk) : List (List Ln) := (Hr B.n B.ls).filter (TQ B.box B.coin B.cs)
theorem GG {B : Bk} (V : VB B) (m : Nat) : jE B.n B.ls (KT B.n B.ls m) = true := by
 unfold jE
 rw [Bool.and_eq_true, decide_eq_true_iff, List.all_eq_true]
 have hl : (KT B.n B.ls m).length = B.ls.length := uI _ _ _ _
 refine ⟨hl, fun i hi => ?_⟩
 have hi : i < B.ls.length := by rw [<- hl]; exact List.mem_range.1 hi
 rw [<- wE (by have := V.n; omega)]
 have h2 := (zV V hi).2.1
 have : (KT B.n B.ls m).getD i default = _ := Db _ _ _ hi
 rw [this]
 exact bV (Nat.mod_lt _ h2)
theorem EW {B : Bk} (V : VB B) {X : List Ln} : X ∈ Hr B.n B.ls ↔ jE B.n B.ls X = true := by
 unfold Hr
 rw [List.mem_map]
 constructor
 ·rintro ⟨m, _, rfl⟩
  exact GG V m
 ·intro h
  have hm : (pF B.n B.ls B.ls.length : Int) = eE B.n B.ls := by
   have h1 := DZ V B.ls.length (Nat.le_refl _)
   rw [List.take_length] at h1
   have h2 := fD V.n.1 V.n.2 B.ls
   have h3 := V.many
   omega
  unfold jE at h
  rw [Bool.and_eq_true, decide_eq_true_iff, List.all_eq_true] at h
  obtain ⟨hl, h⟩ := h
  obtain ⟨m, h1, h2⟩ := Dk V hl (fun i hi => by
   rw [wE (by have := V.n; omega)]
   exact h i (List.mem_range.2 hi)) B.ls.length (Nat.le_refl _)
  refine ⟨m, List.mem_range.2 (by omega), ?_⟩
  show nP _ _ _ _ = _
  rw [h2, List.take_of_length_le (by omega)]
theorem mQ {B : Bk} (V : VB B) {X : List Ln} : X ∈ pA B ↔ vL B.n B.coin B.box B.ls B.cs X = true := by
 unfold pA vL
 rw [List.mem_filter, EW V, Bool.and_eq_true (jE _ _ _)]
 rfl
theorem mR {B : Bk} (V : VB B) {X : List Ln} : X ∈ pA B ↔ X ∈ hU B B.ls.length [] := by
 rw [mQ V, iF, Ho V]
theorem IT {B : Bk} (V : VB B) {X : List Ln} (h : X ∈ pA B) : X.length = B.ls.length := by
 rw [mQ V] at h
 unfold vL jE at h
 rw [Bool.and_eq_true, Bool.and_eq_true, decide_eq_true_iff] at h
 exact h.1.1
def VT (X : List Ln) : List D := [.lst 3 (aD aM X)]
theorem fG (L : List (List Ln)) : eB (aD VT L) := nL (fun x => by simp [VT, aO, Pu, aB]) L
section
variable (n coin box : Int) (ls : List Ln) (cs : List Ct)
end
theorem GN {B : Bk} (V : VB B) : sQ B = true ↔ pA B ≠ [] := by
 unfold sQ
 rw [pL]
 constructor
 ·rintro ⟨X, h⟩ he
  have := (mR V).2 (iF.2 h)
  rw [he] at this; cases this
 ·intro h
  obtain ⟨X, s, hs⟩ := List.exists_cons_of_ne_nil h
  have : X ∈ pA B := by rw [hs]; exact List.mem_cons_self
  exact ⟨X, iF.1 ((mR V).1 this)⟩
theorem iY : ∀ (L : List Int) (a : Int), L.foldl min a <= a /\ (∀ x ∈ L, L.foldl min a <= x) /\ (L.foldl min a = a \/ L.foldl min a ∈ L)
 | [], a => ⟨Int.le_refl _, fun x h => absurd h (by simp), .inl rfl⟩
 | y :: L, a => by
   obtain ⟨h1, h2, h3⟩ := iY L (min a y)
   refine ⟨by show L.foldl min (min a y) <= a; omega, fun x hx => ?_, ?_⟩
   ·show L.foldl min (min a y) <= x
    rcases List.mem_cons.1 hx with rfl | hx
    ·omega
    ·exact h2 x hx
   ·show L.foldl min (min a y) = a \/ L.foldl min (min a y) ∈ y :: L
    rcases h3 with h3 | h3
    ·by_cases h : a <= y
     ·left; omega
     ·right; rw [h3, show min a y = y by omega]; exact List.mem_cons_self
    ·exact .inr (List.mem_cons_of_mem _ h3)
theorem iZ : ∀ (L : List Int) (a : Int), a <= L.foldl max a /\ (∀ x ∈ L, x <= L.foldl max a) /\ (L.foldl max a = a \/ L.foldl max a ∈ L)
 | [], a => ⟨Int.le_refl _, fun x h => absurd h (by simp), .inl rfl⟩
 | y :: L, a => by
   obtain ⟨h1, h2, h3⟩ := iZ L (max a y)
   refine ⟨by show a <= L.foldl max (max a y); omega, fun x hx => ?_, ?_⟩
   ·show x <= L.foldl max (max a y)
    rcases List.mem_cons.1 hx with rfl | hx
    ·omega
    ·exact h2 x hx
   ·show L.foldl max (max a y) = a \/ L.foldl max (max a y) ∈ y :: L
    rcases h3 with h3 | h3
    ·by_cases h : y <= a
     ·left; omega
     ·right; rw [h3, show max a y = y by omega]; exact List.mem_cons_self
    ·exact .inr (List.mem_cons_of_mem _ h3)
theorem xC {A : List Int} (h : A ≠ []) : A.getD 0 0 ∈ A := bV (by cases A with | nil => exact absurd rfl h | cons a s => simp)
theorem Dc {B : Bk} (V : VB B) {aft : Nat} {ak : Mo -> Int} {g : List Ln -> Int} (hg : ∀ X, ak (fC B.box B.coin X aft) = g X) (x : Int) : x ∈ fL B aft ak ↔ x ∈ (pA B).map g := by
 unfold fL
 rw [List.mem_map, List.mem_map]
 constructor
 ·rintro ⟨X, h, rfl⟩
  exact ⟨X, (mR V).2 h, (hg X).symm⟩
 ·rintro ⟨X, h, rfl⟩
  exact ⟨X, (mR V).1 h, hg X⟩
theorem CN {B : Bk} {aft : Nat} {ak : Mo -> Int} (h : hU B B.ls.length [] ≠ []) : fL B aft ak ≠ [] := by
 unfold fL
 intro he
 exact h (List.map_eq_nil_iff.1 he)
theorem Fz.whole {B : Pos -> Prop} {ob : T C} {id : Pos} {z st : Nat} {cs : List Cell} {cur : Nat} {es : List (List D)} {n : Nat} (hB : ¬ B id) (h : ob.get id = some (.cells false cs cur)) (hn : n = es.length) (hz : ∀ r ∈ es, r.length = z) (hc : cs = es.flatten.map fun d => Cell.o d st) (hp : eB es) : Fz B ob (.sl id 0 n st z) (.lst z es) := by
 subst hc
 refine .sl hB h hn.symm hz (fun k d hk => ⟨.o d st, ?_, ?_, rfl⟩) (FzE.of hp)
 ·rw [List.drop_zero, List.getElem?_map, hk]; rfl
 ·show Nat.ble st st = true
  exact Nat.ble_eq_true_of_le (Nat.le_refl _)
def BC (B : Bk) (aft x : Nat) : List Int := fL B aft fun m => min (m.h x) 1
def CM (B : Bk) (aft x : Nat) : Int := Nz ((BC B aft x).foldl min ((BC B aft x).getD 0 0)) ((BC B aft x).foldl max ((BC B aft x).getD 0 0))
def oX (B : Bk) (aft fst : Nat) : List Int := (List.range B.n.toNat).map fun i => CM B aft (fst + i)
theorem lH (B : Bk) (aft fst : Nat) : (oX B aft fst).length = B.n.toNat := by simp [oX]
theorem BY {B : Bk} {aft fst j : Nat} (h : j < B.n.toNat) : (oX B aft fst).getD j 0 = CM B aft (fst + j) := by simp [oX, List.getD, h]
theorem ND {L : List Int} (hne : L ≠ []) (h : ∀ x ∈ L, 0 <= x /\ x <= 1) : (0 <= L.foldl min (L.getD 0 0) /\ L.foldl min (L.getD 0 0) <= 1) /\ (0 <= L.foldl max (L.getD 0 0) /\ L.foldl max (L.getD 0 0) <= 1) := by
 have h0 : L.getD 0 0 ∈ L := by
  cases L with
  | nil => exact absurd rfl hne
  | cons a l => simp
 constructor
 ·rcases sC (L := L) (a := L.getD 0 0) with e | e
  ·rw [e]; exact h _ h0
  ·exact h _ e
 ·rcases sG (L := L) (a := L.getD 0 0) with e | e
  ·rw [e]; exact h _ h0
  ·exact h _ e
theorem KN {B : Bk} {aft x : Nat} : ∀ y ∈ BC B aft x, 0 <= y /\ y <= 1 := fun y hy => by
 obtain ⟨X, _, rfl⟩ := List.mem_map.1 hy
 have g1 := jO X (x : Int) aft
 have g2 := jK X ((x - 4 : Nat) : Int) aft
 have : 0 <= (fC B.box B.coin X aft).h x := by
  show 0 <= (if x < 4 then bK X (x : Int) aft + 1 else bY X ((x - 4 : Nat) : Int) aft + 1)
  split <;> omega
 show 0 <= min ((fC B.box B.coin X aft).h x) 1 /\ min ((fC B.box B.coin X aft).h x) 1 <= 1
 omega
theorem HW {B : Bk} {aft x : Nat} (hne : hU B B.ls.length [] ≠ []) : PureF Try.prog p118.ix [Ch (BC B aft x)] (.i .i64 (CM B aft x)) := by
 have hA : BC B aft x ≠ [] := fun e => hne (List.map_eq_nil_iff.1 e)
 obtain ⟨⟨a1, a2⟩, ⟨b1, b2⟩⟩ := ND hA KN
 exact Fu _ _ (cL (by omega) (by omega)) (cL (by omega) (by omega))
theorem tL {B : Bk} (V : VB B) {aft fst : Nat} (ha : aft <= B.ls.length) (hf : fst <= 4) (hne : hU B B.ls.length [] ≠ []) (M : dQ) (hM : MOk B M) :
 ∃ M', MOk B M' /\ CallOk Try.prog p87.ix [.ag (iK B ++ [.mp .h]), .i .i64 (aft : Int), .i .i64 (fst : Int)] (fE M) (.o .h) none (.lst 1 (ints (oX B aft fst))) (fE M') (.o .h) none := by
 have hn := V.n
 obtain ⟨v, ob', ⟨M', hM', rfl, rfl⟩, Hb⟩ := CallOk.runE (Φ := fun v ob' => ∃ M', MOk B M' /\ v = .lst 1 (ints (oX B aft fst)) /\ ob' = fE M') (ob := fE M) (nx := .o .h) (nx' := .o .h) (ds := [.ag (iK B ++ [.mp .h]), .i .i64 (aft : Int), .i .i64 (fst : Int)]) Uq (by simp) (Nat.le_refl _) (by
  unfold iK
  conv => whnf
  refine Qg ?_
  refine Rn.loop (fun (t : Nat × dQ) => match t with
   | (0, M) => ⟨(.n (.n (.n (.n .e (some (.ns)) .e) (some (.pt (.o .h) 0 0)) .e) (some (.i .i64 (aft : Int))) (.n .e none (.n .e (some (.i .i64 0)) .e))) none (.n (.n .e none (.n .e (some (.i .i64 B.n)) .e)) (some (.i .i64 (fst : Int))) .e)), (.n (.n .e (some (eR B)) .e) (some (.map (bR M))) .e), .i .h, none⟩
   | (j + 1, M) => ⟨(.n (.n (.n (.n .e (some (.sl (.o (.o .h)) 0 (j + 1) j 1)) .e) (some (.pt (.o .h) 0 0)) .e) (some (.i .i64 (aft : Int))) (.n .e none (.n .e (some (.i .i64 ((j + 1 : Nat) : Int))) .e))) none (.n (.n .e none (.n .e (some (.i .i64 B.n)) .e)) (some (.i .i64 (fst : Int))) .e)), (.n (.n (.n .e (some (.cells false ((((oX B aft fst).take (j + 1)).map fun n => D.i .i64 n).map fun d => Cell.o d j) (j + 1))) .e) (some (eR B)) .e) (some (.map (bR M))) .e), .i (.o .h), none⟩) (fun t => t.1 <= B.n.toNat /\ MOk B t.2) (fun t => B.n.toNat - t.1) (0, M) ?_ ?_ ?_
  ·refine X.le.mk ?_ ?_ (Nat.le_refl _) rfl rfl <;> exact gC
  ·exact ⟨Nat.zero_le _, hM⟩
  rintro ⟨_ | j, M⟩ ⟨hj, hM⟩
  ·have hM : MOk B M := hM
   obtain ⟨M', hM', Hb⟩ := uJ V (wJ B (fst + 0) (by omega)) ha hne M hM
   have cV := HW (aft := aft) (x := fst + 0) hne
   rw [show ((fst + 0 : Nat) : Int) = (fst : Int) + 0 by omega] at Hb
   conv => whnf
   repeat' ((first | refine Qw ?_ | refine Qd (fun h => ?_) (fun h => ?_)) <;> conv => whnf)
   ·refine WCall.of (CallOk.mapAt Hb (zJ _) (id := .h) rfl (show 1 < Pos.nat (.i .h) from by decide) (mW (by simp [aO, Pu]))) ?_; conv => whnf
    repeat' ((first | refine Qw ?_ | refine Qf cV ?_ | refine Qd (fun h => ?_) (fun h => ?_)) <;> conv => whnf)
    refine WSt.app_first (r := [.i .i64 (CM B aft (fst + 0))]) rfl (.inl rfl) rfl rfl rfl rfl ?_; conv => whnf
    repeat' ((first | refine Qw ?_ | refine Qd (fun h => ?_) (fun h => ?_)) <;> conv => whnf)
    have ht : (oX B aft fst).take 1 = [CM B aft (fst + 0)] := by
     rw [aL (d := 0) (show 0 < (oX B aft fst).length by rw [lH]; omega), BY (by omega)]; rfl
    refine Again.to (1, M') (show B.n.toNat - 1 < B.n.toNat - 0 by omega) ⟨show 1 <= B.n.toNat by omega, hM'⟩ (Nat.le_of_ble_eq_true rfl) ?_
    refine Shr.of ?_ ?_ rfl rfl
    ·(repeat' first | exact Rel.e | refine Rel.some ?_ ?_ ?_ | refine Rel.none ?_ ?_ | refine Rel.ee ?_ ?_)
     all_goals show Fz _ _ _ _
     all_goals first | exact Fy | (refine Fz.i ?_; omega)
    ·(repeat' first | exact Rel.e | refine Rel.some ?_ ?_ ?_ | refine Rel.none ?_ ?_ | refine Rel.ee ?_ ?_)
     all_goals first
      | exact RO'.of (show Pos.nat _ < Pos.nat _ by simp [Pos.nat]) (ShC.kp hJ)
      | exact RO'.of (show Pos.nat _ < Pos.nat _ by simp [Pos.nat]) (ShC.kp (lE B (by simp [Pos.nat])))
      | (refine RO'.of (show Pos.nat _ < Pos.nat _ by simp [Pos.nat]) ?_
         show ShC _ _ _ (.cells false ((((oX B aft fst).take 1).map fun n => D.i .i64 n).map fun d => Cell.o d 0) 1)
         rw [ht]
         exact ShC.same (ShC.cn (.pu trivial) ShC.nl))
  ·have hM : MOk B M := hM
   have hj : j + 1 <= B.n.toNat := hj
   conv => whnf
   refine Qg ?_
   refine WB.dec (fun h => ?_) (fun h => ?_) <;> conv => whnf
   ·have hlt : j + 1 < B.n.toNat := by omega
    obtain ⟨M', hM', Hb⟩ := uJ V (wJ B (fst + (j + 1)) (by omega)) ha hne M hM
    have cV := HW (aft := aft) (x := fst + (j + 1)) hne
    rw [show ((fst + (j + 1) : Nat) : Int) = (fst : Int) + ((j + 1 : Nat) : Int) by omega] at Hb
    repeat' ((first | refine Qw ?_ | refine Qd (fun h => ?_) (fun h => ?_)) <;> conv => whnf)
    refine WCall.of (CallOk.mapAt Hb (zJ _) (id := .h) rfl (show 1 < Pos.nat (.i (.o .h)) from by decide) (mW (by simp [aO, Pu]))) ?_; conv => whnf
    repeat' ((first | refine Qw ?_ | refine Qf cV ?_ | refine Qd (fun h => ?_) (fun h => ?_)) <;> conv => whnf)
    refine WSt.app_one (ds := ((oX B aft fst).take (j + 1)).map fun n => D.i .i64 n) (r := [.i .i64 (CM B aft (fst + (j + 1)))]) rfl rfl rfl rfl rfl rfl (by rw [List.length_map, List.length_take, lH]; omega) rfl rfl (by omega) rfl ?_; conv => whnf
    repeat' ((first | refine Qw ?_ | refine Qd (fun h => ?_) (fun h => ?_)) <;> conv => whnf)
    have ht : (oX B aft fst).take (j + 2) = (oX B aft fst).take (j + 1) ++ [CM B aft (fst + (j + 1))] := by
     rw [aL (d := 0) (show j + 1 < (oX B aft fst).length by rw [lH]; omega), BY (by omega)]
    refine Again.to (j + 2, M') (show B.n.toNat - (j + 2) < B.n.toNat - (j + 1) by omega) ⟨show j + 2 <= B.n.toNat by omega, hM'⟩ (Nat.le_of_ble_eq_true rfl) ?_
    refine Shr.of ?_ ?_ rfl rfl
    ·(repeat' first | exact Rel.e | refine Rel.some ?_ ?_ ?_ | refine Rel.none ?_ ?_ | refine Rel.ee ?_ ?_)
     all_goals show Fz _ _ _ _
     all_goals first | exact Fy | (refine Fz.i ?_; omega)
    ·(repeat' first | exact Rel.e | refine Rel.some ?_ ?_ ?_ | refine Rel.none ?_ ?_ | refine Rel.ee ?_ ?_)
     all_goals first
      | exact RO'.of (show Pos.nat _ < Pos.nat _ by simp [Pos.nat]) (ShC.kp hJ)
      | exact RO'.of (show Pos.nat _ < Pos.nat _ by simp [Pos.nat]) (ShC.kp (lE B (by simp [Pos.nat])))
      | (refine RO'.of (show Pos.nat _ < Pos.nat _ by simp [Pos.nat]) ?_
         show ShC _ _ (.cells false (((((oX B aft fst).take (j + 1)).map fun n => D.i .i64 n).map fun d => Cell.o d j) ++ [D.i .i64 (CM B aft (fst + (j + 1)))].map fun d => Cell.o d (j + 1)) (j + 1 + 1)) (.cells false ((((oX B aft fst).take (j + 2)).map fun n => D.i .i64 n).map fun d => Cell.o d (j + 1)) (j + 1 + 1))
         rw [ht, List.map_append]
         refine ShC.grown (by omega) (aG.2 fun d hd => ?_)
         rcases List.mem_append.1 hd with h | h
         ·exact aG.1 (dJ _) d h
         ·rw [List.mem_singleton.1 h]; trivial)
   ·refine Qg ?_
    refine ⟨_, _, ⟨M, hM, rfl, rfl⟩, ⟨.inr rfl, ⟨_, rfl, ?_⟩, Shr.kp ?_ (fK M)⟩⟩
    ·exact Fz.whole (cs := (((oX B aft fst).take (j + 1)).map fun n => D.i .i64 n).map fun d => Cell.o d j) (cur := j + 1) (show ¬ 4 < 2 by omega) rfl (by rw [aR, lH]; omega) (dK _) (by rw [bJ, List.take_of_length_le (by rw [lH]; omega)]) (aJ _)
    ·show T.le (T.n .e (some (.map (bR M))) .e : T Ev.C) _
     refine T.le_some (T.le_e _) rfl (T.le_e _))
 exact ⟨M', hM', Hb⟩
def OA (n coin box : Int) (ls : List Ln) (cs : List Ct) (after : Int) : D :=
 if sE n coin box ls cs (gS after 0 ls.length) = 0 then .tp [.lst 1 (ints (oX (B5 n coin box ls cs) after.toNat 0)), .lst 1 (ints (oX (B5 n coin box ls cs) after.toNat 4)), .i .i64 0] else .tp [.lst 1 [], .lst 1 [], .i .i64 (sE n coin box ls cs (gS after 0 ls.length))]
theorem NM (n coin box : Int) (ls : List Ln) (cs : List Ct) (after : Int) : PureF Try.prog p34.ix [.ag [.i .i64 n, .i .i64 coin, .i .i64 box, .lst 3 (aD aM ls), .lst 3 (aD dZ cs)], .i .i64 after] (OA n coin box ls cs after) := by
 have e1 := aC aM ls
 have cU : PureF Try.prog p86.ix [.i .i64 after, .i .i64 ((aD aM ls).length : Int)] (.b (gS after 0 ls.length)) := by
  have := yZ after ((aD aM ls).length : Int)
  rw [e1] at this ⊢
  exact this
 unfold OA
 by_cases hE : sE n coin box ls cs (gS after 0 ls.length) = 0
 ·rw [if_pos hE]
  obtain ⟨hf, ht⟩ := Au hE
  have hE' := hE
  rw [ht] at hE' cU
  obtain ⟨M, hM, Hs⟩ := BB n coin box ls cs hE'
  have ha := aP.1 ht
  have V := VB.of hf
  obtain ⟨M', hM', Hb⟩ := tL V (aft := after.toNat) (fst := 0) (show after.toNat <= ls.length by omega) (by omega) (Dl hE) M hM
  obtain ⟨M'', hM'', Hc⟩ := tL V (aft := after.toNat) (fst := 4) (show after.toNat <= ls.length by omega) (by omega) (Dl hE) M' hM'
  rw [show ((after.toNat : Nat) : Int) = after by omega] at Hb Hc
  refine PureF.run SL (by simp) (by simp [aO, eB, Pu, aJ, aB, aE]) ?_; conv => whnf
  repeat' ((first | refine Qw ?_ | refine Qf cU ?_ | refine Qd (fun h => ?_) (fun h => ?_)) <;> conv => whnf)
  refine WCall.of (AK Hs) ?_; conv => whnf
  repeat' ((first | refine Qw ?_ | refine Qd (fun h => ?_) (fun h => ?_)) <;> conv => whnf)
  refine WCall.of (CallOk.mapAt Hb (aJ _) (id := .o .h) rfl (show 2 < 4 from by decide) (mW (show aO [.i .i64 after, .i .i64 ((0 : Nat) : Int)] from ⟨trivial, trivial, trivial⟩))) ?_; conv => whnf
  repeat' ((first | refine Qw ?_ | refine Qd (fun h => ?_) (fun h => ?_)) <;> conv => whnf)
  refine WCall.of (CallOk.mapAt Hc (aJ _) (id := .o .h) rfl (show 2 < 4 from by decide) (mW (show aO [.i .i64 after, .i .i64 ((4 : Nat) : Int)] from ⟨trivial, trivial, trivial⟩))) ?_; conv => whnf
  repeat' ((first | refine Qw ?_ | refine Qd (fun h => ?_) (fun h => ?_)) <;> conv => whnf)
  exact ⟨.inr rfl, _, rfl, .tp (.cons (.pu (aJ _)) (.cons (.pu (aJ _)) (.cons (.pu trivial) .nil)))⟩
 ·rw [if_neg hE]
  have cS := Bc n coin box ls cs _ hE
  generalize sE n coin box ls cs (gS after 0 ls.length) = e at hE cS ⊢
  unfold iK B5 TJ at cS
  refine PureF.run SL (by simp) (by simp [aO, eB, Pu, aJ, aB, aE]) ?_; conv => whnf
  repeat' ((first | refine Qw ?_ | refine Qf cU ?_ | refine Qf cS ?_ | refine Qd (fun h => ?_) (fun h => ?_)) <;> conv => whnf)
  all_goals first
   | (exfalso; omega)
   | exact ⟨.inr rfl, _, rfl, .tp (.cons .ns (.cons .ns (.cons (.pu trivial) .nil)))⟩
end Go.Ev
end
