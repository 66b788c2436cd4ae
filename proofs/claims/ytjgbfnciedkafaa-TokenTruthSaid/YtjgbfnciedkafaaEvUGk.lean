import Derived.Test.YtjgbfnciedkafaaEvUNk
import Derived.Test.YtjgbfnciedkafaaEvUJe
import Derived.Test.YtjgbfnciedkafaaEvUHa
import Derived.Test.YtjgbfnciedkafaaEvUDs
import Derived.Test.YtjgbfnciedkafaaProg
set_option linter.all false
set_option maxHeartbeats 8000000
noncomputable section
namespace Go.Ev
open Go.Proofs
set_option maxRecDepth 100000
def TF : Pos := .o (.o (.i .h))
def SC : Pos := .i (.o (.i .h))
def Hm : List Ln -> D
 | [] => .ns
 | _ :: s => .sl wM 0 (s.length + 1) s.length 3
def Ho : List Ln -> Option Ev.C
 | [] => some .hole
 | a :: s => some (.cells false ((CM (a :: s)).map fun d => Cell.o d s.length) (s.length + 1))
def wH (row lrow : List D) : T D := (.n (.n (.n (.n .e (some (.pt TF 0 0)) .e) none .e) none (.n .e (some (.pt (.i (.o .h)) 0 0)) .e)) none (.n .e none (.n (.n .e none (.n .e (some (.fn p135 [] [.pl row 0, .pl lrow 0])) .e)) none .e)))
def xN (M : dM) (m : FJ) (row lrow : List D) : Lns (List Ln) where
 o := fun i s => match i with
   | 1 => some (.map (bR M))
   | 4 => some (.map (wU m))
   | 5 => some (.cells false [.o (.mp (.o (.o .h))) 0] 1)
   | 12 => some (.cells false [.o (Hm s) 0] 1)
   | 13 => some (.lp (wH row lrow) [p28] 36 (mG (aN Try.f91) 1) (mA (aN Try.f91) 1) .ready none)
   | 14 => Ho s
   | _ => none
theorem wA {row lrow : List D} (h1 : aO row) (h2 : aO lrow) : ∀ s d, (wH row lrow).get s = some d -> Kp 13 d := by
 show TAll (fun _ d => Kp 13 d) _
 unfold wH
 repeat' first | exact TAll.e | refine TAll.some ?_ ?_ ?_ | refine TAll.none ?_ ?_
 all_goals simp [Kp, KpL, Pu, aO, h1, h2, TF, Pos.nat]
def Zf (m : FJ) (h s : List Ln) : Prop := s = h.filter fun l => decide ((l, true) ∈ m)
def RD (m : FJ) (s : List Ln) (a : Ln) (s' : List Ln) (g : Bool) : Prop := g = true /\ s' = s ++ bif decide ((a, true) ∈ m) then [a] else []
section
variable {M : dM} {m : FJ} {row lrow : List D} (h1 : aO row) (h2 : aO lrow)
include h1 h2
theorem MT (s : List Ln) : KpO 18 ((xN M m row lrow).base s) := by
 show TAll (fun id c => id.nat < 18 /\ KpC 18 c) _
 cases s with
 | nil =>
   unfold Lns.base bQ xN Ho Hm
   repeat' first | exact TAll.e | refine TAll.some ?_ ?_ ?_ | refine TAll.none ?_ ?_
   all_goals refine ⟨by simp [Pos.nat], ?_⟩
   all_goals first
    | exact dP
    | exact mD
    | exact fun s d h => (wA h1 h2 s d h).up (by omega)
    | trivial
    | (refine KpL.all ?_; simp [KpL, Kp, Cell.d, Pu, Pos.nat])
 | cons a s =>
   unfold Lns.base bQ xN Ho Hm
   repeat' first | exact TAll.e | refine TAll.some ?_ ?_ ?_ | refine TAll.none ?_ ?_
   all_goals refine ⟨by simp [Pos.nat], ?_⟩
   all_goals first
    | exact dP
    | exact mD
    | exact fun s d h => (wA h1 h2 s d h).up (by omega)
    | exact Jm _ _ _ _
    | (refine KpL.all ?_; simp [KpL, Kp, Cell.d, Pu, wM, Pos.nat])
end
def VY (x1 x2 x3 x4 x5 x6 x7 x8 x9 x10 x11 x12 x13 x14 x15 x16 x17 x18 x19 x20 x23 : Option Ev.C) : T Ev.C := .n (.n (.n (.n (.n .e x16 .e) x8 .e) x4 (.n (.n .e x20 .e) x12 .e)) x2 (.n (.n (.n .e x18 .e) x10 .e) x6 (.n .e x14 .e))) x1 (.n (.n (.n (.n .e x17 .e) x9 .e) x5 (.n .e x13 .e)) x3 (.n (.n (.n .e x19 .e) x11 .e) x7 (.n (.n .e x23 .e) x15 .e)))
def Zg : Pos := .o (.o (.o (.i .h)))
section
variable {M : dM} {m : FJ} {row lrow : List D} (h1 : aO row) (h2 : aO lrow)
include h1 h2
theorem Ks : KpC 14 (.lp (wH row lrow) [p28] 36 (mG (aN Try.f91) 1) (mA (aN Try.f91) 1) .ready none) := fun s d h => (wA h1 h2 s d h).up (by omega)
theorem TK {n : Int} {l : Ln} (hm : ∀ e ∈ m, kY e.1 /\ e.2 = true) (hwf : ∀ a, Ba n l a = true -> kY a) (hlen : (mZ n l).length <= 1000) : LnsOk (xN M m row lrow) SC (Zf m) (RD m) n l := by
 refine ⟨by simp [SC, Pos.nat], fun s => MT h1 h2 s, ?_, ?_⟩
 ·rintro h s a s' _ hI ⟨_, rfl⟩
  have hI : s = h.filter fun l => decide ((l, true) ∈ m) := hI
  show s ++ _ = (h ++ [a]).filter _
  rw [hI, List.filter_append]
  cases hd : decide ((a, true) ∈ m) with
  | true => rw [List.filter_cons_of_pos (by exact hd)]; rfl
  | false => rw [List.filter_cons_of_neg (by rw [hd]; simp)]; rfl
 ·intro h s hI a hpre sl d K k
  have hI : s = h.filter fun l => decide ((l, true) ∈ m) := hI
  have hsl : s.length < 1000 := by
   have q1 := hpre.length_le
   have q2 := List.length_filter_le (fun l => decide ((l, true) ∈ m)) h
   rw [List.length_append, List.length_singleton] at q1
   rw [hI]; omega
  have haw : kY a := hwf a (fC.1 (hpre.subset (by simp)))
  suffices hs : ∃ g ob', (∃ s', RD m s a s' g /\ ob' = (xN M m row lrow).ob n l s') /\ RndOk Try.prog SC [.ag [.i .i64 a.k, .i .i64 a.c, .i .i64 a.t]] ((xN M m row lrow).ob n l s) nb5 none (.b g) ob' nb5 none by
   obtain ⟨g, _, ⟨s', hR, rfl⟩, HR⟩ := hs
   exact WRnd.at HR (k s' g hR)
  have kpo := wV (S := xN M m row lrow) (n := n) (l := l) (fun s => MT h1 h2 s)
  by_cases hin : (a, true) ∈ m
  ·have hR : ∀ s', s' = s ++ [a] -> RD m s a s' true := fun s' e => ⟨rfl, by rw [e, decide_eq_true hin]; rfl⟩
   cases s with
   | nil =>
     refine RndOk.runEF2 (sl0 := wH row lrow) rfl oQ oU ⟨_, rfl, ?_⟩
     unfold Lns.ob bQ xN wH Ho Hm
     conv => whnf
     refine Qg ?_
     refine ⟨rfl, rfl, _, _, _, _, _, _, rfl, ?_⟩
     conv => whnf
     refine Qg ?_
     refine WSt.lkpG wW (w := a) (M := m) (by rfl) (by rfl) (by rfl) haw (fun e he => (hm e he).1) (fun nn hn => ?_) (fun hn => absurd hin (hn true))
     obtain rfl : nn = true := (hm _ hn).2
     conv => whnf
     refine Qg ?_
     refine WSt.app_first (r := aI a) rfl (.inl rfl) rfl rfl rfl rfl ?_; conv => whnf
     refine Qg ?_
     refine ⟨_, _, _, _, _, _, _, (VY (some (.map (bR M))) none none (some (.map (wU m))) (some (.cells false [.o (.mp (.o (.o .h))) 0] 1)) none none none none none none (some (.cells false [.o (.sl UT 0 1 0 3) 0] 1)) (some (.lp (wH row lrow) [p28] 36 (mG (aN Try.f91) 1) (mA (aN Try.f91) 1) .ready none)) (some .hole) none none none (some (.cells false [.o (.i .i64 (eJ l)) 0, .o (.i .i64 (nE l)) 0] 1)) (some (.cells false [.o (.i .i64 (gK l)) 0, .o (.i .i64 (mW n l)) 0] 1)) (some (.cells false [.o (.i .i64 (kZ l)) 0, .o (.i .i64 (oY n l)) 0] 1)) (some (.cells false ((aI a).map fun d => Cell.o d 0) 1))), (xN M m row lrow).ob n l [a], rfl, rfl, Zg, UT, by simp [nb5, Zg, Pos.nat], by simp [nb5, UT, Pos.nat], Shr.kp ?_ ?_, ?_, [a], hR _ rfl, rfl⟩
     ·unfold VY wH
      repeat' first | exact T.le_e _ | refine T.le_some ?_ rfl ?_ | refine T.le_same ?_ ?_ | refine T.le_none ?_ ?_
     ·show TAll (fun id c => id.nat < 24 /\ KpC 24 c) _
      unfold VY
      repeat' first | exact TAll.e | refine TAll.some ?_ ?_ ?_ | refine TAll.none ?_ ?_
      all_goals refine ⟨by simp [Pos.nat], ?_⟩
      all_goals first
       | exact dP
       | exact mD
       | exact fun s d h => (wA h1 h2 s d h).up (by omega)
       | trivial
       | (refine KpL.all ?_; simp [KpL, Kp, Cell.d, Pu, UT, aI, Pos.nat])
     ·refine ⟨wM, TF, false, 1, 0, 3, 0, 1, 0, 1, aI a, by simp [wM, nb5, Pos.nat], by simp [TF, wM, Pos.nat], rfl, by simp [aO, Pu, aI], rfl, rfl, ?_⟩
      show TAll (fun i ci => (i = wM /\ ci = .cells false ((aI a).map fun d => Cell.o d 0) 1) \/ (i = TF /\ ci = .cells false [.o (.sl wM 0 1 0 3) 0] 1) \/ (i ≠ wM /\ i.nat < nb5.nat /\ T.get (VY (some (.map (bR M))) none none (some (.map (wU m))) (some (.cells false [.o (.mp (.o (.o .h))) 0] 1)) none none none none none none (some (.cells false [.o (.sl UT 0 1 0 3) 0] 1)) (some (.lp (wH row lrow) [p28] 36 (mG (aN Try.f91) 1) (mA (aN Try.f91) 1) .ready none)) (some .hole) none none none (some (.cells false [.o (.i .i64 (eJ l)) 0, .o (.i .i64 (nE l)) 0] 1)) (some (.cells false [.o (.i .i64 (gK l)) 0, .o (.i .i64 (mW n l)) 0] 1)) (some (.cells false [.o (.i .i64 (kZ l)) 0, .o (.i .i64 (oY n l)) 0] 1)) (some (.cells false ((aI a).map fun d => Cell.o d 0) 1))) i = some ci /\ KpC 14 ci)) _
      unfold Lns.ob bQ xN
      repeat' first | exact TAll.e | refine TAll.some ?_ ?_ ?_ | refine TAll.none ?_ ?_
      all_goals first
       | exact .inl ⟨rfl, rfl⟩
       | exact .inr (.inl ⟨rfl, rfl⟩)
       | (refine .inr (.inr ⟨by decide, by simp [nb5, Pos.nat], rfl, ?_⟩)
          first
           | exact dP
           | exact mD
           | exact Ks h1 h2
           | (refine KpL.all ?_; simp [KpL, Kp, Cell.d, Pu, Pos.nat]))
   | cons b s =>
     have hs9 : s.length + 1 < 1000 := hsl
     refine RndOk.runE (sl0 := wH row lrow) rfl oQ oU ⟨_, rfl, ?_⟩
     unfold Lns.ob bQ xN wH Ho Hm
     conv => whnf
     refine Qg ?_
     refine ⟨rfl, rfl, _, _, _, _, _, _, rfl, ?_⟩
     conv => whnf
     refine Qg ?_
     refine WSt.lkpG wW (w := a) (M := m) (by rfl) (by rfl) (by rfl) haw (fun e he => (hm e he).1) (fun nn hn => ?_) (fun hn => absurd hin (hn true))
     obtain rfl : nn = true := (hm _ hn).2
     conv => whnf
     refine Qg ?_
     refine WSt.app_one (ds := CM (b :: s)) (r := aI a) rfl rfl rfl rfl rfl rfl (by rw [Fm]; rfl) rfl rfl (by omega) rfl ?_; conv => whnf
     refine Qg ?_
     have hln : (s ++ [a]).length = s.length + 1 := by simp
     have hb : Ho (b :: s ++ [a]) = some (.cells false ((CM (b :: s) ++ aI a).map fun d => Cell.o d (s.length + 1)) (s.length + 1 + 1)) := by
      show some (Ev.C.cells false ((CM (b :: (s ++ [a]))).map fun d => Cell.o d (s ++ [a]).length) ((s ++ [a]).length + 1)) = _
      rw [hln, <- List.cons_append, Ci]
     have hs' : Hm (b :: s ++ [a]) = .sl wM 0 (s.length + 1 + 1) (s.length + 1) 3 := by
      show D.sl wM 0 ((s ++ [a]).length + 1) (s ++ [a]).length 3 = _
      rw [hln]
     refine ⟨_, _, _, _, _, _, _, (xN M m row lrow).ob n l (b :: s ++ [a]), rfl, rfl, ?_, b :: s ++ [a], hR _ rfl, rfl⟩
     show Shr _ ⟨.e, bQ (some (.map (bR M))) none none (some (.map (wU m))) (some (.cells false [.o (.mp (.o (.o .h))) 0] 1)) none none none none none none (some (.cells false [.o (Hm (b :: s ++ [a])) 0] 1)) (some (.lp (wH row lrow) [p28] 36 (mG (aN Try.f91) 1) (mA (aN Try.f91) 1) .ready none)) (Ho (b :: s ++ [a])) none none none (some (.cells false [.o (.i .i64 (eJ l)) 0, .o (.i .i64 (nE l)) 0] 1)) (some (.cells false [.o (.i .i64 (gK l)) 0, .o (.i .i64 (mW n l)) 0] 1)) (some (.cells false [.o (.i .i64 (kZ l)) 0, .o (.i .i64 (oY n l)) 0] 1)), nb5, none⟩
     rw [hb, hs']
     have hpv : aO (CM (b :: s) ++ aI a) := aF.2 fun d hd => by
      rcases List.mem_append.1 hd with h | h
      ·exact aF.1 (Hu _) d h
      ·exact aF.1 (KG a) d h
     refine Shr.of ?_ ?_ rfl rfl
     ·exact Rel.e
     ·unfold bQ
      repeat' first | exact Rel.e | refine Rel.some ?_ ?_ ?_ | refine Rel.none ?_ ?_
      all_goals refine RO'.of (by simp [Pos.nat, nb5]) ?_
      all_goals first
       | exact ShC.kp dP
       | exact ShC.kp mD
       | exact ShC.kp (n := 21) (fun s d h => (wA h1 h2 s d h).up (by omega))
       | exact ShC.grown (by omega) hpv
       | (refine ShC.kp (n := 21) (KpL.all ?_); simp [KpL, Kp, Cell.d, Pu, wM, Pos.nat])
  ·have hR : ∀ s', s' = s -> RD m s a s' true := fun s' e => ⟨rfl, by rw [e, decide_eq_false hin, cond_false, List.append_nil]⟩
   cases s with
   | nil =>
     refine RndOk.runE (sl0 := wH row lrow) rfl oQ oU ⟨_, rfl, ?_⟩
     unfold Lns.ob bQ xN wH Ho Hm
     conv => whnf
     refine Qg ?_
     refine ⟨rfl, rfl, _, _, _, _, _, _, rfl, ?_⟩
     conv => whnf
     refine Qg ?_
     refine WSt.lkpG wW (w := a) (M := m) (by rfl) (by rfl) (by rfl) haw (fun e he => (hm e he).1) (fun nn hn => absurd (show (a, true) ∈ m from by have h3 : nn = true := (hm _ hn).2; rw [h3] at hn; exact hn) hin) (fun hn => ?_)
     conv => whnf
     refine Qg ?_
     refine ⟨_, _, _, _, _, _, _, (xN M m row lrow).ob n l ([]), rfl, rfl, Shr.kp ?_ (kpo _), [], hR _ rfl, rfl⟩
     unfold Lns.ob bQ xN wH Ho Hm
     repeat' first | exact T.le_e _ | refine T.le_some ?_ rfl ?_ | refine T.le_same ?_ ?_ | refine T.le_none ?_ ?_
   | cons b s =>
     refine RndOk.runE (sl0 := wH row lrow) rfl oQ oU ⟨_, rfl, ?_⟩
     unfold Lns.ob bQ xN wH Ho Hm
     conv => whnf
     refine Qg ?_
     refine ⟨rfl, rfl, _, _, _, _, _, _, rfl, ?_⟩
     conv => whnf
     refine Qg ?_
     refine WSt.lkpG wW (w := a) (M := m) (by rfl) (by rfl) (by rfl) haw (fun e he => (hm e he).1) (fun nn hn => absurd (show (a, true) ∈ m from by have h3 : nn = true := (hm _ hn).2; rw [h3] at hn; exact hn) hin) (fun hn => ?_)
     conv => whnf
     refine Qg ?_
     refine ⟨_, _, _, _, _, _, _, (xN M m row lrow).ob n l (b :: s), rfl, rfl, Shr.kp ?_ (kpo _), b :: s, hR _ rfl, rfl⟩
     unfold Lns.ob bQ xN wH Ho Hm
     repeat' first | exact T.le_e _ | refine T.le_some ?_ rfl ?_ | refine T.le_same ?_ ?_ | refine T.le_none ?_ ?_
end
theorem Jn {m : FJ} : ∀ (L : List Ln) {s s' : List Ln} {g : Bool}, Fld (RD m) L s s' g -> s' = s ++ L.filter (fun l => decide ((l, true) ∈ m)) /\ g = true
 | [], s, s', g, h => by cases h; simp
 | a :: L, s, s', g, h => by
   cases h with
   | stop h => cases h.1
   | go h k =>
     obtain ⟨_, rfl⟩ := h
     obtain ⟨q1, q2⟩ := Jn L k
     refine ⟨?_, q2⟩
     rw [q1, List.append_assoc]
     congr 1
     cases hd : decide ((a, true) ∈ m) with
     | true => rw [List.filter_cons_of_pos (by exact hd)]; rfl
     | false => rw [List.filter_cons_of_neg (by rw [hd]; simp)]; rfl
def AB (B : Bk) (line : Nat) : List Ln := (mZ B.n (B.ls.getD line default)).filter fun l => (gN B B.ls.length []).any fun X => decide (X.getD line default = l)
theorem Jv {B : Bk} (V : VB B) (l : Ln) : (mZ B.n l).length <= 1000 := by
 have h := EO B.n l
 have hn := V.n
 have h1 : (Aw l).toNat <= 2 := by unfold Aw; split <;> omega
 have h2 : (zM B.n l).toNat <= 4 := by unfold zM; split <;> omega
 have h3 : (zB B.n l).toNat <= 4 := by unfold zB; split <;> omega
 have h4 : (zM B.n l).toNat * (zB B.n l).toNat <= 4 * 4 := Nat.mul_le_mul h2 h3
 have h5 : (Aw l).toNat * ((zM B.n l).toNat * (zB B.n l).toNat) <= 2 * (4 * 4) := Nat.mul_le_mul h1 h4
 omega
theorem Ps {B : Pos -> Prop} {ob : T Ev.C} (hB : ¬ B wM) : ∀ (s : List Ln), (ob.get wM = Ho s) -> Fz B ob (Hm s) (.lst 3 (aC aI s))
 | [], _ => .ns
 | a :: s, h => Fz.whole (cs := (CM (a :: s)).map fun d => Cell.o d s.length) (cur := s.length + 1) hB h (by simp [aC]) (dK _) (by rfl) (aB _)
theorem Sp {B : Bk} (V : VB B) {line : Nat} (hl : line < B.ls.length) (M : dM) (hM : MOk B M) :
 ∃ M', MOk B M' /\ CallOk Try.prog p92.ix [.ag (gJ B ++ [.mp .h]), .i .i64 (line : Int)] (eW M) (.o .h) none (.lst 3 (aC aI (AB B line))) (eW M') (.o .h) none := by
 have e1 := aD aI B.ls
 have hL8 := V.len
 have i0 : Wd line [] [] := ⟨fun e h => (by cases h), fun l => ⟨fun h => (by cases h), fun ⟨X, h, _⟩ => (by cases h)⟩⟩
 obtain ⟨_, _, ⟨M', m, gg, hM', hFl, rfl, rfl⟩, Hc⟩ := yN V (Nt V hl) M hM [] i0 rfl
 obtain ⟨⟨hm1, hm2⟩, _⟩ := JI V hl _ [] rfl i0 hFl
 have hrow := kA B.n B.coin B.box B.ls B.cs
 have hlr : aO (fM (B.ls.getD line default)) := by simp [fM, aO, Pu]
 obtain ⟨hk, hc, ht⟩ := V.ln hl
 obtain ⟨_, _, ⟨s', g2, hF2, rfl, rfl⟩, Hi⟩ := Ne (xN M' m (jB B.n B.coin B.box B.ls B.cs) (fM (B.ls.getD line default))) SC _ _ B.n B.coin B.box B.ls B.cs V.n (B.ls.getD line default) hk hc ht (TK hrow hlr hm1 (fun a ha => by
  obtain ⟨h1, h2, h3⟩ := V.rd hl ha
  exact ⟨cJ (by omega) (by omega), cJ (by omega) (by omega), cJ (by omega) (by omega)⟩) (Jv V _)) [] (show Zf m [] [] from rfl)
 obtain ⟨hs', _⟩ := Jn _ hF2
 have hw : s' = AB B line := by
  rw [hs', List.nil_append]
  unfold AB
  refine List.filter_congr fun l _ => ?_
  rw [Bool.eq_iff_iff, decide_eq_true_iff, hm2 l, List.any_eq_true]
  exact ⟨fun ⟨X, h1, h2⟩ => ⟨X, h1, decide_eq_true h2⟩, fun ⟨X, h1, h2⟩ => ⟨X, h1, of_decide_eq_true h2⟩⟩
 rw [<- hw]
 have Hh := CallOk.hole (lg := none) (lg' := none) (r := wM) (nx := wM) (ob := bQ (some (.map (bR M'))) none none (some (.map (wU m))) (some (.cells false [.o (.mp (.o (.o .h))) 0] 1)) none none none none none none (some (.cells false [.o .ns 0] 1)) (some (.lp (wH (jB B.n B.coin B.box B.ls B.cs) (fM (B.ls.getD line default))) [p28] 36 (mG (aN Try.f91) 1) (mA (aN Try.f91) 1) .ready none)) none none none none none none none) (by
  have he : T.set wM .hole (bQ (some (.map (bR M'))) none none (some (.map (wU m))) (some (.cells false [.o (.mp (.o (.o .h))) 0] 1)) none none none none none none (some (.cells false [.o .ns 0] 1)) (some (.lp (wH (jB B.n B.coin B.box B.ls B.cs) (fM (B.ls.getD line default))) [p28] 36 (mG (aN Try.f91) 1) (mA (aN Try.f91) 1) .ready none)) none none none none none none none) = (xN M' m (jB B.n B.coin B.box B.ls B.cs) (fM (B.ls.getD line default))).base [] := rfl
  rw [he]
  exact Hi) (Nat.le_refl _) (by simp [wM, Eg, Pos.nat]) trivial
 have cR := (jN B.n B.coin B.box B.ls B.cs (B.ls.getD line default)).sub (zZ (d := .mp .h) (by simp [aO, Pu]))
 obtain ⟨v, ob', ⟨M'', hM'', rfl, rfl⟩, Hb⟩ := CallOk.runE (Φ := fun v ob' => ∃ M', MOk B M' /\ v = .lst 3 (aC aI s') /\ ob' = eW M') (ob := eW M) (nx := .o .h) (nx' := .o .h) (ds := [.ag (gJ B ++ [.mp .h]), .i .i64 (line : Int)]) XX (by simp) (Nat.le_refl _) (by
  conv => whnf
  refine Rn.le (a := ⟨(.n (.n .e (some (.i .i64 (line : Int))) .e) (some (.ag (gJ B ++ [.mp .h]))) .e), bQ (some (.map (bR M))) none none none none none none none none none none none none none none none none none none none, .o .h, none⟩) ?_ ?_
  ·unfold gJ bQ
   conv => whnf
   refine Qg ?_
   refine WCall.of (Cd (B := B) (x1 := some (.map (bR M))) (x2 := some (eH B)) (x3 := (some (.cells false [.o (.i .i64 (line : Int)) 0] 1))) (x4 := (some (.map (wU [])))) (x5 := some (.cells false [.o (.mp (.o (.o .h))) 0] 1)) ?_) ?_
   ·show TAll (fun id c => id.nat < 6 /\ KpC 6 c) _
    unfold bQ
    repeat' first | exact TAll.e | refine TAll.some ?_ ?_ ?_ | refine TAll.none ?_ ?_
    all_goals refine ⟨by simp [Pos.nat], ?_⟩
    all_goals first
     | exact dP
     | exact mD
     | exact jE B (by omega)
     | (refine KpL.all ?_; simp [KpL, Kp, Cell.d, Pu, Pos.nat])
   conv => whnf
   refine Qg ?_
   refine Rn.le (a := ⟨wsS, bQ (some (.map (bR M))) (some (eH B)) (some (.cells false [.o (.i .i64 (line : Int)) 0] 1)) (some (.map (wU []))) (some (.cells false [.o (.mp (.o (.o .h))) 0] 1)) (some (eH B)) none none none none none none none none none none none none none none, i7, none⟩) ?_ ?_
   ·refine Rn.rf rfl rfl Hc rfl (by simp) ?_
    unfold Tns.bob bQ QV wsS
    conv => whnf
    repeat' ((first | refine Qz ?_ | refine Qf cR ?_) <;> conv => whnf)
    refine Rn.le (a := ⟨wH (jB B.n B.coin B.box B.ls B.cs) (fM (B.ls.getD line default)), bQ (some (.map (bR M'))) none none (some (.map (wU m))) (some (.cells false [.o (.mp (.o (.o .h))) 0] 1)) none none none none none none (some (.cells false [.o .ns 0] 1)) none none none none none none none none, SC, none⟩) ?_ ?_
    ·refine Rn.rf rfl rfl Hh rfl (by simp) ?_
     unfold Lns.base bQ xN wH
     conv => whnf
     refine Qg ?_
     refine ⟨_, _, ⟨M', hM', rfl, rfl⟩, ⟨.inr rfl, ⟨_, rfl, ?_⟩, Shr.kp ?_ (fJ M')⟩⟩
     ·exact Ps (by simp [wM, Pos.nat]) s' rfl
     ·show T.le (T.n .e (some (.map (bR M'))) .e : T Ev.C) _
      refine T.le_some (T.le_e _) rfl (T.le_e _)
    ·refine X.le.mk ?_ ?_ (Nat.le_refl _) rfl rfl
     ·unfold wH
      repeat' first | exact T.le_refl _ | exact T.le_e _ | refine T.le_some ?_ rfl ?_ | refine T.le_same ?_ ?_ | refine T.le_none ?_ ?_
     ·unfold bQ
      repeat' first | exact T.le_refl _ | exact T.le_e _ | refine T.le_some ?_ rfl ?_ | refine T.le_same ?_ ?_ | refine T.le_none ?_ ?_
   ·refine X.le.mk ?_ ?_ (Nat.le_refl _) rfl rfl
    ·unfold wsS
     repeat' first | exact T.le_refl _ | exact T.le_e _ | refine T.le_some ?_ rfl ?_ | refine T.le_same ?_ ?_ | refine T.le_none ?_ ?_
    ·unfold bQ
     repeat' first | exact T.le_refl _ | exact T.le_e _ | refine T.le_some ?_ rfl ?_ | refine T.le_same ?_ ?_ | refine T.le_none ?_ ?_
  ·refine X.le.mk (T.le_refl _) ?_ (Nat.le_refl _) rfl rfl
   unfold bQ
   exact Lw)
 exact ⟨M'', hM'', Hb⟩
def Pm (n coin box : Int) (ls : List Ln) (cs : List Ct) (line : Int) : D :=
 if sE n coin box ls cs (fY line 0 ((ls.length : Int) - 1)) = 0 then .tp [.lst 3 (aC aI (AB (B5 n coin box ls cs) line.toNat)), .i .i64 0] else .tp [.lst 3 [], .i .i64 (sE n coin box ls cs (fY line 0 ((ls.length : Int) - 1)))]
theorem Rf (n coin box : Int) (ls : List Ln) (cs : List Ct) (line : Int) (hll : ls.length <= 1000) : PureF Try.prog p44.ix [.ag [.i .i64 n, .i .i64 coin, .i .i64 box, .lst 3 (aC aI ls), .lst 3 (aC cX cs)], .i .i64 line] (Pm n coin box ls cs line) := by
 have e1 := aD aI ls
 have cU : PureF Try.prog p86.ix [.i .i64 line, .i .i64 (((aC aI ls).length : Int) - 1)] (.b (fY line 0 ((ls.length : Int) - 1))) := by
  have := wC line (((aC aI ls).length : Int) - 1)
  rw [e1] at this ⊢
  exact this
 unfold Pm
 by_cases hE : sE n coin box ls cs (fY line 0 ((ls.length : Int) - 1)) = 0
 ·rw [if_pos hE]
  obtain ⟨hf, ht⟩ := qE hE
  have hE' := hE
  rw [ht] at hE' cU
  obtain ⟨M, hM, Hs⟩ := rB n coin box ls cs hE'
  have ha := aP.1 ht
  have V := VB.of hf
  obtain ⟨M', hM', Hb⟩ := Sp V (line := line.toNat) (show line.toNat < ls.length by omega) M hM
  rw [show ((line.toNat : Nat) : Int) = line by omega] at Hb
  refine PureF.run SB (by simp) (by simp [aO, dE, Pu, aH, aB, aE]) ?_; conv => whnf
  repeat' ((first | refine Qw ?_ | refine Qf cU ?_ | refine Qd (fun h => ?_) (fun h => ?_)) <;> conv => whnf)
  refine WCall.of (qU Hs) ?_; conv => whnf
  repeat' ((first | refine Qw ?_ | refine Qd (fun h => ?_) (fun h => ?_)) <;> conv => whnf)
  refine WCall.of (CallOk.mapAt Hb (aB _) (id := .o .h) rfl (show 2 < 4 from by decide) (jM (show aO [.i .i64 line] from ⟨trivial, trivial⟩))) ?_; conv => whnf
  repeat' ((first | refine Qw ?_ | refine Qd (fun h => ?_) (fun h => ?_)) <;> conv => whnf)
  exact ⟨.inr rfl, _, rfl, .tp (.cons (.pu (aB _)) (.cons (.pu trivial) .nil))⟩
 ·rw [if_neg hE]
  have cS := rZ n coin box ls cs _ hE
  generalize sE n coin box ls cs (fY line 0 ((ls.length : Int) - 1)) = e at hE cS ⊢
  unfold gJ B5 Rt at cS
  refine PureF.run SB (by simp) (by simp [aO, dE, Pu, aH, aB, aE]) ?_; conv => whnf
  repeat' ((first | refine Qw ?_ | refine Qf cU ?_ | refine Qf cS ?_ | refine Qd (fun h => ?_) (fun h => ?_)) <;> conv => whnf)
  all_goals first
   | (exfalso; omega)
   | exact ⟨.inr rfl, _, rfl, .tp (.cons .ns (.cons (.pu trivial) .nil))⟩
section
variable {n coin box : Int} {L T : List Ln} {C : List Ct}
theorem Ph (h0 : aS n coin box L C = 0) (hHI : HI n T L) (hC : ∀ c ∈ C, CtG box coin T c) : T ∈ pT (B5 n coin box L C) := by
 refine (jW (VB.of h0)).2 ?_
 show (iZ n L T && (dW T && vN box coin C T)) = true
 rw [hHI.rd, hHI.poss, Bool.true_and, Bool.true_and]
 unfold vN
 rw [List.all_eq_true]
 exact fun c hc => (hC c hc).r
variable (h0 : aS n coin box L C = 0) (hm : T ∈ pT (B5 n coin box L C))
include h0 hm
theorem Ap : lC (B5 n coin box L C) = true := (Cw (VB.of h0)).2 fun h => by rw [h] at hm; cases hm
theorem Rc : FV (B5 n coin box L C) = some 0 := by
 have V := VB.of h0
 have h8 : L.length <= 8 := V.len
 have hP : yG (B5 n coin box L C) 0 = true := by rw [<- Jl V]; exact Ap h0 hm
 have hpos : 0 < 2 ^ L.length := Nat.two_pow_pos _
 have c0 : fX 0 = 0 := rfl
 cases h : FV (B5 n coin box L C) with
 | none =>
   have := KQ h 0 hpos (by rw [c0]; omega)
   rw [hP] at this; cases this
 | some c =>
   obtain ⟨_, p2, p3⟩ := Iq h
   have p2 : c < 2 ^ L.length := p2
   have := p3 0 hpos hP (by rw [c0]; omega)
   have hc : fX c = 0 := by omega
   have key : ∀ c : _root_.Fin 256, fX c.1 = 0 -> c.1 = 0 := by decide +kernel
   exact congrArg some (show c = 0 from key ⟨c, LW h8 p2⟩ hc)
theorem EF : T ∈ gN (B5 n coin box L C) (B5 n coin box L C).ls.length [] := (nV (VB.of h0)).1 hm
theorem JJ : T.length = L.length := Lb (VB.of h0) hm
theorem KI : HP n coin box L = none := by
 have V := VB.of h0
 have hl := JJ h0 hm
 have hf := (jW V).1 hm
 have hf : (iZ n L T && (dW T && vN box coin C T)) = true := hf
 rw [Bool.and_eq_true, Bool.and_eq_true] at hf
 obtain ⟨r1, r2, _⟩ := hf
 refine List.find?_range_eq_none.2 fun i hi => ?_
 have hh : lC (B5 n coin box (L.take (i + 1)) []) = true := by
  have W := V.pre (i + 1)
  rw [Cw W]
  intro h
  have hmem : T.take (i + 1) ∈ pT (B5 n coin box (L.take (i + 1)) []) := by
   refine (jW W).2 ?_
   show (iZ n (L.take (i + 1)) (T.take (i + 1)) && (dW (T.take (i + 1)) && vN box coin [] (T.take (i + 1)))) = true
   have hat : ∀ j, j < i + 1 -> (T.take (i + 1)).getD j default = T.getD j default := fun j hj => SameTo.take T (i + 1) j hj
   have hal : ∀ j, j < i + 1 -> (L.take (i + 1)).getD j default = L.getD j default := fun j hj => SameTo.take L (i + 1) j hj
   have hlt : (T.take (i + 1)).length = i + 1 := by rw [List.length_take]; omega
   rw [Bool.and_eq_true, Bool.and_eq_true]
   refine ⟨?_, ?_, rfl⟩
   ·rw [Bp] at r1 ⊢
    refine ⟨by rw [hlt, List.length_take]; omega, fun j hj => ?_⟩
    rw [hat j (by omega), hal j (by omega)]
    exact r1.2 j (by omega)
   ·unfold dW at r2 ⊢
    rw [List.all_eq_true] at r2 ⊢
    intro j hj
    have hj2 : j < i + 1 := by rw [<- hlt]; exact List.mem_range.1 hj
    have hs : SameTo (j + 1) T (T.take (i + 1)) := (SameTo.take T (i + 1)).le (by omega)
    rw [oP hs]
    exact r2 j (List.mem_range.2 (by omega))
  rw [h] at hmem; cases hmem
 show (!HE n coin box L i) = true
 unfold HE
 rw [hh]; rfl
theorem Jc (k : Nat) (f : Mo -> Int) : f (fI box coin T k) ∈ eV (B5 n coin box L C) k f := List.mem_map.2 ⟨T, EF h0 hm, rfl⟩
theorem HN (k : Nat) (f : Mo -> Int) : (eV (B5 n coin box L C) k f).foldl min ((eV (B5 n coin box L C) k f).getD 0 0) <= f (fI box coin T k) /\ f (fI box coin T k) <= (eV (B5 n coin box L C) k f).foldl max ((eV (B5 n coin box L C) k f).getD 0 0) :=
 ⟨(jR _ _).2.1 _ (Jc h0 hm k f), (jX _ _).2.1 _ (Jc h0 hm k f)⟩
theorem EU {p : List Ln -> Bool} {R : List (List Ln)} (hT : T ∈ R) : (1 <= AP (Aa p R) (R.length : Int) /\ AP (Aa p R) (R.length : Int) <= 3) /\ (AP (Aa p R) (R.length : Int) = 1 -> p T = true) /\ (AP (Aa p R) (R.length : Int) = 2 -> p T = false) := by
 have hle := List.length_filter_le p R
 unfold AP Aa
 refine ⟨by split <;> (try split) <;> omega, fun h => ?_, fun h => ?_⟩
 ·by_cases e : ((R.filter p).length : Int) = (R.length : Int)
  ·exact List.length_filter_eq_length_iff.1 (by omega) T hT
  ·rw [if_neg e] at h
   split at h <;> cases h
 ·by_cases e : ((R.filter p).length : Int) = (R.length : Int)
  ·rw [if_pos e] at h; cases h
  ·rw [if_neg e] at h
   by_cases e2 : ((R.filter p).length : Int) = 0
   ·cases hp : p T with
    | false => rfl
    | true =>
      have : T ∈ R.filter p := List.mem_filter.2 ⟨hT, hp⟩
      have := List.length_pos_of_mem this
      omega
   ·rw [if_neg e2] at h; cases h
theorem QJ (k : Nat) {a : Nat} (ha : a < 4) : (1 <= yD (B5 n coin box L C) k (0 + a) /\ yD (B5 n coin box L C) k (0 + a) <= 3) /\ (yD (B5 n coin box L C) k (0 + a) = 1 -> decide (0 <= aZ T (a : Int) k) = true) /\ (yD (B5 n coin box L C) k (0 + a) = 2 -> decide (0 <= aZ T (a : Int) k) = false) := by
 have V := VB.of h0
 have h := Io V (aft := k) (x := a) (by omega) (zC (oM h0 (Ap h0 hm)))
 rw [if_pos ha] at h
 rw [Nat.zero_add, h]
 exact EU h0 hm (p := cP k (a : Int)) hm
theorem PS (k : Nat) {a : Nat} (ha : a < 4) : (1 <= yD (B5 n coin box L C) k (4 + a) /\ yD (B5 n coin box L C) k (4 + a) <= 3) /\ (yD (B5 n coin box L C) k (4 + a) = 1 -> decide (0 <= bB T (a : Int) k) = true) /\ (yD (B5 n coin box L C) k (4 + a) = 2 -> decide (0 <= bB T (a : Int) k) = false) := by
 have V := VB.of h0
 have h := Io V (aft := k) (x := 4 + a) (by omega) (zC (oM h0 (Ap h0 hm)))
 rw [if_neg (by omega), show 4 + a - 4 = a by omega] at h
 rw [h]
 exact EU h0 hm (p := tP k (a : Int)) hm
theorem QW {a : Nat} (ha : a < T.length) : T.getD a default ∈ AB (B5 n coin box L C) a := by
 have hX := fH.1 (EF h0 hm)
 refine List.mem_filter.2 ⟨fC.2 (hX.st a (Nat.zero_le _) ha).1, ?_⟩
 rw [List.any_eq_true]
 exact ⟨T, EF h0 hm, decide_eq_true rfl⟩
theorem MZ : okT (B5 n coin box L C) T := fun i hi => (fH.1 (EF h0 hm)).st i (Nat.zero_le _) hi
end
def jH (f : Nat -> Int) : Nat -> Int
 | 0 => 0
 | a + 1 => jH f a + fS (f a)
theorem xT {T : List Ln} {c : Int} : ∀ {k : Nat}, (∀ i, i < k -> (T.getD i default).c ≠ c) -> aZ T c k = -1
 | 0, _ => rfl
 | k + 1, h => by
   unfold aZ
   rw [if_neg (h k (by omega))]
   exact xT fun i hi => h i (by omega)
theorem xU {T : List Ln} {c : Int} : ∀ {k : Nat}, (∀ i, i < k -> (T.getD i default).t ≠ c) -> bB T c k = -1
 | 0, _ => rfl
 | k + 1, h => by
   unfold bB
   rw [if_neg (h k (by omega))]
   exact xU fun i hi => h i (by omega)
theorem Di (f : Nat -> Int) : ∀ a : Nat, 0 <= jH f a /\ jH f a <= a
 | 0 => by show (0 : Int) <= 0 /\ (0 : Int) <= 0; omega
 | a + 1 => by
   have := Di f a
   show 0 <= jH f a + fS (f a) /\ jH f a + fS (f a) <= ((a + 1 : Nat) : Int)
   unfold fS
   split <;> omega
theorem BB {f : Nat -> Int} {n : Nat} (h1 : 1 <= n) (h4 : n <= 4) (h : ∀ c, n <= c -> c < 4 -> f c = -1) : jH f n = fS (f 0) + fS (f 1) + fS (f 2) + fS (f 3) := by
 have z : fS (-1) = 0 := rfl
 have : n = 1 \/ n = 2 \/ n = 3 \/ n = 4 := by omega
 rcases this with rfl | rfl | rfl | rfl
 ·show 0 + fS (f 0) = _
  rw [h 1 (by omega) (by omega), h 2 (by omega) (by omega), h 3 (by omega) (by omega), z]; omega
 ·show 0 + fS (f 0) + fS (f 1) = _
  rw [h 2 (by omega) (by omega), h 3 (by omega) (by omega), z]; omega
 ·show 0 + fS (f 0) + fS (f 1) + fS (f 2) = _
  rw [h 3 (by omega) (by omega), z]; omega
 ·show 0 + fS (f 0) + fS (f 1) + fS (f 2) + fS (f 3) = _
  omega
theorem QI {n coin box : Int} {L T : List Ln} {C : List Ct} (h0 : aS n coin box L C = 0) (hm : T ∈ pT (B5 n coin box L C)) {k : Nat} (hk : k <= T.length) : cL box coin T k = box + coin * jH (fun a => aZ T (a : Int) k) n.toNat /\ jH (fun a => bB T (a : Int) k) n.toNat = jH (fun a => aZ T (a : Int) k) n.toNat := by
 have V := VB.of h0
 have hn : 1 <= n /\ n <= 4 := V.n
 have hf := (jW V).1 hm
 have hf : (iZ n L T && (dW T && vN box coin C T)) = true := hf
 rw [Bool.and_eq_true] at hf
 have r1 := (Bp.1 hf.1).2
 have rng : ∀ i, i < T.length -> (0 <= (T.getD i default).c /\ (T.getD i default).c <= n - 1) /\ (0 <= (T.getD i default).t /\ (T.getD i default).t <= n - 1) := fun i hi => by
  have := r1 i hi
  unfold MX at this
  simp only [Bool.and_eq_true, aP] at this
  exact ⟨this.2.1, this.2.2.1⟩
 obtain ⟨m1, m2⟩ := uT V (MZ h0 hm) (by rw [JJ h0 hm]; exact Nat.le_refl _) k hk
 have s1 := BB (f := fun a => aZ T (a : Int) k) (n := n.toNat) (by omega) (by omega) (fun c h1 h2 => xT fun i hi => by have := (rng i (by omega)).1; omega)
 have s2 := BB (f := fun a => bB T (a : Int) k) (n := n.toNat) (by omega) (by omega) (fun c h1 h2 => xU fun i hi => by have := (rng i (by omega)).2; omega)
 have m1 : cL box coin T k = box + coin * AA T k := m1
 have e1 : AA T k = jH (fun a => aZ T (a : Int) k) n.toNat := s1.symm
 have e2 : Ke T k = jH (fun a => bB T (a : Int) k) n.toNat := s2.symm
 exact ⟨by rw [m1, e1], by rw [<- e1, <- e2, m2]⟩
theorem Tx (x lo hi : Int) (h : lo <= x /\ x <= hi) : PureF Try.prog p56.ix [.i .i64 x, .ag [.i .i64 lo, .i .i64 hi]] (.b true) := by
 refine PureF.run WH (by simp) (by simp [aO, Pu]) ?_; conv => whnf
 repeat' ((first | refine Qw ?_ | refine Qd (fun h => ?_) (fun h => ?_)) <;> conv => whnf)
 all_goals first | exact Fin.b rfl rfl | exact Fin.b rfl (by rw [decide_eq_true (by omega)]) | (exfalso; omega)
theorem Cr (v : Int) (is : Bool) (hv : 1 <= v /\ v <= 3) (h1 : v = 1 -> is = true) (h2 : v = 2 -> is = false) : PureF Try.prog p59.ix [.i .i64 v, .b is] (.b true) := by
 have iI := nM v 1 3
 rw [show fY v 1 3 = true from aP.2 hv] at iI
 refine PureF.run Xe (by simp) (by simp [aO, Pu]) ?_; conv => whnf
 have : v = 1 \/ v = 2 \/ v = 3 := by omega
 rcases this with rfl | rfl | rfl
 ·obtain rfl := h1 rfl
  repeat' ((first | refine Qw ?_ | refine Qf iI ?_ | refine Qv ?_) <;> conv => whnf)
  all_goals first | exact Fin.b rfl rfl | (exfalso; omega)
 ·obtain rfl := h2 rfl
  repeat' ((first | refine Qw ?_ | refine Qf iI ?_ | refine Qv ?_) <;> conv => whnf)
  all_goals first | exact Fin.b rfl rfl | (exfalso; omega)
 ·cases is <;>
  repeat' ((first | refine Qw ?_ | refine Qf iI ?_ | refine Qv ?_) <;> conv => whnf)
  all_goals first | exact Fin.b rfl rfl | (exfalso; omega)
theorem HB {n coin box : Int} {ls : List Ln} {cs : List Ct} {T : List Ln} (h0 : aS n coin box ls cs = 0) (hF : bY n ls T = true) : oG n coin box ls cs T = ((List.range (T.length + 1)).map (cL box coin T), gO T T.length, 0) := by
 have hl : T.length = ls.length := by
  unfold bY at hF
  rw [Bool.and_eq_true] at hF
  exact of_decide_eq_true hF.1
 have hfo : nG box coin n ls T = uA box coin T T.length := by unfold nG; rw [hF]; rfl
 unfold oG
 rw [if_pos h0, if_pos hF, hfo, <- hl, nK (Nat.le_refl _)]
 congr 1
 refine List.map_congr_left fun q hq => ?_
 have hq := List.mem_range.1 hq
 rw [nK (by omega)]
 rfl
theorem OB (x r : Ln) : decide ([x.k, x.c, x.t] = [r.k, r.c, r.t]) = decide (x = r) := by
 obtain ⟨a, b, c⟩ := x
 obtain ⟨d, e, f⟩ := r
 rw [Bool.eq_iff_iff, decide_eq_true_iff, decide_eq_true_iff]
 simp [Ln.mk.injEq]
theorem WSt.eqLn {sl : T D} {ob : T C} {nx : Pos} {K : X -> Prop} {lg : Option (T Bool)} {d : Pos} {x y : RX} {neg : Bool} (a b : Ln) (h1 : bE sl x = some (.ag (aI a))) (h2 : bE sl y = some (.ag (aI b))) (ha : kY a) (hb : kY b) {r : Bool} (hr : (bif neg then !decide (a = b) else decide (a = b)) = r) (k : dJ sl ob nx lg d K (.b r)) : WSt (.eqr d neg [.i .i64, .i .i64, .i .i64] x y) ⟨sl, ob, nx, lg⟩ K :=
 WSt.eqrN [a.k, a.c, a.t] [b.k, b.c, b.t] h1 h2 rfl rfl (by intro y hy; simp only [List.mem_cons, List.not_mem_nil, or_false] at hy; rcases hy with rfl | rfl | rfl; exact ha.1; exact ha.2.1; exact ha.2.2) (by intro y hy; simp only [List.mem_cons, List.not_mem_nil, or_false] at hy; rcases hy with rfl | rfl | rfl; exact hb.1; exact hb.2.1; exact hb.2.2) (by rw [OB]; exact hr) k
section
variable (n coin box : Int) (ls : List Ln) (cs : List Ct) (L : List (List Ln)) (line : Nat) (R : List Ln)
end
set_option maxRecDepth 1000000
set_option maxRecDepth 100000
set_option maxRecDepth 1000000
set_option maxRecDepth 100000
theorem Bz {α : Type} {l : List α} {x d : α} (h : x ∈ l) : ∃ i, i < l.length /\ l.getD i d = x := by
 obtain ⟨i, hi, e⟩ := List.getElem_of_mem h
 exact ⟨i, hi, by simp [List.getD, hi, e]⟩
theorem Ri (A : List Ln) (x : Ln) (ha : A.length <= 1000) (hw : ∀ a ∈ A, kY a) (hx : x ∈ A) : PureF Try.prog p60.ix [.lst 3 (aC aI A), .ag (aI x)] (.b true) := by
 have e1 := aD aI A
 have hxw := hw x hx
 refine PureF.run Xr (by simp) (by simp [aO, Pu, aI, aB]) ?_; conv => whnf
 repeat' ((first | refine Qw ?_ | refine Qd (fun h => ?_) (fun h => ?_)) <;> conv => whnf)
 refine Rn.loop (fun j : Nat => ⟨(.n (.n (.n .e (some (.pt .h 0 0)) .e) none (.n .e (some (.i .i64 (j : Int))) .e)) (some (.lst 3 (aC aI A))) .e), (.n .e (some (.cells false [.o (.i .i64 x.k) 0, .o (.i .i64 x.c) 0, .o (.i .i64 x.t) 0] 1)) .e), .o .h, none⟩) (fun j => j <= A.length /\ ∀ q, q < j -> A.getD q default ≠ x) (fun j => A.length - j) 0 ?_ ?_ ?_
 ·refine X.le.mk ?_ ?_ (Nat.le_refl _) rfl rfl
  ·exact eK
  ·exact Lw
 ·exact ⟨Nat.zero_le _, fun q h => absurd h (Nat.not_lt_zero _)⟩
 rintro j ⟨hj, hno⟩
 conv => whnf
 refine Qg ?_
 refine WB.dec (fun h => ?_) (fun h => ?_) <;> conv => whnf
 ·have hlt : j < A.length := by omega
  have hwj := hw _ (bT (d := default) hlt)
  repeat' ((first | refine Qw ?_ | refine Qd (fun h => ?_) (fun h => ?_)) <;> conv => whnf)
  by_cases he : A.getD j default = x
  ·refine WSt.eqLn (A.getD j default) x (by rfl) (by rfl) hwj hxw (r := true) (show decide (A.getD j default = x) = true from decide_eq_true he) ?_; conv => whnf
   repeat' ((first | refine Qw ?_ | refine Qd (fun h => ?_) (fun h => ?_)) <;> conv => whnf)
   exact Fin.b rfl rfl
  ·refine WSt.eqLn (A.getD j default) x (by rfl) (by rfl) hwj hxw (r := false) (show decide (A.getD j default = x) = false from decide_eq_false he) ?_; conv => whnf
   repeat' ((first | refine Qw ?_ | refine Qd (fun h => ?_) (fun h => ?_)) <;> conv => whnf)
   refine Again.to (j + 1) (by omega) ⟨by omega, fun q hq => ?_⟩ (Nat.le_refl _) ?_
   ·by_cases e : q = j
    ·subst e; exact he
    ·exact hno q (by omega)
   refine Shr.of ?_ ?_ rfl rfl
   ·exact Rw
   ·(repeat' first | exact Rel.e | refine Rel.some ?_ ?_ ?_ | refine Rel.none ?_ ?_ | refine Rel.ee ?_ ?_)
    exact Ro (ShC.same (ShC.cn (.pu trivial) (ShC.cn (.pu trivial) (ShC.cn (.pu trivial) ShC.nl))))
 ·exfalso
  obtain ⟨q, hq, e⟩ := Bz (d := default) hx
  exact hno q (by omega) e
structure Finer (Bx Bb : Bk) : Prop where
 n : Bx.n = Bb.n
 coin : Bx.coin = Bb.coin
 box : Bx.box = Bb.box
 vx : VB Bx
 vb : VB Bb
 ne : gN Bx Bx.ls.length [] ≠ []
 sub : ∀ X ∈ gN Bx Bx.ls.length [], ∃ Y ∈ gN Bb Bb.ls.length [], SameTo Bb.ls.length X Y
theorem Finer.ans {Bx Bb : Bk} (F : Finer Bx Bb) {k : Nat} (hk : k <= Bb.ls.length) (f : Mo -> Int) : ∀ v ∈ eV Bx k f, v ∈ eV Bb k f := fun v hv => by
 obtain ⟨X, hX, rfl⟩ := List.mem_map.1 hv
 obtain ⟨Y, hY, hs⟩ := F.sub X hX
 refine List.mem_map.2 ⟨Y, hY, ?_⟩
 show f (fI Bb.box Bb.coin Y k) = f (fI Bx.box Bx.coin X k)
 rw [F.box, F.coin, kB (hs.le hk)]
theorem Finer.bnd {Bx Bb : Bk} (F : Finer Bx Bb) {k : Nat} (hk : k <= Bb.ls.length) (f : Mo -> Int) : (eV Bb k f).foldl min ((eV Bb k f).getD 0 0) <= (eV Bx k f).foldl min ((eV Bx k f).getD 0 0) /\ (eV Bx k f).foldl max ((eV Bx k f).getD 0 0) <= (eV Bb k f).foldl max ((eV Bb k f).getD 0 0) := by
 have g := KV (Ea (aft := k) (ak := f) F.ne)
 exact ⟨(jR _ _).2.1 _ (F.ans hk f _ g.1), (jX _ _).2.1 _ (F.ans hk f _ g.2)⟩
theorem Finer.was {Bx Bb : Bk} (F : Finer Bx Bb) {line : Nat} (hl : line < Bb.ls.length) : ∀ v ∈ AB Bx line, v ∈ AB Bb line := fun v hv => by
 obtain ⟨_, h2⟩ := List.mem_filter.1 hv
 rw [List.any_eq_true] at h2
 obtain ⟨X, hX, e⟩ := h2
 obtain ⟨Y, hY, hs⟩ := F.sub X hX
 have e : X.getD line default = v := of_decide_eq_true e
 have e2 : Y.getD line default = v := by rw [hs line hl]; exact e
 have hYe := fH.1 hY
 have hYl : Y.length = Bb.ls.length := by have := hYe.len; simpa using this
 refine List.mem_filter.2 ⟨?_, ?_⟩
 ·rw [<- e2]
  exact fC.2 (hYe.st line (Nat.zero_le _) (by omega)).1
 ·rw [List.any_eq_true]
  exact ⟨Y, hY, decide_eq_true e2⟩
def fp : T RF := (.n (.n (.n (.n (.n (.n (.n (.n .e (aA Try.prog 127) .e) (aA Try.prog 63) .e) (aA Try.prog 31) (.n (.n .e (aA Try.prog 159) .e) (aA Try.prog 95) .e)) (aA Try.prog 15) (.n (.n (.n .e (aA Try.prog 143) .e) (aA Try.prog 79) .e) (aA Try.prog 47) (.n .e (aA Try.prog 111) .e))) (aA Try.prog 7) (.n (.n (.n (.n .e (aA Try.prog 135) .e) (aA Try.prog 71) .e) (aA Try.prog 39) (.n .e (aA Try.prog 103) .e)) (aA Try.prog 23) (.n (.n (.n .e (aA Try.prog 151) .e) (aA Try.prog 87) .e) (aA Try.prog 55) (.n .e (aA Try.prog 119) .e)))) (aA Try.prog 3) (.n (.n (.n (.n (.n .e (aA Try.prog 131) .e) (aA Try.prog 67) .e) (aA Try.prog 35) (.n (.n .e (aA Try.prog 163) .e) (aA Try.prog 99) .e)) (aA Try.prog 19) (.n (.n (.n .e (aA Try.prog 147) .e) (aA Try.prog 83) .e) (aA Try.prog 51) (.n .e (aA Try.prog 115) .e))) (aA Try.prog 11) (.n (.n (.n (.n .e (aA Try.prog 139) .e) (aA Try.prog 75) .e) (aA Try.prog 43) (.n .e (aA Try.prog 107) .e)) (aA Try.prog 27) (.n (.n (.n .e (aA Try.prog 155) .e) (aA Try.prog 91) .e) (aA Try.prog 59) (.n .e (aA Try.prog 123) .e))))) none (.n (.n (.n (.n (.n (.n .e (aA Try.prog 129) .e) (aA Try.prog 65) .e) (aA Try.prog 33) (.n (.n .e (aA Try.prog 161) .e) (aA Try.prog 97) .e)) (aA Try.prog 17) (.n (.n (.n .e (aA Try.prog 145) .e) (aA Try.prog 81) .e) (aA Try.prog 49) (.n .e (aA Try.prog 113) .e))) (aA Try.prog 9) (.n (.n (.n (.n .e (aA Try.prog 137) .e) (aA Try.prog 73) .e) (aA Try.prog 41) (.n .e (aA Try.prog 105) .e)) (aA Try.prog 25) (.n (.n (.n .e (aA Try.prog 153) .e) (aA Try.prog 89) .e) (aA Try.prog 57) (.n .e (aA Try.prog 121) .e)))) (aA Try.prog 5) (.n (.n (.n (.n (.n .e (aA Try.prog 133) .e) (aA Try.prog 69) .e) (aA Try.prog 37) (.n (.n .e (aA Try.prog 165) .e) (aA Try.prog 101) .e)) (aA Try.prog 21) (.n (.n (.n .e (aA Try.prog 149) .e) (aA Try.prog 85) .e) (aA Try.prog 53) (.n .e (aA Try.prog 117) .e))) (aA Try.prog 13) (.n (.n (.n (.n .e (aA Try.prog 141) .e) (aA Try.prog 77) .e) (aA Try.prog 45) (.n .e (aA Try.prog 109) .e)) (aA Try.prog 29) (.n (.n (.n .e (aA Try.prog 157) .e) (aA Try.prog 93) .e) (aA Try.prog 61) (.n .e (aA Try.prog 125) .e)))))) none (.n (.n (.n (.n (.n (.n (.n .e (aA Try.prog 128) .e) (aA Try.prog 64) .e) (aA Try.prog 32) (.n (.n .e (aA Try.prog 160) .e) (aA Try.prog 96) .e)) (aA Try.prog 16) (.n (.n (.n .e (aA Try.prog 144) .e) (aA Try.prog 80) .e) (aA Try.prog 48) (.n .e (aA Try.prog 112) .e))) (aA Try.prog 8) (.n (.n (.n (.n .e (aA Try.prog 136) .e) (aA Try.prog 72) .e) (aA Try.prog 40) (.n .e (aA Try.prog 104) .e)) (aA Try.prog 24) (.n (.n (.n .e (aA Try.prog 152) .e) (aA Try.prog 88) .e) (aA Try.prog 56) (.n .e (aA Try.prog 120) .e)))) (aA Try.prog 4) (.n (.n (.n (.n (.n .e (aA Try.prog 132) .e) (aA Try.prog 68) .e) (aA Try.prog 36) (.n (.n .e (aA Try.prog 164) .e) (aA Try.prog 100) .e)) (aA Try.prog 20) (.n (.n (.n .e (aA Try.prog 148) .e) (aA Try.prog 84) .e) (aA Try.prog 52) (.n .e (aA Try.prog 116) .e))) (aA Try.prog 12) (.n (.n (.n (.n .e (aA Try.prog 140) .e) (aA Try.prog 76) .e) (aA Try.prog 44) (.n .e (aA Try.prog 108) .e)) (aA Try.prog 28) (.n (.n (.n .e (aA Try.prog 156) .e) (aA Try.prog 92) .e) (aA Try.prog 60) (.n .e (aA Try.prog 124) .e))))) none (.n (.n (.n (.n (.n (.n .e (aA Try.prog 130) .e) (aA Try.prog 66) .e) (aA Try.prog 34) (.n (.n .e (aA Try.prog 162) .e) (aA Try.prog 98) .e)) (aA Try.prog 18) (.n (.n (.n .e (aA Try.prog 146) .e) (aA Try.prog 82) .e) (aA Try.prog 50) (.n .e (aA Try.prog 114) .e))) (aA Try.prog 10) (.n (.n (.n (.n .e (aA Try.prog 138) .e) (aA Try.prog 74) .e) (aA Try.prog 42) (.n .e (aA Try.prog 106) .e)) (aA Try.prog 26) (.n (.n (.n .e (aA Try.prog 154) .e) (aA Try.prog 90) .e) (aA Try.prog 58) (.n .e (aA Try.prog 122) .e)))) (aA Try.prog 6) (.n (.n (.n (.n (.n .e (aA Try.prog 134) .e) (aA Try.prog 70) .e) (aA Try.prog 38) (.n .e (aA Try.prog 102) .e)) (aA Try.prog 22) (.n (.n (.n .e (aA Try.prog 150) .e) (aA Try.prog 86) .e) (aA Try.prog 54) (.n .e (aA Try.prog 118) .e))) (aA Try.prog 14) (.n (.n (.n (.n .e (aA Try.prog 142) .e) (aA Try.prog 78) .e) (aA Try.prog 46) (.n .e (aA Try.prog 110) .e)) (aA Try.prog 30) (.n (.n (.n .e (aA Try.prog 158) .e) (aA Try.prog 94) .e) (aA Try.prog 62) (.n .e (aA Try.prog 126) .e)))))))
set_option maxRecDepth 100000 in
theorem If : FPok Try.prog fp := FPok.of (TabOk.n TabOk.no (TabOk.n TabOk.no (TabOk.n TabOk.at (TabOk.n TabOk.at (TabOk.n TabOk.at (TabOk.n TabOk.at (TabOk.n TabOk.at (TabOk.n TabOk.at TabOk.e TabOk.e) TabOk.e) (TabOk.n TabOk.at (TabOk.n TabOk.at TabOk.e TabOk.e) TabOk.e)) (TabOk.n TabOk.at (TabOk.n TabOk.at (TabOk.n TabOk.at TabOk.e TabOk.e) TabOk.e) (TabOk.n TabOk.at TabOk.e TabOk.e))) (TabOk.n TabOk.at (TabOk.n TabOk.at (TabOk.n TabOk.at (TabOk.n TabOk.at TabOk.e TabOk.e) TabOk.e) (TabOk.n TabOk.at TabOk.e TabOk.e)) (TabOk.n TabOk.at (TabOk.n TabOk.at (TabOk.n TabOk.at TabOk.e TabOk.e) TabOk.e) (TabOk.n TabOk.at TabOk.e TabOk.e)))) (TabOk.n TabOk.at (TabOk.n TabOk.at (TabOk.n TabOk.at (TabOk.n TabOk.at (TabOk.n TabOk.at TabOk.e TabOk.e) TabOk.e) (TabOk.n TabOk.at (TabOk.n TabOk.at TabOk.e TabOk.e) TabOk.e)) (TabOk.n TabOk.at (TabOk.n TabOk.at (TabOk.n TabOk.at TabOk.e TabOk.e) TabOk.e) (TabOk.n TabOk.at TabOk.e TabOk.e))) (TabOk.n TabOk.at (TabOk.n TabOk.at (TabOk.n TabOk.at (TabOk.n TabOk.at TabOk.e TabOk.e) TabOk.e) (TabOk.n TabOk.at TabOk.e TabOk.e)) (TabOk.n TabOk.at (TabOk.n TabOk.at (TabOk.n TabOk.at TabOk.e TabOk.e) TabOk.e) (TabOk.n TabOk.at TabOk.e TabOk.e))))) (TabOk.n TabOk.at (TabOk.n TabOk.at (TabOk.n TabOk.at (TabOk.n TabOk.at (TabOk.n TabOk.at (TabOk.n TabOk.at TabOk.e TabOk.e) TabOk.e) (TabOk.n TabOk.at (TabOk.n TabOk.at TabOk.e TabOk.e) TabOk.e)) (TabOk.n TabOk.at (TabOk.n TabOk.at (TabOk.n TabOk.at TabOk.e TabOk.e) TabOk.e) (TabOk.n TabOk.at TabOk.e TabOk.e))) (TabOk.n TabOk.at (TabOk.n TabOk.at (TabOk.n TabOk.at (TabOk.n TabOk.at TabOk.e TabOk.e) TabOk.e) (TabOk.n TabOk.at TabOk.e TabOk.e)) (TabOk.n TabOk.at (TabOk.n TabOk.at (TabOk.n TabOk.at TabOk.e TabOk.e) TabOk.e) (TabOk.n TabOk.at TabOk.e TabOk.e)))) (TabOk.n TabOk.at (TabOk.n TabOk.at (TabOk.n TabOk.at (TabOk.n TabOk.at (TabOk.n TabOk.at TabOk.e TabOk.e) TabOk.e) (TabOk.n TabOk.at (TabOk.n TabOk.at TabOk.e TabOk.e) TabOk.e)) (TabOk.n TabOk.at (TabOk.n TabOk.at (TabOk.n TabOk.at TabOk.e TabOk.e) TabOk.e) (TabOk.n TabOk.at TabOk.e TabOk.e))) (TabOk.n TabOk.at (TabOk.n TabOk.at (TabOk.n TabOk.at (TabOk.n TabOk.at TabOk.e TabOk.e) TabOk.e) (TabOk.n TabOk.at TabOk.e TabOk.e)) (TabOk.n TabOk.at (TabOk.n TabOk.at (TabOk.n TabOk.at TabOk.e TabOk.e) TabOk.e) (TabOk.n TabOk.at TabOk.e TabOk.e)))))) (TabOk.n TabOk.no (TabOk.n TabOk.at (TabOk.n TabOk.at (TabOk.n TabOk.at (TabOk.n TabOk.at (TabOk.n TabOk.at (TabOk.n TabOk.at TabOk.e TabOk.e) TabOk.e) (TabOk.n TabOk.at (TabOk.n TabOk.at TabOk.e TabOk.e) TabOk.e)) (TabOk.n TabOk.at (TabOk.n TabOk.at (TabOk.n TabOk.at TabOk.e TabOk.e) TabOk.e) (TabOk.n TabOk.at TabOk.e TabOk.e))) (TabOk.n TabOk.at (TabOk.n TabOk.at (TabOk.n TabOk.at (TabOk.n TabOk.at TabOk.e TabOk.e) TabOk.e) (TabOk.n TabOk.at TabOk.e TabOk.e)) (TabOk.n TabOk.at (TabOk.n TabOk.at (TabOk.n TabOk.at TabOk.e TabOk.e) TabOk.e) (TabOk.n TabOk.at TabOk.e TabOk.e)))) (TabOk.n TabOk.at (TabOk.n TabOk.at (TabOk.n TabOk.at (TabOk.n TabOk.at (TabOk.n TabOk.at TabOk.e TabOk.e) TabOk.e) (TabOk.n TabOk.at (TabOk.n TabOk.at TabOk.e TabOk.e) TabOk.e)) (TabOk.n TabOk.at (TabOk.n TabOk.at (TabOk.n TabOk.at TabOk.e TabOk.e) TabOk.e) (TabOk.n TabOk.at TabOk.e TabOk.e))) (TabOk.n TabOk.at (TabOk.n TabOk.at (TabOk.n TabOk.at (TabOk.n TabOk.at TabOk.e TabOk.e) TabOk.e) (TabOk.n TabOk.at TabOk.e TabOk.e)) (TabOk.n TabOk.at (TabOk.n TabOk.at (TabOk.n TabOk.at TabOk.e TabOk.e) TabOk.e) (TabOk.n TabOk.at TabOk.e TabOk.e))))) (TabOk.n TabOk.at (TabOk.n TabOk.at (TabOk.n TabOk.at (TabOk.n TabOk.at (TabOk.n TabOk.at (TabOk.n TabOk.at TabOk.e TabOk.e) TabOk.e) (TabOk.n TabOk.at (TabOk.n TabOk.at TabOk.e TabOk.e) TabOk.e)) (TabOk.n TabOk.at (TabOk.n TabOk.at (TabOk.n TabOk.at TabOk.e TabOk.e) TabOk.e) (TabOk.n TabOk.at TabOk.e TabOk.e))) (TabOk.n TabOk.at (TabOk.n TabOk.at (TabOk.n TabOk.at (TabOk.n TabOk.at TabOk.e TabOk.e) TabOk.e) (TabOk.n TabOk.at TabOk.e TabOk.e)) (TabOk.n TabOk.at (TabOk.n TabOk.at (TabOk.n TabOk.at TabOk.e TabOk.e) TabOk.e) (TabOk.n TabOk.at TabOk.e TabOk.e)))) (TabOk.n TabOk.at (TabOk.n TabOk.at (TabOk.n TabOk.at (TabOk.n TabOk.at (TabOk.n TabOk.at TabOk.e TabOk.e) TabOk.e) (TabOk.n TabOk.at TabOk.e TabOk.e)) (TabOk.n TabOk.at (TabOk.n TabOk.at (TabOk.n TabOk.at TabOk.e TabOk.e) TabOk.e) (TabOk.n TabOk.at TabOk.e TabOk.e))) (TabOk.n TabOk.at (TabOk.n TabOk.at (TabOk.n TabOk.at (TabOk.n TabOk.at TabOk.e TabOk.e) TabOk.e) (TabOk.n TabOk.at TabOk.e TabOk.e)) (TabOk.n TabOk.at (TabOk.n TabOk.at (TabOk.n TabOk.at TabOk.e TabOk.e) TabOk.e) (TabOk.n TabOk.at TabOk.e TabOk.e)))))))
def Zx : Pos := (.o (.i (.i (.o .h))))
def Zm : Pos := (.o (.o (.o (.o (.o (.o (.o (.o (.o (.o (.o (.o (.o (.o .h))))))))))))))
def Zu : Pos := (.o (.o (.o (.o (.o (.o (.o (.o (.o (.o (.o (.o (.o (.o (.o (.o .h))))))))))))))))
def ZA : T RF := (.n (.n (.n (.n (.n (.n (.n (.n .e (aA Try.prog 127) .e) (aA Try.prog 63) .e) (aA Try.prog 31) (.n (.n .e (aA Try.prog 159) .e) (aA Try.prog 95) .e)) (aA Try.prog 15) (.n (.n (.n .e (aA Try.prog 143) .e) (aA Try.prog 79) .e) (aA Try.prog 47) (.n .e (aA Try.prog 111) .e))) (aA Try.prog 7) (.n (.n (.n (.n .e (aA Try.prog 135) .e) (aA Try.prog 71) .e) (aA Try.prog 39) (.n .e (aA Try.prog 103) .e)) (aA Try.prog 23) (.n (.n (.n .e (aA Try.prog 151) .e) (aA Try.prog 87) .e) (aA Try.prog 55) (.n .e (aA Try.prog 119) .e)))) (aA Try.prog 3) (.n (.n (.n (.n (.n .e (aA Try.prog 131) .e) (aA Try.prog 67) .e) (aA Try.prog 35) (.n (.n .e (aA Try.prog 163) .e) (aA Try.prog 99) .e)) (aA Try.prog 19) (.n (.n (.n .e (aA Try.prog 147) .e) (aA Try.prog 83) .e) (aA Try.prog 51) (.n .e (aA Try.prog 115) .e))) (aA Try.prog 11) (.n (.n (.n (.n .e (aA Try.prog 139) .e) (aA Try.prog 75) .e) (aA Try.prog 43) (.n .e (aA Try.prog 107) .e)) (aA Try.prog 27) (.n (.n (.n .e (aA Try.prog 155) .e) (aA Try.prog 91) .e) (aA Try.prog 59) (.n .e (aA Try.prog 123) .e))))) none (.n (.n (.n (.n (.n (.n .e (aA Try.prog 129) .e) (aA Try.prog 65) .e) (aA Try.prog 33) (.n (.n .e (aA Try.prog 161) .e) (aA Try.prog 97) .e)) (aA Try.prog 17) (.n (.n (.n .e (aA Try.prog 145) .e) (aA Try.prog 81) .e) (aA Try.prog 49) (.n .e (aA Try.prog 113) .e))) (aA Try.prog 9) (.n (.n (.n (.n .e (aA Try.prog 137) .e) (aA Try.prog 73) .e) (aA Try.prog 41) (.n .e (aA Try.prog 105) .e)) (aA Try.prog 25) (.n (.n (.n .e (aA Try.prog 153) .e) (aA Try.prog 89) .e) (aA Try.prog 57) (.n .e (aA Try.prog 121) .e)))) (aA Try.prog 5) (.n (.n (.n (.n (.n .e (aA Try.prog 133) .e) (aA Try.prog 69) .e) (aA Try.prog 37) (.n (.n .e (aA Try.prog 165) .e) (aA Try.prog 101) .e)) (some Za) (.n (.n (.n .e (aA Try.prog 149) .e) (aA Try.prog 85) .e) (aA Try.prog 53) (.n .e (aA Try.prog 117) .e))) (aA Try.prog 13) (.n (.n (.n (.n .e (aA Try.prog 141) .e) (aA Try.prog 77) .e) (aA Try.prog 45) (.n .e (aA Try.prog 109) .e)) (aA Try.prog 29) (.n (.n (.n .e (aA Try.prog 157) .e) (aA Try.prog 93) .e) (aA Try.prog 61) (.n .e (aA Try.prog 125) .e)))))) none (.n (.n (.n (.n (.n (.n (.n .e (aA Try.prog 128) .e) (aA Try.prog 64) .e) (aA Try.prog 32) (.n (.n .e (aA Try.prog 160) .e) (aA Try.prog 96) .e)) (aA Try.prog 16) (.n (.n (.n .e (aA Try.prog 144) .e) (aA Try.prog 80) .e) (aA Try.prog 48) (.n .e (aA Try.prog 112) .e))) (aA Try.prog 8) (.n (.n (.n (.n .e (aA Try.prog 136) .e) (aA Try.prog 72) .e) (aA Try.prog 40) (.n .e (aA Try.prog 104) .e)) (aA Try.prog 24) (.n (.n (.n .e (aA Try.prog 152) .e) (aA Try.prog 88) .e) (aA Try.prog 56) (.n .e (aA Try.prog 120) .e)))) (aA Try.prog 4) (.n (.n (.n (.n (.n .e (aA Try.prog 132) .e) (aA Try.prog 68) .e) (aA Try.prog 36) (.n (.n .e (aA Try.prog 164) .e) (aA Try.prog 100) .e)) (aA Try.prog 20) (.n (.n (.n .e (aA Try.prog 148) .e) (aA Try.prog 84) .e) (aA Try.prog 52) (.n .e (aA Try.prog 116) .e))) (aA Try.prog 12) (.n (.n (.n (.n .e (aA Try.prog 140) .e) (aA Try.prog 76) .e) (aA Try.prog 44) (.n .e (aA Try.prog 108) .e)) (aA Try.prog 28) (.n (.n (.n .e (aA Try.prog 156) .e) (aA Try.prog 92) .e) (aA Try.prog 60) (.n .e (aA Try.prog 124) .e))))) none (.n (.n (.n (.n (.n (.n .e (aA Try.prog 130) .e) (aA Try.prog 66) .e) (aA Try.prog 34) (.n (.n .e (aA Try.prog 162) .e) (aA Try.prog 98) .e)) (aA Try.prog 18) (.n (.n (.n .e (aA Try.prog 146) .e) (aA Try.prog 82) .e) (aA Try.prog 50) (.n .e (aA Try.prog 114) .e))) (aA Try.prog 10) (.n (.n (.n (.n .e (aA Try.prog 138) .e) (aA Try.prog 74) .e) (aA Try.prog 42) (.n .e (aA Try.prog 106) .e)) (aA Try.prog 26) (.n (.n (.n .e (aA Try.prog 154) .e) (aA Try.prog 90) .e) (aA Try.prog 58) (.n .e (aA Try.prog 122) .e)))) (aA Try.prog 6) (.n (.n (.n (.n (.n .e (aA Try.prog 134) .e) (aA Try.prog 70) .e) (aA Try.prog 38) (.n .e (aA Try.prog 102) .e)) (aA Try.prog 22) (.n (.n (.n .e (aA Try.prog 150) .e) (aA Try.prog 86) .e) (aA Try.prog 54) (.n .e (aA Try.prog 118) .e))) (aA Try.prog 14) (.n (.n (.n (.n .e (aA Try.prog 142) .e) (aA Try.prog 78) .e) (aA Try.prog 46) (.n .e (aA Try.prog 110) .e)) (aA Try.prog 30) (.n (.n (.n .e (aA Try.prog 158) .e) (aA Try.prog 94) .e) (aA Try.prog 62) (.n .e (aA Try.prog 126) .e)))))))
def Rr : Code := match Try.f21.body with
 | some c => c
 | none => .skip
def Ol : T Unit := (.n (.n (.n .e (some ()) .e) (some ()) (.n .e (some ()) .e)) (some ()) (.n (.n .e (some ()) .e) (some ()) (.n .e none (.n .e (some ()) .e))))
def NW : T Unit := (.n (.n .e none (.n (.n (.n .e none (.n (.n .e none (.n (.n (.n .e (some ()) .e) none .e) none .e)) none .e)) none .e) none (.n .e none (.n .e none (.n (.n (.n .e none (.n (.n (.n .e (some ()) .e) none .e) none .e)) none .e) none .e))))) none (.n (.n (.n .e none (.n (.n .e none (.n .e none (.n .e none (.n (.n .e none (.n .e (some ()) .e)) none .e)))) none .e)) none .e) none .e))
def ND : X := ⟨(.n (.n (.n .e (some (.sl (.o (.i (.i (.i (.i (.o (.o (.i (.o (.o .h)))))))))) 0 3 2 1)) .e) (some (.sl (.o (.i (.o (.o (.i (.o (.i (.o (.o .h))))))))) 0 1 0 3)) (.n .e (some (.i .i64 (.ofNat 0))) .e)) (some (.b false)) (.n (.n .e (some (.sl (.i (.o (.o (.i (.o (.i (.i (.i (.o (.i .h)))))))))) 0 3 2 1)) .e) (some (.i .i64 (.ofNat 0))) (.n .e none (.n .e (some (.tp [(.sl (.o (.i (.o (.o (.i (.o (.i (.o (.o .h))))))))) 0 1 0 3), (.i .i64 (.ofNat 0))])) .e)))), (.n (.n .e none (.n (.n (.n .e none (.n (.n .e none (.n (.n (.n .e (some (.cells false [(.o (.i .i64 (.ofNat 2)) 0), (.o (.i .i64 (.ofNat 0)) 0), (.o (.i .i64 (.ofNat 1)) 0)] 1)) .e) none .e) none .e)) none .e)) none .e) none (.n .e none (.n .e none (.n (.n (.n .e none (.n (.n (.n .e (some (.cells false [(.o (.i .i64 (.ofNat 1)) 0), (.o (.i .i64 (.ofNat 1)) 1), (.o (.i .i64 (.ofNat 2)) 2)] 3)) .e) none .e) none .e)) none .e) none .e))))) none (.n (.n (.n .e none (.n (.n .e none (.n .e none (.n .e none (.n (.n .e none (.n .e (some (.cells false [(.o (.i .i64 (.ofNat 1)) 0), (.o (.i .i64 (.ofNat 2)) 1), (.o (.i .i64 (.ofNat 1)) 2)] 3)) .e)) none .e)))) none .e)) none .e) none .e)), (.o (.o (.o (.o (.i (.i (.i (.o (.o (.o (.o .h))))))))))), none⟩
set_option maxRecDepth 1000000 in
theorem Sy : Wm Ol NW (exec Try.prog fp 100000 (aT Try.prog Try.f21.ntmps (Code.pre 3 Rr)) ⟨.e, .e, .h, none⟩) = some ND := by kernel_rfl
def Pk : T Unit := (.n (.n (.n (.n .e (some ()) .e) (some ()) .e) (some ()) (.n (.n .e (some ()) .e) (some ()) .e)) (some ()) (.n (.n (.n .e (some ()) .e) (some ()) .e) (some ()) (.n .e (some ()) (.n .e (some ()) .e))))
def PR : T Unit := (.n (.n .e none (.n (.n (.n .e none (.n (.n .e none (.n (.n (.n .e (some ()) .e) none .e) none .e)) none .e)) none .e) none (.n .e none (.n .e none (.n (.n (.n .e none (.n (.n (.n .e (some ()) .e) none .e) none .e)) none .e) none .e))))) none (.n (.n (.n .e none (.n (.n .e none (.n .e none (.n .e none (.n (.n .e none (.n .e (some ()) .e)) none .e)))) none (.n .e none (.n .e none (.n (.n (.n (.n .e none (.n .e (some ()) .e)) none .e) none .e) none .e))))) none .e) none (.n .e none (.n (.n .e none (.n .e none (.n (.n .e none (.n (.n .e none (.n (.n .e (some ()) .e) none .e)) none .e)) none .e))) none .e))))
def No : X := ⟨(.n (.n (.n (.n .e (some (.i .i64 (.ofNat 0))) .e) (some (.sl (.o (.i (.i (.i (.i (.o (.o (.i (.o (.o .h)))))))))) 0 3 2 1)) .e) (some (.sl (.o (.i (.o (.o (.i (.o (.i (.o (.o .h))))))))) 0 1 0 3)) (.n (.n .e (some (.i .i64 (.ofNat 0))) .e) (some (.i .i64 (.ofNat 0))) .e)) (some (.b false)) (.n (.n (.n .e (some (.pt (.i (.o (.o (.i (.i (.i (.i (.o (.o (.o (.i .h))))))))))) 0 0)) .e) (some (.sl (.i (.o (.o (.i (.o (.i (.i (.i (.o (.i .h)))))))))) 0 3 2 1)) .e) (some (.i .i64 (.ofNat 0))) (.n .e (some (.pt (.i (.i (.i (.o (.i (.i (.o (.i (.o (.i (.o .h))))))))))) 0 0)) (.n .e (some (.tp [(.sl (.o (.i (.o (.o (.i (.o (.i (.o (.o .h))))))))) 0 1 0 3), (.i .i64 (.ofNat 0))])) .e)))), (.n (.n .e none (.n (.n (.n .e none (.n (.n .e none (.n (.n (.n .e (some (.cells false [(.o (.i .i64 (.ofNat 2)) 0), (.o (.i .i64 (.ofNat 0)) 0), (.o (.i .i64 (.ofNat 1)) 0)] 1)) .e) none .e) none .e)) none .e)) none .e) none (.n .e none (.n .e none (.n (.n (.n .e none (.n (.n (.n .e (some (.cells false [(.o (.i .i64 (.ofNat 1)) 0), (.o (.i .i64 (.ofNat 1)) 1), (.o (.i .i64 (.ofNat 2)) 2)] 3)) .e) none .e) none .e)) none .e) none .e))))) none (.n (.n (.n .e none (.n (.n .e none (.n .e none (.n .e none (.n (.n .e none (.n .e (some (.cells false [(.o (.i .i64 (.ofNat 1)) 0), (.o (.i .i64 (.ofNat 2)) 1), (.o (.i .i64 (.ofNat 1)) 2)] 3)) .e)) none .e)))) none (.n .e none (.n .e none (.n (.n (.n (.n .e none (.n .e (some (.cells false [(.o (.i .i64 (.ofNat 0)) 0), (.o (.i .i64 (.ofNat 1)) 0)] 1)) .e)) none .e) none .e) none .e))))) none .e) none (.n .e none (.n (.n .e none (.n .e none (.n (.n .e none (.n (.n .e none (.n (.n .e (some (.cells false [(.o (.i .i64 (.ofNat 30)) 0), (.o (.i .i64 (.ofNat 30)) 0)] 1)) .e) none .e)) none .e)) none .e))) none .e)))), (.o (.i (.o (.i (.i (.i (.i (.o (.o (.o (.i .h))))))))))), none⟩
theorem TH : Wm Pk PR (exec Try.prog fp 100000 (aT Try.prog Try.f21.ntmps (Code.pre 2 (Code.suf 3 Rr))) ND) = some No := by kernel_rfl
theorem SI : Kc Try.prog fp 100000 Try.f21.ntmps (Code.suf 5 Rr) No .h = true := by kernel_rfl
theorem t21 : TrueCall Try.prog 21 := by
 refine TrueCall.of_body (s := .h) (c := Rr) Try.func21 (by kernel_rfl) (by kernel_rfl) (by kernel_rfl) ?_
 obtain ⟨e, Z, h1, h2, h3⟩ := LH If SI
 exact ⟨e, Z, zF If Sy (zF If TH (by rw [show Code.suf 2 (Code.suf 3 Rr) = Code.suf 5 Rr from by kernel_rfl]; exact h1)), h2, h3⟩
end Go.Ev
end
