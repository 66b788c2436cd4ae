import Derived.Test.YtjgbfnciedkafaaEvUNk
import Derived.Test.YtjgbfnciedkafaaEvUJe
import Derived.Test.YtjgbfnciedkafaaEvUHa
import Derived.Test.YtjgbfnciedkafaaEvUDs
import Derived.Test.YtjgbfnciedkafaaProg
set_option linter.all false
set_option maxHeartbeats 8000000
noncomputable section
namespace Go.Ev
open Go.Proofs
set_option maxRecDepth 100000
def Vr : Pos := .o (.o (.i .h))
def Us : Pos := .i (.o (.i .h))
def Hk : List Ln -> D
 | [] => .ns
 | _ :: s => .sl wP 0 (s.length + 1) s.length 3
def Hn : List Ln -> Option Ev.C
 | [] => some .hole
 | a :: s => some (.cells false ((BU (a :: s)).map fun d => Cell.o d s.length) (s.length + 1))
def uY (row lrow : List D) : T D := (.n (.n (.n (.n .e (some (.pt Vr 0 0)) .e) none .e) none (.n .e (some (.pt (.i (.o .h)) 0 0)) .e)) none (.n .e none (.n (.n .e none (.n .e (some (.fn p135 [] [.pl row 0, .pl lrow 0])) .e)) none .e)))
def xP (M : dN) (m : Ef) (row lrow : List D) : Lns (List Ln) where
 o := fun i s => match i with
   | 1 => some (.map (bT M))
   | 4 => some (.map (vH m))
   | 5 => some (.cells false [.o (.mp (.o (.o .h))) 0] 1)
   | 12 => some (.cells false [.o (Hk s) 0] 1)
   | 13 => some (.lp (uY row lrow) [p28] 36 (mB (aN Try.f91) 1) (mQ (aN Try.f91) 1) .ready none)
   | 14 => Hn s
   | _ => none
theorem xD {row lrow : List D} (h1 : aO row) (h2 : aO lrow) : ∀ s d, (uY row lrow).get s = some d -> Kp 13 d := by
 show TAll (fun _ d => Kp 13 d) _
 unfold uY
 repeat' first | exact TAll.e | refine TAll.some ?_ ?_ ?_ | refine TAll.none ?_ ?_
 all_goals simp [Kp, KpL, Pu, aO, h1, h2, Vr, Pos.nat]
def Zg (m : Ef) (h s : List Ln) : Prop := s = h.filter fun l => decide ((l, true) ∈ m)
def Vq (m : Ef) (s : List Ln) (a : Ln) (s' : List Ln) (g : Bool) : Prop := g = true /\ s' = s ++ bif decide ((a, true) ∈ m) then [a] else []
section
variable {M : dN} {m : Ef} {row lrow : List D} (h1 : aO row) (h2 : aO lrow)
include h1 h2
theorem Ns (s : List Ln) : KpO 18 ((xP M m row lrow).base s) := by
 show TAll (fun id c => id.nat < 18 /\ KpC 18 c) _
 cases s with
 | nil =>
   unfold Lns.base bQ xP Hn Hk
   repeat' first | exact TAll.e | refine TAll.some ?_ ?_ ?_ | refine TAll.none ?_ ?_
   all_goals refine ⟨by simp [Pos.nat], ?_⟩
   all_goals first
    | exact dP
    | exact mJ
    | exact fun s d h => (xD h1 h2 s d h).up (by omega)
    | trivial
    | (refine KpL.all ?_; simp [KpL, Kp, Cell.d, Pu, Pos.nat])
 | cons a s =>
   unfold Lns.base bQ xP Hn Hk
   repeat' first | exact TAll.e | refine TAll.some ?_ ?_ ?_ | refine TAll.none ?_ ?_
   all_goals refine ⟨by simp [Pos.nat], ?_⟩
   all_goals first
    | exact dP
    | exact mJ
    | exact fun s d h => (xD h1 h2 s d h).up (by omega)
    | exact JD _ _ _ _
    | (refine KpL.all ?_; simp [KpL, Kp, Cell.d, Pu, wP, Pos.nat])
end
def Wd (x1 x2 x3 x4 x5 x6 x7 x8 x9 x10 x11 x12 x13 x14 x15 x16 x17 x18 x19 x20 x23 : Option Ev.C) : T Ev.C := .n (.n (.n (.n (.n .e x16 .e) x8 .e) x4 (.n (.n .e x20 .e) x12 .e)) x2 (.n (.n (.n .e x18 .e) x10 .e) x6 (.n .e x14 .e))) x1 (.n (.n (.n (.n .e x17 .e) x9 .e) x5 (.n .e x13 .e)) x3 (.n (.n (.n .e x19 .e) x11 .e) x7 (.n (.n .e x23 .e) x15 .e)))
def YX : Pos := .o (.o (.o (.i .h)))
section
variable {M : dN} {m : Ef} {row lrow : List D} (h1 : aO row) (h2 : aO lrow)
include h1 h2
theorem IZ : KpC 14 (.lp (uY row lrow) [p28] 36 (mB (aN Try.f91) 1) (mQ (aN Try.f91) 1) .ready none) := fun s d h => (xD h1 h2 s d h).up (by omega)
theorem TO {n : Int} {l : Ln} (hm : ∀ e ∈ m, kS e.1 /\ e.2 = true) (hwf : ∀ a, Ay n l a = true -> kS a) (hlen : (mY n l).length <= 1000) : LnsOk (xP M m row lrow) Us (Zg m) (Vq m) n l := by
 refine ⟨by simp [Us, Pos.nat], fun s => Ns h1 h2 s, ?_, ?_⟩
 ·rintro h s a s' _ hI ⟨_, rfl⟩
  have hI : s = h.filter fun l => decide ((l, true) ∈ m) := hI
  show s ++ _ = (h ++ [a]).filter _
  rw [hI, List.filter_append]
  cases hd : decide ((a, true) ∈ m) with
  | true => rw [List.filter_cons_of_pos (by exact hd)]; rfl
  | false => rw [List.filter_cons_of_neg (by rw [hd]; simp)]; rfl
 ·intro h s hI a hpre sl d K k
  have hI : s = h.filter fun l => decide ((l, true) ∈ m) := hI
  have hsl : s.length < 1000 := by
   have q1 := hpre.length_le
   have q2 := List.length_filter_le (fun l => decide ((l, true) ∈ m)) h
   rw [List.length_append, List.length_singleton] at q1
   rw [hI]; omega
  have haw : kS a := hwf a (fC.1 (hpre.subset (by simp)))
  suffices hs : ∃ g ob', (∃ s', Vq m s a s' g /\ ob' = (xP M m row lrow).ob n l s') /\ RndOk Try.prog Us [.ag [.i .i64 a.k, .i .i64 a.c, .i .i64 a.t]] ((xP M m row lrow).ob n l s) nb5 none (.b g) ob' nb5 none by
   obtain ⟨g, _, ⟨s', hR, rfl⟩, HR⟩ := hs
   exact WRnd.at HR (k s' g hR)
  have kpo := vQ (S := xP M m row lrow) (n := n) (l := l) (fun s => Ns h1 h2 s)
  by_cases hin : (a, true) ∈ m
  ·have hR : ∀ s', s' = s ++ [a] -> Vq m s a s' true := fun s' e => ⟨rfl, by rw [e, decide_eq_true hin]; rfl⟩
   cases s with
   | nil =>
     refine RndOk.runEF2 (sl0 := uY row lrow) rfl oQ pA ⟨_, rfl, ?_⟩
     unfold Lns.ob bQ xP uY Hn Hk
     conv => whnf
     refine Qg ?_
     refine ⟨rfl, rfl, _, _, _, _, _, _, rfl, ?_⟩
     conv => whnf
     refine Qg ?_
     refine WSt.lkpG vZ (w := a) (M := m) (by rfl) (by rfl) (by rfl) haw (fun e he => (hm e he).1) (fun nn hn => ?_) (fun hn => absurd hin (hn true))
     obtain rfl : nn = true := (hm _ hn).2
     conv => whnf
     refine Qg ?_
     refine WSt.app_first (r := aI a) rfl (.inl rfl) rfl rfl rfl rfl ?_; conv => whnf
     refine Qg ?_
     refine ⟨_, _, _, _, _, _, _, (Wd (some (.map (bT M))) none none (some (.map (vH m))) (some (.cells false [.o (.mp (.o (.o .h))) 0] 1)) none none none none none none (some (.cells false [.o (.sl Ux 0 1 0 3) 0] 1)) (some (.lp (uY row lrow) [p28] 36 (mB (aN Try.f91) 1) (mQ (aN Try.f91) 1) .ready none)) (some .hole) none none none (some (.cells false [.o (.i .i64 (eJ l)) 0, .o (.i .i64 (nE l)) 0] 1)) (some (.cells false [.o (.i .i64 (gK l)) 0, .o (.i .i64 (mW n l)) 0] 1)) (some (.cells false [.o (.i .i64 (lA l)) 0, .o (.i .i64 (oX n l)) 0] 1)) (some (.cells false ((aI a).map fun d => Cell.o d 0) 1))), (xP M m row lrow).ob n l [a], rfl, rfl, YX, Ux, by simp [nb5, YX, Pos.nat], by simp [nb5, Ux, Pos.nat], Shr.kp ?_ ?_, ?_, [a], hR _ rfl, rfl⟩
     ·unfold Wd uY
      repeat' first | exact T.le_e _ | refine T.le_some ?_ rfl ?_ | refine T.le_same ?_ ?_ | refine T.le_none ?_ ?_
     ·show TAll (fun id c => id.nat < 24 /\ KpC 24 c) _
      unfold Wd
      repeat' first | exact TAll.e | refine TAll.some ?_ ?_ ?_ | refine TAll.none ?_ ?_
      all_goals refine ⟨by simp [Pos.nat], ?_⟩
      all_goals first
       | exact dP
       | exact mJ
       | exact fun s d h => (xD h1 h2 s d h).up (by omega)
       | trivial
       | (refine KpL.all ?_; simp [KpL, Kp, Cell.d, Pu, Ux, aI, Pos.nat])
     ·refine ⟨wP, Vr, false, 1, 0, 3, 0, 1, 0, 1, aI a, by simp [wP, nb5, Pos.nat], by simp [Vr, wP, Pos.nat], rfl, by simp [aO, Pu, aI], rfl, rfl, ?_⟩
      show TAll (fun i ci => (i = wP /\ ci = .cells false ((aI a).map fun d => Cell.o d 0) 1) \/ (i = Vr /\ ci = .cells false [.o (.sl wP 0 1 0 3) 0] 1) \/ (i ≠ wP /\ i.nat < nb5.nat /\ T.get (Wd (some (.map (bT M))) none none (some (.map (vH m))) (some (.cells false [.o (.mp (.o (.o .h))) 0] 1)) none none none none none none (some (.cells false [.o (.sl Ux 0 1 0 3) 0] 1)) (some (.lp (uY row lrow) [p28] 36 (mB (aN Try.f91) 1) (mQ (aN Try.f91) 1) .ready none)) (some .hole) none none none (some (.cells false [.o (.i .i64 (eJ l)) 0, .o (.i .i64 (nE l)) 0] 1)) (some (.cells false [.o (.i .i64 (gK l)) 0, .o (.i .i64 (mW n l)) 0] 1)) (some (.cells false [.o (.i .i64 (lA l)) 0, .o (.i .i64 (oX n l)) 0] 1)) (some (.cells false ((aI a).map fun d => Cell.o d 0) 1))) i = some ci /\ KpC 14 ci)) _
      unfold Lns.ob bQ xP
      repeat' first | exact TAll.e | refine TAll.some ?_ ?_ ?_ | refine TAll.none ?_ ?_
      all_goals first
       | exact .inl ⟨rfl, rfl⟩
       | exact .inr (.inl ⟨rfl, rfl⟩)
       | (refine .inr (.inr ⟨by decide, by simp [nb5, Pos.nat], rfl, ?_⟩)
          first
           | exact dP
           | exact mJ
           | exact IZ h1 h2
           | (refine KpL.all ?_; simp [KpL, Kp, Cell.d, Pu, Pos.nat]))
   | cons b s =>
     have hs9 : s.length + 1 < 1000 := hsl
     refine RndOk.runE (sl0 := uY row lrow) rfl oQ pA ⟨_, rfl, ?_⟩
     unfold Lns.ob bQ xP uY Hn Hk
     conv => whnf
     refine Qg ?_
     refine ⟨rfl, rfl, _, _, _, _, _, _, rfl, ?_⟩
     conv => whnf
     refine Qg ?_
     refine WSt.lkpG vZ (w := a) (M := m) (by rfl) (by rfl) (by rfl) haw (fun e he => (hm e he).1) (fun nn hn => ?_) (fun hn => absurd hin (hn true))
     obtain rfl : nn = true := (hm _ hn).2
     conv => whnf
     refine Qg ?_
     refine WSt.app_one (ds := BU (b :: s)) (r := aI a) rfl rfl rfl rfl rfl rfl (by rw [EZ]; rfl) rfl rfl (by omega) rfl ?_; conv => whnf
     refine Qg ?_
     have hln : (s ++ [a]).length = s.length + 1 := by simp
     have hb : Hn (b :: s ++ [a]) = some (.cells false ((BU (b :: s) ++ aI a).map fun d => Cell.o d (s.length + 1)) (s.length + 1 + 1)) := by
      show some (Ev.C.cells false ((BU (b :: (s ++ [a]))).map fun d => Cell.o d (s ++ [a]).length) ((s ++ [a]).length + 1)) = _
      rw [hln, <- List.cons_append, BW]
     have hs' : Hk (b :: s ++ [a]) = .sl wP 0 (s.length + 1 + 1) (s.length + 1) 3 := by
      show D.sl wP 0 ((s ++ [a]).length + 1) (s ++ [a]).length 3 = _
      rw [hln]
     refine ⟨_, _, _, _, _, _, _, (xP M m row lrow).ob n l (b :: s ++ [a]), rfl, rfl, ?_, b :: s ++ [a], hR _ rfl, rfl⟩
     show Shr _ ⟨.e, bQ (some (.map (bT M))) none none (some (.map (vH m))) (some (.cells false [.o (.mp (.o (.o .h))) 0] 1)) none none none none none none (some (.cells false [.o (Hk (b :: s ++ [a])) 0] 1)) (some (.lp (uY row lrow) [p28] 36 (mB (aN Try.f91) 1) (mQ (aN Try.f91) 1) .ready none)) (Hn (b :: s ++ [a])) none none none (some (.cells false [.o (.i .i64 (eJ l)) 0, .o (.i .i64 (nE l)) 0] 1)) (some (.cells false [.o (.i .i64 (gK l)) 0, .o (.i .i64 (mW n l)) 0] 1)) (some (.cells false [.o (.i .i64 (lA l)) 0, .o (.i .i64 (oX n l)) 0] 1)), nb5, none⟩
     rw [hb, hs']
     have hpv : aO (BU (b :: s) ++ aI a) := aF.2 fun d hd => by
      rcases List.mem_append.1 hd with h | h
      ·exact aF.1 (Kk _) d h
      ·exact aF.1 (Jf a) d h
     refine Shr.of ?_ ?_ rfl rfl
     ·exact Rel.e
     ·unfold bQ
      repeat' first | exact Rel.e | refine Rel.some ?_ ?_ ?_ | refine Rel.none ?_ ?_
      all_goals refine RO'.of (by simp [Pos.nat, nb5]) ?_
      all_goals first
       | exact ShC.kp dP
       | exact ShC.kp mJ
       | exact ShC.kp (n := 21) (fun s d h => (xD h1 h2 s d h).up (by omega))
       | exact ShC.grown (by omega) hpv
       | (refine ShC.kp (n := 21) (KpL.all ?_); simp [KpL, Kp, Cell.d, Pu, wP, Pos.nat])
  ·have hR : ∀ s', s' = s -> Vq m s a s' true := fun s' e => ⟨rfl, by rw [e, decide_eq_false hin, cond_false, List.append_nil]⟩
   cases s with
   | nil =>
     refine RndOk.runE (sl0 := uY row lrow) rfl oQ pA ⟨_, rfl, ?_⟩
     unfold Lns.ob bQ xP uY Hn Hk
     conv => whnf
     refine Qg ?_
     refine ⟨rfl, rfl, _, _, _, _, _, _, rfl, ?_⟩
     conv => whnf
     refine Qg ?_
     refine WSt.lkpG vZ (w := a) (M := m) (by rfl) (by rfl) (by rfl) haw (fun e he => (hm e he).1) (fun nn hn => absurd (show (a, true) ∈ m from by have h3 : nn = true := (hm _ hn).2; rw [h3] at hn; exact hn) hin) (fun hn => ?_)
     conv => whnf
     refine Qg ?_
     refine ⟨_, _, _, _, _, _, _, (xP M m row lrow).ob n l ([]), rfl, rfl, Shr.kp ?_ (kpo _), [], hR _ rfl, rfl⟩
     unfold Lns.ob bQ xP uY Hn Hk
     repeat' first | exact T.le_e _ | refine T.le_some ?_ rfl ?_ | refine T.le_same ?_ ?_ | refine T.le_none ?_ ?_
   | cons b s =>
     refine RndOk.runE (sl0 := uY row lrow) rfl oQ pA ⟨_, rfl, ?_⟩
     unfold Lns.ob bQ xP uY Hn Hk
     conv => whnf
     refine Qg ?_
     refine ⟨rfl, rfl, _, _, _, _, _, _, rfl, ?_⟩
     conv => whnf
     refine Qg ?_
     refine WSt.lkpG vZ (w := a) (M := m) (by rfl) (by rfl) (by rfl) haw (fun e he => (hm e he).1) (fun nn hn => absurd (show (a, true) ∈ m from by have h3 : nn = true := (hm _ hn).2; rw [h3] at hn; exact hn) hin) (fun hn => ?_)
     conv => whnf
     refine Qg ?_
     refine ⟨_, _, _, _, _, _, _, (xP M m row lrow).ob n l (b :: s), rfl, rfl, Shr.kp ?_ (kpo _), b :: s, hR _ rfl, rfl⟩
     unfold Lns.ob bQ xP uY Hn Hk
     repeat' first | exact T.le_e _ | refine T.le_some ?_ rfl ?_ | refine T.le_same ?_ ?_ | refine T.le_none ?_ ?_
end
theorem Le {m : Ef} : ∀ (L : List Ln) {s s' : List Ln} {g : Bool}, Fld (Vq m) L s s' g -> s' = s ++ L.filter (fun l => decide ((l, true) ∈ m)) /\ g = true
 | [], s, s', g, h => by cases h; simp
 | a :: L, s, s', g, h => by
   cases h with
   | stop h => cases h.1
   | go h k =>
     obtain ⟨_, rfl⟩ := h
     obtain ⟨q1, q2⟩ := Le L k
     refine ⟨?_, q2⟩
     rw [q1, List.append_assoc]
     congr 1
     cases hd : decide ((a, true) ∈ m) with
     | true => rw [List.filter_cons_of_pos (by exact hd)]; rfl
     | false => rw [List.filter_cons_of_neg (by rw [hd]; simp)]; rfl
def Ax (B : Bk) (line : Nat) : List Ln := (mY B.n (B.ls.getD line default)).filter fun l => (gN B B.ls.length []).any fun X => decide (X.getD line default = l)
theorem JP {B : Bk} (V : VB B) (l : Ln) : (mY B.n l).length <= 1000 := by
 have h := Eq B.n l
 have hn := V.n
 have h1 : (Bf l).toNat <= 2 := by unfold Bf; split <;> omega
 have h2 : (zQ B.n l).toNat <= 4 := by unfold zQ; split <;> omega
 have h3 : (xV B.n l).toNat <= 4 := by unfold xV; split <;> omega
 have h4 : (zQ B.n l).toNat * (xV B.n l).toNat <= 4 * 4 := Nat.mul_le_mul h2 h3
 have h5 : (Bf l).toNat * ((zQ B.n l).toNat * (xV B.n l).toNat) <= 2 * (4 * 4) := Nat.mul_le_mul h1 h4
 omega
theorem Rg {B : Pos -> Prop} {ob : T Ev.C} (hB : ¬ B wP) : ∀ (s : List Ln), (ob.get wP = Hn s) -> Fz B ob (Hk s) (.lst 3 (aC aI s))
 | [], _ => .ns
 | a :: s, h => Fz.whole (cs := (BU (a :: s)).map fun d => Cell.o d s.length) (cur := s.length + 1) hB h (by simp [aC]) (dJ _) (by rfl) (aB _)
theorem VD {B : Bk} (V : VB B) {line : Nat} (hl : line < B.ls.length) (M : dN) (hM : MOk B M) :
 ∃ M', MOk B M' /\ CallOk Try.prog p92.ix [.ag (gI B ++ [.mp .h]), .i .i64 (line : Int)] (eT M) (.o .h) none (.lst 3 (aC aI (Ax B line))) (eT M') (.o .h) none := by
 have e1 := aD aI B.ls
 have hL8 := V.len
 have i0 : Wc line [] [] := ⟨fun e h => (by cases h), fun l => ⟨fun h => (by cases h), fun ⟨X, h, _⟩ => (by cases h)⟩⟩
 obtain ⟨_, _, ⟨M', m, gg, hM', hFl, rfl, rfl⟩, Hc⟩ := yZ V (NQ V hl) M hM [] i0 rfl
 obtain ⟨⟨hm1, hm2⟩, _⟩ := Ij V hl _ [] rfl i0 hFl
 have hrow := jS B.n B.coin B.box B.ls B.cs
 have hlr : aO (fL (B.ls.getD line default)) := by simp [fL, aO, Pu]
 obtain ⟨hk, hc, ht⟩ := V.ln hl
 obtain ⟨_, _, ⟨s', g2, hF2, rfl, rfl⟩, Hi⟩ := MZ (xP M' m (jF B.n B.coin B.box B.ls B.cs) (fL (B.ls.getD line default))) Us _ _ B.n B.coin B.box B.ls B.cs V.n (B.ls.getD line default) hk hc ht (TO hrow hlr hm1 (fun a ha => by
  obtain ⟨h1, h2, h3⟩ := V.rd hl ha
  exact ⟨cK (by omega) (by omega), cK (by omega) (by omega), cK (by omega) (by omega)⟩) (JP V _)) [] (show Zg m [] [] from rfl)
 obtain ⟨hs', _⟩ := Le _ hF2
 have hw : s' = Ax B line := by
  rw [hs', List.nil_append]
  unfold Ax
  refine List.filter_congr fun l _ => ?_
  rw [Bool.eq_iff_iff, decide_eq_true_iff, hm2 l, List.any_eq_true]
  exact ⟨fun ⟨X, h1, h2⟩ => ⟨X, h1, decide_eq_true h2⟩, fun ⟨X, h1, h2⟩ => ⟨X, h1, of_decide_eq_true h2⟩⟩
 rw [<- hw]
 have Hh := CallOk.hole (lg := none) (lg' := none) (r := wP) (nx := wP) (ob := bQ (some (.map (bT M'))) none none (some (.map (vH m))) (some (.cells false [.o (.mp (.o (.o .h))) 0] 1)) none none none none none none (some (.cells false [.o .ns 0] 1)) (some (.lp (uY (jF B.n B.coin B.box B.ls B.cs) (fL (B.ls.getD line default))) [p28] 36 (mB (aN Try.f91) 1) (mQ (aN Try.f91) 1) .ready none)) none none none none none none none) (by
  have he : T.set wP .hole (bQ (some (.map (bT M'))) none none (some (.map (vH m))) (some (.cells false [.o (.mp (.o (.o .h))) 0] 1)) none none none none none none (some (.cells false [.o .ns 0] 1)) (some (.lp (uY (jF B.n B.coin B.box B.ls B.cs) (fL (B.ls.getD line default))) [p28] 36 (mB (aN Try.f91) 1) (mQ (aN Try.f91) 1) .ready none)) none none none none none none none) = (xP M' m (jF B.n B.coin B.box B.ls B.cs) (fL (B.ls.getD line default))).base [] := rfl
  rw [he]
  exact Hi) (Nat.le_refl _) (by simp [wP, EI, Pos.nat]) trivial
 have cR := (jN B.n B.coin B.box B.ls B.cs (B.ls.getD line default)).sub (Am (d := .mp .h) (by simp [aO, Pu]))
 obtain ⟨v, ob', ⟨M'', hM'', rfl, rfl⟩, Hb⟩ := CallOk.runE (Φ := fun v ob' => ∃ M', MOk B M' /\ v = .lst 3 (aC aI s') /\ ob' = eT M') (ob := eT M) (nx := .o .h) (nx' := .o .h) (ds := [.ag (gI B ++ [.mp .h]), .i .i64 (line : Int)]) WS (by simp) (Nat.le_refl _) (by
  conv => whnf
  refine Rn.le (a := ⟨(.n (.n .e (some (.i .i64 (line : Int))) .e) (some (.ag (gI B ++ [.mp .h]))) .e), bQ (some (.map (bT M))) none none none none none none none none none none none none none none none none none none none, .o .h, none⟩) ?_ ?_
  ·unfold gI bQ
   conv => whnf
   refine Qg ?_
   refine WCall.of (BY (B := B) (x1 := some (.map (bT M))) (x2 := some (eG B)) (x3 := (some (.cells false [.o (.i .i64 (line : Int)) 0] 1))) (x4 := (some (.map (vH [])))) (x5 := some (.cells false [.o (.mp (.o (.o .h))) 0] 1)) ?_) ?_
   ·show TAll (fun id c => id.nat < 6 /\ KpC 6 c) _
    unfold bQ
    repeat' first | exact TAll.e | refine TAll.some ?_ ?_ ?_ | refine TAll.none ?_ ?_
    all_goals refine ⟨by simp [Pos.nat], ?_⟩
    all_goals first
     | exact dP
     | exact mJ
     | exact jD B (by omega)
     | (refine KpL.all ?_; simp [KpL, Kp, Cell.d, Pu, Pos.nat])
   conv => whnf
   refine Qg ?_
   refine Rn.le (a := ⟨wsS, bQ (some (.map (bT M))) (some (eG B)) (some (.cells false [.o (.i .i64 (line : Int)) 0] 1)) (some (.map (vH []))) (some (.cells false [.o (.mp (.o (.o .h))) 0] 1)) (some (eG B)) none none none none none none none none none none none none none none, i7, none⟩) ?_ ?_
   ·refine Rn.rf rfl rfl Hc rfl (by simp) ?_
    unfold Tns.bob bQ Ri wsS
    conv => whnf
    repeat' ((first | refine Qz ?_ | refine Qf cR ?_) <;> conv => whnf)
    refine Rn.le (a := ⟨uY (jF B.n B.coin B.box B.ls B.cs) (fL (B.ls.getD line default)), bQ (some (.map (bT M'))) none none (some (.map (vH m))) (some (.cells false [.o (.mp (.o (.o .h))) 0] 1)) none none none none none none (some (.cells false [.o .ns 0] 1)) none none none none none none none none, Us, none⟩) ?_ ?_
    ·refine Rn.rf rfl rfl Hh rfl (by simp) ?_
     unfold Lns.base bQ xP uY
     conv => whnf
     refine Qg ?_
     refine ⟨_, _, ⟨M', hM', rfl, rfl⟩, ⟨.inr rfl, ⟨_, rfl, ?_⟩, Shr.kp ?_ (fI M')⟩⟩
     ·exact Rg (by simp [wP, Pos.nat]) s' rfl
     ·show T.le (T.n .e (some (.map (bT M'))) .e : T Ev.C) _
      refine T.le_some (T.le_e _) rfl (T.le_e _)
    ·refine X.le.mk ?_ ?_ (Nat.le_refl _) rfl rfl
     ·unfold uY
      repeat' first | exact T.le_refl _ | exact T.le_e _ | refine T.le_some ?_ rfl ?_ | refine T.le_same ?_ ?_ | refine T.le_none ?_ ?_
     ·unfold bQ
      repeat' first | exact T.le_refl _ | exact T.le_e _ | refine T.le_some ?_ rfl ?_ | refine T.le_same ?_ ?_ | refine T.le_none ?_ ?_
   ·refine X.le.mk ?_ ?_ (Nat.le_refl _) rfl rfl
    ·unfold wsS
     repeat' first | exact T.le_refl _ | exact T.le_e _ | refine T.le_some ?_ rfl ?_ | refine T.le_same ?_ ?_ | refine T.le_none ?_ ?_
    ·unfold bQ
     repeat' first | exact T.le_refl _ | exact T.le_e _ | refine T.le_some ?_ rfl ?_ | refine T.le_same ?_ ?_ | refine T.le_none ?_ ?_
  ·refine X.le.mk (T.le_refl _) ?_ (Nat.le_refl _) rfl rfl
   unfold bQ
   exact Lw)
 exact ⟨M'', hM'', Hb⟩
def QX (n coin box : Int) (ls : List Ln) (cs : List Ct) (line : Int) : D :=
 if sE n coin box ls cs (gE line 0 ((ls.length : Int) - 1)) = 0 then .tp [.lst 3 (aC aI (Ax (B5 n coin box ls cs) line.toNat)), .i .i64 0] else .tp [.lst 3 [], .i .i64 (sE n coin box ls cs (gE line 0 ((ls.length : Int) - 1)))]
theorem Pm (n coin box : Int) (ls : List Ln) (cs : List Ct) (line : Int) (hll : ls.length <= 1000) : PureF Try.prog p44.ix [.ag [.i .i64 n, .i .i64 coin, .i .i64 box, .lst 3 (aC aI ls), .lst 3 (aC cY cs)], .i .i64 line] (QX n coin box ls cs line) := by
 have e1 := aD aI ls
 have cU : PureF Try.prog p86.ix [.i .i64 line, .i .i64 (((aC aI ls).length : Int) - 1)] (.b (gE line 0 ((ls.length : Int) - 1))) := by
  have := uZ line (((aC aI ls).length : Int) - 1)
  rw [e1] at this ⊢
  exact this
 unfold QX
 by_cases hE : sE n coin box ls cs (gE line 0 ((ls.length : Int) - 1)) = 0
 ·rw [if_pos hE]
  obtain ⟨hf, ht⟩ := rL hE
  have hE' := hE
  rw [ht] at hE' cU
  obtain ⟨M, hM, Hs⟩ := qN n coin box ls cs hE'
  have ha := aP.1 ht
  have V := VB.of hf
  obtain ⟨M', hM', Hb⟩ := VD V (line := line.toNat) (show line.toNat < ls.length by omega) M hM
  rw [show ((line.toNat : Nat) : Int) = line by omega] at Hb
  refine PureF.run SD (by simp) (by simp [aO, dF, Pu, aH, aB, aE]) ?_; conv => whnf
  repeat' ((first | refine Qw ?_ | refine Qf cU ?_ | refine Qd (fun h => ?_) (fun h => ?_)) <;> conv => whnf)
  refine WCall.of (rY Hs) ?_; conv => whnf
  repeat' ((first | refine Qw ?_ | refine Qd (fun h => ?_) (fun h => ?_)) <;> conv => whnf)
  refine WCall.of (CallOk.mapAt Hb (aB _) (id := .o .h) rfl (show 2 < 4 from by decide) (jX (show aO [.i .i64 line] from ⟨trivial, trivial⟩))) ?_; conv => whnf
  repeat' ((first | refine Qw ?_ | refine Qd (fun h => ?_) (fun h => ?_)) <;> conv => whnf)
  exact ⟨.inr rfl, _, rfl, .tp (.cons (.pu (aB _)) (.cons (.pu trivial) .nil))⟩
 ·rw [if_neg hE]
  have cS := qO n coin box ls cs _ hE
  generalize sE n coin box ls cs (gE line 0 ((ls.length : Int) - 1)) = e at hE cS ⊢
  unfold gI B5 Rs at cS
  refine PureF.run SD (by simp) (by simp [aO, dF, Pu, aH, aB, aE]) ?_; conv => whnf
  repeat' ((first | refine Qw ?_ | refine Qf cU ?_ | refine Qf cS ?_ | refine Qd (fun h => ?_) (fun h => ?_)) <;> conv => whnf)
  all_goals first
   | (exfalso; omega)
   | exact ⟨.inr rfl, _, rfl, .tp (.cons .ns (.cons (.pu trivial) .nil))⟩
section
variable {n coin box : Int} {L T : List Ln} {C : List Ct}
theorem PO (h0 : aS n coin box L C = 0) (hHI : HI n T L) (hC : ∀ c ∈ C, CtG box coin T c) : T ∈ pQ (B5 n coin box L C) := by
 refine (jU (VB.of h0)).2 ?_
 show (iY n L T && (dW T && wJ box coin C T)) = true
 rw [hHI.rd, hHI.poss, Bool.true_and, Bool.true_and]
 unfold wJ
 rw [List.all_eq_true]
 exact fun c hc => (hC c hc).r
variable (h0 : aS n coin box L C = 0) (hm : T ∈ pQ (B5 n coin box L C))
include h0 hm
theorem Aa : lI (B5 n coin box L C) = true := (CB (VB.of h0)).2 fun h => by rw [h] at hm; cases hm
theorem PQ : Gv (B5 n coin box L C) = some 0 := by
 have V := VB.of h0
 have h8 : L.length <= 8 := V.len
 have hP : yU (B5 n coin box L C) 0 = true := by rw [<- Kd V]; exact Aa h0 hm
 have hpos : 0 < 2 ^ L.length := Nat.two_pow_pos _
 have c0 : fY 0 = 0 := rfl
 cases h : Gv (B5 n coin box L C) with
 | none =>
   have := IM h 0 hpos (by rw [c0]; omega)
   rw [hP] at this; cases this
 | some c =>
   obtain ⟨_, p2, p3⟩ := Kz h
   have p2 : c < 2 ^ L.length := p2
   have := p3 0 hpos hP (by rw [c0]; omega)
   have hc : fY c = 0 := by omega
   have key : ∀ c : _root_.Fin 256, fY c.1 = 0 -> c.1 = 0 := by decide +kernel
   exact congrArg some (show c = 0 from key ⟨c, Mw h8 p2⟩ hc)
theorem Eg : T ∈ gN (B5 n coin box L C) (B5 n coin box L C).ls.length [] := (nY (VB.of h0)).1 hm
theorem Iz : T.length = L.length := Iy (VB.of h0) hm
theorem JI : KJ n coin box L = none := by
 have V := VB.of h0
 have hl := Iz h0 hm
 have hf := (jU V).1 hm
 have hf : (iY n L T && (dW T && wJ box coin C T)) = true := hf
 rw [Bool.and_eq_true, Bool.and_eq_true] at hf
 obtain ⟨r1, r2, _⟩ := hf
 refine List.find?_range_eq_none.2 fun i hi => ?_
 have hh : lI (B5 n coin box (L.take (i + 1)) []) = true := by
  have W := V.pre (i + 1)
  rw [CB W]
  intro h
  have hmem : T.take (i + 1) ∈ pQ (B5 n coin box (L.take (i + 1)) []) := by
   refine (jU W).2 ?_
   show (iY n (L.take (i + 1)) (T.take (i + 1)) && (dW (T.take (i + 1)) && wJ box coin [] (T.take (i + 1)))) = true
   have hat : ∀ j, j < i + 1 -> (T.take (i + 1)).getD j default = T.getD j default := fun j hj => SameTo.take T (i + 1) j hj
   have hal : ∀ j, j < i + 1 -> (L.take (i + 1)).getD j default = L.getD j default := fun j hj => SameTo.take L (i + 1) j hj
   have hlt : (T.take (i + 1)).length = i + 1 := by rw [List.length_take]; omega
   rw [Bool.and_eq_true, Bool.and_eq_true]
   refine ⟨?_, ?_, rfl⟩
   ·rw [AM] at r1 ⊢
    refine ⟨by rw [hlt, List.length_take]; omega, fun j hj => ?_⟩
    rw [hat j (by omega), hal j (by omega)]
    exact r1.2 j (by omega)
   ·unfold dW at r2 ⊢
    rw [List.all_eq_true] at r2 ⊢
    intro j hj
    have hj2 : j < i + 1 := by rw [<- hlt]; exact List.mem_range.1 hj
    have hs : SameTo (j + 1) T (T.take (i + 1)) := (SameTo.take T (i + 1)).le (by omega)
    rw [oN hs]
    exact r2 j (List.mem_range.2 (by omega))
  rw [h] at hmem; cases hmem
 show (!KR n coin box L i) = true
 unfold KR
 rw [hh]; rfl
theorem Ip (k : Nat) (f : Mo -> Int) : f (fJ box coin T k) ∈ eX (B5 n coin box L C) k f := List.mem_map.2 ⟨T, Eg h0 hm, rfl⟩
theorem Kh (k : Nat) (f : Mo -> Int) : (eX (B5 n coin box L C) k f).foldl min ((eX (B5 n coin box L C) k f).getD 0 0) <= f (fJ box coin T k) /\ f (fJ box coin T k) <= (eX (B5 n coin box L C) k f).foldl max ((eX (B5 n coin box L C) k f).getD 0 0) :=
 ⟨(jW _ _).2.1 _ (Ip h0 hm k f), (jQ _ _).2.1 _ (Ip h0 hm k f)⟩
theorem FA {p : List Ln -> Bool} {R : List (List Ln)} (hT : T ∈ R) : (1 <= Aj (AC p R) (R.length : Int) /\ Aj (AC p R) (R.length : Int) <= 3) /\ (Aj (AC p R) (R.length : Int) = 1 -> p T = true) /\ (Aj (AC p R) (R.length : Int) = 2 -> p T = false) := by
 have hle := List.length_filter_le p R
 unfold Aj AC
 refine ⟨by split <;> (try split) <;> omega, fun h => ?_, fun h => ?_⟩
 ·by_cases e : ((R.filter p).length : Int) = (R.length : Int)
  ·exact List.length_filter_eq_length_iff.1 (by omega) T hT
  ·rw [if_neg e] at h
   split at h <;> cases h
 ·by_cases e : ((R.filter p).length : Int) = (R.length : Int)
  ·rw [if_pos e] at h; cases h
  ·rw [if_neg e] at h
   by_cases e2 : ((R.filter p).length : Int) = 0
   ·cases hp : p T with
    | false => rfl
    | true =>
      have : T ∈ R.filter p := List.mem_filter.2 ⟨hT, hp⟩
      have := List.length_pos_of_mem this
      omega
   ·rw [if_neg e2] at h; cases h
theorem Oz (k : Nat) {a : Nat} (ha : a < 4) : (1 <= yS (B5 n coin box L C) k (0 + a) /\ yS (B5 n coin box L C) k (0 + a) <= 3) /\ (yS (B5 n coin box L C) k (0 + a) = 1 -> decide (0 <= aZ T (a : Int) k) = true) /\ (yS (B5 n coin box L C) k (0 + a) = 2 -> decide (0 <= aZ T (a : Int) k) = false) := by
 have V := VB.of h0
 have h := Lc V (aft := k) (x := a) (by omega) (xW (oK h0 (Aa h0 hm)))
 rw [if_pos ha] at h
 rw [Nat.zero_add, h]
 exact FA h0 hm (p := cP k (a : Int)) hm
theorem OS (k : Nat) {a : Nat} (ha : a < 4) : (1 <= yS (B5 n coin box L C) k (4 + a) /\ yS (B5 n coin box L C) k (4 + a) <= 3) /\ (yS (B5 n coin box L C) k (4 + a) = 1 -> decide (0 <= bC T (a : Int) k) = true) /\ (yS (B5 n coin box L C) k (4 + a) = 2 -> decide (0 <= bC T (a : Int) k) = false) := by
 have V := VB.of h0
 have h := Lc V (aft := k) (x := 4 + a) (by omega) (xW (oK h0 (Aa h0 hm)))
 rw [if_neg (by omega), show 4 + a - 4 = a by omega] at h
 rw [h]
 exact FA h0 hm (p := tP k (a : Int)) hm
theorem QV {a : Nat} (ha : a < T.length) : T.getD a default ∈ Ax (B5 n coin box L C) a := by
 have hX := fH.1 (Eg h0 hm)
 refine List.mem_filter.2 ⟨fC.2 (hX.st a (Nat.zero_le _) ha).1, ?_⟩
 rw [List.any_eq_true]
 exact ⟨T, Eg h0 hm, decide_eq_true rfl⟩
theorem Nk : okT (B5 n coin box L C) T := fun i hi => (fH.1 (Eg h0 hm)).st i (Nat.zero_le _) hi
end
def jA (f : Nat -> Int) : Nat -> Int
 | 0 => 0
 | a + 1 => jA f a + fS (f a)
theorem zT {T : List Ln} {c : Int} : ∀ {k : Nat}, (∀ i, i < k -> (T.getD i default).c ≠ c) -> aZ T c k = -1
 | 0, _ => rfl
 | k + 1, h => by
   unfold aZ
   rw [if_neg (h k (by omega))]
   exact zT fun i hi => h i (by omega)
theorem xY {T : List Ln} {c : Int} : ∀ {k : Nat}, (∀ i, i < k -> (T.getD i default).t ≠ c) -> bC T c k = -1
 | 0, _ => rfl
 | k + 1, h => by
   unfold bC
   rw [if_neg (h k (by omega))]
   exact xY fun i hi => h i (by omega)
theorem Dr (f : Nat -> Int) : ∀ a : Nat, 0 <= jA f a /\ jA f a <= a
 | 0 => by show (0 : Int) <= 0 /\ (0 : Int) <= 0; omega
 | a + 1 => by
   have := Dr f a
   show 0 <= jA f a + fS (f a) /\ jA f a + fS (f a) <= ((a + 1 : Nat) : Int)
   unfold fS
   split <;> omega
theorem Bz {f : Nat -> Int} {n : Nat} (h1 : 1 <= n) (h4 : n <= 4) (h : ∀ c, n <= c -> c < 4 -> f c = -1) : jA f n = fS (f 0) + fS (f 1) + fS (f 2) + fS (f 3) := by
 have z : fS (-1) = 0 := rfl
 have : n = 1 \/ n = 2 \/ n = 3 \/ n = 4 := by omega
 rcases this with rfl | rfl | rfl | rfl
 ·show 0 + fS (f 0) = _
  rw [h 1 (by omega) (by omega), h 2 (by omega) (by omega), h 3 (by omega) (by omega), z]; omega
 ·show 0 + fS (f 0) + fS (f 1) = _
  rw [h 2 (by omega) (by omega), h 3 (by omega) (by omega), z]; omega
 ·show 0 + fS (f 0) + fS (f 1) + fS (f 2) = _
  rw [h 3 (by omega) (by omega), z]; omega
 ·show 0 + fS (f 0) + fS (f 1) + fS (f 2) + fS (f 3) = _
  omega
theorem QE {n coin box : Int} {L T : List Ln} {C : List Ct} (h0 : aS n coin box L C = 0) (hm : T ∈ pQ (B5 n coin box L C)) {k : Nat} (hk : k <= T.length) : cQ box coin T k = box + coin * jA (fun a => aZ T (a : Int) k) n.toNat /\ jA (fun a => bC T (a : Int) k) n.toNat = jA (fun a => aZ T (a : Int) k) n.toNat := by
 have V := VB.of h0
 have hn : 1 <= n /\ n <= 4 := V.n
 have hf := (jU V).1 hm
 have hf : (iY n L T && (dW T && wJ box coin C T)) = true := hf
 rw [Bool.and_eq_true] at hf
 have r1 := (AM.1 hf.1).2
 have rng : ∀ i, i < T.length -> (0 <= (T.getD i default).c /\ (T.getD i default).c <= n - 1) /\ (0 <= (T.getD i default).t /\ (T.getD i default).t <= n - 1) := fun i hi => by
  have := r1 i hi
  unfold No at this
  simp only [Bool.and_eq_true, aP] at this
  exact ⟨this.2.1, this.2.2.1⟩
 obtain ⟨m1, m2⟩ := uN V (Nk h0 hm) (by rw [Iz h0 hm]; exact Nat.le_refl _) k hk
 have s1 := Bz (f := fun a => aZ T (a : Int) k) (n := n.toNat) (by omega) (by omega) (fun c h1 h2 => zT fun i hi => by have := (rng i (by omega)).1; omega)
 have s2 := Bz (f := fun a => bC T (a : Int) k) (n := n.toNat) (by omega) (by omega) (fun c h1 h2 => xY fun i hi => by have := (rng i (by omega)).2; omega)
 have m1 : cQ box coin T k = box + coin * Ap T k := m1
 have e1 : Ap T k = jA (fun a => aZ T (a : Int) k) n.toNat := s1.symm
 have e2 : Ik T k = jA (fun a => bC T (a : Int) k) n.toNat := s2.symm
 exact ⟨by rw [m1, e1], by rw [<- e1, <- e2, m2]⟩
theorem UW (x lo hi : Int) (h : lo <= x /\ x <= hi) : PureF Try.prog p56.ix [.i .i64 x, .ag [.i .i64 lo, .i .i64 hi]] (.b true) := by
 refine PureF.run WV (by simp) (by simp [aO, Pu]) ?_; conv => whnf
 repeat' ((first | refine Qw ?_ | refine Qd (fun h => ?_) (fun h => ?_)) <;> conv => whnf)
 all_goals first | exact Fin.b rfl rfl | exact Fin.b rfl (by rw [decide_eq_true (by omega)]) | (exfalso; omega)
theorem BV (v : Int) (is : Bool) (hv : 1 <= v /\ v <= 3) (h1 : v = 1 -> is = true) (h2 : v = 2 -> is = false) : PureF Try.prog p59.ix [.i .i64 v, .b is] (.b true) := by
 have iI := nW v 1 3
 rw [show gE v 1 3 = true from aP.2 hv] at iI
 refine PureF.run Xv (by simp) (by simp [aO, Pu]) ?_; conv => whnf
 have : v = 1 \/ v = 2 \/ v = 3 := by omega
 rcases this with rfl | rfl | rfl
 ·obtain rfl := h1 rfl
  repeat' ((first | refine Qw ?_ | refine Qf iI ?_ | refine Qv ?_) <;> conv => whnf)
  all_goals first | exact Fin.b rfl rfl | (exfalso; omega)
 ·obtain rfl := h2 rfl
  repeat' ((first | refine Qw ?_ | refine Qf iI ?_ | refine Qv ?_) <;> conv => whnf)
  all_goals first | exact Fin.b rfl rfl | (exfalso; omega)
 ·cases is <;>
  repeat' ((first | refine Qw ?_ | refine Qf iI ?_ | refine Qv ?_) <;> conv => whnf)
  all_goals first | exact Fin.b rfl rfl | (exfalso; omega)
theorem La {n coin box : Int} {ls : List Ln} {cs : List Ct} {T : List Ln} (h0 : aS n coin box ls cs = 0) (hF : bY n ls T = true) : oF n coin box ls cs T = ((List.range (T.length + 1)).map (cQ box coin T), gQ T T.length, 0) := by
 have hl : T.length = ls.length := by
  unfold bY at hF
  rw [Bool.and_eq_true] at hF
  exact of_decide_eq_true hF.1
 have hfo : nF box coin n ls T = uA box coin T T.length := by unfold nF; rw [hF]; rfl
 unfold oF
 rw [if_pos h0, if_pos hF, hfo, <- hl, nP (Nat.le_refl _)]
 congr 1
 refine List.map_congr_left fun q hq => ?_
 have hq := List.mem_range.1 hq
 rw [nP (by omega)]
 rfl
theorem Py (x r : Ln) : decide ([x.k, x.c, x.t] = [r.k, r.c, r.t]) = decide (x = r) := by
 obtain ⟨a, b, c⟩ := x
 obtain ⟨d, e, f⟩ := r
 rw [Bool.eq_iff_iff, decide_eq_true_iff, decide_eq_true_iff]
 simp [Ln.mk.injEq]
theorem WSt.eqLn {sl : T D} {ob : T C} {nx : Pos} {K : X -> Prop} {lg : Option (T Bool)} {d : Pos} {x y : RX} {neg : Bool} (a b : Ln) (h1 : bE sl x = some (.ag (aI a))) (h2 : bE sl y = some (.ag (aI b))) (ha : kS a) (hb : kS b) {r : Bool} (hr : (bif neg then !decide (a = b) else decide (a = b)) = r) (k : dL sl ob nx lg d K (.b r)) : WSt (.eqr d neg [.i .i64, .i .i64, .i .i64] x y) ⟨sl, ob, nx, lg⟩ K :=
 WSt.eqrN [a.k, a.c, a.t] [b.k, b.c, b.t] h1 h2 rfl rfl (by intro y hy; simp only [List.mem_cons, List.not_mem_nil, or_false] at hy; rcases hy with rfl | rfl | rfl; exact ha.1; exact ha.2.1; exact ha.2.2) (by intro y hy; simp only [List.mem_cons, List.not_mem_nil, or_false] at hy; rcases hy with rfl | rfl | rfl; exact hb.1; exact hb.2.1; exact hb.2.2) (by rw [Py]; exact hr) k
section
variable (n coin box : Int) (ls : List Ln) (cs : List Ct) (L : List (List Ln)) (line : Nat) (R : List Ln)
end
set_option maxRecDepth 1000000
set_option maxRecDepth 100000
set_option maxRecDepth 1000000
set_option maxRecDepth 100000
theorem BX {α : Type} {l : List α} {x d : α} (h : x ∈ l) : ∃ i, i < l.length /\ l.getD i d = x := by
 obtain ⟨i, hi, e⟩ := List.getElem_of_mem h
 exact ⟨i, hi, by simp [List.getD, hi, e]⟩
theorem Or (A : List Ln) (x : Ln) (ha : A.length <= 1000) (hw : ∀ a ∈ A, kS a) (hx : x ∈ A) : PureF Try.prog p60.ix [.lst 3 (aC aI A), .ag (aI x)] (.b true) := by
 have e1 := aD aI A
 have hxw := hw x hx
 refine PureF.run YM (by simp) (by simp [aO, Pu, aI, aB]) ?_; conv => whnf
 repeat' ((first | refine Qw ?_ | refine Qd (fun h => ?_) (fun h => ?_)) <;> conv => whnf)
 refine Rn.loop (fun j : Nat => ⟨(.n (.n (.n .e (some (.pt .h 0 0)) .e) none (.n .e (some (.i .i64 (j : Int))) .e)) (some (.lst 3 (aC aI A))) .e), (.n .e (some (.cells false [.o (.i .i64 x.k) 0, .o (.i .i64 x.c) 0, .o (.i .i64 x.t) 0] 1)) .e), .o .h, none⟩) (fun j => j <= A.length /\ ∀ q, q < j -> A.getD q default ≠ x) (fun j => A.length - j) 0 ?_ ?_ ?_
 ·refine X.le.mk ?_ ?_ (Nat.le_refl _) rfl rfl
  ·exact eN
  ·exact Lw
 ·exact ⟨Nat.zero_le _, fun q h => absurd h (Nat.not_lt_zero _)⟩
 rintro j ⟨hj, hno⟩
 conv => whnf
 refine Qg ?_
 refine WB.dec (fun h => ?_) (fun h => ?_) <;> conv => whnf
 ·have hlt : j < A.length := by omega
  have hwj := hw _ (bS (d := default) hlt)
  repeat' ((first | refine Qw ?_ | refine Qd (fun h => ?_) (fun h => ?_)) <;> conv => whnf)
  by_cases he : A.getD j default = x
  ·refine WSt.eqLn (A.getD j default) x (by rfl) (by rfl) hwj hxw (r := true) (show decide (A.getD j default = x) = true from decide_eq_true he) ?_; conv => whnf
   repeat' ((first | refine Qw ?_ | refine Qd (fun h => ?_) (fun h => ?_)) <;> conv => whnf)
   exact Fin.b rfl rfl
  ·refine WSt.eqLn (A.getD j default) x (by rfl) (by rfl) hwj hxw (r := false) (show decide (A.getD j default = x) = false from decide_eq_false he) ?_; conv => whnf
   repeat' ((first | refine Qw ?_ | refine Qd (fun h => ?_) (fun h => ?_)) <;> conv => whnf)
   refine Again.to (j + 1) (by omega) ⟨by omega, fun q hq => ?_⟩ (Nat.le_refl _) ?_
   ·by_cases e : q = j
    ·subst e; exact he
    ·exact hno q (by omega)
   refine Shr.of ?_ ?_ rfl rfl
   ·exact Rw
   ·(repeat' first | exact Rel.e | refine Rel.some ?_ ?_ ?_ | refine Rel.none ?_ ?_ | refine Rel.ee ?_ ?_)
    exact Ro (ShC.same (ShC.cn (.pu trivial) (ShC.cn (.pu trivial) (ShC.cn (.pu trivial) ShC.nl))))
 ·exfalso
  obtain ⟨q, hq, e⟩ := BX (d := default) hx
  exact hno q (by omega) e
structure Finer (Bx Bb : Bk) : Prop where
 n : Bx.n = Bb.n
 coin : Bx.coin = Bb.coin
 box : Bx.box = Bb.box
 vx : VB Bx
 vb : VB Bb
 ne : gN Bx Bx.ls.length [] ≠ []
 sub : ∀ X ∈ gN Bx Bx.ls.length [], ∃ Y ∈ gN Bb Bb.ls.length [], SameTo Bb.ls.length X Y
theorem Finer.ans {Bx Bb : Bk} (F : Finer Bx Bb) {k : Nat} (hk : k <= Bb.ls.length) (f : Mo -> Int) : ∀ v ∈ eX Bx k f, v ∈ eX Bb k f := fun v hv => by
 obtain ⟨X, hX, rfl⟩ := List.mem_map.1 hv
 obtain ⟨Y, hY, hs⟩ := F.sub X hX
 refine List.mem_map.2 ⟨Y, hY, ?_⟩
 show f (fJ Bb.box Bb.coin Y k) = f (fJ Bx.box Bx.coin X k)
 rw [F.box, F.coin, kA (hs.le hk)]
theorem Finer.bnd {Bx Bb : Bk} (F : Finer Bx Bb) {k : Nat} (hk : k <= Bb.ls.length) (f : Mo -> Int) : (eX Bb k f).foldl min ((eX Bb k f).getD 0 0) <= (eX Bx k f).foldl min ((eX Bx k f).getD 0 0) /\ (eX Bx k f).foldl max ((eX Bx k f).getD 0 0) <= (eX Bb k f).foldl max ((eX Bb k f).getD 0 0) := by
 have g := Kc (CZ (aft := k) (ak := f) F.ne)
 exact ⟨(jW _ _).2.1 _ (F.ans hk f _ g.1), (jQ _ _).2.1 _ (F.ans hk f _ g.2)⟩
theorem Finer.was {Bx Bb : Bk} (F : Finer Bx Bb) {line : Nat} (hl : line < Bb.ls.length) : ∀ v ∈ Ax Bx line, v ∈ Ax Bb line := fun v hv => by
 obtain ⟨_, h2⟩ := List.mem_filter.1 hv
 rw [List.any_eq_true] at h2
 obtain ⟨X, hX, e⟩ := h2
 obtain ⟨Y, hY, hs⟩ := F.sub X hX
 have e : X.getD line default = v := of_decide_eq_true e
 have e2 : Y.getD line default = v := by rw [hs line hl]; exact e
 have hYe := fH.1 hY
 have hYl : Y.length = Bb.ls.length := by have := hYe.len; simpa using this
 refine List.mem_filter.2 ⟨?_, ?_⟩
 ·rw [<- e2]
  exact fC.2 (hYe.st line (Nat.zero_le _) (by omega)).1
 ·rw [List.any_eq_true]
  exact ⟨Y, hY, decide_eq_true e2⟩
def fp : T RF := (.n (.n (.n (.n (.n (.n (.n (.n .e (aA Try.prog 127) .e) (aA Try.prog 63) .e) (aA Try.prog 31) (.n (.n .e (aA Try.prog 159) .e) (aA Try.prog 95) .e)) (aA Try.prog 15) (.n (.n (.n .e (aA Try.prog 143) .e) (aA Try.prog 79) .e) (aA Try.prog 47) (.n .e (aA Try.prog 111) .e))) (aA Try.prog 7) (.n (.n (.n (.n .e (aA Try.prog 135) .e) (aA Try.prog 71) .e) (aA Try.prog 39) (.n .e (aA Try.prog 103) .e)) (aA Try.prog 23) (.n (.n (.n .e (aA Try.prog 151) .e) (aA Try.prog 87) .e) (aA Try.prog 55) (.n .e (aA Try.prog 119) .e)))) (aA Try.prog 3) (.n (.n (.n (.n (.n .e (aA Try.prog 131) .e) (aA Try.prog 67) .e) (aA Try.prog 35) (.n (.n .e (aA Try.prog 163) .e) (aA Try.prog 99) .e)) (aA Try.prog 19) (.n (.n (.n .e (aA Try.prog 147) .e) (aA Try.prog 83) .e) (aA Try.prog 51) (.n .e (aA Try.prog 115) .e))) (aA Try.prog 11) (.n (.n (.n (.n .e (aA Try.prog 139) .e) (aA Try.prog 75) .e) (aA Try.prog 43) (.n .e (aA Try.prog 107) .e)) (aA Try.prog 27) (.n (.n (.n .e (aA Try.prog 155) .e) (aA Try.prog 91) .e) (aA Try.prog 59) (.n .e (aA Try.prog 123) .e))))) none (.n (.n (.n (.n (.n (.n .e (aA Try.prog 129) .e) (aA Try.prog 65) .e) (aA Try.prog 33) (.n (.n .e (aA Try.prog 161) .e) (aA Try.prog 97) .e)) (aA Try.prog 17) (.n (.n (.n .e (aA Try.prog 145) .e) (aA Try.prog 81) .e) (aA Try.prog 49) (.n .e (aA Try.prog 113) .e))) (aA Try.prog 9) (.n (.n (.n (.n .e (aA Try.prog 137) .e) (aA Try.prog 73) .e) (aA Try.prog 41) (.n .e (aA Try.prog 105) .e)) (aA Try.prog 25) (.n (.n (.n .e (aA Try.prog 153) .e) (aA Try.prog 89) .e) (aA Try.prog 57) (.n .e (aA Try.prog 121) .e)))) (aA Try.prog 5) (.n (.n (.n (.n (.n .e (aA Try.prog 133) .e) (aA Try.prog 69) .e) (aA Try.prog 37) (.n (.n .e (aA Try.prog 165) .e) (aA Try.prog 101) .e)) (aA Try.prog 21) (.n (.n (.n .e (aA Try.prog 149) .e) (aA Try.prog 85) .e) (aA Try.prog 53) (.n .e (aA Try.prog 117) .e))) (aA Try.prog 13) (.n (.n (.n (.n .e (aA Try.prog 141) .e) (aA Try.prog 77) .e) (aA Try.prog 45) (.n .e (aA Try.prog 109) .e)) (aA Try.prog 29) (.n (.n (.n .e (aA Try.prog 157) .e) (aA Try.prog 93) .e) (aA Try.prog 61) (.n .e (aA Try.prog 125) .e)))))) none (.n (.n (.n (.n (.n (.n (.n .e (aA Try.prog 128) .e) (aA Try.prog 64) .e) (aA Try.prog 32) (.n (.n .e (aA Try.prog 160) .e) (aA Try.prog 96) .e)) (aA Try.prog 16) (.n (.n (.n .e (aA Try.prog 144) .e) (aA Try.prog 80) .e) (aA Try.prog 48) (.n .e (aA Try.prog 112) .e))) (aA Try.prog 8) (.n (.n (.n (.n .e (aA Try.prog 136) .e) (aA Try.prog 72) .e) (aA Try.prog 40) (.n .e (aA Try.prog 104) .e)) (aA Try.prog 24) (.n (.n (.n .e (aA Try.prog 152) .e) (aA Try.prog 88) .e) (aA Try.prog 56) (.n .e (aA Try.prog 120) .e)))) (aA Try.prog 4) (.n (.n (.n (.n (.n .e (aA Try.prog 132) .e) (aA Try.prog 68) .e) (aA Try.prog 36) (.n (.n .e (aA Try.prog 164) .e) (aA Try.prog 100) .e)) (aA Try.prog 20) (.n (.n (.n .e (aA Try.prog 148) .e) (aA Try.prog 84) .e) (aA Try.prog 52) (.n .e (aA Try.prog 116) .e))) (aA Try.prog 12) (.n (.n (.n (.n .e (aA Try.prog 140) .e) (aA Try.prog 76) .e) (aA Try.prog 44) (.n .e (aA Try.prog 108) .e)) (aA Try.prog 28) (.n (.n (.n .e (aA Try.prog 156) .e) (aA Try.prog 92) .e) (aA Try.prog 60) (.n .e (aA Try.prog 124) .e))))) none (.n (.n (.n (.n (.n (.n .e (aA Try.prog 130) .e) (aA Try.prog 66) .e) (aA Try.prog 34) (.n (.n .e (aA Try.prog 162) .e) (aA Try.prog 98) .e)) (aA Try.prog 18) (.n (.n (.n .e (aA Try.prog 146) .e) (aA Try.prog 82) .e) (aA Try.prog 50) (.n .e (aA Try.prog 114) .e))) (aA Try.prog 10) (.n (.n (.n (.n .e (aA Try.prog 138) .e) (aA Try.prog 74) .e) (aA Try.prog 42) (.n .e (aA Try.prog 106) .e)) (aA Try.prog 26) (.n (.n (.n .e (aA Try.prog 154) .e) (aA Try.prog 90) .e) (aA Try.prog 58) (.n .e (aA Try.prog 122) .e)))) (aA Try.prog 6) (.n (.n (.n (.n (.n .e (aA Try.prog 134) .e) (aA Try.prog 70) .e) (aA Try.prog 38) (.n .e (aA Try.prog 102) .e)) (aA Try.prog 22) (.n (.n (.n .e (aA Try.prog 150) .e) (aA Try.prog 86) .e) (aA Try.prog 54) (.n .e (aA Try.prog 118) .e))) (aA Try.prog 14) (.n (.n (.n (.n .e (aA Try.prog 142) .e) (aA Try.prog 78) .e) (aA Try.prog 46) (.n .e (aA Try.prog 110) .e)) (aA Try.prog 30) (.n (.n (.n .e (aA Try.prog 158) .e) (aA Try.prog 94) .e) (aA Try.prog 62) (.n .e (aA Try.prog 126) .e)))))))
set_option maxRecDepth 100000 in
theorem IV : FPok Try.prog fp := FPok.of (TabOk.n TabOk.no (TabOk.n TabOk.no (TabOk.n TabOk.at (TabOk.n TabOk.at (TabOk.n TabOk.at (TabOk.n TabOk.at (TabOk.n TabOk.at (TabOk.n TabOk.at TabOk.e TabOk.e) TabOk.e) (TabOk.n TabOk.at (TabOk.n TabOk.at TabOk.e TabOk.e) TabOk.e)) (TabOk.n TabOk.at (TabOk.n TabOk.at (TabOk.n TabOk.at TabOk.e TabOk.e) TabOk.e) (TabOk.n TabOk.at TabOk.e TabOk.e))) (TabOk.n TabOk.at (TabOk.n TabOk.at (TabOk.n TabOk.at (TabOk.n TabOk.at TabOk.e TabOk.e) TabOk.e) (TabOk.n TabOk.at TabOk.e TabOk.e)) (TabOk.n TabOk.at (TabOk.n TabOk.at (TabOk.n TabOk.at TabOk.e TabOk.e) TabOk.e) (TabOk.n TabOk.at TabOk.e TabOk.e)))) (TabOk.n TabOk.at (TabOk.n TabOk.at (TabOk.n TabOk.at (TabOk.n TabOk.at (TabOk.n TabOk.at TabOk.e TabOk.e) TabOk.e) (TabOk.n TabOk.at (TabOk.n TabOk.at TabOk.e TabOk.e) TabOk.e)) (TabOk.n TabOk.at (TabOk.n TabOk.at (TabOk.n TabOk.at TabOk.e TabOk.e) TabOk.e) (TabOk.n TabOk.at TabOk.e TabOk.e))) (TabOk.n TabOk.at (TabOk.n TabOk.at (TabOk.n TabOk.at (TabOk.n TabOk.at TabOk.e TabOk.e) TabOk.e) (TabOk.n TabOk.at TabOk.e TabOk.e)) (TabOk.n TabOk.at (TabOk.n TabOk.at (TabOk.n TabOk.at TabOk.e TabOk.e) TabOk.e) (TabOk.n TabOk.at TabOk.e TabOk.e))))) (TabOk.n TabOk.at (TabOk.n TabOk.at (TabOk.n TabOk.at (TabOk.n TabOk.at (TabOk.n TabOk.at (TabOk.n TabOk.at TabOk.e TabOk.e) TabOk.e) (TabOk.n TabOk.at (TabOk.n TabOk.at TabOk.e TabOk.e) TabOk.e)) (TabOk.n TabOk.at (TabOk.n TabOk.at (TabOk.n TabOk.at TabOk.e TabOk.e) TabOk.e) (TabOk.n TabOk.at TabOk.e TabOk.e))) (TabOk.n TabOk.at (TabOk.n TabOk.at (TabOk.n TabOk.at (TabOk.n TabOk.at TabOk.e TabOk.e) TabOk.e) (TabOk.n TabOk.at TabOk.e TabOk.e)) (TabOk.n TabOk.at (TabOk.n TabOk.at (TabOk.n TabOk.at TabOk.e TabOk.e) TabOk.e) (TabOk.n TabOk.at TabOk.e TabOk.e)))) (TabOk.n TabOk.at (TabOk.n TabOk.at (TabOk.n TabOk.at (TabOk.n TabOk.at (TabOk.n TabOk.at TabOk.e TabOk.e) TabOk.e) (TabOk.n TabOk.at (TabOk.n TabOk.at TabOk.e TabOk.e) TabOk.e)) (TabOk.n TabOk.at (TabOk.n TabOk.at (TabOk.n TabOk.at TabOk.e TabOk.e) TabOk.e) (TabOk.n TabOk.at TabOk.e TabOk.e))) (TabOk.n TabOk.at (TabOk.n TabOk.at (TabOk.n TabOk.at (TabOk.n TabOk.at TabOk.e TabOk.e) TabOk.e) (TabOk.n TabOk.at TabOk.e TabOk.e)) (TabOk.n TabOk.at (TabOk.n TabOk.at (TabOk.n TabOk.at TabOk.e TabOk.e) TabOk.e) (TabOk.n TabOk.at TabOk.e TabOk.e)))))) (TabOk.n TabOk.no (TabOk.n TabOk.at (TabOk.n TabOk.at (TabOk.n TabOk.at (TabOk.n TabOk.at (TabOk.n TabOk.at (TabOk.n TabOk.at TabOk.e TabOk.e) TabOk.e) (TabOk.n TabOk.at (TabOk.n TabOk.at TabOk.e TabOk.e) TabOk.e)) (TabOk.n TabOk.at (TabOk.n TabOk.at (TabOk.n TabOk.at TabOk.e TabOk.e) TabOk.e) (TabOk.n TabOk.at TabOk.e TabOk.e))) (TabOk.n TabOk.at (TabOk.n TabOk.at (TabOk.n TabOk.at (TabOk.n TabOk.at TabOk.e TabOk.e) TabOk.e) (TabOk.n TabOk.at TabOk.e TabOk.e)) (TabOk.n TabOk.at (TabOk.n TabOk.at (TabOk.n TabOk.at TabOk.e TabOk.e) TabOk.e) (TabOk.n TabOk.at TabOk.e TabOk.e)))) (TabOk.n TabOk.at (TabOk.n TabOk.at (TabOk.n TabOk.at (TabOk.n TabOk.at (TabOk.n TabOk.at TabOk.e TabOk.e) TabOk.e) (TabOk.n TabOk.at (TabOk.n TabOk.at TabOk.e TabOk.e) TabOk.e)) (TabOk.n TabOk.at (TabOk.n TabOk.at (TabOk.n TabOk.at TabOk.e TabOk.e) TabOk.e) (TabOk.n TabOk.at TabOk.e TabOk.e))) (TabOk.n TabOk.at (TabOk.n TabOk.at (TabOk.n TabOk.at (TabOk.n TabOk.at TabOk.e TabOk.e) TabOk.e) (TabOk.n TabOk.at TabOk.e TabOk.e)) (TabOk.n TabOk.at (TabOk.n TabOk.at (TabOk.n TabOk.at TabOk.e TabOk.e) TabOk.e) (TabOk.n TabOk.at TabOk.e TabOk.e))))) (TabOk.n TabOk.at (TabOk.n TabOk.at (TabOk.n TabOk.at (TabOk.n TabOk.at (TabOk.n TabOk.at (TabOk.n TabOk.at TabOk.e TabOk.e) TabOk.e) (TabOk.n TabOk.at (TabOk.n TabOk.at TabOk.e TabOk.e) TabOk.e)) (TabOk.n TabOk.at (TabOk.n TabOk.at (TabOk.n TabOk.at TabOk.e TabOk.e) TabOk.e) (TabOk.n TabOk.at TabOk.e TabOk.e))) (TabOk.n TabOk.at (TabOk.n TabOk.at (TabOk.n TabOk.at (TabOk.n TabOk.at TabOk.e TabOk.e) TabOk.e) (TabOk.n TabOk.at TabOk.e TabOk.e)) (TabOk.n TabOk.at (TabOk.n TabOk.at (TabOk.n TabOk.at TabOk.e TabOk.e) TabOk.e) (TabOk.n TabOk.at TabOk.e TabOk.e)))) (TabOk.n TabOk.at (TabOk.n TabOk.at (TabOk.n TabOk.at (TabOk.n TabOk.at (TabOk.n TabOk.at TabOk.e TabOk.e) TabOk.e) (TabOk.n TabOk.at TabOk.e TabOk.e)) (TabOk.n TabOk.at (TabOk.n TabOk.at (TabOk.n TabOk.at TabOk.e TabOk.e) TabOk.e) (TabOk.n TabOk.at TabOk.e TabOk.e))) (TabOk.n TabOk.at (TabOk.n TabOk.at (TabOk.n TabOk.at (TabOk.n TabOk.at TabOk.e TabOk.e) TabOk.e) (TabOk.n TabOk.at TabOk.e TabOk.e)) (TabOk.n TabOk.at (TabOk.n TabOk.at (TabOk.n TabOk.at TabOk.e TabOk.e) TabOk.e) (TabOk.n TabOk.at TabOk.e TabOk.e)))))))
def Zj : Pos := (.o (.i (.i (.o .h))))
def Zy : Pos := (.o (.o (.o (.o (.o (.o (.o (.o (.o (.o (.o (.o (.o (.o .h))))))))))))))
def Zk : Pos := (.o (.o (.o (.o (.o (.o (.o (.o (.o (.o (.o (.o (.o (.o (.o (.o .h))))))))))))))))
def ZA : T RF := (.n (.n (.n (.n (.n (.n (.n (.n .e (aA Try.prog 127) .e) (aA Try.prog 63) .e) (aA Try.prog 31) (.n (.n .e (aA Try.prog 159) .e) (aA Try.prog 95) .e)) (aA Try.prog 15) (.n (.n (.n .e (aA Try.prog 143) .e) (aA Try.prog 79) .e) (aA Try.prog 47) (.n .e (aA Try.prog 111) .e))) (aA Try.prog 7) (.n (.n (.n (.n .e (aA Try.prog 135) .e) (aA Try.prog 71) .e) (aA Try.prog 39) (.n .e (aA Try.prog 103) .e)) (aA Try.prog 23) (.n (.n (.n .e (aA Try.prog 151) .e) (aA Try.prog 87) .e) (aA Try.prog 55) (.n .e (aA Try.prog 119) .e)))) (aA Try.prog 3) (.n (.n (.n (.n (.n .e (aA Try.prog 131) .e) (aA Try.prog 67) .e) (aA Try.prog 35) (.n (.n .e (aA Try.prog 163) .e) (aA Try.prog 99) .e)) (aA Try.prog 19) (.n (.n (.n .e (aA Try.prog 147) .e) (aA Try.prog 83) .e) (aA Try.prog 51) (.n .e (aA Try.prog 115) .e))) (aA Try.prog 11) (.n (.n (.n (.n .e (aA Try.prog 139) .e) (aA Try.prog 75) .e) (aA Try.prog 43) (.n .e (aA Try.prog 107) .e)) (aA Try.prog 27) (.n (.n (.n .e (aA Try.prog 155) .e) (aA Try.prog 91) .e) (aA Try.prog 59) (.n .e (aA Try.prog 123) .e))))) none (.n (.n (.n (.n (.n (.n .e (aA Try.prog 129) .e) (aA Try.prog 65) .e) (aA Try.prog 33) (.n (.n .e (aA Try.prog 161) .e) (aA Try.prog 97) .e)) (aA Try.prog 17) (.n (.n (.n .e (aA Try.prog 145) .e) (aA Try.prog 81) .e) (aA Try.prog 49) (.n .e (aA Try.prog 113) .e))) (aA Try.prog 9) (.n (.n (.n (.n .e (aA Try.prog 137) .e) (aA Try.prog 73) .e) (aA Try.prog 41) (.n .e (aA Try.prog 105) .e)) (aA Try.prog 25) (.n (.n (.n .e (aA Try.prog 153) .e) (aA Try.prog 89) .e) (aA Try.prog 57) (.n .e (aA Try.prog 121) .e)))) (aA Try.prog 5) (.n (.n (.n (.n (.n .e (aA Try.prog 133) .e) (aA Try.prog 69) .e) (aA Try.prog 37) (.n (.n .e (aA Try.prog 165) .e) (aA Try.prog 101) .e)) (some Zd) (.n (.n (.n .e (aA Try.prog 149) .e) (aA Try.prog 85) .e) (aA Try.prog 53) (.n .e (aA Try.prog 117) .e))) (aA Try.prog 13) (.n (.n (.n (.n .e (aA Try.prog 141) .e) (aA Try.prog 77) .e) (aA Try.prog 45) (.n .e (aA Try.prog 109) .e)) (aA Try.prog 29) (.n (.n (.n .e (aA Try.prog 157) .e) (aA Try.prog 93) .e) (aA Try.prog 61) (.n .e (aA Try.prog 125) .e)))))) none (.n (.n (.n (.n (.n (.n (.n .e (aA Try.prog 128) .e) (aA Try.prog 64) .e) (aA Try.prog 32) (.n (.n .e (aA Try.prog 160) .e) (aA Try.prog 96) .e)) (aA Try.prog 16) (.n (.n (.n .e (aA Try.prog 144) .e) (aA Try.prog 80) .e) (aA Try.prog 48) (.n .e (aA Try.prog 112) .e))) (aA Try.prog 8) (.n (.n (.n (.n .e (aA Try.prog 136) .e) (aA Try.prog 72) .e) (aA Try.prog 40) (.n .e (aA Try.prog 104) .e)) (aA Try.prog 24) (.n (.n (.n .e (aA Try.prog 152) .e) (aA Try.prog 88) .e) (aA Try.prog 56) (.n .e (aA Try.prog 120) .e)))) (aA Try.prog 4) (.n (.n (.n (.n (.n .e (aA Try.prog 132) .e) (aA Try.prog 68) .e) (aA Try.prog 36) (.n (.n .e (aA Try.prog 164) .e) (aA Try.prog 100) .e)) (aA Try.prog 20) (.n (.n (.n .e (aA Try.prog 148) .e) (aA Try.prog 84) .e) (aA Try.prog 52) (.n .e (aA Try.prog 116) .e))) (aA Try.prog 12) (.n (.n (.n (.n .e (aA Try.prog 140) .e) (aA Try.prog 76) .e) (aA Try.prog 44) (.n .e (aA Try.prog 108) .e)) (aA Try.prog 28) (.n (.n (.n .e (aA Try.prog 156) .e) (aA Try.prog 92) .e) (aA Try.prog 60) (.n .e (aA Try.prog 124) .e))))) none (.n (.n (.n (.n (.n (.n .e (aA Try.prog 130) .e) (aA Try.prog 66) .e) (aA Try.prog 34) (.n (.n .e (aA Try.prog 162) .e) (aA Try.prog 98) .e)) (aA Try.prog 18) (.n (.n (.n .e (aA Try.prog 146) .e) (aA Try.prog 82) .e) (aA Try.prog 50) (.n .e (aA Try.prog 114) .e))) (aA Try.prog 10) (.n (.n (.n (.n .e (aA Try.prog 138) .e) (aA Try.prog 74) .e) (aA Try.prog 42) (.n .e (aA Try.prog 106) .e)) (aA Try.prog 26) (.n (.n (.n .e (aA Try.prog 154) .e) (aA Try.prog 90) .e) (aA Try.prog 58) (.n .e (aA Try.prog 122) .e)))) (aA Try.prog 6) (.n (.n (.n (.n (.n .e (aA Try.prog 134) .e) (aA Try.prog 70) .e) (aA Try.prog 38) (.n .e (aA Try.prog 102) .e)) (aA Try.prog 22) (.n (.n (.n .e (aA Try.prog 150) .e) (aA Try.prog 86) .e) (aA Try.prog 54) (.n .e (aA Try.prog 118) .e))) (aA Try.prog 14) (.n (.n (.n (.n .e (aA Try.prog 142) .e) (aA Try.prog 78) .e) (aA Try.prog 46) (.n .e (aA Try.prog 110) .e)) (aA Try.prog 30) (.n (.n (.n .e (aA Try.prog 158) .e) (aA Try.prog 94) .e) (aA Try.prog 62) (.n .e (aA Try.prog 126) .e)))))))
def Rt : Code := match Try.f21.body with
 | some c => c
 | none => .skip
def Pf : T Unit := (.n (.n (.n .e (some ()) .e) (some ()) (.n .e (some ()) .e)) (some ()) (.n (.n .e (some ()) .e) (some ()) (.n .e none (.n .e (some ()) .e))))
def QH : T Unit := (.n (.n .e none (.n (.n (.n .e none (.n (.n .e none (.n (.n (.n .e (some ()) .e) none .e) none .e)) none .e)) none .e) none (.n .e none (.n .e none (.n (.n (.n .e none (.n (.n (.n .e (some ()) .e) none .e) none .e)) none .e) none .e))))) none (.n (.n (.n .e none (.n (.n .e none (.n .e none (.n .e none (.n (.n .e none (.n .e (some ()) .e)) none .e)))) none .e)) none .e) none .e))
def NH : X := ⟨(.n (.n (.n .e (some (.sl (.o (.i (.i (.i (.i (.o (.o (.i (.o (.o .h)))))))))) 0 3 2 1)) .e) (some (.sl (.o (.i (.o (.o (.i (.o (.i (.o (.o .h))))))))) 0 1 0 3)) (.n .e (some (.i .i64 (.ofNat 0))) .e)) (some (.b false)) (.n (.n .e (some (.sl (.i (.o (.o (.i (.o (.i (.i (.i (.o (.i .h)))))))))) 0 3 2 1)) .e) (some (.i .i64 (.ofNat 0))) (.n .e none (.n .e (some (.tp [(.sl (.o (.i (.o (.o (.i (.o (.i (.o (.o .h))))))))) 0 1 0 3), (.i .i64 (.ofNat 0))])) .e)))), (.n (.n .e none (.n (.n (.n .e none (.n (.n .e none (.n (.n (.n .e (some (.cells false [(.o (.i .i64 (.ofNat 2)) 0), (.o (.i .i64 (.ofNat 0)) 0), (.o (.i .i64 (.ofNat 1)) 0)] 1)) .e) none .e) none .e)) none .e)) none .e) none (.n .e none (.n .e none (.n (.n (.n .e none (.n (.n (.n .e (some (.cells false [(.o (.i .i64 (.ofNat 1)) 0), (.o (.i .i64 (.ofNat 1)) 1), (.o (.i .i64 (.ofNat 2)) 2)] 3)) .e) none .e) none .e)) none .e) none .e))))) none (.n (.n (.n .e none (.n (.n .e none (.n .e none (.n .e none (.n (.n .e none (.n .e (some (.cells false [(.o (.i .i64 (.ofNat 1)) 0), (.o (.i .i64 (.ofNat 2)) 1), (.o (.i .i64 (.ofNat 1)) 2)] 3)) .e)) none .e)))) none .e)) none .e) none .e)), (.o (.o (.o (.o (.i (.i (.i (.o (.o (.o (.o .h))))))))))), none⟩
set_option maxRecDepth 1000000 in
theorem Tz : Wl Pf QH (exec Try.prog fp 100000 (aT Try.prog Try.f21.ntmps (Code.pre 3 Rt)) ⟨.e, .e, .h, none⟩) = some NH := by kernel_rfl
def QT : T Unit := (.n (.n (.n (.n .e (some ()) .e) (some ()) .e) (some ()) (.n (.n .e (some ()) .e) (some ()) .e)) (some ()) (.n (.n (.n .e (some ()) .e) (some ()) .e) (some ()) (.n .e (some ()) (.n .e (some ()) .e))))
def NU : T Unit := (.n (.n .e none (.n (.n (.n .e none (.n (.n .e none (.n (.n (.n .e (some ()) .e) none .e) none .e)) none .e)) none .e) none (.n .e none (.n .e none (.n (.n (.n .e none (.n (.n (.n .e (some ()) .e) none .e) none .e)) none .e) none .e))))) none (.n (.n (.n .e none (.n (.n .e none (.n .e none (.n .e none (.n (.n .e none (.n .e (some ()) .e)) none .e)))) none (.n .e none (.n .e none (.n (.n (.n (.n .e none (.n .e (some ()) .e)) none .e) none .e) none .e))))) none .e) none (.n .e none (.n (.n .e none (.n .e none (.n (.n .e none (.n (.n .e none (.n (.n .e (some ()) .e) none .e)) none .e)) none .e))) none .e))))
def Nw : X := ⟨(.n (.n (.n (.n .e (some (.i .i64 (.ofNat 0))) .e) (some (.sl (.o (.i (.i (.i (.i (.o (.o (.i (.o (.o .h)))))))))) 0 3 2 1)) .e) (some (.sl (.o (.i (.o (.o (.i (.o (.i (.o (.o .h))))))))) 0 1 0 3)) (.n (.n .e (some (.i .i64 (.ofNat 0))) .e) (some (.i .i64 (.ofNat 0))) .e)) (some (.b false)) (.n (.n (.n .e (some (.pt (.i (.o (.o (.i (.i (.i (.i (.o (.o (.o (.i .h))))))))))) 0 0)) .e) (some (.sl (.i (.o (.o (.i (.o (.i (.i (.i (.o (.i .h)))))))))) 0 3 2 1)) .e) (some (.i .i64 (.ofNat 0))) (.n .e (some (.pt (.i (.i (.i (.o (.i (.i (.o (.i (.o (.i (.o .h))))))))))) 0 0)) (.n .e (some (.tp [(.sl (.o (.i (.o (.o (.i (.o (.i (.o (.o .h))))))))) 0 1 0 3), (.i .i64 (.ofNat 0))])) .e)))), (.n (.n .e none (.n (.n (.n .e none (.n (.n .e none (.n (.n (.n .e (some (.cells false [(.o (.i .i64 (.ofNat 2)) 0), (.o (.i .i64 (.ofNat 0)) 0), (.o (.i .i64 (.ofNat 1)) 0)] 1)) .e) none .e) none .e)) none .e)) none .e) none (.n .e none (.n .e none (.n (.n (.n .e none (.n (.n (.n .e (some (.cells false [(.o (.i .i64 (.ofNat 1)) 0), (.o (.i .i64 (.ofNat 1)) 1), (.o (.i .i64 (.ofNat 2)) 2)] 3)) .e) none .e) none .e)) none .e) none .e))))) none (.n (.n (.n .e none (.n (.n .e none (.n .e none (.n .e none (.n (.n .e none (.n .e (some (.cells false [(.o (.i .i64 (.ofNat 1)) 0), (.o (.i .i64 (.ofNat 2)) 1), (.o (.i .i64 (.ofNat 1)) 2)] 3)) .e)) none .e)))) none (.n .e none (.n .e none (.n (.n (.n (.n .e none (.n .e (some (.cells false [(.o (.i .i64 (.ofNat 0)) 0), (.o (.i .i64 (.ofNat 1)) 0)] 1)) .e)) none .e) none .e) none .e))))) none .e) none (.n .e none (.n (.n .e none (.n .e none (.n (.n .e none (.n (.n .e none (.n (.n .e (some (.cells false [(.o (.i .i64 (.ofNat 30)) 0), (.o (.i .i64 (.ofNat 30)) 0)] 1)) .e) none .e)) none .e)) none .e))) none .e)))), (.o (.i (.o (.i (.i (.i (.i (.o (.o (.o (.i .h))))))))))), none⟩
theorem TQ : Wl QT NU (exec Try.prog fp 100000 (aT Try.prog Try.f21.ntmps (Code.pre 2 (Code.suf 3 Rt))) NH) = some Nw := by kernel_rfl
theorem Vs : KT Try.prog fp 100000 Try.f21.ntmps (Code.suf 5 Rt) Nw .h = true := by kernel_rfl
theorem t21 : TrueCall Try.prog 21 := by
 refine TrueCall.of_body (s := .h) (c := Rt) Try.func21 (by kernel_rfl) (by kernel_rfl) (by kernel_rfl) ?_
 obtain ⟨e, Z, h1, h2, h3⟩ := Mp IV Vs
 exact ⟨e, Z, zX IV Tz (zX IV TQ (by rw [show Code.suf 2 (Code.suf 3 Rt) = Code.suf 5 Rt from by kernel_rfl]; exact h1)), h2, h3⟩
end Go.Ev
end
