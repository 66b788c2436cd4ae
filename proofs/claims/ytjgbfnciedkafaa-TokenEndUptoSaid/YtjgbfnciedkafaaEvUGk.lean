import Derived.Test.YtjgbfnciedkafaaEvUGf
set_option linter.all false
namespace Go.Ev
open Go.Proofs
set_option maxRecDepth 100000
def i12 : Pos := .o (.o (.i .h))
def i13 : Pos := .i (.o (.i .h))
def slC : List Ln → D
  | [] => .ns
  | _ :: s => .sl i14 0 (s.length + 1) s.length 3
noncomputable def blC : List Ln → Option Ev.C
  | [] => some .hole
  | a :: s => some (.cells false ((lnF (a :: s)).map fun d => Cell.o d s.length) (s.length + 1))
def wcS (row lrow : List D) : T D := (.n (.n (.n (.n .e (some (.pt i12 0 0)) .e) none .e) none (.n .e (some (.pt (.i (.o .h)) 0 0)) .e)) none (.n .e none (.n (.n .e none (.n .e (some (.fn p135 [] [.pl row 0, .pl lrow 0])) .e)) none .e)))
noncomputable def wcL (M : Memo) (m : Met) (row lrow : List D) : Lns (List Ln) where
  o := fun i s => match i with
    | 1 => some (.map (mapL M))
    | 4 => some (.map (metL m))
    | 5 => some (.cells false [.o (.mp (.o (.o .h))) 0] 1)
    | 12 => some (.cells false [.o (slC s) 0] 1)
    | 13 => some (.lp (wcS row lrow) [p28] 36 (rfA (bodyC Try.f91) 1) (rfB (bodyC Try.f91) 1) .ready none)
    | 14 => blC s
    | _ => none
theorem wcS_kp {row lrow : List D} (h1 : PuL row) (h2 : PuL lrow) : ∀ s d, (wcS row lrow).get s = some d → Kp 13 d := by
  show TAll (fun _ d => Kp 13 d) _
  unfold wcS
  repeat' first | exact TAll.e | refine TAll.some ?_ ?_ ?_ | refine TAll.none ?_ ?_
  all_goals simp [Kp, KpL, Pu, PuL, h1, h2, i12, Pos.nat]
def wcI (m : Met) (h s : List Ln) : Prop := s = h.filter fun l => decide ((l, true) ∈ m)
def wcR (m : Met) (s : List Ln) (a : Ln) (s' : List Ln) (g : Bool) : Prop := g = true ∧ s' = s ++ bif decide ((a, true) ∈ m) then [a] else []
section
variable {M : Memo} {m : Met} {row lrow : List D} (h1 : PuL row) (h2 : PuL lrow)
include h1 h2
theorem wc_kp (s : List Ln) : KpO 18 ((wcL M m row lrow).base s) := by
  show TAll (fun id c => id.nat < 18 ∧ KpC 18 c) _
  cases s with
  | nil =>
    unfold Lns.base trL wcL blC slC
    repeat' first | exact TAll.e | refine TAll.some ?_ ?_ ?_ | refine TAll.none ?_ ?_
    all_goals refine ⟨by simp [Pos.nat], ?_⟩
    all_goals first
      | exact mapL_kp
      | exact metL_kp
      | exact fun s d h => (wcS_kp h1 h2 s d h).up (by omega)
      | trivial
      | (refine KpL.all ?_; simp [KpL, Kp, Cell.d, Pu, Pos.nat])
  | cons a s =>
    unfold Lns.base trL wcL blC slC
    repeat' first | exact TAll.e | refine TAll.some ?_ ?_ ?_ | refine TAll.none ?_ ?_
    all_goals refine ⟨by simp [Pos.nat], ?_⟩
    all_goals first
      | exact mapL_kp
      | exact metL_kp
      | exact fun s d h => (wcS_kp h1 h2 s d h).up (by omega)
      | exact lnF_kp _ _ _ _
      | (refine KpL.all ?_; simp [KpL, Kp, Cell.d, Pu, i14, Pos.nat])
end
noncomputable def trS (x1 x2 x3 x4 x5 x6 x7 x8 x9 x10 x11 x12 x13 x14 x15 x16 x17 x18 x19 x20 x23 : Option Ev.C) : T Ev.C := .n (.n (.n (.n (.n .e x16 .e) x8 .e) x4 (.n (.n .e x20 .e) x12 .e)) x2 (.n (.n (.n .e x18 .e) x10 .e) x6 (.n .e x14 .e))) x1 (.n (.n (.n (.n .e x17 .e) x9 .e) x5 (.n .e x13 .e)) x3 (.n (.n (.n .e x19 .e) x11 .e) x7 (.n (.n .e x23 .e) x15 .e)))
def n24 : Pos := .o (.o (.o (.i .h)))
section
variable {M : Memo} {m : Met} {row lrow : List D} (h1 : PuL row) (h2 : PuL lrow)
include h1 h2
theorem wcS_kp14 : KpC 14 (.lp (wcS row lrow) [p28] 36 (rfA (bodyC Try.f91) 1) (rfB (bodyC Try.f91) 1) .ready none) := fun s d h => (wcS_kp h1 h2 s d h).up (by omega)
set_option maxHeartbeats 1000000 in
theorem wc_ok {n : Int} {l : Ln} (hm : ∀ e ∈ m, lnWf e.1 ∧ e.2 = true) (hwf : ∀ a, rdB n l a = true → lnWf a) (hlen : (rdsL n l).length ≤ 1000) : LnsOk (wcL M m row lrow) i13 (wcI m) (wcR m) n l := by
  refine ⟨by simp [i13, Pos.nat], fun s => wc_kp h1 h2 s, ?_, ?_⟩
  · rintro h s a s' _ hI ⟨_, rfl⟩
    have hI : s = h.filter fun l => decide ((l, true) ∈ m) := hI
    show s ++ _ = (h ++ [a]).filter _
    rw [hI, List.filter_append]
    cases hd : decide ((a, true) ∈ m) with
    | true => rw [List.filter_cons_of_pos (by exact hd)]; rfl
    | false => rw [List.filter_cons_of_neg (by rw [hd]; simp)]; rfl
  · intro h s hI a hpre sl d K k
    have hI : s = h.filter fun l => decide ((l, true) ∈ m) := hI
    have hsl : s.length < 1000 := by
      have q1 := hpre.length_le
      have q2 := List.length_filter_le (fun l => decide ((l, true) ∈ m)) h
      rw [List.length_append, List.length_singleton] at q1
      rw [hI]; omega
    have haw : lnWf a := hwf a (mem_rdsL.1 (hpre.subset (by simp)))
    suffices hs : ∃ g ob', (∃ s', wcR m s a s' g ∧ ob' = (wcL M m row lrow).ob n l s') ∧ RndOk Try.prog i13 [.ag [.i .i64 a.k, .i .i64 a.c, .i .i64 a.t]] ((wcL M m row lrow).ob n l s) nb5 none (.b g) ob' nb5 none by
      obtain ⟨g, _, ⟨s', hR, rfl⟩, HR⟩ := hs
      exact WRnd.at HR (k s' g hR)
    have kpo := ob_kp (S := wcL M m row lrow) (n := n) (l := l) (fun s => wc_kp h1 h2 s)
    by_cases hin : (a, true) ∈ m
    · have hR : ∀ s', s' = s ++ [a] → wcR m s a s' true := fun s' e => ⟨rfl, by rw [e, decide_eq_true hin]; rfl⟩
      cases s with
      | nil =>
        refine RndOk.runEF2 (sl0 := wcS row lrow) rfl rc91a1_ok rc91b1_ok ⟨_, rfl, ?_⟩
        unfold Lns.ob trL wcL wcS blC slC
        conv => whnf
        repeat' first | ((first | with_reducible apply WB.tt | with_reducible apply WB.ff | refine Rn.seq ?_ | refine Rn.reg ?_ | refine Rn.drw ?_ | refine Rn.blk ?_ | refine Rn.skip ?_ | refine Rn.ret ?_ | refine Rn.exit ?_ | refine Rn.cond rfl ?_ | refine And.intro (InR.i64 (by omega) (by omega)) ?_ | refine And.intro (show _ ≠ (0 : Int) by omega) ?_ | refine WIx.intsN (by omega) ?_ | refine WIx.rowsN (by omega) ?_) <;> conv => whnf)
        refine ⟨rfl, rfl, _, _, _, _, _, _, rfl, ?_⟩
        conv => whnf
        repeat' first | ((first | with_reducible apply WB.tt | with_reducible apply WB.ff | refine Rn.seq ?_ | refine Rn.reg ?_ | refine Rn.drw ?_ | refine Rn.blk ?_ | refine Rn.skip ?_ | refine Rn.ret ?_ | refine Rn.exit ?_ | refine Rn.cond rfl ?_ | refine And.intro (InR.i64 (by omega) (by omega)) ?_ | refine And.intro (show _ ≠ (0 : Int) by omega) ?_ | refine WIx.intsN (by omega) ?_ | refine WIx.rowsN (by omega) ?_) <;> conv => whnf)
        refine WSt.lkpG ln_key (w := a) (M := m) (by rfl) (by rfl) (by rfl) haw (fun e he => (hm e he).1) (fun nn hn => ?_) (fun hn => absurd hin (hn true))
        obtain rfl : nn = true := (hm _ hn).2
        conv => whnf
        repeat' first | ((first | with_reducible apply WB.tt | with_reducible apply WB.ff | refine Rn.seq ?_ | refine Rn.reg ?_ | refine Rn.drw ?_ | refine Rn.blk ?_ | refine Rn.skip ?_ | refine Rn.ret ?_ | refine Rn.exit ?_ | refine Rn.cond rfl ?_ | refine And.intro (InR.i64 (by omega) (by omega)) ?_ | refine And.intro (show _ ≠ (0 : Int) by omega) ?_ | refine WIx.intsN (by omega) ?_ | refine WIx.rowsN (by omega) ?_) <;> conv => whnf)
        refine WSt.app_first (r := lnD a) rfl (.inl rfl) rfl rfl rfl rfl ?_; conv => whnf
        repeat' first | ((first | with_reducible apply WB.tt | with_reducible apply WB.ff | refine Rn.seq ?_ | refine Rn.reg ?_ | refine Rn.drw ?_ | refine Rn.blk ?_ | refine Rn.skip ?_ | refine Rn.ret ?_ | refine Rn.exit ?_ | refine Rn.cond rfl ?_ | refine And.intro (InR.i64 (by omega) (by omega)) ?_ | refine And.intro (show _ ≠ (0 : Int) by omega) ?_ | refine WIx.intsN (by omega) ?_ | refine WIx.rowsN (by omega) ?_) <;> conv => whnf)
        refine ⟨_, _, _, _, _, _, _, (trS (some (.map (mapL M))) none none (some (.map (metL m))) (some (.cells false [.o (.mp (.o (.o .h))) 0] 1)) none none none none none none (some (.cells false [.o (.sl nb7 0 1 0 3) 0] 1)) (some (.lp (wcS row lrow) [p28] 36 (rfA (bodyC Try.f91) 1) (rfB (bodyC Try.f91) 1) .ready none)) (some .hole) none none none (some (.cells false [.o (.i .i64 (kLo l)) 0, .o (.i .i64 (kHi l)) 0] 1)) (some (.cells false [.o (.i .i64 (cLo l)) 0, .o (.i .i64 (cHi n l)) 0] 1)) (some (.cells false [.o (.i .i64 (tLo l)) 0, .o (.i .i64 (tHi n l)) 0] 1)) (some (.cells false ((lnD a).map fun d => Cell.o d 0) 1))), (wcL M m row lrow).ob n l [a], rfl, rfl, n24, nb7, by simp [nb5, n24, Pos.nat], by simp [nb5, nb7, Pos.nat], Shr.kp ?_ ?_, ?_, [a], hR _ rfl, rfl⟩
        · unfold trS wcS
          repeat' first | exact T.le_e _ | refine T.le_some ?_ rfl ?_ | refine T.le_same ?_ ?_ | refine T.le_none ?_ ?_
        · show TAll (fun id c => id.nat < 24 ∧ KpC 24 c) _
          unfold trS
          repeat' first | exact TAll.e | refine TAll.some ?_ ?_ ?_ | refine TAll.none ?_ ?_
          all_goals refine ⟨by simp [Pos.nat], ?_⟩
          all_goals first
            | exact mapL_kp
            | exact metL_kp
            | exact fun s d h => (wcS_kp h1 h2 s d h).up (by omega)
            | trivial
            | (refine KpL.all ?_; simp [KpL, Kp, Cell.d, Pu, nb7, lnD, Pos.nat])
        · refine ⟨i14, i12, false, 1, 0, 3, 0, 1, 0, 1, lnD a, by simp [i14, nb5, Pos.nat], by simp [i12, i14, Pos.nat], rfl, by simp [PuL, Pu, lnD], rfl, rfl, ?_⟩
          show TAll (fun i ci => (i = i14 ∧ ci = .cells false ((lnD a).map fun d => Cell.o d 0) 1) ∨ (i = i12 ∧ ci = .cells false [.o (.sl i14 0 1 0 3) 0] 1) ∨ (i ≠ i14 ∧ i.nat < nb5.nat ∧ T.get (trS (some (.map (mapL M))) none none (some (.map (metL m))) (some (.cells false [.o (.mp (.o (.o .h))) 0] 1)) none none none none none none (some (.cells false [.o (.sl nb7 0 1 0 3) 0] 1)) (some (.lp (wcS row lrow) [p28] 36 (rfA (bodyC Try.f91) 1) (rfB (bodyC Try.f91) 1) .ready none)) (some .hole) none none none (some (.cells false [.o (.i .i64 (kLo l)) 0, .o (.i .i64 (kHi l)) 0] 1)) (some (.cells false [.o (.i .i64 (cLo l)) 0, .o (.i .i64 (cHi n l)) 0] 1)) (some (.cells false [.o (.i .i64 (tLo l)) 0, .o (.i .i64 (tHi n l)) 0] 1)) (some (.cells false ((lnD a).map fun d => Cell.o d 0) 1))) i = some ci ∧ KpC 14 ci)) _
          unfold Lns.ob trL wcL
          repeat' first | exact TAll.e | refine TAll.some ?_ ?_ ?_ | refine TAll.none ?_ ?_
          all_goals first
            | exact .inl ⟨rfl, rfl⟩
            | exact .inr (.inl ⟨rfl, rfl⟩)
            | (refine .inr (.inr ⟨by decide, by simp [nb5, Pos.nat], rfl, ?_⟩)
               first
                 | exact mapL_kp
                 | exact metL_kp
                 | exact wcS_kp14 h1 h2
                 | (refine KpL.all ?_; simp [KpL, Kp, Cell.d, Pu, Pos.nat]))
      | cons b s =>
        have hs9 : s.length + 1 < 1000 := hsl
        refine RndOk.runE (sl0 := wcS row lrow) rfl rc91a1_ok rc91b1_ok ⟨_, rfl, ?_⟩
        unfold Lns.ob trL wcL wcS blC slC
        conv => whnf
        repeat' first | ((first | with_reducible apply WB.tt | with_reducible apply WB.ff | refine Rn.seq ?_ | refine Rn.reg ?_ | refine Rn.drw ?_ | refine Rn.blk ?_ | refine Rn.skip ?_ | refine Rn.ret ?_ | refine Rn.exit ?_ | refine Rn.cond rfl ?_ | refine And.intro (InR.i64 (by omega) (by omega)) ?_ | refine And.intro (show _ ≠ (0 : Int) by omega) ?_ | refine WIx.intsN (by omega) ?_ | refine WIx.rowsN (by omega) ?_) <;> conv => whnf)
        refine ⟨rfl, rfl, _, _, _, _, _, _, rfl, ?_⟩
        conv => whnf
        repeat' first | ((first | with_reducible apply WB.tt | with_reducible apply WB.ff | refine Rn.seq ?_ | refine Rn.reg ?_ | refine Rn.drw ?_ | refine Rn.blk ?_ | refine Rn.skip ?_ | refine Rn.ret ?_ | refine Rn.exit ?_ | refine Rn.cond rfl ?_ | refine And.intro (InR.i64 (by omega) (by omega)) ?_ | refine And.intro (show _ ≠ (0 : Int) by omega) ?_ | refine WIx.intsN (by omega) ?_ | refine WIx.rowsN (by omega) ?_) <;> conv => whnf)
        refine WSt.lkpG ln_key (w := a) (M := m) (by rfl) (by rfl) (by rfl) haw (fun e he => (hm e he).1) (fun nn hn => ?_) (fun hn => absurd hin (hn true))
        obtain rfl : nn = true := (hm _ hn).2
        conv => whnf
        repeat' first | ((first | with_reducible apply WB.tt | with_reducible apply WB.ff | refine Rn.seq ?_ | refine Rn.reg ?_ | refine Rn.drw ?_ | refine Rn.blk ?_ | refine Rn.skip ?_ | refine Rn.ret ?_ | refine Rn.exit ?_ | refine Rn.cond rfl ?_ | refine And.intro (InR.i64 (by omega) (by omega)) ?_ | refine And.intro (show _ ≠ (0 : Int) by omega) ?_ | refine WIx.intsN (by omega) ?_ | refine WIx.rowsN (by omega) ?_) <;> conv => whnf)
        refine WSt.app_one (ds := lnF (b :: s)) (r := lnD a) rfl rfl rfl rfl rfl rfl (by rw [lnF_len]; rfl) rfl rfl (by omega) rfl ?_; conv => whnf
        repeat' first | ((first | with_reducible apply WB.tt | with_reducible apply WB.ff | refine Rn.seq ?_ | refine Rn.reg ?_ | refine Rn.drw ?_ | refine Rn.blk ?_ | refine Rn.skip ?_ | refine Rn.ret ?_ | refine Rn.exit ?_ | refine Rn.cond rfl ?_ | refine And.intro (InR.i64 (by omega) (by omega)) ?_ | refine And.intro (show _ ≠ (0 : Int) by omega) ?_ | refine WIx.intsN (by omega) ?_ | refine WIx.rowsN (by omega) ?_) <;> conv => whnf)
        have hln : (s ++ [a]).length = s.length + 1 := by simp
        have hb : blC (b :: s ++ [a]) = some (.cells false ((lnF (b :: s) ++ lnD a).map fun d => Cell.o d (s.length + 1)) (s.length + 1 + 1)) := by
          show some (Ev.C.cells false ((lnF (b :: (s ++ [a]))).map fun d => Cell.o d (s ++ [a]).length) ((s ++ [a]).length + 1)) = _
          rw [hln, ← List.cons_append, lnF_snoc]
        have hs' : slC (b :: s ++ [a]) = .sl i14 0 (s.length + 1 + 1) (s.length + 1) 3 := by
          show D.sl i14 0 ((s ++ [a]).length + 1) (s ++ [a]).length 3 = _
          rw [hln]
        refine ⟨_, _, _, _, _, _, _, (wcL M m row lrow).ob n l (b :: s ++ [a]), rfl, rfl, ?_, b :: s ++ [a], hR _ rfl, rfl⟩
        show Shr _ ⟨.e, trL (some (.map (mapL M))) none none (some (.map (metL m))) (some (.cells false [.o (.mp (.o (.o .h))) 0] 1)) none none none none none none (some (.cells false [.o (slC (b :: s ++ [a])) 0] 1)) (some (.lp (wcS row lrow) [p28] 36 (rfA (bodyC Try.f91) 1) (rfB (bodyC Try.f91) 1) .ready none)) (blC (b :: s ++ [a])) none none none (some (.cells false [.o (.i .i64 (kLo l)) 0, .o (.i .i64 (kHi l)) 0] 1)) (some (.cells false [.o (.i .i64 (cLo l)) 0, .o (.i .i64 (cHi n l)) 0] 1)) (some (.cells false [.o (.i .i64 (tLo l)) 0, .o (.i .i64 (tHi n l)) 0] 1)), nb5, none⟩
        rw [hb, hs']
        have hpv : PuL (lnF (b :: s) ++ lnD a) := PuL_iff.2 fun d hd => by
          rcases List.mem_append.1 hd with h | h
          · exact PuL_iff.1 (lnF_pu _) d h
          · exact PuL_iff.1 (pl_ln a) d h
        refine Shr.of ?_ ?_ rfl rfl
        · exact Rel.e
        · unfold trL
          repeat' first | exact Rel.e | refine Rel.some ?_ ?_ ?_ | refine Rel.none ?_ ?_
          all_goals refine RO'.of (by simp [Pos.nat, nb5]) ?_
          all_goals first
            | exact ShC.kp mapL_kp
            | exact ShC.kp metL_kp
            | exact ShC.kp (n := 21) (fun s d h => (wcS_kp h1 h2 s d h).up (by omega))
            | exact ShC.grown (by omega) hpv
            | (refine ShC.kp (n := 21) (KpL.all ?_); simp [KpL, Kp, Cell.d, Pu, i14, Pos.nat])
    · have hR : ∀ s', s' = s → wcR m s a s' true := fun s' e => ⟨rfl, by rw [e, decide_eq_false hin, cond_false, List.append_nil]⟩
      cases s with
      | nil =>
        refine RndOk.runE (sl0 := wcS row lrow) rfl rc91a1_ok rc91b1_ok ⟨_, rfl, ?_⟩
        unfold Lns.ob trL wcL wcS blC slC
        conv => whnf
        repeat' first | ((first | with_reducible apply WB.tt | with_reducible apply WB.ff | refine Rn.seq ?_ | refine Rn.reg ?_ | refine Rn.drw ?_ | refine Rn.blk ?_ | refine Rn.skip ?_ | refine Rn.ret ?_ | refine Rn.exit ?_ | refine Rn.cond rfl ?_ | refine And.intro (InR.i64 (by omega) (by omega)) ?_ | refine And.intro (show _ ≠ (0 : Int) by omega) ?_ | refine WIx.intsN (by omega) ?_ | refine WIx.rowsN (by omega) ?_) <;> conv => whnf)
        refine ⟨rfl, rfl, _, _, _, _, _, _, rfl, ?_⟩
        conv => whnf
        repeat' first | ((first | with_reducible apply WB.tt | with_reducible apply WB.ff | refine Rn.seq ?_ | refine Rn.reg ?_ | refine Rn.drw ?_ | refine Rn.blk ?_ | refine Rn.skip ?_ | refine Rn.ret ?_ | refine Rn.exit ?_ | refine Rn.cond rfl ?_ | refine And.intro (InR.i64 (by omega) (by omega)) ?_ | refine And.intro (show _ ≠ (0 : Int) by omega) ?_ | refine WIx.intsN (by omega) ?_ | refine WIx.rowsN (by omega) ?_) <;> conv => whnf)
        refine WSt.lkpG ln_key (w := a) (M := m) (by rfl) (by rfl) (by rfl) haw (fun e he => (hm e he).1) (fun nn hn => absurd (show (a, true) ∈ m from by have h3 : nn = true := (hm _ hn).2; rw [h3] at hn; exact hn) hin) (fun hn => ?_)
        conv => whnf
        repeat' first | ((first | with_reducible apply WB.tt | with_reducible apply WB.ff | refine Rn.seq ?_ | refine Rn.reg ?_ | refine Rn.drw ?_ | refine Rn.blk ?_ | refine Rn.skip ?_ | refine Rn.ret ?_ | refine Rn.exit ?_ | refine Rn.cond rfl ?_ | refine And.intro (InR.i64 (by omega) (by omega)) ?_ | refine And.intro (show _ ≠ (0 : Int) by omega) ?_ | refine WIx.intsN (by omega) ?_ | refine WIx.rowsN (by omega) ?_) <;> conv => whnf)
        refine ⟨_, _, _, _, _, _, _, (wcL M m row lrow).ob n l ([]), rfl, rfl, Shr.kp ?_ (kpo _), [], hR _ rfl, rfl⟩
        unfold Lns.ob trL wcL wcS blC slC
        repeat' first | exact T.le_e _ | refine T.le_some ?_ rfl ?_ | refine T.le_same ?_ ?_ | refine T.le_none ?_ ?_
      | cons b s =>
        refine RndOk.runE (sl0 := wcS row lrow) rfl rc91a1_ok rc91b1_ok ⟨_, rfl, ?_⟩
        unfold Lns.ob trL wcL wcS blC slC
        conv => whnf
        repeat' first | ((first | with_reducible apply WB.tt | with_reducible apply WB.ff | refine Rn.seq ?_ | refine Rn.reg ?_ | refine Rn.drw ?_ | refine Rn.blk ?_ | refine Rn.skip ?_ | refine Rn.ret ?_ | refine Rn.exit ?_ | refine Rn.cond rfl ?_ | refine And.intro (InR.i64 (by omega) (by omega)) ?_ | refine And.intro (show _ ≠ (0 : Int) by omega) ?_ | refine WIx.intsN (by omega) ?_ | refine WIx.rowsN (by omega) ?_) <;> conv => whnf)
        refine ⟨rfl, rfl, _, _, _, _, _, _, rfl, ?_⟩
        conv => whnf
        repeat' first | ((first | with_reducible apply WB.tt | with_reducible apply WB.ff | refine Rn.seq ?_ | refine Rn.reg ?_ | refine Rn.drw ?_ | refine Rn.blk ?_ | refine Rn.skip ?_ | refine Rn.ret ?_ | refine Rn.exit ?_ | refine Rn.cond rfl ?_ | refine And.intro (InR.i64 (by omega) (by omega)) ?_ | refine And.intro (show _ ≠ (0 : Int) by omega) ?_ | refine WIx.intsN (by omega) ?_ | refine WIx.rowsN (by omega) ?_) <;> conv => whnf)
        refine WSt.lkpG ln_key (w := a) (M := m) (by rfl) (by rfl) (by rfl) haw (fun e he => (hm e he).1) (fun nn hn => absurd (show (a, true) ∈ m from by have h3 : nn = true := (hm _ hn).2; rw [h3] at hn; exact hn) hin) (fun hn => ?_)
        conv => whnf
        repeat' first | ((first | with_reducible apply WB.tt | with_reducible apply WB.ff | refine Rn.seq ?_ | refine Rn.reg ?_ | refine Rn.drw ?_ | refine Rn.blk ?_ | refine Rn.skip ?_ | refine Rn.ret ?_ | refine Rn.exit ?_ | refine Rn.cond rfl ?_ | refine And.intro (InR.i64 (by omega) (by omega)) ?_ | refine And.intro (show _ ≠ (0 : Int) by omega) ?_ | refine WIx.intsN (by omega) ?_ | refine WIx.rowsN (by omega) ?_) <;> conv => whnf)
        refine ⟨_, _, _, _, _, _, _, (wcL M m row lrow).ob n l (b :: s), rfl, rfl, Shr.kp ?_ (kpo _), b :: s, hR _ rfl, rfl⟩
        unfold Lns.ob trL wcL wcS blC slC
        repeat' first | exact T.le_e _ | refine T.le_some ?_ rfl ?_ | refine T.le_same ?_ ?_ | refine T.le_none ?_ ?_
end
end Go.Ev

namespace Go.Ev
open Go.Proofs
set_option maxRecDepth 100000
theorem wc_fld {m : Met} : ∀ (L : List Ln) {s s' : List Ln} {g : Bool}, Fld (wcR m) L s s' g → s' = s ++ L.filter (fun l => decide ((l, true) ∈ m)) ∧ g = true
  | [], s, s', g, h => by cases h; simp
  | a :: L, s, s', g, h => by
    cases h with
    | stop h => cases h.1
    | go h k =>
      obtain ⟨_, rfl⟩ := h
      obtain ⟨q1, q2⟩ := wc_fld L k
      refine ⟨?_, q2⟩
      rw [q1, List.append_assoc]
      congr 1
      cases hd : decide ((a, true) ∈ m) with
      | true => rw [List.filter_cons_of_pos (by exact hd)]; rfl
      | false => rw [List.filter_cons_of_neg (by rw [hd]; simp)]; rfl
def wasL (B : Bk) (line : Nat) : List Ln := (rdsL B.n (B.ls.getD line default)).filter fun l => (exT B B.ls.length []).any fun X => decide (X.getD line default = l)
theorem rds_32 {B : Bk} (V : VB B) (l : Ln) : (rdsL B.n l).length ≤ 1000 := by
  have h := rds_len B.n l
  have hn := V.n
  have h1 : (szK l).toNat ≤ 2 := by unfold szK; split <;> omega
  have h2 : (szC B.n l).toNat ≤ 4 := by unfold szC; split <;> omega
  have h3 : (szT B.n l).toNat ≤ 4 := by unfold szT; split <;> omega
  have h4 : (szC B.n l).toNat * (szT B.n l).toNat ≤ 4 * 4 := Nat.mul_le_mul h2 h3
  have h5 : (szK l).toNat * ((szC B.n l).toNat * (szT B.n l).toNat) ≤ 2 * (4 * 4) := Nat.mul_le_mul h1 h4
  omega
theorem fz_slC {B : Pos → Prop} {ob : T Ev.C} (hB : ¬ B i14) : ∀ (s : List Ln), (ob.get i14 = blC s) → Fz B ob (slC s) (.lst 3 (rows lnD s))
  | [], _ => .ns
  | a :: s, h => Fz.whole (cs := (lnF (a :: s)).map fun d => Cell.o d s.length) (cur := s.length + 1) hB h (by simp [rows]) (ln_three _) (by rfl) (pu_ln _)
set_option maxHeartbeats 2000000 in
theorem j_was {B : Bk} (V : VB B) {line : Nat} (hl : line < B.ls.length) (M : Memo) (hM : MOk B M) :
    ∃ M', MOk B M' ∧ CallOk Try.prog p92.ix [.ag (wkQ B ++ [.mp .h]), .i .i64 (line : Int)] (mapP M) (.o .h) none (.lst 3 (rows lnD (wasL B line))) (mapP M') (.o .h) none := by
  have e1 := rows_length lnD B.ls
  have hL8 := V.len
  have i0 : wsI line [] [] := ⟨fun e h => (by cases h), fun l => ⟨fun h => (by cases h), fun ⟨X, h, _⟩ => (by cases h)⟩⟩
  obtain ⟨_, _, ⟨M', m, gg, hM', hFl, rfl, rfl⟩, Hc⟩ := j_truths1 V (ws_ok V hl) M hM [] i0 rfl
  obtain ⟨⟨hm1, hm2⟩, _⟩ := ws_fld V hl _ [] rfl i0 hFl
  have hrow := pu_wk6 B.n B.coin B.box B.ls B.cs
  have hlr : PuL (ln3 (B.ls.getD line default)) := by simp [ln3, PuL, Pu]
  obtain ⟨hk, hc, ht⟩ := V.ln hl
  obtain ⟨_, _, ⟨s', g2, hF2, rfl, rfl⟩, Hi⟩ := j_itL (wcL M' m (wk6 B.n B.coin B.box B.ls B.cs) (ln3 (B.ls.getD line default))) i13 _ _ B.n B.coin B.box B.ls B.cs V.n (B.ls.getD line default) hk hc ht (wc_ok hrow hlr hm1 (fun a ha => by
    obtain ⟨h1, h2, h3⟩ := V.rd hl ha
    exact ⟨wf_small (by omega) (by omega), wf_small (by omega) (by omega), wf_small (by omega) (by omega)⟩) (rds_32 V _)) [] (show wcI m [] [] from rfl)
  obtain ⟨hs', _⟩ := wc_fld _ hF2
  have hw : s' = wasL B line := by
    rw [hs', List.nil_append]
    unfold wasL
    refine List.filter_congr fun l _ => ?_
    rw [Bool.eq_iff_iff, decide_eq_true_iff, hm2 l, List.any_eq_true]
    exact ⟨fun ⟨X, h1, h2⟩ => ⟨X, h1, decide_eq_true h2⟩, fun ⟨X, h1, h2⟩ => ⟨X, h1, of_decide_eq_true h2⟩⟩
  rw [← hw]
  have Hh := CallOk.hole (lg := none) (lg' := none) (r := i14) (nx := i14) (ob := trL (some (.map (mapL M'))) none none (some (.map (metL m))) (some (.cells false [.o (.mp (.o (.o .h))) 0] 1)) none none none none none none (some (.cells false [.o .ns 0] 1)) (some (.lp (wcS (wk6 B.n B.coin B.box B.ls B.cs) (ln3 (B.ls.getD line default))) [p28] 36 (rfA (bodyC Try.f91) 1) (rfB (bodyC Try.f91) 1) .ready none)) none none none none none none none) (by
    have he : T.set i14 .hole (trL (some (.map (mapL M'))) none none (some (.map (metL m))) (some (.cells false [.o (.mp (.o (.o .h))) 0] 1)) none none none none none none (some (.cells false [.o .ns 0] 1)) (some (.lp (wcS (wk6 B.n B.coin B.box B.ls B.cs) (ln3 (B.ls.getD line default))) [p28] 36 (rfA (bodyC Try.f91) 1) (rfB (bodyC Try.f91) 1) .ready none)) none none none none none none none) = (wcL M' m (wk6 B.n B.coin B.box B.ls B.cs) (ln3 (B.ls.getD line default))).base [] := rfl
    rw [he]
    exact Hi) (Nat.le_refl _) (by simp [i14, nb2, Pos.nat]) trivial
  have cR := (j_readings B.n B.coin B.box B.ls B.cs (B.ls.getD line default)).sub (wk_any (d := .mp .h) (by simp [PuL, Pu]))
  obtain ⟨v, ob', ⟨M'', hM'', rfl, rfl⟩, Hb⟩ := CallOk.runE (Φ := fun v ob' => ∃ M', MOk B M' ∧ v = .lst 3 (rows lnD s') ∧ ob' = mapP M') (ob := mapP M) (nx := .o .h) (nx' := .o .h) (ds := [.ag (wkQ B ++ [.mp .h]), .i .i64 (line : Int)]) fn91 (by simp) (Nat.le_refl _) (by
    conv => whnf
    refine Rn.le (a := ⟨(.n (.n .e (some (.i .i64 (line : Int))) .e) (some (.ag (wkQ B ++ [.mp .h]))) .e), trL (some (.map (mapL M))) none none none none none none none none none none none none none none none none none none none, .o .h, none⟩) ?_ ?_
    · unfold wkQ trL
      conv => whnf
      repeat' first | ((first | with_reducible apply WB.tt | with_reducible apply WB.ff | refine Rn.seq ?_ | refine Rn.reg ?_ | refine Rn.drw ?_ | refine Rn.blk ?_ | refine Rn.skip ?_ | refine Rn.ret ?_ | refine Rn.exit ?_ | refine Rn.cond rfl ?_ | refine And.intro (InR.i64 (by omega) (by omega)) ?_ | refine And.intro (show _ ≠ (0 : Int) by omega) ?_ | refine WIx.intsN (by omega) ?_ | refine WIx.rowsN (by omega) ?_) <;> conv => whnf)
      refine WCall.of (j_truths (B := B) (x1 := some (.map (mapL M))) (x2 := some (wkCl B)) (x3 := (some (.cells false [.o (.i .i64 (line : Int)) 0] 1))) (x4 := (some (.map (metL [])))) (x5 := some (.cells false [.o (.mp (.o (.o .h))) 0] 1)) ?_) ?_
      · show TAll (fun id c => id.nat < 6 ∧ KpC 6 c) _
        unfold trL
        repeat' first | exact TAll.e | refine TAll.some ?_ ?_ ?_ | refine TAll.none ?_ ?_
        all_goals refine ⟨by simp [Pos.nat], ?_⟩
        all_goals first
          | exact mapL_kp
          | exact metL_kp
          | exact wkCl_kp B (by omega)
          | (refine KpL.all ?_; simp [KpL, Kp, Cell.d, Pu, Pos.nat])
      conv => whnf
      repeat' first | ((first | with_reducible apply WB.tt | with_reducible apply WB.ff | refine Rn.seq ?_ | refine Rn.reg ?_ | refine Rn.drw ?_ | refine Rn.blk ?_ | refine Rn.skip ?_ | refine Rn.ret ?_ | refine Rn.exit ?_ | refine Rn.cond rfl ?_ | refine And.intro (InR.i64 (by omega) (by omega)) ?_ | refine And.intro (show _ ≠ (0 : Int) by omega) ?_ | refine WIx.intsN (by omega) ?_ | refine WIx.rowsN (by omega) ?_) <;> conv => whnf)
      refine Rn.le (a := ⟨wsS, trL (some (.map (mapL M))) (some (wkCl B)) (some (.cells false [.o (.i .i64 (line : Int)) 0] 1)) (some (.map (metL []))) (some (.cells false [.o (.mp (.o (.o .h))) 0] 1)) (some (wkCl B)) none none none none none none none none none none none none none none, i7, none⟩) ?_ ?_
      · refine Rn.rf rfl rfl Hc rfl (by simp) ?_
        unfold Tns.bob trL wsM wsS
        conv => whnf
        repeat' first | ((first | with_reducible apply WB.tt | with_reducible apply WB.ff | refine Rn.seq ?_ | refine Rn.reg ?_ | refine Rn.drw ?_ | refine Rn.blk ?_ | refine Rn.skip ?_ | refine Rn.ret ?_ | refine Rn.exit ?_ | refine Rn.cond rfl ?_ | refine And.intro (InR.i64 (by omega) (by omega)) ?_ | refine And.intro (show _ ≠ (0 : Int) by omega) ?_ | refine WIx.intsN (by omega) ?_ | refine WIx.rowsN (by omega) ?_ | refine WCall.pure (cR) ?_) <;> conv => whnf)
        refine Rn.le (a := ⟨wcS (wk6 B.n B.coin B.box B.ls B.cs) (ln3 (B.ls.getD line default)), trL (some (.map (mapL M'))) none none (some (.map (metL m))) (some (.cells false [.o (.mp (.o (.o .h))) 0] 1)) none none none none none none (some (.cells false [.o .ns 0] 1)) none none none none none none none none, i13, none⟩) ?_ ?_
        · refine Rn.rf rfl rfl Hh rfl (by simp) ?_
          unfold Lns.base trL wcL wcS
          conv => whnf
          repeat' first | ((first | with_reducible apply WB.tt | with_reducible apply WB.ff | refine Rn.seq ?_ | refine Rn.reg ?_ | refine Rn.drw ?_ | refine Rn.blk ?_ | refine Rn.skip ?_ | refine Rn.ret ?_ | refine Rn.exit ?_ | refine Rn.cond rfl ?_ | refine And.intro (InR.i64 (by omega) (by omega)) ?_ | refine And.intro (show _ ≠ (0 : Int) by omega) ?_ | refine WIx.intsN (by omega) ?_ | refine WIx.rowsN (by omega) ?_) <;> conv => whnf)
          refine ⟨_, _, ⟨M', hM', rfl, rfl⟩, ⟨.inr rfl, ⟨_, rfl, ?_⟩, Shr.kp ?_ (mapP_kp M')⟩⟩
          · exact fz_slC (by simp [i14, Pos.nat]) s' rfl
          · show T.le (T.n .e (some (.map (mapL M'))) .e : T Ev.C) _
            refine T.le_some (T.le_e _) rfl (T.le_e _)
        · refine X.le.mk ?_ ?_ (Nat.le_refl _) rfl rfl
          · unfold wcS
            repeat' first | exact T.le_refl _ | exact T.le_e _ | refine T.le_some ?_ rfl ?_ | refine T.le_same ?_ ?_ | refine T.le_none ?_ ?_
          · unfold trL
            repeat' first | exact T.le_refl _ | exact T.le_e _ | refine T.le_some ?_ rfl ?_ | refine T.le_same ?_ ?_ | refine T.le_none ?_ ?_
      · refine X.le.mk ?_ ?_ (Nat.le_refl _) rfl rfl
        · unfold wsS
          repeat' first | exact T.le_refl _ | exact T.le_e _ | refine T.le_some ?_ rfl ?_ | refine T.le_same ?_ ?_ | refine T.le_none ?_ ?_
        · unfold trL
          repeat' first | exact T.le_refl _ | exact T.le_e _ | refine T.le_some ?_ rfl ?_ | refine T.le_same ?_ ?_ | refine T.le_none ?_ ?_
    · refine X.le.mk (T.le_refl _) ?_ (Nat.le_refl _) rfl rfl
      unfold trL
      repeat' first | exact T.le_e _ | refine T.le_some ?_ rfl ?_ | refine T.le_none ?_ ?_ | refine T.le_ee ?_ ?_)
  exact ⟨M'', hM'', Hb⟩
end Go.Ev

namespace Go.Ev
open Go.Proofs
set_option maxRecDepth 100000
def wasT (n coin box : Int) (ls : List Ln) (cs : List Ct) (line : Int) : D :=
  if sE n coin box ls cs (inR line 0 ((ls.length : Int) - 1)) = 0 then .tp [.lst 3 (rows lnD (wasL (B5 n coin box ls cs) line.toNat)), .i .i64 0] else .tp [.lst 3 [], .i .i64 (sE n coin box ls cs (inR line 0 ((ls.length : Int) - 1)))]
theorem j_WasP (n coin box : Int) (ls : List Ln) (cs : List Ct) (line : Int) (hll : ls.length ≤ 1000) : PureF Try.prog p44.ix [.ag [.i .i64 n, .i .i64 coin, .i .i64 box, .lst 3 (rows lnD ls), .lst 3 (rows ctD cs)], .i .i64 line] (wasT n coin box ls cs line) := by
  have e1 := rows_length lnD ls
  have cU : PureF Try.prog p86.ix [.i .i64 line, .i .i64 (((rows lnD ls).length : Int) - 1)] (.b (inR line 0 ((ls.length : Int) - 1))) := by
    have := j_upTo line (((rows lnD ls).length : Int) - 1)
    rw [e1] at this ⊢
    exact this
  unfold wasT
  by_cases hE : sE n coin box ls cs (inR line 0 ((ls.length : Int) - 1)) = 0
  · rw [if_pos hE]
    obtain ⟨hf, ht⟩ := sE_fault hE
    have hE' := hE
    rw [ht] at hE' cU
    obtain ⟨M, hM, Hs⟩ := j_startO n coin box ls cs hE'
    have ha := inR_iff.1 ht
    have V := VB.of hf
    obtain ⟨M', hM', Hb⟩ := j_was V (line := line.toNat) (show line.toNat < ls.length by omega) M hM
    rw [show ((line.toNat : Nat) : Int) = line by omega] at Hb
    refine PureF.run fn43 (by simp) (by simp [PuL, PuE, Pu, pu_ints, pu_ln, pu_ct]) ?_; conv => whnf
    repeat' first | ((first | with_reducible apply WB.tt | with_reducible apply WB.ff | refine Rn.seq ?_ | refine Rn.reg ?_ | refine Rn.drw ?_ | refine Rn.blk ?_ | refine Rn.skip ?_ | refine Rn.ret ?_ | refine Rn.exit ?_ | refine Rn.cond rfl ?_ | refine And.intro (InR.i64 (by omega) (by omega)) ?_ | refine And.intro (show _ ≠ (0 : Int) by omega) ?_ | refine WIx.intsN (by omega) ?_ | refine WIx.rowsN (by omega) ?_ | refine WCall.pure (cU) ?_ | with_reducible refine WB.decT (by first | with_reducible rfl | assumption | omega | exact ⟨rfl, rfl⟩) ?_ | with_reducible refine WB.decF (by first | assumption | omega) ?_ | with_reducible refine WB.ndT (by first | with_reducible rfl | assumption | omega | exact ⟨rfl, rfl⟩) ?_ | with_reducible refine WB.ndF (by first | assumption | omega) ?_ | with_reducible refine WB.nt ?_ | with_reducible refine WB.nf ?_ | with_reducible refine WB.dec (fun h => ?_) (fun h => ?_) | with_reducible refine WB.ndec (fun h => ?_) (fun h => ?_) | refine WB.mk (fun h => ?_) (fun h => ?_)) <;> conv => whnf)
    refine WCall.of (start_at Hs) ?_; conv => whnf
    repeat' first | ((first | with_reducible apply WB.tt | with_reducible apply WB.ff | refine Rn.seq ?_ | refine Rn.reg ?_ | refine Rn.drw ?_ | refine Rn.blk ?_ | refine Rn.skip ?_ | refine Rn.ret ?_ | refine Rn.exit ?_ | refine Rn.cond rfl ?_ | refine And.intro (InR.i64 (by omega) (by omega)) ?_ | refine And.intro (show _ ≠ (0 : Int) by omega) ?_ | refine WIx.intsN (by omega) ?_ | refine WIx.rowsN (by omega) ?_ | with_reducible refine WB.decT (by first | with_reducible rfl | assumption | omega | exact ⟨rfl, rfl⟩) ?_ | with_reducible refine WB.decF (by first | assumption | omega) ?_ | with_reducible refine WB.ndT (by first | with_reducible rfl | assumption | omega | exact ⟨rfl, rfl⟩) ?_ | with_reducible refine WB.ndF (by first | assumption | omega) ?_ | with_reducible refine WB.nt ?_ | with_reducible refine WB.nf ?_ | with_reducible refine WB.dec (fun h => ?_) (fun h => ?_) | with_reducible refine WB.ndec (fun h => ?_) (fun h => ?_) | refine WB.mk (fun h => ?_) (fun h => ?_)) <;> conv => whnf)
    refine WCall.of (CallOk.mapAt Hb (pu_ln _) (id := .o .h) rfl (show 2 < 4 from by decide) (mp_at (show PuL [.i .i64 line] from ⟨trivial, trivial⟩))) ?_; conv => whnf
    repeat' first | ((first | with_reducible apply WB.tt | with_reducible apply WB.ff | refine Rn.seq ?_ | refine Rn.reg ?_ | refine Rn.drw ?_ | refine Rn.blk ?_ | refine Rn.skip ?_ | refine Rn.ret ?_ | refine Rn.exit ?_ | refine Rn.cond rfl ?_ | refine And.intro (InR.i64 (by omega) (by omega)) ?_ | refine And.intro (show _ ≠ (0 : Int) by omega) ?_ | refine WIx.intsN (by omega) ?_ | refine WIx.rowsN (by omega) ?_ | with_reducible refine WB.decT (by first | with_reducible rfl | assumption | omega | exact ⟨rfl, rfl⟩) ?_ | with_reducible refine WB.decF (by first | assumption | omega) ?_ | with_reducible refine WB.ndT (by first | with_reducible rfl | assumption | omega | exact ⟨rfl, rfl⟩) ?_ | with_reducible refine WB.ndF (by first | assumption | omega) ?_ | with_reducible refine WB.nt ?_ | with_reducible refine WB.nf ?_ | with_reducible refine WB.dec (fun h => ?_) (fun h => ?_) | with_reducible refine WB.ndec (fun h => ?_) (fun h => ?_) | refine WB.mk (fun h => ?_) (fun h => ?_)) <;> conv => whnf)
    exact ⟨.inr rfl, _, rfl, .tp (.cons (.pu (pu_ln _)) (.cons (.pu trivial) .nil))⟩
  · rw [if_neg hE]
    have cS := j_startE n coin box ls cs _ hE
    generalize sE n coin box ls cs (inR line 0 ((ls.length : Int) - 1)) = e at hE cS ⊢
    unfold wkQ B5 zwk at cS
    refine PureF.run fn43 (by simp) (by simp [PuL, PuE, Pu, pu_ints, pu_ln, pu_ct]) ?_; conv => whnf
    repeat' first | ((first | with_reducible apply WB.tt | with_reducible apply WB.ff | refine Rn.seq ?_ | refine Rn.reg ?_ | refine Rn.drw ?_ | refine Rn.blk ?_ | refine Rn.skip ?_ | refine Rn.ret ?_ | refine Rn.exit ?_ | refine Rn.cond rfl ?_ | refine And.intro (InR.i64 (by omega) (by omega)) ?_ | refine And.intro (show _ ≠ (0 : Int) by omega) ?_ | refine WIx.intsN (by omega) ?_ | refine WIx.rowsN (by omega) ?_ | refine WCall.pure (cU) ?_ | refine WCall.pure (cS) ?_ | with_reducible refine WB.decT (by first | with_reducible rfl | assumption | omega | exact ⟨rfl, rfl⟩) ?_ | with_reducible refine WB.decF (by first | assumption | omega) ?_ | with_reducible refine WB.ndT (by first | with_reducible rfl | assumption | omega | exact ⟨rfl, rfl⟩) ?_ | with_reducible refine WB.ndF (by first | assumption | omega) ?_ | with_reducible refine WB.nt ?_ | with_reducible refine WB.nf ?_ | with_reducible refine WB.dec (fun h => ?_) (fun h => ?_) | with_reducible refine WB.ndec (fun h => ?_) (fun h => ?_) | refine WB.mk (fun h => ?_) (fun h => ?_)) <;> conv => whnf)
    all_goals first
      | (exfalso; omega)
      | exact ⟨.inr rfl, _, rfl, .tp (.cons .ns (.cons (.pu trivial) .nil))⟩
end Go.Ev
