import Derived.Test.YtjgbfnciedkafaaEvUGe
import Derived.Test.YtjgbfnciedkafaaEvUJb
import Derived.Test.YtjgbfnciedkafaaEvUJ3
import Derived.Test.YtjgbfnciedkafaaEvUJs
import Derived.Test.YtjgbfnciedkafaaEvUGc
set_option linter.all false
namespace Go.Ev
open Go.Proofs
set_option maxRecDepth 100000
def i12 : Pos := .o (.o (.i .h))
def i13 : Pos := .i (.o (.i .h))
def slC : List Ln → D
  | [] => .ns
  | _ :: s => .sl i14 0 (s.length + 1) s.length 3
noncomputable def blC : List Ln → Option Ev.C
  | [] => some .hole
  | a :: s => some (.cells false ((lnF (a :: s)).map fun d => Cell.o d s.length) (s.length + 1))
def wcS (row lrow : List D) : T D := (.n (.n (.n (.n .e (some (.pt i12 0 0)) .e) none .e) none (.n .e (some (.pt (.i (.o .h)) 0 0)) .e)) none (.n .e none (.n (.n .e none (.n .e (some (.fn p135 [] [.pl row 0, .pl lrow 0])) .e)) none .e)))
noncomputable def wcL (M : Memo) (m : Met) (row lrow : List D) : Lns (List Ln) where
  o := fun i s => match i with
    | 1 => some (.map (mapL M))
    | 4 => some (.map (metL m))
    | 5 => some (.cells false [.o (.mp (.o (.o .h))) 0] 1)
    | 12 => some (.cells false [.o (slC s) 0] 1)
    | 13 => some (.lp (wcS row lrow) [p28] 36 (rfA (bodyC Try.f91) 1) (rfB (bodyC Try.f91) 1) .ready none)
    | 14 => blC s
    | _ => none
theorem wcS_kp {row lrow : List D} (h1 : PuL row) (h2 : PuL lrow) : ∀ s d, (wcS row lrow).get s = some d → Kp 13 d := by
  show TAll (fun _ d => Kp 13 d) _
  unfold wcS
  repeat' first | exact TAll.e | refine TAll.some ?_ ?_ ?_ | refine TAll.none ?_ ?_
  all_goals simp [Kp, KpL, Pu, PuL, h1, h2, i12, Pos.nat]
def wcI (m : Met) (h s : List Ln) : Prop := s = h.filter fun l => decide ((l, true) ∈ m)
def wcR (m : Met) (s : List Ln) (a : Ln) (s' : List Ln) (g : Bool) : Prop := g = true ∧ s' = s ++ bif decide ((a, true) ∈ m) then [a] else []
section
variable {M : Memo} {m : Met} {row lrow : List D} (h1 : PuL row) (h2 : PuL lrow)
include h1 h2
theorem wc_kp (s : List Ln) : KpO 18 ((wcL M m row lrow).base s) := by
  show TAll (fun id c => id.nat < 18 ∧ KpC 18 c) _
  cases s with
  | nil =>
    unfold Lns.base trL wcL blC slC
    repeat' first | exact TAll.e | refine TAll.some ?_ ?_ ?_ | refine TAll.none ?_ ?_
    all_goals refine ⟨by simp [Pos.nat], ?_⟩
    all_goals first
      | exact mapL_kp
      | exact metL_kp
      | exact fun s d h => (wcS_kp h1 h2 s d h).up (by omega)
      | trivial
      | (refine KpL.all ?_; simp [KpL, Kp, Cell.d, Pu, Pos.nat])
  | cons a s =>
    unfold Lns.base trL wcL blC slC
    repeat' first | exact TAll.e | refine TAll.some ?_ ?_ ?_ | refine TAll.none ?_ ?_
    all_goals refine ⟨by simp [Pos.nat], ?_⟩
    all_goals first
      | exact mapL_kp
      | exact metL_kp
      | exact fun s d h => (wcS_kp h1 h2 s d h).up (by omega)
      | exact lnF_kp _ _ _ _
      | (refine KpL.all ?_; simp [KpL, Kp, Cell.d, Pu, i14, Pos.nat])
end
noncomputable def trS (x1 x2 x3 x4 x5 x6 x7 x8 x9 x10 x11 x12 x13 x14 x15 x16 x17 x18 x19 x20 x23 : Option Ev.C) : T Ev.C := .n (.n (.n (.n (.n .e x16 .e) x8 .e) x4 (.n (.n .e x20 .e) x12 .e)) x2 (.n (.n (.n .e x18 .e) x10 .e) x6 (.n .e x14 .e))) x1 (.n (.n (.n (.n .e x17 .e) x9 .e) x5 (.n .e x13 .e)) x3 (.n (.n (.n .e x19 .e) x11 .e) x7 (.n (.n .e x23 .e) x15 .e)))
def n24 : Pos := .o (.o (.o (.i .h)))
section
variable {M : Memo} {m : Met} {row lrow : List D} (h1 : PuL row) (h2 : PuL lrow)
include h1 h2
theorem wcS_kp14 : KpC 14 (.lp (wcS row lrow) [p28] 36 (rfA (bodyC Try.f91) 1) (rfB (bodyC Try.f91) 1) .ready none) := fun s d h => (wcS_kp h1 h2 s d h).up (by omega)
set_option maxHeartbeats 1000000 in
theorem wc_ok {n : Int} {l : Ln} (hm : ∀ e ∈ m, lnWf e.1 ∧ e.2 = true) (hwf : ∀ a, rdB n l a = true → lnWf a) (hlen : (rdsL n l).length ≤ 1000) : LnsOk (wcL M m row lrow) i13 (wcI m) (wcR m) n l := by
  refine ⟨by simp [i13, Pos.nat], fun s => wc_kp h1 h2 s, ?_, ?_⟩
  · rintro h s a s' _ hI ⟨_, rfl⟩
    have hI : s = h.filter fun l => decide ((l, true) ∈ m) := hI
    show s ++ _ = (h ++ [a]).filter _
    rw [hI, List.filter_append]
    cases hd : decide ((a, true) ∈ m) with
    | true => rw [List.filter_cons_of_pos (by exact hd)]; rfl
    | false => rw [List.filter_cons_of_neg (by rw [hd]; simp)]; rfl
  · intro h s hI a hpre sl d K k
    have hI : s = h.filter fun l => decide ((l, true) ∈ m) := hI
    have hsl : s.length < 1000 := by
      have q1 := hpre.length_le
      have q2 := List.length_filter_le (fun l => decide ((l, true) ∈ m)) h
      rw [List.length_append, List.length_singleton] at q1
      rw [hI]; omega
    have haw : lnWf a := hwf a (mem_rdsL.1 (hpre.subset (by simp)))
    suffices hs : ∃ g ob', (∃ s', wcR m s a s' g ∧ ob' = (wcL M m row lrow).ob n l s') ∧ RndOk Try.prog i13 [.ag [.i .i64 a.k, .i .i64 a.c, .i .i64 a.t]] ((wcL M m row lrow).ob n l s) nb5 none (.b g) ob' nb5 none by
      obtain ⟨g, _, ⟨s', hR, rfl⟩, HR⟩ := hs
      exact WRnd.at HR (k s' g hR)
    have kpo := ob_kp (S := wcL M m row lrow) (n := n) (l := l) (fun s => wc_kp h1 h2 s)
    by_cases hin : (a, true) ∈ m
    · have hR : ∀ s', s' = s ++ [a] → wcR m s a s' true := fun s' e => ⟨rfl, by rw [e, decide_eq_true hin]; rfl⟩
      cases s with
      | nil =>
        refine RndOk.runEF2 (sl0 := wcS row lrow) rfl rc91a1_ok rc91b1_ok ⟨_, rfl, ?_⟩
        unfold Lns.ob trL wcL wcS blC slC
        conv => whnf
        repeat' first | ((first | with_reducible apply WB.tt | with_reducible apply WB.ff | refine Rn.seq ?_ | refine Rn.reg ?_ | refine Rn.drw ?_ | refine Rn.blk ?_ | refine Rn.skip ?_ | refine Rn.ret ?_ | refine Rn.exit ?_ | refine Rn.cond rfl ?_ | refine And.intro (InR.i64 (by omega) (by omega)) ?_ | refine And.intro (show _ ≠ (0 : Int) by omega) ?_ | refine WIx.intsN (by omega) ?_ | refine WIx.rowsN (by omega) ?_) <;> conv => whnf)
        refine ⟨rfl, rfl, _, _, _, _, _, _, rfl, ?_⟩
        conv => whnf
        repeat' first | ((first | with_reducible apply WB.tt | with_reducible apply WB.ff | refine Rn.seq ?_ | refine Rn.reg ?_ | refine Rn.drw ?_ | refine Rn.blk ?_ | refine Rn.skip ?_ | refine Rn.ret ?_ | refine Rn.exit ?_ | refine Rn.cond rfl ?_ | refine And.intro (InR.i64 (by omega) (by omega)) ?_ | refine And.intro (show _ ≠ (0 : Int) by omega) ?_ | refine WIx.intsN (by omega) ?_ | refine WIx.rowsN (by omega) ?_) <;> conv => whnf)
        refine WSt.lkpG ln_key (w := a) (M := m) (by rfl) (by rfl) (by rfl) haw (fun e he => (hm e he).1) (fun nn hn => ?_) (fun hn => absurd hin (hn true))
        obtain rfl : nn = true := (hm _ hn).2
        conv => whnf
        repeat' first | ((first | with_reducible apply WB.tt | with_reducible apply WB.ff | refine Rn.seq ?_ | refine Rn.reg ?_ | refine Rn.drw ?_ | refine Rn.blk ?_ | refine Rn.skip ?_ | refine Rn.ret ?_ | refine Rn.exit ?_ | refine Rn.cond rfl ?_ | refine And.intro (InR.i64 (by omega) (by omega)) ?_ | refine And.intro (show _ ≠ (0 : Int) by omega) ?_ | refine WIx.intsN (by omega) ?_ | refine WIx.rowsN (by omega) ?_) <;> conv => whnf)
        refine WSt.app_first (r := lnD a) rfl (.inl rfl) rfl rfl rfl rfl ?_; conv => whnf
        repeat' first | ((first | with_reducible apply WB.tt | with_reducible apply WB.ff | refine Rn.seq ?_ | refine Rn.reg ?_ | refine Rn.drw ?_ | refine Rn.blk ?_ | refine Rn.skip ?_ | refine Rn.ret ?_ | refine Rn.exit ?_ | refine Rn.cond rfl ?_ | refine And.intro (InR.i64 (by omega) (by omega)) ?_ | refine And.intro (show _ ≠ (0 : Int) by omega) ?_ | refine WIx.intsN (by omega) ?_ | refine WIx.rowsN (by omega) ?_) <;> conv => whnf)
        refine ⟨_, _, _, _, _, _, _, (trS (some (.map (mapL M))) none none (some (.map (metL m))) (some (.cells false [.o (.mp (.o (.o .h))) 0] 1)) none none none none none none (some (.cells false [.o (.sl nb7 0 1 0 3) 0] 1)) (some (.lp (wcS row lrow) [p28] 36 (rfA (bodyC Try.f91) 1) (rfB (bodyC Try.f91) 1) .ready none)) (some .hole) none none none (some (.cells false [.o (.i .i64 (kLo l)) 0, .o (.i .i64 (kHi l)) 0] 1)) (some (.cells false [.o (.i .i64 (cLo l)) 0, .o (.i .i64 (cHi n l)) 0] 1)) (some (.cells false [.o (.i .i64 (tLo l)) 0, .o (.i .i64 (tHi n l)) 0] 1)) (some (.cells false ((lnD a).map fun d => Cell.o d 0) 1))), (wcL M m row lrow).ob n l [a], rfl, rfl, n24, nb7, by simp [nb5, n24, Pos.nat], by simp [nb5, nb7, Pos.nat], Shr.kp ?_ ?_, ?_, [a], hR _ rfl, rfl⟩
        · unfold trS wcS
          repeat' first | exact T.le_e _ | refine T.le_some ?_ rfl ?_ | refine T.le_same ?_ ?_ | refine T.le_none ?_ ?_
        · show TAll (fun id c => id.nat < 24 ∧ KpC 24 c) _
          unfold trS
          repeat' first | exact TAll.e | refine TAll.some ?_ ?_ ?_ | refine TAll.none ?_ ?_
          all_goals refine ⟨by simp [Pos.nat], ?_⟩
          all_goals first
            | exact mapL_kp
            | exact metL_kp
            | exact fun s d h => (wcS_kp h1 h2 s d h).up (by omega)
            | trivial
            | (refine KpL.all ?_; simp [KpL, Kp, Cell.d, Pu, nb7, lnD, Pos.nat])
        · refine ⟨i14, i12, false, 1, 0, 3, 0, 1, 0, 1, lnD a, by simp [i14, nb5, Pos.nat], by simp [i12, i14, Pos.nat], rfl, by simp [PuL, Pu, lnD], rfl, rfl, ?_⟩
          show TAll (fun i ci => (i = i14 ∧ ci = .cells false ((lnD a).map fun d => Cell.o d 0) 1) ∨ (i = i12 ∧ ci = .cells false [.o (.sl i14 0 1 0 3) 0] 1) ∨ (i ≠ i14 ∧ i.nat < nb5.nat ∧ T.get (trS (some (.map (mapL M))) none none (some (.map (metL m))) (some (.cells false [.o (.mp (.o (.o .h))) 0] 1)) none none none none none none (some (.cells false [.o (.sl nb7 0 1 0 3) 0] 1)) (some (.lp (wcS row lrow) [p28] 36 (rfA (bodyC Try.f91) 1) (rfB (bodyC Try.f91) 1) .ready none)) (some .hole) none none none (some (.cells false [.o (.i .i64 (kLo l)) 0, .o (.i .i64 (kHi l)) 0] 1)) (some (.cells false [.o (.i .i64 (cLo l)) 0, .o (.i .i64 (cHi n l)) 0] 1)) (some (.cells false [.o (.i .i64 (tLo l)) 0, .o (.i .i64 (tHi n l)) 0] 1)) (some (.cells false ((lnD a).map fun d => Cell.o d 0) 1))) i = some ci ∧ KpC 14 ci)) _
          unfold Lns.ob trL wcL
          repeat' first | exact TAll.e | refine TAll.some ?_ ?_ ?_ | refine TAll.none ?_ ?_
          all_goals first
            | exact .inl ⟨rfl, rfl⟩
            | exact .inr (.inl ⟨rfl, rfl⟩)
            | (refine .inr (.inr ⟨by decide, by simp [nb5, Pos.nat], rfl, ?_⟩)
               first
                 | exact mapL_kp
                 | exact metL_kp
                 | exact wcS_kp14 h1 h2
                 | (refine KpL.all ?_; simp [KpL, Kp, Cell.d, Pu, Pos.nat]))
      | cons b s =>
        have hs9 : s.length + 1 < 1000 := hsl
        refine RndOk.runE (sl0 := wcS row lrow) rfl rc91a1_ok rc91b1_ok ⟨_, rfl, ?_⟩
        unfold Lns.ob trL wcL wcS blC slC
        conv => whnf
        repeat' first | ((first | with_reducible apply WB.tt | with_reducible apply WB.ff | refine Rn.seq ?_ | refine Rn.reg ?_ | refine Rn.drw ?_ | refine Rn.blk ?_ | refine Rn.skip ?_ | refine Rn.ret ?_ | refine Rn.exit ?_ | refine Rn.cond rfl ?_ | refine And.intro (InR.i64 (by omega) (by omega)) ?_ | refine And.intro (show _ ≠ (0 : Int) by omega) ?_ | refine WIx.intsN (by omega) ?_ | refine WIx.rowsN (by omega) ?_) <;> conv => whnf)
        refine ⟨rfl, rfl, _, _, _, _, _, _, rfl, ?_⟩
        conv => whnf
        repeat' first | ((first | with_reducible apply WB.tt | with_reducible apply WB.ff | refine Rn.seq ?_ | refine Rn.reg ?_ | refine Rn.drw ?_ | refine Rn.blk ?_ | refine Rn.skip ?_ | refine Rn.ret ?_ | refine Rn.exit ?_ | refine Rn.cond rfl ?_ | refine And.intro (InR.i64 (by omega) (by omega)) ?_ | refine And.intro (show _ ≠ (0 : Int) by omega) ?_ | refine WIx.intsN (by omega) ?_ | refine WIx.rowsN (by omega) ?_) <;> conv => whnf)
        refine WSt.lkpG ln_key (w := a) (M := m) (by rfl) (by rfl) (by rfl) haw (fun e he => (hm e he).1) (fun nn hn => ?_) (fun hn => absurd hin (hn true))
        obtain rfl : nn = true := (hm _ hn).2
        conv => whnf
        repeat' first | ((first | with_reducible apply WB.tt | with_reducible apply WB.ff | refine Rn.seq ?_ | refine Rn.reg ?_ | refine Rn.drw ?_ | refine Rn.blk ?_ | refine Rn.skip ?_ | refine Rn.ret ?_ | refine Rn.exit ?_ | refine Rn.cond rfl ?_ | refine And.intro (InR.i64 (by omega) (by omega)) ?_ | refine And.intro (show _ ≠ (0 : Int) by omega) ?_ | refine WIx.intsN (by omega) ?_ | refine WIx.rowsN (by omega) ?_) <;> conv => whnf)
        refine WSt.app_one (ds := lnF (b :: s)) (r := lnD a) rfl rfl rfl rfl rfl rfl (by rw [lnF_len]; rfl) rfl rfl (by omega) rfl ?_; conv => whnf
        repeat' first | ((first | with_reducible apply WB.tt | with_reducible apply WB.ff | refine Rn.seq ?_ | refine Rn.reg ?_ | refine Rn.drw ?_ | refine Rn.blk ?_ | refine Rn.skip ?_ | refine Rn.ret ?_ | refine Rn.exit ?_ | refine Rn.cond rfl ?_ | refine And.intro (InR.i64 (by omega) (by omega)) ?_ | refine And.intro (show _ ≠ (0 : Int) by omega) ?_ | refine WIx.intsN (by omega) ?_ | refine WIx.rowsN (by omega) ?_) <;> conv => whnf)
        have hln : (s ++ [a]).length = s.length + 1 := by simp
        have hb : blC (b :: s ++ [a]) = some (.cells false ((lnF (b :: s) ++ lnD a).map fun d => Cell.o d (s.length + 1)) (s.length + 1 + 1)) := by
          show some (Ev.C.cells false ((lnF (b :: (s ++ [a]))).map fun d => Cell.o d (s ++ [a]).length) ((s ++ [a]).length + 1)) = _
          rw [hln, ← List.cons_append, lnF_snoc]
        have hs' : slC (b :: s ++ [a]) = .sl i14 0 (s.length + 1 + 1) (s.length + 1) 3 := by
          show D.sl i14 0 ((s ++ [a]).length + 1) (s ++ [a]).length 3 = _
          rw [hln]
        refine ⟨_, _, _, _, _, _, _, (wcL M m row lrow).ob n l (b :: s ++ [a]), rfl, rfl, ?_, b :: s ++ [a], hR _ rfl, rfl⟩
        show Shr _ ⟨.e, trL (some (.map (mapL M))) none none (some (.map (metL m))) (some (.cells false [.o (.mp (.o (.o .h))) 0] 1)) none none none none none none (some (.cells false [.o (slC (b :: s ++ [a])) 0] 1)) (some (.lp (wcS row lrow) [p28] 36 (rfA (bodyC Try.f91) 1) (rfB (bodyC Try.f91) 1) .ready none)) (blC (b :: s ++ [a])) none none none (some (.cells false [.o (.i .i64 (kLo l)) 0, .o (.i .i64 (kHi l)) 0] 1)) (some (.cells false [.o (.i .i64 (cLo l)) 0, .o (.i .i64 (cHi n l)) 0] 1)) (some (.cells false [.o (.i .i64 (tLo l)) 0, .o (.i .i64 (tHi n l)) 0] 1)), nb5, none⟩
        rw [hb, hs']
        have hpv : PuL (lnF (b :: s) ++ lnD a) := PuL_iff.2 fun d hd => by
          rcases List.mem_append.1 hd with h | h
          · exact PuL_iff.1 (lnF_pu _) d h
          · exact PuL_iff.1 (pl_ln a) d h
        refine Shr.of ?_ ?_ rfl rfl
        · exact Rel.e
        · unfold trL
          repeat' first | exact Rel.e | refine Rel.some ?_ ?_ ?_ | refine Rel.none ?_ ?_
          all_goals refine RO'.of (by simp [Pos.nat, nb5]) ?_
          all_goals first
            | exact ShC.kp mapL_kp
            | exact ShC.kp metL_kp
            | exact ShC.kp (n := 21) (fun s d h => (wcS_kp h1 h2 s d h).up (by omega))
            | exact ShC.grown (by omega) hpv
            | (refine ShC.kp (n := 21) (KpL.all ?_); simp [KpL, Kp, Cell.d, Pu, i14, Pos.nat])
    · have hR : ∀ s', s' = s → wcR m s a s' true := fun s' e => ⟨rfl, by rw [e, decide_eq_false hin, cond_false, List.append_nil]⟩
      cases s with
      | nil =>
        refine RndOk.runE (sl0 := wcS row lrow) rfl rc91a1_ok rc91b1_ok ⟨_, rfl, ?_⟩
        unfold Lns.ob trL wcL wcS blC slC
        conv => whnf
        repeat' first | ((first | with_reducible apply WB.tt | with_reducible apply WB.ff | refine Rn.seq ?_ | refine Rn.reg ?_ | refine Rn.drw ?_ | refine Rn.blk ?_ | refine Rn.skip ?_ | refine Rn.ret ?_ | refine Rn.exit ?_ | refine Rn.cond rfl ?_ | refine And.intro (InR.i64 (by omega) (by omega)) ?_ | refine And.intro (show _ ≠ (0 : Int) by omega) ?_ | refine WIx.intsN (by omega) ?_ | refine WIx.rowsN (by omega) ?_) <;> conv => whnf)
        refine ⟨rfl, rfl, _, _, _, _, _, _, rfl, ?_⟩
        conv => whnf
        repeat' first | ((first | with_reducible apply WB.tt | with_reducible apply WB.ff | refine Rn.seq ?_ | refine Rn.reg ?_ | refine Rn.drw ?_ | refine Rn.blk ?_ | refine Rn.skip ?_ | refine Rn.ret ?_ | refine Rn.exit ?_ | refine Rn.cond rfl ?_ | refine And.intro (InR.i64 (by omega) (by omega)) ?_ | refine And.intro (show _ ≠ (0 : Int) by omega) ?_ | refine WIx.intsN (by omega) ?_ | refine WIx.rowsN (by omega) ?_) <;> conv => whnf)
        refine WSt.lkpG ln_key (w := a) (M := m) (by rfl) (by rfl) (by rfl) haw (fun e he => (hm e he).1) (fun nn hn => absurd (show (a, true) ∈ m from by have h3 : nn = true := (hm _ hn).2; rw [h3] at hn; exact hn) hin) (fun hn => ?_)
        conv => whnf
        repeat' first | ((first | with_reducible apply WB.tt | with_reducible apply WB.ff | refine Rn.seq ?_ | refine Rn.reg ?_ | refine Rn.drw ?_ | refine Rn.blk ?_ | refine Rn.skip ?_ | refine Rn.ret ?_ | refine Rn.exit ?_ | refine Rn.cond rfl ?_ | refine And.intro (InR.i64 (by omega) (by omega)) ?_ | refine And.intro (show _ ≠ (0 : Int) by omega) ?_ | refine WIx.intsN (by omega) ?_ | refine WIx.rowsN (by omega) ?_) <;> conv => whnf)
        refine ⟨_, _, _, _, _, _, _, (wcL M m row lrow).ob n l ([]), rfl, rfl, Shr.kp ?_ (kpo _), [], hR _ rfl, rfl⟩
        unfold Lns.ob trL wcL wcS blC slC
        repeat' first | exact T.le_e _ | refine T.le_some ?_ rfl ?_ | refine T.le_same ?_ ?_ | refine T.le_none ?_ ?_
      | cons b s =>
        refine RndOk.runE (sl0 := wcS row lrow) rfl rc91a1_ok rc91b1_ok ⟨_, rfl, ?_⟩
        unfold Lns.ob trL wcL wcS blC slC
        conv => whnf
        repeat' first | ((first | with_reducible apply WB.tt | with_reducible apply WB.ff | refine Rn.seq ?_ | refine Rn.reg ?_ | refine Rn.drw ?_ | refine Rn.blk ?_ | refine Rn.skip ?_ | refine Rn.ret ?_ | refine Rn.exit ?_ | refine Rn.cond rfl ?_ | refine And.intro (InR.i64 (by omega) (by omega)) ?_ | refine And.intro (show _ ≠ (0 : Int) by omega) ?_ | refine WIx.intsN (by omega) ?_ | refine WIx.rowsN (by omega) ?_) <;> conv => whnf)
        refine ⟨rfl, rfl, _, _, _, _, _, _, rfl, ?_⟩
        conv => whnf
        repeat' first | ((first | with_reducible apply WB.tt | with_reducible apply WB.ff | refine Rn.seq ?_ | refine Rn.reg ?_ | refine Rn.drw ?_ | refine Rn.blk ?_ | refine Rn.skip ?_ | refine Rn.ret ?_ | refine Rn.exit ?_ | refine Rn.cond rfl ?_ | refine And.intro (InR.i64 (by omega) (by omega)) ?_ | refine And.intro (show _ ≠ (0 : Int) by omega) ?_ | refine WIx.intsN (by omega) ?_ | refine WIx.rowsN (by omega) ?_) <;> conv => whnf)
        refine WSt.lkpG ln_key (w := a) (M := m) (by rfl) (by rfl) (by rfl) haw (fun e he => (hm e he).1) (fun nn hn => absurd (show (a, true) ∈ m from by have h3 : nn = true := (hm _ hn).2; rw [h3] at hn; exact hn) hin) (fun hn => ?_)
        conv => whnf
        repeat' first | ((first | with_reducible apply WB.tt | with_reducible apply WB.ff | refine Rn.seq ?_ | refine Rn.reg ?_ | refine Rn.drw ?_ | refine Rn.blk ?_ | refine Rn.skip ?_ | refine Rn.ret ?_ | refine Rn.exit ?_ | refine Rn.cond rfl ?_ | refine And.intro (InR.i64 (by omega) (by omega)) ?_ | refine And.intro (show _ ≠ (0 : Int) by omega) ?_ | refine WIx.intsN (by omega) ?_ | refine WIx.rowsN (by omega) ?_) <;> conv => whnf)
        refine ⟨_, _, _, _, _, _, _, (wcL M m row lrow).ob n l (b :: s), rfl, rfl, Shr.kp ?_ (kpo _), b :: s, hR _ rfl, rfl⟩
        unfold Lns.ob trL wcL wcS blC slC
        repeat' first | exact T.le_e _ | refine T.le_some ?_ rfl ?_ | refine T.le_same ?_ ?_ | refine T.le_none ?_ ?_
end
end Go.Ev
namespace Go.Ev
open Go.Proofs
set_option maxRecDepth 100000
theorem wc_fld {m : Met} : ∀ (L : List Ln) {s s' : List Ln} {g : Bool}, Fld (wcR m) L s s' g → s' = s ++ L.filter (fun l => decide ((l, true) ∈ m)) ∧ g = true
  | [], s, s', g, h => by cases h; simp
  | a :: L, s, s', g, h => by
    cases h with
    | stop h => cases h.1
    | go h k =>
      obtain ⟨_, rfl⟩ := h
      obtain ⟨q1, q2⟩ := wc_fld L k
      refine ⟨?_, q2⟩
      rw [q1, List.append_assoc]
      congr 1
      cases hd : decide ((a, true) ∈ m) with
      | true => rw [List.filter_cons_of_pos (by exact hd)]; rfl
      | false => rw [List.filter_cons_of_neg (by rw [hd]; simp)]; rfl
def wasL (B : Bk) (line : Nat) : List Ln := (rdsL B.n (B.ls.getD line default)).filter fun l => (exT B B.ls.length []).any fun X => decide (X.getD line default = l)
theorem rds_32 {B : Bk} (V : VB B) (l : Ln) : (rdsL B.n l).length ≤ 1000 := by
  have h := rds_len B.n l
  have hn := V.n
  have h1 : (szK l).toNat ≤ 2 := by unfold szK; split <;> omega
  have h2 : (szC B.n l).toNat ≤ 4 := by unfold szC; split <;> omega
  have h3 : (szT B.n l).toNat ≤ 4 := by unfold szT; split <;> omega
  have h4 : (szC B.n l).toNat * (szT B.n l).toNat ≤ 4 * 4 := Nat.mul_le_mul h2 h3
  have h5 : (szK l).toNat * ((szC B.n l).toNat * (szT B.n l).toNat) ≤ 2 * (4 * 4) := Nat.mul_le_mul h1 h4
  omega
theorem fz_slC {B : Pos → Prop} {ob : T Ev.C} (hB : ¬ B i14) : ∀ (s : List Ln), (ob.get i14 = blC s) → Fz B ob (slC s) (.lst 3 (rows lnD s))
  | [], _ => .ns
  | a :: s, h => Fz.whole (cs := (lnF (a :: s)).map fun d => Cell.o d s.length) (cur := s.length + 1) hB h (by simp [rows]) (ln_three _) (by rfl) (pu_ln _)
set_option maxHeartbeats 2000000 in
theorem j_was {B : Bk} (V : VB B) {line : Nat} (hl : line < B.ls.length) (M : Memo) (hM : MOk B M) :
    ∃ M', MOk B M' ∧ CallOk Try.prog p92.ix [.ag (wkQ B ++ [.mp .h]), .i .i64 (line : Int)] (mapP M) (.o .h) none (.lst 3 (rows lnD (wasL B line))) (mapP M') (.o .h) none := by
  have e1 := rows_length lnD B.ls
  have hL8 := V.len
  have i0 : wsI line [] [] := ⟨fun e h => (by cases h), fun l => ⟨fun h => (by cases h), fun ⟨X, h, _⟩ => (by cases h)⟩⟩
  obtain ⟨_, _, ⟨M', m, gg, hM', hFl, rfl, rfl⟩, Hc⟩ := j_truths1 V (ws_ok V hl) M hM [] i0 rfl
  obtain ⟨⟨hm1, hm2⟩, _⟩ := ws_fld V hl _ [] rfl i0 hFl
  have hrow := pu_wk6 B.n B.coin B.box B.ls B.cs
  have hlr : PuL (ln3 (B.ls.getD line default)) := by simp [ln3, PuL, Pu]
  obtain ⟨hk, hc, ht⟩ := V.ln hl
  obtain ⟨_, _, ⟨s', g2, hF2, rfl, rfl⟩, Hi⟩ := j_itL (wcL M' m (wk6 B.n B.coin B.box B.ls B.cs) (ln3 (B.ls.getD line default))) i13 _ _ B.n B.coin B.box B.ls B.cs V.n (B.ls.getD line default) hk hc ht (wc_ok hrow hlr hm1 (fun a ha => by
    obtain ⟨h1, h2, h3⟩ := V.rd hl ha
    exact ⟨wf_small (by omega) (by omega), wf_small (by omega) (by omega), wf_small (by omega) (by omega)⟩) (rds_32 V _)) [] (show wcI m [] [] from rfl)
  obtain ⟨hs', _⟩ := wc_fld _ hF2
  have hw : s' = wasL B line := by
    rw [hs', List.nil_append]
    unfold wasL
    refine List.filter_congr fun l _ => ?_
    rw [Bool.eq_iff_iff, decide_eq_true_iff, hm2 l, List.any_eq_true]
    exact ⟨fun ⟨X, h1, h2⟩ => ⟨X, h1, decide_eq_true h2⟩, fun ⟨X, h1, h2⟩ => ⟨X, h1, of_decide_eq_true h2⟩⟩
  rw [← hw]
  have Hh := CallOk.hole (lg := none) (lg' := none) (r := i14) (nx := i14) (ob := trL (some (.map (mapL M'))) none none (some (.map (metL m))) (some (.cells false [.o (.mp (.o (.o .h))) 0] 1)) none none none none none none (some (.cells false [.o .ns 0] 1)) (some (.lp (wcS (wk6 B.n B.coin B.box B.ls B.cs) (ln3 (B.ls.getD line default))) [p28] 36 (rfA (bodyC Try.f91) 1) (rfB (bodyC Try.f91) 1) .ready none)) none none none none none none none) (by
    have he : T.set i14 .hole (trL (some (.map (mapL M'))) none none (some (.map (metL m))) (some (.cells false [.o (.mp (.o (.o .h))) 0] 1)) none none none none none none (some (.cells false [.o .ns 0] 1)) (some (.lp (wcS (wk6 B.n B.coin B.box B.ls B.cs) (ln3 (B.ls.getD line default))) [p28] 36 (rfA (bodyC Try.f91) 1) (rfB (bodyC Try.f91) 1) .ready none)) none none none none none none none) = (wcL M' m (wk6 B.n B.coin B.box B.ls B.cs) (ln3 (B.ls.getD line default))).base [] := rfl
    rw [he]
    exact Hi) (Nat.le_refl _) (by simp [i14, nb2, Pos.nat]) trivial
  have cR := (j_readings B.n B.coin B.box B.ls B.cs (B.ls.getD line default)).sub (wk_any (d := .mp .h) (by simp [PuL, Pu]))
  obtain ⟨v, ob', ⟨M'', hM'', rfl, rfl⟩, Hb⟩ := CallOk.runE (Φ := fun v ob' => ∃ M', MOk B M' ∧ v = .lst 3 (rows lnD s') ∧ ob' = mapP M') (ob := mapP M) (nx := .o .h) (nx' := .o .h) (ds := [.ag (wkQ B ++ [.mp .h]), .i .i64 (line : Int)]) fn91 (by simp) (Nat.le_refl _) (by
    conv => whnf
    refine Rn.le (a := ⟨(.n (.n .e (some (.i .i64 (line : Int))) .e) (some (.ag (wkQ B ++ [.mp .h]))) .e), trL (some (.map (mapL M))) none none none none none none none none none none none none none none none none none none none, .o .h, none⟩) ?_ ?_
    · unfold wkQ trL
      conv => whnf
      repeat' first | ((first | with_reducible apply WB.tt | with_reducible apply WB.ff | refine Rn.seq ?_ | refine Rn.reg ?_ | refine Rn.drw ?_ | refine Rn.blk ?_ | refine Rn.skip ?_ | refine Rn.ret ?_ | refine Rn.exit ?_ | refine Rn.cond rfl ?_ | refine And.intro (InR.i64 (by omega) (by omega)) ?_ | refine And.intro (show _ ≠ (0 : Int) by omega) ?_ | refine WIx.intsN (by omega) ?_ | refine WIx.rowsN (by omega) ?_) <;> conv => whnf)
      refine WCall.of (j_truths (B := B) (x1 := some (.map (mapL M))) (x2 := some (wkCl B)) (x3 := (some (.cells false [.o (.i .i64 (line : Int)) 0] 1))) (x4 := (some (.map (metL [])))) (x5 := some (.cells false [.o (.mp (.o (.o .h))) 0] 1)) ?_) ?_
      · show TAll (fun id c => id.nat < 6 ∧ KpC 6 c) _
        unfold trL
        repeat' first | exact TAll.e | refine TAll.some ?_ ?_ ?_ | refine TAll.none ?_ ?_
        all_goals refine ⟨by simp [Pos.nat], ?_⟩
        all_goals first
          | exact mapL_kp
          | exact metL_kp
          | exact wkCl_kp B (by omega)
          | (refine KpL.all ?_; simp [KpL, Kp, Cell.d, Pu, Pos.nat])
      conv => whnf
      repeat' first | ((first | with_reducible apply WB.tt | with_reducible apply WB.ff | refine Rn.seq ?_ | refine Rn.reg ?_ | refine Rn.drw ?_ | refine Rn.blk ?_ | refine Rn.skip ?_ | refine Rn.ret ?_ | refine Rn.exit ?_ | refine Rn.cond rfl ?_ | refine And.intro (InR.i64 (by omega) (by omega)) ?_ | refine And.intro (show _ ≠ (0 : Int) by omega) ?_ | refine WIx.intsN (by omega) ?_ | refine WIx.rowsN (by omega) ?_) <;> conv => whnf)
      refine Rn.le (a := ⟨wsS, trL (some (.map (mapL M))) (some (wkCl B)) (some (.cells false [.o (.i .i64 (line : Int)) 0] 1)) (some (.map (metL []))) (some (.cells false [.o (.mp (.o (.o .h))) 0] 1)) (some (wkCl B)) none none none none none none none none none none none none none none, i7, none⟩) ?_ ?_
      · refine Rn.rf rfl rfl Hc rfl (by simp) ?_
        unfold Tns.bob trL wsM wsS
        conv => whnf
        repeat' first | ((first | with_reducible apply WB.tt | with_reducible apply WB.ff | refine Rn.seq ?_ | refine Rn.reg ?_ | refine Rn.drw ?_ | refine Rn.blk ?_ | refine Rn.skip ?_ | refine Rn.ret ?_ | refine Rn.exit ?_ | refine Rn.cond rfl ?_ | refine And.intro (InR.i64 (by omega) (by omega)) ?_ | refine And.intro (show _ ≠ (0 : Int) by omega) ?_ | refine WIx.intsN (by omega) ?_ | refine WIx.rowsN (by omega) ?_ | refine WCall.pure (cR) ?_) <;> conv => whnf)
        refine Rn.le (a := ⟨wcS (wk6 B.n B.coin B.box B.ls B.cs) (ln3 (B.ls.getD line default)), trL (some (.map (mapL M'))) none none (some (.map (metL m))) (some (.cells false [.o (.mp (.o (.o .h))) 0] 1)) none none none none none none (some (.cells false [.o .ns 0] 1)) none none none none none none none none, i13, none⟩) ?_ ?_
        · refine Rn.rf rfl rfl Hh rfl (by simp) ?_
          unfold Lns.base trL wcL wcS
          conv => whnf
          repeat' first | ((first | with_reducible apply WB.tt | with_reducible apply WB.ff | refine Rn.seq ?_ | refine Rn.reg ?_ | refine Rn.drw ?_ | refine Rn.blk ?_ | refine Rn.skip ?_ | refine Rn.ret ?_ | refine Rn.exit ?_ | refine Rn.cond rfl ?_ | refine And.intro (InR.i64 (by omega) (by omega)) ?_ | refine And.intro (show _ ≠ (0 : Int) by omega) ?_ | refine WIx.intsN (by omega) ?_ | refine WIx.rowsN (by omega) ?_) <;> conv => whnf)
          refine ⟨_, _, ⟨M', hM', rfl, rfl⟩, ⟨.inr rfl, ⟨_, rfl, ?_⟩, Shr.kp ?_ (mapP_kp M')⟩⟩
          · exact fz_slC (by simp [i14, Pos.nat]) s' rfl
          · show T.le (T.n .e (some (.map (mapL M'))) .e : T Ev.C) _
            refine T.le_some (T.le_e _) rfl (T.le_e _)
        · refine X.le.mk ?_ ?_ (Nat.le_refl _) rfl rfl
          · unfold wcS
            repeat' first | exact T.le_refl _ | exact T.le_e _ | refine T.le_some ?_ rfl ?_ | refine T.le_same ?_ ?_ | refine T.le_none ?_ ?_
          · unfold trL
            repeat' first | exact T.le_refl _ | exact T.le_e _ | refine T.le_some ?_ rfl ?_ | refine T.le_same ?_ ?_ | refine T.le_none ?_ ?_
      · refine X.le.mk ?_ ?_ (Nat.le_refl _) rfl rfl
        · unfold wsS
          repeat' first | exact T.le_refl _ | exact T.le_e _ | refine T.le_some ?_ rfl ?_ | refine T.le_same ?_ ?_ | refine T.le_none ?_ ?_
        · unfold trL
          repeat' first | exact T.le_refl _ | exact T.le_e _ | refine T.le_some ?_ rfl ?_ | refine T.le_same ?_ ?_ | refine T.le_none ?_ ?_
    · refine X.le.mk (T.le_refl _) ?_ (Nat.le_refl _) rfl rfl
      unfold trL
      repeat' first | exact T.le_e _ | refine T.le_some ?_ rfl ?_ | refine T.le_none ?_ ?_ | refine T.le_ee ?_ ?_)
  exact ⟨M'', hM'', Hb⟩
end Go.Ev
namespace Go.Ev
open Go.Proofs
set_option maxRecDepth 100000
def wasT (n coin box : Int) (ls : List Ln) (cs : List Ct) (line : Int) : D :=
  if sE n coin box ls cs (inR line 0 ((ls.length : Int) - 1)) = 0 then .tp [.lst 3 (rows lnD (wasL (B5 n coin box ls cs) line.toNat)), .i .i64 0] else .tp [.lst 3 [], .i .i64 (sE n coin box ls cs (inR line 0 ((ls.length : Int) - 1)))]
theorem j_WasP (n coin box : Int) (ls : List Ln) (cs : List Ct) (line : Int) (hll : ls.length ≤ 1000) : PureF Try.prog p44.ix [.ag [.i .i64 n, .i .i64 coin, .i .i64 box, .lst 3 (rows lnD ls), .lst 3 (rows ctD cs)], .i .i64 line] (wasT n coin box ls cs line) := by
  have e1 := rows_length lnD ls
  have cU : PureF Try.prog p86.ix [.i .i64 line, .i .i64 (((rows lnD ls).length : Int) - 1)] (.b (inR line 0 ((ls.length : Int) - 1))) := by
    have := j_upTo line (((rows lnD ls).length : Int) - 1)
    rw [e1] at this ⊢
    exact this
  unfold wasT
  by_cases hE : sE n coin box ls cs (inR line 0 ((ls.length : Int) - 1)) = 0
  · rw [if_pos hE]
    obtain ⟨hf, ht⟩ := sE_fault hE
    have hE' := hE
    rw [ht] at hE' cU
    obtain ⟨M, hM, Hs⟩ := j_startO n coin box ls cs hE'
    have ha := inR_iff.1 ht
    have V := VB.of hf
    obtain ⟨M', hM', Hb⟩ := j_was V (line := line.toNat) (show line.toNat < ls.length by omega) M hM
    rw [show ((line.toNat : Nat) : Int) = line by omega] at Hb
    refine PureF.run fn43 (by simp) (by simp [PuL, PuE, Pu, pu_ints, pu_ln, pu_ct]) ?_; conv => whnf
    repeat' first | ((first | with_reducible apply WB.tt | with_reducible apply WB.ff | refine Rn.seq ?_ | refine Rn.reg ?_ | refine Rn.drw ?_ | refine Rn.blk ?_ | refine Rn.skip ?_ | refine Rn.ret ?_ | refine Rn.exit ?_ | refine Rn.cond rfl ?_ | refine And.intro (InR.i64 (by omega) (by omega)) ?_ | refine And.intro (show _ ≠ (0 : Int) by omega) ?_ | refine WIx.intsN (by omega) ?_ | refine WIx.rowsN (by omega) ?_ | refine WCall.pure (cU) ?_ | with_reducible refine WB.decT (by first | with_reducible rfl | assumption | omega | exact ⟨rfl, rfl⟩) ?_ | with_reducible refine WB.decF (by first | assumption | omega) ?_ | with_reducible refine WB.ndT (by first | with_reducible rfl | assumption | omega | exact ⟨rfl, rfl⟩) ?_ | with_reducible refine WB.ndF (by first | assumption | omega) ?_ | with_reducible refine WB.nt ?_ | with_reducible refine WB.nf ?_ | with_reducible refine WB.dec (fun h => ?_) (fun h => ?_) | with_reducible refine WB.ndec (fun h => ?_) (fun h => ?_) | refine WB.mk (fun h => ?_) (fun h => ?_)) <;> conv => whnf)
    refine WCall.of (start_at Hs) ?_; conv => whnf
    repeat' first | ((first | with_reducible apply WB.tt | with_reducible apply WB.ff | refine Rn.seq ?_ | refine Rn.reg ?_ | refine Rn.drw ?_ | refine Rn.blk ?_ | refine Rn.skip ?_ | refine Rn.ret ?_ | refine Rn.exit ?_ | refine Rn.cond rfl ?_ | refine And.intro (InR.i64 (by omega) (by omega)) ?_ | refine And.intro (show _ ≠ (0 : Int) by omega) ?_ | refine WIx.intsN (by omega) ?_ | refine WIx.rowsN (by omega) ?_ | with_reducible refine WB.decT (by first | with_reducible rfl | assumption | omega | exact ⟨rfl, rfl⟩) ?_ | with_reducible refine WB.decF (by first | assumption | omega) ?_ | with_reducible refine WB.ndT (by first | with_reducible rfl | assumption | omega | exact ⟨rfl, rfl⟩) ?_ | with_reducible refine WB.ndF (by first | assumption | omega) ?_ | with_reducible refine WB.nt ?_ | with_reducible refine WB.nf ?_ | with_reducible refine WB.dec (fun h => ?_) (fun h => ?_) | with_reducible refine WB.ndec (fun h => ?_) (fun h => ?_) | refine WB.mk (fun h => ?_) (fun h => ?_)) <;> conv => whnf)
    refine WCall.of (CallOk.mapAt Hb (pu_ln _) (id := .o .h) rfl (show 2 < 4 from by decide) (mp_at (show PuL [.i .i64 line] from ⟨trivial, trivial⟩))) ?_; conv => whnf
    repeat' first | ((first | with_reducible apply WB.tt | with_reducible apply WB.ff | refine Rn.seq ?_ | refine Rn.reg ?_ | refine Rn.drw ?_ | refine Rn.blk ?_ | refine Rn.skip ?_ | refine Rn.ret ?_ | refine Rn.exit ?_ | refine Rn.cond rfl ?_ | refine And.intro (InR.i64 (by omega) (by omega)) ?_ | refine And.intro (show _ ≠ (0 : Int) by omega) ?_ | refine WIx.intsN (by omega) ?_ | refine WIx.rowsN (by omega) ?_ | with_reducible refine WB.decT (by first | with_reducible rfl | assumption | omega | exact ⟨rfl, rfl⟩) ?_ | with_reducible refine WB.decF (by first | assumption | omega) ?_ | with_reducible refine WB.ndT (by first | with_reducible rfl | assumption | omega | exact ⟨rfl, rfl⟩) ?_ | with_reducible refine WB.ndF (by first | assumption | omega) ?_ | with_reducible refine WB.nt ?_ | with_reducible refine WB.nf ?_ | with_reducible refine WB.dec (fun h => ?_) (fun h => ?_) | with_reducible refine WB.ndec (fun h => ?_) (fun h => ?_) | refine WB.mk (fun h => ?_) (fun h => ?_)) <;> conv => whnf)
    exact ⟨.inr rfl, _, rfl, .tp (.cons (.pu (pu_ln _)) (.cons (.pu trivial) .nil))⟩
  · rw [if_neg hE]
    have cS := j_startE n coin box ls cs _ hE
    generalize sE n coin box ls cs (inR line 0 ((ls.length : Int) - 1)) = e at hE cS ⊢
    unfold wkQ B5 zwk at cS
    refine PureF.run fn43 (by simp) (by simp [PuL, PuE, Pu, pu_ints, pu_ln, pu_ct]) ?_; conv => whnf
    repeat' first | ((first | with_reducible apply WB.tt | with_reducible apply WB.ff | refine Rn.seq ?_ | refine Rn.reg ?_ | refine Rn.drw ?_ | refine Rn.blk ?_ | refine Rn.skip ?_ | refine Rn.ret ?_ | refine Rn.exit ?_ | refine Rn.cond rfl ?_ | refine And.intro (InR.i64 (by omega) (by omega)) ?_ | refine And.intro (show _ ≠ (0 : Int) by omega) ?_ | refine WIx.intsN (by omega) ?_ | refine WIx.rowsN (by omega) ?_ | refine WCall.pure (cU) ?_ | refine WCall.pure (cS) ?_ | with_reducible refine WB.decT (by first | with_reducible rfl | assumption | omega | exact ⟨rfl, rfl⟩) ?_ | with_reducible refine WB.decF (by first | assumption | omega) ?_ | with_reducible refine WB.ndT (by first | with_reducible rfl | assumption | omega | exact ⟨rfl, rfl⟩) ?_ | with_reducible refine WB.ndF (by first | assumption | omega) ?_ | with_reducible refine WB.nt ?_ | with_reducible refine WB.nf ?_ | with_reducible refine WB.dec (fun h => ?_) (fun h => ?_) | with_reducible refine WB.ndec (fun h => ?_) (fun h => ?_) | refine WB.mk (fun h => ?_) (fun h => ?_)) <;> conv => whnf)
    all_goals first
      | (exfalso; omega)
      | exact ⟨.inr rfl, _, rfl, .tp (.cons .ns (.cons (.pu trivial) .nil))⟩
end Go.Ev
namespace Go.Ev
open Go.Proofs
set_option maxRecDepth 100000
theorem mem_tkL {n : Int} {l x : Ln} {i j : Int} : ∀ k : Nat, x ∈ tkL n l i j k ↔ (x.k = i ∧ x.c = j ∧ (0 ≤ x.t ∧ x.t < (k : Int)) ∧ agB l x = true)
  | 0 => by
    unfold tkL
    constructor
    · intro h; cases h
    · rintro ⟨_, _, h, _⟩; exact absurd h (by omega)
  | k + 1 => by
    unfold tkL
    rw [List.mem_append, mem_tkL k]
    constructor
    · rintro (⟨h1, h2, h3, h4⟩ | h)
      · exact ⟨h1, h2, by omega, h4⟩
      · cases ha : agB l ⟨i, j, (k : Int)⟩ with
        | false => rw [ha] at h; cases h
        | true =>
          rw [ha, cond_true, List.mem_singleton] at h
          subst h
          exact ⟨rfl, rfl, ⟨by show (0 : Int) ≤ (k : Int); omega, by show (k : Int) < ((k + 1 : Nat) : Int); omega⟩, ha⟩
    · obtain ⟨xk, xc, xt⟩ := x
      rintro ⟨h1, h2, h3, h4⟩
      have h1 : xk = i := h1
      have h2 : xc = j := h2
      have h3 : 0 ≤ xt ∧ xt < ((k + 1 : Nat) : Int) := h3
      by_cases h : xt < (k : Int)
      · exact .inl ⟨h1, h2, ⟨h3.1, h⟩, h4⟩
      · right
        have : xt = (k : Int) := by omega
        subst h1 h2 this
        rw [h4, cond_true]
        exact List.mem_singleton.2 rfl
theorem mem_chL3 {n : Int} {l x : Ln} {i : Int} : ∀ k : Nat, x ∈ chL3 n l i k ↔ (x.k = i ∧ (0 ≤ x.c ∧ x.c < (k : Int)) ∧ (0 ≤ x.t ∧ x.t < (n.toNat : Int)) ∧ agB l x = true)
  | 0 => by
    unfold chL3
    constructor
    · intro h; cases h
    · rintro ⟨_, h, _, _⟩; exact absurd h (by omega)
  | k + 1 => by
    unfold chL3
    rw [List.mem_append, mem_chL3 k, mem_tkL]
    constructor
    · rintro (⟨h1, h2, h3, h4⟩ | ⟨h1, h2, h3, h4⟩)
      · exact ⟨h1, by omega, h3, h4⟩
      · exact ⟨h1, by omega, h3, h4⟩
    · rintro ⟨h1, h2, h3, h4⟩
      by_cases h : x.c < (k : Int)
      · exact .inl ⟨h1, ⟨h2.1, h⟩, h3, h4⟩
      · exact .inr ⟨h1, by omega, h3, h4⟩
theorem mem_readL {n : Int} {l x : Ln} (hn : 0 ≤ n) : x ∈ readL n l ↔ rd1 n l x = true := by
  unfold readL
  show x ∈ ([] ++ chL3 n l (((0 : Nat) : Int) + 1) n.toNat) ++ chL3 n l (((1 : Nat) : Int) + 1) n.toNat ↔ _
  rw [List.nil_append, List.mem_append, mem_chL3, mem_chL3]
  unfold rd1
  rw [Bool.and_eq_true, Bool.and_eq_true, Bool.and_eq_true, inR_iff, inR_iff, inR_iff]
  constructor
  · rintro (⟨h1, h2, h3, h4⟩ | ⟨h1, h2, h3, h4⟩)
    · exact ⟨by omega, by omega, by omega, h4⟩
    · exact ⟨by omega, by omega, by omega, h4⟩
  · rintro ⟨h1, h2, h3, h4⟩
    have : x.k = 1 ∨ x.k = 2 := by omega
    rcases this with h | h
    · exact .inl ⟨by omega, by omega, by omega, h4⟩
    · exact .inr ⟨by omega, by omega, by omega, h4⟩
abbrev rdK (n : Int) (ls : List Ln) (i : Nat) : List Ln := readL n (ls.getD i default)
def divF (n : Int) (ls : List Ln) (m : Nat) : Nat → Nat
  | 0 => m
  | i + 1 => divF n ls m i / (rdK n ls i).length
def nthF (n : Int) (ls : List Ln) (m : Nat) : Nat → List Ln
  | 0 => []
  | i + 1 => nthF n ls m i ++ [(rdK n ls i).getD (divF n ls m i % (rdK n ls i).length) default]
def nthL (n : Int) (ls : List Ln) (m : Nat) : List Ln := nthF n ls m ls.length
def pF (n : Int) (ls : List Ln) : Nat → Nat
  | 0 => 1
  | i + 1 => pF n ls i * (rdK n ls i).length
theorem nthF_len (n : Int) (ls : List Ln) (m : Nat) : ∀ i, (nthF n ls m i).length = i
  | 0 => rfl
  | i + 1 => by
    unfold nthF
    rw [List.length_append, nthF_len n ls m i]; rfl
theorem nthF_at (n : Int) (ls : List Ln) (m : Nat) : ∀ {i j : Nat}, j < i → (nthF n ls m i).getD j default = (rdK n ls j).getD (divF n ls m j % (rdK n ls j).length) default
  | 0, _, h => absurd h (Nat.not_lt_zero _)
  | i + 1, j, h => by
    unfold nthF
    have hl := nthF_len n ls m i
    by_cases e : j = i
    · subst e
      have := app_last (nthF n ls m j) ((rdK n ls j).getD (divF n ls m j % (rdK n ls j).length) default)
      rw [hl] at this
      exact this
    · have := SameTo.app (nthF n ls m i) ((rdK n ls i).getD (divF n ls m i % (rdK n ls i).length) default) j (by rw [hl]; omega)
      rw [this]
      exact nthF_at n ls m (by omega)
theorem divF_eq (n : Int) (ls : List Ln) (m : Nat) : ∀ i, divF n ls m i = m / pF n ls i
  | 0 => by
    show m = m / 1
    rw [Nat.div_one]
  | i + 1 => by
    unfold divF pF
    rw [divF_eq n ls m i, Nat.div_div_eq_div_mul]
theorem rdK_len {B : Bk} (V : VB B) {i : Nat} (h : i < B.ls.length) : ((rdK B.n B.ls i).length : Int) = rdN B.n (B.ls.getD i default) ∧ 1 ≤ (rdK B.n B.ls i).length ∧ (rdK B.n B.ls i).length ≤ 32 := by
  have h1 := read_len V.n (List.all_eq_true.1 V.ls _ (getD_mem (d := default) h))
  have h2 := rdN_bd V.n.1 V.n.2 (B.ls.getD i default)
  have h1 : ((rdK B.n B.ls i).length : Int) = rdN B.n (B.ls.getD i default) := h1
  exact ⟨h1, by omega, by omega⟩
theorem pF_pos {B : Bk} (V : VB B) : ∀ i, i ≤ B.ls.length → 1 ≤ pF B.n B.ls i
  | 0, _ => Nat.le_refl _
  | i + 1, h => by
    have h1 := pF_pos V i (by omega)
    have h2 := (rdK_len V (i := i) (by omega)).2.1
    unfold pF
    exact Nat.mul_pos h1 h2
theorem pF_prod {B : Bk} (V : VB B) : ∀ i, i ≤ B.ls.length → (pF B.n B.ls i : Int) = prodP B.n (B.ls.take i)
  | 0, _ => rfl
  | i + 1, h => by
    have h1 := pF_prod V i (by omega)
    have h2 := (rdK_len V (i := i) (by omega)).1
    have h3 : prodP B.n (B.ls.take (i + 1)) = prodP B.n (B.ls.take i) * rdN B.n (B.ls.getD i default) := foldl_takeJ _ _ (by omega)
    unfold pF
    rw [h3, ← h1, ← h2, Int.natCast_mul]
theorem pF_dvd (n : Int) (ls : List Ln) {q : Nat} : ∀ {i : Nat}, q < i → ∃ K, pF n ls i = pF n ls q * ((rdK n ls q).length * K)
  | 0, h => absurd h (Nat.not_lt_zero _)
  | i + 1, h => by
    by_cases e : q = i
    · subst e
      exact ⟨1, by rw [Nat.mul_one]; rfl⟩
    · obtain ⟨K, hK⟩ := pF_dvd n ls (show q < i by omega)
      refine ⟨K * (rdK n ls i).length, ?_⟩
      show pF n ls i * (rdK n ls i).length = _
      rw [hK, Nat.mul_assoc, Nat.mul_assoc]
theorem nthF_cong {n : Int} {ls : List Ln} {m m' : Nat} : ∀ i, (∀ q, q < i → divF n ls m' q % (rdK n ls q).length = divF n ls m q % (rdK n ls q).length) → nthF n ls m' i = nthF n ls m i
  | 0, _ => rfl
  | i + 1, h => by
    unfold nthF
    rw [nthF_cong i (fun q hq => h q (by omega)), h i (by omega)]
theorem nth_mem {B : Bk} (V : VB B) {X : List Ln} (hl : X.length = B.ls.length) (hX : ∀ i, i < X.length → X.getD i default ∈ rdK B.n B.ls i) : ∀ i, i ≤ B.ls.length → ∃ m, m < pF B.n B.ls i ∧ nthF B.n B.ls m i = X.take i
  | 0, _ => ⟨0, Nat.one_pos, rfl⟩
  | i + 1, h => by
    obtain ⟨m, hm, he⟩ := nth_mem V hl hX i (by omega)
    obtain ⟨k, hk, hg⟩ := List.getElem_of_mem (hX i (show i < X.length by omega))
    have hP := pF_pos V i (by omega)
    have hdiv : (m + pF B.n B.ls i * k) / pF B.n B.ls i = k := by
      rw [Nat.add_mul_div_left _ _ hP, Nat.div_eq_of_lt hm, Nat.zero_add]
    refine ⟨m + pF B.n B.ls i * k, ?_, ?_⟩
    · show m + pF B.n B.ls i * k < pF B.n B.ls i * (rdK B.n B.ls i).length
      have : pF B.n B.ls i * (k + 1) ≤ pF B.n B.ls i * (rdK B.n B.ls i).length := Nat.mul_le_mul_left _ hk
      rw [Nat.mul_add, Nat.mul_one] at this
      omega
    · rw [take_succ_getD (d := default) (show i < X.length by omega)]
      show nthF B.n B.ls _ i ++ [_] = _
      have hc : nthF B.n B.ls (m + pF B.n B.ls i * k) i = nthF B.n B.ls m i := nthF_cong i fun q hq => by
        obtain ⟨K, hK⟩ := pF_dvd B.n B.ls hq
        have hPq : 0 < pF B.n B.ls q := pF_pos V q (Nat.le_trans (Nat.le_of_lt hq) (Nat.le_of_succ_le h))
        rw [divF_eq, divF_eq, hK, Nat.mul_assoc, Nat.add_mul_div_left _ _ hPq, Nat.mul_assoc, Nat.add_mul_mod_self_left]
      rw [hc, he, divF_eq, hdiv, Nat.mod_eq_of_lt hk]
      congr 2
      rw [← hg]
      simp [List.getD, hk]
def tBad (box coin : Int) (cs : List Ct) (T : List Ln) : Bool := possB T && cntB box coin cs T
def allN3 (n : Int) (ls : List Ln) : List (List Ln) := (List.range (manyR n ls).toNat).map (nthL n ls)
def refT (B : Bk) : List (List Ln) := (allN3 B.n B.ls).filter (tBad B.box B.coin B.cs)
theorem nth_read {B : Bk} (V : VB B) (m : Nat) : readB B.n B.ls (nthL B.n B.ls m) = true := by
  unfold readB
  rw [Bool.and_eq_true, decide_eq_true_iff, List.all_eq_true]
  have hl : (nthL B.n B.ls m).length = B.ls.length := nthF_len _ _ _ _
  refine ⟨hl, fun i hi => ?_⟩
  have hi : i < B.ls.length := by rw [← hl]; exact List.mem_range.1 hi
  rw [← mem_readL (by have := V.n; omega)]
  have h2 := (rdK_len V hi).2.1
  have : (nthL B.n B.ls m).getD i default = _ := nthF_at _ _ _ hi
  rw [this]
  exact getD_mem (Nat.mod_lt _ h2)
theorem mem_allN3 {B : Bk} (V : VB B) {X : List Ln} : X ∈ allN3 B.n B.ls ↔ readB B.n B.ls X = true := by
  unfold allN3
  rw [List.mem_map]
  constructor
  · rintro ⟨m, _, rfl⟩
    exact nth_read V m
  · intro h
    have hm : (pF B.n B.ls B.ls.length : Int) = manyR B.n B.ls := by
      have h1 := pF_prod V B.ls.length (Nat.le_refl _)
      rw [List.take_length] at h1
      have h2 := many_prod V.n.1 V.n.2 B.ls
      have h3 := V.many
      omega
    unfold readB at h
    rw [Bool.and_eq_true, decide_eq_true_iff, List.all_eq_true] at h
    obtain ⟨hl, h⟩ := h
    obtain ⟨m, h1, h2⟩ := nth_mem V hl (fun i hi => by
      rw [mem_readL (by have := V.n; omega)]
      exact h i (List.mem_range.2 hi)) B.ls.length (Nat.le_refl _)
    refine ⟨m, List.mem_range.2 (by omega), ?_⟩
    show nthF _ _ _ _ = _
    rw [h2, List.take_of_length_le (by omega)]
theorem mem_refT {B : Bk} (V : VB B) {X : List Ln} : X ∈ refT B ↔ fitsB B.n B.coin B.box B.ls B.cs X = true := by
  unfold refT fitsB
  rw [List.mem_filter, mem_allN3 V, Bool.and_eq_true (readB _ _ _)]
  rfl
theorem refT_ext {B : Bk} (V : VB B) {X : List Ln} : X ∈ refT B ↔ X ∈ exT B B.ls.length [] := by
  rw [mem_refT V, mem_exT, ext_fits V]
end Go.Ev
namespace Go.Ev
open Go.Proofs
set_option maxRecDepth 100000
end Go.Ev
namespace Go.Ev
open Go.Proofs
set_option maxRecDepth 100000
def tlD (X : List Ln) : List D := [.lst 3 (rows lnD X)]
theorem pu_tl (L : List (List Ln)) : PuE (rows tlD L) := pu_rows (fun x => by simp [tlD, PuL, Pu, pu_ln]) L
section
variable (n coin box : Int) (ls : List Ln) (cs : List Ct)
end
theorem hasB_nil {B : Bk} (V : VB B) : hasB B = true ↔ refT B ≠ [] := by
  unfold hasB
  rw [can_iff]
  constructor
  · rintro ⟨X, h⟩ he
    have := (refT_ext V).2 (mem_exT.2 h)
    rw [he] at this; cases this
  · intro h
    obtain ⟨X, s, hs⟩ := List.exists_cons_of_ne_nil h
    have : X ∈ refT B := by rw [hs]; exact List.mem_cons_self
    exact ⟨X, mem_exT.1 ((refT_ext V).1 this)⟩
end Go.Ev
namespace Go.Ev
open Go.Proofs
set_option maxRecDepth 100000
theorem foldl_minJ : ∀ (L : List Int) (a : Int), L.foldl min a ≤ a ∧ (∀ x ∈ L, L.foldl min a ≤ x) ∧ (L.foldl min a = a ∨ L.foldl min a ∈ L)
  | [], a => ⟨Int.le_refl _, fun x h => absurd h (by simp), .inl rfl⟩
  | y :: L, a => by
    obtain ⟨h1, h2, h3⟩ := foldl_minJ L (min a y)
    refine ⟨by show L.foldl min (min a y) ≤ a; omega, fun x hx => ?_, ?_⟩
    · show L.foldl min (min a y) ≤ x
      rcases List.mem_cons.1 hx with rfl | hx
      · omega
      · exact h2 x hx
    · show L.foldl min (min a y) = a ∨ L.foldl min (min a y) ∈ y :: L
      rcases h3 with h3 | h3
      · by_cases h : a ≤ y
        · left; omega
        · right; rw [h3, show min a y = y by omega]; exact List.mem_cons_self
      · exact .inr (List.mem_cons_of_mem _ h3)
theorem foldl_maxJ : ∀ (L : List Int) (a : Int), a ≤ L.foldl max a ∧ (∀ x ∈ L, x ≤ L.foldl max a) ∧ (L.foldl max a = a ∨ L.foldl max a ∈ L)
  | [], a => ⟨Int.le_refl _, fun x h => absurd h (by simp), .inl rfl⟩
  | y :: L, a => by
    obtain ⟨h1, h2, h3⟩ := foldl_maxJ L (max a y)
    refine ⟨by show a ≤ L.foldl max (max a y); omega, fun x hx => ?_, ?_⟩
    · show x ≤ L.foldl max (max a y)
      rcases List.mem_cons.1 hx with rfl | hx
      · omega
      · exact h2 x hx
    · show L.foldl max (max a y) = a ∨ L.foldl max (max a y) ∈ y :: L
      rcases h3 with h3 | h3
      · by_cases h : y ≤ a
        · left; omega
        · right; rw [h3, show max a y = y by omega]; exact List.mem_cons_self
      · exact .inr (List.mem_cons_of_mem _ h3)
theorem getD0_mem {A : List Int} (h : A ≠ []) : A.getD 0 0 ∈ A := getD_mem (by cases A with | nil => exact absurd rfl h | cons a s => simp)
theorem ans_ne {B : Bk} {aft : Nat} {ak : Mo → Int} (h : exT B B.ls.length [] ≠ []) : ansL B aft ak ≠ [] := by
  unfold ansL
  intro he
  exact h (List.map_eq_nil_iff.1 he)
end Go.Ev
namespace Go.Ev
open Go.Proofs
set_option maxRecDepth 100000
def cP (m : Nat) (c : Int) (t : List Ln) : Bool := decide (0 ≤ cOut t c m)
theorem sE_false {n coin box : Int} {ls : List Ln} {cs : List Ct} (h : faultT n coin box ls cs = 0) (hb : hasB (B5 n coin box ls cs) = false) : sE n coin box ls cs true = 11 := by unfold sE; rw [if_neg (fun k => k h), hb]; rfl
theorem sE_true {n coin box : Int} {ls : List Ln} {cs : List Ct} (h : faultT n coin box ls cs = 0) (hb : hasB (B5 n coin box ls cs) = true) : sE n coin box ls cs true = 0 := by unfold sE; rw [if_neg (fun k => k h), hb]; rfl
end Go.Ev
namespace Go.Ev
open Go.Proofs
set_option maxRecDepth 100000
theorem ln_dec (x r : Ln) : decide ([x.k, x.c, x.t] = [r.k, r.c, r.t]) = decide (x = r) := by
  obtain ⟨a, b, c⟩ := x
  obtain ⟨d, e, f⟩ := r
  rw [Bool.eq_iff_iff, decide_eq_true_iff, decide_eq_true_iff]
  simp [Ln.mk.injEq]
theorem WSt.eqLn {sl : T D} {ob : T C} {nx : Pos} {K : X → Prop} {lg : Option (T Bool)} {d : Pos} {x y : RX} {neg : Bool} (a b : Ln) (h1 : opd sl x = some (.ag (lnD a))) (h2 : opd sl y = some (.ag (lnD b))) (ha : lnWf a) (hb : lnWf b) {r : Bool} (hr : (bif neg then !decide (a = b) else decide (a = b)) = r) (k : wOut sl ob nx lg d K (.b r)) : WSt (.eqr d neg [.i .i64, .i .i64, .i .i64] x y) ⟨sl, ob, nx, lg⟩ K :=
  WSt.eqrN [a.k, a.c, a.t] [b.k, b.c, b.t] h1 h2 rfl rfl (by intro y hy; simp only [List.mem_cons, List.not_mem_nil, or_false] at hy; rcases hy with rfl | rfl | rfl; exact ha.1; exact ha.2.1; exact ha.2.2) (by intro y hy; simp only [List.mem_cons, List.not_mem_nil, or_false] at hy; rcases hy with rfl | rfl | rfl; exact hb.1; exact hb.2.1; exact hb.2.2) (by rw [ln_dec]; exact hr) k
section
variable (n coin box : Int) (ls : List Ln) (cs : List Ct) (L : List (List Ln)) (line : Nat) (R : List Ln)
end
end Go.Ev