import Derived.Test.YtjgbfnciedkafaaEvUGl
import Derived.Test.YtjgbfnciedkafaaEvUHb
import Derived.Test.YtjgbfnciedkafaaEvUJs
import Derived.Test.YtjgbfnciedkafaaEvUJb
import Derived.Test.YtjgbfnciedkafaaEvUOc
import Derived.Test.YtjgbfnciedkafaaEvUCut
import Derived.Test.YtjgbfnciedkafaaProg
set_option linter.all false
namespace Go.Ev
open Go.Proofs
set_option maxRecDepth 100000
theorem read_rds_tab : ∀ n ∈ [(1 : Int), 2, 3, 4], ∀ k ∈ [(0 : Int), 1, 2], ∀ c ∈ [(-1 : Int), 0, 1, 2, 3], ∀ t ∈ [(-1 : Int), 0, 1, 2, 3], (c < n && t < n) = true → decide (readL n ⟨k, c, t⟩ = rdsL n ⟨k, c, t⟩) = true := by decide +kernel
theorem read_rds {n : Int} {l : Ln} (hn : 1 ≤ n ∧ n ≤ 4) (hl : lnOk n l = true) : readL n l = rdsL n l := by
  obtain ⟨k, c, t⟩ := l
  unfold lnOk at hl
  rw [Bool.and_eq_true, Bool.and_eq_true, inR_iff, inR_iff, inR_iff] at hl
  obtain ⟨h1, h2, h3⟩ := hl
  have h1 : 0 ≤ k ∧ k ≤ 2 := h1
  have h2 : -1 ≤ c ∧ c ≤ n - 1 := h2
  have h3 : -1 ≤ t ∧ t ≤ n - 1 := h3
  have mn : n ∈ [(1 : Int), 2, 3, 4] := by
    have : n = 1 ∨ n = 2 ∨ n = 3 ∨ n = 4 := by omega
    rcases this with rfl | rfl | rfl | rfl <;> simp
  have mk : k ∈ [(0 : Int), 1, 2] := by
    have : k = 0 ∨ k = 1 ∨ k = 2 := by omega
    rcases this with rfl | rfl | rfl <;> simp
  have mc : c ∈ [(-1 : Int), 0, 1, 2, 3] := by
    have : c = -1 ∨ c = 0 ∨ c = 1 ∨ c = 2 ∨ c = 3 := by omega
    rcases this with rfl | rfl | rfl | rfl | rfl <;> simp
  have mt : t ∈ [(-1 : Int), 0, 1, 2, 3] := by
    have : t = -1 ∨ t = 0 ∨ t = 1 ∨ t = 2 ∨ t = 3 := by omega
    rcases this with rfl | rfl | rfl | rfl | rfl <;> simp
  exact of_decide_eq_true (read_rds_tab n mn k mk c mc t mt (by rw [Bool.and_eq_true, decide_eq_true_iff, decide_eq_true_iff]; omega))
theorem ln_dec (x r : Ln) : decide ([x.k, x.c, x.t] = [r.k, r.c, r.t]) = decide (x = r) := by
  obtain ⟨a, b, c⟩ := x
  obtain ⟨d, e, f⟩ := r
  rw [Bool.eq_iff_iff, decide_eq_true_iff, decide_eq_true_iff]
  simp [Ln.mk.injEq]
theorem WSt.eqLn {sl : T D} {ob : T C} {nx : Pos} {K : X → Prop} {lg : Option (T Bool)} {d : Pos} {x y : RX} {neg : Bool} (a b : Ln) (h1 : opd sl x = some (.ag (lnD a))) (h2 : opd sl y = some (.ag (lnD b))) (ha : lnWf a) (hb : lnWf b) {r : Bool} (hr : (bif neg then !decide (a = b) else decide (a = b)) = r) (k : wOut sl ob nx lg d K (.b r)) : WSt (.eqr d neg [.i .i64, .i .i64, .i .i64] x y) ⟨sl, ob, nx, lg⟩ K :=
  WSt.eqrN [a.k, a.c, a.t] [b.k, b.c, b.t] h1 h2 rfl rfl (by intro y hy; simp only [List.mem_cons, List.not_mem_nil, or_false] at hy; rcases hy with rfl | rfl | rfl; exact ha.1; exact ha.2.1; exact ha.2.2) (by intro y hy; simp only [List.mem_cons, List.not_mem_nil, or_false] at hy; rcases hy with rfl | rfl | rfl; exact hb.1; exact hb.2.1; exact hb.2.2) (by rw [ln_dec]; exact hr) k
def slV : List Ln → D
  | [] => .ns
  | _ :: s => .sl (.i .h) 0 (s.length + 1) s.length 3
def blV : List Ln → Option C
  | [] => none
  | a :: s => some (.cells false ((lnF (a :: s)).map fun d => Cell.o d s.length) (s.length + 1))
def nxV : List Ln → Pos
  | [] => .o .h
  | _ :: _ => .o (.o .h)
theorem slV_kp (A : List Ln) : Kp (nxV A).nat (slV A) := by
  cases A <;> simp [slV, nxV, Kp, Pos.nat, Pu]
theorem nxV_two (A : List Ln) : 2 ≤ (nxV A).nat := by cases A <;> simp [nxV, Pos.nat]
theorem nxV_up (A A' : List Ln) : (nxV A).nat ≤ (nxV (A ++ A')).nat := by
  cases A with
  | nil => cases A' <;> simp [nxV, Pos.nat]
  | cons a A => simp [nxV]
theorem slV_snoc (a : Ln) (s : List Ln) (x : Ln) : slV (a :: (s ++ [x])) = .sl (.i .h) 0 (s.length + 1 + 1) (s.length + 1) 3 := by simp [slV]
theorem blV_snoc (a : Ln) (s : List Ln) (x : Ln) : blV (a :: (s ++ [x])) = some (.cells false ((lnF (a :: s) ++ lnD x).map fun d => Cell.o d (s.length + 1)) (s.length + 1 + 1)) := by
  have h := lnF_snoc (a :: s) x
  have h2 : lnF (a :: (s ++ [x])) = lnF (a :: s) ++ lnD x := h
  simp [blV, h2]
section
variable (n coin box : Int) (ls : List Ln) (cs : List Ct) (L : List (List Ln)) (line : Nat) (R : List Ln)
noncomputable def wrS (A : List Ln) (i : Nat) : X := ⟨(.n (.n (.n (.n .e (some (slV A)) .e) (some (.pt .h 0 0)) .e) (some (.lst 1 (rows tlD L))) (.n (.n .e (some (.i .i64 (i : Int))) .e) none .e)) none (.n (.n (.n .e (some (.lst 3 (rows lnD R))) .e) none .e) (some (.i .i64 (line : Int))) .e)), .n .e (some (bkC n coin box ls cs)) (.n .e (blV A) .e), nxV A, none⟩
noncomputable def wrT (A : List Ln) (i : Nat) (f : Bool) (k : Nat) : X := ⟨(.n (.n (.n (.n .e (some (slV A)) .e) (some (.pt .h 0 0)) (.n .e (some (.i .i64 (k : Int))) .e)) (some (.lst 1 (rows tlD L))) (.n (.n .e (some (.i .i64 (i : Int))) .e) none .e)) none (.n (.n (.n .e (some (.lst 3 (rows lnD R))) .e) none .e) (some (.i .i64 (line : Int))) (.n (.n .e (some (.b f)) .e) none .e))), .n .e (some (bkC n coin box ls cs)) (.n .e (blV A) .e), nxV A, none⟩
theorem wrS_kp (A : List Ln) (i : Nat) : ∀ s d, (wrS n coin box ls cs L line R A i).sl.get s = some d → Kp (nxV A).nat d := by
  have h2 := nxV_two A
  show TAll (fun _ d => Kp (nxV A).nat d) _
  unfold wrS
  repeat' first | exact TAll.e | refine TAll.some ?_ ?_ ?_ | refine TAll.none ?_ ?_
  all_goals first | exact slV_kp A | (simp [Kp, Pu, pu_tl, pu_ln, Pos.nat]; done) | (simp [Kp, Pos.nat]; omega)
theorem wrT_kp (A : List Ln) (i : Nat) (f : Bool) (k : Nat) : ∀ s d, (wrT n coin box ls cs L line R A i f k).sl.get s = some d → Kp (nxV A).nat d := by
  have h2 := nxV_two A
  show TAll (fun _ d => Kp (nxV A).nat d) _
  unfold wrT
  repeat' first | exact TAll.e | refine TAll.some ?_ ?_ ?_ | refine TAll.none ?_ ?_
  all_goals first | exact slV_kp A | (simp [Kp, Pu, pu_tl, pu_ln, Pos.nat]; done) | (simp [Kp, Pos.nat]; omega)
theorem wrO_kp (A : List Ln) (i : Nat) : KpO (nxV A).nat (wrS n coin box ls cs L line R A i).ob := by
  cases A with
  | nil =>
    show TAll (fun id c => id.nat < 2 ∧ KpC 2 c) _
    unfold wrS blV
    exact TAll.some TAll.e ⟨by simp [Pos.nat], bkC_kp _ _ _ _ _ _⟩ (TAll.none TAll.e TAll.e)
  | cons a s =>
    show TAll (fun id c => id.nat < 4 ∧ KpC 4 c) _
    unfold wrS blV
    exact TAll.some TAll.e ⟨by simp [Pos.nat], bkC_kp _ _ _ _ _ _⟩ (TAll.some TAll.e ⟨by simp [Pos.nat], lnF_kp _ _ _ _⟩ TAll.e)
end
def metB (L : List (List Ln)) (line : Nat) (a : Ln) : Bool := L.any fun t => decide (t.getD line default = a)
theorem any_takeJ {α : Type} {p : α → Bool} {L : List α} {i : Nat} {d : α} (h : i < L.length) : (L.take (i + 1)).any p = ((L.take i).any p || p (L.getD i d)) := by
  rw [take_succ_getD (d := d) h, List.any_append]
  simp
set_option maxHeartbeats 2000000 in
theorem j_WasR (n coin box : Int) (ls : List Ln) (cs : List Ct) (L : List (List Ln)) (line : Nat) (hn : 1 ≤ n ∧ n ≤ 4) (hll : line < ls.length) (hl8 : ls.length ≤ 8) (hl : L.length ≤ 4096) (ht : ∀ t ∈ L, line < t.length ∧ lnWf (t.getD line default)) (hRw : ∀ a ∈ readL n (ls.getD line default), lnWf a) (hRl : (readL n (ls.getD line default)).length ≤ 1000) : PureF Try.prog p46.ix [.ag (bk5 n coin box ls cs), .lst 1 (rows tlD L), .i .i64 (line : Int)] (.lst 3 (rows lnD ((readL n (ls.getD line default)).filter (metB L line)))) := by
  have e1 := rows_length lnD ls
  have e2 := rows_length tlD L
  have cR := j_Readings n coin box ls cs (ls.getD line default) (by omega)
  refine PureF.run fn45 (by simp) (by simp [PuL, Pu, bk5, pu_ln, pu_ct, pu_tl]) ?_; conv => whnf
  repeat' first | ((first | with_reducible apply WB.tt | with_reducible apply WB.ff | refine Rn.seq ?_ | refine Rn.reg ?_ | refine Rn.drw ?_ | refine Rn.blk ?_ | refine Rn.skip ?_ | refine Rn.ret ?_ | refine Rn.exit ?_ | refine Rn.cond rfl ?_ | refine And.intro (InR.i64 (by omega) (by omega)) ?_ | refine And.intro (show _ ≠ (0 : Int) by omega) ?_ | refine WIx.intsN (by omega) ?_ | refine WIx.rowsN (by omega) ?_ | refine WCall.pure (cR) ?_ | with_reducible refine WB.decT (by first | with_reducible rfl | assumption | omega | exact ⟨rfl, rfl⟩) ?_ | with_reducible refine WB.decF (by first | assumption | omega) ?_ | with_reducible refine WB.ndT (by first | with_reducible rfl | assumption | omega | exact ⟨rfl, rfl⟩) ?_ | with_reducible refine WB.ndF (by first | assumption | omega) ?_ | with_reducible refine WB.nt ?_ | with_reducible refine WB.nf ?_ | with_reducible refine WB.dec (fun h => ?_) (fun h => ?_) | with_reducible refine WB.ndec (fun h => ?_) (fun h => ?_) | refine WB.mk (fun h => ?_) (fun h => ?_)) <;> conv => whnf)
  have e3 := rows_length lnD (readL n (ls.getD line default))
  generalize readL n (ls.getD line default) = R at *
  refine Rn.loop (fun i : Nat => wrS n coin box ls cs L line R ((R.take i).filter (metB L line)) i) (fun i => i ≤ R.length) (fun i => R.length - i) 0 ?_ ?_ ?_
  · refine X.le.mk ?_ (T.le_some (T.le_e _) rfl (T.le_ee (T.le_e _) (T.le_e _))) (Nat.le_refl _) rfl rfl
    show T.le ((.n (.n (.n (.n .e (some (.ns)) .e) (some (.pt .h 0 0)) .e) (some (.lst 1 (rows tlD L))) (.n (.n .e (some (.i .i64 0)) .e) none .e)) none (.n (.n (.n .e (some (.lst 3 (rows lnD R))) .e) none .e) (some (.i .i64 (line : Int))) .e)) : T D) _
    (repeat' first | exact T.le_e _ | refine T.le_some ?_ rfl ?_ | refine T.le_none ?_ ?_ | refine T.le_ee ?_ ?_)
  · exact Nat.zero_le _
  intro i hi
  have hi : i ≤ R.length := hi
  have hAl : ((R.take i).filter (metB L line)).length ≤ 1000 := by
    have h1 := List.length_filter_le (metB L line) (R.take i)
    rw [List.length_take] at h1
    omega
  have hend : i = R.length → (R.take i).filter (metB L line) = R.filter (metB L line) := fun e => by rw [e, List.take_length]
  have hnext := fun h => filter_take_succ (p := metB L line) (l := R) (j := i) (d := default) h
  generalize hA : (R.take i).filter (metB L line) = A at *
  conv => whnf
  repeat' first | ((first | with_reducible apply WB.tt | with_reducible apply WB.ff | refine Rn.seq ?_ | refine Rn.reg ?_ | refine Rn.drw ?_ | refine Rn.blk ?_ | refine Rn.skip ?_ | refine Rn.ret ?_ | refine Rn.exit ?_ | refine Rn.cond rfl ?_ | refine And.intro (InR.i64 (by omega) (by omega)) ?_ | refine And.intro (show _ ≠ (0 : Int) by omega) ?_ | refine WIx.intsN (by omega) ?_ | refine WIx.rowsN (by omega) ?_) <;> conv => whnf)
  refine WB.dec (fun h => ?_) (fun h => ?_) <;> conv => whnf
  · have hlt : i < R.length := by omega
    have hnext := hnext hlt
    have hup := nxV_up A
    have haw := hRw _ (getD_mem (d := default) hlt)
    obtain ⟨a, ha⟩ : ∃ a, R.getD i default = a := ⟨_, rfl⟩
    rw [ha] at hnext haw
    repeat' first | ((first | with_reducible apply WB.tt | with_reducible apply WB.ff | refine Rn.seq ?_ | refine Rn.reg ?_ | refine Rn.drw ?_ | refine Rn.blk ?_ | refine Rn.skip ?_ | refine Rn.ret ?_ | refine Rn.exit ?_ | refine Rn.cond rfl ?_ | refine And.intro (InR.i64 (by omega) (by omega)) ?_ | refine And.intro (show _ ≠ (0 : Int) by omega) ?_ | refine WIx.intsN (by omega) ?_ | refine WIx.rowsN (by omega) ?_) <;> conv => whnf)
    refine Rn.loop (fun k : Nat => wrT n coin box ls cs L line R A i ((L.take k).any fun t => decide (t.getD line default = a)) k) (fun k => k ≤ L.length) (fun k => L.length - k) 0 ?_ ?_ ?_
    · refine X.le.mk ?_ (T.le_refl _) (Nat.le_refl _) rfl rfl
      show T.le ((.n (.n (.n (.n .e (some (slV A)) .e) (some (.pt .h 0 0)) (.n .e (some (.i .i64 0)) .e)) (some (.lst 1 (rows tlD L))) (.n (.n .e (some (.i .i64 (i : Int))) .e) none .e)) none (.n (.n (.n .e (some (.lst 3 (rows lnD R))) .e) none .e) (some (.i .i64 (line : Int))) (.n (.n .e (some (.b false)) .e) none .e))) : T D) _
      (repeat' first | exact T.le_e _ | refine T.le_some ?_ rfl ?_ | refine T.le_none ?_ ?_ | refine T.le_ee ?_ ?_)
    · exact Nat.zero_le _
    intro k hk
    have hk : k ≤ L.length := hk
    conv => whnf
    repeat' first | ((first | with_reducible apply WB.tt | with_reducible apply WB.ff | refine Rn.seq ?_ | refine Rn.reg ?_ | refine Rn.drw ?_ | refine Rn.blk ?_ | refine Rn.skip ?_ | refine Rn.ret ?_ | refine Rn.exit ?_ | refine Rn.cond rfl ?_ | refine And.intro (InR.i64 (by omega) (by omega)) ?_ | refine And.intro (show _ ≠ (0 : Int) by omega) ?_ | refine WIx.intsN (by omega) ?_ | refine WIx.rowsN (by omega) ?_) <;> conv => whnf)
    refine WB.dec (fun h => ?_) (fun h => ?_) <;> conv => whnf
    · have hklt : k < L.length := by omega
      have hst := any_takeJ (p := fun t : List Ln => decide (t.getD line default = a)) (d := default) hklt
      obtain ⟨ht1, ht2⟩ := ht _ (getD_mem (d := default) hklt)
      have hend2 : ∀ (sl : T D), Shr ⟨sl, .n .e (some (bkC n coin box ls cs)) (.n .e (blV A) .e), nxV A, none⟩ (wrT n coin box ls cs L line R A i ((L.take (k + 1)).any fun t => decide (t.getD line default = a)) (k + 1)) ↔ Shr ⟨sl, .n .e (some (bkC n coin box ls cs)) (.n .e (blV A) .e), nxV A, none⟩ (wrT n coin box ls cs L line R A i ((L.take k).any (fun t => decide (t.getD line default = a)) || decide ((L.getD k default).getD line default = a)) (k + 1)) := fun sl => by rw [hst]
      cases hf : (L.take k).any (fun t => decide (t.getD line default = a)) with
      | true =>
        repeat' first | ((first | with_reducible apply WB.tt | with_reducible apply WB.ff | refine Rn.seq ?_ | refine Rn.reg ?_ | refine Rn.drw ?_ | refine Rn.blk ?_ | refine Rn.skip ?_ | refine Rn.ret ?_ | refine Rn.exit ?_ | refine Rn.cond rfl ?_ | refine And.intro (InR.i64 (by omega) (by omega)) ?_ | refine And.intro (show _ ≠ (0 : Int) by omega) ?_ | refine WIx.intsN (by omega) ?_ | refine WIx.rowsN (by omega) ?_ | with_reducible refine WB.decT (by first | with_reducible rfl | assumption | omega | exact ⟨rfl, rfl⟩) ?_ | with_reducible refine WB.decF (by first | assumption | omega) ?_ | with_reducible refine WB.ndT (by first | with_reducible rfl | assumption | omega | exact ⟨rfl, rfl⟩) ?_ | with_reducible refine WB.ndF (by first | assumption | omega) ?_ | with_reducible refine WB.nt ?_ | with_reducible refine WB.nf ?_ | with_reducible refine WB.dec (fun h => ?_) (fun h => ?_) | with_reducible refine WB.ndec (fun h => ?_) (fun h => ?_) | refine WB.mk (fun h => ?_) (fun h => ?_)) <;> conv => whnf)
        refine Again.to (k + 1) (by omega) (by omega) (Nat.le_refl _) ?_
        refine (hend2 _).2 ?_
        rw [hf, Bool.true_or]
        refine Shr.kp2 ?_ (wrT_kp n coin box ls cs L line R _ _ _ _) (T.le_refl _) (wrO_kp n coin box ls cs L line R A i)
        show T.le ((.n (.n (.n (.n .e (some (slV A)) .e) (some (.pt .h 0 0)) (.n .e (some (.i .i64 ((k + 1 : Nat) : Int))) .e)) (some (.lst 1 (rows tlD L))) (.n (.n .e (some (.i .i64 (i : Int))) .e) none .e)) none (.n (.n (.n .e (some (.lst 3 (rows lnD R))) .e) none .e) (some (.i .i64 (line : Int))) (.n (.n .e (some (.b true)) .e) none .e))) : T D) _
        (repeat' first | exact T.le_e _ | refine T.le_some ?_ rfl ?_ | refine T.le_none ?_ ?_ | refine T.le_ee ?_ ?_)
      | false =>
        repeat' first | ((first | with_reducible apply WB.tt | with_reducible apply WB.ff | refine Rn.seq ?_ | refine Rn.reg ?_ | refine Rn.drw ?_ | refine Rn.blk ?_ | refine Rn.skip ?_ | refine Rn.ret ?_ | refine Rn.exit ?_ | refine Rn.cond rfl ?_ | refine And.intro (InR.i64 (by omega) (by omega)) ?_ | refine And.intro (show _ ≠ (0 : Int) by omega) ?_ | refine WIx.intsN (by omega) ?_ | refine WIx.rowsN (by omega) ?_ | with_reducible refine WB.decT (by first | with_reducible rfl | assumption | omega | exact ⟨rfl, rfl⟩) ?_ | with_reducible refine WB.decF (by first | assumption | omega) ?_ | with_reducible refine WB.ndT (by first | with_reducible rfl | assumption | omega | exact ⟨rfl, rfl⟩) ?_ | with_reducible refine WB.ndF (by first | assumption | omega) ?_ | with_reducible refine WB.nt ?_ | with_reducible refine WB.nf ?_ | with_reducible refine WB.dec (fun h => ?_) (fun h => ?_) | with_reducible refine WB.ndec (fun h => ?_) (fun h => ?_) | refine WB.mk (fun h => ?_) (fun h => ?_)) <;> conv => whnf)
        rw [ha]
        refine WSt.eqLn ((L.getD k default).getD line default) a (by rfl) (by rfl) ht2 haw rfl ?_; conv => whnf
        repeat' first | ((first | with_reducible apply WB.tt | with_reducible apply WB.ff | refine Rn.seq ?_ | refine Rn.reg ?_ | refine Rn.drw ?_ | refine Rn.blk ?_ | refine Rn.skip ?_ | refine Rn.ret ?_ | refine Rn.exit ?_ | refine Rn.cond rfl ?_ | refine And.intro (InR.i64 (by omega) (by omega)) ?_ | refine And.intro (show _ ≠ (0 : Int) by omega) ?_ | refine WIx.intsN (by omega) ?_ | refine WIx.rowsN (by omega) ?_ | with_reducible refine WB.decT (by first | with_reducible rfl | assumption | omega | exact ⟨rfl, rfl⟩) ?_ | with_reducible refine WB.decF (by first | assumption | omega) ?_ | with_reducible refine WB.ndT (by first | with_reducible rfl | assumption | omega | exact ⟨rfl, rfl⟩) ?_ | with_reducible refine WB.ndF (by first | assumption | omega) ?_ | with_reducible refine WB.nt ?_ | with_reducible refine WB.nf ?_ | with_reducible refine WB.dec (fun h => ?_) (fun h => ?_) | with_reducible refine WB.ndec (fun h => ?_) (fun h => ?_) | refine WB.mk (fun h => ?_) (fun h => ?_)) <;> conv => whnf)
        refine Again.to (k + 1) (by omega) (by omega) (Nat.le_refl _) ?_
        refine (hend2 _).2 ?_
        rw [hf, Bool.false_or]
        refine Shr.kp2 ?_ (wrT_kp n coin box ls cs L line R _ _ _ _) (T.le_refl _) (wrO_kp n coin box ls cs L line R A i)
        show T.le ((.n (.n (.n (.n .e (some (slV A)) .e) (some (.pt .h 0 0)) (.n .e (some (.i .i64 ((k + 1 : Nat) : Int))) .e)) (some (.lst 1 (rows tlD L))) (.n (.n .e (some (.i .i64 (i : Int))) .e) none .e)) none (.n (.n (.n .e (some (.lst 3 (rows lnD R))) .e) none .e) (some (.i .i64 (line : Int))) (.n (.n .e (some (.b (decide ((L.getD k default).getD line default = a)))) .e) none .e))) : T D) _
        (repeat' first | exact T.le_e _ | refine T.le_some ?_ rfl ?_ | refine T.le_none ?_ ?_ | refine T.le_ee ?_ ?_)
    · have hke : k = L.length := by omega
      have hme : (L.take k).any (fun t => decide (t.getD line default = a)) = metB L line a := by rw [hke, List.take_length]; rfl
      rw [hme]
      cases hmb : metB L line a with
      | true =>
        rw [hmb, cond_true] at hnext
        cases A with
        | nil =>
          repeat' first | ((first | with_reducible apply WB.tt | with_reducible apply WB.ff | refine Rn.seq ?_ | refine Rn.reg ?_ | refine Rn.drw ?_ | refine Rn.blk ?_ | refine Rn.skip ?_ | refine Rn.ret ?_ | refine Rn.exit ?_ | refine Rn.cond rfl ?_ | refine And.intro (InR.i64 (by omega) (by omega)) ?_ | refine And.intro (show _ ≠ (0 : Int) by omega) ?_ | refine WIx.intsN (by omega) ?_ | refine WIx.rowsN (by omega) ?_) <;> conv => whnf)
          rw [ha]
          refine WSt.app_first (r := lnD a) rfl (.inl rfl) rfl rfl rfl rfl ?_; conv => whnf
          repeat' first | ((first | with_reducible apply WB.tt | with_reducible apply WB.ff | refine Rn.seq ?_ | refine Rn.reg ?_ | refine Rn.drw ?_ | refine Rn.blk ?_ | refine Rn.skip ?_ | refine Rn.ret ?_ | refine Rn.exit ?_ | refine Rn.cond rfl ?_ | refine And.intro (InR.i64 (by omega) (by omega)) ?_ | refine And.intro (show _ ≠ (0 : Int) by omega) ?_ | refine WIx.intsN (by omega) ?_ | refine WIx.rowsN (by omega) ?_) <;> conv => whnf)
          refine Again.to (i + 1) (by omega) (by omega) ?_ ?_
          · show (nxV ((R.take i).filter (metB L line))).nat ≤ (nxV ((R.take (i + 1)).filter (metB L line))).nat
            rw [hA, hnext]; exact hup _
          · show Shr _ (wrS n coin box ls cs L line R ((R.take (i + 1)).filter (metB L line)) (i + 1))
            rw [hnext]
            refine Shr.kp2 ?_ (wrS_kp n coin box ls cs L line R _ _) ?_ (wrO_kp n coin box ls cs L line R [a] (i + 1))
            · show T.le ((.n (.n (.n (.n .e (some (.sl (.i .h) 0 1 0 3)) .e) (some (.pt .h 0 0)) .e) (some (.lst 1 (rows tlD L))) (.n (.n .e (some (.i .i64 ((i + 1 : Nat) : Int))) .e) none .e)) none (.n (.n (.n .e (some (.lst 3 (rows lnD R))) .e) none .e) (some (.i .i64 (line : Int))) .e)) : T D) _
              (repeat' first | exact T.le_e _ | refine T.le_some ?_ rfl ?_ | refine T.le_none ?_ ?_ | refine T.le_ee ?_ ?_)
            · show T.le (T.n .e (some (bkC n coin box ls cs)) (.n .e (some (.cells false ((lnD a).map fun d => Cell.o d 0) 1)) .e)) _
              (repeat' first | exact T.le_e _ | refine T.le_some ?_ rfl ?_ | refine T.le_none ?_ ?_ | refine T.le_ee ?_ ?_)
        | cons b s =>
          have hs9 : s.length + 1 ≤ 1000 := hAl
          repeat' first | ((first | with_reducible apply WB.tt | with_reducible apply WB.ff | refine Rn.seq ?_ | refine Rn.reg ?_ | refine Rn.drw ?_ | refine Rn.blk ?_ | refine Rn.skip ?_ | refine Rn.ret ?_ | refine Rn.exit ?_ | refine Rn.cond rfl ?_ | refine And.intro (InR.i64 (by omega) (by omega)) ?_ | refine And.intro (show _ ≠ (0 : Int) by omega) ?_ | refine WIx.intsN (by omega) ?_ | refine WIx.rowsN (by omega) ?_) <;> conv => whnf)
          rw [ha]
          refine WSt.app_one (ds := lnF (b :: s)) (r := lnD a) rfl rfl rfl rfl rfl rfl (by rw [lnF_len]; rfl) rfl rfl (by omega) rfl ?_; conv => whnf
          repeat' first | ((first | with_reducible apply WB.tt | with_reducible apply WB.ff | refine Rn.seq ?_ | refine Rn.reg ?_ | refine Rn.drw ?_ | refine Rn.blk ?_ | refine Rn.skip ?_ | refine Rn.ret ?_ | refine Rn.exit ?_ | refine Rn.cond rfl ?_ | refine And.intro (InR.i64 (by omega) (by omega)) ?_ | refine And.intro (show _ ≠ (0 : Int) by omega) ?_ | refine WIx.intsN (by omega) ?_ | refine WIx.rowsN (by omega) ?_) <;> conv => whnf)
          refine Again.to (i + 1) (by omega) (by omega) ?_ ?_
          · show (nxV ((R.take i).filter (metB L line))).nat ≤ (nxV ((R.take (i + 1)).filter (metB L line))).nat
            rw [hA, hnext]; exact hup _
          · show Shr _ (wrS n coin box ls cs L line R ((R.take (i + 1)).filter (metB L line)) (i + 1))
            rw [hnext, List.cons_append]
            refine Shr.of ?_ ?_ rfl rfl
            · show Rel _ _ ((.n (.n (.n (.n .e (some (slV (b :: (s ++ [a])))) .e) (some (.pt .h 0 0)) .e) (some (.lst 1 (rows tlD L))) (.n (.n .e (some (.i .i64 ((i + 1 : Nat) : Int))) .e) none .e)) none (.n (.n (.n .e (some (.lst 3 (rows lnD R))) .e) none .e) (some (.i .i64 (line : Int))) .e)) : T D) _
              rw [slV_snoc]
              (repeat' first | exact Rel.e | refine Rel.some ?_ ?_ ?_ | refine Rel.none ?_ ?_ | refine Rel.ee ?_ ?_)
              all_goals show Fz _ _ _ _
              all_goals first | exact .pu trivial | exact .ksl (show _ < 4 by simp [Pos.nat]) | exact .kpt (show _ < 4 by simp [Pos.nat]) | exact .pu (pu_tl _) | exact .pu (pu_ln _)
            · show Rel _ _ (T.n .e (some (bkC n coin box ls cs)) (.n .e (blV (b :: (s ++ [a]))) .e)) _
              rw [blV_snoc]
              (repeat' first | exact Rel.e | refine Rel.some ?_ ?_ ?_ | refine Rel.none ?_ ?_ | refine Rel.ee ?_ ?_)
              · exact RO'.of (show _ < 4 by simp [Pos.nat]) (ShC.kp (bkC_kp _ _ _ _ _ _))
              · refine RO'.of (show _ < 4 by simp [Pos.nat]) ?_
                exact ShC.grown (by omega) (PuL_iff.2 fun d hd => (List.mem_append.1 hd).elim (fun hd => PuL_iff.1 (lnF_pu _) d hd) (fun hd => PuL_iff.1 (pl_ln _) d hd))
      | false =>
        rw [hmb, cond_false, List.append_nil] at hnext
        repeat' first | ((first | with_reducible apply WB.tt | with_reducible apply WB.ff | refine Rn.seq ?_ | refine Rn.reg ?_ | refine Rn.drw ?_ | refine Rn.blk ?_ | refine Rn.skip ?_ | refine Rn.ret ?_ | refine Rn.exit ?_ | refine Rn.cond rfl ?_ | refine And.intro (InR.i64 (by omega) (by omega)) ?_ | refine And.intro (show _ ≠ (0 : Int) by omega) ?_ | refine WIx.intsN (by omega) ?_ | refine WIx.rowsN (by omega) ?_) <;> conv => whnf)
        refine Again.to (i + 1) (by omega) (by omega) ?_ ?_
        · show (nxV ((R.take i).filter (metB L line))).nat ≤ (nxV ((R.take (i + 1)).filter (metB L line))).nat
          rw [hA, hnext]; exact Nat.le_refl _
        · show Shr _ (wrS n coin box ls cs L line R ((R.take (i + 1)).filter (metB L line)) (i + 1))
          rw [hnext]
          refine Shr.kp2 ?_ (wrS_kp n coin box ls cs L line R _ _) (T.le_refl _) (wrO_kp n coin box ls cs L line R A (i + 1))
          show T.le ((.n (.n (.n (.n .e (some (slV A)) .e) (some (.pt .h 0 0)) .e) (some (.lst 1 (rows tlD L))) (.n (.n .e (some (.i .i64 ((i + 1 : Nat) : Int))) .e) none .e)) none (.n (.n (.n .e (some (.lst 3 (rows lnD R))) .e) none .e) (some (.i .i64 (line : Int))) .e)) : T D) _
          (repeat' first | exact T.le_e _ | refine T.le_some ?_ rfl ?_ | refine T.le_none ?_ ?_ | refine T.le_ee ?_ ?_)
  · repeat' first | ((first | with_reducible apply WB.tt | with_reducible apply WB.ff | refine Rn.seq ?_ | refine Rn.reg ?_ | refine Rn.drw ?_ | refine Rn.blk ?_ | refine Rn.skip ?_ | refine Rn.ret ?_ | refine Rn.exit ?_ | refine Rn.cond rfl ?_ | refine And.intro (InR.i64 (by omega) (by omega)) ?_ | refine And.intro (show _ ≠ (0 : Int) by omega) ?_ | refine WIx.intsN (by omega) ?_ | refine WIx.rowsN (by omega) ?_) <;> conv => whnf)
    have he := hend (by omega)
    rw [← he]
    refine Fin.t (.inr rfl) rfl ?_
    cases A with
    | nil => exact .ns
    | cons b s =>
      exact Frz.whole (cs := (lnF (b :: s)).map fun d => Cell.o d s.length) (cur := s.length + 1) rfl (by simp [rows]) (ln_three _) (by rfl) (pu_ln _)
end Go.Ev

namespace Go.Ev
open Go.Proofs
set_option maxRecDepth 1000000
end Go.Ev

namespace Go.Ev
open Go.Proofs
theorem fit_lines : ∀ {es : List (List D)}, (∀ x ∈ es, FitL [.i .i64, .i .i64, .i .i64] x) → ∃ l : List Ln, es = rows lnD l ∧ ∀ r ∈ l, lnWf r
  | [], _ => ⟨[], rfl, fun r h => by cases h⟩
  | x :: es, h => by
    obtain ⟨l, rfl, hl⟩ := fit_lines (es := es) fun y hy => h y (by simp [hy])
    have h1 := h x (by simp)
    simp only [FitL, FitC] at h1
    obtain ⟨d, ds, rfl, ⟨n1, rfl, w1⟩, d2, ds2, rfl, ⟨n2, rfl, w2⟩, d3, ds3, rfl, ⟨n3, rfl, w3⟩, rfl⟩ := h1
    refine ⟨⟨n1, n2, n3⟩ :: l, rfl, fun r hr => ?_⟩
    rcases List.mem_cons.1 hr with rfl | hr
    · exact ⟨wfB_of w1, wfB_of w2, wfB_of w3⟩
    · exact hl r hr
theorem fit_counts : ∀ {es : List (List D)}, (∀ x ∈ es, FitL [.i .i64, .i .i64, .i .i64] x) → ∃ l : List Ct, es = rows ctD l
  | [], _ => ⟨[], rfl⟩
  | x :: es, h => by
    obtain ⟨l, rfl⟩ := fit_counts (es := es) fun y hy => h y (by simp [hy])
    have h1 := h x (by simp)
    simp only [FitL, FitC] at h1
    obtain ⟨d, ds, rfl, ⟨n1, rfl, w1⟩, d2, ds2, rfl, ⟨n2, rfl, w2⟩, d3, ds3, rfl, ⟨n3, rfl, w3⟩, rfl⟩ := h1
    exact ⟨⟨n1, n2, n3⟩ :: l, rfl⟩
theorem FitP.book {ps : List (Bool × List CK)} {ds : List D} (h : FitP ((true, [.i .i64, .i .i64, .i .i64, .sl [.i .i64, .i .i64, .i .i64], .sl [.i .i64, .i .i64, .i .i64]]) :: ps) ds) : ∃ n coin box ls cs ds', ds = .ag [.i .i64 n, .i .i64 coin, .i .i64 box, .lst 3 (rows lnD ls), .lst 3 (rows ctD cs)] :: ds' ∧ FitP ps ds' := by
  unfold FitP at h
  obtain ⟨es, ds', rfl, h1, h2⟩ := h
  simp only [FitL, FitC] at h1
  obtain ⟨d, ds, rfl, ⟨n1, rfl, _⟩, d2, ds2, rfl, ⟨n2, rfl, _⟩, d3, ds3, rfl, ⟨n3, rfl, _⟩, d4, ds4, rfl, ⟨e4, rfl, k4⟩, d5, ds5, rfl, ⟨e5, rfl, k5⟩, rfl⟩ := h1
  obtain ⟨ls, rfl, _⟩ := fit_lines fun x hx => by have := k4 x hx; simpa only [FitL, FitC] using this
  obtain ⟨cs, rfl⟩ := fit_counts fun x hx => by have := k5 x hx; simpa only [FitL, FitC] using this
  exact ⟨n1, n2, n3, ls, cs, ds', rfl, h2⟩
end Go.Ev

namespace Go.Ev
open Go.Proofs
noncomputable def fp : T RF := (.n (.n (.n (.n (.n (.n (.n (.n .e (compF Try.prog 127) .e) (compF Try.prog 63) .e) (compF Try.prog 31) (.n (.n .e (compF Try.prog 159) .e) (compF Try.prog 95) .e)) (compF Try.prog 15) (.n (.n (.n .e (compF Try.prog 143) .e) (compF Try.prog 79) .e) (compF Try.prog 47) (.n .e (compF Try.prog 111) .e))) (compF Try.prog 7) (.n (.n (.n (.n .e (compF Try.prog 135) .e) (compF Try.prog 71) .e) (compF Try.prog 39) (.n .e (compF Try.prog 103) .e)) (compF Try.prog 23) (.n (.n (.n .e (compF Try.prog 151) .e) (compF Try.prog 87) .e) (compF Try.prog 55) (.n .e (compF Try.prog 119) .e)))) (compF Try.prog 3) (.n (.n (.n (.n (.n .e (compF Try.prog 131) .e) (compF Try.prog 67) .e) (compF Try.prog 35) (.n (.n .e (compF Try.prog 163) .e) (compF Try.prog 99) .e)) (compF Try.prog 19) (.n (.n (.n .e (compF Try.prog 147) .e) (compF Try.prog 83) .e) (compF Try.prog 51) (.n .e (compF Try.prog 115) .e))) (compF Try.prog 11) (.n (.n (.n (.n .e (compF Try.prog 139) .e) (compF Try.prog 75) .e) (compF Try.prog 43) (.n .e (compF Try.prog 107) .e)) (compF Try.prog 27) (.n (.n (.n .e (compF Try.prog 155) .e) (compF Try.prog 91) .e) (compF Try.prog 59) (.n .e (compF Try.prog 123) .e))))) none (.n (.n (.n (.n (.n (.n .e (compF Try.prog 129) .e) (compF Try.prog 65) .e) (compF Try.prog 33) (.n (.n .e (compF Try.prog 161) .e) (compF Try.prog 97) .e)) (compF Try.prog 17) (.n (.n (.n .e (compF Try.prog 145) .e) (compF Try.prog 81) .e) (compF Try.prog 49) (.n .e (compF Try.prog 113) .e))) (compF Try.prog 9) (.n (.n (.n (.n .e (compF Try.prog 137) .e) (compF Try.prog 73) .e) (compF Try.prog 41) (.n .e (compF Try.prog 105) .e)) (compF Try.prog 25) (.n (.n (.n .e (compF Try.prog 153) .e) (compF Try.prog 89) .e) (compF Try.prog 57) (.n .e (compF Try.prog 121) .e)))) (compF Try.prog 5) (.n (.n (.n (.n (.n .e (compF Try.prog 133) .e) (compF Try.prog 69) .e) (compF Try.prog 37) (.n (.n .e (compF Try.prog 165) .e) (compF Try.prog 101) .e)) (compF Try.prog 21) (.n (.n (.n .e (compF Try.prog 149) .e) (compF Try.prog 85) .e) (compF Try.prog 53) (.n .e (compF Try.prog 117) .e))) (compF Try.prog 13) (.n (.n (.n (.n .e (compF Try.prog 141) .e) (compF Try.prog 77) .e) (compF Try.prog 45) (.n .e (compF Try.prog 109) .e)) (compF Try.prog 29) (.n (.n (.n .e (compF Try.prog 157) .e) (compF Try.prog 93) .e) (compF Try.prog 61) (.n .e (compF Try.prog 125) .e)))))) none (.n (.n (.n (.n (.n (.n (.n .e (compF Try.prog 128) .e) (compF Try.prog 64) .e) (compF Try.prog 32) (.n (.n .e (compF Try.prog 160) .e) (compF Try.prog 96) .e)) (compF Try.prog 16) (.n (.n (.n .e (compF Try.prog 144) .e) (compF Try.prog 80) .e) (compF Try.prog 48) (.n .e (compF Try.prog 112) .e))) (compF Try.prog 8) (.n (.n (.n (.n .e (compF Try.prog 136) .e) (compF Try.prog 72) .e) (compF Try.prog 40) (.n .e (compF Try.prog 104) .e)) (compF Try.prog 24) (.n (.n (.n .e (compF Try.prog 152) .e) (compF Try.prog 88) .e) (compF Try.prog 56) (.n .e (compF Try.prog 120) .e)))) (compF Try.prog 4) (.n (.n (.n (.n (.n .e (compF Try.prog 132) .e) (compF Try.prog 68) .e) (compF Try.prog 36) (.n (.n .e (compF Try.prog 164) .e) (compF Try.prog 100) .e)) (compF Try.prog 20) (.n (.n (.n .e (compF Try.prog 148) .e) (compF Try.prog 84) .e) (compF Try.prog 52) (.n .e (compF Try.prog 116) .e))) (compF Try.prog 12) (.n (.n (.n (.n .e (compF Try.prog 140) .e) (compF Try.prog 76) .e) (compF Try.prog 44) (.n .e (compF Try.prog 108) .e)) (compF Try.prog 28) (.n (.n (.n .e (compF Try.prog 156) .e) (compF Try.prog 92) .e) (compF Try.prog 60) (.n .e (compF Try.prog 124) .e))))) none (.n (.n (.n (.n (.n (.n .e (compF Try.prog 130) .e) (compF Try.prog 66) .e) (compF Try.prog 34) (.n (.n .e (compF Try.prog 162) .e) (compF Try.prog 98) .e)) (compF Try.prog 18) (.n (.n (.n .e (compF Try.prog 146) .e) (compF Try.prog 82) .e) (compF Try.prog 50) (.n .e (compF Try.prog 114) .e))) (compF Try.prog 10) (.n (.n (.n (.n .e (compF Try.prog 138) .e) (compF Try.prog 74) .e) (compF Try.prog 42) (.n .e (compF Try.prog 106) .e)) (compF Try.prog 26) (.n (.n (.n .e (compF Try.prog 154) .e) (compF Try.prog 90) .e) (compF Try.prog 58) (.n .e (compF Try.prog 122) .e)))) (compF Try.prog 6) (.n (.n (.n (.n (.n .e (compF Try.prog 134) .e) (compF Try.prog 70) .e) (compF Try.prog 38) (.n .e (compF Try.prog 102) .e)) (compF Try.prog 22) (.n (.n (.n .e (compF Try.prog 150) .e) (compF Try.prog 86) .e) (compF Try.prog 54) (.n .e (compF Try.prog 118) .e))) (compF Try.prog 14) (.n (.n (.n (.n .e (compF Try.prog 142) .e) (compF Try.prog 78) .e) (compF Try.prog 46) (.n .e (compF Try.prog 110) .e)) (compF Try.prog 30) (.n (.n (.n .e (compF Try.prog 158) .e) (compF Try.prog 94) .e) (compF Try.prog 62) (.n .e (compF Try.prog 126) .e)))))))
set_option maxRecDepth 100000 in
theorem fp_ok : FPok Try.prog fp := FPok.of (TabOk.n TabOk.no (TabOk.n TabOk.no (TabOk.n TabOk.at (TabOk.n TabOk.at (TabOk.n TabOk.at (TabOk.n TabOk.at (TabOk.n TabOk.at (TabOk.n TabOk.at TabOk.e TabOk.e) TabOk.e) (TabOk.n TabOk.at (TabOk.n TabOk.at TabOk.e TabOk.e) TabOk.e)) (TabOk.n TabOk.at (TabOk.n TabOk.at (TabOk.n TabOk.at TabOk.e TabOk.e) TabOk.e) (TabOk.n TabOk.at TabOk.e TabOk.e))) (TabOk.n TabOk.at (TabOk.n TabOk.at (TabOk.n TabOk.at (TabOk.n TabOk.at TabOk.e TabOk.e) TabOk.e) (TabOk.n TabOk.at TabOk.e TabOk.e)) (TabOk.n TabOk.at (TabOk.n TabOk.at (TabOk.n TabOk.at TabOk.e TabOk.e) TabOk.e) (TabOk.n TabOk.at TabOk.e TabOk.e)))) (TabOk.n TabOk.at (TabOk.n TabOk.at (TabOk.n TabOk.at (TabOk.n TabOk.at (TabOk.n TabOk.at TabOk.e TabOk.e) TabOk.e) (TabOk.n TabOk.at (TabOk.n TabOk.at TabOk.e TabOk.e) TabOk.e)) (TabOk.n TabOk.at (TabOk.n TabOk.at (TabOk.n TabOk.at TabOk.e TabOk.e) TabOk.e) (TabOk.n TabOk.at TabOk.e TabOk.e))) (TabOk.n TabOk.at (TabOk.n TabOk.at (TabOk.n TabOk.at (TabOk.n TabOk.at TabOk.e TabOk.e) TabOk.e) (TabOk.n TabOk.at TabOk.e TabOk.e)) (TabOk.n TabOk.at (TabOk.n TabOk.at (TabOk.n TabOk.at TabOk.e TabOk.e) TabOk.e) (TabOk.n TabOk.at TabOk.e TabOk.e))))) (TabOk.n TabOk.at (TabOk.n TabOk.at (TabOk.n TabOk.at (TabOk.n TabOk.at (TabOk.n TabOk.at (TabOk.n TabOk.at TabOk.e TabOk.e) TabOk.e) (TabOk.n TabOk.at (TabOk.n TabOk.at TabOk.e TabOk.e) TabOk.e)) (TabOk.n TabOk.at (TabOk.n TabOk.at (TabOk.n TabOk.at TabOk.e TabOk.e) TabOk.e) (TabOk.n TabOk.at TabOk.e TabOk.e))) (TabOk.n TabOk.at (TabOk.n TabOk.at (TabOk.n TabOk.at (TabOk.n TabOk.at TabOk.e TabOk.e) TabOk.e) (TabOk.n TabOk.at TabOk.e TabOk.e)) (TabOk.n TabOk.at (TabOk.n TabOk.at (TabOk.n TabOk.at TabOk.e TabOk.e) TabOk.e) (TabOk.n TabOk.at TabOk.e TabOk.e)))) (TabOk.n TabOk.at (TabOk.n TabOk.at (TabOk.n TabOk.at (TabOk.n TabOk.at (TabOk.n TabOk.at TabOk.e TabOk.e) TabOk.e) (TabOk.n TabOk.at (TabOk.n TabOk.at TabOk.e TabOk.e) TabOk.e)) (TabOk.n TabOk.at (TabOk.n TabOk.at (TabOk.n TabOk.at TabOk.e TabOk.e) TabOk.e) (TabOk.n TabOk.at TabOk.e TabOk.e))) (TabOk.n TabOk.at (TabOk.n TabOk.at (TabOk.n TabOk.at (TabOk.n TabOk.at TabOk.e TabOk.e) TabOk.e) (TabOk.n TabOk.at TabOk.e TabOk.e)) (TabOk.n TabOk.at (TabOk.n TabOk.at (TabOk.n TabOk.at TabOk.e TabOk.e) TabOk.e) (TabOk.n TabOk.at TabOk.e TabOk.e)))))) (TabOk.n TabOk.no (TabOk.n TabOk.at (TabOk.n TabOk.at (TabOk.n TabOk.at (TabOk.n TabOk.at (TabOk.n TabOk.at (TabOk.n TabOk.at TabOk.e TabOk.e) TabOk.e) (TabOk.n TabOk.at (TabOk.n TabOk.at TabOk.e TabOk.e) TabOk.e)) (TabOk.n TabOk.at (TabOk.n TabOk.at (TabOk.n TabOk.at TabOk.e TabOk.e) TabOk.e) (TabOk.n TabOk.at TabOk.e TabOk.e))) (TabOk.n TabOk.at (TabOk.n TabOk.at (TabOk.n TabOk.at (TabOk.n TabOk.at TabOk.e TabOk.e) TabOk.e) (TabOk.n TabOk.at TabOk.e TabOk.e)) (TabOk.n TabOk.at (TabOk.n TabOk.at (TabOk.n TabOk.at TabOk.e TabOk.e) TabOk.e) (TabOk.n TabOk.at TabOk.e TabOk.e)))) (TabOk.n TabOk.at (TabOk.n TabOk.at (TabOk.n TabOk.at (TabOk.n TabOk.at (TabOk.n TabOk.at TabOk.e TabOk.e) TabOk.e) (TabOk.n TabOk.at (TabOk.n TabOk.at TabOk.e TabOk.e) TabOk.e)) (TabOk.n TabOk.at (TabOk.n TabOk.at (TabOk.n TabOk.at TabOk.e TabOk.e) TabOk.e) (TabOk.n TabOk.at TabOk.e TabOk.e))) (TabOk.n TabOk.at (TabOk.n TabOk.at (TabOk.n TabOk.at (TabOk.n TabOk.at TabOk.e TabOk.e) TabOk.e) (TabOk.n TabOk.at TabOk.e TabOk.e)) (TabOk.n TabOk.at (TabOk.n TabOk.at (TabOk.n TabOk.at TabOk.e TabOk.e) TabOk.e) (TabOk.n TabOk.at TabOk.e TabOk.e))))) (TabOk.n TabOk.at (TabOk.n TabOk.at (TabOk.n TabOk.at (TabOk.n TabOk.at (TabOk.n TabOk.at (TabOk.n TabOk.at TabOk.e TabOk.e) TabOk.e) (TabOk.n TabOk.at (TabOk.n TabOk.at TabOk.e TabOk.e) TabOk.e)) (TabOk.n TabOk.at (TabOk.n TabOk.at (TabOk.n TabOk.at TabOk.e TabOk.e) TabOk.e) (TabOk.n TabOk.at TabOk.e TabOk.e))) (TabOk.n TabOk.at (TabOk.n TabOk.at (TabOk.n TabOk.at (TabOk.n TabOk.at TabOk.e TabOk.e) TabOk.e) (TabOk.n TabOk.at TabOk.e TabOk.e)) (TabOk.n TabOk.at (TabOk.n TabOk.at (TabOk.n TabOk.at TabOk.e TabOk.e) TabOk.e) (TabOk.n TabOk.at TabOk.e TabOk.e)))) (TabOk.n TabOk.at (TabOk.n TabOk.at (TabOk.n TabOk.at (TabOk.n TabOk.at (TabOk.n TabOk.at TabOk.e TabOk.e) TabOk.e) (TabOk.n TabOk.at TabOk.e TabOk.e)) (TabOk.n TabOk.at (TabOk.n TabOk.at (TabOk.n TabOk.at TabOk.e TabOk.e) TabOk.e) (TabOk.n TabOk.at TabOk.e TabOk.e))) (TabOk.n TabOk.at (TabOk.n TabOk.at (TabOk.n TabOk.at (TabOk.n TabOk.at TabOk.e TabOk.e) TabOk.e) (TabOk.n TabOk.at TabOk.e TabOk.e)) (TabOk.n TabOk.at (TabOk.n TabOk.at (TabOk.n TabOk.at TabOk.e TabOk.e) TabOk.e) (TabOk.n TabOk.at TabOk.e TabOk.e)))))))
def pfAw : Pos := (.o (.i (.i (.o .h))))
def nx14 : Pos := (.o (.o (.o (.o (.o (.o (.o (.o (.o (.o (.o (.o (.o (.o .h))))))))))))))
def nx16 : Pos := (.o (.o (.o (.o (.o (.o (.o (.o (.o (.o (.o (.o (.o (.o (.o (.o .h))))))))))))))))
noncomputable def fp1 : T RF := (.n (.n (.n (.n (.n (.n (.n (.n .e (compF Try.prog 127) .e) (compF Try.prog 63) .e) (compF Try.prog 31) (.n (.n .e (compF Try.prog 159) .e) (compF Try.prog 95) .e)) (compF Try.prog 15) (.n (.n (.n .e (compF Try.prog 143) .e) (compF Try.prog 79) .e) (compF Try.prog 47) (.n .e (compF Try.prog 111) .e))) (compF Try.prog 7) (.n (.n (.n (.n .e (compF Try.prog 135) .e) (compF Try.prog 71) .e) (compF Try.prog 39) (.n .e (compF Try.prog 103) .e)) (compF Try.prog 23) (.n (.n (.n .e (compF Try.prog 151) .e) (compF Try.prog 87) .e) (compF Try.prog 55) (.n .e (compF Try.prog 119) .e)))) (compF Try.prog 3) (.n (.n (.n (.n (.n .e (compF Try.prog 131) .e) (compF Try.prog 67) .e) (compF Try.prog 35) (.n (.n .e (compF Try.prog 163) .e) (compF Try.prog 99) .e)) (compF Try.prog 19) (.n (.n (.n .e (compF Try.prog 147) .e) (compF Try.prog 83) .e) (compF Try.prog 51) (.n .e (compF Try.prog 115) .e))) (compF Try.prog 11) (.n (.n (.n (.n .e (compF Try.prog 139) .e) (compF Try.prog 75) .e) (compF Try.prog 43) (.n .e (compF Try.prog 107) .e)) (compF Try.prog 27) (.n (.n (.n .e (compF Try.prog 155) .e) (compF Try.prog 91) .e) (compF Try.prog 59) (.n .e (compF Try.prog 123) .e))))) none (.n (.n (.n (.n (.n (.n .e (compF Try.prog 129) .e) (compF Try.prog 65) .e) (compF Try.prog 33) (.n (.n .e (compF Try.prog 161) .e) (compF Try.prog 97) .e)) (compF Try.prog 17) (.n (.n (.n .e (compF Try.prog 145) .e) (compF Try.prog 81) .e) (compF Try.prog 49) (.n .e (compF Try.prog 113) .e))) (compF Try.prog 9) (.n (.n (.n (.n .e (compF Try.prog 137) .e) (compF Try.prog 73) .e) (compF Try.prog 41) (.n .e (compF Try.prog 105) .e)) (compF Try.prog 25) (.n (.n (.n .e (compF Try.prog 153) .e) (compF Try.prog 89) .e) (compF Try.prog 57) (.n .e (compF Try.prog 121) .e)))) (compF Try.prog 5) (.n (.n (.n (.n (.n .e (compF Try.prog 133) .e) (compF Try.prog 69) .e) (compF Try.prog 37) (.n (.n .e (compF Try.prog 165) .e) (compF Try.prog 101) .e)) (some knT) (.n (.n (.n .e (compF Try.prog 149) .e) (compF Try.prog 85) .e) (compF Try.prog 53) (.n .e (compF Try.prog 117) .e))) (compF Try.prog 13) (.n (.n (.n (.n .e (compF Try.prog 141) .e) (compF Try.prog 77) .e) (compF Try.prog 45) (.n .e (compF Try.prog 109) .e)) (compF Try.prog 29) (.n (.n (.n .e (compF Try.prog 157) .e) (compF Try.prog 93) .e) (compF Try.prog 61) (.n .e (compF Try.prog 125) .e)))))) none (.n (.n (.n (.n (.n (.n (.n .e (compF Try.prog 128) .e) (compF Try.prog 64) .e) (compF Try.prog 32) (.n (.n .e (compF Try.prog 160) .e) (compF Try.prog 96) .e)) (compF Try.prog 16) (.n (.n (.n .e (compF Try.prog 144) .e) (compF Try.prog 80) .e) (compF Try.prog 48) (.n .e (compF Try.prog 112) .e))) (compF Try.prog 8) (.n (.n (.n (.n .e (compF Try.prog 136) .e) (compF Try.prog 72) .e) (compF Try.prog 40) (.n .e (compF Try.prog 104) .e)) (compF Try.prog 24) (.n (.n (.n .e (compF Try.prog 152) .e) (compF Try.prog 88) .e) (compF Try.prog 56) (.n .e (compF Try.prog 120) .e)))) (compF Try.prog 4) (.n (.n (.n (.n (.n .e (compF Try.prog 132) .e) (compF Try.prog 68) .e) (compF Try.prog 36) (.n (.n .e (compF Try.prog 164) .e) (compF Try.prog 100) .e)) (compF Try.prog 20) (.n (.n (.n .e (compF Try.prog 148) .e) (compF Try.prog 84) .e) (compF Try.prog 52) (.n .e (compF Try.prog 116) .e))) (compF Try.prog 12) (.n (.n (.n (.n .e (compF Try.prog 140) .e) (compF Try.prog 76) .e) (compF Try.prog 44) (.n .e (compF Try.prog 108) .e)) (compF Try.prog 28) (.n (.n (.n .e (compF Try.prog 156) .e) (compF Try.prog 92) .e) (compF Try.prog 60) (.n .e (compF Try.prog 124) .e))))) none (.n (.n (.n (.n (.n (.n .e (compF Try.prog 130) .e) (compF Try.prog 66) .e) (compF Try.prog 34) (.n (.n .e (compF Try.prog 162) .e) (compF Try.prog 98) .e)) (compF Try.prog 18) (.n (.n (.n .e (compF Try.prog 146) .e) (compF Try.prog 82) .e) (compF Try.prog 50) (.n .e (compF Try.prog 114) .e))) (compF Try.prog 10) (.n (.n (.n (.n .e (compF Try.prog 138) .e) (compF Try.prog 74) .e) (compF Try.prog 42) (.n .e (compF Try.prog 106) .e)) (compF Try.prog 26) (.n (.n (.n .e (compF Try.prog 154) .e) (compF Try.prog 90) .e) (compF Try.prog 58) (.n .e (compF Try.prog 122) .e)))) (compF Try.prog 6) (.n (.n (.n (.n (.n .e (compF Try.prog 134) .e) (compF Try.prog 70) .e) (compF Try.prog 38) (.n .e (compF Try.prog 102) .e)) (compF Try.prog 22) (.n (.n (.n .e (compF Try.prog 150) .e) (compF Try.prog 86) .e) (compF Try.prog 54) (.n .e (compF Try.prog 118) .e))) (compF Try.prog 14) (.n (.n (.n (.n .e (compF Try.prog 142) .e) (compF Try.prog 78) .e) (compF Try.prog 46) (.n .e (compF Try.prog 110) .e)) (compF Try.prog 30) (.n (.n (.n .e (compF Try.prog 158) .e) (compF Try.prog 94) .e) (compF Try.prog 62) (.n .e (compF Try.prog 126) .e)))))))
end Go.Ev

namespace Go.Ev
open Go.Proofs
noncomputable def c21 : Code := match Try.f21.body with
  | some c => c
  | none => .skip
end Go.Ev
