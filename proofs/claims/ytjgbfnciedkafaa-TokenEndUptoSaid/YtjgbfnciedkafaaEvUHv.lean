import Derived.Test.YtjgbfnciedkafaaEvUHa
import Derived.Test.YtjgbfnciedkafaaEvUFg
import Derived.Test.YtjgbfnciedkafaaEvUOc
import Derived.Test.YtjgbfnciedkafaaEvUIt
set_option linter.all false
namespace Go.Ev
open Go.Proofs
set_option maxRecDepth 100000
theorem j_hasL (A : List Ln) (x : Ln) (ha : A.length ≤ 1000) (hw : ∀ a ∈ A, lnWf a) (hx : x ∈ A) : PureF Try.prog p60.ix [.lst 3 (rows lnD A), .ag (lnD x)] (.b true) := by
  have e1 := rows_length lnD A
  have hxw := hw x hx
  refine PureF.run fn59 (by simp) (by simp [PuL, Pu, lnD, pu_ln]) ?_; conv => whnf
  repeat' first | ((first | with_reducible apply WB.tt | with_reducible apply WB.ff | refine Rn.seq ?_ | refine Rn.reg ?_ | refine Rn.drw ?_ | refine Rn.blk ?_ | refine Rn.skip ?_ | refine Rn.ret ?_ | refine Rn.exit ?_ | refine Rn.cond rfl ?_ | refine And.intro (InR.i64 (by omega) (by omega)) ?_ | refine And.intro (show _ ≠ (0 : Int) by omega) ?_ | refine WIx.intsN (by omega) ?_ | refine WIx.rowsN (by omega) ?_ | with_reducible refine WB.decT (by first | with_reducible rfl | assumption | omega | exact ⟨rfl, rfl⟩) ?_ | with_reducible refine WB.decF (by first | assumption | omega) ?_ | with_reducible refine WB.ndT (by first | with_reducible rfl | assumption | omega | exact ⟨rfl, rfl⟩) ?_ | with_reducible refine WB.ndF (by first | assumption | omega) ?_ | with_reducible refine WB.nt ?_ | with_reducible refine WB.nf ?_ | with_reducible refine WB.dec (fun h => ?_) (fun h => ?_) | with_reducible refine WB.ndec (fun h => ?_) (fun h => ?_) | refine WB.mk (fun h => ?_) (fun h => ?_)) <;> conv => whnf)
  refine Rn.loop (fun j : Nat => ⟨(.n (.n (.n .e (some (.pt .h 0 0)) .e) none (.n .e (some (.i .i64 (j : Int))) .e)) (some (.lst 3 (rows lnD A))) .e), (.n .e (some (.cells false [.o (.i .i64 x.k) 0, .o (.i .i64 x.c) 0, .o (.i .i64 x.t) 0] 1)) .e), .o .h, none⟩) (fun j => j ≤ A.length ∧ ∀ q, q < j → A.getD q default ≠ x) (fun j => A.length - j) 0 ?_ ?_ ?_
  · refine X.le.mk ?_ ?_ (Nat.le_refl _) rfl rfl
    · (repeat' first | exact T.le_e _ | refine T.le_some ?_ rfl ?_ | refine T.le_none ?_ ?_)
    · (repeat' first | exact T.le_e _ | refine T.le_some ?_ rfl ?_ | refine T.le_none ?_ ?_ | refine T.le_ee ?_ ?_)
  · exact ⟨Nat.zero_le _, fun q h => absurd h (Nat.not_lt_zero _)⟩
  rintro j ⟨hj, hno⟩
  conv => whnf
  repeat' first | ((first | with_reducible apply WB.tt | with_reducible apply WB.ff | refine Rn.seq ?_ | refine Rn.reg ?_ | refine Rn.drw ?_ | refine Rn.blk ?_ | refine Rn.skip ?_ | refine Rn.ret ?_ | refine Rn.exit ?_ | refine Rn.cond rfl ?_ | refine And.intro (InR.i64 (by omega) (by omega)) ?_ | refine And.intro (show _ ≠ (0 : Int) by omega) ?_ | refine WIx.intsN (by omega) ?_ | refine WIx.rowsN (by omega) ?_) <;> conv => whnf)
  refine WB.dec (fun h => ?_) (fun h => ?_) <;> conv => whnf
  · have hlt : j < A.length := by omega
    have hwj := hw _ (getD_mem (d := default) hlt)
    repeat' first | ((first | with_reducible apply WB.tt | with_reducible apply WB.ff | refine Rn.seq ?_ | refine Rn.reg ?_ | refine Rn.drw ?_ | refine Rn.blk ?_ | refine Rn.skip ?_ | refine Rn.ret ?_ | refine Rn.exit ?_ | refine Rn.cond rfl ?_ | refine And.intro (InR.i64 (by omega) (by omega)) ?_ | refine And.intro (show _ ≠ (0 : Int) by omega) ?_ | refine WIx.intsN (by omega) ?_ | refine WIx.rowsN (by omega) ?_ | with_reducible refine WB.decT (by first | with_reducible rfl | assumption | omega | exact ⟨rfl, rfl⟩) ?_ | with_reducible refine WB.decF (by first | assumption | omega) ?_ | with_reducible refine WB.ndT (by first | with_reducible rfl | assumption | omega | exact ⟨rfl, rfl⟩) ?_ | with_reducible refine WB.ndF (by first | assumption | omega) ?_ | with_reducible refine WB.nt ?_ | with_reducible refine WB.nf ?_ | with_reducible refine WB.dec (fun h => ?_) (fun h => ?_) | with_reducible refine WB.ndec (fun h => ?_) (fun h => ?_) | refine WB.mk (fun h => ?_) (fun h => ?_)) <;> conv => whnf)
    by_cases he : A.getD j default = x
    · refine WSt.eqLn (A.getD j default) x (by rfl) (by rfl) hwj hxw (r := true) (show decide (A.getD j default = x) = true from decide_eq_true he) ?_; conv => whnf
      repeat' first | ((first | with_reducible apply WB.tt | with_reducible apply WB.ff | refine Rn.seq ?_ | refine Rn.reg ?_ | refine Rn.drw ?_ | refine Rn.blk ?_ | refine Rn.skip ?_ | refine Rn.ret ?_ | refine Rn.exit ?_ | refine Rn.cond rfl ?_ | refine And.intro (InR.i64 (by omega) (by omega)) ?_ | refine And.intro (show _ ≠ (0 : Int) by omega) ?_ | refine WIx.intsN (by omega) ?_ | refine WIx.rowsN (by omega) ?_ | with_reducible refine WB.decT (by first | with_reducible rfl | assumption | omega | exact ⟨rfl, rfl⟩) ?_ | with_reducible refine WB.decF (by first | assumption | omega) ?_ | with_reducible refine WB.ndT (by first | with_reducible rfl | assumption | omega | exact ⟨rfl, rfl⟩) ?_ | with_reducible refine WB.ndF (by first | assumption | omega) ?_ | with_reducible refine WB.nt ?_ | with_reducible refine WB.nf ?_ | with_reducible refine WB.dec (fun h => ?_) (fun h => ?_) | with_reducible refine WB.ndec (fun h => ?_) (fun h => ?_) | refine WB.mk (fun h => ?_) (fun h => ?_)) <;> conv => whnf)
      exact Fin.b rfl rfl
    · refine WSt.eqLn (A.getD j default) x (by rfl) (by rfl) hwj hxw (r := false) (show decide (A.getD j default = x) = false from decide_eq_false he) ?_; conv => whnf
      repeat' first | ((first | with_reducible apply WB.tt | with_reducible apply WB.ff | refine Rn.seq ?_ | refine Rn.reg ?_ | refine Rn.drw ?_ | refine Rn.blk ?_ | refine Rn.skip ?_ | refine Rn.ret ?_ | refine Rn.exit ?_ | refine Rn.cond rfl ?_ | refine And.intro (InR.i64 (by omega) (by omega)) ?_ | refine And.intro (show _ ≠ (0 : Int) by omega) ?_ | refine WIx.intsN (by omega) ?_ | refine WIx.rowsN (by omega) ?_ | with_reducible refine WB.decT (by first | with_reducible rfl | assumption | omega | exact ⟨rfl, rfl⟩) ?_ | with_reducible refine WB.decF (by first | assumption | omega) ?_ | with_reducible refine WB.ndT (by first | with_reducible rfl | assumption | omega | exact ⟨rfl, rfl⟩) ?_ | with_reducible refine WB.ndF (by first | assumption | omega) ?_ | with_reducible refine WB.nt ?_ | with_reducible refine WB.nf ?_ | with_reducible refine WB.dec (fun h => ?_) (fun h => ?_) | with_reducible refine WB.ndec (fun h => ?_) (fun h => ?_) | refine WB.mk (fun h => ?_) (fun h => ?_)) <;> conv => whnf)
      refine Again.to (j + 1) (by omega) ⟨by omega, fun q hq => ?_⟩ (Nat.le_refl _) ?_
      · by_cases e : q = j
        · subst e; exact he
        · exact hno q (by omega)
      refine Shr.of ?_ ?_ rfl rfl
      · (repeat' first | exact Rel.e | refine Rel.some ?_ ?_ ?_ | refine Rel.none ?_ ?_ | refine Rel.ee ?_ ?_)
        all_goals show Fz _ _ _ _
        all_goals first | exact .kpt (show _ < 2 by simp [Pos.nat]) | exact .pu trivial | exact .pu (pu_ln _)
      · (repeat' first | exact Rel.e | refine Rel.some ?_ ?_ ?_ | refine Rel.none ?_ ?_ | refine Rel.ee ?_ ?_)
        exact RO'.of (show _ < 2 by simp [Pos.nat]) (ShC.same (ShC.cn (.pu trivial) (ShC.cn (.pu trivial) (ShC.cn (.pu trivial) ShC.nl))))
  · exfalso
    obtain ⟨q, hq, e⟩ := mem_getD (d := default) hx
    exact hno q (by omega) e
theorem j_inside (a b c d : Int) (h : c ≤ a ∧ b ≤ d) : PureF Try.prog p98.ix [.ag [.i .i64 a, .i .i64 b], .ag [.i .i64 c, .i .i64 d]] (.b true) := by
  refine PureF.run fn97 (by simp) (by simp [PuL, Pu]) ?_; conv => whnf
  repeat' first | ((first | with_reducible apply WB.tt | with_reducible apply WB.ff | refine Rn.seq ?_ | refine Rn.reg ?_ | refine Rn.drw ?_ | refine Rn.blk ?_ | refine Rn.skip ?_ | refine Rn.ret ?_ | refine Rn.exit ?_ | refine Rn.cond rfl ?_ | refine And.intro (InR.i64 (by omega) (by omega)) ?_ | refine And.intro (show _ ≠ (0 : Int) by omega) ?_ | refine WIx.intsN (by omega) ?_ | refine WIx.rowsN (by omega) ?_ | with_reducible refine WB.decT (by first | with_reducible rfl | assumption | omega | exact ⟨rfl, rfl⟩) ?_ | with_reducible refine WB.decF (by first | assumption | omega) ?_ | with_reducible refine WB.ndT (by first | with_reducible rfl | assumption | omega | exact ⟨rfl, rfl⟩) ?_ | with_reducible refine WB.ndF (by first | assumption | omega) ?_ | with_reducible refine WB.nt ?_ | with_reducible refine WB.nf ?_ | with_reducible refine WB.dec (fun h => ?_) (fun h => ?_) | with_reducible refine WB.ndec (fun h => ?_) (fun h => ?_) | refine WB.mk (fun h => ?_) (fun h => ?_)) <;> conv => whnf)
  all_goals first | exact Fin.b rfl rfl | exact Fin.b rfl (by rw [decide_eq_true (by omega)]) | (exfalso; omega)
structure Finer (Bx Bb : Bk) : Prop where
  n : Bx.n = Bb.n
  coin : Bx.coin = Bb.coin
  box : Bx.box = Bb.box
  vx : VB Bx
  vb : VB Bb
  ne : exT Bx Bx.ls.length [] ≠ []
  sub : ∀ X ∈ exT Bx Bx.ls.length [], ∃ Y ∈ exT Bb Bb.ls.length [], SameTo Bb.ls.length X Y
theorem Finer.neb {Bx Bb : Bk} (F : Finer Bx Bb) : exT Bb Bb.ls.length [] ≠ [] := fun h => by
  obtain ⟨X, s, hs⟩ := List.exists_cons_of_ne_nil F.ne
  obtain ⟨Y, hY, _⟩ := F.sub X (by rw [hs]; exact List.mem_cons_self)
  rw [h] at hY; cases hY
theorem Finer.ans {Bx Bb : Bk} (F : Finer Bx Bb) {k : Nat} (hk : k ≤ Bb.ls.length) (f : Mo → Int) : ∀ v ∈ ansL Bx k f, v ∈ ansL Bb k f := fun v hv => by
  obtain ⟨X, hX, rfl⟩ := List.mem_map.1 hv
  obtain ⟨Y, hY, hs⟩ := F.sub X hX
  refine List.mem_map.2 ⟨Y, hY, ?_⟩
  show f (moR Bb.box Bb.coin Y k) = f (moR Bx.box Bx.coin X k)
  rw [F.box, F.coin, moR_same (hs.le hk)]
theorem Finer.bnd {Bx Bb : Bk} (F : Finer Bx Bb) {k : Nat} (hk : k ≤ Bb.ls.length) (f : Mo → Int) : (ansL Bb k f).foldl min ((ansL Bb k f).getD 0 0) ≤ (ansL Bx k f).foldl min ((ansL Bx k f).getD 0 0) ∧ (ansL Bx k f).foldl max ((ansL Bx k f).getD 0 0) ≤ (ansL Bb k f).foldl max ((ansL Bb k f).getD 0 0) := by
  have g := fold_mem (ans_ne (aft := k) (ak := f) F.ne)
  exact ⟨(foldl_minJ _ _).2.1 _ (F.ans hk f _ g.1), (foldl_maxJ _ _).2.1 _ (F.ans hk f _ g.2)⟩
theorem Finer.vd {Bx Bb : Bk} (F : Finer Bx Bb) {k : Nat} (hk : k ≤ Bb.ls.length) (x : Nat) (h3 : vdO Bb k x ≠ 3) : vdO Bx k x = vdO Bb k x := by
  have hb := F.bnd hk fun m => min (m.h x) 1
  have g := fold_mem (ans_ne (aft := k) (ak := fun m => min (m.h x) 1) F.ne)
  have hr : ∀ v ∈ ansL Bx k (fun m => min (m.h x) 1), 0 ≤ v ∧ v ≤ 1 := fun v hv => by
    obtain ⟨X, _, rfl⟩ := List.mem_map.1 hv
    have hb2 : 0 ≤ (moR Bx.box Bx.coin X k).h x := by
      show 0 ≤ if x < 4 then cOut X (x : Int) k + 1 else tOut X ((x - 4 : Nat) : Int) k + 1
      have q1 := cOut_bd X (x : Int) k
      have q2 := tOut_bd X ((x - 4 : Nat) : Int) k
      split <;> omega
    show 0 ≤ min ((moR Bx.box Bx.coin X k).h x) 1 ∧ min ((moR Bx.box Bx.coin X k).h x) 1 ≤ 1
    omega
  have r1 := hr _ g.1
  have r2 := hr _ g.2
  have r3 := (foldl_minJ (ansL Bx k fun m => min (m.h x) 1) ((ansL Bx k fun m => min (m.h x) 1).getD 0 0)).2.1 _ g.2
  unfold vdO outA at h3 ⊢
  generalize (ansL Bb k fun m => min (m.h x) 1).foldl min ((ansL Bb k fun m => min (m.h x) 1).getD 0 0) = a at *
  generalize (ansL Bb k fun m => min (m.h x) 1).foldl max ((ansL Bb k fun m => min (m.h x) 1).getD 0 0) = b at *
  generalize (ansL Bx k fun m => min (m.h x) 1).foldl min ((ansL Bx k fun m => min (m.h x) 1).getD 0 0) = c at *
  generalize (ansL Bx k fun m => min (m.h x) 1).foldl max ((ansL Bx k fun m => min (m.h x) 1).getD 0 0) = d at *
  unfold vdT at h3 ⊢
  by_cases e1 : a = 1 ∧ b = 1
  · rw [if_pos e1, if_pos (by omega)]
  · rw [if_neg e1] at h3 ⊢
    by_cases e2 : a = 0 ∧ b = 0
    · rw [if_pos e2, if_neg (by omega), if_pos (by omega)]
    · rw [if_neg e2] at h3
      exact absurd rfl h3
theorem Finer.was {Bx Bb : Bk} (F : Finer Bx Bb) {line : Nat} (hl : line < Bb.ls.length) : ∀ v ∈ wasL Bx line, v ∈ wasL Bb line := fun v hv => by
  obtain ⟨_, h2⟩ := List.mem_filter.1 hv
  rw [List.any_eq_true] at h2
  obtain ⟨X, hX, e⟩ := h2
  obtain ⟨Y, hY, hs⟩ := F.sub X hX
  have e : X.getD line default = v := of_decide_eq_true e
  have e2 : Y.getD line default = v := by rw [hs line hl]; exact e
  have hYe := mem_exT.1 hY
  have hYl : Y.length = Bb.ls.length := by have := hYe.len; simpa using this
  refine List.mem_filter.2 ⟨?_, ?_⟩
  · rw [← e2]
    exact mem_rdsL.2 (hYe.st line (Nat.zero_le _) (by omega)).1
  · rw [List.any_eq_true]
    exact ⟨Y, hY, decide_eq_true e2⟩
end Go.Ev

namespace Go.Ev
open Go.Proofs
set_option maxRecDepth 100000
set_option maxHeartbeats 4000000 in
theorem j_closer {n coin box : Int} {lx ls : List Ln} {cx cs : List Ct} (F : Finer (B5 n coin box lx cx) (B5 n coin box ls cs)) (fx : faultT n coin box lx cx = 0) (fb : faultT n coin box ls cs = 0) (hx : hasB (B5 n coin box lx cx) = true) (hb : hasB (B5 n coin box ls cs) = true) {k : Nat} (hk : k ≤ ls.length) (hkx : k ≤ lx.length) (line : Int) (hl : line = -1 ∨ (0 ≤ line ∧ line < ls.length ∧ line < lx.length)) :
    PureF Try.prog p64.ix [.ag [.i .i64 n, .i .i64 coin, .i .i64 box, .lst 3 (rows lnD lx), .lst 3 (rows ctD cx)], .ag [.i .i64 n, .i .i64 coin, .i .i64 box, .lst 3 (rows lnD ls), .lst 3 (rows ctD cs)], .i .i64 (k : Int), .i .i64 line] (.b true) := by
  have l8x : lx.length ≤ 8 := F.vx.len
  have l8 : ls.length ≤ 8 := F.vb.len
  have c4x : cx.length ≤ 4 := F.vx.clen
  have c4 : cs.length ≤ 4 := F.vb.clen
  have hn : 1 ≤ n ∧ n ≤ 4 := F.vx.n
  have iBx := j_Book n coin box lx cx (by omega) (by omega)
  have iB := j_Book n coin box ls cs (by omega) (by omega)
  have iMx := j_MoneyP n coin box lx cx (k : Int)
  have iM := j_MoneyP n coin box ls cs (k : Int)
  have iOx := j_OutP n coin box lx cx (k : Int)
  have iO := j_OutP n coin box ls cs (k : Int)
  unfold monT at iM iMx
  unfold outT at iO iOx
  rw [show inR (k : Int) 0 (lx.length : Int) = true from inR_iff.2 (by omega), sE_true fx hx, if_pos rfl, Int.toNat_natCast] at iMx iOx
  rw [show inR (k : Int) 0 (ls.length : Int) = true from inR_iff.2 (by omega), sE_true fb hb, if_pos rfl, Int.toNat_natCast] at iM iO
  have hbn := F.bnd (k := k) hk Mo.box
  unfold lohi at iM iMx
  generalize (ansL (B5 n coin box lx cx) k Mo.box).foldl min ((ansL (B5 n coin box lx cx) k Mo.box).getD 0 0) = r1 at *
  generalize (ansL (B5 n coin box lx cx) k Mo.box).foldl max ((ansL (B5 n coin box lx cx) k Mo.box).getD 0 0) = r2 at *
  generalize (ansL (B5 n coin box ls cs) k Mo.box).foldl min ((ansL (B5 n coin box ls cs) k Mo.box).getD 0 0) = q1 at *
  generalize (ansL (B5 n coin box ls cs) k Mo.box).foldl max ((ansL (B5 n coin box ls cs) k Mo.box).getD 0 0) = q2 at *
  have iI := j_inside r1 r2 q1 q2 hbn
  have w0 : ∀ j, j < n.toNat → (vdL (B5 n coin box ls cs) k 0).getD j 0 = 3 ∨ (vdL (B5 n coin box lx cx) k 0).getD j 0 = (vdL (B5 n coin box ls cs) k 0).getD j 0 := fun j hj => by
    rw [vdL_at (B := B5 n coin box ls cs) hj, vdL_at (B := B5 n coin box lx cx) hj]
    by_cases h : vdO (B5 n coin box ls cs) k (0 + j) = 3
    · exact .inl h
    · exact .inr (F.vd hk _ h)
  have w4 : ∀ j, j < n.toNat → (vdL (B5 n coin box ls cs) k 4).getD j 0 = 3 ∨ (vdL (B5 n coin box lx cx) k 4).getD j 0 = (vdL (B5 n coin box ls cs) k 4).getD j 0 := fun j hj => by
    rw [vdL_at (B := B5 n coin box ls cs) hj, vdL_at (B := B5 n coin box lx cx) hj]
    by_cases h : vdO (B5 n coin box ls cs) k (4 + j) = 3
    · exact .inl h
    · exact .inr (F.vd hk _ h)
  have vl0 : (ints (vdL (B5 n coin box ls cs) k 0)).length = n.toNat := by rw [ints_length]; exact vdL_len _ _ _
  have vl4 : (ints (vdL (B5 n coin box ls cs) k 4)).length = n.toNat := by rw [ints_length]; exact vdL_len _ _ _
  have vx0 : (ints (vdL (B5 n coin box lx cx) k 0)).length = n.toNat := by rw [ints_length]; exact vdL_len _ _ _
  have vx4 : (ints (vdL (B5 n coin box lx cx) k 4)).length = n.toNat := by rw [ints_length]; exact vdL_len _ _ _
  have wl0 : (vdL (B5 n coin box ls cs) k 0).length = n.toNat := vdL_len _ _ _
  have wl4 : (vdL (B5 n coin box ls cs) k 4).length = n.toNat := vdL_len _ _ _
  have wx0 : (vdL (B5 n coin box lx cx) k 0).length = n.toNat := vdL_len _ _ _
  have wx4 : (vdL (B5 n coin box lx cx) k 4).length = n.toNat := vdL_len _ _ _
  generalize vdL (B5 n coin box ls cs) k 0 = D0 at *
  generalize vdL (B5 n coin box ls cs) k 4 = D4 at *
  generalize vdL (B5 n coin box lx cx) k 0 = C0 at *
  generalize vdL (B5 n coin box lx cx) k 4 = C4 at *
  refine PureF.run fn63 (by simp) (by simp [PuL, PuE, Pu, pu_ints, pu_ln, pu_ct, pu_tl]) ?_; conv => whnf
  repeat' first | ((first | with_reducible apply WB.tt | with_reducible apply WB.ff | refine Rn.seq ?_ | refine Rn.reg ?_ | refine Rn.drw ?_ | refine Rn.blk ?_ | refine Rn.skip ?_ | refine Rn.ret ?_ | refine Rn.exit ?_ | refine Rn.cond rfl ?_ | refine And.intro (InR.i64 (by omega) (by omega)) ?_ | refine And.intro (show _ ≠ (0 : Int) by omega) ?_ | refine WIx.intsN (by omega) ?_ | refine WIx.rowsN (by omega) ?_ | refine WCall.pure (iBx) ?_ | refine WCall.pure (iB) ?_ | refine WCall.pure (iMx) ?_ | refine WCall.pure (iM) ?_ | refine WCall.pure (iOx) ?_ | refine WCall.pure (iO) ?_ | refine WCall.pure (iI) ?_ | with_reducible refine WB.decT (by first | with_reducible rfl | assumption | omega | exact ⟨rfl, rfl⟩) ?_ | with_reducible refine WB.decF (by first | assumption | omega) ?_ | with_reducible refine WB.ndT (by first | with_reducible rfl | assumption | omega | exact ⟨rfl, rfl⟩) ?_ | with_reducible refine WB.ndF (by first | assumption | omega) ?_ | with_reducible refine WB.nt ?_ | with_reducible refine WB.nf ?_ | with_reducible refine WB.dec (fun h => ?_) (fun h => ?_) | with_reducible refine WB.ndec (fun h => ?_) (fun h => ?_) | refine WB.mk (fun h => ?_) (fun h => ?_)) <;> conv => whnf)
  all_goals first | (exfalso; omega) | skip
  refine Rn.loop (fun j : Nat => ⟨(.n (.n (.n .e (some (.i .i64 line)) (.n (.n .e (some (.i .i64 (j : Int))) .e) none .e)) none (.n (.n (.n .e (some (.lst 1 (ints D4))) .e) none .e) (some (.pt (.o .h) 0 0)) (.n .e (some (.lst 1 (ints C0))) .e))) none (.n (.n (.n (.n .e (some (.lst 1 (ints D0))) .e) none .e) (some (.pt .h 0 0)) .e) none (.n .e none (.n .e (some (.lst 1 (ints C4))) .e)))), (.n (.n .e (some (bkC n coin box ls cs)) .e) (some (bkC n coin box lx cx)) .e), .i (.o .h), none⟩) (fun j => j ≤ n.toNat) (fun j => n.toNat - j) 0 ?_ ?_ ?_
  · refine X.le.mk ?_ ?_ (Nat.le_refl _) rfl rfl
    · (repeat' first | exact T.le_e _ | refine T.le_some ?_ rfl ?_ | refine T.le_none ?_ ?_)
    · (repeat' first | exact T.le_e _ | refine T.le_some ?_ rfl ?_ | refine T.le_none ?_ ?_ | refine T.le_ee ?_ ?_)
  · exact Nat.zero_le _
  intro j hj
  have hj : j ≤ n.toNat := hj
  conv => whnf
  repeat' first | ((first | with_reducible apply WB.tt | with_reducible apply WB.ff | refine Rn.seq ?_ | refine Rn.reg ?_ | refine Rn.drw ?_ | refine Rn.blk ?_ | refine Rn.skip ?_ | refine Rn.ret ?_ | refine Rn.exit ?_ | refine Rn.cond rfl ?_ | refine And.intro (InR.i64 (by omega) (by omega)) ?_ | refine And.intro (show _ ≠ (0 : Int) by omega) ?_ | refine WIx.intsN (by omega) ?_ | refine WIx.rowsN (by omega) ?_) <;> conv => whnf)
  refine WB.dec (fun h => ?_) (fun h => ?_) <;> conv => whnf
  · have hlt : j < n.toNat := by omega
    have c1 := w0 j hlt
    have c2 := w4 j hlt
    have hend : Again (fun j : Nat => (⟨(.n (.n (.n .e (some (.i .i64 line)) (.n (.n .e (some (.i .i64 (j : Int))) .e) none .e)) none (.n (.n (.n .e (some (.lst 1 (ints D4))) .e) none .e) (some (.pt (.o .h) 0 0)) (.n .e (some (.lst 1 (ints C0))) .e))) none (.n (.n (.n (.n .e (some (.lst 1 (ints D0))) .e) none .e) (some (.pt .h 0 0)) .e) none (.n .e none (.n .e (some (.lst 1 (ints C4))) .e)))), (.n (.n .e (some (bkC n coin box ls cs)) .e) (some (bkC n coin box lx cx)) .e), .i (.o .h), none⟩ : X)) (fun j => j ≤ n.toNat) (fun j => n.toNat - j) j ⟨(.n (.n (.n .e (some (.i .i64 line)) (.n (.n .e (some (.i .i64 ((j + 1 : Nat) : Int))) .e) none .e)) none (.n (.n (.n .e (some (.lst 1 (ints D4))) .e) none .e) (some (.pt (.o .h) 0 0)) (.n .e (some (.lst 1 (ints C0))) .e))) none (.n (.n (.n (.n .e (some (.lst 1 (ints D0))) .e) none .e) (some (.pt .h 0 0)) .e) none (.n .e none (.n .e (some (.lst 1 (ints C4))) .e)))), (.n (.n .e (some (bkC n coin box ls cs)) .e) (some (bkC n coin box lx cx)) .e), .i (.o .h), none⟩ → True := fun _ => trivial
    rcases c1 with c1 | c1 <;> rcases c2 with c2 | c2
    all_goals repeat' first | ((first | with_reducible apply WB.tt | with_reducible apply WB.ff | refine Rn.seq ?_ | refine Rn.reg ?_ | refine Rn.drw ?_ | refine Rn.blk ?_ | refine Rn.skip ?_ | refine Rn.ret ?_ | refine Rn.exit ?_ | refine Rn.cond rfl ?_ | refine And.intro (InR.i64 (by omega) (by omega)) ?_ | refine And.intro (show _ ≠ (0 : Int) by omega) ?_ | refine WIx.intsN (by omega) ?_ | refine WIx.rowsN (by omega) ?_ | with_reducible refine WB.decT (by first | with_reducible rfl | assumption | omega | exact ⟨rfl, rfl⟩) ?_ | with_reducible refine WB.decF (by first | assumption | omega) ?_ | with_reducible refine WB.ndT (by first | with_reducible rfl | assumption | omega | exact ⟨rfl, rfl⟩) ?_ | with_reducible refine WB.ndF (by first | assumption | omega) ?_ | with_reducible refine WB.nt ?_ | with_reducible refine WB.nf ?_ | with_reducible refine WB.dec (fun h => ?_) (fun h => ?_) | with_reducible refine WB.ndec (fun h => ?_) (fun h => ?_) | refine WB.mk (fun h => ?_) (fun h => ?_)) <;> conv => whnf)
    all_goals first | (exfalso; omega) | skip
    all_goals refine Again.to (j + 1) (by omega) (by omega) (Nat.le_refl _) ?_
    all_goals refine Shr.of ?_ ?_ rfl rfl
    all_goals (repeat' first | exact Rel.e | refine Rel.some ?_ ?_ ?_ | refine Rel.none ?_ ?_ | refine Rel.ee ?_ ?_)
    all_goals first
      | exact RO'.of (show _ < 5 by simp [Pos.nat]) (ShC.kp (bkC_kp _ _ _ _ _ _))
      | (show Fz _ _ _ _; first | exact .kpt (show _ < 5 by simp [Pos.nat]) | exact .pu trivial | exact .pu (pu_ints _))
  · rcases hl with rfl | ⟨hl0, hl1, hl2⟩
    · repeat' first | ((first | with_reducible apply WB.tt | with_reducible apply WB.ff | refine Rn.seq ?_ | refine Rn.reg ?_ | refine Rn.drw ?_ | refine Rn.blk ?_ | refine Rn.skip ?_ | refine Rn.ret ?_ | refine Rn.exit ?_ | refine Rn.cond rfl ?_ | refine And.intro (InR.i64 (by omega) (by omega)) ?_ | refine And.intro (show _ ≠ (0 : Int) by omega) ?_ | refine WIx.intsN (by omega) ?_ | refine WIx.rowsN (by omega) ?_ | with_reducible refine WB.decT (by first | with_reducible rfl | assumption | omega | exact ⟨rfl, rfl⟩) ?_ | with_reducible refine WB.decF (by first | assumption | omega) ?_ | with_reducible refine WB.ndT (by first | with_reducible rfl | assumption | omega | exact ⟨rfl, rfl⟩) ?_ | with_reducible refine WB.ndF (by first | assumption | omega) ?_ | with_reducible refine WB.nt ?_ | with_reducible refine WB.nf ?_ | with_reducible refine WB.dec (fun h => ?_) (fun h => ?_) | with_reducible refine WB.ndec (fun h => ?_) (fun h => ?_) | refine WB.mk (fun h => ?_) (fun h => ?_)) <;> conv => whnf)
      exact Fin.b rfl rfl
    · obtain ⟨m, rfl⟩ : ∃ m : Nat, line = (m : Int) := ⟨line.toNat, by omega⟩
      have iWx := j_WasP n coin box lx cx (m : Int) (by omega)
      have iW := j_WasP n coin box ls cs (m : Int) (by omega)
      unfold wasT at iW iWx
      rw [show inR (m : Int) 0 ((lx.length : Int) - 1) = true from inR_iff.2 (by omega), sE_true fx hx, if_pos rfl, Int.toNat_natCast] at iWx
      rw [show inR (m : Int) 0 ((ls.length : Int) - 1) = true from inR_iff.2 (by omega), sE_true fb hb, if_pos rfl, Int.toNat_natCast] at iW
      have hsub := F.was (line := m) (show m < ls.length by omega)
      have hWl : (wasL (B5 n coin box lx cx) m).length ≤ 1000 := Nat.le_trans (List.length_filter_le _ _) (rds_32 F.vx _)
      have hVl : (wasL (B5 n coin box ls cs) m).length ≤ 1000 := Nat.le_trans (List.length_filter_le _ _) (rds_32 F.vb _)
      have hVw : ∀ a ∈ wasL (B5 n coin box ls cs) m, lnWf a := fun a h => rd_wf F.vb (line := m) (show m < ls.length by omega) (mem_rdsL.1 (List.mem_filter.1 h).1)
      generalize wasL (B5 n coin box lx cx) m = W at *
      generalize wasL (B5 n coin box ls cs) m = U at *
      have e3 := rows_length lnD W
      repeat' first | ((first | with_reducible apply WB.tt | with_reducible apply WB.ff | refine Rn.seq ?_ | refine Rn.reg ?_ | refine Rn.drw ?_ | refine Rn.blk ?_ | refine Rn.skip ?_ | refine Rn.ret ?_ | refine Rn.exit ?_ | refine Rn.cond rfl ?_ | refine And.intro (InR.i64 (by omega) (by omega)) ?_ | refine And.intro (show _ ≠ (0 : Int) by omega) ?_ | refine WIx.intsN (by omega) ?_ | refine WIx.rowsN (by omega) ?_ | refine WCall.pure (iBx) ?_ | refine WCall.pure (iB) ?_ | refine WCall.pure (iWx) ?_ | refine WCall.pure (iW) ?_ | with_reducible refine WB.decT (by first | with_reducible rfl | assumption | omega | exact ⟨rfl, rfl⟩) ?_ | with_reducible refine WB.decF (by first | assumption | omega) ?_ | with_reducible refine WB.ndT (by first | with_reducible rfl | assumption | omega | exact ⟨rfl, rfl⟩) ?_ | with_reducible refine WB.ndF (by first | assumption | omega) ?_ | with_reducible refine WB.nt ?_ | with_reducible refine WB.nf ?_ | with_reducible refine WB.dec (fun h => ?_) (fun h => ?_) | with_reducible refine WB.ndec (fun h => ?_) (fun h => ?_) | refine WB.mk (fun h => ?_) (fun h => ?_)) <;> conv => whnf)
      refine Rn.loop (fun j : Nat => ⟨(.n (.n (.n (.n .e none (.n .e (some (.i .i64 0)) .e)) none .e) none (.n .e none (.n (.n .e (some (.i .i64 0)) .e) none .e))) none (.n (.n (.n .e none (.n .e (some (.i .i64 (j : Int))) .e)) none (.n (.n .e (some (.lst 3 (rows lnD W))) .e) none .e)) none (.n .e none (.n (.n .e (some (.lst 3 (rows lnD U))) .e) none .e)))), .e, .i (.o .h), none⟩) (fun j => j ≤ W.length) (fun j => W.length - j) 0 ?_ ?_ ?_
      · refine X.le.mk ?_ (T.le_e _) (Nat.le_refl _) rfl rfl
        (repeat' first | exact T.le_e _ | refine T.le_some ?_ rfl ?_ | refine T.le_none ?_ ?_)
      · exact Nat.zero_le _
      intro i hi
      have hi : i ≤ W.length := hi
      conv => whnf
      repeat' first | ((first | with_reducible apply WB.tt | with_reducible apply WB.ff | refine Rn.seq ?_ | refine Rn.reg ?_ | refine Rn.drw ?_ | refine Rn.blk ?_ | refine Rn.skip ?_ | refine Rn.ret ?_ | refine Rn.exit ?_ | refine Rn.cond rfl ?_ | refine And.intro (InR.i64 (by omega) (by omega)) ?_ | refine And.intro (show _ ≠ (0 : Int) by omega) ?_ | refine WIx.intsN (by omega) ?_ | refine WIx.rowsN (by omega) ?_) <;> conv => whnf)
      refine WB.dec (fun h => ?_) (fun h => ?_) <;> conv => whnf
      · have hlt : i < W.length := by omega
        have iH := j_hasL U (W.getD i default) hVl hVw (hsub _ (getD_mem hlt))
        unfold lnD at iH
        repeat' first | ((first | with_reducible apply WB.tt | with_reducible apply WB.ff | refine Rn.seq ?_ | refine Rn.reg ?_ | refine Rn.drw ?_ | refine Rn.blk ?_ | refine Rn.skip ?_ | refine Rn.ret ?_ | refine Rn.exit ?_ | refine Rn.cond rfl ?_ | refine And.intro (InR.i64 (by omega) (by omega)) ?_ | refine And.intro (show _ ≠ (0 : Int) by omega) ?_ | refine WIx.intsN (by omega) ?_ | refine WIx.rowsN (by omega) ?_ | refine WCall.pure (iH) ?_ | with_reducible refine WB.decT (by first | with_reducible rfl | assumption | omega | exact ⟨rfl, rfl⟩) ?_ | with_reducible refine WB.decF (by first | assumption | omega) ?_ | with_reducible refine WB.ndT (by first | with_reducible rfl | assumption | omega | exact ⟨rfl, rfl⟩) ?_ | with_reducible refine WB.ndF (by first | assumption | omega) ?_ | with_reducible refine WB.nt ?_ | with_reducible refine WB.nf ?_ | with_reducible refine WB.dec (fun h => ?_) (fun h => ?_) | with_reducible refine WB.ndec (fun h => ?_) (fun h => ?_) | refine WB.mk (fun h => ?_) (fun h => ?_)) <;> conv => whnf)
        refine Again.to (i + 1) (by omega) (by omega) (Nat.le_refl _) ?_
        (refine Shr.of ?_ ?_ rfl rfl) <;> (repeat' first | exact Rel.e | refine Rel.some ?_ ?_ ?_ | refine Rel.none ?_ ?_) <;> (try first | (show Fz _ _ _ _; first | exact Fz.pu trivial | (refine Fz.i ?_; first | rfl | omega) | (refine Fz.kpt ?_; (focus (show Pos.nat _ < Pos.nat _; simp [Pos.nat]; done))) | (refine Fz.ksl ?_; (focus (show Pos.nat _ < Pos.nat _; simp [Pos.nat]; done))) | (refine Fz.kmp ?_; (focus (show Pos.nat _ < Pos.nat _; simp [Pos.nat]; done))) | (refine Fz.pu ?_; simp [Cell.d, Pu, PuL, PuE, pu_ints, pu_ln, pu_ct, pu_tl]; done) | (refine Fz.pu ?_; simp only [Cell.d]; assumption)) | (refine RO'.of ?_ (ShC.same ?_); (focus (show Pos.nat _ < Pos.nat _; simp [Pos.nat]; done)); (repeat' first | exact ShC.nl | refine ShC.cn ?_ ?_) <;> first | exact Fz.pu trivial | (refine Fz.i ?_; first | rfl | omega) | (refine Fz.kpt ?_; (focus (show Pos.nat _ < Pos.nat _; simp [Pos.nat]; done))) | (refine Fz.ksl ?_; (focus (show Pos.nat _ < Pos.nat _; simp [Pos.nat]; done))) | (refine Fz.kmp ?_; (focus (show Pos.nat _ < Pos.nat _; simp [Pos.nat]; done))) | (refine Fz.pu ?_; simp [Cell.d, Pu, PuL, PuE, pu_ints, pu_ln, pu_ct, pu_tl]; done) | (refine Fz.pu ?_; simp only [Cell.d]; assumption)))
        all_goals exact Fz.pu (pu_ln _)
      · repeat' first | ((first | with_reducible apply WB.tt | with_reducible apply WB.ff | refine Rn.seq ?_ | refine Rn.reg ?_ | refine Rn.drw ?_ | refine Rn.blk ?_ | refine Rn.skip ?_ | refine Rn.ret ?_ | refine Rn.exit ?_ | refine Rn.cond rfl ?_ | refine And.intro (InR.i64 (by omega) (by omega)) ?_ | refine And.intro (show _ ≠ (0 : Int) by omega) ?_ | refine WIx.intsN (by omega) ?_ | refine WIx.rowsN (by omega) ?_ | with_reducible refine WB.decT (by first | with_reducible rfl | assumption | omega | exact ⟨rfl, rfl⟩) ?_ | with_reducible refine WB.decF (by first | assumption | omega) ?_ | with_reducible refine WB.ndT (by first | with_reducible rfl | assumption | omega | exact ⟨rfl, rfl⟩) ?_ | with_reducible refine WB.ndF (by first | assumption | omega) ?_ | with_reducible refine WB.nt ?_ | with_reducible refine WB.nf ?_ | with_reducible refine WB.dec (fun h => ?_) (fun h => ?_) | with_reducible refine WB.ndec (fun h => ?_) (fun h => ?_) | refine WB.mk (fun h => ?_) (fun h => ?_)) <;> conv => whnf)
        exact Fin.b rfl rfl
end Go.Ev

namespace Go.Ev
open Go.Proofs
set_option maxRecDepth 1000000
end Go.Ev

namespace Go.Ev
open Go.Proofs
set_option maxRecDepth 100000
theorem Finer.has {Bx Bb : Bk} (F : Finer Bx Bb) : hasB Bb = true := by
  rw [hasB_nil F.vb]
  intro h
  obtain ⟨Y, s, hs⟩ := List.exists_cons_of_ne_nil F.neb
  have := (refT_ext F.vb).2 (show Y ∈ exT Bb Bb.ls.length [] by rw [hs]; exact List.mem_cons_self)
  rw [h] at this; cases this
def seqR : RC → RC
  | .seq _ b => b
  | c => c
end Go.Ev

namespace Go.Ev
set_option maxRecDepth 100000
theorem WSt.app_empE {sl : T D} {ob : T C} {nx : Pos} {K : X → Prop} {d id : Pos} {z : Nat} {x y : RX} {es : List (List D)} (hx : opd sl x = some (.sl id 0 0 0 z)) (hox : ob.get id = some (.cells false [] 1)) (hy : opd sl y = some (.lst z es)) (hz : ∀ r ∈ es, r.length = z) (hlen : es.length ≤ 2147483648)
    (h : ∀ st w, T.setK id (.cells false (es.flatten.map fun d => Cell.o d st) (st + 1)) ob fun ob => T.setK id w .e fun L => wOut sl ob nx (some L) d K (.sl id 0 es.length st z)) : WSt (.app d z x y) ⟨sl, ob, nx, some .e⟩ K := by
  have hfl : es.flatten.length = es.length * z := by
    clear hlen hy h
    induction es with
    | nil => simp
    | cons r es ih => simp [ih (fun r h => hz r (by simp [h])), hz r (by simp), Nat.add_mul]; omega
  have hb : (Nat.beq z z && Nat.beq (List.length (List.flatten es)) (Nat.mul (List.length es) z)) = true := by
    rw [hfl]; simp
  cases hk : es.length with
  | zero =>
    have he : es = [] := List.length_eq_zero_iff.1 hk
    subst he
    have h0 := h 0 false
    rw [T.setK_eq, T.setK_eq] at h0
    have h0 : wOut sl (T.set id (C.cells false [] 1) ob) nx (some (T.set id false .e)) d K (D.sl id 0 0 0 z) := h0
    rw [T.set_get hox] at h0
    obtain ⟨h2, h3⟩ := wOut_ok h0
    refine ⟨_, ?_, h3⟩
    show s_app d z x y sl ob nx (some .e) = _
    unfold s_app
    rw [hx, hy]
    have hb : Nat.beq (List.length (List.flatten ([] : List (List D)))) (Nat.mul 0 z) = true := by simp
    have hg : (T.e : T Bool).get id = none := T.get_e id
    simp only [srcK, hb, cond_true, Bool.and_self, logO, List.length_nil, logR, hox, Nat.beq_refl, hg, T.setK_eq]
    exact h2
  | succ k =>
    have h1 := h 1 true
    rw [T.setK_eq, T.setK_eq] at h1
    obtain ⟨h2, h3⟩ := wOut_ok h1
    refine ⟨_, ?_, h3⟩
    show s_app d z x y sl ob nx (some .e) = _
    unfold s_app
    rw [hx, hy]
    rw [hk] at hlen h2 hb
    have hle : Nat.ble (Nat.add 0 (Nat.succ k)) 2147483648 = true := Nat.ble_eq_true_of_le (by simpa using hlen)
    have hb : Nat.beq (List.length (List.flatten es)) (Nat.mul (k + 1) z) = true := by rw [hfl, hk]; simp
    have hm : Nat.add 0 (Nat.mul 0 z) = 0 := by show 0 + 0 * z = 0; simp
    simp only [srcK, hk, hb, cond_true, logO, Nat.beq_refl, Bool.true_and, hle, hox, hm, growK_emp, natK_eq, objOutK, logW, T.setK_eq]
    have e1 : Nat.add 0 (Nat.succ k) = k + 1 := by show 0 + (k + 1) = k + 1; omega
    rw [e1]
    exact h2
end Go.Ev
