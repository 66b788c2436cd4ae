import Derived.Test.YtmlpgfmbhpefmaaEvLa
import Derived.Test.YtmlpgfmbhpefmaaEvFx
set_option linter.all false
namespace Go.Ev
open Go.Proofs
set_option maxRecDepth 100000
def k10 : List LK := [.i .i64, .i .i64, .i .u64, .i .u64, .i .u64, .i .u64, .i .u64, .i .u64, .i .u64, .i .u64]
def kD (f t : Int) (e : Nat × Int) : D × D := (.ag ([.i .i64 f, .i .i64 t] ++ w8 e.1), .i .i64 e.2)
theorem kD_pu (f t : Int) (M : List (Nat × Int)) : ∀ e ∈ M.map (kD f t), Pu e.1 ∧ Pu e.2 := fun e he => by
  obtain ⟨p, _, rfl⟩ := List.mem_map.1 he
  simp [kD, w8, Pu, PuL]
noncomputable def mapO (f t : Int) (M : List (Nat × Int)) : T C := .n .e (some (.map (M.map (kD f t)))) .e
theorem mapC_kp {n : Nat} {f t : Int} {M : List (Nat × Int)} : KpC n (.map (M.map (kD f t))) := fun e he => by
  obtain ⟨p, _, rfl⟩ := List.mem_map.1 he
  simp [kD, w8, Kp, KpL, Pu]
section
variable {f t : Int} (hf : wfB .i64 f = true) (ht : wfB .i64 t = true)
include hf ht
theorem eqR10 {w v : Nat} {a b : Int} (hw : w < 2 ^ 64) (hv : v < 2 ^ 64) : eqR k10 (kD f t (w, a)).1 (kD f t (v, b)).1 = some (decide (w = v)) := by
  have hk : kEq .i64 .i64 = true := rfl
  have hi : ∀ n : Int, wfB .i64 n = true → eqC (.i .i64) (.i .i64 n) (.i .i64 n) = some true := fun n hn => by
    simp [eqC, hk, hn, eqB_eq]
  have e : eqR k10 (kD f t (w, a)).1 (kD f t (v, b)).1 = (match eqC (.i .i64) (.i .i64 f) (.i .i64 f), (match eqC (.i .i64) (.i .i64 t) (.i .i64 t), eqL k8 (w8 w) (w8 v) with
      | some a, some b => some (a && b)
      | _, _ => none) with
      | some a, some b => some (a && b)
      | _, _ => none) := rfl
  rw [e, hi f hf, hi t ht, eqL8 hw hv]
  simp
theorem findM {w : Nat} {a : Int} (hw : w < 2 ^ 64) : ∀ (M : List (Nat × Int)), (∀ e ∈ M, e.1 < 2 ^ 64) → (∃ n, (w, n) ∈ M ∧ findD k10 (kD f t (w, a)).1 (M.map (kD f t)) = some (some (.i .i64 n))) ∨ findD k10 (kD f t (w, a)).1 (M.map (kD f t)) = some none
  | [], _ => .inr rfl
  | q :: M, h => by
    obtain ⟨v, n⟩ := q
    have hv := h (v, n) (by simp)
    have e : findD k10 (kD f t (w, a)).1 (((v, n) :: M).map (kD f t)) = (match eqR k10 (kD f t (w, a)).1 (kD f t (v, n)).1 with
      | some true => some (some (kD f t (v, n)).2)
      | some false => findD k10 (kD f t (w, a)).1 (M.map (kD f t))
      | none => none) := rfl
    rw [e, eqR10 hf ht hw hv]
    by_cases hwv : w = v
    · subst hwv
      rw [decide_eq_true rfl]
      exact .inl ⟨n, by simp, rfl⟩
    · rw [decide_eq_false hwv]
      rcases findM hw M (fun e he => h e (by simp [he])) with ⟨n', h1, h2⟩ | h1
      · exact .inl ⟨n', by simp [h1], h2⟩
      · exact .inr h1
theorem putM {w : Nat} {n : Int} (hw : w < 2 ^ 64) : ∀ (M : List (Nat × Int)), (∀ e ∈ M, e.1 < 2 ^ 64) → ∃ M' : List (Nat × Int), (∀ e ∈ M', e = (w, n) ∨ e ∈ M) ∧ ∀ {β : Type} (k : List (D × D) → Option β), putD k10 (kD f t (w, n)).1 (.i .i64 n) (M.map (kD f t)) k = k (M'.map (kD f t))
  | [], _ => ⟨[(w, n)], fun e he => .inl (List.mem_singleton.1 he), fun k => rfl⟩
  | q :: M, h => by
    obtain ⟨v, n'⟩ := q
    have hv := h (v, n') (by simp)
    have e : ∀ {β : Type} (k : List (D × D) → Option β), putD k10 (kD f t (w, n)).1 (.i .i64 n) (((v, n') :: M).map (kD f t)) k = (match eqR k10 (kD f t (w, n)).1 (kD f t (v, n')).1 with
      | some true => k (((kD f t (w, n)).1, .i .i64 n) :: M.map (kD f t))
      | some false => putD k10 (kD f t (w, n)).1 (.i .i64 n) (M.map (kD f t)) fun l => k (kD f t (v, n') :: l)
      | none => none) := fun k => rfl
    by_cases hwv : w = v
    · subst hwv
      refine ⟨(w, n) :: M, fun e he => ?_, fun k => ?_⟩
      · rcases List.mem_cons.1 he with rfl | he
        · exact .inl rfl
        · exact .inr (by simp [he])
      · rw [e, eqR10 hf ht hw hv, decide_eq_true rfl]
        rfl
    · obtain ⟨M', h1, h2⟩ := putM hw M (fun e he => h e (by simp [he]))
      refine ⟨(v, n') :: M', fun e he => ?_, fun k => ?_⟩
      · rcases List.mem_cons.1 he with rfl | he
        · exact .inr (by simp)
        · rcases h1 e he with h | h
          · exact .inl h
          · exact .inr (by simp [h])
      · rw [e, eqR10 hf ht hw hv, decide_eq_false hwv]
        exact h2 fun l => k (kD f t (v, n') :: l)
variable {sl : T D} {ob : T C} {nx : Pos} {K : X → Prop}
theorem WSt.lkpM {d id : Pos} {x i : RX} {w : Nat} {M : List (Nat × Int)} (hx : opd sl x = some (.mp id)) (hi : opd sl i = some (kD f t (w, 0)).1) (hob : ob.get id = some (.map (M.map (kD f t)))) (hw : w < 2 ^ 64) (hM : ∀ e ∈ M, e.1 < 2 ^ 64) (h1 : ∀ n, (w, n) ∈ M → wOut sl ob nx none d K (.tp [.i .i64 n, .b true])) (h2 : wOut sl ob nx none d K (.tp [.i .i64 0, .b false])) : WSt (.lkp d (.i .i64 0) true k10 x i) ⟨sl, ob, nx, none⟩ K := by
  have hstep : step (.lkp d (.i .i64 0) true k10 x i) sl ob nx none = (match findD k10 (kD f t (w, 0)).1 (M.map (kD f t)) with
        | some (some v) => outK sl ob nx none d (.tp [v, .b true])
        | some none => outK sl ob nx none d (.tp [.i .i64 0, .b false])
        | none => none) := by
    show s_lkp d _ _ _ x i sl ob nx none = _
    unfold s_lkp
    rw [hx, hi]
    simp only [hob, eqR10 hf ht hw hw]
    rfl
  rcases findM hf ht (a := 0) hw M hM with ⟨n, k1, k2⟩ | k2
  · obtain ⟨j1, j2⟩ := wOut_ok (h1 n k1)
    exact ⟨_, by rw [hstep, k2]; exact j1, j2⟩
  · obtain ⟨j1, j2⟩ := wOut_ok h2
    exact ⟨_, by rw [hstep, k2]; exact j1, j2⟩
theorem WSt.mupM {id : Pos} {x i v : RX} {w : Nat} {n : Int} {M : List (Nat × Int)} (hx : opd sl x = some (.mp id)) (hi : opd sl i = some (kD f t (w, n)).1) (hv : opd sl v = some (.i .i64 n)) (hob : ob.get id = some (.map (M.map (kD f t)))) (hw : w < 2 ^ 64) (hM : ∀ e ∈ M, e.1 < 2 ^ 64) (h : ∀ M' : List (Nat × Int), (∀ e ∈ M', e = (w, n) ∨ e ∈ M) → T.setK id (.map (M'.map (kD f t))) ob fun ob => K ⟨sl, ob, nx, none⟩) : WSt (.mup k10 x i v) ⟨sl, ob, nx, none⟩ K := by
  obtain ⟨M', h1, h2⟩ := putM hf ht (n := n) hw M hM
  have h := h M' h1
  rw [T.setK_eq] at h
  refine ⟨_, ?_, h⟩
  show s_mup _ x i v sl ob nx none = _
  unfold s_mup
  rw [hx, hi, hv]
  simp only [hob, eqR10 hf ht hw hw, h2]
  show T.setK id _ ob _ = _
  rw [T.setK_eq]
end
def lkD (f t : Int) (W E : List Nat) : List D := [.i .i64 f, .i .i64 t, .lst 8 (rows w8 W), .lst 8 (rows w8 E)]
theorem pu_w8 (W : List Nat) : PuE (rows w8 W) := pu_rows w8_pu W
theorem lkD_pu (f t : Int) (W E : List Nat) : PuL (lkD f t W E) := by simp [lkD, PuL, Pu, pu_w8]
noncomputable def lkC (f t : Int) (W E : List Nat) : C := .cells false [.o (.i .i64 f) 0, .o (.i .i64 t) 0, .o (.lst 8 (rows w8 W)) 0, .o (.lst 8 (rows w8 E)) 0, .o (.mp .h) 0] 1
noncomputable def seC8 (w : Nat) : C := .cells false ((w8 w).map fun d => Cell.o d 0) 1
theorem lkC_kp (f t : Int) (W E : List Nat) (n : Nat) (hn : 1 < n) : KpC n (lkC f t W E) := by
  refine KpL.all ?_
  simp [KpL, Kp, Cell.d, Pu, pu_w8, Pos.nat, hn]
theorem seC8_kp (w n : Nat) : KpC n (seC8 w) := by
  refine KpL.all ?_
  simp [w8, KpL, Kp, Cell.d, Pu]
theorem mapO_kp (f t : Int) (M : List (Nat × Int)) : KpO 2 (mapO f t M) := by
  show TAll (fun id c => id.nat < 2 ∧ KpC 2 c) _
  exact TAll.some TAll.e ⟨by simp [Pos.nat], mapC_kp⟩ TAll.e
theorem c_isKnown (f t : Int) (W E : List Nat) (w : Nat) (M : List (Nat × Int)) (hw : w < 2 ^ 64) (hE : ∀ e ∈ E, e < 2 ^ 64) (hl : E.length ≤ 1000) : CallOk Try.prog p104.ix [.ag (lkD f t W E ++ [.mp .h]), .ag (w8 w)] (mapO f t M) (.o .h) none (.b (E.any fun e => decide (w &&& (18446744073709551615 - e) = 0))) (mapO f t M) (.o .h) none := by
  have e1 := rows_length w8 E
  refine CallOk.run fn103 (by simp) (Nat.le_refl _) ?_; conv => whnf
  repeat' first | ((first | with_reducible apply WB.tt | with_reducible apply WB.ff | refine Rn.seq ?_ | refine Rn.reg ?_ | refine Rn.drw ?_ | refine Rn.blk ?_ | refine Rn.skip ?_ | refine Rn.ret ?_ | refine Rn.exit ?_ | refine Rn.cond rfl ?_ | refine And.intro (InR.i64 (by omega) (by omega)) ?_ | refine And.intro (show _ ≠ (0 : Int) by omega) ?_ | refine WIx.intsN (by omega) ?_ | refine WIx.rowsN (by omega) ?_) <;> conv => whnf)
  refine Rn.loop (fun j : Nat => ⟨(.n (.n (.n .e (some (.pt (.i .h) 0 0)) .e) none (.n (.n .e (some (.i .i64 (E.length : Int))) .e) none .e)) none (.n (.n (.n .e (some (.lst 8 (rows w8 E))) .e) none .e) none (.n (.n .e (some (.i .i64 (j : Int))) .e) none .e))), (.n .e (some (.map (M.map (kD f t)))) (.n .e (some (seC8 w)) .e)), .o (.o .h), none⟩) (fun j => j ≤ E.length ∧ (E.take j).any (fun e => decide (w &&& (18446744073709551615 - e) = 0)) = false) (fun j => E.length - j) 0 ?_ ?_ ?_
  · refine X.le.mk ?_ ?_ (Nat.le_refl _) rfl rfl
    · show T.le ((.n (.n (.n .e (some (.pt (.i .h) 0 0)) .e) none (.n (.n .e (some (.i .i64 (E.length : Int))) .e) none .e)) none (.n (.n (.n .e (some (.lst 8 (rows w8 E))) .e) none .e) none (.n (.n .e (some (.i .i64 0)) .e) none .e))) : T D) _
      rw [← e1]
      (repeat' first | exact T.le_e _ | refine T.le_some ?_ rfl ?_ | refine T.le_none ?_ ?_)
    · show T.le ((.n .e (some (.map (M.map (kD f t)))) (.n .e (some (seC8 w)) .e)) : T C) _
      (repeat' first | exact T.le_e _ | refine T.le_some ?_ rfl ?_ | refine T.le_none ?_ ?_ | refine T.le_ee ?_ ?_)
  · exact ⟨by omega, by simp⟩
  rintro j ⟨hj, ha⟩
  conv => whnf
  repeat' first | ((first | with_reducible apply WB.tt | with_reducible apply WB.ff | refine Rn.seq ?_ | refine Rn.reg ?_ | refine Rn.drw ?_ | refine Rn.blk ?_ | refine Rn.skip ?_ | refine Rn.ret ?_ | refine Rn.exit ?_ | refine Rn.cond rfl ?_ | refine And.intro (InR.i64 (by omega) (by omega)) ?_ | refine And.intro (show _ ≠ (0 : Int) by omega) ?_ | refine WIx.intsN (by omega) ?_ | refine WIx.rowsN (by omega) ?_) <;> conv => whnf)
  refine WB.dec (fun h => ?_) (fun h => ?_) <;> conv => whnf
  · have hlt : j < E.length := by omega
    have h64 := hE _ (getD_mem (d := default) hlt)
    have hnx := any_take_succ (p := fun e => decide (w &&& (18446744073709551615 - e) = 0)) (d := default) hlt
    rw [ha, Bool.false_or] at hnx
    repeat' first | ((first | with_reducible apply WB.tt | with_reducible apply WB.ff | refine Rn.seq ?_ | refine Rn.reg ?_ | refine Rn.drw ?_ | refine Rn.blk ?_ | refine Rn.skip ?_ | refine Rn.ret ?_ | refine Rn.exit ?_ | refine Rn.cond rfl ?_ | refine And.intro (InR.i64 (by omega) (by omega)) ?_ | refine And.intro (show _ ≠ (0 : Int) by omega) ?_ | refine WIx.intsN (by omega) ?_ | refine WIx.rowsN (by omega) ?_ | refine WCall.pure (c_wo w (E.getD j default) hw h64) ?_) <;> conv => whnf)
    refine WSt.eqr8 (w := w &&& (18446744073709551615 - E.getD j default)) (v := 0) rfl rfl (Nat.lt_of_le_of_lt Nat.and_le_left hw) (by omega) ?_; conv => whnf
    repeat' first | ((first | with_reducible apply WB.tt | with_reducible apply WB.ff | refine Rn.seq ?_ | refine Rn.reg ?_ | refine Rn.drw ?_ | refine Rn.blk ?_ | refine Rn.skip ?_ | refine Rn.ret ?_ | refine Rn.exit ?_ | refine Rn.cond rfl ?_ | refine And.intro (InR.i64 (by omega) (by omega)) ?_ | refine And.intro (show _ ≠ (0 : Int) by omega) ?_ | refine WIx.intsN (by omega) ?_ | refine WIx.rowsN (by omega) ?_) <;> conv => whnf)
    refine WB.mk (fun h => ?_) (fun h => ?_) <;> conv => whnf
    · repeat' first | ((first | with_reducible apply WB.tt | with_reducible apply WB.ff | refine Rn.seq ?_ | refine Rn.reg ?_ | refine Rn.drw ?_ | refine Rn.blk ?_ | refine Rn.skip ?_ | refine Rn.ret ?_ | refine Rn.exit ?_ | refine Rn.cond rfl ?_ | refine And.intro (InR.i64 (by omega) (by omega)) ?_ | refine And.intro (show _ ≠ (0 : Int) by omega) ?_ | refine WIx.intsN (by omega) ?_ | refine WIx.rowsN (by omega) ?_) <;> conv => whnf)
      have hany : (E.any fun e => decide (w &&& (18446744073709551615 - e) = 0)) = true := List.any_eq_true.2 ⟨_, getD_mem (d := default) hlt, h⟩
      rw [hany]
      refine ⟨.inr rfl, ⟨_, rfl, .pu trivial⟩, Shr.kp ?_ (mapO_kp f t M)⟩
      show T.le (T.n .e (some (.map (M.map (kD f t)))) .e : T C) _
      refine T.le_some (T.le_e _) rfl (T.le_e _)
    · repeat' first | ((first | with_reducible apply WB.tt | with_reducible apply WB.ff | refine Rn.seq ?_ | refine Rn.reg ?_ | refine Rn.drw ?_ | refine Rn.blk ?_ | refine Rn.skip ?_ | refine Rn.ret ?_ | refine Rn.exit ?_ | refine Rn.cond rfl ?_ | refine And.intro (InR.i64 (by omega) (by omega)) ?_ | refine And.intro (show _ ≠ (0 : Int) by omega) ?_ | refine WIx.intsN (by omega) ?_ | refine WIx.rowsN (by omega) ?_) <;> conv => whnf)
      rw [show (decide (w &&& (18446744073709551615 - E.getD j default) = 0)) = false from h] at hnx
      refine Again.to (j + 1) (by omega) ⟨by omega, hnx⟩ (Nat.le_refl _) ?_
      refine Shr.of ?_ ?_ rfl rfl
      · show Rel _ _ ((.n (.n (.n .e (some (.pt (.i .h) 0 0)) .e) none (.n (.n .e (some (.i .i64 (E.length : Int))) .e) none .e)) none (.n (.n (.n .e (some (.lst 8 (rows w8 E))) .e) none .e) none (.n (.n .e (some (.i .i64 ((j + 1 : Nat) : Int))) .e) none .e))) : T D) _
        (repeat' first | exact Rel.e | refine Rel.some ?_ ?_ ?_ | refine Rel.none ?_ ?_ | refine Rel.ee ?_ ?_)
        all_goals show Fz _ _ _ _
        all_goals first | exact .pu trivial | exact .pu (pu_w8 E) | exact .kpt (show _ < 4 by simp [Pos.nat])
      · show Rel _ _ ((.n .e (some (.map (M.map (kD f t)))) (.n .e (some (seC8 w)) .e)) : T C) _
        (repeat' first | exact Rel.e | refine Rel.some ?_ ?_ ?_ | refine Rel.none ?_ ?_ | refine Rel.ee ?_ ?_)
        all_goals first
          | exact RO'.of (show _ < 4 by simp [Pos.nat]) (ShC.kp mapC_kp)
          | exact RO'.of (show _ < 4 by simp [Pos.nat]) (ShC.kp (seC8_kp w _))
  · repeat' first | ((first | with_reducible apply WB.tt | with_reducible apply WB.ff | refine Rn.seq ?_ | refine Rn.reg ?_ | refine Rn.drw ?_ | refine Rn.blk ?_ | refine Rn.skip ?_ | refine Rn.ret ?_ | refine Rn.exit ?_ | refine Rn.cond rfl ?_ | refine And.intro (InR.i64 (by omega) (by omega)) ?_ | refine And.intro (show _ ≠ (0 : Int) by omega) ?_ | refine WIx.intsN (by omega) ?_ | refine WIx.rowsN (by omega) ?_) <;> conv => whnf)
    rw [List.take_of_length_le (by omega)] at ha
    rw [ha]
    refine ⟨.inr rfl, ⟨_, rfl, .pu trivial⟩, Shr.kp ?_ (mapO_kp f t M)⟩
    show T.le (T.n .e (some (.map (M.map (kD f t)))) .e : T C) _
    refine T.le_some (T.le_e _) rfl (T.le_e _)
end Go.Ev

namespace Go.Ev
open Go.Proofs
set_option maxRecDepth 100000
structure LkP (Ts : List (List Int)) (f t : Int) (n : Nat) (W E : List Nat) : Prop where
  h64 : Ts.length ≤ 64
  ok : Lks f t n Ts
  n9 : n ≤ 9
  wl : W.length = n
  w : ∀ p, p < n → W.getD p default = mkJ (fun x => decide (x.getD p 0 = 1)) Ts Ts.length
  el : E.length ≤ 1000
  e64 : ∀ e ∈ E, e < 2 ^ 64
  kn : ∀ w, w ≠ 0 → w < 2 ^ Ts.length → (E.any fun e => decide (w &&& (18446744073709551615 - e) = 0)) = knB f t (selT Ts w)
  wf : wfB .i64 f = true
  wt : wfB .i64 t = true
def MOk (Ts : List (List Int)) (f t : Int) (n : Nat) (M : List (Nat × Int)) : Prop := ∀ e ∈ M, e.1 < 2 ^ Ts.length ∧ e.1 ≠ 0 ∧ e.2 = lkN f t n (selT Ts e.1)
section
variable {Ts : List (List Int)} {f t : Int} {n : Nat} {W E : List Nat} (H : LkP Ts f t n W E)
include H
theorem LkP.lt64 {w : Nat} (h : w < 2 ^ Ts.length) : w < 2 ^ 64 := Nat.lt_of_lt_of_le h (Nat.pow_le_pow_right (by omega) H.h64)
theorem LkP.sel (w : Nat) : Lks f t n (selT Ts w) := fun x hx => H.ok x (mem_sel hx)
theorem LkP.yes {w p : Nat} (hp : p < n) : selT Ts (w &&& W.getD p default) = seenR (selT Ts w) p 1 := by
  rw [H.w p hp]; exact sel_seen1
theorem LkP.no {w p : Nat} (hp : p < n) : selT Ts (w &&& (18446744073709551615 - W.getD p default)) = seenR (selT Ts w) p 0 := by
  rw [H.w p hp]; exact sel_seen0 H.h64 fun x hx => (H.ok x hx).2.1
def bJ (R : List (List Int)) (f t : Int) (n j : Nat) : Int := (List.range j).foldl (stpN (lkN f t n) R) (n : Int)
omit H in
theorem bJ_succ (R : List (List Int)) (j : Nat) : bJ R f t n (j + 1) = stpN (lkN f t n) R (bJ R f t n j) j := by
  unfold bJ
  rw [List.range_succ, List.foldl_append]
  rfl
omit H in
theorem bJ_bd (R : List (List Int)) (hR : R ≠ []) (h9 : n ≤ 9) (j : Nat) : 0 ≤ bJ R f t n j ∧ bJ R f t n j ≤ 9 := by
  constructor
  · unfold bJ
    rw [stp_le]
    refine ⟨by omega, fun i _ _ => ?_⟩
    have := lk_nn (f := f) (t := t) (n := n) (R := seenR R i 0)
    omega
  · have := ((stp_le (g := lkN f t n) (R := R) (List.range j) (n : Int) (bJ R f t n j)).1 (Int.le_refl _)).1
    omega
theorem c_fewest (k : Nat) (IH : ∀ M, MOk Ts f t n M → ∀ w, w ≠ 0 → w < 2 ^ Ts.length → (selT Ts w).length ≤ k → ∃ M', MOk Ts f t n M' ∧ CallOk Try.prog p87.ix [.ag (lkD f t W E ++ [.mp .h]), .ag (w8 w)] (mapO f t M) (.o .h) none (.i .i64 (lkN f t n (selT Ts w))) (mapO f t M') (.o .h) none) (M : List (Nat × Int)) (hM : MOk Ts f t n M) (w : Nat) (h0 : w ≠ 0) (hw : w < 2 ^ Ts.length) (hk : (selT Ts w).length ≤ k + 1) :
    ∃ M', MOk Ts f t n M' ∧ CallOk Try.prog p98.ix [.ag (lkD f t W E ++ [.mp .h]), .ag (w8 w)] (mapO f t M) (.o .h) none (.i .i64 (lkN f t n (selT Ts w))) (mapO f t M') (.o .h) none := by
  have hR : selT Ts w ≠ [] := fun e => h0 ((sel_nil hw).1 e)
  have cK := c_isKnown f t W E w M (H.lt64 hw) H.e64 H.el
  rw [H.kn w h0 hw] at cK
  have e1 := rows_length w8 W
  have hwl := H.wl
  have h9 := H.n9
  obtain ⟨v, ob', ⟨M', hM', rfl, rfl⟩, C⟩ := CallOk.runE (Φ := fun v ob' => ∃ M', MOk Ts f t n M' ∧ v = D.i .i64 (lkN f t n (selT Ts w)) ∧ ob' = mapO f t M') (ob := mapO f t M) (nx := .o .h) (nx' := .o .h) (ds := [.ag (lkD f t W E ++ [.mp .h]), .ag (w8 w)]) fn97 (by simp) (Nat.le_refl _) (by
    conv => whnf
    repeat' first | ((first | with_reducible apply WB.tt | with_reducible apply WB.ff | refine Rn.seq ?_ | refine Rn.reg ?_ | refine Rn.drw ?_ | refine Rn.blk ?_ | refine Rn.skip ?_ | refine Rn.ret ?_ | refine Rn.exit ?_ | refine Rn.cond rfl ?_ | refine And.intro (InR.i64 (by omega) (by omega)) ?_ | refine And.intro (show _ ≠ (0 : Int) by omega) ?_ | refine WIx.intsN (by omega) ?_ | refine WIx.rowsN (by omega) ?_) <;> conv => whnf)
    refine WCall.oneM cK rfl (lkD_pu f t W E) (w8_pu w) (kD_pu f t M) (kD_pu f t M) trivial rfl rfl (show _ < _ by simp [Pos.nat]) rfl rfl ?_; conv => whnf
    repeat' first | ((first | with_reducible apply WB.tt | with_reducible apply WB.ff | refine Rn.seq ?_ | refine Rn.reg ?_ | refine Rn.drw ?_ | refine Rn.blk ?_ | refine Rn.skip ?_ | refine Rn.ret ?_ | refine Rn.exit ?_ | refine Rn.cond rfl ?_ | refine And.intro (InR.i64 (by omega) (by omega)) ?_ | refine And.intro (show _ ≠ (0 : Int) by omega) ?_ | refine WIx.intsN (by omega) ?_ | refine WIx.rowsN (by omega) ?_) <;> conv => whnf)
    cases hkn : knB f t (selT Ts w) with
    | true =>
      refine WB.tt ?_; conv => whnf
      repeat' first | ((first | with_reducible apply WB.tt | with_reducible apply WB.ff | refine Rn.seq ?_ | refine Rn.reg ?_ | refine Rn.drw ?_ | refine Rn.blk ?_ | refine Rn.skip ?_ | refine Rn.ret ?_ | refine Rn.exit ?_ | refine Rn.cond rfl ?_ | refine And.intro (InR.i64 (by omega) (by omega)) ?_ | refine And.intro (show _ ≠ (0 : Int) by omega) ?_ | refine WIx.intsN (by omega) ?_ | refine WIx.rowsN (by omega) ?_) <;> conv => whnf)
      have hl0 : lkN f t n (selT Ts w) = 0 := (lk_zero hR).2 hkn
      refine ⟨_, _, ⟨M, hM, rfl, rfl⟩, ⟨.inr rfl, ⟨_, rfl, ?_⟩, Shr.kp ?_ (mapO_kp f t M)⟩⟩
      · rw [hl0]; exact .pu trivial
      · show T.le (T.n .e (some (.map (M.map (kD f t)))) .e : T C) _
        refine T.le_some (T.le_e _) rfl (T.le_e _)
    | false =>
    refine WB.ff ?_; conv => whnf
    repeat' first | ((first | with_reducible apply WB.tt | with_reducible apply WB.ff | refine Rn.seq ?_ | refine Rn.reg ?_ | refine Rn.drw ?_ | refine Rn.blk ?_ | refine Rn.skip ?_ | refine Rn.ret ?_ | refine Rn.exit ?_ | refine Rn.cond rfl ?_ | refine And.intro (InR.i64 (by omega) (by omega)) ?_ | refine And.intro (show _ ≠ (0 : Int) by omega) ?_ | refine WIx.intsN (by omega) ?_ | refine WIx.rowsN (by omega) ?_) <;> conv => whnf)
    refine Rn.loop (fun (s : Nat × List (Nat × Int)) => ⟨(.n (.n (.n .e (some (.pt (.i .h) 0 0)) (.n (.n .e (some (.i .i64 (s.1 : Int))) .e) none .e)) none (.n (.n (.n .e (some (.lst 8 (rows w8 W))) .e) none .e) (some (.i .i64 (bJ (selT Ts w) f t n s.1))) .e)) none (.n .e (some (.pt (.o .h) 0 0)) (.n (.n (.n .e (some (.i .i64 (n : Int))) .e) none .e) none .e))), (.n (.n .e (some (lkC f t W E)) .e) (some (.map (s.2.map (kD f t)))) (.n .e (some (seC8 w)) .e)), .o (.o .h), none⟩) (fun s => s.1 ≤ n ∧ MOk Ts f t n s.2) (fun s => n - s.1) (0, M) ?_ ?_ ?_
    · refine X.le.mk ?_ ?_ (Nat.le_refl _) rfl rfl
      · show T.le ((.n (.n (.n .e (some (.pt (.i .h) 0 0)) (.n (.n .e (some (.i .i64 0)) .e) none .e)) none (.n (.n (.n .e (some (.lst 8 (rows w8 W))) .e) none .e) (some (.i .i64 (n : Int))) .e)) none (.n .e (some (.pt (.o .h) 0 0)) (.n (.n (.n .e (some (.i .i64 (n : Int))) .e) none .e) none .e))) : T D) _
        rw [← hwl, ← e1]
        (repeat' first | exact T.le_e _ | refine T.le_some ?_ rfl ?_ | refine T.le_none ?_ ?_)
      · show T.le ((.n (.n .e (some (lkC f t W E)) .e) (some (.map (M.map (kD f t)))) (.n .e (some (seC8 w)) .e)) : T C) _
        (repeat' first | exact T.le_e _ | refine T.le_some ?_ rfl ?_ | refine T.le_none ?_ ?_ | refine T.le_ee ?_ ?_)
    · exact ⟨Nat.zero_le _, hM⟩
    rintro ⟨j, M1⟩ ⟨hj, hM1⟩
    have hj : j ≤ n := hj
    have hM1 : MOk Ts f t n M1 := hM1
    have hbs := bJ_succ (f := f) (t := t) (n := n) (selT Ts w) j
    obtain ⟨hb0, hb9⟩ := bJ_bd (f := f) (t := t) (selT Ts w) hR h9 j
    have hend : j = n → bJ (selT Ts w) f t n j = lkN f t n (selT Ts w) := fun e => by subst e; exact lk_from hR (H.sel w) (by omega) hkn
    have hst : ∀ (M2 : List (Nat × Int)) (b : Int) (sl : T D) (ob : T C) (nx : Pos), b = bJ (selT Ts w) f t n (j + 1) → T.le ((.n (.n (.n .e (some (.pt (.i .h) 0 0)) (.n (.n .e (some (.i .i64 ((j + 1 : Nat) : Int))) .e) none .e)) none (.n (.n (.n .e (some (.lst 8 (rows w8 W))) .e) none .e) (some (.i .i64 b)) .e)) none (.n .e (some (.pt (.o .h) 0 0)) (.n (.n (.n .e (some (.i .i64 (n : Int))) .e) none .e) none .e))) : T D) sl → T.le ((.n (.n .e (some (lkC f t W E)) .e) (some (.map (M2.map (kD f t)))) (.n .e (some (seC8 w)) .e)) : T C) ob → Shr ⟨sl, ob, nx, none⟩ ⟨(.n (.n (.n .e (some (.pt (.i .h) 0 0)) (.n (.n .e (some (.i .i64 ((j + 1 : Nat) : Int))) .e) none .e)) none (.n (.n (.n .e (some (.lst 8 (rows w8 W))) .e) none .e) (some (.i .i64 (bJ (selT Ts w) f t n (j + 1)))) .e)) none (.n .e (some (.pt (.o .h) 0 0)) (.n (.n (.n .e (some (.i .i64 (n : Int))) .e) none .e) none .e))), (.n (.n .e (some (lkC f t W E)) .e) (some (.map (M2.map (kD f t)))) (.n .e (some (seC8 w)) .e)), .o (.o .h), none⟩ := fun M2 b sl ob nx hb hs ho => by
      subst hb
      refine Shr.kp2 hs ?_ ho ?_
      · show TAll (fun _ d => Kp 4 d) _
        repeat' first | exact TAll.e | refine TAll.some ?_ ?_ ?_ | refine TAll.none ?_ ?_
        all_goals simp [Kp, Pu, pu_w8, Pos.nat]
      · show TAll (fun id c => id.nat < 4 ∧ KpC 4 c) _
        repeat' first | exact TAll.e | refine TAll.some ?_ ?_ ?_ | refine TAll.none ?_ ?_
        all_goals first
          | exact ⟨by simp [Pos.nat], lkC_kp f t W E 4 (by omega)⟩
          | exact ⟨by simp [Pos.nat], seC8_kp w 4⟩
          | exact ⟨by simp [Pos.nat], mapC_kp⟩
    conv => whnf
    repeat' first | ((first | with_reducible apply WB.tt | with_reducible apply WB.ff | refine Rn.seq ?_ | refine Rn.reg ?_ | refine Rn.drw ?_ | refine Rn.blk ?_ | refine Rn.skip ?_ | refine Rn.ret ?_ | refine Rn.exit ?_ | refine Rn.cond rfl ?_ | refine And.intro (InR.i64 (by omega) (by omega)) ?_ | refine And.intro (show _ ≠ (0 : Int) by omega) ?_ | refine WIx.intsN (by omega) ?_ | refine WIx.rowsN (by omega) ?_) <;> conv => whnf)
    refine WB.dec (fun h => ?_) (fun h => ?_) <;> conv => whnf
    · have hlt : j < n := by omega
      have hv64 : W.getD j default < 2 ^ 64 := by rw [H.w j hlt]; exact H.lt64 (mkJ_lt _ _ _)
      have hY := H.yes (w := w) hlt
      have hN := H.no (w := w) hlt
      have hYl : w &&& W.getD j default < 2 ^ Ts.length := and_lt hw
      have hNl : w &&& (18446744073709551615 - W.getD j default) < 2 ^ Ts.length := and_lt hw
      have cA := c_and w (W.getD j default) (H.lt64 hw) hv64
      have cW := c_wo w (W.getD j default) (H.lt64 hw) hv64
      obtain ⟨y1, hy1⟩ : ∃ y, y = w &&& W.getD j default := ⟨_, rfl⟩
      obtain ⟨y0, hy0⟩ : ∃ y, y = w &&& (18446744073709551615 - W.getD j default) := ⟨_, rfl⟩
      rw [← hy1] at cA hY hYl
      rw [← hy0] at cW hN hNl
      have hspl : splB (selT Ts w) j = true ↔ y0 ≠ 0 ∧ y1 ≠ 0 := by
        rw [splB_iff, ← hY, ← hN]
        simp only [ne_eq, sel_nil hYl, sel_nil hNl]
      rw [stpN] at hbs
      have hjl : j < W.length := by omega
      repeat' first | ((first | with_reducible apply WB.tt | with_reducible apply WB.ff | refine Rn.seq ?_ | refine Rn.reg ?_ | refine Rn.drw ?_ | refine Rn.blk ?_ | refine Rn.skip ?_ | refine Rn.ret ?_ | refine Rn.exit ?_ | refine Rn.cond rfl ?_ | refine And.intro (InR.i64 (by omega) (by omega)) ?_ | refine And.intro (show _ ≠ (0 : Int) by omega) ?_ | refine WIx.intsN (by omega) ?_ | refine WIx.rowsN (by omega) ?_ | refine WCall.pure (cA) ?_ | refine WCall.pure (cW) ?_) <;> conv => whnf)
      refine WSt.eqr8 (w := y1) (v := 0) rfl rfl (H.lt64 hYl) (by omega) ?_; conv => whnf
      by_cases h1 : y1 = 0
      · have hs : splB (selT Ts w) j = false := by
          cases hc : splB (selT Ts w) j with
          | false => rfl
          | true => exact absurd h1 (hspl.1 hc).2
        rw [hs, cond_false] at hbs
        repeat' first | ((first | with_reducible apply WB.tt | with_reducible apply WB.ff | refine Rn.seq ?_ | refine Rn.reg ?_ | refine Rn.drw ?_ | refine Rn.blk ?_ | refine Rn.skip ?_ | refine Rn.ret ?_ | refine Rn.exit ?_ | refine Rn.cond rfl ?_ | refine And.intro (InR.i64 (by omega) (by omega)) ?_ | refine And.intro (show _ ≠ (0 : Int) by omega) ?_ | refine WIx.intsN (by omega) ?_ | refine WIx.rowsN (by omega) ?_ | with_reducible refine WB.decT (by first | with_reducible rfl | assumption | omega | exact ⟨rfl, rfl⟩) ?_ | with_reducible refine WB.decF (by first | assumption | omega) ?_ | with_reducible refine WB.ndT (by first | with_reducible rfl | assumption | omega | exact ⟨rfl, rfl⟩) ?_ | with_reducible refine WB.ndF (by first | assumption | omega) ?_ | with_reducible refine WB.nt ?_ | with_reducible refine WB.nf ?_ | with_reducible refine WB.dec (fun h => ?_) (fun h => ?_) | with_reducible refine WB.ndec (fun h => ?_) (fun h => ?_) | refine WB.mk (fun h => ?_) (fun h => ?_)) <;> conv => whnf)
        refine Again.to (j + 1, M1) (show n - (j + 1) < n - j by omega) ⟨show j + 1 ≤ n by omega, hM1⟩ (Nat.le_refl _) (hst M1 _ _ _ _ hbs.symm ?_ ?_)
        · (repeat' first | exact T.le_e _ | refine T.le_some ?_ rfl ?_ | refine T.le_none ?_ ?_)
        · (repeat' first | exact T.le_e _ | refine T.le_some ?_ rfl ?_ | refine T.le_none ?_ ?_ | refine T.le_ee ?_ ?_)
      repeat' first | ((first | with_reducible apply WB.tt | with_reducible apply WB.ff | refine Rn.seq ?_ | refine Rn.reg ?_ | refine Rn.drw ?_ | refine Rn.blk ?_ | refine Rn.skip ?_ | refine Rn.ret ?_ | refine Rn.exit ?_ | refine Rn.cond rfl ?_ | refine And.intro (InR.i64 (by omega) (by omega)) ?_ | refine And.intro (show _ ≠ (0 : Int) by omega) ?_ | refine WIx.intsN (by omega) ?_ | refine WIx.rowsN (by omega) ?_ | with_reducible refine WB.decT (by first | with_reducible rfl | assumption | omega | exact ⟨rfl, rfl⟩) ?_ | with_reducible refine WB.decF (by first | assumption | omega) ?_ | with_reducible refine WB.ndT (by first | with_reducible rfl | assumption | omega | exact ⟨rfl, rfl⟩) ?_ | with_reducible refine WB.ndF (by first | assumption | omega) ?_ | with_reducible refine WB.nt ?_ | with_reducible refine WB.nf ?_ | with_reducible refine WB.dec (fun h => ?_) (fun h => ?_) | with_reducible refine WB.ndec (fun h => ?_) (fun h => ?_) | refine WB.mk (fun h => ?_) (fun h => ?_)) <;> conv => whnf)
      refine WSt.eqr8 (w := y0) (v := 0) rfl rfl (H.lt64 hNl) (by omega) ?_; conv => whnf
      by_cases h00 : y0 = 0
      · have hs : splB (selT Ts w) j = false := by
          cases hc : splB (selT Ts w) j with
          | false => rfl
          | true => exact absurd h00 (hspl.1 hc).1
        rw [hs, cond_false] at hbs
        repeat' first | ((first | with_reducible apply WB.tt | with_reducible apply WB.ff | refine Rn.seq ?_ | refine Rn.reg ?_ | refine Rn.drw ?_ | refine Rn.blk ?_ | refine Rn.skip ?_ | refine Rn.ret ?_ | refine Rn.exit ?_ | refine Rn.cond rfl ?_ | refine And.intro (InR.i64 (by omega) (by omega)) ?_ | refine And.intro (show _ ≠ (0 : Int) by omega) ?_ | refine WIx.intsN (by omega) ?_ | refine WIx.rowsN (by omega) ?_ | with_reducible refine WB.decT (by first | with_reducible rfl | assumption | omega | exact ⟨rfl, rfl⟩) ?_ | with_reducible refine WB.decF (by first | assumption | omega) ?_ | with_reducible refine WB.ndT (by first | with_reducible rfl | assumption | omega | exact ⟨rfl, rfl⟩) ?_ | with_reducible refine WB.ndF (by first | assumption | omega) ?_ | with_reducible refine WB.nt ?_ | with_reducible refine WB.nf ?_ | with_reducible refine WB.dec (fun h => ?_) (fun h => ?_) | with_reducible refine WB.ndec (fun h => ?_) (fun h => ?_) | refine WB.mk (fun h => ?_) (fun h => ?_)) <;> conv => whnf)
        refine Again.to (j + 1, M1) (show n - (j + 1) < n - j by omega) ⟨show j + 1 ≤ n by omega, hM1⟩ (Nat.le_refl _) (hst M1 _ _ _ _ hbs.symm ?_ ?_)
        · (repeat' first | exact T.le_e _ | refine T.le_some ?_ rfl ?_ | refine T.le_none ?_ ?_)
        · (repeat' first | exact T.le_e _ | refine T.le_some ?_ rfl ?_ | refine T.le_none ?_ ?_ | refine T.le_ee ?_ ?_)
      have hs : splB (selT Ts w) j = true := hspl.2 ⟨h00, h1⟩
      obtain ⟨q0, q1⟩ := spl_len hs
      rw [hs, cond_true] at hbs
      obtain ⟨M2, hM2, C1⟩ := IH M1 hM1 y1 h1 hYl (by rw [hY]; omega)
      obtain ⟨M3, hM3, C0⟩ := IH M2 hM2 y0 h00 hNl (by rw [hN]; omega)
      have b1 := lk_nn (f := f) (t := t) (n := n) (R := selT Ts y1)
      have b0 := lk_nn (f := f) (t := t) (n := n) (R := selT Ts y0)
      have b1' := lk_100 (f := f) (t := t) (n := n) (R := selT Ts y1) (fun e => h1 ((sel_nil hYl).1 e))
      have b0' := lk_100 (f := f) (t := t) (n := n) (R := selT Ts y0) (fun e => h00 ((sel_nil hNl).1 e))
      rw [← hY, ← hN] at hbs
      generalize lkN f t n (selT Ts y1) = n1 at *
      generalize lkN f t n (selT Ts y0) = n0 at *
      have cX : PureF Try.prog p95.ix [.i .i64 n1, .lst 1 (ints [n0])] (.i .i64 (max n1 n0)) := c_maximum n1 [n0] (by simp)
      have cI : PureF Try.prog p84.ix [.i .i64 (bJ (selT Ts w) f t n j), .lst 1 (ints [1 + max n1 n0])] (.i .i64 (min (bJ (selT Ts w) f t n j) (1 + max n1 n0))) := c_minimum _ [1 + max n1 n0] (by simp)
      repeat' first | ((first | with_reducible apply WB.tt | with_reducible apply WB.ff | refine Rn.seq ?_ | refine Rn.reg ?_ | refine Rn.drw ?_ | refine Rn.blk ?_ | refine Rn.skip ?_ | refine Rn.ret ?_ | refine Rn.exit ?_ | refine Rn.cond rfl ?_ | refine And.intro (InR.i64 (by omega) (by omega)) ?_ | refine And.intro (show _ ≠ (0 : Int) by omega) ?_ | refine WIx.intsN (by omega) ?_ | refine WIx.rowsN (by omega) ?_ | with_reducible refine WB.decT (by first | with_reducible rfl | assumption | omega | exact ⟨rfl, rfl⟩) ?_ | with_reducible refine WB.decF (by first | assumption | omega) ?_ | with_reducible refine WB.ndT (by first | with_reducible rfl | assumption | omega | exact ⟨rfl, rfl⟩) ?_ | with_reducible refine WB.ndF (by first | assumption | omega) ?_ | with_reducible refine WB.nt ?_ | with_reducible refine WB.nf ?_ | with_reducible refine WB.dec (fun h => ?_) (fun h => ?_) | with_reducible refine WB.ndec (fun h => ?_) (fun h => ?_) | refine WB.mk (fun h => ?_) (fun h => ?_)) <;> conv => whnf)
      refine WCall.oneM C1 rfl (lkD_pu f t W E) (w8_pu y1) (kD_pu f t M1) (kD_pu f t M2) trivial rfl rfl (show _ < _ by simp [Pos.nat]) rfl rfl ?_; conv => whnf
      repeat' first | ((first | with_reducible apply WB.tt | with_reducible apply WB.ff | refine Rn.seq ?_ | refine Rn.reg ?_ | refine Rn.drw ?_ | refine Rn.blk ?_ | refine Rn.skip ?_ | refine Rn.ret ?_ | refine Rn.exit ?_ | refine Rn.cond rfl ?_ | refine And.intro (InR.i64 (by omega) (by omega)) ?_ | refine And.intro (show _ ≠ (0 : Int) by omega) ?_ | refine WIx.intsN (by omega) ?_ | refine WIx.rowsN (by omega) ?_ | with_reducible refine WB.decT (by first | with_reducible rfl | assumption | omega | exact ⟨rfl, rfl⟩) ?_ | with_reducible refine WB.decF (by first | assumption | omega) ?_ | with_reducible refine WB.ndT (by first | with_reducible rfl | assumption | omega | exact ⟨rfl, rfl⟩) ?_ | with_reducible refine WB.ndF (by first | assumption | omega) ?_ | with_reducible refine WB.nt ?_ | with_reducible refine WB.nf ?_ | with_reducible refine WB.dec (fun h => ?_) (fun h => ?_) | with_reducible refine WB.ndec (fun h => ?_) (fun h => ?_) | refine WB.mk (fun h => ?_) (fun h => ?_)) <;> conv => whnf)
      refine WCall.oneM C0 rfl (lkD_pu f t W E) (w8_pu y0) (kD_pu f t M2) (kD_pu f t M3) trivial rfl rfl (show _ < _ by simp [Pos.nat]) rfl rfl ?_; conv => whnf
      repeat' first | ((first | with_reducible apply WB.tt | with_reducible apply WB.ff | refine Rn.seq ?_ | refine Rn.reg ?_ | refine Rn.drw ?_ | refine Rn.blk ?_ | refine Rn.skip ?_ | refine Rn.ret ?_ | refine Rn.exit ?_ | refine Rn.cond rfl ?_ | refine And.intro (InR.i64 (by omega) (by omega)) ?_ | refine And.intro (show _ ≠ (0 : Int) by omega) ?_ | refine WIx.intsN (by omega) ?_ | refine WIx.rowsN (by omega) ?_ | with_reducible refine WB.decT (by first | with_reducible rfl | assumption | omega | exact ⟨rfl, rfl⟩) ?_ | with_reducible refine WB.decF (by first | assumption | omega) ?_ | with_reducible refine WB.ndT (by first | with_reducible rfl | assumption | omega | exact ⟨rfl, rfl⟩) ?_ | with_reducible refine WB.ndF (by first | assumption | omega) ?_ | with_reducible refine WB.nt ?_ | with_reducible refine WB.nf ?_ | with_reducible refine WB.dec (fun h => ?_) (fun h => ?_) | with_reducible refine WB.ndec (fun h => ?_) (fun h => ?_) | refine WB.mk (fun h => ?_) (fun h => ?_)) <;> conv => whnf)
      refine WCall.mm cX rfl rfl ?_; conv => whnf
      repeat' first | ((first | with_reducible apply WB.tt | with_reducible apply WB.ff | refine Rn.seq ?_ | refine Rn.reg ?_ | refine Rn.drw ?_ | refine Rn.blk ?_ | refine Rn.skip ?_ | refine Rn.ret ?_ | refine Rn.exit ?_ | refine Rn.cond rfl ?_ | refine And.intro (InR.i64 (by omega) (by omega)) ?_ | refine And.intro (show _ ≠ (0 : Int) by omega) ?_ | refine WIx.intsN (by omega) ?_ | refine WIx.rowsN (by omega) ?_ | with_reducible refine WB.decT (by first | with_reducible rfl | assumption | omega | exact ⟨rfl, rfl⟩) ?_ | with_reducible refine WB.decF (by first | assumption | omega) ?_ | with_reducible refine WB.ndT (by first | with_reducible rfl | assumption | omega | exact ⟨rfl, rfl⟩) ?_ | with_reducible refine WB.ndF (by first | assumption | omega) ?_ | with_reducible refine WB.nt ?_ | with_reducible refine WB.nf ?_ | with_reducible refine WB.dec (fun h => ?_) (fun h => ?_) | with_reducible refine WB.ndec (fun h => ?_) (fun h => ?_) | refine WB.mk (fun h => ?_) (fun h => ?_)) <;> conv => whnf)
      refine WCall.mm cI rfl rfl ?_; conv => whnf
      repeat' first | ((first | with_reducible apply WB.tt | with_reducible apply WB.ff | refine Rn.seq ?_ | refine Rn.reg ?_ | refine Rn.drw ?_ | refine Rn.blk ?_ | refine Rn.skip ?_ | refine Rn.ret ?_ | refine Rn.exit ?_ | refine Rn.cond rfl ?_ | refine And.intro (InR.i64 (by omega) (by omega)) ?_ | refine And.intro (show _ ≠ (0 : Int) by omega) ?_ | refine WIx.intsN (by omega) ?_ | refine WIx.rowsN (by omega) ?_ | with_reducible refine WB.decT (by first | with_reducible rfl | assumption | omega | exact ⟨rfl, rfl⟩) ?_ | with_reducible refine WB.decF (by first | assumption | omega) ?_ | with_reducible refine WB.ndT (by first | with_reducible rfl | assumption | omega | exact ⟨rfl, rfl⟩) ?_ | with_reducible refine WB.ndF (by first | assumption | omega) ?_ | with_reducible refine WB.nt ?_ | with_reducible refine WB.nf ?_ | with_reducible refine WB.dec (fun h => ?_) (fun h => ?_) | with_reducible refine WB.ndec (fun h => ?_) (fun h => ?_) | refine WB.mk (fun h => ?_) (fun h => ?_)) <;> conv => whnf)
      refine Again.to (j + 1, M3) (show n - (j + 1) < n - j by omega) ⟨show j + 1 ≤ n by omega, hM3⟩ (Nat.le_refl _) (hst M3 (min (bJ (selT Ts w) f t n j) (1 + max n1 n0)) _ _ _ (by rw [hbs]; congr 1; omega) ?_ ?_)
      · (repeat' first | exact T.le_e _ | refine T.le_some ?_ rfl ?_ | refine T.le_none ?_ ?_)
      · (repeat' first | exact T.le_e _ | refine T.le_some ?_ rfl ?_ | refine T.le_none ?_ ?_ | refine T.le_ee ?_ ?_)
    · have he := hend (by omega)
      repeat' first | ((first | with_reducible apply WB.tt | with_reducible apply WB.ff | refine Rn.seq ?_ | refine Rn.reg ?_ | refine Rn.drw ?_ | refine Rn.blk ?_ | refine Rn.skip ?_ | refine Rn.ret ?_ | refine Rn.exit ?_ | refine Rn.cond rfl ?_ | refine And.intro (InR.i64 (by omega) (by omega)) ?_ | refine And.intro (show _ ≠ (0 : Int) by omega) ?_ | refine WIx.intsN (by omega) ?_ | refine WIx.rowsN (by omega) ?_) <;> conv => whnf)
      refine ⟨_, _, ⟨M1, hM1, rfl, rfl⟩, ⟨.inr rfl, ⟨_, rfl, ?_⟩, Shr.kp ?_ (mapO_kp f t M1)⟩⟩
      · rw [← he]; exact .pu trivial
      · show T.le (T.n .e (some (.map (M1.map (kD f t)))) .e : T C) _
        refine T.le_some (T.le_e _) rfl (T.le_e _))
  exact ⟨M', hM', C⟩
theorem c_needed : ∀ (k : Nat) (M : List (Nat × Int)), MOk Ts f t n M → ∀ w, w ≠ 0 → w < 2 ^ Ts.length → (selT Ts w).length ≤ k → ∃ M', MOk Ts f t n M' ∧ CallOk Try.prog p87.ix [.ag (lkD f t W E ++ [.mp .h]), .ag (w8 w)] (mapO f t M) (.o .h) none (.i .i64 (lkN f t n (selT Ts w))) (mapO f t M') (.o .h) none := by
  intro k
  induction k with
  | zero =>
    intro M hM w h0 hw hk
    exact absurd ((sel_nil hw).1 (List.length_eq_zero_iff.1 (Nat.le_zero.1 hk))) h0
  | succ k ih =>
    intro M hM w h0 hw hk
    have hw64 := H.lt64 hw
    have hM64 : ∀ M', MOk Ts f t n M' → ∀ e ∈ M', e.1 < 2 ^ 64 := fun M' h e he => H.lt64 (h e he).1
    obtain ⟨M1, hM1, C1⟩ := c_fewest H k ih M hM w h0 hw hk
    obtain ⟨v, ob', ⟨M', hM', rfl, rfl⟩, C⟩ := CallOk.runE (Φ := fun v ob' => ∃ M', MOk Ts f t n M' ∧ v = D.i .i64 (lkN f t n (selT Ts w)) ∧ ob' = mapO f t M') (ob := mapO f t M) (nx := .o .h) (nx' := .o .h) (ds := [.ag (lkD f t W E ++ [.mp .h]), .ag (w8 w)]) fn86 (by simp) (Nat.le_refl _) (by
      conv => whnf
      repeat' first | ((first | with_reducible apply WB.tt | with_reducible apply WB.ff | refine Rn.seq ?_ | refine Rn.reg ?_ | refine Rn.drw ?_ | refine Rn.blk ?_ | refine Rn.skip ?_ | refine Rn.ret ?_ | refine Rn.exit ?_ | refine Rn.cond rfl ?_ | refine And.intro (InR.i64 (by omega) (by omega)) ?_ | refine And.intro (show _ ≠ (0 : Int) by omega) ?_ | refine WIx.intsN (by omega) ?_ | refine WIx.rowsN (by omega) ?_ | with_reducible refine WB.decT (by first | with_reducible rfl | assumption | omega | exact ⟨rfl, rfl⟩) ?_ | with_reducible refine WB.decF (by first | assumption | omega) ?_ | with_reducible refine WB.ndT (by first | with_reducible rfl | assumption | omega | exact ⟨rfl, rfl⟩) ?_ | with_reducible refine WB.ndF (by first | assumption | omega) ?_ | with_reducible refine WB.nt ?_ | with_reducible refine WB.nf ?_ | with_reducible refine WB.dec (fun h => ?_) (fun h => ?_) | with_reducible refine WB.ndec (fun h => ?_) (fun h => ?_) | refine WB.mk (fun h => ?_) (fun h => ?_)) <;> conv => whnf)
      refine WSt.lkpM H.wf H.wt (w := w) (M := M) rfl rfl rfl hw64 (hM64 M hM) (fun v hv => ?_) ?_ <;> conv => whnf
      · have hv' := (hM _ hv).2.2
        repeat' first | ((first | with_reducible apply WB.tt | with_reducible apply WB.ff | refine Rn.seq ?_ | refine Rn.reg ?_ | refine Rn.drw ?_ | refine Rn.blk ?_ | refine Rn.skip ?_ | refine Rn.ret ?_ | refine Rn.exit ?_ | refine Rn.cond rfl ?_ | refine And.intro (InR.i64 (by omega) (by omega)) ?_ | refine And.intro (show _ ≠ (0 : Int) by omega) ?_ | refine WIx.intsN (by omega) ?_ | refine WIx.rowsN (by omega) ?_ | with_reducible refine WB.decT (by first | with_reducible rfl | assumption | omega | exact ⟨rfl, rfl⟩) ?_ | with_reducible refine WB.decF (by first | assumption | omega) ?_ | with_reducible refine WB.ndT (by first | with_reducible rfl | assumption | omega | exact ⟨rfl, rfl⟩) ?_ | with_reducible refine WB.ndF (by first | assumption | omega) ?_ | with_reducible refine WB.nt ?_ | with_reducible refine WB.nf ?_ | with_reducible refine WB.dec (fun h => ?_) (fun h => ?_) | with_reducible refine WB.ndec (fun h => ?_) (fun h => ?_) | refine WB.mk (fun h => ?_) (fun h => ?_)) <;> conv => whnf)
        refine ⟨_, _, ⟨M, hM, rfl, rfl⟩, ⟨.inr rfl, ⟨_, rfl, ?_⟩, Shr.kp ?_ (mapO_kp f t M)⟩⟩
        · rw [← hv']; exact .pu trivial
        · show T.le (T.n .e (some (.map (M.map (kD f t)))) .e : T C) _
          refine T.le_some (T.le_e _) rfl (T.le_e _)
      · repeat' first | ((first | with_reducible apply WB.tt | with_reducible apply WB.ff | refine Rn.seq ?_ | refine Rn.reg ?_ | refine Rn.drw ?_ | refine Rn.blk ?_ | refine Rn.skip ?_ | refine Rn.ret ?_ | refine Rn.exit ?_ | refine Rn.cond rfl ?_ | refine And.intro (InR.i64 (by omega) (by omega)) ?_ | refine And.intro (show _ ≠ (0 : Int) by omega) ?_ | refine WIx.intsN (by omega) ?_ | refine WIx.rowsN (by omega) ?_ | with_reducible refine WB.decT (by first | with_reducible rfl | assumption | omega | exact ⟨rfl, rfl⟩) ?_ | with_reducible refine WB.decF (by first | assumption | omega) ?_ | with_reducible refine WB.ndT (by first | with_reducible rfl | assumption | omega | exact ⟨rfl, rfl⟩) ?_ | with_reducible refine WB.ndF (by first | assumption | omega) ?_ | with_reducible refine WB.nt ?_ | with_reducible refine WB.nf ?_ | with_reducible refine WB.dec (fun h => ?_) (fun h => ?_) | with_reducible refine WB.ndec (fun h => ?_) (fun h => ?_) | refine WB.mk (fun h => ?_) (fun h => ?_)) <;> conv => whnf)
        refine WCall.oneM C1 rfl (lkD_pu f t W E) (w8_pu w) (kD_pu f t M) (kD_pu f t M1) trivial rfl rfl (show _ < _ by simp [Pos.nat]) rfl rfl ?_; conv => whnf
        repeat' first | ((first | with_reducible apply WB.tt | with_reducible apply WB.ff | refine Rn.seq ?_ | refine Rn.reg ?_ | refine Rn.drw ?_ | refine Rn.blk ?_ | refine Rn.skip ?_ | refine Rn.ret ?_ | refine Rn.exit ?_ | refine Rn.cond rfl ?_ | refine And.intro (InR.i64 (by omega) (by omega)) ?_ | refine And.intro (show _ ≠ (0 : Int) by omega) ?_ | refine WIx.intsN (by omega) ?_ | refine WIx.rowsN (by omega) ?_ | with_reducible refine WB.decT (by first | with_reducible rfl | assumption | omega | exact ⟨rfl, rfl⟩) ?_ | with_reducible refine WB.decF (by first | assumption | omega) ?_ | with_reducible refine WB.ndT (by first | with_reducible rfl | assumption | omega | exact ⟨rfl, rfl⟩) ?_ | with_reducible refine WB.ndF (by first | assumption | omega) ?_ | with_reducible refine WB.nt ?_ | with_reducible refine WB.nf ?_ | with_reducible refine WB.dec (fun h => ?_) (fun h => ?_) | with_reducible refine WB.ndec (fun h => ?_) (fun h => ?_) | refine WB.mk (fun h => ?_) (fun h => ?_)) <;> conv => whnf)
        refine WSt.mupM H.wf H.wt (w := w) (n := lkN f t n (selT Ts w)) (M := M1) rfl rfl rfl rfl hw64 (hM64 M1 hM1) (fun M2 hM2 => ?_); conv => whnf
        have hM2 : MOk Ts f t n M2 := fun e he => by
          rcases hM2 e he with rfl | he
          · exact ⟨hw, h0, rfl⟩
          · exact hM1 e he
        repeat' first | ((first | with_reducible apply WB.tt | with_reducible apply WB.ff | refine Rn.seq ?_ | refine Rn.reg ?_ | refine Rn.drw ?_ | refine Rn.blk ?_ | refine Rn.skip ?_ | refine Rn.ret ?_ | refine Rn.exit ?_ | refine Rn.cond rfl ?_ | refine And.intro (InR.i64 (by omega) (by omega)) ?_ | refine And.intro (show _ ≠ (0 : Int) by omega) ?_ | refine WIx.intsN (by omega) ?_ | refine WIx.rowsN (by omega) ?_ | with_reducible refine WB.decT (by first | with_reducible rfl | assumption | omega | exact ⟨rfl, rfl⟩) ?_ | with_reducible refine WB.decF (by first | assumption | omega) ?_ | with_reducible refine WB.ndT (by first | with_reducible rfl | assumption | omega | exact ⟨rfl, rfl⟩) ?_ | with_reducible refine WB.ndF (by first | assumption | omega) ?_ | with_reducible refine WB.nt ?_ | with_reducible refine WB.nf ?_ | with_reducible refine WB.dec (fun h => ?_) (fun h => ?_) | with_reducible refine WB.ndec (fun h => ?_) (fun h => ?_) | refine WB.mk (fun h => ?_) (fun h => ?_)) <;> conv => whnf)
        refine ⟨_, _, ⟨M2, hM2, rfl, rfl⟩, ⟨.inr rfl, ⟨_, rfl, .pu trivial⟩, Shr.kp ?_ (mapO_kp f t M2)⟩⟩
        show T.le (T.n .e (some (.map (M2.map (kD f t)))) .e : T C) _
        refine T.le_some (T.le_e _) rfl (T.le_e _))
    exact ⟨M', hM', C⟩
end
end Go.Ev
