import Derived.Test.YtpemagogcagipaaEvQD
set_option linter.all false
namespace Go.Ev
open Go.Proofs
set_option maxRecDepth 100000
def leftY {σ : Type} (Z : Yns σ) (many en : Nat) (L : List (List Int)) (s : σ) (A : List (Int × Nat)) (st : Nat) (v : D) (ob' : T C) : Prop := ∃ cur', st ≤ cur' ∧ v = .b (foldY Z L s).2 ∧ ob' = Z.ob many en (foldY Z L s).1 (some (.cells false (cI A) cur'))
theorem c_chY0 {σ : Type} {Z : Yns σ} {ok : σ → Prop} (H : YnsOk Z ok) (many en : Nat) (hm : many ≤ 1000) (A : List (Int × Nat)) (hA : A ≠ []) (hk : A.length = many) (next : Int) (st cur : Nat) (hst : ∀ p ∈ A, p.2 ≤ st) (hsc : st ≤ cur) (s : σ) (hok : ok s) :
    ∃ v ob', leftY Z many en [A.map Prod.fst] s A st v ob' ∧ CallOk Try.prog p109.ix (chY many en (.sl (.i (.i .h)) 0 A.length st 1) next) (Z.ob many en s (some (.cells false (cI A) cur))) (.o (.o (.o .h))) none v ob' (.o (.o (.o .h))) none := by
  refine CallOk.runE fn108 (by simp [chY]) (Nat.le_refl _) ?_; conv => whnf
  repeat' first | ((first | (with_reducible first | apply WB.tt | apply WB.ff) | apply Rn.seq | apply Rn.reg | apply Rn.drw | apply Rn.blk | apply Rn.skip | apply Rn.ret | apply Rn.exit | apply Rn.cond rfl | refine i64_ (by omega) (by omega) ?_ | refine ne0_ (by omega) ?_ | refine WIx.intsN (by omega) ?_ | refine WIx.rowsN (by omega) ?_) <;> conv => whnf)
  refine WB.dec (fun h => ?_) (fun h => ?_) <;> conv => whnf
  · repeat' first | ((first | (with_reducible first | apply WB.tt | apply WB.ff) | apply Rn.seq | apply Rn.reg | apply Rn.drw | apply Rn.blk | apply Rn.skip | apply Rn.ret | apply Rn.exit | apply Rn.cond rfl | refine i64_ (by omega) (by omega) ?_ | refine ne0_ (by omega) ?_ | refine WIx.intsN (by omega) ?_ | refine WIx.rowsN (by omega) ?_) <;> conv => whnf)
    cases A with
    | nil => exact absurd rfl hA
    | cons a A =>
      have hk' : A.length + 1 = many := hk
      refine WCall.one (c_CloneO a A _ st cur rfl hst (by simp; omega)) rfl (cI_pu _) (pu_ints _) rfl (by decide) (LgLe.e (T.set (.i (.i .h)) true .e)) rfl ?_; conv => whnf
      repeat' first | ((first | (with_reducible first | apply WB.tt | apply WB.ff) | apply Rn.seq | apply Rn.reg | apply Rn.drw | apply Rn.blk | apply Rn.skip | apply Rn.ret | apply Rn.exit | apply Rn.cond rfl | refine i64_ (by omega) (by omega) ?_ | refine ne0_ (by omega) ?_ | refine WIx.intsN (by omega) ?_ | refine WIx.rowsN (by omega) ?_) <;> conv => whnf)
      refine WRnd.fr (H.rnd s ((a :: A).map Prod.fst) hok (by simp; omega)) (by decide) ?_ (H.kp3 s) ⟨Kp.pu _ (pu_ints _), trivial⟩ beside3 (by decide) (LgLe.e L4) wr4 ?_
      · show T.le (tr3 _ _ _) _
        unfold tr3
        repeat' first | exact T.le_e _ | refine T.le_sameS ?_ ?_
      conv => whnf
      repeat' first | ((first | (with_reducible first | apply WB.tt | apply WB.ff) | apply Rn.seq | apply Rn.reg | apply Rn.drw | apply Rn.blk | apply Rn.skip | apply Rn.ret | apply Rn.exit | apply Rn.cond rfl | refine i64_ (by omega) (by omega) ?_ | refine ne0_ (by omega) ?_ | refine WIx.intsN (by omega) ?_ | refine WIx.rowsN (by omega) ?_) <;> conv => whnf)
      refine ⟨_, _, ⟨cur, hsc, rfl, rfl⟩, ⟨.inr rfl, ⟨_, rfl, ?_⟩, Shr.kp ?_ (H.kp8 _ _ _)⟩⟩
      · rw [foldY_one]
        exact .pu trivial
      · rw [foldY_one]
        exact T.le_refl _
  · exact absurd (by rw [hk]; rfl) h
end Go.Ev

namespace Go.Ev
open Go.Proofs
set_option maxRecDepth 100000
theorem shrY {sl sl' : T D} {x1 x2 x3 x4 x5 : Option C} {a b c d e f : T C} {A B' : List (Int × Nat)} {cur : Nat} {nx : Pos} (hs : T.le sl' sl) (ks : ∀ s d, sl'.get s = some d → Kp (Pos.o (.o (.o .h))).nat d) (kp : KpO (Pos.o (.o (.o .h))).nat (tr7 x1 x2 x3 x4 x5 (some (.cells false (cI A) cur)))) :
    Shr ⟨sl, .n (.n (.n a x4 b) x2 .e) x1 (.n (.n c x5 d) x3 (.n e (some (.cells false (cI (A ++ B')) cur)) f)), nx, none⟩ ⟨sl', tr7 x1 x2 x3 x4 x5 (some (.cells false (cI A) cur)), .o (.o (.o .h)), none⟩ := by
  have e1 : cI (A ++ B') = cI A ++ cI B' := by simp [cI, stC]
  refine ⟨fun s d h => ⟨d, hs s d h, Fz.kp d (ks s d h)⟩, fun id c' hc => ⟨(kp id c' hc).1, ?_⟩, rfl, rfl⟩
  have hk := (kp id c' hc).2
  cases id with
  | h => exact ⟨c', hc, ShC.kp hk⟩
  | o p => cases p with
    | h => exact ⟨c', hc, ShC.kp hk⟩
    | o q => cases q with
      | h => exact ⟨c', hc, ShC.kp hk⟩
      | o r => have hc : (T.e : T C).get r = some c' := hc; rw [T.get_e] at hc; cases hc
      | i r => have hc : (T.e : T C).get r = some c' := hc; rw [T.get_e] at hc; cases hc
    | i q => have hc : (T.e : T C).get q = some c' := hc; rw [T.get_e] at hc; cases hc
  | i p => cases p with
    | h => exact ⟨c', hc, ShC.kp hk⟩
    | o q => cases q with
      | h => exact ⟨c', hc, ShC.kp hk⟩
      | o r => have hc : (T.e : T C).get r = some c' := hc; rw [T.get_e] at hc; cases hc
      | i r => have hc : (T.e : T C).get r = some c' := hc; rw [T.get_e] at hc; cases hc
    | i q => cases q with
      | h =>
        have hc : some (C.cells false (cI A) cur) = some c' := hc
        cases hc
        exact ⟨_, rfl, by rw [e1]; exact ShC.pre _ _ _ (cI_pu A)⟩
      | o r => have hc : (T.e : T C).get r = some c' := hc; rw [T.get_e] at hc; cases hc
      | i r => have hc : (T.e : T C).get r = some c' := hc; rw [T.get_e] at hc; cases hc
def preY (en k next : Nat) (S : List Int) (n : Nat) : List (List Int) := (List.range' next n).flatMap fun i : Nat => setsE en k (i + 1) (S ++ [(i : Int)])
theorem preY_succ (en k next : Nat) (S : List Int) (n : Nat) : preY en k next S (n + 1) = preY en k next S n ++ setsE en k (next + n + 1) (S ++ [((next + n : Nat) : Int)]) := by
  unfold preY
  rw [List.range'_1_concat, List.flatMap_append]
  simp
theorem preY_all (en k next : Nat) (S : List Int) : setsE en (k + 1) next S = preY en k next S (en - next) := rfl
theorem preY_add (en k next : Nat) (S : List Int) (m n : Nat) : preY en k next S (m + n) = preY en k next S m ++ preY en k (next + m) S n := by
  unfold preY
  rw [← List.flatMap_append, List.range'_append_1]
theorem foldY_pre {σ : Type} {Z : Yns σ} {en k next : Nat} {S : List Int} {s s' : σ} {n : Nat} (h : foldY Z (preY en k next S n) s = (s', true)) : foldY Z (preY en k next S (n + 1)) s = foldY Z (setsE en k (next + n + 1) (S ++ [((next + n : Nat) : Int)])) s' := by
  rw [preY_succ, foldY_app, h]
theorem foldY_stop {σ : Type} {Z : Yns σ} {en k next : Nat} {S : List Int} {s s' : σ} {n : Nat} (hn : n ≤ en - next) (h : foldY Z (preY en k next S n) s = (s', false)) : foldY Z (setsE en (k + 1) next S) s = (s', false) := by
  obtain ⟨m, hm⟩ : ∃ m, en - next = n + m := ⟨en - next - n, by omega⟩
  rw [preY_all, hm, preY_add, foldY_app, h]
def slY (many en : Nat) (n st : Nat) (i : Nat) : T D := (.n (.n .e none (.n (.n .e (some (.i .i64 (i : Int))) .e) (some (.pt (.i (.o .h)) 0 0)) .e)) (some (.sl (.i (.i .h)) 0 n st 1)) (.n (.n .e (some (.pl [.i .i64 (en : Int)] 0)) .e) none .e))
theorem slY_kp (many en n st i : Nat) : ∀ s d, (slY many en n st i).get s = some d → Kp (Pos.o (.o (.o .h))).nat d := by
  show TAll (fun _ d => Kp _ d) (slY many en n st i)
  unfold slY
  repeat' first | exact TAll.e | refine TAll.some ?_ ?_ ?_ | refine TAll.none ?_ ?_
  all_goals simp [Kp, Pu, PuL, Pos.nat]
theorem c_chY {σ : Type} {Z : Yns σ} {ok : σ → Prop} (H : YnsOk Z ok) (many en : Nat) (hm : many ≤ 1000) (he : en ≤ 1000) : ∀ (k : Nat) (A : List (Int × Nat)) (next st cur : Nat) (s : σ), A ≠ [] → A.length + k = many → (∀ p ∈ A, p.2 ≤ st) → st ≤ cur → next ≤ 1001 → ok s →
    ∃ v ob', leftY Z many en (setsE en k next (A.map Prod.fst)) s A st v ob' ∧ CallOk Try.prog p109.ix (chY many en (.sl (.i (.i .h)) 0 A.length st 1) (next : Int)) (Z.ob many en s (some (.cells false (cI A) cur))) (.o (.o (.o .h))) none v ob' (.o (.o (.o .h))) none
  | 0, A, next, st, cur, s, hA, hk, hst, hsc, _, hok => c_chY0 H many en hm A hA (by omega) (next : Int) st cur hst hsc s hok
  | k + 1, A, next, st, cur, s, hA, hk, hst, hsc, hnx, hok => by
    have ih := c_chY H many en hm he k
    refine CallOk.runE fn108 (by simp [chY]) (Nat.le_refl _) ?_; conv => whnf
    repeat' first | ((first | (with_reducible first | apply WB.tt | apply WB.ff) | apply Rn.seq | apply Rn.reg | apply Rn.drw | apply Rn.blk | apply Rn.skip | apply Rn.ret | apply Rn.exit | apply Rn.cond rfl | refine i64_ (by omega) (by omega) ?_ | refine ne0_ (by omega) ?_ | refine WIx.intsN (by omega) ?_ | refine WIx.rowsN (by omega) ?_) <;> conv => whnf)
    refine WB.dec (fun h => ?_) (fun h => ?_) <;> conv => whnf
    · exfalso
      have h : (A.length : Int) = (many : Int) := h
      omega
    repeat' first | ((first | (with_reducible first | apply WB.tt | apply WB.ff) | apply Rn.seq | apply Rn.reg | apply Rn.drw | apply Rn.blk | apply Rn.skip | apply Rn.ret | apply Rn.exit | apply Rn.cond rfl | refine i64_ (by omega) (by omega) ?_ | refine ne0_ (by omega) ?_ | refine WIx.intsN (by omega) ?_ | refine WIx.rowsN (by omega) ?_) <;> conv => whnf)
    refine Rn.loop (fun t : Nat × σ × Nat => ⟨slY many en A.length st t.1, Z.ob many en t.2.1 (some (.cells false (cI A) t.2.2)), .o (.o (.o .h)), none⟩) (fun t => next ≤ t.1 ∧ t.1 ≤ max next en ∧ st ≤ t.2.2 ∧ foldY Z (preY en k next (A.map Prod.fst) (t.1 - next)) s = (t.2.1, true)) (fun t => en - t.1) (next, s, cur) ?_ ?_ ?_
    · refine X.le.mk ?_ (T.le_refl _) (Nat.le_refl _) rfl rfl
      unfold slY
      repeat' first | exact T.le_e _ | refine T.le_some ?_ rfl ?_ | refine T.le_none ?_ ?_
    · refine ⟨Nat.le_refl _, by show next ≤ max next en; omega, hsc, ?_⟩
      show foldY Z (preY en k next _ (next - next)) s = _
      rw [Nat.sub_self]; rfl
    rintro ⟨i, s', cur'⟩ ⟨h1, h2, h3, h4⟩
    have h1 : next ≤ i := h1
    have h2 : i ≤ max next en := h2
    have h3 : st ≤ cur' := h3
    have h4 : foldY Z (preY en k next (A.map Prod.fst) (i - next)) s = (s', true) := h4
    have hok' : ok s' := by have := foldY_ok H _ s hok (by rw [h4]); rw [h4] at this; exact this
    conv => whnf
    repeat' first | ((first | (with_reducible first | apply WB.tt | apply WB.ff) | apply Rn.seq | apply Rn.reg | apply Rn.drw | apply Rn.blk | apply Rn.skip | apply Rn.ret | apply Rn.exit | apply Rn.cond rfl | refine i64_ (by omega) (by omega) ?_ | refine ne0_ (by omega) ?_ | refine WIx.intsN (by omega) ?_ | refine WIx.rowsN (by omega) ?_) <;> conv => whnf)
    refine WB.dec (fun h => ?_) (fun h => ?_) <;> conv => whnf
    · have hlt : i < en := by have h : (i : Int) < (en : Int) := h; omega
      obtain ⟨v, ob', ⟨cur2, h5, rfl, rfl⟩, C⟩ := ih (A ++ [((i : Int), cur')]) (i + 1) cur' (cur' + 1) s' (by simp) (by simp; omega) (fun p hp => by
        rcases List.mem_append.1 hp with hp | hp
        · exact Nat.le_trans (hst p hp) h3
        · rw [List.mem_singleton.1 hp]; exact Nat.le_refl _) (by omega) (by omega) hok'
      have hnext := foldY_pre h4
      rw [show next + (i - next) = i from by omega] at hnext
      have hAm : (A ++ [((i : Int), cur')]).map Prod.fst = A.map Prod.fst ++ [(i : Int)] := by simp
      have hAl : (A ++ [((i : Int), cur')]).length = A.length + 1 := by simp
      rw [hAm] at C
      rw [hAl] at C
      rw [← hnext] at C
      rw [show ((i + 1 : Nat) : Int) = (i : Int) + 1 from by omega] at C
      cases hgo : (foldY Z (preY en k next (A.map Prod.fst) (i - next + 1)) s).2 with
      | true =>
        rw [hgo] at C
        repeat' first | ((first | (with_reducible first | apply WB.tt | apply WB.ff) | apply Rn.seq | apply Rn.reg | apply Rn.drw | apply Rn.blk | apply Rn.skip | apply Rn.ret | apply Rn.exit | apply Rn.cond rfl | refine i64_ (by omega) (by omega) ?_ | refine ne0_ (by omega) ?_ | refine WIx.intsN (by omega) ?_ | refine WIx.rowsN (by omega) ?_) <;> conv => whnf)
        refine WSt.app_stL (r := [.i .i64 (i : Int)]) (l := A.map fun p => (D.i .i64 p.1, p.2)) (ob2 := .n (.n (.n (.n .e (some (.cells false [.o (.i .i64 (i : Int)) 0] 1)) .e) (some ylY) .e) (Z.o2 s') .e) (Z.o1 s') (.n (.n .e (some (clY many en)) .e) (Z.o3 s') (.n .e (some (.cells false (cI (A ++ [((i : Int), cur')])) (cur' + 1))) .e))) rfl rfl rfl rfl rfl rfl rfl (fun p hp => by
          obtain ⟨q, hq, rfl⟩ := List.mem_map.1 hp
          exact hst q hq) (by simp) rfl (by omega) (by rw [cI_snoc]; rfl) ?_; conv => whnf
        repeat' first | ((first | (with_reducible first | apply WB.tt | apply WB.ff) | apply Rn.seq | apply Rn.reg | apply Rn.drw | apply Rn.blk | apply Rn.skip | apply Rn.ret | apply Rn.exit | apply Rn.cond rfl | refine i64_ (by omega) (by omega) ?_ | refine ne0_ (by omega) ?_ | refine WIx.intsN (by omega) ?_ | refine WIx.rowsN (by omega) ?_) <;> conv => whnf)
        refine WCall.fr C ?_ (H.kp8 _ _ _) ?_ beside7 (by decide) (LgLe.e L8) wr8 ?_
        · show T.le (tr7 _ _ _ _ _ _) _
          unfold tr7
          repeat' first | exact T.le_e _ | exact T.le_refl _ | refine T.le_sameS ?_ ?_
        · simp [KpL, Kp, Pu, PuL, Pos.nat, chY]
        conv => whnf
        repeat' first | ((first | (with_reducible first | apply WB.tt | apply WB.ff) | apply Rn.seq | apply Rn.reg | apply Rn.drw | apply Rn.blk | apply Rn.skip | apply Rn.ret | apply Rn.exit | apply Rn.cond rfl | refine i64_ (by omega) (by omega) ?_ | refine ne0_ (by omega) ?_ | refine WIx.intsN (by omega) ?_ | refine WIx.rowsN (by omega) ?_) <;> conv => whnf)
        refine WB.mk (fun e => by cases e) (fun _ => ?_); conv => whnf
        repeat' first | ((first | (with_reducible first | apply WB.tt | apply WB.ff) | apply Rn.seq | apply Rn.reg | apply Rn.drw | apply Rn.blk | apply Rn.skip | apply Rn.ret | apply Rn.exit | apply Rn.cond rfl | refine i64_ (by omega) (by omega) ?_ | refine ne0_ (by omega) ?_ | refine WIx.intsN (by omega) ?_ | refine WIx.rowsN (by omega) ?_) <;> conv => whnf)
        refine Again.to (i + 1, (foldY Z (preY en k next (A.map Prod.fst) (i - next + 1)) s).1, cur2) (show en - (i + 1) < en - i by omega) ⟨by show next ≤ i + 1; omega, by show i + 1 ≤ max next en; omega, by show st ≤ cur2; omega, ?_⟩ (Nat.le_refl _) (shrY ?_ (slY_kp many en _ _ _) (H.kp8 _ _ _))
        · show foldY Z (preY en k next (A.map Prod.fst) (i + 1 - next)) s = _
          rw [show i + 1 - next = i - next + 1 from by omega]
          exact Prod.ext rfl hgo
        · show T.le (slY many en A.length st (i + 1)) _
          unfold slY
          simp only [Int.natCast_add, Int.natCast_one]
          repeat' first | exact T.le_e _ | refine T.le_some ?_ rfl ?_ | refine T.le_none ?_ ?_
      | false =>
        rw [hgo] at C
        have hstop := foldY_stop (n := i - next + 1) (by omega) (Prod.ext (rfl : (foldY Z (preY en k next (A.map Prod.fst) (i - next + 1)) s).1 = _) hgo)
        repeat' first | ((first | (with_reducible first | apply WB.tt | apply WB.ff) | apply Rn.seq | apply Rn.reg | apply Rn.drw | apply Rn.blk | apply Rn.skip | apply Rn.ret | apply Rn.exit | apply Rn.cond rfl | refine i64_ (by omega) (by omega) ?_ | refine ne0_ (by omega) ?_ | refine WIx.intsN (by omega) ?_ | refine WIx.rowsN (by omega) ?_) <;> conv => whnf)
        refine WSt.app_stL (r := [.i .i64 (i : Int)]) (l := A.map fun p => (D.i .i64 p.1, p.2)) (ob2 := .n (.n (.n (.n .e (some (.cells false [.o (.i .i64 (i : Int)) 0] 1)) .e) (some ylY) .e) (Z.o2 s') .e) (Z.o1 s') (.n (.n .e (some (clY many en)) .e) (Z.o3 s') (.n .e (some (.cells false (cI (A ++ [((i : Int), cur')])) (cur' + 1))) .e))) rfl rfl rfl rfl rfl rfl rfl (fun p hp => by
          obtain ⟨q, hq, rfl⟩ := List.mem_map.1 hp
          exact hst q hq) (by simp) rfl (by omega) (by rw [cI_snoc]; rfl) ?_; conv => whnf
        repeat' first | ((first | (with_reducible first | apply WB.tt | apply WB.ff) | apply Rn.seq | apply Rn.reg | apply Rn.drw | apply Rn.blk | apply Rn.skip | apply Rn.ret | apply Rn.exit | apply Rn.cond rfl | refine i64_ (by omega) (by omega) ?_ | refine ne0_ (by omega) ?_ | refine WIx.intsN (by omega) ?_ | refine WIx.rowsN (by omega) ?_) <;> conv => whnf)
        refine WCall.fr C ?_ (H.kp8 _ _ _) ?_ beside7 (by decide) (LgLe.e L8) wr8 ?_
        · show T.le (tr7 _ _ _ _ _ _) _
          unfold tr7
          repeat' first | exact T.le_e _ | exact T.le_refl _ | refine T.le_sameS ?_ ?_
        · simp [KpL, Kp, Pu, PuL, Pos.nat, chY]
        conv => whnf
        repeat' first | ((first | (with_reducible first | apply WB.tt | apply WB.ff) | apply Rn.seq | apply Rn.reg | apply Rn.drw | apply Rn.blk | apply Rn.skip | apply Rn.ret | apply Rn.exit | apply Rn.cond rfl | refine i64_ (by omega) (by omega) ?_ | refine ne0_ (by omega) ?_ | refine WIx.intsN (by omega) ?_ | refine WIx.rowsN (by omega) ?_) <;> conv => whnf)
        refine WB.mk (fun _ => ?_) (fun e => by cases e); conv => whnf
        repeat' first | ((first | (with_reducible first | apply WB.tt | apply WB.ff) | apply Rn.seq | apply Rn.reg | apply Rn.drw | apply Rn.blk | apply Rn.skip | apply Rn.ret | apply Rn.exit | apply Rn.cond rfl | refine i64_ (by omega) (by omega) ?_ | refine ne0_ (by omega) ?_ | refine WIx.intsN (by omega) ?_ | refine WIx.rowsN (by omega) ?_) <;> conv => whnf)
        refine ⟨_, _, ⟨cur2, by omega, rfl, rfl⟩, ⟨.inr rfl, ⟨_, rfl, ?_⟩, ?_⟩⟩
        · rw [hstop]
          exact .pu trivial
        · rw [hstop]
          exact shrY (T.le_e _) (fun s d h => by rw [T.get_e] at h; cases h) (H.kp8 _ _ _)
    · repeat' first | ((first | (with_reducible first | apply WB.tt | apply WB.ff) | apply Rn.seq | apply Rn.reg | apply Rn.drw | apply Rn.blk | apply Rn.skip | apply Rn.ret | apply Rn.exit | apply Rn.cond rfl | refine i64_ (by omega) (by omega) ?_ | refine ne0_ (by omega) ?_ | refine WIx.intsN (by omega) ?_ | refine WIx.rowsN (by omega) ?_) <;> conv => whnf)
      have hge : en ≤ i := by have h : ¬ (i : Int) < (en : Int) := h; omega
      have hall : preY en k next (A.map Prod.fst) (i - next) = setsE en (k + 1) next (A.map Prod.fst) := by
        rw [preY_all, show i - next = en - next from by omega]
      rw [hall] at h4
      refine ⟨_, _, ⟨cur', h3, rfl, rfl⟩, ⟨.inr rfl, ⟨_, rfl, ?_⟩, Shr.kp ?_ (H.kp8 _ _ _)⟩⟩
      · rw [h4]
        exact .pu trivial
      · rw [h4]
        exact T.le_refl _
end Go.Ev

namespace Go.Ev
open Go.Proofs
set_option maxRecDepth 100000
def slN (en : Nat) (i : Nat) : T D := (.n (.n .e none (.n (.n .e (some (.i .i64 (i : Int))) .e) (some (.pt (.i (.o .h)) 0 0)) .e)) (some (.ns)) (.n (.n .e (some (.pl [.i .i64 (en : Int)] 0)) .e) none .e))
theorem slN_kp (en i : Nat) : ∀ s d, (slN en i).get s = some d → Kp (Pos.o (.i .h)).nat d := by
  show TAll (fun _ d => Kp _ d) (slN en i)
  unfold slN
  repeat' first | exact TAll.e | refine TAll.some ?_ ?_ ?_ | refine TAll.none ?_ ?_
  all_goals simp [Kp, Pu, PuL, Pos.nat]
theorem c_chN {σ : Type} {Z : Yns σ} {ok : σ → Prop} (H : YnsOk Z ok) (many en : Nat) (hm : many ≤ 1000) (he : en ≤ 1000) (s : σ) (hok : ok s) :
    ∃ v ob', (v = .b (foldY Z (setsE en many 0 []) s).2 ∧ ob' = Z.ob many en (foldY Z (setsE en many 0 []) s).1 none) ∧ CallOk Try.prog p109.ix (chY many en .ns 0) (Z.ob many en s none) (.o (.i .h)) none v ob' (.o (.i .h)) none := by
  cases many with
  | zero =>
    refine CallOk.runE fn108 (by simp [chY]) (Nat.le_refl _) ?_; conv => whnf
    repeat' first | ((first | (with_reducible first | apply WB.tt | apply WB.ff) | apply Rn.seq | apply Rn.reg | apply Rn.drw | apply Rn.blk | apply Rn.skip | apply Rn.ret | apply Rn.exit | apply Rn.cond rfl | refine i64_ (by omega) (by omega) ?_ | refine ne0_ (by omega) ?_ | refine WIx.intsN (by omega) ?_ | refine WIx.rowsN (by omega) ?_) <;> conv => whnf)
    refine WB.dec (fun h => ?_) (fun h => ?_) <;> conv => whnf
    · repeat' first | ((first | (with_reducible first | apply WB.tt | apply WB.ff) | apply Rn.seq | apply Rn.reg | apply Rn.drw | apply Rn.blk | apply Rn.skip | apply Rn.ret | apply Rn.exit | apply Rn.cond rfl | refine i64_ (by omega) (by omega) ?_ | refine ne0_ (by omega) ?_ | refine WIx.intsN (by omega) ?_ | refine WIx.rowsN (by omega) ?_ | refine WCall.pure (c_CloneN) ?_) <;> conv => whnf)
      refine WRnd.fr (H.rnd s [] hok (by simp)) (by decide) ?_ (H.kp3 s) ⟨Kp.pu _ trivial, trivial⟩ beside3 (by decide) (LgLe.e L4) wr4 ?_
      · show T.le (tr3 _ _ _) _
        unfold tr3
        repeat' first | exact T.le_e _ | refine T.le_sameS ?_ ?_
      conv => whnf
      repeat' first | ((first | (with_reducible first | apply WB.tt | apply WB.ff) | apply Rn.seq | apply Rn.reg | apply Rn.drw | apply Rn.blk | apply Rn.skip | apply Rn.ret | apply Rn.exit | apply Rn.cond rfl | refine i64_ (by omega) (by omega) ?_ | refine ne0_ (by omega) ?_ | refine WIx.intsN (by omega) ?_ | refine WIx.rowsN (by omega) ?_) <;> conv => whnf)
      refine ⟨_, _, ⟨rfl, rfl⟩, ⟨.inr rfl, ⟨_, rfl, ?_⟩, Shr.kp ?_ (H.kp6 _)⟩⟩
      · show Fz _ _ _ (.b (foldY Z [[]] s).2)
        rw [foldY_one]
        exact .pu trivial
      · show T.le (Z.ob 0 en (foldY Z [[]] s).1 none) _
        rw [foldY_one]
        unfold Yns.ob tr7
        repeat' first | exact T.le_e _ | refine T.le_sameS ?_ ?_ | refine T.le_none ?_ ?_
    · exact absurd rfl h
  | succ k =>
    have ih := c_chY H (k + 1) en hm he k
    refine CallOk.runE fn108 (by simp [chY]) (Nat.le_refl _) ?_; conv => whnf
    repeat' first | ((first | (with_reducible first | apply WB.tt | apply WB.ff) | apply Rn.seq | apply Rn.reg | apply Rn.drw | apply Rn.blk | apply Rn.skip | apply Rn.ret | apply Rn.exit | apply Rn.cond rfl | refine i64_ (by omega) (by omega) ?_ | refine ne0_ (by omega) ?_ | refine WIx.intsN (by omega) ?_ | refine WIx.rowsN (by omega) ?_) <;> conv => whnf)
    refine WB.dec (fun h => ?_) (fun h => ?_) <;> conv => whnf
    · exfalso
      have h : (0 : Int) = ((k + 1 : Nat) : Int) := h
      omega
    repeat' first | ((first | (with_reducible first | apply WB.tt | apply WB.ff) | apply Rn.seq | apply Rn.reg | apply Rn.drw | apply Rn.blk | apply Rn.skip | apply Rn.ret | apply Rn.exit | apply Rn.cond rfl | refine i64_ (by omega) (by omega) ?_ | refine ne0_ (by omega) ?_ | refine WIx.intsN (by omega) ?_ | refine WIx.rowsN (by omega) ?_) <;> conv => whnf)
    refine Rn.loop (fun t : Nat × σ => ⟨slN en t.1, Z.ob (k + 1) en t.2 none, .o (.i .h), none⟩) (fun t => t.1 ≤ en ∧ foldY Z (preY en k 0 [] t.1) s = (t.2, true)) (fun t => en - t.1) (0, s) ?_ ?_ ?_
    · refine X.le.mk ?_ (T.le_refl _) (Nat.le_refl _) rfl rfl
      unfold slN
      repeat' first | exact T.le_e _ | refine T.le_some ?_ rfl ?_ | refine T.le_none ?_ ?_
    · exact ⟨Nat.zero_le _, rfl⟩
    rintro ⟨i, s'⟩ ⟨h2, h4⟩
    have h2 : i ≤ en := h2
    have h4 : foldY Z (preY en k 0 [] i) s = (s', true) := h4
    have hok' : ok s' := by have := foldY_ok H _ s hok (by rw [h4]); rw [h4] at this; exact this
    conv => whnf
    repeat' first | ((first | (with_reducible first | apply WB.tt | apply WB.ff) | apply Rn.seq | apply Rn.reg | apply Rn.drw | apply Rn.blk | apply Rn.skip | apply Rn.ret | apply Rn.exit | apply Rn.cond rfl | refine i64_ (by omega) (by omega) ?_ | refine ne0_ (by omega) ?_ | refine WIx.intsN (by omega) ?_ | refine WIx.rowsN (by omega) ?_) <;> conv => whnf)
    refine WB.dec (fun h => ?_) (fun h => ?_) <;> conv => whnf
    · have hlt : i < en := by have h : (i : Int) < (en : Int) := h; omega
      obtain ⟨v, ob', ⟨cur2, h5, rfl, rfl⟩, C⟩ := ih [((i : Int), 0)] (i + 1) 0 1 s' (by simp) (by simp; omega) (fun p hp => by
        rw [List.mem_singleton.1 hp]; exact Nat.le_refl _) (by omega) (by omega) hok'
      have hnext := foldY_pre h4
      rw [show 0 + i = i from by omega] at hnext
      have hAm : [((i : Int), 0)].map Prod.fst = [] ++ [(i : Int)] := by simp
      rw [hAm] at C
      rw [← hnext] at C
      rw [show ((i + 1 : Nat) : Int) = (i : Int) + 1 from by omega] at C
      cases hgo : (foldY Z (preY en k 0 [] (i + 1)) s).2 with
      | true =>
        rw [hgo] at C
        repeat' first | ((first | (with_reducible first | apply WB.tt | apply WB.ff) | apply Rn.seq | apply Rn.reg | apply Rn.drw | apply Rn.blk | apply Rn.skip | apply Rn.ret | apply Rn.exit | apply Rn.cond rfl | refine i64_ (by omega) (by omega) ?_ | refine ne0_ (by omega) ?_ | refine WIx.intsN (by omega) ?_ | refine WIx.rowsN (by omega) ?_) <;> conv => whnf)
        refine WSt.app_firstL (r := [.i .i64 (i : Int)]) rfl (.inl rfl) rfl rfl rfl rfl ?_; conv => whnf
        repeat' first | ((first | (with_reducible first | apply WB.tt | apply WB.ff) | apply Rn.seq | apply Rn.reg | apply Rn.drw | apply Rn.blk | apply Rn.skip | apply Rn.ret | apply Rn.exit | apply Rn.cond rfl | refine i64_ (by omega) (by omega) ?_ | refine ne0_ (by omega) ?_ | refine WIx.intsN (by omega) ?_ | refine WIx.rowsN (by omega) ?_) <;> conv => whnf)
        refine WCall.fr C ?_ (H.kp8 _ _ _) ?_ beside70 (by decide) (LgLe.e L8) wr8 ?_
        · show T.le (tr7 _ _ _ _ _ _) _
          unfold tr7
          repeat' first | exact T.le_e _ | exact T.le_refl _ | refine T.le_sameS ?_ ?_
        · simp [KpL, Kp, Pu, PuL, Pos.nat, chY]
        conv => whnf
        repeat' first | ((first | (with_reducible first | apply WB.tt | apply WB.ff) | apply Rn.seq | apply Rn.reg | apply Rn.drw | apply Rn.blk | apply Rn.skip | apply Rn.ret | apply Rn.exit | apply Rn.cond rfl | refine i64_ (by omega) (by omega) ?_ | refine ne0_ (by omega) ?_ | refine WIx.intsN (by omega) ?_ | refine WIx.rowsN (by omega) ?_) <;> conv => whnf)
        refine WB.mk (fun e => by cases e) (fun _ => ?_); conv => whnf
        repeat' first | ((first | (with_reducible first | apply WB.tt | apply WB.ff) | apply Rn.seq | apply Rn.reg | apply Rn.drw | apply Rn.blk | apply Rn.skip | apply Rn.ret | apply Rn.exit | apply Rn.cond rfl | refine i64_ (by omega) (by omega) ?_ | refine ne0_ (by omega) ?_ | refine WIx.intsN (by omega) ?_ | refine WIx.rowsN (by omega) ?_) <;> conv => whnf)
        refine Again.to (i + 1, (foldY Z (preY en k 0 [] (i + 1)) s).1) (show en - (i + 1) < en - i by omega) ⟨by show i + 1 ≤ en; omega, Prod.ext rfl hgo⟩ (Nat.le_refl _) (Shr.kp2 ?_ (slN_kp en _) ?_ (H.kp6 _))
        · show T.le (slN en (i + 1)) _
          unfold slN
          simp only [Int.natCast_add, Int.natCast_one]
          repeat' first | exact T.le_e _ | refine T.le_some ?_ rfl ?_ | refine T.le_none ?_ ?_
        · show T.le (tr7 _ _ _ _ _ _) (tr7 _ _ _ _ _ _)
          unfold tr7
          repeat' first | exact T.le_e _ | exact T.le_refl _ | refine T.le_sameS ?_ ?_ | refine T.le_none ?_ ?_
      | false =>
        rw [hgo] at C
        have hstop := foldY_stop (en := en) (k := k) (next := 0) (S := []) (n := i + 1) (by omega) (Prod.ext (rfl : (foldY Z (preY en k 0 [] (i + 1)) s).1 = _) hgo)
        repeat' first | ((first | (with_reducible first | apply WB.tt | apply WB.ff) | apply Rn.seq | apply Rn.reg | apply Rn.drw | apply Rn.blk | apply Rn.skip | apply Rn.ret | apply Rn.exit | apply Rn.cond rfl | refine i64_ (by omega) (by omega) ?_ | refine ne0_ (by omega) ?_ | refine WIx.intsN (by omega) ?_ | refine WIx.rowsN (by omega) ?_) <;> conv => whnf)
        refine WSt.app_firstL (r := [.i .i64 (i : Int)]) rfl (.inl rfl) rfl rfl rfl rfl ?_; conv => whnf
        repeat' first | ((first | (with_reducible first | apply WB.tt | apply WB.ff) | apply Rn.seq | apply Rn.reg | apply Rn.drw | apply Rn.blk | apply Rn.skip | apply Rn.ret | apply Rn.exit | apply Rn.cond rfl | refine i64_ (by omega) (by omega) ?_ | refine ne0_ (by omega) ?_ | refine WIx.intsN (by omega) ?_ | refine WIx.rowsN (by omega) ?_) <;> conv => whnf)
        refine WCall.fr C ?_ (H.kp8 _ _ _) ?_ beside70 (by decide) (LgLe.e L8) wr8 ?_
        · show T.le (tr7 _ _ _ _ _ _) _
          unfold tr7
          repeat' first | exact T.le_e _ | exact T.le_refl _ | refine T.le_sameS ?_ ?_
        · simp [KpL, Kp, Pu, PuL, Pos.nat, chY]
        conv => whnf
        repeat' first | ((first | (with_reducible first | apply WB.tt | apply WB.ff) | apply Rn.seq | apply Rn.reg | apply Rn.drw | apply Rn.blk | apply Rn.skip | apply Rn.ret | apply Rn.exit | apply Rn.cond rfl | refine i64_ (by omega) (by omega) ?_ | refine ne0_ (by omega) ?_ | refine WIx.intsN (by omega) ?_ | refine WIx.rowsN (by omega) ?_) <;> conv => whnf)
        refine WB.mk (fun _ => ?_) (fun e => by cases e); conv => whnf
        repeat' first | ((first | (with_reducible first | apply WB.tt | apply WB.ff) | apply Rn.seq | apply Rn.reg | apply Rn.drw | apply Rn.blk | apply Rn.skip | apply Rn.ret | apply Rn.exit | apply Rn.cond rfl | refine i64_ (by omega) (by omega) ?_ | refine ne0_ (by omega) ?_ | refine WIx.intsN (by omega) ?_ | refine WIx.rowsN (by omega) ?_) <;> conv => whnf)
        refine ⟨_, _, ⟨rfl, rfl⟩, ⟨.inr rfl, ⟨_, rfl, ?_⟩, Shr.kp ?_ (H.kp6 _)⟩⟩
        · rw [hstop]
          exact .pu trivial
        · rw [hstop]
          show T.le (tr7 _ _ _ _ _ _) (tr7 _ _ _ _ _ _)
          unfold tr7
          repeat' first | exact T.le_e _ | exact T.le_refl _ | refine T.le_sameS ?_ ?_ | refine T.le_none ?_ ?_
    · repeat' first | ((first | (with_reducible first | apply WB.tt | apply WB.ff) | apply Rn.seq | apply Rn.reg | apply Rn.drw | apply Rn.blk | apply Rn.skip | apply Rn.ret | apply Rn.exit | apply Rn.cond rfl | refine i64_ (by omega) (by omega) ?_ | refine ne0_ (by omega) ?_ | refine WIx.intsN (by omega) ?_ | refine WIx.rowsN (by omega) ?_) <;> conv => whnf)
      have hge : i = en := by have h : ¬ (i : Int) < (en : Int) := h; omega
      subst hge
      refine ⟨_, _, ⟨rfl, rfl⟩, ⟨.inr rfl, ⟨_, rfl, ?_⟩, Shr.kp ?_ (H.kp6 _)⟩⟩
      · rw [preY_all, Nat.sub_zero, h4]
        exact .pu trivial
      · rw [preY_all, Nat.sub_zero, h4]
        exact T.le_refl _
theorem beside61 {x1 x2 x3 x4 x5 y1 y2 y3 y4 y5 : Option C} : Beside (.o (.i .h)) (tr7 y1 y2 y3 y4 y5 none) (.n (.n (.n .e x4 .e) x2 .e) x1 (.n (.n .e x5 .e) x3 .e)) (tr7 y1 y2 y3 y4 y5 none) := by
  refine ⟨fun id c' hid hc => hc, fun id hle => ?_⟩
  cases id with
  | h => exact absurd hle (by decide)
  | o p => cases p with
    | h => exact absurd hle (by decide)
    | o q => cases q with
      | h => exact absurd hle (by decide)
      | o r => rfl
      | i r => rfl
    | i q => rfl
  | i p => cases p with
    | h => exact absurd hle (by decide)
    | o q => cases q with
      | h => exact absurd hle (by decide)
      | o r => rfl
      | i r => rfl
    | i q => cases q with
      | h => rfl
      | o r => rfl
      | i r => rfl
theorem c_sets1 {σ : Type} {Z : Yns σ} {ok : σ → Prop} (H : YnsOk Z ok) (many en : Nat) (hm : many ≤ 1000) (he : en ≤ 1000) (s : σ) (hok : ok s) :
    CallOk Try.prog p108.ix [.yl (.i .h), .pl [.i .i64 (many : Int)] 0, .pl [.i .i64 (en : Int)] 0] (Z.ob3 s) (.o (.o .h)) none (.tp []) (Z.ob3 (foldY Z (setsE en many 0 []) s).1) (.o (.o .h)) none := by
  obtain ⟨v, ob', ⟨rfl, rfl⟩, C⟩ := c_chN H many en hm he s hok
  refine CallOk.run fn107 (by simp) (Nat.le_refl _) ?_; conv => whnf
  repeat' first | ((first | (with_reducible first | apply WB.tt | apply WB.ff) | apply Rn.seq | apply Rn.reg | apply Rn.drw | apply Rn.blk | apply Rn.skip | apply Rn.ret | apply Rn.exit | apply Rn.cond rfl | refine i64_ (by omega) (by omega) ?_ | refine ne0_ (by omega) ?_ | refine WIx.intsN (by omega) ?_ | refine WIx.rowsN (by omega) ?_) <;> conv => whnf)
  refine WCall.fr C ?_ (H.kp6 _) ?_ beside61 (Nat.le_refl _) (LgLe.refl _) (fun _ _ => trivial) ?_
  · show T.le (tr7 _ _ _ _ _ _) _
    unfold tr7
    repeat' first | exact T.le_e _ | exact T.le_refl _ | refine T.le_sameS ?_ ?_ | refine T.le_ee ?_ ?_
  · simp [KpL, Kp, Pu, PuL, Pos.nat, chY]
  conv => whnf
  repeat' first | ((first | (with_reducible first | apply WB.tt | apply WB.ff) | apply Rn.seq | apply Rn.reg | apply Rn.drw | apply Rn.blk | apply Rn.skip | apply Rn.ret | apply Rn.exit | apply Rn.cond rfl | refine i64_ (by omega) (by omega) ?_ | refine ne0_ (by omega) ?_ | refine WIx.intsN (by omega) ?_ | refine WIx.rowsN (by omega) ?_) <;> conv => whnf)
  refine ⟨.inl rfl, ⟨_, rfl, .pu trivial⟩, Shr.kp ?_ (H.kp3 _)⟩
  show T.le (tr3 _ _ _) (tr7 _ _ _ _ _ _)
  unfold tr3 tr7
  repeat' first | exact T.le_e _ | refine T.le_sameS ?_ ?_
end Go.Ev
