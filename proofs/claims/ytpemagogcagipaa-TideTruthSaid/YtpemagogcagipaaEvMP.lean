import Derived.Test.YtpemagogcagipaaEvMN
set_option linter.all false
namespace Go.Ev
open Go.Proofs
set_option maxRecDepth 100000
def pD (p : Int × Int) : D × D := (.ag [.i .i64 p.1, .i .i64 p.2], .b true)
def wfP (p : Int × Int) : Prop := wfB .i64 p.1 = true ∧ wfB .i64 p.2 = true
def insE (p : Int × Int) (E : List (Int × Int)) : List (Int × Int) := if p ∈ E then E else E ++ [p]
theorem mem_insE {p q : Int × Int} {E : List (Int × Int)} : q ∈ insE p E ↔ q = p ∨ q ∈ E := by
  unfold insE
  by_cases h : p ∈ E
  · rw [if_pos h]
    exact ⟨fun k => .inr k, fun k => by rcases k with rfl | k; exact h; exact k⟩
  · rw [if_neg h, List.mem_append, List.mem_singleton]
    exact ⟨fun k => k.symm, fun k => k.symm⟩
theorem eqR_pair {p q : Int × Int} (hp : wfP p) (hq : wfP q) : eqR [.i .i64, .i .i64] (pD p).1 (pD q).1 = some (decide (p = q)) := by
  have hk : kEq .i64 .i64 = true := rfl
  obtain ⟨a, b⟩ := p
  obtain ⟨c, d⟩ := q
  obtain ⟨w1, w2⟩ := hp
  obtain ⟨w3, w4⟩ := hq
  simp only [pD, eqR, eqL, eqC, hk, w1, w2, w3, w4, Bool.and_self, cond_true, Option.some.injEq]
  have hb : ∀ a b : Int, (a == b) = decide (a = b) := fun a b => by by_cases h : a = b <;> simp [h]
  simp only [eqB_eq, hb, Bool.and_true, Prod.mk.injEq, Bool.decide_and]
theorem putD_pair {β : Type} {p : Int × Int} (hp : wfP p) : ∀ (E : List (Int × Int)) (k : List (D × D) → Option β), (∀ q ∈ E, wfP q) → putD [.i .i64, .i .i64] (pD p).1 (.b true) (E.map pD) k = k ((insE p E).map pD)
  | [], k, _ => rfl
  | q :: E, k, h => by
    have hq := h q (by simp)
    have e : putD [.i .i64, .i .i64] (pD p).1 (.b true) ((q :: E).map pD) k = (match eqR [.i .i64, .i .i64] (pD p).1 (pD q).1 with
      | some true => k (((pD p).1, .b true) :: E.map pD)
      | some false => putD [.i .i64, .i .i64] (pD p).1 (.b true) (E.map pD) fun l => k (pD q :: l)
      | none => none) := rfl
    rw [e, eqR_pair hp hq]
    by_cases hpq : p = q
    · subst hpq
      rw [decide_eq_true rfl]
      have : insE p (p :: E) = p :: E := by unfold insE; rw [if_pos (by simp)]
      rw [this]
      rfl
    · rw [decide_eq_false hpq]
      have hi : insE p (q :: E) = q :: insE p E := by
        unfold insE
        by_cases hm : p ∈ E
        · rw [if_pos hm, if_pos (List.mem_cons.2 (.inr hm))]
        · rw [if_neg hm, if_neg fun h => by rcases List.mem_cons.1 h with h | h; exact hpq h; exact hm h]
          rfl
      rw [hi]
      exact putD_pair hp E (fun l => k (pD q :: l)) fun x hx => h x (by simp [hx])
theorem findD_pair {p : Int × Int} (hp : wfP p) : ∀ (E : List (Int × Int)), (∀ q ∈ E, wfP q) → findD [.i .i64, .i .i64] (pD p).1 (E.map pD) = some (if p ∈ E then some (.b true) else none)
  | [], _ => rfl
  | q :: E, h => by
    have hq := h q (by simp)
    have e : findD [.i .i64, .i .i64] (pD p).1 ((q :: E).map pD) = (match eqR [.i .i64, .i .i64] (pD p).1 (pD q).1 with
      | some true => some (some (pD q).2)
      | some false => findD [.i .i64, .i .i64] (pD p).1 (E.map pD)
      | none => none) := rfl
    rw [e, eqR_pair hp hq]
    by_cases hpq : p = q
    · subst hpq
      rw [decide_eq_true rfl, if_pos (by simp)]
      rfl
    · rw [decide_eq_false hpq]
      have ih := findD_pair hp E fun x hx => h x (by simp [hx])
      by_cases hm : p ∈ E
      · rw [if_pos hm] at ih
        rw [if_pos (List.mem_cons.2 (.inr hm))]
        exact ih
      · rw [if_neg hm] at ih
        rw [if_neg fun h => by rcases List.mem_cons.1 h with h | h; exact hpq h; exact hm h]
        exact ih
section
variable {sl : T D} {ob : T C} {nx : Pos} {K : X → Prop}
theorem WSt.mupE {id : Pos} {x i v : RX} {p : Int × Int} {E : List (Int × Int)} {es : List (D × D)} (hx : opd sl x = some (.mp id)) (hi : opd sl i = some (.ag [.i .i64 p.1, .i .i64 p.2])) (hv : opd sl v = some (.b true)) (hob : ob.get id = some (.map es)) (he : es = E.map pD) (hp : wfP p) (hE : ∀ q ∈ E, wfP q) (h : K ⟨sl, T.set id (.map ((insE p E).map pD)) ob, nx, none⟩) : WSt (.mup [.i .i64, .i .i64] x i v) ⟨sl, ob, nx, none⟩ K := by
  refine ⟨_, ?_, h⟩
  show s_mup _ x i v sl ob nx none = _
  unfold s_mup
  have hi : opd sl i = some (pD p).1 := hi
  rw [hx, hi, hv]
  simp only [hob, eqR_pair hp hp, he, putD_pair hp E _ hE]
  show T.setK id _ ob _ = _
  rw [T.setK_eq]
theorem WSt.lkpE {d id : Pos} {x i : RX} {p : Int × Int} {E : List (Int × Int)} {es : List (D × D)} (hx : opd sl x = some (.mp id)) (hi : opd sl i = some (.ag [.i .i64 p.1, .i .i64 p.2])) (hob : ob.get id = some (.map es)) (he : es = E.map pD) (hp : wfP p) (hE : ∀ q ∈ E, wfP q) (h : wOut sl ob nx none d K (.b (decide (p ∈ E)))) : WSt (.lkp d (.b false) false [.i .i64, .i .i64] x i) ⟨sl, ob, nx, none⟩ K := by
  obtain ⟨k2, k3⟩ := wOut_ok h
  refine ⟨_, ?_, k3⟩
  show s_lkp d _ _ _ x i sl ob nx none = _
  unfold s_lkp
  have hi : opd sl i = some (pD p).1 := hi
  rw [hx, hi]
  simp only [hob, eqR_pair hp hp, he, findD_pair hp E hE]
  by_cases hm : p ∈ E
  · rw [decide_eq_true hm] at k2
    rw [if_pos hm, decide_eq_true hm]
    exact k2
  · rw [decide_eq_false hm] at k2
    rw [if_neg hm, decide_eq_false hm]
    exact k2
end
end Go.Ev

namespace Go.Ev
open Go.Proofs
set_option maxRecDepth 100000
def metI (c : Nat → Int) (n : Nat) (E : List (Int × Int)) : List (Int × Int) := (List.range n).foldl (fun E (i : Nat) => insE ((i : Int), c i) E) E
def metE (T : List (Nat → Int)) (n : Nat) : List (Int × Int) := T.foldl (fun E c => metI c n E) []
theorem metI_succ (c : Nat → Int) (n : Nat) (E : List (Int × Int)) : metI c (n + 1) E = insE ((n : Int), c n) (metI c n E) := by
  unfold metI
  rw [List.range_succ, List.foldl_append]
  rfl
theorem mem_metI {c : Nat → Int} {E : List (Int × Int)} {p : Int × Int} : ∀ n, p ∈ metI c n E ↔ p ∈ E ∨ ∃ i : Nat, i < n ∧ p = ((i : Int), c i)
  | 0 => by
    show p ∈ E ↔ _
    exact ⟨fun h => .inl h, fun h => by rcases h with h | ⟨i, hi, _⟩; exact h; exact absurd hi (Nat.not_lt_zero _)⟩
  | n + 1 => by
    rw [metI_succ, mem_insE, mem_metI n]
    constructor
    · rintro (rfl | h | ⟨i, hi, e⟩)
      · exact .inr ⟨n, Nat.lt_succ_self _, rfl⟩
      · exact .inl h
      · exact .inr ⟨i, Nat.lt_succ_of_lt hi, e⟩
    · rintro (h | ⟨i, hi, e⟩)
      · exact .inr (.inl h)
      · by_cases h : i = n
        · subst h; exact .inl e
        · exact .inr (.inr ⟨i, by omega, e⟩)
theorem mem_metF {n : Nat} {p : Int × Int} : ∀ (T : List (Nat → Int)) (E : List (Int × Int)), p ∈ T.foldl (fun E c => metI c n E) E ↔ p ∈ E ∨ ∃ c ∈ T, ∃ i : Nat, i < n ∧ p = ((i : Int), c i)
  | [], E => ⟨fun h => .inl h, fun h => by rcases h with h | ⟨c, hc, _⟩; exact h; cases hc⟩
  | c :: T, E => by
    show p ∈ T.foldl _ (metI c n E) ↔ _
    rw [mem_metF T, mem_metI]
    constructor
    · rintro ((h | ⟨i, hi, e⟩) | ⟨c', hc, h⟩)
      · exact .inl h
      · exact .inr ⟨c, by simp, i, hi, e⟩
      · exact .inr ⟨c', by simp [hc], h⟩
    · rintro (h | ⟨c', hc, i, hi, e⟩)
      · exact .inl (.inl h)
      · rcases List.mem_cons.1 hc with rfl | hc
        · exact .inl (.inr ⟨i, hi, e⟩)
        · exact .inr ⟨c', hc, i, hi, e⟩
theorem mem_metE {n : Nat} {p : Int × Int} (T : List (Nat → Int)) : p ∈ metE T n ↔ ∃ c ∈ T, ∃ i : Nat, i < n ∧ p = ((i : Int), c i) := by
  unfold metE
  rw [mem_metF]
  exact ⟨fun h => by rcases h with h | h; cases h; exact h, fun h => .inr h⟩
theorem mapC_sh {n : Nat} {ob : T C} {E : List (Int × Int)} : ShC (fun id => id.nat < n) ob (.map (E.map pD)) (.map (E.map pD)) := by
  refine ShC.kp ?_
  intro e he
  obtain ⟨p, _, rfl⟩ := List.mem_map.1 he
  simp [pD, Kp, KpL, Pu]
theorem c_met (last : Int) (hs : List Rg) (step : Int) (lv : List Int) (ms : List Mk) (L : List (Nat → Int)) (n : Nat) (hn : (n : Int) = last + 1) (h10 : n ≤ 10) (hl : L.length ≤ 1000) (hb : ∀ c ∈ L, ∀ i : Nat, wfB .i64 (c i) = true) : CallOk Try.prog p103.ix [.ag [.i .i64 last, .lst 2 (rows rgD hs), .i .i64 step, .lst 1 (ints lv), .lst 4 (rows mkD ms), .lst 10 (rows seaD L)]] ((.n .e (some (wkC last hs step lv ms (.lst 10 (rows seaD L)))) .e) : T C) (.o .h) none (.mp (.i .h)) ((.n .e (some (wkC last hs step lv ms (.lst 10 (rows seaD L)))) (.n .e (some (.map ((metE L n).map pD))) .e)) : T C) (.o (.o .h)) none := by
  have e1 := rows_length seaD L
  have hpt : Pu (.lst 10 (rows seaD L)) := pu_seas L
  have wn : ∀ i : Nat, i < 10 → wfB .i64 (i : Int) = true := fun i h => wf_small (by omega) (by omega)
  have wfE : ∀ (T : List (Nat → Int)) (k : Nat), (∀ c ∈ T, ∀ i : Nat, wfB .i64 (c i) = true) → ∀ p ∈ metE T n, wfP p := fun T k hT p hp => by
    obtain ⟨c, hc, i, hi, e⟩ := (mem_metE T).1 hp
    subst e
    exact ⟨wn i (by omega), hT c hc i⟩
  obtain ⟨v, ob', ⟨rfl, rfl⟩, C⟩ := CallOk.runE (Φ := fun v ob' => v = .mp (.i .h) ∧ ob' = ((.n .e (some (wkC last hs step lv ms (.lst 10 (rows seaD L)))) (.n .e (some (.map ((metE L n).map pD))) .e)) : T C)) (ob := ((.n .e (some (wkC last hs step lv ms (.lst 10 (rows seaD L)))) .e) : T C)) (nx := .o .h) (nx' := .o (.o .h)) (ds := [.ag [.i .i64 last, .lst 2 (rows rgD hs), .i .i64 step, .lst 1 (ints lv), .lst 4 (rows mkD ms), .lst 10 (rows seaD L)]]) fn102 (by simp) (show 2 ≤ 4 by omega) (by
    conv => whnf
    repeat' first | ((first | (with_reducible first | apply WB.tt | apply WB.ff) | apply Rn.seq | apply Rn.reg | apply Rn.drw | apply Rn.blk | apply Rn.skip | apply Rn.ret | apply Rn.exit | apply Rn.cond rfl | refine i64_ (by omega) (by omega) ?_ | refine ne0_ (by omega) ?_ | refine WIx.intsN (by omega) ?_ | refine WIx.rowsN (by omega) ?_) <;> conv => whnf)
    refine Rn.loop (fun j : Nat => ⟨(.n (.n (.n .e (some (.mp (.i .h))) (.n .e (some (.i .i64 (j : Int))) .e)) (some (.pt (.o .h) 0 0)) (.n (.n .e (some (.lst 10 (rows seaD L))) .e) none .e)) none (.n .e none (.n (.n .e (some (.i .i64 (L.length : Int))) .e) none .e))), (.n (.n .e (some (wkC last hs step lv ms (.lst 10 (rows seaD L)))) .e) (some (wkC last hs step lv ms (.lst 10 (rows seaD L)))) (.n .e (some (.map ((metE (L.take j) n).map pD))) .e)), .o (.o .h), none⟩) (fun j => j ≤ L.length) (fun j => L.length - j) 0 ?_ ?_ ?_
    · refine X.le.mk ?_ ?_ (Nat.le_refl _) rfl rfl
      · show T.le ((.n (.n (.n .e (some (.mp (.i .h))) (.n .e (some (.i .i64 0)) .e)) (some (.pt (.o .h) 0 0)) (.n (.n .e (some (.lst 10 (rows seaD L))) .e) none .e)) none (.n .e none (.n (.n .e (some (.i .i64 (L.length : Int))) .e) none .e))) : T D) _
        rw [← e1]
        (repeat' first | exact T.le_e _ | refine T.le_some ?_ rfl ?_ | refine T.le_none ?_ ?_)
      · show T.le ((.n (.n .e (some (wkC last hs step lv ms (.lst 10 (rows seaD L)))) .e) (some (wkC last hs step lv ms (.lst 10 (rows seaD L)))) (.n .e (some (.map ((metE [] n).map pD))) .e)) : T C) _
        (repeat' first | exact T.le_e _ | refine T.le_some ?_ rfl ?_ | refine T.le_none ?_ ?_ | refine T.le_ee ?_ ?_)
    · exact Nat.zero_le _
    intro j hj
    have hj : j ≤ L.length := hj
    have hend : j = L.length → metE (L.take j) n = metE L n := fun e => by rw [e, List.take_length]
    have hnext : j < L.length → metE (L.take (j + 1)) n = metI (L.getD j default) n (metE (L.take j) n) := fun h => by
      unfold metE
      rw [take_succ_getD (d := default) h, List.foldl_append]
      rfl
    have hwf := wfE (L.take j) j fun c hc => hb c (List.mem_of_mem_take hc)
    conv => whnf
    repeat' first | ((first | (with_reducible first | apply WB.tt | apply WB.ff) | apply Rn.seq | apply Rn.reg | apply Rn.drw | apply Rn.blk | apply Rn.skip | apply Rn.ret | apply Rn.exit | apply Rn.cond rfl | refine i64_ (by omega) (by omega) ?_ | refine ne0_ (by omega) ?_ | refine WIx.intsN (by omega) ?_ | refine WIx.rowsN (by omega) ?_) <;> conv => whnf)
    refine WB.dec (fun h => ?_) (fun h => ?_) <;> conv => whnf
    · have hlt : j < L.length := by omega
      have hcb := hb _ (getD_mem (d := default) hlt)
      have hnext := hnext hlt
      generalize metE (L.take j) n = E at *
      repeat' first | ((first | (with_reducible first | apply WB.tt | apply WB.ff) | apply Rn.seq | apply Rn.reg | apply Rn.drw | apply Rn.blk | apply Rn.skip | apply Rn.ret | apply Rn.exit | apply Rn.cond rfl | refine i64_ (by omega) (by omega) ?_ | refine ne0_ (by omega) ?_ | refine WIx.intsN (by omega) ?_ | refine WIx.rowsN (by omega) ?_) <;> conv => whnf)
      refine Rn.loop (fun q : Nat => ⟨(.n (.n (.n .e (some (.mp (.i .h))) (.n (.n .e (some (.i .i64 ((q : Nat) : Int))) .e) (some (.i .i64 (j : Int))) .e)) (some (.pt (.o .h) 0 0)) (.n (.n .e (some (.lst 10 (rows seaD L))) .e) (some (.pt (.o (.o .h)) 0 0)) .e)) none (.n .e none (.n (.n (.n .e (some (.i .i64 (last + 1))) .e) (some (.i .i64 (L.length : Int))) .e) none .e))), (.n (.n (.n .e (some (seC (L.getD j default))) .e) (some (wkC last hs step lv ms (.lst 10 (rows seaD L)))) .e) (some (wkC last hs step lv ms (.lst 10 (rows seaD L)))) (.n .e (some (.map ((metI (L.getD j default) q E).map pD))) .e)), .i (.o .h), none⟩) (fun q => q ≤ n) (fun q => n - q) 0 ?_ ?_ ?_
      · refine X.le.mk ?_ ?_ (Nat.le_refl _) rfl rfl
        · show T.le ((.n (.n (.n .e (some (.mp (.i .h))) (.n (.n .e (some (.i .i64 0)) .e) (some (.i .i64 (j : Int))) .e)) (some (.pt (.o .h) 0 0)) (.n (.n .e (some (.lst 10 (rows seaD L))) .e) (some (.pt (.o (.o .h)) 0 0)) .e)) none (.n .e none (.n (.n (.n .e (some (.i .i64 (last + 1))) .e) (some (.i .i64 (L.length : Int))) .e) none .e))) : T D) _
          (repeat' first | exact T.le_e _ | refine T.le_some ?_ rfl ?_ | refine T.le_none ?_ ?_)
        · show T.le ((.n (.n (.n .e (some (seC (L.getD j default))) .e) (some (wkC last hs step lv ms (.lst 10 (rows seaD L)))) .e) (some (wkC last hs step lv ms (.lst 10 (rows seaD L)))) (.n .e (some (.map ((E).map pD))) .e)) : T C) _
          (repeat' first | exact T.le_e _ | refine T.le_some ?_ rfl ?_ | refine T.le_none ?_ ?_ | refine T.le_ee ?_ ?_)
      · exact Nat.zero_le _
      intro q hq
      have hq : q ≤ n := hq
      have hsuc := metI_succ (L.getD j default) q E
      have hwI : ∀ p ∈ metI (L.getD j default) q E, wfP p := fun p hp => by
        rcases (mem_metI q).1 hp with h | ⟨i, hi, e⟩
        · exact hwf p h
        · subst e; exact ⟨wn i (by omega), hcb i⟩
      conv => whnf
      repeat' first | ((first | (with_reducible first | apply WB.tt | apply WB.ff) | apply Rn.seq | apply Rn.reg | apply Rn.drw | apply Rn.blk | apply Rn.skip | apply Rn.ret | apply Rn.exit | apply Rn.cond rfl | refine i64_ (by omega) (by omega) ?_ | refine ne0_ (by omega) ?_ | refine WIx.intsN (by omega) ?_ | refine WIx.rowsN (by omega) ?_) <;> conv => whnf)
      refine WB.dec (fun h => ?_) (fun h => ?_) <;> conv => whnf
      · have hq9 : q < 10 := by omega
        have wq := wn q hq9
        have wc := hcb q
        generalize metI (L.getD j default) q E = F at *
        rcases ten hq9 with rfl | rfl | rfl | rfl | rfl | rfl | rfl | rfl | rfl | rfl
        · repeat' first | ((first | (with_reducible first | apply WB.tt | apply WB.ff) | apply Rn.seq | apply Rn.reg | apply Rn.drw | apply Rn.blk | apply Rn.skip | apply Rn.ret | apply Rn.exit | apply Rn.cond rfl | refine i64_ (by omega) (by omega) ?_ | refine ne0_ (by omega) ?_ | refine WIx.intsN (by omega) ?_ | refine WIx.rowsN (by omega) ?_) <;> conv => whnf)
          refine WSt.ixaN rfl rfl rfl (by omega) ?_; conv => whnf
          repeat' first | ((first | (with_reducible first | apply WB.tt | apply WB.ff) | apply Rn.seq | apply Rn.reg | apply Rn.drw | apply Rn.blk | apply Rn.skip | apply Rn.ret | apply Rn.exit | apply Rn.cond rfl | refine i64_ (by omega) (by omega) ?_ | refine ne0_ (by omega) ?_ | refine WIx.intsN (by omega) ?_ | refine WIx.rowsN (by omega) ?_) <;> conv => whnf)
          refine WSt.mupE (p := ((0 : Int), L.getD j default 0)) rfl rfl rfl rfl rfl ⟨wq, wc⟩ hwI ?_; conv => whnf
          repeat' first | ((first | (with_reducible first | apply WB.tt | apply WB.ff) | apply Rn.seq | apply Rn.reg | apply Rn.drw | apply Rn.blk | apply Rn.skip | apply Rn.ret | apply Rn.exit | apply Rn.cond rfl | refine i64_ (by omega) (by omega) ?_ | refine ne0_ (by omega) ?_ | refine WIx.intsN (by omega) ?_ | refine WIx.rowsN (by omega) ?_) <;> conv => whnf)
          refine Again.to (0 + 1) (by omega) (by omega) (Nat.le_refl _) ?_
          rw [hsuc]
          refine Shr.of ?_ ?_ rfl rfl
          · show Rel _ _ ((.n (.n (.n .e (some (.mp (.i .h))) (.n (.n .e (some (.i .i64 ((0 + 1 : Nat) : Int))) .e) (some (.i .i64 (j : Int))) .e)) (some (.pt (.o .h) 0 0)) (.n (.n .e (some (.lst 10 (rows seaD L))) .e) (some (.pt (.o (.o .h)) 0 0)) .e)) none (.n .e none (.n (.n (.n .e (some (.i .i64 (last + 1))) .e) (some (.i .i64 (L.length : Int))) .e) none .e))) : T D) _
            (repeat' first | exact Rel.e | refine Rel.some ?_ ?_ ?_ | refine Rel.none ?_ ?_ | refine Rel.ee ?_ ?_)
            all_goals show Fz _ _ _ _
            all_goals first | exact .pu trivial | exact .pu hpt | exact .kpt (show _ < 5 by simp [Pos.nat]) | exact .kmp (show _ < 5 by simp [Pos.nat])
          · show Rel _ _ ((.n (.n (.n .e (some (seC (L.getD j default))) .e) (some (wkC last hs step lv ms (.lst 10 (rows seaD L)))) .e) (some (wkC last hs step lv ms (.lst 10 (rows seaD L)))) (.n .e (some (.map ((insE ((0 : Int), L.getD j default 0) F).map pD))) .e)) : T C) _
            (repeat' first | exact Rel.e | refine Rel.some ?_ ?_ ?_ | refine Rel.none ?_ ?_ | refine Rel.ee ?_ ?_)
            all_goals first
              | exact RO'.of (show _ < 5 by simp [Pos.nat]) (wkC_sh _ _ _ _ _ _ hpt)
              | exact RO'.of (show _ < 5 by simp [Pos.nat]) mapC_sh
              | exact RO'.of (show _ < 5 by simp [Pos.nat]) (ShC.kp (seC_kp _ _))
        · repeat' first | ((first | (with_reducible first | apply WB.tt | apply WB.ff) | apply Rn.seq | apply Rn.reg | apply Rn.drw | apply Rn.blk | apply Rn.skip | apply Rn.ret | apply Rn.exit | apply Rn.cond rfl | refine i64_ (by omega) (by omega) ?_ | refine ne0_ (by omega) ?_ | refine WIx.intsN (by omega) ?_ | refine WIx.rowsN (by omega) ?_) <;> conv => whnf)
          refine WSt.ixaN rfl rfl rfl (by omega) ?_; conv => whnf
          repeat' first | ((first | (with_reducible first | apply WB.tt | apply WB.ff) | apply Rn.seq | apply Rn.reg | apply Rn.drw | apply Rn.blk | apply Rn.skip | apply Rn.ret | apply Rn.exit | apply Rn.cond rfl | refine i64_ (by omega) (by omega) ?_ | refine ne0_ (by omega) ?_ | refine WIx.intsN (by omega) ?_ | refine WIx.rowsN (by omega) ?_) <;> conv => whnf)
          refine WSt.mupE (p := ((1 : Int), L.getD j default 1)) rfl rfl rfl rfl rfl ⟨wq, wc⟩ hwI ?_; conv => whnf
          repeat' first | ((first | (with_reducible first | apply WB.tt | apply WB.ff) | apply Rn.seq | apply Rn.reg | apply Rn.drw | apply Rn.blk | apply Rn.skip | apply Rn.ret | apply Rn.exit | apply Rn.cond rfl | refine i64_ (by omega) (by omega) ?_ | refine ne0_ (by omega) ?_ | refine WIx.intsN (by omega) ?_ | refine WIx.rowsN (by omega) ?_) <;> conv => whnf)
          refine Again.to (1 + 1) (by omega) (by omega) (Nat.le_refl _) ?_
          rw [hsuc]
          refine Shr.of ?_ ?_ rfl rfl
          · show Rel _ _ ((.n (.n (.n .e (some (.mp (.i .h))) (.n (.n .e (some (.i .i64 ((1 + 1 : Nat) : Int))) .e) (some (.i .i64 (j : Int))) .e)) (some (.pt (.o .h) 0 0)) (.n (.n .e (some (.lst 10 (rows seaD L))) .e) (some (.pt (.o (.o .h)) 0 0)) .e)) none (.n .e none (.n (.n (.n .e (some (.i .i64 (last + 1))) .e) (some (.i .i64 (L.length : Int))) .e) none .e))) : T D) _
            (repeat' first | exact Rel.e | refine Rel.some ?_ ?_ ?_ | refine Rel.none ?_ ?_ | refine Rel.ee ?_ ?_)
            all_goals show Fz _ _ _ _
            all_goals first | exact .pu trivial | exact .pu hpt | exact .kpt (show _ < 5 by simp [Pos.nat]) | exact .kmp (show _ < 5 by simp [Pos.nat])
          · show Rel _ _ ((.n (.n (.n .e (some (seC (L.getD j default))) .e) (some (wkC last hs step lv ms (.lst 10 (rows seaD L)))) .e) (some (wkC last hs step lv ms (.lst 10 (rows seaD L)))) (.n .e (some (.map ((insE ((1 : Int), L.getD j default 1) F).map pD))) .e)) : T C) _
            (repeat' first | exact Rel.e | refine Rel.some ?_ ?_ ?_ | refine Rel.none ?_ ?_ | refine Rel.ee ?_ ?_)
            all_goals first
              | exact RO'.of (show _ < 5 by simp [Pos.nat]) (wkC_sh _ _ _ _ _ _ hpt)
              | exact RO'.of (show _ < 5 by simp [Pos.nat]) mapC_sh
              | exact RO'.of (show _ < 5 by simp [Pos.nat]) (ShC.kp (seC_kp _ _))
        · repeat' first | ((first | (with_reducible first | apply WB.tt | apply WB.ff) | apply Rn.seq | apply Rn.reg | apply Rn.drw | apply Rn.blk | apply Rn.skip | apply Rn.ret | apply Rn.exit | apply Rn.cond rfl | refine i64_ (by omega) (by omega) ?_ | refine ne0_ (by omega) ?_ | refine WIx.intsN (by omega) ?_ | refine WIx.rowsN (by omega) ?_) <;> conv => whnf)
          refine WSt.ixaN rfl rfl rfl (by omega) ?_; conv => whnf
          repeat' first | ((first | (with_reducible first | apply WB.tt | apply WB.ff) | apply Rn.seq | apply Rn.reg | apply Rn.drw | apply Rn.blk | apply Rn.skip | apply Rn.ret | apply Rn.exit | apply Rn.cond rfl | refine i64_ (by omega) (by omega) ?_ | refine ne0_ (by omega) ?_ | refine WIx.intsN (by omega) ?_ | refine WIx.rowsN (by omega) ?_) <;> conv => whnf)
          refine WSt.mupE (p := ((2 : Int), L.getD j default 2)) rfl rfl rfl rfl rfl ⟨wq, wc⟩ hwI ?_; conv => whnf
          repeat' first | ((first | (with_reducible first | apply WB.tt | apply WB.ff) | apply Rn.seq | apply Rn.reg | apply Rn.drw | apply Rn.blk | apply Rn.skip | apply Rn.ret | apply Rn.exit | apply Rn.cond rfl | refine i64_ (by omega) (by omega) ?_ | refine ne0_ (by omega) ?_ | refine WIx.intsN (by omega) ?_ | refine WIx.rowsN (by omega) ?_) <;> conv => whnf)
          refine Again.to (2 + 1) (by omega) (by omega) (Nat.le_refl _) ?_
          rw [hsuc]
          refine Shr.of ?_ ?_ rfl rfl
          · show Rel _ _ ((.n (.n (.n .e (some (.mp (.i .h))) (.n (.n .e (some (.i .i64 ((2 + 1 : Nat) : Int))) .e) (some (.i .i64 (j : Int))) .e)) (some (.pt (.o .h) 0 0)) (.n (.n .e (some (.lst 10 (rows seaD L))) .e) (some (.pt (.o (.o .h)) 0 0)) .e)) none (.n .e none (.n (.n (.n .e (some (.i .i64 (last + 1))) .e) (some (.i .i64 (L.length : Int))) .e) none .e))) : T D) _
            (repeat' first | exact Rel.e | refine Rel.some ?_ ?_ ?_ | refine Rel.none ?_ ?_ | refine Rel.ee ?_ ?_)
            all_goals show Fz _ _ _ _
            all_goals first | exact .pu trivial | exact .pu hpt | exact .kpt (show _ < 5 by simp [Pos.nat]) | exact .kmp (show _ < 5 by simp [Pos.nat])
          · show Rel _ _ ((.n (.n (.n .e (some (seC (L.getD j default))) .e) (some (wkC last hs step lv ms (.lst 10 (rows seaD L)))) .e) (some (wkC last hs step lv ms (.lst 10 (rows seaD L)))) (.n .e (some (.map ((insE ((2 : Int), L.getD j default 2) F).map pD))) .e)) : T C) _
            (repeat' first | exact Rel.e | refine Rel.some ?_ ?_ ?_ | refine Rel.none ?_ ?_ | refine Rel.ee ?_ ?_)
            all_goals first
              | exact RO'.of (show _ < 5 by simp [Pos.nat]) (wkC_sh _ _ _ _ _ _ hpt)
              | exact RO'.of (show _ < 5 by simp [Pos.nat]) mapC_sh
              | exact RO'.of (show _ < 5 by simp [Pos.nat]) (ShC.kp (seC_kp _ _))
        · repeat' first | ((first | (with_reducible first | apply WB.tt | apply WB.ff) | apply Rn.seq | apply Rn.reg | apply Rn.drw | apply Rn.blk | apply Rn.skip | apply Rn.ret | apply Rn.exit | apply Rn.cond rfl | refine i64_ (by omega) (by omega) ?_ | refine ne0_ (by omega) ?_ | refine WIx.intsN (by omega) ?_ | refine WIx.rowsN (by omega) ?_) <;> conv => whnf)
          refine WSt.ixaN rfl rfl rfl (by omega) ?_; conv => whnf
          repeat' first | ((first | (with_reducible first | apply WB.tt | apply WB.ff) | apply Rn.seq | apply Rn.reg | apply Rn.drw | apply Rn.blk | apply Rn.skip | apply Rn.ret | apply Rn.exit | apply Rn.cond rfl | refine i64_ (by omega) (by omega) ?_ | refine ne0_ (by omega) ?_ | refine WIx.intsN (by omega) ?_ | refine WIx.rowsN (by omega) ?_) <;> conv => whnf)
          refine WSt.mupE (p := ((3 : Int), L.getD j default 3)) rfl rfl rfl rfl rfl ⟨wq, wc⟩ hwI ?_; conv => whnf
          repeat' first | ((first | (with_reducible first | apply WB.tt | apply WB.ff) | apply Rn.seq | apply Rn.reg | apply Rn.drw | apply Rn.blk | apply Rn.skip | apply Rn.ret | apply Rn.exit | apply Rn.cond rfl | refine i64_ (by omega) (by omega) ?_ | refine ne0_ (by omega) ?_ | refine WIx.intsN (by omega) ?_ | refine WIx.rowsN (by omega) ?_) <;> conv => whnf)
          refine Again.to (3 + 1) (by omega) (by omega) (Nat.le_refl _) ?_
          rw [hsuc]
          refine Shr.of ?_ ?_ rfl rfl
          · show Rel _ _ ((.n (.n (.n .e (some (.mp (.i .h))) (.n (.n .e (some (.i .i64 ((3 + 1 : Nat) : Int))) .e) (some (.i .i64 (j : Int))) .e)) (some (.pt (.o .h) 0 0)) (.n (.n .e (some (.lst 10 (rows seaD L))) .e) (some (.pt (.o (.o .h)) 0 0)) .e)) none (.n .e none (.n (.n (.n .e (some (.i .i64 (last + 1))) .e) (some (.i .i64 (L.length : Int))) .e) none .e))) : T D) _
            (repeat' first | exact Rel.e | refine Rel.some ?_ ?_ ?_ | refine Rel.none ?_ ?_ | refine Rel.ee ?_ ?_)
            all_goals show Fz _ _ _ _
            all_goals first | exact .pu trivial | exact .pu hpt | exact .kpt (show _ < 5 by simp [Pos.nat]) | exact .kmp (show _ < 5 by simp [Pos.nat])
          · show Rel _ _ ((.n (.n (.n .e (some (seC (L.getD j default))) .e) (some (wkC last hs step lv ms (.lst 10 (rows seaD L)))) .e) (some (wkC last hs step lv ms (.lst 10 (rows seaD L)))) (.n .e (some (.map ((insE ((3 : Int), L.getD j default 3) F).map pD))) .e)) : T C) _
            (repeat' first | exact Rel.e | refine Rel.some ?_ ?_ ?_ | refine Rel.none ?_ ?_ | refine Rel.ee ?_ ?_)
            all_goals first
              | exact RO'.of (show _ < 5 by simp [Pos.nat]) (wkC_sh _ _ _ _ _ _ hpt)
              | exact RO'.of (show _ < 5 by simp [Pos.nat]) mapC_sh
              | exact RO'.of (show _ < 5 by simp [Pos.nat]) (ShC.kp (seC_kp _ _))
        · repeat' first | ((first | (with_reducible first | apply WB.tt | apply WB.ff) | apply Rn.seq | apply Rn.reg | apply Rn.drw | apply Rn.blk | apply Rn.skip | apply Rn.ret | apply Rn.exit | apply Rn.cond rfl | refine i64_ (by omega) (by omega) ?_ | refine ne0_ (by omega) ?_ | refine WIx.intsN (by omega) ?_ | refine WIx.rowsN (by omega) ?_) <;> conv => whnf)
          refine WSt.ixaN rfl rfl rfl (by omega) ?_; conv => whnf
          repeat' first | ((first | (with_reducible first | apply WB.tt | apply WB.ff) | apply Rn.seq | apply Rn.reg | apply Rn.drw | apply Rn.blk | apply Rn.skip | apply Rn.ret | apply Rn.exit | apply Rn.cond rfl | refine i64_ (by omega) (by omega) ?_ | refine ne0_ (by omega) ?_ | refine WIx.intsN (by omega) ?_ | refine WIx.rowsN (by omega) ?_) <;> conv => whnf)
          refine WSt.mupE (p := ((4 : Int), L.getD j default 4)) rfl rfl rfl rfl rfl ⟨wq, wc⟩ hwI ?_; conv => whnf
          repeat' first | ((first | (with_reducible first | apply WB.tt | apply WB.ff) | apply Rn.seq | apply Rn.reg | apply Rn.drw | apply Rn.blk | apply Rn.skip | apply Rn.ret | apply Rn.exit | apply Rn.cond rfl | refine i64_ (by omega) (by omega) ?_ | refine ne0_ (by omega) ?_ | refine WIx.intsN (by omega) ?_ | refine WIx.rowsN (by omega) ?_) <;> conv => whnf)
          refine Again.to (4 + 1) (by omega) (by omega) (Nat.le_refl _) ?_
          rw [hsuc]
          refine Shr.of ?_ ?_ rfl rfl
          · show Rel _ _ ((.n (.n (.n .e (some (.mp (.i .h))) (.n (.n .e (some (.i .i64 ((4 + 1 : Nat) : Int))) .e) (some (.i .i64 (j : Int))) .e)) (some (.pt (.o .h) 0 0)) (.n (.n .e (some (.lst 10 (rows seaD L))) .e) (some (.pt (.o (.o .h)) 0 0)) .e)) none (.n .e none (.n (.n (.n .e (some (.i .i64 (last + 1))) .e) (some (.i .i64 (L.length : Int))) .e) none .e))) : T D) _
            (repeat' first | exact Rel.e | refine Rel.some ?_ ?_ ?_ | refine Rel.none ?_ ?_ | refine Rel.ee ?_ ?_)
            all_goals show Fz _ _ _ _
            all_goals first | exact .pu trivial | exact .pu hpt | exact .kpt (show _ < 5 by simp [Pos.nat]) | exact .kmp (show _ < 5 by simp [Pos.nat])
          · show Rel _ _ ((.n (.n (.n .e (some (seC (L.getD j default))) .e) (some (wkC last hs step lv ms (.lst 10 (rows seaD L)))) .e) (some (wkC last hs step lv ms (.lst 10 (rows seaD L)))) (.n .e (some (.map ((insE ((4 : Int), L.getD j default 4) F).map pD))) .e)) : T C) _
            (repeat' first | exact Rel.e | refine Rel.some ?_ ?_ ?_ | refine Rel.none ?_ ?_ | refine Rel.ee ?_ ?_)
            all_goals first
              | exact RO'.of (show _ < 5 by simp [Pos.nat]) (wkC_sh _ _ _ _ _ _ hpt)
              | exact RO'.of (show _ < 5 by simp [Pos.nat]) mapC_sh
              | exact RO'.of (show _ < 5 by simp [Pos.nat]) (ShC.kp (seC_kp _ _))
        · repeat' first | ((first | (with_reducible first | apply WB.tt | apply WB.ff) | apply Rn.seq | apply Rn.reg | apply Rn.drw | apply Rn.blk | apply Rn.skip | apply Rn.ret | apply Rn.exit | apply Rn.cond rfl | refine i64_ (by omega) (by omega) ?_ | refine ne0_ (by omega) ?_ | refine WIx.intsN (by omega) ?_ | refine WIx.rowsN (by omega) ?_) <;> conv => whnf)
          refine WSt.ixaN rfl rfl rfl (by omega) ?_; conv => whnf
          repeat' first | ((first | (with_reducible first | apply WB.tt | apply WB.ff) | apply Rn.seq | apply Rn.reg | apply Rn.drw | apply Rn.blk | apply Rn.skip | apply Rn.ret | apply Rn.exit | apply Rn.cond rfl | refine i64_ (by omega) (by omega) ?_ | refine ne0_ (by omega) ?_ | refine WIx.intsN (by omega) ?_ | refine WIx.rowsN (by omega) ?_) <;> conv => whnf)
          refine WSt.mupE (p := ((5 : Int), L.getD j default 5)) rfl rfl rfl rfl rfl ⟨wq, wc⟩ hwI ?_; conv => whnf
          repeat' first | ((first | (with_reducible first | apply WB.tt | apply WB.ff) | apply Rn.seq | apply Rn.reg | apply Rn.drw | apply Rn.blk | apply Rn.skip | apply Rn.ret | apply Rn.exit | apply Rn.cond rfl | refine i64_ (by omega) (by omega) ?_ | refine ne0_ (by omega) ?_ | refine WIx.intsN (by omega) ?_ | refine WIx.rowsN (by omega) ?_) <;> conv => whnf)
          refine Again.to (5 + 1) (by omega) (by omega) (Nat.le_refl _) ?_
          rw [hsuc]
          refine Shr.of ?_ ?_ rfl rfl
          · show Rel _ _ ((.n (.n (.n .e (some (.mp (.i .h))) (.n (.n .e (some (.i .i64 ((5 + 1 : Nat) : Int))) .e) (some (.i .i64 (j : Int))) .e)) (some (.pt (.o .h) 0 0)) (.n (.n .e (some (.lst 10 (rows seaD L))) .e) (some (.pt (.o (.o .h)) 0 0)) .e)) none (.n .e none (.n (.n (.n .e (some (.i .i64 (last + 1))) .e) (some (.i .i64 (L.length : Int))) .e) none .e))) : T D) _
            (repeat' first | exact Rel.e | refine Rel.some ?_ ?_ ?_ | refine Rel.none ?_ ?_ | refine Rel.ee ?_ ?_)
            all_goals show Fz _ _ _ _
            all_goals first | exact .pu trivial | exact .pu hpt | exact .kpt (show _ < 5 by simp [Pos.nat]) | exact .kmp (show _ < 5 by simp [Pos.nat])
          · show Rel _ _ ((.n (.n (.n .e (some (seC (L.getD j default))) .e) (some (wkC last hs step lv ms (.lst 10 (rows seaD L)))) .e) (some (wkC last hs step lv ms (.lst 10 (rows seaD L)))) (.n .e (some (.map ((insE ((5 : Int), L.getD j default 5) F).map pD))) .e)) : T C) _
            (repeat' first | exact Rel.e | refine Rel.some ?_ ?_ ?_ | refine Rel.none ?_ ?_ | refine Rel.ee ?_ ?_)
            all_goals first
              | exact RO'.of (show _ < 5 by simp [Pos.nat]) (wkC_sh _ _ _ _ _ _ hpt)
              | exact RO'.of (show _ < 5 by simp [Pos.nat]) mapC_sh
              | exact RO'.of (show _ < 5 by simp [Pos.nat]) (ShC.kp (seC_kp _ _))
        · repeat' first | ((first | (with_reducible first | apply WB.tt | apply WB.ff) | apply Rn.seq | apply Rn.reg | apply Rn.drw | apply Rn.blk | apply Rn.skip | apply Rn.ret | apply Rn.exit | apply Rn.cond rfl | refine i64_ (by omega) (by omega) ?_ | refine ne0_ (by omega) ?_ | refine WIx.intsN (by omega) ?_ | refine WIx.rowsN (by omega) ?_) <;> conv => whnf)
          refine WSt.ixaN rfl rfl rfl (by omega) ?_; conv => whnf
          repeat' first | ((first | (with_reducible first | apply WB.tt | apply WB.ff) | apply Rn.seq | apply Rn.reg | apply Rn.drw | apply Rn.blk | apply Rn.skip | apply Rn.ret | apply Rn.exit | apply Rn.cond rfl | refine i64_ (by omega) (by omega) ?_ | refine ne0_ (by omega) ?_ | refine WIx.intsN (by omega) ?_ | refine WIx.rowsN (by omega) ?_) <;> conv => whnf)
          refine WSt.mupE (p := ((6 : Int), L.getD j default 6)) rfl rfl rfl rfl rfl ⟨wq, wc⟩ hwI ?_; conv => whnf
          repeat' first | ((first | (with_reducible first | apply WB.tt | apply WB.ff) | apply Rn.seq | apply Rn.reg | apply Rn.drw | apply Rn.blk | apply Rn.skip | apply Rn.ret | apply Rn.exit | apply Rn.cond rfl | refine i64_ (by omega) (by omega) ?_ | refine ne0_ (by omega) ?_ | refine WIx.intsN (by omega) ?_ | refine WIx.rowsN (by omega) ?_) <;> conv => whnf)
          refine Again.to (6 + 1) (by omega) (by omega) (Nat.le_refl _) ?_
          rw [hsuc]
          refine Shr.of ?_ ?_ rfl rfl
          · show Rel _ _ ((.n (.n (.n .e (some (.mp (.i .h))) (.n (.n .e (some (.i .i64 ((6 + 1 : Nat) : Int))) .e) (some (.i .i64 (j : Int))) .e)) (some (.pt (.o .h) 0 0)) (.n (.n .e (some (.lst 10 (rows seaD L))) .e) (some (.pt (.o (.o .h)) 0 0)) .e)) none (.n .e none (.n (.n (.n .e (some (.i .i64 (last + 1))) .e) (some (.i .i64 (L.length : Int))) .e) none .e))) : T D) _
            (repeat' first | exact Rel.e | refine Rel.some ?_ ?_ ?_ | refine Rel.none ?_ ?_ | refine Rel.ee ?_ ?_)
            all_goals show Fz _ _ _ _
            all_goals first | exact .pu trivial | exact .pu hpt | exact .kpt (show _ < 5 by simp [Pos.nat]) | exact .kmp (show _ < 5 by simp [Pos.nat])
          · show Rel _ _ ((.n (.n (.n .e (some (seC (L.getD j default))) .e) (some (wkC last hs step lv ms (.lst 10 (rows seaD L)))) .e) (some (wkC last hs step lv ms (.lst 10 (rows seaD L)))) (.n .e (some (.map ((insE ((6 : Int), L.getD j default 6) F).map pD))) .e)) : T C) _
            (repeat' first | exact Rel.e | refine Rel.some ?_ ?_ ?_ | refine Rel.none ?_ ?_ | refine Rel.ee ?_ ?_)
            all_goals first
              | exact RO'.of (show _ < 5 by simp [Pos.nat]) (wkC_sh _ _ _ _ _ _ hpt)
              | exact RO'.of (show _ < 5 by simp [Pos.nat]) mapC_sh
              | exact RO'.of (show _ < 5 by simp [Pos.nat]) (ShC.kp (seC_kp _ _))
        · repeat' first | ((first | (with_reducible first | apply WB.tt | apply WB.ff) | apply Rn.seq | apply Rn.reg | apply Rn.drw | apply Rn.blk | apply Rn.skip | apply Rn.ret | apply Rn.exit | apply Rn.cond rfl | refine i64_ (by omega) (by omega) ?_ | refine ne0_ (by omega) ?_ | refine WIx.intsN (by omega) ?_ | refine WIx.rowsN (by omega) ?_) <;> conv => whnf)
          refine WSt.ixaN rfl rfl rfl (by omega) ?_; conv => whnf
          repeat' first | ((first | (with_reducible first | apply WB.tt | apply WB.ff) | apply Rn.seq | apply Rn.reg | apply Rn.drw | apply Rn.blk | apply Rn.skip | apply Rn.ret | apply Rn.exit | apply Rn.cond rfl | refine i64_ (by omega) (by omega) ?_ | refine ne0_ (by omega) ?_ | refine WIx.intsN (by omega) ?_ | refine WIx.rowsN (by omega) ?_) <;> conv => whnf)
          refine WSt.mupE (p := ((7 : Int), L.getD j default 7)) rfl rfl rfl rfl rfl ⟨wq, wc⟩ hwI ?_; conv => whnf
          repeat' first | ((first | (with_reducible first | apply WB.tt | apply WB.ff) | apply Rn.seq | apply Rn.reg | apply Rn.drw | apply Rn.blk | apply Rn.skip | apply Rn.ret | apply Rn.exit | apply Rn.cond rfl | refine i64_ (by omega) (by omega) ?_ | refine ne0_ (by omega) ?_ | refine WIx.intsN (by omega) ?_ | refine WIx.rowsN (by omega) ?_) <;> conv => whnf)
          refine Again.to (7 + 1) (by omega) (by omega) (Nat.le_refl _) ?_
          rw [hsuc]
          refine Shr.of ?_ ?_ rfl rfl
          · show Rel _ _ ((.n (.n (.n .e (some (.mp (.i .h))) (.n (.n .e (some (.i .i64 ((7 + 1 : Nat) : Int))) .e) (some (.i .i64 (j : Int))) .e)) (some (.pt (.o .h) 0 0)) (.n (.n .e (some (.lst 10 (rows seaD L))) .e) (some (.pt (.o (.o .h)) 0 0)) .e)) none (.n .e none (.n (.n (.n .e (some (.i .i64 (last + 1))) .e) (some (.i .i64 (L.length : Int))) .e) none .e))) : T D) _
            (repeat' first | exact Rel.e | refine Rel.some ?_ ?_ ?_ | refine Rel.none ?_ ?_ | refine Rel.ee ?_ ?_)
            all_goals show Fz _ _ _ _
            all_goals first | exact .pu trivial | exact .pu hpt | exact .kpt (show _ < 5 by simp [Pos.nat]) | exact .kmp (show _ < 5 by simp [Pos.nat])
          · show Rel _ _ ((.n (.n (.n .e (some (seC (L.getD j default))) .e) (some (wkC last hs step lv ms (.lst 10 (rows seaD L)))) .e) (some (wkC last hs step lv ms (.lst 10 (rows seaD L)))) (.n .e (some (.map ((insE ((7 : Int), L.getD j default 7) F).map pD))) .e)) : T C) _
            (repeat' first | exact Rel.e | refine Rel.some ?_ ?_ ?_ | refine Rel.none ?_ ?_ | refine Rel.ee ?_ ?_)
            all_goals first
              | exact RO'.of (show _ < 5 by simp [Pos.nat]) (wkC_sh _ _ _ _ _ _ hpt)
              | exact RO'.of (show _ < 5 by simp [Pos.nat]) mapC_sh
              | exact RO'.of (show _ < 5 by simp [Pos.nat]) (ShC.kp (seC_kp _ _))
        · repeat' first | ((first | (with_reducible first | apply WB.tt | apply WB.ff) | apply Rn.seq | apply Rn.reg | apply Rn.drw | apply Rn.blk | apply Rn.skip | apply Rn.ret | apply Rn.exit | apply Rn.cond rfl | refine i64_ (by omega) (by omega) ?_ | refine ne0_ (by omega) ?_ | refine WIx.intsN (by omega) ?_ | refine WIx.rowsN (by omega) ?_) <;> conv => whnf)
          refine WSt.ixaN rfl rfl rfl (by omega) ?_; conv => whnf
          repeat' first | ((first | (with_reducible first | apply WB.tt | apply WB.ff) | apply Rn.seq | apply Rn.reg | apply Rn.drw | apply Rn.blk | apply Rn.skip | apply Rn.ret | apply Rn.exit | apply Rn.cond rfl | refine i64_ (by omega) (by omega) ?_ | refine ne0_ (by omega) ?_ | refine WIx.intsN (by omega) ?_ | refine WIx.rowsN (by omega) ?_) <;> conv => whnf)
          refine WSt.mupE (p := ((8 : Int), L.getD j default 8)) rfl rfl rfl rfl rfl ⟨wq, wc⟩ hwI ?_; conv => whnf
          repeat' first | ((first | (with_reducible first | apply WB.tt | apply WB.ff) | apply Rn.seq | apply Rn.reg | apply Rn.drw | apply Rn.blk | apply Rn.skip | apply Rn.ret | apply Rn.exit | apply Rn.cond rfl | refine i64_ (by omega) (by omega) ?_ | refine ne0_ (by omega) ?_ | refine WIx.intsN (by omega) ?_ | refine WIx.rowsN (by omega) ?_) <;> conv => whnf)
          refine Again.to (8 + 1) (by omega) (by omega) (Nat.le_refl _) ?_
          rw [hsuc]
          refine Shr.of ?_ ?_ rfl rfl
          · show Rel _ _ ((.n (.n (.n .e (some (.mp (.i .h))) (.n (.n .e (some (.i .i64 ((8 + 1 : Nat) : Int))) .e) (some (.i .i64 (j : Int))) .e)) (some (.pt (.o .h) 0 0)) (.n (.n .e (some (.lst 10 (rows seaD L))) .e) (some (.pt (.o (.o .h)) 0 0)) .e)) none (.n .e none (.n (.n (.n .e (some (.i .i64 (last + 1))) .e) (some (.i .i64 (L.length : Int))) .e) none .e))) : T D) _
            (repeat' first | exact Rel.e | refine Rel.some ?_ ?_ ?_ | refine Rel.none ?_ ?_ | refine Rel.ee ?_ ?_)
            all_goals show Fz _ _ _ _
            all_goals first | exact .pu trivial | exact .pu hpt | exact .kpt (show _ < 5 by simp [Pos.nat]) | exact .kmp (show _ < 5 by simp [Pos.nat])
          · show Rel _ _ ((.n (.n (.n .e (some (seC (L.getD j default))) .e) (some (wkC last hs step lv ms (.lst 10 (rows seaD L)))) .e) (some (wkC last hs step lv ms (.lst 10 (rows seaD L)))) (.n .e (some (.map ((insE ((8 : Int), L.getD j default 8) F).map pD))) .e)) : T C) _
            (repeat' first | exact Rel.e | refine Rel.some ?_ ?_ ?_ | refine Rel.none ?_ ?_ | refine Rel.ee ?_ ?_)
            all_goals first
              | exact RO'.of (show _ < 5 by simp [Pos.nat]) (wkC_sh _ _ _ _ _ _ hpt)
              | exact RO'.of (show _ < 5 by simp [Pos.nat]) mapC_sh
              | exact RO'.of (show _ < 5 by simp [Pos.nat]) (ShC.kp (seC_kp _ _))
        · repeat' first | ((first | (with_reducible first | apply WB.tt | apply WB.ff) | apply Rn.seq | apply Rn.reg | apply Rn.drw | apply Rn.blk | apply Rn.skip | apply Rn.ret | apply Rn.exit | apply Rn.cond rfl | refine i64_ (by omega) (by omega) ?_ | refine ne0_ (by omega) ?_ | refine WIx.intsN (by omega) ?_ | refine WIx.rowsN (by omega) ?_) <;> conv => whnf)
          refine WSt.ixaN rfl rfl rfl (by omega) ?_; conv => whnf
          repeat' first | ((first | (with_reducible first | apply WB.tt | apply WB.ff) | apply Rn.seq | apply Rn.reg | apply Rn.drw | apply Rn.blk | apply Rn.skip | apply Rn.ret | apply Rn.exit | apply Rn.cond rfl | refine i64_ (by omega) (by omega) ?_ | refine ne0_ (by omega) ?_ | refine WIx.intsN (by omega) ?_ | refine WIx.rowsN (by omega) ?_) <;> conv => whnf)
          refine WSt.mupE (p := ((9 : Int), L.getD j default 9)) rfl rfl rfl rfl rfl ⟨wq, wc⟩ hwI ?_; conv => whnf
          repeat' first | ((first | (with_reducible first | apply WB.tt | apply WB.ff) | apply Rn.seq | apply Rn.reg | apply Rn.drw | apply Rn.blk | apply Rn.skip | apply Rn.ret | apply Rn.exit | apply Rn.cond rfl | refine i64_ (by omega) (by omega) ?_ | refine ne0_ (by omega) ?_ | refine WIx.intsN (by omega) ?_ | refine WIx.rowsN (by omega) ?_) <;> conv => whnf)
          refine Again.to (9 + 1) (by omega) (by omega) (Nat.le_refl _) ?_
          rw [hsuc]
          refine Shr.of ?_ ?_ rfl rfl
          · show Rel _ _ ((.n (.n (.n .e (some (.mp (.i .h))) (.n (.n .e (some (.i .i64 ((9 + 1 : Nat) : Int))) .e) (some (.i .i64 (j : Int))) .e)) (some (.pt (.o .h) 0 0)) (.n (.n .e (some (.lst 10 (rows seaD L))) .e) (some (.pt (.o (.o .h)) 0 0)) .e)) none (.n .e none (.n (.n (.n .e (some (.i .i64 (last + 1))) .e) (some (.i .i64 (L.length : Int))) .e) none .e))) : T D) _
            (repeat' first | exact Rel.e | refine Rel.some ?_ ?_ ?_ | refine Rel.none ?_ ?_ | refine Rel.ee ?_ ?_)
            all_goals show Fz _ _ _ _
            all_goals first | exact .pu trivial | exact .pu hpt | exact .kpt (show _ < 5 by simp [Pos.nat]) | exact .kmp (show _ < 5 by simp [Pos.nat])
          · show Rel _ _ ((.n (.n (.n .e (some (seC (L.getD j default))) .e) (some (wkC last hs step lv ms (.lst 10 (rows seaD L)))) .e) (some (wkC last hs step lv ms (.lst 10 (rows seaD L)))) (.n .e (some (.map ((insE ((9 : Int), L.getD j default 9) F).map pD))) .e)) : T C) _
            (repeat' first | exact Rel.e | refine Rel.some ?_ ?_ ?_ | refine Rel.none ?_ ?_ | refine Rel.ee ?_ ?_)
            all_goals first
              | exact RO'.of (show _ < 5 by simp [Pos.nat]) (wkC_sh _ _ _ _ _ _ hpt)
              | exact RO'.of (show _ < 5 by simp [Pos.nat]) mapC_sh
              | exact RO'.of (show _ < 5 by simp [Pos.nat]) (ShC.kp (seC_kp _ _))
      · have hqn : q = n := by omega
        subst hqn
        repeat' first | ((first | (with_reducible first | apply WB.tt | apply WB.ff) | apply Rn.seq | apply Rn.reg | apply Rn.drw | apply Rn.blk | apply Rn.skip | apply Rn.ret | apply Rn.exit | apply Rn.cond rfl | refine i64_ (by omega) (by omega) ?_ | refine ne0_ (by omega) ?_ | refine WIx.intsN (by omega) ?_ | refine WIx.rowsN (by omega) ?_) <;> conv => whnf)
        refine Again.to (j + 1) (by omega) (by omega) (Nat.le_refl _) ?_
        rw [hnext]
        refine Shr.of ?_ ?_ rfl rfl
        · show Rel _ _ ((.n (.n (.n .e (some (.mp (.i .h))) (.n .e (some (.i .i64 ((j + 1 : Nat) : Int))) .e)) (some (.pt (.o .h) 0 0)) (.n (.n .e (some (.lst 10 (rows seaD L))) .e) none .e)) none (.n .e none (.n (.n .e (some (.i .i64 (L.length : Int))) .e) none .e))) : T D) _
          (repeat' first | exact Rel.e | refine Rel.some ?_ ?_ ?_ | refine Rel.none ?_ ?_ | refine Rel.ee ?_ ?_)
          all_goals show Fz _ _ _ _
          all_goals first | exact .pu trivial | exact .pu hpt | exact .kpt (show _ < 4 by simp [Pos.nat]) | exact .kmp (show _ < 4 by simp [Pos.nat])
        · show Rel _ _ ((.n (.n .e (some (wkC last hs step lv ms (.lst 10 (rows seaD L)))) .e) (some (wkC last hs step lv ms (.lst 10 (rows seaD L)))) (.n .e (some (.map ((metI (L.getD j default) q E).map pD))) .e)) : T C) _
          (repeat' first | exact Rel.e | refine Rel.some ?_ ?_ ?_ | refine Rel.none ?_ ?_ | refine Rel.ee ?_ ?_)
          all_goals first
            | exact RO'.of (show _ < 4 by simp [Pos.nat]) (wkC_sh _ _ _ _ _ _ hpt)
            | exact RO'.of (show _ < 4 by simp [Pos.nat]) mapC_sh
            | exact RO'.of (show _ < 4 by simp [Pos.nat]) (ShC.kp (seC_kp _ _))
    · have he := hend (by omega)
      rw [he] at hwf ⊢
      repeat' first | ((first | (with_reducible first | apply WB.tt | apply WB.ff) | apply Rn.seq | apply Rn.reg | apply Rn.drw | apply Rn.blk | apply Rn.skip | apply Rn.ret | apply Rn.exit | apply Rn.cond rfl | refine i64_ (by omega) (by omega) ?_ | refine ne0_ (by omega) ?_ | refine WIx.intsN (by omega) ?_ | refine WIx.rowsN (by omega) ?_) <;> conv => whnf)
      refine ⟨_, _, ⟨rfl, rfl⟩, ⟨.inr rfl, ⟨_, rfl, .kmp (show _ < 4 by simp [Pos.nat])⟩, ?_⟩⟩
      refine Shr.of ?_ ?_ rfl rfl
      · exact Rel.e
      · show Rel _ _ ((.n .e (some (wkC last hs step lv ms (.lst 10 (rows seaD L)))) (.n .e (some (.map ((metE L n).map pD))) .e)) : T C) _
        (repeat' first | exact Rel.e | refine Rel.some ?_ ?_ ?_ | refine Rel.none ?_ ?_ | refine Rel.ee ?_ ?_)
        all_goals first
          | exact RO'.of (show _ < 4 by simp [Pos.nat]) (wkC_sh _ _ _ _ _ _ hpt)
          | exact RO'.of (show _ < 4 by simp [Pos.nat]) mapC_sh)
  exact C
end Go.Ev
