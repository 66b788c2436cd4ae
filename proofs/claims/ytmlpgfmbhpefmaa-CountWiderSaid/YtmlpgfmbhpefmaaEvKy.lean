import Derived.Test.YtmlpgfmbhpefmaaEvKr
import Derived.Test.YtmlpgfmbhpefmaaEvKw
set_option linter.all false
namespace Go.Ev
open Go.RowKit (Below Grown)
section
variable {P : Program} {nt : Nat}
open Classical in
theorem shrinkB_at {x Z Z' : X} {B : Pos → Prop} {ro : Option Nat} {so : Pos → Prop} {γ γ1 : Gh} {a a1 : Act} {w w1 : World} (S : ShrB B Z Z') (hx : ∀ id : Pos, id.nat < x.nx.nat → B id) (hz : ∀ id : Pos, B id → id.nat < Z'.nx.nat) (hall : ∀ id, so id) (R : Rep P (allS so) γ a w x) (cst : CSt ro Z.lg γ a w γ1 a1 w1) (rep : Rep P (allS so) γ1 a1 w1 Z) :
    ∃ γ2, CSt ro Z'.lg γ a w γ2 a1 w1 ∧ Rep P (allS so) γ2 a1 w1 Z' := by
  have hzero : ∀ id, ¬ B id → γ.cur id = 0 := fun id hid => R.nx id (hall id) (Nat.not_lt.1 fun h => hid (hx id h))
  let γ2 : Gh := ⟨fun id => if B id then γ1.cur id else 0, γ1.β, fun b => γ1.im b ∨ ((∃ id st, ¬ B id ∧ st < γ1.cur id ∧ (γ1.β id st).1 = b) ∧ ∃ vs e fr, w1.heap[b]? = some (.cells vs e fr))⟩
  have c2 : ∀ id, B id → γ2.cur id = γ1.cur id := fun id hid => by show (if _ then _ else _) = _; rw [if_pos hid]
  have c2' : ∀ id, ¬ B id → γ2.cur id = 0 := fun id hid => by show (if _ then _ else _) = _; rw [if_neg hid]
  have lt2 : ∀ id st, st < γ2.cur id → B id ∧ st < γ1.cur id := fun id st hst => by
    by_cases hid : B id
    · rw [c2 id hid] at hst; exact ⟨hid, hst⟩
    · rw [c2' id hid] at hst; exact absurd hst (Nat.not_lt_zero _)
  have hob1 : ∀ id c, Z.ob.get id = some c → HoldsO P γ1 w1 id c := fun id c hc => rep.ob id c (hall id) hc
  have fz : ∀ d d', Fz B Z.ob d d' → ∀ v, DV γ1 w1 d v → DV γ2 w1 d' v := fun d d' hf =>
    Fz.ok (γ := γ1) (γ' := γ2) (fun b hb => .inl hb) hob1 (fun id hid => ⟨c2 id hid, rfl⟩) (fun id st vs e fr hid hst hc => .inr ⟨⟨id, st, hid, hst, rfl⟩, vs, e, fr, hc⟩) hf
  have F := cst.fr
  have fresh : ∀ id st, ¬ B id → st < γ1.cur id → w.heap.size ≤ (γ1.β id st).1 := fun id st hid hst => by
    rcases F.new id st (by rw [hzero id hid]; exact Nat.zero_le _) hst with h | ⟨st0, h, _⟩
    · exact h
    · rw [hzero id hid] at h; exact absurd h (Nat.not_lt_zero _)
  have G2 : G ro γ2 a1 w1 := by
    refine ⟨fun id st hst => cst.g.ob id st (lt2 id st hst).2, fun id st id' st' hst hst' he => cst.g.inj id st id' st' (lt2 id st hst).2 (lt2 id' st' hst').2 he, ?_, cst.g.rd, fun b hb => ?_⟩
    · obtain ⟨ms, d1, d2, d3⟩ := cst.g.df
      exact ⟨ms, d1, d2, fun r hr => ⟨(d3 r hr).1, fun id st hst => (d3 r hr).2 id st (lt2 id st hst).2⟩⟩
    · rcases hb with hb | ⟨⟨id', st', h1, h2, h3⟩, h4⟩
      · exact ⟨(cst.g.im b hb).1, fun id st hst => (cst.g.im b hb).2 id st (lt2 id st hst).2⟩
      · refine ⟨h4, fun id st hst e => ?_⟩
        obtain ⟨k1, k2⟩ := lt2 id st hst
        have e : (γ1.β id st).1 = b := e
        obtain ⟨rfl, _⟩ := cst.g.inj id st id' st' k2 h2 (e.trans h3.symm)
        exact h1 k1
  have hw : ∀ {id : Pos}, wrtn Z'.lg id := fun {id} => by rw [S.l']; trivial
  have hwZ : ∀ {id : Pos}, wrtn Z.lg id := fun {id} => by rw [S.l]; trivial
  refine ⟨γ2, ⟨G2, ⟨⟨fun id => ?_, fun id st hst => F.up.β id st hst, F.up.sh, fun b hb => ⟨.inl (F.up.im b hb).1, (F.up.im b hb).2⟩⟩, fun id hn => absurd hw hn, fun b hb hn => F.blk b hb fun id st _ hst => hn id st hw hst, fun id st h1 h2 => F.new id st h1 (lt2 id st h2).2, fun b hb hlt => ?_, F.lp, F.size, F.os, F.tape, F.output, F.fz⟩, cst.sz, cst.dn⟩,
    ⟨fun s d' _ hd => ?_, fun id c' _ hc => ?_, fun id _ hle => c2' id fun hb => by have := hz id hb; omega⟩⟩
  · by_cases hid : B id
    · rw [c2 id hid]; exact F.up.cur id
    · rw [hzero id hid]; exact Nat.zero_le _
  · rcases hb with hb | ⟨⟨id', st', h1, h2, h3⟩, h4⟩
    · exact F.imn b hb hlt
    · have := fresh id' st' h1 h2
      omega
  · obtain ⟨d, h1, h2⟩ := S.sl s d' hd
    obtain ⟨h3, h4⟩ := rep.sl s d trivial h1
    exact ⟨h3, fz d d' h2 _ h4⟩
  · obtain ⟨hid, c, h1, h2⟩ := S.ob id c' hc
    have H := hob1 id c h1
    cases h2 with
    | cells hcc =>
      obtain ⟨q0, q1, q2⟩ := H
      refine ⟨q0, (c2 id hid).trans q1, fun st hst => ?_⟩
      obtain ⟨vs, e, fr, q3, q4, q5⟩ := q2 st hst
      refine ⟨vs, e, fr, q3, q4, fun p c' hp hh hd => ?_⟩
      obtain ⟨c, k1, k2, k3⟩ := hcc p c' hp
      obtain ⟨u, k4, k5, k6⟩ := q5 p c k1 (k2 st hh) hd
      exact ⟨u, k4, fz _ _ k3 u k5, k6⟩
    | map hl hm =>
      obtain ⟨q1, en, cl, q2, q3, q4⟩ := H
      refine ⟨(c2 id hid).trans q1, en, cl, q2, by rw [← hl]; exact q3, fun i e' f he' hf => ?_⟩
      rename_i es es'
      have hi : i < es.length := by rw [hl]; exact (List.getElem?_eq_some_iff.1 he').1
      obtain ⟨k1, k2⟩ := hm i _ e' (List.getElem?_eq_getElem hi) he'
      obtain ⟨k3, k4⟩ := q4 i _ f (List.getElem?_eq_getElem hi) hf
      exact ⟨fz _ _ k1 _ k3, fz _ _ k2 _ k4⟩
    | lp hsl =>
      obtain ⟨q1, l, q2, q3, q4, q5, q6⟩ := H
      refine ⟨(c2 id hid).trans q1, l, q2, q3, q4, fun s d' hs => ?_, q6⟩
      obtain ⟨d, k1, k2⟩ := hsl s d' hs
      exact ⟨(q5 s d k1).1, fz _ _ k2 _ (q5 s d k1).2⟩
/-- As bare, for walks. -/
theorem bareW : ∀ c : Code, ∃ c', comp P nt c' = comp P nt c ∧ (∀ d, c' ≠ .scope d) ∧ ∀ {F : Fence} {n : Nat} {Q : Exit → Act → World → Prop} {a : Act} {w : World}, ∃ Q' : Exit → Act → World → Prop, (∀ (e : Ex) a w, Q e.to a w → Q' e.to a w) ∧ (c'.wpIn F n P Q' a w → c.wpIn F n P Q a w)
  | .scope c => let ⟨c', h1, h2, h3⟩ := bareW c; ⟨c', h1, h2, fun {F n Q a w} => by
    obtain ⟨Q', k1, k2⟩ := h3 (F := F) (n := n) (Q := Exit.noGoto Q) (a := a) (w := w)
    exact ⟨Q', fun e a w h => k1 e a w (by cases e <;> exact h), fun h => wpIn_scope_straight' (k2 h)⟩⟩
  | .skip => ⟨.skip, rfl, (fun _ h => by cases h), fun {F n Q a w} => ⟨Q, fun _ _ _ h => h, fun h => h⟩⟩
  | .label l => ⟨.label l, rfl, (fun _ h => by cases h), fun {F n Q a w} => ⟨Q, fun _ _ _ h => h, fun h => h⟩⟩
  | .ret => ⟨.ret, rfl, (fun _ h => by cases h), fun {F n Q a w} => ⟨Q, fun _ _ _ h => h, fun h => h⟩⟩
  | .exit i => ⟨.exit i, rfl, (fun _ h => by cases h), fun {F n Q a w} => ⟨Q, fun _ _ _ h => h, fun h => h⟩⟩
  | .region i o d => ⟨.region i o d, rfl, (fun _ h => by cases h), fun {F n Q a w} => ⟨Q, fun _ _ _ h => h, fun h => h⟩⟩
  | .seq a b => ⟨.seq a b, rfl, (fun _ h => by cases h), fun {F n Q a w} => ⟨Q, fun _ _ _ h => h, fun h => h⟩⟩
  | .cond c a b => ⟨.cond c a b, rfl, (fun _ h => by cases h), fun {F n Q a w} => ⟨Q, fun _ _ _ h => h, fun h => h⟩⟩
  | .block i a => ⟨.block i a, rfl, (fun _ h => by cases h), fun {F n Q a w} => ⟨Q, fun _ _ _ h => h, fun h => h⟩⟩
  | .loop a => ⟨.loop a, rfl, (fun _ h => by cases h), fun {F n Q a w} => ⟨Q, fun _ _ _ h => h, fun h => h⟩⟩
  | .rangeFunc f p a b => ⟨.rangeFunc f p a b, rfl, (fun _ h => by cases h), fun {F n Q a w} => ⟨Q, fun _ _ _ h => h, fun h => h⟩⟩
  | .goto l => ⟨.goto l, rfl, (fun _ h => by cases h), fun {F n Q a w} => ⟨Q, fun _ _ _ h => h, fun h => h⟩⟩
  | .refuse s => ⟨.refuse s, rfl, (fun _ h => by cases h), fun {F n Q a w} => ⟨Q, fun _ _ _ h => h, fun h => h⟩⟩
theorem XOk.seqB {a b c b2 : Code} {x y z z' Z : X} {ex : Ex} {B : Pos → Prop} (hb : ∀ {F : Fence} {n : Nat} {Q : Exit → Act → World → Prop} {a : Act} {w : World}, ∃ Q' : Exit → Act → World → Prop, (∀ (e : Ex) a w, Q e.to a w → Q' e.to a w) ∧ ((Code.seq b c).wpIn F n P Q' a w → b2.wpIn F n P Q a w))
    (h1 : XOk P nt a x .normal y) (h2 : XOk P nt b y .normal z) (S : ShrB B z z') (hx : ∀ id : Pos, id.nat < x.nx.nat → B id) (hz : ∀ id : Pos, B id → id.nat < z'.nx.nat) (hn : x.nx.nat ≤ z'.nx.nat) (h3 : XOk P nt c z' ex Z) : XOk P nt (.seq a b2) x ex Z := by
  have hl : x.lg = none := (h1.lg.trans h2.lg).none.2 S.l
  have hZ : Z.lg = none := h3.lg.none.1 S.l'
  refine ⟨by rw [hl, hZ]; exact LgLe.refl _, Nat.le_trans hn h3.nx, fun id hn => by rw [hZ] at hn; exact absurd trivial hn, fun so hs ro γ a w hn g R n Q hQ => ?_⟩
  have hall : ∀ id, so id := fun id => hs id (by rw [hZ]; trivial)
  refine wpIn_seq (h1.ok so (fun id _ => hall id) ro γ a w hn g R n _ fun γ1 a1 w1 s1 R1 => ?_)
  obtain ⟨Q', k1, k2⟩ := hb (F := FW ro) (n := n) (Q := Q) (a := a1) (w := w1)
  refine k2 (wpIn_seq (h2.ok so (fun id _ => hall id) ro γ1 a1 w1 (s1.sz.trans hn) s1.g R1 n _ fun γ2 a2 w2 s2 R2 => ?_))
  obtain ⟨γ3, s3, R3⟩ := shrinkB_at S hx hz hall R (CSt.trans h2.lg s1 s2) R2
  exact h3.ok so hs ro γ3 a2 w2 (s3.sz.trans hn) s3.g R3 n Q' fun γ4 a4 w4 s4 R4 => k1 _ _ _ <| hQ γ4 a4 w4 (CSt.trans h3.lg s3 s4) R4
/-- Behind the first two statements, what they have made is forgotten, or read as a value. -/
structure SeqZ (P : Program) (nt : Nat) (c : RC) (x : X) (K : Ex → X → Prop) (e : Ex) (z : X) : Prop where
  ok : e = .normal ∧ ∃ z' B, ShrB B z z' ∧ (∀ id : Pos, id.nat < x.nx.nat → B id) ∧ (∀ id : Pos, B id → id.nat < z'.nx.nat) ∧ x.nx.nat ≤ z'.nx.nat ∧ Rn P nt c z' K
def seqY (P : Program) (nt : Nat) (b c : RC) (x : X) (K : Ex → X → Prop) (e : Ex) (y : X) : Prop :=
  match e with
  | .normal => Rn P nt b y (SeqZ P nt c x K)
  | .ret => False
  | .exit _ => False
theorem Rn.seqB {a b c : RC} {x : X} {K : Ex → X → Prop} (h : Rn P nt a x (seqY P nt b c x K)) : Rn P nt (.seq a (.seq b c)) x K := Rn.of_bare fun code hc hs => by
  refine other hc hs (fun e => by cases e) (fun _ e => by cases e) (fun j _ e => by cases e) (fun i ops _ e => by cases e) (fun i ops _ e => by cases e) (fun a' b2 e e' => ?_) (fun _ _ _ _ _ _ e => by cases e) (fun _ _ _ e => by cases e) (fun _ _ e => by cases e) (fun _ _ _ _ _ _ _ _ _ e => by cases e) (fun e => by cases e)
  simp only [RC.seq.injEq] at e'
  obtain ⟨e1, e2⟩ := e'
  subst e
  obtain ⟨c1, k1, k2, k3⟩ := bareW (P := P) (nt := nt) b2
  refine other (k1.trans e2.symm) k2 (fun e => by cases e) (fun _ e => by cases e) (fun j _ e => by cases e) (fun i ops _ e => by cases e) (fun i ops _ e => by cases e) (fun b' c' e e' => ?_) (fun _ _ _ _ _ _ e => by cases e) (fun _ _ _ e => by cases e) (fun _ _ e => by cases e) (fun _ _ _ _ _ _ _ _ _ e => by cases e) (fun e => by cases e)
  simp only [RC.seq.injEq] at e'
  obtain ⟨e3, e4⟩ := e'
  subst e
  obtain ⟨e, y, h1, h2⟩ := h.ok a' e1.symm
  cases e with
  | normal =>
    obtain ⟨e, z, h3, h4⟩ := h2.ok b' e3.symm
    obtain ⟨rfl, z', B, S, q1, q2, q3, h5⟩ := h4.ok
    obtain ⟨e, Z, h6, h7⟩ := h5.ok c' e4.symm
    exact ⟨e, Z, XOk.seqB k3 h1 h3 S q1 q2 q3 h6, h7⟩
  | ret => exact absurd h2 (fun h => h)
  | exit i => exact absurd h2 (fun h => h)
end
end Go.Ev

namespace Go.Ev
open Go.Proofs
set_option maxRecDepth 100000
theorem pre0 {l : List Int} (h : 0 < l.length) : ∃ a0 r, l = a0 :: r := by
  match l, h with
  | a0 :: r, _ => exact ⟨a0, r, rfl⟩
theorem pre1 {l : List Int} (h : 1 < l.length) : ∃ a0 a1 r, l = a0 :: a1 :: r := by
  match l, h with
  | a0 :: a1 :: r, _ => exact ⟨a0, a1, r, rfl⟩
theorem pre2 {l : List Int} (h : 2 < l.length) : ∃ a0 a1 a2 r, l = a0 :: a1 :: a2 :: r := by
  match l, h with
  | a0 :: a1 :: a2 :: r, _ => exact ⟨a0, a1, a2, r, rfl⟩
theorem pre3 {l : List Int} (h : 3 < l.length) : ∃ a0 a1 a2 a3 r, l = a0 :: a1 :: a2 :: a3 :: r := by
  match l, h with
  | a0 :: a1 :: a2 :: a3 :: r, _ => exact ⟨a0, a1, a2, a3, r, rfl⟩
theorem pre4 {l : List Int} (h : 4 < l.length) : ∃ a0 a1 a2 a3 a4 r, l = a0 :: a1 :: a2 :: a3 :: a4 :: r := by
  match l, h with
  | a0 :: a1 :: a2 :: a3 :: a4 :: r, _ => exact ⟨a0, a1, a2, a3, a4, r, rfl⟩
theorem pre5 {l : List Int} (h : 5 < l.length) : ∃ a0 a1 a2 a3 a4 a5 r, l = a0 :: a1 :: a2 :: a3 :: a4 :: a5 :: r := by
  match l, h with
  | a0 :: a1 :: a2 :: a3 :: a4 :: a5 :: r, _ => exact ⟨a0, a1, a2, a3, a4, a5, r, rfl⟩
theorem pre6 {l : List Int} (h : 6 < l.length) : ∃ a0 a1 a2 a3 a4 a5 a6 r, l = a0 :: a1 :: a2 :: a3 :: a4 :: a5 :: a6 :: r := by
  match l, h with
  | a0 :: a1 :: a2 :: a3 :: a4 :: a5 :: a6 :: r, _ => exact ⟨a0, a1, a2, a3, a4, a5, a6, r, rfl⟩
theorem pre7 {l : List Int} (h : 7 < l.length) : ∃ a0 a1 a2 a3 a4 a5 a6 a7 r, l = a0 :: a1 :: a2 :: a3 :: a4 :: a5 :: a6 :: a7 :: r := by
  match l, h with
  | a0 :: a1 :: a2 :: a3 :: a4 :: a5 :: a6 :: a7 :: r, _ => exact ⟨a0, a1, a2, a3, a4, a5, a6, a7, r, rfl⟩
theorem pre8 {l : List Int} (h : 8 < l.length) : ∃ a0 a1 a2 a3 a4 a5 a6 a7 a8 r, l = a0 :: a1 :: a2 :: a3 :: a4 :: a5 :: a6 :: a7 :: a8 :: r := by
  match l, h with
  | a0 :: a1 :: a2 :: a3 :: a4 :: a5 :: a6 :: a7 :: a8 :: r, _ => exact ⟨a0, a1, a2, a3, a4, a5, a6, a7, a8, r, rfl⟩

theorem WSt.ixsO {sl : T D} {ob : T C} {nx : Pos} {lg : Option (T Bool)} {K : X → Prop} {d id : Pos} {len st m : Nat} {k : IntKind} {x i : RX} {n : Int} (hx : opd sl x = some (.sl id 0 len st 1)) (hi : opd sl i = some (.i k n)) (hn : n = (m : Int)) (hm : m < len) (h : wOut sl ob nx lg d K (.pt id m st)) : WSt (.ixs d 1 x i) ⟨sl, ob, nx, lg⟩ K := by
  obtain ⟨h2, h3⟩ := wOut_ok h
  refine ⟨_, ?_, h3⟩
  show s_ixs d 1 x i sl ob nx lg = _
  unfold s_ixs
  rw [hx, hi]
  subst hn
  have hidx : idx (m : Int) len = some m := by
    show (bif Nat.blt m len then some m else none) = some m
    rw [show Nat.blt m len = true from Nat.ble_eq_true_of_le hm]; rfl
  have h1 : Nat.add 0 (Nat.mul m 1) = m := by show 0 + m * 1 = m; omega
  simp only [Nat.beq_refl, cond_true, hidx, natK_eq, h1]
  exact h2
/-! ### Wider -/
theorem foldA_in : ∀ (l y : List Int) (L : List (List Int)) (x : List Int), x ∈ L → y.length = l.length → (∀ i, i < l.length → fitB l y i = true) → x ++ y ∈ foldA l L
  | [], y, L, x, hx, hy, _ => by
    rw [List.length_eq_zero_iff.1 hy, List.append_nil]; exact hx
  | a :: l, [], L, x, hx, hy, _ => by cases hy
  | a :: l, b :: y, L, x, hx, hy, hf => by
    have h0 := hf 0 (by simp)
    unfold fitB inB at h0
    simp only [List.getD_cons_zero, Bool.and_eq_true, Bool.or_eq_true, decide_eq_true_eq] at h0
    have hb : x ++ [b] ∈ stepL a L := by
      refine List.mem_flatMap.2 ⟨x, hx, ?_⟩
      have : b = 0 ∨ b = 1 := by omega
      have hok : okB a b = true := by
        unfold okB
        rcases h0.2 with e | e
        · rw [e]; rfl
        · rw [e]; simp
      simp only [exN, List.nil_append, List.mem_append]
      rcases this with rfl | rfl
      · left; rw [show okB a ((0 : Nat) : Int) = true from hok]; simp
      · right; rw [show okB a ((1 : Nat) : Int) = true from hok]; simp
    have := foldA_in l y (stepL a L) (x ++ [b]) hb (by simpa using hy) (fun i hi => by
      have := hf (i + 1) (by simp; omega)
      unfold fitB at *
      simpa only [List.getD_cons_succ] using this)
    rw [List.append_assoc] at this
    exact this
theorem mem_allR {l t : List Int} : t ∈ allR l ↔ isTruthR l t = true := ⟨fun h => allR_truth l t h, fun h => by
  unfold isTruthR at h
  rw [Bool.and_eq_true, decide_eq_true_iff, List.all_eq_true] at h
  have := foldA_in l t [[]] [] (by simp) h.1 (fun i hi => h.2 i (List.mem_range.2 (by omega)))
  exact this⟩
theorem mem_truR' {l : List Int} {cs : List Cnt} {wr off : Int} {t : List Int} : t ∈ truR l cs wr off ↔ isTruthR l t = true ∧ 0 ≤ wrongR cs off t ∧ wrongR cs off t ≤ wr := by
  unfold truR
  rw [List.mem_filter, mem_allR]
  unfold fitR inB
  simp only [Bool.and_eq_true, decide_eq_true_eq]
  constructor
  · rintro ⟨h1, h2, h3⟩; exact ⟨h1, h3⟩
  · rintro ⟨h1, h2⟩; exact ⟨h1, h1, h2⟩
theorem wrongR_off {cs : List Cnt} {off off' : Int} {t : List Int} (h : off ≤ off') (h0 : 0 ≤ wrongR cs off t) : wrongR cs off' t = wrongR cs off t := by
  unfold wrongR at h0 ⊢
  split at h0
  · rename_i h1
    rw [if_pos h1, if_pos]
    rw [List.all_eq_true] at h1 ⊢
    exact fun c hc => decide_eq_true (Int.le_trans (of_decide_eq_true (h1 c hc)) h)
  · cases h0
theorem isTruth_set {l t : List Int} (m : Nat) (h : isTruthR l t = true) : isTruthR (l.set m 2) t = true := by
  unfold isTruthR at h ⊢
  rw [Bool.and_eq_true, decide_eq_true_iff, List.all_eq_true] at h ⊢
  refine ⟨by rw [List.length_set]; exact h.1, fun i hi => ?_⟩
  have := h.2 i hi
  unfold fitB at this ⊢
  rw [Bool.and_eq_true] at this ⊢
  refine ⟨this.1, ?_⟩
  by_cases e : m = i
  · subst e
    have : m < l.length := by have := List.mem_range.1 hi; omega
    simp [List.getD, this]
  · rw [show (l.set m 2).getD i 0 = l.getD i 0 by simp [List.getD, List.getElem?_set_ne e]]
    exact this.2
/-- What is wider. -/
def Wid (l : List Int) (wr off : Int) (l' : List Int) (wr' off' : Int) : Prop := (l' = l ∧ off' = off ∧ wr ≤ wr') ∨ (l' = l ∧ wr' = wr ∧ off ≤ off') ∨ (wr' = wr ∧ off' = off ∧ ∃ m, m < l.length ∧ l' = l.set m 2)
theorem Wid.sub {l l' : List Int} {cs : List Cnt} {wr off wr' off' : Int} (h : Wid l wr off l' wr' off') {t : List Int} (ht : t ∈ truR l cs wr off) : t ∈ truR l' cs wr' off' := by
  rw [mem_truR'] at ht ⊢
  obtain ⟨h1, h2, h3⟩ := ht
  rcases h with ⟨rfl, rfl, h4⟩ | ⟨rfl, rfl, h4⟩ | ⟨rfl, rfl, m, h4, rfl⟩
  · exact ⟨h1, h2, by omega⟩
  · rw [wrongR_off h4 h2]; exact ⟨h1, h2, h3⟩
  · exact ⟨isTruth_set m h1, h2, h3⟩
theorem Wid.len {l l' : List Int} {wr off wr' off' : Int} (h : Wid l wr off l' wr' off') : l'.length = l.length := by
  rcases h with ⟨rfl, _⟩ | ⟨rfl, _⟩ | ⟨_, _, m, _, rfl⟩
  · rfl
  · rfl
  · rw [List.length_set]
theorem c_inside (a b a' b' : Int) (h1 : a' ≤ a) (h2 : b ≤ b') : PureF Try.prog p58.ix [.ag [.i .i64 a, .i .i64 b], .ag [.i .i64 a', .i .i64 b']] (.b true) := by
  refine PureF.run fn57 (by simp) (by simp [PuL, PuE, Pu]) ?_; conv => whnf
  repeat' first | ((with_reducible apply WB.tt); conv => whnf) | ((with_reducible apply WB.ff); conv => whnf) | (refine Rn.seq ?_; conv => whnf) | (refine Rn.reg ?_; conv => whnf) | (refine Rn.drw ?_; conv => whnf) | (refine Rn.blk ?_; conv => whnf) | (refine Rn.skip ?_; conv => whnf) | (refine Rn.ret ?_; conv => whnf) | (refine Rn.exit ?_; conv => whnf) | (refine Rn.cond rfl ?_; conv => whnf) | (refine And.intro (InR.i64 (by omega) (by omega)) ?_; conv => whnf) | (refine And.intro (show _ ≠ (0 : Int) by omega) ?_; conv => whnf) | (refine WIx.intsN (by omega) ?_; conv => whnf) | (refine WIx.rowsN (by omega) ?_; conv => whnf) | ((with_reducible refine WB.decT (by first | with_reducible rfl | assumption | omega | exact ⟨rfl, rfl⟩) ?_); conv => whnf) | ((with_reducible refine WB.decF (by first | assumption | omega) ?_); conv => whnf) | ((with_reducible refine WB.ndT (by first | with_reducible rfl | assumption | omega | exact ⟨rfl, rfl⟩) ?_); conv => whnf) | ((with_reducible refine WB.ndF (by first | assumption | omega) ?_); conv => whnf) | ((with_reducible refine WB.nt ?_); conv => whnf) | ((with_reducible refine WB.nf ?_); conv => whnf) | ((with_reducible refine WB.dec (fun h => ?_) (fun h => ?_)) <;> conv => whnf) | ((with_reducible refine WB.ndec (fun h => ?_) (fun h => ?_)) <;> conv => whnf) | (refine WB.mk (fun h => ?_) (fun h => ?_) <;> conv => whnf)
  exact Fin.b rfl (decide_eq_true h2)
def wdO (l : List Int) (cs : List Cnt) (wr off : Int) : T C := (.n (.n .e (some (rowC l cs wr off)) .e) (some (rowC l cs wr off)) .e)
theorem c_listO (l : List Int) (cs : List Cnt) (wr off : Int) (h0 : 0 < l.length) (hl : l.length ≤ 1000) : CallOk Try.prog p23.ix [.lst 1 (ints l)] (wdO l cs wr off) (.i .h) none (.sl (.i .h) 0 (ints l).length 0 1) (.n (.n .e (some (rowC l cs wr off)) .e) (some (rowC l cs wr off)) (.n .e (some (.cells false ((ints l).flatten.map fun d => Cell.o d 0) 1)) .e)) (.o (.o .h)) none := by
  have e1 := ints_length l
  refine CallOk.run fn22 (by simp) (by simp [Pos.nat]) ?_; conv => whnf
  repeat' first | ((with_reducible apply WB.tt); conv => whnf) | ((with_reducible apply WB.ff); conv => whnf) | (refine Rn.seq ?_; conv => whnf) | (refine Rn.reg ?_; conv => whnf) | (refine Rn.drw ?_; conv => whnf) | (refine Rn.blk ?_; conv => whnf) | (refine Rn.skip ?_; conv => whnf) | (refine Rn.ret ?_; conv => whnf) | (refine Rn.exit ?_; conv => whnf) | (refine Rn.cond rfl ?_; conv => whnf) | (refine And.intro (InR.i64 (by omega) (by omega)) ?_; conv => whnf) | (refine And.intro (show _ ≠ (0 : Int) by omega) ?_; conv => whnf) | (refine WIx.intsN (by omega) ?_; conv => whnf) | (refine WIx.rowsN (by omega) ?_; conv => whnf)
  refine WSt.app_nil rfl (.inl rfl) rfl (ints_one _) (by omega) (fun h => absurd (show (ints l).length = 0 by rw [h]; rfl) (by omega)) (fun _ => ?_); conv => whnf
  repeat' first | ((with_reducible apply WB.tt); conv => whnf) | ((with_reducible apply WB.ff); conv => whnf) | (refine Rn.seq ?_; conv => whnf) | (refine Rn.reg ?_; conv => whnf) | (refine Rn.drw ?_; conv => whnf) | (refine Rn.blk ?_; conv => whnf) | (refine Rn.skip ?_; conv => whnf) | (refine Rn.ret ?_; conv => whnf) | (refine Rn.exit ?_; conv => whnf) | (refine Rn.cond rfl ?_; conv => whnf) | (refine And.intro (InR.i64 (by omega) (by omega)) ?_; conv => whnf) | (refine And.intro (show _ ≠ (0 : Int) by omega) ?_; conv => whnf) | (refine WIx.intsN (by omega) ?_; conv => whnf) | (refine WIx.rowsN (by omega) ?_; conv => whnf)
  refine ⟨.inr rfl, ⟨_, rfl, .ksl (by simp [Pos.nat])⟩, Shr.kp (T.le_refl _) ?_⟩
  show TAll (fun id c => id.nat < 4 ∧ KpC 4 c) _
  repeat' first | exact TAll.e | refine TAll.some ?_ ?_ ?_ | refine TAll.none ?_ ?_
  all_goals refine ⟨by simp [Pos.nat], ?_⟩
  all_goals first
    | exact rowC_kp _ _ _ _ _
    | (intro c hc
       obtain ⟨d, hd, rfl⟩ := List.mem_map.1 hc
       rw [ints_flatten] at hd
       obtain ⟨n, _, rfl⟩ := List.mem_map.1 hd
       simp [Kp, Cell.d, Pu])
def wdZ (l : List Int) (cs : List Cnt) (wr off : Int) (l' : List Int) (wr' off' a b : Int) : X := ⟨(.n (.n (.n .e (some (.i .u8 a)) (.n .e (some (.pt (.o .h) 0 0)) .e)) none (.n .e (some (.pt .h 0 0)) .e)) none (.n (.n .e (some (.i .u8 b)) .e) none .e)), (.n (.n .e (some (rowC l' cs wr' off')) .e) (some (rowC l cs wr off)) .e), .i .h, none⟩
/-- The row's copy, read as a value. -/
theorem shW {l l' : List Int} {cs : List Cnt} {wr off wr' off' a b : Int} {sl : T D} {ob : T C} {nx : Pos}
    (hz : ∃ (cells : List Cell) (len : Nat), sl.get (.o (.o .h)) = some (.i .u8 a) ∧ sl.get (.i (.o .h)) = some (.i .u8 b) ∧ sl.get (.o (.i .h)) = some (.pt .h 0 0) ∧ sl.get (.o (.o (.i .h))) = some (.pt (.o .h) 0 0)
      ∧ ob.get .h = some (rowC l cs wr off) ∧ ob.get (.o .h) = some (.cells false [.o (.sl (.i .h) 0 len 0 1) 0, .o (.lst 3 (rows cntD cs)) 0, .o (.i .i64 wr') 0, .o (.i .i64 off') 0] 1) ∧ ob.get (.i .h) = some (.cells false cells 1) ∧ cells = (ints l').flatten.map (fun d => Cell.o d 0) ∧ len = (ints l').length) :
    ShrB (fun id => id.nat < 3) ⟨sl, ob, nx, none⟩ (wdZ l cs wr off l' wr' off' a b) := by
  obtain ⟨cells, len, h1, h2, h3, h4, h5, h6, h7, h8, h9⟩ := hz
  refine ⟨fun s d hd => ?_, fun id c hc => ?_, rfl, rfl⟩
  · have key : TAll (fun s d => ∃ d0, sl.get s = some d0 ∧ Fz (fun id => id.nat < 3) ob d0 d) (wdZ l cs wr off l' wr' off' a b).sl := by
      show TAll _ ((.n (.n (.n .e (some (.i .u8 a)) (.n .e (some (.pt (.o .h) 0 0)) .e)) none (.n .e (some (.pt .h 0 0)) .e)) none (.n (.n .e (some (.i .u8 b)) .e) none .e)) : T D)
      repeat' first | exact TAll.e | refine TAll.some ?_ ?_ ?_ | refine TAll.none ?_ ?_
      all_goals first
        | exact ⟨_, h1, .pu trivial⟩
        | exact ⟨_, h2, .pu trivial⟩
        | exact ⟨_, h3, .kpt (by simp [Pos.nat])⟩
        | exact ⟨_, h4, .kpt (by simp [Pos.nat])⟩
    exact key s d hd
  · have key : TAll (fun id c => (id.nat < 3) ∧ ∃ c0, ob.get id = some c0 ∧ ShC (fun id => id.nat < 3) ob c0 c) (wdZ l cs wr off l' wr' off' a b).ob := by
      show TAll _ ((.n (.n .e (some (rowC l' cs wr' off')) .e) (some (rowC l cs wr off)) .e) : T C)
      repeat' first | exact TAll.e | refine TAll.some ?_ ?_ ?_ | refine TAll.none ?_ ?_
      all_goals refine ⟨by simp [Pos.nat], ?_⟩
      · refine ⟨_, h6, ShC.of (.cons ⟨fun st h => h, ?_⟩ (.cons ⟨fun st h => h, .pu (pu_cnts _)⟩ (.cons ⟨fun st h => h, .pu trivial⟩ (.cons ⟨fun st h => h, .pu trivial⟩ .nil))))⟩
        exact Fz.grown (s1 := 0) (s2 := 0) (ds := []) (r := (ints l').flatten) (by simp [Pos.nat]) h7 (by rw [h8]; rfl) (Nat.le_refl _) (by simp) h9 (ints_one _) (pu_ints _)
      · exact ⟨_, h5, rowC_sh _ _ _ _⟩
    exact key id c hc
theorem truth_least {l : List Int} {cs : List Cnt} {wr off : Int} (hF : faultR l cs wr off = 0) : truR l cs wr off ≠ [] ↔ 0 ≤ leastF cs off (allR l) ∧ leastF cs off (allR l) ≤ wr := by
  obtain ⟨b1, _, b3⟩ := best_spec cs off (allR l) (-1)
  constructor
  · intro h
    obtain ⟨t, ht⟩ := List.exists_mem_of_ne_nil _ h
    obtain ⟨h1, h2, h3⟩ := mem_truR'.1 ht
    have := b3 t (mem_allR.2 h1) h2
    unfold leastF
    omega
  · rintro ⟨h1, h2⟩ h
    unfold leastF at h1 h2
    rcases b1 with b1 | ⟨t, ht, hw, b1⟩
    · omega
    · have : t ∈ truR l cs wr off := mem_truR'.2 ⟨mem_allR.1 ht, hw, by omega⟩
      rw [h] at this
      cases this
end Go.Ev
