import Derived.Test.YtkbgaadfednjpaaGreatDoorEvU5f
import Derived.Test.YtkbgaadfednjpaaGreatDoorEvU4p
import Derived.Test.YtkbgaadfednjpaaGreatDoorEvUIt
import Derived.Test.YtkbgaadfednjpaaGreatDoorEvU4b
import Derived.Test.YtkbgaadfednjpaaGreatDoorEvU4h
import Derived.Test.YtkbgaadfednjpaaGreatDoorEvURn
set_option linter.all false
set_option maxHeartbeats 8000000
noncomputable section
namespace Go.Ev
open Go.Proofs
set_option maxRecDepth 100000
theorem AN (b : Bh) (L : List (List Int)) (hb : i64 b.last) (h1 : L.length ≤ 1000) (h2 : ∀ w ∈ L, w.length ≤ 1000) : PureF Tryz.prog p82.ix [.ag (dR b), .lst 1 (aD eO L)] (.b (nJ b L)) := by
  have hb1 := hb.1
  have hb2 := hb.2
  by_cases h : b.last + 1 ≤ 9223372036854775807
  · exact uR b L ⟨by omega, h⟩ h1 h2
  have hl : b.last = 9223372036854775807 := by omega
  have hp : nJ b L = false := by
    unfold nJ
    rw [decide_eq_false (by omega)]; rfl
  have e1 := aK eO L
  rw [hp]
  refine PureF.run Jf (by simp) (by simp [aO, Pu, aM, aG]) ?_; conv => whnf
  refine Rn.seq ?_; conv => whnf
  refine Rn.reg ?_; conv => whnf
  refine Rn.seq ?_; conv => whnf
  refine Rn.regN 5 ?_; conv => whnf
  refine WReg.cons (GR.add (m := b.last) (n := 1) (v := -9223372036854775808) (by rfl) (by rfl) (by rw [hl]; rfl)) ?_
  refine WReg.at ?_; conv => whnf
  repeat' first | ((first | refine Qz ?_ | with_reducible (first | refine Qm ?_ | refine Qn ?_ | refine Qo ?_ | refine Qp ?_ | refine WB.nt ?_ | refine WB.nf ?_ | refine WB.dec (fun h => ?_) (fun h => ?_) | refine WB.ndec (fun h => ?_) (fun h => ?_)) | refine WB.mk (fun h => ?_) (fun h => ?_)) <;> conv => whnf) | (refine WB.tt ?_; conv => whnf) | (refine WB.ff ?_; conv => whnf)
  exact Fin.b rfl rfl
theorem ED {b : Bh} (h : dJ b = true) : ∀ i, i < (b.last + 1).toNat → aI b i ≠ [] := fun i hi => by
  obtain ⟨c, hc, _⟩ := List.any_eq_true.1 h
  have h1 := (lU.1 hc).1 i (Nat.zero_le _) (by unfold hrs; omega)
  intro e
  rw [e] at h1
  cases h1
theorem HH (d l : Nat) : Int.tmod (d : Int) (l : Int) = ((d % l : Nat) : Int) := by
  rw [Int.tmod_eq_emod_of_nonneg (by omega), Int.natCast_emod]
def EZ (ws : List (List Int)) (m : Nat) : Nat → Nat
  | 0 => m
  | j + 1 => EZ ws m j / (ws.getD j default).length
def Ck (ws : List (List Int)) (m : Nat) (j : Nat) : List Int := (List.range j).map fun i => (ws.getD i default).getD (EZ ws m i % (ws.getD i default).length) 0
theorem EP (ws : List (List Int)) (m j : Nat) : (Ck ws m j).length = j := by simp [Ck]
def Nm (b : Bh) (m : Nat) : List Int := Ck b.winds m b.winds.length
def Hw (b : Bh) (j : Nat) : List (List Int) := ((List.range j).map (Nm b)).filter (EC b)
def Gn (b : Bh) : Nat := (gR b.winds b.winds.length).toNat
def AO (b : Bh) : List (List Int) := Hw b (Gn b)
structure Thn (b : Bh) : Prop where
  f : ThF b
  m : aR b = 0 → 0 ≤ gR b.winds b.winds.length ∧ gR b.winds b.winds.length ≤ 80
  w7 : b.winds.length ≤ 7
  w5 : ∀ w ∈ b.winds, w.length ≤ 5
theorem Bv {b : Bh} (h : kK b = true) : Thn b := by
  have F := GU h
  unfold kK at h
  simp only [Bool.and_eq_true, Bool.or_eq_true, decide_eq_true_iff] at h
  obtain ⟨a1, a2, a3, a4, a5, a6⟩ := h
  obtain ⟨b1, b2⟩ := sQ a3
  refine ⟨F, fun hf => ?_, b1, b2⟩
  rcases a6 with a6 | a6
  · exact absurd hf a6
  · exact ⟨(sT b2 _ (Nat.le_refl _)).1, a6⟩
def Na (lo hi : Int) : List D := [.i .i64 lo, .i .i64 hi]
theorem iY (lo hi : Int) : aO (Na lo hi) := ⟨trivial, trivial, trivial⟩
instance : Inhabited Hr := ⟨⟨0, 0, 0⟩⟩
theorem IsMn.congr {l m : List Int} {a : Int} (h : IsMn l a) (k : ∀ x, x ∈ l ↔ x ∈ m) : IsMn m a := ⟨(k a).1 h.1, fun x hx => h.2 x ((k x).2 hx)⟩
theorem IsMx.congr {l m : List Int} {a : Int} (h : IsMx l a) (k : ∀ x, x ∈ l ↔ x ∈ m) : IsMx m a := ⟨(k a).1 h.1, fun x hx => h.2 x ((k x).2 hx)⟩
theorem vF (w : List Int) (ws : List (List Int)) (m : Nat) : ∀ j, EZ (w :: ws) m (j + 1) = EZ ws (m / w.length) j
  | 0 => rfl
  | j + 1 => by
    show EZ (w :: ws) m (j + 1) / ((w :: ws).getD (j + 1) default).length = EZ ws (m / w.length) j / (ws.getD j default).length
    rw [vF w ws m j]; rfl
theorem Bo (w : List Int) (ws : List (List Int)) (m j : Nat) : Ck (w :: ws) m (j + 1) = w.getD (m % w.length) 0 :: Ck ws (m / w.length) j := by
  unfold Ck
  rw [List.range_succ_eq_map, List.map_cons, List.map_map]
  congr 1
  refine List.map_congr_left fun i _ => ?_
  show ((w :: ws).getD (i + 1) default).getD (EZ (w :: ws) m (i + 1) % ((w :: ws).getD (i + 1) default).length) 0 = _
  rw [vF]; rfl
def DO : List (List Int) → Nat
  | [] => 1
  | w :: ws => w.length * DO ws
theorem sC (w : List Int) (ws : List (List Int)) : ∀ j, gR (w :: ws) (j + 1) = (w.length : Int) * gR ws j
  | 0 => by
    show (1 : Int) * ((w :: ws).getD 0 default).length = (w.length : Int) * 1
    simp
  | j + 1 => by
    show gR (w :: ws) (j + 1) * (((w :: ws).getD (j + 1) default).length : Int) = (w.length : Int) * (gR ws j * ((ws.getD j default).length : Int))
    rw [sC w ws j, Int.mul_assoc]; rfl
theorem vE : ∀ ws : List (List Int), gR ws ws.length = (DO ws : Int)
  | [] => rfl
  | w :: ws => by
    show gR (w :: ws) (ws.length + 1) = _
    rw [sC, vE ws]
    exact (Int.natCast_mul _ _).symm
theorem Dx (b : Bh) : Gn b = DO b.winds := by unfold Gn; rw [vE]; exact Int.toNat_natCast _
theorem Ca : ∀ (ws : List (List Int)) (t : List Int), t.length = ws.length → (∀ i, i < ws.length → t.getD i 0 ∈ ws.getD i default) → ∃ n, n < DO ws ∧ Ck ws n ws.length = t
  | [], t, h, _ => ⟨0, by decide, by cases t with | nil => rfl | cons _ _ => simp at h⟩
  | w :: ws, [], h, _ => by simp at h
  | w :: ws, a :: t, h, k => by
    obtain ⟨n, h1, h2⟩ := Ca ws t (by simpa using h) fun i hi => k (i + 1) (by simpa using hi)
    obtain ⟨i, hi, ei⟩ := xI (d := (0 : Int)) (k 0 (by simp))
    have hi : i < w.length := hi
    have ei : w.getD i 0 = a := ei
    have hw : 0 < w.length := by omega
    have e1 : (i + w.length * n) % w.length = i := by rw [Nat.add_mul_mod_self_left, Nat.mod_eq_of_lt hi]
    have e2 : (i + w.length * n) / w.length = n := by rw [Nat.add_mul_div_left _ _ hw, Nat.div_eq_of_lt hi]; omega
    refine ⟨i + w.length * n, ?_, ?_⟩
    · show i + w.length * n < w.length * DO ws
      have := Nat.mul_le_mul_left w.length h1
      rw [Nat.succ_eq_add_one, Nat.mul_add] at this
      omega
    · show Ck (w :: ws) _ (ws.length + 1) = _
      rw [Bo, e1, e2, h2, ei]
theorem mJ {b : Bh} (V : VW b) {t : List Int} : t ∈ AO b ↔ TruP b t := by
  unfold AO Hw
  rw [List.mem_filter, List.mem_map]
  constructor
  · rintro ⟨_, h⟩
    exact (qC V).1 h
  · intro h
    refine ⟨?_, (qC V).2 h⟩
    have hl := h.len
    rw [V.hrs] at hl
    obtain ⟨n, h1, h2⟩ := Ca b.winds t hl fun i hi => (fX.1 (h.mem i (by rw [V.hrs]; exact hi))).1
    exact ⟨n, List.mem_range.2 (by rw [Dx]; exact h1), h2⟩
theorem Df {b : Bh} (V : VW b) : AO b ≠ [] ↔ dJ b = true := by
  constructor
  · intro h
    cases hb : AO b with
    | nil => exact absurd hb h
    | cons t ts =>
      have h1 := (tI V).2 ((mJ V).1 (by rw [hb]; simp : t ∈ AO b))
      unfold EY at h1
      obtain ⟨c, hc, _⟩ := List.any_eq_true.1 h1
      exact List.any_eq_true.2 ⟨c, hc, rfl⟩
  · intro h e
    obtain ⟨c, hc, _⟩ := List.any_eq_true.1 h
    have h1 : EY b ((KQ c).take (hrs b)) = true := List.any_eq_true.2 ⟨c, hc, by simp⟩
    have h2 := (mJ V).2 ((tI V).1 h1)
    rw [e] at h2
    cases h2
section
variable {b : Bh} {S : Nat → Nat → Int} {P : List (Int × Int)} {κ : Hr → Int} {f : List Int → Int}
end
structure Kap (κ : Hr → Int) : Prop where
  z : κ ⟨0, 0, 0⟩ = 0
  a : ∀ x y, κ (Gj x y) = κ x + κ y
  b : ∀ (x : Hr) (n : Int), (0 ≤ x.sun ∧ x.sun ≤ n) ∧ (0 ≤ x.calm ∧ x.calm ≤ n) ∧ (0 ≤ x.good ∧ x.good ≤ n) → 0 ≤ κ x ∧ κ x ≤ n
theorem Kap.sun : Kap fun x => x.sun := ⟨rfl, fun _ _ => rfl, fun _ _ h => h.1⟩
theorem Kap.calm : Kap fun x => x.calm := ⟨rfl, fun _ _ => rfl, fun _ _ h => h.2.1⟩
theorem Kap.good : Kap fun x => x.good := ⟨rfl, fun _ _ => rfl, fun _ _ h => h.2.2⟩
theorem jW : ∀ {es : List (List D)}, (∀ x ∈ es, FitL [.i .i64] x) → ∃ l : List Int, es = ints l
  | [], _ => ⟨[], rfl⟩
  | x :: es, h => by
    obtain ⟨l, rfl⟩ := jW (es := es) fun y hy => h y (by simp [hy])
    have h1 := h x (by simp)
    simp only [FitL, fC] at h1
    obtain ⟨d, ds, rfl, ⟨n1, rfl, w1⟩, rfl⟩ := h1
    exact ⟨n1 :: l, rfl⟩
theorem pP : ∀ {es : List (List D)}, (∀ x ∈ es, FitL [.sl [.i .i64]] x) → ∃ l : List (List Int), es = aD eO l
  | [], _ => ⟨[], rfl⟩
  | x :: es, h => by
    obtain ⟨l, rfl⟩ := pP (es := es) fun y hy => h y (by simp [hy])
    have h1 := h x (by simp)
    simp only [FitL, fC] at h1
    obtain ⟨d, ds, rfl, ⟨e1, rfl, k1⟩, rfl⟩ := h1
    obtain ⟨w, rfl⟩ := jW fun x hx => by have := k1 x hx; simpa only [FitL, fC] using this
    exact ⟨w :: l, rfl⟩
theorem sZ : ∀ {es : List (List D)}, (∀ x ∈ es, FitL [.i .i64, .i .i64] x) → ∃ l : List (Int × Int), es = aD bC l
  | [], _ => ⟨[], rfl⟩
  | x :: es, h => by
    obtain ⟨l, rfl⟩ := sZ (es := es) fun y hy => h y (by simp [hy])
    have h1 := h x (by simp)
    simp only [FitL, fC] at h1
    obtain ⟨d, ds, rfl, ⟨n1, rfl, w1⟩, d2, ds2, rfl, ⟨n2, rfl, w2⟩, rfl⟩ := h1
    exact ⟨(n1, n2) :: l, rfl⟩
theorem FitP.wins {ps : List (Bool × List CK)} {ds : List D} (h : FitP ((false, [.sl [.sl [.i .i64]]]) :: ps) ds) : ∃ (t : List (List Int)) (ds' : List D), ds = .lst 1 (aD eO t) :: ds' ∧ FitP ps ds' := by
  unfold FitP at h
  obtain ⟨d, ds', rfl, h1, h2⟩ := h
  simp only [FitL, fC] at h1
  obtain ⟨d, ds, e, ⟨es, rfl, h1⟩, rfl⟩ := h1
  cases e
  obtain ⟨l, rfl⟩ := pP fun x hx => by have := h1 x hx; simpa only [FitL, fC] using this
  exact ⟨l, ds', rfl, h2⟩
theorem qL {n : Int} (h : (Lit.int .i64 n).wf = true) : i64 n := by
  simp only [Lit.wf, Bool.and_eq_true, decide_eq_true_eq] at h
  exact ⟨h.1, h.2⟩
theorem FitP.beachW {ps : List (Bool × List CK)} {ds : List D} (h : FitP ((true, [.i .i64, .i .i64, .i .i64, .i .i64, .sl [.i .i64], .sl [.i .i64], .sl [.sl [.i .i64]], .sl [.i .i64, .i .i64], .sl [.i .i64, .i .i64]]) :: ps) ds) : ∃ (b : Bh) (ds' : List D), ds = .ag (dR b) :: ds' ∧ (i64 b.last ∧ i64 b.rws ∧ i64 b.pls) ∧ FitP ps ds' := by
  unfold FitP at h
  obtain ⟨es, ds', rfl, h1, h2⟩ := h
  simp only [FitL, fC] at h1
  obtain ⟨d, ds, rfl, ⟨n1, rfl, w1⟩, d2, ds2, rfl, ⟨n2, rfl, w2⟩, d3, ds3, rfl, ⟨n3, rfl, w3⟩, d4, ds4, rfl, ⟨n4, rfl, _⟩, d5, ds5, rfl, ⟨e5, rfl, k5⟩, d6, ds6, rfl, ⟨e6, rfl, k6⟩, d7, ds7, rfl, ⟨e7, rfl, k7⟩, d8, ds8, rfl, ⟨e8, rfl, k8⟩, d9, ds9, rfl, ⟨e9, rfl, k9⟩, rfl⟩ := h1
  obtain ⟨l5, rfl⟩ := jW fun x hx => by have := k5 x hx; simpa only [FitL, fC] using this
  obtain ⟨l6, rfl⟩ := jW fun x hx => by have := k6 x hx; simpa only [FitL, fC] using this
  obtain ⟨l7, rfl⟩ := pP fun x hx => by have := k7 x hx; simpa only [FitL, fC] using this
  obtain ⟨l8, rfl⟩ := sZ fun x hx => by have := k8 x hx; simpa only [FitL, fC] using this
  obtain ⟨l9, rfl⟩ := sZ fun x hx => by have := k9 x hx; simpa only [FitL, fC] using this
  exact ⟨⟨n1, n2, n3, n4, l5, l6, l7, l8, l9⟩, ds', rfl, ⟨qL w1, qL w2, qL w3⟩, h2⟩
set_option maxRecDepth 1000000
set_option maxRecDepth 100000
theorem FH (l : List (List Bnd)) : cZ (aD nO l) := fK oA l
theorem FX (l : List Bnd) : cZ (aD LG l) := fK In l
instance : Inhabited Bnd := ⟨⟨0, 0, 0, 0, 0⟩⟩
theorem Fi {b : Bh} (h : aR b = 0) : qO b true false = 11 := if_pos h
theorem Ik {b : Bh} (h : aR b = 0) : qO b true true = 0 := if_pos h
open Go.RowKit (Below Grown)
theorem PureF.memO {P : Program} {f : FuncId} {es ds : List D} {v v' : D} {ob' : T C} {nx' : Pos} {lg' : Option (T Bool)} (K : CallOk P f es .e .h none v ob' nx' lg') (hz : Ep ob' 12 v = some v') (hds : FzL (fun _ => False) .e ds es) : PureF P f ds v' := by
 intro ob nx lg
 refine ⟨LgLe.refl _, Nat.le_refl _, Keeps.refl _ _, fun so hs γ args w gh hargs hob hnx => ?_⟩
 let γs : Gh := ⟨fun _ => 0, fun _ _ => (0, 0), fun b => γ.im b \/ ((∃ id st, st < γ.cur id /\ (γ.β id st).1 = b) /\ ∃ vs e fr, w.heap[b]? = some (.cells vs e fr))⟩
 have hargs' : DVL γs w es args.toList := by
  have h1 : DV γ w (.tp ds) (.tuple args) := by unfold DV; exact ⟨args, rfl, hargs⟩
  have h2 := Fz.ok (P := P) (γ := γ) (γ' := γs) (B := fun _ => False) (fun b hb => .inl hb) (ob := .e) (fun id c hc => by rw [T.get_e] at hc; cases hc) (fun _ h => h.elim) (fun id st vs e fr _ hst hc => .inr ⟨⟨id, st, hst, rfl⟩, vs, e, fr, hc⟩) (.tp hds) _ h1
  obtain ⟨vs, e, h3⟩ := qD h2
  cases e
  exact h3
 obtain ⟨c1, c2⟩ := K.ok (fun _ => True) (fun _ _ => trivial) γs args w ⟨fun _ st h => absurd h (Nat.not_lt_zero st), fun _ st _ _ h => absurd h (Nat.not_lt_zero st), fun b hb => ⟨by
  rcases hb with hb | hb
  ·exact (gh.im b hb).1
  ·exact hb.2, fun _ st h => absurd h (Nat.not_lt_zero st)⟩, gh.gl.im fun _ h => .inl h⟩ hargs' (fun id c _ hc => by rw [T.get_e] at hc; cases hc) (fun _ _ _ => rfl)
 refine ⟨c1, fun ro m R hR => c2 ro m R fun γ' w' u gh' F hu hob' _ => ?_⟩
 have hb : ∀ b, b < w.heap.size -> w'.heap[b]? = w.heap[b]? := fun b hb => F.blk b hb fun id st _ hst => absurd hst (Nat.not_lt_zero st)
 have hnew : ∀ id st, st < γ'.cur id -> w.heap.size <= (γ'.β id st).1 := fun id st hst => by
  rcases F.new id st (Nat.zero_le _) hst with h | ⟨gB, h, _⟩
  ·exact h
  ·exact absurd h (Nat.not_lt_zero gB)
 let γ2 : Gh := ⟨γ.cur, γ.β, fun b => γ.im b \/ ((∃ id st, st < γ'.cur id /\ (γ'.β id st).1 = b) /\ ∃ vs e fr, w'.heap[b]? = some (.cells vs e fr))⟩
 have U : Up γ γ2 w w' := ⟨fun _ => Nat.le_refl _, fun _ _ _ => rfl, F.up.3, fun b hm => ⟨.inl hm, fun o ho => by rw [hb b (Array.getElem?_eq_some_iff.1 ho).1]; exact ho⟩⟩
 have U0 : Up γ γ w w' := ⟨fun _ => Nat.le_refl _, fun _ _ _ => rfl, F.up.3, fun b hm => ⟨hm, fun o ho => by rw [hb b (Array.getElem?_eq_some_iff.1 ho).1]; exact ho⟩⟩
 refine hR γ2 w' u ⟨fun id st hst => Nat.lt_of_lt_of_le (gh.ob id st hst) F.size, gh.inj, fun b hm => ?_, (gh.gl.up U0).im fun _ h => .inl h⟩ ⟨U, fun _ _ => rfl, fun b h1 _ => hb b h1, fun _ _ h1 h2 => absurd h2 (by show ¬ _ < γ.cur _; omega), fun b hm hlt => ?_, F.lp, F.size, F.os, F.tape, F.output, F.fz⟩
  (xF (γ := γ') (γ' := γ2) (fun id c hc => hob' id c trivial hc) (fun id st vs e fr hst hc => .inr ⟨⟨id, st, hst, rfl⟩, vs, e, fr, hc⟩) hz u hu)
  (fun id c hid hc => HoldsO.mono U rfl (fun st hst => hb _ (gh.ob id st hst)) (hob id c hid hc)) hnx
 ·rcases hm with hm | ⟨⟨id', st', h1, h2⟩, h3⟩
  ·refine ⟨let ⟨⟨vs, e, fr, k1⟩, _⟩ := gh.im b hm; ⟨vs, e, fr, (U0.im b hm).2 _ k1⟩, (gh.im b hm).2⟩
  ·refine ⟨h3, fun id st hst e => ?_⟩
   have hlt := gh.ob id st hst
   have e : (γ.β id st).1 = b := e
   have := hnew id' st' h1
   omega
 ·rcases hm with hm | ⟨⟨id', st', h1, h2⟩, h3⟩
  ·exact hm
  ·have := hnew id' st' h1
   omega
theorem PureF.mem {P : Program} {FP : T RF} (hFP : FPok P FP) {n : Nat} {f : Pos} {es ds : List D} {v : D} (h : dW P FP n f es = some v) (hds : FzL (fun _ => False) .e ds es) : PureF P f.ix ds v := by
 unfold dW at h
 split at h
 ·rename_i y hy
  obtain ⟨v', ob', nx', lg', h1, C⟩ := hO hFP (oU hFP n).1 hy
  split at h1
  ·rename_i d hd
   cases h1
   rw [T.get_set_same] at h
   cases h
   exact PureF.memO C hd hds
  ·cases h1
 ·cases h
end Go.Ev
end
