import Derived.Test.YtkbgaadfednjpaaGreatDoorEvU5e
import Derived.Test.YtkbgaadfednjpaaGreatDoorEvU4o
import Derived.Test.YtkbgaadfednjpaaGreatDoorEvUIt
import Derived.Test.YtkbgaadfednjpaaGreatDoorEvU4b
import Derived.Test.YtkbgaadfednjpaaGreatDoorEvU4h
import Derived.Test.YtkbgaadfednjpaaGreatDoorEvURn
set_option linter.all false
set_option maxHeartbeats 8000000
noncomputable section
namespace Go.Ev
open Go.Proofs
set_option maxRecDepth 100000
theorem uI (g : Int → Int → Int) (hg : ∀ x y, g x y = x ∨ g x y = y) {lo hi : Int} : ∀ (L : List Int) (a : Int), lo ≤ a ∧ a ≤ hi → (∀ x ∈ L, lo ≤ x ∧ x ≤ hi) → lo ≤ L.foldl g a ∧ L.foldl g a ≤ hi
  | [], _, ha, _ => ha
  | x :: L, a, ha, h => by
    rw [List.foldl_cons]
    refine uI g hg L (g a x) ?_ fun y hy => h y (by simp [hy])
    rcases hg a x with e | e <;> rw [e]
    · exact ha
    · exact h x (by simp)
theorem FZ (x y : Int) : min x y = x ∨ min x y = y := by omega
theorem Hs (x y : Int) : max x y = x ∨ max x y = y := by omega
theorem pX {f : Nat → Int} (hf : ∀ h, 0 ≤ f h ∧ f h ≤ 50) (l : Nat) : ∀ h : Nat, 0 ≤ gD f l h ∧ gD f l h ≤ 50 * h
  | 0 => by simp [gD]
  | h + 1 => by
    have h1 := pX hf l h
    have h2 := hf h
    unfold gD
    split <;> omega
structure KOk (kf : Pos) (κ : Hr → Int) : Prop where
  c : ∀ x, PureF Tryz.prog kf.ix [.ag (tO x)] (.i .i64 (κ x))
  bd : ∀ (x : Hr) (n : Int), (0 ≤ x.sun ∧ x.sun ≤ n) ∧ (0 ≤ x.calm ∧ x.calm ≤ n) ∧ (0 ≤ x.good ∧ x.good ≤ n) → 0 ≤ κ x ∧ κ x ≤ n
theorem KOk.sun : KOk p133 (fun x => x.sun) := ⟨Hl, fun _ _ h => h.1⟩
theorem KOk.calm : KOk p103 (fun x => x.calm) := ⟨EH, fun _ _ h => h.2.1⟩
theorem KOk.good : KOk p105 (fun x => x.good) := ⟨Ey, fun _ _ h => h.2.2⟩
theorem AH {kf : Pos} {κ : Hr → Int} (K : KOk kf κ) (b : Bh) (S : Nat → Nat → Int) (P : List (Int × Int)) (hP : P.length ≤ 50) (h : Nat) : ∀ x ∈ kV b S P κ h, 0 ≤ x ∧ x ≤ 50 := fun x hx => by
  obtain ⟨d, _, rfl⟩ := List.mem_map.1 hx
  have h1 := K.bd _ _ (zV b S P h d P.length)
  show 0 ≤ κ (qN b S P h d P.length) ∧ κ (qN b S P h d P.length) ≤ 50
  omega
theorem CY {L : List Int} (h : ∀ x ∈ L, 0 ≤ x ∧ x ≤ 50) : 0 ≤ L.getD 0 0 ∧ L.getD 0 0 ≤ 50 := by
  cases L with
  | nil => decide
  | cons a L => exact h a (by simp)
theorem CM {kf : Pos} {κ : Hr → Int} (K : KOk kf κ) (b : Bh) (S : Nat → Nat → Int) (P : List (Int × Int)) (hP : P.length ≤ 50) (h : Nat) : 0 ≤ pB b S P κ h ∧ pB b S P κ h ≤ 50 :=
  uI min FZ _ _ (CY (AH K b S P hP h)) (AH K b S P hP h)
theorem BM {kf : Pos} {κ : Hr → Int} (K : KOk kf κ) (b : Bh) (S : Nat → Nat → Int) (P : List (Int × Int)) (hP : P.length ≤ 50) (h : Nat) : 0 ≤ oV b S P κ h ∧ oV b S P κ h ≤ 50 :=
  uI max Hs _ _ (CY (AH K b S P hP h)) (AH K b S P hP h)
def Nu (b : Bh) (S : Nat → Nat → Int) (P : List (Int × Int)) (κ : Hr → Int) (l m : Nat) : List D := [.i .i64 (gD (pB b S P κ) l (l + m)), .i .i64 (gD (oV b S P κ) l (l + m))]
theorem Ku (b : Bh) (V : VW b) (S : Nat → Nat → Int) {kf : Pos} {κ : Hr → Int} (K : KOk kf κ) (P : List (Int × Int)) (hP : ∀ p ∈ P, dN b p = true) (l4 : b.brk.length ≤ 1000) (hPl : P.length ≤ 50) (l m : Nat) (hi : Int) (hhi : hi = ((l + m : Nat) : Int) - 1) (hm : l + m ≤ (b.last + 1).toNat) (l6 : ∀ w ∈ b.winds, w.length ≤ 1000) (l5 : b.nts.length ≤ 1000) (hne : ∀ h, h < (b.last + 1).toNat → aH b h ≠ []) : PureF Tryz.prog p102.ix [.ag (eF b), .ag (kK S), .ag (BO kf P l hi)] (.ag (Nu b S P κ l m)) := by
  have q := V.last
  exact CA b V S kf κ K.c P hP l4 hPl l m hi hhi hm l6 l5 hne (fun h hh => by have := pX (CM K b S P hPl) l h; omega) (fun h hh => by have := pX (BM K b S P hPl) l h; omega)
theorem ES {b : Bh} (h : kL b = true) : ∀ i, i < (b.last + 1).toNat → aH b i ≠ [] := fun i hi => by
  obtain ⟨c, hc, _⟩ := List.any_eq_true.1 h
  have h1 := (mA.1 hc).1 i (Nat.zero_le _) (by unfold hrs; omega)
  intro e
  rw [e] at h1
  cases h1
theorem Fl (d l : Nat) : Int.tmod (d : Int) (l : Int) = ((d % l : Nat) : Int) := by
  rw [Int.tmod_eq_emod_of_nonneg (by omega), Int.natCast_emod]
def Fk (ws : List (List Int)) (m : Nat) : Nat → Nat
  | 0 => m
  | j + 1 => Fk ws m j / (ws.getD j default).length
def CB (ws : List (List Int)) (m : Nat) (j : Nat) : List Int := (List.range j).map fun i => (ws.getD i default).getD (Fk ws m i % (ws.getD i default).length) 0
theorem Fe (ws : List (List Int)) (m j : Nat) : (CB ws m j).length = j := by simp [CB]
def Og (b : Bh) (m : Nat) : List Int := CB b.winds m b.winds.length
def HG (b : Bh) (j : Nat) : List (List Int) := ((List.range j).map (Og b)).filter (Gz b)
def Gw (b : Bh) : Nat := (gQ b.winds b.winds.length).toNat
def Dg (b : Bh) : List (List Int) := HG b (Gw b)
theorem VW.win {b : Bh} (V : VW b) (l6 : ∀ w ∈ b.winds, w.length ≤ 1000) : ∀ w ∈ b.winds, 0 < w.length ∧ w.length ≤ 1000 := fun w hw => ⟨(iN.1 (List.all_eq_true.1 V.wins _ hw)).2.1, l6 w hw⟩
structure Thn (b : Bh) : Prop where
  f : ThF b
  m : bB b = 0 → 0 ≤ gQ b.winds b.winds.length ∧ gQ b.winds b.winds.length ≤ 80
  w7 : b.winds.length ≤ 7
  w5 : ∀ w ∈ b.winds, w.length ≤ 5
theorem BN {b : Bh} (h : kP b = true) : Thn b := by
  have F := He h
  unfold kP at h
  simp only [Bool.and_eq_true, Bool.or_eq_true, decide_eq_true_iff] at h
  obtain ⟨a1, a2, a3, a4, a5, a6⟩ := h
  obtain ⟨b1, b2⟩ := tF a3
  refine ⟨F, fun hf => ?_, b1, b2⟩
  rcases a6 with a6 | a6
  · exact absurd hf a6
  · exact ⟨(tI b2 _ (Nat.le_refl _)).1, a6⟩
def FD (lo hi : Int) : List D := [.i .i64 lo, .i .i64 hi]
theorem kS (lo hi : Int) : aQ (FD lo hi) := ⟨trivial, trivial, trivial⟩
def NR (lo hi : Int) : C := .cells false [.o (.i .i64 lo) 0, .o (.i .i64 hi) 0] 1
theorem KG {B : Pos → Prop} {ob : T C} {lo hi : Int} : ShC B ob (NR lo hi) (NR lo hi) := by
  refine ShC.same ?_
  (repeat' first | exact ShC.nl | refine ShC.cn ?_ ?_) <;> exact .pu trivial
instance : Inhabited Hr := ⟨⟨0, 0, 0⟩⟩
theorem IsMn.congr {l m : List Int} {a : Int} (h : IsMn l a) (k : ∀ x, x ∈ l ↔ x ∈ m) : IsMn m a := ⟨(k a).1 h.1, fun x hx => h.2 x ((k x).2 hx)⟩
theorem IsMx.congr {l m : List Int} {a : Int} (h : IsMx l a) (k : ∀ x, x ∈ l ↔ x ∈ m) : IsMx m a := ⟨(k a).1 h.1, fun x hx => h.2 x ((k x).2 hx)⟩
theorem vU (w : List Int) (ws : List (List Int)) (m : Nat) : ∀ j, Fk (w :: ws) m (j + 1) = Fk ws (m / w.length) j
  | 0 => rfl
  | j + 1 => by
    show Fk (w :: ws) m (j + 1) / ((w :: ws).getD (j + 1) default).length = Fk ws (m / w.length) j / (ws.getD j default).length
    rw [vU w ws m j]; rfl
theorem BH (w : List Int) (ws : List (List Int)) (m j : Nat) : CB (w :: ws) m (j + 1) = w.getD (m % w.length) 0 :: CB ws (m / w.length) j := by
  unfold CB
  rw [List.range_succ_eq_map, List.map_cons, List.map_map]
  congr 1
  refine List.map_congr_left fun i _ => ?_
  show ((w :: ws).getD (i + 1) default).getD (Fk (w :: ws) m (i + 1) % ((w :: ws).getD (i + 1) default).length) 0 = _
  rw [vU]; rfl
def Ee : List (List Int) → Nat
  | [] => 1
  | w :: ws => w.length * Ee ws
theorem sL (w : List Int) (ws : List (List Int)) : ∀ j, gQ (w :: ws) (j + 1) = (w.length : Int) * gQ ws j
  | 0 => by
    show (1 : Int) * ((w :: ws).getD 0 default).length = (w.length : Int) * 1
    simp
  | j + 1 => by
    show gQ (w :: ws) (j + 1) * (((w :: ws).getD (j + 1) default).length : Int) = (w.length : Int) * (gQ ws j * ((ws.getD j default).length : Int))
    rw [sL w ws j, Int.mul_assoc]; rfl
theorem vT : ∀ ws : List (List Int), gQ ws ws.length = (Ee ws : Int)
  | [] => rfl
  | w :: ws => by
    show gQ (w :: ws) (ws.length + 1) = _
    rw [sL, vT ws]
    exact (Int.natCast_mul _ _).symm
theorem DN (b : Bh) : Gw b = Ee b.winds := by unfold Gw; rw [vT]; exact Int.toNat_natCast _
theorem Cq : ∀ (ws : List (List Int)) (t : List Int), t.length = ws.length → (∀ i, i < ws.length → t.getD i 0 ∈ ws.getD i default) → ∃ n, n < Ee ws ∧ CB ws n ws.length = t
  | [], t, h, _ => ⟨0, by decide, by cases t with | nil => rfl | cons _ _ => simp at h⟩
  | w :: ws, [], h, _ => by simp at h
  | w :: ws, a :: t, h, k => by
    obtain ⟨n, h1, h2⟩ := Cq ws t (by simpa using h) fun i hi => k (i + 1) (by simpa using hi)
    obtain ⟨i, hi, ei⟩ := xV (d := (0 : Int)) (k 0 (by simp))
    have hi : i < w.length := hi
    have ei : w.getD i 0 = a := ei
    have hw : 0 < w.length := by omega
    have e1 : (i + w.length * n) % w.length = i := by rw [Nat.add_mul_mod_self_left, Nat.mod_eq_of_lt hi]
    have e2 : (i + w.length * n) / w.length = n := by rw [Nat.add_mul_div_left _ _ hw, Nat.div_eq_of_lt hi]; omega
    refine ⟨i + w.length * n, ?_, ?_⟩
    · show i + w.length * n < w.length * Ee ws
      have := Nat.mul_le_mul_left w.length h1
      rw [Nat.succ_eq_add_one, Nat.mul_add] at this
      omega
    · show CB (w :: ws) _ (ws.length + 1) = _
      rw [BH, e1, e2, h2, ei]
theorem qD {b : Bh} (V : VW b) {t : List Int} : t ∈ Dg b ↔ TruP b t := by
  unfold Dg HG
  rw [List.mem_filter, List.mem_map]
  constructor
  · rintro ⟨_, h⟩
    exact (vW V).1 h
  · intro h
    refine ⟨?_, (vW V).2 h⟩
    have hl := h.len
    rw [V.hrs] at hl
    obtain ⟨n, h1, h2⟩ := Cq b.winds t hl fun i hi => (fX.1 (h.mem i (by rw [V.hrs]; exact hi))).1
    exact ⟨n, List.mem_range.2 (by rw [DN]; exact h1), h2⟩
theorem Dv {b : Bh} (V : VW b) : Dg b ≠ [] ↔ kL b = true := by
  constructor
  · intro h
    cases hb : Dg b with
    | nil => exact absurd hb h
    | cons t ts =>
      have h1 := (pL V).2 ((qD V).1 (by rw [hb]; simp : t ∈ Dg b))
      unfold Fj at h1
      obtain ⟨c, hc, _⟩ := List.any_eq_true.1 h1
      exact List.any_eq_true.2 ⟨c, hc, rfl⟩
  · intro h e
    obtain ⟨c, hc, _⟩ := List.any_eq_true.1 h
    have h1 : Fj b ((KV c).take (hrs b)) = true := List.any_eq_true.2 ⟨c, hc, by simp⟩
    have h2 := (qD V).2 ((pL V).1 h1)
    rw [e] at h2
    cases h2
section
variable {b : Bh} {S : Nat → Nat → Int} {P : List (Int × Int)} {κ : Hr → Int} {f : List Int → Int}
end
structure Kap (κ : Hr → Int) : Prop where
  z : κ ⟨0, 0, 0⟩ = 0
  a : ∀ x y, κ (EL x y) = κ x + κ y
  b : ∀ (x : Hr) (n : Int), (0 ≤ x.sun ∧ x.sun ≤ n) ∧ (0 ≤ x.calm ∧ x.calm ≤ n) ∧ (0 ≤ x.good ∧ x.good ≤ n) → 0 ≤ κ x ∧ κ x ≤ n
theorem Kap.sun : Kap fun x => x.sun := ⟨rfl, fun _ _ => rfl, fun _ _ h => h.1⟩
theorem Kap.calm : Kap fun x => x.calm := ⟨rfl, fun _ _ => rfl, fun _ _ h => h.2.1⟩
theorem Kap.good : Kap fun x => x.good := ⟨rfl, fun _ _ => rfl, fun _ _ h => h.2.2⟩
theorem jZ : ∀ {es : List (List D)}, (∀ x ∈ es, FitL [.i .i64] x) → ∃ l : List Int, es = ints l
  | [], _ => ⟨[], rfl⟩
  | x :: es, h => by
    obtain ⟨l, rfl⟩ := jZ (es := es) fun y hy => h y (by simp [hy])
    have h1 := h x (by simp)
    simp only [FitL, eH] at h1
    obtain ⟨d, ds, rfl, ⟨n1, rfl, w1⟩, rfl⟩ := h1
    exact ⟨n1 :: l, rfl⟩
theorem pZ : ∀ {es : List (List D)}, (∀ x ∈ es, FitL [.sl [.i .i64]] x) → ∃ l : List (List Int), es = aD eQ l
  | [], _ => ⟨[], rfl⟩
  | x :: es, h => by
    obtain ⟨l, rfl⟩ := pZ (es := es) fun y hy => h y (by simp [hy])
    have h1 := h x (by simp)
    simp only [FitL, eH] at h1
    obtain ⟨d, ds, rfl, ⟨e1, rfl, k1⟩, rfl⟩ := h1
    obtain ⟨w, rfl⟩ := jZ fun x hx => by have := k1 x hx; simpa only [FitL, eH] using this
    exact ⟨w :: l, rfl⟩
theorem tQ : ∀ {es : List (List D)}, (∀ x ∈ es, FitL [.i .i64, .i .i64] x) → ∃ l : List (Int × Int), es = aD bD l
  | [], _ => ⟨[], rfl⟩
  | x :: es, h => by
    obtain ⟨l, rfl⟩ := tQ (es := es) fun y hy => h y (by simp [hy])
    have h1 := h x (by simp)
    simp only [FitL, eH] at h1
    obtain ⟨d, ds, rfl, ⟨n1, rfl, w1⟩, d2, ds2, rfl, ⟨n2, rfl, w2⟩, rfl⟩ := h1
    exact ⟨(n1, n2) :: l, rfl⟩
theorem FitP.wins {ps : List (Bool × List CK)} {ds : List D} (h : FitP ((false, [.sl [.sl [.i .i64]]]) :: ps) ds) : ∃ (t : List (List Int)) (ds' : List D), ds = .lst 1 (aD eQ t) :: ds' ∧ FitP ps ds' := by
  unfold FitP at h
  obtain ⟨d, ds', rfl, h1, h2⟩ := h
  simp only [FitL, eH] at h1
  obtain ⟨d, ds, e, ⟨es, rfl, h1⟩, rfl⟩ := h1
  cases e
  obtain ⟨l, rfl⟩ := pZ fun x hx => by have := h1 x hx; simpa only [FitL, eH] using this
  exact ⟨l, ds', rfl, h2⟩
theorem qX {n : Int} (h : (Lit.int .i64 n).wf = true) : i64 n := by
  simp only [Lit.wf, Bool.and_eq_true, decide_eq_true_eq] at h
  exact ⟨h.1, h.2⟩
theorem FitP.beachW {ps : List (Bool × List CK)} {ds : List D} (h : FitP ((true, [.i .i64, .i .i64, .i .i64, .i .i64, .sl [.i .i64], .sl [.i .i64], .sl [.sl [.i .i64]], .sl [.i .i64, .i .i64], .sl [.i .i64, .i .i64]]) :: ps) ds) : ∃ (b : Bh) (ds' : List D), ds = .ag (eF b) :: ds' ∧ (i64 b.last ∧ i64 b.rws ∧ i64 b.pls) ∧ FitP ps ds' := by
  unfold FitP at h
  obtain ⟨es, ds', rfl, h1, h2⟩ := h
  simp only [FitL, eH] at h1
  obtain ⟨d, ds, rfl, ⟨n1, rfl, w1⟩, d2, ds2, rfl, ⟨n2, rfl, w2⟩, d3, ds3, rfl, ⟨n3, rfl, w3⟩, d4, ds4, rfl, ⟨n4, rfl, _⟩, d5, ds5, rfl, ⟨e5, rfl, k5⟩, d6, ds6, rfl, ⟨e6, rfl, k6⟩, d7, ds7, rfl, ⟨e7, rfl, k7⟩, d8, ds8, rfl, ⟨e8, rfl, k8⟩, d9, ds9, rfl, ⟨e9, rfl, k9⟩, rfl⟩ := h1
  obtain ⟨l5, rfl⟩ := jZ fun x hx => by have := k5 x hx; simpa only [FitL, eH] using this
  obtain ⟨l6, rfl⟩ := jZ fun x hx => by have := k6 x hx; simpa only [FitL, eH] using this
  obtain ⟨l7, rfl⟩ := pZ fun x hx => by have := k7 x hx; simpa only [FitL, eH] using this
  obtain ⟨l8, rfl⟩ := tQ fun x hx => by have := k8 x hx; simpa only [FitL, eH] using this
  obtain ⟨l9, rfl⟩ := tQ fun x hx => by have := k9 x hx; simpa only [FitL, eH] using this
  exact ⟨⟨n1, n2, n3, n4, l5, l6, l7, l8, l9⟩, ds', rfl, ⟨qX w1, qX w2, qX w3⟩, h2⟩
set_option maxRecDepth 1000000
set_option maxRecDepth 100000
theorem FR (l : List (List Bnd)) : dG (aD nT l) := fL oG l
theorem Gg (l : List Bnd) : dG (aD LN l) := fL Iv l
instance : Inhabited Bnd := ⟨⟨0, 0, 0, 0, 0⟩⟩
theorem It {b : Bh} (h : bB b = 0) : wI b true true = 0 := if_pos h
open Go.RowKit (Below Grown)
theorem PureF.memO {P : Program} {f : FuncId} {es ds : List D} {v v' : D} {ob' : T C} {nx' : Pos} {lg' : Option (T Bool)} (K : CallOk P f es .e .h none v ob' nx' lg') (hz : EF ob' 12 v = some v') (hds : FzL (fun _ => False) .e ds es) : PureF P f ds v' := by
 intro ob nx lg
 refine ⟨LgLe.refl _, Nat.le_refl _, Keeps.refl _ _, fun so hs γ args w gh hargs hob hnx => ?_⟩
 let γs : Gh := ⟨fun _ => 0, fun _ _ => (0, 0), fun b => γ.im b \/ ((∃ id st, st < γ.cur id /\ (γ.β id st).1 = b) /\ ∃ vs e fr, w.heap[b]? = some (.cells vs e fr))⟩
 have hargs' : DVL γs w es args.toList := by
  have h1 : DV γ w (.tp ds) (.tuple args) := by unfold DV; exact ⟨args, rfl, hargs⟩
  have h2 := Fz.ok (P := P) (γ := γ) (γ' := γs) (B := fun _ => False) (fun b hb => .inl hb) (ob := .e) (fun id c hc => by rw [T.get_e] at hc; cases hc) (fun _ h => h.elim) (fun id st vs e fr _ hst hc => .inr ⟨⟨id, st, hst, rfl⟩, vs, e, fr, hc⟩) (.tp hds) _ h1
  obtain ⟨vs, e, h3⟩ := qO h2
  cases e
  exact h3
 obtain ⟨c1, c2⟩ := K.ok (fun _ => True) (fun _ _ => trivial) γs args w ⟨fun _ st h => absurd h (Nat.not_lt_zero st), fun _ st _ _ h => absurd h (Nat.not_lt_zero st), fun b hb => ⟨by
  rcases hb with hb | hb
  ·exact (gh.im b hb).1
  ·exact hb.2, fun _ st h => absurd h (Nat.not_lt_zero st)⟩, gh.gl.im fun _ h => .inl h⟩ hargs' (fun id c _ hc => by rw [T.get_e] at hc; cases hc) (fun _ _ _ => rfl)
 refine ⟨c1, fun ro m R hR => c2 ro m R fun γ' w' u gh' F hu hob' _ => ?_⟩
 have hb : ∀ b, b < w.heap.size -> w'.heap[b]? = w.heap[b]? := fun b hb => F.blk b hb fun id st _ hst => absurd hst (Nat.not_lt_zero st)
 have hnew : ∀ id st, st < γ'.cur id -> w.heap.size <= (γ'.β id st).1 := fun id st hst => by
  rcases F.new id st (Nat.zero_le _) hst with h | ⟨gB, h, _⟩
  ·exact h
  ·exact absurd h (Nat.not_lt_zero gB)
 let γ2 : Gh := ⟨γ.cur, γ.β, fun b => γ.im b \/ ((∃ id st, st < γ'.cur id /\ (γ'.β id st).1 = b) /\ ∃ vs e fr, w'.heap[b]? = some (.cells vs e fr))⟩
 have U : Up γ γ2 w w' := ⟨fun _ => Nat.le_refl _, fun _ _ _ => rfl, F.up.3, fun b hm => ⟨.inl hm, fun o ho => by rw [hb b (Array.getElem?_eq_some_iff.1 ho).1]; exact ho⟩⟩
 have U0 : Up γ γ w w' := ⟨fun _ => Nat.le_refl _, fun _ _ _ => rfl, F.up.3, fun b hm => ⟨hm, fun o ho => by rw [hb b (Array.getElem?_eq_some_iff.1 ho).1]; exact ho⟩⟩
 refine hR γ2 w' u ⟨fun id st hst => Nat.lt_of_lt_of_le (gh.ob id st hst) F.size, gh.inj, fun b hm => ?_, (gh.gl.up U0).im fun _ h => .inl h⟩ ⟨U, fun _ _ => rfl, fun b h1 _ => hb b h1, fun _ _ h1 h2 => absurd h2 (by show ¬ _ < γ.cur _; omega), fun b hm hlt => ?_, F.lp, F.size, F.os, F.tape, F.output, F.fz⟩
  (xS (γ := γ') (γ' := γ2) (fun id c hc => hob' id c trivial hc) (fun id st vs e fr hst hc => .inr ⟨⟨id, st, hst, rfl⟩, vs, e, fr, hc⟩) hz u hu)
  (fun id c hid hc => HoldsO.mono U rfl (fun st hst => hb _ (gh.ob id st hst)) (hob id c hid hc)) hnx
 ·rcases hm with hm | ⟨⟨id', st', h1, h2⟩, h3⟩
  ·refine ⟨let ⟨⟨vs, e, fr, k1⟩, _⟩ := gh.im b hm; ⟨vs, e, fr, (U0.im b hm).2 _ k1⟩, (gh.im b hm).2⟩
  ·refine ⟨h3, fun id st hst e => ?_⟩
   have hlt := gh.ob id st hst
   have e : (γ.β id st).1 = b := e
   have := hnew id' st' h1
   omega
 ·rcases hm with hm | ⟨⟨id', st', h1, h2⟩, h3⟩
  ·exact hm
  ·have := hnew id' st' h1
   omega
theorem PureF.mem {P : Program} {FP : T RF} (hFP : FPok P FP) {n : Nat} {f : Pos} {es ds : List D} {v : D} (h : dW P FP n f es = some v) (hds : FzL (fun _ => False) .e ds es) : PureF P f.ix ds v := by
 unfold dW at h
 split at h
 ·rename_i y hy
  obtain ⟨v', ob', nx', lg', h1, C⟩ := hT hFP (pD hFP n).1 hy
  split at h1
  ·rename_i d hd
   cases h1
   rw [T.get_set_same] at h
   cases h
   exact PureF.memO C hd hds
  ·cases h1
 ·cases h
end Go.Ev
end
