import Derived.Test.YtkbgaadfednjpaaGreatDoorEvU4q
import Derived.Test.YtkbgaadfednjpaaGreatDoorEvUIt
import Derived.Test.YtkbgaadfednjpaaGreatDoorEvU4b
import Derived.Test.YtkbgaadfednjpaaGreatDoorEvU4h
import Derived.Test.YtkbgaadfednjpaaGreatDoorEvURn
set_option linter.all false
set_option maxHeartbeats 8000000
noncomputable section
namespace Go.Ev
open Go.Proofs
set_option maxRecDepth 100000
theorem Fs {B : Pos → Prop} {ob : T C} {d : D} (h : Pu d := by simp [Cell.d, Pu, aN, dE, aB, aH, aF, aO]; done) : Fz B ob d d := .pu h
theorem yQ (d l : Nat) : Int.tmod (d : Int) (l : Int) = ((d % l : Nat) : Int) := by
  rw [Int.tmod_eq_emod_of_nonneg (by omega), Int.natCast_emod]
theorem JD (d l : Nat) : Int.tdiv (d : Int) (l : Int) = ((d / l : Nat) : Int) := by
  rw [Int.tdiv_eq_ediv_of_nonneg (by omega), Int.natCast_ediv]
def wQ (ws : List (List Int)) (m : Nat) : Nat → Nat
  | 0 => m
  | j + 1 => wQ ws m j / (ws.getD j default).length
theorem xO (ws : List (List Int)) (m : Nat) : ∀ j, wQ ws m j ≤ m
  | 0 => Nat.le_refl _
  | j + 1 => Nat.le_trans (Nat.div_le_self _ _) (xO ws m j)
def qP (ws : List (List Int)) (m : Nat) (j : Nat) : List Int := (List.range j).map fun i => (ws.getD i default).getD (wQ ws m i % (ws.getD i default).length) 0
theorem EA (ws : List (List Int)) (m j : Nat) : qP ws m (j + 1) = qP ws m j ++ [(ws.getD j default).getD (wQ ws m j % (ws.getD j default).length) 0] := by
  unfold qP; rw [List.range_succ, List.map_append]; rfl
theorem Ah (ws : List (List Int)) (m j : Nat) : (qP ws m j).length = j := by simp [qP]
set_option maxHeartbeats 2000000 in
theorem IU (b : Bh) (m : Nat) (hm : m ≤ 100000) (h3 : b.winds.length ≤ 1000) (hw : ∀ w ∈ b.winds, 0 < w.length ∧ w.length ≤ 1000) : PureF Tryz.prog p68.ix [.ag (dV b), .i .i64 (m : Int)] (.lst 1 (ints (qP b.winds m b.winds.length))) := by
  have e1 := aK fI b.winds
  refine PureF.run MO (by simp) (by simp [aN, dE, Pu, aO]) ?_; conv => whnf
  repeat' first | ((first | refine Qz ?_ | refine Qy ?_) <;> conv => whnf) | (refine WB.tt ?_; conv => whnf) | (refine WB.ff ?_; conv => whnf)
  refine Rn.loopV [(p2, none), (p6, none), (p7, none), (p8, none), (p9, none), (bB, none), (bK, none), (bN, none), (bI, none), (p14, none), (bP, none), (cJ, none), (dC, none), (cK, none), (cU, none), (p20, none), (p21, none), (p22, none), (p23, none), (p24, none), (p25, none), (p26, none), (fN, none), (p28, none), (p29, none), (fT, none), (hH, none), (iF, none), (iT, none), (kP, none)] (fun j : Nat => [(p2, some (.i .i64 (wQ b.winds m j : Int))), (p6, some (wH (.i .h) 1 (qP b.winds m j))), (p7, some (.i .i64 (j : Int)))]) (fun j : Nat => [((.i .h), yD qO (qP b.winds m j))]) (fun j : Nat => fO (.o .h) (.o (.o .h)) (qP b.winds m j)) (fun j : Nat => j ≤ b.winds.length) (fun j : Nat => b.winds.length - j) 0 ?_ ?_ ?_
  · conv => whnf
    (refine X.le.mk ?_ ?_ (Nat.le_refl _) rfl rfl) <;> (repeat' first | exact T.le_e _ | refine T.le_some ?_ rfl ?_ | refine T.le_none ?_ ?_ | refine T.le_ee ?_ ?_)
  rotate_left
  intro xl1 hxl1
  rotate_right
  · exact Nat.zero_le _
  intro j hj
  have hj : j ≤ b.winds.length := hj
  have hsc0 := EA b.winds m j
  have hAl : (qP b.winds m j).length ≤ j := by rw [Ah]; exact Nat.le_refl _
  have hd := xO b.winds m j
  have hz : wQ b.winds m (j + 1) = wQ b.winds m j / (b.winds.getD j default).length := rfl
  have hend : j = b.winds.length → qP b.winds m j = qP b.winds m b.winds.length := fun h => by rw [← h]
  generalize hA : qP b.winds m j = A at *
  generalize hQ : wQ b.winds m j = q at *
  conv => whnf
  repeat' first | ((first | refine Qz ?_ | refine Qy ?_) <;> conv => whnf) | (refine WB.tt ?_; conv => whnf) | (refine WB.ff ?_; conv => whnf)
  refine WB.dec (fun hd2 => ?_) (fun hd2 => ?_) <;> conv => whnf
  · have hlt : j < b.winds.length := by omega
    have hsc := hsc0
    obtain ⟨w1, w2⟩ := hw _ (aR (d := default) hlt)
    have e2 := aL (b.winds.getD j default)
    have hq1 : Int.tdiv (q : Int) ((ints (b.winds.getD j default)).length : Int) = ((wQ b.winds m (j + 1) : Nat) : Int) := by rw [e2, JD, hz]
    have hq2 := xO b.winds m (j + 1)
    have hm2 : q % (b.winds.getD j default).length < (b.winds.getD j default).length := Nat.mod_lt _ w1
    have hq3 : Int.tmod (q : Int) ((ints (b.winds.getD j default)).length : Int) = ((q % (b.winds.getD j default).length : Nat) : Int) := by rw [e2, yQ]
    cases A with
    | nil =>
      repeat' first | ((first | refine Qz ?_ | refine WIx.intsE hq3 hm2 ?_ | refine Qy ?_) <;> conv => whnf) | (refine WB.tt ?_; conv => whnf) | (refine WB.ff ?_; conv => whnf)
      refine WSt.app_firstL (r := qO ((b.winds.getD j default).getD (q % (b.winds.getD j default).length) 0)) (by rfl) (.inl rfl) (by rfl) (by rfl) (by rfl) (by rfl) ?_; conv => whnf
      repeat' first | ((first | refine Qz ?_ | refine And.intro (show InR _ _ by rw [hq1]; exact InR.i64 (by omega) (by omega)) ?_ | refine Qy ?_) <;> conv => whnf) | (refine WB.tt ?_; conv => whnf) | (refine WB.ff ?_; conv => whnf)
      refine AgainB.v (j + 1) (by omega) (show j + 1 ≤ b.winds.length by omega) (by show Pos.nat _ ≤ Pos.nat _; simp only [hA, hsc, fO, List.cons_append, List.nil_append] <;> decide) (by assumption) ?_
      rw [hsc]
      conv => whnf
      refine Shr.of ?_ ?_ rfl rfl
      · (repeat' first | exact Rel.e | refine Rel.some ?_ ?_ ?_ | refine Rel.none ?_ ?_ | refine Rel.ee ?_ ?_)
        all_goals show Fz _ _ _ _
        all_goals first | exact Fq | exact Fz.i hq1 | exact Fs
      · (repeat' first | exact Rel.e | refine Rel.some ?_ ?_ ?_ | refine Rel.none ?_ ?_ | refine Rel.ee ?_ ?_)
        all_goals refine wI ?_
        all_goals first | exact ShC.na mS _ | exact Sq | (refine ShC.same ?_; (repeat' first | exact ShC.nl | refine ShC.cn ?_ ?_) <;> first | exact Fq | exact Fz.i hq1 | exact Fs)
    | cons a s =>
      have hs5 : s.length + 1 ≤ 1000 := Nat.le_trans hAl (by omega)
      repeat' first | ((first | refine Qz ?_ | refine WIx.intsE hq3 hm2 ?_ | refine Qy ?_) <;> conv => whnf) | (refine WB.tt ?_; conv => whnf) | (refine WB.ff ?_; conv => whnf)
      refine WSt.app_oneL (id := (.i .h)) (ds := (aJ qO (a :: s)).flatten) (r := qO ((b.winds.getD j default).getD (q % (b.winds.getD j default).length) 0)) (by rfl) (by rfl) (by rfl) (by rfl) (by rfl) (by rfl) (by rw [cQ (z := 1) uH]; rfl) (by rfl) (by rfl) (by omega) (by rfl) ?_; conv => whnf
      repeat' first | ((first | refine Qz ?_ | refine And.intro (show InR _ _ by rw [hq1]; exact InR.i64 (by omega) (by omega)) ?_ | refine Qy ?_) <;> conv => whnf) | (refine WB.tt ?_; conv => whnf) | (refine WB.ff ?_; conv => whnf)
      refine AgainB.v (j + 1) (by omega) (show j + 1 ≤ b.winds.length by omega) (by show Pos.nat _ ≤ Pos.nat _; simp only [hA, hsc, fO, List.cons_append, List.nil_append] <;> decide) (by assumption) ?_
      rw [hsc, List.cons_append]
      conv => whnf
      (try rw [dP])
      (try rw [dQ])
      refine Shr.of ?_ ?_ rfl rfl
      · (repeat' first | exact Rel.e | refine Rel.some ?_ ?_ ?_ | refine Rel.none ?_ ?_ | refine Rel.ee ?_ ?_)
        all_goals show Fz _ _ _ _
        all_goals first | exact Fq | exact Fz.i hq1 | exact Fs
      · (repeat' first | exact Rel.e | refine Rel.some ?_ ?_ ?_ | refine Rel.none ?_ ?_ | refine Rel.ee ?_ ?_)
        all_goals refine wI ?_
        all_goals first | exact ShC.ca mS _ _ | exact Sq | (refine ShC.same ?_; (repeat' first | exact ShC.nl | refine ShC.cn ?_ ?_) <;> first | exact Fq | exact Fz.i hq1 | exact Fs)
  · repeat' first | ((first | refine Qz ?_ | refine Qy ?_) <;> conv => whnf) | (refine WB.tt ?_; conv => whnf) | (refine WB.ff ?_; conv => whnf)
    rw [← hend (by omega)]
    exact Fin.t (.inr rfl) rfl (Fz.G A (fun h => h) (fun c h => h) uH mS)
def qU (b : Bh) : Nat := (gA b.winds b.winds.length).toNat
theorem VW.win {b : Bh} (V : VW b) (l6 : ∀ w ∈ b.winds, w.length ≤ 1000) : ∀ w ∈ b.winds, 0 < w.length ∧ w.length ≤ 1000 := fun w hw => ⟨(iI.1 (List.all_eq_true.1 V.wins _ hw)).2.1, l6 w hw⟩
structure Thn (b : Bh) : Prop where
  f : ThF b
  m : bG b = 0 → 0 ≤ gA b.winds b.winds.length ∧ gA b.winds b.winds.length ≤ 80
  w7 : b.winds.length ≤ 7
  w5 : ∀ w ∈ b.winds, w.length ≤ 5
theorem Cm {b : Bh} (h : kL b = true) : Thn b := by
  have F := HJ h
  unfold kL at h
  simp only [Bool.and_eq_true, Bool.or_eq_true, decide_eq_true_iff] at h
  obtain ⟨a1, a2, a3, a4, a5, a6⟩ := h
  obtain ⟨b1, b2⟩ := sN a3
  refine ⟨F, fun hf => ?_, b1, b2⟩
  rcases a6 with a6 | a6
  · exact absurd hf a6
  · exact ⟨(sQ b2 _ (Nat.le_refl _)).1, a6⟩
def NA (lo hi : Int) : List D := [.i .i64 lo, .i .i64 hi]
theorem lV (lo hi : Int) : aN (NA lo hi) := ⟨trivial, trivial, trivial⟩
theorem tG {τ : Type} [Inhabited τ] (H : Nat → Nat → τ) {n m r p : Nat} (hr : r < n) (hp : p < m) : ((jA H n m).getD r default).getD p default = H r p := by
  have e : (jA H n m).getD r default = (List.range m).map (H r) := by simp [jA, List.getD, hr]
  rw [e]; simp [List.getD, hp]
theorem FR {τ : Type} (H : Nat → Nat → τ) {n m r : Nat} (hr : r < n) : (jA H n m).getD r default = (List.range m).map (H r) := by simp [jA, List.getD, hr]
instance : Inhabited Hr := ⟨⟨0, 0, 0⟩⟩
theorem IsMn.congr {l m : List Int} {a : Int} (h : IsMn l a) (k : ∀ x, x ∈ l ↔ x ∈ m) : IsMn m a := ⟨(k a).1 h.1, fun x hx => h.2 x ((k x).2 hx)⟩
theorem IsMx.congr {l m : List Int} {a : Int} (h : IsMx l a) (k : ∀ x, x ∈ l ↔ x ∈ m) : IsMx m a := ⟨(k a).1 h.1, fun x hx => h.2 x ((k x).2 hx)⟩
theorem vH (w : List Int) (ws : List (List Int)) (m : Nat) : ∀ j, wQ (w :: ws) m (j + 1) = wQ ws (m / w.length) j
  | 0 => rfl
  | j + 1 => by
    show wQ (w :: ws) m (j + 1) / ((w :: ws).getD (j + 1) default).length = wQ ws (m / w.length) j / (ws.getD j default).length
    rw [vH w ws m j]; rfl
theorem Ch (w : List Int) (ws : List (List Int)) (m j : Nat) : qP (w :: ws) m (j + 1) = w.getD (m % w.length) 0 :: qP ws (m / w.length) j := by
  unfold qP
  rw [List.range_succ_eq_map, List.map_cons, List.map_map]
  congr 1
  refine List.map_congr_left fun i _ => ?_
  show ((w :: ws).getD (i + 1) default).getD (wQ (w :: ws) m (i + 1) % ((w :: ws).getD (i + 1) default).length) 0 = _
  rw [vH]; rfl
def EQ : List (List Int) → Nat
  | [] => 1
  | w :: ws => w.length * EQ ws
theorem rV (w : List Int) (ws : List (List Int)) : ∀ j, gA (w :: ws) (j + 1) = (w.length : Int) * gA ws j
  | 0 => by
    show (1 : Int) * ((w :: ws).getD 0 default).length = (w.length : Int) * 1
    simp
  | j + 1 => by
    show gA (w :: ws) (j + 1) * (((w :: ws).getD (j + 1) default).length : Int) = (w.length : Int) * (gA ws j * ((ws.getD j default).length : Int))
    rw [rV w ws j, Int.mul_assoc]; rfl
theorem vG : ∀ ws : List (List Int), gA ws ws.length = (EQ ws : Int)
  | [] => rfl
  | w :: ws => by
    show gA (w :: ws) (ws.length + 1) = _
    rw [rV, vG ws]
    exact (Int.natCast_mul _ _).symm
theorem Eu (b : Bh) : qU b = EQ b.winds := by unfold qU; rw [vG]; exact Int.toNat_natCast _
theorem CW : ∀ (ws : List (List Int)) (t : List Int), t.length = ws.length → (∀ i, i < ws.length → t.getD i 0 ∈ ws.getD i default) → ∃ n, n < EQ ws ∧ qP ws n ws.length = t
  | [], t, h, _ => ⟨0, by decide, by cases t with | nil => rfl | cons _ _ => simp at h⟩
  | w :: ws, [], h, _ => by simp at h
  | w :: ws, a :: t, h, k => by
    obtain ⟨n, h1, h2⟩ := CW ws t (by simpa using h) fun i hi => k (i + 1) (by simpa using hi)
    obtain ⟨i, hi, ei⟩ := sV (d := (0 : Int)) (k 0 (by simp))
    have hi : i < w.length := hi
    have ei : w.getD i 0 = a := ei
    have hw : 0 < w.length := by omega
    have e1 : (i + w.length * n) % w.length = i := by rw [Nat.add_mul_mod_self_left, Nat.mod_eq_of_lt hi]
    have e2 : (i + w.length * n) / w.length = n := by rw [Nat.add_mul_div_left _ _ hw, Nat.div_eq_of_lt hi]; omega
    refine ⟨i + w.length * n, ?_, ?_⟩
    · show i + w.length * n < w.length * EQ ws
      have := Nat.mul_le_mul_left w.length h1
      rw [Nat.succ_eq_add_one, Nat.mul_add] at this
      omega
    · show qP (w :: ws) _ (ws.length + 1) = _
      rw [Ch, e1, e2, h2, ei]
section
variable {b : Bh} {S : Nat → Nat → Int} {P : List (Int × Int)} {κ : Hr → Int} {f : List Int → Int}
end
structure Kap (κ : Hr → Int) : Prop where
  z : κ ⟨0, 0, 0⟩ = 0
  a : ∀ x y, κ (Dr x y) = κ x + κ y
  b : ∀ (x : Hr) (n : Int), (0 ≤ x.sun ∧ x.sun ≤ n) ∧ (0 ≤ x.calm ∧ x.calm ≤ n) ∧ (0 ≤ x.good ∧ x.good ≤ n) → 0 ≤ κ x ∧ κ x ≤ n
theorem Kap.sun : Kap fun x => x.sun := ⟨rfl, fun _ _ => rfl, fun _ _ h => h.1⟩
theorem Kap.calm : Kap fun x => x.calm := ⟨rfl, fun _ _ => rfl, fun _ _ h => h.2.1⟩
theorem Kap.good : Kap fun x => x.good := ⟨rfl, fun _ _ => rfl, fun _ _ h => h.2.2⟩
theorem jY : ∀ {es : List (List D)}, (∀ x ∈ es, FitL [.i .i64] x) → ∃ l : List Int, es = ints l
  | [], _ => ⟨[], rfl⟩
  | x :: es, h => by
    obtain ⟨l, rfl⟩ := jY (es := es) fun y hy => h y (by simp [hy])
    have h1 := h x (by simp)
    simp only [FitL, eI] at h1
    obtain ⟨d, ds, rfl, ⟨n1, rfl, w1⟩, rfl⟩ := h1
    exact ⟨n1 :: l, rfl⟩
theorem pP : ∀ {es : List (List D)}, (∀ x ∈ es, FitL [.sl [.i .i64]] x) → ∃ l : List (List Int), es = aJ fI l
  | [], _ => ⟨[], rfl⟩
  | x :: es, h => by
    obtain ⟨l, rfl⟩ := pP (es := es) fun y hy => h y (by simp [hy])
    have h1 := h x (by simp)
    simp only [FitL, eI] at h1
    obtain ⟨d, ds, rfl, ⟨e1, rfl, k1⟩, rfl⟩ := h1
    obtain ⟨w, rfl⟩ := jY fun x hx => by have := k1 x hx; simpa only [FitL, eI] using this
    exact ⟨w :: l, rfl⟩
theorem sX : ∀ {es : List (List D)}, (∀ x ∈ es, FitL [.i .i64, .i .i64] x) → ∃ l : List (Int × Int), es = aJ cV l
  | [], _ => ⟨[], rfl⟩
  | x :: es, h => by
    obtain ⟨l, rfl⟩ := sX (es := es) fun y hy => h y (by simp [hy])
    have h1 := h x (by simp)
    simp only [FitL, eI] at h1
    obtain ⟨d, ds, rfl, ⟨n1, rfl, w1⟩, d2, ds2, rfl, ⟨n2, rfl, w2⟩, rfl⟩ := h1
    exact ⟨(n1, n2) :: l, rfl⟩
theorem FitP.wins {ps : List (Bool × List CK)} {ds : List D} (h : FitP ((false, [.sl [.sl [.i .i64]]]) :: ps) ds) : ∃ (t : List (List Int)) (ds' : List D), ds = .lst 1 (aJ fI t) :: ds' ∧ FitP ps ds' := by
  unfold FitP at h
  obtain ⟨d, ds', rfl, h1, h2⟩ := h
  simp only [FitL, eI] at h1
  obtain ⟨d, ds, e, ⟨es, rfl, h1⟩, rfl⟩ := h1
  cases e
  obtain ⟨l, rfl⟩ := pP fun x hx => by have := h1 x hx; simpa only [FitL, eI] using this
  exact ⟨l, ds', rfl, h2⟩
theorem qG {n : Int} (h : (Lit.int .i64 n).wf = true) : i64 n := by
  simp only [Lit.wf, Bool.and_eq_true, decide_eq_true_eq] at h
  exact ⟨h.1, h.2⟩
theorem FitP.beachW {ps : List (Bool × List CK)} {ds : List D} (h : FitP ((true, [.i .i64, .i .i64, .i .i64, .i .i64, .sl [.i .i64], .sl [.i .i64], .sl [.sl [.i .i64]], .sl [.i .i64, .i .i64], .sl [.i .i64, .i .i64]]) :: ps) ds) : ∃ (b : Bh) (ds' : List D), ds = .ag (dV b) :: ds' ∧ (i64 b.last ∧ i64 b.rws ∧ i64 b.pls) ∧ FitP ps ds' := by
  unfold FitP at h
  obtain ⟨es, ds', rfl, h1, h2⟩ := h
  simp only [FitL, eI] at h1
  obtain ⟨d, ds, rfl, ⟨n1, rfl, w1⟩, d2, ds2, rfl, ⟨n2, rfl, w2⟩, d3, ds3, rfl, ⟨n3, rfl, w3⟩, d4, ds4, rfl, ⟨n4, rfl, _⟩, d5, ds5, rfl, ⟨e5, rfl, k5⟩, d6, ds6, rfl, ⟨e6, rfl, k6⟩, d7, ds7, rfl, ⟨e7, rfl, k7⟩, d8, ds8, rfl, ⟨e8, rfl, k8⟩, d9, ds9, rfl, ⟨e9, rfl, k9⟩, rfl⟩ := h1
  obtain ⟨l5, rfl⟩ := jY fun x hx => by have := k5 x hx; simpa only [FitL, eI] using this
  obtain ⟨l6, rfl⟩ := jY fun x hx => by have := k6 x hx; simpa only [FitL, eI] using this
  obtain ⟨l7, rfl⟩ := pP fun x hx => by have := k7 x hx; simpa only [FitL, eI] using this
  obtain ⟨l8, rfl⟩ := sX fun x hx => by have := k8 x hx; simpa only [FitL, eI] using this
  obtain ⟨l9, rfl⟩ := sX fun x hx => by have := k9 x hx; simpa only [FitL, eI] using this
  exact ⟨⟨n1, n2, n3, n4, l5, l6, l7, l8, l9⟩, ds', rfl, ⟨qG w1, qG w2, qG w3⟩, h2⟩
set_option maxRecDepth 1000000
set_option maxRecDepth 100000
theorem GE (l : List (List Bnd)) : dE (aJ nK l) := eT nY l
theorem GU (l : List Bnd) : dE (aJ KZ l) := eT IC l
instance : Inhabited Bnd := ⟨⟨0, 0, 0, 0, 0⟩⟩
open Go.RowKit (Below Grown)
theorem PureF.memO {P : Program} {f : FuncId} {es ds : List D} {v v' : D} {ob' : T C} {nx' : Pos} {lg' : Option (T Bool)} (K : CallOk P f es .e .h none v ob' nx' lg') (hz : FA ob' 12 v = some v') (hds : FzL (fun _ => False) .e ds es) : PureF P f ds v' := by
 intro ob nx lg
 refine ⟨LgLe.refl _, Nat.le_refl _, Keeps.refl _ _, fun so hs γ args w gh hargs hob hnx => ?_⟩
 let γs : Gh := ⟨fun _ => 0, fun _ _ => (0, 0), fun b => γ.im b \/ ((∃ id st, st < γ.cur id /\ (γ.β id st).1 = b) /\ ∃ vs e fr, w.heap[b]? = some (.cells vs e fr))⟩
 have hargs' : DVL γs w es args.toList := by
  have h1 : DV γ w (.tp ds) (.tuple args) := by unfold DV; exact ⟨args, rfl, hargs⟩
  have h2 := Fz.ok (P := P) (γ := γ) (γ' := γs) (B := fun _ => False) (fun b hb => .inl hb) (ob := .e) (fun id c hc => by rw [T.get_e] at hc; cases hc) (fun _ h => h.elim) (fun id st vs e fr _ hst hc => .inr ⟨⟨id, st, hst, rfl⟩, vs, e, fr, hc⟩) (.tp hds) _ h1
  obtain ⟨vs, e, h3⟩ := oG h2
  cases e
  exact h3
 obtain ⟨c1, c2⟩ := K.ok (fun _ => True) (fun _ _ => trivial) γs args w ⟨fun _ st h => absurd h (Nat.not_lt_zero st), fun _ st _ _ h => absurd h (Nat.not_lt_zero st), fun b hb => ⟨by
  rcases hb with hb | hb
  ·exact (gh.im b hb).1
  ·exact hb.2, fun _ st h => absurd h (Nat.not_lt_zero st)⟩, gh.gl.im fun _ h => .inl h⟩ hargs' (fun id c _ hc => by rw [T.get_e] at hc; cases hc) (fun _ _ _ => rfl)
 refine ⟨c1, fun ro m R hR => c2 ro m R fun γ' w' u gh' F hu hob' _ => ?_⟩
 have hb : ∀ b, b < w.heap.size -> w'.heap[b]? = w.heap[b]? := fun b hb => F.blk b hb fun id st _ hst => absurd hst (Nat.not_lt_zero st)
 have hnew : ∀ id st, st < γ'.cur id -> w.heap.size <= (γ'.β id st).1 := fun id st hst => by
  rcases F.new id st (Nat.zero_le _) hst with h | ⟨fY, h, _⟩
  ·exact h
  ·exact absurd h (Nat.not_lt_zero fY)
 let γ2 : Gh := ⟨γ.cur, γ.β, fun b => γ.im b \/ ((∃ id st, st < γ'.cur id /\ (γ'.β id st).1 = b) /\ ∃ vs e fr, w'.heap[b]? = some (.cells vs e fr))⟩
 have U : Up γ γ2 w w' := ⟨fun _ => Nat.le_refl _, fun _ _ _ => rfl, F.up.3, fun b hm => ⟨.inl hm, fun o ho => by rw [hb b (Array.getElem?_eq_some_iff.1 ho).1]; exact ho⟩⟩
 have U0 : Up γ γ w w' := ⟨fun _ => Nat.le_refl _, fun _ _ _ => rfl, F.up.3, fun b hm => ⟨hm, fun o ho => by rw [hb b (Array.getElem?_eq_some_iff.1 ho).1]; exact ho⟩⟩
 refine hR γ2 w' u ⟨fun id st hst => Nat.lt_of_lt_of_le (gh.ob id st hst) F.size, gh.inj, fun b hm => ?_, (gh.gl.up U0).im fun _ h => .inl h⟩ ⟨U, fun _ _ => rfl, fun b h1 _ => hb b h1, fun _ _ h1 h2 => absurd h2 (by show ¬ _ < γ.cur _; omega), fun b hm hlt => ?_, F.lp, F.size, F.os, F.tape, F.output, F.fz⟩
  (xK (γ := γ') (γ' := γ2) (fun id c hc => hob' id c trivial hc) (fun id st vs e fr hst hc => .inr ⟨⟨id, st, hst, rfl⟩, vs, e, fr, hc⟩) hz u hu)
  (fun id c hid hc => HoldsO.mono U rfl (fun st hst => hb _ (gh.ob id st hst)) (hob id c hid hc)) hnx
 ·rcases hm with hm | ⟨⟨id', st', h1, h2⟩, h3⟩
  ·refine ⟨let ⟨⟨vs, e, fr, k1⟩, _⟩ := gh.im b hm; ⟨vs, e, fr, (U0.im b hm).2 _ k1⟩, (gh.im b hm).2⟩
  ·refine ⟨h3, fun id st hst e => ?_⟩
   have hlt := gh.ob id st hst
   have e : (γ.β id st).1 = b := e
   have := hnew id' st' h1
   omega
 ·rcases hm with hm | ⟨⟨id', st', h1, h2⟩, h3⟩
  ·exact hm
  ·have := hnew id' st' h1
   omega
theorem PureF.mem {P : Program} {FP : T RF} (hFP : FPok P FP) {n : Nat} {f : Pos} {es ds : List D} {v : D} (h : nA P FP n f es = some v) (hds : FzL (fun _ => False) .e ds es) : PureF P f.ix ds v := by
 unfold nA at h
 split at h
 ·rename_i y hy
  obtain ⟨v', ob', nx', lg', h1, C⟩ := gX hFP (oU hFP n).1 hy
  split at h1
  ·rename_i d hd
   cases h1
   rw [T.get_set_same] at h
   cases h
   exact PureF.memO C hd hds
  ·cases h1
 ·cases h
end Go.Ev
end
