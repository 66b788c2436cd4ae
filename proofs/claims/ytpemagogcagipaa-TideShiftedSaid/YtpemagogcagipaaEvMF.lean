import Derived.Test.YtpemagogcagipaaEvME
set_option linter.all false
namespace Go.Ev
open Go.Proofs
set_option maxRecDepth 100000
theorem c_seas (n : Nat) (hs : List Rg) (step : Int) (lv : List Int) (ms : List Mk) (tr : D) (htr : Pu tr) : PureF Try.prog p92.ix [.ag (row6 n hs step lv ms tr)] (.fn p106 [] [.pl (row6 n hs step lv ms tr) 0]) := by
  have hr := pu_row6 (n := n) (hs := hs) (step := step) (lv := lv) (ms := ms) htr
  refine PureF.run fn91 (by simp) (by simp [PuL, PuE, Pu, hr]) ?_; conv => whnf
  repeat' first | ((first | (with_reducible first | apply WB.tt | apply WB.ff) | apply Rn.seq | apply Rn.reg | apply Rn.drw | apply Rn.blk | apply Rn.skip | apply Rn.ret | apply Rn.exit | apply Rn.cond rfl | refine i64_ (by omega) (by omega) ?_ | refine ne0_ (by omega) ?_ | refine WIx.intsN (by omega) ?_ | refine WIx.rowsN (by omega) ?_) <;> conv => whnf)
  refine Fin.t (.inr rfl) rfl ?_
  exact .fn .nil (.cons (Frz.ptr rfl rfl (by simp [row6]) hr) .nil)
theorem c_seas1 {σ : Type} (S : Sns σ) (wt : σ → Nat) (top n : Nat) (hs : List Rg) (step : Int) (lv : List Int) (ms : List Mk) (tr : D) (htr : Pu tr) (hn : hs.length = n) (h10 : n ≤ 10) (hv : Vr hs) (h0 : 0 ≤ step) (h99 : step ≤ 99) (H : SnsOk S (row6 n hs step lv ms tr) wt top) (s : σ) (hx : S.nx s = .o (.o (.o .h))) (hw : wt s + (exS hs step n 0 zeroS).length ≤ top) :
    CallOk Try.prog p106.ix [.yl (.o (.o .h)), .pl (row6 n hs step lv ms tr) 0] (S.base s) (.i (.o .h)) none (.tp []) (S.base (foldZ S (exS hs step n 0 zeroS) s).1) (S.nx (foldZ S (exS hs step n 0 zeroS) s).1) none := by
  have hr := pu_row6 (n := n) (hs := hs) (step := step) (lv := lv) (ms := ms) htr
  obtain ⟨v, ob', ⟨c2, _, _, rfl, rfl⟩, C⟩ := c_chooseS S wt top n hs step lv ms tr htr hn h10 hv h0 h99 H n 0 rfl (Nat.zero_le _) zeroS Hb.zero s hw
  rw [hx] at C
  have hnx := H.nx (foldZ S (exS hs step n 0 zeroS) s).1
  obtain ⟨v, ob', ⟨rfl, rfl⟩, C'⟩ := CallOk.runE (Φ := fun v ob' => v = .tp [] ∧ ob' = S.base (foldZ S (exS hs step n 0 zeroS) s).1) (ob := S.base s) (nx := .i (.o .h)) (nx' := S.nx (foldZ S (exS hs step n 0 zeroS) s).1) (ds := [.yl (.o (.o .h)), .pl (row6 n hs step lv ms tr) 0]) fn105 (by simp) (show 5 ≤ _ by omega) (by
    conv => whnf
    repeat' first | ((first | (with_reducible first | apply WB.tt | apply WB.ff) | apply Rn.seq | apply Rn.reg | apply Rn.drw | apply Rn.blk | apply Rn.skip | apply Rn.ret | apply Rn.exit | apply Rn.cond rfl | refine i64_ (by omega) (by omega) ?_ | refine ne0_ (by omega) ?_ | refine WIx.intsN (by omega) ?_ | refine WIx.rowsN (by omega) ?_) <;> conv => whnf)
    refine WCall.at C ?_; conv => whnf
    repeat' first | ((first | (with_reducible first | apply WB.tt | apply WB.ff) | apply Rn.seq | apply Rn.reg | apply Rn.drw | apply Rn.blk | apply Rn.skip | apply Rn.ret | apply Rn.exit | apply Rn.cond rfl | refine i64_ (by omega) (by omega) ?_ | refine ne0_ (by omega) ?_ | refine WIx.intsN (by omega) ?_ | refine WIx.rowsN (by omega) ?_) <;> conv => whnf)
    exact ⟨_, _, ⟨rfl, rfl⟩, ⟨.inl rfl, ⟨_, rfl, .pu trivial⟩, Shr.kp (S.le _ _ _) (H.kb _)⟩⟩)
  exact C'
end Go.Ev

namespace Go.Ev
open Go.Proofs
set_option maxRecDepth 100000
mutual
theorem Kp.pu {n : Nat} : ∀ d : D, Pu d → Kp n d
  | .pt _ _ _, h => by unfold Pu at h; exact h.elim
  | .yl _, h => by unfold Pu at h; exact h.elim
  | .sl _ _ _ _ _, h => by unfold Pu at h; exact h.elim
  | .mp _, h => by unfold Pu at h; exact h.elim
  | .fn _ x y, h => by unfold Pu at h; unfold Kp; exact ⟨KpL.pu x h.1, KpL.pu y h.2⟩
  | .ag cs, h => by unfold Pu at h; unfold Kp; exact KpL.pu cs h
  | .tp cs, h => by unfold Pu at h; unfold Kp; exact KpL.pu cs h
  | .any, h => by unfold Kp; exact h
  | .b _, h => by unfold Kp; exact h
  | .i _ _, h => by unfold Kp; exact h
  | .s _, h => by unfold Kp; exact h
  | .np, h => by unfold Kp; exact h
  | .nf, h => by unfold Kp; exact h
  | .ni, h => by unfold Kp; exact h
  | .nm, h => by unfold Kp; exact h
  | .ns, h => by unfold Kp; exact h
  | .em, h => by unfold Kp; exact h
  | .ifc _ _, h => by unfold Kp; exact h
  | .lst _ _, h => by unfold Kp; exact h
  | .pl _ _, h => by unfold Kp; exact h
theorem KpL.pu {n : Nat} : ∀ ds : List D, PuL ds → KpL n ds
  | [], _ => by unfold KpL; trivial
  | d :: ds, h => by unfold PuL at h; unfold KpL; exact ⟨Kp.pu d h.1, KpL.pu ds h.2⟩
end
def smS (g : Pos) (first caps row : List D) : T D := (.n (.n (.n .e (some (.pt .h 0 0)) .e) (some (.fn g first caps)) .e) none (.n (.n .e (some (.pt (.o .h) 0 0)) .e) none (.n .e (some (.fn p106 [] [.pl row 0])) .e)))
noncomputable def smN (g : Pos) (first caps row : List D) (P : (Nat → Int) → Bool) : Sns Bool where
  o1 := fun _ => some (.cells false [.o (.fn g first caps) 0] 1)
  o2 := fun s => some (.cells false [.o (.b s) 0] 1)
  o3 := fun _ => none
  o4 := fun s => some (.lp (smS g first caps row) [p8] 11 (rfA (bodyC Try.f90) 0) (rfB (bodyC Try.f90) 0) (bif s then .done else .ready) (bif s then some .ret else none))
  o10 := fun _ => none
  nx := fun _ => .o (.o (.o .h))
  step := fun s c => s || P c
  goes := fun s c => !P c
theorem smS_kp {g : Pos} {first caps row : List D} (h1 : PuL first) (h2 : PuL caps) (hr : PuL row) {n : Nat} (hn : 8 ≤ n) : ∀ s d, (smS g first caps row).get s = some d → Kp n d := by
  have k1 := KpL.pu (n := n) first h1
  have k2 := KpL.pu (n := n) caps h2
  show TAll (fun _ d => Kp n d) (smS g first caps row)
  unfold smS
  repeat' first | exact TAll.e | refine TAll.some ?_ ?_ ?_ | refine TAll.none ?_ ?_
  all_goals simp [Kp, KpL, Pu, hr, k1, k2, Pos.nat]
  all_goals omega
section
variable {g : Pos} {first caps row : List D} {P : (Nat → Int) → Bool}
theorem smO_kp (h1 : PuL first) (h2 : PuL caps) (hr : PuL row) (s : Bool) (c : Nat → Int) : KpO 8 ((smN g first caps row P).ob row s c) := by
  have k1 := KpL.pu (n := 8) first h1
  have k2 := KpL.pu (n := 8) caps h2
  have hs := smS_kp h1 h2 hr (n := 8) (Nat.le_refl _) (g := g)
  show TAll (fun id c => id.nat < 8 ∧ KpC 8 c) _
  unfold Sns.ob trS smN
  repeat' first | exact TAll.e | refine TAll.some ?_ ?_ ?_ | refine TAll.none ?_ ?_
  all_goals refine ⟨by simp [Pos.nat], ?_⟩
  all_goals first
    | exact hs
    | exact seC_kp c 8
    | (refine KpL.all ?_; simp [KpL, Kp, Cell.d, Pu, hr, k1, k2, Pos.nat])
theorem smB_kp (h1 : PuL first) (h2 : PuL caps) (hr : PuL row) (s : Bool) : KpO 8 ((smN g first caps row P).base s) := fun id c h => smO_kp h1 h2 hr s zeroS id c ((smN g first caps row P).le row s zeroS id c h)
theorem smN_ok (h1 : PuL first) (h2 : PuL caps) (hr : PuL row) (hg : ∀ c, Hb c → PureF Try.prog g.ix (first ++ ([.ag (seaD c)] ++ caps)) (.b (P c))) (top : Nat) (ht : 0 < top) : SnsOk (smN g first caps row P) row (fun s => bif s then top else 0) top := by
  refine ⟨fun s c => smO_kp h1 h2 hr s c, fun s => smB_kp h1 h2 hr s, fun s => .inl rfl, fun s c => Nat.le_refl _, fun s c h => ?_, fun s c hc hw sl d K k => ?_⟩
  · have h : (!P c) = true := h
    have hp : P c = false := by simpa using h
    show (bif (s || P c) then top else 0) ≤ _
    rw [hp, Bool.or_false]
    omega
  · cases s with
    | true => exact absurd hw (Nat.lt_irrefl _)
    | false =>
      have cg := hg c hc
      refine WRnd.run rfl rc90a0_ok rc90b0_ok ⟨_, rfl, ?_⟩
      conv => whnf
      repeat' first | ((first | (with_reducible first | apply WB.tt | apply WB.ff) | apply Rn.seq | apply Rn.reg | apply Rn.drw | apply Rn.blk | apply Rn.skip | apply Rn.ret | apply Rn.exit | apply Rn.cond rfl | refine i64_ (by omega) (by omega) ?_ | refine ne0_ (by omega) ?_ | refine WIx.intsN (by omega) ?_ | refine WIx.rowsN (by omega) ?_) <;> conv => whnf)
      refine ⟨rfl, rfl, _, _, _, _, _, _, rfl, ?_⟩
      conv => whnf
      repeat' first | ((first | (with_reducible first | apply WB.tt | apply WB.ff) | apply Rn.seq | apply Rn.reg | apply Rn.drw | apply Rn.blk | apply Rn.skip | apply Rn.ret | apply Rn.exit | apply Rn.cond rfl | refine i64_ (by omega) (by omega) ?_ | refine ne0_ (by omega) ?_ | refine WIx.intsN (by omega) ?_ | refine WIx.rowsN (by omega) ?_ | refine WCall.pure (cg) ?_) <;> conv => whnf)
      refine WB.mk (fun h => ?_) (fun h => ?_) <;> conv => whnf
      · repeat' first | ((first | (with_reducible first | apply WB.tt | apply WB.ff) | apply Rn.seq | apply Rn.reg | apply Rn.drw | apply Rn.blk | apply Rn.skip | apply Rn.ret | apply Rn.exit | apply Rn.cond rfl | refine i64_ (by omega) (by omega) ?_ | refine ne0_ (by omega) ?_ | refine WIx.intsN (by omega) ?_ | refine WIx.rowsN (by omega) ?_) <;> conv => whnf)
        rw [show (smN g first caps row P).step false c = true from h, show (smN g first caps row P).goes false c = false from by show (!P c) = false; rw [h]; rfl] at k
        refine ⟨_, _, _, _, _, _, _, (smN g first caps row P).ob row true c, .o (.o (.o .h)), rfl, rfl, ?_, Nat.le_refl _, k⟩
        refine Shr.kp ?_ (smO_kp h1 h2 hr _ _)
        unfold Sns.ob trS smN
        (repeat' first | exact T.le_e _ | refine T.le_some ?_ rfl ?_ | refine T.le_none ?_ ?_)
      · repeat' first | ((first | (with_reducible first | apply WB.tt | apply WB.ff) | apply Rn.seq | apply Rn.reg | apply Rn.drw | apply Rn.blk | apply Rn.skip | apply Rn.ret | apply Rn.exit | apply Rn.cond rfl | refine i64_ (by omega) (by omega) ?_ | refine ne0_ (by omega) ?_ | refine WIx.intsN (by omega) ?_ | refine WIx.rowsN (by omega) ?_) <;> conv => whnf)
        rw [show (smN g first caps row P).step false c = false from h, show (smN g first caps row P).goes false c = true from by show (!P c) = true; rw [h]; rfl] at k
        refine ⟨_, _, _, _, _, _, _, (smN g first caps row P).ob row false c, .o (.o (.o .h)), rfl, rfl, ?_, Nat.le_refl _, k⟩
        refine Shr.kp ?_ (smO_kp h1 h2 hr _ _)
        unfold Sns.ob trS smN
        (repeat' first | exact T.le_e _ | refine T.le_some ?_ rfl ?_ | refine T.le_none ?_ ?_)
end
theorem smF {g : Pos} {first caps row : List D} {P : (Nat → Int) → Bool} : ∀ L : List (Nat → Int), (foldZ (smN g first caps row P) L false).1 = L.any P
  | [] => rfl
  | c :: L => by
    show (bif !P c then foldZ (smN g first caps row P) L (false || P c) else (false || P c, false)).1 = (P c || L.any P)
    cases h : P c with
    | true => rfl
    | false => exact smF L
theorem c_some (n : Nat) (hs : List Rg) (step : Int) (lv : List Int) (ms : List Mk) (tr : D) (htr : Pu tr) (hn : hs.length = n) (h10 : n ≤ 10) (hv : Vr hs) (h0 : 0 ≤ step) (h99 : step ≤ 99) (g : Pos) (first caps : List D) (P : (Nat → Int) → Bool) (h1 : PuL first) (h2 : PuL caps) (hg : ∀ c, Hb c → PureF Try.prog g.ix (first ++ ([.ag (seaD c)] ++ caps)) (.b (P c))) :
    PureF Try.prog p91.ix [.fn p106 [] [.pl (row6 n hs step lv ms tr) 0], .fn g first caps] (.b ((exS hs step n 0 zeroS).any P)) := by
  have hr := pu_row6 (n := n) (hs := hs) (step := step) (lv := lv) (ms := ms) htr
  have hlen : (exS hs step n 0 zeroS).length ≤ (exS hs step n 0 zeroS).length + 1 := by omega
  have C := c_seas1 (smN g first caps (row6 n hs step lv ms tr) P) _ ((exS hs step n 0 zeroS).length + 1) n hs step lv ms tr htr hn h10 hv h0 h99 (smN_ok h1 h2 hr hg _ (by omega)) false rfl (by simp only [cond_false]; omega)
  rw [smF] at C
  refine PureF.run fn90 (by simp) (by simp [PuL, PuE, Pu, hr, h1, h2]) ?_; conv => whnf
  repeat' first | ((first | (with_reducible first | apply WB.tt | apply WB.ff) | apply Rn.seq | apply Rn.reg | apply Rn.drw | apply Rn.blk | apply Rn.skip | apply Rn.ret | apply Rn.exit | apply Rn.cond rfl | refine i64_ (by omega) (by omega) ?_ | refine ne0_ (by omega) ?_ | refine WIx.intsN (by omega) ?_ | refine WIx.rowsN (by omega) ?_) <;> conv => whnf)
  refine Rn.le (a := ⟨smS g first caps (row6 n hs step lv ms tr), trS (some (.cells false [.o (.fn g first caps) 0] 1)) (some (.cells false [.o (.b false) 0] 1)) none none none none none none, .o (.o .h), none⟩) ?_ ?_
  · cases hP : (exS hs step n 0 zeroS).any P with
    | true =>
      rw [hP] at C
      refine Rn.rf rfl rfl C rfl (by simp) ?_; conv => whnf
      repeat' first | ((first | (with_reducible first | apply WB.tt | apply WB.ff) | apply Rn.seq | apply Rn.reg | apply Rn.drw | apply Rn.blk | apply Rn.skip | apply Rn.ret | apply Rn.exit | apply Rn.cond rfl | refine i64_ (by omega) (by omega) ?_ | refine ne0_ (by omega) ?_ | refine WIx.intsN (by omega) ?_ | refine WIx.rowsN (by omega) ?_) <;> conv => whnf)
      exact ⟨.inr rfl, _, rfl, .pu trivial⟩
    | false =>
      rw [hP] at C
      refine Rn.rf rfl rfl C rfl (by simp) ?_; conv => whnf
      repeat' first | ((first | (with_reducible first | apply WB.tt | apply WB.ff) | apply Rn.seq | apply Rn.reg | apply Rn.drw | apply Rn.blk | apply Rn.skip | apply Rn.ret | apply Rn.exit | apply Rn.cond rfl | refine i64_ (by omega) (by omega) ?_ | refine ne0_ (by omega) ?_ | refine WIx.intsN (by omega) ?_ | refine WIx.rowsN (by omega) ?_) <;> conv => whnf)
      exact ⟨.inr rfl, _, rfl, .pu trivial⟩
  · refine X.le.mk ?_ ?_ (by simp [Pos.nat]) rfl rfl
    · unfold smS
      repeat' first | exact T.le_e _ | refine T.le_some ?_ rfl ?_ | refine T.le_none ?_ ?_
    · unfold trS
      repeat' first | exact T.le_e _ | refine T.le_some ?_ rfl ?_ | refine T.le_none ?_ ?_ | refine T.le_ee ?_ ?_
end Go.Ev

namespace Go.Ev
open Go.Proofs
set_option maxRecDepth 100000
theorem c_fits (n : Nat) (hs : List Rg) (step : Int) (lv : List Int) (ms : List Mk) (tr : D) (htr : Pu tr) (hn : hs.length = n) (h10 : n ≤ 10) (hv : Vr hs) (h0 : 0 ≤ step) (h99 : step ≤ 99) (ms2 : List Mk) (hm : Vt ms2) (hl : ms2.length ≤ 1000) :
    PureF Try.prog p71.ix [.ag (row6 n hs step lv ms tr), .lst 4 (rows mkD ms2)] (.b ((exS hs step n 0 zeroS).any fun c => fitsR c ms2)) := by
  have hr := pu_row6 (n := n) (hs := hs) (step := step) (lv := lv) (ms := ms) htr
  have cs := c_some n hs step lv ms tr htr hn h10 hv h0 h99 p101 [] [.pl [.lst 4 (rows mkD ms2)] 0] (fun c => fitsR c ms2) trivial (by simp [PuL, Pu, pu_mk]) fun c _ => c_fits1 c ms2 hm hl
  refine PureF.run fn70 (by simp) (by simp [PuL, PuE, Pu, hr, pu_mk]) ?_; conv => whnf
  repeat' first | ((first | (with_reducible first | apply WB.tt | apply WB.ff) | apply Rn.seq | apply Rn.reg | apply Rn.drw | apply Rn.blk | apply Rn.skip | apply Rn.ret | apply Rn.exit | apply Rn.cond rfl | refine i64_ (by omega) (by omega) ?_ | refine ne0_ (by omega) ?_ | refine WIx.intsN (by omega) ?_ | refine WIx.rowsN (by omega) ?_ | refine WCall.pure (c_seas n hs step lv ms tr htr) ?_) <;> conv => whnf)
  refine WCall.borrow cs (.cons (.pu (by simp [Pu, PuL, hr])) (.cons (.fn .nil (.cons (Frz.ptr rfl rfl (by simp) (by simp [PuL, Pu, pu_mk])) .nil)) .nil)) trivial ?_; conv => whnf
  repeat' first | ((first | (with_reducible first | apply WB.tt | apply WB.ff) | apply Rn.seq | apply Rn.reg | apply Rn.drw | apply Rn.blk | apply Rn.skip | apply Rn.ret | apply Rn.exit | apply Rn.cond rfl | refine i64_ (by omega) (by omega) ?_ | refine ne0_ (by omega) ?_ | refine WIx.intsN (by omega) ?_ | refine WIx.rowsN (by omega) ?_) <;> conv => whnf)
  exact Fin.b rfl rfl
def eqS (c w : Nat → Int) : Bool := decide (c 0 = w 0 ∧ c 1 = w 1 ∧ c 2 = w 2 ∧ c 3 = w 3 ∧ c 4 = w 4 ∧ c 5 = w 5 ∧ c 6 = w 6 ∧ c 7 = w 7 ∧ c 8 = w 8 ∧ c 9 = w 9)
theorem eqS_iff {c w : Nat → Int} : eqS c w = true ↔ ∀ i, i < 10 → c i = w i := by
  unfold eqS
  rw [decide_eq_true_iff]
  constructor
  · rintro ⟨h0, h1, h2, h3, h4, h5, h6, h7, h8, h9⟩ i hi
    rcases ten hi with rfl | rfl | rfl | rfl | rfl | rfl | rfl | rfl | rfl | rfl <;> assumption
  · intro h
    exact ⟨h 0 (by omega), h 1 (by omega), h 2 (by omega), h 3 (by omega), h 4 (by omega), h 5 (by omega), h 6 (by omega), h 7 (by omega), h 8 (by omega), h 9 (by omega)⟩
section
variable {sl : T D} {ob : T C} {nx : Pos} {K : X → Prop}
theorem WSt.eqr10 {lg : Option (T Bool)} {d : Pos} {x y : RX} {c w : Nat → Int} (h1 : opd sl x = some (.ag (seaD c))) (h2 : opd sl y = some (.ag (seaD w))) (hc : ∀ i, wfB .i64 (c i) = true) (hw : ∀ i, wfB .i64 (w i) = true) (k : wOut sl ob nx lg d K (.b (eqS c w))) :
    WSt (.eqr d false [.i .i64, .i .i64, .i .i64, .i .i64, .i .i64, .i .i64, .i .i64, .i .i64, .i .i64, .i .i64] x y) ⟨sl, ob, nx, lg⟩ K := by
  obtain ⟨k1, k2⟩ := wOut_ok k
  refine ⟨_, ?_, k2⟩
  show s_eqr _ _ _ x y sl ob nx lg = _
  unfold s_eqr
  rw [h1, h2]
  have e : eqR [.i .i64, .i .i64, .i .i64, .i .i64, .i .i64, .i .i64, .i .i64, .i .i64, .i .i64, .i .i64] (.ag (seaD c)) (.ag (seaD w)) = some (eqS c w) := by
    have hk : kEq .i64 .i64 = true := rfl
    simp only [seaD, eqR, eqL, eqC, hk, hc, hw, Bool.and_self, cond_true, Option.some.injEq]
    unfold eqS
    simp only [eqB_eq, Bool.decide_and]
    have hb : ∀ a b : Int, (a == b) = decide (a = b) := fun a b => by by_cases h : a = b <;> simp [h]
    simp only [hb, Bool.and_true]
  simp only [e, cond_false, boolK_eq]
  exact k1
def sceL (c : Nat → Int) : List Cell := [.o (.i .i64 (c 0)) 0, .o (.i .i64 (c 1)) 0, .o (.i .i64 (c 2)) 0, .o (.i .i64 (c 3)) 0, .o (.i .i64 (c 4)) 0, .o (.i .i64 (c 5)) 0, .o (.i .i64 (c 6)) 0, .o (.i .i64 (c 7)) 0, .o (.i .i64 (c 8)) 0, .o (.i .i64 (c 9)) 0]
theorem WSt.cpy10 {d : Pos} {x y : RX} {id : Pos} {t : List Int} (h1 : opd sl x = some (.sl id 0 10 0 1)) (h2 : opd sl y = some (.lst 1 (ints t))) (h3 : ob.get id = some (Ev.C.cells false (sceL fun _ => 0) 1)) (h0 : 0 < t.length) (h9 : t.length ≤ 10)
    (k : T.setK id (.cells false (sceL fun i => t.getD i 0) 1) ob fun ob => wOut sl ob nx none d K (.i .i64 t.length)) : WSt (.cpy (some d) 1 x y) ⟨sl, ob, nx, none⟩ K := by
  rw [T.setK_eq] at k
  obtain ⟨k1, k2⟩ := wOut_ok k
  refine ⟨_, ?_, k2⟩
  show s_cpy (some d) 1 x y sl ob nx none = _
  unfold s_cpy
  rw [h1, h2]
  have key : ∀ {β : Type} (f : List Cell → Option β), writeK 0 (fun d => Cell.o d 0) (ints t).flatten 0 (sceL fun _ => 0) f = f (sceL fun i => t.getD i 0) := by
    intro β f
    match t, h0, h9 with
    | [_], _, _ => rfl
    | [_, _], _, _ => rfl
    | [_, _, _], _, _ => rfl
    | [_, _, _, _], _, _ => rfl
    | [_, _, _, _, _], _, _ => rfl
    | [_, _, _, _, _, _], _, _ => rfl
    | [_, _, _, _, _, _, _], _, _ => rfl
    | [_, _, _, _, _, _, _, _], _, _ => rfl
    | [_, _, _, _, _, _, _, _, _], _, _ => rfl
    | [_, _, _, _, _, _, _, _, _, _], _, _ => rfl
    | _ :: _ :: _ :: _ :: _ :: _ :: _ :: _ :: _ :: _ :: _ :: _, _, h => simp at h
  have hfl : (ints t).flatten.length = t.length := by rw [ints_flatten]; simp
  have c1 : (true && Nat.beq t.length (Nat.mul t.length 1)) = true := by simp
  have c2 : (true && Nat.ble t.length 10 && Nat.blt 0 t.length) = true := by
    rw [show Nat.ble t.length 10 = true from Nat.ble_eq_true_of_le h9, show Nat.blt 0 t.length = true from Nat.ble_eq_true_of_le h0]; rfl
  have c3 : Nat.beq (Nat.succ 0) 1 = true := rfl
  simp only [srcK, c1, cond_true, logO, hfl, ints_length, c2, h3, c3, key, objOutK, logW, T.setK_eq]
  exact k1
end
theorem c_read1 (c w : Nat → Int) (hc : ∀ i, wfB .i64 (c i) = true) (hw : ∀ i, wfB .i64 (w i) = true) : PureF Try.prog p93.ix [.ag (seaD c), .pl (seaD w) 0] (.b (eqS c w)) := by
  refine PureF.run fn92 (by simp) (by simp [PuL, PuE, Pu, seaD]) ?_; conv => whnf
  repeat' first | ((first | (with_reducible first | apply WB.tt | apply WB.ff) | apply Rn.seq | apply Rn.reg | apply Rn.drw | apply Rn.blk | apply Rn.skip | apply Rn.ret | apply Rn.exit | apply Rn.cond rfl | refine i64_ (by omega) (by omega) ?_ | refine ne0_ (by omega) ?_ | refine WIx.intsN (by omega) ?_ | refine WIx.rowsN (by omega) ?_) <;> conv => whnf)
  refine WSt.eqr10 (c := c) (w := w) rfl rfl hc hw ?_; conv => whnf
  repeat' first | ((first | (with_reducible first | apply WB.tt | apply WB.ff) | apply Rn.seq | apply Rn.reg | apply Rn.drw | apply Rn.blk | apply Rn.skip | apply Rn.ret | apply Rn.exit | apply Rn.cond rfl | refine i64_ (by omega) (by omega) ?_ | refine ne0_ (by omega) ?_ | refine WIx.intsN (by omega) ?_ | refine WIx.rowsN (by omega) ?_) <;> conv => whnf)
  exact Fin.b rfl rfl
def wantS (t : List Int) (i : Nat) : Int := t.getD i 0
theorem Hb.wf {c : Nat → Int} (h : Hb c) (i : Nat) : wfB .i64 (c i) = true := wf_small (by have := h i; omega) (by have := h i; omega)
def readZ (hs : List Rg) (step : Int) (n : Nat) (t : List Int) : D := if t.length = n then .tp [.ag (seaD (wantS t)), .b ((exS hs step n 0 zeroS).any fun c => eqS c (wantS t))] else .tp [.ag (seaD zeroS), .b false]
theorem c_read (n : Nat) (hs : List Rg) (step : Int) (lv : List Int) (ms : List Mk) (tr : D) (htr : Pu tr) (hn : hs.length = n) (h1 : 1 ≤ n) (h10 : n ≤ 10) (hv : Vr hs) (h0 : 0 ≤ step) (h99 : step ≤ 99) (t : List Int) (ht : ∀ i, wfB .i64 (t.getD i 0) = true) :
    PureF Try.prog p65.ix [.ag (row6 n hs step lv ms tr), .lst 1 (ints t)] (readZ hs step n t) := by
  have hr := pu_row6 (n := n) (hs := hs) (step := step) (lv := lv) (ms := ms) htr
  have e1 := ints_length t
  have cs := c_some n hs step lv ms tr htr hn h10 hv h0 h99 p93 [] [.pl (seaD (wantS t)) 0] (fun c => eqS c (wantS t)) trivial (by simp [PuL, Pu, seaD]) fun c hc => c_read1 c (wantS t) hc.wf ht
  refine PureF.run fn64 (by simp) (by simp [PuL, PuE, Pu, hr, pu_ints]) ?_; conv => whnf
  repeat' first | ((first | (with_reducible first | apply WB.tt | apply WB.ff) | apply Rn.seq | apply Rn.reg | apply Rn.drw | apply Rn.blk | apply Rn.skip | apply Rn.ret | apply Rn.exit | apply Rn.cond rfl | refine i64_ (by omega) (by omega) ?_ | refine ne0_ (by omega) ?_ | refine WIx.intsN (by omega) ?_ | refine WIx.rowsN (by omega) ?_ | (with_reducible first | refine WB.dec (fun h => ?_) (fun h => ?_) | refine WB.ndec (fun h => ?_) (fun h => ?_)) | refine WB.mk (fun h => ?_) (fun h => ?_)) <;> conv => whnf)
  · have hf : ¬ t.length = n := by omega
    unfold readZ
    rw [if_neg hf]
    refine ⟨.inr rfl, _, rfl, ?_⟩
    exact .pu (by simp [Pu, PuL, one, seaD, zeroS])
  · have hlen : t.length = n := by omega
    refine ⟨_, rfl, ?_⟩; conv => whnf
    repeat' first | ((first | (with_reducible first | apply WB.tt | apply WB.ff) | apply Rn.seq | apply Rn.reg | apply Rn.drw | apply Rn.blk | apply Rn.skip | apply Rn.ret | apply Rn.exit | apply Rn.cond rfl | refine i64_ (by omega) (by omega) ?_ | refine ne0_ (by omega) ?_ | refine WIx.intsN (by omega) ?_ | refine WIx.rowsN (by omega) ?_) <;> conv => whnf)
    refine WSt.cpy10 (t := t) rfl rfl rfl (by omega) (by omega) ?_; conv => whnf
    repeat' first | ((first | (with_reducible first | apply WB.tt | apply WB.ff) | apply Rn.seq | apply Rn.reg | apply Rn.drw | apply Rn.blk | apply Rn.skip | apply Rn.ret | apply Rn.exit | apply Rn.cond rfl | refine i64_ (by omega) (by omega) ?_ | refine ne0_ (by omega) ?_ | refine WIx.intsN (by omega) ?_ | refine WIx.rowsN (by omega) ?_ | refine WCall.pure (c_seas n hs step lv ms tr htr) ?_) <;> conv => whnf)
    refine WCall.borrow cs (.cons (.pu (by simp [Pu, PuL, hr])) (.cons (.fn .nil (.cons (Frz.ptr rfl rfl (by simp [seaD]) (by simp [PuL, Pu, seaD])) .nil)) .nil)) trivial ?_; conv => whnf
    repeat' first | ((first | (with_reducible first | apply WB.tt | apply WB.ff) | apply Rn.seq | apply Rn.reg | apply Rn.drw | apply Rn.blk | apply Rn.skip | apply Rn.ret | apply Rn.exit | apply Rn.cond rfl | refine i64_ (by omega) (by omega) ?_ | refine ne0_ (by omega) ?_ | refine WIx.intsN (by omega) ?_ | refine WIx.rowsN (by omega) ?_) <;> conv => whnf)
    unfold readZ
    rw [if_pos hlen]
    refine ⟨.inr rfl, _, rfl, ?_⟩
    exact .pu (by simp [Pu, PuL, one, seaD, wantS])
end Go.Ev

namespace Go.Ev
open Go.Proofs
set_option maxRecDepth 100000
theorem inB_iff {n a b : Int} : inB n a b = true ↔ a ≤ n ∧ n ≤ b := by unfold inB; rw [decide_eq_true_iff]
theorem fit_listed {hs : List Rg} {step : Int} {n : Nat} {t : List Int} (hn : hs.length = n) (ht : t.length = n) : FitS hs step n 0 zeroS (wantS t) ↔ listedR hs step t = true := by
  unfold listedR nearB
  rw [Bool.and_eq_true, Bool.and_eq_true, List.all_eq_true, List.all_eq_true, decide_eq_true_iff]
  unfold FitS
  constructor
  · rintro ⟨_, h2⟩
    refine ⟨fun i hi => ?_, by omega, fun i hi => ?_⟩
    · have hi := List.mem_range.1 hi
      have := h2 i (Nat.zero_le _) (by omega)
      unfold inAt
      rw [inB_iff]
      show _ ≤ wantS t i ∧ wantS t i ≤ _
      cases i with
      | zero => exact this
      | succ q => simp only [loP, hiP] at this; omega
    · have hi := List.mem_range.1 hi
      have := h2 (i + 1) (Nat.zero_le _) (by omega)
      unfold near1
      rw [decide_eq_true_iff]
      show wantS t (i + 1) - wantS t i ≤ step ∧ wantS t i - wantS t (i + 1) ≤ step
      simp only [loP, hiP] at this
      omega
  · rintro ⟨h1, h2, h3⟩
    refine ⟨fun i hi => ?_, fun i _ hi => ?_⟩
    · unfold wantS zeroS
      rw [List.getD_eq_getElem?_getD, List.getElem?_eq_none (by omega)]; rfl
    · have k1 := h1 i (List.mem_range.2 (by omega))
      unfold inAt at k1
      rw [inB_iff] at k1
      have k1 : (hs.getD i default).lo ≤ wantS t i ∧ wantS t i ≤ (hs.getD i default).hi := k1
      cases i with
      | zero => exact k1
      | succ q =>
        have k2 := h3 q (List.mem_range.2 (by omega))
        unfold near1 at k2
        rw [decide_eq_true_iff] at k2
        have k2 : wantS t (q + 1) - wantS t q ≤ step ∧ wantS t q - wantS t (q + 1) ≤ step := k2
        simp only [loP, hiP]
        omega
def listZ (n : Nat) (x : Nat → Int) : List Int := (List.range n).map x
theorem listZ_length (n : Nat) (x : Nat → Int) : (listZ n x).length = n := by simp [listZ]
theorem listZ_want {hs : List Rg} {step : Int} {n : Nat} {x : Nat → Int} (h : FitS hs step n 0 zeroS x) : wantS (listZ n x) = x := funext fun i => by
  unfold wantS listZ
  by_cases hi : i < n
  · simp [List.getD, hi]
  · rw [List.getD_eq_getElem?_getD, List.getElem?_eq_none (by simp; omega)]
    exact (h.1 i (by omega)).symm
theorem want_inj {a b : List Int} (hl : a.length = b.length) (h : wantS a = wantS b) : a = b := by
  apply List.ext_getElem hl
  intro i h1 h2
  have := congrFun h i
  unfold wantS at this
  simpa [List.getD, h1, h2] using this
theorem any_exS {hs : List Rg} {step : Int} {n : Nat} (hn : hs.length = n) (P : (Nat → Int) → Bool) : (exS hs step n 0 zeroS).any P = true ↔ ∃ t : List Int, t.length = n ∧ listedR hs step t = true ∧ P (wantS t) = true := by
  rw [List.any_eq_true]
  constructor
  · rintro ⟨x, hx, hp⟩
    have hf := (mem_exS hs step n 0 zeroS x).1 hx
    have hw := listZ_want hf
    refine ⟨listZ n x, listZ_length n x, ?_, by rw [hw]; exact hp⟩
    rw [← fit_listed hn (listZ_length n x), hw]
    exact hf
  · rintro ⟨t, h1, h2, h3⟩
    exact ⟨wantS t, (mem_exS hs step n 0 zeroS _).2 ((fit_listed hn h1).2 h2), h3⟩
theorem all_exS {hs : List Rg} {step : Int} {n : Nat} (hn : hs.length = n) {x : Nat → Int} (hx : x ∈ exS hs step n 0 zeroS) : ∃ t : List Int, t.length = n ∧ listedR hs step t = true ∧ wantS t = x := by
  have hf := (mem_exS hs step n 0 zeroS x).1 hx
  have hw := listZ_want hf
  refine ⟨listZ n x, listZ_length n x, ?_, hw⟩
  rw [← fit_listed hn (listZ_length n x), hw]
  exact hf
theorem read_listed {hs : List Rg} {step : Int} {n : Nat} {t : List Int} (hn : hs.length = n) (h10 : n ≤ 10) (ht : t.length = n) : ((exS hs step n 0 zeroS).any fun c => eqS c (wantS t)) = listedR hs step t := by
  rw [Bool.eq_iff_iff, any_exS hn]
  constructor
  · rintro ⟨t', h1, h2, h3⟩
    have h3 := eqS_iff.1 h3
    have : t' = t := want_inj (by omega) (funext fun i => by
      by_cases hi : i < 10
      · exact h3 i hi
      · unfold wantS
        rw [List.getD_eq_getElem?_getD, List.getElem?_eq_none (by omega), List.getD_eq_getElem?_getD, List.getElem?_eq_none (by omega)])
    rw [← this]; exact h2
  · intro h
    exact ⟨t, ht, h, eqS_iff.2 fun _ _ => rfl⟩
theorem nthR_surj : ∀ (hs : List Rg) (t : List Int), Vr hs → t.length = hs.length → (∀ i, i < hs.length → inAt hs t i = true) → ∃ k : Int, 0 ≤ k ∧ k < (szs hs : Int) ∧ nthR hs k = t
  | [], [], _, _, _ => ⟨0, by omega, by simp [szs], rfl⟩
  | [], _ :: _, _, h, _ => by simp at h
  | _ :: _, [], _, h, _ => by simp at h
  | r :: hs, a :: t, hv, hl, hi => by
    obtain ⟨k, k0, k1, k2⟩ := nthR_surj hs t (fun x hx => hv x (by simp [hx])) (by simpa using hl) fun i h => by
      have := hi (i + 1) (by simp; omega)
      simpa [inAt] using this
    have hz := hv.sz (r := r) (by simp)
    have ha := hi 0 (by simp)
    unfold inAt at ha
    rw [inB_iff] at ha
    have ha : r.lo ≤ a ∧ a ≤ r.hi := ha
    have hs1 : szR r = r.hi - r.lo + 1 := rfl
    obtain ⟨s, hsn⟩ : ∃ s : Nat, szR r = (s : Int) := ⟨(szR r).toNat, by omega⟩
    have hprod : (szs (r :: hs) : Int) = szR r * (szs hs : Int) := by
      show (((szR r).toNat * szs hs : Nat) : Int) = _
      rw [Int.natCast_mul, Int.toNat_of_nonneg (by omega)]
    have hnn : 0 ≤ szR r * k := Int.mul_nonneg (by omega) k0
    have hup : szR r * k + szR r ≤ szR r * (szs hs : Int) := by
      have : szR r * (k + 1) ≤ szR r * (szs hs : Int) := Int.mul_le_mul_of_nonneg_left (by omega) (by omega)
      rwa [Int.mul_add, Int.mul_one] at this
    have h0 : 0 ≤ a - r.lo + szR r * k := by omega
    refine ⟨a - r.lo + szR r * k, h0, by rw [hprod]; omega, ?_⟩
    have e1 : (a - r.lo + szR r * k).tmod (szR r) = a - r.lo := by
      rw [Int.tmod_eq_emod_of_nonneg h0, Int.add_mul_emod_self_left, Int.emod_eq_of_lt (by omega) (by omega)]
    have e2 : (a - r.lo + szR r * k).tdiv (szR r) = k := by
      rw [Int.tdiv_eq_ediv_of_nonneg h0, Int.add_mul_ediv_left _ _ (by omega), Int.ediv_eq_zero_of_lt (by omega) (by omega), Int.zero_add]
    show (r.lo + (a - r.lo + szR r * k).tmod (szR r)) :: nthR hs ((a - r.lo + szR r * k).tdiv (szR r)) = a :: t
    rw [e1, e2, k2, show r.lo + (a - r.lo) = a by omega]
theorem nthR_in (hs : List Rg) (k : Int) (hv : Vr hs) (h0 : 0 ≤ k) (i : Nat) (hi : i < hs.length) : inAt hs (nthR hs k) i = true := by
  unfold inAt
  rw [nthR_at hs k i hi, inB_iff]
  have hr := getD_mem (d := default) hi
  have hz := hv.sz hr
  have q := quoR_bd (N := k) (hs.take i) k (fun x hx => hv x (List.mem_of_mem_take hx)) h0 (Int.le_refl _)
  have m1 := Int.tmod_nonneg (szR (hs.getD i default)) q.1
  have m2 := Int.tmod_lt_of_pos (quoR (hs.take i) k) (show 0 < szR (hs.getD i default) by omega)
  have hs1 : szR (hs.getD i default) = (hs.getD i default).hi - (hs.getD i default).lo + 1 := rfl
  omega
theorem mem_allN {hs : List Rg} (hv : Vr hs) (hm : manyR hs ≤ 2000) {t : List Int} : t ∈ allN hs ↔ t.length = hs.length ∧ ∀ i, i < hs.length → inAt hs t i = true := by
  have hp : manyR hs = (szs hs : Int) := by
    have := manyR_eq hv
    rw [szs_eq hv] at this
    omega
  unfold allN
  rw [List.mem_map]
  constructor
  · rintro ⟨k, hk, rfl⟩
    exact ⟨nthR_length hs _, fun i hi => nthR_in hs _ hv (by omega) i hi⟩
  · rintro ⟨h1, h2⟩
    obtain ⟨k, k0, k1, k2⟩ := nthR_surj hs t hv h1 h2
    exact ⟨k.toNat, List.mem_range.2 (by omega), by rw [Int.toNat_of_nonneg k0]; exact k2⟩
theorem mem_listsR {hs : List Rg} {step : Int} (hv : Vr hs) (hm : manyR hs ≤ 2000) {t : List Int} : t ∈ listsR hs step ↔ listedR hs step t = true := by
  unfold listsR
  rw [List.mem_filter, mem_allN hv hm]
  unfold listedR
  rw [Bool.and_eq_true, Bool.and_eq_true, decide_eq_true_iff, List.all_eq_true]
  constructor
  · rintro ⟨⟨h1, h2⟩, h3⟩
    exact ⟨fun i hi => h2 i (by have := List.mem_range.1 hi; omega), h1, h3⟩
  · rintro ⟨h1, h2, h3⟩
    exact ⟨⟨h2, fun i hi => h1 i (List.mem_range.2 (by omega))⟩, h3⟩
theorem listed_lenZ {hs : List Rg} {step : Int} {t : List Int} (h : listedR hs step t = true) : t.length = hs.length := by
  unfold listedR at h
  rw [Bool.and_eq_true, Bool.and_eq_true, decide_eq_true_iff] at h
  exact h.2.1
theorem any_lists {hs : List Rg} {step : Int} (hv : Vr hs) (hm : manyR hs ≤ 2000) (P : (Nat → Int) → Bool) : (exS hs step hs.length 0 zeroS).any P = (listsR hs step).any fun t => P (wantS t) := by
  rw [Bool.eq_iff_iff, any_exS rfl, List.any_eq_true]
  constructor
  · rintro ⟨t, _, h2, h3⟩
    exact ⟨t, (mem_listsR hv hm).2 h2, h3⟩
  · rintro ⟨t, h1, h2⟩
    have h1 := (mem_listsR hv hm).1 h1
    exact ⟨t, listed_lenZ h1, h1, h2⟩
theorem any_filter' {α : Type} (p q : α → Bool) : ∀ l : List α, (l.filter p).any q = l.any fun x => p x && q x
  | [] => rfl
  | a :: l => by
    rw [List.filter_cons, List.any_cons]
    cases p a with
    | true => simp only [ite_true, List.any_cons, Bool.true_and]; rw [any_filter' p q l]
    | false => simp only [Bool.false_eq_true, ite_false, Bool.false_and, Bool.false_or]; exact any_filter' p q l
theorem seaL_want {t : List Int} (h : t.length ≤ 10) : (seaL (wantS t)).take t.length = t := by
  match t, h with
  | [], _ => rfl
  | [_], _ => rfl
  | [_, _], _ => rfl
  | [_, _, _], _ => rfl
  | [_, _, _, _], _ => rfl
  | [_, _, _, _, _], _ => rfl
  | [_, _, _, _, _, _], _ => rfl
  | [_, _, _, _, _, _, _], _ => rfl
  | [_, _, _, _, _, _, _, _], _ => rfl
  | [_, _, _, _, _, _, _, _, _], _ => rfl
  | [_, _, _, _, _, _, _, _, _, _], _ => rfl
  | _ :: _ :: _ :: _ :: _ :: _ :: _ :: _ :: _ :: _ :: _ :: _, h => simp at h
theorem partL_want {t : List Int} {f u : Nat} (h : t.length ≤ 10) (h1 : f ≤ u) (h2 : u < t.length) : partL (wantS t) f u = (t.drop f).take (u + 1 - f) := by
  unfold partL
  conv => rhs; rw [← seaL_want h]
  rw [List.drop_take, List.take_take, Nat.min_eq_left (by omega)]
theorem agrees_right {t : List Int} {m : Mk} (h : t.length ≤ 10) (h0 : 0 ≤ m.fr) (h1 : m.fr ≤ m.to) (h2 : m.to < t.length) : agreesM (wantS t) m = rightR t m := by
  unfold agreesM agreesR rightR topR
  rw [partL_want h (by omega) (by omega), show (m.to + 1 - m.fr).toNat = m.to.toNat + 1 - m.fr.toNat by omega]
  congr 1
  have hlen : ((t.drop m.fr.toNat).take (m.to.toNat + 1 - m.fr.toNat)).length = m.to.toNat + 1 - m.fr.toNat := by simp; omega
  have hhd : t.getD m.fr.toNat 0 = ((t.drop m.fr.toNat).take (m.to.toNat + 1 - m.fr.toNat)).getD 0 0 := by
    simp only [List.getD_eq_getElem?_getD]
    rw [List.getElem?_take_of_lt (by omega), List.getElem?_drop, Nat.add_zero]
  rw [hhd]
  generalize (t.drop m.fr.toNat).take (m.to.toNat + 1 - m.fr.toNat) = l at hlen
  cases l with
  | nil => simp at hlen; omega
  | cons a l =>
    unfold maxN
    show (l.take _).foldl max a = (a :: l).foldl max a
    rw [List.take_of_length_le (by simp at hlen; omega), List.foldl_cons]
    show l.foldl max a = l.foldl max (max a a)
    rw [Int.max_self]
theorem fits_right {t : List Int} {ms : List Mk} (h : t.length ≤ 10) (hm : ∀ m ∈ ms, 0 ≤ m.fr ∧ m.fr ≤ m.to ∧ m.to < t.length) : fitsR (wantS t) ms = ms.all (rightR t) := by
  unfold fitsR
  rw [Bool.eq_iff_iff, List.all_eq_true, List.all_eq_true]
  constructor
  · intro k m hmm
    rw [← agrees_right h (hm m hmm).1 (hm m hmm).2.1 (hm m hmm).2.2]; exact k m hmm
  · intro k m hmm
    rw [agrees_right h (hm m hmm).1 (hm m hmm).2.1 (hm m hmm).2.2]; exact k m hmm
end Go.Ev
