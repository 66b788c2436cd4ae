import Derived.Test.YtpemagogcagipaaEvQE
set_option linter.all false
namespace Go.Ev
open Go.Proofs
set_option maxRecDepth 100000
theorem RndOk.ofW {P : Program} {id : Pos} {ds : List D} {ob ob' : T C} {nx nx' : Pos} {v : D} (h : WRnd P id ds (some .h) ⟨.e, ob, nx, none⟩ (fun x => x = ⟨.n .e (some v) .e, ob', nx', none⟩)) : RndOk P id ds ob nx none v ob' nx' none := by
  obtain ⟨v1, ob1, nx1, lg1, Z, h1, h2, h3⟩ := h.ok
  subst h3
  have h2 : T.setK .h v1 (T.e : T D) (fun sl => some (⟨sl, ob1, nx1, lg1⟩ : X)) = some ⟨.n .e (some v) .e, ob', nx', none⟩ := h2
  rw [T.setK_eq] at h2
  obtain ⟨e1, e2, e3, e4⟩ := X.mk.inj (Option.some.inj h2)
  have e1 := congrArg (fun t => T.get t .h) e1
  have e1 : (T.set .h v1 (T.e : T D)).get .h = some v := e1
  rw [T.get_set_same] at e1
  have e1 := Option.some.inj e1
  subst e1 e2 e3 e4
  exact h1
def ssS (m : Nat) (many : Nat) : T D := (.n (.n (.n .e (some (.pt (.o .h) 0 0)) (.n (.n .e (some (.fn p108 [] [.pl [.i .i64 (many : Int)] 0, .pl [.i .i64 (m : Int)] 0])) .e) (some (.i .i64 (many : Int))) .e)) (some (.pt .h 0 0)) .e) none (.n .e none (.n (.n .e (some (.i .i64 ((m : Int) + 1))) .e) none .e)))
def ssO (o : Option (List Int)) : D := match o with
  | none => .ns
  | some S => setD S
noncomputable def ssR (m : Nat) (many : Nat) (o : Option (List Int)) : C := match o with
  | none => .lp (ssS m many) [p21] 29 (rfA (bodyC Try.f83) 0) (rfB (bodyC Try.f83) 0) .ready none
  | some _ => .lp (ssS m many) [p21] 29 (rfA (bodyC Try.f83) 0) (rfB (bodyC Try.f83) 0) .done (some (.exit 0))
noncomputable def ssN (bx : C) (m many : Nat) (p : List Int → Bool) : Yns (Option (List Int)) where
  o1 := fun _ => some bx
  o2 := fun s => some (.cells false [.o (ssO s) 0] 1)
  o3 := fun s => some (ssR m many s)
  step := fun s S => bif p S then some S else s
  goes := fun s S => !p S
theorem ssS_kp (m many n : Nat) (hn : 4 ≤ n) : ∀ s d, (ssS m many).get s = some d → Kp n d := by
  show TAll (fun _ d => Kp n d) (ssS m many)
  unfold ssS
  repeat' first | exact TAll.e | refine TAll.some ?_ ?_ ?_ | refine TAll.none ?_ ?_
  all_goals simp [Kp, KpL, Pu, PuL, Pos.nat]
  all_goals omega
theorem ssO_pu (o : Option (List Int)) : Pu (ssO o) := by
  cases o with
  | none => trivial
  | some S => exact setD_pu S
theorem ssF (bx : C) (m many : Nat) (p : List Int → Bool) : ∀ L : List (List Int), (foldY (ssN bx m many p) L none).1 = L.find? p
  | [] => rfl
  | S :: L => by
    show (match !p S with | true => foldY (ssN bx m many p) L (bif p S then some S else none) | false => (bif p S then some S else none, false)).1 = _
    cases h : p S with
    | true => rw [List.find?_cons_of_pos h]; rfl
    | false => rw [List.find?_cons_of_neg (by rw [h]; simp)]; exact ssF bx m many p L
theorem ssN_ok (last : Int) (hs : List Rg) (step : Int) (lv : List Int) (ms : List Mk) (m many : Nat) (V : ValidT last hs step lv ms) (p : List Int → Bool) (hp : ∀ S, p S = (exS hs step hs.length 0 zeroS).any fun c => fitsR c (woR ms S)) : YnsOk (ssN (wkC last hs step lv ms .ns) m many p) (fun s => s = none) := by
  have kb : ∀ n, KpC n (wkC last hs step lv ms .ns) := fun n => wkC_kp last hs step lv ms .ns (fun n => Kp.pu _ trivial) n
  have k2 : ∀ (s : Option (List Int)) n, KpC n (.cells false [.o (ssO s) 0] 1) := fun s n c hc => by
    rw [List.mem_singleton.1 hc]
    exact Kp.pu _ (ssO_pu s)
  have k3 : ∀ (s : Option (List Int)) n, 4 ≤ n → KpC n (ssR m many s) := fun s n hn => by
    cases s with
    | none => exact ssS_kp m many n hn
    | some S => exact ssS_kp m many n hn
  have K3 : ∀ s, KpO (Pos.o (.o .h)).nat ((ssN (wkC last hs step lv ms .ns) m many p).ob3 s) := fun s => kpo3 (by decide) (fun c h => by cases h; exact kb 4) (fun c h => by cases h; exact k2 s 4) (fun c h => by cases h; exact k3 s 4 (by omega))
  refine ⟨fun s n hn => ⟨fun c h => by cases h; exact kb n, fun c h => by cases h; exact k2 s n, fun c h => by cases h; exact k3 s n hn⟩, fun s S h hg => ?_, fun s S hs hl => ?_⟩
  · have hg : (!p S) = true := hg
    have h0 : p S = false := by simpa using hg
    show (bif p S then some S else s) = none
    rw [h0]; exact h
  · subst hs
    have cw := c_withoutS last hs step lv ms .ns trivial S (by have := V.ms5; omega) hl
    have cf := c_fits hs.length hs step lv ms .ns trivial rfl V.h10 V.hv V.s0 V.s99 (woR ms S) (fun x hx => V.vt2 x (woR_mem hx)) (by
      unfold woR woJ
      rw [List.length_map]
      have := List.length_filter_le (fun i : Nat => !conR S (i : Int)) (List.range ms.length)
      rw [List.length_range] at this
      have := V.ms5
      omega)
    rw [row6_eq V.n, ← hp S] at cf
    rcases S with _ | ⟨a, l⟩
    · refine RndOk.ofW ?_
      refine WRnd.run rfl rc83a0_ok rc83b0_ok ⟨_, rfl, ?_⟩
      conv => whnf
      repeat' first | ((first | (with_reducible first | apply WB.tt | apply WB.ff) | apply Rn.seq | apply Rn.reg | apply Rn.drw | apply Rn.blk | apply Rn.skip | apply Rn.ret | apply Rn.exit | apply Rn.cond rfl | refine i64_ (by omega) (by omega) ?_ | refine ne0_ (by omega) ?_ | refine WIx.intsN (by omega) ?_ | refine WIx.rowsN (by omega) ?_) <;> conv => whnf)
      refine ⟨rfl, rfl, _, _, _, _, _, _, rfl, ?_⟩
      conv => whnf
      repeat' first | ((first | (with_reducible first | apply WB.tt | apply WB.ff) | apply Rn.seq | apply Rn.reg | apply Rn.drw | apply Rn.blk | apply Rn.skip | apply Rn.ret | apply Rn.exit | apply Rn.cond rfl | refine i64_ (by omega) (by omega) ?_ | refine ne0_ (by omega) ?_ | refine WIx.intsN (by omega) ?_ | refine WIx.rowsN (by omega) ?_ | refine WCall.pure (cw) ?_ | refine WCall.pure (cf) ?_) <;> conv => whnf)
      refine WB.mk (fun h => ?_) (fun h => ?_) <;> conv => whnf
      · repeat' first | ((first | (with_reducible first | apply WB.tt | apply WB.ff) | apply Rn.seq | apply Rn.reg | apply Rn.drw | apply Rn.blk | apply Rn.skip | apply Rn.ret | apply Rn.exit | apply Rn.cond rfl | refine i64_ (by omega) (by omega) ?_ | refine ne0_ (by omega) ?_ | refine WIx.intsN (by omega) ?_ | refine WIx.rowsN (by omega) ?_) <;> conv => whnf)
        refine ⟨_, _, _, _, _, _, _, (ssN (wkC last hs step lv ms .ns) m many p).ob3 (some []), .o (.o .h), rfl, rfl, ?_, Nat.le_refl _, ?_⟩
        · refine Shr.kp ?_ (K3 _)
          show T.le (tr3 _ _ _) _
          unfold tr3 ssN
          (repeat' first | exact T.le_e _ | refine T.le_some ?_ rfl ?_ | refine T.le_none ?_ ?_)
        · show (⟨_, _, _, _⟩ : X) = ⟨_, _, _, _⟩
          rw [show (ssN (wkC last hs step lv ms .ns) m many p).step none [] = some [] from by show (bif p [] then some [] else none) = _; rw [h]; rfl, show (ssN (wkC last hs step lv ms .ns) m many p).goes none [] = false from by show (!p []) = false; rw [h]; rfl]
          rfl
      · repeat' first | ((first | (with_reducible first | apply WB.tt | apply WB.ff) | apply Rn.seq | apply Rn.reg | apply Rn.drw | apply Rn.blk | apply Rn.skip | apply Rn.ret | apply Rn.exit | apply Rn.cond rfl | refine i64_ (by omega) (by omega) ?_ | refine ne0_ (by omega) ?_ | refine WIx.intsN (by omega) ?_ | refine WIx.rowsN (by omega) ?_) <;> conv => whnf)
        refine ⟨_, _, _, _, _, _, _, (ssN (wkC last hs step lv ms .ns) m many p).ob3 none, .o (.o .h), rfl, rfl, ?_, Nat.le_refl _, ?_⟩
        · refine Shr.kp ?_ (K3 _)
          show T.le (tr3 _ _ _) _
          unfold tr3 ssN
          (repeat' first | exact T.le_e _ | refine T.le_some ?_ rfl ?_ | refine T.le_none ?_ ?_)
        · show (⟨_, _, _, _⟩ : X) = ⟨_, _, _, _⟩
          rw [show (ssN (wkC last hs step lv ms .ns) m many p).step none [] = none from by show (bif p [] then some [] else none) = _; rw [h]; rfl, show (ssN (wkC last hs step lv ms .ns) m many p).goes none [] = true from by show (!p []) = true; rw [h]; rfl]
          rfl
    · refine RndOk.ofW ?_
      refine WRnd.run rfl rc83a0_ok rc83b0_ok ⟨_, rfl, ?_⟩
      conv => whnf
      repeat' first | ((first | (with_reducible first | apply WB.tt | apply WB.ff) | apply Rn.seq | apply Rn.reg | apply Rn.drw | apply Rn.blk | apply Rn.skip | apply Rn.ret | apply Rn.exit | apply Rn.cond rfl | refine i64_ (by omega) (by omega) ?_ | refine ne0_ (by omega) ?_ | refine WIx.intsN (by omega) ?_ | refine WIx.rowsN (by omega) ?_) <;> conv => whnf)
      refine ⟨rfl, rfl, _, _, _, _, _, _, rfl, ?_⟩
      conv => whnf
      repeat' first | ((first | (with_reducible first | apply WB.tt | apply WB.ff) | apply Rn.seq | apply Rn.reg | apply Rn.drw | apply Rn.blk | apply Rn.skip | apply Rn.ret | apply Rn.exit | apply Rn.cond rfl | refine i64_ (by omega) (by omega) ?_ | refine ne0_ (by omega) ?_ | refine WIx.intsN (by omega) ?_ | refine WIx.rowsN (by omega) ?_ | refine WCall.pure (cw) ?_ | refine WCall.pure (cf) ?_) <;> conv => whnf)
      refine WB.mk (fun h => ?_) (fun h => ?_) <;> conv => whnf
      · repeat' first | ((first | (with_reducible first | apply WB.tt | apply WB.ff) | apply Rn.seq | apply Rn.reg | apply Rn.drw | apply Rn.blk | apply Rn.skip | apply Rn.ret | apply Rn.exit | apply Rn.cond rfl | refine i64_ (by omega) (by omega) ?_ | refine ne0_ (by omega) ?_ | refine WIx.intsN (by omega) ?_ | refine WIx.rowsN (by omega) ?_) <;> conv => whnf)
        refine ⟨_, _, _, _, _, _, _, (ssN (wkC last hs step lv ms .ns) m many p).ob3 (some (a :: l)), .o (.o .h), rfl, rfl, ?_, Nat.le_refl _, ?_⟩
        · refine Shr.kp ?_ (K3 _)
          show T.le (tr3 _ _ _) _
          unfold tr3 ssN
          (repeat' first | exact T.le_e _ | refine T.le_some ?_ rfl ?_ | refine T.le_none ?_ ?_)
        · show (⟨_, _, _, _⟩ : X) = ⟨_, _, _, _⟩
          rw [show (ssN (wkC last hs step lv ms .ns) m many p).step none (a :: l) = some (a :: l) from by show (bif p (a :: l) then some (a :: l) else none) = _; rw [h]; rfl, show (ssN (wkC last hs step lv ms .ns) m many p).goes none (a :: l) = false from by show (!p (a :: l)) = false; rw [h]; rfl]
          rfl
      · repeat' first | ((first | (with_reducible first | apply WB.tt | apply WB.ff) | apply Rn.seq | apply Rn.reg | apply Rn.drw | apply Rn.blk | apply Rn.skip | apply Rn.ret | apply Rn.exit | apply Rn.cond rfl | refine i64_ (by omega) (by omega) ?_ | refine ne0_ (by omega) ?_ | refine WIx.intsN (by omega) ?_ | refine WIx.rowsN (by omega) ?_) <;> conv => whnf)
        refine ⟨_, _, _, _, _, _, _, (ssN (wkC last hs step lv ms .ns) m many p).ob3 none, .o (.o .h), rfl, rfl, ?_, Nat.le_refl _, ?_⟩
        · refine Shr.kp ?_ (K3 _)
          show T.le (tr3 _ _ _) _
          unfold tr3 ssN
          (repeat' first | exact T.le_e _ | refine T.le_some ?_ rfl ?_ | refine T.le_none ?_ ?_)
        · show (⟨_, _, _, _⟩ : X) = ⟨_, _, _, _⟩
          rw [show (ssN (wkC last hs step lv ms .ns) m many p).step none (a :: l) = none from by show (bif p (a :: l) then some (a :: l) else none) = _; rw [h]; rfl, show (ssN (wkC last hs step lv ms .ns) m many p).goes none (a :: l) = true from by show (!p (a :: l)) = true; rw [h]; rfl]
          rfl
end Go.Ev

namespace Go.Ev
open Go.Proofs
set_option maxRecDepth 100000
theorem find_succ {p : List Int → Bool} {m n : Nat} : ((List.range (n + 1)).flatMap fun many => setsE m many 0 []).find? p = (((List.range n).flatMap fun many => setsE m many 0 []).find? p).or ((setsE m n 0 []).find? p) := by
  rw [List.range_succ, List.flatMap_append, List.find?_append]
  simp
theorem find_here {p : List Int → Bool} {m n : Nat} {S : List Int} (hn : n ≤ m) (h0 : ((List.range n).flatMap fun many => setsE m many 0 []).find? p = none) (h1 : (setsE m n 0 []).find? p = some S) : (allSets m).find? p = some S := by
  unfold allSets
  obtain ⟨k, hk⟩ : ∃ k, m + 1 = (n + 1) + k := ⟨m - n, by omega⟩
  rw [hk, List.range_add, List.flatMap_append, List.find?_append, find_succ, h0, h1]
  rfl
def ssT (m many : Nat) : T D := (.n (.n (.n .e (some (.pt (.o .h) 0 0)) (.n .e (some (.i .i64 (many : Int))) .e)) (some (.pt .h 0 0)) .e) none (.n .e none (.n (.n .e (some (.i .i64 ((m : Int) + 1))) .e) none .e)))
theorem ssT_kp (m many n : Nat) (hn : 3 ≤ n) : ∀ s d, (ssT m many).get s = some d → Kp n d := by
  show TAll (fun _ d => Kp n d) (ssT m many)
  unfold ssT
  repeat' first | exact TAll.e | refine TAll.some ?_ ?_ ?_ | refine TAll.none ?_ ?_
  all_goals simp [Kp, KpL, Pu, PuL, Pos.nat]
  all_goals omega
def tr2 (x1 x2 : C) : T C := .n (.n .e (some x2) .e) (some x1) .e
theorem kpo2 {n : Nat} {x1 x2 : C} (hn : 3 ≤ n) (h1 : KpC n x1) (h2 : KpC n x2) : KpO n (tr2 x1 x2) := by
  show TAll (fun id c => id.nat < n ∧ KpC n c) _
  unfold tr2
  refine TAll.some (TAll.some TAll.e ⟨?_, h2⟩ TAll.e) ⟨?_, h1⟩ TAll.e
  · show 2 * 1 < n; omega
  · show 1 < n; omega
theorem c_smallest (last : Int) (hs : List Rg) (step : Int) (lv : List Int) (ms : List Mk) (V : ValidT last hs step lv ms) (p : List Int → Bool) (hp : ∀ S, p S = (exS hs step hs.length 0 zeroS).any fun c => fitsR c (woR ms S)) :
    PureF Try.prog p84.ix [.ag [.i .i64 last, .lst 2 (rows rgD hs), .i .i64 step, .lst 1 (ints lv), .lst 4 (rows mkD ms), .ns]] (ssO ((allSets ms.length).find? p)) := by
  have e3 := rows_length mkD ms
  have h5 := V.ms5
  have kb : ∀ n, KpC n (wkC last hs step lv ms .ns) := fun n => wkC_kp last hs step lv ms .ns (fun n => Kp.pu _ trivial) n
  refine PureF.run fn83 (by simp) (by simp [PuL, PuE, Pu, pu_ints, pu_rg, pu_mk]) ?_; conv => whnf
  repeat' first | ((first | (with_reducible first | apply WB.tt | apply WB.ff) | apply Rn.seq | apply Rn.reg | apply Rn.drw | apply Rn.blk | apply Rn.skip | apply Rn.ret | apply Rn.exit | apply Rn.cond rfl | refine i64_ (by omega) (by omega) ?_ | refine ne0_ (by omega) ?_ | refine WIx.intsN (by omega) ?_ | refine WIx.rowsN (by omega) ?_) <;> conv => whnf)
  refine Rn.loop (fun many : Nat => ⟨ssT ms.length many, tr2 (wkC last hs step lv ms .ns) (.cells false [.o .ns 0] 1), .i .h, none⟩) (fun many => many ≤ ms.length + 1 ∧ ((List.range many).flatMap fun many => setsE ms.length many 0 []).find? p = none) (fun many => ms.length + 1 - many) 0 ?_ ?_ ?_
  · refine X.le.mk ?_ ?_ (Nat.le_refl _) rfl rfl
    · unfold ssT
      rw [← e3]
      repeat' first | exact T.le_e _ | refine T.le_some ?_ rfl ?_ | refine T.le_none ?_ ?_
    · unfold tr2
      repeat' first | exact T.le_e _ | refine T.le_some ?_ rfl ?_ | refine T.le_none ?_ ?_
  · exact ⟨Nat.zero_le _, rfl⟩
  rintro many ⟨hj, h0⟩
  have hj : many ≤ ms.length + 1 := hj
  have h0 : ((List.range many).flatMap fun many => setsE ms.length many 0 []).find? p = none := h0
  have cs := c_sets (ms.length : Int) (many : Int)
  rw [← e3] at cs
  conv => whnf
  repeat' first | ((first | (with_reducible first | apply WB.tt | apply WB.ff) | apply Rn.seq | apply Rn.reg | apply Rn.drw | apply Rn.blk | apply Rn.skip | apply Rn.ret | apply Rn.exit | apply Rn.cond rfl | refine i64_ (by omega) (by omega) ?_ | refine ne0_ (by omega) ?_ | refine WIx.intsN (by omega) ?_ | refine WIx.rowsN (by omega) ?_) <;> conv => whnf)
  refine WB.dec (fun h => ?_) (fun h => ?_) <;> conv => whnf
  · have hlt : many ≤ ms.length := by have h : (many : Int) < (ms.length : Int) + 1 := h; omega
    have C := c_sets1 (ssN_ok last hs step lv ms ms.length many V p hp) many ms.length (by omega) (by omega) none rfl
    rw [ssF] at C
    repeat' first | ((first | (with_reducible first | apply WB.tt | apply WB.ff) | apply Rn.seq | apply Rn.reg | apply Rn.drw | apply Rn.blk | apply Rn.skip | apply Rn.ret | apply Rn.exit | apply Rn.cond rfl | refine i64_ (by omega) (by omega) ?_ | refine ne0_ (by omega) ?_ | refine WIx.intsN (by omega) ?_ | refine WIx.rowsN (by omega) ?_ | refine WCall.pure (cs) ?_) <;> conv => whnf)
    refine Rn.le (a := ⟨ssS ms.length many, tr2 (wkC last hs step lv ms .ns) (.cells false [.o .ns 0] 1), .i .h, none⟩) ?_ ?_
    · cases hF : (setsE ms.length many 0 []).find? p with
      | none =>
        rw [hF] at C
        refine Rn.rf rfl rfl C rfl (by simp) ?_; conv => whnf
        repeat' first | ((first | (with_reducible first | apply WB.tt | apply WB.ff) | apply Rn.seq | apply Rn.reg | apply Rn.drw | apply Rn.blk | apply Rn.skip | apply Rn.ret | apply Rn.exit | apply Rn.cond rfl | refine i64_ (by omega) (by omega) ?_ | refine ne0_ (by omega) ?_ | refine WIx.intsN (by omega) ?_ | refine WIx.rowsN (by omega) ?_) <;> conv => whnf)
        refine Again.to (many + 1) (by omega) ⟨by omega, ?_⟩ (Nat.le_refl _) (Shr.kp2 ?_ (ssT_kp _ _ _ (Nat.le_refl _)) ?_ (kpo2 (Nat.le_refl _) (kb _) fun c hc => by rw [List.mem_singleton.1 hc]; trivial))
        · rw [find_succ, h0, hF]; rfl
        · show T.le (ssT ms.length (many + 1)) _
          unfold ssT
          simp only [Int.natCast_add, Int.natCast_one]
          repeat' first | exact T.le_e _ | refine T.le_some ?_ rfl ?_ | refine T.le_none ?_ ?_
        · show T.le (tr2 _ _) _
          unfold tr2
          repeat' first | exact T.le_e _ | refine T.le_some ?_ rfl ?_ | refine T.le_none ?_ ?_
      | some S =>
        rw [hF] at C
        have hall := find_here hlt h0 hF
        refine Rn.rf rfl rfl C rfl (by simp) ?_; conv => whnf
        repeat' first | ((first | (with_reducible first | apply WB.tt | apply WB.ff) | apply Rn.seq | apply Rn.reg | apply Rn.drw | apply Rn.blk | apply Rn.skip | apply Rn.ret | apply Rn.exit | apply Rn.cond rfl | refine i64_ (by omega) (by omega) ?_ | refine ne0_ (by omega) ?_ | refine WIx.intsN (by omega) ?_ | refine WIx.rowsN (by omega) ?_) <;> conv => whnf)
        rw [hall]
        exact Fin.t (.inr rfl) rfl (.pu (setD_pu S))
    · refine X.le.mk ?_ ?_ (Nat.le_refl _) rfl rfl
      · unfold ssS
        rw [← e3]
        repeat' first | exact T.le_e _ | refine T.le_some ?_ rfl ?_ | refine T.le_none ?_ ?_
      · unfold tr2
        repeat' first | exact T.le_e _ | refine T.le_some ?_ rfl ?_ | refine T.le_none ?_ ?_
  · repeat' first | ((first | (with_reducible first | apply WB.tt | apply WB.ff) | apply Rn.seq | apply Rn.reg | apply Rn.drw | apply Rn.blk | apply Rn.skip | apply Rn.ret | apply Rn.exit | apply Rn.cond rfl | refine i64_ (by omega) (by omega) ?_ | refine ne0_ (by omega) ?_ | refine WIx.intsN (by omega) ?_ | refine WIx.rowsN (by omega) ?_) <;> conv => whnf)
    have hm : many = ms.length + 1 := by have h : ¬ (many : Int) < (ms.length : Int) + 1 := h; omega
    subst hm
    rw [show (allSets ms.length).find? p = none from h0]
    exact Fin.t (.inr rfl) rfl (.pu trivial)
def levS (hs : List Rg) (step : Int) (ms : List Mk) : List Int := levR (allR hs step ms) ms.length
theorem find_congr {α : Type} {p q : α → Bool} : ∀ {l : List α}, (∀ x ∈ l, p x = q x) → l.find? p = l.find? q
  | [], _ => rfl
  | a :: l, h => by
    have h1 := h a (by simp)
    cases hp : p a with
    | true => rw [List.find?_cons_of_pos hp, List.find?_cons_of_pos (by rw [← h1]; exact hp)]
    | false => rw [List.find?_cons_of_neg (by rw [hp]; simp), List.find?_cons_of_neg (by rw [← h1, hp]; simp), find_congr fun x hx => h x (by simp [hx])]
theorem lev_find {last : Int} {hs : List Rg} {step : Int} {lv : List Int} {ms : List Mk} (hf : faultR last hs step lv ms = 0) : (allSets ms.length).find? (fun S => (exS hs step hs.length 0 zeroS).any fun c => fitsR c (woR ms S)) = some (levS hs step ms) := by
  obtain ⟨V, hm, hA⟩ := fault_zero hf
  have h5 := V.ms5
  rw [← find_congr (p := fun S => canB (allR hs step ms) (2 ^ ms.length - 1 - wordOf S)) fun S hS => can_fits V hm hS]
  refine lev_first h5 ?_
  obtain ⟨t, ht1, ht2⟩ := List.any_eq_true.1 hA
  have ht : t ∈ listsR hs step := List.mem_filter.2 ⟨ht1, ht2⟩
  unfold canB
  rw [List.any_eq_true]
  exact ⟨0, List.mem_range.2 (by unfold allR; rw [List.length_map]; exact List.length_pos_of_mem ht), by simp⟩
theorem c_Leave (last : Int) (hs : List Rg) (step : Int) (lv : List Int) (ms : List Mk) : PureF Try.prog p46.ix [.ag [.i .i64 last, .lst 2 (rows rgD hs), .i .i64 step, .lst 1 (ints lv), .lst 4 (rows mkD ms)]] (.tp [if faultR last hs step lv ms = 0 then setD (levS hs step ms) else .ns, .i .i64 (faultR last hs step lv ms)]) := by
  have iC := c_CheckTable last hs step lv ms
  refine PureF.run fn45 (by simp) (by simp [PuL, PuE, Pu, pu_ints, pu_rg, pu_mk]) ?_; conv => whnf
  by_cases hf : faultR last hs step lv ms = 0
  · obtain ⟨V, hm, _⟩ := fault_zero hf
    have cS := c_smallest last hs step lv ms V _ fun S => rfl
    rw [lev_find hf] at cS
    rw [hf] at iC
    rw [if_pos hf, hf]
    repeat' first | ((first | (with_reducible first | apply WB.tt | apply WB.ff) | apply Rn.seq | apply Rn.reg | apply Rn.drw | apply Rn.blk | apply Rn.skip | apply Rn.ret | apply Rn.exit | apply Rn.cond rfl | refine i64_ (by omega) (by omega) ?_ | refine ne0_ (by omega) ?_ | refine WIx.intsN (by omega) ?_ | refine WIx.rowsN (by omega) ?_ | refine WCall.pure (iC) ?_) <;> conv => whnf)
    refine WB.ff ?_; conv => whnf
    repeat' first | ((first | (with_reducible first | apply WB.tt | apply WB.ff) | apply Rn.seq | apply Rn.reg | apply Rn.drw | apply Rn.blk | apply Rn.skip | apply Rn.ret | apply Rn.exit | apply Rn.cond rfl | refine i64_ (by omega) (by omega) ?_ | refine ne0_ (by omega) ?_ | refine WIx.intsN (by omega) ?_ | refine WIx.rowsN (by omega) ?_ | refine WCall.pure (cS) ?_) <;> conv => whnf)
    exact ⟨.inr rfl, _, rfl, .tp (.cons (.pu (setD_pu _)) (.cons (.pu trivial) .nil))⟩
  · rw [if_neg hf]
    generalize faultR last hs step lv ms = e at *
    repeat' first | ((first | (with_reducible first | apply WB.tt | apply WB.ff) | apply Rn.seq | apply Rn.reg | apply Rn.drw | apply Rn.blk | apply Rn.skip | apply Rn.ret | apply Rn.exit | apply Rn.cond rfl | refine i64_ (by omega) (by omega) ?_ | refine ne0_ (by omega) ?_ | refine WIx.intsN (by omega) ?_ | refine WIx.rowsN (by omega) ?_ | refine WCall.pure (iC) ?_) <;> conv => whnf)
    refine WB.mk (fun h => ?_) (fun h => ?_) <;> conv => whnf
    · repeat' first | ((first | (with_reducible first | apply WB.tt | apply WB.ff) | apply Rn.seq | apply Rn.reg | apply Rn.drw | apply Rn.blk | apply Rn.skip | apply Rn.ret | apply Rn.exit | apply Rn.cond rfl | refine i64_ (by omega) (by omega) ?_ | refine ne0_ (by omega) ?_ | refine WIx.intsN (by omega) ?_ | refine WIx.rowsN (by omega) ?_) <;> conv => whnf)
      exact ⟨.inr rfl, _, rfl, .tp (.cons (.pu trivial) (.cons (.pu trivial) .nil))⟩
    · exact absurd (by simpa using h) hf
end Go.Ev
