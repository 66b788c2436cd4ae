import Derived.Test.YtkbgaadfednjpaaGreatDoorEvU4z
import Derived.Test.YtkbgaadfednjpaaGreatDoorEvUUp
import Derived.Test.YtkbgaadfednjpaaGreatDoorEvUIt
set_option linter.all false
set_option maxHeartbeats 8000000
noncomputable section
namespace Go.Ev
open Go.Proofs
set_option maxRecDepth 100000
theorem qG {B : Pos → Prop} {ob : T C} {d : D} (h : Pu d := by simp [Cell.d, Pu, aR, dP, aB, aG, aF, aQ]; done) : Fz B ob d d := .pu h
structure Bnd where
  sun : Int
  cl : Int
  ch : Int
  gl : Int
  gh : Int
def yY (x : Bnd) : List D := [.i .i64 x.sun, .i .i64 x.cl, .i .i64 x.ch, .i .i64 x.gl, .i .i64 x.gh]
theorem Gx (a : Bnd) : (yY a).length = 5 := rfl
theorem xN (a : Bnd) : aR (yY a) := by simp [yY, aR, Pu]
def eB (xs : List Bnd) : List D := [.lst 5 (aC yY xs)]
theorem pP (xs : List Bnd) : (eB xs).length = 1 := rfl
theorem dR (xs : List Bnd) : aR (eB xs) := by
  simp only [eB, aR, Pu, and_true]
  exact iI xN xs
set_option maxHeartbeats 8000000 in
theorem Jh (b : Bh) (V : VW b) (g : Pos) (first caps : List D) (H : Nat → Nat → Bnd) (h1 : aR first) (h2 : aR caps) (hg : ∀ r p : Nat, r < b.rws.toNat → p < b.pls.toNat → PureF Tryz.prog g.ix (first ++ ([.ag [.i .i64 (r : Int), .i .i64 (p : Int)]] ++ caps)) (.ag (yY (H r p)))) : PureF Tryz.prog p93.ix [.ag (dS b), .fn g first caps] (.lst 1 (aC eB (jT H b.rws.toNat b.pls.toNat))) := by
  have q1 := V.rws
  have q2 := V.pls
  refine PureF.run Ne (by simp) (by simp [aR, dP, Pu, aQ, h1, h2]) ?_; conv => whnf
  repeat' first | ((first | refine Qz ?_ | refine Qy ?_) <;> conv => whnf) | (refine WB.tt ?_; conv => whnf) | (refine WB.ff ?_; conv => whnf)
  refine Rn.loopU [(p6, none), (p7, none), (p8, none), (p9, none), (aW, none), (bH, none), (bO, none), (bU, none), (cU, none), (dA, none), (dK, none), (p20, none), (p21, none), (p22, none), (eC, none), (p24, none), (p25, none), (p26, none), (fF, none), (p28, none), (p29, none), (p30, none), (p31, none), (p32, none), (iB, none), (p34, none), (p35, none)] (fun i : Nat => [(p6, some (tB (.i (.o .h)) 1 (jT H i b.pls.toNat))), (aW, some (.i .i64 (i : Int)))]) (fun i : Nat => [((.i (.o .h)), tM eB (jT H i b.pls.toNat))]) (fun i : Nat => eQ (.o .h) (.o (.i .h)) (jT H i b.pls.toNat)) (fun i : Nat => i ≤ b.rws.toNat) (fun i : Nat => b.rws.toNat - i) 0 ?_ ?_ ?_
  · conv => whnf
    (refine X.le.mk ?_ ?_ (Nat.le_refl _) rfl rfl) <;> (repeat' first | exact T.le_e _ | refine T.le_some ?_ rfl ?_ | refine T.le_none ?_ ?_ | refine T.le_ee ?_ ?_)
  · exact Nat.zero_le _
  intro i hi
  have hi : i ≤ b.rws.toNat := hi
  have osc := yL H i b.pls.toNat
  have olen := lV H i b.pls.toNat
  have oend : i = b.rws.toNat → jT H i b.pls.toNat = jT H b.rws.toNat b.pls.toNat := fun h => by rw [h]
  generalize hO : jT H i b.pls.toNat = O at *
  conv => whnf
  repeat' first | ((first | refine Qz ?_ | refine Qy ?_) <;> conv => whnf) | (refine WB.tt ?_; conv => whnf) | (refine WB.ff ?_; conv => whnf)
  refine WB.dec (fun hd => ?_) (fun hd => ?_) <;> conv => whnf
  rotate_left
  · repeat' first | ((first | refine Qz ?_ | refine Qy ?_) <;> conv => whnf) | (refine WB.tt ?_; conv => whnf) | (refine WB.ff ?_; conv => whnf)
    rw [← oend (by omega)]
    exact Fin.t (.inr rfl) rfl (Fz.G O (fun h => h) (fun c h => h) pP dR)
  have hlt : i < b.rws.toNat := by omega
  repeat' first | ((first | refine Qz ?_ | refine Qy ?_) <;> conv => whnf) | (refine WB.tt ?_; conv => whnf) | (refine WB.ff ?_; conv => whnf)
  cases O with
  | nil =>
    refine Rn.loopU [(p8, none), (p9, none), (dK, none), (p20, none), (p21, none), (p22, none), (eC, none), (p24, none), (p25, none), (p26, none), (fF, none), (p28, none), (p29, none), (p30, none)] (fun j : Nat => [(p8, some (tB (.i .h) 5 ((List.range j).map (H i)))), (dK, some (.i .i64 (j : Int)))]) (fun j : Nat => [((.i .h), tM yY ((List.range j).map (H i)))]) (fun j : Nat => eQ (.o .h) (.o (.o .h)) ((List.range j).map (H i))) (fun j : Nat => j ≤ b.pls.toNat) (fun j : Nat => b.pls.toNat - j) 0 ?_ ?_ ?_
    · conv => whnf
      (refine X.le.mk ?_ ?_ (Nat.le_refl _) rfl rfl) <;> (repeat' first | exact T.le_e _ | refine T.le_some ?_ rfl ?_ | refine T.le_none ?_ ?_ | refine T.le_ee ?_ ?_)
    · exact Nat.zero_le _
    intro j hj
    have hj : j ≤ b.pls.toNat := hj
    have hsc : (List.range (j + 1)).map (H i) = (List.range j).map (H i) ++ [H i j] := by rw [List.range_succ, List.map_append]; rfl
    have hAl : ((List.range j).map (H i)).length ≤ j := by simp
    have hne : 0 < j → (List.range j).map (H i) ≠ [] := fun h e => by have := congrArg List.length e; simp at this; omega
    generalize hA : (List.range j).map (H i) = A at *
    conv => whnf
    repeat' first | ((first | refine Qz ?_ | refine Qy ?_) <;> conv => whnf) | (refine WB.tt ?_; conv => whnf) | (refine WB.ff ?_; conv => whnf)
    refine WB.dec (fun hd2 => ?_) (fun hd2 => ?_) <;> conv => whnf
    · have hlt2 : j < b.pls.toNat := by omega
      have cG := hg i j hlt hlt2
      cases A with
      | nil =>
        repeat' first | ((first | refine Qz ?_ | refine Qf (cG) ?_ | refine Qy ?_) <;> conv => whnf) | (refine WB.tt ?_; conv => whnf) | (refine WB.ff ?_; conv => whnf)
        refine WSt.app_first (r := yY (H i j)) (by rfl) (.inl rfl) (by rfl) (by rfl) (by rfl) (by rfl) ?_; conv => whnf
        repeat' first | ((first | refine Qz ?_ | refine Qy ?_) <;> conv => whnf) | (refine WB.tt ?_; conv => whnf) | (refine WB.ff ?_; conv => whnf)
        refine AgainB.u (j + 1) (by omega) (show j + 1 ≤ b.pls.toNat by omega) (by show Pos.nat _ ≤ Pos.nat _; simp only [hA, hsc, eQ, List.cons_append, List.nil_append] <;> decide) ?_
        rw [hsc]
        conv => whnf
        refine Shr.of ?_ ?_ rfl rfl
        · (repeat' first | exact Rel.e | refine Rel.some ?_ ?_ ?_ | refine Rel.none ?_ ?_ | refine Rel.ee ?_ ?_)
          all_goals show Fz _ _ _ _
          all_goals first | exact Fq | exact Fz.pu ⟨h1, h2⟩ | exact qG
        · (repeat' first | exact Rel.e | refine Rel.some ?_ ?_ ?_ | refine Rel.none ?_ ?_ | refine Rel.ee ?_ ?_)
          all_goals refine BZ ?_
          all_goals first | exact Sq | exact ShC.na xN _ | (refine ShC.same ?_; (repeat' first | exact ShC.nl | refine ShC.cn ?_ ?_) <;> first | exact Fq | exact Fz.pu ⟨h1, h2⟩ | exact qG)
      | cons a s =>
        have hs5 : s.length + 1 ≤ 1000 := Nat.le_trans hAl (by omega)
        repeat' first | ((first | refine Qz ?_ | refine Qf (cG) ?_ | refine Qy ?_) <;> conv => whnf) | (refine WB.tt ?_; conv => whnf) | (refine WB.ff ?_; conv => whnf)
        refine WSt.app_one (id := (.i .h)) (ds := (aC yY (a :: s)).flatten) (r := yY (H i j)) (by rfl) (by rfl) (by rfl) (by rfl) (by rfl) (by rfl) (by rw [dC (z := 5) Gx]; rfl) (by rfl) (by rfl) (by omega) (by rfl) ?_; conv => whnf
        repeat' first | ((first | refine Qz ?_ | refine Qy ?_) <;> conv => whnf) | (refine WB.tt ?_; conv => whnf) | (refine WB.ff ?_; conv => whnf)
        refine AgainB.u (j + 1) (by omega) (show j + 1 ≤ b.pls.toNat by omega) (by show Pos.nat _ ≤ Pos.nat _; simp only [hA, hsc, eQ, List.cons_append, List.nil_append] <;> decide) ?_
        rw [hsc, List.cons_append]
        conv => whnf
        (try rw [dX])
        (try rw [dZ])
        refine Shr.of ?_ ?_ rfl rfl
        · (repeat' first | exact Rel.e | refine Rel.some ?_ ?_ ?_ | refine Rel.none ?_ ?_ | refine Rel.ee ?_ ?_)
          all_goals show Fz _ _ _ _
          all_goals first | exact Fq | exact Fz.pu ⟨h1, h2⟩ | exact qG
        · (repeat' first | exact Rel.e | refine Rel.some ?_ ?_ ?_ | refine Rel.none ?_ ?_ | refine Rel.ee ?_ ?_)
          all_goals refine BZ ?_
          all_goals first | exact Sq | exact ShC.ca xN _ _ | (refine ShC.same ?_; (repeat' first | exact ShC.nl | refine ShC.cn ?_ ?_) <;> first | exact Fq | exact Fz.pu ⟨h1, h2⟩ | exact qG)
    obtain rfl : j = b.pls.toNat := by omega
    have hn := hne (by omega)
    cases A with
    | nil => exact absurd rfl hn
    | cons a s =>
    repeat' first | ((first | refine Qz ?_ | refine Qy ?_) <;> conv => whnf) | (refine WB.tt ?_; conv => whnf) | (refine WB.ff ?_; conv => whnf)
    refine WSt.app_first (r := [.sl (.i .h) 0 (s.length + 1) s.length 5]) (by rfl) (.inl rfl) (by rfl) (by rfl) (by rfl) (by rfl) ?_; conv => whnf
    repeat' first | ((first | refine Qz ?_ | refine Qy ?_) <;> conv => whnf) | (refine WB.tt ?_; conv => whnf) | (refine WB.ff ?_; conv => whnf)
    rw [hA] at osc
    refine AgainB.uB (i + 1) (fun id => id.nat < 2 ∨ id.nat = 5) (by omega) (show i + 1 ≤ b.rws.toNat by omega) (by show Pos.nat _ ≤ Pos.nat _; simp only [hO, osc, eQ, List.cons_append, List.nil_append] <;> decide) (show ∀ id : Pos, id.nat < (eQ (.o .h) (.o (.i .h)) (jT H i b.pls.toNat)).nat → _ by rw [hO]; exact fun id h => .inl h) (show ∀ id : Pos, _ → id.nat < (eQ (.o .h) (.o (.i .h)) (jT H (i + 1) b.pls.toNat)).nat by rw [osc]; exact fun id h => by show id.nat < 6; omega) ?_
    rw [osc]
    conv => whnf
    refine ShrB.of ?_ ?_ rfl rfl
    · (repeat' first | exact Rel.e | refine Rel.some ?_ ?_ ?_ | refine Rel.none ?_ ?_ | refine Rel.ee ?_ ?_)
      all_goals show Fz _ _ _ _
      all_goals first | exact Fq | exact Fz.pu ⟨h1, h2⟩ | exact qG
    · (repeat' first | exact Rel.e | refine Rel.some ?_ ?_ ?_ | refine Rel.none ?_ ?_ | refine Rel.ee ?_ ?_)
      all_goals refine ⟨?_, ?_⟩
      all_goals first | (focus (first | rfl | (simp [Pos.nat]; done))) | exact Sq | (refine ShC.grownF (ds := []) (st := 0) (Nat.le_refl _) trivial ?_; exact Fz.G (a :: s) (by simp [Pos.nat]) (fun c h => h) Gx xN) | (refine ShC.same ?_; (repeat' first | exact ShC.nl | refine ShC.cn ?_ ?_) <;> first | exact Fq | exact Fz.pu ⟨h1, h2⟩ | exact qG)
  | cons a0 s0 =>
    have hs5 : s0.length + 1 ≤ 1000 := by have := olen; simp at this; omega
    refine Rn.loopU [(p8, none), (p9, none), (dK, none), (p20, none), (p21, none), (p22, none), (eC, none), (p24, none), (p25, none), (p26, none), (fF, none), (p28, none), (p29, none), (p30, none)] (fun j : Nat => [(p8, some (tB (.i (.i .h)) 5 ((List.range j).map (H i)))), (dK, some (.i .i64 (j : Int)))]) (fun j : Nat => [((.i (.i .h)), tM yY ((List.range j).map (H i)))]) (fun j : Nat => eQ (.o (.i .h)) (.o (.o (.o .h))) ((List.range j).map (H i))) (fun j : Nat => j ≤ b.pls.toNat) (fun j : Nat => b.pls.toNat - j) 0 ?_ ?_ ?_
    · conv => whnf
      (refine X.le.mk ?_ ?_ (Nat.le_refl _) rfl rfl) <;> (repeat' first | exact T.le_e _ | refine T.le_some ?_ rfl ?_ | refine T.le_none ?_ ?_ | refine T.le_ee ?_ ?_)
    · exact Nat.zero_le _
    intro j hj
    have hj : j ≤ b.pls.toNat := hj
    have hsc : (List.range (j + 1)).map (H i) = (List.range j).map (H i) ++ [H i j] := by rw [List.range_succ, List.map_append]; rfl
    have hAl : ((List.range j).map (H i)).length ≤ j := by simp
    have hne : 0 < j → (List.range j).map (H i) ≠ [] := fun h e => by have := congrArg List.length e; simp at this; omega
    generalize hA : (List.range j).map (H i) = A at *
    conv => whnf
    repeat' first | ((first | refine Qz ?_ | refine Qy ?_) <;> conv => whnf) | (refine WB.tt ?_; conv => whnf) | (refine WB.ff ?_; conv => whnf)
    refine WB.dec (fun hd2 => ?_) (fun hd2 => ?_) <;> conv => whnf
    · have hlt2 : j < b.pls.toNat := by omega
      have cG := hg i j hlt hlt2
      cases A with
      | nil =>
        repeat' first | ((first | refine Qz ?_ | refine Qf (cG) ?_ | refine Qy ?_) <;> conv => whnf) | (refine WB.tt ?_; conv => whnf) | (refine WB.ff ?_; conv => whnf)
        refine WSt.app_first (r := yY (H i j)) (by rfl) (.inl rfl) (by rfl) (by rfl) (by rfl) (by rfl) ?_; conv => whnf
        repeat' first | ((first | refine Qz ?_ | refine Qy ?_) <;> conv => whnf) | (refine WB.tt ?_; conv => whnf) | (refine WB.ff ?_; conv => whnf)
        refine AgainB.u (j + 1) (by omega) (show j + 1 ≤ b.pls.toNat by omega) (by show Pos.nat _ ≤ Pos.nat _; simp only [hA, hsc, eQ, List.cons_append, List.nil_append] <;> decide) ?_
        rw [hsc]
        conv => whnf
        refine Shr.of ?_ ?_ rfl rfl
        · (repeat' first | exact Rel.e | refine Rel.some ?_ ?_ ?_ | refine Rel.none ?_ ?_ | refine Rel.ee ?_ ?_)
          all_goals show Fz _ _ _ _
          all_goals first | exact Fq | exact Fz.pu ⟨h1, h2⟩ | exact qG
        · (repeat' first | exact Rel.e | refine Rel.some ?_ ?_ ?_ | refine Rel.none ?_ ?_ | refine Rel.ee ?_ ?_)
          all_goals refine BZ ?_
          all_goals first | exact Sq | exact ShC.G dR a0 s0 | exact ShC.na xN _ | (refine ShC.same ?_; (repeat' first | exact ShC.nl | refine ShC.cn ?_ ?_) <;> first | exact Fq | exact Fz.pu ⟨h1, h2⟩ | exact qG)
      | cons a s =>
        have hs5 : s.length + 1 ≤ 1000 := Nat.le_trans hAl (by omega)
        repeat' first | ((first | refine Qz ?_ | refine Qf (cG) ?_ | refine Qy ?_) <;> conv => whnf) | (refine WB.tt ?_; conv => whnf) | (refine WB.ff ?_; conv => whnf)
        refine WSt.app_one (id := (.i (.i .h))) (ds := (aC yY (a :: s)).flatten) (r := yY (H i j)) (by rfl) (by rfl) (by rfl) (by rfl) (by rfl) (by rfl) (by rw [dC (z := 5) Gx]; rfl) (by rfl) (by rfl) (by omega) (by rfl) ?_; conv => whnf
        repeat' first | ((first | refine Qz ?_ | refine Qy ?_) <;> conv => whnf) | (refine WB.tt ?_; conv => whnf) | (refine WB.ff ?_; conv => whnf)
        refine AgainB.u (j + 1) (by omega) (show j + 1 ≤ b.pls.toNat by omega) (by show Pos.nat _ ≤ Pos.nat _; simp only [hA, hsc, eQ, List.cons_append, List.nil_append] <;> decide) ?_
        rw [hsc, List.cons_append]
        conv => whnf
        (try rw [dX])
        (try rw [dZ])
        refine Shr.of ?_ ?_ rfl rfl
        · (repeat' first | exact Rel.e | refine Rel.some ?_ ?_ ?_ | refine Rel.none ?_ ?_ | refine Rel.ee ?_ ?_)
          all_goals show Fz _ _ _ _
          all_goals first | exact Fq | exact Fz.pu ⟨h1, h2⟩ | exact qG
        · (repeat' first | exact Rel.e | refine Rel.some ?_ ?_ ?_ | refine Rel.none ?_ ?_ | refine Rel.ee ?_ ?_)
          all_goals refine BZ ?_
          all_goals first | exact Sq | exact ShC.G dR a0 s0 | exact ShC.ca xN _ _ | (refine ShC.same ?_; (repeat' first | exact ShC.nl | refine ShC.cn ?_ ?_) <;> first | exact Fq | exact Fz.pu ⟨h1, h2⟩ | exact qG)
    obtain rfl : j = b.pls.toNat := by omega
    have hn := hne (by omega)
    cases A with
    | nil => exact absurd rfl hn
    | cons a s =>
    repeat' first | ((first | refine Qz ?_ | refine Qy ?_) <;> conv => whnf) | (refine WB.tt ?_; conv => whnf) | (refine WB.ff ?_; conv => whnf)
    refine WSt.app_one (id := (.i (.o .h))) (ds := (aC eB (a0 :: s0)).flatten) (r := [.sl (.i (.i .h)) 0 (s.length + 1) s.length 5]) (by rfl) (by rfl) (by rfl) (by rfl) (by rfl) (by rfl) (by rw [dC (z := 1) pP]; rfl) (by rfl) (by rfl) (by omega) (by rfl) ?_; conv => whnf
    repeat' first | ((first | refine Qz ?_ | refine Qy ?_) <;> conv => whnf) | (refine WB.tt ?_; conv => whnf) | (refine WB.ff ?_; conv => whnf)
    rw [hA] at osc
    refine AgainB.u (i + 1) (by omega) (show i + 1 ≤ b.rws.toNat by omega) (by show Pos.nat _ ≤ Pos.nat _; simp only [hO, osc, eQ, List.cons_append, List.nil_append] <;> decide) ?_
    rw [osc, List.cons_append]
    conv => whnf
    (try rw [dX])
    (try rw [dZ])
    refine Shr.of ?_ ?_ rfl rfl
    · (repeat' first | exact Rel.e | refine Rel.some ?_ ?_ ?_ | refine Rel.none ?_ ?_ | refine Rel.ee ?_ ?_)
      all_goals show Fz _ _ _ _
      all_goals first | exact Fq | exact Fz.pu ⟨h1, h2⟩ | exact qG
    · (repeat' first | exact Rel.e | refine Rel.some ?_ ?_ ?_ | refine Rel.none ?_ ?_ | refine Rel.ee ?_ ?_)
      all_goals refine BZ ?_
      all_goals first | exact Sq | exact ShC.grownF (by omega) (eJ dR (a0 :: s0)) (Fz.G (a :: s) (fun h => absurd (show 7 < 6 from h) (by decide)) (fun c h => h) Gx xN) | (refine ShC.same ?_; (repeat' first | exact ShC.nl | refine ShC.cn ?_ ?_) <;> first | exact Fq | exact Fz.pu ⟨h1, h2⟩ | exact qG)
theorem IQ (x : Hr) : PureF Tryz.prog p133.ix [.ag (iN x)] (.i .i64 x.sun) := by
  refine PureF.run LM (by simp) (by simp [aR, Pu, iN]) ?_; conv => whnf
  repeat' first | ((first | refine Qz ?_ | refine Qy ?_) <;> conv => whnf) | (refine WB.tt ?_; conv => whnf) | (refine WB.ff ?_; conv => whnf)
  exact Fin.i rfl rfl
theorem GC (x : Hr) : PureF Tryz.prog p103.ix [.ag (iN x)] (.i .i64 x.calm) := by
  refine PureF.run LI (by simp) (by simp [aR, Pu, iN]) ?_; conv => whnf
  repeat' first | ((first | refine Qz ?_ | refine Qy ?_) <;> conv => whnf) | (refine WB.tt ?_; conv => whnf) | (refine WB.ff ?_; conv => whnf)
  exact Fin.i rfl rfl
theorem Gr (x : Hr) : PureF Tryz.prog p105.ix [.ag (iN x)] (.i .i64 x.good) := by
  refine PureF.run Lf (by simp) (by simp [aR, Pu, iN]) ?_; conv => whnf
  repeat' first | ((first | refine Qz ?_ | refine Qy ?_) <;> conv => whnf) | (refine WB.tt ?_; conv => whnf) | (refine WB.ff ?_; conv => whnf)
  exact Fin.i rfl rfl
def HW : List D := [.i .i64 0, .i .i64 0, .i .i64 0, .i .i64 0, .ns, .ns, .ns, .ns, .ns]
def pI (b : Bh) (th : Bool) (ht : Bool) : Int := if aV b = 0 then (bif th then (bif ht then 0 else 11) else 2) else aV b
def sE (b : Bh) (th : Bool) (ht : Bool) : List D := if pI b th ht = 0 then dS b else HW
theorem Eh : aR HW := by simp [HW, aR, Pu]
set_option maxHeartbeats 4000000 in
theorem Cm (b : Bh) (th : Bool) (l1 : b.face.length ≤ 1000) (l2 : b.sun.length ≤ 1000) (l3 : b.winds.length ≤ 1000) (l6 : ∀ w ∈ b.winds, w.length ≤ 1000) : PureF Tryz.prog p92.ix [.ag (dS b), .b th] (.tp [.ag (sE b th (kE b)), .i .i64 (pI b th (kE b))]) := by
  have cC := Bo b l1 l2 l3 l6
  refine PureF.run Pv (by simp) (by simp [aR, dP, Pu, aQ]) ?_; conv => whnf
  by_cases hf : aV b = 0
  rotate_left
  · have e2 : pI b th (kE b) = aV b := if_neg hf
    have e1 : sE b th (kE b) = HW := by unfold sE; rw [e2, if_neg hf]
    rw [e1, e2]
    repeat' first | ((first | refine Qz ?_ | refine Qf (cC) ?_ | refine Qy ?_) <;> conv => whnf) | (refine WB.tt ?_; conv => whnf) | (refine WB.ff ?_; conv => whnf)
    exact ⟨.inr rfl, _, rfl, .pu ⟨Eh, trivial, trivial⟩⟩
  rw [hf] at cC
  cases th with
  | false =>
    have e2 : pI b false (kE b) = 2 := if_pos hf
    have e1 : sE b false (kE b) = HW := by unfold sE; rw [e2]; rfl
    rw [e1, e2]
    repeat' first | ((first | refine Qz ?_ | refine Qf (cC) ?_ | with_reducible (first | refine Qm ?_ | refine Qn ?_ | refine Qo ?_ | refine Qp ?_ | refine WB.nt ?_ | refine WB.nf ?_ | refine WB.dec (fun h => ?_) (fun h => ?_) | refine WB.ndec (fun h => ?_) (fun h => ?_)) | refine WB.mk (fun h => ?_) (fun h => ?_)) <;> conv => whnf) | (refine WB.tt ?_; conv => whnf) | (refine WB.ff ?_; conv => whnf)
    exact ⟨.inr rfl, _, rfl, .pu ⟨Eh, trivial, trivial⟩⟩
  | true =>
    have Z := gA hf
    have cH := AE b Z.v l6 (by have := Z.l5; omega)
    cases hh : kE b with
    | false =>
      have e2 : pI b true false = 11 := if_pos hf
      have e1 : sE b true false = HW := by unfold sE; rw [e2]; rfl
      rw [e1, e2]
      rw [hh] at cH
      repeat' first | ((first | refine Qz ?_ | refine Qf (cC) ?_ | refine Qf (cH) ?_ | with_reducible (first | refine Qm ?_ | refine Qn ?_ | refine Qo ?_ | refine Qp ?_ | refine WB.nt ?_ | refine WB.nf ?_ | refine WB.dec (fun h => ?_) (fun h => ?_) | refine WB.ndec (fun h => ?_) (fun h => ?_)) | refine WB.mk (fun h => ?_) (fun h => ?_)) <;> conv => whnf) | (refine WB.tt ?_; conv => whnf) | (refine WB.ff ?_; conv => whnf)
      exact ⟨.inr rfl, _, rfl, .pu ⟨Eh, trivial, trivial⟩⟩
    | true =>
      have e2 : pI b true true = 0 := if_pos hf
      have e1 : sE b true true = dS b := by unfold sE; rw [e2]; rfl
      rw [e1, e2]
      rw [hh] at cH
      repeat' first | ((first | refine Qz ?_ | refine Qf (cC) ?_ | refine Qf (cH) ?_ | with_reducible (first | refine Qm ?_ | refine Qn ?_ | refine Qo ?_ | refine Qp ?_ | refine WB.nt ?_ | refine WB.nf ?_ | refine WB.dec (fun h => ?_) (fun h => ?_) | refine WB.ndec (fun h => ?_) (fun h => ?_)) | refine WB.mk (fun h => ?_) (fun h => ?_)) <;> conv => whnf) | (refine WB.tt ?_; conv => whnf) | (refine WB.ff ?_; conv => whnf)
      exact ⟨.inr rfl, _, rfl, .pu ⟨aQ b, trivial, trivial⟩⟩
theorem LF (l : List Int) (h0 : 0 < l.length) (hL : l.length ≤ 100000) : PureF Tryz.prog p136.ix [.lst 1 (ints l)] (.i .i64 (l.foldl max (l.getD 0 0))) := by
  have e1 := aO l
  refine PureF.run KW (by simp) (by simp [aR, Pu, aB]) ?_; conv => whnf
  repeat' first | ((first | refine Qz ?_ | with_reducible (first | refine Qm ?_ | refine Qn ?_ | refine Qo ?_ | refine Qp ?_ | refine WB.nt ?_ | refine WB.nf ?_ | refine WB.dec (fun h => ?_) (fun h => ?_) | refine WB.ndec (fun h => ?_) (fun h => ?_)) | refine WB.mk (fun h => ?_) (fun h => ?_)) <;> conv => whnf)
  refine Rn.loop (fun j : Nat => ⟨(.n (.n (.n .e (some (.i .i64 ((l.take j).foldl max (l.getD 0 0)))) .e) none .e) (some (.lst 1 (ints l))) (.n (.n .e (some (.i .i64 (j : Int))) .e) none .e)), .e, .h, none⟩) (fun j => 1 ≤ j ∧ j ≤ l.length) (fun j => l.length - j) 1 ?_ ?_ ?_
  · have h1 : (l.take 1).foldl max (l.getD 0 0) = l.getD 0 0 := by
      cases l with
      | nil => rfl
      | cons a l => simp
    rw [h1]
    (first | (refine X.le.mk ?_ ?_ (Nat.le_refl _) rfl rfl) | skip) <;> (repeat' first | exact T.le_e _ | refine T.le_some ?_ ?_ ?_ | refine T.le_none ?_ ?_ | rfl)
  · omega
  rintro j ⟨hj1, hj⟩
  conv => whnf
  repeat' first | ((first | refine Qz ?_) <;> conv => whnf)
  refine WB.dec (fun h => ?_) (fun h => ?_) <;> conv => whnf
  · have hlt : j < l.length := by omega
    repeat' first | ((first | refine Qz ?_) <;> conv => whnf)
    refine Again.to (j + 1) (by omega) ⟨by omega, by omega⟩ (Nat.le_refl _) ?_
    (refine Shr.of ?_ ?_ rfl rfl) <;> (repeat' first | exact Rel.e | refine Rel.some ?_ ?_ ?_ | refine Rel.none ?_ ?_) <;> (try first | (show Fz _ _ _ _; first | exact Fz.pu trivial | (refine Fz.i ?_; first | rfl | omega) | (refine Fz.kpt ?_; (focus (show Pos.nat _ < Pos.nat _; simp [Pos.nat]; done))) | (refine Fz.ksl ?_; (focus (show Pos.nat _ < Pos.nat _; simp [Pos.nat]; done))) | (refine Fz.kmp ?_; (focus (show Pos.nat _ < Pos.nat _; simp [Pos.nat]; done))) | (refine Fz.pu ?_; simp [Cell.d, Pu, aR, dP, aB, aG, aF]; done) | (refine Fz.pu ?_; simp only [Cell.d]; assumption)) | (refine RO'.of ?_ (ShC.same ?_); (focus (show Pos.nat _ < Pos.nat _; simp [Pos.nat]; done)); (repeat' first | exact ShC.nl | refine ShC.cn ?_ ?_) <;> first | exact Fz.pu trivial | (refine Fz.i ?_; first | rfl | omega) | (refine Fz.kpt ?_; (focus (show Pos.nat _ < Pos.nat _; simp [Pos.nat]; done))) | (refine Fz.ksl ?_; (focus (show Pos.nat _ < Pos.nat _; simp [Pos.nat]; done))) | (refine Fz.kmp ?_; (focus (show Pos.nat _ < Pos.nat _; simp [Pos.nat]; done))) | (refine Fz.pu ?_; simp [Cell.d, Pu, aR, dP, aB, aG, aF]; done) | (refine Fz.pu ?_; simp only [Cell.d]; assumption)))
    all_goals (refine Fz.i ?_; exact (pQ (d := 0) max _ hlt).symm)
  · repeat' first | ((first | refine Qz ?_) <;> conv => whnf)
    exact Fin.i rfl (by rw [List.take_of_length_le (by omega)])
end Go.Ev
end
