import Derived.Test.YtkbgaadfednjpaaGreatDoorEvU4p
set_option linter.all false
set_option maxHeartbeats 8000000
noncomputable section
namespace Go.Ev
open Go.Proofs
set_option maxRecDepth 100000
def jQ (n : Int) : List D := [.i .i64 n]
theorem Fu (n : Int) : (jQ n).length = 1 := rfl
theorem mS (n : Int) : aO (jQ n) := by simp [jQ, aO, Pu]
def qF (S : Nat → Nat → Int) : C := .cells false ((kG S).map fun d => Cell.o d 0) 1
def fP (x y : Int) : C := .cells false [.o (.i .i64 x) 0, .o (.i .i64 y) 0] 1
theorem gJ {B : Pos → Prop} {ob : T C} {x y : Int} : ShC B ob (fP x y) (fP x y) := by
  refine ShC.same ?_
  (repeat' first | exact ShC.nl | refine ShC.cn ?_ ?_) <;> exact .pu trivial
def Bw (kf : Pos) (P : List (Int × Int)) (l : Nat) (hi : Int) : List D := [.lst 2 (aD bC P), .i .i64 (l : Int), .i .i64 hi, .fn kf [] []]
theorem HS (kf : Pos) (P : List (Int × Int)) (l : Nat) (hi : Int) : aO (Bw kf P l hi) := by simp [Bw, aO, Pu, aE]
def oL (kf : Pos) (P : List (Int × Int)) (l : Nat) (hi : Int) : C := .cells false [.o (.lst 2 (aD bC P)) 0, .o (.i .i64 (l : Int)) 0, .o (.i .i64 hi) 0, .o (.fn kf [] []) 0] 1
theorem gH {B : Pos → Prop} {ob : T C} (kf : Pos) (P : List (Int × Int)) (l : Nat) (hi : Int) : ShC B ob (oL kf P l hi) (oL kf P l hi) := by
  refine ShC.same ?_
  (repeat' first | exact ShC.nl | refine ShC.cn ?_ ?_) <;> first | exact .pu trivial | exact .pu (aE _) | exact .pu ⟨trivial, trivial⟩
def qN (b : Bh) (S : Nat → Nat → Int) (P : List (Int × Int)) (h : Nat) (d : Int) : Nat → Hr
  | 0 => ⟨0, 0, 0⟩
  | j + 1 => Gj (qN b S P h d j) (wH b (P.getD j default) (S h (P.getD j default).1.toNat) h d)
theorem zF (b : Bh) (S : Nat → Nat → Int) (P : List (Int × Int)) (h : Nat) (d : Int) : ∀ j : Nat, (0 ≤ (qN b S P h d j).sun ∧ (qN b S P h d j).sun ≤ j) ∧ (0 ≤ (qN b S P h d j).calm ∧ (qN b S P h d j).calm ≤ j) ∧ (0 ≤ (qN b S P h d j).good ∧ (qN b S P h d j).good ≤ j)
  | 0 => by simp [qN]
  | j + 1 => by
    have h1 := zF b S P h d j
    have k := wT b (P.getD j default) (S h (P.getD j default).1.toNat) h d
    show (0 ≤ (qN b S P h d j).sun + _ ∧ (qN b S P h d j).sun + _ ≤ _) ∧ (0 ≤ (qN b S P h d j).calm + _ ∧ (qN b S P h d j).calm + _ ≤ _) ∧ (0 ≤ (qN b S P h d j).good + _ ∧ (qN b S P h d j).good + _ ≤ _)
    omega
def kq (b : Bh) (S : Nat → Nat → Int) (P : List (Int × Int)) (κ : Hr → Int) (h : Nat) (d : Int) : Int := κ (qN b S P h d P.length)
def kV (b : Bh) (S : Nat → Nat → Int) (P : List (Int × Int)) (κ : Hr → Int) (h : Nat) : List Int := (aI b h).map (kq b S P κ h)
def lL (f : Nat → Int) (l : Nat) : Nat → Int
  | 0 => 0
  | h + 1 => if l ≤ h then lL f l h + f h else 0
theorem vV (f : Nat → Int) (l : Nat) : lL f l l = 0 := by
  cases l with
  | zero => rfl
  | succ l => exact if_neg (by omega)
def wA (b : Bh) (S : Nat → Nat → Int) (P : List (Int × Int)) (κ : Hr → Int) (h : Nat) : Int := (kV b S P κ h).foldl min ((kV b S P κ h).getD 0 0)
def vC (b : Bh) (S : Nat → Nat → Int) (P : List (Int × Int)) (κ : Hr → Int) (h : Nat) : Int := (kV b S P κ h).foldl max ((kV b S P κ h).getD 0 0)
def GO (b : Bh) (S : Nat → Nat → Int) (kf : Pos) (P : List (Int × Int)) (l : Nat) (hi a5 b5 : Int) (h : Nat) (A : List Int) (j : Nat) : X := ⟨(.n (.n (.n (.n .e (some (.pt (.i (.o .h)) 0 0)) .e) (some (.pt .h 0 0)) (.n .e none (.n .e (some (.lst 1 (ints (aI b h)))) .e))) none (.n (.n .e (some (AR (.o (.o (.o .h))) 1 A)) .e) (some (.pt (.i .h) 0 0)) (.n .e none (.n .e (some (.i .i64 (j : Int))) .e)))) none (.n (.n (.n .e (some (.i .i64 (h : Int))) .e) (some (.pt (.o .h) 0 0)) (.n .e none (.n .e (some (.i .i64 ((ints (aI b h)).length : Int))) .e))) none (.n .e (some (.pt (.o (.o .h)) 0 0)) .e))), (.n (.n (.n (.n .e (Bj jQ A) .e) (some (fP 0 0)) .e) (some (qF S)) .e) (some (fZ b)) (.n (.n .e (some (fP a5 b5)) .e) (some (oL kf P l hi)) .e)), iU (.o (.i .h)) (.i (.o (.o .h))) A, none⟩
def Hn (b : Bh) (S : Nat → Nat → Int) (kf : Pos) (P : List (Int × Int)) (l : Nat) (hi a5 b5 : Int) (h : Nat) (j : Nat) (d : Int) (x : Hr) (k : Nat) : X := ⟨(.n (.n (.n (.n .e (some (.pt (.i (.o .h)) 0 0)) .e) (some (.pt .h 0 0)) (.n (.n (.n .e (some (.i .i64 ((aD bC P).length : Int))) .e) none .e) (some (.i .i64 d)) (.n .e (some (.lst 1 (ints (aI b h)))) .e))) none (.n (.n .e (some (.ns)) .e) (some (.pt (.i .h) 0 0)) (.n .e none (.n .e (some (.i .i64 (j : Int))) .e)))) none (.n (.n (.n .e (some (.i .i64 (h : Int))) .e) (some (.pt (.o .h) 0 0)) (.n (.n (.n .e (some (.i .i64 (k : Int))) .e) none .e) (some (.pt (.o (.i .h)) 0 0)) (.n .e (some (.i .i64 ((ints (aI b h)).length : Int))) .e))) none (.n (.n (.n (.n .e (some (.lst 2 (aD bC P))) .e) none .e) none .e) (some (.pt (.o (.o .h)) 0 0)) .e))), (.n (.n (.n .e (some (fP 0 0)) .e) (some (qF S)) (.n .e (some (.cells false [.o (.i .i64 x.sun) 0, .o (.i .i64 x.calm) 0, .o (.i .i64 x.good) 0] 1)) .e)) (some (fZ b)) (.n (.n .e (some (fP a5 b5)) .e) (some (oL kf P l hi)) .e)), (.i (.i .h)), none⟩
def Ho (b : Bh) (S : Nat → Nat → Int) (kf : Pos) (P : List (Int × Int)) (l : Nat) (hi a5 b5 : Int) (h : Nat) (a : Int) (s : List Int) (j : Nat) (d : Int) (x : Hr) (k : Nat) : X := ⟨(.n (.n (.n (.n .e (some (.pt (.i (.o .h)) 0 0)) .e) (some (.pt .h 0 0)) (.n (.n (.n .e (some (.i .i64 ((aD bC P).length : Int))) .e) none .e) (some (.i .i64 d)) (.n .e (some (.lst 1 (ints (aI b h)))) .e))) none (.n (.n .e (some (.sl (.o (.o (.o .h))) 0 (s.length + 1) s.length 1)) .e) (some (.pt (.i .h) 0 0)) (.n .e none (.n .e (some (.i .i64 (j : Int))) .e)))) none (.n (.n (.n .e (some (.i .i64 (h : Int))) .e) (some (.pt (.o .h) 0 0)) (.n (.n (.n .e (some (.i .i64 (k : Int))) .e) none .e) (some (.pt (.i (.o (.o .h))) 0 0)) (.n .e (some (.i .i64 ((ints (aI b h)).length : Int))) .e))) none (.n (.n (.n (.n .e (some (.lst 2 (aD bC P))) .e) none .e) none .e) (some (.pt (.o (.o .h)) 0 0)) .e))), (.n (.n (.n (.n .e (some (.cells false ((aD jQ (a :: s)).flatten.map fun d => Cell.o d s.length) (s.length + 1))) .e) (some (fP 0 0)) .e) (some (qF S)) .e) (some (fZ b)) (.n (.n (.n .e (some (.cells false [.o (.i .i64 x.sun) 0, .o (.i .i64 x.calm) 0, .o (.i .i64 x.good) 0] 1)) .e) (some (fP a5 b5)) .e) (some (oL kf P l hi)) .e)), (.o (.i (.o .h))), none⟩
def Oh (b : Bh) (S : Nat → Nat → Int) (kf : Pos) (P : List (Int × Int)) (l : Nat) (hi a5 b5 : Int) (h : Nat) : X := ⟨(.n (.n (.n (.n .e (some (.pt (.i (.o .h)) 0 0)) .e) (some (.pt .h 0 0)) .e) none (.n .e (some (.pt (.i .h) 0 0)) .e)) none (.n (.n (.n .e (some (.i .i64 (h : Int))) .e) (some (.pt (.o .h) 0 0)) .e) none (.n .e (some (.pt (.o (.o .h)) 0 0)) .e))), (.n (.n (.n .e (some (fP 0 0)) .e) (some (qF S)) .e) (some (fZ b)) (.n (.n .e (some (fP a5 b5)) .e) (some (oL kf P l hi)) .e)), .o (.i .h), none⟩
def Oi (b : Bh) (S : Nat → Nat → Int) (kf : Pos) (P : List (Int × Int)) (l : Nat) (hi a5 b5 : Int) (h : Nat) (L : List Int) : X := ⟨(.n (.n (.n (.n .e (some (.pt (.i (.o .h)) 0 0)) .e) (some (.pt .h 0 0)) .e) none (.n (.n .e (some (.lst 1 (ints L))) .e) (some (.pt (.i .h) 0 0)) .e)) none (.n (.n (.n .e (some (.i .i64 (h : Int))) .e) (some (.pt (.o .h) 0 0)) .e) none (.n .e (some (.pt (.o (.o .h)) 0 0)) .e))), (.n (.n (.n .e (some (fP 0 0)) .e) (some (qF S)) .e) (some (fZ b)) (.n (.n .e (some (fP a5 b5)) .e) (some (oL kf P l hi)) .e)), .o (.i .h), none⟩
set_option maxHeartbeats 16000000 in
theorem Cj (b : Bh) (V : VW b) (S : Nat → Nat → Int) (kf : Pos) (κ : Hr → Int) (hk0 : ∀ x, PureF Tryz.prog kf.ix [.ag (sY x)] (.i .i64 (κ x))) (P : List (Int × Int)) (hP : ∀ p ∈ P, dL b p = true) (l4 : b.brk.length ≤ 1000) (hPl : P.length ≤ 50) (l m : Nat) (hi : Int) (hhi : hi = ((l + m : Nat) : Int) - 1) (hm : l + m ≤ (b.last + 1).toNat) (l6 : ∀ w ∈ b.winds, w.length ≤ 1000) (l5 : b.nts.length ≤ 1000)
    (hne : ∀ h, h < (b.last + 1).toNat → aI b h ≠ []) (hmn : ∀ h, h ≤ (b.last + 1).toNat → -100000 ≤ lL (wA b S P κ) l h ∧ lL (wA b S P κ) l h ≤ 100000) (hmx : ∀ h, h ≤ (b.last + 1).toNat → -100000 ≤ lL (vC b S P κ) l h ∧ lL (vC b S P κ) l h ≤ 100000) : PureF Tryz.prog p102.ix [.ag (dR b), .ag (kG S), .ag (Bw kf P l hi)] (.ag [.i .i64 (lL (wA b S P κ) l (l + m)), .i .i64 (lL (vC b S P κ) l (l + m))]) := by
  have q1 := V.last
  have q2 := V.winl
  have q3 := V.sunl
  have e1 := aK bC P
  refine PureF.run Jz (by simp) (by simp [aO, Pu, aM, jO, HS]) ?_; conv => whnf
  repeat' first | ((first | refine Qz ?_ | refine Qy ?_) <;> conv => whnf) | (refine WB.tt ?_; conv => whnf) | (refine WB.ff ?_; conv => whnf)
  refine Rn.loop (fun h : Nat => Oh b S kf P l hi (lL (wA b S P κ) l h) (lL (vC b S P κ) l h) h) (fun h => l ≤ h ∧ h ≤ l + m) (fun h => l + m - h) l ?_ ⟨Nat.le_refl _, by omega⟩ ?_
  · rw [vV, vV]
    refine X.le.mk ?_ ?_ (Nat.le_refl _) rfl rfl
    · show T.le ((.n (.n (.n (.n .e (some (.pt (.i (.o .h)) 0 0)) .e) (some (.pt .h 0 0)) .e) none (.n .e (some (.pt (.i .h) 0 0)) .e)) none (.n (.n (.n .e (some (.i .i64 (l : Int))) .e) (some (.pt (.o .h) 0 0)) .e) none (.n .e (some (.pt (.o (.o .h)) 0 0)) .e))) : Ev.T D) _
      (repeat' first | exact T.le_e _ | refine T.le_some ?_ rfl ?_ | refine T.le_none ?_ ?_ | refine T.le_ee ?_ ?_)
    · show T.le ((.n (.n (.n .e (some (fP 0 0)) .e) (some (qF S)) .e) (some (fZ b)) (.n (.n .e (some (fP 0 0)) .e) (some (oL kf P l hi)) .e)) : Ev.T Ev.C) _
      (repeat' first | exact T.le_e _ | refine T.le_some ?_ rfl ?_ | refine T.le_none ?_ ?_ | refine T.le_ee ?_ ?_)
  rintro h ⟨hl, hh⟩
  have hb5 := hmn h (by omega)
  have hb6 := hmx h (by omega)
  have hn5 : lL (wA b S P κ) l (h + 1) = lL (wA b S P κ) l h + wA b S P κ h := if_pos hl
  have hn6 : lL (vC b S P κ) l (h + 1) = lL (vC b S P κ) l h + vC b S P κ h := if_pos hl
  have hz5 : h = l + m → lL (wA b S P κ) l (l + m) = lL (wA b S P κ) l h := fun e => by rw [e]
  have hz6 : h = l + m → lL (vC b S P κ) l (l + m) = lL (vC b S P κ) l h := fun e => by rw [e]
  have hc5 : h < l + m → -100000 ≤ lL (wA b S P κ) l (h + 1) ∧ lL (wA b S P κ) l (h + 1) ≤ 100000 := fun k => hmn (h + 1) (by omega)
  have hc6 : h < l + m → -100000 ≤ lL (vC b S P κ) l (h + 1) ∧ lL (vC b S P κ) l (h + 1) ≤ 100000 := fun k => hmx (h + 1) (by omega)
  rw [hn5] at hc5
  rw [hn6] at hc6
  generalize hA5 : lL (wA b S P κ) l h = a5 at *
  generalize hA6 : lL (vC b S P κ) l h = b5 at *
  conv => whnf
  repeat' first | ((first | refine Qz ?_ | refine Qy ?_) <;> conv => whnf) | (refine WB.tt ?_; conv => whnf) | (refine WB.ff ?_; conv => whnf)
  refine WB.dec (fun hd => ?_) (fun hd => ?_) <;> conv => whnf
  · have hlt : h < l + m := by omega
    have hlb : h < (b.last + 1).toNat := by omega
    have hc5 := hc5 hlt
    have hc6 := hc6 hlt
    have cW := Aa b V h (by omega) (l6 _ (aU (by omega))) l5
    have eW := aP (aI b h)
    have hWn := hne h hlb
    have hWl : (aI b h).length ≤ 1000 := Nat.le_trans (List.length_filter_le _ _) (by
      have := l6 (b.winds.getD h default) (aU (by omega)); exact this)
    have hWd : ∀ j, j < (aI b h).length → 0 ≤ (aI b h).getD j 0 ∧ (aI b h).getD j 0 ≤ 3 := fun j hj => by
      have hm1 := (fX.1 (aU (d := 0) hj)).1
      have h4 := (iM.1 (List.all_eq_true.1 V.wins _ (aU (d := default) (show h < b.winds.length by omega)))).2.2
      exact bI (List.all_eq_true.1 h4 _ hm1)
    refine Rn.skip ?_; conv => whnf
    refine Rn.seq ?_; conv => whnf
    refine Rn.blk ?_; conv => whnf
    refine Rn.seqB ?_; conv => whnf
    refine Rn.reg ?_; conv => whnf
    repeat' first | ((first | refine Qz ?_ | refine Qf (cW) ?_ | refine Qy ?_) <;> conv => whnf) | (refine WB.tt ?_; conv => whnf) | (refine WB.ff ?_; conv => whnf)
    refine Rn.loop (fun j : Nat => GO b S kf P l hi a5 b5 h (((aI b h).take j).map (kq b S P κ h)) j) (fun j => j ≤ (aI b h).length ∧ True) (fun j => (aI b h).length - j) 0 ?_ ?_ ?_
    · refine X.le.mk ?_ ?_ (Nat.le_refl _) rfl rfl
      · show T.le ((.n (.n (.n (.n .e (some (.pt (.i (.o .h)) 0 0)) .e) (some (.pt .h 0 0)) (.n .e none (.n .e (some (.lst 1 (ints (aI b h)))) .e))) none (.n (.n .e (some (.ns)) .e) (some (.pt (.i .h) 0 0)) (.n .e none (.n .e (some (.i .i64 0)) .e)))) none (.n (.n (.n .e (some (.i .i64 (h : Int))) .e) (some (.pt (.o .h) 0 0)) (.n .e none (.n .e (some (.i .i64 ((ints (aI b h)).length : Int))) .e))) none (.n .e (some (.pt (.o (.o .h)) 0 0)) .e))) : Ev.T D) _
        skip
        (repeat' first | exact T.le_e _ | refine T.le_some ?_ rfl ?_ | refine T.le_none ?_ ?_ | refine T.le_ee ?_ ?_)
      · show T.le ((.n (.n (.n (.n .e none .e) (some (fP 0 0)) .e) (some (qF S)) .e) (some (fZ b)) (.n (.n .e (some (fP a5 b5)) .e) (some (oL kf P l hi)) .e)) : Ev.T Ev.C) _
        (repeat' first | exact T.le_e _ | refine T.le_some ?_ rfl ?_ | refine T.le_none ?_ ?_ | refine T.le_ee ?_ ?_)
    · exact ⟨Nat.zero_le _, trivial⟩
    rintro j ⟨hj, _⟩
    have hsc : j < (aI b h).length → ((aI b h).take (j + 1)).map (kq b S P κ h) = ((aI b h).take j).map (kq b S P κ h) ++ [kq b S P κ h ((aI b h).getD j 0)] := fun h' => by rw [eD (d := 0) h', List.map_append]; rfl
    have hAl : (((aI b h).take j).map (kq b S P κ h)).length ≤ j := by rw [List.length_map, List.length_take]; omega
    have hend : j = (aI b h).length → ((aI b h).take j).map (kq b S P κ h) = kV b S P κ h := fun h' => by rw [List.take_of_length_le (by omega)]; rfl
    generalize hA : ((aI b h).take j).map (kq b S P κ h) = A at *
    conv => whnf
    repeat' first | ((first | refine Qz ?_ | refine Qy ?_) <;> conv => whnf) | (refine WB.tt ?_; conv => whnf) | (refine WB.ff ?_; conv => whnf)
    refine WB.dec (fun hd2 => ?_) (fun hd2 => ?_) <;> conv => whnf
    · have hlt2 : j < (aI b h).length := by omega
      have hsc := hsc hlt2
      have hdk := hWd j hlt2
      cases A with
      | nil =>
        repeat' first | ((first | refine Qz ?_ | refine Qy ?_) <;> conv => whnf) | (refine WB.tt ?_; conv => whnf) | (refine WB.ff ?_; conv => whnf)
        refine Rn.loop (fun k : Nat => Hn b S kf P l hi a5 b5 h j ((aI b h).getD j 0) (qN b S P h ((aI b h).getD j 0) k) k) (fun k => k ≤ P.length) (fun k => P.length - k) 0 ?_ (Nat.zero_le _) ?_
        · refine X.le.mk ?_ ?_ (Nat.le_refl _) rfl rfl
          · show T.le ((.n (.n (.n (.n .e (some (.pt (.i (.o .h)) 0 0)) .e) (some (.pt .h 0 0)) (.n (.n (.n .e (some (.i .i64 ((aD bC P).length : Int))) .e) none .e) (some (.i .i64 ((aI b h).getD j 0))) (.n .e (some (.lst 1 (ints (aI b h)))) .e))) none (.n (.n .e (some (.ns)) .e) (some (.pt (.i .h) 0 0)) (.n .e none (.n .e (some (.i .i64 (j : Int))) .e)))) none (.n (.n (.n .e (some (.i .i64 (h : Int))) .e) (some (.pt (.o .h) 0 0)) (.n (.n (.n .e (some (.i .i64 0)) .e) none .e) (some (.pt (.o (.i .h)) 0 0)) (.n .e (some (.i .i64 ((ints (aI b h)).length : Int))) .e))) none (.n (.n (.n (.n .e (some (.lst 2 (aD bC P))) .e) none .e) none .e) (some (.pt (.o (.o .h)) 0 0)) .e))) : Ev.T D) _
            (repeat' first | exact T.le_e _ | refine T.le_some ?_ rfl ?_ | refine T.le_none ?_ ?_ | refine T.le_ee ?_ ?_)
          · show T.le ((.n (.n (.n .e (some (fP 0 0)) .e) (some (qF S)) (.n .e (some (.cells false [.o (.i .i64 0) 0, .o (.i .i64 0) 0, .o (.i .i64 0) 0] 1)) .e)) (some (fZ b)) (.n (.n .e (some (fP a5 b5)) .e) (some (oL kf P l hi)) .e)) : Ev.T Ev.C) _
            (repeat' first | exact T.le_e _ | refine T.le_some ?_ rfl ?_ | refine T.le_none ?_ ?_ | refine T.le_ee ?_ ?_)
        intro k hk
        have hk : k ≤ P.length := hk
        have hbd := zF b S P h ((aI b h).getD j 0) k
        have hN : qN b S P h ((aI b h).getD j 0) (k + 1) = Gj (qN b S P h ((aI b h).getD j 0) k) (wH b (P.getD k default) (S h (P.getD k default).1.toNat) h ((aI b h).getD j 0)) := rfl
        generalize hX : qN b S P h ((aI b h).getD j 0) k = x at *
        conv => whnf
        repeat' first | ((first | refine Qz ?_ | refine Qy ?_) <;> conv => whnf) | (refine WB.tt ?_; conv => whnf) | (refine WB.ff ?_; conv => whnf)
        refine WB.dec (fun hd3 => ?_) (fun hd3 => ?_) <;> conv => whnf
        · have hk2 : k < P.length := by omega
          have hsp := hP _ (aU (d := default) hk2)
          have cH := Ad b V (P.getD k default) hsp (S h) h (by omega) ((aI b h).getD j 0) hdk l4
          have bd2 := wT b (P.getD k default) (S h (P.getD k default).1.toNat) h ((aI b h).getD j 0)
          have cP := Dc x (wH b (P.getD k default) (S h (P.getD k default).1.toNat) h ((aI b h).getD j 0)) (by omega) (by omega)
          generalize Gj x (wH b (P.getD k default) (S h (P.getD k default).1.toNat) h ((aI b h).getD j 0)) = y at *
          rcases rZ (show h < 5 by omega) with rfl | rfl | rfl | rfl | rfl
          · repeat' first | ((first | refine Qz ?_ | refine Qy ?_) <;> conv => whnf) | (refine WB.tt ?_; conv => whnf) | (refine WB.ff ?_; conv => whnf)
            refine WSt.ixaN (m := 0) rfl rfl rfl (by decide) ?_; conv => whnf
            repeat' first | ((first | refine Qz ?_ | refine Qf (cH) ?_ | refine Qf (cP) ?_ | refine Qy ?_) <;> conv => whnf) | (refine WB.tt ?_; conv => whnf) | (refine WB.ff ?_; conv => whnf)
            refine Again.to (k + 1) (by omega) (show k + 1 ≤ P.length by omega) (Nat.le_refl _) ?_
            show Shr _ (Hn b S kf P l hi a5 b5 0 j ((aI b 0).getD j 0) (qN b S P 0 ((aI b 0).getD j 0) (k + 1)) (k + 1))
            rw [hN]
            refine Shr.of ?_ ?_ rfl rfl
            · show Rel _ _ ((.n (.n (.n (.n .e (some (.pt (.i (.o .h)) 0 0)) .e) (some (.pt .h 0 0)) (.n (.n (.n .e (some (.i .i64 ((aD bC P).length : Int))) .e) none .e) (some (.i .i64 ((aI b 0).getD j 0))) (.n .e (some (.lst 1 (ints (aI b 0)))) .e))) none (.n (.n .e (some (.ns)) .e) (some (.pt (.i .h) 0 0)) (.n .e none (.n .e (some (.i .i64 (j : Int))) .e)))) none (.n (.n (.n .e (some (.i .i64 ((0 : Nat) : Int))) .e) (some (.pt (.o .h) 0 0)) (.n (.n (.n .e (some (.i .i64 ((k + 1 : Nat) : Int))) .e) none .e) (some (.pt (.o (.i .h)) 0 0)) (.n .e (some (.i .i64 ((ints (aI b 0)).length : Int))) .e))) none (.n (.n (.n (.n .e (some (.lst 2 (aD bC P))) .e) none .e) none .e) (some (.pt (.o (.o .h)) 0 0)) .e))) : T D) _
              (repeat' first | exact Rel.e | refine Rel.some ?_ ?_ ?_ | refine Rel.none ?_ ?_ | refine Rel.ee ?_ ?_)
              all_goals show Fz _ _ _ _
              all_goals first | exact .pu trivial | exact .kpt (show _ < 7 by simp [Pos.nat]) | exact .ksl (show _ < 7 by simp [Pos.nat]) | exact .pu (aC _) | exact .pu (aE _)
            · show Rel _ _ ((.n (.n (.n .e (some (fP 0 0)) .e) (some (qF S)) (.n .e (some (.cells false [.o (.i .i64 y.sun) 0, .o (.i .i64 y.calm) 0, .o (.i .i64 y.good) 0] 1)) .e)) (some (fZ b)) (.n (.n .e (some (fP a5 b5)) .e) (some (oL kf P l hi)) .e)) : T C) _
              (repeat' first | exact Rel.e | refine Rel.some ?_ ?_ ?_ | refine Rel.none ?_ ?_ | refine Rel.ee ?_ ?_)
              all_goals first
                | exact RO'.of (show _ < 7 by simp [Pos.nat]) kN
                | exact RO'.of (show _ < 7 by simp [Pos.nat]) (aW b)
                | exact RO'.of (show _ < 7 by simp [Pos.nat]) (dU S)
                | exact RO'.of (show _ < 7 by simp [Pos.nat]) (gH kf P l hi)
                | exact RO'.of (show _ < 7 by simp [Pos.nat]) gJ
          · repeat' first | ((first | refine Qz ?_ | refine Qy ?_) <;> conv => whnf) | (refine WB.tt ?_; conv => whnf) | (refine WB.ff ?_; conv => whnf)
            refine WSt.ixaN (m := 1) rfl rfl rfl (by decide) ?_; conv => whnf
            repeat' first | ((first | refine Qz ?_ | refine Qf (cH) ?_ | refine Qf (cP) ?_ | refine Qy ?_) <;> conv => whnf) | (refine WB.tt ?_; conv => whnf) | (refine WB.ff ?_; conv => whnf)
            refine Again.to (k + 1) (by omega) (show k + 1 ≤ P.length by omega) (Nat.le_refl _) ?_
            show Shr _ (Hn b S kf P l hi a5 b5 1 j ((aI b 1).getD j 0) (qN b S P 1 ((aI b 1).getD j 0) (k + 1)) (k + 1))
            rw [hN]
            refine Shr.of ?_ ?_ rfl rfl
            · show Rel _ _ ((.n (.n (.n (.n .e (some (.pt (.i (.o .h)) 0 0)) .e) (some (.pt .h 0 0)) (.n (.n (.n .e (some (.i .i64 ((aD bC P).length : Int))) .e) none .e) (some (.i .i64 ((aI b 1).getD j 0))) (.n .e (some (.lst 1 (ints (aI b 1)))) .e))) none (.n (.n .e (some (.ns)) .e) (some (.pt (.i .h) 0 0)) (.n .e none (.n .e (some (.i .i64 (j : Int))) .e)))) none (.n (.n (.n .e (some (.i .i64 ((1 : Nat) : Int))) .e) (some (.pt (.o .h) 0 0)) (.n (.n (.n .e (some (.i .i64 ((k + 1 : Nat) : Int))) .e) none .e) (some (.pt (.o (.i .h)) 0 0)) (.n .e (some (.i .i64 ((ints (aI b 1)).length : Int))) .e))) none (.n (.n (.n (.n .e (some (.lst 2 (aD bC P))) .e) none .e) none .e) (some (.pt (.o (.o .h)) 0 0)) .e))) : T D) _
              (repeat' first | exact Rel.e | refine Rel.some ?_ ?_ ?_ | refine Rel.none ?_ ?_ | refine Rel.ee ?_ ?_)
              all_goals show Fz _ _ _ _
              all_goals first | exact .pu trivial | exact .kpt (show _ < 7 by simp [Pos.nat]) | exact .ksl (show _ < 7 by simp [Pos.nat]) | exact .pu (aC _) | exact .pu (aE _)
            · show Rel _ _ ((.n (.n (.n .e (some (fP 0 0)) .e) (some (qF S)) (.n .e (some (.cells false [.o (.i .i64 y.sun) 0, .o (.i .i64 y.calm) 0, .o (.i .i64 y.good) 0] 1)) .e)) (some (fZ b)) (.n (.n .e (some (fP a5 b5)) .e) (some (oL kf P l hi)) .e)) : T C) _
              (repeat' first | exact Rel.e | refine Rel.some ?_ ?_ ?_ | refine Rel.none ?_ ?_ | refine Rel.ee ?_ ?_)
              all_goals first
                | exact RO'.of (show _ < 7 by simp [Pos.nat]) kN
                | exact RO'.of (show _ < 7 by simp [Pos.nat]) (aW b)
                | exact RO'.of (show _ < 7 by simp [Pos.nat]) (dU S)
                | exact RO'.of (show _ < 7 by simp [Pos.nat]) (gH kf P l hi)
                | exact RO'.of (show _ < 7 by simp [Pos.nat]) gJ
          · repeat' first | ((first | refine Qz ?_ | refine Qy ?_) <;> conv => whnf) | (refine WB.tt ?_; conv => whnf) | (refine WB.ff ?_; conv => whnf)
            refine WSt.ixaN (m := 2) rfl rfl rfl (by decide) ?_; conv => whnf
            repeat' first | ((first | refine Qz ?_ | refine Qf (cH) ?_ | refine Qf (cP) ?_ | refine Qy ?_) <;> conv => whnf) | (refine WB.tt ?_; conv => whnf) | (refine WB.ff ?_; conv => whnf)
            refine Again.to (k + 1) (by omega) (show k + 1 ≤ P.length by omega) (Nat.le_refl _) ?_
            show Shr _ (Hn b S kf P l hi a5 b5 2 j ((aI b 2).getD j 0) (qN b S P 2 ((aI b 2).getD j 0) (k + 1)) (k + 1))
            rw [hN]
            refine Shr.of ?_ ?_ rfl rfl
            · show Rel _ _ ((.n (.n (.n (.n .e (some (.pt (.i (.o .h)) 0 0)) .e) (some (.pt .h 0 0)) (.n (.n (.n .e (some (.i .i64 ((aD bC P).length : Int))) .e) none .e) (some (.i .i64 ((aI b 2).getD j 0))) (.n .e (some (.lst 1 (ints (aI b 2)))) .e))) none (.n (.n .e (some (.ns)) .e) (some (.pt (.i .h) 0 0)) (.n .e none (.n .e (some (.i .i64 (j : Int))) .e)))) none (.n (.n (.n .e (some (.i .i64 ((2 : Nat) : Int))) .e) (some (.pt (.o .h) 0 0)) (.n (.n (.n .e (some (.i .i64 ((k + 1 : Nat) : Int))) .e) none .e) (some (.pt (.o (.i .h)) 0 0)) (.n .e (some (.i .i64 ((ints (aI b 2)).length : Int))) .e))) none (.n (.n (.n (.n .e (some (.lst 2 (aD bC P))) .e) none .e) none .e) (some (.pt (.o (.o .h)) 0 0)) .e))) : T D) _
              (repeat' first | exact Rel.e | refine Rel.some ?_ ?_ ?_ | refine Rel.none ?_ ?_ | refine Rel.ee ?_ ?_)
              all_goals show Fz _ _ _ _
              all_goals first | exact .pu trivial | exact .kpt (show _ < 7 by simp [Pos.nat]) | exact .ksl (show _ < 7 by simp [Pos.nat]) | exact .pu (aC _) | exact .pu (aE _)
            · show Rel _ _ ((.n (.n (.n .e (some (fP 0 0)) .e) (some (qF S)) (.n .e (some (.cells false [.o (.i .i64 y.sun) 0, .o (.i .i64 y.calm) 0, .o (.i .i64 y.good) 0] 1)) .e)) (some (fZ b)) (.n (.n .e (some (fP a5 b5)) .e) (some (oL kf P l hi)) .e)) : T C) _
              (repeat' first | exact Rel.e | refine Rel.some ?_ ?_ ?_ | refine Rel.none ?_ ?_ | refine Rel.ee ?_ ?_)
              all_goals first
                | exact RO'.of (show _ < 7 by simp [Pos.nat]) kN
                | exact RO'.of (show _ < 7 by simp [Pos.nat]) (aW b)
                | exact RO'.of (show _ < 7 by simp [Pos.nat]) (dU S)
                | exact RO'.of (show _ < 7 by simp [Pos.nat]) (gH kf P l hi)
                | exact RO'.of (show _ < 7 by simp [Pos.nat]) gJ
          · repeat' first | ((first | refine Qz ?_ | refine Qy ?_) <;> conv => whnf) | (refine WB.tt ?_; conv => whnf) | (refine WB.ff ?_; conv => whnf)
            refine WSt.ixaN (m := 3) rfl rfl rfl (by decide) ?_; conv => whnf
            repeat' first | ((first | refine Qz ?_ | refine Qf (cH) ?_ | refine Qf (cP) ?_ | refine Qy ?_) <;> conv => whnf) | (refine WB.tt ?_; conv => whnf) | (refine WB.ff ?_; conv => whnf)
            refine Again.to (k + 1) (by omega) (show k + 1 ≤ P.length by omega) (Nat.le_refl _) ?_
            show Shr _ (Hn b S kf P l hi a5 b5 3 j ((aI b 3).getD j 0) (qN b S P 3 ((aI b 3).getD j 0) (k + 1)) (k + 1))
            rw [hN]
            refine Shr.of ?_ ?_ rfl rfl
            · show Rel _ _ ((.n (.n (.n (.n .e (some (.pt (.i (.o .h)) 0 0)) .e) (some (.pt .h 0 0)) (.n (.n (.n .e (some (.i .i64 ((aD bC P).length : Int))) .e) none .e) (some (.i .i64 ((aI b 3).getD j 0))) (.n .e (some (.lst 1 (ints (aI b 3)))) .e))) none (.n (.n .e (some (.ns)) .e) (some (.pt (.i .h) 0 0)) (.n .e none (.n .e (some (.i .i64 (j : Int))) .e)))) none (.n (.n (.n .e (some (.i .i64 ((3 : Nat) : Int))) .e) (some (.pt (.o .h) 0 0)) (.n (.n (.n .e (some (.i .i64 ((k + 1 : Nat) : Int))) .e) none .e) (some (.pt (.o (.i .h)) 0 0)) (.n .e (some (.i .i64 ((ints (aI b 3)).length : Int))) .e))) none (.n (.n (.n (.n .e (some (.lst 2 (aD bC P))) .e) none .e) none .e) (some (.pt (.o (.o .h)) 0 0)) .e))) : T D) _
              (repeat' first | exact Rel.e | refine Rel.some ?_ ?_ ?_ | refine Rel.none ?_ ?_ | refine Rel.ee ?_ ?_)
              all_goals show Fz _ _ _ _
              all_goals first | exact .pu trivial | exact .kpt (show _ < 7 by simp [Pos.nat]) | exact .ksl (show _ < 7 by simp [Pos.nat]) | exact .pu (aC _) | exact .pu (aE _)
            · show Rel _ _ ((.n (.n (.n .e (some (fP 0 0)) .e) (some (qF S)) (.n .e (some (.cells false [.o (.i .i64 y.sun) 0, .o (.i .i64 y.calm) 0, .o (.i .i64 y.good) 0] 1)) .e)) (some (fZ b)) (.n (.n .e (some (fP a5 b5)) .e) (some (oL kf P l hi)) .e)) : T C) _
              (repeat' first | exact Rel.e | refine Rel.some ?_ ?_ ?_ | refine Rel.none ?_ ?_ | refine Rel.ee ?_ ?_)
              all_goals first
                | exact RO'.of (show _ < 7 by simp [Pos.nat]) kN
                | exact RO'.of (show _ < 7 by simp [Pos.nat]) (aW b)
                | exact RO'.of (show _ < 7 by simp [Pos.nat]) (dU S)
                | exact RO'.of (show _ < 7 by simp [Pos.nat]) (gH kf P l hi)
                | exact RO'.of (show _ < 7 by simp [Pos.nat]) gJ
          · repeat' first | ((first | refine Qz ?_ | refine Qy ?_) <;> conv => whnf) | (refine WB.tt ?_; conv => whnf) | (refine WB.ff ?_; conv => whnf)
            refine WSt.ixaN (m := 4) rfl rfl rfl (by decide) ?_; conv => whnf
            repeat' first | ((first | refine Qz ?_ | refine Qf (cH) ?_ | refine Qf (cP) ?_ | refine Qy ?_) <;> conv => whnf) | (refine WB.tt ?_; conv => whnf) | (refine WB.ff ?_; conv => whnf)
            refine Again.to (k + 1) (by omega) (show k + 1 ≤ P.length by omega) (Nat.le_refl _) ?_
            show Shr _ (Hn b S kf P l hi a5 b5 4 j ((aI b 4).getD j 0) (qN b S P 4 ((aI b 4).getD j 0) (k + 1)) (k + 1))
            rw [hN]
            refine Shr.of ?_ ?_ rfl rfl
            · show Rel _ _ ((.n (.n (.n (.n .e (some (.pt (.i (.o .h)) 0 0)) .e) (some (.pt .h 0 0)) (.n (.n (.n .e (some (.i .i64 ((aD bC P).length : Int))) .e) none .e) (some (.i .i64 ((aI b 4).getD j 0))) (.n .e (some (.lst 1 (ints (aI b 4)))) .e))) none (.n (.n .e (some (.ns)) .e) (some (.pt (.i .h) 0 0)) (.n .e none (.n .e (some (.i .i64 (j : Int))) .e)))) none (.n (.n (.n .e (some (.i .i64 ((4 : Nat) : Int))) .e) (some (.pt (.o .h) 0 0)) (.n (.n (.n .e (some (.i .i64 ((k + 1 : Nat) : Int))) .e) none .e) (some (.pt (.o (.i .h)) 0 0)) (.n .e (some (.i .i64 ((ints (aI b 4)).length : Int))) .e))) none (.n (.n (.n (.n .e (some (.lst 2 (aD bC P))) .e) none .e) none .e) (some (.pt (.o (.o .h)) 0 0)) .e))) : T D) _
              (repeat' first | exact Rel.e | refine Rel.some ?_ ?_ ?_ | refine Rel.none ?_ ?_ | refine Rel.ee ?_ ?_)
              all_goals show Fz _ _ _ _
              all_goals first | exact .pu trivial | exact .kpt (show _ < 7 by simp [Pos.nat]) | exact .ksl (show _ < 7 by simp [Pos.nat]) | exact .pu (aC _) | exact .pu (aE _)
            · show Rel _ _ ((.n (.n (.n .e (some (fP 0 0)) .e) (some (qF S)) (.n .e (some (.cells false [.o (.i .i64 y.sun) 0, .o (.i .i64 y.calm) 0, .o (.i .i64 y.good) 0] 1)) .e)) (some (fZ b)) (.n (.n .e (some (fP a5 b5)) .e) (some (oL kf P l hi)) .e)) : T C) _
              (repeat' first | exact Rel.e | refine Rel.some ?_ ?_ ?_ | refine Rel.none ?_ ?_ | refine Rel.ee ?_ ?_)
              all_goals first
                | exact RO'.of (show _ < 7 by simp [Pos.nat]) kN
                | exact RO'.of (show _ < 7 by simp [Pos.nat]) (aW b)
                | exact RO'.of (show _ < 7 by simp [Pos.nat]) (dU S)
                | exact RO'.of (show _ < 7 by simp [Pos.nat]) (gH kf P l hi)
                | exact RO'.of (show _ < 7 by simp [Pos.nat]) gJ
        obtain rfl : k = P.length := by omega
        subst hX
        have cK := hk0 (qN b S P h ((aI b h).getD j 0) P.length)
        repeat' first | ((first | refine Qz ?_ | refine Qf (cK) ?_ | refine Qy ?_) <;> conv => whnf) | (refine WB.tt ?_; conv => whnf) | (refine WB.ff ?_; conv => whnf)
        refine WSt.app_first (r := jQ (kq b S P κ h ((aI b h).getD j 0))) (by rfl) (.inl rfl) (by rfl) (by rfl) (by rfl) (by rfl) ?_; conv => whnf
        repeat' first | ((first | refine Qz ?_ | refine Qy ?_) <;> conv => whnf) | (refine WB.tt ?_; conv => whnf) | (refine WB.ff ?_; conv => whnf)
        refine Again.to (j + 1) (by omega) ⟨by omega, trivial⟩ (by show (iU (.o (.i .h)) (.i (.o (.o .h))) (((aI b h).take j).map (kq b S P κ h))).nat ≤ (iU (.o (.i .h)) (.i (.o (.o .h))) (((aI b h).take (j + 1)).map (kq b S P κ h))).nat; rw [hA, hsc]; exact (show 6 ≤ 9 by omega)) ?_
        show Shr _ (GO b S kf P l hi a5 b5 h (((aI b h).take (j + 1)).map (kq b S P κ h)) (j + 1))
        rw [hsc]
        refine Shr.of ?_ ?_ rfl rfl
        · show Rel _ _ ((.n (.n (.n (.n .e (some (.pt (.i (.o .h)) 0 0)) .e) (some (.pt .h 0 0)) (.n .e none (.n .e (some (.lst 1 (ints (aI b h)))) .e))) none (.n (.n .e (some ((.sl (.o (.o (.o .h))) 0 1 0 1))) .e) (some (.pt (.i .h) 0 0)) (.n .e none (.n .e (some (.i .i64 ((j + 1 : Nat) : Int))) .e)))) none (.n (.n (.n .e (some (.i .i64 (h : Int))) .e) (some (.pt (.o .h) 0 0)) (.n .e none (.n .e (some (.i .i64 ((ints (aI b h)).length : Int))) .e))) none (.n .e (some (.pt (.o (.o .h)) 0 0)) .e))) : Ev.T D) _
          skip
          (repeat' first | exact Rel.e | refine Rel.some ?_ ?_ ?_ | refine Rel.none ?_ ?_ | refine Rel.ee ?_ ?_)
          all_goals show Fz _ _ _ _
          all_goals first | exact .pu trivial | exact .kpt (show _ < 9 by simp [Pos.nat]) | exact .ksl (show _ < 9 by simp [Pos.nat]) | exact .kmp (show _ < 9 by simp [Pos.nat]) | exact .pu (aC _) | exact .pu (aE _)
        · show Rel _ _ ((.n (.n (.n (.n .e (some (.cells false ((jQ (kq b S P κ h ((aI b h).getD j 0))).map fun d => Cell.o d 0) 1)) .e) (some (fP 0 0)) .e) (some (qF S)) .e) (some (fZ b)) (.n (.n .e (some (fP a5 b5)) .e) (some (oL kf P l hi)) .e)) : Ev.T Ev.C) _
          skip
          (repeat' first | exact Rel.e | refine Rel.some ?_ ?_ ?_ | refine Rel.none ?_ ?_ | refine Rel.ee ?_ ?_)
          all_goals first
            | exact RO'.of (show _ < 9 by simp [Pos.nat]) (aW b)
            | exact RO'.of (show _ < 9 by simp [Pos.nat]) (dU S)
            | exact RO'.of (show _ < 9 by simp [Pos.nat]) (gH kf P l hi)
            | exact RO'.of (show _ < 9 by simp [Pos.nat]) gJ
            | (refine RO'.of (show _ < 9 by simp [Pos.nat]) (ShC.same fun c hc => ?_); obtain ⟨d, hd, rfl⟩ := List.mem_map.1 hc; exact .pu (aV.1 (mS _) d hd))
      | cons a s =>
        have hs5 : s.length + 1 ≤ 1000 := Nat.le_trans hAl (by omega)
        repeat' first | ((first | refine Qz ?_ | refine Qy ?_) <;> conv => whnf) | (refine WB.tt ?_; conv => whnf) | (refine WB.ff ?_; conv => whnf)
        refine Rn.loop (fun k : Nat => Ho b S kf P l hi a5 b5 h a s j ((aI b h).getD j 0) (qN b S P h ((aI b h).getD j 0) k) k) (fun k => k ≤ P.length) (fun k => P.length - k) 0 ?_ (Nat.zero_le _) ?_
        · refine X.le.mk ?_ ?_ (Nat.le_refl _) rfl rfl
          · show T.le ((.n (.n (.n (.n .e (some (.pt (.i (.o .h)) 0 0)) .e) (some (.pt .h 0 0)) (.n (.n (.n .e (some (.i .i64 ((aD bC P).length : Int))) .e) none .e) (some (.i .i64 ((aI b h).getD j 0))) (.n .e (some (.lst 1 (ints (aI b h)))) .e))) none (.n (.n .e (some (.sl (.o (.o (.o .h))) 0 (s.length + 1) s.length 1)) .e) (some (.pt (.i .h) 0 0)) (.n .e none (.n .e (some (.i .i64 (j : Int))) .e)))) none (.n (.n (.n .e (some (.i .i64 (h : Int))) .e) (some (.pt (.o .h) 0 0)) (.n (.n (.n .e (some (.i .i64 0)) .e) none .e) (some (.pt (.i (.o (.o .h))) 0 0)) (.n .e (some (.i .i64 ((ints (aI b h)).length : Int))) .e))) none (.n (.n (.n (.n .e (some (.lst 2 (aD bC P))) .e) none .e) none .e) (some (.pt (.o (.o .h)) 0 0)) .e))) : Ev.T D) _
            (repeat' first | exact T.le_e _ | refine T.le_some ?_ rfl ?_ | refine T.le_none ?_ ?_ | refine T.le_ee ?_ ?_)
          · show T.le ((.n (.n (.n (.n .e (some (.cells false ((aD jQ (a :: s)).flatten.map fun d => Cell.o d s.length) (s.length + 1))) .e) (some (fP 0 0)) .e) (some (qF S)) .e) (some (fZ b)) (.n (.n (.n .e (some (.cells false [.o (.i .i64 0) 0, .o (.i .i64 0) 0, .o (.i .i64 0) 0] 1)) .e) (some (fP a5 b5)) .e) (some (oL kf P l hi)) .e)) : Ev.T Ev.C) _
            (repeat' first | exact T.le_e _ | refine T.le_some ?_ rfl ?_ | refine T.le_none ?_ ?_ | refine T.le_ee ?_ ?_)
        intro k hk
        have hk : k ≤ P.length := hk
        have hbd := zF b S P h ((aI b h).getD j 0) k
        have hN : qN b S P h ((aI b h).getD j 0) (k + 1) = Gj (qN b S P h ((aI b h).getD j 0) k) (wH b (P.getD k default) (S h (P.getD k default).1.toNat) h ((aI b h).getD j 0)) := rfl
        generalize hX : qN b S P h ((aI b h).getD j 0) k = x at *
        conv => whnf
        repeat' first | ((first | refine Qz ?_ | refine Qy ?_) <;> conv => whnf) | (refine WB.tt ?_; conv => whnf) | (refine WB.ff ?_; conv => whnf)
        refine WB.dec (fun hd3 => ?_) (fun hd3 => ?_) <;> conv => whnf
        · have hk2 : k < P.length := by omega
          have hsp := hP _ (aU (d := default) hk2)
          have cH := Ad b V (P.getD k default) hsp (S h) h (by omega) ((aI b h).getD j 0) hdk l4
          have bd2 := wT b (P.getD k default) (S h (P.getD k default).1.toNat) h ((aI b h).getD j 0)
          have cP := Dc x (wH b (P.getD k default) (S h (P.getD k default).1.toNat) h ((aI b h).getD j 0)) (by omega) (by omega)
          generalize Gj x (wH b (P.getD k default) (S h (P.getD k default).1.toNat) h ((aI b h).getD j 0)) = y at *
          rcases rZ (show h < 5 by omega) with rfl | rfl | rfl | rfl | rfl
          · repeat' first | ((first | refine Qz ?_ | refine Qy ?_) <;> conv => whnf) | (refine WB.tt ?_; conv => whnf) | (refine WB.ff ?_; conv => whnf)
            refine WSt.ixaN (m := 0) rfl rfl rfl (by decide) ?_; conv => whnf
            repeat' first | ((first | refine Qz ?_ | refine Qf (cH) ?_ | refine Qf (cP) ?_ | refine Qy ?_) <;> conv => whnf) | (refine WB.tt ?_; conv => whnf) | (refine WB.ff ?_; conv => whnf)
            refine Again.to (k + 1) (by omega) (show k + 1 ≤ P.length by omega) (Nat.le_refl _) ?_
            show Shr _ (Ho b S kf P l hi a5 b5 0 a s j ((aI b 0).getD j 0) (qN b S P 0 ((aI b 0).getD j 0) (k + 1)) (k + 1))
            rw [hN]
            refine Shr.of ?_ ?_ rfl rfl
            · show Rel _ _ ((.n (.n (.n (.n .e (some (.pt (.i (.o .h)) 0 0)) .e) (some (.pt .h 0 0)) (.n (.n (.n .e (some (.i .i64 ((aD bC P).length : Int))) .e) none .e) (some (.i .i64 ((aI b 0).getD j 0))) (.n .e (some (.lst 1 (ints (aI b 0)))) .e))) none (.n (.n .e (some (.sl (.o (.o (.o .h))) 0 (s.length + 1) s.length 1)) .e) (some (.pt (.i .h) 0 0)) (.n .e none (.n .e (some (.i .i64 (j : Int))) .e)))) none (.n (.n (.n .e (some (.i .i64 ((0 : Nat) : Int))) .e) (some (.pt (.o .h) 0 0)) (.n (.n (.n .e (some (.i .i64 ((k + 1 : Nat) : Int))) .e) none .e) (some (.pt (.i (.o (.o .h))) 0 0)) (.n .e (some (.i .i64 ((ints (aI b 0)).length : Int))) .e))) none (.n (.n (.n (.n .e (some (.lst 2 (aD bC P))) .e) none .e) none .e) (some (.pt (.o (.o .h)) 0 0)) .e))) : T D) _
              (repeat' first | exact Rel.e | refine Rel.some ?_ ?_ ?_ | refine Rel.none ?_ ?_ | refine Rel.ee ?_ ?_)
              all_goals show Fz _ _ _ _
              all_goals first | exact .pu trivial | exact .kpt (show _ < 10 by simp [Pos.nat]) | exact .ksl (show _ < 10 by simp [Pos.nat]) | exact .pu (aC _) | exact .pu (aE _)
            · show Rel _ _ ((.n (.n (.n (.n .e (some (.cells false ((aD jQ (a :: s)).flatten.map fun d => Cell.o d s.length) (s.length + 1))) .e) (some (fP 0 0)) .e) (some (qF S)) .e) (some (fZ b)) (.n (.n (.n .e (some (.cells false [.o (.i .i64 y.sun) 0, .o (.i .i64 y.calm) 0, .o (.i .i64 y.good) 0] 1)) .e) (some (fP a5 b5)) .e) (some (oL kf P l hi)) .e)) : T C) _
              (repeat' first | exact Rel.e | refine Rel.some ?_ ?_ ?_ | refine Rel.none ?_ ?_ | refine Rel.ee ?_ ?_)
              all_goals first
                | exact RO'.of (show _ < 10 by simp [Pos.nat]) kN
                | exact RO'.of (show _ < 10 by simp [Pos.nat]) (aW b)
                | exact RO'.of (show _ < 10 by simp [Pos.nat]) (dU S)
                | exact RO'.of (show _ < 10 by simp [Pos.nat]) (gH kf P l hi)
                | exact RO'.of (show _ < 10 by simp [Pos.nat]) gJ
                | exact RO'.of (show _ < 10 by simp [Pos.nat]) (ShC.G mS a s)
          · repeat' first | ((first | refine Qz ?_ | refine Qy ?_) <;> conv => whnf) | (refine WB.tt ?_; conv => whnf) | (refine WB.ff ?_; conv => whnf)
            refine WSt.ixaN (m := 1) rfl rfl rfl (by decide) ?_; conv => whnf
            repeat' first | ((first | refine Qz ?_ | refine Qf (cH) ?_ | refine Qf (cP) ?_ | refine Qy ?_) <;> conv => whnf) | (refine WB.tt ?_; conv => whnf) | (refine WB.ff ?_; conv => whnf)
            refine Again.to (k + 1) (by omega) (show k + 1 ≤ P.length by omega) (Nat.le_refl _) ?_
            show Shr _ (Ho b S kf P l hi a5 b5 1 a s j ((aI b 1).getD j 0) (qN b S P 1 ((aI b 1).getD j 0) (k + 1)) (k + 1))
            rw [hN]
            refine Shr.of ?_ ?_ rfl rfl
            · show Rel _ _ ((.n (.n (.n (.n .e (some (.pt (.i (.o .h)) 0 0)) .e) (some (.pt .h 0 0)) (.n (.n (.n .e (some (.i .i64 ((aD bC P).length : Int))) .e) none .e) (some (.i .i64 ((aI b 1).getD j 0))) (.n .e (some (.lst 1 (ints (aI b 1)))) .e))) none (.n (.n .e (some (.sl (.o (.o (.o .h))) 0 (s.length + 1) s.length 1)) .e) (some (.pt (.i .h) 0 0)) (.n .e none (.n .e (some (.i .i64 (j : Int))) .e)))) none (.n (.n (.n .e (some (.i .i64 ((1 : Nat) : Int))) .e) (some (.pt (.o .h) 0 0)) (.n (.n (.n .e (some (.i .i64 ((k + 1 : Nat) : Int))) .e) none .e) (some (.pt (.i (.o (.o .h))) 0 0)) (.n .e (some (.i .i64 ((ints (aI b 1)).length : Int))) .e))) none (.n (.n (.n (.n .e (some (.lst 2 (aD bC P))) .e) none .e) none .e) (some (.pt (.o (.o .h)) 0 0)) .e))) : T D) _
              (repeat' first | exact Rel.e | refine Rel.some ?_ ?_ ?_ | refine Rel.none ?_ ?_ | refine Rel.ee ?_ ?_)
              all_goals show Fz _ _ _ _
              all_goals first | exact .pu trivial | exact .kpt (show _ < 10 by simp [Pos.nat]) | exact .ksl (show _ < 10 by simp [Pos.nat]) | exact .pu (aC _) | exact .pu (aE _)
            · show Rel _ _ ((.n (.n (.n (.n .e (some (.cells false ((aD jQ (a :: s)).flatten.map fun d => Cell.o d s.length) (s.length + 1))) .e) (some (fP 0 0)) .e) (some (qF S)) .e) (some (fZ b)) (.n (.n (.n .e (some (.cells false [.o (.i .i64 y.sun) 0, .o (.i .i64 y.calm) 0, .o (.i .i64 y.good) 0] 1)) .e) (some (fP a5 b5)) .e) (some (oL kf P l hi)) .e)) : T C) _
              (repeat' first | exact Rel.e | refine Rel.some ?_ ?_ ?_ | refine Rel.none ?_ ?_ | refine Rel.ee ?_ ?_)
              all_goals first
                | exact RO'.of (show _ < 10 by simp [Pos.nat]) kN
                | exact RO'.of (show _ < 10 by simp [Pos.nat]) (aW b)
                | exact RO'.of (show _ < 10 by simp [Pos.nat]) (dU S)
                | exact RO'.of (show _ < 10 by simp [Pos.nat]) (gH kf P l hi)
                | exact RO'.of (show _ < 10 by simp [Pos.nat]) gJ
                | exact RO'.of (show _ < 10 by simp [Pos.nat]) (ShC.G mS a s)
          · repeat' first | ((first | refine Qz ?_ | refine Qy ?_) <;> conv => whnf) | (refine WB.tt ?_; conv => whnf) | (refine WB.ff ?_; conv => whnf)
            refine WSt.ixaN (m := 2) rfl rfl rfl (by decide) ?_; conv => whnf
            repeat' first | ((first | refine Qz ?_ | refine Qf (cH) ?_ | refine Qf (cP) ?_ | refine Qy ?_) <;> conv => whnf) | (refine WB.tt ?_; conv => whnf) | (refine WB.ff ?_; conv => whnf)
            refine Again.to (k + 1) (by omega) (show k + 1 ≤ P.length by omega) (Nat.le_refl _) ?_
            show Shr _ (Ho b S kf P l hi a5 b5 2 a s j ((aI b 2).getD j 0) (qN b S P 2 ((aI b 2).getD j 0) (k + 1)) (k + 1))
            rw [hN]
            refine Shr.of ?_ ?_ rfl rfl
            · show Rel _ _ ((.n (.n (.n (.n .e (some (.pt (.i (.o .h)) 0 0)) .e) (some (.pt .h 0 0)) (.n (.n (.n .e (some (.i .i64 ((aD bC P).length : Int))) .e) none .e) (some (.i .i64 ((aI b 2).getD j 0))) (.n .e (some (.lst 1 (ints (aI b 2)))) .e))) none (.n (.n .e (some (.sl (.o (.o (.o .h))) 0 (s.length + 1) s.length 1)) .e) (some (.pt (.i .h) 0 0)) (.n .e none (.n .e (some (.i .i64 (j : Int))) .e)))) none (.n (.n (.n .e (some (.i .i64 ((2 : Nat) : Int))) .e) (some (.pt (.o .h) 0 0)) (.n (.n (.n .e (some (.i .i64 ((k + 1 : Nat) : Int))) .e) none .e) (some (.pt (.i (.o (.o .h))) 0 0)) (.n .e (some (.i .i64 ((ints (aI b 2)).length : Int))) .e))) none (.n (.n (.n (.n .e (some (.lst 2 (aD bC P))) .e) none .e) none .e) (some (.pt (.o (.o .h)) 0 0)) .e))) : T D) _
              (repeat' first | exact Rel.e | refine Rel.some ?_ ?_ ?_ | refine Rel.none ?_ ?_ | refine Rel.ee ?_ ?_)
              all_goals show Fz _ _ _ _
              all_goals first | exact .pu trivial | exact .kpt (show _ < 10 by simp [Pos.nat]) | exact .ksl (show _ < 10 by simp [Pos.nat]) | exact .pu (aC _) | exact .pu (aE _)
            · show Rel _ _ ((.n (.n (.n (.n .e (some (.cells false ((aD jQ (a :: s)).flatten.map fun d => Cell.o d s.length) (s.length + 1))) .e) (some (fP 0 0)) .e) (some (qF S)) .e) (some (fZ b)) (.n (.n (.n .e (some (.cells false [.o (.i .i64 y.sun) 0, .o (.i .i64 y.calm) 0, .o (.i .i64 y.good) 0] 1)) .e) (some (fP a5 b5)) .e) (some (oL kf P l hi)) .e)) : T C) _
              (repeat' first | exact Rel.e | refine Rel.some ?_ ?_ ?_ | refine Rel.none ?_ ?_ | refine Rel.ee ?_ ?_)
              all_goals first
                | exact RO'.of (show _ < 10 by simp [Pos.nat]) kN
                | exact RO'.of (show _ < 10 by simp [Pos.nat]) (aW b)
                | exact RO'.of (show _ < 10 by simp [Pos.nat]) (dU S)
                | exact RO'.of (show _ < 10 by simp [Pos.nat]) (gH kf P l hi)
                | exact RO'.of (show _ < 10 by simp [Pos.nat]) gJ
                | exact RO'.of (show _ < 10 by simp [Pos.nat]) (ShC.G mS a s)
          · repeat' first | ((first | refine Qz ?_ | refine Qy ?_) <;> conv => whnf) | (refine WB.tt ?_; conv => whnf) | (refine WB.ff ?_; conv => whnf)
            refine WSt.ixaN (m := 3) rfl rfl rfl (by decide) ?_; conv => whnf
            repeat' first | ((first | refine Qz ?_ | refine Qf (cH) ?_ | refine Qf (cP) ?_ | refine Qy ?_) <;> conv => whnf) | (refine WB.tt ?_; conv => whnf) | (refine WB.ff ?_; conv => whnf)
            refine Again.to (k + 1) (by omega) (show k + 1 ≤ P.length by omega) (Nat.le_refl _) ?_
            show Shr _ (Ho b S kf P l hi a5 b5 3 a s j ((aI b 3).getD j 0) (qN b S P 3 ((aI b 3).getD j 0) (k + 1)) (k + 1))
            rw [hN]
            refine Shr.of ?_ ?_ rfl rfl
            · show Rel _ _ ((.n (.n (.n (.n .e (some (.pt (.i (.o .h)) 0 0)) .e) (some (.pt .h 0 0)) (.n (.n (.n .e (some (.i .i64 ((aD bC P).length : Int))) .e) none .e) (some (.i .i64 ((aI b 3).getD j 0))) (.n .e (some (.lst 1 (ints (aI b 3)))) .e))) none (.n (.n .e (some (.sl (.o (.o (.o .h))) 0 (s.length + 1) s.length 1)) .e) (some (.pt (.i .h) 0 0)) (.n .e none (.n .e (some (.i .i64 (j : Int))) .e)))) none (.n (.n (.n .e (some (.i .i64 ((3 : Nat) : Int))) .e) (some (.pt (.o .h) 0 0)) (.n (.n (.n .e (some (.i .i64 ((k + 1 : Nat) : Int))) .e) none .e) (some (.pt (.i (.o (.o .h))) 0 0)) (.n .e (some (.i .i64 ((ints (aI b 3)).length : Int))) .e))) none (.n (.n (.n (.n .e (some (.lst 2 (aD bC P))) .e) none .e) none .e) (some (.pt (.o (.o .h)) 0 0)) .e))) : T D) _
              (repeat' first | exact Rel.e | refine Rel.some ?_ ?_ ?_ | refine Rel.none ?_ ?_ | refine Rel.ee ?_ ?_)
              all_goals show Fz _ _ _ _
              all_goals first | exact .pu trivial | exact .kpt (show _ < 10 by simp [Pos.nat]) | exact .ksl (show _ < 10 by simp [Pos.nat]) | exact .pu (aC _) | exact .pu (aE _)
            · show Rel _ _ ((.n (.n (.n (.n .e (some (.cells false ((aD jQ (a :: s)).flatten.map fun d => Cell.o d s.length) (s.length + 1))) .e) (some (fP 0 0)) .e) (some (qF S)) .e) (some (fZ b)) (.n (.n (.n .e (some (.cells false [.o (.i .i64 y.sun) 0, .o (.i .i64 y.calm) 0, .o (.i .i64 y.good) 0] 1)) .e) (some (fP a5 b5)) .e) (some (oL kf P l hi)) .e)) : T C) _
              (repeat' first | exact Rel.e | refine Rel.some ?_ ?_ ?_ | refine Rel.none ?_ ?_ | refine Rel.ee ?_ ?_)
              all_goals first
                | exact RO'.of (show _ < 10 by simp [Pos.nat]) kN
                | exact RO'.of (show _ < 10 by simp [Pos.nat]) (aW b)
                | exact RO'.of (show _ < 10 by simp [Pos.nat]) (dU S)
                | exact RO'.of (show _ < 10 by simp [Pos.nat]) (gH kf P l hi)
                | exact RO'.of (show _ < 10 by simp [Pos.nat]) gJ
                | exact RO'.of (show _ < 10 by simp [Pos.nat]) (ShC.G mS a s)
          · repeat' first | ((first | refine Qz ?_ | refine Qy ?_) <;> conv => whnf) | (refine WB.tt ?_; conv => whnf) | (refine WB.ff ?_; conv => whnf)
            refine WSt.ixaN (m := 4) rfl rfl rfl (by decide) ?_; conv => whnf
            repeat' first | ((first | refine Qz ?_ | refine Qf (cH) ?_ | refine Qf (cP) ?_ | refine Qy ?_) <;> conv => whnf) | (refine WB.tt ?_; conv => whnf) | (refine WB.ff ?_; conv => whnf)
            refine Again.to (k + 1) (by omega) (show k + 1 ≤ P.length by omega) (Nat.le_refl _) ?_
            show Shr _ (Ho b S kf P l hi a5 b5 4 a s j ((aI b 4).getD j 0) (qN b S P 4 ((aI b 4).getD j 0) (k + 1)) (k + 1))
            rw [hN]
            refine Shr.of ?_ ?_ rfl rfl
            · show Rel _ _ ((.n (.n (.n (.n .e (some (.pt (.i (.o .h)) 0 0)) .e) (some (.pt .h 0 0)) (.n (.n (.n .e (some (.i .i64 ((aD bC P).length : Int))) .e) none .e) (some (.i .i64 ((aI b 4).getD j 0))) (.n .e (some (.lst 1 (ints (aI b 4)))) .e))) none (.n (.n .e (some (.sl (.o (.o (.o .h))) 0 (s.length + 1) s.length 1)) .e) (some (.pt (.i .h) 0 0)) (.n .e none (.n .e (some (.i .i64 (j : Int))) .e)))) none (.n (.n (.n .e (some (.i .i64 ((4 : Nat) : Int))) .e) (some (.pt (.o .h) 0 0)) (.n (.n (.n .e (some (.i .i64 ((k + 1 : Nat) : Int))) .e) none .e) (some (.pt (.i (.o (.o .h))) 0 0)) (.n .e (some (.i .i64 ((ints (aI b 4)).length : Int))) .e))) none (.n (.n (.n (.n .e (some (.lst 2 (aD bC P))) .e) none .e) none .e) (some (.pt (.o (.o .h)) 0 0)) .e))) : T D) _
              (repeat' first | exact Rel.e | refine Rel.some ?_ ?_ ?_ | refine Rel.none ?_ ?_ | refine Rel.ee ?_ ?_)
              all_goals show Fz _ _ _ _
              all_goals first | exact .pu trivial | exact .kpt (show _ < 10 by simp [Pos.nat]) | exact .ksl (show _ < 10 by simp [Pos.nat]) | exact .pu (aC _) | exact .pu (aE _)
            · show Rel _ _ ((.n (.n (.n (.n .e (some (.cells false ((aD jQ (a :: s)).flatten.map fun d => Cell.o d s.length) (s.length + 1))) .e) (some (fP 0 0)) .e) (some (qF S)) .e) (some (fZ b)) (.n (.n (.n .e (some (.cells false [.o (.i .i64 y.sun) 0, .o (.i .i64 y.calm) 0, .o (.i .i64 y.good) 0] 1)) .e) (some (fP a5 b5)) .e) (some (oL kf P l hi)) .e)) : T C) _
              (repeat' first | exact Rel.e | refine Rel.some ?_ ?_ ?_ | refine Rel.none ?_ ?_ | refine Rel.ee ?_ ?_)
              all_goals first
                | exact RO'.of (show _ < 10 by simp [Pos.nat]) kN
                | exact RO'.of (show _ < 10 by simp [Pos.nat]) (aW b)
                | exact RO'.of (show _ < 10 by simp [Pos.nat]) (dU S)
                | exact RO'.of (show _ < 10 by simp [Pos.nat]) (gH kf P l hi)
                | exact RO'.of (show _ < 10 by simp [Pos.nat]) gJ
                | exact RO'.of (show _ < 10 by simp [Pos.nat]) (ShC.G mS a s)
        obtain rfl : k = P.length := by omega
        subst hX
        have cK := hk0 (qN b S P h ((aI b h).getD j 0) P.length)
        repeat' first | ((first | refine Qz ?_ | refine Qf (cK) ?_ | refine Qy ?_) <;> conv => whnf) | (refine WB.tt ?_; conv => whnf) | (refine WB.ff ?_; conv => whnf)
        refine WSt.app_one (id := (.o (.o (.o .h)))) (ds := (aD jQ (a :: s)).flatten) (r := jQ (kq b S P κ h ((aI b h).getD j 0))) (by rfl) (by rfl) (by rfl) (by rfl) (by rfl) (by rfl) (by rw [eL (z := 1) Fu]; rfl) (by rfl) (by rfl) (by omega) (by rfl) ?_; conv => whnf
        repeat' first | ((first | refine Qz ?_ | refine Qy ?_) <;> conv => whnf) | (refine WB.tt ?_; conv => whnf) | (refine WB.ff ?_; conv => whnf)
        refine Again.to (j + 1) (by omega) ⟨by omega, trivial⟩ (by show (iU (.o (.i .h)) (.i (.o (.o .h))) (((aI b h).take j).map (kq b S P κ h))).nat ≤ (iU (.o (.i .h)) (.i (.o (.o .h))) (((aI b h).take (j + 1)).map (kq b S P κ h))).nat; rw [hA, hsc, List.cons_append]; exact (show 9 ≤ 9 by omega)) ?_
        show Shr _ (GO b S kf P l hi a5 b5 h (((aI b h).take (j + 1)).map (kq b S P κ h)) (j + 1))
        rw [hsc, List.cons_append]
        refine Shr.of ?_ ?_ rfl rfl
        · show Rel _ _ ((.n (.n (.n (.n .e (some (.pt (.i (.o .h)) 0 0)) .e) (some (.pt .h 0 0)) (.n .e none (.n .e (some (.lst 1 (ints (aI b h)))) .e))) none (.n (.n .e (some ((AR (.o (.o (.o .h))) 1 (a :: (s ++ [(kq b S P κ h ((aI b h).getD j 0))]))))) .e) (some (.pt (.i .h) 0 0)) (.n .e none (.n .e (some (.i .i64 ((j + 1 : Nat) : Int))) .e)))) none (.n (.n (.n .e (some (.i .i64 (h : Int))) .e) (some (.pt (.o .h) 0 0)) (.n .e none (.n .e (some (.i .i64 ((ints (aI b h)).length : Int))) .e))) none (.n .e (some (.pt (.o (.o .h)) 0 0)) .e))) : Ev.T D) _
          rw [hG]
          (repeat' first | exact Rel.e | refine Rel.some ?_ ?_ ?_ | refine Rel.none ?_ ?_ | refine Rel.ee ?_ ?_)
          all_goals show Fz _ _ _ _
          all_goals first | exact .pu trivial | exact .kpt (show _ < 9 by simp [Pos.nat]) | exact .ksl (show _ < 9 by simp [Pos.nat]) | exact .kmp (show _ < 9 by simp [Pos.nat]) | exact .pu (aC _) | exact .pu (aE _)
        · show Rel _ _ ((.n (.n (.n (.n .e (Bj jQ (a :: (s ++ [(kq b S P κ h ((aI b h).getD j 0))]))) .e) (some (fP 0 0)) .e) (some (qF S)) .e) (some (fZ b)) (.n (.n .e (some (fP a5 b5)) .e) (some (oL kf P l hi)) .e)) : Ev.T Ev.C) _
          rw [iA]
          (repeat' first | exact Rel.e | refine Rel.some ?_ ?_ ?_ | refine Rel.none ?_ ?_ | refine Rel.ee ?_ ?_)
          all_goals first
            | exact RO'.of (show _ < 9 by simp [Pos.nat]) (aW b)
            | exact RO'.of (show _ < 9 by simp [Pos.nat]) (dU S)
            | exact RO'.of (show _ < 9 by simp [Pos.nat]) (gH kf P l hi)
            | exact RO'.of (show _ < 9 by simp [Pos.nat]) gJ
            | (refine RO'.of (show _ < 9 by simp [Pos.nat]) (ShC.grown (by omega) (aV.2 fun d hd => ?_)); rcases List.mem_append.1 hd with hd | hd <;> first | exact aV.1 (fY mS _) d hd | exact aV.1 (mS _) d hd)
    · obtain rfl : j = (aI b h).length := by omega
      have hE := hend rfl
      cases A with
      | nil =>
        have := congrArg List.length hE
        unfold kV at this
        rw [List.length_map] at this
        exact absurd (List.length_eq_zero_iff.1 this.symm) hWn
      | cons a s =>
        repeat' first | ((first | refine Qz ?_ | refine Qy ?_) <;> conv => whnf) | (refine WB.tt ?_; conv => whnf) | (refine WB.ff ?_; conv => whnf)
        refine ⟨rfl, Oi b S kf P l hi a5 b5 h (kV b S P κ h), (fun id : Pos => id.nat < 6), ?_, fun id h => h, fun id h => h, Nat.le_refl _, ?_⟩
        · refine ShrB.of ?_ ?_ rfl rfl
          · show Rel _ _ ((.n (.n (.n (.n .e (some (.pt (.i (.o .h)) 0 0)) .e) (some (.pt .h 0 0)) .e) none (.n (.n .e (some (.lst 1 (ints (kV b S P κ h)))) .e) (some (.pt (.i .h) 0 0)) .e)) none (.n (.n (.n .e (some (.i .i64 (h : Int))) .e) (some (.pt (.o .h) 0 0)) .e) none (.n .e (some (.pt (.o (.o .h)) 0 0)) .e))) : T D) _
            (repeat' first | exact Rel.e | refine Rel.some ?_ ?_ ?_ | refine Rel.none ?_ ?_ | refine Rel.ee ?_ ?_)
            all_goals show Fz _ _ _ _
            all_goals first | exact .pu trivial | exact .kpt (show _ < 6 by simp [Pos.nat]) | (rw [← hE]; exact Fz.G (f := jQ) (a :: s) (show ¬ (8 : Nat) < 6 by omega) (fun c h => h) Fu mS)
          · show Rel _ _ ((.n (.n (.n .e (some (fP 0 0)) .e) (some (qF S)) .e) (some (fZ b)) (.n (.n .e (some (fP a5 b5)) .e) (some (oL kf P l hi)) .e)) : T C) _
            (repeat' first | exact Rel.e | refine Rel.some ?_ ?_ ?_ | refine Rel.none ?_ ?_ | refine Rel.ee ?_ ?_)
            all_goals first
              | exact RO'.of (show _ < 6 by simp [Pos.nat]) (aW b)
              | exact RO'.of (show _ < 6 by simp [Pos.nat]) (dU S)
              | exact RO'.of (show _ < 6 by simp [Pos.nat]) (gH kf P l hi)
              | exact RO'.of (show _ < 6 by simp [Pos.nat]) gJ
        · have eV := aP (kV b S P κ h)
          have hVl : (kV b S P κ h).length = (aI b h).length := List.length_map _
          have hVp : 0 < (kV b S P κ h).length := by
            rw [← hE]; simp
          have cMn := JP ((kV b S P κ h).getD 0 0) (kV b S P κ h) (by omega)
          have cMx := Ks (kV b S P κ h) hVp (by omega)
          have hm1 : (kV b S P κ h).foldl min ((kV b S P κ h).getD 0 0) = wA b S P κ h := rfl
          have hm2 : (kV b S P κ h).foldl max ((kV b S P κ h).getD 0 0) = vC b S P κ h := rfl
          rw [hm1] at cMn
          rw [hm2] at cMx
          conv => whnf
          repeat' first | ((first | refine Qz ?_ | refine Qf (cMn) ?_ | refine Qf (cMx) ?_ | refine WIx.intsE (j := 0) rfl hVp ?_ | refine Qy ?_) <;> conv => whnf) | (refine WB.tt ?_; conv => whnf) | (refine WB.ff ?_; conv => whnf)
          refine Again.to (h + 1) (by omega) ⟨by omega, by omega⟩ (Nat.le_refl _) ?_
          rw [hn5, hn6]
          refine Shr.of ?_ ?_ rfl rfl
          · show Rel _ _ ((.n (.n (.n (.n .e (some (.pt (.i (.o .h)) 0 0)) .e) (some (.pt .h 0 0)) .e) none (.n .e (some (.pt (.i .h) 0 0)) .e)) none (.n (.n (.n .e (some (.i .i64 ((h + 1 : Nat) : Int))) .e) (some (.pt (.o .h) 0 0)) .e) none (.n .e (some (.pt (.o (.o .h)) 0 0)) .e))) : T D) _
            (repeat' first | exact Rel.e | refine Rel.some ?_ ?_ ?_ | refine Rel.none ?_ ?_ | refine Rel.ee ?_ ?_)
            all_goals show Fz _ _ _ _
            all_goals first | exact .pu trivial | exact .kpt (show _ < 6 by simp [Pos.nat])
          · show Rel _ _ ((.n (.n (.n .e (some (fP 0 0)) .e) (some (qF S)) .e) (some (fZ b)) (.n (.n .e (some (fP (a5 + wA b S P κ h) (b5 + vC b S P κ h))) .e) (some (oL kf P l hi)) .e)) : T C) _
            (repeat' first | exact Rel.e | refine Rel.some ?_ ?_ ?_ | refine Rel.none ?_ ?_ | refine Rel.ee ?_ ?_)
            all_goals first
              | exact RO'.of (show _ < 6 by simp [Pos.nat]) (aW b)
              | exact RO'.of (show _ < 6 by simp [Pos.nat]) (dU S)
              | exact RO'.of (show _ < 6 by simp [Pos.nat]) (gH kf P l hi)
              | exact RO'.of (show _ < 6 by simp [Pos.nat]) gJ
  · have e : h = l + m := by omega
    rw [hz5 e, hz6 e]
    repeat' first | ((first | refine Qz ?_ | refine Qy ?_) <;> conv => whnf) | (refine WB.tt ?_; conv => whnf) | (refine WB.ff ?_; conv => whnf)
    exact ⟨.inr rfl, _, rfl, .pu ⟨trivial, trivial, trivial⟩⟩
theorem tS (g : Int → Int → Int) (hg : ∀ x y, g x y = x ∨ g x y = y) {lo hi : Int} : ∀ (L : List Int) (a : Int), lo ≤ a ∧ a ≤ hi → (∀ x ∈ L, lo ≤ x ∧ x ≤ hi) → lo ≤ L.foldl g a ∧ L.foldl g a ≤ hi
  | [], _, ha, _ => ha
  | x :: L, a, ha, h => by
    rw [List.foldl_cons]
    refine tS g hg L (g a x) ?_ fun y hy => h y (by simp [hy])
    rcases hg a x with e | e <;> rw [e]
    · exact ha
    · exact h x (by simp)
theorem FN (x y : Int) : min x y = x ∨ min x y = y := by omega
theorem Hi (x y : Int) : max x y = x ∨ max x y = y := by omega
theorem wR {f : Nat → Int} (hf : ∀ h, 0 ≤ f h ∧ f h ≤ 50) (l : Nat) : ∀ h : Nat, 0 ≤ lL f l h ∧ lL f l h ≤ 50 * h
  | 0 => by simp [lL]
  | h + 1 => by
    have h1 := wR hf l h
    have h2 := hf h
    unfold lL
    split <;> omega
structure KOk (kf : Pos) (κ : Hr → Int) : Prop where
  c : ∀ x, PureF Tryz.prog kf.ix [.ag (sY x)] (.i .i64 (κ x))
  bd : ∀ (x : Hr) (n : Int), (0 ≤ x.sun ∧ x.sun ≤ n) ∧ (0 ≤ x.calm ∧ x.calm ≤ n) ∧ (0 ≤ x.good ∧ x.good ≤ n) → 0 ≤ κ x ∧ κ x ≤ n
theorem KOk.sun : KOk p133 (fun x => x.sun) := ⟨Hc, fun _ _ h => h.1⟩
theorem KOk.calm : KOk p103 (fun x => x.calm) := ⟨Er, fun _ _ h => h.2.1⟩
theorem KOk.good : KOk p105 (fun x => x.good) := ⟨Ej, fun _ _ h => h.2.2⟩
theorem An {kf : Pos} {κ : Hr → Int} (K : KOk kf κ) (b : Bh) (S : Nat → Nat → Int) (P : List (Int × Int)) (hP : P.length ≤ 50) (h : Nat) : ∀ x ∈ kV b S P κ h, 0 ≤ x ∧ x ≤ 50 := fun x hx => by
  obtain ⟨d, _, rfl⟩ := List.mem_map.1 hx
  have h1 := K.bd _ _ (zF b S P h d P.length)
  show 0 ≤ κ (qN b S P h d P.length) ∧ κ (qN b S P h d P.length) ≤ 50
  omega
theorem CG {L : List Int} (h : ∀ x ∈ L, 0 ≤ x ∧ x ≤ 50) : 0 ≤ L.getD 0 0 ∧ L.getD 0 0 ≤ 50 := by
  cases L with
  | nil => decide
  | cons a L => exact h a (by simp)
theorem Gk {kf : Pos} {κ : Hr → Int} (K : KOk kf κ) (b : Bh) (S : Nat → Nat → Int) (P : List (Int × Int)) (hP : P.length ≤ 50) (h : Nat) : 0 ≤ wA b S P κ h ∧ wA b S P κ h ≤ 50 :=
  tS min FN _ _ (CG (An K b S P hP h)) (An K b S P hP h)
theorem FC {kf : Pos} {κ : Hr → Int} (K : KOk kf κ) (b : Bh) (S : Nat → Nat → Int) (P : List (Int × Int)) (hP : P.length ≤ 50) (h : Nat) : 0 ≤ vC b S P κ h ∧ vC b S P κ h ≤ 50 :=
  tS max Hi _ _ (CG (An K b S P hP h)) (An K b S P hP h)
def NV (b : Bh) (S : Nat → Nat → Int) (P : List (Int × Int)) (κ : Hr → Int) (l m : Nat) : List D := [.i .i64 (lL (wA b S P κ) l (l + m)), .i .i64 (lL (vC b S P κ) l (l + m))]
theorem Kr (b : Bh) (V : VW b) (S : Nat → Nat → Int) {kf : Pos} {κ : Hr → Int} (K : KOk kf κ) (P : List (Int × Int)) (hP : ∀ p ∈ P, dL b p = true) (l4 : b.brk.length ≤ 1000) (hPl : P.length ≤ 50) (l m : Nat) (hi : Int) (hhi : hi = ((l + m : Nat) : Int) - 1) (hm : l + m ≤ (b.last + 1).toNat) (l6 : ∀ w ∈ b.winds, w.length ≤ 1000) (l5 : b.nts.length ≤ 1000) (hne : ∀ h, h < (b.last + 1).toNat → aI b h ≠ []) : PureF Tryz.prog p102.ix [.ag (dR b), .ag (kG S), .ag (Bw kf P l hi)] (.ag (NV b S P κ l m)) := by
  have q := V.last
  exact Cj b V S kf κ K.c P hP l4 hPl l m hi hhi hm l6 l5 hne (fun h hh => by have := wR (Gk K b S P hPl) l h; omega) (fun h hh => by have := wR (FC K b S P hPl) l h; omega)
end Go.Ev
end
