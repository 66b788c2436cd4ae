import Derived.Test.YtkbgaadfednjpaaGreatDoorEvU4o
set_option linter.all false
set_option maxHeartbeats 8000000
noncomputable section
namespace Go.Ev
open Go.Proofs
set_option maxRecDepth 100000
theorem Kv (l : List Int) (h0 : 0 < l.length) (hL : l.length ≤ 100000) : PureF Tryz.prog p136.ix [.lst 1 (ints l)] (.i .i64 (l.foldl max (l.getD 0 0))) := by
  have e1 := aO l
  refine PureF.run JG (by simp) (by simp [aQ, Pu, aC]) ?_; conv => whnf
  repeat' first | ((first | refine Qz ?_ | with_reducible (first | refine Qm ?_ | refine Qn ?_ | refine Qo ?_ | refine Qp ?_ | refine WB.nt ?_ | refine WB.nf ?_ | refine WB.dec (fun h => ?_) (fun h => ?_) | refine WB.ndec (fun h => ?_) (fun h => ?_)) | refine WB.mk (fun h => ?_) (fun h => ?_)) <;> conv => whnf)
  refine Rn.loop (fun j : Nat => ⟨(.n (.n (.n .e (some (.i .i64 ((l.take j).foldl max (l.getD 0 0)))) .e) none .e) (some (.lst 1 (ints l))) (.n (.n .e (some (.i .i64 (j : Int))) .e) none .e)), .e, .h, none⟩) (fun j => 1 ≤ j ∧ j ≤ l.length) (fun j => l.length - j) 1 ?_ ?_ ?_
  · have h1 : (l.take 1).foldl max (l.getD 0 0) = l.getD 0 0 := by
      cases l with
      | nil => rfl
      | cons a l => simp
    rw [h1]
    (first | (refine X.le.mk ?_ ?_ (Nat.le_refl _) rfl rfl) | skip) <;> (repeat' first | exact T.le_e _ | refine T.le_some ?_ ?_ ?_ | refine T.le_none ?_ ?_ | rfl)
  · omega
  rintro j ⟨hj1, hj⟩
  conv => whnf
  repeat' first | ((first | refine Qz ?_) <;> conv => whnf)
  refine WB.dec (fun h => ?_) (fun h => ?_) <;> conv => whnf
  · have hlt : j < l.length := by omega
    repeat' first | ((first | refine Qz ?_) <;> conv => whnf)
    refine Again.to (j + 1) (by omega) ⟨by omega, by omega⟩ (Nat.le_refl _) ?_
    (refine Shr.of ?_ ?_ rfl rfl) <;> (repeat' first | exact Rel.e | refine Rel.some ?_ ?_ ?_ | refine Rel.none ?_ ?_) <;> (try first | (show Fz _ _ _ _; first | exact Fz.pu trivial | (refine Fz.i ?_; first | rfl | omega) | (refine Fz.kpt ?_; (focus (show Pos.nat _ < Pos.nat _; simp [Pos.nat]; done))) | (refine Fz.ksl ?_; (focus (show Pos.nat _ < Pos.nat _; simp [Pos.nat]; done))) | (refine Fz.kmp ?_; (focus (show Pos.nat _ < Pos.nat _; simp [Pos.nat]; done))) | (refine Fz.pu ?_; simp [Cell.d, Pu, aQ, dG, aC, aG, aJ]; done) | (refine Fz.pu ?_; simp only [Cell.d]; assumption)) | (refine RO'.of ?_ (ShC.same ?_); (focus (show Pos.nat _ < Pos.nat _; simp [Pos.nat]; done)); (repeat' first | exact ShC.nl | refine ShC.cn ?_ ?_) <;> first | exact Fz.pu trivial | (refine Fz.i ?_; first | rfl | omega) | (refine Fz.kpt ?_; (focus (show Pos.nat _ < Pos.nat _; simp [Pos.nat]; done))) | (refine Fz.ksl ?_; (focus (show Pos.nat _ < Pos.nat _; simp [Pos.nat]; done))) | (refine Fz.kmp ?_; (focus (show Pos.nat _ < Pos.nat _; simp [Pos.nat]; done))) | (refine Fz.pu ?_; simp [Cell.d, Pu, aQ, dG, aC, aG, aJ]; done) | (refine Fz.pu ?_; simp only [Cell.d]; assumption)))
    all_goals (refine Fz.i ?_; exact (oF (d := 0) max _ hlt).symm)
  · repeat' first | ((first | refine Qz ?_) <;> conv => whnf)
    exact Fin.i rfl (by rw [List.take_of_length_le (by omega)])
def jT (n : Int) : List D := [.i .i64 n]
theorem FH (n : Int) : (jT n).length = 1 := rfl
theorem mW (n : Int) : aQ (jT n) := by simp [jT, aQ, Pu]
def qQ (S : Nat → Nat → Int) : C := .cells false ((kK S).map fun d => Cell.o d 0) 1
def fP (x y : Int) : C := .cells false [.o (.i .i64 x) 0, .o (.i .i64 y) 0] 1
theorem gK {B : Pos → Prop} {ob : T C} {x y : Int} : ShC B ob (fP x y) (fP x y) := by
  refine ShC.same ?_
  (repeat' first | exact ShC.nl | refine ShC.cn ?_ ?_) <;> exact .pu trivial
def BO (kf : Pos) (P : List (Int × Int)) (l : Nat) (hi : Int) : List D := [.lst 2 (aD bD P), .i .i64 (l : Int), .i .i64 hi, .fn kf [] []]
theorem Ib (kf : Pos) (P : List (Int × Int)) (l : Nat) (hi : Int) : aQ (BO kf P l hi) := by simp [BO, aQ, Pu, aG]
def oT (kf : Pos) (P : List (Int × Int)) (l : Nat) (hi : Int) : C := .cells false [.o (.lst 2 (aD bD P)) 0, .o (.i .i64 (l : Int)) 0, .o (.i .i64 hi) 0, .o (.fn kf [] []) 0] 1
theorem gJ {B : Pos → Prop} {ob : T C} (kf : Pos) (P : List (Int × Int)) (l : Nat) (hi : Int) : ShC B ob (oT kf P l hi) (oT kf P l hi) := by
  refine ShC.same ?_
  (repeat' first | exact ShC.nl | refine ShC.cn ?_ ?_) <;> first | exact .pu trivial | exact .pu (aG _) | exact .pu ⟨trivial, trivial⟩
def qN (b : Bh) (S : Nat → Nat → Int) (P : List (Int × Int)) (h : Nat) (d : Int) : Nat → Hr
  | 0 => ⟨0, 0, 0⟩
  | j + 1 => EL (qN b S P h d j) (tP b (P.getD j default) (S h (P.getD j default).1.toNat) h d)
theorem zV (b : Bh) (S : Nat → Nat → Int) (P : List (Int × Int)) (h : Nat) (d : Int) : ∀ j : Nat, (0 ≤ (qN b S P h d j).sun ∧ (qN b S P h d j).sun ≤ j) ∧ (0 ≤ (qN b S P h d j).calm ∧ (qN b S P h d j).calm ≤ j) ∧ (0 ≤ (qN b S P h d j).good ∧ (qN b S P h d j).good ≤ j)
  | 0 => by simp [qN]
  | j + 1 => by
    have h1 := zV b S P h d j
    have k := xG b (P.getD j default) (S h (P.getD j default).1.toNat) h d
    show (0 ≤ (qN b S P h d j).sun + _ ∧ (qN b S P h d j).sun + _ ≤ _) ∧ (0 ≤ (qN b S P h d j).calm + _ ∧ (qN b S P h d j).calm + _ ≤ _) ∧ (0 ≤ (qN b S P h d j).good + _ ∧ (qN b S P h d j).good + _ ≤ _)
    omega
def kq (b : Bh) (S : Nat → Nat → Int) (P : List (Int × Int)) (κ : Hr → Int) (h : Nat) (d : Int) : Int := κ (qN b S P h d P.length)
def kV (b : Bh) (S : Nat → Nat → Int) (P : List (Int × Int)) (κ : Hr → Int) (h : Nat) : List Int := (aH b h).map (kq b S P κ h)
def gD (f : Nat → Int) (l : Nat) : Nat → Int
  | 0 => 0
  | h + 1 => if l ≤ h then gD f l h + f h else 0
theorem wJ (f : Nat → Int) (l : Nat) : gD f l l = 0 := by
  cases l with
  | zero => rfl
  | succ l => exact if_neg (by omega)
def pB (b : Bh) (S : Nat → Nat → Int) (P : List (Int × Int)) (κ : Hr → Int) (h : Nat) : Int := (kV b S P κ h).foldl min ((kV b S P κ h).getD 0 0)
def oV (b : Bh) (S : Nat → Nat → Int) (P : List (Int × Int)) (κ : Hr → Int) (h : Nat) : Int := (kV b S P κ h).foldl max ((kV b S P κ h).getD 0 0)
def GZ (b : Bh) (S : Nat → Nat → Int) (kf : Pos) (P : List (Int × Int)) (l : Nat) (hi a5 b5 : Int) (h : Nat) (A : List Int) (j : Nat) : X := ⟨(.n (.n (.n (.n .e (some (.pt (.i (.o .h)) 0 0)) .e) (some (.pt .h 0 0)) (.n .e none (.n .e (some (.lst 1 (ints (aH b h)))) .e))) none (.n (.n .e (some (Aw (.o (.o (.o .h))) 1 A)) .e) (some (.pt (.i .h) 0 0)) (.n .e none (.n .e (some (.i .i64 (j : Int))) .e)))) none (.n (.n (.n .e (some (.i .i64 (h : Int))) .e) (some (.pt (.o .h) 0 0)) (.n .e none (.n .e (some (.i .i64 ((ints (aH b h)).length : Int))) .e))) none (.n .e (some (.pt (.o (.o .h)) 0 0)) .e))), (.n (.n (.n (.n .e (Bv jT A) .e) (some (fP 0 0)) .e) (some (qQ S)) .e) (some (fZ b)) (.n (.n .e (some (fP a5 b5)) .e) (some (oT kf P l hi)) .e)), iI (.o (.i .h)) (.i (.o (.o .h))) A, none⟩
def Hy (b : Bh) (S : Nat → Nat → Int) (kf : Pos) (P : List (Int × Int)) (l : Nat) (hi a5 b5 : Int) (h : Nat) (j : Nat) (d : Int) (x : Hr) (k : Nat) : X := ⟨(.n (.n (.n (.n .e (some (.pt (.i (.o .h)) 0 0)) .e) (some (.pt .h 0 0)) (.n (.n (.n .e (some (.i .i64 ((aD bD P).length : Int))) .e) none .e) (some (.i .i64 d)) (.n .e (some (.lst 1 (ints (aH b h)))) .e))) none (.n (.n .e (some (.ns)) .e) (some (.pt (.i .h) 0 0)) (.n .e none (.n .e (some (.i .i64 (j : Int))) .e)))) none (.n (.n (.n .e (some (.i .i64 (h : Int))) .e) (some (.pt (.o .h) 0 0)) (.n (.n (.n .e (some (.i .i64 (k : Int))) .e) none .e) (some (.pt (.o (.i .h)) 0 0)) (.n .e (some (.i .i64 ((ints (aH b h)).length : Int))) .e))) none (.n (.n (.n (.n .e (some (.lst 2 (aD bD P))) .e) none .e) none .e) (some (.pt (.o (.o .h)) 0 0)) .e))), (.n (.n (.n .e (some (fP 0 0)) .e) (some (qQ S)) (.n .e (some (.cells false [.o (.i .i64 x.sun) 0, .o (.i .i64 x.calm) 0, .o (.i .i64 x.good) 0] 1)) .e)) (some (fZ b)) (.n (.n .e (some (fP a5 b5)) .e) (some (oT kf P l hi)) .e)), (.i (.i .h)), none⟩
def Hz (b : Bh) (S : Nat → Nat → Int) (kf : Pos) (P : List (Int × Int)) (l : Nat) (hi a5 b5 : Int) (h : Nat) (a : Int) (s : List Int) (j : Nat) (d : Int) (x : Hr) (k : Nat) : X := ⟨(.n (.n (.n (.n .e (some (.pt (.i (.o .h)) 0 0)) .e) (some (.pt .h 0 0)) (.n (.n (.n .e (some (.i .i64 ((aD bD P).length : Int))) .e) none .e) (some (.i .i64 d)) (.n .e (some (.lst 1 (ints (aH b h)))) .e))) none (.n (.n .e (some (.sl (.o (.o (.o .h))) 0 (s.length + 1) s.length 1)) .e) (some (.pt (.i .h) 0 0)) (.n .e none (.n .e (some (.i .i64 (j : Int))) .e)))) none (.n (.n (.n .e (some (.i .i64 (h : Int))) .e) (some (.pt (.o .h) 0 0)) (.n (.n (.n .e (some (.i .i64 (k : Int))) .e) none .e) (some (.pt (.i (.o (.o .h))) 0 0)) (.n .e (some (.i .i64 ((ints (aH b h)).length : Int))) .e))) none (.n (.n (.n (.n .e (some (.lst 2 (aD bD P))) .e) none .e) none .e) (some (.pt (.o (.o .h)) 0 0)) .e))), (.n (.n (.n (.n .e (some (.cells false ((aD jT (a :: s)).flatten.map fun d => Cell.o d s.length) (s.length + 1))) .e) (some (fP 0 0)) .e) (some (qQ S)) .e) (some (fZ b)) (.n (.n (.n .e (some (.cells false [.o (.i .i64 x.sun) 0, .o (.i .i64 x.calm) 0, .o (.i .i64 x.good) 0] 1)) .e) (some (fP a5 b5)) .e) (some (oT kf P l hi)) .e)), (.o (.i (.o .h))), none⟩
def Oi (b : Bh) (S : Nat → Nat → Int) (kf : Pos) (P : List (Int × Int)) (l : Nat) (hi a5 b5 : Int) (h : Nat) : X := ⟨(.n (.n (.n (.n .e (some (.pt (.i (.o .h)) 0 0)) .e) (some (.pt .h 0 0)) .e) none (.n .e (some (.pt (.i .h) 0 0)) .e)) none (.n (.n (.n .e (some (.i .i64 (h : Int))) .e) (some (.pt (.o .h) 0 0)) .e) none (.n .e (some (.pt (.o (.o .h)) 0 0)) .e))), (.n (.n (.n .e (some (fP 0 0)) .e) (some (qQ S)) .e) (some (fZ b)) (.n (.n .e (some (fP a5 b5)) .e) (some (oT kf P l hi)) .e)), .o (.i .h), none⟩
def Ok (b : Bh) (S : Nat → Nat → Int) (kf : Pos) (P : List (Int × Int)) (l : Nat) (hi a5 b5 : Int) (h : Nat) (L : List Int) : X := ⟨(.n (.n (.n (.n .e (some (.pt (.i (.o .h)) 0 0)) .e) (some (.pt .h 0 0)) .e) none (.n (.n .e (some (.lst 1 (ints L))) .e) (some (.pt (.i .h) 0 0)) .e)) none (.n (.n (.n .e (some (.i .i64 (h : Int))) .e) (some (.pt (.o .h) 0 0)) .e) none (.n .e (some (.pt (.o (.o .h)) 0 0)) .e))), (.n (.n (.n .e (some (fP 0 0)) .e) (some (qQ S)) .e) (some (fZ b)) (.n (.n .e (some (fP a5 b5)) .e) (some (oT kf P l hi)) .e)), .o (.i .h), none⟩
set_option maxHeartbeats 16000000 in
theorem CA (b : Bh) (V : VW b) (S : Nat → Nat → Int) (kf : Pos) (κ : Hr → Int) (hk0 : ∀ x, PureF Tryz.prog kf.ix [.ag (tO x)] (.i .i64 (κ x))) (P : List (Int × Int)) (hP : ∀ p ∈ P, dN b p = true) (l4 : b.brk.length ≤ 1000) (hPl : P.length ≤ 50) (l m : Nat) (hi : Int) (hhi : hi = ((l + m : Nat) : Int) - 1) (hm : l + m ≤ (b.last + 1).toNat) (l6 : ∀ w ∈ b.winds, w.length ≤ 1000) (l5 : b.nts.length ≤ 1000)
    (hne : ∀ h, h < (b.last + 1).toNat → aH b h ≠ []) (hmn : ∀ h, h ≤ (b.last + 1).toNat → -100000 ≤ gD (pB b S P κ) l h ∧ gD (pB b S P κ) l h ≤ 100000) (hmx : ∀ h, h ≤ (b.last + 1).toNat → -100000 ≤ gD (oV b S P κ) l h ∧ gD (oV b S P κ) l h ≤ 100000) : PureF Tryz.prog p102.ix [.ag (eF b), .ag (kK S), .ag (BO kf P l hi)] (.ag [.i .i64 (gD (pB b S P κ) l (l + m)), .i .i64 (gD (oV b S P κ) l (l + m))]) := by
  have q1 := V.last
  have q2 := V.winl
  have q3 := V.sunl
  have e1 := aM bD P
  refine PureF.run JE (by simp) (by simp [aQ, Pu, aS, fY, Ib]) ?_; conv => whnf
  repeat' first | ((first | refine Qz ?_ | refine Qy ?_) <;> conv => whnf) | (refine WB.tt ?_; conv => whnf) | (refine WB.ff ?_; conv => whnf)
  refine Rn.loop (fun h : Nat => Oi b S kf P l hi (gD (pB b S P κ) l h) (gD (oV b S P κ) l h) h) (fun h => l ≤ h ∧ h ≤ l + m) (fun h => l + m - h) l ?_ ⟨Nat.le_refl _, by omega⟩ ?_
  · rw [wJ, wJ]
    refine X.le.mk ?_ ?_ (Nat.le_refl _) rfl rfl
    · show T.le ((.n (.n (.n (.n .e (some (.pt (.i (.o .h)) 0 0)) .e) (some (.pt .h 0 0)) .e) none (.n .e (some (.pt (.i .h) 0 0)) .e)) none (.n (.n (.n .e (some (.i .i64 (l : Int))) .e) (some (.pt (.o .h) 0 0)) .e) none (.n .e (some (.pt (.o (.o .h)) 0 0)) .e))) : Ev.T D) _
      (repeat' first | exact T.le_e _ | refine T.le_some ?_ rfl ?_ | refine T.le_none ?_ ?_ | refine T.le_ee ?_ ?_)
    · show T.le ((.n (.n (.n .e (some (fP 0 0)) .e) (some (qQ S)) .e) (some (fZ b)) (.n (.n .e (some (fP 0 0)) .e) (some (oT kf P l hi)) .e)) : Ev.T Ev.C) _
      (repeat' first | exact T.le_e _ | refine T.le_some ?_ rfl ?_ | refine T.le_none ?_ ?_ | refine T.le_ee ?_ ?_)
  rintro h ⟨hl, hh⟩
  have hb5 := hmn h (by omega)
  have hb6 := hmx h (by omega)
  have hn5 : gD (pB b S P κ) l (h + 1) = gD (pB b S P κ) l h + pB b S P κ h := if_pos hl
  have hn6 : gD (oV b S P κ) l (h + 1) = gD (oV b S P κ) l h + oV b S P κ h := if_pos hl
  have hz5 : h = l + m → gD (pB b S P κ) l (l + m) = gD (pB b S P κ) l h := fun e => by rw [e]
  have hz6 : h = l + m → gD (oV b S P κ) l (l + m) = gD (oV b S P κ) l h := fun e => by rw [e]
  have hc5 : h < l + m → -100000 ≤ gD (pB b S P κ) l (h + 1) ∧ gD (pB b S P κ) l (h + 1) ≤ 100000 := fun k => hmn (h + 1) (by omega)
  have hc6 : h < l + m → -100000 ≤ gD (oV b S P κ) l (h + 1) ∧ gD (oV b S P κ) l (h + 1) ≤ 100000 := fun k => hmx (h + 1) (by omega)
  rw [hn5] at hc5
  rw [hn6] at hc6
  generalize hA5 : gD (pB b S P κ) l h = a5 at *
  generalize hA6 : gD (oV b S P κ) l h = b5 at *
  conv => whnf
  repeat' first | ((first | refine Qz ?_ | refine Qy ?_) <;> conv => whnf) | (refine WB.tt ?_; conv => whnf) | (refine WB.ff ?_; conv => whnf)
  refine WB.dec (fun hd => ?_) (fun hd => ?_) <;> conv => whnf
  · have hlt : h < l + m := by omega
    have hlb : h < (b.last + 1).toNat := by omega
    have hc5 := hc5 hlt
    have hc6 := hc6 hlt
    have cW := Ar b V h (by omega) (l6 _ (aL (by omega))) l5
    have eW := aO (aH b h)
    have hWn := hne h hlb
    have hWl : (aH b h).length ≤ 1000 := Nat.le_trans (List.length_filter_le _ _) (by
      have := l6 (b.winds.getD h default) (aL (by omega)); exact this)
    have hWd : ∀ j, j < (aH b h).length → 0 ≤ (aH b h).getD j 0 ∧ (aH b h).getD j 0 ≤ 3 := fun j hj => by
      have hm1 := (fX.1 (aL (d := 0) hj)).1
      have h4 := (iN.1 (List.all_eq_true.1 V.wins _ (aL (d := default) (show h < b.winds.length by omega)))).2.2
      exact bJ (List.all_eq_true.1 h4 _ hm1)
    refine Rn.skip ?_; conv => whnf
    refine Rn.seq ?_; conv => whnf
    refine Rn.blk ?_; conv => whnf
    refine Rn.seqB ?_; conv => whnf
    refine Rn.reg ?_; conv => whnf
    repeat' first | ((first | refine Qz ?_ | refine Qf (cW) ?_ | refine Qy ?_) <;> conv => whnf) | (refine WB.tt ?_; conv => whnf) | (refine WB.ff ?_; conv => whnf)
    refine Rn.loop (fun j : Nat => GZ b S kf P l hi a5 b5 h (((aH b h).take j).map (kq b S P κ h)) j) (fun j => j ≤ (aH b h).length ∧ True) (fun j => (aH b h).length - j) 0 ?_ ?_ ?_
    · refine X.le.mk ?_ ?_ (Nat.le_refl _) rfl rfl
      · show T.le ((.n (.n (.n (.n .e (some (.pt (.i (.o .h)) 0 0)) .e) (some (.pt .h 0 0)) (.n .e none (.n .e (some (.lst 1 (ints (aH b h)))) .e))) none (.n (.n .e (some (.ns)) .e) (some (.pt (.i .h) 0 0)) (.n .e none (.n .e (some (.i .i64 0)) .e)))) none (.n (.n (.n .e (some (.i .i64 (h : Int))) .e) (some (.pt (.o .h) 0 0)) (.n .e none (.n .e (some (.i .i64 ((ints (aH b h)).length : Int))) .e))) none (.n .e (some (.pt (.o (.o .h)) 0 0)) .e))) : Ev.T D) _
        skip
        (repeat' first | exact T.le_e _ | refine T.le_some ?_ rfl ?_ | refine T.le_none ?_ ?_ | refine T.le_ee ?_ ?_)
      · show T.le ((.n (.n (.n (.n .e none .e) (some (fP 0 0)) .e) (some (qQ S)) .e) (some (fZ b)) (.n (.n .e (some (fP a5 b5)) .e) (some (oT kf P l hi)) .e)) : Ev.T Ev.C) _
        (repeat' first | exact T.le_e _ | refine T.le_some ?_ rfl ?_ | refine T.le_none ?_ ?_ | refine T.le_ee ?_ ?_)
    · exact ⟨Nat.zero_le _, trivial⟩
    rintro j ⟨hj, _⟩
    have hsc : j < (aH b h).length → ((aH b h).take (j + 1)).map (kq b S P κ h) = ((aH b h).take j).map (kq b S P κ h) ++ [kq b S P κ h ((aH b h).getD j 0)] := fun h' => by rw [eC (d := 0) h', List.map_append]; rfl
    have hAl : (((aH b h).take j).map (kq b S P κ h)).length ≤ j := by rw [List.length_map, List.length_take]; omega
    have hend : j = (aH b h).length → ((aH b h).take j).map (kq b S P κ h) = kV b S P κ h := fun h' => by rw [List.take_of_length_le (by omega)]; rfl
    generalize hA : ((aH b h).take j).map (kq b S P κ h) = A at *
    conv => whnf
    repeat' first | ((first | refine Qz ?_ | refine Qy ?_) <;> conv => whnf) | (refine WB.tt ?_; conv => whnf) | (refine WB.ff ?_; conv => whnf)
    refine WB.dec (fun hd2 => ?_) (fun hd2 => ?_) <;> conv => whnf
    · have hlt2 : j < (aH b h).length := by omega
      have hsc := hsc hlt2
      have hdk := hWd j hlt2
      cases A with
      | nil =>
        repeat' first | ((first | refine Qz ?_ | refine Qy ?_) <;> conv => whnf) | (refine WB.tt ?_; conv => whnf) | (refine WB.ff ?_; conv => whnf)
        refine Rn.loop (fun k : Nat => Hy b S kf P l hi a5 b5 h j ((aH b h).getD j 0) (qN b S P h ((aH b h).getD j 0) k) k) (fun k => k ≤ P.length) (fun k => P.length - k) 0 ?_ (Nat.zero_le _) ?_
        · refine X.le.mk ?_ ?_ (Nat.le_refl _) rfl rfl
          · show T.le ((.n (.n (.n (.n .e (some (.pt (.i (.o .h)) 0 0)) .e) (some (.pt .h 0 0)) (.n (.n (.n .e (some (.i .i64 ((aD bD P).length : Int))) .e) none .e) (some (.i .i64 ((aH b h).getD j 0))) (.n .e (some (.lst 1 (ints (aH b h)))) .e))) none (.n (.n .e (some (.ns)) .e) (some (.pt (.i .h) 0 0)) (.n .e none (.n .e (some (.i .i64 (j : Int))) .e)))) none (.n (.n (.n .e (some (.i .i64 (h : Int))) .e) (some (.pt (.o .h) 0 0)) (.n (.n (.n .e (some (.i .i64 0)) .e) none .e) (some (.pt (.o (.i .h)) 0 0)) (.n .e (some (.i .i64 ((ints (aH b h)).length : Int))) .e))) none (.n (.n (.n (.n .e (some (.lst 2 (aD bD P))) .e) none .e) none .e) (some (.pt (.o (.o .h)) 0 0)) .e))) : Ev.T D) _
            (repeat' first | exact T.le_e _ | refine T.le_some ?_ rfl ?_ | refine T.le_none ?_ ?_ | refine T.le_ee ?_ ?_)
          · show T.le ((.n (.n (.n .e (some (fP 0 0)) .e) (some (qQ S)) (.n .e (some (.cells false [.o (.i .i64 0) 0, .o (.i .i64 0) 0, .o (.i .i64 0) 0] 1)) .e)) (some (fZ b)) (.n (.n .e (some (fP a5 b5)) .e) (some (oT kf P l hi)) .e)) : Ev.T Ev.C) _
            (repeat' first | exact T.le_e _ | refine T.le_some ?_ rfl ?_ | refine T.le_none ?_ ?_ | refine T.le_ee ?_ ?_)
        intro k hk
        have hk : k ≤ P.length := hk
        have hbd := zV b S P h ((aH b h).getD j 0) k
        have hN : qN b S P h ((aH b h).getD j 0) (k + 1) = EL (qN b S P h ((aH b h).getD j 0) k) (tP b (P.getD k default) (S h (P.getD k default).1.toNat) h ((aH b h).getD j 0)) := rfl
        generalize hX : qN b S P h ((aH b h).getD j 0) k = x at *
        conv => whnf
        repeat' first | ((first | refine Qz ?_ | refine Qy ?_) <;> conv => whnf) | (refine WB.tt ?_; conv => whnf) | (refine WB.ff ?_; conv => whnf)
        refine WB.dec (fun hd3 => ?_) (fun hd3 => ?_) <;> conv => whnf
        · have hk2 : k < P.length := by omega
          have hsp := hP _ (aL (d := default) hk2)
          have cH := Au b V (P.getD k default) hsp (S h) h (by omega) ((aH b h).getD j 0) hdk l4
          have bd2 := xG b (P.getD k default) (S h (P.getD k default).1.toNat) h ((aH b h).getD j 0)
          have cP := Ds x (tP b (P.getD k default) (S h (P.getD k default).1.toNat) h ((aH b h).getD j 0)) (by omega) (by omega)
          generalize EL x (tP b (P.getD k default) (S h (P.getD k default).1.toNat) h ((aH b h).getD j 0)) = y at *
          rcases sI (show h < 5 by omega) with rfl | rfl | rfl | rfl | rfl
          · repeat' first | ((first | refine Qz ?_ | refine Qy ?_) <;> conv => whnf) | (refine WB.tt ?_; conv => whnf) | (refine WB.ff ?_; conv => whnf)
            refine WSt.ixaN (m := 0) rfl rfl rfl (by decide) ?_; conv => whnf
            repeat' first | ((first | refine Qz ?_ | refine Qf (cH) ?_ | refine Qf (cP) ?_ | refine Qy ?_) <;> conv => whnf) | (refine WB.tt ?_; conv => whnf) | (refine WB.ff ?_; conv => whnf)
            refine Again.to (k + 1) (by omega) (show k + 1 ≤ P.length by omega) (Nat.le_refl _) ?_
            show Shr _ (Hy b S kf P l hi a5 b5 0 j ((aH b 0).getD j 0) (qN b S P 0 ((aH b 0).getD j 0) (k + 1)) (k + 1))
            rw [hN]
            refine Shr.of ?_ ?_ rfl rfl
            · show Rel _ _ ((.n (.n (.n (.n .e (some (.pt (.i (.o .h)) 0 0)) .e) (some (.pt .h 0 0)) (.n (.n (.n .e (some (.i .i64 ((aD bD P).length : Int))) .e) none .e) (some (.i .i64 ((aH b 0).getD j 0))) (.n .e (some (.lst 1 (ints (aH b 0)))) .e))) none (.n (.n .e (some (.ns)) .e) (some (.pt (.i .h) 0 0)) (.n .e none (.n .e (some (.i .i64 (j : Int))) .e)))) none (.n (.n (.n .e (some (.i .i64 ((0 : Nat) : Int))) .e) (some (.pt (.o .h) 0 0)) (.n (.n (.n .e (some (.i .i64 ((k + 1 : Nat) : Int))) .e) none .e) (some (.pt (.o (.i .h)) 0 0)) (.n .e (some (.i .i64 ((ints (aH b 0)).length : Int))) .e))) none (.n (.n (.n (.n .e (some (.lst 2 (aD bD P))) .e) none .e) none .e) (some (.pt (.o (.o .h)) 0 0)) .e))) : T D) _
              (repeat' first | exact Rel.e | refine Rel.some ?_ ?_ ?_ | refine Rel.none ?_ ?_ | refine Rel.ee ?_ ?_)
              all_goals show Fz _ _ _ _
              all_goals first | exact .pu trivial | exact .kpt (show _ < 7 by simp [Pos.nat]) | exact .ksl (show _ < 7 by simp [Pos.nat]) | exact .pu (aC _) | exact .pu (aG _)
            · show Rel _ _ ((.n (.n (.n .e (some (fP 0 0)) .e) (some (qQ S)) (.n .e (some (.cells false [.o (.i .i64 y.sun) 0, .o (.i .i64 y.calm) 0, .o (.i .i64 y.good) 0] 1)) .e)) (some (fZ b)) (.n (.n .e (some (fP a5 b5)) .e) (some (oT kf P l hi)) .e)) : T C) _
              (repeat' first | exact Rel.e | refine Rel.some ?_ ?_ ?_ | refine Rel.none ?_ ?_ | refine Rel.ee ?_ ?_)
              all_goals first
                | exact RO'.of (show _ < 7 by simp [Pos.nat]) kT
                | exact RO'.of (show _ < 7 by simp [Pos.nat]) (aV b)
                | exact RO'.of (show _ < 7 by simp [Pos.nat]) (dU S)
                | exact RO'.of (show _ < 7 by simp [Pos.nat]) (gJ kf P l hi)
                | exact RO'.of (show _ < 7 by simp [Pos.nat]) gK
          · repeat' first | ((first | refine Qz ?_ | refine Qy ?_) <;> conv => whnf) | (refine WB.tt ?_; conv => whnf) | (refine WB.ff ?_; conv => whnf)
            refine WSt.ixaN (m := 1) rfl rfl rfl (by decide) ?_; conv => whnf
            repeat' first | ((first | refine Qz ?_ | refine Qf (cH) ?_ | refine Qf (cP) ?_ | refine Qy ?_) <;> conv => whnf) | (refine WB.tt ?_; conv => whnf) | (refine WB.ff ?_; conv => whnf)
            refine Again.to (k + 1) (by omega) (show k + 1 ≤ P.length by omega) (Nat.le_refl _) ?_
            show Shr _ (Hy b S kf P l hi a5 b5 1 j ((aH b 1).getD j 0) (qN b S P 1 ((aH b 1).getD j 0) (k + 1)) (k + 1))
            rw [hN]
            refine Shr.of ?_ ?_ rfl rfl
            · show Rel _ _ ((.n (.n (.n (.n .e (some (.pt (.i (.o .h)) 0 0)) .e) (some (.pt .h 0 0)) (.n (.n (.n .e (some (.i .i64 ((aD bD P).length : Int))) .e) none .e) (some (.i .i64 ((aH b 1).getD j 0))) (.n .e (some (.lst 1 (ints (aH b 1)))) .e))) none (.n (.n .e (some (.ns)) .e) (some (.pt (.i .h) 0 0)) (.n .e none (.n .e (some (.i .i64 (j : Int))) .e)))) none (.n (.n (.n .e (some (.i .i64 ((1 : Nat) : Int))) .e) (some (.pt (.o .h) 0 0)) (.n (.n (.n .e (some (.i .i64 ((k + 1 : Nat) : Int))) .e) none .e) (some (.pt (.o (.i .h)) 0 0)) (.n .e (some (.i .i64 ((ints (aH b 1)).length : Int))) .e))) none (.n (.n (.n (.n .e (some (.lst 2 (aD bD P))) .e) none .e) none .e) (some (.pt (.o (.o .h)) 0 0)) .e))) : T D) _
              (repeat' first | exact Rel.e | refine Rel.some ?_ ?_ ?_ | refine Rel.none ?_ ?_ | refine Rel.ee ?_ ?_)
              all_goals show Fz _ _ _ _
              all_goals first | exact .pu trivial | exact .kpt (show _ < 7 by simp [Pos.nat]) | exact .ksl (show _ < 7 by simp [Pos.nat]) | exact .pu (aC _) | exact .pu (aG _)
            · show Rel _ _ ((.n (.n (.n .e (some (fP 0 0)) .e) (some (qQ S)) (.n .e (some (.cells false [.o (.i .i64 y.sun) 0, .o (.i .i64 y.calm) 0, .o (.i .i64 y.good) 0] 1)) .e)) (some (fZ b)) (.n (.n .e (some (fP a5 b5)) .e) (some (oT kf P l hi)) .e)) : T C) _
              (repeat' first | exact Rel.e | refine Rel.some ?_ ?_ ?_ | refine Rel.none ?_ ?_ | refine Rel.ee ?_ ?_)
              all_goals first
                | exact RO'.of (show _ < 7 by simp [Pos.nat]) kT
                | exact RO'.of (show _ < 7 by simp [Pos.nat]) (aV b)
                | exact RO'.of (show _ < 7 by simp [Pos.nat]) (dU S)
                | exact RO'.of (show _ < 7 by simp [Pos.nat]) (gJ kf P l hi)
                | exact RO'.of (show _ < 7 by simp [Pos.nat]) gK
          · repeat' first | ((first | refine Qz ?_ | refine Qy ?_) <;> conv => whnf) | (refine WB.tt ?_; conv => whnf) | (refine WB.ff ?_; conv => whnf)
            refine WSt.ixaN (m := 2) rfl rfl rfl (by decide) ?_; conv => whnf
            repeat' first | ((first | refine Qz ?_ | refine Qf (cH) ?_ | refine Qf (cP) ?_ | refine Qy ?_) <;> conv => whnf) | (refine WB.tt ?_; conv => whnf) | (refine WB.ff ?_; conv => whnf)
            refine Again.to (k + 1) (by omega) (show k + 1 ≤ P.length by omega) (Nat.le_refl _) ?_
            show Shr _ (Hy b S kf P l hi a5 b5 2 j ((aH b 2).getD j 0) (qN b S P 2 ((aH b 2).getD j 0) (k + 1)) (k + 1))
            rw [hN]
            refine Shr.of ?_ ?_ rfl rfl
            · show Rel _ _ ((.n (.n (.n (.n .e (some (.pt (.i (.o .h)) 0 0)) .e) (some (.pt .h 0 0)) (.n (.n (.n .e (some (.i .i64 ((aD bD P).length : Int))) .e) none .e) (some (.i .i64 ((aH b 2).getD j 0))) (.n .e (some (.lst 1 (ints (aH b 2)))) .e))) none (.n (.n .e (some (.ns)) .e) (some (.pt (.i .h) 0 0)) (.n .e none (.n .e (some (.i .i64 (j : Int))) .e)))) none (.n (.n (.n .e (some (.i .i64 ((2 : Nat) : Int))) .e) (some (.pt (.o .h) 0 0)) (.n (.n (.n .e (some (.i .i64 ((k + 1 : Nat) : Int))) .e) none .e) (some (.pt (.o (.i .h)) 0 0)) (.n .e (some (.i .i64 ((ints (aH b 2)).length : Int))) .e))) none (.n (.n (.n (.n .e (some (.lst 2 (aD bD P))) .e) none .e) none .e) (some (.pt (.o (.o .h)) 0 0)) .e))) : T D) _
              (repeat' first | exact Rel.e | refine Rel.some ?_ ?_ ?_ | refine Rel.none ?_ ?_ | refine Rel.ee ?_ ?_)
              all_goals show Fz _ _ _ _
              all_goals first | exact .pu trivial | exact .kpt (show _ < 7 by simp [Pos.nat]) | exact .ksl (show _ < 7 by simp [Pos.nat]) | exact .pu (aC _) | exact .pu (aG _)
            · show Rel _ _ ((.n (.n (.n .e (some (fP 0 0)) .e) (some (qQ S)) (.n .e (some (.cells false [.o (.i .i64 y.sun) 0, .o (.i .i64 y.calm) 0, .o (.i .i64 y.good) 0] 1)) .e)) (some (fZ b)) (.n (.n .e (some (fP a5 b5)) .e) (some (oT kf P l hi)) .e)) : T C) _
              (repeat' first | exact Rel.e | refine Rel.some ?_ ?_ ?_ | refine Rel.none ?_ ?_ | refine Rel.ee ?_ ?_)
              all_goals first
                | exact RO'.of (show _ < 7 by simp [Pos.nat]) kT
                | exact RO'.of (show _ < 7 by simp [Pos.nat]) (aV b)
                | exact RO'.of (show _ < 7 by simp [Pos.nat]) (dU S)
                | exact RO'.of (show _ < 7 by simp [Pos.nat]) (gJ kf P l hi)
                | exact RO'.of (show _ < 7 by simp [Pos.nat]) gK
          · repeat' first | ((first | refine Qz ?_ | refine Qy ?_) <;> conv => whnf) | (refine WB.tt ?_; conv => whnf) | (refine WB.ff ?_; conv => whnf)
            refine WSt.ixaN (m := 3) rfl rfl rfl (by decide) ?_; conv => whnf
            repeat' first | ((first | refine Qz ?_ | refine Qf (cH) ?_ | refine Qf (cP) ?_ | refine Qy ?_) <;> conv => whnf) | (refine WB.tt ?_; conv => whnf) | (refine WB.ff ?_; conv => whnf)
            refine Again.to (k + 1) (by omega) (show k + 1 ≤ P.length by omega) (Nat.le_refl _) ?_
            show Shr _ (Hy b S kf P l hi a5 b5 3 j ((aH b 3).getD j 0) (qN b S P 3 ((aH b 3).getD j 0) (k + 1)) (k + 1))
            rw [hN]
            refine Shr.of ?_ ?_ rfl rfl
            · show Rel _ _ ((.n (.n (.n (.n .e (some (.pt (.i (.o .h)) 0 0)) .e) (some (.pt .h 0 0)) (.n (.n (.n .e (some (.i .i64 ((aD bD P).length : Int))) .e) none .e) (some (.i .i64 ((aH b 3).getD j 0))) (.n .e (some (.lst 1 (ints (aH b 3)))) .e))) none (.n (.n .e (some (.ns)) .e) (some (.pt (.i .h) 0 0)) (.n .e none (.n .e (some (.i .i64 (j : Int))) .e)))) none (.n (.n (.n .e (some (.i .i64 ((3 : Nat) : Int))) .e) (some (.pt (.o .h) 0 0)) (.n (.n (.n .e (some (.i .i64 ((k + 1 : Nat) : Int))) .e) none .e) (some (.pt (.o (.i .h)) 0 0)) (.n .e (some (.i .i64 ((ints (aH b 3)).length : Int))) .e))) none (.n (.n (.n (.n .e (some (.lst 2 (aD bD P))) .e) none .e) none .e) (some (.pt (.o (.o .h)) 0 0)) .e))) : T D) _
              (repeat' first | exact Rel.e | refine Rel.some ?_ ?_ ?_ | refine Rel.none ?_ ?_ | refine Rel.ee ?_ ?_)
              all_goals show Fz _ _ _ _
              all_goals first | exact .pu trivial | exact .kpt (show _ < 7 by simp [Pos.nat]) | exact .ksl (show _ < 7 by simp [Pos.nat]) | exact .pu (aC _) | exact .pu (aG _)
            · show Rel _ _ ((.n (.n (.n .e (some (fP 0 0)) .e) (some (qQ S)) (.n .e (some (.cells false [.o (.i .i64 y.sun) 0, .o (.i .i64 y.calm) 0, .o (.i .i64 y.good) 0] 1)) .e)) (some (fZ b)) (.n (.n .e (some (fP a5 b5)) .e) (some (oT kf P l hi)) .e)) : T C) _
              (repeat' first | exact Rel.e | refine Rel.some ?_ ?_ ?_ | refine Rel.none ?_ ?_ | refine Rel.ee ?_ ?_)
              all_goals first
                | exact RO'.of (show _ < 7 by simp [Pos.nat]) kT
                | exact RO'.of (show _ < 7 by simp [Pos.nat]) (aV b)
                | exact RO'.of (show _ < 7 by simp [Pos.nat]) (dU S)
                | exact RO'.of (show _ < 7 by simp [Pos.nat]) (gJ kf P l hi)
                | exact RO'.of (show _ < 7 by simp [Pos.nat]) gK
          · repeat' first | ((first | refine Qz ?_ | refine Qy ?_) <;> conv => whnf) | (refine WB.tt ?_; conv => whnf) | (refine WB.ff ?_; conv => whnf)
            refine WSt.ixaN (m := 4) rfl rfl rfl (by decide) ?_; conv => whnf
            repeat' first | ((first | refine Qz ?_ | refine Qf (cH) ?_ | refine Qf (cP) ?_ | refine Qy ?_) <;> conv => whnf) | (refine WB.tt ?_; conv => whnf) | (refine WB.ff ?_; conv => whnf)
            refine Again.to (k + 1) (by omega) (show k + 1 ≤ P.length by omega) (Nat.le_refl _) ?_
            show Shr _ (Hy b S kf P l hi a5 b5 4 j ((aH b 4).getD j 0) (qN b S P 4 ((aH b 4).getD j 0) (k + 1)) (k + 1))
            rw [hN]
            refine Shr.of ?_ ?_ rfl rfl
            · show Rel _ _ ((.n (.n (.n (.n .e (some (.pt (.i (.o .h)) 0 0)) .e) (some (.pt .h 0 0)) (.n (.n (.n .e (some (.i .i64 ((aD bD P).length : Int))) .e) none .e) (some (.i .i64 ((aH b 4).getD j 0))) (.n .e (some (.lst 1 (ints (aH b 4)))) .e))) none (.n (.n .e (some (.ns)) .e) (some (.pt (.i .h) 0 0)) (.n .e none (.n .e (some (.i .i64 (j : Int))) .e)))) none (.n (.n (.n .e (some (.i .i64 ((4 : Nat) : Int))) .e) (some (.pt (.o .h) 0 0)) (.n (.n (.n .e (some (.i .i64 ((k + 1 : Nat) : Int))) .e) none .e) (some (.pt (.o (.i .h)) 0 0)) (.n .e (some (.i .i64 ((ints (aH b 4)).length : Int))) .e))) none (.n (.n (.n (.n .e (some (.lst 2 (aD bD P))) .e) none .e) none .e) (some (.pt (.o (.o .h)) 0 0)) .e))) : T D) _
              (repeat' first | exact Rel.e | refine Rel.some ?_ ?_ ?_ | refine Rel.none ?_ ?_ | refine Rel.ee ?_ ?_)
              all_goals show Fz _ _ _ _
              all_goals first | exact .pu trivial | exact .kpt (show _ < 7 by simp [Pos.nat]) | exact .ksl (show _ < 7 by simp [Pos.nat]) | exact .pu (aC _) | exact .pu (aG _)
            · show Rel _ _ ((.n (.n (.n .e (some (fP 0 0)) .e) (some (qQ S)) (.n .e (some (.cells false [.o (.i .i64 y.sun) 0, .o (.i .i64 y.calm) 0, .o (.i .i64 y.good) 0] 1)) .e)) (some (fZ b)) (.n (.n .e (some (fP a5 b5)) .e) (some (oT kf P l hi)) .e)) : T C) _
              (repeat' first | exact Rel.e | refine Rel.some ?_ ?_ ?_ | refine Rel.none ?_ ?_ | refine Rel.ee ?_ ?_)
              all_goals first
                | exact RO'.of (show _ < 7 by simp [Pos.nat]) kT
                | exact RO'.of (show _ < 7 by simp [Pos.nat]) (aV b)
                | exact RO'.of (show _ < 7 by simp [Pos.nat]) (dU S)
                | exact RO'.of (show _ < 7 by simp [Pos.nat]) (gJ kf P l hi)
                | exact RO'.of (show _ < 7 by simp [Pos.nat]) gK
        obtain rfl : k = P.length := by omega
        subst hX
        have cK := hk0 (qN b S P h ((aH b h).getD j 0) P.length)
        repeat' first | ((first | refine Qz ?_ | refine Qf (cK) ?_ | refine Qy ?_) <;> conv => whnf) | (refine WB.tt ?_; conv => whnf) | (refine WB.ff ?_; conv => whnf)
        refine WSt.app_first (r := jT (kq b S P κ h ((aH b h).getD j 0))) (by rfl) (.inl rfl) (by rfl) (by rfl) (by rfl) (by rfl) ?_; conv => whnf
        repeat' first | ((first | refine Qz ?_ | refine Qy ?_) <;> conv => whnf) | (refine WB.tt ?_; conv => whnf) | (refine WB.ff ?_; conv => whnf)
        refine Again.to (j + 1) (by omega) ⟨by omega, trivial⟩ (by show (iI (.o (.i .h)) (.i (.o (.o .h))) (((aH b h).take j).map (kq b S P κ h))).nat ≤ (iI (.o (.i .h)) (.i (.o (.o .h))) (((aH b h).take (j + 1)).map (kq b S P κ h))).nat; rw [hA, hsc]; exact (show 6 ≤ 9 by omega)) ?_
        show Shr _ (GZ b S kf P l hi a5 b5 h (((aH b h).take (j + 1)).map (kq b S P κ h)) (j + 1))
        rw [hsc]
        refine Shr.of ?_ ?_ rfl rfl
        · show Rel _ _ ((.n (.n (.n (.n .e (some (.pt (.i (.o .h)) 0 0)) .e) (some (.pt .h 0 0)) (.n .e none (.n .e (some (.lst 1 (ints (aH b h)))) .e))) none (.n (.n .e (some ((.sl (.o (.o (.o .h))) 0 1 0 1))) .e) (some (.pt (.i .h) 0 0)) (.n .e none (.n .e (some (.i .i64 ((j + 1 : Nat) : Int))) .e)))) none (.n (.n (.n .e (some (.i .i64 (h : Int))) .e) (some (.pt (.o .h) 0 0)) (.n .e none (.n .e (some (.i .i64 ((ints (aH b h)).length : Int))) .e))) none (.n .e (some (.pt (.o (.o .h)) 0 0)) .e))) : Ev.T D) _
          skip
          (repeat' first | exact Rel.e | refine Rel.some ?_ ?_ ?_ | refine Rel.none ?_ ?_ | refine Rel.ee ?_ ?_)
          all_goals show Fz _ _ _ _
          all_goals first | exact .pu trivial | exact .kpt (show _ < 9 by simp [Pos.nat]) | exact .ksl (show _ < 9 by simp [Pos.nat]) | exact .kmp (show _ < 9 by simp [Pos.nat]) | exact .pu (aC _) | exact .pu (aG _)
        · show Rel _ _ ((.n (.n (.n (.n .e (some (.cells false ((jT (kq b S P κ h ((aH b h).getD j 0))).map fun d => Cell.o d 0) 1)) .e) (some (fP 0 0)) .e) (some (qQ S)) .e) (some (fZ b)) (.n (.n .e (some (fP a5 b5)) .e) (some (oT kf P l hi)) .e)) : Ev.T Ev.C) _
          skip
          (repeat' first | exact Rel.e | refine Rel.some ?_ ?_ ?_ | refine Rel.none ?_ ?_ | refine Rel.ee ?_ ?_)
          all_goals first
            | exact RO'.of (show _ < 9 by simp [Pos.nat]) (aV b)
            | exact RO'.of (show _ < 9 by simp [Pos.nat]) (dU S)
            | exact RO'.of (show _ < 9 by simp [Pos.nat]) (gJ kf P l hi)
            | exact RO'.of (show _ < 9 by simp [Pos.nat]) gK
            | (refine RO'.of (show _ < 9 by simp [Pos.nat]) (ShC.same fun c hc => ?_); obtain ⟨d, hd, rfl⟩ := List.mem_map.1 hc; exact .pu (aU.1 (mW _) d hd))
      | cons a s =>
        have hs5 : s.length + 1 ≤ 1000 := Nat.le_trans hAl (by omega)
        repeat' first | ((first | refine Qz ?_ | refine Qy ?_) <;> conv => whnf) | (refine WB.tt ?_; conv => whnf) | (refine WB.ff ?_; conv => whnf)
        refine Rn.loop (fun k : Nat => Hz b S kf P l hi a5 b5 h a s j ((aH b h).getD j 0) (qN b S P h ((aH b h).getD j 0) k) k) (fun k => k ≤ P.length) (fun k => P.length - k) 0 ?_ (Nat.zero_le _) ?_
        · refine X.le.mk ?_ ?_ (Nat.le_refl _) rfl rfl
          · show T.le ((.n (.n (.n (.n .e (some (.pt (.i (.o .h)) 0 0)) .e) (some (.pt .h 0 0)) (.n (.n (.n .e (some (.i .i64 ((aD bD P).length : Int))) .e) none .e) (some (.i .i64 ((aH b h).getD j 0))) (.n .e (some (.lst 1 (ints (aH b h)))) .e))) none (.n (.n .e (some (.sl (.o (.o (.o .h))) 0 (s.length + 1) s.length 1)) .e) (some (.pt (.i .h) 0 0)) (.n .e none (.n .e (some (.i .i64 (j : Int))) .e)))) none (.n (.n (.n .e (some (.i .i64 (h : Int))) .e) (some (.pt (.o .h) 0 0)) (.n (.n (.n .e (some (.i .i64 0)) .e) none .e) (some (.pt (.i (.o (.o .h))) 0 0)) (.n .e (some (.i .i64 ((ints (aH b h)).length : Int))) .e))) none (.n (.n (.n (.n .e (some (.lst 2 (aD bD P))) .e) none .e) none .e) (some (.pt (.o (.o .h)) 0 0)) .e))) : Ev.T D) _
            (repeat' first | exact T.le_e _ | refine T.le_some ?_ rfl ?_ | refine T.le_none ?_ ?_ | refine T.le_ee ?_ ?_)
          · show T.le ((.n (.n (.n (.n .e (some (.cells false ((aD jT (a :: s)).flatten.map fun d => Cell.o d s.length) (s.length + 1))) .e) (some (fP 0 0)) .e) (some (qQ S)) .e) (some (fZ b)) (.n (.n (.n .e (some (.cells false [.o (.i .i64 0) 0, .o (.i .i64 0) 0, .o (.i .i64 0) 0] 1)) .e) (some (fP a5 b5)) .e) (some (oT kf P l hi)) .e)) : Ev.T Ev.C) _
            (repeat' first | exact T.le_e _ | refine T.le_some ?_ rfl ?_ | refine T.le_none ?_ ?_ | refine T.le_ee ?_ ?_)
        intro k hk
        have hk : k ≤ P.length := hk
        have hbd := zV b S P h ((aH b h).getD j 0) k
        have hN : qN b S P h ((aH b h).getD j 0) (k + 1) = EL (qN b S P h ((aH b h).getD j 0) k) (tP b (P.getD k default) (S h (P.getD k default).1.toNat) h ((aH b h).getD j 0)) := rfl
        generalize hX : qN b S P h ((aH b h).getD j 0) k = x at *
        conv => whnf
        repeat' first | ((first | refine Qz ?_ | refine Qy ?_) <;> conv => whnf) | (refine WB.tt ?_; conv => whnf) | (refine WB.ff ?_; conv => whnf)
        refine WB.dec (fun hd3 => ?_) (fun hd3 => ?_) <;> conv => whnf
        · have hk2 : k < P.length := by omega
          have hsp := hP _ (aL (d := default) hk2)
          have cH := Au b V (P.getD k default) hsp (S h) h (by omega) ((aH b h).getD j 0) hdk l4
          have bd2 := xG b (P.getD k default) (S h (P.getD k default).1.toNat) h ((aH b h).getD j 0)
          have cP := Ds x (tP b (P.getD k default) (S h (P.getD k default).1.toNat) h ((aH b h).getD j 0)) (by omega) (by omega)
          generalize EL x (tP b (P.getD k default) (S h (P.getD k default).1.toNat) h ((aH b h).getD j 0)) = y at *
          rcases sI (show h < 5 by omega) with rfl | rfl | rfl | rfl | rfl
          · repeat' first | ((first | refine Qz ?_ | refine Qy ?_) <;> conv => whnf) | (refine WB.tt ?_; conv => whnf) | (refine WB.ff ?_; conv => whnf)
            refine WSt.ixaN (m := 0) rfl rfl rfl (by decide) ?_; conv => whnf
            repeat' first | ((first | refine Qz ?_ | refine Qf (cH) ?_ | refine Qf (cP) ?_ | refine Qy ?_) <;> conv => whnf) | (refine WB.tt ?_; conv => whnf) | (refine WB.ff ?_; conv => whnf)
            refine Again.to (k + 1) (by omega) (show k + 1 ≤ P.length by omega) (Nat.le_refl _) ?_
            show Shr _ (Hz b S kf P l hi a5 b5 0 a s j ((aH b 0).getD j 0) (qN b S P 0 ((aH b 0).getD j 0) (k + 1)) (k + 1))
            rw [hN]
            refine Shr.of ?_ ?_ rfl rfl
            · show Rel _ _ ((.n (.n (.n (.n .e (some (.pt (.i (.o .h)) 0 0)) .e) (some (.pt .h 0 0)) (.n (.n (.n .e (some (.i .i64 ((aD bD P).length : Int))) .e) none .e) (some (.i .i64 ((aH b 0).getD j 0))) (.n .e (some (.lst 1 (ints (aH b 0)))) .e))) none (.n (.n .e (some (.sl (.o (.o (.o .h))) 0 (s.length + 1) s.length 1)) .e) (some (.pt (.i .h) 0 0)) (.n .e none (.n .e (some (.i .i64 (j : Int))) .e)))) none (.n (.n (.n .e (some (.i .i64 ((0 : Nat) : Int))) .e) (some (.pt (.o .h) 0 0)) (.n (.n (.n .e (some (.i .i64 ((k + 1 : Nat) : Int))) .e) none .e) (some (.pt (.i (.o (.o .h))) 0 0)) (.n .e (some (.i .i64 ((ints (aH b 0)).length : Int))) .e))) none (.n (.n (.n (.n .e (some (.lst 2 (aD bD P))) .e) none .e) none .e) (some (.pt (.o (.o .h)) 0 0)) .e))) : T D) _
              (repeat' first | exact Rel.e | refine Rel.some ?_ ?_ ?_ | refine Rel.none ?_ ?_ | refine Rel.ee ?_ ?_)
              all_goals show Fz _ _ _ _
              all_goals first | exact .pu trivial | exact .kpt (show _ < 10 by simp [Pos.nat]) | exact .ksl (show _ < 10 by simp [Pos.nat]) | exact .pu (aC _) | exact .pu (aG _)
            · show Rel _ _ ((.n (.n (.n (.n .e (some (.cells false ((aD jT (a :: s)).flatten.map fun d => Cell.o d s.length) (s.length + 1))) .e) (some (fP 0 0)) .e) (some (qQ S)) .e) (some (fZ b)) (.n (.n (.n .e (some (.cells false [.o (.i .i64 y.sun) 0, .o (.i .i64 y.calm) 0, .o (.i .i64 y.good) 0] 1)) .e) (some (fP a5 b5)) .e) (some (oT kf P l hi)) .e)) : T C) _
              (repeat' first | exact Rel.e | refine Rel.some ?_ ?_ ?_ | refine Rel.none ?_ ?_ | refine Rel.ee ?_ ?_)
              all_goals first
                | exact RO'.of (show _ < 10 by simp [Pos.nat]) kT
                | exact RO'.of (show _ < 10 by simp [Pos.nat]) (aV b)
                | exact RO'.of (show _ < 10 by simp [Pos.nat]) (dU S)
                | exact RO'.of (show _ < 10 by simp [Pos.nat]) (gJ kf P l hi)
                | exact RO'.of (show _ < 10 by simp [Pos.nat]) gK
                | exact RO'.of (show _ < 10 by simp [Pos.nat]) (ShC.G mW a s)
          · repeat' first | ((first | refine Qz ?_ | refine Qy ?_) <;> conv => whnf) | (refine WB.tt ?_; conv => whnf) | (refine WB.ff ?_; conv => whnf)
            refine WSt.ixaN (m := 1) rfl rfl rfl (by decide) ?_; conv => whnf
            repeat' first | ((first | refine Qz ?_ | refine Qf (cH) ?_ | refine Qf (cP) ?_ | refine Qy ?_) <;> conv => whnf) | (refine WB.tt ?_; conv => whnf) | (refine WB.ff ?_; conv => whnf)
            refine Again.to (k + 1) (by omega) (show k + 1 ≤ P.length by omega) (Nat.le_refl _) ?_
            show Shr _ (Hz b S kf P l hi a5 b5 1 a s j ((aH b 1).getD j 0) (qN b S P 1 ((aH b 1).getD j 0) (k + 1)) (k + 1))
            rw [hN]
            refine Shr.of ?_ ?_ rfl rfl
            · show Rel _ _ ((.n (.n (.n (.n .e (some (.pt (.i (.o .h)) 0 0)) .e) (some (.pt .h 0 0)) (.n (.n (.n .e (some (.i .i64 ((aD bD P).length : Int))) .e) none .e) (some (.i .i64 ((aH b 1).getD j 0))) (.n .e (some (.lst 1 (ints (aH b 1)))) .e))) none (.n (.n .e (some (.sl (.o (.o (.o .h))) 0 (s.length + 1) s.length 1)) .e) (some (.pt (.i .h) 0 0)) (.n .e none (.n .e (some (.i .i64 (j : Int))) .e)))) none (.n (.n (.n .e (some (.i .i64 ((1 : Nat) : Int))) .e) (some (.pt (.o .h) 0 0)) (.n (.n (.n .e (some (.i .i64 ((k + 1 : Nat) : Int))) .e) none .e) (some (.pt (.i (.o (.o .h))) 0 0)) (.n .e (some (.i .i64 ((ints (aH b 1)).length : Int))) .e))) none (.n (.n (.n (.n .e (some (.lst 2 (aD bD P))) .e) none .e) none .e) (some (.pt (.o (.o .h)) 0 0)) .e))) : T D) _
              (repeat' first | exact Rel.e | refine Rel.some ?_ ?_ ?_ | refine Rel.none ?_ ?_ | refine Rel.ee ?_ ?_)
              all_goals show Fz _ _ _ _
              all_goals first | exact .pu trivial | exact .kpt (show _ < 10 by simp [Pos.nat]) | exact .ksl (show _ < 10 by simp [Pos.nat]) | exact .pu (aC _) | exact .pu (aG _)
            · show Rel _ _ ((.n (.n (.n (.n .e (some (.cells false ((aD jT (a :: s)).flatten.map fun d => Cell.o d s.length) (s.length + 1))) .e) (some (fP 0 0)) .e) (some (qQ S)) .e) (some (fZ b)) (.n (.n (.n .e (some (.cells false [.o (.i .i64 y.sun) 0, .o (.i .i64 y.calm) 0, .o (.i .i64 y.good) 0] 1)) .e) (some (fP a5 b5)) .e) (some (oT kf P l hi)) .e)) : T C) _
              (repeat' first | exact Rel.e | refine Rel.some ?_ ?_ ?_ | refine Rel.none ?_ ?_ | refine Rel.ee ?_ ?_)
              all_goals first
                | exact RO'.of (show _ < 10 by simp [Pos.nat]) kT
                | exact RO'.of (show _ < 10 by simp [Pos.nat]) (aV b)
                | exact RO'.of (show _ < 10 by simp [Pos.nat]) (dU S)
                | exact RO'.of (show _ < 10 by simp [Pos.nat]) (gJ kf P l hi)
                | exact RO'.of (show _ < 10 by simp [Pos.nat]) gK
                | exact RO'.of (show _ < 10 by simp [Pos.nat]) (ShC.G mW a s)
          · repeat' first | ((first | refine Qz ?_ | refine Qy ?_) <;> conv => whnf) | (refine WB.tt ?_; conv => whnf) | (refine WB.ff ?_; conv => whnf)
            refine WSt.ixaN (m := 2) rfl rfl rfl (by decide) ?_; conv => whnf
            repeat' first | ((first | refine Qz ?_ | refine Qf (cH) ?_ | refine Qf (cP) ?_ | refine Qy ?_) <;> conv => whnf) | (refine WB.tt ?_; conv => whnf) | (refine WB.ff ?_; conv => whnf)
            refine Again.to (k + 1) (by omega) (show k + 1 ≤ P.length by omega) (Nat.le_refl _) ?_
            show Shr _ (Hz b S kf P l hi a5 b5 2 a s j ((aH b 2).getD j 0) (qN b S P 2 ((aH b 2).getD j 0) (k + 1)) (k + 1))
            rw [hN]
            refine Shr.of ?_ ?_ rfl rfl
            · show Rel _ _ ((.n (.n (.n (.n .e (some (.pt (.i (.o .h)) 0 0)) .e) (some (.pt .h 0 0)) (.n (.n (.n .e (some (.i .i64 ((aD bD P).length : Int))) .e) none .e) (some (.i .i64 ((aH b 2).getD j 0))) (.n .e (some (.lst 1 (ints (aH b 2)))) .e))) none (.n (.n .e (some (.sl (.o (.o (.o .h))) 0 (s.length + 1) s.length 1)) .e) (some (.pt (.i .h) 0 0)) (.n .e none (.n .e (some (.i .i64 (j : Int))) .e)))) none (.n (.n (.n .e (some (.i .i64 ((2 : Nat) : Int))) .e) (some (.pt (.o .h) 0 0)) (.n (.n (.n .e (some (.i .i64 ((k + 1 : Nat) : Int))) .e) none .e) (some (.pt (.i (.o (.o .h))) 0 0)) (.n .e (some (.i .i64 ((ints (aH b 2)).length : Int))) .e))) none (.n (.n (.n (.n .e (some (.lst 2 (aD bD P))) .e) none .e) none .e) (some (.pt (.o (.o .h)) 0 0)) .e))) : T D) _
              (repeat' first | exact Rel.e | refine Rel.some ?_ ?_ ?_ | refine Rel.none ?_ ?_ | refine Rel.ee ?_ ?_)
              all_goals show Fz _ _ _ _
              all_goals first | exact .pu trivial | exact .kpt (show _ < 10 by simp [Pos.nat]) | exact .ksl (show _ < 10 by simp [Pos.nat]) | exact .pu (aC _) | exact .pu (aG _)
            · show Rel _ _ ((.n (.n (.n (.n .e (some (.cells false ((aD jT (a :: s)).flatten.map fun d => Cell.o d s.length) (s.length + 1))) .e) (some (fP 0 0)) .e) (some (qQ S)) .e) (some (fZ b)) (.n (.n (.n .e (some (.cells false [.o (.i .i64 y.sun) 0, .o (.i .i64 y.calm) 0, .o (.i .i64 y.good) 0] 1)) .e) (some (fP a5 b5)) .e) (some (oT kf P l hi)) .e)) : T C) _
              (repeat' first | exact Rel.e | refine Rel.some ?_ ?_ ?_ | refine Rel.none ?_ ?_ | refine Rel.ee ?_ ?_)
              all_goals first
                | exact RO'.of (show _ < 10 by simp [Pos.nat]) kT
                | exact RO'.of (show _ < 10 by simp [Pos.nat]) (aV b)
                | exact RO'.of (show _ < 10 by simp [Pos.nat]) (dU S)
                | exact RO'.of (show _ < 10 by simp [Pos.nat]) (gJ kf P l hi)
                | exact RO'.of (show _ < 10 by simp [Pos.nat]) gK
                | exact RO'.of (show _ < 10 by simp [Pos.nat]) (ShC.G mW a s)
          · repeat' first | ((first | refine Qz ?_ | refine Qy ?_) <;> conv => whnf) | (refine WB.tt ?_; conv => whnf) | (refine WB.ff ?_; conv => whnf)
            refine WSt.ixaN (m := 3) rfl rfl rfl (by decide) ?_; conv => whnf
            repeat' first | ((first | refine Qz ?_ | refine Qf (cH) ?_ | refine Qf (cP) ?_ | refine Qy ?_) <;> conv => whnf) | (refine WB.tt ?_; conv => whnf) | (refine WB.ff ?_; conv => whnf)
            refine Again.to (k + 1) (by omega) (show k + 1 ≤ P.length by omega) (Nat.le_refl _) ?_
            show Shr _ (Hz b S kf P l hi a5 b5 3 a s j ((aH b 3).getD j 0) (qN b S P 3 ((aH b 3).getD j 0) (k + 1)) (k + 1))
            rw [hN]
            refine Shr.of ?_ ?_ rfl rfl
            · show Rel _ _ ((.n (.n (.n (.n .e (some (.pt (.i (.o .h)) 0 0)) .e) (some (.pt .h 0 0)) (.n (.n (.n .e (some (.i .i64 ((aD bD P).length : Int))) .e) none .e) (some (.i .i64 ((aH b 3).getD j 0))) (.n .e (some (.lst 1 (ints (aH b 3)))) .e))) none (.n (.n .e (some (.sl (.o (.o (.o .h))) 0 (s.length + 1) s.length 1)) .e) (some (.pt (.i .h) 0 0)) (.n .e none (.n .e (some (.i .i64 (j : Int))) .e)))) none (.n (.n (.n .e (some (.i .i64 ((3 : Nat) : Int))) .e) (some (.pt (.o .h) 0 0)) (.n (.n (.n .e (some (.i .i64 ((k + 1 : Nat) : Int))) .e) none .e) (some (.pt (.i (.o (.o .h))) 0 0)) (.n .e (some (.i .i64 ((ints (aH b 3)).length : Int))) .e))) none (.n (.n (.n (.n .e (some (.lst 2 (aD bD P))) .e) none .e) none .e) (some (.pt (.o (.o .h)) 0 0)) .e))) : T D) _
              (repeat' first | exact Rel.e | refine Rel.some ?_ ?_ ?_ | refine Rel.none ?_ ?_ | refine Rel.ee ?_ ?_)
              all_goals show Fz _ _ _ _
              all_goals first | exact .pu trivial | exact .kpt (show _ < 10 by simp [Pos.nat]) | exact .ksl (show _ < 10 by simp [Pos.nat]) | exact .pu (aC _) | exact .pu (aG _)
            · show Rel _ _ ((.n (.n (.n (.n .e (some (.cells false ((aD jT (a :: s)).flatten.map fun d => Cell.o d s.length) (s.length + 1))) .e) (some (fP 0 0)) .e) (some (qQ S)) .e) (some (fZ b)) (.n (.n (.n .e (some (.cells false [.o (.i .i64 y.sun) 0, .o (.i .i64 y.calm) 0, .o (.i .i64 y.good) 0] 1)) .e) (some (fP a5 b5)) .e) (some (oT kf P l hi)) .e)) : T C) _
              (repeat' first | exact Rel.e | refine Rel.some ?_ ?_ ?_ | refine Rel.none ?_ ?_ | refine Rel.ee ?_ ?_)
              all_goals first
                | exact RO'.of (show _ < 10 by simp [Pos.nat]) kT
                | exact RO'.of (show _ < 10 by simp [Pos.nat]) (aV b)
                | exact RO'.of (show _ < 10 by simp [Pos.nat]) (dU S)
                | exact RO'.of (show _ < 10 by simp [Pos.nat]) (gJ kf P l hi)
                | exact RO'.of (show _ < 10 by simp [Pos.nat]) gK
                | exact RO'.of (show _ < 10 by simp [Pos.nat]) (ShC.G mW a s)
          · repeat' first | ((first | refine Qz ?_ | refine Qy ?_) <;> conv => whnf) | (refine WB.tt ?_; conv => whnf) | (refine WB.ff ?_; conv => whnf)
            refine WSt.ixaN (m := 4) rfl rfl rfl (by decide) ?_; conv => whnf
            repeat' first | ((first | refine Qz ?_ | refine Qf (cH) ?_ | refine Qf (cP) ?_ | refine Qy ?_) <;> conv => whnf) | (refine WB.tt ?_; conv => whnf) | (refine WB.ff ?_; conv => whnf)
            refine Again.to (k + 1) (by omega) (show k + 1 ≤ P.length by omega) (Nat.le_refl _) ?_
            show Shr _ (Hz b S kf P l hi a5 b5 4 a s j ((aH b 4).getD j 0) (qN b S P 4 ((aH b 4).getD j 0) (k + 1)) (k + 1))
            rw [hN]
            refine Shr.of ?_ ?_ rfl rfl
            · show Rel _ _ ((.n (.n (.n (.n .e (some (.pt (.i (.o .h)) 0 0)) .e) (some (.pt .h 0 0)) (.n (.n (.n .e (some (.i .i64 ((aD bD P).length : Int))) .e) none .e) (some (.i .i64 ((aH b 4).getD j 0))) (.n .e (some (.lst 1 (ints (aH b 4)))) .e))) none (.n (.n .e (some (.sl (.o (.o (.o .h))) 0 (s.length + 1) s.length 1)) .e) (some (.pt (.i .h) 0 0)) (.n .e none (.n .e (some (.i .i64 (j : Int))) .e)))) none (.n (.n (.n .e (some (.i .i64 ((4 : Nat) : Int))) .e) (some (.pt (.o .h) 0 0)) (.n (.n (.n .e (some (.i .i64 ((k + 1 : Nat) : Int))) .e) none .e) (some (.pt (.i (.o (.o .h))) 0 0)) (.n .e (some (.i .i64 ((ints (aH b 4)).length : Int))) .e))) none (.n (.n (.n (.n .e (some (.lst 2 (aD bD P))) .e) none .e) none .e) (some (.pt (.o (.o .h)) 0 0)) .e))) : T D) _
              (repeat' first | exact Rel.e | refine Rel.some ?_ ?_ ?_ | refine Rel.none ?_ ?_ | refine Rel.ee ?_ ?_)
              all_goals show Fz _ _ _ _
              all_goals first | exact .pu trivial | exact .kpt (show _ < 10 by simp [Pos.nat]) | exact .ksl (show _ < 10 by simp [Pos.nat]) | exact .pu (aC _) | exact .pu (aG _)
            · show Rel _ _ ((.n (.n (.n (.n .e (some (.cells false ((aD jT (a :: s)).flatten.map fun d => Cell.o d s.length) (s.length + 1))) .e) (some (fP 0 0)) .e) (some (qQ S)) .e) (some (fZ b)) (.n (.n (.n .e (some (.cells false [.o (.i .i64 y.sun) 0, .o (.i .i64 y.calm) 0, .o (.i .i64 y.good) 0] 1)) .e) (some (fP a5 b5)) .e) (some (oT kf P l hi)) .e)) : T C) _
              (repeat' first | exact Rel.e | refine Rel.some ?_ ?_ ?_ | refine Rel.none ?_ ?_ | refine Rel.ee ?_ ?_)
              all_goals first
                | exact RO'.of (show _ < 10 by simp [Pos.nat]) kT
                | exact RO'.of (show _ < 10 by simp [Pos.nat]) (aV b)
                | exact RO'.of (show _ < 10 by simp [Pos.nat]) (dU S)
                | exact RO'.of (show _ < 10 by simp [Pos.nat]) (gJ kf P l hi)
                | exact RO'.of (show _ < 10 by simp [Pos.nat]) gK
                | exact RO'.of (show _ < 10 by simp [Pos.nat]) (ShC.G mW a s)
        obtain rfl : k = P.length := by omega
        subst hX
        have cK := hk0 (qN b S P h ((aH b h).getD j 0) P.length)
        repeat' first | ((first | refine Qz ?_ | refine Qf (cK) ?_ | refine Qy ?_) <;> conv => whnf) | (refine WB.tt ?_; conv => whnf) | (refine WB.ff ?_; conv => whnf)
        refine WSt.app_one (id := (.o (.o (.o .h)))) (ds := (aD jT (a :: s)).flatten) (r := jT (kq b S P κ h ((aH b h).getD j 0))) (by rfl) (by rfl) (by rfl) (by rfl) (by rfl) (by rfl) (by rw [dO (z := 1) FH]; rfl) (by rfl) (by rfl) (by omega) (by rfl) ?_; conv => whnf
        repeat' first | ((first | refine Qz ?_ | refine Qy ?_) <;> conv => whnf) | (refine WB.tt ?_; conv => whnf) | (refine WB.ff ?_; conv => whnf)
        refine Again.to (j + 1) (by omega) ⟨by omega, trivial⟩ (by show (iI (.o (.i .h)) (.i (.o (.o .h))) (((aH b h).take j).map (kq b S P κ h))).nat ≤ (iI (.o (.i .h)) (.i (.o (.o .h))) (((aH b h).take (j + 1)).map (kq b S P κ h))).nat; rw [hA, hsc, List.cons_append]; exact (show 9 ≤ 9 by omega)) ?_
        show Shr _ (GZ b S kf P l hi a5 b5 h (((aH b h).take (j + 1)).map (kq b S P κ h)) (j + 1))
        rw [hsc, List.cons_append]
        refine Shr.of ?_ ?_ rfl rfl
        · show Rel _ _ ((.n (.n (.n (.n .e (some (.pt (.i (.o .h)) 0 0)) .e) (some (.pt .h 0 0)) (.n .e none (.n .e (some (.lst 1 (ints (aH b h)))) .e))) none (.n (.n .e (some ((Aw (.o (.o (.o .h))) 1 (a :: (s ++ [(kq b S P κ h ((aH b h).getD j 0))]))))) .e) (some (.pt (.i .h) 0 0)) (.n .e none (.n .e (some (.i .i64 ((j + 1 : Nat) : Int))) .e)))) none (.n (.n (.n .e (some (.i .i64 (h : Int))) .e) (some (.pt (.o .h) 0 0)) (.n .e none (.n .e (some (.i .i64 ((ints (aH b h)).length : Int))) .e))) none (.n .e (some (.pt (.o (.o .h)) 0 0)) .e))) : Ev.T D) _
          rw [fS]
          (repeat' first | exact Rel.e | refine Rel.some ?_ ?_ ?_ | refine Rel.none ?_ ?_ | refine Rel.ee ?_ ?_)
          all_goals show Fz _ _ _ _
          all_goals first | exact .pu trivial | exact .kpt (show _ < 9 by simp [Pos.nat]) | exact .ksl (show _ < 9 by simp [Pos.nat]) | exact .kmp (show _ < 9 by simp [Pos.nat]) | exact .pu (aC _) | exact .pu (aG _)
        · show Rel _ _ ((.n (.n (.n (.n .e (Bv jT (a :: (s ++ [(kq b S P κ h ((aH b h).getD j 0))]))) .e) (some (fP 0 0)) .e) (some (qQ S)) .e) (some (fZ b)) (.n (.n .e (some (fP a5 b5)) .e) (some (oT kf P l hi)) .e)) : Ev.T Ev.C) _
          rw [fW]
          (repeat' first | exact Rel.e | refine Rel.some ?_ ?_ ?_ | refine Rel.none ?_ ?_ | refine Rel.ee ?_ ?_)
          all_goals first
            | exact RO'.of (show _ < 9 by simp [Pos.nat]) (aV b)
            | exact RO'.of (show _ < 9 by simp [Pos.nat]) (dU S)
            | exact RO'.of (show _ < 9 by simp [Pos.nat]) (gJ kf P l hi)
            | exact RO'.of (show _ < 9 by simp [Pos.nat]) gK
            | (refine RO'.of (show _ < 9 by simp [Pos.nat]) (ShC.grown (by omega) (aU.2 fun d hd => ?_)); rcases List.mem_append.1 hd with hd | hd <;> first | exact aU.1 (fA mW _) d hd | exact aU.1 (mW _) d hd)
    · obtain rfl : j = (aH b h).length := by omega
      have hE := hend rfl
      cases A with
      | nil =>
        have := congrArg List.length hE
        unfold kV at this
        rw [List.length_map] at this
        exact absurd (List.length_eq_zero_iff.1 this.symm) hWn
      | cons a s =>
        repeat' first | ((first | refine Qz ?_ | refine Qy ?_) <;> conv => whnf) | (refine WB.tt ?_; conv => whnf) | (refine WB.ff ?_; conv => whnf)
        refine ⟨rfl, Ok b S kf P l hi a5 b5 h (kV b S P κ h), (fun id : Pos => id.nat < 6), ?_, fun id h => h, fun id h => h, Nat.le_refl _, ?_⟩
        · refine ShrB.of ?_ ?_ rfl rfl
          · show Rel _ _ ((.n (.n (.n (.n .e (some (.pt (.i (.o .h)) 0 0)) .e) (some (.pt .h 0 0)) .e) none (.n (.n .e (some (.lst 1 (ints (kV b S P κ h)))) .e) (some (.pt (.i .h) 0 0)) .e)) none (.n (.n (.n .e (some (.i .i64 (h : Int))) .e) (some (.pt (.o .h) 0 0)) .e) none (.n .e (some (.pt (.o (.o .h)) 0 0)) .e))) : T D) _
            (repeat' first | exact Rel.e | refine Rel.some ?_ ?_ ?_ | refine Rel.none ?_ ?_ | refine Rel.ee ?_ ?_)
            all_goals show Fz _ _ _ _
            all_goals first | exact .pu trivial | exact .kpt (show _ < 6 by simp [Pos.nat]) | (rw [← hE]; exact Fz.G (f := jT) (a :: s) (show ¬ (8 : Nat) < 6 by omega) (fun c h => h) FH mW)
          · show Rel _ _ ((.n (.n (.n .e (some (fP 0 0)) .e) (some (qQ S)) .e) (some (fZ b)) (.n (.n .e (some (fP a5 b5)) .e) (some (oT kf P l hi)) .e)) : T C) _
            (repeat' first | exact Rel.e | refine Rel.some ?_ ?_ ?_ | refine Rel.none ?_ ?_ | refine Rel.ee ?_ ?_)
            all_goals first
              | exact RO'.of (show _ < 6 by simp [Pos.nat]) (aV b)
              | exact RO'.of (show _ < 6 by simp [Pos.nat]) (dU S)
              | exact RO'.of (show _ < 6 by simp [Pos.nat]) (gJ kf P l hi)
              | exact RO'.of (show _ < 6 by simp [Pos.nat]) gK
        · have eV := aO (kV b S P κ h)
          have hVl : (kV b S P κ h).length = (aH b h).length := List.length_map _
          have hVp : 0 < (kV b S P κ h).length := by
            rw [← hE]; simp
          have cMn := JV ((kV b S P κ h).getD 0 0) (kV b S P κ h) (by omega)
          have cMx := Kv (kV b S P κ h) hVp (by omega)
          have hm1 : (kV b S P κ h).foldl min ((kV b S P κ h).getD 0 0) = pB b S P κ h := rfl
          have hm2 : (kV b S P κ h).foldl max ((kV b S P κ h).getD 0 0) = oV b S P κ h := rfl
          rw [hm1] at cMn
          rw [hm2] at cMx
          conv => whnf
          repeat' first | ((first | refine Qz ?_ | refine Qf (cMn) ?_ | refine Qf (cMx) ?_ | refine WIx.intsE (j := 0) rfl hVp ?_ | refine Qy ?_) <;> conv => whnf) | (refine WB.tt ?_; conv => whnf) | (refine WB.ff ?_; conv => whnf)
          refine Again.to (h + 1) (by omega) ⟨by omega, by omega⟩ (Nat.le_refl _) ?_
          rw [hn5, hn6]
          refine Shr.of ?_ ?_ rfl rfl
          · show Rel _ _ ((.n (.n (.n (.n .e (some (.pt (.i (.o .h)) 0 0)) .e) (some (.pt .h 0 0)) .e) none (.n .e (some (.pt (.i .h) 0 0)) .e)) none (.n (.n (.n .e (some (.i .i64 ((h + 1 : Nat) : Int))) .e) (some (.pt (.o .h) 0 0)) .e) none (.n .e (some (.pt (.o (.o .h)) 0 0)) .e))) : T D) _
            (repeat' first | exact Rel.e | refine Rel.some ?_ ?_ ?_ | refine Rel.none ?_ ?_ | refine Rel.ee ?_ ?_)
            all_goals show Fz _ _ _ _
            all_goals first | exact .pu trivial | exact .kpt (show _ < 6 by simp [Pos.nat])
          · show Rel _ _ ((.n (.n (.n .e (some (fP 0 0)) .e) (some (qQ S)) .e) (some (fZ b)) (.n (.n .e (some (fP (a5 + pB b S P κ h) (b5 + oV b S P κ h))) .e) (some (oT kf P l hi)) .e)) : T C) _
            (repeat' first | exact Rel.e | refine Rel.some ?_ ?_ ?_ | refine Rel.none ?_ ?_ | refine Rel.ee ?_ ?_)
            all_goals first
              | exact RO'.of (show _ < 6 by simp [Pos.nat]) (aV b)
              | exact RO'.of (show _ < 6 by simp [Pos.nat]) (dU S)
              | exact RO'.of (show _ < 6 by simp [Pos.nat]) (gJ kf P l hi)
              | exact RO'.of (show _ < 6 by simp [Pos.nat]) gK
  · have e : h = l + m := by omega
    rw [hz5 e, hz6 e]
    repeat' first | ((first | refine Qz ?_ | refine Qy ?_) <;> conv => whnf) | (refine WB.tt ?_; conv => whnf) | (refine WB.ff ?_; conv => whnf)
    exact ⟨.inr rfl, _, rfl, .pu ⟨trivial, trivial, trivial⟩⟩
end Go.Ev
end
