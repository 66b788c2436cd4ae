import Derived.Test.YtkbgaadfednjpaaGreatDoorEvU4v0
set_option linter.all false
set_option maxHeartbeats 8000000
noncomputable section
namespace Go.Ev
open Go.Proofs
set_option maxRecDepth 100000
def lA (n : Int) : List D := [.i .i64 n]
theorem HF (n : Int) : (lA n).length = 1 := rfl
theorem oF (n : Int) : aR (lA n) := by simp [lA, aR, Pu]
def sM (S : Nat → Nat → Int) : C := .cells false ((lS S).map fun d => Cell.o d 0) 1
def gU (x y : Int) : C := .cells false [.o (.i .i64 x) 0, .o (.i .i64 y) 0] 1
theorem iG {B : Pos → Prop} {ob : T C} {x y : Int} : ShC B ob (gU x y) (gU x y) := by
  refine ShC.same ?_
  (repeat' first | exact ShC.nl | refine ShC.cn ?_ ?_) <;> exact .pu trivial
def Du (kf : Pos) (P : List (Int × Int)) (l : Nat) (hi : Int) : List D := [.lst 2 (aC aV P), .i .i64 (l : Int), .i .i64 hi, .fn kf [] []]
theorem JM (kf : Pos) (P : List (Int × Int)) (l : Nat) (hi : Int) : aR (Du kf P l hi) := by simp [Du, aR, Pu, aF]
def qJ (kf : Pos) (P : List (Int × Int)) (l : Nat) (hi : Int) : C := .cells false [.o (.lst 2 (aC aV P)) 0, .o (.i .i64 (l : Int)) 0, .o (.i .i64 hi) 0, .o (.fn kf [] []) 0] 1
theorem iF {B : Pos → Prop} {ob : T C} (kf : Pos) (P : List (Int × Int)) (l : Nat) (hi : Int) : ShC B ob (qJ kf P l hi) (qJ kf P l hi) := by
  refine ShC.same ?_
  (repeat' first | exact ShC.nl | refine ShC.cn ?_ ?_) <;> first | exact .pu trivial | exact .pu (aF _) | exact .pu ⟨trivial, trivial⟩
def qN (b : Bh) (S : Nat → Nat → Int) (P : List (Int × Int)) (h : Nat) (d : Int) : Nat → Hr
  | 0 => ⟨0, 0, 0⟩
  | j + 1 => mN (qN b S P h d j) (iS b (P.getD j default) (S h (P.getD j default).1.toNat) h d)
theorem Bu (b : Bh) (S : Nat → Nat → Int) (P : List (Int × Int)) (h : Nat) (d : Int) : ∀ j : Nat, (0 ≤ (qN b S P h d j).sun ∧ (qN b S P h d j).sun ≤ j) ∧ (0 ≤ (qN b S P h d j).calm ∧ (qN b S P h d j).calm ≤ j) ∧ (0 ≤ (qN b S P h d j).good ∧ (qN b S P h d j).good ≤ j)
  | 0 => by simp [qN]
  | j + 1 => by
    have h1 := Bu b S P h d j
    have k := uY b (P.getD j default) (S h (P.getD j default).1.toNat) h d
    show (0 ≤ (qN b S P h d j).sun + _ ∧ (qN b S P h d j).sun + _ ≤ _) ∧ (0 ≤ (qN b S P h d j).calm + _ ∧ (qN b S P h d j).calm + _ ≤ _) ∧ (0 ≤ (qN b S P h d j).good + _ ∧ (qN b S P h d j).good + _ ≤ _)
    omega
def kq (b : Bh) (S : Nat → Nat → Int) (P : List (Int × Int)) (κ : Hr → Int) (h : Nat) (d : Int) : Int := κ (qN b S P h d P.length)
def kV (b : Bh) (S : Nat → Nat → Int) (P : List (Int × Int)) (κ : Hr → Int) (h : Nat) : List Int := (aJ b h).map (kq b S P κ h)
def jY (f : Nat → Int) (l : Nat) : Nat → Int
  | 0 => 0
  | h + 1 => if l ≤ h then jY f l h + f h else 0
theorem sV (f : Nat → Int) (l : Nat) : jY f l l = 0 := by
  cases l with
  | zero => rfl
  | succ l => exact if_neg (by omega)
def oQ (b : Bh) (S : Nat → Nat → Int) (P : List (Int × Int)) (κ : Hr → Int) (h : Nat) : Int := (kV b S P κ h).foldl min ((kV b S P κ h).getD 0 0)
def oO (b : Bh) (S : Nat → Nat → Int) (P : List (Int × Int)) (κ : Hr → Int) (h : Nat) : Int := (kV b S P κ h).foldl max ((kV b S P κ h).getD 0 0)
def IK (b : Bh) (S : Nat → Nat → Int) (kf : Pos) (P : List (Int × Int)) (l : Nat) (hi a5 b5 : Int) (h : Nat) (A : List Int) (j : Nat) : X := ⟨(.n (.n (.n (.n .e (some (.pt (.i (.o .h)) 0 0)) .e) (some (.pt .h 0 0)) (.n .e none (.n .e (some (.lst 1 (ints (aJ b h)))) .e))) none (.n (.n .e (some (vX (.o (.o (.o .h))) 1 A)) .e) (some (.pt (.i .h) 0 0)) (.n .e none (.n .e (some (.i .i64 (j : Int))) .e)))) none (.n (.n (.n .e (some (.i .i64 (h : Int))) .e) (some (.pt (.o .h) 0 0)) (.n .e none (.n .e (some (.i .i64 ((ints (aJ b h)).length : Int))) .e))) none (.n .e (some (.pt (.o (.o .h)) 0 0)) .e))), (.n (.n (.n (.n .e (wU lA A) .e) (some (gU 0 0)) .e) (some (sM S)) .e) (some (bZ b)) (.n (.n .e (some (gU a5 b5)) .e) (some (qJ kf P l hi)) .e)), fX (.o (.i .h)) (.i (.o (.o .h))) A, none⟩
def Je (b : Bh) (S : Nat → Nat → Int) (kf : Pos) (P : List (Int × Int)) (l : Nat) (hi a5 b5 : Int) (h : Nat) (j : Nat) (d : Int) (x : Hr) (k : Nat) : X := ⟨(.n (.n (.n (.n .e (some (.pt (.i (.o .h)) 0 0)) .e) (some (.pt .h 0 0)) (.n (.n (.n .e (some (.i .i64 ((aC aV P).length : Int))) .e) none .e) (some (.i .i64 d)) (.n .e (some (.lst 1 (ints (aJ b h)))) .e))) none (.n (.n .e (some (.ns)) .e) (some (.pt (.i .h) 0 0)) (.n .e none (.n .e (some (.i .i64 (j : Int))) .e)))) none (.n (.n (.n .e (some (.i .i64 (h : Int))) .e) (some (.pt (.o .h) 0 0)) (.n (.n (.n .e (some (.i .i64 (k : Int))) .e) none .e) (some (.pt (.o (.i .h)) 0 0)) (.n .e (some (.i .i64 ((ints (aJ b h)).length : Int))) .e))) none (.n (.n (.n (.n .e (some (.lst 2 (aC aV P))) .e) none .e) none .e) (some (.pt (.o (.o .h)) 0 0)) .e))), (.n (.n (.n .e (some (gU 0 0)) .e) (some (sM S)) (.n .e (some (.cells false [.o (.i .i64 x.sun) 0, .o (.i .i64 x.calm) 0, .o (.i .i64 x.good) 0] 1)) .e)) (some (bZ b)) (.n (.n .e (some (gU a5 b5)) .e) (some (qJ kf P l hi)) .e)), (.i (.i .h)), none⟩
def Jf (b : Bh) (S : Nat → Nat → Int) (kf : Pos) (P : List (Int × Int)) (l : Nat) (hi a5 b5 : Int) (h : Nat) (a : Int) (s : List Int) (j : Nat) (d : Int) (x : Hr) (k : Nat) : X := ⟨(.n (.n (.n (.n .e (some (.pt (.i (.o .h)) 0 0)) .e) (some (.pt .h 0 0)) (.n (.n (.n .e (some (.i .i64 ((aC aV P).length : Int))) .e) none .e) (some (.i .i64 d)) (.n .e (some (.lst 1 (ints (aJ b h)))) .e))) none (.n (.n .e (some (.sl (.o (.o (.o .h))) 0 (s.length + 1) s.length 1)) .e) (some (.pt (.i .h) 0 0)) (.n .e none (.n .e (some (.i .i64 (j : Int))) .e)))) none (.n (.n (.n .e (some (.i .i64 (h : Int))) .e) (some (.pt (.o .h) 0 0)) (.n (.n (.n .e (some (.i .i64 (k : Int))) .e) none .e) (some (.pt (.i (.o (.o .h))) 0 0)) (.n .e (some (.i .i64 ((ints (aJ b h)).length : Int))) .e))) none (.n (.n (.n (.n .e (some (.lst 2 (aC aV P))) .e) none .e) none .e) (some (.pt (.o (.o .h)) 0 0)) .e))), (.n (.n (.n (.n .e (some (.cells false ((aC lA (a :: s)).flatten.map fun d => Cell.o d s.length) (s.length + 1))) .e) (some (gU 0 0)) .e) (some (sM S)) .e) (some (bZ b)) (.n (.n (.n .e (some (.cells false [.o (.i .i64 x.sun) 0, .o (.i .i64 x.calm) 0, .o (.i .i64 x.good) 0] 1)) .e) (some (gU a5 b5)) .e) (some (qJ kf P l hi)) .e)), (.o (.i (.o .h))), none⟩
def QU (b : Bh) (S : Nat → Nat → Int) (kf : Pos) (P : List (Int × Int)) (l : Nat) (hi a5 b5 : Int) (h : Nat) : X := ⟨(.n (.n (.n (.n .e (some (.pt (.i (.o .h)) 0 0)) .e) (some (.pt .h 0 0)) .e) none (.n .e (some (.pt (.i .h) 0 0)) .e)) none (.n (.n (.n .e (some (.i .i64 (h : Int))) .e) (some (.pt (.o .h) 0 0)) .e) none (.n .e (some (.pt (.o (.o .h)) 0 0)) .e))), (.n (.n (.n .e (some (gU 0 0)) .e) (some (sM S)) .e) (some (bZ b)) (.n (.n .e (some (gU a5 b5)) .e) (some (qJ kf P l hi)) .e)), .o (.i .h), none⟩
def QV (b : Bh) (S : Nat → Nat → Int) (kf : Pos) (P : List (Int × Int)) (l : Nat) (hi a5 b5 : Int) (h : Nat) (L : List Int) : X := ⟨(.n (.n (.n (.n .e (some (.pt (.i (.o .h)) 0 0)) .e) (some (.pt .h 0 0)) .e) none (.n (.n .e (some (.lst 1 (ints L))) .e) (some (.pt (.i .h) 0 0)) .e)) none (.n (.n (.n .e (some (.i .i64 (h : Int))) .e) (some (.pt (.o .h) 0 0)) .e) none (.n .e (some (.pt (.o (.o .h)) 0 0)) .e))), (.n (.n (.n .e (some (gU 0 0)) .e) (some (sM S)) .e) (some (bZ b)) (.n (.n .e (some (gU a5 b5)) .e) (some (qJ kf P l hi)) .e)), .o (.i .h), none⟩
set_option maxHeartbeats 16000000 in
theorem En (b : Bh) (V : VW b) (S : Nat → Nat → Int) (kf : Pos) (κ : Hr → Int) (hk0 : ∀ x, PureF Tryz.prog kf.ix [.ag (iB x)] (.i .i64 (κ x))) (P : List (Int × Int)) (hP : ∀ p ∈ P, cJ b p = true) (l4 : b.brk.length ≤ 1000) (hPl : P.length ≤ 50) (l m : Nat) (hi : Int) (hhi : hi = ((l + m : Nat) : Int) - 1) (hm : l + m ≤ (b.last + 1).toNat) (l6 : ∀ w ∈ b.winds, w.length ≤ 1000) (l5 : b.nts.length ≤ 1000)
    (hne : ∀ h, h < (b.last + 1).toNat → aJ b h ≠ []) (hmn : ∀ h, h ≤ (b.last + 1).toNat → -100000 ≤ jY (oQ b S P κ) l h ∧ jY (oQ b S P κ) l h ≤ 100000) (hmx : ∀ h, h ≤ (b.last + 1).toNat → -100000 ≤ jY (oO b S P κ) l h ∧ jY (oO b S P κ) l h ≤ 100000) : PureF Tryz.prog p102.ix [.ag (dW b), .ag (lS S), .ag (Du kf P l hi)] (.ag [.i .i64 (jY (oQ b S P κ) l (l + m)), .i .i64 (jY (oO b S P κ) l (l + m))]) := by
  have q1 := V.last
  have q2 := V.winl
  have q3 := V.sunl
  have e1 := aH aV P
  refine PureF.run Lr (by simp) (by simp [aR, Pu, aQ, kY, JM]) ?_; conv => whnf
  repeat' first | ((first | refine Qz ?_ | refine Qy ?_) <;> conv => whnf) | (refine WB.tt ?_; conv => whnf) | (refine WB.ff ?_; conv => whnf)
  refine Rn.loop (fun h : Nat => QU b S kf P l hi (jY (oQ b S P κ) l h) (jY (oO b S P κ) l h) h) (fun h => l ≤ h ∧ h ≤ l + m) (fun h => l + m - h) l ?_ ⟨Nat.le_refl _, by omega⟩ ?_
  · rw [sV, sV]
    refine X.le.mk ?_ ?_ (Nat.le_refl _) rfl rfl
    · show T.le ((.n (.n (.n (.n .e (some (.pt (.i (.o .h)) 0 0)) .e) (some (.pt .h 0 0)) .e) none (.n .e (some (.pt (.i .h) 0 0)) .e)) none (.n (.n (.n .e (some (.i .i64 (l : Int))) .e) (some (.pt (.o .h) 0 0)) .e) none (.n .e (some (.pt (.o (.o .h)) 0 0)) .e))) : Ev.T D) _
      (repeat' first | exact T.le_e _ | refine T.le_some ?_ rfl ?_ | refine T.le_none ?_ ?_ | refine T.le_ee ?_ ?_)
    · show T.le ((.n (.n (.n .e (some (gU 0 0)) .e) (some (sM S)) .e) (some (bZ b)) (.n (.n .e (some (gU 0 0)) .e) (some (qJ kf P l hi)) .e)) : Ev.T Ev.C) _
      (repeat' first | exact T.le_e _ | refine T.le_some ?_ rfl ?_ | refine T.le_none ?_ ?_ | refine T.le_ee ?_ ?_)
  rintro h ⟨hl, hh⟩
  have hb5 := hmn h (by omega)
  have hb6 := hmx h (by omega)
  have hn5 : jY (oQ b S P κ) l (h + 1) = jY (oQ b S P κ) l h + oQ b S P κ h := if_pos hl
  have hn6 : jY (oO b S P κ) l (h + 1) = jY (oO b S P κ) l h + oO b S P κ h := if_pos hl
  have hz5 : h = l + m → jY (oQ b S P κ) l (l + m) = jY (oQ b S P κ) l h := fun e => by rw [e]
  have hz6 : h = l + m → jY (oO b S P κ) l (l + m) = jY (oO b S P κ) l h := fun e => by rw [e]
  have hc5 : h < l + m → -100000 ≤ jY (oQ b S P κ) l (h + 1) ∧ jY (oQ b S P κ) l (h + 1) ≤ 100000 := fun k => hmn (h + 1) (by omega)
  have hc6 : h < l + m → -100000 ≤ jY (oO b S P κ) l (h + 1) ∧ jY (oO b S P κ) l (h + 1) ≤ 100000 := fun k => hmx (h + 1) (by omega)
  rw [hn5] at hc5
  rw [hn6] at hc6
  generalize hA5 : jY (oQ b S P κ) l h = a5 at *
  generalize hA6 : jY (oO b S P κ) l h = b5 at *
  conv => whnf
  repeat' first | ((first | refine Qz ?_ | refine Qy ?_) <;> conv => whnf) | (refine WB.tt ?_; conv => whnf) | (refine WB.ff ?_; conv => whnf)
  refine WB.dec (fun hd => ?_) (fun hd => ?_) <;> conv => whnf
  · have hlt : h < l + m := by omega
    have hlb : h < (b.last + 1).toNat := by omega
    have hc5 := hc5 hlt
    have hc6 := hc6 hlt
    have cW := BT b V h (by omega) (l6 _ (aM (by omega))) l5
    have eW := aN (aJ b h)
    have hWn := hne h hlb
    have hWl : (aJ b h).length ≤ 1000 := Nat.le_trans (List.length_filter_le _ _) (by
      have := l6 (b.winds.getD h default) (aM (by omega)); exact this)
    have hWd : ∀ j, j < (aJ b h).length → 0 ≤ (aJ b h).getD j 0 ∧ (aJ b h).getD j 0 ≤ 3 := fun j hj => by
      have hm1 := (jK.1 (aM (d := 0) hj)).1
      have h4 := (iI.1 (List.all_eq_true.1 V.wins _ (aM (d := default) (show h < b.winds.length by omega)))).2.2
      exact aX (List.all_eq_true.1 h4 _ hm1)
    refine Rn.skip ?_; conv => whnf
    refine Rn.seq ?_; conv => whnf
    refine Rn.blk ?_; conv => whnf
    refine Rn.seqB ?_; conv => whnf
    refine Rn.reg ?_; conv => whnf
    repeat' first | ((first | refine Qz ?_ | refine Qf (cW) ?_ | refine Qy ?_) <;> conv => whnf) | (refine WB.tt ?_; conv => whnf) | (refine WB.ff ?_; conv => whnf)
    refine Rn.loop (fun j : Nat => IK b S kf P l hi a5 b5 h (((aJ b h).take j).map (kq b S P κ h)) j) (fun j => j ≤ (aJ b h).length ∧ True) (fun j => (aJ b h).length - j) 0 ?_ ?_ ?_
    · refine X.le.mk ?_ ?_ (Nat.le_refl _) rfl rfl
      · show T.le ((.n (.n (.n (.n .e (some (.pt (.i (.o .h)) 0 0)) .e) (some (.pt .h 0 0)) (.n .e none (.n .e (some (.lst 1 (ints (aJ b h)))) .e))) none (.n (.n .e (some (.ns)) .e) (some (.pt (.i .h) 0 0)) (.n .e none (.n .e (some (.i .i64 0)) .e)))) none (.n (.n (.n .e (some (.i .i64 (h : Int))) .e) (some (.pt (.o .h) 0 0)) (.n .e none (.n .e (some (.i .i64 ((ints (aJ b h)).length : Int))) .e))) none (.n .e (some (.pt (.o (.o .h)) 0 0)) .e))) : Ev.T D) _
        skip
        (repeat' first | exact T.le_e _ | refine T.le_some ?_ rfl ?_ | refine T.le_none ?_ ?_ | refine T.le_ee ?_ ?_)
      · show T.le ((.n (.n (.n (.n .e none .e) (some (gU 0 0)) .e) (some (sM S)) .e) (some (bZ b)) (.n (.n .e (some (gU a5 b5)) .e) (some (qJ kf P l hi)) .e)) : Ev.T Ev.C) _
        (repeat' first | exact T.le_e _ | refine T.le_some ?_ rfl ?_ | refine T.le_none ?_ ?_ | refine T.le_ee ?_ ?_)
    · exact ⟨Nat.zero_le _, trivial⟩
    rintro j ⟨hj, _⟩
    have hsc : j < (aJ b h).length → ((aJ b h).take (j + 1)).map (kq b S P κ h) = ((aJ b h).take j).map (kq b S P κ h) ++ [kq b S P κ h ((aJ b h).getD j 0)] := fun h' => by rw [fG (d := 0) h', List.map_append]; rfl
    have hAl : (((aJ b h).take j).map (kq b S P κ h)).length ≤ j := by rw [List.length_map, List.length_take]; omega
    have hend : j = (aJ b h).length → ((aJ b h).take j).map (kq b S P κ h) = kV b S P κ h := fun h' => by rw [List.take_of_length_le (by omega)]; rfl
    generalize hA : ((aJ b h).take j).map (kq b S P κ h) = A at *
    conv => whnf
    repeat' first | ((first | refine Qz ?_ | refine Qy ?_) <;> conv => whnf) | (refine WB.tt ?_; conv => whnf) | (refine WB.ff ?_; conv => whnf)
    refine WB.dec (fun hd2 => ?_) (fun hd2 => ?_) <;> conv => whnf
    · have hlt2 : j < (aJ b h).length := by omega
      have hsc := hsc hlt2
      have hdk := hWd j hlt2
      cases A with
      | nil =>
        repeat' first | ((first | refine Qz ?_ | refine Qy ?_) <;> conv => whnf) | (refine WB.tt ?_; conv => whnf) | (refine WB.ff ?_; conv => whnf)
        refine Rn.loop (fun k : Nat => Je b S kf P l hi a5 b5 h j ((aJ b h).getD j 0) (qN b S P h ((aJ b h).getD j 0) k) k) (fun k => k ≤ P.length) (fun k => P.length - k) 0 ?_ (Nat.zero_le _) ?_
        · refine X.le.mk ?_ ?_ (Nat.le_refl _) rfl rfl
          · show T.le ((.n (.n (.n (.n .e (some (.pt (.i (.o .h)) 0 0)) .e) (some (.pt .h 0 0)) (.n (.n (.n .e (some (.i .i64 ((aC aV P).length : Int))) .e) none .e) (some (.i .i64 ((aJ b h).getD j 0))) (.n .e (some (.lst 1 (ints (aJ b h)))) .e))) none (.n (.n .e (some (.ns)) .e) (some (.pt (.i .h) 0 0)) (.n .e none (.n .e (some (.i .i64 (j : Int))) .e)))) none (.n (.n (.n .e (some (.i .i64 (h : Int))) .e) (some (.pt (.o .h) 0 0)) (.n (.n (.n .e (some (.i .i64 0)) .e) none .e) (some (.pt (.o (.i .h)) 0 0)) (.n .e (some (.i .i64 ((ints (aJ b h)).length : Int))) .e))) none (.n (.n (.n (.n .e (some (.lst 2 (aC aV P))) .e) none .e) none .e) (some (.pt (.o (.o .h)) 0 0)) .e))) : Ev.T D) _
            (repeat' first | exact T.le_e _ | refine T.le_some ?_ rfl ?_ | refine T.le_none ?_ ?_ | refine T.le_ee ?_ ?_)
          · show T.le ((.n (.n (.n .e (some (gU 0 0)) .e) (some (sM S)) (.n .e (some (.cells false [.o (.i .i64 0) 0, .o (.i .i64 0) 0, .o (.i .i64 0) 0] 1)) .e)) (some (bZ b)) (.n (.n .e (some (gU a5 b5)) .e) (some (qJ kf P l hi)) .e)) : Ev.T Ev.C) _
            (repeat' first | exact T.le_e _ | refine T.le_some ?_ rfl ?_ | refine T.le_none ?_ ?_ | refine T.le_ee ?_ ?_)
        intro k hk
        have hk : k ≤ P.length := hk
        have hbd := Bu b S P h ((aJ b h).getD j 0) k
        have hN : qN b S P h ((aJ b h).getD j 0) (k + 1) = mN (qN b S P h ((aJ b h).getD j 0) k) (iS b (P.getD k default) (S h (P.getD k default).1.toNat) h ((aJ b h).getD j 0)) := rfl
        generalize hX : qN b S P h ((aJ b h).getD j 0) k = x at *
        conv => whnf
        repeat' first | ((first | refine Qz ?_ | refine Qy ?_) <;> conv => whnf) | (refine WB.tt ?_; conv => whnf) | (refine WB.ff ?_; conv => whnf)
        refine WB.dec (fun hd3 => ?_) (fun hd3 => ?_) <;> conv => whnf
        · have hk2 : k < P.length := by omega
          have hsp := hP _ (aM (d := default) hk2)
          have cH := BW b V (P.getD k default) hsp (S h) h (by omega) ((aJ b h).getD j 0) hdk l4
          have bd2 := uY b (P.getD k default) (S h (P.getD k default).1.toNat) h ((aJ b h).getD j 0)
          have cP := Fk x (iS b (P.getD k default) (S h (P.getD k default).1.toNat) h ((aJ b h).getD j 0)) (by omega) (by omega)
          generalize mN x (iS b (P.getD k default) (S h (P.getD k default).1.toNat) h ((aJ b h).getD j 0)) = y at *
          rcases uI (show h < 5 by omega) with rfl | rfl | rfl | rfl | rfl
          · repeat' first | ((first | refine Qz ?_ | refine Qy ?_) <;> conv => whnf) | (refine WB.tt ?_; conv => whnf) | (refine WB.ff ?_; conv => whnf)
            refine WSt.ixaN (m := 0) rfl rfl rfl (by decide) ?_; conv => whnf
            repeat' first | ((first | refine Qz ?_ | refine Qf (cH) ?_ | refine Qf (cP) ?_ | refine Qy ?_) <;> conv => whnf) | (refine WB.tt ?_; conv => whnf) | (refine WB.ff ?_; conv => whnf)
            refine Again.to (k + 1) (by omega) (show k + 1 ≤ P.length by omega) (Nat.le_refl _) ?_
            show Shr _ (Je b S kf P l hi a5 b5 0 j ((aJ b 0).getD j 0) (qN b S P 0 ((aJ b 0).getD j 0) (k + 1)) (k + 1))
            rw [hN]
            refine Shr.of ?_ ?_ rfl rfl
            · show Rel _ _ ((.n (.n (.n (.n .e (some (.pt (.i (.o .h)) 0 0)) .e) (some (.pt .h 0 0)) (.n (.n (.n .e (some (.i .i64 ((aC aV P).length : Int))) .e) none .e) (some (.i .i64 ((aJ b 0).getD j 0))) (.n .e (some (.lst 1 (ints (aJ b 0)))) .e))) none (.n (.n .e (some (.ns)) .e) (some (.pt (.i .h) 0 0)) (.n .e none (.n .e (some (.i .i64 (j : Int))) .e)))) none (.n (.n (.n .e (some (.i .i64 ((0 : Nat) : Int))) .e) (some (.pt (.o .h) 0 0)) (.n (.n (.n .e (some (.i .i64 ((k + 1 : Nat) : Int))) .e) none .e) (some (.pt (.o (.i .h)) 0 0)) (.n .e (some (.i .i64 ((ints (aJ b 0)).length : Int))) .e))) none (.n (.n (.n (.n .e (some (.lst 2 (aC aV P))) .e) none .e) none .e) (some (.pt (.o (.o .h)) 0 0)) .e))) : T D) _
              (repeat' first | exact Rel.e | refine Rel.some ?_ ?_ ?_ | refine Rel.none ?_ ?_ | refine Rel.ee ?_ ?_)
              all_goals show Fz _ _ _ _
              all_goals first | exact .pu trivial | exact .kpt (show _ < 7 by simp [Pos.nat]) | exact .ksl (show _ < 7 by simp [Pos.nat]) | exact .pu (aB _) | exact .pu (aF _)
            · show Rel _ _ ((.n (.n (.n .e (some (gU 0 0)) .e) (some (sM S)) (.n .e (some (.cells false [.o (.i .i64 y.sun) 0, .o (.i .i64 y.calm) 0, .o (.i .i64 y.good) 0] 1)) .e)) (some (bZ b)) (.n (.n .e (some (gU a5 b5)) .e) (some (qJ kf P l hi)) .e)) : T C) _
              (repeat' first | exact Rel.e | refine Rel.some ?_ ?_ ?_ | refine Rel.none ?_ ?_ | refine Rel.ee ?_ ?_)
              all_goals first
                | exact RO'.of (show _ < 7 by simp [Pos.nat]) dN
                | exact RO'.of (show _ < 7 by simp [Pos.nat]) (aL b)
                | exact RO'.of (show _ < 7 by simp [Pos.nat]) (eX S)
                | exact RO'.of (show _ < 7 by simp [Pos.nat]) (iF kf P l hi)
                | exact RO'.of (show _ < 7 by simp [Pos.nat]) iG
          · repeat' first | ((first | refine Qz ?_ | refine Qy ?_) <;> conv => whnf) | (refine WB.tt ?_; conv => whnf) | (refine WB.ff ?_; conv => whnf)
            refine WSt.ixaN (m := 1) rfl rfl rfl (by decide) ?_; conv => whnf
            repeat' first | ((first | refine Qz ?_ | refine Qf (cH) ?_ | refine Qf (cP) ?_ | refine Qy ?_) <;> conv => whnf) | (refine WB.tt ?_; conv => whnf) | (refine WB.ff ?_; conv => whnf)
            refine Again.to (k + 1) (by omega) (show k + 1 ≤ P.length by omega) (Nat.le_refl _) ?_
            show Shr _ (Je b S kf P l hi a5 b5 1 j ((aJ b 1).getD j 0) (qN b S P 1 ((aJ b 1).getD j 0) (k + 1)) (k + 1))
            rw [hN]
            refine Shr.of ?_ ?_ rfl rfl
            · show Rel _ _ ((.n (.n (.n (.n .e (some (.pt (.i (.o .h)) 0 0)) .e) (some (.pt .h 0 0)) (.n (.n (.n .e (some (.i .i64 ((aC aV P).length : Int))) .e) none .e) (some (.i .i64 ((aJ b 1).getD j 0))) (.n .e (some (.lst 1 (ints (aJ b 1)))) .e))) none (.n (.n .e (some (.ns)) .e) (some (.pt (.i .h) 0 0)) (.n .e none (.n .e (some (.i .i64 (j : Int))) .e)))) none (.n (.n (.n .e (some (.i .i64 ((1 : Nat) : Int))) .e) (some (.pt (.o .h) 0 0)) (.n (.n (.n .e (some (.i .i64 ((k + 1 : Nat) : Int))) .e) none .e) (some (.pt (.o (.i .h)) 0 0)) (.n .e (some (.i .i64 ((ints (aJ b 1)).length : Int))) .e))) none (.n (.n (.n (.n .e (some (.lst 2 (aC aV P))) .e) none .e) none .e) (some (.pt (.o (.o .h)) 0 0)) .e))) : T D) _
              (repeat' first | exact Rel.e | refine Rel.some ?_ ?_ ?_ | refine Rel.none ?_ ?_ | refine Rel.ee ?_ ?_)
              all_goals show Fz _ _ _ _
              all_goals first | exact .pu trivial | exact .kpt (show _ < 7 by simp [Pos.nat]) | exact .ksl (show _ < 7 by simp [Pos.nat]) | exact .pu (aB _) | exact .pu (aF _)
            · show Rel _ _ ((.n (.n (.n .e (some (gU 0 0)) .e) (some (sM S)) (.n .e (some (.cells false [.o (.i .i64 y.sun) 0, .o (.i .i64 y.calm) 0, .o (.i .i64 y.good) 0] 1)) .e)) (some (bZ b)) (.n (.n .e (some (gU a5 b5)) .e) (some (qJ kf P l hi)) .e)) : T C) _
              (repeat' first | exact Rel.e | refine Rel.some ?_ ?_ ?_ | refine Rel.none ?_ ?_ | refine Rel.ee ?_ ?_)
              all_goals first
                | exact RO'.of (show _ < 7 by simp [Pos.nat]) dN
                | exact RO'.of (show _ < 7 by simp [Pos.nat]) (aL b)
                | exact RO'.of (show _ < 7 by simp [Pos.nat]) (eX S)
                | exact RO'.of (show _ < 7 by simp [Pos.nat]) (iF kf P l hi)
                | exact RO'.of (show _ < 7 by simp [Pos.nat]) iG
          · repeat' first | ((first | refine Qz ?_ | refine Qy ?_) <;> conv => whnf) | (refine WB.tt ?_; conv => whnf) | (refine WB.ff ?_; conv => whnf)
            refine WSt.ixaN (m := 2) rfl rfl rfl (by decide) ?_; conv => whnf
            repeat' first | ((first | refine Qz ?_ | refine Qf (cH) ?_ | refine Qf (cP) ?_ | refine Qy ?_) <;> conv => whnf) | (refine WB.tt ?_; conv => whnf) | (refine WB.ff ?_; conv => whnf)
            refine Again.to (k + 1) (by omega) (show k + 1 ≤ P.length by omega) (Nat.le_refl _) ?_
            show Shr _ (Je b S kf P l hi a5 b5 2 j ((aJ b 2).getD j 0) (qN b S P 2 ((aJ b 2).getD j 0) (k + 1)) (k + 1))
            rw [hN]
            refine Shr.of ?_ ?_ rfl rfl
            · show Rel _ _ ((.n (.n (.n (.n .e (some (.pt (.i (.o .h)) 0 0)) .e) (some (.pt .h 0 0)) (.n (.n (.n .e (some (.i .i64 ((aC aV P).length : Int))) .e) none .e) (some (.i .i64 ((aJ b 2).getD j 0))) (.n .e (some (.lst 1 (ints (aJ b 2)))) .e))) none (.n (.n .e (some (.ns)) .e) (some (.pt (.i .h) 0 0)) (.n .e none (.n .e (some (.i .i64 (j : Int))) .e)))) none (.n (.n (.n .e (some (.i .i64 ((2 : Nat) : Int))) .e) (some (.pt (.o .h) 0 0)) (.n (.n (.n .e (some (.i .i64 ((k + 1 : Nat) : Int))) .e) none .e) (some (.pt (.o (.i .h)) 0 0)) (.n .e (some (.i .i64 ((ints (aJ b 2)).length : Int))) .e))) none (.n (.n (.n (.n .e (some (.lst 2 (aC aV P))) .e) none .e) none .e) (some (.pt (.o (.o .h)) 0 0)) .e))) : T D) _
              (repeat' first | exact Rel.e | refine Rel.some ?_ ?_ ?_ | refine Rel.none ?_ ?_ | refine Rel.ee ?_ ?_)
              all_goals show Fz _ _ _ _
              all_goals first | exact .pu trivial | exact .kpt (show _ < 7 by simp [Pos.nat]) | exact .ksl (show _ < 7 by simp [Pos.nat]) | exact .pu (aB _) | exact .pu (aF _)
            · show Rel _ _ ((.n (.n (.n .e (some (gU 0 0)) .e) (some (sM S)) (.n .e (some (.cells false [.o (.i .i64 y.sun) 0, .o (.i .i64 y.calm) 0, .o (.i .i64 y.good) 0] 1)) .e)) (some (bZ b)) (.n (.n .e (some (gU a5 b5)) .e) (some (qJ kf P l hi)) .e)) : T C) _
              (repeat' first | exact Rel.e | refine Rel.some ?_ ?_ ?_ | refine Rel.none ?_ ?_ | refine Rel.ee ?_ ?_)
              all_goals first
                | exact RO'.of (show _ < 7 by simp [Pos.nat]) dN
                | exact RO'.of (show _ < 7 by simp [Pos.nat]) (aL b)
                | exact RO'.of (show _ < 7 by simp [Pos.nat]) (eX S)
                | exact RO'.of (show _ < 7 by simp [Pos.nat]) (iF kf P l hi)
                | exact RO'.of (show _ < 7 by simp [Pos.nat]) iG
          · repeat' first | ((first | refine Qz ?_ | refine Qy ?_) <;> conv => whnf) | (refine WB.tt ?_; conv => whnf) | (refine WB.ff ?_; conv => whnf)
            refine WSt.ixaN (m := 3) rfl rfl rfl (by decide) ?_; conv => whnf
            repeat' first | ((first | refine Qz ?_ | refine Qf (cH) ?_ | refine Qf (cP) ?_ | refine Qy ?_) <;> conv => whnf) | (refine WB.tt ?_; conv => whnf) | (refine WB.ff ?_; conv => whnf)
            refine Again.to (k + 1) (by omega) (show k + 1 ≤ P.length by omega) (Nat.le_refl _) ?_
            show Shr _ (Je b S kf P l hi a5 b5 3 j ((aJ b 3).getD j 0) (qN b S P 3 ((aJ b 3).getD j 0) (k + 1)) (k + 1))
            rw [hN]
            refine Shr.of ?_ ?_ rfl rfl
            · show Rel _ _ ((.n (.n (.n (.n .e (some (.pt (.i (.o .h)) 0 0)) .e) (some (.pt .h 0 0)) (.n (.n (.n .e (some (.i .i64 ((aC aV P).length : Int))) .e) none .e) (some (.i .i64 ((aJ b 3).getD j 0))) (.n .e (some (.lst 1 (ints (aJ b 3)))) .e))) none (.n (.n .e (some (.ns)) .e) (some (.pt (.i .h) 0 0)) (.n .e none (.n .e (some (.i .i64 (j : Int))) .e)))) none (.n (.n (.n .e (some (.i .i64 ((3 : Nat) : Int))) .e) (some (.pt (.o .h) 0 0)) (.n (.n (.n .e (some (.i .i64 ((k + 1 : Nat) : Int))) .e) none .e) (some (.pt (.o (.i .h)) 0 0)) (.n .e (some (.i .i64 ((ints (aJ b 3)).length : Int))) .e))) none (.n (.n (.n (.n .e (some (.lst 2 (aC aV P))) .e) none .e) none .e) (some (.pt (.o (.o .h)) 0 0)) .e))) : T D) _
              (repeat' first | exact Rel.e | refine Rel.some ?_ ?_ ?_ | refine Rel.none ?_ ?_ | refine Rel.ee ?_ ?_)
              all_goals show Fz _ _ _ _
              all_goals first | exact .pu trivial | exact .kpt (show _ < 7 by simp [Pos.nat]) | exact .ksl (show _ < 7 by simp [Pos.nat]) | exact .pu (aB _) | exact .pu (aF _)
            · show Rel _ _ ((.n (.n (.n .e (some (gU 0 0)) .e) (some (sM S)) (.n .e (some (.cells false [.o (.i .i64 y.sun) 0, .o (.i .i64 y.calm) 0, .o (.i .i64 y.good) 0] 1)) .e)) (some (bZ b)) (.n (.n .e (some (gU a5 b5)) .e) (some (qJ kf P l hi)) .e)) : T C) _
              (repeat' first | exact Rel.e | refine Rel.some ?_ ?_ ?_ | refine Rel.none ?_ ?_ | refine Rel.ee ?_ ?_)
              all_goals first
                | exact RO'.of (show _ < 7 by simp [Pos.nat]) dN
                | exact RO'.of (show _ < 7 by simp [Pos.nat]) (aL b)
                | exact RO'.of (show _ < 7 by simp [Pos.nat]) (eX S)
                | exact RO'.of (show _ < 7 by simp [Pos.nat]) (iF kf P l hi)
                | exact RO'.of (show _ < 7 by simp [Pos.nat]) iG
          · repeat' first | ((first | refine Qz ?_ | refine Qy ?_) <;> conv => whnf) | (refine WB.tt ?_; conv => whnf) | (refine WB.ff ?_; conv => whnf)
            refine WSt.ixaN (m := 4) rfl rfl rfl (by decide) ?_; conv => whnf
            repeat' first | ((first | refine Qz ?_ | refine Qf (cH) ?_ | refine Qf (cP) ?_ | refine Qy ?_) <;> conv => whnf) | (refine WB.tt ?_; conv => whnf) | (refine WB.ff ?_; conv => whnf)
            refine Again.to (k + 1) (by omega) (show k + 1 ≤ P.length by omega) (Nat.le_refl _) ?_
            show Shr _ (Je b S kf P l hi a5 b5 4 j ((aJ b 4).getD j 0) (qN b S P 4 ((aJ b 4).getD j 0) (k + 1)) (k + 1))
            rw [hN]
            refine Shr.of ?_ ?_ rfl rfl
            · show Rel _ _ ((.n (.n (.n (.n .e (some (.pt (.i (.o .h)) 0 0)) .e) (some (.pt .h 0 0)) (.n (.n (.n .e (some (.i .i64 ((aC aV P).length : Int))) .e) none .e) (some (.i .i64 ((aJ b 4).getD j 0))) (.n .e (some (.lst 1 (ints (aJ b 4)))) .e))) none (.n (.n .e (some (.ns)) .e) (some (.pt (.i .h) 0 0)) (.n .e none (.n .e (some (.i .i64 (j : Int))) .e)))) none (.n (.n (.n .e (some (.i .i64 ((4 : Nat) : Int))) .e) (some (.pt (.o .h) 0 0)) (.n (.n (.n .e (some (.i .i64 ((k + 1 : Nat) : Int))) .e) none .e) (some (.pt (.o (.i .h)) 0 0)) (.n .e (some (.i .i64 ((ints (aJ b 4)).length : Int))) .e))) none (.n (.n (.n (.n .e (some (.lst 2 (aC aV P))) .e) none .e) none .e) (some (.pt (.o (.o .h)) 0 0)) .e))) : T D) _
              (repeat' first | exact Rel.e | refine Rel.some ?_ ?_ ?_ | refine Rel.none ?_ ?_ | refine Rel.ee ?_ ?_)
              all_goals show Fz _ _ _ _
              all_goals first | exact .pu trivial | exact .kpt (show _ < 7 by simp [Pos.nat]) | exact .ksl (show _ < 7 by simp [Pos.nat]) | exact .pu (aB _) | exact .pu (aF _)
            · show Rel _ _ ((.n (.n (.n .e (some (gU 0 0)) .e) (some (sM S)) (.n .e (some (.cells false [.o (.i .i64 y.sun) 0, .o (.i .i64 y.calm) 0, .o (.i .i64 y.good) 0] 1)) .e)) (some (bZ b)) (.n (.n .e (some (gU a5 b5)) .e) (some (qJ kf P l hi)) .e)) : T C) _
              (repeat' first | exact Rel.e | refine Rel.some ?_ ?_ ?_ | refine Rel.none ?_ ?_ | refine Rel.ee ?_ ?_)
              all_goals first
                | exact RO'.of (show _ < 7 by simp [Pos.nat]) dN
                | exact RO'.of (show _ < 7 by simp [Pos.nat]) (aL b)
                | exact RO'.of (show _ < 7 by simp [Pos.nat]) (eX S)
                | exact RO'.of (show _ < 7 by simp [Pos.nat]) (iF kf P l hi)
                | exact RO'.of (show _ < 7 by simp [Pos.nat]) iG
        obtain rfl : k = P.length := by omega
        subst hX
        have cK := hk0 (qN b S P h ((aJ b h).getD j 0) P.length)
        repeat' first | ((first | refine Qz ?_ | refine Qf (cK) ?_ | refine Qy ?_) <;> conv => whnf) | (refine WB.tt ?_; conv => whnf) | (refine WB.ff ?_; conv => whnf)
        refine WSt.app_first (r := lA (kq b S P κ h ((aJ b h).getD j 0))) (by rfl) (.inl rfl) (by rfl) (by rfl) (by rfl) (by rfl) ?_; conv => whnf
        repeat' first | ((first | refine Qz ?_ | refine Qy ?_) <;> conv => whnf) | (refine WB.tt ?_; conv => whnf) | (refine WB.ff ?_; conv => whnf)
        refine Again.to (j + 1) (by omega) ⟨by omega, trivial⟩ (by show (fX (.o (.i .h)) (.i (.o (.o .h))) (((aJ b h).take j).map (kq b S P κ h))).nat ≤ (fX (.o (.i .h)) (.i (.o (.o .h))) (((aJ b h).take (j + 1)).map (kq b S P κ h))).nat; rw [hA, hsc]; exact (show 6 ≤ 9 by omega)) ?_
        show Shr _ (IK b S kf P l hi a5 b5 h (((aJ b h).take (j + 1)).map (kq b S P κ h)) (j + 1))
        rw [hsc]
        refine Shr.of ?_ ?_ rfl rfl
        · show Rel _ _ ((.n (.n (.n (.n .e (some (.pt (.i (.o .h)) 0 0)) .e) (some (.pt .h 0 0)) (.n .e none (.n .e (some (.lst 1 (ints (aJ b h)))) .e))) none (.n (.n .e (some ((.sl (.o (.o (.o .h))) 0 1 0 1))) .e) (some (.pt (.i .h) 0 0)) (.n .e none (.n .e (some (.i .i64 ((j + 1 : Nat) : Int))) .e)))) none (.n (.n (.n .e (some (.i .i64 (h : Int))) .e) (some (.pt (.o .h) 0 0)) (.n .e none (.n .e (some (.i .i64 ((ints (aJ b h)).length : Int))) .e))) none (.n .e (some (.pt (.o (.o .h)) 0 0)) .e))) : Ev.T D) _
          skip
          (repeat' first | exact Rel.e | refine Rel.some ?_ ?_ ?_ | refine Rel.none ?_ ?_ | refine Rel.ee ?_ ?_)
          all_goals show Fz _ _ _ _
          all_goals first | exact .pu trivial | exact .kpt (show _ < 9 by simp [Pos.nat]) | exact .ksl (show _ < 9 by simp [Pos.nat]) | exact .kmp (show _ < 9 by simp [Pos.nat]) | exact .pu (aB _) | exact .pu (aF _)
        · show Rel _ _ ((.n (.n (.n (.n .e (some (.cells false ((lA (kq b S P κ h ((aJ b h).getD j 0))).map fun d => Cell.o d 0) 1)) .e) (some (gU 0 0)) .e) (some (sM S)) .e) (some (bZ b)) (.n (.n .e (some (gU a5 b5)) .e) (some (qJ kf P l hi)) .e)) : Ev.T Ev.C) _
          skip
          (repeat' first | exact Rel.e | refine Rel.some ?_ ?_ ?_ | refine Rel.none ?_ ?_ | refine Rel.ee ?_ ?_)
          all_goals first
            | exact RO'.of (show _ < 9 by simp [Pos.nat]) (aL b)
            | exact RO'.of (show _ < 9 by simp [Pos.nat]) (eX S)
            | exact RO'.of (show _ < 9 by simp [Pos.nat]) (iF kf P l hi)
            | exact RO'.of (show _ < 9 by simp [Pos.nat]) iG
            | (refine RO'.of (show _ < 9 by simp [Pos.nat]) (ShC.same fun c hc => ?_); obtain ⟨d, hd, rfl⟩ := List.mem_map.1 hc; exact .pu (aT.1 (oF _) d hd))
      | cons a s =>
        have hs5 : s.length + 1 ≤ 1000 := Nat.le_trans hAl (by omega)
        repeat' first | ((first | refine Qz ?_ | refine Qy ?_) <;> conv => whnf) | (refine WB.tt ?_; conv => whnf) | (refine WB.ff ?_; conv => whnf)
        refine Rn.loop (fun k : Nat => Jf b S kf P l hi a5 b5 h a s j ((aJ b h).getD j 0) (qN b S P h ((aJ b h).getD j 0) k) k) (fun k => k ≤ P.length) (fun k => P.length - k) 0 ?_ (Nat.zero_le _) ?_
        · refine X.le.mk ?_ ?_ (Nat.le_refl _) rfl rfl
          · show T.le ((.n (.n (.n (.n .e (some (.pt (.i (.o .h)) 0 0)) .e) (some (.pt .h 0 0)) (.n (.n (.n .e (some (.i .i64 ((aC aV P).length : Int))) .e) none .e) (some (.i .i64 ((aJ b h).getD j 0))) (.n .e (some (.lst 1 (ints (aJ b h)))) .e))) none (.n (.n .e (some (.sl (.o (.o (.o .h))) 0 (s.length + 1) s.length 1)) .e) (some (.pt (.i .h) 0 0)) (.n .e none (.n .e (some (.i .i64 (j : Int))) .e)))) none (.n (.n (.n .e (some (.i .i64 (h : Int))) .e) (some (.pt (.o .h) 0 0)) (.n (.n (.n .e (some (.i .i64 0)) .e) none .e) (some (.pt (.i (.o (.o .h))) 0 0)) (.n .e (some (.i .i64 ((ints (aJ b h)).length : Int))) .e))) none (.n (.n (.n (.n .e (some (.lst 2 (aC aV P))) .e) none .e) none .e) (some (.pt (.o (.o .h)) 0 0)) .e))) : Ev.T D) _
            (repeat' first | exact T.le_e _ | refine T.le_some ?_ rfl ?_ | refine T.le_none ?_ ?_ | refine T.le_ee ?_ ?_)
          · show T.le ((.n (.n (.n (.n .e (some (.cells false ((aC lA (a :: s)).flatten.map fun d => Cell.o d s.length) (s.length + 1))) .e) (some (gU 0 0)) .e) (some (sM S)) .e) (some (bZ b)) (.n (.n (.n .e (some (.cells false [.o (.i .i64 0) 0, .o (.i .i64 0) 0, .o (.i .i64 0) 0] 1)) .e) (some (gU a5 b5)) .e) (some (qJ kf P l hi)) .e)) : Ev.T Ev.C) _
            (repeat' first | exact T.le_e _ | refine T.le_some ?_ rfl ?_ | refine T.le_none ?_ ?_ | refine T.le_ee ?_ ?_)
        intro k hk
        have hk : k ≤ P.length := hk
        have hbd := Bu b S P h ((aJ b h).getD j 0) k
        have hN : qN b S P h ((aJ b h).getD j 0) (k + 1) = mN (qN b S P h ((aJ b h).getD j 0) k) (iS b (P.getD k default) (S h (P.getD k default).1.toNat) h ((aJ b h).getD j 0)) := rfl
        generalize hX : qN b S P h ((aJ b h).getD j 0) k = x at *
        conv => whnf
        repeat' first | ((first | refine Qz ?_ | refine Qy ?_) <;> conv => whnf) | (refine WB.tt ?_; conv => whnf) | (refine WB.ff ?_; conv => whnf)
        refine WB.dec (fun hd3 => ?_) (fun hd3 => ?_) <;> conv => whnf
        · have hk2 : k < P.length := by omega
          have hsp := hP _ (aM (d := default) hk2)
          have cH := BW b V (P.getD k default) hsp (S h) h (by omega) ((aJ b h).getD j 0) hdk l4
          have bd2 := uY b (P.getD k default) (S h (P.getD k default).1.toNat) h ((aJ b h).getD j 0)
          have cP := Fk x (iS b (P.getD k default) (S h (P.getD k default).1.toNat) h ((aJ b h).getD j 0)) (by omega) (by omega)
          generalize mN x (iS b (P.getD k default) (S h (P.getD k default).1.toNat) h ((aJ b h).getD j 0)) = y at *
          rcases uI (show h < 5 by omega) with rfl | rfl | rfl | rfl | rfl
          · repeat' first | ((first | refine Qz ?_ | refine Qy ?_) <;> conv => whnf) | (refine WB.tt ?_; conv => whnf) | (refine WB.ff ?_; conv => whnf)
            refine WSt.ixaN (m := 0) rfl rfl rfl (by decide) ?_; conv => whnf
            repeat' first | ((first | refine Qz ?_ | refine Qf (cH) ?_ | refine Qf (cP) ?_ | refine Qy ?_) <;> conv => whnf) | (refine WB.tt ?_; conv => whnf) | (refine WB.ff ?_; conv => whnf)
            refine Again.to (k + 1) (by omega) (show k + 1 ≤ P.length by omega) (Nat.le_refl _) ?_
            show Shr _ (Jf b S kf P l hi a5 b5 0 a s j ((aJ b 0).getD j 0) (qN b S P 0 ((aJ b 0).getD j 0) (k + 1)) (k + 1))
            rw [hN]
            refine Shr.of ?_ ?_ rfl rfl
            · show Rel _ _ ((.n (.n (.n (.n .e (some (.pt (.i (.o .h)) 0 0)) .e) (some (.pt .h 0 0)) (.n (.n (.n .e (some (.i .i64 ((aC aV P).length : Int))) .e) none .e) (some (.i .i64 ((aJ b 0).getD j 0))) (.n .e (some (.lst 1 (ints (aJ b 0)))) .e))) none (.n (.n .e (some (.sl (.o (.o (.o .h))) 0 (s.length + 1) s.length 1)) .e) (some (.pt (.i .h) 0 0)) (.n .e none (.n .e (some (.i .i64 (j : Int))) .e)))) none (.n (.n (.n .e (some (.i .i64 ((0 : Nat) : Int))) .e) (some (.pt (.o .h) 0 0)) (.n (.n (.n .e (some (.i .i64 ((k + 1 : Nat) : Int))) .e) none .e) (some (.pt (.i (.o (.o .h))) 0 0)) (.n .e (some (.i .i64 ((ints (aJ b 0)).length : Int))) .e))) none (.n (.n (.n (.n .e (some (.lst 2 (aC aV P))) .e) none .e) none .e) (some (.pt (.o (.o .h)) 0 0)) .e))) : T D) _
              (repeat' first | exact Rel.e | refine Rel.some ?_ ?_ ?_ | refine Rel.none ?_ ?_ | refine Rel.ee ?_ ?_)
              all_goals show Fz _ _ _ _
              all_goals first | exact .pu trivial | exact .kpt (show _ < 10 by simp [Pos.nat]) | exact .ksl (show _ < 10 by simp [Pos.nat]) | exact .pu (aB _) | exact .pu (aF _)
            · show Rel _ _ ((.n (.n (.n (.n .e (some (.cells false ((aC lA (a :: s)).flatten.map fun d => Cell.o d s.length) (s.length + 1))) .e) (some (gU 0 0)) .e) (some (sM S)) .e) (some (bZ b)) (.n (.n (.n .e (some (.cells false [.o (.i .i64 y.sun) 0, .o (.i .i64 y.calm) 0, .o (.i .i64 y.good) 0] 1)) .e) (some (gU a5 b5)) .e) (some (qJ kf P l hi)) .e)) : T C) _
              (repeat' first | exact Rel.e | refine Rel.some ?_ ?_ ?_ | refine Rel.none ?_ ?_ | refine Rel.ee ?_ ?_)
              all_goals first
                | exact RO'.of (show _ < 10 by simp [Pos.nat]) dN
                | exact RO'.of (show _ < 10 by simp [Pos.nat]) (aL b)
                | exact RO'.of (show _ < 10 by simp [Pos.nat]) (eX S)
                | exact RO'.of (show _ < 10 by simp [Pos.nat]) (iF kf P l hi)
                | exact RO'.of (show _ < 10 by simp [Pos.nat]) iG
                | exact RO'.of (show _ < 10 by simp [Pos.nat]) (ShC.G oF a s)
          · repeat' first | ((first | refine Qz ?_ | refine Qy ?_) <;> conv => whnf) | (refine WB.tt ?_; conv => whnf) | (refine WB.ff ?_; conv => whnf)
            refine WSt.ixaN (m := 1) rfl rfl rfl (by decide) ?_; conv => whnf
            repeat' first | ((first | refine Qz ?_ | refine Qf (cH) ?_ | refine Qf (cP) ?_ | refine Qy ?_) <;> conv => whnf) | (refine WB.tt ?_; conv => whnf) | (refine WB.ff ?_; conv => whnf)
            refine Again.to (k + 1) (by omega) (show k + 1 ≤ P.length by omega) (Nat.le_refl _) ?_
            show Shr _ (Jf b S kf P l hi a5 b5 1 a s j ((aJ b 1).getD j 0) (qN b S P 1 ((aJ b 1).getD j 0) (k + 1)) (k + 1))
            rw [hN]
            refine Shr.of ?_ ?_ rfl rfl
            · show Rel _ _ ((.n (.n (.n (.n .e (some (.pt (.i (.o .h)) 0 0)) .e) (some (.pt .h 0 0)) (.n (.n (.n .e (some (.i .i64 ((aC aV P).length : Int))) .e) none .e) (some (.i .i64 ((aJ b 1).getD j 0))) (.n .e (some (.lst 1 (ints (aJ b 1)))) .e))) none (.n (.n .e (some (.sl (.o (.o (.o .h))) 0 (s.length + 1) s.length 1)) .e) (some (.pt (.i .h) 0 0)) (.n .e none (.n .e (some (.i .i64 (j : Int))) .e)))) none (.n (.n (.n .e (some (.i .i64 ((1 : Nat) : Int))) .e) (some (.pt (.o .h) 0 0)) (.n (.n (.n .e (some (.i .i64 ((k + 1 : Nat) : Int))) .e) none .e) (some (.pt (.i (.o (.o .h))) 0 0)) (.n .e (some (.i .i64 ((ints (aJ b 1)).length : Int))) .e))) none (.n (.n (.n (.n .e (some (.lst 2 (aC aV P))) .e) none .e) none .e) (some (.pt (.o (.o .h)) 0 0)) .e))) : T D) _
              (repeat' first | exact Rel.e | refine Rel.some ?_ ?_ ?_ | refine Rel.none ?_ ?_ | refine Rel.ee ?_ ?_)
              all_goals show Fz _ _ _ _
              all_goals first | exact .pu trivial | exact .kpt (show _ < 10 by simp [Pos.nat]) | exact .ksl (show _ < 10 by simp [Pos.nat]) | exact .pu (aB _) | exact .pu (aF _)
            · show Rel _ _ ((.n (.n (.n (.n .e (some (.cells false ((aC lA (a :: s)).flatten.map fun d => Cell.o d s.length) (s.length + 1))) .e) (some (gU 0 0)) .e) (some (sM S)) .e) (some (bZ b)) (.n (.n (.n .e (some (.cells false [.o (.i .i64 y.sun) 0, .o (.i .i64 y.calm) 0, .o (.i .i64 y.good) 0] 1)) .e) (some (gU a5 b5)) .e) (some (qJ kf P l hi)) .e)) : T C) _
              (repeat' first | exact Rel.e | refine Rel.some ?_ ?_ ?_ | refine Rel.none ?_ ?_ | refine Rel.ee ?_ ?_)
              all_goals first
                | exact RO'.of (show _ < 10 by simp [Pos.nat]) dN
                | exact RO'.of (show _ < 10 by simp [Pos.nat]) (aL b)
                | exact RO'.of (show _ < 10 by simp [Pos.nat]) (eX S)
                | exact RO'.of (show _ < 10 by simp [Pos.nat]) (iF kf P l hi)
                | exact RO'.of (show _ < 10 by simp [Pos.nat]) iG
                | exact RO'.of (show _ < 10 by simp [Pos.nat]) (ShC.G oF a s)
          · repeat' first | ((first | refine Qz ?_ | refine Qy ?_) <;> conv => whnf) | (refine WB.tt ?_; conv => whnf) | (refine WB.ff ?_; conv => whnf)
            refine WSt.ixaN (m := 2) rfl rfl rfl (by decide) ?_; conv => whnf
            repeat' first | ((first | refine Qz ?_ | refine Qf (cH) ?_ | refine Qf (cP) ?_ | refine Qy ?_) <;> conv => whnf) | (refine WB.tt ?_; conv => whnf) | (refine WB.ff ?_; conv => whnf)
            refine Again.to (k + 1) (by omega) (show k + 1 ≤ P.length by omega) (Nat.le_refl _) ?_
            show Shr _ (Jf b S kf P l hi a5 b5 2 a s j ((aJ b 2).getD j 0) (qN b S P 2 ((aJ b 2).getD j 0) (k + 1)) (k + 1))
            rw [hN]
            refine Shr.of ?_ ?_ rfl rfl
            · show Rel _ _ ((.n (.n (.n (.n .e (some (.pt (.i (.o .h)) 0 0)) .e) (some (.pt .h 0 0)) (.n (.n (.n .e (some (.i .i64 ((aC aV P).length : Int))) .e) none .e) (some (.i .i64 ((aJ b 2).getD j 0))) (.n .e (some (.lst 1 (ints (aJ b 2)))) .e))) none (.n (.n .e (some (.sl (.o (.o (.o .h))) 0 (s.length + 1) s.length 1)) .e) (some (.pt (.i .h) 0 0)) (.n .e none (.n .e (some (.i .i64 (j : Int))) .e)))) none (.n (.n (.n .e (some (.i .i64 ((2 : Nat) : Int))) .e) (some (.pt (.o .h) 0 0)) (.n (.n (.n .e (some (.i .i64 ((k + 1 : Nat) : Int))) .e) none .e) (some (.pt (.i (.o (.o .h))) 0 0)) (.n .e (some (.i .i64 ((ints (aJ b 2)).length : Int))) .e))) none (.n (.n (.n (.n .e (some (.lst 2 (aC aV P))) .e) none .e) none .e) (some (.pt (.o (.o .h)) 0 0)) .e))) : T D) _
              (repeat' first | exact Rel.e | refine Rel.some ?_ ?_ ?_ | refine Rel.none ?_ ?_ | refine Rel.ee ?_ ?_)
              all_goals show Fz _ _ _ _
              all_goals first | exact .pu trivial | exact .kpt (show _ < 10 by simp [Pos.nat]) | exact .ksl (show _ < 10 by simp [Pos.nat]) | exact .pu (aB _) | exact .pu (aF _)
            · show Rel _ _ ((.n (.n (.n (.n .e (some (.cells false ((aC lA (a :: s)).flatten.map fun d => Cell.o d s.length) (s.length + 1))) .e) (some (gU 0 0)) .e) (some (sM S)) .e) (some (bZ b)) (.n (.n (.n .e (some (.cells false [.o (.i .i64 y.sun) 0, .o (.i .i64 y.calm) 0, .o (.i .i64 y.good) 0] 1)) .e) (some (gU a5 b5)) .e) (some (qJ kf P l hi)) .e)) : T C) _
              (repeat' first | exact Rel.e | refine Rel.some ?_ ?_ ?_ | refine Rel.none ?_ ?_ | refine Rel.ee ?_ ?_)
              all_goals first
                | exact RO'.of (show _ < 10 by simp [Pos.nat]) dN
                | exact RO'.of (show _ < 10 by simp [Pos.nat]) (aL b)
                | exact RO'.of (show _ < 10 by simp [Pos.nat]) (eX S)
                | exact RO'.of (show _ < 10 by simp [Pos.nat]) (iF kf P l hi)
                | exact RO'.of (show _ < 10 by simp [Pos.nat]) iG
                | exact RO'.of (show _ < 10 by simp [Pos.nat]) (ShC.G oF a s)
          · repeat' first | ((first | refine Qz ?_ | refine Qy ?_) <;> conv => whnf) | (refine WB.tt ?_; conv => whnf) | (refine WB.ff ?_; conv => whnf)
            refine WSt.ixaN (m := 3) rfl rfl rfl (by decide) ?_; conv => whnf
            repeat' first | ((first | refine Qz ?_ | refine Qf (cH) ?_ | refine Qf (cP) ?_ | refine Qy ?_) <;> conv => whnf) | (refine WB.tt ?_; conv => whnf) | (refine WB.ff ?_; conv => whnf)
            refine Again.to (k + 1) (by omega) (show k + 1 ≤ P.length by omega) (Nat.le_refl _) ?_
            show Shr _ (Jf b S kf P l hi a5 b5 3 a s j ((aJ b 3).getD j 0) (qN b S P 3 ((aJ b 3).getD j 0) (k + 1)) (k + 1))
            rw [hN]
            refine Shr.of ?_ ?_ rfl rfl
            · show Rel _ _ ((.n (.n (.n (.n .e (some (.pt (.i (.o .h)) 0 0)) .e) (some (.pt .h 0 0)) (.n (.n (.n .e (some (.i .i64 ((aC aV P).length : Int))) .e) none .e) (some (.i .i64 ((aJ b 3).getD j 0))) (.n .e (some (.lst 1 (ints (aJ b 3)))) .e))) none (.n (.n .e (some (.sl (.o (.o (.o .h))) 0 (s.length + 1) s.length 1)) .e) (some (.pt (.i .h) 0 0)) (.n .e none (.n .e (some (.i .i64 (j : Int))) .e)))) none (.n (.n (.n .e (some (.i .i64 ((3 : Nat) : Int))) .e) (some (.pt (.o .h) 0 0)) (.n (.n (.n .e (some (.i .i64 ((k + 1 : Nat) : Int))) .e) none .e) (some (.pt (.i (.o (.o .h))) 0 0)) (.n .e (some (.i .i64 ((ints (aJ b 3)).length : Int))) .e))) none (.n (.n (.n (.n .e (some (.lst 2 (aC aV P))) .e) none .e) none .e) (some (.pt (.o (.o .h)) 0 0)) .e))) : T D) _
              (repeat' first | exact Rel.e | refine Rel.some ?_ ?_ ?_ | refine Rel.none ?_ ?_ | refine Rel.ee ?_ ?_)
              all_goals show Fz _ _ _ _
              all_goals first | exact .pu trivial | exact .kpt (show _ < 10 by simp [Pos.nat]) | exact .ksl (show _ < 10 by simp [Pos.nat]) | exact .pu (aB _) | exact .pu (aF _)
            · show Rel _ _ ((.n (.n (.n (.n .e (some (.cells false ((aC lA (a :: s)).flatten.map fun d => Cell.o d s.length) (s.length + 1))) .e) (some (gU 0 0)) .e) (some (sM S)) .e) (some (bZ b)) (.n (.n (.n .e (some (.cells false [.o (.i .i64 y.sun) 0, .o (.i .i64 y.calm) 0, .o (.i .i64 y.good) 0] 1)) .e) (some (gU a5 b5)) .e) (some (qJ kf P l hi)) .e)) : T C) _
              (repeat' first | exact Rel.e | refine Rel.some ?_ ?_ ?_ | refine Rel.none ?_ ?_ | refine Rel.ee ?_ ?_)
              all_goals first
                | exact RO'.of (show _ < 10 by simp [Pos.nat]) dN
                | exact RO'.of (show _ < 10 by simp [Pos.nat]) (aL b)
                | exact RO'.of (show _ < 10 by simp [Pos.nat]) (eX S)
                | exact RO'.of (show _ < 10 by simp [Pos.nat]) (iF kf P l hi)
                | exact RO'.of (show _ < 10 by simp [Pos.nat]) iG
                | exact RO'.of (show _ < 10 by simp [Pos.nat]) (ShC.G oF a s)
          · repeat' first | ((first | refine Qz ?_ | refine Qy ?_) <;> conv => whnf) | (refine WB.tt ?_; conv => whnf) | (refine WB.ff ?_; conv => whnf)
            refine WSt.ixaN (m := 4) rfl rfl rfl (by decide) ?_; conv => whnf
            repeat' first | ((first | refine Qz ?_ | refine Qf (cH) ?_ | refine Qf (cP) ?_ | refine Qy ?_) <;> conv => whnf) | (refine WB.tt ?_; conv => whnf) | (refine WB.ff ?_; conv => whnf)
            refine Again.to (k + 1) (by omega) (show k + 1 ≤ P.length by omega) (Nat.le_refl _) ?_
            show Shr _ (Jf b S kf P l hi a5 b5 4 a s j ((aJ b 4).getD j 0) (qN b S P 4 ((aJ b 4).getD j 0) (k + 1)) (k + 1))
            rw [hN]
            refine Shr.of ?_ ?_ rfl rfl
            · show Rel _ _ ((.n (.n (.n (.n .e (some (.pt (.i (.o .h)) 0 0)) .e) (some (.pt .h 0 0)) (.n (.n (.n .e (some (.i .i64 ((aC aV P).length : Int))) .e) none .e) (some (.i .i64 ((aJ b 4).getD j 0))) (.n .e (some (.lst 1 (ints (aJ b 4)))) .e))) none (.n (.n .e (some (.sl (.o (.o (.o .h))) 0 (s.length + 1) s.length 1)) .e) (some (.pt (.i .h) 0 0)) (.n .e none (.n .e (some (.i .i64 (j : Int))) .e)))) none (.n (.n (.n .e (some (.i .i64 ((4 : Nat) : Int))) .e) (some (.pt (.o .h) 0 0)) (.n (.n (.n .e (some (.i .i64 ((k + 1 : Nat) : Int))) .e) none .e) (some (.pt (.i (.o (.o .h))) 0 0)) (.n .e (some (.i .i64 ((ints (aJ b 4)).length : Int))) .e))) none (.n (.n (.n (.n .e (some (.lst 2 (aC aV P))) .e) none .e) none .e) (some (.pt (.o (.o .h)) 0 0)) .e))) : T D) _
              (repeat' first | exact Rel.e | refine Rel.some ?_ ?_ ?_ | refine Rel.none ?_ ?_ | refine Rel.ee ?_ ?_)
              all_goals show Fz _ _ _ _
              all_goals first | exact .pu trivial | exact .kpt (show _ < 10 by simp [Pos.nat]) | exact .ksl (show _ < 10 by simp [Pos.nat]) | exact .pu (aB _) | exact .pu (aF _)
            · show Rel _ _ ((.n (.n (.n (.n .e (some (.cells false ((aC lA (a :: s)).flatten.map fun d => Cell.o d s.length) (s.length + 1))) .e) (some (gU 0 0)) .e) (some (sM S)) .e) (some (bZ b)) (.n (.n (.n .e (some (.cells false [.o (.i .i64 y.sun) 0, .o (.i .i64 y.calm) 0, .o (.i .i64 y.good) 0] 1)) .e) (some (gU a5 b5)) .e) (some (qJ kf P l hi)) .e)) : T C) _
              (repeat' first | exact Rel.e | refine Rel.some ?_ ?_ ?_ | refine Rel.none ?_ ?_ | refine Rel.ee ?_ ?_)
              all_goals first
                | exact RO'.of (show _ < 10 by simp [Pos.nat]) dN
                | exact RO'.of (show _ < 10 by simp [Pos.nat]) (aL b)
                | exact RO'.of (show _ < 10 by simp [Pos.nat]) (eX S)
                | exact RO'.of (show _ < 10 by simp [Pos.nat]) (iF kf P l hi)
                | exact RO'.of (show _ < 10 by simp [Pos.nat]) iG
                | exact RO'.of (show _ < 10 by simp [Pos.nat]) (ShC.G oF a s)
        obtain rfl : k = P.length := by omega
        subst hX
        have cK := hk0 (qN b S P h ((aJ b h).getD j 0) P.length)
        repeat' first | ((first | refine Qz ?_ | refine Qf (cK) ?_ | refine Qy ?_) <;> conv => whnf) | (refine WB.tt ?_; conv => whnf) | (refine WB.ff ?_; conv => whnf)
        refine WSt.app_one (id := (.o (.o (.o .h)))) (ds := (aC lA (a :: s)).flatten) (r := lA (kq b S P κ h ((aJ b h).getD j 0))) (by rfl) (by rfl) (by rfl) (by rfl) (by rfl) (by rfl) (by rw [dT (z := 1) HF]; rfl) (by rfl) (by rfl) (by omega) (by rfl) ?_; conv => whnf
        repeat' first | ((first | refine Qz ?_ | refine Qy ?_) <;> conv => whnf) | (refine WB.tt ?_; conv => whnf) | (refine WB.ff ?_; conv => whnf)
        refine Again.to (j + 1) (by omega) ⟨by omega, trivial⟩ (by show (fX (.o (.i .h)) (.i (.o (.o .h))) (((aJ b h).take j).map (kq b S P κ h))).nat ≤ (fX (.o (.i .h)) (.i (.o (.o .h))) (((aJ b h).take (j + 1)).map (kq b S P κ h))).nat; rw [hA, hsc, List.cons_append]; exact (show 9 ≤ 9 by omega)) ?_
        show Shr _ (IK b S kf P l hi a5 b5 h (((aJ b h).take (j + 1)).map (kq b S P κ h)) (j + 1))
        rw [hsc, List.cons_append]
        refine Shr.of ?_ ?_ rfl rfl
        · show Rel _ _ ((.n (.n (.n (.n .e (some (.pt (.i (.o .h)) 0 0)) .e) (some (.pt .h 0 0)) (.n .e none (.n .e (some (.lst 1 (ints (aJ b h)))) .e))) none (.n (.n .e (some ((vX (.o (.o (.o .h))) 1 (a :: (s ++ [(kq b S P κ h ((aJ b h).getD j 0))]))))) .e) (some (.pt (.i .h) 0 0)) (.n .e none (.n .e (some (.i .i64 ((j + 1 : Nat) : Int))) .e)))) none (.n (.n (.n .e (some (.i .i64 (h : Int))) .e) (some (.pt (.o .h) 0 0)) (.n .e none (.n .e (some (.i .i64 ((ints (aJ b h)).length : Int))) .e))) none (.n .e (some (.pt (.o (.o .h)) 0 0)) .e))) : Ev.T D) _
          rw [fD]
          (repeat' first | exact Rel.e | refine Rel.some ?_ ?_ ?_ | refine Rel.none ?_ ?_ | refine Rel.ee ?_ ?_)
          all_goals show Fz _ _ _ _
          all_goals first | exact .pu trivial | exact .kpt (show _ < 9 by simp [Pos.nat]) | exact .ksl (show _ < 9 by simp [Pos.nat]) | exact .kmp (show _ < 9 by simp [Pos.nat]) | exact .pu (aB _) | exact .pu (aF _)
        · show Rel _ _ ((.n (.n (.n (.n .e (wU lA (a :: (s ++ [(kq b S P κ h ((aJ b h).getD j 0))]))) .e) (some (gU 0 0)) .e) (some (sM S)) .e) (some (bZ b)) (.n (.n .e (some (gU a5 b5)) .e) (some (qJ kf P l hi)) .e)) : Ev.T Ev.C) _
          rw [fF]
          (repeat' first | exact Rel.e | refine Rel.some ?_ ?_ ?_ | refine Rel.none ?_ ?_ | refine Rel.ee ?_ ?_)
          all_goals first
            | exact RO'.of (show _ < 9 by simp [Pos.nat]) (aL b)
            | exact RO'.of (show _ < 9 by simp [Pos.nat]) (eX S)
            | exact RO'.of (show _ < 9 by simp [Pos.nat]) (iF kf P l hi)
            | exact RO'.of (show _ < 9 by simp [Pos.nat]) iG
            | (refine RO'.of (show _ < 9 by simp [Pos.nat]) (ShC.grown (by omega) (aT.2 fun d hd => ?_)); rcases List.mem_append.1 hd with hd | hd <;> first | exact aT.1 (eI oF _) d hd | exact aT.1 (oF _) d hd)
    · obtain rfl : j = (aJ b h).length := by omega
      have hE := hend rfl
      cases A with
      | nil =>
        have := congrArg List.length hE
        unfold kV at this
        rw [List.length_map] at this
        exact absurd (List.length_eq_zero_iff.1 this.symm) hWn
      | cons a s =>
        repeat' first | ((first | refine Qz ?_ | refine Qy ?_) <;> conv => whnf) | (refine WB.tt ?_; conv => whnf) | (refine WB.ff ?_; conv => whnf)
        refine ⟨rfl, QV b S kf P l hi a5 b5 h (kV b S P κ h), (fun id : Pos => id.nat < 6), ?_, fun id h => h, fun id h => h, Nat.le_refl _, ?_⟩
        · refine ShrB.of ?_ ?_ rfl rfl
          · show Rel _ _ ((.n (.n (.n (.n .e (some (.pt (.i (.o .h)) 0 0)) .e) (some (.pt .h 0 0)) .e) none (.n (.n .e (some (.lst 1 (ints (kV b S P κ h)))) .e) (some (.pt (.i .h) 0 0)) .e)) none (.n (.n (.n .e (some (.i .i64 (h : Int))) .e) (some (.pt (.o .h) 0 0)) .e) none (.n .e (some (.pt (.o (.o .h)) 0 0)) .e))) : T D) _
            (repeat' first | exact Rel.e | refine Rel.some ?_ ?_ ?_ | refine Rel.none ?_ ?_ | refine Rel.ee ?_ ?_)
            all_goals show Fz _ _ _ _
            all_goals first | exact .pu trivial | exact .kpt (show _ < 6 by simp [Pos.nat]) | (rw [← hE]; exact Fz.G (f := lA) (a :: s) (show ¬ (8 : Nat) < 6 by omega) (fun c h => h) HF oF)
          · show Rel _ _ ((.n (.n (.n .e (some (gU 0 0)) .e) (some (sM S)) .e) (some (bZ b)) (.n (.n .e (some (gU a5 b5)) .e) (some (qJ kf P l hi)) .e)) : T C) _
            (repeat' first | exact Rel.e | refine Rel.some ?_ ?_ ?_ | refine Rel.none ?_ ?_ | refine Rel.ee ?_ ?_)
            all_goals first
              | exact RO'.of (show _ < 6 by simp [Pos.nat]) (aL b)
              | exact RO'.of (show _ < 6 by simp [Pos.nat]) (eX S)
              | exact RO'.of (show _ < 6 by simp [Pos.nat]) (iF kf P l hi)
              | exact RO'.of (show _ < 6 by simp [Pos.nat]) iG
        · have eV := aN (kV b S P κ h)
          have hVl : (kV b S P κ h).length = (aJ b h).length := List.length_map _
          have hVp : 0 < (kV b S P κ h).length := by
            rw [← hE]; simp
          have cMn := LN ((kV b S P κ h).getD 0 0) (kV b S P κ h) (by omega)
          have cMx := Mn (kV b S P κ h) hVp (by omega)
          have hm1 : (kV b S P κ h).foldl min ((kV b S P κ h).getD 0 0) = oQ b S P κ h := rfl
          have hm2 : (kV b S P κ h).foldl max ((kV b S P κ h).getD 0 0) = oO b S P κ h := rfl
          rw [hm1] at cMn
          rw [hm2] at cMx
          conv => whnf
          repeat' first | ((first | refine Qz ?_ | refine Qf (cMn) ?_ | refine Qf (cMx) ?_ | refine WIx.intsE (j := 0) rfl hVp ?_ | refine Qy ?_) <;> conv => whnf) | (refine WB.tt ?_; conv => whnf) | (refine WB.ff ?_; conv => whnf)
          refine Again.to (h + 1) (by omega) ⟨by omega, by omega⟩ (Nat.le_refl _) ?_
          rw [hn5, hn6]
          refine Shr.of ?_ ?_ rfl rfl
          · show Rel _ _ ((.n (.n (.n (.n .e (some (.pt (.i (.o .h)) 0 0)) .e) (some (.pt .h 0 0)) .e) none (.n .e (some (.pt (.i .h) 0 0)) .e)) none (.n (.n (.n .e (some (.i .i64 ((h + 1 : Nat) : Int))) .e) (some (.pt (.o .h) 0 0)) .e) none (.n .e (some (.pt (.o (.o .h)) 0 0)) .e))) : T D) _
            (repeat' first | exact Rel.e | refine Rel.some ?_ ?_ ?_ | refine Rel.none ?_ ?_ | refine Rel.ee ?_ ?_)
            all_goals show Fz _ _ _ _
            all_goals first | exact .pu trivial | exact .kpt (show _ < 6 by simp [Pos.nat])
          · show Rel _ _ ((.n (.n (.n .e (some (gU 0 0)) .e) (some (sM S)) .e) (some (bZ b)) (.n (.n .e (some (gU (a5 + oQ b S P κ h) (b5 + oO b S P κ h))) .e) (some (qJ kf P l hi)) .e)) : T C) _
            (repeat' first | exact Rel.e | refine Rel.some ?_ ?_ ?_ | refine Rel.none ?_ ?_ | refine Rel.ee ?_ ?_)
            all_goals first
              | exact RO'.of (show _ < 6 by simp [Pos.nat]) (aL b)
              | exact RO'.of (show _ < 6 by simp [Pos.nat]) (eX S)
              | exact RO'.of (show _ < 6 by simp [Pos.nat]) (iF kf P l hi)
              | exact RO'.of (show _ < 6 by simp [Pos.nat]) iG
  · have e : h = l + m := by omega
    rw [hz5 e, hz6 e]
    repeat' first | ((first | refine Qz ?_ | refine Qy ?_) <;> conv => whnf) | (refine WB.tt ?_; conv => whnf) | (refine WB.ff ?_; conv => whnf)
    exact ⟨.inr rfl, _, rfl, .pu ⟨trivial, trivial, trivial⟩⟩
theorem wN (g : Int → Int → Int) (hg : ∀ x y, g x y = x ∨ g x y = y) {lo hi : Int} : ∀ (L : List Int) (a : Int), lo ≤ a ∧ a ≤ hi → (∀ x ∈ L, lo ≤ x ∧ x ≤ hi) → lo ≤ L.foldl g a ∧ L.foldl g a ≤ hi
  | [], _, ha, _ => ha
  | x :: L, a, ha, h => by
    rw [List.foldl_cons]
    refine wN g hg L (g a x) ?_ fun y hy => h y (by simp [hy])
    rcases hg a x with e | e <;> rw [e]
    · exact ha
    · exact h x (by simp)
theorem DF (x y : Int) : min x y = x ∨ min x y = y := by omega
theorem Gd (x y : Int) : max x y = x ∨ max x y = y := by omega
theorem zV {f : Nat → Int} (hf : ∀ h, 0 ≤ f h ∧ f h ≤ 50) (l : Nat) : ∀ h : Nat, 0 ≤ jY f l h ∧ jY f l h ≤ 50 * h
  | 0 => by simp [jY]
  | h + 1 => by
    have h1 := zV hf l h
    have h2 := hf h
    unfold jY
    split <;> omega
structure KOk (kf : Pos) (κ : Hr → Int) : Prop where
  c : ∀ x, PureF Tryz.prog kf.ix [.ag (iB x)] (.i .i64 (κ x))
  bd : ∀ (x : Hr) (n : Int), (0 ≤ x.sun ∧ x.sun ≤ n) ∧ (0 ≤ x.calm ∧ x.calm ≤ n) ∧ (0 ≤ x.good ∧ x.good ≤ n) → 0 ≤ κ x ∧ κ x ≤ n
theorem KOk.sun : KOk p133 (fun x => x.sun) := ⟨IW, fun _ _ h => h.1⟩
theorem KOk.calm : KOk p103 (fun x => x.calm) := ⟨GI, fun _ _ h => h.2.1⟩
theorem KOk.good : KOk p105 (fun x => x.good) := ⟨Gw, fun _ _ h => h.2.2⟩
theorem Cm {kf : Pos} {κ : Hr → Int} (K : KOk kf κ) (b : Bh) (S : Nat → Nat → Int) (P : List (Int × Int)) (hP : P.length ≤ 50) (h : Nat) : ∀ x ∈ kV b S P κ h, 0 ≤ x ∧ x ≤ 50 := fun x hx => by
  obtain ⟨d, _, rfl⟩ := List.mem_map.1 hx
  have h1 := K.bd _ _ (Bu b S P h d P.length)
  show 0 ≤ κ (qN b S P h d P.length) ∧ κ (qN b S P h d P.length) ≤ 50
  omega
theorem EK {L : List Int} (h : ∀ x ∈ L, 0 ≤ x ∧ x ≤ 50) : 0 ≤ L.getD 0 0 ∧ L.getD 0 0 ≤ 50 := by
  cases L with
  | nil => decide
  | cons a L => exact h a (by simp)
theorem Ey {kf : Pos} {κ : Hr → Int} (K : KOk kf κ) (b : Bh) (S : Nat → Nat → Int) (P : List (Int × Int)) (hP : P.length ≤ 50) (h : Nat) : 0 ≤ oQ b S P κ h ∧ oQ b S P κ h ≤ 50 :=
  wN min DF _ _ (EK (Cm K b S P hP h)) (Cm K b S P hP h)
theorem Ds {kf : Pos} {κ : Hr → Int} (K : KOk kf κ) (b : Bh) (S : Nat → Nat → Int) (P : List (Int × Int)) (hP : P.length ≤ 50) (h : Nat) : 0 ≤ oO b S P κ h ∧ oO b S P κ h ≤ 50 :=
  wN max Gd _ _ (EK (Cm K b S P hP h)) (Cm K b S P hP h)
def ME (b : Bh) (S : Nat → Nat → Int) (P : List (Int × Int)) (κ : Hr → Int) (l m : Nat) : List D := [.i .i64 (jY (oQ b S P κ) l (l + m)), .i .i64 (jY (oO b S P κ) l (l + m))]
theorem HD (b : Bh) (V : VW b) (S : Nat → Nat → Int) {kf : Pos} {κ : Hr → Int} (K : KOk kf κ) (P : List (Int × Int)) (hP : ∀ p ∈ P, cJ b p = true) (l4 : b.brk.length ≤ 1000) (hPl : P.length ≤ 50) (l m : Nat) (hi : Int) (hhi : hi = ((l + m : Nat) : Int) - 1) (hm : l + m ≤ (b.last + 1).toNat) (l6 : ∀ w ∈ b.winds, w.length ≤ 1000) (l5 : b.nts.length ≤ 1000) (hne : ∀ h, h < (b.last + 1).toNat → aJ b h ≠ []) : PureF Tryz.prog p102.ix [.ag (dW b), .ag (lS S), .ag (Du kf P l hi)] (.ag (ME b S P κ l m)) := by
  have q := V.last
  exact En b V S kf κ K.c P hP l4 hPl l m hi hhi hm l6 l5 hne (fun h hh => by have := zV (Ey K b S P hPl) l h; omega) (fun h hh => by have := zV (Ds K b S P hPl) l h; omega)
end Go.Ev
end
