import Derived.Test.YtpemagogcagipaaEvMH
set_option linter.all false
namespace Go.Ev
open Go.Proofs
set_option maxRecDepth 100000
def sF (A : List (Nat → Int)) : List D := (rows seaD A).flatten
theorem sF_snoc (A : List (Nat → Int)) (c : Nat → Int) : sF (A ++ [c]) = sF A ++ seaD c := by simp [sF, rows]
theorem sF_length : ∀ A : List (Nat → Int), (sF A).length = A.length * 10
  | [] => rfl
  | c :: A => by
    have := sF_length A
    show (seaD c ++ sF A).length = _
    rw [List.length_append, this, List.length_cons, Nat.add_mul]
    simp [seaD]
    omega
theorem pu_seaD (c : Nat → Int) : PuL (seaD c) := by simp [PuL, Pu, seaD]
theorem pu_sF : ∀ A : List (Nat → Int), PuL (sF A)
  | [] => trivial
  | c :: A => by
    have h := pu_sF A
    show PuL (seaD c ++ sF A)
    exact PuL_iff.2 fun d hd => by
      rcases List.mem_append.1 hd with hd | hd
      · exact PuL_iff.1 (pu_seaD c) d hd
      · exact PuL_iff.1 h d hd
theorem pu_seas (A : List (Nat → Int)) : PuE (rows seaD A) := pu_rows pu_seaD A
theorem sea_ten (A : List (Nat → Int)) : ∀ r ∈ rows seaD A, r.length = 10 := fun r hr => by
  obtain ⟨c, _, rfl⟩ := List.mem_map.1 hr
  rfl
def slT : List (Nat → Int) → D
  | [] => .ns
  | _ :: s => .sl (.o (.i (.o .h))) 0 (s.length + 1) s.length 10
def blT : List (Nat → Int) → Option C
  | [] => none
  | a :: s => some (.cells false ((sF (a :: s)).map fun d => Cell.o d s.length) (s.length + 1))
def nxT : List (Nat → Int) → Pos
  | [] => .o (.o (.o .h))
  | _ :: _ => .i (.i (.o .h))
theorem slT_kp (A : List (Nat → Int)) {n : Nat} (h : (nxT A).nat ≤ n) : Kp n (slT A) := by
  cases A with
  | nil => simp [slT, Kp, Pu]
  | cons a s =>
    have h : 11 ≤ n := h
    simp [slT, Kp, Pos.nat]
    omega
theorem nxT_up (A B : List (Nat → Int)) : (nxT A).nat ≤ (nxT (A ++ B)).nat := by
  cases A with
  | nil => cases B <;> simp [nxT, Pos.nat]
  | cons a A => simp [nxT]
def rzC : C := .cells false [.o (.i .i64 0) 0, .o .ns 0, .o (.i .i64 0) 0, .o .ns 0, .o .ns 0, .o .ns 0] 1
def stT (row : List D) : T D := (.n (.n (.n (.n .e (some (.pt (.i .h) 0 0)) .e) none .e) none (.n .e none (.n (.n .e (some (.fn p106 [] [.pl row 0])) .e) none .e))) none (.n (.n .e (some (.pt (.o .h) 0 0)) .e) none .e))
section
variable (n : Nat) (hs : List Rg) (step : Int) (lv : List Int) (ms : List Mk)
noncomputable def stN : Sns (List (Nat → Int)) where
  o1 := fun _ => some (tabC ((n : Int) - 1) hs step lv ms)
  o2 := fun _ => some rzC
  o3 := fun A => some (wkC ((n : Int) - 1) hs step lv ms (slT A))
  o4 := fun _ => some (.lp (stT (row6 n hs step lv ms .ns)) [p23] 41 (rfA (bodyC Try.f73) 0) (rfB (bodyC Try.f73) 0) .ready none)
  o10 := blT
  nx := nxT
  step := fun A c => bif fitsR c ms then A ++ [c] else A
  goes := fun _ _ => true
theorem stF : ∀ (L A : List (Nat → Int)), (foldZ (stN n hs step lv ms) L A).1 = A ++ L.filter fun c => fitsR c ms
  | [], A => by simp [foldZ]
  | c :: L, A => by
    show (foldZ (stN n hs step lv ms) L (bif fitsR c ms then A ++ [c] else A)).1 = _
    rw [stF L]
    cases h : fitsR c ms with
    | true => simp [h]
    | false => simp [h]
theorem stO_kp (A : List (Nat → Int)) (c : Nat → Int) : KpO (nxT A).nat ((stN n hs step lv ms).ob (row6 n hs step lv ms .ns) A c) := by
  have hr := pu_row6 (n := n) (hs := hs) (step := step) (lv := lv) (ms := ms) (tr := .ns) trivial
  have hk := slT_kp A (Nat.le_refl _)
  have h8 : 8 ≤ (nxT A).nat := by cases A <;> simp [nxT, Pos.nat]
  have k1 : KpC (nxT A).nat (tabC ((n : Int) - 1) hs step lv ms) := tabC_kp _ _ _ _ _ _
  have k3 : KpC (nxT A).nat (wkC ((n : Int) - 1) hs step lv ms (slT A)) := by
    refine KpL.all ?_
    simp [KpL, Kp, Cell.d, Pu, pu_ints, pu_rg, pu_mk, hk]
  have k2 : KpC (nxT A).nat rzC := by
    refine KpL.all ?_
    simp [KpL, Kp, Cell.d, Pu]
  have k4 : ∀ s d, (stT (row6 n hs step lv ms .ns)).get s = some d → Kp (nxT A).nat d := by
    show TAll (fun _ d => Kp (nxT A).nat d) (stT (row6 n hs step lv ms .ns))
    unfold stT
    repeat' first | exact TAll.e | refine TAll.some ?_ ?_ ?_ | refine TAll.none ?_ ?_
    all_goals simp [Kp, KpL, Pu, hr, Pos.nat]
    all_goals omega
  have k10 : ∀ c, blT A = some c → KpC (nxT A).nat c := by
    cases A with
    | nil => exact fun c h => by cases h
    | cons a s =>
      rintro c h
      cases h
      intro x hx
      obtain ⟨d, hd, rfl⟩ := List.mem_map.1 hx
      exact Kp.pu d (PuL_iff.1 (pu_sF _) d hd)
  show TAll (fun id c => id.nat < (nxT A).nat ∧ KpC (nxT A).nat c) _
  unfold Sns.ob trS stN
  cases A with
  | nil =>
    simp only [blT]
    repeat' first | exact TAll.e | refine TAll.some ?_ ?_ ?_ | refine TAll.none ?_ ?_
    all_goals refine ⟨by simp [Pos.nat, nxT], ?_⟩
    all_goals first
      | exact k1
      | exact k2
      | exact k3
      | exact k4
      | exact seC_kp c _
      | (refine KpL.all ?_; simp [KpL, Kp, Cell.d, Pu, hr, Pos.nat, nxT])
  | cons a s =>
    simp only [blT]
    repeat' first | exact TAll.e | refine TAll.some ?_ ?_ ?_ | refine TAll.none ?_ ?_
    all_goals refine ⟨by simp [Pos.nat, nxT], ?_⟩
    all_goals first
      | exact k1
      | exact k2
      | exact k3
      | exact k4
      | exact seC_kp c _
      | exact k10 _ rfl
      | (refine KpL.all ?_; simp [KpL, Kp, Cell.d, Pu, hr, Pos.nat, nxT])
theorem stB_kp (A : List (Nat → Int)) : KpO (nxT A).nat ((stN n hs step lv ms).base A) := fun id c h => stO_kp n hs step lv ms A zeroS id c ((stN n hs step lv ms).le (row6 n hs step lv ms .ns) A zeroS id c h)
end
end Go.Ev

namespace Go.Ev
open Go.Proofs
set_option maxRecDepth 100000
theorem slT_snoc (a : Nat → Int) (s : List (Nat → Int)) (c : Nat → Int) : slT (a :: (s ++ [c])) = .sl (.o (.i (.o .h))) 0 (s.length + 1 + 1) (s.length + 1) 10 := by
  simp [slT]
theorem blT_snoc (a : Nat → Int) (s : List (Nat → Int)) (c : Nat → Int) : blT (a :: (s ++ [c])) = some (.cells false ((sF (a :: s) ++ seaD c).map fun d => Cell.o d (s.length + 1)) (s.length + 1 + 1)) := by
  rw [← sF_snoc]
  simp [blT]
theorem stN_ok (n : Nat) (hs : List Rg) (step : Int) (lv : List Int) (ms : List Mk) (hm : Vt ms) (hl : ms.length ≤ 1000) (top : Nat) (ht : top ≤ 2147483648) : SnsOk (stN n hs step lv ms) (row6 n hs step lv ms .ns) List.length top := by
  have hr := pu_row6 (n := n) (hs := hs) (step := step) (lv := lv) (ms := ms) (tr := .ns) trivial
  refine ⟨fun s c => stO_kp n hs step lv ms s c, fun s => stB_kp n hs step lv ms s, fun s => ?_, fun s c => ?_, fun s c _ => ?_, fun s c hc hw sl d K k => ?_⟩
  · cases s with
    | nil => exact .inl rfl
    | cons a s => exact .inr rfl
  · show (nxT s).nat ≤ (nxT (bif fitsR c ms then s ++ [c] else s)).nat
    cases fitsR c ms with
    | true => exact nxT_up s [c]
    | false => exact Nat.le_refl _
  · show (bif fitsR c ms then s ++ [c] else s).length ≤ s.length + 1
    cases fitsR c ms with
    | true => simp
    | false => simp
  · have cA := c_allMk ms p68 [.ag (seaD c)] [] (agreesM c) (by simp [PuL, Pu, seaD]) trivial hl (fun m hmm => c_agreesM c m (hm m hmm).1 (hm m hmm).2.1 (hm m hmm).2.2)
    rw [show (stN n hs step lv ms).goes s c = true from rfl] at k
    cases s with
    | nil =>
      refine WRnd.run rfl rc73a0_ok rc73b0_ok ⟨_, rfl, ?_⟩
      conv => whnf
      repeat' first | ((first | (with_reducible first | apply WB.tt | apply WB.ff) | apply Rn.seq | apply Rn.reg | apply Rn.drw | apply Rn.blk | apply Rn.skip | apply Rn.ret | apply Rn.exit | apply Rn.cond rfl | refine i64_ (by omega) (by omega) ?_ | refine ne0_ (by omega) ?_ | refine WIx.intsN (by omega) ?_ | refine WIx.rowsN (by omega) ?_) <;> conv => whnf)
      refine ⟨rfl, rfl, _, _, _, _, _, _, rfl, ?_⟩
      conv => whnf
      repeat' first | ((first | (with_reducible first | apply WB.tt | apply WB.ff) | apply Rn.seq | apply Rn.reg | apply Rn.drw | apply Rn.blk | apply Rn.skip | apply Rn.ret | apply Rn.exit | apply Rn.cond rfl | refine i64_ (by omega) (by omega) ?_ | refine ne0_ (by omega) ?_ | refine WIx.intsN (by omega) ?_ | refine WIx.rowsN (by omega) ?_ | refine WCall.pure (cA) ?_) <;> conv => whnf)
      refine WB.mk (fun h => ?_) (fun h => ?_) <;> conv => whnf
      · have h : fitsR c ms = true := h
        repeat' first | ((first | (with_reducible first | apply WB.tt | apply WB.ff) | apply Rn.seq | apply Rn.reg | apply Rn.drw | apply Rn.blk | apply Rn.skip | apply Rn.ret | apply Rn.exit | apply Rn.cond rfl | refine i64_ (by omega) (by omega) ?_ | refine ne0_ (by omega) ?_ | refine WIx.intsN (by omega) ?_ | refine WIx.rowsN (by omega) ?_) <;> conv => whnf)
        refine WSt.app_first (r := seaD c) rfl (.inl rfl) rfl rfl rfl rfl ?_; conv => whnf
        repeat' first | ((first | (with_reducible first | apply WB.tt | apply WB.ff) | apply Rn.seq | apply Rn.reg | apply Rn.drw | apply Rn.blk | apply Rn.skip | apply Rn.ret | apply Rn.exit | apply Rn.cond rfl | refine i64_ (by omega) (by omega) ?_ | refine ne0_ (by omega) ?_ | refine WIx.intsN (by omega) ?_ | refine WIx.rowsN (by omega) ?_) <;> conv => whnf)
        rw [show (stN n hs step lv ms).step [] c = [c] by show (bif fitsR c ms then [] ++ [c] else []) = _; rw [h]; rfl] at k
        refine ⟨_, _, _, _, _, _, _, (stN n hs step lv ms).ob (row6 n hs step lv ms .ns) [c] c, .i (.i (.o .h)), rfl, rfl, ?_, show 8 ≤ 11 by omega, k⟩
        refine Shr.kp ?_ (stO_kp n hs step lv ms [c] c)
        unfold Sns.ob trS stN
        (repeat' first | exact T.le_e _ | refine T.le_some ?_ rfl ?_ | refine T.le_none ?_ ?_)
      · have h : fitsR c ms = false := h
        repeat' first | ((first | (with_reducible first | apply WB.tt | apply WB.ff) | apply Rn.seq | apply Rn.reg | apply Rn.drw | apply Rn.blk | apply Rn.skip | apply Rn.ret | apply Rn.exit | apply Rn.cond rfl | refine i64_ (by omega) (by omega) ?_ | refine ne0_ (by omega) ?_ | refine WIx.intsN (by omega) ?_ | refine WIx.rowsN (by omega) ?_) <;> conv => whnf)
        rw [show (stN n hs step lv ms).step [] c = [] by show (bif fitsR c ms then [] ++ [c] else []) = _; rw [h]; rfl] at k
        refine ⟨_, _, _, _, _, _, _, (stN n hs step lv ms).ob (row6 n hs step lv ms .ns) [] c, .o (.o (.o .h)), rfl, rfl, ?_, Nat.le_refl _, k⟩
        refine Shr.kp ?_ (stO_kp n hs step lv ms [] c)
        unfold Sns.ob trS stN
        (repeat' first | exact T.le_e _ | refine T.le_some ?_ rfl ?_ | refine T.le_none ?_ ?_ | refine T.le_ee ?_ ?_)
    | cons a s =>
      refine WRnd.run rfl rc73a0_ok rc73b0_ok ⟨_, rfl, ?_⟩
      conv => whnf
      repeat' first | ((first | (with_reducible first | apply WB.tt | apply WB.ff) | apply Rn.seq | apply Rn.reg | apply Rn.drw | apply Rn.blk | apply Rn.skip | apply Rn.ret | apply Rn.exit | apply Rn.cond rfl | refine i64_ (by omega) (by omega) ?_ | refine ne0_ (by omega) ?_ | refine WIx.intsN (by omega) ?_ | refine WIx.rowsN (by omega) ?_) <;> conv => whnf)
      refine ⟨rfl, rfl, _, _, _, _, _, _, rfl, ?_⟩
      conv => whnf
      repeat' first | ((first | (with_reducible first | apply WB.tt | apply WB.ff) | apply Rn.seq | apply Rn.reg | apply Rn.drw | apply Rn.blk | apply Rn.skip | apply Rn.ret | apply Rn.exit | apply Rn.cond rfl | refine i64_ (by omega) (by omega) ?_ | refine ne0_ (by omega) ?_ | refine WIx.intsN (by omega) ?_ | refine WIx.rowsN (by omega) ?_ | refine WCall.pure (cA) ?_) <;> conv => whnf)
      refine WB.mk (fun h => ?_) (fun h => ?_) <;> conv => whnf
      · have h : fitsR c ms = true := h
        repeat' first | ((first | (with_reducible first | apply WB.tt | apply WB.ff) | apply Rn.seq | apply Rn.reg | apply Rn.drw | apply Rn.blk | apply Rn.skip | apply Rn.ret | apply Rn.exit | apply Rn.cond rfl | refine i64_ (by omega) (by omega) ?_ | refine ne0_ (by omega) ?_ | refine WIx.intsN (by omega) ?_ | refine WIx.rowsN (by omega) ?_) <;> conv => whnf)
        refine WSt.app_one (ds := sF (a :: s)) (r := seaD c) rfl rfl rfl rfl rfl rfl (by rw [sF_length]; rfl) rfl rfl (by simp at hw; omega) rfl ?_; conv => whnf
        repeat' first | ((first | (with_reducible first | apply WB.tt | apply WB.ff) | apply Rn.seq | apply Rn.reg | apply Rn.drw | apply Rn.blk | apply Rn.skip | apply Rn.ret | apply Rn.exit | apply Rn.cond rfl | refine i64_ (by omega) (by omega) ?_ | refine ne0_ (by omega) ?_ | refine WIx.intsN (by omega) ?_ | refine WIx.rowsN (by omega) ?_) <;> conv => whnf)
        rw [show (stN n hs step lv ms).step (a :: s) c = a :: (s ++ [c]) by show (bif fitsR c ms then (a :: s) ++ [c] else (a :: s)) = _; rw [h]; rfl] at k
        refine ⟨_, _, _, _, _, _, _, (stN n hs step lv ms).ob (row6 n hs step lv ms .ns) (a :: (s ++ [c])) c, .i (.i (.o .h)), rfl, rfl, ?_, Nat.le_refl _, k⟩
        refine Shr.of ?_ ?_ rfl rfl
        · exact Rel.e
        · have kp := stO_kp n hs step lv ms (a :: (s ++ [c])) c
          show Rel _ _ (trS (some (tabC ((n : Int) - 1) hs step lv ms)) (some rzC) (some (wkC ((n : Int) - 1) hs step lv ms (slT (a :: (s ++ [c]))))) (some (.lp (stT (row6 n hs step lv ms .ns)) [p23] 41 (rfA (bodyC Try.f73) 0) (rfB (bodyC Try.f73) 0) .ready none)) (some (.cells false [.o (.yl (.o (.o .h))) 0] 1)) (some (seC c)) (some (.cells false [.o (.fn p107 [] [.pl (row6 n hs step lv ms .ns) 0, .pt (.i (.o .h)) 0 0, .pt (.o (.i .h)) 0 0, .pt (.i (.i .h)) 0 0]) 0] 1)) (blT (a :: (s ++ [c])))) _
          have k3 := kp (.i .h) _ rfl
          have e3 : (stN n hs step lv ms).o3 (a :: (s ++ [c])) = some (wkC ((n : Int) - 1) hs step lv ms (slT (a :: (s ++ [c])))) := rfl
          rw [slT_snoc] at k3 ⊢
          rw [blT_snoc]
          unfold trS
          (repeat' first | exact Rel.e | refine Rel.some ?_ ?_ ?_ | refine Rel.none ?_ ?_)
          · exact RO'.of (kp (.o (.o .h)) _ rfl).1 (ShC.kp (kp (.o (.o .h)) _ rfl).2)
          · exact RO'.of (kp (.o .h) _ rfl).1 (ShC.kp (kp (.o .h) _ rfl).2)
          · exact RO'.of (show _ < 11 by simp [Pos.nat]) (ShC.grown (by omega) (PuL_iff.2 fun d hd => by
              rcases List.mem_append.1 hd with hd | hd
              · exact PuL_iff.1 (pu_sF _) d hd
              · exact PuL_iff.1 (pu_seaD _) d hd))
          · exact RO'.of (kp (.o (.i .h)) _ rfl).1 (ShC.kp (kp (.o (.i .h)) _ rfl).2)
          · exact RO'.of (kp (.h) _ rfl).1 (ShC.kp (kp (.h) _ rfl).2)
          · exact RO'.of (kp (.i (.o .h)) _ rfl).1 (ShC.kp (kp (.i (.o .h)) _ rfl).2)
          · exact RO'.of k3.1 (ShC.kp k3.2)
          · exact RO'.of (kp (.i (.i .h)) _ rfl).1 (ShC.kp (kp (.i (.i .h)) _ rfl).2)
      · have h : fitsR c ms = false := h
        repeat' first | ((first | (with_reducible first | apply WB.tt | apply WB.ff) | apply Rn.seq | apply Rn.reg | apply Rn.drw | apply Rn.blk | apply Rn.skip | apply Rn.ret | apply Rn.exit | apply Rn.cond rfl | refine i64_ (by omega) (by omega) ?_ | refine ne0_ (by omega) ?_ | refine WIx.intsN (by omega) ?_ | refine WIx.rowsN (by omega) ?_) <;> conv => whnf)
        rw [show (stN n hs step lv ms).step (a :: s) c = a :: s by show (bif fitsR c ms then (a :: s) ++ [c] else (a :: s)) = _; rw [h]; rfl] at k
        refine ⟨_, _, _, _, _, _, _, (stN n hs step lv ms).ob (row6 n hs step lv ms .ns) (a :: s) c, .i (.i (.o .h)), rfl, rfl, ?_, Nat.le_refl _, k⟩
        refine Shr.kp ?_ (stO_kp n hs step lv ms (a :: s) c)
        unfold Sns.ob trS stN
        (repeat' first | exact T.le_e _ | refine T.le_some ?_ rfl ?_ | refine T.le_none ?_ ?_ | refine T.le_ee ?_ ?_)
end Go.Ev

namespace Go.Ev
open Go.Proofs
set_option maxRecDepth 100000
def truthS (hs : List Rg) (step : Int) (ms : List Mk) : List (Nat → Int) := (exS hs step hs.length 0 zeroS).filter fun c => fitsR c ms
def zeroW : List D := [.i .i64 0, .ns, .i .i64 0, .ns, .ns, .ns]
theorem exS_many {hs : List Rg} {step : Int} (hv : Vr hs) (hm : manyR hs ≤ 2000) : (exS hs step hs.length 0 zeroS).length ≤ 2000 := by
  have h1 := exS_len hs step hs.length 0 zeroS (by omega)
  rw [List.drop_zero] at h1
  have h2 := szs_eq hv
  have h3 := manyR_eq hv
  omega
theorem truthS_len {hs : List Rg} {step : Int} {ms : List Mk} (hv : Vr hs) (hm : manyR hs ≤ 2000) : (truthS hs step ms).length ≤ 2000 :=
  Nat.le_trans (List.length_filter_le _ _) (exS_many hv hm)
def startE (last : Int) (hs : List Rg) (step : Int) (lv : List Int) (ms : List Mk) (b : Bool) : Int :=
  if faultR last hs step lv ms = 0 then (bif b then (if truthS hs step ms = [] then 11 else 0) else 2) else faultR last hs step lv ms
def startW (last : Int) (hs : List Rg) (step : Int) (lv : List Int) (ms : List Mk) (b : Bool) : List D :=
  if startE last hs step lv ms b = 0 then [.i .i64 last, .lst 2 (rows rgD hs), .i .i64 step, .lst 1 (ints lv), .lst 4 (rows mkD ms), .lst 10 (rows seaD (truthS hs step ms))] else zeroW
theorem c_start (last : Int) (hs : List Rg) (step : Int) (lv : List Int) (ms : List Mk) (b : Bool) : PureF Try.prog p74.ix [.ag [.i .i64 last, .lst 2 (rows rgD hs), .i .i64 step, .lst 1 (ints lv), .lst 4 (rows mkD ms)], .b b] (.tp [.ag (startW last hs step lv ms b), .i .i64 (startE last hs step lv ms b)]) := by
  refine PureF.run fn73 (by simp) (by simp [PuL, PuE, Pu, pu_ints, pu_rg, pu_mk]) ?_; conv => whnf
  repeat' first | ((first | (with_reducible first | apply WB.tt | apply WB.ff) | apply Rn.seq | apply Rn.reg | apply Rn.drw | apply Rn.blk | apply Rn.skip | apply Rn.ret | apply Rn.exit | apply Rn.cond rfl | refine i64_ (by omega) (by omega) ?_ | refine ne0_ (by omega) ?_ | refine WIx.intsN (by omega) ?_ | refine WIx.rowsN (by omega) ?_ | refine WCall.pure (c_CheckTable last hs step lv ms) ?_) <;> conv => whnf)
  refine WB.mk (fun h => ?_) (fun h => ?_) <;> conv => whnf
  · have hf : ¬ faultR last hs step lv ms = 0 := by simpa using h
    have hE : startE last hs step lv ms b = faultR last hs step lv ms := by unfold startE; rw [if_neg hf]
    unfold startW
    rw [hE, if_neg hf]
    repeat' first | ((first | (with_reducible first | apply WB.tt | apply WB.ff) | apply Rn.seq | apply Rn.reg | apply Rn.drw | apply Rn.blk | apply Rn.skip | apply Rn.ret | apply Rn.exit | apply Rn.cond rfl | refine i64_ (by omega) (by omega) ?_ | refine ne0_ (by omega) ?_ | refine WIx.intsN (by omega) ?_ | refine WIx.rowsN (by omega) ?_) <;> conv => whnf)
    refine ⟨.inr rfl, _, rfl, ?_⟩
    exact .tp (.cons (.ag (.cons (.pu trivial) (.cons (.pu trivial) (.cons (.pu trivial) (.cons (.pu trivial) (.cons (.pu trivial) (.cons (.pu trivial) .nil))))))) (.cons (.pu trivial) .nil))
  · have hf : faultR last hs step lv ms = 0 := by simpa using h
    obtain ⟨V, hm, _⟩ := fault_zero hf
    cases b with
    | false =>
      have hE : startE last hs step lv ms false = 2 := by unfold startE; rw [if_pos hf]; rfl
      unfold startW
      rw [hE, if_neg (by decide)]
      repeat' first | ((first | (with_reducible first | apply WB.tt | apply WB.ff) | apply Rn.seq | apply Rn.reg | apply Rn.drw | apply Rn.blk | apply Rn.skip | apply Rn.ret | apply Rn.exit | apply Rn.cond rfl | refine i64_ (by omega) (by omega) ?_ | refine ne0_ (by omega) ?_ | refine WIx.intsN (by omega) ?_ | refine WIx.rowsN (by omega) ?_) <;> conv => whnf)
      refine WB.tt ?_; conv => whnf
      repeat' first | ((first | (with_reducible first | apply WB.tt | apply WB.ff) | apply Rn.seq | apply Rn.reg | apply Rn.drw | apply Rn.blk | apply Rn.skip | apply Rn.ret | apply Rn.exit | apply Rn.cond rfl | refine i64_ (by omega) (by omega) ?_ | refine ne0_ (by omega) ?_ | refine WIx.intsN (by omega) ?_ | refine WIx.rowsN (by omega) ?_) <;> conv => whnf)
      refine ⟨.inr rfl, _, rfl, ?_⟩
      exact .tp (.cons (.ag (.cons (.pu trivial) (.cons (.pu trivial) (.cons (.pu trivial) (.cons (.pu trivial) (.cons (.pu trivial) (.cons (.pu trivial) .nil))))))) (.cons (.pu trivial) .nil))
    | true =>
      have iS := c_seas hs.length hs step lv ms .ns trivial
      have hr := pu_row6 (n := hs.length) (hs := hs) (step := step) (lv := lv) (ms := ms) (tr := .ns) trivial
      have C := c_seas1 (stN hs.length hs step lv ms) _ 2000 hs.length hs step lv ms .ns trivial rfl V.h10 V.hv V.s0 V.s99 (stN_ok hs.length hs step lv ms V.vt2 (by have := V.ms5; omega) 2000 (by omega)) [] rfl (by have := exS_many (step := step) V.hv hm; simp only [List.length_nil]; omega)
      rw [stF, List.nil_append] at C
      have hl : last = (hs.length : Int) - 1 := by have := V.n; omega
      subst hl
      have hE : startE ((hs.length : Int) - 1) hs step lv ms true = if truthS hs step ms = [] then 11 else 0 := by unfold startE; rw [if_pos hf]; rfl
      have hTl := truthS_len (step := step) (ms := ms) V.hv hm
      change CallOk Try.prog p106.ix _ _ _ none _ ((stN hs.length hs step lv ms).base (truthS hs step ms)) ((stN hs.length hs step lv ms).nx (truthS hs step ms)) none at C
      repeat' first | ((first | (with_reducible first | apply WB.tt | apply WB.ff) | apply Rn.seq | apply Rn.reg | apply Rn.drw | apply Rn.blk | apply Rn.skip | apply Rn.ret | apply Rn.exit | apply Rn.cond rfl | refine i64_ (by omega) (by omega) ?_ | refine ne0_ (by omega) ?_ | refine WIx.intsN (by omega) ?_ | refine WIx.rowsN (by omega) ?_) <;> conv => whnf)
      refine WB.ff ?_; conv => whnf
      repeat' first | ((first | (with_reducible first | apply WB.tt | apply WB.ff) | apply Rn.seq | apply Rn.reg | apply Rn.drw | apply Rn.blk | apply Rn.skip | apply Rn.ret | apply Rn.exit | apply Rn.cond rfl | refine i64_ (by omega) (by omega) ?_ | refine ne0_ (by omega) ?_ | refine WIx.intsN (by omega) ?_ | refine WIx.rowsN (by omega) ?_ | refine WCall.pure (iS) ?_) <;> conv => whnf)
      refine Rn.le (a := ⟨stT (row6 hs.length hs step lv ms .ns), trS (some (tabC ((hs.length : Int) - 1) hs step lv ms)) (some rzC) (some (wkC ((hs.length : Int) - 1) hs step lv ms .ns)) none none none none none, .o (.o .h), none⟩) ?_ ?_
      · cases hT : truthS hs step ms with
        | nil =>
          rw [hT] at C
          have hE2 : startE ((hs.length : Int) - 1) hs step lv ms true = 11 := by rw [hE, hT]; rfl
          unfold startW
          rw [hE2, if_neg (by decide)]
          refine Rn.rf rfl rfl C rfl (by simp) ?_; conv => whnf
          repeat' first | ((first | (with_reducible first | apply WB.tt | apply WB.ff) | apply Rn.seq | apply Rn.reg | apply Rn.drw | apply Rn.blk | apply Rn.skip | apply Rn.ret | apply Rn.exit | apply Rn.cond rfl | refine i64_ (by omega) (by omega) ?_ | refine ne0_ (by omega) ?_ | refine WIx.intsN (by omega) ?_ | refine WIx.rowsN (by omega) ?_) <;> conv => whnf)
          refine WB.tt ?_; conv => whnf
          repeat' first | ((first | (with_reducible first | apply WB.tt | apply WB.ff) | apply Rn.seq | apply Rn.reg | apply Rn.drw | apply Rn.blk | apply Rn.skip | apply Rn.ret | apply Rn.exit | apply Rn.cond rfl | refine i64_ (by omega) (by omega) ?_ | refine ne0_ (by omega) ?_ | refine WIx.intsN (by omega) ?_ | refine WIx.rowsN (by omega) ?_) <;> conv => whnf)
          refine ⟨.inr rfl, _, rfl, ?_⟩
          exact .tp (.cons (.ag (.cons (.pu trivial) (.cons (.pu trivial) (.cons (.pu trivial) (.cons (.pu trivial) (.cons (.pu trivial) (.cons (.pu trivial) .nil))))))) (.cons (.pu trivial) .nil))
        | cons a s =>
          rw [hT] at C hTl
          have hE2 : startE ((hs.length : Int) - 1) hs step lv ms true = 0 := by rw [hE, hT]; rfl
          unfold startW
          rw [hE2, if_pos rfl, hT]
          refine Rn.rf rfl rfl C rfl (by simp) ?_; conv => whnf
          repeat' first | ((first | (with_reducible first | apply WB.tt | apply WB.ff) | apply Rn.seq | apply Rn.reg | apply Rn.drw | apply Rn.blk | apply Rn.skip | apply Rn.ret | apply Rn.exit | apply Rn.cond rfl | refine i64_ (by omega) (by omega) ?_ | refine ne0_ (by omega) ?_ | refine WIx.intsN (by omega) ?_ | refine WIx.rowsN (by omega) ?_) <;> conv => whnf)
          refine WB.dec (fun h => ?_) (fun h => ?_) <;> conv => whnf
          · simp at *
            omega
          repeat' first | ((first | (with_reducible first | apply WB.tt | apply WB.ff) | apply Rn.seq | apply Rn.reg | apply Rn.drw | apply Rn.blk | apply Rn.skip | apply Rn.ret | apply Rn.exit | apply Rn.cond rfl | refine i64_ (by omega) (by omega) ?_ | refine ne0_ (by omega) ?_ | refine WIx.intsN (by omega) ?_ | refine WIx.rowsN (by omega) ?_) <;> conv => whnf)
          refine ⟨.inr rfl, _, rfl, ?_⟩
          refine .tp (.cons (.ag (.cons (.pu trivial) (.cons (.pu (pu_rg _)) (.cons (.pu trivial) (.cons (.pu (pu_ints _)) (.cons (.pu (pu_mk _)) (.cons ?_ .nil))))))) (.cons (.pu trivial) .nil))
          exact Frz.whole (cs := (sF (a :: s)).map fun d => Cell.o d s.length) (cur := s.length + 1) rfl (by simp [rows]) (sea_ten _) (by rfl) (pu_seas _)
      · refine X.le.mk ?_ ?_ (by simp [Pos.nat]) rfl rfl
        · unfold stT
          (repeat' first | exact T.le_e _ | refine T.le_some ?_ rfl ?_ | refine T.le_none ?_ ?_)
        · unfold trS
          (repeat' first | exact T.le_e _ | refine T.le_some ?_ rfl ?_ | refine T.le_none ?_ ?_ | refine T.le_ee ?_ ?_)
end Go.Ev
