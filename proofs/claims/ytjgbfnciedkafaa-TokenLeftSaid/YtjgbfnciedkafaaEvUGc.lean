import Derived.Test.YtjgbfnciedkafaaEvUG7
import Derived.Test.YtjgbfnciedkafaaEvUGn
import Derived.Test.YtjgbfnciedkafaaEvUTc
import Derived.Test.YtjgbfnciedkafaaEvUJs
set_option linter.all false
namespace Go.Ev
open Go.Proofs
set_option maxRecDepth 100000
def i14 : Pos := .o (.i (.i .h))
structure AskOk (B : Bk) (g : Pos) (first caps : List D) (ak : Mo → Int) : Prop where
  p1 : PuL first
  p2 : PuL caps
  ok : ∀ (Q : List Ln) (i : Nat), i ≤ 8 → PureF Try.prog g.ix (first ++ ([.ag (moD (moR B.box B.coin Q i))] ++ caps)) (.i .i64 (ak (moR B.box B.coin Q i)))
def bdI (B : Bk) (aft : Nat) (ak : Mo → Int) (h : List (List Ln)) (s : List Int) : Prop := s = h.map fun X => ak (moR B.box B.coin X aft)
def bdRl (B : Bk) (aft : Nat) (ak : Mo → Int) (s : List Int) (X : List Ln) (s' : List Int) (g : Bool) : Prop := s' = s ++ [ak (moR B.box B.coin X aft)] ∧ g = true
set_option maxHeartbeats 1000000 in
theorem bd_ok {B : Bk} (V : VB B) {aft : Nat} {g : Pos} {first caps : List D} {ak : Mo → Int} (A : AskOk B g first caps ak) (ha : aft ≤ B.ls.length) : TnsOk (bdM aft g first caps) B (bdI B aft ak) (bdRl B aft ak) := by
  have hL := V.len
  refine ⟨fun M F s => bd_kp A.p1 A.p2 M F s, ?_, ?_⟩
  · rintro h s X s' _ hI ⟨rfl, _⟩
    have hI : s = h.map fun X => ak (moR B.box B.coin X aft) := hI
    show s ++ [_] = (h ++ [X]).map _
    rw [hI, List.map_append]; rfl
  · intro h s hI X hpre M hM
    have hXe := mem_exT.1 (hpre.subset (show X ∈ h ++ [X] by simp))
    have hXl : X.length = B.ls.length := by have := hXe.len; simpa using this
    have hsl : s.length < 4096 := by
      have hI : s = h.map fun X => ak (moR B.box B.coin X aft) := hI
      have q1 := hpre.length_le
      have q2 := ex_len V
      rw [hI, List.length_map]
      rw [List.length_append, List.length_singleton] at q1
      omega
    have hmo : moF B.box B.coin X X.length aft = moR B.box B.coin X aft := moF_le (by omega)
    have cA := A.ok X aft (by omega)
    generalize hv : ak (moR B.box B.coin X aft) = v at cA
    generalize hF : moF B.box B.coin X X.length = F at hmo ⊢
    cases s with
    | nil =>
      refine RndOk.runEF (sl0 := bdS) rfl rc88a0_ok rc88b0_ok ⟨_, rfl, ?_⟩
      unfold Tns.ob trL bdM bdS
      conv => whnf
      repeat' first | ((first | with_reducible (first | apply Qt | apply Qu) | refine Qa rfl ?_ | refine Qk rfl ?_ | refine Qb ?_ | refine Qc ?_ | refine Qi ?_ | refine Qj ?_) <;> conv => whnf)
      refine ⟨rfl, rfl, _, _, _, _, _, _, rfl, ?_⟩
      conv => whnf
      repeat' first | ((first | with_reducible (first | apply Qt | apply Qu) | refine Qa rfl ?_ | refine Qk rfl ?_ | refine Qb ?_ | refine Qc ?_ | refine Qi ?_ | refine Qj ?_) <;> conv => whnf)
      refine WSt.ixaN (m := aft) rfl rfl rfl (by omega) ?_; conv => whnf
      refine wSt.ldM (F := F) (q := aft) (by rfl) (by rfl) (by rfl) (by omega) ?_
      rw [hmo]
      conv => whnf
      repeat' first | ((first | with_reducible (first | apply Qt | apply Qu) | refine Qa rfl ?_ | refine Qk rfl ?_ | refine Qb ?_ | refine Qc ?_ | refine Qi ?_ | refine Qj ?_ | refine Qf (cA) ?_) <;> conv => whnf)
      refine WSt.app_firstL (r := [.i .i64 v]) rfl (.inl rfl) rfl rfl rfl rfl ?_; conv => whnf
      repeat' first | ((first | with_reducible (first | apply Qt | apply Qu) | refine Qa rfl ?_ | refine Qk rfl ?_ | refine Qb ?_ | refine Qc ?_ | refine Qi ?_ | refine Qj ?_) <;> conv => whnf)
      refine ⟨_, _, _, _, _, _, _, (trL (some (.map (mapL M))) none (some (.cells false [.o (.i .i64 (aft : Int)) 0, .o (.fn g first caps) 0] 1)) (some (.cells false [.o (.i .i64 0) 0, .o (.i .i64 0) 0] 1)) (some (.cells false [.o (.sl i14 0 1 0 1) 0] 1)) (some (wkCl B)) (some (.lp bdS [p10] 28 (rfA (bodyC Try.f88) 0) (rfB (bodyC Try.f88) 0) .ready none)) (some (.cells false [.o (.yl i7) 0] 1)) (some (moC F)) (some (.cells false [.o rdF 0] 1)) (some .hole) none none (some (.cells false [.o (.i .i64 v) 0] 1)) none none none none none none), (bdM aft g first caps).ob B M F [v], rfl, rfl, .i (.i (.i .h)), i14, by simp [n12, Pos.nat], by simp [n12, i14, Pos.nat], Shr.kp ?_ ?_, ?_, [v], ⟨by rw [← hv]; rfl, rfl⟩, rfl⟩
      · unfold trL bdS
        repeat' first | exact T.le_e _ | refine T.le_some ?_ rfl ?_ | refine T.le_same ?_ ?_ | refine T.le_none ?_ ?_
      · have k1 := KpL.pu (n := 15) first A.p1
        have k2 := KpL.pu (n := 15) caps A.p2
        show TAll (fun id c => id.nat < 15 ∧ KpC 15 c) _
        unfold trL
        repeat' first | exact TAll.e | refine TAll.some ?_ ?_ ?_ | refine TAll.none ?_ ?_
        all_goals refine ⟨by simp [Pos.nat], ?_⟩
        all_goals first
          | exact mapL_kp
          | exact fun s d h => (bdS_kp s d h).up (by omega)
          | exact puC (kp_mo126 _ _)
          | exact wkCl_kp B (by omega)
          | trivial
          | (refine KpL.all ?_; simp [KpL, Kp, Cell.d, Pu, rdF, k1, k2, i6, i7, i8, i9, i10, i14, Pos.nat])
      · refine ⟨i11, .i (.o .h), false, 1, 0, 1, 0, 1, 0, 1, [.i .i64 v], by simp [i11, n12, Pos.nat], by simp [i11, Pos.nat], rfl, by simp [PuL, Pu], rfl, rfl, fun i ci hci => ?_⟩
        rcases bd_at A.p1 A.p2 M F [v] hci with ⟨q1, q2⟩ | ⟨q1, q2⟩ | ⟨_, _, q3⟩
        · exact .inl ⟨q1, (Option.some.inj q2).symm⟩
        · exact .inr (.inl ⟨q1, q2⟩)
        · obtain ⟨r1, r2⟩ := bdR_kp A.p1 A.p2 M F i ci q3
          refine .inr (.inr ⟨r1, ?_, r2⟩)
          have hle : T.le (bdR B M F aft g first caps) (trL (some (.map (mapL M))) none (some (.cells false [.o (.i .i64 (aft : Int)) 0, .o (.fn g first caps) 0] 1)) (some (.cells false [.o (.i .i64 0) 0, .o (.i .i64 0) 0] 1)) (some (.cells false [.o (.sl i14 0 1 0 1) 0] 1)) (some (wkCl B)) (some (.lp bdS [p10] 28 (rfA (bodyC Try.f88) 0) (rfB (bodyC Try.f88) 0) .ready none)) (some (.cells false [.o (.yl i7) 0] 1)) (some (moC F)) (some (.cells false [.o rdF 0] 1)) (some .hole) none none (some (.cells false [.o (.i .i64 v) 0] 1)) none none none none none none) := by
            unfold bdR trL
            repeat' first | exact T.le_e _ | refine T.le_some ?_ rfl ?_ | refine T.le_same ?_ ?_ | refine T.le_none ?_ ?_
          exact hle i ci q3
    | cons a s =>
      have hs2 : s.length + 1 < 4096 := hsl
      refine RndOk.runE (sl0 := bdS) rfl rc88a0_ok rc88b0_ok ⟨_, rfl, ?_⟩
      unfold Tns.ob trL bdM bdS slA blA
      conv => whnf
      repeat' first | ((first | with_reducible (first | apply Qt | apply Qu) | refine Qa rfl ?_ | refine Qk rfl ?_ | refine Qb ?_ | refine Qc ?_ | refine Qi ?_ | refine Qj ?_) <;> conv => whnf)
      refine ⟨rfl, rfl, _, _, _, _, _, _, rfl, ?_⟩
      conv => whnf
      repeat' first | ((first | with_reducible (first | apply Qt | apply Qu) | refine Qa rfl ?_ | refine Qk rfl ?_ | refine Qb ?_ | refine Qc ?_ | refine Qi ?_ | refine Qj ?_) <;> conv => whnf)
      refine WSt.ixaN (m := aft) rfl rfl rfl (by omega) ?_; conv => whnf
      refine wSt.ldM (F := F) (q := aft) (by rfl) (by rfl) (by rfl) (by omega) ?_
      rw [hmo]
      conv => whnf
      repeat' first | ((first | with_reducible (first | apply Qt | apply Qu) | refine Qa rfl ?_ | refine Qk rfl ?_ | refine Qb ?_ | refine Qc ?_ | refine Qi ?_ | refine Qj ?_ | refine Qf (cA) ?_) <;> conv => whnf)
      refine WSt.app_oneL (ds := (a :: s).map fun n => D.i .i64 n) (r := [.i .i64 v]) rfl rfl rfl rfl rfl rfl (by simp) rfl rfl (by omega) rfl ?_; conv => whnf
      repeat' first | ((first | with_reducible (first | apply Qt | apply Qu) | refine Qa rfl ?_ | refine Qk rfl ?_ | refine Qb ?_ | refine Qc ?_ | refine Qi ?_ | refine Qj ?_) <;> conv => whnf)
      have hln : (s ++ [v]).length = s.length + 1 := by simp
      have hb : blA (a :: s ++ [v]) = some (.cells false (((a :: s).map fun n => D.i .i64 n) ++ [D.i .i64 v] |>.map fun d => Cell.o d (s.length + 1)) (s.length + 1 + 1)) := by
        show some (Ev.C.cells false (((a :: (s ++ [v])).map fun n => D.i .i64 n).map fun d => Cell.o d (s ++ [v]).length) ((s ++ [v]).length + 1)) = _
        rw [hln, ← List.cons_append, List.map_append]; rfl
      have hsl' : slA (a :: s ++ [v]) = .sl i11 0 (s.length + 1 + 1) (s.length + 1) 1 := by
        show D.sl i11 0 ((s ++ [v]).length + 1) (s ++ [v]).length 1 = _
        rw [hln]
      refine ⟨_, _, _, _, _, _, _, (bdM aft g first caps).ob B M F (a :: s ++ [v]), rfl, rfl, ?_, a :: s ++ [v], ⟨by rw [← hv], rfl⟩, rfl⟩
      show Shr _ ⟨.e, trL (some (.map (mapL M))) none (some (.cells false [.o (.i .i64 (aft : Int)) 0, .o (.fn g first caps) 0] 1)) (some (.cells false [.o (.i .i64 0) 0, .o (.i .i64 0) 0] 1)) (some (.cells false [.o (slA (a :: s ++ [v])) 0] 1)) (some (wkCl B)) (some (.lp bdS [p10] 28 (rfA (bodyC Try.f88) 0) (rfB (bodyC Try.f88) 0) .ready none)) (some (.cells false [.o (.yl i7) 0] 1)) (some (moC F)) (some (.cells false [.o rdF 0] 1)) (blA (a :: s ++ [v])) none none none none none none none none none, n12, none⟩
      rw [hb, hsl']
      have k1 := KpL.pu (n := 12) first A.p1
      have k2 := KpL.pu (n := 12) caps A.p2
      have hpv : PuL (((a :: s).map fun n => D.i .i64 n) ++ [D.i .i64 v]) := PuL_iff.2 fun d hd => by
        rcases List.mem_append.1 hd with h | h
        · exact PuL_iff.1 (puL_map_j (a :: s)) d h
        · rw [List.mem_singleton.1 h]; trivial
      refine Shr.of ?_ ?_ rfl rfl
      · exact Rel.e
      · unfold trL
        repeat' first | exact Rel.e | refine Rel.some ?_ ?_ ?_ | refine Rel.none ?_ ?_
        all_goals refine RO'.of (by simp [Pos.nat, n12]) ?_
        all_goals first
          | exact ShC.kp mapL_kp
          | exact ShC.kp (n := 12) (fun s d h => (bdS_kp s d h).up (by omega))
          | exact ShC.kp (puC (kp_mo126 _ _))
          | exact ShC.kp (n := 12) (wkCl_kp B (by omega))
          | exact ShC.grown (by omega) hpv
          | (refine ShC.kp (n := 12) (KpL.all ?_); simp [KpL, Kp, Cell.d, Pu, rdF, k1, k2, i6, i7, i8, i9, i10, i11, Pos.nat])
theorem j_truths {B : Bk} {x1 x2 x3 x4 x5 : Option Ev.C} (hk : KpO 6 (trL x1 x2 x3 x4 x5 none none none none none none none none none none none none none none none)) : CallOk Try.prog p120.ix [.ag (wkQ B ++ [.mp .h])] (trL x1 x2 x3 x4 x5 none none none none none none none none none none none none none none none) i6 none (.fn p136 [] [.pt i6 0 0]) (trL x1 x2 x3 x4 x5 (some (wkCl B)) none none none none none none none none none none none none none none) i7 none := by
  refine CallOk.run fn119 (by simp) (by simp [i6, i7, Pos.nat]) ?_
  unfold wkQ trL
  conv => whnf
  repeat' first | ((first | with_reducible (first | apply Qt | apply Qu) | refine Qa rfl ?_ | refine Qk rfl ?_ | refine Qb ?_ | refine Qc ?_ | refine Qi ?_ | refine Qj ?_) <;> conv => whnf)
  refine ⟨.inr rfl, ⟨_, rfl, .fn .nil (.cons (.kpt (by simp [i6, i7, Pos.nat])) .nil)⟩, Shr.kp (T.le_refl _) fun id c h => ?_⟩
  by_cases e : id = i6
  · subst e
    have h : some (wkCl B) = some c := h
    cases h
    exact ⟨by simp [i6, i7, Pos.nat], wkCl_kp B (by simp [i7, Pos.nat])⟩
  · have h2 : (trL x1 x2 x3 x4 x5 none none none none none none none none none none none none none none none).get id = some c := by
      have := T.get_set_ne e (wkCl B) (trL x1 x2 x3 x4 x5 none none none none none none none none none none none none none none none)
      rw [← this]; exact h
    obtain ⟨q1, q2⟩ := hk id c h2
    exact ⟨by simp [i7, Pos.nat]; omega, q2.up (by simp [i7, Pos.nat])⟩
def lohi (L : List Int) : D := .ag [.i .i64 (L.foldl min (L.getD 0 0)), .i .i64 (L.foldl max (L.getD 0 0))]
def ansL (B : Bk) (aft : Nat) (ak : Mo → Int) : List Int := (exT B B.ls.length []).map fun X => ak (moR B.box B.coin X aft)
theorem bd_fld {B : Bk} {aft : Nat} {ak : Mo → Int} : ∀ (L : List (List Ln)) {s s' : List Int} {g : Bool}, Fld (bdRl B aft ak) L s s' g → s' = s ++ L.map (fun X => ak (moR B.box B.coin X aft)) ∧ g = true
  | [], s, s', g, h => by cases h; simp
  | X :: L, s, s', g, h => by
    cases h with
    | stop h => cases h.2
    | go h k =>
      obtain ⟨rfl, _⟩ := h
      obtain ⟨h1, h2⟩ := bd_fld L k
      exact ⟨by rw [h1]; simp, h2⟩
set_option maxHeartbeats 1000000 in
theorem j_bounds {B : Bk} (V : VB B) {aft : Nat} {g : Pos} {first caps : List D} {ak : Mo → Int} (A : AskOk B g first caps ak) (ha : aft ≤ B.ls.length) (hne : exT B B.ls.length [] ≠ []) (M : Memo) (hM : MOk B M) :
    ∃ M', MOk B M' ∧ CallOk Try.prog p89.ix [.ag (wkQ B ++ [.mp .h]), .ag [.i .i64 (aft : Int), .fn g first caps]] (mapP M) (.o .h) none (lohi (ansL B aft ak)) (mapP M') (.o .h) none := by
  have h1 := A.p1
  have h2 := A.p2
  obtain ⟨_, _, ⟨M', s', gg, hM', hFl, rfl, rfl⟩, Hc⟩ := j_truths1 V (bd_ok V A ha) M hM [] rfl rfl
  obtain ⟨hs', _⟩ := bd_fld _ hFl
  have hs' : s' = ansL B aft ak := hs'
  have hlen : s'.length ≤ 4096 := by rw [hs']; unfold ansL; rw [List.length_map]; exact ex_len V
  have hpos : 0 < s'.length := by rw [hs']; unfold ansL; rw [List.length_map]; exact List.length_pos_iff.2 hne
  rw [← hs']
  obtain ⟨a, t, rfl⟩ : ∃ a t, s' = a :: t := by
    cases s' with
    | nil => exact absurd hpos (Nat.lt_irrefl _)
    | cons a t => exact ⟨a, t, rfl⟩
  have e1 := ints_length (a :: t)
  have hfz : ∀ (ob : T Ev.C), ob.get i11 = some (.cells false (((a :: t).map fun n => D.i .i64 n).map fun d => Cell.o d t.length) (t.length + 1)) → Frz ob (.sl i11 0 (t.length + 1) t.length 1) (.lst 1 (ints (a :: t))) := fun ob h => Frz.whole (cs := ((a :: t).map fun n => D.i .i64 n).map fun d => Cell.o d t.length) (cur := t.length + 1) h (by rw [ints_length]; rfl) (ints_one' _) (by rw [ints_flatten]) (pu_ints _)
  obtain ⟨v, ob', ⟨M', hM', rfl, rfl⟩, Hb⟩ := CallOk.runE (Φ := fun v ob' => ∃ M', MOk B M' ∧ v = lohi (a :: t) ∧ ob' = mapP M') (ob := mapP M) (nx := .o .h) (nx' := .o .h) (ds := [.ag (wkQ B ++ [.mp .h]), .ag [.i .i64 (aft : Int), .fn g first caps]]) fn88 (by simp) (Nat.le_refl _) (by
    conv => whnf
    refine Rn.le (a := ⟨(.n (.n .e (some (.ag [.i .i64 (aft : Int), .fn g first caps])) .e) (some (.ag (wkQ B ++ [.mp .h]))) .e), trL (some (.map (mapL M))) none none none none none none none none none none none none none none none none none none none, .o .h, none⟩) ?_ ?_
    · unfold wkQ trL
      conv => whnf
      repeat' first | ((first | with_reducible (first | apply Qt | apply Qu) | refine Qa rfl ?_ | refine Qk rfl ?_ | refine Qb ?_ | refine Qc ?_ | refine Qi ?_ | refine Qj ?_) <;> conv => whnf)
      have k1 := KpL.pu (n := 6) first h1
      have k2 := KpL.pu (n := 6) caps h2
      refine WCall.of (j_truths (B := B) (x1 := some (.map (mapL M))) (x2 := some (wkCl B)) (x3 := (some (.cells false [.o (.i .i64 (aft : Int)) 0, .o (.fn g first caps) 0] 1))) (x4 := (some (.cells false [.o (.i .i64 0) 0, .o (.i .i64 0) 0] 1))) (x5 := some (.cells false [.o .ns 0] 1)) ?_) ?_
      · show TAll (fun id c => id.nat < 6 ∧ KpC 6 c) _
        unfold trL
        repeat' first | exact TAll.e | refine TAll.some ?_ ?_ ?_ | refine TAll.none ?_ ?_
        all_goals refine ⟨by simp [Pos.nat], ?_⟩
        all_goals first
          | exact mapL_kp
          | exact wkCl_kp B (by omega)
          | (refine KpL.all ?_; simp [KpL, Kp, Cell.d, Pu, k1, k2, Pos.nat])
      conv => whnf
      repeat' first | ((first | with_reducible (first | apply Qt | apply Qu) | refine Qa rfl ?_ | refine Qk rfl ?_ | refine Qb ?_ | refine Qc ?_ | refine Qi ?_ | refine Qj ?_) <;> conv => whnf)
      refine Rn.le (a := ⟨bdS, trL (some (.map (mapL M))) none (some (.cells false [.o (.i .i64 (aft : Int)) 0, .o (.fn g first caps) 0] 1)) (some (.cells false [.o (.i .i64 0) 0, .o (.i .i64 0) 0] 1)) (some (.cells false [.o .ns 0] 1)) (some (wkCl B)) none none none none none none none none none none none none none none, i7, none⟩) ?_ ?_
      · refine Rn.rf rfl rfl Hc rfl (by simp) ?_
        unfold Tns.bob trL bdM slA blA bdS
        conv => whnf
        repeat' first | ((first | with_reducible (first | apply Qt | apply Qu) | refine Qa rfl ?_ | refine Qk rfl ?_ | refine Qb ?_ | refine Qc ?_ | refine Qi ?_ | refine Qj ?_) <;> conv => whnf)
        refine WSt.ixsY (m := 0) (by rfl) (by rfl) (by omega) ?_; conv => whnf
        refine wSt.ld1 (v := .i .i64 a) (lo := t.length) (by rfl) (by rfl) (by rfl) (Nat.le_refl _) ?_; conv => whnf
        repeat' first | ((first | with_reducible (first | apply Qt | apply Qu) | refine Qa rfl ?_ | refine Qk rfl ?_ | refine Qb ?_ | refine Qc ?_ | refine Qi ?_ | refine Qj ?_) <;> conv => whnf)
        refine WCall.borrow1 (j_min a (a :: t) (by omega)) i11 (.cells false (((a :: t).map fun n => D.i .i64 n).map fun d => Cell.o d t.length) (t.length + 1)) (.cons (.pu trivial) (.cons (hfz _ (T.get_set_same _ _ _)) .nil)) trivial rfl rfl ?_; conv => whnf
        repeat' first | ((first | with_reducible (first | apply Qt | apply Qu) | refine Qa rfl ?_ | refine Qk rfl ?_ | refine Qb ?_ | refine Qc ?_ | refine Qi ?_ | refine Qj ?_) <;> conv => whnf)
        refine WCall.borrow1 (j_max (a :: t) (by simp) (by omega)) i11 (.cells false (((a :: t).map fun n => D.i .i64 n).map fun d => Cell.o d t.length) (t.length + 1)) (.cons (hfz _ (T.get_set_same _ _ _)) .nil) trivial rfl rfl ?_; conv => whnf
        repeat' first | ((first | with_reducible (first | apply Qt | apply Qu) | refine Qa rfl ?_ | refine Qk rfl ?_ | refine Qb ?_ | refine Qc ?_ | refine Qi ?_ | refine Qj ?_) <;> conv => whnf)
        refine ⟨_, _, ⟨M', hM', rfl, rfl⟩, ⟨.inr rfl, ⟨_, rfl, .ag (.cons (Fz.i rfl) (.cons (Fz.i rfl) .nil))⟩, Shr.kp ?_ (mapP_kp M')⟩⟩
        show T.le (T.n .e (some (.map (mapL M'))) .e : T Ev.C) _
        refine T.le_some (T.le_e _) rfl (T.le_e _)
      · refine X.le.mk ?_ ?_ (Nat.le_refl _) rfl rfl
        · unfold bdS
          repeat' first | exact T.le_refl _ | exact T.le_e _ | refine T.le_some ?_ rfl ?_ | refine T.le_same ?_ ?_ | refine T.le_none ?_ ?_
        · unfold trL
          repeat' first | exact T.le_refl _ | exact T.le_e _ | refine T.le_some ?_ rfl ?_ | refine T.le_same ?_ ?_ | refine T.le_none ?_ ?_
    · refine X.le.mk (T.le_refl _) ?_ (Nat.le_refl _) rfl rfl
      unfold trL
      repeat' first | exact T.le_e _ | refine T.le_some ?_ rfl ?_ | refine T.le_none ?_ ?_ | refine T.le_ee ?_ ?_)
  exact ⟨M', hM', Hb⟩
end Go.Ev
namespace Go.Ev
open Go.Proofs
set_option maxRecDepth 100000
theorem ask_mixed (B : Bk) : AskOk B p78 [] [] Mo.mix := ⟨trivial, trivial, fun Q i _ => j_mixed _⟩
theorem ex_ne {n coin box : Int} {ls : List Ln} {cs : List Ct} {t : Bool} (h : sE n coin box ls cs t = 0) : exT (B5 n coin box ls cs) ls.length [] ≠ [] := by
  unfold sE at h
  have hb : hasB (B5 n coin box ls cs) = true := by
    cases hh : hasB (B5 n coin box ls cs) with
    | true => rfl
    | false =>
      rw [hh] at h
      split at h
      · exact absurd h (by assumption)
      · cases t <;> cases h
  obtain ⟨X, hX⟩ := can_iff.1 hb
  intro he
  have := mem_exT.2 hX
  rw [show (B5 n coin box ls cs).ls.length = ls.length from rfl, he] at this
  cases this
theorem sE_fault {n coin box : Int} {ls : List Ln} {cs : List Ct} {t : Bool} (h : sE n coin box ls cs t = 0) : faultT n coin box ls cs = 0 ∧ t = true := by
  unfold sE at h
  by_cases hf : faultT n coin box ls cs ≠ 0
  · rw [if_pos hf] at h; exact absurd h hf
  · rw [if_neg hf] at h
    refine ⟨by omega, ?_⟩
    cases t with
    | true => rfl
    | false => cases h
theorem start_at {n coin box : Int} {ls : List Ln} {cs : List Ct} {M : Memo} (Hs : CallOk Try.prog p85.ix [.ag (wkQ (B5 n coin box ls cs)), .b true] .e .h none (.tp [.ag (wkQ (B5 n coin box ls cs) ++ [.mp .h]), .i .i64 0]) (mapP M) (.o .h) none) {ob : T C} {nx : Pos} {lg : Option (T Bool)} : CallOk Try.prog p85.ix [.ag (wkQ (B5 n coin box ls cs)), .b true] ob nx lg (.tp [.ag (wkQ (B5 n coin box ls cs) ++ [.mp nx]), .i .i64 0]) (T.set nx (.map (mapL M)) ob) nx.succ (lgW lg nx) :=
  CallOk.newG Hs rfl (mapL_pu M) (by simp [PuL, Pu, wkQ_pu]) (fun γ γ' w => .tp (.cons (.ag (.app (.pu psh1_im (wkQ_pu _)) rfl (.cons .mpO .nil))) (.cons (.pu psh1_im trivial) .nil)))
theorem lohi_pu (L : List Int) : Pu (lohi L) := by simp [lohi, Pu, PuL]
def mixT (n coin box : Int) (ls : List Ln) (cs : List Ct) : D :=
  if sE n coin box ls cs true = 0 then .tp [lohi (ansL (B5 n coin box ls cs) ls.length Mo.mix), .i .i64 0] else .tp [.ag [.i .i64 0, .i .i64 0], .i .i64 (sE n coin box ls cs true)]
theorem j_MixedP (n coin box : Int) (ls : List Ln) (cs : List Ct) : PureF Try.prog p40.ix [.ag [.i .i64 n, .i .i64 coin, .i .i64 box, .lst 3 (rows lnD ls), .lst 3 (rows ctD cs)]] (mixT n coin box ls cs) := by
  have e1 := rows_length lnD ls
  unfold mixT
  by_cases hE : sE n coin box ls cs true = 0
  · rw [if_pos hE]
    obtain ⟨hf, _⟩ := sE_fault hE
    obtain ⟨M, hM, Hs⟩ := j_startO n coin box ls cs hE
    have V := VB.of hf
    obtain ⟨M', hM', Hb⟩ := j_bounds V (ask_mixed _) (aft := ls.length) (Nat.le_refl _) (ex_ne hE) M hM
    rw [← e1] at Hb ⊢
    refine PureF.run fn39 (by simp) (by simp [PuL, PuE, Pu, pu_ints, pu_ln, pu_ct]) ?_; conv => whnf
    repeat' first | ((first | with_reducible (first | apply Qt | apply Qu) | refine Qa rfl ?_ | refine Qk rfl ?_ | refine Qb ?_ | refine Qc ?_ | refine Qi ?_ | refine Qj ?_ | with_reducible (first | refine Qm ?_ | refine Qn ?_ | refine Qo ?_ | refine Qp ?_ | refine WB.nt ?_ | refine WB.nf ?_ | refine WB.dec (fun h => ?_) (fun h => ?_) | refine WB.ndec (fun h => ?_) (fun h => ?_)) | refine WB.mk (fun h => ?_) (fun h => ?_)) <;> conv => whnf)
    refine WCall.of (start_at Hs) ?_; conv => whnf
    repeat' first | ((first | with_reducible (first | apply Qt | apply Qu) | refine Qa rfl ?_ | refine Qk rfl ?_ | refine Qb ?_ | refine Qc ?_ | refine Qi ?_ | refine Qj ?_ | with_reducible (first | refine Qm ?_ | refine Qn ?_ | refine Qo ?_ | refine Qp ?_ | refine WB.nt ?_ | refine WB.nf ?_ | refine WB.dec (fun h => ?_) (fun h => ?_) | refine WB.ndec (fun h => ?_) (fun h => ?_)) | refine WB.mk (fun h => ?_) (fun h => ?_)) <;> conv => whnf)
    refine WCall.of (CallOk.mapAt Hb (lohi_pu _) (id := .i .h) rfl (show 3 < Pos.nat (.i (.o .h)) from by decide) (mp_at (by simp [PuL, Pu]))) ?_; conv => whnf
    repeat' first | ((first | with_reducible (first | apply Qt | apply Qu) | refine Qa rfl ?_ | refine Qk rfl ?_ | refine Qb ?_ | refine Qc ?_ | refine Qi ?_ | refine Qj ?_ | with_reducible (first | refine Qm ?_ | refine Qn ?_ | refine Qo ?_ | refine Qp ?_ | refine WB.nt ?_ | refine WB.nf ?_ | refine WB.dec (fun h => ?_) (fun h => ?_) | refine WB.ndec (fun h => ?_) (fun h => ?_)) | refine WB.mk (fun h => ?_) (fun h => ?_)) <;> conv => whnf)
    exact ⟨.inr rfl, _, rfl, .tp (.cons (.ag (.cons (Fz.i rfl) (.cons (Fz.i rfl) .nil))) (.cons (.pu trivial) .nil))⟩
  · rw [if_neg hE]
    have cS := j_startE n coin box ls cs _ hE
    generalize sE n coin box ls cs true = e at hE cS ⊢
    unfold wkQ B5 zwk at cS
    refine PureF.run fn39 (by simp) (by simp [PuL, PuE, Pu, pu_ints, pu_ln, pu_ct]) ?_; conv => whnf
    repeat' first | ((first | with_reducible (first | apply Qt | apply Qu) | refine Qa rfl ?_ | refine Qk rfl ?_ | refine Qb ?_ | refine Qc ?_ | refine Qi ?_ | refine Qj ?_ | refine Qf (cS) ?_ | with_reducible (first | refine Qm ?_ | refine Qn ?_ | refine Qo ?_ | refine Qp ?_ | refine WB.nt ?_ | refine WB.nf ?_ | refine WB.dec (fun h => ?_) (fun h => ?_) | refine WB.ndec (fun h => ?_) (fun h => ?_)) | refine WB.mk (fun h => ?_) (fun h => ?_)) <;> conv => whnf)
    all_goals first
      | (exfalso; omega)
      | exact ⟨.inr rfl, _, rfl, .tp (.cons (.ag (.cons (.pu trivial) (.cons (.pu trivial) .nil))) (.cons (.pu trivial) .nil))⟩
end Go.Ev
namespace Go.Ev
open Go.Proofs
set_option maxRecDepth 100000
theorem Cv.ns {γ γ' : Gh} {w : World} {z : Nat} : Cv γ γ' w .ns (.lst z []) := fun v h => by
  unfold DV at h ⊢
  exact ⟨none, 0, h, Nat.le_refl _, fun _ => rfl, .inl rfl⟩
theorem prod_take {n : Int} (hn : 1 ≤ n ∧ n ≤ 4) (ls : List Ln) (k : Nat) : prodP n (ls.take k) ≤ prodP n ls := by
  have h1 : prodP n ls = (ls.drop k).foldl (fun m l => m * rdN n l) (prodP n (ls.take k)) := by
    unfold prodP
    rw [← List.foldl_append, List.take_append_drop]
  have h2 := (many_prod hn.1 hn.2 (ls.take k)).2
  rw [h1]
  generalize prodP n (ls.take k) = p at h2 ⊢
  generalize ls.drop k = r
  induction r generalizing p with
  | nil => exact Int.le_refl _
  | cons x r ih =>
    obtain ⟨b1, b2⟩ := rdN_bd hn.1 hn.2 x
    have h0 : p * 1 ≤ p * rdN n x := Int.mul_le_mul (Int.le_refl _) b1 (by omega) (by omega)
    rw [Int.mul_one] at h0
    exact Int.le_trans h0 (ih (p * rdN n x) (by omega))
theorem VB.pre {n coin box : Int} {ls : List Ln} {cs : List Ct} (V : VB (B5 n coin box ls cs)) (k : Nat) : VB (B5 n coin box (ls.take k) []) := by
  have hn : 1 ≤ n ∧ n ≤ 4 := V.n
  have h8 : ls.length ≤ 8 := V.len
  refine ⟨V.n, V.coin, V.box, ?_, by show (0 : Nat) ≤ 4; omega, ?_, fun c hc => absurd (show c ∈ ([] : List Ct) from hc) (by simp), ?_⟩
  · show (ls.take k).length ≤ 8
    rw [List.length_take]; omega
  · show (ls.take k).all (lnOk n) = true
    rw [List.all_eq_true]
    exact fun x hx => List.all_eq_true.1 V.ls x (List.mem_of_mem_take hx)
  · show manyR n (ls.take k) ≤ 4096
    have h1 := many_prod hn.1 hn.2 (ls.take k)
    have h2 := many_prod hn.1 hn.2 ls
    have h3 := prod_take hn ls k
    have h4 : manyR n ls ≤ 4096 := V.many
    omega
end Go.Ev
namespace Go.Ev
set_option maxRecDepth 100000
theorem ibit_nat (slow : IntKind → Int → Int → Int) (fast : IntKind → Nat → Nat → Nat) (k : IntKind) (m n : Nat) (h1 : Nat.ble m (ubits k) = true) (h2 : Nat.ble n (ubits k) = true) : ibit slow fast k (.ofNat m) (.ofNat n) = .ofNat (fast k m n) := by
  show (bif Nat.ble m (ubits k) && Nat.ble n (ubits k) then Int.ofNat (fast k m n) else slow k (.ofNat m) (.ofNat n)) = _
  rw [h1, h2]
  rfl
theorem binK_or (a b : Int) (f : D → Option X) : binK .or (.i .i64 a) (.i .i64 b) f = wrapK .i64 (ior .i64 a b) f := rfl
end Go.Ev
namespace Go.Ev
set_option maxRecDepth 100000
theorem binK_and (a b : Int) (f : D → Option X) : binK .and (.i .i64 a) (.i .i64 b) f = wrapK .i64 (iand .i64 a b) f := rfl
theorem ub_le {a : Nat} (h : a < 1024) : Nat.ble a (ubits .i64) = true := Nat.ble_eq_true_of_le (Nat.le_trans (show a ≤ 1023 by omega) (of_decide_eq_true rfl))
theorem WSt.orB {sl : T D} {ob : T C} {nx : Pos} {lg : Option (T Bool)} {K : X → Prop} {d : Pos} {a b : Nat} {x y : RX} (hx : opd sl x = some (.i .i64 (a : Int))) (hy : opd sl y = some (.i .i64 (b : Int))) (ha : a < 1024) (hb : b < 1024) (k : wOut sl ob nx lg d K (.i .i64 ((a ||| b : Nat) : Int))) : WSt (.bin d .or x y) ⟨sl, ob, nx, lg⟩ K := by
  obtain ⟨k2, k3⟩ := wOut_ok k
  refine ⟨_, ?_, k3⟩
  show s_bin d .or x y sl ob nx lg = _
  unfold s_bin
  rw [hx, hy]
  have hs : ior .i64 ((a : Nat) : Int) ((b : Nat) : Int) = ((a ||| b : Nat) : Int) := ibit_nat slowOr (fun _ m n => Nat.lor m n) .i64 a b (ub_le ha) (ub_le hb)
  have hlt : a ||| b < 2 ^ 10 := Nat.or_lt_two_pow (by omega) (by omega)
  show binK .or (.i .i64 ((a : Nat) : Int)) (.i .i64 ((b : Nat) : Int)) _ = _
  rw [binK_or, hs, wrapK_eq]
  have hw : IntKind.i64.wrap ((a ||| b : Nat) : Int) = ((a ||| b : Nat) : Int) := InR.i64 (by omega) (by omega)
  rw [hw]
  exact k2
theorem WSt.andB {sl : T D} {ob : T C} {nx : Pos} {lg : Option (T Bool)} {K : X → Prop} {d : Pos} {a b : Nat} {x y : RX} (hx : opd sl x = some (.i .i64 (a : Int))) (hy : opd sl y = some (.i .i64 (b : Int))) (ha : a < 1024) (hb : b < 1024) (k : wOut sl ob nx lg d K (.i .i64 ((a &&& b : Nat) : Int))) : WSt (.bin d .and x y) ⟨sl, ob, nx, lg⟩ K := by
  obtain ⟨k2, k3⟩ := wOut_ok k
  refine ⟨_, ?_, k3⟩
  show s_bin d .and x y sl ob nx lg = _
  unfold s_bin
  rw [hx, hy]
  have hs : iand .i64 ((a : Nat) : Int) ((b : Nat) : Int) = ((a &&& b : Nat) : Int) := ibit_nat slowAnd (fun _ m n => Nat.land m n) .i64 a b (ub_le ha) (ub_le hb)
  have hlt : a &&& b ≤ a := Nat.and_le_left
  show binK .and (.i .i64 ((a : Nat) : Int)) (.i .i64 ((b : Nat) : Int)) _ = _
  rw [binK_and, hs, wrapK_eq]
  have hw : IntKind.i64.wrap ((a &&& b : Nat) : Int) = ((a &&& b : Nat) : Int) := InR.i64 (by omega) (by omega)
  rw [hw]
  exact k2
end Go.Ev
namespace Go.Ev
set_option maxRecDepth 100000
theorem ub64 {a : Nat} (h : a < 2 ^ 64) : Nat.ble a (ubits .u64) = true := Nat.ble_eq_true_of_le (show a ≤ 18446744073709551615 by omega)
theorem binK_and64 (a b : Int) (f : D → Option X) : binK .and (.i .u64 a) (.i .u64 b) f = wrapK .u64 (iand .u64 a b) f := rfl
section
variable {sl : T D} {ob : T C} {nx : Pos} {lg : Option (T Bool)} {K : X → Prop} {d : Pos} {a b j : Nat} {x y : RX} {k kk : IntKind}
theorem WSt.andU (hx : opd sl x = some (.i .u64 (a : Int))) (hy : opd sl y = some (.i .u64 (b : Int))) (ha : a < 2 ^ 64) (hb : b < 2 ^ 64) (h : ∀ r : Nat, r = a &&& b → r ≤ a → wOut sl ob nx lg d K (.i .u64 (r : Int))) : WSt (.bin d .and x y) ⟨sl, ob, nx, lg⟩ K := by
  obtain ⟨k2, k3⟩ := wOut_ok (h (a &&& b) rfl Nat.and_le_left)
  refine ⟨_, ?_, k3⟩
  show s_bin d .and x y sl ob nx lg = _
  unfold s_bin
  rw [hx, hy]
  have hs : iand .u64 ((a : Nat) : Int) ((b : Nat) : Int) = ((a &&& b : Nat) : Int) := ibit_nat slowAnd (fun _ m n => Nat.land m n) .u64 a b (ub64 ha) (ub64 hb)
  have hlt : a &&& b ≤ a := Nat.and_le_left
  show binK .and (.i .u64 ((a : Nat) : Int)) (.i .u64 ((b : Nat) : Int)) _ = _
  rw [binK_and64, hs, wrapK_eq]
  have hw : IntKind.u64.wrap ((a &&& b : Nat) : Int) = ((a &&& b : Nat) : Int) := InR.u64 (by omega) (by omega)
  rw [hw]
  exact k2
theorem WSt.shrU (hx : opd sl x = some (.i k (a : Int))) (hy : opd sl y = some (.i kk (j : Int))) (hk : kbits k = 64) (hj : j ≤ 63) (h : ∀ r : Nat, r = a / 2 ^ j → r ≤ a → wOut sl ob nx lg d K (.i k (r : Int))) : WSt (.bin d .shr x y) ⟨sl, ob, nx, lg⟩ K := by
  obtain ⟨k2, k3⟩ := wOut_ok (h (a / 2 ^ j) rfl (Nat.div_le_self _ _))
  refine ⟨_, ?_, k3⟩
  show s_bin d .shr x y sl ob nx lg = _
  unfold s_bin
  rw [hx, hy]
  have hm : minN j (kbits k) = j := by
    unfold minN
    rw [hk, Nat.ble_eq_true_of_le (show j ≤ 64 by omega)]
    rfl
  have hs : ishr ((a : Nat) : Int) j = ((a / 2 ^ j : Nat) : Int) := rfl
  show intK k (ishr ((a : Nat) : Int) (minN j (kbits k))) _ = _
  rw [hm, hs, intK_eq]
  exact k2
theorem WSt.shlU (hx : opd sl x = some (.i .i64 (a : Int))) (hy : opd sl y = some (.i kk (j : Int))) (ha : a * 2 ^ j ≤ 1000) (hj : j ≤ 63) (h : wOut sl ob nx lg d K (.i .i64 ((a * 2 ^ j : Nat) : Int))) : WSt (.bin d .shl x y) ⟨sl, ob, nx, lg⟩ K := by
  obtain ⟨k2, k3⟩ := wOut_ok h
  refine ⟨_, ?_, k3⟩
  show s_bin d .shl x y sl ob nx lg = _
  unfold s_bin
  rw [hx, hy]
  have hm : minN j 64 = j := by
    unfold minN
    rw [Nat.ble_eq_true_of_le (show j ≤ 64 by omega)]
    rfl
  have hs : ishl ((a : Nat) : Int) j = ((a * 2 ^ j : Nat) : Int) := rfl
  show wrapK .i64 (ishl ((a : Nat) : Int) (minN j 64)) _ = _
  rw [hm, hs, wrapK_eq]
  have hw : IntKind.i64.wrap ((a * 2 ^ j : Nat) : Int) = ((a * 2 ^ j : Nat) : Int) := InR.i64 (by omega) (by omega)
  rw [hw]
  exact k2
end
def numJ (c e j : Nat) : List Int := ((List.range j).filter fun i => c.testBit (e - 1 - i)).map fun i : Nat => (i : Int)
def numL (c e : Nat) : List Int := numJ c e e
theorem numJ_succ (c e j : Nat) : numJ c e (j + 1) = if c / 2 ^ (e - 1 - j) % 2 = 1 then numJ c e j ++ [(j : Int)] else numJ c e j := by
  unfold numJ
  rw [List.range_succ, List.filter_append, List.map_append]
  have h : c.testBit (e - 1 - j) = decide (c / 2 ^ (e - 1 - j) % 2 = 1) := Nat.testBit_eq_decide_div_mod_eq
  by_cases hq : c / 2 ^ (e - 1 - j) % 2 = 1
  · rw [if_pos hq]; simp [h, hq]
  · rw [if_neg hq]; simp [h, hq]
theorem numJ_len (c e j : Nat) : (numJ c e j).length ≤ j := by
  unfold numJ
  rw [List.length_map]
  have := List.length_filter_le (fun i => c.testBit (e - 1 - i)) (List.range j)
  rw [List.length_range] at this
  exact this
def cntN (c : Nat) : Nat := ((List.range 8).filter fun i => c.testBit i).length
def nD (A : List Int) : List D := A.map fun n => D.i .i64 n
theorem nD_snoc (A : List Int) (n : Int) : nD (A ++ [n]) = nD A ++ [.i .i64 n] := by simp [nD]
theorem pu_nD (L : List Int) : PuL (nD L) := puL_map_i L
def setD : List Int → D
  | [] => .ns
  | a :: l => .lst 1 (ints (a :: l))
theorem setD_pu (S : List Int) : Pu (setD S) := by
  cases S with
  | nil => trivial
  | cons a l => exact pu_ints _
end Go.Ev
namespace Go.Ev
open Go.Proofs
set_option maxRecDepth 100000
theorem cnt_all : ∀ a : _root_.Fin 256, ((((((a.1 / 2 ^ 1 &&& 6148914691236517205) + (a.1 &&& 6148914691236517205)) / 2 ^ 2 &&& 3689348814741910323) + (((a.1 / 2 ^ 1 &&& 6148914691236517205) + (a.1 &&& 6148914691236517205)) &&& 3689348814741910323)) / 2 ^ 4 + ((((a.1 / 2 ^ 1 &&& 6148914691236517205) + (a.1 &&& 6148914691236517205)) / 2 ^ 2 &&& 3689348814741910323) + (((a.1 / 2 ^ 1 &&& 6148914691236517205) + (a.1 &&& 6148914691236517205)) &&& 3689348814741910323)) &&& 1085102592571150095)) = cntN a.1 := by decide +kernel
theorem cnt_le (a : Nat) : cntN a ≤ 8 := by
  unfold cntN
  have := List.length_filter_le (fun i => a.testBit i) (List.range 8)
  rw [List.length_range] at this
  exact this
set_option maxHeartbeats 1000000 in
theorem j_cnt64 (a : Nat) (ha : a < 256) : PureF Try.prog p158.ix [.i .u64 (a : Int)] (.i .i64 (cntN a : Int)) := by
  refine PureF.run fn157 (by simp) (by simp [PuL, PuE, Pu]) ?_; conv => whnf
  repeat' first | ((first | with_reducible (first | apply Qt | apply Qu) | refine Qa rfl ?_ | refine Qk rfl ?_ | refine Qb ?_ | refine Qc ?_ | refine Qi ?_ | refine Qj ?_) <;> conv => whnf)
  refine WSt.shrU (j := 1) (by rfl) (by rfl) rfl (by omega) (fun r1 h1 b1 => ?_); conv => whnf
  refine WSt.andU (b := 6148914691236517205) (by rfl) (by rfl) (by omega) (by decide) (fun r2 h2 b2 => ?_); conv => whnf
  refine WSt.andU (b := 6148914691236517205) (by rfl) (by rfl) (by omega) (by decide) (fun r3 h3 b3 => ?_); conv => whnf
  refine And.intro (InR.u64 (by omega) (by omega)) ?_; conv => whnf
  repeat' first | ((first | with_reducible (first | apply Qt | apply Qu) | refine Qa rfl ?_ | refine Qk rfl ?_ | refine Qb ?_ | refine Qc ?_ | refine Qi ?_ | refine Qj ?_) <;> conv => whnf)
  refine WSt.shrU (a := r2 + r3) (j := 2) (by rfl) (by rfl) rfl (by omega) (fun r4 h4 b4 => ?_); conv => whnf
  refine WSt.andU (b := 3689348814741910323) (by rfl) (by rfl) (by omega) (by decide) (fun r5 h5 b5 => ?_); conv => whnf
  refine WSt.andU (a := r2 + r3) (b := 3689348814741910323) (by rfl) (by rfl) (by omega) (by decide) (fun r6 h6 b6 => ?_); conv => whnf
  refine And.intro (InR.u64 (by omega) (by omega)) ?_; conv => whnf
  repeat' first | ((first | with_reducible (first | apply Qt | apply Qu) | refine Qa rfl ?_ | refine Qk rfl ?_ | refine Qb ?_ | refine Qc ?_ | refine Qi ?_ | refine Qj ?_) <;> conv => whnf)
  refine WSt.shrU (a := r5 + r6) (j := 4) (by rfl) (by rfl) rfl (by omega) (fun r7 h7 b7 => ?_); conv => whnf
  refine And.intro (InR.u64 (by omega) (by omega)) ?_; conv => whnf
  refine WSt.andU (a := r7 + (r5 + r6)) (b := 1085102592571150095) (by rfl) (by rfl) (by omega) (by decide) (fun r8 h8 b8 => ?_); conv => whnf
  have hr8 : r8 = cntN a := by
    rw [h8, h7, h6, h5, h4, h3, h2, h1]
    exact cnt_all ⟨a, ha⟩
  have h88 := cnt_le a
  rw [← hr8] at h88 ⊢
  repeat' first | ((first | with_reducible (first | apply Qt | apply Qu) | refine Qa rfl ?_ | refine Qk rfl ?_ | refine Qb ?_ | refine Qc ?_ | refine Qi ?_ | refine Qj ?_) <;> conv => whnf)
  refine WSt.shrU (a := r8) (j := 8) (by rfl) (by rfl) rfl (by omega) (fun r9 h9 b9 => ?_); conv => whnf
  have z9 : r9 = 0 := by rw [h9]; exact Nat.div_eq_of_lt (by omega)
  subst z9
  refine And.intro (InR.u64 (by omega) (by omega)) ?_; conv => whnf
  repeat' first | ((first | with_reducible (first | apply Qt | apply Qu) | refine Qa rfl ?_ | refine Qk rfl ?_ | refine Qb ?_ | refine Qc ?_ | refine Qi ?_ | refine Qj ?_) <;> conv => whnf)
  refine WSt.shrU (a := r8) (j := 16) (by rfl) (by rfl) rfl (by omega) (fun r10 h10 b10 => ?_); conv => whnf
  have z10 : r10 = 0 := by rw [h10]; exact Nat.div_eq_of_lt (by omega)
  subst z10
  refine And.intro (InR.u64 (by omega) (by omega)) ?_; conv => whnf
  repeat' first | ((first | with_reducible (first | apply Qt | apply Qu) | refine Qa rfl ?_ | refine Qk rfl ?_ | refine Qb ?_ | refine Qc ?_ | refine Qi ?_ | refine Qj ?_) <;> conv => whnf)
  refine WSt.shrU (a := r8) (j := 32) (by rfl) (by rfl) rfl (by omega) (fun r11 h11 b11 => ?_); conv => whnf
  have z11 : r11 = 0 := by rw [h11]; exact Nat.div_eq_of_lt (by omega)
  subst z11
  refine And.intro (InR.u64 (by omega) (by omega)) ?_; conv => whnf
  repeat' first | ((first | with_reducible (first | apply Qt | apply Qu) | refine Qa rfl ?_ | refine Qk rfl ?_ | refine Qb ?_ | refine Qc ?_ | refine Qi ?_ | refine Qj ?_) <;> conv => whnf)
  refine WSt.andB (a := r8) (b := 127) (by rfl) (by rfl) (by omega) (by omega) ?_; conv => whnf
  repeat' first | ((first | with_reducible (first | apply Qt | apply Qu) | refine Qa rfl ?_ | refine Qk rfl ?_ | refine Qb ?_ | refine Qc ?_ | refine Qi ?_ | refine Qj ?_) <;> conv => whnf)
  refine Fin.i rfl ?_
  have : ∀ r : _root_.Fin 9, r.1 &&& 127 = r.1 := by decide
  rw [this ⟨r8, by omega⟩]
theorem j_cnt (a : Nat) (ha : a < 256) : PureF Try.prog p142.ix [.i .u64 (a : Int)] (.i .i64 (cntN a : Int)) := by
  have h := j_cnt64 a ha
  refine PureF.run fn141 (by simp) (by simp [PuL, PuE, Pu]) ?_; conv => whnf
  repeat' first | ((first | with_reducible (first | apply Qt | apply Qu) | refine Qa rfl ?_ | refine Qk rfl ?_ | refine Qb ?_ | refine Qc ?_ | refine Qi ?_ | refine Qj ?_ | refine Qf (h) ?_) <;> conv => whnf)
  try (refine WB.ff ?_; conv => whnf)
  repeat' first | ((first | with_reducible (first | apply Qt | apply Qu) | refine Qa rfl ?_ | refine Qk rfl ?_ | refine Qb ?_ | refine Qc ?_ | refine Qi ?_ | refine Qj ?_ | refine Qf (h) ?_) <;> conv => whnf)
  exact Fin.i rfl rfl
def slE : List Int → D
  | [] => .ns
  | _ :: s => .sl (.o .h) 0 (s.length + 1) s.length 1
def blE : List Int → Option C
  | [] => none
  | a :: s => some (.cells false ((nD (a :: s)).map fun d => Cell.o d s.length) (s.length + 1))
def nxE : List Int → Pos
  | [] => .h
  | _ :: _ => .i .h
theorem slE_snoc (a : Int) (s : List Int) (x : Int) : slE (a :: (s ++ [x])) = .sl (.o .h) 0 (s.length + 1 + 1) (s.length + 1) 1 := by simp [slE]
theorem blE_snoc (a : Int) (s : List Int) (x : Int) : blE (a :: (s ++ [x])) = some (.cells false ((nD (a :: s) ++ [D.i .i64 x]).map fun d => Cell.o d (s.length + 1)) (s.length + 1 + 1)) := by
  have h2 : nD (a :: (s ++ [x])) = nD (a :: s) ++ [.i .i64 x] := nD_snoc (a :: s) x
  simp [blE, h2]
def nmS (c e : Nat) (A : List Int) (j : Nat) : X := ⟨(.n (.n (.n (.n .e (some (.i .i64 (e : Int))) .e) none .e) (some (.i .i64 (e : Int))) (.n .e (some (slE A)) .e)) (some (.i .i64 (c : Int))) (.n (.n (.n .e (some (.i .i64 (j : Int))) .e) none .e) none .e)), .n (.n .e (blE A) .e) none .e, nxE A, none⟩
set_option maxHeartbeats 1000000 in
theorem j_numbers (c e : Nat) (hc : c < 256) (he : e ≤ 8) : PureF Try.prog p143.ix [.i .i64 (c : Int), .i .i64 (e : Int)] (setD (numL c e)) := by
  refine PureF.run fn142 (by simp) (by simp [PuL, PuE, Pu]) ?_; conv => whnf
  repeat' first | ((first | with_reducible (first | apply Qt | apply Qu) | refine Qa rfl ?_ | refine Qk rfl ?_ | refine Qb ?_ | refine Qc ?_ | refine Qi ?_ | refine Qj ?_) <;> conv => whnf)
  refine Rn.loop (fun j : Nat => nmS c e (numJ c e j) j) (fun j => j ≤ e ∧ True) (fun j => e - j) 0 ?_ ?_ ?_
  · refine X.le.mk ?_ ?_ (Nat.le_refl _) rfl rfl
    · show T.le ((.n (.n (.n (.n .e (some (.i .i64 (e : Int))) .e) none .e) (some (.i .i64 (e : Int))) (.n .e (some (.ns)) .e)) (some (.i .i64 (c : Int))) (.n (.n (.n .e (some (.i .i64 ((0 : Nat) : Int))) .e) none .e) none .e)) : T D) _
      (repeat' first | exact T.le_e _ | refine T.le_some ?_ rfl ?_ | refine T.le_none ?_ ?_)
    · show T.le (.n (.n .e none .e) none .e) _
      (repeat' first | exact T.le_e _ | refine T.le_some ?_ rfl ?_ | refine T.le_none ?_ ?_ | refine T.le_ee ?_ ?_)
  · exact ⟨Nat.zero_le _, trivial⟩
  rintro j ⟨hj, _⟩
  have hsc := numJ_succ c e j
  have hAl := numJ_len c e j
  have hend : j = e → numJ c e j = numL c e := fun h => by rw [h]; rfl
  generalize hA : numJ c e j = A at *
  conv => whnf
  repeat' first | ((first | with_reducible (first | apply Qt | apply Qu) | refine Qa rfl ?_ | refine Qk rfl ?_ | refine Qb ?_ | refine Qc ?_ | refine Qi ?_ | refine Qj ?_) <;> conv => whnf)
  refine WB.dec (fun h => ?_) (fun h => ?_) <;> conv => whnf
  · have hlt : j < e := by omega
    obtain ⟨q, hq⟩ : ∃ q : Nat, e - 1 - j = q := ⟨_, rfl⟩
    have hqi : (e : Int) - 1 - (j : Int) = (q : Int) := by omega
    repeat' first | ((first | with_reducible (first | apply Qt | apply Qu) | refine Qa rfl ?_ | refine Qk rfl ?_ | refine Qb ?_ | refine Qc ?_ | refine Qi ?_ | refine Qj ?_) <;> conv => whnf)
    rw [hqi]
    refine WSt.shrU (a := c) (j := q) (by rfl) (by rfl) rfl (by omega) (fun r h1 b1 => ?_); conv => whnf
    refine WSt.andB (a := r) (b := 1) (by rfl) (by rfl) (by omega) (by omega) ?_; conv => whnf
    have hr1 : (r &&& 1 : Nat) = c / 2 ^ (e - 1 - j) % 2 := by rw [Nat.and_one_is_mod, h1, hq]
    rw [hr1]
    by_cases hx : c / 2 ^ (e - 1 - j) % 2 = 1
    · rw [if_pos hx] at hsc
      repeat' first | ((first | with_reducible (first | apply Qt | apply Qu) | refine Qa rfl ?_ | refine Qk rfl ?_ | refine Qb ?_ | refine Qc ?_ | refine Qi ?_ | refine Qj ?_) <;> conv => whnf)
      refine WB.decT (by omega) ?_; conv => whnf
      cases A with
      | nil =>
        repeat' first | ((first | with_reducible (first | apply Qt | apply Qu) | refine Qa rfl ?_ | refine Qk rfl ?_ | refine Qb ?_ | refine Qc ?_ | refine Qi ?_ | refine Qj ?_) <;> conv => whnf)
        refine WSt.app_first (r := [_]) rfl (.inl rfl) rfl rfl rfl rfl ?_; conv => whnf
        repeat' first | ((first | with_reducible (first | apply Qt | apply Qu) | refine Qa rfl ?_ | refine Qk rfl ?_ | refine Qb ?_ | refine Qc ?_ | refine Qi ?_ | refine Qj ?_) <;> conv => whnf)
        refine Again.to (j + 1) (by omega) ⟨by omega, trivial⟩ (by show (nxE (numJ c e j)).nat ≤ (nxE (numJ c e (j + 1))).nat; rw [hA, hsc]; exact (show 1 ≤ 3 by omega)) ?_
        show Shr _ (nmS c e (numJ c e (j + 1)) (j + 1))
        rw [hsc]
        refine Shr.of ?_ ?_ rfl rfl
        · show Rel _ _ ((.n (.n (.n (.n .e (some (.i .i64 (e : Int))) .e) none .e) (some (.i .i64 (e : Int))) (.n .e (some ((.sl (.o .h) 0 1 0 1))) .e)) (some (.i .i64 (c : Int))) (.n (.n (.n .e (some (.i .i64 ((j + 1 : Nat) : Int))) .e) none .e) none .e)) : T D) _
          skip
          (repeat' first | exact Rel.e | refine Rel.some ?_ ?_ ?_ | refine Rel.none ?_ ?_ | refine Rel.ee ?_ ?_)
          all_goals show Fz _ _ _ _
          all_goals first | exact .pu trivial | exact .ksl (show _ < 3 by simp [Pos.nat])
        · show Rel _ _ (.n (.n .e (some (C.cells false ((nD [(j : Int)]).map fun d => Cell.o d 0) 1)) .e) none .e) _
          skip
          (repeat' first | exact Rel.e | refine Rel.some ?_ ?_ ?_ | refine Rel.none ?_ ?_ | refine Rel.ee ?_ ?_)
          exact RO'.of (show _ < 3 by simp [Pos.nat]) (ShC.same (ShC.cn (.pu trivial) ShC.nl))
      | cons a s =>
        have hs5 : s.length + 1 ≤ 10 := Nat.le_trans hAl (by omega)
        repeat' first | ((first | with_reducible (first | apply Qt | apply Qu) | refine Qa rfl ?_ | refine Qk rfl ?_ | refine Qb ?_ | refine Qc ?_ | refine Qi ?_ | refine Qj ?_) <;> conv => whnf)
        refine WSt.app_one (ds := nD (a :: s)) (r := [_]) rfl rfl rfl rfl rfl rfl (by simp [nD]) rfl rfl (by omega) rfl ?_; conv => whnf
        repeat' first | ((first | with_reducible (first | apply Qt | apply Qu) | refine Qa rfl ?_ | refine Qk rfl ?_ | refine Qb ?_ | refine Qc ?_ | refine Qi ?_ | refine Qj ?_) <;> conv => whnf)
        refine Again.to (j + 1) (by omega) ⟨by omega, trivial⟩ (by show (nxE (numJ c e j)).nat ≤ (nxE (numJ c e (j + 1))).nat; rw [hA, hsc, List.cons_append]; exact (show 3 ≤ 3 by omega)) ?_
        show Shr _ (nmS c e (numJ c e (j + 1)) (j + 1))
        rw [hsc, List.cons_append]
        refine Shr.of ?_ ?_ rfl rfl
        · show Rel _ _ ((.n (.n (.n (.n .e (some (.i .i64 (e : Int))) .e) none .e) (some (.i .i64 (e : Int))) (.n .e (some ((slE (a :: (s ++ [(j : Int)]))))) .e)) (some (.i .i64 (c : Int))) (.n (.n (.n .e (some (.i .i64 ((j + 1 : Nat) : Int))) .e) none .e) none .e)) : T D) _
          rw [slE_snoc]
          (repeat' first | exact Rel.e | refine Rel.some ?_ ?_ ?_ | refine Rel.none ?_ ?_ | refine Rel.ee ?_ ?_)
          all_goals show Fz _ _ _ _
          all_goals first | exact .pu trivial | exact .ksl (show _ < 3 by simp [Pos.nat])
        · show Rel _ _ (.n (.n .e (blE (a :: (s ++ [(j : Int)]))) .e) none .e) _
          rw [blE_snoc]
          (repeat' first | exact Rel.e | refine Rel.some ?_ ?_ ?_ | refine Rel.none ?_ ?_ | refine Rel.ee ?_ ?_)
          exact RO'.of (show _ < 3 by simp [Pos.nat]) (ShC.grown (by omega) (PuL_iff.2 fun d hd => by
            rcases List.mem_append.1 hd with hd | hd
            · exact PuL_iff.1 (pu_nD _) d hd
            · simp at hd; subst hd; exact trivial))
    · rw [if_neg hx] at hsc
      repeat' first | ((first | with_reducible (first | apply Qt | apply Qu) | refine Qa rfl ?_ | refine Qk rfl ?_ | refine Qb ?_ | refine Qc ?_ | refine Qi ?_ | refine Qj ?_) <;> conv => whnf)
      refine WB.decF (by omega) ?_; conv => whnf
      cases A with
      | nil =>
        repeat' first | ((first | with_reducible (first | apply Qt | apply Qu) | refine Qa rfl ?_ | refine Qk rfl ?_ | refine Qb ?_ | refine Qc ?_ | refine Qi ?_ | refine Qj ?_) <;> conv => whnf)
        refine Again.to (j + 1) (by omega) ⟨by omega, trivial⟩ (by show (nxE (numJ c e j)).nat ≤ (nxE (numJ c e (j + 1))).nat; rw [hA, hsc]; exact (show 1 ≤ 1 by omega)) ?_
        show Shr _ (nmS c e (numJ c e (j + 1)) (j + 1))
        rw [hsc]
        refine Shr.of ?_ ?_ rfl rfl
        · show Rel _ _ ((.n (.n (.n (.n .e (some (.i .i64 (e : Int))) .e) none .e) (some (.i .i64 (e : Int))) (.n .e (some (.ns)) .e)) (some (.i .i64 (c : Int))) (.n (.n (.n .e (some (.i .i64 ((j + 1 : Nat) : Int))) .e) none .e) none .e)) : T D) _
          skip
          (repeat' first | exact Rel.e | refine Rel.some ?_ ?_ ?_ | refine Rel.none ?_ ?_ | refine Rel.ee ?_ ?_)
          all_goals show Fz _ _ _ _
          all_goals first | exact .pu trivial | exact .ksl (show _ < 3 by simp [Pos.nat])
        · show Rel _ _ (.n (.n .e none .e) none .e) _
          skip
          (repeat' first | exact Rel.e | refine Rel.some ?_ ?_ ?_ | refine Rel.none ?_ ?_ | refine Rel.ee ?_ ?_)
          skip
      | cons a s =>
        repeat' first | ((first | with_reducible (first | apply Qt | apply Qu) | refine Qa rfl ?_ | refine Qk rfl ?_ | refine Qb ?_ | refine Qc ?_ | refine Qi ?_ | refine Qj ?_) <;> conv => whnf)
        refine Again.to (j + 1) (by omega) ⟨by omega, trivial⟩ (by show (nxE (numJ c e j)).nat ≤ (nxE (numJ c e (j + 1))).nat; rw [hA, hsc]; exact (show 3 ≤ 3 by omega)) ?_
        show Shr _ (nmS c e (numJ c e (j + 1)) (j + 1))
        rw [hsc]
        refine Shr.of ?_ ?_ rfl rfl
        · show Rel _ _ ((.n (.n (.n (.n .e (some (.i .i64 (e : Int))) .e) none .e) (some (.i .i64 (e : Int))) (.n .e (some ((.sl (.o .h) 0 (s.length + 1) s.length 1))) .e)) (some (.i .i64 (c : Int))) (.n (.n (.n .e (some (.i .i64 ((j + 1 : Nat) : Int))) .e) none .e) none .e)) : T D) _
          skip
          (repeat' first | exact Rel.e | refine Rel.some ?_ ?_ ?_ | refine Rel.none ?_ ?_ | refine Rel.ee ?_ ?_)
          all_goals show Fz _ _ _ _
          all_goals first | exact .pu trivial | exact .ksl (show _ < 3 by simp [Pos.nat])
        · show Rel _ _ (.n (.n .e (some (C.cells false ((nD (a :: s)).map fun d => Cell.o d s.length) (s.length + 1))) .e) none .e) _
          skip
          (repeat' first | exact Rel.e | refine Rel.some ?_ ?_ ?_ | refine Rel.none ?_ ?_ | refine Rel.ee ?_ ?_)
          exact RO'.of (show _ < 3 by simp [Pos.nat]) (ShC.same fun c hc => by
            obtain ⟨d, hd, rfl⟩ := List.mem_map.1 hc
            exact .pu (PuL_iff.1 (pu_nD _) d hd))
  · have he := hend (by omega)
    rw [← he]
    cases A with
    | nil =>
      repeat' first | ((first | with_reducible (first | apply Qt | apply Qu) | refine Qa rfl ?_ | refine Qk rfl ?_ | refine Qb ?_ | refine Qc ?_ | refine Qi ?_ | refine Qj ?_) <;> conv => whnf)
      exact Fin.t (.inr rfl) rfl (.pu trivial)
    | cons a s =>
      repeat' first | ((first | with_reducible (first | apply Qt | apply Qu) | refine Qa rfl ?_ | refine Qk rfl ?_ | refine Qb ?_ | refine Qc ?_ | refine Qi ?_ | refine Qj ?_) <;> conv => whnf)
      exact Fin.t (.inr rfl) rfl (Frz.whole (cs := (nD (a :: s)).map fun d => Cell.o d s.length) (cur := s.length + 1) rfl (by rw [ints_length]; rfl) (ints_one _) (by rw [ints_flatten]; rfl) (pu_ints _))
end Go.Ev
namespace Go.Ev
set_option maxRecDepth 100000
section
variable {α : Type}
def slG (id : Pos) (z : Nat) : List α → D
  | [] => .ns
  | _ :: s => .sl id 0 (s.length + 1) s.length z
def blG (f : α → List D) : List α → Option C
  | [] => none
  | a :: s => some (.cells false ((rows f (a :: s)).flatten.map fun d => Cell.o d s.length) (s.length + 1))
def nxG (p q : Pos) : List α → Pos
  | [] => p
  | _ :: _ => q
variable {f : α → List D}
theorem rowsF_snoc (A : List α) (x : α) : (rows f (A ++ [x])).flatten = (rows f A).flatten ++ f x := by simp [rows]
theorem rowsF_len {z : Nat} (hz : ∀ a, (f a).length = z) (A : List α) : (rows f A).flatten.length = A.length * z := by
  induction A with
  | nil => simp [rows]
  | cons a s ih =>
    show (f a ++ (rows f s).flatten).length = _
    rw [List.length_append, hz, ih, List.length_cons, Nat.add_mul]; omega
theorem rowsF_pu (hp : ∀ a, PuL (f a)) (A : List α) : PuL (rows f A).flatten := PuL_iff.2 fun d hd => by
  obtain ⟨r, hr, hd⟩ := List.mem_flatten.1 hd
  obtain ⟨a, _, rfl⟩ := List.mem_map.1 hr
  exact PuL_iff.1 (hp a) d hd
theorem slG_snoc {id : Pos} {z : Nat} (a : α) (s : List α) (x : α) : slG id z (a :: (s ++ [x])) = .sl id 0 (s.length + 1 + 1) (s.length + 1) z := by simp [slG]
theorem blG_snoc (a : α) (s : List α) (x : α) : blG f (a :: (s ++ [x])) = some (.cells false (((rows f (a :: s)).flatten ++ f x).map fun d => Cell.o d (s.length + 1)) (s.length + 1 + 1)) := by
  have h2 : (rows f (a :: (s ++ [x]))).flatten = (rows f (a :: s)).flatten ++ f x := rowsF_snoc (a :: s) x
  show some (Ev.C.cells false ((rows f (a :: (s ++ [x]))).flatten.map fun d => Cell.o d (s ++ [x]).length) ((s ++ [x]).length + 1)) = _
  rw [h2, List.length_append, List.length_singleton]
theorem Fz.G {B : Pos → Prop} {ob : T C} {id : Pos} {z : Nat} (A : List α) (hB : ¬ B id) (ho : ∀ c, blG f A = some c → ob.get id = some c) (hz : ∀ a, (f a).length = z) (hp : ∀ a, PuL (f a)) : Fz B ob (slG id z A) (.lst z (rows f A)) := by
  cases A with
  | nil => exact .ns
  | cons a s =>
    refine .sl (cs := (rows f (a :: s)).flatten.map fun d => Cell.o d s.length) hB (ho _ rfl) (by rw [rows_length]; rfl) (fun r hr => ?_) (fun k d hk => ⟨.o d s.length, ?_, ?_, rfl⟩) (FzE.of (pu_rows hp _))
    · obtain ⟨a, _, rfl⟩ := List.mem_map.1 hr
      exact hz a
    · rw [List.drop_zero, List.getElem?_map, hk]; rfl
    · show Nat.ble s.length s.length = true
      exact Nat.ble_eq_true_of_le (Nat.le_refl _)
theorem ShC.G {B : Pos → Prop} {ob : T C} (hp : ∀ a, PuL (f a)) (a : α) (s : List α) : ShC B ob (.cells false ((rows f (a :: s)).flatten.map fun d => Cell.o d s.length) (s.length + 1)) (.cells false ((rows f (a :: s)).flatten.map fun d => Cell.o d s.length) (s.length + 1)) :=
  ShC.same fun c hc => by
    obtain ⟨d, hd, rfl⟩ := List.mem_map.1 hc
    exact .pu (PuL_iff.1 (rowsF_pu hp _) d hd)
end
end Go.Ev