import Derived.Test.YtjgbfnciedkafaaEvUG7
set_option linter.all false
namespace Go.Ev
open Go.Proofs
set_option maxRecDepth 100000
def i14 : Pos := .o (.i (.i .h))
structure AskOk (B : Bk) (g : Pos) (first caps : List D) (ak : Mo → Int) : Prop where
  p1 : PuL first
  p2 : PuL caps
  ok : ∀ (Q : List Ln) (i : Nat), i ≤ 8 → PureF Try.prog g.ix (first ++ ([.ag (moD (moR B.box B.coin Q i))] ++ caps)) (.i .i64 (ak (moR B.box B.coin Q i)))
def bdI (B : Bk) (aft : Nat) (ak : Mo → Int) (h : List (List Ln)) (s : List Int) : Prop := s = h.map fun X => ak (moR B.box B.coin X aft)
def bdRl (B : Bk) (aft : Nat) (ak : Mo → Int) (s : List Int) (X : List Ln) (s' : List Int) (g : Bool) : Prop := s' = s ++ [ak (moR B.box B.coin X aft)] ∧ g = true
set_option maxHeartbeats 1000000 in
theorem bd_ok {B : Bk} (V : VB B) {aft : Nat} {g : Pos} {first caps : List D} {ak : Mo → Int} (A : AskOk B g first caps ak) (ha : aft ≤ B.ls.length) : TnsOk (bdM aft g first caps) B (bdI B aft ak) (bdRl B aft ak) := by
  have hL := V.len
  refine ⟨fun M F s => bd_kp A.p1 A.p2 M F s, ?_, ?_⟩
  · rintro h s X s' _ hI ⟨rfl, _⟩
    have hI : s = h.map fun X => ak (moR B.box B.coin X aft) := hI
    show s ++ [_] = (h ++ [X]).map _
    rw [hI, List.map_append]; rfl
  · intro h s hI X hpre M hM
    have hXe := mem_exT.1 (hpre.subset (show X ∈ h ++ [X] by simp))
    have hXl : X.length = B.ls.length := by have := hXe.len; simpa using this
    have hsl : s.length < 4096 := by
      have hI : s = h.map fun X => ak (moR B.box B.coin X aft) := hI
      have q1 := hpre.length_le
      have q2 := ex_len V
      rw [hI, List.length_map]
      rw [List.length_append, List.length_singleton] at q1
      omega
    have hmo : moF B.box B.coin X X.length aft = moR B.box B.coin X aft := moF_le (by omega)
    have cA := A.ok X aft (by omega)
    generalize hv : ak (moR B.box B.coin X aft) = v at cA
    generalize hF : moF B.box B.coin X X.length = F at hmo ⊢
    cases s with
    | nil =>
      refine RndOk.runEF (sl0 := bdS) rfl rc88a0_ok rc88b0_ok ⟨_, rfl, ?_⟩
      unfold Tns.ob trL bdM bdS
      conv => whnf
      repeat' first | ((first | with_reducible apply WB.tt | with_reducible apply WB.ff | refine Rn.seq ?_ | refine Rn.reg ?_ | refine Rn.drw ?_ | refine Rn.blk ?_ | refine Rn.skip ?_ | refine Rn.ret ?_ | refine Rn.exit ?_ | refine Rn.cond rfl ?_ | refine And.intro (InR.i64 (by omega) (by omega)) ?_ | refine And.intro (show _ ≠ (0 : Int) by omega) ?_ | refine WIx.intsN (by omega) ?_ | refine WIx.rowsN (by omega) ?_) <;> conv => whnf)
      refine ⟨rfl, rfl, _, _, _, _, _, _, rfl, ?_⟩
      conv => whnf
      repeat' first | ((first | with_reducible apply WB.tt | with_reducible apply WB.ff | refine Rn.seq ?_ | refine Rn.reg ?_ | refine Rn.drw ?_ | refine Rn.blk ?_ | refine Rn.skip ?_ | refine Rn.ret ?_ | refine Rn.exit ?_ | refine Rn.cond rfl ?_ | refine And.intro (InR.i64 (by omega) (by omega)) ?_ | refine And.intro (show _ ≠ (0 : Int) by omega) ?_ | refine WIx.intsN (by omega) ?_ | refine WIx.rowsN (by omega) ?_) <;> conv => whnf)
      refine WSt.ixaN (m := aft) rfl rfl rfl (by omega) ?_; conv => whnf
      refine wSt.ldM (F := F) (q := aft) (by rfl) (by rfl) (by rfl) (by omega) ?_
      rw [hmo]
      conv => whnf
      repeat' first | ((first | with_reducible apply WB.tt | with_reducible apply WB.ff | refine Rn.seq ?_ | refine Rn.reg ?_ | refine Rn.drw ?_ | refine Rn.blk ?_ | refine Rn.skip ?_ | refine Rn.ret ?_ | refine Rn.exit ?_ | refine Rn.cond rfl ?_ | refine And.intro (InR.i64 (by omega) (by omega)) ?_ | refine And.intro (show _ ≠ (0 : Int) by omega) ?_ | refine WIx.intsN (by omega) ?_ | refine WIx.rowsN (by omega) ?_ | refine WCall.pure (cA) ?_) <;> conv => whnf)
      refine WSt.app_firstL (r := [.i .i64 v]) rfl (.inl rfl) rfl rfl rfl rfl ?_; conv => whnf
      repeat' first | ((first | with_reducible apply WB.tt | with_reducible apply WB.ff | refine Rn.seq ?_ | refine Rn.reg ?_ | refine Rn.drw ?_ | refine Rn.blk ?_ | refine Rn.skip ?_ | refine Rn.ret ?_ | refine Rn.exit ?_ | refine Rn.cond rfl ?_ | refine And.intro (InR.i64 (by omega) (by omega)) ?_ | refine And.intro (show _ ≠ (0 : Int) by omega) ?_ | refine WIx.intsN (by omega) ?_ | refine WIx.rowsN (by omega) ?_) <;> conv => whnf)
      refine ⟨_, _, _, _, _, _, _, (trL (some (.map (mapL M))) none (some (.cells false [.o (.i .i64 (aft : Int)) 0, .o (.fn g first caps) 0] 1)) (some (.cells false [.o (.i .i64 0) 0, .o (.i .i64 0) 0] 1)) (some (.cells false [.o (.sl i14 0 1 0 1) 0] 1)) (some (wkCl B)) (some (.lp bdS [p10] 28 (rfA (bodyC Try.f88) 0) (rfB (bodyC Try.f88) 0) .ready none)) (some (.cells false [.o (.yl i7) 0] 1)) (some (moC F)) (some (.cells false [.o rdF 0] 1)) (some .hole) none none (some (.cells false [.o (.i .i64 v) 0] 1)) none none none none none none), (bdM aft g first caps).ob B M F [v], rfl, rfl, .i (.i (.i .h)), i14, by simp [n12, Pos.nat], by simp [n12, i14, Pos.nat], Shr.kp ?_ ?_, ?_, [v], ⟨by rw [← hv]; rfl, rfl⟩, rfl⟩
      · unfold trL bdS
        repeat' first | exact T.le_e _ | refine T.le_some ?_ rfl ?_ | refine T.le_same ?_ ?_ | refine T.le_none ?_ ?_
      · have k1 := KpL.pu (n := 15) first A.p1
        have k2 := KpL.pu (n := 15) caps A.p2
        show TAll (fun id c => id.nat < 15 ∧ KpC 15 c) _
        unfold trL
        repeat' first | exact TAll.e | refine TAll.some ?_ ?_ ?_ | refine TAll.none ?_ ?_
        all_goals refine ⟨by simp [Pos.nat], ?_⟩
        all_goals first
          | exact mapL_kp
          | exact fun s d h => (bdS_kp s d h).up (by omega)
          | exact puC (kp_mo126 _ _)
          | exact wkCl_kp B (by omega)
          | trivial
          | (refine KpL.all ?_; simp [KpL, Kp, Cell.d, Pu, rdF, k1, k2, i6, i7, i8, i9, i10, i14, Pos.nat])
      · refine ⟨i11, .i (.o .h), false, 1, 0, 1, 0, 1, 0, 1, [.i .i64 v], by simp [i11, n12, Pos.nat], by simp [i11, Pos.nat], rfl, by simp [PuL, Pu], rfl, rfl, fun i ci hci => ?_⟩
        rcases bd_at A.p1 A.p2 M F [v] hci with ⟨q1, q2⟩ | ⟨q1, q2⟩ | ⟨_, _, q3⟩
        · exact .inl ⟨q1, (Option.some.inj q2).symm⟩
        · exact .inr (.inl ⟨q1, q2⟩)
        · obtain ⟨r1, r2⟩ := bdR_kp A.p1 A.p2 M F i ci q3
          refine .inr (.inr ⟨r1, ?_, r2⟩)
          have hle : T.le (bdR B M F aft g first caps) (trL (some (.map (mapL M))) none (some (.cells false [.o (.i .i64 (aft : Int)) 0, .o (.fn g first caps) 0] 1)) (some (.cells false [.o (.i .i64 0) 0, .o (.i .i64 0) 0] 1)) (some (.cells false [.o (.sl i14 0 1 0 1) 0] 1)) (some (wkCl B)) (some (.lp bdS [p10] 28 (rfA (bodyC Try.f88) 0) (rfB (bodyC Try.f88) 0) .ready none)) (some (.cells false [.o (.yl i7) 0] 1)) (some (moC F)) (some (.cells false [.o rdF 0] 1)) (some .hole) none none (some (.cells false [.o (.i .i64 v) 0] 1)) none none none none none none) := by
            unfold bdR trL
            repeat' first | exact T.le_e _ | refine T.le_some ?_ rfl ?_ | refine T.le_same ?_ ?_ | refine T.le_none ?_ ?_
          exact hle i ci q3
    | cons a s =>
      have hs2 : s.length + 1 < 4096 := hsl
      refine RndOk.runE (sl0 := bdS) rfl rc88a0_ok rc88b0_ok ⟨_, rfl, ?_⟩
      unfold Tns.ob trL bdM bdS slA blA
      conv => whnf
      repeat' first | ((first | with_reducible apply WB.tt | with_reducible apply WB.ff | refine Rn.seq ?_ | refine Rn.reg ?_ | refine Rn.drw ?_ | refine Rn.blk ?_ | refine Rn.skip ?_ | refine Rn.ret ?_ | refine Rn.exit ?_ | refine Rn.cond rfl ?_ | refine And.intro (InR.i64 (by omega) (by omega)) ?_ | refine And.intro (show _ ≠ (0 : Int) by omega) ?_ | refine WIx.intsN (by omega) ?_ | refine WIx.rowsN (by omega) ?_) <;> conv => whnf)
      refine ⟨rfl, rfl, _, _, _, _, _, _, rfl, ?_⟩
      conv => whnf
      repeat' first | ((first | with_reducible apply WB.tt | with_reducible apply WB.ff | refine Rn.seq ?_ | refine Rn.reg ?_ | refine Rn.drw ?_ | refine Rn.blk ?_ | refine Rn.skip ?_ | refine Rn.ret ?_ | refine Rn.exit ?_ | refine Rn.cond rfl ?_ | refine And.intro (InR.i64 (by omega) (by omega)) ?_ | refine And.intro (show _ ≠ (0 : Int) by omega) ?_ | refine WIx.intsN (by omega) ?_ | refine WIx.rowsN (by omega) ?_) <;> conv => whnf)
      refine WSt.ixaN (m := aft) rfl rfl rfl (by omega) ?_; conv => whnf
      refine wSt.ldM (F := F) (q := aft) (by rfl) (by rfl) (by rfl) (by omega) ?_
      rw [hmo]
      conv => whnf
      repeat' first | ((first | with_reducible apply WB.tt | with_reducible apply WB.ff | refine Rn.seq ?_ | refine Rn.reg ?_ | refine Rn.drw ?_ | refine Rn.blk ?_ | refine Rn.skip ?_ | refine Rn.ret ?_ | refine Rn.exit ?_ | refine Rn.cond rfl ?_ | refine And.intro (InR.i64 (by omega) (by omega)) ?_ | refine And.intro (show _ ≠ (0 : Int) by omega) ?_ | refine WIx.intsN (by omega) ?_ | refine WIx.rowsN (by omega) ?_ | refine WCall.pure (cA) ?_) <;> conv => whnf)
      refine WSt.app_oneL (ds := (a :: s).map fun n => D.i .i64 n) (r := [.i .i64 v]) rfl rfl rfl rfl rfl rfl (by simp) rfl rfl (by omega) rfl ?_; conv => whnf
      repeat' first | ((first | with_reducible apply WB.tt | with_reducible apply WB.ff | refine Rn.seq ?_ | refine Rn.reg ?_ | refine Rn.drw ?_ | refine Rn.blk ?_ | refine Rn.skip ?_ | refine Rn.ret ?_ | refine Rn.exit ?_ | refine Rn.cond rfl ?_ | refine And.intro (InR.i64 (by omega) (by omega)) ?_ | refine And.intro (show _ ≠ (0 : Int) by omega) ?_ | refine WIx.intsN (by omega) ?_ | refine WIx.rowsN (by omega) ?_) <;> conv => whnf)
      have hln : (s ++ [v]).length = s.length + 1 := by simp
      have hb : blA (a :: s ++ [v]) = some (.cells false (((a :: s).map fun n => D.i .i64 n) ++ [D.i .i64 v] |>.map fun d => Cell.o d (s.length + 1)) (s.length + 1 + 1)) := by
        show some (Ev.C.cells false (((a :: (s ++ [v])).map fun n => D.i .i64 n).map fun d => Cell.o d (s ++ [v]).length) ((s ++ [v]).length + 1)) = _
        rw [hln, ← List.cons_append, List.map_append]; rfl
      have hsl' : slA (a :: s ++ [v]) = .sl i11 0 (s.length + 1 + 1) (s.length + 1) 1 := by
        show D.sl i11 0 ((s ++ [v]).length + 1) (s ++ [v]).length 1 = _
        rw [hln]
      refine ⟨_, _, _, _, _, _, _, (bdM aft g first caps).ob B M F (a :: s ++ [v]), rfl, rfl, ?_, a :: s ++ [v], ⟨by rw [← hv], rfl⟩, rfl⟩
      show Shr _ ⟨.e, trL (some (.map (mapL M))) none (some (.cells false [.o (.i .i64 (aft : Int)) 0, .o (.fn g first caps) 0] 1)) (some (.cells false [.o (.i .i64 0) 0, .o (.i .i64 0) 0] 1)) (some (.cells false [.o (slA (a :: s ++ [v])) 0] 1)) (some (wkCl B)) (some (.lp bdS [p10] 28 (rfA (bodyC Try.f88) 0) (rfB (bodyC Try.f88) 0) .ready none)) (some (.cells false [.o (.yl i7) 0] 1)) (some (moC F)) (some (.cells false [.o rdF 0] 1)) (blA (a :: s ++ [v])) none none none none none none none none none, n12, none⟩
      rw [hb, hsl']
      have k1 := KpL.pu (n := 12) first A.p1
      have k2 := KpL.pu (n := 12) caps A.p2
      have hpv : PuL (((a :: s).map fun n => D.i .i64 n) ++ [D.i .i64 v]) := PuL_iff.2 fun d hd => by
        rcases List.mem_append.1 hd with h | h
        · exact PuL_iff.1 (puL_map_j (a :: s)) d h
        · rw [List.mem_singleton.1 h]; trivial
      refine Shr.of ?_ ?_ rfl rfl
      · exact Rel.e
      · unfold trL
        repeat' first | exact Rel.e | refine Rel.some ?_ ?_ ?_ | refine Rel.none ?_ ?_
        all_goals refine RO'.of (by simp [Pos.nat, n12]) ?_
        all_goals first
          | exact ShC.kp mapL_kp
          | exact ShC.kp (n := 12) (fun s d h => (bdS_kp s d h).up (by omega))
          | exact ShC.kp (puC (kp_mo126 _ _))
          | exact ShC.kp (n := 12) (wkCl_kp B (by omega))
          | exact ShC.grown (by omega) hpv
          | (refine ShC.kp (n := 12) (KpL.all ?_); simp [KpL, Kp, Cell.d, Pu, rdF, k1, k2, i6, i7, i8, i9, i10, i11, Pos.nat])
theorem j_truths {B : Bk} {x1 x2 x3 x4 x5 : Option Ev.C} (hk : KpO 6 (trL x1 x2 x3 x4 x5 none none none none none none none none none none none none none none none)) : CallOk Try.prog p120.ix [.ag (wkQ B ++ [.mp .h])] (trL x1 x2 x3 x4 x5 none none none none none none none none none none none none none none none) i6 none (.fn p136 [] [.pt i6 0 0]) (trL x1 x2 x3 x4 x5 (some (wkCl B)) none none none none none none none none none none none none none none) i7 none := by
  refine CallOk.run fn119 (by simp) (by simp [i6, i7, Pos.nat]) ?_
  unfold wkQ trL
  conv => whnf
  repeat' first | ((first | with_reducible apply WB.tt | with_reducible apply WB.ff | refine Rn.seq ?_ | refine Rn.reg ?_ | refine Rn.drw ?_ | refine Rn.blk ?_ | refine Rn.skip ?_ | refine Rn.ret ?_ | refine Rn.exit ?_ | refine Rn.cond rfl ?_ | refine And.intro (InR.i64 (by omega) (by omega)) ?_ | refine And.intro (show _ ≠ (0 : Int) by omega) ?_ | refine WIx.intsN (by omega) ?_ | refine WIx.rowsN (by omega) ?_) <;> conv => whnf)
  refine ⟨.inr rfl, ⟨_, rfl, .fn .nil (.cons (.kpt (by simp [i6, i7, Pos.nat])) .nil)⟩, Shr.kp (T.le_refl _) fun id c h => ?_⟩
  by_cases e : id = i6
  · subst e
    have h : some (wkCl B) = some c := h
    cases h
    exact ⟨by simp [i6, i7, Pos.nat], wkCl_kp B (by simp [i7, Pos.nat])⟩
  · have h2 : (trL x1 x2 x3 x4 x5 none none none none none none none none none none none none none none none).get id = some c := by
      have := T.get_set_ne e (wkCl B) (trL x1 x2 x3 x4 x5 none none none none none none none none none none none none none none none)
      rw [← this]; exact h
    obtain ⟨q1, q2⟩ := hk id c h2
    exact ⟨by simp [i7, Pos.nat]; omega, q2.up (by simp [i7, Pos.nat])⟩
def lohi (L : List Int) : D := .ag [.i .i64 (L.foldl min (L.getD 0 0)), .i .i64 (L.foldl max (L.getD 0 0))]
def ansL (B : Bk) (aft : Nat) (ak : Mo → Int) : List Int := (exT B B.ls.length []).map fun X => ak (moR B.box B.coin X aft)
theorem bd_fld {B : Bk} {aft : Nat} {ak : Mo → Int} : ∀ (L : List (List Ln)) {s s' : List Int} {g : Bool}, Fld (bdRl B aft ak) L s s' g → s' = s ++ L.map (fun X => ak (moR B.box B.coin X aft)) ∧ g = true
  | [], s, s', g, h => by cases h; simp
  | X :: L, s, s', g, h => by
    cases h with
    | stop h => cases h.2
    | go h k =>
      obtain ⟨rfl, _⟩ := h
      obtain ⟨h1, h2⟩ := bd_fld L k
      exact ⟨by rw [h1]; simp, h2⟩
set_option maxHeartbeats 1000000 in
theorem j_bounds {B : Bk} (V : VB B) {aft : Nat} {g : Pos} {first caps : List D} {ak : Mo → Int} (A : AskOk B g first caps ak) (ha : aft ≤ B.ls.length) (hne : exT B B.ls.length [] ≠ []) (M : Memo) (hM : MOk B M) :
    ∃ M', MOk B M' ∧ CallOk Try.prog p89.ix [.ag (wkQ B ++ [.mp .h]), .ag [.i .i64 (aft : Int), .fn g first caps]] (mapP M) (.o .h) none (lohi (ansL B aft ak)) (mapP M') (.o .h) none := by
  have h1 := A.p1
  have h2 := A.p2
  obtain ⟨_, _, ⟨M', s', gg, hM', hFl, rfl, rfl⟩, Hc⟩ := j_truths1 V (bd_ok V A ha) M hM [] rfl rfl
  obtain ⟨hs', _⟩ := bd_fld _ hFl
  have hs' : s' = ansL B aft ak := hs'
  have hlen : s'.length ≤ 4096 := by rw [hs']; unfold ansL; rw [List.length_map]; exact ex_len V
  have hpos : 0 < s'.length := by rw [hs']; unfold ansL; rw [List.length_map]; exact List.length_pos_iff.2 hne
  rw [← hs']
  obtain ⟨a, t, rfl⟩ : ∃ a t, s' = a :: t := by
    cases s' with
    | nil => exact absurd hpos (Nat.lt_irrefl _)
    | cons a t => exact ⟨a, t, rfl⟩
  have e1 := ints_length (a :: t)
  have hfz : ∀ (ob : T Ev.C), ob.get i11 = some (.cells false (((a :: t).map fun n => D.i .i64 n).map fun d => Cell.o d t.length) (t.length + 1)) → Frz ob (.sl i11 0 (t.length + 1) t.length 1) (.lst 1 (ints (a :: t))) := fun ob h => Frz.whole (cs := ((a :: t).map fun n => D.i .i64 n).map fun d => Cell.o d t.length) (cur := t.length + 1) h (by rw [ints_length]; rfl) (ints_one' _) (by rw [ints_flatten]) (pu_ints _)
  obtain ⟨v, ob', ⟨M', hM', rfl, rfl⟩, Hb⟩ := CallOk.runE (Φ := fun v ob' => ∃ M', MOk B M' ∧ v = lohi (a :: t) ∧ ob' = mapP M') (ob := mapP M) (nx := .o .h) (nx' := .o .h) (ds := [.ag (wkQ B ++ [.mp .h]), .ag [.i .i64 (aft : Int), .fn g first caps]]) fn88 (by simp) (Nat.le_refl _) (by
    conv => whnf
    refine Rn.le (a := ⟨(.n (.n .e (some (.ag [.i .i64 (aft : Int), .fn g first caps])) .e) (some (.ag (wkQ B ++ [.mp .h]))) .e), trL (some (.map (mapL M))) none none none none none none none none none none none none none none none none none none none, .o .h, none⟩) ?_ ?_
    · unfold wkQ trL
      conv => whnf
      repeat' first | ((first | with_reducible apply WB.tt | with_reducible apply WB.ff | refine Rn.seq ?_ | refine Rn.reg ?_ | refine Rn.drw ?_ | refine Rn.blk ?_ | refine Rn.skip ?_ | refine Rn.ret ?_ | refine Rn.exit ?_ | refine Rn.cond rfl ?_ | refine And.intro (InR.i64 (by omega) (by omega)) ?_ | refine And.intro (show _ ≠ (0 : Int) by omega) ?_ | refine WIx.intsN (by omega) ?_ | refine WIx.rowsN (by omega) ?_) <;> conv => whnf)
      have k1 := KpL.pu (n := 6) first h1
      have k2 := KpL.pu (n := 6) caps h2
      refine WCall.of (j_truths (B := B) (x1 := some (.map (mapL M))) (x2 := some (wkCl B)) (x3 := (some (.cells false [.o (.i .i64 (aft : Int)) 0, .o (.fn g first caps) 0] 1))) (x4 := (some (.cells false [.o (.i .i64 0) 0, .o (.i .i64 0) 0] 1))) (x5 := some (.cells false [.o .ns 0] 1)) ?_) ?_
      · show TAll (fun id c => id.nat < 6 ∧ KpC 6 c) _
        unfold trL
        repeat' first | exact TAll.e | refine TAll.some ?_ ?_ ?_ | refine TAll.none ?_ ?_
        all_goals refine ⟨by simp [Pos.nat], ?_⟩
        all_goals first
          | exact mapL_kp
          | exact wkCl_kp B (by omega)
          | (refine KpL.all ?_; simp [KpL, Kp, Cell.d, Pu, k1, k2, Pos.nat])
      conv => whnf
      repeat' first | ((first | with_reducible apply WB.tt | with_reducible apply WB.ff | refine Rn.seq ?_ | refine Rn.reg ?_ | refine Rn.drw ?_ | refine Rn.blk ?_ | refine Rn.skip ?_ | refine Rn.ret ?_ | refine Rn.exit ?_ | refine Rn.cond rfl ?_ | refine And.intro (InR.i64 (by omega) (by omega)) ?_ | refine And.intro (show _ ≠ (0 : Int) by omega) ?_ | refine WIx.intsN (by omega) ?_ | refine WIx.rowsN (by omega) ?_) <;> conv => whnf)
      refine Rn.le (a := ⟨bdS, trL (some (.map (mapL M))) none (some (.cells false [.o (.i .i64 (aft : Int)) 0, .o (.fn g first caps) 0] 1)) (some (.cells false [.o (.i .i64 0) 0, .o (.i .i64 0) 0] 1)) (some (.cells false [.o .ns 0] 1)) (some (wkCl B)) none none none none none none none none none none none none none none, i7, none⟩) ?_ ?_
      · refine Rn.rf rfl rfl Hc rfl (by simp) ?_
        unfold Tns.bob trL bdM slA blA bdS
        conv => whnf
        repeat' first | ((first | with_reducible apply WB.tt | with_reducible apply WB.ff | refine Rn.seq ?_ | refine Rn.reg ?_ | refine Rn.drw ?_ | refine Rn.blk ?_ | refine Rn.skip ?_ | refine Rn.ret ?_ | refine Rn.exit ?_ | refine Rn.cond rfl ?_ | refine And.intro (InR.i64 (by omega) (by omega)) ?_ | refine And.intro (show _ ≠ (0 : Int) by omega) ?_ | refine WIx.intsN (by omega) ?_ | refine WIx.rowsN (by omega) ?_) <;> conv => whnf)
        refine WSt.ixsY (m := 0) (by rfl) (by rfl) (by omega) ?_; conv => whnf
        refine wSt.ld1 (v := .i .i64 a) (lo := t.length) (by rfl) (by rfl) (by rfl) (Nat.le_refl _) ?_; conv => whnf
        repeat' first | ((first | with_reducible apply WB.tt | with_reducible apply WB.ff | refine Rn.seq ?_ | refine Rn.reg ?_ | refine Rn.drw ?_ | refine Rn.blk ?_ | refine Rn.skip ?_ | refine Rn.ret ?_ | refine Rn.exit ?_ | refine Rn.cond rfl ?_ | refine And.intro (InR.i64 (by omega) (by omega)) ?_ | refine And.intro (show _ ≠ (0 : Int) by omega) ?_ | refine WIx.intsN (by omega) ?_ | refine WIx.rowsN (by omega) ?_) <;> conv => whnf)
        refine WCall.borrow1 (j_min a (a :: t) (by omega)) i11 (.cells false (((a :: t).map fun n => D.i .i64 n).map fun d => Cell.o d t.length) (t.length + 1)) (.cons (.pu trivial) (.cons (hfz _ (T.get_set_same _ _ _)) .nil)) trivial rfl rfl ?_; conv => whnf
        repeat' first | ((first | with_reducible apply WB.tt | with_reducible apply WB.ff | refine Rn.seq ?_ | refine Rn.reg ?_ | refine Rn.drw ?_ | refine Rn.blk ?_ | refine Rn.skip ?_ | refine Rn.ret ?_ | refine Rn.exit ?_ | refine Rn.cond rfl ?_ | refine And.intro (InR.i64 (by omega) (by omega)) ?_ | refine And.intro (show _ ≠ (0 : Int) by omega) ?_ | refine WIx.intsN (by omega) ?_ | refine WIx.rowsN (by omega) ?_) <;> conv => whnf)
        refine WCall.borrow1 (j_max (a :: t) (by simp) (by omega)) i11 (.cells false (((a :: t).map fun n => D.i .i64 n).map fun d => Cell.o d t.length) (t.length + 1)) (.cons (hfz _ (T.get_set_same _ _ _)) .nil) trivial rfl rfl ?_; conv => whnf
        repeat' first | ((first | with_reducible apply WB.tt | with_reducible apply WB.ff | refine Rn.seq ?_ | refine Rn.reg ?_ | refine Rn.drw ?_ | refine Rn.blk ?_ | refine Rn.skip ?_ | refine Rn.ret ?_ | refine Rn.exit ?_ | refine Rn.cond rfl ?_ | refine And.intro (InR.i64 (by omega) (by omega)) ?_ | refine And.intro (show _ ≠ (0 : Int) by omega) ?_ | refine WIx.intsN (by omega) ?_ | refine WIx.rowsN (by omega) ?_) <;> conv => whnf)
        refine ⟨_, _, ⟨M', hM', rfl, rfl⟩, ⟨.inr rfl, ⟨_, rfl, .ag (.cons (Fz.i rfl) (.cons (Fz.i rfl) .nil))⟩, Shr.kp ?_ (mapP_kp M')⟩⟩
        show T.le (T.n .e (some (.map (mapL M'))) .e : T Ev.C) _
        refine T.le_some (T.le_e _) rfl (T.le_e _)
      · refine X.le.mk ?_ ?_ (Nat.le_refl _) rfl rfl
        · unfold bdS
          repeat' first | exact T.le_refl _ | exact T.le_e _ | refine T.le_some ?_ rfl ?_ | refine T.le_same ?_ ?_ | refine T.le_none ?_ ?_
        · unfold trL
          repeat' first | exact T.le_refl _ | exact T.le_e _ | refine T.le_some ?_ rfl ?_ | refine T.le_same ?_ ?_ | refine T.le_none ?_ ?_
    · refine X.le.mk (T.le_refl _) ?_ (Nat.le_refl _) rfl rfl
      unfold trL
      repeat' first | exact T.le_e _ | refine T.le_some ?_ rfl ?_ | refine T.le_none ?_ ?_ | refine T.le_ee ?_ ?_)
  exact ⟨M', hM', Hb⟩
end Go.Ev
namespace Go.Ev
open Go.Proofs
set_option maxRecDepth 100000
theorem ask_money (B : Bk) : AskOk B p77 [] [] Mo.box := ⟨trivial, trivial, fun Q i _ => j_money _⟩
theorem ask_mixed (B : Bk) : AskOk B p78 [] [] Mo.mix := ⟨trivial, trivial, fun Q i _ => j_mixed _⟩
theorem ex_ne {n coin box : Int} {ls : List Ln} {cs : List Ct} {t : Bool} (h : sE n coin box ls cs t = 0) : exT (B5 n coin box ls cs) ls.length [] ≠ [] := by
  unfold sE at h
  have hb : hasB (B5 n coin box ls cs) = true := by
    cases hh : hasB (B5 n coin box ls cs) with
    | true => rfl
    | false =>
      rw [hh] at h
      split at h
      · exact absurd h (by assumption)
      · cases t <;> cases h
  obtain ⟨X, hX⟩ := can_iff.1 hb
  intro he
  have := mem_exT.2 hX
  rw [show (B5 n coin box ls cs).ls.length = ls.length from rfl, he] at this
  cases this
theorem sE_fault {n coin box : Int} {ls : List Ln} {cs : List Ct} {t : Bool} (h : sE n coin box ls cs t = 0) : faultT n coin box ls cs = 0 ∧ t = true := by
  unfold sE at h
  by_cases hf : faultT n coin box ls cs ≠ 0
  · rw [if_pos hf] at h; exact absurd h hf
  · rw [if_neg hf] at h
    refine ⟨by omega, ?_⟩
    cases t with
    | true => rfl
    | false => cases h
theorem start_at {n coin box : Int} {ls : List Ln} {cs : List Ct} {M : Memo} (Hs : CallOk Try.prog p85.ix [.ag (wkQ (B5 n coin box ls cs)), .b true] .e .h none (.tp [.ag (wkQ (B5 n coin box ls cs) ++ [.mp .h]), .i .i64 0]) (mapP M) (.o .h) none) {ob : T C} {nx : Pos} {lg : Option (T Bool)} : CallOk Try.prog p85.ix [.ag (wkQ (B5 n coin box ls cs)), .b true] ob nx lg (.tp [.ag (wkQ (B5 n coin box ls cs) ++ [.mp nx]), .i .i64 0]) (T.set nx (.map (mapL M)) ob) nx.succ (lgW lg nx) :=
  CallOk.newG Hs rfl (mapL_pu M) (by simp [PuL, Pu, wkQ_pu]) (fun γ γ' w => .tp (.cons (.ag (.app (.pu psh1_im (wkQ_pu _)) rfl (.cons .mpO .nil))) (.cons (.pu psh1_im trivial) .nil)))
theorem lohi_pu (L : List Int) : Pu (lohi L) := by simp [lohi, Pu, PuL]
def monT (n coin box : Int) (ls : List Ln) (cs : List Ct) (after : Int) : D :=
  if sE n coin box ls cs (inR after 0 ls.length) = 0 then .tp [lohi (ansL (B5 n coin box ls cs) after.toNat Mo.box), .i .i64 0] else .tp [.ag [.i .i64 0, .i .i64 0], .i .i64 (sE n coin box ls cs (inR after 0 ls.length))]
theorem j_MoneyP (n coin box : Int) (ls : List Ln) (cs : List Ct) (after : Int) : PureF Try.prog p39.ix [.ag [.i .i64 n, .i .i64 coin, .i .i64 box, .lst 3 (rows lnD ls), .lst 3 (rows ctD cs)], .i .i64 after] (monT n coin box ls cs after) := by
  have e1 := rows_length lnD ls
  have cU : PureF Try.prog p86.ix [.i .i64 after, .i .i64 ((rows lnD ls).length : Int)] (.b (inR after 0 ls.length)) := by
    have := j_upTo after ((rows lnD ls).length : Int)
    rw [e1] at this ⊢
    exact this
  unfold monT
  by_cases hE : sE n coin box ls cs (inR after 0 ls.length) = 0
  · rw [if_pos hE]
    obtain ⟨hf, ht⟩ := sE_fault hE
    have hE' := hE
    rw [ht] at hE' cU
    obtain ⟨M, hM, Hs⟩ := j_startO n coin box ls cs hE'
    have ha := inR_iff.1 ht
    have V := VB.of hf
    obtain ⟨M', hM', Hb⟩ := j_bounds V (ask_money _) (aft := after.toNat) (show after.toNat ≤ ls.length by omega) (ex_ne hE) M hM
    rw [show ((after.toNat : Nat) : Int) = after by omega] at Hb
    refine PureF.run fn38 (by simp) (by simp [PuL, PuE, Pu, pu_ints, pu_ln, pu_ct]) ?_; conv => whnf
    repeat' first | ((first | with_reducible apply WB.tt | with_reducible apply WB.ff | refine Rn.seq ?_ | refine Rn.reg ?_ | refine Rn.drw ?_ | refine Rn.blk ?_ | refine Rn.skip ?_ | refine Rn.ret ?_ | refine Rn.exit ?_ | refine Rn.cond rfl ?_ | refine And.intro (InR.i64 (by omega) (by omega)) ?_ | refine And.intro (show _ ≠ (0 : Int) by omega) ?_ | refine WIx.intsN (by omega) ?_ | refine WIx.rowsN (by omega) ?_ | refine WCall.pure (cU) ?_ | with_reducible refine WB.decT (by first | with_reducible rfl | assumption | omega | exact ⟨rfl, rfl⟩) ?_ | with_reducible refine WB.decF (by first | assumption | omega) ?_ | with_reducible refine WB.ndT (by first | with_reducible rfl | assumption | omega | exact ⟨rfl, rfl⟩) ?_ | with_reducible refine WB.ndF (by first | assumption | omega) ?_ | with_reducible refine WB.nt ?_ | with_reducible refine WB.nf ?_ | with_reducible refine WB.dec (fun h => ?_) (fun h => ?_) | with_reducible refine WB.ndec (fun h => ?_) (fun h => ?_) | refine WB.mk (fun h => ?_) (fun h => ?_)) <;> conv => whnf)
    refine WCall.of (start_at Hs) ?_; conv => whnf
    repeat' first | ((first | with_reducible apply WB.tt | with_reducible apply WB.ff | refine Rn.seq ?_ | refine Rn.reg ?_ | refine Rn.drw ?_ | refine Rn.blk ?_ | refine Rn.skip ?_ | refine Rn.ret ?_ | refine Rn.exit ?_ | refine Rn.cond rfl ?_ | refine And.intro (InR.i64 (by omega) (by omega)) ?_ | refine And.intro (show _ ≠ (0 : Int) by omega) ?_ | refine WIx.intsN (by omega) ?_ | refine WIx.rowsN (by omega) ?_ | with_reducible refine WB.decT (by first | with_reducible rfl | assumption | omega | exact ⟨rfl, rfl⟩) ?_ | with_reducible refine WB.decF (by first | assumption | omega) ?_ | with_reducible refine WB.ndT (by first | with_reducible rfl | assumption | omega | exact ⟨rfl, rfl⟩) ?_ | with_reducible refine WB.ndF (by first | assumption | omega) ?_ | with_reducible refine WB.nt ?_ | with_reducible refine WB.nf ?_ | with_reducible refine WB.dec (fun h => ?_) (fun h => ?_) | with_reducible refine WB.ndec (fun h => ?_) (fun h => ?_) | refine WB.mk (fun h => ?_) (fun h => ?_)) <;> conv => whnf)
    refine WCall.of (CallOk.mapAt Hb (lohi_pu _) (id := .i .h) rfl (show 3 < Pos.nat (.i (.o .h)) from by decide) (mp_at (by simp [PuL, Pu]))) ?_; conv => whnf
    repeat' first | ((first | with_reducible apply WB.tt | with_reducible apply WB.ff | refine Rn.seq ?_ | refine Rn.reg ?_ | refine Rn.drw ?_ | refine Rn.blk ?_ | refine Rn.skip ?_ | refine Rn.ret ?_ | refine Rn.exit ?_ | refine Rn.cond rfl ?_ | refine And.intro (InR.i64 (by omega) (by omega)) ?_ | refine And.intro (show _ ≠ (0 : Int) by omega) ?_ | refine WIx.intsN (by omega) ?_ | refine WIx.rowsN (by omega) ?_ | with_reducible refine WB.decT (by first | with_reducible rfl | assumption | omega | exact ⟨rfl, rfl⟩) ?_ | with_reducible refine WB.decF (by first | assumption | omega) ?_ | with_reducible refine WB.ndT (by first | with_reducible rfl | assumption | omega | exact ⟨rfl, rfl⟩) ?_ | with_reducible refine WB.ndF (by first | assumption | omega) ?_ | with_reducible refine WB.nt ?_ | with_reducible refine WB.nf ?_ | with_reducible refine WB.dec (fun h => ?_) (fun h => ?_) | with_reducible refine WB.ndec (fun h => ?_) (fun h => ?_) | refine WB.mk (fun h => ?_) (fun h => ?_)) <;> conv => whnf)
    exact ⟨.inr rfl, _, rfl, .tp (.cons (.ag (.cons (Fz.i rfl) (.cons (Fz.i rfl) .nil))) (.cons (.pu trivial) .nil))⟩
  · rw [if_neg hE]
    have cS := j_startE n coin box ls cs _ hE
    generalize sE n coin box ls cs (inR after 0 ls.length) = e at hE cS ⊢
    unfold wkQ B5 zwk at cS
    refine PureF.run fn38 (by simp) (by simp [PuL, PuE, Pu, pu_ints, pu_ln, pu_ct]) ?_; conv => whnf
    repeat' first | ((first | with_reducible apply WB.tt | with_reducible apply WB.ff | refine Rn.seq ?_ | refine Rn.reg ?_ | refine Rn.drw ?_ | refine Rn.blk ?_ | refine Rn.skip ?_ | refine Rn.ret ?_ | refine Rn.exit ?_ | refine Rn.cond rfl ?_ | refine And.intro (InR.i64 (by omega) (by omega)) ?_ | refine And.intro (show _ ≠ (0 : Int) by omega) ?_ | refine WIx.intsN (by omega) ?_ | refine WIx.rowsN (by omega) ?_ | refine WCall.pure (cU) ?_ | refine WCall.pure (cS) ?_ | with_reducible refine WB.decT (by first | with_reducible rfl | assumption | omega | exact ⟨rfl, rfl⟩) ?_ | with_reducible refine WB.decF (by first | assumption | omega) ?_ | with_reducible refine WB.ndT (by first | with_reducible rfl | assumption | omega | exact ⟨rfl, rfl⟩) ?_ | with_reducible refine WB.ndF (by first | assumption | omega) ?_ | with_reducible refine WB.nt ?_ | with_reducible refine WB.nf ?_ | with_reducible refine WB.dec (fun h => ?_) (fun h => ?_) | with_reducible refine WB.ndec (fun h => ?_) (fun h => ?_) | refine WB.mk (fun h => ?_) (fun h => ?_)) <;> conv => whnf)
    all_goals first
      | (exfalso; omega)
      | exact ⟨.inr rfl, _, rfl, .tp (.cons (.ag (.cons (.pu trivial) (.cons (.pu trivial) .nil))) (.cons (.pu trivial) .nil))⟩
def mixT (n coin box : Int) (ls : List Ln) (cs : List Ct) : D :=
  if sE n coin box ls cs true = 0 then .tp [lohi (ansL (B5 n coin box ls cs) ls.length Mo.mix), .i .i64 0] else .tp [.ag [.i .i64 0, .i .i64 0], .i .i64 (sE n coin box ls cs true)]
theorem j_MixedP (n coin box : Int) (ls : List Ln) (cs : List Ct) : PureF Try.prog p40.ix [.ag [.i .i64 n, .i .i64 coin, .i .i64 box, .lst 3 (rows lnD ls), .lst 3 (rows ctD cs)]] (mixT n coin box ls cs) := by
  have e1 := rows_length lnD ls
  unfold mixT
  by_cases hE : sE n coin box ls cs true = 0
  · rw [if_pos hE]
    obtain ⟨hf, _⟩ := sE_fault hE
    obtain ⟨M, hM, Hs⟩ := j_startO n coin box ls cs hE
    have V := VB.of hf
    obtain ⟨M', hM', Hb⟩ := j_bounds V (ask_mixed _) (aft := ls.length) (Nat.le_refl _) (ex_ne hE) M hM
    rw [← e1] at Hb ⊢
    refine PureF.run fn39 (by simp) (by simp [PuL, PuE, Pu, pu_ints, pu_ln, pu_ct]) ?_; conv => whnf
    repeat' first | ((first | with_reducible apply WB.tt | with_reducible apply WB.ff | refine Rn.seq ?_ | refine Rn.reg ?_ | refine Rn.drw ?_ | refine Rn.blk ?_ | refine Rn.skip ?_ | refine Rn.ret ?_ | refine Rn.exit ?_ | refine Rn.cond rfl ?_ | refine And.intro (InR.i64 (by omega) (by omega)) ?_ | refine And.intro (show _ ≠ (0 : Int) by omega) ?_ | refine WIx.intsN (by omega) ?_ | refine WIx.rowsN (by omega) ?_ | with_reducible refine WB.decT (by first | with_reducible rfl | assumption | omega | exact ⟨rfl, rfl⟩) ?_ | with_reducible refine WB.decF (by first | assumption | omega) ?_ | with_reducible refine WB.ndT (by first | with_reducible rfl | assumption | omega | exact ⟨rfl, rfl⟩) ?_ | with_reducible refine WB.ndF (by first | assumption | omega) ?_ | with_reducible refine WB.nt ?_ | with_reducible refine WB.nf ?_ | with_reducible refine WB.dec (fun h => ?_) (fun h => ?_) | with_reducible refine WB.ndec (fun h => ?_) (fun h => ?_) | refine WB.mk (fun h => ?_) (fun h => ?_)) <;> conv => whnf)
    refine WCall.of (start_at Hs) ?_; conv => whnf
    repeat' first | ((first | with_reducible apply WB.tt | with_reducible apply WB.ff | refine Rn.seq ?_ | refine Rn.reg ?_ | refine Rn.drw ?_ | refine Rn.blk ?_ | refine Rn.skip ?_ | refine Rn.ret ?_ | refine Rn.exit ?_ | refine Rn.cond rfl ?_ | refine And.intro (InR.i64 (by omega) (by omega)) ?_ | refine And.intro (show _ ≠ (0 : Int) by omega) ?_ | refine WIx.intsN (by omega) ?_ | refine WIx.rowsN (by omega) ?_ | with_reducible refine WB.decT (by first | with_reducible rfl | assumption | omega | exact ⟨rfl, rfl⟩) ?_ | with_reducible refine WB.decF (by first | assumption | omega) ?_ | with_reducible refine WB.ndT (by first | with_reducible rfl | assumption | omega | exact ⟨rfl, rfl⟩) ?_ | with_reducible refine WB.ndF (by first | assumption | omega) ?_ | with_reducible refine WB.nt ?_ | with_reducible refine WB.nf ?_ | with_reducible refine WB.dec (fun h => ?_) (fun h => ?_) | with_reducible refine WB.ndec (fun h => ?_) (fun h => ?_) | refine WB.mk (fun h => ?_) (fun h => ?_)) <;> conv => whnf)
    refine WCall.of (CallOk.mapAt Hb (lohi_pu _) (id := .i .h) rfl (show 3 < Pos.nat (.i (.o .h)) from by decide) (mp_at (by simp [PuL, Pu]))) ?_; conv => whnf
    repeat' first | ((first | with_reducible apply WB.tt | with_reducible apply WB.ff | refine Rn.seq ?_ | refine Rn.reg ?_ | refine Rn.drw ?_ | refine Rn.blk ?_ | refine Rn.skip ?_ | refine Rn.ret ?_ | refine Rn.exit ?_ | refine Rn.cond rfl ?_ | refine And.intro (InR.i64 (by omega) (by omega)) ?_ | refine And.intro (show _ ≠ (0 : Int) by omega) ?_ | refine WIx.intsN (by omega) ?_ | refine WIx.rowsN (by omega) ?_ | with_reducible refine WB.decT (by first | with_reducible rfl | assumption | omega | exact ⟨rfl, rfl⟩) ?_ | with_reducible refine WB.decF (by first | assumption | omega) ?_ | with_reducible refine WB.ndT (by first | with_reducible rfl | assumption | omega | exact ⟨rfl, rfl⟩) ?_ | with_reducible refine WB.ndF (by first | assumption | omega) ?_ | with_reducible refine WB.nt ?_ | with_reducible refine WB.nf ?_ | with_reducible refine WB.dec (fun h => ?_) (fun h => ?_) | with_reducible refine WB.ndec (fun h => ?_) (fun h => ?_) | refine WB.mk (fun h => ?_) (fun h => ?_)) <;> conv => whnf)
    exact ⟨.inr rfl, _, rfl, .tp (.cons (.ag (.cons (Fz.i rfl) (.cons (Fz.i rfl) .nil))) (.cons (.pu trivial) .nil))⟩
  · rw [if_neg hE]
    have cS := j_startE n coin box ls cs _ hE
    generalize sE n coin box ls cs true = e at hE cS ⊢
    unfold wkQ B5 zwk at cS
    refine PureF.run fn39 (by simp) (by simp [PuL, PuE, Pu, pu_ints, pu_ln, pu_ct]) ?_; conv => whnf
    repeat' first | ((first | with_reducible apply WB.tt | with_reducible apply WB.ff | refine Rn.seq ?_ | refine Rn.reg ?_ | refine Rn.drw ?_ | refine Rn.blk ?_ | refine Rn.skip ?_ | refine Rn.ret ?_ | refine Rn.exit ?_ | refine Rn.cond rfl ?_ | refine And.intro (InR.i64 (by omega) (by omega)) ?_ | refine And.intro (show _ ≠ (0 : Int) by omega) ?_ | refine WIx.intsN (by omega) ?_ | refine WIx.rowsN (by omega) ?_ | refine WCall.pure (cS) ?_ | with_reducible refine WB.decT (by first | with_reducible rfl | assumption | omega | exact ⟨rfl, rfl⟩) ?_ | with_reducible refine WB.decF (by first | assumption | omega) ?_ | with_reducible refine WB.ndT (by first | with_reducible rfl | assumption | omega | exact ⟨rfl, rfl⟩) ?_ | with_reducible refine WB.ndF (by first | assumption | omega) ?_ | with_reducible refine WB.nt ?_ | with_reducible refine WB.nf ?_ | with_reducible refine WB.dec (fun h => ?_) (fun h => ?_) | with_reducible refine WB.ndec (fun h => ?_) (fun h => ?_) | refine WB.mk (fun h => ?_) (fun h => ?_)) <;> conv => whnf)
    all_goals first
      | (exfalso; omega)
      | exact ⟨.inr rfl, _, rfl, .tp (.cons (.ag (.cons (.pu trivial) (.cons (.pu trivial) .nil))) (.cons (.pu trivial) .nil))⟩
theorem j_isOut (m : Mo) (x : Nat) (hx : x < 8) : PureF Try.prog p119.ix [.i .i64 (x : Int), .ag (moD m)] (.i .i64 (min (m.h x) 1)) := by
  unfold moD
  refine PureF.run fn118 (by simp) (by simp [PuL, Pu]) ?_; conv => whnf
  repeat' first | ((first | with_reducible apply WB.tt | with_reducible apply WB.ff | refine Rn.seq ?_ | refine Rn.reg ?_ | refine Rn.drw ?_ | refine Rn.blk ?_ | refine Rn.skip ?_ | refine Rn.ret ?_ | refine Rn.exit ?_ | refine Rn.cond rfl ?_ | refine And.intro (InR.i64 (by omega) (by omega)) ?_ | refine And.intro (show _ ≠ (0 : Int) by omega) ?_ | refine WIx.intsN (by omega) ?_ | refine WIx.rowsN (by omega) ?_ | with_reducible refine WB.decT (by first | with_reducible rfl | assumption | omega | exact ⟨rfl, rfl⟩) ?_ | with_reducible refine WB.decF (by first | assumption | omega) ?_ | with_reducible refine WB.ndT (by first | with_reducible rfl | assumption | omega | exact ⟨rfl, rfl⟩) ?_ | with_reducible refine WB.ndF (by first | assumption | omega) ?_ | with_reducible refine WB.nt ?_ | with_reducible refine WB.nf ?_ | with_reducible refine WB.dec (fun h => ?_) (fun h => ?_) | with_reducible refine WB.ndec (fun h => ?_) (fun h => ?_) | refine WB.mk (fun h => ?_) (fun h => ?_)) <;> conv => whnf)
  refine WSt.ixaN (m := x) rfl rfl rfl (by omega) ?_; conv => whnf
  refine wSt.ldH (n := m.n) (h := m.h) (box := m.box) (mix := m.mix) (c := x) (by rfl) (by rfl) (by rfl) (by omega) ?_; conv => whnf
  repeat' first | ((first | with_reducible apply WB.tt | with_reducible apply WB.ff | refine Rn.seq ?_ | refine Rn.reg ?_ | refine Rn.drw ?_ | refine Rn.blk ?_ | refine Rn.skip ?_ | refine Rn.ret ?_ | refine Rn.exit ?_ | refine Rn.cond rfl ?_ | refine And.intro (InR.i64 (by omega) (by omega)) ?_ | refine And.intro (show _ ≠ (0 : Int) by omega) ?_ | refine WIx.intsN (by omega) ?_ | refine WIx.rowsN (by omega) ?_ | with_reducible refine WB.decT (by first | with_reducible rfl | assumption | omega | exact ⟨rfl, rfl⟩) ?_ | with_reducible refine WB.decF (by first | assumption | omega) ?_ | with_reducible refine WB.ndT (by first | with_reducible rfl | assumption | omega | exact ⟨rfl, rfl⟩) ?_ | with_reducible refine WB.ndF (by first | assumption | omega) ?_ | with_reducible refine WB.nt ?_ | with_reducible refine WB.nf ?_ | with_reducible refine WB.dec (fun h => ?_) (fun h => ?_) | with_reducible refine WB.ndec (fun h => ?_) (fun h => ?_) | refine WB.mk (fun h => ?_) (fun h => ?_)) <;> conv => whnf)
  exact Fin.i rfl rfl
theorem ask_isOut (B : Bk) (x : Nat) (hx : x < 8) : AskOk B p119 [.i .i64 (x : Int)] [] (fun m => min (m.h x) 1) := ⟨by simp [PuL, Pu], trivial, fun _ _ _ => j_isOut _ x hx⟩
def vdT (a b : Int) : Int := if a = 1 ∧ b = 1 then 1 else if a = 0 ∧ b = 0 then 2 else 3
theorem j_verdict (a b : Int) (ha : wfB .i64 a = true) (hb : wfB .i64 b = true) : PureF Try.prog p118.ix [.ag [.i .i64 a, .i .i64 b]] (.i .i64 (vdT a b)) := by
  refine PureF.run fn117 (by simp) (by simp [PuL, Pu]) ?_; conv => whnf
  repeat' first | ((first | with_reducible apply WB.tt | with_reducible apply WB.ff | refine Rn.seq ?_ | refine Rn.reg ?_ | refine Rn.drw ?_ | refine Rn.blk ?_ | refine Rn.skip ?_ | refine Rn.ret ?_ | refine Rn.exit ?_ | refine Rn.cond rfl ?_ | refine And.intro (InR.i64 (by omega) (by omega)) ?_ | refine And.intro (show _ ≠ (0 : Int) by omega) ?_ | refine WIx.intsN (by omega) ?_ | refine WIx.rowsN (by omega) ?_ | with_reducible refine WB.decT (by first | with_reducible rfl | assumption | omega | exact ⟨rfl, rfl⟩) ?_ | with_reducible refine WB.decF (by first | assumption | omega) ?_ | with_reducible refine WB.ndT (by first | with_reducible rfl | assumption | omega | exact ⟨rfl, rfl⟩) ?_ | with_reducible refine WB.ndF (by first | assumption | omega) ?_ | with_reducible refine WB.nt ?_ | with_reducible refine WB.nf ?_ | with_reducible refine WB.dec (fun h => ?_) (fun h => ?_) | with_reducible refine WB.ndec (fun h => ?_) (fun h => ?_) | refine WB.mk (fun h => ?_) (fun h => ?_)) <;> conv => whnf)
  refine WSt.eqr2 (a := a) (b := b) (a' := 1) (b' := 1) rfl rfl ha hb rfl rfl ?_; conv => whnf
  by_cases h1 : a = 1 ∧ b = 1
  · repeat' first | ((first | with_reducible apply WB.tt | with_reducible apply WB.ff | refine Rn.seq ?_ | refine Rn.reg ?_ | refine Rn.drw ?_ | refine Rn.blk ?_ | refine Rn.skip ?_ | refine Rn.ret ?_ | refine Rn.exit ?_ | refine Rn.cond rfl ?_ | refine And.intro (InR.i64 (by omega) (by omega)) ?_ | refine And.intro (show _ ≠ (0 : Int) by omega) ?_ | refine WIx.intsN (by omega) ?_ | refine WIx.rowsN (by omega) ?_ | with_reducible refine WB.decT (by first | with_reducible rfl | assumption | omega | exact ⟨rfl, rfl⟩) ?_ | with_reducible refine WB.decF (by first | assumption | omega) ?_ | with_reducible refine WB.ndT (by first | with_reducible rfl | assumption | omega | exact ⟨rfl, rfl⟩) ?_ | with_reducible refine WB.ndF (by first | assumption | omega) ?_ | with_reducible refine WB.nt ?_ | with_reducible refine WB.nf ?_ | with_reducible refine WB.dec (fun h => ?_) (fun h => ?_) | with_reducible refine WB.ndec (fun h => ?_) (fun h => ?_) | refine WB.mk (fun h => ?_) (fun h => ?_)) <;> conv => whnf)
    exact Fin.i rfl (by unfold vdT; rw [if_pos h1])
  · repeat' first | ((first | with_reducible apply WB.tt | with_reducible apply WB.ff | refine Rn.seq ?_ | refine Rn.reg ?_ | refine Rn.drw ?_ | refine Rn.blk ?_ | refine Rn.skip ?_ | refine Rn.ret ?_ | refine Rn.exit ?_ | refine Rn.cond rfl ?_ | refine And.intro (InR.i64 (by omega) (by omega)) ?_ | refine And.intro (show _ ≠ (0 : Int) by omega) ?_ | refine WIx.intsN (by omega) ?_ | refine WIx.rowsN (by omega) ?_ | with_reducible refine WB.decT (by first | with_reducible rfl | assumption | omega | exact ⟨rfl, rfl⟩) ?_ | with_reducible refine WB.decF (by first | assumption | omega) ?_ | with_reducible refine WB.ndT (by first | with_reducible rfl | assumption | omega | exact ⟨rfl, rfl⟩) ?_ | with_reducible refine WB.ndF (by first | assumption | omega) ?_ | with_reducible refine WB.nt ?_ | with_reducible refine WB.nf ?_ | with_reducible refine WB.dec (fun h => ?_) (fun h => ?_) | with_reducible refine WB.ndec (fun h => ?_) (fun h => ?_) | refine WB.mk (fun h => ?_) (fun h => ?_)) <;> conv => whnf)
    refine WSt.eqr2 (a := a) (b := b) (a' := 0) (b' := 0) rfl rfl ha hb rfl rfl ?_; conv => whnf
    by_cases h2 : a = 0 ∧ b = 0
    · repeat' first | ((first | with_reducible apply WB.tt | with_reducible apply WB.ff | refine Rn.seq ?_ | refine Rn.reg ?_ | refine Rn.drw ?_ | refine Rn.blk ?_ | refine Rn.skip ?_ | refine Rn.ret ?_ | refine Rn.exit ?_ | refine Rn.cond rfl ?_ | refine And.intro (InR.i64 (by omega) (by omega)) ?_ | refine And.intro (show _ ≠ (0 : Int) by omega) ?_ | refine WIx.intsN (by omega) ?_ | refine WIx.rowsN (by omega) ?_ | with_reducible refine WB.decT (by first | with_reducible rfl | assumption | omega | exact ⟨rfl, rfl⟩) ?_ | with_reducible refine WB.decF (by first | assumption | omega) ?_ | with_reducible refine WB.ndT (by first | with_reducible rfl | assumption | omega | exact ⟨rfl, rfl⟩) ?_ | with_reducible refine WB.ndF (by first | assumption | omega) ?_ | with_reducible refine WB.nt ?_ | with_reducible refine WB.nf ?_ | with_reducible refine WB.dec (fun h => ?_) (fun h => ?_) | with_reducible refine WB.ndec (fun h => ?_) (fun h => ?_) | refine WB.mk (fun h => ?_) (fun h => ?_)) <;> conv => whnf)
      exact Fin.i rfl (by unfold vdT; rw [if_neg h1, if_pos h2])
    · repeat' first | ((first | with_reducible apply WB.tt | with_reducible apply WB.ff | refine Rn.seq ?_ | refine Rn.reg ?_ | refine Rn.drw ?_ | refine Rn.blk ?_ | refine Rn.skip ?_ | refine Rn.ret ?_ | refine Rn.exit ?_ | refine Rn.cond rfl ?_ | refine And.intro (InR.i64 (by omega) (by omega)) ?_ | refine And.intro (show _ ≠ (0 : Int) by omega) ?_ | refine WIx.intsN (by omega) ?_ | refine WIx.rowsN (by omega) ?_ | with_reducible refine WB.decT (by first | with_reducible rfl | assumption | omega | exact ⟨rfl, rfl⟩) ?_ | with_reducible refine WB.decF (by first | assumption | omega) ?_ | with_reducible refine WB.ndT (by first | with_reducible rfl | assumption | omega | exact ⟨rfl, rfl⟩) ?_ | with_reducible refine WB.ndF (by first | assumption | omega) ?_ | with_reducible refine WB.nt ?_ | with_reducible refine WB.nf ?_ | with_reducible refine WB.dec (fun h => ?_) (fun h => ?_) | with_reducible refine WB.ndec (fun h => ?_) (fun h => ?_) | refine WB.mk (fun h => ?_) (fun h => ?_)) <;> conv => whnf)
      exact Fin.i rfl (by unfold vdT; rw [if_neg h1, if_neg h2])
end Go.Ev