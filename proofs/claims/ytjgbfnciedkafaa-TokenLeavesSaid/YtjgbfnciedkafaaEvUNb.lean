import Derived.Test.YtjgbfnciedkafaaEvUHo
import Derived.Test.YtjgbfnciedkafaaEvUN8
set_option linter.all false
namespace Go.Ev
open Go.Proofs
set_option maxRecDepth 100000
def qS (b i : Nat) : Bool := !b.testBit i
def kpJ (q : Nat → Bool) (ls : List Ln) (j : Nat) : List Ln := ((List.range j).filter fun i => !q i).map fun i => ls.getD i default
theorem kpJ_succ (q : Nat → Bool) (ls : List Ln) (j : Nat) : kpJ q ls (j + 1) = if q j = true then kpJ q ls j else kpJ q ls j ++ [ls.getD j default] := by
  unfold kpJ
  rw [List.range_succ, List.filter_append, List.map_append]
  cases h : q j with
  | true => rw [if_pos rfl]; simp [h]
  | false => rw [if_neg (by decide)]; simp [h]
theorem kpJ_len (q : Nat → Bool) (ls : List Ln) (j : Nat) : (kpJ q ls j).length ≤ j := by
  unfold kpJ
  rw [List.length_map]
  have := List.length_filter_le (fun i : Nat => !q i) (List.range j)
  rw [List.length_range] at this
  exact this
theorem bits_below {b a : Nat} (ha : a ≤ 8) : (bitL (b &&& (2 ^ a - 1))).length = ((List.range a).filter fun i => !qS b i).length := by
  unfold bitL bitJ
  rw [List.length_map, ← filter_below (fun i => !qS b i) ha]
  congr 1
  apply List.filter_congr
  intro i _
  rw [Nat.testBit_and, Nat.testBit_two_pow_sub_one]
  unfold qS
  rw [Bool.not_not]
def bk5D (n coin box : Int) (ls : List Ln) (cs : List Ct) : C := .cells false [.o (.i .i64 n) 0, .o (.i .i64 coin) 0, .o (.i .i64 box) 0, .o (.lst 3 (rows lnD ls)) 0, .o (.lst 3 (rows ctD cs)) 0] 1
theorem bk5D_sh {n coin box : Int} {ls : List Ln} {cs : List Ct} {B : Pos → Prop} {ob : T C} : ShC B ob (bk5D n coin box ls cs) (bk5D n coin box ls cs) := ShC.same (ShC.cn (.pu trivial) (ShC.cn (.pu trivial) (ShC.cn (.pu trivial) (ShC.cn (.pu (pu_ln _)) (ShC.cn (.pu (pu_ct _)) ShC.nl)))))
noncomputable def smS2 (n coin box : Int) (ls : List Ln) (cs : List Ct) (b : Nat) (L : List Ln) (A : List Ct) (j : Nat) : X := ⟨(.n (.n (.n (.n .e (some (.i .i64 (j : Int))) .e) none .e) (some (.i .i64 (b : Int))) (.n .e (some (.pt (.i .h) 0 0)) .e)) none (.n (.n .e (some (.pt (.o .h) 0 0)) .e) (some (.pt .h 0 0)) .e)), (.n (.n .e (some (zr5C)) (.n .e (blG ctD A) .e)) (some (bk5D n coin box ls cs)) (.n .e (some (ou5C n coin box (.lst 3 (rows lnD L)) (slG (.o (.i .h)) 3 A))) .e)), nxG (.o (.o .h)) (.i (.i .h)) A, none⟩
noncomputable def smS1 (n coin box : Int) (ls : List Ln) (cs : List Ct) (b : Nat) (A : List Ln) (j : Nat) : X := ⟨(.n (.n .e (some (.i .i64 (b : Int))) (.n .e (some (.pt (.i .h) 0 0)) .e)) none (.n (.n .e (some (.pt (.o .h) 0 0)) .e) (some (.pt .h 0 0)) (.n .e (some (.i .i64 (j : Int))) .e))), (.n (.n .e (some (zr5C)) .e) (some (bk5D n coin box ls cs)) (.n (.n .e (blG lnD A) .e) (some (ou5C n coin box (slG (.i (.o .h)) 3 A) .ns)) .e)), nxG (.o (.o .h)) (.o (.i .h)) A, none⟩
noncomputable def rc64R : RC := seqW (seqW (seqW (seqW rc64)))
noncomputable def smZ (n coin box : Int) (ls : List Ln) (cs : List Ct) (b : Nat) (L : List Ln) : X := ⟨(.n (.n .e (some (.i .i64 (b : Int))) (.n .e (some (.pt (.i .h) 0 0)) .e)) none (.n (.n .e (some (.pt (.o .h) 0 0)) .e) (some (.pt .h 0 0)) .e)), (.n (.n .e (some (zr5C)) .e) (some (bk5D n coin box ls cs)) (.n .e (some (ou5C n coin box (.lst 3 (rows lnD L)) .ns)) .e)), .o (.o .h), none⟩
set_option maxHeartbeats 2000000 in
theorem j_SomeR (n coin box : Int) (ls : List Ln) (cs : List Ct) (b : Nat) (hb : b ≤ 255) (L : List Ln) (hc : cs.length ≤ 100) (ha : ∀ c ∈ cs, 0 ≤ c.a ∧ c.a ≤ 8) : Rn Try.prog 64 rc64R (smZ n coin box ls cs b L) (Fin rs64 (.ag [.i .i64 n, .i .i64 coin, .i .i64 box, .lst 3 (rows lnD L), .lst 3 (rows ctD (cs.map (keepC (qS b))))])) := by
  have e3 := rows_length ctD cs
  conv => whnf
  repeat' first | ((first | with_reducible (first | apply Qt | apply Qu) | refine Qa rfl ?_ | refine Qk rfl ?_ | refine Qb ?_ | refine Qc ?_ | refine Qi ?_ | refine Qj ?_) <;> conv => whnf)
  refine Rn.loop (fun j : Nat => smS2 n coin box ls cs b L ((cs.take j).map (keepC (qS b))) j) (fun j => j ≤ cs.length ∧ True) (fun j => cs.length - j) 0 ?_ ?_ ?_
  · refine X.le.mk ?_ ?_ (Nat.le_refl _) rfl rfl
    · show T.le ((.n (.n (.n (.n .e (some (.i .i64 0)) .e) none .e) (some (.i .i64 (b : Int))) (.n .e (some (.pt (.i .h) 0 0)) .e)) none (.n (.n .e (some (.pt (.o .h) 0 0)) .e) (some (.pt .h 0 0)) .e)) : T D) _
      skip
      (repeat' first | exact T.le_e _ | refine T.le_some ?_ rfl ?_ | refine T.le_none ?_ ?_ | refine T.le_ee ?_ ?_)
    · show T.le ((.n (.n .e (some (zr5C)) (.n .e none .e)) (some (bk5D n coin box ls cs)) (.n .e (some (ou5C n coin box (.lst 3 (rows lnD L)) .ns)) .e)) : T C) _
      (repeat' first | exact T.le_e _ | refine T.le_some ?_ rfl ?_ | refine T.le_none ?_ ?_ | refine T.le_ee ?_ ?_)
  · exact ⟨Nat.zero_le _, trivial⟩
  rintro j ⟨hj, _⟩
  have hsc : j < cs.length → (cs.take (j + 1)).map (keepC (qS b)) = (cs.take j).map (keepC (qS b)) ++ [keepC (qS b) (cs.getD j default)] := fun h => by
    rw [take_succ_getD (d := default) h, List.map_append]; rfl
  have hAl : ((cs.take j).map (keepC (qS b))).length ≤ j := by rw [List.length_map, List.length_take]; omega
  have hend : j = cs.length → (cs.take j).map (keepC (qS b)) = cs.map (keepC (qS b)) := fun h => by rw [List.take_of_length_le (by omega)]
  generalize hA : (cs.take j).map (keepC (qS b)) = A at *
  conv => whnf
  repeat' first | ((first | with_reducible (first | apply Qt | apply Qu) | refine Qa rfl ?_ | refine Qk rfl ?_ | refine Qb ?_ | refine Qc ?_ | refine Qi ?_ | refine Qj ?_) <;> conv => whnf)
  refine WB.dec (fun h => ?_) (fun h => ?_) <;> conv => whnf
  · have hlt : j < cs.length := by omega
    have hsc := hsc hlt
    have hca := ha _ (getD_mem (d := default) hlt)
    obtain ⟨a', ha'⟩ : ∃ a' : Nat, (cs.getD j default).a = (a' : Int) := ⟨(cs.getD j default).a.toNat, by omega⟩
    have ha8 : a' ≤ 8 := by omega
    have hp8 : 2 ^ a' ≤ 256 := show 2 ^ a' ≤ 2 ^ 8 from Nat.pow_le_pow_right (by omega) ha8
    have hp0 : 0 < 2 ^ a' := Nat.two_pow_pos _
    have hm : ((1 * 2 ^ a' : Nat) : Int) - 1 = ((2 ^ a' - 1 : Nat) : Int) := by omega
    have hand : b &&& (2 ^ a' - 1) ≤ b := Nat.and_le_left
    have iB := j_Bits (b &&& (2 ^ a' - 1)) (by omega)
    have hlen : ((ints (bitL (b &&& (2 ^ a' - 1)))).length : Int) = (keepC (qS b) (cs.getD j default)).a := by
      rw [ints_length, bits_below ha8]
      unfold keepC
      rw [ha', Int.toNat_natCast]
    have hkl : (keepC (qS b) (cs.getD j default)).lo = (cs.getD j default).lo := rfl
    have hkh : (keepC (qS b) (cs.getD j default)).hi = (cs.getD j default).hi := rfl
    have hrow : ctD (keepC (qS b) (cs.getD j default)) = [.i .i64 ((ints (bitL (b &&& (2 ^ a' - 1)))).length : Int), .i .i64 (cs.getD j default).lo, .i .i64 (cs.getD j default).hi] := by rw [hlen]; rfl
    generalize keepC (qS b) (cs.getD j default) = kc at *
    cases A with
    | nil =>
      repeat' first | ((first | with_reducible (first | apply Qt | apply Qu) | refine Qa rfl ?_ | refine Qk rfl ?_ | refine Qb ?_ | refine Qc ?_ | refine Qi ?_ | refine Qj ?_) <;> conv => whnf)
      rw [ha']
      refine And.intro (InR.u64 (by omega) (by omega)) ?_; conv => whnf
      refine WSt.shlU (a := 1) (j := a') (by rfl) (by rfl) (by omega) (by omega) ?_; conv => whnf
      repeat' first | ((first | with_reducible (first | apply Qt | apply Qu) | refine Qa rfl ?_ | refine Qk rfl ?_ | refine Qb ?_ | refine Qc ?_ | refine Qi ?_ | refine Qj ?_) <;> conv => whnf)
      rw [hm]
      refine WSt.andB (by rfl) (by rfl) (by omega) (by omega) ?_; conv => whnf
      repeat' first | ((first | with_reducible (first | apply Qt | apply Qu) | refine Qa rfl ?_ | refine Qk rfl ?_ | refine Qb ?_ | refine Qc ?_ | refine Qi ?_ | refine Qj ?_ | refine Qf (iB) ?_) <;> conv => whnf)
      refine WSt.app_first (r := ctD kc) (by rfl) (.inl rfl) (by rfl) (by rfl) (by rw [hrow]; rfl) (by rfl) ?_; conv => whnf
      repeat' first | ((first | with_reducible (first | apply Qt | apply Qu) | refine Qa rfl ?_ | refine Qk rfl ?_ | refine Qb ?_ | refine Qc ?_ | refine Qi ?_ | refine Qj ?_) <;> conv => whnf)
      refine Again.to (j + 1) (by omega) ⟨by omega, trivial⟩ (by show (nxG (.o (.o .h)) (.i (.i .h)) ((cs.take j).map (keepC (qS b)))).nat ≤ (nxG (.o (.o .h)) (.i (.i .h)) ((cs.take (j + 1)).map (keepC (qS b)))).nat; rw [hA, hsc]; exact (show 4 ≤ 7 by omega)) ?_
      show Shr _ (smS2 n coin box ls cs b L ((cs.take (j + 1)).map (keepC (qS b))) (j + 1))
      rw [hsc]
      refine Shr.of ?_ ?_ rfl rfl
      · show Rel _ _ ((.n (.n (.n (.n .e (some (.i .i64 ((j + 1 : Nat) : Int))) .e) none .e) (some (.i .i64 (b : Int))) (.n .e (some (.pt (.i .h) 0 0)) .e)) none (.n (.n .e (some (.pt (.o .h) 0 0)) .e) (some (.pt .h 0 0)) .e)) : T D) _
        skip
        (repeat' first | exact Rel.e | refine Rel.some ?_ ?_ ?_ | refine Rel.none ?_ ?_ | refine Rel.ee ?_ ?_)
        all_goals show Fz _ _ _ _
        all_goals first | exact .pu trivial | exact .kpt (show _ < 7 by simp [Pos.nat]) | exact .ksl (show _ < 7 by simp [Pos.nat]) | exact .kmp (show _ < 7 by simp [Pos.nat])
      · show Rel _ _ ((.n (.n .e (some (zr5C)) (.n .e (some (.cells false ((ctD kc).map fun d => Cell.o d 0) 1)) .e)) (some (bk5D n coin box ls cs)) (.n .e (some (ou5C n coin box (.lst 3 (rows lnD L)) (.sl (.o (.i .h)) 0 1 0 3))) .e)) : T C) _
        skip
        (repeat' first | exact Rel.e | refine Rel.some ?_ ?_ ?_ | refine Rel.none ?_ ?_ | refine Rel.ee ?_ ?_)
        all_goals first
          | exact RO'.of (show _ < 7 by simp [Pos.nat]) bk5D_sh
          | exact RO'.of (show _ < 7 by simp [Pos.nat]) zr5C_sh
          | exact RO'.of (show _ < 7 by simp [Pos.nat]) (ou5C_sh (.pu (pu_ln _)) (.pu trivial))
          | exact RO'.of (show _ < 7 by simp [Pos.nat]) (ou5C_sh (.pu (pu_ln _)) (.ksl (show _ < 7 by simp [Pos.nat])))
          | (refine RO'.of (show _ < 7 by simp [Pos.nat]) (ShC.same fun c hc => ?_); obtain ⟨d, hd, rfl⟩ := List.mem_map.1 hc; exact .pu (PuL_iff.1 (ctDp _) d hd))
    | cons a s =>
      have hs5 : s.length + 1 ≤ 1000 := Nat.le_trans hAl (by omega)
      repeat' first | ((first | with_reducible (first | apply Qt | apply Qu) | refine Qa rfl ?_ | refine Qk rfl ?_ | refine Qb ?_ | refine Qc ?_ | refine Qi ?_ | refine Qj ?_) <;> conv => whnf)
      rw [ha']
      refine And.intro (InR.u64 (by omega) (by omega)) ?_; conv => whnf
      refine WSt.shlU (a := 1) (j := a') (by rfl) (by rfl) (by omega) (by omega) ?_; conv => whnf
      repeat' first | ((first | with_reducible (first | apply Qt | apply Qu) | refine Qa rfl ?_ | refine Qk rfl ?_ | refine Qb ?_ | refine Qc ?_ | refine Qi ?_ | refine Qj ?_) <;> conv => whnf)
      rw [hm]
      refine WSt.andB (by rfl) (by rfl) (by omega) (by omega) ?_; conv => whnf
      repeat' first | ((first | with_reducible (first | apply Qt | apply Qu) | refine Qa rfl ?_ | refine Qk rfl ?_ | refine Qb ?_ | refine Qc ?_ | refine Qi ?_ | refine Qj ?_ | refine Qf (iB) ?_) <;> conv => whnf)
      refine WSt.app_one (id := (.o (.i .h))) (ds := (rows ctD (a :: s)).flatten) (r := ctD kc) (by rfl) (by rfl) (by rfl) (by rw [hrow]; rfl) (by rfl) (by rfl) (by rw [rowsF_len (z := 3) ctD3]; rfl) (by rfl) (by rfl) (by omega) (by rfl) ?_; conv => whnf
      repeat' first | ((first | with_reducible (first | apply Qt | apply Qu) | refine Qa rfl ?_ | refine Qk rfl ?_ | refine Qb ?_ | refine Qc ?_ | refine Qi ?_ | refine Qj ?_) <;> conv => whnf)
      refine Again.to (j + 1) (by omega) ⟨by omega, trivial⟩ (by show (nxG (.o (.o .h)) (.i (.i .h)) ((cs.take j).map (keepC (qS b)))).nat ≤ (nxG (.o (.o .h)) (.i (.i .h)) ((cs.take (j + 1)).map (keepC (qS b)))).nat; rw [hA, hsc, List.cons_append]; exact (show 7 ≤ 7 by omega)) ?_
      show Shr _ (smS2 n coin box ls cs b L ((cs.take (j + 1)).map (keepC (qS b))) (j + 1))
      rw [hsc, List.cons_append]
      refine Shr.of ?_ ?_ rfl rfl
      · show Rel _ _ ((.n (.n (.n (.n .e (some (.i .i64 ((j + 1 : Nat) : Int))) .e) none .e) (some (.i .i64 (b : Int))) (.n .e (some (.pt (.i .h) 0 0)) .e)) none (.n (.n .e (some (.pt (.o .h) 0 0)) .e) (some (.pt .h 0 0)) .e)) : T D) _
        skip
        (repeat' first | exact Rel.e | refine Rel.some ?_ ?_ ?_ | refine Rel.none ?_ ?_ | refine Rel.ee ?_ ?_)
        all_goals show Fz _ _ _ _
        all_goals first | exact .pu trivial | exact .kpt (show _ < 7 by simp [Pos.nat]) | exact .ksl (show _ < 7 by simp [Pos.nat]) | exact .kmp (show _ < 7 by simp [Pos.nat])
      · show Rel _ _ ((.n (.n .e (some (zr5C)) (.n .e (blG ctD (a :: (s ++ [kc]))) .e)) (some (bk5D n coin box ls cs)) (.n .e (some (ou5C n coin box (.lst 3 (rows lnD L)) (slG (.o (.i .h)) 3 (a :: (s ++ [kc]))))) .e)) : T C) _
        rw [slG_snoc, blG_snoc]
        (repeat' first | exact Rel.e | refine Rel.some ?_ ?_ ?_ | refine Rel.none ?_ ?_ | refine Rel.ee ?_ ?_)
        all_goals first
          | exact RO'.of (show _ < 7 by simp [Pos.nat]) bk5D_sh
          | exact RO'.of (show _ < 7 by simp [Pos.nat]) zr5C_sh
          | exact RO'.of (show _ < 7 by simp [Pos.nat]) (ou5C_sh (.pu (pu_ln _)) (.pu trivial))
          | exact RO'.of (show _ < 7 by simp [Pos.nat]) (ou5C_sh (.pu (pu_ln _)) (.ksl (show _ < 7 by simp [Pos.nat])))
          | (refine RO'.of (show _ < 7 by simp [Pos.nat]) (ShC.grown (by omega) (PuL_iff.2 fun d hd => ?_)); rcases List.mem_append.1 hd with hd | hd <;> first | exact PuL_iff.1 (rowsF_pu ctDp _) d hd | exact PuL_iff.1 (ctDp _) d hd)
  · have he := hend (by omega)
    rw [← he]
    repeat' first | ((first | with_reducible (first | apply Qt | apply Qu) | refine Qa rfl ?_ | refine Qk rfl ?_ | refine Qb ?_ | refine Qc ?_ | refine Qi ?_ | refine Qj ?_) <;> conv => whnf)
    exact ⟨.inr rfl, _, rfl, .ag (.cons (.pu trivial) (.cons (.pu trivial) (.cons (.pu trivial) (.cons (.pu (pu_ln _)) (.cons (Fz.G A (fun h => h) (fun c h => h) ctD3 ctDp) .nil)))))⟩
set_option maxHeartbeats 2000000 in
theorem j_Some (n coin box : Int) (ls : List Ln) (cs : List Ct) (b : Nat) (hb : b ≤ 255) (hl : ls.length ≤ 8) (hc : cs.length ≤ 100) (ha : ∀ c ∈ cs, 0 ≤ c.a ∧ c.a ≤ 8) : PureF Try.prog p65.ix [.ag [.i .i64 n, .i .i64 coin, .i .i64 box, .lst 3 (rows lnD ls), .lst 3 (rows ctD cs)], .i .i64 (b : Int)] (.ag [.i .i64 n, .i .i64 coin, .i .i64 box, .lst 3 (rows lnD (keepL (qS b) ls)), .lst 3 (rows ctD (cs.map (keepC (qS b))))]) := by
  have e2 := rows_length lnD ls
  have hrest := j_SomeR n coin box ls cs b hb (keepL (qS b) ls) hc ha
  refine PureF.run fn64 (by simp) (by simp [PuL, PuE, Pu, pu_ln, pu_ct]) ?_; conv => whnf
  refine Rn.seq ?_; conv => whnf
  refine Rn.reg ?_; conv => whnf
  refine Rn.far rfl ?_
  refine RnF.seq ?_; conv => whnf
  repeat' first | ((first | with_reducible (first | apply Qt | apply Qu) | refine Qa rfl ?_ | refine Qk rfl ?_ | refine Qb ?_ | refine Qc ?_ | refine Qi ?_ | refine Qj ?_) <;> conv => whnf)
  refine ⟨rfl, rfl, (show 3 ≤ 4 by omega), ?_⟩
  refine RnF.seq ?_; conv => whnf
  repeat' first | ((first | with_reducible (first | apply Qt | apply Qu) | refine Qa rfl ?_ | refine Qk rfl ?_ | refine Qb ?_ | refine Qc ?_ | refine Qi ?_ | refine Qj ?_) <;> conv => whnf)
  refine ⟨rfl, rfl, (show 3 ≤ 4 by omega), ?_⟩
  refine RnF.seq ?_; conv => whnf
  repeat' first | ((first | with_reducible (first | apply Qt | apply Qu) | refine Qa rfl ?_ | refine Qk rfl ?_ | refine Qb ?_ | refine Qc ?_ | refine Qi ?_ | refine Qj ?_) <;> conv => whnf)
  refine Rn.loop (fun j : Nat => smS1 n coin box ls cs b (kpJ (qS b) ls j) j) (fun j => j ≤ ls.length ∧ True) (fun j => ls.length - j) 0 ?_ ?_ ?_
  · refine X.le.mk ?_ ?_ (Nat.le_refl _) rfl rfl
    · show T.le ((.n (.n .e (some (.i .i64 (b : Int))) (.n .e (some (.pt (.i .h) 0 0)) .e)) none (.n (.n .e (some (.pt (.o .h) 0 0)) .e) (some (.pt .h 0 0)) (.n .e (some (.i .i64 0)) .e))) : T D) _
      skip
      (repeat' first | exact T.le_e _ | refine T.le_some ?_ rfl ?_ | refine T.le_none ?_ ?_ | refine T.le_ee ?_ ?_)
    · show T.le ((.n (.n .e (some (zr5C)) .e) (some (bk5D n coin box ls cs)) (.n (.n .e none .e) (some (ou5C n coin box .ns .ns)) .e)) : T C) _
      (repeat' first | exact T.le_e _ | refine T.le_some ?_ rfl ?_ | refine T.le_none ?_ ?_ | refine T.le_ee ?_ ?_)
  · exact ⟨Nat.zero_le _, trivial⟩
  rintro j ⟨hj, _⟩
  have hsc := kpJ_succ (qS b) ls j
  have hAl := kpJ_len (qS b) ls j
  have hend : j = ls.length → kpJ (qS b) ls j = keepL (qS b) ls := fun h => by rw [h]; rfl
  generalize hA : kpJ (qS b) ls j = A at *
  conv => whnf
  repeat' first | ((first | with_reducible (first | apply Qt | apply Qu) | refine Qa rfl ?_ | refine Qk rfl ?_ | refine Qb ?_ | refine Qc ?_ | refine Qi ?_ | refine Qj ?_) <;> conv => whnf)
  refine WB.dec (fun h => ?_) (fun h => ?_) <;> conv => whnf
  · have hlt : j < ls.length := by omega
    have hq2 : qS b j = !decide (b / 2 ^ j % 2 = 1) := by unfold qS; rw [Nat.testBit_eq_decide_div_mod_eq]
    repeat' first | ((first | with_reducible (first | apply Qt | apply Qu) | refine Qa rfl ?_ | refine Qk rfl ?_ | refine Qb ?_ | refine Qc ?_ | refine Qi ?_ | refine Qj ?_) <;> conv => whnf)
    refine And.intro (InR.u64 (by omega) (by omega)) ?_; conv => whnf
    refine WSt.shrU (a := b) (j := j) (by rfl) (by rfl) rfl (by omega) (fun r h1 b1 => ?_); conv => whnf
    rw [← h1] at hq2
    have hrem : (r : Int).tmod 2 = ((r % 2 : Nat) : Int) := by
      rw [Int.tmod_eq_emod_of_nonneg (by omega)]; rfl
    repeat' first | ((first | with_reducible (first | apply Qt | apply Qu) | refine Qa rfl ?_ | refine Qk rfl ?_ | refine Qb ?_ | refine Qc ?_ | refine Qi ?_ | refine Qj ?_) <;> conv => whnf)
    rw [hrem]
    by_cases hx : r % 2 = 1
    · rw [hq2, decide_eq_true hx, if_neg (by decide)] at hsc
      refine WB.decT (by omega) ?_; conv => whnf
      cases A with
      | nil =>
        repeat' first | ((first | with_reducible (first | apply Qt | apply Qu) | refine Qa rfl ?_ | refine Qk rfl ?_ | refine Qb ?_ | refine Qc ?_ | refine Qi ?_ | refine Qj ?_) <;> conv => whnf)
        refine WSt.app_firstL (r := lnD (ls.getD j default)) (by rfl) (.inl rfl) (by rfl) (by rfl) (by rfl) (by rfl) ?_; conv => whnf
        repeat' first | ((first | with_reducible (first | apply Qt | apply Qu) | refine Qa rfl ?_ | refine Qk rfl ?_ | refine Qb ?_ | refine Qc ?_ | refine Qi ?_ | refine Qj ?_) <;> conv => whnf)
        refine Again.to (j + 1) (by omega) ⟨by omega, trivial⟩ (by show (nxG (.o (.o .h)) (.o (.i .h)) (kpJ (qS b) ls j)).nat ≤ (nxG (.o (.o .h)) (.o (.i .h)) (kpJ (qS b) ls (j + 1))).nat; rw [hA, hsc]; exact (show 4 ≤ 6 by omega)) ?_
        show Shr _ (smS1 n coin box ls cs b (kpJ (qS b) ls (j + 1)) (j + 1))
        rw [hsc]
        refine Shr.of ?_ ?_ rfl rfl
        · show Rel _ _ ((.n (.n .e (some (.i .i64 (b : Int))) (.n .e (some (.pt (.i .h) 0 0)) .e)) none (.n (.n .e (some (.pt (.o .h) 0 0)) .e) (some (.pt .h 0 0)) (.n .e (some (.i .i64 ((j + 1 : Nat) : Int))) .e))) : T D) _
          skip
          (repeat' first | exact Rel.e | refine Rel.some ?_ ?_ ?_ | refine Rel.none ?_ ?_ | refine Rel.ee ?_ ?_)
          all_goals show Fz _ _ _ _
          all_goals first | exact .pu trivial | exact .kpt (show _ < 6 by simp [Pos.nat]) | exact .ksl (show _ < 6 by simp [Pos.nat]) | exact .kmp (show _ < 6 by simp [Pos.nat])
        · show Rel _ _ ((.n (.n .e (some (zr5C)) .e) (some (bk5D n coin box ls cs)) (.n (.n .e (some (.cells false ((lnD (ls.getD j default)).map fun d => Cell.o d 0) 1)) .e) (some (ou5C n coin box (.sl (.i (.o .h)) 0 1 0 3) .ns)) .e)) : T C) _
          skip
          (repeat' first | exact Rel.e | refine Rel.some ?_ ?_ ?_ | refine Rel.none ?_ ?_ | refine Rel.ee ?_ ?_)
          all_goals first
            | exact RO'.of (show _ < 6 by simp [Pos.nat]) bk5D_sh
            | exact RO'.of (show _ < 6 by simp [Pos.nat]) zr5C_sh
            | exact RO'.of (show _ < 6 by simp [Pos.nat]) (ou5C_sh (.pu trivial) (.pu trivial))
            | exact RO'.of (show _ < 6 by simp [Pos.nat]) (ou5C_sh (.ksl (show _ < 6 by simp [Pos.nat])) (.pu trivial))
            | (refine RO'.of (show _ < 6 by simp [Pos.nat]) (ShC.same fun c hc => ?_); obtain ⟨d, hd, rfl⟩ := List.mem_map.1 hc; exact .pu (PuL_iff.1 (lnDp _) d hd))
      | cons a s =>
        have hs5 : s.length + 1 ≤ 1000 := Nat.le_trans hAl (by omega)
        repeat' first | ((first | with_reducible (first | apply Qt | apply Qu) | refine Qa rfl ?_ | refine Qk rfl ?_ | refine Qb ?_ | refine Qc ?_ | refine Qi ?_ | refine Qj ?_) <;> conv => whnf)
        refine WSt.app_oneL (id := (.i (.o .h))) (ds := (rows lnD (a :: s)).flatten) (r := lnD (ls.getD j default)) (by rfl) (by rfl) (by rfl) (by rfl) (by rfl) (by rfl) (by rw [rowsF_len (z := 3) lnD3]; rfl) (by rfl) (by rfl) (by omega) (by rfl) ?_; conv => whnf
        repeat' first | ((first | with_reducible (first | apply Qt | apply Qu) | refine Qa rfl ?_ | refine Qk rfl ?_ | refine Qb ?_ | refine Qc ?_ | refine Qi ?_ | refine Qj ?_) <;> conv => whnf)
        refine Again.to (j + 1) (by omega) ⟨by omega, trivial⟩ (by show (nxG (.o (.o .h)) (.o (.i .h)) (kpJ (qS b) ls j)).nat ≤ (nxG (.o (.o .h)) (.o (.i .h)) (kpJ (qS b) ls (j + 1))).nat; rw [hA, hsc, List.cons_append]; exact (show 6 ≤ 6 by omega)) ?_
        show Shr _ (smS1 n coin box ls cs b (kpJ (qS b) ls (j + 1)) (j + 1))
        rw [hsc, List.cons_append]
        refine Shr.of ?_ ?_ rfl rfl
        · show Rel _ _ ((.n (.n .e (some (.i .i64 (b : Int))) (.n .e (some (.pt (.i .h) 0 0)) .e)) none (.n (.n .e (some (.pt (.o .h) 0 0)) .e) (some (.pt .h 0 0)) (.n .e (some (.i .i64 ((j + 1 : Nat) : Int))) .e))) : T D) _
          skip
          (repeat' first | exact Rel.e | refine Rel.some ?_ ?_ ?_ | refine Rel.none ?_ ?_ | refine Rel.ee ?_ ?_)
          all_goals show Fz _ _ _ _
          all_goals first | exact .pu trivial | exact .kpt (show _ < 6 by simp [Pos.nat]) | exact .ksl (show _ < 6 by simp [Pos.nat]) | exact .kmp (show _ < 6 by simp [Pos.nat])
        · show Rel _ _ ((.n (.n .e (some (zr5C)) .e) (some (bk5D n coin box ls cs)) (.n (.n .e (blG lnD (a :: (s ++ [(ls.getD j default)]))) .e) (some (ou5C n coin box (slG (.i (.o .h)) 3 (a :: (s ++ [(ls.getD j default)]))) .ns)) .e)) : T C) _
          rw [slG_snoc, blG_snoc]
          (repeat' first | exact Rel.e | refine Rel.some ?_ ?_ ?_ | refine Rel.none ?_ ?_ | refine Rel.ee ?_ ?_)
          all_goals first
            | exact RO'.of (show _ < 6 by simp [Pos.nat]) bk5D_sh
            | exact RO'.of (show _ < 6 by simp [Pos.nat]) zr5C_sh
            | exact RO'.of (show _ < 6 by simp [Pos.nat]) (ou5C_sh (.pu trivial) (.pu trivial))
            | exact RO'.of (show _ < 6 by simp [Pos.nat]) (ou5C_sh (.ksl (show _ < 6 by simp [Pos.nat])) (.pu trivial))
            | (refine RO'.of (show _ < 6 by simp [Pos.nat]) (ShC.grown (by omega) (PuL_iff.2 fun d hd => ?_)); rcases List.mem_append.1 hd with hd | hd <;> first | exact PuL_iff.1 (rowsF_pu lnDp _) d hd | exact PuL_iff.1 (lnDp _) d hd)
    · rw [hq2, decide_eq_false hx, if_pos (show (!false) = true from rfl)] at hsc
      refine WB.decF (by omega) ?_; conv => whnf
      cases A with
      | nil =>
        repeat' first | ((first | with_reducible (first | apply Qt | apply Qu) | refine Qa rfl ?_ | refine Qk rfl ?_ | refine Qb ?_ | refine Qc ?_ | refine Qi ?_ | refine Qj ?_) <;> conv => whnf)
        refine Again.to (j + 1) (by omega) ⟨by omega, trivial⟩ (by show (nxG (.o (.o .h)) (.o (.i .h)) (kpJ (qS b) ls j)).nat ≤ (nxG (.o (.o .h)) (.o (.i .h)) (kpJ (qS b) ls (j + 1))).nat; rw [hA, hsc]; exact (show 4 ≤ 4 by omega)) ?_
        show Shr _ (smS1 n coin box ls cs b (kpJ (qS b) ls (j + 1)) (j + 1))
        rw [hsc]
        refine Shr.of ?_ ?_ rfl rfl
        · show Rel _ _ ((.n (.n .e (some (.i .i64 (b : Int))) (.n .e (some (.pt (.i .h) 0 0)) .e)) none (.n (.n .e (some (.pt (.o .h) 0 0)) .e) (some (.pt .h 0 0)) (.n .e (some (.i .i64 ((j + 1 : Nat) : Int))) .e))) : T D) _
          skip
          (repeat' first | exact Rel.e | refine Rel.some ?_ ?_ ?_ | refine Rel.none ?_ ?_ | refine Rel.ee ?_ ?_)
          all_goals show Fz _ _ _ _
          all_goals first | exact .pu trivial | exact .kpt (show _ < 4 by simp [Pos.nat]) | exact .ksl (show _ < 4 by simp [Pos.nat]) | exact .kmp (show _ < 4 by simp [Pos.nat])
        · show Rel _ _ ((.n (.n .e (some (zr5C)) .e) (some (bk5D n coin box ls cs)) (.n (.n .e none .e) (some (ou5C n coin box .ns .ns)) .e)) : T C) _
          skip
          (repeat' first | exact Rel.e | refine Rel.some ?_ ?_ ?_ | refine Rel.none ?_ ?_ | refine Rel.ee ?_ ?_)
          all_goals first
            | exact RO'.of (show _ < 4 by simp [Pos.nat]) bk5D_sh
            | exact RO'.of (show _ < 4 by simp [Pos.nat]) zr5C_sh
            | exact RO'.of (show _ < 4 by simp [Pos.nat]) (ou5C_sh (.pu trivial) (.pu trivial))
            | exact RO'.of (show _ < 4 by simp [Pos.nat]) (ou5C_sh (.ksl (show _ < 4 by simp [Pos.nat])) (.pu trivial))
      | cons a s =>
        repeat' first | ((first | with_reducible (first | apply Qt | apply Qu) | refine Qa rfl ?_ | refine Qk rfl ?_ | refine Qb ?_ | refine Qc ?_ | refine Qi ?_ | refine Qj ?_) <;> conv => whnf)
        refine Again.to (j + 1) (by omega) ⟨by omega, trivial⟩ (by show (nxG (.o (.o .h)) (.o (.i .h)) (kpJ (qS b) ls j)).nat ≤ (nxG (.o (.o .h)) (.o (.i .h)) (kpJ (qS b) ls (j + 1))).nat; rw [hA, hsc]; exact (show 6 ≤ 6 by omega)) ?_
        show Shr _ (smS1 n coin box ls cs b (kpJ (qS b) ls (j + 1)) (j + 1))
        rw [hsc]
        refine Shr.of ?_ ?_ rfl rfl
        · show Rel _ _ ((.n (.n .e (some (.i .i64 (b : Int))) (.n .e (some (.pt (.i .h) 0 0)) .e)) none (.n (.n .e (some (.pt (.o .h) 0 0)) .e) (some (.pt .h 0 0)) (.n .e (some (.i .i64 ((j + 1 : Nat) : Int))) .e))) : T D) _
          skip
          (repeat' first | exact Rel.e | refine Rel.some ?_ ?_ ?_ | refine Rel.none ?_ ?_ | refine Rel.ee ?_ ?_)
          all_goals show Fz _ _ _ _
          all_goals first | exact .pu trivial | exact .kpt (show _ < 6 by simp [Pos.nat]) | exact .ksl (show _ < 6 by simp [Pos.nat]) | exact .kmp (show _ < 6 by simp [Pos.nat])
        · show Rel _ _ ((.n (.n .e (some (zr5C)) .e) (some (bk5D n coin box ls cs)) (.n (.n .e (some (.cells false ((rows lnD (a :: s)).flatten.map fun d => Cell.o d s.length) (s.length + 1))) .e) (some (ou5C n coin box (.sl (.i (.o .h)) 0 (s.length + 1) s.length 3) .ns)) .e)) : T C) _
          skip
          (repeat' first | exact Rel.e | refine Rel.some ?_ ?_ ?_ | refine Rel.none ?_ ?_ | refine Rel.ee ?_ ?_)
          all_goals first
            | exact RO'.of (show _ < 6 by simp [Pos.nat]) bk5D_sh
            | exact RO'.of (show _ < 6 by simp [Pos.nat]) zr5C_sh
            | exact RO'.of (show _ < 6 by simp [Pos.nat]) (ou5C_sh (.pu trivial) (.pu trivial))
            | exact RO'.of (show _ < 6 by simp [Pos.nat]) (ou5C_sh (.ksl (show _ < 6 by simp [Pos.nat])) (.pu trivial))
            | exact RO'.of (show _ < 6 by simp [Pos.nat]) (ShC.G lnDp a s)
  · have he := hend (by omega)
    rw [← he] at hrest ⊢
    repeat' first | ((first | with_reducible (first | apply Qt | apply Qu) | refine Qa rfl ?_ | refine Qk rfl ?_ | refine Qb ?_ | refine Qc ?_ | refine Qi ?_ | refine Qj ?_) <;> conv => whnf)
    refine ⟨rfl, rfl, (show 3 ≤ (nxG (.o (.o .h)) (.o (.i .h)) A).nat by cases A <;> simp [nxG, Pos.nat]), RnF.turn (z' := smZ n coin box ls cs b A) (B := fun id => id.nat < 4) ?_ (fun id (h : id.nat < 3) => show id.nat < 4 by omega) (fun id h => h) (show 3 ≤ 4 by omega) hrest⟩
    refine ShrB.of ?_ ?_ rfl rfl
    · show Rel _ _ ((.n (.n .e (some (.i .i64 (b : Int))) (.n .e (some (.pt (.i .h) 0 0)) .e)) none (.n (.n .e (some (.pt (.o .h) 0 0)) .e) (some (.pt .h 0 0)) .e)) : T D) _
      (repeat' first | exact Rel.e | refine Rel.some ?_ ?_ ?_ | refine Rel.none ?_ ?_ | refine Rel.ee ?_ ?_)
      all_goals show Fz _ _ _ _
      all_goals first | exact .pu trivial | exact .kpt (show _ < 4 by simp [Pos.nat])
    · show Rel _ _ ((.n (.n .e (some (zr5C)) .e) (some (bk5D n coin box ls cs)) (.n .e (some (ou5C n coin box (.lst 3 (rows lnD A)) .ns)) .e)) : T C) _
      (repeat' first | exact Rel.e | refine Rel.some ?_ ?_ ?_ | refine Rel.none ?_ ?_ | refine Rel.ee ?_ ?_)
      all_goals first
        | exact ⟨show _ < 4 by simp [Pos.nat], bk5D_sh⟩
        | exact ⟨show _ < 4 by simp [Pos.nat], zr5C_sh⟩
        | exact ⟨show _ < 4 by simp [Pos.nat], ou5C_sh (Fz.G A (show ¬ (5 : Nat) < 4 by omega) (fun c h => h) lnD3 lnDp) (.pu trivial)⟩
end Go.Ev
namespace Go.Ev
open Go.Proofs
set_option maxRecDepth 100000
def ordOk (e c : Nat) : Bool := (List.range c).all fun d => !(Nat.beq (cntN c) (cntN d)) || befR (numL c e) (numL d e)
theorem ord_all : ∀ e : _root_.Fin 9, (List.range (2 ^ e.1)).all (ordOk e.1) = true := by decide +kernel
theorem rev_ok {e c : Nat} (he : e ≤ 8) (hc : c < 2 ^ e) : revB e c < 2 ^ e ∧ revB e (revB e c) = c ∧ cntN c ≤ e ∧ bitL (revB e c) = numL c e ∧ (numL c e).length = cntN c ∧ ∀ i, i < e → (revB e c).testBit i = c.testBit (e - 1 - i) := by
  have h := List.all_eq_true.1 (rev_all ⟨e, by omega⟩) c (List.mem_range.2 hc)
  unfold revOk at h
  simp only [Bool.and_eq_true, decide_eq_true_iff] at h
  obtain ⟨h1, h2, h3, h4, h5, h6⟩ := h
  refine ⟨h1, h2, h3, h4, h5, fun i hi => ?_⟩
  have := List.all_eq_true.1 h6 i (List.mem_range.2 hi)
  simpa using this
theorem ord_sho {e c d : Nat} (he : e ≤ 8) (hc : c < 2 ^ e) (hd : d < 2 ^ e) (h : cntN c < cntN d ∨ (cntN c = cntN d ∧ d < c)) : shoR (numL c e) (numL d e) = true := by
  have l1 := (rev_ok he hc).2.2.2.2.1
  have l2 := (rev_ok he hd).2.2.2.2.1
  unfold shoR
  rcases h with h | ⟨h, k⟩
  · rw [l1, l2, decide_eq_true h, Bool.true_or]
  · have hb := List.all_eq_true.1 (ord_all ⟨e, by omega⟩) c (List.mem_range.2 hc)
    unfold ordOk at hb
    have hb := List.all_eq_true.1 hb d (List.mem_range.2 k)
    rw [show Nat.beq (cntN c) (cntN d) = true by rw [h]; exact Nat.beq_refl _] at hb
    have hb : befR (numL c e) (numL d e) = true := by simpa using hb
    rw [l1, l2, decide_eq_true h, hb, Bool.and_self, Bool.or_true]
def lvQ (B : Bk) (b : Nat) : Bool := hasB (keepB (fun i => b.testBit i) B)
def rlT (m : Nat) : Option Nat → Bool
  | none => true
  | some c => shoR (bitL m) (bitL c)
def rlJ (B : Bk) : Nat → Option Nat
  | 0 => none
  | m + 1 => if (rlT m (rlJ B m) && lvQ B m) = true then some m else rlJ B m
theorem rlJ_ok (B : Bk) : ∀ m, (rlJ B m = none → ∀ b, b < m → lvQ B b = false) ∧ ∀ b0, rlJ B m = some b0 → b0 < m ∧ lvQ B b0 = true ∧ ∀ b, b < m → lvQ B b = true → shoR (bitL b) (bitL b0) = false
  | 0 => ⟨fun _ b h => absurd h (Nat.not_lt_zero _), fun b0 h => by cases h⟩
  | m + 1 => by
    obtain ⟨h1, h2⟩ := rlJ_ok B m
    unfold rlJ
    cases ho : rlJ B m with
    | none =>
      have h1 := h1 ho
      cases hq : lvQ B m with
      | false =>
        rw [show (rlT m none && false) = false from rfl, if_neg (by decide)]
        refine ⟨fun _ b hb => ?_, (fun b0 h => by cases h)⟩
        by_cases e : b = m
        · rw [e]; exact hq
        · exact h1 b (by omega)
      | true =>
        rw [show (rlT m none && true) = true from rfl, if_pos rfl]
        refine ⟨(fun h => by cases h), fun b0 h => ?_⟩
        cases h
        refine ⟨by omega, hq, fun b hb hbq => ?_⟩
        by_cases e : b = m
        · rw [e]; exact shoR_irr _
        · rw [h1 b (by omega)] at hbq; cases hbq
    | some c =>
      obtain ⟨k1, k2, k3⟩ := h2 c ho
      cases hs : shoR (bitL m) (bitL c) with
      | false =>
        rw [show (rlT m (some c) && lvQ B m) = false by show (shoR (bitL m) (bitL c) && _) = _; rw [hs]; rfl, if_neg (by decide)]
        refine ⟨(fun h => by cases h), fun b0 h => ?_⟩
        cases h
        refine ⟨by omega, k2, fun b hb hbq => ?_⟩
        by_cases e : b = m
        · rw [e]; exact hs
        · exact k3 b (by omega) hbq
      | true =>
        cases hq : lvQ B m with
        | false =>
          rw [show (rlT m (some c) && false) = false by rw [Bool.and_false], if_neg (by decide)]
          refine ⟨(fun h => by cases h), fun b0 h => ?_⟩
          cases h
          refine ⟨by omega, k2, fun b hb hbq => ?_⟩
          by_cases e : b = m
          · rw [e, hq] at hbq; cases hbq
          · exact k3 b (by omega) hbq
        | true =>
          rw [show (rlT m (some c) && true) = true by show (shoR (bitL m) (bitL c) && _) = _; rw [hs]; rfl, if_pos rfl]
          refine ⟨(fun h => by cases h), fun b0 h => ?_⟩
          cases h
          refine ⟨by omega, hq, fun b hb hbq => ?_⟩
          by_cases e : b = m
          · rw [e]; exact shoR_irr _
          · cases hx : shoR (bitL b) (bitL m) with
            | false => rfl
            | true =>
              have := k3 b (by omega) hbq
              rw [shoR_trans hx hs] at this
              cases this
theorem lvP_rev {B : Bk} (V : VB B) {c : Nat} (hc : c < 2 ^ B.ls.length) : lvP B c = lvQ B (revB B.ls.length c) := by
  unfold lvP lvQ
  rw [keep_congr V.cs (q := qP B.ls.length c) (q' := fun i => (revB B.ls.length c).testBit i) fun i hi => ((rev_ok V.len hc).2.2.2.2.2 i hi).symm]
theorem lev_same {B : Bk} (V : VB B) : (levO B = none ∧ rlJ B (2 ^ B.ls.length) = none) ∨ ∃ c b, levO B = some c ∧ rlJ B (2 ^ B.ls.length) = some b ∧ bitL b = numL c B.ls.length ∧ c < 2 ^ B.ls.length ∧ b = revB B.ls.length c := by
  have h8 : B.ls.length ≤ 8 := V.len
  obtain ⟨r1, r2⟩ := rlJ_ok B (2 ^ B.ls.length)
  cases hL : levO B with
  | none =>
    left
    refine ⟨rfl, ?_⟩
    cases hr : rlJ B (2 ^ B.ls.length) with
    | none => rfl
    | some b0 =>
      obtain ⟨k1, k2, _⟩ := r2 b0 hr
      obtain ⟨v1, v2, v3, _⟩ := rev_ok h8 k1
      have := smA_none hL (revB B.ls.length b0) v1 (rev_ok h8 v1).2.2.1
      rw [lvP_rev V v1, v2, k2] at this
      cases this
  | some c =>
    right
    obtain ⟨p1, p2, p3⟩ := smA_some hL
    obtain ⟨c1, c2, c3, c4, c5, c6⟩ := rev_ok h8 p2
    rw [lvP_rev V p2] at p1
    cases hr : rlJ B (2 ^ B.ls.length) with
    | none =>
      rw [r1 hr _ c1] at p1
      cases p1
    | some b0 =>
      obtain ⟨k1, k2, k3⟩ := r2 b0 hr
      obtain ⟨v1, v2, v3, v4, _⟩ := rev_ok h8 k1
      have hmin := p3 (revB B.ls.length b0) v1 (by rw [lvP_rev V v1, v2]; exact k2) (rev_ok h8 v1).2.2.1
      have hno := k3 _ c1 p1
      have hb0 : bitL b0 = numL (revB B.ls.length b0) B.ls.length := by
        have := (rev_ok h8 v1).2.2.2.1
        rw [v2] at this
        exact this
      rw [c4, hb0] at hno
      have heq : revB B.ls.length b0 = c := by
        by_cases e : revB B.ls.length b0 = c
        · exact e
        · have := ord_sho h8 p2 v1 (by
            rcases hmin with h | ⟨h, k⟩
            · exact .inl h
            · exact .inr ⟨h, by omega⟩)
          rw [this] at hno
          cases hno
      refine ⟨c, b0, rfl, rfl, ?_, p2, ?_⟩
      · rw [hb0, heq]
      · rw [← heq, v2]
end Go.Ev
namespace Go.Ev
open Go.Proofs
set_option maxRecDepth 1000000
end Go.Ev
namespace Go.Ev
open Go.Proofs
set_option maxRecDepth 100000
theorem pow_sub2 (k : Nat) : ((2 * 2 ^ k : Nat) : Int) - 1 = ((2 ^ (k + 1) - 1 : Nat) : Int) := by
  have := Nat.one_le_two_pow (n := k)
  have h : 2 ^ (k + 1) = 2 * 2 ^ k := by rw [Nat.pow_succ, Nat.mul_comm]
  omega
end Go.Ev
namespace Go.Ev
open Go.Proofs
set_option maxRecDepth 100000
set_option maxHeartbeats 1000000 in
theorem j_FirstR (n coin box : Int) (ls : List Ln) (cs : List Ct) (V : VB (B5 n coin box ls cs)) : PureF Try.prog p51.ix [.ag [.i .i64 n, .i .i64 coin, .i .i64 box, .lst 3 (rows lnD ls), .lst 3 (rows ctD cs)]] (.i .i64 (match fstN n coin box ls with | some k => (k : Int) | none => -1)) := by
  have e2 := rows_length lnD ls
  have h8 : ls.length ≤ 8 := V.len
  refine PureF.run fn50 (by simp) (by simp [PuL, PuE, Pu, pu_ints, pu_ln, pu_ct]) ?_; conv => whnf
  repeat' first | ((first | with_reducible (first | apply Qt | apply Qu) | refine Qa rfl ?_ | refine Qk rfl ?_ | refine Qb ?_ | refine Qc ?_ | refine Qi ?_ | refine Qj ?_) <;> conv => whnf)
  refine Rn.loop (fun j : Nat => ⟨(.n (.n (.n .e (some (.pt (.o .h) 0 0)) .e) (some (.pt .h 0 0)) .e) none (.n (.n .e (some (.i .i64 (j : Int))) .e) none .e)), (.n (.n .e (some (ou5C n coin box (.lst 3 (rows lnD ls)) .ns)) .e) (some (bk5D n coin box ls cs)) .e), .i .h, none⟩) (fun j => j ≤ ls.length ∧ ∀ i, i < j → badN n coin box ls i = false) (fun j => ls.length - j) 0 ?_ ?_ ?_
  · refine X.le.mk ?_ ?_ (Nat.le_refl _) rfl rfl
    all_goals (repeat' first | exact T.le_e _ | refine T.le_some ?_ rfl ?_ | refine T.le_none ?_ ?_)
  · exact ⟨Nat.zero_le _, fun i h => absurd h (Nat.not_lt_zero _)⟩
  rintro j ⟨hj, ha⟩
  have hj : j ≤ ls.length := hj
  conv => whnf
  repeat' first | ((first | with_reducible (first | apply Qt | apply Qu) | refine Qa rfl ?_ | refine Qk rfl ?_ | refine Qb ?_ | refine Qc ?_ | refine Qi ?_ | refine Qj ?_) <;> conv => whnf)
  refine WB.dec (fun h => ?_) (fun h => ?_) <;> conv => whnf
  · have hlt : j < ls.length := by omega
    have hp8 : 2 ^ j ≤ 128 := show 2 ^ j ≤ 2 ^ 7 from Nat.pow_le_pow_right (by omega) (by omega)
    have iP := (j_pick n coin box ls (j + 1) (by omega) (by omega)).sub cvn2
    have iC := j_Can n coin box (ls.take (j + 1)) [] (V.pre (j + 1))
    have hw : badN n coin box ls j = !hasB (B5 n coin box (ls.take (j + 1)) []) := rfl
    repeat' first | ((first | with_reducible (first | apply Qt | apply Qu) | refine Qa rfl ?_ | refine Qk rfl ?_ | refine Qb ?_ | refine Qc ?_ | refine Qi ?_ | refine Qj ?_) <;> conv => whnf)
    refine And.intro (InR.u64 (by omega) (by omega)) ?_; conv => whnf
    refine WSt.shlU (a := 2) (j := j) (by rfl) (by rfl) (by omega) (by omega) ?_; conv => whnf
    repeat' first | ((first | with_reducible (first | apply Qt | apply Qu) | refine Qa rfl ?_ | refine Qk rfl ?_ | refine Qb ?_ | refine Qc ?_ | refine Qi ?_ | refine Qj ?_) <;> conv => whnf)
    rw [pow_sub2]
    generalize hasB (B5 n coin box (ls.take (j + 1)) []) = bb at *
    repeat' first | ((first | with_reducible (first | apply Qt | apply Qu) | refine Qa rfl ?_ | refine Qk rfl ?_ | refine Qb ?_ | refine Qc ?_ | refine Qi ?_ | refine Qj ?_ | refine Qf (iP) ?_ | refine Qf (iC) ?_) <;> conv => whnf)
    cases bb with
    | false =>
      refine WB.tt ?_; conv => whnf
      repeat' first | ((first | with_reducible (first | apply Qt | apply Qu) | refine Qa rfl ?_ | refine Qk rfl ?_ | refine Qb ?_ | refine Qc ?_ | refine Qi ?_ | refine Qj ?_) <;> conv => whnf)
      have : fstN n coin box ls = some j := List.find?_range_eq_some.2 ⟨hw, List.mem_range.2 hlt, fun i hi => by rw [ha i hi]; rfl⟩
      rw [this]
      exact Fin.i rfl rfl
    | true =>
      refine WB.ff ?_; conv => whnf
      repeat' first | ((first | with_reducible (first | apply Qt | apply Qu) | refine Qa rfl ?_ | refine Qk rfl ?_ | refine Qb ?_ | refine Qc ?_ | refine Qi ?_ | refine Qj ?_) <;> conv => whnf)
      refine Again.to (j + 1) (by omega) ⟨by omega, fun i hi => ?_⟩ (Nat.le_refl _) ?_
      · by_cases e : i = j
        · subst e; exact hw
        · exact ha i (by omega)
      refine Shr.of ?_ ?_ rfl rfl
      all_goals (repeat' first | exact Rel.e | refine Rel.some ?_ ?_ ?_ | refine Rel.none ?_ ?_ | refine Rel.ee ?_ ?_)
      all_goals first
        | exact RO'.of (show _ < 3 by simp [Pos.nat]) bk5D_sh
        | exact RO'.of (show _ < 3 by simp [Pos.nat]) (ou5C_sh (.pu (pu_ln _)) (.pu trivial))
        | (show Fz _ _ _ _; first | exact .pu trivial | exact .kpt (show _ < 3 by simp [Pos.nat]))
  · have : fstN n coin box ls = none := List.find?_range_eq_none.2 fun i hi => by rw [ha i (by omega)]; rfl
    rw [this]
    repeat' first | ((first | with_reducible (first | apply Qt | apply Qu) | refine Qa rfl ?_ | refine Qk rfl ?_ | refine Qb ?_ | refine Qc ?_ | refine Qi ?_ | refine Qj ?_) <;> conv => whnf)
    exact Fin.i rfl rfl
theorem binK_not (a b : Int) (f : D → Option X) : binK .andNot (.i .i64 a) (.i .i64 b) f = wrapK .i64 (inot .i64 a b) f := rfl
theorem and_low : ∀ m : _root_.Fin 9, (List.range (2 ^ m.1)).all (fun b => Nat.beq (Nat.land (2 ^ m.1 - 1) (Nat.sub 18446744073709551615 b)) (2 ^ m.1 - 1 - b)) = true := by decide +kernel
theorem WSt.notB {sl : T D} {ob : T C} {nx : Pos} {lg : Option (T Bool)} {K : X → Prop} {d : Pos} {m b : Nat} {x y : RX} (hx : opd sl x = some (.i .i64 ((2 ^ m - 1 : Nat) : Int))) (hy : opd sl y = some (.i .i64 (b : Int))) (hm : m ≤ 8) (hb : b < 2 ^ m) (k : wOut sl ob nx lg d K (.i .i64 ((2 ^ m - 1 - b : Nat) : Int))) : WSt (.bin d .andNot x y) ⟨sl, ob, nx, lg⟩ K := by
  obtain ⟨k2, k3⟩ := wOut_ok k
  have h32 : (2 : Nat) ^ m ≤ 2 ^ 8 := Nat.pow_le_pow_right (by omega) hm
  refine ⟨_, ?_, k3⟩
  show s_bin d .andNot x y sl ob nx lg = _
  unfold s_bin
  rw [hx, hy]
  have hs : inot .i64 ((2 ^ m - 1 : Nat) : Int) ((b : Nat) : Int) = ((2 ^ m - 1 - b : Nat) : Int) := by
    have h1 : inot .i64 ((2 ^ m - 1 : Nat) : Int) ((b : Nat) : Int) = .ofNat (Nat.land (2 ^ m - 1) (Nat.sub (ubits .i64) b)) := ibit_nat slowNot (fun k m n => Nat.land m (Nat.sub (ubits k) n)) .i64 (2 ^ m - 1) b (ub_le (by omega)) (ub_le (by omega))
    have h2 := Nat.eq_of_beq_eq_true (List.all_eq_true.1 (and_low ⟨m, by omega⟩) b (List.mem_range.2 hb))
    rw [h1, show ubits .i64 = 18446744073709551615 from rfl, h2]
    rfl
  show binK .andNot (.i .i64 ((2 ^ m - 1 : Nat) : Int)) (.i .i64 ((b : Nat) : Int)) _ = _
  rw [binK_not, hs, wrapK_eq]
  have hw : IntKind.i64.wrap ((2 ^ m - 1 - b : Nat) : Int) = ((2 ^ m - 1 - b : Nat) : Int) := InR.i64 (by omega) (by omega)
  rw [hw]
  exact k2
theorem keep_not {B : Bk} (V : VB B) {b : Nat} (hb : b < 2 ^ B.ls.length) : keepB (qS (2 ^ B.ls.length - 1 - b)) B = keepB (fun i => b.testBit i) B :=
  keep_congr V.cs fun i hi => by
    have h : (2 ^ B.ls.length - (b + 1)).testBit i = (decide (i < B.ls.length) && !b.testBit i) := Nat.testBit_two_pow_sub_succ hb i
    unfold qS
    rw [show 2 ^ B.ls.length - 1 - b = 2 ^ B.ls.length - (b + 1) by omega, h, decide_eq_true hi, Bool.true_and, Bool.not_not]
def rlD : Option Nat → D
  | none => .ns
  | some b => .lst 1 (ints (bitL b))
theorem rlD_pu (o : Option Nat) : Pu (rlD o) := by
  cases o with
  | none => trivial
  | some b => exact pu_ints _
theorem bitL_len (b : Nat) : (bitL b).length ≤ 8 := bitJ_len b 8
set_option maxHeartbeats 2000000 in
theorem j_LeaveR (n coin box : Int) (ls : List Ln) (cs : List Ct) (V : VB (B5 n coin box ls cs)) : PureF Try.prog p49.ix [.ag [.i .i64 n, .i .i64 coin, .i .i64 box, .lst 3 (rows lnD ls), .lst 3 (rows ctD cs)]] (.tp [rlD (rlJ (B5 n coin box ls cs) (2 ^ ls.length)), .b (rlJ (B5 n coin box ls cs) (2 ^ ls.length)).isSome]) := by
  have h8 : ls.length ≤ 8 := V.len
  have h4 : cs.length ≤ 4 := V.clen
  have hca : ∀ c ∈ cs, 0 ≤ c.a ∧ c.a ≤ (ls.length : Int) := V.cs
  have hpow : 2 ^ ls.length ≤ 256 := show 2 ^ ls.length ≤ 2 ^ 8 from Nat.pow_le_pow_right (by omega) h8
  have hpos : 0 < 2 ^ ls.length := Nat.two_pow_pos _
  have iF := j_Full n coin box ls cs h8
  refine PureF.run fn48 (by simp) (by simp [PuL, PuE, Pu, pu_ints, pu_ln, pu_ct]) ?_; conv => whnf
  repeat' first | ((first | with_reducible (first | apply Qt | apply Qu) | refine Qa rfl ?_ | refine Qk rfl ?_ | refine Qb ?_ | refine Qc ?_ | refine Qi ?_ | refine Qj ?_) <;> conv => whnf)
  refine Rn.loop (fun j : Nat => ⟨(.n (.n .e (some (.pt .h 0 0)) (.n .e (some (.b (rlJ (B5 n coin box ls cs) j).isSome)) .e)) none (.n (.n .e (some (rlD (rlJ (B5 n coin box ls cs) j))) .e) none (.n .e (some (.i .i64 (j : Int))) .e))), (.n .e (some (bk5D n coin box ls cs)) .e), .o .h, none⟩) (fun j => j ≤ 2 ^ ls.length) (fun j => 2 ^ ls.length - j) 0 ?_ ?_ ?_
  · refine X.le.mk ?_ ?_ (Nat.le_refl _) rfl rfl
    all_goals (repeat' first | exact T.le_e _ | refine T.le_some ?_ rfl ?_ | refine T.le_none ?_ ?_)
  · exact Nat.zero_le _
  intro j hj
  have hj : j ≤ 2 ^ ls.length := hj
  have hnext : rlJ (B5 n coin box ls cs) (j + 1) = if (rlT j (rlJ (B5 n coin box ls cs) j) && lvQ (B5 n coin box ls cs) j) = true then some j else rlJ (B5 n coin box ls cs) j := rfl
  have hend : j = 2 ^ ls.length → rlJ (B5 n coin box ls cs) (2 ^ ls.length) = rlJ (B5 n coin box ls cs) j := fun h => by rw [h]
  conv => whnf
  repeat' first | ((first | with_reducible (first | apply Qt | apply Qu) | refine Qa rfl ?_ | refine Qk rfl ?_ | refine Qb ?_ | refine Qc ?_ | refine Qi ?_ | refine Qj ?_ | refine Qf (iF) ?_) <;> conv => whnf)
  refine WB.dec (fun h => ?_) (fun h => ?_) <;> conv => whnf
  · have hlt : j < 2 ^ ls.length := by omega
    have iB := j_Bits j (by omega)
    have iS := j_Some n coin box ls cs (2 ^ ls.length - 1 - j) (by omega) h8 (by omega) (fun c hc => by have := hca c hc; omega)
    have iC := j_Can n coin box (keepL (qS (2 ^ ls.length - 1 - j)) ls) (cs.map (keepC (qS (2 ^ ls.length - 1 - j)))) (V.keep (qS (2 ^ ls.length - 1 - j)))
    have hK : hasB (B5 n coin box (keepL (qS (2 ^ ls.length - 1 - j)) ls) (cs.map (keepC (qS (2 ^ ls.length - 1 - j))))) = lvQ (B5 n coin box ls cs) j := by
      unfold lvQ
      rw [← keep_not V hlt]
      rfl
    rw [hK] at iC
    generalize lvQ (B5 n coin box ls cs) j = bb at *
    generalize hl' : keepL (qS (2 ^ ls.length - 1 - j)) ls = ls' at *
    generalize hc' : cs.map (keepC (qS (2 ^ ls.length - 1 - j))) = cs' at *
    have hagain : ∀ {Z : X} (o : Option Nat), rlJ (B5 n coin box ls cs) (j + 1) = o → Shr Z ⟨(.n (.n .e (some (.pt .h 0 0)) (.n .e (some (.b o.isSome)) .e)) none (.n (.n .e (some (rlD o)) .e) none (.n .e (some (.i .i64 ((j + 1 : Nat) : Int))) .e))), (.n .e (some (bk5D n coin box ls cs)) .e), .o .h, none⟩ → (Pos.o .h).nat ≤ Z.nx.nat ∨ True → Again (fun j : Nat => (⟨(.n (.n .e (some (.pt .h 0 0)) (.n .e (some (.b (rlJ (B5 n coin box ls cs) j).isSome)) .e)) none (.n (.n .e (some (rlD (rlJ (B5 n coin box ls cs) j))) .e) none (.n .e (some (.i .i64 (j : Int))) .e))), (.n .e (some (bk5D n coin box ls cs)) .e), .o .h, none⟩ : X)) (fun j => j ≤ 2 ^ ls.length) (fun j => 2 ^ ls.length - j) j Z := fun o ho hs _ => Again.to (j + 1) (by omega) (by omega) (Nat.le_refl _) (by
      show Shr _ (⟨(.n (.n .e (some (.pt .h 0 0)) (.n .e (some (.b (rlJ (B5 n coin box ls cs) (j + 1)).isSome)) .e)) none (.n (.n .e (some (rlD (rlJ (B5 n coin box ls cs) (j + 1)))) .e) none (.n .e (some (.i .i64 ((j + 1 : Nat) : Int))) .e))), (.n .e (some (bk5D n coin box ls cs)) .e), .o .h, none⟩ : X)
      rw [ho]; exact hs)
    generalize hO : rlJ (B5 n coin box ls cs) j = O at *
    have hbl := bitL_len j
    cases O with
    | none =>
      have hn : rlJ (B5 n coin box ls cs) (j + 1) = if bb = true then some j else none := by rw [hnext]; show (if (true && bb) = true then _ else _) = _; rw [Bool.true_and]
      repeat' first | ((first | with_reducible (first | apply Qt | apply Qu) | refine Qa rfl ?_ | refine Qk rfl ?_ | refine Qb ?_ | refine Qc ?_ | refine Qi ?_ | refine Qj ?_ | refine Qf (iF) ?_ | refine Qf (iB) ?_ | with_reducible (first | refine Qm ?_ | refine Qn ?_ | refine Qo ?_ | refine Qp ?_ | refine WB.nt ?_ | refine WB.nf ?_)) <;> conv => whnf) | (refine WB.tt ?_; conv => whnf) | (refine WB.ff ?_; conv => whnf)
      refine WSt.notB (m := ls.length) (b := j) (by rfl) (by rfl) h8 hlt ?_; conv => whnf
      cases bb with
      | false =>
        rw [if_neg (by decide)] at hn
        repeat' first | ((first | with_reducible (first | apply Qt | apply Qu) | refine Qa rfl ?_ | refine Qk rfl ?_ | refine Qb ?_ | refine Qc ?_ | refine Qi ?_ | refine Qj ?_ | refine Qf (iS) ?_ | refine Qf (iC) ?_ | with_reducible (first | refine Qm ?_ | refine Qn ?_ | refine Qo ?_ | refine Qp ?_ | refine WB.nt ?_ | refine WB.nf ?_)) <;> conv => whnf) | (refine WB.tt ?_; conv => whnf) | (refine WB.ff ?_; conv => whnf)
        refine hagain none hn ?_ (.inr trivial)
        refine Shr.of ?_ ?_ rfl rfl
        all_goals (repeat' first | exact Rel.e | refine Rel.some ?_ ?_ ?_ | refine Rel.none ?_ ?_ | refine Rel.ee ?_ ?_)
        all_goals first
          | exact RO'.of (show _ < 2 by simp [Pos.nat]) bk5D_sh
          | (show Fz _ _ _ _; first | exact .kpt (show _ < 2 by simp [Pos.nat]) | exact .pu trivial | exact .pu (pu_ints _))
      | true =>
        rw [if_pos rfl] at hn
        repeat' first | ((first | with_reducible (first | apply Qt | apply Qu) | refine Qa rfl ?_ | refine Qk rfl ?_ | refine Qb ?_ | refine Qc ?_ | refine Qi ?_ | refine Qj ?_ | refine Qf (iS) ?_ | refine Qf (iC) ?_ | with_reducible (first | refine Qm ?_ | refine Qn ?_ | refine Qo ?_ | refine Qp ?_ | refine WB.nt ?_ | refine WB.nf ?_)) <;> conv => whnf) | (refine WB.tt ?_; conv => whnf) | (refine WB.ff ?_; conv => whnf)
        refine hagain (some j) hn ?_ (.inr trivial)
        refine Shr.of ?_ ?_ rfl rfl
        all_goals (repeat' first | exact Rel.e | refine Rel.some ?_ ?_ ?_ | refine Rel.none ?_ ?_ | refine Rel.ee ?_ ?_)
        all_goals first
          | exact RO'.of (show _ < 2 by simp [Pos.nat]) bk5D_sh
          | (show Fz _ _ _ _; first | exact .kpt (show _ < 2 by simp [Pos.nat]) | exact .pu trivial | exact .pu (pu_ints _))
    | some c =>
      have hcl := bitL_len c
      have iH := j_Shorter (bitL j) (bitL c) (by omega) (by omega)
      have hn : rlJ (B5 n coin box ls cs) (j + 1) = if (shoR (bitL j) (bitL c) && bb) = true then some j else some c := hnext
      have hD : rlD (some c) = .lst 1 (ints (bitL c)) := rfl
      rw [hD]
      cases hs : shoR (bitL j) (bitL c) with
      | false =>
        rw [hs] at iH hn
        rw [Bool.false_and, if_neg (by decide)] at hn
        repeat' first | ((first | with_reducible (first | apply Qt | apply Qu) | refine Qa rfl ?_ | refine Qk rfl ?_ | refine Qb ?_ | refine Qc ?_ | refine Qi ?_ | refine Qj ?_ | refine Qf (iF) ?_ | refine Qf (iB) ?_ | refine Qf (iH) ?_ | with_reducible (first | refine Qm ?_ | refine Qn ?_ | refine Qo ?_ | refine Qp ?_ | refine WB.nt ?_ | refine WB.nf ?_)) <;> conv => whnf) | (refine WB.tt ?_; conv => whnf) | (refine WB.ff ?_; conv => whnf)
        refine hagain (some c) hn ?_ (.inr trivial)
        refine Shr.of ?_ ?_ rfl rfl
        all_goals (repeat' first | exact Rel.e | refine Rel.some ?_ ?_ ?_ | refine Rel.none ?_ ?_ | refine Rel.ee ?_ ?_)
        all_goals first
          | exact RO'.of (show _ < 2 by simp [Pos.nat]) bk5D_sh
          | (show Fz _ _ _ _; first | exact .kpt (show _ < 2 by simp [Pos.nat]) | exact .pu trivial | exact .pu (pu_ints _))
      | true =>
        rw [hs] at iH hn
        rw [Bool.true_and] at hn
        repeat' first | ((first | with_reducible (first | apply Qt | apply Qu) | refine Qa rfl ?_ | refine Qk rfl ?_ | refine Qb ?_ | refine Qc ?_ | refine Qi ?_ | refine Qj ?_ | refine Qf (iF) ?_ | refine Qf (iB) ?_ | refine Qf (iH) ?_ | with_reducible (first | refine Qm ?_ | refine Qn ?_ | refine Qo ?_ | refine Qp ?_ | refine WB.nt ?_ | refine WB.nf ?_)) <;> conv => whnf) | (refine WB.tt ?_; conv => whnf) | (refine WB.ff ?_; conv => whnf)
        refine WSt.notB (m := ls.length) (b := j) (by rfl) (by rfl) h8 hlt ?_; conv => whnf
        cases bb with
        | false =>
          rw [if_neg (by decide)] at hn
          repeat' first | ((first | with_reducible (first | apply Qt | apply Qu) | refine Qa rfl ?_ | refine Qk rfl ?_ | refine Qb ?_ | refine Qc ?_ | refine Qi ?_ | refine Qj ?_ | refine Qf (iS) ?_ | refine Qf (iC) ?_ | with_reducible (first | refine Qm ?_ | refine Qn ?_ | refine Qo ?_ | refine Qp ?_ | refine WB.nt ?_ | refine WB.nf ?_)) <;> conv => whnf) | (refine WB.tt ?_; conv => whnf) | (refine WB.ff ?_; conv => whnf)
          refine hagain (some c) hn ?_ (.inr trivial)
          refine Shr.of ?_ ?_ rfl rfl
          all_goals (repeat' first | exact Rel.e | refine Rel.some ?_ ?_ ?_ | refine Rel.none ?_ ?_ | refine Rel.ee ?_ ?_)
          all_goals first
            | exact RO'.of (show _ < 2 by simp [Pos.nat]) bk5D_sh
            | (show Fz _ _ _ _; first | exact .kpt (show _ < 2 by simp [Pos.nat]) | exact .pu trivial | exact .pu (pu_ints _))
        | true =>
          rw [if_pos rfl] at hn
          repeat' first | ((first | with_reducible (first | apply Qt | apply Qu) | refine Qa rfl ?_ | refine Qk rfl ?_ | refine Qb ?_ | refine Qc ?_ | refine Qi ?_ | refine Qj ?_ | refine Qf (iS) ?_ | refine Qf (iC) ?_ | with_reducible (first | refine Qm ?_ | refine Qn ?_ | refine Qo ?_ | refine Qp ?_ | refine WB.nt ?_ | refine WB.nf ?_)) <;> conv => whnf) | (refine WB.tt ?_; conv => whnf) | (refine WB.ff ?_; conv => whnf)
          refine hagain (some j) hn ?_ (.inr trivial)
          refine Shr.of ?_ ?_ rfl rfl
          all_goals (repeat' first | exact Rel.e | refine Rel.some ?_ ?_ ?_ | refine Rel.none ?_ ?_ | refine Rel.ee ?_ ?_)
          all_goals first
            | exact RO'.of (show _ < 2 by simp [Pos.nat]) bk5D_sh
            | (show Fz _ _ _ _; first | exact .kpt (show _ < 2 by simp [Pos.nat]) | exact .pu trivial | exact .pu (pu_ints _))
  · rw [hend (by omega)]
    repeat' first | ((first | with_reducible (first | apply Qt | apply Qu) | refine Qa rfl ?_ | refine Qk rfl ?_ | refine Qb ?_ | refine Qc ?_ | refine Qi ?_ | refine Qj ?_) <;> conv => whnf)
    exact Fin.two (.inr rfl) rfl rfl (.pu (rlD_pu _)) (.pu trivial)
end Go.Ev
namespace Go.Ev
open Go.Proofs
set_option maxRecDepth 1000000
end Go.Ev
namespace Go.Ev
open Go.Proofs
set_option maxRecDepth 100000
theorem readB_iff {n : Int} {ls T : List Ln} : readB n ls T = true ↔ T.length = ls.length ∧ ∀ i, i < T.length → rd1 n (ls.getD i default) (T.getD i default) = true := by
  unfold readB
  rw [Bool.and_eq_true, decide_eq_true_iff, List.all_eq_true]
  constructor
  · rintro ⟨h1, h2⟩; exact ⟨h1, fun i hi => h2 i (List.mem_range.2 hi)⟩
  · rintro ⟨h1, h2⟩; exact ⟨h1, fun i hi => h2 i (List.mem_range.1 hi)⟩
end Go.Ev
namespace Go.Ev
open Go.Proofs
set_option maxRecDepth 100000
structure RenL (n : Int) (ls : List Ln) (σ : Ln → Ln) : Prop where
  inv : ∀ l, σ (σ l) = l
  ok : ∀ l ∈ ls, lnOk n (σ l) = lnOk n l
  sz : ∀ l ∈ ls, rdN n (σ l) = rdN n l
  rd : ∀ l ∈ ls, ∀ x, rd1 n (σ l) (σ x) = rd1 n l x
  pos : ∀ T : List Ln, ∀ i, i < T.length → pos1 (T.map σ) i = pos1 T i
  mon : ∀ (T : List Ln) (box coin : Int), ∀ i, i ≤ T.length → monR box coin (T.map σ) i = monR box coin T i
  mix : ∀ T : List Ln, ∀ i, i ≤ T.length → mixR (T.map σ) i = mixR T i
theorem map_at {σ : Ln → Ln} {T : List Ln} {i : Nat} (h : i < T.length) : (T.map σ).getD i default = σ (T.getD i default) := by
  simp [List.getD, h]
section
variable {n coin box : Int} {ls : List Ln} {cs : List Ct} {σ : Ln → Ln} (R : RenL n ls σ)
include R
theorem RenL.fits (V : VB (B5 n coin box ls cs)) (T : List Ln) : fitsB n coin box (ls.map σ) cs (T.map σ) = fitsB n coin box ls cs T := by
  unfold fitsB
  have h1 : readB n (ls.map σ) (T.map σ) = readB n ls T := by
    rw [Bool.eq_iff_iff, readB_iff, readB_iff, List.length_map, List.length_map]
    constructor
    · rintro ⟨h1, h2⟩
      refine ⟨h1, fun i hi => ?_⟩
      have := h2 i hi
      rw [map_at hi, map_at (by omega), R.rd _ (getD_mem (by omega))] at this
      exact this
    · rintro ⟨h1, h2⟩
      refine ⟨h1, fun i hi => ?_⟩
      rw [map_at hi, map_at (by omega), R.rd _ (getD_mem (by omega))]
      exact h2 i hi
  have h2 : possB (T.map σ) = possB T := by
    unfold possB
    rw [List.length_map, Bool.eq_iff_iff, List.all_eq_true, List.all_eq_true]
    exact ⟨fun h i hi => by rw [← R.pos T i (List.mem_range.1 hi)]; exact h i hi, fun h i hi => by rw [R.pos T i (List.mem_range.1 hi)]; exact h i hi⟩
  rw [h1, h2]
  by_cases hl : T.length = ls.length
  · have h3 : cntB box coin cs (T.map σ) = cntB box coin cs T := by
      unfold cntB
      rw [Bool.eq_iff_iff, List.all_eq_true, List.all_eq_true]
      have key : ∀ c ∈ cs, monR box coin (T.map σ) c.a.toNat = monR box coin T c.a.toNat := fun c hc => by
        have h4 : 0 ≤ c.a ∧ c.a ≤ (ls.length : Int) := V.cs c hc
        exact R.mon T box coin _ (by omega)
      exact ⟨fun h c hc => by rw [← key c hc]; exact h c hc, fun h c hc => by rw [key c hc]; exact h c hc⟩
    rw [h3]
  · have : readB n ls T = false := by
      cases h : readB n ls T with
      | false => rfl
      | true => exact absurd (readB_iff.1 h).1 hl
    rw [this]; rfl
theorem RenL.fault (h : faultT n coin box ls cs = 0) : faultT n coin box (ls.map σ) cs = 0 := by
  obtain ⟨f1, f2, f3, f4⟩ := fault_okT h
  unfold vldT at f3
  simp only [Bool.and_eq_true] at f3
  obtain ⟨v1, v2, v3, v4, v5⟩ := f3
  have hv : vldT n coin box (ls.map σ) cs = true := by
    unfold vldT
    simp only [Bool.and_eq_true]
    refine ⟨v1, v2, v3, ?_, by rw [List.length_map]; exact v5⟩
    rw [List.all_eq_true] at v4 ⊢
    intro x hx
    obtain ⟨l, hl, rfl⟩ := List.mem_map.1 hx
    rw [R.ok l hl]; exact v4 l hl
  have hm : manyR n (ls.map σ) = manyR n ls := by
    unfold manyR
    have key : ∀ (l : List Ln), (∀ x ∈ l, rdN n (σ x) = rdN n x) → ∀ p : Int, (l.map σ).foldl (fun m l => min 5000 (m * rdN n l)) p = l.foldl (fun m l => min 5000 (m * rdN n l)) p := by
      intro l
      induction l with
      | nil => intro _ p; rfl
      | cons a l ih =>
        intro hh p
        rw [List.map_cons, List.foldl_cons, List.foldl_cons, hh a List.mem_cons_self]
        exact ih (fun x hx => hh x (List.mem_cons_of_mem _ hx)) _
    exact key ls R.sz 1
  unfold faultT
  rw [List.length_map, if_neg (by omega), if_pos hv, hm, if_neg (by omega)]
theorem RenL.mem (h : faultT n coin box ls cs = 0) (T : List Ln) : T.map σ ∈ refT (B5 n coin box (ls.map σ) cs) ↔ T ∈ refT (B5 n coin box ls cs) := by
  have V := VB.of h
  have V2 := VB.of (R.fault h)
  rw [mem_refT V, mem_refT V2]
  show fitsB n coin box (ls.map σ) cs (T.map σ) = true ↔ fitsB n coin box ls cs T = true
  rw [R.fits V]
theorem RenL.back (T : List Ln) : (T.map σ).map σ = T := by
  rw [List.map_map]
  have : (σ ∘ σ) = id := funext R.inv
  rw [this, List.map_id]
theorem RenL.has (h : faultT n coin box ls cs = 0) : hasB (B5 n coin box (ls.map σ) cs) = hasB (B5 n coin box ls cs) := by
  rw [Bool.eq_iff_iff, hasB_nil (VB.of h), hasB_nil (VB.of (R.fault h))]
  constructor
  · intro h1 h2
    obtain ⟨X, s, hs⟩ := List.exists_cons_of_ne_nil h1
    have hX : X ∈ refT (B5 n coin box (ls.map σ) cs) := by rw [hs]; exact List.mem_cons_self
    rw [← R.back X, R.mem h, h2] at hX
    cases hX
  · intro h1 h2
    obtain ⟨X, s, hs⟩ := List.exists_cons_of_ne_nil h1
    have hX : X ∈ refT (B5 n coin box ls cs) := by rw [hs]; exact List.mem_cons_self
    rw [← R.mem h, h2] at hX
    cases hX
end
end Go.Ev
namespace Go.Ev
open Go.Proofs
set_option maxRecDepth 1000000
end Go.Ev