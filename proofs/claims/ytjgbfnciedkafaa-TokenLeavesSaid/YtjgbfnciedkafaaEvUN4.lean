import Derived.Test.YtjgbfnciedkafaaEvUGc
set_option linter.all false
namespace Go.Ev
open Go.Proofs
set_option maxRecDepth 100000
theorem lnD3 (a : Ln) : (lnD a).length = 3 := rfl
theorem ctD3 (a : Ct) : (ctD a).length = 3 := rfl
theorem lnDp (a : Ln) : PuL (lnD a) := by simp [lnD, PuL, Pu]
theorem ctDp (a : Ct) : PuL (ctD a) := by simp [ctD, PuL, Pu]
def woL (S : List Int) (ls : List Ln) (j : Nat) : List Ln := ((List.range j).filter fun i : Nat => !conR S (i : Int)).map fun i => ls.getD i default
def woF (S : List Int) (ls : List Ln) : List Ln := woL S ls ls.length
theorem woL_succ (S : List Int) (ls : List Ln) (j : Nat) : woL S ls (j + 1) = if conR S (j : Int) = true then woL S ls j else woL S ls j ++ [ls.getD j default] := by
  unfold woL
  rw [List.range_succ, List.filter_append, List.map_append]
  cases h : conR S (j : Int) with
  | true => rw [if_pos rfl]; simp [h]
  | false => rw [if_neg (by decide)]; simp [h]
theorem woL_len (S : List Int) (ls : List Ln) (j : Nat) : (woL S ls j).length ≤ j := by
  unfold woL
  rw [List.length_map]
  have := List.length_filter_le (fun i : Nat => !conR S (i : Int)) (List.range j)
  rw [List.length_range] at this
  exact this
def ctW (S : List Int) (c : Ct) : Ct := ⟨c.a - (ltN S c.a : Int), c.lo, c.hi⟩
def bk6C (n coin box : Int) (ls : List Ln) (cs : List Ct) : C := .cells false [.o (.i .i64 n) 0, .o (.i .i64 coin) 0, .o (.i .i64 box) 0, .o (.lst 3 (rows lnD ls)) 0, .o (.lst 3 (rows ctD cs)) 0, .o .any 0] 1
def zr5C : C := .cells false [.o (.i .i64 0) 0, .o (.i .i64 0) 0, .o (.i .i64 0) 0, .o .ns 0, .o .ns 0] 1
def ou5C (n coin box : Int) (d e : D) : C := .cells false [.o (.i .i64 n) 0, .o (.i .i64 coin) 0, .o (.i .i64 box) 0, .o d 0, .o e 0] 1
theorem bk6C_sh {n coin box : Int} {ls : List Ln} {cs : List Ct} {B : Pos → Prop} {ob : T C} : ShC B ob (bk6C n coin box ls cs) (bk6C n coin box ls cs) := ShC.same (ShC.cn (.pu trivial) (ShC.cn (.pu trivial) (ShC.cn (.pu trivial) (ShC.cn (.pu (pu_ln _)) (ShC.cn (.pu (pu_ct _)) (ShC.cn (.pu trivial) ShC.nl))))))
theorem zr5C_sh {B : Pos → Prop} {ob : T C} : ShC B ob zr5C zr5C := ShC.same (ShC.cn (.pu trivial) (ShC.cn (.pu trivial) (ShC.cn (.pu trivial) (ShC.cn (.pu trivial) (ShC.cn (.pu trivial) ShC.nl)))))
theorem ou5C_sh {n coin box : Int} {d d' e e' : D} {B : Pos → Prop} {ob : T C} (hd : Fz B ob d d') (he : Fz B ob e e') : ShC B ob (ou5C n coin box d e) (ou5C n coin box d' e') := by
  refine .cells fun k c' hc => ?_
  match k, hc with
  | 0, hc => cases hc; exact ⟨_, rfl, fun _ h => h, .pu trivial⟩
  | 1, hc => cases hc; exact ⟨_, rfl, fun _ h => h, .pu trivial⟩
  | 2, hc => cases hc; exact ⟨_, rfl, fun _ h => h, .pu trivial⟩
  | 3, hc => cases hc; exact ⟨_, rfl, fun _ h => h, hd⟩
  | 4, hc => cases hc; exact ⟨_, rfl, fun _ h => h, he⟩
  | k + 5, hc => cases hc
noncomputable def woS2 (n coin box : Int) (ls : List Ln) (cs : List Ct) (S : List Int) (L : List Ln) (A : List Ct) (j : Nat) : X := ⟨(.n (.n (.n (.n .e none (.n (.n .e (some (.i .i64 (cs.length : Int))) .e) none .e)) none .e) (some (setD S)) (.n .e (some (.pt (.i .h) 0 0)) .e)) none (.n (.n (.n .e none (.n (.n .e (some (.i .i64 (j : Int))) .e) none .e)) (some (.pt (.o .h) 0 0)) .e) (some (.pt .h 0 0)) (.n .e none (.n (.n (.n .e (some (.lst 3 (rows ctD cs))) .e) none .e) none .e)))), (.n (.n .e (some (zr5C)) (.n .e (blG ctD A) .e)) (some (bk6C n coin box ls cs)) (.n .e (some (ou5C n coin box (.lst 3 (rows lnD L)) (slG (.o (.i .h)) 3 A))) .e)), nxG (.o (.o .h)) (.i (.i .h)) A, none⟩
noncomputable def woS1 (n coin box : Int) (ls : List Ln) (cs : List Ct) (S : List Int) (A : List Ln) (j : Nat) : X := ⟨(.n (.n (.n .e none (.n (.n .e (some (.i .i64 (ls.length : Int))) .e) none .e)) (some (setD S)) (.n .e (some (.pt (.i .h) 0 0)) .e)) none (.n (.n .e (some (.pt (.o .h) 0 0)) (.n (.n .e (some (.i .i64 (j : Int))) .e) none .e)) (some (.pt .h 0 0)) (.n (.n (.n .e (some (.lst 3 (rows lnD ls))) .e) none .e) none .e))), (.n (.n .e (some (zr5C)) (.n .e (blG lnD A) .e)) (some (bk6C n coin box ls cs)) (.n .e (some (ou5C n coin box (slG (.o (.i .h)) 3 A) .ns)) .e)), nxG (.o (.o .h)) (.i (.i .h)) A, none⟩
def seqW : RC → RC
  | .seq _ b => b
  | c => c
noncomputable def rc124R : RC := seqW (seqW (seqW (seqW rc124)))
noncomputable def woZ (n coin box : Int) (ls : List Ln) (cs : List Ct) (S : List Int) (L : List Ln) : X := ⟨(.n (.n .e (some (setD S)) (.n .e (some (.pt (.i .h) 0 0)) .e)) none (.n (.n .e (some (.pt (.o .h) 0 0)) .e) (some (.pt .h 0 0)) .e)), (.n (.n .e (some (zr5C)) .e) (some (bk6C n coin box ls cs)) (.n .e (some (ou5C n coin box (.lst 3 (rows lnD L)) .ns)) .e)), .o (.o .h), none⟩
set_option maxHeartbeats 2000000 in
theorem j_withoutR (n coin box : Int) (ls : List Ln) (cs : List Ct) (S : List Int) (hS : S.length ≤ 1000) (hp : S.Pairwise (· < ·)) (L : List Ln) (hc : cs.length ≤ 100) (ha : ∀ c ∈ cs, 0 ≤ c.a ∧ c.a ≤ 1000) : Rn Try.prog 64 rc124R (woZ n coin box ls cs S L) (Fin rs124 (.ag [.i .i64 n, .i .i64 coin, .i .i64 box, .lst 3 (rows lnD L), .lst 3 (rows ctD (cs.map (ctW S)))])) := by
  have e3 := rows_length ctD cs
  conv => whnf
  repeat' first | ((first | with_reducible (first | apply Qt | apply Qu) | refine Qa rfl ?_ | refine Qk rfl ?_ | refine Qb ?_ | refine Qc ?_ | refine Qi ?_ | refine Qj ?_) <;> conv => whnf)
  refine Rn.loop (fun j : Nat => woS2 n coin box ls cs S L ((cs.take j).map (ctW S)) j) (fun j => j ≤ cs.length ∧ True) (fun j => cs.length - j) 0 ?_ ?_ ?_
  · refine X.le.mk ?_ ?_ (Nat.le_refl _) rfl rfl
    · show T.le ((.n (.n (.n (.n .e none (.n (.n .e (some (.i .i64 (cs.length : Int))) .e) none .e)) none .e) (some (setD S)) (.n .e (some (.pt (.i .h) 0 0)) .e)) none (.n (.n (.n .e none (.n (.n .e (some (.i .i64 0)) .e) none .e)) (some (.pt (.o .h) 0 0)) .e) (some (.pt .h 0 0)) (.n .e none (.n (.n (.n .e (some (.lst 3 (rows ctD cs))) .e) none .e) none .e)))) : T D) _
      rw [← e3]
      (repeat' first | exact T.le_e _ | refine T.le_some ?_ rfl ?_ | refine T.le_none ?_ ?_ | refine T.le_ee ?_ ?_)
    · show T.le ((.n (.n .e (some (zr5C)) (.n .e none .e)) (some (bk6C n coin box ls cs)) (.n .e (some (ou5C n coin box (.lst 3 (rows lnD L)) .ns)) .e)) : T C) _
      (repeat' first | exact T.le_e _ | refine T.le_some ?_ rfl ?_ | refine T.le_none ?_ ?_ | refine T.le_ee ?_ ?_)
  · exact ⟨Nat.zero_le _, trivial⟩
  rintro j ⟨hj, _⟩
  have hsc : j < cs.length → (cs.take (j + 1)).map (ctW S) = (cs.take j).map (ctW S) ++ [ctW S (cs.getD j default)] := fun h => by
    rw [take_succ_getD (d := default) h, List.map_append]; rfl
  have hAl : ((cs.take j).map (ctW S)).length ≤ j := by rw [List.length_map, List.length_take]; omega
  have hend : j = cs.length → (cs.take j).map (ctW S) = cs.map (ctW S) := fun h => by rw [List.take_of_length_le (by omega)]
  generalize hA : (cs.take j).map (ctW S) = A at *
  conv => whnf
  repeat' first | ((first | with_reducible (first | apply Qt | apply Qu) | refine Qa rfl ?_ | refine Qk rfl ?_ | refine Qb ?_ | refine Qc ?_ | refine Qi ?_ | refine Qj ?_) <;> conv => whnf)
  refine WB.dec (fun h => ?_) (fun h => ?_) <;> conv => whnf
  · have hlt : j < cs.length := by omega
    have hsc := hsc hlt
    have hca := ha _ (getD_mem (d := default) hlt)
    have iB := j_bsS S hp hS (cs.getD j default).a
    have hle := ltN_le S (cs.getD j default).a
    cases A with
    | nil =>
      repeat' first | ((first | with_reducible (first | apply Qt | apply Qu) | refine Qa rfl ?_ | refine Qk rfl ?_ | refine Qb ?_ | refine Qc ?_ | refine Qi ?_ | refine Qj ?_ | refine Qf (iB) ?_) <;> conv => whnf)
      refine WSt.app_first (r := ctD (ctW S (cs.getD j default))) (by rfl) (.inl rfl) (by rfl) (by rfl) (by rfl) (by rfl) ?_; conv => whnf
      repeat' first | ((first | with_reducible (first | apply Qt | apply Qu) | refine Qa rfl ?_ | refine Qk rfl ?_ | refine Qb ?_ | refine Qc ?_ | refine Qi ?_ | refine Qj ?_) <;> conv => whnf)
      refine Again.to (j + 1) (by omega) ⟨by omega, trivial⟩ (by show (nxG (.o (.o .h)) (.i (.i .h)) ((cs.take j).map (ctW S))).nat ≤ (nxG (.o (.o .h)) (.i (.i .h)) ((cs.take (j + 1)).map (ctW S))).nat; rw [hA, hsc]; exact (show 4 ≤ 7 by omega)) ?_
      show Shr _ (woS2 n coin box ls cs S L ((cs.take (j + 1)).map (ctW S)) (j + 1))
      rw [hsc]
      refine Shr.of ?_ ?_ rfl rfl
      · show Rel _ _ ((.n (.n (.n (.n .e none (.n (.n .e (some (.i .i64 (cs.length : Int))) .e) none .e)) none .e) (some (setD S)) (.n .e (some (.pt (.i .h) 0 0)) .e)) none (.n (.n (.n .e none (.n (.n .e (some (.i .i64 ((j + 1 : Nat) : Int))) .e) none .e)) (some (.pt (.o .h) 0 0)) .e) (some (.pt .h 0 0)) (.n .e none (.n (.n (.n .e (some (.lst 3 (rows ctD cs))) .e) none .e) none .e)))) : T D) _
        skip
        (repeat' first | exact Rel.e | refine Rel.some ?_ ?_ ?_ | refine Rel.none ?_ ?_ | refine Rel.ee ?_ ?_)
        all_goals show Fz _ _ _ _
        all_goals first | exact .pu trivial | exact .kpt (show _ < 7 by simp [Pos.nat]) | exact .ksl (show _ < 7 by simp [Pos.nat]) | exact .kmp (show _ < 7 by simp [Pos.nat]) | exact .pu (setD_pu _) | exact .pu (pu_ct _) | exact .pu (pu_ln _)
      · show Rel _ _ ((.n (.n .e (some (zr5C)) (.n .e (some (.cells false ((ctD (ctW S (cs.getD j default))).map fun d => Cell.o d 0) 1)) .e)) (some (bk6C n coin box ls cs)) (.n .e (some (ou5C n coin box (.lst 3 (rows lnD L)) (.sl (.o (.i .h)) 0 1 0 3))) .e)) : T C) _
        skip
        (repeat' first | exact Rel.e | refine Rel.some ?_ ?_ ?_ | refine Rel.none ?_ ?_ | refine Rel.ee ?_ ?_)
        all_goals first
          | exact RO'.of (show _ < 7 by simp [Pos.nat]) bk6C_sh
          | exact RO'.of (show _ < 7 by simp [Pos.nat]) zr5C_sh
          | exact RO'.of (show _ < 7 by simp [Pos.nat]) (ou5C_sh (.pu (pu_ln _)) (.pu trivial))
          | exact RO'.of (show _ < 7 by simp [Pos.nat]) (ou5C_sh (.pu (pu_ln _)) (.ksl (show _ < 7 by simp [Pos.nat])))
          | (refine RO'.of (show _ < 7 by simp [Pos.nat]) (ShC.same fun c hc => ?_); obtain ⟨d, hd, rfl⟩ := List.mem_map.1 hc; exact .pu (PuL_iff.1 (ctDp _) d hd))
    | cons a s =>
      have hs5 : s.length + 1 ≤ 1000 := Nat.le_trans hAl (by omega)
      repeat' first | ((first | with_reducible (first | apply Qt | apply Qu) | refine Qa rfl ?_ | refine Qk rfl ?_ | refine Qb ?_ | refine Qc ?_ | refine Qi ?_ | refine Qj ?_ | refine Qf (iB) ?_) <;> conv => whnf)
      refine WSt.app_one (id := (.o (.i .h))) (ds := (rows ctD (a :: s)).flatten) (r := ctD (ctW S (cs.getD j default))) (by rfl) (by rfl) (by rfl) (by rfl) (by rfl) (by rfl) (by rw [rowsF_len (z := 3) ctD3]; rfl) (by rfl) (by rfl) (by omega) (by rfl) ?_; conv => whnf
      repeat' first | ((first | with_reducible (first | apply Qt | apply Qu) | refine Qa rfl ?_ | refine Qk rfl ?_ | refine Qb ?_ | refine Qc ?_ | refine Qi ?_ | refine Qj ?_) <;> conv => whnf)
      refine Again.to (j + 1) (by omega) ⟨by omega, trivial⟩ (by show (nxG (.o (.o .h)) (.i (.i .h)) ((cs.take j).map (ctW S))).nat ≤ (nxG (.o (.o .h)) (.i (.i .h)) ((cs.take (j + 1)).map (ctW S))).nat; rw [hA, hsc, List.cons_append]; exact (show 7 ≤ 7 by omega)) ?_
      show Shr _ (woS2 n coin box ls cs S L ((cs.take (j + 1)).map (ctW S)) (j + 1))
      rw [hsc, List.cons_append]
      refine Shr.of ?_ ?_ rfl rfl
      · show Rel _ _ ((.n (.n (.n (.n .e none (.n (.n .e (some (.i .i64 (cs.length : Int))) .e) none .e)) none .e) (some (setD S)) (.n .e (some (.pt (.i .h) 0 0)) .e)) none (.n (.n (.n .e none (.n (.n .e (some (.i .i64 ((j + 1 : Nat) : Int))) .e) none .e)) (some (.pt (.o .h) 0 0)) .e) (some (.pt .h 0 0)) (.n .e none (.n (.n (.n .e (some (.lst 3 (rows ctD cs))) .e) none .e) none .e)))) : T D) _
        skip
        (repeat' first | exact Rel.e | refine Rel.some ?_ ?_ ?_ | refine Rel.none ?_ ?_ | refine Rel.ee ?_ ?_)
        all_goals show Fz _ _ _ _
        all_goals first | exact .pu trivial | exact .kpt (show _ < 7 by simp [Pos.nat]) | exact .ksl (show _ < 7 by simp [Pos.nat]) | exact .kmp (show _ < 7 by simp [Pos.nat]) | exact .pu (setD_pu _) | exact .pu (pu_ct _) | exact .pu (pu_ln _)
      · show Rel _ _ ((.n (.n .e (some (zr5C)) (.n .e (blG ctD (a :: (s ++ [(ctW S (cs.getD j default))]))) .e)) (some (bk6C n coin box ls cs)) (.n .e (some (ou5C n coin box (.lst 3 (rows lnD L)) (slG (.o (.i .h)) 3 (a :: (s ++ [(ctW S (cs.getD j default))]))))) .e)) : T C) _
        rw [slG_snoc, blG_snoc]
        (repeat' first | exact Rel.e | refine Rel.some ?_ ?_ ?_ | refine Rel.none ?_ ?_ | refine Rel.ee ?_ ?_)
        all_goals first
          | exact RO'.of (show _ < 7 by simp [Pos.nat]) bk6C_sh
          | exact RO'.of (show _ < 7 by simp [Pos.nat]) zr5C_sh
          | exact RO'.of (show _ < 7 by simp [Pos.nat]) (ou5C_sh (.pu (pu_ln _)) (.pu trivial))
          | exact RO'.of (show _ < 7 by simp [Pos.nat]) (ou5C_sh (.pu (pu_ln _)) (.ksl (show _ < 7 by simp [Pos.nat])))
          | (refine RO'.of (show _ < 7 by simp [Pos.nat]) (ShC.grown (by omega) (PuL_iff.2 fun d hd => ?_)); rcases List.mem_append.1 hd with hd | hd <;> first | exact PuL_iff.1 (rowsF_pu ctDp _) d hd | exact PuL_iff.1 (ctDp _) d hd)
  · have he := hend (by omega)
    rw [← he]
    repeat' first | ((first | with_reducible (first | apply Qt | apply Qu) | refine Qa rfl ?_ | refine Qk rfl ?_ | refine Qb ?_ | refine Qc ?_ | refine Qi ?_ | refine Qj ?_) <;> conv => whnf)
    exact ⟨.inr rfl, _, rfl, .ag (.cons (.pu trivial) (.cons (.pu trivial) (.cons (.pu trivial) (.cons (.pu (pu_ln _)) (.cons (Fz.G A (fun h => h) (fun c h => h) ctD3 ctDp) .nil)))))⟩
set_option maxHeartbeats 2000000 in
theorem j_without (n coin box : Int) (ls : List Ln) (cs : List Ct) (S : List Int) (hS : S.length ≤ 1000) (hp : S.Pairwise (· < ·)) (hl : ls.length ≤ 100) (hc : cs.length ≤ 100) (ha : ∀ c ∈ cs, 0 ≤ c.a ∧ c.a ≤ 1000) : PureF Try.prog p125.ix [.ag [.i .i64 n, .i .i64 coin, .i .i64 box, .lst 3 (rows lnD ls), .lst 3 (rows ctD cs), .any], setD S] (.ag [.i .i64 n, .i .i64 coin, .i .i64 box, .lst 3 (rows lnD (woF S ls)), .lst 3 (rows ctD (cs.map (ctW S)))]) := by
  have e2 := rows_length lnD ls
  have hrest := j_withoutR n coin box ls cs S hS hp (woF S ls) hc ha
  have hsd := setD_pu S
  refine PureF.run fn124 (by simp) (by simp [PuL, PuE, Pu, pu_ln, pu_ct, hsd]) ?_; conv => whnf
  refine Rn.seq ?_; conv => whnf
  refine Rn.reg ?_; conv => whnf
  refine Rn.far rfl ?_
  refine RnF.seq ?_; conv => whnf
  repeat' first | ((first | with_reducible (first | apply Qt | apply Qu) | refine Qa rfl ?_ | refine Qk rfl ?_ | refine Qb ?_ | refine Qc ?_ | refine Qi ?_ | refine Qj ?_) <;> conv => whnf)
  refine ⟨rfl, rfl, (show 3 ≤ 4 by omega), ?_⟩
  refine RnF.seq ?_; conv => whnf
  repeat' first | ((first | with_reducible (first | apply Qt | apply Qu) | refine Qa rfl ?_ | refine Qk rfl ?_ | refine Qb ?_ | refine Qc ?_ | refine Qi ?_ | refine Qj ?_) <;> conv => whnf)
  refine ⟨rfl, rfl, (show 3 ≤ 4 by omega), ?_⟩
  refine RnF.seq ?_; conv => whnf
  repeat' first | ((first | with_reducible (first | apply Qt | apply Qu) | refine Qa rfl ?_ | refine Qk rfl ?_ | refine Qb ?_ | refine Qc ?_ | refine Qi ?_ | refine Qj ?_) <;> conv => whnf)
  refine Rn.loop (fun j : Nat => woS1 n coin box ls cs S (woL S ls j) j) (fun j => j ≤ ls.length ∧ True) (fun j => ls.length - j) 0 ?_ ?_ ?_
  · refine X.le.mk ?_ ?_ (Nat.le_refl _) rfl rfl
    · show T.le ((.n (.n (.n .e none (.n (.n .e (some (.i .i64 (ls.length : Int))) .e) none .e)) (some (setD S)) (.n .e (some (.pt (.i .h) 0 0)) .e)) none (.n (.n .e (some (.pt (.o .h) 0 0)) (.n (.n .e (some (.i .i64 0)) .e) none .e)) (some (.pt .h 0 0)) (.n (.n (.n .e (some (.lst 3 (rows lnD ls))) .e) none .e) none .e))) : T D) _
      rw [← e2]
      (repeat' first | exact T.le_e _ | refine T.le_some ?_ rfl ?_ | refine T.le_none ?_ ?_ | refine T.le_ee ?_ ?_)
    · show T.le ((.n (.n .e (some (zr5C)) (.n .e none .e)) (some (bk6C n coin box ls cs)) (.n .e (some (ou5C n coin box .ns .ns)) .e)) : T C) _
      (repeat' first | exact T.le_e _ | refine T.le_some ?_ rfl ?_ | refine T.le_none ?_ ?_ | refine T.le_ee ?_ ?_)
  · exact ⟨Nat.zero_le _, trivial⟩
  rintro j ⟨hj, _⟩
  have hsc := woL_succ S ls j
  have hAl := woL_len S ls j
  have hend : j = ls.length → woL S ls j = woF S ls := fun h => by rw [h]; rfl
  generalize hA : woL S ls j = A at *
  conv => whnf
  repeat' first | ((first | with_reducible (first | apply Qt | apply Qu) | refine Qa rfl ?_ | refine Qk rfl ?_ | refine Qb ?_ | refine Qc ?_ | refine Qi ?_ | refine Qj ?_) <;> conv => whnf)
  refine WB.dec (fun h => ?_) (fun h => ?_) <;> conv => whnf
  · have hlt : j < ls.length := by omega
    have iC := j_ContainsS S (j : Int) hS
    cases hc : conR S (j : Int) with
    | true =>
      rw [hc] at iC
      rw [hc, if_pos rfl] at hsc
      cases A with
      | nil =>
        repeat' first | ((first | with_reducible (first | apply Qt | apply Qu) | refine Qa rfl ?_ | refine Qk rfl ?_ | refine Qb ?_ | refine Qc ?_ | refine Qi ?_ | refine Qj ?_ | refine Qf (iC) ?_) <;> conv => whnf)
        refine WB.ff ?_; conv => whnf
        repeat' first | ((first | with_reducible (first | apply Qt | apply Qu) | refine Qa rfl ?_ | refine Qk rfl ?_ | refine Qb ?_ | refine Qc ?_ | refine Qi ?_ | refine Qj ?_) <;> conv => whnf)
        refine Again.to (j + 1) (by omega) ⟨by omega, trivial⟩ (by show (nxG (.o (.o .h)) (.i (.i .h)) (woL S ls j)).nat ≤ (nxG (.o (.o .h)) (.i (.i .h)) (woL S ls (j + 1))).nat; rw [hA, hsc]; exact (show 4 ≤ 4 by omega)) ?_
        show Shr _ (woS1 n coin box ls cs S (woL S ls (j + 1)) (j + 1))
        rw [hsc]
        refine Shr.of ?_ ?_ rfl rfl
        · show Rel _ _ ((.n (.n (.n .e none (.n (.n .e (some (.i .i64 (ls.length : Int))) .e) none .e)) (some (setD S)) (.n .e (some (.pt (.i .h) 0 0)) .e)) none (.n (.n .e (some (.pt (.o .h) 0 0)) (.n (.n .e (some (.i .i64 ((j + 1 : Nat) : Int))) .e) none .e)) (some (.pt .h 0 0)) (.n (.n (.n .e (some (.lst 3 (rows lnD ls))) .e) none .e) none .e))) : T D) _
          skip
          (repeat' first | exact Rel.e | refine Rel.some ?_ ?_ ?_ | refine Rel.none ?_ ?_ | refine Rel.ee ?_ ?_)
          all_goals show Fz _ _ _ _
          all_goals first | exact .pu trivial | exact .kpt (show _ < 4 by simp [Pos.nat]) | exact .ksl (show _ < 4 by simp [Pos.nat]) | exact .kmp (show _ < 4 by simp [Pos.nat]) | exact .pu (setD_pu _) | exact .pu (pu_ct _) | exact .pu (pu_ln _)
        · show Rel _ _ ((.n (.n .e (some (zr5C)) (.n .e none .e)) (some (bk6C n coin box ls cs)) (.n .e (some (ou5C n coin box .ns .ns)) .e)) : T C) _
          skip
          (repeat' first | exact Rel.e | refine Rel.some ?_ ?_ ?_ | refine Rel.none ?_ ?_ | refine Rel.ee ?_ ?_)
          all_goals first
            | exact RO'.of (show _ < 4 by simp [Pos.nat]) bk6C_sh
            | exact RO'.of (show _ < 4 by simp [Pos.nat]) zr5C_sh
            | exact RO'.of (show _ < 4 by simp [Pos.nat]) (ou5C_sh (.pu trivial) (.pu trivial))
            | exact RO'.of (show _ < 4 by simp [Pos.nat]) (ou5C_sh (.ksl (show _ < 4 by simp [Pos.nat])) (.pu trivial))
      | cons a s =>
        repeat' first | ((first | with_reducible (first | apply Qt | apply Qu) | refine Qa rfl ?_ | refine Qk rfl ?_ | refine Qb ?_ | refine Qc ?_ | refine Qi ?_ | refine Qj ?_ | refine Qf (iC) ?_) <;> conv => whnf)
        refine WB.ff ?_; conv => whnf
        repeat' first | ((first | with_reducible (first | apply Qt | apply Qu) | refine Qa rfl ?_ | refine Qk rfl ?_ | refine Qb ?_ | refine Qc ?_ | refine Qi ?_ | refine Qj ?_) <;> conv => whnf)
        refine Again.to (j + 1) (by omega) ⟨by omega, trivial⟩ (by show (nxG (.o (.o .h)) (.i (.i .h)) (woL S ls j)).nat ≤ (nxG (.o (.o .h)) (.i (.i .h)) (woL S ls (j + 1))).nat; rw [hA, hsc]; exact (show 7 ≤ 7 by omega)) ?_
        show Shr _ (woS1 n coin box ls cs S (woL S ls (j + 1)) (j + 1))
        rw [hsc]
        refine Shr.of ?_ ?_ rfl rfl
        · show Rel _ _ ((.n (.n (.n .e none (.n (.n .e (some (.i .i64 (ls.length : Int))) .e) none .e)) (some (setD S)) (.n .e (some (.pt (.i .h) 0 0)) .e)) none (.n (.n .e (some (.pt (.o .h) 0 0)) (.n (.n .e (some (.i .i64 ((j + 1 : Nat) : Int))) .e) none .e)) (some (.pt .h 0 0)) (.n (.n (.n .e (some (.lst 3 (rows lnD ls))) .e) none .e) none .e))) : T D) _
          skip
          (repeat' first | exact Rel.e | refine Rel.some ?_ ?_ ?_ | refine Rel.none ?_ ?_ | refine Rel.ee ?_ ?_)
          all_goals show Fz _ _ _ _
          all_goals first | exact .pu trivial | exact .kpt (show _ < 7 by simp [Pos.nat]) | exact .ksl (show _ < 7 by simp [Pos.nat]) | exact .kmp (show _ < 7 by simp [Pos.nat]) | exact .pu (setD_pu _) | exact .pu (pu_ct _) | exact .pu (pu_ln _)
        · show Rel _ _ ((.n (.n .e (some (zr5C)) (.n .e (some (.cells false ((rows lnD (a :: s)).flatten.map fun d => Cell.o d s.length) (s.length + 1))) .e)) (some (bk6C n coin box ls cs)) (.n .e (some (ou5C n coin box (.sl (.o (.i .h)) 0 (s.length + 1) s.length 3) .ns)) .e)) : T C) _
          skip
          (repeat' first | exact Rel.e | refine Rel.some ?_ ?_ ?_ | refine Rel.none ?_ ?_ | refine Rel.ee ?_ ?_)
          all_goals first
            | exact RO'.of (show _ < 7 by simp [Pos.nat]) bk6C_sh
            | exact RO'.of (show _ < 7 by simp [Pos.nat]) zr5C_sh
            | exact RO'.of (show _ < 7 by simp [Pos.nat]) (ou5C_sh (.pu trivial) (.pu trivial))
            | exact RO'.of (show _ < 7 by simp [Pos.nat]) (ou5C_sh (.ksl (show _ < 7 by simp [Pos.nat])) (.pu trivial))
            | exact RO'.of (show _ < 7 by simp [Pos.nat]) (ShC.G lnDp a s)
    | false =>
      rw [hc] at iC
      rw [hc, if_neg (by decide)] at hsc
      cases A with
      | nil =>
        repeat' first | ((first | with_reducible (first | apply Qt | apply Qu) | refine Qa rfl ?_ | refine Qk rfl ?_ | refine Qb ?_ | refine Qc ?_ | refine Qi ?_ | refine Qj ?_ | refine Qf (iC) ?_) <;> conv => whnf)
        refine WB.tt ?_; conv => whnf
        repeat' first | ((first | with_reducible (first | apply Qt | apply Qu) | refine Qa rfl ?_ | refine Qk rfl ?_ | refine Qb ?_ | refine Qc ?_ | refine Qi ?_ | refine Qj ?_) <;> conv => whnf)
        refine WSt.app_first (r := lnD (ls.getD j default)) (by rfl) (.inl rfl) (by rfl) (by rfl) (by rfl) (by rfl) ?_; conv => whnf
        repeat' first | ((first | with_reducible (first | apply Qt | apply Qu) | refine Qa rfl ?_ | refine Qk rfl ?_ | refine Qb ?_ | refine Qc ?_ | refine Qi ?_ | refine Qj ?_) <;> conv => whnf)
        refine Again.to (j + 1) (by omega) ⟨by omega, trivial⟩ (by show (nxG (.o (.o .h)) (.i (.i .h)) (woL S ls j)).nat ≤ (nxG (.o (.o .h)) (.i (.i .h)) (woL S ls (j + 1))).nat; rw [hA, hsc]; exact (show 4 ≤ 7 by omega)) ?_
        show Shr _ (woS1 n coin box ls cs S (woL S ls (j + 1)) (j + 1))
        rw [hsc]
        refine Shr.of ?_ ?_ rfl rfl
        · show Rel _ _ ((.n (.n (.n .e none (.n (.n .e (some (.i .i64 (ls.length : Int))) .e) none .e)) (some (setD S)) (.n .e (some (.pt (.i .h) 0 0)) .e)) none (.n (.n .e (some (.pt (.o .h) 0 0)) (.n (.n .e (some (.i .i64 ((j + 1 : Nat) : Int))) .e) none .e)) (some (.pt .h 0 0)) (.n (.n (.n .e (some (.lst 3 (rows lnD ls))) .e) none .e) none .e))) : T D) _
          skip
          (repeat' first | exact Rel.e | refine Rel.some ?_ ?_ ?_ | refine Rel.none ?_ ?_ | refine Rel.ee ?_ ?_)
          all_goals show Fz _ _ _ _
          all_goals first | exact .pu trivial | exact .kpt (show _ < 7 by simp [Pos.nat]) | exact .ksl (show _ < 7 by simp [Pos.nat]) | exact .kmp (show _ < 7 by simp [Pos.nat]) | exact .pu (setD_pu _) | exact .pu (pu_ct _) | exact .pu (pu_ln _)
        · show Rel _ _ ((.n (.n .e (some (zr5C)) (.n .e (some (.cells false ((lnD (ls.getD j default)).map fun d => Cell.o d 0) 1)) .e)) (some (bk6C n coin box ls cs)) (.n .e (some (ou5C n coin box (.sl (.o (.i .h)) 0 1 0 3) .ns)) .e)) : T C) _
          skip
          (repeat' first | exact Rel.e | refine Rel.some ?_ ?_ ?_ | refine Rel.none ?_ ?_ | refine Rel.ee ?_ ?_)
          all_goals first
            | exact RO'.of (show _ < 7 by simp [Pos.nat]) bk6C_sh
            | exact RO'.of (show _ < 7 by simp [Pos.nat]) zr5C_sh
            | exact RO'.of (show _ < 7 by simp [Pos.nat]) (ou5C_sh (.pu trivial) (.pu trivial))
            | exact RO'.of (show _ < 7 by simp [Pos.nat]) (ou5C_sh (.ksl (show _ < 7 by simp [Pos.nat])) (.pu trivial))
            | (refine RO'.of (show _ < 7 by simp [Pos.nat]) (ShC.same fun c hc => ?_); obtain ⟨d, hd, rfl⟩ := List.mem_map.1 hc; exact .pu (PuL_iff.1 (lnDp _) d hd))
      | cons a s =>
        have hs5 : s.length + 1 ≤ 1000 := Nat.le_trans hAl (by omega)
        repeat' first | ((first | with_reducible (first | apply Qt | apply Qu) | refine Qa rfl ?_ | refine Qk rfl ?_ | refine Qb ?_ | refine Qc ?_ | refine Qi ?_ | refine Qj ?_ | refine Qf (iC) ?_) <;> conv => whnf)
        refine WB.tt ?_; conv => whnf
        repeat' first | ((first | with_reducible (first | apply Qt | apply Qu) | refine Qa rfl ?_ | refine Qk rfl ?_ | refine Qb ?_ | refine Qc ?_ | refine Qi ?_ | refine Qj ?_) <;> conv => whnf)
        refine WSt.app_one (id := (.o (.i .h))) (ds := (rows lnD (a :: s)).flatten) (r := lnD (ls.getD j default)) (by rfl) (by rfl) (by rfl) (by rfl) (by rfl) (by rfl) (by rw [rowsF_len (z := 3) lnD3]; rfl) (by rfl) (by rfl) (by omega) (by rfl) ?_; conv => whnf
        repeat' first | ((first | with_reducible (first | apply Qt | apply Qu) | refine Qa rfl ?_ | refine Qk rfl ?_ | refine Qb ?_ | refine Qc ?_ | refine Qi ?_ | refine Qj ?_) <;> conv => whnf)
        refine Again.to (j + 1) (by omega) ⟨by omega, trivial⟩ (by show (nxG (.o (.o .h)) (.i (.i .h)) (woL S ls j)).nat ≤ (nxG (.o (.o .h)) (.i (.i .h)) (woL S ls (j + 1))).nat; rw [hA, hsc, List.cons_append]; exact (show 7 ≤ 7 by omega)) ?_
        show Shr _ (woS1 n coin box ls cs S (woL S ls (j + 1)) (j + 1))
        rw [hsc, List.cons_append]
        refine Shr.of ?_ ?_ rfl rfl
        · show Rel _ _ ((.n (.n (.n .e none (.n (.n .e (some (.i .i64 (ls.length : Int))) .e) none .e)) (some (setD S)) (.n .e (some (.pt (.i .h) 0 0)) .e)) none (.n (.n .e (some (.pt (.o .h) 0 0)) (.n (.n .e (some (.i .i64 ((j + 1 : Nat) : Int))) .e) none .e)) (some (.pt .h 0 0)) (.n (.n (.n .e (some (.lst 3 (rows lnD ls))) .e) none .e) none .e))) : T D) _
          skip
          (repeat' first | exact Rel.e | refine Rel.some ?_ ?_ ?_ | refine Rel.none ?_ ?_ | refine Rel.ee ?_ ?_)
          all_goals show Fz _ _ _ _
          all_goals first | exact .pu trivial | exact .kpt (show _ < 7 by simp [Pos.nat]) | exact .ksl (show _ < 7 by simp [Pos.nat]) | exact .kmp (show _ < 7 by simp [Pos.nat]) | exact .pu (setD_pu _) | exact .pu (pu_ct _) | exact .pu (pu_ln _)
        · show Rel _ _ ((.n (.n .e (some (zr5C)) (.n .e (blG lnD (a :: (s ++ [(ls.getD j default)]))) .e)) (some (bk6C n coin box ls cs)) (.n .e (some (ou5C n coin box (slG (.o (.i .h)) 3 (a :: (s ++ [(ls.getD j default)]))) .ns)) .e)) : T C) _
          rw [slG_snoc, blG_snoc]
          (repeat' first | exact Rel.e | refine Rel.some ?_ ?_ ?_ | refine Rel.none ?_ ?_ | refine Rel.ee ?_ ?_)
          all_goals first
            | exact RO'.of (show _ < 7 by simp [Pos.nat]) bk6C_sh
            | exact RO'.of (show _ < 7 by simp [Pos.nat]) zr5C_sh
            | exact RO'.of (show _ < 7 by simp [Pos.nat]) (ou5C_sh (.pu trivial) (.pu trivial))
            | exact RO'.of (show _ < 7 by simp [Pos.nat]) (ou5C_sh (.ksl (show _ < 7 by simp [Pos.nat])) (.pu trivial))
            | (refine RO'.of (show _ < 7 by simp [Pos.nat]) (ShC.grown (by omega) (PuL_iff.2 fun d hd => ?_)); rcases List.mem_append.1 hd with hd | hd <;> first | exact PuL_iff.1 (rowsF_pu lnDp _) d hd | exact PuL_iff.1 (lnDp _) d hd)
  · have he := hend (by omega)
    rw [← he] at hrest ⊢
    repeat' first | ((first | with_reducible (first | apply Qt | apply Qu) | refine Qa rfl ?_ | refine Qk rfl ?_ | refine Qb ?_ | refine Qc ?_ | refine Qi ?_ | refine Qj ?_) <;> conv => whnf)
    refine ⟨rfl, rfl, (show 3 ≤ (nxG (.o (.o .h)) (.i (.i .h)) A).nat by cases A <;> simp [nxG, Pos.nat]), RnF.turn (z' := woZ n coin box ls cs S A) (B := fun id => id.nat < 4) ?_ (fun id (h : id.nat < 3) => show id.nat < 4 by omega) (fun id h => h) (show 3 ≤ 4 by omega) hrest⟩
    refine ShrB.of ?_ ?_ rfl rfl
    · show Rel _ _ ((.n (.n .e (some (setD S)) (.n .e (some (.pt (.i .h) 0 0)) .e)) none (.n (.n .e (some (.pt (.o .h) 0 0)) .e) (some (.pt .h 0 0)) .e)) : T D) _
      (repeat' first | exact Rel.e | refine Rel.some ?_ ?_ ?_ | refine Rel.none ?_ ?_ | refine Rel.ee ?_ ?_)
      all_goals show Fz _ _ _ _
      all_goals first | exact .pu trivial | exact .pu hsd | exact .kpt (show _ < 4 by simp [Pos.nat])
    · show Rel _ _ ((.n (.n .e (some (zr5C)) .e) (some (bk6C n coin box ls cs)) (.n .e (some (ou5C n coin box (.lst 3 (rows lnD A)) .ns)) .e)) : T C) _
      (repeat' first | exact Rel.e | refine Rel.some ?_ ?_ ?_ | refine Rel.none ?_ ?_ | refine Rel.ee ?_ ?_)
      all_goals first
        | exact ⟨show _ < 4 by simp [Pos.nat], bk6C_sh⟩
        | exact ⟨show _ < 4 by simp [Pos.nat], zr5C_sh⟩
        | exact ⟨show _ < 4 by simp [Pos.nat], ou5C_sh (Fz.G A (show ¬ 6 < 4 by omega) (fun c h => h) lnD3 lnDp) (.pu trivial)⟩
end Go.Ev
namespace Go.Ev
set_option maxRecDepth 100000
def befR : List Int → List Int → Bool
  | [], [] => false
  | [], _ :: _ => true
  | _ :: _, [] => false
  | a :: A, b :: B => if a = b then befR A B else decide (a < b)
def shoR (A B : List Int) : Bool := decide (A.length < B.length) || (decide (A.length = B.length) && befR A B)
theorem befR_trans : ∀ {A B C : List Int}, befR A B = true → befR B C = true → befR A C = true
  | [], [], _, h, _ => by cases h
  | [], b :: B, [], _, h => by cases h
  | [], b :: B, c :: C, _, _ => rfl
  | a :: A, [], _, h, _ => by cases h
  | a :: A, b :: B, [], _, h => by cases h
  | a :: A, b :: B, c :: C, h1, h2 => by
    unfold befR at h1 h2 ⊢
    by_cases e1 : a = b
    · rw [if_pos e1] at h1
      by_cases e2 : b = c
      · rw [if_pos e2] at h2
        rw [if_pos (e1.trans e2)]
        exact befR_trans h1 h2
      · rw [if_neg e2, decide_eq_true_iff] at h2
        rw [if_neg (by omega), decide_eq_true_iff]
        omega
    · rw [if_neg e1, decide_eq_true_iff] at h1
      by_cases e2 : b = c
      · rw [if_neg (by omega), decide_eq_true_iff]
        omega
      · rw [if_neg e2, decide_eq_true_iff] at h2
        rw [if_neg (by omega), decide_eq_true_iff]
        omega
theorem befR_irr : ∀ A : List Int, befR A A = false
  | [] => rfl
  | a :: A => by
    unfold befR
    rw [if_pos rfl]
    exact befR_irr A
theorem shoR_irr (A : List Int) : shoR A A = false := by
  unfold shoR
  rw [befR_irr, decide_eq_false (Nat.lt_irrefl _), Bool.and_false]
  rfl
theorem shoR_trans {A B C : List Int} (h1 : shoR A B = true) (h2 : shoR B C = true) : shoR A C = true := by
  unfold shoR at *
  rw [Bool.or_eq_true, Bool.and_eq_true, decide_eq_true_iff, decide_eq_true_iff] at *
  rcases h1 with h1 | ⟨h1, k1⟩
  · rcases h2 with h2 | ⟨h2, k2⟩
    · exact .inl (by omega)
    · exact .inl (by omega)
  · rcases h2 with h2 | ⟨h2, k2⟩
    · exact .inl (by omega)
    · exact .inr ⟨by omega, befR_trans k1 k2⟩
def bitJ (b j : Nat) : List Int := ((List.range j).filter fun p => b.testBit p).map fun p : Nat => (p : Int)
def bitL (b : Nat) : List Int := bitJ b 8
def revB (e c : Nat) : Nat := (List.range e).foldl (fun w i => if c.testBit (e - 1 - i) then w + 2 ^ i else w) 0
def fndD (Q : Nat → Bool) : Nat → Option Nat
  | 0 => none
  | c + 1 => if Q c = true then some c else fndD Q c
def smQ (P : Nat → Bool) (m : Nat) (c : Nat) : Bool := decide (cntN c = m) && P c
def smA (e : Nat) (P : Nat → Bool) : Option Nat := (List.range (e + 1)).findSome? fun m => fndD (smQ P m) (2 ^ e)
theorem fndD_none {Q : Nat → Bool} : ∀ {n : Nat}, fndD Q n = none → ∀ c, c < n → Q c = false
  | 0, _, c, h => absurd h (Nat.not_lt_zero _)
  | n + 1, h, c, hc => by
    unfold fndD at h
    split at h
    · cases h
    · rename_i hq
      rcases Nat.lt_or_ge c n with h1 | h1
      · exact fndD_none h c h1
      · have : c = n := by omega
        subst this
        simpa using hq
theorem fndD_some {Q : Nat → Bool} : ∀ {n : Nat} {c : Nat}, fndD Q n = some c → Q c = true ∧ c < n ∧ ∀ d, c < d → d < n → Q d = false
  | 0, c, h => by cases h
  | n + 1, c, h => by
    unfold fndD at h
    split at h
    · cases h
      rename_i hq
      exact ⟨hq, by omega, fun d h1 h2 => by omega⟩
    · rename_i hq
      obtain ⟨h1, h2, h3⟩ := fndD_some h
      refine ⟨h1, by omega, fun d k1 k2 => ?_⟩
      rcases Nat.lt_or_ge d n with h4 | h4
      · exact h3 d k1 h4
      · have : d = n := by omega
        subst this
        simpa using hq
theorem smA_some {e : Nat} {P : Nat → Bool} {c : Nat} (h : smA e P = some c) : P c = true ∧ c < 2 ^ e ∧ ∀ d, d < 2 ^ e → P d = true → cntN d ≤ e → cntN c < cntN d ∨ (cntN c = cntN d ∧ d ≤ c) := by
  have key : ∀ n, (List.range n).findSome? (fun m => fndD (smQ P m) (2 ^ e)) = some c → P c = true ∧ c < 2 ^ e ∧ ∀ d, d < 2 ^ e → P d = true → cntN d < n → cntN c < cntN d ∨ (cntN c = cntN d ∧ d ≤ c) := fun n => by
    induction n with
    | zero => intro h; cases h
    | succ n ih =>
      intro h
      rw [List.range_succ, List.findSome?_append] at h
      cases h0 : (List.range n).findSome? (fun m => fndD (smQ P m) (2 ^ e)) with
      | some c0 =>
        rw [h0] at h
        have : c0 = c := by simpa using h
        subst this
        obtain ⟨h1, h2, h3⟩ := ih h0
        refine ⟨h1, h2, fun d k1 k2 k3 => ?_⟩
        rcases Nat.lt_or_ge (cntN d) n with h4 | h4
        · exact h3 d k1 k2 h4
        · have hcn : cntN c0 < n := by
            obtain ⟨m, hm, hf⟩ := List.exists_of_findSome?_eq_some h0
            have := (fndD_some hf).1
            unfold smQ at this
            rw [Bool.and_eq_true, decide_eq_true_iff] at this
            have := List.mem_range.1 hm
            omega
          exact .inl (by omega)
      | none =>
        rw [h0] at h
        have h : fndD (smQ P n) (2 ^ e) = some c := by simpa using h
        obtain ⟨h1, h2, h3⟩ := fndD_some h
        unfold smQ at h1
        rw [Bool.and_eq_true, decide_eq_true_iff] at h1
        refine ⟨h1.2, h2, fun d k1 k2 k3 => ?_⟩
        rcases Nat.lt_or_ge (cntN d) n with h4 | h4
        · have h5 := List.findSome?_eq_none_iff.1 h0 (cntN d) (List.mem_range.2 h4)
          have h6 := fndD_none h5 d k1
          unfold smQ at h6
          rw [k2] at h6
          simp at h6
        · have h5 : cntN d = n := by omega
          refine .inr ⟨by omega, ?_⟩
          rcases Nat.lt_or_ge c d with h6 | h6
          · have := h3 d h6 k1
            unfold smQ at this
            rw [k2, h5] at this
            simp at this
          · exact h6
  obtain ⟨h1, h2, h3⟩ := key (e + 1) h
  exact ⟨h1, h2, fun d k1 k2 k3 => h3 d k1 k2 (by omega)⟩
theorem smA_none {e : Nat} {P : Nat → Bool} (h : smA e P = none) : ∀ d, d < 2 ^ e → cntN d ≤ e → P d = false := fun d hd hc => by
  have h5 := List.findSome?_eq_none_iff.1 h (cntN d) (List.mem_range.2 (by omega))
  have h6 := fndD_none h5 d hd
  unfold smQ at h6
  simpa using h6
def revOk (e c : Nat) : Bool := decide (revB e c < 2 ^ e) && (decide (revB e (revB e c) = c) && (decide (cntN c ≤ e) && (decide (bitL (revB e c) = numL c e) && (decide ((numL c e).length = cntN c) && (List.range e).all fun i => (revB e c).testBit i == c.testBit (e - 1 - i)))))
theorem rev_all : ∀ e : _root_.Fin 9, (List.range (2 ^ e.1)).all (revOk e.1) = true := by decide +kernel
end Go.Ev
namespace Go.Ev
open Go.Proofs
set_option maxRecDepth 100000
def keepL (q : Nat → Bool) (ls : List Ln) : List Ln := ((List.range ls.length).filter fun i => !q i).map fun i => ls.getD i default
def keepC (q : Nat → Bool) (c : Ct) : Ct := ⟨(((List.range c.a.toNat).filter fun i => !q i).length : Int), c.lo, c.hi⟩
def keepB (q : Nat → Bool) (B : Bk) : Bk := ⟨B.n, B.coin, B.box, keepL q B.ls, B.cs.map (keepC q)⟩
theorem filter_split (q : Nat → Bool) : ∀ k : Nat, ((List.range k).filter q).length + ((List.range k).filter fun i => !q i).length = k
  | 0 => rfl
  | k + 1 => by
    have := filter_split q k
    rw [List.range_succ, List.filter_append, List.filter_append, List.length_append, List.length_append]
    cases h : q k <;> simp [h] <;> omega
theorem filter_below (q : Nat → Bool) {k e : Nat} (h : k ≤ e) : ((List.range e).filter fun i => q i && decide (i < k)).length = ((List.range k).filter q).length := by
  obtain ⟨d, rfl⟩ : ∃ d, e = k + d := ⟨e - k, by omega⟩
  rw [List.range_add, List.filter_append, List.length_append]
  have h1 : (List.range k).filter (fun i => q i && decide (i < k)) = (List.range k).filter q := by
    apply List.filter_congr
    intro i hi
    rw [decide_eq_true (List.mem_range.1 hi), Bool.and_true]
  have h2 : ((List.range d).map (k + ·)).filter (fun i => q i && decide (i < k)) = [] := by
    rw [List.filter_eq_nil_iff]
    intro i hi
    obtain ⟨j, _, rfl⟩ := List.mem_map.1 hi
    simp
  rw [h1, h2, List.length_nil, Nat.add_zero]
theorem filter_more (q : Nat → Bool) {k e : Nat} (h : k ≤ e) : ((List.range k).filter q).length ≤ ((List.range e).filter q).length := by
  obtain ⟨d, rfl⟩ : ∃ d, e = k + d := ⟨e - k, by omega⟩
  rw [List.range_add, List.filter_append, List.length_append]
  omega
theorem keepL_len (q : Nat → Bool) (ls : List Ln) : (keepL q ls).length = ((List.range ls.length).filter fun i => !q i).length := List.length_map _
theorem keepL_le (q : Nat → Bool) (ls : List Ln) : (keepL q ls).length ≤ ls.length := by
  rw [keepL_len]
  have := List.length_filter_le (fun i => !q i) (List.range ls.length)
  rw [List.length_range] at this
  exact this
theorem keepL_sub (q : Nat → Bool) (ls : List Ln) : (keepL q ls).Sublist ls := by
  have h : (List.range ls.length).map (fun i => ls.getD i default) = ls := by
    apply List.ext_getElem (by simp)
    intro i h1 h2
    simp [List.getD, h2]
  have := (List.filter_sublist (p := fun i => !q i) (l := List.range ls.length)).map fun i => ls.getD i default
  rw [h] at this
  exact this
theorem many_sub {n : Int} (h1 : 1 ≤ n) (h4 : n ≤ 4) {A C : List Ln} (h : A.Sublist C) : ∀ p q : Int, 1 ≤ p → p ≤ q → p ≤ 5000 → A.foldl (fun m l => min 5000 (m * rdN n l)) p ≤ C.foldl (fun m l => min 5000 (m * rdN n l)) q := by
  induction h with
  | slnil => exact fun p q _ h _ => h
  | cons a _ ih =>
    intro p q hp hpq h5
    obtain ⟨b1, _⟩ := rdN_bd h1 h4 a
    have k1 : q * 1 ≤ q * rdN n a := Int.mul_le_mul_of_nonneg_left b1 (by omega)
    exact ih p _ hp (show p ≤ min 5000 (q * rdN n a) by omega) h5
  | cons_cons a _ ih =>
    intro p q hp hpq h5
    obtain ⟨b1, _⟩ := rdN_bd h1 h4 a
    have k1 : p * 1 ≤ p * rdN n a := Int.mul_le_mul_of_nonneg_left b1 (by omega)
    have k2 := Int.mul_le_mul_of_nonneg_right hpq (show 0 ≤ rdN n a by omega)
    exact ih _ _ (show 1 ≤ min 5000 (p * rdN n a) by omega) (show min 5000 (p * rdN n a) ≤ min 5000 (q * rdN n a) by omega) (show min 5000 (p * rdN n a) ≤ 5000 by omega)
theorem VB.keep {B : Bk} (V : VB B) (q : Nat → Bool) : VB (keepB q B) := by
  refine ⟨V.n, V.coin, V.box, Nat.le_trans (keepL_le q B.ls) V.len, ?_, ?_, ?_, ?_⟩
  · show (B.cs.map (keepC q)).length ≤ 4
    rw [List.length_map]; exact V.clen
  · show (keepL q B.ls).all (lnOk B.n) = true
    rw [List.all_eq_true]
    exact fun x hx => List.all_eq_true.1 V.ls x ((keepL_sub q B.ls).subset hx)
  · intro c hc
    obtain ⟨d, hd, rfl⟩ := List.mem_map.1 hc
    have := V.cs d hd
    refine ⟨Int.natCast_nonneg _, ?_⟩
    show (((List.range d.a.toNat).filter fun i => !q i).length : Int) ≤ ((keepL q B.ls).length : Int)
    rw [keepL_len]
    have := filter_more (fun i => !q i) (show d.a.toNat ≤ B.ls.length by omega)
    omega
  · have hs := many_sub V.n.1 V.n.2 (keepL_sub q B.ls) 1 1 (by omega) (by omega) (by omega)
    have hm := V.many
    exact Int.le_trans hs hm
theorem keep_congr {B : Bk} (hc : ∀ c ∈ B.cs, 0 ≤ c.a ∧ c.a ≤ B.ls.length) {q q' : Nat → Bool} (h : ∀ i, i < B.ls.length → q i = q' i) : keepB q B = keepB q' B := by
  have e : ∀ k, k ≤ B.ls.length → (List.range k).filter (fun i => !q i) = (List.range k).filter fun i => !q' i := fun k hk => List.filter_congr fun i hi => by
    rw [h i (by have := List.mem_range.1 hi; omega)]
  have e1 : keepL q B.ls = keepL q' B.ls := by unfold keepL; rw [e _ (Nat.le_refl _)]
  have e2 : B.cs.map (keepC q) = B.cs.map (keepC q') := List.map_congr_left fun c hcm => by
    unfold keepC
    rw [e _ (by have := hc c hcm; omega)]
  unfold keepB
  rw [e1, e2]
def qP (e c i : Nat) : Bool := c.testBit (e - 1 - i)
theorem mem_numL {e c i : Nat} (hi : i < e) : (i : Int) ∈ numL c e ↔ qP e c i = true := by
  unfold numL numJ
  rw [List.mem_map]
  constructor
  · rintro ⟨k, hk, hke⟩
    have : k = i := by omega
    subst this
    exact (List.mem_filter.1 hk).2
  · exact fun h => ⟨i, List.mem_filter.2 ⟨List.mem_range.2 hi, h⟩, rfl⟩
theorem con_numL {e c i : Nat} (hi : i < e) : conR (numL c e) (i : Int) = qP e c i := by
  rw [Bool.eq_iff_iff, conR_iff]
  exact mem_numL hi
theorem wo_keep (ls : List Ln) (c : Nat) : woF (numL c ls.length) ls = keepL (qP ls.length c) ls := by
  unfold woF woL keepL
  rw [List.filter_congr fun i hi => by rw [con_numL (List.mem_range.1 hi)]]
theorem ct_keep {e c : Nat} {k : Ct} (h : 0 ≤ k.a ∧ k.a ≤ e) : ctW (numL c e) k = keepC (qP e c) k := by
  have h1 : ltN (numL c e) k.a = ((List.range k.a.toNat).filter (qP e c)).length := by
    unfold ltN numL numJ
    rw [List.filter_map, List.length_map, List.filter_filter]
    rw [← filter_below (qP e c) (show k.a.toNat ≤ e by omega)]
    congr 1
    apply List.filter_congr
    intro i _
    show (decide ((i : Int) < k.a) && c.testBit (e - 1 - i)) = (c.testBit (e - 1 - i) && decide (i < k.a.toNat))
    rw [Bool.and_comm, decide_eq_decide.2 (show (i : Int) < k.a ↔ i < k.a.toNat by omega)]
  have h2 := filter_split (qP e c) k.a.toNat
  unfold ctW keepC
  rw [h1]
  congr 1
  omega
theorem numL_pw (c e : Nat) : (numL c e).Pairwise (· < ·) := by
  unfold numL numJ
  rw [List.pairwise_map]
  refine List.Pairwise.imp (fun {a b} h => ?_) (List.Pairwise.filter _ List.pairwise_lt_range)
  omega
theorem numL_len (c e : Nat) : (numL c e).length ≤ e := numJ_len c e e
end Go.Ev
namespace Go.Ev
open Go.Proofs
set_option maxRecDepth 100000
theorem RndOk.ofW {P : Program} {id : Pos} {ds : List D} {ob ob' : T C} {nx nx' : Pos} {v : D} (h : WRnd P id ds (some .h) ⟨.e, ob, nx, none⟩ (fun x => x = ⟨.n .e (some v) .e, ob', nx', none⟩)) : RndOk P id ds ob nx none v ob' nx' none := by
  obtain ⟨v1, ob1, nx1, lg1, Z, h1, h2, h3⟩ := h.ok
  subst h3
  have h2 : T.setK .h v1 (T.e : T D) (fun sl => some (⟨sl, ob1, nx1, lg1⟩ : X)) = some ⟨.n .e (some v) .e, ob', nx', none⟩ := h2
  rw [T.setK_eq] at h2
  obtain ⟨e1, e2, e3, e4⟩ := X.mk.inj (Option.some.inj h2)
  have e1 := congrArg (fun t => T.get t .h) e1
  have e1 : (T.set .h v1 (T.e : T D)).get .h = some v := e1
  rw [T.get_set_same] at e1
  have e1 := Option.some.inj e1
  subst e1 e2 e3 e4
  exact h1
def lvP (B : Bk) (c : Nat) : Bool := hasB (keepB (qP B.ls.length c) B)
def lvS (e many : Nat) : T D := (.n (.n (.n .e (some (.pt (.i .h) 0 0)) (.n (.n .e (some (.fn p141 [] [.pl [.i .i64 (e : Int)] 0, .pl [.i .i64 (many : Int)] 0])) .e) (some (.i .i64 (many : Int))) .e)) (some (.pt .h 0 0)) .e) none (.n .e (some (.pt (.o .h) 0 0)) (.n (.n .e (some (.i .i64 ((e : Int) + 1))) .e) none .e)))
def lvD (e : Nat) : Option Nat → D
  | none => .ns
  | some c => setD (numL c e)
noncomputable def lvR (e many : Nat) : Option Nat → C
  | none => .lp (lvS e many) [p21] 30 (rfA (bodyC Try.f94) 0) (rfB (bodyC Try.f94) 0) .ready none
  | some _ => .lp (lvS e many) [p21] 30 (rfA (bodyC Try.f94) 0) (rfB (bodyC Try.f94) 0) .done (some (.exit 0))
def tr4 (x1 x2 x3 x4 : C) : T C := .n (.n (.n .e (some x4) .e) (some x2) .e) (some x1) (.n .e (some x3) .e)
noncomputable def lvO (n coin box : Int) (ls : List Ln) (cs : List Ct) (many : Nat) (o : Option Nat) : T C := tr4 (bk6C n coin box ls cs) (.cells false [.o (lvD ls.length o) 0] 1) (.cells false [.o (.b o.isSome) 0] 1) (lvR ls.length many o)
theorem lvS_kp (e many n : Nat) (hn : 5 ≤ n) : ∀ s d, (lvS e many).get s = some d → Kp n d := by
  show TAll (fun _ d => Kp n d) (lvS e many)
  unfold lvS
  repeat' first | exact TAll.e | refine TAll.some ?_ ?_ ?_ | refine TAll.none ?_ ?_
  all_goals simp [Kp, KpL, Pu, PuL, Pos.nat]
  all_goals omega
theorem lvD_pu (e : Nat) (o : Option Nat) : Pu (lvD e o) := by
  cases o with
  | none => trivial
  | some c => exact setD_pu _
theorem bk6C_kp {n : Nat} {a b c : Int} {ls : List Ln} {cs : List Ct} : KpC n (bk6C a b c ls cs) := fun x hx => by
  simp only [List.mem_cons, List.not_mem_nil, or_false] at hx
  rcases hx with rfl | rfl | rfl | rfl | rfl | rfl
  all_goals first | exact Kp.pu _ (pu_ln _) | exact Kp.pu _ (pu_ct _) | exact Kp.pu _ trivial
theorem lvone_kp {n : Nat} {d : D} (h : Pu d) : KpC n (.cells false [.o d 0] 1) := fun x hx => by
  rw [List.mem_singleton.1 hx]; exact Kp.pu _ h
theorem lvR_kp (e many n : Nat) (hn : 5 ≤ n) (o : Option Nat) : KpC n (lvR e many o) := by
  cases o with
  | none => exact lvS_kp e many n hn
  | some S => exact lvS_kp e many n hn
theorem kpo4 {n : Nat} {x1 x2 x3 x4 : C} (hn : 5 ≤ n) (h1 : KpC n x1) (h2 : KpC n x2) (h3 : KpC n x3) (h4 : KpC n x4) : KpO n (tr4 x1 x2 x3 x4) := by
  show TAll (fun id c => id.nat < n ∧ KpC n c) _
  unfold tr4
  refine TAll.some (TAll.some (TAll.some TAll.e ⟨?_, h4⟩ TAll.e) ⟨?_, h2⟩ TAll.e) ⟨?_, h1⟩ (TAll.some TAll.e ⟨?_, h3⟩ TAll.e)
  all_goals simp [Pos.nat]
  all_goals omega
theorem lvO_kp (n coin box : Int) (ls : List Ln) (cs : List Ct) (many : Nat) (o : Option Nat) : KpO (Pos.i (.o .h)).nat (lvO n coin box ls cs many o) :=
  kpo4 (Nat.le_refl _) bk6C_kp (lvone_kp (lvD_pu _ _)) (lvone_kp trivial) (lvR_kp _ _ _ (Nat.le_refl _) _)
set_option maxHeartbeats 1000000 in
theorem lv_rnd {n coin box : Int} {ls : List Ln} {cs : List Ct} (V : VB (B5 n coin box ls cs)) (many c : Nat) : RndOk Try.prog (.o (.o .h)) [setD (numL c ls.length)] (lvO n coin box ls cs many none) (.i (.o .h)) none (.b (!lvP (B5 n coin box ls cs) c)) (lvO n coin box ls cs many (bif lvP (B5 n coin box ls cs) c then some c else none)) (.i (.o .h)) none := by
  have h8 : ls.length ≤ 8 := V.len
  have h4 : cs.length ≤ 4 := V.clen
  have hca : ∀ k ∈ cs, 0 ≤ k.a ∧ k.a ≤ (ls.length : Int) := V.cs
  have cw := j_without n coin box ls cs (numL c ls.length) (by have := numL_len c ls.length; omega) (numL_pw _ _) (by omega) (by omega) (fun k hk => by have := hca k hk; omega)
  rw [wo_keep, List.map_congr_left (fun k hk => ct_keep (c := c) (hca k hk))] at cw
  obtain ⟨M', hM', Hh⟩ := j_hasTruth (V.keep (qP ls.length c)) [] (MOk.nil _)
  have hp : lvP (B5 n coin box ls cs) c = hasB (keepB (qP ls.length c) (B5 n coin box ls cs)) := rfl
  have hB : keepB (qP ls.length c) (B5 n coin box ls cs) = B5 n coin box (keepL (qP ls.length c) ls) (cs.map (keepC (qP ls.length c))) := rfl
  rw [hp]
  rw [hB] at Hh ⊢
  generalize hb : hasB (B5 n coin box (keepL (qP ls.length c) ls) (cs.map (keepC (qP ls.length c)))) = bb at Hh ⊢
  have hD : lvD ls.length (some c) = setD (numL c ls.length) := rfl
  generalize hS : numL c ls.length = S at cw hD ⊢
  have hres : ∀ b : Bool, b = bb → ∀ (ob : T C), T.le (lvO n coin box ls cs many (bif b then some c else none)) ob → T.le (lvO n coin box ls cs many (bif bb then some c else none)) ob := fun b h ob k => by rw [← h]; exact k
  have e1 : ∀ x, keepL (qP ls.length c) ls = x → True := fun _ _ => trivial
  generalize keepL (qP ls.length c) ls = ls' at *
  generalize cs.map (keepC (qP ls.length c)) = cs' at *
  have K := lvO_kp n coin box ls cs many (bif bb then some c else none)
  rcases S with _ | ⟨a, l⟩
  all_goals
    refine RndOk.ofW ?_
    refine WRnd.run rfl rc94a0_ok rc94b0_ok ⟨_, rfl, ?_⟩
    unfold lvO tr4
    conv => whnf
    repeat' first | ((first | with_reducible (first | apply Qt | apply Qu) | refine Qa rfl ?_ | refine Qk rfl ?_ | refine Qb ?_ | refine Qc ?_ | refine Qi ?_ | refine Qj ?_) <;> conv => whnf)
    refine ⟨rfl, rfl, _, _, _, _, _, _, rfl, ?_⟩
    conv => whnf
    repeat' first | ((first | with_reducible (first | apply Qt | apply Qu) | refine Qa rfl ?_ | refine Qk rfl ?_ | refine Qb ?_ | refine Qc ?_ | refine Qi ?_ | refine Qj ?_ | refine Qf (cw) ?_) <;> conv => whnf)
    refine WCall.of (begin_at (B := B5 n coin box ls' cs')) ?_; conv => whnf
    repeat' first | ((first | with_reducible (first | apply Qt | apply Qu) | refine Qa rfl ?_ | refine Qk rfl ?_ | refine Qb ?_ | refine Qc ?_ | refine Qi ?_ | refine Qj ?_) <;> conv => whnf)
    refine WCall.of (CallOk.mapAt Hh trivial (id := .i (.o .h)) rfl (show 5 < 6 from by decide) (mp_at trivial)) ?_; conv => whnf
    repeat' first | ((first | with_reducible (first | apply Qt | apply Qu) | refine Qa rfl ?_ | refine Qk rfl ?_ | refine Qb ?_ | refine Qc ?_ | refine Qi ?_ | refine Qj ?_) <;> conv => whnf)
    cases bb
    · refine WB.ff ?_; conv => whnf
      repeat' first | ((first | with_reducible (first | apply Qt | apply Qu) | refine Qa rfl ?_ | refine Qk rfl ?_ | refine Qb ?_ | refine Qc ?_ | refine Qi ?_ | refine Qj ?_) <;> conv => whnf)
      refine ⟨_, _, _, _, _, _, _, _, .i (.o .h), rfl, rfl, ?_, Nat.le_refl _, rfl⟩
      refine Shr.kp ?_ K
      show T.le (tr4 _ _ _ _) _
      unfold tr4
      (repeat' first | exact T.le_e _ | refine T.le_some ?_ rfl ?_ | refine T.le_none ?_ ?_)
    · refine WB.tt ?_; conv => whnf
      repeat' first | ((first | with_reducible (first | apply Qt | apply Qu) | refine Qa rfl ?_ | refine Qk rfl ?_ | refine Qb ?_ | refine Qc ?_ | refine Qi ?_ | refine Qj ?_) <;> conv => whnf)
      refine ⟨_, _, _, _, _, _, _, _, .i (.o .h), rfl, rfl, ?_, Nat.le_refl _, rfl⟩
      refine Shr.kp ?_ K
      show T.le (tr4 (bk6C n coin box ls cs) (.cells false [.o (lvD ls.length (some c)) 0] 1) _ _) _
      rw [hD]
      unfold tr4
      (repeat' first | exact T.le_e _ | refine T.le_some ?_ rfl ?_ | refine T.le_none ?_ ?_)
end Go.Ev