import Derived.Test.YtpemagogcagipaaEvMI
set_option linter.all false
namespace Go.Ev
open Go.Proofs
set_option maxRecDepth 100000
def bdR (A : List Int) : Int × Int := (minL (A.getD 0 0) A, maxN A (A.length - 1))
def rc74L : RC := (.seq (.reg [(.u (.mv p27 (.t p6))), (.u (.ixs p28 1 (.t p27) (.k (.i .i64 0)))), (.u (.ld1 p29 (.t p28))), (.u (.mv p30 (.t p6))), (.u (.cf (some p31) p102 [(.t p29), (.t p30)])), (.u (.mv p32 (.t p6))), (.u (.cf (some p33) p95 [(.t p32)])), (.u (.bld p34 [(.i .i64 0), (.i .i64 0)] [(0, (1, (.t p31))), (1, (1, (.t p33)))])), (.u (.st (.t p5) (.t p34) 2))]) .ret)
def b2Z (A : List Int) : X := ⟨(.n (.n .e none (.n .e (some (.lst 1 (ints A))) .e)) none (.n (.n .e (some (.pt (.i .h) 0 0)) .e) none .e)), (.n .e none (.n .e (some (.cells false [.o (.i .i64 0) 0, .o (.i .i64 0) 0] 1)) .e)), .o (.o .h), none⟩
theorem c_bounds2 (A : List Int) (h0 : 0 < A.length) (hl : A.length ≤ 1000) : Rn Try.prog 34 rc74L (b2Z A) (Fin rs74 (.ag [.i .i64 (bdR A).1, .i .i64 (bdR A).2])) := by
  have e1 := ints_length A
  have cm := c_minimum (A.getD 0 0) A hl
  have cM := c_Max A h0 hl
  conv => whnf
  obtain ⟨a0, r, rfl⟩ := pre0 h0
  repeat' first | ((first | (with_reducible first | apply WB.tt | apply WB.ff) | apply Rn.seq | apply Rn.reg | apply Rn.drw | apply Rn.blk | apply Rn.skip | apply Rn.ret | apply Rn.exit | apply Rn.cond rfl | refine i64_ (by omega) (by omega) ?_ | refine ne0_ (by omega) ?_ | refine WIx.intsN (by omega) ?_ | refine WIx.rowsN (by omega) ?_ | refine WCall.pure (cm) ?_ | refine WCall.pure (cM) ?_) <;> conv => whnf)
  refine ⟨.inr rfl, _, rfl, ?_⟩
  exact .ag (.cons (.pu trivial) (.cons (.pu trivial) .nil))
end Go.Ev

namespace Go.Ev
open Go.Proofs
set_option maxRecDepth 100000
def quC (f : Pos) (about : Int) : C := .cells false [.o (.fn f [] []) 0, .o (.i .i64 about) 0] 1
def rg0C : C := .cells false [.o (.i .i64 0) 0, .o (.i .i64 0) 0] 1
def bdS (last : Int) (hs : List Rg) (step : Int) (lv : List Int) (ms : List Mk) (L : List (Nat → Int)) (A : List Int) (f : Pos) (about : Int) : Nat → X
  | 0 => ⟨(.n (.n (.n .e (some (.pt (.o .h) 0 0)) (.n .e (some (.i .i64 0)) .e)) none (.n (.n .e (some (.lst 10 (rows seaD L))) .e) (some (.ns)) .e)) none (.n (.n .e (some (.pt (.i .h) 0 0)) .e) (some (.pt .h 0 0)) (.n (.n .e (some (.i .i64 (L.length : Int))) .e) none .e))), (.n (.n .e (some (quC f about)) .e) (some (wkC last hs step lv ms (.lst 10 (rows seaD L)))) (.n .e (some (rg0C)) .e)), .o (.o .h), none⟩
  | j + 1 => ⟨(.n (.n (.n .e (some (.pt (.o .h) 0 0)) (.n .e (some (.i .i64 ((j + 1 : Nat) : Int))) .e)) none (.n (.n .e (some (.lst 10 (rows seaD L))) .e) (some (.sl (.o (.i .h)) 0 (j + 1) j 1)) .e)) none (.n (.n .e (some (.pt (.i .h) 0 0)) .e) (some (.pt .h 0 0)) (.n (.n .e (some (.i .i64 (L.length : Int))) .e) none .e))), (.n (.n .e (some (quC f about)) (.n .e (some (.cells false ((nD (A.take (j + 1))).map fun d => Cell.o d j) (j + 1))) .e)) (some (wkC last hs step lv ms (.lst 10 (rows seaD L)))) (.n .e (some (rg0C)) .e)), .i (.i .h), none⟩
theorem nD_snoc (A : List Int) (n : Int) : nD (A ++ [n]) = nD A ++ [.i .i64 n] := by simp [nD]
theorem quC_sh {f : Pos} {about : Int} {B : Pos → Prop} {ob : T C} : ShC B ob (quC f about) (quC f about) := ShC.same (ShC.cn (.pu (show Pu (.fn f [] []) from ⟨trivial, trivial⟩)) (ShC.cn (.pu trivial) ShC.nl))
theorem rg0C_sh {B : Pos → Prop} {ob : T C} : ShC B ob rg0C rg0C := ShC.same (ShC.cn (.pu trivial) (ShC.cn (.pu trivial) ShC.nl))
theorem c_bounds (last : Int) (hs : List Rg) (step : Int) (lv : List Int) (ms : List Mk) (L : List (Nat → Int)) (h0 : 0 < L.length) (hl : L.length ≤ 1000) (f : Pos) (about : Int) (ans : (Nat → Int) → Int) (hf : ∀ c ∈ L, PureF Try.prog f.ix [.ag [.i .i64 last, .lst 2 (rows rgD hs), .i .i64 step, .lst 1 (ints lv), .lst 4 (rows mkD ms), .lst 10 (rows seaD L)], .ag (seaD c), .i .i64 about] (.i .i64 (ans c))) : PureF Try.prog p75.ix [.ag [.i .i64 last, .lst 2 (rows rgD hs), .i .i64 step, .lst 1 (ints lv), .lst 4 (rows mkD ms), .lst 10 (rows seaD L)], .ag [.fn f [] [], .i .i64 about]] (.ag [.i .i64 (bdR (L.map ans)).1, .i .i64 (bdR (L.map ans)).2]) := by
  have e1 := rows_length seaD L
  have hpt : Pu (.lst 10 (rows seaD L)) := pu_seas L
  have hA : (L.map ans).length = L.length := List.length_map _
  have hAt : ∀ j, j < L.length → (L.map ans).getD j 0 = ans (L.getD j default) := fun j h => by simp [List.getD, h]
  have hf2 : ∀ j, j < L.length → _ := fun j h => hf (L.getD j default) (getD_mem h)
  have hb2 := c_bounds2 (L.map ans) (by omega) (by omega)
  generalize L.map ans = A at *
  refine PureF.run fn74 (by simp) (by simp [PuL, PuE, Pu, pu_ints, pu_rg, pu_mk, pu_seas]) ?_; conv => whnf
  refine Rn.seq ?_; conv => whnf
  refine Rn.reg ?_; conv => whnf
  refine Rn.seqB ?_; conv => whnf
  repeat' first | ((first | (with_reducible first | apply WB.tt | apply WB.ff) | apply Rn.seq | apply Rn.reg | apply Rn.drw | apply Rn.blk | apply Rn.skip | apply Rn.ret | apply Rn.exit | apply Rn.cond rfl | refine i64_ (by omega) (by omega) ?_ | refine ne0_ (by omega) ?_ | refine WIx.intsN (by omega) ?_ | refine WIx.rowsN (by omega) ?_) <;> conv => whnf)
  refine Rn.loop (bdS last hs step lv ms L A f about) (fun j => j ≤ L.length) (fun j => L.length - j) 0 ?_ ?_ ?_
  · refine X.le.mk ?_ ?_ (Nat.le_refl _) rfl rfl
    · show T.le ((.n (.n (.n .e (some (.pt (.o .h) 0 0)) (.n .e (some (.i .i64 0)) .e)) none (.n (.n .e (some (.lst 10 (rows seaD L))) .e) (some (.ns)) .e)) none (.n (.n .e (some (.pt (.i .h) 0 0)) .e) (some (.pt .h 0 0)) (.n (.n .e (some (.i .i64 (L.length : Int))) .e) none .e))) : T D) _
      rw [← e1]
      (repeat' first | exact T.le_e _ | refine T.le_some ?_ rfl ?_ | refine T.le_none ?_ ?_)
    · show T.le ((.n (.n .e (some (quC f about)) .e) (some (wkC last hs step lv ms (.lst 10 (rows seaD L)))) (.n .e (some (rg0C)) .e)) : T C) _
      (repeat' first | exact T.le_e _ | refine T.le_some ?_ rfl ?_ | refine T.le_none ?_ ?_ | refine T.le_ee ?_ ?_)
  · exact Nat.zero_le _
  rintro (_ | j) hj
  · conv => whnf
    repeat' first | ((first | (with_reducible first | apply WB.tt | apply WB.ff) | apply Rn.seq | apply Rn.reg | apply Rn.drw | apply Rn.blk | apply Rn.skip | apply Rn.ret | apply Rn.exit | apply Rn.cond rfl | refine i64_ (by omega) (by omega) ?_ | refine ne0_ (by omega) ?_ | refine WIx.intsN (by omega) ?_ | refine WIx.rowsN (by omega) ?_) <;> conv => whnf)
    refine WB.dec (fun h => ?_) (fun h => ?_) <;> conv => whnf
    · have hlt : 0 < L.length := by omega
      have hat := hAt 0 hlt
      have cF := hf2 0 hlt
      repeat' first | ((first | (with_reducible first | apply WB.tt | apply WB.ff) | apply Rn.seq | apply Rn.reg | apply Rn.drw | apply Rn.blk | apply Rn.skip | apply Rn.ret | apply Rn.exit | apply Rn.cond rfl | refine i64_ (by omega) (by omega) ?_ | refine ne0_ (by omega) ?_ | refine WIx.intsN (by omega) ?_ | refine WIx.rowsN (by omega) ?_ | refine WCall.pure (cF) ?_) <;> conv => whnf)
      refine WSt.app_first (r := [_]) rfl (.inl rfl) rfl rfl rfl rfl ?_; conv => whnf
      repeat' first | ((first | (with_reducible first | apply WB.tt | apply WB.ff) | apply Rn.seq | apply Rn.reg | apply Rn.drw | apply Rn.blk | apply Rn.skip | apply Rn.ret | apply Rn.exit | apply Rn.cond rfl | refine i64_ (by omega) (by omega) ?_ | refine ne0_ (by omega) ?_ | refine WIx.intsN (by omega) ?_ | refine WIx.rowsN (by omega) ?_) <;> conv => whnf)
      refine Again.to 1 (by omega) (by omega) (Nat.le_of_ble_eq_true rfl) ?_
      have ht : nD (A.take 1) = [.i .i64 (A.getD 0 0)] := by rw [take_succ_getD (j := 0) (d := 0) (by omega)]; simp [nD]
      refine Shr.of ?_ ?_ rfl rfl
      · show Rel _ _ ((.n (.n (.n .e (some (.pt (.o .h) 0 0)) (.n .e (some (.i .i64 ((0 + 1 : Nat) : Int))) .e)) none (.n (.n .e (some (.lst 10 (rows seaD L))) .e) (some (.sl (.o (.i .h)) 0 (0 + 1) 0 1)) .e)) none (.n (.n .e (some (.pt (.i .h) 0 0)) .e) (some (.pt .h 0 0)) (.n (.n .e (some (.i .i64 (L.length : Int))) .e) none .e))) : T D) _
        (repeat' first | exact Rel.e | refine Rel.some ?_ ?_ ?_ | refine Rel.none ?_ ?_)
        all_goals show Fz _ _ _ _
        all_goals first | exact .pu trivial | exact .pu hpt | exact .kpt (show _ < 7 by simp [Pos.nat]) | exact .ksl (show _ < 7 by simp [Pos.nat])
      · show Rel _ _ ((.n (.n .e (some (quC f about)) (.n .e (some (.cells false ((nD (A.take 1)).map fun d => Cell.o d 0) 1)) .e)) (some (wkC last hs step lv ms (.lst 10 (rows seaD L)))) (.n .e (some (rg0C)) .e)) : T C) _
        rw [ht, hat]
        (repeat' first | exact Rel.e | refine Rel.some ?_ ?_ ?_ | refine Rel.none ?_ ?_)
        all_goals first
          | exact RO'.of (show _ < 7 by simp [Pos.nat]) (wkC_sh _ _ _ _ _ _ hpt)
          | exact RO'.of (show _ < 7 by simp [Pos.nat]) quC_sh
          | exact RO'.of (show _ < 7 by simp [Pos.nat]) rg0C_sh
          | exact RO'.of (show _ < 7 by simp [Pos.nat]) (ShC.same (ShC.cn (.pu trivial) ShC.nl))
    · omega
  · conv => whnf
    repeat' first | ((first | (with_reducible first | apply WB.tt | apply WB.ff) | apply Rn.seq | apply Rn.reg | apply Rn.drw | apply Rn.blk | apply Rn.skip | apply Rn.ret | apply Rn.exit | apply Rn.cond rfl | refine i64_ (by omega) (by omega) ?_ | refine ne0_ (by omega) ?_ | refine WIx.intsN (by omega) ?_ | refine WIx.rowsN (by omega) ?_) <;> conv => whnf)
    refine WB.dec (fun h => ?_) (fun h => ?_) <;> conv => whnf
    · have hlt : j + 1 < L.length := by omega
      have hat := hAt (j + 1) hlt
      have cF := hf2 (j + 1) hlt
      repeat' first | ((first | (with_reducible first | apply WB.tt | apply WB.ff) | apply Rn.seq | apply Rn.reg | apply Rn.drw | apply Rn.blk | apply Rn.skip | apply Rn.ret | apply Rn.exit | apply Rn.cond rfl | refine i64_ (by omega) (by omega) ?_ | refine ne0_ (by omega) ?_ | refine WIx.intsN (by omega) ?_ | refine WIx.rowsN (by omega) ?_ | refine WCall.pure (cF) ?_) <;> conv => whnf)
      refine WSt.app_one (ds := nD (A.take (j + 1))) (r := [_]) rfl rfl rfl rfl rfl rfl (by simp [nD]; omega) rfl rfl (by omega) rfl ?_; conv => whnf
      repeat' first | ((first | (with_reducible first | apply WB.tt | apply WB.ff) | apply Rn.seq | apply Rn.reg | apply Rn.drw | apply Rn.blk | apply Rn.skip | apply Rn.ret | apply Rn.exit | apply Rn.cond rfl | refine i64_ (by omega) (by omega) ?_ | refine ne0_ (by omega) ?_ | refine WIx.intsN (by omega) ?_ | refine WIx.rowsN (by omega) ?_) <;> conv => whnf)
      refine Again.to (j + 2) (by omega) (by omega) (Nat.le_of_ble_eq_true rfl) ?_
      have ht : nD (A.take (j + 1 + 1)) = nD (A.take (j + 1)) ++ [.i .i64 (A.getD (j + 1) 0)] := by rw [take_succ_getD (j := j + 1) (d := 0) (by omega), nD_snoc]
      refine Shr.of ?_ ?_ rfl rfl
      · show Rel _ _ ((.n (.n (.n .e (some (.pt (.o .h) 0 0)) (.n .e (some (.i .i64 ((j + 1 + 1 : Nat) : Int))) .e)) none (.n (.n .e (some (.lst 10 (rows seaD L))) .e) (some (.sl (.o (.i .h)) 0 (j + 1 + 1) (j + 1) 1)) .e)) none (.n (.n .e (some (.pt (.i .h) 0 0)) .e) (some (.pt .h 0 0)) (.n (.n .e (some (.i .i64 (L.length : Int))) .e) none .e))) : T D) _
        (repeat' first | exact Rel.e | refine Rel.some ?_ ?_ ?_ | refine Rel.none ?_ ?_)
        all_goals show Fz _ _ _ _
        all_goals first | exact .pu trivial | exact .pu hpt | exact .kpt (show _ < 7 by simp [Pos.nat]) | exact .ksl (show _ < 7 by simp [Pos.nat])
      · show Rel _ _ ((.n (.n .e (some (quC f about)) (.n .e (some (.cells false ((nD (A.take (j + 1 + 1))).map fun d => Cell.o d (j + 1)) (j + 1 + 1))) .e)) (some (wkC last hs step lv ms (.lst 10 (rows seaD L)))) (.n .e (some (rg0C)) .e)) : T C) _
        rw [ht, hat]
        (repeat' first | exact Rel.e | refine Rel.some ?_ ?_ ?_ | refine Rel.none ?_ ?_)
        all_goals first
          | exact RO'.of (show _ < 7 by simp [Pos.nat]) (wkC_sh _ _ _ _ _ _ hpt)
          | exact RO'.of (show _ < 7 by simp [Pos.nat]) quC_sh
          | exact RO'.of (show _ < 7 by simp [Pos.nat]) rg0C_sh
          | (refine RO'.of (show _ < 7 by simp [Pos.nat]) ?_
             exact ShC.grown (by omega) (PuL_iff.2 fun d hd => by
              rcases List.mem_append.1 hd with hd | hd
              · exact PuL_iff.1 (pu_nD _) d hd
              · simp at hd; subst hd; exact trivial))
    · repeat' first | ((first | (with_reducible first | apply WB.tt | apply WB.ff) | apply Rn.seq | apply Rn.reg | apply Rn.drw | apply Rn.blk | apply Rn.skip | apply Rn.ret | apply Rn.exit | apply Rn.cond rfl | refine i64_ (by omega) (by omega) ?_ | refine ne0_ (by omega) ?_ | refine WIx.intsN (by omega) ?_ | refine WIx.rowsN (by omega) ?_) <;> conv => whnf)
      have he : A.take (j + 1) = A := List.take_of_length_le (by omega)
      refine ⟨rfl, b2Z A, (fun id => id.nat < 4), ?_, (fun id (h : id.nat < 4) => h), (fun id h => h), Nat.le_refl _, hb2⟩
      refine ShrB.of ?_ ?_ rfl rfl
      · show Rel _ _ ((.n (.n .e none (.n .e (some (.lst 1 (ints A))) .e)) none (.n (.n .e (some (.pt (.i .h) 0 0)) .e) none .e)) : T D) _
        (repeat' first | exact Rel.e | refine Rel.some ?_ ?_ ?_ | refine Rel.none ?_ ?_ | refine Rel.ee ?_ ?_)
        all_goals show Fz _ _ _ _
        · exact Fz.grown (ds := []) (r := nD (A.take (j + 1))) (s1 := 0) (cs := (nD (A.take (j + 1))).map fun d => Cell.o d j) (cur := j + 1) (show ¬ 6 < 4 by omega) rfl (by simp) (Nat.zero_le _) (by rw [he, ints_flatten]; rfl) (by rw [ints_length]; omega) (ints_one _) (pu_ints _)
        · exact .kpt (show _ < 4 by simp [Pos.nat])
      · show Rel _ _ ((.n .e none (.n .e (some (rg0C)) .e)) : T C) _
        (repeat' first | exact Rel.e | refine Rel.some ?_ ?_ ?_ | refine Rel.none ?_ ?_ | refine Rel.ee ?_ ?_)
        exact ⟨show _ < 4 by simp [Pos.nat], rg0C_sh⟩
end Go.Ev

namespace Go.Ev
open Go.Proofs
set_option maxRecDepth 100000
theorem startW_ok {last : Int} {hs : List Rg} {step : Int} {lv : List Int} {ms : List Mk} {b : Bool} (h : startE last hs step lv ms b = 0) : startW last hs step lv ms b = [.i .i64 last, .lst 2 (rows rgD hs), .i .i64 step, .lst 1 (ints lv), .lst 4 (rows mkD ms), .lst 10 (rows seaD (truthS hs step ms))] := by unfold startW; rw [if_pos h]
theorem startW_no {last : Int} {hs : List Rg} {step : Int} {lv : List Int} {ms : List Mk} {b : Bool} (h : ¬ startE last hs step lv ms b = 0) : startW last hs step lv ms b = [.i .i64 0, .ns, .i .i64 0, .ns, .ns, .ns] := by unfold startW; rw [if_neg h]; rfl
theorem start_zero {last : Int} {hs : List Rg} {step : Int} {lv : List Int} {ms : List Mk} {b : Bool} (h : startE last hs step lv ms b = 0) : faultR last hs step lv ms = 0 ∧ b = true ∧ 0 < (truthS hs step ms).length := by
  unfold startE at h
  by_cases hf : faultR last hs step lv ms = 0
  · rw [if_pos hf] at h
    cases b with
    | false => rw [cond_false] at h; exact absurd h (by decide)
    | true =>
      by_cases hT : truthS hs step ms = []
      · rw [cond_true, if_pos hT] at h; exact absurd h (by decide)
      · exact ⟨hf, rfl, List.length_pos_iff.2 hT⟩
  · rw [if_neg hf] at h; exact absurd h hf
end Go.Ev
