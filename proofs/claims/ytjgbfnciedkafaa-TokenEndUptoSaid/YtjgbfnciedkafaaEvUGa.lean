import Derived.Test.YtjgbfnciedkafaaEvUG7
set_option linter.all false
namespace Go.Ev
open Go.Proofs
set_option maxRecDepth 100000
theorem j_min (a : Int) (L : List Int) (hL : L.length ≤ 100000) : PureF Try.prog p121.ix [.i .i64 a, .lst 1 (ints L)] (.i .i64 (L.foldl min a)) := by
  have e1 := ints_length L
  refine PureF.run fn120 (by simp) (by simp [PuL, Pu, pu_ints]) ?_; conv => whnf
  repeat' first | ((first | with_reducible apply WB.tt | with_reducible apply WB.ff | refine Rn.seq ?_ | refine Rn.reg ?_ | refine Rn.drw ?_ | refine Rn.blk ?_ | refine Rn.skip ?_ | refine Rn.ret ?_ | refine Rn.exit ?_ | refine Rn.cond rfl ?_ | refine And.intro (InR.i64 (by omega) (by omega)) ?_ | refine And.intro (show _ ≠ (0 : Int) by omega) ?_ | refine WIx.intsN (by omega) ?_ | refine WIx.rowsN (by omega) ?_) <;> conv => whnf)
  refine Rn.loop (fun j : Nat => ⟨(.n (.n (.n (.n .e (some (.lst 1 (ints L))) .e) none .e) none (.n (.n .e (some (.i .i64 (j : Int))) .e) none .e)) (some (.i .i64 ((L.take j).foldl min a))) (.n (.n (.n .e (some (.i .i64 ((ints L).length : Int))) .e) none .e) none .e)), .e, .h, none⟩) (fun j => j ≤ L.length) (fun j => L.length - j) 0 ?_ ?_ ?_
  · (first | (refine X.le.mk ?_ ?_ (Nat.le_refl _) rfl rfl) | skip) <;> (repeat' first | exact T.le_e _ | refine T.le_some ?_ ?_ ?_ | refine T.le_none ?_ ?_ | rfl)
  · omega
  intro j hj
  conv => whnf
  repeat' first | ((first | with_reducible apply WB.tt | with_reducible apply WB.ff | refine Rn.seq ?_ | refine Rn.reg ?_ | refine Rn.drw ?_ | refine Rn.blk ?_ | refine Rn.skip ?_ | refine Rn.ret ?_ | refine Rn.exit ?_ | refine Rn.cond rfl ?_ | refine And.intro (InR.i64 (by omega) (by omega)) ?_ | refine And.intro (show _ ≠ (0 : Int) by omega) ?_ | refine WIx.intsN (by omega) ?_ | refine WIx.rowsN (by omega) ?_) <;> conv => whnf)
  refine WB.dec (fun h => ?_) (fun h => ?_) <;> conv => whnf
  · have hlt : j < L.length := by omega
    repeat' first | ((first | with_reducible apply WB.tt | with_reducible apply WB.ff | refine Rn.seq ?_ | refine Rn.reg ?_ | refine Rn.drw ?_ | refine Rn.blk ?_ | refine Rn.skip ?_ | refine Rn.ret ?_ | refine Rn.exit ?_ | refine Rn.cond rfl ?_ | refine And.intro (InR.i64 (by omega) (by omega)) ?_ | refine And.intro (show _ ≠ (0 : Int) by omega) ?_ | refine WIx.intsN (by omega) ?_ | refine WIx.rowsN (by omega) ?_) <;> conv => whnf)
    refine Again.to (j + 1) (by omega) (by omega) (Nat.le_refl _) ?_
    (refine Shr.of ?_ ?_ rfl rfl) <;> (repeat' first | exact Rel.e | refine Rel.some ?_ ?_ ?_ | refine Rel.none ?_ ?_) <;> (try first | (show Fz _ _ _ _; first | exact Fz.pu trivial | (refine Fz.i ?_; first | rfl | omega) | (refine Fz.kpt ?_; (focus (show Pos.nat _ < Pos.nat _; simp [Pos.nat]; done))) | (refine Fz.ksl ?_; (focus (show Pos.nat _ < Pos.nat _; simp [Pos.nat]; done))) | (refine Fz.kmp ?_; (focus (show Pos.nat _ < Pos.nat _; simp [Pos.nat]; done))) | (refine Fz.pu ?_; simp [Cell.d, Pu, PuL, PuE, pu_ints, pu_ln, pu_ct]; done) | (refine Fz.pu ?_; simp only [Cell.d]; assumption)) | (refine RO'.of ?_ (ShC.same ?_); (focus (show Pos.nat _ < Pos.nat _; simp [Pos.nat]; done)); (repeat' first | exact ShC.nl | refine ShC.cn ?_ ?_) <;> first | exact Fz.pu trivial | (refine Fz.i ?_; first | rfl | omega) | (refine Fz.kpt ?_; (focus (show Pos.nat _ < Pos.nat _; simp [Pos.nat]; done))) | (refine Fz.ksl ?_; (focus (show Pos.nat _ < Pos.nat _; simp [Pos.nat]; done))) | (refine Fz.kmp ?_; (focus (show Pos.nat _ < Pos.nat _; simp [Pos.nat]; done))) | (refine Fz.pu ?_; simp [Cell.d, Pu, PuL, PuE, pu_ints, pu_ln, pu_ct]; done) | (refine Fz.pu ?_; simp only [Cell.d]; assumption)))
    all_goals (refine Fz.i ?_; exact (foldl_takeJ min a hlt).symm)
  · repeat' first | ((first | with_reducible apply WB.tt | with_reducible apply WB.ff | refine Rn.seq ?_ | refine Rn.reg ?_ | refine Rn.drw ?_ | refine Rn.blk ?_ | refine Rn.skip ?_ | refine Rn.ret ?_ | refine Rn.exit ?_ | refine Rn.cond rfl ?_ | refine And.intro (InR.i64 (by omega) (by omega)) ?_ | refine And.intro (show _ ≠ (0 : Int) by omega) ?_ | refine WIx.intsN (by omega) ?_ | refine WIx.rowsN (by omega) ?_) <;> conv => whnf)
    exact Fin.i rfl (by rw [List.take_of_length_le (by omega)])
theorem j_max (l : List Int) (h0 : 0 < l.length) (hL : l.length ≤ 100000) : PureF Try.prog p122.ix [.lst 1 (ints l)] (.i .i64 (l.foldl max (l.getD 0 0))) := by
  have e1 := ints_length l
  refine PureF.run fn121 (by simp) (by simp [PuL, Pu, pu_ints]) ?_; conv => whnf
  repeat' first | ((first | with_reducible apply WB.tt | with_reducible apply WB.ff | refine Rn.seq ?_ | refine Rn.reg ?_ | refine Rn.drw ?_ | refine Rn.blk ?_ | refine Rn.skip ?_ | refine Rn.ret ?_ | refine Rn.exit ?_ | refine Rn.cond rfl ?_ | refine And.intro (InR.i64 (by omega) (by omega)) ?_ | refine And.intro (show _ ≠ (0 : Int) by omega) ?_ | refine WIx.intsN (by omega) ?_ | refine WIx.rowsN (by omega) ?_ | with_reducible refine WB.decT (by first | with_reducible rfl | assumption | omega | exact ⟨rfl, rfl⟩) ?_ | with_reducible refine WB.decF (by first | assumption | omega) ?_ | with_reducible refine WB.ndT (by first | with_reducible rfl | assumption | omega | exact ⟨rfl, rfl⟩) ?_ | with_reducible refine WB.ndF (by first | assumption | omega) ?_ | with_reducible refine WB.nt ?_ | with_reducible refine WB.nf ?_ | with_reducible refine WB.dec (fun h => ?_) (fun h => ?_) | with_reducible refine WB.ndec (fun h => ?_) (fun h => ?_) | refine WB.mk (fun h => ?_) (fun h => ?_)) <;> conv => whnf)
  refine Rn.loop (fun j : Nat => ⟨(.n (.n (.n .e (some (.i .i64 ((l.take j).foldl max (l.getD 0 0)))) .e) none .e) (some (.lst 1 (ints l))) (.n (.n .e (some (.i .i64 (j : Int))) .e) none .e)), .e, .h, none⟩) (fun j => 1 ≤ j ∧ j ≤ l.length) (fun j => l.length - j) 1 ?_ ?_ ?_
  · have h1 : (l.take 1).foldl max (l.getD 0 0) = l.getD 0 0 := by
      cases l with
      | nil => rfl
      | cons a l => simp
    rw [h1]
    (first | (refine X.le.mk ?_ ?_ (Nat.le_refl _) rfl rfl) | skip) <;> (repeat' first | exact T.le_e _ | refine T.le_some ?_ ?_ ?_ | refine T.le_none ?_ ?_ | rfl)
  · omega
  rintro j ⟨hj1, hj⟩
  conv => whnf
  repeat' first | ((first | with_reducible apply WB.tt | with_reducible apply WB.ff | refine Rn.seq ?_ | refine Rn.reg ?_ | refine Rn.drw ?_ | refine Rn.blk ?_ | refine Rn.skip ?_ | refine Rn.ret ?_ | refine Rn.exit ?_ | refine Rn.cond rfl ?_ | refine And.intro (InR.i64 (by omega) (by omega)) ?_ | refine And.intro (show _ ≠ (0 : Int) by omega) ?_ | refine WIx.intsN (by omega) ?_ | refine WIx.rowsN (by omega) ?_) <;> conv => whnf)
  refine WB.dec (fun h => ?_) (fun h => ?_) <;> conv => whnf
  · have hlt : j < l.length := by omega
    repeat' first | ((first | with_reducible apply WB.tt | with_reducible apply WB.ff | refine Rn.seq ?_ | refine Rn.reg ?_ | refine Rn.drw ?_ | refine Rn.blk ?_ | refine Rn.skip ?_ | refine Rn.ret ?_ | refine Rn.exit ?_ | refine Rn.cond rfl ?_ | refine And.intro (InR.i64 (by omega) (by omega)) ?_ | refine And.intro (show _ ≠ (0 : Int) by omega) ?_ | refine WIx.intsN (by omega) ?_ | refine WIx.rowsN (by omega) ?_) <;> conv => whnf)
    refine Again.to (j + 1) (by omega) ⟨by omega, by omega⟩ (Nat.le_refl _) ?_
    (refine Shr.of ?_ ?_ rfl rfl) <;> (repeat' first | exact Rel.e | refine Rel.some ?_ ?_ ?_ | refine Rel.none ?_ ?_) <;> (try first | (show Fz _ _ _ _; first | exact Fz.pu trivial | (refine Fz.i ?_; first | rfl | omega) | (refine Fz.kpt ?_; (focus (show Pos.nat _ < Pos.nat _; simp [Pos.nat]; done))) | (refine Fz.ksl ?_; (focus (show Pos.nat _ < Pos.nat _; simp [Pos.nat]; done))) | (refine Fz.kmp ?_; (focus (show Pos.nat _ < Pos.nat _; simp [Pos.nat]; done))) | (refine Fz.pu ?_; simp [Cell.d, Pu, PuL, PuE, pu_ints, pu_ln, pu_ct]; done) | (refine Fz.pu ?_; simp only [Cell.d]; assumption)) | (refine RO'.of ?_ (ShC.same ?_); (focus (show Pos.nat _ < Pos.nat _; simp [Pos.nat]; done)); (repeat' first | exact ShC.nl | refine ShC.cn ?_ ?_) <;> first | exact Fz.pu trivial | (refine Fz.i ?_; first | rfl | omega) | (refine Fz.kpt ?_; (focus (show Pos.nat _ < Pos.nat _; simp [Pos.nat]; done))) | (refine Fz.ksl ?_; (focus (show Pos.nat _ < Pos.nat _; simp [Pos.nat]; done))) | (refine Fz.kmp ?_; (focus (show Pos.nat _ < Pos.nat _; simp [Pos.nat]; done))) | (refine Fz.pu ?_; simp [Cell.d, Pu, PuL, PuE, pu_ints, pu_ln, pu_ct]; done) | (refine Fz.pu ?_; simp only [Cell.d]; assumption)))
    all_goals (refine Fz.i ?_; exact (foldl_takeJ (d := 0) max _ hlt).symm)
  · repeat' first | ((first | with_reducible apply WB.tt | with_reducible apply WB.ff | refine Rn.seq ?_ | refine Rn.reg ?_ | refine Rn.drw ?_ | refine Rn.blk ?_ | refine Rn.skip ?_ | refine Rn.ret ?_ | refine Rn.exit ?_ | refine Rn.cond rfl ?_ | refine And.intro (InR.i64 (by omega) (by omega)) ?_ | refine And.intro (show _ ≠ (0 : Int) by omega) ?_ | refine WIx.intsN (by omega) ?_ | refine WIx.rowsN (by omega) ?_) <;> conv => whnf)
    exact Fin.i rfl (by rw [List.take_of_length_le (by omega)])
theorem flatMap_le {α β : Type} (f : α → List β) (n : Nat) : ∀ (l : List α), (∀ x ∈ l, (f x).length ≤ n) → (l.flatMap f).length ≤ l.length * n
  | [], _ => by simp
  | a :: l, h => by
    have h1 := h a (by simp)
    have h2 := flatMap_le f n l fun x hx => h x (by simp [hx])
    rw [List.flatMap_cons, List.length_append, List.length_cons, Nat.add_mul]
    omega
theorem rds_len (n : Int) (l : Ln) : (rdsL n l).length ≤ (szK l).toNat * ((szC n l).toNat * (szT n l).toNat) := by
  have hT : ∀ a b, (rdsT n l a b).length ≤ (szT n l).toNat := fun a b => by
    unfold rdsT
    rw [List.length_map, rngL_length, ← t_size]
    omega
  have hC : ∀ a, (rdsC n l a).length ≤ (szC n l).toNat * (szT n l).toNat := fun a => by
    have := flatMap_le (fun b => rdsT n l a b) (szT n l).toNat (rngL (cLo l) (cHi n l)) fun b _ => hT a b
    rw [rngL_length] at this
    refine Nat.le_trans this (Nat.mul_le_mul_right _ ?_)
    rw [← c_size]
    omega
  have := flatMap_le (fun a => rdsC n l a) _ (rngL (kLo l) (kHi l)) fun a _ => hC a
  rw [rngL_length] at this
  refine Nat.le_trans this (Nat.mul_le_mul_right _ ?_)
  rw [← k_size]
  omega
def szsN (n : Int) : List Ln → Nat
  | [] => 1
  | l :: ls => (szK l).toNat * ((szC n l).toNat * (szT n l).toNat) * szsN n ls
theorem szs_prodG {n : Int} (hn : 1 ≤ n ∧ n ≤ 4) : ∀ (ls : List Ln) (p : Int), ls.foldl (fun m l => m * rdN n l) p = p * (szsN n ls : Int)
  | [], p => by simp [szsN]
  | l :: ls, p => by
    rw [List.foldl_cons, szs_prodG hn ls]
    obtain ⟨s1, s2, s3⟩ := sz_bd hn l
    show p * rdN n l * _ = p * (((szK l).toNat * ((szC n l).toNat * (szT n l).toNat) * szsN n ls : Nat) : Int)
    rw [Int.natCast_mul, Int.natCast_mul, Int.natCast_mul, Int.toNat_of_nonneg (by omega), Int.toNat_of_nonneg (by omega), Int.toNat_of_nonneg (by omega)]
    unfold rdN
    rw [Int.mul_assoc, Int.mul_assoc (szK l)]
theorem szs_le {B : Bk} (V : VB B) : szsN B.n B.ls ≤ 4096 := by
  have h := (many_prod V.n.1 V.n.2 B.ls).1
  have h2 := V.many
  have h3 : prodP B.n B.ls = (szsN B.n B.ls : Int) := by
    unfold prodP
    rw [szs_prodG V.n, Int.one_mul]
  omega
theorem ex_lenG {B : Bk} (V : VB B) : ∀ (k : Nat) (Q : List Ln), Q.length + k = B.ls.length → (exT B k Q).length ≤ szsN B.n (B.ls.drop Q.length)
  | 0, Q, h => by
    rw [List.drop_eq_nil_of_le (by omega)]
    unfold exT
    cases canT B 0 Q <;> simp [szsN]
  | k + 1, Q, h => by
    have hd : B.ls.drop Q.length = B.ls.getD Q.length default :: B.ls.drop (Q.length + 1) := by
      rw [List.drop_eq_getElem_cons (by omega)]
      simp [List.getD, show Q.length < B.ls.length by omega]
    show (bif canT B (k + 1) Q then (stp B Q).flatMap (exT B k) else []).length ≤ _
    cases canT B (k + 1) Q with
    | false => simp
    | true =>
      rw [hd]
      have h1 := flatMap_le (exT B k) (szsN B.n (B.ls.drop (Q.length + 1))) (stp B Q) fun T' hT => by
        have hl : T'.length = Q.length + 1 := by
          unfold stp at hT
          obtain ⟨a, _, rfl⟩ := List.mem_map.1 hT
          simp
        have := ex_lenG V k T' (by omega)
        rw [hl] at this
        exact this
      refine Nat.le_trans h1 (Nat.mul_le_mul_right _ ?_)
      unfold stp
      rw [List.length_map]
      exact Nat.le_trans (List.length_filter_le _ _) (rds_len _ _)
theorem ex_len {B : Bk} (V : VB B) : (exT B B.ls.length []).length ≤ 4096 := Nat.le_trans (ex_lenG V B.ls.length [] (by simp)) (szs_le V)
end Go.Ev

namespace Go.Ev
open Go.Proofs
set_option maxRecDepth 100000
def slA : List Int → D
  | [] => .ns
  | _ :: s => .sl i11 0 (s.length + 1) s.length 1
noncomputable def blA : List Int → Option Ev.C
  | [] => some .hole
  | a :: s => some (.cells false (((a :: s).map fun n => D.i .i64 n).map fun d => Cell.o d s.length) (s.length + 1))
def bdS : T D := (.n (.n (.n .e (some (.pt (.i .h) 0 0)) .e) none (.n .e (some (.pt (.i (.o .h)) 0 0)) .e)) none (.n (.n (.n .e (some (.fn p136 [] [.pt i6 0 0])) .e) (some (.pt (.o (.o .h)) 0 0)) .e) none .e))
noncomputable def bdM (aft : Nat) (g : Pos) (first caps : List D) : Tns (List Int) where
  o := fun i s => match i with
    | 3 => some (.cells false [.o (.i .i64 (aft : Int)) 0, .o (.fn g first caps) 0] 1)
    | 4 => some (.cells false [.o (.i .i64 0) 0, .o (.i .i64 0) 0] 1)
    | 5 => some (.cells false [.o (slA s) 0] 1)
    | 7 => some (.lp bdS [p10] 28 (rfA (bodyC Try.f88) 0) (rfB (bodyC Try.f88) 0) .ready none)
    | 11 => blA s
    | _ => none
theorem wkCl_kp (B : Bk) {n : Nat} (h : 1 < n) : KpC n (wkCl B) := by
  refine KpL.all ?_
  simp [wkQ, KpL, Kp, Cell.d, Pu, pu_ln, pu_ct, Pos.nat, h]
theorem bdS_kp : ∀ s d, bdS.get s = some d → Kp 11 d := by
  show TAll (fun _ d => Kp 11 d) bdS
  unfold bdS
  repeat' first | exact TAll.e | refine TAll.some ?_ ?_ ?_ | refine TAll.none ?_ ?_
  all_goals simp [Kp, KpL, i6, Pos.nat]
noncomputable def bdR (B : Bk) (M : Memo) (F : Nat → Mo) (aft : Nat) (g : Pos) (first caps : List D) : T Ev.C := trL (some (.map (mapL M))) none (some (.cells false [.o (.i .i64 (aft : Int)) 0, .o (.fn g first caps) 0] 1)) (some (.cells false [.o (.i .i64 0) 0, .o (.i .i64 0) 0] 1)) none (some (wkCl B)) (some (.lp bdS [p10] 28 (rfA (bodyC Try.f88) 0) (rfB (bodyC Try.f88) 0) .ready none)) (some (.cells false [.o (.yl i7) 0] 1)) (some (moC F)) (some (.cells false [.o rdF 0] 1)) none none none none none none none none none none
section
variable {B : Bk} {aft : Nat} {g : Pos} {first caps : List D} (h1 : PuL first) (h2 : PuL caps)
include h1 h2
theorem bdR_kp (M : Memo) (F : Nat → Mo) : KpO 11 (bdR B M F aft g first caps) := by
  have k1 := KpL.pu (n := 11) first h1
  have k2 := KpL.pu (n := 11) caps h2
  show TAll (fun id c => id.nat < 11 ∧ KpC 11 c) _
  unfold bdR trL
  repeat' first | exact TAll.e | refine TAll.some ?_ ?_ ?_ | refine TAll.none ?_ ?_
  all_goals refine ⟨by simp [Pos.nat], ?_⟩
  all_goals first
    | exact mapL_kp
    | exact bdS_kp
    | exact puC (kp_mo126 _ _)
    | exact wkCl_kp B (by omega)
    | (refine KpL.all ?_; simp [KpL, Kp, Cell.d, Pu, rdF, k1, k2, i6, i7, i8, i9, i10, Pos.nat])
theorem bd_at (M : Memo) (F : Nat → Mo) (s : List Int) {i : Pos} {c : Ev.C} (h : ((bdM aft g first caps).ob B M F s).get i = some c) : (i = i11 ∧ blA s = some c) ∨ (i = .i (.o .h) ∧ c = .cells false [.o (slA s) 0] 1) ∨ (i ≠ i11 ∧ i ≠ .i (.o .h) ∧ (bdR B M F aft g first caps).get i = some c) := by
  by_cases e1 : i = i11
  · subst e1; exact .inl ⟨rfl, h⟩
  by_cases e2 : i = .i (.o .h)
  · subst e2
    have h : some (.cells false [.o (slA s) 0] 1) = some c := h
    cases h
    exact .inr (.inl ⟨rfl, rfl⟩)
  refine .inr (.inr ⟨e1, e2, ?_⟩)
  by_cases hlt : i.nat < 12
  · rw [← h]
    rcases pos_lt12 hlt with rfl | rfl | rfl | rfl | rfl | rfl | rfl | rfl | rfl | rfl | rfl
    all_goals first
      | rfl
      | exact absurd rfl e1
      | exact absurd rfl e2
  · have h3 := trL_hi12 (x1 := none) (x2 := none) (x3 := none) (x4 := none) (x5 := none) (x6 := none) (x7 := none) (x8 := none) (x9 := none) (x10 := none) (x11 := none) (y1 := some (.map (mapL M))) (y2 := (bdM aft g first caps).o 2 s) (y3 := (bdM aft g first caps).o 3 s) (y4 := (bdM aft g first caps).o 4 s) (y5 := (bdM aft g first caps).o 5 s) (y6 := some (wkCl B)) (y7 := (bdM aft g first caps).o 7 s) (y8 := some (.cells false [.o (.yl i7) 0] 1)) (y9 := some (moC F)) (y10 := some (.cells false [.o rdF 0] 1)) (y11 := (bdM aft g first caps).o 11 s) (x12 := none) (x13 := none) (x14 := none) (x15 := none) (x16 := none) (x17 := none) (x18 := none) (x19 := none) (x20 := none) (Nat.not_lt.1 hlt)
    have h4 : (trL none none none none none none none none none none none none none none none none none none none none).get i = some c := h3.symm.trans h
    exfalso
    have key : TAll (fun _ _ => False) (trL none none none none none none none none none none none none none none none none none none none none) := by
      unfold trL
      repeat' first | exact TAll.e | refine TAll.none ?_ ?_
    exact key i c h4
theorem bd_kp (M : Memo) (F : Nat → Mo) (s : List Int) : KpO 12 ((bdM aft g first caps).ob B M F s) := by
  intro id c h
  rcases bd_at h1 h2 M F s h with ⟨rfl, h⟩ | ⟨rfl, rfl⟩ | ⟨_, _, h⟩
  · refine ⟨by simp [i11, Pos.nat], ?_⟩
    cases s with
    | nil => cases h; trivial
    | cons a s =>
      cases h
      refine puC (KpL.pu _ (puL_map_j _))
  · refine ⟨by simp [Pos.nat], KpL.all ?_⟩
    cases s <;> simp [slA, KpL, Kp, Cell.d, Pu, i11, Pos.nat]
  · obtain ⟨q1, q2⟩ := bdR_kp h1 h2 M F id c h
    exact ⟨by omega, q2.up (by omega)⟩
end
end Go.Ev
