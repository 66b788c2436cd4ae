import Derived.Test.YtjgbfnciedkafaaEvUG7
import Derived.Test.YtjgbfnciedkafaaEvUGn
import Derived.Test.YtjgbfnciedkafaaEvUTc
import Derived.Test.YtjgbfnciedkafaaEvUJr
set_option linter.all false
namespace Go.Ev
open Go.Proofs
set_option maxRecDepth 100000
structure AskOk (B : Bk) (g : Pos) (first caps : List D) (ak : Mo → Int) : Prop where
  p1 : PuL first
  p2 : PuL caps
  ok : ∀ (Q : List Ln) (i : Nat), i ≤ 8 → PureF Try.prog g.ix (first ++ ([.ag (moD (moR B.box B.coin Q i))] ++ caps)) (.i .i64 (ak (moR B.box B.coin Q i)))
end Go.Ev
namespace Go.Ev
open Go.Proofs
set_option maxRecDepth 100000
end Go.Ev
namespace Go.Ev
open Go.Proofs
set_option maxRecDepth 100000
theorem Cv.ns {γ γ' : Gh} {w : World} {z : Nat} : Cv γ γ' w .ns (.lst z []) := fun v h => by
  unfold DV at h ⊢
  exact ⟨none, 0, h, Nat.le_refl _, fun _ => rfl, .inl rfl⟩
theorem WSt.slcT {sl : T D} {ob : T C} {nx : Pos} {lg : Option (T Bool)} {K : X → Prop} {d : Pos} {z h : Nat} {x xh : RX} {es : List (List D)} (hx : opd sl x = some (.lst z es)) (hhi : opd sl xh = some (.i .i64 (h : Int))) (h2 : h ≤ es.length) (k : wOut sl ob nx lg d K (.lst z (es.take h))) : WSt (.slc d z x none (some xh) none) ⟨sl, ob, nx, lg⟩ K := by
  obtain ⟨k2, k3⟩ := wOut_ok k
  refine ⟨_, ?_, k3⟩
  show s_slc d z x none (some xh) none sl ob nx lg = _
  unfold s_slc
  rw [hx]
  have hhi' : ((h : Nat) : Int) = Int.ofNat h := rfl
  have b1 : Nat.ble 0 h = true := Nat.ble_eq_true_of_le (Nat.zero_le _)
  have b2 : Nat.ble h es.length = true := Nat.ble_eq_true_of_le h2
  simp only [bnd, hhi, hhi', Nat.beq_refl, cond_true, b1, b2, Bool.and_self, List.drop_zero]
  exact k2
theorem begin_ns {n coin box : Int} {ls : List Ln} {ob : T C} {nx : Pos} {lg : Option (T Bool)} : CallOk Try.prog p75.ix [.ag [.i .i64 n, .i .i64 coin, .i .i64 box, .lst 3 (rows lnD ls), .ns]] ob nx lg (.ag (wkQ (B5 n coin box ls []) ++ [.mp nx])) (T.set nx (.map (mapL [])) ob) nx.succ (lgW lg nx) :=
  (begin_at (B := B5 n coin box ls [])).sub fun γ w => .cons (.ag (.cons (.pu (fun _ h => h) trivial) (.cons (.pu (fun _ h => h) trivial) (.cons (.pu (fun _ h => h) trivial) (.cons (.pu (fun _ h => h) (pu_ln _)) (.cons .ns .nil)))))) .nil
theorem prod_take {n : Int} (hn : 1 ≤ n ∧ n ≤ 4) (ls : List Ln) (k : Nat) : prodP n (ls.take k) ≤ prodP n ls := by
  have h1 : prodP n ls = (ls.drop k).foldl (fun m l => m * rdN n l) (prodP n (ls.take k)) := by
    unfold prodP
    rw [← List.foldl_append, List.take_append_drop]
  have h2 := (many_prod hn.1 hn.2 (ls.take k)).2
  rw [h1]
  generalize prodP n (ls.take k) = p at h2 ⊢
  generalize ls.drop k = r
  induction r generalizing p with
  | nil => exact Int.le_refl _
  | cons x r ih =>
    obtain ⟨b1, b2⟩ := rdN_bd hn.1 hn.2 x
    have h0 : p * 1 ≤ p * rdN n x := Int.mul_le_mul (Int.le_refl _) b1 (by omega) (by omega)
    rw [Int.mul_one] at h0
    exact Int.le_trans h0 (ih (p * rdN n x) (by omega))
theorem VB.pre {n coin box : Int} {ls : List Ln} {cs : List Ct} (V : VB (B5 n coin box ls cs)) (k : Nat) : VB (B5 n coin box (ls.take k) []) := by
  have hn : 1 ≤ n ∧ n ≤ 4 := V.n
  have h8 : ls.length ≤ 8 := V.len
  refine ⟨V.n, V.coin, V.box, ?_, by show (0 : Nat) ≤ 4; omega, ?_, fun c hc => absurd (show c ∈ ([] : List Ct) from hc) (by simp), ?_⟩
  · show (ls.take k).length ≤ 8
    rw [List.length_take]; omega
  · show (ls.take k).all (lnOk n) = true
    rw [List.all_eq_true]
    exact fun x hx => List.all_eq_true.1 V.ls x (List.mem_of_mem_take hx)
  · show manyR n (ls.take k) ≤ 4096
    have h1 := many_prod hn.1 hn.2 (ls.take k)
    have h2 := many_prod hn.1 hn.2 ls
    have h3 := prod_take hn ls k
    have h4 : manyR n ls ≤ 4096 := V.many
    omega
def badN (n coin box : Int) (ls : List Ln) (k : Nat) : Bool := !hasB (B5 n coin box (ls.take (k + 1)) [])
def fstN (n coin box : Int) (ls : List Ln) : Option Nat := (List.range ls.length).find? (badN n coin box ls)
def fstT (n coin box : Int) (ls : List Ln) (cs : List Ct) : Int × Int :=
  if faultT n coin box ls cs = 0 then (match fstN n coin box ls with | some k => ((k : Int), 0) | none => (0, 7)) else (0, faultT n coin box ls cs)
noncomputable def fsS (n coin box : Int) (ls : List Ln) (es : List (List D)) (d : D) (j : Nat) : X := ⟨(.n (.n .e (some (.pt .h 0 0)) (.n (.n (.n .e (some (.i .i64 (j : Int))) .e) none .e) (some (.lst 3 (rows lnD ls))) .e)) none (.n (.n (.n (.n .e (some (.i .i64 (ls.length : Int))) .e) none .e) none .e) none .e)), (.n .e (some (.cells false [.o (.i .i64 n) 0, .o (.i .i64 coin) 0, .o (.i .i64 box) 0, .o (.lst 3 es) 0, .o .ns 0] 1)) .e), .o .h, none⟩
theorem j_FirstP (n coin box : Int) (ls : List Ln) (cs : List Ct) : PureF Try.prog p47.ix [.ag [.i .i64 n, .i .i64 coin, .i .i64 box, .lst 3 (rows lnD ls), .lst 3 (rows ctD cs)]] (.tp [.i .i64 (fstT n coin box ls cs).1, .i .i64 (fstT n coin box ls cs).2]) := by
  have e1 := rows_length lnD ls
  have iC := j_CheckBook n coin box ls cs
  refine PureF.run fn46 (by simp) (by simp [PuL, PuE, Pu, pu_ints, pu_ln, pu_ct]) ?_; conv => whnf
  by_cases hf : faultT n coin box ls cs = 0
  · have V := VB.of hf
    have hR : fstT n coin box ls cs = (match fstN n coin box ls with | some k => ((k : Int), 0) | none => (0, 7)) := by unfold fstT; rw [if_pos hf]
    rw [hf] at iC
    rw [hR]
    have h8 : ls.length ≤ 8 := V.len
    repeat' first | ((first | with_reducible (first | apply Qt | apply Qu) | refine Qa rfl ?_ | refine Qk rfl ?_ | refine Qb ?_ | refine Qc ?_ | refine Qi ?_ | refine Qj ?_ | refine Qf (iC) ?_ | with_reducible (first | refine Qm ?_ | refine Qn ?_ | refine Qo ?_ | refine Qp ?_ | refine WB.nt ?_ | refine WB.nf ?_ | refine WB.dec (fun h => ?_) (fun h => ?_) | refine WB.ndec (fun h => ?_) (fun h => ?_)) | refine WB.mk (fun h => ?_) (fun h => ?_)) <;> conv => whnf)
    refine Rn.loop (fun j : Nat => fsS n coin box ls (match j with | 0 => rows lnD ls | j + 1 => (rows lnD ls).take (j + 1)) .ns j) (fun j => j ≤ ls.length ∧ ∀ i, i < j → badN n coin box ls i = false) (fun j => ls.length - j) 0 ?_ ?_ ?_
    · refine X.le.mk ?_ ?_ (Nat.le_refl _) rfl rfl
      · show T.le ((.n (.n .e (some (.pt .h 0 0)) (.n (.n (.n .e (some (.i .i64 0)) .e) none .e) (some (.lst 3 (rows lnD ls))) .e)) none (.n (.n (.n (.n .e (some (.i .i64 (ls.length : Int))) .e) none .e) none .e) none .e)) : T D) _
        rw [← e1]
        (repeat' first | exact T.le_e _ | refine T.le_some ?_ rfl ?_ | refine T.le_none ?_ ?_)
      · (repeat' first | exact T.le_e _ | refine T.le_some ?_ rfl ?_ | refine T.le_none ?_ ?_ | refine T.le_ee ?_ ?_)
    · exact ⟨Nat.zero_le _, fun i h => absurd h (Nat.not_lt_zero _)⟩
    rintro j ⟨hj, ha⟩
    have hj : j ≤ ls.length := hj
    generalize (match j with | 0 => rows lnD ls | j + 1 => (rows lnD ls).take (j + 1)) = es
    conv => whnf
    repeat' first | ((first | with_reducible (first | apply Qt | apply Qu) | refine Qa rfl ?_ | refine Qk rfl ?_ | refine Qb ?_ | refine Qc ?_ | refine Qi ?_ | refine Qj ?_) <;> conv => whnf)
    refine WB.dec (fun h => ?_) (fun h => ?_) <;> conv => whnf
    · have hlt : j < ls.length := by omega
      have hw : badN n coin box ls j = !hasB (B5 n coin box (ls.take (j + 1)) []) := rfl
      obtain ⟨M', hM', Hh⟩ := j_hasTruth (V.pre (j + 1)) [] (MOk.nil _)
      have hrow : (rows lnD ls).take (j + 1) = rows lnD (ls.take (j + 1)) := List.map_take.symm
      repeat' first | ((first | with_reducible (first | apply Qt | apply Qu) | refine Qa rfl ?_ | refine Qk rfl ?_ | refine Qb ?_ | refine Qc ?_ | refine Qi ?_ | refine Qj ?_) <;> conv => whnf)
      refine WSt.slcT (h := j + 1) (by rfl) (by rfl) (by rw [e1]; omega) ?_; conv => whnf
      repeat' first | ((first | with_reducible (first | apply Qt | apply Qu) | refine Qa rfl ?_ | refine Qk rfl ?_ | refine Qb ?_ | refine Qc ?_ | refine Qi ?_ | refine Qj ?_) <;> conv => whnf)
      rw [hrow]
      refine WCall.of begin_ns ?_; conv => whnf
      repeat' first | ((first | with_reducible (first | apply Qt | apply Qu) | refine Qa rfl ?_ | refine Qk rfl ?_ | refine Qb ?_ | refine Qc ?_ | refine Qi ?_ | refine Qj ?_) <;> conv => whnf)
      refine WCall.of (CallOk.mapAt Hh trivial (id := .o .h) rfl (show 2 < 3 from by decide) (mp_at trivial)) ?_; conv => whnf
      generalize hasB (B5 n coin box (ls.take (j + 1)) []) = bb at *
      repeat' first | ((first | with_reducible (first | apply Qt | apply Qu) | refine Qa rfl ?_ | refine Qk rfl ?_ | refine Qb ?_ | refine Qc ?_ | refine Qi ?_ | refine Qj ?_) <;> conv => whnf)
      cases bb with
      | false =>
        refine WB.tt ?_; conv => whnf
        repeat' first | ((first | with_reducible (first | apply Qt | apply Qu) | refine Qa rfl ?_ | refine Qk rfl ?_ | refine Qb ?_ | refine Qc ?_ | refine Qi ?_ | refine Qj ?_) <;> conv => whnf)
        refine ⟨.inr rfl, _, rfl, ?_⟩
        have : fstN n coin box ls = some j := List.find?_range_eq_some.2 ⟨hw, List.mem_range.2 hlt, fun i hi => by rw [ha i hi]; rfl⟩
        rw [this]
        exact .tp (.cons (.pu trivial) (.cons (.pu trivial) .nil))
      | true =>
        refine WB.ff ?_; conv => whnf
        repeat' first | ((first | with_reducible (first | apply Qt | apply Qu) | refine Qa rfl ?_ | refine Qk rfl ?_ | refine Qb ?_ | refine Qc ?_ | refine Qi ?_ | refine Qj ?_) <;> conv => whnf)
        refine Again.to (j + 1) (by omega) ⟨by omega, fun i hi => ?_⟩ (Nat.le_of_ble_eq_true rfl) ?_
        · by_cases e : i = j
          · subst e; exact hw
          · exact ha i (by omega)
        refine Shr.of ?_ ?_ rfl rfl
        · (repeat' first | exact Rel.e | refine Rel.some ?_ ?_ ?_ | refine Rel.none ?_ ?_ | refine Rel.ee ?_ ?_)
          all_goals show Fz _ _ _ _
          all_goals first | exact .kpt (show _ < 2 by simp [Pos.nat]) | exact .pu trivial | exact .pu (pu_ln _)
        · show Rel _ _ ((.n .e (some (.cells false [.o (.i .i64 n) 0, .o (.i .i64 coin) 0, .o (.i .i64 box) 0, .o (.lst 3 ((rows lnD ls).take (j + 1))) 0, .o .ns 0] 1)) .e) : T C) _
          rw [hrow]
          (repeat' first | exact Rel.e | refine Rel.some ?_ ?_ ?_ | refine Rel.none ?_ ?_ | refine Rel.ee ?_ ?_)
          exact RO'.of (show _ < 2 by simp [Pos.nat]) (ShC.same (ShC.cn (.pu trivial) (ShC.cn (.pu trivial) (ShC.cn (.pu trivial) (ShC.cn (.pu (pu_ln _)) (ShC.cn (.pu trivial) ShC.nl))))))
    · have hje : j = ls.length := by omega
      have : fstN n coin box ls = none := List.find?_range_eq_none.2 fun i hi => by rw [ha i (by omega)]; rfl
      rw [this]
      repeat' first | ((first | with_reducible (first | apply Qt | apply Qu) | refine Qa rfl ?_ | refine Qk rfl ?_ | refine Qb ?_ | refine Qc ?_ | refine Qi ?_ | refine Qj ?_) <;> conv => whnf)
      refine ⟨.inr rfl, _, rfl, ?_⟩
      exact .tp (.cons (.pu trivial) (.cons (.pu trivial) .nil))
  · have hR : fstT n coin box ls cs = (0, faultT n coin box ls cs) := by unfold fstT; rw [if_neg hf]
    rw [hR]
    generalize faultT n coin box ls cs = f at *
    repeat' first | ((first | with_reducible (first | apply Qt | apply Qu) | refine Qa rfl ?_ | refine Qk rfl ?_ | refine Qb ?_ | refine Qc ?_ | refine Qi ?_ | refine Qj ?_ | refine Qf (iC) ?_ | with_reducible (first | refine Qm ?_ | refine Qn ?_ | refine Qo ?_ | refine Qp ?_ | refine WB.nt ?_ | refine WB.nf ?_ | refine WB.dec (fun h => ?_) (fun h => ?_) | refine WB.ndec (fun h => ?_) (fun h => ?_)) | refine WB.mk (fun h => ?_) (fun h => ?_)) <;> conv => whnf)
    all_goals first
      | (exfalso; omega)
      | exact ⟨.inr rfl, _, rfl, .tp (.cons (.pu trivial) (.cons (.pu trivial) .nil))⟩
end Go.Ev
namespace Go.Ev
set_option maxRecDepth 100000
theorem ibit_nat (slow : IntKind → Int → Int → Int) (fast : IntKind → Nat → Nat → Nat) (k : IntKind) (m n : Nat) (h1 : Nat.ble m (ubits k) = true) (h2 : Nat.ble n (ubits k) = true) : ibit slow fast k (.ofNat m) (.ofNat n) = .ofNat (fast k m n) := by
  show (bif Nat.ble m (ubits k) && Nat.ble n (ubits k) then Int.ofNat (fast k m n) else slow k (.ofNat m) (.ofNat n)) = _
  rw [h1, h2]
  rfl
end Go.Ev
namespace Go.Ev
set_option maxRecDepth 100000
theorem binK_and (a b : Int) (f : D → Option X) : binK .and (.i .i64 a) (.i .i64 b) f = wrapK .i64 (iand .i64 a b) f := rfl
theorem ub_le {a : Nat} (h : a < 1024) : Nat.ble a (ubits .i64) = true := Nat.ble_eq_true_of_le (Nat.le_trans (show a ≤ 1023 by omega) (of_decide_eq_true rfl))
theorem WSt.andB {sl : T D} {ob : T C} {nx : Pos} {lg : Option (T Bool)} {K : X → Prop} {d : Pos} {a b : Nat} {x y : RX} (hx : opd sl x = some (.i .i64 (a : Int))) (hy : opd sl y = some (.i .i64 (b : Int))) (ha : a < 1024) (hb : b < 1024) (k : wOut sl ob nx lg d K (.i .i64 ((a &&& b : Nat) : Int))) : WSt (.bin d .and x y) ⟨sl, ob, nx, lg⟩ K := by
  obtain ⟨k2, k3⟩ := wOut_ok k
  refine ⟨_, ?_, k3⟩
  show s_bin d .and x y sl ob nx lg = _
  unfold s_bin
  rw [hx, hy]
  have hs : iand .i64 ((a : Nat) : Int) ((b : Nat) : Int) = ((a &&& b : Nat) : Int) := ibit_nat slowAnd (fun _ m n => Nat.land m n) .i64 a b (ub_le ha) (ub_le hb)
  have hlt : a &&& b ≤ a := Nat.and_le_left
  show binK .and (.i .i64 ((a : Nat) : Int)) (.i .i64 ((b : Nat) : Int)) _ = _
  rw [binK_and, hs, wrapK_eq]
  have hw : IntKind.i64.wrap ((a &&& b : Nat) : Int) = ((a &&& b : Nat) : Int) := InR.i64 (by omega) (by omega)
  rw [hw]
  exact k2
end Go.Ev
namespace Go.Ev
set_option maxRecDepth 100000
theorem ub64 {a : Nat} (h : a < 2 ^ 64) : Nat.ble a (ubits .u64) = true := Nat.ble_eq_true_of_le (show a ≤ 18446744073709551615 by omega)
theorem binK_and64 (a b : Int) (f : D → Option X) : binK .and (.i .u64 a) (.i .u64 b) f = wrapK .u64 (iand .u64 a b) f := rfl
section
variable {sl : T D} {ob : T C} {nx : Pos} {lg : Option (T Bool)} {K : X → Prop} {d : Pos} {a b j : Nat} {x y : RX} {k kk : IntKind}
theorem WSt.andU (hx : opd sl x = some (.i .u64 (a : Int))) (hy : opd sl y = some (.i .u64 (b : Int))) (ha : a < 2 ^ 64) (hb : b < 2 ^ 64) (h : ∀ r : Nat, r = a &&& b → r ≤ a → wOut sl ob nx lg d K (.i .u64 (r : Int))) : WSt (.bin d .and x y) ⟨sl, ob, nx, lg⟩ K := by
  obtain ⟨k2, k3⟩ := wOut_ok (h (a &&& b) rfl Nat.and_le_left)
  refine ⟨_, ?_, k3⟩
  show s_bin d .and x y sl ob nx lg = _
  unfold s_bin
  rw [hx, hy]
  have hs : iand .u64 ((a : Nat) : Int) ((b : Nat) : Int) = ((a &&& b : Nat) : Int) := ibit_nat slowAnd (fun _ m n => Nat.land m n) .u64 a b (ub64 ha) (ub64 hb)
  have hlt : a &&& b ≤ a := Nat.and_le_left
  show binK .and (.i .u64 ((a : Nat) : Int)) (.i .u64 ((b : Nat) : Int)) _ = _
  rw [binK_and64, hs, wrapK_eq]
  have hw : IntKind.u64.wrap ((a &&& b : Nat) : Int) = ((a &&& b : Nat) : Int) := InR.u64 (by omega) (by omega)
  rw [hw]
  exact k2
theorem WSt.shrU (hx : opd sl x = some (.i k (a : Int))) (hy : opd sl y = some (.i kk (j : Int))) (hk : kbits k = 64) (hj : j ≤ 63) (h : ∀ r : Nat, r = a / 2 ^ j → r ≤ a → wOut sl ob nx lg d K (.i k (r : Int))) : WSt (.bin d .shr x y) ⟨sl, ob, nx, lg⟩ K := by
  obtain ⟨k2, k3⟩ := wOut_ok (h (a / 2 ^ j) rfl (Nat.div_le_self _ _))
  refine ⟨_, ?_, k3⟩
  show s_bin d .shr x y sl ob nx lg = _
  unfold s_bin
  rw [hx, hy]
  have hm : minN j (kbits k) = j := by
    unfold minN
    rw [hk, Nat.ble_eq_true_of_le (show j ≤ 64 by omega)]
    rfl
  have hs : ishr ((a : Nat) : Int) j = ((a / 2 ^ j : Nat) : Int) := rfl
  show intK k (ishr ((a : Nat) : Int) (minN j (kbits k))) _ = _
  rw [hm, hs, intK_eq]
  exact k2
theorem WSt.shlU (hx : opd sl x = some (.i .i64 (a : Int))) (hy : opd sl y = some (.i kk (j : Int))) (ha : a * 2 ^ j ≤ 1000) (hj : j ≤ 63) (h : wOut sl ob nx lg d K (.i .i64 ((a * 2 ^ j : Nat) : Int))) : WSt (.bin d .shl x y) ⟨sl, ob, nx, lg⟩ K := by
  obtain ⟨k2, k3⟩ := wOut_ok h
  refine ⟨_, ?_, k3⟩
  show s_bin d .shl x y sl ob nx lg = _
  unfold s_bin
  rw [hx, hy]
  have hm : minN j 64 = j := by
    unfold minN
    rw [Nat.ble_eq_true_of_le (show j ≤ 64 by omega)]
    rfl
  have hs : ishl ((a : Nat) : Int) j = ((a * 2 ^ j : Nat) : Int) := rfl
  show wrapK .i64 (ishl ((a : Nat) : Int) (minN j 64)) _ = _
  rw [hm, hs, wrapK_eq]
  have hw : IntKind.i64.wrap ((a * 2 ^ j : Nat) : Int) = ((a * 2 ^ j : Nat) : Int) := InR.i64 (by omega) (by omega)
  rw [hw]
  exact k2
end
def numJ (c e j : Nat) : List Int := ((List.range j).filter fun i => c.testBit (e - 1 - i)).map fun i : Nat => (i : Int)
def numL (c e : Nat) : List Int := numJ c e e
theorem numJ_succ (c e j : Nat) : numJ c e (j + 1) = if c / 2 ^ (e - 1 - j) % 2 = 1 then numJ c e j ++ [(j : Int)] else numJ c e j := by
  unfold numJ
  rw [List.range_succ, List.filter_append, List.map_append]
  have h : c.testBit (e - 1 - j) = decide (c / 2 ^ (e - 1 - j) % 2 = 1) := Nat.testBit_eq_decide_div_mod_eq
  by_cases hq : c / 2 ^ (e - 1 - j) % 2 = 1
  · rw [if_pos hq]; simp [h, hq]
  · rw [if_neg hq]; simp [h, hq]
theorem numJ_len (c e j : Nat) : (numJ c e j).length ≤ j := by
  unfold numJ
  rw [List.length_map]
  have := List.length_filter_le (fun i => c.testBit (e - 1 - i)) (List.range j)
  rw [List.length_range] at this
  exact this
def cntN (c : Nat) : Nat := ((List.range 8).filter fun i => c.testBit i).length
def nD (A : List Int) : List D := A.map fun n => D.i .i64 n
theorem nD_snoc (A : List Int) (n : Int) : nD (A ++ [n]) = nD A ++ [.i .i64 n] := by simp [nD]
theorem pu_nD (L : List Int) : PuL (nD L) := puL_map_i L
def setD : List Int → D
  | [] => .ns
  | a :: l => .lst 1 (ints (a :: l))
theorem setD_pu (S : List Int) : Pu (setD S) := by
  cases S with
  | nil => trivial
  | cons a l => exact pu_ints _
end Go.Ev
namespace Go.Ev
open Go.Proofs
set_option maxRecDepth 100000
theorem cnt_all : ∀ a : _root_.Fin 256, ((((((a.1 / 2 ^ 1 &&& 6148914691236517205) + (a.1 &&& 6148914691236517205)) / 2 ^ 2 &&& 3689348814741910323) + (((a.1 / 2 ^ 1 &&& 6148914691236517205) + (a.1 &&& 6148914691236517205)) &&& 3689348814741910323)) / 2 ^ 4 + ((((a.1 / 2 ^ 1 &&& 6148914691236517205) + (a.1 &&& 6148914691236517205)) / 2 ^ 2 &&& 3689348814741910323) + (((a.1 / 2 ^ 1 &&& 6148914691236517205) + (a.1 &&& 6148914691236517205)) &&& 3689348814741910323)) &&& 1085102592571150095)) = cntN a.1 := by decide +kernel
theorem cnt_le (a : Nat) : cntN a ≤ 8 := by
  unfold cntN
  have := List.length_filter_le (fun i => a.testBit i) (List.range 8)
  rw [List.length_range] at this
  exact this
set_option maxHeartbeats 1000000 in
theorem j_cnt64 (a : Nat) (ha : a < 256) : PureF Try.prog p158.ix [.i .u64 (a : Int)] (.i .i64 (cntN a : Int)) := by
  refine PureF.run fn157 (by simp) (by simp [PuL, PuE, Pu]) ?_; conv => whnf
  repeat' first | ((first | with_reducible (first | apply Qt | apply Qu) | refine Qa rfl ?_ | refine Qk rfl ?_ | refine Qb ?_ | refine Qc ?_ | refine Qi ?_ | refine Qj ?_) <;> conv => whnf)
  refine WSt.shrU (j := 1) (by rfl) (by rfl) rfl (by omega) (fun r1 h1 b1 => ?_); conv => whnf
  refine WSt.andU (b := 6148914691236517205) (by rfl) (by rfl) (by omega) (by decide) (fun r2 h2 b2 => ?_); conv => whnf
  refine WSt.andU (b := 6148914691236517205) (by rfl) (by rfl) (by omega) (by decide) (fun r3 h3 b3 => ?_); conv => whnf
  refine And.intro (InR.u64 (by omega) (by omega)) ?_; conv => whnf
  repeat' first | ((first | with_reducible (first | apply Qt | apply Qu) | refine Qa rfl ?_ | refine Qk rfl ?_ | refine Qb ?_ | refine Qc ?_ | refine Qi ?_ | refine Qj ?_) <;> conv => whnf)
  refine WSt.shrU (a := r2 + r3) (j := 2) (by rfl) (by rfl) rfl (by omega) (fun r4 h4 b4 => ?_); conv => whnf
  refine WSt.andU (b := 3689348814741910323) (by rfl) (by rfl) (by omega) (by decide) (fun r5 h5 b5 => ?_); conv => whnf
  refine WSt.andU (a := r2 + r3) (b := 3689348814741910323) (by rfl) (by rfl) (by omega) (by decide) (fun r6 h6 b6 => ?_); conv => whnf
  refine And.intro (InR.u64 (by omega) (by omega)) ?_; conv => whnf
  repeat' first | ((first | with_reducible (first | apply Qt | apply Qu) | refine Qa rfl ?_ | refine Qk rfl ?_ | refine Qb ?_ | refine Qc ?_ | refine Qi ?_ | refine Qj ?_) <;> conv => whnf)
  refine WSt.shrU (a := r5 + r6) (j := 4) (by rfl) (by rfl) rfl (by omega) (fun r7 h7 b7 => ?_); conv => whnf
  refine And.intro (InR.u64 (by omega) (by omega)) ?_; conv => whnf
  refine WSt.andU (a := r7 + (r5 + r6)) (b := 1085102592571150095) (by rfl) (by rfl) (by omega) (by decide) (fun r8 h8 b8 => ?_); conv => whnf
  have hr8 : r8 = cntN a := by
    rw [h8, h7, h6, h5, h4, h3, h2, h1]
    exact cnt_all ⟨a, ha⟩
  have h88 := cnt_le a
  rw [← hr8] at h88 ⊢
  repeat' first | ((first | with_reducible (first | apply Qt | apply Qu) | refine Qa rfl ?_ | refine Qk rfl ?_ | refine Qb ?_ | refine Qc ?_ | refine Qi ?_ | refine Qj ?_) <;> conv => whnf)
  refine WSt.shrU (a := r8) (j := 8) (by rfl) (by rfl) rfl (by omega) (fun r9 h9 b9 => ?_); conv => whnf
  have z9 : r9 = 0 := by rw [h9]; exact Nat.div_eq_of_lt (by omega)
  subst z9
  refine And.intro (InR.u64 (by omega) (by omega)) ?_; conv => whnf
  repeat' first | ((first | with_reducible (first | apply Qt | apply Qu) | refine Qa rfl ?_ | refine Qk rfl ?_ | refine Qb ?_ | refine Qc ?_ | refine Qi ?_ | refine Qj ?_) <;> conv => whnf)
  refine WSt.shrU (a := r8) (j := 16) (by rfl) (by rfl) rfl (by omega) (fun r10 h10 b10 => ?_); conv => whnf
  have z10 : r10 = 0 := by rw [h10]; exact Nat.div_eq_of_lt (by omega)
  subst z10
  refine And.intro (InR.u64 (by omega) (by omega)) ?_; conv => whnf
  repeat' first | ((first | with_reducible (first | apply Qt | apply Qu) | refine Qa rfl ?_ | refine Qk rfl ?_ | refine Qb ?_ | refine Qc ?_ | refine Qi ?_ | refine Qj ?_) <;> conv => whnf)
  refine WSt.shrU (a := r8) (j := 32) (by rfl) (by rfl) rfl (by omega) (fun r11 h11 b11 => ?_); conv => whnf
  have z11 : r11 = 0 := by rw [h11]; exact Nat.div_eq_of_lt (by omega)
  subst z11
  refine And.intro (InR.u64 (by omega) (by omega)) ?_; conv => whnf
  repeat' first | ((first | with_reducible (first | apply Qt | apply Qu) | refine Qa rfl ?_ | refine Qk rfl ?_ | refine Qb ?_ | refine Qc ?_ | refine Qi ?_ | refine Qj ?_) <;> conv => whnf)
  refine WSt.andB (a := r8) (b := 127) (by rfl) (by rfl) (by omega) (by omega) ?_; conv => whnf
  repeat' first | ((first | with_reducible (first | apply Qt | apply Qu) | refine Qa rfl ?_ | refine Qk rfl ?_ | refine Qb ?_ | refine Qc ?_ | refine Qi ?_ | refine Qj ?_) <;> conv => whnf)
  refine Fin.i rfl ?_
  have : ∀ r : _root_.Fin 9, r.1 &&& 127 = r.1 := by decide
  rw [this ⟨r8, by omega⟩]
theorem j_cnt (a : Nat) (ha : a < 256) : PureF Try.prog p142.ix [.i .u64 (a : Int)] (.i .i64 (cntN a : Int)) := by
  have h := j_cnt64 a ha
  refine PureF.run fn141 (by simp) (by simp [PuL, PuE, Pu]) ?_; conv => whnf
  repeat' first | ((first | with_reducible (first | apply Qt | apply Qu) | refine Qa rfl ?_ | refine Qk rfl ?_ | refine Qb ?_ | refine Qc ?_ | refine Qi ?_ | refine Qj ?_ | refine Qf (h) ?_) <;> conv => whnf)
  try (refine WB.ff ?_; conv => whnf)
  repeat' first | ((first | with_reducible (first | apply Qt | apply Qu) | refine Qa rfl ?_ | refine Qk rfl ?_ | refine Qb ?_ | refine Qc ?_ | refine Qi ?_ | refine Qj ?_ | refine Qf (h) ?_) <;> conv => whnf)
  exact Fin.i rfl rfl
def slE : List Int → D
  | [] => .ns
  | _ :: s => .sl (.o .h) 0 (s.length + 1) s.length 1
def blE : List Int → Option C
  | [] => none
  | a :: s => some (.cells false ((nD (a :: s)).map fun d => Cell.o d s.length) (s.length + 1))
def nxE : List Int → Pos
  | [] => .h
  | _ :: _ => .i .h
theorem slE_snoc (a : Int) (s : List Int) (x : Int) : slE (a :: (s ++ [x])) = .sl (.o .h) 0 (s.length + 1 + 1) (s.length + 1) 1 := by simp [slE]
theorem blE_snoc (a : Int) (s : List Int) (x : Int) : blE (a :: (s ++ [x])) = some (.cells false ((nD (a :: s) ++ [D.i .i64 x]).map fun d => Cell.o d (s.length + 1)) (s.length + 1 + 1)) := by
  have h2 : nD (a :: (s ++ [x])) = nD (a :: s) ++ [.i .i64 x] := nD_snoc (a :: s) x
  simp [blE, h2]
def nmS (c e : Nat) (A : List Int) (j : Nat) : X := ⟨(.n (.n (.n (.n .e (some (.i .i64 (e : Int))) .e) none .e) (some (.i .i64 (e : Int))) (.n .e (some (slE A)) .e)) (some (.i .i64 (c : Int))) (.n (.n (.n .e (some (.i .i64 (j : Int))) .e) none .e) none .e)), .n (.n .e (blE A) .e) none .e, nxE A, none⟩
set_option maxHeartbeats 1000000 in
theorem j_numbers (c e : Nat) (hc : c < 256) (he : e ≤ 8) : PureF Try.prog p143.ix [.i .i64 (c : Int), .i .i64 (e : Int)] (setD (numL c e)) := by
  refine PureF.run fn142 (by simp) (by simp [PuL, PuE, Pu]) ?_; conv => whnf
  repeat' first | ((first | with_reducible (first | apply Qt | apply Qu) | refine Qa rfl ?_ | refine Qk rfl ?_ | refine Qb ?_ | refine Qc ?_ | refine Qi ?_ | refine Qj ?_) <;> conv => whnf)
  refine Rn.loop (fun j : Nat => nmS c e (numJ c e j) j) (fun j => j ≤ e ∧ True) (fun j => e - j) 0 ?_ ?_ ?_
  · refine X.le.mk ?_ ?_ (Nat.le_refl _) rfl rfl
    · show T.le ((.n (.n (.n (.n .e (some (.i .i64 (e : Int))) .e) none .e) (some (.i .i64 (e : Int))) (.n .e (some (.ns)) .e)) (some (.i .i64 (c : Int))) (.n (.n (.n .e (some (.i .i64 ((0 : Nat) : Int))) .e) none .e) none .e)) : T D) _
      (repeat' first | exact T.le_e _ | refine T.le_some ?_ rfl ?_ | refine T.le_none ?_ ?_)
    · show T.le (.n (.n .e none .e) none .e) _
      (repeat' first | exact T.le_e _ | refine T.le_some ?_ rfl ?_ | refine T.le_none ?_ ?_ | refine T.le_ee ?_ ?_)
  · exact ⟨Nat.zero_le _, trivial⟩
  rintro j ⟨hj, _⟩
  have hsc := numJ_succ c e j
  have hAl := numJ_len c e j
  have hend : j = e → numJ c e j = numL c e := fun h => by rw [h]; rfl
  generalize hA : numJ c e j = A at *
  conv => whnf
  repeat' first | ((first | with_reducible (first | apply Qt | apply Qu) | refine Qa rfl ?_ | refine Qk rfl ?_ | refine Qb ?_ | refine Qc ?_ | refine Qi ?_ | refine Qj ?_) <;> conv => whnf)
  refine WB.dec (fun h => ?_) (fun h => ?_) <;> conv => whnf
  · have hlt : j < e := by omega
    obtain ⟨q, hq⟩ : ∃ q : Nat, e - 1 - j = q := ⟨_, rfl⟩
    have hqi : (e : Int) - 1 - (j : Int) = (q : Int) := by omega
    repeat' first | ((first | with_reducible (first | apply Qt | apply Qu) | refine Qa rfl ?_ | refine Qk rfl ?_ | refine Qb ?_ | refine Qc ?_ | refine Qi ?_ | refine Qj ?_) <;> conv => whnf)
    rw [hqi]
    refine WSt.shrU (a := c) (j := q) (by rfl) (by rfl) rfl (by omega) (fun r h1 b1 => ?_); conv => whnf
    refine WSt.andB (a := r) (b := 1) (by rfl) (by rfl) (by omega) (by omega) ?_; conv => whnf
    have hr1 : (r &&& 1 : Nat) = c / 2 ^ (e - 1 - j) % 2 := by rw [Nat.and_one_is_mod, h1, hq]
    rw [hr1]
    by_cases hx : c / 2 ^ (e - 1 - j) % 2 = 1
    · rw [if_pos hx] at hsc
      repeat' first | ((first | with_reducible (first | apply Qt | apply Qu) | refine Qa rfl ?_ | refine Qk rfl ?_ | refine Qb ?_ | refine Qc ?_ | refine Qi ?_ | refine Qj ?_) <;> conv => whnf)
      refine WB.decT (by omega) ?_; conv => whnf
      cases A with
      | nil =>
        repeat' first | ((first | with_reducible (first | apply Qt | apply Qu) | refine Qa rfl ?_ | refine Qk rfl ?_ | refine Qb ?_ | refine Qc ?_ | refine Qi ?_ | refine Qj ?_) <;> conv => whnf)
        refine WSt.app_first (r := [_]) rfl (.inl rfl) rfl rfl rfl rfl ?_; conv => whnf
        repeat' first | ((first | with_reducible (first | apply Qt | apply Qu) | refine Qa rfl ?_ | refine Qk rfl ?_ | refine Qb ?_ | refine Qc ?_ | refine Qi ?_ | refine Qj ?_) <;> conv => whnf)
        refine Again.to (j + 1) (by omega) ⟨by omega, trivial⟩ (by show (nxE (numJ c e j)).nat ≤ (nxE (numJ c e (j + 1))).nat; rw [hA, hsc]; exact (show 1 ≤ 3 by omega)) ?_
        show Shr _ (nmS c e (numJ c e (j + 1)) (j + 1))
        rw [hsc]
        refine Shr.of ?_ ?_ rfl rfl
        · show Rel _ _ ((.n (.n (.n (.n .e (some (.i .i64 (e : Int))) .e) none .e) (some (.i .i64 (e : Int))) (.n .e (some ((.sl (.o .h) 0 1 0 1))) .e)) (some (.i .i64 (c : Int))) (.n (.n (.n .e (some (.i .i64 ((j + 1 : Nat) : Int))) .e) none .e) none .e)) : T D) _
          skip
          (repeat' first | exact Rel.e | refine Rel.some ?_ ?_ ?_ | refine Rel.none ?_ ?_ | refine Rel.ee ?_ ?_)
          all_goals show Fz _ _ _ _
          all_goals first | exact .pu trivial | exact .ksl (show _ < 3 by simp [Pos.nat])
        · show Rel _ _ (.n (.n .e (some (C.cells false ((nD [(j : Int)]).map fun d => Cell.o d 0) 1)) .e) none .e) _
          skip
          (repeat' first | exact Rel.e | refine Rel.some ?_ ?_ ?_ | refine Rel.none ?_ ?_ | refine Rel.ee ?_ ?_)
          exact RO'.of (show _ < 3 by simp [Pos.nat]) (ShC.same (ShC.cn (.pu trivial) ShC.nl))
      | cons a s =>
        have hs5 : s.length + 1 ≤ 10 := Nat.le_trans hAl (by omega)
        repeat' first | ((first | with_reducible (first | apply Qt | apply Qu) | refine Qa rfl ?_ | refine Qk rfl ?_ | refine Qb ?_ | refine Qc ?_ | refine Qi ?_ | refine Qj ?_) <;> conv => whnf)
        refine WSt.app_one (ds := nD (a :: s)) (r := [_]) rfl rfl rfl rfl rfl rfl (by simp [nD]) rfl rfl (by omega) rfl ?_; conv => whnf
        repeat' first | ((first | with_reducible (first | apply Qt | apply Qu) | refine Qa rfl ?_ | refine Qk rfl ?_ | refine Qb ?_ | refine Qc ?_ | refine Qi ?_ | refine Qj ?_) <;> conv => whnf)
        refine Again.to (j + 1) (by omega) ⟨by omega, trivial⟩ (by show (nxE (numJ c e j)).nat ≤ (nxE (numJ c e (j + 1))).nat; rw [hA, hsc, List.cons_append]; exact (show 3 ≤ 3 by omega)) ?_
        show Shr _ (nmS c e (numJ c e (j + 1)) (j + 1))
        rw [hsc, List.cons_append]
        refine Shr.of ?_ ?_ rfl rfl
        · show Rel _ _ ((.n (.n (.n (.n .e (some (.i .i64 (e : Int))) .e) none .e) (some (.i .i64 (e : Int))) (.n .e (some ((slE (a :: (s ++ [(j : Int)]))))) .e)) (some (.i .i64 (c : Int))) (.n (.n (.n .e (some (.i .i64 ((j + 1 : Nat) : Int))) .e) none .e) none .e)) : T D) _
          rw [slE_snoc]
          (repeat' first | exact Rel.e | refine Rel.some ?_ ?_ ?_ | refine Rel.none ?_ ?_ | refine Rel.ee ?_ ?_)
          all_goals show Fz _ _ _ _
          all_goals first | exact .pu trivial | exact .ksl (show _ < 3 by simp [Pos.nat])
        · show Rel _ _ (.n (.n .e (blE (a :: (s ++ [(j : Int)]))) .e) none .e) _
          rw [blE_snoc]
          (repeat' first | exact Rel.e | refine Rel.some ?_ ?_ ?_ | refine Rel.none ?_ ?_ | refine Rel.ee ?_ ?_)
          exact RO'.of (show _ < 3 by simp [Pos.nat]) (ShC.grown (by omega) (PuL_iff.2 fun d hd => by
            rcases List.mem_append.1 hd with hd | hd
            · exact PuL_iff.1 (pu_nD _) d hd
            · simp at hd; subst hd; exact trivial))
    · rw [if_neg hx] at hsc
      repeat' first | ((first | with_reducible (first | apply Qt | apply Qu) | refine Qa rfl ?_ | refine Qk rfl ?_ | refine Qb ?_ | refine Qc ?_ | refine Qi ?_ | refine Qj ?_) <;> conv => whnf)
      refine WB.decF (by omega) ?_; conv => whnf
      cases A with
      | nil =>
        repeat' first | ((first | with_reducible (first | apply Qt | apply Qu) | refine Qa rfl ?_ | refine Qk rfl ?_ | refine Qb ?_ | refine Qc ?_ | refine Qi ?_ | refine Qj ?_) <;> conv => whnf)
        refine Again.to (j + 1) (by omega) ⟨by omega, trivial⟩ (by show (nxE (numJ c e j)).nat ≤ (nxE (numJ c e (j + 1))).nat; rw [hA, hsc]; exact (show 1 ≤ 1 by omega)) ?_
        show Shr _ (nmS c e (numJ c e (j + 1)) (j + 1))
        rw [hsc]
        refine Shr.of ?_ ?_ rfl rfl
        · show Rel _ _ ((.n (.n (.n (.n .e (some (.i .i64 (e : Int))) .e) none .e) (some (.i .i64 (e : Int))) (.n .e (some (.ns)) .e)) (some (.i .i64 (c : Int))) (.n (.n (.n .e (some (.i .i64 ((j + 1 : Nat) : Int))) .e) none .e) none .e)) : T D) _
          skip
          (repeat' first | exact Rel.e | refine Rel.some ?_ ?_ ?_ | refine Rel.none ?_ ?_ | refine Rel.ee ?_ ?_)
          all_goals show Fz _ _ _ _
          all_goals first | exact .pu trivial | exact .ksl (show _ < 3 by simp [Pos.nat])
        · show Rel _ _ (.n (.n .e none .e) none .e) _
          skip
          (repeat' first | exact Rel.e | refine Rel.some ?_ ?_ ?_ | refine Rel.none ?_ ?_ | refine Rel.ee ?_ ?_)
          skip
      | cons a s =>
        repeat' first | ((first | with_reducible (first | apply Qt | apply Qu) | refine Qa rfl ?_ | refine Qk rfl ?_ | refine Qb ?_ | refine Qc ?_ | refine Qi ?_ | refine Qj ?_) <;> conv => whnf)
        refine Again.to (j + 1) (by omega) ⟨by omega, trivial⟩ (by show (nxE (numJ c e j)).nat ≤ (nxE (numJ c e (j + 1))).nat; rw [hA, hsc]; exact (show 3 ≤ 3 by omega)) ?_
        show Shr _ (nmS c e (numJ c e (j + 1)) (j + 1))
        rw [hsc]
        refine Shr.of ?_ ?_ rfl rfl
        · show Rel _ _ ((.n (.n (.n (.n .e (some (.i .i64 (e : Int))) .e) none .e) (some (.i .i64 (e : Int))) (.n .e (some ((.sl (.o .h) 0 (s.length + 1) s.length 1))) .e)) (some (.i .i64 (c : Int))) (.n (.n (.n .e (some (.i .i64 ((j + 1 : Nat) : Int))) .e) none .e) none .e)) : T D) _
          skip
          (repeat' first | exact Rel.e | refine Rel.some ?_ ?_ ?_ | refine Rel.none ?_ ?_ | refine Rel.ee ?_ ?_)
          all_goals show Fz _ _ _ _
          all_goals first | exact .pu trivial | exact .ksl (show _ < 3 by simp [Pos.nat])
        · show Rel _ _ (.n (.n .e (some (C.cells false ((nD (a :: s)).map fun d => Cell.o d s.length) (s.length + 1))) .e) none .e) _
          skip
          (repeat' first | exact Rel.e | refine Rel.some ?_ ?_ ?_ | refine Rel.none ?_ ?_ | refine Rel.ee ?_ ?_)
          exact RO'.of (show _ < 3 by simp [Pos.nat]) (ShC.same fun c hc => by
            obtain ⟨d, hd, rfl⟩ := List.mem_map.1 hc
            exact .pu (PuL_iff.1 (pu_nD _) d hd))
  · have he := hend (by omega)
    rw [← he]
    cases A with
    | nil =>
      repeat' first | ((first | with_reducible (first | apply Qt | apply Qu) | refine Qa rfl ?_ | refine Qk rfl ?_ | refine Qb ?_ | refine Qc ?_ | refine Qi ?_ | refine Qj ?_) <;> conv => whnf)
      exact Fin.t (.inr rfl) rfl (.pu trivial)
    | cons a s =>
      repeat' first | ((first | with_reducible (first | apply Qt | apply Qu) | refine Qa rfl ?_ | refine Qk rfl ?_ | refine Qb ?_ | refine Qc ?_ | refine Qi ?_ | refine Qj ?_) <;> conv => whnf)
      exact Fin.t (.inr rfl) rfl (Frz.whole (cs := (nD (a :: s)).map fun d => Cell.o d s.length) (cur := s.length + 1) rfl (by rw [ints_length]; rfl) (ints_one _) (by rw [ints_flatten]; rfl) (pu_ints _))
end Go.Ev
namespace Go.Ev
set_option maxRecDepth 100000
section
variable {α : Type}
def slG (id : Pos) (z : Nat) : List α → D
  | [] => .ns
  | _ :: s => .sl id 0 (s.length + 1) s.length z
def blG (f : α → List D) : List α → Option C
  | [] => none
  | a :: s => some (.cells false ((rows f (a :: s)).flatten.map fun d => Cell.o d s.length) (s.length + 1))
def nxG (p q : Pos) : List α → Pos
  | [] => p
  | _ :: _ => q
variable {f : α → List D}
theorem rowsF_snoc (A : List α) (x : α) : (rows f (A ++ [x])).flatten = (rows f A).flatten ++ f x := by simp [rows]
theorem rowsF_len {z : Nat} (hz : ∀ a, (f a).length = z) (A : List α) : (rows f A).flatten.length = A.length * z := by
  induction A with
  | nil => simp [rows]
  | cons a s ih =>
    show (f a ++ (rows f s).flatten).length = _
    rw [List.length_append, hz, ih, List.length_cons, Nat.add_mul]; omega
theorem rowsF_pu (hp : ∀ a, PuL (f a)) (A : List α) : PuL (rows f A).flatten := PuL_iff.2 fun d hd => by
  obtain ⟨r, hr, hd⟩ := List.mem_flatten.1 hd
  obtain ⟨a, _, rfl⟩ := List.mem_map.1 hr
  exact PuL_iff.1 (hp a) d hd
theorem slG_snoc {id : Pos} {z : Nat} (a : α) (s : List α) (x : α) : slG id z (a :: (s ++ [x])) = .sl id 0 (s.length + 1 + 1) (s.length + 1) z := by simp [slG]
theorem blG_snoc (a : α) (s : List α) (x : α) : blG f (a :: (s ++ [x])) = some (.cells false (((rows f (a :: s)).flatten ++ f x).map fun d => Cell.o d (s.length + 1)) (s.length + 1 + 1)) := by
  have h2 : (rows f (a :: (s ++ [x]))).flatten = (rows f (a :: s)).flatten ++ f x := rowsF_snoc (a :: s) x
  show some (Ev.C.cells false ((rows f (a :: (s ++ [x]))).flatten.map fun d => Cell.o d (s ++ [x]).length) ((s ++ [x]).length + 1)) = _
  rw [h2, List.length_append, List.length_singleton]
theorem Fz.G {B : Pos → Prop} {ob : T C} {id : Pos} {z : Nat} (A : List α) (hB : ¬ B id) (ho : ∀ c, blG f A = some c → ob.get id = some c) (hz : ∀ a, (f a).length = z) (hp : ∀ a, PuL (f a)) : Fz B ob (slG id z A) (.lst z (rows f A)) := by
  cases A with
  | nil => exact .ns
  | cons a s =>
    refine .sl (cs := (rows f (a :: s)).flatten.map fun d => Cell.o d s.length) hB (ho _ rfl) (by rw [rows_length]; rfl) (fun r hr => ?_) (fun k d hk => ⟨.o d s.length, ?_, ?_, rfl⟩) (FzE.of (pu_rows hp _))
    · obtain ⟨a, _, rfl⟩ := List.mem_map.1 hr
      exact hz a
    · rw [List.drop_zero, List.getElem?_map, hk]; rfl
    · show Nat.ble s.length s.length = true
      exact Nat.ble_eq_true_of_le (Nat.le_refl _)
theorem ShC.G {B : Pos → Prop} {ob : T C} (hp : ∀ a, PuL (f a)) (a : α) (s : List α) : ShC B ob (.cells false ((rows f (a :: s)).flatten.map fun d => Cell.o d s.length) (s.length + 1)) (.cells false ((rows f (a :: s)).flatten.map fun d => Cell.o d s.length) (s.length + 1)) :=
  ShC.same fun c hc => by
    obtain ⟨d, hd, rfl⟩ := List.mem_map.1 hc
    exact .pu (PuL_iff.1 (rowsF_pu hp _) d hd)
end
end Go.Ev
namespace Go.Ev
open Go.Proofs
set_option maxRecDepth 100000
def idxR (A : List Int) (x : Int) : Int :=
  match (List.range A.length).find? fun i : Nat => decide (x = A.getD i 0) with
  | some n => (n : Int)
  | none => -1
theorem j_Index (A : List Int) (x : Int) (hl : A.length ≤ 1000) : PureF Try.prog p159.ix [.lst 1 (ints A), .i .i64 x] (.i .i64 (idxR A x)) := by
  have e1 := ints_length A
  refine PureF.run fn158 (by simp) (by simp [PuL, PuE, Pu, pu_ints]) ?_; conv => whnf
  repeat' first | ((first | with_reducible (first | apply Qt | apply Qu) | refine Qa rfl ?_ | refine Qk rfl ?_ | refine Qb ?_ | refine Qc ?_ | refine Qi ?_ | refine Qj ?_) <;> conv => whnf)
  refine Rn.loop (fun j : Nat => ⟨(.n (.n (.n (.n .e (some (.i .i64 (A.length : Int))) .e) none .e) (some (.i .i64 x)) .e) (some (.lst 1 (ints A))) (.n (.n (.n .e (some (.i .i64 (j : Int))) .e) none .e) none .e)), .e, .h, none⟩) (fun j => j ≤ A.length ∧ ∀ i, i < j → decide (x = A.getD i 0) = false) (fun j => A.length - j) 0 ?_ ?_ ?_
  · refine X.le.mk ?_ (T.le_e _) (Nat.le_refl _) rfl rfl
    show T.le ((.n (.n (.n (.n .e (some (.i .i64 (A.length : Int))) .e) none .e) (some (.i .i64 x)) .e) (some (.lst 1 (ints A))) (.n (.n (.n .e (some (.i .i64 0)) .e) none .e) none .e)) : T D) _
    rw [← e1]
    (repeat' first | exact T.le_e _ | refine T.le_some ?_ rfl ?_ | refine T.le_none ?_ ?_)
  · exact ⟨Nat.zero_le _, fun i h => by omega⟩
  rintro j ⟨hj, ha⟩
  conv => whnf
  repeat' first | ((first | with_reducible (first | apply Qt | apply Qu) | refine Qa rfl ?_ | refine Qk rfl ?_ | refine Qb ?_ | refine Qc ?_ | refine Qi ?_ | refine Qj ?_) <;> conv => whnf)
  refine WB.dec (fun h => ?_) (fun h => ?_) <;> conv => whnf
  · have hlt : j < A.length := by omega
    repeat' first | ((first | with_reducible (first | apply Qt | apply Qu) | refine Qa rfl ?_ | refine Qk rfl ?_ | refine Qb ?_ | refine Qc ?_ | refine Qi ?_ | refine Qj ?_) <;> conv => whnf)
    refine WB.dec (fun h => ?_) (fun h => ?_) <;> conv => whnf
    · have hx : x = A.getD j 0 := h
      repeat' first | ((first | with_reducible (first | apply Qt | apply Qu) | refine Qa rfl ?_ | refine Qk rfl ?_ | refine Qb ?_ | refine Qc ?_ | refine Qi ?_ | refine Qj ?_) <;> conv => whnf)
      refine Fin.i rfl ?_
      unfold idxR
      rw [List.find?_range_eq_some.2 ⟨decide_eq_true hx, List.mem_range.2 hlt, fun i hi => by rw [ha i hi]; rfl⟩]
    · have hx : ¬ x = A.getD j 0 := h
      repeat' first | ((first | with_reducible (first | apply Qt | apply Qu) | refine Qa rfl ?_ | refine Qk rfl ?_ | refine Qb ?_ | refine Qc ?_ | refine Qi ?_ | refine Qj ?_) <;> conv => whnf)
      refine Again.to (j + 1) (by omega) ⟨by omega, fun i hi => ?_⟩ (Nat.le_refl _) ?_
      · by_cases e : i = j
        · subst e; exact decide_eq_false hx
        · exact ha i (by omega)
      (refine Shr.of ?_ ?_ rfl rfl) <;> (repeat' first | exact Rel.e | refine Rel.some ?_ ?_ ?_ | refine Rel.none ?_ ?_) <;> (try first | (show Fz _ _ _ _; first | exact Fz.pu trivial | (refine Fz.i ?_; first | rfl | omega) | (refine Fz.kpt ?_; (focus (show Pos.nat _ < Pos.nat _; simp [Pos.nat]; done))) | (refine Fz.ksl ?_; (focus (show Pos.nat _ < Pos.nat _; simp [Pos.nat]; done))) | (refine Fz.kmp ?_; (focus (show Pos.nat _ < Pos.nat _; simp [Pos.nat]; done))) | (refine Fz.pu ?_; simp [Cell.d, Pu, PuL, PuE, pu_ints, pu_ln, pu_ct]; done) | (refine Fz.pu ?_; simp only [Cell.d]; assumption)) | (refine RO'.of ?_ (ShC.same ?_); (focus (show Pos.nat _ < Pos.nat _; simp [Pos.nat]; done)); (repeat' first | exact ShC.nl | refine ShC.cn ?_ ?_) <;> first | exact Fz.pu trivial | (refine Fz.i ?_; first | rfl | omega) | (refine Fz.kpt ?_; (focus (show Pos.nat _ < Pos.nat _; simp [Pos.nat]; done))) | (refine Fz.ksl ?_; (focus (show Pos.nat _ < Pos.nat _; simp [Pos.nat]; done))) | (refine Fz.kmp ?_; (focus (show Pos.nat _ < Pos.nat _; simp [Pos.nat]; done))) | (refine Fz.pu ?_; simp [Cell.d, Pu, PuL, PuE, pu_ints, pu_ln, pu_ct]; done) | (refine Fz.pu ?_; simp only [Cell.d]; assumption)))
      all_goals first | (refine Fz.i ?_; omega) | (refine Fz.pu ?_; simp [Pu, pu_ints])
  · repeat' first | ((first | with_reducible (first | apply Qt | apply Qu) | refine Qa rfl ?_ | refine Qk rfl ?_ | refine Qb ?_ | refine Qc ?_ | refine Qi ?_ | refine Qj ?_) <;> conv => whnf)
    refine Fin.i rfl ?_
    unfold idxR
    rw [List.find?_range_eq_none.2 fun i hi => by rw [ha i (by omega)]; rfl]
def conR (A : List Int) (x : Int) : Bool := decide (0 ≤ idxR A x)
theorem j_Contains (A : List Int) (x : Int) (hl : A.length ≤ 1000) : PureF Try.prog p144.ix [.lst 1 (ints A), .i .i64 x] (.b (conR A x)) := by
  have iI := j_Index A x hl
  refine PureF.run fn143 (by simp) (by simp [PuL, PuE, Pu, pu_ints]) ?_; conv => whnf
  repeat' first | ((first | with_reducible (first | apply Qt | apply Qu) | refine Qa rfl ?_ | refine Qk rfl ?_ | refine Qb ?_ | refine Qc ?_ | refine Qi ?_ | refine Qj ?_ | refine Qf (iI) ?_) <;> conv => whnf)
  exact Fin.b rfl rfl
theorem j_IndexN (x : Int) : PureF Try.prog p159.ix [.ns, .i .i64 x] (.i .i64 (-1)) := by
  refine PureF.run fn158 (by simp) (by simp [PuL, PuE, Pu]) ?_; conv => whnf
  repeat' first | ((first | with_reducible (first | apply Qt | apply Qu) | refine Qa rfl ?_ | refine Qk rfl ?_ | refine Qb ?_ | refine Qc ?_ | refine Qi ?_ | refine Qj ?_) <;> conv => whnf)
  refine Rn.loop (fun _ : Nat => ⟨(.n (.n (.n (.n .e (some (.i .i64 0)) .e) none .e) (some (.i .i64 x)) .e) (some (.ns)) (.n (.n (.n .e (some (.i .i64 0)) .e) none .e) none .e)), .e, .h, none⟩) (fun _ => True) (fun _ => 0) 0 ?_ ?_ ?_
  · (first | (refine X.le.mk ?_ ?_ (Nat.le_refl _) rfl rfl) | skip) <;> (repeat' first | exact T.le_e _ | refine T.le_some ?_ ?_ ?_ | refine T.le_none ?_ ?_ | rfl)
  · trivial
  intro j _
  conv => whnf
  repeat' first | ((first | with_reducible (first | apply Qt | apply Qu) | refine Qa rfl ?_ | refine Qk rfl ?_ | refine Qb ?_ | refine Qc ?_ | refine Qi ?_ | refine Qj ?_) <;> conv => whnf)
  refine WB.ff ?_; conv => whnf
  repeat' first | ((first | with_reducible (first | apply Qt | apply Qu) | refine Qa rfl ?_ | refine Qk rfl ?_ | refine Qb ?_ | refine Qc ?_ | refine Qi ?_ | refine Qj ?_) <;> conv => whnf)
  exact Fin.i rfl rfl
theorem j_ContainsN (x : Int) : PureF Try.prog p144.ix [.ns, .i .i64 x] (.b (conR [] x)) := by
  have iI := j_IndexN x
  refine PureF.run fn143 (by simp) (by simp [PuL, PuE, Pu]) ?_; conv => whnf
  repeat' first | ((first | with_reducible (first | apply Qt | apply Qu) | refine Qa rfl ?_ | refine Qk rfl ?_ | refine Qb ?_ | refine Qc ?_ | refine Qi ?_ | refine Qj ?_ | refine Qf (iI) ?_) <;> conv => whnf)
  exact Fin.b rfl rfl
theorem conR_iff {A : List Int} {x : Int} : conR A x = true ↔ x ∈ A := by
  unfold conR idxR
  rw [decide_eq_true_iff]
  cases hF : (List.range A.length).find? fun i : Nat => decide (x = A.getD i 0) with
  | some n =>
    obtain ⟨h1, h2, _⟩ := List.find?_range_eq_some.1 hF
    have h1 : x = A.getD n 0 := by simpa using h1
    refine ⟨fun _ => ?_, fun _ => Int.natCast_nonneg n⟩
    rw [h1]
    exact getD_mem (List.mem_range.1 h2)
  | none =>
    have h3 := List.find?_range_eq_none.1 hF
    refine ⟨fun h => absurd h (by decide), fun h => ?_⟩
    obtain ⟨k, hk, e⟩ := List.mem_iff_getElem.1 h
    have h4 := h3 k hk
    have h5 : x = A.getD k 0 := by simp [List.getD, hk, e]
    rw [decide_eq_true h5] at h4
    cases h4
theorem j_ContainsS (S : List Int) (x : Int) (hl : S.length ≤ 1000) : PureF Try.prog p144.ix [setD S, .i .i64 x] (.b (conR S x)) := by
  cases S with
  | nil => exact j_ContainsN x
  | cons a l => exact j_Contains (a :: l) x hl
theorem j_nan (x : Int) : PureF Try.prog p161.ix [.i .i64 x] (.b false) := by
  refine PureF.run fn160 (by simp) (by simp [PuL, PuE, Pu]) ?_; conv => whnf
  repeat' first | ((first | with_reducible (first | apply Qt | apply Qu) | refine Qa rfl ?_ | refine Qk rfl ?_ | refine Qb ?_ | refine Qc ?_ | refine Qi ?_ | refine Qj ?_ | with_reducible (first | refine Qm ?_ | refine Qn ?_ | refine Qo ?_ | refine Qp ?_ | refine WB.nt ?_ | refine WB.nf ?_ | refine WB.dec (fun h => ?_) (fun h => ?_) | refine WB.ndec (fun h => ?_) (fun h => ?_)) | refine WB.mk (fun h => ?_) (fun h => ?_)) <;> conv => whnf)
  all_goals first | exact Fin.b rfl rfl | exact Fin.b rfl (by simp) | trace_state
theorem j_cnan (x : Int) : PureF Try.prog p165.ix [.i .i64 x] (.b false) := by
  refine PureF.run fn164 (by simp) (by simp [PuL, PuE, Pu]) ?_; conv => whnf
  repeat' first | ((first | with_reducible (first | apply Qt | apply Qu) | refine Qa rfl ?_ | refine Qk rfl ?_ | refine Qb ?_ | refine Qc ?_ | refine Qi ?_ | refine Qj ?_ | with_reducible (first | refine Qm ?_ | refine Qn ?_ | refine Qo ?_ | refine Qp ?_ | refine WB.nt ?_ | refine WB.nf ?_ | refine WB.dec (fun h => ?_) (fun h => ?_) | refine WB.ndec (fun h => ?_) (fun h => ?_)) | refine WB.mk (fun h => ?_) (fun h => ?_)) <;> conv => whnf)
  all_goals first | exact Fin.b rfl rfl | exact Fin.b rfl (by simp) | trace_state
theorem j_less (a b : Int) : PureF Try.prog p160.ix [.i .i64 a, .i .i64 b] (.b (decide (a < b))) := by
  have h1 := j_cnan a
  refine PureF.run fn159 (by simp) (by simp [PuL, PuE, Pu]) ?_; conv => whnf
  repeat' first | ((first | with_reducible (first | apply Qt | apply Qu) | refine Qa rfl ?_ | refine Qk rfl ?_ | refine Qb ?_ | refine Qc ?_ | refine Qi ?_ | refine Qj ?_ | refine Qf (h1) ?_) <;> conv => whnf)
  repeat' first | ((first | with_reducible (first | apply Qt | apply Qu) | refine WB.ff ?_ | refine WB.tt ?_) <;> conv => whnf)
  all_goals exact Fin.b rfl rfl
def ltN (S : List Int) (t : Int) : Nat := (S.filter fun x => decide (x < t)).length
theorem ltN_le (S : List Int) (t : Int) : ltN S t ≤ S.length := List.length_filter_le _ _
theorem ltN_at {S : List Int} (hs : S.Pairwise (· < ·)) {t : Int} {i : Nat} (hi : i ≤ S.length) (h1 : ∀ k, k < i → S.getD k 0 < t) (h2 : ∀ k, i ≤ k → k < S.length → ¬ S.getD k 0 < t) : ltN S t = i := by
  have e : S = S.take i ++ S.drop i := (List.take_append_drop i S).symm
  unfold ltN
  rw [e, List.filter_append, List.length_append]
  have a1 : (S.take i).filter (fun x => decide (x < t)) = S.take i := by
    rw [List.filter_eq_self]
    intro x hx
    obtain ⟨k, hk, rfl⟩ := List.mem_iff_getElem.1 hx
    rw [List.length_take] at hk
    have := h1 k (by omega)
    rw [decide_eq_true_iff]
    simpa [List.getD, show k < S.length by omega] using this
  have a2 : (S.drop i).filter (fun x => decide (x < t)) = [] := by
    rw [List.filter_eq_nil_iff]
    intro x hx
    obtain ⟨k, hk, rfl⟩ := List.mem_iff_getElem.1 hx
    rw [List.length_drop] at hk
    have := h2 (i + k) (by omega) (by omega)
    rw [decide_eq_true_iff]
    simpa [List.getD, show i + k < S.length by omega] using this
  rw [a1, a2, List.length_take, List.length_nil]
  omega
theorem pw_at {S : List Int} (hs : S.Pairwise (· < ·)) {i k : Nat} (h : i < k) (hk : k < S.length) : S.getD i 0 < S.getD k 0 := by
  rw [show S.getD i 0 = S[i] by simp [List.getD, show i < S.length by omega], show S.getD k 0 = S[k] by simp [List.getD, hk]]
  exact List.pairwise_iff_getElem.1 hs i k (by omega) hk h
def bsF (S : List Int) (t : Int) : Bool := decide (ltN S t < S.length) && decide (S.getD (ltN S t) 0 = t)
set_option maxHeartbeats 1000000 in
theorem j_bs (S : List Int) (hs : S.Pairwise (· < ·)) (hl : S.length ≤ 1000) (t : Int) : PureF Try.prog p145.ix [.lst 1 (ints S), .i .i64 t] (.tp [.i .i64 (ltN S t : Int), .b (bsF S t)]) := by
  have e1 := ints_length S
  refine PureF.run fn144 (by simp) (by simp [PuL, PuE, Pu, pu_ints]) ?_; conv => whnf
  repeat' first | ((first | with_reducible (first | apply Qt | apply Qu) | refine Qa rfl ?_ | refine Qk rfl ?_ | refine Qb ?_ | refine Qc ?_ | refine Qi ?_ | refine Qj ?_) <;> conv => whnf)
  refine Rn.loop (fun s : Nat × Nat => ⟨(.n (.n (.n (.n .e (some (.i .i64 (s.1 : Int))) .e) none .e) (some (.i .i64 t)) .e) (some (.lst 1 (ints S))) (.n (.n (.n .e (some (.i .i64 (s.2 : Int))) .e) none .e) none (.n .e (some (.i .i64 (S.length : Int))) .e))), .e, .h, none⟩) (fun s => s.1 ≤ s.2 ∧ s.2 ≤ S.length ∧ (∀ k, k < s.1 → S.getD k 0 < t) ∧ ∀ k, s.2 ≤ k → k < S.length → ¬ S.getD k 0 < t) (fun s => s.2 - s.1) (0, S.length) ?_ ?_ ?_
  · refine X.le.mk ?_ (T.le_e _) (Nat.le_refl _) rfl rfl
    show T.le ((.n (.n (.n (.n .e (some (.i .i64 0)) .e) none .e) (some (.i .i64 t)) .e) (some (.lst 1 (ints S))) (.n (.n (.n .e (some (.i .i64 (S.length : Int))) .e) none .e) none (.n .e (some (.i .i64 (S.length : Int))) .e))) : T D) _
    rw [← e1]
    (repeat' first | exact T.le_e _ | refine T.le_some ?_ rfl ?_ | refine T.le_none ?_ ?_)
  · exact ⟨Nat.zero_le _, Nat.le_refl _, fun k h => absurd h (Nat.not_lt_zero _), fun k h1 h2 => by omega⟩
  rintro ⟨i, j⟩ ⟨hij, hj, hlo, hhi⟩
  have hij : i ≤ j := hij
  have hj : j ≤ S.length := hj
  have hlo : ∀ k, k < i → S.getD k 0 < t := hlo
  have hhi : ∀ k, j ≤ k → k < S.length → ¬ S.getD k 0 < t := hhi
  conv => whnf
  repeat' first | ((first | with_reducible (first | apply Qt | apply Qu) | refine Qa rfl ?_ | refine Qk rfl ?_ | refine Qb ?_ | refine Qc ?_ | refine Qi ?_ | refine Qj ?_) <;> conv => whnf)
  refine WB.dec (fun h => ?_) (fun h => ?_) <;> conv => whnf
  · have hlt : i < j := by omega
    obtain ⟨m, hm⟩ : ∃ m : Nat, (i + j) / 2 = m := ⟨_, rfl⟩
    repeat' first | ((first | with_reducible (first | apply Qt | apply Qu) | refine Qa rfl ?_ | refine Qk rfl ?_ | refine Qb ?_ | refine Qc ?_ | refine Qi ?_ | refine Qj ?_) <;> conv => whnf)
    try (refine And.intro (InR.u64 (by omega) (by omega)) ?_; conv => whnf)
    repeat' first | ((first | with_reducible (first | apply Qt | apply Qu) | refine Qa rfl ?_ | refine Qk rfl ?_ | refine Qb ?_ | refine Qc ?_ | refine Qi ?_ | refine Qj ?_) <;> conv => whnf)
    refine WSt.shrU (a := i + j) (j := 1) (by rfl) (by rfl) rfl (by omega) (fun r h1 b1 => ?_); conv => whnf
    have hr : r = m := by omega
    subst hr
    have hmj : r < j := by omega
    have hmi : i ≤ r := by omega
    have iL := j_less (S.getD r 0) t
    repeat' first | ((first | with_reducible (first | apply Qt | apply Qu) | refine Qa rfl ?_ | refine Qk rfl ?_ | refine Qb ?_ | refine Qc ?_ | refine Qi ?_ | refine Qj ?_) <;> conv => whnf)
    repeat' first | ((first | with_reducible (first | apply Qt | apply Qu) | refine Qa rfl ?_ | refine Qk rfl ?_ | refine Qb ?_ | refine Qc ?_ | refine Qi ?_ | refine Qj ?_ | refine Qf (iL) ?_) <;> conv => whnf)
    by_cases hc : S.getD r 0 < t
    · rw [decide_eq_true hc]
      refine WB.tt ?_; conv => whnf
      repeat' first | ((first | with_reducible (first | apply Qt | apply Qu) | refine Qa rfl ?_ | refine Qk rfl ?_ | refine Qb ?_ | refine Qc ?_ | refine Qi ?_ | refine Qj ?_) <;> conv => whnf)
      refine Again.to (r + 1, j) (show j - (r + 1) < j - i by omega) ⟨by show r + 1 ≤ j; omega, hj, fun k hk => ?_, hhi⟩ (Nat.le_refl _) ?_
      · rcases Nat.lt_or_ge k r with h | h
        · exact Int.lt_trans (pw_at hs h (by omega)) hc
        · have : k = r := by have hk : k < r + 1 := hk; omega
          rw [this]; exact hc
      (refine Shr.of ?_ ?_ rfl rfl) <;> (repeat' first | exact Rel.e | refine Rel.some ?_ ?_ ?_ | refine Rel.none ?_ ?_) <;> (try first | (show Fz _ _ _ _; first | exact Fz.pu trivial | (refine Fz.i ?_; first | rfl | omega) | (refine Fz.kpt ?_; (focus (show Pos.nat _ < Pos.nat _; simp [Pos.nat]; done))) | (refine Fz.ksl ?_; (focus (show Pos.nat _ < Pos.nat _; simp [Pos.nat]; done))) | (refine Fz.kmp ?_; (focus (show Pos.nat _ < Pos.nat _; simp [Pos.nat]; done))) | (refine Fz.pu ?_; simp [Cell.d, Pu, PuL, PuE, pu_ints, pu_ln, pu_ct]; done) | (refine Fz.pu ?_; simp only [Cell.d]; assumption)) | (refine RO'.of ?_ (ShC.same ?_); (focus (show Pos.nat _ < Pos.nat _; simp [Pos.nat]; done)); (repeat' first | exact ShC.nl | refine ShC.cn ?_ ?_) <;> first | exact Fz.pu trivial | (refine Fz.i ?_; first | rfl | omega) | (refine Fz.kpt ?_; (focus (show Pos.nat _ < Pos.nat _; simp [Pos.nat]; done))) | (refine Fz.ksl ?_; (focus (show Pos.nat _ < Pos.nat _; simp [Pos.nat]; done))) | (refine Fz.kmp ?_; (focus (show Pos.nat _ < Pos.nat _; simp [Pos.nat]; done))) | (refine Fz.pu ?_; simp [Cell.d, Pu, PuL, PuE, pu_ints, pu_ln, pu_ct]; done) | (refine Fz.pu ?_; simp only [Cell.d]; assumption)))
      all_goals first | exact Fz.pu (pu_ints _) | exact Fz.pu trivial
    · rw [decide_eq_false hc]
      refine WB.ff ?_; conv => whnf
      repeat' first | ((first | with_reducible (first | apply Qt | apply Qu) | refine Qa rfl ?_ | refine Qk rfl ?_ | refine Qb ?_ | refine Qc ?_ | refine Qi ?_ | refine Qj ?_) <;> conv => whnf)
      refine Again.to (i, r) (show r - i < j - i by omega) ⟨hmi, by show r ≤ S.length; omega, hlo, fun k h1 h2 => ?_⟩ (Nat.le_refl _) ?_
      · have h1 : r ≤ k := h1
        rcases Nat.lt_or_ge r k with h | h
        · have := pw_at hs h h2
          omega
        · have : k = r := by omega
          rw [this]; exact hc
      (refine Shr.of ?_ ?_ rfl rfl) <;> (repeat' first | exact Rel.e | refine Rel.some ?_ ?_ ?_ | refine Rel.none ?_ ?_) <;> (try first | (show Fz _ _ _ _; first | exact Fz.pu trivial | (refine Fz.i ?_; first | rfl | omega) | (refine Fz.kpt ?_; (focus (show Pos.nat _ < Pos.nat _; simp [Pos.nat]; done))) | (refine Fz.ksl ?_; (focus (show Pos.nat _ < Pos.nat _; simp [Pos.nat]; done))) | (refine Fz.kmp ?_; (focus (show Pos.nat _ < Pos.nat _; simp [Pos.nat]; done))) | (refine Fz.pu ?_; simp [Cell.d, Pu, PuL, PuE, pu_ints, pu_ln, pu_ct]; done) | (refine Fz.pu ?_; simp only [Cell.d]; assumption)) | (refine RO'.of ?_ (ShC.same ?_); (focus (show Pos.nat _ < Pos.nat _; simp [Pos.nat]; done)); (repeat' first | exact ShC.nl | refine ShC.cn ?_ ?_) <;> first | exact Fz.pu trivial | (refine Fz.i ?_; first | rfl | omega) | (refine Fz.kpt ?_; (focus (show Pos.nat _ < Pos.nat _; simp [Pos.nat]; done))) | (refine Fz.ksl ?_; (focus (show Pos.nat _ < Pos.nat _; simp [Pos.nat]; done))) | (refine Fz.kmp ?_; (focus (show Pos.nat _ < Pos.nat _; simp [Pos.nat]; done))) | (refine Fz.pu ?_; simp [Cell.d, Pu, PuL, PuE, pu_ints, pu_ln, pu_ct]; done) | (refine Fz.pu ?_; simp only [Cell.d]; assumption)))
      all_goals first | exact Fz.pu (pu_ints _) | exact Fz.pu trivial
  · have he : i = j := by omega
    subst he
    have hN : ltN S t = i := ltN_at hs hj hlo hhi
    have hB : bsF S t = (decide (i < S.length) && decide (S.getD i 0 = t)) := by unfold bsF; rw [hN]
    rw [hN, hB]
    by_cases h1 : i < S.length
    · by_cases h2 : S.getD i 0 = t
      · rw [decide_eq_true h1, decide_eq_true h2]
        repeat' first | ((first | with_reducible (first | apply Qt | apply Qu) | refine Qa rfl ?_ | refine Qk rfl ?_ | refine Qb ?_ | refine Qc ?_ | refine Qi ?_ | refine Qj ?_ | with_reducible (first | refine Qm ?_ | refine Qn ?_ | refine Qo ?_ | refine Qp ?_ | refine WB.nt ?_ | refine WB.nf ?_ | refine WB.dec (fun h => ?_) (fun h => ?_) | refine WB.ndec (fun h => ?_) (fun h => ?_)) | refine WB.mk (fun h => ?_) (fun h => ?_)) <;> conv => whnf)
        all_goals exact Fin.two (.inr rfl) rfl rfl (.pu trivial) (.pu trivial)
      · have iN := j_nan (S.getD i 0)
        rw [decide_eq_true h1, decide_eq_false h2]
        repeat' first | ((first | with_reducible (first | apply Qt | apply Qu) | refine Qa rfl ?_ | refine Qk rfl ?_ | refine Qb ?_ | refine Qc ?_ | refine Qi ?_ | refine Qj ?_ | refine Qf (iN) ?_ | with_reducible (first | refine Qm ?_ | refine Qn ?_ | refine Qo ?_ | refine Qp ?_ | refine WB.nt ?_ | refine WB.nf ?_ | refine WB.dec (fun h => ?_) (fun h => ?_) | refine WB.ndec (fun h => ?_) (fun h => ?_)) | refine WB.mk (fun h => ?_) (fun h => ?_)) <;> conv => whnf)
        repeat' first | ((first | with_reducible (first | apply Qt | apply Qu) | refine WB.ff ?_ | refine WB.tt ?_) <;> conv => whnf)
        all_goals exact Fin.two (.inr rfl) rfl rfl (.pu trivial) (.pu trivial)
    · rw [decide_eq_false h1]
      repeat' first | ((first | with_reducible (first | apply Qt | apply Qu) | refine Qa rfl ?_ | refine Qk rfl ?_ | refine Qb ?_ | refine Qc ?_ | refine Qi ?_ | refine Qj ?_ | with_reducible (first | refine Qm ?_ | refine Qn ?_ | refine Qo ?_ | refine Qp ?_ | refine WB.nt ?_ | refine WB.nf ?_ | refine WB.dec (fun h => ?_) (fun h => ?_) | refine WB.ndec (fun h => ?_) (fun h => ?_)) | refine WB.mk (fun h => ?_) (fun h => ?_)) <;> conv => whnf)
      all_goals exact Fin.two (.inr rfl) rfl rfl (.pu trivial) (.pu trivial)
theorem j_bsN (t : Int) : PureF Try.prog p145.ix [.ns, .i .i64 t] (.tp [.i .i64 (ltN [] t : Int), .b (bsF [] t)]) :=
  (j_bs [] .nil (Nat.zero_le _) t).sub fun γ w => .cons .ns (.cons (.pu (fun _ h => h) trivial) .nil)
theorem j_bsS (S : List Int) (hs : S.Pairwise (· < ·)) (hl : S.length ≤ 1000) (t : Int) : PureF Try.prog p145.ix [setD S, .i .i64 t] (.tp [.i .i64 (ltN S t : Int), .b (bsF S t)]) := by
  cases S with
  | nil => exact j_bsN t
  | cons a l => exact j_bs (a :: l) hs hl t
end Go.Ev