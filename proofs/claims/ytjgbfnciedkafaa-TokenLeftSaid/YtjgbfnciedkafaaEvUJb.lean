import Derived.Test.YtjgbfnciedkafaaEvUJ8
import Derived.Test.YtjgbfnciedkafaaEvUFg
set_option linter.all false
namespace Go.Ev
open Go.Proofs
set_option maxRecDepth 100000
theorem WCall.borrow1 {P : Program} {f : Nat} {ds ds' : List D} {v : D} (h : PureF P f ds' v) (id : Pos) (c : C) {sl : T D} {ob : T C} {nx : Pos} {lg lg2 : Option (T Bool)} {d : Option Pos} {K : X → Prop} (hz : FzL (fun _ => False) (T.set id c .e) ds ds') (hv : Flat v) (hid : ob.get id = some c) (hlg2 : lgW lg id = lg2) (k : wDst sl ob nx lg2 d K v) : WCall P f ds d ⟨sl, ob, nx, lg⟩ K := by
  subst hlg2
  have hone : (T.set id c .e).get id = some c := T.get_set_same _ _ _
  have C := PureF.borrowL h (ob := ob) (ob1 := T.set id c .e) (ds := ds) hz (fun j c' hc => by
    by_cases e : j = id
    · subst e; rw [hone] at hc; rw [← hc]; exact hid
    · rw [T.get_set_ne e _ _, T.get_e] at hc; cases hc) hv nx (lgW_le lg id) (fun j c' hc => by
    by_cases e : j = id
    · subst e; exact (lgW_w lg j).tchd
    · rw [T.get_set_ne e _ _, T.get_e] at hc; cases hc)
  cases d with
  | none => exact ⟨_, _, _, _, _, C, rfl, k⟩
  | some d =>
    obtain ⟨h1, h2⟩ := wOut_ok k
    exact ⟨_, _, _, _, _, C, h1, h2⟩
def mo0 : Mo := ⟨0, fun _ => 0, 0, 0, ⟨0, 0, 0⟩⟩
def mo126 (F : Nat → Mo) : List D := moD (F 0) ++ (moD (F 1) ++ (moD (F 2) ++ (moD (F 3) ++ (moD (F 4) ++ (moD (F 5) ++ (moD (F 6) ++ (moD (F 7) ++ moD (F 8))))))))
def moF (box coin : Int) (T : List Ln) (j q : Nat) : Mo := bif Nat.ble q j then moR box coin T q else mo0
noncomputable def moC (F : Nat → Mo) : C := .cells false ((mo126 F).map fun d => Cell.o d 0) 1
theorem puC {l : List D} {n m st : Nat} (h : KpL n l) : KpC n (.cells false (l.map fun d => Cell.o d st) m) := by
  refine KpL.all ?_
  rw [List.map_map]
  rw [show (Cell.d ∘ fun d => Cell.o d st) = id from rfl, List.map_id]
  exact h
theorem kp_mo126 (F : Nat → Mo) (n : Nat) : KpL n (mo126 F) := by simp [mo126, moD, KpL, Kp, Pu]
def followB (n : Int) (ls T : List Ln) : Bool := decide (T.length = ls.length) && (List.range T.length).all fun q => rdB n (ls.getD q default) (T.getD q default) && pos1 T q
theorem rdB_bd {n : Int} {l r : Ln} (hn : 1 ≤ n ∧ n ≤ 4) (hk : 0 ≤ l.k ∧ l.k ≤ 2) (hc : -1 ≤ l.c ∧ l.c ≤ 3) (ht : -1 ≤ l.t ∧ l.t ≤ 3) (h : rdB n l r = true) : (r.k = 1 ∨ r.k = 2) ∧ (0 ≤ r.c ∧ r.c ≤ 3) ∧ (0 ≤ r.t ∧ r.t ≤ 3) := by
  obtain ⟨h1, h2, h3, h4, h5, h6⟩ := of_decide_eq_true h
  unfold kLo at h1
  unfold kHi at h2
  unfold cLo at h3
  unfold cHi at h4
  unfold tLo at h5
  unfold tHi at h6
  refine ⟨?_, ?_, ?_⟩
  · split at h1 <;> split at h2 <;> omega
  · split at h3 <;> split at h4 <;> omega
  · split at h5 <;> split at h6 <;> omega
end Go.Ev
namespace Go.Ev
open Go.Proofs
set_option maxRecDepth 100000
def rightB (cs : List Ct) (m : Mo) : Bool := cs.all fun c => !decide (c.a = m.n) || inR m.box c.lo c.hi
theorem j_isRight (n coin box : Int) (ls : List Ln) (cs : List Ct) (m : Mo) (hc : cs.length ≤ 1000) : PureF Try.prog p80.ix [.ag [.i .i64 n, .i .i64 coin, .i .i64 box, .lst 3 (rows lnD ls), .lst 3 (rows ctD cs), .any], .ag (moD m)] (.b (rightB cs m)) := by
  have cA := j_allCt cs p111 [.ag (moD m)] [] (fun c => !decide (c.a = m.n) || inR m.box c.lo c.hi) (by simp [PuL, Pu, moD]) trivial hc (fun c _ => j_agr m c)
  unfold moD at cA ⊢
  refine PureF.run fn79 (by simp) (by simp [PuL, PuE, Pu, pu_ints, pu_ln, pu_ct]) ?_; conv => whnf
  repeat' first | ((first | with_reducible (first | apply Qt | apply Qu) | refine Qa rfl ?_ | refine Qk rfl ?_ | refine Qb ?_ | refine Qc ?_ | refine Qi ?_ | refine Qj ?_ | refine Qf (cA) ?_) <;> conv => whnf)
  exact Fin.b rfl rfl
def moL (F : Nat → Mo) (k : Nat) : List Mo := (List.range k).map F
end Go.Ev
namespace Go.Ev
open Go.Proofs
set_option maxRecDepth 100000
theorem ints_one' (l : List Int) : ∀ r ∈ ints l, r.length = 1 := fun r hr => by
  obtain ⟨n, _, rfl⟩ := List.mem_map.1 hr
  rfl
theorem nineT {m : Nat} (h : m < 9) : m = 0 ∨ m = 1 ∨ m = 2 ∨ m = 3 ∨ m = 4 ∨ m = 5 ∨ m = 6 ∨ m = 7 ∨ m = 8 := by omega
theorem puL_map_j (l : List Int) : PuL (l.map fun n => D.i .i64 n) := PuL_iff.2 fun d hd => by
  obtain ⟨n, _, rfl⟩ := List.mem_map.1 hd
  exact trivial
end Go.Ev
namespace Go.Ev
open Go.Proofs
set_option maxRecDepth 100000
section
variable {sl : T D} {ob : T C} {nx : Pos} {lg : Option (T Bool)} {K : X → Prop}
theorem WSt.app_firstL {d idy : Pos} {z curY : Nat} {roY : Bool} {x y : RX} {a : D} {r : List D} {csY : List Cell} (hx : opd sl x = some a) (ha : a = .ns ∨ a = .em) (hy : opd sl y = some (.sl idy 0 1 0 z)) (hoy : ob.get idy = some (.cells roY csY curY)) (hcy : csY = r.map fun d => Cell.o d 0) (hr : r.length = z)
    (h : lRK lg idy fun lg => lWK lg nx fun lg => T.setK nx (.cells false (r.map fun d => Cell.o d 0) 1) ob fun ob => Pos.succK nx fun nx' => wOut sl ob nx' lg d K (.sl nx 0 1 0 z)) : WSt (.app d z x y) ⟨sl, ob, nx, lg⟩ K := by
  obtain ⟨l1, e1, h⟩ := lRK_ex h
  obtain ⟨l2, e2, h⟩ := lWK_ex h
  rw [T.setK_eq, Pos.succK_eq] at h
  obtain ⟨h2, h3⟩ := wOut_ok h
  refine ⟨_, ?_, h3⟩
  show s_app d z x y sl ob nx lg = _
  unfold s_app
  rw [hx, hy]
  subst hcy hr
  have hb : Nat.beq r.length r.length = true := Nat.beq_refl _
  have hrd : readK (β := X) 0 (Nat.mul 1 r.length) (dropC 0 (r.map fun d => Cell.o d 0)) = fun k => k r := by
    rw [dropC_eq, List.drop_zero, show Nat.mul 1 r.length = r.length from Nat.one_mul _]
    have key : ∀ (l : List D) (k : List D → Option X), readK 0 l.length (l.map fun d => Cell.o d 0) k = k l := by
      intro l
      induction l with
      | nil => exact fun k => rfl
      | cons a l ih => exact fun k => ih fun ds => k (a :: ds)
    exact funext fun k => key r k
  simp only [srcK, hb, cond_true, hoy, hrd, logO, e1]
  have hle : Nat.ble (Nat.succ 0) 2147483648 = true := rfl
  rcases ha with rfl | rfl <;> simp only [hle, cond_true, openK_eq, freshK, e2, T.setK_eq, Pos.succK_eq] <;> exact h2
theorem WSt.app_oneL {d id idy : Pos} {z st len len' cur curY : Nat} {roY : Bool} {x y : RX} {ds r : List D} {csY : List Cell} {ob2 : T C} (hx : opd sl x = some (.sl id 0 len st z)) (hy : opd sl y = some (.sl idy 0 1 0 z)) (hoy : ob.get idy = some (.cells roY csY curY)) (hcy : csY = r.map fun d => Cell.o d 0) (hr : r.length = z) (hox : ob.get id = some (.cells false (ds.map fun d => Cell.o d st) cur)) (hds : ds.length = len * z) (hcur : cur = st + 1) (hlen : len' = len + 1) (hmax : len < 2147483648)
    (hob2 : T.set id (.cells false ((ds.map fun d => Cell.o d st) ++ r.map fun d => Cell.o d cur) (cur + 1)) ob = ob2) (h : lRK lg idy fun lg => lWK lg id fun lg => wOut sl ob2 nx lg d K (.sl id 0 len' cur z)) : WSt (.app d z x y) ⟨sl, ob, nx, lg⟩ K := by
  obtain ⟨l1, e1, h⟩ := lRK_ex h
  obtain ⟨l2, e2, h⟩ := lWK_ex h
  obtain ⟨h2, h3⟩ := wOut_ok h
  refine ⟨_, ?_, h3⟩
  show s_app d z x y sl ob nx lg = _
  unfold s_app
  rw [hx, hy]
  subst hcy hr hlen hob2
  have hb : Nat.beq r.length r.length = true := Nat.beq_refl _
  have hrd : readK (β := X) 0 (Nat.mul 1 r.length) (dropC 0 (r.map fun d => Cell.o d 0)) = fun k => k r := by
    rw [dropC_eq, List.drop_zero, show Nat.mul 1 r.length = r.length from Nat.one_mul _]
    have key : ∀ (l : List D) (k : List D → Option X), readK 0 l.length (l.map fun d => Cell.o d 0) k = k l := by
      intro l
      induction l with
      | nil => exact fun k => rfl
      | cons a l ih => exact fun k => ih fun ds => k (a :: ds)
    exact funext fun k => key r k
  simp only [srcK, hb, cond_true, hoy, hrd, logO, e1]
  simp only [hox]
  have hidx : Nat.add 0 (Nat.mul len r.length) = ds.length := by rw [hds]; exact Nat.zero_add _
  rw [hidx, growK_map ds cur _ hcur]
  simp only [List.append_nil, natK_eq, objOutK, e2, T.setK_eq]
  have e3 : Nat.add len (Nat.succ 0) = len + 1 := rfl
  rw [e3, Nat.ble_eq_true_of_le (show len + 1 ≤ 2147483648 from hmax)]
  exact h2
end
def cellsA {α : Type} (f : α → List D) (l : List α) (n : Nat) : List D := (rows f (l.take n)).flatten
theorem cellsA_length {α : Type} {f : α → List D} (hf : ∀ a, (f a).length = 3) (l : List α) {n : Nat} (h : n ≤ l.length) : (cellsA f l n).length = n * 3 := by
  induction n with
  | zero => simp [cellsA, rows]
  | succ n ih =>
    have := ih (by omega)
    unfold cellsA at *
    rw [List.take_succ_eq_append_getElem (by omega), rows, List.map_append, List.flatten_append, List.length_append]
    simp only [rows] at this
    rw [this]
    simp [hf]
    omega
theorem cellsA_succ {α : Type} [Inhabited α] (f : α → List D) (l : List α) {n : Nat} (h : n < l.length) : cellsA f l (n + 1) = cellsA f l n ++ f (l.getD n default) := by
  unfold cellsA
  rw [List.take_succ_eq_append_getElem h, rows, List.map_append, List.flatten_append]
  simp [rows, List.getD, h]
theorem pu_cellsA {α : Type} {f : α → List D} (hf : ∀ a, PuL (f a)) (l : List α) (n : Nat) : PuL (cellsA f l n) := by
  unfold cellsA
  exact PuL_iff.2 fun d hd => by
    obtain ⟨r, hr, hd⟩ := List.mem_flatten.1 hd
    exact PuL_iff.1 (PuE_iff.1 (pu_rows hf _) r hr) d hd
theorem pl_ln (l : Ln) : PuL (lnD l) := by simp [lnD, PuL, Pu]
theorem pl_ct (c : Ct) : PuL (ctD c) := by simp [ctD, PuL, Pu]
theorem j_to (a b : Int) : PureF Try.prog p41.ix [.ag [.i .i64 a, .i .i64 b]] (.ag [.i .i64 a, .i .i64 b]) := by
  refine PureF.run fn40 (by simp) (by simp [PuL, PuE, Pu, pu_ints, pu_ln, pu_ct]) ?_; conv => whnf
  repeat' first | ((first | with_reducible (first | apply Qt | apply Qu) | refine Qa rfl ?_ | refine Qk rfl ?_ | refine Qb ?_ | refine Qc ?_ | refine Qi ?_ | refine Qj ?_) <;> conv => whnf)
  exact ⟨.inr rfl, _, rfl, .ag (.cons (.pu trivial) (.cons (.pu trivial) .nil))⟩
theorem j_Truth (Tr : List Ln) (hT : Tr.length ≤ 65536) : PureF Try.prog p25.ix [.lst 3 (rows lnD Tr)] (.lst 3 (rows lnD Tr)) := by
  have e1 := rows_length lnD Tr
  refine PureF.run fn24 (by simp) (by simp [PuL, PuE, Pu, pu_ints, pu_ln, pu_ct]) ?_; conv => whnf
  repeat' first | ((first | with_reducible (first | apply Qt | apply Qu) | refine Qa rfl ?_ | refine Qk rfl ?_ | refine Qb ?_ | refine Qc ?_ | refine Qi ?_ | refine Qj ?_) <;> conv => whnf)
  refine Rn.loop (fun j : Nat => match j with
    | 0 => ⟨(.n (.n (.n .e (some (.ns)) .e) none .e) (some (.lst 3 (rows lnD Tr))) (.n (.n .e (some (.i .i64 0)) .e) none .e)), .e, .h, none⟩
    | j + 1 => ⟨(.n (.n (.n .e (some (.sl (.o .h) 0 (j + 1) j 3)) .e) none .e) (some (.lst 3 (rows lnD Tr))) (.n (.n .e (some (.i .i64 ((j + 1 : Nat) : Int))) .e) none .e)), (.n (.n .e (some (.cells false ((cellsA lnD Tr (j + 1)).map fun d => Cell.o d j) (j + 1))) .e) none .e), .i .h, none⟩) (fun j => j ≤ Tr.length) (fun j => Tr.length - j) 0 ?_ ?_ ?_
  · (first | (refine X.le.mk ?_ ?_ (Nat.le_refl _) rfl rfl) | skip) <;> (repeat' first | exact T.le_e _ | refine T.le_some ?_ ?_ ?_ | refine T.le_none ?_ ?_ | rfl)
  · exact Nat.zero_le _
  rintro (_ | j) hj
  · conv => whnf
    repeat' first | ((first | with_reducible (first | apply Qt | apply Qu) | refine Qa rfl ?_ | refine Qk rfl ?_ | refine Qb ?_ | refine Qc ?_ | refine Qi ?_ | refine Qj ?_) <;> conv => whnf)
    refine WB.dec (fun h => ?_) (fun h => ?_) <;> conv => whnf
    · have hlt : 0 < Tr.length := by omega
      repeat' first | ((first | with_reducible (first | apply Qt | apply Qu) | refine Qa rfl ?_ | refine Qk rfl ?_ | refine Qb ?_ | refine Qc ?_ | refine Qi ?_ | refine Qj ?_) <;> conv => whnf)
      refine WSt.app_firstL (r := lnD (Tr.getD 0 default)) rfl (.inl rfl) rfl rfl rfl rfl ?_; conv => whnf
      repeat' first | ((first | with_reducible (first | apply Qt | apply Qu) | refine Qa rfl ?_ | refine Qk rfl ?_ | refine Qb ?_ | refine Qc ?_ | refine Qi ?_ | refine Qj ?_) <;> conv => whnf)
      refine Again.to 1 (by show Tr.length - 1 < Tr.length - 0; omega) (by show 1 ≤ Tr.length; omega) (Nat.le_of_ble_eq_true rfl) ?_
      have ht : cellsA lnD Tr 1 = lnD (Tr.getD 0 default) := by rw [cellsA_succ lnD Tr hlt]; simp [cellsA, rows]
      refine Shr.of ?_ ?_ rfl rfl
      · (repeat' first | exact Rel.e | refine Rel.some ?_ ?_ ?_ | refine Rel.none ?_ ?_ | refine Rel.ee ?_ ?_)
        all_goals show Fz _ _ _ _
        all_goals first | exact .kpt (show _ < _ by simp [Pos.nat]) | exact .ksl (show _ < _ by simp [Pos.nat]) | exact .pu trivial | exact .pu (pu_ln _)
      · (repeat' first | exact Rel.e | refine Rel.some ?_ ?_ ?_ | refine Rel.none ?_ ?_ | refine Rel.ee ?_ ?_)
        all_goals first
          | (refine RO'.of (show Pos.nat _ < Pos.nat _ by simp [Pos.nat]) ?_
             show ShC _ _ _ (.cells false ((cellsA lnD Tr 1).map fun d => Cell.o d 0) 1)
             rw [ht]
             exact ShC.same (ShC.cn (.pu trivial) (ShC.cn (.pu trivial) (ShC.cn (.pu trivial) ShC.nl))))
    · repeat' first | ((first | with_reducible (first | apply Qt | apply Qu) | refine Qa rfl ?_ | refine Qk rfl ?_ | refine Qb ?_ | refine Qc ?_ | refine Qi ?_ | refine Qj ?_) <;> conv => whnf)
      refine Fin.t (.inr rfl) rfl ?_
      rw [show Tr = [] from List.length_eq_zero_iff.1 (by omega)]
      exact Fz.ns
  · have hj : j + 1 ≤ Tr.length := hj
    conv => whnf
    repeat' first | ((first | with_reducible (first | apply Qt | apply Qu) | refine Qa rfl ?_ | refine Qk rfl ?_ | refine Qb ?_ | refine Qc ?_ | refine Qi ?_ | refine Qj ?_) <;> conv => whnf)
    refine WB.dec (fun h => ?_) (fun h => ?_) <;> conv => whnf
    · have hlt : j + 1 < Tr.length := by omega
      repeat' first | ((first | with_reducible (first | apply Qt | apply Qu) | refine Qa rfl ?_ | refine Qk rfl ?_ | refine Qb ?_ | refine Qc ?_ | refine Qi ?_ | refine Qj ?_) <;> conv => whnf)
      refine WSt.app_oneL (ds := cellsA lnD Tr (j + 1)) (r := lnD (Tr.getD (j + 1) default)) rfl rfl rfl rfl rfl rfl (cellsA_length (fun _ => rfl) Tr (by omega)) rfl rfl (by omega) rfl ?_; conv => whnf
      repeat' first | ((first | with_reducible (first | apply Qt | apply Qu) | refine Qa rfl ?_ | refine Qk rfl ?_ | refine Qb ?_ | refine Qc ?_ | refine Qi ?_ | refine Qj ?_) <;> conv => whnf)
      refine Again.to (j + 2) (by show Tr.length - (j + 2) < Tr.length - (j + 1); omega) (by show j + 2 ≤ Tr.length; omega) (Nat.le_of_ble_eq_true rfl) ?_
      refine Shr.of ?_ ?_ rfl rfl
      · (repeat' first | exact Rel.e | refine Rel.some ?_ ?_ ?_ | refine Rel.none ?_ ?_ | refine Rel.ee ?_ ?_)
        all_goals show Fz _ _ _ _
        all_goals first | exact .kpt (show _ < _ by simp [Pos.nat]) | exact .ksl (show _ < _ by simp [Pos.nat]) | exact .pu trivial | exact .pu (pu_ln _)
      · (repeat' first | exact Rel.e | refine Rel.some ?_ ?_ ?_ | refine Rel.none ?_ ?_ | refine Rel.ee ?_ ?_)
        all_goals first
          | (refine RO'.of (show Pos.nat _ < Pos.nat _ by simp [Pos.nat]) ?_
             show ShC _ _ (.cells false (((cellsA lnD Tr (j + 1)).map fun d => Cell.o d j) ++ (lnD (Tr.getD (j + 1) default)).map fun d => Cell.o d (j + 1)) (j + 1 + 1)) (.cells false ((cellsA lnD Tr (j + 1 + 1)).map fun d => Cell.o d (j + 1)) (j + 1 + 1))
             rw [cellsA_succ lnD Tr hlt]
             exact ShC.grown (by omega) (PuL_iff.2 fun d hd => (List.mem_append.1 hd).elim (fun hd => PuL_iff.1 (pu_cellsA pl_ln Tr _) d hd) (fun hd => PuL_iff.1 (pl_ln _) d hd)))
    · repeat' first | ((first | with_reducible (first | apply Qt | apply Qu) | refine Qa rfl ?_ | refine Qk rfl ?_ | refine Qb ?_ | refine Qc ?_ | refine Qi ?_ | refine Qj ?_) <;> conv => whnf)
      refine Fin.t (.inr rfl) rfl ?_
      exact Frz.whole (cs := (cellsA lnD Tr (j + 1)).map fun d => Cell.o d j) (cur := j + 1) rfl (by rw [rows_length]; omega) (ln_three _) (by unfold cellsA; rw [List.take_of_length_le (by omega)]) (pu_ln _)
noncomputable def bo5 (n coin box : Int) (ls : List Ln) (d : D) : C := .cells false ([.i .i64 n, .i .i64 coin, .i .i64 box, .lst 3 (rows lnD ls), d].map fun d => Cell.o d 0) 1
theorem bo5_sh (n coin box : Int) (ls : List Ln) {d : D} {B : Pos → Prop} {ob : T C} (h : Fz B ob d d) : ShC B ob (bo5 n coin box ls d) (bo5 n coin box ls d) := ShC.same (ShC.cn (.pu trivial) (ShC.cn (.pu trivial) (ShC.cn (.pu trivial) (ShC.cn (.pu (pu_ln _)) (ShC.cn h ShC.nl)))))
noncomputable def bz5 : C := .cells false ([.i .i64 0, .i .i64 0, .i .i64 0, .ns, .ns].map fun d => Cell.o d 0) 1
theorem bz5_sh {B : Pos → Prop} {ob : T C} : ShC B ob bz5 bz5 := ShC.same (ShC.cn (.pu trivial) (ShC.cn (.pu trivial) (ShC.cn (.pu trivial) (ShC.cn (.pu trivial) (ShC.cn (.pu trivial) ShC.nl)))))
set_option maxHeartbeats 1000000 in
theorem j_Book (n coin box : Int) (ls : List Ln) (cs : List Ct) (hl : ls.length ≤ 65536) (hc : cs.length ≤ 65536) :
    PureF Try.prog p24.ix [.ag [.i .i64 n, .i .i64 coin, .i .i64 box, .lst 3 (rows lnD ls), .lst 3 (rows ctD cs)]] (.ag [.i .i64 n, .i .i64 coin, .i .i64 box, .lst 3 (rows lnD ls), .lst 3 (rows ctD cs)]) := by
  have e2 := rows_length ctD cs
  refine PureF.run fn23 (by simp) (by simp [PuL, PuE, Pu, pu_ints, pu_ln, pu_ct]) ?_; conv => whnf
  repeat' first | ((first | with_reducible (first | apply Qt | apply Qu) | refine Qa rfl ?_ | refine Qk rfl ?_ | refine Qb ?_ | refine Qc ?_ | refine Qi ?_ | refine Qj ?_ | refine Qf (j_Truth ls hl) ?_) <;> conv => whnf)
  refine Rn.loop (fun j : Nat => match j with
    | 0 => ⟨(.n (.n (.n .e (some (.pt (.i .h) 0 0)) .e) (some (.pt .h 0 0)) .e) none (.n (.n .e (some (.i .i64 0)) .e) (some (.pt (.o .h) 0 0)) .e)), (.n (.n .e (some (bz5)) .e) (some (bo5 n coin box ls (.lst 3 (rows ctD cs)))) (.n .e (some (bo5 n coin box ls .ns)) .e)), .o (.o .h), none⟩
    | j + 1 => ⟨(.n (.n (.n .e (some (.pt (.i .h) 0 0)) .e) (some (.pt .h 0 0)) .e) none (.n (.n .e (some (.i .i64 ((j + 1 : Nat) : Int))) .e) (some (.pt (.o .h) 0 0)) .e)), (.n (.n .e (some (bz5)) .e) (some (bo5 n coin box ls (.lst 3 (rows ctD cs)))) (.n (.n .e (some (.cells false ((cellsA ctD cs (j + 1)).map fun d => Cell.o d j) (j + 1))) .e) (some (bo5 n coin box ls (.sl (.i (.o .h)) 0 (j + 1) j 3))) .e)), .o (.i .h), none⟩) (fun j => j ≤ cs.length) (fun j => cs.length - j) 0 ?_ ?_ ?_
  · refine X.le.mk ?_ ?_ (Nat.le_refl _) rfl rfl <;> (repeat' first | exact T.le_e _ | refine T.le_some ?_ rfl ?_ | refine T.le_none ?_ ?_)
  · exact Nat.zero_le _
  rintro (_ | j) hj
  · conv => whnf
    repeat' first | ((first | with_reducible (first | apply Qt | apply Qu) | refine Qa rfl ?_ | refine Qk rfl ?_ | refine Qb ?_ | refine Qc ?_ | refine Qi ?_ | refine Qj ?_) <;> conv => whnf)
    refine WB.dec (fun h => ?_) (fun h => ?_) <;> conv => whnf
    · have hlt : 0 < cs.length := by omega
      repeat' first | ((first | with_reducible (first | apply Qt | apply Qu) | refine Qa rfl ?_ | refine Qk rfl ?_ | refine Qb ?_ | refine Qc ?_ | refine Qi ?_ | refine Qj ?_ | refine Qf (j_to _ _) ?_) <;> conv => whnf)
      refine WSt.app_firstL (r := ctD (cs.getD 0 default)) rfl (.inl rfl) rfl rfl rfl rfl ?_; conv => whnf
      repeat' first | ((first | with_reducible (first | apply Qt | apply Qu) | refine Qa rfl ?_ | refine Qk rfl ?_ | refine Qb ?_ | refine Qc ?_ | refine Qi ?_ | refine Qj ?_) <;> conv => whnf)
      refine Again.to 1 (by show cs.length - 1 < cs.length - 0; omega) (by show 1 ≤ cs.length; omega) (Nat.le_of_ble_eq_true rfl) ?_
      have ht : cellsA ctD cs 1 = ctD (cs.getD 0 default) := by rw [cellsA_succ ctD cs hlt]; simp [cellsA, rows]
      refine Shr.of ?_ ?_ rfl rfl
      · (repeat' first | exact Rel.e | refine Rel.some ?_ ?_ ?_ | refine Rel.none ?_ ?_ | refine Rel.ee ?_ ?_)
        all_goals show Fz _ _ _ _
        all_goals first | exact .kpt (show _ < _ by simp [Pos.nat]) | exact .ksl (show _ < _ by simp [Pos.nat]) | exact .pu trivial | exact .pu trivial
      · (repeat' first | exact Rel.e | refine Rel.some ?_ ?_ ?_ | refine Rel.none ?_ ?_ | refine Rel.ee ?_ ?_)
        all_goals first
          | exact RO'.of (show _ < _ by simp [Pos.nat]) (bo5_sh n coin box ls (.pu (pu_ct _)))
          | exact RO'.of (show _ < _ by simp [Pos.nat]) (bo5_sh n coin box ls (.ksl (show _ < _ by simp [Pos.nat])))
          | exact RO'.of (show _ < _ by simp [Pos.nat]) bz5_sh
          | (refine RO'.of (show Pos.nat _ < Pos.nat _ by simp [Pos.nat]) ?_
             show ShC _ _ _ (.cells false ((cellsA ctD cs 1).map fun d => Cell.o d 0) 1)
             rw [ht]
             exact ShC.same (ShC.cn (.pu trivial) (ShC.cn (.pu trivial) (ShC.cn (.pu trivial) ShC.nl))))
    · repeat' first | ((first | with_reducible (first | apply Qt | apply Qu) | refine Qa rfl ?_ | refine Qk rfl ?_ | refine Qb ?_ | refine Qc ?_ | refine Qi ?_ | refine Qj ?_) <;> conv => whnf)
      refine ⟨.inr rfl, _, rfl, ?_⟩
      rw [show cs = [] from List.length_eq_zero_iff.1 (by omega)]
      exact .ag (.cons (.pu trivial) (.cons (.pu trivial) (.cons (.pu trivial) (.cons (.pu (pu_ln _)) (.cons .ns .nil)))))
  · have hj : j + 1 ≤ cs.length := hj
    conv => whnf
    repeat' first | ((first | with_reducible (first | apply Qt | apply Qu) | refine Qa rfl ?_ | refine Qk rfl ?_ | refine Qb ?_ | refine Qc ?_ | refine Qi ?_ | refine Qj ?_) <;> conv => whnf)
    refine WB.dec (fun h => ?_) (fun h => ?_) <;> conv => whnf
    · have hlt : j + 1 < cs.length := by omega
      repeat' first | ((first | with_reducible (first | apply Qt | apply Qu) | refine Qa rfl ?_ | refine Qk rfl ?_ | refine Qb ?_ | refine Qc ?_ | refine Qi ?_ | refine Qj ?_ | refine Qf (j_to _ _) ?_) <;> conv => whnf)
      refine WSt.app_oneL (ds := cellsA ctD cs (j + 1)) (r := ctD (cs.getD (j + 1) default)) rfl rfl rfl rfl rfl rfl (cellsA_length (fun _ => rfl) cs (by omega)) rfl rfl (by omega) rfl ?_; conv => whnf
      repeat' first | ((first | with_reducible (first | apply Qt | apply Qu) | refine Qa rfl ?_ | refine Qk rfl ?_ | refine Qb ?_ | refine Qc ?_ | refine Qi ?_ | refine Qj ?_) <;> conv => whnf)
      refine Again.to (j + 2) (by show cs.length - (j + 2) < cs.length - (j + 1); omega) (by show j + 2 ≤ cs.length; omega) (Nat.le_of_ble_eq_true rfl) ?_
      refine Shr.of ?_ ?_ rfl rfl
      · (repeat' first | exact Rel.e | refine Rel.some ?_ ?_ ?_ | refine Rel.none ?_ ?_ | refine Rel.ee ?_ ?_)
        all_goals show Fz _ _ _ _
        all_goals first | exact .kpt (show _ < _ by simp [Pos.nat]) | exact .ksl (show _ < _ by simp [Pos.nat]) | exact .pu trivial | exact .pu trivial
      · (repeat' first | exact Rel.e | refine Rel.some ?_ ?_ ?_ | refine Rel.none ?_ ?_ | refine Rel.ee ?_ ?_)
        all_goals first
          | exact RO'.of (show _ < _ by simp [Pos.nat]) (bo5_sh n coin box ls (.pu (pu_ct _)))
          | exact RO'.of (show _ < _ by simp [Pos.nat]) (bo5_sh n coin box ls (.ksl (show _ < _ by simp [Pos.nat])))
          | exact RO'.of (show _ < _ by simp [Pos.nat]) bz5_sh
          | (refine RO'.of (show Pos.nat _ < Pos.nat _ by simp [Pos.nat]) ?_
             show ShC _ _ (.cells false (((cellsA ctD cs (j + 1)).map fun d => Cell.o d j) ++ (ctD (cs.getD (j + 1) default)).map fun d => Cell.o d (j + 1)) (j + 1 + 1)) (.cells false ((cellsA ctD cs (j + 1 + 1)).map fun d => Cell.o d (j + 1)) (j + 1 + 1))
             rw [cellsA_succ ctD cs hlt]
             exact ShC.grown (by omega) (PuL_iff.2 fun d hd => (List.mem_append.1 hd).elim (fun hd => PuL_iff.1 (pu_cellsA pl_ct cs _) d hd) (fun hd => PuL_iff.1 (pl_ct _) d hd)))
    · repeat' first | ((first | with_reducible (first | apply Qt | apply Qu) | refine Qa rfl ?_ | refine Qk rfl ?_ | refine Qb ?_ | refine Qc ?_ | refine Qi ?_ | refine Qj ?_) <;> conv => whnf)
      refine ⟨.inr rfl, _, rfl, ?_⟩
      refine .ag (.cons (.pu trivial) (.cons (.pu trivial) (.cons (.pu trivial) (.cons (.pu (pu_ln _)) (.cons ?_ .nil)))))
      exact Frz.whole (cs := (cellsA ctD cs (j + 1)).map fun d => Cell.o d j) (cur := j + 1) rfl (by rw [rows_length]; omega) (ct_three _) (by unfold cellsA; rw [List.take_of_length_le (by omega)]) (pu_ct _)
end Go.Ev
namespace Go.Ev
open Go.Proofs
set_option maxRecDepth 100000
theorem rd_same {n : Int} {l x : Ln} (hn : 1 ≤ n ∧ n ≤ 4) (h : lnOk n l = true) : rdB n l x = rd1 n l x := by
  unfold lnOk at h
  simp only [Bool.and_eq_true, inR_iff] at h
  obtain ⟨⟨h1, h2⟩, ⟨h3, h4⟩, ⟨h5, h6⟩⟩ := h
  have hK : (kLo l ≤ x.k ∧ x.k ≤ kHi l) ↔ ((1 ≤ x.k ∧ x.k ≤ 2) ∧ (l.k = 0 ∨ l.k = x.k)) := by
    unfold kLo kHi
    split <;> omega
  have hC : (cLo l ≤ x.c ∧ x.c ≤ cHi n l) ↔ ((0 ≤ x.c ∧ x.c ≤ n - 1) ∧ (l.c < 0 ∨ l.c = x.c)) := by
    unfold cLo cHi
    split <;> omega
  have hT : (tLo l ≤ x.t ∧ x.t ≤ tHi n l) ↔ ((0 ≤ x.t ∧ x.t ≤ n - 1) ∧ (l.t < 0 ∨ l.t = x.t)) := by
    unfold tLo tHi
    split <;> omega
  unfold rdB rd1 agB
  rw [Bool.eq_iff_iff]
  simp only [Bool.and_eq_true, Bool.or_eq_true, decide_eq_true_iff, inR_iff]
  constructor
  · rintro ⟨a, b, c, d, e, f⟩
    have k := hK.1 ⟨a, b⟩
    have k2 := hC.1 ⟨c, d⟩
    have k3 := hT.1 ⟨e, f⟩
    exact ⟨k.1, k2.1, k3.1, k.2, k2.2, k3.2⟩
  · rintro ⟨a, b, c, d, e, f⟩
    have k := hK.2 ⟨a, d⟩
    have k2 := hC.2 ⟨b, e⟩
    have k3 := hT.2 ⟨c, f⟩
    exact ⟨k.1, k.2, k2.1, k2.2, k3.1, k3.2⟩
theorem all_and {α : Type} (p q : α → Bool) : ∀ l : List α, (l.all fun x => p x && q x) = (l.all p && l.all q)
  | [] => rfl
  | x :: l => by
    simp only [List.all_cons, all_and p q l]
    cases p x <;> cases q x <;> cases l.all p <;> cases l.all q <;> rfl
theorem all_same {α : Type} {p q : α → Bool} : ∀ {l : List α}, (∀ x ∈ l, p x = q x) → l.all p = l.all q
  | [], _ => rfl
  | x :: l, h => by
    simp only [List.all_cons]
    rw [h x (by simp), all_same fun y hy => h y (by simp [hy])]
theorem follow_ref {n : Int} {ls T : List Ln} (hn : 1 ≤ n ∧ n ≤ 4) (h : ls.all (lnOk n) = true) : followB n ls T = (readB n ls T && possB T) := by
  unfold followB readB possB
  by_cases hl : T.length = ls.length
  · rw [decide_eq_true hl, Bool.true_and, Bool.true_and, ← all_and]
    refine all_same fun q hq => ?_
    have hq := List.mem_range.1 hq
    rw [rd_same hn (List.all_eq_true.1 h _ (getD_mem (d := default) (by omega)))]
  · rw [decide_eq_false hl]; rfl
theorem moF_le {box coin : Int} {T : List Ln} {j q : Nat} (h : q ≤ j) : moF box coin T j q = moR box coin T q := by
  unfold moF
  rw [Nat.ble_eq_true_of_le h]; rfl
theorem right_ref {box coin : Int} {cs : List Ct} {T : List Ln} (hok : ∀ c ∈ cs, 0 ≤ c.a ∧ c.a ≤ T.length) : (moL (moF box coin T T.length) (T.length + 1)).all (rightB cs) = cntB box coin cs T := by
  rw [Bool.eq_iff_iff, List.all_eq_true]
  unfold cntB
  rw [List.all_eq_true]
  constructor
  · intro h c hc
    obtain ⟨a1, a2⟩ := hok c hc
    have hm := h (moF box coin T T.length c.a.toNat) (by unfold moL; exact List.mem_map.2 ⟨c.a.toNat, List.mem_range.2 (by omega), rfl⟩)
    unfold rightB at hm
    have := List.all_eq_true.1 hm c hc
    rw [moF_le (by omega)] at this
    have hd : c.a = (moR box coin T c.a.toNat).n := by show c.a = ((c.a.toNat : Nat) : Int); omega
    rw [decide_eq_true hd] at this
    exact this
  · intro h m hm
    unfold moL at hm
    obtain ⟨q, hq, rfl⟩ := List.mem_map.1 hm
    have hq := List.mem_range.1 hq
    rw [moF_le (by omega)]
    unfold rightB
    rw [List.all_eq_true]
    intro c hc
    have := h c hc
    by_cases e : c.a = (moR box coin T q).n
    · have e' : c.a = (q : Int) := e
      rw [show c.a.toNat = q by omega] at this
      rw [decide_eq_true e]
      exact this
    · rw [decide_eq_false e]; rfl
end Go.Ev
namespace Go.Ev
open Go.Proofs
set_option maxRecDepth 100000
structure Bk where
  n : Int
  coin : Int
  box : Int
  ls : List Ln
  cs : List Ct
def rngL (lo hi : Int) : List Int := (List.range (hi + 1 - lo).toNat).map fun k : Nat => lo + (k : Int)
theorem rngL_length (lo hi : Int) : (rngL lo hi).length = (hi + 1 - lo).toNat := by simp [rngL]
theorem rngL_at {lo hi : Int} {k : Nat} (h : k < (hi + 1 - lo).toNat) : (rngL lo hi).getD k 0 = lo + (k : Int) := by simp [rngL, List.getD, h]
theorem mem_rngL {lo hi h : Int} : h ∈ rngL lo hi ↔ lo ≤ h ∧ h ≤ hi := by
  unfold rngL
  rw [List.mem_map]
  constructor
  · rintro ⟨k, hk, rfl⟩
    have := List.mem_range.1 hk
    omega
  · rintro ⟨h1, h2⟩
    exact ⟨(h - lo).toNat, List.mem_range.2 (by omega), by omega⟩
def rdsT (n : Int) (l : Ln) (a b : Int) : List Ln := (rngL (tLo l) (tHi n l)).map fun c => ⟨a, b, c⟩
def rdsC (n : Int) (l : Ln) (a : Int) : List Ln := (rngL (cLo l) (cHi n l)).flatMap fun b => rdsT n l a b
def rdsL (n : Int) (l : Ln) : List Ln := (rngL (kLo l) (kHi l)).flatMap fun a => rdsC n l a
theorem mem_rdsL {n : Int} {l x : Ln} : x ∈ rdsL n l ↔ rdB n l x = true := by
  unfold rdsL rdsC rdsT rdB
  rw [decide_eq_true_iff, List.mem_flatMap]
  constructor
  · rintro ⟨a, ha, hx⟩
    obtain ⟨b, hb, hx⟩ := List.mem_flatMap.1 hx
    obtain ⟨c, hc, rfl⟩ := List.mem_map.1 hx
    have ha := mem_rngL.1 ha
    have hb := mem_rngL.1 hb
    have hc := mem_rngL.1 hc
    exact ⟨ha.1, ha.2, hb.1, hb.2, hc.1, hc.2⟩
  · rintro ⟨h1, h2, h3, h4, h5, h6⟩
    exact ⟨x.k, mem_rngL.2 ⟨h1, h2⟩, List.mem_flatMap.2 ⟨x.c, mem_rngL.2 ⟨h3, h4⟩, List.mem_map.2 ⟨x.t, mem_rngL.2 ⟨h5, h6⟩, rfl⟩⟩⟩
def SameTo (i : Nat) (T T' : List Ln) : Prop := ∀ j, j < i → T'.getD j default = T.getD j default
theorem SameTo.symm {i : Nat} {T T' : List Ln} (h : SameTo i T T') : SameTo i T' T := fun j hj => (h j hj).symm
theorem SameTo.le {i j : Nat} {T T' : List Ln} (h : SameTo i T T') (k : j ≤ i) : SameTo j T T' := fun q hq => h q (by omega)
theorem SameTo.app (T : List Ln) (l : Ln) : SameTo T.length T (T ++ [l]) := fun j hj => by
  simp [List.getD, List.getElem?_append_left hj]
theorem app_last (T : List Ln) (l : Ln) : (T ++ [l]).getD T.length default = l := by simp [List.getD]
theorem SameTo.take (T : List Ln) (i : Nat) : SameTo i T (T.take i) := fun j hj => by
  simp [List.getD, List.getElem?_take_of_lt hj]
theorem cOut_same {T T' : List Ln} (c : Int) : ∀ i, SameTo i T T' → cOut T' c i = cOut T c i
  | 0, _ => rfl
  | i + 1, h => by
    have := cOut_same c i (h.le (by omega))
    unfold cOut
    rw [h i (by omega), this]
theorem tOut_same {T T' : List Ln} (c : Int) : ∀ i, SameTo i T T' → tOut T' c i = tOut T c i
  | 0, _ => rfl
  | i + 1, h => by
    have := tOut_same c i (h.le (by omega))
    unfold tOut
    rw [h i (by omega), this]
theorem monR_same {box coin : Int} {T T' : List Ln} : ∀ i, SameTo i T T' → monR box coin T' i = monR box coin T i
  | 0, _ => rfl
  | i + 1, h => by
    have := monR_same (box := box) (coin := coin) i (h.le (by omega))
    unfold monR
    rw [h i (by omega), this]
theorem mixR_same {T T' : List Ln} : ∀ i, SameTo i T T' → mixR T' i = mixR T i
  | 0, _ => rfl
  | i + 1, h => by
    have := mixR_same i (h.le (by omega))
    unfold mixR
    rw [h i (by omega), this, cOut_same _ i (h.le (by omega)), tOut_same _ i (h.le (by omega))]
theorem moR_same {box coin : Int} {T T' : List Ln} {i : Nat} (h : SameTo i T T') : moR box coin T' i = moR box coin T i := by
  unfold moR
  rw [monR_same i h, mixR_same i h]
  simp only [cOut_same _ i h, tOut_same _ i h]
  cases i with
  | zero => rfl
  | succ i => simp only [h i (by omega)]
theorem pos1_same {T T' : List Ln} {i : Nat} (h : SameTo (i + 1) T T') : pos1 T' i = pos1 T i := by
  unfold pos1
  rw [h i (by omega), cOut_same _ i (h.le (by omega)), tOut_same _ i (h.le (by omega))]
def stp (B : Bk) (T : List Ln) : List (List Ln) := ((rdsL B.n (B.ls.getD T.length default)).filter fun l => pos1 (T ++ [l]) T.length).map fun l => T ++ [l]
def rT (B : Bk) (T : List Ln) : Bool := rightB B.cs (moR B.box B.coin T T.length)
def canT (B : Bk) : Nat → List Ln → Bool
  | 0, T => rT B T
  | k + 1, T => rT B T && (stp B T).any (canT B k)
def exT (B : Bk) : Nat → List Ln → List (List Ln)
  | 0, T => bif canT B 0 T then [T] else []
  | k + 1, T => bif canT B (k + 1) T then (stp B T).flatMap (exT B k) else []
structure Ext (B : Bk) (k : Nat) (T X : List Ln) : Prop where
  pre : X.take T.length = T
  len : X.length = T.length + k
  st : ∀ i, T.length ≤ i → i < X.length → rdB B.n (B.ls.getD i default) (X.getD i default) = true ∧ pos1 X i = true
  rt : ∀ i, T.length ≤ i → i ≤ X.length → rightB B.cs (moR B.box B.coin X i) = true
theorem Ext.same {B : Bk} {k : Nat} {T X : List Ln} (h : Ext B k T X) : SameTo T.length X T := by
  have := SameTo.take X T.length
  rw [h.pre] at this
  exact this
theorem ext_zero {B : Bk} {T X : List Ln} : Ext B 0 T X ↔ X = T ∧ rT B T = true := by
  constructor
  · intro h
    have hx : X = T := by
      have := h.pre
      rw [List.take_of_length_le (by rw [h.len]; omega)] at this
      exact this
    subst hx
    exact ⟨rfl, h.rt _ (Nat.le_refl _) (Nat.le_refl _)⟩
  · rintro ⟨rfl, h⟩
    refine ⟨List.take_length, rfl, fun i h1 h2 => by omega, fun i h1 h2 => ?_⟩
    rw [show i = X.length by omega]; exact h
theorem ext_succ {B : Bk} {k : Nat} {T X : List Ln} : Ext B (k + 1) T X ↔ rT B T = true ∧ ∃ T' ∈ stp B T, Ext B k T' X := by
  constructor
  · intro h
    have hs := h.same
    have hlen := h.len
    refine ⟨?_, X.take (T.length + 1), ?_, ?_, ?_, ?_, ?_⟩
    · have := h.rt _ (Nat.le_refl _) (by omega)
      rw [← moR_same (T' := T) hs] at this
      exact this
    · unfold stp
      have hlt : T.length < X.length := by omega
      obtain ⟨h1, h2⟩ := h.st _ (Nat.le_refl _) hlt
      have he : X.take (T.length + 1) = T ++ [X.getD T.length default] := by
        rw [take_succ_getD (d := default) hlt, h.pre]
      refine List.mem_map.2 ⟨X.getD T.length default, List.mem_filter.2 ⟨mem_rdsL.2 h1, ?_⟩, he.symm⟩
      have : SameTo (T.length + 1) X (T ++ [X.getD T.length default]) := by rw [← he]; exact SameTo.take _ _
      rw [← h2]
      exact pos1_same this
    · rw [List.length_take, Nat.min_eq_left (by omega)]
    · rw [List.length_take, Nat.min_eq_left (by omega)]; omega
    · intro i h1 h2
      rw [List.length_take, Nat.min_eq_left (by omega)] at h1
      exact h.st i (by omega) h2
    · intro i h1 h2
      rw [List.length_take, Nat.min_eq_left (by omega)] at h1
      exact h.rt i (by omega) h2
  · rintro ⟨hr, T', hT, h⟩
    unfold stp at hT
    obtain ⟨l, hl, rfl⟩ := List.mem_map.1 hT
    obtain ⟨hl1, hl2⟩ := List.mem_filter.1 hl
    have hsame := h.same
    have hlen := h.len
    have hla : (T ++ [l]).length = T.length + 1 := by simp
    rw [hla] at hlen hsame
    have hsT : SameTo T.length X T := fun j hj => by
      rw [← hsame j (by omega), SameTo.app T l j hj]
    refine ⟨?_, by omega, fun i h1 h2 => ?_, fun i h1 h2 => ?_⟩
    · have := h.pre
      rw [hla] at this
      have h2 := congrArg (List.take T.length) this
      rw [List.take_take, Nat.min_eq_left (by omega), List.take_left'] at h2
      · exact h2
      · rfl
    · by_cases e : i = T.length
      · subst e
        have hx : X.getD T.length default = l := by rw [← hsame _ (by omega), app_last]
        refine ⟨by rw [hx]; exact mem_rdsL.1 hl1, ?_⟩
        exact (pos1_same hsame).symm.trans hl2
      · exact h.st i (by rw [hla]; omega) h2
    · by_cases e : i = T.length
      · subst e
        rw [← moR_same (T' := T) hsT]
        exact hr
      · exact h.rt i (by rw [hla]; omega) h2
theorem can_iff {B : Bk} : ∀ {k : Nat} {T : List Ln}, canT B k T = true ↔ ∃ X, Ext B k T X
  | 0, T => by
    show rT B T = true ↔ _
    constructor
    · intro h; exact ⟨T, ext_zero.2 ⟨rfl, h⟩⟩
    · rintro ⟨X, h⟩; exact (ext_zero.1 h).2
  | k + 1, T => by
    show (rT B T && (stp B T).any (canT B k)) = true ↔ _
    rw [Bool.and_eq_true, List.any_eq_true]
    constructor
    · rintro ⟨h1, T', h2, h3⟩
      obtain ⟨X, h4⟩ := can_iff.1 h3
      exact ⟨X, ext_succ.2 ⟨h1, T', h2, h4⟩⟩
    · rintro ⟨X, h⟩
      obtain ⟨h1, T', h2, h3⟩ := ext_succ.1 h
      exact ⟨h1, T', h2, can_iff.2 ⟨X, h3⟩⟩
theorem mem_exT {B : Bk} : ∀ {k : Nat} {T X : List Ln}, X ∈ exT B k T ↔ Ext B k T X
  | 0, T, X => by
    unfold exT
    rw [ext_zero]
    show X ∈ (bif rT B T then [T] else []) ↔ _
    cases h : rT B T with
    | true => simp
    | false => simp
  | k + 1, T, X => by
    unfold exT
    cases h : canT B (k + 1) T with
    | false =>
      simp only [cond_false, List.not_mem_nil, false_iff]
      intro hx
      have := can_iff.2 ⟨X, hx⟩
      rw [h] at this; cases this
    | true =>
      simp only [cond_true]
      rw [List.mem_flatMap, ext_succ]
      have hr : rT B T = true := by
        have h : (rT B T && (stp B T).any (canT B k)) = true := h
        rw [Bool.and_eq_true] at h
        exact h.1
      constructor
      · rintro ⟨T', h1, h2⟩; exact ⟨hr, T', h1, mem_exT.1 h2⟩
      · rintro ⟨_, T', h1, h2⟩; exact ⟨T', h1, mem_exT.2 h2⟩
def okT (B : Bk) (T : List Ln) : Prop := ∀ i, i < T.length → rdB B.n (B.ls.getD i default) (T.getD i default) = true ∧ pos1 T i = true
theorem okT.nil (B : Bk) : okT B [] := fun i h => absurd h (Nat.not_lt_zero _)
theorem okT.step {B : Bk} {T T' : List Ln} (h : okT B T) (hT : T' ∈ stp B T) : okT B T' ∧ T'.length = T.length + 1 := by
  unfold stp at hT
  obtain ⟨l, hl, rfl⟩ := List.mem_map.1 hT
  obtain ⟨hl1, hl2⟩ := List.mem_filter.1 hl
  refine ⟨fun i hi => ?_, by simp⟩
  rw [List.length_append, List.length_singleton] at hi
  by_cases e : i = T.length
  · subst e
    rw [app_last]
    exact ⟨mem_rdsL.1 hl1, hl2⟩
  · have hlt : i < T.length := by omega
    rw [SameTo.app T l i hlt, pos1_same ((SameTo.app T l).le (by omega))]
    exact h i hlt
def flT (T : List Ln) (q : Nat) : Bool := if q < 4 then decide (0 ≤ cOut T (q : Int) T.length) else decide (0 ≤ tOut T ((q - 4 : Nat) : Int) T.length)
def b2i (b : Bool) : Int := bif b then 1 else 0
def osg (n : Int) : Int := if 0 ≤ n then 1 else 0
def cntO (T : List Ln) (i : Nat) : Int := osg (cOut T 0 i) + osg (cOut T 1 i) + osg (cOut T 2 i) + osg (cOut T 3 i)
def cntP (T : List Ln) (i : Nat) : Int := osg (tOut T 0 i) + osg (tOut T 1 i) + osg (tOut T 2 i) + osg (tOut T 3 i)
theorem osg_b (n : Int) : osg n = b2i (decide (0 ≤ n)) := by
  unfold osg b2i
  by_cases h : 0 ≤ n <;> simp [h]
theorem osg_step (f : Int → Int) (c k : Int) (i : Nat) (hc : 0 ≤ c ∧ c ≤ 3) (hk : k = 1 ∨ k = 2) (h : decide (0 ≤ f c) = decide (k = 2)) :
    osg (if c = 0 then (if k = 1 then (i : Int) else -1) else f 0) + osg (if c = 1 then (if k = 1 then (i : Int) else -1) else f 1) + osg (if c = 2 then (if k = 1 then (i : Int) else -1) else f 2) + osg (if c = 3 then (if k = 1 then (i : Int) else -1) else f 3) = if k = 1 then osg (f 0) + osg (f 1) + osg (f 2) + osg (f 3) + 1 else osg (f 0) + osg (f 1) + osg (f 2) + osg (f 3) - 1 := by
  have h0 : osg (i : Int) = 1 := if_pos (by omega)
  have h1 : osg (-1) = 0 := if_neg (by omega)
  have hf : osg (f c) = if k = 1 then 0 else 1 := by
    rw [osg_b, h]
    rcases hk with rfl | rfl <;> rfl
  have : c = 0 ∨ c = 1 ∨ c = 2 ∨ c = 3 := by omega
  rcases this with rfl | rfl | rfl | rfl <;> rcases hk with rfl | rfl <;> simp [h0, h1] at hf ⊢ <;> omega
structure VB (B : Bk) : Prop where
  n : 1 ≤ B.n ∧ B.n ≤ 4
  coin : 1 ≤ B.coin ∧ B.coin ≤ 99
  box : 0 ≤ B.box ∧ B.box ≤ 999
  len : B.ls.length ≤ 8
  clen : B.cs.length ≤ 4
  ls : B.ls.all (lnOk B.n) = true
  cs : ∀ c ∈ B.cs, 0 ≤ c.a ∧ c.a ≤ B.ls.length
  many : manyR B.n B.ls ≤ 4096
def B5 (n coin box : Int) (ls : List Ln) (cs : List Ct) : Bk := ⟨n, coin, box, ls, cs⟩
theorem VB.of {n coin box : Int} {ls : List Ln} {cs : List Ct} (h : faultT n coin box ls cs = 0) : VB (B5 n coin box ls cs) := by
  obtain ⟨f1, f2, f3, f4⟩ := fault_okT h
  unfold vldT at f3
  simp only [Bool.and_eq_true] at f3
  obtain ⟨v1, v2, v3, v4, v5⟩ := f3
  exact ⟨inR_iff.1 v1, inR_iff.1 v2, inR_iff.1 v3, f1, f2, v4, fun c hc => by
    have := List.all_eq_true.1 v5 c hc
    unfold ctOk at this
    rw [Bool.and_eq_true] at this
    exact inR_iff.1 this.1, f4⟩
theorem VB.ln {B : Bk} (V : VB B) {i : Nat} (h : i < B.ls.length) : (0 ≤ (B.ls.getD i default).k ∧ (B.ls.getD i default).k ≤ 2) ∧ (-1 ≤ (B.ls.getD i default).c ∧ (B.ls.getD i default).c ≤ 3) ∧ (-1 ≤ (B.ls.getD i default).t ∧ (B.ls.getD i default).t ≤ 3) := by
  have hok := List.all_eq_true.1 V.ls _ (getD_mem (d := default) h)
  unfold lnOk at hok
  simp only [Bool.and_eq_true, inR_iff] at hok
  have := V.n
  omega
theorem VB.rd {B : Bk} (V : VB B) {i : Nat} (h : i < B.ls.length) {x : Ln} (hx : rdB B.n (B.ls.getD i default) x = true) : (x.k = 1 ∨ x.k = 2) ∧ (0 ≤ x.c ∧ x.c ≤ 3) ∧ (0 ≤ x.t ∧ x.t ≤ 3) := by
  obtain ⟨h1, h2, h3⟩ := V.ln h
  exact rdB_bd V.n h1 h2 h3 hx
theorem cOut_step (T : List Ln) (c : Int) (i : Nat) : cOut T c (i + 1) = if (T.getD i default).c = c then (if (T.getD i default).k = 1 then (i : Int) else -1) else cOut T c i := rfl
theorem tOut_step (T : List Ln) (c : Int) (i : Nat) : tOut T c (i + 1) = if (T.getD i default).t = c then (if (T.getD i default).k = 1 then (i : Int) else -1) else tOut T c i := rfl
theorem mon_cnt {B : Bk} (V : VB B) {T : List Ln} (h : okT B T) (hl : T.length ≤ B.ls.length) : ∀ i, i ≤ T.length → monR B.box B.coin T i = B.box + B.coin * cntO T i ∧ cntO T i = cntP T i
  | 0, _ => by
    refine ⟨?_, rfl⟩
    show B.box = B.box + B.coin * 0
    omega
  | i + 1, hi => by
    obtain ⟨ih1, ih2⟩ := mon_cnt V h hl i (by omega)
    obtain ⟨h1, h2⟩ := h i (by omega)
    obtain ⟨hk, hc, ht⟩ := V.rd (by omega) h1
    unfold pos1 at h2
    rw [Bool.and_eq_true, beq_iff_eq, beq_iff_eq] at h2
    obtain ⟨p1, p2⟩ := h2
    have hm : monR B.box B.coin T (i + 1) = if (T.getD i default).k = 1 then monR B.box B.coin T i + B.coin else monR B.box B.coin T i - B.coin := rfl
    have hO : cntO T (i + 1) = if (T.getD i default).k = 1 then cntO T i + 1 else cntO T i - 1 := osg_step (fun c => cOut T c i) _ _ i hc hk p1
    have hP : cntP T (i + 1) = if (T.getD i default).k = 1 then cntP T i + 1 else cntP T i - 1 := osg_step (fun c => tOut T c i) _ _ i ht hk p2
    rw [hm, hO, hP, ih1, ih2]
    refine ⟨?_, rfl⟩
    split
    · rw [Int.mul_add]; omega
    · rw [Int.mul_sub]; omega
theorem fl_step {T : List Ln} {l : Ln} (hc : 0 ≤ l.c ∧ l.c ≤ 3) (ht : 0 ≤ l.t ∧ l.t ≤ 3) (q : Nat) : flT (T ++ [l]) q = if q < 4 then (if l.c = (q : Int) then decide (l.k = 1) else flT T q) else (if l.t = ((q - 4 : Nat) : Int) then decide (l.k = 1) else flT T q) := by
  unfold flT
  rw [List.length_append, List.length_singleton, cOut_step, tOut_step, app_last, cOut_same _ _ (SameTo.app T l), tOut_same _ _ (SameTo.app T l)]
  by_cases hq : q < 4
  · simp only [if_pos hq]
    by_cases h1 : l.c = (q : Int)
    · rw [if_pos h1, if_pos h1]
      by_cases h2 : l.k = 1
      · rw [if_pos h2]; simp [h2]
      · rw [if_neg h2]; simp [h2]
    · rw [if_neg h1, if_neg h1]
  · simp only [if_neg hq]
    by_cases h1 : l.t = ((q - 4 : Nat) : Int)
    · rw [if_pos h1, if_pos h1]
      by_cases h2 : l.k = 1
      · rw [if_pos h2]; simp [h2]
      · rw [if_neg h2]; simp [h2]
    · rw [if_neg h1, if_neg h1]
theorem pos1_fl {T : List Ln} {l : Ln} (hc : 0 ≤ l.c ∧ l.c ≤ 3) (ht : 0 ≤ l.t ∧ l.t ≤ 3) : pos1 (T ++ [l]) T.length = ((flT T l.c.toNat == decide (l.k = 2)) && (flT T (4 + l.t.toNat) == decide (l.k = 2))) := by
  unfold pos1 flT
  rw [app_last, cOut_same _ _ (SameTo.app T l), tOut_same _ _ (SameTo.app T l), if_pos (by omega), if_neg (by omega)]
  rw [show ((l.c.toNat : Nat) : Int) = l.c by omega, show ((4 + l.t.toNat - 4 : Nat) : Int) = l.t by omega]
theorem cnt_fl (T : List Ln) : cntO T T.length = b2i (flT T 0) + b2i (flT T 1) + b2i (flT T 2) + b2i (flT T 3) := by
  unfold cntO
  simp only [osg_b]
  rfl
theorem rT_pt {B : Bk} (V : VB B) {T T' : List Ln} (h : okT B T) (h' : okT B T') (hl : T'.length = T.length) (hb : T.length ≤ B.ls.length) (hf : ∀ q, q < 8 → flT T' q = flT T q) : rT B T' = rT B T := by
  have e1 := (mon_cnt V h hb T.length (Nat.le_refl _)).1
  have e2 := (mon_cnt V h' (by omega) T'.length (Nat.le_refl _)).1
  have hm : monR B.box B.coin T' T'.length = monR B.box B.coin T T.length := by
    rw [e1, e2, cnt_fl, cnt_fl, hf 0 (by omega), hf 1 (by omega), hf 2 (by omega), hf 3 (by omega)]
  show rightB B.cs (moR B.box B.coin T' T'.length) = rightB B.cs (moR B.box B.coin T T.length)
  unfold rightB
  show (B.cs.all fun c => !decide (c.a = ((T'.length : Nat) : Int)) || inR (monR B.box B.coin T' T'.length) c.lo c.hi) = B.cs.all fun c => !decide (c.a = ((T.length : Nat) : Int)) || inR (monR B.box B.coin T T.length) c.lo c.hi
  rw [hm, hl]
theorem can_pt {B : Bk} (V : VB B) : ∀ (k : Nat) {T T' : List Ln}, okT B T → okT B T' → T'.length = T.length → T.length + k = B.ls.length → (∀ q, q < 8 → flT T' q = flT T q) → canT B k T' = canT B k T
  | 0, T, T', h, h', hl, hk, hf => rT_pt V h h' hl (by omega) hf
  | k + 1, T, T', h, h', hl, hk, hf => by
    have hr := rT_pt V h h' hl (by omega) hf
    show (rT B T' && (stp B T').any (canT B k)) = (rT B T && (stp B T).any (canT B k))
    rw [hr]
    congr 1
    have key : ∀ l ∈ rdsL B.n (B.ls.getD T.length default), (pos1 (T' ++ [l]) T'.length = pos1 (T ++ [l]) T.length) ∧ (pos1 (T ++ [l]) T.length = true → canT B k (T' ++ [l]) = canT B k (T ++ [l])) := fun l hl' => by
      obtain ⟨_, hc, ht⟩ := V.rd (by omega) (mem_rdsL.1 hl')
      have hp : pos1 (T' ++ [l]) T'.length = pos1 (T ++ [l]) T.length := by rw [pos1_fl hc ht, pos1_fl hc ht, hf _ (by omega), hf _ (by omega)]
      refine ⟨hp, fun hq => can_pt V k ?_ ?_ (by simp [hl]) (by simp; omega) (fun q hq => by rw [fl_step hc ht, fl_step hc ht, hf q hq])⟩
      · exact (h.step (List.mem_map.2 ⟨l, List.mem_filter.2 ⟨hl', hq⟩, rfl⟩)).1
      · exact (h'.step (List.mem_map.2 ⟨l, List.mem_filter.2 ⟨by rw [hl]; exact hl', hp.trans hq⟩, rfl⟩)).1
    rw [Bool.eq_iff_iff, List.any_eq_true, List.any_eq_true]
    unfold stp
    rw [hl]
    constructor
    · rintro ⟨x, hx, hc⟩
      obtain ⟨l, hl', rfl⟩ := List.mem_map.1 hx
      obtain ⟨h1, h2⟩ := List.mem_filter.1 hl'
      have h2 : pos1 (T' ++ [l]) T.length = true := h2
      rw [← hl] at h2
      obtain ⟨k1, k2⟩ := key l h1
      rw [k1] at h2
      exact ⟨T ++ [l], List.mem_map.2 ⟨l, List.mem_filter.2 ⟨h1, h2⟩, rfl⟩, by rw [← k2 h2]; exact hc⟩
    · rintro ⟨x, hx, hc⟩
      obtain ⟨l, hl', rfl⟩ := List.mem_map.1 hx
      obtain ⟨h1, h2⟩ := List.mem_filter.1 hl'
      have h2 : pos1 (T ++ [l]) T.length = true := h2
      obtain ⟨k1, k2⟩ := key l h1
      refine ⟨T' ++ [l], List.mem_map.2 ⟨l, List.mem_filter.2 ⟨h1, ?_⟩, rfl⟩, by rw [k2 h2]; exact hc⟩
      show pos1 (T' ++ [l]) T.length = true
      rw [← hl, k1, h2]
theorem ext_fits {B : Bk} (V : VB B) {X : List Ln} : Ext B B.ls.length [] X ↔ fitsB B.n B.coin B.box B.ls B.cs X = true := by
  have hfr := follow_ref (T := X) V.n V.ls
  have hfit : fitsB B.n B.coin B.box B.ls B.cs X = (followB B.n B.ls X && cntB B.box B.coin B.cs X) := by
    unfold fitsB
    rw [hfr, Bool.and_assoc]
  have hright : ∀ (hl : X.length = B.ls.length), (moL (moF B.box B.coin X X.length) (X.length + 1)).all (rightB B.cs) = cntB B.box B.coin B.cs X := fun hl => right_ref fun c hc => by
    have := V.cs c hc
    omega
  rw [hfit, Bool.and_eq_true]
  constructor
  · intro h
    have hl : X.length = B.ls.length := by have := h.len; simpa using this
    refine ⟨?_, ?_⟩
    · unfold followB
      rw [Bool.and_eq_true, decide_eq_true_iff, List.all_eq_true]
      refine ⟨hl, fun q hq => ?_⟩
      have hq := List.mem_range.1 hq
      obtain ⟨h1, h2⟩ := h.st q (Nat.zero_le _) hq
      rw [h1, h2]; rfl
    · rw [← hright hl, List.all_eq_true]
      intro m hm
      unfold moL at hm
      obtain ⟨q, hq, rfl⟩ := List.mem_map.1 hm
      have hq := List.mem_range.1 hq
      rw [moF_le (by omega)]
      exact h.rt q (Nat.zero_le _) (by omega)
  · rintro ⟨h1, h2⟩
    unfold followB at h1
    rw [Bool.and_eq_true, decide_eq_true_iff, List.all_eq_true] at h1
    obtain ⟨hl, h1⟩ := h1
    refine ⟨rfl, by simpa using hl, fun i _ hi => ?_, fun i _ hi => ?_⟩
    · have := h1 i (List.mem_range.2 hi)
      rw [Bool.and_eq_true] at this
      exact this
    · rw [← hright hl, List.all_eq_true] at h2
      have := h2 (moF B.box B.coin X X.length i) (List.mem_map.2 ⟨i, List.mem_range.2 (by omega), rfl⟩)
      rw [moF_le (by omega)] at this
      exact this
end Go.Ev