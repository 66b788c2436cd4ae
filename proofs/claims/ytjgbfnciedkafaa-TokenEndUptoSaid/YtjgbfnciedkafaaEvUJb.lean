import Derived.Test.YtjgbfnciedkafaaEvUJr
import Derived.Test.YtjgbfnciedkafaaEvUFg
set_option linter.all false
namespace Go.Ev
open Go.Proofs
set_option maxRecDepth 100000
theorem WCall.borrow1 {P : Program} {f : Nat} {ds ds' : List D} {v : D} (h : PureF P f ds' v) (id : Pos) (c : C) {sl : T D} {ob : T C} {nx : Pos} {lg lg2 : Option (T Bool)} {d : Option Pos} {K : X → Prop} (hz : FzL (fun _ => False) (T.set id c .e) ds ds') (hv : Flat v) (hid : ob.get id = some c) (hlg2 : lgW lg id = lg2) (k : wDst sl ob nx lg2 d K v) : WCall P f ds d ⟨sl, ob, nx, lg⟩ K := by
  subst hlg2
  have hone : (T.set id c .e).get id = some c := T.get_set_same _ _ _
  have C := PureF.borrowL h (ob := ob) (ob1 := T.set id c .e) (ds := ds) hz (fun j c' hc => by
    by_cases e : j = id
    · subst e; rw [hone] at hc; rw [← hc]; exact hid
    · rw [T.get_set_ne e _ _, T.get_e] at hc; cases hc) hv nx (lgW_le lg id) (fun j c' hc => by
    by_cases e : j = id
    · subst e; exact (lgW_w lg j).tchd
    · rw [T.get_set_ne e _ _, T.get_e] at hc; cases hc)
  cases d with
  | none => exact ⟨_, _, _, _, _, C, rfl, k⟩
  | some d =>
    obtain ⟨h1, h2⟩ := wOut_ok k
    exact ⟨_, _, _, _, _, C, h1, h2⟩
def mo0 : Mo := ⟨0, fun _ => 0, 0, 0, ⟨0, 0, 0⟩⟩
def mo126 (F : Nat → Mo) : List D := moD (F 0) ++ (moD (F 1) ++ (moD (F 2) ++ (moD (F 3) ++ (moD (F 4) ++ (moD (F 5) ++ (moD (F 6) ++ (moD (F 7) ++ moD (F 8))))))))
def moF (box coin : Int) (T : List Ln) (j q : Nat) : Mo := bif Nat.ble q j then moR box coin T q else mo0
noncomputable def moC (F : Nat → Mo) : C := .cells false ((mo126 F).map fun d => Cell.o d 0) 1
theorem puC {l : List D} {n m st : Nat} (h : KpL n l) : KpC n (.cells false (l.map fun d => Cell.o d st) m) := by
  refine KpL.all ?_
  rw [List.map_map]
  rw [show (Cell.d ∘ fun d => Cell.o d st) = id from rfl, List.map_id]
  exact h
theorem kp_mo126 (F : Nat → Mo) (n : Nat) : KpL n (mo126 F) := by simp [mo126, moD, KpL, Kp, Pu]
def followB (n : Int) (ls T : List Ln) : Bool := decide (T.length = ls.length) && (List.range T.length).all fun q => rdB n (ls.getD q default) (T.getD q default) && pos1 T q
theorem rdB_bd {n : Int} {l r : Ln} (hn : 1 ≤ n ∧ n ≤ 4) (hk : 0 ≤ l.k ∧ l.k ≤ 2) (hc : -1 ≤ l.c ∧ l.c ≤ 3) (ht : -1 ≤ l.t ∧ l.t ≤ 3) (h : rdB n l r = true) : (r.k = 1 ∨ r.k = 2) ∧ (0 ≤ r.c ∧ r.c ≤ 3) ∧ (0 ≤ r.t ∧ r.t ≤ 3) := by
  obtain ⟨h1, h2, h3, h4, h5, h6⟩ := of_decide_eq_true h
  unfold kLo at h1
  unfold kHi at h2
  unfold cLo at h3
  unfold cHi at h4
  unfold tLo at h5
  unfold tHi at h6
  refine ⟨?_, ?_, ?_⟩
  · split at h1 <;> split at h2 <;> omega
  · split at h3 <;> split at h4 <;> omega
  · split at h5 <;> split at h6 <;> omega
end Go.Ev

namespace Go.Ev
open Go.Proofs
set_option maxRecDepth 100000
def rightB (cs : List Ct) (m : Mo) : Bool := cs.all fun c => !decide (c.a = m.n) || inR m.box c.lo c.hi
theorem j_isRight (n coin box : Int) (ls : List Ln) (cs : List Ct) (m : Mo) (hc : cs.length ≤ 1000) : PureF Try.prog p80.ix [.ag [.i .i64 n, .i .i64 coin, .i .i64 box, .lst 3 (rows lnD ls), .lst 3 (rows ctD cs), .any], .ag (moD m)] (.b (rightB cs m)) := by
  have cA := j_allCt cs p111 [.ag (moD m)] [] (fun c => !decide (c.a = m.n) || inR m.box c.lo c.hi) (by simp [PuL, Pu, moD]) trivial hc (fun c _ => j_agr m c)
  unfold moD at cA ⊢
  refine PureF.run fn79 (by simp) (by simp [PuL, PuE, Pu, pu_ints, pu_ln, pu_ct]) ?_; conv => whnf
  repeat' first | ((first | with_reducible apply WB.tt | with_reducible apply WB.ff | refine Rn.seq ?_ | refine Rn.reg ?_ | refine Rn.drw ?_ | refine Rn.blk ?_ | refine Rn.skip ?_ | refine Rn.ret ?_ | refine Rn.exit ?_ | refine Rn.cond rfl ?_ | refine And.intro (InR.i64 (by omega) (by omega)) ?_ | refine And.intro (show _ ≠ (0 : Int) by omega) ?_ | refine WIx.intsN (by omega) ?_ | refine WIx.rowsN (by omega) ?_ | refine WCall.pure (cA) ?_) <;> conv => whnf)
  exact Fin.b rfl rfl
def moL (F : Nat → Mo) (k : Nat) : List Mo := (List.range k).map F
end Go.Ev

namespace Go.Ev
open Go.Proofs
set_option maxRecDepth 100000
theorem ints_one' (l : List Int) : ∀ r ∈ ints l, r.length = 1 := fun r hr => by
  obtain ⟨n, _, rfl⟩ := List.mem_map.1 hr
  rfl
theorem nineT {m : Nat} (h : m < 9) : m = 0 ∨ m = 1 ∨ m = 2 ∨ m = 3 ∨ m = 4 ∨ m = 5 ∨ m = 6 ∨ m = 7 ∨ m = 8 := by omega
theorem puL_map_j (l : List Int) : PuL (l.map fun n => D.i .i64 n) := PuL_iff.2 fun d hd => by
  obtain ⟨n, _, rfl⟩ := List.mem_map.1 hd
  exact trivial
end Go.Ev

namespace Go.Ev
open Go.Proofs
set_option maxRecDepth 100000
section
variable {sl : T D} {ob : T C} {nx : Pos} {lg : Option (T Bool)} {K : X → Prop}
theorem WSt.app_firstL {d idy : Pos} {z curY : Nat} {roY : Bool} {x y : RX} {a : D} {r : List D} {csY : List Cell} (hx : opd sl x = some a) (ha : a = .ns ∨ a = .em) (hy : opd sl y = some (.sl idy 0 1 0 z)) (hoy : ob.get idy = some (.cells roY csY curY)) (hcy : csY = r.map fun d => Cell.o d 0) (hr : r.length = z)
    (h : lRK lg idy fun lg => lWK lg nx fun lg => T.setK nx (.cells false (r.map fun d => Cell.o d 0) 1) ob fun ob => Pos.succK nx fun nx' => wOut sl ob nx' lg d K (.sl nx 0 1 0 z)) : WSt (.app d z x y) ⟨sl, ob, nx, lg⟩ K := by
  obtain ⟨l1, e1, h⟩ := lRK_ex h
  obtain ⟨l2, e2, h⟩ := lWK_ex h
  rw [T.setK_eq, Pos.succK_eq] at h
  obtain ⟨h2, h3⟩ := wOut_ok h
  refine ⟨_, ?_, h3⟩
  show s_app d z x y sl ob nx lg = _
  unfold s_app
  rw [hx, hy]
  subst hcy hr
  have hb : Nat.beq r.length r.length = true := Nat.beq_refl _
  have hrd : readK (β := X) 0 (Nat.mul 1 r.length) (dropC 0 (r.map fun d => Cell.o d 0)) = fun k => k r := by
    rw [dropC_eq, List.drop_zero, show Nat.mul 1 r.length = r.length from Nat.one_mul _]
    have key : ∀ (l : List D) (k : List D → Option X), readK 0 l.length (l.map fun d => Cell.o d 0) k = k l := by
      intro l
      induction l with
      | nil => exact fun k => rfl
      | cons a l ih => exact fun k => ih fun ds => k (a :: ds)
    exact funext fun k => key r k
  simp only [srcK, hb, cond_true, hoy, hrd, logO, e1]
  have hle : Nat.ble (Nat.succ 0) 2147483648 = true := rfl
  rcases ha with rfl | rfl <;> simp only [hle, cond_true, openK_eq, freshK, e2, T.setK_eq, Pos.succK_eq] <;> exact h2
theorem WSt.app_oneL {d id idy : Pos} {z st len len' cur curY : Nat} {roY : Bool} {x y : RX} {ds r : List D} {csY : List Cell} {ob2 : T C} (hx : opd sl x = some (.sl id 0 len st z)) (hy : opd sl y = some (.sl idy 0 1 0 z)) (hoy : ob.get idy = some (.cells roY csY curY)) (hcy : csY = r.map fun d => Cell.o d 0) (hr : r.length = z) (hox : ob.get id = some (.cells false (ds.map fun d => Cell.o d st) cur)) (hds : ds.length = len * z) (hcur : cur = st + 1) (hlen : len' = len + 1) (hmax : len < 2147483648)
    (hob2 : T.set id (.cells false ((ds.map fun d => Cell.o d st) ++ r.map fun d => Cell.o d cur) (cur + 1)) ob = ob2) (h : lRK lg idy fun lg => lWK lg id fun lg => wOut sl ob2 nx lg d K (.sl id 0 len' cur z)) : WSt (.app d z x y) ⟨sl, ob, nx, lg⟩ K := by
  obtain ⟨l1, e1, h⟩ := lRK_ex h
  obtain ⟨l2, e2, h⟩ := lWK_ex h
  obtain ⟨h2, h3⟩ := wOut_ok h
  refine ⟨_, ?_, h3⟩
  show s_app d z x y sl ob nx lg = _
  unfold s_app
  rw [hx, hy]
  subst hcy hr hlen hob2
  have hb : Nat.beq r.length r.length = true := Nat.beq_refl _
  have hrd : readK (β := X) 0 (Nat.mul 1 r.length) (dropC 0 (r.map fun d => Cell.o d 0)) = fun k => k r := by
    rw [dropC_eq, List.drop_zero, show Nat.mul 1 r.length = r.length from Nat.one_mul _]
    have key : ∀ (l : List D) (k : List D → Option X), readK 0 l.length (l.map fun d => Cell.o d 0) k = k l := by
      intro l
      induction l with
      | nil => exact fun k => rfl
      | cons a l ih => exact fun k => ih fun ds => k (a :: ds)
    exact funext fun k => key r k
  simp only [srcK, hb, cond_true, hoy, hrd, logO, e1]
  simp only [hox]
  have hidx : Nat.add 0 (Nat.mul len r.length) = ds.length := by rw [hds]; exact Nat.zero_add _
  rw [hidx, growK_map ds cur _ hcur]
  simp only [List.append_nil, natK_eq, objOutK, e2, T.setK_eq]
  have e3 : Nat.add len (Nat.succ 0) = len + 1 := rfl
  rw [e3, Nat.ble_eq_true_of_le (show len + 1 ≤ 2147483648 from hmax)]
  exact h2
end

def cellsA {α : Type} (f : α → List D) (l : List α) (n : Nat) : List D := (rows f (l.take n)).flatten
theorem cellsA_length {α : Type} {f : α → List D} (hf : ∀ a, (f a).length = 3) (l : List α) {n : Nat} (h : n ≤ l.length) : (cellsA f l n).length = n * 3 := by
  induction n with
  | zero => simp [cellsA, rows]
  | succ n ih =>
    have := ih (by omega)
    unfold cellsA at *
    rw [List.take_succ_eq_append_getElem (by omega), rows, List.map_append, List.flatten_append, List.length_append]
    simp only [rows] at this
    rw [this]
    simp [hf]
    omega
theorem cellsA_succ {α : Type} [Inhabited α] (f : α → List D) (l : List α) {n : Nat} (h : n < l.length) : cellsA f l (n + 1) = cellsA f l n ++ f (l.getD n default) := by
  unfold cellsA
  rw [List.take_succ_eq_append_getElem h, rows, List.map_append, List.flatten_append]
  simp [rows, List.getD, h]
theorem pu_cellsA {α : Type} {f : α → List D} (hf : ∀ a, PuL (f a)) (l : List α) (n : Nat) : PuL (cellsA f l n) := by
  unfold cellsA
  exact PuL_iff.2 fun d hd => by
    obtain ⟨r, hr, hd⟩ := List.mem_flatten.1 hd
    exact PuL_iff.1 (PuE_iff.1 (pu_rows hf _) r hr) d hd
theorem pl_ln (l : Ln) : PuL (lnD l) := by simp [lnD, PuL, Pu]
theorem pl_ct (c : Ct) : PuL (ctD c) := by simp [ctD, PuL, Pu]
theorem j_to (a b : Int) : PureF Try.prog p41.ix [.ag [.i .i64 a, .i .i64 b]] (.ag [.i .i64 a, .i .i64 b]) := by
  refine PureF.run fn40 (by simp) (by simp [PuL, PuE, Pu, pu_ints, pu_ln, pu_ct]) ?_; conv => whnf
  repeat' first | ((first | with_reducible apply WB.tt | with_reducible apply WB.ff | refine Rn.seq ?_ | refine Rn.reg ?_ | refine Rn.drw ?_ | refine Rn.blk ?_ | refine Rn.skip ?_ | refine Rn.ret ?_ | refine Rn.exit ?_ | refine Rn.cond rfl ?_ | refine And.intro (InR.i64 (by omega) (by omega)) ?_ | refine And.intro (show _ ≠ (0 : Int) by omega) ?_ | refine WIx.intsN (by omega) ?_ | refine WIx.rowsN (by omega) ?_) <;> conv => whnf)
  exact ⟨.inr rfl, _, rfl, .ag (.cons (.pu trivial) (.cons (.pu trivial) .nil))⟩
theorem j_Truth (Tr : List Ln) (hT : Tr.length ≤ 65536) : PureF Try.prog p25.ix [.lst 3 (rows lnD Tr)] (.lst 3 (rows lnD Tr)) := by
  have e1 := rows_length lnD Tr
  refine PureF.run fn24 (by simp) (by simp [PuL, PuE, Pu, pu_ints, pu_ln, pu_ct]) ?_; conv => whnf
  repeat' first | ((first | with_reducible apply WB.tt | with_reducible apply WB.ff | refine Rn.seq ?_ | refine Rn.reg ?_ | refine Rn.drw ?_ | refine Rn.blk ?_ | refine Rn.skip ?_ | refine Rn.ret ?_ | refine Rn.exit ?_ | refine Rn.cond rfl ?_ | refine And.intro (InR.i64 (by omega) (by omega)) ?_ | refine And.intro (show _ ≠ (0 : Int) by omega) ?_ | refine WIx.intsN (by omega) ?_ | refine WIx.rowsN (by omega) ?_) <;> conv => whnf)
  refine Rn.loop (fun j : Nat => match j with
    | 0 => ⟨(.n (.n (.n .e (some (.ns)) .e) none .e) (some (.lst 3 (rows lnD Tr))) (.n (.n .e (some (.i .i64 0)) .e) none .e)), .e, .h, none⟩
    | j + 1 => ⟨(.n (.n (.n .e (some (.sl (.o .h) 0 (j + 1) j 3)) .e) none .e) (some (.lst 3 (rows lnD Tr))) (.n (.n .e (some (.i .i64 ((j + 1 : Nat) : Int))) .e) none .e)), (.n (.n .e (some (.cells false ((cellsA lnD Tr (j + 1)).map fun d => Cell.o d j) (j + 1))) .e) none .e), .i .h, none⟩) (fun j => j ≤ Tr.length) (fun j => Tr.length - j) 0 ?_ ?_ ?_
  · (first | (refine X.le.mk ?_ ?_ (Nat.le_refl _) rfl rfl) | skip) <;> (repeat' first | exact T.le_e _ | refine T.le_some ?_ ?_ ?_ | refine T.le_none ?_ ?_ | rfl)
  · exact Nat.zero_le _
  rintro (_ | j) hj
  · conv => whnf
    repeat' first | ((first | with_reducible apply WB.tt | with_reducible apply WB.ff | refine Rn.seq ?_ | refine Rn.reg ?_ | refine Rn.drw ?_ | refine Rn.blk ?_ | refine Rn.skip ?_ | refine Rn.ret ?_ | refine Rn.exit ?_ | refine Rn.cond rfl ?_ | refine And.intro (InR.i64 (by omega) (by omega)) ?_ | refine And.intro (show _ ≠ (0 : Int) by omega) ?_ | refine WIx.intsN (by omega) ?_ | refine WIx.rowsN (by omega) ?_) <;> conv => whnf)
    refine WB.dec (fun h => ?_) (fun h => ?_) <;> conv => whnf
    · have hlt : 0 < Tr.length := by omega
      repeat' first | ((first | with_reducible apply WB.tt | with_reducible apply WB.ff | refine Rn.seq ?_ | refine Rn.reg ?_ | refine Rn.drw ?_ | refine Rn.blk ?_ | refine Rn.skip ?_ | refine Rn.ret ?_ | refine Rn.exit ?_ | refine Rn.cond rfl ?_ | refine And.intro (InR.i64 (by omega) (by omega)) ?_ | refine And.intro (show _ ≠ (0 : Int) by omega) ?_ | refine WIx.intsN (by omega) ?_ | refine WIx.rowsN (by omega) ?_) <;> conv => whnf)
      refine WSt.app_firstL (r := lnD (Tr.getD 0 default)) rfl (.inl rfl) rfl rfl rfl rfl ?_; conv => whnf
      repeat' first | ((first | with_reducible apply WB.tt | with_reducible apply WB.ff | refine Rn.seq ?_ | refine Rn.reg ?_ | refine Rn.drw ?_ | refine Rn.blk ?_ | refine Rn.skip ?_ | refine Rn.ret ?_ | refine Rn.exit ?_ | refine Rn.cond rfl ?_ | refine And.intro (InR.i64 (by omega) (by omega)) ?_ | refine And.intro (show _ ≠ (0 : Int) by omega) ?_ | refine WIx.intsN (by omega) ?_ | refine WIx.rowsN (by omega) ?_) <;> conv => whnf)
      refine Again.to 1 (by show Tr.length - 1 < Tr.length - 0; omega) (by show 1 ≤ Tr.length; omega) (Nat.le_of_ble_eq_true rfl) ?_
      have ht : cellsA lnD Tr 1 = lnD (Tr.getD 0 default) := by rw [cellsA_succ lnD Tr hlt]; simp [cellsA, rows]
      refine Shr.of ?_ ?_ rfl rfl
      · (repeat' first | exact Rel.e | refine Rel.some ?_ ?_ ?_ | refine Rel.none ?_ ?_ | refine Rel.ee ?_ ?_)
        all_goals show Fz _ _ _ _
        all_goals first | exact .kpt (show _ < _ by simp [Pos.nat]) | exact .ksl (show _ < _ by simp [Pos.nat]) | exact .pu trivial | exact .pu (pu_ln _)
      · (repeat' first | exact Rel.e | refine Rel.some ?_ ?_ ?_ | refine Rel.none ?_ ?_ | refine Rel.ee ?_ ?_)
        all_goals first
          | (refine RO'.of (show Pos.nat _ < Pos.nat _ by simp [Pos.nat]) ?_
             show ShC _ _ _ (.cells false ((cellsA lnD Tr 1).map fun d => Cell.o d 0) 1)
             rw [ht]
             exact ShC.same (ShC.cn (.pu trivial) (ShC.cn (.pu trivial) (ShC.cn (.pu trivial) ShC.nl))))
    · repeat' first | ((first | with_reducible apply WB.tt | with_reducible apply WB.ff | refine Rn.seq ?_ | refine Rn.reg ?_ | refine Rn.drw ?_ | refine Rn.blk ?_ | refine Rn.skip ?_ | refine Rn.ret ?_ | refine Rn.exit ?_ | refine Rn.cond rfl ?_ | refine And.intro (InR.i64 (by omega) (by omega)) ?_ | refine And.intro (show _ ≠ (0 : Int) by omega) ?_ | refine WIx.intsN (by omega) ?_ | refine WIx.rowsN (by omega) ?_) <;> conv => whnf)
      refine Fin.t (.inr rfl) rfl ?_
      rw [show Tr = [] from List.length_eq_zero_iff.1 (by omega)]
      exact Fz.ns
  · have hj : j + 1 ≤ Tr.length := hj
    conv => whnf
    repeat' first | ((first | with_reducible apply WB.tt | with_reducible apply WB.ff | refine Rn.seq ?_ | refine Rn.reg ?_ | refine Rn.drw ?_ | refine Rn.blk ?_ | refine Rn.skip ?_ | refine Rn.ret ?_ | refine Rn.exit ?_ | refine Rn.cond rfl ?_ | refine And.intro (InR.i64 (by omega) (by omega)) ?_ | refine And.intro (show _ ≠ (0 : Int) by omega) ?_ | refine WIx.intsN (by omega) ?_ | refine WIx.rowsN (by omega) ?_) <;> conv => whnf)
    refine WB.dec (fun h => ?_) (fun h => ?_) <;> conv => whnf
    · have hlt : j + 1 < Tr.length := by omega
      repeat' first | ((first | with_reducible apply WB.tt | with_reducible apply WB.ff | refine Rn.seq ?_ | refine Rn.reg ?_ | refine Rn.drw ?_ | refine Rn.blk ?_ | refine Rn.skip ?_ | refine Rn.ret ?_ | refine Rn.exit ?_ | refine Rn.cond rfl ?_ | refine And.intro (InR.i64 (by omega) (by omega)) ?_ | refine And.intro (show _ ≠ (0 : Int) by omega) ?_ | refine WIx.intsN (by omega) ?_ | refine WIx.rowsN (by omega) ?_) <;> conv => whnf)
      refine WSt.app_oneL (ds := cellsA lnD Tr (j + 1)) (r := lnD (Tr.getD (j + 1) default)) rfl rfl rfl rfl rfl rfl (cellsA_length (fun _ => rfl) Tr (by omega)) rfl rfl (by omega) rfl ?_; conv => whnf
      repeat' first | ((first | with_reducible apply WB.tt | with_reducible apply WB.ff | refine Rn.seq ?_ | refine Rn.reg ?_ | refine Rn.drw ?_ | refine Rn.blk ?_ | refine Rn.skip ?_ | refine Rn.ret ?_ | refine Rn.exit ?_ | refine Rn.cond rfl ?_ | refine And.intro (InR.i64 (by omega) (by omega)) ?_ | refine And.intro (show _ ≠ (0 : Int) by omega) ?_ | refine WIx.intsN (by omega) ?_ | refine WIx.rowsN (by omega) ?_) <;> conv => whnf)
      refine Again.to (j + 2) (by show Tr.length - (j + 2) < Tr.length - (j + 1); omega) (by show j + 2 ≤ Tr.length; omega) (Nat.le_of_ble_eq_true rfl) ?_
      refine Shr.of ?_ ?_ rfl rfl
      · (repeat' first | exact Rel.e | refine Rel.some ?_ ?_ ?_ | refine Rel.none ?_ ?_ | refine Rel.ee ?_ ?_)
        all_goals show Fz _ _ _ _
        all_goals first | exact .kpt (show _ < _ by simp [Pos.nat]) | exact .ksl (show _ < _ by simp [Pos.nat]) | exact .pu trivial | exact .pu (pu_ln _)
      · (repeat' first | exact Rel.e | refine Rel.some ?_ ?_ ?_ | refine Rel.none ?_ ?_ | refine Rel.ee ?_ ?_)
        all_goals first
          | (refine RO'.of (show Pos.nat _ < Pos.nat _ by simp [Pos.nat]) ?_
             show ShC _ _ (.cells false (((cellsA lnD Tr (j + 1)).map fun d => Cell.o d j) ++ (lnD (Tr.getD (j + 1) default)).map fun d => Cell.o d (j + 1)) (j + 1 + 1)) (.cells false ((cellsA lnD Tr (j + 1 + 1)).map fun d => Cell.o d (j + 1)) (j + 1 + 1))
             rw [cellsA_succ lnD Tr hlt]
             exact ShC.grown (by omega) (PuL_iff.2 fun d hd => (List.mem_append.1 hd).elim (fun hd => PuL_iff.1 (pu_cellsA pl_ln Tr _) d hd) (fun hd => PuL_iff.1 (pl_ln _) d hd)))
    · repeat' first | ((first | with_reducible apply WB.tt | with_reducible apply WB.ff | refine Rn.seq ?_ | refine Rn.reg ?_ | refine Rn.drw ?_ | refine Rn.blk ?_ | refine Rn.skip ?_ | refine Rn.ret ?_ | refine Rn.exit ?_ | refine Rn.cond rfl ?_ | refine And.intro (InR.i64 (by omega) (by omega)) ?_ | refine And.intro (show _ ≠ (0 : Int) by omega) ?_ | refine WIx.intsN (by omega) ?_ | refine WIx.rowsN (by omega) ?_) <;> conv => whnf)
      refine Fin.t (.inr rfl) rfl ?_
      exact Frz.whole (cs := (cellsA lnD Tr (j + 1)).map fun d => Cell.o d j) (cur := j + 1) rfl (by rw [rows_length]; omega) (ln_three _) (by unfold cellsA; rw [List.take_of_length_le (by omega)]) (pu_ln _)
noncomputable def bo5 (n coin box : Int) (ls : List Ln) (d : D) : C := .cells false ([.i .i64 n, .i .i64 coin, .i .i64 box, .lst 3 (rows lnD ls), d].map fun d => Cell.o d 0) 1
theorem bo5_sh (n coin box : Int) (ls : List Ln) {d : D} {B : Pos → Prop} {ob : T C} (h : Fz B ob d d) : ShC B ob (bo5 n coin box ls d) (bo5 n coin box ls d) := ShC.same (ShC.cn (.pu trivial) (ShC.cn (.pu trivial) (ShC.cn (.pu trivial) (ShC.cn (.pu (pu_ln _)) (ShC.cn h ShC.nl)))))
noncomputable def bz5 : C := .cells false ([.i .i64 0, .i .i64 0, .i .i64 0, .ns, .ns].map fun d => Cell.o d 0) 1
theorem bz5_sh {B : Pos → Prop} {ob : T C} : ShC B ob bz5 bz5 := ShC.same (ShC.cn (.pu trivial) (ShC.cn (.pu trivial) (ShC.cn (.pu trivial) (ShC.cn (.pu trivial) (ShC.cn (.pu trivial) ShC.nl)))))
set_option maxHeartbeats 1000000 in
theorem j_Book (n coin box : Int) (ls : List Ln) (cs : List Ct) (hl : ls.length ≤ 65536) (hc : cs.length ≤ 65536) :
    PureF Try.prog p24.ix [.ag [.i .i64 n, .i .i64 coin, .i .i64 box, .lst 3 (rows lnD ls), .lst 3 (rows ctD cs)]] (.ag [.i .i64 n, .i .i64 coin, .i .i64 box, .lst 3 (rows lnD ls), .lst 3 (rows ctD cs)]) := by
  have e2 := rows_length ctD cs
  refine PureF.run fn23 (by simp) (by simp [PuL, PuE, Pu, pu_ints, pu_ln, pu_ct]) ?_; conv => whnf
  repeat' first | ((first | with_reducible apply WB.tt | with_reducible apply WB.ff | refine Rn.seq ?_ | refine Rn.reg ?_ | refine Rn.drw ?_ | refine Rn.blk ?_ | refine Rn.skip ?_ | refine Rn.ret ?_ | refine Rn.exit ?_ | refine Rn.cond rfl ?_ | refine And.intro (InR.i64 (by omega) (by omega)) ?_ | refine And.intro (show _ ≠ (0 : Int) by omega) ?_ | refine WIx.intsN (by omega) ?_ | refine WIx.rowsN (by omega) ?_ | refine WCall.pure (j_Truth ls hl) ?_) <;> conv => whnf)
  refine Rn.loop (fun j : Nat => match j with
    | 0 => ⟨(.n (.n (.n .e (some (.pt (.i .h) 0 0)) .e) (some (.pt .h 0 0)) .e) none (.n (.n .e (some (.i .i64 0)) .e) (some (.pt (.o .h) 0 0)) .e)), (.n (.n .e (some (bz5)) .e) (some (bo5 n coin box ls (.lst 3 (rows ctD cs)))) (.n .e (some (bo5 n coin box ls .ns)) .e)), .o (.o .h), none⟩
    | j + 1 => ⟨(.n (.n (.n .e (some (.pt (.i .h) 0 0)) .e) (some (.pt .h 0 0)) .e) none (.n (.n .e (some (.i .i64 ((j + 1 : Nat) : Int))) .e) (some (.pt (.o .h) 0 0)) .e)), (.n (.n .e (some (bz5)) .e) (some (bo5 n coin box ls (.lst 3 (rows ctD cs)))) (.n (.n .e (some (.cells false ((cellsA ctD cs (j + 1)).map fun d => Cell.o d j) (j + 1))) .e) (some (bo5 n coin box ls (.sl (.i (.o .h)) 0 (j + 1) j 3))) .e)), .o (.i .h), none⟩) (fun j => j ≤ cs.length) (fun j => cs.length - j) 0 ?_ ?_ ?_
  · refine X.le.mk ?_ ?_ (Nat.le_refl _) rfl rfl <;> (repeat' first | exact T.le_e _ | refine T.le_some ?_ rfl ?_ | refine T.le_none ?_ ?_)
  · exact Nat.zero_le _
  rintro (_ | j) hj
  · conv => whnf
    repeat' first | ((first | with_reducible apply WB.tt | with_reducible apply WB.ff | refine Rn.seq ?_ | refine Rn.reg ?_ | refine Rn.drw ?_ | refine Rn.blk ?_ | refine Rn.skip ?_ | refine Rn.ret ?_ | refine Rn.exit ?_ | refine Rn.cond rfl ?_ | refine And.intro (InR.i64 (by omega) (by omega)) ?_ | refine And.intro (show _ ≠ (0 : Int) by omega) ?_ | refine WIx.intsN (by omega) ?_ | refine WIx.rowsN (by omega) ?_) <;> conv => whnf)
    refine WB.dec (fun h => ?_) (fun h => ?_) <;> conv => whnf
    · have hlt : 0 < cs.length := by omega
      repeat' first | ((first | with_reducible apply WB.tt | with_reducible apply WB.ff | refine Rn.seq ?_ | refine Rn.reg ?_ | refine Rn.drw ?_ | refine Rn.blk ?_ | refine Rn.skip ?_ | refine Rn.ret ?_ | refine Rn.exit ?_ | refine Rn.cond rfl ?_ | refine And.intro (InR.i64 (by omega) (by omega)) ?_ | refine And.intro (show _ ≠ (0 : Int) by omega) ?_ | refine WIx.intsN (by omega) ?_ | refine WIx.rowsN (by omega) ?_ | refine WCall.pure (j_to _ _) ?_) <;> conv => whnf)
      refine WSt.app_firstL (r := ctD (cs.getD 0 default)) rfl (.inl rfl) rfl rfl rfl rfl ?_; conv => whnf
      repeat' first | ((first | with_reducible apply WB.tt | with_reducible apply WB.ff | refine Rn.seq ?_ | refine Rn.reg ?_ | refine Rn.drw ?_ | refine Rn.blk ?_ | refine Rn.skip ?_ | refine Rn.ret ?_ | refine Rn.exit ?_ | refine Rn.cond rfl ?_ | refine And.intro (InR.i64 (by omega) (by omega)) ?_ | refine And.intro (show _ ≠ (0 : Int) by omega) ?_ | refine WIx.intsN (by omega) ?_ | refine WIx.rowsN (by omega) ?_) <;> conv => whnf)
      refine Again.to 1 (by show cs.length - 1 < cs.length - 0; omega) (by show 1 ≤ cs.length; omega) (Nat.le_of_ble_eq_true rfl) ?_
      have ht : cellsA ctD cs 1 = ctD (cs.getD 0 default) := by rw [cellsA_succ ctD cs hlt]; simp [cellsA, rows]
      refine Shr.of ?_ ?_ rfl rfl
      · (repeat' first | exact Rel.e | refine Rel.some ?_ ?_ ?_ | refine Rel.none ?_ ?_ | refine Rel.ee ?_ ?_)
        all_goals show Fz _ _ _ _
        all_goals first | exact .kpt (show _ < _ by simp [Pos.nat]) | exact .ksl (show _ < _ by simp [Pos.nat]) | exact .pu trivial | exact .pu trivial
      · (repeat' first | exact Rel.e | refine Rel.some ?_ ?_ ?_ | refine Rel.none ?_ ?_ | refine Rel.ee ?_ ?_)
        all_goals first
          | exact RO'.of (show _ < _ by simp [Pos.nat]) (bo5_sh n coin box ls (.pu (pu_ct _)))
          | exact RO'.of (show _ < _ by simp [Pos.nat]) (bo5_sh n coin box ls (.ksl (show _ < _ by simp [Pos.nat])))
          | exact RO'.of (show _ < _ by simp [Pos.nat]) bz5_sh
          | (refine RO'.of (show Pos.nat _ < Pos.nat _ by simp [Pos.nat]) ?_
             show ShC _ _ _ (.cells false ((cellsA ctD cs 1).map fun d => Cell.o d 0) 1)
             rw [ht]
             exact ShC.same (ShC.cn (.pu trivial) (ShC.cn (.pu trivial) (ShC.cn (.pu trivial) ShC.nl))))
    · repeat' first | ((first | with_reducible apply WB.tt | with_reducible apply WB.ff | refine Rn.seq ?_ | refine Rn.reg ?_ | refine Rn.drw ?_ | refine Rn.blk ?_ | refine Rn.skip ?_ | refine Rn.ret ?_ | refine Rn.exit ?_ | refine Rn.cond rfl ?_ | refine And.intro (InR.i64 (by omega) (by omega)) ?_ | refine And.intro (show _ ≠ (0 : Int) by omega) ?_ | refine WIx.intsN (by omega) ?_ | refine WIx.rowsN (by omega) ?_) <;> conv => whnf)
      refine ⟨.inr rfl, _, rfl, ?_⟩
      rw [show cs = [] from List.length_eq_zero_iff.1 (by omega)]
      exact .ag (.cons (.pu trivial) (.cons (.pu trivial) (.cons (.pu trivial) (.cons (.pu (pu_ln _)) (.cons .ns .nil)))))
  · have hj : j + 1 ≤ cs.length := hj
    conv => whnf
    repeat' first | ((first | with_reducible apply WB.tt | with_reducible apply WB.ff | refine Rn.seq ?_ | refine Rn.reg ?_ | refine Rn.drw ?_ | refine Rn.blk ?_ | refine Rn.skip ?_ | refine Rn.ret ?_ | refine Rn.exit ?_ | refine Rn.cond rfl ?_ | refine And.intro (InR.i64 (by omega) (by omega)) ?_ | refine And.intro (show _ ≠ (0 : Int) by omega) ?_ | refine WIx.intsN (by omega) ?_ | refine WIx.rowsN (by omega) ?_) <;> conv => whnf)
    refine WB.dec (fun h => ?_) (fun h => ?_) <;> conv => whnf
    · have hlt : j + 1 < cs.length := by omega
      repeat' first | ((first | with_reducible apply WB.tt | with_reducible apply WB.ff | refine Rn.seq ?_ | refine Rn.reg ?_ | refine Rn.drw ?_ | refine Rn.blk ?_ | refine Rn.skip ?_ | refine Rn.ret ?_ | refine Rn.exit ?_ | refine Rn.cond rfl ?_ | refine And.intro (InR.i64 (by omega) (by omega)) ?_ | refine And.intro (show _ ≠ (0 : Int) by omega) ?_ | refine WIx.intsN (by omega) ?_ | refine WIx.rowsN (by omega) ?_ | refine WCall.pure (j_to _ _) ?_) <;> conv => whnf)
      refine WSt.app_oneL (ds := cellsA ctD cs (j + 1)) (r := ctD (cs.getD (j + 1) default)) rfl rfl rfl rfl rfl rfl (cellsA_length (fun _ => rfl) cs (by omega)) rfl rfl (by omega) rfl ?_; conv => whnf
      repeat' first | ((first | with_reducible apply WB.tt | with_reducible apply WB.ff | refine Rn.seq ?_ | refine Rn.reg ?_ | refine Rn.drw ?_ | refine Rn.blk ?_ | refine Rn.skip ?_ | refine Rn.ret ?_ | refine Rn.exit ?_ | refine Rn.cond rfl ?_ | refine And.intro (InR.i64 (by omega) (by omega)) ?_ | refine And.intro (show _ ≠ (0 : Int) by omega) ?_ | refine WIx.intsN (by omega) ?_ | refine WIx.rowsN (by omega) ?_) <;> conv => whnf)
      refine Again.to (j + 2) (by show cs.length - (j + 2) < cs.length - (j + 1); omega) (by show j + 2 ≤ cs.length; omega) (Nat.le_of_ble_eq_true rfl) ?_
      refine Shr.of ?_ ?_ rfl rfl
      · (repeat' first | exact Rel.e | refine Rel.some ?_ ?_ ?_ | refine Rel.none ?_ ?_ | refine Rel.ee ?_ ?_)
        all_goals show Fz _ _ _ _
        all_goals first | exact .kpt (show _ < _ by simp [Pos.nat]) | exact .ksl (show _ < _ by simp [Pos.nat]) | exact .pu trivial | exact .pu trivial
      · (repeat' first | exact Rel.e | refine Rel.some ?_ ?_ ?_ | refine Rel.none ?_ ?_ | refine Rel.ee ?_ ?_)
        all_goals first
          | exact RO'.of (show _ < _ by simp [Pos.nat]) (bo5_sh n coin box ls (.pu (pu_ct _)))
          | exact RO'.of (show _ < _ by simp [Pos.nat]) (bo5_sh n coin box ls (.ksl (show _ < _ by simp [Pos.nat])))
          | exact RO'.of (show _ < _ by simp [Pos.nat]) bz5_sh
          | (refine RO'.of (show Pos.nat _ < Pos.nat _ by simp [Pos.nat]) ?_
             show ShC _ _ (.cells false (((cellsA ctD cs (j + 1)).map fun d => Cell.o d j) ++ (ctD (cs.getD (j + 1) default)).map fun d => Cell.o d (j + 1)) (j + 1 + 1)) (.cells false ((cellsA ctD cs (j + 1 + 1)).map fun d => Cell.o d (j + 1)) (j + 1 + 1))
             rw [cellsA_succ ctD cs hlt]
             exact ShC.grown (by omega) (PuL_iff.2 fun d hd => (List.mem_append.1 hd).elim (fun hd => PuL_iff.1 (pu_cellsA pl_ct cs _) d hd) (fun hd => PuL_iff.1 (pl_ct _) d hd)))
    · repeat' first | ((first | with_reducible apply WB.tt | with_reducible apply WB.ff | refine Rn.seq ?_ | refine Rn.reg ?_ | refine Rn.drw ?_ | refine Rn.blk ?_ | refine Rn.skip ?_ | refine Rn.ret ?_ | refine Rn.exit ?_ | refine Rn.cond rfl ?_ | refine And.intro (InR.i64 (by omega) (by omega)) ?_ | refine And.intro (show _ ≠ (0 : Int) by omega) ?_ | refine WIx.intsN (by omega) ?_ | refine WIx.rowsN (by omega) ?_) <;> conv => whnf)
      refine ⟨.inr rfl, _, rfl, ?_⟩
      refine .ag (.cons (.pu trivial) (.cons (.pu trivial) (.cons (.pu trivial) (.cons (.pu (pu_ln _)) (.cons ?_ .nil)))))
      exact Frz.whole (cs := (cellsA ctD cs (j + 1)).map fun d => Cell.o d j) (cur := j + 1) rfl (by rw [rows_length]; omega) (ct_three _) (by unfold cellsA; rw [List.take_of_length_le (by omega)]) (pu_ct _)
end Go.Ev

namespace Go.Ev
open Go.Proofs
set_option maxRecDepth 100000
theorem rd_same {n : Int} {l x : Ln} (hn : 1 ≤ n ∧ n ≤ 4) (h : lnOk n l = true) : rdB n l x = rd1 n l x := by
  unfold lnOk at h
  simp only [Bool.and_eq_true, inR_iff] at h
  obtain ⟨⟨h1, h2⟩, ⟨h3, h4⟩, ⟨h5, h6⟩⟩ := h
  have hK : (kLo l ≤ x.k ∧ x.k ≤ kHi l) ↔ ((1 ≤ x.k ∧ x.k ≤ 2) ∧ (l.k = 0 ∨ l.k = x.k)) := by
    unfold kLo kHi
    split <;> omega
  have hC : (cLo l ≤ x.c ∧ x.c ≤ cHi n l) ↔ ((0 ≤ x.c ∧ x.c ≤ n - 1) ∧ (l.c < 0 ∨ l.c = x.c)) := by
    unfold cLo cHi
    split <;> omega
  have hT : (tLo l ≤ x.t ∧ x.t ≤ tHi n l) ↔ ((0 ≤ x.t ∧ x.t ≤ n - 1) ∧ (l.t < 0 ∨ l.t = x.t)) := by
    unfold tLo tHi
    split <;> omega
  unfold rdB rd1 agB
  rw [Bool.eq_iff_iff]
  simp only [Bool.and_eq_true, Bool.or_eq_true, decide_eq_true_iff, inR_iff]
  constructor
  · rintro ⟨a, b, c, d, e, f⟩
    have k := hK.1 ⟨a, b⟩
    have k2 := hC.1 ⟨c, d⟩
    have k3 := hT.1 ⟨e, f⟩
    exact ⟨k.1, k2.1, k3.1, k.2, k2.2, k3.2⟩
  · rintro ⟨a, b, c, d, e, f⟩
    have k := hK.2 ⟨a, d⟩
    have k2 := hC.2 ⟨b, e⟩
    have k3 := hT.2 ⟨c, f⟩
    exact ⟨k.1, k.2, k2.1, k2.2, k3.1, k3.2⟩
theorem all_and {α : Type} (p q : α → Bool) : ∀ l : List α, (l.all fun x => p x && q x) = (l.all p && l.all q)
  | [] => rfl
  | x :: l => by
    simp only [List.all_cons, all_and p q l]
    cases p x <;> cases q x <;> cases l.all p <;> cases l.all q <;> rfl
theorem all_same {α : Type} {p q : α → Bool} : ∀ {l : List α}, (∀ x ∈ l, p x = q x) → l.all p = l.all q
  | [], _ => rfl
  | x :: l, h => by
    simp only [List.all_cons]
    rw [h x (by simp), all_same fun y hy => h y (by simp [hy])]
theorem follow_ref {n : Int} {ls T : List Ln} (hn : 1 ≤ n ∧ n ≤ 4) (h : ls.all (lnOk n) = true) : followB n ls T = (readB n ls T && possB T) := by
  unfold followB readB possB
  by_cases hl : T.length = ls.length
  · rw [decide_eq_true hl, Bool.true_and, Bool.true_and, ← all_and]
    refine all_same fun q hq => ?_
    have hq := List.mem_range.1 hq
    rw [rd_same hn (List.all_eq_true.1 h _ (getD_mem (d := default) (by omega)))]
  · rw [decide_eq_false hl]; rfl
theorem moF_le {box coin : Int} {T : List Ln} {j q : Nat} (h : q ≤ j) : moF box coin T j q = moR box coin T q := by
  unfold moF
  rw [Nat.ble_eq_true_of_le h]; rfl
theorem right_ref {box coin : Int} {cs : List Ct} {T : List Ln} (hok : ∀ c ∈ cs, 0 ≤ c.a ∧ c.a ≤ T.length) : (moL (moF box coin T T.length) (T.length + 1)).all (rightB cs) = cntB box coin cs T := by
  rw [Bool.eq_iff_iff, List.all_eq_true]
  unfold cntB
  rw [List.all_eq_true]
  constructor
  · intro h c hc
    obtain ⟨a1, a2⟩ := hok c hc
    have hm := h (moF box coin T T.length c.a.toNat) (by unfold moL; exact List.mem_map.2 ⟨c.a.toNat, List.mem_range.2 (by omega), rfl⟩)
    unfold rightB at hm
    have := List.all_eq_true.1 hm c hc
    rw [moF_le (by omega)] at this
    have hd : c.a = (moR box coin T c.a.toNat).n := by show c.a = ((c.a.toNat : Nat) : Int); omega
    rw [decide_eq_true hd] at this
    exact this
  · intro h m hm
    unfold moL at hm
    obtain ⟨q, hq, rfl⟩ := List.mem_map.1 hm
    have hq := List.mem_range.1 hq
    rw [moF_le (by omega)]
    unfold rightB
    rw [List.all_eq_true]
    intro c hc
    have := h c hc
    by_cases e : c.a = (moR box coin T q).n
    · have e' : c.a = (q : Int) := e
      rw [show c.a.toNat = q by omega] at this
      rw [decide_eq_true e]
      exact this
    · rw [decide_eq_false e]; rfl
end Go.Ev
