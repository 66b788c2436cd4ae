import Derived.Test.YtjgbfnciedkafaaEvUGc
set_option linter.all false
namespace Go.Ev
open Go.Proofs
set_option maxRecDepth 100000
theorem Cv.ns {γ γ' : Gh} {w : World} {z : Nat} : Cv γ γ' w .ns (.lst z []) := fun v h => by
  unfold DV at h ⊢
  exact ⟨none, 0, h, Nat.le_refl _, fun _ => rfl, .inl rfl⟩
theorem WSt.slcT {sl : T D} {ob : T C} {nx : Pos} {lg : Option (T Bool)} {K : X → Prop} {d : Pos} {z h : Nat} {x xh : RX} {es : List (List D)} (hx : opd sl x = some (.lst z es)) (hhi : opd sl xh = some (.i .i64 (h : Int))) (h2 : h ≤ es.length) (k : wOut sl ob nx lg d K (.lst z (es.take h))) : WSt (.slc d z x none (some xh) none) ⟨sl, ob, nx, lg⟩ K := by
  obtain ⟨k2, k3⟩ := wOut_ok k
  refine ⟨_, ?_, k3⟩
  show s_slc d z x none (some xh) none sl ob nx lg = _
  unfold s_slc
  rw [hx]
  have hhi' : ((h : Nat) : Int) = Int.ofNat h := rfl
  have b1 : Nat.ble 0 h = true := Nat.ble_eq_true_of_le (Nat.zero_le _)
  have b2 : Nat.ble h es.length = true := Nat.ble_eq_true_of_le h2
  simp only [bnd, hhi, hhi', Nat.beq_refl, cond_true, b1, b2, Bool.and_self, List.drop_zero]
  exact k2
theorem begin_ns {n coin box : Int} {ls : List Ln} {ob : T C} {nx : Pos} {lg : Option (T Bool)} : CallOk Try.prog p75.ix [.ag [.i .i64 n, .i .i64 coin, .i .i64 box, .lst 3 (rows lnD ls), .ns]] ob nx lg (.ag (wkQ (B5 n coin box ls []) ++ [.mp nx])) (T.set nx (.map (mapL [])) ob) nx.succ (lgW lg nx) :=
  (begin_at (B := B5 n coin box ls [])).sub fun γ w => .cons (.ag (.cons (.pu (fun _ h => h) trivial) (.cons (.pu (fun _ h => h) trivial) (.cons (.pu (fun _ h => h) trivial) (.cons (.pu (fun _ h => h) (pu_ln _)) (.cons .ns .nil)))))) .nil
theorem prod_take {n : Int} (hn : 1 ≤ n ∧ n ≤ 4) (ls : List Ln) (k : Nat) : prodP n (ls.take k) ≤ prodP n ls := by
  have h1 : prodP n ls = (ls.drop k).foldl (fun m l => m * rdN n l) (prodP n (ls.take k)) := by
    unfold prodP
    rw [← List.foldl_append, List.take_append_drop]
  have h2 := (many_prod hn.1 hn.2 (ls.take k)).2
  rw [h1]
  generalize prodP n (ls.take k) = p at h2 ⊢
  generalize ls.drop k = r
  induction r generalizing p with
  | nil => exact Int.le_refl _
  | cons x r ih =>
    obtain ⟨b1, b2⟩ := rdN_bd hn.1 hn.2 x
    have h0 : p * 1 ≤ p * rdN n x := Int.mul_le_mul (Int.le_refl _) b1 (by omega) (by omega)
    rw [Int.mul_one] at h0
    exact Int.le_trans h0 (ih (p * rdN n x) (by omega))
theorem VB.pre {n coin box : Int} {ls : List Ln} {cs : List Ct} (V : VB (B5 n coin box ls cs)) (k : Nat) : VB (B5 n coin box (ls.take k) []) := by
  have hn : 1 ≤ n ∧ n ≤ 4 := V.n
  have h8 : ls.length ≤ 8 := V.len
  refine ⟨V.n, V.coin, V.box, ?_, by show (0 : Nat) ≤ 4; omega, ?_, fun c hc => absurd (show c ∈ ([] : List Ct) from hc) (by simp), ?_⟩
  · show (ls.take k).length ≤ 8
    rw [List.length_take]; omega
  · show (ls.take k).all (lnOk n) = true
    rw [List.all_eq_true]
    exact fun x hx => List.all_eq_true.1 V.ls x (List.mem_of_mem_take hx)
  · show manyR n (ls.take k) ≤ 4096
    have h1 := many_prod hn.1 hn.2 (ls.take k)
    have h2 := many_prod hn.1 hn.2 ls
    have h3 := prod_take hn ls k
    have h4 : manyR n ls ≤ 4096 := V.many
    omega
def badN (n coin box : Int) (ls : List Ln) (k : Nat) : Bool := !hasB (B5 n coin box (ls.take (k + 1)) [])
def fstN (n coin box : Int) (ls : List Ln) : Option Nat := (List.range ls.length).find? (badN n coin box ls)
def fstT (n coin box : Int) (ls : List Ln) (cs : List Ct) : Int × Int :=
  if faultT n coin box ls cs = 0 then (match fstN n coin box ls with | some k => ((k : Int), 0) | none => (0, 7)) else (0, faultT n coin box ls cs)
noncomputable def fsS (n coin box : Int) (ls : List Ln) (es : List (List D)) (d : D) (j : Nat) : X := ⟨(.n (.n .e (some (.pt .h 0 0)) (.n (.n (.n .e (some (.i .i64 (j : Int))) .e) none .e) (some (.lst 3 (rows lnD ls))) .e)) none (.n (.n (.n (.n .e (some (.i .i64 (ls.length : Int))) .e) none .e) none .e) none .e)), (.n .e (some (.cells false [.o (.i .i64 n) 0, .o (.i .i64 coin) 0, .o (.i .i64 box) 0, .o (.lst 3 es) 0, .o .ns 0] 1)) .e), .o .h, none⟩
theorem j_FirstP (n coin box : Int) (ls : List Ln) (cs : List Ct) : PureF Try.prog p47.ix [.ag [.i .i64 n, .i .i64 coin, .i .i64 box, .lst 3 (rows lnD ls), .lst 3 (rows ctD cs)]] (.tp [.i .i64 (fstT n coin box ls cs).1, .i .i64 (fstT n coin box ls cs).2]) := by
  have e1 := rows_length lnD ls
  have iC := j_CheckBook n coin box ls cs
  refine PureF.run fn46 (by simp) (by simp [PuL, PuE, Pu, pu_ints, pu_ln, pu_ct]) ?_; conv => whnf
  by_cases hf : faultT n coin box ls cs = 0
  · have V := VB.of hf
    have hR : fstT n coin box ls cs = (match fstN n coin box ls with | some k => ((k : Int), 0) | none => (0, 7)) := by unfold fstT; rw [if_pos hf]
    rw [hf] at iC
    rw [hR]
    have h8 : ls.length ≤ 8 := V.len
    repeat' first | ((first | with_reducible apply WB.tt | with_reducible apply WB.ff | refine Rn.seq ?_ | refine Rn.reg ?_ | refine Rn.drw ?_ | refine Rn.blk ?_ | refine Rn.skip ?_ | refine Rn.ret ?_ | refine Rn.exit ?_ | refine Rn.cond rfl ?_ | refine And.intro (InR.i64 (by omega) (by omega)) ?_ | refine And.intro (show _ ≠ (0 : Int) by omega) ?_ | refine WIx.intsN (by omega) ?_ | refine WIx.rowsN (by omega) ?_ | refine WCall.pure (iC) ?_ | with_reducible refine WB.decT (by first | with_reducible rfl | assumption | omega | exact ⟨rfl, rfl⟩) ?_ | with_reducible refine WB.decF (by first | assumption | omega) ?_ | with_reducible refine WB.ndT (by first | with_reducible rfl | assumption | omega | exact ⟨rfl, rfl⟩) ?_ | with_reducible refine WB.ndF (by first | assumption | omega) ?_ | with_reducible refine WB.nt ?_ | with_reducible refine WB.nf ?_ | with_reducible refine WB.dec (fun h => ?_) (fun h => ?_) | with_reducible refine WB.ndec (fun h => ?_) (fun h => ?_) | refine WB.mk (fun h => ?_) (fun h => ?_)) <;> conv => whnf)
    refine Rn.loop (fun j : Nat => fsS n coin box ls (match j with | 0 => rows lnD ls | j + 1 => (rows lnD ls).take (j + 1)) .ns j) (fun j => j ≤ ls.length ∧ ∀ i, i < j → badN n coin box ls i = false) (fun j => ls.length - j) 0 ?_ ?_ ?_
    · refine X.le.mk ?_ ?_ (Nat.le_refl _) rfl rfl
      · show T.le ((.n (.n .e (some (.pt .h 0 0)) (.n (.n (.n .e (some (.i .i64 0)) .e) none .e) (some (.lst 3 (rows lnD ls))) .e)) none (.n (.n (.n (.n .e (some (.i .i64 (ls.length : Int))) .e) none .e) none .e) none .e)) : T D) _
        rw [← e1]
        (repeat' first | exact T.le_e _ | refine T.le_some ?_ rfl ?_ | refine T.le_none ?_ ?_)
      · (repeat' first | exact T.le_e _ | refine T.le_some ?_ rfl ?_ | refine T.le_none ?_ ?_ | refine T.le_ee ?_ ?_)
    · exact ⟨Nat.zero_le _, fun i h => absurd h (Nat.not_lt_zero _)⟩
    rintro j ⟨hj, ha⟩
    have hj : j ≤ ls.length := hj
    generalize (match j with | 0 => rows lnD ls | j + 1 => (rows lnD ls).take (j + 1)) = es
    conv => whnf
    repeat' first | ((first | with_reducible apply WB.tt | with_reducible apply WB.ff | refine Rn.seq ?_ | refine Rn.reg ?_ | refine Rn.drw ?_ | refine Rn.blk ?_ | refine Rn.skip ?_ | refine Rn.ret ?_ | refine Rn.exit ?_ | refine Rn.cond rfl ?_ | refine And.intro (InR.i64 (by omega) (by omega)) ?_ | refine And.intro (show _ ≠ (0 : Int) by omega) ?_ | refine WIx.intsN (by omega) ?_ | refine WIx.rowsN (by omega) ?_) <;> conv => whnf)
    refine WB.dec (fun h => ?_) (fun h => ?_) <;> conv => whnf
    · have hlt : j < ls.length := by omega
      have hw : badN n coin box ls j = !hasB (B5 n coin box (ls.take (j + 1)) []) := rfl
      obtain ⟨M', hM', Hh⟩ := j_hasTruth (V.pre (j + 1)) [] (MOk.nil _)
      have hrow : (rows lnD ls).take (j + 1) = rows lnD (ls.take (j + 1)) := List.map_take.symm
      repeat' first | ((first | with_reducible apply WB.tt | with_reducible apply WB.ff | refine Rn.seq ?_ | refine Rn.reg ?_ | refine Rn.drw ?_ | refine Rn.blk ?_ | refine Rn.skip ?_ | refine Rn.ret ?_ | refine Rn.exit ?_ | refine Rn.cond rfl ?_ | refine And.intro (InR.i64 (by omega) (by omega)) ?_ | refine And.intro (show _ ≠ (0 : Int) by omega) ?_ | refine WIx.intsN (by omega) ?_ | refine WIx.rowsN (by omega) ?_) <;> conv => whnf)
      refine WSt.slcT (h := j + 1) (by rfl) (by rfl) (by rw [e1]; omega) ?_; conv => whnf
      repeat' first | ((first | with_reducible apply WB.tt | with_reducible apply WB.ff | refine Rn.seq ?_ | refine Rn.reg ?_ | refine Rn.drw ?_ | refine Rn.blk ?_ | refine Rn.skip ?_ | refine Rn.ret ?_ | refine Rn.exit ?_ | refine Rn.cond rfl ?_ | refine And.intro (InR.i64 (by omega) (by omega)) ?_ | refine And.intro (show _ ≠ (0 : Int) by omega) ?_ | refine WIx.intsN (by omega) ?_ | refine WIx.rowsN (by omega) ?_) <;> conv => whnf)
      rw [hrow]
      refine WCall.of begin_ns ?_; conv => whnf
      repeat' first | ((first | with_reducible apply WB.tt | with_reducible apply WB.ff | refine Rn.seq ?_ | refine Rn.reg ?_ | refine Rn.drw ?_ | refine Rn.blk ?_ | refine Rn.skip ?_ | refine Rn.ret ?_ | refine Rn.exit ?_ | refine Rn.cond rfl ?_ | refine And.intro (InR.i64 (by omega) (by omega)) ?_ | refine And.intro (show _ ≠ (0 : Int) by omega) ?_ | refine WIx.intsN (by omega) ?_ | refine WIx.rowsN (by omega) ?_) <;> conv => whnf)
      refine WCall.of (CallOk.mapAt Hh trivial (id := .o .h) rfl (show 2 < 3 from by decide) (mp_at trivial)) ?_; conv => whnf
      generalize hasB (B5 n coin box (ls.take (j + 1)) []) = bb at *
      repeat' first | ((first | with_reducible apply WB.tt | with_reducible apply WB.ff | refine Rn.seq ?_ | refine Rn.reg ?_ | refine Rn.drw ?_ | refine Rn.blk ?_ | refine Rn.skip ?_ | refine Rn.ret ?_ | refine Rn.exit ?_ | refine Rn.cond rfl ?_ | refine And.intro (InR.i64 (by omega) (by omega)) ?_ | refine And.intro (show _ ≠ (0 : Int) by omega) ?_ | refine WIx.intsN (by omega) ?_ | refine WIx.rowsN (by omega) ?_) <;> conv => whnf)
      cases bb with
      | false =>
        refine WB.tt ?_; conv => whnf
        repeat' first | ((first | with_reducible apply WB.tt | with_reducible apply WB.ff | refine Rn.seq ?_ | refine Rn.reg ?_ | refine Rn.drw ?_ | refine Rn.blk ?_ | refine Rn.skip ?_ | refine Rn.ret ?_ | refine Rn.exit ?_ | refine Rn.cond rfl ?_ | refine And.intro (InR.i64 (by omega) (by omega)) ?_ | refine And.intro (show _ ≠ (0 : Int) by omega) ?_ | refine WIx.intsN (by omega) ?_ | refine WIx.rowsN (by omega) ?_) <;> conv => whnf)
        refine ⟨.inr rfl, _, rfl, ?_⟩
        have : fstN n coin box ls = some j := List.find?_range_eq_some.2 ⟨hw, List.mem_range.2 hlt, fun i hi => by rw [ha i hi]; rfl⟩
        rw [this]
        exact .tp (.cons (.pu trivial) (.cons (.pu trivial) .nil))
      | true =>
        refine WB.ff ?_; conv => whnf
        repeat' first | ((first | with_reducible apply WB.tt | with_reducible apply WB.ff | refine Rn.seq ?_ | refine Rn.reg ?_ | refine Rn.drw ?_ | refine Rn.blk ?_ | refine Rn.skip ?_ | refine Rn.ret ?_ | refine Rn.exit ?_ | refine Rn.cond rfl ?_ | refine And.intro (InR.i64 (by omega) (by omega)) ?_ | refine And.intro (show _ ≠ (0 : Int) by omega) ?_ | refine WIx.intsN (by omega) ?_ | refine WIx.rowsN (by omega) ?_) <;> conv => whnf)
        refine Again.to (j + 1) (by omega) ⟨by omega, fun i hi => ?_⟩ (Nat.le_of_ble_eq_true rfl) ?_
        · by_cases e : i = j
          · subst e; exact hw
          · exact ha i (by omega)
        refine Shr.of ?_ ?_ rfl rfl
        · (repeat' first | exact Rel.e | refine Rel.some ?_ ?_ ?_ | refine Rel.none ?_ ?_ | refine Rel.ee ?_ ?_)
          all_goals show Fz _ _ _ _
          all_goals first | exact .kpt (show _ < 2 by simp [Pos.nat]) | exact .pu trivial | exact .pu (pu_ln _)
        · show Rel _ _ ((.n .e (some (.cells false [.o (.i .i64 n) 0, .o (.i .i64 coin) 0, .o (.i .i64 box) 0, .o (.lst 3 ((rows lnD ls).take (j + 1))) 0, .o .ns 0] 1)) .e) : T C) _
          rw [hrow]
          (repeat' first | exact Rel.e | refine Rel.some ?_ ?_ ?_ | refine Rel.none ?_ ?_ | refine Rel.ee ?_ ?_)
          exact RO'.of (show _ < 2 by simp [Pos.nat]) (ShC.same (ShC.cn (.pu trivial) (ShC.cn (.pu trivial) (ShC.cn (.pu trivial) (ShC.cn (.pu (pu_ln _)) (ShC.cn (.pu trivial) ShC.nl))))))
    · have hje : j = ls.length := by omega
      have : fstN n coin box ls = none := List.find?_range_eq_none.2 fun i hi => by rw [ha i (by omega)]; rfl
      rw [this]
      repeat' first | ((first | with_reducible apply WB.tt | with_reducible apply WB.ff | refine Rn.seq ?_ | refine Rn.reg ?_ | refine Rn.drw ?_ | refine Rn.blk ?_ | refine Rn.skip ?_ | refine Rn.ret ?_ | refine Rn.exit ?_ | refine Rn.cond rfl ?_ | refine And.intro (InR.i64 (by omega) (by omega)) ?_ | refine And.intro (show _ ≠ (0 : Int) by omega) ?_ | refine WIx.intsN (by omega) ?_ | refine WIx.rowsN (by omega) ?_) <;> conv => whnf)
      refine ⟨.inr rfl, _, rfl, ?_⟩
      exact .tp (.cons (.pu trivial) (.cons (.pu trivial) .nil))
  · have hR : fstT n coin box ls cs = (0, faultT n coin box ls cs) := by unfold fstT; rw [if_neg hf]
    rw [hR]
    generalize faultT n coin box ls cs = f at *
    repeat' first | ((first | with_reducible apply WB.tt | with_reducible apply WB.ff | refine Rn.seq ?_ | refine Rn.reg ?_ | refine Rn.drw ?_ | refine Rn.blk ?_ | refine Rn.skip ?_ | refine Rn.ret ?_ | refine Rn.exit ?_ | refine Rn.cond rfl ?_ | refine And.intro (InR.i64 (by omega) (by omega)) ?_ | refine And.intro (show _ ≠ (0 : Int) by omega) ?_ | refine WIx.intsN (by omega) ?_ | refine WIx.rowsN (by omega) ?_ | refine WCall.pure (iC) ?_ | with_reducible refine WB.decT (by first | with_reducible rfl | assumption | omega | exact ⟨rfl, rfl⟩) ?_ | with_reducible refine WB.decF (by first | assumption | omega) ?_ | with_reducible refine WB.ndT (by first | with_reducible rfl | assumption | omega | exact ⟨rfl, rfl⟩) ?_ | with_reducible refine WB.ndF (by first | assumption | omega) ?_ | with_reducible refine WB.nt ?_ | with_reducible refine WB.nf ?_ | with_reducible refine WB.dec (fun h => ?_) (fun h => ?_) | with_reducible refine WB.ndec (fun h => ?_) (fun h => ?_) | refine WB.mk (fun h => ?_) (fun h => ?_)) <;> conv => whnf)
    all_goals first
      | (exfalso; omega)
      | exact ⟨.inr rfl, _, rfl, .tp (.cons (.pu trivial) (.cons (.pu trivial) .nil))⟩
end Go.Ev

namespace Go.Ev
open Go.Proofs
set_option maxRecDepth 100000
theorem WSt.shrN {sl : T D} {ob : T C} {nx : Pos} {lg : Option (T Bool)} {K : X → Prop} {d : Pos} {a j : Nat} {x y : RX} (hx : opd sl x = some (.i .i64 (a : Int))) (hy : opd sl y = some (.i .u64 (j : Int))) (ha : a ≤ 1000) (hj : j ≤ 63) (k : wOut sl ob nx lg d K (.i .i64 ((a / 2 ^ j : Nat) : Int))) : WSt (.bin d .shr x y) ⟨sl, ob, nx, lg⟩ K := by
  obtain ⟨k2, k3⟩ := wOut_ok k
  refine ⟨_, ?_, k3⟩
  show s_bin d .shr x y sl ob nx lg = _
  unfold s_bin
  rw [hx, hy]
  have hm : minN j 64 = j := by
    unfold minN
    rw [Nat.ble_eq_true_of_le (show j ≤ 64 by omega)]
    rfl
  have hs : ishr ((a : Nat) : Int) j = ((a / 2 ^ j : Nat) : Int) := rfl
  have hb : Nat.ble (a / 2 ^ j) 9223372036854775807 = true := Nat.ble_eq_true_of_le (Nat.le_trans (Nat.div_le_self _ _) (by omega))
  show intK .i64 (ishr ((a : Nat) : Int) (minN j 64)) _ = _
  rw [hm, hs]
  rw [intK_eq]
  exact k2
noncomputable def outQ (n coin box : Int) (d : D) : C := .cells false [.o (.i .i64 n) 0, .o (.i .i64 coin) 0, .o (.i .i64 box) 0, .o d 0, .o .ns 0] 1
theorem outQ_sh {n coin box : Int} {d : D} {B : Pos → Prop} {ob : T C} (h : Fz B ob d d) : ShC B ob (outQ n coin box d) (outQ n coin box d) := ShC.same (ShC.cn (.pu trivial) (ShC.cn (.pu trivial) (ShC.cn (.pu trivial) (ShC.cn h (ShC.cn (.pu trivial) ShC.nl)))))
def slP : List Ln → D
  | [] => .ns
  | _ :: s => .sl (.i (.o .h)) 0 (s.length + 1) s.length 3
def blP : List Ln → Option C
  | [] => none
  | a :: s => some (.cells false ((lnF (a :: s)).map fun d => Cell.o d s.length) (s.length + 1))
def nxP : List Ln → Pos
  | [] => .o (.o .h)
  | _ :: _ => .o (.i .h)
theorem slP_snoc (a : Ln) (s : List Ln) (x : Ln) : slP (a :: (s ++ [x])) = .sl (.i (.o .h)) 0 (s.length + 1 + 1) (s.length + 1) 3 := by simp [slP]
theorem blP_snoc (a : Ln) (s : List Ln) (x : Ln) : blP (a :: (s ++ [x])) = some (.cells false ((lnF (a :: s) ++ lnD x).map fun d => Cell.o d (s.length + 1)) (s.length + 1 + 1)) := by
  have h := lnF_snoc (a :: s) x
  have h2 : lnF (a :: (s ++ [x])) = lnF (a :: s) ++ lnD x := h
  simp [blP, h2]
noncomputable def pkS (n coin box : Int) (ls : List Ln) (b : Nat) (A : List Ln) (j : Nat) : X := ⟨(.n (.n .e (some (.i .i64 ((2 ^ b - 1 : Nat) : Int))) (.n .e (some (.pt (.i .h) 0 0)) .e)) none (.n (.n .e (some (.pt (.o .h) 0 0)) .e) (some (.pt .h 0 0)) (.n .e (some (.i .i64 (j : Int))) .e))), .n (.n .e (some bz5) .e) (some (bkC n coin box ls [])) (.n (.n .e (blP A) .e) (some (outQ n coin box (slP A))) .e), nxP A, none⟩
theorem bit_tab : ∀ b : _root_.Fin 9, ∀ j : _root_.Fin 8, (2 ^ b.1 - 1) / 2 ^ j.1 % 2 = if j.1 < b.1 then 1 else 0 := by decide
theorem bit_low {b j : Nat} (hbn : b ≤ 8) (hj : j < 8) : (2 ^ b - 1) / 2 ^ j % 2 = if j < b then 1 else 0 := bit_tab ⟨b, by omega⟩ ⟨j, hj⟩
theorem low_tab : ∀ b : _root_.Fin 9, 2 ^ b.1 - 1 ≤ 255 := by decide
theorem low_le {b : Nat} (hbn : b ≤ 8) : 2 ^ b - 1 ≤ 255 := low_tab ⟨b, by omega⟩
set_option maxHeartbeats 2000000 in
theorem j_pick (n coin box : Int) (ls : List Ln) (b : Nat) (hbn : b ≤ 8) (hm : ls.length ≤ 8) : PureF Try.prog p65.ix [.ag [.i .i64 n, .i .i64 coin, .i .i64 box, .lst 3 (rows lnD ls), .lst 3 (rows ctD [])], .i .i64 ((2 ^ b - 1 : Nat) : Int)] (.ag [.i .i64 n, .i .i64 coin, .i .i64 box, .lst 3 (rows lnD (ls.take b)), .lst 3 (rows ctD [])]) := by
  have e3 := rows_length lnD ls
  have ez : ((rows ctD ([] : List Ct)).length : Int) = 0 := rfl
  have hb := low_le hbn
  refine PureF.run fn64 (by simp) (by simp [PuL, PuE, Pu, pu_ln, pu_ct]) ?_; conv => whnf
  repeat' first | ((first | with_reducible apply WB.tt | with_reducible apply WB.ff | refine Rn.seq ?_ | refine Rn.reg ?_ | refine Rn.drw ?_ | refine Rn.blk ?_ | refine Rn.skip ?_ | refine Rn.ret ?_ | refine Rn.exit ?_ | refine Rn.cond rfl ?_ | refine And.intro (InR.i64 (by omega) (by omega)) ?_ | refine And.intro (show _ ≠ (0 : Int) by omega) ?_ | refine WIx.intsN (by omega) ?_ | refine WIx.rowsN (by omega) ?_) <;> conv => whnf)
  refine Rn.loop (fun j : Nat => pkS n coin box ls b ((ls.take b).take j) j) (fun j => j ≤ ls.length) (fun j => ls.length - j) 0 ?_ ?_ ?_
  · refine X.le.mk ?_ ?_ (Nat.le_refl _) rfl rfl
    · show T.le ((.n (.n .e (some (.i .i64 ((2 ^ b - 1 : Nat) : Int))) (.n .e (some (.pt (.i .h) 0 0)) .e)) none (.n (.n .e (some (.pt (.o .h) 0 0)) .e) (some (.pt .h 0 0)) (.n .e (some (.i .i64 0)) .e))) : T D) _
      (repeat' first | exact T.le_e _ | refine T.le_some ?_ rfl ?_ | refine T.le_none ?_ ?_)
    · show T.le (.n (.n .e (some bz5) .e) (some (bkC n coin box ls [])) (.n (.n .e none .e) (some (outQ n coin box .ns)) .e)) _
      (repeat' first | exact T.le_e _ | refine T.le_some ?_ rfl ?_ | refine T.le_none ?_ ?_ | refine T.le_ee ?_ ?_)
  · exact Nat.zero_le _
  intro j hj
  have hj : j ≤ ls.length := hj
  have hAl : ((ls.take b).take j).length ≤ 8 := by rw [List.length_take, List.length_take]; omega
  have hy : j < ls.length → j < b → (ls.take b).take (j + 1) = (ls.take b).take j ++ [ls.getD j default] := fun h1 h2 => by
    rw [take_succ_getD (d := default) (by rw [List.length_take]; omega)]
    congr 1
    simp [List.getD, h1, h2]
  have hno : j < ls.length → ¬ j < b → (ls.take b).take (j + 1) = (ls.take b).take j := fun h1 h2 => by
    rw [List.take_take, List.take_take, Nat.min_eq_right (by omega), Nat.min_eq_right (by omega)]
  have hend : j = ls.length → (ls.take b).take j = ls.take b := fun e => List.take_of_length_le (by rw [List.length_take]; omega)
  generalize hA : (ls.take b).take j = A at *
  conv => whnf
  repeat' first | ((first | with_reducible apply WB.tt | with_reducible apply WB.ff | refine Rn.seq ?_ | refine Rn.reg ?_ | refine Rn.drw ?_ | refine Rn.blk ?_ | refine Rn.skip ?_ | refine Rn.ret ?_ | refine Rn.exit ?_ | refine Rn.cond rfl ?_ | refine And.intro (InR.i64 (by omega) (by omega)) ?_ | refine And.intro (show _ ≠ (0 : Int) by omega) ?_ | refine WIx.intsN (by omega) ?_ | refine WIx.rowsN (by omega) ?_) <;> conv => whnf)
  refine WB.dec (fun h => ?_) (fun h => ?_) <;> conv => whnf
  · have hlt : j < ls.length := by omega
    have hbit := bit_low (b := b) (j := j) hbn (by omega)
    have hq : (2 ^ b - 1) / 2 ^ j ≤ 255 := Nat.le_trans (Nat.div_le_self _ _) hb
    have hy := hy hlt
    have hno := hno hlt
    repeat' first | ((first | with_reducible apply WB.tt | with_reducible apply WB.ff | refine Rn.seq ?_ | refine Rn.reg ?_ | refine Rn.drw ?_ | refine Rn.blk ?_ | refine Rn.skip ?_ | refine Rn.ret ?_ | refine Rn.exit ?_ | refine Rn.cond rfl ?_ | refine And.intro (InR.i64 (by omega) (by omega)) ?_ | refine And.intro (show _ ≠ (0 : Int) by omega) ?_ | refine WIx.intsN (by omega) ?_ | refine WIx.rowsN (by omega) ?_) <;> conv => whnf)
    refine And.intro (InR.u64 (by omega) (by omega)) ?_; conv => whnf
    repeat' first | ((first | with_reducible apply WB.tt | with_reducible apply WB.ff | refine Rn.seq ?_ | refine Rn.reg ?_ | refine Rn.drw ?_ | refine Rn.blk ?_ | refine Rn.skip ?_ | refine Rn.ret ?_ | refine Rn.exit ?_ | refine Rn.cond rfl ?_ | refine And.intro (InR.i64 (by omega) (by omega)) ?_ | refine And.intro (show _ ≠ (0 : Int) by omega) ?_ | refine WIx.intsN (by omega) ?_ | refine WIx.rowsN (by omega) ?_) <;> conv => whnf)
    refine WSt.shrN (by rfl) (by rfl) (by omega) (by omega) ?_; conv => whnf
    generalize (2 ^ b - 1) / 2 ^ j = q at *
    have hrem : (q : Int).tmod 2 = if j < b then 1 else 0 := by
      rw [Int.tmod_eq_emod_of_nonneg (by omega)]
      have : ((q % 2 : Nat) : Int) = if j < b then 1 else 0 := by rw [hbit]; split <;> rfl
      omega
    repeat' first | ((first | with_reducible apply WB.tt | with_reducible apply WB.ff | refine Rn.seq ?_ | refine Rn.reg ?_ | refine Rn.drw ?_ | refine Rn.blk ?_ | refine Rn.skip ?_ | refine Rn.ret ?_ | refine Rn.exit ?_ | refine Rn.cond rfl ?_ | refine And.intro (InR.i64 (by omega) (by omega)) ?_ | refine And.intro (show _ ≠ (0 : Int) by omega) ?_ | refine WIx.intsN (by omega) ?_ | refine WIx.rowsN (by omega) ?_) <;> conv => whnf)
    rw [hrem]
    by_cases hjn : j < b
    · rw [if_pos hjn]
      have hy := hy hjn
      refine WB.tt ?_; conv => whnf
      cases A with
      | nil =>
        repeat' first | ((first | with_reducible apply WB.tt | with_reducible apply WB.ff | refine Rn.seq ?_ | refine Rn.reg ?_ | refine Rn.drw ?_ | refine Rn.blk ?_ | refine Rn.skip ?_ | refine Rn.ret ?_ | refine Rn.exit ?_ | refine Rn.cond rfl ?_ | refine And.intro (InR.i64 (by omega) (by omega)) ?_ | refine And.intro (show _ ≠ (0 : Int) by omega) ?_ | refine WIx.intsN (by omega) ?_ | refine WIx.rowsN (by omega) ?_) <;> conv => whnf)
        refine WSt.app_firstL (r := lnD (ls.getD j default)) rfl (.inl rfl) rfl rfl rfl rfl ?_; conv => whnf
        repeat' first | ((first | with_reducible apply WB.tt | with_reducible apply WB.ff | refine Rn.seq ?_ | refine Rn.reg ?_ | refine Rn.drw ?_ | refine Rn.blk ?_ | refine Rn.skip ?_ | refine Rn.ret ?_ | refine Rn.exit ?_ | refine Rn.cond rfl ?_ | refine And.intro (InR.i64 (by omega) (by omega)) ?_ | refine And.intro (show _ ≠ (0 : Int) by omega) ?_ | refine WIx.intsN (by omega) ?_ | refine WIx.rowsN (by omega) ?_) <;> conv => whnf)
        refine Again.to (j + 1) (by omega) (by omega) (by show (nxP ((ls.take b).take j)).nat ≤ (nxP ((ls.take b).take (j + 1))).nat; rw [hA, hy]; exact (show 4 ≤ 6 by omega)) ?_
        show Shr _ (pkS n coin box ls b ((ls.take b).take (j + 1)) (j + 1))
        rw [hy]
        refine Shr.of ?_ ?_ rfl rfl
        · show Rel _ _ ((.n (.n .e (some (.i .i64 ((2 ^ b - 1 : Nat) : Int))) (.n .e (some (.pt (.i .h) 0 0)) .e)) none (.n (.n .e (some (.pt (.o .h) 0 0)) .e) (some (.pt .h 0 0)) (.n .e (some (.i .i64 ((j + 1 : Nat) : Int))) .e))) : T D) _
          (repeat' first | exact Rel.e | refine Rel.some ?_ ?_ ?_ | refine Rel.none ?_ ?_ | refine Rel.ee ?_ ?_)
          all_goals show Fz _ _ _ _
          all_goals first | exact .pu trivial | exact .kpt (show _ < 6 by simp [Pos.nat])
        · show Rel _ _ (.n (.n .e (some bz5) .e) (some (bkC n coin box ls [])) (.n (.n .e (some (.cells false ((lnF [ls.getD j default]).map fun d => Cell.o d 0) 1)) .e) (some (outQ n coin box (.sl (.i (.o .h)) 0 1 0 3))) .e)) _
          rw [show lnF [ls.getD j default] = lnD (ls.getD j default) by simp [lnF, rows]]
          (repeat' first | exact Rel.e | refine Rel.some ?_ ?_ ?_ | refine Rel.none ?_ ?_ | refine Rel.ee ?_ ?_)
          all_goals first
            | exact RO'.of (show _ < 6 by simp [Pos.nat]) bz5_sh
            | exact RO'.of (show _ < 6 by simp [Pos.nat]) ((ShC.kp (bkC_kp _ _ _ _ _ _)))
            | exact RO'.of (show _ < 6 by simp [Pos.nat]) (outQ_sh (.pu trivial))
            | exact RO'.of (show _ < 6 by simp [Pos.nat]) (outQ_sh (.ksl (show _ < 6 by simp [Pos.nat])))
            | exact RO'.of (show _ < 6 by simp [Pos.nat]) (ShC.same (ShC.cn (.pu trivial) (ShC.cn (.pu trivial) (ShC.cn (.pu trivial) ShC.nl))))
      | cons a s =>
        have hs5 : s.length + 1 ≤ 8 := hAl
        repeat' first | ((first | with_reducible apply WB.tt | with_reducible apply WB.ff | refine Rn.seq ?_ | refine Rn.reg ?_ | refine Rn.drw ?_ | refine Rn.blk ?_ | refine Rn.skip ?_ | refine Rn.ret ?_ | refine Rn.exit ?_ | refine Rn.cond rfl ?_ | refine And.intro (InR.i64 (by omega) (by omega)) ?_ | refine And.intro (show _ ≠ (0 : Int) by omega) ?_ | refine WIx.intsN (by omega) ?_ | refine WIx.rowsN (by omega) ?_) <;> conv => whnf)
        refine WSt.app_oneL (ds := lnF (a :: s)) (r := lnD (ls.getD j default)) rfl rfl rfl rfl rfl rfl (by rw [lnF_len]; rfl) rfl rfl (by omega) rfl ?_; conv => whnf
        repeat' first | ((first | with_reducible apply WB.tt | with_reducible apply WB.ff | refine Rn.seq ?_ | refine Rn.reg ?_ | refine Rn.drw ?_ | refine Rn.blk ?_ | refine Rn.skip ?_ | refine Rn.ret ?_ | refine Rn.exit ?_ | refine Rn.cond rfl ?_ | refine And.intro (InR.i64 (by omega) (by omega)) ?_ | refine And.intro (show _ ≠ (0 : Int) by omega) ?_ | refine WIx.intsN (by omega) ?_ | refine WIx.rowsN (by omega) ?_) <;> conv => whnf)
        refine Again.to (j + 1) (by omega) (by omega) (by show (nxP ((ls.take b).take j)).nat ≤ (nxP ((ls.take b).take (j + 1))).nat; rw [hA, hy]; exact (show 6 ≤ 6 by omega)) ?_
        show Shr _ (pkS n coin box ls b ((ls.take b).take (j + 1)) (j + 1))
        rw [hy, List.cons_append]
        refine Shr.of ?_ ?_ rfl rfl
        · show Rel _ _ ((.n (.n .e (some (.i .i64 ((2 ^ b - 1 : Nat) : Int))) (.n .e (some (.pt (.i .h) 0 0)) .e)) none (.n (.n .e (some (.pt (.o .h) 0 0)) .e) (some (.pt .h 0 0)) (.n .e (some (.i .i64 ((j + 1 : Nat) : Int))) .e))) : T D) _
          (repeat' first | exact Rel.e | refine Rel.some ?_ ?_ ?_ | refine Rel.none ?_ ?_ | refine Rel.ee ?_ ?_)
          all_goals show Fz _ _ _ _
          all_goals first | exact .pu trivial | exact .kpt (show _ < 6 by simp [Pos.nat])
        · show Rel _ _ (.n (.n .e (some bz5) .e) (some (bkC n coin box ls [])) (.n (.n .e (blP (a :: (s ++ [ls.getD j default]))) .e) (some (outQ n coin box (slP (a :: (s ++ [ls.getD j default]))))) .e)) _
          rw [slP_snoc, blP_snoc]
          (repeat' first | exact Rel.e | refine Rel.some ?_ ?_ ?_ | refine Rel.none ?_ ?_ | refine Rel.ee ?_ ?_)
          all_goals first
            | exact RO'.of (show _ < 6 by simp [Pos.nat]) bz5_sh
            | exact RO'.of (show _ < 6 by simp [Pos.nat]) ((ShC.kp (bkC_kp _ _ _ _ _ _)))
            | exact RO'.of (show _ < 6 by simp [Pos.nat]) (outQ_sh (.pu trivial))
            | exact RO'.of (show _ < 6 by simp [Pos.nat]) (outQ_sh (.ksl (show _ < 6 by simp [Pos.nat])))
            | (refine RO'.of (show _ < 6 by simp [Pos.nat]) ?_
               exact ShC.grown (by omega) (PuL_iff.2 fun d hd => by
                 rcases List.mem_append.1 hd with hd | hd
                 · exact PuL_iff.1 (lnF_pu _) d hd
                 · exact PuL_iff.1 (show PuL (lnD _) by simp [lnD, PuL, Pu]) d hd))
    · rw [if_neg hjn]
      have hno := hno hjn
      refine WB.ff ?_; conv => whnf
      cases A with
      | nil =>
        repeat' first | ((first | with_reducible apply WB.tt | with_reducible apply WB.ff | refine Rn.seq ?_ | refine Rn.reg ?_ | refine Rn.drw ?_ | refine Rn.blk ?_ | refine Rn.skip ?_ | refine Rn.ret ?_ | refine Rn.exit ?_ | refine Rn.cond rfl ?_ | refine And.intro (InR.i64 (by omega) (by omega)) ?_ | refine And.intro (show _ ≠ (0 : Int) by omega) ?_ | refine WIx.intsN (by omega) ?_ | refine WIx.rowsN (by omega) ?_) <;> conv => whnf)
        refine Again.to (j + 1) (by omega) (by omega) (by show (nxP ((ls.take b).take j)).nat ≤ (nxP ((ls.take b).take (j + 1))).nat; rw [hA, hno]; exact (show 4 ≤ 4 by omega)) ?_
        show Shr _ (pkS n coin box ls b ((ls.take b).take (j + 1)) (j + 1))
        rw [hno]
        refine Shr.of ?_ ?_ rfl rfl
        · show Rel _ _ ((.n (.n .e (some (.i .i64 ((2 ^ b - 1 : Nat) : Int))) (.n .e (some (.pt (.i .h) 0 0)) .e)) none (.n (.n .e (some (.pt (.o .h) 0 0)) .e) (some (.pt .h 0 0)) (.n .e (some (.i .i64 ((j + 1 : Nat) : Int))) .e))) : T D) _
          (repeat' first | exact Rel.e | refine Rel.some ?_ ?_ ?_ | refine Rel.none ?_ ?_ | refine Rel.ee ?_ ?_)
          all_goals show Fz _ _ _ _
          all_goals first | exact .pu trivial | exact .kpt (show _ < 4 by simp [Pos.nat])
        · show Rel _ _ (.n (.n .e (some bz5) .e) (some (bkC n coin box ls [])) (.n (.n .e none .e) (some (outQ n coin box .ns)) .e)) _
          skip
          (repeat' first | exact Rel.e | refine Rel.some ?_ ?_ ?_ | refine Rel.none ?_ ?_ | refine Rel.ee ?_ ?_)
          all_goals first
            | exact RO'.of (show _ < 4 by simp [Pos.nat]) bz5_sh
            | exact RO'.of (show _ < 4 by simp [Pos.nat]) ((ShC.kp (bkC_kp _ _ _ _ _ _)))
            | exact RO'.of (show _ < 4 by simp [Pos.nat]) (outQ_sh (.pu trivial))
            | exact RO'.of (show _ < 4 by simp [Pos.nat]) (outQ_sh (.ksl (show _ < 4 by simp [Pos.nat])))
      | cons a s =>
        repeat' first | ((first | with_reducible apply WB.tt | with_reducible apply WB.ff | refine Rn.seq ?_ | refine Rn.reg ?_ | refine Rn.drw ?_ | refine Rn.blk ?_ | refine Rn.skip ?_ | refine Rn.ret ?_ | refine Rn.exit ?_ | refine Rn.cond rfl ?_ | refine And.intro (InR.i64 (by omega) (by omega)) ?_ | refine And.intro (show _ ≠ (0 : Int) by omega) ?_ | refine WIx.intsN (by omega) ?_ | refine WIx.rowsN (by omega) ?_) <;> conv => whnf)
        refine Again.to (j + 1) (by omega) (by omega) (by show (nxP ((ls.take b).take j)).nat ≤ (nxP ((ls.take b).take (j + 1))).nat; rw [hA, hno]; exact (show 6 ≤ 6 by omega)) ?_
        show Shr _ (pkS n coin box ls b ((ls.take b).take (j + 1)) (j + 1))
        rw [hno]
        refine Shr.of ?_ ?_ rfl rfl
        · show Rel _ _ ((.n (.n .e (some (.i .i64 ((2 ^ b - 1 : Nat) : Int))) (.n .e (some (.pt (.i .h) 0 0)) .e)) none (.n (.n .e (some (.pt (.o .h) 0 0)) .e) (some (.pt .h 0 0)) (.n .e (some (.i .i64 ((j + 1 : Nat) : Int))) .e))) : T D) _
          (repeat' first | exact Rel.e | refine Rel.some ?_ ?_ ?_ | refine Rel.none ?_ ?_ | refine Rel.ee ?_ ?_)
          all_goals show Fz _ _ _ _
          all_goals first | exact .pu trivial | exact .kpt (show _ < 6 by simp [Pos.nat])
        · show Rel _ _ (.n (.n .e (some bz5) .e) (some (bkC n coin box ls [])) (.n (.n .e (some (.cells false ((lnF (a :: s)).map fun d => Cell.o d s.length) (s.length + 1))) .e) (some (outQ n coin box (.sl (.i (.o .h)) 0 (s.length + 1) s.length 3))) .e)) _
          skip
          (repeat' first | exact Rel.e | refine Rel.some ?_ ?_ ?_ | refine Rel.none ?_ ?_ | refine Rel.ee ?_ ?_)
          all_goals first
            | exact RO'.of (show _ < 6 by simp [Pos.nat]) bz5_sh
            | exact RO'.of (show _ < 6 by simp [Pos.nat]) ((ShC.kp (bkC_kp _ _ _ _ _ _)))
            | exact RO'.of (show _ < 6 by simp [Pos.nat]) (outQ_sh (.pu trivial))
            | exact RO'.of (show _ < 6 by simp [Pos.nat]) (outQ_sh (.ksl (show _ < 6 by simp [Pos.nat])))
            | exact RO'.of (show _ < 6 by simp [Pos.nat]) (ShC.same fun c hc => by
                obtain ⟨d, hd, rfl⟩ := List.mem_map.1 hc
                exact .pu (PuL_iff.1 (lnF_pu _) d hd))
  · repeat' first | ((first | with_reducible apply WB.tt | with_reducible apply WB.ff | refine Rn.seq ?_ | refine Rn.reg ?_ | refine Rn.drw ?_ | refine Rn.blk ?_ | refine Rn.skip ?_ | refine Rn.ret ?_ | refine Rn.exit ?_ | refine Rn.cond rfl ?_ | refine And.intro (InR.i64 (by omega) (by omega)) ?_ | refine And.intro (show _ ≠ (0 : Int) by omega) ?_ | refine WIx.intsN (by omega) ?_ | refine WIx.rowsN (by omega) ?_) <;> conv => whnf)
    have he := hend (by omega)
    cases A with
    | nil =>
      repeat' first | ((first | with_reducible apply WB.tt | with_reducible apply WB.ff | refine Rn.seq ?_ | refine Rn.reg ?_ | refine Rn.drw ?_ | refine Rn.blk ?_ | refine Rn.skip ?_ | refine Rn.ret ?_ | refine Rn.exit ?_ | refine Rn.cond rfl ?_ | refine And.intro (InR.i64 (by omega) (by omega)) ?_ | refine And.intro (show _ ≠ (0 : Int) by omega) ?_ | refine WIx.intsN (by omega) ?_ | refine WIx.rowsN (by omega) ?_) <;> conv => whnf)
      refine Rn.rounds (RnR.more ?_); conv => whnf
      repeat' first | ((first | with_reducible apply WB.tt | with_reducible apply WB.ff | refine Rn.seq ?_ | refine Rn.reg ?_ | refine Rn.drw ?_ | refine Rn.blk ?_ | refine Rn.skip ?_ | refine Rn.ret ?_ | refine Rn.exit ?_ | refine Rn.cond rfl ?_ | refine And.intro (InR.i64 (by omega) (by omega)) ?_ | refine And.intro (show _ ≠ (0 : Int) by omega) ?_ | refine WIx.intsN (by omega) ?_ | refine WIx.rowsN (by omega) ?_ | with_reducible refine WB.decT (by first | with_reducible rfl | assumption | omega | exact ⟨rfl, rfl⟩) ?_ | with_reducible refine WB.decF (by first | assumption | omega) ?_ | with_reducible refine WB.ndT (by first | with_reducible rfl | assumption | omega | exact ⟨rfl, rfl⟩) ?_ | with_reducible refine WB.ndF (by first | assumption | omega) ?_ | with_reducible refine WB.nt ?_ | with_reducible refine WB.nf ?_ | with_reducible refine WB.dec (fun h => ?_) (fun h => ?_) | with_reducible refine WB.ndec (fun h => ?_) (fun h => ?_) | refine WB.mk (fun h => ?_) (fun h => ?_)) <;> conv => whnf)
      refine ⟨.inr rfl, _, rfl, ?_⟩
      rw [← he]
      exact .ag (.cons (.pu trivial) (.cons (.pu trivial) (.cons (.pu trivial) (.cons .ns (.cons .ns .nil)))))
    | cons a s =>
      repeat' first | ((first | with_reducible apply WB.tt | with_reducible apply WB.ff | refine Rn.seq ?_ | refine Rn.reg ?_ | refine Rn.drw ?_ | refine Rn.blk ?_ | refine Rn.skip ?_ | refine Rn.ret ?_ | refine Rn.exit ?_ | refine Rn.cond rfl ?_ | refine And.intro (InR.i64 (by omega) (by omega)) ?_ | refine And.intro (show _ ≠ (0 : Int) by omega) ?_ | refine WIx.intsN (by omega) ?_ | refine WIx.rowsN (by omega) ?_) <;> conv => whnf)
      refine Rn.rounds (RnR.more ?_); conv => whnf
      repeat' first | ((first | with_reducible apply WB.tt | with_reducible apply WB.ff | refine Rn.seq ?_ | refine Rn.reg ?_ | refine Rn.drw ?_ | refine Rn.blk ?_ | refine Rn.skip ?_ | refine Rn.ret ?_ | refine Rn.exit ?_ | refine Rn.cond rfl ?_ | refine And.intro (InR.i64 (by omega) (by omega)) ?_ | refine And.intro (show _ ≠ (0 : Int) by omega) ?_ | refine WIx.intsN (by omega) ?_ | refine WIx.rowsN (by omega) ?_ | with_reducible refine WB.decT (by first | with_reducible rfl | assumption | omega | exact ⟨rfl, rfl⟩) ?_ | with_reducible refine WB.decF (by first | assumption | omega) ?_ | with_reducible refine WB.ndT (by first | with_reducible rfl | assumption | omega | exact ⟨rfl, rfl⟩) ?_ | with_reducible refine WB.ndF (by first | assumption | omega) ?_ | with_reducible refine WB.nt ?_ | with_reducible refine WB.nf ?_ | with_reducible refine WB.dec (fun h => ?_) (fun h => ?_) | with_reducible refine WB.ndec (fun h => ?_) (fun h => ?_) | refine WB.mk (fun h => ?_) (fun h => ?_)) <;> conv => whnf)
      refine ⟨.inr rfl, _, rfl, ?_⟩
      rw [← he]
      refine .ag (.cons (.pu trivial) (.cons (.pu trivial) (.cons (.pu trivial) (.cons ?_ (.cons .ns .nil)))))
      exact Frz.whole (cs := (lnF (a :: s)).map fun d => Cell.o d s.length) (cur := s.length + 1) rfl (by simp [rows]) (ln_three _) (by rfl) (pu_ln _)
end Go.Ev
