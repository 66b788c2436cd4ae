import Derived.Test.YtjgbfnciedkafaaEvUGc
set_option linter.all false
namespace Go.Ev
open Go.Proofs
set_option maxRecDepth 100000
theorem ask_money (B : Bk) : AskOk B p77 [] [] Mo.box := ⟨trivial, trivial, fun Q i _ => j_money _⟩
theorem ask_mixed (B : Bk) : AskOk B p78 [] [] Mo.mix := ⟨trivial, trivial, fun Q i _ => j_mixed _⟩
theorem ex_ne {n coin box : Int} {ls : List Ln} {cs : List Ct} {t : Bool} (h : sE n coin box ls cs t = 0) : exT (B5 n coin box ls cs) ls.length [] ≠ [] := by
  unfold sE at h
  have hb : hasB (B5 n coin box ls cs) = true := by
    cases hh : hasB (B5 n coin box ls cs) with
    | true => rfl
    | false =>
      rw [hh] at h
      split at h
      · exact absurd h (by assumption)
      · cases t <;> cases h
  obtain ⟨X, hX⟩ := can_iff.1 hb
  intro he
  have := mem_exT.2 hX
  rw [show (B5 n coin box ls cs).ls.length = ls.length from rfl, he] at this
  cases this
theorem sE_fault {n coin box : Int} {ls : List Ln} {cs : List Ct} {t : Bool} (h : sE n coin box ls cs t = 0) : faultT n coin box ls cs = 0 ∧ t = true := by
  unfold sE at h
  by_cases hf : faultT n coin box ls cs ≠ 0
  · rw [if_pos hf] at h; exact absurd h hf
  · rw [if_neg hf] at h
    refine ⟨by omega, ?_⟩
    cases t with
    | true => rfl
    | false => cases h
theorem start_at {n coin box : Int} {ls : List Ln} {cs : List Ct} {M : Memo} (Hs : CallOk Try.prog p85.ix [.ag (wkQ (B5 n coin box ls cs)), .b true] .e .h none (.tp [.ag (wkQ (B5 n coin box ls cs) ++ [.mp .h]), .i .i64 0]) (mapP M) (.o .h) none) {ob : T C} {nx : Pos} {lg : Option (T Bool)} : CallOk Try.prog p85.ix [.ag (wkQ (B5 n coin box ls cs)), .b true] ob nx lg (.tp [.ag (wkQ (B5 n coin box ls cs) ++ [.mp nx]), .i .i64 0]) (T.set nx (.map (mapL M)) ob) nx.succ (lgW lg nx) :=
  CallOk.newG Hs rfl (mapL_pu M) (by simp [PuL, Pu, wkQ_pu]) (fun γ γ' w => .tp (.cons (.ag (.app (.pu psh1_im (wkQ_pu _)) rfl (.cons .mpO .nil))) (.cons (.pu psh1_im trivial) .nil)))
theorem lohi_pu (L : List Int) : Pu (lohi L) := by simp [lohi, Pu, PuL]
def monT (n coin box : Int) (ls : List Ln) (cs : List Ct) (after : Int) : D :=
  if sE n coin box ls cs (inR after 0 ls.length) = 0 then .tp [lohi (ansL (B5 n coin box ls cs) after.toNat Mo.box), .i .i64 0] else .tp [.ag [.i .i64 0, .i .i64 0], .i .i64 (sE n coin box ls cs (inR after 0 ls.length))]
theorem j_MoneyP (n coin box : Int) (ls : List Ln) (cs : List Ct) (after : Int) : PureF Try.prog p39.ix [.ag [.i .i64 n, .i .i64 coin, .i .i64 box, .lst 3 (rows lnD ls), .lst 3 (rows ctD cs)], .i .i64 after] (monT n coin box ls cs after) := by
  have e1 := rows_length lnD ls
  have cU : PureF Try.prog p86.ix [.i .i64 after, .i .i64 ((rows lnD ls).length : Int)] (.b (inR after 0 ls.length)) := by
    have := j_upTo after ((rows lnD ls).length : Int)
    rw [e1] at this ⊢
    exact this
  unfold monT
  by_cases hE : sE n coin box ls cs (inR after 0 ls.length) = 0
  · rw [if_pos hE]
    obtain ⟨hf, ht⟩ := sE_fault hE
    have hE' := hE
    rw [ht] at hE' cU
    obtain ⟨M, hM, Hs⟩ := j_startO n coin box ls cs hE'
    have ha := inR_iff.1 ht
    have V := VB.of hf
    obtain ⟨M', hM', Hb⟩ := j_bounds V (ask_money _) (aft := after.toNat) (show after.toNat ≤ ls.length by omega) (ex_ne hE) M hM
    rw [show ((after.toNat : Nat) : Int) = after by omega] at Hb
    refine PureF.run fn38 (by simp) (by simp [PuL, PuE, Pu, pu_ints, pu_ln, pu_ct]) ?_; conv => whnf
    repeat' first | ((first | with_reducible apply WB.tt | with_reducible apply WB.ff | refine Rn.seq ?_ | refine Rn.reg ?_ | refine Rn.drw ?_ | refine Rn.blk ?_ | refine Rn.skip ?_ | refine Rn.ret ?_ | refine Rn.exit ?_ | refine Rn.cond rfl ?_ | refine And.intro (InR.i64 (by omega) (by omega)) ?_ | refine And.intro (show _ ≠ (0 : Int) by omega) ?_ | refine WIx.intsN (by omega) ?_ | refine WIx.rowsN (by omega) ?_ | refine WCall.pure (cU) ?_ | with_reducible refine WB.decT (by first | with_reducible rfl | assumption | omega | exact ⟨rfl, rfl⟩) ?_ | with_reducible refine WB.decF (by first | assumption | omega) ?_ | with_reducible refine WB.ndT (by first | with_reducible rfl | assumption | omega | exact ⟨rfl, rfl⟩) ?_ | with_reducible refine WB.ndF (by first | assumption | omega) ?_ | with_reducible refine WB.nt ?_ | with_reducible refine WB.nf ?_ | with_reducible refine WB.dec (fun h => ?_) (fun h => ?_) | with_reducible refine WB.ndec (fun h => ?_) (fun h => ?_) | refine WB.mk (fun h => ?_) (fun h => ?_)) <;> conv => whnf)
    refine WCall.of (start_at Hs) ?_; conv => whnf
    repeat' first | ((first | with_reducible apply WB.tt | with_reducible apply WB.ff | refine Rn.seq ?_ | refine Rn.reg ?_ | refine Rn.drw ?_ | refine Rn.blk ?_ | refine Rn.skip ?_ | refine Rn.ret ?_ | refine Rn.exit ?_ | refine Rn.cond rfl ?_ | refine And.intro (InR.i64 (by omega) (by omega)) ?_ | refine And.intro (show _ ≠ (0 : Int) by omega) ?_ | refine WIx.intsN (by omega) ?_ | refine WIx.rowsN (by omega) ?_ | with_reducible refine WB.decT (by first | with_reducible rfl | assumption | omega | exact ⟨rfl, rfl⟩) ?_ | with_reducible refine WB.decF (by first | assumption | omega) ?_ | with_reducible refine WB.ndT (by first | with_reducible rfl | assumption | omega | exact ⟨rfl, rfl⟩) ?_ | with_reducible refine WB.ndF (by first | assumption | omega) ?_ | with_reducible refine WB.nt ?_ | with_reducible refine WB.nf ?_ | with_reducible refine WB.dec (fun h => ?_) (fun h => ?_) | with_reducible refine WB.ndec (fun h => ?_) (fun h => ?_) | refine WB.mk (fun h => ?_) (fun h => ?_)) <;> conv => whnf)
    refine WCall.of (CallOk.mapAt Hb (lohi_pu _) (id := .i .h) rfl (show 3 < Pos.nat (.i (.o .h)) from by decide) (mp_at (by simp [PuL, Pu]))) ?_; conv => whnf
    repeat' first | ((first | with_reducible apply WB.tt | with_reducible apply WB.ff | refine Rn.seq ?_ | refine Rn.reg ?_ | refine Rn.drw ?_ | refine Rn.blk ?_ | refine Rn.skip ?_ | refine Rn.ret ?_ | refine Rn.exit ?_ | refine Rn.cond rfl ?_ | refine And.intro (InR.i64 (by omega) (by omega)) ?_ | refine And.intro (show _ ≠ (0 : Int) by omega) ?_ | refine WIx.intsN (by omega) ?_ | refine WIx.rowsN (by omega) ?_ | with_reducible refine WB.decT (by first | with_reducible rfl | assumption | omega | exact ⟨rfl, rfl⟩) ?_ | with_reducible refine WB.decF (by first | assumption | omega) ?_ | with_reducible refine WB.ndT (by first | with_reducible rfl | assumption | omega | exact ⟨rfl, rfl⟩) ?_ | with_reducible refine WB.ndF (by first | assumption | omega) ?_ | with_reducible refine WB.nt ?_ | with_reducible refine WB.nf ?_ | with_reducible refine WB.dec (fun h => ?_) (fun h => ?_) | with_reducible refine WB.ndec (fun h => ?_) (fun h => ?_) | refine WB.mk (fun h => ?_) (fun h => ?_)) <;> conv => whnf)
    exact ⟨.inr rfl, _, rfl, .tp (.cons (.ag (.cons (Fz.i rfl) (.cons (Fz.i rfl) .nil))) (.cons (.pu trivial) .nil))⟩
  · rw [if_neg hE]
    have cS := j_startE n coin box ls cs _ hE
    generalize sE n coin box ls cs (inR after 0 ls.length) = e at hE cS ⊢
    unfold wkQ B5 zwk at cS
    refine PureF.run fn38 (by simp) (by simp [PuL, PuE, Pu, pu_ints, pu_ln, pu_ct]) ?_; conv => whnf
    repeat' first | ((first | with_reducible apply WB.tt | with_reducible apply WB.ff | refine Rn.seq ?_ | refine Rn.reg ?_ | refine Rn.drw ?_ | refine Rn.blk ?_ | refine Rn.skip ?_ | refine Rn.ret ?_ | refine Rn.exit ?_ | refine Rn.cond rfl ?_ | refine And.intro (InR.i64 (by omega) (by omega)) ?_ | refine And.intro (show _ ≠ (0 : Int) by omega) ?_ | refine WIx.intsN (by omega) ?_ | refine WIx.rowsN (by omega) ?_ | refine WCall.pure (cU) ?_ | refine WCall.pure (cS) ?_ | with_reducible refine WB.decT (by first | with_reducible rfl | assumption | omega | exact ⟨rfl, rfl⟩) ?_ | with_reducible refine WB.decF (by first | assumption | omega) ?_ | with_reducible refine WB.ndT (by first | with_reducible rfl | assumption | omega | exact ⟨rfl, rfl⟩) ?_ | with_reducible refine WB.ndF (by first | assumption | omega) ?_ | with_reducible refine WB.nt ?_ | with_reducible refine WB.nf ?_ | with_reducible refine WB.dec (fun h => ?_) (fun h => ?_) | with_reducible refine WB.ndec (fun h => ?_) (fun h => ?_) | refine WB.mk (fun h => ?_) (fun h => ?_)) <;> conv => whnf)
    all_goals first
      | (exfalso; omega)
      | exact ⟨.inr rfl, _, rfl, .tp (.cons (.ag (.cons (.pu trivial) (.cons (.pu trivial) .nil))) (.cons (.pu trivial) .nil))⟩
def mixT (n coin box : Int) (ls : List Ln) (cs : List Ct) : D :=
  if sE n coin box ls cs true = 0 then .tp [lohi (ansL (B5 n coin box ls cs) ls.length Mo.mix), .i .i64 0] else .tp [.ag [.i .i64 0, .i .i64 0], .i .i64 (sE n coin box ls cs true)]
theorem j_MixedP (n coin box : Int) (ls : List Ln) (cs : List Ct) : PureF Try.prog p40.ix [.ag [.i .i64 n, .i .i64 coin, .i .i64 box, .lst 3 (rows lnD ls), .lst 3 (rows ctD cs)]] (mixT n coin box ls cs) := by
  have e1 := rows_length lnD ls
  unfold mixT
  by_cases hE : sE n coin box ls cs true = 0
  · rw [if_pos hE]
    obtain ⟨hf, _⟩ := sE_fault hE
    obtain ⟨M, hM, Hs⟩ := j_startO n coin box ls cs hE
    have V := VB.of hf
    obtain ⟨M', hM', Hb⟩ := j_bounds V (ask_mixed _) (aft := ls.length) (Nat.le_refl _) (ex_ne hE) M hM
    rw [← e1] at Hb ⊢
    refine PureF.run fn39 (by simp) (by simp [PuL, PuE, Pu, pu_ints, pu_ln, pu_ct]) ?_; conv => whnf
    repeat' first | ((first | with_reducible apply WB.tt | with_reducible apply WB.ff | refine Rn.seq ?_ | refine Rn.reg ?_ | refine Rn.drw ?_ | refine Rn.blk ?_ | refine Rn.skip ?_ | refine Rn.ret ?_ | refine Rn.exit ?_ | refine Rn.cond rfl ?_ | refine And.intro (InR.i64 (by omega) (by omega)) ?_ | refine And.intro (show _ ≠ (0 : Int) by omega) ?_ | refine WIx.intsN (by omega) ?_ | refine WIx.rowsN (by omega) ?_ | with_reducible refine WB.decT (by first | with_reducible rfl | assumption | omega | exact ⟨rfl, rfl⟩) ?_ | with_reducible refine WB.decF (by first | assumption | omega) ?_ | with_reducible refine WB.ndT (by first | with_reducible rfl | assumption | omega | exact ⟨rfl, rfl⟩) ?_ | with_reducible refine WB.ndF (by first | assumption | omega) ?_ | with_reducible refine WB.nt ?_ | with_reducible refine WB.nf ?_ | with_reducible refine WB.dec (fun h => ?_) (fun h => ?_) | with_reducible refine WB.ndec (fun h => ?_) (fun h => ?_) | refine WB.mk (fun h => ?_) (fun h => ?_)) <;> conv => whnf)
    refine WCall.of (start_at Hs) ?_; conv => whnf
    repeat' first | ((first | with_reducible apply WB.tt | with_reducible apply WB.ff | refine Rn.seq ?_ | refine Rn.reg ?_ | refine Rn.drw ?_ | refine Rn.blk ?_ | refine Rn.skip ?_ | refine Rn.ret ?_ | refine Rn.exit ?_ | refine Rn.cond rfl ?_ | refine And.intro (InR.i64 (by omega) (by omega)) ?_ | refine And.intro (show _ ≠ (0 : Int) by omega) ?_ | refine WIx.intsN (by omega) ?_ | refine WIx.rowsN (by omega) ?_ | with_reducible refine WB.decT (by first | with_reducible rfl | assumption | omega | exact ⟨rfl, rfl⟩) ?_ | with_reducible refine WB.decF (by first | assumption | omega) ?_ | with_reducible refine WB.ndT (by first | with_reducible rfl | assumption | omega | exact ⟨rfl, rfl⟩) ?_ | with_reducible refine WB.ndF (by first | assumption | omega) ?_ | with_reducible refine WB.nt ?_ | with_reducible refine WB.nf ?_ | with_reducible refine WB.dec (fun h => ?_) (fun h => ?_) | with_reducible refine WB.ndec (fun h => ?_) (fun h => ?_) | refine WB.mk (fun h => ?_) (fun h => ?_)) <;> conv => whnf)
    refine WCall.of (CallOk.mapAt Hb (lohi_pu _) (id := .i .h) rfl (show 3 < Pos.nat (.i (.o .h)) from by decide) (mp_at (by simp [PuL, Pu]))) ?_; conv => whnf
    repeat' first | ((first | with_reducible apply WB.tt | with_reducible apply WB.ff | refine Rn.seq ?_ | refine Rn.reg ?_ | refine Rn.drw ?_ | refine Rn.blk ?_ | refine Rn.skip ?_ | refine Rn.ret ?_ | refine Rn.exit ?_ | refine Rn.cond rfl ?_ | refine And.intro (InR.i64 (by omega) (by omega)) ?_ | refine And.intro (show _ ≠ (0 : Int) by omega) ?_ | refine WIx.intsN (by omega) ?_ | refine WIx.rowsN (by omega) ?_ | with_reducible refine WB.decT (by first | with_reducible rfl | assumption | omega | exact ⟨rfl, rfl⟩) ?_ | with_reducible refine WB.decF (by first | assumption | omega) ?_ | with_reducible refine WB.ndT (by first | with_reducible rfl | assumption | omega | exact ⟨rfl, rfl⟩) ?_ | with_reducible refine WB.ndF (by first | assumption | omega) ?_ | with_reducible refine WB.nt ?_ | with_reducible refine WB.nf ?_ | with_reducible refine WB.dec (fun h => ?_) (fun h => ?_) | with_reducible refine WB.ndec (fun h => ?_) (fun h => ?_) | refine WB.mk (fun h => ?_) (fun h => ?_)) <;> conv => whnf)
    exact ⟨.inr rfl, _, rfl, .tp (.cons (.ag (.cons (Fz.i rfl) (.cons (Fz.i rfl) .nil))) (.cons (.pu trivial) .nil))⟩
  · rw [if_neg hE]
    have cS := j_startE n coin box ls cs _ hE
    generalize sE n coin box ls cs true = e at hE cS ⊢
    unfold wkQ B5 zwk at cS
    refine PureF.run fn39 (by simp) (by simp [PuL, PuE, Pu, pu_ints, pu_ln, pu_ct]) ?_; conv => whnf
    repeat' first | ((first | with_reducible apply WB.tt | with_reducible apply WB.ff | refine Rn.seq ?_ | refine Rn.reg ?_ | refine Rn.drw ?_ | refine Rn.blk ?_ | refine Rn.skip ?_ | refine Rn.ret ?_ | refine Rn.exit ?_ | refine Rn.cond rfl ?_ | refine And.intro (InR.i64 (by omega) (by omega)) ?_ | refine And.intro (show _ ≠ (0 : Int) by omega) ?_ | refine WIx.intsN (by omega) ?_ | refine WIx.rowsN (by omega) ?_ | refine WCall.pure (cS) ?_ | with_reducible refine WB.decT (by first | with_reducible rfl | assumption | omega | exact ⟨rfl, rfl⟩) ?_ | with_reducible refine WB.decF (by first | assumption | omega) ?_ | with_reducible refine WB.ndT (by first | with_reducible rfl | assumption | omega | exact ⟨rfl, rfl⟩) ?_ | with_reducible refine WB.ndF (by first | assumption | omega) ?_ | with_reducible refine WB.nt ?_ | with_reducible refine WB.nf ?_ | with_reducible refine WB.dec (fun h => ?_) (fun h => ?_) | with_reducible refine WB.ndec (fun h => ?_) (fun h => ?_) | refine WB.mk (fun h => ?_) (fun h => ?_)) <;> conv => whnf)
    all_goals first
      | (exfalso; omega)
      | exact ⟨.inr rfl, _, rfl, .tp (.cons (.ag (.cons (.pu trivial) (.cons (.pu trivial) .nil))) (.cons (.pu trivial) .nil))⟩
theorem j_isOut (m : Mo) (x : Nat) (hx : x < 8) : PureF Try.prog p119.ix [.i .i64 (x : Int), .ag (moD m)] (.i .i64 (min (m.h x) 1)) := by
  unfold moD
  refine PureF.run fn118 (by simp) (by simp [PuL, Pu]) ?_; conv => whnf
  repeat' first | ((first | with_reducible apply WB.tt | with_reducible apply WB.ff | refine Rn.seq ?_ | refine Rn.reg ?_ | refine Rn.drw ?_ | refine Rn.blk ?_ | refine Rn.skip ?_ | refine Rn.ret ?_ | refine Rn.exit ?_ | refine Rn.cond rfl ?_ | refine And.intro (InR.i64 (by omega) (by omega)) ?_ | refine And.intro (show _ ≠ (0 : Int) by omega) ?_ | refine WIx.intsN (by omega) ?_ | refine WIx.rowsN (by omega) ?_ | with_reducible refine WB.decT (by first | with_reducible rfl | assumption | omega | exact ⟨rfl, rfl⟩) ?_ | with_reducible refine WB.decF (by first | assumption | omega) ?_ | with_reducible refine WB.ndT (by first | with_reducible rfl | assumption | omega | exact ⟨rfl, rfl⟩) ?_ | with_reducible refine WB.ndF (by first | assumption | omega) ?_ | with_reducible refine WB.nt ?_ | with_reducible refine WB.nf ?_ | with_reducible refine WB.dec (fun h => ?_) (fun h => ?_) | with_reducible refine WB.ndec (fun h => ?_) (fun h => ?_) | refine WB.mk (fun h => ?_) (fun h => ?_)) <;> conv => whnf)
  refine WSt.ixaN (m := x) rfl rfl rfl (by omega) ?_; conv => whnf
  refine wSt.ldH (n := m.n) (h := m.h) (box := m.box) (mix := m.mix) (c := x) (by rfl) (by rfl) (by rfl) (by omega) ?_; conv => whnf
  repeat' first | ((first | with_reducible apply WB.tt | with_reducible apply WB.ff | refine Rn.seq ?_ | refine Rn.reg ?_ | refine Rn.drw ?_ | refine Rn.blk ?_ | refine Rn.skip ?_ | refine Rn.ret ?_ | refine Rn.exit ?_ | refine Rn.cond rfl ?_ | refine And.intro (InR.i64 (by omega) (by omega)) ?_ | refine And.intro (show _ ≠ (0 : Int) by omega) ?_ | refine WIx.intsN (by omega) ?_ | refine WIx.rowsN (by omega) ?_ | with_reducible refine WB.decT (by first | with_reducible rfl | assumption | omega | exact ⟨rfl, rfl⟩) ?_ | with_reducible refine WB.decF (by first | assumption | omega) ?_ | with_reducible refine WB.ndT (by first | with_reducible rfl | assumption | omega | exact ⟨rfl, rfl⟩) ?_ | with_reducible refine WB.ndF (by first | assumption | omega) ?_ | with_reducible refine WB.nt ?_ | with_reducible refine WB.nf ?_ | with_reducible refine WB.dec (fun h => ?_) (fun h => ?_) | with_reducible refine WB.ndec (fun h => ?_) (fun h => ?_) | refine WB.mk (fun h => ?_) (fun h => ?_)) <;> conv => whnf)
  exact Fin.i rfl rfl
theorem ask_isOut (B : Bk) (x : Nat) (hx : x < 8) : AskOk B p119 [.i .i64 (x : Int)] [] (fun m => min (m.h x) 1) := ⟨by simp [PuL, Pu], trivial, fun _ _ _ => j_isOut _ x hx⟩
def vdT (a b : Int) : Int := if a = 1 ∧ b = 1 then 1 else if a = 0 ∧ b = 0 then 2 else 3
theorem j_verdict (a b : Int) (ha : wfB .i64 a = true) (hb : wfB .i64 b = true) : PureF Try.prog p118.ix [.ag [.i .i64 a, .i .i64 b]] (.i .i64 (vdT a b)) := by
  refine PureF.run fn117 (by simp) (by simp [PuL, Pu]) ?_; conv => whnf
  repeat' first | ((first | with_reducible apply WB.tt | with_reducible apply WB.ff | refine Rn.seq ?_ | refine Rn.reg ?_ | refine Rn.drw ?_ | refine Rn.blk ?_ | refine Rn.skip ?_ | refine Rn.ret ?_ | refine Rn.exit ?_ | refine Rn.cond rfl ?_ | refine And.intro (InR.i64 (by omega) (by omega)) ?_ | refine And.intro (show _ ≠ (0 : Int) by omega) ?_ | refine WIx.intsN (by omega) ?_ | refine WIx.rowsN (by omega) ?_ | with_reducible refine WB.decT (by first | with_reducible rfl | assumption | omega | exact ⟨rfl, rfl⟩) ?_ | with_reducible refine WB.decF (by first | assumption | omega) ?_ | with_reducible refine WB.ndT (by first | with_reducible rfl | assumption | omega | exact ⟨rfl, rfl⟩) ?_ | with_reducible refine WB.ndF (by first | assumption | omega) ?_ | with_reducible refine WB.nt ?_ | with_reducible refine WB.nf ?_ | with_reducible refine WB.dec (fun h => ?_) (fun h => ?_) | with_reducible refine WB.ndec (fun h => ?_) (fun h => ?_) | refine WB.mk (fun h => ?_) (fun h => ?_)) <;> conv => whnf)
  refine WSt.eqr2 (a := a) (b := b) (a' := 1) (b' := 1) rfl rfl ha hb rfl rfl ?_; conv => whnf
  by_cases h1 : a = 1 ∧ b = 1
  · repeat' first | ((first | with_reducible apply WB.tt | with_reducible apply WB.ff | refine Rn.seq ?_ | refine Rn.reg ?_ | refine Rn.drw ?_ | refine Rn.blk ?_ | refine Rn.skip ?_ | refine Rn.ret ?_ | refine Rn.exit ?_ | refine Rn.cond rfl ?_ | refine And.intro (InR.i64 (by omega) (by omega)) ?_ | refine And.intro (show _ ≠ (0 : Int) by omega) ?_ | refine WIx.intsN (by omega) ?_ | refine WIx.rowsN (by omega) ?_ | with_reducible refine WB.decT (by first | with_reducible rfl | assumption | omega | exact ⟨rfl, rfl⟩) ?_ | with_reducible refine WB.decF (by first | assumption | omega) ?_ | with_reducible refine WB.ndT (by first | with_reducible rfl | assumption | omega | exact ⟨rfl, rfl⟩) ?_ | with_reducible refine WB.ndF (by first | assumption | omega) ?_ | with_reducible refine WB.nt ?_ | with_reducible refine WB.nf ?_ | with_reducible refine WB.dec (fun h => ?_) (fun h => ?_) | with_reducible refine WB.ndec (fun h => ?_) (fun h => ?_) | refine WB.mk (fun h => ?_) (fun h => ?_)) <;> conv => whnf)
    exact Fin.i rfl (by unfold vdT; rw [if_pos h1])
  · repeat' first | ((first | with_reducible apply WB.tt | with_reducible apply WB.ff | refine Rn.seq ?_ | refine Rn.reg ?_ | refine Rn.drw ?_ | refine Rn.blk ?_ | refine Rn.skip ?_ | refine Rn.ret ?_ | refine Rn.exit ?_ | refine Rn.cond rfl ?_ | refine And.intro (InR.i64 (by omega) (by omega)) ?_ | refine And.intro (show _ ≠ (0 : Int) by omega) ?_ | refine WIx.intsN (by omega) ?_ | refine WIx.rowsN (by omega) ?_ | with_reducible refine WB.decT (by first | with_reducible rfl | assumption | omega | exact ⟨rfl, rfl⟩) ?_ | with_reducible refine WB.decF (by first | assumption | omega) ?_ | with_reducible refine WB.ndT (by first | with_reducible rfl | assumption | omega | exact ⟨rfl, rfl⟩) ?_ | with_reducible refine WB.ndF (by first | assumption | omega) ?_ | with_reducible refine WB.nt ?_ | with_reducible refine WB.nf ?_ | with_reducible refine WB.dec (fun h => ?_) (fun h => ?_) | with_reducible refine WB.ndec (fun h => ?_) (fun h => ?_) | refine WB.mk (fun h => ?_) (fun h => ?_)) <;> conv => whnf)
    refine WSt.eqr2 (a := a) (b := b) (a' := 0) (b' := 0) rfl rfl ha hb rfl rfl ?_; conv => whnf
    by_cases h2 : a = 0 ∧ b = 0
    · repeat' first | ((first | with_reducible apply WB.tt | with_reducible apply WB.ff | refine Rn.seq ?_ | refine Rn.reg ?_ | refine Rn.drw ?_ | refine Rn.blk ?_ | refine Rn.skip ?_ | refine Rn.ret ?_ | refine Rn.exit ?_ | refine Rn.cond rfl ?_ | refine And.intro (InR.i64 (by omega) (by omega)) ?_ | refine And.intro (show _ ≠ (0 : Int) by omega) ?_ | refine WIx.intsN (by omega) ?_ | refine WIx.rowsN (by omega) ?_ | with_reducible refine WB.decT (by first | with_reducible rfl | assumption | omega | exact ⟨rfl, rfl⟩) ?_ | with_reducible refine WB.decF (by first | assumption | omega) ?_ | with_reducible refine WB.ndT (by first | with_reducible rfl | assumption | omega | exact ⟨rfl, rfl⟩) ?_ | with_reducible refine WB.ndF (by first | assumption | omega) ?_ | with_reducible refine WB.nt ?_ | with_reducible refine WB.nf ?_ | with_reducible refine WB.dec (fun h => ?_) (fun h => ?_) | with_reducible refine WB.ndec (fun h => ?_) (fun h => ?_) | refine WB.mk (fun h => ?_) (fun h => ?_)) <;> conv => whnf)
      exact Fin.i rfl (by unfold vdT; rw [if_neg h1, if_pos h2])
    · repeat' first | ((first | with_reducible apply WB.tt | with_reducible apply WB.ff | refine Rn.seq ?_ | refine Rn.reg ?_ | refine Rn.drw ?_ | refine Rn.blk ?_ | refine Rn.skip ?_ | refine Rn.ret ?_ | refine Rn.exit ?_ | refine Rn.cond rfl ?_ | refine And.intro (InR.i64 (by omega) (by omega)) ?_ | refine And.intro (show _ ≠ (0 : Int) by omega) ?_ | refine WIx.intsN (by omega) ?_ | refine WIx.rowsN (by omega) ?_ | with_reducible refine WB.decT (by first | with_reducible rfl | assumption | omega | exact ⟨rfl, rfl⟩) ?_ | with_reducible refine WB.decF (by first | assumption | omega) ?_ | with_reducible refine WB.ndT (by first | with_reducible rfl | assumption | omega | exact ⟨rfl, rfl⟩) ?_ | with_reducible refine WB.ndF (by first | assumption | omega) ?_ | with_reducible refine WB.nt ?_ | with_reducible refine WB.nf ?_ | with_reducible refine WB.dec (fun h => ?_) (fun h => ?_) | with_reducible refine WB.ndec (fun h => ?_) (fun h => ?_) | refine WB.mk (fun h => ?_) (fun h => ?_)) <;> conv => whnf)
      exact Fin.i rfl (by unfold vdT; rw [if_neg h1, if_neg h2])
end Go.Ev

namespace Go.Ev
open Go.Proofs
set_option maxRecDepth 100000
theorem Fz.whole {B : Pos → Prop} {ob : T C} {id : Pos} {z st : Nat} {cs : List Cell} {cur : Nat} {es : List (List D)} {n : Nat} (hB : ¬ B id) (h : ob.get id = some (.cells false cs cur)) (hn : n = es.length) (hz : ∀ r ∈ es, r.length = z) (hc : cs = es.flatten.map fun d => Cell.o d st) (hp : PuE es) : Fz B ob (.sl id 0 n st z) (.lst z es) := by
  subst hc
  refine .sl hB h hn.symm hz (fun k d hk => ⟨.o d st, ?_, ?_, rfl⟩) (FzE.of hp)
  · rw [List.drop_zero, List.getElem?_map, hk]; rfl
  · show Nat.ble st st = true
    exact Nat.ble_eq_true_of_le (Nat.le_refl _)
def outA (B : Bk) (aft x : Nat) : List Int := ansL B aft fun m => min (m.h x) 1
def vdO (B : Bk) (aft x : Nat) : Int := vdT ((outA B aft x).foldl min ((outA B aft x).getD 0 0)) ((outA B aft x).foldl max ((outA B aft x).getD 0 0))
def vdL (B : Bk) (aft fst : Nat) : List Int := (List.range B.n.toNat).map fun i => vdO B aft (fst + i)
theorem vdL_len (B : Bk) (aft fst : Nat) : (vdL B aft fst).length = B.n.toNat := by simp [vdL]
theorem vdL_at {B : Bk} {aft fst j : Nat} (h : j < B.n.toNat) : (vdL B aft fst).getD j 0 = vdO B aft (fst + j) := by simp [vdL, List.getD, h]
theorem fold01 {L : List Int} (hne : L ≠ []) (h : ∀ x ∈ L, 0 ≤ x ∧ x ≤ 1) : (0 ≤ L.foldl min (L.getD 0 0) ∧ L.foldl min (L.getD 0 0) ≤ 1) ∧ (0 ≤ L.foldl max (L.getD 0 0) ∧ L.foldl max (L.getD 0 0) ≤ 1) := by
  have h0 : L.getD 0 0 ∈ L := by
    cases L with
    | nil => exact absurd rfl hne
    | cons a l => simp
  constructor
  · rcases foldmin_mem (L := L) (a := L.getD 0 0) with e | e
    · rw [e]; exact h _ h0
    · exact h _ e
  · rcases foldmax_mem (L := L) (a := L.getD 0 0) with e | e
    · rw [e]; exact h _ h0
    · exact h _ e
theorem outA_01 {B : Bk} {aft x : Nat} : ∀ y ∈ outA B aft x, 0 ≤ y ∧ y ≤ 1 := fun y hy => by
  obtain ⟨X, _, rfl⟩ := List.mem_map.1 hy
  have g1 := cOut_bd X (x : Int) aft
  have g2 := tOut_bd X ((x - 4 : Nat) : Int) aft
  have : 0 ≤ (moR B.box B.coin X aft).h x := by
    show 0 ≤ (if x < 4 then cOut X (x : Int) aft + 1 else tOut X ((x - 4 : Nat) : Int) aft + 1)
    split <;> omega
  show 0 ≤ min ((moR B.box B.coin X aft).h x) 1 ∧ min ((moR B.box B.coin X aft).h x) 1 ≤ 1
  omega
theorem j_verd {B : Bk} {aft x : Nat} (hne : exT B B.ls.length [] ≠ []) : PureF Try.prog p118.ix [lohi (outA B aft x)] (.i .i64 (vdO B aft x)) := by
  have hA : outA B aft x ≠ [] := fun e => hne (List.map_eq_nil_iff.1 e)
  obtain ⟨⟨a1, a2⟩, ⟨b1, b2⟩⟩ := fold01 hA outA_01
  exact j_verdict _ _ (wf_small (by omega) (by omega)) (wf_small (by omega) (by omega))
set_option maxHeartbeats 1000000 in
theorem j_verdicts {B : Bk} (V : VB B) {aft fst : Nat} (ha : aft ≤ B.ls.length) (hf : fst ≤ 4) (hne : exT B B.ls.length [] ≠ []) (M : Memo) (hM : MOk B M) :
    ∃ M', MOk B M' ∧ CallOk Try.prog p87.ix [.ag (wkQ B ++ [.mp .h]), .i .i64 (aft : Int), .i .i64 (fst : Int)] (mapP M) (.o .h) none (.lst 1 (ints (vdL B aft fst))) (mapP M') (.o .h) none := by
  have hn := V.n
  obtain ⟨v, ob', ⟨M', hM', rfl, rfl⟩, Hb⟩ := CallOk.runE (Φ := fun v ob' => ∃ M', MOk B M' ∧ v = .lst 1 (ints (vdL B aft fst)) ∧ ob' = mapP M') (ob := mapP M) (nx := .o .h) (nx' := .o .h) (ds := [.ag (wkQ B ++ [.mp .h]), .i .i64 (aft : Int), .i .i64 (fst : Int)]) fn86 (by simp) (Nat.le_refl _) (by
    unfold wkQ
    conv => whnf
    repeat' first | ((first | with_reducible apply WB.tt | with_reducible apply WB.ff | refine Rn.seq ?_ | refine Rn.reg ?_ | refine Rn.drw ?_ | refine Rn.blk ?_ | refine Rn.skip ?_ | refine Rn.ret ?_ | refine Rn.exit ?_ | refine Rn.cond rfl ?_ | refine And.intro (InR.i64 (by omega) (by omega)) ?_ | refine And.intro (show _ ≠ (0 : Int) by omega) ?_ | refine WIx.intsN (by omega) ?_ | refine WIx.rowsN (by omega) ?_) <;> conv => whnf)
    refine Rn.loop (fun (t : Nat × Memo) => match t with
      | (0, M) => ⟨(.n (.n (.n (.n .e (some (.ns)) .e) (some (.pt (.o .h) 0 0)) .e) (some (.i .i64 (aft : Int))) (.n .e none (.n .e (some (.i .i64 0)) .e))) none (.n (.n .e none (.n .e (some (.i .i64 B.n)) .e)) (some (.i .i64 (fst : Int))) .e)), (.n (.n .e (some (wkCl B)) .e) (some (.map (mapL M))) .e), .i .h, none⟩
      | (j + 1, M) => ⟨(.n (.n (.n (.n .e (some (.sl (.o (.o .h)) 0 (j + 1) j 1)) .e) (some (.pt (.o .h) 0 0)) .e) (some (.i .i64 (aft : Int))) (.n .e none (.n .e (some (.i .i64 ((j + 1 : Nat) : Int))) .e))) none (.n (.n .e none (.n .e (some (.i .i64 B.n)) .e)) (some (.i .i64 (fst : Int))) .e)), (.n (.n (.n .e (some (.cells false ((((vdL B aft fst).take (j + 1)).map fun n => D.i .i64 n).map fun d => Cell.o d j) (j + 1))) .e) (some (wkCl B)) .e) (some (.map (mapL M))) .e), .i (.o .h), none⟩) (fun t => t.1 ≤ B.n.toNat ∧ MOk B t.2) (fun t => B.n.toNat - t.1) (0, M) ?_ ?_ ?_
    · refine X.le.mk ?_ ?_ (Nat.le_refl _) rfl rfl <;> (repeat' first | exact T.le_e _ | refine T.le_some ?_ rfl ?_ | refine T.le_none ?_ ?_)
    · exact ⟨Nat.zero_le _, hM⟩
    rintro ⟨_ | j, M⟩ ⟨hj, hM⟩
    · have hM : MOk B M := hM
      obtain ⟨M', hM', Hb⟩ := j_bounds V (ask_isOut B (fst + 0) (by omega)) ha hne M hM
      have cV := j_verd (aft := aft) (x := fst + 0) hne
      rw [show ((fst + 0 : Nat) : Int) = (fst : Int) + 0 by omega] at Hb
      conv => whnf
      repeat' first | ((first | with_reducible apply WB.tt | with_reducible apply WB.ff | refine Rn.seq ?_ | refine Rn.reg ?_ | refine Rn.drw ?_ | refine Rn.blk ?_ | refine Rn.skip ?_ | refine Rn.ret ?_ | refine Rn.exit ?_ | refine Rn.cond rfl ?_ | refine And.intro (InR.i64 (by omega) (by omega)) ?_ | refine And.intro (show _ ≠ (0 : Int) by omega) ?_ | refine WIx.intsN (by omega) ?_ | refine WIx.rowsN (by omega) ?_ | with_reducible refine WB.decT (by first | with_reducible rfl | assumption | omega | exact ⟨rfl, rfl⟩) ?_ | with_reducible refine WB.decF (by first | assumption | omega) ?_ | with_reducible refine WB.ndT (by first | with_reducible rfl | assumption | omega | exact ⟨rfl, rfl⟩) ?_ | with_reducible refine WB.ndF (by first | assumption | omega) ?_ | with_reducible refine WB.nt ?_ | with_reducible refine WB.nf ?_ | with_reducible refine WB.dec (fun h => ?_) (fun h => ?_) | with_reducible refine WB.ndec (fun h => ?_) (fun h => ?_) | refine WB.mk (fun h => ?_) (fun h => ?_)) <;> conv => whnf)
      · refine WCall.of (CallOk.mapAt Hb (lohi_pu _) (id := .h) rfl (show 1 < Pos.nat (.i .h) from by decide) (mp_at (by simp [PuL, Pu]))) ?_; conv => whnf
        repeat' first | ((first | with_reducible apply WB.tt | with_reducible apply WB.ff | refine Rn.seq ?_ | refine Rn.reg ?_ | refine Rn.drw ?_ | refine Rn.blk ?_ | refine Rn.skip ?_ | refine Rn.ret ?_ | refine Rn.exit ?_ | refine Rn.cond rfl ?_ | refine And.intro (InR.i64 (by omega) (by omega)) ?_ | refine And.intro (show _ ≠ (0 : Int) by omega) ?_ | refine WIx.intsN (by omega) ?_ | refine WIx.rowsN (by omega) ?_ | refine WCall.pure (cV) ?_ | with_reducible refine WB.decT (by first | with_reducible rfl | assumption | omega | exact ⟨rfl, rfl⟩) ?_ | with_reducible refine WB.decF (by first | assumption | omega) ?_ | with_reducible refine WB.ndT (by first | with_reducible rfl | assumption | omega | exact ⟨rfl, rfl⟩) ?_ | with_reducible refine WB.ndF (by first | assumption | omega) ?_ | with_reducible refine WB.nt ?_ | with_reducible refine WB.nf ?_ | with_reducible refine WB.dec (fun h => ?_) (fun h => ?_) | with_reducible refine WB.ndec (fun h => ?_) (fun h => ?_) | refine WB.mk (fun h => ?_) (fun h => ?_)) <;> conv => whnf)
        refine WSt.app_first (r := [.i .i64 (vdO B aft (fst + 0))]) rfl (.inl rfl) rfl rfl rfl rfl ?_; conv => whnf
        repeat' first | ((first | with_reducible apply WB.tt | with_reducible apply WB.ff | refine Rn.seq ?_ | refine Rn.reg ?_ | refine Rn.drw ?_ | refine Rn.blk ?_ | refine Rn.skip ?_ | refine Rn.ret ?_ | refine Rn.exit ?_ | refine Rn.cond rfl ?_ | refine And.intro (InR.i64 (by omega) (by omega)) ?_ | refine And.intro (show _ ≠ (0 : Int) by omega) ?_ | refine WIx.intsN (by omega) ?_ | refine WIx.rowsN (by omega) ?_ | with_reducible refine WB.decT (by first | with_reducible rfl | assumption | omega | exact ⟨rfl, rfl⟩) ?_ | with_reducible refine WB.decF (by first | assumption | omega) ?_ | with_reducible refine WB.ndT (by first | with_reducible rfl | assumption | omega | exact ⟨rfl, rfl⟩) ?_ | with_reducible refine WB.ndF (by first | assumption | omega) ?_ | with_reducible refine WB.nt ?_ | with_reducible refine WB.nf ?_ | with_reducible refine WB.dec (fun h => ?_) (fun h => ?_) | with_reducible refine WB.ndec (fun h => ?_) (fun h => ?_) | refine WB.mk (fun h => ?_) (fun h => ?_)) <;> conv => whnf)
        have ht : (vdL B aft fst).take 1 = [vdO B aft (fst + 0)] := by
          rw [take_succ_getD (d := 0) (show 0 < (vdL B aft fst).length by rw [vdL_len]; omega), vdL_at (by omega)]; rfl
        refine Again.to (1, M') (show B.n.toNat - 1 < B.n.toNat - 0 by omega) ⟨show 1 ≤ B.n.toNat by omega, hM'⟩ (Nat.le_of_ble_eq_true rfl) ?_
        refine Shr.of ?_ ?_ rfl rfl
        · (repeat' first | exact Rel.e | refine Rel.some ?_ ?_ ?_ | refine Rel.none ?_ ?_ | refine Rel.ee ?_ ?_)
          all_goals show Fz _ _ _ _
          all_goals first | exact .kpt (show _ < _ by simp [Pos.nat]) | exact .ksl (show _ < _ by simp [Pos.nat]) | exact .pu trivial | (refine Fz.i ?_; omega)
        · (repeat' first | exact Rel.e | refine Rel.some ?_ ?_ ?_ | refine Rel.none ?_ ?_ | refine Rel.ee ?_ ?_)
          all_goals first
            | exact RO'.of (show Pos.nat _ < Pos.nat _ by simp [Pos.nat]) (ShC.kp mapL_kp)
            | exact RO'.of (show Pos.nat _ < Pos.nat _ by simp [Pos.nat]) (ShC.kp (wkCl_kp B (by simp [Pos.nat])))
            | (refine RO'.of (show Pos.nat _ < Pos.nat _ by simp [Pos.nat]) ?_
               show ShC _ _ _ (.cells false ((((vdL B aft fst).take 1).map fun n => D.i .i64 n).map fun d => Cell.o d 0) 1)
               rw [ht]
               exact ShC.same (ShC.cn (.pu trivial) ShC.nl))
    · have hM : MOk B M := hM
      have hj : j + 1 ≤ B.n.toNat := hj
      conv => whnf
      repeat' first | ((first | with_reducible apply WB.tt | with_reducible apply WB.ff | refine Rn.seq ?_ | refine Rn.reg ?_ | refine Rn.drw ?_ | refine Rn.blk ?_ | refine Rn.skip ?_ | refine Rn.ret ?_ | refine Rn.exit ?_ | refine Rn.cond rfl ?_ | refine And.intro (InR.i64 (by omega) (by omega)) ?_ | refine And.intro (show _ ≠ (0 : Int) by omega) ?_ | refine WIx.intsN (by omega) ?_ | refine WIx.rowsN (by omega) ?_) <;> conv => whnf)
      refine WB.dec (fun h => ?_) (fun h => ?_) <;> conv => whnf
      · have hlt : j + 1 < B.n.toNat := by omega
        obtain ⟨M', hM', Hb⟩ := j_bounds V (ask_isOut B (fst + (j + 1)) (by omega)) ha hne M hM
        have cV := j_verd (aft := aft) (x := fst + (j + 1)) hne
        rw [show ((fst + (j + 1) : Nat) : Int) = (fst : Int) + ((j + 1 : Nat) : Int) by omega] at Hb
        repeat' first | ((first | with_reducible apply WB.tt | with_reducible apply WB.ff | refine Rn.seq ?_ | refine Rn.reg ?_ | refine Rn.drw ?_ | refine Rn.blk ?_ | refine Rn.skip ?_ | refine Rn.ret ?_ | refine Rn.exit ?_ | refine Rn.cond rfl ?_ | refine And.intro (InR.i64 (by omega) (by omega)) ?_ | refine And.intro (show _ ≠ (0 : Int) by omega) ?_ | refine WIx.intsN (by omega) ?_ | refine WIx.rowsN (by omega) ?_ | with_reducible refine WB.decT (by first | with_reducible rfl | assumption | omega | exact ⟨rfl, rfl⟩) ?_ | with_reducible refine WB.decF (by first | assumption | omega) ?_ | with_reducible refine WB.ndT (by first | with_reducible rfl | assumption | omega | exact ⟨rfl, rfl⟩) ?_ | with_reducible refine WB.ndF (by first | assumption | omega) ?_ | with_reducible refine WB.nt ?_ | with_reducible refine WB.nf ?_ | with_reducible refine WB.dec (fun h => ?_) (fun h => ?_) | with_reducible refine WB.ndec (fun h => ?_) (fun h => ?_) | refine WB.mk (fun h => ?_) (fun h => ?_)) <;> conv => whnf)
        refine WCall.of (CallOk.mapAt Hb (lohi_pu _) (id := .h) rfl (show 1 < Pos.nat (.i (.o .h)) from by decide) (mp_at (by simp [PuL, Pu]))) ?_; conv => whnf
        repeat' first | ((first | with_reducible apply WB.tt | with_reducible apply WB.ff | refine Rn.seq ?_ | refine Rn.reg ?_ | refine Rn.drw ?_ | refine Rn.blk ?_ | refine Rn.skip ?_ | refine Rn.ret ?_ | refine Rn.exit ?_ | refine Rn.cond rfl ?_ | refine And.intro (InR.i64 (by omega) (by omega)) ?_ | refine And.intro (show _ ≠ (0 : Int) by omega) ?_ | refine WIx.intsN (by omega) ?_ | refine WIx.rowsN (by omega) ?_ | refine WCall.pure (cV) ?_ | with_reducible refine WB.decT (by first | with_reducible rfl | assumption | omega | exact ⟨rfl, rfl⟩) ?_ | with_reducible refine WB.decF (by first | assumption | omega) ?_ | with_reducible refine WB.ndT (by first | with_reducible rfl | assumption | omega | exact ⟨rfl, rfl⟩) ?_ | with_reducible refine WB.ndF (by first | assumption | omega) ?_ | with_reducible refine WB.nt ?_ | with_reducible refine WB.nf ?_ | with_reducible refine WB.dec (fun h => ?_) (fun h => ?_) | with_reducible refine WB.ndec (fun h => ?_) (fun h => ?_) | refine WB.mk (fun h => ?_) (fun h => ?_)) <;> conv => whnf)
        refine WSt.app_one (ds := ((vdL B aft fst).take (j + 1)).map fun n => D.i .i64 n) (r := [.i .i64 (vdO B aft (fst + (j + 1)))]) rfl rfl rfl rfl rfl rfl (by rw [List.length_map, List.length_take, vdL_len]; omega) rfl rfl (by omega) rfl ?_; conv => whnf
        repeat' first | ((first | with_reducible apply WB.tt | with_reducible apply WB.ff | refine Rn.seq ?_ | refine Rn.reg ?_ | refine Rn.drw ?_ | refine Rn.blk ?_ | refine Rn.skip ?_ | refine Rn.ret ?_ | refine Rn.exit ?_ | refine Rn.cond rfl ?_ | refine And.intro (InR.i64 (by omega) (by omega)) ?_ | refine And.intro (show _ ≠ (0 : Int) by omega) ?_ | refine WIx.intsN (by omega) ?_ | refine WIx.rowsN (by omega) ?_ | with_reducible refine WB.decT (by first | with_reducible rfl | assumption | omega | exact ⟨rfl, rfl⟩) ?_ | with_reducible refine WB.decF (by first | assumption | omega) ?_ | with_reducible refine WB.ndT (by first | with_reducible rfl | assumption | omega | exact ⟨rfl, rfl⟩) ?_ | with_reducible refine WB.ndF (by first | assumption | omega) ?_ | with_reducible refine WB.nt ?_ | with_reducible refine WB.nf ?_ | with_reducible refine WB.dec (fun h => ?_) (fun h => ?_) | with_reducible refine WB.ndec (fun h => ?_) (fun h => ?_) | refine WB.mk (fun h => ?_) (fun h => ?_)) <;> conv => whnf)
        have ht : (vdL B aft fst).take (j + 2) = (vdL B aft fst).take (j + 1) ++ [vdO B aft (fst + (j + 1))] := by
          rw [take_succ_getD (d := 0) (show j + 1 < (vdL B aft fst).length by rw [vdL_len]; omega), vdL_at (by omega)]
        refine Again.to (j + 2, M') (show B.n.toNat - (j + 2) < B.n.toNat - (j + 1) by omega) ⟨show j + 2 ≤ B.n.toNat by omega, hM'⟩ (Nat.le_of_ble_eq_true rfl) ?_
        refine Shr.of ?_ ?_ rfl rfl
        · (repeat' first | exact Rel.e | refine Rel.some ?_ ?_ ?_ | refine Rel.none ?_ ?_ | refine Rel.ee ?_ ?_)
          all_goals show Fz _ _ _ _
          all_goals first | exact .kpt (show _ < _ by simp [Pos.nat]) | exact .ksl (show _ < _ by simp [Pos.nat]) | exact .pu trivial | (refine Fz.i ?_; omega)
        · (repeat' first | exact Rel.e | refine Rel.some ?_ ?_ ?_ | refine Rel.none ?_ ?_ | refine Rel.ee ?_ ?_)
          all_goals first
            | exact RO'.of (show Pos.nat _ < Pos.nat _ by simp [Pos.nat]) (ShC.kp mapL_kp)
            | exact RO'.of (show Pos.nat _ < Pos.nat _ by simp [Pos.nat]) (ShC.kp (wkCl_kp B (by simp [Pos.nat])))
            | (refine RO'.of (show Pos.nat _ < Pos.nat _ by simp [Pos.nat]) ?_
               show ShC _ _ (.cells false (((((vdL B aft fst).take (j + 1)).map fun n => D.i .i64 n).map fun d => Cell.o d j) ++ [D.i .i64 (vdO B aft (fst + (j + 1)))].map fun d => Cell.o d (j + 1)) (j + 1 + 1)) (.cells false ((((vdL B aft fst).take (j + 2)).map fun n => D.i .i64 n).map fun d => Cell.o d (j + 1)) (j + 1 + 1))
               rw [ht, List.map_append]
               refine ShC.grown (by omega) (PuL_iff.2 fun d hd => ?_)
               rcases List.mem_append.1 hd with h | h
               · exact PuL_iff.1 (puL_map_j _) d h
               · rw [List.mem_singleton.1 h]; trivial)
      · repeat' first | ((first | with_reducible apply WB.tt | with_reducible apply WB.ff | refine Rn.seq ?_ | refine Rn.reg ?_ | refine Rn.drw ?_ | refine Rn.blk ?_ | refine Rn.skip ?_ | refine Rn.ret ?_ | refine Rn.exit ?_ | refine Rn.cond rfl ?_ | refine And.intro (InR.i64 (by omega) (by omega)) ?_ | refine And.intro (show _ ≠ (0 : Int) by omega) ?_ | refine WIx.intsN (by omega) ?_ | refine WIx.rowsN (by omega) ?_) <;> conv => whnf)
        refine ⟨_, _, ⟨M, hM, rfl, rfl⟩, ⟨.inr rfl, ⟨_, rfl, ?_⟩, Shr.kp ?_ (mapP_kp M)⟩⟩
        · exact Fz.whole (cs := (((vdL B aft fst).take (j + 1)).map fun n => D.i .i64 n).map fun d => Cell.o d j) (cur := j + 1) (show ¬ 4 < 2 by omega) rfl (by rw [ints_length, vdL_len]; omega) (ints_one' _) (by rw [ints_flatten, List.take_of_length_le (by rw [vdL_len]; omega)]) (pu_ints _)
        · show T.le (T.n .e (some (.map (mapL M))) .e : T Ev.C) _
          refine T.le_some (T.le_e _) rfl (T.le_e _))
  exact ⟨M', hM', Hb⟩
end Go.Ev
