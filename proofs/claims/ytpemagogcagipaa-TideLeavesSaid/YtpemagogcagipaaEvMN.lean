import Derived.Test.YtpemagogcagipaaEvML
import Derived.Test.YtpemagogcagipaaEvMH
set_option linter.all false
namespace Go.Ev
open Go.Proofs
set_option maxRecDepth 100000
end Go.Ev

namespace Go.Ev
open Go.Proofs
set_option maxRecDepth 100000
theorem WSt.slcT {sl : T D} {ob : T C} {nx : Pos} {lg : Option (T Bool)} {K : X → Prop} {d : Pos} {z h : Nat} {x xh : RX} {es : List (List D)} (hx : opd sl x = some (.lst z es)) (hhi : opd sl xh = some (.i .i64 (h : Int))) (h2 : h ≤ es.length) (k : wOut sl ob nx lg d K (.lst z (es.take h))) : WSt (.slc d z x none (some xh) none) ⟨sl, ob, nx, lg⟩ K := by
  obtain ⟨k2, k3⟩ := wOut_ok k
  refine ⟨_, ?_, k3⟩
  show s_slc d z x none (some xh) none sl ob nx lg = _
  unfold s_slc
  rw [hx]
  have hhi' : ((h : Nat) : Int) = Int.ofNat h := rfl
  have b1 : Nat.ble 0 h = true := Nat.ble_eq_true_of_le (Nat.zero_le _)
  have b2 : Nat.ble h es.length = true := Nat.ble_eq_true_of_le h2
  simp only [bnd, hhi, hhi', Nat.beq_refl, cond_true, b1, b2, Bool.and_self, List.drop_zero]
  exact k2
def wrongB (hs : List Rg) (step : Int) (ms : List Mk) (n : Nat) : Bool := !((exS hs step hs.length 0 zeroS).any fun c => fitsR c (ms.take (n + 1)))
def firstR2 (last : Int) (hs : List Rg) (step : Int) (lv : List Int) (ms : List Mk) : Int × Int :=
  if faultR last hs step lv ms = 0 then (match (List.range ms.length).find? (wrongB hs step ms) with | some n => ((n : Int), 0) | none => (0, 7)) else (0, faultR last hs step lv ms)
theorem c_First (last : Int) (hs : List Rg) (step : Int) (lv : List Int) (ms : List Mk) : PureF Try.prog p45.ix [.ag [.i .i64 last, .lst 2 (rows rgD hs), .i .i64 step, .lst 1 (ints lv), .lst 4 (rows mkD ms)]] (.tp [.i .i64 (firstR2 last hs step lv ms).1, .i .i64 (firstR2 last hs step lv ms).2]) := by
  have e3 := rows_length mkD ms
  have iC := c_CheckTable last hs step lv ms
  refine PureF.run fn44 (by simp) (by simp [PuL, PuE, Pu, pu_ints, pu_rg, pu_mk]) ?_; conv => whnf
  by_cases hf : faultR last hs step lv ms = 0
  · obtain ⟨V, hm, _⟩ := fault_zero hf
    have hR : firstR2 last hs step lv ms = (match (List.range ms.length).find? (wrongB hs step ms) with | some n => ((n : Int), 0) | none => (0, 7)) := by unfold firstR2; rw [if_pos hf]
    have iF := fun (j : Nat) => c_fits hs.length hs step lv ms .ns trivial rfl V.h10 V.hv V.s0 V.s99 (ms.take (j + 1)) (fun m hm => V.vt2 m (List.mem_of_mem_take hm)) (by have := V.ms5; rw [List.length_take]; omega)
    rw [hf] at iC
    rw [hR]
    repeat' first | ((with_reducible apply WB.tt); conv => whnf) | ((with_reducible apply WB.ff); conv => whnf) | (refine Rn.seq ?_; conv => whnf) | (refine Rn.reg ?_; conv => whnf) | (refine Rn.drw ?_; conv => whnf) | (refine Rn.blk ?_; conv => whnf) | (refine Rn.skip ?_; conv => whnf) | (refine Rn.ret ?_; conv => whnf) | (refine Rn.exit ?_; conv => whnf) | (refine Rn.cond rfl ?_; conv => whnf) | (refine And.intro (InR.i64 (by omega) (by omega)) ?_; conv => whnf) | (refine And.intro (show _ ≠ (0 : Int) by omega) ?_; conv => whnf) | (refine WIx.intsN (by omega) ?_; conv => whnf) | (refine WIx.rowsN (by omega) ?_; conv => whnf) | (refine WCall.pure (iC) ?_; conv => whnf)
    refine WB.ff ?_; conv => whnf
    repeat' first | ((with_reducible apply WB.tt); conv => whnf) | ((with_reducible apply WB.ff); conv => whnf) | (refine Rn.seq ?_; conv => whnf) | (refine Rn.reg ?_; conv => whnf) | (refine Rn.drw ?_; conv => whnf) | (refine Rn.blk ?_; conv => whnf) | (refine Rn.skip ?_; conv => whnf) | (refine Rn.ret ?_; conv => whnf) | (refine Rn.exit ?_; conv => whnf) | (refine Rn.cond rfl ?_; conv => whnf) | (refine And.intro (InR.i64 (by omega) (by omega)) ?_; conv => whnf) | (refine And.intro (show _ ≠ (0 : Int) by omega) ?_; conv => whnf) | (refine WIx.intsN (by omega) ?_; conv => whnf) | (refine WIx.rowsN (by omega) ?_; conv => whnf)
    refine Rn.loop (fun j : Nat => ⟨(.n (.n .e (some (.pt .h 0 0)) (.n (.n (.n .e (some (.i .i64 (j : Int))) .e) none .e) (some (.pt (.o .h) 0 0)) .e)) none (.n (.n (.n (.n .e (some (.i .i64 (ms.length : Int))) .e) none .e) none .e) none .e)), (.n (.n .e (some (wkC last hs step lv ms .ns)) .e) (some (tabC last hs step lv ms)) .e), .i .h, none⟩) (fun j => j ≤ ms.length ∧ ∀ i, i < j → wrongB hs step ms i = false) (fun j => ms.length - j) 0 ?_ ?_ ?_
    · refine X.le.mk ?_ ?_ (Nat.le_refl _) rfl rfl
      · show T.le ((.n (.n .e (some (.pt .h 0 0)) (.n (.n (.n .e (some (.i .i64 0)) .e) none .e) (some (.pt (.o .h) 0 0)) .e)) none (.n (.n (.n (.n .e (some (.i .i64 (ms.length : Int))) .e) none .e) none .e) none .e)) : T D) _
        rw [← e3]
        (repeat' first | exact T.le_e _ | refine T.le_some ?_ rfl ?_ | refine T.le_none ?_ ?_)
      · show T.le ((.n (.n .e (some (wkC last hs step lv ms .ns)) .e) (some (tabC last hs step lv ms)) .e) : T C) _
        (repeat' first | exact T.le_e _ | refine T.le_some ?_ rfl ?_ | refine T.le_none ?_ ?_ | refine T.le_ee ?_ ?_)
    · exact ⟨Nat.zero_le _, fun i h => by omega⟩
    rintro j ⟨hj, ha⟩
    conv => whnf
    repeat' first | ((with_reducible apply WB.tt); conv => whnf) | ((with_reducible apply WB.ff); conv => whnf) | (refine Rn.seq ?_; conv => whnf) | (refine Rn.reg ?_; conv => whnf) | (refine Rn.drw ?_; conv => whnf) | (refine Rn.blk ?_; conv => whnf) | (refine Rn.skip ?_; conv => whnf) | (refine Rn.ret ?_; conv => whnf) | (refine Rn.exit ?_; conv => whnf) | (refine Rn.cond rfl ?_; conv => whnf) | (refine And.intro (InR.i64 (by omega) (by omega)) ?_; conv => whnf) | (refine And.intro (show _ ≠ (0 : Int) by omega) ?_; conv => whnf) | (refine WIx.intsN (by omega) ?_; conv => whnf) | (refine WIx.rowsN (by omega) ?_; conv => whnf)
    refine WB.dec (fun h => ?_) (fun h => ?_) <;> conv => whnf
    · have hlt : j < ms.length := by omega
      have cF := iF j
      have h5 := V.ms5
      have hw : wrongB hs step ms j = !((exS hs step hs.length 0 zeroS).any fun c => fitsR c (ms.take (j + 1))) := rfl
      rw [row6_eq V.n, show rows mkD (ms.take (j + 1)) = (rows mkD ms).take (j + 1) from List.map_take] at cF
      generalize ((exS hs step hs.length 0 zeroS).any fun c => fitsR c (ms.take (j + 1))) = B at *
      repeat' first | ((with_reducible apply WB.tt); conv => whnf) | ((with_reducible apply WB.ff); conv => whnf) | (refine Rn.seq ?_; conv => whnf) | (refine Rn.reg ?_; conv => whnf) | (refine Rn.drw ?_; conv => whnf) | (refine Rn.blk ?_; conv => whnf) | (refine Rn.skip ?_; conv => whnf) | (refine Rn.ret ?_; conv => whnf) | (refine Rn.exit ?_; conv => whnf) | (refine Rn.cond rfl ?_; conv => whnf) | (refine And.intro (InR.i64 (by omega) (by omega)) ?_; conv => whnf) | (refine And.intro (show _ ≠ (0 : Int) by omega) ?_; conv => whnf) | (refine WIx.intsN (by omega) ?_; conv => whnf) | (refine WIx.rowsN (by omega) ?_; conv => whnf)
      refine WSt.slcT (h := j + 1) (by rfl) (by rfl) (by rw [e3]; omega) ?_; conv => whnf
      repeat' first | ((with_reducible apply WB.tt); conv => whnf) | ((with_reducible apply WB.ff); conv => whnf) | (refine Rn.seq ?_; conv => whnf) | (refine Rn.reg ?_; conv => whnf) | (refine Rn.drw ?_; conv => whnf) | (refine Rn.blk ?_; conv => whnf) | (refine Rn.skip ?_; conv => whnf) | (refine Rn.ret ?_; conv => whnf) | (refine Rn.exit ?_; conv => whnf) | (refine Rn.cond rfl ?_; conv => whnf) | (refine And.intro (InR.i64 (by omega) (by omega)) ?_; conv => whnf) | (refine And.intro (show _ ≠ (0 : Int) by omega) ?_; conv => whnf) | (refine WIx.intsN (by omega) ?_; conv => whnf) | (refine WIx.rowsN (by omega) ?_; conv => whnf) | (refine WCall.pure (cF) ?_; conv => whnf)
      cases B with
      | false =>
        refine WB.tt ?_; conv => whnf
        repeat' first | ((with_reducible apply WB.tt); conv => whnf) | ((with_reducible apply WB.ff); conv => whnf) | (refine Rn.seq ?_; conv => whnf) | (refine Rn.reg ?_; conv => whnf) | (refine Rn.drw ?_; conv => whnf) | (refine Rn.blk ?_; conv => whnf) | (refine Rn.skip ?_; conv => whnf) | (refine Rn.ret ?_; conv => whnf) | (refine Rn.exit ?_; conv => whnf) | (refine Rn.cond rfl ?_; conv => whnf) | (refine And.intro (InR.i64 (by omega) (by omega)) ?_; conv => whnf) | (refine And.intro (show _ ≠ (0 : Int) by omega) ?_; conv => whnf) | (refine WIx.intsN (by omega) ?_; conv => whnf) | (refine WIx.rowsN (by omega) ?_; conv => whnf)
        refine ⟨.inr rfl, _, rfl, ?_⟩
        rw [List.find?_range_eq_some.2 ⟨hw, List.mem_range.2 hlt, fun i hi => by rw [ha i hi]; rfl⟩]
        exact .tp (.cons (.pu trivial) (.cons (.pu trivial) .nil))
      | true =>
        refine WB.ff ?_; conv => whnf
        repeat' first | ((with_reducible apply WB.tt); conv => whnf) | ((with_reducible apply WB.ff); conv => whnf) | (refine Rn.seq ?_; conv => whnf) | (refine Rn.reg ?_; conv => whnf) | (refine Rn.drw ?_; conv => whnf) | (refine Rn.blk ?_; conv => whnf) | (refine Rn.skip ?_; conv => whnf) | (refine Rn.ret ?_; conv => whnf) | (refine Rn.exit ?_; conv => whnf) | (refine Rn.cond rfl ?_; conv => whnf) | (refine And.intro (InR.i64 (by omega) (by omega)) ?_; conv => whnf) | (refine And.intro (show _ ≠ (0 : Int) by omega) ?_; conv => whnf) | (refine WIx.intsN (by omega) ?_; conv => whnf) | (refine WIx.rowsN (by omega) ?_; conv => whnf)
        refine Again.to (j + 1) (by omega) ⟨by omega, fun i hi => ?_⟩ (Nat.le_refl _) ?_
        · by_cases e : i = j
          · subst e; exact hw
          · exact ha i (by omega)
        refine Shr.of ?_ ?_ rfl rfl
        · show Rel _ _ ((.n (.n .e (some (.pt .h 0 0)) (.n (.n (.n .e (some (.i .i64 ((j + 1 : Nat) : Int))) .e) none .e) (some (.pt (.o .h) 0 0)) .e)) none (.n (.n (.n (.n .e (some (.i .i64 (ms.length : Int))) .e) none .e) none .e) none .e)) : T D) _
          (repeat' first | exact Rel.e | refine Rel.some ?_ ?_ ?_ | refine Rel.none ?_ ?_)
          all_goals show Fz _ _ _ _
          all_goals first | exact .pu trivial | exact .kpt (show _ < 3 by simp [Pos.nat])
        · show Rel _ _ ((.n (.n .e (some (wkC last hs step lv ms .ns)) .e) (some (tabC last hs step lv ms)) .e) : T C) _
          (repeat' first | exact Rel.e | refine Rel.some ?_ ?_ ?_ | refine Rel.none ?_ ?_)
          · exact RO'.of (show _ < 3 by simp [Pos.nat]) (wkC_sh last hs step lv ms .ns trivial)
          · exact RO'.of (show _ < 3 by simp [Pos.nat]) (tabC_sh last hs step lv ms)
    · repeat' first | ((with_reducible apply WB.tt); conv => whnf) | ((with_reducible apply WB.ff); conv => whnf) | (refine Rn.seq ?_; conv => whnf) | (refine Rn.reg ?_; conv => whnf) | (refine Rn.drw ?_; conv => whnf) | (refine Rn.blk ?_; conv => whnf) | (refine Rn.skip ?_; conv => whnf) | (refine Rn.ret ?_; conv => whnf) | (refine Rn.exit ?_; conv => whnf) | (refine Rn.cond rfl ?_; conv => whnf) | (refine And.intro (InR.i64 (by omega) (by omega)) ?_; conv => whnf) | (refine And.intro (show _ ≠ (0 : Int) by omega) ?_; conv => whnf) | (refine WIx.intsN (by omega) ?_; conv => whnf) | (refine WIx.rowsN (by omega) ?_; conv => whnf)
      refine ⟨.inr rfl, _, rfl, ?_⟩
      rw [List.find?_range_eq_none.2 fun i hi => by rw [ha i (by omega)]; rfl]
      exact .tp (.cons (.pu trivial) (.cons (.pu trivial) .nil))
  · have hR : firstR2 last hs step lv ms = (0, faultR last hs step lv ms) := by unfold firstR2; rw [if_neg hf]
    rw [hR]
    generalize faultR last hs step lv ms = e at *
    repeat' first | ((with_reducible apply WB.tt); conv => whnf) | ((with_reducible apply WB.ff); conv => whnf) | (refine Rn.seq ?_; conv => whnf) | (refine Rn.reg ?_; conv => whnf) | (refine Rn.drw ?_; conv => whnf) | (refine Rn.blk ?_; conv => whnf) | (refine Rn.skip ?_; conv => whnf) | (refine Rn.ret ?_; conv => whnf) | (refine Rn.exit ?_; conv => whnf) | (refine Rn.cond rfl ?_; conv => whnf) | (refine And.intro (InR.i64 (by omega) (by omega)) ?_; conv => whnf) | (refine And.intro (show _ ≠ (0 : Int) by omega) ?_; conv => whnf) | (refine WIx.intsN (by omega) ?_; conv => whnf) | (refine WIx.rowsN (by omega) ?_; conv => whnf) | (refine WCall.pure (iC) ?_; conv => whnf)
    refine WB.mk (fun h => ?_) (fun h => ?_) <;> conv => whnf
    · repeat' first | ((with_reducible apply WB.tt); conv => whnf) | ((with_reducible apply WB.ff); conv => whnf) | (refine Rn.seq ?_; conv => whnf) | (refine Rn.reg ?_; conv => whnf) | (refine Rn.drw ?_; conv => whnf) | (refine Rn.blk ?_; conv => whnf) | (refine Rn.skip ?_; conv => whnf) | (refine Rn.ret ?_; conv => whnf) | (refine Rn.exit ?_; conv => whnf) | (refine Rn.cond rfl ?_; conv => whnf) | (refine And.intro (InR.i64 (by omega) (by omega)) ?_; conv => whnf) | (refine And.intro (show _ ≠ (0 : Int) by omega) ?_; conv => whnf) | (refine WIx.intsN (by omega) ?_; conv => whnf) | (refine WIx.rowsN (by omega) ?_; conv => whnf)
      refine ⟨.inr rfl, _, rfl, ?_⟩
      exact .tp (.cons (.pu trivial) (.cons (.pu trivial) .nil))
    · exact absurd (by simpa using h) hf
end Go.Ev

namespace Go.Ev
open Go.Proofs
set_option maxRecDepth 100000
theorem WSt.shrN {sl : T D} {ob : T C} {nx : Pos} {lg : Option (T Bool)} {K : X → Prop} {d : Pos} {a j : Nat} {x y : RX} (hx : opd sl x = some (.i .i64 (a : Int))) (hy : opd sl y = some (.i .u64 (j : Int))) (ha : a ≤ 1000) (hj : j ≤ 63) (k : wOut sl ob nx lg d K (.i .i64 ((a / 2 ^ j : Nat) : Int))) : WSt (.bin d .shr x y) ⟨sl, ob, nx, lg⟩ K := by
  obtain ⟨k2, k3⟩ := wOut_ok k
  refine ⟨_, ?_, k3⟩
  show s_bin d .shr x y sl ob nx lg = _
  unfold s_bin
  rw [hx, hy]
  have hm : minN j 64 = j := by
    unfold minN
    rw [Nat.ble_eq_true_of_le (show j ≤ 64 by omega)]
    rfl
  have hs : ishr ((a : Nat) : Int) j = ((a / 2 ^ j : Nat) : Int) := rfl
  have hb : Nat.ble (a / 2 ^ j) 9223372036854775807 = true := Nat.ble_eq_true_of_le (Nat.le_trans (Nat.div_le_self _ _) (by omega))
  show intK .i64 (ishr ((a : Nat) : Int) (minN j 64)) _ = _
  rw [hm, hs]
  rw [intK_eq]
  exact k2
end Go.Ev

namespace Go.Ev
open Go.Proofs
set_option maxRecDepth 100000
theorem WSt.shlN {sl : T D} {ob : T C} {nx : Pos} {lg : Option (T Bool)} {K : X → Prop} {d : Pos} {a j : Nat} {x y : RX} (hx : opd sl x = some (.i .i64 (a : Int))) (hy : opd sl y = some (.i .u64 (j : Int))) (ha : a * 2 ^ j ≤ 1000) (hj : j ≤ 63) (k : wOut sl ob nx lg d K (.i .i64 ((a * 2 ^ j : Nat) : Int))) : WSt (.bin d .shl x y) ⟨sl, ob, nx, lg⟩ K := by
  obtain ⟨k2, k3⟩ := wOut_ok k
  refine ⟨_, ?_, k3⟩
  show s_bin d .shl x y sl ob nx lg = _
  unfold s_bin
  rw [hx, hy]
  have hm : minN j 64 = j := by
    unfold minN
    rw [Nat.ble_eq_true_of_le (show j ≤ 64 by omega)]
    rfl
  have hs : ishl ((a : Nat) : Int) j = ((a * 2 ^ j : Nat) : Int) := rfl
  show wrapK .i64 (ishl ((a : Nat) : Int) (minN j 64)) _ = _
  rw [hm, hs, wrapK_eq]
  have hw : IntKind.i64.wrap ((a * 2 ^ j : Nat) : Int) = ((a * 2 ^ j : Nat) : Int) := InR.i64 (by omega) (by omega)
  rw [hw]
  exact k2
end Go.Ev

namespace Go.Ev
open Go.Proofs
set_option maxRecDepth 100000
theorem ibit_nat (slow : IntKind → Int → Int → Int) (fast : IntKind → Nat → Nat → Nat) (k : IntKind) (m n : Nat) (h1 : Nat.ble m (ubits k) = true) (h2 : Nat.ble n (ubits k) = true) : ibit slow fast k (.ofNat m) (.ofNat n) = .ofNat (fast k m n) := by
  show (bif Nat.ble m (ubits k) && Nat.ble n (ubits k) then Int.ofNat (fast k m n) else slow k (.ofNat m) (.ofNat n)) = _
  rw [h1, h2]
  rfl
theorem binK_or (a b : Int) (f : D → Option X) : binK .or (.i .i64 a) (.i .i64 b) f = wrapK .i64 (ior .i64 a b) f := rfl
theorem bits_or {m j q : Nat} : (m ||| 1 * 2 ^ j).testBit q = (m.testBit q || decide (j = q)) := by
  rw [Nat.testBit_or, Nat.one_mul, Nat.testBit_two_pow]
end Go.Ev
