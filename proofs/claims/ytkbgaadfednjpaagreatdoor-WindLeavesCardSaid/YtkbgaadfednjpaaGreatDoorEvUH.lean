import Derived.Test.YtkbgaadfednjpaaGreatDoorEvUD
set_option linter.all false
set_option maxHeartbeats 8000000
noncomputable section
namespace Go.Ev
open Go.RowKit (Below)
section
variable {P : Program} {V : Sel} {γ : Gh} {a : Act} {w : World} {sl : T D} {ob : T C} {nx : Pos} {lg : Option (T Bool)} {nt : Nat} {o : Oper}
theorem jN {id : Pos} {off st : Nat} {v : Value} (h : DV γ w (.pt id off st) v) : st < γ.cur id /\ (γ.β id st).2 <= off /\ v = .pointer (some ⟨(γ.β id st).1, off - (γ.β id st).2, none⟩) := by unfold DV at h; exact h
theorem gT {id : Pos} {off len st z : Nat} {v : Value} (h : DV γ w (.sl id off len st z) v) : st < γ.cur id /\ (γ.β id st).2 <= off /\ ∃ cap e n, v = .slice (some ⟨(γ.β id st).1, off - (γ.β id st).2, none⟩) len cap /\ len <= cap /\ w.shape? (γ.β id st).1 = some (e, n) /\ off - (γ.β id st).2 + cap * z <= n := by unfold DV at h; exact h
theorem nT {z : Nat} {es : List (List D)} {v : Value} (h : DV γ w (.lst z es) v) : ∃ p cap, v = .slice p es.length cap /\ es.length <= cap /\ (p = none -> cap = 0) /\ (es = [] \/ ∃ b o vs e fr, γ.im b /\ w.heap[b]? = some (.cells vs e fr) /\ p = some ⟨b, o, none⟩ /\ o + es.length * z <= vs.size /\ DVE γ w z es (vs.toList.drop o) /\ ∀ u ∈ (vs.toList.drop o).take (es.length * z), u.oneCell' = true) := by unfold DV at h; exact h
theorem oS {r : List D} {k : Nat} {v : Value} (h : DV γ w (.pl r k) v) : ∃ b o vs e fr, γ.im b /\ w.heap[b]? = some (.cells vs e fr) /\ v = .pointer (some ⟨b, o + k, none⟩) /\ o + r.length <= vs.size /\ DVL γ w r ((vs.toList.drop o).take r.length) /\ ∀ u ∈ (vs.toList.drop o).take r.length, u.oneCell' = true := by unfold DV at h; exact h
theorem DW {z : Nat} : ∀ {es : List (List D)} {vs : List Value}, DVE γ w z es vs -> ∀ {m : Nat} {r : List D}, es[m]? = some r -> r.length = z /\ DVL γ w r ((vs.drop (m * z)).take z)
 | [], _, _, m, r, h => by simp at h
 | x :: es, vs, H, 0, r, h => by
   unfold DVE at H
   simp at h
   subst h
   simpa using ⟨H.1, H.2.1⟩
 | x :: es, vs, H, m + 1, r, h => by
   unfold DVE at H
   have := DW H.2.2 (m := m) (r := r) (by simpa using h)
   rw [List.drop_drop] at this
   rw [Nat.add_mul, Nat.one_mul, Nat.add_comm]
   exact this
theorem xK {z : Nat} : ∀ {es : List (List D)} {vs : List Value}, DVE γ w z es vs -> DVL γ w es.flatten (vs.take (es.length * z))
 | [], _, _ => by simp; exact DVL.nil
 | x :: es, vs, H => by
   unfold DVE at H
   have := xK H.2.2
   have e : vs.take ((x :: es).length * z) = vs.take z ++ (vs.drop z).take (es.length * z) := by
    simp only [List.length_cons]
    rw [Nat.add_mul, Nat.one_mul, Nat.add_comm, List.take_add]
   rw [e]
   exact H.2.1.append this
theorem vZ {z : Nat} : ∀ {n : Nat} {es : List (List D)} {vs : List Value}, DVE γ w z es vs -> DVE γ w z (es.drop n) (vs.drop (n * z))
 | 0, es, vs, H => by simpa using H
 | n + 1, [], vs, H => by simp; unfold DVE; trivial
 | n + 1, x :: es, vs, H => by
   unfold DVE at H
   have := vZ (n := n) H.2.2
   rw [List.drop_drop] at this
   rw [Nat.add_mul, Nat.one_mul, Nat.add_comm (n * z)]
   exact this
theorem xD {z : Nat} : ∀ {n : Nat} {es : List (List D)} {vs : List Value}, DVE γ w z es vs -> DVE γ w z (es.take n) vs
 | 0, es, vs, H => by simp; unfold DVE; trivial
 | n + 1, [], vs, H => by simp; unfold DVE; trivial
 | n + 1, x :: es, vs, H => by
   unfold DVE at H
   simp only [List.take_succ_cons]
   unfold DVE
   exact ⟨H.1, H.2.1, xD H.2.2⟩
theorem qN {z : Nat} : ∀ {n : Nat} {l : List D} {vs : List Value}, n * z <= l.length -> DVL γ w l (vs.take l.length) -> DVE γ w z (lL z n l) vs
 | 0, l, vs, _, _ => by unfold lL DVE; trivial
 | n + 1, l, vs, hn, H => by
   unfold lL DVE
   rw [Nat.add_mul, Nat.one_mul] at hn
   have h1 := H.take z
   rw [List.take_take, Nat.min_eq_left (by omega)] at h1
   have h2 := H.drop z
   rw [List.drop_take] at h2
   refine ⟨by simp; omega, h1, qN (by simp; omega) ?_⟩
   simpa using h2
theorem dI {z : Nat} : ∀ {n : Nat} {l : List D}, (lL z n l).length = n
 | 0, _ => rfl
 | n + 1, l => by simp [lL, dI]
theorem nC {cs : List D} {v : Value} (h : DV γ w (.ag cs) v) : ∃ vs : Array Value, v = .agg vs /\ DVL γ w cs vs.toList /\ ∀ u ∈ vs.toList, u.oneCell' = true := by unfold DV at h; exact h
theorem tC {cs : List D} {v : Value} (h : DV γ w (.tp cs) v) : ∃ vs : Array Value, v = .tuple vs /\ DVL γ w cs vs.toList := by unfold DV at h; exact h
theorem qV {f : Pos} {x y : List D} {v : Value} (h : DV γ w (.fn f x y) v) : ∃ vx vy : Array Value, v = .func (.func f.ix) vx vy /\ DVL γ w x vx.toList /\ DVL γ w y vy.toList := by unfold DV at h; exact h
theorem mQ {t : TypeId} {n : Nat} (h1 : dS P t = some true) (h2 : cT P t = some n) (cs : Array Value) (off : Nat) (w : World) : (part t cs off).run P w = .ok (.agg (cs.extract off (off + n))) w := by
 simp [part, kC h1, aP h2]
theorem lT {t : TypeId} (h1 : dS P t = some false) {cs : Array Value} {off : Nat} {v : Value} (hv : cs[off]? = some v) (w : World) : (part t cs off).run P w = .ok v w := by
 simp [part, kC h1, hv]
theorem DA {f : FuncId} {first caps : Array Operand} {d pf : Pos} {r1 r2 : List RX} {Z : X} (ho : o.op = .makeFunc (.func f) first caps) (hd : o.dst = some d.ix) (hlt : d.ix < nt) (hf : oN f = some pf) (hx : BP first.toList = some r1) (hy : BP caps.toList = some r2) (h : An d pf r1 r2 sl ob nx lg = some Z) :
 OpOk P nt o (RX.sss r1 ++ RX.sss r2) ⟨sl, ob, nx, lg⟩ Z := by
 unfold An at h
 split at h
 ·rename_i p q hp hq
  rw [aE h]
  refine OpOk.pure hd hlt (LgLe.refl _) fun V hs _ γ a w R => ⟨.func (.func f) (first.map a.eval) (caps.map a.eval), ?_, ?_⟩
  ·simp [execOp, ho, Instr.makeFunc]
  ·unfold DV
   refine ⟨_, _, by rw [cQ hf], ?_, ?_⟩
   ·rw [Array.toList_map]; exact fK hx hp R fun s h => hs s (by simp [h])
   ·rw [Array.toList_map]; exact fK hy hq R fun s h => hs s (by simp [h])
 ·cases h
theorem CU {x : Operand} {n : Nat} {d : Pos} {r : RX} {Z : X} (ho : o.op = .extract x n) (hd : o.dst = some d.ix) (hlt : d.ix < nt) (hx : rx x = some r) (h : Ab d r n sl ob nx lg = some Z) : OpOk P nt o r.ss ⟨sl, ob, nx, lg⟩ Z := by
 unfold Ab at h
 split at h
 ·rename_i vs hv
  split at h
  ·rename_i v hn
   rw [aE h]
   rw [dJ] at hn
   refine OpOk.pure hd hlt (LgLe.refl _) fun V hs _ γ a w R => ?_
   obtain ⟨us, e1, e2⟩ := tC (aB hx hv R hs)
   obtain ⟨e3, e4⟩ := aK.1 e2
   have hlt : n < us.size := by have := (List.getElem?_eq_some_iff.1 hn).1; simp at e3; omega
   refine ⟨us[n], ?_, e4 n v _ hn (by simp [hlt])⟩
   simp [execOp, ho, e1, Instr.extract, hlt]
  ·cases h
 ·cases h
theorem CJ {t ft : TypeId} {x : Operand} {f k n : Nat} {row : Bool} {d : Pos} {r : RX} {Z : X} (ho : o.op = .field t x f) (hd : o.dst = some d.ix) (hlt : d.ix < nt) (hx : rx x = some r) (hf : iH P t f = some (k, ft)) (hr : dS P ft = some row) (hn : cT P ft = some n)
 (h : zR d r k n row sl ob nx lg = some Z) : OpOk P nt o r.ss ⟨sl, ob, nx, lg⟩ Z := by
 have hrun : ∀ (cs : Array Value) (w : World), (Instr.field t (.agg cs) f).run P w = (part ft cs k).run P w := by
  intro cs w
  unfold iH at hf
  split at hf
  ·rename_i fs hu
   split at hf
   ·rename_i fd hfd
    cases hf
    simp [Instr.field, run_underlying hu, hfd, asAgg]
   ·cases hf
  ·cases hf
 unfold zR at h
 split at h
 ·rename_i cs hv
  cases row with
  | true =>
    simp only [cond_true] at h
    obtain ⟨h1, h2⟩ := mK h
    rw [bK] at h1 h2
    rw [aE h2]
    refine OpOk.pure hd hlt (LgLe.refl _) fun V hs _ γ a w R => ?_
    obtain ⟨us, e1, e2, e3⟩ := nC (aB hx hv R hs)
    refine ⟨.agg (us.extract k (k + n)), ?_, ?_⟩
    ·simp [execOp, ho, e1, hrun, mQ hr hn]
    ·unfold DV
     refine ⟨_, rfl, ?_, fun u hu => e3 u ?_⟩
     ·rw [Array.toList_extract]
      have : us.toList.extract k (k + n) = (us.toList.drop k).take n := by simp [List.extract]
      rw [this]
      exact (e2.drop k).take n
     ·rw [Array.toList_extract] at hu
      exact List.mem_of_mem_drop (List.mem_of_mem_take (by simpa [List.extract] using hu))
  | false =>
    simp only [cond_false] at h
    split at h
    ·rename_i v hk
     rw [dJ] at hk
     rw [aE h]
     refine OpOk.pure hd hlt (LgLe.refl _) fun V hs _ γ a w R => ?_
     obtain ⟨us, e1, e2, e3⟩ := nC (aB hx hv R hs)
     obtain ⟨e4, e5⟩ := aK.1 e2
     have hlt : k < us.size := by have := (List.getElem?_eq_some_iff.1 hk).1; simp at e4; omega
     refine ⟨us[k], ?_, e5 k v _ hk (by simp [hlt])⟩
     simp [execOp, ho, e1, hrun, lT hr (show us[k]? = some us[k] by simp [hlt])]
    ·cases h
 ·cases h
theorem Ap {x : Operand} {d : Pos} {r : RX} {Z : X} (ho : o.op = .nilCheck x) (hd : o.dst = some d.ix) (hlt : d.ix < nt) (hx : rx x = some r) (h : tT d r sl ob nx lg = some Z) : OpOk P nt o r.ss ⟨sl, ob, nx, lg⟩ Z := by
 unfold tT at h
 split at h <;> first | (cases h; done) | skip
 ·rename_i id off st hv
  rw [aE h]
  refine OpOk.pure hd hlt (LgLe.refl _) fun V hs _ γ a w R => ⟨a.eval x, ?_, aB hx hv R hs⟩
  obtain ⟨_, _, e⟩ := jN (aB hx hv R hs)
  simp [execOp, ho, e]
 ·rename_i f p q hv
  rw [aE h]
  refine OpOk.pure hd hlt (LgLe.refl _) fun V hs _ γ a w R => ⟨a.eval x, ?_, aB hx hv R hs⟩
  obtain ⟨_, _, e, _⟩ := qV (aB hx hv R hs)
  simp [execOp, ho, e]
 ·rename_i id hv
  rw [aE h]
  refine OpOk.pure hd hlt (LgLe.refl _) fun V hs _ γ a w R => ⟨a.eval x, ?_, aB hx hv R hs⟩
  have := aB hx hv R hs
  unfold DV at this
  simp [execOp, ho, this.2]
 ·rename_i r' k hv
  rw [aE h]
  refine OpOk.pure hd hlt (LgLe.refl _) fun V hs _ γ a w R => ⟨a.eval x, ?_, aB hx hv R hs⟩
  obtain ⟨_, _, _, _, _, _, _, e, _⟩ := oS (aB hx hv R hs)
  simp [execOp, ho, e]
theorem ET {t ft : TypeId} {x : Operand} {f k n : Nat} {d : Pos} {r : RX} {Z : X} (ho : o.op = .fieldAddr t x f) (hd : o.dst = some d.ix) (hlt : d.ix < nt) (hx : rx x = some r) (hf : iH P t f = some (k, ft)) (hn : cT P ft = some (n + 1))
 (h : sN d r k sl ob nx lg = some Z) : OpOk P nt o r.ss ⟨sl, ob, nx, lg⟩ Z := by
 unfold sN at h
 split at h
 ·rename_i id off st hv
  rw [bB] at h
  rw [aE h]
  refine OpOk.pure hd hlt (LgLe.refl _) fun V hs _ γ a w R => ?_
  obtain ⟨e1, e2, e3⟩ := jN (aB hx hv R hs)
  refine ⟨.pointer (some ⟨(γ.β id st).1, off - (γ.β id st).2 + k, none⟩), ?_, ?_⟩
  ·unfold iH at hf
   split at hf
   ·rename_i fs hu
    split at hf
    ·rename_i fd hfd
     cases hf
     simp [execOp, ho, e3, Instr.fieldAt, run_underlying hu, hfd, Instr.sureAddr, fieldPlace, aP hn, Addr.add_mid]
    ·cases hf
   ·cases hf
  ·unfold DV
   have hadd : Nat.add off k = off + k := rfl
   refine ⟨e1, by rw [hadd]; omega, ?_⟩
   rw [hadd, show off + k - (γ.β id st).2 = off - (γ.β id st).2 + k by omega]
 ·rename_i r' off hv
  rw [bB] at h
  rw [aE h]
  refine OpOk.pure hd hlt (LgLe.refl _) fun V hs _ γ a w R => ?_
  obtain ⟨b, q, vs, e, fr, k1, k2, e3, k4⟩ := oS (aB hx hv R hs)
  refine ⟨.pointer (some ⟨b, q + off + k, none⟩), ?_, ?_⟩
  ·unfold iH at hf
   split at hf
   ·rename_i fs hu
    split at hf
    ·rename_i fd hfd
     cases hf
     simp [execOp, ho, e3, Instr.fieldAt, run_underlying hu, hfd, Instr.sureAddr, fieldPlace, aP hn, Addr.add_mid]
    ·cases hf
   ·cases hf
  ·unfold DV
   exact ⟨b, q, vs, e, fr, k1, k2, by rw [Nat.add_assoc]; rfl, k4⟩
 ·cases h
theorem rC {n : Int} {len m : Nat} (h : EZ n len = some m) : n = (m : Int) /\ m < len := by
 unfold EZ at h
 split at h
 ·rename_i k
  cases hb : Nat.blt k len with
  | true => rw [hb] at h; cases h; exact ⟨rfl, Nat.le_of_ble_eq_true hb⟩
  | false => rw [hb] at h; cases h
 ·cases h
theorem Dy {t el : TypeId} {x i : Operand} {z : Nat} {d : Pos} {r1 r2 : RX} {Z : X} (ho : o.op = .indexAddr t x i) (hd : o.dst = some d.ix) (hlt : d.ix < nt) (hx : rx x = some r1) (hi : rx i = some r2) (hu : P.underlying t = some (.slice el)) (hz : cT P el = some z)
 (h : tF d z r1 r2 sl ob nx lg = some Z) : OpOk P nt o (r1.ss ++ r2.ss) ⟨sl, ob, nx, lg⟩ Z := by
 unfold tF at h
 split at h
 ·rename_i id off len st z' k n hv hk
  cases hb : Nat.beq z z' with
  | false => rw [hb] at h; cases h
  | true =>
    rw [hb] at h
    simp only [cond_true] at h
    split at h
    ·rename_i m hm
     obtain ⟨rfl, hm⟩ := rC hm
     rw [bB] at h
     rw [aE h]
     refine OpOk.pure hd hlt (LgLe.refl _) fun V hs _ γ a w R => ?_
     obtain ⟨e1, e2, cap, e, n, e3, e4, e5, e6⟩ := gT (aB hx hv R fun s h => hs s (by simp [h]))
     have e7 := fT (aB hi hk R fun s h => hs s (by simp [h]))
     refine ⟨.pointer (some ⟨(γ.β id st).1, off - (γ.β id st).2 + m * z, none⟩), ?_, ?_⟩
     ·have h1 : ¬ len <= m := by omega
      simp [execOp, ho, e3, e7, Instr.indexAt, asIntOf, run_underlying hu, aP hz, Addr.add_mid, h1]
     ·unfold DV
      have hadd : Nat.add off (Nat.mul m z) = off + m * z := rfl
      refine ⟨e1, by rw [hadd]; omega, ?_⟩
      rw [hadd, show off + m * z - (γ.β id st).2 = off - (γ.β id st).2 + m * z by omega]
    ·cases h
 ·rename_i z' es k n hv hk
  cases hb : Nat.beq z z' with
  | false => rw [hb] at h; cases h
  | true =>
    rw [hb] at h
    simp only [cond_true] at h
    obtain rfl := Nat.eq_of_beq_eq_true hb
    split at h
    ·rename_i m hm0
     obtain ⟨rfl, hm⟩ := rC hm0
     split at h
     ·rename_i r hr
      rw [dJ] at hr
      rw [aE h]
      refine OpOk.pure hd hlt (LgLe.refl _) fun V hs _ γ a w R => ?_
      obtain ⟨p, cap, e3, e4, _, e5⟩ := nT (aB hx hv R fun s h => hs s (by simp [h]))
      have e7 := fT (aB hi hk R fun s h => hs s (by simp [h]))
      rcases e5 with rfl | ⟨b, q, vs, e, fr, k1, k2, rfl, k4, k5, k6⟩
      ·cases hr
      refine ⟨.pointer (some ⟨b, q + m * z, none⟩), ?_, ?_⟩
      ·have h1 : ¬ es.length <= m := by omega
       simp [execOp, ho, e3, e7, Instr.indexAt, asIntOf, run_underlying hu, aP hz, Addr.add_mid, h1]
      ·unfold DV
       obtain ⟨l1, l2⟩ := DW k5 hr
       have hle : m * z + z <= es.length * z := by rw [<- Nat.succ_mul]; exact Nat.mul_le_mul_right z hm
       refine ⟨b, q + m * z, vs, e, fr, k1, k2, rfl, by rw [l1]; omega, ?_, ?_⟩
       ·rw [l1, <- List.drop_drop]; exact l2
       ·rw [l1, <- List.drop_drop]
        intro u hu
        refine k6 u ?_
        have : ((vs.toList.drop q).drop (m * z)).take z = ((vs.toList.drop q).take (m * z + z)).drop (m * z) := by rw [List.drop_take]; simp
        rw [this] at hu
        have h2 := List.mem_of_mem_drop hu
        have h3 : (vs.toList.drop q).take (m * z + z) = ((vs.toList.drop q).take (es.length * z)).take (m * z + z) := by rw [List.take_take, Nat.min_eq_left hle]
        rw [h3] at h2
        exact List.mem_of_mem_take h2
     ·cases h
    ·cases h
 ·cases h
theorem Cj {t el : TypeId} {x i : Operand} {len z : Nat} {row : Bool} {d : Pos} {r1 r2 : RX} {Z : X} (ho : o.op = .index t x i) (hd : o.dst = some d.ix) (hlt : d.ix < nt) (hx : rx x = some r1) (hi : rx i = some r2) (hu : P.underlying t = some (.array len el)) (hr : dS P el = some row) (hz : cT P el = some z)
 (h : Az d len z row r1 r2 sl ob nx lg = some Z) : OpOk P nt o (r1.ss ++ r2.ss) ⟨sl, ob, nx, lg⟩ Z := by
 unfold Az at h
 split at h
 ·rename_i cs k n hv hk
  split at h
  ·rename_i m hm0
   obtain ⟨rfl, hm⟩ := rC hm0
   have hrun : ∀ (us : Array Value) (w : World), (Instr.index t (.agg us) (.int k (m : Int))).run P w = (part el us (m * z)).run P w := by
    intro us w
    have h1 : ¬ len <= m := by omega
    simp [Instr.index, asIntOf, run_underlying hu, aP hz]
    intro h; exact absurd h h1
   cases row with
   | true =>
     simp only [cond_true] at h
     obtain ⟨h1, h2⟩ := mK h
     rw [bK] at h1 h2
     rw [aE h2]
     refine OpOk.pure hd hlt (LgLe.refl _) fun V hs _ γ a w R => ?_
     obtain ⟨us, e1, e2, e3⟩ := nC (aB hx hv R fun s h => hs s (by simp [h]))
     have e7 := fT (aB hi hk R fun s h => hs s (by simp [h]))
     refine ⟨.agg (us.extract (m * z) (m * z + z)), ?_, ?_⟩
     ·simp [execOp, ho, e1, e7, hrun, mQ hr hz]
     ·unfold DV
      refine ⟨_, rfl, ?_, fun u hu => e3 u ?_⟩
      ·rw [Array.toList_extract]
       have : us.toList.extract (m * z) (m * z + z) = (us.toList.drop (m * z)).take z := by simp [List.extract]
       rw [this]
       exact (e2.drop (m * z)).take z
      ·rw [Array.toList_extract] at hu
       exact List.mem_of_mem_drop (List.mem_of_mem_take (by simpa [List.extract] using hu))
   | false =>
     simp only [cond_false] at h
     split at h
     ·rename_i v hk2
      rw [dJ] at hk2
      rw [aE h]
      refine OpOk.pure hd hlt (LgLe.refl _) fun V hs _ γ a w R => ?_
      obtain ⟨us, e1, e2, e3⟩ := nC (aB hx hv R fun s h => hs s (by simp [h]))
      have e7 := fT (aB hi hk R fun s h => hs s (by simp [h]))
      obtain ⟨e4, e5⟩ := aK.1 e2
      have hk2 : cs[m * z]? = some v := hk2
      have hlt2 : m * z < us.size := by have := (List.getElem?_eq_some_iff.1 hk2).1; simp at e4; omega
      refine ⟨us[m * z], ?_, e5 (m * z) v _ hk2 (by simp [hlt2])⟩
      simp [execOp, ho, e1, e7, hrun, lT hr (show us[m * z]? = some us[m * z] by simp [hlt2])]
     ·cases h
  ·cases h
 ·cases h
theorem Dz {t : TypeId} {x i : Operand} {d : Pos} {r1 r2 : RX} {Z : X} (ho : o.op = .index t x i) (hd : o.dst = some d.ix) (hlt : d.ix < nt) (hx : rx x = some r1) (hi : rx i = some r2) (hu : P.underlying t = some .string)
 (h : Af d r1 r2 sl ob nx lg = some Z) : OpOk P nt o (r1.ss ++ r2.ss) ⟨sl, ob, nx, lg⟩ Z := by
 unfold Af at h
 split at h
 ·rename_i b k n hv hk
  split at h
  ·rename_i m
   split at h
   ·rename_i v hb
    rw [dJ] at hb
    rw [bB] at h
    rw [aE h]
    refine OpOk.pure hd hlt (LgLe.refl _) fun V hs _ γ a w R => ?_
    have e1 := aB hx hv R fun s h => hs s (by simp [h])
    unfold DV at e1
    have e7 := fT (aB hi hk R fun s h => hs s (by simp [h]))
    refine ⟨.int .u8 (v.toNat : Int), ?_, DV_of_i _ _⟩
    have hlt3 : m < b.data.size := by have := (List.getElem?_eq_some_iff.1 hb).1; simpa using this
    have hlt2 : m < b.size := hlt3
    have hget : b[m]? = some v := by
     rw [getElem?_pos b m hlt2]
     congr 1
     have : b.data[m]'hlt3 = v := by
      have := (List.getElem?_eq_some_iff.1 hb).2
      simpa using this
     exact this
    have e8 : a.eval i = .int k (m : Int) := e7
    simp [execOp, ho, e1, e8, Instr.index, asIntOf, run_underlying hu, hget]
   ·cases h
  ·cases h
 ·cases h
theorem CY {t el : TypeId} {x i : Operand} {len z : Nat} {d : Pos} {r1 r2 : RX} {Z : X} (ho : o.op = .indexAddr t x i) (hd : o.dst = some d.ix) (hlt : d.ix < nt) (hx : rx x = some r1) (hi : rx i = some r2) (hu : P.underlying t = some (.array len el)) (hz : cT P el = some z)
 (h : sX d len z r1 r2 sl ob nx lg = some Z) : OpOk P nt o (r1.ss ++ r2.ss) ⟨sl, ob, nx, lg⟩ Z := by
 unfold sX at h
 split at h
 ·rename_i id off st k n hv hk
  split at h
  ·rename_i m hm
   obtain ⟨rfl, hm⟩ := rC hm
   rw [bB] at h
   rw [aE h]
   refine OpOk.pure hd hlt (LgLe.refl _) fun V hs _ γ a w R => ?_
   obtain ⟨e1, e2, e3⟩ := jN (aB hx hv R fun s h => hs s (by simp [h]))
   have e7 := fT (aB hi hk R fun s h => hs s (by simp [h]))
   refine ⟨.pointer (some ⟨(γ.β id st).1, off - (γ.β id st).2 + m * z, none⟩), ?_, ?_⟩
   ·have h1 : ¬ len <= m := by omega
    simp [execOp, ho, e3, e7, Instr.indexAt, asIntOf, run_underlying hu, Instr.sureAddr, aP hz, Addr.add_mid, h1]
   ·unfold DV
    have hadd : Nat.add off (Nat.mul m z) = off + m * z := rfl
    refine ⟨e1, by rw [hadd]; omega, ?_⟩
    rw [hadd, show off + m * z - (γ.β id st).2 = off - (γ.β id st).2 + m * z by omega]
  ·cases h
 ·rename_i r off k n hv hk
  split at h
  ·rename_i m hm
   obtain ⟨rfl, hm⟩ := rC hm
   rw [bB] at h
   rw [aE h]
   refine OpOk.pure hd hlt (LgLe.refl _) fun V hs _ γ a w R => ?_
   obtain ⟨b, q, vs, e, fr, k1, k2, e3, k4⟩ := oS (aB hx hv R fun s h => hs s (by simp [h]))
   have e7 := fT (aB hi hk R fun s h => hs s (by simp [h]))
   refine ⟨.pointer (some ⟨b, q + off + m * z, none⟩), ?_, ?_⟩
   ·have h1 : ¬ len <= m := by omega
    simp [execOp, ho, e3, e7, Instr.indexAt, asIntOf, run_underlying hu, Instr.sureAddr, aP hz, Addr.add_mid, h1]
   ·unfold DV
    exact ⟨b, q, vs, e, fr, k1, k2, by rw [Nat.add_assoc]; rfl, k4⟩
  ·cases h
 ·cases h
theorem DS {args : Array Operand} {tys : Array TypeId} {t el : TypeId} {x : Operand} {d : Pos} {r : RX} {Z : X} (ho : o.op = .call { callee := .builtin .len, args := args, argTypes := tys }) (ha : args.toList = [x]) (ht : tys.toList = [t]) (hd : o.dst = some d.ix) (hlt : d.ix < nt) (hx : rx x = some r) (hu : P.underlying t = some (.slice el))
 (h : tE d r sl ob nx lg = some Z) : OpOk P nt o r.ss ⟨sl, ob, nx, lg⟩ Z := by
 have hargs : args = #[x] := by rw [<- Array.toArray_toList (xs := args), ha]
 have htys : tys = #[t] := by rw [<- Array.toArray_toList (xs := tys), ht]
 subst hargs
 subst htys
 have key : ∀ (a : Act) (w : World) (ad : Option Addr) (n c : Nat), a.eval x = .slice ad n c -> (execOp a.eval o).run P w = .ok (.value (.int .i64 (n : Int))) w := by
  intro a w ad n c e
  simp [execOp, ho, resolve, invoke, builtin, e, Builtin.len_, goInt, run_underlying hu]
 unfold tE at h
 split at h <;> first | (cases h; done) | skip
 ·rename_i hv
  rw [aE h]
  refine OpOk.pure hd hlt (LgLe.refl _) fun V hs _ γ a w R => ⟨_, key a w none 0 0 ?_, DV_of_i _ _⟩
  have := aB hx hv R hs
  unfold DV at this; exact this
 ·rename_i hv
  rw [aE h]
  refine OpOk.pure hd hlt (LgLe.refl _) fun V hs _ γ a w R => ?_
  have := aB hx hv R hs
  unfold DV at this
  obtain ⟨ad, e⟩ := this
  exact ⟨_, key a w _ 0 0 e, DV_of_i _ _⟩
 ·rename_i id off n st z hv
  rw [aE h]
  refine OpOk.pure hd hlt (LgLe.refl _) fun V hs _ γ a w R => ?_
  obtain ⟨_, _, cap, _, _, e, _⟩ := gT (aB hx hv R hs)
  exact ⟨_, key a w _ _ _ e, DV_of_i _ _⟩
 ·rename_i z es hv
  rw [bB] at h
  rw [aE h]
  refine OpOk.pure hd hlt (LgLe.refl _) fun V hs _ γ a w R => ?_
  obtain ⟨p, cap, e, _⟩ := nT (aB hx hv R hs)
  exact ⟨_, key a w _ _ _ e, DV_of_i _ _⟩
end
open Go.RowKit (Below)
theorem aX (w : World) (o : Obj) {k : Nat} (h : k < w.heap.size) : (w.alloc o).heap[k]? = w.heap[k]? := Below.heap_alloc w o k h
theorem aW (w : World) (o : Obj) : (w.alloc o).heap[w.heap.size]? = some o := by
 show (w.heap.push o)[w.heap.size]? = _
 simp
theorem dR (w : World) (o : Obj) : (w.alloc o).heap.size = w.heap.size + 1 := by
 show (w.heap.push o).size = _
 simp
theorem mF {w : World} {b : Nat} {x : TypeId × Nat} (h : w.shape? b = some x) : b < w.heap.size := by
 unfold World.shape? at h
 cases hb : w.heap[b]? with
 | none => rw [hb] at h; cases h
 | some o => exact (Array.getElem?_eq_some_iff.1 hb).1
theorem cY {w w' : World} {b : Nat} (h : w'.heap[b]? = w.heap[b]?) : w'.shape? b = w.shape? b := by
 unfold World.shape?; rw [h]
theorem bX {w : World} {b : Nat} {vs : Array Value} {e : TypeId} {fr : Nat × Nat} (h : w.heap[b]? = some (.cells vs e fr)) : w.shape? b = some (e, vs.size) := by
 unfold World.shape?; rw [h]
section
variable {P : Program} {V : Sel} {γ : Gh} {a : Act} {w : World} {sl : T D} {ob : T C} {nx : Pos} {lg : Option (T Bool)} {nt : Nat} {o : Oper} {ro : Option Nat}
theorem lP (g : G ro γ a w) (id : Pos) (obj : Obj) (hobj : ∀ vs e fr, obj = .cells vs e fr -> fr = (0, 0)) : Fr (fun j => j = id) γ (γ.push id (w.heap.size, 0)) w (w.alloc obj) /\ ∀ a' : Act, a'.defers = a.defers -> G ro (γ.push id (w.heap.size, 0)) a' (w.alloc obj) :=
 qQ g id w.heap.size 0 (by rw [dR]; omega) (.inl ⟨Nat.le_refl _, by rw [dR]; omega⟩) (fun c hc _ => aX w obj hc)
  (fun c x hx => by rw [cY (aX w obj (mF hx))]; exact hx)
  (fun c r hr => ⟨r, by rw [aX w obj (Array.getElem?_eq_some_iff.1 hr).1]; exact hr⟩) ⟨rfl, rfl, rfl⟩ (iJ w obj hobj)
theorem Ea (γ : Gh) (w : World) (id : Pos) (obj : Obj) : Up γ (γ.push id (w.heap.size, 0)) w (w.alloc obj) :=
 ⟨fun j => by
  by_cases e : j = id
  ·subst e; rw [γ.push_cur]; omega
  ·rw [γ.push_cur_ne _ e]; exact Nat.le_refl _, fun j s hs => γ.push_β_old id _ hs, fun c x hx => by rw [cY (aX w obj (mF hx))]; exact hx,
  fun b hb => ⟨hb, fun o ho => by rw [aX w obj (Array.getElem?_eq_some_iff.1 ho).1]; exact ho⟩⟩
def C.rw : C -> Bool
 | .cells r _ _ => !r
 | _ => true
theorem aQ (R : Rep P V γ a w ⟨sl, ob, nx, lg⟩) (g : G ro γ a w) {γ' : Gh} {w' : World} {id : Pos} {c : C} (F : Fr (fun j => j = id) γ γ' w w') (hc : V.so id -> HoldsO P γ' w' id c) :
 ∀ j c', V.so j -> (T.set id c ob).get j = some c' -> HoldsO P γ' w' j c' := by
 intro j c' hj h
 by_cases e : j = id
 ·subst e
  rw [T.get_set_same] at h
  cases h
  exact hc hj
 ·rw [T.get_set_ne e] at h
  exact F.keep g e (R.ob j c' hj h)
theorem eE {c : C} {d : Pos} {v : D} {Z : X} (h : eK sl ob nx lg c d v = some Z) : ∃ lg', Z = ⟨T.set d v sl, T.set nx c ob, nx.succ, lg'⟩ /\ LgLe lg lg' /\ wrtn lg' nx := by
 unfold eK at h
 obtain ⟨lg', h1, h2, h3⟩ := mB h
 rw [T.setK_eq, Pos.succK_eq] at h1
 exact ⟨lg', aE h1, h2, h3⟩
theorem OpOk.fresh {lg' : Option (T Bool)} {d : Pos} {v : D} {c : C} {names : List Pos} (hd : o.dst = some d.ix) (hlt : d.ix < nt) (hl : LgLe lg lg') (hw : wrtn lg' nx)
 (h : ∀ V : Sel, (∀ s, s ∈ names -> V.ss s) -> ∀ (γ : Gh) (a : Act) (w : World), Rep P V γ a w ⟨sl, ob, nx, lg⟩ -> γ.cur nx = 0 -> ∃ u obj, (execOp a.eval o).run P w = .ok (.value u) (w.alloc obj) /\
   ((∀ {w2 : World}, w2 = w.alloc obj -> Up γ (γ.push nx (w.heap.size, 0)) w w2 -> w2.heap[w.heap.size]? = some obj -> DV (γ.push nx (w.heap.size, 0)) w2 v u /\ HoldsO P (γ.push nx (w.heap.size, 0)) w2 nx c)))  (hrw : c.rw = true := by rfl) :
 OpOk P nt o names ⟨sl, ob, nx, lg⟩ ⟨T.set d v sl, T.set nx c ob, nx.succ, lg'⟩ :=
 OpOk.value hd hlt hl (by rw [Pos.succ_nat]; omega) ((Keeps.refl _ _).set hw _) fun V hs hto ro γ a w g R => by
  have hso : V.so nx := hto nx hw.tchd
  have h0 := R.nx nx hso (Nat.le_refl _)
  obtain ⟨u, obj, h1, h2⟩ := h V hs γ a w R h0
  obtain ⟨h3, h4⟩ := h2 rfl (Ea γ w nx obj) (aW w obj)
  obtain ⟨F, g'⟩ := lP g nx obj fun vs e fr hobj => by
   subst hobj
   have hb := γ.push_β nx (w.heap.size, 0)
   rw [h0] at hb
   cases c with
   | cells r cs cur =>
     obtain ⟨k1, k2, k3⟩ := h4
     obtain ⟨vs', e', fr', k4, k5, _⟩ := k3 0 k1
     rw [hb, aW] at k4
     cases k4
     exact k5 (by cases r <;> first | rfl | cases hrw)
   | map es =>
     obtain ⟨_, en, cl, k4, _⟩ := h4
     rw [hb, aW] at k4
     cases k4
   | lp _ _ _ _ _ _ _ =>
     obtain ⟨_, l, k4, _⟩ := h4
     rw [hb, aW] at k4
     cases k4
   | hole => have h5 : (γ.push nx (w.heap.size, 0)).cur nx = 0 := h4; rw [γ.push_cur] at h5; omega
  refine ⟨u, _, _, h1, F.mono (fun id e => by rw [e]; exact hw), g', h3, aQ R g F fun _ => h4, fun id hid hle => ?_⟩
  rw [Pos.succ_nat] at hle
  have hne : id ≠ nx := by rintro rfl; omega
  rw [γ.push_cur_ne _ hne]
  exact R.nx id hid (by show nx.nat <= id.nat; omega)
theorem iK {γ' : Gh} {w2 : World} {id : Pos} {b : Nat} {vs : Array Value} {e : TypeId} {ds : List D} (hc : γ'.cur id = 1) (hb : γ'.β id 0 = (b, 0)) (hh : w2.heap[b]? = some (.cells vs e)) (hds : DVL γ' w2 ds vs.toList) (h1 : ∀ u ∈ vs.toList, u.oneCell' = true) :
 HoldsO P γ' w2 id (.cells false (ds.map fun d => .o d 0) 1) := by
 refine ⟨Nat.one_pos, hc, fun st hst => ?_⟩
 obtain rfl : st = 0 := by omega
 rw [hb]
 refine ⟨vs, e, (0, 0), hh, fun _ => rfl, fun p c hp _ _ => ?_⟩
 obtain ⟨h2, h3⟩ := aK.1 hds
 rw [List.getElem?_map] at hp
 cases hd : ds[p]? with
 | none => rw [hd] at hp; cases hp
 | some d =>
   rw [hd] at hp
   cases hp
   have hlt : p < vs.size := by have := (List.getElem?_eq_some_iff.1 hd).1; simp at h2; omega
   refine ⟨vs[p], by simp [hlt], h3 p d _ hd (by simp [hlt]), h1 _ (by simp)⟩
theorem mS {t : TypeId} {zs : List D} (h : eC P t = some zs) : ∃ z : Value, (∀ w, (zeroValue t).run P w = .ok z w) /\ (∀ γ w, DVL γ w zs z.cells.toList) /\ ∀ u ∈ z.cells.toList, u.oneCell' = true := by
 unfold eC at h
 split at h
 ·rename_i i hi
  split at h
  ·rename_i z hz
   refine ⟨z, fun w => by simp [zeroValue, typeInfo, hi, hz], fun γ w => (bR h).1, (bR (γ := ⟨fun _ => 0, fun _ _ => (0, 0), fun _ => False⟩) (w := default) h).2⟩
  ·cases h
 ·cases h
theorem pB (w : World) (t : TypeId) (v : Value) : (newVar t v).run P w = .ok ⟨w.heap.size, 0, none⟩ (w.alloc (.cells v.cells t)) := rfl
theorem DN {t : TypeId} {zs : List D} {d : Pos} {Z : X} (ho : o.op = .alloc t) (hd : o.dst = some d.ix) (hlt : d.ix < nt) (hz : eC P t = some zs) (h : AA d zs sl ob nx lg = some Z) : OpOk P nt o [] ⟨sl, ob, nx, lg⟩ Z := by
 unfold AA at h
 rw [gQ] at h
 obtain ⟨lg', rfl, h2, h3⟩ := eE h
 obtain ⟨z, z1, z2, z3⟩ := mS hz
 refine OpOk.fresh hd hlt h2 h3 fun V _ γ a w R h0 => ⟨.pointer (some ⟨w.heap.size, 0, none⟩), .cells z.cells t, ?_, fun {w2} e U hh => ⟨?_, ?_⟩⟩
 ·simp [execOp, ho, Instr.alloc, z1, pB]
 ·unfold DV
  have hb := γ.push_β nx (w.heap.size, 0)
  rw [h0] at hb
  rw [hb, γ.push_cur, h0]
  exact ⟨Nat.one_pos, Nat.le_refl _, rfl⟩
 ·have hb := γ.push_β nx (w.heap.size, 0)
  rw [h0] at hb
  exact iK (by rw [γ.push_cur, h0]) hb hh (z2 _ _) z3
theorem oE {d : D} {v : Value} {ds : List D} (H : DV γ w d v) (h : oC d = some ds) : DVL γ w ds v.cells.toList /\ ∀ u ∈ v.cells.toList, u.oneCell' = true := by
 have gen : v.oneCell' = true -> v.cells = #[v] -> ds = [d] -> DVL γ w ds v.cells.toList /\ ∀ u ∈ v.cells.toList, u.oneCell' = true := by
  rintro h1 h3 rfl
  rw [h3]
  exact ⟨DVL.one H, fun u hu => by simp at hu; subst hu; exact h1⟩
 cases d with
 | ag cs =>
   cases h
   obtain ⟨vs, rfl, h2, h3⟩ := nC H
   exact ⟨h2, h3⟩
 | any => cases h
 | tp cs => cases h
 | pt id off st => obtain ⟨_, _, rfl⟩ := jN H; exact gen rfl rfl (by cases h; rfl)
 | sl id off n st z => obtain ⟨_, _, _, _, _, rfl, _⟩ := gT H; exact gen rfl rfl (by cases h; rfl)
 | fn f x y => obtain ⟨_, _, rfl, _⟩ := qV H; exact gen rfl rfl (by cases h; rfl)
 | em => have H2 := H; unfold DV at H2; obtain ⟨_, rfl⟩ := H2; exact gen rfl rfl (by cases h; rfl)
 | mp id => have H2 := H; unfold DV at H2; obtain ⟨_, rfl⟩ := H2; exact gen rfl rfl (by cases h; rfl)
 | yl id => have H2 := H; unfold DV at H2; obtain ⟨_, rfl⟩ := H2; exact gen rfl rfl (by cases h; rfl)
 | ifc t d => have H2 := H; unfold DV at H2; obtain ⟨_, rfl, _⟩ := H2; exact gen rfl rfl (by cases h; rfl)
 | lst z es => obtain ⟨_, _, rfl, _⟩ := nT H; exact gen rfl rfl (by cases h; rfl)
 | pl r k => obtain ⟨_, _, _, _, _, _, _, rfl, _⟩ := oS H; exact gen rfl rfl (by cases h; rfl)
 | _ => have H2 := H; unfold DV at H2; subst H2; exact gen rfl rfl (by cases h; rfl)
theorem Cb {t : TypeId} {x : Operand} {d : Pos} {r : RX} {Z : X} (ho : o.op = .box t x) (hd : o.dst = some d.ix) (hlt : d.ix < nt) (hx : rx x = some r) (h : zY d r sl ob nx lg = some Z) : OpOk P nt o r.ss ⟨sl, ob, nx, lg⟩ Z := by
 unfold zY at h
 split at h
 ·rename_i v hv
  split at h
  ·rename_i ds hds
   rw [gQ] at h
   obtain ⟨lg', rfl, h2, h3⟩ := eE h
   refine OpOk.fresh hd hlt h2 h3 fun V hs γ a w R h0 => ⟨.pointer (some ⟨w.heap.size, 0, none⟩), .cells (a.eval x).cells t, ?_, fun {w2} e U hh => ⟨?_, ?_⟩⟩
   ·simp [execOp, ho, Instr.box, pB]
   ·unfold DV
    have hb := γ.push_β nx (w.heap.size, 0)
    rw [h0] at hb
    rw [hb, γ.push_cur, h0]
    exact ⟨Nat.one_pos, Nat.le_refl _, rfl⟩
   ·have hb := γ.push_β nx (w.heap.size, 0)
    rw [h0] at hb
    obtain ⟨e1, e2⟩ := oE (aB hx hv R hs) hds
    exact iK (by rw [γ.push_cur, h0]) hb hh (DVL.mono U _ _ e1) e2
  ·cases h
 ·cases h
theorem CC {t : TypeId} {d : Pos} {Z : X} (ho : o.op = .makeMap t none) (hd : o.dst = some d.ix) (hlt : d.ix < nt) (h : AF d sl ob nx lg = some Z) : OpOk P nt o [] ⟨sl, ob, nx, lg⟩ Z := by
 unfold AF at h
 obtain ⟨lg', rfl, h2, h3⟩ := eE h
 refine OpOk.fresh hd hlt h2 h3 fun V _ γ a w R h0 => ⟨.map (some w.heap.size), .map #[] 0, ?_, fun {w2} e U hh => ⟨?_, ?_⟩⟩
 ·simp [execOp, ho, Instr.makeMap]
 ·unfold DV
  have hb := γ.push_β nx (w.heap.size, 0)
  rw [h0] at hb
  rw [hb, γ.push_cur, h0]
  exact ⟨Nat.one_pos, rfl⟩
 ·have hb := γ.push_β nx (w.heap.size, 0)
  rw [h0] at hb
  refine ⟨by rw [γ.push_cur, h0], #[], 0, by rw [hb]; exact hh, rfl, fun i e f he => by simp at he⟩
theorem kV {α : Type} {l : List α} {o : Nat} {new : List α} (h : o + new.length <= l.length) : (splice l o new).length = l.length := by
 simp [splice]; omega
theorem DVL.splice {ds new : List D} {vs nv : List Value} (H : DVL γ w ds vs) (hn : DVL γ w new nv) (o : Nat) : DVL γ w (splice ds o new) (Ev.splice vs o nv) := by
 unfold Ev.splice
 rw [(aK.1 hn).1]
 exact ((H.take o).append hn).append (H.drop _)
theorem zD {vs nv : List Value} (h1 : ∀ u ∈ vs, u.oneCell' = true) (h2 : ∀ u ∈ nv, u.oneCell' = true) (o : Nat) : ∀ u ∈ splice vs o nv, u.oneCell' = true := by
 intro u hu
 simp only [splice, List.mem_append] at hu
 rcases hu with (hu | hu) | hu
 ·exact h1 u (List.mem_of_mem_take hu)
 ·exact h2 u hu
 ·exact h1 u (List.mem_of_mem_drop hu)
end
open Go.RowKit (Below)
theorem oY {α : Type} {l : List α} {o : Nat} {x : α} {new : List α} (h : o + 1 + new.length <= l.length) : splice (l.set o x) (o + 1) new = splice l o (x :: new) := by
 unfold splice
 have h1 : (l.set o x).take (o + 1) = l.take o ++ [x] := by
  rw [List.take_succ_eq_append_getElem (by simp; omega)]
  simp [List.take_set_of_le]
 have h2 : (l.set o x).drop (o + 1 + new.length) = l.drop (o + (x :: new).length) := by
  rw [List.drop_set_of_lt (by omega), List.length_cons]
  congr 1; omega
 rw [h1, h2]
 simp
theorem rE {α : Type} (l : List α) (o : Nat) : splice l o [] = l := by simp [splice]
theorem tK : ∀ (vs : List Value) (cs : Array Value) (o k : Nat), o + k + vs.length <= cs.size ->
 (vs.zipIdx k).foldl (fun cs (p : Value × Nat) => cs.setIfInBounds (o + p.2) p.1) cs = (splice cs.toList (o + k) vs).toArray
 | [], cs, o, k, _ => by simp [rE]
 | v :: vs, cs, o, k, h => by
   simp only [List.length_cons] at h
   rw [List.zipIdx_cons, List.foldl_cons]
   simp only []
   rw [tK vs _ o (k + 1) (by simp; omega), Array.toList_setIfInBounds, <- Nat.add_assoc, oY (by simp; omega)]
section
variable {P : Program} {sl : T D} {ob : T C} {nx : Pos} {lg : Option (T Bool)} {nt : Nat} {o : Oper}
theorem rU {β : Type} {place : Nat -> Option (Nat × Nat)} : ∀ {ps : List (Nat × Operand)} {rs : List (Nat × Nat × RX)} {l : List D} {k : List D -> Option β} {Z : β}, kX place ps = some rs -> uF sl rs l k = some Z ->
 ∃ l', k l' = some Z /\ l'.length = l.length /\ ∀ {V : Sel} {γ : Gh} {a : Act} {w : World}, Rep P V γ a w ⟨sl, ob, nx, lg⟩ -> (∀ s, s ∈ RX.ssp rs -> V.ss s) -> ∀ cells : Array Value, DVL γ w l cells.toList -> (∀ u ∈ cells.toList, u.oneCell' = true) ->
   ∃ cells', Instr.fill place cells (ps.map fun y => (y.1, a.eval y.2)) = some cells' /\ DVL γ w l' cells'.toList /\ ∀ u ∈ cells'.toList, u.oneCell' = true
 | [], rs, l, k, Z, hp, h => by
   cases hp
   exact ⟨l, h, rfl, fun R _ cells h1 h2 => ⟨cells, rfl, h1, h2⟩⟩
 | (i, x) :: ps, rs, l, k, Z, hp, h => by
   simp only [kX] at hp
   split at hp
   ·rename_i off n r rs' h1 h2 h3
    cases hp
    have h : (match bC sl r with
     | some d => match oC d with
       | some cs => bif Nat.beq cs.length n then yA cs off l fun l => uF sl rs' l k else none
       | none => none
     | none => none) = some Z := h
    split at h
    ·rename_i d hd
     split at h
     ·rename_i cs hcs
      cases hb : Nat.beq cs.length n with
      | false => rw [hb] at h; cases h
      | true =>
        rw [hb] at h
        have hcn := Nat.eq_of_beq_eq_true hb
        obtain ⟨h4, h5⟩ := tA h
        obtain ⟨l', h6, h7, h8⟩ := rU h3 h5
        refine ⟨l', h6, by rw [h7, kV h4], fun {V γ a w} R hs cells hd1 hd2 => ?_⟩
        obtain ⟨e1, e2⟩ := oE (aB h2 hd R fun s hs' => hs s (by simp [RX.ssp, hs'])) hcs
        have hvl := (aK.1 e1).1
        have hcl := (aK.1 hd1).1
        have hvs : (a.eval x).cells.size = n := by rw [<- hcn, hvl]; simp
        have hof : off + (a.eval x).cells.size <= cells.size := by simp at hcl; omega
        have hnext : (a.eval x).cells.zipIdx.foldl (fun cs (p : Value × Nat) => cs.setIfInBounds (off + p.2) p.1) cells = (splice cells.toList off (a.eval x).cells.toList).toArray := by
         have := tK (a.eval x).cells.toList cells off 0 (by simpa using hof)
         rw [Nat.add_zero] at this
         rw [<- this, <- Array.foldl_toList]
         simp
        obtain ⟨cells', e3, e4, e5⟩ := h8 R (fun s hs' => hs s (by simp [RX.ssp, hs'])) (splice cells.toList off (a.eval x).cells.toList).toArray (hd1.splice e1 off) (zD hd2 e2 off)
        refine ⟨cells', ?_, e4, e5⟩
        simp only [List.map_cons, Instr.fill, h1]
        split
        ·rename_i hbad; exact absurd hbad (by simp [hvs]; omega)
        ·rw [<- e3]
         congr 1
     ·cases h
    ·cases h
   ·cases hp
theorem rA (w : World) : ∀ {fs : List Field} {r : List (Nat × Nat)}, hJ P fs = some r -> (fs.mapM fun f => (do pure (f.offset, <- sizeOf f.type) : Sem (Nat × Nat))).run P w = .ok r w
 | [], r, h => by cases h; rfl
 | f :: fs, r, h => by
   simp only [hJ] at h
   split at h
   ·rename_i n r' h1 h2
    cases h
    rw [List.mapM_cons]
    simp only [Sem.run_bind, aP h1, Result.andThen_ok, Sem.run_pure, rA w h2]
   ·cases h
theorem Eq {t : TypeId} {parts : Array (Nat × Operand)} {zs : List D} {pl : Nat -> Option (Nat × Nat)} {rs : List (Nat × Nat × RX)} {d : Pos} {Z : X} (ho : o.op = .build t parts) (hd : o.dst = some d.ix) (hlt : d.ix < nt) (hz : eC P t = some zs) (hpl : uE P t = some pl) (hrs : kX pl parts.toList = some rs)
 (h : zN d zs rs sl ob nx lg = some Z) : OpOk P nt o (RX.ssp rs) ⟨sl, ob, nx, lg⟩ Z := by
 unfold zN at h
 obtain ⟨l', h1, _, h2⟩ := rU (P := P) (ob := ob) (nx := nx) (lg := lg) hrs h
 rw [aE h1]
 obtain ⟨z, z1, z2, z3⟩ := mS hz
 refine OpOk.pure hd hlt (LgLe.refl _) fun V hs _ γ a w R => ?_
 obtain ⟨cells, e1, e2, e3⟩ := h2 R hs z.cells (z2 _ _) z3
 refine ⟨.agg cells, ?_, by unfold DV; exact ⟨cells, rfl, e2, e3⟩⟩
 unfold uE at hpl
 split at hpl
 ·rename_i fs hu
  cases hf : hJ P fs.toList with
  | none => rw [hf] at hpl; cases hpl
  | some r =>
    rw [hf] at hpl
    cases hpl
    have hm : (fs.mapM fun f => (do pure (f.offset, <- sizeOf f.type) : Sem (Nat × Nat))).run P w = .ok r.toArray w := by
     rw [Array.mapM_eq_mapM_toList]
     simp only [Sem.run_map, rA w hf, Result.andThen_ok]
    have e1' : Instr.fill (fun i => r.toArray[i]?) z.cells (parts.toList.map fun y => (y.1, a.eval y.2)) = some cells := by
     rw [<- e1]; congr 1; funext i; simp
    simp only [execOp, ho, Instr.build, Sem.run_bind, z1, Result.andThen_ok, run_underlying hu, hm]
    simp only [Array.toList_map, e1']
    rfl
 ·rename_i n el hu
  cases hn : cT P el with
  | none => rw [hn] at hpl; cases hpl
  | some m =>
    rw [hn] at hpl
    cases hpl
    simp only [execOp, ho, Instr.build, Sem.run_bind, z1, Result.andThen_ok, run_underlying hu, aP hn]
    simp only [Array.toList_map, e1]
    rfl
 ·cases hpl
theorem eV (z : List D) : ∀ n, (fQ z n).length = n * z.length
 | 0 => by simp [fQ]
 | n + 1 => by simp [fQ, eV z n, Nat.add_mul]; omega
theorem Aq (z : List D) : ∀ (n i : Nat), i < n * z.length -> (fQ z n)[i]? = z[i % z.length]?
 | 0, i, h => by omega
 | n + 1, i, h => by
   simp only [fQ]
   by_cases hi : i < z.length
   ·rw [List.getElem?_append_left hi, Nat.mod_eq_of_lt hi]
   ·rw [List.getElem?_append_right (by omega), Aq z n (i - z.length) (by rw [Nat.add_mul] at h; omega)]
    congr 1
    rw [Nat.mod_eq_sub_mod (by omega : i ≥ z.length)]
theorem mI {γ : Gh} {w : World} {z : List D} {v : Array Value} (h : DVL γ w z v.toList) (h1 : ∀ u ∈ v.toList, u.oneCell' = true) {n m : Nat} (hm : m = n * z.length) : DVL γ w (fQ z n) ((Array.range m).map (v[· % v.size]!)).toList /\ ∀ u ∈ ((Array.range m).map (v[· % v.size]!)).toList, u.oneCell' = true := by
 obtain ⟨h2, h3⟩ := aK.1 h
 have hz : z.length = v.size := by simpa using h2
 by_cases h0 : v.size = 0
 ·have : m = 0 := by rw [hm, hz, h0]; simp
  subst this
  have hr : fQ z n = [] := by rw [<- List.length_eq_zero_iff, eV, hz, h0]; simp
  rw [hr]
  simp [DVL]
 ·have hpos : 0 < v.size := by omega
  refine ⟨aK.2 ⟨by rw [eV]; simp [hm], fun i d u hd hu => ?_⟩, fun u hu => ?_⟩
  ·have hi : i < n * z.length := by rw [<- eV]; exact (List.getElem?_eq_some_iff.1 hd).1
   rw [Aq z n i hi] at hd
   have hmod : i % v.size < v.size := Nat.mod_lt _ hpos
   have hu' : u = v[i % v.size] := by
    simp at hu
    obtain ⟨k, hk, rfl⟩ := hu
    have hk' : k = i := by
     obtain ⟨h5, h6⟩ := List.getElem?_eq_some_iff.1 hk
     simpa using h6.symm
    subst hk'
    simp [hmod]
   rw [hu']
   exact h3 (i % v.size) d _ (by rw [<- hz]; exact hd) (by simp [hmod])
  ·simp at hu
   obtain ⟨i, _, rfl⟩ := hu
   have hmod : i % v.size < v.size := Nat.mod_lt _ hpos
   simp [hmod]
   exact h1 _ (by simp)
theorem xE {γ : Gh} {w w2 : World} {vs : Array Value} {e : TypeId} {len z : Nat} (h0 : γ.cur nx = 0) (hh : w2.heap[w.heap.size]? = some (.cells vs e)) (hs : len * z <= vs.size) : DV (γ.push nx (w.heap.size, 0)) w2 (.sl nx 0 len 0 z) (.slice (some ⟨w.heap.size, 0, none⟩) len len) := by
 unfold DV
 have hb := γ.push_β nx (w.heap.size, 0)
 rw [h0] at hb
 rw [hb, γ.push_cur, h0]
 exact ⟨Nat.one_pos, Nat.le_refl _, len, e, vs.size, rfl, Nat.le_refl _, bX hh, by simpa using hs⟩
theorem Em {t el : TypeId} {len z : Nat} {parts : Array (Nat × Operand)} {zs : List D} {rs : List (Nat × Nat × RX)} {d : Pos} {Z : X} (ho : o.op = .buildSlice t len parts) (hd : o.dst = some d.ix) (hlt : d.ix < nt) (hu : P.underlying t = some (.slice el)) (hs : cT P el = some z) (hz : eC P el = some zs)
 (hrs : kX (fun i => some (i * z, z)) parts.toList = some rs) (hle : len * z <= 16777216) (hzl : zs.length = z) (h : AP d z len (fQ zs len) rs sl ob nx lg = some Z) : OpOk P nt o (RX.ssp rs) ⟨sl, ob, nx, lg⟩ Z := by
 unfold AP at h
 obtain ⟨l', h1, hl', h2⟩ := rU (P := P) (ob := ob) (nx := nx) (lg := lg) hrs h
 rw [gQ] at h1
 obtain ⟨lg', rfl, h3, h4⟩ := eE h1
 obtain ⟨zv, z1, z2, z3⟩ := mS hz
 refine OpOk.fresh hd hlt h3 h4 fun V hs' γ a w R h0 => ?_
 have hinit : ∀ γ w, DVL γ w (fQ zs len) ((Array.range (len * z)).map (zv.cells[· % zv.cells.size]!)).toList /\ ∀ u ∈ ((Array.range (len * z)).map (zv.cells[· % zv.cells.size]!)).toList, u.oneCell' = true := fun γ w => mI (z2 γ w) z3 (by rw [hzl])
 obtain ⟨cells, e1, e2, e3⟩ := h2 R hs' _ (hinit _ _).1 (hinit γ w).2
 have hsz : cells.size = len * z := by
  have := (aK.1 e2).1
  rw [hl', eV, hzl] at this
  simpa using this.symm
 refine ⟨.slice (some ⟨w.heap.size, 0, none⟩) len len, .cells cells el, ?_, fun {w2} e U hh => ⟨xE h0 hh (by omega), ?_⟩⟩
 ·simp only [execOp, ho, Instr.buildSlice, Sem.run_bind, run_underlying hu, Result.andThen_ok, aP hs]
  rw [if_neg (by omega)]
  by_cases hzero : len * z = 0
  ·rw [if_pos hzero]
   simp only [Sem.run_bind, Sem.run_pure, Result.andThen_ok]
   have e1' : Instr.fill (fun i => some (i * z, z)) ((Array.range (len * z)).map ((#[] : Array Value)[· % (#[] : Array Value).size]!)) (parts.map fun (i, x) => (i, a.eval x)).toList = some cells := by
    have hz0 : ∀ f : Nat -> Value, Array.map f (Array.range 0) = #[] := fun f => by apply Array.ext'; simp
    rw [<- e1, hzero, hz0, hz0]
    simp
   rw [e1']
   rfl
  ·rw [if_neg hzero]
   simp only [Sem.run_bind, z1, Result.andThen_ok, Sem.run_pure]
   have e1' : Instr.fill (fun i => some (i * z, z)) ((Array.range (len * z)).map (zv.cells[· % zv.cells.size]!)) (parts.map fun (i, x) => (i, a.eval x)).toList = some cells := by
    rw [<- e1]
    simp
   rw [e1']
   rfl
 ·have hb := γ.push_β nx (w.heap.size, 0)
  rw [h0] at hb
  exact iK (by rw [γ.push_cur, h0]) hb hh (DVL.mono U _ _ e2) e3
theorem vF {β : Type} (zs : List D) : ∀ (l : Nat) (k : List Cell -> Option β), (Nat.rec (fun k => k []) (fun _ ih k => ih fun l => iV (fun d => .o d 0) zs l k) l : (List Cell -> Option β) -> Option β) k = k ((fQ zs l).map fun d => .o d 0)
 | 0, k => rfl
 | l + 1, k => by
   show (Nat.rec (fun k => k []) (fun _ ih k => ih fun l => iV (fun d => .o d 0) zs l k) l : (List Cell -> Option β) -> Option β) (fun l => iV (fun d => .o d 0) zs l k) = _
   rw [vF zs l, fX]
   simp [fQ]
theorem Dw {t el : TypeId} {l c : Operand} {i : TypeInfo} {z : Nat} {zs : List D} {d : Pos} {r1 r2 : RX} {Z : X} (ho : o.op = .makeSlice t l c) (hd : o.dst = some d.ix) (hlt : d.ix < nt) (hx : rx l = some r1) (hy : rx c = some r2) (hu : P.underlying t = some (.slice el)) (hs : cT P el = some z) (hz : eC P el = some zs) (hi : P.info? el = some i)
 (hby : i.bytes <= 65536) (hzl : zs.length = z) (h : Ad d z zs r1 r2 sl ob nx lg = some Z) : OpOk P nt o (r1.ss ++ r2.ss) ⟨sl, ob, nx, lg⟩ Z := by
 unfold Ad at h
 split at h
 ·rename_i k1 l' k2 c' hl hc
  cases hb : (Nat.beq l' c' && Nat.ble l' 65536) with
  | false => rw [hb] at h; cases h
  | true =>
    rw [hb] at h
    simp only [cond_true] at h
    rw [vF] at h
    rw [Bool.and_eq_true] at hb
    have e1 := Nat.eq_of_beq_eq_true hb.1
    have e2 := Nat.le_of_ble_eq_true hb.2
    subst e1
    obtain ⟨lg', rfl, h3, h4⟩ := eE h
    obtain ⟨zv, z1, z2, z3⟩ := mS hz
    have hinit : ∀ γ w, DVL γ w (fQ zs l') ((Array.range (l' * z)).map (zv.cells[· % zv.cells.size]!)).toList /\ ∀ u ∈ ((Array.range (l' * z)).map (zv.cells[· % zv.cells.size]!)).toList, u.oneCell' = true := fun γ w => mI (z2 γ w) z3 (by rw [hzl])
    refine OpOk.fresh hd hlt h3 h4 fun V hs' γ a w R h0 => ⟨.slice (some ⟨w.heap.size, 0, none⟩) l' l', .cells ((Array.range (l' * z)).map (zv.cells[· % zv.cells.size]!)) el, ?_, fun {w2} e U hh => ⟨xE h0 hh (by simp), ?_⟩⟩
    ·have v1 := fT (aB hx hl R fun s h => hs' s (by simp [h]))
     have v2 := fT (aB hy hc R fun s h => hs' s (by simp [h]))
     have w1 : IntKind.i64.wrap (l' : Int) = (l' : Int) := IntWalk.i64_in _ (by omega)
     have hz0 : ∀ f : Nat -> Value, Array.map f (Array.range 0) = #[] := fun f => by apply Array.ext'; simp
     have hle : i.bytes * l' <= 65536 * 65536 := Nat.mul_le_mul hby e2
     have hby2 : ¬ ((281474976710656 : Int) < (i.bytes : Int) * (l' : Int)) := by
      have : ((i.bytes * l' : Nat) : Int) = (i.bytes : Int) * (l' : Int) := by simp
      omega
     have hroom : ¬ (140737488355328 < l' * i.bytes) := by rw [Nat.mul_comm]; omega
     have hneg : ¬ ((l' : Int) < 0) := by omega
     by_cases hzero : l' * z = 0
     ·simp [execOp, ho, Instr.makeSlice, v1, v2, asInt, asIntOf, run_underlying hu, typeInfo, hi, w1, hneg, hby2, askRoom, roomBytes, hroom, aP hs, hzero, newRow, hz0]
     ·simp [execOp, ho, Instr.makeSlice, v1, v2, asInt, asIntOf, run_underlying hu, typeInfo, hi, w1, hneg, hby2, askRoom, roomBytes, hroom, aP hs, hzero, z1, newRow]
    ·have hb := γ.push_β nx (w.heap.size, 0)
     rw [h0] at hb
     exact iK (by rw [γ.push_cur, h0]) hb hh (hinit _ _).1 (hinit γ w2).2
 ·cases h
end
end Go.Ev
end
