import Derived.Test.YtkbgaadfednjpaaGreatDoorEvUL
import Derived.DeepKeys3
import Derived.Laws.Pointers
set_option linter.all false
set_option maxHeartbeats 8000000
noncomputable section
namespace Go.Ev
open Go.RowKit (Below)
section
variable {P : Program} {V : Sel} {γ : Gh} {a : Act} {w : World} {sl : T D} {ob : T C} {nx : Pos} {lg : Option (T Bool)} {nt : Nat} {o : Oper} {ro : Option Nat}
theorem dC {k : IntKind} {m y : Nat} {code : BoundsCode} (h : m <= y) : (Instr.sliceBound (.int k (m : Int)) y code).run P w = .ok m w := by
 have h2 : ¬ (y < m) := by omega
 simp [Instr.sliceBound, asIntOf, h2]
theorem bV {s : Bool} {len cap l h m : Nat} {lo hi mx : Option Value} (hlo : (lo = none /\ l = 0) \/ ∃ k, lo = some (.int k (l : Int))) (hhi : (hi = none /\ h = len) \/ ∃ k, hi = some (.int k (h : Int)))
 (hmx : (mx = none /\ m = cap) \/ (hi ≠ none /\ ∃ k, mx = some (.int k (m : Int)))) (h1 : l <= h) (h2 : h <= m) (h3 : m <= cap) : (Instr.sliceBounds s len cap lo hi mx).run P w = .ok (l, h, m) w := by
 rcases hmx with ⟨rfl, rfl⟩ | ⟨hne, km, rfl⟩
 ·rcases hhi with ⟨rfl, rfl⟩ | ⟨kh, rfl⟩ <;> rcases hlo with ⟨rfl, rfl⟩ | ⟨kl, rfl⟩ <;>
   simp [Instr.sliceBounds, dC (P := P) (w := w) h1, dC (P := P) (w := w) h2]
 ·rcases hhi with ⟨rfl, _⟩ | ⟨kh, rfl⟩
  ·exact absurd rfl hne
  ·rcases hlo with ⟨rfl, rfl⟩ | ⟨kl, rfl⟩ <;>
    simp [Instr.sliceBounds, dC (P := P) (w := w) h1, dC (P := P) (w := w) h2, dC (P := P) (w := w) h3]
theorem fC {x : Option Operand} {r : Option RX} {dflt : Nat} {k : Nat -> Option X} {Z : X} (hx : xT x = some r) (h : vJ sl r dflt k = some Z) : ∃ m, k m = some Z /\
 ∀ {V : Sel} {γ : Gh} {a : Act} {w : World}, Rep P V γ a w ⟨sl, ob, nx, lg⟩ -> (∀ s, s ∈ RX.sso r -> V.ss s) -> ((x.map a.eval) = none /\ m = dflt) \/ ∃ kk, x.map a.eval = some (.int kk (m : Int)) := by
 cases x with
 | none =>
   cases hx
   exact ⟨dflt, h, fun {V γ a w} _ _ => .inl ⟨rfl, rfl⟩⟩
 | some x =>
   simp only [xT] at hx
   split at hx
   ·rename_i p hp
    cases hx
    unfold vJ at h
    simp only at h
    split at h
    ·rename_i kk m hv
     refine ⟨m, h, fun {V γ a w} R hs => .inr ⟨kk, ?_⟩⟩
     have := fT (aB hp hv R hs)
     simp [this]
    ·cases h
   ·cases hx
theorem iN {t el : TypeId} {z : Nat} (hu : P.underlying t = some (.slice el)) (hz : cT P el = some z) {ad : Option Addr} {len cap l h m : Nat} {lo hi mx : Option Value} (hb : (Instr.sliceBounds true len cap lo hi mx).run P w = .ok (l, h, m) w) :
 (Instr.sliceAt t (.slice ad len cap) lo hi mx).run P w = .ok (.slice (if m = l then ad else ad.map (·.add (l * z))) (h - l) (m - l)) w := by
 simp [Instr.sliceAt, Instr.slice, run_underlying hu, hb, aP hz]
theorem ED {t el : TypeId} {x : Operand} {lo hi mx : Option Operand} {z : Nat} {d : Pos} {r : RX} {rlo rhi rmx : Option RX} {Z : X} (ho : o.op = .slice t x lo hi mx) (hd : o.dst = some d.ix) (hlt : d.ix < nt) (hx : rx x = some r) (hlo : xT lo = some rlo) (hhi : xT hi = some rhi) (hmx : xT mx = some rmx)
 (hne : (rhi.isNone && rmx.isSome) = false) (hu : P.underlying t = some (.slice el)) (hz : cT P el = some z) (h : sO d z r rlo rhi rmx sl ob nx lg = some Z) : OpOk P nt o (r.ss ++ (RX.sso rlo ++ (RX.sso rhi ++ RX.sso rmx))) ⟨sl, ob, nx, lg⟩ Z := by
 have hne' : ∀ a : Act, mx.map a.eval ≠ none -> hi.map a.eval ≠ none := by
  intro a h1 h2
  cases mx with
  | none => exact h1 rfl
  | some q =>
    cases hi with
    | some q => cases h2
    | none =>
      cases hhi
      simp only [xT] at hmx
      split at hmx
      ·cases hmx; cases hne
      ·cases hmx
 unfold sO at h
 split at h <;> first | (cases h; done) | skip
 ·rename_i id off len st z' hv
  cases hb : Nat.beq z z' with
  | false => rw [hb] at h; cases h
  | true =>
    rw [hb] at h
    simp only [cond_true] at h
    obtain rfl := Nat.eq_of_beq_eq_true hb
    obtain ⟨l, h, hl⟩ := fC (P := P) (ob := ob) (nx := nx) (lg := lg) hlo h
    obtain ⟨hh, h, hhh⟩ := fC (P := P) (ob := ob) (nx := nx) (lg := lg) hhi h
    cases hb2 : (Nat.ble l hh && Nat.ble hh len) with
    | false => rw [hb2] at h; cases h
    | true =>
      rw [hb2] at h
      simp only [cond_true] at h
      rw [Bool.and_eq_true] at hb2
      have b1 := Nat.le_of_ble_eq_true hb2.1
      have b2 := Nat.le_of_ble_eq_true hb2.2
      have fin : ∀ {V : Sel} {γ : Gh} {a : Act} {w : World} (m cap : Nat), (a.eval x = .slice (some ⟨(γ.β id st).1, off - (γ.β id st).2, none⟩) len cap) -> (Instr.sliceBounds true len cap (lo.map a.eval) (hi.map a.eval) (mx.map a.eval)).run P w = .ok (l, hh, m) w ->
       (execOp a.eval o).run P w = .ok (.value (.slice (if m = l then some ⟨(γ.β id st).1, off - (γ.β id st).2, none⟩ else some ⟨(γ.β id st).1, off - (γ.β id st).2 + l * z, none⟩) (hh - l) (m - l))) w := by
       intro V γ a w m cap e hbb
       have := iN (P := P) (w := w) hu hz (ad := some ⟨(γ.β id st).1, off - (γ.β id st).2, none⟩) hbb
       simp only [Option.map_some, Addr.add_mid] at this
       simp [execOp, ho, e, this]
      have dv : ∀ {γ : Gh} {w : World} (m cap : Nat) {e : TypeId} {n : Nat}, st < γ.cur id -> (γ.β id st).2 <= off -> w.shape? (γ.β id st).1 = some (e, n) -> off - (γ.β id st).2 + cap * z <= n -> m <= cap -> hh <= m -> (l < m \/ l = 0) ->
       DV γ w (.sl id (off + l * z) (hh - l) st z) (.slice (if m = l then some ⟨(γ.β id st).1, off - (γ.β id st).2, none⟩ else some ⟨(γ.β id st).1, off - (γ.β id st).2 + l * z, none⟩) (hh - l) (m - l)) := by
       intro γ w m cap e n e1 e2 e5 e6 hmc hhm hl0
       unfold DV
       refine ⟨e1, by omega, m - l, e, n, ?_, by omega, e5, ?_⟩
       ·have ho2 : off + l * z - (γ.β id st).2 = off - (γ.β id st).2 + l * z := by omega
        rw [ho2]
        by_cases hml : m = l
        ·rw [if_pos hml]
         have hl : l = 0 := by omega
         rw [hl]; simp
        ·rw [if_neg hml]
       ·have : l * z + (m - l) * z <= cap * z := by
         rw [<- Nat.add_mul]
         exact Nat.mul_le_mul_right _ (by omega)
        omega
      cases rmx with
      | none =>
        simp only at h
        cases hb3 : (Nat.blt l hh || Nat.beq l 0) with
        | false => rw [hb3] at h; cases h
        | true =>
          rw [hb3] at h
          simp only [cond_true, bB] at h
          rw [aE h]
          have hl0 : l < hh \/ l = 0 := by
           rcases Bool.or_eq_true _ _ ▸ hb3 with h | h
           ·exact .inl (Nat.le_of_ble_eq_true h)
           ·exact .inr (Nat.eq_of_beq_eq_true h)
          have hmxn : mx = none := by
           cases mx with
           | none => rfl
           | some q => simp only [xT] at hmx; split at hmx <;> cases hmx
          refine OpOk.pure hd hlt (LgLe.refl _) fun V hs _ γ a w R => ?_
          obtain ⟨e1, e2, cap, e, n, e3, e4, e5, e6⟩ := gT (aB hx hv R fun s h => hs s (by simp [h]))
          have hbb := bV (P := P) (w := w) (s := true) (m := cap) (cap := cap) (mx := mx.map a.eval) (hl R fun s h => hs s (by simp [h])) (hhh R fun s h => hs s (by simp [h])) (.inl ⟨by rw [hmxn]; rfl, rfl⟩) b1 (by omega) (Nat.le_refl _)
          exact ⟨_, fin (V := V) cap cap e3 hbb, dv cap cap e1 e2 e5 e6 (Nat.le_refl _) (by omega) (by omega)⟩
      | some rm =>
        simp only at h
        obtain ⟨m, h, hm⟩ := fC (P := P) (ob := ob) (nx := nx) (lg := lg) (x := mx) (r := some rm) hmx h
        cases hb3 : (Nat.ble hh m && Nat.ble m len) with
        | false => rw [hb3] at h; cases h
        | true =>
          rw [hb3] at h
          simp only [cond_true] at h
          rw [Bool.and_eq_true] at hb3
          have b3 := Nat.le_of_ble_eq_true hb3.1
          have b4 := Nat.le_of_ble_eq_true hb3.2
          have hmxs : ∀ a : Act, mx.map a.eval ≠ none := by
           intro a
           cases mx with
           | none => cases hmx
           | some q => simp
          have hbb : ∀ {V : Sel} {γ : Gh} {a : Act} {w : World} {cap : Nat}, Rep P V γ a w ⟨sl, ob, nx, lg⟩ -> (∀ s, s ∈ r.ss ++ (RX.sso rlo ++ (RX.sso rhi ++ RX.sso (some rm))) -> V.ss s) -> len <= cap ->
           (Instr.sliceBounds true len cap (lo.map a.eval) (hi.map a.eval) (mx.map a.eval)).run P w = .ok (l, hh, m) w := by
           intro V γ a w cap R hs hc
           refine bV (hl R fun s h => hs s (by simp [h])) (hhh R fun s h => hs s (by simp [h])) (.inr ⟨hne' a (hmxs a), ?_⟩) b1 b3 (by omega)
           rcases hm R fun s h => hs s (by simp [h]) with ⟨h1, _⟩ | h1
           ·exact absurd h1 (hmxs a)
           ·exact h1
          cases hb4 : Nat.blt l m with
          | true =>
            rw [hb4] at h
            simp only [cond_true, bB] at h
            rw [aE h]
            have hlm : l < m := Nat.le_of_ble_eq_true hb4
            refine OpOk.pure hd hlt (LgLe.refl _) fun V hs _ γ a w R => ?_
            obtain ⟨e1, e2, cap, e, n, e3, e4, e5, e6⟩ := gT (aB hx hv R fun s h => hs s (by simp [h]))
            exact ⟨_, fin (V := V) m cap e3 (hbb R hs e4), dv m cap e1 e2 e5 e6 (by omega) b3 (.inl hlm)⟩
          | false =>
            rw [hb4] at h
            simp only [cond_false] at h
            rw [aE h]
            have hml : m = l := by
             have : ¬ l < m := fun e => by rw [show Nat.blt l m = true from Nat.ble_eq_true_of_le e] at hb4; cases hb4
             omega
            refine OpOk.pure hd hlt (LgLe.refl _) fun V hs _ γ a w R => ?_
            obtain ⟨e1, e2, cap, e, n, e3, e4, e5, e6⟩ := gT (aB hx hv R fun s h => hs s (by simp [h]))
            refine ⟨_, fin (V := V) m cap e3 (hbb R hs e4), ?_⟩
            unfold DV
            rw [if_pos hml]
            exact ⟨_, by rw [show hh - l = 0 by omega, show m - l = 0 by omega]⟩
 ·rename_i z' es hv
  cases hb : Nat.beq z z' with
  | false => rw [hb] at h; cases h
  | true =>
    rw [hb] at h
    simp only [cond_true] at h
    obtain rfl := Nat.eq_of_beq_eq_true hb
    obtain ⟨l, h, hl⟩ := fC (P := P) (ob := ob) (nx := nx) (lg := lg) hlo h
    obtain ⟨hh, h, hhh⟩ := fC (P := P) (ob := ob) (nx := nx) (lg := lg) hhi h
    cases hb2 : (Nat.ble l hh && Nat.ble hh (List.length es)) with
    | false => rw [hb2] at h; cases h
    | true =>
      rw [hb2] at h
      simp only [cond_true] at h
      rw [Bool.and_eq_true] at hb2
      have b1 := Nat.le_of_ble_eq_true hb2.1
      have b2 := Nat.le_of_ble_eq_true hb2.2
      split at h
      ·have hmxn : mx = none := by
        cases mx with
        | none => rfl
        | some q => simp only [xT] at hmx; split at hmx <;> cases hmx
       rw [aE h]
       refine OpOk.pure hd hlt (LgLe.refl _) fun V hs _ γ a w R => ?_
       obtain ⟨p, cap, e3, e4, e5, e6⟩ := nT (aB hx hv R fun s h => hs s (by simp [h]))
       have hbb := bV (P := P) (w := w) (s := true) (m := cap) (cap := cap) (mx := mx.map a.eval) (hl R fun s h => hs s (by simp [h])) (hhh R fun s h => hs s (by simp [h])) (.inl ⟨by rw [hmxn]; rfl, rfl⟩) b1 (by omega) (Nat.le_refl _)
       have hrun := iN (P := P) (w := w) hu hz (ad := p) hbb
       refine ⟨_, by simp [execOp, ho, e3, hrun]; rfl, ?_⟩
       have hsub : Nat.sub hh l = hh - l := rfl
       have hlen : ((es.drop l).take (hh - l)).length = hh - l := by simp; omega
       rw [hsub]
       unfold DV
       refine ⟨_, cap - l, by rw [hlen], by omega, fun hp => ?_, ?_⟩
       ·split at hp
        ·omega
        ·cases p with
         | none => have := e5 rfl; omega
         | some _ => cases hp
       ·by_cases h0 : hh = l
        ·left; rw [h0]; simp
        ·right
         rcases e6 with rfl | ⟨b, o', vs, e, fr, k1, k2, rfl, k4, k5, k6⟩
         ·simp at b2; omega
         ·have hne : ¬ cap = l := by omega
          rw [if_neg hne]
          have hle : l * z + (hh - l) * z <= es.length * z := by rw [<- Nat.add_mul]; exact Nat.mul_le_mul_right z (by omega)
          refine ⟨b, o' + l * z, vs, e, fr, k1, k2, by simp [Addr.add_mid], by rw [hlen]; omega, ?_, ?_⟩
          ·rw [<- List.drop_drop]; exact xD (vZ k5)
          ·rw [hlen, <- List.drop_drop]
           intro u hu
           refine k6 u ?_
           have h2 : ((vs.toList.drop o').drop (l * z)).take ((hh - l) * z) = ((vs.toList.drop o').take (l * z + (hh - l) * z)).drop (l * z) := by rw [List.drop_take]; simp
           rw [h2] at hu
           have h3 := List.mem_of_mem_drop hu
           have h4 : (vs.toList.drop o').take (l * z + (hh - l) * z) = ((vs.toList.drop o').take (es.length * z)).take (l * z + (hh - l) * z) := by rw [List.take_take, Nat.min_eq_left hle]
           rw [h4] at h3
           exact List.mem_of_mem_take h3
      ·cases h
 all_goals
  rename_i hv
  obtain ⟨l, h1, hl⟩ := fC (P := P) (ob := ob) (nx := nx) (lg := lg) hlo h
  obtain ⟨hh, h2, hhh⟩ := fC (P := P) (ob := ob) (nx := nx) (lg := lg) hhi h1
  obtain ⟨m, h3, hm⟩ := fC (P := P) (ob := ob) (nx := nx) (lg := lg) hmx h2
  cases hb2 : (Nat.beq l 0 && Nat.beq hh 0 && Nat.beq m 0) with
  | false => rw [hb2] at h3; cases h3
  | true =>
    rw [hb2] at h3
    simp only [cond_true] at h3
    rw [Bool.and_eq_true, Bool.and_eq_true] at hb2
    obtain rfl := Nat.eq_of_beq_eq_true hb2.1.1
    obtain rfl := Nat.eq_of_beq_eq_true hb2.1.2
    obtain rfl := Nat.eq_of_beq_eq_true hb2.2
    rw [aE h3]
    refine OpOk.pure hd hlt (LgLe.refl _) fun V hs _ γ a w R => ?_
    have hbb : (Instr.sliceBounds true 0 0 (lo.map a.eval) (hi.map a.eval) (mx.map a.eval)).run P w = .ok (0, 0, 0) w := by
     refine bV (hl R fun s h => hs s (by simp [h])) (hhh R fun s h => hs s (by simp [h])) ?_ (Nat.le_refl _) (Nat.le_refl _) (Nat.le_refl _)
     rcases hm R fun s h => hs s (by simp [h]) with h1 | h1
     ·exact .inl h1
     ·exact .inr ⟨hne' a (by obtain ⟨_, h1⟩ := h1; rw [h1]; simp), h1⟩
    have hv := aB hx hv R fun s h => hs s (by simp [h])
    unfold DV at hv
    first
     | (have hr := iN (P := P) (w := w) hu hz (ad := none) hbb
        exact ⟨_, by simp [execOp, ho, hv, hr]; rfl, by unfold DV; rfl⟩)
     | (obtain ⟨ad, hv⟩ := hv
        have hr := iN (P := P) (w := w) hu hz (ad := some ad) hbb
        exact ⟨.slice (some ad) 0 0, by simp [execOp, ho, hv, hr], by unfold DV; exact ⟨ad, rfl⟩⟩)
theorem Eb {t el : TypeId} {x : Operand} {lo hi mx : Option Operand} {n z : Nat} {d : Pos} {r : RX} {rlo rhi rmx : Option RX} {Z : X} (ho : o.op = .slice t x lo hi mx) (hd : o.dst = some d.ix) (hlt : d.ix < nt) (hx : rx x = some r) (hlo : xT lo = some rlo) (hhi : xT hi = some rhi) (hmx : xT mx = some rmx)
 (hu : P.underlying t = some (.array n el)) (hz : cT P el = some z) (h : zS d n z r rlo rhi rmx sl ob nx lg = some Z) : OpOk P nt o (r.ss ++ (RX.sso rlo ++ (RX.sso rhi ++ RX.sso rmx))) ⟨sl, ob, nx, lg⟩ Z := by
 unfold zS at h
 split at h
 ·rename_i id off st hv
  split at h
  ·rename_i q cs cur hob
   obtain ⟨l, h, hl⟩ := fC (P := P) (ob := ob) (nx := nx) (lg := lg) hlo h
   obtain ⟨hh, h, hhh⟩ := fC (P := P) (ob := ob) (nx := nx) (lg := lg) hhi h
   split at h
   ·have hmxn : mx = none := by
     cases mx with
     | none => rfl
     | some q => simp only [xT] at hmx; split at hmx <;> cases hmx
    subst hmxn
    cases hb : (Nat.ble l hh && Nat.ble hh n && Nat.blt l n && Nat.blt 0 z) with
    | false => rw [hb] at h; cases h
    | true =>
      rw [hb] at h
      simp only [cond_true] at h
      rw [Bool.and_eq_true, Bool.and_eq_true, Bool.and_eq_true] at hb
      have b1 := Nat.le_of_ble_eq_true hb.1.1.1
      have b2 := Nat.le_of_ble_eq_true hb.1.1.2
      have b3 : l < n := Nat.le_of_ble_eq_true hb.1.2
      have b4 : 0 < z := Nat.le_of_ble_eq_true hb.2
      split at h
      ·rename_i c hc
       obtain ⟨h1, h2⟩ := jR h
       simp only [bB] at h2
       obtain ⟨lg', h3, h4, h5⟩ := eN h2
       rw [aE h3]
       rw [dJ] at hc
       have hpos : 0 < n * z := Nat.mul_pos (by omega) b4
       have hidx : Nat.pred (Nat.add off (Nat.mul n z)) = off + n * z - 1 := rfl
       rw [hidx] at hc
       refine OpOk.pure hd hlt h4 fun V hs hto γ a w R => ?_
       obtain ⟨e1, e2, e3⟩ := jN (aB hx hv R fun s h => hs s (by simp [h]))
       have H := R.ob id _ (hto id h5) hob
       obtain ⟨_, c1, c2⟩ := H
       obtain ⟨vs, e, fr, c3, c4, c5⟩ := c2 st (by omega)
       obtain ⟨u, c6, _⟩ := c5 _ c hc h1 (by omega)
       have hsz := (Array.getElem?_eq_some_iff.1 c6).1
       have hbb := bV (P := P) (w := w) (s := false) (len := n) (cap := n) (m := n) (hl R fun s h => hs s (by simp [h])) (hhh R fun s h => hs s (by simp [h])) (.inl ⟨rfl, rfl⟩) b1 b2 (Nat.le_refl _)
       have hnl : ¬ n = l := by omega
       refine ⟨.slice (some ⟨(γ.β id st).1, off - (γ.β id st).2 + l * z, none⟩) (hh - l) (n - l), ?_, ?_⟩
       ·simp [execOp, ho, e3, Instr.sliceAt, run_underlying hu, Instr.sureAddr, hbb, aP hz, hnl, Addr.add_mid]
       ·unfold DV
        have hadd : Nat.add off (Nat.mul l z) = off + l * z := rfl
        have hsub : Nat.sub hh l = hh - l := rfl
        rw [hadd, hsub]
        refine ⟨e1, by omega, n - l, e, vs.size, ?_, by omega, bX c3, ?_⟩
        ·rw [show off + l * z - (γ.β id st).2 = off - (γ.β id st).2 + l * z by omega]
        ·have : l * z + (n - l) * z = n * z := by rw [<- Nat.add_mul]; congr 1; omega
         omega
      ·cases h
   ·cases h
  ·cases h
 ·rename_i r' off hv
  obtain ⟨l, h, hl⟩ := fC (P := P) (ob := ob) (nx := nx) (lg := lg) hlo h
  obtain ⟨hh, h, hhh⟩ := fC (P := P) (ob := ob) (nx := nx) (lg := lg) hhi h
  split at h
  ·have hmxn : mx = none := by
    cases mx with
    | none => rfl
    | some q => simp only [xT] at hmx; split at hmx <;> cases hmx
   subst hmxn
   cases hb : (Nat.ble l hh && Nat.ble hh n && Nat.blt l n && Nat.ble (Nat.add off (Nat.mul n z)) (List.length r')) with
   | false => rw [hb] at h; cases h
   | true =>
     rw [hb] at h
     simp only [cond_true] at h
     rw [Bool.and_eq_true, Bool.and_eq_true, Bool.and_eq_true] at hb
     have b1 := Nat.le_of_ble_eq_true hb.1.1.1
     have b2 := Nat.le_of_ble_eq_true hb.1.1.2
     have b3 : l < n := Nat.le_of_ble_eq_true hb.1.2
     have b4 : off + n * z <= r'.length := Nat.le_of_ble_eq_true hb.2
     rw [aE h]
     refine OpOk.pure hd hlt (LgLe.refl _) fun V hs _ γ a w R => ?_
     obtain ⟨b, q, vs, e, fr, k1, k2, e3, k4, k5, k6⟩ := oS (aB hx hv R fun s h => hs s (by simp [h]))
     have hbb := bV (P := P) (w := w) (s := false) (len := n) (cap := n) (m := n) (hl R fun s h => hs s (by simp [h])) (hhh R fun s h => hs s (by simp [h])) (.inl ⟨rfl, rfl⟩) b1 b2 (Nat.le_refl _)
     have hnl : ¬ n = l := by omega
     refine ⟨.slice (some ⟨b, q + off + l * z, none⟩) (hh - l) (n - l), ?_, ?_⟩
     ·simp [execOp, ho, e3, Instr.sliceAt, run_underlying hu, Instr.sureAddr, hbb, aP hz, hnl, Addr.add_mid]
     ·unfold DV
      have hadd : Nat.add off (Nat.mul l z) = off + l * z := rfl
      have hsub : Nat.sub hh l = hh - l := rfl
      rw [hadd, hsub]
      have hlz : l * z + (hh - l) * z = hh * z := by rw [<- Nat.add_mul]; congr 1; omega
      have hhz : hh * z <= n * z := Nat.mul_le_mul_right z b2
      refine ⟨some ⟨b, q + off + l * z, none⟩, n - l, by rw [dI], by rw [dI]; omega, (fun hp => by cases hp), .inr ⟨b, q + off + l * z, vs, e, fr, k1, k2, rfl, by rw [dI]; omega, ?_, ?_⟩⟩
      ·refine qN (by simp; omega) ?_
       have h1 := k5.drop (off + l * z)
       rw [List.drop_take, List.drop_drop] at h1
       rw [Nat.add_assoc]
       simpa using h1
      ·rw [dI]
       intro u hu
       refine k6 u ?_
       have h2 : (vs.toList.drop (q + off + l * z)).take ((hh - l) * z) = (((vs.toList.drop q).take r'.length).drop (off + l * z)).take ((hh - l) * z) := by
        rw [List.drop_take, List.take_take, List.drop_drop, Nat.min_eq_left (by omega), Nat.add_assoc]
       rw [h2] at hu
       exact List.mem_of_mem_drop (List.mem_of_mem_take hu)
  ·cases h
 ·cases h
theorem Cq {args : Array Operand} {tys : Array TypeId} {t el : TypeId} {x : Operand} {z : Nat} {zs : List D} {r1 : RX} {Z : X} (ho : o.op = .call { callee := .builtin .clear, args := args, argTypes := tys }) (ha : args.toList = [x]) (hty : tys.toList = [t])
 (hd : o.dst = none)
 (hx : rx x = some r1) (hu : P.underlying t = some (.slice el)) (hs : cT P el = some z) (hz : eC P el = some zs) (hzl : zs.length = z) (h : Au z zs r1 sl ob nx lg = some Z) : OpOk P nt o r1.ss ⟨sl, ob, nx, lg⟩ Z := by
 have hargs : args = #[x] := by rw [<- Array.toArray_toList (xs := args), ha]
 have htys : tys = #[t] := by rw [<- Array.toArray_toList (xs := tys), hty]
 subst hargs
 subst htys
 obtain ⟨i, zv, hi, hzv, hcd⟩ : ∃ i zv, P.info? el = some i /\ i.zero = some zv /\ gF zv.cells.toList = some zs := by
  unfold eC at hz
  split at hz
  ·rename_i i hi
   split at hz
   ·rename_i zv hzv
    exact ⟨i, zv, hi, hzv, hz⟩
   ·cases hz
  ·cases hz
 have z2 : ∀ γ w, DVL γ w zs zv.cells.toList := fun γ w => (bR hcd).1
 have z3 : ∀ u ∈ zv.cells.toList, u.oneCell' = true := (bR (γ := ⟨fun _ => 0, fun _ _ => (0, 0), fun _ => False⟩) (w := default) hcd).2
 have zsz : zv.cells.size = z := by
  have := (aK.1 (z2 ⟨fun _ => 0, fun _ _ => (0, 0), fun _ => False⟩ default)).1
  rw [hzl] at this
  simpa using this.symm
 unfold Au at h
 split at h
 ·rename_i id off len st z' hvx
  cases hb : (Nat.beq z z' && Nat.blt 0 (List.length (fQ zs len))) with
  | false => rw [hb] at h; cases h
  | true =>
    rw [hb] at h
    simp only [cond_true] at h
    rw [Bool.and_eq_true] at hb
    obtain rfl := Nat.eq_of_beq_eq_true hb.1
    have b2 : 0 < (fQ zs len).length := Nat.le_of_ble_eq_true hb.2
    have hl0 : len ≠ 0 := fun e => by subst e; simp [fQ] at b2
    split at h
    ·rename_i cs cur hob
     have key : ∀ mk : D -> Cell, ((mk = (fun d => .o d st) /\ st + 1 = cur) \/ mk = (fun d => .c d st st)) -> eL st mk (fQ zs len) off cs (fun cs => oP sl ob nx lg id (.cells false cs cur)) = some Z -> OpOk P nt o r1.ss ⟨sl, ob, nx, lg⟩ Z := by
      intro mk hmk h
      obtain ⟨g1, g2, g3⟩ := kO h
      obtain ⟨lg2, rfl, h7, h8⟩ := lS g2
      exact OpOk.skip hd h7 ((Keeps.refl _ _).set h8 _) fun V hs hto ro γ a w g R => by
       obtain ⟨e1, e2, cap, e, m, e3, e4, e5, e6⟩ := gT (aB hx hvx R fun s h => hs s h)
       have hinit : DVL γ w (fQ zs len) (Builtin.zeroCells zv.cells len).toList /\ ∀ u ∈ (Builtin.zeroCells zv.cells len).toList, u.oneCell' = true := by
        unfold Builtin.zeroCells
        exact mI (z2 γ w) z3 (by rw [hzl, zsz])
       obtain ⟨vs, e7, p1, p2, F, g', H'⟩ := lA g (R.ob id _ (hto id h8.tchd) hob) e1 e2 b2 g1 g3 hinit.1 hinit.2 hmk
       have hst := run_storeCells_cells (P := P) (γ.β id st).1 (off - (γ.β id st).2) (Builtin.zeroCells zv.cells len).toList 0 w (fun j hj => by
        have : off - (γ.β id st).2 + j < vs.size := by omega
        simp [World.cell?, p1, this]) (fun j hj => by simp [World.frozen?, p1]) hinit.2
       simp only [Nat.add_zero] at hst
       refine ⟨_, .inr ⟨.tuple #[], ?_⟩, F.mono (fun j e => by rw [e]; exact h8), g', aQ R g F fun _ => H'⟩
       obtain ⟨cst, hb⟩ := jC (P := P) ho a w
       rw [hb]
       simp [builtin, Builtin.clear_, run_underlying hu, e3, hl0, zeroValue, hi, hzv, typeInfo, hst]
     cases hb2 : Nat.beq (Nat.succ st) cur with
     | true =>
       rw [hb2] at h
       exact key _ (.inl ⟨rfl, Nat.eq_of_beq_eq_true hb2⟩) h
     | false =>
       rw [hb2] at h
       exact key _ (.inr rfl) h
    ·cases h
 ·cases h
theorem uK {args : Array Operand} {tys : Array TypeId} {t tx el e' : TypeId} {x y : Operand} {z : Nat} {dst : Option Pos} {r1 r2 : RX} {Z : X} (ho : o.op = .call { callee := .builtin .copy, args := args, argTypes := tys }) (ha : args.toList = [x, y]) (hty : tys.toList = [t, tx])
 (hd : o.dst = dst.map Pos.ix) (hlt : ∀ d, dst = some d -> d.ix < nt)
 (hx : rx x = some r1) (hy : rx y = some r2) (hu : P.underlying t = some (.slice el)) (hz : cT P el = some z) (hux : P.underlying tx = some (.slice e')) (h : AV dst z r1 r2 sl ob nx lg = some Z) : OpOk P nt o (r1.ss ++ r2.ss) ⟨sl, ob, nx, lg⟩ Z := by
 have hargs : args = #[x, y] := by rw [<- Array.toArray_toList (xs := args), ha]
 have htys : tys = #[t, tx] := by rw [<- Array.toArray_toList (xs := tys), hty]
 subst hargs
 subst htys
 unfold AV at h
 split at h
 ·rename_i id off len st z' dy hvx hvy
  obtain ⟨idy, n, ds, h1, h2, h3⟩ := zX (P := P) (sl := sl) (nx := nx) (lg := lg) h
  obtain ⟨lg1, h4, h5, h6⟩ := zM h1
  cases hb : (Nat.beq z z' && Nat.ble n len && Nat.blt 0 (List.length ds)) with
  | false => rw [hb] at h4; cases h4
  | true =>
    rw [hb] at h4
    simp only [cond_true] at h4
    rw [Bool.and_eq_true, Bool.and_eq_true] at hb
    obtain rfl := Nat.eq_of_beq_eq_true hb.1.1
    have b1 := Nat.le_of_ble_eq_true hb.1.2
    have b2 : 0 < ds.length := Nat.le_of_ble_eq_true hb.2
    split at h4
    ·rename_i cs cur hob
     have key : ∀ mk : D -> Cell, ((mk = (fun d => .o d st) /\ st + 1 = cur) \/ mk = (fun d => .c d st st)) -> eL st mk ds off cs (fun cs => match dst with
      | none => oP sl ob nx lg1 id (.cells false cs cur)
      | some d => eP sl ob nx lg1 id (.cells false cs cur) d (.i .i64 (.ofNat n))) = some Z -> OpOk P nt o (r1.ss ++ r2.ss) ⟨sl, ob, nx, lg⟩ Z := by
      intro mk hmk h
      obtain ⟨g1, g2, g3⟩ := kO h
      -- the run itself
      have run : ∀ {V : Sel} {lg2 : Option (T Bool)}, (∀ s, s ∈ r1.ss ++ r2.ss -> V.ss s) -> (∀ j, tchd lg2 j -> V.so j) -> LgLe lg1 lg2 -> wrtn lg2 id -> ∀ (ro : Option Nat) (γ : Gh) (a : Act) (w : World), G ro γ a w -> Rep P V γ a w ⟨sl, ob, nx, lg⟩ ->
       ∃ w', (execOp a.eval o).run P w = .ok (.value (.int .i64 (n : Int))) w' /\ Fr (wrtn lg2) γ γ w w' /\ (∀ a' : Act, a'.defers = a.defers -> G ro γ a' w') /\
         (∀ j c, V.so j -> (T.set id (.cells false (cs.take off ++ (ds.map mk ++ cs.drop (off + ds.length))) cur) ob).get j = some c -> HoldsO P γ w' j c) := by
       intro V lg2 hs hto hl2 hw2 ro γ a w g R
       obtain ⟨e1, e2, cap, e, m, e3, e4, e5, e6⟩ := gT (aB hx hvx R fun s h => hs s (by simp [h]))
       obtain ⟨us, q1, q2, ⟨ad, cap2, q5⟩, q4⟩ := h3 R (fun j e => hto j (hl2.t j (h6 j e))) (aB hy hvy R fun s h => hs s (by simp [h])) hux
       obtain ⟨vs, e7, p1, p2, F, g', H'⟩ := lA g (R.ob id _ (hto id hw2.tchd) hob) e1 e2 b2 g1 g3 q2 q4 hmk
       have hst := run_storeCells_cells (P := P) (γ.β id st).1 (off - (γ.β id st).2) us 0 w (fun j hj => by
        have : off - (γ.β id st).2 + j < vs.size := by omega
        simp [World.cell?, p1, this]) (fun j hj => by simp [World.frozen?, p1]) q4
       simp only [Nat.add_zero] at hst
       refine ⟨_, ?_, F.mono (fun j e => by rw [e]; exact hw2), g', aQ R g F fun _ => H'⟩
       obtain ⟨cst, hb⟩ := jC (P := P) ho a w
       rw [hb]
       have hl := q1.len w
       have hc := q1.cells
       have hmin : Nat.min n len = n := by show min n len = n; omega
       simp [builtin, Builtin.copy_, run_underlying hu, e3, hl, hmin, aP hz, hc, hst, goInt]
      cases dst with
      | none =>
        obtain ⟨lg2, rfl, h7, h8⟩ := lS g2
        exact OpOk.skip hd (h5.trans h7) ((Keeps.refl _ _).set h8 _) fun V hs hto ro γ a w g R => by
         obtain ⟨w', k1, k2⟩ := run hs hto h7 h8 ro γ a w g R
         exact ⟨w', .inr ⟨_, k1⟩, k2⟩
      | some d =>
        obtain ⟨lg2, rfl, h7, h8⟩ := rV g2
        exact OpOk.value hd (hlt d rfl) (h5.trans h7) (Nat.le_refl _) ((Keeps.refl _ _).set h8 _) fun V hs hto ro γ a w g R => by
         obtain ⟨w', k1, k2, k3, k4⟩ := run hs hto h7 h8 ro γ a w g R
         exact ⟨_, w', γ, k1, k2, k3, DV_of_i _ _, k4, R.nx⟩
     cases hb2 : Nat.beq (Nat.succ st) cur with
     | true =>
       rw [hb2] at h4
       exact key _ (.inl ⟨rfl, Nat.eq_of_beq_eq_true hb2⟩) h4
     | false =>
       rw [hb2] at h4
       exact key _ (.inr rfl) h4
    ·cases h4
 ·cases h
end
open Go.RowKit (Below)
def hD : Value -> Lit
 | .bool b => .bool b
 | .int k n => .int k n
 | _ => .nil
def Mt : List LK -> List Value -> Prop
 | [], us => us = []
 | .b :: ks, us => ∃ b r, us = .bool b :: r /\ Mt ks r
 | .i k :: ks, us => ∃ n r, us = .int k n :: r /\ (Lit.int k n).wf = true /\ Mt ks r
theorem Mt.length : ∀ {ks : List LK} {us : List Value}, Mt ks us -> us.length = ks.length
 | [], us, h => by unfold Mt at h; rw [h]; rfl
 | .b :: ks, us, h => by
   unfold Mt at h
   obtain ⟨b, r, rfl, h⟩ := h
   simp [Mt.length h]
 | .i k :: ks, us, h => by
   unfold Mt at h
   obtain ⟨n, r, rfl, _, h⟩ := h
   simp [Mt.length h]
theorem Mt.split : ∀ {a b : List LK} {us : List Value}, Mt (a ++ b) us -> Mt a (us.take a.length) /\ Mt b (us.drop a.length)
 | [], b, us, h => by simpa [Mt] using h
 | .b :: ks, b, us, h => by
   rw [List.cons_append] at h
   unfold Mt at h
   obtain ⟨x, r, rfl, h⟩ := h
   obtain ⟨h1, h2⟩ := Mt.split h
   refine ⟨?_, by simpa using h2⟩
   simp only [List.length_cons, List.take_succ_cons]
   unfold Mt
   exact ⟨x, _, rfl, h1⟩
 | .i k :: ks, b, us, h => by
   rw [List.cons_append] at h
   unfold Mt at h
   obtain ⟨x, r, rfl, hw, h⟩ := h
   obtain ⟨h1, h2⟩ := Mt.split h
   refine ⟨?_, by simpa using h2⟩
   simp only [List.length_cons, List.take_succ_cons]
   unfold Mt
   exact ⟨x, _, rfl, hw, h1⟩
section
variable {P : Program}
theorem tN {d : Nat} (IH : ∀ t ks, iU P d t = some ks -> ∀ us, Mt ks us -> P.keyLits d t us = some (us.map hD)) :
 ∀ {fs : List Field} {acc : Nat} {ks : List LK}, vE P (iU P d) fs acc = some ks -> ∀ us : List Value, Mt ks (us.drop acc) ->
   ∃ ls, (fs.mapM fun f => P.keyLits d f.type ((us.drop f.offset).take (P.cellsOf f.type))) = some ls /\ ls.flatten = (us.drop acc).map hD
 | [], acc, ks, h, us, hm => by
   cases h
   unfold Mt at hm
   exact ⟨[], rfl, by rw [hm]; rfl⟩
 | f :: fs, acc, ks, h, us, hm => by
   simp only [vE] at h
   split at h
   ·rename_i kf hkf
    cases hb : (Nat.beq f.offset acc && Nat.beq (P.cellsOf f.type) kf.length) with
    | false => rw [hb] at h; cases h
    | true =>
      rw [hb] at h
      simp only [cond_true] at h
      rw [Bool.and_eq_true] at hb
      have e1 := Nat.eq_of_beq_eq_true hb.1
      have e2 := Nat.eq_of_beq_eq_true hb.2
      split at h
      ·rename_i r hr
       cases h
       obtain ⟨m1, m2⟩ := hm.split
       have h1 := IH f.type kf hkf _ m1
       rw [List.drop_drop] at m2
       obtain ⟨ls, h2, h3⟩ := tN IH hr us m2
       refine ⟨((us.drop acc).take kf.length).map hD :: ls, ?_, ?_⟩
       ·rw [List.mapM_cons]
        rw [e1, e2, h1]
        simp only [Option.pure_def, Option.bind_eq_bind, Option.bind_some]
        rw [h2]; rfl
       ·rw [List.flatten_cons, h3, <- List.map_append]
        congr 1
        rw [<- List.drop_drop, List.take_append_drop]
      ·cases h
   ·cases h
theorem Ax {d : Nat} {e : TypeId} {ks : List LK} (IH : ∀ us, Mt ks us -> P.keyLits d e us = some (us.map hD)) {us : List Value} : ∀ {n i : Nat}, Mt (vN ks n) (us.drop (i * ks.length)) ->
 ∃ ls, ((List.range' i n).mapM fun j => P.keyLits d e ((us.drop (j * ks.length)).take ks.length)) = some ls /\ ls.flatten = (us.drop (i * ks.length)).map hD
 | 0, i, hm => by
   simp only [vN] at hm
   unfold Mt at hm
   exact ⟨[], rfl, by rw [hm]; rfl⟩
 | n + 1, i, hm => by
   simp only [vN] at hm
   obtain ⟨m1, m2⟩ := hm.split
   rw [List.drop_drop, show i * ks.length + ks.length = (i + 1) * ks.length by rw [Nat.add_mul, Nat.one_mul]] at m2
   obtain ⟨ls, h2, h3⟩ := Ax IH m2
   refine ⟨((us.drop (i * ks.length)).take ks.length).map hD :: ls, ?_, ?_⟩
   ·rw [List.range'_succ, List.mapM_cons, IH _ m1]
    simp only [Option.pure_def, Option.bind_eq_bind, Option.bind_some]
    rw [h2]; rfl
   ·rw [List.flatten_cons, h3, <- List.map_append]
    congr 1
    rw [show (i + 1) * ks.length = i * ks.length + ks.length by rw [Nat.add_mul, Nat.one_mul], <- List.drop_drop, List.take_append_drop]
theorem jH (ks : List LK) : ∀ n, (vN ks n).length = n * ks.length
 | 0 => by simp [vN]
 | n + 1 => by simp [vN, jH ks n, Nat.add_mul]; omega
theorem jL : ∀ d t ks, iU P d t = some ks -> ∀ us, Mt ks us -> P.keyLits d t us = some (us.map hD)
 | 0, t, ks, h, us, hm => by cases h
 | d + 1, t, ks, h, us, hm => by
   unfold iU at h
   split at h
   ·rename_i hu
    cases h
    unfold Mt at hm
    obtain ⟨b, r, rfl, hm⟩ := hm
    unfold Mt at hm
    subst hm
    simp [Program.keyLits, hu, hD]
   ·rename_i k hu
    cases h
    unfold Mt at hm
    obtain ⟨n, r, rfl, hw, hm⟩ := hm
    unfold Mt at hm
    subst hm
    simp [Program.keyLits, hu, hD, hw]
   ·rename_i fs hu
    split at h
    ·rename_i ks' hk
     cases hb : (Nat.beq (P.cellsOf t) ks'.length && fs.all (·.name != "_")) with
     | false => rw [hb] at h; cases h
     | true =>
       rw [hb] at h
       cases h
       rw [Bool.and_eq_true] at hb
       have e1 := Nat.eq_of_beq_eq_true hb.1
       obtain ⟨ls, h1, h2⟩ := tN (jL d) hk us (by simpa using hm)
       have hl : us.length = P.cellsOf t := by rw [hm.length, e1]
       unfold Program.keyLits
       simp only [hu]
       rw [if_pos ⟨hl, hb.2⟩, h1]
       simp [h2]
    ·cases h
   ·rename_i n e hu
    split at h
    ·rename_i ks' hk
     cases hb : (Nat.beq (P.cellsOf t) (n * ks'.length) && Nat.beq (P.cellsOf e) ks'.length) with
     | false => rw [hb] at h; cases h
     | true =>
       rw [hb] at h
       cases h
       rw [Bool.and_eq_true] at hb
       have e1 := Nat.eq_of_beq_eq_true hb.1
       have e2 := Nat.eq_of_beq_eq_true hb.2
       obtain ⟨ls, h1, h2⟩ := Ax (jL d e ks' hk) (us := us) (n := n) (i := 0) (by simpa using hm)
       have hl : us.length = P.cellsOf t := by rw [hm.length, jH, e1]
       unfold Program.keyLits
       simp only [hu]
       rw [if_pos hl, e2, List.range_eq_range', h1]
       simp [h2]
    ·cases h
   ·cases h
theorem DK {k : IntKind} {n : Int} (h : AU k n = true) : (Lit.int k n).wf = true := by
 unfold AU at h
 split at h
 ·rename_i m
  have h := Nat.le_of_ble_eq_true h
  have h0 : (Int.ofNat m) = (m : Int) := rfl
  cases k <;> simp only [fF] at h <;> simp [Lit.wf, IntKind.min, IntKind.max, IntKind.signed, IntKind.bits] <;> omega
 ·rename_i m
  rw [Bool.and_eq_true] at h
  have h1 := Nat.le_of_ble_eq_true h.2
  cases k <;> simp only [fF] at h1 <;> first | (simp [IntKind.signed] at h; done) | (simp [Lit.wf, IntKind.min, IntKind.max, IntKind.signed, IntKind.bits] <;> omega)
theorem EK {γ γ' : Gh} {w w' : World} : ∀ {ks : List LK} {xs ys : List D} {b : Bool} {us vs : List Value}, Fu ks xs ys = some b -> DVL γ w xs us -> DVL γ' w' ys vs ->
 Mt ks us /\ Mt ks vs /\ (b = true ↔ us = vs) /\ (us.map hD = vs.map hD ↔ us = vs)
 | [], [], [], b, us, vs, h, hx, hy => by
   cases h
   unfold DVL at hx hy
   subst hx hy
   exact ⟨rfl, rfl, by simp, by simp⟩
 | k :: ks, x :: xs, y :: ys, b, us, vs, h, hx, hy => by
   simp only [Fu] at h
   split at h
   ·rename_i p q hp hq
    cases h
    unfold DVL at hx hy
    obtain ⟨u, us', rfl, hu, hus⟩ := hx
    obtain ⟨v, vs', rfl, hv, hvs⟩ := hy
    obtain ⟨h1, h2, h3, h4⟩ := EK hq hus hvs
    unfold Of at hp
    split at hp
    ·rename_i a c
     cases hp
     cases pL hu
     cases pL hv
     refine ⟨⟨a, us', rfl, h1⟩, ⟨c, vs', rfl, h2⟩, ?_, ?_⟩
     ·rw [Bool.and_eq_true, h3]; simp
     ·simp only [List.map_cons, hD, List.cons.injEq, Lit.bool.injEq, Value.bool.injEq, h4]
    ·rename_i k0 k1 a k2 c
     cases hb : (sI k1 k0 && sI k2 k0 && AU k0 a && AU k0 c) with
     | false => rw [hb] at hp; cases hp
     | true =>
       rw [hb] at hp
       cases hp
       simp only [Bool.and_eq_true] at hb
       cases fR.1 hb.1.1.1
       cases fR.1 hb.1.1.2
       cases fT hu
       cases fT hv
       refine ⟨⟨a, us', rfl, DK hb.1.2, h1⟩, ⟨c, vs', rfl, DK hb.2, h2⟩, ?_, ?_⟩
       ·rw [Bool.and_eq_true, h3, mY]; simp
       ·simp only [List.map_cons, hD, List.cons.injEq, Lit.int.injEq, Value.int.injEq, true_and, h4]
    ·cases hp
   ·cases h
 | [], x :: xs, ys, b, us, vs, h, hx, hy => by simp [Fu] at h
 | [], [], y :: ys, b, us, vs, h, hx, hy => by simp [Fu] at h
 | k :: ks, [], ys, b, us, vs, h, hx, hy => by simp [Fu] at h
 | k :: ks, x :: xs, [], b, us, vs, h, hx, hy => by simp [Fu] at h
theorem gP {t : TypeId} {ks : List LK} (h : dM P t = some ks) : dS P t = some true /\ P.keyTypeAt 20 t = true /\ P.eqGuardType P.depth t = false /\ iU P 20 t = some ks := by
 unfold dM at h
 split at h
 ·rename_i hr
  cases hb : (P.keyTypeAt 20 t && !P.eqGuardType P.depth t) with
  | false => rw [hb] at h; cases h
  | true =>
    rw [hb] at h
    rw [Bool.and_eq_true] at hb
    exact ⟨hr, hb.1, by simpa using hb.2, h⟩
 ·cases h
theorem lO {t : TypeId} {ks : List LK} (h : dM P t = some ks) {us : Array Value} (hm : Mt ks us.toList) : (Value.agg us).formed P t = true := by
 obtain ⟨h1, h2, h3, h4⟩ := gP h
 have hl := hm.length
 have hsz : P.cellsOf t = ks.length := by
  unfold iU at h4
  split at h4
  ·rename_i hu; unfold dS at h1; rw [hu] at h1; cases h1
  ·rename_i hu; unfold dS at h1; rw [hu] at h1; cases h1
  ·split at h4
   ·rename_i ks' hk
    cases hb : (Nat.beq (P.cellsOf t) ks'.length && _) with
    | false => rw [hb] at h4; cases h4
    | true =>
      rw [hb] at h4
      cases h4
      rw [Bool.and_eq_true] at hb
      exact Nat.eq_of_beq_eq_true hb.1
   ·cases h4
  ·split at h4
   ·rename_i ks' hk
    cases hb : (Nat.beq (P.cellsOf t) (_ * ks'.length) && _) with
    | false => rw [hb] at h4; cases h4
    | true =>
      rw [hb] at h4
      cases h4
      rw [Bool.and_eq_true] at hb
      rw [jH]
      exact Nat.eq_of_beq_eq_true hb.1
   ·cases h4
  ·cases h4
 unfold dS at h1
 split at h1
 ·rename_i hu; simp [Value.formed, hu, hsz]; simpa using hl
 ·rename_i hu; simp [Value.formed, hu, hsz]; simpa using hl
 ·cases h1
 ·cases h1
theorem cE {t : TypeId} {ks : List LK} (h : dM P t = some ks) {γ γ' : Gh} {w w' : World} {x y : D} {b : Bool} (he : BW ks x y = some b) {u v : Value} (hu : DV γ w x u) (hv : DV γ' w' y v) (w0 : World) :
 (Op.equal t u v).run P w0 = .ok b w0 /\ (b = true ↔ u = v) /\ ∃ us vs, u = .agg us /\ v = .agg vs /\ Mt ks us.toList /\ Mt ks vs.toList := by
 unfold BW at he
 split at he
 ·rename_i xs ys
  obtain ⟨us, rfl, h1, _⟩ := nC hu
  obtain ⟨vs, rfl, h2, _⟩ := nC hv
  obtain ⟨m1, m2, e1, e2⟩ := EK he h1 h2
  obtain ⟨h3, h4, h5, h6⟩ := gP h
  obtain ⟨r, hr, hiff⟩ := run_equalIn_deep (P := P) 9980 20 t h4 w0 20 20 (.agg us) (.agg vs) _ _ (lO h m1) (lO h m2) (jL 20 t ks h6 _ m1) (jL 20 t ks h6 _ m2)
  have hbr : b = r := by
   have : b = true ↔ r = true := by rw [hiff]; exact e1.trans e2.symm
   cases b <;> cases r <;> simp_all
  subst hbr
  refine ⟨hr, ?_, us, vs, rfl, rfl, m1, m2⟩
  rw [e1]
  constructor
  ·intro e; rw [show us = vs from Array.ext' e]
  ·intro e; cases e; rfl
 ·cases he
theorem gZ {t : TypeId} {ks : List LK} (h : dM P t = some ks) {us : Array Value} (hm : Mt ks us.toList) (em : Bool) (w0 : World) : (Instr.checkKey em 10000 t (.agg us)).run P w0 = .ok () w0 := by
 obtain ⟨h3, h4, h5, h6⟩ := gP h
 exact run_checkKey_deep em 9980 20 t h4 w0 20 (.agg us) _ (lO h hm) (jL 20 t ks h6 _ hm)
end
open Go.RowKit (Below)
section
variable {P : Program} {V : Sel} {γ : Gh} {a : Act} {w : World} {sl : T D} {ob : T C} {nx : Pos} {lg : Option (T Bool)} {nt : Nat} {o : Oper} {ro : Option Nat}
theorem vA {op : BinOp} {t t' : TypeId} {x y : Operand} {neg : Bool} {ks : List LK} {d : Pos} {r1 r2 : RX} {Z : X} (ho : o.op = .binOp op t x y t') (hop : op = bif neg then .neq else .eql) (hk : dM P t = some ks) (hd : o.dst = some d.ix) (hlt : d.ix < nt) (hx : rx x = some r1) (hy : rx y = some r2)
 (h : sY d neg ks r1 r2 sl ob nx lg = some Z) : OpOk P nt o (r1.ss ++ r2.ss) ⟨sl, ob, nx, lg⟩ Z := by
 unfold sY at h
 split at h
 ·rename_i p q hp hq
  split at h
  ·rename_i e he
   rw [bE] at h
   rw [aE h]
   refine OpOk.pure hd hlt (LgLe.refl _) fun V hs _ γ a w R => ⟨.bool (bif neg then !e else e), ?_, dD _⟩
   obtain ⟨h1, _, us, vs, h2, h3, _, _⟩ := cE hk he (aB hx hp R fun s h => hs s (by simp [h])) (aB hy hq R fun s h => hs s (by simp [h])) w
   have hg := (gP hk).2.2.1
   rw [h2, h3] at h1
   subst hop
   cases neg <;> simp [execOp, ho, h2, h3, eqGuard, hg, binOp, h1]
  ·cases h
 ·cases h
theorem bU {t e : TypeId} (hu : P.underlying t = some (.pointer e)) (p : Option Addr) (w : World) : (Op.equal t (.pointer p) (.pointer none)).run P w = .ok p.isNone w /\ (Op.equal t (.pointer none) (.pointer p)).run P w = .ok p.isNone w := by
 have h9 : ∀ d : Nat, (Op.equalIn (d + 1) t (.pointer p) (.pointer none)).run P w = .ok p.isNone w /\ (Op.equalIn (d + 1) t (.pointer none) (.pointer p)).run P w = .ok p.isNone w := by
  intro d
  constructor
  ·rw [Op.equalIn, Sem.run_bind, run_underlying hu]
   cases p <;> rfl
  ·rw [Op.equalIn, Sem.run_bind, run_underlying hu]
   rfl
 exact h9 9999
theorem aR {t e : TypeId} (hu : P.underlying t = some (.slice e)) (p : Option Addr) (n c : Nat) (w : World) : (Op.equal t (.slice p n c) (.slice none 0 0)).run P w = .ok p.isNone w /\ (Op.equal t (.slice none 0 0) (.slice p n c)).run P w = .ok p.isNone w := by
 have h9 : ∀ d : Nat, (Op.equalIn (d + 1) t (.slice p n c) (.slice none 0 0)).run P w = .ok p.isNone w /\ (Op.equalIn (d + 1) t (.slice none 0 0) (.slice p n c)).run P w = .ok p.isNone w := by
  intro d
  constructor
  ·rw [Op.equalIn, Sem.run_bind, run_underlying hu]
   cases p <;> rfl
  ·rw [Op.equalIn, Sem.run_bind, run_underlying hu]
   rfl
 exact h9 9999
theorem dZ {t k e : TypeId} (hu : P.underlying t = some (.map k e)) (p : Option Nat) (w : World) : (Op.equal t (.map p) (.map none)).run P w = .ok p.isNone w := by
 have h9 : ∀ d : Nat, (Op.equalIn (d + 1) t (.map p) (.map none)).run P w = .ok p.isNone w := by
  intro d
  rw [Op.equalIn, Sem.run_bind, run_underlying hu]
  cases p <;> rfl
 exact h9 9999
theorem jB {t : TypeId} (hu : P.underlying t = some .bool) (x y : Bool) (w : World) : (Op.equal t (.bool x) (.bool y)).run P w = .ok (x == y) w := by
 have h9 : ∀ d : Nat, (Op.equalIn (d + 1) t (.bool x) (.bool y)).run P w = .ok (x == y) w := by
  intro d
  rw [Op.equalIn, Sem.run_bind, run_underlying hu]
  rfl
 exact h9 9999
theorem eA {t : TypeId} {p q : Array TypeId} {v : Bool} (hu : P.underlying t = some (.func p q v)) (w : World) : (Op.equal t .nilFunc .nilFunc).run P w = .ok true w /\ ∀ f x y, (Op.equal t (.func f x y) .nilFunc).run P w = .ok false w := by
 have h9 : ∀ d : Nat, (Op.equalIn (d + 1) t .nilFunc .nilFunc).run P w = .ok true w /\ ∀ f x y, (Op.equalIn (d + 1) t (.func f x y) .nilFunc).run P w = .ok false w := by
  intro d
  refine ⟨?_, fun f x y => ?_⟩
  ·rw [Op.equalIn, Sem.run_bind, run_underlying hu]; rfl
  ·rw [Op.equalIn, Sem.run_bind, run_underlying hu]; rfl
 exact h9 9999
theorem Ia {t : TypeId} {tk : Nat} {x y : D} {b : Bool} (ht : iW P t = some tk) (h : Mw tk x y = some b) {u v : Value} (hu : DV γ w x u) (hv : DV γ w y v) (w0 : World) :
 (Op.equal t u v).run P w0 = .ok b w0 /\ ∀ (op : BinOp) (p q : Operand), (op = .eql \/ op = .neq) -> (eqGuard op t p q u v).run P w0 = .ok () w0 /\ (binOp op t u v).run P w0 = ((Op.equal t u v).run P w0).andThen fun r w' => .ok (.bool (bif (op matches .neq) then !r else r)) w' := by
 have fin : ∀ {u v : Value}, (Op.equal t u v).run P w0 = .ok b w0 -> (∀ (op : BinOp) (p q : Operand), (op = .eql \/ op = .neq) -> (eqGuard op t p q u v).run P w0 = .ok () w0 /\ (binOp op t u v).run P w0 = ((Op.equal t u v).run P w0).andThen fun r w' => .ok (.bool (bif (op matches .neq) then !r else r)) w') ->
  (Op.equal t u v).run P w0 = .ok b w0 /\ ∀ (op : BinOp) (p q : Operand), (op = .eql \/ op = .neq) -> (eqGuard op t p q u v).run P w0 = .ok () w0 /\ (binOp op t u v).run P w0 = ((Op.equal t u v).run P w0).andThen fun r w' => .ok (.bool (bif (op matches .neq) then !r else r)) w' := fun h k => ⟨h, k⟩
 unfold Mw at h
 split at h
 ·cases h
  cases pL hu
  cases pL hv
  have hty : P.underlying t = some .bool := by
   unfold iW at ht; split at ht <;> first | assumption | cases ht
  refine fin (jB hty _ _ _) fun op p q hop => ⟨?_, ?_⟩
  ·rcases hop with rfl | rfl <;> simp [eqGuard]
  ·rcases hop with rfl | rfl <;> simp [binOp, jB hty]
 all_goals first | (cases h; done) | skip
 all_goals
  cases h
  unfold DV at hu hv
 ·obtain ⟨e, hty⟩ : ∃ e, P.underlying t = some (.slice e) := by unfold iW at ht; split at ht <;> first | exact ⟨_, by assumption⟩ | cases ht
  subst hu hv
  refine fin (aR hty none 0 0 w0).1 fun op p q hop => ⟨?_, ?_⟩ <;> rcases hop with rfl | rfl <;> simp [eqGuard, binOp, (aR hty none 0 0 w0).1]
 ·obtain ⟨e, hty⟩ : ∃ e, P.underlying t = some (.slice e) := by unfold iW at ht; split at ht <;> first | exact ⟨_, by assumption⟩ | cases ht
  obtain ⟨_, _, cap, _, _, rfl, _⟩ := hu
  subst hv
  refine fin (aR hty _ _ _ w0).1 fun op p q hop => ⟨?_, ?_⟩ <;> rcases hop with rfl | rfl <;> simp [eqGuard, binOp, (aR hty _ _ _ w0).1]
 ·obtain ⟨e, hty⟩ : ∃ e, P.underlying t = some (.slice e) := by unfold iW at ht; split at ht <;> first | exact ⟨_, by assumption⟩ | cases ht
  obtain ⟨_, rfl⟩ := hu
  subst hv
  refine fin (aR hty _ _ _ w0).1 fun op p q hop => ⟨?_, ?_⟩ <;> rcases hop with rfl | rfl <;> simp [eqGuard, binOp, (aR hty _ _ _ w0).1]
 ·obtain ⟨e, hty⟩ : ∃ e, P.underlying t = some (.slice e) := by unfold iW at ht; split at ht <;> first | exact ⟨_, by assumption⟩ | cases ht
  obtain ⟨p0, cap, rfl, _, _, hlst⟩ := hu
  obtain ⟨_, _, _, _, _, _, _, rfl, _⟩ := hlst.resolve_left (fun h => by cases h)
  subst hv
  refine fin (aR hty _ _ _ w0).1 fun op p q hop => ⟨?_, ?_⟩ <;> rcases hop with rfl | rfl <;> simp [eqGuard, binOp, (aR hty _ _ _ w0).1]
 ·obtain ⟨e, hty⟩ : ∃ e, P.underlying t = some (.slice e) := by unfold iW at ht; split at ht <;> first | exact ⟨_, by assumption⟩ | cases ht
  obtain ⟨_, _, cap, _, _, rfl, _⟩ := hv
  subst hu
  refine fin (aR hty _ _ _ w0).2 fun op p q hop => ⟨?_, ?_⟩ <;> rcases hop with rfl | rfl <;> simp [eqGuard, binOp, (aR hty _ _ _ w0).2]
 ·obtain ⟨e, hty⟩ : ∃ e, P.underlying t = some (.slice e) := by unfold iW at ht; split at ht <;> first | exact ⟨_, by assumption⟩ | cases ht
  obtain ⟨_, rfl⟩ := hv
  subst hu
  refine fin (aR hty _ _ _ w0).2 fun op p q hop => ⟨?_, ?_⟩ <;> rcases hop with rfl | rfl <;> simp [eqGuard, binOp, (aR hty _ _ _ w0).2]
 ·obtain ⟨e, f, g, hty⟩ : ∃ e f g, P.underlying t = some (.func e f g) := by unfold iW at ht; split at ht <;> first | exact ⟨_, _, _, by assumption⟩ | cases ht
  subst hu hv
  refine fin (eA hty w0).1 fun op p q hop => ⟨?_, ?_⟩ <;> rcases hop with rfl | rfl <;> simp [eqGuard, binOp, (eA hty w0).1]
 ·obtain ⟨e, f, g, hty⟩ : ∃ e f g, P.underlying t = some (.func e f g) := by unfold iW at ht; split at ht <;> first | exact ⟨_, _, _, by assumption⟩ | cases ht
  obtain ⟨_, _, rfl, _⟩ := hu
  subst hv
  refine fin ((eA hty w0).2 _ _ _) fun op p q hop => ⟨?_, ?_⟩ <;> rcases hop with rfl | rfl <;> simp [eqGuard, binOp, (eA hty w0).2]
 ·obtain ⟨e, f, hty⟩ : ∃ e f, P.underlying t = some (.map e f) := by unfold iW at ht; split at ht <;> first | exact ⟨_, _, by assumption⟩ | cases ht
  subst hu hv
  refine fin (dZ hty _ w0) fun op p q hop => ⟨?_, ?_⟩ <;> rcases hop with rfl | rfl <;> simp [eqGuard, binOp, dZ hty _ w0]
 ·obtain ⟨e, f, hty⟩ : ∃ e f, P.underlying t = some (.map e f) := by unfold iW at ht; split at ht <;> first | exact ⟨_, _, by assumption⟩ | cases ht
  obtain ⟨_, rfl⟩ := hu
  subst hv
  refine fin (dZ hty _ w0) fun op p q hop => ⟨?_, ?_⟩ <;> rcases hop with rfl | rfl <;> simp [eqGuard, binOp, dZ hty _ w0]
 ·obtain ⟨e, hty⟩ : ∃ e, P.underlying t = some (.pointer e) := by unfold iW at ht; split at ht <;> first | exact ⟨_, by assumption⟩ | cases ht
  subst hu hv
  refine fin (bU hty none w0).1 fun op p q hop => ⟨?_, ?_⟩ <;> rcases hop with rfl | rfl <;> simp [eqGuard, binOp, (bU hty none w0).1]
 ·obtain ⟨e, hty⟩ : ∃ e, P.underlying t = some (.pointer e) := by unfold iW at ht; split at ht <;> first | exact ⟨_, by assumption⟩ | cases ht
  obtain ⟨_, _, rfl⟩ := hu
  subst hv
  refine fin (bU hty _ w0).1 fun op p q hop => ⟨?_, ?_⟩ <;> rcases hop with rfl | rfl <;> simp [eqGuard, binOp, (bU hty _ w0).1]
 ·obtain ⟨e, hty⟩ : ∃ e, P.underlying t = some (.pointer e) := by unfold iW at ht; split at ht <;> first | exact ⟨_, by assumption⟩ | cases ht
  obtain ⟨_, _, rfl⟩ := hv
  subst hu
  refine fin (bU hty _ w0).2 fun op p q hop => ⟨?_, ?_⟩ <;> rcases hop with rfl | rfl <;> simp [eqGuard, binOp, (bU hty _ w0).2]
theorem AB {op : BinOp} {t t' : TypeId} {x y : Operand} {neg : Bool} {tk : Nat} {d : Pos} {r1 r2 : RX} {Z : X} (ho : o.op = .binOp op t x y t') (hop : op = bif neg then .neq else .eql) (hk : iW P t = some tk) (hd : o.dst = some d.ix) (hlt : d.ix < nt) (hx : rx x = some r1) (hy : rx y = some r2)
 (h : AY d neg tk r1 r2 sl ob nx lg = some Z) : OpOk P nt o (r1.ss ++ r2.ss) ⟨sl, ob, nx, lg⟩ Z := by
 unfold AY at h
 split at h
 ·rename_i p q hp hq
  split at h
  ·rename_i e he
   rw [bE] at h
   rw [aE h]
   refine OpOk.pure hd hlt (LgLe.refl _) fun V hs _ γ a w R => ⟨.bool (bif neg then !e else e), ?_, dD _⟩
   obtain ⟨h1, h2⟩ := Ia hk he (aB hx hp R fun s h => hs s (by simp [h])) (aB hy hq R fun s h => hs s (by simp [h])) w
   obtain ⟨h3, h4⟩ := h2 op x y (by subst hop; cases neg <;> simp)
   rw [h1] at h4
   subst hop
   cases neg
   ·simp only [cond_false] at h3 h4 ho ⊢
    simp [execOp, ho, h3, h4]
   ·simp only [cond_true] at h3 h4 ho ⊢
    simp [execOp, ho, h3, h4]
  ·cases h
 ·cases h
end
end Go.Ev
end
