import Derived.Test.YtihlllachfonoaaGreatDoorEvN
set_option linter.all false
namespace Go.Ev
open Go.RowKit (Below)

section
variable {P : Program} {V : Sel} {γ : Gh} {a : Act} {w : World} {sl : T D} {ob : T C} {nx : Pos} {lg : Option (T Bool)} {nt : Nat} {o : Oper} {ro : Option Nat}

theorem run_sliceBound {k : IntKind} {m y : Nat} {code : BoundsCode} (h : m ≤ y) : (Instr.sliceBound (.int k (m : Int)) y code).run P w = .ok m w := by
  have h2 : ¬ (y < m) := by omega
  simp [Instr.sliceBound, asIntOf, h2]
theorem run_sliceBounds {s : Bool} {len cap l h m : Nat} {lo hi mx : Option Value} (hlo : (lo = none ∧ l = 0) ∨ ∃ k, lo = some (.int k (l : Int))) (hhi : (hi = none ∧ h = len) ∨ ∃ k, hi = some (.int k (h : Int)))
    (hmx : (mx = none ∧ m = cap) ∨ (hi ≠ none ∧ ∃ k, mx = some (.int k (m : Int)))) (h1 : l ≤ h) (h2 : h ≤ m) (h3 : m ≤ cap) : (Instr.sliceBounds s len cap lo hi mx).run P w = .ok (l, h, m) w := by
  rcases hmx with ⟨rfl, rfl⟩ | ⟨hne, km, rfl⟩
  · rcases hhi with ⟨rfl, rfl⟩ | ⟨kh, rfl⟩ <;> rcases hlo with ⟨rfl, rfl⟩ | ⟨kl, rfl⟩ <;>
      simp [Instr.sliceBounds, run_sliceBound (P := P) (w := w) h1, run_sliceBound (P := P) (w := w) h2]
  · rcases hhi with ⟨rfl, _⟩ | ⟨kh, rfl⟩
    · exact absurd rfl hne
    · rcases hlo with ⟨rfl, rfl⟩ | ⟨kl, rfl⟩ <;>
        simp [Instr.sliceBounds, run_sliceBound (P := P) (w := w) h1, run_sliceBound (P := P) (w := w) h2, run_sliceBound (P := P) (w := w) h3]

theorem bnd_ok {x : Option Operand} {r : Option RX} {dflt : Nat} {k : Nat → Option X} {Z : X} (hx : rxo x = some r) (h : bnd sl r dflt k = some Z) : ∃ m, k m = some Z ∧
    ∀ {V : Sel} {γ : Gh} {a : Act} {w : World}, Rep P V γ a w ⟨sl, ob, nx, lg⟩ → (∀ s, s ∈ RX.sso r → V.ss s) → ((x.map a.eval) = none ∧ m = dflt) ∨ ∃ kk, x.map a.eval = some (.int kk (m : Int)) := by
  cases x with
  | none =>
    cases hx
    exact ⟨dflt, h, fun {V γ a w} _ _ => .inl ⟨rfl, rfl⟩⟩
  | some x =>
    simp only [rxo] at hx
    split at hx
    · rename_i p hp
      cases hx
      unfold bnd at h
      simp only at h
      split at h
      · rename_i kk m hv
        refine ⟨m, h, fun {V γ a w} R hs => .inr ⟨kk, ?_⟩⟩
        have := DV_i (opd_ok hp hv R hs)
        simp [this]
      · cases h
    · cases hx

theorem run_slice' {t el : TypeId} {z : Nat} (hu : P.underlying t = some (.slice el)) (hz : szOf P el = some z) {ad : Option Addr} {len cap l h m : Nat} {lo hi mx : Option Value} (hb : (Instr.sliceBounds true len cap lo hi mx).run P w = .ok (l, h, m) w) :
    (Instr.sliceAt t (.slice ad len cap) lo hi mx).run P w = .ok (.slice (if m = l then ad else ad.map (·.add (l * z))) (h - l) (m - l)) w := by
  simp [Instr.sliceAt, Instr.slice, run_underlying hu, hb, run_sizeOf' hz]

theorem slc_ok {t el : TypeId} {x : Operand} {lo hi mx : Option Operand} {z : Nat} {d : Pos} {r : RX} {rlo rhi rmx : Option RX} {Z : X} (ho : o.op = .slice t x lo hi mx) (hd : o.dst = some d.ix) (hlt : d.ix < nt) (hx : rx x = some r) (hlo : rxo lo = some rlo) (hhi : rxo hi = some rhi) (hmx : rxo mx = some rmx)
    (hne : (rhi.isNone && rmx.isSome) = false) (hu : P.underlying t = some (.slice el)) (hz : szOf P el = some z) (h : s_slc d z r rlo rhi rmx sl ob nx lg = some Z) : OpOk P nt o (r.ss ++ (RX.sso rlo ++ (RX.sso rhi ++ RX.sso rmx))) ⟨sl, ob, nx, lg⟩ Z := by
  have hne' : ∀ a : Act, mx.map a.eval ≠ none → hi.map a.eval ≠ none := by
    intro a h1 h2
    cases mx with
    | none => exact h1 rfl
    | some q =>
      cases hi with
      | some q => cases h2
      | none =>
        cases hhi
        simp only [rxo] at hmx
        split at hmx
        · cases hmx; cases hne
        · cases hmx
  unfold s_slc at h
  split at h <;> first | (cases h; done) | skip
  · rename_i id off len st z' hv
    cases hb : Nat.beq z z' with
    | false => rw [hb] at h; cases h
    | true =>
      rw [hb] at h
      simp only [cond_true] at h
      obtain rfl := Nat.eq_of_beq_eq_true hb
      obtain ⟨l, h, hl⟩ := bnd_ok (P := P) (ob := ob) (nx := nx) (lg := lg) hlo h
      obtain ⟨hh, h, hhh⟩ := bnd_ok (P := P) (ob := ob) (nx := nx) (lg := lg) hhi h
      cases hb2 : (Nat.ble l hh && Nat.ble hh len) with
      | false => rw [hb2] at h; cases h
      | true =>
        rw [hb2] at h
        simp only [cond_true] at h
        rw [Bool.and_eq_true] at hb2
        have b1 := Nat.le_of_ble_eq_true hb2.1
        have b2 := Nat.le_of_ble_eq_true hb2.2
        have fin : ∀ {V : Sel} {γ : Gh} {a : Act} {w : World} (m cap : Nat), (a.eval x = .slice (some ⟨(γ.β id st).1, off - (γ.β id st).2, none⟩) len cap) → (Instr.sliceBounds true len cap (lo.map a.eval) (hi.map a.eval) (mx.map a.eval)).run P w = .ok (l, hh, m) w →
            (execOp a.eval o).run P w = .ok (.value (.slice (if m = l then some ⟨(γ.β id st).1, off - (γ.β id st).2, none⟩ else some ⟨(γ.β id st).1, off - (γ.β id st).2 + l * z, none⟩) (hh - l) (m - l))) w := by
          intro V γ a w m cap e hbb
          have := run_slice' (P := P) (w := w) hu hz (ad := some ⟨(γ.β id st).1, off - (γ.β id st).2, none⟩) hbb
          simp only [Option.map_some, Addr.add_mid] at this
          simp [execOp, ho, e, this]
        have dv : ∀ {γ : Gh} {w : World} (m cap : Nat) {e : TypeId} {n : Nat}, st < γ.cur id → (γ.β id st).2 ≤ off → w.shape? (γ.β id st).1 = some (e, n) → off - (γ.β id st).2 + cap * z ≤ n → m ≤ cap → hh ≤ m → (l < m ∨ l = 0) →
            DV γ w (.sl id (off + l * z) (hh - l) st z) (.slice (if m = l then some ⟨(γ.β id st).1, off - (γ.β id st).2, none⟩ else some ⟨(γ.β id st).1, off - (γ.β id st).2 + l * z, none⟩) (hh - l) (m - l)) := by
          intro γ w m cap e n e1 e2 e5 e6 hmc hhm hl0
          unfold DV
          refine ⟨e1, by omega, m - l, e, n, ?_, by omega, e5, ?_⟩
          · have ho2 : off + l * z - (γ.β id st).2 = off - (γ.β id st).2 + l * z := by omega
            rw [ho2]
            by_cases hml : m = l
            · rw [if_pos hml]
              have hl : l = 0 := by omega
              rw [hl]; simp
            · rw [if_neg hml]
          · have : l * z + (m - l) * z ≤ cap * z := by
              rw [← Nat.add_mul]
              exact Nat.mul_le_mul_right _ (by omega)
            omega
        cases rmx with
        | none =>
          simp only at h
          cases hb3 : (Nat.blt l hh || Nat.beq l 0) with
          | false => rw [hb3] at h; cases h
          | true =>
            rw [hb3] at h
            simp only [cond_true, natK_eq] at h
            rw [outK_eq h]
            have hl0 : l < hh ∨ l = 0 := by
              rcases Bool.or_eq_true _ _ ▸ hb3 with h | h
              · exact .inl (Nat.le_of_ble_eq_true h)
              · exact .inr (Nat.eq_of_beq_eq_true h)
            have hmxn : mx = none := by
              cases mx with
              | none => rfl
              | some q => simp only [rxo] at hmx; split at hmx <;> cases hmx
            refine OpOk.pure hd hlt (LgLe.refl _) fun V hs _ γ a w R => ?_
            obtain ⟨e1, e2, cap, e, n, e3, e4, e5, e6⟩ := DV_sl (opd_ok hx hv R fun s h => hs s (by simp [h]))
            have hbb := run_sliceBounds (P := P) (w := w) (s := true) (m := cap) (cap := cap) (mx := mx.map a.eval) (hl R fun s h => hs s (by simp [h])) (hhh R fun s h => hs s (by simp [h])) (.inl ⟨by rw [hmxn]; rfl, rfl⟩) b1 (by omega) (Nat.le_refl _)
            exact ⟨_, fin (V := V) cap cap e3 hbb, dv cap cap e1 e2 e5 e6 (Nat.le_refl _) (by omega) (by omega)⟩
        | some rm =>
          simp only at h
          obtain ⟨m, h, hm⟩ := bnd_ok (P := P) (ob := ob) (nx := nx) (lg := lg) (x := mx) (r := some rm) hmx h
          cases hb3 : (Nat.ble hh m && Nat.ble m len) with
          | false => rw [hb3] at h; cases h
          | true =>
            rw [hb3] at h
            simp only [cond_true] at h
            rw [Bool.and_eq_true] at hb3
            have b3 := Nat.le_of_ble_eq_true hb3.1
            have b4 := Nat.le_of_ble_eq_true hb3.2
            have hmxs : ∀ a : Act, mx.map a.eval ≠ none := by
              intro a
              cases mx with
              | none => cases hmx
              | some q => simp
            have hbb : ∀ {V : Sel} {γ : Gh} {a : Act} {w : World} {cap : Nat}, Rep P V γ a w ⟨sl, ob, nx, lg⟩ → (∀ s, s ∈ r.ss ++ (RX.sso rlo ++ (RX.sso rhi ++ RX.sso (some rm))) → V.ss s) → len ≤ cap →
                (Instr.sliceBounds true len cap (lo.map a.eval) (hi.map a.eval) (mx.map a.eval)).run P w = .ok (l, hh, m) w := by
              intro V γ a w cap R hs hc
              refine run_sliceBounds (hl R fun s h => hs s (by simp [h])) (hhh R fun s h => hs s (by simp [h])) (.inr ⟨hne' a (hmxs a), ?_⟩) b1 b3 (by omega)
              rcases hm R fun s h => hs s (by simp [h]) with ⟨h1, _⟩ | h1
              · exact absurd h1 (hmxs a)
              · exact h1
            cases hb4 : Nat.blt l m with
            | true =>
              rw [hb4] at h
              simp only [cond_true, natK_eq] at h
              rw [outK_eq h]
              have hlm : l < m := Nat.le_of_ble_eq_true hb4
              refine OpOk.pure hd hlt (LgLe.refl _) fun V hs _ γ a w R => ?_
              obtain ⟨e1, e2, cap, e, n, e3, e4, e5, e6⟩ := DV_sl (opd_ok hx hv R fun s h => hs s (by simp [h]))
              exact ⟨_, fin (V := V) m cap e3 (hbb R hs e4), dv m cap e1 e2 e5 e6 (by omega) b3 (.inl hlm)⟩
            | false =>
              rw [hb4] at h
              simp only [cond_false] at h
              rw [outK_eq h]
              have hml : m = l := by
                have : ¬ l < m := fun e => by rw [show Nat.blt l m = true from Nat.ble_eq_true_of_le e] at hb4; cases hb4
                omega
              refine OpOk.pure hd hlt (LgLe.refl _) fun V hs _ γ a w R => ?_
              obtain ⟨e1, e2, cap, e, n, e3, e4, e5, e6⟩ := DV_sl (opd_ok hx hv R fun s h => hs s (by simp [h]))
              refine ⟨_, fin (V := V) m cap e3 (hbb R hs e4), ?_⟩
              unfold DV
              rw [if_pos hml]
              exact ⟨_, by rw [show hh - l = 0 by omega, show m - l = 0 by omega]⟩
  · rename_i z' es hv
    cases hb : Nat.beq z z' with
    | false => rw [hb] at h; cases h
    | true =>
      rw [hb] at h
      simp only [cond_true] at h
      obtain rfl := Nat.eq_of_beq_eq_true hb
      obtain ⟨l, h, hl⟩ := bnd_ok (P := P) (ob := ob) (nx := nx) (lg := lg) hlo h
      obtain ⟨hh, h, hhh⟩ := bnd_ok (P := P) (ob := ob) (nx := nx) (lg := lg) hhi h
      cases hb2 : (Nat.ble l hh && Nat.ble hh (List.length es)) with
      | false => rw [hb2] at h; cases h
      | true =>
        rw [hb2] at h
        simp only [cond_true] at h
        rw [Bool.and_eq_true] at hb2
        have b1 := Nat.le_of_ble_eq_true hb2.1
        have b2 := Nat.le_of_ble_eq_true hb2.2
        split at h
        · have hmxn : mx = none := by
            cases mx with
            | none => rfl
            | some q => simp only [rxo] at hmx; split at hmx <;> cases hmx
          rw [outK_eq h]
          refine OpOk.pure hd hlt (LgLe.refl _) fun V hs _ γ a w R => ?_
          obtain ⟨p, cap, e3, e4, e5, e6⟩ := DV_lst (opd_ok hx hv R fun s h => hs s (by simp [h]))
          have hbb := run_sliceBounds (P := P) (w := w) (s := true) (m := cap) (cap := cap) (mx := mx.map a.eval) (hl R fun s h => hs s (by simp [h])) (hhh R fun s h => hs s (by simp [h])) (.inl ⟨by rw [hmxn]; rfl, rfl⟩) b1 (by omega) (Nat.le_refl _)
          have hrun := run_slice' (P := P) (w := w) hu hz (ad := p) hbb
          refine ⟨_, by simp [execOp, ho, e3, hrun]; rfl, ?_⟩
          have hsub : Nat.sub hh l = hh - l := rfl
          have hlen : ((es.drop l).take (hh - l)).length = hh - l := by simp; omega
          rw [hsub]
          unfold DV
          refine ⟨_, cap - l, by rw [hlen], by omega, fun hp => ?_, ?_⟩
          · split at hp
            · omega
            · cases p with
              | none => have := e5 rfl; omega
              | some _ => cases hp
          · by_cases h0 : hh = l
            · left; rw [h0]; simp
            · right
              rcases e6 with rfl | ⟨b, o', vs, e, fr, k1, k2, rfl, k4, k5, k6⟩
              · simp at b2; omega
              · have hne : ¬ cap = l := by omega
                rw [if_neg hne]
                have hle : l * z + (hh - l) * z ≤ es.length * z := by rw [← Nat.add_mul]; exact Nat.mul_le_mul_right z (by omega)
                refine ⟨b, o' + l * z, vs, e, fr, k1, k2, by simp [Addr.add_mid], by rw [hlen]; omega, ?_, ?_⟩
                · rw [← List.drop_drop]; exact DVE_take (DVE_drop k5)
                · rw [hlen, ← List.drop_drop]
                  intro u hu
                  refine k6 u ?_
                  have h2 : ((vs.toList.drop o').drop (l * z)).take ((hh - l) * z) = ((vs.toList.drop o').take (l * z + (hh - l) * z)).drop (l * z) := by rw [List.drop_take]; simp
                  rw [h2] at hu
                  have h3 := List.mem_of_mem_drop hu
                  have h4 : (vs.toList.drop o').take (l * z + (hh - l) * z) = ((vs.toList.drop o').take (es.length * z)).take (l * z + (hh - l) * z) := by rw [List.take_take, Nat.min_eq_left hle]
                  rw [h4] at h3
                  exact List.mem_of_mem_take h3
        · cases h
  all_goals
    rename_i hv
    obtain ⟨l, h1, hl⟩ := bnd_ok (P := P) (ob := ob) (nx := nx) (lg := lg) hlo h
    obtain ⟨hh, h2, hhh⟩ := bnd_ok (P := P) (ob := ob) (nx := nx) (lg := lg) hhi h1
    obtain ⟨m, h3, hm⟩ := bnd_ok (P := P) (ob := ob) (nx := nx) (lg := lg) hmx h2
    cases hb2 : (Nat.beq l 0 && Nat.beq hh 0 && Nat.beq m 0) with
    | false => rw [hb2] at h3; cases h3
    | true =>
      rw [hb2] at h3
      simp only [cond_true] at h3
      rw [Bool.and_eq_true, Bool.and_eq_true] at hb2
      obtain rfl := Nat.eq_of_beq_eq_true hb2.1.1
      obtain rfl := Nat.eq_of_beq_eq_true hb2.1.2
      obtain rfl := Nat.eq_of_beq_eq_true hb2.2
      rw [outK_eq h3]
      refine OpOk.pure hd hlt (LgLe.refl _) fun V hs _ γ a w R => ?_
      have hbb : (Instr.sliceBounds true 0 0 (lo.map a.eval) (hi.map a.eval) (mx.map a.eval)).run P w = .ok (0, 0, 0) w := by
        refine run_sliceBounds (hl R fun s h => hs s (by simp [h])) (hhh R fun s h => hs s (by simp [h])) ?_ (Nat.le_refl _) (Nat.le_refl _) (Nat.le_refl _)
        rcases hm R fun s h => hs s (by simp [h]) with h1 | h1
        · exact .inl h1
        · exact .inr ⟨hne' a (by obtain ⟨_, h1⟩ := h1; rw [h1]; simp), h1⟩
      have hv := opd_ok hx hv R fun s h => hs s (by simp [h])
      unfold DV at hv
      first
        | (have hr := run_slice' (P := P) (w := w) hu hz (ad := none) hbb
           exact ⟨_, by simp [execOp, ho, hv, hr]; rfl, by unfold DV; rfl⟩)
        | (obtain ⟨ad, hv⟩ := hv
           have hr := run_slice' (P := P) (w := w) hu hz (ad := some ad) hbb
           exact ⟨.slice (some ad) 0 0, by simp [execOp, ho, hv, hr], by unfold DV; exact ⟨ad, rfl⟩⟩)

theorem sla_ok {t el : TypeId} {x : Operand} {lo hi mx : Option Operand} {n z : Nat} {d : Pos} {r : RX} {rlo rhi rmx : Option RX} {Z : X} (ho : o.op = .slice t x lo hi mx) (hd : o.dst = some d.ix) (hlt : d.ix < nt) (hx : rx x = some r) (hlo : rxo lo = some rlo) (hhi : rxo hi = some rhi) (hmx : rxo mx = some rmx)
    (hu : P.underlying t = some (.array n el)) (hz : szOf P el = some z) (h : s_sla d n z r rlo rhi rmx sl ob nx lg = some Z) : OpOk P nt o (r.ss ++ (RX.sso rlo ++ (RX.sso rhi ++ RX.sso rmx))) ⟨sl, ob, nx, lg⟩ Z := by
  unfold s_sla at h
  split at h
  · rename_i id off st hv
    split at h
    · rename_i q cs cur hob
      obtain ⟨l, h, hl⟩ := bnd_ok (P := P) (ob := ob) (nx := nx) (lg := lg) hlo h
      obtain ⟨hh, h, hhh⟩ := bnd_ok (P := P) (ob := ob) (nx := nx) (lg := lg) hhi h
      split at h
      · have hmxn : mx = none := by
          cases mx with
          | none => rfl
          | some q => simp only [rxo] at hmx; split at hmx <;> cases hmx
        subst hmxn
        cases hb : (Nat.ble l hh && Nat.ble hh n && Nat.blt l n && Nat.blt 0 z) with
        | false => rw [hb] at h; cases h
        | true =>
          rw [hb] at h
          simp only [cond_true] at h
          rw [Bool.and_eq_true, Bool.and_eq_true, Bool.and_eq_true] at hb
          have b1 := Nat.le_of_ble_eq_true hb.1.1.1
          have b2 := Nat.le_of_ble_eq_true hb.1.1.2
          have b3 : l < n := Nat.le_of_ble_eq_true hb.1.2
          have b4 : 0 < z := Nat.le_of_ble_eq_true hb.2
          split at h
          · rename_i c hc
            obtain ⟨h1, h2⟩ := cellK_ok h
            simp only [natK_eq] at h2
            obtain ⟨lg', h3, h4, h5⟩ := logR_ok h2
            rw [outK_eq h3]
            rw [nthC_eq] at hc
            have hpos : 0 < n * z := Nat.mul_pos (by omega) b4
            have hidx : Nat.pred (Nat.add off (Nat.mul n z)) = off + n * z - 1 := rfl
            rw [hidx] at hc
            refine OpOk.pure hd hlt h4 fun V hs hto γ a w R => ?_
            obtain ⟨e1, e2, e3⟩ := DV_pt (opd_ok hx hv R fun s h => hs s (by simp [h]))
            have H := R.ob id _ (hto id h5) hob
            obtain ⟨_, c1, c2⟩ := H
            obtain ⟨vs, e, fr, c3, c4, c5⟩ := c2 st (by omega)
            obtain ⟨u, c6, _⟩ := c5 _ c hc h1 (by omega)
            have hsz := (Array.getElem?_eq_some_iff.1 c6).1
            have hbb := run_sliceBounds (P := P) (w := w) (s := false) (len := n) (cap := n) (m := n) (hl R fun s h => hs s (by simp [h])) (hhh R fun s h => hs s (by simp [h])) (.inl ⟨rfl, rfl⟩) b1 b2 (Nat.le_refl _)
            have hnl : ¬ n = l := by omega
            refine ⟨.slice (some ⟨(γ.β id st).1, off - (γ.β id st).2 + l * z, none⟩) (hh - l) (n - l), ?_, ?_⟩
            · simp [execOp, ho, e3, Instr.sliceAt, run_underlying hu, Instr.sureAddr, hbb, run_sizeOf' hz, hnl, Addr.add_mid]
            · unfold DV
              have hadd : Nat.add off (Nat.mul l z) = off + l * z := rfl
              have hsub : Nat.sub hh l = hh - l := rfl
              rw [hadd, hsub]
              refine ⟨e1, by omega, n - l, e, vs.size, ?_, by omega, shape_cells c3, ?_⟩
              · rw [show off + l * z - (γ.β id st).2 = off - (γ.β id st).2 + l * z by omega]
              · have : l * z + (n - l) * z = n * z := by rw [← Nat.add_mul]; congr 1; omega
                omega
          · cases h
      · cases h
    · cases h
  · rename_i r' off hv
    obtain ⟨l, h, hl⟩ := bnd_ok (P := P) (ob := ob) (nx := nx) (lg := lg) hlo h
    obtain ⟨hh, h, hhh⟩ := bnd_ok (P := P) (ob := ob) (nx := nx) (lg := lg) hhi h
    split at h
    · have hmxn : mx = none := by
        cases mx with
        | none => rfl
        | some q => simp only [rxo] at hmx; split at hmx <;> cases hmx
      subst hmxn
      cases hb : (Nat.ble l hh && Nat.ble hh n && Nat.blt l n && Nat.ble (Nat.add off (Nat.mul n z)) (List.length r')) with
      | false => rw [hb] at h; cases h
      | true =>
        rw [hb] at h
        simp only [cond_true] at h
        rw [Bool.and_eq_true, Bool.and_eq_true, Bool.and_eq_true] at hb
        have b1 := Nat.le_of_ble_eq_true hb.1.1.1
        have b2 := Nat.le_of_ble_eq_true hb.1.1.2
        have b3 : l < n := Nat.le_of_ble_eq_true hb.1.2
        have b4 : off + n * z ≤ r'.length := Nat.le_of_ble_eq_true hb.2
        rw [outK_eq h]
        refine OpOk.pure hd hlt (LgLe.refl _) fun V hs _ γ a w R => ?_
        obtain ⟨b, q, vs, e, fr, k1, k2, e3, k4, k5, k6⟩ := DV_pl (opd_ok hx hv R fun s h => hs s (by simp [h]))
        have hbb := run_sliceBounds (P := P) (w := w) (s := false) (len := n) (cap := n) (m := n) (hl R fun s h => hs s (by simp [h])) (hhh R fun s h => hs s (by simp [h])) (.inl ⟨rfl, rfl⟩) b1 b2 (Nat.le_refl _)
        have hnl : ¬ n = l := by omega
        refine ⟨.slice (some ⟨b, q + off + l * z, none⟩) (hh - l) (n - l), ?_, ?_⟩
        · simp [execOp, ho, e3, Instr.sliceAt, run_underlying hu, Instr.sureAddr, hbb, run_sizeOf' hz, hnl, Addr.add_mid]
        · unfold DV
          have hadd : Nat.add off (Nat.mul l z) = off + l * z := rfl
          have hsub : Nat.sub hh l = hh - l := rfl
          rw [hadd, hsub]
          have hlz : l * z + (hh - l) * z = hh * z := by rw [← Nat.add_mul]; congr 1; omega
          have hhz : hh * z ≤ n * z := Nat.mul_le_mul_right z b2
          refine ⟨some ⟨b, q + off + l * z, none⟩, n - l, by rw [chunks_length], by rw [chunks_length]; omega, (fun hp => by cases hp), .inr ⟨b, q + off + l * z, vs, e, fr, k1, k2, rfl, by rw [chunks_length]; omega, ?_, ?_⟩⟩
          · refine DVE_chunks (by simp; omega) ?_
            have h1 := k5.drop (off + l * z)
            rw [List.drop_take, List.drop_drop] at h1
            rw [Nat.add_assoc]
            simpa using h1
          · rw [chunks_length]
            intro u hu
            refine k6 u ?_
            have h2 : (vs.toList.drop (q + off + l * z)).take ((hh - l) * z) = (((vs.toList.drop q).take r'.length).drop (off + l * z)).take ((hh - l) * z) := by
              rw [List.drop_take, List.take_take, List.drop_drop, Nat.min_eq_left (by omega), Nat.add_assoc]
            rw [h2] at hu
            exact List.mem_of_mem_drop (List.mem_of_mem_take hu)
    · cases h
  · cases h

theorem clr_ok {args : Array Operand} {tys : Array TypeId} {t el : TypeId} {x : Operand} {z : Nat} {zs : List D} {r1 : RX} {Z : X} (ho : o.op = .call { callee := .builtin .clear, args := args, argTypes := tys }) (ha : args.toList = [x]) (hty : tys.toList = [t])
    (hd : o.dst = none)
    (hx : rx x = some r1) (hu : P.underlying t = some (.slice el)) (hs : szOf P el = some z) (hz : zeroD P el = some zs) (hzl : zs.length = z) (h : s_clr z zs r1 sl ob nx lg = some Z) : OpOk P nt o r1.ss ⟨sl, ob, nx, lg⟩ Z := by
  have hargs : args = #[x] := by rw [← Array.toArray_toList (xs := args), ha]
  have htys : tys = #[t] := by rw [← Array.toArray_toList (xs := tys), hty]
  subst hargs
  subst htys
  obtain ⟨i, zv, hi, hzv, hcd⟩ : ∃ i zv, P.info? el = some i ∧ i.zero = some zv ∧ constDs zv.cells.toList = some zs := by
    unfold zeroD at hz
    split at hz
    · rename_i i hi
      split at hz
      · rename_i zv hzv
        exact ⟨i, zv, hi, hzv, hz⟩
      · cases hz
    · cases hz
  have z2 : ∀ γ w, DVL γ w zs zv.cells.toList := fun γ w => (constDs_ok hcd).1
  have z3 : ∀ u ∈ zv.cells.toList, u.oneCell' = true := (constDs_ok (γ := ⟨fun _ => 0, fun _ _ => (0, 0), fun _ => False⟩) (w := default) hcd).2
  have zsz : zv.cells.size = z := by
    have := (DVL_iff.1 (z2 ⟨fun _ => 0, fun _ _ => (0, 0), fun _ => False⟩ default)).1
    rw [hzl] at this
    simpa using this.symm
  unfold s_clr at h
  split at h
  · rename_i id off len st z' hvx
    cases hb : (Nat.beq z z' && Nat.blt 0 (List.length (reps zs len))) with
    | false => rw [hb] at h; cases h
    | true =>
      rw [hb] at h
      simp only [cond_true] at h
      rw [Bool.and_eq_true] at hb
      obtain rfl := Nat.eq_of_beq_eq_true hb.1
      have b2 : 0 < (reps zs len).length := Nat.le_of_ble_eq_true hb.2
      have hl0 : len ≠ 0 := fun e => by subst e; simp [reps] at b2
      split at h
      · rename_i cs cur hob
        have key : ∀ mk : D → Cell, ((mk = (fun d => .o d st) ∧ st + 1 = cur) ∨ mk = (fun d => .c d st st)) → writeK st mk (reps zs len) off cs (fun cs => objK sl ob nx lg id (.cells false cs cur)) = some Z → OpOk P nt o r1.ss ⟨sl, ob, nx, lg⟩ Z := by
          intro mk hmk h
          obtain ⟨g1, g2, g3⟩ := writeK_ok h
          obtain ⟨lg2, rfl, h7, h8⟩ := objK_eq g2
          exact OpOk.skip hd h7 ((Keeps.refl _ _).set h8 _) fun V hs hto ro γ a w g R => by
            obtain ⟨e1, e2, cap, e, m, e3, e4, e5, e6⟩ := DV_sl (opd_ok hx hvx R fun s h => hs s h)
            have hinit : DVL γ w (reps zs len) (Builtin.zeroCells zv.cells len).toList ∧ ∀ u ∈ (Builtin.zeroCells zv.cells len).toList, u.oneCell' = true := by
              unfold Builtin.zeroCells
              exact zeros_ok (z2 γ w) z3 (by rw [hzl, zsz])
            obtain ⟨vs, e7, p1, p2, F, g', H'⟩ := write_hold g (R.ob id _ (hto id h8.tchd) hob) e1 e2 b2 g1 g3 hinit.1 hinit.2 hmk
            have hst := run_storeCells_cells (P := P) (γ.β id st).1 (off - (γ.β id st).2) (Builtin.zeroCells zv.cells len).toList 0 w (fun j hj => by
              have : off - (γ.β id st).2 + j < vs.size := by omega
              simp [World.cell?, p1, this]) (fun j hj => by simp [World.frozen?, p1]) hinit.2
            simp only [Nat.add_zero] at hst
            refine ⟨_, .inr ⟨.tuple #[], ?_⟩, F.mono (fun j e => by rw [e]; exact h8), g', others_hold R g F fun _ => H'⟩
            obtain ⟨cst, hb⟩ := run_builtin (P := P) ho a w
            rw [hb]
            simp [builtin, Builtin.clear_, run_underlying hu, e3, hl0, zeroValue, hi, hzv, typeInfo, hst]
        cases hb2 : Nat.beq (Nat.succ st) cur with
        | true =>
          rw [hb2] at h
          exact key _ (.inl ⟨rfl, Nat.eq_of_beq_eq_true hb2⟩) h
        | false =>
          rw [hb2] at h
          exact key _ (.inr rfl) h
      · cases h
  · cases h
theorem cpy_ok {args : Array Operand} {tys : Array TypeId} {t tx el e' : TypeId} {x y : Operand} {z : Nat} {dst : Option Pos} {r1 r2 : RX} {Z : X} (ho : o.op = .call { callee := .builtin .copy, args := args, argTypes := tys }) (ha : args.toList = [x, y]) (hty : tys.toList = [t, tx])
    (hd : o.dst = dst.map Pos.ix) (hlt : ∀ d, dst = some d → d.ix < nt)
    (hx : rx x = some r1) (hy : rx y = some r2) (hu : P.underlying t = some (.slice el)) (hz : szOf P el = some z) (hux : P.underlying tx = some (.slice e')) (h : s_cpy dst z r1 r2 sl ob nx lg = some Z) : OpOk P nt o (r1.ss ++ r2.ss) ⟨sl, ob, nx, lg⟩ Z := by
  have hargs : args = #[x, y] := by rw [← Array.toArray_toList (xs := args), ha]
  have htys : tys = #[t, tx] := by rw [← Array.toArray_toList (xs := tys), hty]
  subst hargs
  subst htys
  unfold s_cpy at h
  split at h
  · rename_i id off len st z' dy hvx hvy
    obtain ⟨idy, n, ds, h1, h2, h3⟩ := srcK_ok (P := P) (sl := sl) (nx := nx) (lg := lg) h
    obtain ⟨lg1, h4, h5, h6⟩ := logO_ok h1
    cases hb : (Nat.beq z z' && Nat.ble n len && Nat.blt 0 (List.length ds)) with
    | false => rw [hb] at h4; cases h4
    | true =>
      rw [hb] at h4
      simp only [cond_true] at h4
      rw [Bool.and_eq_true, Bool.and_eq_true] at hb
      obtain rfl := Nat.eq_of_beq_eq_true hb.1.1
      have b1 := Nat.le_of_ble_eq_true hb.1.2
      have b2 : 0 < ds.length := Nat.le_of_ble_eq_true hb.2
      split at h4
      · rename_i cs cur hob
        have key : ∀ mk : D → Cell, ((mk = (fun d => .o d st) ∧ st + 1 = cur) ∨ mk = (fun d => .c d st st)) → writeK st mk ds off cs (fun cs => match dst with
              | none => objK sl ob nx lg1 id (.cells false cs cur)
              | some d => objOutK sl ob nx lg1 id (.cells false cs cur) d (.i .i64 (.ofNat n))) = some Z → OpOk P nt o (r1.ss ++ r2.ss) ⟨sl, ob, nx, lg⟩ Z := by
          intro mk hmk h
          obtain ⟨g1, g2, g3⟩ := writeK_ok h
          -- the run itself
          have run : ∀ {V : Sel} {lg2 : Option (T Bool)}, (∀ s, s ∈ r1.ss ++ r2.ss → V.ss s) → (∀ j, tchd lg2 j → V.so j) → LgLe lg1 lg2 → wrtn lg2 id → ∀ (ro : Option Nat) (γ : Gh) (a : Act) (w : World), G ro γ a w → Rep P V γ a w ⟨sl, ob, nx, lg⟩ →
              ∃ w', (execOp a.eval o).run P w = .ok (.value (.int .i64 (n : Int))) w' ∧ Fr (wrtn lg2) γ γ w w' ∧ (∀ a' : Act, a'.defers = a.defers → G ro γ a' w') ∧
                (∀ j c, V.so j → (T.set id (.cells false (cs.take off ++ (ds.map mk ++ cs.drop (off + ds.length))) cur) ob).get j = some c → HoldsO P γ w' j c) := by
            intro V lg2 hs hto hl2 hw2 ro γ a w g R
            obtain ⟨e1, e2, cap, e, m, e3, e4, e5, e6⟩ := DV_sl (opd_ok hx hvx R fun s h => hs s (by simp [h]))
            obtain ⟨us, q1, q2, ⟨ad, cap2, q5⟩, q4⟩ := h3 R (fun j e => hto j (hl2.t j (h6 j e))) (opd_ok hy hvy R fun s h => hs s (by simp [h])) hux
            obtain ⟨vs, e7, p1, p2, F, g', H'⟩ := write_hold g (R.ob id _ (hto id hw2.tchd) hob) e1 e2 b2 g1 g3 q2 q4 hmk
            have hst := run_storeCells_cells (P := P) (γ.β id st).1 (off - (γ.β id st).2) us 0 w (fun j hj => by
              have : off - (γ.β id st).2 + j < vs.size := by omega
              simp [World.cell?, p1, this]) (fun j hj => by simp [World.frozen?, p1]) q4
            simp only [Nat.add_zero] at hst
            refine ⟨_, ?_, F.mono (fun j e => by rw [e]; exact hw2), g', others_hold R g F fun _ => H'⟩
            obtain ⟨cst, hb⟩ := run_builtin (P := P) ho a w
            rw [hb]
            have hl := q1.len w
            have hc := q1.cells
            have hmin : Nat.min n len = n := by show min n len = n; omega
            simp [builtin, Builtin.copy_, run_underlying hu, e3, hl, hmin, run_sizeOf' hz, hc, hst, goInt]
          cases dst with
          | none =>
            obtain ⟨lg2, rfl, h7, h8⟩ := objK_eq g2
            exact OpOk.skip hd (h5.trans h7) ((Keeps.refl _ _).set h8 _) fun V hs hto ro γ a w g R => by
              obtain ⟨w', k1, k2⟩ := run hs hto h7 h8 ro γ a w g R
              exact ⟨w', .inr ⟨_, k1⟩, k2⟩
          | some d =>
            obtain ⟨lg2, rfl, h7, h8⟩ := objOutK_eq g2
            exact OpOk.value hd (hlt d rfl) (h5.trans h7) (Nat.le_refl _) ((Keeps.refl _ _).set h8 _) fun V hs hto ro γ a w g R => by
              obtain ⟨w', k1, k2, k3, k4⟩ := run hs hto h7 h8 ro γ a w g R
              exact ⟨_, w', γ, k1, k2, k3, DV_of_i _ _, k4, R.nx⟩
        cases hb2 : Nat.beq (Nat.succ st) cur with
        | true =>
          rw [hb2] at h4
          exact key _ (.inl ⟨rfl, Nat.eq_of_beq_eq_true hb2⟩) h4
        | false =>
          rw [hb2] at h4
          exact key _ (.inr rfl) h4
      · cases h4
  · cases h
end
end Go.Ev
