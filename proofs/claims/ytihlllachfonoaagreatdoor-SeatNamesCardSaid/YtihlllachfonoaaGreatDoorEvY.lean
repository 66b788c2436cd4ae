import Derived.Test.YtihlllachfonoaaGreatDoorEvW
import Derived.OrdersIn
set_option linter.all false
namespace Go.Ev
open Go.RowKit (Below)

/-- One operation of a region, with its guard. -/
structure IOk (P : Program) (nt : Nat) (ops : Array Oper) (i : Nat) (names : List Pos) (x Z : X) : Prop where
  lg : LgLe x.lg Z.lg
  nx : x.nx.nat ≤ Z.nx.nat
  obf : Keeps Z.lg x.ob Z.ob
  slf : ∀ s : Pos, (ops[i]?).bind (·.dst) ≠ some s.ix → Z.sl.get s = x.sl.get s
  ok : ∀ V : Sel, (∀ s, s ∈ names → V.ss s) → (∀ id, tchd Z.lg id → V.so id) → ∀ (ro : Option Nat) (γ : Gh) (a : Act) (w : World), a.tmps.size = nt → G ro γ a w → Rep P V γ a w x →
    ∀ (n : Nat) (K : Act → World → Prop) (Q : Exit → Act → World → Prop), (∀ γ' a' w', St ro Z.lg ((ops[i]?).bind (·.dst)) γ a w γ' a' w' → Rep P V γ' a' w' Z → K a' w') → wpOpIn (FW ro) n P ops Q i K a w

section
variable {P : Program} {FP : T RF} {ex : RC → X → Option (Ex × X)} {nt : Nat} {ops : Array Oper} {o : Oper}

theorem runG_bad {x Z : X} (h : runG P FP ex (.u .bad) x = some Z) : False := by
  cases x; cases h

theorem IOk.of_op {i : Nat} {names names' : List Pos} {x Z : X} (ho : ops[i]? = some o) (hg : ∀ V : Sel, (∀ s, s ∈ names' → V.ss s) → ∀ γ a w, Rep P V γ a w x → Region.wanted o (yielded ops a.tmps) = true) (hs : ∀ s, s ∈ names → s ∈ names') (h : OpOk P nt o names x Z) : IOk P nt ops i names' x Z :=
  ⟨h.lg, h.nx, h.obf, fun s hs => h.slf s (by rw [ho] at hs; exact hs), fun V hV hto ro γ a w hn g R n K Q hK => by
    simp only [wpOpIn, ho, hg V hV γ a w R, if_true]
    simp only [ho, Option.bind_some] at hK
    exact h.ok V (fun s hs' => hV s (hs s hs')) hto ro γ a w hn g R n K Q hK⟩

theorem DV_undef {γ : Gh} {w : World} : DV γ w (.tp []) undef := by
  unfold DV
  exact ⟨#[], rfl, DVL.nil⟩
theorem DV_tp_nil {γ : Gh} {w : World} {v : Value} (h : DV γ w (.tp []) v) : v = .tuple #[] := by
  obtain ⟨vs, rfl, h2⟩ := DV_tp h
  unfold DVL at h2
  rw [show vs = #[] by cases vs; simp at h2; rw [h2]]

theorem runG_ok (hFP : FPok P FP) (IH : ∀ nt c x e Z, ex (comp P nt c) x = some (e, Z) → XOk P nt c x e Z) {i : Nat} {x Z : X} (ho : ops[i]? = some o) (h : runG P FP ex (compG P nt ops o) x = some Z) : IOk P nt ops i (compG P nt ops o).ss x Z := by
  obtain ⟨sl, ob, nx, lg⟩ := x
  unfold compG at h ⊢
  split at h
  · exact (runG_bad h).elim
  · rename_i r hr
    split at h
    · rename_i hg
      exact IOk.of_op ho (fun V hV γ a w R => by simp [Region.wanted, hg]) (fun s hs => hs) (runO_ok hFP IH hr h)
    · rename_i j want hg
      -- guarded
      have main : ∀ {oj : Oper} {t : Nat} {p : Pos} {d : Option Pos}, ops[j]? = some oj → oj.dst = some t → slot t = some p → o.dst = d.map Pos.ix → (∀ e, d = some e → e.ix < nt) → runG P FP ex (.g p want d r) ⟨sl, ob, nx, lg⟩ = some Z → IOk P nt ops i (RG.g p want d r).ss ⟨sl, ob, nx, lg⟩ Z := by
        intro oj t p d hoj ht hp hd hlt h
        have h : g_g P FP ex p want d r ⟨sl, ob, nx, lg⟩ = some Z := h
        simp only [g_g] at h
        split at h
        · rename_i b hb
          have hy : ∀ V : Sel, (∀ s, s ∈ (RG.g p want d r).ss → V.ss s) → ∀ γ a w, Rep P V γ a w ⟨sl, ob, nx, lg⟩ → yielded ops a.tmps j = some b := by
            intro V hV γ a w R
            obtain ⟨h1, h2⟩ := R.sl p _ (hV p List.mem_cons_self) hb
            rw [slot_ix hp] at h1 h2
            have h2 := DV_b h2
            simp only [yielded, hoj, ht, Option.bind_some]
            rw [Array.getD_eq_getD_getElem?] at h2
            rw [Array.getElem?_eq_getElem h1] at h2 ⊢
            simp only [Option.getD_some] at h2
            rw [h2]
          cases hw : (bif want then b else !b) with
          | true =>
            rw [hw] at h
            refine IOk.of_op ho (fun V hV γ a w R => ?_) (fun s hs => List.mem_cons_of_mem _ hs) (runO_ok hFP IH hr h)
            simp only [Region.wanted, hg, hy V hV γ a w R]
            cases want <;> cases b <;> first | rfl | cases hw
          | false =>
            rw [hw] at h
            have h : dstK sl ob nx lg d (.tp []) = some Z := h
            have hl := dstK_lg h
            refine ⟨hl.1 ▸ LgLe.refl _, hl.2.1 ▸ Nat.le_refl _, by rw [hl.2.2.1]; exact Keeps.refl _ _, fun s hs => hl.2.2.2 s (by rw [ho] at hs; rw [← hd]; exact hs), fun V hV hto ro γ a w hn g R n K Q hK => ?_⟩
            have hwn : Region.wanted o (yielded ops a.tmps) = false := by
              simp only [Region.wanted, hg, hy V hV γ a w R]
              cases want <;> cases b <;> first | rfl | cases hw
            simp only [wpOpIn, ho, hwn]
            simp only [ho, Option.bind_some] at hK
            refine ⟨fun _ _ => trivial, ?_⟩
            obtain ⟨_, _, s1, r1⟩ := dst_fin (ro := ro) (u := undef) (a := a) hd (fun e he => by rw [hn]; exact hlt e he) R h (Fr.refl _ _ _) (fun a' ha => { g with df := by rw [ha]; exact g.df }) DV_undef R.ob R.nx
            rw [← hl.1] at s1
            exact hK γ _ w s1 r1
        · rename_i hb
          have hy : ∀ V : Sel, (∀ s, s ∈ (RG.g p want d r).ss → V.ss s) → ∀ γ a w, Rep P V γ a w ⟨sl, ob, nx, lg⟩ → yielded ops a.tmps j = none := by
            intro V hV γ a w R
            obtain ⟨h1, h2⟩ := R.sl p _ (hV p List.mem_cons_self) hb
            rw [slot_ix hp] at h1 h2
            have h2 := DV_tp_nil h2
            simp only [yielded, hoj, ht, Option.bind_some]
            rw [Array.getD_eq_getD_getElem?] at h2
            rw [Array.getElem?_eq_getElem h1] at h2 ⊢
            simp only [Option.getD_some] at h2
            rw [h2]
          have h : dstK sl ob nx lg d (.tp []) = some Z := h
          have hl := dstK_lg h
          refine ⟨hl.1 ▸ LgLe.refl _, hl.2.1 ▸ Nat.le_refl _, by rw [hl.2.2.1]; exact Keeps.refl _ _, fun s hs => hl.2.2.2 s (by rw [ho] at hs; rw [← hd]; exact hs), fun V hV hto ro γ a w hn g R n K Q hK => ?_⟩
          have hwn : Region.wanted o (yielded ops a.tmps) = false := by
            simp only [Region.wanted, hg, hy V hV γ a w R]
            rfl
          simp only [wpOpIn, ho, hwn]
          simp only [ho, Option.bind_some] at hK
          refine ⟨fun _ _ => trivial, ?_⟩
          obtain ⟨_, _, s1, r1⟩ := dst_fin (ro := ro) (u := undef) (a := a) hd (fun e he => by rw [hn]; exact hlt e he) R h (Fr.refl _ _ _) (fun a' ha => { g with df := by rw [ha]; exact g.df }) DV_undef R.ob R.nx
          rw [← hl.1] at s1
          exact hK γ _ w s1 r1
        · cases h
      split at h
      · rename_i oj hoj
        split at h
        · rename_i t ht
          split at h
          · rename_i p hp
            split at h
            · rename_i hd
              exact main hoj ht hp hd (fun e he => by cases he) h
            · rename_i s hd
              split at h
              · rename_i d hs
                obtain ⟨h1, h2⟩ := slotN_ix hs
                exact main (d := some d) hoj ht hp (by rw [hd, ← h1]; rfl) (fun e he => by cases he; rw [h1]; exact h2) h
              · exact (runG_bad h).elim
          · exact (runG_bad h).elim
        · exact (runG_bad h).elim
      · exact (runG_bad h).elim
end
end Go.Ev

namespace Go.Ev
open Go.RowKit (Below)

section
variable {P : Program} {FP : T RF} {ex : RC → X → Option (Ex × X)} {nt : Nat} {ops : Array Oper} {o : Oper}

theorem runL_ok (hFP : FPok P FP) (IH : ∀ nt c x e Z, ex (comp P nt c) x = some (e, Z) → XOk P nt c x e Z) : ∀ (l pre : List Oper) {x Z : X}, ops.toList = pre ++ l → runL P FP ex (compL P nt ops l) x = some Z →
    LgLe x.lg Z.lg ∧ x.nx.nat ≤ Z.nx.nat ∧ Keeps Z.lg x.ob Z.ob ∧ ∀ so : Pos → Prop, (∀ id, tchd Z.lg id → so id) → ∀ (ro : Option Nat) (γ : Gh) (a : Act) (w : World), a.tmps.size = nt → G ro γ a w → Rep P (allS so) γ a w x →
    ∀ (n : Nat) (Q : Exit → Act → World → Prop), (∀ γ' a' w', CSt ro Z.lg γ a w γ' a' w' → Rep P (allS so) γ' a' w' Z → Q .normal a' w') → wpOpsIn (FW ro) n P ops Q (List.range' pre.length l.length) a w
  | [], pre, x, Z, ho, h => by
    cases h
    exact ⟨LgLe.refl _, Nat.le_refl _, Keeps.refl _ _, fun so hs ro γ a w hn g R n Q hQ => hQ γ a w (CSt.refl g) R⟩
  | o :: l, pre, x, Z, ho, h => by
    have h : (match runG P FP ex (compG P nt ops o) x with
      | some x => runL P FP ex (compL P nt ops l) x
      | none => none) = some Z := h
    split at h
    · rename_i y hy
      have hoi : ops[pre.length]? = some o := by
        rw [← Array.getElem?_toList, ho]; simp
      have I := runG_ok hFP IH hoi hy
      obtain ⟨h1, h2, hk, h3⟩ := runL_ok hFP IH l (pre ++ [o]) (by rw [ho]; simp) h
      refine ⟨I.lg.trans h1, Nat.le_trans I.nx h2, I.obf.trans h1 hk, fun so hs ro γ a w hn g R n Q hQ => ?_⟩
      rw [List.length_cons, List.range'_succ, wpOpsIn_cons]
      refine I.ok (allS so) (fun _ _ => trivial) (fun id hid => hs id (h1.t id hid)) ro γ a w hn g R n _ Q fun γ1 a1 w1 s1 R1 => ?_
      have := h3 so hs ro γ1 a1 w1 (s1.sz.trans hn) s1.g R1 n Q fun γ2 a2 w2 s2 R2 => hQ γ2 a2 w2 (CSt.trans h1 s1.code s2) R2
      rw [List.length_append, List.length_singleton] at this
      exact this
    · cases h

theorem XOk.reg (hFP : FPok P FP) (IH : ∀ nt c x e Z, ex (comp P nt c) x = some (e, Z) → XOk P nt c x e Z) {id : Nat} {x Z : X} {e : Ex} (h : e_reg P FP ex (compL P nt ops ops.toList) x = some (e, Z)) : XOk P nt (.region id ops false) x e Z := by
  unfold e_reg at h
  split at h
  · rename_i y hy
    cases h
    obtain ⟨h1, h2, hk, h3⟩ := runL_ok hFP IH ops.toList [] rfl hy
    refine ⟨h1, h2, hk, fun so hs ro γ a w hn g R n Q hQ => wpIn_region ?_⟩
    have := h3 so hs ro γ a w hn g R n Q hQ
    rw [List.range_eq_range']
    rw [Array.length_toList] at this
    exact this
  · cases h
end
end Go.Ev
