import Derived.Test.YtpemagogcagipaaEvY
set_option linter.all false
namespace Go.Ev
open Go.RowKit (Below)

section
variable {P : Program} {FP : T RF} {ex : RC → X → Option (Ex × X)} {nt : Nat} {ops : Array Oper} {o : Oper}

theorem runL_ok (hFP : FPok P FP) (IH : ∀ nt c x e Z, ex (comp P nt c) x = some (e, Z) → XOk P nt c x e Z) : ∀ (l pre : List Oper) {x Z : X}, ops.toList = pre ++ l → runL P FP ex (compL P nt ops l) x = some Z →
    LgLe x.lg Z.lg ∧ x.nx.nat ≤ Z.nx.nat ∧ Keeps Z.lg x.ob Z.ob ∧ ∀ so : Pos → Prop, (∀ id, tchd Z.lg id → so id) → ∀ (ro : Option Nat) (γ : Gh) (a : Act) (w : World), a.tmps.size = nt → G ro γ a w → Rep P (allS so) γ a w x →
    ∀ (n : Nat) (Q : Exit → Act → World → Prop), (∀ γ' a' w', CSt ro Z.lg γ a w γ' a' w' → Rep P (allS so) γ' a' w' Z → Q .normal a' w') → wpOpsIn (FW ro) n P ops Q (List.range' pre.length l.length) a w
  | [], pre, x, Z, ho, h => by
    cases h
    exact ⟨LgLe.refl _, Nat.le_refl _, Keeps.refl _ _, fun so hs ro γ a w hn g R n Q hQ => hQ γ a w (CSt.refl g) R⟩
  | o :: l, pre, x, Z, ho, h => by
    have h : (match runG P FP ex (compG P nt ops o) x with
      | some x => runL P FP ex (compL P nt ops l) x
      | none => none) = some Z := h
    split at h
    · rename_i y hy
      have hoi : ops[pre.length]? = some o := by
        rw [← Array.getElem?_toList, ho]; simp
      have I := runG_ok hFP IH hoi hy
      obtain ⟨h1, h2, hk, h3⟩ := runL_ok hFP IH l (pre ++ [o]) (by rw [ho]; simp) h
      refine ⟨I.lg.trans h1, Nat.le_trans I.nx h2, I.obf.trans h1 hk, fun so hs ro γ a w hn g R n Q hQ => ?_⟩
      rw [List.length_cons, List.range'_succ, wpOpsIn_cons]
      refine I.ok (allS so) (fun _ _ => trivial) (fun id hid => hs id (h1.t id hid)) ro γ a w hn g R n _ Q fun γ1 a1 w1 s1 R1 => ?_
      have := h3 so hs ro γ1 a1 w1 (s1.sz.trans hn) s1.g R1 n Q fun γ2 a2 w2 s2 R2 => hQ γ2 a2 w2 (CSt.trans h1 s1.code s2) R2
      rw [List.length_append, List.length_singleton] at this
      exact this
    · cases h

theorem XOk.reg (hFP : FPok P FP) (IH : ∀ nt c x e Z, ex (comp P nt c) x = some (e, Z) → XOk P nt c x e Z) {id : Nat} {x Z : X} {e : Ex} (h : e_reg P FP ex (compL P nt ops ops.toList) x = some (e, Z)) : XOk P nt (.region id ops false) x e Z := by
  unfold e_reg at h
  split at h
  · rename_i y hy
    cases h
    obtain ⟨h1, h2, hk, h3⟩ := runL_ok hFP IH ops.toList [] rfl hy
    refine ⟨h1, h2, hk, fun so hs ro γ a w hn g R n Q hQ => wpIn_region ?_⟩
    have := h3 so hs ro γ a w hn g R n Q hQ
    rw [List.range_eq_range']
    rw [Array.length_toList] at this
    exact this
  · cases h
end
end Go.Ev
