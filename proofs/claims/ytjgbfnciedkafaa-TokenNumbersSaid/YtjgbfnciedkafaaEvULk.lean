import Derived.Test.YtjgbfnciedkafaaEvUFg
set_option linter.all false
namespace Go.Ev
section
variable {lg : Option (T Bool)}
noncomputable def lRK (lg : Option (T Bool)) (id : Pos) (k : Option (T Bool) → Prop) : Prop :=
  Option.casesOn lg (k none) fun L => Option.casesOn (L.get id) (T.setK id false L fun L => k (some L)) fun _ => k (some L)
noncomputable def lWK (lg : Option (T Bool)) (id : Pos) (k : Option (T Bool) → Prop) : Prop :=
  Option.casesOn lg (k none) fun L => T.setK id true L fun L => k (some L)
theorem lRK_ex {id : Pos} {k : Option (T Bool) → Prop} (h : lRK lg id k) : ∃ l, (logR lg id = fun j => j l) ∧ k l := by
  cases lg with
  | none => exact ⟨none, rfl, h⟩
  | some L =>
    change Option.rec _ _ (L.get id) at h
    cases hg : L.get id with
    | none =>
      rw [hg] at h
      change T.setK id false L _ at h
      rw [T.setK_eq] at h
      exact ⟨some (T.set id false L), funext fun j => by simp only [logR, hg, T.setK_eq], h⟩
    | some b => rw [hg] at h; exact ⟨some L, funext fun j => by simp only [logR, hg], h⟩
theorem lWK_ex {id : Pos} {k : Option (T Bool) → Prop} (h : lWK lg id k) : ∃ l, (logW lg id = fun j => j l) ∧ k l := by
  cases lg with
  | none => exact ⟨none, rfl, h⟩
  | some L =>
    change T.setK id true L _ at h
    rw [T.setK_eq] at h
    exact ⟨_, funext fun j => by show T.setK id true L _ = _; rw [T.setK_eq], h⟩
end
theorem wSt.ok {o : Option X} {Z : X} {K : X → Prop} (h : o = some Z) (k : K Z) : wSt o K := by
  subst h
  exact k
section
variable {sl : T D} {ob : T C} {nx : Pos} {lg : Option (T Bool)} {K : X → Prop}
theorem wSt.fad {d id : Pos} {off st k : Nat} {x : RX} (hx : opd sl x = some (.pt id off st)) (h : wOut sl ob nx lg d K (.pt id (off + k) st)) : wSt (step (.fad d x k) sl ob nx lg) K := by
  obtain ⟨h2, h3⟩ := wOut_ok h
  refine wSt.ok ?_ h3
  show s_fad d x k sl ob nx lg = _
  unfold s_fad
  rw [hx]
  simp only [natK_eq]
  exact h2
theorem wSt.ld1 {d id : Pos} {off st lo cur : Nat} {ro : Bool} {cs : List Cell} {v : D} {x : RX} (hx : opd sl x = some (.pt id off st)) (ho : ob.get id = some (.cells ro cs cur)) (hc : cs[off]? = some (.o v lo)) (hl : lo ≤ st) (h : lRK lg id fun lg => wOut sl ob nx lg d K v) : wSt (step (.ld1 d x) sl ob nx lg) K := by
  obtain ⟨l1, e1, h⟩ := lRK_ex h
  obtain ⟨h2, h3⟩ := wOut_ok h
  refine wSt.ok ?_ h3
  show s_ld1 d x sl ob nx lg = _
  unfold s_ld1
  rw [hx]
  simp only [ho, nthC_eq, hc]
  show (bif Nat.ble lo st then _ else none) = _
  rw [Nat.ble_eq_true_of_le hl, cond_true, e1]
  exact h2
theorem writeK_one {β : Type} (st : Nat) (mk : D → Cell) (v : D) : ∀ (off : Nat) (cs : List Cell) (f : List Cell → Option β) (d : D) (lo : Nat), cs[off]? = some (.o d lo) → lo ≤ st → writeK st mk [v] off cs f = f (cs.set off (mk v))
  | 0, [], f, d, lo, h, _ => by simp at h
  | 0, c :: cs, f, d, lo, h, hl => by
    simp at h
    subst h
    show (bif Nat.ble lo st then f (mk v :: cs) else none) = _
    rw [Nat.ble_eq_true_of_le hl]
    rfl
  | off + 1, [], f, d, lo, h, _ => by simp at h
  | off + 1, c :: cs, f, d, lo, h, hl => by
    show writeK st mk [v] off cs (fun l => f (c :: l)) = _
    rw [writeK_one st mk v off cs _ d lo (by simpa using h) hl]
    rfl
theorem wSt.st1 {id : Pos} {off st lo cur : Nat} {cs : List Cell} {v0 : D} {k : IntKind} {n : Int} {x y : RX} (hx : opd sl x = some (.pt id off st)) (hy : opd sl y = some (.i k n)) (ho : ob.get id = some (.cells false cs cur)) (hcur : cur = st + 1) (hc : cs[off]? = some (.o v0 lo)) (hl : lo ≤ st) (h : lWK lg id fun lg => T.setK id (.cells false (cs.set off (.o (.i k n) st)) cur) ob fun ob => K ⟨sl, ob, nx, lg⟩) : wSt (step (.st x y 1) sl ob nx lg) K := by
  obtain ⟨l1, e1, h⟩ := lWK_ex h
  rw [T.setK_eq] at h
  refine wSt.ok ?_ h
  show s_st x y 1 sl ob nx lg = _
  unfold s_st
  rw [hx, hy]
  subst hcur
  have hb : Nat.beq (Nat.succ st) (st + 1) = true := Nat.beq_refl _
  have hcd : cellsD (.i k n) = some [.i k n] := rfl
  simp only [ho, hcd]
  show (bif Nat.beq 1 1 then (bif Nat.beq (Nat.succ st) (st + 1) then _ else _) else none) = _
  rw [hb]
  show writeK st (fun d => Cell.o d st) [D.i k n] off cs _ = _
  rw [writeK_one st _ _ off cs _ v0 lo hc hl]
  unfold objK
  rw [e1]
  show (T.setK id _ ob fun ob => some ⟨sl, ob, nx, l1⟩ : Option X) = _
  rw [T.setK_eq]
theorem WSt.ixsY {d id : Pos} {off st z m len : Nat} {kk : IntKind} {x i : RX} (hx : opd sl x = some (.sl id off len st z)) (hi : opd sl i = some (.i kk (m : Int))) (hm : m < len) (h : wOut sl ob nx lg d K (.pt id (off + m * z) st)) : WSt (.ixs d z x i) ⟨sl, ob, nx, lg⟩ K := by
  obtain ⟨h2, h3⟩ := wOut_ok h
  refine ⟨_, ?_, h3⟩
  show s_ixs d z x i sl ob nx lg = _
  unfold s_ixs
  rw [hx, hi]
  have hidx : idx (m : Int) len = some m := by
    show (bif Nat.blt m len then some m else none) = _
    have : Nat.blt m len = true := by unfold Nat.blt; exact Nat.ble_eq_true_of_le hm
    rw [this]; rfl
  simp only [Nat.beq_refl, cond_true, hidx, natK_eq]
  exact h2
end
end Go.Ev
