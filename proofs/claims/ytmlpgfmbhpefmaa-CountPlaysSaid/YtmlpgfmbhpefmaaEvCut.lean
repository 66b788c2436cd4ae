import Derived.Test.YtmlpgfmbhpefmaaEvTab
namespace Go.Ev
open Go.RowKit (Below Grown)

/-! ### a run in pieces -/
def Code.pre : Nat → Code → Code
  | k + 1, .seq a b => .seq a (Code.pre k b)
  | _, _ => .skip
def Code.suf : Nat → Code → Code
  | k + 1, .seq _ b => Code.suf k b
  | _, c => c
/-- A state of one slot, nothing else. -/
def st0 (s : Pos) (b : Bool) (nx : Pos) : X := ⟨T.set s (.b b) .e, .e, nx, none⟩

section
variable {P : Program} {FP : T RF} {nt : Nat}

theorem XOk.weak {c : Code} {s : Pos} {b : Bool} {nx : Pos} {y Z : X} {e : Ex} (h : XOk P nt c (st0 s b nx) e Z) (h1 : y.sl.get s = some (.b b)) (h2 : y.nx.nat ≤ nx.nat) (h3 : y.lg = none) : XOk P nt c y e Z := by
  have hl : LgLe y.lg Z.lg := by rw [h3]; exact h.lg
  refine ⟨hl, Nat.le_trans h2 h.nx, fun id hn => ?_, fun so hs ro γ a w hn g R n Q hQ => h.ok so hs ro γ a w hn g ⟨fun s' d _ hd => ?_, fun id c _ hc => ?_, fun id hid hle => R.nx id hid (Nat.le_trans h2 hle)⟩ n Q hQ⟩
  · have : Z.lg = none := hl.none.1 h3
    rw [this] at hn
    exact absurd trivial hn
  · have hd : (T.set s (.b b) .e).get s' = some d := hd
    by_cases e : s' = s
    · subst e
      rw [T.get_set_same] at hd
      cases hd
      exact R.sl s' _ trivial h1
    · rw [T.get_set_ne e, T.get_e] at hd
      cases hd
  · have hc : (T.e : T C).get id = some c := hc
    rw [T.get_e] at hc
    cases hc

theorem pre_ok (hFP : FPok P FP) : ∀ (k : Nat) {n : Nat} {c : Code} {x y Z : X} {e : Ex}, exec P FP n (comp P nt (Code.pre k c)) x = some (.normal, y) → XOk P nt (Code.suf k c) y e Z → XOk P nt c x e Z := by
  have triv : ∀ {n : Nat} {c : Code} {x y Z : X} {e : Ex}, exec P FP n (comp P nt .skip) x = some (.normal, y) → XOk P nt c y e Z → XOk P nt c x e Z := by
    intro n c x y Z e h h2
    cases n with
    | zero => cases h
    | succ n => cases h; exact h2
  intro k
  induction k with
  | zero => exact fun h h2 => triv h h2
  | succ k ih =>
    intro n c x y Z e h h2
    cases c with
    | seq a b =>
      cases n with
      | zero => cases h
      | succ n =>
        have h : e_seq (exec P FP n) (comp P nt a) (comp P nt (Code.pre k b)) x = some (.normal, y) := h
        unfold e_seq at h
        split at h
        · rename_i y1 hy1
          exact ((exec_ok hFP n).1 _ _ _ _ _ hy1).seq (ih h h2)
        · rename_i hne
          exact absurd h (hne y)
    | _ => exact triv h h2

/-- A piece: k statements, from x, to a state of one slot. -/
noncomputable def pieceB (P : Program) (FP : T RF) (n nt k : Nat) (c : Code) (x : X) (s : Pos) (b : Bool) (nx : Pos) : Bool :=
  match exec P FP n (comp P nt (Code.pre k c)) x with
  | some (.normal, ⟨sl, _, nx', none⟩) => match sl.get s with
    | some (.b b') => bif (bif b then b' else !b') then Nat.ble nx'.nat nx.nat else false
    | _ => false
  | _ => false
theorem piece_ok (hFP : FPok P FP) {n k : Nat} {c : Code} {x Z : X} {s : Pos} {b : Bool} {nx : Pos} {e : Ex} (h : pieceB P FP n nt k c x s b nx = true) (h2 : XOk P nt (Code.suf k c) (st0 s b nx) e Z) : XOk P nt c x e Z := by
  unfold pieceB at h
  split at h
  · rename_i sl ob nx' hy
    split at h
    · rename_i b' hb
      cases hbb : (bif b then b' else !b') with
      | false => rw [hbb] at h; cases h
      | true =>
        rw [hbb] at h
        have : b' = b := by cases b <;> cases b' <;> first | rfl | cases hbb
        subst this
        exact pre_ok hFP k hy (h2.weak hb (Nat.le_of_ble_eq_true h) rfl)
    · cases h
  · cases h

/-- The last piece. -/
noncomputable def lastB (P : Program) (FP : T RF) (n nt : Nat) (c : Code) (x : X) (s : Pos) : Bool :=
  match exec P FP n (comp P nt c) x with
  | some (e, ⟨sl, _, _, none⟩) => match e, sl.get s with
    | .normal, some (.b b) => b
    | .ret, some (.b b) => b
    | _, _ => false
  | _ => false
theorem last_ok (hFP : FPok P FP) {n : Nat} {c : Code} {x : X} {s : Pos} (h : lastB P FP n nt c x s = true) : ∃ e Z, XOk P nt c x e Z ∧ (e = .normal ∨ e = .ret) ∧ Z.sl.get s = some (.b true) := by
  unfold lastB at h
  split at h
  · rename_i e sl ob nx hy
    have X1 := (exec_ok hFP n).1 _ _ _ _ _ hy
    split at h
    · rename_i b hb
      rw [h] at hb
      exact ⟨_, _, X1, .inl rfl, hb⟩
    · rename_i b hb
      rw [h] at hb
      exact ⟨_, _, X1, .inr rfl, hb⟩
    · cases h
  · cases h

theorem calls_of_body {f : Nat} {fn : Func} {c : Code} {s : Pos} (hf : P.funcs[f]? = some fn) (hb : fn.body = some c) (hr : compR P fn.results.toList = some [.t s]) (hname : (fn.name == "runtime.NumGoroutine") = false)
    (h : ∃ e Z, XOk P fn.ntmps c ⟨.e, .e, .h, none⟩ e Z ∧ (e = .normal ∨ e = .ret) ∧ Z.sl.get s = some (.b true)) (w : World) : Calls P f #[] w fun e w' => e = .returned (.bool true) ∧ Grown w w' := by
  obtain ⟨e, ⟨sl, ob, nx, lg⟩, X1, he, hs⟩ := h
  have hs : sl.get s = some (.b true) := hs
  obtain ⟨v, ob', nx', lg', h1, C⟩ := body_ok (ds := []) (k := fun v ob nx lg => some ⟨T.set .h v .e, ob, nx, lg⟩) (Z := ⟨T.set .h (.b true) .e, ob, nx, lg⟩) hf hb hr hname (Nat.zero_le _) (fun s d hd => .inl hd) he X1 (by
    simp only [results]
    rw [hs]
    rfl)
  have hv : v = .b true := by
    have h1 := (X.mk.inj (Option.some.inj h1)).1
    have := congrArg (fun t => T.get t .h) h1
    simp only [T.get_set_same, Option.some.injEq] at this
    exact this
  subst hv
  exact calls_of C w
end
end Go.Ev
