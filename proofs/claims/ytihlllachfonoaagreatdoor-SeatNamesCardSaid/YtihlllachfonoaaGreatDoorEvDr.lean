import Derived.Test.YtihlllachfonoaaGreatDoorEvRF
set_option linter.all false
namespace Go.Ev
open Go.RowKit (Below)

/-! ### what logs say of one another -/
theorem vApart_ok {a b : Option Bool} (h : vApart a b = true) {x y : Bool} (ha : a = some x) (hb : b = some y) : x = false ∧ y = false := by
  subst ha hb
  cases x <;> cases y <;> first | exact ⟨rfl, rfl⟩ | cases h
theorem apart_e (b : T Bool) : apart .e b = true := rfl
theorem apart_e' (a : T Bool) : apart a .e = true := by cases a <;> rfl
theorem apart_n {l r l' r' : T Bool} {v v' : Option Bool} : apart (.n l v r) (.n l' v' r') = (bif vApart v v' then (bif apart l l' then apart r r' else false) else false) := rfl
theorem apart_ok : ∀ {a b : T Bool}, apart a b = true → ∀ (p : Pos) {x y : Bool}, a.get p = some x → b.get p = some y → x = false ∧ y = false
  | .e, b, _, p, x, y, ha, _ => by rw [T.get_e] at ha; cases ha
  | .n l v r, .e, _, p, x, y, _, hb => by rw [T.get_e] at hb; cases hb
  | .n l v r, .n l' v' r', h, p, x, y, ha, hb => by
    rw [apart_n] at h
    cases h1 : vApart v v' with
    | false => rw [h1] at h; cases h
    | true =>
      cases h2 : apart l l' with
      | false => rw [h1, h2] at h; cases h
      | true =>
        rw [h1, h2] at h
        cases p with
        | h => exact vApart_ok h1 ha hb
        | o p => exact apart_ok h2 p ha hb
        | i p => exact apart_ok h p ha hb

def vUnion (a b : Option Bool) : Option Bool :=
  match a, b with
  | none, b => b
  | some x, none => some x
  | some true, some _ => some true
  | some false, some y => some y
theorem vUnionK_eq {β : Type} (a b : Option Bool) (k : Option Bool → β) : vUnionK a b k = k (vUnion a b) := by
  cases a with
  | none => rfl
  | some x => cases b with
    | none => cases x <;> rfl
    | some y => cases x <;> rfl
theorem unionK_ok {β : Type} : ∀ (a b : T Bool) (k : T Bool → β), ∃ u, unionK a b k = k u ∧ ∀ p, u.get p = vUnion (a.get p) (b.get p)
  | .e, b, k => ⟨b, rfl, fun p => by rw [T.get_e]; rfl⟩
  | .n l v r, .e, k => ⟨_, rfl, fun p => by rw [T.get_e]; cases (T.n l v r).get p with
    | none => rfl
    | some x => cases x <;> rfl⟩
  | .n l v r, .n l' v' r', k => by
    have h0 : unionK (.n l v r) (.n l' v' r') k = unionK l l' fun l2 => unionK r r' fun r2 => vUnionK v v' fun v2 => k (.n l2 v2 r2) := rfl
    obtain ⟨u1, h1, h2⟩ := unionK_ok l l' fun l2 => unionK r r' fun r2 => vUnionK v v' fun v2 => k (.n l2 v2 r2)
    obtain ⟨u2, h3, h4⟩ := unionK_ok r r' fun r2 => vUnionK v v' fun v2 => k (.n u1 v2 r2)
    refine ⟨.n u1 (vUnion v v') u2, by rw [h0, h1, h3, vUnionK_eq], fun p => ?_⟩
    cases p with
    | h => rfl
    | o p => exact h2 p
    | i p => exact h4 p
theorem mergeK_ok {β : Type} (lg : Option (T Bool)) (L : T Bool) (k : Option (T Bool) → β) : ∃ lg', mergeK lg L k = k lg' ∧ LgLe lg lg' ∧ (∀ id, tchd (some L) id → tchd lg' id) ∧ ∀ id, wrtn (some L) id → wrtn lg' id := by
  cases lg with
  | none => exact ⟨none, rfl, LgLe.refl _, fun _ _ => trivial, fun _ _ => trivial⟩
  | some A =>
    obtain ⟨u, h1, h2⟩ := unionK_ok A L fun L => k (some L)
    refine ⟨some u, h1, ⟨by simp, fun id ⟨b, hb⟩ => ?_, fun id hb => ?_⟩, fun id ⟨b, hb⟩ => ?_, fun id hb => ?_⟩
    · show ∃ b, u.get id = some b
      rw [h2, hb]
      cases hL : L.get id with
      | none => cases b <;> exact ⟨_, rfl⟩
      | some y => cases b <;> exact ⟨_, rfl⟩
    · show u.get id = some true
      have hb : A.get id = some true := hb
      rw [h2, hb]
      cases L.get id <;> rfl
    · show ∃ b, u.get id = some b
      rw [h2, hb]
      cases A.get id with
      | none => exact ⟨_, rfl⟩
      | some y => cases y <;> exact ⟨_, rfl⟩
    · show u.get id = some true
      have hb : L.get id = some true := hb
      rw [h2, hb]
      cases A.get id with
      | none => rfl
      | some y => cases y <;> rfl

theorem accOk_ok {m : Nat} {L : T Bool} : ∀ {acc : List (Nat × T Bool)}, accOk m L acc = true → ∀ i A, (i, A) ∈ acc → bitOf m i = true ∨ apart A L = true
  | [], _, i, A, h => by cases h
  | (j, B) :: acc, h, i, A, hm => by
    have h : (bif bitOf m j then accOk m L acc else bif apart B L then accOk m L acc else false) = true := h
    cases h1 : bitOf m j with
    | true =>
      rw [h1] at h
      rcases List.mem_cons.1 hm with e | hm
      · cases e; exact .inl h1
      · exact accOk_ok h i A hm
    | false =>
      cases h2 : apart B L with
      | false => rw [h1, h2] at h; cases h
      | true =>
        rw [h1, h2] at h
        rcases List.mem_cons.1 hm with e | hm
        · cases e; exact .inr h2
        · exact accOk_ok h i A hm

theorem nthN_tl (ms : List Nat) (j : Nat) : nthN (tlN ms) j = nthN ms (j + 1) := by
  cases ms with
  | nil => cases j <;> rfl
  | cons x l => rfl

section
variable {P : Program} {FP : T RF} {ex : RC → X → Option (Ex × X)} {nt : Nat} {ops : Array Oper} {o : Oper}

def X.at (x : X) (lg : Option (T Bool)) : X := ⟨x.sl, x.ob, x.nx, lg⟩
/-- The names that an operation reads. -/
def opNames (P : Program) (nt : Nat) (ops : Array Oper) (i : Nat) : List Pos :=
  match ops[i]? with
  | some o => (compG P nt ops o).ss
  | none => []

/-- A run in the text's order, each operation with a log of its own. -/
structure DRun (P : Program) (nt : Nat) (ops : Array Oper) (M : List Nat) (p : Nat) (acc : List (Nat × T Bool)) (x Z : X) (xs : Nat → X) (Ls : Nat → T Bool) : Prop where
  b : (xs p).sl = x.sl ∧ (xs p).ob = x.ob ∧ (xs p).nx = x.nx
  e : (xs ops.size).sl = Z.sl ∧ (xs ops.size).ob = Z.ob ∧ (xs ops.size).nx = Z.nx
  ok : ∀ i, p ≤ i → i < ops.size → IOk P nt ops i (opNames P nt ops i) ((xs i).at (some .e)) ((xs (i + 1)).at (some (Ls i)))
  lg : LgLe x.lg Z.lg
  t : ∀ i, p ≤ i → i < ops.size → ∀ id, tchd (some (Ls i)) id → tchd Z.lg id
  w : ∀ i, p ≤ i → i < ops.size → ∀ id, wrtn (some (Ls i)) id → wrtn Z.lg id
  ac : ∀ j, p ≤ j → j < ops.size → ∀ i A, (i, A) ∈ acc → bitOf (nthN M j) i = true ∨ apart A (Ls j) = true
  pr : ∀ i j, p ≤ i → i < j → j < ops.size → bitOf (nthN M j) i = true ∨ apart (Ls i) (Ls j) = true

theorem runD_ok (hFP : FPok P FP) (IH : ∀ nt c x e Z, ex (comp P nt c) x = some (e, Z) → XOk P nt c x e Z) {M : List Nat} : ∀ (l pre : List Oper) {ms : List Nat} {acc : List (Nat × T Bool)} {x Z : X}, ops.toList = pre ++ l → (∀ j, nthN ms j = nthN M (pre.length + j)) →
    runD P FP ex (compL P nt ops l) ms pre.length acc x = some Z → ∃ xs Ls, DRun P nt ops M pre.length acc x Z xs Ls
  | [], pre, ms, acc, x, Z, ho, hms, h => by
    cases h
    have hsz : ops.size = pre.length := by rw [← Array.length_toList, ho]; simp
    exact ⟨fun _ => x, fun _ => .e, ⟨rfl, rfl, rfl⟩, ⟨rfl, rfl, rfl⟩, fun i h1 h2 => by omega, LgLe.refl _, fun i h1 h2 => by omega, fun i h1 h2 => by omega, fun i h1 h2 => by omega, fun i j h1 h2 h3 => by omega⟩
  | o :: l, pre, ms, acc, x, Z, ho, hms, h => by
    obtain ⟨sl, ob, nx, lg⟩ := x
    have hp : ops[pre.length]? = some o := by
      rw [← Array.getElem?_toList, ho]; simp
    have hlt : pre.length < ops.size := (Array.getElem?_eq_some_iff.1 hp).1
    have hn : opNames P nt ops pre.length = (compG P nt ops o).ss := by unfold opNames; rw [hp]
    have hlen : (pre ++ [o]).length = pre.length + 1 := by simp
    have step : ∀ {sl1 : T D} {ob1 : T C} {nx1 : Pos} {L : T Bool} {lg1 : Option (T Bool)} {acc1 : List (Nat × T Bool)}, IOk P nt ops pre.length (compG P nt ops o).ss ⟨sl, ob, nx, some .e⟩ ⟨sl1, ob1, nx1, some L⟩ →
        LgLe lg lg1 → (∀ id, tchd (some L) id → tchd lg1 id) → (∀ id, wrtn (some L) id → wrtn lg1 id) → (∀ i A, (i, A) ∈ acc → (i, A) ∈ acc1 ∧ (bitOf (nthN M pre.length) i = true ∨ apart A L = true)) → (L = .e ∨ (pre.length, L) ∈ acc1) →
        runD P FP ex (compL P nt ops l) (tlN ms) (Nat.succ pre.length) acc1 ⟨sl1, ob1, nx1, lg1⟩ = some Z → ∃ xs Ls, DRun P nt ops M pre.length acc ⟨sl, ob, nx, lg⟩ Z xs Ls := by
      intro sl1 ob1 nx1 L lg1 acc1 I hl ht hw hacc hL hrun
      obtain ⟨xs, Ls, R⟩ := runD_ok hFP IH (M := M) l (pre ++ [o]) (ms := tlN ms) (acc := acc1) (x := ⟨sl1, ob1, nx1, lg1⟩) (by rw [ho]; simp) (fun j => by rw [nthN_tl, hms, hlen]; congr 1; omega) (by rw [hlen]; exact hrun)
      rw [hlen] at R
      have hx1 : (xs (pre.length + 1)).at (some L) = ⟨sl1, ob1, nx1, some L⟩ := by
        obtain ⟨b1, b2, b3⟩ := R.b
        unfold X.at
        rw [b1, b2, b3]
      refine ⟨fun i => if i = pre.length then ⟨sl, ob, nx, lg⟩ else xs i, fun i => if i = pre.length then L else Ls i, ⟨by simp, by simp, by simp⟩, ?_, fun i h1 h2 => ?_, hl.trans R.lg, fun i h1 h2 id => ?_, fun i h1 h2 id => ?_, fun j h1 h2 i A hA => ?_, fun i j h1 h2 h3 => ?_⟩
      · rw [if_neg (by omega)]; exact R.e
      · by_cases e : i = pre.length
        · subst e
          rw [if_pos rfl, if_pos rfl, if_neg (by omega), hx1, hn]
          exact I
        · rw [if_neg e, if_neg e, if_neg (by omega)]
          exact R.ok i (by omega) h2
      · by_cases e : i = pre.length
        · rw [if_pos e]; exact fun h => R.lg.t id (ht id h)
        · rw [if_neg e]; exact R.t i (by omega) h2 id
      · by_cases e : i = pre.length
        · rw [if_pos e]; exact fun h => R.lg.w id (hw id h)
        · rw [if_neg e]; exact R.w i (by omega) h2 id
      · by_cases e : j = pre.length
        · rw [if_pos e, e]; exact (hacc i A hA).2
        · rw [if_neg e]; exact R.ac j (by omega) h2 i A (hacc i A hA).1
      · rw [if_neg (show j ≠ pre.length by omega)]
        by_cases e : i = pre.length
        · rw [if_pos e, e]
          rcases hL with rfl | hL
          · exact .inr (apart_e _)
          · exact R.ac j (by omega) h3 _ _ hL
        · rw [if_neg e]; exact R.pr i j (by omega) h2 h3
    have h : (match runG P FP ex (compG P nt ops o) ⟨sl, ob, nx, some .e⟩ with
      | some ⟨sl, ob, nx, some L⟩ => match L with
        | .e => runD P FP ex (compL P nt ops l) (tlN ms) (Nat.succ pre.length) acc ⟨sl, ob, nx, lg⟩
        | .n l' v r => bif accOk (nthN ms 0) (.n l' v r) acc then mergeK lg (.n l' v r) fun lg => runD P FP ex (compL P nt ops l) (tlN ms) (Nat.succ pre.length) ((pre.length, .n l' v r) :: acc) ⟨sl, ob, nx, lg⟩ else none
      | _ => none) = some Z := h
    split at h
    · rename_i sl1 ob1 nx1 L hg
      have I := runG_ok hFP IH hp hg
      split at h
      · refine step I (LgLe.refl _) (fun id ⟨b, hb⟩ => ?_) (fun id hb => ?_) (fun i A hA => ⟨hA, .inr (apart_e' _)⟩) (.inl rfl) h
        · rw [T.get_e] at hb; cases hb
        · have hb : (T.e : T Bool).get id = some true := hb
          rw [T.get_e] at hb; cases hb
      · rename_i l' v r
        cases ha : accOk (nthN ms 0) (.n l' v r) acc with
        | false => rw [ha] at h; cases h
        | true =>
          rw [ha] at h
          simp only [cond_true] at h
          obtain ⟨lg1, h1, h2, h3, h4⟩ := mergeK_ok lg (.n l' v r) fun lg => runD P FP ex (compL P nt ops l) (tlN ms) (Nat.succ pre.length) ((pre.length, .n l' v r) :: acc) ⟨sl1, ob1, nx1, lg⟩
          rw [h1] at h
          exact step I h2 h3 h4 (fun i A hA => ⟨List.mem_cons_of_mem _ hA, by
            have := accOk_ok ha i A hA
            rw [hms, Nat.add_zero] at this
            exact this⟩) (.inr List.mem_cons_self) h
    · cases h
end
end Go.Ev
