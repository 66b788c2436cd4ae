import Derived.Test.YtihlllachfonoaaGreatDoorEvDr
set_option linter.all false
namespace Go.Ev
open Go.RowKit (Below)

/-! ### masks -/
theorem bitOf_eq (m i : Nat) : bitOf m i = m.testBit i := by
  unfold bitOf
  rw [Nat.testBit_eq_decide_div_mod_eq]
  have h1 : Nat.land (Nat.shiftRight m i) 1 = m / 2 ^ i % 2 := by
    show (m >>> i) &&& 1 = _
    rw [Nat.and_one_is_mod, Nat.shiftRight_eq_div_pow]
  rw [h1]
  by_cases h : m / 2 ^ i % 2 = 1
  · rw [h]; rfl
  · rw [decide_eq_false h]
    cases hb : Nat.beq (m / 2 ^ i % 2) 1 with
    | false => rfl
    | true => exact absurd (Nat.eq_of_beq_eq_true hb) h
theorem maskOf_bit {M : List Nat} {i : Nat} : ∀ {es : List Edge}, (maskOf M es).testBit i = true → ∃ e ∈ es, Region.binds .any e = true ∧ (i = e.on ∨ (nthN M e.on).testBit i = true)
  | [], h => by simp [maskOf] at h
  | e :: es, h => by
    simp only [maskOf] at h
    cases hb : Region.binds .any e with
    | false =>
      rw [hb] at h
      obtain ⟨e', h1, h2⟩ := maskOf_bit (es := es) h
      exact ⟨e', by simp [h1], h2⟩
    | true =>
      rw [hb] at h
      simp only [cond_true] at h
      have h : ((1 <<< e.on ||| nthN M e.on) ||| maskOf M es).testBit i = true := h
      rw [Nat.testBit_or, Nat.testBit_or, Nat.one_shiftLeft, Nat.testBit_two_pow] at h
      simp only [Bool.or_eq_true, decide_eq_true_eq] at h
      rcases h with (h | h) | h
      · exact ⟨e, by simp, hb, .inl h.symm⟩
      · exact ⟨e, by simp, hb, .inr h⟩
      · obtain ⟨e', h1, h2⟩ := maskOf_bit (es := es) h
        exact ⟨e', by simp [h1], h2⟩
theorem edgesOk_at {j : Nat} : ∀ {es : List Edge}, edgesOk j es = true → ∀ e ∈ es, Region.binds .any e = true → e.on < j
  | [], _, e, he, _ => by cases he
  | e0 :: es, h, e, he, hb => by
    simp only [edgesOk] at h
    cases h1 : Region.binds .any e0 with
    | false =>
      rw [h1] at h
      rcases List.mem_cons.1 he with rfl | he
      · rw [h1] at hb; cases hb
      · exact edgesOk_at h e he hb
    | true =>
      cases h2 : Nat.blt e0.on j with
      | false => rw [h1, h2] at h; cases h
      | true =>
        rw [h1, h2] at h
        rcases List.mem_cons.1 he with rfl | he
        · exact Nat.le_of_ble_eq_true h2
        · exact edgesOk_at h e he hb
theorem masksOk_at {M : List Nat} : ∀ {os : List Oper} {j : Nat}, masksOk M j os = true → ∀ k o, os[k]? = some o → (∀ e ∈ o.after.toList, Region.binds .any e = true → e.on < j + k) ∧ nthN M (j + k) = maskOf M o.after.toList
  | [], _, _, k, o, ho => by simp at ho
  | o0 :: os, j, h, k, o, ho => by
    simp only [masksOk] at h
    cases h1 : edgesOk j o0.after.toList with
    | false => rw [h1] at h; cases h
    | true =>
      cases h2 : Nat.beq (nthN M j) (maskOf M o0.after.toList) with
      | false => rw [h1, h2] at h; cases h
      | true =>
        rw [h1, h2] at h
        cases k with
        | zero =>
          simp at ho
          subst ho
          exact ⟨edgesOk_at h1, Nat.eq_of_beq_eq_true h2⟩
        | succ k =>
          have := masksOk_at (j := Nat.succ j) h k o (by simpa using ho)
          rw [show j + (k + 1) = Nat.succ j + k by omega]
          exact this
theorem pairsFrom_at {M : List Nat} {x : Fp} {i : Nat} : ∀ {l : List Fp} {j : Nat}, pairsFrom M x i j l = true → ∀ k y, l[k]? = some y → bitOf (nthN M (j + k)) i = true ∨ noConf x y = true
  | [], _, _, k, y, hy => by simp at hy
  | t :: l, j, h, k, y, hy => by
    simp only [pairsFrom] at h
    have main : pairsFrom M x i (Nat.succ j) l = true ∧ (bitOf (nthN M j) i = true ∨ noConf x t = true) := by
      cases h1 : bitOf (nthN M j) i with
      | true => rw [h1] at h; exact ⟨h, .inl rfl⟩
      | false => cases h2 : noConf x t with
        | true => rw [h1, h2] at h; exact ⟨h, .inr rfl⟩
        | false => rw [h1, h2] at h; cases h
    cases k with
    | zero => simp at hy; subst hy; exact main.2
    | succ k =>
      have := pairsFrom_at main.1 k y (by simpa using hy)
      rw [show j + (k + 1) = Nat.succ j + k by omega]
      exact this
theorem pairsOk_at {M : List Nat} : ∀ {l : List Fp} {i : Nat}, pairsOk M i l = true → ∀ a b x y, a < b → l[a]? = some x → l[b]? = some y → bitOf (nthN M (i + b)) (i + a) = true ∨ noConf x y = true
  | [], _, _, a, b, x, y, _, hx, _ => by simp at hx
  | t :: l, i, h, a, b, x, y, hab, hx, hy => by
    simp only [pairsOk] at h
    cases h1 : pairsFrom M t i (Nat.succ i) l with
    | false => rw [h1] at h; cases h
    | true =>
      rw [h1] at h
      cases b with
      | zero => omega
      | succ b =>
        cases a with
        | zero =>
          simp at hx
          subst hx
          have := pairsFrom_at h1 b y (by simpa using hy)
          rw [show i + (b + 1) = Nat.succ i + b by omega]
          exact this
        | succ a =>
          have := pairsOk_at (i := Nat.succ i) h a b x y (by omega) (by simpa using hx) (by simpa using hy)
          rw [show i + (b + 1) = Nat.succ i + b by omega, show i + (a + 1) = Nat.succ i + a by omega]
          exact this
theorem memN_iff {d : Nat} : ∀ {l : List Nat}, memN d l = true ↔ d ∈ l
  | [] => by simp [memN]
  | e :: l => by
    simp only [memN, List.mem_cons]
    cases h : Nat.beq d e with
    | true => simp [Nat.eq_of_beq_eq_true h]
    | false =>
      have : d ≠ e := fun e => by subst e; simp at h
      simp [this, memN_iff (l := l)]
theorem noConf_ok {a b : Fp} (h : noConf a b = true) : (∀ d, b.2 = some d → d ∉ a.1) ∧ ∀ d, a.2 = some d → d ∉ b.1 := by
  unfold noConf at h
  cases h1 : memO b.2 a.1 with
  | true => rw [h1] at h; cases h
  | false => cases h2 : memO a.2 b.1 with
    | true => rw [h1, h2] at h; cases h
    | false =>
      refine ⟨fun d hd hm => ?_, fun d hd hm => ?_⟩
      · rw [hd] at h1
        have h1 : memN d a.1 = false := h1
        rw [memN_iff.2 hm] at h1; cases h1
      · rw [hd] at h2
        have h2 : memN d b.1 = false := h2
        rw [memN_iff.2 hm] at h2; cases h2
theorem fps_at {P : Program} {nt : Nat} {ops : Array Oper} : ∀ {l : List Oper} {k : Nat} {o : Oper}, l[k]? = some o → (fps (compL P nt ops l) l)[k]? = some (consO o.dst ((compG P nt ops o).ss.map Pos.ix), o.dst)
  | [], k, o, h => by simp at h
  | o0 :: l, k, o, h => by
    cases k with
    | zero => simp at h; subst h; rfl
    | succ k =>
      have := fps_at (P := P) (nt := nt) (ops := ops) (l := l) (k := k) (o := o) (by simpa using h)
      simpa [fps, compL] using this

/-! ### any order -/
section
variable {P : Program} {nt : Nat} {ops : Array Oper} {M : List Nat} {xs : Nat → X} {Ls : Nat → T Bool}

/-- What an operation writes and touches: slots (.inl) and objects (.inr). -/
def wr (ops : Array Oper) (Ls : Nat → T Bool) (i : Nat) : Pos ⊕ Pos → Prop
  | .inl s => (ops[i]?).bind (·.dst) = some s.ix
  | .inr id => (Ls i).get id = some true
def tc (P : Program) (nt : Nat) (ops : Array Oper) (Ls : Nat → T Bool) (i : Nat) : Pos ⊕ Pos → Prop
  | .inl s => s ∈ opNames P nt ops i ∨ (ops[i]?).bind (·.dst) = some s.ix
  | .inr id => ∃ b, (Ls i).get id = some b

def Closed (ops : Array Oper) (L : Nat → Bool) : Prop := ∀ (j : Nat) o, ops[j]? = some o → L j = true → ∀ e ∈ o.after, Region.binds .any e = true → L e.on = true
/-- The writers of r that have been are those ahead of t. -/
def Cur (ops : Array Oper) (Ls : Nat → T Bool) (S : Nat → Bool) (r : Pos ⊕ Pos) (t : Nat) : Prop := ∀ j, j < ops.size → wr ops Ls j r → (j < t ↔ S j = true)

structure Fine (P : Program) (nt : Nat) (ops : Array Oper) (M : List Nat) (Ls : Nat → T Bool) : Prop where
  conf : ∀ i j, i < ops.size → j < ops.size → i ≠ j → ∀ r, tc P nt ops Ls i r → wr ops Ls j r → bitOf (nthN M j) i = true ∨ bitOf (nthN M i) j = true
  lt : ∀ i j, j < ops.size → bitOf (nthN M j) i = true → i < j
  closed : ∀ L, Closed ops L → ∀ i j, j < ops.size → bitOf (nthN M j) i = true → L j = true → L i = true
  edge : ∀ j o, ops[j]? = some o → ∀ e ∈ o.after, Region.binds .any e = true → e.on < j

theorem wr_tc {i : Nat} {r : Pos ⊕ Pos} (h : wr ops Ls i r) : tc P nt ops Ls i r := by
  cases r with
  | inl s => exact .inr h
  | inr id => exact ⟨true, h⟩

theorem Fine.of (hm : masksOk M 0 ops.toList = true) (hp : pairsOk M 0 (fps (compL P nt ops ops.toList) ops.toList) = true) (hl : ∀ i j, i < j → j < ops.size → bitOf (nthN M j) i = true ∨ apart (Ls i) (Ls j) = true) : Fine P nt ops M Ls := by
  have at' : ∀ j (hj : j < ops.size), (∀ e ∈ (ops[j]).after, Region.binds .any e = true → e.on < j) ∧ nthN M j = maskOf M (ops[j]).after.toList := by
    intro j hj
    have := masksOk_at hm j ops[j] (by simp [hj])
    rw [Nat.zero_add] at this
    exact ⟨fun e he hb => this.1 e (by simpa using he) hb, this.2⟩
  have hclosed : ∀ L, Closed ops L → ∀ i j, j < ops.size → bitOf (nthN M j) i = true → L j = true → L i = true := by
    intro L hL i j
    induction j using Nat.strongRecOn generalizing i with
    | _ j ih =>
      intro hj hb hLj
      obtain ⟨h1, h2⟩ := at' j hj
      rw [bitOf_eq, h2] at hb
      obtain ⟨e, he, hbe, h3⟩ := maskOf_bit hb
      have he : e ∈ (ops[j]).after := by simpa using he
      have hLe : L e.on = true := hL j ops[j] (Array.getElem?_eq_getElem hj) hLj e he hbe
      rcases h3 with rfl | h3
      · exact hLe
      · have hlt := h1 e he hbe
        exact ih e.on hlt i (by omega) (by rw [bitOf_eq]; exact h3) hLe
  have hlt : ∀ i j, j < ops.size → bitOf (nthN M j) i = true → i < j := by
    intro i j
    induction j using Nat.strongRecOn generalizing i with
    | _ j ih =>
      intro hj hb
      obtain ⟨h1, h2⟩ := at' j hj
      rw [bitOf_eq, h2] at hb
      obtain ⟨e, he, hbe, h3⟩ := maskOf_bit hb
      have hlt := h1 e (by simpa using he) hbe
      rcases h3 with rfl | h3
      · exact hlt
      · have := ih e.on hlt i (by omega) (by rw [bitOf_eq]; exact h3)
        omega
  refine ⟨?_, hlt, hclosed, fun j o ho e he hb => ?_⟩
  · have key : ∀ i j, i < j → j < ops.size → ∀ r, (tc P nt ops Ls i r → wr ops Ls j r → bitOf (nthN M j) i = true) ∧ (tc P nt ops Ls j r → wr ops Ls i r → bitOf (nthN M j) i = true) := by
      intro i j hij hj r
      have hi : i < ops.size := by omega
      cases r with
      | inl s =>
        have f1 := fps_at (P := P) (nt := nt) (ops := ops) (l := ops.toList) (k := i) (o := ops[i]) (by simp [hi])
        have f2 := fps_at (P := P) (nt := nt) (ops := ops) (l := ops.toList) (k := j) (o := ops[j]) (by simp [hj])
        have hh := pairsOk_at hp i j _ _ hij f1 f2
        rw [Nat.zero_add, Nat.zero_add] at hh
        have names : ∀ k (hk : k < ops.size), tc P nt ops Ls k (.inl s) → s.ix ∈ consO (ops[k]).dst ((compG P nt ops ops[k]).ss.map Pos.ix) := by
          intro k hk h
          have hk' : ops[k]? = some ops[k] := Array.getElem?_eq_getElem hk
          rcases h with h | h
          · unfold opNames at h
            rw [hk'] at h
            have : s.ix ∈ (compG P nt ops ops[k]).ss.map Pos.ix := List.mem_map.2 ⟨s, h, rfl⟩
            cases (ops[k]).dst with
            | none => exact this
            | some d => exact List.mem_cons_of_mem _ this
          · rw [hk'] at h
            have h : (ops[k]).dst = some s.ix := h
            rw [h]; exact List.mem_cons_self
        have dst : ∀ k (hk : k < ops.size), wr ops Ls k (.inl s) → (ops[k]).dst = some s.ix := by
          intro k hk h
          have hk' : ops[k]? = some ops[k] := Array.getElem?_eq_getElem hk
          have h : (ops[k]?).bind (·.dst) = some s.ix := h
          rw [hk'] at h
          exact h
        refine ⟨fun h1 h2 => ?_, fun h1 h2 => ?_⟩
        · rcases hh with hh | hh
          · exact hh
          · exact absurd (names i hi h1) ((noConf_ok hh).1 _ (dst j hj h2))
        · rcases hh with hh | hh
          · exact hh
          · exact absurd (names j hj h1) ((noConf_ok hh).2 _ (dst i hi h2))
      | inr id =>
        refine ⟨fun ⟨b, h1⟩ h2 => ?_, fun ⟨b, h1⟩ h2 => ?_⟩
        · rcases hl i j hij hj with hh | hh
          · exact hh
          · have := (apart_ok hh id h1 h2).2
            cases this
        · rcases hl i j hij hj with hh | hh
          · exact hh
          · have := (apart_ok hh id h2 h1).1
            cases this
    intro i j hi hj hne r h1 h2
    rcases Nat.lt_or_gt_of_ne hne with h | h
    · exact .inl ((key i j h hj r).1 h1 h2)
    · exact .inr ((key j i h hi r).2 h1 h2)
  · have hj : j < ops.size := (Array.getElem?_eq_some_iff.1 ho).1
    rw [Array.getElem?_eq_getElem hj] at ho
    cases ho
    exact (at' j hj).1 e he hb

/-- What is so while the operations in S have been. -/
structure Inv (P : Program) (ops : Array Oper) (xs : Nat → X) (Ls : Nat → T Bool) (so : Pos → Prop) (S : Nat → Bool) (γ : Gh) (a : Act) (w : World) : Prop where
  sl : ∀ p t, t ≤ ops.size → Cur ops Ls S (.inl p) t → ∀ d, (xs t).sl.get p = some d → p.ix < a.tmps.size ∧ DV γ w d (a.tmps.getD p.ix undef)
  ob : ∀ id t, so id → t ≤ ops.size → Cur ops Ls S (.inr id) t → (∀ c, (xs t).ob.get id = some c → HoldsO P γ w id c) ∧ ((xs t).nx.nat ≤ id.nat → γ.cur id = 0)

/-- What an operation touches is as it was in the text's order. -/
theorem Fine.cur (F : Fine P nt ops M Ls) {S : Nat → Bool} (hC : Closed ops S) {i : Nat} (hi : i < ops.size) (hn : S i = false) (hpre : ∀ o, ops[i]? = some o → ∀ e ∈ o.after, Region.binds .any e = true → S e.on = true) {r : Pos ⊕ Pos} (h : tc P nt ops Ls i r) : Cur ops Ls S r i := by
  have hC' : Closed ops (fun j => S j || j == i) := by
    intro j o ho hj e he hb
    by_cases hji : j = i
    · subst hji; simp [hpre o ho e he hb]
    · have : S j = true := by simpa [hji] using hj
      simp [hC j o ho this e he hb]
  intro j hj hw
  by_cases hji : j = i
  · subst hji
    simp [hn]
  · constructor
    · intro hlt
      rcases F.conf i j hi hj (fun e => hji e.symm) r h hw with hb | hb
      · have := F.lt i j hj hb; omega
      · have := F.closed _ hC' j i hi hb (by simp)
        simpa [hji] using this
    · intro hS
      rcases F.conf i j hi hj (fun e => hji e.symm) r h hw with hb | hb
      · have := F.closed _ hC i j hj hb hS
        rw [hn] at this; cases this
      · exact F.lt j i hi hb

theorem Inv.step {so : Pos → Prop} {S S' : Nat → Bool} (F : Fine P nt ops M Ls) (hok : ∀ i, i < ops.size → IOk P nt ops i (opNames P nt ops i) ((xs i).at (some .e)) ((xs (i + 1)).at (some (Ls i))))
    (hC : Closed ops S) {i : Nat} (hi : i < ops.size) (hn : S i = false) (hpre : ∀ o, ops[i]? = some o → ∀ e ∈ o.after, Region.binds .any e = true → S e.on = true) (hS' : ∀ j, S' j = (S j || j == i))
    {ro : Option Nat} {γ γ' : Gh} {a a' : Act} {w w' : World} (g : G ro γ a w) (I : Inv P ops xs Ls so S γ a w) (st : St ro (some (Ls i)) ((ops[i]?).bind (·.dst)) γ a w γ' a' w')
    (R : Rep P ⟨fun p => Cur ops Ls S (.inl p) i, fun id => so id ∧ Cur ops Ls S (.inr id) i⟩ γ' a' w' ((xs (i + 1)).at (some (Ls i)))) : Inv P ops xs Ls so S' γ' a' w' := by
  -- behind the operation, up to t, no other writer
  have later : ∀ (r : Pos ⊕ Pos) t, wr ops Ls i r → t ≤ ops.size → Cur ops Ls S' r t → Cur ops Ls S r i ∧ i < t ∧ ∀ j, i < j → j < t → ¬ wr ops Ls j r := by
    intro r t hw ht hcur
    have hc := F.cur hC hi hn hpre (wr_tc hw)
    refine ⟨hc, (hcur i hi hw).2 (by rw [hS']; simp), fun j hij hjt hwj => ?_⟩
    have h1 := (hcur j (by omega) hwj).1 hjt
    rw [hS'] at h1
    have hne : (j == i) = false := by simp; omega
    rw [hne, Bool.or_false] at h1
    have := (hc j (by omega) hwj).2 h1
    omega
  have before : ∀ (r : Pos ⊕ Pos) t, ¬ wr ops Ls i r → Cur ops Ls S' r t → Cur ops Ls S r t := by
    intro r t hw hcur j hj hwj
    have hne : j ≠ i := fun e => hw (e ▸ hwj)
    have := hcur j hj hwj
    rw [hS'] at this
    have hne : (j == i) = false := by simpa using hne
    rwa [hne, Bool.or_false] at this
  refine ⟨fun p t ht hcur d hd => ?_, fun id t hid ht hcur => ?_⟩
  · by_cases hw : wr ops Ls i (.inl p)
    · obtain ⟨hc, hit, hnone⟩ := later _ t hw ht hcur
      have same : ∀ k, i + 1 + k ≤ t → (xs (i + 1 + k)).sl.get p = (xs (i + 1)).sl.get p := by
        intro k
        induction k with
        | zero => intro _; rfl
        | succ k ih =>
          intro hk
          rw [← ih (by omega)]
          exact (hok (i + 1 + k) (by omega)).slf p (fun e => hnone (i + 1 + k) (by omega) (by omega) e)
      have := same (t - (i + 1)) (by omega)
      rw [show i + 1 + (t - (i + 1)) = t by omega] at this
      rw [this] at hd
      exact R.sl p d hc hd
    · obtain ⟨h1, h2⟩ := I.sl p t ht (before _ t hw hcur) d hd
      refine ⟨by rw [st.sz]; exact h1, ?_⟩
      rw [st.sl p.ix hw]
      exact DV.mono st.fr.up _ _ h2
  · by_cases hw : wr ops Ls i (.inr id)
    · obtain ⟨hc, hit, hnone⟩ := later _ t hw ht hcur
      have same : ∀ k, i + 1 + k ≤ t → (xs (i + 1 + k)).ob.get id = (xs (i + 1)).ob.get id ∧ (xs (i + 1)).nx.nat ≤ (xs (i + 1 + k)).nx.nat := by
        intro k
        induction k with
        | zero => intro _; exact ⟨rfl, Nat.le_refl _⟩
        | succ k ih =>
          intro hk
          obtain ⟨h1, h2⟩ := ih (by omega)
          refine ⟨?_, Nat.le_trans h2 (hok (i + 1 + k) (by omega)).nx⟩
          rw [← h1]
          exact (hok (i + 1 + k) (by omega)).obf id (fun e => hnone (i + 1 + k) (by omega) (by omega) e)
      obtain ⟨h1, h2⟩ := same (t - (i + 1)) (by omega)
      rw [show i + 1 + (t - (i + 1)) = t by omega] at h1 h2
      refine ⟨fun c hcc => R.ob id c ⟨hid, hc⟩ (h1.symm.trans hcc), fun hle => R.nx id ⟨hid, hc⟩ (Nat.le_trans h2 hle)⟩
    · obtain ⟨h1, h2⟩ := I.ob id t hid ht (before _ t hw hcur)
      refine ⟨fun c hcc => st.fr.keep g hw (h1 c hcc), fun hle => ?_⟩
      rw [st.fr.cur id hw]
      exact h2 hle

theorem any_ok {so : Pos → Prop} {lgZ : Option (T Bool)} (F : Fine P nt ops M Ls) (hok : ∀ i, i < ops.size → IOk P nt ops i (opNames P nt ops i) ((xs i).at (some .e)) ((xs (i + 1)).at (some (Ls i))))
    (ht : ∀ i, i < ops.size → ∀ id, tchd (some (Ls i)) id → so id) (hw : ∀ i, i < ops.size → ∀ id, wrtn (some (Ls i)) id → wrtn lgZ id)
    {ro : Option Nat} {n : Nat} {Q : Exit → Act → World → Prop} {γ0 : Gh} {a0 : Act} {w0 : World} (hn0 : a0.tmps.size = nt)
    (hQ : ∀ γ a w, CSt ro lgZ γ0 a0 w0 γ a w → Rep P (allS so) γ a w ((xs ops.size).at lgZ) → Q .normal a w) :
    ∀ (fuel : Nat) (listed : Array Bool) (γ : Gh) (a : Act) (w : World), CSt ro lgZ γ0 a0 w0 γ a w → listed.size = ops.size → Closed ops (fun j => listed.getD j false) →
      Inv P ops xs Ls so (fun j => listed.getD j false) γ a w →
      (List.range ops.size).countP (fun j => !listed.getD j false) ≤ fuel → wpAnyIn (FW ro) n P .any ops Q fuel listed a w := by
  have done : ∀ (listed : Array Bool) (γ : Gh) (a : Act) (w : World), CSt ro lgZ γ0 a0 w0 γ a w → listed.size = ops.size →
      Inv P ops xs Ls so (fun j => listed.getD j false) γ a w → Region.ready .any ops listed = [] → Q .normal a w := by
    intro listed γ a w hS hsz hI hr
    have all : ∀ m, m ≤ ops.size → ∀ j, j < m → listed.getD j false = true := by
      intro m
      induction m with
      | zero => intro _ j hj; omega
      | succ m ih =>
        intro hm j hj
        by_cases hjm : j < m
        · exact ih (by omega) j hjm
        · obtain rfl : j = m := by omega
          cases hl : listed.getD j false with
          | true => rfl
          | false =>
            exfalso
            have : j ∈ Region.ready .any ops listed := by
              unfold Region.ready
              rw [List.mem_filter]
              refine ⟨by simp; omega, ?_⟩
              have hlt : j < listed.size := by omega
              have h1 : listed.getD j true = false := by
                simp [Array.getD, hlt] at hl ⊢; exact hl
              have ho : ops[j]? = some ops[j] := Array.getElem?_eq_getElem (by omega)
              rw [h1, ho]
              simp only [Bool.not_false, Bool.true_and, Option.map_some, Option.getD_some, Array.all_eq_true_iff_forall_mem, Bool.or_eq_true, Bool.not_eq_true']
              intro e he
              by_cases hb : Region.binds .any e = true
              · exact .inr (ih (by omega) e.on (F.edge j _ ho e he hb))
              · exact .inl (by simpa using hb)
            rw [hr] at this
            cases this
    have cur : ∀ r, Cur ops Ls (fun j => listed.getD j false) r ops.size := fun r j hj _ => ⟨fun _ => all _ (Nat.le_refl _) j hj, fun _ => hj⟩
    exact hQ γ a w hS ⟨fun p d _ hd => hI.sl p _ (Nat.le_refl _) (cur _) d hd, fun id c hid hc => (hI.ob id _ hid (Nat.le_refl _) (cur _)).1 c hc, fun id hid hle => (hI.ob id _ hid (Nat.le_refl _) (cur _)).2 hle, hS.g.gl⟩
  intro fuel
  induction fuel with
  | zero =>
    intro listed γ a w hS hsz hC hI hf
    have hr : Region.ready .any ops listed = [] := by
      unfold Region.ready
      rw [List.filter_eq_nil_iff]
      intro j hj h
      have h0 := List.countP_eq_zero.1 (Nat.le_zero.1 hf) j hj
      have hlt : j < listed.size := by simp at hj; omega
      simp [Array.getD, hlt] at h0 h
      rw [h0] at h
      simp at h
    exact ⟨hr, done listed γ a w hS hsz hI hr⟩
  | succ fuel ih =>
    intro listed γ a w hS hsz hC hI hf
    refine ⟨done listed γ a w hS hsz hI, ?_⟩
    intro i hi
    unfold Region.ready at hi
    rw [List.mem_filter] at hi
    obtain ⟨hir, hi⟩ := hi
    have hilt : i < ops.size := by simpa using hir
    have hlt : i < listed.size := by omega
    have ho : ops[i]? = some ops[i] := Array.getElem?_eq_getElem hilt
    rw [ho] at hi
    simp only [Bool.and_eq_true, Bool.not_eq_true', Option.map_some, Option.getD_some, Array.all_eq_true_iff_forall_mem, Bool.or_eq_true] at hi
    obtain ⟨hi1, hi2⟩ := hi
    have hn : listed.getD i false = false := by
      simp [Array.getD, hlt] at hi1 ⊢; exact hi1
    have hpre : ∀ o, ops[i]? = some o → ∀ e ∈ o.after, Region.binds .any e = true → listed.getD e.on false = true := by
      intro o ho' e he hb
      rw [ho] at ho'
      cases ho'
      rcases hi2 e he with h | h
      · rw [hb] at h; cases h
      · exact h
    have hL' : ∀ j, (listed.setIfInBounds i true).getD j false = (listed.getD j false || j == i) := by
      intro j
      by_cases hji : j = i
      · subst hji; simp [hlt]
      · have : (j == i) = false := by simpa using hji
        have hne : i ≠ j := fun e => hji e.symm
        simp [this, Array.getElem?_setIfInBounds_ne hne]
    refine (hok i hilt).ok ⟨fun p => Cur ops Ls (fun j => listed.getD j false) (.inl p) i, fun id => so id ∧ Cur ops Ls (fun j => listed.getD j false) (.inr id) i⟩
      (fun s hs => F.cur hC hilt hn hpre (.inl hs)) (fun id hid => ⟨ht i hilt id hid, F.cur hC hilt hn hpre (show tc P nt ops Ls i (.inr id) from hid)⟩) ro γ a w (hS.sz.trans hn0) hS.g
      ⟨fun p d hp hd => hI.sl p i (by omega) hp d hd, fun id c hid hc => (hI.ob id i hid.1 (by omega) hid.2).1 c hc, fun id hid hle => (hI.ob id i hid.1 (by omega) hid.2).2 hle, hS.g.gl⟩ _ _ Q ?_
    intro γ' a' w' st R
    have cst : CSt ro lgZ γ a w γ' a' w' := ⟨st.g, st.fr.mono (hw i hilt), st.sz, st.code.dn⟩
    refine ih (listed.setIfInBounds i true) γ' a' w' (CSt.trans (LgLe.refl _) hS cst) (by simpa using hsz) ?_ (Inv.step F hok hC hilt hn hpre hL' hS.g hI st R) ?_
    · intro j o hoj hj e he hb
      have hj : (listed.getD j false || j == i) = true := by rw [← hL']; exact hj
      show (listed.setIfInBounds i true).getD e.on false = true
      rw [hL']
      by_cases hji : j = i
      · subst hji; simp [hpre o hoj e he hb]
      · have : listed.getD j false = true := by simpa [hji] using hj
        simp [hC j o hoj this e he hb]
    · have h1 : (List.range ops.size).countP (fun j => !(listed.setIfInBounds i true).getD j false) + 1 ≤ (List.range ops.size).countP (fun j => !listed.getD j false) := by
        have hmem : i ∈ List.range ops.size := by simpa using hilt
        generalize List.range ops.size = l at hmem
        have mono : ∀ l : List Nat, l.countP (fun j => !(listed.setIfInBounds i true).getD j false) ≤ l.countP (fun j => !listed.getD j false) := fun l =>
          List.countP_mono_left (fun j _ hj => by
            rw [hL'] at hj
            simp only [Bool.not_eq_true', Bool.or_eq_false_iff] at hj ⊢
            exact hj.1)
        induction l with
        | nil => cases hmem
        | cons k l ihl =>
          rw [List.countP_cons, List.countP_cons]
          rcases List.mem_cons.1 hmem with rfl | hm
          · have e1 : (!(listed.setIfInBounds i true).getD i false) = false := by rw [hL']; simp
            have e2 : (!listed.getD i false) = true := by rw [hn]; rfl
            rw [e1, e2]
            have := mono l
            rw [if_neg (by decide), if_pos rfl]
            omega
          · have := ihl hm
            have h3 : (if (!(listed.setIfInBounds i true).getD k false) = true then 1 else 0) ≤ (if (!listed.getD k false) = true then 1 else 0) := by
              rw [hL']
              cases listed.getD k false <;> cases (k == i) <;> simp
            omega
      omega

theorem drew_ok {ro : Option Nat} {γ : Gh} {a : Act} {w : World} (g : G ro γ a w) (S : Pos → Prop) : Fr S γ γ w { w with drawn := w.drawn + 1 } ∧ G ro γ a { w with drawn := w.drawn + 1 } := by
  have F : Fr S γ γ w { w with drawn := w.drawn + 1 } := ⟨⟨fun _ => Nat.le_refl _, fun _ _ _ => rfl, fun _ _ h => h, fun _ h => ⟨h, fun _ h => h⟩⟩, fun _ _ => rfl, fun _ _ _ => rfl, fun _ _ h1 h2 => absurd h2 (by omega), fun _ h _ => h, fun _ r h => ⟨r, h⟩, Nat.le_refl _, rfl, rfl, rfl, fun _ => rfl⟩
  exact ⟨F, g.of F rfl g.ob g.inj g.im⟩

theorem XOk.drw {FP : T RF} {ex : RC → X → Option (Ex × X)} (hFP : FPok P FP) (IH : ∀ nt c x e Z, ex (comp P nt c) x = some (e, Z) → XOk P nt c x e Z) {id : Nat} {x Z : X} {e : Ex} (hm : P.follows .mixedOrders = true) (hM : masksOk M 0 ops.toList = true) (hp : pairsOk M 0 (fps (compL P nt ops ops.toList) ops.toList) = true)
    (h : e_drw P FP ex (compL P nt ops ops.toList) M x = some (e, Z)) : XOk P nt (.region id ops true) x e Z := by
  unfold e_drw at h
  split at h
  · rename_i y hy
    cases h
    obtain ⟨xs, Ls, R⟩ := runD_ok (ops := ops) hFP IH (M := M) ops.toList [] rfl (fun j => by rw [List.length_nil, Nat.zero_add]) hy
    have F : Fine P nt ops M Ls := Fine.of hM hp fun i j hij hj => R.pr i j (Nat.zero_le _) hij hj
    have hok : ∀ i, i < ops.size → IOk P nt ops i (opNames P nt ops i) ((xs i).at (some .e)) ((xs (i + 1)).at (some (Ls i))) := fun i hi => R.ok i (Nat.zero_le _) hi
    obtain ⟨b1, b2, b3⟩ := R.b
    obtain ⟨e1, e2, e3⟩ := R.e
    have chain : ∀ k, k ≤ ops.size → Keeps Z.lg (xs 0).ob (xs k).ob ∧ (xs 0).nx.nat ≤ (xs k).nx.nat := by
      intro k
      induction k with
      | zero => intro _; exact ⟨Keeps.refl _ _, Nat.le_refl _⟩
      | succ k ih =>
        intro hk
        obtain ⟨h1, h2⟩ := ih (by omega)
        exact ⟨fun id hn => ((hok k (by omega)).obf id fun hw => hn (R.w k (Nat.zero_le _) (by omega) id hw)).trans (h1 id hn), Nat.le_trans h2 (hok k (by omega)).nx⟩
    obtain ⟨c1, c2⟩ := chain ops.size (Nat.le_refl _)
    rw [e2] at c1
    rw [e3] at c2
    have c1 : Keeps Z.lg x.ob Z.ob := by
      have b2 : (xs 0).ob = x.ob := b2
      rw [b2] at c1; exact c1
    have c2 : x.nx.nat ≤ Z.nx.nat := by
      have b3 : (xs 0).nx = x.nx := b3
      rw [b3] at c2; exact c2
    refine ⟨R.lg, c2, c1, fun so hso ro γ a w hn g Rp n Q hQ => wpIn_region_any hm ?_⟩
    obtain ⟨F0, g0⟩ := drew_ok g (wrtn Z.lg)
    refine any_ok F hok (fun i hi id hid => hso id (R.t i (Nat.zero_le _) hi id hid)) (fun i hi => R.w i (Nat.zero_le _) hi) hn (fun γ' a' w' cst rep => hQ γ' a' w' cst ?_) ops.size (Array.replicate ops.size false) γ a _ ⟨g0, F0, rfl, fun r hr => .inl hr⟩ (by simp) ?_ ?_ ?_
    · refine ⟨fun s d hs hd => rep.sl s d hs (e1.symm ▸ hd), fun id c hid hc => rep.ob id c hid (e2.symm ▸ hc), fun id hid hle => rep.nx id hid ?_, rep.gl⟩
      show (xs ops.size).nx.nat ≤ id.nat
      rw [e3]; exact hle
    · intro j o ho hj e he hb
      have hjl : j < ops.size := (Array.getElem?_eq_some_iff.1 ho).1
      simp [hjl] at hj
    · -- nothing has been: all is as at the start, up to the first writer
      have none : ∀ r t, t ≤ ops.size → Cur ops Ls (fun j => (Array.replicate ops.size false).getD j false) r t → ∀ j, j < t → ¬ wr ops Ls j r := by
        intro r t ht hcur j hj hw
        have hjl : j < ops.size := by omega
        have := (hcur j hjl hw).1 hj
        simp [hjl] at this
      refine ⟨fun p t ht hcur d hd => ?_, fun id t hid ht hcur => ?_⟩
      · have hn' := none _ t ht hcur
        have same : ∀ k, k ≤ t → (xs k).sl.get p = (xs 0).sl.get p := by
          intro k
          induction k with
          | zero => intro _; rfl
          | succ k ih => exact fun hk => ((hok k (by omega)).slf p (fun e => hn' k (by omega) e)).trans (ih (by omega))
        rw [same t (Nat.le_refl _)] at hd
        have b1 : (xs 0).sl = x.sl := b1
        rw [b1] at hd
        obtain ⟨q1, q2⟩ := Rp.sl p d trivial hd
        exact ⟨q1, DV.mono F0.up _ _ q2⟩
      · have hn' := none _ t ht hcur
        have same : ∀ k, k ≤ t → (xs k).ob.get id = (xs 0).ob.get id ∧ (xs 0).nx.nat ≤ (xs k).nx.nat := by
          intro k
          induction k with
          | zero => intro _; exact ⟨rfl, Nat.le_refl _⟩
          | succ k ih => exact fun hk => ⟨((hok k (by omega)).obf id (fun e => hn' k (by omega) e)).trans (ih (by omega)).1, Nat.le_trans (ih (by omega)).2 (hok k (by omega)).nx⟩
        obtain ⟨s1, s2⟩ := same t (Nat.le_refl _)
        have b2 : (xs 0).ob = x.ob := b2
        have b3 : (xs 0).nx = x.nx := b3
        rw [b2] at s1
        rw [b3] at s2
        refine ⟨fun c hc => ?_, fun hle => Rp.nx id hid (Nat.le_trans s2 hle)⟩
        rw [s1] at hc
        exact HoldsO.mono F0.up rfl (fun _ _ => rfl) (Rp.ob id c hid hc)
    · exact Nat.le_trans List.countP_le_length (by simp)
  · cases h
end
end Go.Ev
