import Derived.Test.YtmlpgfmbhpefmaaEvFt
set_option linter.all false
namespace Go.Ev
open Go.RowKit Go.ChangeShapes
def LstLe (n : Nat) : D → Prop
  | .lst _ es => es.length ≤ n
  | .ag ds => ∀ d ∈ ds, ∀ z es, d = .lst z es → es.length ≤ n
  | _ => True
section
variable {H : Type} {enc : TypeId × Value → H} {P : Program} {w : World} {base : Nat} {spare : Nat → Bool} {held : Bool} {B : DataW H → Nat}
theorem rowF_mem {g : TypeId → Option (List CK)} {cs : List Value} {Q : Value → Prop} : ∀ {fs : List Field} {off : Nat} {r : List CK}, rowF P g fs off = some r → (∀ f ∈ fs, ∀ r', g f.type = some r' → ∀ u ∈ (cs.drop f.offset).take (P.cellsOf f.type), Q u) → off + r.length = cs.length → ∀ u ∈ cs.drop off, Q u
  | [], off, r, h, _, hl, u, hu => by
    cases h
    rw [List.drop_of_length_le (by simp at hl; omega)] at hu
    cases hu
  | f :: fs, off, r, h, hf, hl, u, hu => by
    unfold rowF at h
    split at h
    · rename_i ho
      split at h
      · rename_i r1 hr1
        split at h
        · rename_i hlen
          split at h
          · rename_i rs hrs
            cases h
            rw [List.length_append] at hl
            have e : cs.drop off = (cs.drop off).take r1.length ++ cs.drop (off + r1.length) := by
              rw [← List.drop_drop]; exact (List.take_append_drop _ _).symm
            rw [e] at hu
            rcases List.mem_append.1 hu with hu | hu
            · exact hf f (by simp) r1 hr1 u (by rw [ho, ← hlen]; exact hu)
            · exact rowF_mem hrs (fun f hm => hf f (by simp [hm])) (by omega) u hu
          · cases h
        · cases h
      · cases h
    · cases h
theorem trod_bulk (hs : ∀ (elems spare : List (DataW H)), elems.length ≤ B (.slice elems spare)) (ha : ∀ (parts : List (DataW H)) d, d ∈ parts → B d ≤ B (.agg parts)) : ∀ (n : Nat) {t : TypeId} {r : List CK} {m : Nat} {cs : List Value} {x : DataW H × List MemPlace}, rowT P n t = some r → DataW.trod enc P w base spare held m t cs = some x → ∀ u ∈ cs, ∀ ad len cap, u = .slice ad len cap → len ≤ B x.1
  | 0, t, r, m, cs, x, h, k => by cases h
  | n + 1, t, r, m, cs, x, h, k => by
    unfold rowT at h
    split at h
    · rename_i ht
      obtain ⟨b, rfl, _⟩ := DataW.trod_bool ht k
      intro u hu ad len cap e
      rw [List.mem_singleton.1 hu] at e
      cases e
    · rename_i kk ht
      obtain ⟨v, rfl, _, hw⟩ := DataW.trod_int ht k
      intro u hu ad len cap e
      rw [List.mem_singleton.1 hu] at e
      cases e
    · rename_i e ht
      rcases DataW.trod_slice ht k with ⟨rfl, _⟩ | ⟨a, len, cap, elems, rest, m', _, rfl, hx, _, hlc, _, hel, _⟩
      · intro u hu ad len cap e
        rw [List.mem_singleton.1 hu] at e
        cases e
        exact Nat.zero_le _
      · intro u hu ad len' cap' e
        rw [List.mem_singleton.1 hu] at e
        cases e
        rw [hx]
        have := hs (elems.map (·.1)) (rest.map (·.1))
        rw [List.length_map] at this
        show len ≤ B (.slice _ _)
        omega
    · rename_i fs ht
      split at h
      · rename_i r1 hr1
        split at h
        · rename_i hl
          cases h
          obtain ⟨xs, m', _, hx0, hcl, hxl, hx⟩ := DataW.trod_struct ht k
          intro u hu
          have hu : u ∈ cs.drop 0 := by rw [List.drop_zero]; exact hu
          refine rowF_mem (Q := fun u => ∀ ad len cap, u = .slice ad len cap → len ≤ B x.1) hr1 (fun f hm r' hr' u hu ad len cap e => ?_) (by omega) u hu
          obtain ⟨i, hi, rfl⟩ := List.getElem_of_mem hm
          have h1 := hx i _ (by rw [Array.getElem?_eq_getElem (by simpa using hi)])
          have hxi : i < xs.length := by simp at hi; omega
          rw [List.getElem?_eq_getElem hxi] at h1
          refine Nat.le_trans (trod_bulk hs ha n hr' h1 u hu ad len cap e) ?_
          rw [hx0]
          exact ha _ _ (List.mem_map.2 ⟨xs[i], List.getElem_mem _, rfl⟩)
        · cases h
      · cases h
    · cases h
theorem lstLe_of {γ : Gh} {n : Nat} (hs : ∀ (elems spare : List (DataW H)), elems.length ≤ B (.slice elems spare)) (ha : ∀ (parts : List (DataW H)) d, d ∈ parts → B d ≤ B (.agg parts)) {t : TypeId} {row : List CK} {v : Value} {e : D} {d : DataW H} {ps : List MemPlace} (hr : rowT P n t = some row) (hv : DV γ w e v) (h : DataW.Trod enc P w base spare held t v d ps) : LstLe (B d) e := by
  obtain ⟨m, h⟩ := h
  have key := trod_bulk hs ha n hr h
  cases e <;> try exact trivial
  case lst z es =>
    unfold DV at hv
    obtain ⟨p, cap, rfl, _⟩ := hv
    exact key (.slice p es.length cap) (List.mem_singleton.2 rfl) _ _ _ rfl
  case ag ds =>
    unfold DV at hv
    obtain ⟨cs, rfl, hl, _⟩ := hv
    intro d' hd z es e
    subst e
    obtain ⟨i, hi, he⟩ := List.getElem_of_mem hd
    obtain ⟨h1, h2⟩ := DVL_iff.1 hl
    have h3 := h2 i _ _ (List.getElem?_eq_getElem hi) (List.getElem?_eq_getElem (by omega))
    rw [he] at h3
    unfold DV at h3
    obtain ⟨p, cap, h4, _⟩ := h3
    exact key _ (by simp only [Value.cells]; exact List.getElem_mem _) _ _ _ h4
theorem parT_row {n : Nat} {t : TypeId} {p : Bool × List CK} (h : parT P n t = some p) : ∃ r, rowT P n t = some r := by
  unfold parT at h
  cases hr : rowT P n t with
  | some r => exact ⟨r, rfl⟩
  | none =>
    rw [hr] at h
    split at h <;> cases h
theorem open_allB {r : Reach} {b0 n : Nat} {spare : Nat → Bool} (hs : ∀ (elems spare : List (DataW H)), elems.length ≤ B (.slice elems spare)) (ha : ∀ (parts : List (DataW H)) d, d ∈ parts → B d ≤ B (.agg parts)) : ∀ {ts : List TypeId} {vs : List Value} {ds : List (DataW H)} {ps : List MemPlace} {pars : List (Bool × List CK)} {N : Nat}, parsT P n ts = some pars → DataW.TrodAll enc P w 0 spare held ts vs ds ps → (∀ (j : Nat) t v, ts[j]? = some t → vs[j]? = some v → Value.okWide P w r b0 t v) → (∀ d ∈ ds, B d ≤ N) → ∃ es, FitP pars es ∧ DVL (γH w) w es vs ∧ ∀ e ∈ es, LstLe N e
  | [], vs, ds, ps, pars, N, hp, h, hv, _ => by
    obtain ⟨rfl, rfl, rfl⟩ := trodAll_nil h
    cases hp
    exact ⟨[], by simp [FitP], DVL.nil, fun e he => by cases he⟩
  | t :: ts, vs, ds, ps, pars, N, hp, h, hv, hb => by
    obtain ⟨v, vs', d, ds', p, q, rfl, rfl, rfl, h1, h2⟩ := trodAll_cons h
    unfold parsT at hp
    cases ha' : parT P n t with
    | none => rw [ha'] at hp; cases hp
    | some a =>
      cases hb' : parsT P n ts with
      | none => rw [ha', hb'] at hp; cases hp
      | some b =>
        rw [ha', hb'] at hp
        cases hp
        obtain ⟨e, k1, k2⟩ := open_one ha' (hv 0 t v rfl rfl) h1
        obtain ⟨es, k3, k4, k5⟩ := open_allB hs ha hb' h2 (fun j t v x y => hv (j + 1) t v x y) (fun d hd => hb d (by simp [hd]))
        obtain ⟨row, hrow⟩ := parT_row ha'
        have k6 := lstLe_of hs ha hrow k1 h1
        refine ⟨e :: es, k2 _ _ k3, DVL.cons k1 k4, fun x hx => ?_⟩
        rcases List.mem_cons.1 hx with rfl | hx
        · have hd : B d ≤ N := hb d (by simp)
          cases x <;> first | exact trivial | exact Nat.le_trans k6 hd | exact fun d' hd' z es e => Nat.le_trans (k6 d' hd' z es e) hd
        · exact k5 x hx
end
end Go.Ev
