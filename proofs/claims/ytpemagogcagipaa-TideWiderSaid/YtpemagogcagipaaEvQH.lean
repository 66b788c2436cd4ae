import Derived.Test.YtpemagogcagipaaEvQG
import Derived.Test.YtpemagogcagipaaEvMA
import Derived.Test.YtpemagogcagipaaEvQD
set_option linter.all false
namespace Go.Ev
open Go.Proofs
set_option maxRecDepth 100000
structure WideT (hs hs2 : List Rg) (ms ms2 : List Mk) : Prop where
  hl : hs2.length = hs.length
  h : ∀ i, i < hs.length → (hs2.getD i default).lo ≤ (hs.getD i default).lo ∧ (hs.getD i default).hi ≤ (hs2.getD i default).hi
  ml : ms2.length = ms.length
  m : ∀ i, i < ms.length → (ms2.getD i default).fr = (ms.getD i default).fr ∧ (ms2.getD i default).to = (ms.getD i default).to ∧ (ms2.getD i default).lo ≤ (ms.getD i default).lo ∧ (ms.getD i default).hi ≤ (ms2.getD i default).hi
section
variable {last : Int} {hs hs2 : List Rg} {step : Int} {lv : List Int} {ms ms2 : List Mk}
theorem WideT.listed (W : WideT hs hs2 ms ms2) {t : List Int} (h : listedR hs step t = true) : listedR hs2 step t = true := by
  have hlen := listed_lenZ h
  unfold listedR at *
  simp only [Bool.and_eq_true, decide_eq_true_iff, List.all_eq_true] at *
  refine ⟨fun i hi => ?_, hlen.trans W.hl.symm, h.2.2⟩
  have hi2 : i < hs.length := by have := List.mem_range.1 hi; omega
  have h1 := inB_spec (h.1 i (List.mem_range.2 (by omega)))
  have h2 := W.h i hi2
  unfold inAt
  exact inB_iff.2 (by omega)
theorem WideT.right (W : WideT hs hs2 ms ms2) {t : List Int} {k : Nat} (hk : k < ms.length) (h : rightR t (ms.getD k default) = true) : rightR t (ms2.getD k default) = true := by
  have h2 := W.m k hk
  unfold rightR at *
  rw [h2.1, h2.2.1]
  have := inB_iff.1 h
  exact inB_iff.2 (by omega)
theorem WideT.truth (W : WideT hs hs2 ms ms2) (V : ValidT last hs step lv ms) (V2 : ValidT last hs2 step lv ms2) (hm : manyR hs ≤ 2000) (hm2 : manyR hs2 ≤ 2000) {t : List Int} (h : t ∈ truthsR hs step ms) : t ∈ truthsR hs2 step ms2 := by
  obtain ⟨h1, h2, h3⟩ := (mem_truthsR V hm).1 h
  refine (mem_truthsR V2 hm2).2 ⟨h1.trans W.hl.symm, W.listed h2, ?_⟩
  rw [V.fits h1] at h3
  rw [V2.fits (h1.trans W.hl.symm), List.all_eq_true]
  intro m hmem
  obtain ⟨k, hk, rfl⟩ := List.mem_iff_getElem.1 hmem
  have hk2 : k < ms.length := by rw [← W.ml]; exact hk
  have := W.right hk2 (List.all_eq_true.1 h3 _ (getD_mem (d := default) hk2))
  simpa [List.getD, hk] using this
theorem WideT.truthS (W : WideT hs hs2 ms ms2) (V : ValidT last hs step lv ms) (V2 : ValidT last hs2 step lv ms2) (hm : manyR hs ≤ 2000) (hm2 : manyR hs2 ≤ 2000) {c : Nat → Int} (h : c ∈ truthS hs step ms) : c ∈ Ev.truthS hs2 step ms2 := by
  obtain ⟨t, h1, h2⟩ := (mem_truthS V hm).1 h
  exact (mem_truthS V2 hm2).2 ⟨t, W.truth V V2 hm hm2 h1, h2⟩
theorem WideT.can (W : WideT hs hs2 ms ms2) (V : ValidT last hs step lv ms) (V2 : ValidT last hs2 step lv ms2) (hm : manyR hs ≤ 2000) (hm2 : manyR hs2 ≤ 2000) (w : Nat) (hw : w < 2 ^ ms.length) (h : canB (allR hs step ms) w = true) : canB (allR hs2 step ms2) w = true := by
  unfold allR at *
  rw [canB_any, List.any_eq_true] at *
  obtain ⟨t, h1, h2⟩ := h
  have hl1 := (mem_listsR V.hv hm).1 h1
  refine ⟨t, (mem_listsR V2.hv hm2).2 (W.listed hl1), ?_⟩
  rw [decide_eq_true_iff, and_word hw] at h2
  rw [decide_eq_true_iff, and_word (m := ms2.length) (by rw [W.ml]; exact hw)]
  intro k hk hb
  rw [W.ml] at hk
  have h3 := h2 k hk hb
  unfold markN at *
  rw [bitsN_test, Bool.and_eq_true] at h3
  rw [bitsN_test, W.right hk h3.2, decide_eq_true (by rw [W.ml]; exact hk)]
  rfl
theorem WideT.dry (W : WideT hs hs2 ms ms2) (V : ValidT last hs step lv ms) (V2 : ValidT last hs2 step lv ms2) (hm : manyR hs ≤ 2000) (hm2 : manyR hs2 ≤ 2000) (h0 : Ev.truthS hs step ms ≠ []) (h02 : Ev.truthS hs2 step ms2 ≠ []) {n : Nat} (hn : 0 < n) (hn2 : n ≤ hs.length) : dryT (Ev.truthS hs step ms) 0 n ≤ dryT (Ev.truthS hs2 step ms2) 0 n := by
  have h1 := (dry_at V2 hm2 (List.length_pos_iff.2 h02) (f := 0) hn (by rw [W.hl]; omega) _).1 (Int.le_refl _)
  exact (dry_at V hm (List.length_pos_iff.2 h0) (f := 0) hn (by omega) _).2 fun k hk t ht => h1 k hk t (W.truth V V2 hm hm2 ht)
end
theorem WideT.refl_h {hs : List Rg} {i : Nat} {r : Rg} {ms : List Mk} (h : r.lo ≤ (hs.getD i default).lo ∧ (hs.getD i default).hi ≤ r.hi) : WideT hs (hs.set i r) ms ms := by
  refine ⟨List.length_set, fun k hk => ?_, rfl, fun k _ => ⟨rfl, rfl, Int.le_refl _, Int.le_refl _⟩⟩
  by_cases e : i = k
  · subst e
    have : (hs.set i r).getD i default = r := by simp [List.getD, hk]
    rw [this]; exact h
  · have : (hs.set i r).getD k default = hs.getD k default := by simp [List.getD, e]
    rw [this]; omega
theorem WideT.refl_m {hs : List Rg} {ms : List Mk} {i : Nat} {r : Mk} (h : r.fr = (ms.getD i default).fr ∧ r.to = (ms.getD i default).to ∧ r.lo ≤ (ms.getD i default).lo ∧ (ms.getD i default).hi ≤ r.hi) : WideT hs hs ms (ms.set i r) := by
  refine ⟨rfl, fun k _ => ⟨Int.le_refl _, Int.le_refl _⟩, List.length_set, fun k hk => ?_⟩
  by_cases e : i = k
  · subst e
    have : (ms.set i r).getD i default = r := by simp [List.getD, hk]
    rw [this]; exact h
  · have : (ms.set i r).getD k default = ms.getD k default := by simp [List.getD, e]
    rw [this]; omega
end Go.Ev

namespace Go.Ev
theorem wSt.ok {o : Option X} {Z : X} {K : X → Prop} (h : o = some Z) (k : K Z) : wSt o K := by
  subst h
  exact k
section
variable {sl : T D} {ob : T C} {nx : Pos} {lg : Option (T Bool)} {K : X → Prop}
theorem wSt.fad {d id : Pos} {off st k : Nat} {x : RX} (hx : opd sl x = some (.pt id off st)) (h : wOut sl ob nx lg d K (.pt id (off + k) st)) : wSt (step (.fad d x k) sl ob nx lg) K := by
  obtain ⟨h2, h3⟩ := wOut_ok h
  refine wSt.ok ?_ h3
  show s_fad d x k sl ob nx lg = _
  unfold s_fad
  rw [hx]
  simp only [natK_eq]
  exact h2
theorem wSt.ld1 {d id : Pos} {off st lo cur : Nat} {ro : Bool} {cs : List Cell} {v : D} {x : RX} (hx : opd sl x = some (.pt id off st)) (ho : ob.get id = some (.cells ro cs cur)) (hc : cs[off]? = some (.o v lo)) (hl : lo ≤ st) (h : lRK lg id fun lg => wOut sl ob nx lg d K v) : wSt (step (.ld1 d x) sl ob nx lg) K := by
  obtain ⟨l1, e1, h⟩ := lRK_ex h
  obtain ⟨h2, h3⟩ := wOut_ok h
  refine wSt.ok ?_ h3
  show s_ld1 d x sl ob nx lg = _
  unfold s_ld1
  rw [hx]
  simp only [ho, nthC_eq, hc]
  show (bif Nat.ble lo st then _ else none) = _
  rw [Nat.ble_eq_true_of_le hl, cond_true, e1]
  exact h2
theorem writeK_one {β : Type} (st : Nat) (mk : D → Cell) (v : D) : ∀ (off : Nat) (cs : List Cell) (f : List Cell → Option β) (d : D) (lo : Nat), cs[off]? = some (.o d lo) → lo ≤ st → writeK st mk [v] off cs f = f (cs.set off (mk v))
  | 0, [], f, d, lo, h, _ => by simp at h
  | 0, c :: cs, f, d, lo, h, hl => by
    simp at h
    subst h
    show (bif Nat.ble lo st then f (mk v :: cs) else none) = _
    rw [Nat.ble_eq_true_of_le hl]
    rfl
  | off + 1, [], f, d, lo, h, _ => by simp at h
  | off + 1, c :: cs, f, d, lo, h, hl => by
    show writeK st mk [v] off cs (fun l => f (c :: l)) = _
    rw [writeK_one st mk v off cs _ d lo (by simpa using h) hl]
    rfl
theorem wSt.st1 {id : Pos} {off st lo cur : Nat} {cs : List Cell} {v0 : D} {k : IntKind} {n : Int} {x y : RX} (hx : opd sl x = some (.pt id off st)) (hy : opd sl y = some (.i k n)) (ho : ob.get id = some (.cells false cs cur)) (hcur : cur = st + 1) (hc : cs[off]? = some (.o v0 lo)) (hl : lo ≤ st) (h : lWK lg id fun lg => T.setK id (.cells false (cs.set off (.o (.i k n) st)) cur) ob fun ob => K ⟨sl, ob, nx, lg⟩) : wSt (step (.st x y 1) sl ob nx lg) K := by
  obtain ⟨l1, e1, h⟩ := lWK_ex h
  rw [T.setK_eq] at h
  refine wSt.ok ?_ h
  show s_st x y 1 sl ob nx lg = _
  unfold s_st
  rw [hx, hy]
  subst hcur
  have hb : Nat.beq (Nat.succ st) (st + 1) = true := Nat.beq_refl _
  have hcd : cellsD (.i k n) = some [.i k n] := rfl
  simp only [ho, hcd]
  show (bif Nat.beq 1 1 then (bif Nat.beq (Nat.succ st) (st + 1) then _ else _) else none) = _
  rw [hb]
  show writeK st (fun d => Cell.o d st) [D.i k n] off cs _ = _
  rw [writeK_one st _ _ off cs _ v0 lo hc hl]
  unfold objK
  rw [e1]
  show (T.setK id _ ob fun ob => some ⟨sl, ob, nx, l1⟩ : Option X) = _
  rw [T.setK_eq]
theorem WSt.ixsY {d id : Pos} {off st z m len : Nat} {kk : IntKind} {x i : RX} (hx : opd sl x = some (.sl id off len st z)) (hi : opd sl i = some (.i kk (m : Int))) (hm : m < len) (h : wOut sl ob nx lg d K (.pt id (off + m * z) st)) : WSt (.ixs d z x i) ⟨sl, ob, nx, lg⟩ K := by
  obtain ⟨h2, h3⟩ := wOut_ok h
  refine ⟨_, ?_, h3⟩
  show s_ixs d z x i sl ob nx lg = _
  unfold s_ixs
  rw [hx, hi]
  have hidx : idx (m : Int) len = some m := by
    show (bif Nat.blt m len then some m else none) = _
    have : Nat.blt m len = true := by unfold Nat.blt; exact Nat.ble_eq_true_of_le hm
    rw [this]; rfl
  simp only [Nat.beq_refl, cond_true, hidx, natK_eq]
  exact h2
theorem WSt.app_neE {d id : Pos} {z : Nat} {x y : RX} {es : List (List D)} (hx : opd sl x = some (.sl id 0 0 0 z)) (hox : ob.get id = some (.cells false [] 1)) (hy : opd sl y = some (.lst z es)) (hz : ∀ r ∈ es, r.length = z) (hlen : es.length ≤ 2147483648) (hne : 0 < es.length)
    (h : T.setK id (.cells false (es.flatten.map fun d => Cell.o d 1) 2) ob fun ob => T.setK id true .e fun L => wOut sl ob nx (some L) d K (.sl id 0 es.length 1 z)) : WSt (.app d z x y) ⟨sl, ob, nx, some .e⟩ K := by
  have hfl : es.flatten.length = es.length * z := by
    clear hlen hy h hne
    induction es with
    | nil => simp
    | cons r es ih => simp [ih (fun r h => hz r (by simp [h])), hz r (by simp), Nat.add_mul]; omega
  obtain ⟨k, hk⟩ : ∃ k, es.length = k + 1 := ⟨es.length - 1, by omega⟩
  have hb : Nat.beq (List.length (List.flatten es)) (Nat.mul (k + 1) z) = true := by rw [hfl, hk]; simp
  rw [T.setK_eq, T.setK_eq] at h
  obtain ⟨h2, h3⟩ := wOut_ok h
  refine ⟨_, ?_, h3⟩
  show s_app d z x y sl ob nx (some .e) = _
  unfold s_app
  rw [hx, hy]
  rw [hk] at hlen h2
  have hle : Nat.ble (Nat.add 0 (Nat.succ k)) 2147483648 = true := Nat.ble_eq_true_of_le (by simpa using hlen)
  have hm : Nat.add 0 (Nat.mul 0 z) = 0 := by show 0 + 0 * z = 0; simp
  have hg : ∀ {β : Type} (new : List D) (k : List Cell → Option β), growK 0 1 new 0 [] k = k (new.map fun d => Cell.o d 1) := fun new k => by
    show shutK (Nat.pred 1) (dropC (List.length new) []) (fun l => consK (fun d => .o d 1) new l k) = _
    rw [dropC_eq, shutK_eq, consK_eq]
    simp
  simp only [srcK, hk, hb, cond_true, logO, Nat.beq_refl, Bool.true_and, hle, hox, hm, hg, natK_eq, objOutK, logW, T.setK_eq]
  have e1 : Nat.add 0 (Nat.succ k) = k + 1 := by show 0 + (k + 1) = k + 1; omega
  rw [e1]
  exact h2
end
end Go.Ev
