import Derived.Test.YtmlpgfmbhpefmaaEvLe
set_option linter.all false
namespace Go.Ev
open Go.Proofs
set_option maxRecDepth 100000
theorem foldA_iny : ∀ (l y : List Int) (L : List (List Int)) (x : List Int), x ∈ L → y.length = l.length → (∀ i, i < l.length → fitB l y i = true) → x ++ y ∈ foldA l L
  | [], y, L, x, hx, hy, _ => by
    rw [List.length_eq_zero_iff.1 hy, List.append_nil]; exact hx
  | a :: l, [], L, x, hx, hy, _ => by cases hy
  | a :: l, b :: y, L, x, hx, hy, hf => by
    have h0 := hf 0 (by simp)
    unfold fitB inB at h0
    simp only [List.getD_cons_zero, Bool.and_eq_true, Bool.or_eq_true, decide_eq_true_eq] at h0
    have hb : x ++ [b] ∈ stepL a L := by
      refine List.mem_flatMap.2 ⟨x, hx, ?_⟩
      have : b = 0 ∨ b = 1 := by omega
      have hok : okB a b = true := by
        unfold okB
        rcases h0.2 with e | e
        · rw [e]; rfl
        · rw [e]; simp
      simp only [exN, List.nil_append, List.mem_append]
      rcases this with rfl | rfl
      · left; rw [show okB a ((0 : Nat) : Int) = true from hok]; simp
      · right; rw [show okB a ((1 : Nat) : Int) = true from hok]; simp
    have := foldA_iny l y (stepL a L) (x ++ [b]) hb (by simpa using hy) (fun i hi => by
      have := hf (i + 1) (by simp; omega)
      unfold fitB at *
      simpa only [List.getD_cons_succ] using this)
    rw [List.append_assoc] at this
    exact this
theorem mem_allRy {l t : List Int} : t ∈ allR l ↔ isTruthR l t = true := ⟨fun h => allR_truth l t h, fun h => by
  unfold isTruthR at h
  rw [Bool.and_eq_true, decide_eq_true_iff, List.all_eq_true] at h
  have := foldA_iny l t [[]] [] (by simp) h.1 (fun i hi => h.2 i (List.mem_range.2 (by omega)))
  exact this⟩
theorem mem_truRy {l : List Int} {cs : List Cnt} {wr off : Int} {t : List Int} : t ∈ truR l cs wr off ↔ isTruthR l t = true ∧ 0 ≤ wrongR cs off t ∧ wrongR cs off t ≤ wr := by
  unfold truR
  rw [List.mem_filter, mem_allRy]
  unfold fitR inB
  simp only [Bool.and_eq_true, decide_eq_true_eq]
  constructor
  · rintro ⟨h1, h2, h3⟩; exact ⟨h1, h3⟩
  · rintro ⟨h1, h2⟩; exact ⟨h1, h1, h2⟩
section
variable {sl : T D} {ob : T C} {nx : Pos} {lg : Option (T Bool)} {K : X → Prop}
theorem writeK_oney {β : Type} (st : Nat) (mk : D → Cell) (v : D) : ∀ (off : Nat) (cs : List Cell) (f : List Cell → Option β) (d : D) (lo : Nat), cs[off]? = some (.o d lo) → lo ≤ st → writeK st mk [v] off cs f = f (cs.set off (mk v))
  | 0, [], f, d, lo, h, _ => by simp at h
  | 0, c :: cs, f, d, lo, h, hl => by
    simp at h
    subst h
    show (bif Nat.ble lo st then f (mk v :: cs) else none) = _
    rw [Nat.ble_eq_true_of_le hl]
    rfl
  | off + 1, [], f, d, lo, h, _ => by simp at h
  | off + 1, c :: cs, f, d, lo, h, hl => by
    show writeK st mk [v] off cs (fun l => f (c :: l)) = _
    rw [writeK_oney st mk v off cs _ d lo (by simpa using h) hl]
    rfl
theorem wSt.st1y {id : Pos} {off st lo cur : Nat} {cs : List Cell} {v0 : D} {k : IntKind} {n : Int} {x y : RX} (hx : opd sl x = some (.pt id off st)) (hy : opd sl y = some (.i k n)) (ho : ob.get id = some (.cells false cs cur)) (hcur : cur = st + 1) (hc : cs[off]? = some (.o v0 lo)) (hl : lo ≤ st) (h : lWK lg id fun lg => T.setK id (.cells false (cs.set off (.o (.i k n) st)) cur) ob fun ob => K ⟨sl, ob, nx, lg⟩) : wSt (step (.st x y 1) sl ob nx lg) K := by
  obtain ⟨l1, e1, h⟩ := lWK_ex h
  rw [T.setK_eq] at h
  refine wSt.of ?_ h
  show s_st x y 1 sl ob nx lg = _
  unfold s_st
  rw [hx, hy]
  subst hcur
  have hb : Nat.beq (Nat.succ st) (st + 1) = true := Nat.beq_refl _
  have hcd : cellsD (.i k n) = some [.i k n] := rfl
  simp only [ho, hcd]
  show (bif Nat.beq 1 1 then (bif Nat.beq (Nat.succ st) (st + 1) then _ else _) else none) = _
  rw [hb]
  show writeK st (fun d => Cell.o d st) [D.i k n] off cs _ = _
  rw [writeK_oney st _ _ off cs _ v0 lo hc hl]
  unfold objK
  rw [e1]
  show (T.setK id _ ob fun ob => some ⟨sl, ob, nx, l1⟩ : Option X) = _
  rw [T.setK_eq]
theorem WSt.ixsOy {sl : T D} {ob : T C} {nx : Pos} {lg : Option (T Bool)} {K : X → Prop} {d id : Pos} {len st m : Nat} {k : IntKind} {x i : RX} {n : Int} (hx : opd sl x = some (.sl id 0 len st 1)) (hi : opd sl i = some (.i k n)) (hn : n = (m : Int)) (hm : m < len) (h : wOut sl ob nx lg d K (.pt id m st)) : WSt (.ixs d 1 x i) ⟨sl, ob, nx, lg⟩ K := by
  obtain ⟨h2, h3⟩ := wOut_ok h
  refine ⟨_, ?_, h3⟩
  show s_ixs d 1 x i sl ob nx lg = _
  unfold s_ixs
  rw [hx, hi]
  subst hn
  have hidx : idx (m : Int) len = some m := by
    show (bif Nat.blt m len then some m else none) = some m
    rw [show Nat.blt m len = true from Nat.ble_eq_true_of_le hm]; rfl
  have h1 : Nat.add 0 (Nat.mul m 1) = m := by show 0 + m * 1 = m; omega
  simp only [Nat.beq_refl, cond_true, hidx, natK_eq, h1]
  exact h2
end

theorem fault_set {l : List Int} {cs : List Cnt} {wr off : Int} {k : Nat} {v : Int} (hF : faultR l cs wr off = 0) (hv : v = 0 ∨ v = 1) : faultR (l.set k v) cs wr off = 0 := by
  have hle : (l.set k v).length = l.length := List.length_set
  unfold faultR at hF ⊢
  rw [hle]
  split at hF
  · cases hF
  · rename_i h1
    rw [if_neg h1]
    split at hF
    · cases hF
    · rename_i h2
      rw [if_neg h2]
      split at hF
      · rename_i h3
        have h3' : (l.set k v).all (inB · 0 2) = true := List.all_eq_true.2 fun x hx => by
          rcases List.mem_or_eq_of_mem_set hx with h | h
          · exact List.all_eq_true.1 h3 x h
          · subst h
            unfold inB
            rw [decide_eq_true_iff]
            omega
        rw [if_pos h3']
        split at hF
        · rename_i h4
          rw [if_pos h4]
        · cases hF
      · cases hF
theorem countP_set_le {p : Int → Bool} : ∀ (l : List Int) (k : Nat) (v : Int), p v = false → (l.set k v).countP p ≤ l.countP p
  | [], _, _, _ => Nat.le_refl _
  | a :: l, 0, v, h => by
    show (v :: l).countP p ≤ (a :: l).countP p
    rw [List.countP_cons, List.countP_cons, h]
    simp
  | a :: l, k + 1, v, h => by
    show (a :: l.set k v).countP p ≤ (a :: l).countP p
    rw [List.countP_cons, List.countP_cons]
    have := countP_set_le l k v h
    omega
theorem unk_set {l : List Int} {k : Nat} {v : Int} (hv : v = 0 ∨ v = 1) : unk (l.set k v) ≤ unk l := countP_set_le l k v (by rcases hv with rfl | rfl <;> rfl)
theorem set_at {l : List Int} {k : Nat} (v : Int) (i : Nat) (hk : k < l.length) : (l.set k v).getD i 0 = if k = i then v else l.getD i 0 := by
  by_cases e : k = i
  · subst e
    rw [if_pos rfl]
    simp [List.getD, hk]
  · rw [if_neg e]
    simp [List.getD, List.getElem?_set_ne e]
theorem truth_set {l t : List Int} {k : Nat} {v : Int} (hk : k < l.length) (hl : ∀ x ∈ l, 0 ≤ x ∧ x ≤ 2) (hv : v = 0 ∨ v = 1) (hs : ∃ t0, isTruthR l t0 = true ∧ t0.getD k 0 = v) : isTruthR (l.set k v) t = true ↔ isTruthR l t = true ∧ t.getD k 0 = v := by
  obtain ⟨t0, ht0, hv0⟩ := hs
  unfold isTruthR at ht0 ⊢
  rw [Bool.and_eq_true, decide_eq_true_iff, List.all_eq_true] at ht0
  rw [Bool.and_eq_true, decide_eq_true_iff, List.all_eq_true, Bool.and_eq_true, decide_eq_true_iff, List.all_eq_true, List.length_set]
  have hk0 := ht0.2 k (List.mem_range.2 (by omega))
  unfold fitB at hk0
  rw [Bool.and_eq_true, Bool.or_eq_true, decide_eq_true_iff, decide_eq_true_iff, hv0] at hk0
  constructor
  · rintro ⟨h1, h2⟩
    have hkv : t.getD k 0 = v := by
      have := h2 k (List.mem_range.2 (by omega))
      unfold fitB at this
      rw [Bool.and_eq_true, Bool.or_eq_true, decide_eq_true_iff, decide_eq_true_iff, set_at v k hk, if_pos rfl] at this
      omega
    refine ⟨⟨h1, fun i hi => ?_⟩, hkv⟩
    have := h2 i hi
    unfold fitB at this ⊢
    rw [Bool.and_eq_true, Bool.or_eq_true, decide_eq_true_iff, decide_eq_true_iff] at this ⊢
    refine ⟨this.1, ?_⟩
    rw [set_at v i hk] at this
    by_cases e : k = i
    · subst e
      rw [hkv]
      rcases hk0.2 with h | h
      · exact .inl h
      · exact .inr h
    · rw [if_neg e] at this
      exact this.2
  · rintro ⟨⟨h1, h2⟩, hkv⟩
    refine ⟨h1, fun i hi => ?_⟩
    have := h2 i hi
    unfold fitB at this ⊢
    rw [Bool.and_eq_true, Bool.or_eq_true, decide_eq_true_iff, decide_eq_true_iff] at this ⊢
    refine ⟨this.1, ?_⟩
    rw [set_at v i hk]
    by_cases e : k = i
    · subst e
      rw [if_pos rfl]
      exact .inr hkv
    · rw [if_neg e]
      exact this.2
theorem truR_set {l : List Int} {cs : List Cnt} {wr off : Int} {k : Nat} {v : Int} (hk : k < l.length) (hl : ∀ x ∈ l, 0 ≤ x ∧ x ≤ 2) (hv : v = 0 ∨ v = 1) (hs : seenR (truR l cs wr off) k v ≠ []) {t : List Int} : t ∈ truR (l.set k v) cs wr off ↔ t ∈ seenR (truR l cs wr off) k v := by
  obtain ⟨t0, ht0⟩ := List.exists_mem_of_ne_nil _ hs
  obtain ⟨a, b⟩ := mem_seen.1 ht0
  rw [mem_truRy] at a
  rw [mem_truRy, mem_seen, mem_truRy, truth_set hk hl hv ⟨t0, a.1, b⟩]
  constructor
  · rintro ⟨⟨h1, h2⟩, h3⟩; exact ⟨⟨h1, h3⟩, h2⟩
  · rintro ⟨⟨h1, h3⟩, h2⟩; exact ⟨⟨h1, h2⟩, h3⟩
theorem fault_places {l : List Int} {cs : List Cnt} {wr off : Int} (hF : faultR l cs wr off = 0) : ∀ x ∈ l, 0 ≤ x ∧ x ≤ 2 := by
  unfold faultR at hF
  split at hF
  · cases hF
  · split at hF
    · cases hF
    · split at hF
      · rename_i h3
        intro x hx
        have := List.all_eq_true.1 h3 x hx
        unfold inB at this
        rwa [decide_eq_true_iff] at this
      · cases hF
theorem lk_set {l : List Int} {cs : List Cnt} {wr off f t : Int} {k : Nat} {v : Int} (hF : faultR l cs wr off = 0) (hk : k < l.length) (hv : v = 0 ∨ v = 1) (h0 : 0 ≤ f) (h1 : f ≤ t) (h2 : t < l.length) (hs : seenR (truR l cs wr off) k v ≠ []) : truR (l.set k v) cs wr off ≠ [] ∧ lkN f t (l.set k v).length (truR (l.set k v) cs wr off) = lkN f t l.length (seenR (truR l cs wr off) k v) := by
  have hle : (l.set k v).length = l.length := List.length_set
  have key := fun t => truR_set (cs := cs) (wr := wr) (off := off) (t := t) hk (fault_places hF) hv hs
  have hne : truR (l.set k v) cs wr off ≠ [] := fun e => by
    obtain ⟨x, hx⟩ := List.exists_mem_of_ne_nil _ hs
    have := (key x).2 hx
    rw [e] at this; cases this
  have L := (tru_lks (f := f) (t := t) hF h0 h1 h2).seen k v
  have L' : Lks f t l.length (truR (l.set k v) cs wr off) := fun x hx => L x ((key x).1 hx)
  rw [hle]
  exact ⟨hne, Int.le_antisymm (lk_sub hne L fun x hx => (key x).1 hx) (lk_sub hs L' fun x hx => (key x).2 hx)⟩

noncomputable def z4C : C := .cells false [.o .ns 0, .o .ns 0, .o (.i .i64 0) 0, .o (.i .i64 0) 0] 1
theorem z4C_kp (n : Nat) : KpC n z4C := by
  refine KpL.all ?_
  simp [KpL, Kp, Cell.d, Pu]
theorem c_listQ (l : List Int) (cs : List Cnt) (wr off : Int) (h0 : 0 < l.length) (hl : l.length ≤ 1000) : CallOk Try.prog p23.ix [.lst 1 (ints l)] ((.n (.n .e (some (z4C)) .e) (some (rowC l cs wr off)) (.n .e (some (rowC l cs wr off)) .e)) : T C) (.o (.o .h)) none (.sl (.o (.o .h)) 0 (ints l).length 0 1) ((.n (.n (.n .e (some (.cells false ((ints l).flatten.map fun d => Cell.o d 0) 1)) .e) (some (z4C)) .e) (some (rowC l cs wr off)) (.n .e (some (rowC l cs wr off)) .e)) : T C) (.i (.o .h)) none := by
  have e1 := ints_length l
  refine CallOk.run fn22 (by simp) (by simp [Pos.nat]) ?_; conv => whnf
  repeat' first | ((first | with_reducible apply WB.tt | with_reducible apply WB.ff | refine Rn.seq ?_ | refine Rn.reg ?_ | refine Rn.drw ?_ | refine Rn.blk ?_ | refine Rn.skip ?_ | refine Rn.ret ?_ | refine Rn.exit ?_ | refine Rn.cond rfl ?_ | refine And.intro (InR.i64 (by omega) (by omega)) ?_ | refine And.intro (show _ ≠ (0 : Int) by omega) ?_ | refine WIx.intsN (by omega) ?_ | refine WIx.rowsN (by omega) ?_) <;> conv => whnf)
  refine WSt.app_nil rfl (.inl rfl) rfl (ints_one _) (by omega) (fun h => absurd (show (ints l).length = 0 by rw [h]; rfl) (by omega)) (fun _ => ?_); conv => whnf
  repeat' first | ((first | with_reducible apply WB.tt | with_reducible apply WB.ff | refine Rn.seq ?_ | refine Rn.reg ?_ | refine Rn.drw ?_ | refine Rn.blk ?_ | refine Rn.skip ?_ | refine Rn.ret ?_ | refine Rn.exit ?_ | refine Rn.cond rfl ?_ | refine And.intro (InR.i64 (by omega) (by omega)) ?_ | refine And.intro (show _ ≠ (0 : Int) by omega) ?_ | refine WIx.intsN (by omega) ?_ | refine WIx.rowsN (by omega) ?_) <;> conv => whnf)
  refine ⟨.inr rfl, ⟨_, rfl, .ksl (by simp [Pos.nat])⟩, Shr.kp (T.le_refl _) ?_⟩
  show TAll (fun id c => id.nat < 5 ∧ KpC 5 c) _
  repeat' first | exact TAll.e | refine TAll.some ?_ ?_ ?_ | refine TAll.none ?_ ?_
  all_goals refine ⟨by simp [Pos.nat], ?_⟩
  all_goals first
    | exact rowC_kp _ _ _ _ _
    | exact z4C_kp _
    | (intro c hc
       obtain ⟨d, hd, rfl⟩ := List.mem_map.1 hc
       rw [ints_flatten] at hd
       obtain ⟨n, _, rfl⟩ := List.mem_map.1 hd
       simp [Kp, Cell.d, Pu])
theorem flat_at {l : List Int} {k : Nat} (hk : k < l.length) : ((ints l).flatten.map fun d => Cell.o d 0)[k]? = some (.o (.i .i64 (l.getD k 0)) 0) := by
  rw [ints_flatten]
  simp [List.getD, hk]
theorem flat_set {l : List Int} {k : Nat} {v : Int} : ((ints l).flatten.map fun d => Cell.o d 0).set k (.o (.i .i64 v) 0) = (ints (l.set k v)).flatten.map fun d => Cell.o d 0 := by
  rw [ints_flatten, ints_flatten, List.map_set, List.map_set]
theorem c_looked (l : List Int) (cs : List Cnt) (wr off : Int) (k : Nat) (v : Int) (hk : k < l.length) (hl : l.length ≤ 1000) : PureF Try.prog p63.ix [.ag [.lst 1 (ints l), .lst 3 (rows cntD cs), .i .i64 wr, .i .i64 off], .i .i64 (k : Int), .i .i64 v] (.ag [.lst 1 (ints (l.set k v)), .lst 3 (rows cntD cs), .i .i64 wr, .i .i64 off]) := by
  have e1 := ints_length l
  have cL := c_listQ l cs wr off (by omega) hl
  refine PureF.run fn62 (by simp) (by simp [PuL, PuE, Pu, pu_ints, pu_cnts]) ?_; conv => whnf
  repeat' first | ((first | with_reducible apply WB.tt | with_reducible apply WB.ff | refine Rn.seq ?_ | refine Rn.reg ?_ | refine Rn.drw ?_ | refine Rn.blk ?_ | refine Rn.skip ?_ | refine Rn.ret ?_ | refine Rn.exit ?_ | refine Rn.cond rfl ?_ | refine And.intro (InR.i64 (by omega) (by omega)) ?_ | refine And.intro (show _ ≠ (0 : Int) by omega) ?_ | refine WIx.intsN (by omega) ?_ | refine WIx.rowsN (by omega) ?_) <;> conv => whnf)
  refine WCall.at cL ?_; conv => whnf
  repeat' first | ((first | with_reducible apply WB.tt | with_reducible apply WB.ff | refine Rn.seq ?_ | refine Rn.reg ?_ | refine Rn.drw ?_ | refine Rn.blk ?_ | refine Rn.skip ?_ | refine Rn.ret ?_ | refine Rn.exit ?_ | refine Rn.cond rfl ?_ | refine And.intro (InR.i64 (by omega) (by omega)) ?_ | refine And.intro (show _ ≠ (0 : Int) by omega) ?_ | refine WIx.intsN (by omega) ?_ | refine WIx.rowsN (by omega) ?_) <;> conv => whnf)
  refine WSt.ixsOy (m := k) rfl rfl rfl (by omega) ?_; conv => whnf
  repeat' first | ((first | with_reducible apply WB.tt | with_reducible apply WB.ff | refine Rn.seq ?_ | refine Rn.reg ?_ | refine Rn.drw ?_ | refine Rn.blk ?_ | refine Rn.skip ?_ | refine Rn.ret ?_ | refine Rn.exit ?_ | refine Rn.cond rfl ?_ | refine And.intro (InR.i64 (by omega) (by omega)) ?_ | refine And.intro (show _ ≠ (0 : Int) by omega) ?_ | refine WIx.intsN (by omega) ?_ | refine WIx.rowsN (by omega) ?_) <;> conv => whnf)
  refine wSt.st1y (v0 := .i .i64 (l.getD k 0)) (lo := 0) rfl rfl rfl rfl (flat_at hk) (Nat.le_refl _) ?_; conv => whnf
  rw [flat_set]
  repeat' first | ((first | with_reducible apply WB.tt | with_reducible apply WB.ff | refine Rn.seq ?_ | refine Rn.reg ?_ | refine Rn.drw ?_ | refine Rn.blk ?_ | refine Rn.skip ?_ | refine Rn.ret ?_ | refine Rn.exit ?_ | refine Rn.cond rfl ?_ | refine And.intro (InR.i64 (by omega) (by omega)) ?_ | refine And.intro (show _ ≠ (0 : Int) by omega) ?_ | refine WIx.intsN (by omega) ?_ | refine WIx.rowsN (by omega) ?_) <;> conv => whnf)
  refine ⟨.inr rfl, _, rfl, .ag (.cons ?_ (.cons (.pu (pu_cnts _)) (.cons (.pu trivial) (.cons (.pu trivial) .nil))))⟩
  exact Frz.whole (cs := (ints (l.set k v)).flatten.map fun d => Cell.o d 0) (cur := 1) rfl (by rw [ints_length, ints_length, List.length_set]) (ints_one _) rfl (pu_ints _)
end Go.Ev

namespace Go.Ev
open Go.Proofs
set_option maxRecDepth 100000
theorem WB.fF {t : Bool} {F : Bool → Prop} (h : t = false) (k : F false) : WB t F := ⟨fun e => (by rw [h] at e; cases e), fun _ => k⟩
def mstL (R : List (List Int)) (kk : Nat) (f t : Int) (n : Nat) : Nat → Int
  | 0 => -1
  | j + 1 => bif (seenR R kk (j : Int)).isEmpty then mstL R kk f t n j else max (mstL R kk f t n j) (lkN f t n (seenR R kk (j : Int)))
theorem mstL_bd {R : List (List Int)} {kk : Nat} {f t : Int} {n : Nat} : ∀ j, -1 ≤ mstL R kk f t n j ∧ mstL R kk f t n j ≤ 100
  | 0 => by show -1 ≤ (-1 : Int) ∧ (-1 : Int) ≤ 100; omega
  | j + 1 => by
    have h := mstL_bd (R := R) (kk := kk) (f := f) (t := t) (n := n) j
    show -1 ≤ (bif _ then _ else _) ∧ (bif _ then _ else _) ≤ 100
    by_cases hs : seenR R kk (j : Int) = []
    · rw [hs, List.isEmpty_nil, cond_true]; exact h
    · have h1 := lk_100 (f := f) (t := t) (n := n) hs
      rw [show (seenR R kk (j : Int)).isEmpty = false by cases hq : seenR R kk (j : Int) with | nil => exact absurd hq hs | cons a b => rfl, cond_false]
      omega
theorem mstL_end {R : List (List Int)} {kk : Nat} {f t : Int} {n : Nat} (hR : R ≠ []) (L : Lks f t n R) (hk : kk < n) : lkN f t n R - 1 ≤ mstL R kk f t n 2 := by
  have hstep : ∀ j : Nat, seenR R kk (j : Int) ≠ [] → mstL R kk f t n (j + 1) = max (mstL R kk f t n j) (lkN f t n (seenR R kk (j : Int))) := fun j hs => by
    show (bif _ then _ else _) = _
    rw [show (seenR R kk (j : Int)).isEmpty = false by cases hq : seenR R kk (j : Int) with | nil => exact absurd hq hs | cons a b => rfl, cond_false]
  have hno : ∀ j : Nat, seenR R kk (j : Int) = [] → mstL R kk f t n (j + 1) = mstL R kk f t n j := fun j hs => by
    show (bif _ then _ else _) = _
    rw [hs]; rfl
  have hone : ∀ v : Int, (∀ x ∈ R, x.getD kk 0 = v) → lkN f t n R ≤ lkN f t n (seenR R kk v) := fun v hv => lk_sub hR (L.seen kk v) fun x hx => mem_seen.2 ⟨hx, hv x hx⟩
  by_cases h0 : seenR R kk ((0 : Nat) : Int) = []
  · have h1 : ∀ x ∈ R, x.getD kk 0 = 1 := fun x hx => by
      rcases bit_at (L x hx).2.1 kk with e | e
      · have : x ∈ seenR R kk ((0 : Nat) : Int) := mem_seen.2 ⟨hx, e⟩
        rw [h0] at this; cases this
      · exact e
    have hne : seenR R kk ((1 : Nat) : Int) ≠ [] := fun e => by
      obtain ⟨x, hx⟩ := List.exists_mem_of_ne_nil _ hR
      have : x ∈ seenR R kk ((1 : Nat) : Int) := mem_seen.2 ⟨hx, h1 x hx⟩
      rw [e] at this; cases this
    have := hone 1 h1
    rw [hstep 1 hne]
    have e : lkN f t n (seenR R kk ((1 : Nat) : Int)) = lkN f t n (seenR R kk 1) := rfl
    omega
  by_cases h1 : seenR R kk ((1 : Nat) : Int) = []
  · have h1' : ∀ x ∈ R, x.getD kk 0 = 0 := fun x hx => by
      rcases bit_at (L x hx).2.1 kk with e | e
      · exact e
      · have : x ∈ seenR R kk ((1 : Nat) : Int) := mem_seen.2 ⟨hx, e⟩
        rw [h1] at this; cases this
    have := hone 0 h1'
    rw [hno 1 h1, hstep 0 h0]
    have e : lkN f t n (seenR R kk ((0 : Nat) : Int)) = lkN f t n (seenR R kk 0) := rfl
    omega
  · have := lk_split (f := f) (t := t) (n := n) hR hk (splB_iff.2 ⟨h0, h1⟩)
    rw [hstep 1 h1, hstep 0 h0]
    have e0 : lkN f t n (seenR R kk ((0 : Nat) : Int)) = lkN f t n (seenR R kk 0) := rfl
    have e1 : lkN f t n (seenR R kk ((1 : Nat) : Int)) = lkN f t n (seenR R kk 1) := rfl
    omega
end Go.Ev
