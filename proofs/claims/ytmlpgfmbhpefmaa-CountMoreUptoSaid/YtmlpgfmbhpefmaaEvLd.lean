import Derived.Test.YtmlpgfmbhpefmaaEvLb
import Derived.Test.YtmlpgfmbhpefmaaEvFx
set_option linter.all false
namespace Go.Ev
open Go.Proofs
set_option maxRecDepth 100000
theorem exN_two (a : Int) (x : List Int) : (exN a x 2).length ≤ if a = 2 then 2 else 1 := by
  simp only [exN, List.nil_append, List.length_append]
  cases h0 : okB a ((0 : Nat) : Int) <;> cases h1 : okB a ((1 : Nat) : Int)
  · simp only [cond_false, List.length_nil]; split <;> omega
  · simp only [cond_false, cond_true, List.length_nil, List.length_singleton]; split <;> omega
  · simp only [cond_false, cond_true, List.length_nil, List.length_singleton]; split <;> omega
  · have : a = 2 := by
      unfold okB at h0 h1
      simp only [Bool.or_eq_true, decide_eq_true_eq, beq_iff_eq] at h0 h1
      omega
    simp only [cond_true, List.length_singleton]
    rw [if_pos this]; omega
theorem stepL_two (a : Int) : ∀ L : List (List Int), (stepL a L).length ≤ (if a = 2 then 2 else 1) * L.length
  | [] => by simp [stepL]
  | x :: L => by
    have ih := stepL_two a L
    have h := exN_two a x
    have e : (stepL a (x :: L)).length = (exN a x 2).length + (stepL a L).length := by
      unfold stepL
      rw [List.flatMap_cons, List.length_append]
    rw [e, List.length_cons, Nat.mul_add]
    omega
theorem foldA_two : ∀ (l : List Int) (L : List (List Int)), (foldA l L).length ≤ 2 ^ unk l * L.length
  | [], L => by show L.length ≤ 2 ^ 0 * L.length; omega
  | a :: l, L => by
    have ih := foldA_two l (stepL a L)
    have h := stepL_two a L
    have e : foldA (a :: l) L = foldA l (stepL a L) := rfl
    rw [e]
    have hu : unk (a :: l) = unk l + if a = 2 then 1 else 0 := by
      unfold unk
      rw [List.countP_cons]
      simp
    rw [hu]
    by_cases ha : a = 2
    · rw [if_pos ha] at h ⊢
      rw [Nat.pow_succ, Nat.mul_assoc]
      exact Nat.le_trans ih (Nat.mul_le_mul_left _ h)
    · rw [if_neg ha] at h ⊢
      rw [Nat.add_zero]
      rw [Nat.one_mul] at h
      exact Nat.le_trans ih (Nat.mul_le_mul_left _ h)
theorem truR_64 {l : List Int} {cs : List Cnt} {wr off : Int} (h : unk l ≤ 6) : (truR l cs wr off).length ≤ 64 := by
  have h1 : (truR l cs wr off).length ≤ (allR l).length := List.length_filter_le _ _
  have h2 : (allR l).length ≤ 2 ^ unk l * [([] : List Int)].length := foldA_two l [[]]
  have h3 : 2 ^ unk l ≤ 2 ^ 6 := Nat.pow_le_pow_right (by omega) h
  simp only [List.length_singleton, Nat.mul_one] at h2
  omega
theorem map_range_set {α : Type} {n k : Nat} {v : α} (g : Nat → α) : ((List.range n).map g).set k v = (List.range n).map fun p => if p = k then v else g p := by
  refine List.ext_getElem (by simp) fun i h1 h2 => ?_
  rw [List.getElem_set, List.getElem_map, List.getElem_range, List.getElem_map, List.getElem_range]
  by_cases e : k = i
  · rw [if_pos e, if_pos e.symm]
  · rw [if_neg e, if_neg fun h => e h.symm]
theorem map_range_get {α : Type} {n k : Nat} {d : α} (g : Nat → α) (h : k < n) : ((List.range n).map g).getD k d = g k := by
  simp [List.getD, h]
def qP (p : Nat) (x : List Int) : Bool := decide (x.getD p 0 = 1)
def qS (f t : Int) (k : Nat) (x : List Int) : Bool := decide (sumT f t x = (k : Int))
def wJ (Ts : List (List Int)) (n j : Nat) : List Nat := (List.range n).map fun p => mkJ (qP p) Ts j
def wQ (Ts : List (List Int)) (n j q : Nat) : List Nat := (List.range n).map fun p => mkJ (qP p) Ts (if p < q then j + 1 else j)
def eJ (Ts : List (List Int)) (f t : Int) (m j : Nat) : List Nat := (List.range m).map fun k => mkJ (qS f t k) Ts j
theorem wQ_zero (Ts : List (List Int)) (n j : Nat) : wQ Ts n j 0 = wJ Ts n j := rfl
theorem wQ_n (Ts : List (List Int)) (n j : Nat) : wQ Ts n j n = wJ Ts n (j + 1) := by
  unfold wQ wJ
  refine List.map_congr_left fun p hp => ?_
  rw [if_pos (List.mem_range.1 hp)]
theorem wQ_get (Ts : List (List Int)) {n j q : Nat} (h : q < n) : (wQ Ts n j q).getD q 0 = mkJ (qP q) Ts j := by
  unfold wQ
  rw [map_range_get _ h, if_neg (Nat.lt_irrefl q)]
theorem wQ_one {Ts : List (List Int)} {n j q : Nat} (h : qP q (Ts.getD j []) = true) : (wQ Ts n j q).set q (mkJ (qP q) Ts j ||| 2 ^ j) = wQ Ts n j (q + 1) := by
  unfold wQ
  rw [map_range_set]
  refine List.map_congr_left fun p hp => ?_
  by_cases e : p = q
  · subst e
    rw [if_pos rfl, if_pos (Nat.lt_succ_self p), mkJ_succ, h, cond_true]
  · rw [if_neg e]
    by_cases h1 : p < q
    · rw [if_pos h1, if_pos (by omega)]
    · rw [if_neg h1, if_neg (by omega)]
theorem wQ_no {Ts : List (List Int)} {n j q : Nat} (h : qP q (Ts.getD j []) = false) : wQ Ts n j q = wQ Ts n j (q + 1) := by
  unfold wQ
  refine List.map_congr_left fun p hp => ?_
  by_cases e : p = q
  · subst e
    rw [if_neg (Nat.lt_irrefl p), if_pos (Nat.lt_succ_self p), mkJ_succ, h, cond_false]
  · by_cases h1 : p < q
    · rw [if_pos h1, if_pos (by omega)]
    · rw [if_neg h1, if_neg (by omega)]
theorem eJ_set {Ts : List (List Int)} {f t : Int} {m j k : Nat} (h : sumT f t (Ts.getD j []) = (k : Int)) (hk : k < m) : (eJ Ts f t m j).set k ((eJ Ts f t m j).getD k 0 ||| 2 ^ j) = eJ Ts f t m (j + 1) := by
  unfold eJ
  rw [map_range_get _ hk, map_range_set]
  refine List.map_congr_left fun p hp => ?_
  by_cases e : p = k
  · subst e
    rw [if_pos rfl, mkJ_succ, show qS f t p (Ts.getD j []) = true from decide_eq_true h, cond_true]
  · rw [if_neg e, mkJ_succ, show qS f t p (Ts.getD j []) = false from decide_eq_false fun h' => e (by omega), cond_false]
theorem wJ_zero (Ts : List (List Int)) (n : Nat) : wJ Ts n 0 = List.replicate n 0 := by
  unfold wJ
  refine List.ext_getElem (by simp) fun i h1 h2 => ?_
  rw [List.getElem_map, List.getElem_replicate]; rfl
theorem eJ_zero (Ts : List (List Int)) (f t : Int) (n : Nat) : eJ Ts f t n 0 = List.replicate n 0 := by
  unfold eJ
  refine List.ext_getElem (by simp) fun i h1 h2 => ?_
  rw [List.getElem_map, List.getElem_replicate]; rfl
theorem wQ_len (Ts : List (List Int)) (n j q : Nat) : (wQ Ts n j q).length = n := by simp [wQ]
theorem eJ_len (Ts : List (List Int)) (f t : Int) (m j : Nat) : (eJ Ts f t m j).length = m := by simp [eJ]
theorem Fz.wholeW {B : Pos → Prop} {ob : T C} {id : Pos} {z st : Nat} {cs : List Cell} {cur : Nat} {es : List (List D)} {n : Nat} (hB : ¬ B id) (h : ob.get id = some (.cells false cs cur)) (hn : n = es.length) (hz : ∀ r ∈ es, r.length = z) (hc : cs = es.flatten.map fun d => Cell.o d st) (hp : PuE es) : Fz B ob (.sl id 0 n st z) (.lst z es) := by
  subst hc
  refine .sl hB h hn.symm hz (fun k d hk => ⟨.o d st, ?_, ?_, rfl⟩) (FzE.of hp)
  · rw [List.drop_zero, List.getElem?_map, hk]; rfl
  · show Nat.ble st st = true
    exact Nat.ble_eq_true_of_le (Nat.le_refl _)
theorem flat8_rep (m : Nat) : flat8 (List.replicate (m + 1) 0) = w8 0 ++ flat8 (List.replicate m 0) := by
  rw [List.replicate_succ]; rfl
theorem mks_rec {β : Type} : ∀ (m : Nat) (F : List Cell → Option β), (Nat.rec (motive := fun _ => (List Cell → Option β) → Option β) (fun k => k []) (fun _ ih k => ih fun l => consK (fun d => .o d 0) (w8 0) l k) m) F = F ((flat8 (List.replicate m 0)).map fun d => Cell.o d 0)
  | 0, F => rfl
  | m + 1, F => by
    show (Nat.rec (motive := fun _ => (List Cell → Option β) → Option β) (fun k => k []) (fun _ ih k => ih fun l => consK (fun d => .o d 0) (w8 0) l k) m) (fun l => consK (fun d => .o d 0) (w8 0) l F) = _
    rw [mks_rec m, consK_eq, flat8_rep, List.map_append]
section
variable {sl : T D} {ob : T C} {nx : Pos} {lg : Option (T Bool)} {K : X → Prop}
theorem WSt.mks8 {d : Pos} {x y : RX} {m : Nat} (hx : opd sl x = some (.i .i64 (m : Int))) (hy : opd sl y = some (.i .i64 (m : Int))) (hm : m ≤ 65536) (h : lWK lg nx fun lg => T.setK nx (blk8 (List.replicate m 0)) ob fun ob => Pos.succK nx fun nx' => wOut sl ob nx' lg d K (.sl nx 0 m 0 8)) : WSt (.mks d 8 (w8 0) x y) ⟨sl, ob, nx, lg⟩ K := by
  obtain ⟨l1, e1, h⟩ := lWK_ex h
  rw [T.setK_eq, Pos.succK_eq] at h
  obtain ⟨h2, h3⟩ := wOut_ok h
  refine ⟨_, ?_, h3⟩
  show s_mks d 8 (w8 0) x y sl ob nx lg = _
  unfold s_mks
  rw [hx, hy]
  have hb : (Nat.beq m m && Nat.ble m 65536) = true := by
    rw [Nat.beq_refl, Nat.ble_eq_true_of_le hm]; rfl
  show (bif Nat.beq m m && Nat.ble m 65536 then _ else none) = _
  rw [hb, cond_true, mks_rec m]
  unfold freshK
  rw [e1]
  show (T.setK nx _ ob fun ob => Pos.succK nx fun nx' => outK sl ob nx' l1 d (.sl nx 0 m 0 8) : Option X) = _
  rw [T.setK_eq, Pos.succK_eq]
  exact h2
theorem WSt.ixs8 {d id : Pos} {m len : Nat} {kk : IntKind} {x i : RX} {n : Int} (hx : opd sl x = some (.sl id 0 len 0 8)) (hi : opd sl i = some (.i kk n)) (hn : n = (m : Int)) (hm : m < len) (h : wOut sl ob nx lg d K (.pt id (0 + m * 8) 0)) : WSt (.ixs d 8 x i) ⟨sl, ob, nx, lg⟩ K := by
  obtain ⟨h2, h3⟩ := wOut_ok h
  refine ⟨_, ?_, h3⟩
  show s_ixs d 8 x i sl ob nx lg = _
  unfold s_ixs
  subst hn
  rw [hx, hi]
  have hidx : idx (m : Int) len = some m := by
    show (bif Nat.blt m len then some m else none) = _
    have : Nat.blt m len = true := by unfold Nat.blt; exact Nat.ble_eq_true_of_le hm
    rw [this]; rfl
  simp only [Nat.beq_refl, cond_true, hidx, natK_eq]
  exact h2
theorem wSt.ld9 {d id : Pos} {p : Nat} {c : Nat → Int} {x : RX} (hx : opd sl x = some (.pt id (0 + p * 1) 0)) (ho : ob.get id = some (.cells false (ncel c) 1)) (hp : p < 9) (h : lRK lg id fun lg => wOut sl ob nx lg d K (.i .i64 (c p))) : wSt (step (.ld1 d x) sl ob nx lg) K := by
  obtain ⟨l1, e1, h⟩ := lRK_ex h
  obtain ⟨h2, h3⟩ := wOut_ok h
  refine wSt.of ?_ h3
  show s_ld1 d x sl ob nx lg = _
  unfold s_ld1
  rw [hx]
  have hc : nthC (ncel c) (0 + p * 1) = some (Cell.o (.i .i64 (c p)) 0) := by
    rw [nthC_eq]
    have : p = 0 ∨ p = 1 ∨ p = 2 ∨ p = 3 ∨ p = 4 ∨ p = 5 ∨ p = 6 ∨ p = 7 ∨ p = 8 := by omega
    rcases this with rfl | rfl | rfl | rfl | rfl | rfl | rfl | rfl | rfl <;> rfl
  simp only [ho, hc]
  show (bif Nat.ble 0 0 then _ else none) = _
  rw [show Nat.ble 0 0 = true from rfl, cond_true, e1]
  exact h2
end
end Go.Ev

namespace Go.Ev
open Go.Proofs
set_option maxRecDepth 100000
def p7s : Pos := .i (.i (.o .h))
noncomputable def ftC (f t : Int) : C := .cells false [.o (.i .i64 f) 0, .o (.i .i64 t) 0] 1
noncomputable def w5C (l : List Int) (cs : List Cnt) (wr off : Int) (tr : D) : C := .cells false [.o (.lst 1 (ints l)) 0, .o (.lst 3 (rows cntD cs)) 0, .o (.i .i64 wr) 0, .o (.i .i64 off) 0, .o tr 0] 1
noncomputable def z5C : C := .cells false [.o (.i .i64 0) 0, .o (.i .i64 0) 0, .o .ns 0, .o .ns 0, .o .nm 0] 1
noncomputable def sl5C (f t : Int) (n m : Nat) : C := .cells false [.o (.i .i64 f) 0, .o (.i .i64 t) 0, .o (.sl (.o (.o (.o .h))) 0 n 0 8) 0, .o (.sl (.i (.o (.o .h))) 0 m 0 8) 0, .o (.mp (.o (.i (.o .h)))) 0] 1
theorem ftC_kp (f t : Int) (n : Nat) : KpC n (ftC f t) := by
  refine KpL.all ?_
  simp [KpL, Kp, Cell.d, Pu]
theorem w5C_kp (l : List Int) (cs : List Cnt) (wr off : Int) (Tf : List (Nat → Int)) (n : Nat) : KpC n (w5C l cs wr off (tl9 Tf)) := by
  refine KpL.all ?_
  simp [KpL, Kp, Cell.d, Pu, pu_ints, pu_cnts, tl9, pu_rows9]
theorem z5C_kp (n : Nat) : KpC n z5C := by
  refine KpL.all ?_
  simp [KpL, Kp, Cell.d, Pu]
theorem sl5C_kp (f t : Int) (a b n : Nat) (h : 10 < n) : KpC n (sl5C f t a b) := by
  refine KpL.all ?_
  simp [KpL, Kp, Cell.d, Pu, Pos.nat]
  omega
theorem blk8_kp (W : List Nat) (n : Nat) : KpC n (blk8 W) := fun c hc => by
  obtain ⟨d, hd, rfl⟩ := List.mem_map.1 hc
  obtain ⟨x, _, hx⟩ := List.mem_flatMap.1 hd
  simp only [w8, List.mem_cons, List.not_mem_nil, or_false] at hx
  rcases hx with rfl | rfl | rfl | rfl | rfl | rfl | rfl | rfl <;> simp [Kp, Cell.d, Pu]
theorem ncel_kp' (n : Nat) (c : Nat → Int) : KpC n (.cells false (ncel c) 1) := ncel_kp n c false
theorem nil_kp (n : Nat) : KpC n (.map []) := fun e he => by cases he
section
variable (l : List Int) (cs : List Cnt) (wr off f t : Int) (Tf : List (Nat → Int)) (m : Nat)
def tsL : List (List Int) := Tf.map fun c => (lst9 c).take l.length
noncomputable def bgC : T C := (.n (.n .e (some (ftC f t)) .e) (some (rowC l cs wr off)) (.n .e (some (w5C l cs wr off (tl9 Tf))) .e))
noncomputable def bgO (W E : List Nat) (w : Nat) : T C := (.n (.n (.n (.n .e (some (blk8 W)) .e) (some (w5C l cs wr off (tl9 Tf))) (.n .e (some (seC8 w)) .e)) (some (ftC f t)) (.n (.n .e (some (.map [])) .e) (some (z5C)) .e)) (some (rowC l cs wr off)) (.n (.n (.n .e (some (blk8 E)) .e) (some (ftC f t)) .e) (some (w5C l cs wr off (tl9 Tf))) (.n (.n .e (some (sl5C f t l.length m)) .e) (some (seC8 0)) .e)))
noncomputable def bgP (W E : List Nat) (w : Nat) (c : Nat → Int) : T C := (.n (.n (.n (.n .e (some (blk8 W)) .e) (some (w5C l cs wr off (tl9 Tf))) (.n .e (some (seC8 w)) .e)) (some (ftC f t)) (.n (.n .e (some (.map [])) .e) (some (z5C)) .e)) (some (rowC l cs wr off)) (.n (.n (.n .e (some (blk8 E)) .e) (some (ftC f t)) (.n .e (some (.cells false (ncel c) 1)) .e)) (some (w5C l cs wr off (tl9 Tf))) (.n (.n .e (some (sl5C f t l.length m)) .e) (some (seC8 0)) .e)))
def bgS (j : Nat) : T D := (.n (.n (.n (.n .e (some (.pt (.o (.o (.i .h))) 0 0)) .e) (some (.pt (.i (.o .h)) 0 0)) .e) none (.n .e (some (.pt (.i (.i .h)) 0 0)) (.n .e none (.n .e (some (.i .i64 (Tf.length : Int))) .e)))) none (.n (.n .e (some (.pt (.o (.i .h)) 0 0)) (.n .e none (.n .e (some (tl9 Tf)) .e))) (some (.pt (.o (.o .h)) 0 0)) (.n .e (some (.pt (.i (.i (.o .h))) 0 0)) (.n .e none (.n .e (some (.i .i64 (j : Int))) .e)))))
def bgQ (j q : Nat) : T D := (.n (.n (.n (.n .e (some (.pt (.o (.o (.i .h))) 0 0)) .e) (some (.pt (.i (.o .h)) 0 0)) .e) none (.n (.n .e (some (.pt (.i (.o (.i .h))) 0 0)) (.n .e none (.n .e (some (.i .i64 (q : Int))) .e))) (some (.pt (.i (.i .h)) 0 0)) (.n .e none (.n .e (some (.i .i64 (Tf.length : Int))) .e)))) none (.n (.n (.n .e (some (.i .i64 (j : Int))) (.n .e none (.n .e (some (.i .i64 (l.length : Int))) .e))) (some (.pt (.o (.i .h)) 0 0)) (.n .e none (.n .e (some (tl9 Tf)) .e))) (some (.pt (.o (.o .h)) 0 0)) (.n .e (some (.pt (.i (.i (.o .h))) 0 0)) (.n .e none (.n .e (some (.i .i64 (j : Int))) .e)))))
theorem bgS_kp (j n : Nat) (hn : 13 ≤ n) : ∀ s d, (bgS Tf j).get s = some d → Kp n d := by
  show TAll (fun _ d => Kp n d) _
  unfold bgS
  repeat' first | exact TAll.e | refine TAll.some ?_ ?_ ?_ | refine TAll.none ?_ ?_
  all_goals first | (simp [Kp, Pu, tl9, pu_rows9, Pos.nat]; done) | (simp [Kp, Pos.nat]; omega)
theorem bgQ_kp (j q n : Nat) (hn : 14 ≤ n) : ∀ s d, (bgQ l Tf j q).get s = some d → Kp n d := by
  show TAll (fun _ d => Kp n d) _
  unfold bgQ
  repeat' first | exact TAll.e | refine TAll.some ?_ ?_ ?_ | refine TAll.none ?_ ?_
  all_goals first | (simp [Kp, Pu, tl9, pu_rows9, Pos.nat]; done) | (simp [Kp, Pos.nat]; omega)
theorem bgO_kp (W E : List Nat) (w : Nat) : KpO 13 (bgO l cs wr off f t Tf m W E w) := by
  show TAll (fun id c => id.nat < 13 ∧ KpC 13 c) _
  unfold bgO
  repeat' first | exact TAll.e | refine TAll.some ?_ ?_ ?_ | refine TAll.none ?_ ?_
  all_goals refine ⟨by simp [Pos.nat], ?_⟩
  all_goals first
    | exact rowC_kp l cs wr off _
    | exact ftC_kp f t _
    | exact w5C_kp l cs wr off Tf _
    | exact z5C_kp _
    | exact seC8_kp _ _
    | exact blk8_kp _ _
    | exact nil_kp _
    | exact sl5C_kp f t _ _ _ (by omega)
theorem bgP_kp (W E : List Nat) (w : Nat) (c : Nat → Int) : KpO 14 (bgP l cs wr off f t Tf m W E w c) := by
  show TAll (fun id c => id.nat < 14 ∧ KpC 14 c) _
  unfold bgP
  repeat' first | exact TAll.e | refine TAll.some ?_ ?_ ?_ | refine TAll.none ?_ ?_
  all_goals refine ⟨by simp [Pos.nat], ?_⟩
  all_goals first
    | exact rowC_kp l cs wr off _
    | exact ftC_kp f t _
    | exact w5C_kp l cs wr off Tf _
    | exact z5C_kp _
    | exact seC8_kp _ _
    | exact blk8_kp _ _
    | exact nil_kp _
    | exact ncel_kp' _ _
    | exact sl5C_kp f t _ _ _ (by omega)
end
set_option maxHeartbeats 1000000 in
theorem c_begin (l : List Int) (cs : List Cnt) (wr off f t : Int) (Tf : List (Nat → Int)) (m : Nat) (h64 : Tf.length ≤ 64) (hbit : ∀ c ∈ Tf, bit2 c) (hl : l.length ≤ 9) (h0 : 0 ≤ f) (h1 : f ≤ t) (h2 : t < l.length) (hm : (m : Int) = t - f + 2) :
    CallOk Try.prog p86.ix [.ag (row5 l cs wr off (tl9 Tf)), .ag [.i .i64 f, .i .i64 t]] (bgC l cs wr off f t Tf) (.o (.o .h)) none (.tp [.ag [.i .i64 f, .i .i64 t, .sl (.o (.o (.o .h))) 0 l.length 0 8, .sl (.i (.o (.o .h))) 0 m 0 8, .mp (.o (.i (.o .h)))], .ag (w8 (mkJ (fun _ => true) (tsL l Tf) Tf.length))]) ((.n (.n (.n (.n .e (some (blk8 (wJ (tsL l Tf) l.length Tf.length))) .e) none .e) (some (ftC f t)) (.n (.n .e (some (.map [])) .e) none .e)) (some (rowC l cs wr off)) (.n (.n (.n .e (some (blk8 (eJ (tsL l Tf) f t m Tf.length))) .e) none .e) (some (w5C l cs wr off (tl9 Tf))) .e)) : T C) p7s none := by
  have e1 := ints_length l
  have e2 := rows_length nums Tf
  have hpt := pu_tl9 Tf
  have hW0 := wJ_zero (tsL l Tf) l.length
  have hE0 := eJ_zero (tsL l Tf) f t m
  have p64 : ∀ (q : List Int → Bool) j, j ≤ 64 → mkJ q (tsL l Tf) j < 2 ^ 64 := fun q j hj => Nat.lt_of_lt_of_le (mkJ_lt _ _ _) (Nat.pow_le_pow_right (by omega) hj)
  refine CallOk.run fn85 (by simp) (show 4 ≤ 11 by omega) ?_; conv => whnf
  repeat' first | ((first | with_reducible apply WB.tt | with_reducible apply WB.ff | refine Rn.seq ?_ | refine Rn.reg ?_ | refine Rn.drw ?_ | refine Rn.blk ?_ | refine Rn.skip ?_ | refine Rn.ret ?_ | refine Rn.exit ?_ | refine Rn.cond rfl ?_ | refine And.intro (InR.i64 (by omega) (by omega)) ?_ | refine And.intro (show _ ≠ (0 : Int) by omega) ?_ | refine WIx.intsN (by omega) ?_ | refine WIx.rowsN (by omega) ?_) <;> conv => whnf)
  refine WSt.mks8 (m := l.length) (by rw [← e1]; rfl) (by rw [← e1]; rfl) (by omega) ?_; conv => whnf
  repeat' first | ((first | with_reducible apply WB.tt | with_reducible apply WB.ff | refine Rn.seq ?_ | refine Rn.reg ?_ | refine Rn.drw ?_ | refine Rn.blk ?_ | refine Rn.skip ?_ | refine Rn.ret ?_ | refine Rn.exit ?_ | refine Rn.cond rfl ?_ | refine And.intro (InR.i64 (by omega) (by omega)) ?_ | refine And.intro (show _ ≠ (0 : Int) by omega) ?_ | refine WIx.intsN (by omega) ?_ | refine WIx.rowsN (by omega) ?_) <;> conv => whnf)
  refine WSt.mks8 (m := m) (by rw [hm]; rfl) (by rw [hm]; rfl) (by omega) ?_; conv => whnf
  repeat' first | ((first | with_reducible apply WB.tt | with_reducible apply WB.ff | refine Rn.seq ?_ | refine Rn.reg ?_ | refine Rn.drw ?_ | refine Rn.blk ?_ | refine Rn.skip ?_ | refine Rn.ret ?_ | refine Rn.exit ?_ | refine Rn.cond rfl ?_ | refine And.intro (InR.i64 (by omega) (by omega)) ?_ | refine And.intro (show _ ≠ (0 : Int) by omega) ?_ | refine WIx.intsN (by omega) ?_ | refine WIx.rowsN (by omega) ?_) <;> conv => whnf)
  refine Rn.loop (fun j : Nat => ⟨bgS Tf j, bgO l cs wr off f t Tf m (wJ (tsL l Tf) l.length j) (eJ (tsL l Tf) f t m j) (mkJ (fun _ => true) (tsL l Tf) j), .i (.o (.i .h)), none⟩) (fun j => j ≤ Tf.length) (fun j => Tf.length - j) 0 ?_ ?_ ?_
  · refine X.le.mk ?_ ?_ (Nat.le_refl _) rfl rfl
    · unfold bgS
      rw [← e2]
      (repeat' first | exact T.le_e _ | refine T.le_some ?_ rfl ?_ | refine T.le_none ?_ ?_)
    · unfold bgO
      rw [hW0, hE0]
      (repeat' first | exact T.le_e _ | refine T.le_some ?_ rfl ?_ | refine T.le_none ?_ ?_ | refine T.le_ee ?_ ?_)
  · exact Nat.zero_le _
  intro j hj
  have hj : j ≤ Tf.length := hj
  conv => whnf
  repeat' first | ((first | with_reducible apply WB.tt | with_reducible apply WB.ff | refine Rn.seq ?_ | refine Rn.reg ?_ | refine Rn.drw ?_ | refine Rn.blk ?_ | refine Rn.skip ?_ | refine Rn.ret ?_ | refine Rn.exit ?_ | refine Rn.cond rfl ?_ | refine And.intro (InR.i64 (by omega) (by omega)) ?_ | refine And.intro (show _ ≠ (0 : Int) by omega) ?_ | refine WIx.intsN (by omega) ?_ | refine WIx.rowsN (by omega) ?_) <;> conv => whnf)
  refine WB.dec (fun h => ?_) (fun h => ?_) <;> conv => whnf
  · have hlt : j < Tf.length := by omega
    have hc := hbit _ (getD_mem (d := default) hlt)
    have hTj : (tsL l Tf).getD j [] = (lst9 (Tf.getD j default)).take l.length := by
      simp [tsL, List.getD, hlt]
    have hsum : sumT f t ((tsL l Tf).getD j []) = chG f t (Tf.getD j default) := by
      rw [hTj]
      unfold sumT chG
      rw [sumP_take (by omega)]
    have hcs0 := sumP_bd hc.bits f.toNat (t + 1 - f).toNat (by simp [lst9]; omega)
    obtain ⟨ks, hks⟩ : ∃ ks : Nat, chG f t (Tf.getD j default) = (ks : Int) := ⟨(chG f t (Tf.getD j default)).toNat, by unfold chG; omega⟩
    have hkm : ks < m := by
      unfold chG at hks
      omega
    have hset := eJ_set (m := m) (hsum.trans hks) hkm
    have hgt : (eJ (tsL l Tf) f t m j).getD ks 0 = mkJ (qS f t ks) (tsL l Tf) j := map_range_get _ hkm
    have cT := c_plus (mkJ (fun _ => true) (tsL l Tf) j) j (p64 _ j (by omega)) (by omega)
    have cE := c_plus ((eJ (tsL l Tf) f t m j).getD ks 0) j (by rw [hgt]; exact p64 _ j (by omega)) (by omega)
    have cC := c_chairsOf l cs wr off f t (tl9 Tf) hpt h0 (by omega) (by omega) (Tf.getD j default) hc
    have hT1 : mkJ (fun _ => true) (tsL l Tf) j ||| 2 ^ j = mkJ (fun _ => true) (tsL l Tf) (j + 1) := by rw [mkJ_succ]; rfl
    rw [hT1] at cT
    rw [hks] at cC
    have hel := eJ_len (tsL l Tf) f t m j
    have hcw : ∀ q, q < l.length → ((tsL l Tf).getD j []).getD q 0 = Tf.getD j default q := fun q hq => by
      rw [hTj]
      have hq9 : q = 0 ∨ q = 1 ∨ q = 2 ∨ q = 3 ∨ q = 4 ∨ q = 5 ∨ q = 6 ∨ q = 7 ∨ q = 8 := by omega
      rw [List.getD_eq_getElem?_getD, List.getElem?_take, if_pos hq]
      rcases hq9 with rfl | rfl | rfl | rfl | rfl | rfl | rfl | rfl | rfl <;> rfl
    generalize hcd : Tf.getD j default = c at *
    repeat' first | ((first | with_reducible apply WB.tt | with_reducible apply WB.ff | refine Rn.seq ?_ | refine Rn.reg ?_ | refine Rn.drw ?_ | refine Rn.blk ?_ | refine Rn.skip ?_ | refine Rn.ret ?_ | refine Rn.exit ?_ | refine Rn.cond rfl ?_ | refine And.intro (InR.i64 (by omega) (by omega)) ?_ | refine And.intro (show _ ≠ (0 : Int) by omega) ?_ | refine WIx.intsN (by omega) ?_ | refine WIx.rowsN (by omega) ?_ | refine WCall.pure (cT) ?_) <;> conv => whnf)
    rw [hcd]
    repeat' first | ((first | with_reducible apply WB.tt | with_reducible apply WB.ff | refine Rn.seq ?_ | refine Rn.reg ?_ | refine Rn.drw ?_ | refine Rn.blk ?_ | refine Rn.skip ?_ | refine Rn.ret ?_ | refine Rn.exit ?_ | refine Rn.cond rfl ?_ | refine And.intro (InR.i64 (by omega) (by omega)) ?_ | refine And.intro (show _ ≠ (0 : Int) by omega) ?_ | refine WIx.intsN (by omega) ?_ | refine WIx.rowsN (by omega) ?_ | refine WCall.pure (cT) ?_ | refine WCall.pure (cC) ?_) <;> conv => whnf)
    refine WSt.ixs8 (m := ks) rfl rfl rfl hkm ?_; conv => whnf
    repeat' first | ((first | with_reducible apply WB.tt | with_reducible apply WB.ff | refine Rn.seq ?_ | refine Rn.reg ?_ | refine Rn.drw ?_ | refine Rn.blk ?_ | refine Rn.skip ?_ | refine Rn.ret ?_ | refine Rn.exit ?_ | refine Rn.cond rfl ?_ | refine And.intro (InR.i64 (by omega) (by omega)) ?_ | refine And.intro (show _ ≠ (0 : Int) by omega) ?_ | refine WIx.intsN (by omega) ?_ | refine WIx.rowsN (by omega) ?_) <;> conv => whnf)
    refine wSt.ldn8 (m := ks) (W := eJ (tsL l Tf) f t m j) rfl rfl (by omega) ?_; conv => whnf
    repeat' first | ((first | with_reducible apply WB.tt | with_reducible apply WB.ff | refine Rn.seq ?_ | refine Rn.reg ?_ | refine Rn.drw ?_ | refine Rn.blk ?_ | refine Rn.skip ?_ | refine Rn.ret ?_ | refine Rn.exit ?_ | refine Rn.cond rfl ?_ | refine And.intro (InR.i64 (by omega) (by omega)) ?_ | refine And.intro (show _ ≠ (0 : Int) by omega) ?_ | refine WIx.intsN (by omega) ?_ | refine WIx.rowsN (by omega) ?_ | refine WCall.pure (cE) ?_) <;> conv => whnf)
    refine WSt.ixs8 (m := ks) rfl rfl rfl hkm ?_; conv => whnf
    repeat' first | ((first | with_reducible apply WB.tt | with_reducible apply WB.ff | refine Rn.seq ?_ | refine Rn.reg ?_ | refine Rn.drw ?_ | refine Rn.blk ?_ | refine Rn.skip ?_ | refine Rn.ret ?_ | refine Rn.exit ?_ | refine Rn.cond rfl ?_ | refine And.intro (InR.i64 (by omega) (by omega)) ?_ | refine And.intro (show _ ≠ (0 : Int) by omega) ?_ | refine WIx.intsN (by omega) ?_ | refine WIx.rowsN (by omega) ?_) <;> conv => whnf)
    refine wSt.st8 (m := ks) (v := (eJ (tsL l Tf) f t m j).getD ks 0 ||| 2 ^ j) (W := eJ (tsL l Tf) f t m j) rfl rfl rfl (by omega) ?_; conv => whnf
    rw [hset]
    repeat' first | ((first | with_reducible apply WB.tt | with_reducible apply WB.ff | refine Rn.seq ?_ | refine Rn.reg ?_ | refine Rn.drw ?_ | refine Rn.blk ?_ | refine Rn.skip ?_ | refine Rn.ret ?_ | refine Rn.exit ?_ | refine Rn.cond rfl ?_ | refine And.intro (InR.i64 (by omega) (by omega)) ?_ | refine And.intro (show _ ≠ (0 : Int) by omega) ?_ | refine WIx.intsN (by omega) ?_ | refine WIx.rowsN (by omega) ?_) <;> conv => whnf)
    refine Rn.loop (fun q : Nat => ⟨bgQ l Tf j q, bgP l cs wr off f t Tf m (wQ (tsL l Tf) l.length j q) (eJ (tsL l Tf) f t m (j + 1)) (mkJ (fun _ => true) (tsL l Tf) (j + 1)) c, .o (.i (.i .h)), none⟩) (fun q => q ≤ l.length) (fun q => l.length - q) 0 ?_ ?_ ?_
    · refine X.le.mk ?_ ?_ (Nat.le_refl _) rfl rfl
      · unfold bgQ
        rw [← e1]
        (repeat' first | exact T.le_e _ | refine T.le_some ?_ rfl ?_ | refine T.le_none ?_ ?_)
      · unfold bgP
        rw [wQ_zero]
        (repeat' first | exact T.le_e _ | refine T.le_some ?_ rfl ?_ | refine T.le_none ?_ ?_ | refine T.le_ee ?_ ?_)
    · exact Nat.zero_le _
    intro q hq
    have hq : q ≤ l.length := hq
    conv => whnf
    repeat' first | ((first | with_reducible apply WB.tt | with_reducible apply WB.ff | refine Rn.seq ?_ | refine Rn.reg ?_ | refine Rn.drw ?_ | refine Rn.blk ?_ | refine Rn.skip ?_ | refine Rn.ret ?_ | refine Rn.exit ?_ | refine Rn.cond rfl ?_ | refine And.intro (InR.i64 (by omega) (by omega)) ?_ | refine And.intro (show _ ≠ (0 : Int) by omega) ?_ | refine WIx.intsN (by omega) ?_ | refine WIx.rowsN (by omega) ?_) <;> conv => whnf)
    refine WB.dec (fun h => ?_) (fun h => ?_) <;> conv => whnf
    · have hql : q < l.length := by omega
      have hwg := wQ_get (tsL l Tf) (j := j) hql
      have hwl := wQ_len (tsL l Tf) l.length j q
      have cW := c_plus ((wQ (tsL l Tf) l.length j q).getD q 0) j (by rw [hwg]; exact p64 _ j (by omega)) (by omega)
      repeat' first | ((first | with_reducible apply WB.tt | with_reducible apply WB.ff | refine Rn.seq ?_ | refine Rn.reg ?_ | refine Rn.drw ?_ | refine Rn.blk ?_ | refine Rn.skip ?_ | refine Rn.ret ?_ | refine Rn.exit ?_ | refine Rn.cond rfl ?_ | refine And.intro (InR.i64 (by omega) (by omega)) ?_ | refine And.intro (show _ ≠ (0 : Int) by omega) ?_ | refine WIx.intsN (by omega) ?_ | refine WIx.rowsN (by omega) ?_) <;> conv => whnf)
      refine WSt.ixaN (m := q) rfl rfl rfl (by omega) ?_; conv => whnf
      repeat' first | ((first | with_reducible apply WB.tt | with_reducible apply WB.ff | refine Rn.seq ?_ | refine Rn.reg ?_ | refine Rn.drw ?_ | refine Rn.blk ?_ | refine Rn.skip ?_ | refine Rn.ret ?_ | refine Rn.exit ?_ | refine Rn.cond rfl ?_ | refine And.intro (InR.i64 (by omega) (by omega)) ?_ | refine And.intro (show _ ≠ (0 : Int) by omega) ?_ | refine WIx.intsN (by omega) ?_ | refine WIx.rowsN (by omega) ?_) <;> conv => whnf)
      refine wSt.ld9 (p := q) (c := c) rfl rfl (by omega) ?_; conv => whnf
      repeat' first | ((first | with_reducible apply WB.tt | with_reducible apply WB.ff | refine Rn.seq ?_ | refine Rn.reg ?_ | refine Rn.drw ?_ | refine Rn.blk ?_ | refine Rn.skip ?_ | refine Rn.ret ?_ | refine Rn.exit ?_ | refine Rn.cond rfl ?_ | refine And.intro (InR.i64 (by omega) (by omega)) ?_ | refine And.intro (show _ ≠ (0 : Int) by omega) ?_ | refine WIx.intsN (by omega) ?_ | refine WIx.rowsN (by omega) ?_) <;> conv => whnf)
      refine WB.dec (fun h => ?_) (fun h => ?_) <;> conv => whnf
      · have hqP : qP q ((tsL l Tf).getD j []) = true := by
          unfold qP; rw [hcw q hql]; exact decide_eq_true (by assumption)
        have hs := wQ_one (n := l.length) hqP
        rw [← hwg] at hs
        repeat' first | ((first | with_reducible apply WB.tt | with_reducible apply WB.ff | refine Rn.seq ?_ | refine Rn.reg ?_ | refine Rn.drw ?_ | refine Rn.blk ?_ | refine Rn.skip ?_ | refine Rn.ret ?_ | refine Rn.exit ?_ | refine Rn.cond rfl ?_ | refine And.intro (InR.i64 (by omega) (by omega)) ?_ | refine And.intro (show _ ≠ (0 : Int) by omega) ?_ | refine WIx.intsN (by omega) ?_ | refine WIx.rowsN (by omega) ?_) <;> conv => whnf)
        refine WSt.ixs8 (m := q) rfl rfl rfl hql ?_; conv => whnf
        repeat' first | ((first | with_reducible apply WB.tt | with_reducible apply WB.ff | refine Rn.seq ?_ | refine Rn.reg ?_ | refine Rn.drw ?_ | refine Rn.blk ?_ | refine Rn.skip ?_ | refine Rn.ret ?_ | refine Rn.exit ?_ | refine Rn.cond rfl ?_ | refine And.intro (InR.i64 (by omega) (by omega)) ?_ | refine And.intro (show _ ≠ (0 : Int) by omega) ?_ | refine WIx.intsN (by omega) ?_ | refine WIx.rowsN (by omega) ?_) <;> conv => whnf)
        refine wSt.ldn8 (m := q) (W := wQ (tsL l Tf) l.length j q) rfl rfl (by omega) ?_; conv => whnf
        repeat' first | ((first | with_reducible apply WB.tt | with_reducible apply WB.ff | refine Rn.seq ?_ | refine Rn.reg ?_ | refine Rn.drw ?_ | refine Rn.blk ?_ | refine Rn.skip ?_ | refine Rn.ret ?_ | refine Rn.exit ?_ | refine Rn.cond rfl ?_ | refine And.intro (InR.i64 (by omega) (by omega)) ?_ | refine And.intro (show _ ≠ (0 : Int) by omega) ?_ | refine WIx.intsN (by omega) ?_ | refine WIx.rowsN (by omega) ?_ | refine WCall.pure (cW) ?_) <;> conv => whnf)
        refine WSt.ixs8 (m := q) rfl rfl rfl hql ?_; conv => whnf
        repeat' first | ((first | with_reducible apply WB.tt | with_reducible apply WB.ff | refine Rn.seq ?_ | refine Rn.reg ?_ | refine Rn.drw ?_ | refine Rn.blk ?_ | refine Rn.skip ?_ | refine Rn.ret ?_ | refine Rn.exit ?_ | refine Rn.cond rfl ?_ | refine And.intro (InR.i64 (by omega) (by omega)) ?_ | refine And.intro (show _ ≠ (0 : Int) by omega) ?_ | refine WIx.intsN (by omega) ?_ | refine WIx.rowsN (by omega) ?_) <;> conv => whnf)
        refine wSt.st8 (m := q) (v := (wQ (tsL l Tf) l.length j q).getD q 0 ||| 2 ^ j) (W := wQ (tsL l Tf) l.length j q) rfl rfl rfl (by omega) ?_; conv => whnf
        rw [hs]
        repeat' first | ((first | with_reducible apply WB.tt | with_reducible apply WB.ff | refine Rn.seq ?_ | refine Rn.reg ?_ | refine Rn.drw ?_ | refine Rn.blk ?_ | refine Rn.skip ?_ | refine Rn.ret ?_ | refine Rn.exit ?_ | refine Rn.cond rfl ?_ | refine And.intro (InR.i64 (by omega) (by omega)) ?_ | refine And.intro (show _ ≠ (0 : Int) by omega) ?_ | refine WIx.intsN (by omega) ?_ | refine WIx.rowsN (by omega) ?_) <;> conv => whnf)
        refine Again.to (q + 1) (by omega) (by omega) (Nat.le_refl _) (Shr.kp2 ?_ (bgQ_kp l Tf j (q + 1) 14 (Nat.le_refl _)) ?_ (bgP_kp l cs wr off f t Tf m _ _ _ _))
        · unfold bgQ
          (repeat' first | exact T.le_e _ | refine T.le_some ?_ rfl ?_ | refine T.le_none ?_ ?_)
        · unfold bgP
          (repeat' first | exact T.le_e _ | refine T.le_some ?_ rfl ?_ | refine T.le_none ?_ ?_ | refine T.le_ee ?_ ?_)
      · have hqP : qP q ((tsL l Tf).getD j []) = false := by
          unfold qP; rw [hcw q hql]; exact decide_eq_false (by assumption)
        have hs := wQ_no (n := l.length) hqP
        repeat' first | ((first | with_reducible apply WB.tt | with_reducible apply WB.ff | refine Rn.seq ?_ | refine Rn.reg ?_ | refine Rn.drw ?_ | refine Rn.blk ?_ | refine Rn.skip ?_ | refine Rn.ret ?_ | refine Rn.exit ?_ | refine Rn.cond rfl ?_ | refine And.intro (InR.i64 (by omega) (by omega)) ?_ | refine And.intro (show _ ≠ (0 : Int) by omega) ?_ | refine WIx.intsN (by omega) ?_ | refine WIx.rowsN (by omega) ?_) <;> conv => whnf)
        refine Again.to (q + 1) (by omega) (by omega) (Nat.le_refl _) (Shr.kp2 ?_ (bgQ_kp l Tf j (q + 1) 14 (Nat.le_refl _)) ?_ (bgP_kp l cs wr off f t Tf m _ _ _ _))
        · unfold bgQ
          (repeat' first | exact T.le_e _ | refine T.le_some ?_ rfl ?_ | refine T.le_none ?_ ?_)
        · unfold bgP
          rw [← hs]
          (repeat' first | exact T.le_e _ | refine T.le_some ?_ rfl ?_ | refine T.le_none ?_ ?_ | refine T.le_ee ?_ ?_)
    · have hWe : wQ (tsL l Tf) l.length j q = wJ (tsL l Tf) l.length (j + 1) := by rw [show q = l.length by omega, wQ_n]
      repeat' first | ((first | with_reducible apply WB.tt | with_reducible apply WB.ff | refine Rn.seq ?_ | refine Rn.reg ?_ | refine Rn.drw ?_ | refine Rn.blk ?_ | refine Rn.skip ?_ | refine Rn.ret ?_ | refine Rn.exit ?_ | refine Rn.cond rfl ?_ | refine And.intro (InR.i64 (by omega) (by omega)) ?_ | refine And.intro (show _ ≠ (0 : Int) by omega) ?_ | refine WIx.intsN (by omega) ?_ | refine WIx.rowsN (by omega) ?_) <;> conv => whnf)
      refine Again.to (j + 1) (by omega) (by omega) (Nat.le_refl _) (Shr.kp2 ?_ (bgS_kp Tf (j + 1) 13 (Nat.le_refl _)) ?_ (bgO_kp l cs wr off f t Tf m _ _ _))
      · unfold bgS
        (repeat' first | exact T.le_e _ | refine T.le_some ?_ rfl ?_ | refine T.le_none ?_ ?_)
      · unfold bgO
        rw [← hWe]
        (repeat' first | exact T.le_e _ | refine T.le_some ?_ rfl ?_ | refine T.le_none ?_ ?_ | refine T.le_ee ?_ ?_)
  · have hjn : j = Tf.length := by omega
    subst hjn
    repeat' first | ((first | with_reducible apply WB.tt | with_reducible apply WB.ff | refine Rn.seq ?_ | refine Rn.reg ?_ | refine Rn.drw ?_ | refine Rn.blk ?_ | refine Rn.skip ?_ | refine Rn.ret ?_ | refine Rn.exit ?_ | refine Rn.cond rfl ?_ | refine And.intro (InR.i64 (by omega) (by omega)) ?_ | refine And.intro (show _ ≠ (0 : Int) by omega) ?_ | refine WIx.intsN (by omega) ?_ | refine WIx.rowsN (by omega) ?_) <;> conv => whnf)
    refine ⟨.inr rfl, ⟨_, rfl, ?_⟩, Shr.kp ?_ ?_⟩
    · refine Fz.kp _ ?_
      simp [Kp, KpL, w8, Pu, Pos.nat, p7s, one]
    · (repeat' first | exact T.le_e _ | refine T.le_some ?_ rfl ?_ | refine T.le_none ?_ ?_ | refine T.le_ee ?_ ?_)
    · show TAll (fun id c => id.nat < 11 ∧ KpC 11 c) _
      repeat' first | exact TAll.e | refine TAll.some ?_ ?_ ?_ | refine TAll.none ?_ ?_
      all_goals refine ⟨by simp [Pos.nat], ?_⟩
      all_goals first
        | exact rowC_kp l cs wr off _
        | exact ftC_kp f t _
        | exact w5C_kp l cs wr off Tf _
        | exact blk8_kp _ _
        | exact nil_kp _
end Go.Ev

namespace Go.Ev
open Go.Proofs
set_option maxRecDepth 100000
theorem known_any {Ts : List (List Int)} {f t : Int} {n m : Nat} (h64 : Ts.length ≤ 64) (L : Lks f t n Ts) (hm : ∀ x ∈ Ts, sumT f t x < m) {w : Nat} (h0 : w ≠ 0) (hw : w < 2 ^ Ts.length) : ((eJ Ts f t m Ts.length).any fun e => decide (w &&& (18446744073709551615 - e) = 0)) = knB f t (selT Ts w) := by
  have hR : selT Ts w ≠ [] := fun e => h0 ((sel_nil hw).1 e)
  have LR : Lks f t n (selT Ts w) := fun x hx => L x (mem_sel hx)
  have key : ∀ k : Nat, (w &&& (18446744073709551615 - mkJ (qS f t k) Ts Ts.length) = 0) ↔ ∀ x ∈ selT Ts w, sumT f t x = (k : Int) := fun k => by
    rw [← sel_nil (and_lt hw), sel_not h64, List.filter_eq_nil_iff]
    constructor
    · intro h x hx
      have := h x hx
      simpa [qS] using this
    · intro h x hx
      have := h x hx
      simp [qS, this]
  rw [Bool.eq_iff_iff, List.any_eq_true, kn_iff hR LR]
  constructor
  · rintro ⟨e, he, hd⟩ x hx y hy
    obtain ⟨k, hk, rfl⟩ := List.mem_map.1 he
    have := (key k).1 (of_decide_eq_true hd)
    rw [this x hx, this y hy]
  · intro h
    obtain ⟨x, hx⟩ := List.exists_mem_of_ne_nil _ hR
    have h1 := (LR x hx).2.2
    have h2 := hm x (mem_sel hx)
    refine ⟨_, List.mem_map.2 ⟨(sumT f t x).toNat, List.mem_range.2 (by omega), rfl⟩, decide_eq_true ((key _).2 fun y hy => ?_)⟩
    rw [h y hy x hx]
    omega
section
variable {l : List Int} {cs : List Cnt} {wr off f t : Int}
theorem ts_tru (hl : l.length ≤ 9) : tsL l (truthsF l cs wr off) = truR l cs wr off := (truR_eq l cs wr off hl).symm
theorem tru_lks (hF : faultR l cs wr off = 0) (h0 : 0 ≤ f) (h1 : f ≤ t) (h2 : t < l.length) : Lks f t l.length (truR l cs wr off) := fun x hx =>
  ⟨(truR_mem x hx).1, (truR_mem x hx).2, sum_bd hF h0 (by omega) h2 x hx⟩
theorem tru_lkp (hF : faultR l cs wr off = 0) (hu : unk l ≤ 6) (h0 : 0 ≤ f) (h1 : f ≤ t) (h2 : t < l.length) {m : Nat} (hm : (m : Int) = t - f + 2) : LkP (truR l cs wr off) f t l.length (wJ (truR l cs wr off) l.length (truR l cs wr off).length) (eJ (truR l cs wr off) f t m (truR l cs wr off).length) := by
  obtain ⟨f1, f2, f3, f4⟩ := fault0 hF
  have h64 := truR_64 (cs := cs) (wr := wr) (off := off) hu
  have L := tru_lks hF h0 h1 h2
  refine ⟨h64, L, f2, by simp [wJ], fun p hp => ?_, by rw [eJ_len]; omega, fun e he => ?_, fun w h0' hw => known_any h64 L (fun x hx => ?_) h0' hw, wf_small (by omega) (by omega), wf_small (by omega) (by omega)⟩
  · unfold wJ
    rw [map_range_get _ hp]; rfl
  · obtain ⟨k, _, rfl⟩ := List.mem_map.1 he
    exact Nat.lt_of_lt_of_le (mkJ_lt _ _ _) (Nat.pow_le_pow_right (by omega) h64)
  · have h3 := truR_mem x hx
    have h4 := sumP_bd h3.2 f.toNat (t + 1 - f).toNat (by omega)
    unfold sumT
    omega
end
noncomputable def lk5C (f t : Int) (W E : List Nat) : C := .cells false [.o (.i .i64 f) 0, .o (.i .i64 t) 0, .o (.lst 8 (rows w8 W)) 0, .o (.lst 8 (rows w8 E)) 0, .o (.mp (.o (.i (.o .h)))) 0] 1
def bK (id : Pos) : Prop := id.nat < 4 ∨ (10 ≤ id.nat ∧ id.nat < 13)
theorem bK10 : bK (.o (.i (.o .h))) := .inr ⟨by decide, by decide⟩
theorem bK11 : bK (.i (.i (.o .h))) := .inr ⟨by decide, by decide⟩
theorem bK12 : bK (.o (.o (.i .h))) := .inr ⟨by decide, by decide⟩
theorem nK8 : ¬ bK (.o (.o (.o .h))) := by unfold bK; decide
theorem nK9 : ¬ bK (.i (.o (.o .h))) := by unfold bK; decide
theorem lk5_sh {f t : Int} {d1 d2 e1 e2 : D} {ob : T C} (h1 : Fz bK ob d1 e1) (h2 : Fz bK ob d2 e2) : ShC bK ob (.cells false [.o (.i .i64 f) 0, .o (.i .i64 t) 0, .o d1 0, .o d2 0, .o (.mp (.o (.i (.o .h)))) 0] 1) (.cells false [.o (.i .i64 f) 0, .o (.i .i64 t) 0, .o e1 0, .o e2 0, .o (.mp (.o (.i (.o .h)))) 0] 1) := by
  refine .cells fun k c' hc => ?_
  match k, hc with
  | 0, hc => cases hc; exact ⟨_, rfl, fun _ h => h, .pu trivial⟩
  | 1, hc => cases hc; exact ⟨_, rfl, fun _ h => h, .pu trivial⟩
  | 2, hc => cases hc; exact ⟨_, rfl, fun _ h => h, h1⟩
  | 3, hc => cases hc; exact ⟨_, rfl, fun _ h => h, h2⟩
  | 4, hc => cases hc; exact ⟨_, rfl, fun _ h => h, .kmp bK10⟩
  | k + 5, hc => cases hc
theorem rows8_flat (W : List Nat) : (rows w8 W).flatten = flat8 W := by
  simp [rows, flat8, List.flatMap]
def looksN (l : List Int) (cs : List Cnt) (wr off f t : Int) : Int := if startE l cs wr off f t = 0 then lkN f t l.length (truR l cs wr off) else 0
theorem c_Looks (l : List Int) (cs : List Cnt) (wr off f t : Int) (hu : faultR l cs wr off = 0 → unk l ≤ 6) : PureF Try.prog p44.ix [.ag [.lst 1 (ints l), .lst 3 (rows cntD cs), .i .i64 wr, .i .i64 off], .i .i64 f, .i .i64 t] (.tp [.i .i64 (looksN l cs wr off f t), .i .i64 (startE l cs wr off f t)]) := by
  have cS := c_start l cs wr off f t
  unfold startW at cS
  by_cases hE : startE l cs wr off f t = 0
  · obtain ⟨hF, q1, q2, q3, q4⟩ := startE0 hE
    obtain ⟨f1, f2, f3, f4⟩ := fault0 hF
    rw [hE, if_pos rfl] at cS
    have hlN : looksN l cs wr off f t = lkN f t l.length (truR l cs wr off) := by unfold looksN; rw [if_pos hE]
    rw [hlN, hE]
    have ht := ts_tru (cs := cs) (wr := wr) (off := off) f2
    have hTl : (truthsF l cs wr off).length = (truR l cs wr off).length := by rw [← ht]; simp [tsL]
    have h64 := truR_64 (cs := cs) (wr := wr) (off := off) (hu hF)
    obtain ⟨m, hm⟩ : ∃ m : Nat, (m : Int) = t - f + 2 := ⟨(t - f + 2).toNat, by omega⟩
    have hne : truR l cs wr off ≠ [] := fun e => q4 ((truths_nil f2).1 e)
    have H := tru_lkp hF (hu hF) q1 q2 q3 hm
    have cB := c_begin l cs wr off f t (truthsF l cs wr off) m (by omega) (fun c hc => truthsF_bit hc) f2 q1 q2 q3 hm
    rw [ht, hTl] at cB
    have hall : mkJ (fun _ => true) (truR l cs wr off) (truR l cs wr off).length ≠ 0 := fun e => hne (by
      have := sel_all (T := truR l cs wr off)
      rw [e, (sel_nil (Nat.two_pow_pos _)).2 rfl] at this
      exact this.symm)
    obtain ⟨M', hM', cN⟩ := c_needed H (truR l cs wr off).length [] (fun e he => by cases he) (mkJ (fun _ => true) (truR l cs wr off) (truR l cs wr off).length) hall (mkJ_lt _ _ _) (by rw [sel_all]; exact Nat.le_refl _)
    rw [sel_all] at cN
    have hpW := H.wl
    generalize hW : wJ (truR l cs wr off) l.length (truR l cs wr off).length = W at *
    have hpE := eJ_len (truR l cs wr off) f t m (truR l cs wr off).length
    generalize hEE : eJ (truR l cs wr off) f t m (truR l cs wr off).length = E at *
    generalize mkJ (fun _ => true) (truR l cs wr off) (truR l cs wr off).length = w at *
    generalize lkN f t l.length (truR l cs wr off) = v at *
    refine PureF.run fn43 (by simp) (by simp [PuL, PuE, Pu, pu_ints, pu_cnts]) ?_; conv => whnf
    repeat' first | ((first | with_reducible apply WB.tt | with_reducible apply WB.ff | refine Rn.seq ?_ | refine Rn.reg ?_ | refine Rn.drw ?_ | refine Rn.blk ?_ | refine Rn.skip ?_ | refine Rn.ret ?_ | refine Rn.exit ?_ | refine Rn.cond rfl ?_ | refine And.intro (InR.i64 (by omega) (by omega)) ?_ | refine And.intro (show _ ≠ (0 : Int) by omega) ?_ | refine WIx.intsN (by omega) ?_ | refine WIx.rowsN (by omega) ?_) <;> conv => whnf)
    refine WCall.pure cS ?_; conv => whnf
    refine Rn.seq ?_; conv => whnf
    refine Rn.seq ?_; conv => whnf
    refine Rn.reg ?_; conv => whnf
    refine Rn.cond rfl ?_; conv => whnf
    refine WB.ff ?_; conv => whnf
    refine Rn.skip ?_; conv => whnf
    refine Rn.far rfl (RnF.seq ?_); conv => whnf
    repeat' first | ((first | with_reducible apply WB.tt | with_reducible apply WB.ff | refine Rn.seq ?_ | refine Rn.reg ?_ | refine Rn.drw ?_ | refine Rn.blk ?_ | refine Rn.skip ?_ | refine Rn.ret ?_ | refine Rn.exit ?_ | refine Rn.cond rfl ?_ | refine And.intro (InR.i64 (by omega) (by omega)) ?_ | refine And.intro (show _ ≠ (0 : Int) by omega) ?_ | refine WIx.intsN (by omega) ?_ | refine WIx.rowsN (by omega) ?_) <;> conv => whnf)
    refine WCall.at cB ?_; conv => whnf
    repeat' first | ((first | with_reducible apply WB.tt | with_reducible apply WB.ff | refine Rn.seq ?_ | refine Rn.reg ?_ | refine Rn.drw ?_ | refine Rn.blk ?_ | refine Rn.skip ?_ | refine Rn.ret ?_ | refine Rn.exit ?_ | refine Rn.cond rfl ?_ | refine And.intro (InR.i64 (by omega) (by omega)) ?_ | refine And.intro (show _ ≠ (0 : Int) by omega) ?_ | refine WIx.intsN (by omega) ?_ | refine WIx.rowsN (by omega) ?_) <;> conv => whnf)
    refine ⟨rfl, rfl, (show 4 ≤ 13 by omega), RnF.turn (z' := ⟨(.n (.n (.n .e none (.n .e (some (.pt (.i (.i (.o .h))) 0 0)) .e)) none .e) none (.n (.n .e none (.n .e (some (.pt (.o (.o (.i .h))) 0 0)) .e)) none .e)), (.n (.n (.n .e none (.n .e (some (seC8 w)) .e)) none (.n (.n .e (some (.map [])) .e) none .e)) none (.n .e none (.n (.n .e (some (lk5C f t W E)) .e) none .e))), .i (.o (.i .h)), none⟩) (B := bK) ?_ (fun id h => .inl h) (fun id h => show id.nat < 13 by unfold bK at h; omega) (show 4 ≤ 13 by omega) ?_⟩
    · refine ShrB.of ?_ ?_ rfl rfl
      · show Rel _ _ ((.n (.n (.n .e none (.n .e (some (.pt (.i (.i (.o .h))) 0 0)) .e)) none .e) none (.n (.n .e none (.n .e (some (.pt (.o (.o (.i .h))) 0 0)) .e)) none .e)) : T D) _
        (repeat' first | exact Rel.e | refine Rel.some ?_ ?_ ?_ | refine Rel.none ?_ ?_ | refine Rel.ee ?_ ?_)
        all_goals show Fz bK _ _ _
        all_goals first | exact .kpt bK11 | exact .kpt bK12
      · show Rel _ _ ((.n (.n (.n .e none (.n .e (some (seC8 w)) .e)) none (.n (.n .e (some (.map [])) .e) none .e)) none (.n .e none (.n (.n .e (some (lk5C f t W E)) .e) none .e))) : T C) _
        (repeat' first | exact Rel.e | refine Rel.some ?_ ?_ ?_ | refine Rel.none ?_ ?_ | refine Rel.ee ?_ ?_)
        all_goals first
          | exact ⟨bK10, ShC.map rfl (fun k e e' h _ => by cases h)⟩
          | exact ⟨bK11, lk5_sh (Fz.wholeW (cs := (flat8 W).map fun d => Cell.o d 0) (cur := 1) nK8 rfl (by rw [rows_length]; exact hpW.symm) (fun r hr => by obtain ⟨x, _, rfl⟩ := List.mem_map.1 hr; rfl) (by rw [rows8_flat]) (pu_w8 W)) (Fz.wholeW (cs := (flat8 E).map fun d => Cell.o d 0) (cur := 1) nK9 rfl (by rw [rows_length]; exact hpE.symm) (fun r hr => by obtain ⟨x, _, rfl⟩ := List.mem_map.1 hr; rfl) (by rw [rows8_flat]) (pu_w8 E))⟩
          | exact ⟨bK12, ShC.same (fun c hc => by
              obtain ⟨d, hd, rfl⟩ := List.mem_map.1 (show c ∈ (w8 w).map (fun d => Cell.o d 0) from hc)
              exact .pu (PuL_iff.1 (w8_pu w) d hd))⟩
    repeat' first | ((first | with_reducible apply WB.tt | with_reducible apply WB.ff | refine Rn.seq ?_ | refine Rn.reg ?_ | refine Rn.drw ?_ | refine Rn.blk ?_ | refine Rn.skip ?_ | refine Rn.ret ?_ | refine Rn.exit ?_ | refine Rn.cond rfl ?_ | refine And.intro (InR.i64 (by omega) (by omega)) ?_ | refine And.intro (show _ ≠ (0 : Int) by omega) ?_ | refine WIx.intsN (by omega) ?_ | refine WIx.rowsN (by omega) ?_) <;> conv => whnf)
    refine WCall.oneM cN rfl (lkD_pu f t W E) (w8_pu w) (fun e he => by cases he) (kD_pu f t M') trivial rfl rfl (show _ < _ by simp [Pos.nat]) rfl rfl ?_; conv => whnf
    repeat' first | ((first | with_reducible apply WB.tt | with_reducible apply WB.ff | refine Rn.seq ?_ | refine Rn.reg ?_ | refine Rn.drw ?_ | refine Rn.blk ?_ | refine Rn.skip ?_ | refine Rn.ret ?_ | refine Rn.exit ?_ | refine Rn.cond rfl ?_ | refine And.intro (InR.i64 (by omega) (by omega)) ?_ | refine And.intro (show _ ≠ (0 : Int) by omega) ?_ | refine WIx.intsN (by omega) ?_ | refine WIx.rowsN (by omega) ?_) <;> conv => whnf)
    exact Fin.two (.inr rfl) rfl rfl (.pu trivial) (.pu trivial)
  · rw [if_neg hE] at cS
    have hlN : looksN l cs wr off f t = 0 := by unfold looksN; rw [if_neg hE]
    rw [hlN]
    generalize startE l cs wr off f t = e at *
    refine PureF.run fn43 (by simp) (by simp [PuL, PuE, Pu, pu_ints, pu_cnts]) ?_; conv => whnf
    repeat' first | ((first | with_reducible apply WB.tt | with_reducible apply WB.ff | refine Rn.seq ?_ | refine Rn.reg ?_ | refine Rn.drw ?_ | refine Rn.blk ?_ | refine Rn.skip ?_ | refine Rn.ret ?_ | refine Rn.exit ?_ | refine Rn.cond rfl ?_ | refine And.intro (InR.i64 (by omega) (by omega)) ?_ | refine And.intro (show _ ≠ (0 : Int) by omega) ?_ | refine WIx.intsN (by omega) ?_ | refine WIx.rowsN (by omega) ?_ | refine WCall.pure (cS) ?_ | with_reducible refine WB.decT (by first | with_reducible rfl | assumption | omega | exact ⟨rfl, rfl⟩) ?_ | with_reducible refine WB.decF (by first | assumption | omega) ?_ | with_reducible refine WB.ndT (by first | with_reducible rfl | assumption | omega | exact ⟨rfl, rfl⟩) ?_ | with_reducible refine WB.ndF (by first | assumption | omega) ?_ | with_reducible refine WB.nt ?_ | with_reducible refine WB.nf ?_ | with_reducible refine WB.dec (fun h => ?_) (fun h => ?_) | with_reducible refine WB.ndec (fun h => ?_) (fun h => ?_) | refine WB.mk (fun h => ?_) (fun h => ?_)) <;> conv => whnf)
    exact Fin.two (.inr rfl) rfl rfl (.pu trivial) (.pu trivial)
end Go.Ev
