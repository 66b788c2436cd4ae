import Derived.Test.YtmlpgfmbhpefmaaEvKr
set_option linter.all false
namespace Go.Ev
open Go.Proofs
set_option maxRecDepth 100000
theorem ShrB.of {B : Pos → Prop} {z z' : X} (hs : Rel (RS B z.ob) (fun p => p) z'.sl z.sl) (ho : Rel (fun id c c' => B id ∧ ShC B z.ob c c') (fun p => p) z'.ob z.ob) (l : z.lg = none) (l' : z'.lg = none) : ShrB B z z' :=
  ⟨fun s d' h => hs s d' h, fun id c' h => by
    obtain ⟨c, h1, h2, h3⟩ := ho id c' h
    exact ⟨h2, c, h1, h3⟩, l, l'⟩
theorem Rel.ee {α : Type} {R : Pos → α → α → Prop} {g : Pos → Pos} {l r : T α} (hl : Rel R (fun p => g (.o p)) l .e) (hr : Rel R (fun p => g (.i p)) r .e) : Rel R g (.n l Option.none r) .e := fun p x h => by
  cases p with
  | h => rw [T.get_h] at h; cases h
  | o p => obtain ⟨y, h1, _⟩ := hl p x h; rw [T.get_e] at h1; cases h1
  | i p => obtain ⟨y, h1, _⟩ := hr p x h; rw [T.get_e] at h1; cases h1
theorem Fz.grown {B : Pos → Prop} {ob : T C} {id : Pos} {s1 s2 cur n z : Nat} {ds r : List D} {cs : List Cell} {es : List (List D)} (hB : ¬ B id) (h : ob.get id = some (.cells false cs cur)) (hc : cs = (ds.map fun d => Cell.o d s1) ++ r.map fun d => Cell.o d s2) (hs : s1 ≤ s2) (he : es.flatten = ds ++ r) (hn : n = es.length) (hz : ∀ x ∈ es, x.length = z) (hp : PuE es) : Fz B ob (.sl id 0 n s2 z) (.lst z es) := by
  subst hc
  refine .sl hB h hn.symm hz (fun k d hk => ?_) (FzE.of hp)
  rw [he] at hk
  rw [List.drop_zero]
  by_cases hlt : k < ds.length
  · rw [List.getElem?_append_left hlt] at hk
    refine ⟨.o d s1, ?_, Nat.ble_eq_true_of_le hs, rfl⟩
    rw [List.getElem?_append_left (by simpa using hlt), List.getElem?_map, hk]; rfl
  · rw [List.getElem?_append_right (by omega)] at hk
    refine ⟨.o d s2, ?_, Nat.ble_eq_true_of_le (Nat.le_refl _), rfl⟩
    rw [List.getElem?_append_right (by simp; omega), List.length_map, List.getElem?_map, hk]; rfl
theorem growK_emp {β : Type} (new : List D) (k : List Cell → Option β) : growK 0 1 new 0 [] k = k (new.map fun d => Cell.o d 1) := by
  show shutK (Nat.pred 1) (dropC (List.length new) []) (fun l => consK (fun d => .o d 1) new l k) = _
  rw [dropC_eq, shutK_eq, consK_eq]
  simp
def tD (x : List Int) : List D := [.lst 1 (ints x)]
theorem pu_tD (x : List Int) : PuL (tD x) := by simp [tD, PuL, Pu, pu_ints]
section
variable (l : List Int) (cs : List Cnt) (wr off : Int)
def rowC : C := .cells false [.o (.lst 1 (ints l)) 0, .o (.lst 3 (rows cntD cs)) 0, .o (.i .i64 wr) 0, .o (.i .i64 off) 0] 1
theorem rowC_kp (n : Nat) : KpC n (rowC l cs wr off) := by
  refine KpL.all ?_
  simp [rowC, KpL, Kp, Cell.d, Pu, pu_ints, pu_cnts]
theorem rowC_sh {B : Pos → Prop} {ob : T C} : ShC B ob (rowC l cs wr off) (rowC l cs wr off) := ShC.same (ShC.cn (.pu (pu_ints _)) (ShC.cn (.pu (pu_cnts _)) (ShC.cn (.pu trivial) (ShC.cn (.pu trivial) ShC.nl))))
theorem pu_tR (L : List (List Int)) : PuE (rows tD L) := pu_rows pu_tD L
end
end Go.Ev

namespace Go.Ev
open Go.Proofs
set_option maxRecDepth 100000
section
variable {sl : T D} {ob : T C} {nx : Pos} {K : X → Prop}
theorem WSt.eqr2 {lg : Option (T Bool)} {d : Pos} {x y : RX} {a b a' b' : Int} (h1 : opd sl x = some (.ag [.i .i64 a, .i .i64 b])) (h2 : opd sl y = some (.ag [.i .i64 a', .i .i64 b'])) (w1 : wfB .i64 a = true) (w2 : wfB .i64 b = true) (w3 : wfB .i64 a' = true) (w4 : wfB .i64 b' = true) (k : wOut sl ob nx lg d K (.b (decide (a = a' ∧ b = b')))) :
    WSt (.eqr d false [.i .i64, .i .i64] x y) ⟨sl, ob, nx, lg⟩ K := by
  obtain ⟨k1, k2⟩ := wOut_ok k
  refine ⟨_, ?_, k2⟩
  show s_eqr _ _ _ x y sl ob nx lg = _
  unfold s_eqr
  rw [h1, h2]
  have e : eqR [.i .i64, .i .i64] (.ag [.i .i64 a, .i .i64 b]) (.ag [.i .i64 a', .i .i64 b']) = some (decide (a = a' ∧ b = b')) := by
    have hk : kEq .i64 .i64 = true := rfl
    simp only [eqR, eqL, eqC, hk, w1, w2, w3, w4, Bool.and_self, cond_true, Option.some.injEq]
    simp only [eqB_eq, Bool.decide_and]
    have hb : ∀ a b : Int, (a == b) = decide (a = b) := fun a b => by by_cases h : a = b <;> simp [h]
    simp only [hb, Bool.and_true]
  simp only [e, cond_false, boolK_eq]
  exact k1
end
theorem wf_small {n : Int} (h1 : -1000000000000000000 ≤ n) (h2 : n ≤ 1000000000000000000) : wfB .i64 n = true := by
  cases n with
  | ofNat m =>
    have h2 : (m : Int) ≤ 1000000000000000000 := h2
    exact Nat.ble_eq_true_of_le (by simp only [imax]; omega)
  | negSucc m =>
    have h1 : -1000000000000000000 ≤ Int.negSucc m := h1
    show (IntKind.signed .i64 && Nat.ble m (imax .i64)) = true
    rw [show IntKind.signed .i64 = true from rfl, Bool.true_and]
    exact Nat.ble_eq_true_of_le (by simp only [imax]; omega)
def th3 : Pos := .i .h
def sl3 : List (List Int) → D
  | [] => .ns
  | _ :: s => .sl th3 0 (s.length + 1) s.length 1
def nx3 : List (List Int) → Pos
  | [] => .o .h
  | _ :: _ => .o (.o .h)
def fitR (l : List Int) (cs : List Cnt) (wr off : Int) (t : List Int) : Bool := isTruthR l t && inB (wrongR cs off t) 0 wr
def truR (l : List Int) (cs : List Cnt) (wr off : Int) : List (List Int) := (allR l).filter (fitR l cs wr off)
section
variable (l : List Int) (cs : List Cnt) (wr off : Int)
end
theorem allR_len (l : List Int) (hl : l.length ≤ 9) : (allR l).length ≤ 512 := by
  have h1 := foldA_len l [[]]
  have h2 : 2 ^ l.length ≤ 2 ^ 9 := Nat.pow_le_pow_right (by omega) hl
  simp only [List.length_singleton, Nat.mul_one] at h1
  unfold allR
  omega
end Go.Ev

namespace Go.Ev
open Go.Proofs
set_option maxRecDepth 100000
def sureE (l : List Int) (cs : List Cnt) (wr off : Int) : Int := if faultR l cs wr off = 0 then (if truR l cs wr off = [] then 11 else 0) else faultR l cs wr off
theorem truR_len (l : List Int) (cs : List Cnt) (wr off : Int) (hl : l.length ≤ 9) : (truR l cs wr off).length ≤ 512 :=
  Nat.le_trans (List.length_filter_le _ _) (allR_len l hl)
def sumT (f t : Int) (x : List Int) : Int := sumP x f.toNat (t + 1 - f).toNat
def loR (f t : Int) (R : List (List Int)) : Int := R.foldl (fun m x => min m (sumT f t x)) 1099511627776
def hiR (f t : Int) (R : List (List Int)) : Int := R.foldl (fun m x => max m (sumT f t x)) (-1)
def compat (pre x : List Int) : Prop := x.length = pre.length ∧ ∀ i, i < pre.length → fitB pre x i = true
theorem foldA_compat : ∀ (l pre : List Int) (L : List (List Int)), (∀ x ∈ L, compat pre x) → ∀ x ∈ foldA l L, compat (pre ++ l) x
  | [], pre, L, h, x, hx => by rw [List.append_nil]; exact h x hx
  | a :: l, pre, L, h, x, hx => by
    have key : ∀ y ∈ stepL a L, compat (pre ++ [a]) y := fun y hy => by
      obtain ⟨z, hz, hy⟩ := List.mem_flatMap.1 hy
      obtain ⟨hz1, hz2⟩ := h z hz
      have hk : ∃ k : Int, (k = 0 ∨ k = 1) ∧ okB a k = true ∧ y = z ++ [k] := by
        simp only [exN, List.nil_append, List.mem_append] at hy
        rcases hy with hy | hy
        · cases h0 : okB a ((0 : Nat) : Int) <;> rw [h0] at hy <;> simp at hy
          exact ⟨0, .inl rfl, h0, hy⟩
        · cases h0 : okB a ((1 : Nat) : Int) <;> rw [h0] at hy <;> simp at hy
          exact ⟨1, .inr rfl, h0, hy⟩
      obtain ⟨k, hk, hok, rfl⟩ := hk
      refine ⟨by simp [hz1], fun i hi => ?_⟩
      by_cases hlt : i < pre.length
      · have := hz2 i hlt
        unfold fitB at *
        rw [show (z ++ [k]).getD i 0 = z.getD i 0 by simp [List.getD, List.getElem?_append_left (show i < z.length by omega)], show (pre ++ [a]).getD i 0 = pre.getD i 0 by simp [List.getD, List.getElem?_append_left hlt]]
        exact this
      · have hi' : i = pre.length := by simp at hi; omega
        subst hi'
        unfold fitB
        rw [show (z ++ [k]).getD pre.length 0 = k by rw [← hz1]; simp [List.getD], show (pre ++ [a]).getD pre.length 0 = a by simp [List.getD]]
        unfold okB at hok
        have : inB k 0 1 = true := by unfold inB; rw [decide_eq_true_iff]; omega
        rw [this, Bool.true_and]
        rw [Bool.or_eq_true] at hok ⊢
        rcases hok with hok | hok
        · exact .inl (by simpa using hok)
        · exact .inr (by have : a = k := by simpa using hok
                         simp [this])
    have := foldA_compat l (pre ++ [a]) (stepL a L) key x hx
    rwa [List.append_assoc] at this
theorem allR_truth (l : List Int) : ∀ t ∈ allR l, isTruthR l t = true := fun t ht => by
  obtain ⟨h1, h2⟩ := foldA_compat l [] [[]] (fun x hx => by
    rw [List.mem_singleton.1 hx]
    exact ⟨rfl, fun i hi => by cases hi⟩) t ht
  rw [List.nil_append] at h1 h2
  unfold isTruthR
  rw [Bool.and_eq_true, decide_eq_true_iff, List.all_eq_true]
  exact ⟨h1, fun i hi => h2 i (by have := List.mem_range.1 hi; omega)⟩
theorem truR_eq (l : List Int) (cs : List Cnt) (wr off : Int) (hl : l.length ≤ 9) : truR l cs wr off = (truthsF l cs wr off).map (fun c => (lst9 c).take l.length) := by
  unfold truR truthsF
  rw [allR_exts l hl, List.filter_map]
  congr 1
  refine List.filter_congr fun c hc => ?_
  have ht := allR_truth l ((lst9 c).take l.length) (by rw [allR_exts l hl]; exact List.mem_map.2 ⟨c, hc, rfl⟩)
  show fitR l cs wr off ((lst9 c).take l.length) = ownB l.length cs wr off c
  unfold fitR ownB
  rw [ht, Bool.true_and, own_fits]
theorem truR_mem {l : List Int} {cs : List Cnt} {wr off : Int} : ∀ x ∈ truR l cs wr off, x.length = l.length ∧ Bits x := fun x hx =>
  truth_bits (allR_truth l x (List.mem_filter.1 hx).1)
theorem foldmin_first : ∀ {L : List Int} {B : Int}, L ≠ [] → (∀ x ∈ L, x ≤ B) → minL (L.getD 0 0) L = L.foldl min B
  | a :: L, B, _, h => by
    unfold minL
    show List.foldl min (min a a) L = List.foldl min (min B a) L
    have := h a (by simp)
    rw [show min a a = a by omega, show min B a = a by omega]
theorem foldmax_first : ∀ {L : List Int} {B : Int}, L ≠ [] → (∀ x ∈ L, B ≤ x) → maxL (L.getD 0 0) L = L.foldl max B
  | a :: L, B, _, h => by
    unfold maxL
    show List.foldl max (max a a) L = List.foldl max (max B a) L
    have := h a (by simp)
    rw [show max a a = a by omega, show max B a = a by omega]
theorem chL_eq (l : List Int) (cs : List Cnt) (wr off f t : Int) (hl : l.length ≤ 9) (h0 : 0 ≤ f) (h1 : f ≤ t) (h2 : t < l.length) : chL l cs wr off f t = (truR l cs wr off).map (sumT f t) := by
  rw [truR_eq l cs wr off hl, List.map_map]
  unfold chL
  refine List.map_congr_left fun c _ => ?_
  show sumP (lst9 c) f.toNat (t + 1 - f).toNat = sumP ((lst9 c).take l.length) f.toNat (t + 1 - f).toNat
  rw [sumP_take (by omega)]
theorem sumT_bd {l : List Int} {cs : List Cnt} {wr off f t : Int} (hl : l.length ≤ 9) (h0 : 0 ≤ f) (h1 : f ≤ t) (h2 : t < l.length) : ∀ x ∈ (truR l cs wr off).map (sumT f t), 0 ≤ x ∧ x ≤ 9 := fun x hx => by
  obtain ⟨y, hy, rfl⟩ := List.mem_map.1 hx
  obtain ⟨q1, q2⟩ := truR_mem y hy
  have := sumP_bd q2 f.toNat (t + 1 - f).toNat (by omega)
  unfold sumT
  omega
theorem ch_ref (l : List Int) (cs : List Cnt) (wr off f t : Int) (hE : startE l cs wr off f t = 0) : chLo l cs wr off f t = loR f t (truR l cs wr off) ∧ chHi l cs wr off f t = hiR f t (truR l cs wr off) := by
  obtain ⟨hF, q1, q2, q3, q4⟩ := startE0 hE
  obtain ⟨f1, f2, f3, f4⟩ := fault0 hF
  have hne : (truR l cs wr off).map (sumT f t) ≠ [] := by
    rw [truR_eq l cs wr off f2]
    simpa using q4
  have hb := sumT_bd (cs := cs) (wr := wr) (off := off) f2 q1 q2 q3
  unfold chLo chHi
  rw [if_pos hE, if_pos hE, chL_eq l cs wr off f t f2 q1 q2 q3]
  constructor
  · rw [foldmin_first hne (fun x hx => by have := (hb x hx).2; show x ≤ 1099511627776; omega), List.foldl_map]; rfl
  · rw [foldmax_first hne (fun x hx => by have := (hb x hx).1; show -1 ≤ x; omega), List.foldl_map]; rfl
theorem foldmin_mem : ∀ {L : List Int} {a : Int}, L.foldl min a = a ∨ L.foldl min a ∈ L
  | [], a => .inl rfl
  | b :: L, a => by
    show List.foldl min (min a b) L = a ∨ _
    rcases foldmin_mem (L := L) (a := min a b) with h | h
    · have : min a b = a ∨ min a b = b := by omega
      rcases this with e | e
      · exact .inl (by rw [h, e])
      · exact .inr (by show List.foldl min (min a b) L ∈ _; rw [h, e]; simp)
    · exact .inr (List.mem_cons_of_mem _ h)
theorem foldmax_mem : ∀ {L : List Int} {a : Int}, L.foldl max a = a ∨ L.foldl max a ∈ L
  | [], a => .inl rfl
  | b :: L, a => by
    show List.foldl max (max a b) L = a ∨ _
    rcases foldmax_mem (L := L) (a := max a b) with h | h
    · have : max a b = a ∨ max a b = b := by omega
      rcases this with e | e
      · exact .inl (by rw [h, e])
      · exact .inr (by show List.foldl max (max a b) L ∈ _; rw [h, e]; simp)
    · exact .inr (List.mem_cons_of_mem _ h)
end Go.Ev
