import Derived.Test.YtmlpgfmbhpefmaaEvKr
set_option linter.all false
namespace Go.Ev
open Go.Proofs
set_option maxRecDepth 100000
theorem ShrB.of {B : Pos → Prop} {z z' : X} (hs : Rel (RS B z.ob) (fun p => p) z'.sl z.sl) (ho : Rel (fun id c c' => B id ∧ ShC B z.ob c c') (fun p => p) z'.ob z.ob) (l : z.lg = none) (l' : z'.lg = none) : ShrB B z z' :=
  ⟨fun s d' h => hs s d' h, fun id c' h => by
    obtain ⟨c, h1, h2, h3⟩ := ho id c' h
    exact ⟨h2, c, h1, h3⟩, l, l'⟩
theorem Rel.ee {α : Type} {R : Pos → α → α → Prop} {g : Pos → Pos} {l r : T α} (hl : Rel R (fun p => g (.o p)) l .e) (hr : Rel R (fun p => g (.i p)) r .e) : Rel R g (.n l Option.none r) .e := fun p x h => by
  cases p with
  | h => rw [T.get_h] at h; cases h
  | o p => obtain ⟨y, h1, _⟩ := hl p x h; rw [T.get_e] at h1; cases h1
  | i p => obtain ⟨y, h1, _⟩ := hr p x h; rw [T.get_e] at h1; cases h1
theorem Fz.grown {B : Pos → Prop} {ob : T C} {id : Pos} {s1 s2 cur n z : Nat} {ds r : List D} {cs : List Cell} {es : List (List D)} (hB : ¬ B id) (h : ob.get id = some (.cells false cs cur)) (hc : cs = (ds.map fun d => Cell.o d s1) ++ r.map fun d => Cell.o d s2) (hs : s1 ≤ s2) (he : es.flatten = ds ++ r) (hn : n = es.length) (hz : ∀ x ∈ es, x.length = z) (hp : PuE es) : Fz B ob (.sl id 0 n s2 z) (.lst z es) := by
  subst hc
  refine .sl hB h hn.symm hz (fun k d hk => ?_) (FzE.of hp)
  rw [he] at hk
  rw [List.drop_zero]
  by_cases hlt : k < ds.length
  · rw [List.getElem?_append_left hlt] at hk
    refine ⟨.o d s1, ?_, Nat.ble_eq_true_of_le hs, rfl⟩
    rw [List.getElem?_append_left (by simpa using hlt), List.getElem?_map, hk]; rfl
  · rw [List.getElem?_append_right (by omega)] at hk
    refine ⟨.o d s2, ?_, Nat.ble_eq_true_of_le (Nat.le_refl _), rfl⟩
    rw [List.getElem?_append_right (by simp; omega), List.length_map, List.getElem?_map, hk]; rfl
theorem growK_emp {β : Type} (new : List D) (k : List Cell → Option β) : growK 0 1 new 0 [] k = k (new.map fun d => Cell.o d 1) := by
  show shutK (Nat.pred 1) (dropC (List.length new) []) (fun l => consK (fun d => .o d 1) new l k) = _
  rw [dropC_eq, shutK_eq, consK_eq]
  simp
theorem WSt.app_emp {sl : T D} {ob : T C} {nx : Pos} {K : X → Prop} {d id : Pos} {z : Nat} {x y : RX} {es : List (List D)} (hx : opd sl x = some (.sl id 0 0 0 z)) (hox : ob.get id = some (.cells false [] 1)) (hy : opd sl y = some (.lst z es)) (hz : ∀ r ∈ es, r.length = z) (hlen : es.length ≤ 2147483648)
    (h : ∀ st, T.setK id (.cells false (es.flatten.map fun d => Cell.o d st) (st + 1)) ob fun ob => wOut sl ob nx none d K (.sl id 0 es.length st z)) : WSt (.app d z x y) ⟨sl, ob, nx, none⟩ K := by
  have hfl : es.flatten.length = es.length * z := by
    clear hlen hy h
    induction es with
    | nil => simp
    | cons r es ih => simp [ih (fun r h => hz r (by simp [h])), hz r (by simp), Nat.add_mul]; omega
  have hb : (Nat.beq z z && Nat.beq (List.length (List.flatten es)) (Nat.mul (List.length es) z)) = true := by
    rw [hfl]; simp
  cases hk : es.length with
  | zero =>
    have he : es = [] := List.length_eq_zero_iff.1 hk
    subst he
    have h0 := h 0
    rw [T.setK_eq] at h0
    have h0 : wOut sl (T.set id (C.cells false [] 1) ob) nx none d K (D.sl id 0 0 0 z) := h0
    rw [T.set_get hox] at h0
    obtain ⟨h2, h3⟩ := wOut_ok h0
    refine ⟨_, ?_, h3⟩
    show s_app d z x y sl ob nx none = _
    unfold s_app
    rw [hx, hy]
    have hb : Nat.beq (List.length (List.flatten ([] : List (List D)))) (Nat.mul 0 z) = true := by simp
    simp only [srcK, hb, cond_true, Bool.and_self, logO, List.length_nil, logR, hox, Nat.beq_refl]
    exact h2
  | succ k =>
    have h1 := h 1
    rw [T.setK_eq] at h1
    obtain ⟨h2, h3⟩ := wOut_ok h1
    refine ⟨_, ?_, h3⟩
    show s_app d z x y sl ob nx none = _
    unfold s_app
    rw [hx, hy]
    rw [hk] at hlen h2 hb
    have hle : Nat.ble (Nat.add 0 (Nat.succ k)) 2147483648 = true := Nat.ble_eq_true_of_le (by simpa using hlen)
    have hb : Nat.beq (List.length (List.flatten es)) (Nat.mul (k + 1) z) = true := by rw [hfl, hk]; simp
    have hm : Nat.add 0 (Nat.mul 0 z) = 0 := by show 0 + 0 * z = 0; simp
    simp only [srcK, hk, hb, cond_true, logO, Nat.beq_refl, Bool.true_and, hle, hox, hm, growK_emp, natK_eq, objOutK, logW, T.setK_eq]
    have e1 : Nat.add 0 (Nat.succ k) = k + 1 := by show 0 + (k + 1) = k + 1; omega
    rw [e1]
    exact h2
theorem ShC.grownF {B : Pos → Prop} {ob : T C} {ds : List D} {d d' : D} {st cur c : Nat} (h : st ≤ cur) (hp : PuL ds) (hf : Fz B ob d d') : ShC B ob (.cells false ((ds.map fun d => Cell.o d st) ++ [Cell.o d cur]) c) (.cells false ((ds ++ [d']).map fun d => Cell.o d cur) c) := by
  refine .cells fun k c' hc => ?_
  rw [List.getElem?_map] at hc
  by_cases hlt : k < ds.length
  · rw [List.getElem?_append_left hlt] at hc
    cases hd : ds[k]? with
    | none => rw [hd] at hc; cases hc
    | some e =>
      rw [hd] at hc
      cases hc
      refine ⟨.o e st, by rw [List.getElem?_append_left (by simpa using hlt), List.getElem?_map, hd]; rfl, fun s hs => ?_, .pu (PuL_iff.1 hp e (List.mem_of_getElem? hd))⟩
      have hs : Nat.ble cur s = true := hs
      exact Nat.ble_eq_true_of_le (Nat.le_trans h (Nat.le_of_ble_eq_true hs))
  · rw [List.getElem?_append_right (by omega)] at hc
    have hk : k - ds.length = 0 := by
      cases hk : k - ds.length with
      | zero => rfl
      | succ j => rw [hk] at hc; simp at hc
    rw [hk] at hc
    cases hc
    exact ⟨.o d cur, by rw [List.getElem?_append_right (by simp; omega), List.length_map, hk]; rfl, fun s hs => hs, hf⟩
def tD (x : List Int) : List D := [.lst 1 (ints x)]
def tDs (L : List (List Int)) : List D := L.map fun x => D.lst 1 (ints x)
theorem pu_tD (x : List Int) : PuL (tD x) := by simp [tD, PuL, Pu, pu_ints]
theorem pu_tDs (L : List (List Int)) : PuL (tDs L) := PuL_iff.2 fun d hd => by
  obtain ⟨x, _, rfl⟩ := List.mem_map.1 hd
  simp [Pu, pu_ints]
theorem tD_one (L : List (List Int)) : ∀ r ∈ rows tD L, r.length = 1 := fun r hr => by
  obtain ⟨x, _, rfl⟩ := List.mem_map.1 hr; rfl
theorem tD_flat (L : List (List Int)) : (rows tD L).flatten = tDs L := by
  induction L with
  | nil => rfl
  | cons a L ih => simp only [rows, tDs, List.map_cons, List.flatten_cons] at *; rw [ih]; rfl
theorem ints_app (x : List Int) (n : Int) : ints (x ++ [n]) = ints x ++ [[D.i .i64 n]] := by simp [ints]
def fv5 : Pos := .i (.o .h)
def sl5 : List (List Int) → D
  | [] => .ns
  | _ :: s => .sl fv5 0 (s.length + 1) s.length 1
def bl5 : List (List Int) → Option C
  | [] => none
  | a :: s => some (.cells false ((tDs (a :: s)).map fun d => Cell.o d s.length) (s.length + 1))
def nx5 : List (List Int) → Pos
  | [] => .o .h
  | _ :: _ => .o (.i .h)
def obA (row : C) (v : Option C) : T C := .n .e (some row) (.n (.n .e v .e) none .e)
theorem sl5_kp (A : List (List Int)) : Kp (nx5 A).nat (sl5 A) := by
  cases A <;> simp [sl5, nx5, Kp, fv5, Pos.nat, Pu]
theorem nx5_le (A B : List (List Int)) : (nx5 A).nat ≤ (nx5 (A ++ B)).nat := by
  cases A with
  | nil => cases B <;> simp [nx5, Pos.nat]
  | cons a A => simp [nx5]
theorem nx5_two (A : List (List Int)) : 2 ≤ (nx5 A).nat := by cases A <;> simp [nx5, Pos.nat]
theorem tDs_kp (n st : Nat) (L : List (List Int)) : ∀ c ∈ (tDs L).map (fun d => Cell.o d st), Kp n c.d := fun c hc => by
  obtain ⟨d, hd, rfl⟩ := List.mem_map.1 hc
  obtain ⟨x, _, rfl⟩ := List.mem_map.1 hd
  simp [Kp, Pu, Cell.d, pu_ints]
theorem obA_kp {row : C} (hrow : ∀ n, KpC n row) (A : List (List Int)) : KpO (nx5 A).nat (obA row (bl5 A)) := by
  cases A with
  | nil =>
    show TAll (fun id c => id.nat < 2 ∧ KpC 2 c) _
    unfold obA bl5
    refine TAll.some TAll.e ⟨by simp [Pos.nat], hrow _⟩ (TAll.none (TAll.none TAll.e TAll.e) TAll.e)
  | cons a s =>
    show TAll (fun id c => id.nat < 6 ∧ KpC 6 c) _
    unfold obA bl5
    refine TAll.some TAll.e ⟨by simp [Pos.nat], hrow _⟩ (TAll.none (TAll.some TAll.e ⟨by simp [Pos.nat], tDs_kp _ _ _⟩ TAll.e) TAll.e)
theorem bl5_snoc (a : List Int) (s : List (List Int)) (x : List Int) : bl5 (a :: (s ++ [x])) = some (.cells false ((tDs (a :: s) ++ [D.lst 1 (ints x)]).map fun d => Cell.o d (s.length + 1)) (s.length + 1 + 1)) := by
  simp [bl5, tDs]
theorem sl5_snoc (a : List Int) (s : List (List Int)) (x : List Int) : sl5 (a :: (s ++ [x])) = .sl fv5 0 (s.length + 1 + 1) (s.length + 1) 1 := by
  simp [sl5]
section
variable (l : List Int) (cs : List Cnt) (wr off : Int)
def rowC : C := .cells false [.o (.lst 1 (ints l)) 0, .o (.lst 3 (rows cntD cs)) 0, .o (.i .i64 wr) 0, .o (.i .i64 off) 0] 1
theorem rowC_kp (n : Nat) : KpC n (rowC l cs wr off) := by
  refine KpL.all ?_
  simp [rowC, KpL, Kp, Cell.d, Pu, pu_ints, pu_cnts]
theorem rowC_sh {B : Pos → Prop} {ob : T C} : ShC B ob (rowC l cs wr off) (rowC l cs wr off) := ShC.same (ShC.cn (.pu (pu_ints _)) (ShC.cn (.pu (pu_cnts _)) (ShC.cn (.pu trivial) (ShC.cn (.pu trivial) ShC.nl))))
def alS (L : List (List Int)) (i : Nat) : X := ⟨(.n (.n (.n .e (some (.lst 1 (rows tD L))) .e) (some (.pt .h 0 0)) .e) none (.n (.n .e (some (.i .i64 (i : Int))) .e) none .e)), obA (rowC l cs wr off) none, .o .h, none⟩
def alS2 (L : List (List Int)) (i k : Nat) (A : List (List Int)) : X := ⟨(.n (.n (.n .e (some (.lst 1 (rows tD L))) .e) (some (.pt .h 0 0)) (.n .e (some (sl5 A)) .e)) none (.n (.n .e (some (.i .i64 (i : Int))) .e) none (.n .e (some (.i .i64 (k : Int))) .e))), obA (rowC l cs wr off) (bl5 A), nx5 A, none⟩
def alS3 (L : List (List Int)) (i k n : Nat) (A : List (List Int)) : X := ⟨(.n (.n (.n (.n .e (some (.i .i64 (n : Int))) .e) (some (.lst 1 (rows tD L))) .e) (some (.pt .h 0 0)) (.n .e (some (sl5 A)) .e)) none (.n (.n .e (some (.i .i64 (i : Int))) .e) none (.n .e (some (.i .i64 (k : Int))) .e))), obA (rowC l cs wr off) (bl5 A), nx5 A, none⟩
theorem pu_tR (L : List (List Int)) : PuE (rows tD L) := pu_rows pu_tD L
theorem alS2_kp (L : List (List Int)) (i k : Nat) (A : List (List Int)) : ∀ s d, (alS2 l cs wr off L i k A).sl.get s = some d → Kp (nx5 A).nat d := by
  have h2 := nx5_two A
  show TAll (fun _ d => Kp (nx5 A).nat d) _
  unfold alS2
  repeat' first | exact TAll.e | refine TAll.some ?_ ?_ ?_ | refine TAll.none ?_ ?_
  all_goals first | exact sl5_kp A | (simp [Kp, Pu, pu_tR, Pos.nat]; done) | (simp [Kp, Pos.nat]; omega)
theorem alS3_kp (L : List (List Int)) (i k n : Nat) (A : List (List Int)) : ∀ s d, (alS3 l cs wr off L i k n A).sl.get s = some d → Kp (nx5 A).nat d := by
  have h2 := nx5_two A
  show TAll (fun _ d => Kp (nx5 A).nat d) _
  unfold alS3
  repeat' first | exact TAll.e | refine TAll.some ?_ ?_ ?_ | refine TAll.none ?_ ?_
  all_goals first | exact sl5_kp A | (simp [Kp, Pu, pu_tR, Pos.nat]; done) | (simp [Kp, Pos.nat]; omega)
end
theorem foldA_mem : ∀ (l : List Int) (L : List (List Int)) (n : Nat), (∀ x ∈ L, x.length = n) → ∀ x ∈ foldA l L, x.length = n + l.length
  | [], L, n, h, x, hx => h x hx
  | a :: l, L, n, h, x, hx => by
    have := foldA_mem l (stepL a L) (n + 1) (fun y hy => by
      obtain ⟨z, hz, hy⟩ := List.mem_flatMap.1 hy
      have hz := h z hz
      simp only [exN, List.nil_append, List.mem_append] at hy
      rcases hy with hy | hy
      · cases h0 : okB a ((0 : Nat) : Int) <;> rw [h0] at hy <;> simp at hy
        subst hy; simp; omega
      · cases h0 : okB a ((1 : Nat) : Int) <;> rw [h0] at hy <;> simp at hy
        subst hy; simp; omega) x hx
    rw [this, List.length_cons]; omega
set_option maxHeartbeats 2000000 in
theorem c_All (l : List Int) (cs : List Cnt) (wr off : Int) (hl : l.length ≤ 9) : PureF Try.prog p60.ix [.ag [.lst 1 (ints l), .lst 3 (rows cntD cs), .i .i64 wr, .i .i64 off]] (.lst 1 (rows tD (allR l))) := by
  have e1 := ints_length l
  refine PureF.run fn59 (by simp) (by simp [PuL, PuE, Pu, pu_ints, pu_cnts]) ?_; conv => whnf
  refine Rn.seq ?_; conv => whnf
  refine Rn.reg ?_; conv => whnf
  refine Rn.seq ?_; conv => whnf
  refine Rn.shrink ?_ (fun e z h => h)
  refine Rn.reg ?_; conv => whnf
  refine ⟨⟨((.n (.n (.n .e (some (.lst 1 (rows tD [[]]))) .e) (some (.pt .h 0 0)) .e) none .e) : T D), obA (rowC l cs wr off) none, .o .h, none⟩, ?_, Nat.le_refl _, ?_⟩
  · refine Shr.of ?_ ?_ rfl rfl
    · show Rel _ _ ((.n (.n (.n .e (some (.lst 1 (rows tD [[]]))) .e) (some (.pt .h 0 0)) .e) none .e) : T D) _
      (repeat' first | exact Rel.e | refine Rel.some ?_ ?_ ?_ | refine Rel.none ?_ ?_ | refine Rel.ee ?_ ?_)
      all_goals show Fz _ _ _ _
      · exact .sl (es := [[.sl (.o .h) 0 0 0 1]]) (by simp [Pos.nat]) rfl rfl (by simp) (fun k d hk => by
          cases k with
          | zero => simp at hk; subst hk; exact ⟨_, rfl, rfl, rfl⟩
          | succ k => simp at hk) (.cons (.cons (.sl (es := []) (by simp [Pos.nat]) rfl rfl (by simp) (fun k d hk => by simp at hk) .nil) .nil) .nil)
      · exact .kpt (by simp [Pos.nat])
    · show Rel _ _ (T.n .e (some (rowC l cs wr off)) (.n (.n .e none .e) none .e)) _
      (repeat' first | exact Rel.e | refine Rel.some ?_ ?_ ?_ | refine Rel.none ?_ ?_ | refine Rel.ee ?_ ?_)
      exact RO'.of (by simp [Pos.nat]) (ShC.kp (rowC_kp l cs wr off _))
  conv => whnf
  repeat' first | ((with_reducible apply WB.tt); conv => whnf) | ((with_reducible apply WB.ff); conv => whnf) | (refine Rn.seq ?_; conv => whnf) | (refine Rn.reg ?_; conv => whnf) | (refine Rn.drw ?_; conv => whnf) | (refine Rn.blk ?_; conv => whnf) | (refine Rn.skip ?_; conv => whnf) | (refine Rn.ret ?_; conv => whnf) | (refine Rn.exit ?_; conv => whnf) | (refine Rn.cond rfl ?_; conv => whnf) | (refine And.intro (InR.i64 (by omega) (by omega)) ?_; conv => whnf) | (refine And.intro (show _ ≠ (0 : Int) by omega) ?_; conv => whnf) | (refine WIx.intsN (by omega) ?_; conv => whnf) | (refine WIx.rowsN (by omega) ?_; conv => whnf)
  refine Rn.loop (fun i : Nat => alS l cs wr off (foldA (l.take i) [[]]) i) (fun i => i ≤ l.length) (fun i => l.length - i) 0 ?_ ?_ ?_
  · refine X.le.mk ?_ (T.le_refl _) (Nat.le_refl _) rfl rfl
    show T.le ((.n (.n (.n .e (some (.lst 1 (rows tD [[]]))) .e) (some (.pt .h 0 0)) .e) none (.n (.n .e (some (.i .i64 (0 : Int))) .e) none .e)) : T D) _
    (repeat' first | exact T.le_e _ | refine T.le_some ?_ rfl ?_ | refine T.le_none ?_ ?_)
  · exact Nat.zero_le _
  intro i hi
  have hi : i ≤ l.length := hi
  conv => whnf
  repeat' first | ((with_reducible apply WB.tt); conv => whnf) | ((with_reducible apply WB.ff); conv => whnf) | (refine Rn.seq ?_; conv => whnf) | (refine Rn.reg ?_; conv => whnf) | (refine Rn.drw ?_; conv => whnf) | (refine Rn.blk ?_; conv => whnf) | (refine Rn.skip ?_; conv => whnf) | (refine Rn.ret ?_; conv => whnf) | (refine Rn.exit ?_; conv => whnf) | (refine Rn.cond rfl ?_; conv => whnf) | (refine And.intro (InR.i64 (by omega) (by omega)) ?_; conv => whnf) | (refine And.intro (show _ ≠ (0 : Int) by omega) ?_; conv => whnf) | (refine WIx.intsN (by omega) ?_; conv => whnf) | (refine WIx.rowsN (by omega) ?_; conv => whnf)
  refine WB.dec (fun h => ?_) (fun h => ?_) <;> conv => whnf
  · have hlt : i < l.length := by omega
    have hnx : foldA (l.take (i + 1)) [[]] = stepL (l.getD i 0) (foldA (l.take i) [[]]) := foldA_take l hlt [[]]
    have hlen : (foldA (l.take i) [[]]).length ≤ 512 := by
      have h1 := foldA_len (l.take i) [[]]
      have h2 : 2 ^ (l.take i).length ≤ 2 ^ 9 := Nat.pow_le_pow_right (by omega) (by rw [List.length_take]; omega)
      simp only [List.length_singleton, Nat.mul_one] at h1
      omega
    have hmem : ∀ x ∈ foldA (l.take i) [[]], x.length ≤ 9 := fun x hx => by
      have := foldA_mem (l.take i) [[]] 0 (by simp) x hx
      rw [this, List.length_take]; omega
    generalize hL : foldA (l.take i) [[]] = L at *
    repeat' first | ((with_reducible apply WB.tt); conv => whnf) | ((with_reducible apply WB.ff); conv => whnf) | (refine Rn.seq ?_; conv => whnf) | (refine Rn.reg ?_; conv => whnf) | (refine Rn.drw ?_; conv => whnf) | (refine Rn.blk ?_; conv => whnf) | (refine Rn.skip ?_; conv => whnf) | (refine Rn.ret ?_; conv => whnf) | (refine Rn.exit ?_; conv => whnf) | (refine Rn.cond rfl ?_; conv => whnf) | (refine And.intro (InR.i64 (by omega) (by omega)) ?_; conv => whnf) | (refine And.intro (show _ ≠ (0 : Int) by omega) ?_; conv => whnf) | (refine WIx.intsN (by omega) ?_; conv => whnf) | (refine WIx.rowsN (by omega) ?_; conv => whnf)
    have e2 := rows_length tD L
    have hall : (stepL (l.getD i 0) L).length ≤ 1024 := by have := stepL_len (l.getD i 0) L; omega
    refine Rn.loop (fun k : Nat => alS2 l cs wr off L i k (stepL (l.getD i 0) (L.take k))) (fun k => k ≤ L.length) (fun k => L.length - k) 0 ?_ ?_ ?_
    · refine X.le.mk ?_ (T.le_refl _) (Nat.le_refl _) rfl rfl
      show T.le ((.n (.n (.n .e (some (.lst 1 (rows tD L))) .e) (some (.pt .h 0 0)) (.n .e (some (.ns)) .e)) none (.n (.n .e (some (.i .i64 (i : Int))) .e) none (.n .e (some (.i .i64 (0 : Int))) .e))) : T D) _
      (repeat' first | exact T.le_e _ | refine T.le_some ?_ rfl ?_ | refine T.le_none ?_ ?_)
    · exact Nat.zero_le _
    intro k hk
    have hk : k ≤ L.length := hk
    conv => whnf
    repeat' first | ((with_reducible apply WB.tt); conv => whnf) | ((with_reducible apply WB.ff); conv => whnf) | (refine Rn.seq ?_; conv => whnf) | (refine Rn.reg ?_; conv => whnf) | (refine Rn.drw ?_; conv => whnf) | (refine Rn.blk ?_; conv => whnf) | (refine Rn.skip ?_; conv => whnf) | (refine Rn.ret ?_; conv => whnf) | (refine Rn.exit ?_; conv => whnf) | (refine Rn.cond rfl ?_; conv => whnf) | (refine And.intro (InR.i64 (by omega) (by omega)) ?_; conv => whnf) | (refine And.intro (show _ ≠ (0 : Int) by omega) ?_; conv => whnf) | (refine WIx.intsN (by omega) ?_; conv => whnf) | (refine WIx.rowsN (by omega) ?_; conv => whnf)
    refine WB.dec (fun h => ?_) (fun h => ?_) <;> conv => whnf
    · have hkl : k < L.length := by omega
      have hstep : stepL (l.getD i 0) (L.take (k + 1)) = stepL (l.getD i 0) (L.take k) ++ exN (l.getD i 0) (L.getD k default) 2 := stepL_take (l.getD i 0) L hkl
      have hx9 : (L.getD k default).length ≤ 9 := hmem _ (getD_mem hkl)
      have hA : (stepL (l.getD i 0) (L.take k)).length ≤ 1024 := by
        have q1 := stepL_len (l.getD i 0) (L.take k)
        have q2 : (L.take k).length ≤ L.length := List.length_take_le' _ _
        omega
      repeat' first | ((with_reducible apply WB.tt); conv => whnf) | ((with_reducible apply WB.ff); conv => whnf) | (refine Rn.seq ?_; conv => whnf) | (refine Rn.reg ?_; conv => whnf) | (refine Rn.drw ?_; conv => whnf) | (refine Rn.blk ?_; conv => whnf) | (refine Rn.skip ?_; conv => whnf) | (refine Rn.ret ?_; conv => whnf) | (refine Rn.exit ?_; conv => whnf) | (refine Rn.cond rfl ?_; conv => whnf) | (refine And.intro (InR.i64 (by omega) (by omega)) ?_; conv => whnf) | (refine And.intro (show _ ≠ (0 : Int) by omega) ?_; conv => whnf) | (refine WIx.intsN (by omega) ?_; conv => whnf) | (refine WIx.rowsN (by omega) ?_; conv => whnf)
      generalize hAA : stepL (l.getD i 0) (L.take k) = A at *
      refine Rn.loopB (fun n : Nat => alS3 l cs wr off L i k n (A ++ exN (l.getD i 0) (L.getD k default) n)) (fun n => n ≤ 2) (fun n => 2 - n) 0 ?_ ?_ ?_
      · rw [show A ++ exN (l.getD i 0) (L.getD k default) 0 = A from List.append_nil _]
        refine X.le.mk ?_ (T.le_refl _) (Nat.le_refl _) rfl rfl
        show T.le ((.n (.n (.n (.n .e (some (.i .i64 (0 : Int))) .e) (some (.lst 1 (rows tD L))) .e) (some (.pt .h 0 0)) (.n .e (some (sl5 A)) .e)) none (.n (.n .e (some (.i .i64 (i : Int))) .e) none (.n .e (some (.i .i64 (k : Int))) .e))) : T D) _
        (repeat' first | exact T.le_e _ | refine T.le_some ?_ rfl ?_ | refine T.le_none ?_ ?_)
      · exact Nat.zero_le _
      intro n hn
      have hn : n ≤ 2 := hn
      have hnext : A ++ exN (l.getD i 0) (L.getD k default) (n + 1) = (A ++ exN (l.getD i 0) (L.getD k default) n) ++ bif okB (l.getD i 0) (n : Int) then [(L.getD k default) ++ [(n : Int)]] else [] := by
        rw [List.append_assoc]; rfl
      have hBl : (A ++ exN (l.getD i 0) (L.getD k default) n).length ≤ 1026 := by
        have := exN_len (l.getD i 0) (L.getD k default) n
        rw [List.length_append]; omega
      have hB2 : n = 2 → A ++ exN (l.getD i 0) (L.getD k default) n = stepL (l.getD i 0) (L.take (k + 1)) := fun e => by rw [e, hstep]
      have hup : (nx5 A).nat ≤ (nx5 (A ++ exN (l.getD i 0) (L.getD k default) n)).nat := nx5_le A _
      generalize hBB : A ++ exN (l.getD i 0) (L.getD k default) n = B at *
      conv => whnf
      repeat' first | ((with_reducible apply WB.tt); conv => whnf) | ((with_reducible apply WB.ff); conv => whnf) | (refine Rn.seq ?_; conv => whnf) | (refine Rn.reg ?_; conv => whnf) | (refine Rn.drw ?_; conv => whnf) | (refine Rn.blk ?_; conv => whnf) | (refine Rn.skip ?_; conv => whnf) | (refine Rn.ret ?_; conv => whnf) | (refine Rn.exit ?_; conv => whnf) | (refine Rn.cond rfl ?_; conv => whnf) | (refine And.intro (InR.i64 (by omega) (by omega)) ?_; conv => whnf) | (refine And.intro (show _ ≠ (0 : Int) by omega) ?_; conv => whnf) | (refine WIx.intsN (by omega) ?_; conv => whnf) | (refine WIx.rowsN (by omega) ?_; conv => whnf)
      refine WB.dec (fun h => ?_) (fun h => ?_) <;> conv => whnf
      · cases B with
        | nil =>
          repeat' first | ((with_reducible apply WB.tt); conv => whnf) | ((with_reducible apply WB.ff); conv => whnf) | (refine Rn.seq ?_; conv => whnf) | (refine Rn.reg ?_; conv => whnf) | (refine Rn.drw ?_; conv => whnf) | (refine Rn.blk ?_; conv => whnf) | (refine Rn.skip ?_; conv => whnf) | (refine Rn.ret ?_; conv => whnf) | (refine Rn.exit ?_; conv => whnf) | (refine Rn.cond rfl ?_; conv => whnf) | (refine And.intro (InR.i64 (by omega) (by omega)) ?_; conv => whnf) | (refine And.intro (show _ ≠ (0 : Int) by omega) ?_; conv => whnf) | (refine WIx.intsN (by omega) ?_; conv => whnf) | (refine WIx.rowsN (by omega) ?_; conv => whnf) | ((with_reducible refine WB.dec (fun h => ?_) (fun h => ?_)) <;> conv => whnf) | ((with_reducible refine WB.ndec (fun h => ?_) (fun h => ?_)) <;> conv => whnf) | (refine WB.mk (fun h => ?_) (fun h => ?_) <;> conv => whnf)
          rotate_left 2
          focus
            have hok : okB (l.getD i 0) (n : Int) = false := by
              unfold okB
              rw [show (l.getD i 0 == 2) = false from by simpa using (by assumption : ¬ l.getD i 0 = 2), show (l.getD i 0 == (n : Int)) = false from by simpa using (by assumption : ¬ l.getD i 0 = (n : Int))]
              rfl
            rw [hok, cond_false, List.append_nil] at hnext
            refine AgainB.sh (n + 1) (by omega) (show n + 1 ≤ 2 by omega) ?_ ?_
            · show (nx5 (A ++ exN (l.getD i 0) (L.getD k default) n)).nat ≤ (nx5 (A ++ exN (l.getD i 0) (L.getD k default) (n + 1))).nat
              rw [hnext, hBB]; exact Nat.le_refl _
            · show Shr _ (alS3 l cs wr off L i k (n + 1) (A ++ exN (l.getD i 0) (L.getD k default) (n + 1)))
              rw [hnext]
              refine Shr.kp2 ?_ (alS3_kp l cs wr off L i k (n + 1) []) (T.le_refl _) (obA_kp (rowC_kp l cs wr off) [])
              show T.le ((.n (.n (.n (.n .e (some (.i .i64 ((n + 1 : Nat) : Int))) .e) (some (.lst 1 (rows tD L))) .e) (some (.pt .h 0 0)) (.n .e (some (.ns)) .e)) none (.n (.n .e (some (.i .i64 (i : Int))) .e) none (.n .e (some (.i .i64 (k : Int))) .e))) : T D) _
              (repeat' first | exact T.le_e _ | refine T.le_some ?_ rfl ?_ | refine T.le_none ?_ ?_)
          all_goals
            have hok : okB (l.getD i 0) (n : Int) = true := by
              unfold okB
              first
                | (rw [show (l.getD i 0 == 2) = true from by simpa using (by assumption : l.getD i 0 = 2)]; rfl)
                | (rw [show (l.getD i 0 == (n : Int)) = true from by simpa using (by assumption : l.getD i 0 = (n : Int)), Bool.or_true])
            rw [hok, cond_true, List.nil_append] at hnext
            refine WSt.app_emp rfl rfl rfl (ints_one _) (by rw [ints_length]; omega) (fun st => ?_); conv => whnf
            repeat' first | ((with_reducible apply WB.tt); conv => whnf) | ((with_reducible apply WB.ff); conv => whnf) | (refine Rn.seq ?_; conv => whnf) | (refine Rn.reg ?_; conv => whnf) | (refine Rn.drw ?_; conv => whnf) | (refine Rn.blk ?_; conv => whnf) | (refine Rn.skip ?_; conv => whnf) | (refine Rn.ret ?_; conv => whnf) | (refine Rn.exit ?_; conv => whnf) | (refine Rn.cond rfl ?_; conv => whnf) | (refine And.intro (InR.i64 (by omega) (by omega)) ?_; conv => whnf) | (refine And.intro (show _ ≠ (0 : Int) by omega) ?_; conv => whnf) | (refine WIx.intsN (by omega) ?_; conv => whnf) | (refine WIx.rowsN (by omega) ?_; conv => whnf)
            refine WSt.app_one (ds := (ints (L.getD k default)).flatten) (r := [D.i .i64 (n : Int)]) rfl rfl rfl rfl rfl rfl (by rw [ints_flatten]; simp [ints_length]) rfl rfl (by rw [ints_length]; omega) rfl ?_; conv => whnf
            repeat' first | ((with_reducible apply WB.tt); conv => whnf) | ((with_reducible apply WB.ff); conv => whnf) | (refine Rn.seq ?_; conv => whnf) | (refine Rn.reg ?_; conv => whnf) | (refine Rn.drw ?_; conv => whnf) | (refine Rn.blk ?_; conv => whnf) | (refine Rn.skip ?_; conv => whnf) | (refine Rn.ret ?_; conv => whnf) | (refine Rn.exit ?_; conv => whnf) | (refine Rn.cond rfl ?_; conv => whnf) | (refine And.intro (InR.i64 (by omega) (by omega)) ?_; conv => whnf) | (refine And.intro (show _ ≠ (0 : Int) by omega) ?_; conv => whnf) | (refine WIx.intsN (by omega) ?_; conv => whnf) | (refine WIx.rowsN (by omega) ?_; conv => whnf)
            refine WSt.app_first (r := [_]) rfl (.inl rfl) rfl rfl rfl rfl ?_; conv => whnf
            repeat' first | ((with_reducible apply WB.tt); conv => whnf) | ((with_reducible apply WB.ff); conv => whnf) | (refine Rn.seq ?_; conv => whnf) | (refine Rn.reg ?_; conv => whnf) | (refine Rn.drw ?_; conv => whnf) | (refine Rn.blk ?_; conv => whnf) | (refine Rn.skip ?_; conv => whnf) | (refine Rn.ret ?_; conv => whnf) | (refine Rn.exit ?_; conv => whnf) | (refine Rn.cond rfl ?_; conv => whnf) | (refine And.intro (InR.i64 (by omega) (by omega)) ?_; conv => whnf) | (refine And.intro (show _ ≠ (0 : Int) by omega) ?_; conv => whnf) | (refine WIx.intsN (by omega) ?_; conv => whnf) | (refine WIx.rowsN (by omega) ?_; conv => whnf)
            refine AgainB.to (n + 1) (fun id => id.nat < 2 ∨ id.nat = 5) (by omega) (show n + 1 ≤ 2 by omega) ?_ ?_ ?_ ?_
            · show (nx5 (A ++ exN (l.getD i 0) (L.getD k default) n)).nat ≤ (nx5 (A ++ exN (l.getD i 0) (L.getD k default) (n + 1))).nat
              rw [hnext, hBB]; simp [nx5, Pos.nat]
            · show ∀ id : Pos, id.nat < (nx5 (A ++ exN (l.getD i 0) (L.getD k default) n)).nat → id.nat < 2 ∨ id.nat = 5
              rw [hBB]
              exact fun id h => .inl h
            · show ∀ id : Pos, (id.nat < 2 ∨ id.nat = 5) → id.nat < (nx5 (A ++ exN (l.getD i 0) (L.getD k default) (n + 1))).nat
              rw [hnext]
              exact fun id h => by show id.nat < 6; omega
            · show ShrB _ _ (alS3 l cs wr off L i k (n + 1) (A ++ exN (l.getD i 0) (L.getD k default) (n + 1)))
              rw [hnext]
              refine ShrB.of ?_ ?_ rfl rfl
              · show Rel _ _ ((.n (.n (.n (.n .e (some (.i .i64 ((n + 1 : Nat) : Int))) .e) (some (.lst 1 (rows tD L))) .e) (some (.pt .h 0 0)) (.n .e (some (.sl fv5 0 1 0 1)) .e)) none (.n (.n .e (some (.i .i64 (i : Int))) .e) none (.n .e (some (.i .i64 (k : Int))) .e))) : T D) _
                (repeat' first | exact Rel.e | refine Rel.some ?_ ?_ ?_ | refine Rel.none ?_ ?_ | refine Rel.ee ?_ ?_)
                all_goals show Fz _ _ _ _
                all_goals first | exact .pu trivial | exact .ksl (.inr rfl) | exact .kpt (.inl (by simp [Pos.nat])) | exact .pu (pu_tR L)
              · show Rel _ _ (T.n .e (some (rowC l cs wr off)) (.n (.n .e (some (.cells false (([] ++ [D.lst 1 (ints ((L.getD k default) ++ [(n : Int)]))]).map fun d => Cell.o d 0) 1)) .e) none .e)) _
                (repeat' first | exact Rel.e | refine Rel.some ?_ ?_ ?_ | refine Rel.none ?_ ?_ | refine Rel.ee ?_ ?_)
                · exact ⟨.inl (by simp [Pos.nat]), rowC_sh l cs wr off⟩
                · refine ⟨.inr (by simp [Pos.nat]), ?_⟩
                  refine ShC.grownF (ds := []) (st := 0) (Nat.le_refl _) trivial ?_
                  exact Fz.grown (s1 := st) (s2 := st + 1) (ds := (ints (L.getD k default)).flatten) (r := [D.i .i64 (n : Int)]) (by simp [Pos.nat, nx5]) rfl rfl (by omega) (by rw [ints_app]; simp) (by rw [ints_app]; simp) (ints_one _) (pu_ints _)
        | cons y s =>
          repeat' first | ((with_reducible apply WB.tt); conv => whnf) | ((with_reducible apply WB.ff); conv => whnf) | (refine Rn.seq ?_; conv => whnf) | (refine Rn.reg ?_; conv => whnf) | (refine Rn.drw ?_; conv => whnf) | (refine Rn.blk ?_; conv => whnf) | (refine Rn.skip ?_; conv => whnf) | (refine Rn.ret ?_; conv => whnf) | (refine Rn.exit ?_; conv => whnf) | (refine Rn.cond rfl ?_; conv => whnf) | (refine And.intro (InR.i64 (by omega) (by omega)) ?_; conv => whnf) | (refine And.intro (show _ ≠ (0 : Int) by omega) ?_; conv => whnf) | (refine WIx.intsN (by omega) ?_; conv => whnf) | (refine WIx.rowsN (by omega) ?_; conv => whnf) | ((with_reducible refine WB.dec (fun h => ?_) (fun h => ?_)) <;> conv => whnf) | ((with_reducible refine WB.ndec (fun h => ?_) (fun h => ?_)) <;> conv => whnf) | (refine WB.mk (fun h => ?_) (fun h => ?_) <;> conv => whnf)
          rotate_left 2
          focus
            have hok : okB (l.getD i 0) (n : Int) = false := by
              unfold okB
              rw [show (l.getD i 0 == 2) = false from by simpa using (by assumption : ¬ l.getD i 0 = 2), show (l.getD i 0 == (n : Int)) = false from by simpa using (by assumption : ¬ l.getD i 0 = (n : Int))]
              rfl
            rw [hok, cond_false, List.append_nil] at hnext
            refine AgainB.sh (n + 1) (by omega) (show n + 1 ≤ 2 by omega) ?_ ?_
            · show (nx5 (A ++ exN (l.getD i 0) (L.getD k default) n)).nat ≤ (nx5 (A ++ exN (l.getD i 0) (L.getD k default) (n + 1))).nat
              rw [hnext, hBB]; exact Nat.le_refl _
            · show Shr _ (alS3 l cs wr off L i k (n + 1) (A ++ exN (l.getD i 0) (L.getD k default) (n + 1)))
              rw [hnext]
              refine Shr.kp2 ?_ (alS3_kp l cs wr off L i k (n + 1) (y :: s)) (T.le_refl _) (obA_kp (rowC_kp l cs wr off) (y :: s))
              show T.le ((.n (.n (.n (.n .e (some (.i .i64 ((n + 1 : Nat) : Int))) .e) (some (.lst 1 (rows tD L))) .e) (some (.pt .h 0 0)) (.n .e (some (sl5 (y :: s))) .e)) none (.n (.n .e (some (.i .i64 (i : Int))) .e) none (.n .e (some (.i .i64 (k : Int))) .e))) : T D) _
              (repeat' first | exact T.le_e _ | refine T.le_some ?_ rfl ?_ | refine T.le_none ?_ ?_)
          all_goals
            have hok : okB (l.getD i 0) (n : Int) = true := by
              unfold okB
              first
                | (rw [show (l.getD i 0 == 2) = true from by simpa using (by assumption : l.getD i 0 = 2)]; rfl)
                | (rw [show (l.getD i 0 == (n : Int)) = true from by simpa using (by assumption : l.getD i 0 = (n : Int)), Bool.or_true])
            rw [hok, cond_true, List.cons_append] at hnext
            refine WSt.app_emp rfl rfl rfl (ints_one _) (by rw [ints_length]; omega) (fun st => ?_); conv => whnf
            repeat' first | ((with_reducible apply WB.tt); conv => whnf) | ((with_reducible apply WB.ff); conv => whnf) | (refine Rn.seq ?_; conv => whnf) | (refine Rn.reg ?_; conv => whnf) | (refine Rn.drw ?_; conv => whnf) | (refine Rn.blk ?_; conv => whnf) | (refine Rn.skip ?_; conv => whnf) | (refine Rn.ret ?_; conv => whnf) | (refine Rn.exit ?_; conv => whnf) | (refine Rn.cond rfl ?_; conv => whnf) | (refine And.intro (InR.i64 (by omega) (by omega)) ?_; conv => whnf) | (refine And.intro (show _ ≠ (0 : Int) by omega) ?_; conv => whnf) | (refine WIx.intsN (by omega) ?_; conv => whnf) | (refine WIx.rowsN (by omega) ?_; conv => whnf)
            refine WSt.app_one (ds := (ints (L.getD k default)).flatten) (r := [D.i .i64 (n : Int)]) rfl rfl rfl rfl rfl rfl (by rw [ints_flatten]; simp [ints_length]) rfl rfl (by rw [ints_length]; omega) rfl ?_; conv => whnf
            repeat' first | ((with_reducible apply WB.tt); conv => whnf) | ((with_reducible apply WB.ff); conv => whnf) | (refine Rn.seq ?_; conv => whnf) | (refine Rn.reg ?_; conv => whnf) | (refine Rn.drw ?_; conv => whnf) | (refine Rn.blk ?_; conv => whnf) | (refine Rn.skip ?_; conv => whnf) | (refine Rn.ret ?_; conv => whnf) | (refine Rn.exit ?_; conv => whnf) | (refine Rn.cond rfl ?_; conv => whnf) | (refine And.intro (InR.i64 (by omega) (by omega)) ?_; conv => whnf) | (refine And.intro (show _ ≠ (0 : Int) by omega) ?_; conv => whnf) | (refine WIx.intsN (by omega) ?_; conv => whnf) | (refine WIx.rowsN (by omega) ?_; conv => whnf)
            refine WSt.app_one (ds := tDs (y :: s)) (r := [_]) rfl rfl rfl rfl rfl rfl (by simp [tDs]) rfl rfl (by simp at hBl; omega) rfl ?_; conv => whnf
            repeat' first | ((with_reducible apply WB.tt); conv => whnf) | ((with_reducible apply WB.ff); conv => whnf) | (refine Rn.seq ?_; conv => whnf) | (refine Rn.reg ?_; conv => whnf) | (refine Rn.drw ?_; conv => whnf) | (refine Rn.blk ?_; conv => whnf) | (refine Rn.skip ?_; conv => whnf) | (refine Rn.ret ?_; conv => whnf) | (refine Rn.exit ?_; conv => whnf) | (refine Rn.cond rfl ?_; conv => whnf) | (refine And.intro (InR.i64 (by omega) (by omega)) ?_; conv => whnf) | (refine And.intro (show _ ≠ (0 : Int) by omega) ?_; conv => whnf) | (refine WIx.intsN (by omega) ?_; conv => whnf) | (refine WIx.rowsN (by omega) ?_; conv => whnf)
            refine AgainB.sh (n + 1) (by omega) (show n + 1 ≤ 2 by omega) ?_ ?_
            · show (nx5 (A ++ exN (l.getD i 0) (L.getD k default) n)).nat ≤ (nx5 (A ++ exN (l.getD i 0) (L.getD k default) (n + 1))).nat
              rw [hnext, hBB]; exact Nat.le_refl _
            · show Shr _ (alS3 l cs wr off L i k (n + 1) (A ++ exN (l.getD i 0) (L.getD k default) (n + 1)))
              rw [hnext]
              refine Shr.of ?_ ?_ rfl rfl
              · show Rel _ _ ((.n (.n (.n (.n .e (some (.i .i64 ((n + 1 : Nat) : Int))) .e) (some (.lst 1 (rows tD L))) .e) (some (.pt .h 0 0)) (.n .e (some (sl5 (y :: (s ++ [(L.getD k default) ++ [(n : Int)]])))) .e)) none (.n (.n .e (some (.i .i64 (i : Int))) .e) none (.n .e (some (.i .i64 (k : Int))) .e))) : T D) _
                rw [sl5_snoc]
                (repeat' first | exact Rel.e | refine Rel.some ?_ ?_ ?_ | refine Rel.none ?_ ?_ | refine Rel.ee ?_ ?_)
                all_goals show Fz _ _ _ _
                all_goals first | exact .pu trivial | exact .ksl (show _ < 6 by simp [fv5, Pos.nat]) | exact .kpt (show _ < 6 by simp [Pos.nat]) | exact .pu (pu_tR L)
              · show Rel _ _ (T.n .e (some (rowC l cs wr off)) (.n (.n .e (bl5 (y :: (s ++ [(L.getD k default) ++ [(n : Int)]]))) .e) none .e)) _
                rw [bl5_snoc]
                (repeat' first | exact Rel.e | refine Rel.some ?_ ?_ ?_ | refine Rel.none ?_ ?_ | refine Rel.ee ?_ ?_)
                · exact RO'.of (show _ < 6 by simp [Pos.nat]) (rowC_sh l cs wr off)
                · refine RO'.of (show _ < 6 by simp [Pos.nat]) ?_
                  refine ShC.grownF (by omega) (pu_tDs _) ?_
                  exact Fz.grown (s1 := st) (s2 := st + 1) (ds := (ints (L.getD k default)).flatten) (r := [D.i .i64 (n : Int)]) (show ¬ _ < 6 by simp [Pos.nat, nx5]) rfl rfl (by omega) (by rw [ints_app]; simp) (by rw [ints_app]; simp) (ints_one _) (pu_ints _)
      · repeat' first | ((with_reducible apply WB.tt); conv => whnf) | ((with_reducible apply WB.ff); conv => whnf) | (refine Rn.seq ?_; conv => whnf) | (refine Rn.reg ?_; conv => whnf) | (refine Rn.drw ?_; conv => whnf) | (refine Rn.blk ?_; conv => whnf) | (refine Rn.skip ?_; conv => whnf) | (refine Rn.ret ?_; conv => whnf) | (refine Rn.exit ?_; conv => whnf) | (refine Rn.cond rfl ?_; conv => whnf) | (refine And.intro (InR.i64 (by omega) (by omega)) ?_; conv => whnf) | (refine And.intro (show _ ≠ (0 : Int) by omega) ?_; conv => whnf) | (refine WIx.intsN (by omega) ?_; conv => whnf) | (refine WIx.rowsN (by omega) ?_; conv => whnf)
        have hn2 : n = 2 := by omega
        have hB2 := hB2 hn2
        refine Again.to (k + 1) (by omega) (by omega) ?_ ?_
        · show (nx5 (stepL (l.getD i 0) (L.take k))).nat ≤ (nx5 (stepL (l.getD i 0) (L.take (k + 1)))).nat
          rw [hAA, ← hB2]; exact hup
        · show Shr _ (alS2 l cs wr off L i (k + 1) (stepL (l.getD i 0) (L.take (k + 1))))
          rw [← hB2]
          refine Shr.kp2 ?_ (alS2_kp l cs wr off L i (k + 1) B) (T.le_refl _) (obA_kp (rowC_kp l cs wr off) B)
          show T.le ((.n (.n (.n .e (some (.lst 1 (rows tD L))) .e) (some (.pt .h 0 0)) (.n .e (some (sl5 B)) .e)) none (.n (.n .e (some (.i .i64 (i : Int))) .e) none (.n .e (some (.i .i64 ((k + 1 : Nat) : Int))) .e))) : T D) _
          (repeat' first | exact T.le_e _ | refine T.le_some ?_ rfl ?_ | refine T.le_none ?_ ?_)
    · repeat' first | ((with_reducible apply WB.tt); conv => whnf) | ((with_reducible apply WB.ff); conv => whnf) | (refine Rn.seq ?_; conv => whnf) | (refine Rn.reg ?_; conv => whnf) | (refine Rn.drw ?_; conv => whnf) | (refine Rn.blk ?_; conv => whnf) | (refine Rn.skip ?_; conv => whnf) | (refine Rn.ret ?_; conv => whnf) | (refine Rn.exit ?_; conv => whnf) | (refine Rn.cond rfl ?_; conv => whnf) | (refine And.intro (InR.i64 (by omega) (by omega)) ?_; conv => whnf) | (refine And.intro (show _ ≠ (0 : Int) by omega) ?_; conv => whnf) | (refine WIx.intsN (by omega) ?_; conv => whnf) | (refine WIx.rowsN (by omega) ?_; conv => whnf)
      have hkl : k = L.length := by omega
      rw [show stepL (l.getD i 0) (L.take k) = stepL (l.getD i 0) L by rw [hkl, List.take_length]]
      refine Again.to (i + 1) (by omega) (by omega) (Nat.le_refl _) ?_
      show Shr _ (alS l cs wr off (foldA (l.take (i + 1)) [[]]) (i + 1))
      rw [hnx]
      generalize stepL (l.getD i 0) L = A
      refine Shr.of ?_ ?_ rfl rfl
      · show Rel _ _ ((.n (.n (.n .e (some (.lst 1 (rows tD A))) .e) (some (.pt .h 0 0)) .e) none (.n (.n .e (some (.i .i64 ((i + 1 : Nat) : Int))) .e) none .e)) : T D) _
        (repeat' first | exact Rel.e | refine Rel.some ?_ ?_ ?_ | refine Rel.none ?_ ?_ | refine Rel.ee ?_ ?_)
        all_goals show Fz _ _ _ _
        · cases A with
          | nil => exact .ns
          | cons y s => exact Fz.grown (s1 := s.length) (ds := tDs (y :: s)) (r := []) (by simp [fv5, Pos.nat, alS]) rfl (by simp) (Nat.le_refl _) (by rw [tD_flat]; simp) (by simp [rows]) (tD_one _) (pu_tR _)
        all_goals first | exact .pu trivial | exact .kpt (by simp [alS, Pos.nat])
      · show Rel _ _ (T.n .e (some (rowC l cs wr off)) (.n (.n .e none .e) none .e)) _
        (repeat' first | exact Rel.e | refine Rel.some ?_ ?_ ?_ | refine Rel.none ?_ ?_ | refine Rel.ee ?_ ?_)
        exact RO'.of (by simp [alS, Pos.nat]) (ShC.kp (rowC_kp l cs wr off _))
  · repeat' first | ((with_reducible apply WB.tt); conv => whnf) | ((with_reducible apply WB.ff); conv => whnf) | (refine Rn.seq ?_; conv => whnf) | (refine Rn.reg ?_; conv => whnf) | (refine Rn.drw ?_; conv => whnf) | (refine Rn.blk ?_; conv => whnf) | (refine Rn.skip ?_; conv => whnf) | (refine Rn.ret ?_; conv => whnf) | (refine Rn.exit ?_; conv => whnf) | (refine Rn.cond rfl ?_; conv => whnf) | (refine And.intro (InR.i64 (by omega) (by omega)) ?_; conv => whnf) | (refine And.intro (show _ ≠ (0 : Int) by omega) ?_; conv => whnf) | (refine WIx.intsN (by omega) ?_; conv => whnf) | (refine WIx.rowsN (by omega) ?_; conv => whnf)
    refine Fin.t (.inr rfl) rfl ?_
    rw [show allR l = foldA (l.take i) [[]] by rw [show i = l.length by omega, List.take_length]; rfl]
    exact .pu (pu_tR _)
end Go.Ev

namespace Go.Ev
open Go.Proofs
set_option maxRecDepth 100000
section
variable {sl : T D} {ob : T C} {nx : Pos} {K : X → Prop}
end
theorem wf_small {n : Int} (h1 : -1000000000000000000 ≤ n) (h2 : n ≤ 1000000000000000000) : wfB .i64 n = true := by
  cases n with
  | ofNat m =>
    have h2 : (m : Int) ≤ 1000000000000000000 := h2
    exact Nat.ble_eq_true_of_le (by simp only [imax]; omega)
  | negSucc m =>
    have h1 : -1000000000000000000 ≤ Int.negSucc m := h1
    show (IntKind.signed .i64 && Nat.ble m (imax .i64)) = true
    rw [show IntKind.signed .i64 = true from rfl, Bool.true_and]
    exact Nat.ble_eq_true_of_le (by simp only [imax]; omega)
def th3 : Pos := .i .h
def sl3 : List (List Int) → D
  | [] => .ns
  | _ :: s => .sl th3 0 (s.length + 1) s.length 1
def bl3 : List (List Int) → Option C
  | [] => none
  | a :: s => some (.cells false ((tDs (a :: s)).map fun d => Cell.o d s.length) (s.length + 1))
def nx3 : List (List Int) → Pos
  | [] => .o .h
  | _ :: _ => .o (.o .h)
def fitR (l : List Int) (cs : List Cnt) (wr off : Int) (t : List Int) : Bool := isTruthR l t && inB (wrongR cs off t) 0 wr
def truR (l : List Int) (cs : List Cnt) (wr off : Int) : List (List Int) := (allR l).filter (fitR l cs wr off)
theorem filter_take_succ {α : Type} {p : α → Bool} {l : List α} {j : Nat} {d : α} (h : j < l.length) : (l.take (j + 1)).filter p = (l.take j).filter p ++ bif p (l.getD j d) then [l.getD j d] else [] := by
  rw [take_succ_getD (d := d) h, List.filter_append]
  generalize l.getD j d = x
  cases h : p x <;> simp [List.filter, h]
section
variable (l : List Int) (cs : List Cnt) (wr off : Int)
def trS (L A : List (List Int)) (j : Nat) : X := ⟨(.n (.n (.n .e (some (sl3 A)) .e) (some (.pt .h 0 0)) (.n .e (some (.i .i64 (j : Int))) .e)) none (.n (.n .e (some (.lst 1 (rows tD L))) .e) none .e)), .n .e (some (rowC l cs wr off)) (.n .e (bl3 A) .e), nx3 A, none⟩
end
theorem sl3_kp (A : List (List Int)) : Kp (nx3 A).nat (sl3 A) := by
  cases A <;> simp [sl3, nx3, Kp, th3, Pos.nat, Pu]
theorem nx3_two (A : List (List Int)) : 2 ≤ (nx3 A).nat := by cases A <;> simp [nx3, Pos.nat]
theorem trS_kp (l : List Int) (cs : List Cnt) (wr off : Int) (L A : List (List Int)) (j : Nat) : ∀ s d, (trS l cs wr off L A j).sl.get s = some d → Kp (nx3 A).nat d := by
  have h2 := nx3_two A
  show TAll (fun _ d => Kp (nx3 A).nat d) _
  unfold trS
  repeat' first | exact TAll.e | refine TAll.some ?_ ?_ ?_ | refine TAll.none ?_ ?_
  all_goals first | exact sl3_kp A | (simp [Kp, Pu, pu_tR, Pos.nat]; done) | (simp [Kp, Pos.nat]; omega)
theorem trO_kp (l : List Int) (cs : List Cnt) (wr off : Int) (L A : List (List Int)) (j : Nat) : KpO (nx3 A).nat (trS l cs wr off L A j).ob := by
  cases A with
  | nil =>
    show TAll (fun id c => id.nat < 2 ∧ KpC 2 c) _
    unfold trS bl3
    refine TAll.some TAll.e ⟨by simp [Pos.nat], rowC_kp l cs wr off _⟩ (TAll.none TAll.e TAll.e)
  | cons a s =>
    show TAll (fun id c => id.nat < 4 ∧ KpC 4 c) _
    unfold trS bl3
    refine TAll.some TAll.e ⟨by simp [Pos.nat], rowC_kp l cs wr off _⟩ (TAll.some TAll.e ⟨by simp [Pos.nat], tDs_kp _ _ _⟩ TAll.e)
theorem bl3_snoc (a : List Int) (s : List (List Int)) (x : List Int) : bl3 (a :: (s ++ [x])) = some (.cells false ((tDs (a :: s) ++ [D.lst 1 (ints x)]).map fun d => Cell.o d (s.length + 1)) (s.length + 1 + 1)) := by
  simp [bl3, tDs]
theorem sl3_snoc (a : List Int) (s : List (List Int)) (x : List Int) : sl3 (a :: (s ++ [x])) = .sl th3 0 (s.length + 1 + 1) (s.length + 1) 1 := by
  simp [sl3]
theorem allR_len (l : List Int) (hl : l.length ≤ 9) : (allR l).length ≤ 512 := by
  have h1 := foldA_len l [[]]
  have h2 : 2 ^ l.length ≤ 2 ^ 9 := Nat.pow_le_pow_right (by omega) hl
  simp only [List.length_singleton, Nat.mul_one] at h1
  unfold allR
  omega
set_option maxHeartbeats 1000000 in
theorem c_Truths (l : List Int) (cs : List Cnt) (wr off : Int) (hl : l.length ≤ 9) (hc : ∀ c ∈ cs, cntIn l.length c) (hn : cs.length ≤ 1000) : PureF Try.prog p57.ix [.ag [.lst 1 (ints l), .lst 3 (rows cntD cs), .i .i64 wr, .i .i64 off]] (.lst 1 (rows tD (truR l cs wr off))) := by
  have hal := allR_len l hl
  have e2 := rows_length tD (allR l)
  refine PureF.run fn56 (by simp) (by simp [PuL, PuE, Pu, pu_ints, pu_cnts]) ?_; conv => whnf
  repeat' first | ((with_reducible apply WB.tt); conv => whnf) | ((with_reducible apply WB.ff); conv => whnf) | (refine Rn.seq ?_; conv => whnf) | (refine Rn.reg ?_; conv => whnf) | (refine Rn.drw ?_; conv => whnf) | (refine Rn.blk ?_; conv => whnf) | (refine Rn.skip ?_; conv => whnf) | (refine Rn.ret ?_; conv => whnf) | (refine Rn.exit ?_; conv => whnf) | (refine Rn.cond rfl ?_; conv => whnf) | (refine And.intro (InR.i64 (by omega) (by omega)) ?_; conv => whnf) | (refine And.intro (show _ ≠ (0 : Int) by omega) ?_; conv => whnf) | (refine WIx.intsN (by omega) ?_; conv => whnf) | (refine WIx.rowsN (by omega) ?_; conv => whnf) | (refine WCall.pure (c_All l cs wr off hl) ?_; conv => whnf)
  refine Rn.loop (fun j : Nat => trS l cs wr off (allR l) (((allR l).take j).filter (fitR l cs wr off)) j) (fun j => j ≤ (allR l).length) (fun j => (allR l).length - j) 0 ?_ ?_ ?_
  · refine X.le.mk ?_ (T.le_some (T.le_e _) rfl (T.le_ee (T.le_e _) (T.le_e _))) (Nat.le_refl _) rfl rfl
    show T.le ((.n (.n (.n .e (some (.ns)) .e) (some (.pt .h 0 0)) (.n .e (some (.i .i64 (0 : Int))) .e)) none (.n (.n .e (some (.lst 1 (rows tD (allR l)))) .e) none .e)) : T D) _
    (repeat' first | exact T.le_e _ | refine T.le_some ?_ rfl ?_ | refine T.le_none ?_ ?_)
  · exact Nat.zero_le _
  intro j hj
  have hj : j ≤ (allR l).length := hj
  have hAl : (((allR l).take j).filter (fitR l cs wr off)).length ≤ 512 := by
    have h1 := List.length_filter_le (fitR l cs wr off) ((allR l).take j)
    have h2 := List.length_take_le j (allR l)
    rw [List.length_take] at h1
    omega
  have hend : j = (allR l).length → ((allR l).take j).filter (fitR l cs wr off) = truR l cs wr off := fun e => by rw [e, List.take_length]; rfl
  have hnext := fun h => filter_take_succ (p := fitR l cs wr off) (l := allR l) (j := j) (d := []) h
  generalize hA : ((allR l).take j).filter (fitR l cs wr off) = A at *
  conv => whnf
  repeat' first | ((with_reducible apply WB.tt); conv => whnf) | ((with_reducible apply WB.ff); conv => whnf) | (refine Rn.seq ?_; conv => whnf) | (refine Rn.reg ?_; conv => whnf) | (refine Rn.drw ?_; conv => whnf) | (refine Rn.blk ?_; conv => whnf) | (refine Rn.skip ?_; conv => whnf) | (refine Rn.ret ?_; conv => whnf) | (refine Rn.exit ?_; conv => whnf) | (refine Rn.cond rfl ?_; conv => whnf) | (refine And.intro (InR.i64 (by omega) (by omega)) ?_; conv => whnf) | (refine And.intro (show _ ≠ (0 : Int) by omega) ?_; conv => whnf) | (refine WIx.intsN (by omega) ?_; conv => whnf) | (refine WIx.rowsN (by omega) ?_; conv => whnf)
  refine WB.dec (fun h => ?_) (fun h => ?_) <;> conv => whnf
  · have hlt : j < (allR l).length := by omega
    have hnext := hnext hlt
    have cF := c_Fits l cs wr off ((allR l).getD j []) (by omega) hc hn
    have hup : ∀ A', (nx3 A).nat ≤ (nx3 (A ++ A')).nat := fun A' => by
      cases A with
      | nil => cases A' <;> simp [nx3, Pos.nat]
      | cons a A => simp [nx3]
    generalize hx : (allR l).getD j [] = x at *
    repeat' first | ((with_reducible apply WB.tt); conv => whnf) | ((with_reducible apply WB.ff); conv => whnf) | (refine Rn.seq ?_; conv => whnf) | (refine Rn.reg ?_; conv => whnf) | (refine Rn.drw ?_; conv => whnf) | (refine Rn.blk ?_; conv => whnf) | (refine Rn.skip ?_; conv => whnf) | (refine Rn.ret ?_; conv => whnf) | (refine Rn.exit ?_; conv => whnf) | (refine Rn.cond rfl ?_; conv => whnf) | (refine And.intro (InR.i64 (by omega) (by omega)) ?_; conv => whnf) | (refine And.intro (show _ ≠ (0 : Int) by omega) ?_; conv => whnf) | (refine WIx.intsN (by omega) ?_; conv => whnf) | (refine WIx.rowsN (by omega) ?_; conv => whnf)
    rw [show D.lst 1 (ints ((allR l).getD j default)) = .lst 1 (ints x) by rw [← hx]; rfl]
    repeat' first | ((with_reducible apply WB.tt); conv => whnf) | ((with_reducible apply WB.ff); conv => whnf) | (refine Rn.seq ?_; conv => whnf) | (refine Rn.reg ?_; conv => whnf) | (refine Rn.drw ?_; conv => whnf) | (refine Rn.blk ?_; conv => whnf) | (refine Rn.skip ?_; conv => whnf) | (refine Rn.ret ?_; conv => whnf) | (refine Rn.exit ?_; conv => whnf) | (refine Rn.cond rfl ?_; conv => whnf) | (refine And.intro (InR.i64 (by omega) (by omega)) ?_; conv => whnf) | (refine And.intro (show _ ≠ (0 : Int) by omega) ?_; conv => whnf) | (refine WIx.intsN (by omega) ?_; conv => whnf) | (refine WIx.rowsN (by omega) ?_; conv => whnf) | (refine WCall.pure (cF) ?_; conv => whnf)
    refine WB.mk (fun h => ?_) (fun h => ?_) <;> conv => whnf
    · have hf : fitR l cs wr off x = true := h
      rw [hf, cond_true] at hnext
      cases A with
      | nil =>
        repeat' first | ((with_reducible apply WB.tt); conv => whnf) | ((with_reducible apply WB.ff); conv => whnf) | (refine Rn.seq ?_; conv => whnf) | (refine Rn.reg ?_; conv => whnf) | (refine Rn.drw ?_; conv => whnf) | (refine Rn.blk ?_; conv => whnf) | (refine Rn.skip ?_; conv => whnf) | (refine Rn.ret ?_; conv => whnf) | (refine Rn.exit ?_; conv => whnf) | (refine Rn.cond rfl ?_; conv => whnf) | (refine And.intro (InR.i64 (by omega) (by omega)) ?_; conv => whnf) | (refine And.intro (show _ ≠ (0 : Int) by omega) ?_; conv => whnf) | (refine WIx.intsN (by omega) ?_; conv => whnf) | (refine WIx.rowsN (by omega) ?_; conv => whnf)
        refine WSt.app_first (r := [_]) rfl (.inl rfl) rfl rfl rfl rfl ?_; conv => whnf
        repeat' first | ((with_reducible apply WB.tt); conv => whnf) | ((with_reducible apply WB.ff); conv => whnf) | (refine Rn.seq ?_; conv => whnf) | (refine Rn.reg ?_; conv => whnf) | (refine Rn.drw ?_; conv => whnf) | (refine Rn.blk ?_; conv => whnf) | (refine Rn.skip ?_; conv => whnf) | (refine Rn.ret ?_; conv => whnf) | (refine Rn.exit ?_; conv => whnf) | (refine Rn.cond rfl ?_; conv => whnf) | (refine And.intro (InR.i64 (by omega) (by omega)) ?_; conv => whnf) | (refine And.intro (show _ ≠ (0 : Int) by omega) ?_; conv => whnf) | (refine WIx.intsN (by omega) ?_; conv => whnf) | (refine WIx.rowsN (by omega) ?_; conv => whnf)
        refine Again.to (j + 1) (by omega) (by omega) ?_ ?_
        · show (nx3 (((allR l).take j).filter (fitR l cs wr off))).nat ≤ (nx3 (((allR l).take (j + 1)).filter (fitR l cs wr off))).nat
          rw [hA, hnext]; exact hup _
        · show Shr _ (trS l cs wr off (allR l) (((allR l).take (j + 1)).filter (fitR l cs wr off)) (j + 1))
          rw [hnext]
          refine Shr.kp2 ?_ (trS_kp l cs wr off _ _ _) ?_ (trO_kp l cs wr off (allR l) [x] (j + 1))
          · show T.le ((.n (.n (.n .e (some (.sl th3 0 1 0 1)) .e) (some (.pt .h 0 0)) (.n .e (some (.i .i64 ((j + 1 : Nat) : Int))) .e)) none (.n (.n .e (some (.lst 1 (rows tD (allR l)))) .e) none .e)) : T D) _
            (repeat' first | exact T.le_e _ | refine T.le_some ?_ rfl ?_ | refine T.le_none ?_ ?_)
          · show T.le (T.n .e (some (rowC l cs wr off)) (.n .e (some (.cells false [.o (.lst 1 (ints x)) 0] 1)) .e)) _
            rw [← hx]
            (repeat' first | exact T.le_e _ | refine T.le_some ?_ rfl ?_ | refine T.le_none ?_ ?_)
      | cons a s =>
        repeat' first | ((with_reducible apply WB.tt); conv => whnf) | ((with_reducible apply WB.ff); conv => whnf) | (refine Rn.seq ?_; conv => whnf) | (refine Rn.reg ?_; conv => whnf) | (refine Rn.drw ?_; conv => whnf) | (refine Rn.blk ?_; conv => whnf) | (refine Rn.skip ?_; conv => whnf) | (refine Rn.ret ?_; conv => whnf) | (refine Rn.exit ?_; conv => whnf) | (refine Rn.cond rfl ?_; conv => whnf) | (refine And.intro (InR.i64 (by omega) (by omega)) ?_; conv => whnf) | (refine And.intro (show _ ≠ (0 : Int) by omega) ?_; conv => whnf) | (refine WIx.intsN (by omega) ?_; conv => whnf) | (refine WIx.rowsN (by omega) ?_; conv => whnf)
        refine WSt.app_one (ds := tDs (a :: s)) (r := [_]) rfl rfl rfl rfl rfl rfl (by simp [tDs]) rfl rfl (by simp at hAl; omega) rfl ?_; conv => whnf
        repeat' first | ((with_reducible apply WB.tt); conv => whnf) | ((with_reducible apply WB.ff); conv => whnf) | (refine Rn.seq ?_; conv => whnf) | (refine Rn.reg ?_; conv => whnf) | (refine Rn.drw ?_; conv => whnf) | (refine Rn.blk ?_; conv => whnf) | (refine Rn.skip ?_; conv => whnf) | (refine Rn.ret ?_; conv => whnf) | (refine Rn.exit ?_; conv => whnf) | (refine Rn.cond rfl ?_; conv => whnf) | (refine And.intro (InR.i64 (by omega) (by omega)) ?_; conv => whnf) | (refine And.intro (show _ ≠ (0 : Int) by omega) ?_; conv => whnf) | (refine WIx.intsN (by omega) ?_; conv => whnf) | (refine WIx.rowsN (by omega) ?_; conv => whnf)
        refine Again.to (j + 1) (by omega) (by omega) ?_ ?_
        · show (nx3 (((allR l).take j).filter (fitR l cs wr off))).nat ≤ (nx3 (((allR l).take (j + 1)).filter (fitR l cs wr off))).nat
          rw [hA, hnext]; exact hup _
        · show Shr _ (trS l cs wr off (allR l) (((allR l).take (j + 1)).filter (fitR l cs wr off)) (j + 1))
          rw [hnext, List.cons_append]
          refine Shr.of ?_ ?_ rfl rfl
          · show Rel _ _ ((.n (.n (.n .e (some (sl3 (a :: (s ++ [x])))) .e) (some (.pt .h 0 0)) (.n .e (some (.i .i64 ((j + 1 : Nat) : Int))) .e)) none (.n (.n .e (some (.lst 1 (rows tD (allR l)))) .e) none .e)) : T D) _
            rw [sl3_snoc]
            (repeat' first | exact Rel.e | refine Rel.some ?_ ?_ ?_ | refine Rel.none ?_ ?_)
            all_goals show Fz _ _ _ _
            all_goals first | exact .pu trivial | exact .ksl (show _ < 4 by simp [th3, Pos.nat]) | exact .kpt (show _ < 4 by simp [Pos.nat]) | exact .pu (pu_tR _)
          · show Rel _ _ (T.n .e (some (rowC l cs wr off)) (.n .e (bl3 (a :: (s ++ [x]))) .e)) _
            rw [bl3_snoc]
            (repeat' first | exact Rel.e | refine Rel.some ?_ ?_ ?_ | refine Rel.none ?_ ?_)
            · exact RO'.of (show _ < 4 by simp [Pos.nat]) (rowC_sh l cs wr off)
            · refine RO'.of (show _ < 4 by simp [Pos.nat]) ?_
              rw [← hx]
              exact ShC.grownF (by omega) (pu_tDs _) (.pu (pu_ints _))
    · have hf : fitR l cs wr off x = false := h
      rw [hf, cond_false, List.append_nil] at hnext
      repeat' first | ((with_reducible apply WB.tt); conv => whnf) | ((with_reducible apply WB.ff); conv => whnf) | (refine Rn.seq ?_; conv => whnf) | (refine Rn.reg ?_; conv => whnf) | (refine Rn.drw ?_; conv => whnf) | (refine Rn.blk ?_; conv => whnf) | (refine Rn.skip ?_; conv => whnf) | (refine Rn.ret ?_; conv => whnf) | (refine Rn.exit ?_; conv => whnf) | (refine Rn.cond rfl ?_; conv => whnf) | (refine And.intro (InR.i64 (by omega) (by omega)) ?_; conv => whnf) | (refine And.intro (show _ ≠ (0 : Int) by omega) ?_; conv => whnf) | (refine WIx.intsN (by omega) ?_; conv => whnf) | (refine WIx.rowsN (by omega) ?_; conv => whnf)
      refine Again.to (j + 1) (by omega) (by omega) ?_ ?_
      · show (nx3 (((allR l).take j).filter (fitR l cs wr off))).nat ≤ (nx3 (((allR l).take (j + 1)).filter (fitR l cs wr off))).nat
        rw [hA, hnext]; exact Nat.le_refl _
      · show Shr _ (trS l cs wr off (allR l) (((allR l).take (j + 1)).filter (fitR l cs wr off)) (j + 1))
        rw [hnext]
        refine Shr.kp2 ?_ (trS_kp l cs wr off _ _ _) (T.le_refl _) (trO_kp l cs wr off (allR l) A (j + 1))
        show T.le ((.n (.n (.n .e (some (sl3 A)) .e) (some (.pt .h 0 0)) (.n .e (some (.i .i64 ((j + 1 : Nat) : Int))) .e)) none (.n (.n .e (some (.lst 1 (rows tD (allR l)))) .e) none .e)) : T D) _
        (repeat' first | exact T.le_e _ | refine T.le_some ?_ rfl ?_ | refine T.le_none ?_ ?_)
  · repeat' first | ((with_reducible apply WB.tt); conv => whnf) | ((with_reducible apply WB.ff); conv => whnf) | (refine Rn.seq ?_; conv => whnf) | (refine Rn.reg ?_; conv => whnf) | (refine Rn.drw ?_; conv => whnf) | (refine Rn.blk ?_; conv => whnf) | (refine Rn.skip ?_; conv => whnf) | (refine Rn.ret ?_; conv => whnf) | (refine Rn.exit ?_; conv => whnf) | (refine Rn.cond rfl ?_; conv => whnf) | (refine And.intro (InR.i64 (by omega) (by omega)) ?_; conv => whnf) | (refine And.intro (show _ ≠ (0 : Int) by omega) ?_; conv => whnf) | (refine WIx.intsN (by omega) ?_; conv => whnf) | (refine WIx.rowsN (by omega) ?_; conv => whnf)
    have he := hend (by omega)
    subst he
    refine Fin.t (.inr rfl) rfl ?_
    cases hT : truR l cs wr off with
    | nil => exact .ns
    | cons a s =>
      exact Frz.whole (cs := (tDs (a :: s)).map fun d => Cell.o d s.length) (cur := s.length + 1) rfl (by simp [rows]) (tD_one _) (by rw [tD_flat]) (pu_tR _)
end Go.Ev

namespace Go.Ev
open Go.Proofs
set_option maxRecDepth 100000
def sureE (l : List Int) (cs : List Cnt) (wr off : Int) : Int := if faultR l cs wr off = 0 then (if truR l cs wr off = [] then 11 else 0) else faultR l cs wr off
theorem truR_len (l : List Int) (cs : List Cnt) (wr off : Int) (hl : l.length ≤ 9) : (truR l cs wr off).length ≤ 512 :=
  Nat.le_trans (List.length_filter_le _ _) (allR_len l hl)
def sumT (f t : Int) (x : List Int) : Int := sumP x f.toNat (t + 1 - f).toNat
def loR (f t : Int) (R : List (List Int)) : Int := R.foldl (fun m x => min m (sumT f t x)) 1099511627776
def hiR (f t : Int) (R : List (List Int)) : Int := R.foldl (fun m x => max m (sumT f t x)) (-1)
def compat (pre x : List Int) : Prop := x.length = pre.length ∧ ∀ i, i < pre.length → fitB pre x i = true
theorem foldA_compat : ∀ (l pre : List Int) (L : List (List Int)), (∀ x ∈ L, compat pre x) → ∀ x ∈ foldA l L, compat (pre ++ l) x
  | [], pre, L, h, x, hx => by rw [List.append_nil]; exact h x hx
  | a :: l, pre, L, h, x, hx => by
    have key : ∀ y ∈ stepL a L, compat (pre ++ [a]) y := fun y hy => by
      obtain ⟨z, hz, hy⟩ := List.mem_flatMap.1 hy
      obtain ⟨hz1, hz2⟩ := h z hz
      have hk : ∃ k : Int, (k = 0 ∨ k = 1) ∧ okB a k = true ∧ y = z ++ [k] := by
        simp only [exN, List.nil_append, List.mem_append] at hy
        rcases hy with hy | hy
        · cases h0 : okB a ((0 : Nat) : Int) <;> rw [h0] at hy <;> simp at hy
          exact ⟨0, .inl rfl, h0, hy⟩
        · cases h0 : okB a ((1 : Nat) : Int) <;> rw [h0] at hy <;> simp at hy
          exact ⟨1, .inr rfl, h0, hy⟩
      obtain ⟨k, hk, hok, rfl⟩ := hk
      refine ⟨by simp [hz1], fun i hi => ?_⟩
      by_cases hlt : i < pre.length
      · have := hz2 i hlt
        unfold fitB at *
        rw [show (z ++ [k]).getD i 0 = z.getD i 0 by simp [List.getD, List.getElem?_append_left (show i < z.length by omega)], show (pre ++ [a]).getD i 0 = pre.getD i 0 by simp [List.getD, List.getElem?_append_left hlt]]
        exact this
      · have hi' : i = pre.length := by simp at hi; omega
        subst hi'
        unfold fitB
        rw [show (z ++ [k]).getD pre.length 0 = k by rw [← hz1]; simp [List.getD], show (pre ++ [a]).getD pre.length 0 = a by simp [List.getD]]
        unfold okB at hok
        have : inB k 0 1 = true := by unfold inB; rw [decide_eq_true_iff]; omega
        rw [this, Bool.true_and]
        rw [Bool.or_eq_true] at hok ⊢
        rcases hok with hok | hok
        · exact .inl (by simpa using hok)
        · exact .inr (by have : a = k := by simpa using hok
                         simp [this])
    have := foldA_compat l (pre ++ [a]) (stepL a L) key x hx
    rwa [List.append_assoc] at this
theorem allR_truth (l : List Int) : ∀ t ∈ allR l, isTruthR l t = true := fun t ht => by
  obtain ⟨h1, h2⟩ := foldA_compat l [] [[]] (fun x hx => by
    rw [List.mem_singleton.1 hx]
    exact ⟨rfl, fun i hi => by cases hi⟩) t ht
  rw [List.nil_append] at h1 h2
  unfold isTruthR
  rw [Bool.and_eq_true, decide_eq_true_iff, List.all_eq_true]
  exact ⟨h1, fun i hi => h2 i (by have := List.mem_range.1 hi; omega)⟩
theorem truR_eq (l : List Int) (cs : List Cnt) (wr off : Int) (hl : l.length ≤ 9) : truR l cs wr off = (truthsF l cs wr off).map (fun c => (lst9 c).take l.length) := by
  unfold truR truthsF
  rw [allR_exts l hl, List.filter_map]
  congr 1
  refine List.filter_congr fun c hc => ?_
  have ht := allR_truth l ((lst9 c).take l.length) (by rw [allR_exts l hl]; exact List.mem_map.2 ⟨c, hc, rfl⟩)
  show fitR l cs wr off ((lst9 c).take l.length) = ownB l.length cs wr off c
  unfold fitR ownB
  rw [ht, Bool.true_and, own_fits]
theorem truR_mem {l : List Int} {cs : List Cnt} {wr off : Int} : ∀ x ∈ truR l cs wr off, x.length = l.length ∧ Bits x := fun x hx =>
  truth_bits (allR_truth l x (List.mem_filter.1 hx).1)
theorem foldmin_first : ∀ {L : List Int} {B : Int}, L ≠ [] → (∀ x ∈ L, x ≤ B) → minL (L.getD 0 0) L = L.foldl min B
  | a :: L, B, _, h => by
    unfold minL
    show List.foldl min (min a a) L = List.foldl min (min B a) L
    have := h a (by simp)
    rw [show min a a = a by omega, show min B a = a by omega]
theorem foldmax_first : ∀ {L : List Int} {B : Int}, L ≠ [] → (∀ x ∈ L, B ≤ x) → maxL (L.getD 0 0) L = L.foldl max B
  | a :: L, B, _, h => by
    unfold maxL
    show List.foldl max (max a a) L = List.foldl max (max B a) L
    have := h a (by simp)
    rw [show max a a = a by omega, show max B a = a by omega]
theorem chL_eq (l : List Int) (cs : List Cnt) (wr off f t : Int) (hl : l.length ≤ 9) (h0 : 0 ≤ f) (h1 : f ≤ t) (h2 : t < l.length) : chL l cs wr off f t = (truR l cs wr off).map (sumT f t) := by
  rw [truR_eq l cs wr off hl, List.map_map]
  unfold chL
  refine List.map_congr_left fun c _ => ?_
  show sumP (lst9 c) f.toNat (t + 1 - f).toNat = sumP ((lst9 c).take l.length) f.toNat (t + 1 - f).toNat
  rw [sumP_take (by omega)]
theorem sumT_bd {l : List Int} {cs : List Cnt} {wr off f t : Int} (hl : l.length ≤ 9) (h0 : 0 ≤ f) (h1 : f ≤ t) (h2 : t < l.length) : ∀ x ∈ (truR l cs wr off).map (sumT f t), 0 ≤ x ∧ x ≤ 9 := fun x hx => by
  obtain ⟨y, hy, rfl⟩ := List.mem_map.1 hx
  obtain ⟨q1, q2⟩ := truR_mem y hy
  have := sumP_bd q2 f.toNat (t + 1 - f).toNat (by omega)
  unfold sumT
  omega
theorem ch_ref (l : List Int) (cs : List Cnt) (wr off f t : Int) (hE : startE l cs wr off f t = 0) : chLo l cs wr off f t = loR f t (truR l cs wr off) ∧ chHi l cs wr off f t = hiR f t (truR l cs wr off) := by
  obtain ⟨hF, q1, q2, q3, q4⟩ := startE0 hE
  obtain ⟨f1, f2, f3, f4⟩ := fault0 hF
  have hne : (truR l cs wr off).map (sumT f t) ≠ [] := by
    rw [truR_eq l cs wr off f2]
    simpa using q4
  have hb := sumT_bd (cs := cs) (wr := wr) (off := off) f2 q1 q2 q3
  unfold chLo chHi
  rw [if_pos hE, if_pos hE, chL_eq l cs wr off f t f2 q1 q2 q3]
  constructor
  · rw [foldmin_first hne (fun x hx => by have := (hb x hx).2; show x ≤ 1099511627776; omega), List.foldl_map]; rfl
  · rw [foldmax_first hne (fun x hx => by have := (hb x hx).1; show -1 ≤ x; omega), List.foldl_map]; rfl
theorem foldmin_mem : ∀ {L : List Int} {a : Int}, L.foldl min a = a ∨ L.foldl min a ∈ L
  | [], a => .inl rfl
  | b :: L, a => by
    show List.foldl min (min a b) L = a ∨ _
    rcases foldmin_mem (L := L) (a := min a b) with h | h
    · have : min a b = a ∨ min a b = b := by omega
      rcases this with e | e
      · exact .inl (by rw [h, e])
      · exact .inr (by show List.foldl min (min a b) L ∈ _; rw [h, e]; simp)
    · exact .inr (List.mem_cons_of_mem _ h)
theorem foldmax_mem : ∀ {L : List Int} {a : Int}, L.foldl max a = a ∨ L.foldl max a ∈ L
  | [], a => .inl rfl
  | b :: L, a => by
    show List.foldl max (max a b) L = a ∨ _
    rcases foldmax_mem (L := L) (a := max a b) with h | h
    · have : max a b = a ∨ max a b = b := by omega
      rcases this with e | e
      · exact .inl (by rw [h, e])
      · exact .inr (by show List.foldl max (max a b) L ∈ _; rw [h, e]; simp)
    · exact .inr (List.mem_cons_of_mem _ h)
end Go.Ev
