import Derived.Test.YtjgbfnciedkafaaEvUN3
import Derived.Test.YtjgbfnciedkafaaEvUGc
import Derived.Test.YtjgbfnciedkafaaEvUG7
import Derived.Test.YtjgbfnciedkafaaEvUJb
import Derived.Test.YtjgbfnciedkafaaEvUJ3
import Derived.Test.YtjgbfnciedkafaaEvUJs
import Derived.Test.YtjgbfnciedkafaaEvUPl
set_option linter.all false
namespace Go.Ev
open Go.Proofs
set_option maxRecDepth 100000
def keepL (q : Nat → Bool) (ls : List Ln) : List Ln := ((List.range ls.length).filter fun i => !q i).map fun i => ls.getD i default
def keepC (q : Nat → Bool) (c : Ct) : Ct := ⟨(((List.range c.a.toNat).filter fun i => !q i).length : Int), c.lo, c.hi⟩
def keepB (q : Nat → Bool) (B : Bk) : Bk := ⟨B.n, B.coin, B.box, keepL q B.ls, B.cs.map (keepC q)⟩
theorem filter_split (q : Nat → Bool) : ∀ k : Nat, ((List.range k).filter q).length + ((List.range k).filter fun i => !q i).length = k
  | 0 => rfl
  | k + 1 => by
    have := filter_split q k
    rw [List.range_succ, List.filter_append, List.filter_append, List.length_append, List.length_append]
    cases h : q k <;> simp [h] <;> omega
theorem filter_below (q : Nat → Bool) {k e : Nat} (h : k ≤ e) : ((List.range e).filter fun i => q i && decide (i < k)).length = ((List.range k).filter q).length := by
  obtain ⟨d, rfl⟩ : ∃ d, e = k + d := ⟨e - k, by omega⟩
  rw [List.range_add, List.filter_append, List.length_append]
  have h1 : (List.range k).filter (fun i => q i && decide (i < k)) = (List.range k).filter q := by
    apply List.filter_congr
    intro i hi
    rw [decide_eq_true (List.mem_range.1 hi), Bool.and_true]
  have h2 : ((List.range d).map (k + ·)).filter (fun i => q i && decide (i < k)) = [] := by
    rw [List.filter_eq_nil_iff]
    intro i hi
    obtain ⟨j, _, rfl⟩ := List.mem_map.1 hi
    simp
  rw [h1, h2, List.length_nil, Nat.add_zero]
theorem filter_more (q : Nat → Bool) {k e : Nat} (h : k ≤ e) : ((List.range k).filter q).length ≤ ((List.range e).filter q).length := by
  obtain ⟨d, rfl⟩ : ∃ d, e = k + d := ⟨e - k, by omega⟩
  rw [List.range_add, List.filter_append, List.length_append]
  omega
theorem keepL_len (q : Nat → Bool) (ls : List Ln) : (keepL q ls).length = ((List.range ls.length).filter fun i => !q i).length := List.length_map _
theorem keepL_le (q : Nat → Bool) (ls : List Ln) : (keepL q ls).length ≤ ls.length := by
  rw [keepL_len]
  have := List.length_filter_le (fun i => !q i) (List.range ls.length)
  rw [List.length_range] at this
  exact this
theorem keepL_sub (q : Nat → Bool) (ls : List Ln) : (keepL q ls).Sublist ls := by
  have h : (List.range ls.length).map (fun i => ls.getD i default) = ls := by
    apply List.ext_getElem (by simp)
    intro i h1 h2
    simp [List.getD, h2]
  have := (List.filter_sublist (p := fun i => !q i) (l := List.range ls.length)).map fun i => ls.getD i default
  rw [h] at this
  exact this
theorem many_sub {n : Int} (h1 : 1 ≤ n) (h4 : n ≤ 4) {A C : List Ln} (h : A.Sublist C) : ∀ p q : Int, 1 ≤ p → p ≤ q → p ≤ 5000 → A.foldl (fun m l => min 5000 (m * rdN n l)) p ≤ C.foldl (fun m l => min 5000 (m * rdN n l)) q := by
  induction h with
  | slnil => exact fun p q _ h _ => h
  | cons a _ ih =>
    intro p q hp hpq h5
    obtain ⟨b1, _⟩ := rdN_bd h1 h4 a
    have k1 : q * 1 ≤ q * rdN n a := Int.mul_le_mul_of_nonneg_left b1 (by omega)
    exact ih p _ hp (show p ≤ min 5000 (q * rdN n a) by omega) h5
  | cons_cons a _ ih =>
    intro p q hp hpq h5
    obtain ⟨b1, _⟩ := rdN_bd h1 h4 a
    have k1 : p * 1 ≤ p * rdN n a := Int.mul_le_mul_of_nonneg_left b1 (by omega)
    have k2 := Int.mul_le_mul_of_nonneg_right hpq (show 0 ≤ rdN n a by omega)
    exact ih _ _ (show 1 ≤ min 5000 (p * rdN n a) by omega) (show min 5000 (p * rdN n a) ≤ min 5000 (q * rdN n a) by omega) (show min 5000 (p * rdN n a) ≤ 5000 by omega)
theorem VB.keep {B : Bk} (V : VB B) (q : Nat → Bool) : VB (keepB q B) := by
  refine ⟨V.n, V.coin, V.box, Nat.le_trans (keepL_le q B.ls) V.len, ?_, ?_, ?_, ?_⟩
  · show (B.cs.map (keepC q)).length ≤ 4
    rw [List.length_map]; exact V.clen
  · show (keepL q B.ls).all (lnOk B.n) = true
    rw [List.all_eq_true]
    exact fun x hx => List.all_eq_true.1 V.ls x ((keepL_sub q B.ls).subset hx)
  · intro c hc
    obtain ⟨d, hd, rfl⟩ := List.mem_map.1 hc
    have := V.cs d hd
    refine ⟨Int.natCast_nonneg _, ?_⟩
    show (((List.range d.a.toNat).filter fun i => !q i).length : Int) ≤ ((keepL q B.ls).length : Int)
    rw [keepL_len]
    have := filter_more (fun i => !q i) (show d.a.toNat ≤ B.ls.length by omega)
    omega
  · have hs := many_sub V.n.1 V.n.2 (keepL_sub q B.ls) 1 1 (by omega) (by omega) (by omega)
    have hm := V.many
    exact Int.le_trans hs hm
theorem keep_congr {B : Bk} (hc : ∀ c ∈ B.cs, 0 ≤ c.a ∧ c.a ≤ B.ls.length) {q q' : Nat → Bool} (h : ∀ i, i < B.ls.length → q i = q' i) : keepB q B = keepB q' B := by
  have e : ∀ k, k ≤ B.ls.length → (List.range k).filter (fun i => !q i) = (List.range k).filter fun i => !q' i := fun k hk => List.filter_congr fun i hi => by
    rw [h i (by have := List.mem_range.1 hi; omega)]
  have e1 : keepL q B.ls = keepL q' B.ls := by unfold keepL; rw [e _ (Nat.le_refl _)]
  have e2 : B.cs.map (keepC q) = B.cs.map (keepC q') := List.map_congr_left fun c hcm => by
    unfold keepC
    rw [e _ (by have := hc c hcm; omega)]
  unfold keepB
  rw [e1, e2]
def qP (e c i : Nat) : Bool := c.testBit (e - 1 - i)
theorem mem_numL {e c i : Nat} (hi : i < e) : (i : Int) ∈ numL c e ↔ qP e c i = true := by
  unfold numL numJ
  rw [List.mem_map]
  constructor
  · rintro ⟨k, hk, hke⟩
    have : k = i := by omega
    subst this
    exact (List.mem_filter.1 hk).2
  · exact fun h => ⟨i, List.mem_filter.2 ⟨List.mem_range.2 hi, h⟩, rfl⟩
theorem con_numL {e c i : Nat} (hi : i < e) : conR (numL c e) (i : Int) = qP e c i := by
  rw [Bool.eq_iff_iff, conR_iff]
  exact mem_numL hi
theorem wo_keep (ls : List Ln) (c : Nat) : woF (numL c ls.length) ls = keepL (qP ls.length c) ls := by
  unfold woF woL keepL
  rw [List.filter_congr fun i hi => by rw [con_numL (List.mem_range.1 hi)]]
theorem ct_keep {e c : Nat} {k : Ct} (h : 0 ≤ k.a ∧ k.a ≤ e) : ctW (numL c e) k = keepC (qP e c) k := by
  have h1 : ltN (numL c e) k.a = ((List.range k.a.toNat).filter (qP e c)).length := by
    unfold ltN numL numJ
    rw [List.filter_map, List.length_map, List.filter_filter]
    rw [← filter_below (qP e c) (show k.a.toNat ≤ e by omega)]
    congr 1
    apply List.filter_congr
    intro i _
    show (decide ((i : Int) < k.a) && c.testBit (e - 1 - i)) = (c.testBit (e - 1 - i) && decide (i < k.a.toNat))
    rw [Bool.and_comm, decide_eq_decide.2 (show (i : Int) < k.a ↔ i < k.a.toNat by omega)]
  have h2 := filter_split (qP e c) k.a.toNat
  unfold ctW keepC
  rw [h1]
  congr 1
  omega
theorem numL_pw (c e : Nat) : (numL c e).Pairwise (· < ·) := by
  unfold numL numJ
  rw [List.pairwise_map]
  refine List.Pairwise.imp (fun {a b} h => ?_) (List.Pairwise.filter _ List.pairwise_lt_range)
  omega
theorem numL_len (c e : Nat) : (numL c e).length ≤ e := numJ_len c e e
end Go.Ev
namespace Go.Ev
open Go.Proofs
set_option maxRecDepth 100000
theorem RndOk.ofW {P : Program} {id : Pos} {ds : List D} {ob ob' : T C} {nx nx' : Pos} {v : D} (h : WRnd P id ds (some .h) ⟨.e, ob, nx, none⟩ (fun x => x = ⟨.n .e (some v) .e, ob', nx', none⟩)) : RndOk P id ds ob nx none v ob' nx' none := by
  obtain ⟨v1, ob1, nx1, lg1, Z, h1, h2, h3⟩ := h.ok
  subst h3
  have h2 : T.setK .h v1 (T.e : T D) (fun sl => some (⟨sl, ob1, nx1, lg1⟩ : X)) = some ⟨.n .e (some v) .e, ob', nx', none⟩ := h2
  rw [T.setK_eq] at h2
  obtain ⟨e1, e2, e3, e4⟩ := X.mk.inj (Option.some.inj h2)
  have e1 := congrArg (fun t => T.get t .h) e1
  have e1 : (T.set .h v1 (T.e : T D)).get .h = some v := e1
  rw [T.get_set_same] at e1
  have e1 := Option.some.inj e1
  subst e1 e2 e3 e4
  exact h1
def lvP (B : Bk) (c : Nat) : Bool := hasB (keepB (qP B.ls.length c) B)
def lvS (e many : Nat) : T D := (.n (.n (.n .e (some (.pt (.i .h) 0 0)) (.n (.n .e (some (.fn p141 [] [.pl [.i .i64 (e : Int)] 0, .pl [.i .i64 (many : Int)] 0])) .e) (some (.i .i64 (many : Int))) .e)) (some (.pt .h 0 0)) .e) none (.n .e (some (.pt (.o .h) 0 0)) (.n (.n .e (some (.i .i64 ((e : Int) + 1))) .e) none .e)))
def lvD (e : Nat) : Option Nat → D
  | none => .ns
  | some c => setD (numL c e)
noncomputable def lvR (e many : Nat) : Option Nat → C
  | none => .lp (lvS e many) [p21] 30 (rfA (bodyC Try.f94) 0) (rfB (bodyC Try.f94) 0) .ready none
  | some _ => .lp (lvS e many) [p21] 30 (rfA (bodyC Try.f94) 0) (rfB (bodyC Try.f94) 0) .done (some (.exit 0))
def tr4 (x1 x2 x3 x4 : C) : T C := .n (.n (.n .e (some x4) .e) (some x2) .e) (some x1) (.n .e (some x3) .e)
noncomputable def lvO (n coin box : Int) (ls : List Ln) (cs : List Ct) (many : Nat) (o : Option Nat) : T C := tr4 (bk6C n coin box ls cs) (.cells false [.o (lvD ls.length o) 0] 1) (.cells false [.o (.b o.isSome) 0] 1) (lvR ls.length many o)
theorem lvS_kp (e many n : Nat) (hn : 5 ≤ n) : ∀ s d, (lvS e many).get s = some d → Kp n d := by
  show TAll (fun _ d => Kp n d) (lvS e many)
  unfold lvS
  repeat' first | exact TAll.e | refine TAll.some ?_ ?_ ?_ | refine TAll.none ?_ ?_
  all_goals simp [Kp, KpL, Pu, PuL, Pos.nat]
  all_goals omega
theorem lvD_pu (e : Nat) (o : Option Nat) : Pu (lvD e o) := by
  cases o with
  | none => trivial
  | some c => exact setD_pu _
theorem bk6C_kp {n : Nat} {a b c : Int} {ls : List Ln} {cs : List Ct} : KpC n (bk6C a b c ls cs) := fun x hx => by
  simp only [List.mem_cons, List.not_mem_nil, or_false] at hx
  rcases hx with rfl | rfl | rfl | rfl | rfl | rfl
  all_goals first | exact Kp.pu _ (pu_ln _) | exact Kp.pu _ (pu_ct _) | exact Kp.pu _ trivial
theorem lvone_kp {n : Nat} {d : D} (h : Pu d) : KpC n (.cells false [.o d 0] 1) := fun x hx => by
  rw [List.mem_singleton.1 hx]; exact Kp.pu _ h
theorem lvR_kp (e many n : Nat) (hn : 5 ≤ n) (o : Option Nat) : KpC n (lvR e many o) := by
  cases o with
  | none => exact lvS_kp e many n hn
  | some S => exact lvS_kp e many n hn
theorem kpo4 {n : Nat} {x1 x2 x3 x4 : C} (hn : 5 ≤ n) (h1 : KpC n x1) (h2 : KpC n x2) (h3 : KpC n x3) (h4 : KpC n x4) : KpO n (tr4 x1 x2 x3 x4) := by
  show TAll (fun id c => id.nat < n ∧ KpC n c) _
  unfold tr4
  refine TAll.some (TAll.some (TAll.some TAll.e ⟨?_, h4⟩ TAll.e) ⟨?_, h2⟩ TAll.e) ⟨?_, h1⟩ (TAll.some TAll.e ⟨?_, h3⟩ TAll.e)
  all_goals simp [Pos.nat]
  all_goals omega
theorem lvO_kp (n coin box : Int) (ls : List Ln) (cs : List Ct) (many : Nat) (o : Option Nat) : KpO (Pos.i (.o .h)).nat (lvO n coin box ls cs many o) :=
  kpo4 (Nat.le_refl _) bk6C_kp (lvone_kp (lvD_pu _ _)) (lvone_kp trivial) (lvR_kp _ _ _ (Nat.le_refl _) _)
set_option maxHeartbeats 1000000 in
theorem lv_rnd {n coin box : Int} {ls : List Ln} {cs : List Ct} (V : VB (B5 n coin box ls cs)) (many c : Nat) : RndOk Try.prog (.o (.o .h)) [setD (numL c ls.length)] (lvO n coin box ls cs many none) (.i (.o .h)) none (.b (!lvP (B5 n coin box ls cs) c)) (lvO n coin box ls cs many (bif lvP (B5 n coin box ls cs) c then some c else none)) (.i (.o .h)) none := by
  have h8 : ls.length ≤ 8 := V.len
  have h4 : cs.length ≤ 4 := V.clen
  have hca : ∀ k ∈ cs, 0 ≤ k.a ∧ k.a ≤ (ls.length : Int) := V.cs
  have cw := j_without n coin box ls cs (numL c ls.length) (by have := numL_len c ls.length; omega) (numL_pw _ _) (by omega) (by omega) (fun k hk => by have := hca k hk; omega)
  rw [wo_keep, List.map_congr_left (fun k hk => ct_keep (c := c) (hca k hk))] at cw
  obtain ⟨M', hM', Hh⟩ := j_hasTruth (V.keep (qP ls.length c)) [] (MOk.nil _)
  have hp : lvP (B5 n coin box ls cs) c = hasB (keepB (qP ls.length c) (B5 n coin box ls cs)) := rfl
  have hB : keepB (qP ls.length c) (B5 n coin box ls cs) = B5 n coin box (keepL (qP ls.length c) ls) (cs.map (keepC (qP ls.length c))) := rfl
  rw [hp]
  rw [hB] at Hh ⊢
  generalize hb : hasB (B5 n coin box (keepL (qP ls.length c) ls) (cs.map (keepC (qP ls.length c)))) = bb at Hh ⊢
  have hD : lvD ls.length (some c) = setD (numL c ls.length) := rfl
  generalize hS : numL c ls.length = S at cw hD ⊢
  have hres : ∀ b : Bool, b = bb → ∀ (ob : T C), T.le (lvO n coin box ls cs many (bif b then some c else none)) ob → T.le (lvO n coin box ls cs many (bif bb then some c else none)) ob := fun b h ob k => by rw [← h]; exact k
  have e1 : ∀ x, keepL (qP ls.length c) ls = x → True := fun _ _ => trivial
  generalize keepL (qP ls.length c) ls = ls' at *
  generalize cs.map (keepC (qP ls.length c)) = cs' at *
  have K := lvO_kp n coin box ls cs many (bif bb then some c else none)
  rcases S with _ | ⟨a, l⟩
  all_goals
    refine RndOk.ofW ?_
    refine WRnd.run rfl rc94a0_ok rc94b0_ok ⟨_, rfl, ?_⟩
    unfold lvO tr4
    conv => whnf
    repeat' first | ((first | with_reducible (first | apply Qt | apply Qu) | refine Qa rfl ?_ | refine Qk rfl ?_ | refine Qb ?_ | refine Qc ?_ | refine Qi ?_ | refine Qj ?_) <;> conv => whnf)
    refine ⟨rfl, rfl, _, _, _, _, _, _, rfl, ?_⟩
    conv => whnf
    repeat' first | ((first | with_reducible (first | apply Qt | apply Qu) | refine Qa rfl ?_ | refine Qk rfl ?_ | refine Qb ?_ | refine Qc ?_ | refine Qi ?_ | refine Qj ?_ | refine Qf (cw) ?_) <;> conv => whnf)
    refine WCall.of (begin_at (B := B5 n coin box ls' cs')) ?_; conv => whnf
    repeat' first | ((first | with_reducible (first | apply Qt | apply Qu) | refine Qa rfl ?_ | refine Qk rfl ?_ | refine Qb ?_ | refine Qc ?_ | refine Qi ?_ | refine Qj ?_) <;> conv => whnf)
    refine WCall.of (CallOk.mapAt Hh trivial (id := .i (.o .h)) rfl (show 5 < 6 from by decide) (mp_at trivial)) ?_; conv => whnf
    repeat' first | ((first | with_reducible (first | apply Qt | apply Qu) | refine Qa rfl ?_ | refine Qk rfl ?_ | refine Qb ?_ | refine Qc ?_ | refine Qi ?_ | refine Qj ?_) <;> conv => whnf)
    cases bb
    · refine WB.ff ?_; conv => whnf
      repeat' first | ((first | with_reducible (first | apply Qt | apply Qu) | refine Qa rfl ?_ | refine Qk rfl ?_ | refine Qb ?_ | refine Qc ?_ | refine Qi ?_ | refine Qj ?_) <;> conv => whnf)
      refine ⟨_, _, _, _, _, _, _, _, .i (.o .h), rfl, rfl, ?_, Nat.le_refl _, rfl⟩
      refine Shr.kp ?_ K
      show T.le (tr4 _ _ _ _) _
      unfold tr4
      (repeat' first | exact T.le_e _ | refine T.le_some ?_ rfl ?_ | refine T.le_none ?_ ?_)
    · refine WB.tt ?_; conv => whnf
      repeat' first | ((first | with_reducible (first | apply Qt | apply Qu) | refine Qa rfl ?_ | refine Qk rfl ?_ | refine Qb ?_ | refine Qc ?_ | refine Qi ?_ | refine Qj ?_) <;> conv => whnf)
      refine ⟨_, _, _, _, _, _, _, _, .i (.o .h), rfl, rfl, ?_, Nat.le_refl _, rfl⟩
      refine Shr.kp ?_ K
      show T.le (tr4 (bk6C n coin box ls cs) (.cells false [.o (lvD ls.length (some c)) 0] 1) _ _) _
      rw [hD]
      unfold tr4
      (repeat' first | exact T.le_e _ | refine T.le_some ?_ rfl ?_ | refine T.le_none ?_ ?_)
end Go.Ev
namespace Go.Ev
open Go.Proofs
set_option maxRecDepth 100000
theorem beside_self {nx : Pos} {a b : T C} (ha : KpO nx.nat a) (hb : KpO nx.nat b) : Beside nx b a b := ⟨fun _ _ _ h => h, fun id hle => by
  have e : ∀ {t : T C}, KpO nx.nat t → t.get id = none := fun {t} ht => by
    cases hg : t.get id with
    | none => rfl
    | some c => have := (ht id c hg).1; omega
  rw [e ha, e hb]⟩
def cI1 : Nat → Int
  | 0 => -1
  | c + 1 => (c : Int)
theorem cI1_s (c : Nat) : cI1 (c + 1) = (c : Int) := rfl
theorem fndD_succ {Q : Nat → Bool} (c : Nat) : fndD Q (c + 1) = if Q c = true then some c else fndD Q c := rfl
theorem sts_kp (e many : Int) (c : Nat) : ∀ s d, ((.n (.n .e (some (.pl [.i .i64 e] 0)) .e) (some (.yl (.o (.o .h)))) (.n (.n .e (some (.i .i64 (cI1 c))) .e) (some (.pl [.i .i64 many] 0)) .e)) : T D).get s = some d → Kp (Pos.i (.o .h)).nat d := by
  show TAll (fun _ d => Kp _ d) _
  repeat' first | exact TAll.e | refine TAll.some ?_ ?_ ?_ | refine TAll.none ?_ ?_
  all_goals simp [Kp, KpL, Pu, PuL, Pos.nat]
set_option maxHeartbeats 1000000 in
theorem j_sets1 {n coin box : Int} {ls : List Ln} {cs : List Ct} (V : VB (B5 n coin box ls cs)) (many : Nat) : CallOk Try.prog p141.ix [.yl (.o (.o .h)), .pl [.i .i64 (ls.length : Int)] 0, .pl [.i .i64 (many : Int)] 0] (lvO n coin box ls cs many none) (.i (.o .h)) none (.tp []) (lvO n coin box ls cs many (fndD (smQ (lvP (B5 n coin box ls cs)) many) (2 ^ ls.length))) (.i (.o .h)) none := by
  have h8 : ls.length ≤ 8 := V.len
  have hpow : 2 ^ ls.length ≤ 256 := show 2 ^ ls.length ≤ 2 ^ 8 from Nat.pow_le_pow_right (by omega) h8
  have hpos : 0 < 2 ^ ls.length := Nat.two_pow_pos _
  refine CallOk.run fn140 (by simp) (Nat.le_refl _) ?_; conv => whnf
  repeat' first | ((first | with_reducible (first | apply Qt | apply Qu) | refine Qa rfl ?_ | refine Qk rfl ?_ | refine Qb ?_ | refine Qc ?_ | refine Qi ?_ | refine Qj ?_) <;> conv => whnf)
  refine WSt.shlU (a := 1) (j := ls.length) (by rfl) (by rfl) (by omega) (by omega) ?_; conv => whnf
  repeat' first | ((first | with_reducible (first | apply Qt | apply Qu) | refine Qa rfl ?_ | refine Qk rfl ?_ | refine Qb ?_ | refine Qc ?_ | refine Qi ?_ | refine Qj ?_) <;> conv => whnf)
  have hc0 : ((1 * 2 ^ ls.length : Nat) : Int) - 1 = cI1 (2 ^ ls.length) := by
    obtain ⟨c, hc⟩ : ∃ c, 2 ^ ls.length = c + 1 := ⟨2 ^ ls.length - 1, by omega⟩
    rw [Nat.one_mul, hc]
    show ((c + 1 : Nat) : Int) - 1 = (c : Int)
    omega
  rw [hc0]
  generalize hN : 2 ^ ls.length = N at *
  refine Rn.loop (fun n' : Nat => ⟨(.n (.n .e (some (.pl [.i .i64 (ls.length : Int)] 0)) .e) (some (.yl (.o (.o .h)))) (.n (.n .e (some (.i .i64 (cI1 n'))) .e) (some (.pl [.i .i64 (many : Int)] 0)) .e)), lvO n coin box ls cs many none, .i (.o .h), none⟩) (fun n' => n' ≤ N ∧ fndD (smQ (lvP (B5 n coin box ls cs)) many) N = fndD (smQ (lvP (B5 n coin box ls cs)) many) n') (fun n' => n') N ?_ ?_ ?_
  · refine X.le.mk ?_ (T.le_refl _) (Nat.le_refl _) rfl rfl
    (repeat' first | exact T.le_e _ | refine T.le_some ?_ rfl ?_ | refine T.le_none ?_ ?_)
  · exact ⟨Nat.le_refl _, rfl⟩
  rintro n' ⟨hn', hf⟩
  rw [hf]
  cases n' with
  | zero =>
    conv => whnf
    repeat' first | ((first | with_reducible (first | apply Qt | apply Qu) | refine Qa rfl ?_ | refine Qk rfl ?_ | refine Qb ?_ | refine Qc ?_ | refine Qi ?_ | refine Qj ?_) <;> conv => whnf)
    refine WB.mk (fun h => ?_) (fun h => ?_) <;> conv => whnf
    · exact absurd h (by decide)
    repeat' first | ((first | with_reducible (first | apply Qt | apply Qu) | refine Qa rfl ?_ | refine Qk rfl ?_ | refine Qb ?_ | refine Qc ?_ | refine Qi ?_ | refine Qj ?_) <;> conv => whnf)
    exact ⟨.inl rfl, ⟨_, rfl, .pu trivial⟩, Shr.kp (T.le_refl _) (lvO_kp _ _ _ _ _ _ _)⟩
  | succ c =>
    have hcN : c < N := by have hn' : c + 1 ≤ N := hn'; omega
    have hc256 : c < 256 := by omega
    have iC := j_cnt c hc256
    have iN := j_numbers c ls.length hc256 h8
    have hQ : smQ (lvP (B5 n coin box ls cs)) many c = (decide (cntN c = many) && lvP (B5 n coin box ls cs) c) := rfl
    have hsc := fndD_succ (Q := smQ (lvP (B5 n coin box ls cs)) many) c
    rw [hQ] at hsc
    have hR := lv_rnd V many c
    have hz : (c : Int) - 1 = cI1 c := by
      cases c with
      | zero => rfl
      | succ c => show ((c + 1 : Nat) : Int) - 1 = (c : Int); omega
    simp only [cI1_s]
    conv => whnf
    repeat' first | ((first | with_reducible (first | apply Qt | apply Qu) | refine Qa rfl ?_ | refine Qk rfl ?_ | refine Qb ?_ | refine Qc ?_ | refine Qi ?_ | refine Qj ?_) <;> conv => whnf)
    refine WB.mk (fun h => ?_) (fun h => ?_) <;> conv => whnf
    · repeat' first | ((first | with_reducible (first | apply Qt | apply Qu) | refine Qa rfl ?_ | refine Qk rfl ?_ | refine Qb ?_ | refine Qc ?_ | refine Qi ?_ | refine Qj ?_) <;> conv => whnf)
      refine And.intro (InR.u64 (by omega) (by omega)) ?_; conv => whnf
      repeat' first | ((first | with_reducible (first | apply Qt | apply Qu) | refine Qa rfl ?_ | refine Qk rfl ?_ | refine Qb ?_ | refine Qc ?_ | refine Qi ?_ | refine Qj ?_ | refine Qf (iC) ?_) <;> conv => whnf)
      by_cases he : cntN c = many
      · rw [decide_eq_true he, Bool.true_and] at hsc
        subst he
        repeat' first | ((first | with_reducible (first | apply Qt | apply Qu) | refine Qa rfl ?_ | refine Qk rfl ?_ | refine Qb ?_ | refine Qc ?_ | refine Qi ?_ | refine Qj ?_ | refine Qf (iN) ?_ | with_reducible (first | refine Qm ?_ | refine Qn ?_ | refine Qo ?_ | refine Qp ?_ | refine WB.nt ?_ | refine WB.nf ?_ | refine WB.dec (fun h => ?_) (fun h => ?_) | refine WB.ndec (fun h => ?_) (fun h => ?_)) | refine WB.mk (fun h => ?_) (fun h => ?_)) <;> conv => whnf)
        refine WRnd.fr hR (by decide) (T.le_refl _) (lvO_kp _ _ _ _ _ _ _) ⟨Kp.pu _ (setD_pu _), trivial⟩ (beside_self (lvO_kp _ _ _ _ _ _ _) (lvO_kp _ _ _ _ _ _ _)) (Nat.le_refl _) lg11_le (fun id h => lg11_w (Nat.lt_trans h (by decide))) ?_
        cases hp : lvP (B5 n coin box ls cs) c with
        | true =>
          rw [hp, if_pos rfl] at hsc
          conv => whnf
          repeat' first | ((first | refine WB.tt ?_ | refine WB.ff ?_ | refine Rn.seq ?_ | refine Rn.reg ?_ | refine Rn.blk ?_ | refine Rn.skip ?_ | refine Rn.ret ?_ | refine Qk rfl ?_ | refine And.intro (InR.i64 (by omega) (by omega)) ?_) <;> conv => whnf)
          rw [hsc]
          exact ⟨.inr rfl, ⟨_, rfl, .pu trivial⟩, Shr.kp (T.le_refl _) (lvO_kp _ _ _ _ _ _ _)⟩
        | false =>
          rw [hp, if_neg (by decide)] at hsc
          conv => whnf
          repeat' first | ((first | refine WB.tt ?_ | refine WB.ff ?_ | refine Rn.seq ?_ | refine Rn.reg ?_ | refine Rn.blk ?_ | refine Rn.skip ?_ | refine Rn.ret ?_ | refine Qk rfl ?_ | refine And.intro (InR.i64 (by omega) (by omega)) ?_) <;> conv => whnf)
          refine Again.to c (Nat.lt_succ_self c) ⟨by show c ≤ N; omega, hsc⟩ (Nat.le_refl _) (Shr.kp2 ?_ ?_ (T.le_refl _) (lvO_kp _ _ _ _ _ _ _))
          · rw [← hz]
            (repeat' first | exact T.le_e _ | refine T.le_some ?_ rfl ?_ | refine T.le_none ?_ ?_)
          · exact sts_kp _ _ _
      · rw [decide_eq_false he, Bool.false_and, if_neg (by decide)] at hsc
        repeat' first | ((first | with_reducible (first | apply Qt | apply Qu) | refine Qa rfl ?_ | refine Qk rfl ?_ | refine Qb ?_ | refine Qc ?_ | refine Qi ?_ | refine Qj ?_ | with_reducible (first | refine Qm ?_ | refine Qn ?_ | refine Qo ?_ | refine Qp ?_ | refine WB.nt ?_ | refine WB.nf ?_ | refine WB.dec (fun h => ?_) (fun h => ?_) | refine WB.ndec (fun h => ?_) (fun h => ?_)) | refine WB.mk (fun h => ?_) (fun h => ?_)) <;> conv => whnf)
        refine Again.to c (Nat.lt_succ_self c) ⟨by show c ≤ N; omega, hsc⟩ (Nat.le_refl _) (Shr.kp2 ?_ ?_ (T.le_refl _) (lvO_kp _ _ _ _ _ _ _))
        · rw [← hz]
          (repeat' first | exact T.le_e _ | refine T.le_some ?_ rfl ?_ | refine T.le_none ?_ ?_)
        · exact sts_kp _ _ _
    · exfalso
      revert h
      simp
theorem j_sets (en many : Int) : PureF Try.prog p124.ix [.i .i64 en, .i .i64 many] (.fn p141 [] [.pl [.i .i64 en] 0, .pl [.i .i64 many] 0]) := by
  refine PureF.run fn123 (by simp) (by simp [PuL, PuE, Pu]) ?_; conv => whnf
  repeat' first | ((first | with_reducible (first | apply Qt | apply Qu) | refine Qa rfl ?_ | refine Qk rfl ?_ | refine Qb ?_ | refine Qc ?_ | refine Qi ?_ | refine Qj ?_) <;> conv => whnf)
  refine Fin.t (.inr rfl) rfl ?_
  exact .fn .nil (.cons (Frz.ptr rfl rfl (by simp) (by simp [PuL, Pu])) (.cons (Frz.ptr rfl rfl (by simp) (by simp [PuL, Pu])) .nil))
def lvT (e many : Nat) : T D := (.n (.n (.n .e (some (.pt (.i .h) 0 0)) (.n .e (some (.i .i64 (many : Int))) .e)) (some (.pt .h 0 0)) .e) none (.n .e (some (.pt (.o .h) 0 0)) (.n (.n .e (some (.i .i64 ((e : Int) + 1))) .e) none .e)))
def tr3o (x1 x2 x3 : C) : T C := .n (.n .e (some x2) .e) (some x1) (.n .e (some x3) .e)
theorem lvT_kp (e many n : Nat) (hn : 4 ≤ n) : ∀ s d, (lvT e many).get s = some d → Kp n d := by
  show TAll (fun _ d => Kp n d) (lvT e many)
  unfold lvT
  repeat' first | exact TAll.e | refine TAll.some ?_ ?_ ?_ | refine TAll.none ?_ ?_
  all_goals simp [Kp, KpL, Pu, PuL, Pos.nat]
  all_goals omega
theorem kpo3o {n : Nat} {x1 x2 x3 : C} (hn : 4 ≤ n) (h1 : KpC n x1) (h2 : KpC n x2) (h3 : KpC n x3) : KpO n (tr3o x1 x2 x3) := by
  show TAll (fun id c => id.nat < n ∧ KpC n c) _
  unfold tr3o
  refine TAll.some (TAll.some TAll.e ⟨?_, h2⟩ TAll.e) ⟨?_, h1⟩ (TAll.some TAll.e ⟨?_, h3⟩ TAll.e)
  all_goals simp [Pos.nat]
  all_goals omega
theorem fsm_succ {P : Nat → Bool} {e m : Nat} (h : (List.range m).findSome? (fun k => fndD (smQ P k) (2 ^ e)) = none) : (List.range (m + 1)).findSome? (fun k => fndD (smQ P k) (2 ^ e)) = fndD (smQ P m) (2 ^ e) := by
  rw [List.range_succ, List.findSome?_append, h]
  simp
theorem fsm_more {P : Nat → Bool} {e m c : Nat} (hm : m ≤ e) (h : (List.range (m + 1)).findSome? (fun k => fndD (smQ P k) (2 ^ e)) = some c) : smA e P = some c := by
  unfold smA
  obtain ⟨d, hd⟩ : ∃ d, e + 1 = (m + 1) + d := ⟨e - m, by omega⟩
  rw [hd, List.range_add, List.findSome?_append, h]
  rfl
set_option maxHeartbeats 1000000 in
theorem j_smallest {n coin box : Int} {ls : List Ln} {cs : List Ct} (V : VB (B5 n coin box ls cs)) : PureF Try.prog p95.ix [.ag [.i .i64 n, .i .i64 coin, .i .i64 box, .lst 3 (rows lnD ls), .lst 3 (rows ctD cs), .any]] (.tp [lvD ls.length (smA ls.length (lvP (B5 n coin box ls cs))), .b (smA ls.length (lvP (B5 n coin box ls cs))).isSome]) := by
  have e2 := rows_length lnD ls
  have h8 : ls.length ≤ 8 := V.len
  refine PureF.run fn94 (by simp) (by simp [PuL, PuE, Pu, pu_ln, pu_ct]) ?_; conv => whnf
  repeat' first | ((first | with_reducible (first | apply Qt | apply Qu) | refine Qa rfl ?_ | refine Qk rfl ?_ | refine Qb ?_ | refine Qc ?_ | refine Qi ?_ | refine Qj ?_) <;> conv => whnf)
  refine Rn.loop (fun many : Nat => ⟨lvT ls.length many, tr3o (bk6C n coin box ls cs) (.cells false [.o .ns 0] 1) (.cells false [.o (.b false) 0] 1), .o (.o .h), none⟩) (fun many => many ≤ ls.length + 1 ∧ (List.range many).findSome? (fun k => fndD (smQ (lvP (B5 n coin box ls cs)) k) (2 ^ ls.length)) = none) (fun many => ls.length + 1 - many) 0 ?_ ?_ ?_
  · refine X.le.mk ?_ ?_ (Nat.le_refl _) rfl rfl
    · unfold lvT
      rw [← e2]
      repeat' first | exact T.le_e _ | refine T.le_some ?_ rfl ?_ | refine T.le_none ?_ ?_
    · unfold tr3o
      repeat' first | exact T.le_e _ | refine T.le_some ?_ rfl ?_ | refine T.le_none ?_ ?_
  · exact ⟨Nat.zero_le _, rfl⟩
  rintro many ⟨hj, h0⟩
  have hj : many ≤ ls.length + 1 := hj
  have hS := fsm_succ h0
  have cs' := j_sets (ls.length : Int) (many : Int)
  rw [← e2] at cs'
  conv => whnf
  repeat' first | ((first | with_reducible (first | apply Qt | apply Qu) | refine Qa rfl ?_ | refine Qk rfl ?_ | refine Qb ?_ | refine Qc ?_ | refine Qi ?_ | refine Qj ?_) <;> conv => whnf)
  refine WB.dec (fun h => ?_) (fun h => ?_) <;> conv => whnf
  · have hlt : many ≤ ls.length := by have h : (many : Int) < (ls.length : Int) + 1 := h; omega
    have C := j_sets1 V many
    repeat' first | ((first | with_reducible (first | apply Qt | apply Qu) | refine Qa rfl ?_ | refine Qk rfl ?_ | refine Qb ?_ | refine Qc ?_ | refine Qi ?_ | refine Qj ?_ | refine Qf (cs') ?_) <;> conv => whnf)
    refine Rn.le (a := ⟨lvS ls.length many, tr3o (bk6C n coin box ls cs) (.cells false [.o .ns 0] 1) (.cells false [.o (.b false) 0] 1), .o (.o .h), none⟩) ?_ ?_
    · cases hF : fndD (smQ (lvP (B5 n coin box ls cs)) many) (2 ^ ls.length) with
      | none =>
        rw [hF] at C hS
        refine Rn.rf rfl rfl C rfl (by simp) ?_; conv => whnf
        repeat' first | ((first | with_reducible (first | apply Qt | apply Qu) | refine Qa rfl ?_ | refine Qk rfl ?_ | refine Qb ?_ | refine Qc ?_ | refine Qi ?_ | refine Qj ?_) <;> conv => whnf)
        refine Again.to (many + 1) (by omega) ⟨by omega, hS⟩ (Nat.le_refl _) (Shr.kp2 ?_ (lvT_kp _ _ _ (Nat.le_refl _)) ?_ (kpo3o (Nat.le_refl _) bk6C_kp (lvone_kp trivial) (lvone_kp trivial)))
        · show T.le (lvT ls.length (many + 1)) _
          unfold lvT
          simp only [Int.natCast_add, Int.natCast_one]
          repeat' first | exact T.le_e _ | refine T.le_some ?_ rfl ?_ | refine T.le_none ?_ ?_
        · show T.le (tr3o _ _ _) _
          unfold tr3o
          repeat' first | exact T.le_e _ | refine T.le_some ?_ rfl ?_ | refine T.le_none ?_ ?_
      | some c =>
        rw [hF] at C hS
        have hall := fsm_more hlt hS
        rw [hall]
        have hD : lvD ls.length (some c) = setD (numL c ls.length) := rfl
        refine Rn.rf rfl rfl C rfl (by simp) ?_; conv => whnf
        repeat' first | ((first | with_reducible (first | apply Qt | apply Qu) | refine Qa rfl ?_ | refine Qk rfl ?_ | refine Qb ?_ | refine Qc ?_ | refine Qi ?_ | refine Qj ?_) <;> conv => whnf)
        rw [hD]
        rcases numL c ls.length with _ | ⟨a, l⟩
        all_goals
          repeat' first | ((first | with_reducible (first | apply Qt | apply Qu) | refine Qa rfl ?_ | refine Qk rfl ?_ | refine Qb ?_ | refine Qc ?_ | refine Qi ?_ | refine Qj ?_) <;> conv => whnf)
          exact ⟨.inr rfl, _, rfl, .tp (.cons (.pu (setD_pu _)) (.cons (.pu trivial) .nil))⟩
    · refine X.le.mk ?_ ?_ (Nat.le_refl _) rfl rfl
      · unfold lvS
        rw [← e2]
        repeat' first | exact T.le_e _ | refine T.le_some ?_ rfl ?_ | refine T.le_none ?_ ?_
      · unfold tr3o
        repeat' first | exact T.le_e _ | refine T.le_some ?_ rfl ?_ | refine T.le_none ?_ ?_
  · repeat' first | ((first | with_reducible (first | apply Qt | apply Qu) | refine Qa rfl ?_ | refine Qk rfl ?_ | refine Qb ?_ | refine Qc ?_ | refine Qi ?_ | refine Qj ?_) <;> conv => whnf)
    have hm : many = ls.length + 1 := by have h : ¬ (many : Int) < (ls.length : Int) + 1 := h; omega
    subst hm
    rw [show smA ls.length (lvP (B5 n coin box ls cs)) = none from h0]
    repeat' first | ((first | with_reducible (first | apply Qt | apply Qu) | refine Qa rfl ?_ | refine Qk rfl ?_ | refine Qb ?_ | refine Qc ?_ | refine Qi ?_ | refine Qj ?_) <;> conv => whnf)
    exact ⟨.inr rfl, _, rfl, .tp (.cons (.pu trivial) (.cons (.pu trivial) .nil))⟩
end Go.Ev
namespace Go.Ev
open Go.Proofs
set_option maxRecDepth 100000
def levO (B : Bk) : Option Nat := smA B.ls.length (lvP B)
def levT (n coin box : Int) (ls : List Ln) (cs : List Ct) : D :=
  if faultT n coin box ls cs = 0 then (match levO (B5 n coin box ls cs) with | some c => .tp [setD (numL c ls.length), .i .i64 0] | none => .tp [.ns, .i .i64 10]) else .tp [.ns, .i .i64 (faultT n coin box ls cs)]
theorem cv_any {B : Bk} {id : Pos} : ∀ γ w, CvL γ γ w [.ag (wkQ B ++ [.mp id])] [.ag (wkQ B ++ [.any])] := fun γ w => .cons (.ag (.app (.pu (fun _ h => h) (wkQ_pu B)) rfl (.cons .any .nil))) .nil
set_option maxHeartbeats 1000000 in
theorem j_LeaveP (n coin box : Int) (ls : List Ln) (cs : List Ct) : PureF Try.prog p48.ix [.ag [.i .i64 n, .i .i64 coin, .i .i64 box, .lst 3 (rows lnD ls), .lst 3 (rows ctD cs)]] (levT n coin box ls cs) := by
  have iC := j_CheckBook n coin box ls cs
  refine PureF.run fn47 (by simp) (by simp [PuL, PuE, Pu, pu_ints, pu_ln, pu_ct]) ?_; conv => whnf
  by_cases hf : faultT n coin box ls cs = 0
  · have V := VB.of hf
    have hR : levT n coin box ls cs = (match levO (B5 n coin box ls cs) with | some c => .tp [setD (numL c ls.length), .i .i64 0] | none => .tp [.ns, .i .i64 10]) := by unfold levT; rw [if_pos hf]
    rw [hf] at iC
    rw [hR]
    have iS := fun id => (j_smallest V).sub (cv_any (B := B5 n coin box ls cs) (id := id))
    have hl : smA ls.length (lvP (B5 n coin box ls cs)) = levO (B5 n coin box ls cs) := rfl
    rw [hl] at iS
    repeat' first | ((first | with_reducible (first | apply Qt | apply Qu) | refine Qa rfl ?_ | refine Qk rfl ?_ | refine Qb ?_ | refine Qc ?_ | refine Qi ?_ | refine Qj ?_ | refine Qf (iC) ?_ | with_reducible (first | refine Qm ?_ | refine Qn ?_ | refine Qo ?_ | refine Qp ?_ | refine WB.nt ?_ | refine WB.nf ?_ | refine WB.dec (fun h => ?_) (fun h => ?_) | refine WB.ndec (fun h => ?_) (fun h => ?_)) | refine WB.mk (fun h => ?_) (fun h => ?_)) <;> conv => whnf)
    refine WCall.of (begin_at (B := B5 n coin box ls cs)) ?_; conv => whnf
    repeat' first | ((first | with_reducible (first | apply Qt | apply Qu) | refine Qa rfl ?_ | refine Qk rfl ?_ | refine Qb ?_ | refine Qc ?_ | refine Qi ?_ | refine Qj ?_) <;> conv => whnf)
    refine Qf (iS _) ?_; conv => whnf
    cases levO (B5 n coin box ls cs) with
    | none =>
      repeat' first | ((first | with_reducible (first | apply Qt | apply Qu) | refine Qa rfl ?_ | refine Qk rfl ?_ | refine Qb ?_ | refine Qc ?_ | refine Qi ?_ | refine Qj ?_) <;> conv => whnf)
      refine WB.tt ?_; conv => whnf
      repeat' first | ((first | with_reducible (first | apply Qt | apply Qu) | refine Qa rfl ?_ | refine Qk rfl ?_ | refine Qb ?_ | refine Qc ?_ | refine Qi ?_ | refine Qj ?_) <;> conv => whnf)
      exact Fin.two (.inr rfl) (show T.get _ _ = some D.ns from rfl) (show T.get _ _ = some (D.i .i64 10) from rfl) (.pu trivial) (.pu trivial)
    | some c =>
      repeat' first | ((first | with_reducible (first | apply Qt | apply Qu) | refine Qa rfl ?_ | refine Qk rfl ?_ | refine Qb ?_ | refine Qc ?_ | refine Qi ?_ | refine Qj ?_) <;> conv => whnf)
      refine WB.ff ?_; conv => whnf
      repeat' first | ((first | with_reducible (first | apply Qt | apply Qu) | refine Qa rfl ?_ | refine Qk rfl ?_ | refine Qb ?_ | refine Qc ?_ | refine Qi ?_ | refine Qj ?_) <;> conv => whnf)
      show Fin _ (D.tp [setD (numL c ls.length), D.i .i64 0]) _ _
      exact Fin.two (.inr rfl) (show T.get _ _ = some (setD (numL c ls.length)) from rfl) (show T.get _ _ = some (D.i .i64 0) from rfl) (.pu (setD_pu _)) (.pu trivial)
  · have hR : levT n coin box ls cs = .tp [.ns, .i .i64 (faultT n coin box ls cs)] := by unfold levT; rw [if_neg hf]
    rw [hR]
    generalize faultT n coin box ls cs = f at *
    repeat' first | ((first | with_reducible (first | apply Qt | apply Qu) | refine Qa rfl ?_ | refine Qk rfl ?_ | refine Qb ?_ | refine Qc ?_ | refine Qi ?_ | refine Qj ?_ | refine Qf (iC) ?_ | with_reducible (first | refine Qm ?_ | refine Qn ?_ | refine Qo ?_ | refine Qp ?_ | refine WB.nt ?_ | refine WB.nf ?_ | refine WB.dec (fun h => ?_) (fun h => ?_) | refine WB.ndec (fun h => ?_) (fun h => ?_)) | refine WB.mk (fun h => ?_) (fun h => ?_)) <;> conv => whnf)
    all_goals first
      | (exfalso; omega)
      | exact ⟨.inr rfl, _, rfl, .tp (.cons (.pu trivial) (.cons (show Fz _ _ _ (D.i .i64 _) from .pu trivial) .nil))⟩
end Go.Ev
namespace Go.Ev
open Go.Proofs
set_option maxRecDepth 100000
theorem mem_tkL {n : Int} {l x : Ln} {i j : Int} : ∀ k : Nat, x ∈ tkL n l i j k ↔ (x.k = i ∧ x.c = j ∧ (0 ≤ x.t ∧ x.t < (k : Int)) ∧ agB l x = true)
  | 0 => by
    unfold tkL
    constructor
    · intro h; cases h
    · rintro ⟨_, _, h, _⟩; exact absurd h (by omega)
  | k + 1 => by
    unfold tkL
    rw [List.mem_append, mem_tkL k]
    constructor
    · rintro (⟨h1, h2, h3, h4⟩ | h)
      · exact ⟨h1, h2, by omega, h4⟩
      · cases ha : agB l ⟨i, j, (k : Int)⟩ with
        | false => rw [ha] at h; cases h
        | true =>
          rw [ha, cond_true, List.mem_singleton] at h
          subst h
          exact ⟨rfl, rfl, ⟨by show (0 : Int) ≤ (k : Int); omega, by show (k : Int) < ((k + 1 : Nat) : Int); omega⟩, ha⟩
    · obtain ⟨xk, xc, xt⟩ := x
      rintro ⟨h1, h2, h3, h4⟩
      have h1 : xk = i := h1
      have h2 : xc = j := h2
      have h3 : 0 ≤ xt ∧ xt < ((k + 1 : Nat) : Int) := h3
      by_cases h : xt < (k : Int)
      · exact .inl ⟨h1, h2, ⟨h3.1, h⟩, h4⟩
      · right
        have : xt = (k : Int) := by omega
        subst h1 h2 this
        rw [h4, cond_true]
        exact List.mem_singleton.2 rfl
theorem mem_chL3 {n : Int} {l x : Ln} {i : Int} : ∀ k : Nat, x ∈ chL3 n l i k ↔ (x.k = i ∧ (0 ≤ x.c ∧ x.c < (k : Int)) ∧ (0 ≤ x.t ∧ x.t < (n.toNat : Int)) ∧ agB l x = true)
  | 0 => by
    unfold chL3
    constructor
    · intro h; cases h
    · rintro ⟨_, h, _, _⟩; exact absurd h (by omega)
  | k + 1 => by
    unfold chL3
    rw [List.mem_append, mem_chL3 k, mem_tkL]
    constructor
    · rintro (⟨h1, h2, h3, h4⟩ | ⟨h1, h2, h3, h4⟩)
      · exact ⟨h1, by omega, h3, h4⟩
      · exact ⟨h1, by omega, h3, h4⟩
    · rintro ⟨h1, h2, h3, h4⟩
      by_cases h : x.c < (k : Int)
      · exact .inl ⟨h1, ⟨h2.1, h⟩, h3, h4⟩
      · exact .inr ⟨h1, by omega, h3, h4⟩
theorem mem_readL {n : Int} {l x : Ln} (hn : 0 ≤ n) : x ∈ readL n l ↔ rd1 n l x = true := by
  unfold readL
  show x ∈ ([] ++ chL3 n l (((0 : Nat) : Int) + 1) n.toNat) ++ chL3 n l (((1 : Nat) : Int) + 1) n.toNat ↔ _
  rw [List.nil_append, List.mem_append, mem_chL3, mem_chL3]
  unfold rd1
  rw [Bool.and_eq_true, Bool.and_eq_true, Bool.and_eq_true, inR_iff, inR_iff, inR_iff]
  constructor
  · rintro (⟨h1, h2, h3, h4⟩ | ⟨h1, h2, h3, h4⟩)
    · exact ⟨by omega, by omega, by omega, h4⟩
    · exact ⟨by omega, by omega, by omega, h4⟩
  · rintro ⟨h1, h2, h3, h4⟩
    have : x.k = 1 ∨ x.k = 2 := by omega
    rcases this with h | h
    · exact .inl ⟨by omega, by omega, by omega, h4⟩
    · exact .inr ⟨by omega, by omega, by omega, h4⟩
abbrev rdK (n : Int) (ls : List Ln) (i : Nat) : List Ln := readL n (ls.getD i default)
def divF (n : Int) (ls : List Ln) (m : Nat) : Nat → Nat
  | 0 => m
  | i + 1 => divF n ls m i / (rdK n ls i).length
def nthF (n : Int) (ls : List Ln) (m : Nat) : Nat → List Ln
  | 0 => []
  | i + 1 => nthF n ls m i ++ [(rdK n ls i).getD (divF n ls m i % (rdK n ls i).length) default]
def nthL (n : Int) (ls : List Ln) (m : Nat) : List Ln := nthF n ls m ls.length
def pF (n : Int) (ls : List Ln) : Nat → Nat
  | 0 => 1
  | i + 1 => pF n ls i * (rdK n ls i).length
theorem nthF_len (n : Int) (ls : List Ln) (m : Nat) : ∀ i, (nthF n ls m i).length = i
  | 0 => rfl
  | i + 1 => by
    unfold nthF
    rw [List.length_append, nthF_len n ls m i]; rfl
theorem nthF_at (n : Int) (ls : List Ln) (m : Nat) : ∀ {i j : Nat}, j < i → (nthF n ls m i).getD j default = (rdK n ls j).getD (divF n ls m j % (rdK n ls j).length) default
  | 0, _, h => absurd h (Nat.not_lt_zero _)
  | i + 1, j, h => by
    unfold nthF
    have hl := nthF_len n ls m i
    by_cases e : j = i
    · subst e
      have := app_last (nthF n ls m j) ((rdK n ls j).getD (divF n ls m j % (rdK n ls j).length) default)
      rw [hl] at this
      exact this
    · have := SameTo.app (nthF n ls m i) ((rdK n ls i).getD (divF n ls m i % (rdK n ls i).length) default) j (by rw [hl]; omega)
      rw [this]
      exact nthF_at n ls m (by omega)
theorem divF_eq (n : Int) (ls : List Ln) (m : Nat) : ∀ i, divF n ls m i = m / pF n ls i
  | 0 => by
    show m = m / 1
    rw [Nat.div_one]
  | i + 1 => by
    unfold divF pF
    rw [divF_eq n ls m i, Nat.div_div_eq_div_mul]
theorem rdK_len {B : Bk} (V : VB B) {i : Nat} (h : i < B.ls.length) : ((rdK B.n B.ls i).length : Int) = rdN B.n (B.ls.getD i default) ∧ 1 ≤ (rdK B.n B.ls i).length ∧ (rdK B.n B.ls i).length ≤ 32 := by
  have h1 := read_len V.n (List.all_eq_true.1 V.ls _ (getD_mem (d := default) h))
  have h2 := rdN_bd V.n.1 V.n.2 (B.ls.getD i default)
  have h1 : ((rdK B.n B.ls i).length : Int) = rdN B.n (B.ls.getD i default) := h1
  exact ⟨h1, by omega, by omega⟩
theorem pF_pos {B : Bk} (V : VB B) : ∀ i, i ≤ B.ls.length → 1 ≤ pF B.n B.ls i
  | 0, _ => Nat.le_refl _
  | i + 1, h => by
    have h1 := pF_pos V i (by omega)
    have h2 := (rdK_len V (i := i) (by omega)).2.1
    unfold pF
    exact Nat.mul_pos h1 h2
theorem pF_prod {B : Bk} (V : VB B) : ∀ i, i ≤ B.ls.length → (pF B.n B.ls i : Int) = prodP B.n (B.ls.take i)
  | 0, _ => rfl
  | i + 1, h => by
    have h1 := pF_prod V i (by omega)
    have h2 := (rdK_len V (i := i) (by omega)).1
    have h3 : prodP B.n (B.ls.take (i + 1)) = prodP B.n (B.ls.take i) * rdN B.n (B.ls.getD i default) := foldl_takeJ _ _ (by omega)
    unfold pF
    rw [h3, ← h1, ← h2, Int.natCast_mul]
theorem pF_dvd (n : Int) (ls : List Ln) {q : Nat} : ∀ {i : Nat}, q < i → ∃ K, pF n ls i = pF n ls q * ((rdK n ls q).length * K)
  | 0, h => absurd h (Nat.not_lt_zero _)
  | i + 1, h => by
    by_cases e : q = i
    · subst e
      exact ⟨1, by rw [Nat.mul_one]; rfl⟩
    · obtain ⟨K, hK⟩ := pF_dvd n ls (show q < i by omega)
      refine ⟨K * (rdK n ls i).length, ?_⟩
      show pF n ls i * (rdK n ls i).length = _
      rw [hK, Nat.mul_assoc, Nat.mul_assoc]
theorem nthF_cong {n : Int} {ls : List Ln} {m m' : Nat} : ∀ i, (∀ q, q < i → divF n ls m' q % (rdK n ls q).length = divF n ls m q % (rdK n ls q).length) → nthF n ls m' i = nthF n ls m i
  | 0, _ => rfl
  | i + 1, h => by
    unfold nthF
    rw [nthF_cong i (fun q hq => h q (by omega)), h i (by omega)]
theorem nth_mem {B : Bk} (V : VB B) {X : List Ln} (hl : X.length = B.ls.length) (hX : ∀ i, i < X.length → X.getD i default ∈ rdK B.n B.ls i) : ∀ i, i ≤ B.ls.length → ∃ m, m < pF B.n B.ls i ∧ nthF B.n B.ls m i = X.take i
  | 0, _ => ⟨0, Nat.one_pos, rfl⟩
  | i + 1, h => by
    obtain ⟨m, hm, he⟩ := nth_mem V hl hX i (by omega)
    obtain ⟨k, hk, hg⟩ := List.getElem_of_mem (hX i (show i < X.length by omega))
    have hP := pF_pos V i (by omega)
    have hdiv : (m + pF B.n B.ls i * k) / pF B.n B.ls i = k := by
      rw [Nat.add_mul_div_left _ _ hP, Nat.div_eq_of_lt hm, Nat.zero_add]
    refine ⟨m + pF B.n B.ls i * k, ?_, ?_⟩
    · show m + pF B.n B.ls i * k < pF B.n B.ls i * (rdK B.n B.ls i).length
      have : pF B.n B.ls i * (k + 1) ≤ pF B.n B.ls i * (rdK B.n B.ls i).length := Nat.mul_le_mul_left _ hk
      rw [Nat.mul_add, Nat.mul_one] at this
      omega
    · rw [take_succ_getD (d := default) (show i < X.length by omega)]
      show nthF B.n B.ls _ i ++ [_] = _
      have hc : nthF B.n B.ls (m + pF B.n B.ls i * k) i = nthF B.n B.ls m i := nthF_cong i fun q hq => by
        obtain ⟨K, hK⟩ := pF_dvd B.n B.ls hq
        have hPq : 0 < pF B.n B.ls q := pF_pos V q (Nat.le_trans (Nat.le_of_lt hq) (Nat.le_of_succ_le h))
        rw [divF_eq, divF_eq, hK, Nat.mul_assoc, Nat.add_mul_div_left _ _ hPq, Nat.mul_assoc, Nat.add_mul_mod_self_left]
      rw [hc, he, divF_eq, hdiv, Nat.mod_eq_of_lt hk]
      congr 2
      rw [← hg]
      simp [List.getD, hk]
def tBad (box coin : Int) (cs : List Ct) (T : List Ln) : Bool := possB T && cntB box coin cs T
def allN3 (n : Int) (ls : List Ln) : List (List Ln) := (List.range (manyR n ls).toNat).map (nthL n ls)
def refT (B : Bk) : List (List Ln) := (allN3 B.n B.ls).filter (tBad B.box B.coin B.cs)
theorem nth_read {B : Bk} (V : VB B) (m : Nat) : readB B.n B.ls (nthL B.n B.ls m) = true := by
  unfold readB
  rw [Bool.and_eq_true, decide_eq_true_iff, List.all_eq_true]
  have hl : (nthL B.n B.ls m).length = B.ls.length := nthF_len _ _ _ _
  refine ⟨hl, fun i hi => ?_⟩
  have hi : i < B.ls.length := by rw [← hl]; exact List.mem_range.1 hi
  rw [← mem_readL (by have := V.n; omega)]
  have h2 := (rdK_len V hi).2.1
  have : (nthL B.n B.ls m).getD i default = _ := nthF_at _ _ _ hi
  rw [this]
  exact getD_mem (Nat.mod_lt _ h2)
theorem mem_allN3 {B : Bk} (V : VB B) {X : List Ln} : X ∈ allN3 B.n B.ls ↔ readB B.n B.ls X = true := by
  unfold allN3
  rw [List.mem_map]
  constructor
  · rintro ⟨m, _, rfl⟩
    exact nth_read V m
  · intro h
    have hm : (pF B.n B.ls B.ls.length : Int) = manyR B.n B.ls := by
      have h1 := pF_prod V B.ls.length (Nat.le_refl _)
      rw [List.take_length] at h1
      have h2 := many_prod V.n.1 V.n.2 B.ls
      have h3 := V.many
      omega
    unfold readB at h
    rw [Bool.and_eq_true, decide_eq_true_iff, List.all_eq_true] at h
    obtain ⟨hl, h⟩ := h
    obtain ⟨m, h1, h2⟩ := nth_mem V hl (fun i hi => by
      rw [mem_readL (by have := V.n; omega)]
      exact h i (List.mem_range.2 hi)) B.ls.length (Nat.le_refl _)
    refine ⟨m, List.mem_range.2 (by omega), ?_⟩
    show nthF _ _ _ _ = _
    rw [h2, List.take_of_length_le (by omega)]
theorem mem_refT {B : Bk} (V : VB B) {X : List Ln} : X ∈ refT B ↔ fitsB B.n B.coin B.box B.ls B.cs X = true := by
  unfold refT fitsB
  rw [List.mem_filter, mem_allN3 V, Bool.and_eq_true (readB _ _ _)]
  rfl
theorem refT_ext {B : Bk} (V : VB B) {X : List Ln} : X ∈ refT B ↔ X ∈ exT B B.ls.length [] := by
  rw [mem_refT V, mem_exT, ext_fits V]
end Go.Ev
namespace Go.Ev
open Go.Proofs
set_option maxRecDepth 100000
end Go.Ev
namespace Go.Ev
open Go.Proofs
set_option maxRecDepth 100000
def tlD (X : List Ln) : List D := [.lst 3 (rows lnD X)]
theorem pu_tl (L : List (List Ln)) : PuE (rows tlD L) := pu_rows (fun x => by simp [tlD, PuL, Pu, pu_ln]) L
section
variable (n coin box : Int) (ls : List Ln) (cs : List Ct)
end
theorem hasB_nil {B : Bk} (V : VB B) : hasB B = true ↔ refT B ≠ [] := by
  unfold hasB
  rw [can_iff]
  constructor
  · rintro ⟨X, h⟩ he
    have := (refT_ext V).2 (mem_exT.2 h)
    rw [he] at this; cases this
  · intro h
    obtain ⟨X, s, hs⟩ := List.exists_cons_of_ne_nil h
    have : X ∈ refT B := by rw [hs]; exact List.mem_cons_self
    exact ⟨X, mem_exT.1 ((refT_ext V).1 this)⟩
end Go.Ev
namespace Go.Ev
open Go.Proofs
set_option maxRecDepth 100000
end Go.Ev
namespace Go.Ev
open Go.Proofs
set_option maxRecDepth 100000
theorem Fz.whole {B : Pos → Prop} {ob : T C} {id : Pos} {z st : Nat} {cs : List Cell} {cur : Nat} {es : List (List D)} {n : Nat} (hB : ¬ B id) (h : ob.get id = some (.cells false cs cur)) (hn : n = es.length) (hz : ∀ r ∈ es, r.length = z) (hc : cs = es.flatten.map fun d => Cell.o d st) (hp : PuE es) : Fz B ob (.sl id 0 n st z) (.lst z es) := by
  subst hc
  refine .sl hB h hn.symm hz (fun k d hk => ⟨.o d st, ?_, ?_, rfl⟩) (FzE.of hp)
  · rw [List.drop_zero, List.getElem?_map, hk]; rfl
  · show Nat.ble st st = true
    exact Nat.ble_eq_true_of_le (Nat.le_refl _)
end Go.Ev
namespace Go.Ev
open Go.Proofs
set_option maxRecDepth 100000
end Go.Ev
namespace Go.Ev
open Go.Proofs
set_option maxRecDepth 100000
def cP (m : Nat) (c : Int) (t : List Ln) : Bool := decide (0 ≤ cOut t c m)
theorem sE_false {n coin box : Int} {ls : List Ln} {cs : List Ct} (h : faultT n coin box ls cs = 0) (hb : hasB (B5 n coin box ls cs) = false) : sE n coin box ls cs true = 11 := by unfold sE; rw [if_neg (fun k => k h), hb]; rfl
theorem sE_true {n coin box : Int} {ls : List Ln} {cs : List Ct} (h : faultT n coin box ls cs = 0) (hb : hasB (B5 n coin box ls cs) = true) : sE n coin box ls cs true = 0 := by unfold sE; rw [if_neg (fun k => k h), hb]; rfl
end Go.Ev
namespace Go.Ev
open Go.Proofs
set_option maxRecDepth 1000000
def p126 : Pos := .o p63
def p127 : Pos := .i p63
def p128 : Pos := .o p64
def p129 : Pos := .i p64
def p130 : Pos := .o p65
def p131 : Pos := .i p65
def p132 : Pos := .o p66
def p133 : Pos := .i p66
noncomputable def rc54 : RC := (.seq (.reg [(.u (.box p2 (.t p1))), (.u (.mv p3 (.k (.b false))))]) (.seq (.reg [(.u (.ldn p4 (.t p2) 5)), (.u (.cf (some p5) p21 [(.t p4)])), (.u (.mv p6 (.t p5))), (.g p6 true (some p7) (.ldn p7 (.t p2) 5)), (.g p6 true (some p8) (.cf (some p8) p70 [(.t p7)])), (.g p6 true (some p9) (.bin p9 .eql (.t p8) (.k (.i .i64 0)))), (.u (.pick p10 (.t p6) (.t p9) (.k (.b false)))), (.u (.mv p3 (.t p10)))]) .ret))
def rs54 : List RR := [(.t p3)]
theorem fn54 : FnOk Try.prog p55.ix 10 rc54 rs54 := ⟨Try.f54, bodyC Try.f54, Try.func54, by kernel_rfl, by kernel_rfl, by kernel_rfl, by kernel_rfl, by kernel_rfl⟩
end Go.Ev
namespace Go.Ev
open Go.Proofs
theorem fit_lines : ∀ {es : List (List D)}, (∀ x ∈ es, FitL [.i .i64, .i .i64, .i .i64] x) → ∃ l : List Ln, es = rows lnD l ∧ ∀ r ∈ l, lnWf r
  | [], _ => ⟨[], rfl, fun r h => by cases h⟩
  | x :: es, h => by
    obtain ⟨l, rfl, hl⟩ := fit_lines (es := es) fun y hy => h y (by simp [hy])
    have h1 := h x (by simp)
    simp only [FitL, FitC] at h1
    obtain ⟨d, ds, rfl, ⟨n1, rfl, w1⟩, d2, ds2, rfl, ⟨n2, rfl, w2⟩, d3, ds3, rfl, ⟨n3, rfl, w3⟩, rfl⟩ := h1
    refine ⟨⟨n1, n2, n3⟩ :: l, rfl, fun r hr => ?_⟩
    rcases List.mem_cons.1 hr with rfl | hr
    · exact ⟨wfB_of w1, wfB_of w2, wfB_of w3⟩
    · exact hl r hr
theorem fit_counts : ∀ {es : List (List D)}, (∀ x ∈ es, FitL [.i .i64, .i .i64, .i .i64] x) → ∃ l : List Ct, es = rows ctD l
  | [], _ => ⟨[], rfl⟩
  | x :: es, h => by
    obtain ⟨l, rfl⟩ := fit_counts (es := es) fun y hy => h y (by simp [hy])
    have h1 := h x (by simp)
    simp only [FitL, FitC] at h1
    obtain ⟨d, ds, rfl, ⟨n1, rfl, w1⟩, d2, ds2, rfl, ⟨n2, rfl, w2⟩, d3, ds3, rfl, ⟨n3, rfl, w3⟩, rfl⟩ := h1
    exact ⟨⟨n1, n2, n3⟩ :: l, rfl⟩
theorem FitP.book {ps : List (Bool × List CK)} {ds : List D} (h : FitP ((true, [.i .i64, .i .i64, .i .i64, .sl [.i .i64, .i .i64, .i .i64], .sl [.i .i64, .i .i64, .i .i64]]) :: ps) ds) : ∃ n coin box ls cs ds', ds = .ag [.i .i64 n, .i .i64 coin, .i .i64 box, .lst 3 (rows lnD ls), .lst 3 (rows ctD cs)] :: ds' ∧ FitP ps ds' := by
  unfold FitP at h
  obtain ⟨es, ds', rfl, h1, h2⟩ := h
  simp only [FitL, FitC] at h1
  obtain ⟨d, ds, rfl, ⟨n1, rfl, _⟩, d2, ds2, rfl, ⟨n2, rfl, _⟩, d3, ds3, rfl, ⟨n3, rfl, _⟩, d4, ds4, rfl, ⟨e4, rfl, k4⟩, d5, ds5, rfl, ⟨e5, rfl, k5⟩, rfl⟩ := h1
  obtain ⟨ls, rfl, _⟩ := fit_lines fun x hx => by have := k4 x hx; simpa only [FitL, FitC] using this
  obtain ⟨cs, rfl⟩ := fit_counts fun x hx => by have := k5 x hx; simpa only [FitL, FitC] using this
  exact ⟨n1, n2, n3, ls, cs, ds', rfl, h2⟩
theorem FitP.lines {ps : List (Bool × List CK)} {ds : List D} (h : FitP ((false, [.sl [.i .i64, .i .i64, .i .i64]]) :: ps) ds) : ∃ (t : List Ln) (ds' : List D), ds = .lst 3 (rows lnD t) :: ds' ∧ (∀ r ∈ t, lnWf r) ∧ FitP ps ds' := by
  unfold FitP at h
  obtain ⟨d, ds', rfl, h1, h2⟩ := h
  simp only [FitL, FitC] at h1
  obtain ⟨d, ds, e, ⟨es, rfl, h1⟩, rfl⟩ := h1
  cases e
  obtain ⟨l, rfl, hl⟩ := fit_lines fun x hx => by have := h1 x hx; simpa only [FitL, FitC] using this
  exact ⟨l, ds', rfl, hl, h2⟩
end Go.Ev
namespace Go.Ev
open Go.Proofs
set_option maxRecDepth 100000
def readyB (n coin box : Int) (ls : List Ln) (cs : List Ct) : Bool := thinT n coin box ls cs && decide (faultT n coin box ls cs = 0)
theorem j_ready (n coin box : Int) (ls : List Ln) (cs : List Ct) : PureF Try.prog p55.ix [.ag (bk5 n coin box ls cs)] (.b (readyB n coin box ls cs)) := by
  have iT := j_Thin n coin box ls cs
  have iF := j_Fault n coin box ls cs
  unfold readyB
  refine PureF.run fn54 (by simp) (by simp [PuL, Pu, bk5, pu_ln, pu_ct]) ?_; conv => whnf
  cases hT : thinT n coin box ls cs with
  | false =>
    rw [hT] at iT
    repeat' first | ((first | with_reducible (first | apply Qt | apply Qu) | refine Qa rfl ?_ | refine Qk rfl ?_ | refine Qb ?_ | refine Qc ?_ | refine Qi ?_ | refine Qj ?_ | refine Qf (iT) ?_) <;> conv => whnf)
    exact Fin.b rfl rfl
  | true =>
    rw [hT] at iT
    repeat' first | ((first | with_reducible (first | apply Qt | apply Qu) | refine Qa rfl ?_ | refine Qk rfl ?_ | refine Qb ?_ | refine Qc ?_ | refine Qi ?_ | refine Qj ?_ | refine Qf (iT) ?_ | refine Qf (iF) ?_) <;> conv => whnf)
    exact Fin.b rfl rfl
theorem ready_of {n coin box : Int} {ls : List Ln} {cs : List Ct} (h : readyB n coin box ls cs = true) : ls.length ≤ 8 ∧ cs.length ≤ 4 ∧ faultT n coin box ls cs = 0 := by
  unfold readyB at h
  rw [Bool.and_eq_true, decide_eq_true_iff] at h
  obtain ⟨f1, f2, _, _⟩ := fault_okT h.2
  exact ⟨f1, f2, h.2⟩
end Go.Ev
namespace Go.Ev
open Go.Proofs
set_option maxRecDepth 100000
theorem WSt.shrN {sl : T D} {ob : T C} {nx : Pos} {lg : Option (T Bool)} {K : X → Prop} {d : Pos} {a j : Nat} {x y : RX} (hx : opd sl x = some (.i .i64 (a : Int))) (hy : opd sl y = some (.i .u64 (j : Int))) (ha : a ≤ 1000) (hj : j ≤ 63) (k : wOut sl ob nx lg d K (.i .i64 ((a / 2 ^ j : Nat) : Int))) : WSt (.bin d .shr x y) ⟨sl, ob, nx, lg⟩ K := by
  obtain ⟨k2, k3⟩ := wOut_ok k
  refine ⟨_, ?_, k3⟩
  show s_bin d .shr x y sl ob nx lg = _
  unfold s_bin
  rw [hx, hy]
  have hm : minN j 64 = j := by
    unfold minN
    rw [Nat.ble_eq_true_of_le (show j ≤ 64 by omega)]
    rfl
  have hs : ishr ((a : Nat) : Int) j = ((a / 2 ^ j : Nat) : Int) := rfl
  have hb : Nat.ble (a / 2 ^ j) 9223372036854775807 = true := Nat.ble_eq_true_of_le (Nat.le_trans (Nat.div_le_self _ _) (by omega))
  show intK .i64 (ishr ((a : Nat) : Int) (minN j 64)) _ = _
  rw [hm, hs]
  rw [intK_eq]
  exact k2
end Go.Ev