import Derived.Test.YtjgbfnciedkafaaEvUTq1
import Derived.Test.YtjgbfnciedkafaaEvUTq2
import Derived.Test.YtjgbfnciedkafaaEvUTq3
import Derived.Test.YtjgbfnciedkafaaEvUTq4
import Derived.Test.YtjgbfnciedkafaaEvUTq5
import Derived.Test.YtjgbfnciedkafaaEvUTq6
import Derived.Test.YtjgbfnciedkafaaEvURn
import Derived.Test.YtjgbfnciedkafaaEvUJ7
import Derived.Test.YtjgbfnciedkafaaEvUJs
import Derived.Test.YtjgbfnciedkafaaEvUTq0
set_option linter.all false
set_option maxHeartbeats 8000000
noncomputable section
namespace Go.Ev
open Go.Proofs
theorem Ki {p0 p1 : Nat × Nat} {l : List (Nat × Nat)} (h0 : p0 ∈ tqP) (h1 : p1 ∈ tqP) (hl : l ∈ dD 1) : dI (p0 :: p1 :: l) = true := by
 simp only [tqP, List.mem_cons, List.not_mem_nil, or_false] at h0 h1
 rcases h0 with rfl | rfl | rfl | rfl <;> rcases h1 with rfl | rfl | rfl | rfl
 ·exact List.all_eq_true.1 PE l hl
 ·exact List.all_eq_true.1 Pf l hl
 ·exact List.all_eq_true.1 No l hl
 ·exact List.all_eq_true.1 Og l hl
 ·exact List.all_eq_true.1 Pr l hl
 ·exact List.all_eq_true.1 PF l hl
 ·exact List.all_eq_true.1 Pm l hl
 ·exact List.all_eq_true.1 Oa l hl
 ·exact List.all_eq_true.1 Om l hl
 ·exact List.all_eq_true.1 NZ l hl
 ·exact List.all_eq_true.1 OM l hl
 ·exact List.all_eq_true.1 NE l hl
 ·exact List.all_eq_true.1 Nm l hl
 ·exact List.all_eq_true.1 OO l hl
 ·exact List.all_eq_true.1 PG l hl
 ·exact List.all_eq_true.1 Ot l hl
theorem LD {p0 p1 p2 : Nat × Nat} {l : List (Nat × Nat)} (h0 : p0 ∈ tqP) (h1 : p1 ∈ tqP) (h2 : p2 ∈ tqP) (hl : l ∈ dD 1) : dI (p0 :: p1 :: p2 :: l) = true := by
 simp only [tqP, List.mem_cons, List.not_mem_nil, or_false] at h0 h1 h2
 rcases h0 with rfl | rfl | rfl | rfl <;> rcases h1 with rfl | rfl | rfl | rfl <;> rcases h2 with rfl | rfl | rfl | rfl
 ·exact List.all_eq_true.1 Kf l hl
 ·exact List.all_eq_true.1 Lz l hl
 ·exact List.all_eq_true.1 JJ l hl
 ·exact List.all_eq_true.1 JR l hl
 ·exact List.all_eq_true.1 Jn l hl
 ·exact List.all_eq_true.1 KG l hl
 ·exact List.all_eq_true.1 Kw l hl
 ·exact List.all_eq_true.1 Mf l hl
 ·exact List.all_eq_true.1 Mc l hl
 ·exact List.all_eq_true.1 Mk l hl
 ·exact List.all_eq_true.1 KA l hl
 ·exact List.all_eq_true.1 Kl l hl
 ·exact List.all_eq_true.1 Kk l hl
 ·exact List.all_eq_true.1 Ke l hl
 ·exact List.all_eq_true.1 Jk l hl
 ·exact List.all_eq_true.1 Ka l hl
 ·exact List.all_eq_true.1 Le l hl
 ·exact List.all_eq_true.1 Lt l hl
 ·exact List.all_eq_true.1 Ll l hl
 ·exact List.all_eq_true.1 Mm l hl
 ·exact List.all_eq_true.1 Lg l hl
 ·exact List.all_eq_true.1 KD l hl
 ·exact List.all_eq_true.1 KH l hl
 ·exact List.all_eq_true.1 La l hl
 ·exact List.all_eq_true.1 LM l hl
 ·exact List.all_eq_true.1 LG l hl
 ·exact List.all_eq_true.1 JF l hl
 ·exact List.all_eq_true.1 KC l hl
 ·exact List.all_eq_true.1 Ml l hl
 ·exact List.all_eq_true.1 Jz l hl
 ·exact List.all_eq_true.1 Lc l hl
 ·exact List.all_eq_true.1 JL l hl
 ·exact List.all_eq_true.1 Jo l hl
 ·exact List.all_eq_true.1 Mj l hl
 ·exact List.all_eq_true.1 Ku l hl
 ·exact List.all_eq_true.1 Kx l hl
 ·exact List.all_eq_true.1 Jx l hl
 ·exact List.all_eq_true.1 KR l hl
 ·exact List.all_eq_true.1 KJ l hl
 ·exact List.all_eq_true.1 Kr l hl
 ·exact List.all_eq_true.1 Lo l hl
 ·exact List.all_eq_true.1 LB l hl
 ·exact List.all_eq_true.1 KM l hl
 ·exact List.all_eq_true.1 LW l hl
 ·exact List.all_eq_true.1 Mb l hl
 ·exact List.all_eq_true.1 KZ l hl
 ·exact List.all_eq_true.1 Kg l hl
 ·exact List.all_eq_true.1 Kq l hl
 ·exact List.all_eq_true.1 Me l hl
 ·exact List.all_eq_true.1 Jw l hl
 ·exact List.all_eq_true.1 JB l hl
 ·exact List.all_eq_true.1 LQ l hl
 ·exact List.all_eq_true.1 LI l hl
 ·exact List.all_eq_true.1 LJ l hl
 ·exact List.all_eq_true.1 JV l hl
 ·exact List.all_eq_true.1 Jv l hl
 ·exact List.all_eq_true.1 JQ l hl
 ·exact List.all_eq_true.1 Ky l hl
 ·exact List.all_eq_true.1 LX l hl
 ·exact List.all_eq_true.1 LL l hl
 ·exact List.all_eq_true.1 Kh l hl
 ·exact List.all_eq_true.1 Km l hl
 ·exact List.all_eq_true.1 Lm l hl
 ·exact List.all_eq_true.1 KK l hl
theorem NY : ∀ {ps : List (Nat × Nat)}, 1 <= ps.length -> ps.length <= 4 -> (∀ p ∈ ps, p ∈ tqP) -> dI ps = true
 | [], h, _, _ => absurd h (by decide)
 | [a], _, _, k => List.all_eq_true.1 Uf _ (qM rfl k)
 | [a, b], _, _, k => List.all_eq_true.1 UA _ (qM rfl k)
 | [a, b, c], _, _, k => Ki (k a (by simp)) (k b (by simp)) (qM (n := 1) (ps := [c]) rfl fun p hp => k p (by simp at hp; simp [hp]))
 | [a, b, c, d], _, _, k => LD (k a (by simp)) (k b (by simp)) (k c (by simp)) (qM (n := 1) (ps := [d]) rfl fun p hp => k p (by simp at hp; simp [hp]))
 | _ :: _ :: _ :: _ :: _ :: l, _, h, _ => absurd h (by simp)
theorem Rf {ps : List (Nat × Nat)} (h1 : 1 <= ps.length) (h2 : ps.length <= 4) (k : ∀ p ∈ ps, p ∈ tqP) :
 PureF Try.prog tq71.ix [.lst 1 (ints (SP ps)), .i .i64 (Int.ofNat (yB ps))] (Je ps) /\ PureF Try.prog tq73.ix [Je ps] (Je ps) /\
 PureF Try.prog tq72.ix [Je ps, .i .i64 (Int.ofNat 0), .i .i64 (Int.ofNat (ps.length - 1))] (.tp [.ag [.i .i64 (Int.ofNat (yB ps)), .i .i64 (Int.ofNat (yB ps))], .i .i64 (Int.ofNat 0)]) /\
 PureF Try.prog tq74.ix [Je ps, .lst 1 (ints (Rr ps))] (.b true) := by
 have h := NY h1 h2 k
 unfold dI at h
 simp only [Bool.and_eq_true] at h
 exact ⟨zD Bh h.1.1.1, zD Bh h.1.1.2, zD Bh h.1.2, zD Bh h.2⟩
def blk1 (l : List Int) : C := .cells false (l.map fun x => Cell.o (.i .i64 x) 0) 1
theorem ME : ∀ l : List Int, (ints l).flatten = l.map fun x => D.i .i64 x
 | [] => rfl
 | a :: l => by
   have := ME l
   unfold ints at this ⊢
   simp [this]
theorem Fz.blk1 {B : Pos -> Prop} {ob : T C} {id : Pos} {l : List Int} {n : Nat} (hB : ¬ B id) (h : ob.get id = some (blk1 l)) (hn : l.length = n) : Fz B ob (.sl id 0 n 0 1) (.lst 1 (ints l)) := by
 refine .sl (es := ints l) hB h (by rw [aR, hn]) (fun r hr => ?_) (fun k d hk => ?_) (FzE.of (aJ l))
 ·obtain ⟨x, _, rfl⟩ := List.mem_map.1 hr; rfl
 ·rw [ME l, List.getElem?_map] at hk
  cases hl : l[k]? with
  | none => rw [hl] at hk; cases hk
  | some x =>
    rw [hl] at hk
    cases hk
    exact ⟨.o (.i .i64 x) 0, by rw [List.drop_zero, List.getElem?_map, hl]; rfl, rfl, rfl⟩
theorem ShC.blk1 {B : Pos -> Prop} {ob : T C} : ∀ l : List Int, ShC B ob (blk1 l) (blk1 l) := fun l => by
 refine ShC.same ?_
 induction l with
 | nil => exact ShC.nl
 | cons a l ih => exact ShC.cn (.pu trivial) ih
theorem AH {β : Type} : ∀ (m : Nat) (F : List Cell -> Option β), (Nat.rec (motive := fun _ => (List Cell -> Option β) -> Option β) (fun k => k []) (fun _ ih k => ih fun l => jG (fun d => .o d 0) [D.i .i64 0] l k) m) F = F ((List.replicate m (0 : Int)).map fun x => Cell.o (.i .i64 x) 0)
 | 0, F => rfl
 | m + 1, F => by
   show (Nat.rec (motive := fun _ => (List Cell -> Option β) -> Option β) (fun k => k []) (fun _ ih k => ih fun l => jG (fun d => .o d 0) [D.i .i64 0] l k) m) (fun l => jG (fun d => .o d 0) [D.i .i64 0] l F) = _
   rw [AH m, iV, List.replicate_succ]; rfl
section
variable {sl : T D} {ob : T C} {nx : Pos} {lg : Option (T Bool)} {K : X -> Prop}
theorem WSt.mks1 {d : Pos} {x y : RX} {m : Nat} (hx : bG sl x = some (.i .i64 (m : Int))) (hy : bG sl y = some (.i .i64 (m : Int))) (hm : m <= 65536) (h : IM lg nx fun lg => T.setK nx (blk1 (List.replicate m 0)) ob fun ob => Pos.succK nx fun nx' => dX sl ob nx' lg d K (.sl nx 0 m 0 1)) : WSt (.mks d 1 [.i .i64 0] x y) ⟨sl, ob, nx, lg⟩ K := by
 obtain ⟨l1, e1, h⟩ := lN h
 rw [T.setK_eq, Pos.succK_eq] at h
 obtain ⟨h2, h3⟩ := aT h
 refine ⟨_, ?_, h3⟩
 show wB d 1 [.i .i64 0] x y sl ob nx lg = _
 unfold wB
 rw [hx, hy]
 have hb : (Nat.beq m m && Nat.ble m 65536) = true := by
  rw [Nat.beq_refl, Nat.ble_eq_true_of_le hm]; rfl
 show (bif Nat.beq m m && Nat.ble m 65536 then _ else none) = _
 rw [hb, cond_true, AH m]
 unfold fH
 rw [e1]
 show (T.setK nx _ ob fun ob => Pos.succK nx fun nx' => bA sl ob nx' l1 d (.sl nx 0 m 0 1) : Option X) = _
 rw [T.setK_eq, Pos.succK_eq]
 exact h2
end
theorem Ik (l : List Int) (j : Nat) (x : Int) : (l.map fun x => Cell.o (.i .i64 x) 0).set j (.o (.i .i64 x) 0) = (l.set j x).map fun x => Cell.o (.i .i64 x) 0 := (List.map_set).symm
def xS (f : Nat -> Int) (n j : Nat) : List Int := (List.range n).map fun i => if i < j /\ f i < 0 then 1 else 0
theorem Dd (f : Nat -> Int) (n j : Nat) : (xS f n j).length = n := by simp [xS]
theorem Sj (f : Nat -> Int) (n : Nat) : xS f n 0 = List.replicate n 0 := by
 unfold xS
 refine List.ext_getElem (by simp) fun i h1 h2 => ?_
 simp
theorem NI (f : Nat -> Int) (n j : Nat) (h : f j < 0) : (xS f n j).set j 1 = xS f n (j + 1) := by
 refine List.ext_getElem (by simp [xS]) fun i h1 h2 => ?_
 simp only [List.getElem_set, xS, List.getElem_map, List.getElem_range]
 by_cases e : j = i
 ·subst e; simp [h]
 ·rw [if_neg e]
  have : (i < j + 1 /\ f i < 0) ↔ (i < j /\ f i < 0) := ⟨fun ⟨a, b⟩ => ⟨by omega, b⟩, fun ⟨a, b⟩ => ⟨by omega, b⟩⟩
  simp only [this]
theorem Lb (f : Nat -> Int) (n j : Nat) (h : ¬ f j < 0) : xS f n j = xS f n (j + 1) := by
 refine List.ext_getElem (by simp [xS]) fun i h1 h2 => ?_
 simp only [xS, List.getElem_map, List.getElem_range]
 have : (i < j + 1 /\ f i < 0) ↔ (i < j /\ f i < 0) := ⟨fun ⟨a, b⟩ => by
  refine ⟨?_, b⟩
  by_cases e : i = j
  ·subst e; exact absurd b h
  ·omega, fun ⟨a, b⟩ => ⟨by omega, b⟩⟩
 simp only [this]
def xX (V : List Int) (f : Nat -> Int) (n : Nat) : List (Nat × Nat) := (List.range n).map fun i => ((V.getD i 0).toNat, if f i < 0 then 1 else 0)
theorem LO (V : List Int) (f : Nat -> Int) (n : Nat) : (xX V f n).length = n := by simp [xX]
theorem JT {V : List Int} {f : Nat -> Int} {n : Nat} (h : ∀ j, j < n -> (1 <= V.getD j 0 /\ V.getD j 0 <= 3) /\ (V.getD j 0 = 1 -> ¬ f j < 0) /\ (V.getD j 0 = 2 -> f j < 0)) : ∀ p ∈ xX V f n, p ∈ tqP := fun p hp => by
 obtain ⟨i, hi, rfl⟩ := List.mem_map.1 hp
 obtain ⟨⟨a, b⟩, c, d⟩ := h i (List.mem_range.1 hi)
 have hv : V.getD i 0 = 1 \/ V.getD i 0 = 2 \/ V.getD i 0 = 3 := by omega
 rcases hv with e | e | e
 ·rw [e, if_neg (c e)]; simp [tqP]
 ·rw [e, if_pos (d e)]; simp [tqP]
 ·rw [e]
  by_cases hf : f i < 0
  ·rw [if_pos hf]; simp [tqP]
  ·rw [if_neg hf]; simp [tqP]
theorem SW {V : List Int} {f : Nat -> Int} {n : Nat} (hl : V.length = n) (h : ∀ j, j < n -> 0 <= V.getD j 0) : SP (xX V f n) = V := by
 refine List.ext_getElem (by simp [SP, xX, hl]) fun i h1 h2 => ?_
 simp only [SP, xX, List.getElem_map, List.getElem_range]
 have := h i (by omega)
 rw [show V[i] = V.getD i 0 by simp [List.getD, h2]]
 show ((V.getD i 0).toNat : Int) = _
 omega
theorem RD (V : List Int) (f : Nat -> Int) (n : Nat) : Rr (xX V f n) = xS f n n := by
 refine List.ext_getElem (by simp [Rr, xX, xS]) fun i h1 h2 => ?_
 simp only [Rr, xX, xS, List.getElem_map, List.getElem_range]
 have hi : i < n := by simpa [xS] using h2
 by_cases hf : f i < 0 <;> simp [hf, hi]
theorem DT : ∀ (a b : List (Nat × Nat)), yB (a ++ b) = yB a + yB b
 | [], b => by simp [yB]
 | p :: a, b => by simp [yB, DT a b]; omega
theorem Nj (V : List Int) (f : Nat -> Int) (g : Nat -> Nat) (hg0 : g 0 = 0) (hg : ∀ j, g (j + 1) = g j + (if f j < 0 then 0 else 1)) : ∀ n, yB (xX V f n) + g n = n
 | 0 => by simp [xX, yB, hg0]
 | n + 1 => by
   have ih := Nj V f g hg0 hg n
   have e : xX V f (n + 1) = xX V f n ++ [((V.getD n 0).toNat, if f n < 0 then 1 else 0)] := by simp [xX, List.range_succ]
   rw [e, DT, hg n]
   show yB (xX V f n) + ((if f n < 0 then 1 else 0) + 0) + _ = _
   by_cases hf : f n < 0
   ·rw [if_pos hf, if_pos hf]; omega
   ·rw [if_neg hf, if_neg hf]; omega
end Go.Ev
end
