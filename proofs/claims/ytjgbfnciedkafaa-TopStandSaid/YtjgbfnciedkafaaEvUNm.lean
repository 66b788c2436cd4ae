import Derived.Test.YtjgbfnciedkafaaEvUNj
import Derived.Test.YtjgbfnciedkafaaEvUJb
import Derived.Test.YtjgbfnciedkafaaEvUHh
import Derived.Test.YtjgbfnciedkafaaEvUDs
import Derived.Test.YtjgbfnciedkafaaProg
set_option linter.all false
set_option maxHeartbeats 8000000
noncomputable section
namespace Go.Ev
open Go.Proofs
set_option maxRecDepth 100000
section
variable {n coin box : Int} {L T : List Ln} {C : List Ct}
theorem Nn (h0 : aS n coin box L C = 0) (hHI : HI n T L) (hC : ∀ c ∈ C, CtG box coin T c) : T ∈ pA (B5 n coin box L C) := by
 refine (mQ (VB.of h0)).2 ?_
 show (jE n L T && (eG T && yG box coin C T)) = true
 rw [hHI.rd, hHI.poss, Bool.true_and, Bool.true_and]
 unfold yG
 rw [List.all_eq_true]
 exact fun c hc => (hC c hc).r
variable (h0 : aS n coin box L C = 0) (hm : T ∈ pA (B5 n coin box L C))
include h0 hm
theorem Hd : sQ (B5 n coin box L C) = true := (GN (VB.of h0)).2 fun h => by rw [h] at hm; cases hm
theorem MI : T ∈ hU (B5 n coin box L C) (B5 n coin box L C).ls.length [] := (mR (VB.of h0)).1 hm
theorem Pc : T.length = L.length := IT (VB.of h0) hm
theorem Is (k : Nat) (f : Mo -> Int) : f (fC box coin T k) ∈ fL (B5 n coin box L C) k f := List.mem_map.2 ⟨T, MI h0 hm, rfl⟩
theorem NV (k : Nat) (f : Mo -> Int) : (fL (B5 n coin box L C) k f).foldl min ((fL (B5 n coin box L C) k f).getD 0 0) <= f (fC box coin T k) /\ f (fC box coin T k) <= (fL (B5 n coin box L C) k f).foldl max ((fL (B5 n coin box L C) k f).getD 0 0) :=
 ⟨(iY _ _).2.1 _ (Is h0 hm k f), (iZ _ _).2.1 _ (Is h0 hm k f)⟩
theorem Ly {p : List Ln -> Bool} {R : List (List Ln)} (hT : T ∈ R) : (1 <= yA (zL p R) (R.length : Int) /\ yA (zL p R) (R.length : Int) <= 3) /\ (yA (zL p R) (R.length : Int) = 1 -> p T = true) /\ (yA (zL p R) (R.length : Int) = 2 -> p T = false) := by
 have hle := List.length_filter_le p R
 unfold yA zL
 refine ⟨by split <;> (try split) <;> omega, fun h => ?_, fun h => ?_⟩
 ·by_cases e : ((R.filter p).length : Int) = (R.length : Int)
  ·exact List.length_filter_eq_length_iff.1 (by omega) T hT
  ·rw [if_neg e] at h
   split at h <;> cases h
 ·by_cases e : ((R.filter p).length : Int) = (R.length : Int)
  ·rw [if_pos e] at h; cases h
  ·rw [if_neg e] at h
   by_cases e2 : ((R.filter p).length : Int) = 0
   ·cases hp : p T with
    | false => rfl
    | true =>
      have : T ∈ R.filter p := List.mem_filter.2 ⟨hT, hp⟩
      have := List.length_pos_of_mem this
      omega
   ·rw [if_neg e2] at h; cases h
theorem Oz (k : Nat) {a : Nat} (ha : a < 4) : (1 <= CM (B5 n coin box L C) k (0 + a) /\ CM (B5 n coin box L C) k (0 + a) <= 3) /\ (CM (B5 n coin box L C) k (0 + a) = 1 -> decide (0 <= bK T (a : Int) k) = true) /\ (CM (B5 n coin box L C) k (0 + a) = 2 -> decide (0 <= bK T (a : Int) k) = false) := by
 have V := VB.of h0
 have h := Pw V (aft := k) (x := a) (by omega) (Dl (yP h0 (Hd h0 hm)))
 rw [if_pos ha] at h
 rw [Nat.zero_add, h]
 exact Ly h0 hm (p := cP k (a : Int)) hm
theorem MV : okT (B5 n coin box L C) T := fun i hi => (iF.1 (MI h0 hm)).st i (Nat.zero_le _) hi
end
def Ap (f : Nat -> Int) : Nat -> Int
 | 0 => 0
 | a + 1 => Ap f a + jC (f a)
theorem wW {T : List Ln} {c : Int} : ∀ {k : Nat}, (∀ i, i < k -> (T.getD i default).c ≠ c) -> bK T c k = -1
 | 0, _ => rfl
 | k + 1, h => by
   unfold bK
   rw [if_neg (h k (by omega))]
   exact wW fun i hi => h i (by omega)
theorem wM {T : List Ln} {c : Int} : ∀ {k : Nat}, (∀ i, i < k -> (T.getD i default).t ≠ c) -> bY T c k = -1
 | 0, _ => rfl
 | k + 1, h => by
   unfold bY
   rw [if_neg (h k (by omega))]
   exact wM fun i hi => h i (by omega)
theorem zI (f : Nat -> Int) : ∀ a : Nat, 0 <= Ap f a /\ Ap f a <= a
 | 0 => by show (0 : Int) <= 0 /\ (0 : Int) <= 0; omega
 | a + 1 => by
   have := zI f a
   show 0 <= Ap f a + jC (f a) /\ Ap f a + jC (f a) <= ((a + 1 : Nat) : Int)
   unfold jC
   split <;> omega
theorem AC {f : Nat -> Int} {n : Nat} (h1 : 1 <= n) (h4 : n <= 4) (h : ∀ c, n <= c -> c < 4 -> f c = -1) : Ap f n = jC (f 0) + jC (f 1) + jC (f 2) + jC (f 3) := by
 have z : jC (-1) = 0 := rfl
 have : n = 1 \/ n = 2 \/ n = 3 \/ n = 4 := by omega
 rcases this with rfl | rfl | rfl | rfl
 ·show 0 + jC (f 0) = _
  rw [h 1 (by omega) (by omega), h 2 (by omega) (by omega), h 3 (by omega) (by omega), z]; omega
 ·show 0 + jC (f 0) + jC (f 1) = _
  rw [h 2 (by omega) (by omega), h 3 (by omega) (by omega), z]; omega
 ·show 0 + jC (f 0) + jC (f 1) + jC (f 2) = _
  rw [h 3 (by omega) (by omega), z]; omega
 ·show 0 + jC (f 0) + jC (f 1) + jC (f 2) + jC (f 3) = _
  omega
theorem Pl {n coin box : Int} {L T : List Ln} {C : List Ct} (h0 : aS n coin box L C = 0) (hm : T ∈ pA (B5 n coin box L C)) {k : Nat} (hk : k <= T.length) : bZ box coin T k = box + coin * Ap (fun a => bK T (a : Int) k) n.toNat /\ Ap (fun a => bY T (a : Int) k) n.toNat = Ap (fun a => bK T (a : Int) k) n.toNat := by
 have V := VB.of h0
 have hn : 1 <= n /\ n <= 4 := V.n
 have hf := (mQ V).1 hm
 have hf : (jE n L T && (eG T && yG box coin C T)) = true := hf
 rw [Bool.and_eq_true] at hf
 have r1 := (DI.1 hf.1).2
 have rng : ∀ i, i < T.length -> (0 <= (T.getD i default).c /\ (T.getD i default).c <= n - 1) /\ (0 <= (T.getD i default).t /\ (T.getD i default).t <= n - 1) := fun i hi => by
  have := r1 i hi
  unfold Ni at this
  simp only [Bool.and_eq_true, aP] at this
  exact ⟨this.2.1, this.2.2.1⟩
 obtain ⟨m1, m2⟩ := sZ V (MV h0 hm) (by rw [Pc h0 hm]; exact Nat.le_refl _) k hk
 have s1 := AC (f := fun a => bK T (a : Int) k) (n := n.toNat) (by omega) (by omega) (fun c h1 h2 => wW fun i hi => by have := (rng i (by omega)).1; omega)
 have s2 := AC (f := fun a => bY T (a : Int) k) (n := n.toNat) (by omega) (by omega) (fun c h1 h2 => wM fun i hi => by have := (rng i (by omega)).2; omega)
 have m1 : bZ box coin T k = box + coin * Ab T k := m1
 have e1 : Ab T k = Ap (fun a => bK T (a : Int) k) n.toNat := s1.symm
 have e2 : ID T k = Ap (fun a => bY T (a : Int) k) n.toNat := s2.symm
 exact ⟨by rw [m1, e1], by rw [<- e1, <- e2, m2]⟩
theorem HT {n coin box : Int} {ls : List Ln} {cs : List Ct} {T : List Ln} (h0 : aS n coin box ls cs = 0) (hF : cI n ls T = true) : mT n coin box ls cs T = ((List.range (T.length + 1)).map (bZ box coin T), gT T T.length, 0) := by
 have hl : T.length = ls.length := by
  unfold cI at hF
  rw [Bool.and_eq_true] at hF
  exact of_decide_eq_true hF.1
 have hfo : sO box coin n ls T = vP box coin T T.length := by unfold sO; rw [hF]; rfl
 unfold mT
 rw [if_pos h0, if_pos hF, hfo, <- hl, oP (Nat.le_refl _)]
 congr 1
 refine List.map_congr_left fun q hq => ?_
 have hq := List.mem_range.1 hq
 rw [oP (by omega)]
 rfl
section
variable (n coin box : Int) (ls : List Ln) (cs : List Ct) (L : List (List Ln)) (line : Nat) (R : List Ln)
end
set_option maxRecDepth 1000000
set_option maxRecDepth 100000
set_option maxRecDepth 1000000
set_option maxRecDepth 100000
theorem Ga {α : Type} {l : List α} {x d : α} (h : x ∈ l) : ∃ i, i < l.length /\ l.getD i d = x := by
 obtain ⟨i, hi, e⟩ := List.getElem_of_mem h
 exact ⟨i, hi, by simp [List.getD, hi, e]⟩
structure Finer (Bx Bb : Bk) : Prop where
 n : Bx.n = Bb.n
 coin : Bx.coin = Bb.coin
 box : Bx.box = Bb.box
 vx : VB Bx
 vb : VB Bb
 ne : hU Bx Bx.ls.length [] ≠ []
 sub : ∀ X ∈ hU Bx Bx.ls.length [], ∃ Y ∈ hU Bb Bb.ls.length [], SameTo Bb.ls.length X Y
theorem Finer.ans {Bx Bb : Bk} (F : Finer Bx Bb) {k : Nat} (hk : k <= Bb.ls.length) (f : Mo -> Int) : ∀ v ∈ fL Bx k f, v ∈ fL Bb k f := fun v hv => by
 obtain ⟨X, hX, rfl⟩ := List.mem_map.1 hv
 obtain ⟨Y, hY, hs⟩ := F.sub X hX
 refine List.mem_map.2 ⟨Y, hY, ?_⟩
 show f (fC Bb.box Bb.coin Y k) = f (fC Bx.box Bx.coin X k)
 rw [F.box, F.coin, iX (hs.le hk)]
theorem Finer.bnd {Bx Bb : Bk} (F : Finer Bx Bb) {k : Nat} (hk : k <= Bb.ls.length) (f : Mo -> Int) : (fL Bb k f).foldl min ((fL Bb k f).getD 0 0) <= (fL Bx k f).foldl min ((fL Bx k f).getD 0 0) /\ (fL Bx k f).foldl max ((fL Bx k f).getD 0 0) <= (fL Bb k f).foldl max ((fL Bb k f).getD 0 0) := by
 have g := Hp (CN (aft := k) (ak := f) F.ne)
 exact ⟨(iY _ _).2.1 _ (F.ans hk f _ g.1), (iZ _ _).2.1 _ (F.ans hk f _ g.2)⟩
theorem Finer.was {Bx Bb : Bk} (F : Finer Bx Bb) {line : Nat} (hl : line < Bb.ls.length) : ∀ v ∈ Tg Bx line, v ∈ Tg Bb line := fun v hv => by
 obtain ⟨_, h2⟩ := List.mem_filter.1 hv
 rw [List.any_eq_true] at h2
 obtain ⟨X, hX, e⟩ := h2
 obtain ⟨Y, hY, hs⟩ := F.sub X hX
 have e : X.getD line default = v := of_decide_eq_true e
 have e2 : Y.getD line default = v := by rw [hs line hl]; exact e
 have hYe := iF.1 hY
 have hYl : Y.length = Bb.ls.length := by have := hYe.len; simpa using this
 refine List.mem_filter.2 ⟨?_, ?_⟩
 ·rw [<- e2]
  exact iW.2 (hYe.st line (Nat.zero_le _) (by omega)).1
 ·rw [List.any_eq_true]
  exact ⟨Y, hY, decide_eq_true e2⟩
open Go.RowKit (Below Grown)
theorem oL {α : Type} : ∀ (n : Nat) (l : List α), eI n l = l.drop n
 | 0, l => rfl
 | n + 1, [] => rfl
 | n + 1, _ :: l => oL n l
theorem Vis.nil {st : Nat} {l : List Cell} : Vis st l [] := fun k d hk => by cases hk
theorem Vis.app {st : Nat} {l : List Cell} {a b : List D} (h : Vis st l a) (k : Vis st (l.drop a.length) b) : Vis st l (a ++ b) := fun i d hi => by
 by_cases hlt : i < a.length
 ·rw [List.getElem?_append_left hlt] at hi
  exact h i d hi
 ·rw [List.getElem?_append_right (by omega)] at hi
  obtain ⟨c, h1, h2⟩ := k _ d hi
  rw [List.getElem?_drop] at h1
  exact ⟨c, by rw [<- h1]; congr 1; omega, h2⟩
theorem wN {st : Nat} : ∀ {n : Nat} {l : List Cell} {ds : List D} {r : List Cell}, yM st n l = some (ds, r) -> ds.length = n /\ Vis st l ds /\ r = l.drop n
 | 0, l, ds, r, h => by cases h; exact ⟨rfl, Vis.nil, rfl⟩
 | n + 1, [], ds, r, h => by cases h
 | n + 1, c :: l, ds, r, h => by
   unfold yM at h
   cases hc : c.has st with
   | false => rw [hc] at h; cases h
   | true =>
     rw [hc, cond_true] at h
     split at h
     ·rename_i ds' r' h1
      cases h
      obtain ⟨k1, k2, k3⟩ := wN h1
      refine ⟨by rw [List.length_cons, k1], fun k d hk => ?_, k3⟩
      cases k with
      | zero => cases hk; exact ⟨c, rfl, hc, rfl⟩
      | succ k => exact k2 k d hk
     ·cases h
theorem uF {st z : Nat} : ∀ {n : Nat} {l : List Cell} {es : List (List D)}, BD st z n l = some es -> es.length = n /\ (∀ r ∈ es, r.length = z) /\ Vis st l es.flatten
 | 0, l, es, h => by cases h; exact ⟨rfl, (fun r hr => by cases hr), Vis.nil⟩
 | n + 1, l, es, h => by
   unfold BD at h
   split at h
   ·rename_i r l' h1
    split at h
    ·rename_i es' h2
     cases h
     obtain ⟨k1, k2, rfl⟩ := wN h1
     obtain ⟨k3, k4, k5⟩ := uF h2
     refine ⟨by rw [List.length_cons, k3], fun q hq => ?_, ?_⟩
     ·rcases List.mem_cons.1 hq with e | hq
      ·rw [e]; exact k1
      ·exact k4 q hq
     ·rw [List.flatten_cons]
      exact k2.app (by rw [k1]; exact k5)
    ·cases h
   ·cases h
theorem CQ {α β : Type} {f : α -> Option β} : ∀ {l : List α} {r : List β}, mpO f l = some r -> l.length = r.length /\ ∀ (i : Nat) (a : α), l[i]? = some a -> ∃ b, f a = some b /\ r[i]? = some b
 | [], r, h => by cases h; exact ⟨rfl, fun i a hi => by cases hi⟩
 | a :: l, r, h => by
   unfold mpO at h
   split at h
   ·rename_i b hb
    split at h
    ·rename_i r' hr
     cases h
     obtain ⟨k1, k2⟩ := CQ hr
     refine ⟨by simp [k1], fun i x hi => ?_⟩
     cases i with
     | zero => cases hi; exact ⟨b, hb, rfl⟩
     | succ i => exact k2 i x hi
    ·cases h
   ·cases h
theorem kF {α β : Type} {f : α -> Option β} {a : α} {l : List α} {r : List β} (h : mpO f (a :: l) = some r) : ∃ b r', f a = some b /\ mpO f l = some r' /\ r = b :: r' := by
 unfold mpO at h
 split at h
 ·rename_i b hb
  split at h
  ·rename_i r' hr
   cases h
   exact ⟨b, r', hb, hr, rfl⟩
  ·cases h
 ·cases h
section
variable {B : Pos -> Prop} {ob : T C}
theorem qB {f : D -> Option D} (hf : ∀ d e, f d = some e -> Fz B ob d e) : ∀ {l r : List D}, mpO f l = some r -> FzL B ob l r
 | [], r, h => by cases h; exact .nil
 | a :: l, r, h => by
   obtain ⟨b, r', h1, h2, rfl⟩ := kF h
   exact .cons (hf _ _ h1) (qB hf h2)
theorem zN {f : D -> Option D} (hf : ∀ d e, f d = some e -> Fz B ob d e) : ∀ {l r : List (List D)}, mpO (mpO f) l = some r -> FzE B ob l r
 | [], r, h => by cases h; exact .nil
 | a :: l, r, h => by
   obtain ⟨b, r', h1, h2, rfl⟩ := kF h
   exact .cons (qB hf h1) (zN hf h2)
theorem tF {f : D -> Option D} (hf : ∀ d e, f d = some e -> Pu e) : ∀ {l r : List D}, mpO f l = some r -> aO r
 | [], r, h => by cases h; trivial
 | a :: l, r, h => by
   obtain ⟨b, r', h1, h2, rfl⟩ := kF h
   unfold aO
   exact ⟨hf _ _ h1, tF hf h2⟩
theorem zW {f : D -> Option D} (hf : ∀ d e, f d = some e -> Pu e) : ∀ {l r : List (List D)}, mpO (mpO f) l = some r -> eB r
 | [], r, h => by cases h; trivial
 | a :: l, r, h => by
   obtain ⟨b, r', h1, h2, rfl⟩ := kF h
   unfold eB
   exact ⟨tF hf h1, zW hf h2⟩
theorem Cw (hB : ∀ id, ¬ B id) : ∀ {n : Nat} {d e : D}, FC ob n d = some e -> Fz B ob d e /\ Pu e
 | 0, _, _, h => by cases h
 | n + 1, d, e, h => by
   have i1 : ∀ d e, FC ob n d = some e -> Fz B ob d e := fun _ _ h => (Cw hB h).1
   have i2 : ∀ d e, FC ob n d = some e -> Pu e := fun _ _ h => (Cw hB h).2
   unfold FC at h
   cases d
   case sl id off len st z =>
    dsimp only at h
    split at h
    ·rename_i ro cs cur hc
     split at h
     ·rename_i es hes
      split at h
      ·rename_i fs hfs
       cases h
       obtain ⟨k1, k2, k3⟩ := uF hes
       rw [oL] at k3
       exact ⟨.sl (hB id) hc k1 k2 k3 (zN i1 hfs), by unfold Pu; exact zW i2 hfs⟩
      ·cases h
     ·cases h
    ·cases h
   case lst z es =>
    dsimp only at h
    split at h
    ·rename_i fs hfs
     cases h
     exact ⟨.lst (zN i1 hfs), by unfold Pu; exact zW i2 hfs⟩
    ·cases h
   case ag cs =>
    dsimp only at h
    split at h
    ·rename_i fs hfs
     cases h
     exact ⟨.ag (qB i1 hfs), by unfold Pu; exact tF i2 hfs⟩
    ·cases h
   case tp cs =>
    dsimp only at h
    split at h
    ·rename_i fs hfs
     cases h
     exact ⟨.tp (qB i1 hfs), by unfold Pu; exact tF i2 hfs⟩
    ·cases h
   all_goals first | (cases h; done) | (cases h; exact ⟨.pu (by unfold Pu; trivial), by unfold Pu; trivial⟩)
end
def Mu (ob : T C) : Nat -> D -> Option D
 | 0, _ => none
 | n + 1, d => match d with
   | .sl id off len st z => match ob.get id with
     | some (.cells _ cs _) => match BD st z len (eI off cs) with
       | some es => match mpO (mpO (Mu ob n)) es with
         | some fs => some (.lst z fs)
         | none => none
       | none => none
     | _ => none
   | .ag cs => match mpO (Mu ob n) cs with
     | some ds => some (.ag ds)
     | none => none
   | .tp cs => match mpO (Mu ob n) cs with
     | some ds => some (.tp ds)
     | none => none
   | .b x => some (.b x)
   | .i k n => some (.i k n)
   | .ns => some .ns
   | .em => some .em
   | .np => some .np
   | .nf => some .nf
   | .nm => some .nm
   | _ => none
section
variable {P : Program} {γ γ' : Gh} {w : World} {ob : T C}
theorem tJ {f : D -> Option D} (hf : ∀ d e, f d = some e -> ∀ v, DV γ w d v -> DV γ' w e v) : ∀ {l r : List D}, mpO f l = some r -> ∀ vs, DVL γ w l vs -> DVL γ' w r vs
 | [], r, h, vs, H => by cases h; unfold DVL at *; exact H
 | a :: l, r, h, vs, H => by
   obtain ⟨b, r', h1, h2, rfl⟩ := kF h
   unfold DVL at H ⊢
   obtain ⟨v, r, rfl, h4, h5⟩ := H
   exact ⟨v, r, rfl, hf _ _ h1 _ h4, tJ hf h2 _ h5⟩
theorem Eu {f : D -> Option D} {z : Nat} (hf : ∀ d e, f d = some e -> ∀ v, DV γ w d v -> DV γ' w e v) : ∀ {l r : List (List D)}, mpO (mpO f) l = some r -> ∀ vs, DVE γ w z l vs -> DVE γ' w z r vs
 | [], r, h, vs, H => by cases h; unfold DVE; trivial
 | a :: l, r, h, vs, H => by
   obtain ⟨b, r', h1, h2, rfl⟩ := kF h
   unfold DVE at H ⊢
   exact ⟨by rw [<- (CQ h1).1]; exact H.1, tJ hf h1 _ H.2.1, Eu hf h2 _ H.2.2⟩
theorem IS (hob : ∀ id c, ob.get id = some c -> HoldsO P γ w id c) (hown : ∀ id st vs e fr, st < γ.cur id -> w.heap[(γ.β id st).1]? = some (.cells vs e fr) -> γ'.im (γ.β id st).1) : ∀ {n : Nat} {d e : D}, Mu ob n d = some e -> ∀ v, DV γ w d v -> DV γ' w e v
 | 0, _, _, h => by cases h
 | n + 1, d, e, h => by
   have ih : ∀ d e, Mu ob n d = some e -> ∀ v, DV γ w d v -> DV γ' w e v := fun _ _ h => IS hob hown h
   unfold Mu at h
   cases d
   case sl id off len st z =>
    dsimp only at h
    split at h
    ·rename_i ro cs cur hg
     split at h
     ·rename_i es hes
      split at h
      ·rename_i fs hfs
       cases h
       obtain ⟨hl, hz, hv⟩ := uF hes
       rw [oL] at hv
       intro v H
       obtain ⟨e1, e2, cap, e, n, rfl, e4, e5, e6⟩ := kC H
       have hfl := (CQ hfs).1
       obtain ⟨vs, e', fr, k1, k2, k3, k4⟩ := rI (hob id _ hg) e1 e2 hv
       have hlen : es.flatten.length = es.length * z := by
        clear hv ih k2 k3 k4 hfl hl hfs hes
        induction es with
        | nil => simp
        | cons r es ih => simp [ih (fun r h => hz r (by simp [h])), hz r (by simp), Nat.add_mul]; omega
       have hsz : off - (γ.β id st).2 + es.length * z <= vs.size := by
        have h1 : w.shape? (γ.β id st).1 = some (e', vs.size) := dC k1
        rw [h1] at e5
        cases e5
        have : es.length * z <= cap * z := Nat.mul_le_mul_right z (by omega)
        omega
       unfold DV
       refine ⟨_, cap, by rw [<- hfl, hl], by omega, (fun h => by cases h), .inr ⟨_, _, vs, e', fr, hown id st _ _ _ e1 k1, k1, rfl, by rw [<- hfl]; exact hsz, ?_, ?_⟩⟩
       ·refine Eu ih hfs _ (mU hz ?_)
        rw [<- hlen]
        exact k3
       ·rw [<- hfl, <- hlen]; exact k4
      ·cases h
     ·cases h
    ·cases h
   case ag cs =>
    dsimp only at h
    split at h
    ·rename_i fs hfs
     cases h
     intro v H
     obtain ⟨vs, rfl, h2, h3⟩ := qD H
     unfold DV
     exact ⟨vs, rfl, tJ ih hfs _ h2, h3⟩
    ·cases h
   case tp cs =>
    dsimp only at h
    split at h
    ·rename_i fs hfs
     cases h
     intro v H
     obtain ⟨vs, rfl, h2⟩ := tQ H
     unfold DV
     exact ⟨vs, rfl, tJ ih hfs _ h2⟩
    ·cases h
   all_goals first | (cases h; done) | (cases h; intro v H; unfold DV at *; exact H)
end
theorem MemOk.of {P : Program} {f : FuncId} {es : List D} {v v' : D} {ob' : T C} {nx' : Pos} {lg' : Option (T Bool)} (K : CallOk P f es .e .h none v ob' nx' lg') (hz : Mu ob' 12 v = some v') : MemOk P f es v' := by
 intro ob1 ds ob nx lg lg2 hds hle hl ht
 refine ⟨hl, Nat.le_refl _, Keeps.refl _ _, fun so hs γ args w gh hargs hob hnx => ?_⟩
 let γs : Gh := ⟨fun _ => 0, fun _ _ => (0, 0), fun b => γ.im b \/ ((∃ id st, st < γ.cur id /\ (γ.β id st).1 = b) /\ ∃ vs e fr, w.heap[b]? = some (.cells vs e fr))⟩
 have hargs' : DVL γs w es args.toList := by
  have h1 : DV γ w (.tp ds) (.tuple args) := by unfold DV; exact ⟨args, rfl, hargs⟩
  have h2 := Fz.ok (γ := γ) (γ' := γs) (B := fun _ => False) (fun b hb => .inl hb) (fun id c hc => hob id c (hs id (ht id c hc)) (hle id c hc)) (fun _ h => h.elim) (fun id st vs e fr _ hst hc => .inr ⟨⟨id, st, hst, rfl⟩, vs, e, fr, hc⟩) (.tp (qB (fun d e h => (Cw (fun _ h => h) h).1) hds)) _ h1
  obtain ⟨vs, e, h3⟩ := tQ h2
  cases e
  exact h3
 obtain ⟨c1, c2⟩ := K.ok (fun _ => True) (fun _ _ => trivial) γs args w ⟨fun _ st h => absurd h (Nat.not_lt_zero st), fun _ st _ _ h => absurd h (Nat.not_lt_zero st), fun b hb => ⟨by
  rcases hb with hb | hb
  ·exact (gh.im b hb).1
  ·exact hb.2, fun _ st h => absurd h (Nat.not_lt_zero st)⟩, gh.gl.im fun _ h => .inl h⟩ hargs' (fun id c _ hc => by rw [T.get_e] at hc; cases hc) (fun _ _ _ => rfl)
 refine ⟨c1, fun ro m R hR => c2 ro m R fun γ' w' u gh' F hu hob' _ => ?_⟩
 have hb : ∀ b, b < w.heap.size -> w'.heap[b]? = w.heap[b]? := fun b hb => F.blk b hb fun id st _ hst => absurd hst (Nat.not_lt_zero st)
 have hnew : ∀ id st, st < γ'.cur id -> w.heap.size <= (γ'.β id st).1 := fun id st hst => by
  rcases F.new id st (Nat.zero_le _) hst with h | ⟨jA, h, _⟩
  ·exact h
  ·exact absurd h (Nat.not_lt_zero jA)
 let γ2 : Gh := ⟨γ.cur, γ.β, fun b => γ.im b \/ ((∃ id st, st < γ'.cur id /\ (γ'.β id st).1 = b) /\ ∃ vs e fr, w'.heap[b]? = some (.cells vs e fr))⟩
 have U : Up γ γ2 w w' := ⟨fun _ => Nat.le_refl _, fun _ _ _ => rfl, F.up.3, fun b hm => ⟨.inl hm, fun o ho => by rw [hb b (Array.getElem?_eq_some_iff.1 ho).1]; exact ho⟩⟩
 have U0 : Up γ γ w w' := ⟨fun _ => Nat.le_refl _, fun _ _ _ => rfl, F.up.3, fun b hm => ⟨hm, fun o ho => by rw [hb b (Array.getElem?_eq_some_iff.1 ho).1]; exact ho⟩⟩
 refine hR γ2 w' u ⟨fun id st hst => Nat.lt_of_lt_of_le (gh.ob id st hst) F.size, gh.inj, fun b hm => ?_, (gh.gl.up U0).im fun _ h => .inl h⟩ ⟨U, fun _ _ => rfl, fun b h1 _ => hb b h1, fun _ _ h1 h2 => absurd h2 (by show ¬ _ < γ.cur _; omega), fun b hm hlt => ?_, F.lp, F.size, F.os, F.tape, F.output, F.fz⟩
  (IS (γ := γ') (γ' := γ2) (fun id c hc => hob' id c trivial hc) (fun id st vs e fr hst hc => .inr ⟨⟨id, st, hst, rfl⟩, vs, e, fr, hc⟩) hz u hu)
  (fun id c hid hc => HoldsO.mono U rfl (fun st hst => hb _ (gh.ob id st hst)) (hob id c hid hc)) hnx
 ·rcases hm with hm | ⟨⟨id', st', h1, h2⟩, h3⟩
  ·refine ⟨let ⟨⟨vs, e, fr, k1⟩, _⟩ := gh.im b hm; ⟨vs, e, fr, (U0.im b hm).2 _ k1⟩, (gh.im b hm).2⟩
  ·refine ⟨h3, fun id st hst e => ?_⟩
   have hlt := gh.ob id st hst
   have e : (γ.β id st).1 = b := e
   have := hnew id' st' h1
   omega
 ·rcases hm with hm | ⟨⟨id', st', h1, h2⟩, h3⟩
  ·exact hm
  ·have := hnew id' st' h1
   omega
def Pp (P : Program) (FP : T RF) (n : Nat) (f : Pos) (es : List D) : Option D :=
 match uK FP (exec P FP n) f es .e .h none (fun v ob nx lg => match Mu ob 12 v with
  | some d => some ⟨T.set .h d .e, .e, .h, none⟩
  | none => none) with
 | some y => y.sl.get .h
 | none => none
theorem MemOk.run {P : Program} {FP : T RF} (hFP : FPok P FP) {n : Nat} {f : Pos} {es : List D} {v : D} (h : Pp P FP n f es = some v) : MemOk P f.ix es v := by
 unfold Pp at h
 split at h
 ·rename_i y hy
  obtain ⟨v', ob', nx', lg', h1, C⟩ := mC hFP (Ag hFP n).1 hy
  split at h1
  ·rename_i d hd
   cases h1
   rw [T.get_set_same] at h
   cases h
   exact MemOk.of C hd
  ·cases h1
 ·cases h
def fp : T RF := (.n (.n (.n (.n (.n (.n (.n (.n .e (aA Try.prog 127) .e) (aA Try.prog 63) .e) (aA Try.prog 31) (.n (.n .e (aA Try.prog 159) .e) (aA Try.prog 95) .e)) (aA Try.prog 15) (.n (.n (.n .e (aA Try.prog 143) .e) (aA Try.prog 79) .e) (aA Try.prog 47) (.n .e (aA Try.prog 111) .e))) (aA Try.prog 7) (.n (.n (.n (.n .e (aA Try.prog 135) .e) (aA Try.prog 71) .e) (aA Try.prog 39) (.n .e (aA Try.prog 103) .e)) (aA Try.prog 23) (.n (.n (.n .e (aA Try.prog 151) .e) (aA Try.prog 87) .e) (aA Try.prog 55) (.n .e (aA Try.prog 119) .e)))) (aA Try.prog 3) (.n (.n (.n (.n (.n .e (aA Try.prog 131) .e) (aA Try.prog 67) .e) (aA Try.prog 35) (.n (.n .e (aA Try.prog 163) .e) (aA Try.prog 99) .e)) (aA Try.prog 19) (.n (.n (.n .e (aA Try.prog 147) .e) (aA Try.prog 83) .e) (aA Try.prog 51) (.n .e (aA Try.prog 115) .e))) (aA Try.prog 11) (.n (.n (.n (.n .e (aA Try.prog 139) .e) (aA Try.prog 75) .e) (aA Try.prog 43) (.n .e (aA Try.prog 107) .e)) (aA Try.prog 27) (.n (.n (.n .e (aA Try.prog 155) .e) (aA Try.prog 91) .e) (aA Try.prog 59) (.n .e (aA Try.prog 123) .e))))) none (.n (.n (.n (.n (.n (.n .e (aA Try.prog 129) .e) (aA Try.prog 65) .e) (aA Try.prog 33) (.n (.n .e (aA Try.prog 161) .e) (aA Try.prog 97) .e)) (aA Try.prog 17) (.n (.n (.n .e (aA Try.prog 145) .e) (aA Try.prog 81) .e) (aA Try.prog 49) (.n .e (aA Try.prog 113) .e))) (aA Try.prog 9) (.n (.n (.n (.n .e (aA Try.prog 137) .e) (aA Try.prog 73) .e) (aA Try.prog 41) (.n .e (aA Try.prog 105) .e)) (aA Try.prog 25) (.n (.n (.n .e (aA Try.prog 153) .e) (aA Try.prog 89) .e) (aA Try.prog 57) (.n .e (aA Try.prog 121) .e)))) (aA Try.prog 5) (.n (.n (.n (.n (.n .e (aA Try.prog 133) .e) (aA Try.prog 69) .e) (aA Try.prog 37) (.n (.n .e (aA Try.prog 165) .e) (aA Try.prog 101) .e)) (aA Try.prog 21) (.n (.n (.n .e (aA Try.prog 149) .e) (aA Try.prog 85) .e) (aA Try.prog 53) (.n .e (aA Try.prog 117) .e))) (aA Try.prog 13) (.n (.n (.n (.n .e (aA Try.prog 141) .e) (aA Try.prog 77) .e) (aA Try.prog 45) (.n .e (aA Try.prog 109) .e)) (aA Try.prog 29) (.n (.n (.n .e (aA Try.prog 157) .e) (aA Try.prog 93) .e) (aA Try.prog 61) (.n .e (aA Try.prog 125) .e)))))) none (.n (.n (.n (.n (.n (.n (.n .e (aA Try.prog 128) .e) (aA Try.prog 64) .e) (aA Try.prog 32) (.n (.n .e (aA Try.prog 160) .e) (aA Try.prog 96) .e)) (aA Try.prog 16) (.n (.n (.n .e (aA Try.prog 144) .e) (aA Try.prog 80) .e) (aA Try.prog 48) (.n .e (aA Try.prog 112) .e))) (aA Try.prog 8) (.n (.n (.n (.n .e (aA Try.prog 136) .e) (aA Try.prog 72) .e) (aA Try.prog 40) (.n .e (aA Try.prog 104) .e)) (aA Try.prog 24) (.n (.n (.n .e (aA Try.prog 152) .e) (aA Try.prog 88) .e) (aA Try.prog 56) (.n .e (aA Try.prog 120) .e)))) (aA Try.prog 4) (.n (.n (.n (.n (.n .e (aA Try.prog 132) .e) (aA Try.prog 68) .e) (aA Try.prog 36) (.n (.n .e (aA Try.prog 164) .e) (aA Try.prog 100) .e)) (aA Try.prog 20) (.n (.n (.n .e (aA Try.prog 148) .e) (aA Try.prog 84) .e) (aA Try.prog 52) (.n .e (aA Try.prog 116) .e))) (aA Try.prog 12) (.n (.n (.n (.n .e (aA Try.prog 140) .e) (aA Try.prog 76) .e) (aA Try.prog 44) (.n .e (aA Try.prog 108) .e)) (aA Try.prog 28) (.n (.n (.n .e (aA Try.prog 156) .e) (aA Try.prog 92) .e) (aA Try.prog 60) (.n .e (aA Try.prog 124) .e))))) none (.n (.n (.n (.n (.n (.n .e (aA Try.prog 130) .e) (aA Try.prog 66) .e) (aA Try.prog 34) (.n (.n .e (aA Try.prog 162) .e) (aA Try.prog 98) .e)) (aA Try.prog 18) (.n (.n (.n .e (aA Try.prog 146) .e) (aA Try.prog 82) .e) (aA Try.prog 50) (.n .e (aA Try.prog 114) .e))) (aA Try.prog 10) (.n (.n (.n (.n .e (aA Try.prog 138) .e) (aA Try.prog 74) .e) (aA Try.prog 42) (.n .e (aA Try.prog 106) .e)) (aA Try.prog 26) (.n (.n (.n .e (aA Try.prog 154) .e) (aA Try.prog 90) .e) (aA Try.prog 58) (.n .e (aA Try.prog 122) .e)))) (aA Try.prog 6) (.n (.n (.n (.n (.n .e (aA Try.prog 134) .e) (aA Try.prog 70) .e) (aA Try.prog 38) (.n .e (aA Try.prog 102) .e)) (aA Try.prog 22) (.n (.n (.n .e (aA Try.prog 150) .e) (aA Try.prog 86) .e) (aA Try.prog 54) (.n .e (aA Try.prog 118) .e))) (aA Try.prog 14) (.n (.n (.n (.n .e (aA Try.prog 142) .e) (aA Try.prog 78) .e) (aA Try.prog 46) (.n .e (aA Try.prog 110) .e)) (aA Try.prog 30) (.n (.n (.n .e (aA Try.prog 158) .e) (aA Try.prog 94) .e) (aA Try.prog 62) (.n .e (aA Try.prog 126) .e)))))))
set_option maxRecDepth 100000 in
theorem Bh : FPok Try.prog fp := FPok.of (TabOk.n TabOk.no (TabOk.n TabOk.no (TabOk.n TabOk.at (TabOk.n TabOk.at (TabOk.n TabOk.at (TabOk.n TabOk.at (TabOk.n TabOk.at (TabOk.n TabOk.at TabOk.e TabOk.e) TabOk.e) (TabOk.n TabOk.at (TabOk.n TabOk.at TabOk.e TabOk.e) TabOk.e)) (TabOk.n TabOk.at (TabOk.n TabOk.at (TabOk.n TabOk.at TabOk.e TabOk.e) TabOk.e) (TabOk.n TabOk.at TabOk.e TabOk.e))) (TabOk.n TabOk.at (TabOk.n TabOk.at (TabOk.n TabOk.at (TabOk.n TabOk.at TabOk.e TabOk.e) TabOk.e) (TabOk.n TabOk.at TabOk.e TabOk.e)) (TabOk.n TabOk.at (TabOk.n TabOk.at (TabOk.n TabOk.at TabOk.e TabOk.e) TabOk.e) (TabOk.n TabOk.at TabOk.e TabOk.e)))) (TabOk.n TabOk.at (TabOk.n TabOk.at (TabOk.n TabOk.at (TabOk.n TabOk.at (TabOk.n TabOk.at TabOk.e TabOk.e) TabOk.e) (TabOk.n TabOk.at (TabOk.n TabOk.at TabOk.e TabOk.e) TabOk.e)) (TabOk.n TabOk.at (TabOk.n TabOk.at (TabOk.n TabOk.at TabOk.e TabOk.e) TabOk.e) (TabOk.n TabOk.at TabOk.e TabOk.e))) (TabOk.n TabOk.at (TabOk.n TabOk.at (TabOk.n TabOk.at (TabOk.n TabOk.at TabOk.e TabOk.e) TabOk.e) (TabOk.n TabOk.at TabOk.e TabOk.e)) (TabOk.n TabOk.at (TabOk.n TabOk.at (TabOk.n TabOk.at TabOk.e TabOk.e) TabOk.e) (TabOk.n TabOk.at TabOk.e TabOk.e))))) (TabOk.n TabOk.at (TabOk.n TabOk.at (TabOk.n TabOk.at (TabOk.n TabOk.at (TabOk.n TabOk.at (TabOk.n TabOk.at TabOk.e TabOk.e) TabOk.e) (TabOk.n TabOk.at (TabOk.n TabOk.at TabOk.e TabOk.e) TabOk.e)) (TabOk.n TabOk.at (TabOk.n TabOk.at (TabOk.n TabOk.at TabOk.e TabOk.e) TabOk.e) (TabOk.n TabOk.at TabOk.e TabOk.e))) (TabOk.n TabOk.at (TabOk.n TabOk.at (TabOk.n TabOk.at (TabOk.n TabOk.at TabOk.e TabOk.e) TabOk.e) (TabOk.n TabOk.at TabOk.e TabOk.e)) (TabOk.n TabOk.at (TabOk.n TabOk.at (TabOk.n TabOk.at TabOk.e TabOk.e) TabOk.e) (TabOk.n TabOk.at TabOk.e TabOk.e)))) (TabOk.n TabOk.at (TabOk.n TabOk.at (TabOk.n TabOk.at (TabOk.n TabOk.at (TabOk.n TabOk.at TabOk.e TabOk.e) TabOk.e) (TabOk.n TabOk.at (TabOk.n TabOk.at TabOk.e TabOk.e) TabOk.e)) (TabOk.n TabOk.at (TabOk.n TabOk.at (TabOk.n TabOk.at TabOk.e TabOk.e) TabOk.e) (TabOk.n TabOk.at TabOk.e TabOk.e))) (TabOk.n TabOk.at (TabOk.n TabOk.at (TabOk.n TabOk.at (TabOk.n TabOk.at TabOk.e TabOk.e) TabOk.e) (TabOk.n TabOk.at TabOk.e TabOk.e)) (TabOk.n TabOk.at (TabOk.n TabOk.at (TabOk.n TabOk.at TabOk.e TabOk.e) TabOk.e) (TabOk.n TabOk.at TabOk.e TabOk.e)))))) (TabOk.n TabOk.no (TabOk.n TabOk.at (TabOk.n TabOk.at (TabOk.n TabOk.at (TabOk.n TabOk.at (TabOk.n TabOk.at (TabOk.n TabOk.at TabOk.e TabOk.e) TabOk.e) (TabOk.n TabOk.at (TabOk.n TabOk.at TabOk.e TabOk.e) TabOk.e)) (TabOk.n TabOk.at (TabOk.n TabOk.at (TabOk.n TabOk.at TabOk.e TabOk.e) TabOk.e) (TabOk.n TabOk.at TabOk.e TabOk.e))) (TabOk.n TabOk.at (TabOk.n TabOk.at (TabOk.n TabOk.at (TabOk.n TabOk.at TabOk.e TabOk.e) TabOk.e) (TabOk.n TabOk.at TabOk.e TabOk.e)) (TabOk.n TabOk.at (TabOk.n TabOk.at (TabOk.n TabOk.at TabOk.e TabOk.e) TabOk.e) (TabOk.n TabOk.at TabOk.e TabOk.e)))) (TabOk.n TabOk.at (TabOk.n TabOk.at (TabOk.n TabOk.at (TabOk.n TabOk.at (TabOk.n TabOk.at TabOk.e TabOk.e) TabOk.e) (TabOk.n TabOk.at (TabOk.n TabOk.at TabOk.e TabOk.e) TabOk.e)) (TabOk.n TabOk.at (TabOk.n TabOk.at (TabOk.n TabOk.at TabOk.e TabOk.e) TabOk.e) (TabOk.n TabOk.at TabOk.e TabOk.e))) (TabOk.n TabOk.at (TabOk.n TabOk.at (TabOk.n TabOk.at (TabOk.n TabOk.at TabOk.e TabOk.e) TabOk.e) (TabOk.n TabOk.at TabOk.e TabOk.e)) (TabOk.n TabOk.at (TabOk.n TabOk.at (TabOk.n TabOk.at TabOk.e TabOk.e) TabOk.e) (TabOk.n TabOk.at TabOk.e TabOk.e))))) (TabOk.n TabOk.at (TabOk.n TabOk.at (TabOk.n TabOk.at (TabOk.n TabOk.at (TabOk.n TabOk.at (TabOk.n TabOk.at TabOk.e TabOk.e) TabOk.e) (TabOk.n TabOk.at (TabOk.n TabOk.at TabOk.e TabOk.e) TabOk.e)) (TabOk.n TabOk.at (TabOk.n TabOk.at (TabOk.n TabOk.at TabOk.e TabOk.e) TabOk.e) (TabOk.n TabOk.at TabOk.e TabOk.e))) (TabOk.n TabOk.at (TabOk.n TabOk.at (TabOk.n TabOk.at (TabOk.n TabOk.at TabOk.e TabOk.e) TabOk.e) (TabOk.n TabOk.at TabOk.e TabOk.e)) (TabOk.n TabOk.at (TabOk.n TabOk.at (TabOk.n TabOk.at TabOk.e TabOk.e) TabOk.e) (TabOk.n TabOk.at TabOk.e TabOk.e)))) (TabOk.n TabOk.at (TabOk.n TabOk.at (TabOk.n TabOk.at (TabOk.n TabOk.at (TabOk.n TabOk.at TabOk.e TabOk.e) TabOk.e) (TabOk.n TabOk.at TabOk.e TabOk.e)) (TabOk.n TabOk.at (TabOk.n TabOk.at (TabOk.n TabOk.at TabOk.e TabOk.e) TabOk.e) (TabOk.n TabOk.at TabOk.e TabOk.e))) (TabOk.n TabOk.at (TabOk.n TabOk.at (TabOk.n TabOk.at (TabOk.n TabOk.at TabOk.e TabOk.e) TabOk.e) (TabOk.n TabOk.at TabOk.e TabOk.e)) (TabOk.n TabOk.at (TabOk.n TabOk.at (TabOk.n TabOk.at TabOk.e TabOk.e) TabOk.e) (TabOk.n TabOk.at TabOk.e TabOk.e)))))))
def Wh : Pos := (.o (.i (.i (.o .h))))
def Wb : Pos := (.o (.o (.o (.o (.o (.o (.o (.o (.o (.o (.o (.o (.o (.o .h))))))))))))))
def Wa : Pos := (.o (.o (.o (.o (.o (.o (.o (.o (.o (.o (.o (.o (.o (.o (.o (.o .h))))))))))))))))
def Wm : T RF := (.n (.n (.n (.n (.n (.n (.n (.n .e (aA Try.prog 127) .e) (aA Try.prog 63) .e) (aA Try.prog 31) (.n (.n .e (aA Try.prog 159) .e) (aA Try.prog 95) .e)) (aA Try.prog 15) (.n (.n (.n .e (aA Try.prog 143) .e) (aA Try.prog 79) .e) (aA Try.prog 47) (.n .e (aA Try.prog 111) .e))) (aA Try.prog 7) (.n (.n (.n (.n .e (aA Try.prog 135) .e) (aA Try.prog 71) .e) (aA Try.prog 39) (.n .e (aA Try.prog 103) .e)) (aA Try.prog 23) (.n (.n (.n .e (aA Try.prog 151) .e) (aA Try.prog 87) .e) (aA Try.prog 55) (.n .e (aA Try.prog 119) .e)))) (aA Try.prog 3) (.n (.n (.n (.n (.n .e (aA Try.prog 131) .e) (aA Try.prog 67) .e) (aA Try.prog 35) (.n (.n .e (aA Try.prog 163) .e) (aA Try.prog 99) .e)) (aA Try.prog 19) (.n (.n (.n .e (aA Try.prog 147) .e) (aA Try.prog 83) .e) (aA Try.prog 51) (.n .e (aA Try.prog 115) .e))) (aA Try.prog 11) (.n (.n (.n (.n .e (aA Try.prog 139) .e) (aA Try.prog 75) .e) (aA Try.prog 43) (.n .e (aA Try.prog 107) .e)) (aA Try.prog 27) (.n (.n (.n .e (aA Try.prog 155) .e) (aA Try.prog 91) .e) (aA Try.prog 59) (.n .e (aA Try.prog 123) .e))))) none (.n (.n (.n (.n (.n (.n .e (aA Try.prog 129) .e) (aA Try.prog 65) .e) (aA Try.prog 33) (.n (.n .e (aA Try.prog 161) .e) (aA Try.prog 97) .e)) (aA Try.prog 17) (.n (.n (.n .e (aA Try.prog 145) .e) (aA Try.prog 81) .e) (aA Try.prog 49) (.n .e (aA Try.prog 113) .e))) (aA Try.prog 9) (.n (.n (.n (.n .e (aA Try.prog 137) .e) (aA Try.prog 73) .e) (aA Try.prog 41) (.n .e (aA Try.prog 105) .e)) (aA Try.prog 25) (.n (.n (.n .e (aA Try.prog 153) .e) (aA Try.prog 89) .e) (aA Try.prog 57) (.n .e (aA Try.prog 121) .e)))) (aA Try.prog 5) (.n (.n (.n (.n (.n .e (aA Try.prog 133) .e) (aA Try.prog 69) .e) (aA Try.prog 37) (.n (.n .e (aA Try.prog 165) .e) (aA Try.prog 101) .e)) (some VR) (.n (.n (.n .e (aA Try.prog 149) .e) (aA Try.prog 85) .e) (aA Try.prog 53) (.n .e (aA Try.prog 117) .e))) (aA Try.prog 13) (.n (.n (.n (.n .e (aA Try.prog 141) .e) (aA Try.prog 77) .e) (aA Try.prog 45) (.n .e (aA Try.prog 109) .e)) (aA Try.prog 29) (.n (.n (.n .e (aA Try.prog 157) .e) (aA Try.prog 93) .e) (aA Try.prog 61) (.n .e (aA Try.prog 125) .e)))))) none (.n (.n (.n (.n (.n (.n (.n .e (aA Try.prog 128) .e) (aA Try.prog 64) .e) (aA Try.prog 32) (.n (.n .e (aA Try.prog 160) .e) (aA Try.prog 96) .e)) (aA Try.prog 16) (.n (.n (.n .e (aA Try.prog 144) .e) (aA Try.prog 80) .e) (aA Try.prog 48) (.n .e (aA Try.prog 112) .e))) (aA Try.prog 8) (.n (.n (.n (.n .e (aA Try.prog 136) .e) (aA Try.prog 72) .e) (aA Try.prog 40) (.n .e (aA Try.prog 104) .e)) (aA Try.prog 24) (.n (.n (.n .e (aA Try.prog 152) .e) (aA Try.prog 88) .e) (aA Try.prog 56) (.n .e (aA Try.prog 120) .e)))) (aA Try.prog 4) (.n (.n (.n (.n (.n .e (aA Try.prog 132) .e) (aA Try.prog 68) .e) (aA Try.prog 36) (.n (.n .e (aA Try.prog 164) .e) (aA Try.prog 100) .e)) (aA Try.prog 20) (.n (.n (.n .e (aA Try.prog 148) .e) (aA Try.prog 84) .e) (aA Try.prog 52) (.n .e (aA Try.prog 116) .e))) (aA Try.prog 12) (.n (.n (.n (.n .e (aA Try.prog 140) .e) (aA Try.prog 76) .e) (aA Try.prog 44) (.n .e (aA Try.prog 108) .e)) (aA Try.prog 28) (.n (.n (.n .e (aA Try.prog 156) .e) (aA Try.prog 92) .e) (aA Try.prog 60) (.n .e (aA Try.prog 124) .e))))) none (.n (.n (.n (.n (.n (.n .e (aA Try.prog 130) .e) (aA Try.prog 66) .e) (aA Try.prog 34) (.n (.n .e (aA Try.prog 162) .e) (aA Try.prog 98) .e)) (aA Try.prog 18) (.n (.n (.n .e (aA Try.prog 146) .e) (aA Try.prog 82) .e) (aA Try.prog 50) (.n .e (aA Try.prog 114) .e))) (aA Try.prog 10) (.n (.n (.n (.n .e (aA Try.prog 138) .e) (aA Try.prog 74) .e) (aA Try.prog 42) (.n .e (aA Try.prog 106) .e)) (aA Try.prog 26) (.n (.n (.n .e (aA Try.prog 154) .e) (aA Try.prog 90) .e) (aA Try.prog 58) (.n .e (aA Try.prog 122) .e)))) (aA Try.prog 6) (.n (.n (.n (.n (.n .e (aA Try.prog 134) .e) (aA Try.prog 70) .e) (aA Try.prog 38) (.n .e (aA Try.prog 102) .e)) (aA Try.prog 22) (.n (.n (.n .e (aA Try.prog 150) .e) (aA Try.prog 86) .e) (aA Try.prog 54) (.n .e (aA Try.prog 118) .e))) (aA Try.prog 14) (.n (.n (.n (.n .e (aA Try.prog 142) .e) (aA Try.prog 78) .e) (aA Try.prog 46) (.n .e (aA Try.prog 110) .e)) (aA Try.prog 30) (.n (.n (.n .e (aA Try.prog 158) .e) (aA Try.prog 94) .e) (aA Try.prog 62) (.n .e (aA Try.prog 126) .e)))))))
end Go.Ev
end
