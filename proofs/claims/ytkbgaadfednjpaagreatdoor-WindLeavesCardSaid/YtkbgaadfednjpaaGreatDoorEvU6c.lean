import Derived.Test.YtkbgaadfednjpaaGreatDoorEvUS4T
import Derived.Test.YtkbgaadfednjpaaGreatDoorEvUSq
import Derived.Test.YtkbgaadfednjpaaGreatDoorEvU4h
import Derived.Test.YtkbgaadfednjpaaGreatDoorEvU4b
set_option linter.all false
set_option maxHeartbeats 8000000
noncomputable section
namespace Go.Ev
open Go.Proofs
set_option maxRecDepth 100000
def xM (l : List (D × Nat)) : List Cell := l.map fun p => Cell.o p.1 p.2
theorem wY {β : Type} (st cur : Nat) (r : List D) : ∀ (l : List (D × Nat)) (k : List Cell -> Option β), (∀ p ∈ l, p.2 <= st) -> lW st cur r l.length (xM l) k = k (xM l ++ r.map fun d => Cell.o d cur)
 | [], k, _ => by
   show mA (Nat.pred cur) (dB (List.length r) []) (fun l => iV (fun d => .o d cur) r l k) = _
   rw [bK, jE, fX]
   simp [xM]
 | p :: l, k, h => by
   have hp := h p (by simp)
   have e : lW st cur r (p :: l).length (xM (p :: l)) k = (bif Nat.ble p.2 st then lW st cur r l.length (xM l) (fun l' => k (.o p.1 p.2 :: l')) else none) := rfl
   rw [e, Nat.ble_eq_true_of_le hp, cond_true, wY st cur r l _ fun x hx => h x (by simp [hx])]
   rfl
section
variable {sl : T D} {ob : T C} {nx : Pos} {lg : Option (T Bool)} {K : X -> Prop}
theorem WSt.app_stL {d id idy : Pos} {z st len len' cur curY : Nat} {roY : Bool} {x y : RX} {l : List (D × Nat)} {r : List D} {csX csY : List Cell} {ob2 : T C} (hx : bC sl x = some (.sl id 0 len st z)) (hy : bC sl y = some (.sl idy 0 1 0 z)) (hoy : ob.get idy = some (.cells roY csY curY)) (hcy : csY = r.map fun d => Cell.o d 0) (hr : r.length = z) (hox : ob.get id = some (.cells false csX cur)) (hcx : csX = xM l) (hst : ∀ p ∈ l, p.2 <= st) (hds : l.length = len * z) (hlen : len' = len + 1) (hmax : len < 2147483648)
 (hob2 : T.set id (.cells false (xM l ++ r.map fun d => Cell.o d cur) (cur + 1)) ob = ob2) (h : KY lg idy fun lg => Lu lg id fun lg => dG sl ob2 nx lg d K (.sl id 0 len' cur z)) : WSt (.app d z x y) ⟨sl, ob, nx, lg⟩ K := by
 obtain ⟨l1, e1, h⟩ := uA h
 obtain ⟨l2, e2, h⟩ := vH h
 obtain ⟨h2, h3⟩ := aT h
 refine ⟨_, ?_, h3⟩
 show dP d z x y sl ob nx lg = _
 unfold dP
 rw [hx, hy]
 subst hcy hr hlen hob2 hcx
 have hb : Nat.beq r.length r.length = true := Nat.beq_refl _
 have hrd : dV (β := X) 0 (Nat.mul 1 r.length) (dB 0 (r.map fun d => Cell.o d 0)) = fun k => k r := by
  rw [bK, List.drop_zero, show Nat.mul 1 r.length = r.length from Nat.one_mul _]
  have key : ∀ (l : List D) (k : List D -> Option X), dV 0 l.length (l.map fun d => Cell.o d 0) k = k l := by
   intro l
   induction l with
   | nil => exact fun k => rfl
   | cons a l ih => exact fun k => ih fun ds => k (a :: ds)
  exact funext fun k => key r k
 simp only [pI, hb, cond_true, hoy, hrd, rK, e1]
 simp only [hox]
 have hidx : Nat.add 0 (Nat.mul len r.length) = l.length := by rw [hds]; exact Nat.zero_add _
 rw [hidx, wY st cur r l _ hst]
 simp only [bB, eP, e2, T.setK_eq]
 have e3 : Nat.add len (Nat.succ 0) = len + 1 := rfl
 rw [e3, Nat.ble_eq_true_of_le (show len + 1 <= 2147483648 from hmax)]
 exact h2
end
theorem tQ {β : Type} (st : Nat) : ∀ (l : List (D × Nat)) (k : List D -> Option β), (∀ p ∈ l, p.2 <= st) -> dV st l.length (xM l) k = k (l.map Prod.fst)
 | [], k, _ => rfl
 | p :: l, k, h => by
   have e : dV st (p :: l).length (xM (p :: l)) k = (bif Nat.ble p.2 st then dV st l.length (xM l) (fun ds => k (p.1 :: ds)) else none) := rfl
   rw [e, Nat.ble_eq_true_of_le (h p (by simp)), cond_true, tQ st l _ fun x hx => h x (by simp [hx])]
   rfl
theorem WSt.app_slE {sl : T D} {ob : T C} {nx : Pos} {K : X -> Prop} {d id idy : Pos} {z n st curY : Nat} {roY : Bool} {x y : RX} {l : List (D × Nat)} (hx : bC sl x = some (.sl id 0 0 0 z)) (hox : ob.get id = some (.cells false [] 1)) (hy : bC sl y = some (.sl idy 0 n st z)) (hoy : ob.get idy = some (.cells roY (xM l) curY)) (hst : ∀ p ∈ l, p.2 <= st) (hl : l.length = n * z) (hn : 0 < n) (hmax : n <= 2147483648)
 (h : T.setK id (.cells false ((l.map Prod.fst).map fun d => Cell.o d 1) 2) ob fun ob => dG sl ob nx none d K (.sl id 0 n 1 z)) : WSt (.app d z x y) ⟨sl, ob, nx, none⟩ K := by
 rw [T.setK_eq] at h
 obtain ⟨h2, h3⟩ := aT h
 refine ⟨_, ?_, h3⟩
 show dP d z x y sl ob nx none = _
 unfold dP
 rw [hx, hy]
 have hm : Nat.mul n z = l.length := hl.symm
 have hm0 : Nat.add 0 (Nat.mul 0 z) = 0 := by show 0 + 0 * z = 0; simp
 obtain ⟨k, rfl⟩ : ∃ k, n = k + 1 := ⟨n - 1, by omega⟩
 have hle : Nat.ble (Nat.add 0 (Nat.succ k)) 2147483648 = true := Nat.ble_eq_true_of_le (by simpa using hmax)
 have hd0 : dB 0 (xM l) = xM l := by rw [bK]; rfl
 simp only [pI, Nat.beq_refl, cond_true, hoy, hm, hd0, tQ st l _ hst, rK, gH, Bool.true_and, hle, hox, hm0, sS, bB, eP, rQ, T.setK_eq]
 have e1 : Nat.add 0 (Nat.succ k) = k + 1 := by show 0 + (k + 1) = k + 1; omega
 rw [e1]
 exact h2
theorem Fz.whole {B : Pos -> Prop} {ob : T C} {id : Pos} {z st : Nat} {cs : List Cell} {cur : Nat} {es : List (List D)} {n : Nat} (hB : ¬ B id) (h : ob.get id = some (.cells false cs cur)) (hn : n = es.length) (hz : ∀ r ∈ es, r.length = z) (hc : cs = es.flatten.map fun d => Cell.o d st) (hp : cG es) : Fz B ob (.sl id 0 n st z) (.lst z es) := by
 subst hc
 refine .sl hB h hn.symm hz (fun k d hk => ⟨.o d st, ?_, ?_, rfl⟩) (FzE.of hp)
 ·rw [List.drop_zero, List.getElem?_map, hk]; rfl
 ·show Nat.ble st st = true
  exact Nat.ble_eq_true_of_le (Nat.le_refl _)
def cI (A : List (Int × Nat)) : List Cell := xM (A.map fun p => (D.i .i64 p.1, p.2))
theorem Ac (A : List (Int × Nat)) : ∀ c ∈ cI A, Pu c.d := by
 intro c hc
 unfold cI xM at hc
 simp only [List.map_map, List.mem_map] at hc
 obtain ⟨p, _, rfl⟩ := hc
 trivial
theorem AI (A : List (Int × Nat)) (i : Int) (cur : Nat) : cI (A ++ [(i, cur)]) = cI A ++ [D.i .i64 i].map fun d => Cell.o d cur := by simp [cI, xM]
theorem Hb (A : List (Int × Nat)) : (A.map fun p => (D.i .i64 p.1, p.2)).map Prod.fst = (ints (A.map Prod.fst)).flatten := by
 rw [mP]; simp
theorem De (a : Int × Nat) (A : List (Int × Nat)) (n st cur : Nat) (hn : n = A.length + 1) (hst : ∀ p ∈ a :: A, p.2 <= st) (hl : n <= 65536) : CallOk Tryz.prog p142.ix [.sl .h 0 n st 1] (.n .e (some (.cells false (cI (a :: A)) cur)) .e) (.o .h) none (.lst 1 (ints ((a :: A).map Prod.fst))) (.n .e (some (.cells false (cI (a :: A)) cur)) .e) (.o .h) none := by
 refine CallOk.run Gq (by simp) (Nat.le_refl _) ?_; conv => whnf
 refine Qg ?_
 refine WSt.app_slE (l := (a :: A).map fun p => (D.i .i64 p.1, p.2)) rfl rfl rfl rfl (fun p hp => ?_) (by simp; omega) (by omega) (by omega) ?_
 ·obtain ⟨q, hq, rfl⟩ := List.mem_map.1 hp
  exact hst q hq
 rw [Hb]
 conv => whnf
 refine Qg ?_
 exact ⟨.inr rfl, ⟨_, rfl, Fz.whole (cur := 2) (by decide) rfl (by rw [aI, List.length_map]; exact hn) (mL _) rfl (aC _)⟩, Shr.kp (by repeat' first | exact T.le_e _ | refine T.le_some ?_ rfl ?_ | refine T.le_none ?_ ?_) (by
  intro id c hc
  cases id with
  | h =>
    rw [T.get_h] at hc
    cases hc
    exact ⟨by decide, fun c hc => by
     have := Ac _ c hc
     exact Kp.pu _ this⟩
  | o p => rw [T.get_o, T.get_e] at hc; cases hc
  | i p => rw [T.get_i, T.get_e] at hc; cases hc)⟩
structure Yns (σ : Type) where
 o1 : σ -> Option C
 o2 : σ -> Option C
 o3 : σ -> Option C
 step : σ -> List Int -> σ
 goes : σ -> List Int -> Bool
def nF (x1 x2 x3 x4 x5 x7 : Option C) : T C := .n (.n (.n .e x4 .e) x2 .e) x1 (.n (.n .e x5 .e) x3 (.n .e x7 .e))
def MA : C := .cells false [.o (.yl (.i .h)) 0] 1
def MD (many en : Nat) : C := .cells false [.o (.fn p158 [] [.pl [.i .i64 (many : Int)] 0, .pt (.o (.o .h)) 0 0, .pl [.i .i64 (en : Int)] 0, .pt (.i (.o .h)) 0 0]) 0] 1
def Yns.ob3 {σ : Type} (Z : Yns σ) (s : σ) : T C := nP (Z.o1 s) (Z.o2 s) (Z.o3 s)
def Yns.ob {σ : Type} (Z : Yns σ) (many en : Nat) (s : σ) (x7 : Option C) : T C := nF (Z.o1 s) (Z.o2 s) (Z.o3 s) (some MA) (some (MD many en)) x7
def BR (many en : Nat) (d : D) (next : Int) : List D := [d, .i .i64 next, .pl [.i .i64 (many : Int)] 0, .pt (.o (.o .h)) 0 0, .pl [.i .i64 (en : Int)] 0, .pt (.i (.o .h)) 0 0]
structure YnsOk {σ : Type} (Z : Yns σ) (ok : σ -> Prop) : Prop where
 kp : ∀ s n, 4 <= n -> (∀ c, Z.o1 s = some c -> KpC n c) /\ (∀ c, Z.o2 s = some c -> KpC n c) /\ ∀ c, Z.o3 s = some c -> KpC n c
 nxt : ∀ s S, ok s -> Z.goes s S = true -> ok (Z.step s S)
 rnd : ∀ s S, ok s -> S.length <= 1000 -> RndOk Tryz.prog (.i .h) [xL S] (Z.ob3 s) (.o (.o .h)) none (.b (Z.goes s S)) (Z.ob3 (Z.step s S)) (.o (.o .h)) none
def bL {σ : Type} (Z : Yns σ) : List (List Int) -> σ -> σ × Bool
 | [], s => (s, true)
 | S :: L, s => match Z.goes s S with
   | true => bL Z L (Z.step s S)
   | false => (Z.step s S, false)
theorem iT {σ : Type} (Z : Yns σ) (S : List Int) (L : List (List Int)) (s : σ) : bL Z (S :: L) s = match Z.goes s S with
 | true => bL Z L (Z.step s S)
 | false => (Z.step s S, false) := rfl
theorem jZ {σ : Type} (Z : Yns σ) (S : List Int) (s : σ) : bL Z [S] s = (Z.step s S, Z.goes s S) := by
 rw [iT]
 cases Z.goes s S <;> rfl
theorem nZ {σ : Type} (Z : Yns σ) : ∀ (L M : List (List Int)) (s : σ), bL Z (L ++ M) s = (match bL Z L s with | (s', true) => bL Z M s' | (s', false) => (s', false))
 | [], M, s => rfl
 | S :: L, M, s => by
   rw [List.cons_append, iT, iT]
   cases Z.goes s S with
   | true => exact nZ Z L M _
   | false => rfl
theorem qH {σ : Type} {Z : Yns σ} {ok : σ -> Prop} (H : YnsOk Z ok) : ∀ (L : List (List Int)) (s : σ), ok s -> (bL Z L s).2 = true -> ok (bL Z L s).1
 | [], s, h, _ => h
 | S :: L, s, h, e => by
   rw [iT] at e ⊢
   cases hg : Z.goes s S with
   | true => rw [hg] at e; exact qH H L _ (H.nxt s S h hg) e
   | false => rw [hg] at e; cases e
theorem Ke {n : Nat} {x1 x2 x3 : Option C} (hn : 4 <= n) (h1 : ∀ c, x1 = some c -> KpC n c) (h2 : ∀ c, x2 = some c -> KpC n c) (h3 : ∀ c, x3 = some c -> KpC n c) : KpO n (nP x1 x2 x3) := by
 show TAll (fun id c => id.nat < n /\ KpC n c) _
 unfold nP
 refine TAll.opt (TAll.opt TAll.e (fun c h => ⟨?_, h2 c h⟩) TAll.e) (fun c h => ⟨?_, h1 c h⟩) (TAll.opt TAll.e (fun c h => ⟨?_, h3 c h⟩) TAll.e)
 ·show 2 * 1 < n; omega
 ·show 1 < n; omega
 ·show 2 * 1 + 1 < n; omega
theorem Kh {n : Nat} {x1 x2 x3 x4 x5 x7 : Option C} (hn : 6 <= n) (h1 : ∀ c, x1 = some c -> KpC n c) (h2 : ∀ c, x2 = some c -> KpC n c) (h3 : ∀ c, x3 = some c -> KpC n c) (h4 : ∀ c, x4 = some c -> KpC n c) (h5 : ∀ c, x5 = some c -> KpC n c) (h7 : ∀ c, x7 = some c -> 8 <= n /\ KpC n c) : KpO n (nF x1 x2 x3 x4 x5 x7) := by
 show TAll (fun id c => id.nat < n /\ KpC n c) _
 unfold nF
 refine TAll.opt (TAll.opt (TAll.opt TAll.e (fun c h => ⟨?_, h4 c h⟩) TAll.e) (fun c h => ⟨?_, h2 c h⟩) TAll.e) (fun c h => ⟨?_, h1 c h⟩) (TAll.opt (TAll.opt TAll.e (fun c h => ⟨?_, h5 c h⟩) TAll.e) (fun c h => ⟨?_, h3 c h⟩) (TAll.opt TAll.e (fun c h => ⟨?_, (h7 c h).2⟩) TAll.e))
 ·show 2 * (2 * 1) < n; omega
 ·show 2 * 1 < n; omega
 ·show 1 < n; omega
 ·show 2 * (2 * 1) + 1 < n; omega
 ·show 2 * 1 + 1 < n; omega
 ·have := (h7 c h).1; show 2 * (2 * 1 + 1) + 1 < n; omega
theorem DM {n : Nat} (hn : 4 <= n) : KpC n MA := by
 intro c hc
 simp at hc
 subst hc
 show 2 * 1 + 1 < n
 omega
theorem DC {n many en : Nat} (hn : 6 <= n) : KpC n (MD many en) := by
 intro c hc
 simp at hc
 subst hc
 simp [Cell.d, Kp, KpL, Pu, aN, Pos.nat]
 omega
theorem Jf {n : Nat} (A : List (Int × Nat)) (cur : Nat) : KpC n (.cells false (cI A) cur) := fun c hc => Kp.pu _ (Ac A c hc)
theorem Ae {x1 x2 x3 x4 x5 x7 y1 y2 y3 y4 y5 y7 : Option C} {a b c d e f : T C} : Beside (.o (.o (.o .h))) (nF y1 y2 y3 y4 y5 y7) (.n (.n (.n a x4 b) x2 .e) x1 (.n (.n c x5 d) x3 (.n e x7 f))) (.n (.n (.n a y4 b) y2 .e) y1 (.n (.n c y5 d) y3 (.n e y7 f))) := by
 refine ⟨fun id c' hid hc => ?_, fun id hle => ?_⟩
 ·cases id with
  | h => exact hc
  | o p => cases p with
    | h => exact hc
    | o q => cases q with
      | h => exact hc
      | o r => have := r.nat_pos; have hid : 2 * (2 * (2 * r.nat)) < 8 := hid; omega
      | i r => have := r.nat_pos; have hid : 2 * (2 * (2 * r.nat + 1)) < 8 := hid; omega
    | i q => rw [T.get_o, T.get_i, T.get_e] at hc; cases hc
  | i p => cases p with
    | h => exact hc
    | o q => cases q with
      | h => exact hc
      | o r => have := r.nat_pos; have hid : 2 * (2 * (2 * r.nat)) + 1 < 8 := hid; omega
      | i r => have := r.nat_pos; have hid : 2 * (2 * (2 * r.nat + 1)) + 1 < 8 := hid; omega
    | i q => cases q with
      | h => exact hc
      | o r => have := r.nat_pos; have hid : 2 * (2 * (2 * r.nat) + 1) + 1 < 8 := hid; omega
      | i r => have := r.nat_pos; have hid : 2 * (2 * (2 * r.nat + 1) + 1) + 1 < 8 := hid; omega
 ·cases id with
  | h => exact absurd hle (by decide)
  | o p => cases p with
    | h => exact absurd hle (by decide)
    | o q => cases q with
      | h => exact absurd hle (by decide)
      | o r => rfl
      | i r => rfl
    | i q => rfl
  | i p => cases p with
    | h => exact absurd hle (by decide)
    | o q => cases q with
      | h => exact absurd hle (by decide)
      | o r => rfl
      | i r => rfl
    | i q => cases q with
      | h => exact absurd hle (by decide)
      | o r => rfl
      | i r => rfl
theorem vX {x1 x2 x3 x4 x5 x6 x7 y1 y2 y3 y4 y5 y7 : Option C} : Beside (.o (.o (.o .h))) (nF y1 y2 y3 y4 y5 y7) (.n (.n (.n .e x4 .e) x2 (.n .e x6 .e)) x1 (.n (.n .e x5 .e) x3 (.n .e x7 .e))) (nF y1 y2 y3 y4 y5 y7) := by
 refine ⟨fun id c' hid hc => hc, fun id hle => ?_⟩
 cases id with
 | h => exact absurd hle (by decide)
 | o p => cases p with
   | h => exact absurd hle (by decide)
   | o q => cases q with
     | h => exact absurd hle (by decide)
     | o r => rfl
     | i r => rfl
   | i q => cases q with
     | h => exact absurd hle (by decide)
     | o r => rfl
     | i r => rfl
 | i p => cases p with
   | h => exact absurd hle (by decide)
   | o q => cases q with
     | h => exact absurd hle (by decide)
     | o r => rfl
     | i r => rfl
   | i q => cases q with
     | h => exact absurd hle (by decide)
     | o r => rfl
     | i r => rfl
def L4 : T Bool := .n (.n .e (some true) .e) (some true) (.n .e (some true) .e)
def L8 : T Bool := .n (.n (.n .e (some true) .e) (some true) (.n .e (some true) .e)) (some true) (.n (.n .e (some true) .e) (some true) (.n .e (some true) .e))
theorem LgLe.e (L : T Bool) : LgLe (some .e) (some L) := ⟨(by simp), (fun id h => by obtain ⟨b, h⟩ := h; rw [T.get_e] at h; cases h), (fun id h => by have h : (T.e : T Bool).get id = some true := h; rw [T.get_e] at h; cases h)⟩
theorem OO (id : Pos) (h : id.nat < (Pos.o (.o .h)).nat) : wrtn (some L4) id := by
 have h : id.nat < 4 := h
 show L4.get id = some true
 cases id with
 | h => rfl
 | o p => cases p with
   | h => rfl
   | o q => have := q.nat_pos; have h : 2 * (2 * q.nat) < 4 := h; omega
   | i q => have := q.nat_pos; have h : 2 * (2 * q.nat + 1) < 4 := h; omega
 | i p => cases p with
   | h => rfl
   | o q => have := q.nat_pos; have h : 2 * (2 * q.nat) + 1 < 4 := h; omega
   | i q => have := q.nat_pos; have h : 2 * (2 * q.nat + 1) + 1 < 4 := h; omega
theorem MF (id : Pos) (h : id.nat < (Pos.o (.o (.o .h))).nat) : wrtn (some L8) id := by
 have h : id.nat < 8 := h
 show L8.get id = some true
 cases id with
 | h => rfl
 | o p => cases p with
   | h => rfl
   | o q => cases q with
     | h => rfl
     | o r => have := r.nat_pos; have h : 2 * (2 * (2 * r.nat)) < 8 := h; omega
     | i r => have := r.nat_pos; have h : 2 * (2 * (2 * r.nat + 1)) < 8 := h; omega
   | i q => cases q with
     | h => rfl
     | o r => have := r.nat_pos; have h : 2 * (2 * (2 * r.nat) + 1) < 8 := h; omega
     | i r => have := r.nat_pos; have h : 2 * (2 * (2 * r.nat + 1) + 1) < 8 := h; omega
 | i p => cases p with
   | h => rfl
   | o q => cases q with
     | h => rfl
     | o r => have := r.nat_pos; have h : 2 * (2 * (2 * r.nat)) + 1 < 8 := h; omega
     | i r => have := r.nat_pos; have h : 2 * (2 * (2 * r.nat + 1)) + 1 < 8 := h; omega
   | i q => cases q with
     | h => rfl
     | o r => have := r.nat_pos; have h : 2 * (2 * (2 * r.nat) + 1) + 1 < 8 := h; omega
     | i r => have := r.nat_pos; have h : 2 * (2 * (2 * r.nat + 1) + 1) + 1 < 8 := h; omega
section
variable {σ : Type} {Z : Yns σ} {ok : σ -> Prop} {many en : Nat}
theorem YnsOk.kp3 (H : YnsOk Z ok) (s : σ) : KpO (Pos.o (.o .h)).nat (Z.ob3 s) := Ke (by decide) (H.kp s 4 (by omega)).1 (H.kp s 4 (by omega)).2.1 (H.kp s 4 (by omega)).2.2
theorem YnsOk.kp6 (H : YnsOk Z ok) (s : σ) : KpO (Pos.o (.i .h)).nat (Z.ob many en s none) := Kh (by decide) (H.kp s 6 (by omega)).1 (H.kp s 6 (by omega)).2.1 (H.kp s 6 (by omega)).2.2 (fun c h => by cases h; exact DM (by decide)) (fun c h => by cases h; exact DC (by decide)) (fun c h => by cases h)
theorem YnsOk.kp8 (H : YnsOk Z ok) (s : σ) (A : List (Int × Nat)) (cur : Nat) : KpO (Pos.o (.o (.o .h))).nat (Z.ob many en s (some (.cells false (cI A) cur))) := Kh (by decide) (H.kp s 8 (by omega)).1 (H.kp s 8 (by omega)).2.1 (H.kp s 8 (by omega)).2.2 (fun c h => by cases h; exact DM (by decide)) (fun c h => by cases h; exact DC (by decide)) (fun c h => by cases h; exact ⟨by decide, Jf A cur⟩)
end
theorem ShC.pre {B : Pos -> Prop} {ob : T C} (l m : List Cell) (cur : Nat) (h : ∀ c ∈ l, Pu c.d) : ShC B ob (.cells false (l ++ m) cur) (.cells false l cur) :=
 .cells fun k c' hc => ⟨c', by rw [List.getElem?_append_left (List.getElem?_eq_some_iff.1 hc).1]; exact hc, fun _ h => h, .pu (h c' (List.mem_of_getElem? hc))⟩
def Gr {σ : Type} (Z : Yns σ) (many en : Nat) (L : List (List Int)) (s : σ) (A : List (Int × Nat)) (st : Nat) (v : D) (ob' : T C) : Prop := ∃ cur', st <= cur' /\ v = .b (bL Z L s).2 /\ ob' = Z.ob many en (bL Z L s).1 (some (.cells false (cI A) cur'))
theorem HT {σ : Type} {Z : Yns σ} {ok : σ -> Prop} (H : YnsOk Z ok) (many en : Nat) (hm : many <= 1000) (A : List (Int × Nat)) (hA : A ≠ []) (hk : A.length = many) (next : Int) (st cur : Nat) (hst : ∀ p ∈ A, p.2 <= st) (hsc : st <= cur) (s : σ) (hok : ok s) :
 ∃ v ob', Gr Z many en [A.map Prod.fst] s A st v ob' /\ CallOk Tryz.prog p158.ix (BR many en (.sl (.i (.i .h)) 0 A.length st 1) next) (Z.ob many en s (some (.cells false (cI A) cur))) (.o (.o (.o .h))) none v ob' (.o (.o (.o .h))) none := by
 refine CallOk.runE AK (by simp [BR]) (Nat.le_refl _) ?_; conv => whnf
 refine Qg ?_
 refine WB.dec (fun h => ?_) (fun h => ?_) <;> conv => whnf
 ·refine Qg ?_
  cases A with
  | nil => exact absurd rfl hA
  | cons a A =>
    have hk' : A.length + 1 = many := hk
    refine WCall.one (De a A _ st cur rfl hst (by simp; omega)) rfl (Ac _) (aC _) rfl (by decide) (LgLe.e (T.set (.i (.i .h)) true .e)) rfl ?_; conv => whnf
    refine Qg ?_
    refine WRnd.fr (H.rnd s ((a :: A).map Prod.fst) hok (by simp; omega)) (by decide) ?_ (H.kp3 s) ⟨Kp.pu _ (aC _), trivial⟩ uR (by decide) (LgLe.e L4) OO ?_
    ·show T.le (nP _ _ _) _
     unfold nP
     repeat' first | exact T.le_e _ | refine T.le_sameS ?_ ?_
    conv => whnf
    refine Qg ?_
    refine ⟨_, _, ⟨cur, hsc, rfl, rfl⟩, ⟨.inr rfl, ⟨_, rfl, ?_⟩, Shr.kp ?_ (H.kp8 _ _ _)⟩⟩
    ·rw [jZ]
     exact .pu trivial
    ·rw [jZ]
     exact T.le_refl _
 ·exact absurd (by rw [hk]; rfl) h
theorem Mk {sl sl' : T D} {x1 x2 x3 x4 x5 : Option C} {a b c d e f : T C} {A B' : List (Int × Nat)} {cur : Nat} {nx : Pos} (hs : T.le sl' sl) (ks : ∀ s d, sl'.get s = some d -> Kp (Pos.o (.o (.o .h))).nat d) (kp : KpO (Pos.o (.o (.o .h))).nat (nF x1 x2 x3 x4 x5 (some (.cells false (cI A) cur)))) :
 Shr ⟨sl, .n (.n (.n a x4 b) x2 .e) x1 (.n (.n c x5 d) x3 (.n e (some (.cells false (cI (A ++ B')) cur)) f)), nx, none⟩ ⟨sl', nF x1 x2 x3 x4 x5 (some (.cells false (cI A) cur)), .o (.o (.o .h)), none⟩ := by
 have e1 : cI (A ++ B') = cI A ++ cI B' := by simp [cI, xM]
 refine ⟨fun s d h => ⟨d, hs s d h, Fz.kp d (ks s d h)⟩, fun id c' hc => ⟨(kp id c' hc).1, ?_⟩, rfl, rfl⟩
 have hk := (kp id c' hc).2
 cases id with
 | h => exact ⟨c', hc, ShC.kp hk⟩
 | o p => cases p with
   | h => exact ⟨c', hc, ShC.kp hk⟩
   | o q => cases q with
     | h => exact ⟨c', hc, ShC.kp hk⟩
     | o r => have hc : (T.e : T C).get r = some c' := hc; rw [T.get_e] at hc; cases hc
     | i r => have hc : (T.e : T C).get r = some c' := hc; rw [T.get_e] at hc; cases hc
   | i q => have hc : (T.e : T C).get q = some c' := hc; rw [T.get_e] at hc; cases hc
 | i p => cases p with
   | h => exact ⟨c', hc, ShC.kp hk⟩
   | o q => cases q with
     | h => exact ⟨c', hc, ShC.kp hk⟩
     | o r => have hc : (T.e : T C).get r = some c' := hc; rw [T.get_e] at hc; cases hc
     | i r => have hc : (T.e : T C).get r = some c' := hc; rw [T.get_e] at hc; cases hc
   | i q => cases q with
     | h =>
       have hc : some (C.cells false (cI A) cur) = some c' := hc
       cases hc
       exact ⟨_, rfl, by rw [e1]; exact ShC.pre _ _ _ (Ac A)⟩
     | o r => have hc : (T.e : T C).get r = some c' := hc; rw [T.get_e] at hc; cases hc
     | i r => have hc : (T.e : T C).get r = some c' := hc; rw [T.get_e] at hc; cases hc
def fN (en k next : Nat) (S : List Int) (n : Nat) : List (List Int) := (List.range' next n).flatMap fun i : Nat => dQ en k (i + 1) (S ++ [(i : Int)])
theorem BE (en k next : Nat) (S : List Int) (n : Nat) : fN en k next S (n + 1) = fN en k next S n ++ dQ en k (next + n + 1) (S ++ [((next + n : Nat) : Int)]) := by
 unfold fN
 rw [List.range'_1_concat, List.flatMap_append]
 simp
theorem nB (en k next : Nat) (S : List Int) : dQ en (k + 1) next S = fN en k next S (en - next) := rfl
theorem DU (en k next : Nat) (S : List Int) (m n : Nat) : fN en k next S (m + n) = fN en k next S m ++ fN en k (next + m) S n := by
 unfold fN
 rw [<- List.flatMap_append, List.range'_append_1]
theorem sU {σ : Type} {Z : Yns σ} {en k next : Nat} {S : List Int} {s s' : σ} {n : Nat} (h : bL Z (fN en k next S n) s = (s', true)) : bL Z (fN en k next S (n + 1)) s = bL Z (dQ en k (next + n + 1) (S ++ [((next + n : Nat) : Int)])) s' := by
 rw [BE, nZ, h]
theorem rT {σ : Type} {Z : Yns σ} {en k next : Nat} {S : List Int} {s s' : σ} {n : Nat} (hn : n <= en - next) (h : bL Z (fN en k next S n) s = (s', false)) : bL Z (dQ en (k + 1) next S) s = (s', false) := by
 obtain ⟨m, hm⟩ : ∃ m, en - next = n + m := ⟨en - next - n, by omega⟩
 rw [nB, hm, DU, nZ, h]
def Ht (many en : Nat) (n st : Nat) (i : Nat) : T D := (.n (.n .e none (.n (.n .e (some (.i .i64 (i : Int))) .e) (some (.pt (.i (.o .h)) 0 0)) .e)) (some (.sl (.i (.i .h)) 0 n st 1)) (.n (.n .e (some (.pl [.i .i64 (en : Int)] 0)) .e) none .e))
theorem HZ (many en n st i : Nat) : ∀ s d, (Ht many en n st i).get s = some d -> Kp (Pos.o (.o (.o .h))).nat d := by
 show TAll (fun _ d => Kp _ d) (Ht many en n st i)
 unfold Ht
 repeat' first | exact TAll.e | refine TAll.some ?_ ?_ ?_ | refine TAll.none ?_ ?_
 all_goals simp [Kp, Pu, aN, Pos.nat]
theorem GF {σ : Type} {Z : Yns σ} {ok : σ -> Prop} (H : YnsOk Z ok) (many en : Nat) (hm : many <= 1000) (he : en <= 1000) : ∀ (k : Nat) (A : List (Int × Nat)) (next st cur : Nat) (s : σ), A ≠ [] -> A.length + k = many -> (∀ p ∈ A, p.2 <= st) -> st <= cur -> next <= 1001 -> ok s ->
 ∃ v ob', Gr Z many en (dQ en k next (A.map Prod.fst)) s A st v ob' /\ CallOk Tryz.prog p158.ix (BR many en (.sl (.i (.i .h)) 0 A.length st 1) (next : Int)) (Z.ob many en s (some (.cells false (cI A) cur))) (.o (.o (.o .h))) none v ob' (.o (.o (.o .h))) none
 | 0, A, next, st, cur, s, hA, hk, hst, hsc, _, hok => HT H many en hm A hA (by omega) (next : Int) st cur hst hsc s hok
 | k + 1, A, next, st, cur, s, hA, hk, hst, hsc, hnx, hok => by
   have ih := GF H many en hm he k
   refine CallOk.runE AK (by simp [BR]) (Nat.le_refl _) ?_; conv => whnf
   refine Qg ?_
   refine WB.dec (fun h => ?_) (fun h => ?_) <;> conv => whnf
   ·exfalso
    have h : (A.length : Int) = (many : Int) := h
    omega
   refine Qg ?_
   refine Rn.loop (fun t : Nat × σ × Nat => ⟨Ht many en A.length st t.1, Z.ob many en t.2.1 (some (.cells false (cI A) t.2.2)), .o (.o (.o .h)), none⟩) (fun t => next <= t.1 /\ t.1 <= max next en /\ st <= t.2.2 /\ bL Z (fN en k next (A.map Prod.fst) (t.1 - next)) s = (t.2.1, true)) (fun t => en - t.1) (next, s, cur) ?_ ?_ ?_
   ·refine X.le.mk ?_ (T.le_refl _) (Nat.le_refl _) rfl rfl
    unfold Ht
    exact IA
   ·refine ⟨Nat.le_refl _, by show next <= max next en; omega, hsc, ?_⟩
    show bL Z (fN en k next _ (next - next)) s = _
    rw [Nat.sub_self]; rfl
   rintro ⟨i, s', cur'⟩ ⟨h1, h2, h3, h4⟩
   have h1 : next <= i := h1
   have h2 : i <= max next en := h2
   have h3 : st <= cur' := h3
   have h4 : bL Z (fN en k next (A.map Prod.fst) (i - next)) s = (s', true) := h4
   have hok' : ok s' := by have := qH H _ s hok (by rw [h4]); rw [h4] at this; exact this
   conv => whnf
   refine Qg ?_
   refine WB.dec (fun h => ?_) (fun h => ?_) <;> conv => whnf
   ·have hlt : i < en := by have h : (i : Int) < (en : Int) := h; omega
    obtain ⟨v, ob', ⟨cur2, h5, rfl, rfl⟩, C⟩ := ih (A ++ [((i : Int), cur')]) (i + 1) cur' (cur' + 1) s' (by simp) (by simp; omega) (fun p hp => by
     rcases List.mem_append.1 hp with hp | hp
     ·exact Nat.le_trans (hst p hp) h3
     ·rw [List.mem_singleton.1 hp]; exact Nat.le_refl _) (by omega) (by omega) hok'
    have hnext := sU h4
    rw [show next + (i - next) = i from by omega] at hnext
    have hAm : (A ++ [((i : Int), cur')]).map Prod.fst = A.map Prod.fst ++ [(i : Int)] := by simp
    have hAl : (A ++ [((i : Int), cur')]).length = A.length + 1 := by simp
    rw [hAm] at C
    rw [hAl] at C
    rw [<- hnext] at C
    rw [show ((i + 1 : Nat) : Int) = (i : Int) + 1 from by omega] at C
    cases hgo : (bL Z (fN en k next (A.map Prod.fst) (i - next + 1)) s).2 with
    | true =>
      rw [hgo] at C
      refine Qg ?_
      refine WSt.app_stL (r := [.i .i64 (i : Int)]) (l := A.map fun p => (D.i .i64 p.1, p.2)) (ob2 := .n (.n (.n (.n .e (some (.cells false [.o (.i .i64 (i : Int)) 0] 1)) .e) (some MA) .e) (Z.o2 s') .e) (Z.o1 s') (.n (.n .e (some (MD many en)) .e) (Z.o3 s') (.n .e (some (.cells false (cI (A ++ [((i : Int), cur')])) (cur' + 1))) .e))) rfl rfl rfl rfl rfl rfl rfl (fun p hp => by
       obtain ⟨q, hq, rfl⟩ := List.mem_map.1 hp
       exact hst q hq) (by simp) rfl (by omega) (by rw [AI]; rfl) ?_; conv => whnf
      refine Qg ?_
      refine WCall.fr C ?_ (H.kp8 _ _ _) ?_ Ae (by decide) (LgLe.e L8) MF ?_
      ·show T.le (nF _ _ _ _ _ _) _
       unfold nF
       repeat' first | exact T.le_e _ | exact T.le_refl _ | refine T.le_sameS ?_ ?_
      ·simp [KpL, Kp, Pu, aN, Pos.nat, BR]
      conv => whnf
      refine Qg ?_
      refine WB.mk (fun e => by cases e) (fun _ => ?_); conv => whnf
      refine Qg ?_
      refine Again.to (i + 1, (bL Z (fN en k next (A.map Prod.fst) (i - next + 1)) s).1, cur2) (show en - (i + 1) < en - i by omega) ⟨by show next <= i + 1; omega, by show i + 1 <= max next en; omega, by show st <= cur2; omega, ?_⟩ (Nat.le_refl _) (Mk ?_ (HZ many en _ _ _) (H.kp8 _ _ _))
      ·show bL Z (fN en k next (A.map Prod.fst) (i + 1 - next)) s = _
       rw [show i + 1 - next = i - next + 1 from by omega]
       exact Prod.ext rfl hgo
      ·show T.le (Ht many en A.length st (i + 1)) _
       unfold Ht
       simp only [Int.natCast_add, Int.natCast_one]
       exact IA
    | false =>
      rw [hgo] at C
      have hstop := rT (n := i - next + 1) (by omega) (Prod.ext (rfl : (bL Z (fN en k next (A.map Prod.fst) (i - next + 1)) s).1 = _) hgo)
      refine Qg ?_
      refine WSt.app_stL (r := [.i .i64 (i : Int)]) (l := A.map fun p => (D.i .i64 p.1, p.2)) (ob2 := .n (.n (.n (.n .e (some (.cells false [.o (.i .i64 (i : Int)) 0] 1)) .e) (some MA) .e) (Z.o2 s') .e) (Z.o1 s') (.n (.n .e (some (MD many en)) .e) (Z.o3 s') (.n .e (some (.cells false (cI (A ++ [((i : Int), cur')])) (cur' + 1))) .e))) rfl rfl rfl rfl rfl rfl rfl (fun p hp => by
       obtain ⟨q, hq, rfl⟩ := List.mem_map.1 hp
       exact hst q hq) (by simp) rfl (by omega) (by rw [AI]; rfl) ?_; conv => whnf
      refine Qg ?_
      refine WCall.fr C ?_ (H.kp8 _ _ _) ?_ Ae (by decide) (LgLe.e L8) MF ?_
      ·show T.le (nF _ _ _ _ _ _) _
       unfold nF
       repeat' first | exact T.le_e _ | exact T.le_refl _ | refine T.le_sameS ?_ ?_
      ·simp [KpL, Kp, Pu, aN, Pos.nat, BR]
      conv => whnf
      refine Qg ?_
      refine WB.mk (fun _ => ?_) (fun e => by cases e); conv => whnf
      refine Qg ?_
      refine ⟨_, _, ⟨cur2, by omega, rfl, rfl⟩, ⟨.inr rfl, ⟨_, rfl, ?_⟩, ?_⟩⟩
      ·rw [hstop]
       exact .pu trivial
      ·rw [hstop]
       exact Mk (T.le_e _) (fun s d h => by rw [T.get_e] at h; cases h) (H.kp8 _ _ _)
   ·refine Qg ?_
    have hge : en <= i := by have h : ¬ (i : Int) < (en : Int) := h; omega
    have hall : fN en k next (A.map Prod.fst) (i - next) = dQ en (k + 1) next (A.map Prod.fst) := by
     rw [nB, show i - next = en - next from by omega]
    rw [hall] at h4
    refine ⟨_, _, ⟨cur', h3, rfl, rfl⟩, ⟨.inr rfl, ⟨_, rfl, ?_⟩, Shr.kp ?_ (H.kp8 _ _ _)⟩⟩
    ·rw [h4]
     exact .pu trivial
    ·rw [h4]
     exact T.le_refl _
def GT (en : Nat) (i : Nat) : T D := (.n (.n .e none (.n (.n .e (some (.i .i64 (i : Int))) .e) (some (.pt (.i (.o .h)) 0 0)) .e)) (some (.ns)) (.n (.n .e (some (.pl [.i .i64 (en : Int)] 0)) .e) none .e))
theorem Hu (en i : Nat) : ∀ s d, (GT en i).get s = some d -> Kp (Pos.o (.i .h)).nat d := by
 show TAll (fun _ d => Kp _ d) (GT en i)
 unfold GT
 repeat' first | exact TAll.e | refine TAll.some ?_ ?_ ?_ | refine TAll.none ?_ ?_
 all_goals simp [Kp, Pu, aN, Pos.nat]
theorem Jc {σ : Type} {Z : Yns σ} {ok : σ -> Prop} (H : YnsOk Z ok) (many en : Nat) (hm : many <= 1000) (he : en <= 1000) (s : σ) (hok : ok s) :
 ∃ v ob', (v = .b (bL Z (dQ en many 0 []) s).2 /\ ob' = Z.ob many en (bL Z (dQ en many 0 []) s).1 none) /\ CallOk Tryz.prog p158.ix (BR many en .ns 0) (Z.ob many en s none) (.o (.i .h)) none v ob' (.o (.i .h)) none := by
 cases many with
 | zero =>
   refine CallOk.runE AK (by simp [BR]) (Nat.le_refl _) ?_; conv => whnf
   refine Qg ?_
   refine WB.dec (fun h => ?_) (fun h => ?_) <;> conv => whnf
   ·repeat' ((first | refine Qz ?_ | refine Qf CF ?_) <;> conv => whnf)
    refine WRnd.fr (H.rnd s [] hok (by simp)) (by decide) ?_ (H.kp3 s) ⟨Kp.pu _ trivial, trivial⟩ uR (by decide) (LgLe.e L4) OO ?_
    ·show T.le (nP _ _ _) _
     unfold nP
     repeat' first | exact T.le_e _ | refine T.le_sameS ?_ ?_
    conv => whnf
    refine Qg ?_
    refine ⟨_, _, ⟨rfl, rfl⟩, ⟨.inr rfl, ⟨_, rfl, ?_⟩, Shr.kp ?_ (H.kp6 _)⟩⟩
    ·show Fz _ _ _ (.b (bL Z [[]] s).2)
     rw [jZ]
     exact .pu trivial
    ·show T.le (Z.ob 0 en (bL Z [[]] s).1 none) _
     rw [jZ]
     unfold Yns.ob nF
     repeat' first | exact T.le_e _ | refine T.le_sameS ?_ ?_ | refine T.le_none ?_ ?_
   ·exact absurd rfl h
 | succ k =>
   have ih := GF H (k + 1) en hm he k
   refine CallOk.runE AK (by simp [BR]) (Nat.le_refl _) ?_; conv => whnf
   refine Qg ?_
   refine WB.dec (fun h => ?_) (fun h => ?_) <;> conv => whnf
   ·exfalso
    have h : (0 : Int) = ((k + 1 : Nat) : Int) := h
    omega
   refine Qg ?_
   refine Rn.loop (fun t : Nat × σ => ⟨GT en t.1, Z.ob (k + 1) en t.2 none, .o (.i .h), none⟩) (fun t => t.1 <= en /\ bL Z (fN en k 0 [] t.1) s = (t.2, true)) (fun t => en - t.1) (0, s) ?_ ?_ ?_
   ·refine X.le.mk ?_ (T.le_refl _) (Nat.le_refl _) rfl rfl
    unfold GT
    exact IA
   ·exact ⟨Nat.zero_le _, rfl⟩
   rintro ⟨i, s'⟩ ⟨h2, h4⟩
   have h2 : i <= en := h2
   have h4 : bL Z (fN en k 0 [] i) s = (s', true) := h4
   have hok' : ok s' := by have := qH H _ s hok (by rw [h4]); rw [h4] at this; exact this
   conv => whnf
   refine Qg ?_
   refine WB.dec (fun h => ?_) (fun h => ?_) <;> conv => whnf
   ·have hlt : i < en := by have h : (i : Int) < (en : Int) := h; omega
    obtain ⟨v, ob', ⟨cur2, h5, rfl, rfl⟩, C⟩ := ih [((i : Int), 0)] (i + 1) 0 1 s' (by simp) (by simp; omega) (fun p hp => by
     rw [List.mem_singleton.1 hp]; exact Nat.le_refl _) (by omega) (by omega) hok'
    have hnext := sU h4
    rw [show 0 + i = i from by omega] at hnext
    have hAm : [((i : Int), 0)].map Prod.fst = [] ++ [(i : Int)] := by simp
    rw [hAm] at C
    rw [<- hnext] at C
    rw [show ((i + 1 : Nat) : Int) = (i : Int) + 1 from by omega] at C
    cases hgo : (bL Z (fN en k 0 [] (i + 1)) s).2 with
    | true =>
      rw [hgo] at C
      refine Qg ?_
      refine WSt.app_firstL (r := [.i .i64 (i : Int)]) rfl (.inl rfl) rfl rfl rfl rfl ?_; conv => whnf
      refine Qg ?_
      refine WCall.fr C ?_ (H.kp8 _ _ _) ?_ vX (by decide) (LgLe.e L8) MF ?_
      ·show T.le (nF _ _ _ _ _ _) _
       unfold nF
       repeat' first | exact T.le_e _ | exact T.le_refl _ | refine T.le_sameS ?_ ?_
      ·simp [KpL, Kp, Pu, aN, Pos.nat, BR]
      conv => whnf
      refine Qg ?_
      refine WB.mk (fun e => by cases e) (fun _ => ?_); conv => whnf
      refine Qg ?_
      refine Again.to (i + 1, (bL Z (fN en k 0 [] (i + 1)) s).1) (show en - (i + 1) < en - i by omega) ⟨by show i + 1 <= en; omega, Prod.ext rfl hgo⟩ (Nat.le_refl _) (Shr.kp2 ?_ (Hu en _) ?_ (H.kp6 _))
      ·show T.le (GT en (i + 1)) _
       unfold GT
       simp only [Int.natCast_add, Int.natCast_one]
       exact IA
      ·show T.le (nF _ _ _ _ _ _) (nF _ _ _ _ _ _)
       unfold nF
       repeat' first | exact T.le_e _ | exact T.le_refl _ | refine T.le_sameS ?_ ?_ | refine T.le_none ?_ ?_
    | false =>
      rw [hgo] at C
      have hstop := rT (en := en) (k := k) (next := 0) (S := []) (n := i + 1) (by omega) (Prod.ext (rfl : (bL Z (fN en k 0 [] (i + 1)) s).1 = _) hgo)
      refine Qg ?_
      refine WSt.app_firstL (r := [.i .i64 (i : Int)]) rfl (.inl rfl) rfl rfl rfl rfl ?_; conv => whnf
      refine Qg ?_
      refine WCall.fr C ?_ (H.kp8 _ _ _) ?_ vX (by decide) (LgLe.e L8) MF ?_
      ·show T.le (nF _ _ _ _ _ _) _
       unfold nF
       repeat' first | exact T.le_e _ | exact T.le_refl _ | refine T.le_sameS ?_ ?_
      ·simp [KpL, Kp, Pu, aN, Pos.nat, BR]
      conv => whnf
      refine Qg ?_
      refine WB.mk (fun _ => ?_) (fun e => by cases e); conv => whnf
      refine Qg ?_
      refine ⟨_, _, ⟨rfl, rfl⟩, ⟨.inr rfl, ⟨_, rfl, ?_⟩, Shr.kp ?_ (H.kp6 _)⟩⟩
      ·rw [hstop]
       exact .pu trivial
      ·rw [hstop]
       show T.le (nF _ _ _ _ _ _) (nF _ _ _ _ _ _)
       unfold nF
       repeat' first | exact T.le_e _ | exact T.le_refl _ | refine T.le_sameS ?_ ?_ | refine T.le_none ?_ ?_
   ·refine Qg ?_
    have hge : i = en := by have h : ¬ (i : Int) < (en : Int) := h; omega
    subst hge
    refine ⟨_, _, ⟨rfl, rfl⟩, ⟨.inr rfl, ⟨_, rfl, ?_⟩, Shr.kp ?_ (H.kp6 _)⟩⟩
    ·rw [nB, Nat.sub_zero, h4]
     exact .pu trivial
    ·rw [nB, Nat.sub_zero, h4]
     exact T.le_refl _
theorem CW {x1 x2 x3 x4 x5 y1 y2 y3 y4 y5 : Option C} : Beside (.o (.i .h)) (nF y1 y2 y3 y4 y5 none) (.n (.n (.n .e x4 .e) x2 .e) x1 (.n (.n .e x5 .e) x3 .e)) (nF y1 y2 y3 y4 y5 none) := by
 refine ⟨fun id c' hid hc => hc, fun id hle => ?_⟩
 cases id with
 | h => exact absurd hle (by decide)
 | o p => cases p with
   | h => exact absurd hle (by decide)
   | o q => cases q with
     | h => exact absurd hle (by decide)
     | o r => rfl
     | i r => rfl
   | i q => rfl
 | i p => cases p with
   | h => exact absurd hle (by decide)
   | o q => cases q with
     | h => exact absurd hle (by decide)
     | o r => rfl
     | i r => rfl
   | i q => cases q with
     | h => rfl
     | o r => rfl
     | i r => rfl
theorem Gp {σ : Type} {Z : Yns σ} {ok : σ -> Prop} (H : YnsOk Z ok) (many en : Nat) (hm : many <= 1000) (he : en <= 1000) (s : σ) (hok : ok s) :
 CallOk Tryz.prog p157.ix [.yl (.i .h), .pl [.i .i64 (many : Int)] 0, .pl [.i .i64 (en : Int)] 0] (Z.ob3 s) (.o (.o .h)) none (.tp []) (Z.ob3 (bL Z (dQ en many 0 []) s).1) (.o (.o .h)) none := by
 obtain ⟨v, ob', ⟨rfl, rfl⟩, C⟩ := Jc H many en hm he s hok
 refine CallOk.run KH (by simp) (Nat.le_refl _) ?_; conv => whnf
 refine Qg ?_
 refine WCall.fr C ?_ (H.kp6 _) ?_ CW (Nat.le_refl _) (LgLe.refl _) (fun _ _ => trivial) ?_
 ·show T.le (nF _ _ _ _ _ _) _
  unfold nF
  repeat' first | exact T.le_e _ | exact T.le_refl _ | refine T.le_sameS ?_ ?_ | refine T.le_ee ?_ ?_
 ·simp [KpL, Kp, Pu, aN, Pos.nat, BR]
 conv => whnf
 refine Qg ?_
 refine ⟨.inl rfl, ⟨_, rfl, .pu trivial⟩, Shr.kp ?_ (H.kp3 _)⟩
 show T.le (nP _ _ _) (nF _ _ _ _ _ _)
 unfold nP nF
 repeat' first | exact T.le_e _ | refine T.le_sameS ?_ ?_
theorem wK {B : Pos → Prop} {ob : T C} {d : D} (h : Pu d := by simp [Cell.d, Pu, aN, cG, aC, aF, aG, aM, gB]; done) : Fz B ob d d := .pu h
def xQ (ms : List (Int × Int)) (S : List Int) (j : Nat) : List (Int × Int) := ((List.range j).filter fun i : Nat => !pO S (i : Int)).map fun i => ms.getD i default
def Gu (ms : List (Int × Int)) (S : List Int) : List (Int × Int) := xQ ms S ms.length
theorem CH (ms : List (Int × Int)) (S : List Int) (j : Nat) : xQ ms S (j + 1) = if pO S (j : Int) = true then xQ ms S j else xQ ms S j ++ [ms.getD j default] := by
  unfold xQ
  rw [List.range_succ, List.filter_append, List.map_append]
  cases h : pO S (j : Int) <;> simp [h]
theorem AJ (ms : List (Int × Int)) (S : List Int) (j : Nat) : (xQ ms S j).length ≤ j := by
  unfold xQ
  rw [List.length_map]
  have := List.length_filter_le (fun i : Nat => !pO S (i : Int)) (List.range j)
  rwa [List.length_range] at this
theorem zW {ms : List (Int × Int)} {S : List Int} {p : Int × Int → Bool} : (Gu ms S).all p = true ↔ ∀ k, k < ms.length → pO S (k : Int) = false → p (ms.getD k default) = true := by
  unfold Gu xQ
  rw [List.all_map, List.all_eq_true]
  constructor
  · intro h k hk hc
    exact h k (List.mem_filter.2 ⟨List.mem_range.2 hk, by rw [hc]; rfl⟩)
  · intro h k hk
    obtain ⟨h1, h2⟩ := List.mem_filter.1 hk
    exact h k (List.mem_range.1 h1) (by simpa using h2)
theorem FN {ms : List (Int × Int)} {S : List Int} {x : Int × Int} (h : x ∈ Gu ms S) : x ∈ ms := by
  unfold Gu xQ at h
  obtain ⟨k, hk, rfl⟩ := List.mem_map.1 h
  exact bA (List.mem_range.1 (List.mem_filter.1 hk).1)
def EW (b : Bh) (S : List Int) : Bh := ⟨b.last, b.rws, b.pls, b.rch, b.face, b.sun, b.winds, b.brk, Gu b.nts S⟩
theorem VW.wo {b : Bh} (V : VW b) (S : List Int) : VW (EW b S) := { V with nts := List.all_eq_true.2 fun x hx => List.all_eq_true.1 V.nts x (FN hx) }
theorem IL (S : List Int) (x : Int) (hS : S.length ≤ 1000) : PureF Tryz.prog p159.ix [xL S, .i .i64 x] (.b (pO S x)) := by
  cases S with
  | nil => exact wV x
  | cons a S => exact yX (a :: S) x hS
set_option maxHeartbeats 2000000 in
theorem BA (b : Bh) (S : List Int) (hn : b.nts.length ≤ 1000) (hS : S.length ≤ 1000) : PureF Tryz.prog p145.ix [.ag (eY b), xL S] (.ag (eY (EW b S))) := by
  have e1 := aL cX b.nts
  have cC := fun x => IL S x hS
  have pS := pZ S
  generalize xL S = sd at *
  refine PureF.run Kt (by simp) (by simp [aN, cG, Pu, aM, pS]) ?_; conv => whnf
  repeat' first | ((first | refine Qz ?_ | refine Qy ?_) <;> conv => whnf) | (refine WB.tt ?_; conv => whnf) | (refine WB.ff ?_; conv => whnf)
  refine Rn.loopV [(p6, none), (p7, none), (p8, none), (bF, none), (bO, none), (bQ, none), (bZ, none), (bY, none), (cJ, none), (cV, none), (p20, none), (p21, none), (p22, none), (dH, none), (p24, none), (p25, none), (p26, none)] (fun j : Nat => [(p6, some (BS (.i (.o .h)) 2 (xQ b.nts S j))), (bF, some (.i .i64 (j : Int)))]) (fun j : Nat => [((.i (.o .h)), Ez cX (xQ b.nts S j))]) (fun j : Nat => kE (.i .h) (.o (.i .h)) (xQ b.nts S j)) (fun j : Nat => j ≤ b.nts.length) (fun j : Nat => b.nts.length - j) 0 ?_ ?_ ?_
  · conv => whnf
    (refine X.le.mk ?_ ?_ (Nat.le_refl _) rfl rfl) <;> (repeat' first | exact T.le_e _ | refine T.le_some ?_ rfl ?_ | refine T.le_none ?_ ?_ | refine T.le_ee ?_ ?_)
  rotate_left
  intro xl1 hxl1
  rotate_right
  · exact Nat.zero_le _
  intro j hj
  have hj : j ≤ b.nts.length := hj
  have hsc0 := CH b.nts S j
  have hAl := AJ b.nts S j
  have hend : j = b.nts.length → xQ b.nts S j = Gu b.nts S := fun h => by rw [h]; rfl
  generalize hA : xQ b.nts S j = A at *
  conv => whnf
  repeat' first | ((first | refine Qz ?_ | refine Qy ?_) <;> conv => whnf) | (refine WB.tt ?_; conv => whnf) | (refine WB.ff ?_; conv => whnf)
  refine WB.dec (fun hd2 => ?_) (fun hd2 => ?_) <;> conv => whnf
  · have hlt : j < b.nts.length := by omega
    have cC := cC (j : Int)
    cases ht : pO S (j : Int) with
    | false =>
      rw [ht] at cC
      have hsc : xQ b.nts S (j + 1) = A ++ [b.nts.getD j default] := by rw [hsc0, if_neg (by rw [ht]; decide)]
      cases A with
      | nil =>
        repeat' first | ((first | refine Qz ?_ | refine Qf (cC) ?_ | refine Qy ?_) <;> conv => whnf) | (refine WB.tt ?_; conv => whnf) | (refine WB.ff ?_; conv => whnf)
        refine WSt.app_first (r := cX (b.nts.getD j default)) (by rfl) (.inl rfl) (by rfl) (by rfl) (by rfl) (by rfl) ?_; conv => whnf
        repeat' first | ((first | refine Qz ?_ | refine Qy ?_) <;> conv => whnf) | (refine WB.tt ?_; conv => whnf) | (refine WB.ff ?_; conv => whnf)
        refine AgainB.v (j + 1) (by omega) (show j + 1 ≤ b.nts.length by omega) (by show Pos.nat _ ≤ Pos.nat _; simp only [hA, hsc, kE, List.cons_append, List.nil_append] <;> decide) (by assumption) ?_
        rw [hsc]
        conv => whnf
        refine Shr.of ?_ ?_ rfl rfl
        · (repeat' first | exact Rel.e | refine Rel.some ?_ ?_ ?_ | refine Rel.none ?_ ?_ | refine Rel.ee ?_ ?_)
          all_goals show Fz _ _ _ _
          all_goals first | exact Fq | exact Fz.pu pS | exact wK
        · (repeat' first | exact Rel.e | refine Rel.some ?_ ?_ ?_ | refine Rel.none ?_ ?_ | refine Rel.ee ?_ ?_)
          all_goals refine xH ?_
          all_goals first | exact ShC.na gB _ | exact Sq | (refine ShC.same ?_; (repeat' first | exact ShC.nl | refine ShC.cn ?_ ?_) <;> first | exact Fq | exact Fz.pu pS | exact wK)
      | cons a s =>
        have hs5 : s.length + 1 ≤ 1000 := Nat.le_trans hAl (by omega)
        repeat' first | ((first | refine Qz ?_ | refine Qf (cC) ?_ | refine Qy ?_) <;> conv => whnf) | (refine WB.tt ?_; conv => whnf) | (refine WB.ff ?_; conv => whnf)
        refine WSt.app_one (id := (.i (.o .h))) (ds := (aO cX (a :: s)).flatten) (r := cX (b.nts.getD j default)) (by rfl) (by rfl) (by rfl) (by rfl) (by rfl) (by rfl) (by rw [eI (z := 2) Bo]; rfl) (by rfl) (by rfl) (by omega) (by rfl) ?_; conv => whnf
        repeat' first | ((first | refine Qz ?_ | refine Qy ?_) <;> conv => whnf) | (refine WB.tt ?_; conv => whnf) | (refine WB.ff ?_; conv => whnf)
        refine AgainB.v (j + 1) (by omega) (show j + 1 ≤ b.nts.length by omega) (by show Pos.nat _ ≤ Pos.nat _; simp only [hA, hsc, kE, List.cons_append, List.nil_append] <;> decide) (by assumption) ?_
        rw [hsc, List.cons_append]
        conv => whnf
        (try rw [gV])
        (try rw [hH])
        refine Shr.of ?_ ?_ rfl rfl
        · (repeat' first | exact Rel.e | refine Rel.some ?_ ?_ ?_ | refine Rel.none ?_ ?_ | refine Rel.ee ?_ ?_)
          all_goals show Fz _ _ _ _
          all_goals first | exact Fq | exact Fz.pu pS | exact wK
        · (repeat' first | exact Rel.e | refine Rel.some ?_ ?_ ?_ | refine Rel.none ?_ ?_ | refine Rel.ee ?_ ?_)
          all_goals refine xH ?_
          all_goals first | exact ShC.ca gB _ _ | exact Sq | (refine ShC.same ?_; (repeat' first | exact ShC.nl | refine ShC.cn ?_ ?_) <;> first | exact Fq | exact Fz.pu pS | exact wK)
    | true =>
      rw [ht] at cC
      have hsc : xQ b.nts S (j + 1) = A := by rw [hsc0, if_pos ht]
      cases A with
      | nil =>
        repeat' first | ((first | refine Qz ?_ | refine Qf (cC) ?_ | refine Qy ?_) <;> conv => whnf) | (refine WB.tt ?_; conv => whnf) | (refine WB.ff ?_; conv => whnf)
        refine AgainB.v (j + 1) (by omega) (show j + 1 ≤ b.nts.length by omega) (by show Pos.nat _ ≤ Pos.nat _; simp only [hA, hsc, kE, List.cons_append, List.nil_append] <;> decide) (by assumption) ?_
        rw [hsc]
        conv => whnf
        refine Shr.of ?_ ?_ rfl rfl
        · (repeat' first | exact Rel.e | refine Rel.some ?_ ?_ ?_ | refine Rel.none ?_ ?_ | refine Rel.ee ?_ ?_)
          all_goals show Fz _ _ _ _
          all_goals first | exact Fq | exact Fz.pu pS | exact wK
        · (repeat' first | exact Rel.e | refine Rel.some ?_ ?_ ?_ | refine Rel.none ?_ ?_ | refine Rel.ee ?_ ?_)
          all_goals refine xH ?_
          all_goals first | exact Sq | (refine ShC.same ?_; (repeat' first | exact ShC.nl | refine ShC.cn ?_ ?_) <;> first | exact Fq | exact Fz.pu pS | exact wK)
      | cons a s =>
        repeat' first | ((first | refine Qz ?_ | refine Qf (cC) ?_ | refine Qy ?_) <;> conv => whnf) | (refine WB.tt ?_; conv => whnf) | (refine WB.ff ?_; conv => whnf)
        refine AgainB.v (j + 1) (by omega) (show j + 1 ≤ b.nts.length by omega) (by show Pos.nat _ ≤ Pos.nat _; simp only [hA, hsc, kE, List.cons_append, List.nil_append] <;> decide) (by assumption) ?_
        rw [hsc]
        conv => whnf
        refine Shr.of ?_ ?_ rfl rfl
        · (repeat' first | exact Rel.e | refine Rel.some ?_ ?_ ?_ | refine Rel.none ?_ ?_ | refine Rel.ee ?_ ?_)
          all_goals show Fz _ _ _ _
          all_goals first | exact Fq | exact Fz.pu pS | exact wK
        · (repeat' first | exact Rel.e | refine Rel.some ?_ ?_ ?_ | refine Rel.none ?_ ?_ | refine Rel.ee ?_ ?_)
          all_goals refine xH ?_
          all_goals first | exact ShC.G gB a s | exact Sq | (refine ShC.same ?_; (repeat' first | exact ShC.nl | refine ShC.cn ?_ ?_) <;> first | exact Fq | exact Fz.pu pS | exact wK)
  · have hE := hend (by omega)
    have eR : EW b S = ⟨b.last, b.rws, b.pls, b.rch, b.face, b.sun, b.winds, b.brk, A⟩ := by unfold EW; rw [← hE]
    rw [eR]
    cases A with
    | nil =>
      repeat' first | ((first | refine Qz ?_ | refine Qy ?_) <;> conv => whnf) | (refine WB.tt ?_; conv => whnf) | (refine WB.ff ?_; conv => whnf)
      exact ⟨.inr rfl, _, rfl, .ag (.cons (.pu trivial) (.cons (.pu trivial) (.cons (.pu trivial) (.cons (.pu trivial) (.cons (.pu (aC _)) (.cons (.pu (aC _)) (.cons (.pu (aG _)) (.cons (.pu (aF _)) (.cons .ns .nil)))))))))⟩
    | cons a s =>
      repeat' first | ((first | refine Qz ?_ | refine Qy ?_) <;> conv => whnf) | (refine WB.tt ?_; conv => whnf) | (refine WB.ff ?_; conv => whnf)
      exact ⟨.inr rfl, _, rfl, .ag (.cons (.pu trivial) (.cons (.pu trivial) (.cons (.pu trivial) (.cons (.pu trivial) (.cons (.pu (aC _)) (.cons (.pu (aC _)) (.cons (.pu (aG _)) (.cons (.pu (aF _)) (.cons (Fz.G (a :: s) (fun h => h) (fun c h => h) Bo gB) .nil)))))))))⟩
theorem Eh (b : Bh) (n : Nat) : KpC n (gN b) := fun c hc => by
  obtain ⟨d, hd, rfl⟩ := List.mem_map.1 hc
  exact Kp.pu _ (aS.1 (aM b) d hd)
def Ij (m : Nat) (many : Nat) : T D := (.n (.n (.n .e (some (.pt (.o .h) 0 0)) (.n (.n .e (some (.fn p157 [] [.pl [.i .i64 (many : Int)] 0, .pl [.i .i64 (m : Int)] 0])) .e) (some (.i .i64 (many : Int))) .e)) (some (.pt .h 0 0)) .e) none (.n .e none (.n (.n .e (some (.i .i64 ((m : Int) + 1))) .e) none .e)))
def My (o : Option (List Int)) : D := match o with
  | none => .ns
  | some S => xL S
def OK (m : Nat) (many : Nat) (o : Option (List Int)) : C := match o with
  | none => .lp (Ij m many) [p21] 28 (Ib (aJ Tryz.f111) 0) (Hh (aJ Tryz.f111) 0) .ready none
  | some _ => .lp (Ij m many) [p21] 28 (Ib (aJ Tryz.f111) 0) (Hh (aJ Tryz.f111) 0) .done (some (.exit 0))
def tG (bx : C) (m many : Nat) (p : List Int → Bool) : Yns (Option (List Int)) where
  o1 := fun _ => some bx
  o2 := fun s => some (.cells false [.o (My s) 0] 1)
  o3 := fun s => some (OK m many s)
  step := fun s S => bif p S then some S else s
  goes := fun s S => !p S
theorem Ep (m many n : Nat) (hn : 4 ≤ n) : ∀ s d, (Ij m many).get s = some d → Kp n d := by
  show TAll (fun _ d => Kp n d) (Ij m many)
  unfold Ij
  repeat' first | exact TAll.e | refine TAll.some ?_ ?_ ?_ | refine TAll.none ?_ ?_
  all_goals simp [Kp, KpL, Pu, aN, Pos.nat]
  all_goals omega
theorem HD (o : Option (List Int)) : Pu (My o) := by
  cases o with
  | none => trivial
  | some S => exact pZ S
theorem OU (bx : C) (m many : Nat) (p : List Int → Bool) : ∀ L : List (List Int), (bL (tG bx m many p) L none).1 = L.find? p
  | [] => rfl
  | S :: L => by
    show (match !p S with | true => bL (tG bx m many p) L (bif p S then some S else none) | false => (bif p S then some S else none, false)).1 = _
    cases h : p S with
    | true => rw [List.find?_cons_of_pos h]; rfl
    | false => rw [List.find?_cons_of_neg (by rw [h]; simp)]; exact OU bx m many p L
theorem Hd (b : Bh) (m many : Nat) (V : VW b) (l6 : ∀ w ∈ b.winds, w.length ≤ 1000) (h5 : b.nts.length ≤ 5) (p : List Int → Bool) (hp : ∀ S, p S = kY (EW b S)) : YnsOk (tG (gN b) m many p) (fun s => s = none) := by
  have kb : ∀ n, KpC n (gN b) := fun n => Eh b n
  have k2 : ∀ (s : Option (List Int)) n, KpC n (.cells false [.o (My s) 0] 1) := fun s n c hc => by
    rw [List.mem_singleton.1 hc]
    exact Kp.pu _ (HD s)
  have k3 : ∀ (s : Option (List Int)) n, 4 ≤ n → KpC n (OK m many s) := fun s n hn => by
    cases s with
    | none => exact Ep m many n hn
    | some S => exact Ep m many n hn
  have K3 : ∀ s, KpO (Pos.o (.o .h)).nat ((tG (gN b) m many p).ob3 s) := fun s => Ke (by decide) (fun c h => by cases h; exact kb 4) (fun c h => by cases h; exact k2 s 4) (fun c h => by cases h; exact k3 s 4 (by omega))
  refine ⟨fun s n hn => ⟨fun c h => by cases h; exact kb n, fun c h => by cases h; exact k2 s n, fun c h => by cases h; exact k3 s n hn⟩, fun s S h hg => ?_, fun s S hs hl => ?_⟩
  · have hg : (!p S) = true := hg
    have h0 : p S = false := by simpa using hg
    show (bif p S then some S else s) = none
    rw [h0]; exact h
  · subst hs
    have cw := BA b S (by omega) hl
    have cf := sA (EW b S) (V.wo S) l6 (by have := AJ b.nts S b.nts.length; show (Gu b.nts S).length ≤ 1000; unfold Gu; omega)
    rw [← hp S] at cf
    rcases S with _ | ⟨a, l⟩
    · refine RndOk.ofW ?_
      refine WRnd.run rfl qM qD ⟨_, rfl, ?_⟩
      conv => whnf
      repeat' first | ((first | refine Qz ?_) <;> conv => whnf)
      refine ⟨rfl, rfl, _, _, _, _, _, _, rfl, ?_⟩
      conv => whnf
      repeat' first | ((first | refine Qz ?_ | refine Qf (cw) ?_ | refine Qf (cf) ?_) <;> conv => whnf)
      refine WB.mk (fun h => ?_) (fun h => ?_) <;> conv => whnf
      · repeat' first | ((first | refine Qz ?_) <;> conv => whnf)
        refine ⟨_, _, _, _, _, _, _, (tG (gN b) m many p).ob3 (some []), .o (.o .h), rfl, rfl, ?_, Nat.le_refl _, ?_⟩
        · refine Shr.kp ?_ (K3 _)
          show T.le (nP _ _ _) _
          unfold nP tG
          (repeat' first | exact T.le_e _ | refine T.le_some ?_ rfl ?_ | refine T.le_none ?_ ?_)
        · show (⟨_, _, _, _⟩ : X) = ⟨_, _, _, _⟩
          rw [show (tG (gN b) m many p).step none [] = some [] from by show (bif p [] then some [] else none) = _; rw [h]; rfl, show (tG (gN b) m many p).goes none [] = false from by show (!p []) = false; rw [h]; rfl]
          rfl
      · repeat' first | ((first | refine Qz ?_) <;> conv => whnf)
        refine ⟨_, _, _, _, _, _, _, (tG (gN b) m many p).ob3 none, .o (.o .h), rfl, rfl, ?_, Nat.le_refl _, ?_⟩
        · refine Shr.kp ?_ (K3 _)
          show T.le (nP _ _ _) _
          unfold nP tG
          (repeat' first | exact T.le_e _ | refine T.le_some ?_ rfl ?_ | refine T.le_none ?_ ?_)
        · show (⟨_, _, _, _⟩ : X) = ⟨_, _, _, _⟩
          rw [show (tG (gN b) m many p).step none [] = none from by show (bif p [] then some [] else none) = _; rw [h]; rfl, show (tG (gN b) m many p).goes none [] = true from by show (!p []) = true; rw [h]; rfl]
          rfl
    · refine RndOk.ofW ?_
      refine WRnd.run rfl qM qD ⟨_, rfl, ?_⟩
      conv => whnf
      repeat' first | ((first | refine Qz ?_) <;> conv => whnf)
      refine ⟨rfl, rfl, _, _, _, _, _, _, rfl, ?_⟩
      conv => whnf
      repeat' first | ((first | refine Qz ?_ | refine Qf (cw) ?_ | refine Qf (cf) ?_) <;> conv => whnf)
      refine WB.mk (fun h => ?_) (fun h => ?_) <;> conv => whnf
      · repeat' first | ((first | refine Qz ?_) <;> conv => whnf)
        refine ⟨_, _, _, _, _, _, _, (tG (gN b) m many p).ob3 (some (a :: l)), .o (.o .h), rfl, rfl, ?_, Nat.le_refl _, ?_⟩
        · refine Shr.kp ?_ (K3 _)
          show T.le (nP _ _ _) _
          unfold nP tG
          (repeat' first | exact T.le_e _ | refine T.le_some ?_ rfl ?_ | refine T.le_none ?_ ?_)
        · show (⟨_, _, _, _⟩ : X) = ⟨_, _, _, _⟩
          rw [show (tG (gN b) m many p).step none (a :: l) = some (a :: l) from by show (bif p (a :: l) then some (a :: l) else none) = _; rw [h]; rfl, show (tG (gN b) m many p).goes none (a :: l) = false from by show (!p (a :: l)) = false; rw [h]; rfl]
          rfl
      · repeat' first | ((first | refine Qz ?_) <;> conv => whnf)
        refine ⟨_, _, _, _, _, _, _, (tG (gN b) m many p).ob3 none, .o (.o .h), rfl, rfl, ?_, Nat.le_refl _, ?_⟩
        · refine Shr.kp ?_ (K3 _)
          show T.le (nP _ _ _) _
          unfold nP tG
          (repeat' first | exact T.le_e _ | refine T.le_some ?_ rfl ?_ | refine T.le_none ?_ ?_)
        · show (⟨_, _, _, _⟩ : X) = ⟨_, _, _, _⟩
          rw [show (tG (gN b) m many p).step none (a :: l) = none from by show (bif p (a :: l) then some (a :: l) else none) = _; rw [h]; rfl, show (tG (gN b) m many p).goes none (a :: l) = true from by show (!p (a :: l)) = true; rw [h]; rfl]
          rfl
theorem sT {p : List Int → Bool} {m n : Nat} : ((List.range (n + 1)).flatMap fun many => dQ m many 0 []).find? p = (((List.range n).flatMap fun many => dQ m many 0 []).find? p).or ((dQ m n 0 []).find? p) := by
  rw [List.range_succ, List.flatMap_append, List.find?_append]
  simp
theorem Bw {p : List Int → Bool} {m n : Nat} {S : List Int} (hn : n ≤ m) (h0 : ((List.range n).flatMap fun many => dQ m many 0 []).find? p = none) (h1 : (dQ m n 0 []).find? p = some S) : (dE m).find? p = some S := by
  unfold dE
  obtain ⟨k, hk⟩ : ∃ k, m + 1 = (n + 1) + k := ⟨m - n, by omega⟩
  rw [hk, List.range_add, List.flatMap_append, List.find?_append, sT, h0, h1]
  rfl
def HW (m many : Nat) : T D := (.n (.n (.n .e (some (.pt (.o .h) 0 0)) (.n .e (some (.i .i64 (many : Int))) .e)) (some (.pt .h 0 0)) .e) none (.n .e none (.n (.n .e (some (.i .i64 ((m : Int) + 1))) .e) none .e)))
theorem HA (m many n : Nat) (hn : 3 ≤ n) : ∀ s d, (HW m many).get s = some d → Kp n d := by
  show TAll (fun _ d => Kp n d) (HW m many)
  unfold HW
  repeat' first | exact TAll.e | refine TAll.some ?_ ?_ ?_ | refine TAll.none ?_ ?_
  all_goals simp [Kp, KpL, Pu, aN, Pos.nat]
  all_goals omega
def GC (x1 x2 : C) : T C := .n (.n .e (some x2) .e) (some x1) .e
theorem Nr {n : Nat} {x1 x2 : C} (hn : 3 ≤ n) (h1 : KpC n x1) (h2 : KpC n x2) : KpO n (GC x1 x2) := by
  show TAll (fun id c => id.nat < n ∧ KpC n c) _
  unfold GC
  refine TAll.some (TAll.some TAll.e ⟨?_, h2⟩ TAll.e) ⟨?_, h1⟩ TAll.e
  · show 2 * 1 < n; omega
  · show 1 < n; omega
theorem kW {α : Type} {p q : α → Bool} : ∀ {l : List α}, (∀ x ∈ l, p x = q x) → l.find? p = l.find? q
  | [], _ => rfl
  | a :: l, h => by
    have h1 := h a (by simp)
    cases hp : p a with
    | true => rw [List.find?_cons_of_pos hp, List.find?_cons_of_pos (by rw [← h1]; exact hp)]
    | false => rw [List.find?_cons_of_neg (by rw [hp]; simp), List.find?_cons_of_neg (by rw [← h1, hp]; simp), kW fun x hx => h x (by simp [hx])]
theorem yP (b : Bh) (V : VW b) (l6 : ∀ w ∈ b.winds, w.length ≤ 1000) (h5 : b.nts.length ≤ 5) (p : List Int → Bool) (hp : ∀ S, p S = kY (EW b S)) :
    PureF Tryz.prog p112.ix [.ag (eY b)] (My ((dE b.nts.length).find? p)) := by
  have e3 := aL cX b.nts
  have kb : ∀ n, KpC n (gN b) := fun n => Eh b n
  refine PureF.run IX (by simp) (by simp [aN, cG, Pu, aM]) ?_; conv => whnf
  repeat' first | ((first | refine Qz ?_) <;> conv => whnf)
  refine Rn.loop (fun many : Nat => ⟨HW b.nts.length many, GC (gN b) (.cells false [.o .ns 0] 1), .i .h, none⟩) (fun many => many ≤ b.nts.length + 1 ∧ ((List.range many).flatMap fun many => dQ b.nts.length many 0 []).find? p = none) (fun many => b.nts.length + 1 - many) 0 ?_ ?_ ?_
  · refine X.le.mk ?_ ?_ (Nat.le_refl _) rfl rfl
    · unfold HW
      rw [← e3]
      repeat' first | exact T.le_e _ | refine T.le_some ?_ rfl ?_ | refine T.le_none ?_ ?_
    · unfold GC
      repeat' first | exact T.le_e _ | refine T.le_some ?_ rfl ?_ | refine T.le_none ?_ ?_
  · exact ⟨Nat.zero_le _, rfl⟩
  rintro many ⟨hj, h0⟩
  have hj : many ≤ b.nts.length + 1 := hj
  have h0 : ((List.range many).flatMap fun many => dQ b.nts.length many 0 []).find? p = none := h0
  have cs := Io (b.nts.length : Int) (many : Int)
  rw [← e3] at cs
  conv => whnf
  repeat' first | ((first | refine Qz ?_) <;> conv => whnf)
  refine WB.dec (fun h => ?_) (fun h => ?_) <;> conv => whnf
  · have hlt : many ≤ b.nts.length := by have h : (many : Int) < (b.nts.length : Int) + 1 := h; omega
    have cC1 := Gp (Hd b b.nts.length many V l6 h5 p hp) many b.nts.length (by omega) (by omega) none rfl
    rw [OU] at cC1
    repeat' first | ((first | refine Qz ?_ | refine Qf (cs) ?_) <;> conv => whnf)
    refine Rn.le (a := ⟨Ij b.nts.length many, GC (gN b) (.cells false [.o .ns 0] 1), .i .h, none⟩) ?_ ?_
    · cases hF : (dQ b.nts.length many 0 []).find? p with
      | none =>
        rw [hF] at cC1
        refine Rn.rf rfl rfl cC1 rfl (by simp) ?_; conv => whnf
        repeat' first | ((first | refine Qz ?_) <;> conv => whnf)
        refine Again.to (many + 1) (by omega) ⟨by omega, ?_⟩ (Nat.le_refl _) (Shr.kp2 ?_ (HA _ _ _ (Nat.le_refl _)) ?_ (Nr (Nat.le_refl _) (kb _) fun c hc => by rw [List.mem_singleton.1 hc]; trivial))
        · rw [sT, h0, hF]; rfl
        · show T.le (HW b.nts.length (many + 1)) _
          unfold HW
          simp only [Int.natCast_add, Int.natCast_one]
          repeat' first | exact T.le_e _ | refine T.le_some ?_ rfl ?_ | refine T.le_none ?_ ?_
        · show T.le (GC _ _) _
          unfold GC
          repeat' first | exact T.le_e _ | refine T.le_some ?_ rfl ?_ | refine T.le_none ?_ ?_
      | some S =>
        rw [hF] at cC1
        have hall := Bw hlt h0 hF
        refine Rn.rf rfl rfl cC1 rfl (by simp) ?_; conv => whnf
        repeat' first | ((first | refine Qz ?_) <;> conv => whnf)
        rw [hall]
        exact Fin.t (.inr rfl) rfl (.pu (pZ S))
    · refine X.le.mk ?_ ?_ (Nat.le_refl _) rfl rfl
      · unfold Ij
        rw [← e3]
        repeat' first | exact T.le_e _ | refine T.le_some ?_ rfl ?_ | refine T.le_none ?_ ?_
      · unfold GC
        repeat' first | exact T.le_e _ | refine T.le_some ?_ rfl ?_ | refine T.le_none ?_ ?_
  · repeat' first | ((first | refine Qz ?_) <;> conv => whnf)
    have hm : many = b.nts.length + 1 := by have h : ¬ (many : Int) < (b.nts.length : Int) + 1 := h; omega
    subst hm
    rw [show (dE b.nts.length).find? p = none from h0]
    exact Fin.t (.inr rfl) rfl (.pu trivial)
set_option maxRecDepth 1000000
end Go.Ev
end
