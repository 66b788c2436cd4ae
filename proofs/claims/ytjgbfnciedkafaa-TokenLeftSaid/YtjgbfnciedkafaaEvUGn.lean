import Derived.Test.YtjgbfnciedkafaaEvUJs
import Derived.Test.YtjgbfnciedkafaaEvUPl
set_option linter.all false
namespace Go.Ev
set_option maxRecDepth 100000
theorem ints_one (l : List Int) : ∀ r ∈ ints l, r.length = 1 := fun r hr => by
  obtain ⟨n, _, rfl⟩ := List.mem_map.1 hr
  rfl
theorem WSt.ixaN {sl : T D} {ob : T C} {nx : Pos} {lg : Option (T Bool)} {K : X → Prop} {d id : Pos} {len z off st m : Nat} {k : IntKind} {x i : RX} {n : Int} (hx : opd sl x = some (.pt id off st)) (hi : opd sl i = some (.i k n)) (hn : n = (m : Int)) (hm : m < len) (h : wOut sl ob nx lg d K (.pt id (off + m * z) st)) : WSt (.ixa d len z x i) ⟨sl, ob, nx, lg⟩ K := by
  obtain ⟨h2, h3⟩ := wOut_ok h
  refine ⟨_, ?_, h3⟩
  show s_ixa d len z x i sl ob nx lg = _
  unfold s_ixa
  rw [hx, hi, hn]
  have e : idx (m : Int) len = some m := by
    show (bif Nat.blt m len then some m else none) = _
    rw [show Nat.blt m len = true from Nat.ble_eq_true_of_le hm]
    rfl
  simp only [e, natK_eq]
  exact h2
theorem Frz.ptr {ob : T C} {id : Pos} {st : Nat} {cs : List Cell} {cur : Nat} {r : List D} (h : ob.get id = some (.cells false cs cur)) (hc : cs = r.map fun d => Cell.o d st) (h0 : 0 < r.length) (hp : PuL r) : Frz ob (.pt id 0 st) (.pl r 0) := by
  subst hc
  refine .pt (fun h => h) h h0 (fun k d hk => ⟨.o d st, ?_, ?_, rfl⟩) (FzL.of hp)
  · rw [List.drop_zero, List.getElem?_map, hk]; rfl
  · show Nat.ble st st = true
    exact Nat.ble_eq_true_of_le (Nat.le_refl _)
theorem T.le_ee {α : Type} {l r : T α} (hl : T.le l .e) (hr : T.le r .e) : T.le (.n l none r) .e := fun p x h => by
  cases p with
  | h => rw [T.get_h] at h; cases h
  | o p => exact absurd (hl p x h) (by rw [T.get_e]; exact fun h => by cases h)
  | i p => exact absurd (hr p x h) (by rw [T.get_e]; exact fun h => by cases h)
theorem KpO.le {n : Nat} {a b : T C} (h : T.le a b) (k : KpO n b) : KpO n a := fun id c hc => k id c (h id c hc)
theorem one_kp {n : Nat} {d : D} {r : Bool} {k m : Nat} (h : Kp n d) : KpC n (.cells r [.o d k] m) := by
  refine KpL.all ?_
  simp [KpL, Cell.d, h]
theorem ShrB.of {B : Pos → Prop} {z z' : X} (hs : Rel (RS B z.ob) (fun p => p) z'.sl z.sl) (ho : Rel (fun id c c' => B id ∧ ShC B z.ob c c') (fun p => p) z'.ob z.ob) (l : z.lg = none) (l' : z'.lg = none) : ShrB B z z' :=
  ⟨fun s d' h => hs s d' h, fun id c' h => by
    obtain ⟨c, h1, h2, h3⟩ := ho id c' h
    exact ⟨h2, c, h1, h3⟩, l, l'⟩
theorem Rel.ee {α : Type} {R : Pos → α → α → Prop} {g : Pos → Pos} {l r : T α} (hl : Rel R (fun p => g (.o p)) l .e) (hr : Rel R (fun p => g (.i p)) r .e) : Rel R g (.n l Option.none r) .e := fun p x h => by
  cases p with
  | h => rw [T.get_h] at h; cases h
  | o p => obtain ⟨y, h1, _⟩ := hl p x h; rw [T.get_e] at h1; cases h1
  | i p => obtain ⟨y, h1, _⟩ := hr p x h; rw [T.get_e] at h1; cases h1
theorem Fz.grown {B : Pos → Prop} {ob : T C} {id : Pos} {s1 s2 cur n z : Nat} {ds r : List D} {cs : List Cell} {es : List (List D)} (hB : ¬ B id) (h : ob.get id = some (.cells false cs cur)) (hc : cs = (ds.map fun d => Cell.o d s1) ++ r.map fun d => Cell.o d s2) (hs : s1 ≤ s2) (he : es.flatten = ds ++ r) (hn : n = es.length) (hz : ∀ x ∈ es, x.length = z) (hp : PuE es) : Fz B ob (.sl id 0 n s2 z) (.lst z es) := by
  subst hc
  refine .sl hB h hn.symm hz (fun k d hk => ?_) (FzE.of hp)
  rw [he] at hk
  rw [List.drop_zero]
  by_cases hlt : k < ds.length
  · rw [List.getElem?_append_left hlt] at hk
    refine ⟨.o d s1, ?_, Nat.ble_eq_true_of_le hs, rfl⟩
    rw [List.getElem?_append_left (by simpa using hlt), List.getElem?_map, hk]; rfl
  · rw [List.getElem?_append_right (by omega)] at hk
    refine ⟨.o d s2, ?_, Nat.ble_eq_true_of_le (Nat.le_refl _), rfl⟩
    rw [List.getElem?_append_right (by simp; omega), List.length_map, List.getElem?_map, hk]; rfl
section
variable {sl : T D} {ob : T C} {nx : Pos} {K : X → Prop}
end
theorem wf_small {n : Int} (h1 : -1000000000000000000 ≤ n) (h2 : n ≤ 1000000000000000000) : wfB .i64 n = true := by
  cases n with
  | ofNat m =>
    have h2 : (m : Int) ≤ 1000000000000000000 := h2
    exact Nat.ble_eq_true_of_le (by simp only [imax]; omega)
  | negSucc m =>
    have h1 : -1000000000000000000 ≤ Int.negSucc m := h1
    show (IntKind.signed .i64 && Nat.ble m (imax .i64)) = true
    rw [show IntKind.signed .i64 = true from rfl, Bool.true_and]
    exact Nat.ble_eq_true_of_le (by simp only [imax]; omega)
structure FinX (rs : List RR) (Φ : D → Prop) (e : Ex) (z : X) : Prop where
  ok : ∃ v, Φ v ∧ Fin rs v e z
theorem PureF.runE {P : Program} {f nt : Nat} {rc : RC} {rs : List RR} {ds : List D} {Φ : D → Prop} (F : FnOk P f nt rc rs) (hlen : ds.length ≤ nt) (hp : PuL ds) (h : argsP ds .h .e fun sl => Rn P nt rc ⟨sl, .e, .h, none⟩ (FinX rs Φ)) : ∃ v, Φ v ∧ PureF P f ds v := by
  obtain ⟨fn, c, hf, hb, hc, hr, hname, h6⟩ := F.ok
  subst h6
  obtain ⟨sl0, h, hsl⟩ := argsP_ok h
  obtain ⟨e, ⟨sl, ob1, nx1, lg1⟩, X1, FE⟩ := h.ok c hc
  obtain ⟨v, hΦ, F⟩ := FE.ok
  obtain ⟨u, h1, h2⟩ := F.hr
  obtain ⟨v', ob', nx', lg', h3, C⟩ := body_ok (k := fun v ob nx lg => some ⟨T.set .h v .e, ob, nx, lg⟩) hf hb hr hname hlen hsl F.he X1 h1
  have h3 := Option.some.inj h3
  have e1 := congrArg (fun t => T.get t .h) (X.mk.inj h3).1
  simp only [T.get_set_same, Option.some.injEq] at e1
  have e2 := (X.mk.inj h3).2.1
  have e3 : ob' = ob1 := e2
  subst e1
  subst e3
  exact ⟨v, hΦ, C.shut hp h2⟩
theorem pre6 {l : List Int} (h : 6 < l.length) : ∃ a0 a1 a2 a3 a4 a5 a6 r, l = a0 :: a1 :: a2 :: a3 :: a4 :: a5 :: a6 :: r := by
  match l, h with
  | a0 :: a1 :: a2 :: a3 :: a4 :: a5 :: a6 :: r, _ => exact ⟨a0, a1, a2, a3, a4, a5, a6, r, rfl⟩
end Go.Ev
namespace Go.Ev
set_option maxRecDepth 100000
structure Ln where
  k : Int
  c : Int
  t : Int
deriving Inhabited
structure Ct where
  a : Int
  lo : Int
  hi : Int
deriving Inhabited
def lnD (l : Ln) : List D := [.i .i64 l.k, .i .i64 l.c, .i .i64 l.t]
def ctD (c : Ct) : List D := [.i .i64 c.a, .i .i64 c.lo, .i .i64 c.hi]
def bk5 (n coin box : Int) (ls : List Ln) (cs : List Ct) : List D := [.i .i64 n, .i .i64 coin, .i .i64 box, .lst 3 (rows lnD ls), .lst 3 (rows ctD cs)]
theorem pu_ln (ls : List Ln) : PuE (rows lnD ls) := pu_rows (fun l => by simp [lnD, PuL, Pu]) ls
theorem pu_ct (cs : List Ct) : PuE (rows ctD cs) := pu_rows (fun l => by simp [ctD, PuL, Pu]) cs
theorem ln_three (ls : List Ln) : ∀ r ∈ rows lnD ls, r.length = 3 := fun r hr => by
  obtain ⟨l, _, rfl⟩ := List.mem_map.1 hr
  rfl
theorem ct_three (cs : List Ct) : ∀ r ∈ rows ctD cs, r.length = 3 := fun r hr => by
  obtain ⟨l, _, rfl⟩ := List.mem_map.1 hr
  rfl
def agB (l x : Ln) : Bool := (decide (l.k = 0) || decide (l.k = x.k)) && ((decide (l.c < 0) || decide (l.c = x.c)) && (decide (l.t < 0) || decide (l.t = x.t)))
def inR (n a b : Int) : Bool := decide (a ≤ n ∧ n ≤ b)
theorem inR_iff {n a b : Int} : inR n a b = true ↔ a ≤ n ∧ n ≤ b := decide_eq_true_iff
def lnOk (n : Int) (l : Ln) : Bool := inR l.k 0 2 && (inR l.c (-1) (n - 1) && inR l.t (-1) (n - 1))
def ctOk (m : Int) (c : Ct) : Bool := inR c.a 0 m && (decide (0 ≤ c.lo) && (decide (c.lo ≤ c.hi) && decide (c.hi ≤ 2000)))
def szK (l : Ln) : Int := if l.k = 0 then 2 else 1
def szC (n : Int) (l : Ln) : Int := if l.c = -1 then n else 1
def szT (n : Int) (l : Ln) : Int := if l.t = -1 then n else 1
def rdN (n : Int) (l : Ln) : Int := szK l * szC n l * szT n l
theorem rdN_bd {n : Int} (h1 : 1 ≤ n) (h4 : n ≤ 4) (l : Ln) : 1 ≤ rdN n l ∧ rdN n l ≤ 32 := by
  unfold rdN szK szC szT
  have : n = 1 ∨ n = 2 ∨ n = 3 ∨ n = 4 := by omega
  rcases this with rfl | rfl | rfl | rfl <;> split <;> split <;> split <;> omega
def prodP (n : Int) (ls : List Ln) : Int := ls.foldl (fun m l => m * rdN n l) 1
def manyR (n : Int) (ls : List Ln) : Int := ls.foldl (fun m l => min 5000 (m * rdN n l)) 1
theorem many_prodG {n : Int} (h1 : 1 ≤ n) (h4 : n ≤ 4) : ∀ (ls : List Ln) (p q : Int), 1 ≤ p → q = min 5000 p → ls.foldl (fun m l => min 5000 (m * rdN n l)) q = min 5000 (ls.foldl (fun m l => m * rdN n l) p) ∧ 1 ≤ ls.foldl (fun m l => m * rdN n l) p
  | [], p, q, hp, hq => ⟨hq, hp⟩
  | l :: ls, p, q, hp, hq => by
    obtain ⟨b1, b2⟩ := rdN_bd h1 h4 l
    have h0 : 1 ≤ p * rdN n l := by
      have := Int.mul_le_mul hp b1 (by omega) (by omega)
      omega
    refine many_prodG h1 h4 ls (p * rdN n l) (min 5000 (q * rdN n l)) h0 ?_
    by_cases h : p ≤ 5000
    · rw [hq, show min 5000 p = p by omega]
    · have e : q = 5000 := by omega
      have h2 : (5000 : Int) * 1 ≤ 5000 * rdN n l := Int.mul_le_mul (Int.le_refl _) b1 (by omega) (by omega)
      have h3 : (5000 : Int) * 1 ≤ p * rdN n l := Int.mul_le_mul (by omega) b1 (by omega) (by omega)
      rw [e]
      omega
theorem many_prod {n : Int} (h1 : 1 ≤ n) (h4 : n ≤ 4) (ls : List Ln) : manyR n ls = min 5000 (prodP n ls) ∧ 1 ≤ prodP n ls := many_prodG h1 h4 ls 1 1 (by omega) (by omega)
theorem prod_bdG {n : Int} (h1 : 1 ≤ n) (h4 : n ≤ 4) : ∀ (ls : List Ln) (p b : Int), 1 ≤ p → p ≤ b → ls.foldl (fun m l => m * rdN n l) p ≤ b * 32 ^ ls.length
  | [], p, b, _, h => by simpa using h
  | l :: ls, p, b, hp, h => by
    obtain ⟨b1, b2⟩ := rdN_bd h1 h4 l
    have h0 : 1 ≤ p * rdN n l := by
      have := Int.mul_le_mul hp b1 (by omega) (by omega)
      omega
    have h2 : p * rdN n l ≤ b * 32 := Int.mul_le_mul h b2 (by omega) (by omega)
    have := prod_bdG h1 h4 ls (p * rdN n l) (b * 32) h0 h2
    rw [List.length_cons, Int.pow_succ, show b * (32 ^ ls.length * 32) = b * 32 * 32 ^ ls.length by rw [Int.mul_assoc, Int.mul_comm 32]]
    exact this
def vldT (n coin box : Int) (ls : List Ln) (cs : List Ct) : Bool := inR n 1 4 && (inR coin 1 99 && (inR box 0 999 && (ls.all (lnOk n) && cs.all (ctOk ls.length))))
def faultT (n coin box : Int) (ls : List Ln) (cs : List Ct) : Int :=
  if 8 < ls.length ∨ 4 < cs.length then 3 else if vldT n coin box ls cs = true then (if 4096 < manyR n ls then 3 else 0) else 1
theorem fault_okT {n coin box : Int} {ls : List Ln} {cs : List Ct} (h : faultT n coin box ls cs = 0) : ls.length ≤ 8 ∧ cs.length ≤ 4 ∧ vldT n coin box ls cs = true ∧ manyR n ls ≤ 4096 := by
  unfold faultT at h
  split at h
  · cases h
  · split at h
    · split at h
      · cases h
      · exact ⟨by omega, by omega, by assumption, by omega⟩
    · cases h
def cOut (T : List Ln) (c : Int) : Nat → Int
  | 0 => -1
  | i + 1 => if (T.getD i default).c = c then (if (T.getD i default).k = 1 then (i : Int) else -1) else cOut T c i
def tOut (T : List Ln) (t : Int) : Nat → Int
  | 0 => -1
  | i + 1 => if (T.getD i default).t = t then (if (T.getD i default).k = 1 then (i : Int) else -1) else tOut T t i
theorem cOut_bd (T : List Ln) (c : Int) : ∀ i, -1 ≤ cOut T c i ∧ cOut T c i < i
  | 0 => by show -1 ≤ (-1 : Int) ∧ (-1 : Int) < 0; omega
  | i + 1 => by
    have := cOut_bd T c i
    unfold cOut
    split <;> try split
    all_goals omega
theorem tOut_bd (T : List Ln) (c : Int) : ∀ i, -1 ≤ tOut T c i ∧ tOut T c i < i
  | 0 => by show -1 ≤ (-1 : Int) ∧ (-1 : Int) < 0; omega
  | i + 1 => by
    have := tOut_bd T c i
    unfold tOut
    split <;> try split
    all_goals omega
def pos1 (T : List Ln) (i : Nat) : Bool := (decide (0 ≤ cOut T (T.getD i default).c i) == decide ((T.getD i default).k = 2)) && (decide (0 ≤ tOut T (T.getD i default).t i) == decide ((T.getD i default).k = 2))
def possB (T : List Ln) : Bool := (List.range T.length).all (pos1 T)
def monR (box coin : Int) (T : List Ln) : Nat → Int
  | 0 => box
  | i + 1 => if (T.getD i default).k = 1 then monR box coin T i + coin else monR box coin T i - coin
def mixR (T : List Ln) : Nat → Int
  | 0 => 0
  | i + 1 => mixR T i + if (T.getD i default).k = 2 ∧ cOut T (T.getD i default).c i ≠ tOut T (T.getD i default).t i then 1 else 0
theorem monR_bd {box coin : Int} {T : List Ln} (h1 : 0 ≤ box ∧ box ≤ 999) (h2 : 1 ≤ coin ∧ coin ≤ 99) : ∀ i : Nat, -99 * (i : Int) ≤ monR box coin T i ∧ monR box coin T i ≤ 999 + 99 * (i : Int)
  | 0 => by show -99 * 0 ≤ box ∧ box ≤ 999 + 99 * 0; omega
  | i + 1 => by
    have := monR_bd (T := T) h1 h2 i
    unfold monR
    split <;> omega
theorem mixR_bd {T : List Ln} : ∀ i : Nat, 0 ≤ mixR T i ∧ mixR T i ≤ i
  | 0 => by show (0 : Int) ≤ 0 ∧ (0 : Int) ≤ 0; omega
  | i + 1 => by
    have := mixR_bd (T := T) i
    unfold mixR
    split <;> omega
def rd1 (n : Int) (l x : Ln) : Bool := inR x.k 1 2 && (inR x.c 0 (n - 1) && (inR x.t 0 (n - 1) && agB l x))
def readB (n : Int) (ls T : List Ln) : Bool := decide (T.length = ls.length) && (List.range T.length).all fun i => rd1 n (ls.getD i default) (T.getD i default)
def cntB (box coin : Int) (cs : List Ct) (T : List Ln) : Bool := cs.all fun c => inR (monR box coin T c.a.toNat) c.lo c.hi
structure Mo where
  n : Int
  h : Nat → Int
  box : Int
  mix : Int
  last : Ln
instance : Inhabited Mo := ⟨⟨0, fun _ => 0, 0, 0, ⟨0, 0, 0⟩⟩⟩
def moD (m : Mo) : List D := [.i .i64 m.n, .i .i64 (m.h 0), .i .i64 (m.h 1), .i .i64 (m.h 2), .i .i64 (m.h 3), .i .i64 (m.h 4), .i .i64 (m.h 5), .i .i64 (m.h 6), .i .i64 (m.h 7), .i .i64 m.box, .i .i64 m.mix, .i .i64 m.last.k, .i .i64 m.last.c, .i .i64 m.last.t]
def upT (h : Nat → Int) (q : Nat) (v : Int) (i : Nat) : Int := if i = q then v else h i
def aftM (coin : Int) (m : Mo) (l : Ln) : Mo × Bool :=
  if l.k = 1 ∧ m.h l.c.toNat = 0 ∧ m.h (4 + l.t.toNat) = 0 then (⟨m.n + 1, upT (upT m.h l.c.toNat (m.n + 1)) (4 + l.t.toNat) (m.n + 1), m.box + coin, m.mix, l⟩, true)
  else if l.k = 2 ∧ m.h l.c.toNat ≠ 0 ∧ m.h (4 + l.t.toNat) ≠ 0 then (⟨m.n + 1, upT (upT m.h l.c.toNat 0) (4 + l.t.toNat) 0, m.box - coin, if m.h l.c.toNat ≠ m.h (4 + l.t.toNat) then m.mix + 1 else m.mix, l⟩, true)
  else (⟨m.n + 1, m.h, m.box, m.mix, l⟩, false)
def moR (box coin : Int) (T : List Ln) (i : Nat) : Mo := ⟨(i : Int), fun q => if q < 4 then cOut T (q : Int) i + 1 else tOut T ((q - 4 : Nat) : Int) i + 1, monR box coin T i, mixR T i, match i with
  | 0 => ⟨0, 0, 0⟩
  | i + 1 => T.getD i default⟩
theorem aft_pos {box coin : Int} {T : List Ln} {i : Nat} (hk : (T.getD i default).k = 1 ∨ (T.getD i default).k = 2) (hc : 0 ≤ (T.getD i default).c ∧ (T.getD i default).c ≤ 3) (ht : 0 ≤ (T.getD i default).t ∧ (T.getD i default).t ≤ 3) (hp : pos1 T i = true) : aftM coin (moR box coin T i) (T.getD i default) = (moR box coin T (i + 1), true) := by
  unfold pos1 at hp
  rw [Bool.and_eq_true, beq_iff_eq, beq_iff_eq] at hp
  obtain ⟨p1, p2⟩ := hp
  have hcN : (((T.getD i default).c.toNat : Nat) : Int) = (T.getD i default).c := by omega
  have htN : (((T.getD i default).t.toNat : Nat) : Int) = (T.getD i default).t := by omega
  have e1 : (moR box coin T i).h (T.getD i default).c.toNat = cOut T (T.getD i default).c i + 1 := by
    show (if (T.getD i default).c.toNat < 4 then _ else _) = _
    rw [if_pos (by omega), hcN]
  have e2 : (moR box coin T i).h (4 + (T.getD i default).t.toNat) = tOut T (T.getD i default).t i + 1 := by
    show (if 4 + (T.getD i default).t.toNat < 4 then _ else _) = _
    rw [if_neg (by omega), show 4 + (T.getD i default).t.toNat - 4 = (T.getD i default).t.toNat by omega, htN]
  have b1 := cOut_bd T (T.getD i default).c i
  have b2 := tOut_bd T (T.getD i default).t i
  have hext : ∀ v : Int, (∀ c : Int, cOut T c (i + 1) = if (T.getD i default).c = c then v - 1 else cOut T c i) → (∀ c : Int, tOut T c (i + 1) = if (T.getD i default).t = c then v - 1 else tOut T c i) → upT (upT (moR box coin T i).h (T.getD i default).c.toNat v) (4 + (T.getD i default).t.toNat) v = (moR box coin T (i + 1)).h := fun v h1 h2 => by
    funext q
    show (if q = 4 + (T.getD i default).t.toNat then v else if q = (T.getD i default).c.toNat then v else if q < 4 then cOut T (q : Int) i + 1 else tOut T ((q - 4 : Nat) : Int) i + 1) = if q < 4 then cOut T (q : Int) (i + 1) + 1 else tOut T ((q - 4 : Nat) : Int) (i + 1) + 1
    rw [h1, h2]
    by_cases hq : q < 4
    · rw [if_neg (show ¬ q = 4 + (T.getD i default).t.toNat by omega), if_pos hq, if_pos hq]
      by_cases hqc : q = (T.getD i default).c.toNat
      · rw [if_pos hqc, if_pos (by omega)]; omega
      · rw [if_neg hqc, if_neg (by omega)]
    · rw [if_neg hq, if_neg hq, if_neg (show ¬ q = (T.getD i default).c.toNat by omega)]
      by_cases hqt : q = 4 + (T.getD i default).t.toNat
      · rw [if_pos hqt, if_pos (by omega)]; omega
      · rw [if_neg hqt, if_neg (by omega)]
  unfold aftM
  rw [e1, e2]
  rcases hk with hk | hk
  · have q1 : ¬ 0 ≤ cOut T (T.getD i default).c i := by
      intro h; rw [decide_eq_true h, hk] at p1; cases p1
    have q2 : ¬ 0 ≤ tOut T (T.getD i default).t i := by
      intro h; rw [decide_eq_true h, hk] at p2; cases p2
    rw [if_pos ⟨hk, by omega, by omega⟩]
    have hh := hext ((i : Int) + 1) (fun c => by
      show (if _ then (if _ then _ else _) else _) = _
      rw [hk, if_pos rfl]
      congr 1; omega) (fun c => by
      show (if _ then (if _ then _ else _) else _) = _
      rw [hk, if_pos rfl]
      congr 1; omega)
    show ((⟨(i : Int) + 1, upT (upT (moR box coin T i).h _ ((i : Int) + 1)) _ ((i : Int) + 1), monR box coin T i + coin, mixR T i, T.getD i default⟩, true) : Mo × Bool) = _
    rw [hh]
    have m1 : monR box coin T (i + 1) = monR box coin T i + coin := by
      show (if _ then _ else _) = _
      rw [if_pos hk]
    have m2 : mixR T (i + 1) = mixR T i := by
      show mixR T i + (if _ then _ else _) = _
      rw [if_neg (by rw [hk]; intro h; omega)]; omega
    unfold moR
    simp only [m1, m2]
    rfl
  · have q1 : 0 ≤ cOut T (T.getD i default).c i := by
      refine Classical.byContradiction fun h => ?_
      rw [decide_eq_false h, hk] at p1; cases p1
    have q2 : 0 ≤ tOut T (T.getD i default).t i := by
      refine Classical.byContradiction fun h => ?_
      rw [decide_eq_false h, hk] at p2; cases p2
    rw [if_neg (fun h => by omega), if_pos ⟨hk, by omega, by omega⟩]
    have hh := hext 0 (fun c => by
      show (if _ then (if _ then _ else _) else _) = _
      by_cases hcc : (T.getD i default).c = c
      · rw [if_pos hcc, if_neg (by rw [hk]; decide), if_pos hcc]; rfl
      · rw [if_neg hcc, if_neg hcc]) (fun c => by
      show (if _ then (if _ then _ else _) else _) = _
      by_cases hcc : (T.getD i default).t = c
      · rw [if_pos hcc, if_neg (by rw [hk]; decide), if_pos hcc]; rfl
      · rw [if_neg hcc, if_neg hcc])
    show ((⟨(i : Int) + 1, upT (upT (moR box coin T i).h _ 0) _ 0, monR box coin T i - coin, (if cOut T _ i + 1 ≠ tOut T _ i + 1 then mixR T i + 1 else mixR T i), T.getD i default⟩, true) : Mo × Bool) = _
    rw [hh]
    have m1 : monR box coin T (i + 1) = monR box coin T i - coin := by
      show (if _ then _ else _) = _
      rw [if_neg (by rw [hk]; decide)]
    have m2 : mixR T (i + 1) = if cOut T (T.getD i default).c i + 1 ≠ tOut T (T.getD i default).t i + 1 then mixR T i + 1 else mixR T i := by
      show mixR T i + (if _ then _ else _) = _
      by_cases h : cOut T (T.getD i default).c i = tOut T (T.getD i default).t i
      · rw [if_neg (fun h' => h'.2 h), if_neg (fun h' => h' (by omega))]; omega
      · rw [if_pos ⟨hk, h⟩, if_pos (by omega)]
    unfold moR
    simp only [m1, m2]
    rfl
theorem aft_no {box coin : Int} {T : List Ln} {i : Nat} (hk : (T.getD i default).k = 1 ∨ (T.getD i default).k = 2) (hc : 0 ≤ (T.getD i default).c ∧ (T.getD i default).c ≤ 3) (ht : 0 ≤ (T.getD i default).t ∧ (T.getD i default).t ≤ 3) (hp : pos1 T i = false) : (aftM coin (moR box coin T i) (T.getD i default)).2 = false := by
  have hcN : (((T.getD i default).c.toNat : Nat) : Int) = (T.getD i default).c := by omega
  have htN : (((T.getD i default).t.toNat : Nat) : Int) = (T.getD i default).t := by omega
  have e1 : (moR box coin T i).h (T.getD i default).c.toNat = cOut T (T.getD i default).c i + 1 := by
    show (if (T.getD i default).c.toNat < 4 then _ else _) = _
    rw [if_pos (by omega), hcN]
  have e2 : (moR box coin T i).h (4 + (T.getD i default).t.toNat) = tOut T (T.getD i default).t i + 1 := by
    show (if 4 + (T.getD i default).t.toNat < 4 then _ else _) = _
    rw [if_neg (by omega), show 4 + (T.getD i default).t.toNat - 4 = (T.getD i default).t.toNat by omega, htN]
  have b1 := cOut_bd T (T.getD i default).c i
  have b2 := tOut_bd T (T.getD i default).t i
  unfold aftM
  rw [e1, e2]
  have hn : ¬ (decide (0 ≤ cOut T (T.getD i default).c i) = decide ((T.getD i default).k = 2) ∧ decide (0 ≤ tOut T (T.getD i default).t i) = decide ((T.getD i default).k = 2)) := fun h => by
    have : pos1 T i = true := by
      unfold pos1
      rw [h.1, h.2]; simp
    rw [this] at hp; cases hp
  split
  · rename_i h
    exact absurd ⟨by rw [decide_eq_false (by omega), decide_eq_false (by omega)], by rw [decide_eq_false (by omega), decide_eq_false (by omega)]⟩ hn
  · split
    · rename_i h
      exact absurd ⟨by rw [decide_eq_true (by omega), decide_eq_true (by omega)], by rw [decide_eq_true (by omega), decide_eq_true (by omega)]⟩ hn
    · rfl
end Go.Ev
namespace Go.Ev
open Go.Proofs
set_option maxRecDepth 100000
noncomputable def bkC (n coin box : Int) (ls : List Ln) (cs : List Ct) : C := .cells false [.o (.i .i64 n) 0, .o (.i .i64 coin) 0, .o (.i .i64 box) 0, .o (.lst 3 (rows lnD ls)) 0, .o (.lst 3 (rows ctD cs)) 0] 1
theorem bkC_kp (n coin box : Int) (ls : List Ln) (cs : List Ct) (m : Nat) : KpC m (bkC n coin box ls cs) := by
  refine KpL.all ?_
  simp [KpL, Kp, Cell.d, Pu, pu_ln, pu_ct]
noncomputable def lnC (l : Ln) : C := .cells false [.o (.i .i64 l.k) 0, .o (.i .i64 l.c) 0, .o (.i .i64 l.t) 0] 1
theorem lnC_kp (l : Ln) (m : Nat) : KpC m (lnC l) := by
  refine KpL.all ?_
  simp [KpL, Kp, Cell.d, Pu]
theorem j_In (n a b : Int) : PureF Try.prog p36.ix [.i .i64 n, .i .i64 a, .i .i64 b] (.b (inR n a b)) := by
  refine PureF.run fn35 (by simp) (by simp [PuL, PuE, Pu]) ?_; conv => whnf
  repeat' first | ((first | with_reducible (first | apply Qt | apply Qu) | refine Qa rfl ?_ | refine Qk rfl ?_ | refine Qb ?_ | refine Qc ?_ | refine Qi ?_ | refine Qj ?_ | with_reducible refine WB.dec (fun h => ?_) (fun h => ?_) | with_reducible refine WB.ndec (fun h => ?_) (fun h => ?_) | refine WB.mk (fun h => ?_) (fun h => ?_)) <;> conv => whnf)
  all_goals
    refine Fin.b rfl ?_
    unfold inR
    first
      | exact (decide_eq_false (by omega)).symm
      | (congr 1; apply propext; constructor <;> intro hh <;> omega)
theorem j_Agrees (l x : Ln) : PureF Try.prog p84.ix [.ag (lnD l), .ag (lnD x)] (.b (agB l x)) := by
  obtain ⟨a, b, c⟩ := l
  obtain ⟨a', b', c'⟩ := x
  refine PureF.run fn83 (by simp) (by simp [PuL, PuE, Pu, lnD]) ?_; conv => whnf
  repeat' first | ((first | with_reducible (first | apply Qt | apply Qu) | refine Qa rfl ?_ | refine Qk rfl ?_ | refine Qb ?_ | refine Qc ?_ | refine Qi ?_ | refine Qj ?_ | with_reducible refine WB.dec (fun h => ?_) (fun h => ?_) | with_reducible refine WB.ndec (fun h => ?_) (fun h => ?_) | refine WB.mk (fun h => ?_) (fun h => ?_)) <;> conv => whnf)
  all_goals exact Fin.b rfl (by unfold agB; simp_all <;> omega)
def tkL (n : Int) (l : Ln) (i j : Int) : Nat → List Ln
  | 0 => []
  | k + 1 => tkL n l i j k ++ bif agB l ⟨i, j, (k : Int)⟩ then [⟨i, j, (k : Int)⟩] else []
def chL3 (n : Int) (l : Ln) (i : Int) : Nat → List Ln
  | 0 => []
  | j + 1 => chL3 n l i j ++ tkL n l i (j : Int) n.toNat
def kdL (n : Int) (l : Ln) : Nat → List Ln
  | 0 => []
  | i + 1 => kdL n l i ++ chL3 n l ((i : Int) + 1) n.toNat
def readL (n : Int) (l : Ln) : List Ln := kdL n l 2
theorem tkL_len (n : Int) (l : Ln) (i j : Int) : ∀ k, (tkL n l i j k).length ≤ k
  | 0 => Nat.le_refl _
  | k + 1 => by
    have := tkL_len n l i j k
    unfold tkL
    rw [List.length_append]
    cases agB l ⟨i, j, (k : Int)⟩ <;> simp <;> omega
theorem chL_len (n : Int) (l : Ln) (i : Int) (h4 : n.toNat ≤ 4) : ∀ j, (chL3 n l i j).length ≤ j * 4
  | 0 => Nat.le_refl _
  | j + 1 => by
    have := chL_len n l i h4 j
    have := tkL_len n l i (j : Int) n.toNat
    unfold chL3
    rw [List.length_append]
    omega
theorem kdL_len (n : Int) (l : Ln) (h4 : n.toNat ≤ 4) : ∀ i, (kdL n l i).length ≤ i * 16
  | 0 => Nat.le_refl _
  | i + 1 => by
    have := kdL_len n l h4 i
    have := chL_len n l ((i : Int) + 1) h4 n.toNat
    unfold kdL
    rw [List.length_append]
    omega
theorem read_tab : ∀ n ∈ [(1 : Int), 2, 3, 4], ∀ k ∈ [(0 : Int), 1, 2], ∀ c ∈ [(-1 : Int), 0, 1, 2, 3], ∀ t ∈ [(-1 : Int), 0, 1, 2, 3], (c < n && t < n) = true → decide (((readL n ⟨k, c, t⟩).length : Int) = rdN n ⟨k, c, t⟩) = true := by decide +kernel
theorem read_len {n : Int} {l : Ln} (hn : 1 ≤ n ∧ n ≤ 4) (hl : lnOk n l = true) : ((readL n l).length : Int) = rdN n l := by
  obtain ⟨k, c, t⟩ := l
  unfold lnOk at hl
  rw [Bool.and_eq_true, Bool.and_eq_true, inR_iff, inR_iff, inR_iff] at hl
  obtain ⟨h1, h2, h3⟩ := hl
  have h1 : 0 ≤ k ∧ k ≤ 2 := h1
  have h2 : -1 ≤ c ∧ c ≤ n - 1 := h2
  have h3 : -1 ≤ t ∧ t ≤ n - 1 := h3
  have mn : n ∈ [(1 : Int), 2, 3, 4] := by
    have : n = 1 ∨ n = 2 ∨ n = 3 ∨ n = 4 := by omega
    rcases this with rfl | rfl | rfl | rfl <;> simp
  have mk : k ∈ [(0 : Int), 1, 2] := by
    have : k = 0 ∨ k = 1 ∨ k = 2 := by omega
    rcases this with rfl | rfl | rfl <;> simp
  have mc : c ∈ [(-1 : Int), 0, 1, 2, 3] := by
    have : c = -1 ∨ c = 0 ∨ c = 1 ∨ c = 2 ∨ c = 3 := by omega
    rcases this with rfl | rfl | rfl | rfl | rfl <;> simp
  have mt : t ∈ [(-1 : Int), 0, 1, 2, 3] := by
    have : t = -1 ∨ t = 0 ∨ t = 1 ∨ t = 2 ∨ t = 3 := by omega
    rcases this with rfl | rfl | rfl | rfl | rfl <;> simp
  exact of_decide_eq_true (read_tab n mn k mk c mc t mt (by rw [Bool.and_eq_true, decide_eq_true_iff, decide_eq_true_iff]; omega))
def lnF (A : List Ln) : List D := (rows lnD A).flatten
theorem lnF_len (A : List Ln) : (lnF A).length = A.length * 3 := by
  induction A with
  | nil => rfl
  | cons a A ih => unfold lnF rows at *; rw [List.map_cons, List.flatten_cons, List.length_append, ih, List.length_cons]; simp [lnD]; omega
theorem lnF_pu (A : List Ln) : PuL (lnF A) := PuL_iff.2 fun d hd => by
  obtain ⟨r, hr, hd⟩ := List.mem_flatten.1 hd
  exact PuL_iff.1 (PuE_iff.1 (pu_ln A) r hr) d hd
theorem lnF_snoc (A : List Ln) (x : Ln) : lnF (A ++ [x]) = lnF A ++ lnD x := by simp [lnF, rows]
theorem lnF_kp (n st m : Nat) (A : List Ln) : KpC n (.cells false ((lnF A).map fun d => Cell.o d st) m) := fun c hc => by
  obtain ⟨d, hd, rfl⟩ := List.mem_map.1 hc
  obtain ⟨r, hr, hd⟩ := List.mem_flatten.1 hd
  obtain ⟨x, _, rfl⟩ := List.mem_map.1 hr
  simp only [lnD, List.mem_cons, List.not_mem_nil, or_false] at hd
  rcases hd with rfl | rfl | rfl <;> simp [Kp, Cell.d, Pu]
def slK : List Ln → D
  | [] => .ns
  | _ :: s => .sl (.o (.o .h)) 0 (s.length + 1) s.length 3
def blK : List Ln → Option C
  | [] => none
  | a :: s => some (.cells false ((lnF (a :: s)).map fun d => Cell.o d s.length) (s.length + 1))
def nxK : List Ln → Pos
  | [] => .i .h
  | _ :: _ => .i (.o .h)
noncomputable def obK (B L : C) (A : List Ln) : T C := .n (.n (.n .e (blK A) .e) (some L) .e) (some B) .e
theorem nxK_up (A A' : List Ln) : (nxK A).nat ≤ (nxK (A ++ A')).nat := by
  cases A with
  | nil => cases A' <;> simp [nxK, Pos.nat]
  | cons a A => simp [nxK]
theorem nxK_two (A : List Ln) : 3 ≤ (nxK A).nat := by cases A <;> simp [nxK, Pos.nat]
theorem slK_kp (A : List Ln) : Kp (nxK A).nat (slK A) := by
  cases A <;> simp [slK, nxK, Kp, Pos.nat, Pu]
theorem obK_kp {B L : C} (A : List Ln) (hB : ∀ m, KpC m B) (hL : ∀ m, KpC m L) : KpO (nxK A).nat (obK B L A) := by
  cases A with
  | nil =>
    show TAll (fun id c => id.nat < 3 ∧ KpC 3 c) _
    unfold obK blK
    exact TAll.some (TAll.some (TAll.none TAll.e TAll.e) ⟨by simp [Pos.nat], hL _⟩ TAll.e) ⟨by simp [Pos.nat], hB _⟩ TAll.e
  | cons a s =>
    show TAll (fun id c => id.nat < 5 ∧ KpC 5 c) _
    unfold obK blK
    exact TAll.some (TAll.some (TAll.some TAll.e ⟨by simp [Pos.nat], lnF_kp _ _ _ _⟩ TAll.e) ⟨by simp [Pos.nat], hL _⟩ TAll.e) ⟨by simp [Pos.nat], hB _⟩ TAll.e
set_option maxHeartbeats 2000000 in
theorem j_Readings (n coin box : Int) (ls : List Ln) (cs : List Ct) (l : Ln) (hn : 0 ≤ n ∧ n ≤ 4) : PureF Try.prog p93.ix [.ag (bk5 n coin box ls cs), .ag (lnD l)] (.lst 3 (rows lnD (readL n l))) := by
  have hn0 : ((n.toNat : Nat) : Int) = n := by omega
  have h4 : n.toNat ≤ 4 := by omega
  obtain ⟨N, hN⟩ : ∃ N : Nat, N = n.toNat := ⟨_, rfl⟩
  have kpB := bkC_kp n coin box ls cs
  have kpL := lnC_kp l
  refine PureF.run fn92 (by simp) (by simp [PuL, PuE, Pu, bk5, lnD, pu_ln, pu_ct]) ?_; conv => whnf
  repeat' first | ((first | with_reducible (first | apply Qt | apply Qu) | refine Qa rfl ?_ | refine Qk rfl ?_ | refine Qb ?_ | refine Qc ?_ | refine Qi ?_ | refine Qj ?_) <;> conv => whnf)
  refine Rn.loop (fun i : Nat => ⟨(.n (.n (.n .e (some (.pt (.o .h) 0 0)) .e) none (.n .e (some (slK (kdL n l i))) .e)) none (.n .e (some (.pt .h 0 0)) (.n .e (some (.i .i64 ((i : Int) + 1))) .e))), obK (bkC n coin box ls cs) (lnC l) (kdL n l i), nxK (kdL n l i), none⟩) (fun i => i ≤ 2) (fun i => 2 - i) 0 ?_ ?_ ?_
  · refine X.le.mk ?_ ?_ (Nat.le_refl _) rfl rfl
    · show T.le ((.n (.n (.n .e (some (.pt (.o .h) 0 0)) .e) none (.n .e (some (.ns)) .e)) none (.n .e (some (.pt .h 0 0)) (.n .e (some (.i .i64 1)) .e))) : T D) _
      (repeat' first | exact T.le_e _ | refine T.le_some ?_ rfl ?_ | refine T.le_none ?_ ?_)
    · show T.le (T.n (.n (.n .e none .e) (some (lnC l)) .e) (some (bkC n coin box ls cs)) .e : T C) _
      (repeat' first | exact T.le_e _ | refine T.le_some ?_ rfl ?_ | refine T.le_none ?_ ?_ | refine T.le_ee ?_ ?_)
  · omega
  intro i hi
  have hi : i ≤ 2 := hi
  have hiA := kdL_len n l h4 i
  have hiE : i = 2 → kdL n l i = readL n l := fun e => by rw [e]; rfl
  have hiN : kdL n l (i + 1) = kdL n l i ++ chL3 n l ((i : Int) + 1) n.toNat := rfl
  generalize hA : kdL n l i = A at *
  conv => whnf
  repeat' first | ((first | with_reducible (first | apply Qt | apply Qu) | refine Qa rfl ?_ | refine Qk rfl ?_ | refine Qb ?_ | refine Qc ?_ | refine Qi ?_ | refine Qj ?_) <;> conv => whnf)
  refine WB.dec (fun h => ?_) (fun h => ?_) <;> conv => whnf
  · have hi2 : i < 2 := by omega
    repeat' first | ((first | with_reducible (first | apply Qt | apply Qu) | refine Qa rfl ?_ | refine Qk rfl ?_ | refine Qb ?_ | refine Qc ?_ | refine Qi ?_ | refine Qj ?_) <;> conv => whnf)
    refine Rn.loop (fun j : Nat => ⟨(.n (.n (.n (.n .e (some (.i .i64 (j : Int))) .e) (some (.pt (.o .h) 0 0)) .e) none (.n .e (some (slK (A ++ chL3 n l ((i : Int) + 1) j))) .e)) none (.n .e (some (.pt .h 0 0)) (.n .e (some (.i .i64 ((i : Int) + 1))) .e))), obK (bkC n coin box ls cs) (lnC l) (A ++ chL3 n l ((i : Int) + 1) j), nxK (A ++ chL3 n l ((i : Int) + 1) j), none⟩) (fun j => j ≤ n.toNat) (fun j => n.toNat - j) 0 ?_ ?_ ?_
    · have e0 : A ++ chL3 n l ((i : Int) + 1) 0 = A := List.append_nil A
      simp only [e0]
      refine X.le.mk ?_ (T.le_refl _) (Nat.le_refl _) rfl rfl
      show T.le ((.n (.n (.n (.n .e (some (.i .i64 0)) .e) (some (.pt (.o .h) 0 0)) .e) none (.n .e (some (slK A)) .e)) none (.n .e (some (.pt .h 0 0)) (.n .e (some (.i .i64 ((i : Int) + 1))) .e))) : T D) _
      (repeat' first | exact T.le_e _ | refine T.le_some ?_ rfl ?_ | refine T.le_none ?_ ?_)
    · exact Nat.zero_le _
    intro j hj
    have hj : j ≤ n.toNat := hj
    have hjA := chL_len n l ((i : Int) + 1) h4 j
    have hjE : j = n.toNat → A ++ chL3 n l ((i : Int) + 1) j = kdL n l (i + 1) := fun e => by rw [hiN, e]
    have hjN : A ++ chL3 n l ((i : Int) + 1) (j + 1) = (A ++ chL3 n l ((i : Int) + 1) j) ++ tkL n l ((i : Int) + 1) (j : Int) n.toNat := by
      rw [List.append_assoc]; rfl
    have hBl : (A ++ chL3 n l ((i : Int) + 1) j).length ≤ 1000 := by rw [List.length_append]; omega
    have hupj := nxK_up A (chL3 n l ((i : Int) + 1) j)
    generalize hB : A ++ chL3 n l ((i : Int) + 1) j = B at *
    conv => whnf
    repeat' first | ((first | with_reducible (first | apply Qt | apply Qu) | refine Qa rfl ?_ | refine Qk rfl ?_ | refine Qb ?_ | refine Qc ?_ | refine Qi ?_ | refine Qj ?_) <;> conv => whnf)
    refine WB.dec (fun h => ?_) (fun h => ?_) <;> conv => whnf
    · have hjn : j < n.toNat := by omega
      repeat' first | ((first | with_reducible (first | apply Qt | apply Qu) | refine Qa rfl ?_ | refine Qk rfl ?_ | refine Qb ?_ | refine Qc ?_ | refine Qi ?_ | refine Qj ?_) <;> conv => whnf)
      refine Rn.loop (fun k : Nat => ⟨(.n (.n (.n (.n .e (some (.i .i64 (j : Int))) .e) (some (.pt (.o .h) 0 0)) .e) none (.n .e (some (slK (B ++ tkL n l ((i : Int) + 1) (j : Int) k))) .e)) none (.n (.n (.n .e (some (.i .i64 (k : Int))) .e) none .e) (some (.pt .h 0 0)) (.n .e (some (.i .i64 ((i : Int) + 1))) .e))), obK (bkC n coin box ls cs) (lnC l) (B ++ tkL n l ((i : Int) + 1) (j : Int) k), nxK (B ++ tkL n l ((i : Int) + 1) (j : Int) k), none⟩) (fun k => k ≤ n.toNat) (fun k => n.toNat - k) 0 ?_ ?_ ?_
      · have e0 : B ++ tkL n l ((i : Int) + 1) (j : Int) 0 = B := List.append_nil B
        simp only [e0]
        refine X.le.mk ?_ (T.le_refl _) (Nat.le_refl _) rfl rfl
        show T.le ((.n (.n (.n (.n .e (some (.i .i64 (j : Int))) .e) (some (.pt (.o .h) 0 0)) .e) none (.n .e (some (slK B)) .e)) none (.n (.n (.n .e (some (.i .i64 0)) .e) none .e) (some (.pt .h 0 0)) (.n .e (some (.i .i64 ((i : Int) + 1))) .e))) : T D) _
        (repeat' first | exact T.le_e _ | refine T.le_some ?_ rfl ?_ | refine T.le_none ?_ ?_)
      · exact Nat.zero_le _
      intro k hk
      have hk : k ≤ n.toNat := hk
      have hkA := tkL_len n l ((i : Int) + 1) (j : Int) k
      have hkE : k = n.toNat → B ++ tkL n l ((i : Int) + 1) (j : Int) k = A ++ chL3 n l ((i : Int) + 1) (j + 1) := fun e => by rw [hjN, e]
      have hkN : B ++ tkL n l ((i : Int) + 1) (j : Int) (k + 1) = (B ++ tkL n l ((i : Int) + 1) (j : Int) k) ++ bif agB l ⟨(i : Int) + 1, (j : Int), (k : Int)⟩ then [⟨(i : Int) + 1, (j : Int), (k : Int)⟩] else [] := by
        rw [List.append_assoc]; rfl
      have hCl : (B ++ tkL n l ((i : Int) + 1) (j : Int) k).length ≤ 1004 := by rw [List.length_append]; omega
      have hupk := nxK_up B (tkL n l ((i : Int) + 1) (j : Int) k)
      generalize hC : B ++ tkL n l ((i : Int) + 1) (j : Int) k = E at *
      have hupE := nxK_up E
      have hst : ∀ (E' : List Ln), B ++ tkL n l ((i : Int) + 1) (j : Int) (k + 1) = E' → (⟨(.n (.n (.n (.n .e (some (.i .i64 (j : Int))) .e) (some (.pt (.o .h) 0 0)) .e) none (.n .e (some (slK (B ++ tkL n l ((i : Int) + 1) (j : Int) (k + 1)))) .e)) none (.n (.n (.n .e (some (.i .i64 ((k + 1 : Nat) : Int))) .e) none .e) (some (.pt .h 0 0)) (.n .e (some (.i .i64 ((i : Int) + 1))) .e))), obK (bkC n coin box ls cs) (lnC l) (B ++ tkL n l ((i : Int) + 1) (j : Int) (k + 1)), nxK (B ++ tkL n l ((i : Int) + 1) (j : Int) (k + 1)), none⟩ : X) = ⟨(.n (.n (.n (.n .e (some (.i .i64 (j : Int))) .e) (some (.pt (.o .h) 0 0)) .e) none (.n .e (some (slK E')) .e)) none (.n (.n (.n .e (some (.i .i64 ((k + 1 : Nat) : Int))) .e) none .e) (some (.pt .h 0 0)) (.n .e (some (.i .i64 ((i : Int) + 1))) .e))), obK (bkC n coin box ls cs) (lnC l) E', nxK E', none⟩ := fun E' h => by rw [h]
      have cA := j_Agrees l ⟨(i : Int) + 1, (j : Int), (k : Int)⟩
      conv => whnf
      repeat' first | ((first | with_reducible (first | apply Qt | apply Qu) | refine Qa rfl ?_ | refine Qk rfl ?_ | refine Qb ?_ | refine Qc ?_ | refine Qi ?_ | refine Qj ?_) <;> conv => whnf)
      refine WB.dec (fun h => ?_) (fun h => ?_) <;> conv => whnf
      · have hkn : k < n.toNat := by omega
        cases hag : agB l ⟨(i : Int) + 1, (j : Int), (k : Int)⟩ with
        | true =>
          rw [hag, cond_true] at hkN
          rw [hag] at cA
          cases E with
          | nil =>
            repeat' first | ((first | with_reducible (first | apply Qt | apply Qu) | refine Qa rfl ?_ | refine Qk rfl ?_ | refine Qb ?_ | refine Qc ?_ | refine Qi ?_ | refine Qj ?_ | refine Qf (cA) ?_) <;> conv => whnf)
            refine WSt.app_first (r := lnD ⟨(i : Int) + 1, (j : Int), (k : Int)⟩) rfl (.inl rfl) rfl rfl rfl rfl ?_; conv => whnf
            repeat' first | ((first | with_reducible (first | apply Qt | apply Qu) | refine Qa rfl ?_ | refine Qk rfl ?_ | refine Qb ?_ | refine Qc ?_ | refine Qi ?_ | refine Qj ?_) <;> conv => whnf)
            refine Again.to (k + 1) (by omega) (by omega) ?_ ?_
            · show (nxK (B ++ tkL n l ((i : Int) + 1) (j : Int) k)).nat ≤ (nxK (B ++ tkL n l ((i : Int) + 1) (j : Int) (k + 1))).nat
              rw [hC, hkN]; exact hupE _
            · rw [hst _ hkN]
              refine Shr.of ?_ ?_ rfl rfl
              · show Rel _ _ ((.n (.n (.n (.n .e (some (.i .i64 (j : Int))) .e) (some (.pt (.o .h) 0 0)) .e) none (.n .e (some (.sl (.o (.o .h)) 0 1 0 3)) .e)) none (.n (.n (.n .e (some (.i .i64 ((k + 1 : Nat) : Int))) .e) none .e) (some (.pt .h 0 0)) (.n .e (some (.i .i64 ((i : Int) + 1))) .e))) : T D) _
                (repeat' first | exact Rel.e | refine Rel.some ?_ ?_ ?_ | refine Rel.none ?_ ?_ | refine Rel.ee ?_ ?_)
                all_goals show Fz _ _ _ _
                all_goals first | exact .pu trivial | exact .kpt (show _ < 5 by simp [Pos.nat]) | exact .ksl (show _ < 5 by simp [Pos.nat])
              · show Rel _ _ (T.n (.n (.n .e (some (.cells false ((lnD ⟨(i : Int) + 1, (j : Int), (k : Int)⟩).map fun d => Cell.o d 0) 1)) .e) (some (lnC l)) .e) (some (bkC n coin box ls cs)) .e : T C) _
                (repeat' first | exact Rel.e | refine Rel.some ?_ ?_ ?_ | refine Rel.none ?_ ?_ | refine Rel.ee ?_ ?_)
                all_goals first
                  | exact RO'.of (show _ < 5 by simp [Pos.nat]) (ShC.kp (kpB _))
                  | exact RO'.of (show _ < 5 by simp [Pos.nat]) (ShC.kp (kpL _))
                  | exact RO'.of (show _ < 5 by simp [Pos.nat]) (ShC.same (ShC.cn (.pu trivial) (ShC.cn (.pu trivial) (ShC.cn (.pu trivial) ShC.nl))))
          | cons a s =>
            repeat' first | ((first | with_reducible (first | apply Qt | apply Qu) | refine Qa rfl ?_ | refine Qk rfl ?_ | refine Qb ?_ | refine Qc ?_ | refine Qi ?_ | refine Qj ?_ | refine Qf (cA) ?_) <;> conv => whnf)
            refine WSt.app_one (ds := lnF (a :: s)) (r := lnD ⟨(i : Int) + 1, (j : Int), (k : Int)⟩) rfl rfl rfl rfl rfl rfl (by rw [lnF_len]; rfl) rfl rfl (by simp at hCl; omega) rfl ?_; conv => whnf
            repeat' first | ((first | with_reducible (first | apply Qt | apply Qu) | refine Qa rfl ?_ | refine Qk rfl ?_ | refine Qb ?_ | refine Qc ?_ | refine Qi ?_ | refine Qj ?_) <;> conv => whnf)
            refine Again.to (k + 1) (by omega) (by omega) ?_ ?_
            · show (nxK (B ++ tkL n l ((i : Int) + 1) (j : Int) k)).nat ≤ (nxK (B ++ tkL n l ((i : Int) + 1) (j : Int) (k + 1))).nat
              rw [hC, hkN]; exact hupE _
            · rw [hst _ hkN]
              refine Shr.of ?_ ?_ rfl rfl
              · show Rel _ _ ((.n (.n (.n (.n .e (some (.i .i64 (j : Int))) .e) (some (.pt (.o .h) 0 0)) .e) none (.n .e (some (.sl (.o (.o .h)) 0 ((s ++ [(⟨(i : Int) + 1, (j : Int), (k : Int)⟩ : Ln)]).length + 1) (s ++ [(⟨(i : Int) + 1, (j : Int), (k : Int)⟩ : Ln)]).length 3)) .e)) none (.n (.n (.n .e (some (.i .i64 ((k + 1 : Nat) : Int))) .e) none .e) (some (.pt .h 0 0)) (.n .e (some (.i .i64 ((i : Int) + 1))) .e))) : T D) _
                rw [List.length_append, List.length_singleton]
                (repeat' first | exact Rel.e | refine Rel.some ?_ ?_ ?_ | refine Rel.none ?_ ?_ | refine Rel.ee ?_ ?_)
                all_goals show Fz _ _ _ _
                all_goals first | exact .pu trivial | exact .kpt (show _ < 5 by simp [Pos.nat]) | exact .ksl (show _ < 5 by simp [Pos.nat])
              · show Rel _ _ (T.n (.n (.n .e (some (.cells false ((lnF ((a :: s) ++ [(⟨(i : Int) + 1, (j : Int), (k : Int)⟩ : Ln)])).map fun d => Cell.o d (s ++ [(⟨(i : Int) + 1, (j : Int), (k : Int)⟩ : Ln)]).length) ((s ++ [(⟨(i : Int) + 1, (j : Int), (k : Int)⟩ : Ln)]).length + 1))) .e) (some (lnC l)) .e) (some (bkC n coin box ls cs)) .e : T C) _
                rw [List.length_append, List.length_singleton, lnF_snoc]
                (repeat' first | exact Rel.e | refine Rel.some ?_ ?_ ?_ | refine Rel.none ?_ ?_ | refine Rel.ee ?_ ?_)
                all_goals first
                  | exact RO'.of (show _ < 5 by simp [Pos.nat]) (ShC.kp (kpB _))
                  | exact RO'.of (show _ < 5 by simp [Pos.nat]) (ShC.kp (kpL _))
                  | (refine RO'.of (show _ < 5 by simp [Pos.nat]) ?_
                     refine ShC.grown (by omega) (PuL_iff.2 fun d hd => ?_)
                     rcases List.mem_append.1 hd with hd | hd
                     · exact PuL_iff.1 (lnF_pu _) d hd
                     · simp only [lnD, List.mem_cons, List.mem_nil_iff, or_false] at hd
                       rcases hd with rfl | rfl | rfl <;> exact trivial)
        | false =>
          rw [hag, cond_false, List.append_nil] at hkN
          rw [hag] at cA
          repeat' first | ((first | with_reducible (first | apply Qt | apply Qu) | refine Qa rfl ?_ | refine Qk rfl ?_ | refine Qb ?_ | refine Qc ?_ | refine Qi ?_ | refine Qj ?_ | refine Qf (cA) ?_) <;> conv => whnf)
          refine Again.to (k + 1) (by omega) (by omega) ?_ ?_
          · show (nxK (B ++ tkL n l ((i : Int) + 1) (j : Int) k)).nat ≤ (nxK (B ++ tkL n l ((i : Int) + 1) (j : Int) (k + 1))).nat
            rw [hC, hkN]; exact Nat.le_refl _
          · rw [hst _ hkN]
            refine Shr.kp2 ?_ ?_ (T.le_refl _) (obK_kp E kpB kpL)
            · (repeat' first | exact T.le_e _ | refine T.le_some ?_ rfl ?_ | refine T.le_none ?_ ?_)
            · have h3 := nxK_two E
              show TAll (fun _ d => Kp (nxK E).nat d) _
              repeat' first | exact TAll.e | refine TAll.some ?_ ?_ ?_ | refine TAll.none ?_ ?_
              all_goals first | exact slK_kp E | (simp [Kp, Pu, Pos.nat]; done) | (simp [Kp, Pos.nat]; omega)
      · have he := hkE (by omega)
        repeat' first | ((first | with_reducible (first | apply Qt | apply Qu) | refine Qa rfl ?_ | refine Qk rfl ?_ | refine Qb ?_ | refine Qc ?_ | refine Qi ?_ | refine Qj ?_) <;> conv => whnf)
        refine Again.to (j + 1) (by omega) (by omega) ?_ ?_
        · show (nxK (A ++ chL3 n l ((i : Int) + 1) j)).nat ≤ (nxK (A ++ chL3 n l ((i : Int) + 1) (j + 1))).nat
          rw [hB, ← he]; exact hupk
        · show Shr _ (⟨(.n (.n (.n (.n .e (some (.i .i64 ((j + 1 : Nat) : Int))) .e) (some (.pt (.o .h) 0 0)) .e) none (.n .e (some (slK (A ++ chL3 n l ((i : Int) + 1) (j + 1)))) .e)) none (.n .e (some (.pt .h 0 0)) (.n .e (some (.i .i64 ((i : Int) + 1))) .e))), obK (bkC n coin box ls cs) (lnC l) (A ++ chL3 n l ((i : Int) + 1) (j + 1)), nxK (A ++ chL3 n l ((i : Int) + 1) (j + 1)), none⟩)
          rw [← he]
          refine Shr.kp2 ?_ ?_ (T.le_refl _) (obK_kp E kpB kpL)
          · (repeat' first | exact T.le_e _ | refine T.le_some ?_ rfl ?_ | refine T.le_none ?_ ?_)
          · have h3 := nxK_two E
            show TAll (fun _ d => Kp (nxK E).nat d) _
            repeat' first | exact TAll.e | refine TAll.some ?_ ?_ ?_ | refine TAll.none ?_ ?_
            all_goals first | exact slK_kp E | (simp [Kp, Pu, Pos.nat]; done) | (simp [Kp, Pos.nat]; omega)
    · have he := hjE (by omega)
      repeat' first | ((first | with_reducible (first | apply Qt | apply Qu) | refine Qa rfl ?_ | refine Qk rfl ?_ | refine Qb ?_ | refine Qc ?_ | refine Qi ?_ | refine Qj ?_) <;> conv => whnf)
      refine Again.to (i + 1) (by omega) (by omega) ?_ ?_
      · show (nxK (kdL n l i)).nat ≤ (nxK (kdL n l (i + 1))).nat
        rw [hA, ← he]; exact hupj
      · show Shr _ (⟨(.n (.n (.n .e (some (.pt (.o .h) 0 0)) .e) none (.n .e (some (slK (kdL n l (i + 1)))) .e)) none (.n .e (some (.pt .h 0 0)) (.n .e (some (.i .i64 (((i + 1 : Nat) : Int) + 1))) .e))), obK (bkC n coin box ls cs) (lnC l) (kdL n l (i + 1)), nxK (kdL n l (i + 1)), none⟩)
        rw [← he]
        refine Shr.kp2 ?_ ?_ (T.le_refl _) (obK_kp B kpB kpL)
        · (repeat' first | exact T.le_e _ | refine T.le_some ?_ rfl ?_ | refine T.le_none ?_ ?_)
        · have h3 := nxK_two B
          show TAll (fun _ d => Kp (nxK B).nat d) _
          repeat' first | exact TAll.e | refine TAll.some ?_ ?_ ?_ | refine TAll.none ?_ ?_
          all_goals first | exact slK_kp B | (simp [Kp, Pu, Pos.nat]; done) | (simp [Kp, Pos.nat]; omega)
  · repeat' first | ((first | with_reducible (first | apply Qt | apply Qu) | refine Qa rfl ?_ | refine Qk rfl ?_ | refine Qb ?_ | refine Qc ?_ | refine Qi ?_ | refine Qj ?_) <;> conv => whnf)
    have he := hiE (by omega)
    subst he
    refine Fin.t (.inr rfl) rfl ?_
    cases hT : readL n l with
    | nil => exact .ns
    | cons a s =>
      exact Frz.whole (cs := (lnF (a :: s)).map fun d => Cell.o d s.length) (cur := s.length + 1) rfl (by simp [rows]) (ln_three _) rfl (pu_ln _)
end Go.Ev