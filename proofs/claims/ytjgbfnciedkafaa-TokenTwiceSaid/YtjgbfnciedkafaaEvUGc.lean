import Derived.Test.YtjgbfnciedkafaaEvUG7
import Derived.Test.YtjgbfnciedkafaaEvUJi
import Derived.Test.YtjgbfnciedkafaaEvUOc
import Derived.Test.YtjgbfnciedkafaaEvUIt
import Derived.Test.YtjgbfnciedkafaaEvUJb
set_option linter.all false
namespace Go.Ev
open Go.Proofs
set_option maxRecDepth 100000
structure AskOk (B : Bk) (g : Pos) (first caps : List D) (ak : Mo → Int) : Prop where
  p1 : PuL first
  p2 : PuL caps
  ok : ∀ (Q : List Ln) (i : Nat), i ≤ 8 → PureF Try.prog g.ix (first ++ ([.ag (moD (moR B.box B.coin Q i))] ++ caps)) (.i .i64 (ak (moR B.box B.coin Q i)))
end Go.Ev

namespace Go.Ev
open Go.Proofs
set_option maxRecDepth 100000
end Go.Ev

namespace Go.Ev
open Go.Proofs
set_option maxRecDepth 100000
def tlD (X : List Ln) : List D := [.lst 3 (rows lnD X)]
theorem pu_tl (L : List (List Ln)) : PuE (rows tlD L) := pu_rows (fun x => by simp [tlD, PuL, Pu, pu_ln]) L
section
variable (n coin box : Int) (ls : List Ln) (cs : List Ct)
end
theorem hasB_nil {B : Bk} (V : VB B) : hasB B = true ↔ refT B ≠ [] := by
  unfold hasB
  rw [can_iff]
  constructor
  · rintro ⟨X, h⟩ he
    have := (refT_ext V).2 (mem_exT.2 h)
    rw [he] at this; cases this
  · intro h
    obtain ⟨X, s, hs⟩ := List.exists_cons_of_ne_nil h
    have : X ∈ refT B := by rw [hs]; exact List.mem_cons_self
    exact ⟨X, mem_exT.1 ((refT_ext V).1 this)⟩
end Go.Ev

namespace Go.Ev
open Go.Proofs
set_option maxRecDepth 100000
end Go.Ev

namespace Go.Ev
open Go.Proofs
set_option maxRecDepth 100000
theorem Fz.whole {B : Pos → Prop} {ob : T C} {id : Pos} {z st : Nat} {cs : List Cell} {cur : Nat} {es : List (List D)} {n : Nat} (hB : ¬ B id) (h : ob.get id = some (.cells false cs cur)) (hn : n = es.length) (hz : ∀ r ∈ es, r.length = z) (hc : cs = es.flatten.map fun d => Cell.o d st) (hp : PuE es) : Fz B ob (.sl id 0 n st z) (.lst z es) := by
  subst hc
  refine .sl hB h hn.symm hz (fun k d hk => ⟨.o d st, ?_, ?_, rfl⟩) (FzE.of hp)
  · rw [List.drop_zero, List.getElem?_map, hk]; rfl
  · show Nat.ble st st = true
    exact Nat.ble_eq_true_of_le (Nat.le_refl _)
end Go.Ev

namespace Go.Ev
open Go.Proofs
set_option maxRecDepth 100000
end Go.Ev

namespace Go.Ev
open Go.Proofs
set_option maxRecDepth 100000
def cP (m : Nat) (c : Int) (t : List Ln) : Bool := decide (0 ≤ cOut t c m)
end Go.Ev

namespace Go.Ev
open Go.Proofs
set_option maxRecDepth 1000000
end Go.Ev

namespace Go.Ev
set_option maxRecDepth 100000
theorem WSt.shlN {sl : T D} {ob : T C} {nx : Pos} {lg : Option (T Bool)} {K : X → Prop} {d : Pos} {a j : Nat} {x y : RX} (hx : opd sl x = some (.i .i64 (a : Int))) (hy : opd sl y = some (.i .u64 (j : Int))) (ha : a * 2 ^ j ≤ 1000) (hj : j ≤ 63) (k : wOut sl ob nx lg d K (.i .i64 ((a * 2 ^ j : Nat) : Int))) : WSt (.bin d .shl x y) ⟨sl, ob, nx, lg⟩ K := by
  obtain ⟨k2, k3⟩ := wOut_ok k
  refine ⟨_, ?_, k3⟩
  show s_bin d .shl x y sl ob nx lg = _
  unfold s_bin
  rw [hx, hy]
  have hm : minN j 64 = j := by
    unfold minN
    rw [Nat.ble_eq_true_of_le (show j ≤ 64 by omega)]
    rfl
  have hs : ishl ((a : Nat) : Int) j = ((a * 2 ^ j : Nat) : Int) := rfl
  show wrapK .i64 (ishl ((a : Nat) : Int) (minN j 64)) _ = _
  rw [hm, hs, wrapK_eq]
  have hw : IntKind.i64.wrap ((a * 2 ^ j : Nat) : Int) = ((a * 2 ^ j : Nat) : Int) := InR.i64 (by omega) (by omega)
  rw [hw]
  exact k2
theorem ibit_nat (slow : IntKind → Int → Int → Int) (fast : IntKind → Nat → Nat → Nat) (k : IntKind) (m n : Nat) (h1 : Nat.ble m (ubits k) = true) (h2 : Nat.ble n (ubits k) = true) : ibit slow fast k (.ofNat m) (.ofNat n) = .ofNat (fast k m n) := by
  show (bif Nat.ble m (ubits k) && Nat.ble n (ubits k) then Int.ofNat (fast k m n) else slow k (.ofNat m) (.ofNat n)) = _
  rw [h1, h2]
  rfl
theorem binK_or (a b : Int) (f : D → Option X) : binK .or (.i .i64 a) (.i .i64 b) f = wrapK .i64 (ior .i64 a b) f := rfl
end Go.Ev

namespace Go.Ev
open Go.Proofs
end Go.Ev

namespace Go.Ev
open Go.Proofs
set_option maxRecDepth 100000
end Go.Ev

namespace Go.Ev
open Go.Proofs
set_option maxRecDepth 1000000
end Go.Ev

namespace Go.Ev
open Go.Proofs
set_option maxRecDepth 100000
theorem rd1_iff {n : Int} {l x : Ln} : rd1 n l x = true ↔ (1 ≤ x.k ∧ x.k ≤ 2) ∧ (0 ≤ x.c ∧ x.c ≤ n - 1) ∧ (0 ≤ x.t ∧ x.t ≤ n - 1) ∧ agB l x = true := by
  unfold rd1
  rw [Bool.and_eq_true, Bool.and_eq_true, Bool.and_eq_true, inR_iff, inR_iff, inR_iff]
theorem readB_iff {n : Int} {ls T : List Ln} : readB n ls T = true ↔ T.length = ls.length ∧ ∀ i, i < T.length → rd1 n (ls.getD i default) (T.getD i default) = true := by
  unfold readB
  rw [Bool.and_eq_true, decide_eq_true_iff, List.all_eq_true]
  constructor
  · rintro ⟨h1, h2⟩; exact ⟨h1, fun i hi => h2 i (List.mem_range.2 hi)⟩
  · rintro ⟨h1, h2⟩; exact ⟨h1, fun i hi => h2 i (List.mem_range.1 hi)⟩
theorem ext_getD {T T' : List Ln} (hl : T.length = T'.length) (h : ∀ i, i < T.length → T.getD i default = T'.getD i default) : T = T' := by
  refine List.ext_getElem hl fun i h1 h2 => ?_
  have := h i h1
  simpa [List.getD, h1, h2] using this
def FullL (n : Int) (T : List Ln) : Prop := ∀ x ∈ T, (1 ≤ x.k ∧ x.k ≤ 2) ∧ (0 ≤ x.c ∧ x.c ≤ n - 1) ∧ (0 ≤ x.t ∧ x.t ≤ n - 1)
theorem full_prod {n : Int} : ∀ {T : List Ln}, FullL n T → ∀ p : Int, T.foldl (fun m l => m * rdN n l) p = p
  | [], _, p => rfl
  | x :: T, h, p => by
    have hx := h x List.mem_cons_self
    have h1 : rdN n x = 1 := by
      unfold rdN szK szC szT
      rw [if_neg (by omega), if_neg (by omega), if_neg (by omega)]; rfl
    show T.foldl (fun m l => m * rdN n l) (p * rdN n x) = p
    rw [h1, Int.mul_one]
    exact full_prod (fun y hy => h y (List.mem_cons_of_mem _ hy)) p
theorem full_only {n : Int} {X T : List Ln} (hF : FullL n X) (h : readB n X T = true) : T = X := by
  obtain ⟨hl, h2⟩ := readB_iff.1 h
  refine ext_getD hl fun i hi => ?_
  have hx := hF _ (getD_mem (d := default) (show i < X.length by omega))
  obtain ⟨_, _, _, ha⟩ := rd1_iff.1 (h2 i hi)
  unfold agB at ha
  rw [Bool.and_eq_true, Bool.and_eq_true, Bool.or_eq_true, Bool.or_eq_true, Bool.or_eq_true] at ha
  simp only [decide_eq_true_iff] at ha
  generalize X.getD i default = a at *
  generalize T.getD i default = b at *
  obtain ⟨a1, a2, a3⟩ := a
  obtain ⟨b1, b2, b3⟩ := b
  have e1 : b1 = a1 := by
    have h1 : a1 = 0 ∨ a1 = b1 := ha.1
    have h2 : 1 ≤ a1 := hx.1.1
    omega
  have e2 : b2 = a2 := by
    have h1 : a2 < 0 ∨ a2 = b2 := ha.2.1
    have h2 : 0 ≤ a2 := hx.2.1.1
    omega
  have e3 : b3 = a3 := by
    have h1 : a3 < 0 ∨ a3 = b3 := ha.2.2
    have h2 : 0 ≤ a3 := hx.2.2.1
    omega
  rw [e1, e2, e3]
theorem full_ref {B : Bk} (V : VB B) (hF : FullL B.n B.ls) : ∀ X ∈ refT B, X = B.ls := fun X h => by
  rw [mem_refT V] at h
  unfold fitsB at h
  rw [Bool.and_eq_true] at h
  exact full_only hF h.1
theorem full_has {B : Bk} (V : VB B) (hF : FullL B.n B.ls) : fitsB B.n B.coin B.box B.ls B.cs B.ls = hasB B := by
  have h1 := hasB_nil V
  have h2 := mem_refT V (X := B.ls)
  rw [Bool.eq_iff_iff, h1, ← h2]
  constructor
  · intro h e; rw [e] at h; cases h
  · intro h
    obtain ⟨X, s, hs⟩ := List.exists_cons_of_ne_nil h
    have : X ∈ refT B := by rw [hs]; exact List.mem_cons_self
    rw [full_ref V hF X this] at this
    exact this
end Go.Ev

namespace Go.Ev
open Go.Proofs
set_option maxRecDepth 100000
theorem Cv.ns {γ γ' : Gh} {w : World} {z : Nat} : Cv γ γ' w .ns (.lst z []) := fun v h => by
  unfold DV at h ⊢
  exact ⟨none, 0, h, Nat.le_refl _, fun _ => rfl, .inl rfl⟩
theorem WSt.slcT {sl : T D} {ob : T C} {nx : Pos} {lg : Option (T Bool)} {K : X → Prop} {d : Pos} {z h : Nat} {x xh : RX} {es : List (List D)} (hx : opd sl x = some (.lst z es)) (hhi : opd sl xh = some (.i .i64 (h : Int))) (h2 : h ≤ es.length) (k : wOut sl ob nx lg d K (.lst z (es.take h))) : WSt (.slc d z x none (some xh) none) ⟨sl, ob, nx, lg⟩ K := by
  obtain ⟨k2, k3⟩ := wOut_ok k
  refine ⟨_, ?_, k3⟩
  show s_slc d z x none (some xh) none sl ob nx lg = _
  unfold s_slc
  rw [hx]
  have hhi' : ((h : Nat) : Int) = Int.ofNat h := rfl
  have b1 : Nat.ble 0 h = true := Nat.ble_eq_true_of_le (Nat.zero_le _)
  have b2 : Nat.ble h es.length = true := Nat.ble_eq_true_of_le h2
  simp only [bnd, hhi, hhi', Nat.beq_refl, cond_true, b1, b2, Bool.and_self, List.drop_zero]
  exact k2
theorem begin_ns {n coin box : Int} {ls : List Ln} {ob : T C} {nx : Pos} {lg : Option (T Bool)} : CallOk Try.prog p75.ix [.ag [.i .i64 n, .i .i64 coin, .i .i64 box, .lst 3 (rows lnD ls), .ns]] ob nx lg (.ag (wkQ (B5 n coin box ls []) ++ [.mp nx])) (T.set nx (.map (mapL [])) ob) nx.succ (lgW lg nx) :=
  (begin_at (B := B5 n coin box ls [])).sub fun γ w => .cons (.ag (.cons (.pu (fun _ h => h) trivial) (.cons (.pu (fun _ h => h) trivial) (.cons (.pu (fun _ h => h) trivial) (.cons (.pu (fun _ h => h) (pu_ln _)) (.cons .ns .nil)))))) .nil
theorem prod_take {n : Int} (hn : 1 ≤ n ∧ n ≤ 4) (ls : List Ln) (k : Nat) : prodP n (ls.take k) ≤ prodP n ls := by
  have h1 : prodP n ls = (ls.drop k).foldl (fun m l => m * rdN n l) (prodP n (ls.take k)) := by
    unfold prodP
    rw [← List.foldl_append, List.take_append_drop]
  have h2 := (many_prod hn.1 hn.2 (ls.take k)).2
  rw [h1]
  generalize prodP n (ls.take k) = p at h2 ⊢
  generalize ls.drop k = r
  induction r generalizing p with
  | nil => exact Int.le_refl _
  | cons x r ih =>
    obtain ⟨b1, b2⟩ := rdN_bd hn.1 hn.2 x
    have h0 : p * 1 ≤ p * rdN n x := Int.mul_le_mul (Int.le_refl _) b1 (by omega) (by omega)
    rw [Int.mul_one] at h0
    exact Int.le_trans h0 (ih (p * rdN n x) (by omega))
theorem VB.pre {n coin box : Int} {ls : List Ln} {cs : List Ct} (V : VB (B5 n coin box ls cs)) (k : Nat) : VB (B5 n coin box (ls.take k) []) := by
  have hn : 1 ≤ n ∧ n ≤ 4 := V.n
  have h8 : ls.length ≤ 8 := V.len
  refine ⟨V.n, V.coin, V.box, ?_, by show (0 : Nat) ≤ 4; omega, ?_, fun c hc => absurd (show c ∈ ([] : List Ct) from hc) (by simp), ?_⟩
  · show (ls.take k).length ≤ 8
    rw [List.length_take]; omega
  · show (ls.take k).all (lnOk n) = true
    rw [List.all_eq_true]
    exact fun x hx => List.all_eq_true.1 V.ls x (List.mem_of_mem_take hx)
  · show manyR n (ls.take k) ≤ 4096
    have h1 := many_prod hn.1 hn.2 (ls.take k)
    have h2 := many_prod hn.1 hn.2 ls
    have h3 := prod_take hn ls k
    have h4 : manyR n ls ≤ 4096 := V.many
    omega
def badN (n coin box : Int) (ls : List Ln) (k : Nat) : Bool := !hasB (B5 n coin box (ls.take (k + 1)) [])
def fstN (n coin box : Int) (ls : List Ln) : Option Nat := (List.range ls.length).find? (badN n coin box ls)
def fstT (n coin box : Int) (ls : List Ln) (cs : List Ct) : Int × Int :=
  if faultT n coin box ls cs = 0 then (match fstN n coin box ls with | some k => ((k : Int), 0) | none => (0, 7)) else (0, faultT n coin box ls cs)
noncomputable def fsS (n coin box : Int) (ls : List Ln) (es : List (List D)) (d : D) (j : Nat) : X := ⟨(.n (.n .e (some (.pt .h 0 0)) (.n (.n (.n .e (some (.i .i64 (j : Int))) .e) none .e) (some (.lst 3 (rows lnD ls))) .e)) none (.n (.n (.n (.n .e (some (.i .i64 (ls.length : Int))) .e) none .e) none .e) none .e)), (.n .e (some (.cells false [.o (.i .i64 n) 0, .o (.i .i64 coin) 0, .o (.i .i64 box) 0, .o (.lst 3 es) 0, .o .ns 0] 1)) .e), .o .h, none⟩
theorem j_FirstP (n coin box : Int) (ls : List Ln) (cs : List Ct) : PureF Try.prog p47.ix [.ag [.i .i64 n, .i .i64 coin, .i .i64 box, .lst 3 (rows lnD ls), .lst 3 (rows ctD cs)]] (.tp [.i .i64 (fstT n coin box ls cs).1, .i .i64 (fstT n coin box ls cs).2]) := by
  have e1 := rows_length lnD ls
  have iC := j_CheckBook n coin box ls cs
  refine PureF.run fn46 (by simp) (by simp [PuL, PuE, Pu, pu_ints, pu_ln, pu_ct]) ?_; conv => whnf
  by_cases hf : faultT n coin box ls cs = 0
  · have V := VB.of hf
    have hR : fstT n coin box ls cs = (match fstN n coin box ls with | some k => ((k : Int), 0) | none => (0, 7)) := by unfold fstT; rw [if_pos hf]
    rw [hf] at iC
    rw [hR]
    have h8 : ls.length ≤ 8 := V.len
    repeat' first | ((first | with_reducible apply WB.tt | with_reducible apply WB.ff | refine Rn.seq ?_ | refine Rn.reg ?_ | refine Rn.drw ?_ | refine Rn.blk ?_ | refine Rn.skip ?_ | refine Rn.ret ?_ | refine Rn.exit ?_ | refine Rn.cond rfl ?_ | refine And.intro (InR.i64 (by omega) (by omega)) ?_ | refine And.intro (show _ ≠ (0 : Int) by omega) ?_ | refine WIx.intsN (by omega) ?_ | refine WIx.rowsN (by omega) ?_ | refine WCall.pure (iC) ?_ | with_reducible refine WB.decT (by first | with_reducible rfl | assumption | omega | exact ⟨rfl, rfl⟩) ?_ | with_reducible refine WB.decF (by first | assumption | omega) ?_ | with_reducible refine WB.ndT (by first | with_reducible rfl | assumption | omega | exact ⟨rfl, rfl⟩) ?_ | with_reducible refine WB.ndF (by first | assumption | omega) ?_ | with_reducible refine WB.nt ?_ | with_reducible refine WB.nf ?_ | with_reducible refine WB.dec (fun h => ?_) (fun h => ?_) | with_reducible refine WB.ndec (fun h => ?_) (fun h => ?_) | refine WB.mk (fun h => ?_) (fun h => ?_)) <;> conv => whnf)
    refine Rn.loop (fun j : Nat => fsS n coin box ls (match j with | 0 => rows lnD ls | j + 1 => (rows lnD ls).take (j + 1)) .ns j) (fun j => j ≤ ls.length ∧ ∀ i, i < j → badN n coin box ls i = false) (fun j => ls.length - j) 0 ?_ ?_ ?_
    · refine X.le.mk ?_ ?_ (Nat.le_refl _) rfl rfl
      · show T.le ((.n (.n .e (some (.pt .h 0 0)) (.n (.n (.n .e (some (.i .i64 0)) .e) none .e) (some (.lst 3 (rows lnD ls))) .e)) none (.n (.n (.n (.n .e (some (.i .i64 (ls.length : Int))) .e) none .e) none .e) none .e)) : T D) _
        rw [← e1]
        (repeat' first | exact T.le_e _ | refine T.le_some ?_ rfl ?_ | refine T.le_none ?_ ?_)
      · (repeat' first | exact T.le_e _ | refine T.le_some ?_ rfl ?_ | refine T.le_none ?_ ?_ | refine T.le_ee ?_ ?_)
    · exact ⟨Nat.zero_le _, fun i h => absurd h (Nat.not_lt_zero _)⟩
    rintro j ⟨hj, ha⟩
    have hj : j ≤ ls.length := hj
    generalize (match j with | 0 => rows lnD ls | j + 1 => (rows lnD ls).take (j + 1)) = es
    conv => whnf
    repeat' first | ((first | with_reducible apply WB.tt | with_reducible apply WB.ff | refine Rn.seq ?_ | refine Rn.reg ?_ | refine Rn.drw ?_ | refine Rn.blk ?_ | refine Rn.skip ?_ | refine Rn.ret ?_ | refine Rn.exit ?_ | refine Rn.cond rfl ?_ | refine And.intro (InR.i64 (by omega) (by omega)) ?_ | refine And.intro (show _ ≠ (0 : Int) by omega) ?_ | refine WIx.intsN (by omega) ?_ | refine WIx.rowsN (by omega) ?_) <;> conv => whnf)
    refine WB.dec (fun h => ?_) (fun h => ?_) <;> conv => whnf
    · have hlt : j < ls.length := by omega
      have hw : badN n coin box ls j = !hasB (B5 n coin box (ls.take (j + 1)) []) := rfl
      obtain ⟨M', hM', Hh⟩ := j_hasTruth (V.pre (j + 1)) [] (MOk.nil _)
      have hrow : (rows lnD ls).take (j + 1) = rows lnD (ls.take (j + 1)) := List.map_take.symm
      repeat' first | ((first | with_reducible apply WB.tt | with_reducible apply WB.ff | refine Rn.seq ?_ | refine Rn.reg ?_ | refine Rn.drw ?_ | refine Rn.blk ?_ | refine Rn.skip ?_ | refine Rn.ret ?_ | refine Rn.exit ?_ | refine Rn.cond rfl ?_ | refine And.intro (InR.i64 (by omega) (by omega)) ?_ | refine And.intro (show _ ≠ (0 : Int) by omega) ?_ | refine WIx.intsN (by omega) ?_ | refine WIx.rowsN (by omega) ?_) <;> conv => whnf)
      refine WSt.slcT (h := j + 1) (by rfl) (by rfl) (by rw [e1]; omega) ?_; conv => whnf
      repeat' first | ((first | with_reducible apply WB.tt | with_reducible apply WB.ff | refine Rn.seq ?_ | refine Rn.reg ?_ | refine Rn.drw ?_ | refine Rn.blk ?_ | refine Rn.skip ?_ | refine Rn.ret ?_ | refine Rn.exit ?_ | refine Rn.cond rfl ?_ | refine And.intro (InR.i64 (by omega) (by omega)) ?_ | refine And.intro (show _ ≠ (0 : Int) by omega) ?_ | refine WIx.intsN (by omega) ?_ | refine WIx.rowsN (by omega) ?_) <;> conv => whnf)
      rw [hrow]
      refine WCall.of begin_ns ?_; conv => whnf
      repeat' first | ((first | with_reducible apply WB.tt | with_reducible apply WB.ff | refine Rn.seq ?_ | refine Rn.reg ?_ | refine Rn.drw ?_ | refine Rn.blk ?_ | refine Rn.skip ?_ | refine Rn.ret ?_ | refine Rn.exit ?_ | refine Rn.cond rfl ?_ | refine And.intro (InR.i64 (by omega) (by omega)) ?_ | refine And.intro (show _ ≠ (0 : Int) by omega) ?_ | refine WIx.intsN (by omega) ?_ | refine WIx.rowsN (by omega) ?_) <;> conv => whnf)
      refine WCall.of (CallOk.mapAt Hh trivial (id := .o .h) rfl (show 2 < 3 from by decide) (mp_at trivial)) ?_; conv => whnf
      generalize hasB (B5 n coin box (ls.take (j + 1)) []) = bb at *
      repeat' first | ((first | with_reducible apply WB.tt | with_reducible apply WB.ff | refine Rn.seq ?_ | refine Rn.reg ?_ | refine Rn.drw ?_ | refine Rn.blk ?_ | refine Rn.skip ?_ | refine Rn.ret ?_ | refine Rn.exit ?_ | refine Rn.cond rfl ?_ | refine And.intro (InR.i64 (by omega) (by omega)) ?_ | refine And.intro (show _ ≠ (0 : Int) by omega) ?_ | refine WIx.intsN (by omega) ?_ | refine WIx.rowsN (by omega) ?_) <;> conv => whnf)
      cases bb with
      | false =>
        refine WB.tt ?_; conv => whnf
        repeat' first | ((first | with_reducible apply WB.tt | with_reducible apply WB.ff | refine Rn.seq ?_ | refine Rn.reg ?_ | refine Rn.drw ?_ | refine Rn.blk ?_ | refine Rn.skip ?_ | refine Rn.ret ?_ | refine Rn.exit ?_ | refine Rn.cond rfl ?_ | refine And.intro (InR.i64 (by omega) (by omega)) ?_ | refine And.intro (show _ ≠ (0 : Int) by omega) ?_ | refine WIx.intsN (by omega) ?_ | refine WIx.rowsN (by omega) ?_) <;> conv => whnf)
        refine ⟨.inr rfl, _, rfl, ?_⟩
        have : fstN n coin box ls = some j := List.find?_range_eq_some.2 ⟨hw, List.mem_range.2 hlt, fun i hi => by rw [ha i hi]; rfl⟩
        rw [this]
        exact .tp (.cons (.pu trivial) (.cons (.pu trivial) .nil))
      | true =>
        refine WB.ff ?_; conv => whnf
        repeat' first | ((first | with_reducible apply WB.tt | with_reducible apply WB.ff | refine Rn.seq ?_ | refine Rn.reg ?_ | refine Rn.drw ?_ | refine Rn.blk ?_ | refine Rn.skip ?_ | refine Rn.ret ?_ | refine Rn.exit ?_ | refine Rn.cond rfl ?_ | refine And.intro (InR.i64 (by omega) (by omega)) ?_ | refine And.intro (show _ ≠ (0 : Int) by omega) ?_ | refine WIx.intsN (by omega) ?_ | refine WIx.rowsN (by omega) ?_) <;> conv => whnf)
        refine Again.to (j + 1) (by omega) ⟨by omega, fun i hi => ?_⟩ (Nat.le_of_ble_eq_true rfl) ?_
        · by_cases e : i = j
          · subst e; exact hw
          · exact ha i (by omega)
        refine Shr.of ?_ ?_ rfl rfl
        · (repeat' first | exact Rel.e | refine Rel.some ?_ ?_ ?_ | refine Rel.none ?_ ?_ | refine Rel.ee ?_ ?_)
          all_goals show Fz _ _ _ _
          all_goals first | exact .kpt (show _ < 2 by simp [Pos.nat]) | exact .pu trivial | exact .pu (pu_ln _)
        · show Rel _ _ ((.n .e (some (.cells false [.o (.i .i64 n) 0, .o (.i .i64 coin) 0, .o (.i .i64 box) 0, .o (.lst 3 ((rows lnD ls).take (j + 1))) 0, .o .ns 0] 1)) .e) : T C) _
          rw [hrow]
          (repeat' first | exact Rel.e | refine Rel.some ?_ ?_ ?_ | refine Rel.none ?_ ?_ | refine Rel.ee ?_ ?_)
          exact RO'.of (show _ < 2 by simp [Pos.nat]) (ShC.same (ShC.cn (.pu trivial) (ShC.cn (.pu trivial) (ShC.cn (.pu trivial) (ShC.cn (.pu (pu_ln _)) (ShC.cn (.pu trivial) ShC.nl))))))
    · have hje : j = ls.length := by omega
      have : fstN n coin box ls = none := List.find?_range_eq_none.2 fun i hi => by rw [ha i (by omega)]; rfl
      rw [this]
      repeat' first | ((first | with_reducible apply WB.tt | with_reducible apply WB.ff | refine Rn.seq ?_ | refine Rn.reg ?_ | refine Rn.drw ?_ | refine Rn.blk ?_ | refine Rn.skip ?_ | refine Rn.ret ?_ | refine Rn.exit ?_ | refine Rn.cond rfl ?_ | refine And.intro (InR.i64 (by omega) (by omega)) ?_ | refine And.intro (show _ ≠ (0 : Int) by omega) ?_ | refine WIx.intsN (by omega) ?_ | refine WIx.rowsN (by omega) ?_) <;> conv => whnf)
      refine ⟨.inr rfl, _, rfl, ?_⟩
      exact .tp (.cons (.pu trivial) (.cons (.pu trivial) .nil))
  · have hR : fstT n coin box ls cs = (0, faultT n coin box ls cs) := by unfold fstT; rw [if_neg hf]
    rw [hR]
    generalize faultT n coin box ls cs = f at *
    repeat' first | ((first | with_reducible apply WB.tt | with_reducible apply WB.ff | refine Rn.seq ?_ | refine Rn.reg ?_ | refine Rn.drw ?_ | refine Rn.blk ?_ | refine Rn.skip ?_ | refine Rn.ret ?_ | refine Rn.exit ?_ | refine Rn.cond rfl ?_ | refine And.intro (InR.i64 (by omega) (by omega)) ?_ | refine And.intro (show _ ≠ (0 : Int) by omega) ?_ | refine WIx.intsN (by omega) ?_ | refine WIx.rowsN (by omega) ?_ | refine WCall.pure (iC) ?_ | with_reducible refine WB.decT (by first | with_reducible rfl | assumption | omega | exact ⟨rfl, rfl⟩) ?_ | with_reducible refine WB.decF (by first | assumption | omega) ?_ | with_reducible refine WB.ndT (by first | with_reducible rfl | assumption | omega | exact ⟨rfl, rfl⟩) ?_ | with_reducible refine WB.ndF (by first | assumption | omega) ?_ | with_reducible refine WB.nt ?_ | with_reducible refine WB.nf ?_ | with_reducible refine WB.dec (fun h => ?_) (fun h => ?_) | with_reducible refine WB.ndec (fun h => ?_) (fun h => ?_) | refine WB.mk (fun h => ?_) (fun h => ?_)) <;> conv => whnf)
    all_goals first
      | (exfalso; omega)
      | exact ⟨.inr rfl, _, rfl, .tp (.cons (.pu trivial) (.cons (.pu trivial) .nil))⟩
end Go.Ev

namespace Go.Ev
set_option maxRecDepth 100000
theorem binK_and (a b : Int) (f : D → Option X) : binK .and (.i .i64 a) (.i .i64 b) f = wrapK .i64 (iand .i64 a b) f := rfl
theorem ub_le {a : Nat} (h : a < 1024) : Nat.ble a (ubits .i64) = true := Nat.ble_eq_true_of_le (Nat.le_trans (show a ≤ 1023 by omega) (of_decide_eq_true rfl))
theorem WSt.orB {sl : T D} {ob : T C} {nx : Pos} {lg : Option (T Bool)} {K : X → Prop} {d : Pos} {a b : Nat} {x y : RX} (hx : opd sl x = some (.i .i64 (a : Int))) (hy : opd sl y = some (.i .i64 (b : Int))) (ha : a < 1024) (hb : b < 1024) (k : wOut sl ob nx lg d K (.i .i64 ((a ||| b : Nat) : Int))) : WSt (.bin d .or x y) ⟨sl, ob, nx, lg⟩ K := by
  obtain ⟨k2, k3⟩ := wOut_ok k
  refine ⟨_, ?_, k3⟩
  show s_bin d .or x y sl ob nx lg = _
  unfold s_bin
  rw [hx, hy]
  have hs : ior .i64 ((a : Nat) : Int) ((b : Nat) : Int) = ((a ||| b : Nat) : Int) := ibit_nat slowOr (fun _ m n => Nat.lor m n) .i64 a b (ub_le ha) (ub_le hb)
  have hlt : a ||| b < 2 ^ 10 := Nat.or_lt_two_pow (by omega) (by omega)
  show binK .or (.i .i64 ((a : Nat) : Int)) (.i .i64 ((b : Nat) : Int)) _ = _
  rw [binK_or, hs, wrapK_eq]
  have hw : IntKind.i64.wrap ((a ||| b : Nat) : Int) = ((a ||| b : Nat) : Int) := InR.i64 (by omega) (by omega)
  rw [hw]
  exact k2
theorem WSt.andB {sl : T D} {ob : T C} {nx : Pos} {lg : Option (T Bool)} {K : X → Prop} {d : Pos} {a b : Nat} {x y : RX} (hx : opd sl x = some (.i .i64 (a : Int))) (hy : opd sl y = some (.i .i64 (b : Int))) (ha : a < 1024) (hb : b < 1024) (k : wOut sl ob nx lg d K (.i .i64 ((a &&& b : Nat) : Int))) : WSt (.bin d .and x y) ⟨sl, ob, nx, lg⟩ K := by
  obtain ⟨k2, k3⟩ := wOut_ok k
  refine ⟨_, ?_, k3⟩
  show s_bin d .and x y sl ob nx lg = _
  unfold s_bin
  rw [hx, hy]
  have hs : iand .i64 ((a : Nat) : Int) ((b : Nat) : Int) = ((a &&& b : Nat) : Int) := ibit_nat slowAnd (fun _ m n => Nat.land m n) .i64 a b (ub_le ha) (ub_le hb)
  have hlt : a &&& b ≤ a := Nat.and_le_left
  show binK .and (.i .i64 ((a : Nat) : Int)) (.i .i64 ((b : Nat) : Int)) _ = _
  rw [binK_and, hs, wrapK_eq]
  have hw : IntKind.i64.wrap ((a &&& b : Nat) : Int) = ((a &&& b : Nat) : Int) := InR.i64 (by omega) (by omega)
  rw [hw]
  exact k2
end Go.Ev

namespace Go.Ev
open Go.Proofs
set_option maxRecDepth 100000
def bitL (l : Ln) : Nat := 1 * 2 ^ l.c.toNat ||| 16 * 2 ^ l.t.toNat
def seenN (L : List Ln) : Nat → Nat
  | 0 => 0
  | j + 1 => seenN L j ||| bitL (L.getD j default)
def dueN (L : List Ln) : Nat → Int
  | 0 => -1
  | j + 1 => if dueN L j < 0 ∧ seenN L j &&& bitL (L.getD j default) ≠ 0 then (j : Int) else dueN L j
def dupB (L : List Ln) (i : Nat) : Bool := (List.range i).any fun j => decide ((L.getD j default).c = (L.getD i default).c) || decide ((L.getD j default).t = (L.getD i default).t)
def HireL (n : Int) (L : List Ln) : Prop := ∀ x ∈ L, x.k = 1 ∧ (0 ≤ x.c ∧ x.c ≤ n - 1) ∧ (0 ≤ x.t ∧ x.t ≤ n - 1)
theorem HireL.full {n : Int} {L : List Ln} (h : HireL n L) : FullL n L := fun x hx => by
  obtain ⟨h1, h2, h3⟩ := h x hx
  exact ⟨by omega, h2, h3⟩
theorem HireL.take {n : Int} {L : List Ln} (h : HireL n L) (k : Nat) : HireL n (L.take k) := fun x hx => h x (List.mem_of_mem_take hx)
theorem bitL_test (l : Ln) (q : Nat) : (bitL l).testBit q = (decide (l.c.toNat = q) || decide (4 + l.t.toNat = q)) := by
  unfold bitL
  rw [show 16 * 2 ^ l.t.toNat = 2 ^ (4 + l.t.toNat) by rw [Nat.pow_add], Nat.one_mul, Nat.testBit_or, Nat.testBit_two_pow, Nat.testBit_two_pow]
theorem seen_test (L : List Ln) (q : Nat) : ∀ i, (seenN L i).testBit q = true ↔ ∃ j, j < i ∧ (bitL (L.getD j default)).testBit q = true
  | 0 => by
    constructor
    · intro h
      rw [show seenN L 0 = 0 from rfl, Nat.zero_testBit] at h
      cases h
    · rintro ⟨j, h, _⟩; exact absurd h (Nat.not_lt_zero _)
  | i + 1 => by
    have ih := seen_test L q i
    show (seenN L i ||| bitL (L.getD i default)).testBit q = true ↔ _
    rw [Nat.testBit_or, Bool.or_eq_true, ih]
    constructor
    · rintro (⟨j, h1, h2⟩ | h)
      · exact ⟨j, by omega, h2⟩
      · exact ⟨i, by omega, h⟩
    · rintro ⟨j, h1, h2⟩
      by_cases e : j = i
      · subst e; exact .inr h2
      · exact .inl ⟨j, by omega, h2⟩
theorem and_ne {a b : Nat} : a &&& b ≠ 0 ↔ ∃ q, a.testBit q = true ∧ b.testBit q = true := by
  constructor
  · intro h
    refine Classical.byContradiction fun hn => h (Nat.eq_of_testBit_eq fun q => ?_)
    rw [Nat.testBit_and, Nat.zero_testBit]
    cases h1 : a.testBit q with
    | false => rfl
    | true =>
      cases h2 : b.testBit q with
      | false => rfl
      | true => exact absurd ⟨q, h1, h2⟩ hn
  · rintro ⟨q, h1, h2⟩ h
    have : (a &&& b).testBit q = true := by rw [Nat.testBit_and, h1, h2]; rfl
    rw [h, Nat.zero_testBit] at this
    cases this
theorem dup_iff {L : List Ln} {i : Nat} : dupB L i = true ↔ ∃ j, j < i ∧ ((L.getD j default).c = (L.getD i default).c ∨ (L.getD j default).t = (L.getD i default).t) := by
  unfold dupB
  rw [List.any_eq_true]
  constructor
  · rintro ⟨j, h1, h2⟩
    rw [Bool.or_eq_true, decide_eq_true_iff, decide_eq_true_iff] at h2
    exact ⟨j, List.mem_range.1 h1, h2⟩
  · rintro ⟨j, h1, h2⟩
    refine ⟨j, List.mem_range.2 h1, ?_⟩
    rw [Bool.or_eq_true, decide_eq_true_iff, decide_eq_true_iff]
    exact h2
theorem and_dup {n : Int} (hn : n ≤ 4) {L : List Ln} (H : HireL n L) {i : Nat} (hi : i < L.length) : seenN L i &&& bitL (L.getD i default) ≠ 0 ↔ dupB L i = true := by
  have hx := H _ (getD_mem (d := default) hi)
  rw [and_ne, dup_iff]
  constructor
  · rintro ⟨q, h1, h2⟩
    obtain ⟨j, hj, h3⟩ := (seen_test L q i).1 h1
    have hy := H _ (getD_mem (d := default) (show j < L.length by omega))
    rw [bitL_test, Bool.or_eq_true, decide_eq_true_iff, decide_eq_true_iff] at h2 h3
    exact ⟨j, hj, by omega⟩
  · rintro ⟨j, hj, h⟩
    have hy := H _ (getD_mem (d := default) (show j < L.length by omega))
    rcases h with h | h
    · refine ⟨(L.getD i default).c.toNat, (seen_test L _ i).2 ⟨j, hj, ?_⟩, ?_⟩
      · rw [bitL_test, Bool.or_eq_true, decide_eq_true_iff, decide_eq_true_iff]
        exact .inl (by omega)
      · rw [bitL_test, Bool.or_eq_true, decide_eq_true_iff, decide_eq_true_iff]
        exact .inl rfl
    · refine ⟨4 + (L.getD i default).t.toNat, (seen_test L _ i).2 ⟨j, hj, ?_⟩, ?_⟩
      · rw [bitL_test, Bool.or_eq_true, decide_eq_true_iff, decide_eq_true_iff]
        exact .inr (by omega)
      · rw [bitL_test, Bool.or_eq_true, decide_eq_true_iff, decide_eq_true_iff]
        exact .inr rfl
theorem seen_lt {n : Int} (hn : n ≤ 4) {L : List Ln} (H : HireL n L) : ∀ i, i ≤ L.length → seenN L i < 256
  | 0, _ => by show 0 < 256; omega
  | i + 1, h => by
    have ih := seen_lt hn H i (by omega)
    have hx := H _ (getD_mem (d := default) (show i < L.length by omega))
    have h1 : ∀ c : _root_.Fin 4, ∀ t : _root_.Fin 4, 1 * 2 ^ c.1 ||| 16 * 2 ^ t.1 < 256 := by decide
    have h2 : bitL (L.getD i default) < 256 := h1 ⟨(L.getD i default).c.toNat, by omega⟩ ⟨(L.getD i default).t.toNat, by omega⟩
    exact Nat.or_lt_two_pow (n := 8) ih h2
theorem hire_c {T : List Ln} (c : Int) : ∀ i, (∀ j, j < i → (T.getD j default).k = 1) → (0 ≤ cOut T c i ↔ ∃ j, j < i ∧ (T.getD j default).c = c)
  | 0, _ => by
    constructor
    · intro h; exact absurd h (by show ¬ (0 : Int) ≤ -1; omega)
    · rintro ⟨j, h, _⟩; exact absurd h (Nat.not_lt_zero _)
  | i + 1, hk => by
    have ih := hire_c (T := T) c i (fun j hj => hk j (by omega))
    rw [cOut_step, hk i (by omega)]
    by_cases h : (T.getD i default).c = c
    · rw [if_pos h, if_pos rfl]
      exact ⟨fun _ => ⟨i, by omega, h⟩, fun _ => by omega⟩
    · rw [if_neg h, ih]
      constructor
      · rintro ⟨j, h1, h2⟩; exact ⟨j, by omega, h2⟩
      · rintro ⟨j, h1, h2⟩
        refine ⟨j, ?_, h2⟩
        by_cases e : j = i
        · subst e; exact absurd h2 h
        · omega
theorem hire_t {T : List Ln} (c : Int) : ∀ i, (∀ j, j < i → (T.getD j default).k = 1) → (0 ≤ tOut T c i ↔ ∃ j, j < i ∧ (T.getD j default).t = c)
  | 0, _ => by
    constructor
    · intro h; exact absurd h (by show ¬ (0 : Int) ≤ -1; omega)
    · rintro ⟨j, h, _⟩; exact absurd h (Nat.not_lt_zero _)
  | i + 1, hk => by
    have ih := hire_t (T := T) c i (fun j hj => hk j (by omega))
    rw [tOut_step, hk i (by omega)]
    by_cases h : (T.getD i default).t = c
    · rw [if_pos h, if_pos rfl]
      exact ⟨fun _ => ⟨i, by omega, h⟩, fun _ => by omega⟩
    · rw [if_neg h, ih]
      constructor
      · rintro ⟨j, h1, h2⟩; exact ⟨j, by omega, h2⟩
      · rintro ⟨j, h1, h2⟩
        refine ⟨j, ?_, h2⟩
        by_cases e : j = i
        · subst e; exact absurd h2 h
        · omega
theorem hire_pos {n : Int} {T : List Ln} (H : HireL n T) {i : Nat} (hi : i < T.length) : pos1 T i = !dupB T i := by
  have hk : ∀ j, j ≤ i → (T.getD j default).k = 1 := fun j hj => (H _ (getD_mem (d := default) (show j < T.length by omega))).1
  have hc := hire_c (T := T) (T.getD i default).c i (fun j hj => hk j (by omega))
  have ht := hire_t (T := T) (T.getD i default).t i (fun j hj => hk j (by omega))
  unfold pos1
  rw [hk i (Nat.le_refl _), show decide ((1 : Int) = 2) = false from rfl]
  cases hd : dupB T i with
  | true =>
    obtain ⟨j, hj, h⟩ := dup_iff.1 hd
    rcases h with h | h
    · rw [decide_eq_true (hc.2 ⟨j, hj, h⟩)]; rfl
    · rw [decide_eq_true (ht.2 ⟨j, hj, h⟩)]
      cases decide (0 ≤ cOut T (T.getD i default).c i) <;> rfl
  | false =>
    have hn : ¬ ∃ j, j < i ∧ ((T.getD j default).c = (T.getD i default).c ∨ (T.getD j default).t = (T.getD i default).t) := fun h => by
      rw [dup_iff.2 h] at hd; cases hd
    rw [decide_eq_false (fun h => hn (by obtain ⟨j, h1, h2⟩ := hc.1 h; exact ⟨j, h1, .inl h2⟩)), decide_eq_false (fun h => hn (by obtain ⟨j, h1, h2⟩ := ht.1 h; exact ⟨j, h1, .inr h2⟩))]
    rfl
theorem full_fault0 {n : Int} {L : List Ln} (hn : 1 ≤ n ∧ n ≤ 4) (H : FullL n L) (hl : L.length ≤ 8) : faultT n 1 0 L [] = 0 := by
  have hv : vldT n 1 0 L [] = true := by
    unfold vldT
    simp only [Bool.and_eq_true]
    refine ⟨inR_iff.2 hn, rfl, rfl, ?_, rfl⟩
    rw [List.all_eq_true]
    intro x hx
    have := H x hx
    unfold lnOk
    rw [Bool.and_eq_true, Bool.and_eq_true, inR_iff, inR_iff, inR_iff]
    omega
  have hm : manyR n L ≤ 4096 := by
    have h1 := many_prod hn.1 hn.2 L
    have h2 : prodP n L = 1 := full_prod H 1
    omega
  unfold faultT
  rw [if_neg (show ¬ (8 < L.length ∨ 4 < ([] : List Ct).length) from fun h => by
    rcases h with h | h
    · omega
    · exact absurd h (by decide)), if_pos hv, if_neg (by omega)]
theorem full_self {n : Int} {L : List Ln} (H : FullL n L) : readB n L L = true := by
  rw [readB_iff]
  refine ⟨rfl, fun i hi => ?_⟩
  obtain ⟨h1, h2, h3⟩ := H _ (getD_mem (d := default) hi)
  rw [rd1_iff]
  refine ⟨h1, h2, h3, ?_⟩
  unfold agB
  simp
theorem hire_bad {n : Int} (hn : 1 ≤ n ∧ n ≤ 4) {L : List Ln} (H : HireL n L) (hl : L.length ≤ 8) {k : Nat} (hk : k < L.length) : badN n 1 0 L k = true ↔ ∃ i, i ≤ k ∧ dupB L i = true := by
  have H2 := H.take (k + 1)
  have hlen : (L.take (k + 1)).length = k + 1 := by rw [List.length_take]; omega
  have V : VB (B5 n 1 0 (L.take (k + 1)) []) := VB.of (full_fault0 hn H2.full (by omega))
  have hf := full_has V H2.full
  unfold badN
  rw [← hf]
  show (!fitsB n 1 0 (L.take (k + 1)) [] (L.take (k + 1))) = true ↔ _
  unfold fitsB
  rw [full_self H2.full, show cntB 0 1 [] (L.take (k + 1)) = true from rfl, Bool.true_and, Bool.and_true, Bool.not_eq_true']
  have hsame : ∀ i, i ≤ k → dupB (L.take (k + 1)) i = dupB L i := fun i hi => by
    have h1 : ∀ j, j ≤ i → (L.take (k + 1)).getD j default = L.getD j default := fun j hj => SameTo.take L (k + 1) j (by omega)
    rw [Bool.eq_iff_iff, dup_iff, dup_iff]
    constructor
    · rintro ⟨j, h2, h3⟩; exact ⟨j, h2, by rw [h1 j (by omega), h1 i (by omega)] at h3; exact h3⟩
    · rintro ⟨j, h2, h3⟩; exact ⟨j, h2, by rw [h1 j (by omega), h1 i (by omega)]; exact h3⟩
  unfold possB
  rw [List.all_eq_false]
  constructor
  · rintro ⟨i, hi, hp⟩
    have hi : i < k + 1 := by rw [← hlen]; exact List.mem_range.1 hi
    rw [hire_pos H2 (by omega), hsame i (by omega)] at hp
    refine ⟨i, by omega, ?_⟩
    cases h : dupB L i with
    | true => rfl
    | false => rw [h] at hp; exact absurd rfl hp
  · rintro ⟨i, hi, hd⟩
    refine ⟨i, List.mem_range.2 (by omega), ?_⟩
    rw [hire_pos H2 (by omega), hsame i hi, hd]
    decide
theorem due_spec {n : Int} (hn : n ≤ 4) {L : List Ln} (H : HireL n L) : ∀ j, j ≤ L.length → (dueN L j = -1 ∧ ∀ i, i < j → dupB L i = false) ∨ ∃ k : Nat, dueN L j = (k : Int) ∧ k < j ∧ dupB L k = true ∧ ∀ i, i < k → dupB L i = false
  | 0, _ => .inl ⟨rfl, fun i h => absurd h (Nat.not_lt_zero _)⟩
  | j + 1, h => by
    have hd := and_dup hn H (i := j) (by omega)
    have hs : dueN L (j + 1) = if dueN L j < 0 ∧ seenN L j &&& bitL (L.getD j default) ≠ 0 then (j : Int) else dueN L j := rfl
    rcases due_spec hn H j (by omega) with ⟨h1, h2⟩ | ⟨k, h1, h2, h3, h4⟩
    · cases hb : dupB L j with
      | true =>
        rw [if_pos ⟨by omega, hd.2 hb⟩] at hs
        exact .inr ⟨j, hs, by omega, hb, h2⟩
      | false =>
        rw [if_neg (fun h => by have := hd.1 h.2; rw [hb] at this; cases this)] at hs
        refine .inl ⟨by rw [hs, h1], fun i hi => ?_⟩
        by_cases e : i = j
        · subst e; exact hb
        · exact h2 i (by omega)
    · rw [if_neg (fun h => by omega)] at hs
      exact .inr ⟨k, by rw [hs, h1], by omega, h3, h4⟩
theorem twice_fst {n : Int} (hn : 1 ≤ n ∧ n ≤ 4) {L : List Ln} (H : HireL n L) (hl : L.length ≤ 8) : fstT n 1 0 L [] = if dueN L L.length < 0 then (0, 7) else (dueN L L.length, 0) := by
  unfold fstT
  rw [if_pos (full_fault0 hn H.full hl)]
  rcases due_spec hn.2 H L.length (Nat.le_refl _) with ⟨h1, h2⟩ | ⟨k, h1, h2, h3, h4⟩
  · have : fstN n 1 0 L = none := List.find?_range_eq_none.2 fun i hi => by
      cases hb : badN n 1 0 L i with
      | false => rfl
      | true =>
        obtain ⟨q, q1, q2⟩ := (hire_bad hn H hl hi).1 hb
        rw [h2 q (by omega)] at q2; cases q2
    rw [this, h1]; rfl
  · have : fstN n 1 0 L = some k := List.find?_range_eq_some.2 ⟨(hire_bad hn H hl h2).2 ⟨k, Nat.le_refl _, h3⟩, List.mem_range.2 h2, fun i hi => by
      cases hb : badN n 1 0 L i with
      | false => rfl
      | true =>
        obtain ⟨q, q1, q2⟩ := (hire_bad hn H hl (by omega)).1 hb
        rw [h4 q (by omega)] at q2; cases q2⟩
    rw [this, h1, if_neg (by omega)]
end Go.Ev

namespace Go.Ev
open Go.Proofs
set_option maxRecDepth 100000
noncomputable def outQ (n coin box : Int) (d : D) : C := .cells false [.o (.i .i64 n) 0, .o (.i .i64 coin) 0, .o (.i .i64 box) 0, .o d 0, .o .ns 0] 1
theorem outQ_sh {n coin box : Int} {d : D} {B : Pos → Prop} {ob : T C} (h : Fz B ob d d) : ShC B ob (outQ n coin box d) (outQ n coin box d) := ShC.same (ShC.cn (.pu trivial) (ShC.cn (.pu trivial) (ShC.cn (.pu trivial) (ShC.cn h (ShC.cn (.pu trivial) ShC.nl)))))
theorem cvn1 {n coin box : Int} {ls : List Ln} : ∀ γ w, CvL γ γ w [.ag [.i .i64 n, .i .i64 coin, .i .i64 box, .lst 3 (rows lnD ls), .ns]] [.ag [.i .i64 n, .i .i64 coin, .i .i64 box, .lst 3 (rows lnD ls), .lst 3 (rows ctD [])]] := fun γ w => .cons (.ag (.cons (.pu (fun _ h => h) trivial) (.cons (.pu (fun _ h => h) trivial) (.cons (.pu (fun _ h => h) trivial) (.cons (.pu (fun _ h => h) (pu_ln _)) (.cons .ns .nil)))))) .nil
end Go.Ev
