import Derived.Test.YtmlpgfmbhpefmaaEvKs
import Derived.Test.YtmlpgfmbhpefmaaEvKr
import Derived.Test.YtmlpgfmbhpefmaaEvFt
set_option linter.all false
namespace Go.Ev
open Go.Proofs
set_option maxRecDepth 100000
theorem truths_nil {l : List Int} {cs : List Cnt} {wr off : Int} (hl : l.length ≤ 9) : truR l cs wr off = [] ↔ truthsF l cs wr off = [] := by
  rw [truR_eq l cs wr off hl, List.map_eq_nil_iff]
end Go.Ev

namespace Go.Ev
open Go.Proofs
set_option maxRecDepth 100000
def readyB (l : List Int) (cs : List Cnt) (wr off : Int) : Bool := thinB l cs wr off && decide (faultR l cs wr off = 0)
theorem c_ready (l : List Int) (cs : List Cnt) (wr off : Int) : PureF Try.prog p51.ix [.ag [.lst 1 (ints l), .lst 3 (rows cntD cs), .i .i64 wr, .i .i64 off]] (.b (readyB l cs wr off)) := by
  refine PureF.run fn50 (by simp) (by simp [PuL, PuE, Pu, pu_ints, pu_cnts]) ?_; conv => whnf
  repeat' first | ((with_reducible apply WB.tt); conv => whnf) | ((with_reducible apply WB.ff); conv => whnf) | (refine Rn.seq ?_; conv => whnf) | (refine Rn.reg ?_; conv => whnf) | (refine Rn.drw ?_; conv => whnf) | (refine Rn.blk ?_; conv => whnf) | (refine Rn.skip ?_; conv => whnf) | (refine Rn.ret ?_; conv => whnf) | (refine Rn.exit ?_; conv => whnf) | (refine Rn.cond rfl ?_; conv => whnf) | (refine And.intro (InR.i64 (by omega) (by omega)) ?_; conv => whnf) | (refine And.intro (show _ ≠ (0 : Int) by omega) ?_; conv => whnf) | (refine WIx.intsN (by omega) ?_; conv => whnf) | (refine WIx.rowsN (by omega) ?_; conv => whnf) | (refine WCall.pure (c_Thin l cs wr off) ?_; conv => whnf) | (refine WCall.pure (c_Fault l cs wr off) ?_; conv => whnf)
  refine WB.mk (fun h => ?_) (fun h => ?_) <;> conv => whnf
  · repeat' first | ((with_reducible apply WB.tt); conv => whnf) | ((with_reducible apply WB.ff); conv => whnf) | (refine Rn.seq ?_; conv => whnf) | (refine Rn.reg ?_; conv => whnf) | (refine Rn.drw ?_; conv => whnf) | (refine Rn.blk ?_; conv => whnf) | (refine Rn.skip ?_; conv => whnf) | (refine Rn.ret ?_; conv => whnf) | (refine Rn.exit ?_; conv => whnf) | (refine Rn.cond rfl ?_; conv => whnf) | (refine And.intro (InR.i64 (by omega) (by omega)) ?_; conv => whnf) | (refine And.intro (show _ ≠ (0 : Int) by omega) ?_; conv => whnf) | (refine WIx.intsN (by omega) ?_; conv => whnf) | (refine WIx.rowsN (by omega) ?_; conv => whnf) | (refine WCall.pure (c_Thin l cs wr off) ?_; conv => whnf) | (refine WCall.pure (c_Fault l cs wr off) ?_; conv => whnf)
    exact Fin.b rfl (by unfold readyB; rw [h]; rfl)
  · repeat' first | ((with_reducible apply WB.tt); conv => whnf) | ((with_reducible apply WB.ff); conv => whnf) | (refine Rn.seq ?_; conv => whnf) | (refine Rn.reg ?_; conv => whnf) | (refine Rn.drw ?_; conv => whnf) | (refine Rn.blk ?_; conv => whnf) | (refine Rn.skip ?_; conv => whnf) | (refine Rn.ret ?_; conv => whnf) | (refine Rn.exit ?_; conv => whnf) | (refine Rn.cond rfl ?_; conv => whnf) | (refine And.intro (InR.i64 (by omega) (by omega)) ?_; conv => whnf) | (refine And.intro (show _ ≠ (0 : Int) by omega) ?_; conv => whnf) | (refine WIx.intsN (by omega) ?_; conv => whnf) | (refine WIx.rowsN (by omega) ?_; conv => whnf)
    exact Fin.b rfl (by unfold readyB; rw [h]; rfl)
theorem ready_spec {l : List Int} {cs : List Cnt} {wr off : Int} (h : readyB l cs wr off = true) : thinB l cs wr off = true ∧ faultR l cs wr off = 0 := by
  unfold readyB at h
  rw [Bool.and_eq_true, decide_eq_true_iff] at h
  exact h
def pA (n : Nat) (a b : Int) : Int := min (a.tmod n) (b.tmod n)
def pB (n : Nat) (a b : Int) : Int := max (a.tmod n) (b.tmod n)
theorem parted_spec {n : Nat} {a b : Int} (hn : 0 < n) (ha : 0 ≤ a) (hb : 0 ≤ b) : 0 ≤ pA n a b ∧ pA n a b ≤ pB n a b ∧ pB n a b < n := by
  have h1 := Int.tmod_nonneg (n : Int) ha
  have h2 := Int.tmod_nonneg (n : Int) hb
  have h3 := Int.tmod_lt_of_pos a (show (0 : Int) < n by omega)
  have h4 := Int.tmod_lt_of_pos b (show (0 : Int) < n by omega)
  unfold pA pB
  omega
theorem c_parted (l : List Int) (cs : List Cnt) (wr off a b : Int) (h0 : 0 < l.length) (hl : l.length ≤ 1000) (ha : 0 ≤ a ∧ a ≤ 255) (hb : 0 ≤ b ∧ b ≤ 255) : PureF Try.prog p53.ix [.ag [.lst 1 (ints l), .lst 3 (rows cntD cs), .i .i64 wr, .i .i64 off], .i .u8 a, .i .u8 b] (.tp [.i .i64 (pA l.length a b), .i .i64 (pB l.length a b)]) := by
  have e1 := ints_length l
  refine PureF.run fn52 (by simp) (by simp [PuL, PuE, Pu, pu_ints, pu_cnts]) ?_; conv => whnf
  repeat' first | ((with_reducible apply WB.tt); conv => whnf) | ((with_reducible apply WB.ff); conv => whnf) | (refine Rn.seq ?_; conv => whnf) | (refine Rn.reg ?_; conv => whnf) | (refine Rn.drw ?_; conv => whnf) | (refine Rn.blk ?_; conv => whnf) | (refine Rn.skip ?_; conv => whnf) | (refine Rn.ret ?_; conv => whnf) | (refine Rn.exit ?_; conv => whnf) | (refine Rn.cond rfl ?_; conv => whnf) | (refine And.intro (InR.i64 (by omega) (by omega)) ?_; conv => whnf) | (refine And.intro (show _ ≠ (0 : Int) by omega) ?_; conv => whnf) | (refine WIx.intsN (by omega) ?_; conv => whnf) | (refine WIx.rowsN (by omega) ?_; conv => whnf)
  unfold pA pB
  rw [← e1]
  exact Fin.two (.inr rfl) rfl rfl (.pu trivial) (.pu trivial)
theorem foldmin_le : ∀ (L : List Int) (a : Int), L.foldl min a ≤ a ∧ ∀ x ∈ L, L.foldl min a ≤ x
  | [], a => ⟨Int.le_refl _, fun x h => by cases h⟩
  | b :: L, a => by
    obtain ⟨h1, h2⟩ := foldmin_le L (min a b)
    refine ⟨by show List.foldl min (min a b) L ≤ a; omega, fun x hx => ?_⟩
    show List.foldl min (min a b) L ≤ x
    rcases List.mem_cons.1 hx with rfl | hx
    · omega
    · exact h2 x hx
theorem foldmax_le : ∀ (L : List Int) (a : Int), a ≤ L.foldl max a ∧ ∀ x ∈ L, x ≤ L.foldl max a
  | [], a => ⟨Int.le_refl _, fun x h => by cases h⟩
  | b :: L, a => by
    obtain ⟨h1, h2⟩ := foldmax_le L (max a b)
    refine ⟨by show a ≤ List.foldl max (max a b) L; omega, fun x hx => ?_⟩
    show x ≤ List.foldl max (max a b) L
    rcases List.mem_cons.1 hx with rfl | hx
    · omega
    · exact h2 x hx
theorem bnd_spec {R : List (List Int)} {f t : Int} (hne : R ≠ []) (hb : ∀ x ∈ R, 0 ≤ sumT f t x ∧ sumT f t x ≤ 9) :
    (∀ x ∈ R, loR f t R ≤ sumT f t x ∧ sumT f t x ≤ hiR f t R) ∧ (∃ x ∈ R, sumT f t x = loR f t R) ∧ (∃ x ∈ R, sumT f t x = hiR f t R) := by
  have e1 : loR f t R = (R.map (sumT f t)).foldl min 1099511627776 := by rw [List.foldl_map]; rfl
  have e2 : hiR f t R = (R.map (sumT f t)).foldl max (-1) := by rw [List.foldl_map]; rfl
  have h1 : ∀ x ∈ R, loR f t R ≤ sumT f t x ∧ sumT f t x ≤ hiR f t R := fun x hx => by
    rw [e1, e2]
    exact ⟨(foldmin_le _ _).2 _ (List.mem_map.2 ⟨x, hx, rfl⟩), (foldmax_le _ _).2 _ (List.mem_map.2 ⟨x, hx, rfl⟩)⟩
  obtain ⟨y, hy⟩ := List.exists_mem_of_ne_nil _ hne
  refine ⟨h1, ?_, ?_⟩
  · rcases foldmin_mem (L := R.map (sumT f t)) (a := 1099511627776) with h | h
    · have := (h1 y hy).1; have := (hb y hy).2; omega
    · obtain ⟨x, hx, he⟩ := List.mem_map.1 h
      exact ⟨x, hx, by rw [he, e1]⟩
  · rcases foldmax_mem (L := R.map (sumT f t)) (a := -1) with h | h
    · have := (h1 y hy).2; have := (hb y hy).1; omega
    · obtain ⟨x, hx, he⟩ := List.mem_map.1 h
      exact ⟨x, hx, by rw [he, e2]⟩
section
variable {l : List Int} {cs : List Cnt} {wr off f t : Int}
theorem startE_in (hF : faultR l cs wr off = 0) (h0 : 0 ≤ f) (h1 : f ≤ t) (h2 : t < l.length) : startE l cs wr off f t = if truR l cs wr off = [] then 11 else 0 := by
  obtain ⟨f1, f2, f3, f4⟩ := fault0 hF
  unfold startE
  rw [if_pos hF, if_pos (by unfold inB; rw [decide_eq_true (by omega), decide_eq_true h2]; rfl)]
  simp only [truths_nil f2]
theorem sum_bd (hF : faultR l cs wr off = 0) (h0 : 0 ≤ f) (h1 : f ≤ t + 1) (h2 : t < l.length) : ∀ x ∈ truR l cs wr off, 0 ≤ sumT f t x ∧ sumT f t x ≤ 9 := fun x hx => by
  obtain ⟨f1, f2, f3, f4⟩ := fault0 hF
  obtain ⟨q1, q2⟩ := truR_mem x hx
  have := sumP_bd q2 f.toNat (t + 1 - f).toNat (by omega)
  unfold sumT
  omega
end
theorem c_Chairs11 (l : List Int) (cs : List Cnt) (wr off f t : Int) (hF : faultR l cs wr off = 0) (h0 : 0 ≤ f) (h1 : f ≤ t) (h2 : t < l.length) (hT : truR l cs wr off = []) : PureF Try.prog p30.ix [.ag [.lst 1 (ints l), .lst 3 (rows cntD cs), .i .i64 wr, .i .i64 off], .i .i64 f, .i .i64 t] (.tp [.ag [.i .i64 0, .i .i64 0], .i .i64 11]) := by
  have cC := c_Chairs l cs wr off f t
  unfold chLo chHi at cC
  rwa [startE_in hF h0 h1 h2, if_pos hT, if_neg (by omega), if_neg (by omega)] at cC
theorem c_Chairs0 (l : List Int) (cs : List Cnt) (wr off f t : Int) (hF : faultR l cs wr off = 0) (h0 : 0 ≤ f) (h1 : f ≤ t) (h2 : t < l.length) (hT : ¬ truR l cs wr off = []) : PureF Try.prog p30.ix [.ag [.lst 1 (ints l), .lst 3 (rows cntD cs), .i .i64 wr, .i .i64 off], .i .i64 f, .i .i64 t] (.tp [.ag [.i .i64 (loR f t (truR l cs wr off)), .i .i64 (hiR f t (truR l cs wr off))], .i .i64 0]) := by
  have cC := c_Chairs l cs wr off f t
  have hE : startE l cs wr off f t = 0 := by rw [startE_in hF h0 h1 h2, if_neg hT]
  obtain ⟨q1, q2⟩ := ch_ref l cs wr off f t hE
  rwa [q1, q2, hE] at cC
theorem any_take_succ {α : Type} {l : List α} {p : α → Bool} {i : Nat} {d : α} (h : i < l.length) : (l.take (i + 1)).any p = ((l.take i).any p || p (l.getD i d)) := by
  rw [take_succ_getD (d := d) h, List.any_append]
  simp
end Go.Ev
