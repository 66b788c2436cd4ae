import Derived.Test.YtmlpgfmbhpefmaaEvKt
set_option linter.all false
namespace Go.Ev
open Go.Proofs
set_option maxRecDepth 100000
theorem c_whole (l : List Int) (cs : List Cnt) (wr off : Int) (hl : l.length ≤ 65536) : PureF Try.prog p79.ix [.ag [.lst 1 (ints l), .lst 3 (rows cntD cs), .i .i64 wr, .i .i64 off]] (.ag [.i .i64 0, .i .i64 ((l.length : Int) - 1)]) := by
  have e1 := ints_length l
  refine PureF.run fn78 (by simp) (by simp [PuL, PuE, Pu, pu_ints, pu_cnts]) ?_; conv => whnf
  repeat' first | ((with_reducible apply WB.tt); conv => whnf) | ((with_reducible apply WB.ff); conv => whnf) | (refine Rn.seq ?_; conv => whnf) | (refine Rn.reg ?_; conv => whnf) | (refine Rn.drw ?_; conv => whnf) | (refine Rn.blk ?_; conv => whnf) | (refine Rn.skip ?_; conv => whnf) | (refine Rn.ret ?_; conv => whnf) | (refine Rn.exit ?_; conv => whnf) | (refine Rn.cond rfl ?_; conv => whnf) | (refine And.intro (InR.i64 (by omega) (by omega)) ?_; conv => whnf) | (refine And.intro (show _ ≠ (0 : Int) by omega) ?_; conv => whnf) | (refine WIx.intsN (by omega) ?_; conv => whnf) | (refine WIx.rowsN (by omega) ?_; conv => whnf)
  rw [← e1]
  exact ⟨.inr rfl, _, rfl, .pu (by simp [Pu, PuL, one])⟩
end Go.Ev

namespace Go.Ev
open Go.Proofs
set_option maxRecDepth 100000
theorem sum_take_succ {α : Type} {l : List α} {h : α → Int} {j : Nat} {d : α} (hj : j < l.length) : ((l.take (j + 1)).map h).sum = ((l.take j).map h).sum + h (l.getD j d) := by
  rw [take_succ_getD (d := d) hj, List.map_append, List.sum_append]
  simp
theorem bits_sum : ∀ (L : List Int), Bits L → 0 ≤ L.sum ∧ L.sum ≤ L.length ∧ (L.sum = L.length ↔ ∀ x ∈ L, x = 1) ∧ (L.sum = 0 ↔ ∀ x ∈ L, x = 0)
  | [], _ => by simp
  | a :: L, h => by
    obtain ⟨h1, h2, h3, h4⟩ := bits_sum L fun x hx => h x (by simp [hx])
    have ha := h a (by simp)
    rw [List.sum_cons, List.length_cons]
    push_cast
    refine ⟨by omega, by omega, ⟨fun e x hx => ?_, fun e => ?_⟩, ⟨fun e x hx => ?_, fun e => ?_⟩⟩
    · rcases List.mem_cons.1 hx with rfl | hx
      · omega
      · exact h3.1 (by omega) x hx
    · have := h3.2 fun x hx => e x (by simp [hx])
      have := e a (by simp)
      omega
    · rcases List.mem_cons.1 hx with rfl | hx
      · omega
      · exact h4.1 (by omega) x hx
    · have := h4.2 fun x hx => e x (by simp [hx])
      have := e a (by simp)
      omega
theorem startE_whole (l : List Int) (cs : List Cnt) (wr off : Int) : startE l cs wr off 0 ((l.length : Int) - 1) = sureE l cs wr off := by
  by_cases hF : faultR l cs wr off = 0
  · obtain ⟨f1, f2, f3, f4⟩ := fault0 hF
    rw [startE_in hF (by omega) (by omega) (by omega)]
    unfold sureE
    rw [if_pos hF]
  · unfold startE sureE
    rw [if_neg hF, if_neg hF]
theorem sureE0 {l : List Int} {cs : List Cnt} {wr off : Int} (h : sureE l cs wr off = 0) : faultR l cs wr off = 0 ∧ truR l cs wr off ≠ [] := by
  unfold sureE at h
  split at h
  · rename_i hF
    split at h
    · cases h
    · rename_i h0
      exact ⟨hF, h0⟩
  · rename_i hF; exact absurd h hF
theorem chG_at (i : Nat) (hi : i < 9) (c : Nat → Int) : chG (i : Int) (i : Int) c = c i := by
  unfold chG sumP
  rw [show ((i : Int) + 1 - i).toNat = 1 by omega, Int.toNat_natCast]
  rcases nine hi with rfl | rfl | rfl | rfl | rfl | rfl | rfl | rfl | rfl <;> simp [lst9]
theorem take_at {n i : Nat} (hn : n ≤ 9) (hi : i < n) (c : Nat → Int) : ((lst9 c).take n).getD i 0 = c i := by
  rw [List.getD_eq_getElem?_getD, List.getElem?_take_of_lt hi]
  rcases nine (show i < 9 by omega) with rfl | rfl | rfl | rfl | rfl | rfl | rfl | rfl | rfl <;> simp [lst9]
end Go.Ev
