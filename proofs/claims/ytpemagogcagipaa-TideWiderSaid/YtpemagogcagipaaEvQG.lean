import Derived.Test.YtpemagogcagipaaEvQF
import Derived.Test.YtpemagogcagipaaEvMN
import Derived.Test.YtpemagogcagipaaEvMQ
set_option linter.all false
namespace Go.Ev
open Go.Proofs
set_option maxRecDepth 100000
def pickR (ms : List Mk) (w : Nat) : List Mk := ((List.range ms.length).filter fun k => w.testBit k).map fun k => ms.getD k default
theorem pickR_all {ms : List Mk} {w : Nat} {p : Mk → Bool} : (pickR ms w).all p = true ↔ ∀ k, k < ms.length → w.testBit k = true → p (ms.getD k default) = true := by
  unfold pickR
  rw [List.all_eq_true]
  constructor
  · intro h k hk hc
    exact h _ (List.mem_map.2 ⟨k, List.mem_filter.2 ⟨List.mem_range.2 hk, hc⟩, rfl⟩)
  · intro h m hm
    obtain ⟨k, hk, rfl⟩ := List.mem_map.1 hm
    obtain ⟨h1, h2⟩ := List.mem_filter.1 hk
    exact h k (List.mem_range.1 h1) h2
theorem pickR_mem {ms : List Mk} {w : Nat} {x : Mk} (h : x ∈ pickR ms w) : x ∈ ms := by
  unfold pickR at h
  obtain ⟨k, hk, rfl⟩ := List.mem_map.1 h
  exact getD_mem (List.mem_range.1 (List.mem_filter.1 hk).1)
theorem can_pick {last : Int} {hs : List Rg} {step : Int} {lv : List Int} {ms : List Mk} (V : ValidT last hs step lv ms) (hm : manyR hs ≤ 2000) {w : Nat} (hw : w < 2 ^ ms.length) : canB (allR hs step ms) w = (exS hs step hs.length 0 zeroS).any fun c => fitsR c (pickR ms w) := by
  unfold allR
  rw [canB_any, any_lists V.hv hm]
  rw [Bool.eq_iff_iff, List.any_eq_true, List.any_eq_true]
  have key : ∀ t, t ∈ listsR hs step → (decide (markN ms t ms.length &&& w = w) = true ↔ fitsR (wantS t) (pickR ms w) = true) := fun t ht => by
    have hl := listed_lenZ ((mem_listsR V.hv hm).1 ht)
    have h10 := V.h10
    rw [decide_eq_true_iff, and_word hw, fits_right (by omega) fun m hmm => by have := V.vt m (pickR_mem hmm); omega]
    rw [pickR_all]
    constructor
    · intro h k hk hc
      have h2 := h k hk hc
      unfold markN at h2
      rw [bitsN_test, Bool.and_eq_true] at h2
      exact h2.2
    · intro h k hk hw
      unfold markN
      rw [bitsN_test, h k hk hw, decide_eq_true hk]
      rfl
  constructor
  · rintro ⟨t, ht, h⟩
    exact ⟨t, ht, (key t ht).1 h⟩
  · rintro ⟨t, ht, h⟩
    exact ⟨t, ht, (key t ht).2 h⟩
theorem all_take {α : Type} [Inhabited α] {l : List α} {n : Nat} {p : α → Bool} : (l.take n).all p = true ↔ ∀ k, k < n → k < l.length → p (l.getD k default) = true := by
  rw [List.all_eq_true]
  constructor
  · intro h k h1 h2
    refine h _ ?_
    rw [List.mem_iff_getElem]
    exact ⟨k, by rw [List.length_take]; omega, by simp [List.getD, h2]⟩
  · intro h x hx
    obtain ⟨k, hk, rfl⟩ := List.mem_iff_getElem.1 hx
    rw [List.length_take] at hk
    have := h k (by omega) (by omega)
    simpa [List.getD, show k < l.length by omega] using this
theorem pick_low (ms : List Mk) (n : Nat) (p : Mk → Bool) : (pickR ms (2 ^ n - 1)).all p = (ms.take n).all p := by
  rw [Bool.eq_iff_iff, pickR_all, all_take]
  constructor
  · intro h k h1 h2
    exact h k h2 (by rw [Nat.testBit_two_pow_sub_one, decide_eq_true h1])
  · intro h k h1 h2
    rw [Nat.testBit_two_pow_sub_one, decide_eq_true_iff] at h2
    exact h k h2 h1
end Go.Ev

namespace Go.Ev
open Go.Proofs
set_option maxRecDepth 100000
end Go.Ev

namespace Go.Ev
open Go.Proofs
set_option maxRecDepth 100000
theorem truth_any {hs : List Rg} {step : Int} {ms : List Mk} : truthS hs step ms = [] ↔ (exS hs step hs.length 0 zeroS).any (fun c => fitsR c ms) = false := by
  unfold truthS
  rw [List.filter_eq_nil_iff, List.any_eq_false]
theorem lev_spec {A : List Nat} {m : Nat} (h0 : canB A 0 = true) : ∃ b0, b0 < 2 ^ m ∧ levR A m = bitL b0 ∧ canB A (2 ^ m - 1 - b0) = true ∧ ∀ b, b < 2 ^ m → canB A (2 ^ m - 1 - b) = true → shoR (bitL b) (levR A m) = false := by
  have hp := Nat.one_le_two_pow (n := m)
  have inv : ∀ n, n ≤ 2 ^ m → ∃ b0, b0 < 2 ^ m ∧ levJ A m n = bitL b0 ∧ canB A (2 ^ m - 1 - b0) = true ∧ ∀ b, b < n → canB A (2 ^ m - 1 - b) = true → shoR (bitL b) (levJ A m n) = false := fun n => by
    induction n with
    | zero => exact fun _ => ⟨2 ^ m - 1, by omega, rfl, by rw [Nat.sub_self]; exact h0, fun b hb => absurd hb (Nat.not_lt_zero _)⟩
    | succ n ih =>
      intro hn
      obtain ⟨b0, k1, k2, k3, k4⟩ := ih (by omega)
      rw [levJ_succ]
      unfold levF
      by_cases hc : (shoR (bitL n) (levJ A m n) && canB A (2 ^ m - 1 - n)) = true
      · rw [if_pos hc]
        rw [Bool.and_eq_true] at hc
        refine ⟨n, by omega, rfl, hc.2, fun b hb hcb => ?_⟩
        by_cases e : b = n
        · subst e; exact shoR_irr _
        · cases hs : shoR (bitL b) (bitL n) with
          | false => rfl
          | true =>
            have := k4 b (by omega) hcb
            rw [shoR_trans hs hc.1] at this
            cases this
      · rw [if_neg hc]
        refine ⟨b0, k1, k2, k3, fun b hb hcb => ?_⟩
        by_cases e : b = n
        · subst e
          cases hs : shoR (bitL b) (levJ A m b) with
          | false => rfl
          | true => exact absurd (by rw [hs, hcb]; rfl) hc
        · exact k4 b (by omega) hcb
  exact inv (2 ^ m) (Nat.le_refl _)
def chkL (m : Nat) (L : List Int) (i : Nat) : Bool := decide (0 ≤ L.getD i 0) && decide (L.getD i 0 < (m : Int)) && (decide (i = 0) || decide (L.getD (i - 1) 0 < L.getD i 0)) && decide (wordOf (L.take i) < 32)
theorem chk_all : ∀ m : _root_.Fin 6, ∀ b : _root_.Fin 32, b.val < 2 ^ m.val → ((List.range (bitL b.val).length).all (chkL m.val (bitL b.val)) && (wordOf (bitL b.val) == b.val)) = true := by decide +kernel
theorem can_zero {last : Int} {hs : List Rg} {step : Int} {lv : List Int} {ms : List Mk} (hf : faultR last hs step lv ms = 0) : canB (allR hs step ms) 0 = true := by
  obtain ⟨V, hm, hA⟩ := fault_zero hf
  obtain ⟨t, ht1, ht2⟩ := List.any_eq_true.1 hA
  have ht : t ∈ listsR hs step := List.mem_filter.2 ⟨ht1, ht2⟩
  unfold canB
  rw [List.any_eq_true]
  exact ⟨0, List.mem_range.2 (by unfold allR; rw [List.length_map]; exact List.length_pos_of_mem ht), by simp⟩
def insA (A B : List Rg) (i : Nat) : Bool := decide ((B.getD i default).lo ≤ (A.getD i default).lo) && decide ((A.getD i default).hi ≤ (B.getD i default).hi)
def insB (A B : List Rg) : Bool := decide (A.length = B.length) && (List.range A.length).all (insA A B)
theorem c_inside (A B : List Rg) (hl : A.length ≤ 1000) : PureF Try.prog p58.ix [.lst 2 (rows rgD A), .lst 2 (rows rgD B)] (.b (insB A B)) := by
  have e1 := rows_length rgD A
  have e2 := rows_length rgD B
  refine PureF.run fn57 (by simp) (by simp [PuL, PuE, Pu, pu_rg]) ?_; conv => whnf
  by_cases hlen : A.length = B.length
  · repeat' first | ((first | (with_reducible first | apply WB.tt | apply WB.ff) | apply Rn.seq | apply Rn.reg | apply Rn.drw | apply Rn.blk | apply Rn.skip | apply Rn.ret | apply Rn.exit | apply Rn.cond rfl | refine i64_ (by omega) (by omega) ?_ | refine ne0_ (by omega) ?_ | refine WIx.intsN (by omega) ?_ | refine WIx.rowsN (by omega) ?_ | refine WCall.pure (e1) ?_ | (with_reducible first | refine WB.decT (by first | rfl | assumption | omega | exact ⟨rfl, rfl⟩) ?_ | refine WB.decF (by first | assumption | omega) ?_ | refine WB.ndT (by first | rfl | assumption | omega | exact ⟨rfl, rfl⟩) ?_ | refine WB.ndF (by first | assumption | omega) ?_ | apply WB.nt | apply WB.nf | refine WB.dec (fun h => ?_) (fun h => ?_) | refine WB.ndec (fun h => ?_) (fun h => ?_)) | refine WB.mk (fun h => ?_) (fun h => ?_)) <;> conv => whnf) | (refine WB.tt ?_; conv => whnf) | (refine WB.ff ?_; conv => whnf)
    refine Rn.loop (fun j : Nat => ⟨(.n (.n .e (some (.lst 2 (rows rgD B))) (.n .e (some (.i .i64 (j : Int))) .e)) (some (.lst 2 (rows rgD A))) .e), .e, .h, none⟩) (fun j => j ≤ A.length ∧ (List.range j).all (insA A B) = true) (fun j => A.length - j) 0 ?_ ?_ ?_
    · (first | (refine X.le.mk ?_ ?_ (Nat.le_refl _) rfl rfl) | skip) <;> (repeat' first | exact T.le_e _ | refine T.le_some ?_ ?_ ?_ | refine T.le_none ?_ ?_ | rfl)
    · exact ⟨by omega, by simp⟩
    rintro j ⟨hj, ha⟩
    have hj : j ≤ A.length := hj
    have ha : (List.range j).all (insA A B) = true := ha
    conv => whnf
    repeat' first | ((first | (with_reducible first | apply WB.tt | apply WB.ff) | apply Rn.seq | apply Rn.reg | apply Rn.drw | apply Rn.blk | apply Rn.skip | apply Rn.ret | apply Rn.exit | apply Rn.cond rfl | refine i64_ (by omega) (by omega) ?_ | refine ne0_ (by omega) ?_ | refine WIx.intsN (by omega) ?_ | refine WIx.rowsN (by omega) ?_) <;> conv => whnf)
    refine WB.dec (fun h => ?_) (fun h => ?_) <;> conv => whnf
    · have hlt : j < A.length := by omega
      have hltb : j < B.length := by omega
      by_cases q1 : (B.getD j default).lo ≤ (A.getD j default).lo
      · by_cases q2 : (A.getD j default).hi ≤ (B.getD j default).hi
        · repeat' first | ((first | (with_reducible first | apply WB.tt | apply WB.ff) | apply Rn.seq | apply Rn.reg | apply Rn.drw | apply Rn.blk | apply Rn.skip | apply Rn.ret | apply Rn.exit | apply Rn.cond rfl | refine i64_ (by omega) (by omega) ?_ | refine ne0_ (by omega) ?_ | refine WIx.intsN (by omega) ?_ | refine WIx.rowsN (by omega) ?_ | refine WCall.pure (e1) ?_ | (with_reducible first | refine WB.decT (by first | rfl | assumption | omega | exact ⟨rfl, rfl⟩) ?_ | refine WB.decF (by first | assumption | omega) ?_ | refine WB.ndT (by first | rfl | assumption | omega | exact ⟨rfl, rfl⟩) ?_ | refine WB.ndF (by first | assumption | omega) ?_ | apply WB.nt | apply WB.nf | refine WB.dec (fun h => ?_) (fun h => ?_) | refine WB.ndec (fun h => ?_) (fun h => ?_)) | refine WB.mk (fun h => ?_) (fun h => ?_)) <;> conv => whnf) | (refine WB.tt ?_; conv => whnf) | (refine WB.ff ?_; conv => whnf)
          refine Again.to (j + 1) (by omega) ⟨by omega, range_succ_all ha (by unfold insA; rw [decide_eq_true q1, decide_eq_true q2]; rfl)⟩ (Nat.le_refl _) ?_
          (refine Shr.of ?_ ?_ rfl rfl) <;> (repeat' first | exact Rel.e | refine Rel.some ?_ ?_ ?_ | refine Rel.none ?_ ?_) <;> (try first | (show Fz _ _ _ _; first | exact Fz.pu trivial | (refine Fz.i ?_; first | rfl | omega) | (refine Fz.kpt ?_; (focus (show Pos.nat _ < Pos.nat _; simp [Pos.nat]; done))) | (refine Fz.ksl ?_; (focus (show Pos.nat _ < Pos.nat _; simp [Pos.nat]; done))) | (refine Fz.kmp ?_; (focus (show Pos.nat _ < Pos.nat _; simp [Pos.nat]; done))) | (refine Fz.pu ?_; simp [Cell.d, Pu, PuL, PuE, pu_ints, pu_rg, pu_mk, pu_seas, pu_tR]; done) | (refine Fz.pu ?_; simp only [Cell.d]; assumption)) | (refine RO'.of ?_ (ShC.same ?_); (focus (show Pos.nat _ < Pos.nat _; simp [Pos.nat]; done)); (repeat' first | exact ShC.nl | refine ShC.cn ?_ ?_) <;> first | exact Fz.pu trivial | (refine Fz.i ?_; first | rfl | omega) | (refine Fz.kpt ?_; (focus (show Pos.nat _ < Pos.nat _; simp [Pos.nat]; done))) | (refine Fz.ksl ?_; (focus (show Pos.nat _ < Pos.nat _; simp [Pos.nat]; done))) | (refine Fz.kmp ?_; (focus (show Pos.nat _ < Pos.nat _; simp [Pos.nat]; done))) | (refine Fz.pu ?_; simp [Cell.d, Pu, PuL, PuE, pu_ints, pu_rg, pu_mk, pu_seas, pu_tR]; done) | (refine Fz.pu ?_; simp only [Cell.d]; assumption)))
          all_goals first | (refine Fz.i ?_; omega) | (refine Fz.pu ?_; simp [Pu, pu_rg])
        · have hn : insA A B j = false := by unfold insA; rw [decide_eq_false q2, Bool.and_false]
          repeat' first | ((first | (with_reducible first | apply WB.tt | apply WB.ff) | apply Rn.seq | apply Rn.reg | apply Rn.drw | apply Rn.blk | apply Rn.skip | apply Rn.ret | apply Rn.exit | apply Rn.cond rfl | refine i64_ (by omega) (by omega) ?_ | refine ne0_ (by omega) ?_ | refine WIx.intsN (by omega) ?_ | refine WIx.rowsN (by omega) ?_ | refine WCall.pure (e1) ?_ | (with_reducible first | refine WB.decT (by first | rfl | assumption | omega | exact ⟨rfl, rfl⟩) ?_ | refine WB.decF (by first | assumption | omega) ?_ | refine WB.ndT (by first | rfl | assumption | omega | exact ⟨rfl, rfl⟩) ?_ | refine WB.ndF (by first | assumption | omega) ?_ | apply WB.nt | apply WB.nf | refine WB.dec (fun h => ?_) (fun h => ?_) | refine WB.ndec (fun h => ?_) (fun h => ?_)) | refine WB.mk (fun h => ?_) (fun h => ?_)) <;> conv => whnf) | (refine WB.tt ?_; conv => whnf) | (refine WB.ff ?_; conv => whnf)
          refine Fin.b rfl ?_
          unfold insB
          rw [range_all_false hlt hn, Bool.and_false]
      · have hn : insA A B j = false := by unfold insA; rw [decide_eq_false q1, Bool.false_and]
        repeat' first | ((first | (with_reducible first | apply WB.tt | apply WB.ff) | apply Rn.seq | apply Rn.reg | apply Rn.drw | apply Rn.blk | apply Rn.skip | apply Rn.ret | apply Rn.exit | apply Rn.cond rfl | refine i64_ (by omega) (by omega) ?_ | refine ne0_ (by omega) ?_ | refine WIx.intsN (by omega) ?_ | refine WIx.rowsN (by omega) ?_ | refine WCall.pure (e1) ?_ | (with_reducible first | refine WB.decT (by first | rfl | assumption | omega | exact ⟨rfl, rfl⟩) ?_ | refine WB.decF (by first | assumption | omega) ?_ | refine WB.ndT (by first | rfl | assumption | omega | exact ⟨rfl, rfl⟩) ?_ | refine WB.ndF (by first | assumption | omega) ?_ | apply WB.nt | apply WB.nf | refine WB.dec (fun h => ?_) (fun h => ?_) | refine WB.ndec (fun h => ?_) (fun h => ?_)) | refine WB.mk (fun h => ?_) (fun h => ?_)) <;> conv => whnf) | (refine WB.tt ?_; conv => whnf) | (refine WB.ff ?_; conv => whnf)
        refine Fin.b rfl ?_
        unfold insB
        rw [range_all_false hlt hn, Bool.and_false]
    · repeat' first | ((first | (with_reducible first | apply WB.tt | apply WB.ff) | apply Rn.seq | apply Rn.reg | apply Rn.drw | apply Rn.blk | apply Rn.skip | apply Rn.ret | apply Rn.exit | apply Rn.cond rfl | refine i64_ (by omega) (by omega) ?_ | refine ne0_ (by omega) ?_ | refine WIx.intsN (by omega) ?_ | refine WIx.rowsN (by omega) ?_) <;> conv => whnf)
      refine Fin.b rfl ?_
      unfold insB
      rw [decide_eq_true hlen, show A.length = j by omega, ha]
      rfl
  · repeat' first | ((first | (with_reducible first | apply WB.tt | apply WB.ff) | apply Rn.seq | apply Rn.reg | apply Rn.drw | apply Rn.blk | apply Rn.skip | apply Rn.ret | apply Rn.exit | apply Rn.cond rfl | refine i64_ (by omega) (by omega) ?_ | refine ne0_ (by omega) ?_ | refine WIx.intsN (by omega) ?_ | refine WIx.rowsN (by omega) ?_ | refine WCall.pure (e1) ?_ | (with_reducible first | refine WB.decT (by first | rfl | assumption | omega | exact ⟨rfl, rfl⟩) ?_ | refine WB.decF (by first | assumption | omega) ?_ | refine WB.ndT (by first | rfl | assumption | omega | exact ⟨rfl, rfl⟩) ?_ | refine WB.ndF (by first | assumption | omega) ?_ | apply WB.nt | apply WB.nf | refine WB.dec (fun h => ?_) (fun h => ?_) | refine WB.ndec (fun h => ?_) (fun h => ?_)) | refine WB.mk (fun h => ?_) (fun h => ?_)) <;> conv => whnf) | (refine WB.tt ?_; conv => whnf) | (refine WB.ff ?_; conv => whnf)
    refine Fin.b rfl ?_
    unfold insB
    rw [decide_eq_false hlen]
    rfl
theorem bdR_in {A : List Int} {x : Int} (h : x ∈ A) : (bdR A).1 ≤ x ∧ x ≤ (bdR A).2 := by
  obtain ⟨a, s, rfl⟩ : ∃ a s, A = a :: s := by
    cases A with
    | nil => cases h
    | cons a s => exact ⟨a, s, rfl⟩
  unfold bdR
  rw [maxN_all]
  exact ⟨(foldl_minS (a :: s) a).2.1 x h, (foldl_maxS (a :: s) a).2.1 x h⟩
theorem bdR_at {A : List Int} (h0 : 0 < A.length) : (bdR A).1 ∈ A ∧ (bdR A).2 ∈ A := by
  obtain ⟨a, s, rfl⟩ : ∃ a s, A = a :: s := by
    cases A with
    | nil => cases h0
    | cons a s => exact ⟨a, s, rfl⟩
  unfold bdR
  rw [maxN_all]
  refine ⟨?_, ?_⟩
  · rcases (foldl_minS (a :: s) a).2.2 with h | h
    · show (a :: s).foldl min a ∈ _
      rw [h]; simp
    · exact h
  · rcases (foldl_maxS (a :: s) a).2.2 with h | h
    · show (a :: s).foldl max a ∈ _
      rw [h]; simp
    · exact h
theorem bdG_in {L : List (Nat → Int)} {c : Nat → Int} (h : c ∈ L) (j : Nat) : (bdG L j).lo ≤ c j ∧ c j ≤ (bdG L j).hi := bdR_in (List.mem_map_of_mem (f := fun c : Nat → Int => c j) h)
theorem bdG_at {L : List (Nat → Int)} (h0 : L ≠ []) (j : Nat) : (∃ c ∈ L, c j = (bdG L j).lo) ∧ ∃ c ∈ L, c j = (bdG L j).hi := by
  obtain ⟨h1, h2⟩ := bdR_at (A := L.map fun c => c j) (by rw [List.length_map]; exact List.length_pos_iff.2 h0)
  obtain ⟨c, k1, k2⟩ := List.mem_map.1 h1
  obtain ⟨d, k3, k4⟩ := List.mem_map.1 h2
  exact ⟨⟨c, k1, k2⟩, ⟨d, k3, k4⟩⟩
theorem bdG_sub {L M : List (Nat → Int)} (h0 : L ≠ []) (h : ∀ c ∈ L, c ∈ M) (j : Nat) : (bdG M j).lo ≤ (bdG L j).lo ∧ (bdG L j).hi ≤ (bdG M j).hi := by
  obtain ⟨⟨c, k1, k2⟩, ⟨d, k3, k4⟩⟩ := bdG_at h0 j
  have h1 := bdG_in (h c k1) j
  have h2 := bdG_in (h d k3) j
  omega
theorem bdsR_at (L : List (Nat → Int)) {n j : Nat} (h : j < n) : (bdsR L n).getD j default = bdG L j := by simp [bdsR, List.getD, h]
theorem bdsR_len (L : List (Nat → Int)) (n : Nat) : (bdsR L n).length = n := by simp [bdsR]
theorem ins_sub {L M : List (Nat → Int)} (h0 : L ≠ []) (h : ∀ c ∈ L, c ∈ M) (n : Nat) : insB (bdsR L n) (bdsR M n) = true := by
  unfold insB
  rw [bdsR_len, bdsR_len, decide_eq_true rfl, Bool.true_and, List.all_eq_true]
  intro j hj
  have hj := List.mem_range.1 hj
  unfold insA
  rw [bdsR_at _ hj, bdsR_at _ hj]
  have := bdG_sub h0 h j
  rw [decide_eq_true this.1, decide_eq_true this.2]
  rfl
theorem lev_nil {last : Int} {hs : List Rg} {step : Int} {lv : List Int} {ms : List Mk} (hf : faultR last hs step lv ms = 0) : levS hs step ms = [] ↔ truthS hs step ms ≠ [] := by
  obtain ⟨V, hm, hA⟩ := fault_zero hf
  have h5 := V.ms5
  have hpp := Nat.one_le_two_pow (n := ms.length)
  have h32 : 2 ^ ms.length ≤ 2 ^ 5 := Nat.pow_le_pow_right (by omega) h5
  obtain ⟨b0, hb0, hL, hc0, hmin⟩ := lev_spec (m := ms.length) (can_zero hf)
  have hfull : canB (allR hs step ms) (2 ^ ms.length - 1) = true ↔ truthS hs step ms ≠ [] := by
    rw [can_pick V hm (by omega)]
    have : ((exS hs step hs.length 0 zeroS).any fun c => fitsR c (pickR ms (2 ^ ms.length - 1))) = (exS hs step hs.length 0 zeroS).any fun c => fitsR c ms := by
      congr 1
      funext c
      have := pick_low ms ms.length (agreesM c)
      rw [List.take_length] at this
      exact this
    rw [this]
    constructor
    · intro h e
      rw [truth_any.1 e] at h
      cases h
    · intro h
      cases ha : (exS hs step hs.length 0 zeroS).any (fun c => fitsR c ms) with
      | true => rfl
      | false => exact absurd (truth_any.2 ha) h
  rw [← hfull]
  have hwo : wordOf (bitL b0) = b0 := by
    have hck := chk_all ⟨ms.length, by omega⟩ ⟨b0, by omega⟩ hb0
    rw [Bool.and_eq_true, beq_iff_eq] at hck
    exact hck.2
  constructor
  · intro h
    have h2 : bitL b0 = [] := hL.symm.trans h
    rw [h2] at hwo
    have hz : b0 = 0 := hwo.symm
    rw [hz] at hc0
    exact hc0
  · intro h
    have h3 := hmin 0 (by omega) h
    have hs : (levR (allR hs step ms) ms.length).length = 0 := by
      unfold shoR at h3
      rw [Bool.or_eq_false_iff, decide_eq_false_iff_not] at h3
      have := h3.1
      rw [show bitL 0 = [] from by decide] at this
      simp at this
      exact Nat.eq_zero_of_not_pos fun hp => by
        have := List.length_pos_iff.1 hp
        simp_all
    exact List.length_eq_zero_iff.1 hs
theorem lev_less {last last2 : Int} {hs hs2 : List Rg} {step step2 : Int} {lv lv2 : List Int} {ms ms2 : List Mk} (hf : faultR last hs step lv ms = 0) (hf2 : faultR last2 hs2 step2 lv2 ms2 = 0) (he : ms2.length = ms.length) (h : ∀ w, w < 2 ^ ms.length → canB (allR hs step ms) w = true → canB (allR hs2 step2 ms2) w = true) : (levS hs2 step2 ms2).length ≤ (levS hs step ms).length := by
  have hpp := Nat.one_le_two_pow (n := ms.length)
  obtain ⟨b0, hb0, hL, hc0, _⟩ := lev_spec (m := ms.length) (can_zero hf)
  obtain ⟨b1, hb1, hL1, hc1, hmin⟩ := lev_spec (m := ms2.length) (can_zero hf2)
  have h1 := hmin b0 (by rw [he]; exact hb0) (by rw [he]; exact h _ (by omega) hc0)
  rw [← hL] at h1
  unfold shoR at h1
  rw [Bool.or_eq_false_iff, decide_eq_false_iff_not] at h1
  unfold levS
  omega
end Go.Ev

namespace Go.Ev
open Go.Proofs
set_option maxRecDepth 100000
end Go.Ev

namespace Go.Ev
open Go.Proofs
set_option maxRecDepth 100000
theorem WSt.app_empE {sl : T D} {ob : T C} {nx : Pos} {K : X → Prop} {d id : Pos} {z : Nat} {x y : RX} {es : List (List D)} (hx : opd sl x = some (.sl id 0 0 0 z)) (hox : ob.get id = some (.cells false [] 1)) (hy : opd sl y = some (.lst z es)) (hz : ∀ r ∈ es, r.length = z) (hlen : es.length ≤ 2147483648)
    (h : ∀ st w, T.setK id (.cells false (es.flatten.map fun d => Cell.o d st) (st + 1)) ob fun ob => T.setK id w .e fun L => wOut sl ob nx (some L) d K (.sl id 0 es.length st z)) : WSt (.app d z x y) ⟨sl, ob, nx, some .e⟩ K := by
  have hfl : es.flatten.length = es.length * z := by
    clear hlen hy h
    induction es with
    | nil => simp
    | cons r es ih => simp [ih (fun r h => hz r (by simp [h])), hz r (by simp), Nat.add_mul]; omega
  have hb : (Nat.beq z z && Nat.beq (List.length (List.flatten es)) (Nat.mul (List.length es) z)) = true := by
    rw [hfl]; simp
  cases hk : es.length with
  | zero =>
    have he : es = [] := List.length_eq_zero_iff.1 hk
    subst he
    have h0 := h 0 false
    rw [T.setK_eq, T.setK_eq] at h0
    have h0 : wOut sl (T.set id (C.cells false [] 1) ob) nx (some (T.set id false .e)) d K (D.sl id 0 0 0 z) := h0
    rw [T.set_get hox] at h0
    obtain ⟨h2, h3⟩ := wOut_ok h0
    refine ⟨_, ?_, h3⟩
    show s_app d z x y sl ob nx (some .e) = _
    unfold s_app
    rw [hx, hy]
    have hb : Nat.beq (List.length (List.flatten ([] : List (List D)))) (Nat.mul 0 z) = true := by simp
    have hg : (T.e : T Bool).get id = none := T.get_e id
    simp only [srcK, hb, cond_true, Bool.and_self, logO, List.length_nil, logR, hox, Nat.beq_refl, hg, T.setK_eq]
    exact h2
  | succ k =>
    have h1 := h 1 true
    rw [T.setK_eq, T.setK_eq] at h1
    obtain ⟨h2, h3⟩ := wOut_ok h1
    refine ⟨_, ?_, h3⟩
    show s_app d z x y sl ob nx (some .e) = _
    unfold s_app
    rw [hx, hy]
    rw [hk] at hlen h2 hb
    have hle : Nat.ble (Nat.add 0 (Nat.succ k)) 2147483648 = true := Nat.ble_eq_true_of_le (by simpa using hlen)
    have hb : Nat.beq (List.length (List.flatten es)) (Nat.mul (k + 1) z) = true := by rw [hfl, hk]; simp
    have hm : Nat.add 0 (Nat.mul 0 z) = 0 := by show 0 + 0 * z = 0; simp
    simp only [srcK, hk, hb, cond_true, logO, Nat.beq_refl, Bool.true_and, hle, hox, hm, growK_emp, natK_eq, objOutK, logW, T.setK_eq]
    have e1 : Nat.add 0 (Nat.succ k) = k + 1 := by show 0 + (k + 1) = k + 1; omega
    rw [e1]
    exact h2
theorem FitP.mk {ps : List (Bool × List CK)} {ds : List D} (h : FitP ((true, [.i .i64, .i .i64, .i .i64, .i .i64]) :: ps) ds) : ∃ (x : Mk) (ds' : List D), ds = .ag (mkD x) :: ds' ∧ FitP ps ds' := by
  unfold FitP at h
  obtain ⟨es, ds', rfl, h1, h2⟩ := h
  simp only [FitL, FitC] at h1
  obtain ⟨d, ds, rfl, ⟨n1, rfl, _⟩, d2, ds2, rfl, ⟨n2, rfl, _⟩, d3, ds3, rfl, ⟨n3, rfl, _⟩, d4, ds4, rfl, ⟨n4, rfl, _⟩, rfl⟩ := h1
  exact ⟨⟨n1, n2, n3, n4⟩, ds', rfl, h2⟩
end Go.Ev
