import Derived.Test.YtjgbfnciedkafaaEvJc1
set_option linter.all false
namespace Go.Ev
open Go.Proofs
set_option maxRecDepth 100000
/-! ### one more line -/
theorem eqL_nums : ∀ (xs ys : List Int), xs.length = ys.length → (∀ n ∈ xs, wfB .i64 n = true) → (∀ n ∈ ys, wfB .i64 n = true) → eqL (xs.map fun _ => .i .i64) (xs.map fun n => D.i .i64 n) (ys.map fun n => D.i .i64 n) = some (decide (xs = ys))
  | [], [], _, _, _ => by simp [eqL]
  | a :: xs, b :: ys, hl, h1, h2 => by
    have ih := eqL_nums xs ys (by simpa using hl) (fun n hn => h1 n (by simp [hn])) (fun n hn => h2 n (by simp [hn]))
    have hk : kEq .i64 .i64 = true := rfl
    have w1 := h1 a (by simp)
    have w2 := h2 b (by simp)
    simp only [List.map_cons, eqL, eqC, hk, w1, w2, Bool.and_self, cond_true, ih, Option.some.injEq]
    rw [eqB_eq]
    by_cases h : a = b
    · by_cases h' : xs = ys <;> simp [h, h']
    · simp [h]
  | [], _ :: _, h, _, _ => by simp at h
  | _ :: _, [], h, _, _ => by simp at h
theorem WSt.eqrN {sl : T D} {ob : T C} {nx : Pos} {K : X → Prop} {lg : Option (T Bool)} {d : Pos} {x y : RX} {neg : Bool} {ks : List LK} (xs ys : List Int) (h1 : opd sl x = some (.ag (xs.map fun n => D.i .i64 n))) (h2 : opd sl y = some (.ag (ys.map fun n => D.i .i64 n))) (hk : ks = xs.map fun _ => .i .i64) (hl : xs.length = ys.length) (w1 : ∀ n ∈ xs, wfB .i64 n = true) (w2 : ∀ n ∈ ys, wfB .i64 n = true) {r : Bool} (hr : (bif neg then !decide (xs = ys) else decide (xs = ys)) = r) (k : wOut sl ob nx lg d K (.b r)) :
    WSt (.eqr d neg ks x y) ⟨sl, ob, nx, lg⟩ K := by
  obtain ⟨k1, k2⟩ := wOut_ok k
  refine ⟨_, ?_, k2⟩
  show s_eqr _ _ _ x y sl ob nx lg = _
  unfold s_eqr
  rw [h1, h2]
  have e : eqR ks (.ag (xs.map fun n => D.i .i64 n)) (.ag (ys.map fun n => D.i .i64 n)) = some (decide (xs = ys)) := by
    rw [hk]
    exact eqL_nums xs ys hl w1 w2
  simp only [e, boolK_eq, hr]
  exact k1
theorem wf_hund {n : Int} (h : 0 ≤ n ∧ n ≤ 100) : wfB .i64 n = true := wf_small (by omega) (by omega)
theorem ltwo {l l' : List Int} (q : Nat) (h : l.getD q 0 ≠ l'.getD q 0) : (bif true then !decide (l = l') else decide (l = l')) = true := by
  rw [decide_eq_false (fun e => h (by rw [e]))]; rfl
set_option maxHeartbeats 4000000 in
theorem j_afterA (n coin box : Int) (ls : List Ln) (cs : List Ct) (m : Mo) (k : Int) (c t d : Nat) (h1 : 1 ≤ coin ∧ coin ≤ 99) (h2 : 0 ≤ m.n ∧ m.n ≤ 50) (h3 : -100000 ≤ m.box ∧ m.box ≤ 100000) (h4 : 0 ≤ m.mix ∧ m.mix ≤ 50) (hh : ∀ q, 0 ≤ m.h q ∧ m.h q ≤ 50) (hc : c = 0 ∨ c = 1 ∨ c = 2 ∨ c = 3) (hd : (t = 0 ∧ d = 4) ∨ (t = 1 ∧ d = 5) ∨ (t = 2 ∧ d = 6) ∨ (t = 3 ∧ d = 7)) (A : k = 1 ∧ m.h c = 0 ∧ m.h d = 0) :
    PureF Try.prog p109.ix [.ag [.i .i64 n, .i .i64 coin, .i .i64 box, .lst 3 (rows lnD ls), .lst 3 (rows ctD cs), .any], .ag (moD m), .ag [.i .i64 k, .i .i64 (c : Int), .i .i64 (t : Int)]] (.tp [.ag (moD (aftM coin m ⟨k, (c : Int), (t : Int)⟩).1), .b (aftM coin m ⟨k, (c : Int), (t : Int)⟩).2]) := by
  have w0 := hh 0
  have w1 := hh 1
  have w2 := hh 2
  have w3 := hh 3
  have w4 := hh 4
  have w5 := hh 5
  have w6 := hh 6
  have w7 := hh 7
  have hH : ∀ q, 0 ≤ m.h q ∧ m.h q ≤ 100 := fun q => by have := hh q; omega
  · have ea : aftM coin m ⟨k, (c : Int), (t : Int)⟩ = (⟨m.n + 1, upT (upT m.h c (m.n + 1)) d (m.n + 1), m.box + coin, m.mix, ⟨k, (c : Int), (t : Int)⟩⟩, true) := by
      have hdt : d = 4 + t := by omega
      subst hdt
      unfold aftM
      exact if_pos A
    rw [ea]
    obtain ⟨a1, a2, a3⟩ := A
    have hG : ∀ q, 0 ≤ upT (upT m.h c (m.n + 1)) d (m.n + 1) q ∧ upT (upT m.h c (m.n + 1)) d (m.n + 1) q ≤ 100 := fun q => by
      have := hh q
      unfold upT
      split <;> try split
      all_goals omega
    have hne : upT (upT m.h c (m.n + 1)) d (m.n + 1) c ≠ m.h c := by
      have : upT (upT m.h c (m.n + 1)) d (m.n + 1) c = (m.n + 1) := by
        unfold upT
        rw [if_neg (by omega), if_pos rfl]
      rw [this]
      omega
    unfold moD
    rcases hc with rfl | rfl | rfl | rfl <;> rcases hd with ⟨rfl, rfl⟩ | ⟨rfl, rfl⟩ | ⟨rfl, rfl⟩ | ⟨rfl, rfl⟩
    all_goals
      refine PureF.run fn108 (by simp) (by simp [PuL, PuE, Pu, pu_ints, pu_ln, pu_ct]) ?_; conv => whnf
      repeat' first | ((first | with_reducible apply WB.tt | with_reducible apply WB.ff | refine Rn.seq ?_ | refine Rn.reg ?_ | refine Rn.drw ?_ | refine Rn.blk ?_ | refine Rn.skip ?_ | refine Rn.ret ?_ | refine Rn.exit ?_ | refine Rn.cond rfl ?_ | refine And.intro (InR.i64 (by omega) (by omega)) ?_ | refine And.intro (show _ ≠ (0 : Int) by omega) ?_ | refine WIx.intsN (by omega) ?_ | refine WIx.rowsN (by omega) ?_ | with_reducible refine WB.decT (by first | with_reducible rfl | assumption | omega | exact ⟨rfl, rfl⟩) ?_ | with_reducible refine WB.decF (by first | assumption | omega) ?_ | with_reducible refine WB.ndT (by first | with_reducible rfl | assumption | omega | exact ⟨rfl, rfl⟩) ?_ | with_reducible refine WB.ndF (by first | assumption | omega) ?_ | with_reducible refine WB.nt ?_ | with_reducible refine WB.nf ?_ | with_reducible refine WB.dec (fun h => ?_) (fun h => ?_) | with_reducible refine WB.ndec (fun h => ?_) (fun h => ?_) | refine WB.mk (fun h => ?_) (fun h => ?_)) <;> conv => whnf)
      (first | refine WSt.ixaN (m := 0) rfl rfl (by omega) (by omega) ?_ | refine WSt.ixaN (m := 1) rfl rfl (by omega) (by omega) ?_ | refine WSt.ixaN (m := 2) rfl rfl (by omega) (by omega) ?_ | refine WSt.ixaN (m := 3) rfl rfl (by omega) (by omega) ?_ | refine WSt.ixaN (m := 4) rfl rfl (by omega) (by omega) ?_ | refine WSt.ixaN (m := 5) rfl rfl (by omega) (by omega) ?_ | refine WSt.ixaN (m := 6) rfl rfl (by omega) (by omega) ?_ | refine WSt.ixaN (m := 7) rfl rfl (by omega) (by omega) ?_); conv => whnf
      repeat' first | ((first | with_reducible apply WB.tt | with_reducible apply WB.ff | refine Rn.seq ?_ | refine Rn.reg ?_ | refine Rn.drw ?_ | refine Rn.blk ?_ | refine Rn.skip ?_ | refine Rn.ret ?_ | refine Rn.exit ?_ | refine Rn.cond rfl ?_ | refine And.intro (InR.i64 (by omega) (by omega)) ?_ | refine And.intro (show _ ≠ (0 : Int) by omega) ?_ | refine WIx.intsN (by omega) ?_ | refine WIx.rowsN (by omega) ?_ | with_reducible refine WB.decT (by first | with_reducible rfl | assumption | omega | exact ⟨rfl, rfl⟩) ?_ | with_reducible refine WB.decF (by first | assumption | omega) ?_ | with_reducible refine WB.ndT (by first | with_reducible rfl | assumption | omega | exact ⟨rfl, rfl⟩) ?_ | with_reducible refine WB.ndF (by first | assumption | omega) ?_ | with_reducible refine WB.nt ?_ | with_reducible refine WB.nf ?_ | with_reducible refine WB.dec (fun h => ?_) (fun h => ?_) | with_reducible refine WB.ndec (fun h => ?_) (fun h => ?_) | refine WB.mk (fun h => ?_) (fun h => ?_)) <;> conv => whnf)
      (first | refine WSt.ixaN (m := 0) rfl rfl (by omega) (by omega) ?_ | refine WSt.ixaN (m := 1) rfl rfl (by omega) (by omega) ?_ | refine WSt.ixaN (m := 2) rfl rfl (by omega) (by omega) ?_ | refine WSt.ixaN (m := 3) rfl rfl (by omega) (by omega) ?_ | refine WSt.ixaN (m := 4) rfl rfl (by omega) (by omega) ?_ | refine WSt.ixaN (m := 5) rfl rfl (by omega) (by omega) ?_ | refine WSt.ixaN (m := 6) rfl rfl (by omega) (by omega) ?_ | refine WSt.ixaN (m := 7) rfl rfl (by omega) (by omega) ?_); conv => whnf
      repeat' first | ((first | with_reducible apply WB.tt | with_reducible apply WB.ff | refine Rn.seq ?_ | refine Rn.reg ?_ | refine Rn.drw ?_ | refine Rn.blk ?_ | refine Rn.skip ?_ | refine Rn.ret ?_ | refine Rn.exit ?_ | refine Rn.cond rfl ?_ | refine And.intro (InR.i64 (by omega) (by omega)) ?_ | refine And.intro (show _ ≠ (0 : Int) by omega) ?_ | refine WIx.intsN (by omega) ?_ | refine WIx.rowsN (by omega) ?_ | with_reducible refine WB.decT (by first | with_reducible rfl | assumption | omega | exact ⟨rfl, rfl⟩) ?_ | with_reducible refine WB.decF (by first | assumption | omega) ?_ | with_reducible refine WB.ndT (by first | with_reducible rfl | assumption | omega | exact ⟨rfl, rfl⟩) ?_ | with_reducible refine WB.ndF (by first | assumption | omega) ?_ | with_reducible refine WB.nt ?_ | with_reducible refine WB.nf ?_ | with_reducible refine WB.dec (fun h => ?_) (fun h => ?_) | with_reducible refine WB.ndec (fun h => ?_) (fun h => ?_) | refine WB.mk (fun h => ?_) (fun h => ?_)) <;> conv => whnf)
      refine WSt.eqrN [upT (upT m.h _ (m.n + 1)) _ (m.n + 1) 0, upT (upT m.h _ (m.n + 1)) _ (m.n + 1) 1, upT (upT m.h _ (m.n + 1)) _ (m.n + 1) 2, upT (upT m.h _ (m.n + 1)) _ (m.n + 1) 3, upT (upT m.h _ (m.n + 1)) _ (m.n + 1) 4, upT (upT m.h _ (m.n + 1)) _ (m.n + 1) 5, upT (upT m.h _ (m.n + 1)) _ (m.n + 1) 6, upT (upT m.h _ (m.n + 1)) _ (m.n + 1) 7] [m.h 0, m.h 1, m.h 2, m.h 3, m.h 4, m.h 5, m.h 6, m.h 7] rfl rfl rfl rfl (by intro x hx; simp only [List.mem_cons, List.not_mem_nil, or_false] at hx; rcases hx with rfl | rfl | rfl | rfl | rfl | rfl | rfl | rfl <;> exact wf_hund (hG _)) (by intro x hx; simp only [List.mem_cons, List.not_mem_nil, or_false] at hx; rcases hx with rfl | rfl | rfl | rfl | rfl | rfl | rfl | rfl <;> exact wf_hund (hH _)) (r := true) (by first | exact ltwo 0 hne | exact ltwo 1 hne | exact ltwo 2 hne | exact ltwo 3 hne) ?_; conv => whnf
      repeat' first | ((first | with_reducible apply WB.tt | with_reducible apply WB.ff | refine Rn.seq ?_ | refine Rn.reg ?_ | refine Rn.drw ?_ | refine Rn.blk ?_ | refine Rn.skip ?_ | refine Rn.ret ?_ | refine Rn.exit ?_ | refine Rn.cond rfl ?_ | refine And.intro (InR.i64 (by omega) (by omega)) ?_ | refine And.intro (show _ ≠ (0 : Int) by omega) ?_ | refine WIx.intsN (by omega) ?_ | refine WIx.rowsN (by omega) ?_ | with_reducible refine WB.decT (by first | with_reducible rfl | assumption | omega | exact ⟨rfl, rfl⟩) ?_ | with_reducible refine WB.decF (by first | assumption | omega) ?_ | with_reducible refine WB.ndT (by first | with_reducible rfl | assumption | omega | exact ⟨rfl, rfl⟩) ?_ | with_reducible refine WB.ndF (by first | assumption | omega) ?_ | with_reducible refine WB.nt ?_ | with_reducible refine WB.nf ?_ | with_reducible refine WB.dec (fun h => ?_) (fun h => ?_) | with_reducible refine WB.ndec (fun h => ?_) (fun h => ?_) | refine WB.mk (fun h => ?_) (fun h => ?_)) <;> conv => whnf)
      refine ⟨.inr rfl, _, rfl, ?_⟩
      refine .tp (.cons (.ag ?_) (.cons (.pu trivial) .nil))
      repeat' first | exact FzL.nil | refine FzL.cons ?_ ?_
      all_goals exact Fz.i rfl
set_option maxHeartbeats 4000000 in
theorem j_afterB (n coin box : Int) (ls : List Ln) (cs : List Ct) (m : Mo) (k : Int) (c t d : Nat) (h1 : 1 ≤ coin ∧ coin ≤ 99) (h2 : 0 ≤ m.n ∧ m.n ≤ 50) (h3 : -100000 ≤ m.box ∧ m.box ≤ 100000) (h4 : 0 ≤ m.mix ∧ m.mix ≤ 50) (hh : ∀ q, 0 ≤ m.h q ∧ m.h q ≤ 50) (hc : c = 0 ∨ c = 1 ∨ c = 2 ∨ c = 3) (hd : (t = 0 ∧ d = 4) ∨ (t = 1 ∧ d = 5) ∨ (t = 2 ∧ d = 6) ∨ (t = 3 ∧ d = 7)) (B : k = 2 ∧ m.h c ≠ 0 ∧ m.h d ≠ 0) :
    PureF Try.prog p109.ix [.ag [.i .i64 n, .i .i64 coin, .i .i64 box, .lst 3 (rows lnD ls), .lst 3 (rows ctD cs), .any], .ag (moD m), .ag [.i .i64 k, .i .i64 (c : Int), .i .i64 (t : Int)]] (.tp [.ag (moD (aftM coin m ⟨k, (c : Int), (t : Int)⟩).1), .b (aftM coin m ⟨k, (c : Int), (t : Int)⟩).2]) := by
  have w0 := hh 0
  have w1 := hh 1
  have w2 := hh 2
  have w3 := hh 3
  have w4 := hh 4
  have w5 := hh 5
  have w6 := hh 6
  have w7 := hh 7
  have hH : ∀ q, 0 ≤ m.h q ∧ m.h q ≤ 100 := fun q => by have := hh q; omega
  have A : ¬ (k = 1 ∧ m.h c = 0 ∧ m.h d = 0) := by omega
  have ea : aftM coin m ⟨k, (c : Int), (t : Int)⟩ = (⟨m.n + 1, upT (upT m.h c 0) d 0, m.box - coin, if m.h c ≠ m.h d then m.mix + 1 else m.mix, ⟨k, (c : Int), (t : Int)⟩⟩, true) := by
    have hdt : d = 4 + t := by omega
    subst hdt
    unfold aftM
    exact (if_neg A).trans (if_pos B)
  rw [ea]
  by_cases E : m.h c = m.h d
  · rw [if_neg (fun h => h E)]
    obtain ⟨a1, a2, a3⟩ := B
    have hG : ∀ q, 0 ≤ upT (upT m.h c 0) d 0 q ∧ upT (upT m.h c 0) d 0 q ≤ 100 := fun q => by
      have := hh q
      unfold upT
      split <;> try split
      all_goals omega
    have hne : upT (upT m.h c 0) d 0 c ≠ m.h c := by
      have : upT (upT m.h c 0) d 0 c = 0 := by
        unfold upT
        rw [if_neg (by omega), if_pos rfl]
      rw [this]
      omega
    unfold moD
    rcases hc with rfl | rfl | rfl | rfl <;> rcases hd with ⟨rfl, rfl⟩ | ⟨rfl, rfl⟩ | ⟨rfl, rfl⟩ | ⟨rfl, rfl⟩
    all_goals
      refine PureF.run fn108 (by simp) (by simp [PuL, PuE, Pu, pu_ints, pu_ln, pu_ct]) ?_; conv => whnf
      repeat' first | ((first | with_reducible apply WB.tt | with_reducible apply WB.ff | refine Rn.seq ?_ | refine Rn.reg ?_ | refine Rn.drw ?_ | refine Rn.blk ?_ | refine Rn.skip ?_ | refine Rn.ret ?_ | refine Rn.exit ?_ | refine Rn.cond rfl ?_ | refine And.intro (InR.i64 (by omega) (by omega)) ?_ | refine And.intro (show _ ≠ (0 : Int) by omega) ?_ | refine WIx.intsN (by omega) ?_ | refine WIx.rowsN (by omega) ?_ | with_reducible refine WB.decT (by first | with_reducible rfl | assumption | omega | exact ⟨rfl, rfl⟩) ?_ | with_reducible refine WB.decF (by first | assumption | omega) ?_ | with_reducible refine WB.ndT (by first | with_reducible rfl | assumption | omega | exact ⟨rfl, rfl⟩) ?_ | with_reducible refine WB.ndF (by first | assumption | omega) ?_ | with_reducible refine WB.nt ?_ | with_reducible refine WB.nf ?_ | with_reducible refine WB.dec (fun h => ?_) (fun h => ?_) | with_reducible refine WB.ndec (fun h => ?_) (fun h => ?_) | refine WB.mk (fun h => ?_) (fun h => ?_)) <;> conv => whnf)
      (first | refine WSt.ixaN (m := 0) rfl rfl (by omega) (by omega) ?_ | refine WSt.ixaN (m := 1) rfl rfl (by omega) (by omega) ?_ | refine WSt.ixaN (m := 2) rfl rfl (by omega) (by omega) ?_ | refine WSt.ixaN (m := 3) rfl rfl (by omega) (by omega) ?_ | refine WSt.ixaN (m := 4) rfl rfl (by omega) (by omega) ?_ | refine WSt.ixaN (m := 5) rfl rfl (by omega) (by omega) ?_ | refine WSt.ixaN (m := 6) rfl rfl (by omega) (by omega) ?_ | refine WSt.ixaN (m := 7) rfl rfl (by omega) (by omega) ?_); conv => whnf
      repeat' first | ((first | with_reducible apply WB.tt | with_reducible apply WB.ff | refine Rn.seq ?_ | refine Rn.reg ?_ | refine Rn.drw ?_ | refine Rn.blk ?_ | refine Rn.skip ?_ | refine Rn.ret ?_ | refine Rn.exit ?_ | refine Rn.cond rfl ?_ | refine And.intro (InR.i64 (by omega) (by omega)) ?_ | refine And.intro (show _ ≠ (0 : Int) by omega) ?_ | refine WIx.intsN (by omega) ?_ | refine WIx.rowsN (by omega) ?_ | with_reducible refine WB.decT (by first | with_reducible rfl | assumption | omega | exact ⟨rfl, rfl⟩) ?_ | with_reducible refine WB.decF (by first | assumption | omega) ?_ | with_reducible refine WB.ndT (by first | with_reducible rfl | assumption | omega | exact ⟨rfl, rfl⟩) ?_ | with_reducible refine WB.ndF (by first | assumption | omega) ?_ | with_reducible refine WB.nt ?_ | with_reducible refine WB.nf ?_ | with_reducible refine WB.dec (fun h => ?_) (fun h => ?_) | with_reducible refine WB.ndec (fun h => ?_) (fun h => ?_) | refine WB.mk (fun h => ?_) (fun h => ?_)) <;> conv => whnf)
      (first | refine WSt.ixaN (m := 0) rfl rfl (by omega) (by omega) ?_ | refine WSt.ixaN (m := 1) rfl rfl (by omega) (by omega) ?_ | refine WSt.ixaN (m := 2) rfl rfl (by omega) (by omega) ?_ | refine WSt.ixaN (m := 3) rfl rfl (by omega) (by omega) ?_ | refine WSt.ixaN (m := 4) rfl rfl (by omega) (by omega) ?_ | refine WSt.ixaN (m := 5) rfl rfl (by omega) (by omega) ?_ | refine WSt.ixaN (m := 6) rfl rfl (by omega) (by omega) ?_ | refine WSt.ixaN (m := 7) rfl rfl (by omega) (by omega) ?_); conv => whnf
      repeat' first | ((first | with_reducible apply WB.tt | with_reducible apply WB.ff | refine Rn.seq ?_ | refine Rn.reg ?_ | refine Rn.drw ?_ | refine Rn.blk ?_ | refine Rn.skip ?_ | refine Rn.ret ?_ | refine Rn.exit ?_ | refine Rn.cond rfl ?_ | refine And.intro (InR.i64 (by omega) (by omega)) ?_ | refine And.intro (show _ ≠ (0 : Int) by omega) ?_ | refine WIx.intsN (by omega) ?_ | refine WIx.rowsN (by omega) ?_ | with_reducible refine WB.decT (by first | with_reducible rfl | assumption | omega | exact ⟨rfl, rfl⟩) ?_ | with_reducible refine WB.decF (by first | assumption | omega) ?_ | with_reducible refine WB.ndT (by first | with_reducible rfl | assumption | omega | exact ⟨rfl, rfl⟩) ?_ | with_reducible refine WB.ndF (by first | assumption | omega) ?_ | with_reducible refine WB.nt ?_ | with_reducible refine WB.nf ?_ | with_reducible refine WB.dec (fun h => ?_) (fun h => ?_) | with_reducible refine WB.ndec (fun h => ?_) (fun h => ?_) | refine WB.mk (fun h => ?_) (fun h => ?_)) <;> conv => whnf)
      all_goals first
        | (exfalso; omega)
        | skip
      all_goals
        refine WSt.eqrN [upT (upT m.h _ 0) _ 0 0, upT (upT m.h _ 0) _ 0 1, upT (upT m.h _ 0) _ 0 2, upT (upT m.h _ 0) _ 0 3, upT (upT m.h _ 0) _ 0 4, upT (upT m.h _ 0) _ 0 5, upT (upT m.h _ 0) _ 0 6, upT (upT m.h _ 0) _ 0 7] [m.h 0, m.h 1, m.h 2, m.h 3, m.h 4, m.h 5, m.h 6, m.h 7] rfl rfl rfl rfl (by intro x hx; simp only [List.mem_cons, List.not_mem_nil, or_false] at hx; rcases hx with rfl | rfl | rfl | rfl | rfl | rfl | rfl | rfl <;> exact wf_hund (hG _)) (by intro x hx; simp only [List.mem_cons, List.not_mem_nil, or_false] at hx; rcases hx with rfl | rfl | rfl | rfl | rfl | rfl | rfl | rfl <;> exact wf_hund (hH _)) (r := true) (by first | exact ltwo 0 hne | exact ltwo 1 hne | exact ltwo 2 hne | exact ltwo 3 hne) ?_; conv => whnf
        repeat' first | ((first | with_reducible apply WB.tt | with_reducible apply WB.ff | refine Rn.seq ?_ | refine Rn.reg ?_ | refine Rn.drw ?_ | refine Rn.blk ?_ | refine Rn.skip ?_ | refine Rn.ret ?_ | refine Rn.exit ?_ | refine Rn.cond rfl ?_ | refine And.intro (InR.i64 (by omega) (by omega)) ?_ | refine And.intro (show _ ≠ (0 : Int) by omega) ?_ | refine WIx.intsN (by omega) ?_ | refine WIx.rowsN (by omega) ?_ | with_reducible refine WB.decT (by first | with_reducible rfl | assumption | omega | exact ⟨rfl, rfl⟩) ?_ | with_reducible refine WB.decF (by first | assumption | omega) ?_ | with_reducible refine WB.ndT (by first | with_reducible rfl | assumption | omega | exact ⟨rfl, rfl⟩) ?_ | with_reducible refine WB.ndF (by first | assumption | omega) ?_ | with_reducible refine WB.nt ?_ | with_reducible refine WB.nf ?_ | with_reducible refine WB.dec (fun h => ?_) (fun h => ?_) | with_reducible refine WB.ndec (fun h => ?_) (fun h => ?_) | refine WB.mk (fun h => ?_) (fun h => ?_)) <;> conv => whnf)
        refine ⟨.inr rfl, _, rfl, ?_⟩
        refine .tp (.cons (.ag ?_) (.cons (.pu trivial) .nil))
        repeat' first | exact FzL.nil | refine FzL.cons ?_ ?_
        all_goals exact Fz.i rfl
  · rw [if_pos E]
    obtain ⟨a1, a2, a3⟩ := B
    have hG : ∀ q, 0 ≤ upT (upT m.h c 0) d 0 q ∧ upT (upT m.h c 0) d 0 q ≤ 100 := fun q => by
      have := hh q
      unfold upT
      split <;> try split
      all_goals omega
    have hne : upT (upT m.h c 0) d 0 c ≠ m.h c := by
      have : upT (upT m.h c 0) d 0 c = 0 := by
        unfold upT
        rw [if_neg (by omega), if_pos rfl]
      rw [this]
      omega
    unfold moD
    rcases hc with rfl | rfl | rfl | rfl <;> rcases hd with ⟨rfl, rfl⟩ | ⟨rfl, rfl⟩ | ⟨rfl, rfl⟩ | ⟨rfl, rfl⟩
    all_goals
      refine PureF.run fn108 (by simp) (by simp [PuL, PuE, Pu, pu_ints, pu_ln, pu_ct]) ?_; conv => whnf
      repeat' first | ((first | with_reducible apply WB.tt | with_reducible apply WB.ff | refine Rn.seq ?_ | refine Rn.reg ?_ | refine Rn.drw ?_ | refine Rn.blk ?_ | refine Rn.skip ?_ | refine Rn.ret ?_ | refine Rn.exit ?_ | refine Rn.cond rfl ?_ | refine And.intro (InR.i64 (by omega) (by omega)) ?_ | refine And.intro (show _ ≠ (0 : Int) by omega) ?_ | refine WIx.intsN (by omega) ?_ | refine WIx.rowsN (by omega) ?_ | with_reducible refine WB.decT (by first | with_reducible rfl | assumption | omega | exact ⟨rfl, rfl⟩) ?_ | with_reducible refine WB.decF (by first | assumption | omega) ?_ | with_reducible refine WB.ndT (by first | with_reducible rfl | assumption | omega | exact ⟨rfl, rfl⟩) ?_ | with_reducible refine WB.ndF (by first | assumption | omega) ?_ | with_reducible refine WB.nt ?_ | with_reducible refine WB.nf ?_ | with_reducible refine WB.dec (fun h => ?_) (fun h => ?_) | with_reducible refine WB.ndec (fun h => ?_) (fun h => ?_) | refine WB.mk (fun h => ?_) (fun h => ?_)) <;> conv => whnf)
      (first | refine WSt.ixaN (m := 0) rfl rfl (by omega) (by omega) ?_ | refine WSt.ixaN (m := 1) rfl rfl (by omega) (by omega) ?_ | refine WSt.ixaN (m := 2) rfl rfl (by omega) (by omega) ?_ | refine WSt.ixaN (m := 3) rfl rfl (by omega) (by omega) ?_ | refine WSt.ixaN (m := 4) rfl rfl (by omega) (by omega) ?_ | refine WSt.ixaN (m := 5) rfl rfl (by omega) (by omega) ?_ | refine WSt.ixaN (m := 6) rfl rfl (by omega) (by omega) ?_ | refine WSt.ixaN (m := 7) rfl rfl (by omega) (by omega) ?_); conv => whnf
      repeat' first | ((first | with_reducible apply WB.tt | with_reducible apply WB.ff | refine Rn.seq ?_ | refine Rn.reg ?_ | refine Rn.drw ?_ | refine Rn.blk ?_ | refine Rn.skip ?_ | refine Rn.ret ?_ | refine Rn.exit ?_ | refine Rn.cond rfl ?_ | refine And.intro (InR.i64 (by omega) (by omega)) ?_ | refine And.intro (show _ ≠ (0 : Int) by omega) ?_ | refine WIx.intsN (by omega) ?_ | refine WIx.rowsN (by omega) ?_ | with_reducible refine WB.decT (by first | with_reducible rfl | assumption | omega | exact ⟨rfl, rfl⟩) ?_ | with_reducible refine WB.decF (by first | assumption | omega) ?_ | with_reducible refine WB.ndT (by first | with_reducible rfl | assumption | omega | exact ⟨rfl, rfl⟩) ?_ | with_reducible refine WB.ndF (by first | assumption | omega) ?_ | with_reducible refine WB.nt ?_ | with_reducible refine WB.nf ?_ | with_reducible refine WB.dec (fun h => ?_) (fun h => ?_) | with_reducible refine WB.ndec (fun h => ?_) (fun h => ?_) | refine WB.mk (fun h => ?_) (fun h => ?_)) <;> conv => whnf)
      (first | refine WSt.ixaN (m := 0) rfl rfl (by omega) (by omega) ?_ | refine WSt.ixaN (m := 1) rfl rfl (by omega) (by omega) ?_ | refine WSt.ixaN (m := 2) rfl rfl (by omega) (by omega) ?_ | refine WSt.ixaN (m := 3) rfl rfl (by omega) (by omega) ?_ | refine WSt.ixaN (m := 4) rfl rfl (by omega) (by omega) ?_ | refine WSt.ixaN (m := 5) rfl rfl (by omega) (by omega) ?_ | refine WSt.ixaN (m := 6) rfl rfl (by omega) (by omega) ?_ | refine WSt.ixaN (m := 7) rfl rfl (by omega) (by omega) ?_); conv => whnf
      repeat' first | ((first | with_reducible apply WB.tt | with_reducible apply WB.ff | refine Rn.seq ?_ | refine Rn.reg ?_ | refine Rn.drw ?_ | refine Rn.blk ?_ | refine Rn.skip ?_ | refine Rn.ret ?_ | refine Rn.exit ?_ | refine Rn.cond rfl ?_ | refine And.intro (InR.i64 (by omega) (by omega)) ?_ | refine And.intro (show _ ≠ (0 : Int) by omega) ?_ | refine WIx.intsN (by omega) ?_ | refine WIx.rowsN (by omega) ?_ | with_reducible refine WB.decT (by first | with_reducible rfl | assumption | omega | exact ⟨rfl, rfl⟩) ?_ | with_reducible refine WB.decF (by first | assumption | omega) ?_ | with_reducible refine WB.ndT (by first | with_reducible rfl | assumption | omega | exact ⟨rfl, rfl⟩) ?_ | with_reducible refine WB.ndF (by first | assumption | omega) ?_ | with_reducible refine WB.nt ?_ | with_reducible refine WB.nf ?_ | with_reducible refine WB.dec (fun h => ?_) (fun h => ?_) | with_reducible refine WB.ndec (fun h => ?_) (fun h => ?_) | refine WB.mk (fun h => ?_) (fun h => ?_)) <;> conv => whnf)
      all_goals first
        | (exfalso; omega)
        | skip
      all_goals
        refine WSt.eqrN [upT (upT m.h _ 0) _ 0 0, upT (upT m.h _ 0) _ 0 1, upT (upT m.h _ 0) _ 0 2, upT (upT m.h _ 0) _ 0 3, upT (upT m.h _ 0) _ 0 4, upT (upT m.h _ 0) _ 0 5, upT (upT m.h _ 0) _ 0 6, upT (upT m.h _ 0) _ 0 7] [m.h 0, m.h 1, m.h 2, m.h 3, m.h 4, m.h 5, m.h 6, m.h 7] rfl rfl rfl rfl (by intro x hx; simp only [List.mem_cons, List.not_mem_nil, or_false] at hx; rcases hx with rfl | rfl | rfl | rfl | rfl | rfl | rfl | rfl <;> exact wf_hund (hG _)) (by intro x hx; simp only [List.mem_cons, List.not_mem_nil, or_false] at hx; rcases hx with rfl | rfl | rfl | rfl | rfl | rfl | rfl | rfl <;> exact wf_hund (hH _)) (r := true) (by first | exact ltwo 0 hne | exact ltwo 1 hne | exact ltwo 2 hne | exact ltwo 3 hne) ?_; conv => whnf
        repeat' first | ((first | with_reducible apply WB.tt | with_reducible apply WB.ff | refine Rn.seq ?_ | refine Rn.reg ?_ | refine Rn.drw ?_ | refine Rn.blk ?_ | refine Rn.skip ?_ | refine Rn.ret ?_ | refine Rn.exit ?_ | refine Rn.cond rfl ?_ | refine And.intro (InR.i64 (by omega) (by omega)) ?_ | refine And.intro (show _ ≠ (0 : Int) by omega) ?_ | refine WIx.intsN (by omega) ?_ | refine WIx.rowsN (by omega) ?_ | with_reducible refine WB.decT (by first | with_reducible rfl | assumption | omega | exact ⟨rfl, rfl⟩) ?_ | with_reducible refine WB.decF (by first | assumption | omega) ?_ | with_reducible refine WB.ndT (by first | with_reducible rfl | assumption | omega | exact ⟨rfl, rfl⟩) ?_ | with_reducible refine WB.ndF (by first | assumption | omega) ?_ | with_reducible refine WB.nt ?_ | with_reducible refine WB.nf ?_ | with_reducible refine WB.dec (fun h => ?_) (fun h => ?_) | with_reducible refine WB.ndec (fun h => ?_) (fun h => ?_) | refine WB.mk (fun h => ?_) (fun h => ?_)) <;> conv => whnf)
        refine ⟨.inr rfl, _, rfl, ?_⟩
        refine .tp (.cons (.ag ?_) (.cons (.pu trivial) .nil))
        repeat' first | exact FzL.nil | refine FzL.cons ?_ ?_
        all_goals exact Fz.i rfl
set_option maxHeartbeats 4000000 in
theorem j_afterC (n coin box : Int) (ls : List Ln) (cs : List Ct) (m : Mo) (k : Int) (c t d : Nat) (h1 : 1 ≤ coin ∧ coin ≤ 99) (h2 : 0 ≤ m.n ∧ m.n ≤ 50) (h3 : -100000 ≤ m.box ∧ m.box ≤ 100000) (h4 : 0 ≤ m.mix ∧ m.mix ≤ 50) (hh : ∀ q, 0 ≤ m.h q ∧ m.h q ≤ 50) (hc : c = 0 ∨ c = 1 ∨ c = 2 ∨ c = 3) (hd : (t = 0 ∧ d = 4) ∨ (t = 1 ∧ d = 5) ∨ (t = 2 ∧ d = 6) ∨ (t = 3 ∧ d = 7)) (A : ¬ (k = 1 ∧ m.h c = 0 ∧ m.h d = 0)) (B : ¬ (k = 2 ∧ m.h c ≠ 0 ∧ m.h d ≠ 0)) :
    PureF Try.prog p109.ix [.ag [.i .i64 n, .i .i64 coin, .i .i64 box, .lst 3 (rows lnD ls), .lst 3 (rows ctD cs), .any], .ag (moD m), .ag [.i .i64 k, .i .i64 (c : Int), .i .i64 (t : Int)]] (.tp [.ag (moD (aftM coin m ⟨k, (c : Int), (t : Int)⟩).1), .b (aftM coin m ⟨k, (c : Int), (t : Int)⟩).2]) := by
  have w0 := hh 0
  have w1 := hh 1
  have w2 := hh 2
  have w3 := hh 3
  have w4 := hh 4
  have w5 := hh 5
  have w6 := hh 6
  have w7 := hh 7
  have hH : ∀ q, 0 ≤ m.h q ∧ m.h q ≤ 100 := fun q => by have := hh q; omega
  have ea : aftM coin m ⟨k, (c : Int), (t : Int)⟩ = (⟨m.n + 1, m.h, m.box, m.mix, ⟨k, (c : Int), (t : Int)⟩⟩, false) := by
    have hdt : d = 4 + t := by omega
    subst hdt
    unfold aftM
    exact (if_neg A).trans (if_neg B)
  rw [ea]
  unfold moD
  rcases hc with rfl | rfl | rfl | rfl <;> rcases hd with ⟨rfl, rfl⟩ | ⟨rfl, rfl⟩ | ⟨rfl, rfl⟩ | ⟨rfl, rfl⟩
  all_goals
    refine PureF.run fn108 (by simp) (by simp [PuL, PuE, Pu, pu_ints, pu_ln, pu_ct]) ?_; conv => whnf
    repeat' first | ((first | with_reducible apply WB.tt | with_reducible apply WB.ff | refine Rn.seq ?_ | refine Rn.reg ?_ | refine Rn.drw ?_ | refine Rn.blk ?_ | refine Rn.skip ?_ | refine Rn.ret ?_ | refine Rn.exit ?_ | refine Rn.cond rfl ?_ | refine And.intro (InR.i64 (by omega) (by omega)) ?_ | refine And.intro (show _ ≠ (0 : Int) by omega) ?_ | refine WIx.intsN (by omega) ?_ | refine WIx.rowsN (by omega) ?_ | with_reducible refine WB.decT (by first | with_reducible rfl | assumption | omega | exact ⟨rfl, rfl⟩) ?_ | with_reducible refine WB.decF (by first | assumption | omega) ?_ | with_reducible refine WB.ndT (by first | with_reducible rfl | assumption | omega | exact ⟨rfl, rfl⟩) ?_ | with_reducible refine WB.ndF (by first | assumption | omega) ?_ | with_reducible refine WB.nt ?_ | with_reducible refine WB.nf ?_ | with_reducible refine WB.dec (fun h => ?_) (fun h => ?_) | with_reducible refine WB.ndec (fun h => ?_) (fun h => ?_) | refine WB.mk (fun h => ?_) (fun h => ?_)) <;> conv => whnf)
    (first | refine WSt.ixaN (m := 0) rfl rfl (by omega) (by omega) ?_ | refine WSt.ixaN (m := 1) rfl rfl (by omega) (by omega) ?_ | refine WSt.ixaN (m := 2) rfl rfl (by omega) (by omega) ?_ | refine WSt.ixaN (m := 3) rfl rfl (by omega) (by omega) ?_ | refine WSt.ixaN (m := 4) rfl rfl (by omega) (by omega) ?_ | refine WSt.ixaN (m := 5) rfl rfl (by omega) (by omega) ?_ | refine WSt.ixaN (m := 6) rfl rfl (by omega) (by omega) ?_ | refine WSt.ixaN (m := 7) rfl rfl (by omega) (by omega) ?_); conv => whnf
    repeat' first | ((first | with_reducible apply WB.tt | with_reducible apply WB.ff | refine Rn.seq ?_ | refine Rn.reg ?_ | refine Rn.drw ?_ | refine Rn.blk ?_ | refine Rn.skip ?_ | refine Rn.ret ?_ | refine Rn.exit ?_ | refine Rn.cond rfl ?_ | refine And.intro (InR.i64 (by omega) (by omega)) ?_ | refine And.intro (show _ ≠ (0 : Int) by omega) ?_ | refine WIx.intsN (by omega) ?_ | refine WIx.rowsN (by omega) ?_ | with_reducible refine WB.decT (by first | with_reducible rfl | assumption | omega | exact ⟨rfl, rfl⟩) ?_ | with_reducible refine WB.decF (by first | assumption | omega) ?_ | with_reducible refine WB.ndT (by first | with_reducible rfl | assumption | omega | exact ⟨rfl, rfl⟩) ?_ | with_reducible refine WB.ndF (by first | assumption | omega) ?_ | with_reducible refine WB.nt ?_ | with_reducible refine WB.nf ?_ | with_reducible refine WB.dec (fun h => ?_) (fun h => ?_) | with_reducible refine WB.ndec (fun h => ?_) (fun h => ?_) | refine WB.mk (fun h => ?_) (fun h => ?_)) <;> conv => whnf)
    (first | refine WSt.ixaN (m := 0) rfl rfl (by omega) (by omega) ?_ | refine WSt.ixaN (m := 1) rfl rfl (by omega) (by omega) ?_ | refine WSt.ixaN (m := 2) rfl rfl (by omega) (by omega) ?_ | refine WSt.ixaN (m := 3) rfl rfl (by omega) (by omega) ?_ | refine WSt.ixaN (m := 4) rfl rfl (by omega) (by omega) ?_ | refine WSt.ixaN (m := 5) rfl rfl (by omega) (by omega) ?_ | refine WSt.ixaN (m := 6) rfl rfl (by omega) (by omega) ?_ | refine WSt.ixaN (m := 7) rfl rfl (by omega) (by omega) ?_); conv => whnf
    repeat' first | ((first | with_reducible apply WB.tt | with_reducible apply WB.ff | refine Rn.seq ?_ | refine Rn.reg ?_ | refine Rn.drw ?_ | refine Rn.blk ?_ | refine Rn.skip ?_ | refine Rn.ret ?_ | refine Rn.exit ?_ | refine Rn.cond rfl ?_ | refine And.intro (InR.i64 (by omega) (by omega)) ?_ | refine And.intro (show _ ≠ (0 : Int) by omega) ?_ | refine WIx.intsN (by omega) ?_ | refine WIx.rowsN (by omega) ?_ | with_reducible refine WB.decT (by first | with_reducible rfl | assumption | omega | exact ⟨rfl, rfl⟩) ?_ | with_reducible refine WB.decF (by first | assumption | omega) ?_ | with_reducible refine WB.ndT (by first | with_reducible rfl | assumption | omega | exact ⟨rfl, rfl⟩) ?_ | with_reducible refine WB.ndF (by first | assumption | omega) ?_ | with_reducible refine WB.nt ?_ | with_reducible refine WB.nf ?_ | with_reducible refine WB.dec (fun h => ?_) (fun h => ?_) | with_reducible refine WB.ndec (fun h => ?_) (fun h => ?_) | refine WB.mk (fun h => ?_) (fun h => ?_)) <;> conv => whnf)
    all_goals first
      | (exfalso; omega)
      | skip
    all_goals
      refine WSt.eqrN [m.h 0, m.h 1, m.h 2, m.h 3, m.h 4, m.h 5, m.h 6, m.h 7] [m.h 0, m.h 1, m.h 2, m.h 3, m.h 4, m.h 5, m.h 6, m.h 7] rfl rfl rfl rfl (by intro x hx; simp only [List.mem_cons, List.not_mem_nil, or_false] at hx; rcases hx with rfl | rfl | rfl | rfl | rfl | rfl | rfl | rfl <;> exact wf_hund (hH _)) (by intro x hx; simp only [List.mem_cons, List.not_mem_nil, or_false] at hx; rcases hx with rfl | rfl | rfl | rfl | rfl | rfl | rfl | rfl <;> exact wf_hund (hH _)) (r := false) (by simp) ?_; conv => whnf
      repeat' first | ((first | with_reducible apply WB.tt | with_reducible apply WB.ff | refine Rn.seq ?_ | refine Rn.reg ?_ | refine Rn.drw ?_ | refine Rn.blk ?_ | refine Rn.skip ?_ | refine Rn.ret ?_ | refine Rn.exit ?_ | refine Rn.cond rfl ?_ | refine And.intro (InR.i64 (by omega) (by omega)) ?_ | refine And.intro (show _ ≠ (0 : Int) by omega) ?_ | refine WIx.intsN (by omega) ?_ | refine WIx.rowsN (by omega) ?_ | with_reducible refine WB.decT (by first | with_reducible rfl | assumption | omega | exact ⟨rfl, rfl⟩) ?_ | with_reducible refine WB.decF (by first | assumption | omega) ?_ | with_reducible refine WB.ndT (by first | with_reducible rfl | assumption | omega | exact ⟨rfl, rfl⟩) ?_ | with_reducible refine WB.ndF (by first | assumption | omega) ?_ | with_reducible refine WB.nt ?_ | with_reducible refine WB.nf ?_ | with_reducible refine WB.dec (fun h => ?_) (fun h => ?_) | with_reducible refine WB.ndec (fun h => ?_) (fun h => ?_) | refine WB.mk (fun h => ?_) (fun h => ?_)) <;> conv => whnf)
      refine ⟨.inr rfl, _, rfl, ?_⟩
      refine .tp (.cons (.ag ?_) (.cons (.pu trivial) .nil))
      repeat' first | exact FzL.nil | refine FzL.cons ?_ ?_
      all_goals exact Fz.i rfl
theorem j_after (n coin box : Int) (ls : List Ln) (cs : List Ct) (m : Mo) (l : Ln) (h1 : 1 ≤ coin ∧ coin ≤ 99) (h2 : 0 ≤ m.n ∧ m.n ≤ 50) (h3 : -100000 ≤ m.box ∧ m.box ≤ 100000) (h4 : 0 ≤ m.mix ∧ m.mix ≤ 50) (hh : ∀ q, 0 ≤ m.h q ∧ m.h q ≤ 50) (hc : 0 ≤ l.c ∧ l.c ≤ 3) (ht : 0 ≤ l.t ∧ l.t ≤ 3) :
    PureF Try.prog p109.ix [.ag [.i .i64 n, .i .i64 coin, .i .i64 box, .lst 3 (rows lnD ls), .lst 3 (rows ctD cs), .any], .ag (moD m), .ag [.i .i64 l.k, .i .i64 l.c, .i .i64 l.t]] (.tp [.ag (moD (aftM coin m l).1), .b (aftM coin m l).2]) := by
  obtain ⟨k, c, t⟩ := l
  obtain ⟨c', hc'⟩ : ∃ c' : Nat, c = (c' : Int) := ⟨c.toNat, by have : 0 ≤ c := hc.1; omega⟩
  obtain ⟨t', ht'⟩ : ∃ t' : Nat, t = (t' : Int) := ⟨t.toNat, by have : 0 ≤ t := ht.1; omega⟩
  subst hc' ht'
  have hc : (c' : Int) ≤ 3 := hc.2
  have ht : (t' : Int) ≤ 3 := ht.2
  by_cases A : k = 1 ∧ m.h c' = 0 ∧ m.h (4 + t') = 0
  · exact j_afterA n coin box ls cs m k c' t' (4 + t') h1 h2 h3 h4 hh (by omega) (by omega) A
  · by_cases B : k = 2 ∧ m.h c' ≠ 0 ∧ m.h (4 + t') ≠ 0
    · exact j_afterB n coin box ls cs m k c' t' (4 + t') h1 h2 h3 h4 hh (by omega) (by omega) B
    · exact j_afterC n coin box ls cs m k c' t' (4 + t') h1 h2 h3 h4 hh (by omega) (by omega) A B
end Go.Ev
