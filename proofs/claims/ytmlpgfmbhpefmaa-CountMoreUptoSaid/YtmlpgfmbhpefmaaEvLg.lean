import Derived.Test.YtmlpgfmbhpefmaaEvLf
import Derived.Test.YtmlpgfmbhpefmaaEvKv
import Derived.Test.YtmlpgfmbhpefmaaEvBk
set_option linter.all false
namespace Go.Ev
open Go.Proofs
set_option maxRecDepth 100000
section
variable {sl : T D} {ob : T C} {nx : Pos} {lg : Option (T Bool)} {K : X → Prop}
theorem WSt.app_oneL {d id idy : Pos} {z st len len' cur curY : Nat} {roY : Bool} {x y : RX} {ds r : List D} {csY : List Cell} {ob2 : T C} (hx : opd sl x = some (.sl id 0 len st z)) (hy : opd sl y = some (.sl idy 0 1 0 z)) (hoy : ob.get idy = some (.cells roY csY curY)) (hcy : csY = r.map fun d => Cell.o d 0) (hr : r.length = z) (hox : ob.get id = some (.cells false (ds.map fun d => Cell.o d st) cur)) (hds : ds.length = len * z) (hcur : cur = st + 1) (hlen : len' = len + 1) (hmax : len < 2147483648)
    (hob2 : T.set id (.cells false ((ds.map fun d => Cell.o d st) ++ r.map fun d => Cell.o d cur) (cur + 1)) ob = ob2) (h : lRK lg idy fun lg => lWK lg id fun lg => wOut sl ob2 nx lg d K (.sl id 0 len' cur z)) : WSt (.app d z x y) ⟨sl, ob, nx, lg⟩ K := by
  obtain ⟨l1, e1, h⟩ := lRK_ex h
  obtain ⟨l2, e2, h⟩ := lWK_ex h
  obtain ⟨h2, h3⟩ := wOut_ok h
  refine ⟨_, ?_, h3⟩
  show s_app d z x y sl ob nx lg = _
  unfold s_app
  rw [hx, hy]
  subst hcy hr hlen hob2
  have hb : Nat.beq r.length r.length = true := Nat.beq_refl _
  have hrd : readK (β := X) 0 (Nat.mul 1 r.length) (dropC 0 (r.map fun d => Cell.o d 0)) = fun k => k r := by
    rw [dropC_eq, List.drop_zero, show Nat.mul 1 r.length = r.length from Nat.one_mul _]
    have key : ∀ (l : List D) (k : List D → Option X), readK 0 l.length (l.map fun d => Cell.o d 0) k = k l := by
      intro l
      induction l with
      | nil => exact fun k => rfl
      | cons a l ih => exact fun k => ih fun ds => k (a :: ds)
    exact funext fun k => key r k
  simp only [srcK, hb, cond_true, hoy, hrd, logO, e1]
  simp only [hox]
  have hidx : Nat.add 0 (Nat.mul len r.length) = ds.length := by rw [hds]; exact Nat.zero_add _
  rw [hidx, growK_map ds cur _ hcur]
  simp only [List.append_nil, natK_eq, objOutK, e2, T.setK_eq]
  have e3 : Nat.add len (Nat.succ 0) = len + 1 := rfl
  rw [e3, Nat.ble_eq_true_of_le (show len + 1 ≤ 2147483648 from hmax)]
  exact h2
end
end Go.Ev

namespace Go.Ev
open Go.Proofs
set_option maxRecDepth 100000
section
variable {l : List Int} {cs : List Cnt} {wr off : Int}
end
end Go.Ev

namespace Go.Ev
open Go.Proofs
set_option maxRecDepth 100000
theorem WSt.app_empE {sl : T D} {ob : T C} {nx : Pos} {K : X → Prop} {d id : Pos} {z : Nat} {x y : RX} {es : List (List D)} (hx : opd sl x = some (.sl id 0 0 0 z)) (hox : ob.get id = some (.cells false [] 1)) (hy : opd sl y = some (.lst z es)) (hz : ∀ r ∈ es, r.length = z) (hlen : es.length ≤ 2147483648)
    (h : ∀ st w, T.setK id (.cells false (es.flatten.map fun d => Cell.o d st) (st + 1)) ob fun ob => T.setK id w .e fun L => wOut sl ob nx (some L) d K (.sl id 0 es.length st z)) : WSt (.app d z x y) ⟨sl, ob, nx, some .e⟩ K := by
  have hfl : es.flatten.length = es.length * z := by
    clear hlen hy h
    induction es with
    | nil => simp
    | cons r es ih => simp [ih (fun r h => hz r (by simp [h])), hz r (by simp), Nat.add_mul]; omega
  have hb : (Nat.beq z z && Nat.beq (List.length (List.flatten es)) (Nat.mul (List.length es) z)) = true := by
    rw [hfl]; simp
  cases hk : es.length with
  | zero =>
    have he : es = [] := List.length_eq_zero_iff.1 hk
    subst he
    have h0 := h 0 false
    rw [T.setK_eq, T.setK_eq] at h0
    have h0 : wOut sl (T.set id (C.cells false [] 1) ob) nx (some (T.set id false .e)) d K (D.sl id 0 0 0 z) := h0
    rw [T.set_get hox] at h0
    obtain ⟨h2, h3⟩ := wOut_ok h0
    refine ⟨_, ?_, h3⟩
    show s_app d z x y sl ob nx (some .e) = _
    unfold s_app
    rw [hx, hy]
    have hb : Nat.beq (List.length (List.flatten ([] : List (List D)))) (Nat.mul 0 z) = true := by simp
    have hg : (T.e : T Bool).get id = none := T.get_e id
    simp only [srcK, hb, cond_true, Bool.and_self, logO, List.length_nil, logR, hox, Nat.beq_refl, hg, T.setK_eq]
    exact h2
  | succ k =>
    have h1 := h 1 true
    rw [T.setK_eq, T.setK_eq] at h1
    obtain ⟨h2, h3⟩ := wOut_ok h1
    refine ⟨_, ?_, h3⟩
    show s_app d z x y sl ob nx (some .e) = _
    unfold s_app
    rw [hx, hy]
    rw [hk] at hlen h2 hb
    have hle : Nat.ble (Nat.add 0 (Nat.succ k)) 2147483648 = true := Nat.ble_eq_true_of_le (by simpa using hlen)
    have hb : Nat.beq (List.length (List.flatten es)) (Nat.mul (k + 1) z) = true := by rw [hfl, hk]; simp
    have hm : Nat.add 0 (Nat.mul 0 z) = 0 := by show 0 + 0 * z = 0; simp
    simp only [srcK, hk, hb, cond_true, logO, Nat.beq_refl, Bool.true_and, hle, hox, hm, growK_emp, natK_eq, objOutK, logW, T.setK_eq]
    have e1 : Nat.add 0 (Nat.succ k) = k + 1 := by show 0 + (k + 1) = k + 1; omega
    rw [e1]
    exact h2

theorem rows_snocZ (cs : List Cnt) (c : Cnt) : (rows cntD (cs ++ [c])).flatten = (rows cntD cs).flatten ++ cntD c := by simp [rows]
theorem wrong_snoc {cs : List Cnt} {x : Cnt} {off : Int} {t : List Int} (h : 0 ≤ wrongR (cs ++ [x]) off t) : 0 ≤ wrongR cs off t ∧ wrongR cs off t ≤ wrongR (cs ++ [x]) off t := by
  unfold wrongR at h ⊢
  rw [List.all_append, List.countP_append] at *
  split at h
  · rename_i h1
    rw [Bool.and_eq_true] at h1
    rw [if_pos h1.1, if_pos (by rw [h1.1, h1.2]; rfl)]
    omega
  · omega
theorem tru_snoc {l : List Int} {cs : List Cnt} {x : Cnt} {wr off : Int} : truR l (cs ++ [x]) wr off = (truR l cs wr off).filter (fitR l (cs ++ [x]) wr off) := by
  unfold truR
  rw [List.filter_filter]
  refine List.filter_congr fun t ht => ?_
  cases h : fitR l (cs ++ [x]) wr off t with
  | false => simp
  | true =>
    have : fitR l cs wr off t = true := by
      unfold fitR inB at h ⊢
      rw [Bool.and_eq_true, decide_eq_true_iff] at h ⊢
      have := wrong_snoc h.2.1
      exact ⟨h.1, by omega⟩
    rw [this]; rfl
theorem tru_snoc_mem {l : List Int} {cs : List Cnt} {x : Cnt} {wr off : Int} {t : List Int} (h : t ∈ truR l (cs ++ [x]) wr off) : t ∈ truR l cs wr off := by
  rw [tru_snoc] at h
  exact (List.mem_filter.1 h).1
theorem lf_filter (R : List (List Int)) (p : List Int → Bool) (i : Nat) : lfV (R.filter p) i ≤ lfV R i := by
  have key : ∀ v, (seenR (R.filter p) i v).length ≤ (seenR R i v).length := fun v => by
    unfold seenR
    rw [List.filter_filter]
    have e : R.filter (fun a => decide (a.getD i 0 = v) && p a) = (R.filter fun a => decide (a.getD i 0 = v)).filter p := by
      rw [List.filter_filter]
      refine List.filter_congr fun a _ => Bool.and_comm _ _
    rw [e]
    exact List.length_filter_le _ _
  have k0 := key 0
  have k1 := key 1
  unfold lfV
  omega
theorem look_filter {R : List (List Int)} {p : List Int → Bool} {n : Nat} (hR : R.length ≤ 1000) (hn : 0 < n) : (lookS (R.filter p) n).2 ≤ (lookS R n).2 := by
  obtain ⟨k, hk, e, _, _⟩ := lookS_spec R hR n hn
  obtain ⟨k', hk', e', ha', _⟩ := lookS_spec (R.filter p) (Nat.le_trans (List.length_filter_le _ _) hR) n hn
  rw [e, e']
  have h1 := ha' k hk
  have h2 := lf_filter R p k
  show lfV (R.filter p) k' ≤ lfV R k
  omega
theorem ver_snoc {R R1 : List (List Int)} {z : Nat} (hne : R1 ≠ []) (hs : ∀ t ∈ R1, t ∈ R) (hb : ∀ t ∈ R, Bits t) : verdR (yesP R z) R.length = 3 ∨ verdR (yesP R z) R.length = verdR (yesP R1 z) R1.length := by
  have bits : ∀ (Q : List (List Int)), (∀ t ∈ Q, Bits t) → Bits (Q.map fun x => x.getD z 0) := fun Q h y hy => by
    obtain ⟨t, ht, rfl⟩ := List.mem_map.1 hy
    exact bit_at (h t ht) z
  obtain ⟨_, _, h3, h4⟩ := bits_sum _ (bits R hb)
  obtain ⟨_, _, k3, k4⟩ := bits_sum _ (bits R1 fun t ht => hb t (hs t ht))
  rw [List.length_map] at h3 k3
  have hp := List.length_pos_iff.2 hne
  unfold yesP verdR
  by_cases ha : (R.map fun x => x.getD z 0).sum = (R.length : Int)
  · right
    rw [if_pos ha, if_pos (k3.2 fun y hy => by
      obtain ⟨t, ht, rfl⟩ := List.mem_map.1 hy
      exact h3.1 ha _ (List.mem_map.2 ⟨t, hs t ht, rfl⟩))]
  · rw [if_neg ha]
    by_cases hc : (R.map fun x => x.getD z 0).sum = 0
    · right
      have k0 : (R1.map fun x => x.getD z 0).sum = 0 := k4.2 fun y hy => by
        obtain ⟨t, ht, rfl⟩ := List.mem_map.1 hy
        exact h4.1 hc _ (List.mem_map.2 ⟨t, hs t ht, rfl⟩)
      rw [if_pos hc, k0, if_neg (by omega), if_pos rfl]
    · left
      rw [if_neg hc]
theorem least_snoc {l : List Int} {cs : List Cnt} {x : Cnt} {off : Int} (h : 0 ≤ leastF (cs ++ [x]) off (allR l)) : 0 ≤ leastF cs off (allR l) ∧ leastF cs off (allR l) ≤ leastF (cs ++ [x]) off (allR l) := by
  obtain ⟨b1, _, _⟩ := best_spec (cs ++ [x]) off (allR l) (-1)
  obtain ⟨_, _, c3⟩ := best_spec cs off (allR l) (-1)
  unfold leastF at h ⊢
  rcases b1 with b1 | ⟨t, ht, hw, he⟩
  · omega
  · have h2 := wrong_snoc hw
    have := c3 t ht h2.1
    omega
theorem bnd_snoc {R R1 : List (List Int)} {f t : Int} {n : Nat} (hne : R1 ≠ []) (hs : ∀ x ∈ R1, x ∈ R) (L : Lks f t n R) : loR f t R ≤ loR f t R1 ∧ hiR f t R1 ≤ hiR f t R := by
  have hR : R ≠ [] := fun e => by
    obtain ⟨x, hx⟩ := List.exists_mem_of_ne_nil _ hne
    have := hs x hx
    rw [e] at this; cases this
  obtain ⟨a1, _, _⟩ := bnd_spec hR (fun x hx => (L x hx).2.2)
  obtain ⟨_, ⟨x, hx, ex⟩, ⟨y, hy, ey⟩⟩ := bnd_spec hne (fun x hx => (L x (hs x hx)).2.2)
  have h1 := a1 x (hs x hx)
  have h2 := a1 y (hs y hy)
  omega
theorem c_insideZ (a b a' b' : Int) (h1 : a' ≤ a) (h2 : b ≤ b') : PureF Try.prog p58.ix [.ag [.i .i64 a, .i .i64 b], .ag [.i .i64 a', .i .i64 b']] (.b true) := by
  refine PureF.run fn57 (by simp) (by simp [PuL, PuE, Pu]) ?_; conv => whnf
  repeat' first | ((first | with_reducible apply WB.tt | with_reducible apply WB.ff | refine Rn.seq ?_ | refine Rn.reg ?_ | refine Rn.drw ?_ | refine Rn.blk ?_ | refine Rn.skip ?_ | refine Rn.ret ?_ | refine Rn.exit ?_ | refine Rn.cond rfl ?_ | refine And.intro (InR.i64 (by omega) (by omega)) ?_ | refine And.intro (show _ ≠ (0 : Int) by omega) ?_ | refine WIx.intsN (by omega) ?_ | refine WIx.rowsN (by omega) ?_ | with_reducible refine WB.decT (by first | with_reducible rfl | assumption | omega | exact ⟨rfl, rfl⟩) ?_ | with_reducible refine WB.decF (by first | assumption | omega) ?_ | with_reducible refine WB.ndT (by first | with_reducible rfl | assumption | omega | exact ⟨rfl, rfl⟩) ?_ | with_reducible refine WB.ndF (by first | assumption | omega) ?_ | with_reducible refine WB.nt ?_ | with_reducible refine WB.nf ?_ | with_reducible refine WB.dec (fun h => ?_) (fun h => ?_) | with_reducible refine WB.ndec (fun h => ?_) (fun h => ?_) | refine WB.mk (fun h => ?_) (fun h => ?_)) <;> conv => whnf)
  exact Fin.b rfl (decide_eq_true h2)
theorem truth_leastZ {l : List Int} {cs : List Cnt} {wr off : Int} (hF : faultR l cs wr off = 0) : truR l cs wr off ≠ [] ↔ 0 ≤ leastF cs off (allR l) ∧ leastF cs off (allR l) ≤ wr := by
  obtain ⟨b1, _, b3⟩ := best_spec cs off (allR l) (-1)
  constructor
  · intro h
    obtain ⟨t, ht⟩ := List.exists_mem_of_ne_nil _ h
    obtain ⟨h1, h2, h3⟩ := mem_truRy.1 ht
    have := b3 t (mem_allRy.2 h1) h2
    unfold leastF
    omega
  · rintro ⟨h1, h2⟩ h
    unfold leastF at h1 h2
    rcases b1 with b1 | ⟨t, ht, hw, b1⟩
    · omega
    · have : t ∈ truR l cs wr off := mem_truRy.2 ⟨mem_allRy.1 ht, hw, by omega⟩
      rw [h] at this
      cases this
def seqRz : RC → RC
  | .seq _ b => b
  | c => c
noncomputable def rc11R : RC := seqRz (seqRz (seqRz rc11))
def moS (l : List Int) (cs : List Cnt) (wr off : Int) (x : Cnt) (a b : Int) : X := ⟨(.n (.n (.n .e (some (.i .u8 b)) .e) none (.n (.n .e (some (.pt (.i .h) 0 0)) .e) none .e)) none (.n (.n .e (some (.pt .h 0 0)) .e) (some (.i .u8 a)) .e)), (.n .e (some (rowC l cs wr off)) (.n .e (some (rowC l (cs ++ [x]) wr off)) .e)), .o (.o .h), none⟩
set_option maxHeartbeats 8000000 in
theorem c_CountMoreR (l : List Int) (cs : List Cnt) (wr off : Int) (x : Cnt) (a b : Int) (ha : 0 ≤ a ∧ a ≤ 255) (hb : 0 ≤ b ∧ b ≤ 255) (hcn : cs.length ≤ 1048576) (AW : PureF Try.prog p20.ix [] (.b true)) : Rn Try.prog 253 rc11R (moS l cs wr off x a b) (Fin rs11 (.b true)) := by
  have e1 := ints_length l
  have e4 : (cs ++ [x]).length = cs.length + 1 := by simp
  have cD := c_ready l cs wr off
  have cD1 := c_ready l (cs ++ [x]) wr off
  conv => whnf
  cases hR : readyB l cs wr off with
  | false =>
    rw [hR] at cD
    repeat' first | ((first | with_reducible apply WB.tt | with_reducible apply WB.ff | refine Rn.seq ?_ | refine Rn.reg ?_ | refine Rn.drw ?_ | refine Rn.blk ?_ | refine Rn.skip ?_ | refine Rn.ret ?_ | refine Rn.exit ?_ | refine Rn.cond rfl ?_ | refine And.intro (InR.i64 (by omega) (by omega)) ?_ | refine And.intro (show _ ≠ (0 : Int) by omega) ?_ | refine WIx.intsN (by omega) ?_ | refine WIx.rowsN (by omega) ?_ | refine WCall.pure (cD) ?_ | refine WCall.pure (AW) ?_ | with_reducible refine WB.decT (by first | with_reducible rfl | assumption | omega | exact ⟨rfl, rfl⟩) ?_ | with_reducible refine WB.decF (by first | assumption | omega) ?_ | with_reducible refine WB.ndT (by first | with_reducible rfl | assumption | omega | exact ⟨rfl, rfl⟩) ?_ | with_reducible refine WB.ndF (by first | assumption | omega) ?_ | with_reducible refine WB.nt ?_ | with_reducible refine WB.nf ?_ | with_reducible refine WB.dec (fun h => ?_) (fun h => ?_) | with_reducible refine WB.ndec (fun h => ?_) (fun h => ?_) | refine WB.mk (fun h => ?_) (fun h => ?_)) <;> conv => whnf)
    all_goals first | exact Fin.b rfl rfl | (exfalso; omega) | exact absurd h (by decide)
  | true =>
  cases hR1 : readyB l (cs ++ [x]) wr off with
  | false =>
    rw [hR] at cD
    rw [hR1] at cD1
    repeat' first | ((first | with_reducible apply WB.tt | with_reducible apply WB.ff | refine Rn.seq ?_ | refine Rn.reg ?_ | refine Rn.drw ?_ | refine Rn.blk ?_ | refine Rn.skip ?_ | refine Rn.ret ?_ | refine Rn.exit ?_ | refine Rn.cond rfl ?_ | refine And.intro (InR.i64 (by omega) (by omega)) ?_ | refine And.intro (show _ ≠ (0 : Int) by omega) ?_ | refine WIx.intsN (by omega) ?_ | refine WIx.rowsN (by omega) ?_ | refine WCall.pure (cD) ?_ | refine WCall.pure (cD1) ?_ | refine WCall.pure (AW) ?_ | with_reducible refine WB.decT (by first | with_reducible rfl | assumption | omega | exact ⟨rfl, rfl⟩) ?_ | with_reducible refine WB.decF (by first | assumption | omega) ?_ | with_reducible refine WB.ndT (by first | with_reducible rfl | assumption | omega | exact ⟨rfl, rfl⟩) ?_ | with_reducible refine WB.ndF (by first | assumption | omega) ?_ | with_reducible refine WB.nt ?_ | with_reducible refine WB.nf ?_ | with_reducible refine WB.dec (fun h => ?_) (fun h => ?_) | with_reducible refine WB.ndec (fun h => ?_) (fun h => ?_) | refine WB.mk (fun h => ?_) (fun h => ?_)) <;> conv => whnf)
    all_goals first | exact Fin.b rfl rfl | (exfalso; omega) | exact absurd h (by decide)
  | true =>
  rw [hR] at cD
  rw [hR1] at cD1
  obtain ⟨h1, hF⟩ := ready_spec hR
  obtain ⟨h2, hF'⟩ := ready_spec hR1
  obtain ⟨f1, f2, f3, f4⟩ := fault0 hF
  obtain ⟨f1', f2', f3', f4'⟩ := fault0 hF'
  obtain ⟨g1, g2, g3⟩ := parted_spec f1 ha.1 hb.1
  have hu := thin_unk h1 hF
  have cR := c_Row l cs wr off (by omega) (by omega)
  have cR' := c_Row l (cs ++ [x]) wr off (by omega) (by omega)
  have cP := c_parted l cs wr off a b f1 (by omega) ha hb
  have cM := c_Least l cs wr off (by omega)
  have cM' := c_Least l (cs ++ [x]) wr off (by omega)
  have hls := least_snoc (l := l) (cs := cs) (x := x) (off := off)
  have hsub : ∀ t ∈ truR l (cs ++ [x]) wr off, t ∈ truR l cs wr off := fun t ht => tru_snoc_mem ht
  have cPl := c_Places l cs wr off (by omega)
  have cPl' := c_Places l (cs ++ [x]) wr off (by omega)
  have cK := c_Look l cs wr off (by omega)
  have cK' := c_Look l (cs ++ [x]) wr off (by omega)
  generalize pA l.length a b = A at *
  generalize pB l.length a b = B at *
  have cN := c_Looks l cs wr off A B (fun _ => hu)
  have cN' := c_Looks l (cs ++ [x]) wr off A B (fun _ => hu)
  clear h1 h2 hR hR1
  unfold leN leE at cM cM'
  rw [if_pos hF, if_pos hF] at cM
  rw [if_pos hF', if_pos hF'] at cM'
  have hlb := leastF_bd cs off (allR l)
  have hlb' := leastF_bd (cs ++ [x]) off (allR l)
  have tl := truR_len l cs wr off f2
  have htl := truth_leastZ hF
  have htl' := truth_leastZ hF'
  generalize leastF cs off (allR l) = m0 at *
  generalize leastF (cs ++ [x]) off (allR l) = m1 at *
  by_cases hm0 : m0 < 0
  · have hm1 : m1 < 0 := by omega
    rw [if_pos hm0, if_pos hm0] at cM
    rw [if_pos hm1, if_pos hm1] at cM'
    repeat' first | ((first | with_reducible apply WB.tt | with_reducible apply WB.ff | refine Rn.seq ?_ | refine Rn.reg ?_ | refine Rn.drw ?_ | refine Rn.blk ?_ | refine Rn.skip ?_ | refine Rn.ret ?_ | refine Rn.exit ?_ | refine Rn.cond rfl ?_ | refine And.intro (InR.i64 (by omega) (by omega)) ?_ | refine And.intro (show _ ≠ (0 : Int) by omega) ?_ | refine WIx.intsN (by omega) ?_ | refine WIx.rowsN (by omega) ?_ | refine WCall.pure (cD) ?_ | refine WCall.pure (cD1) ?_ | refine WCall.pure (cR) ?_ | refine WCall.pure (cR') ?_ | refine WCall.pure (cM) ?_ | refine WCall.pure (cM') ?_ | refine WCall.pure (AW) ?_ | with_reducible refine WB.decT (by first | with_reducible rfl | assumption | omega | exact ⟨rfl, rfl⟩) ?_ | with_reducible refine WB.decF (by first | assumption | omega) ?_ | with_reducible refine WB.ndT (by first | with_reducible rfl | assumption | omega | exact ⟨rfl, rfl⟩) ?_ | with_reducible refine WB.ndF (by first | assumption | omega) ?_ | with_reducible refine WB.nt ?_ | with_reducible refine WB.nf ?_ | with_reducible refine WB.dec (fun h => ?_) (fun h => ?_) | with_reducible refine WB.ndec (fun h => ?_) (fun h => ?_) | refine WB.mk (fun h => ?_) (fun h => ?_)) <;> conv => whnf)
    all_goals first | exact Fin.b rfl rfl | (exfalso; omega) | exact absurd h (by decide)
  rw [if_neg hm0, if_neg hm0] at cM
  by_cases hT1 : truR l (cs ++ [x]) wr off = []
  · have cC' := c_Chairs11 l (cs ++ [x]) wr off A B hF' g1 g2 g3 hT1
    have cC : ∃ (d : D) (e : Int), (e = 0 ∨ e = 11) ∧ (∃ u v : Int, d = .ag [.i .i64 u, .i .i64 v]) ∧ PureF Try.prog p30.ix [.ag [.lst 1 (ints l), .lst 3 (rows cntD cs), .i .i64 wr, .i .i64 off], .i .i64 A, .i .i64 B] (.tp [d, .i .i64 e]) := by
      by_cases hT : truR l cs wr off = []
      · exact ⟨_, 11, .inr rfl, ⟨_, _, rfl⟩, c_Chairs11 l cs wr off A B hF g1 g2 g3 hT⟩
      · exact ⟨_, 0, .inl rfl, ⟨_, _, rfl⟩, c_Chairs0 l cs wr off A B hF g1 g2 g3 hT⟩
    obtain ⟨_, e, he, ⟨u, v, rfl⟩, cC⟩ := cC
    by_cases hm1 : m1 < 0
    · rw [if_pos hm1, if_pos hm1] at cM'
      rcases he with rfl | rfl
      · repeat' first | ((first | with_reducible apply WB.tt | with_reducible apply WB.ff | refine Rn.seq ?_ | refine Rn.reg ?_ | refine Rn.drw ?_ | refine Rn.blk ?_ | refine Rn.skip ?_ | refine Rn.ret ?_ | refine Rn.exit ?_ | refine Rn.cond rfl ?_ | refine And.intro (InR.i64 (by omega) (by omega)) ?_ | refine And.intro (show _ ≠ (0 : Int) by omega) ?_ | refine WIx.intsN (by omega) ?_ | refine WIx.rowsN (by omega) ?_ | refine WCall.pure (cD) ?_ | refine WCall.pure (cD1) ?_ | refine WCall.pure (cR) ?_ | refine WCall.pure (cR') ?_ | refine WCall.pure (cM) ?_ | refine WCall.pure (cM') ?_ | refine WCall.pure (cP) ?_ | refine WCall.pure (cC) ?_ | refine WCall.pure (cC') ?_ | refine WCall.pure (AW) ?_ | with_reducible refine WB.decT (by first | with_reducible rfl | assumption | omega | exact ⟨rfl, rfl⟩) ?_ | with_reducible refine WB.decF (by first | assumption | omega) ?_ | with_reducible refine WB.ndT (by first | with_reducible rfl | assumption | omega | exact ⟨rfl, rfl⟩) ?_ | with_reducible refine WB.ndF (by first | assumption | omega) ?_ | with_reducible refine WB.nt ?_ | with_reducible refine WB.nf ?_ | with_reducible refine WB.dec (fun h => ?_) (fun h => ?_) | with_reducible refine WB.ndec (fun h => ?_) (fun h => ?_) | refine WB.mk (fun h => ?_) (fun h => ?_)) <;> conv => whnf)
        all_goals first | exact Fin.b rfl rfl | (exfalso; omega) | exact absurd h (by decide)
      · repeat' first | ((first | with_reducible apply WB.tt | with_reducible apply WB.ff | refine Rn.seq ?_ | refine Rn.reg ?_ | refine Rn.drw ?_ | refine Rn.blk ?_ | refine Rn.skip ?_ | refine Rn.ret ?_ | refine Rn.exit ?_ | refine Rn.cond rfl ?_ | refine And.intro (InR.i64 (by omega) (by omega)) ?_ | refine And.intro (show _ ≠ (0 : Int) by omega) ?_ | refine WIx.intsN (by omega) ?_ | refine WIx.rowsN (by omega) ?_ | refine WCall.pure (cD) ?_ | refine WCall.pure (cD1) ?_ | refine WCall.pure (cR) ?_ | refine WCall.pure (cR') ?_ | refine WCall.pure (cM) ?_ | refine WCall.pure (cM') ?_ | refine WCall.pure (cP) ?_ | refine WCall.pure (cC) ?_ | refine WCall.pure (cC') ?_ | refine WCall.pure (AW) ?_ | with_reducible refine WB.decT (by first | with_reducible rfl | assumption | omega | exact ⟨rfl, rfl⟩) ?_ | with_reducible refine WB.decF (by first | assumption | omega) ?_ | with_reducible refine WB.ndT (by first | with_reducible rfl | assumption | omega | exact ⟨rfl, rfl⟩) ?_ | with_reducible refine WB.ndF (by first | assumption | omega) ?_ | with_reducible refine WB.nt ?_ | with_reducible refine WB.nf ?_ | with_reducible refine WB.dec (fun h => ?_) (fun h => ?_) | with_reducible refine WB.ndec (fun h => ?_) (fun h => ?_) | refine WB.mk (fun h => ?_) (fun h => ?_)) <;> conv => whnf)
        all_goals first | exact Fin.b rfl rfl | (exfalso; omega) | exact absurd h (by decide)
    · rw [if_neg hm1, if_neg hm1] at cM'
      have hmm := hls (by omega)
      rcases he with rfl | rfl
      · repeat' first | ((first | with_reducible apply WB.tt | with_reducible apply WB.ff | refine Rn.seq ?_ | refine Rn.reg ?_ | refine Rn.drw ?_ | refine Rn.blk ?_ | refine Rn.skip ?_ | refine Rn.ret ?_ | refine Rn.exit ?_ | refine Rn.cond rfl ?_ | refine And.intro (InR.i64 (by omega) (by omega)) ?_ | refine And.intro (show _ ≠ (0 : Int) by omega) ?_ | refine WIx.intsN (by omega) ?_ | refine WIx.rowsN (by omega) ?_ | refine WCall.pure (cD) ?_ | refine WCall.pure (cD1) ?_ | refine WCall.pure (cR) ?_ | refine WCall.pure (cR') ?_ | refine WCall.pure (cM) ?_ | refine WCall.pure (cM') ?_ | refine WCall.pure (cP) ?_ | refine WCall.pure (cC) ?_ | refine WCall.pure (cC') ?_ | refine WCall.pure (AW) ?_ | with_reducible refine WB.decT (by first | with_reducible rfl | assumption | omega | exact ⟨rfl, rfl⟩) ?_ | with_reducible refine WB.decF (by first | assumption | omega) ?_ | with_reducible refine WB.ndT (by first | with_reducible rfl | assumption | omega | exact ⟨rfl, rfl⟩) ?_ | with_reducible refine WB.ndF (by first | assumption | omega) ?_ | with_reducible refine WB.nt ?_ | with_reducible refine WB.nf ?_ | with_reducible refine WB.dec (fun h => ?_) (fun h => ?_) | with_reducible refine WB.ndec (fun h => ?_) (fun h => ?_) | refine WB.mk (fun h => ?_) (fun h => ?_)) <;> conv => whnf)
        all_goals first | exact Fin.b rfl rfl | (exfalso; omega) | exact absurd h (by decide)
      · repeat' first | ((first | with_reducible apply WB.tt | with_reducible apply WB.ff | refine Rn.seq ?_ | refine Rn.reg ?_ | refine Rn.drw ?_ | refine Rn.blk ?_ | refine Rn.skip ?_ | refine Rn.ret ?_ | refine Rn.exit ?_ | refine Rn.cond rfl ?_ | refine And.intro (InR.i64 (by omega) (by omega)) ?_ | refine And.intro (show _ ≠ (0 : Int) by omega) ?_ | refine WIx.intsN (by omega) ?_ | refine WIx.rowsN (by omega) ?_ | refine WCall.pure (cD) ?_ | refine WCall.pure (cD1) ?_ | refine WCall.pure (cR) ?_ | refine WCall.pure (cR') ?_ | refine WCall.pure (cM) ?_ | refine WCall.pure (cM') ?_ | refine WCall.pure (cP) ?_ | refine WCall.pure (cC) ?_ | refine WCall.pure (cC') ?_ | refine WCall.pure (AW) ?_ | with_reducible refine WB.decT (by first | with_reducible rfl | assumption | omega | exact ⟨rfl, rfl⟩) ?_ | with_reducible refine WB.decF (by first | assumption | omega) ?_ | with_reducible refine WB.ndT (by first | with_reducible rfl | assumption | omega | exact ⟨rfl, rfl⟩) ?_ | with_reducible refine WB.ndF (by first | assumption | omega) ?_ | with_reducible refine WB.nt ?_ | with_reducible refine WB.nf ?_ | with_reducible refine WB.dec (fun h => ?_) (fun h => ?_) | with_reducible refine WB.ndec (fun h => ?_) (fun h => ?_) | refine WB.mk (fun h => ?_) (fun h => ?_)) <;> conv => whnf)
        all_goals first | exact Fin.b rfl rfl | (exfalso; omega) | exact absurd h (by decide)
  · have hT : truR l cs wr off ≠ [] := fun e => by
      obtain ⟨t, ht⟩ := List.exists_mem_of_ne_nil _ hT1
      have := hsub t ht
      rw [e] at this; cases this
    have hm1 : ¬ m1 < 0 := by have := htl'.1 hT1; omega
    have hmm := hls (by omega)
    rw [if_neg hm1, if_neg hm1] at cM'
    have cC := c_Chairs0 l cs wr off A B hF g1 g2 g3 hT
    have cC' := c_Chairs0 l (cs ++ [x]) wr off A B hF' g1 g2 g3 hT1
    have L := tru_lks (f := A) (t := B) hF g1 g2 g3
    obtain ⟨i1, i2⟩ := bnd_snoc hT1 hsub L
    have cIn := c_insideZ _ _ _ _ i1 i2
    have hsE : sureE l cs wr off = 0 := by unfold sureE; rw [if_pos hF, if_neg hT]
    have hsE' : sureE l (cs ++ [x]) wr off = 0 := by unfold sureE; rw [if_pos hF', if_neg hT1]
    have hS : startE l cs wr off A B = 0 := by rw [startE_in hF g1 g2 g3, if_neg hT]
    have hS' : startE l (cs ++ [x]) wr off A B = 0 := by rw [startE_in hF' g1 g2 g3, if_neg hT1]
    unfold looksN at cN cN'
    rw [hS, if_pos rfl] at cN
    rw [hS', if_pos rfl] at cN'
    have hlk := lk_sub hT1 L hsub
    unfold lkP1 lkP2 at cK cK'
    rw [hsE, if_pos rfl, if_pos rfl] at cK
    rw [hsE', if_pos rfl, if_pos rfl] at cK'
    have hlf := look_filter (R := truR l cs wr off) (p := fitR l (cs ++ [x]) wr off) (n := l.length) (by omega) f1
    rw [← tru_snoc] at hlf
    have hpl : plL l cs wr off = (List.range l.length).map fun i => verdR (yesP (truR l cs wr off) i) (truR l cs wr off).length := by unfold plL; rw [if_pos hsE]
    have hpl' : plL l (cs ++ [x]) wr off = (List.range l.length).map fun i => verdR (yesP (truR l (cs ++ [x]) wr off) i) (truR l (cs ++ [x]) wr off).length := by unfold plL; rw [if_pos hsE']
    have hvz : ∀ z, z < l.length → (plL l cs wr off).getD z 0 = 3 ∨ (plL l cs wr off).getD z 0 = (plL l (cs ++ [x]) wr off).getD z 0 := fun z hz => by
      rw [hpl, hpl', map_range_get _ hz, map_range_get _ hz]
      exact ver_snoc hT1 hsub fun t ht => (truR_mem t ht).2
    have hPl : (ints (plL l cs wr off)).length = l.length := by rw [ints_length, hpl]; simp
    have hQl : (ints (plL l (cs ++ [x]) wr off)).length = l.length := by rw [ints_length, hpl']; simp
    have hPl2 : (plL l cs wr off).length = l.length := by rw [hpl]; simp
    have hQl2 : (plL l (cs ++ [x]) wr off).length = l.length := by rw [hpl']; simp
    rw [hsE] at cPl
    rw [hsE'] at cPl'
    generalize plL l cs wr off = Pz at *
    generalize plL l (cs ++ [x]) wr off = Qz at *
    generalize (lookS (truR l cs wr off) l.length).1 = k1 at *
    generalize (lookS (truR l cs wr off) l.length).2 = k2 at *
    generalize (lookS (truR l (cs ++ [x]) wr off) l.length).1 = k3 at *
    generalize (lookS (truR l (cs ++ [x]) wr off) l.length).2 = k4 at *
    generalize lkN A B l.length (truR l cs wr off) = n1 at *
    generalize lkN A B l.length (truR l (cs ++ [x]) wr off) = n2 at *
    generalize loR A B (truR l cs wr off) = lo at *
    generalize hiR A B (truR l cs wr off) = hi at *
    generalize loR A B (truR l (cs ++ [x]) wr off) = lo1 at *
    generalize hiR A B (truR l (cs ++ [x]) wr off) = hi1 at *
    repeat' first | ((first | with_reducible apply WB.tt | with_reducible apply WB.ff | refine Rn.seq ?_ | refine Rn.reg ?_ | refine Rn.drw ?_ | refine Rn.blk ?_ | refine Rn.skip ?_ | refine Rn.ret ?_ | refine Rn.exit ?_ | refine Rn.cond rfl ?_ | refine And.intro (InR.i64 (by omega) (by omega)) ?_ | refine And.intro (show _ ≠ (0 : Int) by omega) ?_ | refine WIx.intsN (by omega) ?_ | refine WIx.rowsN (by omega) ?_ | refine WCall.pure (cD) ?_ | refine WCall.pure (cD1) ?_ | refine WCall.pure (cR) ?_ | refine WCall.pure (cR') ?_ | refine WCall.pure (cM) ?_ | refine WCall.pure (cM') ?_ | refine WCall.pure (cP) ?_ | refine WCall.pure (cC) ?_ | refine WCall.pure (cC') ?_ | refine WCall.pure (cPl) ?_ | refine WCall.pure (cPl') ?_ | refine WCall.pure (cK) ?_ | refine WCall.pure (cK') ?_ | refine WCall.pure (cN) ?_ | refine WCall.pure (cN') ?_ | refine WCall.pure (cIn) ?_ | with_reducible refine WB.decT (by first | with_reducible rfl | assumption | omega | exact ⟨rfl, rfl⟩) ?_ | with_reducible refine WB.decF (by first | assumption | omega) ?_ | with_reducible refine WB.ndT (by first | with_reducible rfl | assumption | omega | exact ⟨rfl, rfl⟩) ?_ | with_reducible refine WB.ndF (by first | assumption | omega) ?_ | with_reducible refine WB.nt ?_ | with_reducible refine WB.nf ?_ | with_reducible refine WB.dec (fun h => ?_) (fun h => ?_) | with_reducible refine WB.ndec (fun h => ?_) (fun h => ?_) | refine WB.mk (fun h => ?_) (fun h => ?_)) <;> conv => whnf)
    refine Rn.loop (fun z : Nat => ⟨(.n .e none (.n (.n .e none (.n (.n .e (some (.lst 1 (ints Pz))) .e) none .e)) none (.n (.n (.n (.n .e (some (.i .i64 (z : Int))) .e) none .e) none .e) none (.n (.n .e (some (.lst 1 (ints Qz))) .e) none .e)))), .e, .o (.i .h), none⟩) (fun z => z ≤ l.length) (fun z => l.length - z) 0 ?_ ?_ ?_
    · refine X.le.mk ?_ (T.le_e _) (Nat.le_refl _) rfl rfl
      (repeat' first | exact T.le_e _ | refine T.le_some ?_ rfl ?_ | refine T.le_none ?_ ?_)
    · exact Nat.zero_le _
    intro z hz
    have hz : z ≤ l.length := hz
    conv => whnf
    repeat' first | ((first | with_reducible apply WB.tt | with_reducible apply WB.ff | refine Rn.seq ?_ | refine Rn.reg ?_ | refine Rn.drw ?_ | refine Rn.blk ?_ | refine Rn.skip ?_ | refine Rn.ret ?_ | refine Rn.exit ?_ | refine Rn.cond rfl ?_ | refine And.intro (InR.i64 (by omega) (by omega)) ?_ | refine And.intro (show _ ≠ (0 : Int) by omega) ?_ | refine WIx.intsN (by omega) ?_ | refine WIx.rowsN (by omega) ?_) <;> conv => whnf)
    refine WB.dec (fun h => ?_) (fun h => ?_) <;> conv => whnf
    · have hlt : z < l.length := by omega
      have hv := hvz z hlt
      repeat' first | ((first | with_reducible apply WB.tt | with_reducible apply WB.ff | refine Rn.seq ?_ | refine Rn.reg ?_ | refine Rn.drw ?_ | refine Rn.blk ?_ | refine Rn.skip ?_ | refine Rn.ret ?_ | refine Rn.exit ?_ | refine Rn.cond rfl ?_ | refine And.intro (InR.i64 (by omega) (by omega)) ?_ | refine And.intro (show _ ≠ (0 : Int) by omega) ?_ | refine WIx.intsN (by omega) ?_ | refine WIx.rowsN (by omega) ?_ | with_reducible refine WB.decT (by first | with_reducible rfl | assumption | omega | exact ⟨rfl, rfl⟩) ?_ | with_reducible refine WB.decF (by first | assumption | omega) ?_ | with_reducible refine WB.ndT (by first | with_reducible rfl | assumption | omega | exact ⟨rfl, rfl⟩) ?_ | with_reducible refine WB.ndF (by first | assumption | omega) ?_ | with_reducible refine WB.nt ?_ | with_reducible refine WB.nf ?_ | with_reducible refine WB.dec (fun h => ?_) (fun h => ?_) | with_reducible refine WB.ndec (fun h => ?_) (fun h => ?_) | refine WB.mk (fun h => ?_) (fun h => ?_)) <;> conv => whnf)
      all_goals first
        | (refine Again.to (z + 1) (by omega) (by omega) (Nat.le_refl _) ?_
           refine Shr.of ?_ Rel.e rfl rfl
           (repeat' first | exact Rel.e | refine Rel.some ?_ ?_ ?_ | refine Rel.none ?_ ?_ | refine Rel.ee ?_ ?_)
           all_goals show Fz _ _ _ _
           all_goals first | exact .pu trivial | exact .pu (pu_ints _))
        | (exfalso; omega)
        | skip
    · repeat' first | ((first | with_reducible apply WB.tt | with_reducible apply WB.ff | refine Rn.seq ?_ | refine Rn.reg ?_ | refine Rn.drw ?_ | refine Rn.blk ?_ | refine Rn.skip ?_ | refine Rn.ret ?_ | refine Rn.exit ?_ | refine Rn.cond rfl ?_ | refine And.intro (InR.i64 (by omega) (by omega)) ?_ | refine And.intro (show _ ≠ (0 : Int) by omega) ?_ | refine WIx.intsN (by omega) ?_ | refine WIx.rowsN (by omega) ?_ | refine WCall.pure (AW) ?_) <;> conv => whnf)
      exact Fin.b rfl rfl
end Go.Ev

namespace Go.Ev
open Go.Proofs
set_option maxRecDepth 100000
theorem rowZ_sh {l : List Int} {wr off : Int} {d1 e1 : D} {B : Pos → Prop} {ob : T C} (h1 : Fz B ob d1 e1) : ShC B ob (.cells false [.o (.lst 1 (ints l)) 0, .o d1 0, .o (.i .i64 wr) 0, .o (.i .i64 off) 0] 1) (.cells false [.o (.lst 1 (ints l)) 0, .o e1 0, .o (.i .i64 wr) 0, .o (.i .i64 off) 0] 1) := by
  refine .cells fun k c' hc => ?_
  match k, hc with
  | 0, hc => cases hc; exact ⟨_, rfl, fun _ h => h, .pu (pu_ints _)⟩
  | 1, hc => cases hc; exact ⟨_, rfl, fun _ h => h, h1⟩
  | 2, hc => cases hc; exact ⟨_, rfl, fun _ h => h, .pu trivial⟩
  | 3, hc => cases hc; exact ⟨_, rfl, fun _ h => h, .pu trivial⟩
  | k + 4, hc => cases hc
theorem flat_three (cs : List Cnt) : ((rows cntD cs).flatten).length = cs.length * 3 := by
  have := cells3_length cs (Nat.le_refl _)
  unfold cells3 at this
  rwa [List.take_length] at this
end Go.Ev
