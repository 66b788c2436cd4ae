import Derived.Test.YtmlpgfmbhpefmaaEvLf
import Derived.Test.YtmlpgfmbhpefmaaEvKv
import Derived.Test.YtmlpgfmbhpefmaaEvBk
set_option linter.all false
namespace Go.Ev
open Go.Proofs
set_option maxRecDepth 100000
section
variable {sl : T D} {ob : T C} {nx : Pos} {lg : Option (T Bool)} {K : X → Prop}
theorem WSt.app_oneL {d id idy : Pos} {z st len len' cur curY : Nat} {roY : Bool} {x y : RX} {ds r : List D} {csY : List Cell} {ob2 : T C} (hx : opd sl x = some (.sl id 0 len st z)) (hy : opd sl y = some (.sl idy 0 1 0 z)) (hoy : ob.get idy = some (.cells roY csY curY)) (hcy : csY = r.map fun d => Cell.o d 0) (hr : r.length = z) (hox : ob.get id = some (.cells false (ds.map fun d => Cell.o d st) cur)) (hds : ds.length = len * z) (hcur : cur = st + 1) (hlen : len' = len + 1) (hmax : len < 2147483648)
    (hob2 : T.set id (.cells false ((ds.map fun d => Cell.o d st) ++ r.map fun d => Cell.o d cur) (cur + 1)) ob = ob2) (h : lRK lg idy fun lg => lWK lg id fun lg => wOut sl ob2 nx lg d K (.sl id 0 len' cur z)) : WSt (.app d z x y) ⟨sl, ob, nx, lg⟩ K := by
  obtain ⟨l1, e1, h⟩ := lRK_ex h
  obtain ⟨l2, e2, h⟩ := lWK_ex h
  obtain ⟨h2, h3⟩ := wOut_ok h
  refine ⟨_, ?_, h3⟩
  show s_app d z x y sl ob nx lg = _
  unfold s_app
  rw [hx, hy]
  subst hcy hr hlen hob2
  have hb : Nat.beq r.length r.length = true := Nat.beq_refl _
  have hrd : readK (β := X) 0 (Nat.mul 1 r.length) (dropC 0 (r.map fun d => Cell.o d 0)) = fun k => k r := by
    rw [dropC_eq, List.drop_zero, show Nat.mul 1 r.length = r.length from Nat.one_mul _]
    have key : ∀ (l : List D) (k : List D → Option X), readK 0 l.length (l.map fun d => Cell.o d 0) k = k l := by
      intro l
      induction l with
      | nil => exact fun k => rfl
      | cons a l ih => exact fun k => ih fun ds => k (a :: ds)
    exact funext fun k => key r k
  simp only [srcK, hb, cond_true, hoy, hrd, logO, e1]
  simp only [hox]
  have hidx : Nat.add 0 (Nat.mul len r.length) = ds.length := by rw [hds]; exact Nat.zero_add _
  rw [hidx, growK_map ds cur _ hcur]
  simp only [List.append_nil, natK_eq, objOutK, e2, T.setK_eq]
  have e3 : Nat.add len (Nat.succ 0) = len + 1 := rfl
  rw [e3, Nat.ble_eq_true_of_le (show len + 1 ≤ 2147483648 from hmax)]
  exact h2
end
end Go.Ev

namespace Go.Ev
open Go.Proofs
set_option maxRecDepth 100000
section
variable {l : List Int} {cs : List Cnt} {wr off : Int}
end
end Go.Ev

namespace Go.Ev
open Go.Proofs
set_option maxRecDepth 100000
theorem WSt.app_empE {sl : T D} {ob : T C} {nx : Pos} {K : X → Prop} {d id : Pos} {z : Nat} {x y : RX} {es : List (List D)} (hx : opd sl x = some (.sl id 0 0 0 z)) (hox : ob.get id = some (.cells false [] 1)) (hy : opd sl y = some (.lst z es)) (hz : ∀ r ∈ es, r.length = z) (hlen : es.length ≤ 2147483648)
    (h : ∀ st w, T.setK id (.cells false (es.flatten.map fun d => Cell.o d st) (st + 1)) ob fun ob => T.setK id w .e fun L => wOut sl ob nx (some L) d K (.sl id 0 es.length st z)) : WSt (.app d z x y) ⟨sl, ob, nx, some .e⟩ K := by
  have hfl : es.flatten.length = es.length * z := by
    clear hlen hy h
    induction es with
    | nil => simp
    | cons r es ih => simp [ih (fun r h => hz r (by simp [h])), hz r (by simp), Nat.add_mul]; omega
  have hb : (Nat.beq z z && Nat.beq (List.length (List.flatten es)) (Nat.mul (List.length es) z)) = true := by
    rw [hfl]; simp
  cases hk : es.length with
  | zero =>
    have he : es = [] := List.length_eq_zero_iff.1 hk
    subst he
    have h0 := h 0 false
    rw [T.setK_eq, T.setK_eq] at h0
    have h0 : wOut sl (T.set id (C.cells false [] 1) ob) nx (some (T.set id false .e)) d K (D.sl id 0 0 0 z) := h0
    rw [T.set_get hox] at h0
    obtain ⟨h2, h3⟩ := wOut_ok h0
    refine ⟨_, ?_, h3⟩
    show s_app d z x y sl ob nx (some .e) = _
    unfold s_app
    rw [hx, hy]
    have hb : Nat.beq (List.length (List.flatten ([] : List (List D)))) (Nat.mul 0 z) = true := by simp
    have hg : (T.e : T Bool).get id = none := T.get_e id
    simp only [srcK, hb, cond_true, Bool.and_self, logO, List.length_nil, logR, hox, Nat.beq_refl, hg, T.setK_eq]
    exact h2
  | succ k =>
    have h1 := h 1 true
    rw [T.setK_eq, T.setK_eq] at h1
    obtain ⟨h2, h3⟩ := wOut_ok h1
    refine ⟨_, ?_, h3⟩
    show s_app d z x y sl ob nx (some .e) = _
    unfold s_app
    rw [hx, hy]
    rw [hk] at hlen h2 hb
    have hle : Nat.ble (Nat.add 0 (Nat.succ k)) 2147483648 = true := Nat.ble_eq_true_of_le (by simpa using hlen)
    have hb : Nat.beq (List.length (List.flatten es)) (Nat.mul (k + 1) z) = true := by rw [hfl, hk]; simp
    have hm : Nat.add 0 (Nat.mul 0 z) = 0 := by show 0 + 0 * z = 0; simp
    simp only [srcK, hk, hb, cond_true, logO, Nat.beq_refl, Bool.true_and, hle, hox, hm, growK_emp, natK_eq, objOutK, logW, T.setK_eq]
    have e1 : Nat.add 0 (Nat.succ k) = k + 1 := by show 0 + (k + 1) = k + 1; omega
    rw [e1]
    exact h2

theorem rows_snocZ (cs : List Cnt) (c : Cnt) : (rows cntD (cs ++ [c])).flatten = (rows cntD cs).flatten ++ cntD c := by simp [rows]
theorem wrong_snoc {cs : List Cnt} {x : Cnt} {off : Int} {t : List Int} (h : 0 ≤ wrongR (cs ++ [x]) off t) : 0 ≤ wrongR cs off t ∧ wrongR cs off t ≤ wrongR (cs ++ [x]) off t := by
  unfold wrongR at h ⊢
  rw [List.all_append, List.countP_append] at *
  split at h
  · rename_i h1
    rw [Bool.and_eq_true] at h1
    rw [if_pos h1.1, if_pos (by rw [h1.1, h1.2]; rfl)]
    omega
  · omega
theorem tru_snoc {l : List Int} {cs : List Cnt} {x : Cnt} {wr off : Int} : truR l (cs ++ [x]) wr off = (truR l cs wr off).filter (fitR l (cs ++ [x]) wr off) := by
  unfold truR
  rw [List.filter_filter]
  refine List.filter_congr fun t ht => ?_
  cases h : fitR l (cs ++ [x]) wr off t with
  | false => simp
  | true =>
    have : fitR l cs wr off t = true := by
      unfold fitR inB at h ⊢
      rw [Bool.and_eq_true, decide_eq_true_iff] at h ⊢
      have := wrong_snoc h.2.1
      exact ⟨h.1, by omega⟩
    rw [this]; rfl
theorem tru_snoc_mem {l : List Int} {cs : List Cnt} {x : Cnt} {wr off : Int} {t : List Int} (h : t ∈ truR l (cs ++ [x]) wr off) : t ∈ truR l cs wr off := by
  rw [tru_snoc] at h
  exact (List.mem_filter.1 h).1
theorem lf_filter (R : List (List Int)) (p : List Int → Bool) (i : Nat) : lfV (R.filter p) i ≤ lfV R i := by
  have key : ∀ v, (seenR (R.filter p) i v).length ≤ (seenR R i v).length := fun v => by
    unfold seenR
    rw [List.filter_filter]
    have e : R.filter (fun a => decide (a.getD i 0 = v) && p a) = (R.filter fun a => decide (a.getD i 0 = v)).filter p := by
      rw [List.filter_filter]
      refine List.filter_congr fun a _ => Bool.and_comm _ _
    rw [e]
    exact List.length_filter_le _ _
  have k0 := key 0
  have k1 := key 1
  unfold lfV
  omega
theorem look_filter {R : List (List Int)} {p : List Int → Bool} {n : Nat} (hR : R.length ≤ 1000) (hn : 0 < n) : (lookS (R.filter p) n).2 ≤ (lookS R n).2 := by
  obtain ⟨k, hk, e, _, _⟩ := lookS_spec R hR n hn
  obtain ⟨k', hk', e', ha', _⟩ := lookS_spec (R.filter p) (Nat.le_trans (List.length_filter_le _ _) hR) n hn
  rw [e, e']
  have h1 := ha' k hk
  have h2 := lf_filter R p k
  show lfV (R.filter p) k' ≤ lfV R k
  omega
theorem ver_snoc {R R1 : List (List Int)} {z : Nat} (hne : R1 ≠ []) (hs : ∀ t ∈ R1, t ∈ R) (hb : ∀ t ∈ R, Bits t) : verdR (yesP R z) R.length = 3 ∨ verdR (yesP R z) R.length = verdR (yesP R1 z) R1.length := by
  have bits : ∀ (Q : List (List Int)), (∀ t ∈ Q, Bits t) → Bits (Q.map fun x => x.getD z 0) := fun Q h y hy => by
    obtain ⟨t, ht, rfl⟩ := List.mem_map.1 hy
    exact bit_at (h t ht) z
  obtain ⟨_, _, h3, h4⟩ := bits_sum _ (bits R hb)
  obtain ⟨_, _, k3, k4⟩ := bits_sum _ (bits R1 fun t ht => hb t (hs t ht))
  rw [List.length_map] at h3 k3
  have hp := List.length_pos_iff.2 hne
  unfold yesP verdR
  by_cases ha : (R.map fun x => x.getD z 0).sum = (R.length : Int)
  · right
    rw [if_pos ha, if_pos (k3.2 fun y hy => by
      obtain ⟨t, ht, rfl⟩ := List.mem_map.1 hy
      exact h3.1 ha _ (List.mem_map.2 ⟨t, hs t ht, rfl⟩))]
  · rw [if_neg ha]
    by_cases hc : (R.map fun x => x.getD z 0).sum = 0
    · right
      have k0 : (R1.map fun x => x.getD z 0).sum = 0 := k4.2 fun y hy => by
        obtain ⟨t, ht, rfl⟩ := List.mem_map.1 hy
        exact h4.1 hc _ (List.mem_map.2 ⟨t, hs t ht, rfl⟩)
      rw [if_pos hc, k0, if_neg (by omega), if_pos rfl]
    · left
      rw [if_neg hc]
theorem least_snoc {l : List Int} {cs : List Cnt} {x : Cnt} {off : Int} (h : 0 ≤ leastF (cs ++ [x]) off (allR l)) : 0 ≤ leastF cs off (allR l) ∧ leastF cs off (allR l) ≤ leastF (cs ++ [x]) off (allR l) := by
  obtain ⟨b1, _, _⟩ := best_spec (cs ++ [x]) off (allR l) (-1)
  obtain ⟨_, _, c3⟩ := best_spec cs off (allR l) (-1)
  unfold leastF at h ⊢
  rcases b1 with b1 | ⟨t, ht, hw, he⟩
  · omega
  · have h2 := wrong_snoc hw
    have := c3 t ht h2.1
    omega
theorem bnd_snoc {R R1 : List (List Int)} {f t : Int} {n : Nat} (hne : R1 ≠ []) (hs : ∀ x ∈ R1, x ∈ R) (L : Lks f t n R) : loR f t R ≤ loR f t R1 ∧ hiR f t R1 ≤ hiR f t R := by
  have hR : R ≠ [] := fun e => by
    obtain ⟨x, hx⟩ := List.exists_mem_of_ne_nil _ hne
    have := hs x hx
    rw [e] at this; cases this
  obtain ⟨a1, _, _⟩ := bnd_spec hR (fun x hx => (L x hx).2.2)
  obtain ⟨_, ⟨x, hx, ex⟩, ⟨y, hy, ey⟩⟩ := bnd_spec hne (fun x hx => (L x (hs x hx)).2.2)
  have h1 := a1 x (hs x hx)
  have h2 := a1 y (hs y hy)
  omega
theorem c_insideZ (a b a' b' : Int) (h1 : a' ≤ a) (h2 : b ≤ b') : PureF Try.prog p58.ix [.ag [.i .i64 a, .i .i64 b], .ag [.i .i64 a', .i .i64 b']] (.b true) := by
  refine PureF.run fn57 (by simp) (by simp [PuL, PuE, Pu]) ?_; conv => whnf
  repeat' first | ((first | with_reducible apply WB.tt | with_reducible apply WB.ff | refine Rn.seq ?_ | refine Rn.reg ?_ | refine Rn.drw ?_ | refine Rn.blk ?_ | refine Rn.skip ?_ | refine Rn.ret ?_ | refine Rn.exit ?_ | refine Rn.cond rfl ?_ | refine And.intro (InR.i64 (by omega) (by omega)) ?_ | refine And.intro (show _ ≠ (0 : Int) by omega) ?_ | refine WIx.intsN (by omega) ?_ | refine WIx.rowsN (by omega) ?_ | with_reducible refine WB.decT (by first | with_reducible rfl | assumption | omega | exact ⟨rfl, rfl⟩) ?_ | with_reducible refine WB.decF (by first | assumption | omega) ?_ | with_reducible refine WB.ndT (by first | with_reducible rfl | assumption | omega | exact ⟨rfl, rfl⟩) ?_ | with_reducible refine WB.ndF (by first | assumption | omega) ?_ | with_reducible refine WB.nt ?_ | with_reducible refine WB.nf ?_ | with_reducible refine WB.dec (fun h => ?_) (fun h => ?_) | with_reducible refine WB.ndec (fun h => ?_) (fun h => ?_) | refine WB.mk (fun h => ?_) (fun h => ?_)) <;> conv => whnf)
  exact Fin.b rfl (decide_eq_true h2)
theorem truth_leastZ {l : List Int} {cs : List Cnt} {wr off : Int} (hF : faultR l cs wr off = 0) : truR l cs wr off ≠ [] ↔ 0 ≤ leastF cs off (allR l) ∧ leastF cs off (allR l) ≤ wr := by
  obtain ⟨b1, _, b3⟩ := best_spec cs off (allR l) (-1)
  constructor
  · intro h
    obtain ⟨t, ht⟩ := List.exists_mem_of_ne_nil _ h
    obtain ⟨h1, h2, h3⟩ := mem_truRy.1 ht
    have := b3 t (mem_allRy.2 h1) h2
    unfold leastF
    omega
  · rintro ⟨h1, h2⟩ h
    unfold leastF at h1 h2
    rcases b1 with b1 | ⟨t, ht, hw, b1⟩
    · omega
    · have : t ∈ truR l cs wr off := mem_truRy.2 ⟨mem_allRy.1 ht, hw, by omega⟩
      rw [h] at this
      cases this
def seqRz : RC → RC
  | .seq _ b => b
  | c => c
def moS (l : List Int) (cs : List Cnt) (wr off : Int) (x : Cnt) (a b : Int) : X := ⟨(.n (.n (.n .e (some (.i .u8 b)) .e) none (.n (.n .e (some (.pt (.i .h) 0 0)) .e) none .e)) none (.n (.n .e (some (.pt .h 0 0)) .e) (some (.i .u8 a)) .e)), (.n .e (some (rowC l cs wr off)) (.n .e (some (rowC l (cs ++ [x]) wr off)) .e)), .o (.o .h), none⟩
end Go.Ev

namespace Go.Ev
open Go.Proofs
set_option maxRecDepth 100000
theorem rowZ_sh {l : List Int} {wr off : Int} {d1 e1 : D} {B : Pos → Prop} {ob : T C} (h1 : Fz B ob d1 e1) : ShC B ob (.cells false [.o (.lst 1 (ints l)) 0, .o d1 0, .o (.i .i64 wr) 0, .o (.i .i64 off) 0] 1) (.cells false [.o (.lst 1 (ints l)) 0, .o e1 0, .o (.i .i64 wr) 0, .o (.i .i64 off) 0] 1) := by
  refine .cells fun k c' hc => ?_
  match k, hc with
  | 0, hc => cases hc; exact ⟨_, rfl, fun _ h => h, .pu (pu_ints _)⟩
  | 1, hc => cases hc; exact ⟨_, rfl, fun _ h => h, h1⟩
  | 2, hc => cases hc; exact ⟨_, rfl, fun _ h => h, .pu trivial⟩
  | 3, hc => cases hc; exact ⟨_, rfl, fun _ h => h, .pu trivial⟩
  | k + 4, hc => cases hc
theorem flat_three (cs : List Cnt) : ((rows cntD cs).flatten).length = cs.length * 3 := by
  have := cells3_length cs (Nat.le_refl _)
  unfold cells3 at this
  rwa [List.take_length] at this
end Go.Ev
