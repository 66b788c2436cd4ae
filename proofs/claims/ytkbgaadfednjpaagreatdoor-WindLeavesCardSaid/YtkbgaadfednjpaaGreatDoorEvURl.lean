import Derived.Test.YtkbgaadfednjpaaGreatDoorEvUDs
set_option linter.all false
set_option maxHeartbeats 8000000
noncomputable section
namespace Go.Ev
open Go.RowKit (Below)
inductive OR (P : Program) : RO -> X -> X -> Prop where
 | st {r : RO} {x Z : X} (h : step r x.sl x.ob x.nx x.lg = some Z) : OR P r x Z
 | cf {d : Option Pos} {f : Pos} {xs : List RX} {x Z : X} {ds : List D} {v : D} {ob' : T C} {nx' : Pos} {lg' : Option (T Bool)} (h1 : pK x.sl xs = some ds) (h2 : CallOk P f.ix ds x.ob x.nx x.lg v ob' nx' lg') (h3 : iY x.sl ob' nx' lg' d v = some Z) : OR P (.cf d f xs) x Z
 | cv {d : Option Pos} {g : RX} {xs : List RX} {x Z : X} {f : Pos} {first caps ds : List D} {v : D} {ob' : T C} {nx' : Pos} {lg' : Option (T Bool)} (h0 : bC x.sl g = some (.fn f first caps)) (h1 : pK x.sl xs = some ds) (h2 : CallOk P f.ix (first ++ (ds ++ caps)) x.ob x.nx x.lg v ob' nx' lg') (h3 : iY x.sl ob' nx' lg' d v = some Z) : OR P (.cv d g xs) x Z
 | cy {d : Option Pos} {g : RX} {xs : List RX} {x Z : X} {id : Pos} {ds : List D} {v : D} {ob' : T C} {nx' : Pos} {lg' : Option (T Bool)} (h0 : bC x.sl g = some (.yl id)) (h1 : pK x.sl xs = some ds) (h2 : RndOk P id ds x.ob x.nx x.lg v ob' nx' lg') (h3 : iY x.sl ob' nx' lg' d v = some Z) : OR P (.cv d g xs) x Z
inductive GR (P : Program) : RG -> X -> X -> Prop where
 | u {r : RO} {x Z : X} (h : OR P r x Z) : GR P (.u r) x Z
 | t {p : Pos} {want : Bool} {d : Option Pos} {r : RO} {x Z : X} (hb : x.sl.get p = some (.b want)) (h : OR P r x Z) : GR P (.g p want d r) x Z
 | f {p : Pos} {want : Bool} {d : Option Pos} {r : RO} {x Z : X} (hb : x.sl.get p = some (.b (!want))) (h : iY x.sl x.ob x.nx x.lg d (.tp []) = some Z) : GR P (.g p want d r) x Z
 | n {p : Pos} {want : Bool} {d : Option Pos} {r : RO} {x Z : X} (hb : x.sl.get p = some (.tp [])) (h : iY x.sl x.ob x.nx x.lg d (.tp []) = some Z) : GR P (.g p want d r) x Z
inductive LRr (P : Program) : List RG -> X -> X -> Prop where
 | nil {x : X} : LRr P [] x x
 | cons {g : RG} {l : List RG} {x y Z : X} (h : GR P g x y) (k : LRr P l y Z) : LRr P (g :: l) x Z
section
variable {P : Program} {nt : Nat} {o : Oper} {sl : T D} {ob : T C} {nx : Pos} {lg : Option (T Bool)}
theorem HX {x Z : X} (h : OR P .bad x Z) : False := by
 cases h with
 | st h => cases h
theorem lK {r : RO} (hc : aH P nt o = some r) (h : (∃ d f xs, r = .cf d f xs) \/ ∃ d g xs, r = .cv d g xs) : ∃ y args tys, o.op = .call { callee := .value y, args := args, argTypes := tys } := by
 cases hop : o.op with
 | call c =>
   obtain ⟨callee, args, tys⟩ := c
   cases callee with
   | value y => exact ⟨y, args, tys, rfl⟩
   | invoke r m => simp only [aH, hop] at hc; cases hc
   | builtin b =>
     exfalso
     rcases h with ⟨d, f, xs, rfl⟩ | ⟨d, f, xs, rfl⟩ <;> (cases b <;> simp only [aH, hop] at hc <;> (repeat' split at hc) <;> first | contradiction | (cases hc; done) | (simp at hc; done) | (rw [Bool.cond_eq_ite] at hc; split at hc <;> simp at hc))
 | _ =>
   exfalso
   rcases h with ⟨d, f, xs, rfl⟩ | ⟨d, f, xs, rfl⟩ <;> (simp only [aH, hop] at hc <;> (repeat' split at hc) <;> first | contradiction | (cases hc; done) | (simp at hc; done) | (rw [Bool.cond_eq_ite] at hc; split at hc <;> simp at hc))
theorem GB {r : RO} {Z : X} (hc : aH P nt o = some r) (h : OR P r ⟨sl, ob, nx, lg⟩ Z) : OpOk P nt o r.ss ⟨sl, ob, nx, lg⟩ Z := by
 cases h with
 | st h => exact FY hc h
 | cf hds h2 h1 =>
   rename_i d f xs ds v ob' nx' lg'
   obtain ⟨y, args, tys, hop⟩ := lK hc (.inl ⟨_, _, _, rfl⟩)
   cases y with
   | func g =>
     simp only [aH, hop] at hc
     split at hc
     ·rename_i pf xs' hf hxs
      obtain ⟨dst, he, hd, hlt⟩ := gG (f := fun d => RO.cf d pf xs') hc
      cases he
      refine pP hd hlt h1 h2 fun {V γ a w} R hs => ?_
      refine ⟨args.map a.eval, ?_, fun hr => ?_⟩
      ·rw [Array.toList_map]
       exact fK hxs hds R fun s h => hs s h
      ·rw [cQ hf] at hr
       rw [cQ hf]
       simp [execOp, hop, resolve, Deferred.ofValue, Act.eval, invoke, hr]
     ·cases hc
   | _ =>
     exfalso
     simp only [aH, hop] at hc
     split at hc
     ·obtain ⟨dst, he, _⟩ := gG (f := fun d => RO.cv d _ _) hc
      cases he
     ·cases hc
 | cv hv hds h2 h1 =>
   rename_i d g xs f first caps ds v ob' nx' lg'
   obtain ⟨y, args, tys, hop⟩ := lK hc (.inr ⟨_, _, _, rfl⟩)
   have byValue : ∀ {pf : RX} {xs' : List RX} {dst : Option Pos}, rx y = some pf -> BP args.toList = some xs' -> o.dst = dst.map Pos.ix -> (∀ e, dst = some e -> e.ix < nt) -> RO.cv d g xs = .cv dst pf xs' -> OpOk P nt o (RO.cv d g xs).ss ⟨sl, ob, nx, lg⟩ Z := by
    intro pf xs' dst hf hxs hd hlt he
    cases he
    refine pP hd hlt h1 h2 fun {V γ a w} R hs => ?_
    obtain ⟨vx, vy, e1, e2, e3⟩ := qV (aB hf hv R fun s h => hs s (by simp [RO.ss, h]))
    refine ⟨vx ++ args.map a.eval ++ vy, ?_, fun hr => ?_⟩
    ·simp only [Array.toList_append, Array.toList_map, List.append_assoc]
     exact e2.append ((fK hxs hds R fun s h => hs s (by simp [RO.ss, h])).append e3)
    ·rw [Array.append_assoc] at hr
     simp [execOp, hop, resolve, Deferred.ofValue, e1, invoke, hr]
   cases y with
   | func g' =>
     exfalso
     simp only [aH, hop] at hc
     split at hc
     ·obtain ⟨dst, he, _⟩ := gG (f := fun d => RO.cf d _ _) hc
      cases he
     ·cases hc
   | _ =>
     simp only [aH, hop] at hc
     split at hc
     ·rename_i pf xs' hf hxs
      obtain ⟨dst, he, hd, hlt⟩ := gG (f := fun d => RO.cv d pf xs') hc
      exact byValue hf hxs hd hlt he
     ·cases hc
 | cy hv hds h2 h1 =>
   rename_i d g xs id ds v ob' nx' lg'
   obtain ⟨y, args, tys, hop⟩ := lK hc (.inr ⟨_, _, _, rfl⟩)
   have byValue : ∀ {pf : RX} {xs' : List RX} {dst : Option Pos}, rx y = some pf -> BP args.toList = some xs' -> o.dst = dst.map Pos.ix -> (∀ e, dst = some e -> e.ix < nt) -> RO.cv d g xs = .cv dst pf xs' -> OpOk P nt o (RO.cv d g xs).ss ⟨sl, ob, nx, lg⟩ Z := by
    intro pf xs' dst hf hxs hd hlt he
    cases he
    refine Co hd hlt h1 h2 fun {V γ a w} R hs => ?_
    have e1 := aB hf hv R fun s h => hs s (by simp [RO.ss, h])
    unfold DV at e1
    refine ⟨e1.1, args.map a.eval, ?_, fun x hr => ?_⟩
    ·rw [Array.toList_map]
     exact fK hxs hds R fun s h => hs s (by simp [RO.ss, h])
    ·simp [execOp, hop, resolve, Deferred.ofValue, e1.2, invoke, hr]
   cases y with
   | func g' =>
     exfalso
     simp only [aH, hop] at hc
     split at hc
     ·obtain ⟨dst, he, _⟩ := gG (f := fun d => RO.cf d _ _) hc
      cases he
     ·cases hc
   | _ =>
     simp only [aH, hop] at hc
     split at hc
     ·rename_i pf xs' hf hxs
      obtain ⟨dst, he, hd, hlt⟩ := gG (f := fun d => RO.cv d pf xs') hc
      exact byValue hf hxs hd hlt he
     ·cases hc
end
section
variable {P : Program} {nt : Nat} {ops : Array Oper} {o : Oper}
theorem nW {x Z : X} (h : GR P (.u .bad) x Z) : False := by
 cases h with
 | u h => exact HX h
theorem Ey {i : Nat} {x Z : X} (ho : ops[i]? = some o) (h : GR P (eS P nt ops o) x Z) : IOk P nt ops i (eS P nt ops o).ss x Z := by
 obtain ⟨sl, ob, nx, lg⟩ := x
 unfold eS at h ⊢
 split at h
 ·exact (nW h).elim
 ·rename_i r hr
  split at h
  ·rename_i hg
   cases h with
   | u h => exact IOk.of_op ho (fun V hV γ a w R => by simp [Region.wanted, hg]) (fun s hs => hs) (GB hr h)
  ·rename_i j want hg
   -- guarded
   have main : ∀ {oj : Oper} {t : Nat} {p : Pos} {d : Option Pos}, ops[j]? = some oj -> oj.dst = some t -> oN t = some p -> o.dst = d.map Pos.ix -> (∀ e, d = some e -> e.ix < nt) -> GR P (.g p want d r) ⟨sl, ob, nx, lg⟩ Z -> IOk P nt ops i (RG.g p want d r).ss ⟨sl, ob, nx, lg⟩ Z := by
    intro oj t p d hoj ht hp hd hlt h
    have hy : ∀ b, sl.get p = some (.b b) -> ∀ V : Sel, (∀ s, s ∈ (RG.g p want d r).ss -> V.ss s) -> ∀ γ a w, Rep P V γ a w ⟨sl, ob, nx, lg⟩ -> yielded ops a.tmps j = some b := by
     intro b hb V hV γ a w R
     obtain ⟨h1, h2⟩ := R.sl p _ (hV p List.mem_cons_self) hb
     rw [cQ hp] at h1 h2
     have h2 := pL h2
     simp only [yielded, hoj, ht, Option.bind_some]
     rw [Array.getD_eq_getD_getElem?] at h2
     rw [Array.getElem?_eq_getElem h1] at h2 ⊢
     simp only [Option.getD_some] at h2
     rw [h2]
    cases h with
    | t hb h =>
      refine IOk.of_op ho (fun V hV γ a w R => ?_) (fun s hs => List.mem_cons_of_mem _ hs) (GB hr h)
      simp only [Region.wanted, hg, hy _ hb V hV γ a w R]
      cases want <;> rfl
    | f hb h =>
      have hl := jW h
      refine ⟨hl.1 ▸ LgLe.refl _, hl.2.1 ▸ Nat.le_refl _, by rw [hl.2.2.1]; exact Keeps.refl _ _, fun s hs => hl.2.2.2 s (by rw [ho] at hs; rw [<- hd]; exact hs), fun V hV hto ro γ a w hn g R n K Q hK => ?_⟩
      have hwn : Region.wanted o (yielded ops a.tmps) = false := by
       simp only [Region.wanted, hg, hy _ hb V hV γ a w R]
       cases want <;> rfl
      simp only [wpOpIn, ho, hwn]
      simp only [ho, Option.bind_some] at hK
      refine ⟨fun _ _ => trivial, ?_⟩
      obtain ⟨_, _, s1, r1⟩ := kG (ro := ro) (u := undef) (a := a) hd (fun e he => by rw [hn]; exact hlt e he) R h (Fr.refl _ _ _) (fun a' ha => { g with df := by rw [ha]; exact g.df }) mN R.ob R.nx
      rw [<- hl.1] at s1
      exact hK γ _ w s1 r1
    | n hb h =>
      have hy : ∀ V : Sel, (∀ s, s ∈ (RG.g p want d r).ss -> V.ss s) -> ∀ γ a w, Rep P V γ a w ⟨sl, ob, nx, lg⟩ -> yielded ops a.tmps j = none := by
       intro V hV γ a w R
       obtain ⟨h1, h2⟩ := R.sl p _ (hV p List.mem_cons_self) hb
       rw [cQ hp] at h1 h2
       have h2 := tD h2
       simp only [yielded, hoj, ht, Option.bind_some]
       rw [Array.getD_eq_getD_getElem?] at h2
       rw [Array.getElem?_eq_getElem h1] at h2 ⊢
       simp only [Option.getD_some] at h2
       rw [h2]
      have h : iY sl ob nx lg d (.tp []) = some Z := h
      have hl := jW h
      refine ⟨hl.1 ▸ LgLe.refl _, hl.2.1 ▸ Nat.le_refl _, by rw [hl.2.2.1]; exact Keeps.refl _ _, fun s hs => hl.2.2.2 s (by rw [ho] at hs; rw [<- hd]; exact hs), fun V hV hto ro γ a w hn g R n K Q hK => ?_⟩
      have hwn : Region.wanted o (yielded ops a.tmps) = false := by
       simp only [Region.wanted, hg, hy V hV γ a w R]
       rfl
      simp only [wpOpIn, ho, hwn]
      simp only [ho, Option.bind_some] at hK
      refine ⟨fun _ _ => trivial, ?_⟩
      obtain ⟨_, _, s1, r1⟩ := kG (ro := ro) (u := undef) (a := a) hd (fun e he => by rw [hn]; exact hlt e he) R h (Fr.refl _ _ _) (fun a' ha => { g with df := by rw [ha]; exact g.df }) mN R.ob R.nx
      rw [<- hl.1] at s1
      exact hK γ _ w s1 r1
   split at h
   ·rename_i oj hoj
    split at h
    ·rename_i t ht
     split at h
     ·rename_i p hp
      split at h
      ·rename_i hd
       exact main hoj ht hp hd (fun e he => by cases he) h
      ·rename_i s hd
       split at h
       ·rename_i d hs
        obtain ⟨h1, h2⟩ := jP hs
        exact main (d := some d) hoj ht hp (by rw [hd, <- h1]; rfl) (fun e he => by cases he; rw [h1]; exact h2) h
       ·exact (nW h).elim
     ·exact (nW h).elim
    ·exact (nW h).elim
   ·exact (nW h).elim
theorem GG : ∀ (l pre : List Oper) {x Z : X}, ops.toList = pre ++ l -> LRr P (bS P nt ops l) x Z ->
 LgLe x.lg Z.lg /\ x.nx.nat <= Z.nx.nat /\ Keeps Z.lg x.ob Z.ob /\ ∀ so : Pos -> Prop, (∀ id, tchd Z.lg id -> so id) -> ∀ (ro : Option Nat) (γ : Gh) (a : Act) (w : World), a.tmps.size = nt -> G ro γ a w -> Rep P (eH so) γ a w x ->
 ∀ (n : Nat) (Q : Exit -> Act -> World -> Prop), (∀ γ' a' w', CSt ro Z.lg γ a w γ' a' w' -> Rep P (eH so) γ' a' w' Z -> Q .normal a' w') -> wpOpsIn (FW ro) n P ops Q (List.range' pre.length l.length) a w
 | [], pre, x, Z, ho, h => by
   cases h
   exact ⟨LgLe.refl _, Nat.le_refl _, Keeps.refl _ _, fun so hs ro γ a w hn g R n Q hQ => hQ γ a w (CSt.refl g) R⟩
 | o :: l, pre, x, Z, ho, h => by
   cases h with
   | cons hy h =>
     rename_i y
     have hoi : ops[pre.length]? = some o := by
      rw [<- Array.getElem?_toList, ho]; simp
     have I := Ey hoi hy
     obtain ⟨h1, h2, hk, h3⟩ := GG l (pre ++ [o]) (by rw [ho]; simp) h
     refine ⟨I.lg.trans h1, Nat.le_trans I.nx h2, I.obf.trans h1 hk, fun so hs ro γ a w hn g R n Q hQ => ?_⟩
     rw [List.length_cons, List.range'_succ, wpOpsIn_cons]
     refine I.ok (eH so) (fun _ _ => trivial) (fun id hid => hs id (h1.t id hid)) ro γ a w hn g R n _ Q fun γ1 a1 w1 s1 R1 => ?_
     have := h3 so hs ro γ1 a1 w1 (s1.sz.trans hn) s1.g R1 n Q fun γ2 a2 w2 s2 R2 => hQ γ2 a2 w2 (CSt.trans h1 s1.code s2) R2
     rw [List.length_append, List.length_singleton] at this
     exact this
theorem XOk.regR {id : Nat} {x Z : X} (hy : LRr P (bS P nt ops ops.toList) x Z) : XOk P nt (.region id ops false) x .normal Z := by
 ·skip
  obtain ⟨h1, h2, hk, h3⟩ := GG ops.toList [] rfl hy
  refine ⟨h1, h2, hk, fun so hs ro γ a w hn g R n Q hQ => wpIn_region ?_⟩
  have := h3 so hs ro γ a w hn g R n Q hQ
  rw [List.range_eq_range']
  rw [Array.length_toList] at this
  exact this
end
inductive DR (P : Program) : List RG -> List Nat -> Nat -> List (Nat × T Bool) -> X -> X -> Prop where
 | nil {ms : List Nat} {i : Nat} {acc : List (Nat × T Bool)} {x : X} : DR P [] ms i acc x x
 | e {g : RG} {l : List RG} {ms : List Nat} {i : Nat} {acc : List (Nat × T Bool)} {x y Z : X} (h : GR P g (x.at (some .e)) (y.at (some .e))) (k : DR P l (vY ms) (Nat.succ i) acc (y.at x.lg) Z) : DR P (g :: l) ms i acc x Z
 | n {g : RG} {l : List RG} {ms : List Nat} {i : Nat} {acc : List (Nat × T Bool)} {x y Z : X} {L : T Bool} {lg1 : Option (T Bool)} (h : GR P g (x.at (some .e)) (y.at (some L))) (ha : jU (cK ms 0) L acc = true) (hm : ∀ k : Option (T Bool) -> Option X, jV x.lg L k = k lg1) (k : DR P l (vY ms) (Nat.succ i) ((i, L) :: acc) (y.at lg1) Z) : DR P (g :: l) ms i acc x Z
section
variable {P : Program} {nt : Nat} {ops : Array Oper} {o : Oper}
theorem Gx {M : List Nat} : ∀ (l pre : List Oper) {ms : List Nat} {acc : List (Nat × T Bool)} {x Z : X}, ops.toList = pre ++ l -> (∀ j, cK ms j = cK M (pre.length + j)) ->
 DR P (bS P nt ops l) ms pre.length acc x Z -> ∃ xs Ls, DRun P nt ops M pre.length acc x Z xs Ls
 | [], pre, ms, acc, x, Z, ho, hms, h => by
   cases h
   have hsz : ops.size = pre.length := by rw [<- Array.length_toList, ho]; simp
   exact ⟨fun _ => x, fun _ => .e, ⟨rfl, rfl, rfl⟩, ⟨rfl, rfl, rfl⟩, fun i h1 h2 => by omega, LgLe.refl _, fun i h1 h2 => by omega, fun i h1 h2 => by omega, fun i h1 h2 => by omega, fun i j h1 h2 h3 => by omega⟩
 | o :: l, pre, ms, acc, x, Z, ho, hms, h => by
   obtain ⟨sl, ob, nx, lg⟩ := x
   have hp : ops[pre.length]? = some o := by
    rw [<- Array.getElem?_toList, ho]; simp
   have hlt : pre.length < ops.size := (Array.getElem?_eq_some_iff.1 hp).1
   have hn : dT P nt ops pre.length = (eS P nt ops o).ss := by unfold dT; rw [hp]
   have hlen : (pre ++ [o]).length = pre.length + 1 := by simp
   have step : ∀ {sl1 : T D} {ob1 : T C} {nx1 : Pos} {L : T Bool} {lg1 : Option (T Bool)} {acc1 : List (Nat × T Bool)}, IOk P nt ops pre.length (eS P nt ops o).ss ⟨sl, ob, nx, some .e⟩ ⟨sl1, ob1, nx1, some L⟩ ->
    LgLe lg lg1 -> (∀ id, tchd (some L) id -> tchd lg1 id) -> (∀ id, wrtn (some L) id -> wrtn lg1 id) -> (∀ i A, (i, A) ∈ acc -> (i, A) ∈ acc1 /\ (cU (cK M pre.length) i = true \/ fI A L = true)) -> (L = .e \/ (pre.length, L) ∈ acc1) ->
    DR P (bS P nt ops l) (vY ms) (Nat.succ pre.length) acc1 ⟨sl1, ob1, nx1, lg1⟩ Z -> ∃ xs Ls, DRun P nt ops M pre.length acc ⟨sl, ob, nx, lg⟩ Z xs Ls := by
    intro sl1 ob1 nx1 L lg1 acc1 I hl ht hw hacc hL hrun
    obtain ⟨xs, Ls, R⟩ := Gx (M := M) l (pre ++ [o]) (ms := vY ms) (acc := acc1) (x := ⟨sl1, ob1, nx1, lg1⟩) (by rw [ho]; simp) (fun j => by rw [zT, hms, hlen]; congr 1; omega) (by rw [hlen]; exact hrun)
    rw [hlen] at R
    have hx1 : (xs (pre.length + 1)).at (some L) = ⟨sl1, ob1, nx1, some L⟩ := by
     obtain ⟨b1, b2, b3⟩ := R.b
     unfold X.at
     rw [b1, b2, b3]
    refine ⟨fun i => if i = pre.length then ⟨sl, ob, nx, lg⟩ else xs i, fun i => if i = pre.length then L else Ls i, ⟨by simp, by simp, by simp⟩, ?_, fun i h1 h2 => ?_, hl.trans R.lg, fun i h1 h2 id => ?_, fun i h1 h2 id => ?_, fun j h1 h2 i A hA => ?_, fun i j h1 h2 h3 => ?_⟩
    ·rw [if_neg (by omega)]; exact R.e
    ·by_cases e : i = pre.length
     ·subst e
      rw [if_pos rfl, if_pos rfl, if_neg (by omega), hx1, hn]
      exact I
     ·rw [if_neg e, if_neg e, if_neg (by omega)]
      exact R.ok i (by omega) h2
    ·by_cases e : i = pre.length
     ·rw [if_pos e]; exact fun h => R.lg.t id (ht id h)
     ·rw [if_neg e]; exact R.t i (by omega) h2 id
    ·by_cases e : i = pre.length
     ·rw [if_pos e]; exact fun h => R.lg.w id (hw id h)
     ·rw [if_neg e]; exact R.w i (by omega) h2 id
    ·by_cases e : j = pre.length
     ·rw [if_pos e, e]; exact (hacc i A hA).2
     ·rw [if_neg e]; exact R.ac j (by omega) h2 i A (hacc i A hA).1
    ·rw [if_neg (show j ≠ pre.length by omega)]
     by_cases e : i = pre.length
     ·rw [if_pos e, e]
      rcases hL with rfl | hL
      ·exact .inr (Am _)
      ·exact R.ac j (by omega) h3 _ _ hL
     ·rw [if_neg e]; exact R.pr i j (by omega) h2 h3
   cases h with
   | e hg h =>
     rename_i y
     exact step (Ey hp hg) (LgLe.refl _) (fun id ⟨b, hb⟩ => by rw [T.get_e] at hb; cases hb) (fun id hb => by
      have hb : (T.e : T Bool).get id = some true := hb
      rw [T.get_e] at hb; cases hb) (fun i A hA => ⟨hA, .inr (vO _)⟩) (.inl rfl) h
   | n hg ha hm h =>
     rename_i y L lg2
     obtain ⟨lg1, h1, h2, h3, h4⟩ := tB (β := Option X) lg L fun lg => some ⟨.e, .e, .h, lg⟩
     have h1 : some (⟨.e, .e, .h, lg2⟩ : X) = some ⟨.e, .e, .h, lg1⟩ := (hm fun lg => some ⟨.e, .e, .h, lg⟩).symm.trans h1
     cases h1
     exact step (Ey hp hg) h2 h3 h4 (fun i A hA => ⟨List.mem_cons_of_mem _ hA, by
      have := mO ha i A hA
      rw [hms, Nat.add_zero] at this
      exact this⟩) (.inr List.mem_cons_self) h
theorem XOk.drwR {M : List Nat} {id : Nat} {x Z : X} (hm : P.follows .mixedOrders = true) (hM : dW M 0 ops.toList = true) (hp : dU M 0 (Dd (bS P nt ops ops.toList) ops.toList) = true)
 (hy : DR P (bS P nt ops ops.toList) M 0 [] x Z) : XOk P nt (.region id ops true) x .normal Z := by
 ·skip
  obtain ⟨xs, Ls, R⟩ := Gx (ops := ops) (nt := nt) (M := M) ops.toList [] rfl (fun j => by rw [List.length_nil, Nat.zero_add]) hy
  have F : Fine P nt ops M Ls := Fine.of hM hp fun i j hij hj => R.pr i j (Nat.zero_le _) hij hj
  have hok : ∀ i, i < ops.size -> IOk P nt ops i (dT P nt ops i) ((xs i).at (some .e)) ((xs (i + 1)).at (some (Ls i))) := fun i hi => R.ok i (Nat.zero_le _) hi
  obtain ⟨b1, b2, b3⟩ := R.b
  obtain ⟨e1, e2, e3⟩ := R.e
  have chain : ∀ k, k <= ops.size -> Keeps Z.lg (xs 0).ob (xs k).ob /\ (xs 0).nx.nat <= (xs k).nx.nat := by
   intro k
   induction k with
   | zero => intro _; exact ⟨Keeps.refl _ _, Nat.le_refl _⟩
   | succ k ih =>
     intro hk
     obtain ⟨h1, h2⟩ := ih (by omega)
     exact ⟨fun id hn => ((hok k (by omega)).obf id fun hw => hn (R.w k (Nat.zero_le _) (by omega) id hw)).trans (h1 id hn), Nat.le_trans h2 (hok k (by omega)).nx⟩
  obtain ⟨c1, c2⟩ := chain ops.size (Nat.le_refl _)
  rw [e2] at c1
  rw [e3] at c2
  have c1 : Keeps Z.lg x.ob Z.ob := by
   have b2 : (xs 0).ob = x.ob := b2
   rw [b2] at c1; exact c1
  have c2 : x.nx.nat <= Z.nx.nat := by
   have b3 : (xs 0).nx = x.nx := b3
   rw [b3] at c2; exact c2
  refine ⟨R.lg, c2, c1, fun so hso ro γ a w hn g Rp n Q hQ => wpIn_region_any hm ?_⟩
  obtain ⟨F0, g0⟩ := zP g (wrtn Z.lg)
  refine EN F hok (fun i hi id hid => hso id (R.t i (Nat.zero_le _) hi id hid)) (fun i hi => R.w i (Nat.zero_le _) hi) hn (fun γ' a' w' cst rep => hQ γ' a' w' cst ?_) ops.size (Array.replicate ops.size false) γ a _ ⟨g0, F0, rfl, fun r hr => .inl hr⟩ (by simp) ?_ ?_ ?_
  ·refine ⟨fun s d hs hd => rep.sl s d hs (e1.symm ▸ hd), fun id c hid hc => rep.ob id c hid (e2.symm ▸ hc), fun id hid hle => rep.nx id hid ?_, rep.gl⟩
   show (xs ops.size).nx.nat <= id.nat
   rw [e3]; exact hle
  ·intro j o ho hj e he hb
   have hjl : j < ops.size := (Array.getElem?_eq_some_iff.1 ho).1
   simp [hjl] at hj
  ·-- nothing has been: all is as at the start, up to the first writer
   have none : ∀ r t, t <= ops.size -> zV ops Ls (fun j => (Array.replicate ops.size false).getD j false) r t -> ∀ j, j < t -> ¬ wr ops Ls j r := by
    intro r t ht hcur j hj hw
    have hjl : j < ops.size := by omega
    have := (hcur j hjl hw).1 hj
    simp [hjl] at this
   refine ⟨fun p t ht hcur d hd => ?_, fun id t hid ht hcur => ?_⟩
   ·have hn' := none _ t ht hcur
    have same : ∀ k, k <= t -> (xs k).sl.get p = (xs 0).sl.get p := by
     intro k
     induction k with
     | zero => intro _; rfl
     | succ k ih => exact fun hk => ((hok k (by omega)).slf p (fun e => hn' k (by omega) e)).trans (ih (by omega))
    rw [same t (Nat.le_refl _)] at hd
    have b1 : (xs 0).sl = x.sl := b1
    rw [b1] at hd
    obtain ⟨q1, q2⟩ := Rp.sl p d trivial hd
    exact ⟨q1, DV.mono F0.up _ _ q2⟩
   ·have hn' := none _ t ht hcur
    have same : ∀ k, k <= t -> (xs k).ob.get id = (xs 0).ob.get id /\ (xs 0).nx.nat <= (xs k).nx.nat := by
     intro k
     induction k with
     | zero => intro _; exact ⟨rfl, Nat.le_refl _⟩
     | succ k ih => exact fun hk => ⟨((hok k (by omega)).obf id (fun e => hn' k (by omega) e)).trans (ih (by omega)).1, Nat.le_trans (ih (by omega)).2 (hok k (by omega)).nx⟩
    obtain ⟨s1, s2⟩ := same t (Nat.le_refl _)
    have b2 : (xs 0).ob = x.ob := b2
    have b3 : (xs 0).nx = x.nx := b3
    rw [b2] at s1
    rw [b3] at s2
    refine ⟨fun c hc => ?_, fun hle => Rp.nx id hid (Nat.le_trans s2 hle)⟩
    rw [s1] at hc
    exact HoldsO.mono F0.up rfl (fun _ _ => rfl) (Rp.ob id c hid hc)
  ·exact Nat.le_trans List.countP_le_length (by simp)
end
section
variable {P : Program} {nt : Nat}
theorem XOk.rfR {f : Operand} {psT : Array Tmp} {asg body : Code} {rf : RX} {ps : List Pos} {e : Ex} (hf : rx f = some rf) (hps : oX nt psT.toList = some ps)
 {sl : T D} {ob ob2 : T C} {nx nx2 : Pos} {lg lg1 lg2 : Option (T Bool)} {f' : Pos} {first caps : List D} {v : D} (hv : bC sl rf = some (.fn f' first caps)) (hl1 : LgLe lg lg1) (hw1 : wrtn lg1 nx)
 (C : CallOk P f'.ix (first ++ (.yl nx :: caps)) (T.set nx (.lp sl ps nt asg body .ready none) ob) nx.succ lg1 v ob2 nx2 lg2)
 {tm : T D} {pp : List Pos} {nt' : Nat} {c1 c2 : Code} {st : LS} {j : Option Ex} (hob : ob2.get nx = some (.lp tm pp nt' c1 c2 st j)) (hst : st ≠ .busy) (he : j.getD .normal = e) :
 XOk P nt (.rangeFunc f psT asg body) ⟨sl, ob, nx, lg⟩ e ⟨sl, T.set nx (.lp tm pp nt' c1 c2 .gone j) ob2, nx2, lg2⟩ := by
 obtain ⟨hps1, hps2⟩ := qF hps
 have hhl := C.hl
 have hhx := C.hx
 rw [Pos.succ_nat] at hhx
 refine ⟨hl1.trans hhl, by show nx.nat <= nx2.nat; omega, (((Keeps.refl _ _).set hw1 _).trans hhl C.hk).set (hhl.w nx hw1) _, fun so hso ro γ a w hn g R n Q hQ => wpIn_rangeFunc fun fn _ => ?_⟩
 have hsn : so nx := hso nx (hhl.w nx hw1).tchd
 obtain ⟨l, mk, w0, r, he1, rfl, hle, hr1, hr2, hr3, hr4, hr5, hr6, F0, g0, hmk⟩ := lX (P := P) g fn psT asg body
 obtain ⟨F1, g1⟩ := lP g0 nx (.loop r) (fun _ _ _ h => by cases h)
 have h0 := R.nx nx hsn (Nat.le_refl _)
 have U1 : Up γ (γ.push nx (w0.heap.size, 0)) w (w0.alloc (.loop r)) := (F0 nx).up.trans F1.up
 have F01 : Fr (fun j => j = nx) γ (γ.push nx (w0.heap.size, 0)) w (w0.alloc (.loop r)) := (F0 nx).trans F1
 have hcur : (γ.push nx (w0.heap.size, 0)).cur nx = 1 := by rw [γ.push_cur, h0]
 have hβ : (γ.push nx (w0.heap.size, 0)).β nx 0 = (w0.heap.size, 0) := by rw [<- h0]; exact γ.push_β nx _
 obtain ⟨vx, vy, ev, hvx, hvy⟩ := qV (aB hf hv R fun _ _ => trivial)
 have hargs : DVL (γ.push nx (w0.heap.size, 0)) (w0.alloc (.loop r)) (first ++ (.yl nx :: caps)) (vx ++ #[Value.func (.yield w0.heap.size) #[] #[]] ++ vy).toList := by
  simp only [Array.toList_append, List.append_assoc]
  refine (DVL.mono U1 _ _ hvx).append ?_
  refine DVL.cons ?_ (DVL.mono U1 _ _ hvy)
  unfold DV
  exact ⟨by rw [hcur]; exact Nat.one_pos, by rw [hβ]⟩
 have hobs : ∀ id c, so id -> (T.set nx (Ev.C.lp sl ps nt asg body .ready none) ob).get id = some c -> HoldsO P (γ.push nx (w0.heap.size, 0)) (w0.alloc (.loop r)) id c :=
  aQ (V := eH so) R g F01 fun _ => by
   refine ⟨hcur, r, by rw [hβ]; exact aW w0 _, by rw [hr1]; rfl, by rw [hr2]; rfl, fun s d hd => ?_, by rw [hr4]; exact hps1, fun p hp => by rw [hr3, hn]; exact hps2 p hp, by rw [hr3]; exact hn, hr5, hr6⟩
   obtain ⟨q1, q2⟩ := R.sl s d trivial hd
   rw [hr3]
   exact ⟨q1, DV.mono U1 _ _ q2⟩
 have hnx : ∀ id, so id -> nx.succ.nat <= id.nat -> (γ.push nx (w0.heap.size, 0)).cur id = 0 := by
  intro id hid hle
  rw [Pos.succ_nat] at hle
  have hne : id ≠ nx := by rintro rfl; omega
  rw [γ.push_cur_ne _ hne]
  exact R.nx id hid (by show nx.nat <= id.nat; omega)
 have G1 := g1 { a with defers := mk ++ a.defers } rfl
 obtain ⟨hc, hcalls⟩ := C.ok so hso _ _ _ G1.gh hargs hobs hnx
 refine ⟨w0.heap.size, mk, _, { target := .fn (.func f'.ix) vy, args := vx ++ #[.func (.yield w0.heap.size) #[] #[]] }, w0.alloc (.loop r), f'.ix, _, _, he1, ?_, fun _ _ => trivial, ?_, (fun h => by cases h), hcalls ro (n - 1) _ fun γ2 w2 u gh2 F2 _ ho2 hn2 => ?_⟩
 ·simp only [resolve, rangeCall, ev]
  simp [Deferred.ofValue, Act.eval]
 ·simp only [invoke]
  exact hc _
 ·have G2 : G ro γ2 { a with defers := mk ++ a.defers } w2 := G1.of F2 rfl gh2.ob gh2.inj gh2.im
  have hcur2 : 0 < γ2.cur nx := Nat.lt_of_lt_of_le (by rw [hcur]; exact Nat.one_pos) (F2.up.cur nx)
  have hβ2 : (γ2.β nx 0).1 = w0.heap.size := by rw [F2.up.β nx 0 (by rw [hcur]; exact Nat.one_pos), hβ]
  obtain ⟨hc3, l3, hl3, hst3, hpd3, hsl3, hps3, hpb3, hnt3, ha3, hb3⟩ := ho2 nx _ hsn hob
  rw [hβ2] at hl3
  have hlt3 : w0.heap.size < w2.heap.size := (Array.getElem?_eq_some_iff.1 hl3).1
  have hnb : l3.state ≠ .busy := by
   rw [hst3]
   cases st <;> first | exact absurd rfl hst | (intro h; cases h)
  refine ⟨_, _, run_endLoop hl3 hnb, ?_⟩
  have LP := gR (l' := { l3 with state := .exhausted }) G2 hcur2 (by rw [hβ2]; exact hl3)
  rw [hβ2] at LP
  obtain ⟨F3, g3⟩ := LP
  have rep2 : Rep P (eH so) γ2 { a with defers := mk ++ a.defers } w2 ⟨sl, ob2, nx2, lg2⟩ :=
   ⟨fun s d hs hd => ⟨(R.sl s d hs hd).1, DV.mono F2.up _ _ (DV.mono U1 _ _ (R.sl s d hs hd).2)⟩, ho2, hn2, gh2.gl⟩
  have hwn : ∀ j, j = nx -> wrtn lg2 j := fun j e => by rw [e]; exact hhl.w nx hw1
  have fin := hQ γ2 { a with defers := mk ++ a.defers } (w2.putObj w0.heap.size (.loop { l3 with state := .exhausted }))
   ⟨g3 _ rfl, ((F01.mono hwn).trans F2).trans (F3.mono hwn), rfl, hmk⟩
   ⟨fun s d hs hd => ⟨(rep2.sl s d hs hd).1, DV.mono F3.up _ _ (rep2.sl s d hs hd).2⟩, aQ rep2 G2 F3 (fun _ => by
    refine ⟨hc3, { l3 with state := .exhausted }, by rw [hβ2]; exact World.putObj_heap_same hlt3, rfl, hpd3, fun s d hd => ⟨(hsl3 s d hd).1, DV.mono F3.up _ _ (hsl3 s d hd).2⟩, hps3, hpb3, hnt3, ha3, hb3⟩), rep2.nx, rep2.gl.up F3.up⟩
  generalize w2.putObj w0.heap.size (.loop { l3 with state := .exhausted }) = w4 at fin ⊢
  rw [hpd3]
  cases j with
  | none => subst he; exact fin
  | some e' =>
    cases e' with
    | normal => subst he; exact fin
    | ret => subst he; exact wpIn_ret fin
    | exit i => subst he; exact wpIn_exit fin
end
open Go.RowKit (Below)
theorem T.set_get {α : Type} : ∀ {p : Pos} {x : α} {t : T α}, t.get p = some x -> T.set p x t = t
 | .h, x, .e, h => by rw [T.get_e] at h; cases h
 | .o p, x, .e, h => by rw [T.get_e] at h; cases h
 | .i p, x, .e, h => by rw [T.get_e] at h; cases h
 | .h, x, .n l v r, h => by rw [T.get_h] at h; subst h; rfl
 | .o p, x, .n l v r, h => by rw [T.get_o] at h; show T.n (T.set p x l) v r = _; rw [T.set_get h]
 | .i p, x, .n l v r, h => by rw [T.get_i] at h; show T.n l v (T.set p x r) = _; rw [T.set_get h]
inductive WB (t : Bool) (F : Bool -> Prop) : Prop where
 | mk (h1 : t = true -> F true) (h0 : t = false -> F false)
theorem WB.tt {F : Bool -> Prop} (h : F true) : WB true F := ⟨fun _ => h, nofun⟩
theorem WB.ff {F : Bool -> Prop} (h : F false) : WB false F := ⟨nofun, fun _ => h⟩
theorem WB.at {t : Bool} {F : Bool -> Prop} (h : WB t F) : F t := by
 cases h with
 | mk h1 h0 => cases t with
   | true => exact h1 rfl
   | false => exact h0 rfl
theorem WB.of {t : Bool} {F : Bool -> Prop} (h : F t) : WB t F := ⟨fun e => by rw [<- e]; exact h, fun e => by rw [<- e]; exact h⟩
def InR (k : IntKind) (n : Int) : Prop := k.wrap n = n
theorem InR.i64 {n : Int} (h1 : -9223372036854775808 <= n) (h2 : n <= 9223372036854775807) : InR .i64 n := by
 unfold InR
 cases n with
 | ofNat m => exact gS .i64 (by have h2 : (m : Int) <= 9223372036854775807 := h2; simp only [fF]; omega)
 | negSucc m => exact tI .i64 rfl (by simp only [fF]; omega)
theorem InR.u64 {n : Int} (h1 : 0 <= n) (h2 : n <= 18446744073709551615) : InR .u64 n := by
 unfold InR
 cases n with
 | ofNat m => exact gS .u64 (by have h2 : (m : Int) <= 18446744073709551615 := h2; simp only [fF]; omega)
 | negSucc m => omega
theorem InR.u16 {n : Int} (h1 : 0 <= n) (h2 : n <= 65535) : InR .u16 n := by
 unfold InR
 cases n with
 | ofNat m => exact gS .u16 (by have h2 : (m : Int) <= 65535 := h2; simp only [fF]; omega)
 | negSucc m => omega
theorem InR.u8 {n : Int} (h1 : 0 <= n) (h2 : n <= 255) : InR .u8 n := by
 unfold InR
 cases n with
 | ofNat m => exact gS .u8 (by have h2 : (m : Int) <= 255 := h2; simp only [fF]; omega)
 | negSucc m => omega
structure WCall (P : Program) (f : Nat) (ds : List D) (d : Option Pos) (x : X) (K : X -> Prop) : Prop where
 ok : ∃ v ob' nx' lg' Z, CallOk P f ds x.ob x.nx x.lg v ob' nx' lg' /\ iY x.sl ob' nx' lg' d v = some Z /\ K Z
structure WRnd (P : Program) (id : Pos) (ds : List D) (d : Option Pos) (x : X) (K : X -> Prop) : Prop where
 ok : ∃ v ob' nx' lg' Z, RndOk P id ds x.ob x.nx x.lg v ob' nx' lg' /\ iY x.sl ob' nx' lg' d v = some Z /\ K Z
structure WSt (r : RO) (x : X) (K : X -> Prop) : Prop where
 ok : ∃ Z, step r x.sl x.ob x.nx x.lg = some Z /\ K Z
structure WIx (es : List (List D)) (n : Int) (F : List D -> Prop) : Prop where
 ok : ∃ r, 0 <= n /\ es[n.toNat]? = some r /\ F r
theorem WIx.map {α : Type} [Inhabited α] {f : α -> List D} {l : List α} {n : Int} {F : List D -> Prop} (h0 : 0 <= n) (h1 : n < l.length) (h : F (f (l.getD n.toNat default))) : WIx (l.map f) n F :=
 ⟨_, h0, by rw [List.getElem?_map, List.getElem?_eq_getElem (by omega)]; simp [List.getD]; rw [List.getElem?_eq_getElem (by omega)]; rfl, h⟩
def dG (sl : T D) (ob : T C) (nx : Pos) (lg : Option (T Bool)) (d : Pos) (K : X -> Prop) (v : D) : Prop := T.setK d v sl fun sl => K ⟨sl, ob, nx, lg⟩
def nL (sl : T D) (ob : T C) (nx : Pos) (lg : Option (T Bool)) (d : Option Pos) (K : X -> Prop) (v : D) : Prop :=
 match d with
 | none => K ⟨sl, ob, nx, lg⟩
 | some d => dG sl ob nx lg d K v
def CD (op : BinOp) (k : IntKind) (a b : Int) (f : D -> Prop) (g : Prop) : Prop :=
 match op with
 | .add => InR k (a + b) /\ f (.i k (a + b))
 | .sub => InR k (a - b) /\ f (.i k (a - b))
 | .mul => InR k (a * b) /\ f (.i k (a * b))
 | .quo => b ≠ 0 /\ InR k (a.tdiv b) /\ f (.i k (a.tdiv b))
 | .rem => b ≠ 0 /\ f (.i k (a.tmod b))
 | .eql => f (.b (decide (a = b)))
 | .neq => f (.b (!decide (a = b)))
 | .lss => f (.b (decide (a < b)))
 | .leq => f (.b (decide (a <= b)))
 | .gtr => f (.b (decide (b < a)))
 | .geq => f (.b (decide (b <= a)))
 | _ => g
def HN (r : RO) (sl : T D) (ob : T C) (nx : Pos) (lg : Option (T Bool)) (d : Pos) (op : BinOp) (a b : Option D) (K : X -> Prop) : Prop :=
 match a, b with
 | some (.i k a), some (.i k' b) => bif sI k k' then CD op k a b (dG sl ob nx lg d K) (WSt r ⟨sl, ob, nx, lg⟩ K) else WSt r ⟨sl, ob, nx, lg⟩ K
 | _, _ => False
def wSt (o : Option X) (K : X -> Prop) : Prop :=
 match o with
 | some Z => K Z
 | none => False
def wO (P : Program) (r : RO) (sl : T D) (ob : T C) (nx : Pos) (lg : Option (T Bool)) (K : X -> Prop) : Prop :=
 match r with
 | .bin d op a b => HN r sl ob nx lg d op (bC sl a) (bC sl b) K
 | .un d op a => match op, bC sl a with
   | .not, some (.b t) => dG sl ob nx lg d K (.b (!t))
   | .neg, some (.i k n) => InR k (-n) /\ dG sl ob nx lg d K (.i k (-n))
   | _, _ => False
 | .cvi d k a => match bC sl a with
   | some (.i _ n) => InR k n /\ dG sl ob nx lg d K (.i k n)
   | _ => False
 | .eq d neg tk a b => match tk, bC sl a, bC sl b with
   | 0, some (.b s), some (.b t) => dG sl ob nx lg d K (.b (bif neg then !(s == t) else s == t))
   | _, _, _ => wSt (step r sl ob nx lg) K
 | .eqr _ _ _ _ _ => WSt r ⟨sl, ob, nx, lg⟩ K
 | .pick d c a b => match bC sl c, bC sl a, bC sl b with
   | some (.b t), some u, some v => WB t fun t => bif t then dG sl ob nx lg d K u else dG sl ob nx lg d K v
   | _, _, _ => False
 | .ixs d z a i => match bC sl a, bC sl i with
   | some (.lst z' es), some (.i _ n) => bif Nat.beq z z' then WIx es n fun r => dG sl ob nx lg d K (.pl r 0) else False
   | _, _ => WSt r ⟨sl, ob, nx, lg⟩ K
 | .len d a => match bC sl a with
   | some (.lst _ es) => dG sl ob nx lg d K (.i .i64 (es.length : Int))
   | _ => wSt (step r sl ob nx lg) K
 | .mx d a b => match bC sl a, bC sl b with
   | some (.i k a), some (.i k' b) => bif sI k k' then dG sl ob nx lg d K (.i k (max a b)) else False
   | _, _ => False
 | .mn d a b => match bC sl a, bC sl b with
   | some (.i k a), some (.i k' b) => bif sI k k' then dG sl ob nx lg d K (.i k (min a b)) else False
   | _, _ => False
 | .cf d f xs => match pK sl xs with
   | some ds => WCall P f.ix ds d ⟨sl, ob, nx, lg⟩ K
   | none => False
 | .cv d g xs => match bC sl g, pK sl xs with
   | some (.fn f first caps), some ds => WCall P f.ix (first ++ (ds ++ caps)) d ⟨sl, ob, nx, lg⟩ K
   | some (.yl id), some ds => WRnd P id ds d ⟨sl, ob, nx, lg⟩ K
   | _, _ => False
 | .app _ _ _ _ => WSt r ⟨sl, ob, nx, lg⟩ K
 | .cpy _ _ _ _ => WSt r ⟨sl, ob, nx, lg⟩ K
 | .slc _ _ _ _ _ _ => WSt r ⟨sl, ob, nx, lg⟩ K
 | .sla _ _ _ _ _ _ _ => WSt r ⟨sl, ob, nx, lg⟩ K
 | .mks _ _ _ _ _ => WSt r ⟨sl, ob, nx, lg⟩ K
 | .lkp _ _ _ _ _ _ => WSt r ⟨sl, ob, nx, lg⟩ K
 | .mup _ _ _ _ => WSt r ⟨sl, ob, nx, lg⟩ K
 | .ixa _ _ _ _ _ => WSt r ⟨sl, ob, nx, lg⟩ K
 | r => wSt (step r sl ob nx lg) K
section
variable {P : Program} {sl : T D} {ob : T C} {nx : Pos} {lg : Option (T Bool)} {K : X -> Prop}
theorem aT {d : Pos} {v : D} (h : dG sl ob nx lg d K v) : aZ sl ob nx lg d v = some ⟨T.set d v sl, ob, nx, lg⟩ /\ K ⟨T.set d v sl, ob, nx, lg⟩ := by
 unfold dG at h
 rw [T.setK_eq] at h
 exact ⟨by unfold aZ; rw [T.setK_eq], h⟩
theorem bJ {r : RO} {d : Pos} {v : D} (h : dG sl ob nx lg d K v) (hs : step r sl ob nx lg = aZ sl ob nx lg d v) : ∃ Z, OR P r ⟨sl, ob, nx, lg⟩ Z /\ K Z :=
 let ⟨h1, h2⟩ := aT h
 ⟨_, .st (hs.trans h1), h2⟩
theorem qO {r : RO} (h : WSt r ⟨sl, ob, nx, lg⟩ K) : ∃ Z, OR P r ⟨sl, ob, nx, lg⟩ Z /\ K Z :=
 let ⟨Z, h1, h2⟩ := h.ok
 ⟨Z, .st h1, h2⟩
theorem zH {r : RO} (h : wSt (step r sl ob nx lg) K) : ∃ Z, OR P r ⟨sl, ob, nx, lg⟩ Z /\ K Z := by
 unfold wSt at h
 split at h
 ·rename_i Z hz
  exact ⟨Z, .st hz, h⟩
 ·exact h.elim
theorem Ge {d : Pos} {op : BinOp} {a b : RX} (h : HN (.bin d op a b) sl ob nx lg d op (bC sl a) (bC sl b) K) : ∃ Z, OR P (.bin d op a b) ⟨sl, ob, nx, lg⟩ Z /\ K Z := by
 unfold HN at h
 split at h
 ·rename_i k m k' n ha hb
  cases hk : sI k k' with
  | false => rw [hk] at h; exact qO h
  | true =>
    rw [hk] at h
    simp only [cond_true] at h
    have hs : step (.bin d op a b) sl ob nx lg = fO op (.i k m) (.i k' n) fun v => aZ sl ob nx lg d v := by
     show dO d op a b sl ob nx lg = _
     unfold dO
     rw [ha, hb]
    cases op <;> unfold CD at h
    case add =>
     refine bJ h.2 (hs.trans ?_)
     simp only [fO, hk, cond_true, dF, aV, tX]
     rw [show k.wrap (m + n) = m + n from h.1]
    case sub =>
     refine bJ h.2 (hs.trans ?_)
     simp only [fO, hk, cond_true, dF, aV, mM]
     rw [show k.wrap (m - n) = m - n from h.1]
    case mul =>
     refine bJ h.2 (hs.trans ?_)
     simp only [fO, hk, cond_true, dF, aV, AE]
     rw [show k.wrap (m * n) = m * n from h.1]
    case quo =>
     have h0 : (n == 0) = false := by simpa using h.1
     refine bJ h.2.2 (hs.trans ?_)
     simp only [fO, hk, cond_true, dF, aV, Al, lN]
     rw [show (n == Int.ofNat 0) = false from h0]
     simp only [cond_false]
     rw [show k.wrap (m.tdiv n) = m.tdiv n from h.2.1]
    case rem =>
     have h0 : (n == 0) = false := by simpa using h.1
     refine bJ h.2 (hs.trans ?_)
     simp only [fO, hk, cond_true, dF, pX, zZ, lN]
     rw [show (n == Int.ofNat 0) = false from h0]
     rfl
    case eql => exact bJ h (hs.trans (by simp only [fO, hk, cond_true, dF, bE, lN]; rfl))
    case neq => exact bJ h (hs.trans (by simp only [fO, hk, cond_true, dF, bE, lN]; rfl))
    case lss => exact bJ h (hs.trans (by simp only [fO, hk, cond_true, dF, bE, fG]))
    case leq => exact bJ h (hs.trans (by simp only [fO, hk, cond_true, dF, bE, fG]; congr 2; simp [<- decide_not]))
    case gtr => exact bJ h (hs.trans (by simp only [fO, hk, cond_true, dF, bE, fG]))
    case geq => exact bJ h (hs.trans (by simp only [fO, hk, cond_true, dF, bE, fG]; congr 2; simp [<- decide_not]))
    all_goals exact qO h
 ·exact h.elim
theorem GI {r : RO} (h : wO P r sl ob nx lg K) : ∃ Z, OR P r ⟨sl, ob, nx, lg⟩ Z /\ K Z := by
 unfold wO at h
 split at h
 ·exact Ge h
 ·rename_i d op a
  split at h
  ·rename_i t ha
   refine bJ h ?_
   show wQ d .not a sl ob nx lg = _
   unfold wQ
   rw [ha]
   simp only [bE]
  ·rename_i k n ha
   refine bJ h.2 ?_
   show wQ d .neg a sl ob nx lg = _
   unfold wQ
   rw [ha]
   simp only [aV, mM]
   rw [show Int.ofNat 0 - n = -n by show (0 : Int) - n = -n; omega, show k.wrap (-n) = -n from h.1]
  ·exact h.elim
 ·rename_i d k a
  split at h
  ·rename_i k' n ha
   refine bJ h.2 ?_
   show tS d k a sl ob nx lg = _
   unfold tS
   rw [ha]
   simp only [aV]
   rw [show k.wrap n = n from h.1]
  ·exact h.elim
 ·rename_i d neg tk a b
  split at h
  ·rename_i s t ha hb
   refine bJ h ?_
   show AY d neg 0 a b sl ob nx lg = _
   unfold AY
   rw [ha, hb]
   simp only [Mw, bE]
  ·exact zH h
 ·exact qO h
 ·rename_i d c a b
  split at h
  ·rename_i t u v hc ha hb
   have h := h.at
   cases t with
   | true =>
     refine bJ h ?_
     show jS d c a b sl ob nx lg = _
     unfold jS
     rw [hc, ha]
   | false =>
     refine bJ h ?_
     show jS d c a b sl ob nx lg = _
     unfold jS
     rw [hc, hb]
  ·exact h.elim
 ·rename_i d z a i
  split at h
  ·rename_i z' es k n ha hi
   cases hz : Nat.beq z z' with
   | false => rw [hz] at h; exact h.elim
   | true =>
     rw [hz] at h
     obtain ⟨r, h1, h2, h3⟩ := h.ok
     refine bJ h3 ?_
     show tF d z a i sl ob nx lg = _
     unfold tF
     rw [ha, hi]
     simp only [hz, cond_true]
     have hlt : n.toNat < es.length := (List.getElem?_eq_some_iff.1 h2).1
     have e : EZ n es.length = some n.toNat := by
      cases n with
      | negSucc m => omega
      | ofNat m =>
        simp only [EZ]
        rw [show Nat.blt m es.length = true from Nat.ble_eq_true_of_le hlt]
        rfl
     rw [e]
     simp only [dJ, h2]
  ·exact qO h
 ·rename_i d a
  split at h
  ·rename_i z es ha
   refine bJ h ?_
   show tE d a sl ob nx lg = _
   unfold tE
   rw [ha]
   simp only [bB]
   rfl
  ·exact zH h
 ·rename_i d a b
  split at h
  ·rename_i k m k' n ha hb
   cases hk : sI k k' with
   | false => rw [hk] at h; exact h.elim
   | true =>
     rw [hk] at h
     obtain rfl := fR.1 hk
     refine bJ h ?_
     show Bs d a b sl ob nx lg = _
     unfold Bs
     rw [ha, hb]
     simp only [hk, cond_true, fG]
     by_cases hlt : m < n
     ·simp [hlt, Int.max_eq_right (Int.le_of_lt hlt)]
     ·simp [hlt, Int.max_eq_left (Int.not_lt.1 hlt)]
  ·exact h.elim
 ·rename_i d a b
  split at h
  ·rename_i k m k' n ha hb
   cases hk : sI k k' with
   | false => rw [hk] at h; exact h.elim
   | true =>
     rw [hk] at h
     obtain rfl := fR.1 hk
     refine bJ h ?_
     show Bp d a b sl ob nx lg = _
     unfold Bp
     rw [ha, hb]
     simp only [hk, cond_true, fG]
     by_cases hlt : n < m
     ·simp [hlt, Int.min_eq_right (Int.le_of_lt hlt)]
     ·simp [hlt, Int.min_eq_left (Int.not_lt.1 hlt)]
  ·exact h.elim
 ·rename_i d f xs
  split at h
  ·rename_i ds hds
   obtain ⟨v, ob', nx', lg', Z, h1, h2, h3⟩ := h.ok
   exact ⟨Z, .cf hds h1 h2, h3⟩
  ·exact h.elim
 ·rename_i d g xs
  split at h
  ·rename_i f first caps ds hg hds
   obtain ⟨v, ob', nx', lg', Z, h1, h2, h3⟩ := h.ok
   exact ⟨Z, .cv hg hds h1 h2, h3⟩
  ·rename_i id ds hg hds
   obtain ⟨v, ob', nx', lg', Z, h1, h2, h3⟩ := h.ok
   exact ⟨Z, .cy hg hds h1 h2, h3⟩
  ·exact h.elim
 all_goals first | exact qO h | exact zH h
end
end Go.Ev
end
