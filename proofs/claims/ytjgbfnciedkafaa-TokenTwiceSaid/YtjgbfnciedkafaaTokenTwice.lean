/-
  TokenTwice: of hires that can be read, the first that hires a chair or gives a token twice.
-/
import Derived.Test.YtjgbfnciedkafaaEvUGc
import Derived.Test.YtjgbfnciedkafaaRows
import Derived.WalkKit
import Derived.ProofKit
import Derived.OpenShut
import Derived.Test.YtjgbfnciedkafaaEvUOc
import Derived.Test.YtjgbfnciedkafaaEvUS3T
import Derived.ShutString
import Derived.Test.YtjgbfnciedkafaaFaTokenTwice
set_option linter.all false
namespace Go.Ev
open Go.Proofs
set_option maxRecDepth 1000000
noncomputable def rc11 : RC := (.seq (.reg [(.u (.mv p5 (.k (.b false))))]) (.seq (.reg [(.u (.mv p15 (.t p1))), (.u (.cvi p16 .i64 (.t p15))), (.u (.bin p17 .rem (.t p16) (.k (.i .i64 4)))), (.u (.bin p18 .add (.t p17) (.k (.i .i64 1)))), (.u (.mv p6 (.t p18)))]) (.seq (.reg [(.u (.mv p19 (.t p6))), (.u (.bld p20 [(.i .i64 0), (.i .i64 0), (.i .i64 0), .ns, .ns] [(0, (1, (.t p19))), (1, (1, (.k (.i .i64 1))))])), (.u (.new p7 [(.i .i64 0), (.i .i64 0), (.i .i64 0), .ns, .ns])), (.u (.st (.t p7) (.t p20) 5))]) (.seq (.reg [(.u (.mv p8 (.k (.i .i64 (-1)))))]) (.seq (.reg [(.u (.mv p9 (.k (.i .i64 0))))]) (.seq (.seq (.reg [(.u (.mv p10 (.k (.i .i64 0))))]) (.blk 0 (.loop (.seq (.seq (.reg [(.u (.mv p21 (.t p10))), (.u (.mv p22 (.t p2))), (.u (.len p23 (.t p22))), (.u (.mn p24 (.k (.i .i64 8)) (.t p23))), (.u (.bin p25 .lss (.t p21) (.t p24)))]) (.cond (.t p25) .skip (.exit 0))) (.seq (.blk 1 (.seq (.drw [(.u (.mv p28 (.t p2))), (.u (.mv p29 (.t p10))), (.u (.ixs p30 1 (.t p28) (.t p29))), (.u (.ld1 p31 (.t p30))), (.u (.cvi p32 .i64 (.t p31))), (.u (.mv p33 (.t p6))), (.u (.bin p34 .rem (.t p32) (.t p33))), (.u (.mv p35 (.t p2))), (.u (.mv p36 (.t p10))), (.u (.ixs p37 1 (.t p35) (.t p36))), (.u (.ld1 p38 (.t p37))), (.u (.cvi p39 .i64 (.t p38))), (.u (.bin p40 .quo (.t p39) (.k (.i .i64 8)))), (.u (.mv p41 (.t p6))), (.u (.bin p42 .rem (.t p40) (.t p41))), (.u (.bld p43 [(.i .i64 0), (.i .i64 0), (.i .i64 0)] [(0, (1, (.k (.i .i64 1)))), (1, (1, (.t p34))), (2, (1, (.t p42)))])), (.u (.new p11 [(.i .i64 0), (.i .i64 0), (.i .i64 0)])), (.u (.st (.t p11) (.t p43) 3))] [0, 0, 3, 7, 15, 0, 63, 0, 0, 384, 896, 1920, 3968, 0, 16256, 32767, 0, 131071]) (.seq (.reg [(.u (.fad p44 (.t p11) 1)), (.u (.ld1 p45 (.t p44))), (.u (.cvi p46 .u64 (.t p45))), (.u (.bin p47 .shl (.k (.i .i64 1)) (.t p46))), (.u (.fad p48 (.t p11) 2)), (.u (.ld1 p49 (.t p48))), (.u (.cvi p50 .u64 (.t p49))), (.u (.bin p51 .shl (.k (.i .i64 16)) (.t p50))), (.u (.bin p52 .or (.t p47) (.t p51))), (.u (.mv p12 (.t p52)))]) (.seq (.seq (.reg [(.u (.mv p53 (.t p8))), (.u (.bin p54 .lss (.t p53) (.k (.i .i64 0)))), (.u (.mv p55 (.t p54))), (.g p55 true (some p56) (.mv p56 (.t p9))), (.g p55 true (some p57) (.mv p57 (.t p12))), (.g p55 true (some p58) (.bin p58 .and (.t p56) (.t p57))), (.g p55 true (some p59) (.bin p59 .neq (.t p58) (.k (.i .i64 0)))), (.u (.pick p60 (.t p55) (.t p59) (.k (.b false))))]) (.cond (.t p60) (.reg [(.u (.mv p61 (.t p10))), (.u (.mv p8 (.t p61)))]) .skip)) (.seq (.reg [(.u (.mv p62 (.t p9))), (.u (.mv p63 (.t p12))), (.u (.bin p64 .or (.t p62) (.t p63))), (.u (.mv p9 (.t p64)))]) (.reg [(.u (.fad p65 (.t p7) 3)), (.u (.ld1 p66 (.t p65))), (.u (.ldn p67 (.t p11) 3)), (.u (.bsl p68 3 1 [(.i .i64 0), (.i .i64 0), (.i .i64 0)] [(0, (3, (.t p67)))])), (.u (.app p69 3 (.t p66) (.t p68))), (.u (.fad p70 (.t p7) 3)), (.u (.st (.t p70) (.t p69) 1))])))))) (.reg [(.u (.mv p26 (.t p10))), (.u (.bin p27 .add (.t p26) (.k (.i .i64 1)))), (.u (.mv p10 (.t p27)))])))))) (.seq (.reg [(.u (.ldn p72 (.t p7) 5)), (.u (.cf (some p73) p24 [(.t p72)])), (.u (.cf (some p74) p47 [(.t p73)])), (.u (.mv p71 (.t p74))), (.u (.ext p75 (.t p71) 0)), (.u (.ext p76 (.t p71) 1)), (.u (.mv p13 (.t p75))), (.u (.mv p14 (.t p76)))]) (.seq (.seq (.reg [(.u (.mv p77 (.t p8))), (.u (.bin p78 .lss (.t p77) (.k (.i .i64 0))))]) (.cond (.t p78) (.seq (.reg [(.u (.mv p79 (.t p14))), (.u (.bin p80 .eql (.t p79) (.k (.i .i64 7)))), (.u (.mv p81 (.t p80))), (.g p81 true (some p82) (.mv p82 (.t p13))), (.g p81 true (some p83) (.bin p83 .eql (.t p82) (.k (.i .i64 0)))), (.u (.pick p84 (.t p81) (.t p83) (.k (.b false)))), (.u (.mv p85 (.t p84))), (.g p85 true (some p86) (.cf (some p86) p22 [])), (.u (.pick p87 (.t p85) (.t p86) (.k (.b false)))), (.u (.mv p5 (.t p87)))]) .ret) .skip)) (.seq (.reg [(.u (.mv p88 (.t p14))), (.u (.bin p89 .eql (.t p88) (.k (.i .i64 0)))), (.u (.mv p90 (.t p89))), (.g p90 true (some p91) (.mv p91 (.t p13))), (.g p90 true (some p92) (.mv p92 (.t p8))), (.g p90 true (some p93) (.bin p93 .eql (.t p91) (.t p92))), (.u (.pick p94 (.t p90) (.t p93) (.k (.b false)))), (.u (.mv p95 (.t p94))), (.g p95 true (some p96) (.cf (some p96) p22 [])), (.u (.pick p97 (.t p95) (.t p96) (.k (.b false)))), (.u (.mv p5 (.t p97)))]) .ret)))))))))
def rs11 : List RR := [(.t p5)]
theorem fn11 : FnOk Try.prog p12.ix 97 rc11 rs11 := ⟨Try.f11, bodyC Try.f11, Try.func11, by kernel_rfl, by kernel_rfl, by kernel_rfl, by kernel_rfl, by kernel_rfl⟩

end Go.Ev

namespace Go.Ev
open Go.Proofs
set_option maxRecDepth 100000
/-! ### TokenTwice -/
def w16D (n : Int) : List D := [.i .u16 n]
theorem pu_w16 (l : List Int) : PuE (rows w16D l) := pu_rows (fun n => by simp [w16D, PuL, Pu]) l
def twW (n w : Int) : Ln := ⟨1, w.tmod n, (w.tdiv 8).tmod n⟩
def twL (n : Int) (ws : List Int) : List Ln := (ws.take 8).map (twW n)
theorem twL_len (n : Int) (ws : List Int) : (twL n ws).length = min 8 ws.length := by simp [twL]
theorem twL_at {n : Int} {ws : List Int} {j : Nat} (h : j < 8) (h2 : j < ws.length) : (twL n ws).getD j default = twW n (ws.getD j default) := by
  simp [twL, List.getD, h, h2]
theorem tw_hire {n : Int} (hn : 1 ≤ n) {ws : List Int} (hw : ∀ w ∈ ws, 0 ≤ w ∧ w ≤ 65535) : HireL n (twL n ws) := fun x hx => by
  obtain ⟨w, h1, rfl⟩ := List.mem_map.1 hx
  obtain ⟨w0, _⟩ := hw w (List.mem_of_mem_take h1)
  have a1 := Int.tmod_nonneg n w0
  have a2 := Int.tmod_lt_of_pos w (show 0 < n by omega)
  have b0 : 0 ≤ w.tdiv 8 := by rw [Int.tdiv_eq_ediv_of_nonneg w0]; omega
  have b1 := Int.tmod_nonneg n b0
  have b2 := Int.tmod_lt_of_pos (w.tdiv 8) (show 0 < n by omega)
  refine ⟨rfl, ?_, ?_⟩
  · show 0 ≤ w.tmod n ∧ w.tmod n ≤ n - 1
    omega
  · show 0 ≤ (w.tdiv 8).tmod n ∧ (w.tdiv 8).tmod n ≤ n - 1
    omega
def slW : List Ln → D
  | [] => .ns
  | _ :: s => .sl (.o (.o .h)) 0 (s.length + 1) s.length 3
def blW : List Ln → Option C
  | [] => none
  | a :: s => some (.cells false ((lnF (a :: s)).map fun d => Cell.o d s.length) (s.length + 1))
def nxW : List Ln → Pos
  | [] => .o .h
  | _ :: _ => .i (.o .h)
theorem outQ_sh2 {n coin box : Int} {d d' : D} {B : Pos → Prop} {ob : T C} (h : Fz B ob d d') : ShC B ob (outQ n coin box d) (outQ n coin box d') := by
  refine .cells fun k c' hc => ?_
  match k, hc with
  | 0, hc => cases hc; exact ⟨_, rfl, fun _ h => h, .pu trivial⟩
  | 1, hc => cases hc; exact ⟨_, rfl, fun _ h => h, .pu trivial⟩
  | 2, hc => cases hc; exact ⟨_, rfl, fun _ h => h, .pu trivial⟩
  | 3, hc => cases hc; exact ⟨_, rfl, fun _ h => h, h⟩
  | 4, hc => cases hc; exact ⟨_, rfl, fun _ h => h, .pu trivial⟩
  | k + 5, hc => cases hc
theorem slW_snoc (a : Ln) (s : List Ln) (x : Ln) : slW (a :: (s ++ [x])) = .sl (.o (.o .h)) 0 (s.length + 1 + 1) (s.length + 1) 3 := by simp [slW]
theorem blW_snoc (a : Ln) (s : List Ln) (x : Ln) : blW (a :: (s ++ [x])) = some (.cells false ((lnF (a :: s) ++ lnD x).map fun d => Cell.o d (s.length + 1)) (s.length + 1 + 1)) := by
  have h := lnF_snoc (a :: s) x
  have h2 : lnF (a :: (s ++ [x])) = lnF (a :: s) ++ lnD x := h
  simp [blW, h2]
noncomputable def twS (n : Int) (ws : List Int) (L : List Ln) (A : List Ln) (j : Nat) : X := ⟨(.n (.n (.n (.n .e (some (.i .i64 (dueN L j))) .e) none .e) (some (.lst 1 (rows w16D ws))) (.n (.n .e (some (.i .i64 (j : Int))) .e) (some (.i .i64 n)) .e)) none (.n (.n (.n .e (some (.i .i64 (seenN L j : Int))) .e) none .e) none (.n .e (some (.pt .h 0 0)) .e))), .n (.n (.n .e (blW A) .e) none .e) (some (outQ n 1 0 (slW A))) .e, nxW A, none⟩
set_option maxHeartbeats 4000000 in
theorem j_TokenTwice (ch : Int) (ws : List Int) (hc : 0 ≤ ch ∧ ch ≤ 255) (hw : ∀ w ∈ ws, 0 ≤ w ∧ w ≤ 65535) (AW : PureF Try.prog p22.ix [] (.b true)) : PureF Try.prog p12.ix [.i .u8 ch, .lst 1 (rows w16D ws)] (.b true) := by
  have e1 := rows_length w16D ws
  have a1 := Int.tmod_nonneg 4 hc.1
  have a2 := Int.tmod_lt_of_pos ch (show (0 : Int) < 4 by omega)
  have a1 : 0 ≤ ch.tmod 4 := a1
  refine PureF.run fn11 (by simp) (by simp [PuL, Pu, pu_w16]) ?_; conv => whnf
  refine Rn.seq ?_; conv => whnf
  refine Rn.reg ?_; conv => whnf
  refine Rn.seq ?_; conv => whnf
  refine Rn.reg ?_; conv => whnf
  repeat' first | (refine And.intro (InR.i64 (by omega) (by omega)) ?_; conv => whnf) | (refine And.intro (show _ ≠ (0 : Int) by omega) ?_; conv => whnf)
  refine Rn.seq ?_; conv => whnf
  refine Rn.reg ?_; conv => whnf
  refine Rn.seq ?_; conv => whnf
  refine Rn.reg ?_; conv => whnf
  refine Rn.seqB ?_; conv => whnf
  repeat' first | ((first | with_reducible apply WB.tt | with_reducible apply WB.ff | refine Rn.seq ?_ | refine Rn.reg ?_ | refine Rn.drw ?_ | refine Rn.blk ?_ | refine Rn.skip ?_ | refine Rn.ret ?_ | refine Rn.exit ?_ | refine Rn.cond rfl ?_ | refine And.intro (InR.i64 (by omega) (by omega)) ?_ | refine And.intro (show _ ≠ (0 : Int) by omega) ?_ | refine WIx.intsN (by omega) ?_ | refine WIx.rowsN (by omega) ?_ | with_reducible refine WB.decT (by first | with_reducible rfl | assumption | omega | exact ⟨rfl, rfl⟩) ?_ | with_reducible refine WB.decF (by first | assumption | omega) ?_ | with_reducible refine WB.ndT (by first | with_reducible rfl | assumption | omega | exact ⟨rfl, rfl⟩) ?_ | with_reducible refine WB.ndF (by first | assumption | omega) ?_ | with_reducible refine WB.nt ?_ | with_reducible refine WB.nf ?_ | with_reducible refine WB.dec (fun h => ?_) (fun h => ?_) | with_reducible refine WB.ndec (fun h => ?_) (fun h => ?_) | refine WB.mk (fun h => ?_) (fun h => ?_)) <;> conv => whnf)
  obtain ⟨n, hN⟩ : ∃ n, ch.tmod 4 + 1 = n := ⟨_, rfl⟩
  have hn : 1 ≤ n ∧ n ≤ 4 := by omega
  rw [hN]
  clear a1 a2
  obtain ⟨L, hL⟩ : ∃ L, twL n ws = L := ⟨_, rfl⟩
  have H : HireL n L := by rw [← hL]; exact tw_hire hn.1 hw
  have hLl : L.length = min 8 ws.length := by rw [← hL]; exact twL_len _ _
  refine Rn.loop (fun j : Nat => twS n ws L (L.take j) j) (fun j => j ≤ L.length) (fun j => L.length - j) 0 ?_ ?_ ?_
  · refine Go.Ev.X.le.mk ?_ ?_ (Nat.le_refl _) rfl rfl
    · show T.le ((.n (.n (.n (.n .e (some (.i .i64 (-1))) .e) none .e) (some (.lst 1 (rows w16D ws))) (.n (.n .e (some (.i .i64 0)) .e) (some (.i .i64 n)) .e)) none (.n (.n (.n .e (some (.i .i64 0)) .e) none .e) none (.n .e (some (.pt .h 0 0)) .e))) : T D) _
      (repeat' first | exact T.le_e _ | refine T.le_some ?_ rfl ?_ | refine T.le_none ?_ ?_ | refine T.le_ee ?_ ?_)
    · show T.le (.n (.n (.n .e none .e) none .e) (some (outQ n 1 0 .ns)) .e : T C) _
      (repeat' first | exact T.le_e _ | refine T.le_some ?_ rfl ?_ | refine T.le_none ?_ ?_ | refine T.le_ee ?_ ?_)
  · exact Nat.zero_le _
  intro j hj
  have hj : j ≤ L.length := hj
  have hAl : (L.take j).length ≤ 8 := by rw [List.length_take]; omega
  have hend : j = L.length → L.take j = L := fun e => List.take_of_length_le (by omega)
  have hnext : j < L.length → L.take (j + 1) = L.take j ++ [L.getD j default] := fun h => take_succ_getD (d := default) h
  generalize hA : L.take j = A at *
  conv => whnf
  repeat' first | ((first | with_reducible apply WB.tt | with_reducible apply WB.ff | refine Rn.seq ?_ | refine Rn.reg ?_ | refine Rn.drw ?_ | refine Rn.blk ?_ | refine Rn.skip ?_ | refine Rn.ret ?_ | refine Rn.exit ?_ | refine Rn.cond rfl ?_ | refine And.intro (InR.i64 (by omega) (by omega)) ?_ | refine And.intro (show _ ≠ (0 : Int) by omega) ?_ | refine WIx.intsN (by omega) ?_ | refine WIx.rowsN (by omega) ?_) <;> conv => whnf)
  refine WB.dec (fun h => ?_) (fun h => ?_) <;> conv => whnf
  · have hlt : j < L.length := by omega
    have hjw : j < ws.length := by omega
    have hnext := hnext hlt
    have hx0 := H _ (getD_mem (d := default) hlt)
    have hat : L.getD j default = twW n (ws.getD j default) := by rw [← hL]; exact twL_at (by omega) hjw
    have hwj := hw _ (getD_mem (d := default) hjw)
    have q8 : 0 ≤ (ws.getD j default).tdiv 8 ∧ (ws.getD j default).tdiv 8 ≤ 65535 := by
      rw [Int.tdiv_eq_ediv_of_nonneg hwj.1]; omega
    obtain ⟨c, hcc⟩ := Int.eq_ofNat_of_zero_le (Int.tmod_nonneg n hwj.1)
    obtain ⟨t, htt⟩ := Int.eq_ofNat_of_zero_le (Int.tmod_nonneg n q8.1)
    have hx : L.getD j default = ⟨1, (c : Int), (t : Int)⟩ := by
      rw [hat]
      show (⟨1, (ws.getD j default).tmod n, ((ws.getD j default).tdiv 8).tmod n⟩ : Ln) = _
      rw [hcc, htt]
    rw [hx] at hx0 hnext
    have hc4 : c < 4 := by have h : (c : Int) ≤ n - 1 := hx0.2.1.2; omega
    have ht4 : t < 4 := by have h : (t : Int) ≤ n - 1 := hx0.2.2.2; omega
    have hcp : ∀ c : _root_.Fin 4, 1 * 2 ^ c.1 < 256 := by decide
    have htp : ∀ t : _root_.Fin 4, 16 * 2 ^ t.1 < 256 := by decide
    have hcp : 1 * 2 ^ c < 256 := hcp ⟨c, hc4⟩
    have htp : 16 * 2 ^ t < 256 := htp ⟨t, ht4⟩
    have hbt : 1 * 2 ^ c ||| 16 * 2 ^ t < 256 := Nat.or_lt_two_pow (n := 8) hcp htp
    have hbit : bitL (L.getD j default) = 1 * 2 ^ c ||| 16 * 2 ^ t := by rw [hx]; rfl
    have hsl := seen_lt hn.2 H j (by omega)
    have hsn : seenN L (j + 1) = seenN L j ||| (1 * 2 ^ c ||| 16 * 2 ^ t) := by
      show seenN L j ||| bitL (L.getD j default) = _
      rw [hbit]
    have hdn : dueN L (j + 1) = if dueN L j < 0 ∧ seenN L j &&& (1 * 2 ^ c ||| 16 * 2 ^ t) ≠ 0 then (j : Int) else dueN L j := by
      rw [← hbit]; rfl
    have hS2 : ∀ (du : Int), du = dueN L (j + 1) → twS n ws L (L.take (j + 1)) (j + 1) = ⟨(.n (.n (.n (.n .e (some (.i .i64 du)) .e) none .e) (some (.lst 1 (rows w16D ws))) (.n (.n .e (some (.i .i64 ((j + 1 : Nat) : Int))) .e) (some (.i .i64 n)) .e)) none (.n (.n (.n .e (some (.i .i64 ((seenN L j ||| (1 * 2 ^ c ||| 16 * 2 ^ t) : Nat) : Int))) .e) none .e) none (.n .e (some (.pt .h 0 0)) .e))), .n (.n (.n .e (blW (A ++ [⟨1, (c : Int), (t : Int)⟩])) .e) none .e) (some (outQ n 1 0 (slW (A ++ [⟨1, (c : Int), (t : Int)⟩])))) .e, nxW (A ++ [⟨1, (c : Int), (t : Int)⟩]), none⟩ := fun du h => by
      unfold twS
      rw [hnext, h, hsn]
    have hnx : ∀ A', A = A' → (twS n ws L (L.take (j + 1)) (j + 1)).nx = nxW (A' ++ [⟨1, (c : Int), (t : Int)⟩]) := fun A' h => by
      unfold twS
      rw [hnext, h]
    have hnx0 : ∀ A', A = A' → (twS n ws L (L.take j) j).nx = nxW A' := fun A' h => by
      unfold twS
      rw [hA, h]
    cases A with
    | nil =>
      repeat' first | ((first | with_reducible apply WB.tt | with_reducible apply WB.ff | refine Rn.seq ?_ | refine Rn.reg ?_ | refine Rn.drw ?_ | refine Rn.blk ?_ | refine Rn.skip ?_ | refine Rn.ret ?_ | refine Rn.exit ?_ | refine Rn.cond rfl ?_ | refine And.intro (InR.i64 (by omega) (by omega)) ?_ | refine And.intro (show _ ≠ (0 : Int) by omega) ?_ | refine WIx.intsN (by omega) ?_ | refine WIx.rowsN (by omega) ?_ | with_reducible refine WB.decT (by first | with_reducible rfl | assumption | omega | exact ⟨rfl, rfl⟩) ?_ | with_reducible refine WB.decF (by first | assumption | omega) ?_ | with_reducible refine WB.ndT (by first | with_reducible rfl | assumption | omega | exact ⟨rfl, rfl⟩) ?_ | with_reducible refine WB.ndF (by first | assumption | omega) ?_ | with_reducible refine WB.nt ?_ | with_reducible refine WB.nf ?_ | with_reducible refine WB.dec (fun h => ?_) (fun h => ?_) | with_reducible refine WB.ndec (fun h => ?_) (fun h => ?_) | refine WB.mk (fun h => ?_) (fun h => ?_)) <;> conv => whnf)
      rw [hcc, htt]
      repeat' first | ((first | with_reducible apply WB.tt | with_reducible apply WB.ff | refine Rn.seq ?_ | refine Rn.reg ?_ | refine Rn.drw ?_ | refine Rn.blk ?_ | refine Rn.skip ?_ | refine Rn.ret ?_ | refine Rn.exit ?_ | refine Rn.cond rfl ?_ | refine And.intro (InR.i64 (by omega) (by omega)) ?_ | refine And.intro (show _ ≠ (0 : Int) by omega) ?_ | refine WIx.intsN (by omega) ?_ | refine WIx.rowsN (by omega) ?_ | with_reducible refine WB.decT (by first | with_reducible rfl | assumption | omega | exact ⟨rfl, rfl⟩) ?_ | with_reducible refine WB.decF (by first | assumption | omega) ?_ | with_reducible refine WB.ndT (by first | with_reducible rfl | assumption | omega | exact ⟨rfl, rfl⟩) ?_ | with_reducible refine WB.ndF (by first | assumption | omega) ?_ | with_reducible refine WB.nt ?_ | with_reducible refine WB.nf ?_ | with_reducible refine WB.dec (fun h => ?_) (fun h => ?_) | with_reducible refine WB.ndec (fun h => ?_) (fun h => ?_) | refine WB.mk (fun h => ?_) (fun h => ?_)) <;> conv => whnf)
      refine And.intro (InR.u64 (by omega) (by omega)) ?_; conv => whnf
      repeat' first | ((first | with_reducible apply WB.tt | with_reducible apply WB.ff | refine Rn.seq ?_ | refine Rn.reg ?_ | refine Rn.drw ?_ | refine Rn.blk ?_ | refine Rn.skip ?_ | refine Rn.ret ?_ | refine Rn.exit ?_ | refine Rn.cond rfl ?_ | refine And.intro (InR.i64 (by omega) (by omega)) ?_ | refine And.intro (show _ ≠ (0 : Int) by omega) ?_ | refine WIx.intsN (by omega) ?_ | refine WIx.rowsN (by omega) ?_ | with_reducible refine WB.decT (by first | with_reducible rfl | assumption | omega | exact ⟨rfl, rfl⟩) ?_ | with_reducible refine WB.decF (by first | assumption | omega) ?_ | with_reducible refine WB.ndT (by first | with_reducible rfl | assumption | omega | exact ⟨rfl, rfl⟩) ?_ | with_reducible refine WB.ndF (by first | assumption | omega) ?_ | with_reducible refine WB.nt ?_ | with_reducible refine WB.nf ?_ | with_reducible refine WB.dec (fun h => ?_) (fun h => ?_) | with_reducible refine WB.ndec (fun h => ?_) (fun h => ?_) | refine WB.mk (fun h => ?_) (fun h => ?_)) <;> conv => whnf)
      refine WSt.shlN (a := 1) (by rfl) (by rfl) (by omega) (by omega) ?_; conv => whnf
      repeat' first | ((first | with_reducible apply WB.tt | with_reducible apply WB.ff | refine Rn.seq ?_ | refine Rn.reg ?_ | refine Rn.drw ?_ | refine Rn.blk ?_ | refine Rn.skip ?_ | refine Rn.ret ?_ | refine Rn.exit ?_ | refine Rn.cond rfl ?_ | refine And.intro (InR.i64 (by omega) (by omega)) ?_ | refine And.intro (show _ ≠ (0 : Int) by omega) ?_ | refine WIx.intsN (by omega) ?_ | refine WIx.rowsN (by omega) ?_ | with_reducible refine WB.decT (by first | with_reducible rfl | assumption | omega | exact ⟨rfl, rfl⟩) ?_ | with_reducible refine WB.decF (by first | assumption | omega) ?_ | with_reducible refine WB.ndT (by first | with_reducible rfl | assumption | omega | exact ⟨rfl, rfl⟩) ?_ | with_reducible refine WB.ndF (by first | assumption | omega) ?_ | with_reducible refine WB.nt ?_ | with_reducible refine WB.nf ?_ | with_reducible refine WB.dec (fun h => ?_) (fun h => ?_) | with_reducible refine WB.ndec (fun h => ?_) (fun h => ?_) | refine WB.mk (fun h => ?_) (fun h => ?_)) <;> conv => whnf)
      refine And.intro (InR.u64 (by omega) (by omega)) ?_; conv => whnf
      repeat' first | ((first | with_reducible apply WB.tt | with_reducible apply WB.ff | refine Rn.seq ?_ | refine Rn.reg ?_ | refine Rn.drw ?_ | refine Rn.blk ?_ | refine Rn.skip ?_ | refine Rn.ret ?_ | refine Rn.exit ?_ | refine Rn.cond rfl ?_ | refine And.intro (InR.i64 (by omega) (by omega)) ?_ | refine And.intro (show _ ≠ (0 : Int) by omega) ?_ | refine WIx.intsN (by omega) ?_ | refine WIx.rowsN (by omega) ?_ | with_reducible refine WB.decT (by first | with_reducible rfl | assumption | omega | exact ⟨rfl, rfl⟩) ?_ | with_reducible refine WB.decF (by first | assumption | omega) ?_ | with_reducible refine WB.ndT (by first | with_reducible rfl | assumption | omega | exact ⟨rfl, rfl⟩) ?_ | with_reducible refine WB.ndF (by first | assumption | omega) ?_ | with_reducible refine WB.nt ?_ | with_reducible refine WB.nf ?_ | with_reducible refine WB.dec (fun h => ?_) (fun h => ?_) | with_reducible refine WB.ndec (fun h => ?_) (fun h => ?_) | refine WB.mk (fun h => ?_) (fun h => ?_)) <;> conv => whnf)
      refine WSt.shlN (a := 16) (by rfl) (by rfl) (by omega) (by omega) ?_; conv => whnf
      repeat' first | ((first | with_reducible apply WB.tt | with_reducible apply WB.ff | refine Rn.seq ?_ | refine Rn.reg ?_ | refine Rn.drw ?_ | refine Rn.blk ?_ | refine Rn.skip ?_ | refine Rn.ret ?_ | refine Rn.exit ?_ | refine Rn.cond rfl ?_ | refine And.intro (InR.i64 (by omega) (by omega)) ?_ | refine And.intro (show _ ≠ (0 : Int) by omega) ?_ | refine WIx.intsN (by omega) ?_ | refine WIx.rowsN (by omega) ?_ | with_reducible refine WB.decT (by first | with_reducible rfl | assumption | omega | exact ⟨rfl, rfl⟩) ?_ | with_reducible refine WB.decF (by first | assumption | omega) ?_ | with_reducible refine WB.ndT (by first | with_reducible rfl | assumption | omega | exact ⟨rfl, rfl⟩) ?_ | with_reducible refine WB.ndF (by first | assumption | omega) ?_ | with_reducible refine WB.nt ?_ | with_reducible refine WB.nf ?_ | with_reducible refine WB.dec (fun h => ?_) (fun h => ?_) | with_reducible refine WB.ndec (fun h => ?_) (fun h => ?_) | refine WB.mk (fun h => ?_) (fun h => ?_)) <;> conv => whnf)
      refine WSt.orB (by rfl) (by rfl) (by omega) (by omega) ?_; conv => whnf
      generalize 1 * 2 ^ c ||| 16 * 2 ^ t = bt at *
      generalize seenN L j = sn at *
      by_cases hd0 : dueN L j < 0
      · by_cases hand : ((sn &&& bt : Nat) : Int) ≠ 0
        · rw [if_pos ⟨hd0, fun h => hand (by rw [h]; rfl)⟩] at hdn
          repeat' first | ((first | with_reducible apply WB.tt | with_reducible apply WB.ff | refine Rn.seq ?_ | refine Rn.reg ?_ | refine Rn.drw ?_ | refine Rn.blk ?_ | refine Rn.skip ?_ | refine Rn.ret ?_ | refine Rn.exit ?_ | refine Rn.cond rfl ?_ | refine And.intro (InR.i64 (by omega) (by omega)) ?_ | refine And.intro (show _ ≠ (0 : Int) by omega) ?_ | refine WIx.intsN (by omega) ?_ | refine WIx.rowsN (by omega) ?_ | with_reducible refine WB.decT (by first | with_reducible rfl | assumption | omega | exact ⟨rfl, rfl⟩) ?_ | with_reducible refine WB.decF (by first | assumption | omega) ?_ | with_reducible refine WB.ndT (by first | with_reducible rfl | assumption | omega | exact ⟨rfl, rfl⟩) ?_ | with_reducible refine WB.ndF (by first | assumption | omega) ?_ | with_reducible refine WB.nt ?_ | with_reducible refine WB.nf ?_ | with_reducible refine WB.dec (fun h => ?_) (fun h => ?_) | with_reducible refine WB.ndec (fun h => ?_) (fun h => ?_) | refine WB.mk (fun h => ?_) (fun h => ?_)) <;> conv => whnf)
          refine WSt.andB (by rfl) (by rfl) (by omega) (by omega) ?_; conv => whnf
          repeat' first | ((first | with_reducible apply WB.tt | with_reducible apply WB.ff | refine Rn.seq ?_ | refine Rn.reg ?_ | refine Rn.drw ?_ | refine Rn.blk ?_ | refine Rn.skip ?_ | refine Rn.ret ?_ | refine Rn.exit ?_ | refine Rn.cond rfl ?_ | refine And.intro (InR.i64 (by omega) (by omega)) ?_ | refine And.intro (show _ ≠ (0 : Int) by omega) ?_ | refine WIx.intsN (by omega) ?_ | refine WIx.rowsN (by omega) ?_ | with_reducible refine WB.decT (by first | with_reducible rfl | assumption | omega | exact ⟨rfl, rfl⟩) ?_ | with_reducible refine WB.decF (by first | assumption | omega) ?_ | with_reducible refine WB.ndT (by first | with_reducible rfl | assumption | omega | exact ⟨rfl, rfl⟩) ?_ | with_reducible refine WB.ndF (by first | assumption | omega) ?_ | with_reducible refine WB.nt ?_ | with_reducible refine WB.nf ?_ | with_reducible refine WB.dec (fun h => ?_) (fun h => ?_) | with_reducible refine WB.ndec (fun h => ?_) (fun h => ?_) | refine WB.mk (fun h => ?_) (fun h => ?_)) <;> conv => whnf)
          refine WSt.orB (by rfl) (by rfl) (by omega) (by omega) ?_; conv => whnf
          repeat' first | ((first | with_reducible apply WB.tt | with_reducible apply WB.ff | refine Rn.seq ?_ | refine Rn.reg ?_ | refine Rn.drw ?_ | refine Rn.blk ?_ | refine Rn.skip ?_ | refine Rn.ret ?_ | refine Rn.exit ?_ | refine Rn.cond rfl ?_ | refine And.intro (InR.i64 (by omega) (by omega)) ?_ | refine And.intro (show _ ≠ (0 : Int) by omega) ?_ | refine WIx.intsN (by omega) ?_ | refine WIx.rowsN (by omega) ?_ | with_reducible refine WB.decT (by first | with_reducible rfl | assumption | omega | exact ⟨rfl, rfl⟩) ?_ | with_reducible refine WB.decF (by first | assumption | omega) ?_ | with_reducible refine WB.ndT (by first | with_reducible rfl | assumption | omega | exact ⟨rfl, rfl⟩) ?_ | with_reducible refine WB.ndF (by first | assumption | omega) ?_ | with_reducible refine WB.nt ?_ | with_reducible refine WB.nf ?_ | with_reducible refine WB.dec (fun h => ?_) (fun h => ?_) | with_reducible refine WB.ndec (fun h => ?_) (fun h => ?_) | refine WB.mk (fun h => ?_) (fun h => ?_)) <;> conv => whnf)
          refine WSt.app_first (r := lnD ⟨1, (c : Int), (t : Int)⟩) rfl (.inl rfl) rfl rfl rfl rfl ?_; conv => whnf
          repeat' first | ((first | with_reducible apply WB.tt | with_reducible apply WB.ff | refine Rn.seq ?_ | refine Rn.reg ?_ | refine Rn.drw ?_ | refine Rn.blk ?_ | refine Rn.skip ?_ | refine Rn.ret ?_ | refine Rn.exit ?_ | refine Rn.cond rfl ?_ | refine And.intro (InR.i64 (by omega) (by omega)) ?_ | refine And.intro (show _ ≠ (0 : Int) by omega) ?_ | refine WIx.intsN (by omega) ?_ | refine WIx.rowsN (by omega) ?_ | with_reducible refine WB.decT (by first | with_reducible rfl | assumption | omega | exact ⟨rfl, rfl⟩) ?_ | with_reducible refine WB.decF (by first | assumption | omega) ?_ | with_reducible refine WB.ndT (by first | with_reducible rfl | assumption | omega | exact ⟨rfl, rfl⟩) ?_ | with_reducible refine WB.ndF (by first | assumption | omega) ?_ | with_reducible refine WB.nt ?_ | with_reducible refine WB.nf ?_ | with_reducible refine WB.dec (fun h => ?_) (fun h => ?_) | with_reducible refine WB.ndec (fun h => ?_) (fun h => ?_) | refine WB.mk (fun h => ?_) (fun h => ?_)) <;> conv => whnf)
          refine Again.to (j + 1) (by omega) (by omega) (by rw [hnx0 _ rfl, hnx _ rfl]; exact (show 2 ≤ 5 by omega)) ?_
          rw [hS2 _ hdn.symm]
          refine Shr.of ?_ ?_ rfl rfl
          · show Rel _ _ ((.n (.n (.n (.n .e (some (.i .i64 (j : Int))) .e) none .e) (some (.lst 1 (rows w16D ws))) (.n (.n .e (some (.i .i64 ((j + 1 : Nat) : Int))) .e) (some (.i .i64 n)) .e)) none (.n (.n (.n .e (some (.i .i64 ((sn ||| bt : Nat) : Int))) .e) none .e) none (.n .e (some (.pt .h 0 0)) .e))) : T D) _
            (repeat' first | exact Rel.e | refine Rel.some ?_ ?_ ?_ | refine Rel.none ?_ ?_ | refine Rel.ee ?_ ?_)
            all_goals show Fz _ _ _ _
            all_goals first | exact .pu trivial | exact .pu (pu_w16 _) | exact .kpt (show _ < 5 by simp [Pos.nat])
          · show Rel _ _ (.n (.n (.n .e (some (.cells false ((lnF [⟨1, (c : Int), (t : Int)⟩]).map fun d => Cell.o d 0) 1)) .e) none .e) (some (outQ n 1 0 (.sl (.o (.o .h)) 0 1 0 3))) .e : T C) _
            rw [show lnF [(⟨1, (c : Int), (t : Int)⟩ : Ln)] = lnD ⟨1, (c : Int), (t : Int)⟩ by simp [lnF, rows]]
            (repeat' first | exact Rel.e | refine Rel.some ?_ ?_ ?_ | refine Rel.none ?_ ?_ | refine Rel.ee ?_ ?_)
            all_goals first
              | exact RO'.of (show _ < 5 by simp [Pos.nat]) (outQ_sh (.ksl (show _ < 5 by simp [Pos.nat])))
              | exact RO'.of (show _ < 5 by simp [Pos.nat]) (ShC.same (ShC.cn (.pu trivial) (ShC.cn (.pu trivial) (ShC.cn (.pu trivial) ShC.nl))))
        · have hand : ((sn &&& bt : Nat) : Int) = 0 := by omega
          rw [if_neg (fun h => h.2 (by omega))] at hdn
          repeat' first | ((first | with_reducible apply WB.tt | with_reducible apply WB.ff | refine Rn.seq ?_ | refine Rn.reg ?_ | refine Rn.drw ?_ | refine Rn.blk ?_ | refine Rn.skip ?_ | refine Rn.ret ?_ | refine Rn.exit ?_ | refine Rn.cond rfl ?_ | refine And.intro (InR.i64 (by omega) (by omega)) ?_ | refine And.intro (show _ ≠ (0 : Int) by omega) ?_ | refine WIx.intsN (by omega) ?_ | refine WIx.rowsN (by omega) ?_ | with_reducible refine WB.decT (by first | with_reducible rfl | assumption | omega | exact ⟨rfl, rfl⟩) ?_ | with_reducible refine WB.decF (by first | assumption | omega) ?_ | with_reducible refine WB.ndT (by first | with_reducible rfl | assumption | omega | exact ⟨rfl, rfl⟩) ?_ | with_reducible refine WB.ndF (by first | assumption | omega) ?_ | with_reducible refine WB.nt ?_ | with_reducible refine WB.nf ?_ | with_reducible refine WB.dec (fun h => ?_) (fun h => ?_) | with_reducible refine WB.ndec (fun h => ?_) (fun h => ?_) | refine WB.mk (fun h => ?_) (fun h => ?_)) <;> conv => whnf)
          refine WSt.andB (by rfl) (by rfl) (by omega) (by omega) ?_; conv => whnf
          repeat' first | ((first | with_reducible apply WB.tt | with_reducible apply WB.ff | refine Rn.seq ?_ | refine Rn.reg ?_ | refine Rn.drw ?_ | refine Rn.blk ?_ | refine Rn.skip ?_ | refine Rn.ret ?_ | refine Rn.exit ?_ | refine Rn.cond rfl ?_ | refine And.intro (InR.i64 (by omega) (by omega)) ?_ | refine And.intro (show _ ≠ (0 : Int) by omega) ?_ | refine WIx.intsN (by omega) ?_ | refine WIx.rowsN (by omega) ?_ | with_reducible refine WB.decT (by first | with_reducible rfl | assumption | omega | exact ⟨rfl, rfl⟩) ?_ | with_reducible refine WB.decF (by first | assumption | omega) ?_ | with_reducible refine WB.ndT (by first | with_reducible rfl | assumption | omega | exact ⟨rfl, rfl⟩) ?_ | with_reducible refine WB.ndF (by first | assumption | omega) ?_ | with_reducible refine WB.nt ?_ | with_reducible refine WB.nf ?_ | with_reducible refine WB.dec (fun h => ?_) (fun h => ?_) | with_reducible refine WB.ndec (fun h => ?_) (fun h => ?_) | refine WB.mk (fun h => ?_) (fun h => ?_)) <;> conv => whnf)
          refine WSt.orB (by rfl) (by rfl) (by omega) (by omega) ?_; conv => whnf
          repeat' first | ((first | with_reducible apply WB.tt | with_reducible apply WB.ff | refine Rn.seq ?_ | refine Rn.reg ?_ | refine Rn.drw ?_ | refine Rn.blk ?_ | refine Rn.skip ?_ | refine Rn.ret ?_ | refine Rn.exit ?_ | refine Rn.cond rfl ?_ | refine And.intro (InR.i64 (by omega) (by omega)) ?_ | refine And.intro (show _ ≠ (0 : Int) by omega) ?_ | refine WIx.intsN (by omega) ?_ | refine WIx.rowsN (by omega) ?_ | with_reducible refine WB.decT (by first | with_reducible rfl | assumption | omega | exact ⟨rfl, rfl⟩) ?_ | with_reducible refine WB.decF (by first | assumption | omega) ?_ | with_reducible refine WB.ndT (by first | with_reducible rfl | assumption | omega | exact ⟨rfl, rfl⟩) ?_ | with_reducible refine WB.ndF (by first | assumption | omega) ?_ | with_reducible refine WB.nt ?_ | with_reducible refine WB.nf ?_ | with_reducible refine WB.dec (fun h => ?_) (fun h => ?_) | with_reducible refine WB.ndec (fun h => ?_) (fun h => ?_) | refine WB.mk (fun h => ?_) (fun h => ?_)) <;> conv => whnf)
          refine WSt.app_first (r := lnD ⟨1, (c : Int), (t : Int)⟩) rfl (.inl rfl) rfl rfl rfl rfl ?_; conv => whnf
          repeat' first | ((first | with_reducible apply WB.tt | with_reducible apply WB.ff | refine Rn.seq ?_ | refine Rn.reg ?_ | refine Rn.drw ?_ | refine Rn.blk ?_ | refine Rn.skip ?_ | refine Rn.ret ?_ | refine Rn.exit ?_ | refine Rn.cond rfl ?_ | refine And.intro (InR.i64 (by omega) (by omega)) ?_ | refine And.intro (show _ ≠ (0 : Int) by omega) ?_ | refine WIx.intsN (by omega) ?_ | refine WIx.rowsN (by omega) ?_ | with_reducible refine WB.decT (by first | with_reducible rfl | assumption | omega | exact ⟨rfl, rfl⟩) ?_ | with_reducible refine WB.decF (by first | assumption | omega) ?_ | with_reducible refine WB.ndT (by first | with_reducible rfl | assumption | omega | exact ⟨rfl, rfl⟩) ?_ | with_reducible refine WB.ndF (by first | assumption | omega) ?_ | with_reducible refine WB.nt ?_ | with_reducible refine WB.nf ?_ | with_reducible refine WB.dec (fun h => ?_) (fun h => ?_) | with_reducible refine WB.ndec (fun h => ?_) (fun h => ?_) | refine WB.mk (fun h => ?_) (fun h => ?_)) <;> conv => whnf)
          refine Again.to (j + 1) (by omega) (by omega) (by rw [hnx0 _ rfl, hnx _ rfl]; exact (show 2 ≤ 5 by omega)) ?_
          rw [hS2 _ hdn.symm]
          refine Shr.of ?_ ?_ rfl rfl
          · show Rel _ _ ((.n (.n (.n (.n .e (some (.i .i64 (dueN L j))) .e) none .e) (some (.lst 1 (rows w16D ws))) (.n (.n .e (some (.i .i64 ((j + 1 : Nat) : Int))) .e) (some (.i .i64 n)) .e)) none (.n (.n (.n .e (some (.i .i64 ((sn ||| bt : Nat) : Int))) .e) none .e) none (.n .e (some (.pt .h 0 0)) .e))) : T D) _
            (repeat' first | exact Rel.e | refine Rel.some ?_ ?_ ?_ | refine Rel.none ?_ ?_ | refine Rel.ee ?_ ?_)
            all_goals show Fz _ _ _ _
            all_goals first | exact .pu trivial | exact .pu (pu_w16 _) | exact .kpt (show _ < 5 by simp [Pos.nat])
          · show Rel _ _ (.n (.n (.n .e (some (.cells false ((lnF [⟨1, (c : Int), (t : Int)⟩]).map fun d => Cell.o d 0) 1)) .e) none .e) (some (outQ n 1 0 (.sl (.o (.o .h)) 0 1 0 3))) .e : T C) _
            rw [show lnF [(⟨1, (c : Int), (t : Int)⟩ : Ln)] = lnD ⟨1, (c : Int), (t : Int)⟩ by simp [lnF, rows]]
            (repeat' first | exact Rel.e | refine Rel.some ?_ ?_ ?_ | refine Rel.none ?_ ?_ | refine Rel.ee ?_ ?_)
            all_goals first
              | exact RO'.of (show _ < 5 by simp [Pos.nat]) (outQ_sh (.ksl (show _ < 5 by simp [Pos.nat])))
              | exact RO'.of (show _ < 5 by simp [Pos.nat]) (ShC.same (ShC.cn (.pu trivial) (ShC.cn (.pu trivial) (ShC.cn (.pu trivial) ShC.nl))))
      · rw [if_neg (fun h => hd0 h.1)] at hdn
        repeat' first | ((first | with_reducible apply WB.tt | with_reducible apply WB.ff | refine Rn.seq ?_ | refine Rn.reg ?_ | refine Rn.drw ?_ | refine Rn.blk ?_ | refine Rn.skip ?_ | refine Rn.ret ?_ | refine Rn.exit ?_ | refine Rn.cond rfl ?_ | refine And.intro (InR.i64 (by omega) (by omega)) ?_ | refine And.intro (show _ ≠ (0 : Int) by omega) ?_ | refine WIx.intsN (by omega) ?_ | refine WIx.rowsN (by omega) ?_ | with_reducible refine WB.decT (by first | with_reducible rfl | assumption | omega | exact ⟨rfl, rfl⟩) ?_ | with_reducible refine WB.decF (by first | assumption | omega) ?_ | with_reducible refine WB.ndT (by first | with_reducible rfl | assumption | omega | exact ⟨rfl, rfl⟩) ?_ | with_reducible refine WB.ndF (by first | assumption | omega) ?_ | with_reducible refine WB.nt ?_ | with_reducible refine WB.nf ?_ | with_reducible refine WB.dec (fun h => ?_) (fun h => ?_) | with_reducible refine WB.ndec (fun h => ?_) (fun h => ?_) | refine WB.mk (fun h => ?_) (fun h => ?_)) <;> conv => whnf)
        refine WSt.orB (by rfl) (by rfl) (by omega) (by omega) ?_; conv => whnf
        repeat' first | ((first | with_reducible apply WB.tt | with_reducible apply WB.ff | refine Rn.seq ?_ | refine Rn.reg ?_ | refine Rn.drw ?_ | refine Rn.blk ?_ | refine Rn.skip ?_ | refine Rn.ret ?_ | refine Rn.exit ?_ | refine Rn.cond rfl ?_ | refine And.intro (InR.i64 (by omega) (by omega)) ?_ | refine And.intro (show _ ≠ (0 : Int) by omega) ?_ | refine WIx.intsN (by omega) ?_ | refine WIx.rowsN (by omega) ?_ | with_reducible refine WB.decT (by first | with_reducible rfl | assumption | omega | exact ⟨rfl, rfl⟩) ?_ | with_reducible refine WB.decF (by first | assumption | omega) ?_ | with_reducible refine WB.ndT (by first | with_reducible rfl | assumption | omega | exact ⟨rfl, rfl⟩) ?_ | with_reducible refine WB.ndF (by first | assumption | omega) ?_ | with_reducible refine WB.nt ?_ | with_reducible refine WB.nf ?_ | with_reducible refine WB.dec (fun h => ?_) (fun h => ?_) | with_reducible refine WB.ndec (fun h => ?_) (fun h => ?_) | refine WB.mk (fun h => ?_) (fun h => ?_)) <;> conv => whnf)
        refine WSt.app_first (r := lnD ⟨1, (c : Int), (t : Int)⟩) rfl (.inl rfl) rfl rfl rfl rfl ?_; conv => whnf
        repeat' first | ((first | with_reducible apply WB.tt | with_reducible apply WB.ff | refine Rn.seq ?_ | refine Rn.reg ?_ | refine Rn.drw ?_ | refine Rn.blk ?_ | refine Rn.skip ?_ | refine Rn.ret ?_ | refine Rn.exit ?_ | refine Rn.cond rfl ?_ | refine And.intro (InR.i64 (by omega) (by omega)) ?_ | refine And.intro (show _ ≠ (0 : Int) by omega) ?_ | refine WIx.intsN (by omega) ?_ | refine WIx.rowsN (by omega) ?_ | with_reducible refine WB.decT (by first | with_reducible rfl | assumption | omega | exact ⟨rfl, rfl⟩) ?_ | with_reducible refine WB.decF (by first | assumption | omega) ?_ | with_reducible refine WB.ndT (by first | with_reducible rfl | assumption | omega | exact ⟨rfl, rfl⟩) ?_ | with_reducible refine WB.ndF (by first | assumption | omega) ?_ | with_reducible refine WB.nt ?_ | with_reducible refine WB.nf ?_ | with_reducible refine WB.dec (fun h => ?_) (fun h => ?_) | with_reducible refine WB.ndec (fun h => ?_) (fun h => ?_) | refine WB.mk (fun h => ?_) (fun h => ?_)) <;> conv => whnf)
        refine Again.to (j + 1) (by omega) (by omega) (by rw [hnx0 _ rfl, hnx _ rfl]; exact (show 2 ≤ 5 by omega)) ?_
        rw [hS2 _ hdn.symm]
        refine Shr.of ?_ ?_ rfl rfl
        · show Rel _ _ ((.n (.n (.n (.n .e (some (.i .i64 (dueN L j))) .e) none .e) (some (.lst 1 (rows w16D ws))) (.n (.n .e (some (.i .i64 ((j + 1 : Nat) : Int))) .e) (some (.i .i64 n)) .e)) none (.n (.n (.n .e (some (.i .i64 ((sn ||| bt : Nat) : Int))) .e) none .e) none (.n .e (some (.pt .h 0 0)) .e))) : T D) _
          (repeat' first | exact Rel.e | refine Rel.some ?_ ?_ ?_ | refine Rel.none ?_ ?_ | refine Rel.ee ?_ ?_)
          all_goals show Fz _ _ _ _
          all_goals first | exact .pu trivial | exact .pu (pu_w16 _) | exact .kpt (show _ < 5 by simp [Pos.nat])
        · show Rel _ _ (.n (.n (.n .e (some (.cells false ((lnF [⟨1, (c : Int), (t : Int)⟩]).map fun d => Cell.o d 0) 1)) .e) none .e) (some (outQ n 1 0 (.sl (.o (.o .h)) 0 1 0 3))) .e : T C) _
          rw [show lnF [(⟨1, (c : Int), (t : Int)⟩ : Ln)] = lnD ⟨1, (c : Int), (t : Int)⟩ by simp [lnF, rows]]
          (repeat' first | exact Rel.e | refine Rel.some ?_ ?_ ?_ | refine Rel.none ?_ ?_ | refine Rel.ee ?_ ?_)
          all_goals first
            | exact RO'.of (show _ < 5 by simp [Pos.nat]) (outQ_sh (.ksl (show _ < 5 by simp [Pos.nat])))
            | exact RO'.of (show _ < 5 by simp [Pos.nat]) (ShC.same (ShC.cn (.pu trivial) (ShC.cn (.pu trivial) (ShC.cn (.pu trivial) ShC.nl))))
    | cons a s =>
      have hs8 : s.length + 1 ≤ 8 := hAl
      repeat' first | ((first | with_reducible apply WB.tt | with_reducible apply WB.ff | refine Rn.seq ?_ | refine Rn.reg ?_ | refine Rn.drw ?_ | refine Rn.blk ?_ | refine Rn.skip ?_ | refine Rn.ret ?_ | refine Rn.exit ?_ | refine Rn.cond rfl ?_ | refine And.intro (InR.i64 (by omega) (by omega)) ?_ | refine And.intro (show _ ≠ (0 : Int) by omega) ?_ | refine WIx.intsN (by omega) ?_ | refine WIx.rowsN (by omega) ?_ | with_reducible refine WB.decT (by first | with_reducible rfl | assumption | omega | exact ⟨rfl, rfl⟩) ?_ | with_reducible refine WB.decF (by first | assumption | omega) ?_ | with_reducible refine WB.ndT (by first | with_reducible rfl | assumption | omega | exact ⟨rfl, rfl⟩) ?_ | with_reducible refine WB.ndF (by first | assumption | omega) ?_ | with_reducible refine WB.nt ?_ | with_reducible refine WB.nf ?_ | with_reducible refine WB.dec (fun h => ?_) (fun h => ?_) | with_reducible refine WB.ndec (fun h => ?_) (fun h => ?_) | refine WB.mk (fun h => ?_) (fun h => ?_)) <;> conv => whnf)
      rw [hcc, htt]
      repeat' first | ((first | with_reducible apply WB.tt | with_reducible apply WB.ff | refine Rn.seq ?_ | refine Rn.reg ?_ | refine Rn.drw ?_ | refine Rn.blk ?_ | refine Rn.skip ?_ | refine Rn.ret ?_ | refine Rn.exit ?_ | refine Rn.cond rfl ?_ | refine And.intro (InR.i64 (by omega) (by omega)) ?_ | refine And.intro (show _ ≠ (0 : Int) by omega) ?_ | refine WIx.intsN (by omega) ?_ | refine WIx.rowsN (by omega) ?_ | with_reducible refine WB.decT (by first | with_reducible rfl | assumption | omega | exact ⟨rfl, rfl⟩) ?_ | with_reducible refine WB.decF (by first | assumption | omega) ?_ | with_reducible refine WB.ndT (by first | with_reducible rfl | assumption | omega | exact ⟨rfl, rfl⟩) ?_ | with_reducible refine WB.ndF (by first | assumption | omega) ?_ | with_reducible refine WB.nt ?_ | with_reducible refine WB.nf ?_ | with_reducible refine WB.dec (fun h => ?_) (fun h => ?_) | with_reducible refine WB.ndec (fun h => ?_) (fun h => ?_) | refine WB.mk (fun h => ?_) (fun h => ?_)) <;> conv => whnf)
      refine And.intro (InR.u64 (by omega) (by omega)) ?_; conv => whnf
      repeat' first | ((first | with_reducible apply WB.tt | with_reducible apply WB.ff | refine Rn.seq ?_ | refine Rn.reg ?_ | refine Rn.drw ?_ | refine Rn.blk ?_ | refine Rn.skip ?_ | refine Rn.ret ?_ | refine Rn.exit ?_ | refine Rn.cond rfl ?_ | refine And.intro (InR.i64 (by omega) (by omega)) ?_ | refine And.intro (show _ ≠ (0 : Int) by omega) ?_ | refine WIx.intsN (by omega) ?_ | refine WIx.rowsN (by omega) ?_ | with_reducible refine WB.decT (by first | with_reducible rfl | assumption | omega | exact ⟨rfl, rfl⟩) ?_ | with_reducible refine WB.decF (by first | assumption | omega) ?_ | with_reducible refine WB.ndT (by first | with_reducible rfl | assumption | omega | exact ⟨rfl, rfl⟩) ?_ | with_reducible refine WB.ndF (by first | assumption | omega) ?_ | with_reducible refine WB.nt ?_ | with_reducible refine WB.nf ?_ | with_reducible refine WB.dec (fun h => ?_) (fun h => ?_) | with_reducible refine WB.ndec (fun h => ?_) (fun h => ?_) | refine WB.mk (fun h => ?_) (fun h => ?_)) <;> conv => whnf)
      refine WSt.shlN (a := 1) (by rfl) (by rfl) (by omega) (by omega) ?_; conv => whnf
      repeat' first | ((first | with_reducible apply WB.tt | with_reducible apply WB.ff | refine Rn.seq ?_ | refine Rn.reg ?_ | refine Rn.drw ?_ | refine Rn.blk ?_ | refine Rn.skip ?_ | refine Rn.ret ?_ | refine Rn.exit ?_ | refine Rn.cond rfl ?_ | refine And.intro (InR.i64 (by omega) (by omega)) ?_ | refine And.intro (show _ ≠ (0 : Int) by omega) ?_ | refine WIx.intsN (by omega) ?_ | refine WIx.rowsN (by omega) ?_ | with_reducible refine WB.decT (by first | with_reducible rfl | assumption | omega | exact ⟨rfl, rfl⟩) ?_ | with_reducible refine WB.decF (by first | assumption | omega) ?_ | with_reducible refine WB.ndT (by first | with_reducible rfl | assumption | omega | exact ⟨rfl, rfl⟩) ?_ | with_reducible refine WB.ndF (by first | assumption | omega) ?_ | with_reducible refine WB.nt ?_ | with_reducible refine WB.nf ?_ | with_reducible refine WB.dec (fun h => ?_) (fun h => ?_) | with_reducible refine WB.ndec (fun h => ?_) (fun h => ?_) | refine WB.mk (fun h => ?_) (fun h => ?_)) <;> conv => whnf)
      refine And.intro (InR.u64 (by omega) (by omega)) ?_; conv => whnf
      repeat' first | ((first | with_reducible apply WB.tt | with_reducible apply WB.ff | refine Rn.seq ?_ | refine Rn.reg ?_ | refine Rn.drw ?_ | refine Rn.blk ?_ | refine Rn.skip ?_ | refine Rn.ret ?_ | refine Rn.exit ?_ | refine Rn.cond rfl ?_ | refine And.intro (InR.i64 (by omega) (by omega)) ?_ | refine And.intro (show _ ≠ (0 : Int) by omega) ?_ | refine WIx.intsN (by omega) ?_ | refine WIx.rowsN (by omega) ?_ | with_reducible refine WB.decT (by first | with_reducible rfl | assumption | omega | exact ⟨rfl, rfl⟩) ?_ | with_reducible refine WB.decF (by first | assumption | omega) ?_ | with_reducible refine WB.ndT (by first | with_reducible rfl | assumption | omega | exact ⟨rfl, rfl⟩) ?_ | with_reducible refine WB.ndF (by first | assumption | omega) ?_ | with_reducible refine WB.nt ?_ | with_reducible refine WB.nf ?_ | with_reducible refine WB.dec (fun h => ?_) (fun h => ?_) | with_reducible refine WB.ndec (fun h => ?_) (fun h => ?_) | refine WB.mk (fun h => ?_) (fun h => ?_)) <;> conv => whnf)
      refine WSt.shlN (a := 16) (by rfl) (by rfl) (by omega) (by omega) ?_; conv => whnf
      repeat' first | ((first | with_reducible apply WB.tt | with_reducible apply WB.ff | refine Rn.seq ?_ | refine Rn.reg ?_ | refine Rn.drw ?_ | refine Rn.blk ?_ | refine Rn.skip ?_ | refine Rn.ret ?_ | refine Rn.exit ?_ | refine Rn.cond rfl ?_ | refine And.intro (InR.i64 (by omega) (by omega)) ?_ | refine And.intro (show _ ≠ (0 : Int) by omega) ?_ | refine WIx.intsN (by omega) ?_ | refine WIx.rowsN (by omega) ?_ | with_reducible refine WB.decT (by first | with_reducible rfl | assumption | omega | exact ⟨rfl, rfl⟩) ?_ | with_reducible refine WB.decF (by first | assumption | omega) ?_ | with_reducible refine WB.ndT (by first | with_reducible rfl | assumption | omega | exact ⟨rfl, rfl⟩) ?_ | with_reducible refine WB.ndF (by first | assumption | omega) ?_ | with_reducible refine WB.nt ?_ | with_reducible refine WB.nf ?_ | with_reducible refine WB.dec (fun h => ?_) (fun h => ?_) | with_reducible refine WB.ndec (fun h => ?_) (fun h => ?_) | refine WB.mk (fun h => ?_) (fun h => ?_)) <;> conv => whnf)
      refine WSt.orB (by rfl) (by rfl) (by omega) (by omega) ?_; conv => whnf
      generalize 1 * 2 ^ c ||| 16 * 2 ^ t = bt at *
      generalize seenN L j = sn at *
      by_cases hd0 : dueN L j < 0
      · by_cases hand : ((sn &&& bt : Nat) : Int) ≠ 0
        · rw [if_pos ⟨hd0, fun h => hand (by rw [h]; rfl)⟩] at hdn
          repeat' first | ((first | with_reducible apply WB.tt | with_reducible apply WB.ff | refine Rn.seq ?_ | refine Rn.reg ?_ | refine Rn.drw ?_ | refine Rn.blk ?_ | refine Rn.skip ?_ | refine Rn.ret ?_ | refine Rn.exit ?_ | refine Rn.cond rfl ?_ | refine And.intro (InR.i64 (by omega) (by omega)) ?_ | refine And.intro (show _ ≠ (0 : Int) by omega) ?_ | refine WIx.intsN (by omega) ?_ | refine WIx.rowsN (by omega) ?_ | with_reducible refine WB.decT (by first | with_reducible rfl | assumption | omega | exact ⟨rfl, rfl⟩) ?_ | with_reducible refine WB.decF (by first | assumption | omega) ?_ | with_reducible refine WB.ndT (by first | with_reducible rfl | assumption | omega | exact ⟨rfl, rfl⟩) ?_ | with_reducible refine WB.ndF (by first | assumption | omega) ?_ | with_reducible refine WB.nt ?_ | with_reducible refine WB.nf ?_ | with_reducible refine WB.dec (fun h => ?_) (fun h => ?_) | with_reducible refine WB.ndec (fun h => ?_) (fun h => ?_) | refine WB.mk (fun h => ?_) (fun h => ?_)) <;> conv => whnf)
          refine WSt.andB (by rfl) (by rfl) (by omega) (by omega) ?_; conv => whnf
          repeat' first | ((first | with_reducible apply WB.tt | with_reducible apply WB.ff | refine Rn.seq ?_ | refine Rn.reg ?_ | refine Rn.drw ?_ | refine Rn.blk ?_ | refine Rn.skip ?_ | refine Rn.ret ?_ | refine Rn.exit ?_ | refine Rn.cond rfl ?_ | refine And.intro (InR.i64 (by omega) (by omega)) ?_ | refine And.intro (show _ ≠ (0 : Int) by omega) ?_ | refine WIx.intsN (by omega) ?_ | refine WIx.rowsN (by omega) ?_ | with_reducible refine WB.decT (by first | with_reducible rfl | assumption | omega | exact ⟨rfl, rfl⟩) ?_ | with_reducible refine WB.decF (by first | assumption | omega) ?_ | with_reducible refine WB.ndT (by first | with_reducible rfl | assumption | omega | exact ⟨rfl, rfl⟩) ?_ | with_reducible refine WB.ndF (by first | assumption | omega) ?_ | with_reducible refine WB.nt ?_ | with_reducible refine WB.nf ?_ | with_reducible refine WB.dec (fun h => ?_) (fun h => ?_) | with_reducible refine WB.ndec (fun h => ?_) (fun h => ?_) | refine WB.mk (fun h => ?_) (fun h => ?_)) <;> conv => whnf)
          refine WSt.orB (by rfl) (by rfl) (by omega) (by omega) ?_; conv => whnf
          repeat' first | ((first | with_reducible apply WB.tt | with_reducible apply WB.ff | refine Rn.seq ?_ | refine Rn.reg ?_ | refine Rn.drw ?_ | refine Rn.blk ?_ | refine Rn.skip ?_ | refine Rn.ret ?_ | refine Rn.exit ?_ | refine Rn.cond rfl ?_ | refine And.intro (InR.i64 (by omega) (by omega)) ?_ | refine And.intro (show _ ≠ (0 : Int) by omega) ?_ | refine WIx.intsN (by omega) ?_ | refine WIx.rowsN (by omega) ?_ | with_reducible refine WB.decT (by first | with_reducible rfl | assumption | omega | exact ⟨rfl, rfl⟩) ?_ | with_reducible refine WB.decF (by first | assumption | omega) ?_ | with_reducible refine WB.ndT (by first | with_reducible rfl | assumption | omega | exact ⟨rfl, rfl⟩) ?_ | with_reducible refine WB.ndF (by first | assumption | omega) ?_ | with_reducible refine WB.nt ?_ | with_reducible refine WB.nf ?_ | with_reducible refine WB.dec (fun h => ?_) (fun h => ?_) | with_reducible refine WB.ndec (fun h => ?_) (fun h => ?_) | refine WB.mk (fun h => ?_) (fun h => ?_)) <;> conv => whnf)
          refine WSt.app_one (ds := lnF (a :: s)) (r := lnD ⟨1, (c : Int), (t : Int)⟩) rfl rfl rfl rfl rfl rfl (by rw [lnF_len]; rfl) rfl rfl (by omega) rfl ?_; conv => whnf
          repeat' first | ((first | with_reducible apply WB.tt | with_reducible apply WB.ff | refine Rn.seq ?_ | refine Rn.reg ?_ | refine Rn.drw ?_ | refine Rn.blk ?_ | refine Rn.skip ?_ | refine Rn.ret ?_ | refine Rn.exit ?_ | refine Rn.cond rfl ?_ | refine And.intro (InR.i64 (by omega) (by omega)) ?_ | refine And.intro (show _ ≠ (0 : Int) by omega) ?_ | refine WIx.intsN (by omega) ?_ | refine WIx.rowsN (by omega) ?_ | with_reducible refine WB.decT (by first | with_reducible rfl | assumption | omega | exact ⟨rfl, rfl⟩) ?_ | with_reducible refine WB.decF (by first | assumption | omega) ?_ | with_reducible refine WB.ndT (by first | with_reducible rfl | assumption | omega | exact ⟨rfl, rfl⟩) ?_ | with_reducible refine WB.ndF (by first | assumption | omega) ?_ | with_reducible refine WB.nt ?_ | with_reducible refine WB.nf ?_ | with_reducible refine WB.dec (fun h => ?_) (fun h => ?_) | with_reducible refine WB.ndec (fun h => ?_) (fun h => ?_) | refine WB.mk (fun h => ?_) (fun h => ?_)) <;> conv => whnf)
          refine Again.to (j + 1) (by omega) (by omega) (by rw [hnx0 _ rfl, hnx _ rfl]; exact (show 5 ≤ 5 by omega)) ?_
          rw [hS2 _ hdn.symm, List.cons_append]
          refine Shr.of ?_ ?_ rfl rfl
          · show Rel _ _ ((.n (.n (.n (.n .e (some (.i .i64 (j : Int))) .e) none .e) (some (.lst 1 (rows w16D ws))) (.n (.n .e (some (.i .i64 ((j + 1 : Nat) : Int))) .e) (some (.i .i64 n)) .e)) none (.n (.n (.n .e (some (.i .i64 ((sn ||| bt : Nat) : Int))) .e) none .e) none (.n .e (some (.pt .h 0 0)) .e))) : T D) _
            (repeat' first | exact Rel.e | refine Rel.some ?_ ?_ ?_ | refine Rel.none ?_ ?_ | refine Rel.ee ?_ ?_)
            all_goals show Fz _ _ _ _
            all_goals first | exact .pu trivial | exact .pu (pu_w16 _) | exact .kpt (show _ < 5 by simp [Pos.nat])
          · show Rel _ _ (.n (.n (.n .e (blW (a :: (s ++ [⟨1, (c : Int), (t : Int)⟩]))) .e) none .e) (some (outQ n 1 0 (slW (a :: (s ++ [⟨1, (c : Int), (t : Int)⟩]))))) .e : T C) _
            rw [slW_snoc, blW_snoc]
            (repeat' first | exact Rel.e | refine Rel.some ?_ ?_ ?_ | refine Rel.none ?_ ?_ | refine Rel.ee ?_ ?_)
            all_goals first
              | exact RO'.of (show _ < 5 by simp [Pos.nat]) (outQ_sh (.ksl (show _ < 5 by simp [Pos.nat])))
              | (refine RO'.of (show _ < 5 by simp [Pos.nat]) ?_
                 exact ShC.grown (by omega) (PuL_iff.2 fun d hd => by
                   rcases List.mem_append.1 hd with hd | hd
                   · exact PuL_iff.1 (lnF_pu _) d hd
                   · exact PuL_iff.1 (show PuL (lnD _) by simp [lnD, PuL, Pu]) d hd))
        · have hand : ((sn &&& bt : Nat) : Int) = 0 := by omega
          rw [if_neg (fun h => h.2 (by omega))] at hdn
          repeat' first | ((first | with_reducible apply WB.tt | with_reducible apply WB.ff | refine Rn.seq ?_ | refine Rn.reg ?_ | refine Rn.drw ?_ | refine Rn.blk ?_ | refine Rn.skip ?_ | refine Rn.ret ?_ | refine Rn.exit ?_ | refine Rn.cond rfl ?_ | refine And.intro (InR.i64 (by omega) (by omega)) ?_ | refine And.intro (show _ ≠ (0 : Int) by omega) ?_ | refine WIx.intsN (by omega) ?_ | refine WIx.rowsN (by omega) ?_ | with_reducible refine WB.decT (by first | with_reducible rfl | assumption | omega | exact ⟨rfl, rfl⟩) ?_ | with_reducible refine WB.decF (by first | assumption | omega) ?_ | with_reducible refine WB.ndT (by first | with_reducible rfl | assumption | omega | exact ⟨rfl, rfl⟩) ?_ | with_reducible refine WB.ndF (by first | assumption | omega) ?_ | with_reducible refine WB.nt ?_ | with_reducible refine WB.nf ?_ | with_reducible refine WB.dec (fun h => ?_) (fun h => ?_) | with_reducible refine WB.ndec (fun h => ?_) (fun h => ?_) | refine WB.mk (fun h => ?_) (fun h => ?_)) <;> conv => whnf)
          refine WSt.andB (by rfl) (by rfl) (by omega) (by omega) ?_; conv => whnf
          repeat' first | ((first | with_reducible apply WB.tt | with_reducible apply WB.ff | refine Rn.seq ?_ | refine Rn.reg ?_ | refine Rn.drw ?_ | refine Rn.blk ?_ | refine Rn.skip ?_ | refine Rn.ret ?_ | refine Rn.exit ?_ | refine Rn.cond rfl ?_ | refine And.intro (InR.i64 (by omega) (by omega)) ?_ | refine And.intro (show _ ≠ (0 : Int) by omega) ?_ | refine WIx.intsN (by omega) ?_ | refine WIx.rowsN (by omega) ?_ | with_reducible refine WB.decT (by first | with_reducible rfl | assumption | omega | exact ⟨rfl, rfl⟩) ?_ | with_reducible refine WB.decF (by first | assumption | omega) ?_ | with_reducible refine WB.ndT (by first | with_reducible rfl | assumption | omega | exact ⟨rfl, rfl⟩) ?_ | with_reducible refine WB.ndF (by first | assumption | omega) ?_ | with_reducible refine WB.nt ?_ | with_reducible refine WB.nf ?_ | with_reducible refine WB.dec (fun h => ?_) (fun h => ?_) | with_reducible refine WB.ndec (fun h => ?_) (fun h => ?_) | refine WB.mk (fun h => ?_) (fun h => ?_)) <;> conv => whnf)
          refine WSt.orB (by rfl) (by rfl) (by omega) (by omega) ?_; conv => whnf
          repeat' first | ((first | with_reducible apply WB.tt | with_reducible apply WB.ff | refine Rn.seq ?_ | refine Rn.reg ?_ | refine Rn.drw ?_ | refine Rn.blk ?_ | refine Rn.skip ?_ | refine Rn.ret ?_ | refine Rn.exit ?_ | refine Rn.cond rfl ?_ | refine And.intro (InR.i64 (by omega) (by omega)) ?_ | refine And.intro (show _ ≠ (0 : Int) by omega) ?_ | refine WIx.intsN (by omega) ?_ | refine WIx.rowsN (by omega) ?_ | with_reducible refine WB.decT (by first | with_reducible rfl | assumption | omega | exact ⟨rfl, rfl⟩) ?_ | with_reducible refine WB.decF (by first | assumption | omega) ?_ | with_reducible refine WB.ndT (by first | with_reducible rfl | assumption | omega | exact ⟨rfl, rfl⟩) ?_ | with_reducible refine WB.ndF (by first | assumption | omega) ?_ | with_reducible refine WB.nt ?_ | with_reducible refine WB.nf ?_ | with_reducible refine WB.dec (fun h => ?_) (fun h => ?_) | with_reducible refine WB.ndec (fun h => ?_) (fun h => ?_) | refine WB.mk (fun h => ?_) (fun h => ?_)) <;> conv => whnf)
          refine WSt.app_one (ds := lnF (a :: s)) (r := lnD ⟨1, (c : Int), (t : Int)⟩) rfl rfl rfl rfl rfl rfl (by rw [lnF_len]; rfl) rfl rfl (by omega) rfl ?_; conv => whnf
          repeat' first | ((first | with_reducible apply WB.tt | with_reducible apply WB.ff | refine Rn.seq ?_ | refine Rn.reg ?_ | refine Rn.drw ?_ | refine Rn.blk ?_ | refine Rn.skip ?_ | refine Rn.ret ?_ | refine Rn.exit ?_ | refine Rn.cond rfl ?_ | refine And.intro (InR.i64 (by omega) (by omega)) ?_ | refine And.intro (show _ ≠ (0 : Int) by omega) ?_ | refine WIx.intsN (by omega) ?_ | refine WIx.rowsN (by omega) ?_ | with_reducible refine WB.decT (by first | with_reducible rfl | assumption | omega | exact ⟨rfl, rfl⟩) ?_ | with_reducible refine WB.decF (by first | assumption | omega) ?_ | with_reducible refine WB.ndT (by first | with_reducible rfl | assumption | omega | exact ⟨rfl, rfl⟩) ?_ | with_reducible refine WB.ndF (by first | assumption | omega) ?_ | with_reducible refine WB.nt ?_ | with_reducible refine WB.nf ?_ | with_reducible refine WB.dec (fun h => ?_) (fun h => ?_) | with_reducible refine WB.ndec (fun h => ?_) (fun h => ?_) | refine WB.mk (fun h => ?_) (fun h => ?_)) <;> conv => whnf)
          refine Again.to (j + 1) (by omega) (by omega) (by rw [hnx0 _ rfl, hnx _ rfl]; exact (show 5 ≤ 5 by omega)) ?_
          rw [hS2 _ hdn.symm, List.cons_append]
          refine Shr.of ?_ ?_ rfl rfl
          · show Rel _ _ ((.n (.n (.n (.n .e (some (.i .i64 (dueN L j))) .e) none .e) (some (.lst 1 (rows w16D ws))) (.n (.n .e (some (.i .i64 ((j + 1 : Nat) : Int))) .e) (some (.i .i64 n)) .e)) none (.n (.n (.n .e (some (.i .i64 ((sn ||| bt : Nat) : Int))) .e) none .e) none (.n .e (some (.pt .h 0 0)) .e))) : T D) _
            (repeat' first | exact Rel.e | refine Rel.some ?_ ?_ ?_ | refine Rel.none ?_ ?_ | refine Rel.ee ?_ ?_)
            all_goals show Fz _ _ _ _
            all_goals first | exact .pu trivial | exact .pu (pu_w16 _) | exact .kpt (show _ < 5 by simp [Pos.nat])
          · show Rel _ _ (.n (.n (.n .e (blW (a :: (s ++ [⟨1, (c : Int), (t : Int)⟩]))) .e) none .e) (some (outQ n 1 0 (slW (a :: (s ++ [⟨1, (c : Int), (t : Int)⟩]))))) .e : T C) _
            rw [slW_snoc, blW_snoc]
            (repeat' first | exact Rel.e | refine Rel.some ?_ ?_ ?_ | refine Rel.none ?_ ?_ | refine Rel.ee ?_ ?_)
            all_goals first
              | exact RO'.of (show _ < 5 by simp [Pos.nat]) (outQ_sh (.ksl (show _ < 5 by simp [Pos.nat])))
              | (refine RO'.of (show _ < 5 by simp [Pos.nat]) ?_
                 exact ShC.grown (by omega) (PuL_iff.2 fun d hd => by
                   rcases List.mem_append.1 hd with hd | hd
                   · exact PuL_iff.1 (lnF_pu _) d hd
                   · exact PuL_iff.1 (show PuL (lnD _) by simp [lnD, PuL, Pu]) d hd))
      · rw [if_neg (fun h => hd0 h.1)] at hdn
        repeat' first | ((first | with_reducible apply WB.tt | with_reducible apply WB.ff | refine Rn.seq ?_ | refine Rn.reg ?_ | refine Rn.drw ?_ | refine Rn.blk ?_ | refine Rn.skip ?_ | refine Rn.ret ?_ | refine Rn.exit ?_ | refine Rn.cond rfl ?_ | refine And.intro (InR.i64 (by omega) (by omega)) ?_ | refine And.intro (show _ ≠ (0 : Int) by omega) ?_ | refine WIx.intsN (by omega) ?_ | refine WIx.rowsN (by omega) ?_ | with_reducible refine WB.decT (by first | with_reducible rfl | assumption | omega | exact ⟨rfl, rfl⟩) ?_ | with_reducible refine WB.decF (by first | assumption | omega) ?_ | with_reducible refine WB.ndT (by first | with_reducible rfl | assumption | omega | exact ⟨rfl, rfl⟩) ?_ | with_reducible refine WB.ndF (by first | assumption | omega) ?_ | with_reducible refine WB.nt ?_ | with_reducible refine WB.nf ?_ | with_reducible refine WB.dec (fun h => ?_) (fun h => ?_) | with_reducible refine WB.ndec (fun h => ?_) (fun h => ?_) | refine WB.mk (fun h => ?_) (fun h => ?_)) <;> conv => whnf)
        refine WSt.orB (by rfl) (by rfl) (by omega) (by omega) ?_; conv => whnf
        repeat' first | ((first | with_reducible apply WB.tt | with_reducible apply WB.ff | refine Rn.seq ?_ | refine Rn.reg ?_ | refine Rn.drw ?_ | refine Rn.blk ?_ | refine Rn.skip ?_ | refine Rn.ret ?_ | refine Rn.exit ?_ | refine Rn.cond rfl ?_ | refine And.intro (InR.i64 (by omega) (by omega)) ?_ | refine And.intro (show _ ≠ (0 : Int) by omega) ?_ | refine WIx.intsN (by omega) ?_ | refine WIx.rowsN (by omega) ?_ | with_reducible refine WB.decT (by first | with_reducible rfl | assumption | omega | exact ⟨rfl, rfl⟩) ?_ | with_reducible refine WB.decF (by first | assumption | omega) ?_ | with_reducible refine WB.ndT (by first | with_reducible rfl | assumption | omega | exact ⟨rfl, rfl⟩) ?_ | with_reducible refine WB.ndF (by first | assumption | omega) ?_ | with_reducible refine WB.nt ?_ | with_reducible refine WB.nf ?_ | with_reducible refine WB.dec (fun h => ?_) (fun h => ?_) | with_reducible refine WB.ndec (fun h => ?_) (fun h => ?_) | refine WB.mk (fun h => ?_) (fun h => ?_)) <;> conv => whnf)
        refine WSt.app_one (ds := lnF (a :: s)) (r := lnD ⟨1, (c : Int), (t : Int)⟩) rfl rfl rfl rfl rfl rfl (by rw [lnF_len]; rfl) rfl rfl (by omega) rfl ?_; conv => whnf
        repeat' first | ((first | with_reducible apply WB.tt | with_reducible apply WB.ff | refine Rn.seq ?_ | refine Rn.reg ?_ | refine Rn.drw ?_ | refine Rn.blk ?_ | refine Rn.skip ?_ | refine Rn.ret ?_ | refine Rn.exit ?_ | refine Rn.cond rfl ?_ | refine And.intro (InR.i64 (by omega) (by omega)) ?_ | refine And.intro (show _ ≠ (0 : Int) by omega) ?_ | refine WIx.intsN (by omega) ?_ | refine WIx.rowsN (by omega) ?_ | with_reducible refine WB.decT (by first | with_reducible rfl | assumption | omega | exact ⟨rfl, rfl⟩) ?_ | with_reducible refine WB.decF (by first | assumption | omega) ?_ | with_reducible refine WB.ndT (by first | with_reducible rfl | assumption | omega | exact ⟨rfl, rfl⟩) ?_ | with_reducible refine WB.ndF (by first | assumption | omega) ?_ | with_reducible refine WB.nt ?_ | with_reducible refine WB.nf ?_ | with_reducible refine WB.dec (fun h => ?_) (fun h => ?_) | with_reducible refine WB.ndec (fun h => ?_) (fun h => ?_) | refine WB.mk (fun h => ?_) (fun h => ?_)) <;> conv => whnf)
        refine Again.to (j + 1) (by omega) (by omega) (by rw [hnx0 _ rfl, hnx _ rfl]; exact (show 5 ≤ 5 by omega)) ?_
        rw [hS2 _ hdn.symm, List.cons_append]
        refine Shr.of ?_ ?_ rfl rfl
        · show Rel _ _ ((.n (.n (.n (.n .e (some (.i .i64 (dueN L j))) .e) none .e) (some (.lst 1 (rows w16D ws))) (.n (.n .e (some (.i .i64 ((j + 1 : Nat) : Int))) .e) (some (.i .i64 n)) .e)) none (.n (.n (.n .e (some (.i .i64 ((sn ||| bt : Nat) : Int))) .e) none .e) none (.n .e (some (.pt .h 0 0)) .e))) : T D) _
          (repeat' first | exact Rel.e | refine Rel.some ?_ ?_ ?_ | refine Rel.none ?_ ?_ | refine Rel.ee ?_ ?_)
          all_goals show Fz _ _ _ _
          all_goals first | exact .pu trivial | exact .pu (pu_w16 _) | exact .kpt (show _ < 5 by simp [Pos.nat])
        · show Rel _ _ (.n (.n (.n .e (blW (a :: (s ++ [⟨1, (c : Int), (t : Int)⟩]))) .e) none .e) (some (outQ n 1 0 (slW (a :: (s ++ [⟨1, (c : Int), (t : Int)⟩]))))) .e : T C) _
          rw [slW_snoc, blW_snoc]
          (repeat' first | exact Rel.e | refine Rel.some ?_ ?_ ?_ | refine Rel.none ?_ ?_ | refine Rel.ee ?_ ?_)
          all_goals first
            | exact RO'.of (show _ < 5 by simp [Pos.nat]) (outQ_sh (.ksl (show _ < 5 by simp [Pos.nat])))
            | (refine RO'.of (show _ < 5 by simp [Pos.nat]) ?_
               exact ShC.grown (by omega) (PuL_iff.2 fun d hd => by
                 rcases List.mem_append.1 hd with hd | hd
                 · exact PuL_iff.1 (lnF_pu _) d hd
                 · exact PuL_iff.1 (show PuL (lnD _) by simp [lnD, PuL, Pu]) d hd))
  · have hje : j = L.length := by omega
    have he := hend hje
    have iB := j_Book n 1 0 L [] (by omega) (by simp)
    have iF := j_FirstP n 1 0 L []
    rw [twice_fst hn H (by omega), ← hje] at iF
    have hfin : ∀ (sl : T D), True := fun _ => trivial
    repeat' first | ((first | with_reducible apply WB.tt | with_reducible apply WB.ff | refine Rn.seq ?_ | refine Rn.reg ?_ | refine Rn.drw ?_ | refine Rn.blk ?_ | refine Rn.skip ?_ | refine Rn.ret ?_ | refine Rn.exit ?_ | refine Rn.cond rfl ?_ | refine And.intro (InR.i64 (by omega) (by omega)) ?_ | refine And.intro (show _ ≠ (0 : Int) by omega) ?_ | refine WIx.intsN (by omega) ?_ | refine WIx.rowsN (by omega) ?_ | with_reducible refine WB.decT (by first | with_reducible rfl | assumption | omega | exact ⟨rfl, rfl⟩) ?_ | with_reducible refine WB.decF (by first | assumption | omega) ?_ | with_reducible refine WB.ndT (by first | with_reducible rfl | assumption | omega | exact ⟨rfl, rfl⟩) ?_ | with_reducible refine WB.ndF (by first | assumption | omega) ?_ | with_reducible refine WB.nt ?_ | with_reducible refine WB.nf ?_ | with_reducible refine WB.dec (fun h => ?_) (fun h => ?_) | with_reducible refine WB.ndec (fun h => ?_) (fun h => ?_) | refine WB.mk (fun h => ?_) (fun h => ?_)) <;> conv => whnf)
    refine ⟨rfl, ⟨(.n (.n (.n (.n .e (some (.i .i64 (dueN L j))) .e) none .e) none .e) none (.n .e none (.n .e (some (.pt .h 0 0)) .e))), (.n .e (some (outQ n 1 0 (.lst 3 (rows lnD L)))) .e), .o .h, none⟩, (fun id => id.nat < 2), ?_, (fun id (h : id.nat < 2) => h), (fun id h => h), (Nat.le_refl 2), ?_⟩
    · refine ShrB.of ?_ ?_ rfl rfl
      · (repeat' first | exact Rel.e | refine Rel.some ?_ ?_ ?_ | refine Rel.none ?_ ?_ | refine Rel.ee ?_ ?_)
        all_goals show Fz _ _ _ _
        all_goals first | exact .pu trivial | exact .kpt (show _ < 2 by simp [Pos.nat])
      · cases A with
        | nil =>
          rw [← he]
          show Rel _ _ (.n .e (some (outQ n 1 0 (.lst 3 (rows lnD [])))) .e : T C) _
          (repeat' first | exact Rel.e | refine Rel.some ?_ ?_ ?_ | refine Rel.none ?_ ?_ | refine Rel.ee ?_ ?_)
          exact ⟨show _ < 2 by simp [Pos.nat], outQ_sh2 .ns⟩
        | cons a s =>
          rw [← he]
          show Rel _ _ (.n .e (some (outQ n 1 0 (.lst 3 (rows lnD (a :: s))))) .e : T C) _
          (repeat' first | exact Rel.e | refine Rel.some ?_ ?_ ?_ | refine Rel.none ?_ ?_ | refine Rel.ee ?_ ?_)
          exact ⟨show _ < 2 by simp [Pos.nat], outQ_sh2 (Fz.whole (cs := (lnF (a :: s)).map fun d => Cell.o d s.length) (cur := s.length + 1) (show ¬ 4 < 2 by omega) rfl (by simp [rows]) (ln_three _) (by rfl) (pu_ln _))⟩
    clear hnext hAl
    conv => whnf
    have iB := iB.sub (ds := [.ag [.i .i64 n, .i .i64 1, .i .i64 0, .lst 3 (rows lnD L), .ns]]) cvn1
    by_cases hd0 : dueN L j < 0
    · rw [if_pos hd0] at iF
      repeat' first | ((first | with_reducible apply WB.tt | with_reducible apply WB.ff | refine Rn.seq ?_ | refine Rn.reg ?_ | refine Rn.drw ?_ | refine Rn.blk ?_ | refine Rn.skip ?_ | refine Rn.ret ?_ | refine Rn.exit ?_ | refine Rn.cond rfl ?_ | refine And.intro (InR.i64 (by omega) (by omega)) ?_ | refine And.intro (show _ ≠ (0 : Int) by omega) ?_ | refine WIx.intsN (by omega) ?_ | refine WIx.rowsN (by omega) ?_ | refine WCall.pure (iB) ?_ | refine WCall.pure (iF) ?_ | refine WCall.pure (AW) ?_ | with_reducible refine WB.decT (by first | with_reducible rfl | assumption | omega | exact ⟨rfl, rfl⟩) ?_ | with_reducible refine WB.decF (by first | assumption | omega) ?_ | with_reducible refine WB.ndT (by first | with_reducible rfl | assumption | omega | exact ⟨rfl, rfl⟩) ?_ | with_reducible refine WB.ndF (by first | assumption | omega) ?_ | with_reducible refine WB.nt ?_ | with_reducible refine WB.nf ?_ | with_reducible refine WB.dec (fun h => ?_) (fun h => ?_) | with_reducible refine WB.ndec (fun h => ?_) (fun h => ?_) | refine WB.mk (fun h => ?_) (fun h => ?_)) <;> conv => whnf)
      exact Fin.b rfl rfl
    · rw [if_neg hd0] at iF
      repeat' first | ((first | with_reducible apply WB.tt | with_reducible apply WB.ff | refine Rn.seq ?_ | refine Rn.reg ?_ | refine Rn.drw ?_ | refine Rn.blk ?_ | refine Rn.skip ?_ | refine Rn.ret ?_ | refine Rn.exit ?_ | refine Rn.cond rfl ?_ | refine And.intro (InR.i64 (by omega) (by omega)) ?_ | refine And.intro (show _ ≠ (0 : Int) by omega) ?_ | refine WIx.intsN (by omega) ?_ | refine WIx.rowsN (by omega) ?_ | refine WCall.pure (iB) ?_ | refine WCall.pure (iF) ?_ | refine WCall.pure (AW) ?_ | with_reducible refine WB.decT (by first | with_reducible rfl | assumption | omega | exact ⟨rfl, rfl⟩) ?_ | with_reducible refine WB.decF (by first | assumption | omega) ?_ | with_reducible refine WB.ndT (by first | with_reducible rfl | assumption | omega | exact ⟨rfl, rfl⟩) ?_ | with_reducible refine WB.ndF (by first | assumption | omega) ?_ | with_reducible refine WB.nt ?_ | with_reducible refine WB.nf ?_ | with_reducible refine WB.dec (fun h => ?_) (fun h => ?_) | with_reducible refine WB.ndec (fun h => ?_) (fun h => ?_) | refine WB.mk (fun h => ?_) (fun h => ?_)) <;> conv => whnf)
      exact Fin.b rfl rfl
theorem main_tokenTwice (AW : PureF Try.prog p22.ix [] (.b true)) {es : List D} (fit : FitP [(false, [.i .u8]), (false, [.sl [.i .u16]])] es) : PureF Try.prog 11 es (.b true) := by
  obtain ⟨c, _, rfl, w0, g1⟩ := fit.i
  obtain ⟨ws, _, rfl, w1, g2⟩ := g1.nums
  obtain rfl := g2.no
  exact j_TokenTwice c ws (wf_u8 w0) (fun w h => wf_u16 (w1 w h)) AW
end Go.Ev

namespace Go.Proofs.Ytjgbfnciedkafaa.tokenTwice
open Go.ChangeShapes Go.WideShapes Go.ChangeAt Go.RowKit
open Go.ChangeMaps (open_string shut_string)
set_option linter.unusedVariables false

theorem laid : laidOutB Try.prog = true := faP.laid
theorem own : ownKnob Try.prog.godebug = none := by kernel_rfl

/-! ### the walk -/
theorem walk {es : List Go.Ev.D} (fit : Go.Ev.FitP [(false, [.i .u8]), (false, [.sl [.i .u16]])] es) {args : Array Value} {W : World} (ha : Go.Ev.DVL (Go.Ev.γH W) W es args.toList) :
    Calls Try.prog 11 args W fun e w' => e = .returned (.bool true) ∧ Grown W w' ∧ Below W.heap.size W w' :=
  Go.Ev.PureF.calls (Go.Ev.main_tokenTwice (fun ob nx lg => Go.Ev.t21.any ob nx lg) fit) ha

set_option maxRecDepth 100000 in
theorem lifted (os : Os) (started : os.Started) (H : Type) (enc : TypeId × Value → H) :
    ReturnsInHanded {} Try.checked os 11 .any (Rows.tokenTwiceSpec.pre6 enc Try.prog Try.f11 Rows.tokenTwiceRow.domain false) (Rows.tokenTwiceSpec.post enc Try.prog Try.f11 false true false false) := by
  refine returnsInHanded_of_change (C := Try.checked) own started (by kernel_rfl) Try.func11
    (ChangeSpec.witness6 (enc := enc) (C := Try.checked) false ⟨#[], #[.int .u8 0, .slice none 0 0], []⟩ 8 (by kernel_rfl) (by kernel_rfl) (by kernel_rfl) (by kernel_rfl)) ?_
  intro W base args ds gs before hval0 hW hcnd _
  have hval : ∀ (j : Nat) t v, Try.f11.params[j]? = some t → args[j]? = some v → Value.okWide Try.prog W .any base t v := hval0
  have hW' := hW
  obtain ⟨p, q, hA0, hV, rfl, hfz, hnd⟩ := hW
  have hA : DataW.TrodAll enc Try.prog W 0 (fun _ => true) true Try.f11.params.toList args.toList ds p := hA0
  rw [Try.params11] at hA hval
  obtain ⟨rfl, rfl⟩ := trodVars_none hV
  obtain ⟨d0, d1, rfl⟩ := Go.Ev.len2 (Go.Ev.trod_len hA)
  clear hA0 hval0
  simp only [List.append_nil] at hW'
  obtain ⟨es, fit, dv⟩ := Go.Ev.open_all (n := 6) (pars := [(false, [.i .u8]), (false, [.sl [.i .u16]])]) (by kernel_rfl) hA (fun j t v h1 h2 => hval j t v (by simpa using h1) (by simpa using h2))
  have hlt : ∀ x ∈ p, x.block < W.heap.size := fun x hx => by simpa using hW'.lt x hx
  refine (walk fit dv).mono fun e W' ⟨he, hg, hb⟩ => ?_
  subst he
  exact ⟨_, rfl, post_of_same (pa := p) (pv := []) hW' (fun _ _ _ => (trodAll_cons_mk (shut_bool Try.underlying4 _) trodAll_mk0))
    (fun sp hs => Go.Ev.stays_all laid (Go.Ev.of_allT (by kernel_rfl)) hA (fun x hx => hb.same (hlt x hx)) (fun x hx => hs x hx))
    (fun _ _ => rfl) (List.append_nil _).symm
    (hg.frame _) hg.2.1 (ok_one (by kernel_rfl) rfl (okWide_bool_mk Try.underlying4 _))⟩

theorem over : Rows.tokenTwiceRow.holds Try.pinned (OpenSpec.ofChange Rows.tokenTwiceSpec) :=
  OpenClaim.holds_of_wide 11 Try.f11 rfl rfl rfl rfl rfl rfl rfl ⟨rfl, rfl, rfl, rfl, rfl⟩ rfl rfl rfl rfl rfl (by kernel_rfl) Try.func11 faTokenTwice.all
    (of_decide_eq_true (by kernel_rfl)) (by unfold Func.isWrapper; first | (rw [if_pos (by decide +kernel)]; kernel_rfl) | (rw [if_neg (by decide +kernel)]; exact ⟨rfl, rfl⟩))
    (fun os started H enc _ => lifted os started H enc)

/-- ████ THE STATEMENT ████ -/
theorem proved : Rows.TokenTwiceSaid :=
  over
#print axioms proved
end Go.Proofs.Ytjgbfnciedkafaa.tokenTwice
