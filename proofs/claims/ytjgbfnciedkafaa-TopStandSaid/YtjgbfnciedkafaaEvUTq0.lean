import Derived.Test.YtjgbfnciedkafaaEvUNm
import Derived.Test.YtjgbfnciedkafaaEvURn
set_option linter.all false
set_option maxHeartbeats 8000000
noncomputable section
namespace Go.Ev
open Go.Proofs
def PM (P : Program) (FP : T RF) (n : Nat) (f : Pos) (es : List D) (v : D) : Bool :=
 match Pp P FP n f es with
 | some d => nX 12 d v && (match mpO (FC .e 12) es with
   | some ds => Jd (nX 12) ds es
   | none => false)
 | none => false
theorem zD {P : Program} {FP : T RF} (hFP : FPok P FP) {n : Nat} {f : Pos} {es : List D} {v : D} (h : PM P FP n f es v = true) : PureF P f.ix es v := by
 unfold PM at h
 split at h
 ·rename_i d hd
  rw [Bool.and_eq_true] at h
  obtain ⟨h1, h2⟩ := h
  obtain rfl := pW h1
  split at h2
  ·rename_i ds hds
   have e := oW (fun _ _ => pW) h2
   subst e
   exact fun ob nx lg => MemOk.run hFP hd .e _ ob nx lg lg hds (fun id c hc => by rw [T.get_e] at hc; cases hc) (LgLe.refl _) (fun id c hc => by rw [T.get_e] at hc; cases hc)
  ·cases h2
 ·cases h
def SP (ps : List (Nat × Nat)) : List Int := ps.map fun p => Int.ofNat p.1
def Rr (ps : List (Nat × Nat)) : List Int := ps.map fun p => Int.ofNat p.2
def Wj : Nat -> Nat
 | 1 => 0
 | 2 => 1
 | _ => 2
def yB : List (Nat × Nat) -> Nat
 | [] => 0
 | p :: l => p.2 + yB l
def Je (ps : List (Nat × Nat)) : D := .ag [.lst 1 (ints (ps.map fun p => Int.ofNat (Wj p.1))), .lst 3 [[.b false, .i .i64 (Int.ofNat ps.length), .i .i64 (Int.ofNat (yB ps))]], .i .i64 (Int.ofNat 0), .i .i64 (Int.ofNat 0)]
def tq71 : Pos := .i (.i (.i (.o (.o (.o .h)))))
def tq72 : Pos := .o (.o (.o (.i (.o (.o .h)))))
def tq73 : Pos := .i (.o (.o (.i (.o (.o .h)))))
def tq74 : Pos := .o (.i (.o (.i (.o (.o .h)))))
def dI (ps : List (Nat × Nat)) : Bool :=
 PM Try.prog fp 100000 tq71 [.lst 1 (ints (SP ps)), .i .i64 (Int.ofNat (yB ps))] (Je ps) &&
 PM Try.prog fp 100000 tq73 [Je ps] (Je ps) &&
 PM Try.prog fp 100000 tq72 [Je ps, .i .i64 (Int.ofNat 0), .i .i64 (Int.ofNat (ps.length - 1))] (.tp [.ag [.i .i64 (Int.ofNat (yB ps)), .i .i64 (Int.ofNat (yB ps))], .i .i64 (Int.ofNat 0)]) &&
 PM Try.prog fp 100000 tq74 [Je ps, .lst 1 (ints (Rr ps))] (.b true)
def tqP : List (Nat × Nat) := [(1, 0), (2, 1), (3, 0), (3, 1)]
def dD : Nat -> List (List (Nat × Nat))
 | 0 => [[]]
 | n + 1 => tqP.flatMap fun p => (dD n).map fun l => p :: l
theorem qM : ∀ {n : Nat} {ps : List (Nat × Nat)}, ps.length = n -> (∀ p ∈ ps, p ∈ tqP) -> ps ∈ dD n
 | 0, [], _, _ => by simp [dD]
 | n + 1, p :: ps, h, k => by
   unfold dD
   exact List.mem_flatMap.2 ⟨p, k p (List.mem_cons_self ..), List.mem_map.2 ⟨ps, qM (by simpa using h) (fun q hq => k q (List.mem_cons_of_mem _ hq)), rfl⟩⟩
end Go.Ev
end
