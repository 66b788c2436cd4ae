import Derived.Test.YtmlpgfmbhpefmaaEvFin
namespace Go.Ev

/-! ### a table of functions is right -/
def EntOk (P : Program) (k : Nat) (rf : RF) : Prop := (rf.kn = none → compF P k = some rf) ∧ ∀ v, rf.kn = some v → ∀ ob nx lg, CallOk P k [] ob nx lg v ob nx lg
def TabOk (P : Program) (g : Pos → Pos) (t : T RF) : Prop := ∀ p rf, t.get p = some rf → EntOk P (g p).ix rf
theorem TabOk.e {P : Program} {g : Pos → Pos} : TabOk P g .e := fun p rf h => by rw [T.get_e] at h; cases h
theorem TabOk.n {P : Program} {g : Pos → Pos} {l r : T RF} {v : Option RF} (hv : ∀ rf, v = some rf → EntOk P (g .h).ix rf) (hl : TabOk P (fun p => g (.o p)) l) (hr : TabOk P (fun p => g (.i p)) r) : TabOk P g (.n l v r)
  | .h, rf, h => hv rf h
  | .o p, rf, h => hl p rf h
  | .i p, rf, h => hr p rf h
theorem TabOk.no {P : Program} {k : Nat} : ∀ rf, (none : Option RF) = some rf → EntOk P k rf := fun _ h => by cases h
theorem TabOk.at {P : Program} {k : Nat} : ∀ rf, compF P k = some rf → EntOk P k rf := fun rf h => ⟨fun _ => h, fun v hv => by
    obtain ⟨fn, c, rs, _, _, _, _, rfl⟩ := compF_ok h
    cases hv⟩
/-- A closed call that is known to be true. -/
def knT : RF := ⟨0, .skip, [], some (.b true)⟩
theorem TabOk.kn {P : Program} {FP : T RF} (hFP : FPok P FP) {n : Nat} {f : Pos} (h : closedB P FP n f = true) : ∀ rf, some knT = some rf → EntOk P f.ix rf := fun rf he => by
  cases he
  exact ⟨(fun h => by cases h), (fun v hv => by cases hv; exact closed_call hFP h)⟩
theorem FPok.of {P : Program} {t : T RF} (h : TabOk P (fun p => p) t) : FPok P t := h
end Go.Ev
