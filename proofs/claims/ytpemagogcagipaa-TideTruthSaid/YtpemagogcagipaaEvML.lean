import Derived.Test.YtpemagogcagipaaEvMK
set_option linter.all false
namespace Go.Ev
open Go.Proofs
set_option maxRecDepth 100000
end Go.Ev

namespace Go.Ev
open Go.Proofs
set_option maxRecDepth 100000
end Go.Ev

namespace Go.Ev
open Go.Proofs
theorem truth_hts {last : Int} {hs : List Rg} {step : Int} {lv : List Int} {ms : List Mk} (V : ValidT last hs step lv ms) (hm : manyR hs ≤ 2000) {t : List Int} (ht : t ∈ truthsR hs step ms) {h : Nat} (hh : h < hs.length) : 0 ≤ t.getD h 0 ∧ t.getD h 0 ≤ 99 := by
  obtain ⟨hl, h1, _⟩ := (mem_truthsR V hm).1 ht
  unfold listedR at h1
  rw [Bool.and_eq_true, List.all_eq_true] at h1
  have h2 := h1.1 h (List.mem_range.2 (by omega))
  unfold inAt at h2
  have h3 := inB_iff.1 h2
  have h4 := V.hv (hs.getD h default) (getD_mem hh)
  omega
end Go.Ev
