import Derived.Test.YtjgbfnciedkafaaEvUGo
set_option linter.all false
namespace Go.Ev
open Go.Proofs
def ms21_0 : T Unit := (.n (.n (.n .e (some ()) .e) (some ()) (.n .e (some ()) .e)) (some ()) (.n (.n .e (some ()) .e) (some ()) (.n .e none (.n .e (some ()) .e))))
def mo21_0 : T Unit := (.n (.n .e none (.n (.n (.n .e none (.n (.n .e none (.n (.n (.n .e (some ()) .e) none .e) none .e)) none .e)) none .e) none (.n .e none (.n .e none (.n (.n (.n .e none (.n (.n (.n .e (some ()) .e) none .e) none .e)) none .e) none .e))))) none (.n (.n (.n .e none (.n (.n .e none (.n .e none (.n .e none (.n (.n .e none (.n .e (some ()) .e)) none .e)))) none .e)) none .e) none .e))
def x21_0 : X := ⟨(.n (.n (.n .e (some (.sl (.o (.i (.i (.i (.i (.o (.o (.i (.o (.o .h)))))))))) 0 3 2 1)) .e) (some (.sl (.o (.i (.o (.o (.i (.o (.i (.o (.o .h))))))))) 0 1 0 3)) (.n .e (some (.i .i64 (.ofNat 0))) .e)) (some (.b false)) (.n (.n .e (some (.sl (.i (.o (.o (.i (.o (.i (.i (.i (.o (.i .h)))))))))) 0 3 2 1)) .e) (some (.i .i64 (.ofNat 0))) (.n .e none (.n .e (some (.tp [(.sl (.o (.i (.o (.o (.i (.o (.i (.o (.o .h))))))))) 0 1 0 3), (.i .i64 (.ofNat 0))])) .e)))), (.n (.n .e none (.n (.n (.n .e none (.n (.n .e none (.n (.n (.n .e (some (.cells false [(.o (.i .i64 (.ofNat 2)) 0), (.o (.i .i64 (.ofNat 0)) 0), (.o (.i .i64 (.ofNat 1)) 0)] 1)) .e) none .e) none .e)) none .e)) none .e) none (.n .e none (.n .e none (.n (.n (.n .e none (.n (.n (.n .e (some (.cells false [(.o (.i .i64 (.ofNat 1)) 0), (.o (.i .i64 (.ofNat 1)) 1), (.o (.i .i64 (.ofNat 2)) 2)] 3)) .e) none .e) none .e)) none .e) none .e))))) none (.n (.n (.n .e none (.n (.n .e none (.n .e none (.n .e none (.n (.n .e none (.n .e (some (.cells false [(.o (.i .i64 (.ofNat 1)) 0), (.o (.i .i64 (.ofNat 2)) 1), (.o (.i .i64 (.ofNat 1)) 2)] 3)) .e)) none .e)))) none .e)) none .e) none .e)), (.o (.o (.o (.o (.i (.i (.i (.o (.o (.o (.o .h))))))))))), none⟩
end Go.Ev

namespace Go.Ev
open Go.Proofs
set_option maxRecDepth 1000000 in
theorem p21_0 : gcX ms21_0 mo21_0 (exec Try.prog fp 100000 (comp Try.prog Try.f21.ntmps (Code.pre 3 c21)) ⟨.e, .e, .h, none⟩) = some x21_0 := by kernel_rfl
end Go.Ev

namespace Go.Ev
open Go.Proofs
def ms21_1 : T Unit := (.n (.n (.n (.n .e (some ()) .e) (some ()) .e) (some ()) (.n (.n .e (some ()) .e) (some ()) .e)) (some ()) (.n (.n (.n .e (some ()) .e) (some ()) .e) (some ()) (.n .e (some ()) (.n .e (some ()) .e))))
def mo21_1 : T Unit := (.n (.n .e none (.n (.n (.n .e none (.n (.n .e none (.n (.n (.n .e (some ()) .e) none .e) none .e)) none .e)) none .e) none (.n .e none (.n .e none (.n (.n (.n .e none (.n (.n (.n .e (some ()) .e) none .e) none .e)) none .e) none .e))))) none (.n (.n (.n .e none (.n (.n .e none (.n .e none (.n .e none (.n (.n .e none (.n .e (some ()) .e)) none .e)))) none (.n .e none (.n .e none (.n (.n (.n (.n .e none (.n .e (some ()) .e)) none .e) none .e) none .e))))) none .e) none (.n .e none (.n (.n .e none (.n .e none (.n (.n .e none (.n (.n .e none (.n (.n .e (some ()) .e) none .e)) none .e)) none .e))) none .e))))
def x21_1 : X := ⟨(.n (.n (.n (.n .e (some (.i .i64 (.ofNat 0))) .e) (some (.sl (.o (.i (.i (.i (.i (.o (.o (.i (.o (.o .h)))))))))) 0 3 2 1)) .e) (some (.sl (.o (.i (.o (.o (.i (.o (.i (.o (.o .h))))))))) 0 1 0 3)) (.n (.n .e (some (.i .i64 (.ofNat 0))) .e) (some (.i .i64 (.ofNat 0))) .e)) (some (.b false)) (.n (.n (.n .e (some (.pt (.i (.o (.o (.i (.i (.i (.i (.o (.o (.o (.i .h))))))))))) 0 0)) .e) (some (.sl (.i (.o (.o (.i (.o (.i (.i (.i (.o (.i .h)))))))))) 0 3 2 1)) .e) (some (.i .i64 (.ofNat 0))) (.n .e (some (.pt (.i (.i (.i (.o (.i (.i (.o (.i (.o (.i (.o .h))))))))))) 0 0)) (.n .e (some (.tp [(.sl (.o (.i (.o (.o (.i (.o (.i (.o (.o .h))))))))) 0 1 0 3), (.i .i64 (.ofNat 0))])) .e)))), (.n (.n .e none (.n (.n (.n .e none (.n (.n .e none (.n (.n (.n .e (some (.cells false [(.o (.i .i64 (.ofNat 2)) 0), (.o (.i .i64 (.ofNat 0)) 0), (.o (.i .i64 (.ofNat 1)) 0)] 1)) .e) none .e) none .e)) none .e)) none .e) none (.n .e none (.n .e none (.n (.n (.n .e none (.n (.n (.n .e (some (.cells false [(.o (.i .i64 (.ofNat 1)) 0), (.o (.i .i64 (.ofNat 1)) 1), (.o (.i .i64 (.ofNat 2)) 2)] 3)) .e) none .e) none .e)) none .e) none .e))))) none (.n (.n (.n .e none (.n (.n .e none (.n .e none (.n .e none (.n (.n .e none (.n .e (some (.cells false [(.o (.i .i64 (.ofNat 1)) 0), (.o (.i .i64 (.ofNat 2)) 1), (.o (.i .i64 (.ofNat 1)) 2)] 3)) .e)) none .e)))) none (.n .e none (.n .e none (.n (.n (.n (.n .e none (.n .e (some (.cells false [(.o (.i .i64 (.ofNat 0)) 0), (.o (.i .i64 (.ofNat 1)) 0)] 1)) .e)) none .e) none .e) none .e))))) none .e) none (.n .e none (.n (.n .e none (.n .e none (.n (.n .e none (.n (.n .e none (.n (.n .e (some (.cells false [(.o (.i .i64 (.ofNat 30)) 0), (.o (.i .i64 (.ofNat 30)) 0)] 1)) .e) none .e)) none .e)) none .e))) none .e)))), (.o (.i (.o (.i (.i (.i (.i (.o (.o (.o (.i .h))))))))))), none⟩
end Go.Ev

namespace Go.Ev
open Go.Proofs
set_option maxRecDepth 1000000 in
theorem p21_1 : gcX ms21_1 mo21_1 (exec Try.prog fp 100000 (comp Try.prog Try.f21.ntmps (Code.pre 2 (Code.suf 3 c21))) x21_0) = some x21_1 := by kernel_rfl
end Go.Ev

namespace Go.Ev
open Go.Proofs
set_option maxRecDepth 1000000 in
theorem p21_l : lastB Try.prog fp 100000 Try.f21.ntmps (Code.suf 5 c21) x21_1 .h = true := by kernel_rfl
end Go.Ev

namespace Go.Ev
open Go.Proofs
theorem t21 : TrueCall Try.prog 21 := by
  refine TrueCall.of_body (s := .h) (c := c21) Try.func21 (by kernel_rfl) (by kernel_rfl) (by kernel_rfl) ?_
  obtain ⟨e, Z, h1, h2, h3⟩ := last_ok fp_ok p21_l
  exact ⟨e, Z, pieceG_ok fp_ok p21_0 (pieceG_ok fp_ok p21_1 (by rw [show Code.suf 2 (Code.suf 3 c21) = Code.suf 5 c21 from by kernel_rfl]; exact h1)), h2, h3⟩
end Go.Ev
