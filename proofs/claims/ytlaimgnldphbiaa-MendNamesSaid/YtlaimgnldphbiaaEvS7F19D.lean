import Derived.Test.YtlaimgnldphbiaaEvCu
import Derived.Test.YtlaimgnldphbiaaEvS7T
set_option linter.all false
namespace Go.Ev
open Go.Proofs
noncomputable def c19 : Code := match Try.f19.body with
  | some c => c
  | none => .skip
end Go.Ev

namespace Go.Ev
open Go.Proofs
def ms19_0 : T Unit := (.n (.n .e (some ()) (.n (.n (.n .e (some ()) .e) none .e) none .e)) (some ()) (.n .e (some ()) .e))
def mo19_0 : T Unit := .e
def x19_0 : X := ⟨(.n (.n .e (some (.i .i64 (.ofNat 3))) (.n (.n (.n .e (some (.tp [(.i .i64 (.ofNat 3)), (.i .i64 (.ofNat 0))])) .e) none .e) none .e)) (some (.b false)) (.n .e (some (.i .i64 (.ofNat 0))) .e)), .e, (.i (.i (.i (.i (.i (.i (.o .h))))))), none⟩
end Go.Ev

namespace Go.Ev
open Go.Proofs
def ms19_1 : T Unit := (.n (.n (.n .e (some ()) .e) (some ()) (.n (.n (.n .e (some ()) .e) none .e) none .e)) (some ()) (.n (.n .e (some ()) .e) (some ()) .e))
def mo19_1 : T Unit := (.n .e none (.n (.n (.n .e none (.n .e none (.n (.n .e none (.n (.n .e (some ()) .e) none .e)) none .e))) none .e) none .e))
def x19_1 : X := ⟨(.n (.n (.n .e (some (.sl (.i (.o (.o (.i (.i (.o (.i (.o .h)))))))) 0 1 0 2)) .e) (some (.i .i64 (.ofNat 3))) (.n (.n (.n .e (some (.tp [(.i .i64 (.ofNat 3)), (.i .i64 (.ofNat 0))])) .e) none .e) none .e)) (some (.b false)) (.n (.n .e (some (.i .i64 (.ofNat 0))) .e) (some (.i .i64 (.ofNat 0))) .e)), (.n .e none (.n (.n (.n .e none (.n .e none (.n (.n .e none (.n (.n .e (some (.cells false [(.o (.i .i64 (.ofNat 1)) 0), (.o (.i .i64 (.ofNat 4)) 0)] 1)) .e) none .e)) none .e))) none .e) none .e)), (.o (.o (.o (.o (.o (.i (.i (.o .h)))))))), none⟩
end Go.Ev

namespace Go.Ev
open Go.Proofs
def ms19_2 : T Unit := (.n (.n (.n (.n .e (some ()) .e) (some ()) .e) (some ()) (.n (.n (.n .e (some ()) .e) none .e) (some ()) .e)) (some ()) (.n (.n .e (some ()) .e) (some ()) (.n .e (some ()) .e)))
def mo19_2 : T Unit := (.n .e none (.n (.n (.n .e none (.n .e none (.n (.n .e none (.n (.n .e (some ()) .e) none .e)) none .e))) none .e) none .e))
def x19_2 : X := ⟨(.n (.n (.n (.n .e (some (.i .i64 (.ofNat 0))) .e) (some (.sl (.i (.o (.o (.i (.i (.o (.i (.o .h)))))))) 0 1 0 2)) .e) (some (.i .i64 (.ofNat 3))) (.n (.n (.n .e (some (.tp [(.i .i64 (.ofNat 3)), (.i .i64 (.ofNat 0))])) .e) none .e) (some .ns) .e)) (some (.b false)) (.n (.n .e (some (.i .i64 (.ofNat 0))) .e) (some (.i .i64 (.ofNat 0))) (.n .e (some (.i .i64 (.ofNat 2))) .e))), (.n .e none (.n (.n (.n .e none (.n .e none (.n (.n .e none (.n (.n .e (some (.cells false [(.o (.i .i64 (.ofNat 1)) 0), (.o (.i .i64 (.ofNat 4)) 0)] 1)) .e) none .e)) none .e))) none .e) none .e)), (.i (.i (.i (.o (.o (.o (.i (.o (.o .h))))))))), none⟩
end Go.Ev

namespace Go.Ev
open Go.Proofs
def ms19_3 : T Unit := (.n (.n (.n (.n .e (some ()) .e) (some ()) .e) (some ()) (.n (.n (.n .e (some ()) .e) (some ()) .e) (some ()) .e)) (some ()) (.n (.n (.n .e (some ()) .e) (some ()) .e) (some ()) (.n .e (some ()) .e)))
def mo19_3 : T Unit := (.n .e none (.n (.n (.n .e none (.n (.n (.n (.n .e none (.n .e none (.n .e (some ()) .e))) none .e) none .e) none (.n (.n .e none (.n (.n .e (some ()) .e) none .e)) none .e))) none .e) none .e))
def x19_3 : X := ⟨(.n (.n (.n (.n .e (some (.i .i64 (.ofNat 0))) .e) (some (.sl (.i (.o (.o (.i (.i (.o (.i (.o .h)))))))) 0 1 0 2)) .e) (some (.i .i64 (.ofNat 3))) (.n (.n (.n .e (some (.tp [(.i .i64 (.ofNat 3)), (.i .i64 (.ofNat 0))])) .e) (some (.i .i64 (.ofNat 0))) .e) (some .ns) .e)) (some (.b false)) (.n (.n (.n .e (some (.pt (.i (.o (.o (.i (.o (.o (.o (.i (.i .h))))))))) 0 0)) .e) (some (.i .i64 (.ofNat 0))) .e) (some (.i .i64 (.ofNat 0))) (.n .e (some (.i .i64 (.ofNat 2))) .e))), (.n .e none (.n (.n (.n .e none (.n (.n (.n (.n .e none (.n .e none (.n .e (some (.cells false [(.o (.i .i64 (.ofNat 2)) 0), (.o (.i .i64 (.ofNat 3)) 0)] 1)) .e))) none .e) none .e) none (.n (.n .e none (.n (.n .e (some (.cells false [(.o (.i .i64 (.ofNat 1)) 0), (.o (.i .i64 (.ofNat 4)) 0)] 1)) .e) none .e)) none .e))) none .e) none .e)), (.o (.i (.o (.i (.o (.o (.o (.i (.i .h))))))))), none⟩
end Go.Ev

namespace Go.Ev
open Go.Proofs
def ms19_4 : T Unit := (.n (.n (.n (.n .e (some ()) .e) (some ()) (.n .e (some ()) .e)) (some ()) (.n (.n (.n .e (some ()) .e) (some ()) .e) (some ()) .e)) (some ()) (.n (.n (.n .e (some ()) .e) (some ()) (.n .e (some ()) .e)) (some ()) (.n (.n .e (some ()) .e) (some ()) .e)))
def mo19_4 : T Unit := (.n .e none (.n (.n (.n .e none (.n (.n (.n (.n .e none (.n .e none (.n .e (some ()) .e))) none .e) none .e) none (.n (.n .e none (.n (.n .e (some ()) .e) none (.n (.n (.n .e (some ()) .e) none .e) none .e))) none .e))) none .e) none .e))
def x19_4 : X := ⟨(.n (.n (.n (.n .e (some (.i .i64 (.ofNat 0))) .e) (some (.sl (.i (.o (.o (.i (.i (.o (.i (.o .h)))))))) 0 1 0 2)) (.n .e (some (.i .i64 (.ofNat 2))) .e)) (some (.i .i64 (.ofNat 3))) (.n (.n (.n .e (some (.tp [(.i .i64 (.ofNat 3)), (.i .i64 (.ofNat 0))])) .e) (some (.i .i64 (.ofNat 0))) .e) (some .ns) .e)) (some (.b false)) (.n (.n (.n .e (some (.pt (.i (.o (.o (.i (.o (.o (.o (.i (.i .h))))))))) 0 0)) .e) (some (.i .i64 (.ofNat 0))) (.n .e (some (.i .i64 (.ofNat 0))) .e)) (some (.i .i64 (.ofNat 0))) (.n (.n .e (some (.sl (.i (.o (.o (.i (.i (.o (.i (.i (.o (.o .h)))))))))) 0 2 1 2)) .e) (some (.i .i64 (.ofNat 2))) .e))), (.n .e none (.n (.n (.n .e none (.n (.n (.n (.n .e none (.n .e none (.n .e (some (.cells false [(.o (.i .i64 (.ofNat 2)) 0), (.o (.i .i64 (.ofNat 3)) 0)] 1)) .e))) none .e) none .e) none (.n (.n .e none (.n (.n .e (some (.cells false [(.o (.i .i64 (.ofNat 1)) 0), (.o (.i .i64 (.ofNat 4)) 0)] 1)) .e) none (.n (.n (.n .e (some (.cells false [(.o (.i .i64 (.ofNat 0)) 1), (.o (.i .i64 (.ofNat 1)) 1), (.o (.i .i64 (.ofNat 2)) 1), (.o (.i .i64 (.ofNat 4)) 1)] 2)) .e) none .e) none .e))) none .e))) none .e) none .e)), (.o (.o (.o (.o (.i (.o (.o (.i (.i (.o .h)))))))))), none⟩
end Go.Ev

namespace Go.Ev
open Go.Proofs
def ms19_5 : T Unit := (.n (.n (.n (.n .e (some ()) .e) (some ()) (.n .e (some ()) .e)) (some ()) (.n (.n (.n .e (some ()) .e) (some ()) .e) (some ()) (.n .e (some ()) .e))) (some ()) (.n (.n (.n .e (some ()) .e) (some ()) (.n .e (some ()) .e)) (some ()) (.n (.n .e (some ()) .e) (some ()) (.n .e (some ()) .e))))
def mo19_5 : T Unit := (.n .e none (.n (.n (.n .e none (.n (.n (.n (.n .e none (.n .e none (.n .e (some ()) .e))) none .e) none .e) none (.n (.n .e none (.n (.n .e (some ()) .e) none (.n (.n (.n .e (some ()) .e) none .e) none .e))) none .e))) none .e) none .e))
def x19_5 : X := ⟨(.n (.n (.n (.n .e (some (.i .i64 (.ofNat 0))) .e) (some (.sl (.i (.o (.o (.i (.i (.o (.i (.o .h)))))))) 0 1 0 2)) (.n .e (some (.i .i64 (.ofNat 2))) .e)) (some (.i .i64 (.ofNat 3))) (.n (.n (.n .e (some (.tp [(.i .i64 (.ofNat 3)), (.i .i64 (.ofNat 0))])) .e) (some (.i .i64 (.ofNat 0))) .e) (some .ns) (.n .e (some (.i .i64 (.ofNat 1))) .e))) (some (.b false)) (.n (.n (.n .e (some (.pt (.i (.o (.o (.i (.o (.o (.o (.i (.i .h))))))))) 0 0)) .e) (some (.i .i64 (.ofNat 0))) (.n .e (some (.i .i64 (.ofNat 0))) .e)) (some (.i .i64 (.ofNat 0))) (.n (.n .e (some (.sl (.i (.o (.o (.i (.i (.o (.i (.i (.o (.o .h)))))))))) 0 2 1 2)) .e) (some (.i .i64 (.ofNat 2))) (.n .e (some (.i .i64 (.ofNat 0))) .e)))), (.n .e none (.n (.n (.n .e none (.n (.n (.n (.n .e none (.n .e none (.n .e (some (.cells false [(.o (.i .i64 (.ofNat 2)) 0), (.o (.i .i64 (.ofNat 3)) 0)] 1)) .e))) none .e) none .e) none (.n (.n .e none (.n (.n .e (some (.cells false [(.o (.i .i64 (.ofNat 1)) 0), (.o (.i .i64 (.ofNat 4)) 0)] 1)) .e) none (.n (.n (.n .e (some (.cells false [(.o (.i .i64 (.ofNat 0)) 1), (.o (.i .i64 (.ofNat 1)) 1), (.o (.i .i64 (.ofNat 2)) 1), (.o (.i .i64 (.ofNat 4)) 1)] 2)) .e) none .e) none .e))) none .e))) none .e) none .e)), (.i (.i (.i (.o (.o (.i (.i (.i (.o (.i .h)))))))))), none⟩
end Go.Ev

namespace Go.Ev
open Go.Proofs
def ms19_6 : T Unit := (.n (.n (.n (.n (.n .e (some ()) .e) (some ()) .e) (some ()) (.n .e (some ()) .e)) (some ()) (.n (.n (.n .e (some ()) .e) (some ()) .e) (some ()) (.n .e (some ()) .e))) (some ()) (.n (.n (.n (.n .e (some ()) .e) (some ()) .e) (some ()) (.n .e (some ()) .e)) (some ()) (.n (.n .e (some ()) .e) (some ()) (.n .e (some ()) .e))))
def mo19_6 : T Unit := (.n .e none (.n (.n (.n .e none (.n (.n (.n (.n .e none (.n .e none (.n .e (some ()) .e))) none .e) none .e) none (.n (.n .e none (.n (.n .e (some ()) .e) none (.n (.n (.n .e (some ()) .e) none .e) none .e))) none .e))) none .e) none (.n .e none (.n .e none (.n (.n (.n .e none (.n (.n (.n (.n (.n .e (some ()) .e) none .e) none .e) none .e) none .e)) none .e) none .e)))))
def x19_6 : X := ⟨(.n (.n (.n (.n (.n .e (some (.sl (.i (.i (.i (.i (.o (.o (.i (.o (.o (.o (.o .h))))))))))) 0 1 0 1)) .e) (some (.i .i64 (.ofNat 0))) .e) (some (.sl (.i (.o (.o (.i (.i (.o (.i (.o .h)))))))) 0 1 0 2)) (.n .e (some (.i .i64 (.ofNat 2))) .e)) (some (.i .i64 (.ofNat 3))) (.n (.n (.n .e (some (.tp [(.i .i64 (.ofNat 3)), (.i .i64 (.ofNat 0))])) .e) (some (.i .i64 (.ofNat 0))) .e) (some .ns) (.n .e (some (.i .i64 (.ofNat 1))) .e))) (some (.b false)) (.n (.n (.n (.n .e (some (.i .i64 (.ofNat 0))) .e) (some (.pt (.i (.o (.o (.i (.o (.o (.o (.i (.i .h))))))))) 0 0)) .e) (some (.i .i64 (.ofNat 0))) (.n .e (some (.i .i64 (.ofNat 0))) .e)) (some (.i .i64 (.ofNat 0))) (.n (.n .e (some (.sl (.i (.o (.o (.i (.i (.o (.i (.i (.o (.o .h)))))))))) 0 2 1 2)) .e) (some (.i .i64 (.ofNat 2))) (.n .e (some (.i .i64 (.ofNat 0))) .e)))), (.n .e none (.n (.n (.n .e none (.n (.n (.n (.n .e none (.n .e none (.n .e (some (.cells false [(.o (.i .i64 (.ofNat 2)) 0), (.o (.i .i64 (.ofNat 3)) 0)] 1)) .e))) none .e) none .e) none (.n (.n .e none (.n (.n .e (some (.cells false [(.o (.i .i64 (.ofNat 1)) 0), (.o (.i .i64 (.ofNat 4)) 0)] 1)) .e) none (.n (.n (.n .e (some (.cells false [(.o (.i .i64 (.ofNat 0)) 1), (.o (.i .i64 (.ofNat 1)) 1), (.o (.i .i64 (.ofNat 2)) 1), (.o (.i .i64 (.ofNat 4)) 1)] 2)) .e) none .e) none .e))) none .e))) none .e) none (.n .e none (.n .e none (.n (.n (.n .e none (.n (.n (.n (.n (.n .e (some (.cells false [(.o (.i .i64 (.ofNat 0)) 0)] 1)) .e) none .e) none .e) none .e) none .e)) none .e) none .e))))), (.o (.o (.o (.o (.i (.o (.i (.o (.o (.o (.o .h))))))))))), none⟩
end Go.Ev
