import Derived.Test.YtkbgaadfednjpaaGreatDoorEvUS4T
set_option linter.all false
set_option maxHeartbeats 8000000
noncomputable section
namespace Go.Ev
open Go.Proofs
def CB : List D := [(.ag [(.i .i64 (.ofNat 1)), (.i .i64 (.ofNat 2)), (.i .i64 (.ofNat 3)), (.i .i64 (.ofNat 1)), (.lst 1 [[(.i .i64 (.ofNat 2))], [(.i .i64 (.ofNat 2))]]), (.lst 1 [[(.i .i64 (.ofNat 2))], [(.i .i64 (.ofNat 3))]]), (.lst 1 [[(.lst 1 [[(.i .i64 (.ofNat 3))]])], [(.lst 1 [[(.i .i64 (.ofNat 0))], [(.i .i64 (.ofNat 3))]])]]), (.lst 2 [[(.i .i64 (.ofNat 0)), (.i .i64 (.ofNat 0))]]), (.lst 2 [])]), (.lst 1 [[(.lst 1 [[(.i .i64 (.ofNat 2))], [(.i .i64 (.ofNat 2))]])], [(.lst 1 [[(.i .i64 (.ofNat 2))], [(.i .i64 (.ofNat 2))]])]]), (.lst 1 [[(.i .i64 (.ofNat 3))], [(.i .i64 (.ofNat 0))]])]
def DQ : D := (.tp [(.lst 1 [[(.lst 3 [[(.i .i64 (.ofNat 1)), (.i .i64 (.ofNat 1)), (.i .i64 (.ofNat 0))], [(.i .i64 (.ofNat 1)), (.i .i64 (.ofNat 2)), (.i .i64 (.ofNat 1))], [(.i .i64 (.ofNat 1)), (.i .i64 (.ofNat 1)), (.i .i64 (.ofNat 0))]])], [(.lst 3 [[(.i .i64 (.ofNat 1)), (.i .i64 (.ofNat 1)), (.i .i64 (.ofNat 0))], [(.i .i64 (.ofNat 1)), (.i .i64 (.ofNat 1)), (.i .i64 (.ofNat 0))], [(.i .i64 (.ofNat 1)), (.i .i64 (.ofNat 1)), (.i .i64 (.ofNat 0))]])]]), (.i .i64 (.ofNat 0))])
def Cu : List D := [(.ag [(.i .i64 (.ofNat 1)), (.i .i64 (.ofNat 2)), (.i .i64 (.ofNat 3)), (.i .i64 (.ofNat 1)), (.lst 1 [[(.i .i64 (.ofNat 2))], [(.i .i64 (.ofNat 2))]]), (.lst 1 [[(.i .i64 (.ofNat 2))], [(.i .i64 (.ofNat 3))]]), (.lst 1 [[(.lst 1 [[(.i .i64 (.ofNat 3))]])], [(.lst 1 [[(.i .i64 (.ofNat 0))], [(.i .i64 (.ofNat 3))]])]]), (.lst 2 [[(.i .i64 (.ofNat 0)), (.i .i64 (.ofNat 0))]]), (.lst 2 [])]), (.lst 1 [[(.lst 1 [[(.i .i64 (.ofNat 2))], [(.i .i64 (.ofNat 2))]])], [(.lst 1 [[(.i .i64 (.ofNat 2))], [(.i .i64 (.ofNat 2))]])]])]
def EJ : D := (.tp [(.lst 1 [[(.lst 5 [[(.i .i64 (.ofNat 1)), (.i .i64 (.ofNat 0)), (.i .i64 (.ofNat 1)), (.i .i64 (.ofNat 0)), (.i .i64 (.ofNat 0))], [(.i .i64 (.ofNat 1)), (.i .i64 (.ofNat 2)), (.i .i64 (.ofNat 2)), (.i .i64 (.ofNat 1)), (.i .i64 (.ofNat 1))], [(.i .i64 (.ofNat 1)), (.i .i64 (.ofNat 0)), (.i .i64 (.ofNat 1)), (.i .i64 (.ofNat 0)), (.i .i64 (.ofNat 0))]])], [(.lst 5 [[(.i .i64 (.ofNat 1)), (.i .i64 (.ofNat 0)), (.i .i64 (.ofNat 1)), (.i .i64 (.ofNat 0)), (.i .i64 (.ofNat 0))], [(.i .i64 (.ofNat 1)), (.i .i64 (.ofNat 0)), (.i .i64 (.ofNat 1)), (.i .i64 (.ofNat 0)), (.i .i64 (.ofNat 0))], [(.i .i64 (.ofNat 1)), (.i .i64 (.ofNat 0)), (.i .i64 (.ofNat 1)), (.i .i64 (.ofNat 0)), (.i .i64 (.ofNat 0))]])]]), (.i .i64 (.ofNat 0))])
def Cl : List D := [(.ag [(.i .i64 (.ofNat 1)), (.i .i64 (.ofNat 2)), (.i .i64 (.ofNat 3)), (.i .i64 (.ofNat 1)), (.lst 1 [[(.i .i64 (.ofNat 2))], [(.i .i64 (.ofNat 2))]]), (.lst 1 [[(.i .i64 (.ofNat 2))], [(.i .i64 (.ofNat 3))]]), (.lst 1 [[(.lst 1 [[(.i .i64 (.ofNat 3))]])], [(.lst 1 [[(.i .i64 (.ofNat 0))], [(.i .i64 (.ofNat 3))]])]]), (.lst 2 [[(.i .i64 (.ofNat 0)), (.i .i64 (.ofNat 0))]]), (.lst 2 [])]), (.lst 1 [[(.lst 1 [[(.i .i64 (.ofNat 2))], [(.i .i64 (.ofNat 2))]])], [(.lst 1 [[(.i .i64 (.ofNat 3))], [(.i .i64 (.ofNat 3))]])]])]
def Ey : D := (.tp [(.i .i64 (.ofNat 6)), (.i .i64 (.ofNat 0))])
def Dm : List D := [(.ag [(.i .i64 (.ofNat 1)), (.i .i64 (.ofNat 2)), (.i .i64 (.ofNat 3)), (.i .i64 (.ofNat 1)), (.lst 1 [[(.i .i64 (.ofNat 2))], [(.i .i64 (.ofNat 2))]]), (.lst 1 [[(.i .i64 (.ofNat 2))], [(.i .i64 (.ofNat 3))]]), (.lst 1 [[(.lst 1 [[(.i .i64 (.ofNat 3))]])], [(.lst 1 [[(.i .i64 (.ofNat 0))], [(.i .i64 (.ofNat 3))]])]]), (.lst 2 [[(.i .i64 (.ofNat 0)), (.i .i64 (.ofNat 0))]]), (.lst 2 [])]), (.lst 1 [[(.lst 1 [[(.i .i64 (.ofNat 2))], [(.i .i64 (.ofNat 2))]])], [(.lst 1 [[(.i .i64 (.ofNat 3))], [(.i .i64 (.ofNat 3))]])]])]
def CO : D := (.tp [(.ag [(.i .i64 (.ofNat 2)), (.i .i64 (.ofNat 2))]), (.i .i64 (.ofNat 0))])
def DG : List D := [(.ag [(.i .i64 (.ofNat 1)), (.i .i64 (.ofNat 2)), (.i .i64 (.ofNat 3)), (.i .i64 (.ofNat 1)), (.lst 1 [[(.i .i64 (.ofNat 2))], [(.i .i64 (.ofNat 2))]]), (.lst 1 [[(.i .i64 (.ofNat 2))], [(.i .i64 (.ofNat 3))]]), (.lst 1 [[(.lst 1 [[(.i .i64 (.ofNat 3))]])], [(.lst 1 [[(.i .i64 (.ofNat 0))], [(.i .i64 (.ofNat 3))]])]]), (.lst 2 [[(.i .i64 (.ofNat 0)), (.i .i64 (.ofNat 0))]]), (.lst 2 [[(.i .i64 (.ofNat 1)), (.i .i64 (.ofNat 3))]])]), (.lst 1 [[(.lst 1 [[(.i .i64 (.ofNat 2))], [(.i .i64 (.ofNat 2))]])], [(.lst 1 [[(.i .i64 (.ofNat 2))], [(.i .i64 (.ofNat 2))]])]]), (.ag [(.i .i64 (.ofNat 1)), (.i .i64 (.ofNat 1))]), (.i .i64 (.ofNat 1))]
def DS : D := (.tp [(.i .i64 (.ofNat 2)), (.i .i64 (.ofNat 0))])
def DJ : List D := [(.ag [(.i .i64 (.ofNat 1)), (.i .i64 (.ofNat 2)), (.i .i64 (.ofNat 3)), (.i .i64 (.ofNat 1)), (.lst 1 [[(.i .i64 (.ofNat 2))], [(.i .i64 (.ofNat 2))]]), (.lst 1 [[(.i .i64 (.ofNat 2))], [(.i .i64 (.ofNat 3))]]), (.lst 1 [[(.lst 1 [[(.i .i64 (.ofNat 3))]])], [(.lst 1 [[(.i .i64 (.ofNat 0))], [(.i .i64 (.ofNat 3))]])]]), (.lst 2 [[(.i .i64 (.ofNat 0)), (.i .i64 (.ofNat 0))]]), (.lst 2 [])]), (.i .i64 (.ofNat 6))]
def EQ : D := (.tp [(.lst 1 [[(.lst 1 [[(.i .i64 (.ofNat 2))], [(.i .i64 (.ofNat 2))]])], [(.lst 1 [[(.i .i64 (.ofNat 3))], [(.i .i64 (.ofNat 3))]])]]), (.i .i64 (.ofNat 2)), (.i .i64 (.ofNat 0))])
def CC : List D := [(.ag [(.i .i64 (.ofNat 1)), (.i .i64 (.ofNat 2)), (.i .i64 (.ofNat 3)), (.i .i64 (.ofNat 1)), (.lst 1 [[(.i .i64 (.ofNat 2))], [(.i .i64 (.ofNat 2))]]), (.lst 1 [[(.i .i64 (.ofNat 2))], [(.i .i64 (.ofNat 3))]]), (.lst 1 [[(.lst 1 [[(.i .i64 (.ofNat 3))]])], [(.lst 1 [[(.i .i64 (.ofNat 0))], [(.i .i64 (.ofNat 3))]])]]), (.lst 2 [[(.i .i64 (.ofNat 0)), (.i .i64 (.ofNat 0))]]), (.lst 2 [[(.i .i64 (.ofNat 1)), (.i .i64 (.ofNat 3))], [(.i .i64 (.ofNat 1)), (.i .i64 (.ofNat 0))]])])]
def CR : D := (.tp [(.i .i64 (.ofNat 1)), (.i .i64 (.ofNat 0))])
def Eh : List D := [(.ag [(.i .i64 (.ofNat 1)), (.i .i64 (.ofNat 2)), (.i .i64 (.ofNat 3)), (.i .i64 (.ofNat 1)), (.lst 1 [[(.i .i64 (.ofNat 2))], [(.i .i64 (.ofNat 2))]]), (.lst 1 [[(.i .i64 (.ofNat 2))], [(.i .i64 (.ofNat 3))]]), (.lst 1 [[(.lst 1 [[(.i .i64 (.ofNat 3))]])], [(.lst 1 [[(.i .i64 (.ofNat 0))], [(.i .i64 (.ofNat 3))]])]]), (.lst 2 [[(.i .i64 (.ofNat 0)), (.i .i64 (.ofNat 0))]]), (.lst 2 [[(.i .i64 (.ofNat 1)), (.i .i64 (.ofNat 3))], [(.i .i64 (.ofNat 1)), (.i .i64 (.ofNat 0))]])])]
def CJ : D := (.tp [(.lst 1 [[(.i .i64 (.ofNat 0))]]), (.i .i64 (.ofNat 0))])
def CQ : List D := [(.ag [(.i .i64 (.ofNat 1)), (.i .i64 (.ofNat 2)), (.i .i64 (.ofNat 3)), (.i .i64 (.ofNat 1)), (.lst 1 [[(.i .i64 (.ofNat 2))], [(.i .i64 (.ofNat 2))]]), (.lst 1 [[(.i .i64 (.ofNat 2))], [(.i .i64 (.ofNat 3))]]), (.lst 1 [[(.lst 1 [[(.i .i64 (.ofNat 3))]])], [(.lst 1 [[(.i .i64 (.ofNat 0))], [(.i .i64 (.ofNat 3))]])]]), (.lst 2 [[(.i .i64 (.ofNat 0)), (.i .i64 (.ofNat 0))]]), (.lst 2 [])]), (.lst 1 [[(.lst 1 [[(.i .i64 (.ofNat 2))], [(.i .i64 (.ofNat 2))]])], [(.lst 1 [[(.i .i64 (.ofNat 3))], [(.i .i64 (.ofNat 3))]])]]), (.i .i64 (.ofNat 6)), (.i .i64 (.ofNat 2))]
def Cx : D := (.b true)
def Mb : List (List D × D) := [(CB, DQ)]
def JU : List (List D × D) := [(Cu, EJ)]
def IT : List (List D × D) := [(Cl, Ey)]
def Jb : List (List D × D) := [(Dm, CO)]
def IY : List (List D × D) := [(DG, DS)]
def Kj : List (List D × D) := [(DJ, EQ)]
def KO : List (List D × D) := [(CC, CR)]
def Kv : List (List D × D) := [(Eh, CJ)]
def JY : List (List D × D) := [(CQ, Cx)]
def JE : Pos := (.i (.i (.i (.o .h))))
def Lo : Pos := (.o (.o (.i (.o (.o .h)))))
def Ml : Pos := (.i (.i (.o (.o (.o .h)))))
def Jh : Pos := (.i (.i (.o (.i (.o .h)))))
def JO : Pos := (.i (.o (.o (.i (.o .h)))))
def Lh : Pos := (.o (.i (.o (.o (.i .h)))))
def Jx : Pos := (.i (.o (.i (.o (.i .h)))))
def LE : Pos := (.o (.i (.i (.o (.i .h)))))
def Lf : Pos := (.i (.i (.o (.o (.i .h)))))
end Go.Ev
end
