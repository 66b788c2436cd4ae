import Derived.Test.YtkbgaadfednjpaaGreatDoorEvUS4T
set_option linter.all false
set_option maxHeartbeats 8000000
noncomputable section
namespace Go.Ev
open Go.Proofs
def DX : List D := [(.ag [(.i .i64 (.ofNat 1)), (.i .i64 (.ofNat 2)), (.i .i64 (.ofNat 3)), (.i .i64 (.ofNat 1)), (.lst 1 [[(.i .i64 (.ofNat 2))], [(.i .i64 (.ofNat 2))]]), (.lst 1 [[(.i .i64 (.ofNat 2))], [(.i .i64 (.ofNat 3))]]), (.lst 1 [[(.lst 1 [[(.i .i64 (.ofNat 3))]])], [(.lst 1 [[(.i .i64 (.ofNat 0))], [(.i .i64 (.ofNat 3))]])]]), (.lst 2 [[(.i .i64 (.ofNat 0)), (.i .i64 (.ofNat 0))]]), (.lst 2 [])]), (.lst 1 [[(.lst 1 [[(.i .i64 (.ofNat 2))], [(.i .i64 (.ofNat 2))]])], [(.lst 1 [[(.i .i64 (.ofNat 2))], [(.i .i64 (.ofNat 2))]])]]), (.lst 1 [[(.i .i64 (.ofNat 3))], [(.i .i64 (.ofNat 0))]])]
def EZ : D := (.tp [(.lst 1 [[(.lst 3 [[(.i .i64 (.ofNat 1)), (.i .i64 (.ofNat 1)), (.i .i64 (.ofNat 0))], [(.i .i64 (.ofNat 1)), (.i .i64 (.ofNat 2)), (.i .i64 (.ofNat 1))], [(.i .i64 (.ofNat 1)), (.i .i64 (.ofNat 1)), (.i .i64 (.ofNat 0))]])], [(.lst 3 [[(.i .i64 (.ofNat 1)), (.i .i64 (.ofNat 1)), (.i .i64 (.ofNat 0))], [(.i .i64 (.ofNat 1)), (.i .i64 (.ofNat 1)), (.i .i64 (.ofNat 0))], [(.i .i64 (.ofNat 1)), (.i .i64 (.ofNat 1)), (.i .i64 (.ofNat 0))]])]]), (.i .i64 (.ofNat 0))])
def DP : List D := [(.ag [(.i .i64 (.ofNat 1)), (.i .i64 (.ofNat 2)), (.i .i64 (.ofNat 3)), (.i .i64 (.ofNat 1)), (.lst 1 [[(.i .i64 (.ofNat 2))], [(.i .i64 (.ofNat 2))]]), (.lst 1 [[(.i .i64 (.ofNat 2))], [(.i .i64 (.ofNat 3))]]), (.lst 1 [[(.lst 1 [[(.i .i64 (.ofNat 3))]])], [(.lst 1 [[(.i .i64 (.ofNat 0))], [(.i .i64 (.ofNat 3))]])]]), (.lst 2 [[(.i .i64 (.ofNat 0)), (.i .i64 (.ofNat 0))]]), (.lst 2 [])]), (.lst 1 [[(.lst 1 [[(.i .i64 (.ofNat 2))], [(.i .i64 (.ofNat 2))]])], [(.lst 1 [[(.i .i64 (.ofNat 2))], [(.i .i64 (.ofNat 2))]])]])]
def FR : D := (.tp [(.lst 1 [[(.lst 5 [[(.i .i64 (.ofNat 1)), (.i .i64 (.ofNat 0)), (.i .i64 (.ofNat 1)), (.i .i64 (.ofNat 0)), (.i .i64 (.ofNat 0))], [(.i .i64 (.ofNat 1)), (.i .i64 (.ofNat 2)), (.i .i64 (.ofNat 2)), (.i .i64 (.ofNat 1)), (.i .i64 (.ofNat 1))], [(.i .i64 (.ofNat 1)), (.i .i64 (.ofNat 0)), (.i .i64 (.ofNat 1)), (.i .i64 (.ofNat 0)), (.i .i64 (.ofNat 0))]])], [(.lst 5 [[(.i .i64 (.ofNat 1)), (.i .i64 (.ofNat 0)), (.i .i64 (.ofNat 1)), (.i .i64 (.ofNat 0)), (.i .i64 (.ofNat 0))], [(.i .i64 (.ofNat 1)), (.i .i64 (.ofNat 0)), (.i .i64 (.ofNat 1)), (.i .i64 (.ofNat 0)), (.i .i64 (.ofNat 0))], [(.i .i64 (.ofNat 1)), (.i .i64 (.ofNat 0)), (.i .i64 (.ofNat 1)), (.i .i64 (.ofNat 0)), (.i .i64 (.ofNat 0))]])]]), (.i .i64 (.ofNat 0))])
def DF : List D := [(.ag [(.i .i64 (.ofNat 1)), (.i .i64 (.ofNat 2)), (.i .i64 (.ofNat 3)), (.i .i64 (.ofNat 1)), (.lst 1 [[(.i .i64 (.ofNat 2))], [(.i .i64 (.ofNat 2))]]), (.lst 1 [[(.i .i64 (.ofNat 2))], [(.i .i64 (.ofNat 3))]]), (.lst 1 [[(.lst 1 [[(.i .i64 (.ofNat 3))]])], [(.lst 1 [[(.i .i64 (.ofNat 0))], [(.i .i64 (.ofNat 3))]])]]), (.lst 2 [[(.i .i64 (.ofNat 0)), (.i .i64 (.ofNat 0))]]), (.lst 2 [])]), (.lst 1 [[(.lst 1 [[(.i .i64 (.ofNat 2))], [(.i .i64 (.ofNat 2))]])], [(.lst 1 [[(.i .i64 (.ofNat 3))], [(.i .i64 (.ofNat 3))]])]])]
def FG : D := (.tp [(.i .i64 (.ofNat 6)), (.i .i64 (.ofNat 0))])
def EF : List D := [(.ag [(.i .i64 (.ofNat 1)), (.i .i64 (.ofNat 2)), (.i .i64 (.ofNat 3)), (.i .i64 (.ofNat 1)), (.lst 1 [[(.i .i64 (.ofNat 2))], [(.i .i64 (.ofNat 2))]]), (.lst 1 [[(.i .i64 (.ofNat 2))], [(.i .i64 (.ofNat 3))]]), (.lst 1 [[(.lst 1 [[(.i .i64 (.ofNat 3))]])], [(.lst 1 [[(.i .i64 (.ofNat 0))], [(.i .i64 (.ofNat 3))]])]]), (.lst 2 [[(.i .i64 (.ofNat 0)), (.i .i64 (.ofNat 0))]]), (.lst 2 [])]), (.lst 1 [[(.lst 1 [[(.i .i64 (.ofNat 2))], [(.i .i64 (.ofNat 2))]])], [(.lst 1 [[(.i .i64 (.ofNat 3))], [(.i .i64 (.ofNat 3))]])]])]
def Ek : D := (.tp [(.ag [(.i .i64 (.ofNat 2)), (.i .i64 (.ofNat 2))]), (.i .i64 (.ofNat 0))])
def ET : List D := [(.ag [(.i .i64 (.ofNat 1)), (.i .i64 (.ofNat 2)), (.i .i64 (.ofNat 3)), (.i .i64 (.ofNat 1)), (.lst 1 [[(.i .i64 (.ofNat 2))], [(.i .i64 (.ofNat 2))]]), (.lst 1 [[(.i .i64 (.ofNat 2))], [(.i .i64 (.ofNat 3))]]), (.lst 1 [[(.lst 1 [[(.i .i64 (.ofNat 3))]])], [(.lst 1 [[(.i .i64 (.ofNat 0))], [(.i .i64 (.ofNat 3))]])]]), (.lst 2 [[(.i .i64 (.ofNat 0)), (.i .i64 (.ofNat 0))]]), (.lst 2 [[(.i .i64 (.ofNat 1)), (.i .i64 (.ofNat 3))]])]), (.lst 1 [[(.lst 1 [[(.i .i64 (.ofNat 2))], [(.i .i64 (.ofNat 2))]])], [(.lst 1 [[(.i .i64 (.ofNat 2))], [(.i .i64 (.ofNat 2))]])]]), (.ag [(.i .i64 (.ofNat 1)), (.i .i64 (.ofNat 1))]), (.i .i64 (.ofNat 1))]
def Fa : D := (.tp [(.i .i64 (.ofNat 2)), (.i .i64 (.ofNat 0))])
def EV : List D := [(.ag [(.i .i64 (.ofNat 1)), (.i .i64 (.ofNat 2)), (.i .i64 (.ofNat 3)), (.i .i64 (.ofNat 1)), (.lst 1 [[(.i .i64 (.ofNat 2))], [(.i .i64 (.ofNat 2))]]), (.lst 1 [[(.i .i64 (.ofNat 2))], [(.i .i64 (.ofNat 3))]]), (.lst 1 [[(.lst 1 [[(.i .i64 (.ofNat 3))]])], [(.lst 1 [[(.i .i64 (.ofNat 0))], [(.i .i64 (.ofNat 3))]])]]), (.lst 2 [[(.i .i64 (.ofNat 0)), (.i .i64 (.ofNat 0))]]), (.lst 2 [])]), (.i .i64 (.ofNat 6))]
def FZ : D := (.tp [(.lst 1 [[(.lst 1 [[(.i .i64 (.ofNat 2))], [(.i .i64 (.ofNat 2))]])], [(.lst 1 [[(.i .i64 (.ofNat 3))], [(.i .i64 (.ofNat 3))]])]]), (.i .i64 (.ofNat 2)), (.i .i64 (.ofNat 0))])
def DY : List D := [(.ag [(.i .i64 (.ofNat 1)), (.i .i64 (.ofNat 2)), (.i .i64 (.ofNat 3)), (.i .i64 (.ofNat 1)), (.lst 1 [[(.i .i64 (.ofNat 2))], [(.i .i64 (.ofNat 2))]]), (.lst 1 [[(.i .i64 (.ofNat 2))], [(.i .i64 (.ofNat 3))]]), (.lst 1 [[(.lst 1 [[(.i .i64 (.ofNat 3))]])], [(.lst 1 [[(.i .i64 (.ofNat 0))], [(.i .i64 (.ofNat 3))]])]]), (.lst 2 [[(.i .i64 (.ofNat 0)), (.i .i64 (.ofNat 0))]]), (.lst 2 [[(.i .i64 (.ofNat 1)), (.i .i64 (.ofNat 3))], [(.i .i64 (.ofNat 1)), (.i .i64 (.ofNat 0))]])])]
def En : D := (.tp [(.i .i64 (.ofNat 1)), (.i .i64 (.ofNat 0))])
def Fo : List D := [(.ag [(.i .i64 (.ofNat 1)), (.i .i64 (.ofNat 2)), (.i .i64 (.ofNat 3)), (.i .i64 (.ofNat 1)), (.lst 1 [[(.i .i64 (.ofNat 2))], [(.i .i64 (.ofNat 2))]]), (.lst 1 [[(.i .i64 (.ofNat 2))], [(.i .i64 (.ofNat 3))]]), (.lst 1 [[(.lst 1 [[(.i .i64 (.ofNat 3))]])], [(.lst 1 [[(.i .i64 (.ofNat 0))], [(.i .i64 (.ofNat 3))]])]]), (.lst 2 [[(.i .i64 (.ofNat 0)), (.i .i64 (.ofNat 0))]]), (.lst 2 [[(.i .i64 (.ofNat 1)), (.i .i64 (.ofNat 3))], [(.i .i64 (.ofNat 1)), (.i .i64 (.ofNat 0))]])])]
def Ef : D := (.tp [(.lst 1 [[(.i .i64 (.ofNat 0))]]), (.i .i64 (.ofNat 0))])
def El : List D := [(.ag [(.i .i64 (.ofNat 1)), (.i .i64 (.ofNat 2)), (.i .i64 (.ofNat 3)), (.i .i64 (.ofNat 1)), (.lst 1 [[(.i .i64 (.ofNat 2))], [(.i .i64 (.ofNat 2))]]), (.lst 1 [[(.i .i64 (.ofNat 2))], [(.i .i64 (.ofNat 3))]]), (.lst 1 [[(.lst 1 [[(.i .i64 (.ofNat 3))]])], [(.lst 1 [[(.i .i64 (.ofNat 0))], [(.i .i64 (.ofNat 3))]])]]), (.lst 2 [[(.i .i64 (.ofNat 0)), (.i .i64 (.ofNat 0))]]), (.lst 2 [])]), (.lst 1 [[(.lst 1 [[(.i .i64 (.ofNat 2))], [(.i .i64 (.ofNat 2))]])], [(.lst 1 [[(.i .i64 (.ofNat 3))], [(.i .i64 (.ofNat 3))]])]]), (.i .i64 (.ofNat 6)), (.i .i64 (.ofNat 2))]
def DS : D := (.b true)
def Mp : List (List D × D) := [(DX, EZ)]
def Kl : List (List D × D) := [(DP, FR)]
def Jj : List (List D × D) := [(DF, FG)]
def Js : List (List D × D) := [(EF, Ek)]
def Jo : List (List D × D) := [(ET, Fa)]
def KA : List (List D × D) := [(EV, FZ)]
def Ld : List (List D × D) := [(DY, En)]
def KN : List (List D × D) := [(Fo, Ef)]
def Kt : List (List D × D) := [(El, DS)]
def JS : Pos := (.i (.i (.i (.o .h))))
def LB : Pos := (.o (.o (.i (.o (.o .h)))))
def MB : Pos := (.i (.i (.o (.o (.o .h)))))
def Jy : Pos := (.i (.i (.o (.i (.o .h)))))
def JZ : Pos := (.i (.o (.o (.i (.o .h)))))
def Lt : Pos := (.o (.i (.o (.o (.i .h)))))
def JL : Pos := (.i (.o (.i (.o (.i .h)))))
def LL : Pos := (.o (.i (.i (.o (.i .h)))))
def Lq : Pos := (.i (.i (.o (.o (.i .h)))))
end Go.Ev
end
