import Derived.Test.YtkbgaadfednjpaaGreatDoorEvUS4T
set_option linter.all false
set_option maxHeartbeats 8000000
noncomputable section
namespace Go.Ev
open Go.Proofs
def BN : List D := [(.ag [(.i .i64 (.ofNat 1)), (.i .i64 (.ofNat 2)), (.i .i64 (.ofNat 3)), (.i .i64 (.ofNat 1)), (.lst 1 [[(.i .i64 (.ofNat 2))], [(.i .i64 (.ofNat 2))]]), (.lst 1 [[(.i .i64 (.ofNat 2))], [(.i .i64 (.ofNat 3))]]), (.lst 1 [[(.lst 1 [[(.i .i64 (.ofNat 3))]])], [(.lst 1 [[(.i .i64 (.ofNat 0))], [(.i .i64 (.ofNat 3))]])]]), (.lst 2 [[(.i .i64 (.ofNat 0)), (.i .i64 (.ofNat 0))]]), (.lst 2 [])]), (.lst 1 [[(.lst 1 [[(.i .i64 (.ofNat 2))], [(.i .i64 (.ofNat 2))]])], [(.lst 1 [[(.i .i64 (.ofNat 2))], [(.i .i64 (.ofNat 2))]])]]), (.lst 1 [[(.i .i64 (.ofNat 3))], [(.i .i64 (.ofNat 0))]])]
def CU : D := (.tp [(.lst 1 [[(.lst 3 [[(.i .i64 (.ofNat 1)), (.i .i64 (.ofNat 1)), (.i .i64 (.ofNat 0))], [(.i .i64 (.ofNat 1)), (.i .i64 (.ofNat 2)), (.i .i64 (.ofNat 1))], [(.i .i64 (.ofNat 1)), (.i .i64 (.ofNat 1)), (.i .i64 (.ofNat 0))]])], [(.lst 3 [[(.i .i64 (.ofNat 1)), (.i .i64 (.ofNat 1)), (.i .i64 (.ofNat 0))], [(.i .i64 (.ofNat 1)), (.i .i64 (.ofNat 1)), (.i .i64 (.ofNat 0))], [(.i .i64 (.ofNat 1)), (.i .i64 (.ofNat 1)), (.i .i64 (.ofNat 0))]])]]), (.i .i64 (.ofNat 0))])
def BG : List D := [(.ag [(.i .i64 (.ofNat 1)), (.i .i64 (.ofNat 2)), (.i .i64 (.ofNat 3)), (.i .i64 (.ofNat 1)), (.lst 1 [[(.i .i64 (.ofNat 2))], [(.i .i64 (.ofNat 2))]]), (.lst 1 [[(.i .i64 (.ofNat 2))], [(.i .i64 (.ofNat 3))]]), (.lst 1 [[(.lst 1 [[(.i .i64 (.ofNat 3))]])], [(.lst 1 [[(.i .i64 (.ofNat 0))], [(.i .i64 (.ofNat 3))]])]]), (.lst 2 [[(.i .i64 (.ofNat 0)), (.i .i64 (.ofNat 0))]]), (.lst 2 [])]), (.lst 1 [[(.lst 1 [[(.i .i64 (.ofNat 2))], [(.i .i64 (.ofNat 2))]])], [(.lst 1 [[(.i .i64 (.ofNat 2))], [(.i .i64 (.ofNat 2))]])]])]
def DD : D := (.tp [(.lst 1 [[(.lst 5 [[(.i .i64 (.ofNat 1)), (.i .i64 (.ofNat 0)), (.i .i64 (.ofNat 1)), (.i .i64 (.ofNat 0)), (.i .i64 (.ofNat 0))], [(.i .i64 (.ofNat 1)), (.i .i64 (.ofNat 2)), (.i .i64 (.ofNat 2)), (.i .i64 (.ofNat 1)), (.i .i64 (.ofNat 1))], [(.i .i64 (.ofNat 1)), (.i .i64 (.ofNat 0)), (.i .i64 (.ofNat 1)), (.i .i64 (.ofNat 0)), (.i .i64 (.ofNat 0))]])], [(.lst 5 [[(.i .i64 (.ofNat 1)), (.i .i64 (.ofNat 0)), (.i .i64 (.ofNat 1)), (.i .i64 (.ofNat 0)), (.i .i64 (.ofNat 0))], [(.i .i64 (.ofNat 1)), (.i .i64 (.ofNat 0)), (.i .i64 (.ofNat 1)), (.i .i64 (.ofNat 0)), (.i .i64 (.ofNat 0))], [(.i .i64 (.ofNat 1)), (.i .i64 (.ofNat 0)), (.i .i64 (.ofNat 1)), (.i .i64 (.ofNat 0)), (.i .i64 (.ofNat 0))]])]]), (.i .i64 (.ofNat 0))])
def By : List D := [(.ag [(.i .i64 (.ofNat 1)), (.i .i64 (.ofNat 2)), (.i .i64 (.ofNat 3)), (.i .i64 (.ofNat 1)), (.lst 1 [[(.i .i64 (.ofNat 2))], [(.i .i64 (.ofNat 2))]]), (.lst 1 [[(.i .i64 (.ofNat 2))], [(.i .i64 (.ofNat 3))]]), (.lst 1 [[(.lst 1 [[(.i .i64 (.ofNat 3))]])], [(.lst 1 [[(.i .i64 (.ofNat 0))], [(.i .i64 (.ofNat 3))]])]]), (.lst 2 [[(.i .i64 (.ofNat 0)), (.i .i64 (.ofNat 0))]]), (.lst 2 [])]), (.lst 1 [[(.lst 1 [[(.i .i64 (.ofNat 2))], [(.i .i64 (.ofNat 2))]])], [(.lst 1 [[(.i .i64 (.ofNat 3))], [(.i .i64 (.ofNat 3))]])]])]
def Du : D := (.tp [(.i .i64 (.ofNat 6)), (.i .i64 (.ofNat 0))])
def Ct : List D := [(.ag [(.i .i64 (.ofNat 1)), (.i .i64 (.ofNat 2)), (.i .i64 (.ofNat 3)), (.i .i64 (.ofNat 1)), (.lst 1 [[(.i .i64 (.ofNat 2))], [(.i .i64 (.ofNat 2))]]), (.lst 1 [[(.i .i64 (.ofNat 2))], [(.i .i64 (.ofNat 3))]]), (.lst 1 [[(.lst 1 [[(.i .i64 (.ofNat 3))]])], [(.lst 1 [[(.i .i64 (.ofNat 0))], [(.i .i64 (.ofNat 3))]])]]), (.lst 2 [[(.i .i64 (.ofNat 0)), (.i .i64 (.ofNat 0))]]), (.lst 2 [])]), (.lst 1 [[(.lst 1 [[(.i .i64 (.ofNat 2))], [(.i .i64 (.ofNat 2))]])], [(.lst 1 [[(.i .i64 (.ofNat 3))], [(.i .i64 (.ofNat 3))]])]])]
def BY : D := (.tp [(.ag [(.i .i64 (.ofNat 2)), (.i .i64 (.ofNat 2))]), (.i .i64 (.ofNat 0))])
def CO : List D := [(.ag [(.i .i64 (.ofNat 1)), (.i .i64 (.ofNat 2)), (.i .i64 (.ofNat 3)), (.i .i64 (.ofNat 1)), (.lst 1 [[(.i .i64 (.ofNat 2))], [(.i .i64 (.ofNat 2))]]), (.lst 1 [[(.i .i64 (.ofNat 2))], [(.i .i64 (.ofNat 3))]]), (.lst 1 [[(.lst 1 [[(.i .i64 (.ofNat 3))]])], [(.lst 1 [[(.i .i64 (.ofNat 0))], [(.i .i64 (.ofNat 3))]])]]), (.lst 2 [[(.i .i64 (.ofNat 0)), (.i .i64 (.ofNat 0))]]), (.lst 2 [[(.i .i64 (.ofNat 1)), (.i .i64 (.ofNat 3))]])]), (.lst 1 [[(.lst 1 [[(.i .i64 (.ofNat 2))], [(.i .i64 (.ofNat 2))]])], [(.lst 1 [[(.i .i64 (.ofNat 2))], [(.i .i64 (.ofNat 2))]])]]), (.ag [(.i .i64 (.ofNat 1)), (.i .i64 (.ofNat 1))]), (.i .i64 (.ofNat 1))]
def CW : D := (.tp [(.i .i64 (.ofNat 2)), (.i .i64 (.ofNat 0))])
def CQ : List D := [(.ag [(.i .i64 (.ofNat 1)), (.i .i64 (.ofNat 2)), (.i .i64 (.ofNat 3)), (.i .i64 (.ofNat 1)), (.lst 1 [[(.i .i64 (.ofNat 2))], [(.i .i64 (.ofNat 2))]]), (.lst 1 [[(.i .i64 (.ofNat 2))], [(.i .i64 (.ofNat 3))]]), (.lst 1 [[(.lst 1 [[(.i .i64 (.ofNat 3))]])], [(.lst 1 [[(.i .i64 (.ofNat 0))], [(.i .i64 (.ofNat 3))]])]]), (.lst 2 [[(.i .i64 (.ofNat 0)), (.i .i64 (.ofNat 0))]]), (.lst 2 [])]), (.i .i64 (.ofNat 6))]
def DM : D := (.tp [(.lst 1 [[(.lst 1 [[(.i .i64 (.ofNat 2))], [(.i .i64 (.ofNat 2))]])], [(.lst 1 [[(.i .i64 (.ofNat 3))], [(.i .i64 (.ofNat 3))]])]]), (.i .i64 (.ofNat 2)), (.i .i64 (.ofNat 0))])
def BO : List D := [(.ag [(.i .i64 (.ofNat 1)), (.i .i64 (.ofNat 2)), (.i .i64 (.ofNat 3)), (.i .i64 (.ofNat 1)), (.lst 1 [[(.i .i64 (.ofNat 2))], [(.i .i64 (.ofNat 2))]]), (.lst 1 [[(.i .i64 (.ofNat 2))], [(.i .i64 (.ofNat 3))]]), (.lst 1 [[(.lst 1 [[(.i .i64 (.ofNat 3))]])], [(.lst 1 [[(.i .i64 (.ofNat 0))], [(.i .i64 (.ofNat 3))]])]]), (.lst 2 [[(.i .i64 (.ofNat 0)), (.i .i64 (.ofNat 0))]]), (.lst 2 [[(.i .i64 (.ofNat 1)), (.i .i64 (.ofNat 3))], [(.i .i64 (.ofNat 1)), (.i .i64 (.ofNat 0))]])])]
def Cb : D := (.tp [(.i .i64 (.ofNat 1)), (.i .i64 (.ofNat 0))])
def Dj : List D := [(.ag [(.i .i64 (.ofNat 1)), (.i .i64 (.ofNat 2)), (.i .i64 (.ofNat 3)), (.i .i64 (.ofNat 1)), (.lst 1 [[(.i .i64 (.ofNat 2))], [(.i .i64 (.ofNat 2))]]), (.lst 1 [[(.i .i64 (.ofNat 2))], [(.i .i64 (.ofNat 3))]]), (.lst 1 [[(.lst 1 [[(.i .i64 (.ofNat 3))]])], [(.lst 1 [[(.i .i64 (.ofNat 0))], [(.i .i64 (.ofNat 3))]])]]), (.lst 2 [[(.i .i64 (.ofNat 0)), (.i .i64 (.ofNat 0))]]), (.lst 2 [[(.i .i64 (.ofNat 1)), (.i .i64 (.ofNat 3))], [(.i .i64 (.ofNat 1)), (.i .i64 (.ofNat 0))]])])]
def BV : D := (.tp [(.lst 1 [[(.i .i64 (.ofNat 0))]]), (.i .i64 (.ofNat 0))])
def BZ : List D := [(.ag [(.i .i64 (.ofNat 1)), (.i .i64 (.ofNat 2)), (.i .i64 (.ofNat 3)), (.i .i64 (.ofNat 1)), (.lst 1 [[(.i .i64 (.ofNat 2))], [(.i .i64 (.ofNat 2))]]), (.lst 1 [[(.i .i64 (.ofNat 2))], [(.i .i64 (.ofNat 3))]]), (.lst 1 [[(.lst 1 [[(.i .i64 (.ofNat 3))]])], [(.lst 1 [[(.i .i64 (.ofNat 0))], [(.i .i64 (.ofNat 3))]])]]), (.lst 2 [[(.i .i64 (.ofNat 0)), (.i .i64 (.ofNat 0))]]), (.lst 2 [])]), (.lst 1 [[(.lst 1 [[(.i .i64 (.ofNat 2))], [(.i .i64 (.ofNat 2))]])], [(.lst 1 [[(.i .i64 (.ofNat 3))], [(.i .i64 (.ofNat 3))]])]]), (.i .i64 (.ofNat 6)), (.i .i64 (.ofNat 2))]
def BK : D := (.b true)
def La : List (List D × D) := [(BN, CU)]
def IK : List (List D × D) := [(BG, DD)]
def Hz : List (List D × D) := [(By, Du)]
def HI : List (List D × D) := [(Ct, BY)]
def HE : List (List D × D) := [(CO, CW)]
def IZ : List (List D × D) := [(CQ, DM)]
def JJ : List (List D × D) := [(BO, Cb)]
def Jo : List (List D × D) := [(Dj, BV)]
def IR : List (List D × D) := [(BZ, BK)]
def Ip : Pos := (.i (.i (.i (.o .h))))
def Km : Pos := (.o (.o (.i (.o (.o .h)))))
def Lo : Pos := (.i (.i (.o (.o (.o .h)))))
def HN : Pos := (.i (.i (.o (.i (.o .h)))))
def Ix : Pos := (.i (.o (.o (.i (.o .h)))))
def Kb : Pos := (.o (.i (.o (.o (.i .h)))))
def If : Pos := (.i (.o (.i (.o (.i .h)))))
def Kx : Pos := (.o (.i (.i (.o (.i .h)))))
def JZ : Pos := (.i (.i (.o (.o (.i .h)))))
end Go.Ev
end
