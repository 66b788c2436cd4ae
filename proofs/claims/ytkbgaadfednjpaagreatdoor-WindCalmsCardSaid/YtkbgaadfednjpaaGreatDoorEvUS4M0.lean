import Derived.Test.YtkbgaadfednjpaaGreatDoorEvUS4T
set_option linter.all false
set_option maxHeartbeats 8000000
noncomputable section
namespace Go.Ev
open Go.Proofs
def DM : List D := [(.ag [(.i .i64 (.ofNat 1)), (.i .i64 (.ofNat 2)), (.i .i64 (.ofNat 3)), (.i .i64 (.ofNat 1)), (.lst 1 [[(.i .i64 (.ofNat 2))], [(.i .i64 (.ofNat 2))]]), (.lst 1 [[(.i .i64 (.ofNat 2))], [(.i .i64 (.ofNat 3))]]), (.lst 1 [[(.lst 1 [[(.i .i64 (.ofNat 3))]])], [(.lst 1 [[(.i .i64 (.ofNat 0))], [(.i .i64 (.ofNat 3))]])]]), (.lst 2 [[(.i .i64 (.ofNat 0)), (.i .i64 (.ofNat 0))]]), (.lst 2 [])]), (.lst 1 [[(.lst 1 [[(.i .i64 (.ofNat 2))], [(.i .i64 (.ofNat 2))]])], [(.lst 1 [[(.i .i64 (.ofNat 2))], [(.i .i64 (.ofNat 2))]])]]), (.lst 1 [[(.i .i64 (.ofNat 3))], [(.i .i64 (.ofNat 0))]])]
def Fb : D := (.tp [(.lst 1 [[(.lst 3 [[(.i .i64 (.ofNat 1)), (.i .i64 (.ofNat 1)), (.i .i64 (.ofNat 0))], [(.i .i64 (.ofNat 1)), (.i .i64 (.ofNat 2)), (.i .i64 (.ofNat 1))], [(.i .i64 (.ofNat 1)), (.i .i64 (.ofNat 1)), (.i .i64 (.ofNat 0))]])], [(.lst 3 [[(.i .i64 (.ofNat 1)), (.i .i64 (.ofNat 1)), (.i .i64 (.ofNat 0))], [(.i .i64 (.ofNat 1)), (.i .i64 (.ofNat 1)), (.i .i64 (.ofNat 0))], [(.i .i64 (.ofNat 1)), (.i .i64 (.ofNat 1)), (.i .i64 (.ofNat 0))]])]]), (.i .i64 (.ofNat 0))])
def DG : List D := [(.ag [(.i .i64 (.ofNat 1)), (.i .i64 (.ofNat 2)), (.i .i64 (.ofNat 3)), (.i .i64 (.ofNat 1)), (.lst 1 [[(.i .i64 (.ofNat 2))], [(.i .i64 (.ofNat 2))]]), (.lst 1 [[(.i .i64 (.ofNat 2))], [(.i .i64 (.ofNat 3))]]), (.lst 1 [[(.lst 1 [[(.i .i64 (.ofNat 3))]])], [(.lst 1 [[(.i .i64 (.ofNat 0))], [(.i .i64 (.ofNat 3))]])]]), (.lst 2 [[(.i .i64 (.ofNat 0)), (.i .i64 (.ofNat 0))]]), (.lst 2 [])]), (.lst 1 [[(.lst 1 [[(.i .i64 (.ofNat 2))], [(.i .i64 (.ofNat 2))]])], [(.lst 1 [[(.i .i64 (.ofNat 2))], [(.i .i64 (.ofNat 2))]])]])]
def FU : D := (.tp [(.lst 1 [[(.lst 5 [[(.i .i64 (.ofNat 1)), (.i .i64 (.ofNat 0)), (.i .i64 (.ofNat 1)), (.i .i64 (.ofNat 0)), (.i .i64 (.ofNat 0))], [(.i .i64 (.ofNat 1)), (.i .i64 (.ofNat 2)), (.i .i64 (.ofNat 2)), (.i .i64 (.ofNat 1)), (.i .i64 (.ofNat 1))], [(.i .i64 (.ofNat 1)), (.i .i64 (.ofNat 0)), (.i .i64 (.ofNat 1)), (.i .i64 (.ofNat 0)), (.i .i64 (.ofNat 0))]])], [(.lst 5 [[(.i .i64 (.ofNat 1)), (.i .i64 (.ofNat 0)), (.i .i64 (.ofNat 1)), (.i .i64 (.ofNat 0)), (.i .i64 (.ofNat 0))], [(.i .i64 (.ofNat 1)), (.i .i64 (.ofNat 0)), (.i .i64 (.ofNat 1)), (.i .i64 (.ofNat 0)), (.i .i64 (.ofNat 0))], [(.i .i64 (.ofNat 1)), (.i .i64 (.ofNat 0)), (.i .i64 (.ofNat 1)), (.i .i64 (.ofNat 0)), (.i .i64 (.ofNat 0))]])]]), (.i .i64 (.ofNat 0))])
def Dw : List D := [(.ag [(.i .i64 (.ofNat 1)), (.i .i64 (.ofNat 2)), (.i .i64 (.ofNat 3)), (.i .i64 (.ofNat 1)), (.lst 1 [[(.i .i64 (.ofNat 2))], [(.i .i64 (.ofNat 2))]]), (.lst 1 [[(.i .i64 (.ofNat 2))], [(.i .i64 (.ofNat 3))]]), (.lst 1 [[(.lst 1 [[(.i .i64 (.ofNat 3))]])], [(.lst 1 [[(.i .i64 (.ofNat 0))], [(.i .i64 (.ofNat 3))]])]]), (.lst 2 [[(.i .i64 (.ofNat 0)), (.i .i64 (.ofNat 0))]]), (.lst 2 [])]), (.lst 1 [[(.lst 1 [[(.i .i64 (.ofNat 2))], [(.i .i64 (.ofNat 2))]])], [(.lst 1 [[(.i .i64 (.ofNat 3))], [(.i .i64 (.ofNat 3))]])]])]
def FI : D := (.tp [(.i .i64 (.ofNat 6)), (.i .i64 (.ofNat 0))])
def Ew : List D := [(.ag [(.i .i64 (.ofNat 1)), (.i .i64 (.ofNat 2)), (.i .i64 (.ofNat 3)), (.i .i64 (.ofNat 1)), (.lst 1 [[(.i .i64 (.ofNat 2))], [(.i .i64 (.ofNat 2))]]), (.lst 1 [[(.i .i64 (.ofNat 2))], [(.i .i64 (.ofNat 3))]]), (.lst 1 [[(.lst 1 [[(.i .i64 (.ofNat 3))]])], [(.lst 1 [[(.i .i64 (.ofNat 0))], [(.i .i64 (.ofNat 3))]])]]), (.lst 2 [[(.i .i64 (.ofNat 0)), (.i .i64 (.ofNat 0))]]), (.lst 2 [])]), (.lst 1 [[(.lst 1 [[(.i .i64 (.ofNat 2))], [(.i .i64 (.ofNat 2))]])], [(.lst 1 [[(.i .i64 (.ofNat 3))], [(.i .i64 (.ofNat 3))]])]])]
def Eb : D := (.tp [(.ag [(.i .i64 (.ofNat 2)), (.i .i64 (.ofNat 2))]), (.i .i64 (.ofNat 0))])
def EU : List D := [(.ag [(.i .i64 (.ofNat 1)), (.i .i64 (.ofNat 2)), (.i .i64 (.ofNat 3)), (.i .i64 (.ofNat 1)), (.lst 1 [[(.i .i64 (.ofNat 2))], [(.i .i64 (.ofNat 2))]]), (.lst 1 [[(.i .i64 (.ofNat 2))], [(.i .i64 (.ofNat 3))]]), (.lst 1 [[(.lst 1 [[(.i .i64 (.ofNat 3))]])], [(.lst 1 [[(.i .i64 (.ofNat 0))], [(.i .i64 (.ofNat 3))]])]]), (.lst 2 [[(.i .i64 (.ofNat 0)), (.i .i64 (.ofNat 0))]]), (.lst 2 [[(.i .i64 (.ofNat 1)), (.i .i64 (.ofNat 3))]])]), (.lst 1 [[(.lst 1 [[(.i .i64 (.ofNat 2))], [(.i .i64 (.ofNat 2))]])], [(.lst 1 [[(.i .i64 (.ofNat 2))], [(.i .i64 (.ofNat 2))]])]]), (.ag [(.i .i64 (.ofNat 1)), (.i .i64 (.ofNat 1))]), (.i .i64 (.ofNat 1))]
def Fe : D := (.tp [(.i .i64 (.ofNat 2)), (.i .i64 (.ofNat 0))])
def EW : List D := [(.ag [(.i .i64 (.ofNat 1)), (.i .i64 (.ofNat 2)), (.i .i64 (.ofNat 3)), (.i .i64 (.ofNat 1)), (.lst 1 [[(.i .i64 (.ofNat 2))], [(.i .i64 (.ofNat 2))]]), (.lst 1 [[(.i .i64 (.ofNat 2))], [(.i .i64 (.ofNat 3))]]), (.lst 1 [[(.lst 1 [[(.i .i64 (.ofNat 3))]])], [(.lst 1 [[(.i .i64 (.ofNat 0))], [(.i .i64 (.ofNat 3))]])]]), (.lst 2 [[(.i .i64 (.ofNat 0)), (.i .i64 (.ofNat 0))]]), (.lst 2 [])]), (.i .i64 (.ofNat 6))]
def Gc : D := (.tp [(.lst 1 [[(.lst 1 [[(.i .i64 (.ofNat 2))], [(.i .i64 (.ofNat 2))]])], [(.lst 1 [[(.i .i64 (.ofNat 3))], [(.i .i64 (.ofNat 3))]])]]), (.i .i64 (.ofNat 2)), (.i .i64 (.ofNat 0))])
def DN : List D := [(.ag [(.i .i64 (.ofNat 1)), (.i .i64 (.ofNat 2)), (.i .i64 (.ofNat 3)), (.i .i64 (.ofNat 1)), (.lst 1 [[(.i .i64 (.ofNat 2))], [(.i .i64 (.ofNat 2))]]), (.lst 1 [[(.i .i64 (.ofNat 2))], [(.i .i64 (.ofNat 3))]]), (.lst 1 [[(.lst 1 [[(.i .i64 (.ofNat 3))]])], [(.lst 1 [[(.i .i64 (.ofNat 0))], [(.i .i64 (.ofNat 3))]])]]), (.lst 2 [[(.i .i64 (.ofNat 0)), (.i .i64 (.ofNat 0))]]), (.lst 2 [[(.i .i64 (.ofNat 1)), (.i .i64 (.ofNat 3))], [(.i .i64 (.ofNat 1)), (.i .i64 (.ofNat 0))]])])]
def Ee : D := (.tp [(.i .i64 (.ofNat 1)), (.i .i64 (.ofNat 0))])
def Ft : List D := [(.ag [(.i .i64 (.ofNat 1)), (.i .i64 (.ofNat 2)), (.i .i64 (.ofNat 3)), (.i .i64 (.ofNat 1)), (.lst 1 [[(.i .i64 (.ofNat 2))], [(.i .i64 (.ofNat 2))]]), (.lst 1 [[(.i .i64 (.ofNat 2))], [(.i .i64 (.ofNat 3))]]), (.lst 1 [[(.lst 1 [[(.i .i64 (.ofNat 3))]])], [(.lst 1 [[(.i .i64 (.ofNat 0))], [(.i .i64 (.ofNat 3))]])]]), (.lst 2 [[(.i .i64 (.ofNat 0)), (.i .i64 (.ofNat 0))]]), (.lst 2 [[(.i .i64 (.ofNat 1)), (.i .i64 (.ofNat 3))], [(.i .i64 (.ofNat 1)), (.i .i64 (.ofNat 0))]])])]
def DX : D := (.tp [(.lst 1 [[(.i .i64 (.ofNat 0))]]), (.i .i64 (.ofNat 0))])
def Ec : List D := [(.ag [(.i .i64 (.ofNat 1)), (.i .i64 (.ofNat 2)), (.i .i64 (.ofNat 3)), (.i .i64 (.ofNat 1)), (.lst 1 [[(.i .i64 (.ofNat 2))], [(.i .i64 (.ofNat 2))]]), (.lst 1 [[(.i .i64 (.ofNat 2))], [(.i .i64 (.ofNat 3))]]), (.lst 1 [[(.lst 1 [[(.i .i64 (.ofNat 3))]])], [(.lst 1 [[(.i .i64 (.ofNat 0))], [(.i .i64 (.ofNat 3))]])]]), (.lst 2 [[(.i .i64 (.ofNat 0)), (.i .i64 (.ofNat 0))]]), (.lst 2 [])]), (.lst 1 [[(.lst 1 [[(.i .i64 (.ofNat 2))], [(.i .i64 (.ofNat 2))]])], [(.lst 1 [[(.i .i64 (.ofNat 3))], [(.i .i64 (.ofNat 3))]])]]), (.i .i64 (.ofNat 6)), (.i .i64 (.ofNat 2))]
def DI : D := (.b true)
def MZ : List (List D × D) := [(DM, Fb)]
def KC : List (List D × D) := [(DG, FU)]
def Jq : List (List D × D) := [(Dw, FI)]
def Jz : List (List D × D) := [(Ew, Eb)]
def Jv : List (List D × D) := [(EU, Fe)]
def KP : List (List D × D) := [(EW, Gc)]
def LE : List (List D × D) := [(DN, Ee)]
def Lf : List (List D × D) := [(Ft, DX)]
def KI : List (List D × D) := [(Ec, DI)]
def Kh : Pos := (.i (.i (.i (.o .h))))
def Mk : Pos := (.o (.o (.i (.o (.o .h)))))
def Nl : Pos := (.i (.i (.o (.o (.o .h)))))
def JG : Pos := (.i (.i (.o (.i (.o .h)))))
def Kq : Pos := (.i (.o (.o (.i (.o .h)))))
def Ma : Pos := (.o (.i (.o (.o (.i .h)))))
def JY : Pos := (.i (.o (.i (.o (.i .h)))))
def Ms : Pos := (.o (.i (.i (.o (.i .h)))))
def LY : Pos := (.i (.i (.o (.o (.i .h)))))
end Go.Ev
end
