import Derived.Test.YtkbgaadfednjpaaGreatDoorEvUS4T
set_option linter.all false
set_option maxHeartbeats 8000000
noncomputable section
namespace Go.Ev
open Go.Proofs
def Bg : List D := [(.ag [(.i .i64 (.ofNat 1)), (.i .i64 (.ofNat 2)), (.i .i64 (.ofNat 3)), (.i .i64 (.ofNat 1)), (.lst 1 [[(.i .i64 (.ofNat 2))], [(.i .i64 (.ofNat 2))]]), (.lst 1 [[(.i .i64 (.ofNat 2))], [(.i .i64 (.ofNat 3))]]), (.lst 1 [[(.lst 1 [[(.i .i64 (.ofNat 3))]])], [(.lst 1 [[(.i .i64 (.ofNat 0))], [(.i .i64 (.ofNat 3))]])]]), (.lst 2 [[(.i .i64 (.ofNat 0)), (.i .i64 (.ofNat 0))]]), (.lst 2 [])]), (.lst 1 [[(.lst 1 [[(.i .i64 (.ofNat 2))], [(.i .i64 (.ofNat 2))]])], [(.lst 1 [[(.i .i64 (.ofNat 2))], [(.i .i64 (.ofNat 2))]])]]), (.lst 1 [[(.i .i64 (.ofNat 3))], [(.i .i64 (.ofNat 0))]])]
def Cg : D := (.tp [(.lst 1 [[(.lst 3 [[(.i .i64 (.ofNat 1)), (.i .i64 (.ofNat 1)), (.i .i64 (.ofNat 0))], [(.i .i64 (.ofNat 1)), (.i .i64 (.ofNat 2)), (.i .i64 (.ofNat 1))], [(.i .i64 (.ofNat 1)), (.i .i64 (.ofNat 1)), (.i .i64 (.ofNat 0))]])], [(.lst 3 [[(.i .i64 (.ofNat 1)), (.i .i64 (.ofNat 1)), (.i .i64 (.ofNat 0))], [(.i .i64 (.ofNat 1)), (.i .i64 (.ofNat 1)), (.i .i64 (.ofNat 0))], [(.i .i64 (.ofNat 1)), (.i .i64 (.ofNat 1)), (.i .i64 (.ofNat 0))]])]]), (.i .i64 (.ofNat 0))])
def Ba : List D := [(.ag [(.i .i64 (.ofNat 1)), (.i .i64 (.ofNat 2)), (.i .i64 (.ofNat 3)), (.i .i64 (.ofNat 1)), (.lst 1 [[(.i .i64 (.ofNat 2))], [(.i .i64 (.ofNat 2))]]), (.lst 1 [[(.i .i64 (.ofNat 2))], [(.i .i64 (.ofNat 3))]]), (.lst 1 [[(.lst 1 [[(.i .i64 (.ofNat 3))]])], [(.lst 1 [[(.i .i64 (.ofNat 0))], [(.i .i64 (.ofNat 3))]])]]), (.lst 2 [[(.i .i64 (.ofNat 0)), (.i .i64 (.ofNat 0))]]), (.lst 2 [])]), (.lst 1 [[(.lst 1 [[(.i .i64 (.ofNat 2))], [(.i .i64 (.ofNat 2))]])], [(.lst 1 [[(.i .i64 (.ofNat 2))], [(.i .i64 (.ofNat 2))]])]])]
def CO : D := (.tp [(.lst 1 [[(.lst 5 [[(.i .i64 (.ofNat 1)), (.i .i64 (.ofNat 0)), (.i .i64 (.ofNat 1)), (.i .i64 (.ofNat 0)), (.i .i64 (.ofNat 0))], [(.i .i64 (.ofNat 1)), (.i .i64 (.ofNat 2)), (.i .i64 (.ofNat 2)), (.i .i64 (.ofNat 1)), (.i .i64 (.ofNat 1))], [(.i .i64 (.ofNat 1)), (.i .i64 (.ofNat 0)), (.i .i64 (.ofNat 1)), (.i .i64 (.ofNat 0)), (.i .i64 (.ofNat 0))]])], [(.lst 5 [[(.i .i64 (.ofNat 1)), (.i .i64 (.ofNat 0)), (.i .i64 (.ofNat 1)), (.i .i64 (.ofNat 0)), (.i .i64 (.ofNat 0))], [(.i .i64 (.ofNat 1)), (.i .i64 (.ofNat 0)), (.i .i64 (.ofNat 1)), (.i .i64 (.ofNat 0)), (.i .i64 (.ofNat 0))], [(.i .i64 (.ofNat 1)), (.i .i64 (.ofNat 0)), (.i .i64 (.ofNat 1)), (.i .i64 (.ofNat 0)), (.i .i64 (.ofNat 0))]])]]), (.i .i64 (.ofNat 0))])
def AS : List D := [(.ag [(.i .i64 (.ofNat 1)), (.i .i64 (.ofNat 2)), (.i .i64 (.ofNat 3)), (.i .i64 (.ofNat 1)), (.lst 1 [[(.i .i64 (.ofNat 2))], [(.i .i64 (.ofNat 2))]]), (.lst 1 [[(.i .i64 (.ofNat 2))], [(.i .i64 (.ofNat 3))]]), (.lst 1 [[(.lst 1 [[(.i .i64 (.ofNat 3))]])], [(.lst 1 [[(.i .i64 (.ofNat 0))], [(.i .i64 (.ofNat 3))]])]]), (.lst 2 [[(.i .i64 (.ofNat 0)), (.i .i64 (.ofNat 0))]]), (.lst 2 [])]), (.lst 1 [[(.lst 1 [[(.i .i64 (.ofNat 2))], [(.i .i64 (.ofNat 2))]])], [(.lst 1 [[(.i .i64 (.ofNat 3))], [(.i .i64 (.ofNat 3))]])]])]
def CE : D := (.tp [(.i .i64 (.ofNat 6)), (.i .i64 (.ofNat 0))])
def BK : List D := [(.ag [(.i .i64 (.ofNat 1)), (.i .i64 (.ofNat 2)), (.i .i64 (.ofNat 3)), (.i .i64 (.ofNat 1)), (.lst 1 [[(.i .i64 (.ofNat 2))], [(.i .i64 (.ofNat 2))]]), (.lst 1 [[(.i .i64 (.ofNat 2))], [(.i .i64 (.ofNat 3))]]), (.lst 1 [[(.lst 1 [[(.i .i64 (.ofNat 3))]])], [(.lst 1 [[(.i .i64 (.ofNat 0))], [(.i .i64 (.ofNat 3))]])]]), (.lst 2 [[(.i .i64 (.ofNat 0)), (.i .i64 (.ofNat 0))]]), (.lst 2 [])]), (.lst 1 [[(.lst 1 [[(.i .i64 (.ofNat 2))], [(.i .i64 (.ofNat 2))]])], [(.lst 1 [[(.i .i64 (.ofNat 3))], [(.i .i64 (.ofNat 3))]])]])]
def Bu : D := (.tp [(.ag [(.i .i64 (.ofNat 2)), (.i .i64 (.ofNat 2))]), (.i .i64 (.ofNat 0))])
def BY : List D := [(.ag [(.i .i64 (.ofNat 1)), (.i .i64 (.ofNat 2)), (.i .i64 (.ofNat 3)), (.i .i64 (.ofNat 1)), (.lst 1 [[(.i .i64 (.ofNat 2))], [(.i .i64 (.ofNat 2))]]), (.lst 1 [[(.i .i64 (.ofNat 2))], [(.i .i64 (.ofNat 3))]]), (.lst 1 [[(.lst 1 [[(.i .i64 (.ofNat 3))]])], [(.lst 1 [[(.i .i64 (.ofNat 0))], [(.i .i64 (.ofNat 3))]])]]), (.lst 2 [[(.i .i64 (.ofNat 0)), (.i .i64 (.ofNat 0))]]), (.lst 2 [[(.i .i64 (.ofNat 1)), (.i .i64 (.ofNat 3))]])]), (.lst 1 [[(.lst 1 [[(.i .i64 (.ofNat 2))], [(.i .i64 (.ofNat 2))]])], [(.lst 1 [[(.i .i64 (.ofNat 2))], [(.i .i64 (.ofNat 2))]])]]), (.ag [(.i .i64 (.ofNat 1)), (.i .i64 (.ofNat 1))]), (.i .i64 (.ofNat 1))]
def Ch : D := (.tp [(.i .i64 (.ofNat 2)), (.i .i64 (.ofNat 0))])
def Cb : List D := [(.ag [(.i .i64 (.ofNat 1)), (.i .i64 (.ofNat 2)), (.i .i64 (.ofNat 3)), (.i .i64 (.ofNat 1)), (.lst 1 [[(.i .i64 (.ofNat 2))], [(.i .i64 (.ofNat 2))]]), (.lst 1 [[(.i .i64 (.ofNat 2))], [(.i .i64 (.ofNat 3))]]), (.lst 1 [[(.lst 1 [[(.i .i64 (.ofNat 3))]])], [(.lst 1 [[(.i .i64 (.ofNat 0))], [(.i .i64 (.ofNat 3))]])]]), (.lst 2 [[(.i .i64 (.ofNat 0)), (.i .i64 (.ofNat 0))]]), (.lst 2 [])]), (.i .i64 (.ofNat 6))]
def CV : D := (.tp [(.lst 1 [[(.lst 1 [[(.i .i64 (.ofNat 2))], [(.i .i64 (.ofNat 2))]])], [(.lst 1 [[(.i .i64 (.ofNat 3))], [(.i .i64 (.ofNat 3))]])]]), (.i .i64 (.ofNat 2)), (.i .i64 (.ofNat 0))])
def Bi : List D := [(.ag [(.i .i64 (.ofNat 1)), (.i .i64 (.ofNat 2)), (.i .i64 (.ofNat 3)), (.i .i64 (.ofNat 1)), (.lst 1 [[(.i .i64 (.ofNat 2))], [(.i .i64 (.ofNat 2))]]), (.lst 1 [[(.i .i64 (.ofNat 2))], [(.i .i64 (.ofNat 3))]]), (.lst 1 [[(.lst 1 [[(.i .i64 (.ofNat 3))]])], [(.lst 1 [[(.i .i64 (.ofNat 0))], [(.i .i64 (.ofNat 3))]])]]), (.lst 2 [[(.i .i64 (.ofNat 0)), (.i .i64 (.ofNat 0))]]), (.lst 2 [[(.i .i64 (.ofNat 1)), (.i .i64 (.ofNat 3))], [(.i .i64 (.ofNat 1)), (.i .i64 (.ofNat 0))]])])]
def Bw : D := (.tp [(.i .i64 (.ofNat 1)), (.i .i64 (.ofNat 0))])
def Cs : List D := [(.ag [(.i .i64 (.ofNat 1)), (.i .i64 (.ofNat 2)), (.i .i64 (.ofNat 3)), (.i .i64 (.ofNat 1)), (.lst 1 [[(.i .i64 (.ofNat 2))], [(.i .i64 (.ofNat 2))]]), (.lst 1 [[(.i .i64 (.ofNat 2))], [(.i .i64 (.ofNat 3))]]), (.lst 1 [[(.lst 1 [[(.i .i64 (.ofNat 3))]])], [(.lst 1 [[(.i .i64 (.ofNat 0))], [(.i .i64 (.ofNat 3))]])]]), (.lst 2 [[(.i .i64 (.ofNat 0)), (.i .i64 (.ofNat 0))]]), (.lst 2 [[(.i .i64 (.ofNat 1)), (.i .i64 (.ofNat 3))], [(.i .i64 (.ofNat 1)), (.i .i64 (.ofNat 0))]])])]
def Bp : D := (.tp [(.lst 1 [[(.i .i64 (.ofNat 0))]]), (.i .i64 (.ofNat 0))])
def Bv : List D := [(.ag [(.i .i64 (.ofNat 1)), (.i .i64 (.ofNat 2)), (.i .i64 (.ofNat 3)), (.i .i64 (.ofNat 1)), (.lst 1 [[(.i .i64 (.ofNat 2))], [(.i .i64 (.ofNat 2))]]), (.lst 1 [[(.i .i64 (.ofNat 2))], [(.i .i64 (.ofNat 3))]]), (.lst 1 [[(.lst 1 [[(.i .i64 (.ofNat 3))]])], [(.lst 1 [[(.i .i64 (.ofNat 0))], [(.i .i64 (.ofNat 3))]])]]), (.lst 2 [[(.i .i64 (.ofNat 0)), (.i .i64 (.ofNat 0))]]), (.lst 2 [])]), (.lst 1 [[(.lst 1 [[(.i .i64 (.ofNat 2))], [(.i .i64 (.ofNat 2))]])], [(.lst 1 [[(.i .i64 (.ofNat 3))], [(.i .i64 (.ofNat 3))]])]]), (.i .i64 (.ofNat 6)), (.i .i64 (.ofNat 2))]
def Bc : D := (.b true)
def Je : List (List D × D) := [(Bg, Cg)]
def Hh : List (List D × D) := [(Ba, CO)]
def Gb : List (List D × D) := [(AS, CE)]
def Gf : List (List D × D) := [(BK, Bu)]
def Gd : List (List D × D) := [(BY, Ch)]
def Hw : List (List D × D) := [(Cb, CV)]
def HY : List (List D × D) := [(Bi, Bw)]
def HH : List (List D × D) := [(Cs, Bp)]
def Ho : List (List D × D) := [(Bv, Bc)]
def GN : Pos := (.i (.i (.i (.o .h))))
def Iw : Pos := (.o (.o (.i (.o (.o .h)))))
def Jp : Pos := (.i (.i (.o (.o (.o .h)))))
def Gn : Pos := (.i (.i (.o (.i (.o .h)))))
def GY : Pos := (.i (.o (.o (.i (.o .h)))))
def Io : Pos := (.o (.i (.o (.o (.i .h)))))
def GE : Pos := (.i (.o (.i (.o (.i .h)))))
def IE : Pos := (.o (.i (.i (.o (.i .h)))))
def Il : Pos := (.i (.i (.o (.o (.i .h)))))
end Go.Ev
end
