import Derived.Test.YtlopmelahdidkaaEvS10T
set_option linter.all false
namespace Go.Ev
open Go.Proofs
def ma48_0 : List D := [(.ag [(.i .i64 (.ofNat 3)), (.lst 2 [[(.i .i64 (.ofNat 2)), (.i .i64 (.ofNat 4))], [(.i .i64 (.ofNat 5)), (.i .i64 (.ofNat 6))], [(.i .i64 (.ofNat 8)), (.i .i64 (.ofNat 9))], [(.i .i64 (.ofNat 4)), (.i .i64 (.ofNat 5))]]), (.i .i64 (.ofNat 4)), (.lst 1 [[(.i .i64 (.ofNat 4))], [(.i .i64 (.ofNat 5))], [(.i .i64 (.ofNat 6))], [(.i .i64 (.ofNat 9))], [(.i .i64 (.ofNat 9))]]), .ns])]
def mr48_0 : D := (.tp [(.lst 2 [[(.i .i64 (.ofNat 2)), (.i .i64 (.ofNat 4))], [(.i .i64 (.ofNat 5)), (.i .i64 (.ofNat 6))], [(.i .i64 (.ofNat 8)), (.i .i64 (.ofNat 9))], [(.i .i64 (.ofNat 4)), (.i .i64 (.ofNat 5))]]), (.i .i64 (.ofNat 0))])
def ma48_1 : List D := [(.ag [(.i .i64 (.ofNat 3)), (.lst 2 [[(.i .i64 (.ofNat 2)), (.i .i64 (.ofNat 4))], [(.i .i64 (.ofNat 5)), (.i .i64 (.ofNat 6))], [(.i .i64 (.ofNat 8)), (.i .i64 (.ofNat 9))], [(.i .i64 (.ofNat 4)), (.i .i64 (.ofNat 5))]]), (.i .i64 (.ofNat 0)), (.lst 1 [[(.i .i64 (.ofNat 4))], [(.i .i64 (.ofNat 5))], [(.i .i64 (.ofNat 6))], [(.i .i64 (.ofNat 9))], [(.i .i64 (.ofNat 9))]]), .ns])]
def mr48_1 : D := (.tp [.ns, (.i .i64 (.ofNat 9))])
def ma48_2 : List D := [(.ag [(.i .i64 (.ofNat 3)), (.lst 2 [[(.i .i64 (.ofNat 2)), (.i .i64 (.ofNat 4))], [(.i .i64 (.ofNat 5)), (.i .i64 (.ofNat 6))], [(.i .i64 (.ofNat 8)), (.i .i64 (.ofNat 9))], [(.i .i64 (.ofNat 4)), (.i .i64 (.ofNat 5))]]), (.i .i64 (.ofNat 4)), (.lst 1 [[(.i .i64 (.ofNat 4))], [(.i .i64 (.ofNat 5))], [(.i .i64 (.ofNat 6))], [(.i .i64 (.ofNat 9))], [(.i .i64 (.ofNat 9))]]), (.lst 4 [[(.i .i64 (.ofNat 0)), (.i .i64 (.ofNat 0)), (.i .i64 (.ofNat 9)), (.i .i64 (.ofNat 9))]])])]
def mr48_2 : D := (.tp [.ns, (.i .i64 (.ofNat 11))])
def ma48_3 : List D := [(.ag [(.i .i64 (.ofNat 0)), .ns, (.i .i64 (.ofNat 0)), .ns, .ns])]
def mr48_3 : D := (.tp [.ns, (.i .i64 (.ofNat 1))])
def ml48 : List (List D × D) := [(ma48_0, mr48_0), (ma48_1, mr48_1), (ma48_2, mr48_2), (ma48_3, mr48_3)]
def pf48 : Pos := (.i (.o (.o (.o (.i .h)))))
end Go.Ev
