import Derived.Test.YtcgjkifhckdjnaaGreatEvS9T
set_option linter.all false
namespace Go.Ev
open Go.Proofs
def ma34_0 : List D := [(.ag [(.i .i64 (.ofNat 3)), (.i .i64 (.ofNat 5)), (.i .i64 (.ofNat 20)), (.lst 3 [[(.i .i64 (.ofNat 1)), (.i .i64 (.ofNat 0)), (.i .i64 (.ofNat 1))], [(.i .i64 (.ofNat 1)), (.i .i64 (.ofNat 1)), (.i .i64 (.negSucc 0))], [(.i .i64 (.ofNat 2)), (.i .i64 (.negSucc 0)), (.i .i64 (.ofNat 1))]]), .ns])]
def mr34_0 : D := (.tp [(.ag [(.i .i64 (.ofNat 0)), (.i .i64 (.ofNat 1))]), (.i .i64 (.ofNat 0))])
def ma34_1 : List D := [(.ag [(.i .i64 (.ofNat 1)), (.i .i64 (.ofNat 1)), (.i .i64 (.ofNat 0)), .ns, .ns])]
def mr34_1 : D := (.tp [(.ag [(.i .i64 (.ofNat 0)), (.i .i64 (.ofNat 0))]), (.i .i64 (.ofNat 0))])
def ma34_2 : List D := [(.ag [(.i .i64 (.ofNat 3)), (.i .i64 (.ofNat 5)), (.i .i64 (.ofNat 20)), (.lst 3 [[(.i .i64 (.ofNat 1)), (.i .i64 (.ofNat 0)), (.i .i64 (.ofNat 1))], [(.i .i64 (.ofNat 1)), (.i .i64 (.ofNat 1)), (.i .i64 (.negSucc 0))], [(.i .i64 (.ofNat 2)), (.i .i64 (.ofNat 2)), (.i .i64 (.ofNat 1))]]), .ns])]
def mr34_2 : D := (.tp [(.ag [(.i .i64 (.ofNat 0)), (.i .i64 (.ofNat 0))]), (.i .i64 (.ofNat 11))])
def ma34_3 : List D := [(.ag [(.i .i64 (.ofNat 5)), (.i .i64 (.ofNat 5)), (.i .i64 (.ofNat 20)), (.lst 3 [[(.i .i64 (.ofNat 1)), (.i .i64 (.ofNat 0)), (.i .i64 (.ofNat 1))], [(.i .i64 (.ofNat 1)), (.i .i64 (.ofNat 1)), (.i .i64 (.negSucc 0))], [(.i .i64 (.ofNat 2)), (.i .i64 (.negSucc 0)), (.i .i64 (.ofNat 1))]]), .ns])]
def mr34_3 : D := (.tp [(.ag [(.i .i64 (.ofNat 0)), (.i .i64 (.ofNat 0))]), (.i .i64 (.ofNat 1))])
def ma34_4 : List D := [(.ag [(.i .i64 (.ofNat 0)), (.i .i64 (.ofNat 0)), (.i .i64 (.ofNat 0)), .ns, .ns])]
def mr34_4 : D := (.tp [(.ag [(.i .i64 (.ofNat 0)), (.i .i64 (.ofNat 0))]), (.i .i64 (.ofNat 1))])
def ma116_0 : List D := [(.ag [(.i .i64 (.ofNat 3)), (.i .i64 (.ofNat 5)), (.i .i64 (.ofNat 20)), (.lst 3 [[(.i .i64 (.ofNat 1)), (.i .i64 (.ofNat 0)), (.i .i64 (.ofNat 1))], [(.i .i64 (.ofNat 1)), (.i .i64 (.ofNat 1)), (.i .i64 (.negSucc 0))], [(.i .i64 (.ofNat 2)), (.i .i64 (.negSucc 0)), (.i .i64 (.ofNat 1))]]), .ns]), (.i .i64 (.ofNat 0))]
def mr116_0 : D := (.tp [(.lst 3 [[(.i .i64 (.ofNat 1)), (.i .i64 (.ofNat 0)), (.i .i64 (.ofNat 1))]]), (.i .i64 (.ofNat 0))])
def ma116_1 : List D := [(.ag [(.i .i64 (.ofNat 3)), (.i .i64 (.ofNat 5)), (.i .i64 (.ofNat 20)), (.lst 3 [[(.i .i64 (.ofNat 1)), (.i .i64 (.ofNat 0)), (.i .i64 (.ofNat 1))], [(.i .i64 (.ofNat 1)), (.i .i64 (.ofNat 1)), (.i .i64 (.negSucc 0))], [(.i .i64 (.ofNat 2)), (.i .i64 (.negSucc 0)), (.i .i64 (.ofNat 1))]]), .ns]), (.i .i64 (.ofNat 1))]
def mr116_1 : D := (.tp [(.lst 3 [[(.i .i64 (.ofNat 1)), (.i .i64 (.ofNat 1)), (.i .i64 (.ofNat 0))], [(.i .i64 (.ofNat 1)), (.i .i64 (.ofNat 1)), (.i .i64 (.ofNat 2))]]), (.i .i64 (.ofNat 0))])
def ma116_2 : List D := [(.ag [(.i .i64 (.ofNat 3)), (.i .i64 (.ofNat 5)), (.i .i64 (.ofNat 20)), (.lst 3 [[(.i .i64 (.ofNat 1)), (.i .i64 (.ofNat 0)), (.i .i64 (.ofNat 1))], [(.i .i64 (.ofNat 1)), (.i .i64 (.ofNat 1)), (.i .i64 (.negSucc 0))], [(.i .i64 (.ofNat 2)), (.i .i64 (.negSucc 0)), (.i .i64 (.ofNat 1))]]), .ns]), (.i .i64 (.ofNat 2))]
def mr116_2 : D := (.tp [(.lst 3 [[(.i .i64 (.ofNat 2)), (.i .i64 (.ofNat 0)), (.i .i64 (.ofNat 1))], [(.i .i64 (.ofNat 2)), (.i .i64 (.ofNat 1)), (.i .i64 (.ofNat 1))]]), (.i .i64 (.ofNat 0))])
def ma17_0 : List D := [(.ag [(.i .i64 (.ofNat 3)), (.i .i64 (.ofNat 5)), (.i .i64 (.ofNat 20)), (.lst 3 [[(.i .i64 (.ofNat 1)), (.i .i64 (.ofNat 0)), (.i .i64 (.ofNat 1))], [(.i .i64 (.ofNat 1)), (.i .i64 (.ofNat 1)), (.i .i64 (.negSucc 0))], [(.i .i64 (.ofNat 2)), (.i .i64 (.negSucc 0)), (.i .i64 (.ofNat 1))]]), .ns]), (.lst 3 [[(.i .i64 (.ofNat 1)), (.i .i64 (.ofNat 0)), (.i .i64 (.ofNat 1))], [(.i .i64 (.ofNat 1)), (.i .i64 (.ofNat 1)), (.i .i64 (.ofNat 2))], [(.i .i64 (.ofNat 2)), (.i .i64 (.ofNat 0)), (.i .i64 (.ofNat 1))]])]
def mr17_0 : D := (.b true)
def ma17_1 : List D := [(.ag [(.i .i64 (.ofNat 3)), (.i .i64 (.ofNat 5)), (.i .i64 (.ofNat 20)), (.lst 3 [[(.i .i64 (.ofNat 1)), (.i .i64 (.ofNat 0)), (.i .i64 (.ofNat 1))], [(.i .i64 (.ofNat 1)), (.i .i64 (.ofNat 1)), (.i .i64 (.negSucc 0))], [(.i .i64 (.ofNat 2)), (.i .i64 (.negSucc 0)), (.i .i64 (.ofNat 1))]]), .ns]), (.lst 3 [[(.i .i64 (.ofNat 1)), (.i .i64 (.ofNat 0)), (.i .i64 (.ofNat 1))], [(.i .i64 (.ofNat 1)), (.i .i64 (.ofNat 1)), (.i .i64 (.ofNat 0))], [(.i .i64 (.ofNat 2)), (.i .i64 (.ofNat 0)), (.i .i64 (.ofNat 1))]])]
def mr17_1 : D := (.b true)
def ma17_2 : List D := [(.ag [(.i .i64 (.ofNat 3)), (.i .i64 (.ofNat 5)), (.i .i64 (.ofNat 20)), (.lst 3 [[(.i .i64 (.ofNat 1)), (.i .i64 (.ofNat 0)), (.i .i64 (.ofNat 1))], [(.i .i64 (.ofNat 1)), (.i .i64 (.ofNat 1)), (.i .i64 (.negSucc 0))], [(.i .i64 (.ofNat 2)), (.i .i64 (.negSucc 0)), (.i .i64 (.ofNat 1))]]), .ns]), (.lst 3 [[(.i .i64 (.ofNat 1)), (.i .i64 (.ofNat 0)), (.i .i64 (.ofNat 1))], [(.i .i64 (.ofNat 1)), (.i .i64 (.ofNat 1)), (.i .i64 (.ofNat 0))], [(.i .i64 (.ofNat 2)), (.i .i64 (.ofNat 1)), (.i .i64 (.ofNat 1))]])]
def mr17_2 : D := (.b true)
def ma17_3 : List D := [(.ag [(.i .i64 (.ofNat 3)), (.i .i64 (.ofNat 5)), (.i .i64 (.ofNat 20)), (.lst 3 [[(.i .i64 (.ofNat 1)), (.i .i64 (.ofNat 0)), (.i .i64 (.ofNat 1))], [(.i .i64 (.ofNat 1)), (.i .i64 (.ofNat 1)), (.i .i64 (.negSucc 0))], [(.i .i64 (.ofNat 2)), (.i .i64 (.negSucc 0)), (.i .i64 (.ofNat 1))]]), .ns]), (.lst 3 [[(.i .i64 (.ofNat 1)), (.i .i64 (.ofNat 0)), (.i .i64 (.ofNat 1))], [(.i .i64 (.ofNat 1)), (.i .i64 (.ofNat 1)), (.i .i64 (.ofNat 2))], [(.i .i64 (.ofNat 2)), (.i .i64 (.ofNat 1)), (.i .i64 (.ofNat 1))]])]
def mr17_3 : D := (.b true)
def ma17_4 : List D := [(.ag [(.i .i64 (.ofNat 3)), (.i .i64 (.ofNat 5)), (.i .i64 (.ofNat 20)), (.lst 3 [[(.i .i64 (.ofNat 1)), (.i .i64 (.ofNat 0)), (.i .i64 (.ofNat 1))], [(.i .i64 (.ofNat 1)), (.i .i64 (.ofNat 1)), (.i .i64 (.negSucc 0))], [(.i .i64 (.ofNat 2)), (.i .i64 (.negSucc 0)), (.i .i64 (.ofNat 1))]]), .ns]), (.lst 3 [[(.i .i64 (.ofNat 1)), (.i .i64 (.ofNat 0)), (.i .i64 (.ofNat 1))], [(.i .i64 (.ofNat 1)), (.i .i64 (.ofNat 1)), (.i .i64 (.ofNat 1))], [(.i .i64 (.ofNat 2)), (.i .i64 (.ofNat 0)), (.i .i64 (.ofNat 1))]])]
def mr17_4 : D := (.b false)
def ma17_5 : List D := [(.ag [(.i .i64 (.ofNat 1)), (.i .i64 (.ofNat 1)), (.i .i64 (.ofNat 0)), .ns, .ns]), (.lst 3 [])]
def mr17_5 : D := (.b true)
def ml34 : List (List D × D) := [(ma34_0, mr34_0), (ma34_1, mr34_1), (ma34_2, mr34_2), (ma34_3, mr34_3), (ma34_4, mr34_4)]
def ml116 : List (List D × D) := [(ma116_0, mr116_0), (ma116_1, mr116_1), (ma116_2, mr116_2)]
def ml17 : List (List D × D) := [(ma17_0, mr17_0), (ma17_1, mr17_1), (ma17_2, mr17_2), (ma17_3, mr17_3), (ma17_4, mr17_4), (ma17_5, mr17_5)]
def pf34 : Pos := (.i (.i (.o (.o (.o .h)))))
def pf116 : Pos := (.i (.o (.i (.o (.i (.i .h))))))
def pf17 : Pos := (.o (.i (.o (.o .h))))
end Go.Ev
