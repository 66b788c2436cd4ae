import Derived.Test.YtjgbfnciedkafaaEvUTq0
set_option linter.all false
set_option maxHeartbeats 8000000
noncomputable section
namespace Go.Ev
open Go.Proofs
set_option maxRecDepth 1000000
theorem Jo : ((dD 1).all fun l => dI ((3, 0) :: (1, 0) :: (1, 0) :: l)) = true := by kernel_rfl
theorem Mj : ((dD 1).all fun l => dI ((3, 0) :: (1, 0) :: (2, 1) :: l)) = true := by kernel_rfl
theorem Ku : ((dD 1).all fun l => dI ((3, 0) :: (1, 0) :: (3, 0) :: l)) = true := by kernel_rfl
theorem Kx : ((dD 1).all fun l => dI ((3, 0) :: (1, 0) :: (3, 1) :: l)) = true := by kernel_rfl
theorem Jx : ((dD 1).all fun l => dI ((3, 0) :: (2, 1) :: (1, 0) :: l)) = true := by kernel_rfl
theorem KR : ((dD 1).all fun l => dI ((3, 0) :: (2, 1) :: (2, 1) :: l)) = true := by kernel_rfl
theorem KJ : ((dD 1).all fun l => dI ((3, 0) :: (2, 1) :: (3, 0) :: l)) = true := by kernel_rfl
theorem Kr : ((dD 1).all fun l => dI ((3, 0) :: (2, 1) :: (3, 1) :: l)) = true := by kernel_rfl
theorem Lo : ((dD 1).all fun l => dI ((3, 0) :: (3, 0) :: (1, 0) :: l)) = true := by kernel_rfl
theorem LB : ((dD 1).all fun l => dI ((3, 0) :: (3, 0) :: (2, 1) :: l)) = true := by kernel_rfl
theorem KM : ((dD 1).all fun l => dI ((3, 0) :: (3, 0) :: (3, 0) :: l)) = true := by kernel_rfl
theorem LW : ((dD 1).all fun l => dI ((3, 0) :: (3, 0) :: (3, 1) :: l)) = true := by kernel_rfl
theorem Mb : ((dD 1).all fun l => dI ((3, 0) :: (3, 1) :: (1, 0) :: l)) = true := by kernel_rfl
theorem KZ : ((dD 1).all fun l => dI ((3, 0) :: (3, 1) :: (2, 1) :: l)) = true := by kernel_rfl
theorem Kg : ((dD 1).all fun l => dI ((3, 0) :: (3, 1) :: (3, 0) :: l)) = true := by kernel_rfl
theorem Kq : ((dD 1).all fun l => dI ((3, 0) :: (3, 1) :: (3, 1) :: l)) = true := by kernel_rfl
end Go.Ev
end
