import Derived.Test.YtjgbfnciedkafaaEvUTq0
set_option linter.all false
set_option maxHeartbeats 8000000
noncomputable section
namespace Go.Ev
open Go.Proofs
set_option maxRecDepth 1000000
theorem Me : ((dD 1).all fun l => dI ((3, 1) :: (1, 0) :: (1, 0) :: l)) = true := by kernel_rfl
theorem Jw : ((dD 1).all fun l => dI ((3, 1) :: (1, 0) :: (2, 1) :: l)) = true := by kernel_rfl
theorem JB : ((dD 1).all fun l => dI ((3, 1) :: (1, 0) :: (3, 0) :: l)) = true := by kernel_rfl
theorem LQ : ((dD 1).all fun l => dI ((3, 1) :: (1, 0) :: (3, 1) :: l)) = true := by kernel_rfl
theorem LI : ((dD 1).all fun l => dI ((3, 1) :: (2, 1) :: (1, 0) :: l)) = true := by kernel_rfl
theorem LJ : ((dD 1).all fun l => dI ((3, 1) :: (2, 1) :: (2, 1) :: l)) = true := by kernel_rfl
theorem JV : ((dD 1).all fun l => dI ((3, 1) :: (2, 1) :: (3, 0) :: l)) = true := by kernel_rfl
theorem Jv : ((dD 1).all fun l => dI ((3, 1) :: (2, 1) :: (3, 1) :: l)) = true := by kernel_rfl
theorem JQ : ((dD 1).all fun l => dI ((3, 1) :: (3, 0) :: (1, 0) :: l)) = true := by kernel_rfl
theorem Ky : ((dD 1).all fun l => dI ((3, 1) :: (3, 0) :: (2, 1) :: l)) = true := by kernel_rfl
theorem LX : ((dD 1).all fun l => dI ((3, 1) :: (3, 0) :: (3, 0) :: l)) = true := by kernel_rfl
theorem LL : ((dD 1).all fun l => dI ((3, 1) :: (3, 0) :: (3, 1) :: l)) = true := by kernel_rfl
theorem Kh : ((dD 1).all fun l => dI ((3, 1) :: (3, 1) :: (1, 0) :: l)) = true := by kernel_rfl
theorem Km : ((dD 1).all fun l => dI ((3, 1) :: (3, 1) :: (2, 1) :: l)) = true := by kernel_rfl
theorem Lm : ((dD 1).all fun l => dI ((3, 1) :: (3, 1) :: (3, 0) :: l)) = true := by kernel_rfl
theorem KK : ((dD 1).all fun l => dI ((3, 1) :: (3, 1) :: (3, 1) :: l)) = true := by kernel_rfl
end Go.Ev
end
