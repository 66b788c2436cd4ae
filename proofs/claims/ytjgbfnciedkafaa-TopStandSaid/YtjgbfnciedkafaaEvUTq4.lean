import Derived.Test.YtjgbfnciedkafaaEvUTq0
set_option linter.all false
set_option maxHeartbeats 8000000
noncomputable section
namespace Go.Ev
open Go.Proofs
set_option maxRecDepth 1000000
theorem Le : ((dD 1).all fun l => dI ((2, 1) :: (1, 0) :: (1, 0) :: l)) = true := by kernel_rfl
theorem Lt : ((dD 1).all fun l => dI ((2, 1) :: (1, 0) :: (2, 1) :: l)) = true := by kernel_rfl
theorem Ll : ((dD 1).all fun l => dI ((2, 1) :: (1, 0) :: (3, 0) :: l)) = true := by kernel_rfl
theorem Mm : ((dD 1).all fun l => dI ((2, 1) :: (1, 0) :: (3, 1) :: l)) = true := by kernel_rfl
theorem Lg : ((dD 1).all fun l => dI ((2, 1) :: (2, 1) :: (1, 0) :: l)) = true := by kernel_rfl
theorem KD : ((dD 1).all fun l => dI ((2, 1) :: (2, 1) :: (2, 1) :: l)) = true := by kernel_rfl
theorem KH : ((dD 1).all fun l => dI ((2, 1) :: (2, 1) :: (3, 0) :: l)) = true := by kernel_rfl
theorem La : ((dD 1).all fun l => dI ((2, 1) :: (2, 1) :: (3, 1) :: l)) = true := by kernel_rfl
theorem LM : ((dD 1).all fun l => dI ((2, 1) :: (3, 0) :: (1, 0) :: l)) = true := by kernel_rfl
theorem LG : ((dD 1).all fun l => dI ((2, 1) :: (3, 0) :: (2, 1) :: l)) = true := by kernel_rfl
theorem JF : ((dD 1).all fun l => dI ((2, 1) :: (3, 0) :: (3, 0) :: l)) = true := by kernel_rfl
theorem KC : ((dD 1).all fun l => dI ((2, 1) :: (3, 0) :: (3, 1) :: l)) = true := by kernel_rfl
theorem Ml : ((dD 1).all fun l => dI ((2, 1) :: (3, 1) :: (1, 0) :: l)) = true := by kernel_rfl
theorem Jz : ((dD 1).all fun l => dI ((2, 1) :: (3, 1) :: (2, 1) :: l)) = true := by kernel_rfl
theorem Lc : ((dD 1).all fun l => dI ((2, 1) :: (3, 1) :: (3, 0) :: l)) = true := by kernel_rfl
theorem JL : ((dD 1).all fun l => dI ((2, 1) :: (3, 1) :: (3, 1) :: l)) = true := by kernel_rfl
end Go.Ev
end
