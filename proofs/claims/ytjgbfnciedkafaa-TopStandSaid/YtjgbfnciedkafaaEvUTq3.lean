import Derived.Test.YtjgbfnciedkafaaEvUTq0
set_option linter.all false
set_option maxHeartbeats 8000000
noncomputable section
namespace Go.Ev
open Go.Proofs
set_option maxRecDepth 1000000
theorem Kf : ((dD 1).all fun l => dI ((1, 0) :: (1, 0) :: (1, 0) :: l)) = true := by kernel_rfl
theorem Lz : ((dD 1).all fun l => dI ((1, 0) :: (1, 0) :: (2, 1) :: l)) = true := by kernel_rfl
theorem JJ : ((dD 1).all fun l => dI ((1, 0) :: (1, 0) :: (3, 0) :: l)) = true := by kernel_rfl
theorem JR : ((dD 1).all fun l => dI ((1, 0) :: (1, 0) :: (3, 1) :: l)) = true := by kernel_rfl
theorem Jn : ((dD 1).all fun l => dI ((1, 0) :: (2, 1) :: (1, 0) :: l)) = true := by kernel_rfl
theorem KG : ((dD 1).all fun l => dI ((1, 0) :: (2, 1) :: (2, 1) :: l)) = true := by kernel_rfl
theorem Kw : ((dD 1).all fun l => dI ((1, 0) :: (2, 1) :: (3, 0) :: l)) = true := by kernel_rfl
theorem Mf : ((dD 1).all fun l => dI ((1, 0) :: (2, 1) :: (3, 1) :: l)) = true := by kernel_rfl
theorem Mc : ((dD 1).all fun l => dI ((1, 0) :: (3, 0) :: (1, 0) :: l)) = true := by kernel_rfl
theorem Mk : ((dD 1).all fun l => dI ((1, 0) :: (3, 0) :: (2, 1) :: l)) = true := by kernel_rfl
theorem KA : ((dD 1).all fun l => dI ((1, 0) :: (3, 0) :: (3, 0) :: l)) = true := by kernel_rfl
theorem Kl : ((dD 1).all fun l => dI ((1, 0) :: (3, 0) :: (3, 1) :: l)) = true := by kernel_rfl
theorem Kk : ((dD 1).all fun l => dI ((1, 0) :: (3, 1) :: (1, 0) :: l)) = true := by kernel_rfl
theorem Ke : ((dD 1).all fun l => dI ((1, 0) :: (3, 1) :: (2, 1) :: l)) = true := by kernel_rfl
theorem Jk : ((dD 1).all fun l => dI ((1, 0) :: (3, 1) :: (3, 0) :: l)) = true := by kernel_rfl
theorem Ka : ((dD 1).all fun l => dI ((1, 0) :: (3, 1) :: (3, 1) :: l)) = true := by kernel_rfl
end Go.Ev
end
