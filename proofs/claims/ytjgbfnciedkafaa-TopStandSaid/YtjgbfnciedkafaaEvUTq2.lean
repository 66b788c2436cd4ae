import Derived.Test.YtjgbfnciedkafaaEvUTq0
set_option linter.all false
set_option maxHeartbeats 8000000
noncomputable section
namespace Go.Ev
open Go.Proofs
set_option maxRecDepth 1000000
theorem PE : ((dD 1).all fun l => dI ((1, 0) :: (1, 0) :: l)) = true := by kernel_rfl
theorem Pf : ((dD 1).all fun l => dI ((1, 0) :: (2, 1) :: l)) = true := by kernel_rfl
theorem No : ((dD 1).all fun l => dI ((1, 0) :: (3, 0) :: l)) = true := by kernel_rfl
theorem Og : ((dD 1).all fun l => dI ((1, 0) :: (3, 1) :: l)) = true := by kernel_rfl
theorem Pr : ((dD 1).all fun l => dI ((2, 1) :: (1, 0) :: l)) = true := by kernel_rfl
theorem PF : ((dD 1).all fun l => dI ((2, 1) :: (2, 1) :: l)) = true := by kernel_rfl
theorem Pm : ((dD 1).all fun l => dI ((2, 1) :: (3, 0) :: l)) = true := by kernel_rfl
theorem Oa : ((dD 1).all fun l => dI ((2, 1) :: (3, 1) :: l)) = true := by kernel_rfl
theorem Om : ((dD 1).all fun l => dI ((3, 0) :: (1, 0) :: l)) = true := by kernel_rfl
theorem NZ : ((dD 1).all fun l => dI ((3, 0) :: (2, 1) :: l)) = true := by kernel_rfl
theorem OM : ((dD 1).all fun l => dI ((3, 0) :: (3, 0) :: l)) = true := by kernel_rfl
theorem NE : ((dD 1).all fun l => dI ((3, 0) :: (3, 1) :: l)) = true := by kernel_rfl
theorem Nm : ((dD 1).all fun l => dI ((3, 1) :: (1, 0) :: l)) = true := by kernel_rfl
theorem OO : ((dD 1).all fun l => dI ((3, 1) :: (2, 1) :: l)) = true := by kernel_rfl
theorem PG : ((dD 1).all fun l => dI ((3, 1) :: (3, 0) :: l)) = true := by kernel_rfl
theorem Ot : ((dD 1).all fun l => dI ((3, 1) :: (3, 1) :: l)) = true := by kernel_rfl
end Go.Ev
end
