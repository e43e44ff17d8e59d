/- RlI -/
import Derived.Test.YtoefmmmfefdcdaaDoorBeK00
import Derived.Test.YtoefmmmfefdcdaaDoorBeK01
import Derived.Test.YtoefmmmfefdcdaaDoorBeK02
import Derived.Test.YtoefmmmfefdcdaaDoorBeK03
import Derived.Test.YtoefmmmfefdcdaaDoorBeK04
import Derived.Test.YtoefmmmfefdcdaaDoorBeK07
import Derived.Test.YtoefmmmfefdcdaaDoorBeK06
import Derived.Test.YtoefmmmfefdcdaaDoorBeK08
import Derived.Test.YtoefmmmfefdcdaaDoorBeK09
import Derived.Test.YtoefmmmfefdcdaaDoorBeK10
import Derived.Test.YtoefmmmfefdcdaaDoorBeK34
import Derived.Test.YtoefmmmfefdcdaaDoorBeK12
import Derived.Test.YtoefmmmfefdcdaaDoorBeK13
import Derived.Test.YtoefmmmfefdcdaaDoorBeK14
import Derived.Test.YtoefmmmfefdcdaaDoorBeK15
import Derived.Test.YtoefmmmfefdcdaaDoorBeK16
import Derived.Test.YtoefmmmfefdcdaaDoorBeK32
import Derived.Test.YtoefmmmfefdcdaaDoorBeK33
import Derived.Test.YtoefmmmfefdcdaaDoorBeK20
import Derived.Test.YtoefmmmfefdcdaaDoorBeK22
import Derived.Test.YtoefmmmfefdcdaaDoorBeK24
import Derived.Test.YtoefmmmfefdcdaaDoorBeK26
import Derived.Test.YtoefmmmfefdcdaaDoorBeK28
import Derived.Test.YtoefmmmfefdcdaaDoorBeK30
import Derived.Test.YtoefmmmfefdcdaaDoorBeK31
import Derived.Test.YtoefmmmfefdcdaaDoorBeL00
import Derived.Test.YtoefmmmfefdcdaaDoorBeL01
import Derived.Test.YtoefmmmfefdcdaaDoorBeL02
import Derived.Test.YtoefmmmfefdcdaaDoorBeL03
import Derived.Test.YtoefmmmfefdcdaaDoorBeT
namespace Go.Sx
open Go.RowKit Go.Proofs
set_option maxRecDepth 100000
theorem ckT11 : lAll (ckAll 1 1) (nodeTab 1 1) = true := by
  have h0 : lAll (ckAll 1 1) (lDrop (nodeTab 1 1) 2) = true := rfl
  have k0 := chunk ckG11_0 h0
  rw [lDrop_eq, List.drop_zero] at k0
  exact k0
theorem ckT12 : lAll (ckAll 1 2) (nodeTab 1 2) = true := by
  have h0 : lAll (ckAll 1 2) (lDrop (nodeTab 1 2) 2) = true := rfl
  have k0 := chunk ckG12_0 h0
  rw [lDrop_eq, List.drop_zero] at k0
  exact k0
theorem ckT21 : lAll (ckAll 2 1) (nodeTab 2 1) = true := by
  have h0 : lAll (ckAll 2 1) (lDrop (nodeTab 2 1) 3) = true := rfl
  have k0 := chunk ckG21_0 h0
  rw [lDrop_eq, List.drop_zero] at k0
  exact k0
theorem ckT22 : lAll (ckAll 2 2) (nodeTab 2 2) = true := by
  have h0 : lAll (ckAll 2 2) (lDrop (nodeTab 2 2) 4) = true := rfl
  have k0 := chunk ckG22_0 h0
  rw [lDrop_eq, List.drop_zero] at k0
  exact k0
theorem ckT23 : lAll (ckAll 2 3) (nodeTab 2 3) = true := by
  have h0 : lAll (ckAll 2 3) (lDrop (nodeTab 2 3) 4) = true := rfl
  have k0 := chunk ckG23_0 h0
  rw [lDrop_eq, List.drop_zero] at k0
  exact k0
theorem ckT31 : lAll (ckAll 3 1) (nodeTab 3 1) = true := by
  have h0 : lAll (ckAll 3 1) (lDrop (nodeTab 3 1) 4) = true := rfl
  have k0 := chunk ckG31_0 h0
  rw [lDrop_eq, List.drop_zero] at k0
  exact k0
theorem ckT32 : lAll (ckAll 3 2) (nodeTab 3 2) = true := by
  have h0 : lAll (ckAll 3 2) (lDrop (nodeTab 3 2) 7) = true := rfl
  have k0 := chunk ckG32_0 h0
  rw [lDrop_eq, List.drop_zero] at k0
  exact k0
theorem ckT33 : lAll (ckAll 3 3) (nodeTab 3 3) = true := by
  have h0 : lAll (ckAll 3 3) (lDrop (nodeTab 3 3) 8) = true := rfl
  have k0 := chunk ckG33_0 h0
  rw [lDrop_eq, List.drop_zero] at k0
  exact k0
theorem ckT34 : lAll (ckAll 3 4) (nodeTab 3 4) = true := by
  have h0 : lAll (ckAll 3 4) (lDrop (nodeTab 3 4) 8) = true := rfl
  have k0 := chunk ckG34_0 h0
  rw [lDrop_eq, List.drop_zero] at k0
  exact k0
theorem ckT41 : lAll (ckAll 4 1) (nodeTab 4 1) = true := by
  have h0 : lAll (ckAll 4 1) (lDrop (nodeTab 4 1) 5) = true := rfl
  have k0 := chunk ckG41_0 h0
  rw [lDrop_eq, List.drop_zero] at k0
  exact k0
theorem ckT42 : lAll (ckAll 4 2) (nodeTab 4 2) = true := by
  have h0 : lAll (ckAll 4 2) (lDrop (nodeTab 4 2) 12) = true := rfl
  have k0 := chunk ckG42_0 h0
  rw [lDrop_eq, List.drop_zero] at k0
  exact k0
theorem ckT43 : lAll (ckAll 4 3) (nodeTab 4 3) = true := by
  have h0 : lAll (ckAll 4 3) (lDrop (nodeTab 4 3) 15) = true := rfl
  have k0 := chunk ckG43_0 h0
  rw [lDrop_eq, List.drop_zero] at k0
  exact k0
theorem ckT44 : lAll (ckAll 4 4) (nodeTab 4 4) = true := by
  have h0 : lAll (ckAll 4 4) (lDrop (nodeTab 4 4) 16) = true := rfl
  have k0 := chunk ckG44_0 h0
  rw [lDrop_eq, List.drop_zero] at k0
  exact k0
theorem ckT45 : lAll (ckAll 4 5) (nodeTab 4 5) = true := by
  have h0 : lAll (ckAll 4 5) (lDrop (nodeTab 4 5) 16) = true := rfl
  have k0 := chunk ckG45_0 h0
  rw [lDrop_eq, List.drop_zero] at k0
  exact k0
theorem ckT51 : lAll (ckAll 5 1) (nodeTab 5 1) = true := by
  have h0 : lAll (ckAll 5 1) (lDrop (nodeTab 5 1) 6) = true := rfl
  have k0 := chunk ckG51_0 h0
  rw [lDrop_eq, List.drop_zero] at k0
  exact k0
theorem ckT52 : lAll (ckAll 5 2) (nodeTab 5 2) = true := by
  have h0 : lAll (ckAll 5 2) (lDrop (nodeTab 5 2) 20) = true := rfl
  have k0 := chunk ckG52_0 h0
  rw [lDrop_eq, List.drop_zero] at k0
  exact k0
theorem ckT53 : lAll (ckAll 5 3) (nodeTab 5 3) = true := by
  have h0 : lAll (ckAll 5 3) (lDrop (nodeTab 5 3) 28) = true := rfl
  have k0 := chunk ckG53_17 h0
  have k1 := chunk ckG53_0 k0
  rw [lDrop_eq, List.drop_zero] at k1
  exact k1
theorem ckT54 : lAll (ckAll 5 4) (nodeTab 5 4) = true := by
  have h0 : lAll (ckAll 5 4) (lDrop (nodeTab 5 4) 31) = true := rfl
  have k0 := chunk ckG54_11 h0
  have k1 := chunk ckG54_0 k0
  rw [lDrop_eq, List.drop_zero] at k1
  exact k1
theorem ckN55_0 : lAll (ckAll 5 5) (lTake (lDrop (nodeTab 5 5) 0) 1) = true := by
  have h0 : lAll (ckOne 5 5 (nodeAt 5 5 0)) (lDrop (combos (kidsOf 5 5 (nodeAt 5 5 0))) 30) = true := by kernel_rfl
  have k0 := chunk ckC55_0_15 h0
  have k1 := chunk ckC55_0_0 k0
  rw [lDrop_eq, List.drop_zero] at k1
  have e : lTake (lDrop (nodeTab 5 5) 0) 1 = [nodeAt 5 5 0] := rfl
  rw [e]
  exact lAll_cons k1 rfl
theorem ckT55 : lAll (ckAll 5 5) (nodeTab 5 5) = true := by
  have h0 : lAll (ckAll 5 5) (lDrop (nodeTab 5 5) 32) = true := rfl
  have k0 := chunk ckG55_22 h0
  have k1 := chunk ckG55_1 k0
  have k2 := chunk ckN55_0 k1
  rw [lDrop_eq, List.drop_zero] at k2
  exact k2
theorem ckN56_0 : lAll (ckAll 5 6) (lTake (lDrop (nodeTab 5 6) 0) 1) = true := by
  have h0 : lAll (ckOne 5 6 (nodeAt 5 6 0)) (lDrop (combos (kidsOf 5 6 (nodeAt 5 6 0))) 30) = true := by kernel_rfl
  have k0 := chunk ckC56_0_15 h0
  have k1 := chunk ckC56_0_0 k0
  rw [lDrop_eq, List.drop_zero] at k1
  have e : lTake (lDrop (nodeTab 5 6) 0) 1 = [nodeAt 5 6 0] := rfl
  rw [e]
  exact lAll_cons k1 rfl
theorem ckT56 : lAll (ckAll 5 6) (nodeTab 5 6) = true := by
  have h0 : lAll (ckAll 5 6) (lDrop (nodeTab 5 6) 32) = true := rfl
  have k0 := chunk ckG56_22 h0
  have k1 := chunk ckG56_1 k0
  have k2 := chunk ckN56_0 k1
  rw [lDrop_eq, List.drop_zero] at k2
  exact k2
theorem ckT61 : lAll (ckAll 6 1) (nodeTab 6 1) = true := by
  have h0 : lAll (ckAll 6 1) (lDrop (nodeTab 6 1) 7) = true := rfl
  have k0 := chunk ckG61_0 h0
  rw [lDrop_eq, List.drop_zero] at k0
  exact k0
theorem ckT62 : lAll (ckAll 6 2) (nodeTab 6 2) = true := by
  have h0 : lAll (ckAll 6 2) (lDrop (nodeTab 6 2) 33) = true := rfl
  have k0 := chunk ckG62_31 h0
  have k1 := chunk ckG62_20 k0
  have k2 := chunk ckG62_0 k1
  rw [lDrop_eq, List.drop_zero] at k2
  exact k2
theorem ckT63 : lAll (ckAll 6 3) (nodeTab 6 3) = true := by
  have h0 : lAll (ckAll 6 3) (lDrop (nodeTab 6 3) 52) = true := rfl
  have k0 := chunk ckG63_44 h0
  have k1 := chunk ckG63_30 k0
  have k2 := chunk ckG63_29 k1
  have k3 := chunk ckG63_21 k2
  have k4 := chunk ckG63_2 k3
  have k5 := chunk ckG63_0 k4
  rw [lDrop_eq, List.drop_zero] at k5
  exact k5
theorem ckN64_0 : lAll (ckAll 6 4) (lTake (lDrop (nodeTab 6 4) 0) 1) = true := by
  have h0 : lAll (ckOne 6 4 (nodeAt 6 4 0)) (lDrop (combos (kidsOf 6 4 (nodeAt 6 4 0))) 120) = true := by kernel_rfl
  have k0 := chunk ckC64_0_80 h0
  have k1 := chunk ckC64_0_40 k0
  have k2 := chunk ckC64_0_0 k1
  rw [lDrop_eq, List.drop_zero] at k2
  have e : lTake (lDrop (nodeTab 6 4) 0) 1 = [nodeAt 6 4 0] := rfl
  rw [e]
  exact lAll_cons k2 rfl
theorem ckN64_32 : lAll (ckAll 6 4) (lTake (lDrop (nodeTab 6 4) 32) 1) = true := by
  have h0 : lAll (ckOne 6 4 (nodeAt 6 4 32)) (lDrop (combos (kidsOf 6 4 (nodeAt 6 4 32))) 6) = true := by kernel_rfl
  have k0 := chunk ckC64_32_4 h0
  have k1 := chunk ckC64_32_2 k0
  have k2 := chunk ckC64_32_0 k1
  rw [lDrop_eq, List.drop_zero] at k2
  have e : lTake (lDrop (nodeTab 6 4) 32) 1 = [nodeAt 6 4 32] := rfl
  rw [e]
  exact lAll_cons k2 rfl
theorem ckT64 : lAll (ckAll 6 4) (nodeTab 6 4) = true := by
  have h0 : lAll (ckAll 6 4) (lDrop (nodeTab 6 4) 60) = true := rfl
  have k0 := chunk ckG64_48 h0
  have k1 := chunk ckG64_33 k0
  have k2 := chunk ckN64_32 k1
  have k3 := chunk ckG64_27 k2
  have k4 := chunk ckG64_11 k3
  have k5 := chunk ckG64_1 k4
  have k6 := chunk ckN64_0 k5
  rw [lDrop_eq, List.drop_zero] at k6
  exact k6
theorem ckN65_0 : lAll (ckAll 6 5) (lTake (lDrop (nodeTab 6 5) 0) 1) = true := by
  have h0 : lAll (ckOne 6 5 (nodeAt 6 5 0)) (lDrop (combos (kidsOf 6 5 (nodeAt 6 5 0))) 120) = true := by kernel_rfl
  have k0 := chunk ckC65_0_105 h0
  have k1 := chunk ckC65_0_90 k0
  have k2 := chunk ckC65_0_75 k1
  have k3 := chunk ckC65_0_60 k2
  have k4 := chunk ckC65_0_45 k3
  have k5 := chunk ckC65_0_30 k4
  have k6 := chunk ckC65_0_15 k5
  have k7 := chunk ckC65_0_0 k6
  rw [lDrop_eq, List.drop_zero] at k7
  have e : lTake (lDrop (nodeTab 6 5) 0) 1 = [nodeAt 6 5 0] := rfl
  rw [e]
  exact lAll_cons k7 rfl
theorem ckN65_1 : lAll (ckAll 6 5) (lTake (lDrop (nodeTab 6 5) 1) 1) = true := by
  have h0 : lAll (ckOne 6 5 (nodeAt 6 5 1)) (lDrop (combos (kidsOf 6 5 (nodeAt 6 5 1))) 30) = true := by kernel_rfl
  have k0 := chunk ckC65_1_15 h0
  have k1 := chunk ckC65_1_0 k0
  rw [lDrop_eq, List.drop_zero] at k1
  have e : lTake (lDrop (nodeTab 6 5) 1) 1 = [nodeAt 6 5 1] := rfl
  rw [e]
  exact lAll_cons k1 rfl
theorem ckN65_33 : lAll (ckAll 6 5) (lTake (lDrop (nodeTab 6 5) 33) 1) = true := by
  have h0 : lAll (ckOne 6 5 (nodeAt 6 5 33)) (lDrop (combos (kidsOf 6 5 (nodeAt 6 5 33))) 6) = true := by kernel_rfl
  have k0 := chunk ckC65_33_4 h0
  have k1 := chunk ckC65_33_2 k0
  have k2 := chunk ckC65_33_0 k1
  rw [lDrop_eq, List.drop_zero] at k2
  have e : lTake (lDrop (nodeTab 6 5) 33) 1 = [nodeAt 6 5 33] := rfl
  rw [e]
  exact lAll_cons k2 rfl
theorem ckT65 : lAll (ckAll 6 5) (nodeTab 6 5) = true := by
  have h0 : lAll (ckAll 6 5) (lDrop (nodeTab 6 5) 63) = true := rfl
  have k0 := chunk ckG65_49 h0
  have k1 := chunk ckG65_34 k0
  have k2 := chunk ckN65_33 k1
  have k3 := chunk ckG65_19 k2
  have k4 := chunk ckG65_2 k3
  have k5 := chunk ckN65_1 k4
  have k6 := chunk ckN65_0 k5
  rw [lDrop_eq, List.drop_zero] at k6
  exact k6
theorem ckN66_0 : lAll (ckAll 6 6) (lTake (lDrop (nodeTab 6 6) 0) 1) = true := by
  have h0 : lAll (ckOne 6 6 (nodeAt 6 6 0)) (lDrop (combos (kidsOf 6 6 (nodeAt 6 6 0))) 120) = true := by kernel_rfl
  have k0 := chunk ckC66_0_115 h0
  have k1 := chunk ckC66_0_110 k0
  have k2 := chunk ckC66_0_105 k1
  have k3 := chunk ckC66_0_100 k2
  have k4 := chunk ckC66_0_95 k3
  have k5 := chunk ckC66_0_90 k4
  have k6 := chunk ckC66_0_85 k5
  have k7 := chunk ckC66_0_80 k6
  have k8 := chunk ckC66_0_75 k7
  have k9 := chunk ckC66_0_70 k8
  have k10 := chunk ckC66_0_65 k9
  have k11 := chunk ckC66_0_60 k10
  have k12 := chunk ckC66_0_55 k11
  have k13 := chunk ckC66_0_50 k12
  have k14 := chunk ckC66_0_45 k13
  have k15 := chunk ckC66_0_40 k14
  have k16 := chunk ckC66_0_35 k15
  have k17 := chunk ckC66_0_30 k16
  have k18 := chunk ckC66_0_25 k17
  have k19 := chunk ckC66_0_20 k18
  have k20 := chunk ckC66_0_15 k19
  have k21 := chunk ckC66_0_10 k20
  have k22 := chunk ckC66_0_5 k21
  have k23 := chunk ckC66_0_0 k22
  rw [lDrop_eq, List.drop_zero] at k23
  have e : lTake (lDrop (nodeTab 6 6) 0) 1 = [nodeAt 6 6 0] := rfl
  rw [e]
  exact lAll_cons k23 rfl
theorem ckN66_1 : lAll (ckAll 6 6) (lTake (lDrop (nodeTab 6 6) 1) 1) = true := by
  have h0 : lAll (ckOne 6 6 (nodeAt 6 6 1)) (lDrop (combos (kidsOf 6 6 (nodeAt 6 6 1))) 30) = true := by kernel_rfl
  have k0 := chunk ckC66_1_15 h0
  have k1 := chunk ckC66_1_0 k0
  rw [lDrop_eq, List.drop_zero] at k1
  have e : lTake (lDrop (nodeTab 6 6) 1) 1 = [nodeAt 6 6 1] := rfl
  rw [e]
  exact lAll_cons k1 rfl
theorem ckN66_33 : lAll (ckAll 6 6) (lTake (lDrop (nodeTab 6 6) 33) 1) = true := by
  have h0 : lAll (ckOne 6 6 (nodeAt 6 6 33)) (lDrop (combos (kidsOf 6 6 (nodeAt 6 6 33))) 6) = true := by kernel_rfl
  have k0 := chunk ckC66_33_4 h0
  have k1 := chunk ckC66_33_2 k0
  have k2 := chunk ckC66_33_0 k1
  rw [lDrop_eq, List.drop_zero] at k2
  have e : lTake (lDrop (nodeTab 6 6) 33) 1 = [nodeAt 6 6 33] := rfl
  rw [e]
  exact lAll_cons k2 rfl
theorem ckT66 : lAll (ckAll 6 6) (nodeTab 6 6) = true := by
  have h0 : lAll (ckAll 6 6) (lDrop (nodeTab 6 6) 64) = true := rfl
  have k0 := chunk ckG66_49 h0
  have k1 := chunk ckG66_34 k0
  have k2 := chunk ckN66_33 k1
  have k3 := chunk ckG66_19 k2
  have k4 := chunk ckG66_2 k3
  have k5 := chunk ckN66_1 k4
  have k6 := chunk ckN66_0 k5
  rw [lDrop_eq, List.drop_zero] at k6
  exact k6
theorem ck_all {L K : Nat} (h0 : 1 ≤ L) (hL : L ≤ 6) (k0 : 1 ≤ K) (hK : K ≤ L + 1) (k6 : K ≤ 6) {nd : Node} (h : nd ∈ nodeTab L K) : ckAll L K nd = true := by
  rcases six h0 hL with rfl | rfl | rfl | rfl | rfl | rfl
  · rcases (by omega : K = 1 ∨ K = 2) with rfl | rfl
    · exact lAll_mem ckT11 nd h
    · exact lAll_mem ckT12 nd h
  · rcases (by omega : K = 1 ∨ K = 2 ∨ K = 3) with rfl | rfl | rfl
    · exact lAll_mem ckT21 nd h
    · exact lAll_mem ckT22 nd h
    · exact lAll_mem ckT23 nd h
  · rcases (by omega : K = 1 ∨ K = 2 ∨ K = 3 ∨ K = 4) with rfl | rfl | rfl | rfl
    · exact lAll_mem ckT31 nd h
    · exact lAll_mem ckT32 nd h
    · exact lAll_mem ckT33 nd h
    · exact lAll_mem ckT34 nd h
  · rcases (by omega : K = 1 ∨ K = 2 ∨ K = 3 ∨ K = 4 ∨ K = 5) with rfl | rfl | rfl | rfl | rfl
    · exact lAll_mem ckT41 nd h
    · exact lAll_mem ckT42 nd h
    · exact lAll_mem ckT43 nd h
    · exact lAll_mem ckT44 nd h
    · exact lAll_mem ckT45 nd h
  · rcases (by omega : K = 1 ∨ K = 2 ∨ K = 3 ∨ K = 4 ∨ K = 5 ∨ K = 6) with rfl | rfl | rfl | rfl | rfl | rfl
    · exact lAll_mem ckT51 nd h
    · exact lAll_mem ckT52 nd h
    · exact lAll_mem ckT53 nd h
    · exact lAll_mem ckT54 nd h
    · exact lAll_mem ckT55 nd h
    · exact lAll_mem ckT56 nd h
  · rcases (by omega : K = 1 ∨ K = 2 ∨ K = 3 ∨ K = 4 ∨ K = 5 ∨ K = 6) with rfl | rfl | rfl | rfl | rfl | rfl
    · exact lAll_mem ckT61 nd h
    · exact lAll_mem ckT62 nd h
    · exact lAll_mem ckT63 nd h
    · exact lAll_mem ckT64 nd h
    · exact lAll_mem ckT65 nd h
    · exact lAll_mem ckT66 nd h
end Go.Sx
namespace Go.Sx
open Go.RowKit Go.Proofs
set_option maxRecDepth 100000
theorem ckS11 : lAll (ckSu 1) (leafs 1 1) = true := by
  have h0 : lAll (ckSu 1) (lDrop (leafs 1 1) 40) = true := by kernel_rfl
  have k0 := chunk ckS11_0 h0
  rw [lDrop_eq, List.drop_zero] at k0
  exact k0
theorem ckS12 : lAll (ckSu 1) (leafs 1 2) = true := by
  have e : leafs 1 2 = leafs 1 1 := by kernel_rfl
  rw [e]; exact ckS11
theorem ckS21 : lAll (ckSu 2) (leafs 2 1) = true := by
  have h0 : lAll (ckSu 2) (lDrop (leafs 2 1) 40) = true := by kernel_rfl
  have k0 := chunk ckS21_0 h0
  rw [lDrop_eq, List.drop_zero] at k0
  exact k0
theorem ckS22 : lAll (ckSu 2) (leafs 2 2) = true := by
  have h0 : lAll (ckSu 2) (lDrop (leafs 2 2) 40) = true := by kernel_rfl
  have k0 := chunk ckS22_0 h0
  rw [lDrop_eq, List.drop_zero] at k0
  exact k0
theorem ckS23 : lAll (ckSu 2) (leafs 2 3) = true := by
  have e : leafs 2 3 = leafs 2 2 := by kernel_rfl
  rw [e]; exact ckS22
theorem ckS31 : lAll (ckSu 3) (leafs 3 1) = true := by
  have h0 : lAll (ckSu 3) (lDrop (leafs 3 1) 40) = true := by kernel_rfl
  have k0 := chunk ckS31_0 h0
  rw [lDrop_eq, List.drop_zero] at k0
  exact k0
theorem ckS32 : lAll (ckSu 3) (leafs 3 2) = true := by
  have h0 : lAll (ckSu 3) (lDrop (leafs 3 2) 40) = true := by kernel_rfl
  have k0 := chunk ckS32_0 h0
  rw [lDrop_eq, List.drop_zero] at k0
  exact k0
theorem ckS33 : lAll (ckSu 3) (leafs 3 3) = true := by
  have h0 : lAll (ckSu 3) (lDrop (leafs 3 3) 40) = true := by kernel_rfl
  have k0 := chunk ckS33_0 h0
  rw [lDrop_eq, List.drop_zero] at k0
  exact k0
theorem ckS34 : lAll (ckSu 3) (leafs 3 4) = true := by
  have e : leafs 3 4 = leafs 3 3 := by kernel_rfl
  rw [e]; exact ckS33
theorem ckS41 : lAll (ckSu 4) (leafs 4 1) = true := by
  have h0 : lAll (ckSu 4) (lDrop (leafs 4 1) 40) = true := by kernel_rfl
  have k0 := chunk ckS41_0 h0
  rw [lDrop_eq, List.drop_zero] at k0
  exact k0
theorem ckS42 : lAll (ckSu 4) (leafs 4 2) = true := by
  have h0 : lAll (ckSu 4) (lDrop (leafs 4 2) 40) = true := by kernel_rfl
  have k0 := chunk ckS42_0 h0
  rw [lDrop_eq, List.drop_zero] at k0
  exact k0
theorem ckS43 : lAll (ckSu 4) (leafs 4 3) = true := by
  have h0 : lAll (ckSu 4) (lDrop (leafs 4 3) 40) = true := by kernel_rfl
  have k0 := chunk ckS43_0 h0
  rw [lDrop_eq, List.drop_zero] at k0
  exact k0
theorem ckS44 : lAll (ckSu 4) (leafs 4 4) = true := by
  have h0 : lAll (ckSu 4) (lDrop (leafs 4 4) 40) = true := by kernel_rfl
  have k0 := chunk ckS44_0 h0
  rw [lDrop_eq, List.drop_zero] at k0
  exact k0
theorem ckS45 : lAll (ckSu 4) (leafs 4 5) = true := by
  have e : leafs 4 5 = leafs 4 4 := by kernel_rfl
  rw [e]; exact ckS44
theorem ckS51 : lAll (ckSu 5) (leafs 5 1) = true := by
  have h0 : lAll (ckSu 5) (lDrop (leafs 5 1) 16) = true := by kernel_rfl
  have k0 := chunk ckS51_0 h0
  rw [lDrop_eq, List.drop_zero] at k0
  exact k0
theorem ckS52 : lAll (ckSu 5) (leafs 5 2) = true := by
  have h0 : lAll (ckSu 5) (lDrop (leafs 5 2) 16) = true := by kernel_rfl
  have k0 := chunk ckS52_0 h0
  rw [lDrop_eq, List.drop_zero] at k0
  exact k0
theorem ckS53 : lAll (ckSu 5) (leafs 5 3) = true := by
  have h0 : lAll (ckSu 5) (lDrop (leafs 5 3) 16) = true := by kernel_rfl
  have k0 := chunk ckS53_0 h0
  rw [lDrop_eq, List.drop_zero] at k0
  exact k0
theorem ckS54 : lAll (ckSu 5) (leafs 5 4) = true := by
  have h0 : lAll (ckSu 5) (lDrop (leafs 5 4) 16) = true := by kernel_rfl
  have k0 := chunk ckS54_0 h0
  rw [lDrop_eq, List.drop_zero] at k0
  exact k0
theorem ckS55 : lAll (ckSu 5) (leafs 5 5) = true := by
  have h0 : lAll (ckSu 5) (lDrop (leafs 5 5) 16) = true := by kernel_rfl
  have k0 := chunk ckS55_0 h0
  rw [lDrop_eq, List.drop_zero] at k0
  exact k0
theorem ckS56 : lAll (ckSu 5) (leafs 5 6) = true := by
  have e : leafs 5 6 = leafs 5 5 := by kernel_rfl
  rw [e]; exact ckS55
theorem ckS61 : lAll (ckSu 6) (leafs 6 1) = true := by
  have h0 : lAll (ckSu 6) (lDrop (leafs 6 1) 10) = true := by kernel_rfl
  have k0 := chunk ckS61_0 h0
  rw [lDrop_eq, List.drop_zero] at k0
  exact k0
theorem ckS62 : lAll (ckSu 6) (leafs 6 2) = true := by
  have h0 : lAll (ckSu 6) (lDrop (leafs 6 2) 20) = true := by kernel_rfl
  have k0 := chunk ckS62_10 h0
  have k1 := chunk ckS62_0 k0
  rw [lDrop_eq, List.drop_zero] at k1
  exact k1
theorem ckS63 : lAll (ckSu 6) (leafs 6 3) = true := by
  have h0 : lAll (ckSu 6) (lDrop (leafs 6 3) 30) = true := by kernel_rfl
  have k0 := chunk ckS63_20 h0
  have k1 := chunk ckS63_10 k0
  have k2 := chunk ckS63_0 k1
  rw [lDrop_eq, List.drop_zero] at k2
  exact k2
theorem ckS64 : lAll (ckSu 6) (leafs 6 4) = true := by
  have h0 : lAll (ckSu 6) (lDrop (leafs 6 4) 30) = true := by kernel_rfl
  have k0 := chunk ckS64_20 h0
  have k1 := chunk ckS64_10 k0
  have k2 := chunk ckS64_0 k1
  rw [lDrop_eq, List.drop_zero] at k2
  exact k2
theorem ckS65 : lAll (ckSu 6) (leafs 6 5) = true := by
  have h0 : lAll (ckSu 6) (lDrop (leafs 6 5) 40) = true := by kernel_rfl
  have k0 := chunk ckS65_30 h0
  have k1 := chunk ckS65_20 k0
  have k2 := chunk ckS65_10 k1
  have k3 := chunk ckS65_0 k2
  rw [lDrop_eq, List.drop_zero] at k3
  exact k3
theorem ckS66 : lAll (ckSu 6) (leafs 6 6) = true := by
  have h0 : lAll (ckSu 6) (lDrop (leafs 6 6) 40) = true := by kernel_rfl
  have k0 := chunk ckS66_30 h0
  have k1 := chunk ckS66_20 k0
  have k2 := chunk ckS66_10 k1
  have k3 := chunk ckS66_0 k2
  rw [lDrop_eq, List.drop_zero] at k3
  exact k3
theorem ckSu_all {L K : Nat} (h0 : 1 ≤ L) (hL : L ≤ 6) (k0 : 1 ≤ K) (hK : K ≤ L + 1) (k6 : K ≤ 6) {nd : Node} (h : nd ∈ nodeTab L K) (hr : nd.rest = 0) : ckSu L nd = true := by
  have hm : nd ∈ leafs L K := List.mem_filter.2 ⟨h, beq_t.2 hr⟩
  rcases six h0 hL with rfl | rfl | rfl | rfl | rfl | rfl
  · rcases (by omega : K = 1 ∨ K = 2) with rfl | rfl
    · exact lAll_mem ckS11 nd hm
    · exact lAll_mem ckS12 nd hm
  · rcases (by omega : K = 1 ∨ K = 2 ∨ K = 3) with rfl | rfl | rfl
    · exact lAll_mem ckS21 nd hm
    · exact lAll_mem ckS22 nd hm
    · exact lAll_mem ckS23 nd hm
  · rcases (by omega : K = 1 ∨ K = 2 ∨ K = 3 ∨ K = 4) with rfl | rfl | rfl | rfl
    · exact lAll_mem ckS31 nd hm
    · exact lAll_mem ckS32 nd hm
    · exact lAll_mem ckS33 nd hm
    · exact lAll_mem ckS34 nd hm
  · rcases (by omega : K = 1 ∨ K = 2 ∨ K = 3 ∨ K = 4 ∨ K = 5) with rfl | rfl | rfl | rfl | rfl
    · exact lAll_mem ckS41 nd hm
    · exact lAll_mem ckS42 nd hm
    · exact lAll_mem ckS43 nd hm
    · exact lAll_mem ckS44 nd hm
    · exact lAll_mem ckS45 nd hm
  · rcases (by omega : K = 1 ∨ K = 2 ∨ K = 3 ∨ K = 4 ∨ K = 5 ∨ K = 6) with rfl | rfl | rfl | rfl | rfl | rfl
    · exact lAll_mem ckS51 nd hm
    · exact lAll_mem ckS52 nd hm
    · exact lAll_mem ckS53 nd hm
    · exact lAll_mem ckS54 nd hm
    · exact lAll_mem ckS55 nd hm
    · exact lAll_mem ckS56 nd hm
  · rcases (by omega : K = 1 ∨ K = 2 ∨ K = 3 ∨ K = 4 ∨ K = 5 ∨ K = 6) with rfl | rfl | rfl | rfl | rfl | rfl
    · exact lAll_mem ckS61 nd hm
    · exact lAll_mem ckS62 nd hm
    · exact lAll_mem ckS63 nd hm
    · exact lAll_mem ckS64 nd hm
    · exact lAll_mem ckS65 nd hm
    · exact lAll_mem ckS66 nd hm
end Go.Sx
namespace Go.Sx
open Go.RowKit Go.Proofs
set_option maxRecDepth 100000
noncomputable def tripsE (nd : Node) (w : Nat) : List IE := cond (Nat.beq nd.rest 0) (nd.pre.map fun p => .lit (Int.ofNat p)) ((upN w 0).map fun k => .app 9702 (.lit (Int.ofNat nd.id)) (.lit (Int.ofNat k)) (.lit 0))
theorem tripsN_eq (nd : Node) (w : Nat) : tripsN nd w = lMap iA (tripsE nd w) := by
  unfold tripsN tripsE
  cases Nat.beq nd.rest 0 with
  | true => rw [cond_true, cond_true]; unfold litsN; rw [lMap_eq, lMap_eq, List.map_map]; rfl
  | false => rw [cond_false, cond_false, lMap_eq, lMap_eq, List.map_map]; rfl
noncomputable def tripZ (ρ : Rho) (W : List (Nat × Nat)) (nd : Node) : List Int := (tripsE nd (lenNd W nd)).map (IE.den ρ)
def WOk (L K : Nat) (W : List (Nat × Nat)) : Prop := ∀ nd ∈ nodeTab L K, nd.rest ≠ 0 → lLen nd.pre + 1 ≤ lenN W nd.id ∧ lenN W nd.id ≤ lLen nd.pre + nd.rest
def OkW (L K : Nat) (W : List (Nat × Nat)) (ρ : Rho) : Prop := ∀ nd ∈ nodeTab L K, nd.rest ≠ 0 → ∃ k l, kidsOf L K nd = k :: l ∧ fN ρ W nd = fN ρ W (minB (fN ρ W) k l) ∧ tripZ ρ W nd = tripZ ρ W (minB (fN ρ W) k l)
def okNd (L K : Nat) (W : List (Nat × Nat)) (ρ : Rho) : Prop := okSB L ρ ∧ (∀ c ∈ ivC (carryQ L K ++ startsQ), c.den ρ = true) ∧ OkW L K W ρ
noncomputable def pNd (L K : Nat) (W : List (Nat × Nat)) : Par := pOk fun ρ _ => okNd L K W ρ
theorem knN_ok {L K : Nat} {W : List (Nat × Nat)} {ρ : Rho} (h : okNd L K W ρ) : KnOk ρ (knN L K) := knOf_ok h.2.1 (fun c hc => by cases hc)
noncomputable def resW (W : List (Nat × Nat)) (ks : List Node) : List (Nat × Nat) := @List.rec Node (fun _ => List (Nat × Nat)) [] (fun k _ ih => cond (Nat.beq k.rest 0) ih ((k.id, lenN W k.id) :: ih)) ks
theorem resW_cons (W : List (Nat × Nat)) (k : Node) (ks : List Node) : resW W (k :: ks) = cond (Nat.beq k.rest 0) (resW W ks) ((k.id, lenN W k.id) :: resW W ks) := rfl
theorem lenN_res {W : List (Nat × Nat)} : ∀ (ks : List Node), ∀ k ∈ ks, k.rest ≠ 0 → lenN (resW W ks) k.id = lenN W k.id
  | [], k, hk, _ => by cases hk
  | a :: ks, k, hk, hr => by
    rw [resW_cons]
    cases ha : Nat.beq a.rest 0 with
    | true =>
      rw [cond_true]
      rcases List.mem_cons.1 hk with rfl | hk
      · exact absurd (beq_t.1 ha) hr
      · exact lenN_res ks k hk hr
    | false =>
      rw [cond_false]
      have e : lenN ((a.id, lenN W a.id) :: resW W ks) k.id = cond (Nat.beq a.id k.id) (lenN W a.id) (lenN (resW W ks) k.id) := by
        unfold lenN
        rw [lFind_cons]
        cases Nat.beq a.id k.id <;> rfl
      rw [e]
      cases hb : Nat.beq a.id k.id with
      | true => rw [cond_true, beq_t.1 hb]
      | false =>
        rw [cond_false]
        rcases List.mem_cons.1 hk with rfl | hk
        · rw [beq_t.2 rfl] at hb; cases hb
        · exact lenN_res ks k hk hr
theorem lenNd_res {W : List (Nat × Nat)} {ks : List Node} : ∀ k ∈ ks, lenNd (resW W ks) k = lenNd W k := fun k hk => by
  unfold lenNd
  cases hr : Nat.beq k.rest 0 with
  | true => rfl
  | false => rw [cond_false, cond_false]; exact lenN_res ks k hk (fun h => by rw [beq_t.2 h] at hr; cases hr)
theorem combos_cons (k : Node) (ks : List Node) : combos (k :: ks) = cond (Nat.beq k.rest 0) (combos ks) ((upN k.rest (lLen k.pre + 1)).flatMap fun w => (combos ks).map fun c => (k.id, w) :: c) := rfl
theorem resW_mem {W : List (Nat × Nat)} : ∀ (ks : List Node), (∀ k ∈ ks, k.rest ≠ 0 → lLen k.pre + 1 ≤ lenN W k.id ∧ lenN W k.id ≤ lLen k.pre + k.rest) → resW W ks ∈ combos ks
  | [], _ => List.mem_singleton.2 rfl
  | k :: ks, h => by
    have ih := resW_mem ks fun x hx => h x (List.mem_cons_of_mem _ hx)
    rw [resW_cons, combos_cons]
    cases hr : Nat.beq k.rest 0 with
    | true => exact ih
    | false =>
      have hk := h k List.mem_cons_self (fun e => by rw [beq_t.2 e] at hr; cases hr)
      rw [cond_false, cond_false]
      exact List.mem_flatMap.2 ⟨lenN W k.id, mem_upN _ _ _ hk.1 (by omega), List.mem_map.2 ⟨_, ih, rfl⟩⟩
theorem kids_mem {L K : Nat} {nd k : Node} (h : k ∈ kidsOf L K nd) : k ∈ nodeTab L K := (List.mem_filter.1 h).1
theorem vNd_mem {L : Nat} {arr : List Nat} {best : List AV} {b : Nat} {c : AObj} (h : (b, c) ∈ vNd L arr best) : (b, c) ∈ preN L ∨ (b = 2005 ∧ c = .cells best 78 true false) ∨ (b, c) ∈ sufN L arr := by
  unfold vNd at h
  rcases List.mem_append.1 h with h | h
  · exact .inl h
  · rcases List.mem_cons.1 h with h | h
    · cases h; exact .inr (.inl ⟨rfl, rfl⟩)
    · exact .inr (.inr h)
noncomputable def okH (n : Nat) (g : Nat × AObj) : Bool := and (plO g.2) (and (Nat.ble (g.1 + 1) n) (idsO n g.2))
theorem preN_ok {L n : Nat} (h0 : 1 ≤ L) (hL : L ≤ 6) (hn : n = 2012 ∨ n = 2013) : lAll (okH n) (preN L) = true := by
  rcases hn with rfl | rfl <;> rcases six h0 hL with rfl | rfl | rfl | rfl | rfl | rfl <;> kernel_rfl
theorem sufN_ok0 {L n : Nat} (h0 : 1 ≤ L) (hL : L ≤ 6) (hn : n = 2012 ∨ n = 2013) : lAll (okH n) (sufN L []) = true := by
  rcases hn with rfl | rfl <;> rcases six h0 hL with rfl | rfl | rfl | rfl | rfl | rfl <;> kernel_rfl
theorem plsN : ∀ l : List Nat, plVs (litsN l) = true
  | [] => rfl
  | _ :: l => plsN l
theorem sufN_mem {L : Nat} {arr : List Nat} {b : Nat} {c : AObj} (h : (b, c) ∈ sufN L arr) : (b, c) ∈ sufN L [] ∨ (b = 2010 ∧ c = .cells (litsN arr) 104 true false) := by
  unfold sufN at h ⊢
  simp only [List.mem_cons, List.not_mem_nil, or_false] at h ⊢
  rcases h with h | h | h | h | h | h
  · exact .inl (.inl h)
  · exact .inl (.inr (.inl h))
  · exact .inl (.inr (.inr (.inl h)))
  · exact .inl (.inr (.inr (.inr (.inl h))))
  · cases h; exact .inr ⟨rfl, rfl⟩
  · exact .inl (.inr (.inr (.inr (.inr (.inr h)))))
theorem sufN_ok {L n : Nat} (h0 : 1 ≤ L) (hL : L ≤ 6) (hn : n = 2012 ∨ n = 2013) {arr : List Nat} {b : Nat} {c : AObj} (h : (b, c) ∈ sufN L arr) : okH n (b, c) = true := by
  rcases sufN_mem h with h | ⟨rfl, rfl⟩
  · exact lAll_mem (sufN_ok0 h0 hL hn) _ h
  · unfold okH
    have e1 : plO (.cells (litsN arr) 104 true false) = true := plsN arr
    have e2 : idsO n (.cells (litsN arr) 104 true false) = true := idsN n arr
    have e3 : Nat.ble (2010 + 1) n = true := by rcases hn with rfl | rfl <;> rfl
    rw [e1, e2, e3]; rfl
theorem lAll_of {α : Type} {p : α → Bool} : ∀ {l : List α}, (∀ a ∈ l, p a = true) → lAll p l = true
  | [], _ => rfl
  | a :: _, h => lAll_cons (h a List.mem_cons_self) (lAll_of fun b hb => h b (List.mem_cons_of_mem _ hb))
theorem viewN_ok {L n : Nat} (h0 : 1 ≤ L) (hL : L ≤ 6) (hn : n = 2012 ∨ n = 2013) {arr : List Nat} {best : List AV} (hb : idsLts n best = true) : viewOk n (vNd L arr best) = true := by
  unfold viewOk
  rw [Bool.and_eq_true]
  refine ⟨rfl, lAll_of fun g hg => ?_⟩
  obtain ⟨b, c⟩ := g
  rcases vNd_mem hg with hm | ⟨rfl, rfl⟩ | hm
  · have := lAll_mem (preN_ok h0 hL hn) _ hm
    unfold okH at this
    rw [Bool.and_eq_true] at this; exact this.2
  · have e3 : Nat.ble (2005 + 1) n = true := by rcases hn with rfl | rfl <;> rfl
    rw [Bool.and_eq_true]; exact ⟨e3, hb⟩
  · have := sufN_ok h0 hL hn hm
    unfold okH at this
    rw [Bool.and_eq_true] at this; exact this.2
theorem new_same {p : Par} {L b : Nat} {W : List (Nat × Nat)} {nd w : Node} {ρ : Rho} {r : AV × Heap} (_ : b = 2012 ∨ b = 2013) (he : encN L b nd r = .tup [ln 1, ln (lenNd W w), iA (sN w.id), .agg (tripsN w (lenNd W w)), ln (b + 1)]) (e1 : fN ρ W nd = fN ρ W w) (e2 : tripZ ρ W nd = tripZ ρ W w) :
    SameV ρ r.1 ρ (lfNdB L W nd b).1 ∧ SameH p p ρ r.2 ρ (lfNdB L W nd b).2 := by
  obtain ⟨q1, q2, q3⟩ := encN_all (by rw [he]; exact fun h => by cases h)
  obtain ⟨q4, q5, q6⟩ := encN_new he
  have el : lenNd W nd = lenNd W w := congrArg Prod.snd e1
  have ei : ρ.iv (400 + nd.id) = ρ.iv (400 + w.id) := congrArg Prod.fst e1
  refine ⟨by rw [q1]; exact SameV.refl _ _, q6.trans (viewA_next _ _).symm, fun j o g => ?_⟩
  have hm := viewA_get _ _ _ _ g
  rcases List.mem_append.1 hm with hm | hm
  · rcases vNd_mem hm with hm | ⟨rfl, rfl⟩ | hm
    · exact ⟨o, allO_get q2 hm, SameA.refl o⟩
    · refine ⟨_, q4, SameA.cells rfl ?_⟩
      rw [el]
      exact SameL.cons (SameV.sliceX _ _ _ _) (SameL.cons (SameV.int ei.symm) SameL.nil)
    · exact ⟨o, allO_get q3 hm, SameA.refl o⟩
  · rw [List.mem_singleton] at hm
    cases hm
    refine ⟨_, q5, SameA.cells rfl ?_⟩
    rw [tripsN_eq, tripsN_eq]
    exact same_ints e2.symm
theorem old_same {p : Par} {L n : Nat} {s : IE} {nd : Node} {ρ : Rho} {r : AV × Heap} (he : encN L 2013 nd r = .tup [ln 0, ln n, iA s, ln 2013]) : SameV ρ r.1 ρ (lfNdA L nd (bestC n s)).1 ∧ SameH p p ρ r.2 ρ (lfNdA L nd (bestC n s)).2 := by
  obtain ⟨q1, q2, q3⟩ := encN_all (by rw [he]; exact fun h => by cases h)
  obtain ⟨q4, q6⟩ := encN_old he
  refine ⟨by rw [q1]; exact SameV.refl _ _, q6.trans (viewA_next _ _).symm, fun j o g => ?_⟩
  rcases vNd_mem (viewA_get _ _ _ _ g) with hm | ⟨rfl, rfl⟩ | hm
  · exact ⟨o, allO_get q2 hm, SameA.refl o⟩
  · exact ⟨_, q4, SameA.refl _⟩
  · exact ⟨o, allO_get q3 hm, SameA.refl o⟩
structure Base0 (L K : Nat) (W : List (Nat × Nat)) : Prop where
  h0 : 1 ≤ L
  hL : L ≤ 6
  k0 : 1 ≤ K
  hK : K ≤ L + 1
  k6 : K ≤ 6
  w : WOk L K W
structure TrySaid (L K : Nat) (W : List (Nat × Nat)) (nd : Node) : Prop where
  nil : frst nd = true → CallOk (pNd L K W) 62 (argsNd (lLen nd.pre) nd.rest) (viewA 2012 (vNd L nd.arrB [.nilslice, ln 0])) (.ret (lfNdB L W nd 2012))
  old : frst nd = false → ∀ n s, 1 ≤ n → n ≤ L → CallOk (pNd L K W) 62 (argsNd (lLen nd.pre) nd.rest) (viewA 2013 (vNd L nd.arrB (bestC n s))) (saidN L W nd n s)
theorem ck_one {L K : Nat} {W : List (Nat × Nat)} (H : Base0 L K W) {nd : Node} (h : nd ∈ nodeTab L K) : ckOne L K nd (resW W (kidsOf L K nd)) = true :=
  lAll_mem (ck_all H.h0 H.hL H.k0 H.hK H.k6 h) _ (resW_mem _ fun k hk hr => H.w k (kids_mem hk) hr)
theorem kids_win {L K : Nat} {W : List (Nat × Nat)} {nd : Node} (h : nd ∈ nodeTab L K) {ρ : Rho} (hW : OkW L K W ρ) : ∃ k l, allN L K nd = k :: l ∧ (∀ x ∈ k :: l, lenNd (resW W (kidsOf L K nd)) x = lenNd W x) ∧ fN ρ W nd = fN ρ W (minB (fN ρ W) k l) ∧ tripZ ρ W nd = tripZ ρ W (minB (fN ρ W) k l) := by
  unfold allN
  cases hr : Nat.beq nd.rest 0 with
  | true =>
    refine ⟨nd, [], rfl, fun x hx => ?_, rfl, rfl⟩
    rw [List.mem_singleton] at hx; subst hx
    unfold lenNd; rw [hr]; rfl
  | false =>
    obtain ⟨k, l, e0, e1, e2⟩ := hW nd h (fun e => by rw [beq_t.2 e] at hr; cases hr)
    refine ⟨k, l, e0, fun x hx => lenNd_res x (by rw [e0]; exact hx), e1, e2⟩
section
variable {L K : Nat} {W : List (Nat × Nat)} (H : Base0 L K W) {nd : Node} (hnd : nd ∈ nodeTab L K)
include H hnd
theorem try_old {n : Nat} (hf : frst nd = false) (h1 : 1 ≤ n) (hn : n ≤ L) (B : TabOk (pNd L K W) Sx.Tryd.tt.get (tbNd L nd (kidsOf L K nd) (resW W (kidsOf L K nd)))) :
    CallOk (pNd L K W) 62 (argsNd (lLen nd.pre) nd.rest) (viewA 2013 (vNd L nd.arrB (bestC n (.var 520)))) (saidN L W nd n (.var 520)) := by
  have base := eval_ok B 60 62 (argsNd (lLen nd.pre) nd.rest) (viewA 2013 (vNd L nd.arrB (bestC n (.var 520))))
  have up : upA 0 (vNd L nd.arrB (bestC n (.var 520))) = true := rfl
  have fr : CallOk (pNd L K W) 62 (argsNd (lLen nd.pre) nd.rest) (viewA 2013 (vNd L nd.arrB (bestC n (.var 520)))) (runNd L K (resW W (kidsOf L K nd)) nd 2013 (bestC n (.var 520))) := base.frame (n := 2013) (l := vNd L nd.arrB (bestC n (.var 520))) (by omega) rfl (viewN_ok H.h0 H.hL (.inr rfl) rfl)
    (fun g hg => ⟨g.2, viewA_mem 2013 _ 0 up g hg, .refl _⟩) (by rw [viewA_next]; exact Nat.le_refl _) (nwB 2013)
  have hck : ckNd L K (resW W (kidsOf L K nd)) nd n = true := by
    have := ck_one H hnd
    unfold ckOne at this
    rw [hf, cond_false] at this
    exact lAll_at this h1 (by omega)
  refine CallOk.read (p0 := pNd L K W) (p := pNd L K W) rfl fr fun ρ b hok Q k => ⟨ρ, hok, SameL.refl _ _, ⟨rfl, fun j o g => ⟨o, g, SameA.refl o⟩⟩, ?_⟩
  obtain ⟨_, hA, _⟩ := hok
  have hA : okNd L K W ρ := hA
  refine pruneT_holds (knN_ok hA) _ (T.holds_enc (eqTF_eq _ _ hck) ?_)
  obtain ⟨k0, l0, e0, e3, e1, e2⟩ := kids_win hnd hA.2.2
  rw [e0, seqT_congr (W := W) (k0 :: l0) none e3 (fun x hx => by cases hx)]
  refine seqT_holds _ _ ?_
  rw [minB_none, ← e1]
  have kk := sooT_inv k
  have kk : if lexP (fN ρ W nd) ((IE.var 520).den ρ, n) then (T.ret (lfNdB L W nd 2013)).Holds ρ Q else (T.ret (lfNdA L nd (bestC n (.var 520)))).Holds ρ Q := kk
  by_cases hx : lexP (fN ρ W nd) ((IE.var 520).den ρ, n)
  · rw [if_pos hx] at kk ⊢
    intro r he
    obtain ⟨s1, s2⟩ := new_same (p := pNd L K W) (.inr rfl) he e1 e2
    exact ⟨_, kk, s1, s2⟩
  · rw [if_neg hx] at kk ⊢
    intro r he
    obtain ⟨s1, s2⟩ := old_same (p := pNd L K W) he
    exact ⟨_, kk, s1, s2⟩
theorem try_nil (hf : frst nd = true) (B : TabOk (pNd L K W) Sx.Tryd.tt.get (tbNd L nd (kidsOf L K nd) (resW W (kidsOf L K nd)))) :
    CallOk (pNd L K W) 62 (argsNd (lLen nd.pre) nd.rest) (viewA 2012 (vNd L nd.arrB [.nilslice, ln 0])) (.ret (lfNdB L W nd 2012)) := by
  have base := eval_ok B 60 62 (argsNd (lLen nd.pre) nd.rest) (viewA 2012 (vNd L nd.arrB [.nilslice, ln 0]))
  have up : upA 0 (vNd L nd.arrB [.nilslice, ln 0]) = true := rfl
  have fr : CallOk (pNd L K W) 62 (argsNd (lLen nd.pre) nd.rest) (viewA 2012 (vNd L nd.arrB [.nilslice, ln 0])) (runNd L K (resW W (kidsOf L K nd)) nd 2012 [.nilslice, ln 0]) := base.frame (n := 2012) (l := vNd L nd.arrB [.nilslice, ln 0]) (by omega) rfl (viewN_ok H.h0 H.hL (.inl rfl) rfl)
    (fun g hg => ⟨g.2, viewA_mem 2012 _ 0 up g hg, .refl _⟩) (by rw [viewA_next]; exact Nat.le_refl _) (nwB 2012)
  have hck : ckNi L K (resW W (kidsOf L K nd)) nd = true := by
    have := ck_one H hnd
    unfold ckOne at this
    rw [hf, cond_true] at this; exact this
  refine CallOk.read (p0 := pNd L K W) (p := pNd L K W) rfl fr fun ρ b hok Q k => ⟨ρ, hok, SameL.refl _ _, ⟨rfl, fun j o g => ⟨o, g, SameA.refl o⟩⟩, ?_⟩
  obtain ⟨_, hA, _⟩ := hok
  have hA : okNd L K W ρ := hA
  have k : Q (lfNdB L W nd 2012) := k
  refine pruneT_holds (knN_ok hA) _ (T.holds_enc (eqTF_eq _ _ hck) ?_)
  obtain ⟨k0, l0, e0, e3, e1, e2⟩ := kids_win hnd hA.2.2
  rw [e0]
  show (seqT (resW W (kidsOf L K nd)) 2012 0 (.lit 0) l0 (some k0)).Holds ρ _
  rw [seqT_congr (W := W) l0 (some k0) (fun x hx => e3 x (List.mem_cons_of_mem _ hx)) (fun x hx => by cases hx; exact e3 _ List.mem_cons_self)]
  refine seqT_holds _ _ ?_
  rw [minB_some]
  intro r he
  obtain ⟨s1, s2⟩ := new_same (p := pNd L K W) (.inl rfl) he e1 e2
  exact ⟨_, k, s1, s2⟩
end
end Go.Sx
namespace Go.Sx
open Go.RowKit Go.Proofs
set_option maxRecDepth 100000
theorem okBook_like {ρ ρ' : Rho} (h : ∀ j, j < 100 → ρ'.iv j = ρ.iv j) (hb : okBook ρ) : okBook ρ' := by
  have e0 := h 60 (by omega); have e1 := h 61 (by omega); have e2 := h 62 (by omega); have e3 := h 63 (by omega); have e4 := h 64 (by omega); have e5 := h 65 (by omega)
  obtain ⟨h1, h2⟩ := hb
  refine ⟨?_, ?_⟩
  · simp only [bookQ, ivC, List.forall_mem_cons, BE.t_leq, IE.den_lit, IE.den_var, List.not_mem_nil, false_implies, implies_true, and_true] at h1 ⊢
    omega
  · simp only [bookLe, leV, List.forall_mem_cons, BE.t_leq, IE.den_var, List.not_mem_nil, false_implies, implies_true, and_true] at h2 ⊢
    omega
theorem okBN_over {L : Nat} (hL : L ≤ 6) {ρ : Rho} (g : Nat → Int) (h : okBN L ρ) : okBN L (ρ.over g) := by
  obtain ⟨⟨h1, h2, h3, h4⟩, h5, h6⟩ := h
  have e : ∀ i, i < 500 → (ρ.over g).iv i = ρ.iv i := fun i hi => over_lt hi
  refine ⟨⟨okT_over hL g h1, ofilm_over hL g h2, h3, okBook_like (fun j hj => e j (by omega)) h4⟩, fun j t hj ht => ?_, fun r i hr hi => ?_⟩
  · have k := h5 j t hj ht
    have ho : (oB L j).den (ρ.over g) = (oB L j).den ρ := rfl
    rw [e (100 + 4 * j + 2 * t) (by omega), e (101 + 4 * j + 2 * t) (by omega), e 60 (by omega), ho, k.1, k.2]
    have hr : ∀ o, loZ (ρ.over g) o (ρ.iv 60 + t) = loZ ρ o (ρ.iv 60 + t) ∧ hiZ (ρ.over g) o (ρ.iv 60 + t) = hiZ ρ o (ρ.iv 60 + t) ∨ ¬ o < 6 := fun o => by
      by_cases ho : o < 6
      · left
        unfold loZ hiZ
        rw [e (14 + 6 * o) (by omega), e (15 + 6 * o) (by omega), e 0 (by omega), e 1 (by omega), e 2 (by omega), e 3 (by omega)]
        exact ⟨rfl, rfl⟩
      · exact .inr ho
    have hb := oB_in (L := L) (by omega) hL h1 hj
    rcases hr ((oB L j).den ρ).toNat with hr | hr
    · rw [hr.1, hr.2]; exact ⟨rfl, rfl⟩
    · omega
  · rw [e 60 (by omega), e (100 + 4 * r + i) (by omega)]
    exact h6 r i hr hi
noncomputable def varsS (plan : List Nat) : Bool := and (varsI 200 (surelyE plan)) (varsI 200 (perhapsE plan))
theorem varsS_all : lAll (fun L => and (Nat.ble (lLen (plansL L)) 32) (lAll varsS (plansL L))) [1, 2, 3, 4, 5, 6] = true := by kernel_rfl
theorem mem_six {L : Nat} (h0 : 1 ≤ L) (hL : L ≤ 6) : L ∈ [1, 2, 3, 4, 5, 6] := by
  rcases six h0 hL with rfl | rfl | rfl | rfl | rfl | rfl <;> decide
theorem plan_vars {L : Nat} (h0 : 1 ≤ L) (hL : L ≤ 6) {i : Nat} {plan : List Nat} (h : (plansL L)[i]? = some plan) : i < 32 ∧ varsI 200 (surelyE plan) = true ∧ varsI 200 (perhapsE plan) = true := by
  have hv := lAll_mem varsS_all L (mem_six h0 hL)
  rw [Bool.and_eq_true] at hv
  have hp := lAll_mem hv.2 plan (List.mem_of_getElem? h)
  unfold varsS at hp
  rw [Bool.and_eq_true] at hp
  have hl := ble_t.1 hv.1
  rw [lLen_eq] at hl
  have := (List.getElem?_eq_some_iff.1 h).1
  exact ⟨by omega, hp.1, hp.2⟩
theorem vars_like {ρ ρ' : Rho} (h : ∀ i, i < 200 → ρ'.iv i = ρ.iv i) (hf : ρ'.fi = ρ.fi ∧ ρ'.fb = ρ.fb) {e : IE} (he : varsI 200 e = true) : e.den ρ' = e.den ρ := varsI_den (n := 200) h hf e he
theorem okSt_over {L : Nat} (h0 : 1 ≤ L) (hL : L ≤ 6) {ρ : Rho} (g : Nat → Int) (h : OkSt L ρ) : OkSt L (ρ.over g) := by
  refine ⟨fun i plan hi => ?_, fun i plan hi => ?_⟩
  · obtain ⟨hv, h1, h2⟩ := plan_vars h0 hL hi
    rw [over_lt (by omega), vars_like (fun i hi => over_lt (by omega)) ⟨rfl, rfl⟩ h1]
    exact h.sure i plan hi
  · obtain ⟨hv, h1, h2⟩ := plan_vars h0 hL hi
    rw [over_lt (by omega), vars_like (fun i hi => over_lt (by omega)) ⟨rfl, rfl⟩ h2]
    exact h.may i plan hi
theorem ivC_over {ρ : Rho} (g : Nat → Int) : ∀ (l : List (Nat × Int × Int)), lAll (fun q : Nat × Int × Int => Nat.ble (q.1 + 1) 500) l = true → (∀ c ∈ ivC l, c.den ρ = true) → ∀ c ∈ ivC l, c.den (ρ.over g) = true
  | [], _, _, c, hc => by cases hc
  | q :: l, hv, h, c, hc => by
    have hq := ble_t.1 (lAll_mem hv q List.mem_cons_self)
    simp only [ivC, List.mem_cons] at hc h
    have r : ∀ c, c ∈ ivC l → c.den ρ = true := fun c hc => h c (.inr (.inr hc))
    rcases hc with rfl | rfl | hc
    · have := h _ (.inl rfl)
      rw [BE.t_leq, IE.den_lit, IE.den_var] at this ⊢; rw [over_lt (by omega)]; exact this
    · have := h _ (.inr (.inl rfl))
      rw [BE.t_leq, IE.den_lit, IE.den_var] at this ⊢; rw [over_lt (by omega)]; exact this
    · refine ivC_over g l ?_ r c hc
      have hv : cond (Nat.ble (q.1 + 1) 500) (lAll (fun q : Nat × Int × Int => Nat.ble (q.1 + 1) 500) l) false = true := hv
      rw [ble_t.2 hq, cond_true] at hv; exact hv
theorem minB_congr {α : Type} {f g : α → Int × Nat} : ∀ (l : List α) (a : α), (∀ x ∈ a :: l, f x = g x) → minB f a l = minB g a l
  | [], _, _ => rfl
  | x :: l, a, h => by
    have ha := h a List.mem_cons_self
    have hx := h x (List.mem_cons_of_mem _ List.mem_cons_self)
    have e : ∀ f : α → Int × Nat, minB f a (x :: l) = minB f (if lexP (f x) (f a) then x else a) l := fun f => rfl
    rw [e, e, ha, hx]
    refine minB_congr l _ fun y hy => ?_
    rcases List.mem_cons.1 hy with rfl | hy
    · split
      · exact hx
      · exact ha
    · exact h y (List.mem_cons_of_mem _ (List.mem_cons_of_mem _ hy))
noncomputable def nodeCk (L K : Nat) : Bool := lAll (fun nd => and (Nat.ble (nd.id + 1) 64) (lAll (fun k => Nat.ble (k.rest + 1) nd.rest) (kidsOf L K nd))) (nodeTab L K)
theorem nodeCk_all : lAll (fun L => lAll (nodeCk L) [1, 2, 3, 4, 5, 6]) [1, 2, 3, 4, 5, 6] = true := by kernel_rfl
theorem node_ck {L K : Nat} (h0 : 1 ≤ L) (hL : L ≤ 6) (k0 : 1 ≤ K) (k6 : K ≤ 6) {nd : Node} (h : nd ∈ nodeTab L K) : nd.id < 64 ∧ ∀ k ∈ kidsOf L K nd, k.rest < nd.rest := by
  have := lAll_mem (lAll_mem (lAll_mem nodeCk_all L (mem_six h0 hL)) K (mem_six k0 k6)) nd h
  rw [Bool.and_eq_true] at this
  exact ⟨ble_t.1 this.1, fun k hk => ble_t.1 (lAll_mem this.2 k hk)⟩
section
variable {L K : Nat} {W : List (Nat × Nat)} (H : Base0 L K W)
include H
theorem fN_over {ρ : Rho} (g : Nat → Int) {nd : Node} (h : nd ∈ nodeTab L K) : fN (ρ.over g) W nd = fN ρ W nd := by
  have := (node_ck H.h0 H.hL H.k0 H.k6 h).1
  unfold fN
  rw [over_lt (by omega)]
omit H in
theorem tripZ_over {ρ : Rho} (g : Nat → Int) (nd : Node) : tripZ (ρ.over g) W nd = tripZ ρ W nd := by
  unfold tripZ tripsE
  cases Nat.beq nd.rest 0 with
  | true => rw [cond_true, List.map_map, List.map_map]; rfl
  | false => rw [cond_false, List.map_map, List.map_map]; rfl
theorem okNd_over {ρ : Rho} (g : Nat → Int) (h : okNd L K W ρ) : okNd L K W (ρ.over g) := by
  obtain ⟨⟨h1, h2⟩, h3, h4⟩ := h
  refine ⟨⟨okBN_over H.hL g h1, okSt_over H.h0 H.hL g h2⟩, ivC_over g _ rfl h3, fun nd hnd hr => ?_⟩
  obtain ⟨k, l, e0, e1, e2⟩ := h4 nd hnd hr
  have em : minB (fN (ρ.over g) W) k l = minB (fN ρ W) k l := minB_congr l k fun x hx => fN_over H g (kids_mem (by rw [e0]; exact hx))
  have hw : minB (fN ρ W) k l ∈ nodeTab L K := by
    have : minB (fN ρ W) k l ∈ k :: l := by
      rcases minB_mem (fN ρ W) l k with h | h
      · rw [h]; exact List.mem_cons_self
      · exact List.mem_cons_of_mem _ h
    exact kids_mem (nd := nd) (by rw [e0]; exact this)
  refine ⟨k, l, e0, ?_, ?_⟩
  · rw [em, fN_over H g hnd, fN_over H g hw]; exact e1
  · rw [em, tripZ_over, tripZ_over]; exact e2
omit H in
theorem vNd_same {p p' : Par} (hP : p.P = p'.P) (h0 : 1 ≤ L) (hL : L ≤ 6) {ρ ρ' : Rho} (hA : Alike ρ ρ') {P : Program} {RC : Nat → Nat → List Nat → Code → Code → Prop} {ok ok' : Rho → (Nat → Obj → Prop) → Prop} (e1 : p = ⟨P, RC, ok⟩) (e2 : p' = ⟨P, RC, ok'⟩) {arr : List Nat} {best best' : List AV} (hb : SameL ρ best ρ' best') {b : Nat} {o : AObj} (hm : (b, o) ∈ vNd L arr best') :
    ∃ o0, (b, o0) ∈ vNd L arr best ∧ SameA p p' ρ o0 ρ' o := by
  rcases vNd_mem hm with hm | ⟨rfl, rfl⟩ | hm
  · have := lAll_mem (preN_ok h0 hL (.inl rfl)) _ hm
    unfold okH at this
    rw [Bool.and_eq_true] at this
    subst e1; subst e2
    exact ⟨o, List.mem_append_left _ hm, SameA.pl hA this.1⟩
  · exact ⟨_, List.mem_append_right _ List.mem_cons_self, SameA.cells hP hb⟩
  · have := sufN_ok h0 hL (.inl rfl) hm
    unfold okH at this
    rw [Bool.and_eq_true] at this
    subst e1; subst e2
    exact ⟨o, List.mem_append_right _ (List.mem_cons_of_mem _ hm), SameA.pl hA this.1⟩
theorem try_from {nd : Node} (hnd : nd ∈ nodeTab L K) {n : Nat} (s : IE) (hc : CallOk (pNd L K W) 62 (argsNd (lLen nd.pre) nd.rest) (viewA 2013 (vNd L nd.arrB (bestC n (.var 520)))) (saidN L W nd n (.var 520))) :
    CallOk (pNd L K W) 62 (argsNd (lLen nd.pre) nd.rest) (viewA 2013 (vNd L nd.arrB (bestC n s))) (saidN L W nd n s) := by
  refine CallOk.read (p0 := pNd L K W) (p := pNd L K W) rfl hc fun ρ b ⟨mm, k1, k2⟩ Q k => ?_
  let g : Nat → Int := fun _ => s.den ρ
  have hA : Alike ρ (ρ.over g) := Rho.over_alike ρ g
  have es : (IE.var 520).den (ρ.over g) = s.den ρ := rfl
  have hid := (node_ck H.h0 H.hL H.k0 H.k6 hnd).1
  have ei : (sN nd.id).den (ρ.over g) = (sN nd.id).den ρ := over_lt (by omega)
  have hb : SameL ρ (bestC n s) (ρ.over g) (bestC n (.var 520)) := SameL.cons (SameV.sliceX _ _ _ _) (SameL.cons (SameV.int es.symm) SameL.nil)
  refine ⟨ρ.over g, ⟨mm, okNd_over H g k1, k2⟩, SameL.pl hA _ rfl, ⟨by rw [viewA_next, viewA_next], fun j o hg => ?_⟩, ?_⟩
  · obtain ⟨o0, m1, m2⟩ := vNd_same (p := pNd L K W) (p' := pNd L K W) rfl H.h0 H.hL hA rfl rfl hb (viewA_get _ _ _ _ hg)
    exact ⟨o0, viewA_mem 2013 _ 0 rfl _ m1, m2⟩
  · have kk := sooT_inv k
    refine sooT_holds ?_
    rw [es, ei]
    split
    · rename_i hx
      rw [if_pos hx] at kk
      refine ⟨_, kk, SameV.bool rfl, (viewA_next _ _).trans (viewA_next _ _).symm, fun j o hg => ?_⟩
      have hm := viewA_get _ _ _ _ hg
      rcases List.mem_append.1 hm with hm | hm
      · have hb2 : SameL (ρ.over g) [.sliceX 2013 1 0 (lenNd W nd), iA (sN nd.id)] ρ [.sliceX 2013 1 0 (lenNd W nd), iA (sN nd.id)] := SameL.cons (SameV.sliceX _ _ _ _) (SameL.cons (SameV.int ei) SameL.nil)
        obtain ⟨o0, m1, m2⟩ := vNd_same (p := pNd L K W) (p' := pNd L K W) rfl H.h0 H.hL hA.symm rfl rfl hb2 hm
        exact ⟨o0, viewA_mem 2014 _ 0 rfl _ (List.mem_append_left _ m1), m2⟩
      · rw [List.mem_singleton] at hm
        cases hm
        refine ⟨_, viewA_mem 2014 _ 0 rfl (2013, .cells (tripsN nd (lenNd W nd)) 3 true true) (List.mem_append_right _ (List.mem_singleton.2 rfl)), SameA.cells rfl ?_⟩
        rw [tripsN_eq]
        exact same_ints (tripZ_over g nd)
    · rename_i hx
      rw [if_neg hx] at kk
      refine ⟨_, kk, SameV.bool rfl, (viewA_next _ _).trans (viewA_next _ _).symm, fun j o hg => ?_⟩
      obtain ⟨o0, m1, m2⟩ := vNd_same (p := pNd L K W) (p' := pNd L K W) rfl H.h0 H.hL hA.symm rfl rfl (SameL.symm hb) (viewA_get _ _ _ _ hg)
      exact ⟨o0, viewA_mem 2013 _ 0 rfl _ m1, m2⟩
end
theorem findN_some {p : Node → Bool} : ∀ {l : List Node} {a : Node}, findN p l = some a → a ∈ l ∧ p a = true
  | [], a, h => by cases h
  | x :: l, a, h => by
    have h : cond (p x) (some x) (findN p l) = some a := h
    cases hx : p x with
    | true => rw [hx] at h; cases h; exact ⟨List.mem_cons_self, hx⟩
    | false => rw [hx] at h; exact ⟨List.mem_cons_of_mem _ (findN_some h).1, (findN_some h).2⟩
theorem saidN_congr {L : Nat} {W W' : List (Nat × Nat)} {nd : Node} (h : lenNd W' nd = lenNd W nd) (n : Nat) (s : IE) : saidN L W' nd n s = saidN L W nd n s := by unfold saidN lfNdB; rw [h]
theorem lfNdB_congr {L : Nat} {W W' : List (Nat × Nat)} {nd : Node} (h : lenNd W' nd = lenNd W nd) (b : Nat) : lfNdB L W' nd b = lfNdB L W nd b := by unfold lfNdB; rw [h]
theorem orcTry_ok {L K : Nat} {W W' : List (Nat × Nat)} (H : Base0 L K W) {ks : List Node} (hks : ∀ k ∈ ks, TrySaid L K W k) (hW : ∀ k ∈ ks, lenNd W' k = lenNd W k) {args : List AV} {h : Heap} {t : T (AV × Heap)} (e : orcTry L ks W' args h = some t) : CallOk (pNd L K W) 62 args h t := by
  unfold orcTry at e
  split at e
  · split at e
    · rename_i nd hnd
      have hm := (findN_some hnd).1
      have S := hks nd hm
      have hl := hW nd hm
      cases hf : frst nd with
      | true =>
        rw [hf, cond_true, lfNdB_congr hl] at e
        exact smallO_ok (S.nil hf) (by omega) rfl (viewN_ok H.h0 H.hL (.inl rfl) rfl) e
      | false =>
        rw [hf, cond_false] at e
        split at e
        · rename_i d _ _ n _ s _ _ _ _
          obtain ⟨h1, e⟩ := cond_some e
          rw [Bool.and_eq_true] at h1
          rw [saidN_congr hl] at e
          have hc := S.old hf n s (ble_t.1 h1.1) (ble_t.1 h1.2)
          cases hd : Nat.beq d 2012 with
          | true =>
            rw [hd, cond_true] at e
            exact smallO_ok hc (by omega) rfl (viewN_ok H.h0 H.hL (.inr rfl) rfl) e
          | false =>
            rw [hd, cond_false] at e
            exact aliasO_ok hc (by omega) (by omega) rfl (viewN_ok H.h0 H.hL (.inr rfl) rfl) e
        · cases e
    · cases e
  · cases e
theorem orcSu_ok {L K : Nat} {W : List (Nat × Nat)} (H : Base0 L K W) {nd : Node} (hnd : nd ∈ nodeTab L K) {args : List AV} {h : Heap} {t : T (AV × Heap)} (e : orcSu L nd args h = some t) : CallOk (pNd L K W) 34 args h t := by
  unfold orcSu at e
  obtain ⟨hr, e⟩ := cond_some e
  exact smallO_ok (CallOk.weak (ok0 := fun ρ _ => okSB L ρ) (fun ρ m k => k.1) (surely_said H.h0 H.hL (ckSu_all H.h0 H.hL H.k0 H.hK H.k6 hnd (beq_t.1 hr)))) (by omega) rfl (viewSu_ok H.h0 H.hL nd.arrB) e
theorem tabsNd {L K : Nat} {W W' : List (Nat × Nat)} (H : Base0 L K W) {nd : Node} (hnd : nd ∈ nodeTab L K) {ks : List Node} (hks : ∀ k ∈ ks, TrySaid L K W k) (hW : ∀ k ∈ ks, lenNd W' k = lenNd W k) : TabOk (pNd L K W) Sx.Tryd.tt.get (tbNd L nd ks W') := by
  refine Tryd.tab (orcNd L nd ks W') (fun f args h t e => ?_) 2000
  unfold orcNd at e
  cases h1 : Nat.beq f 34 with
  | true => rw [h1, cond_true] at e; rw [beq_t.1 h1]; exact orcSu_ok H hnd e
  | false =>
    rw [h1, cond_false] at e
    obtain ⟨h2, e⟩ := cond_some e
    rw [beq_t.1 h2]
    exact orcTry_ok H hks hW e
theorem try_said {L K : Nat} {W : List (Nat × Nat)} (H : Base0 L K W) : ∀ (r : Nat) (nd : Node), nd.rest = r → nd ∈ nodeTab L K → TrySaid L K W nd := by
  intro r
  induction r using Nat.strongRecOn with
  | ind r ih =>
    intro nd hr hnd
    have hk := (node_ck H.h0 H.hL H.k0 H.k6 hnd).2
    have B := tabsNd (W' := resW W (kidsOf L K nd)) H hnd (ks := kidsOf L K nd) (fun k hkk => ih k.rest (by have := hk k hkk; omega) k rfl (kids_mem hkk)) lenNd_res
    exact ⟨fun hf => try_nil H hnd hf B, fun hf n s h1 hn => try_from H hnd s (try_old H hnd hf h1 hn B)⟩
end Go.Sx
namespace Go.Sx
open Go.RowKit Go.Proofs
set_option maxRecDepth 100000
noncomputable def rootOf (L K : Nat) : Node := nodeAt L K 0
noncomputable def vKC (L : Nat) : List (Nat × AObj) := vR L ++ [(2001, ordB L), (2002, .umap (mR false))]
noncomputable def argsCh (L : Nat) : List AV := [.agg (kCells L), .agg chCells]
noncomputable def orcCh (L K : Nat) (W : List (Nat × Nat)) (f : FuncId) (args : List AV) (h : Heap) : Option (T (AV × Heap)) := cond (Nat.beq f 62) (orcTry L [rootOf L K] W args h) none
noncomputable def tbCh (L K : Nat) (W : List (Nat × Nat)) : Tabs := ⟨Sx.Tryd.ft.get, lFind Sx.Tryd.rt, 2000, orcCh L K W⟩
noncomputable def nwCh (r : AV × Heap) : List Nat := match r.1 with
  | .tup [.sliceX b _ _ _, _] => [b]
  | _ => []
noncomputable def runCh (L K : Nat) (W : List (Nat × Nat)) : T (AV × Heap) := (evalN (tbCh L K W) 100 false 19 (argsCh L) (viewA 2003 (vKC L))).bind fun r => graftT 2003 (vKC L) (viewA 2003 (vKC L)) (nwCh r) r
noncomputable def chV (b w : Nat) : AV := .tup [.sliceX b 1 0 w, ln 0]
noncomputable def chO (L K w : Nat) : AObj := .cells (tripsN (rootOf L K) w) 3 true true
noncomputable def endCh (L K w : Nat) (_ : Kn) (q : AV × Heap) : Bool := and (eqAV q.1 (chV 2003 w)) (and (isO (q.2.get 2003) (chO L K w)) (and (allO q.2 (vKC L)) (Nat.beq q.2.next 2004)))
noncomputable def ckCh (L K w : Nat) : Bool := allW [] (endCh L K w) (runCh L K [(32, w)]) (knOf [] [])
noncomputable def leafCh (L K w : Nat) : AV × Heap := (chV 2003 w, viewA 2004 (vKC L ++ [(2003, chO L K w)]))
noncomputable def orcBe (L K w : Nat) (f : FuncId) (args : List AV) (h : Heap) : Option (T (AV × Heap)) :=
  cond (Nat.beq f 18) (smallO 2000 [bookF L] (vR L) (.ret (knowVR L, viewA 2002 (vKR L false))) (fun _ => [2000, 2001]) args h)
  (cond (Nat.beq f 19) (smallO 2003 (argsCh L) (vKC L) (.ret (leafCh L K w)) (fun _ => [2003]) args h) none)
noncomputable def tbBe (L K w : Nat) : Tabs := ⟨Sx.Tryd.ft.get, lFind Sx.Tryd.rt, 2000, orcBe L K w⟩
noncomputable def runBe (L K w : Nat) : T (AV × Heap) := (evalN (tbBe L K w) 100 false 6 [bookF L] (viewA 2000 (vR L))).bind fun r => graftT 2000 (vR L) (viewA 2000 (vR L)) (nwCh r) r
noncomputable def endBe (L K w : Nat) (_ : Kn) (q : AV × Heap) : Bool := and (eqAV q.1 (chV 2000 w)) (and (isO (q.2.get 2000) (chO L K w)) (and (allO q.2 (vR L)) (Nat.beq q.2.next 2001)))
noncomputable def ckBe (L K w : Nat) : Bool := allW [] (endBe L K w) (runBe L K w) (knOf [] [])
noncomputable def vkOk (L : Nat) : Bool := viewOk 2003 (vKC L)
noncomputable def ckX (L : Nat) : Bool := and (vkOk L) (lAll (fun K => lAll (fun w => and (and (Nat.beq (rootOf L K).id 32) (Nat.beq (rootOf L K).rest L)) (and (ckCh L K w) (ckBe L K w))) (upN L 1)) (upN (cond (Nat.beq L 6) 6 (L + 1)) 1))
theorem ckX1 : ckX 1 = true := by kernel_rfl
theorem ckX2 : ckX 2 = true := by kernel_rfl
theorem ckX3 : ckX 3 = true := by kernel_rfl
theorem ckX4 : ckX 4 = true := by kernel_rfl
theorem ckX5 : ckX 5 = true := by kernel_rfl
theorem ckX6 : ckX 6 = true := by kernel_rfl
end Go.Sx
namespace Go.Sx
open Go.RowKit Go.Proofs
set_option maxRecDepth 100000
theorem ckX_all {L K w : Nat} (h0 : 1 ≤ L) (hL : L ≤ 6) (k0 : 1 ≤ K) (hK : K ≤ L + 1) (k6 : K ≤ 6) (w0 : 1 ≤ w) (hw : w ≤ L) : vkOk L = true ∧ (rootOf L K).id = 32 ∧ (rootOf L K).rest = L ∧ ckCh L K w = true ∧ ckBe L K w = true := by
  have h : ckX L = true := by
    rcases six h0 hL with rfl | rfl | rfl | rfl | rfl | rfl
    · exact ckX1
    · exact ckX2
    · exact ckX3
    · exact ckX4
    · exact ckX5
    · exact ckX6
  unfold ckX at h
  rw [Bool.and_eq_true] at h
  have hk : K < 1 + cond (Nat.beq L 6) 6 (L + 1) := by
    cases h6 : Nat.beq L 6 with
    | true => rw [cond_true]; omega
    | false => rw [cond_false]; omega
  have hw' := lAll_at (lAll_at h.2 k0 hk) w0 (by omega : w < 1 + L)
  simp only [Bool.and_eq_true] at hw'
  exact ⟨h.1, beq_t.1 hw'.1.1, beq_t.1 hw'.1.2, hw'.2.1, hw'.2.2⟩
theorem root_mem {L K : Nat} (h0 : 1 ≤ L) (h : (rootOf L K).rest = L) : rootOf L K ∈ nodeTab L K := by
  unfold rootOf nodeAt at h ⊢
  split at h
  · rename_i n hn
    rw [listGet_eq] at hn
    exact List.mem_of_getElem? hn
  · have h : 0 = L := h
    omega
section
variable {L K : Nat} {W : List (Nat × Nat)} (H : Base0 L K W)
include H
theorem root_w : 1 ≤ lenN W 32 ∧ lenN W 32 ≤ L := by
  obtain ⟨_, r1, r2, _⟩ := ckX_all (w := 1) H.h0 H.hL H.k0 H.hK H.k6 (Nat.le_refl _) H.h0
  have hm := root_mem H.h0 r2
  have h0 := H.h0
  have := H.w _ hm (by omega)
  rw [r1, r2] at this
  have e : (rootOf L K).pre = [] := by
    have hL := H.hL; have k0 := H.k0; have hK := H.hK; have k6 := H.k6
    rcases six H.h0 H.hL with rfl | rfl | rfl | rfl | rfl | rfl <;> rcases six k0 k6 with rfl | rfl | rfl | rfl | rfl | rfl <;> rfl
  rw [e] at this
  have e0 : lLen ([] : List Nat) = 0 := rfl
  omega
theorem tabsCh : TabOk (pNd L K W) Sx.Tryd.tt.get (tbCh L K [(32, lenN W 32)]) := by
  obtain ⟨w0, hw⟩ := root_w H
  obtain ⟨_, r1, r2, _⟩ := ckX_all H.h0 H.hL H.k0 H.hK H.k6 w0 hw
  have hm := root_mem H.h0 r2
  refine Tryd.tab (orcCh L K [(32, lenN W 32)]) (fun f args h t e => ?_) 2000
  unfold orcCh at e
  obtain ⟨h1, e⟩ := cond_some e
  rw [beq_t.1 h1]
  refine orcTry_ok H (fun k hk => ?_) (fun k hk => ?_) e
  · rw [List.mem_singleton] at hk; subst hk
    exact try_said H _ _ rfl hm
  · rw [List.mem_singleton] at hk; subst hk
    unfold lenNd
    cases Nat.beq (rootOf L K).rest 0 with
    | true => rfl
    | false => rw [cond_false, cond_false, r1]; rfl
theorem choose_said : CallOk (pNd L K W) 19 (argsCh L) (viewA 2003 (vKC L)) (.ret (leafCh L K (lenN W 32))) := by
  obtain ⟨w0, hw⟩ := root_w H
  obtain ⟨hv, r1, r2, hck, _⟩ := ckX_all H.h0 H.hL H.k0 H.hK H.k6 w0 hw
  have base := eval_ok (tabsCh H) 100 19 (argsCh L) (viewA 2003 (vKC L))
  have up : upA 0 (vKC L) = true := rfl
  have fr : CallOk (pNd L K W) 19 (argsCh L) (viewA 2003 (vKC L)) (runCh L K [(32, lenN W 32)]) := base.frame (n := 2003) (l := vKC L) (by omega) rfl hv
    (fun g hg => ⟨g.2, viewA_mem 2003 _ 0 up g hg, .refl _⟩) (by rw [viewA_next]; exact Nat.le_refl _) nwCh
  refine CallOk.read (p0 := pNd L K W) (p := pNd L K W) rfl fr fun ρ b hok Q k => ⟨ρ, hok, SameL.refl _ _, ⟨rfl, fun j o g => ⟨o, g, SameA.refl o⟩⟩, ?_⟩
  have k : Q (leafCh L K (lenN W 32)) := k
  refine allW_ok (rules_nil ρ) (fun K' q _ hq => ?_) (runCh L K [(32, lenN W 32)]) _ (knOf_ok (fun c hc => by cases hc) (fun c hc => by cases hc)) hck
  unfold endCh at hq
  simp only [Bool.and_eq_true] at hq
  obtain ⟨q1, q2, q3, q4⟩ := hq
  refine ⟨_, k, by rw [eqAV_eq _ _ q1]; exact SameV.refl _ _, (beq_t.1 q4).trans (viewA_next _ _).symm, fun j o g => ?_⟩
  rcases List.mem_append.1 (viewA_get _ _ _ _ g) with hm | hm
  · exact ⟨o, allO_get q3 hm, SameA.refl o⟩
  · rw [List.mem_singleton] at hm
    cases hm
    exact ⟨_, isO_eq q2, SameA.refl _⟩
theorem tabsBe : TabOk (pNd L K W) Sx.Tryd.tt.get (tbBe L K (lenN W 32)) := by
  obtain ⟨w0, hw⟩ := root_w H
  obtain ⟨hv, _⟩ := ckX_all H.h0 H.hL H.k0 H.hK H.k6 w0 hw
  refine Tryd.tab (orcBe L K (lenN W 32)) (fun f args h t e => ?_) 2000
  unfold orcBe at e
  cases h1 : Nat.beq f 18 with
  | true =>
    rw [h1, cond_true] at e
    rw [beq_t.1 h1]
    exact smallO_ok (CallOk.weak (ok0 := fun ρ _ => okB L ρ) (fun ρ m k => k.1.1.1) (knowR_said H.h0 H.hL)) (by omega) rfl (viewR_ok H.h0 H.hL) e
  | false =>
    rw [h1, cond_false] at e
    obtain ⟨h2, e⟩ := cond_some e
    rw [beq_t.1 h2]
    exact smallO_ok (choose_said H) (by omega) rfl hv e
theorem best_said : CallOk (pNd L K W) 6 [bookF L] (viewA 2000 (vR L)) (.ret (chV 2000 (lenN W 32), viewA 2001 (vR L ++ [(2000, chO L K (lenN W 32))]))) := by
  obtain ⟨w0, hw⟩ := root_w H
  obtain ⟨hv, r1, r2, _, hck⟩ := ckX_all H.h0 H.hL H.k0 H.hK H.k6 w0 hw
  have base := eval_ok (tabsBe H) 100 6 [bookF L] (viewA 2000 (vR L))
  have up : upA 0 (vR L) = true := rfl
  have fr : CallOk (pNd L K W) 6 [bookF L] (viewA 2000 (vR L)) (runBe L K (lenN W 32)) := base.frame (n := 2000) (l := vR L) (by omega) rfl (viewR_ok H.h0 H.hL)
    (fun g hg => ⟨g.2, viewA_mem 2000 _ 0 up g hg, .refl _⟩) (by rw [viewA_next]; exact Nat.le_refl _) nwCh
  refine CallOk.read (p0 := pNd L K W) (p := pNd L K W) rfl fr fun ρ b hok Q k => ⟨ρ, hok, SameL.refl _ _, ⟨rfl, fun j o g => ⟨o, g, SameA.refl o⟩⟩, ?_⟩
  have k : Q (chV 2000 (lenN W 32), viewA 2001 (vR L ++ [(2000, chO L K (lenN W 32))])) := k
  refine allW_ok (rules_nil ρ) (fun K' q _ hq => ?_) (runBe L K (lenN W 32)) _ (knOf_ok (fun c hc => by cases hc) (fun c hc => by cases hc)) hck
  unfold endBe at hq
  simp only [Bool.and_eq_true] at hq
  obtain ⟨q1, q2, q3, q4⟩ := hq
  refine ⟨_, k, by rw [eqAV_eq _ _ q1]; exact SameV.refl _ _, (beq_t.1 q4).trans (viewA_next _ _).symm, fun j o g => ?_⟩
  rcases List.mem_append.1 (viewA_get _ _ _ _ g) with hm | hm
  · exact ⟨o, allO_get q3 hm, SameA.refl o⟩
  · rw [List.mem_singleton] at hm
    cases hm
    exact ⟨_, isO_eq q2, SameA.refl _⟩
end
end Go.Sx
namespace Go.Sx
open Go.RowKit Go.Proofs
set_option maxRecDepth 100000
def eqNode (a b : Node) : Bool := and (and (and (Nat.beq a.id b.id) (eqNs a.pre b.pre)) (and (Nat.beq a.rest b.rest) (eqNs a.arrB b.arrB))) (and (eqNs a.arrA b.arrA) (eqNs a.kids b.kids))
theorem eqNode_eq {a b : Node} (h : eqNode a b = true) : a = b := by
  unfold eqNode at h
  simp only [Bool.and_eq_true] at h
  obtain ⟨⟨⟨h1, h2⟩, h3, h4⟩, h5, h6⟩ := h
  cases a; cases b
  simp only at h1 h2 h3 h4 h5 h6
  rw [beq_t.1 h1, eqNs_eq _ _ h2, beq_t.1 h3, eqNs_eq _ _ h4, eqNs_eq _ _ h5, eqNs_eq _ _ h6]
def eqNodes : List Node → List Node → Bool
  | [], [] => true
  | a :: l, b :: m => and (eqNode a b) (eqNodes l m)
  | _, _ => false
theorem eqNodes_eq : ∀ (l m : List Node), eqNodes l m = true → l = m
  | [], [], _ => rfl
  | [], _ :: _, h => by cases h
  | _ :: _, [], h => by cases h
  | a :: l, b :: m, h => by
    simp only [eqNodes, Bool.and_eq_true] at h
    rw [eqNode_eq h.1, eqNodes_eq l m h.2]
def isPre : List Nat → List Nat → Bool
  | [], _ => true
  | _ :: _, [] => false
  | a :: l, b :: m => and (Nat.beq a b) (isPre l m)
noncomputable def under (L K : Nat) (nd : Node) : List Node := (leafs L K).filter fun x => isPre nd.pre x.pre
noncomputable def inners (L K : Nat) : List Node := (nodeTab L K).filter fun nd => Bool.not (Nat.beq nd.rest 0)
def isN (o : Option Node) (nd : Node) : Bool := match o with
  | some x => eqNode x nd
  | none => false
theorem isN_eq {o : Option Node} {nd : Node} (h : isN o nd = true) : o = some nd := by
  cases o with
  | none => cases h
  | some x => rw [eqNode_eq h]
noncomputable def incr : List Nat → Bool
  | [] => true
  | a :: l => and (lAll (fun b => Nat.ble (a + 1) b) l) (incr l)
def someN (l : List Node) : Bool := match l with
  | [] => false
  | _ :: _ => true
noncomputable def winNd (L K : Nat) (nd : Node) : Bool :=
  cond (Nat.beq nd.rest 0) (eqNodes (under L K nd) [nd])
    (and (and (isN (findN (fun x => Nat.beq x.id nd.id) (inners L K)) nd) (and (someN (kidsOf L K nd)) (eqNodes (under L K nd) ((kidsOf L K nd).flatMap (under L K)))))
      (lAll (fun x : Node => and (Nat.ble (lLen nd.pre + 1) (lLen x.pre)) (Nat.ble (lLen x.pre) (lLen nd.pre + nd.rest))) (under L K nd)))
noncomputable def allLe (K : Nat) (l : List Nat) : Bool := lAll (fun p => Nat.ble p K) l
noncomputable def hasLeaf (L K i : Nat) (p : List Nat) : Bool := (leafs L K).any fun x => and (Nat.beq x.id i) (eqNs x.pre p)
noncomputable def planCk (L K : Nat) : List (List Nat) → Nat → Bool := @List.rec (List Nat) (fun _ => Nat → Bool) (fun _ => true) (fun p _ ih i => and (cond (allLe K p) (hasLeaf L K i p) true) (ih (i + 1)))
noncomputable def winCk (L K : Nat) : Bool := and (and (lAll (winNd L K) (nodeTab L K)) (lAll (fun nd => someN (under L K nd)) (nodeTab L K))) (and (and (eqNodes (under L K (rootOf L K)) (leafs L K)) (incr (lMap Node.id (leafs L K)))) (and (planCk L K (plansL L) 0) (lAll (fun x : Node => and (Nat.ble (x.id + 1) 32) (isAt (listGet (plansL L) x.id) x.pre)) (leafs L K))))
theorem winCk1 : lAll (winCk 1) [1, 2] = true := by kernel_rfl
theorem winCk2 : lAll (winCk 2) [1, 2, 3] = true := by kernel_rfl
theorem winCk3 : lAll (winCk 3) [1, 2, 3, 4] = true := by kernel_rfl
theorem winCk4 : lAll (winCk 4) [1, 2, 3, 4, 5] = true := by kernel_rfl
theorem winCk5 : lAll (winCk 5) [1, 2, 3, 4, 5, 6] = true := by kernel_rfl
theorem winCk6 : lAll (winCk 6) [1, 2, 3, 4, 5, 6] = true := by kernel_rfl
theorem win_ck {L K : Nat} (h0 : 1 ≤ L) (hL : L ≤ 6) (k0 : 1 ≤ K) (hK : K ≤ L + 1) (k6 : K ≤ 6) : winCk L K = true := by
  rcases six h0 hL with rfl | rfl | rfl | rfl | rfl | rfl
  · exact lAll_mem winCk1 K (by rcases (by omega : K = 1 ∨ K = 2) with rfl | rfl <;> simp)
  · exact lAll_mem winCk2 K (by rcases (by omega : K = 1 ∨ K = 2 ∨ K = 3) with rfl | rfl | rfl <;> simp)
  · exact lAll_mem winCk3 K (by rcases (by omega : K = 1 ∨ K = 2 ∨ K = 3 ∨ K = 4) with rfl | rfl | rfl | rfl <;> simp)
  · exact lAll_mem winCk4 K (by rcases (by omega : K = 1 ∨ K = 2 ∨ K = 3 ∨ K = 4 ∨ K = 5) with rfl | rfl | rfl | rfl | rfl <;> simp)
  · exact lAll_mem winCk5 K (mem_six k0 k6)
  · exact lAll_mem winCk6 K (mem_six k0 k6)
def minL {α : Type} (f : α → Int × Nat) (l : List α) : Option α := match l with
  | [] => none
  | c :: cs => some (minB f c cs)
theorem minL_app {α : Type} {f : α → Int × Nat} {A B : List α} {a b : α} (hA : minL f A = some a) (hB : minL f B = some b) : minL f (A ++ B) = some (if lexP (f b) (f a) then b else a) := by
  cases A with
  | nil => cases hA
  | cons c cs =>
    cases B with
    | nil => cases hB
    | cons d ds =>
      simp only [minL, Option.some.injEq] at hA hB
      show some (minB f c (cs ++ d :: ds)) = _
      have e : minB f c (cs ++ d :: ds) = minB f (minB f c cs) (d :: ds) := by unfold minB; rw [List.foldl_append]
      have e2 : minB f (minB f c cs) (d :: ds) = minB f (if lexP (f d) (f (minB f c cs)) then d else minB f c cs) ds := rfl
      rw [e, e2, minB_if, hA, hB]
theorem minL_flat {α β : Type} {f : α → Int × Nat} (u : β → List α) (w : β → α) : ∀ (l : List β) (k : β) (A : List α), (∀ x ∈ l, minL f (u x) = some (w x)) → minL f A = some (w k) → minL f (A ++ l.flatMap u) = some (w (minB (fun x => f (w x)) k l))
  | [], k, A, _, hA => by simp only [List.flatMap_nil, List.append_nil]; exact hA
  | x :: l, k, A, hl, hA => by
    have e : A ++ (x :: l).flatMap u = (A ++ u x) ++ l.flatMap u := by rw [List.flatMap_cons, List.append_assoc]
    have e2 : minB (fun x => f (w x)) k (x :: l) = minB (fun x => f (w x)) (if lexP (f (w x)) (f (w k)) then x else k) l := rfl
    rw [e, e2]
    refine minL_flat u w l _ _ (fun y hy => hl y (List.mem_cons_of_mem _ hy)) ?_
    rw [minL_app hA (hl x List.mem_cons_self)]
    split <;> rfl
noncomputable def fL (ρ : Rho) (x : Node) : Int × Nat := (ρ.iv (400 + x.id), lLen x.pre)
noncomputable def wN (L K : Nat) (ρ : Rho) (nd : Node) : Node := match minL (fL ρ) (under L K nd) with
  | some x => x
  | none => nd
section
variable {L K : Nat} (h0 : 1 ≤ L) (hL : L ≤ 6) (k0 : 1 ≤ K) (hK : K ≤ L + 1) (k6 : K ≤ 6)
include h0 hL k0 hK k6
theorem wN_some (ρ : Rho) {nd : Node} (h : nd ∈ nodeTab L K) : minL (fL ρ) (under L K nd) = some (wN L K ρ nd) ∧ wN L K ρ nd ∈ under L K nd := by
  have hw := win_ck h0 hL k0 hK k6
  unfold winCk at hw
  simp only [Bool.and_eq_true] at hw
  have hs := lAll_mem hw.1.2 nd h
  unfold wN
  cases hu : under L K nd with
  | nil => rw [hu] at hs; cases hs
  | cons c cs =>
    refine ⟨rfl, ?_⟩
    show minB (fL ρ) c cs ∈ c :: cs
    rcases minB_mem (fL ρ) cs c with h | h
    · rw [h]; exact List.mem_cons_self
    · exact List.mem_cons_of_mem _ h
theorem wN_leaf (ρ : Rho) {nd : Node} (h : nd ∈ nodeTab L K) (hr : nd.rest = 0) : wN L K ρ nd = nd := by
  have hw := win_ck h0 hL k0 hK k6
  unfold winCk at hw
  simp only [Bool.and_eq_true] at hw
  have hn := lAll_mem hw.1.1 nd h
  unfold winNd at hn
  rw [beq_t.2 hr, cond_true] at hn
  have e := eqNodes_eq _ _ hn
  unfold wN
  rw [e]; rfl
theorem wN_kids (ρ : Rho) {nd : Node} (h : nd ∈ nodeTab L K) (hr : nd.rest ≠ 0) : ∃ k l, kidsOf L K nd = k :: l ∧ wN L K ρ nd = wN L K ρ (minB (fun x => fL ρ (wN L K ρ x)) k l) ∧ findN (fun x => Nat.beq x.id nd.id) (inners L K) = some nd ∧ lLen nd.pre + 1 ≤ lLen (wN L K ρ nd).pre ∧ lLen (wN L K ρ nd).pre ≤ lLen nd.pre + nd.rest := by
  have hw := win_ck h0 hL k0 hK k6
  unfold winCk at hw
  simp only [Bool.and_eq_true] at hw
  have hn := lAll_mem hw.1.1 nd h
  unfold winNd at hn
  have hb : Nat.beq nd.rest 0 = false := by
    cases hb : Nat.beq nd.rest 0 with
    | true => exact absurd (beq_t.1 hb) hr
    | false => rfl
  rw [hb, cond_false] at hn
  simp only [Bool.and_eq_true] at hn
  obtain ⟨⟨n1, n2, n3⟩, n4⟩ := hn
  obtain ⟨s1, s2⟩ := wN_some h0 hL k0 hK k6 ρ h
  have hlen := lAll_mem n4 _ s2
  simp only [Bool.and_eq_true] at hlen
  cases hk : kidsOf L K nd with
  | nil => rw [hk] at n2; cases n2
  | cons k l =>
    refine ⟨k, l, rfl, ?_, isN_eq n1, ble_t.1 hlen.1, ble_t.1 hlen.2⟩
    have e := eqNodes_eq _ _ n3
    rw [hk, List.flatMap_cons] at e
    have key := minL_flat (f := fL ρ) (under L K) (wN L K ρ) l k (under L K k) (fun x hx => (wN_some h0 hL k0 hK k6 ρ (kids_mem (by rw [hk]; exact List.mem_cons_of_mem _ hx))).1) (wN_some h0 hL k0 hK k6 ρ (kids_mem (by rw [hk]; exact List.mem_cons_self))).1
    rw [e, key] at s1
    exact (Option.some.inj s1).symm
end
noncomputable def wOf (L K : Nat) (ρ : Rho) : List (Nat × Nat) := (inners L K).map fun nd => (nd.id, lLen (wN L K ρ nd).pre)
noncomputable def ivW (L K : Nat) (ρ : Rho) (i : Nat) : Int := match findN (fun x => Nat.beq x.id (i - 400)) (inners L K) with
  | some nd => ρ.iv (400 + (wN L K ρ nd).id)
  | none => ρ.iv i
noncomputable def fiT (L K : Nat) (ρ : Rho) (a b : Int) : Int := match findN (fun x => Nat.beq x.id a.toNat) (inners L K) with
  | some nd => (((wN L K ρ nd).pre)[b.toNat]?.getD 0 : Nat)
  | none => 0
noncomputable def rhoW (L K : Nat) (ρ : Rho) : Rho := ⟨fun i => if 432 ≤ i ∧ i < 464 then ivW L K ρ i else ρ.iv i, ρ.bv, fun f a b c => if f = 9702 then fiT L K ρ a b else ρ.fi f a b c, ρ.fb, ρ.ov⟩
theorem lFind_map (g : Node → Nat) (i : Nat) : ∀ (l : List Node), lFind (l.map fun nd => (nd.id, g nd)) i = (findN (fun x => Nat.beq x.id i) l).map g
  | [] => rfl
  | x :: l => by
    have e : findN (fun x => Nat.beq x.id i) (x :: l) = cond (Nat.beq x.id i) (some x) (findN (fun x => Nat.beq x.id i) l) := rfl
    rw [List.map_cons, lFind_cons, e, lFind_map g i l]
    cases Nat.beq x.id i <;> rfl
end Go.Sx
namespace Go.Sx
open Go.RowKit Go.Proofs
set_option maxRecDepth 100000
noncomputable def tripE (left k : Nat) : IE := .app 6 (.app 1000 (.lit (Int.ofNat k)) (.lit 0) (.lit 0)) (.mn (.lit (Int.ofNat left)) (.var 65)) (.lit 0)
noncomputable def tripsL (plan : List Nat) : Nat → Nat → List (Nat × Nat × Nat) := @List.rec Nat (fun _ => Nat → Nat → List (Nat × Nat × Nat)) (fun _ _ => []) (fun p _ ih left k => (left, k, p) :: ih (left - p) (k + 1)) plan
def OkTr (L : Nat) (plan : List Nat) (ρ : Rho) : Prop := ∀ q ∈ tripsL plan L 0, (tripE q.1 q.2.1).den ρ = ((q.2.2 : Int) - 1)
noncomputable def orcTurn (L : Nat) (plan : List Nat) (args : List AV) (h : Heap) : Option (T (AV × Heap)) :=
  match args with
  | [.int k1 a, .int k2 m] => cond (and (isI64 k1) (isI64 k2)) (@List.rec (Nat × Nat × Nat) (fun _ => Option (T (AV × Heap))) none (fun q _ ih => cond (eqIE (.app 6 a m (.lit 0)) (tripE q.1 q.2.1)) (some (.ret (.int .i64 (.lit (Int.sub (Int.ofNat q.2.2) 1)), h))) ih) (tripsL plan L 0)) none
  | _ => none
noncomputable def pickB (args : List AV) (h : Heap) : Option (T (AV × Heap)) :=
  match args with
  | [.sliceU i, .int .i64 e] => cond (Nat.beq i 96) (some (.ret (.int .i64 (.app 1000 e (.lit 0) (.lit 0)), h))) none
  | _ => none
noncomputable def orcStart (L : Nat) (qs : List (Nat × List Nat)) (args : List AV) (h : Heap) : Option (T (AV × Heap)) :=
  match args with
  | [fa, .sliceX c s z n] => cond (and (and (eqAV fa (bookF L)) (and (Nat.beq s 1) (Nat.beq z 0))) (lessAll h (vR L)))
      (@List.rec (Nat × List Nat) (fun _ => Option (T (AV × Heap))) none (fun q _ ih => cond (and (Nat.beq n (lLen q.2)) (lessO (ro (litsN q.2)) (h.get c))) (some (.ret (startsV q.1, h))) ih) qs) none
  | _ => none
noncomputable def leafBe (L : Nat) (p : List Nat) : AV × Heap := (chV 2000 (lLen p), viewA 2001 (vR L ++ [(2000, .cells (litsN p) 3 true true)]))
noncomputable def orcG (L ip : Nat) (p : List Nat) (io : Nat) (o : List Nat) (f : FuncId) (args : List AV) (h : Heap) : Option (T (AV × Heap)) :=
  cond (Nat.beq f 8) (closedOrc glR args h) (cond (Nat.beq f 32) (pickB args h) (cond (Nat.beq f 13) (orcTurn L o args h)
  (cond (Nat.beq f 7) (smallO 2000 [bookF L] (vR L) (.ret (tag true, viewA 2000 (vR L))) (fun _ => []) args h)
  (cond (Nat.beq f 6) (smallO 2000 [bookF L] (vR L) (.ret (leafBe L p)) (fun _ => [2000]) args h)
  (cond (Nat.beq f 11) (orcStart L [(ip, p), (io, o)] args h) none)))))
noncomputable def tbG (L ip : Nat) (p : List Nat) (io : Nat) (o : List Nat) : Tabs := ⟨Sx.Tryd.ft.get, lFind Sx.Tryd.rt, 2000, orcG L ip p io o⟩
noncomputable def befO (ip : Nat) (p : List Nat) (io : Nat) (o : List Nat) : Bool := cond (Nat.ble (lLen o + 1) (lLen p)) true (and (Nat.beq (lLen o) (lLen p)) (Nat.ble (io + 1) ip))
noncomputable def ordC (ip : Nat) (p : List Nat) (io : Nat) (o : List Nat) : BE := cond (befO ip p io o) (.cmp .lss (.var (400 + ip)) (.var (400 + io))) (.cmp .leq (.var (400 + ip)) (.var (400 + io)))
noncomputable def lawG (L ip : Nat) (p : List Nat) (io : Nat) (o : List Nat) : Bool := allK isTrueK (evalN (tbG L ip p io o) 60 false 3 [bookF L, .sliceU 96] (viewA 2000 (vR L))) (knOf [] (ordC ip p io o :: carryC p))
noncomputable def rowsG (L ip : Nat) (p : List Nat) : List (List Nat) → Nat → Bool := @List.rec (List Nat) (fun _ => Nat → Bool) (fun _ => true) (fun o _ ih io => cond (lawG L ip p io o) (ih (io + 1)) false)
noncomputable def planI (L i : Nat) : List Nat := match listGet (plansL L) i with
  | some p => p
  | none => []
noncomputable def ckG (L ip : Nat) : Bool := rowsG L ip (planI L ip) (plansL L) 0
end Go.Sx
namespace Go.Sx
open Go.RowKit Go.Proofs
set_option maxRecDepth 100000
theorem inn_all : lAll (fun L => lAll (fun K => lAll (fun nd : Node => Nat.ble 32 nd.id) (inners L K)) [1, 2, 3, 4, 5, 6]) [1, 2, 3, 4, 5, 6] = true := by kernel_rfl
theorem rhoW_iv {L K : Nat} {ρ : Rho} {i : Nat} (h : i < 432 ∨ 464 ≤ i) : (rhoW L K ρ).iv i = ρ.iv i := by
  show (if 432 ≤ i ∧ i < 464 then _ else ρ.iv i) = _
  rw [if_neg (by omega)]
theorem rhoW_fi {L K : Nat} {ρ : Rho} {f : Nat} {a b c : Int} (h : f ≠ 9702) : (rhoW L K ρ).fi f a b c = ρ.fi f a b c := if_neg h
theorem minB_id {α : Type} {f : α → Int × Nat} (g : α → Nat) : ∀ (l : List α) (a : α), incr (lMap g (a :: l)) = true → ∀ x ∈ a :: l, ¬ lexP (f (minB f a l)) (f x) → g (minB f a l) ≤ g x
  | [], a, _, x, hx, _ => by
    rw [List.mem_singleton] at hx; subst hx; exact Nat.le_refl _
  | y :: l, a, hi, x, hx, hn => by
    have e1 : minB f a (y :: l) = minB f (if lexP (f y) (f a) then y else a) l := rfl
    have ei : incr (lMap g (a :: y :: l)) = and (lAll (fun b => Nat.ble (g a + 1) b) (lMap g (y :: l))) (incr (lMap g (y :: l))) := rfl
    rw [ei, Bool.and_eq_true] at hi
    have ei2 : incr (lMap g (y :: l)) = and (lAll (fun b => Nat.ble (g y + 1) b) (lMap g l)) (incr (lMap g l)) := rfl
    have ay := ble_t.1 (lAll_mem hi.1 (g y) (by rw [lMap_eq]; exact List.mem_map.2 ⟨y, List.mem_cons_self, rfl⟩))
    have hal : incr (lMap g (a :: l)) = true := by
      have e : incr (lMap g (a :: l)) = and (lAll (fun b => Nat.ble (g a + 1) b) (lMap g l)) (incr (lMap g l)) := rfl
      rw [e, Bool.and_eq_true]
      have h2 := hi.2
      rw [ei2, Bool.and_eq_true] at h2
      refine ⟨?_, h2.2⟩
      have h3 : cond (Nat.ble (g a + 1) (g y)) (lAll (fun b => Nat.ble (g a + 1) b) (lMap g l)) false = true := hi.1
      rw [ble_t.2 ay, cond_true] at h3; exact h3
    rw [e1] at hn ⊢
    by_cases h : lexP (f y) (f a)
    · rw [if_pos h] at hn ⊢
      rcases List.mem_cons.1 hx with rfl | hx
      · exfalso
        have := (minB_le f l y).1
        unfold lexP at *; omega
      · exact minB_id g l y hi.2 x hx hn
    · rw [if_neg h] at hn ⊢
      rcases List.mem_cons.1 hx with rfl | hx
      · exact minB_id g l x hal x List.mem_cons_self hn
      · rcases List.mem_cons.1 hx with rfl | hx
        · have ha := minB_id (f := f) g l a hal a List.mem_cons_self (by
            have := (minB_le f l a).1
            unfold lexP at *; omega)
          omega
        · exact minB_id g l a hal x (List.mem_cons_of_mem _ hx) hn
section
variable {L K : Nat} (h0 : 1 ≤ L) (hL : L ≤ 6) (k0 : 1 ≤ K) (hK : K ≤ L + 1) (k6 : K ≤ 6)
include h0 hL k0 hK k6
theorem leaf_plan {x : Node} (h : x ∈ leafs L K) : x.id < 32 ∧ (plansL L)[x.id]? = some x.pre := by
  have hw := win_ck h0 hL k0 hK k6
  unfold winCk at hw
  simp only [Bool.and_eq_true] at hw
  have := lAll_mem hw.2.2.2 x h
  rw [Bool.and_eq_true] at this
  refine ⟨ble_t.1 this.1, ?_⟩
  have h2 := this.2
  unfold isAt at h2
  split at h2
  · rename_i y hy
    rw [eqNs_eq _ _ h2, listGet_eq] at hy; exact hy
  · cases h2
theorem lenN_wOf (ρ : Rho) {nd : Node} (h : nd ∈ nodeTab L K) (hr : nd.rest ≠ 0) : lenN (wOf L K ρ) nd.id = lLen (wN L K ρ nd).pre := by
  obtain ⟨_, _, _, _, hf, _⟩ := wN_kids h0 hL k0 hK k6 ρ h hr
  unfold lenN wOf
  rw [lFind_map (fun nd => lLen (wN L K ρ nd).pre), hf]; rfl
omit hK in
theorem inner_id {nd : Node} (h : nd ∈ nodeTab L K) (hr : nd.rest ≠ 0) : 32 ≤ nd.id ∧ nd.id < 64 := by
  refine ⟨?_, (node_ck h0 hL k0 k6 h).1⟩
  have hb : nd ∈ inners L K := List.mem_filter.2 ⟨h, by
    cases hb : Nat.beq nd.rest 0 with
    | true => exact absurd (beq_t.1 hb) hr
    | false => rfl⟩
  exact ble_t.1 (lAll_mem (lAll_mem (lAll_mem inn_all L (mem_six h0 hL)) K (mem_six k0 k6)) nd hb)
theorem fN_wOf (ρ : Rho) {nd : Node} (h : nd ∈ nodeTab L K) : fN (rhoW L K ρ) (wOf L K ρ) nd = fL ρ (wN L K ρ nd) := by
  by_cases hr : nd.rest = 0
  · rw [wN_leaf h0 hL k0 hK k6 ρ h hr]
    have := (leaf_plan h0 hL k0 hK k6 (List.mem_filter.2 ⟨h, beq_t.2 hr⟩)).1
    unfold fN fL lenNd
    rw [beq_t.2 hr, cond_true, rhoW_iv (.inl (by omega))]
  · obtain ⟨_, _, _, _, hf, _⟩ := wN_kids h0 hL k0 hK k6 ρ h hr
    have hi := inner_id h0 hL k0 k6 h hr
    have hb : Nat.beq nd.rest 0 = false := by
      cases hb : Nat.beq nd.rest 0 with
      | true => exact absurd (beq_t.1 hb) hr
      | false => rfl
    unfold fN fL lenNd
    rw [hb, cond_false, lenN_wOf h0 hL k0 hK k6 ρ h hr]
    have e : (rhoW L K ρ).iv (400 + nd.id) = ivW L K ρ (400 + nd.id) := if_pos (by omega)
    rw [e]
    unfold ivW
    rw [Nat.add_sub_cancel_left, hf]
omit h0 hL k0 hK k6 in
theorem upN_get' : ∀ (n k i : Nat), i < n → (upN n k)[i]? = some (k + i)
  | 0, _, _, h => by omega
  | n + 1, k, 0, _ => by simp [upN]
  | n + 1, k, i + 1, h => by simp only [upN, List.getElem?_cons_succ]; rw [upN_get' n (k + 1) i (by omega)]; congr 1; omega
omit h0 hL k0 hK k6 in
theorem upN_len' : ∀ (n k : Nat), (upN n k).length = n
  | 0, _ => rfl
  | n + 1, k => by simp only [upN, List.length_cons, upN_len' n]
theorem tripZ_wOf (ρ : Rho) {nd : Node} (h : nd ∈ nodeTab L K) : tripZ (rhoW L K ρ) (wOf L K ρ) nd = (wN L K ρ nd).pre.map Int.ofNat := by
  by_cases hr : nd.rest = 0
  · rw [wN_leaf h0 hL k0 hK k6 ρ h hr]
    unfold tripZ tripsE
    rw [beq_t.2 hr, cond_true, List.map_map]; rfl
  · obtain ⟨_, _, _, _, hf, _⟩ := wN_kids h0 hL k0 hK k6 ρ h hr
    have hb : Nat.beq nd.rest 0 = false := by
      cases hb : Nat.beq nd.rest 0 with
      | true => exact absurd (beq_t.1 hb) hr
      | false => rfl
    unfold tripZ tripsE lenNd
    rw [hb, cond_false, cond_false, lenN_wOf h0 hL k0 hK k6 ρ h hr, List.map_map, lLen_eq]
    refine List.ext_getElem? fun i => ?_
    by_cases hi : i < (wN L K ρ nd).pre.length
    · rw [List.getElem?_map, List.getElem?_map, upN_get' _ _ _ hi, List.getElem?_eq_getElem hi]
      simp only [Option.map_some, Function.comp, Nat.zero_add, Option.some.injEq]
      show FI (rhoW L K ρ).fi 9702 (nd.id : Int) (i : Int) 0 = _
      unfold FI
      rw [if_pos (by omega)]
      have e : (rhoW L K ρ).fi 9702 (nd.id : Int) (i : Int) 0 = fiT L K ρ (nd.id : Int) (i : Int) := by
        show (if (9702 : Nat) = 9702 then fiT L K ρ (nd.id : Int) (i : Int) else ρ.fi 9702 (nd.id : Int) (i : Int) 0) = _
        rw [if_pos rfl]
      rw [e]
      unfold fiT
      rw [Int.toNat_natCast, Int.toNat_natCast, hf]
      simp only [List.getElem?_eq_getElem hi, Option.getD_some]; rfl
    · rw [List.getElem?_eq_none (by rw [List.length_map, upN_len']; omega), List.getElem?_eq_none (by rw [List.length_map]; omega)]
theorem okW_of (ρ : Rho) : OkW L K (wOf L K ρ) (rhoW L K ρ) := fun nd h hr => by
  obtain ⟨k, l, e0, e1, _⟩ := wN_kids h0 hL k0 hK k6 ρ h hr
  have em : minB (fN (rhoW L K ρ) (wOf L K ρ)) k l = minB (fun x => fL ρ (wN L K ρ x)) k l := minB_congr l k fun x hx => fN_wOf h0 hL k0 hK k6 ρ (kids_mem (nd := nd) (by rw [e0]; exact hx))
  have hm : minB (fun x => fL ρ (wN L K ρ x)) k l ∈ nodeTab L K := by
    have : minB (fun x => fL ρ (wN L K ρ x)) k l ∈ k :: l := by
      rcases minB_mem (fun x => fL ρ (wN L K ρ x)) l k with h | h
      · rw [h]; exact List.mem_cons_self
      · exact List.mem_cons_of_mem _ h
    exact kids_mem (nd := nd) (by rw [e0]; exact this)
  refine ⟨k, l, e0, ?_, ?_⟩
  · rw [em, fN_wOf h0 hL k0 hK k6 ρ h, fN_wOf h0 hL k0 hK k6 ρ hm, e1]
  · rw [em, tripZ_wOf h0 hL k0 hK k6 ρ h, tripZ_wOf h0 hL k0 hK k6 ρ hm, e1]
theorem wOk_of (ρ : Rho) : WOk L K (wOf L K ρ) := fun nd h hr => by
  obtain ⟨_, _, _, _, _, h1, h2⟩ := wN_kids h0 hL k0 hK k6 ρ h hr
  rw [lenN_wOf h0 hL k0 hK k6 ρ h hr]
  exact ⟨h1, h2⟩
theorem root_in : rootOf L K ∈ nodeTab L K ∧ (rootOf L K).id = 32 ∧ (rootOf L K).rest = L := by
  obtain ⟨_, r1, r2, _⟩ := ckX_all (w := 1) h0 hL k0 hK k6 (Nat.le_refl _) h0
  exact ⟨root_mem h0 r2, r1, r2⟩
theorem best_le (ρ : Rho) : wN L K ρ (rootOf L K) ∈ leafs L K ∧ ∀ x ∈ leafs L K, ¬ lexP (fL ρ x) (fL ρ (wN L K ρ (rootOf L K))) ∧ (¬ lexP (fL ρ (wN L K ρ (rootOf L K))) (fL ρ x) → (wN L K ρ (rootOf L K)).id ≤ x.id) := by
  have hr := (root_in h0 hL k0 hK k6).1
  have hw := win_ck h0 hL k0 hK k6
  unfold winCk at hw
  simp only [Bool.and_eq_true] at hw
  have e := eqNodes_eq _ _ hw.2.1.1
  have hi := hw.2.1.2
  obtain ⟨s1, s2⟩ := wN_some h0 hL k0 hK k6 ρ hr
  rw [e] at s1 s2
  refine ⟨s2, fun x hx => ?_⟩
  cases hl : leafs L K with
  | nil => rw [hl] at hx; cases hx
  | cons c cs =>
    rw [hl] at s1 hx hi
    have s1 : minB (fL ρ) c cs = wN L K ρ (rootOf L K) := Option.some.inj s1
    rw [← s1]
    refine ⟨?_, fun hn => minB_id Node.id cs c hi x hx hn⟩
    rcases List.mem_cons.1 hx with rfl | hx
    · exact (minB_le (fL ρ) cs x).1
    · exact (minB_le (fL ρ) cs c).2 x hx
omit h0 hL k0 hK k6 in
theorem planCk_get : ∀ (l : List (List Nat)) (n i : Nat) (p : List Nat), planCk L K l n = true → l[i]? = some p → (∀ q ∈ p, q ≤ K) → hasLeaf L K (n + i) p = true
  | [], _, _, _, _, h, _ => by simp at h
  | a :: l, n, i, p, hc, h, hp => by
    have e : planCk L K (a :: l) n = and (cond (allLe K a) (hasLeaf L K n a) true) (planCk L K l (n + 1)) := rfl
    rw [e, Bool.and_eq_true] at hc
    cases i with
    | zero =>
      rw [List.getElem?_cons_zero] at h
      cases h
      have ha : allLe K a = true := by unfold allLe; exact lAll_of fun q hq => ble_t.2 (hp q hq)
      rw [ha, cond_true] at hc
      exact hc.1
    | succ i =>
      rw [List.getElem?_cons_succ] at h
      have := planCk_get l (n + 1) i p hc.2 h hp
      rw [show n + (i + 1) = n + 1 + i by omega]; exact this
theorem plan_leaf {i : Nat} {p : List Nat} (h : (plansL L)[i]? = some p) (hp : ∀ q ∈ p, q ≤ K) : ∃ x ∈ leafs L K, x.id = i ∧ x.pre = p := by
  have hw := win_ck h0 hL k0 hK k6
  unfold winCk at hw
  simp only [Bool.and_eq_true] at hw
  have := planCk_get _ 0 i p hw.2.2.1 h hp
  rw [Nat.zero_add] at this
  unfold hasLeaf at this
  rw [List.any_eq_true] at this
  obtain ⟨x, hx, hh⟩ := this
  rw [Bool.and_eq_true] at hh
  exact ⟨x, hx, beq_t.1 hh.1, eqNs_eq _ _ hh.2⟩
end
end Go.Sx
namespace Go.Sx
open Go.RowKit Go.Proofs
set_option maxRecDepth 100000
theorem turn_at {p : Par} (hP : pT.P = p.P) (a m : IE) (h : Heap) : CallOk p 13 [.int .i64 a, .int .i64 m] h (.br (.cmp .leq m big) (.ret (.int .i64 (.app 6 a m (.lit 0)), h)) (.fail 99)) := turn_orc hP (args := [.int .i64 a, .int .i64 m]) (h := h) rfl
theorem trips_left : ∀ (plan : List Nat) (left k : Nat), (∀ p ∈ plan, 1 ≤ p) → sumN plan = left → ∀ q ∈ tripsL plan left k, q.1 ≤ left ∧ 1 ≤ q.2.2 ∧ q.2.2 ≤ q.1
  | [], _, _, _, _, q, hq => by cases hq
  | p :: plan, left, k, h, hs, q, hq => by
    have hp := h p List.mem_cons_self
    simp only [sumN] at hs
    have hq : q ∈ (left, k, p) :: tripsL plan (left - p) (k + 1) := hq
    rcases List.mem_cons.1 hq with rfl | hq
    · exact ⟨Nat.le_refl _, hp, by show p ≤ left; omega⟩
    · have := trips_left plan (left - p) (k + 1) (fun q hq => h q (List.mem_cons_of_mem _ hq)) (by omega) q hq
      omega
theorem orcTurn_ok {ok : Rho → (Nat → Obj → Prop) → Prop} {L : Nat} (hL : L ≤ 6) {plan : List Nat} (hp : plan ∈ plansL L) (hok : ∀ ρ m, ok ρ m → OkTr L plan ρ) {args : List AV} {h : Heap} {t : T (AV × Heap)} (e : orcTurn L plan args h = some t) : CallOk (pOk ok) 13 args h t := by
  unfold orcTurn at e
  split at e
  · rename_i k1 a k2 m
    obtain ⟨i1, e⟩ := cond_some e
    rw [Bool.and_eq_true] at i1
    rw [isI64_eq i1.1, isI64_eq i1.2]
    have key : ∀ (l : List (Nat × Nat × Nat)), (@List.rec (Nat × Nat × Nat) (fun _ => Option (T (AV × Heap))) none (fun q _ ih => cond (eqIE (.app 6 a m (.lit 0)) (tripE q.1 q.2.1)) (some (.ret (.int .i64 (.lit (Int.sub (Int.ofNat q.2.2) 1)), h))) ih) l) = some t →
        ∃ q ∈ l, IE.app 6 a m (.lit 0) = tripE q.1 q.2.1 ∧ t = .ret (.int .i64 (.lit (Int.sub (Int.ofNat q.2.2) 1)), h) := by
      intro l
      induction l with
      | nil => intro h; cases h
      | cons q l ih =>
        intro hh
        have hh : cond (eqIE (.app 6 a m (.lit 0)) (tripE q.1 q.2.1)) (some (T.ret (.int .i64 (.lit (Int.sub (Int.ofNat q.2.2) 1)), h))) (@List.rec (Nat × Nat × Nat) (fun _ => Option (T (AV × Heap))) none (fun q _ ih => cond (eqIE (.app 6 a m (.lit 0)) (tripE q.1 q.2.1)) (some (.ret (.int .i64 (.lit (Int.sub (Int.ofNat q.2.2) 1)), h))) ih) l) = some t := hh
        cases hc : eqIE (.app 6 a m (.lit 0)) (tripE q.1 q.2.1) with
        | true => rw [hc] at hh; cases hh; exact ⟨q, List.mem_cons_self, eqIE_eq _ _ hc, rfl⟩
        | false =>
          rw [hc, cond_false] at hh
          obtain ⟨q', h1, h2⟩ := ih hh
          exact ⟨q', List.mem_cons_of_mem _ h1, h2⟩
    obtain ⟨q, hq, he, rfl⟩ := key _ e
    refine CallOk.read (p0 := pOk ok) (p := pOk ok) rfl (turn_at (p := pOk ok) rfl a m h) fun ρ b hok' Q k => ⟨ρ, hok', SameL.refl _ _, ⟨rfl, fun j o g => ⟨o, g, SameA.refl o⟩⟩, ?_⟩
    obtain ⟨_, hA, _⟩ := hok'
    have hA := hok _ _ hA
    have k : Q (.int .i64 (.lit (Int.sub (Int.ofNat q.2.2) 1)), h) := k
    have hd := hA q hq
    have hl := trips_left plan L 0 (plansN_mem _ _ _ hp).1 (plansN_mem _ _ _ hp).2 q hq
    have hm : m = .mn (.lit (Int.ofNat q.1)) (.var 65) := by unfold tripE at he; cases he; rfl
    simp only [T.Holds]
    rw [if_pos]
    · refine ⟨_, k, SameV.int ?_, rfl, fun j o g => ⟨o, g, SameA.refl o⟩⟩
      rw [he, hd]; rfl
    · rw [BE.t_leq, hm, IE.den_mn, IE.den_lit, IE.den_var]
      have : big.den ρ = 9223372036854775807 := rfl
      rw [this]
      have : Int.ofNat q.1 ≤ 6 := by have := hl.1; show ((q.1 : Nat) : Int) ≤ 6; omega
      omega
  · cases e
def okG (L K : Nat) (W : List (Nat × Nat)) (p o : List Nat) (ρ : Rho) (m : Nat → Obj → Prop) : Prop := okNd L K W ρ ∧ tripZ ρ W (rootOf L K) = p.map Int.ofNat ∧ (∀ c ∈ carryC p, c.den ρ = true) ∧ (∀ c ∈ carryC o, c.den ρ = true) ∧ OkTr L o ρ ∧ okPick ρ m
theorem litsN_eq (l : List Nat) : litsN l = lMap iA (l.map fun p => .lit (Int.ofNat p)) := by unfold litsN; rw [lMap_eq, lMap_eq, List.map_map]; rfl
theorem best_lit {ok : Rho → (Nat → Obj → Prop) → Prop} {L K : Nat} {W : List (Nat × Nat)} (H : Base0 L K W) {p : List Nat} (hl : lenN W 32 = lLen p) (hok : ∀ ρ m, ok ρ m → okNd L K W ρ ∧ tripZ ρ W (rootOf L K) = p.map Int.ofNat) :
    CallOk (pOk ok) 6 [bookF L] (viewA 2000 (vR L)) (.ret (leafBe L p)) := by
  refine CallOk.read (p0 := pOk ok) (p := pOk ok) rfl (CallOk.weak (ok0 := fun ρ _ => okNd L K W ρ) (fun ρ m k => (hok ρ m k).1) (best_said H)) fun ρ b hok' Q k => ⟨ρ, hok', SameL.refl _ _, ⟨rfl, fun j o g => ⟨o, g, SameA.refl o⟩⟩, ?_⟩
  obtain ⟨_, hA, _⟩ := hok'
  have ht := (hok _ _ hA).2
  have k : Q (leafBe L p) := k
  obtain ⟨_, r1, r2⟩ := root_in H.h0 H.hL H.k0 H.hK H.k6
  have el : lenNd W (rootOf L K) = lLen p := by
    unfold lenNd
    rw [r1, r2, beq_f.2 (by have := H.h0; omega), cond_false]; exact hl
  unfold tripZ at ht
  rw [el] at ht
  refine ⟨_, k, by rw [hl]; exact SameV.refl _ _, (viewA_next _ _).trans (viewA_next _ _).symm, fun j o g => ?_⟩
  rcases List.mem_append.1 (viewA_get _ _ _ _ g) with hm | hm
  · exact ⟨o, viewA_mem 2001 _ 0 rfl _ (List.mem_append_left _ hm), SameA.refl o⟩
  · rw [List.mem_singleton] at hm
    cases hm
    refine ⟨_, viewA_mem 2001 _ 0 rfl (2000, chO L K (lenN W 32)) (List.mem_append_right _ (List.mem_singleton.2 rfl)), ?_⟩
    unfold chO
    rw [hl, tripsN_eq, litsN_eq]
    refine SameA.cells rfl (same_ints ?_)
    rw [ht, List.map_map]; rfl
theorem orcStart_ok {ok : Rho → (Nat → Obj → Prop) → Prop} {L : Nat} (h0 : 1 ≤ L) (hL : L ≤ 6) (hall : lAll (ckSt L) (plansL L) = true) : ∀ {qs : List (Nat × List Nat)}, (∀ q ∈ qs, (plansL L)[q.1]? = some q.2 ∧ ∀ ρ m, ok ρ m → okPB L q.2 ρ) → ∀ {args : List AV} {h : Heap} {t : T (AV × Heap)}, orcStart L qs args h = some t → CallOk (pOk ok) 11 args h t := by
  intro qs hq args h t e
  unfold orcStart at e
  split at e
  · rename_i fa c s z n
    obtain ⟨j1, e⟩ := cond_some e
    simp only [Bool.and_eq_true] at j1
    obtain ⟨⟨i1, i2, i3⟩, i4⟩ := j1
    rw [eqAV_eq _ _ i1, beq_t.1 i2, beq_t.1 i3]
    have key : ∀ (l : List (Nat × List Nat)), (@List.rec (Nat × List Nat) (fun _ => Option (T (AV × Heap))) none (fun q _ ih => cond (and (Nat.beq n (lLen q.2)) (lessO (ro (litsN q.2)) (h.get c))) (some (.ret (startsV q.1, h))) ih) l) = some t → ∃ q ∈ l, n = lLen q.2 ∧ lessO (ro (litsN q.2)) (h.get c) = true ∧ t = .ret (startsV q.1, h) := by
      intro l
      induction l with
      | nil => intro h; cases h
      | cons q l ih =>
        intro hh
        have hh : cond (and (Nat.beq n (lLen q.2)) (lessO (ro (litsN q.2)) (h.get c))) (some (T.ret (startsV q.1, h))) (@List.rec (Nat × List Nat) (fun _ => Option (T (AV × Heap))) none (fun q _ ih => cond (and (Nat.beq n (lLen q.2)) (lessO (ro (litsN q.2)) (h.get c))) (some (.ret (startsV q.1, h))) ih) l) = some t := hh
        cases hc : and (Nat.beq n (lLen q.2)) (lessO (ro (litsN q.2)) (h.get c)) with
        | true =>
          rw [hc] at hh; cases hh
          rw [Bool.and_eq_true] at hc
          exact ⟨q, List.mem_cons_self, beq_t.1 hc.1, hc.2, rfl⟩
        | false =>
          rw [hc, cond_false] at hh
          obtain ⟨q', k1, k2⟩ := ih hh
          exact ⟨q', List.mem_cons_of_mem _ k1, k2⟩
    obtain ⟨q, hm, hn, hl, rfl⟩ := key qs e
    obtain ⟨k1, k2⟩ := hq q hm
    rw [hn]
    exact starts_at h0 hL k1 (lAll_mem hall q.2 (List.mem_of_getElem? k1)) k2 i4 hl
  · cases e
theorem orcG_ok {L K : Nat} {W : List (Nat × Nat)} (H : Base0 L K W) (hall : lAll (ckSt L) (plansL L) = true) {ip io : Nat} {p o : List Nat} (hp : (plansL L)[ip]? = some p) (ho : (plansL L)[io]? = some o) (hl : lenN W 32 = lLen p) : ∀ f args h t, orcG L ip p io o f args h = some t → CallOk (pOk (okG L K W p o)) f args h t := by
  intro f args h t e
  unfold orcG at e
  have dec : ∀ {n : Nat} {a b : Option (T (AV × Heap))}, cond (Nat.beq f n) a b = some t → (f = n ∧ a = some t) ∨ b = some t := fun {n a b} e => by
    cases hf : Nat.beq f n with
    | true => rw [hf, cond_true] at e; exact .inl ⟨beq_t.1 hf, e⟩
    | false => rw [hf, cond_false] at e; exact .inr e
  rcases dec e with ⟨rfl, e⟩ | e
  · exact CallOk.weak (fun _ _ _ => trivial) (carried_orc e)
  rcases dec e with ⟨rfl, e⟩ | e
  · exact pick_orc (p := pOk (okG L K W p o)) rfl (fun ρ m h => h.2.2.2.2.2) e
  rcases dec e with ⟨rfl, e⟩ | e
  · exact orcTurn_ok H.hL (List.mem_of_getElem? ho) (fun ρ m h => h.2.2.2.2.1) e
  rcases dec e with ⟨rfl, e⟩ | e
  · exact smallO_ok (CallOk.weak (fun ρ m h => h.1.1.1.1) (soundB_said H.h0 H.hL)) (by omega) rfl (viewR_ok H.h0 H.hL) e
  rcases dec e with ⟨rfl, e⟩ | e
  · exact smallO_ok (best_lit H hl fun ρ m h => ⟨h.1, h.2.1⟩) (by omega) rfl (viewR_ok H.h0 H.hL) e
  rcases dec e with ⟨rfl, e1⟩ | e1
  · refine orcStart_ok H.h0 H.hL hall (fun q hq => ?_) e1
    simp only [List.mem_cons, List.not_mem_nil, or_false] at hq
    rcases hq with rfl | rfl
    · exact ⟨hp, fun ρ m h => ⟨h.1.1, h.2.2.1⟩⟩
    · exact ⟨ho, fun ρ m h => ⟨h.1.1, h.2.2.2.1⟩⟩
  · cases e1
theorem rowsG_get {L ip : Nat} {p : List Nat} : ∀ (l : List (List Nat)) (n i : Nat) (o : List Nat), rowsG L ip p l n = true → l[i]? = some o → lawG L ip p (n + i) o = true
  | [], _, _, _, _, h => by simp at h
  | a :: l, n, i, o, hc, h => by
    have e : rowsG L ip p (a :: l) n = cond (lawG L ip p n a) (rowsG L ip p l (n + 1)) false := rfl
    rw [e] at hc
    cases ha : lawG L ip p n a with
    | false => rw [ha] at hc; cases hc
    | true =>
      rw [ha, cond_true] at hc
      cases i with
      | zero => rw [List.getElem?_cons_zero] at h; cases h; exact ha
      | succ i =>
        rw [List.getElem?_cons_succ] at h
        rw [show n + (i + 1) = n + 1 + i by omega]
        exact rowsG_get l (n + 1) i o hc h
section
variable {E : Env} {w : World} {vs : List Value}
theorem best_valid {L K : Nat} {W : List (Nat × Nat)} (H : Base0 L K W) (hall : lAll (ckSt L) (plansL L) = true) {ip io : Nat} {p o : List Nat} (hck : ckG L ip = true) (hp : (plansL L)[ip]? = some p) (ho : (plansL L)[io]? = some o) (hl : lenN W 32 = lLen p) (hord : (ordC ip p io o).den E.ρ = true)
    (HS : HeapOk (pOk (okG L K W p o)) E (viewA 2000 (vR L)) (Base.of w) w) (ha : concL E [bookF L, .sliceU 96] = some vs) : Calls Tryd.prog 3 vs.toArray w fun e w' => e = .returned (.bool true) ∧ Below w.heap.size w w' := by
  obtain ⟨m, hm, _⟩ := HS.ok
  have hm : okG L K W p o E.ρ m := hm
  have hlaw : lawG L ip p io o = true := by
    unfold ckG at hck
    have ep : planI L ip = p := by unfold planI; rw [listGet_eq, hp]
    rw [ep] at hck
    have := rowsG_get _ 0 io o hck ho
    rw [Nat.zero_add] at this; exact this
  have hK : KnOk E.ρ (knOf [] (ordC ip p io o :: carryC p)) := knOf_ok (fun c hc => by cases hc) fun c hc => by
    rcases List.mem_cons.1 hc with rfl | hc
    · exact hord
    · exact hm.2.2.1 c hc
  have key := allK_ok (fun K a H h => isTrueK_ok H h) _ _ hK hlaw
  obtain ⟨r1, r2⟩ := eval_ok (Tryd.tab (orcG L ip p io o) (orcG_ok H hall hp ho hl) 2000) 60 3 [bookF L, .sliceU 96] (viewA 2000 (vR L)) vs E (Base.of w) w _ (fun cv w' => cv = .bool true ∧ Below w.heap.size w w') key HS ha
    (fun v h' E2 w' cv hq2 hle HH' hv2 => by
      obtain ⟨b, hb1, hb2⟩ := hq2
      refine ⟨?_, Base.keeps_below HH'.below⟩
      have hb1 : v = .bool b := hb1
      rw [hb1] at hv2
      simp only [conc, Option.some.injEq] at hv2
      rw [← hv2, hle.ρ, hb2])
  refine r2.mono ?_
  rintro e w' ⟨cv, rfl, rfl, hb⟩
  exact ⟨rfl, hb⟩
end
end Go.Sx
namespace Go.Sx
open Go.RowKit Go.Proofs
set_option maxRecDepth 100000
noncomputable def le2 (a b : IE) : BE := .cmp .leq a b
noncomputable def reelC (b : Nat) : List BE :=
  [le2 (.lit 0) (.var b), le2 (.var b) (.var (b + 1)), le2 (.var (b + 1)) (.lit 99), le2 (.lit 0) (.var (b + 2)), le2 (.var (b + 2)) (.var (b + 3)), le2 (.var (b + 3)) (.lit 99), le2 (.lit 1) (.var (b + 4)), le2 (.var (b + 4)) (.var (b + 5)), le2 (.var (b + 5)) (.lit 1200), le2 (.var b) (.var (b + 3))]
noncomputable def restC : List BE := [le2 (.lit 1) (.var 0), le2 (.var 0) (.var 1), le2 (.var 1) (.lit 20), le2 (.lit 0) (.var 2), le2 (.var 2) (.var 3), le2 (.var 3) (.lit 50), le2 (.lit 1) (.var 4), le2 (.var 4) (.lit 6000)]
noncomputable def csUp : Nat → Nat → List BE
  | 0, _ => restC
  | n + 1, b => reelC b ++ csUp n (b + 6)
noncomputable def csL (L : Nat) : List BE := csUp L 10
noncomputable def bookCs : List BE := [le2 (.lit 0) (.var 60), le2 (.var 60) (.lit 998), le2 (.lit 1) (.var 65), le2 (.var 65) (.lit 6), le2 (.lit 0) (.var 61), le2 (.var 61) (.var 62), le2 (.var 62) (.lit 3600), le2 (.lit 0) (.var 63), le2 (.var 63) (.var 64), le2 (.var 64) (.lit 3600)]
noncomputable def conjC : List BE → BE
  | [] => .lit true
  | c :: l => .and c (conjC l)
theorem conj_false {ρ : Rho} : ∀ (l : List BE), (conjC l).den ρ = true → ∀ c ∈ l, c.den ρ = true
  | [], _, c, hc => by cases hc
  | d :: l, h, c, hc => by
    simp only [conjC, BE.den, Bool.and_eq_true] at h
    rcases List.mem_cons.1 hc with rfl | hc
    · exact h.1
    · exact conj_false l h.2 c hc
noncomputable def cellsUp : Nat → Nat → List AV
  | 0, _ => []
  | n + 1, i => vi i :: cellsUp n (i + 1)
noncomputable def filmV (L : Nat) : AV := .agg [.sliceX 1001 6 0 L, vi 0, vi 1, vi 2, vi 3, vi 4]
noncomputable def viewV (L : Nat) : List (Nat × List AV) := (1001, cellsUp (6 * L) 10) :: glR
noncomputable def notFilm (L : Nat) : CSpec := ⟨43, [filmV L], viewV L, 2000, [], .br (conjC (csL L)) (.fail 1) (.ret (.bool (.lit false)))⟩
noncomputable def ckI (L : Nat) : Bool := (notFilm L).chk (evalN tb0 60 false 43 (notFilm L).args (viewHeap 2000 (notFilm L).view))
theorem ckI_all : lAll ckI [1, 2, 3, 4, 5, 6] = true := by kernel_rfl
noncomputable def orcTI (L : Nat) (f : FuncId) (args : List AV) (h : Heap) : Option (T (AV × Heap)) :=
  cond (Nat.beq f 8) (closedOrc glR args h) (cond (Nat.beq f 43) ((notFilm L).orc args h) none)
noncomputable def tbTI (L : Nat) : Tabs := ⟨Sx.Tryd.ft.get, lFind Sx.Tryd.rt, 2000, orcTI L⟩
noncomputable def bookW (s : AV) : AV := .agg [s, vj 0, vj 1, vj 2, vj 3, vj 4, vj 60, vj 61, vj 62, vj 63, vj 64, vj 65]
noncomputable def lawTI (L : Nat) : Bool := allK isTrueK (evalN (tbTI L) 60 false 3 [bookF L, .sliceU 96] (viewHeap 2000 (viewV L))) ⟨.nil, [], [⟨conjC (csL L), false⟩]⟩
theorem lawTI_all : lAll lawTI [1, 2, 3, 4, 5, 6] = true := by kernel_rfl
noncomputable def orcTS (f : FuncId) (args : List AV) (h : Heap) : Option (T (AV × Heap)) := cond (Nat.beq f 8) (closedOrc glR args h) none
noncomputable def tbTS : Tabs := ⟨Sx.Tryd.ft.get, lFind Sx.Tryd.rt, 2000, orcTS⟩
noncomputable def lawTS (s : AV) (cs : List BE) : Bool := allK isTrueK (evalN tbTS 60 false 3 [bookW s, .sliceU 96] (viewHeap 2000 glR)) (knOf [] cs)
theorem lawTS_nil : lawTS .nilslice [] = true := by kernel_rfl
theorem lawTS_few : lawTS (.sliceU 95) [.cmp .leq (.var 95) (.lit 0)] = true := by kernel_rfl
theorem lawTS_many : lawTS (.sliceU 95) [.cmp .leq (.lit 7) (.var 95)] = true := by kernel_rfl
theorem orcTI_ok {L : Nat} (hL : L ∈ [1, 2, 3, 4, 5, 6]) : ∀ f args h t, orcTI L f args h = some t → CallOk pT f args h t := by
  intro f args h t e
  have h1 : ckI L = true := lAll_mem ckI_all L hL
  unfold orcTI at e
  cases h25 : Nat.beq f 8 with
  | true => rw [h25] at e; have := beq_t.1 h25; subst this; exact carried_orc e
  | false =>
    rw [h25, cond_false] at e
    obtain ⟨h68, e⟩ := cond_some e
    have := beq_t.1 h68; subst this
    exact CSpec.ok (c := notFilm L) (eval_ok tabs0 60 43 (notFilm L).args _) h1 (Nat.le_of_ble_eq_true rfl) e
theorem orcTS_ok : ∀ f args h t, orcTS f args h = some t → CallOk pT f args h t := by
  intro f args h t e
  unfold orcTS at e
  obtain ⟨h25, e⟩ := cond_some e
  have := beq_t.1 h25; subst this
  exact carried_orc e
section
variable {E : Env} {w : World} {vs : List Value}
theorem waits_bad {L : Nat} (hL : L ∈ [1, 2, 3, 4, 5, 6]) (hv : ∀ g ∈ viewV L, ViewIn w E g) (hf : ∀ b, 2000 ≤ b → E.σ b = none) (hg : ∀ b, b < 1000 → E.σ b = some (b, 0)) (hn : E.n ≤ 2000)
    (ha : concL E ([bookF L, .sliceU 96]) = some vs) (hno : ¬ ∀ c ∈ csL L, c.den E.ρ = true) : Calls Tryd.prog 3 vs.toArray w fun e w' => e = .returned (.bool true) ∧ Below w.heap.size w w' := by
  have h1 : lawTI L = true := lAll_mem lawTI_all L hL
  have hc : (conjC (csL L)).den E.ρ = false := by
    cases h : (conjC (csL L)).den E.ρ with
    | false => rfl
    | true => exact absurd (conj_false _ h) hno
  have hK : KnOk E.ρ ⟨.nil, [], [⟨conjC (csL L), false⟩]⟩ := by
    refine ⟨fun i v h => ?_, fun f hf => (List.not_mem_nil hf).elim, fun a ha => ?_⟩
    · rw [PT.get_nil] at h; cases h
    · rcases List.mem_singleton.1 ha with rfl; exact hc
  exact law_view (Tryd.tab (orcTI L) (orcTI_ok hL) 2000) hv hf hg hn ha (allK_ok (fun K a H h => isTrueK_ok H h) _ _ hK h1) (Par.okB_all (fun _ _ => trivial) _ _)
theorem waits_short {s : AV} {cs : List BE} (h1 : lawTS s cs = true) (hv : ∀ g ∈ glR, ViewIn w E g) (hf : ∀ b, 2000 ≤ b → E.σ b = none) (hg : ∀ b, b < 1000 → E.σ b = some (b, 0)) (hn : E.n ≤ 2000)
    (ha : concL E [bookW s, .sliceU 96] = some vs) (hcs : ∀ c ∈ cs, c.den E.ρ = true) : Calls Tryd.prog 3 vs.toArray w fun e w' => e = .returned (.bool true) ∧ Below w.heap.size w w' := by
  have hK : KnOk E.ρ (knOf [] cs) := knOf_ok (fun c hc => by simp [ivC] at hc) hcs
  exact law_view (Tryd.tab orcTS orcTS_ok 2000) hv hf hg hn ha (allK_ok (fun K a H h => isTrueK_ok H h) _ _ hK h1) (Par.okB_all (fun _ _ => trivial) _ _)
end
theorem first_none {L : Nat} (h0 : 1 ≤ L) (hL : L ≤ 6) : CallOk (pOk fun ρ _ => okT L ρ ∧ okFilm L ρ ∧ (noneB L).den ρ = true) 39 [filmF L] (viewA 2000 (vK L)) (.ret (noneVF, viewA 2001 (vF0 L))) := by
  refine CallOk.read (p0 := pF L) (p := pOk fun ρ _ => okT L ρ ∧ okFilm L ρ ∧ (noneB L).den ρ = true) rfl (first_said h0 hL) fun ρ b ⟨m, k1, k2⟩ Q k => ⟨ρ, ⟨m, ⟨k1.1, k1.2.1⟩, k2⟩, SameL.refl _ _, ⟨rfl, fun j o g => ⟨o, g, SameA.refl o⟩⟩, ?_⟩
  have k : Q (noneVF, viewA 2001 (vF0 L)) := k
  have hn : (noneE (fullM L) (.lit 0) (.lit 100)).den ρ = true := k1.2.2
  unfold saidF
  simp only [T.Holds]
  rw [if_pos hn]
  exact ⟨_, k, SameV.refl _ _, rfl, fun j o g => ⟨o, g, SameA.refl o⟩⟩
noncomputable def orcTN (L : Nat) (f : FuncId) (args : List AV) (h : Heap) : Option (T (AV × Heap)) :=
  cond (Nat.beq f 8) (closedOrc glR args h) (cond (Nat.beq f 39) (smallO 2000 [filmF L] (vK L) (.ret (noneVF, viewA 2001 (vF0 L))) (fun _ => [2000]) args h) none)
noncomputable def tbTN (L : Nat) : Tabs := ⟨Sx.Tryd.ft.get, lFind Sx.Tryd.rt, 2000, orcTN L⟩
noncomputable def lawTN (L : Nat) : Bool := allK isTrueK (evalN (tbTN L) 60 false 3 [bookF L, .sliceU 96] (viewA 2000 (vR L))) (knOf [] [])
theorem lawTN_all : lAll lawTN [1, 2, 3, 4, 5, 6] = true := by kernel_rfl
noncomputable def notRelay (L : Nat) : CSpec := ⟨40, [bookF L], viewV L, 2000, [], .br (conjC bookCs) (.fail 1) (.ret (.bool (.lit false)))⟩
noncomputable def ckNR (L : Nat) : Bool := (notRelay L).chk (evalN tb0 60 false 40 (notRelay L).args (viewHeap 2000 (notRelay L).view))
theorem ckNR_all : lAll ckNR [1, 2, 3, 4, 5, 6] = true := by kernel_rfl
theorem first_found' {L : Nat} (h0 : 1 ≤ L) (hL : L ≤ 6) : CallOk (pOk fun ρ _ => okT L ρ ∧ okFilm L ρ ∧ (noneB L).den ρ = false) 39 [filmF L] (viewA 2000 (vK L)) (.ret (foundVF L, viewA 2001 (vF L))) := by
  refine CallOk.read (p0 := pF L) (p := pOk fun ρ _ => okT L ρ ∧ okFilm L ρ ∧ (noneB L).den ρ = false) rfl (first_said h0 hL) fun ρ b ⟨m, k1, k2⟩ Q k => ⟨ρ, ⟨m, ⟨k1.1, k1.2.1⟩, k2⟩, SameL.refl _ _, ⟨rfl, fun j o g => ⟨o, g, SameA.refl o⟩⟩, ?_⟩
  have k : Q (foundVF L, viewA 2001 (vF L)) := k
  have hn : (noneE (fullM L) (.lit 0) (.lit 100)).den ρ = false := k1.2.2
  unfold saidF
  simp only [T.Holds]
  rw [if_neg (by rw [hn]; exact Bool.false_ne_true)]
  exact ⟨_, k, SameV.refl _ _, rfl, fun j o g => ⟨o, g, SameA.refl o⟩⟩
noncomputable def orcTB (L : Nat) (f : FuncId) (args : List AV) (h : Heap) : Option (T (AV × Heap)) :=
  cond (Nat.beq f 8) (closedOrc glR args h) (cond (Nat.beq f 39) (smallO 2000 [filmF L] (vK L) (.ret (foundVF L, viewA 2001 (vF L))) (fun _ => [2000]) args h) (cond (Nat.beq f 40) ((notRelay L).orc args h) none))
noncomputable def tbTB (L : Nat) : Tabs := ⟨Sx.Tryd.ft.get, lFind Sx.Tryd.rt, 2000, orcTB L⟩
noncomputable def lawTB (L : Nat) : Bool := allK isTrueK (evalN (tbTB L) 60 false 3 [bookF L, .sliceU 96] (viewA 2000 (vR L))) ⟨.nil, [], [⟨conjC bookCs, false⟩]⟩
theorem lawTB_all : lAll lawTB [1, 2, 3, 4, 5, 6] = true := by kernel_rfl
theorem law_end {ok : Rho → (Nat → Obj → Prop) → Prop} {orc : FuncId → List AV → Heap → Option (T (AV × Heap))} {L : Nat} (ho : ∀ f args h t, orc f args h = some t → CallOk (pOk ok) f args h t) {E : Env} {w : World} {vs : List Value} {K : Kn}
    (hck : allK isTrueK (evalN ⟨Sx.Tryd.ft.get, lFind Sx.Tryd.rt, 2000, orc⟩ 60 false 3 [bookF L, .sliceU 96] (viewA 2000 (vR L))) K = true) (hK : KnOk E.ρ K)
    (HS : HeapOk (pOk ok) E (viewA 2000 (vR L)) (Base.of w) w) (ha : concL E [bookF L, .sliceU 96] = some vs) : Calls Tryd.prog 3 vs.toArray w fun e w' => e = .returned (.bool true) ∧ Below w.heap.size w w' := by
  have key := allK_ok (fun K a H h => isTrueK_ok H h) _ _ hK hck
  obtain ⟨r1, r2⟩ := eval_ok (Tryd.tab orc ho 2000) 60 3 [bookF L, .sliceU 96] (viewA 2000 (vR L)) vs E (Base.of w) w _ (fun cv w' => cv = .bool true ∧ Below w.heap.size w w') key HS ha
    (fun v h' E2 w' cv hq2 hle HH' hv2 => by
      obtain ⟨b, hb1, hb2⟩ := hq2
      refine ⟨?_, Base.keeps_below HH'.below⟩
      have hb1 : v = .bool b := hb1
      rw [hb1] at hv2
      simp only [conc, Option.some.injEq] at hv2
      rw [← hv2, hle.ρ, hb2])
  refine r2.mono ?_
  rintro e w' ⟨cv, rfl, rfl, hb⟩
  exact ⟨rfl, hb⟩
theorem waits_none {L : Nat} (h0 : 1 ≤ L) (hL : L ≤ 6) {E : Env} {w : World} {vs : List Value} (HS : HeapOk (pOk fun ρ _ => okT L ρ ∧ okFilm L ρ ∧ (noneB L).den ρ = true) E (viewA 2000 (vR L)) (Base.of w) w) (ha : concL E [bookF L, .sliceU 96] = some vs) :
    Calls Tryd.prog 3 vs.toArray w fun e w' => e = .returned (.bool true) ∧ Below w.heap.size w w' := by
  refine law_end (orc := orcTN L) (fun f args h t e => ?_) (K := knOf [] []) (lAll_mem lawTN_all L (mem_six h0 hL)) (knOf_ok (fun c hc => by cases hc) (fun c hc => by cases hc)) HS ha
  unfold orcTN at e
  cases h7 : Nat.beq f 8 with
  | true => rw [h7, cond_true] at e; rw [beq_t.1 h7]; exact CallOk.weak (fun _ _ _ => trivial) (carried_orc e)
  | false =>
    rw [h7, cond_false] at e
    obtain ⟨h40, e1⟩ := cond_some e
    rw [beq_t.1 h40]
    exact smallO_ok (first_none h0 hL) (by omega) rfl (viewK_ok h0 hL) e1
theorem waits_book {L : Nat} (h0 : 1 ≤ L) (hL : L ≤ 6) {E : Env} {w : World} {vs : List Value} (HS : HeapOk (pOk fun ρ _ => okT L ρ ∧ okFilm L ρ ∧ (noneB L).den ρ = false) E (viewA 2000 (vR L)) (Base.of w) w) (ha : concL E [bookF L, .sliceU 96] = some vs)
    (hno : ¬ ∀ c ∈ bookCs, c.den E.ρ = true) : Calls Tryd.prog 3 vs.toArray w fun e w' => e = .returned (.bool true) ∧ Below w.heap.size w w' := by
  have hc : (conjC bookCs).den E.ρ = false := by
    cases h : (conjC bookCs).den E.ρ with
    | false => rfl
    | true => exact absurd (conj_false _ h) hno
  have hK : KnOk E.ρ ⟨.nil, [], [⟨conjC bookCs, false⟩]⟩ := by
    refine ⟨fun i v h => ?_, fun f hf => (List.not_mem_nil hf).elim, fun a ha => ?_⟩
    · rw [PT.get_nil] at h; cases h
    · rcases List.mem_singleton.1 ha with rfl; exact hc
  refine law_end (orc := orcTB L) (fun f args h t e => ?_) (lAll_mem lawTB_all L (mem_six h0 hL)) hK HS ha
  unfold orcTB at e
  cases h7 : Nat.beq f 8 with
  | true => rw [h7, cond_true] at e; rw [beq_t.1 h7]; exact CallOk.weak (fun _ _ _ => trivial) (carried_orc e)
  | false =>
    rw [h7, cond_false] at e
    cases h40 : Nat.beq f 39 with
    | true => rw [h40, cond_true] at e; rw [beq_t.1 h40]; exact smallO_ok (first_found' h0 hL) (by omega) rfl (viewK_ok h0 hL) e
    | false =>
      rw [h40, cond_false] at e
      obtain ⟨h70, e1⟩ := cond_some e
      have := beq_t.1 h70; subst this
      exact CallOk.weak (ok0 := fun _ _ => True) (fun _ _ _ => trivial) (CSpec.ok (c := notRelay L) (p := pT) (eval_ok tabs0 60 40 (notRelay L).args _) (lAll_mem ckNR_all L (mem_six h0 hL)) (Nat.le_of_ble_eq_true rfl) e1)
end Go.Sx
