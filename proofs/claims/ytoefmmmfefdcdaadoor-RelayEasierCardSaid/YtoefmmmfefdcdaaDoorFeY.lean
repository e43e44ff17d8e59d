/- FeY -/
import Derived.Test.YtoefmmmfefdcdaaDoorBeK09
import Derived.Test.YtoefmmmfefdcdaaDoorBeK02
import Derived.Test.YtoefmmmfefdcdaaDoorBeK03
import Derived.Test.YtoefmmmfefdcdaaDoorBeK06
import Derived.Test.YtoefmmmfefdcdaaDoorBeK07
import Derived.Test.YtoefmmmfefdcdaaDoorBeK08
import Derived.Test.YtoefmmmfefdcdaaDoorBeK13
import Derived.Test.YtoefmmmfefdcdaaDoorBeK34
import Derived.Test.YtoefmmmfefdcdaaDoorBeK12
import Derived.Test.YtoefmmmfefdcdaaDoorBeK15
import Derived.Test.YtoefmmmfefdcdaaDoorBeK16
import Derived.Test.YtoefmmmfefdcdaaDoorBeK32
import Derived.Test.YtoefmmmfefdcdaaDoorBeK33
import Derived.Test.YtoefmmmfefdcdaaDoorBeK21
import Derived.Test.YtoefmmmfefdcdaaDoorBeK24
import Derived.Test.YtoefmmmfefdcdaaDoorBeK27
import Derived.Test.YtoefmmmfefdcdaaDoorBeK30
import Derived.Test.YtoefmmmfefdcdaaDoorBeK31
import Derived.Test.YtoefmmmfefdcdaaDoorBeL00
import Derived.Test.YtoefmmmfefdcdaaDoorBeL01
import Derived.Test.YtoefmmmfefdcdaaDoorBeL02
import Derived.Test.YtoefmmmfefdcdaaDoorBeL03
import Derived.Test.YtoefmmmfefdcdaaDoorFeA
import Derived.Test.YtoefmmmfefdcdaaDoorFeK01
import Derived.Test.YtoefmmmfefdcdaaDoorFeK02
import Derived.Test.YtoefmmmfefdcdaaDoorFeK03
import Derived.Test.YtoefmmmfefdcdaaDoorFeK04
import Derived.Test.YtoefmmmfefdcdaaDoorFeK15
import Derived.Test.YtoefmmmfefdcdaaDoorFeK07
import Derived.Test.YtoefmmmfefdcdaaDoorFeK08
import Derived.Test.YtoefmmmfefdcdaaDoorFeK09
import Derived.Test.YtoefmmmfefdcdaaDoorFeK14
import Derived.Test.YtoefmmmfefdcdaaDoorFeK11
import Derived.Test.YtoefmmmfefdcdaaDoorFeK12
import Derived.Test.YtoefmmmfefdcdaaDoorFeK13
import Derived.Test.YtoefmmmfefdcdaaDoorFeK16
import Derived.Test.YtoefmmmfefdcdaaDoorFeK17
import Derived.Test.YtoefmmmfefdcdaaDoorFeK18
import Derived.Test.YtoefmmmfefdcdaaDoorFeK19
import Derived.Test.YtoefmmmfefdcdaaDoorFeK21
namespace Go.Sx
open Go.RowKit Go.Proofs
set_option maxRecDepth 100000
theorem ckT11:lAll (ckAll 1 1) (nodeTab 1 1)=true:=by
  have h0:lAll (ckAll 1 1) (lDrop (nodeTab 1 1) 2)=true:=rfl
  have k0:=chunk ckG11_0 h0
  rw [lDrop_eq,List.drop_zero] at k0
  exact k0
theorem ckT12:lAll (ckAll 1 2) (nodeTab 1 2)=true:=by
  have h0:lAll (ckAll 1 2) (lDrop (nodeTab 1 2) 2)=true:=rfl
  have k0:=chunk ckG12_0 h0
  rw [lDrop_eq,List.drop_zero] at k0
  exact k0
theorem ckT21:lAll (ckAll 2 1) (nodeTab 2 1)=true:=by
  have h0:lAll (ckAll 2 1) (lDrop (nodeTab 2 1) 3)=true:=rfl
  have k0:=chunk ckG21_0 h0
  rw [lDrop_eq,List.drop_zero] at k0
  exact k0
theorem ckT22:lAll (ckAll 2 2) (nodeTab 2 2)=true:=by
  have h0:lAll (ckAll 2 2) (lDrop (nodeTab 2 2) 4)=true:=rfl
  have k0:=chunk ckG22_0 h0
  rw [lDrop_eq,List.drop_zero] at k0
  exact k0
theorem ckT23:lAll (ckAll 2 3) (nodeTab 2 3)=true:=by
  have h0:lAll (ckAll 2 3) (lDrop (nodeTab 2 3) 4)=true:=rfl
  have k0:=chunk ckG23_0 h0
  rw [lDrop_eq,List.drop_zero] at k0
  exact k0
theorem ckT31:lAll (ckAll 3 1) (nodeTab 3 1)=true:=by
  have h0:lAll (ckAll 3 1) (lDrop (nodeTab 3 1) 4)=true:=rfl
  have k0:=chunk ckG31_0 h0
  rw [lDrop_eq,List.drop_zero] at k0
  exact k0
theorem ckT32:lAll (ckAll 3 2) (nodeTab 3 2)=true:=by
  have h0:lAll (ckAll 3 2) (lDrop (nodeTab 3 2) 7)=true:=rfl
  have k0:=chunk ckG32_0 h0
  rw [lDrop_eq,List.drop_zero] at k0
  exact k0
theorem ckT33:lAll (ckAll 3 3) (nodeTab 3 3)=true:=by
  have h0:lAll (ckAll 3 3) (lDrop (nodeTab 3 3) 8)=true:=rfl
  have k0:=chunk ckG33_0 h0
  rw [lDrop_eq,List.drop_zero] at k0
  exact k0
theorem ckT34:lAll (ckAll 3 4) (nodeTab 3 4)=true:=by
  have h0:lAll (ckAll 3 4) (lDrop (nodeTab 3 4) 8)=true:=rfl
  have k0:=chunk ckG34_0 h0
  rw [lDrop_eq,List.drop_zero] at k0
  exact k0
theorem ckT41:lAll (ckAll 4 1) (nodeTab 4 1)=true:=by
  have h0:lAll (ckAll 4 1) (lDrop (nodeTab 4 1) 5)=true:=rfl
  have k0:=chunk ckG41_0 h0
  rw [lDrop_eq,List.drop_zero] at k0
  exact k0
theorem ckT42:lAll (ckAll 4 2) (nodeTab 4 2)=true:=by
  have h0:lAll (ckAll 4 2) (lDrop (nodeTab 4 2) 12)=true:=rfl
  have k0:=chunk ckG42_0 h0
  rw [lDrop_eq,List.drop_zero] at k0
  exact k0
theorem ckT43:lAll (ckAll 4 3) (nodeTab 4 3)=true:=by
  have h0:lAll (ckAll 4 3) (lDrop (nodeTab 4 3) 15)=true:=rfl
  have k0:=chunk ckG43_0 h0
  rw [lDrop_eq,List.drop_zero] at k0
  exact k0
theorem ckT44:lAll (ckAll 4 4) (nodeTab 4 4)=true:=by
  have h0:lAll (ckAll 4 4) (lDrop (nodeTab 4 4) 16)=true:=rfl
  have k0:=chunk ckG44_0 h0
  rw [lDrop_eq,List.drop_zero] at k0
  exact k0
theorem ckT45:lAll (ckAll 4 5) (nodeTab 4 5)=true:=by
  have h0:lAll (ckAll 4 5) (lDrop (nodeTab 4 5) 16)=true:=rfl
  have k0:=chunk ckG45_0 h0
  rw [lDrop_eq,List.drop_zero] at k0
  exact k0
theorem ckT51:lAll (ckAll 5 1) (nodeTab 5 1)=true:=by
  have h0:lAll (ckAll 5 1) (lDrop (nodeTab 5 1) 6)=true:=rfl
  have k0:=chunk ckG51_0 h0
  rw [lDrop_eq,List.drop_zero] at k0
  exact k0
theorem ckT52:lAll (ckAll 5 2) (nodeTab 5 2)=true:=by
  have h0:lAll (ckAll 5 2) (lDrop (nodeTab 5 2) 20)=true:=rfl
  have k0:=chunk ckG52_0 h0
  rw [lDrop_eq,List.drop_zero] at k0
  exact k0
theorem ckT53:lAll (ckAll 5 3) (nodeTab 5 3)=true:=by
  have h0:lAll (ckAll 5 3) (lDrop (nodeTab 5 3) 28)=true:=rfl
  have k0:=chunk ckG53_17 h0
  have k1:=chunk ckG53_0 k0
  rw [lDrop_eq,List.drop_zero] at k1
  exact k1
theorem ckT54:lAll (ckAll 5 4) (nodeTab 5 4)=true:=by
  have h0:lAll (ckAll 5 4) (lDrop (nodeTab 5 4) 31)=true:=rfl
  have k0:=chunk ckG54_11 h0
  have k1:=chunk ckG54_0 k0
  rw [lDrop_eq,List.drop_zero] at k1
  exact k1
theorem ckN55_0:lAll (ckAll 5 5) (lTake (lDrop (nodeTab 5 5) 0) 1)=true:=by
  have h0:lAll (ckOne 5 5 (nodeAt 5 5 0)) (lDrop (combos (kidsOf 5 5 (nodeAt 5 5 0))) 30)=true:=by kernel_rfl
  have k0:=chunk ckC55_0_15 h0
  have k1:=chunk ckC55_0_0 k0
  rw [lDrop_eq,List.drop_zero] at k1
  have e:lTake (lDrop (nodeTab 5 5) 0) 1=[nodeAt 5 5 0]:=rfl
  rw [e]
  exact lAll_cons k1 rfl
theorem ckT55:lAll (ckAll 5 5) (nodeTab 5 5)=true:=by
  have h0:lAll (ckAll 5 5) (lDrop (nodeTab 5 5) 32)=true:=rfl
  have k0:=chunk ckG55_22 h0
  have k1:=chunk ckG55_1 k0
  have k2:=chunk ckN55_0 k1
  rw [lDrop_eq,List.drop_zero] at k2
  exact k2
theorem ckN56_0:lAll (ckAll 5 6) (lTake (lDrop (nodeTab 5 6) 0) 1)=true:=by
  have h0:lAll (ckOne 5 6 (nodeAt 5 6 0)) (lDrop (combos (kidsOf 5 6 (nodeAt 5 6 0))) 30)=true:=by kernel_rfl
  have k0:=chunk ckC56_0_15 h0
  have k1:=chunk ckC56_0_0 k0
  rw [lDrop_eq,List.drop_zero] at k1
  have e:lTake (lDrop (nodeTab 5 6) 0) 1=[nodeAt 5 6 0]:=rfl
  rw [e]
  exact lAll_cons k1 rfl
theorem ckT56:lAll (ckAll 5 6) (nodeTab 5 6)=true:=by
  have h0:lAll (ckAll 5 6) (lDrop (nodeTab 5 6) 32)=true:=rfl
  have k0:=chunk ckG56_22 h0
  have k1:=chunk ckG56_1 k0
  have k2:=chunk ckN56_0 k1
  rw [lDrop_eq,List.drop_zero] at k2
  exact k2
theorem ckT61:lAll (ckAll 6 1) (nodeTab 6 1)=true:=by
  have h0:lAll (ckAll 6 1) (lDrop (nodeTab 6 1) 7)=true:=rfl
  have k0:=chunk ckG61_0 h0
  rw [lDrop_eq,List.drop_zero] at k0
  exact k0
theorem ckT62:lAll (ckAll 6 2) (nodeTab 6 2)=true:=by
  have h0:lAll (ckAll 6 2) (lDrop (nodeTab 6 2) 33)=true:=rfl
  have k0:=chunk ckG62_31 h0
  have k1:=chunk ckG62_20 k0
  have k2:=chunk ckG62_0 k1
  rw [lDrop_eq,List.drop_zero] at k2
  exact k2
theorem ckT63:lAll (ckAll 6 3) (nodeTab 6 3)=true:=by
  have h0:lAll (ckAll 6 3) (lDrop (nodeTab 6 3) 52)=true:=rfl
  have k0:=chunk ckG63_44 h0
  have k1:=chunk ckG63_30 k0
  have k2:=chunk ckG63_29 k1
  have k3:=chunk ckG63_21 k2
  have k4:=chunk ckG63_2 k3
  have k5:=chunk ckG63_0 k4
  rw [lDrop_eq,List.drop_zero] at k5
  exact k5
theorem ckN64_0:lAll (ckAll 6 4) (lTake (lDrop (nodeTab 6 4) 0) 1)=true:=by
  have h0:lAll (ckOne 6 4 (nodeAt 6 4 0)) (lDrop (combos (kidsOf 6 4 (nodeAt 6 4 0))) 120)=true:=by kernel_rfl
  have k0:=chunk ckC64_0_80 h0
  have k1:=chunk ckC64_0_40 k0
  have k2:=chunk ckC64_0_0 k1
  rw [lDrop_eq,List.drop_zero] at k2
  have e:lTake (lDrop (nodeTab 6 4) 0) 1=[nodeAt 6 4 0]:=rfl
  rw [e]
  exact lAll_cons k2 rfl
theorem ckN64_32:lAll (ckAll 6 4) (lTake (lDrop (nodeTab 6 4) 32) 1)=true:=by
  have h0:lAll (ckOne 6 4 (nodeAt 6 4 32)) (lDrop (combos (kidsOf 6 4 (nodeAt 6 4 32))) 6)=true:=by kernel_rfl
  have k0:=chunk ckC64_32_4 h0
  have k1:=chunk ckC64_32_2 k0
  have k2:=chunk ckC64_32_0 k1
  rw [lDrop_eq,List.drop_zero] at k2
  have e:lTake (lDrop (nodeTab 6 4) 32) 1=[nodeAt 6 4 32]:=rfl
  rw [e]
  exact lAll_cons k2 rfl
theorem ckT64:lAll (ckAll 6 4) (nodeTab 6 4)=true:=by
  have h0:lAll (ckAll 6 4) (lDrop (nodeTab 6 4) 60)=true:=rfl
  have k0:=chunk ckG64_48 h0
  have k1:=chunk ckG64_33 k0
  have k2:=chunk ckN64_32 k1
  have k3:=chunk ckG64_27 k2
  have k4:=chunk ckG64_11 k3
  have k5:=chunk ckG64_1 k4
  have k6:=chunk ckN64_0 k5
  rw [lDrop_eq,List.drop_zero] at k6
  exact k6
theorem ckN65_0:lAll (ckAll 6 5) (lTake (lDrop (nodeTab 6 5) 0) 1)=true:=by
  have h0:lAll (ckOne 6 5 (nodeAt 6 5 0)) (lDrop (combos (kidsOf 6 5 (nodeAt 6 5 0))) 120)=true:=by kernel_rfl
  have k0:=chunk ckC65_0_105 h0
  have k1:=chunk ckC65_0_90 k0
  have k2:=chunk ckC65_0_75 k1
  have k3:=chunk ckC65_0_60 k2
  have k4:=chunk ckC65_0_45 k3
  have k5:=chunk ckC65_0_30 k4
  have k6:=chunk ckC65_0_15 k5
  have k7:=chunk ckC65_0_0 k6
  rw [lDrop_eq,List.drop_zero] at k7
  have e:lTake (lDrop (nodeTab 6 5) 0) 1=[nodeAt 6 5 0]:=rfl
  rw [e]
  exact lAll_cons k7 rfl
theorem ckN65_1:lAll (ckAll 6 5) (lTake (lDrop (nodeTab 6 5) 1) 1)=true:=by
  have h0:lAll (ckOne 6 5 (nodeAt 6 5 1)) (lDrop (combos (kidsOf 6 5 (nodeAt 6 5 1))) 30)=true:=by kernel_rfl
  have k0:=chunk ckC65_1_15 h0
  have k1:=chunk ckC65_1_0 k0
  rw [lDrop_eq,List.drop_zero] at k1
  have e:lTake (lDrop (nodeTab 6 5) 1) 1=[nodeAt 6 5 1]:=rfl
  rw [e]
  exact lAll_cons k1 rfl
theorem ckN65_33:lAll (ckAll 6 5) (lTake (lDrop (nodeTab 6 5) 33) 1)=true:=by
  have h0:lAll (ckOne 6 5 (nodeAt 6 5 33)) (lDrop (combos (kidsOf 6 5 (nodeAt 6 5 33))) 6)=true:=by kernel_rfl
  have k0:=chunk ckC65_33_4 h0
  have k1:=chunk ckC65_33_2 k0
  have k2:=chunk ckC65_33_0 k1
  rw [lDrop_eq,List.drop_zero] at k2
  have e:lTake (lDrop (nodeTab 6 5) 33) 1=[nodeAt 6 5 33]:=rfl
  rw [e]
  exact lAll_cons k2 rfl
theorem ckT65:lAll (ckAll 6 5) (nodeTab 6 5)=true:=by
  have h0:lAll (ckAll 6 5) (lDrop (nodeTab 6 5) 63)=true:=rfl
  have k0:=chunk ckG65_49 h0
  have k1:=chunk ckG65_34 k0
  have k2:=chunk ckN65_33 k1
  have k3:=chunk ckG65_19 k2
  have k4:=chunk ckG65_2 k3
  have k5:=chunk ckN65_1 k4
  have k6:=chunk ckN65_0 k5
  rw [lDrop_eq,List.drop_zero] at k6
  exact k6
theorem ckN66_0:lAll (ckAll 6 6) (lTake (lDrop (nodeTab 6 6) 0) 1)=true:=by
  have h0:lAll (ckOne 6 6 (nodeAt 6 6 0)) (lDrop (combos (kidsOf 6 6 (nodeAt 6 6 0))) 120)=true:=by kernel_rfl
  have k0:=chunk ckC66_0_115 h0
  have k1:=chunk ckC66_0_110 k0
  have k2:=chunk ckC66_0_105 k1
  have k3:=chunk ckC66_0_100 k2
  have k4:=chunk ckC66_0_95 k3
  have k5:=chunk ckC66_0_90 k4
  have k6:=chunk ckC66_0_85 k5
  have k7:=chunk ckC66_0_80 k6
  have k8:=chunk ckC66_0_75 k7
  have k9:=chunk ckC66_0_70 k8
  have k10:=chunk ckC66_0_65 k9
  have k11:=chunk ckC66_0_60 k10
  have k12:=chunk ckC66_0_55 k11
  have k13:=chunk ckC66_0_50 k12
  have k14:=chunk ckC66_0_45 k13
  have k15:=chunk ckC66_0_40 k14
  have k16:=chunk ckC66_0_35 k15
  have k17:=chunk ckC66_0_30 k16
  have k18:=chunk ckC66_0_25 k17
  have k19:=chunk ckC66_0_20 k18
  have k20:=chunk ckC66_0_15 k19
  have k21:=chunk ckC66_0_10 k20
  have k22:=chunk ckC66_0_5 k21
  have k23:=chunk ckC66_0_0 k22
  rw [lDrop_eq,List.drop_zero] at k23
  have e:lTake (lDrop (nodeTab 6 6) 0) 1=[nodeAt 6 6 0]:=rfl
  rw [e]
  exact lAll_cons k23 rfl
theorem ckN66_1:lAll (ckAll 6 6) (lTake (lDrop (nodeTab 6 6) 1) 1)=true:=by
  have h0:lAll (ckOne 6 6 (nodeAt 6 6 1)) (lDrop (combos (kidsOf 6 6 (nodeAt 6 6 1))) 30)=true:=by kernel_rfl
  have k0:=chunk ckC66_1_15 h0
  have k1:=chunk ckC66_1_0 k0
  rw [lDrop_eq,List.drop_zero] at k1
  have e:lTake (lDrop (nodeTab 6 6) 1) 1=[nodeAt 6 6 1]:=rfl
  rw [e]
  exact lAll_cons k1 rfl
theorem ckN66_33:lAll (ckAll 6 6) (lTake (lDrop (nodeTab 6 6) 33) 1)=true:=by
  have h0:lAll (ckOne 6 6 (nodeAt 6 6 33)) (lDrop (combos (kidsOf 6 6 (nodeAt 6 6 33))) 6)=true:=by kernel_rfl
  have k0:=chunk ckC66_33_4 h0
  have k1:=chunk ckC66_33_2 k0
  have k2:=chunk ckC66_33_0 k1
  rw [lDrop_eq,List.drop_zero] at k2
  have e:lTake (lDrop (nodeTab 6 6) 33) 1=[nodeAt 6 6 33]:=rfl
  rw [e]
  exact lAll_cons k2 rfl
theorem ckT66:lAll (ckAll 6 6) (nodeTab 6 6)=true:=by
  have h0:lAll (ckAll 6 6) (lDrop (nodeTab 6 6) 64)=true:=rfl
  have k0:=chunk ckG66_49 h0
  have k1:=chunk ckG66_34 k0
  have k2:=chunk ckN66_33 k1
  have k3:=chunk ckG66_19 k2
  have k4:=chunk ckG66_2 k3
  have k5:=chunk ckN66_1 k4
  have k6:=chunk ckN66_0 k5
  rw [lDrop_eq,List.drop_zero] at k6
  exact k6
theorem ck_all {L K:Nat} (h0:1≤L) (hL:L≤6) (k0:1≤K) (hK:K≤L + 1) (k6:K≤6) {nd:Node} (h:nd ∈ nodeTab L K):ckAll L K nd=true:=by
  rcases six h0 hL with rfl | rfl | rfl | rfl | rfl | rfl
  · rcases (by omega:K=1 ∨ K=2) with rfl | rfl
    · exact lAll_mem ckT11 nd h
    · exact lAll_mem ckT12 nd h
  · rcases (by omega:K=1 ∨ K=2 ∨ K=3) with rfl | rfl | rfl
    · exact lAll_mem ckT21 nd h
    · exact lAll_mem ckT22 nd h
    · exact lAll_mem ckT23 nd h
  · rcases (by omega:K=1 ∨ K=2 ∨ K=3 ∨ K=4) with rfl | rfl | rfl | rfl
    · exact lAll_mem ckT31 nd h
    · exact lAll_mem ckT32 nd h
    · exact lAll_mem ckT33 nd h
    · exact lAll_mem ckT34 nd h
  · rcases (by omega:K=1 ∨ K=2 ∨ K=3 ∨ K=4 ∨ K=5) with rfl | rfl | rfl | rfl | rfl
    · exact lAll_mem ckT41 nd h
    · exact lAll_mem ckT42 nd h
    · exact lAll_mem ckT43 nd h
    · exact lAll_mem ckT44 nd h
    · exact lAll_mem ckT45 nd h
  · rcases (by omega:K=1 ∨ K=2 ∨ K=3 ∨ K=4 ∨ K=5 ∨ K=6) with rfl | rfl | rfl | rfl | rfl | rfl
    · exact lAll_mem ckT51 nd h
    · exact lAll_mem ckT52 nd h
    · exact lAll_mem ckT53 nd h
    · exact lAll_mem ckT54 nd h
    · exact lAll_mem ckT55 nd h
    · exact lAll_mem ckT56 nd h
  · rcases (by omega:K=1 ∨ K=2 ∨ K=3 ∨ K=4 ∨ K=5 ∨ K=6) with rfl | rfl | rfl | rfl | rfl | rfl
    · exact lAll_mem ckT61 nd h
    · exact lAll_mem ckT62 nd h
    · exact lAll_mem ckT63 nd h
    · exact lAll_mem ckT64 nd h
    · exact lAll_mem ckT65 nd h
    · exact lAll_mem ckT66 nd h
end Go.Sx
namespace Go.Sx
open Go.RowKit Go.Proofs
set_option maxRecDepth 100000
theorem ckS11:lAll (ckSu 1) (leafs 1 1)=true:=by
  have h0:lAll (ckSu 1) (lDrop (leafs 1 1) 40)=true:=by kernel_rfl
  have k0:=chunk ckS11_0 h0
  rw [lDrop_eq,List.drop_zero] at k0
  exact k0
theorem ckS12:lAll (ckSu 1) (leafs 1 2)=true:=by
  have e:leafs 1 2=leafs 1 1:=by kernel_rfl
  rw [e]; exact ckS11
theorem ckS21:lAll (ckSu 2) (leafs 2 1)=true:=by
  have h0:lAll (ckSu 2) (lDrop (leafs 2 1) 40)=true:=by kernel_rfl
  have k0:=chunk ckS21_0 h0
  rw [lDrop_eq,List.drop_zero] at k0
  exact k0
theorem ckS22:lAll (ckSu 2) (leafs 2 2)=true:=by
  have h0:lAll (ckSu 2) (lDrop (leafs 2 2) 40)=true:=by kernel_rfl
  have k0:=chunk ckS22_0 h0
  rw [lDrop_eq,List.drop_zero] at k0
  exact k0
theorem ckS23:lAll (ckSu 2) (leafs 2 3)=true:=by
  have e:leafs 2 3=leafs 2 2:=by kernel_rfl
  rw [e]; exact ckS22
theorem ckS31:lAll (ckSu 3) (leafs 3 1)=true:=by
  have h0:lAll (ckSu 3) (lDrop (leafs 3 1) 40)=true:=by kernel_rfl
  have k0:=chunk ckS31_0 h0
  rw [lDrop_eq,List.drop_zero] at k0
  exact k0
theorem ckS32:lAll (ckSu 3) (leafs 3 2)=true:=by
  have h0:lAll (ckSu 3) (lDrop (leafs 3 2) 40)=true:=by kernel_rfl
  have k0:=chunk ckS32_0 h0
  rw [lDrop_eq,List.drop_zero] at k0
  exact k0
theorem ckS33:lAll (ckSu 3) (leafs 3 3)=true:=by
  have h0:lAll (ckSu 3) (lDrop (leafs 3 3) 40)=true:=by kernel_rfl
  have k0:=chunk ckS33_0 h0
  rw [lDrop_eq,List.drop_zero] at k0
  exact k0
theorem ckS34:lAll (ckSu 3) (leafs 3 4)=true:=by
  have e:leafs 3 4=leafs 3 3:=by kernel_rfl
  rw [e]; exact ckS33
theorem ckS41:lAll (ckSu 4) (leafs 4 1)=true:=by
  have h0:lAll (ckSu 4) (lDrop (leafs 4 1) 40)=true:=by kernel_rfl
  have k0:=chunk ckS41_0 h0
  rw [lDrop_eq,List.drop_zero] at k0
  exact k0
theorem ckS42:lAll (ckSu 4) (leafs 4 2)=true:=by
  have h0:lAll (ckSu 4) (lDrop (leafs 4 2) 40)=true:=by kernel_rfl
  have k0:=chunk ckS42_0 h0
  rw [lDrop_eq,List.drop_zero] at k0
  exact k0
theorem ckS43:lAll (ckSu 4) (leafs 4 3)=true:=by
  have h0:lAll (ckSu 4) (lDrop (leafs 4 3) 40)=true:=by kernel_rfl
  have k0:=chunk ckS43_0 h0
  rw [lDrop_eq,List.drop_zero] at k0
  exact k0
theorem ckS44:lAll (ckSu 4) (leafs 4 4)=true:=by
  have h0:lAll (ckSu 4) (lDrop (leafs 4 4) 40)=true:=by kernel_rfl
  have k0:=chunk ckS44_0 h0
  rw [lDrop_eq,List.drop_zero] at k0
  exact k0
theorem ckS45:lAll (ckSu 4) (leafs 4 5)=true:=by
  have e:leafs 4 5=leafs 4 4:=by kernel_rfl
  rw [e]; exact ckS44
theorem ckS51:lAll (ckSu 5) (leafs 5 1)=true:=by
  have h0:lAll (ckSu 5) (lDrop (leafs 5 1) 16)=true:=by kernel_rfl
  have k0:=chunk ckS51_0 h0
  rw [lDrop_eq,List.drop_zero] at k0
  exact k0
theorem ckS52:lAll (ckSu 5) (leafs 5 2)=true:=by
  have h0:lAll (ckSu 5) (lDrop (leafs 5 2) 16)=true:=by kernel_rfl
  have k0:=chunk ckS52_0 h0
  rw [lDrop_eq,List.drop_zero] at k0
  exact k0
theorem ckS53:lAll (ckSu 5) (leafs 5 3)=true:=by
  have h0:lAll (ckSu 5) (lDrop (leafs 5 3) 16)=true:=by kernel_rfl
  have k0:=chunk ckS53_0 h0
  rw [lDrop_eq,List.drop_zero] at k0
  exact k0
theorem ckS54:lAll (ckSu 5) (leafs 5 4)=true:=by
  have h0:lAll (ckSu 5) (lDrop (leafs 5 4) 16)=true:=by kernel_rfl
  have k0:=chunk ckS54_0 h0
  rw [lDrop_eq,List.drop_zero] at k0
  exact k0
theorem ckS55:lAll (ckSu 5) (leafs 5 5)=true:=by
  have h0:lAll (ckSu 5) (lDrop (leafs 5 5) 16)=true:=by kernel_rfl
  have k0:=chunk ckS55_0 h0
  rw [lDrop_eq,List.drop_zero] at k0
  exact k0
theorem ckS56:lAll (ckSu 5) (leafs 5 6)=true:=by
  have e:leafs 5 6=leafs 5 5:=by kernel_rfl
  rw [e]; exact ckS55
theorem ckS61:lAll (ckSu 6) (leafs 6 1)=true:=by
  have h0:lAll (ckSu 6) (lDrop (leafs 6 1) 10)=true:=by kernel_rfl
  have k0:=chunk ckS61_0 h0
  rw [lDrop_eq,List.drop_zero] at k0
  exact k0
theorem ckS62:lAll (ckSu 6) (leafs 6 2)=true:=by
  have h0:lAll (ckSu 6) (lDrop (leafs 6 2) 20)=true:=by kernel_rfl
  have k0:=chunk ckS62_10 h0
  have k1:=chunk ckS62_0 k0
  rw [lDrop_eq,List.drop_zero] at k1
  exact k1
theorem ckS63:lAll (ckSu 6) (leafs 6 3)=true:=by
  have h0:lAll (ckSu 6) (lDrop (leafs 6 3) 30)=true:=by kernel_rfl
  have k0:=chunk ckS63_20 h0
  have k1:=chunk ckS63_10 k0
  have k2:=chunk ckS63_0 k1
  rw [lDrop_eq,List.drop_zero] at k2
  exact k2
theorem ckS64:lAll (ckSu 6) (leafs 6 4)=true:=by
  have h0:lAll (ckSu 6) (lDrop (leafs 6 4) 30)=true:=by kernel_rfl
  have k0:=chunk ckS64_20 h0
  have k1:=chunk ckS64_10 k0
  have k2:=chunk ckS64_0 k1
  rw [lDrop_eq,List.drop_zero] at k2
  exact k2
theorem ckS65:lAll (ckSu 6) (leafs 6 5)=true:=by
  have h0:lAll (ckSu 6) (lDrop (leafs 6 5) 40)=true:=by kernel_rfl
  have k0:=chunk ckS65_30 h0
  have k1:=chunk ckS65_20 k0
  have k2:=chunk ckS65_10 k1
  have k3:=chunk ckS65_0 k2
  rw [lDrop_eq,List.drop_zero] at k3
  exact k3
theorem ckS66:lAll (ckSu 6) (leafs 6 6)=true:=by
  have h0:lAll (ckSu 6) (lDrop (leafs 6 6) 40)=true:=by kernel_rfl
  have k0:=chunk ckS66_30 h0
  have k1:=chunk ckS66_20 k0
  have k2:=chunk ckS66_10 k1
  have k3:=chunk ckS66_0 k2
  rw [lDrop_eq,List.drop_zero] at k3
  exact k3
theorem ckSu_all {L K:Nat} (h0:1≤L) (hL:L≤6) (k0:1≤K) (hK:K≤L + 1) (k6:K≤6) {nd:Node} (h:nd ∈ nodeTab L K) (hr:nd.rest=0):ckSu L nd=true:=by
  have hm:nd ∈ leafs L K:=List.mem_filter.2 ⟨h,beq_t.2 hr⟩
  rcases six h0 hL with rfl | rfl | rfl | rfl | rfl | rfl
  · rcases (by omega:K=1 ∨ K=2) with rfl | rfl
    · exact lAll_mem ckS11 nd hm
    · exact lAll_mem ckS12 nd hm
  · rcases (by omega:K=1 ∨ K=2 ∨ K=3) with rfl | rfl | rfl
    · exact lAll_mem ckS21 nd hm
    · exact lAll_mem ckS22 nd hm
    · exact lAll_mem ckS23 nd hm
  · rcases (by omega:K=1 ∨ K=2 ∨ K=3 ∨ K=4) with rfl | rfl | rfl | rfl
    · exact lAll_mem ckS31 nd hm
    · exact lAll_mem ckS32 nd hm
    · exact lAll_mem ckS33 nd hm
    · exact lAll_mem ckS34 nd hm
  · rcases (by omega:K=1 ∨ K=2 ∨ K=3 ∨ K=4 ∨ K=5) with rfl | rfl | rfl | rfl | rfl
    · exact lAll_mem ckS41 nd hm
    · exact lAll_mem ckS42 nd hm
    · exact lAll_mem ckS43 nd hm
    · exact lAll_mem ckS44 nd hm
    · exact lAll_mem ckS45 nd hm
  · rcases (by omega:K=1 ∨ K=2 ∨ K=3 ∨ K=4 ∨ K=5 ∨ K=6) with rfl | rfl | rfl | rfl | rfl | rfl
    · exact lAll_mem ckS51 nd hm
    · exact lAll_mem ckS52 nd hm
    · exact lAll_mem ckS53 nd hm
    · exact lAll_mem ckS54 nd hm
    · exact lAll_mem ckS55 nd hm
    · exact lAll_mem ckS56 nd hm
  · rcases (by omega:K=1 ∨ K=2 ∨ K=3 ∨ K=4 ∨ K=5 ∨ K=6) with rfl | rfl | rfl | rfl | rfl | rfl
    · exact lAll_mem ckS61 nd hm
    · exact lAll_mem ckS62 nd hm
    · exact lAll_mem ckS63 nd hm
    · exact lAll_mem ckS64 nd hm
    · exact lAll_mem ckS65 nd hm
    · exact lAll_mem ckS66 nd hm
end Go.Sx
namespace Go.Sx
open Go.RowKit Go.Proofs
set_option maxRecDepth 100000
noncomputable def tripsE (nd:Node) (w:Nat):List IE:=cond (Nat.beq nd.rest 0) (nd.pre.map fun p=>.lit (Int.ofNat p)) ((upN w 0).map fun k=>.app 9702 (.lit (Int.ofNat nd.id)) (.lit (Int.ofNat k)) (.lit 0))
theorem tripsN_eq (nd:Node) (w:Nat):tripsN nd w=lMap iA (tripsE nd w):=by
  unfold tripsN tripsE
  cases Nat.beq nd.rest 0 with
  | true=>rw [cond_true,cond_true]; unfold litsN; rw [lMap_eq,lMap_eq,List.map_map]; rfl
  | false=>rw [cond_false,cond_false,lMap_eq,lMap_eq,List.map_map]; rfl
noncomputable def tripZ (ρ:Rho) (W:List (Nat × Nat)) (nd:Node):List Int:=(tripsE nd (lenNd W nd)).map (IE.den ρ)
def WOk (L K:Nat) (W:List (Nat × Nat)):Prop:=∀ nd ∈ nodeTab L K,nd.rest ≠ 0→lLen nd.pre + 1≤lenN W nd.id∧lenN W nd.id≤lLen nd.pre + nd.rest
def OkW (L K:Nat) (W:List (Nat × Nat)) (ρ:Rho):Prop:=∀ nd ∈ nodeTab L K,nd.rest ≠ 0→∃ k l,kidsOf L K nd=k :: l∧fN ρ W nd=fN ρ W (minB (fN ρ W) k l)∧tripZ ρ W nd=tripZ ρ W (minB (fN ρ W) k l)
def okNd (L K:Nat) (W:List (Nat × Nat)) (ρ:Rho):Prop:=okSB L ρ∧(∀ c ∈ ivC (carryQ L K ++ startsQ),c.den ρ=true)∧OkW L K W ρ
noncomputable def pNd (L K:Nat) (W:List (Nat × Nat)):Par:=pOk fun ρ _=>okNd L K W ρ
theorem knN_ok {L K:Nat} {W:List (Nat × Nat)} {ρ:Rho} (h:okNd L K W ρ):KnOk ρ (knN L K):=knOf_ok h.2.1 (fun c hc=>by cases hc)
noncomputable def resW (W:List (Nat × Nat)) (ks:List Node):List (Nat × Nat):=@List.rec Node (fun _=>List (Nat × Nat)) [] (fun k _ ih=>cond (Nat.beq k.rest 0) ih ((k.id,lenN W k.id) :: ih)) ks
theorem resW_cons (W:List (Nat × Nat)) (k:Node) (ks:List Node):resW W (k :: ks)=cond (Nat.beq k.rest 0) (resW W ks) ((k.id,lenN W k.id) :: resW W ks):=rfl
theorem lenN_res {W:List (Nat × Nat)}:∀ (ks:List Node),∀ k ∈ ks,k.rest ≠ 0→lenN (resW W ks) k.id=lenN W k.id
  | [],k,hk,_=>by cases hk
  | a :: ks,k,hk,hr=>by
    rw [resW_cons]
    cases ha:Nat.beq a.rest 0 with
    | true =>
      rw [cond_true]
      rcases List.mem_cons.1 hk with rfl | hk
      · exact absurd (beq_t.1 ha) hr
      · exact lenN_res ks k hk hr
    | false =>
      rw [cond_false]
      have e:lenN ((a.id,lenN W a.id) :: resW W ks) k.id=cond (Nat.beq a.id k.id) (lenN W a.id) (lenN (resW W ks) k.id):=by
        unfold lenN
        rw [lFind_cons]
        cases Nat.beq a.id k.id <;> rfl
      rw [e]
      cases hb:Nat.beq a.id k.id with
      | true=>rw [cond_true,beq_t.1 hb]
      | false =>
        rw [cond_false]
        rcases List.mem_cons.1 hk with rfl | hk
        · rw [beq_t.2 rfl] at hb; cases hb
        · exact lenN_res ks k hk hr
theorem lenNd_res {W:List (Nat × Nat)} {ks:List Node}:∀ k ∈ ks,lenNd (resW W ks) k=lenNd W k:=fun k hk=>by
  unfold lenNd
  cases hr:Nat.beq k.rest 0 with
  | true=>rfl
  | false=>rw [cond_false,cond_false]; exact lenN_res ks k hk (fun h=>by rw [beq_t.2 h] at hr; cases hr)
theorem combos_cons (k:Node) (ks:List Node):combos (k :: ks)=cond (Nat.beq k.rest 0) (combos ks) ((upN k.rest (lLen k.pre + 1)).flatMap fun w=>(combos ks).map fun c=>(k.id,w) :: c):=rfl
theorem resW_mem {W:List (Nat × Nat)}:∀ (ks:List Node),(∀ k ∈ ks,k.rest ≠ 0→lLen k.pre + 1≤lenN W k.id∧lenN W k.id≤lLen k.pre + k.rest)→resW W ks ∈ combos ks
  | [],_=>List.mem_singleton.2 rfl
  | k :: ks,h=>by
    have ih:=resW_mem ks fun x hx=>h x (List.mem_cons_of_mem _ hx)
    rw [resW_cons,combos_cons]
    cases hr:Nat.beq k.rest 0 with
    | true=>exact ih
    | false =>
      have hk:=h k List.mem_cons_self (fun e=>by rw [beq_t.2 e] at hr; cases hr)
      rw [cond_false,cond_false]
      exact List.mem_flatMap.2 ⟨lenN W k.id,mem_upN _ _ _ hk.1 (by omega),List.mem_map.2 ⟨_,ih,rfl⟩⟩
theorem kids_mem {L K:Nat} {nd k:Node} (h:k ∈ kidsOf L K nd):k ∈ nodeTab L K:=(List.mem_filter.1 h).1
theorem vNd_mem {L:Nat} {arr:List Nat} {best:List AV} {b:Nat} {c:AObj} (h:(b,c) ∈ vNd L arr best):(b,c) ∈ preN L ∨ (b=2005∧c=.cells best 78 true false) ∨ (b,c) ∈ sufN L arr:=by
  unfold vNd at h
  rcases List.mem_append.1 h with h | h
  · exact .inl h
  · rcases List.mem_cons.1 h with h | h
    · cases h; exact .inr (.inl ⟨rfl,rfl⟩)
    · exact .inr (.inr h)
noncomputable def okH (n:Nat) (g:Nat × AObj):Bool:=and (plO g.2) (and (Nat.ble (g.1 + 1) n) (idsO n g.2))
theorem preN_ok {L n:Nat} (h0:1≤L) (hL:L≤6) (hn:n=2012 ∨ n=2013):lAll (okH n) (preN L)=true:=by
  rcases hn with rfl | rfl <;> rcases six h0 hL with rfl | rfl | rfl | rfl | rfl | rfl <;> kernel_rfl
theorem sufN_ok0 {L n:Nat} (h0:1≤L) (hL:L≤6) (hn:n=2012 ∨ n=2013):lAll (okH n) (sufN L [])=true:=by
  rcases hn with rfl | rfl <;> rcases six h0 hL with rfl | rfl | rfl | rfl | rfl | rfl <;> kernel_rfl
theorem plsN:∀ l:List Nat,plVs (litsN l)=true
  | []=>rfl
  | _ :: l=>plsN l
theorem sufN_mem {L:Nat} {arr:List Nat} {b:Nat} {c:AObj} (h:(b,c) ∈ sufN L arr):(b,c) ∈ sufN L [] ∨ (b=2010∧c=.cells (litsN arr) 104 true false):=by
  unfold sufN at h ⊢
  simp only [List.mem_cons,List.not_mem_nil,or_false] at h ⊢
  rcases h with h | h | h | h | h | h
  · exact .inl (.inl h)
  · exact .inl (.inr (.inl h))
  · exact .inl (.inr (.inr (.inl h)))
  · exact .inl (.inr (.inr (.inr (.inl h))))
  · cases h; exact .inr ⟨rfl,rfl⟩
  · exact .inl (.inr (.inr (.inr (.inr (.inr h)))))
theorem sufN_ok {L n:Nat} (h0:1≤L) (hL:L≤6) (hn:n=2012 ∨ n=2013) {arr:List Nat} {b:Nat} {c:AObj} (h:(b,c) ∈ sufN L arr):okH n (b,c)=true:=by
  rcases sufN_mem h with h | ⟨rfl,rfl⟩
  · exact lAll_mem (sufN_ok0 h0 hL hn) _ h
  · unfold okH
    have e1:plO (.cells (litsN arr) 104 true false)=true:=plsN arr
    have e2:idsO n (.cells (litsN arr) 104 true false)=true:=idsN n arr
    have e3:Nat.ble (2010 + 1) n=true:=by rcases hn with rfl | rfl <;> rfl
    rw [e1,e2,e3]; rfl
theorem lAll_of {α:Type} {p:α→Bool}:∀ {l:List α},(∀ a ∈ l,p a=true)→lAll p l=true
  | [],_=>rfl
  | a :: _,h=>lAll_cons (h a List.mem_cons_self) (lAll_of fun b hb=>h b (List.mem_cons_of_mem _ hb))
theorem viewN_ok {L n:Nat} (h0:1≤L) (hL:L≤6) (hn:n=2012 ∨ n=2013) {arr:List Nat} {best:List AV} (hb:idsLts n best=true):viewOk n (vNd L arr best)=true:=by
  unfold viewOk
  rw [Bool.and_eq_true]
  refine ⟨rfl,lAll_of fun g hg=>?_⟩
  obtain ⟨b,c⟩:=g
  rcases vNd_mem hg with hm | ⟨rfl,rfl⟩ | hm
  · have:=lAll_mem (preN_ok h0 hL hn) _ hm
    unfold okH at this
    rw [Bool.and_eq_true] at this; exact this.2
  · have e3:Nat.ble (2005 + 1) n=true:=by rcases hn with rfl | rfl <;> rfl
    rw [Bool.and_eq_true]; exact ⟨e3,hb⟩
  · have:=sufN_ok h0 hL hn hm
    unfold okH at this
    rw [Bool.and_eq_true] at this; exact this.2
theorem new_same {p : Par} {L b : Nat} {W : List (Nat × Nat)} {nd w : Node} {ρ : Rho} {r : AV × Heap} (_ : b = 2012 ∨ b = 2013) (he : encN L b nd r = .tup [ln 1, ln (lenNd W w), iA (sN w.id), .agg (tripsN w (lenNd W w)), ln (b + 1)]) (e1 : fN ρ W nd = fN ρ W w) (e2 : tripZ ρ W nd = tripZ ρ W w) :
    SameV ρ r.1 ρ (lfNdB L W nd b).1∧SameH p p ρ r.2 ρ (lfNdB L W nd b).2:=by
  obtain ⟨q1,q2,q3⟩:=encN_all (by rw [he]; exact fun h=>by cases h)
  obtain ⟨q4,q5,q6⟩:=encN_new he
  have el:lenNd W nd=lenNd W w:=congrArg Prod.snd e1
  have ei:ρ.iv (400 + nd.id)=ρ.iv (400 + w.id):=congrArg Prod.fst e1
  refine ⟨by rw [q1]; exact SameV.refl _ _,q6.trans (viewA_next _ _).symm,fun j o g=>?_⟩
  have hm:=viewA_get _ _ _ _ g
  rcases List.mem_append.1 hm with hm | hm
  · rcases vNd_mem hm with hm | ⟨rfl,rfl⟩ | hm
    · exact ⟨o,allO_get q2 hm,SameA.refl o⟩
    · refine ⟨_,q4,SameA.cells rfl ?_⟩
      rw [el]
      exact SameL.cons (SameV.sliceX _ _ _ _) (SameL.cons (SameV.int ei.symm) SameL.nil)
    · exact ⟨o,allO_get q3 hm,SameA.refl o⟩
  · rw [List.mem_singleton] at hm
    cases hm
    refine ⟨_,q5,SameA.cells rfl ?_⟩
    rw [tripsN_eq,tripsN_eq]
    exact same_ints e2.symm
theorem old_same {p:Par} {L n:Nat} {s:IE} {nd:Node} {ρ:Rho} {r:AV × Heap} (he:encN L 2013 nd r=.tup [ln 0,ln n,iA s,ln 2013]):SameV ρ r.1 ρ (lfNdA L nd (bestC n s)).1∧SameH p p ρ r.2 ρ (lfNdA L nd (bestC n s)).2:=by
  obtain ⟨q1,q2,q3⟩:=encN_all (by rw [he]; exact fun h=>by cases h)
  obtain ⟨q4,q6⟩:=encN_old he
  refine ⟨by rw [q1]; exact SameV.refl _ _,q6.trans (viewA_next _ _).symm,fun j o g=>?_⟩
  rcases vNd_mem (viewA_get _ _ _ _ g) with hm | ⟨rfl,rfl⟩ | hm
  · exact ⟨o,allO_get q2 hm,SameA.refl o⟩
  · exact ⟨_,q4,SameA.refl _⟩
  · exact ⟨o,allO_get q3 hm,SameA.refl o⟩
structure Base0 (L K:Nat) (W:List (Nat × Nat)):Prop where
  h0:1≤L
  hL:L≤6
  k0:1≤K
  hK:K≤L + 1
  k6:K≤6
  w:WOk L K W
structure TrySaid (L K:Nat) (W:List (Nat × Nat)) (nd:Node):Prop where
  nil:frst nd=true→CallOk (pNd L K W) 62 (argsNd (lLen nd.pre) nd.rest) (viewA 2012 (vNd L nd.arrB [.nilslice,ln 0])) (.ret (lfNdB L W nd 2012))
  old:frst nd=false→∀ n s,1≤n→n≤L→CallOk (pNd L K W) 62 (argsNd (lLen nd.pre) nd.rest) (viewA 2013 (vNd L nd.arrB (bestC n s))) (saidN L W nd n s)
theorem ck_one {L K:Nat} {W:List (Nat × Nat)} (H:Base0 L K W) {nd:Node} (h:nd ∈ nodeTab L K):ckOne L K nd (resW W (kidsOf L K nd))=true :=
  lAll_mem (ck_all H.h0 H.hL H.k0 H.hK H.k6 h) _ (resW_mem _ fun k hk hr=>H.w k (kids_mem hk) hr)
theorem kids_win {L K:Nat} {W:List (Nat × Nat)} {nd:Node} (h:nd ∈ nodeTab L K) {ρ:Rho} (hW:OkW L K W ρ):∃ k l,allN L K nd=k :: l∧(∀ x ∈ k :: l,lenNd (resW W (kidsOf L K nd)) x=lenNd W x)∧fN ρ W nd=fN ρ W (minB (fN ρ W) k l)∧tripZ ρ W nd=tripZ ρ W (minB (fN ρ W) k l):=by
  unfold allN
  cases hr:Nat.beq nd.rest 0 with
  | true =>
    refine ⟨nd,[],rfl,fun x hx=>?_,rfl,rfl⟩
    rw [List.mem_singleton] at hx; subst hx
    unfold lenNd; rw [hr]; rfl
  | false =>
    obtain ⟨k,l,e0,e1,e2⟩:=hW nd h (fun e=>by rw [beq_t.2 e] at hr; cases hr)
    refine ⟨k,l,e0,fun x hx=>lenNd_res x (by rw [e0]; exact hx),e1,e2⟩
section
variable {L K:Nat} {W:List (Nat × Nat)} (H:Base0 L K W) {nd:Node} (hnd:nd ∈ nodeTab L K)
include H hnd
theorem try_old {n : Nat} (hf : frst nd = false) (h1 : 1 ≤ n) (hn : n ≤ L) (B : TabOk (pNd L K W) Sx.Tryd.tt.get (tbNd L nd (kidsOf L K nd) (resW W (kidsOf L K nd)))) :
    CallOk (pNd L K W) 62 (argsNd (lLen nd.pre) nd.rest) (viewA 2013 (vNd L nd.arrB (bestC n (.var 520)))) (saidN L W nd n (.var 520)):=by
  have base:=eval_ok B 60 62 (argsNd (lLen nd.pre) nd.rest) (viewA 2013 (vNd L nd.arrB (bestC n (.var 520))))
  have up:upA 0 (vNd L nd.arrB (bestC n (.var 520)))=true:=rfl
  have fr:CallOk (pNd L K W) 62 (argsNd (lLen nd.pre) nd.rest) (viewA 2013 (vNd L nd.arrB (bestC n (.var 520)))) (runNd L K (resW W (kidsOf L K nd)) nd 2013 (bestC n (.var 520))):=base.frame (n:=2013) (l:=vNd L nd.arrB (bestC n (.var 520))) (by omega) rfl (viewN_ok H.h0 H.hL (.inr rfl) rfl)
    (fun g hg=>⟨g.2,viewA_mem 2013 _ 0 up g hg,.refl _⟩) (by rw [viewA_next]; exact Nat.le_refl _) (nwB 2013)
  have hck:ckNd L K (resW W (kidsOf L K nd)) nd n=true:=by
    have:=ck_one H hnd
    unfold ckOne at this
    rw [hf,cond_false] at this
    exact lAll_at this h1 (by omega)
  refine CallOk.read (p0:=pNd L K W) (p:=pNd L K W) rfl fr fun ρ b hok Q k=>⟨ρ,hok,SameL.refl _ _,⟨rfl,fun j o g=>⟨o,g,SameA.refl o⟩⟩,?_⟩
  obtain ⟨_,hA,_⟩:=hok
  have hA:okNd L K W ρ:=hA
  refine pruneT_holds (knN_ok hA) _ (T.holds_enc (eqTF_eq _ _ hck) ?_)
  obtain ⟨k0,l0,e0,e3,e1,e2⟩:=kids_win hnd hA.2.2
  rw [e0,seqT_congr (W:=W) (k0 :: l0) none e3 (fun x hx=>by cases hx)]
  refine seqT_holds _ _ ?_
  rw [minB_none,← e1]
  have kk:=sooT_inv k
  have kk:if lexP (fN ρ W nd) ((IE.var 520).den ρ,n) then (T.ret (lfNdB L W nd 2013)).Holds ρ Q else (T.ret (lfNdA L nd (bestC n (.var 520)))).Holds ρ Q:=kk
  by_cases hx:lexP (fN ρ W nd) ((IE.var 520).den ρ,n)
  · rw [if_pos hx] at kk ⊢
    intro r he
    obtain ⟨s1,s2⟩:=new_same (p:=pNd L K W) (.inr rfl) he e1 e2
    exact ⟨_,kk,s1,s2⟩
  · rw [if_neg hx] at kk ⊢
    intro r he
    obtain ⟨s1,s2⟩:=old_same (p:=pNd L K W) he
    exact ⟨_,kk,s1,s2⟩
theorem try_nil (hf : frst nd = true) (B : TabOk (pNd L K W) Sx.Tryd.tt.get (tbNd L nd (kidsOf L K nd) (resW W (kidsOf L K nd)))) :
    CallOk (pNd L K W) 62 (argsNd (lLen nd.pre) nd.rest) (viewA 2012 (vNd L nd.arrB [.nilslice,ln 0])) (.ret (lfNdB L W nd 2012)):=by
  have base:=eval_ok B 60 62 (argsNd (lLen nd.pre) nd.rest) (viewA 2012 (vNd L nd.arrB [.nilslice,ln 0]))
  have up:upA 0 (vNd L nd.arrB [.nilslice,ln 0])=true:=rfl
  have fr:CallOk (pNd L K W) 62 (argsNd (lLen nd.pre) nd.rest) (viewA 2012 (vNd L nd.arrB [.nilslice,ln 0])) (runNd L K (resW W (kidsOf L K nd)) nd 2012 [.nilslice,ln 0]):=base.frame (n:=2012) (l:=vNd L nd.arrB [.nilslice,ln 0]) (by omega) rfl (viewN_ok H.h0 H.hL (.inl rfl) rfl)
    (fun g hg=>⟨g.2,viewA_mem 2012 _ 0 up g hg,.refl _⟩) (by rw [viewA_next]; exact Nat.le_refl _) (nwB 2012)
  have hck:ckNi L K (resW W (kidsOf L K nd)) nd=true:=by
    have:=ck_one H hnd
    unfold ckOne at this
    rw [hf,cond_true] at this; exact this
  refine CallOk.read (p0:=pNd L K W) (p:=pNd L K W) rfl fr fun ρ b hok Q k=>⟨ρ,hok,SameL.refl _ _,⟨rfl,fun j o g=>⟨o,g,SameA.refl o⟩⟩,?_⟩
  obtain ⟨_,hA,_⟩:=hok
  have hA:okNd L K W ρ:=hA
  have k:Q (lfNdB L W nd 2012):=k
  refine pruneT_holds (knN_ok hA) _ (T.holds_enc (eqTF_eq _ _ hck) ?_)
  obtain ⟨k0,l0,e0,e3,e1,e2⟩:=kids_win hnd hA.2.2
  rw [e0]
  show (seqT (resW W (kidsOf L K nd)) 2012 0 (.lit 0) l0 (some k0)).Holds ρ _
  rw [seqT_congr (W:=W) l0 (some k0) (fun x hx=>e3 x (List.mem_cons_of_mem _ hx)) (fun x hx=>by cases hx; exact e3 _ List.mem_cons_self)]
  refine seqT_holds _ _ ?_
  rw [minB_some]
  intro r he
  obtain ⟨s1,s2⟩:=new_same (p:=pNd L K W) (.inl rfl) he e1 e2
  exact ⟨_,k,s1,s2⟩
end
end Go.Sx
namespace Go.Sx
open Go.RowKit Go.Proofs
set_option maxRecDepth 100000
theorem okBook_like {ρ ρ':Rho} (h:∀ j,j < 100→ρ'.iv j=ρ.iv j) (hb:okBook ρ):okBook ρ':=by
  have e0:=h 60 (by omega); have e1:=h 61 (by omega); have e2:=h 62 (by omega); have e3:=h 63 (by omega); have e4:=h 64 (by omega); have e5:=h 65 (by omega)
  obtain ⟨h1,h2⟩:=hb
  refine ⟨?_,?_⟩
  · simp only [bookQ,ivC,List.forall_mem_cons,BE.t_leq,IE.den_lit,IE.den_var,List.not_mem_nil,false_implies,implies_true,and_true] at h1 ⊢
    omega
  · simp only [bookLe,leV,List.forall_mem_cons,BE.t_leq,IE.den_var,List.not_mem_nil,false_implies,implies_true,and_true] at h2 ⊢
    omega
theorem okBN_over {L:Nat} (hL:L≤6) {ρ:Rho} (g:Nat→Int) (h:okBN L ρ):okBN L (ρ.over g):=by
  obtain ⟨⟨h1,h2,h3,h4⟩,h5,h6⟩:=h
  have e:∀ i,i < 500→(ρ.over g).iv i=ρ.iv i:=fun i hi=>over_lt hi
  refine ⟨⟨okT_over hL g h1,ofilm_over hL g h2,h3,okBook_like (fun j hj=>e j (by omega)) h4⟩,fun j t hj ht=>?_,fun r i hr hi=>?_⟩
  · have k:=h5 j t hj ht
    have ho:(oB L j).den (ρ.over g)=(oB L j).den ρ:=rfl
    rw [e (100 + 4 * j + 2 * t) (by omega),e (101 + 4 * j + 2 * t) (by omega),e 60 (by omega),ho,k.1,k.2]
    have hr:∀ o,loZ (ρ.over g) o (ρ.iv 60 + t)=loZ ρ o (ρ.iv 60 + t)∧hiZ (ρ.over g) o (ρ.iv 60 + t)=hiZ ρ o (ρ.iv 60 + t) ∨ ¬ o < 6:=fun o=>by
      by_cases ho:o < 6
      · left
        unfold loZ hiZ
        rw [e (14 + 6 * o) (by omega),e (15 + 6 * o) (by omega),e 0 (by omega),e 1 (by omega),e 2 (by omega),e 3 (by omega)]
        exact ⟨rfl,rfl⟩
      · exact .inr ho
    have hb:=oB_in (L:=L) (by omega) hL h1 hj
    rcases hr ((oB L j).den ρ).toNat with hr | hr
    · rw [hr.1,hr.2]; exact ⟨rfl,rfl⟩
    · omega
  · rw [e 60 (by omega),e (100 + 4 * r + i) (by omega)]
    exact h6 r i hr hi
noncomputable def varsS (plan:List Nat):Bool:=and (varsI 200 (surelyE plan)) (varsI 200 (perhapsE plan))
theorem varsS_all:lAll (fun L=>and (Nat.ble (lLen (plansL L)) 32) (lAll varsS (plansL L))) [1,2,3,4,5,6]=true:=by kernel_rfl
theorem mem_six {L:Nat} (h0:1≤L) (hL:L≤6):L ∈ [1,2,3,4,5,6]:=by
  rcases six h0 hL with rfl | rfl | rfl | rfl | rfl | rfl <;> decide
theorem plan_vars {L:Nat} (h0:1≤L) (hL:L≤6) {i:Nat} {plan:List Nat} (h:(plansL L)[i]?=some plan):i < 32∧varsI 200 (surelyE plan)=true∧varsI 200 (perhapsE plan)=true:=by
  have hv:=lAll_mem varsS_all L (mem_six h0 hL)
  rw [Bool.and_eq_true] at hv
  have hp:=lAll_mem hv.2 plan (List.mem_of_getElem? h)
  unfold varsS at hp
  rw [Bool.and_eq_true] at hp
  have hl:=ble_t.1 hv.1
  rw [lLen_eq] at hl
  have:=(List.getElem?_eq_some_iff.1 h).1
  exact ⟨by omega,hp.1,hp.2⟩
theorem vars_like {ρ ρ':Rho} (h:∀ i,i < 200→ρ'.iv i=ρ.iv i) (hf:ρ'.fi=ρ.fi∧ρ'.fb=ρ.fb) {e:IE} (he:varsI 200 e=true):e.den ρ'=e.den ρ:=varsI_den (n:=200) h hf e he
theorem okSt_over {L:Nat} (h0:1≤L) (hL:L≤6) {ρ:Rho} (g:Nat→Int) (h:OkSt L ρ):OkSt L (ρ.over g):=by
  refine ⟨fun i plan hi=>?_,fun i plan hi=>?_⟩
  · obtain ⟨hv,h1,h2⟩:=plan_vars h0 hL hi
    rw [over_lt (by omega),vars_like (fun i hi=>over_lt (by omega)) ⟨rfl,rfl⟩ h1]
    exact h.sure i plan hi
  · obtain ⟨hv,h1,h2⟩:=plan_vars h0 hL hi
    rw [over_lt (by omega),vars_like (fun i hi=>over_lt (by omega)) ⟨rfl,rfl⟩ h2]
    exact h.may i plan hi
theorem ivC_over {ρ:Rho} (g:Nat→Int):∀ (l:List (Nat × Int × Int)),lAll (fun q:Nat × Int × Int=>Nat.ble (q.1 + 1) 500) l=true→(∀ c ∈ ivC l,c.den ρ=true)→∀ c ∈ ivC l,c.den (ρ.over g)=true
  | [],_,_,c,hc=>by cases hc
  | q :: l,hv,h,c,hc=>by
    have hq:=ble_t.1 (lAll_mem hv q List.mem_cons_self)
    simp only [ivC,List.mem_cons] at hc h
    have r:∀ c,c ∈ ivC l→c.den ρ=true:=fun c hc=>h c (.inr (.inr hc))
    rcases hc with rfl | rfl | hc
    · have:=h _ (.inl rfl)
      rw [BE.t_leq,IE.den_lit,IE.den_var] at this ⊢; rw [over_lt (by omega)]; exact this
    · have:=h _ (.inr (.inl rfl))
      rw [BE.t_leq,IE.den_lit,IE.den_var] at this ⊢; rw [over_lt (by omega)]; exact this
    · refine ivC_over g l ?_ r c hc
      have hv:cond (Nat.ble (q.1 + 1) 500) (lAll (fun q:Nat × Int × Int=>Nat.ble (q.1 + 1) 500) l) false=true:=hv
      rw [ble_t.2 hq,cond_true] at hv; exact hv
theorem minB_congr {α:Type} {f g:α→Int × Nat}:∀ (l:List α) (a:α),(∀ x ∈ a :: l,f x=g x)→minB f a l=minB g a l
  | [],_,_=>rfl
  | x :: l,a,h=>by
    have ha:=h a List.mem_cons_self
    have hx:=h x (List.mem_cons_of_mem _ List.mem_cons_self)
    have e:∀ f:α→Int × Nat,minB f a (x :: l)=minB f (if lexP (f x) (f a) then x else a) l:=fun f=>rfl
    rw [e,e,ha,hx]
    refine minB_congr l _ fun y hy=>?_
    rcases List.mem_cons.1 hy with rfl | hy
    · split
      · exact hx
      · exact ha
    · exact h y (List.mem_cons_of_mem _ (List.mem_cons_of_mem _ hy))
noncomputable def nodeCk (L K:Nat):Bool:=lAll (fun nd=>and (Nat.ble (nd.id + 1) 64) (lAll (fun k=>Nat.ble (k.rest + 1) nd.rest) (kidsOf L K nd))) (nodeTab L K)
theorem nodeCk_all:lAll (fun L=>lAll (nodeCk L) [1,2,3,4,5,6]) [1,2,3,4,5,6]=true:=by kernel_rfl
theorem node_ck {L K:Nat} (h0:1≤L) (hL:L≤6) (k0:1≤K) (k6:K≤6) {nd:Node} (h:nd ∈ nodeTab L K):nd.id < 64∧∀ k ∈ kidsOf L K nd,k.rest < nd.rest:=by
  have:=lAll_mem (lAll_mem (lAll_mem nodeCk_all L (mem_six h0 hL)) K (mem_six k0 k6)) nd h
  rw [Bool.and_eq_true] at this
  exact ⟨ble_t.1 this.1,fun k hk=>ble_t.1 (lAll_mem this.2 k hk)⟩
section
variable {L K:Nat} {W:List (Nat × Nat)} (H:Base0 L K W)
include H
theorem fN_over {ρ:Rho} (g:Nat→Int) {nd:Node} (h:nd ∈ nodeTab L K):fN (ρ.over g) W nd=fN ρ W nd:=by
  have:=(node_ck H.h0 H.hL H.k0 H.k6 h).1
  unfold fN
  rw [over_lt (by omega)]
omit H in
theorem tripZ_over {ρ:Rho} (g:Nat→Int) (nd:Node):tripZ (ρ.over g) W nd=tripZ ρ W nd:=by
  unfold tripZ tripsE
  cases Nat.beq nd.rest 0 with
  | true=>rw [cond_true,List.map_map,List.map_map]; rfl
  | false=>rw [cond_false,List.map_map,List.map_map]; rfl
theorem okNd_over {ρ:Rho} (g:Nat→Int) (h:okNd L K W ρ):okNd L K W (ρ.over g):=by
  obtain ⟨⟨h1,h2⟩,h3,h4⟩:=h
  refine ⟨⟨okBN_over H.hL g h1,okSt_over H.h0 H.hL g h2⟩,ivC_over g _ rfl h3,fun nd hnd hr=>?_⟩
  obtain ⟨k,l,e0,e1,e2⟩:=h4 nd hnd hr
  have em:minB (fN (ρ.over g) W) k l=minB (fN ρ W) k l:=minB_congr l k fun x hx=>fN_over H g (kids_mem (by rw [e0]; exact hx))
  have hw:minB (fN ρ W) k l ∈ nodeTab L K:=by
    have:minB (fN ρ W) k l ∈ k :: l:=by
      rcases minB_mem (fN ρ W) l k with h | h
      · rw [h]; exact List.mem_cons_self
      · exact List.mem_cons_of_mem _ h
    exact kids_mem (nd:=nd) (by rw [e0]; exact this)
  refine ⟨k,l,e0,?_,?_⟩
  · rw [em,fN_over H g hnd,fN_over H g hw]; exact e1
  · rw [em,tripZ_over,tripZ_over]; exact e2
omit H in
theorem vNd_same {p p' : Par} (hP : p.P = p'.P) (h0 : 1 ≤ L) (hL : L ≤ 6) {ρ ρ' : Rho} (hA : Alike ρ ρ') {P : Program} {RC : Nat → Nat → List Nat → Code → Code → Prop} {ok ok' : Rho → (Nat → Obj → Prop) → Prop} (e1 : p = ⟨P, RC, ok⟩) (e2 : p' = ⟨P, RC, ok'⟩) {arr : List Nat} {best best' : List AV} (hb : SameL ρ best ρ' best') {b : Nat} {o : AObj} (hm : (b, o) ∈ vNd L arr best') :
    ∃ o0,(b,o0) ∈ vNd L arr best∧SameA p p' ρ o0 ρ' o:=by
  rcases vNd_mem hm with hm | ⟨rfl,rfl⟩ | hm
  · have:=lAll_mem (preN_ok h0 hL (.inl rfl)) _ hm
    unfold okH at this
    rw [Bool.and_eq_true] at this
    subst e1; subst e2
    exact ⟨o,List.mem_append_left _ hm,SameA.pl hA this.1⟩
  · exact ⟨_,List.mem_append_right _ List.mem_cons_self,SameA.cells hP hb⟩
  · have:=sufN_ok h0 hL (.inl rfl) hm
    unfold okH at this
    rw [Bool.and_eq_true] at this
    subst e1; subst e2
    exact ⟨o,List.mem_append_right _ (List.mem_cons_of_mem _ hm),SameA.pl hA this.1⟩
theorem try_from {nd : Node} (hnd : nd ∈ nodeTab L K) {n : Nat} (s : IE) (hc : CallOk (pNd L K W) 62 (argsNd (lLen nd.pre) nd.rest) (viewA 2013 (vNd L nd.arrB (bestC n (.var 520)))) (saidN L W nd n (.var 520))) :
    CallOk (pNd L K W) 62 (argsNd (lLen nd.pre) nd.rest) (viewA 2013 (vNd L nd.arrB (bestC n s))) (saidN L W nd n s):=by
  refine CallOk.read (p0:=pNd L K W) (p:=pNd L K W) rfl hc fun ρ b ⟨mm,k1,k2⟩ Q k=>?_
  let g:Nat→Int:=fun _=>s.den ρ
  have hA:Alike ρ (ρ.over g):=Rho.over_alike ρ g
  have es:(IE.var 520).den (ρ.over g)=s.den ρ:=rfl
  have hid:=(node_ck H.h0 H.hL H.k0 H.k6 hnd).1
  have ei:(sN nd.id).den (ρ.over g)=(sN nd.id).den ρ:=over_lt (by omega)
  have hb:SameL ρ (bestC n s) (ρ.over g) (bestC n (.var 520)):=SameL.cons (SameV.sliceX _ _ _ _) (SameL.cons (SameV.int es.symm) SameL.nil)
  refine ⟨ρ.over g,⟨mm,okNd_over H g k1,k2⟩,SameL.pl hA _ rfl,⟨by rw [viewA_next,viewA_next],fun j o hg=>?_⟩,?_⟩
  · obtain ⟨o0,m1,m2⟩:=vNd_same (p:=pNd L K W) (p':=pNd L K W) rfl H.h0 H.hL hA rfl rfl hb (viewA_get _ _ _ _ hg)
    exact ⟨o0,viewA_mem 2013 _ 0 rfl _ m1,m2⟩
  · have kk:=sooT_inv k
    refine sooT_holds ?_
    rw [es,ei]
    split
    · rename_i hx
      rw [if_pos hx] at kk
      refine ⟨_,kk,SameV.bool rfl,(viewA_next _ _).trans (viewA_next _ _).symm,fun j o hg=>?_⟩
      have hm:=viewA_get _ _ _ _ hg
      rcases List.mem_append.1 hm with hm | hm
      · have hb2:SameL (ρ.over g) [.sliceX 2013 1 0 (lenNd W nd),iA (sN nd.id)] ρ [.sliceX 2013 1 0 (lenNd W nd),iA (sN nd.id)]:=SameL.cons (SameV.sliceX _ _ _ _) (SameL.cons (SameV.int ei) SameL.nil)
        obtain ⟨o0,m1,m2⟩:=vNd_same (p:=pNd L K W) (p':=pNd L K W) rfl H.h0 H.hL hA.symm rfl rfl hb2 hm
        exact ⟨o0,viewA_mem 2014 _ 0 rfl _ (List.mem_append_left _ m1),m2⟩
      · rw [List.mem_singleton] at hm
        cases hm
        refine ⟨_,viewA_mem 2014 _ 0 rfl (2013,.cells (tripsN nd (lenNd W nd)) 3 true true) (List.mem_append_right _ (List.mem_singleton.2 rfl)),SameA.cells rfl ?_⟩
        rw [tripsN_eq]
        exact same_ints (tripZ_over g nd)
    · rename_i hx
      rw [if_neg hx] at kk
      refine ⟨_,kk,SameV.bool rfl,(viewA_next _ _).trans (viewA_next _ _).symm,fun j o hg=>?_⟩
      obtain ⟨o0,m1,m2⟩:=vNd_same (p:=pNd L K W) (p':=pNd L K W) rfl H.h0 H.hL hA.symm rfl rfl (SameL.symm hb) (viewA_get _ _ _ _ hg)
      exact ⟨o0,viewA_mem 2013 _ 0 rfl _ m1,m2⟩
end
theorem findN_some {p:Node→Bool}:∀ {l:List Node} {a:Node},findN p l=some a→a ∈ l∧p a=true
  | [],a,h=>by cases h
  | x :: l,a,h=>by
    have h:cond (p x) (some x) (findN p l)=some a:=h
    cases hx:p x with
    | true=>rw [hx] at h; cases h; exact ⟨List.mem_cons_self,hx⟩
    | false=>rw [hx] at h; exact ⟨List.mem_cons_of_mem _ (findN_some h).1,(findN_some h).2⟩
theorem saidN_congr {L:Nat} {W W':List (Nat × Nat)} {nd:Node} (h:lenNd W' nd=lenNd W nd) (n:Nat) (s:IE):saidN L W' nd n s=saidN L W nd n s:=by unfold saidN lfNdB; rw [h]
theorem lfNdB_congr {L:Nat} {W W':List (Nat × Nat)} {nd:Node} (h:lenNd W' nd=lenNd W nd) (b:Nat):lfNdB L W' nd b=lfNdB L W nd b:=by unfold lfNdB; rw [h]
theorem orcTry_ok {L K:Nat} {W W':List (Nat × Nat)} (H:Base0 L K W) {ks:List Node} (hks:∀ k ∈ ks,TrySaid L K W k) (hW:∀ k ∈ ks,lenNd W' k=lenNd W k) {args:List AV} {h:Heap} {t:T (AV × Heap)} (e:orcTry L ks W' args h=some t):CallOk (pNd L K W) 62 args h t:=by
  unfold orcTry at e
  split at e
  · split at e
    · rename_i nd hnd
      have hm:=(findN_some hnd).1
      have S:=hks nd hm
      have hl:=hW nd hm
      cases hf:frst nd with
      | true =>
        rw [hf,cond_true,lfNdB_congr hl] at e
        exact smallO_ok (S.nil hf) (by omega) rfl (viewN_ok H.h0 H.hL (.inl rfl) rfl) e
      | false =>
        rw [hf,cond_false] at e
        split at e
        · rename_i d _ _ n _ s _ _ _ _
          obtain ⟨h1,e⟩:=cond_some e
          rw [Bool.and_eq_true] at h1
          rw [saidN_congr hl] at e
          have hc:=S.old hf n s (ble_t.1 h1.1) (ble_t.1 h1.2)
          cases hd:Nat.beq d 2012 with
          | true =>
            rw [hd,cond_true] at e
            exact smallO_ok hc (by omega) rfl (viewN_ok H.h0 H.hL (.inr rfl) rfl) e
          | false =>
            rw [hd,cond_false] at e
            exact aliasO_ok hc (by omega) (by omega) rfl (viewN_ok H.h0 H.hL (.inr rfl) rfl) e
        · cases e
    · cases e
  · cases e
theorem orcSu_ok {L K:Nat} {W:List (Nat × Nat)} (H:Base0 L K W) {nd:Node} (hnd:nd ∈ nodeTab L K) {args:List AV} {h:Heap} {t:T (AV × Heap)} (e:orcSu L nd args h=some t):CallOk (pNd L K W) 34 args h t:=by
  unfold orcSu at e
  obtain ⟨hr,e⟩:=cond_some e
  exact smallO_ok (CallOk.weak (ok0:=fun ρ _=>okSB L ρ) (fun ρ m k=>k.1) (surely_said H.h0 H.hL (ckSu_all H.h0 H.hL H.k0 H.hK H.k6 hnd (beq_t.1 hr)))) (by omega) rfl (viewSu_ok H.h0 H.hL nd.arrB) e
theorem tabsNd {L K:Nat} {W W':List (Nat × Nat)} (H:Base0 L K W) {nd:Node} (hnd:nd ∈ nodeTab L K) {ks:List Node} (hks:∀ k ∈ ks,TrySaid L K W k) (hW:∀ k ∈ ks,lenNd W' k=lenNd W k):TabOk (pNd L K W) Sx.Tryd.tt.get (tbNd L nd ks W'):=by
  refine Tryd.tab (orcNd L nd ks W') (fun f args h t e=>?_) 2000
  unfold orcNd at e
  cases h1:Nat.beq f 34 with
  | true=>rw [h1,cond_true] at e; rw [beq_t.1 h1]; exact orcSu_ok H hnd e
  | false =>
    rw [h1,cond_false] at e
    obtain ⟨h2,e⟩:=cond_some e
    rw [beq_t.1 h2]
    exact orcTry_ok H hks hW e
theorem try_said {L K:Nat} {W:List (Nat × Nat)} (H:Base0 L K W):∀ (r:Nat) (nd:Node),nd.rest=r→nd ∈ nodeTab L K→TrySaid L K W nd:=by
  intro r
  induction r using Nat.strongRecOn with
  | ind r ih =>
    intro nd hr hnd
    have hk:=(node_ck H.h0 H.hL H.k0 H.k6 hnd).2
    have B:=tabsNd (W':=resW W (kidsOf L K nd)) H hnd (ks:=kidsOf L K nd) (fun k hkk=>ih k.rest (by have:=hk k hkk; omega) k rfl (kids_mem hkk)) lenNd_res
    exact ⟨fun hf=>try_nil H hnd hf B,fun hf n s h1 hn=>try_from H hnd s (try_old H hnd hf h1 hn B)⟩
end Go.Sx
namespace Go.Sx
open Go.RowKit Go.Proofs
set_option maxRecDepth 100000
noncomputable def rootOf (L K:Nat):Node:=nodeAt L K 0
noncomputable def vKC (L:Nat):List (Nat × AObj):=vR L ++ [(2001,ordB L),(2002,.umap (mR false))]
noncomputable def argsCh (L:Nat):List AV:=[.agg (kCells L),.agg chCells]
noncomputable def orcCh (L K:Nat) (W:List (Nat × Nat)) (f:FuncId) (args:List AV) (h:Heap):Option (T (AV × Heap)):=cond (Nat.beq f 62) (orcTry L [rootOf L K] W args h) none
noncomputable def tbCh (L K:Nat) (W:List (Nat × Nat)):Tabs:=⟨Sx.Tryd.ft.get,lFind Sx.Tryd.rt,2000,orcCh L K W⟩
noncomputable def nwCh (r:AV × Heap):List Nat:=match r.1 with
  | .tup [.sliceX b _ _ _,_]=>[b]
  | _=>[]
noncomputable def runCh (L K:Nat) (W:List (Nat × Nat)):T (AV × Heap):=(evalN (tbCh L K W) 100 false 19 (argsCh L) (viewA 2003 (vKC L))).bind fun r=>graftT 2003 (vKC L) (viewA 2003 (vKC L)) (nwCh r) r
noncomputable def chV (b w:Nat):AV:=.tup [.sliceX b 1 0 w,ln 0]
noncomputable def chO (L K w:Nat):AObj:=.cells (tripsN (rootOf L K) w) 3 true true
noncomputable def endCh (L K w:Nat) (_:Kn) (q:AV × Heap):Bool:=and (eqAV q.1 (chV 2003 w)) (and (isO (q.2.get 2003) (chO L K w)) (and (allO q.2 (vKC L)) (Nat.beq q.2.next 2004)))
noncomputable def ckCh (L K w:Nat):Bool:=allW [] (endCh L K w) (runCh L K [(32,w)]) (knOf [] [])
noncomputable def leafCh (L K w:Nat):AV × Heap:=(chV 2003 w,viewA 2004 (vKC L ++ [(2003,chO L K w)]))
noncomputable def orcBe (L K w:Nat) (f:FuncId) (args:List AV) (h:Heap):Option (T (AV × Heap)) :=
  cond (Nat.beq f 18) (smallO 2000 [bookF L] (vR L) (.ret (knowVR L,viewA 2002 (vKR L false))) (fun _=>[2000,2001]) args h)
  (cond (Nat.beq f 19) (smallO 2003 (argsCh L) (vKC L) (.ret (leafCh L K w)) (fun _=>[2003]) args h) none)
noncomputable def tbBe (L K w:Nat):Tabs:=⟨Sx.Tryd.ft.get,lFind Sx.Tryd.rt,2000,orcBe L K w⟩
noncomputable def runBe (L K w:Nat):T (AV × Heap):=(evalN (tbBe L K w) 100 false 6 [bookF L] (viewA 2000 (vR L))).bind fun r=>graftT 2000 (vR L) (viewA 2000 (vR L)) (nwCh r) r
noncomputable def endBe (L K w:Nat) (_:Kn) (q:AV × Heap):Bool:=and (eqAV q.1 (chV 2000 w)) (and (isO (q.2.get 2000) (chO L K w)) (and (allO q.2 (vR L)) (Nat.beq q.2.next 2001)))
noncomputable def ckBe (L K w:Nat):Bool:=allW [] (endBe L K w) (runBe L K w) (knOf [] [])
noncomputable def vkOk (L:Nat):Bool:=viewOk 2003 (vKC L)
noncomputable def ckX (L:Nat):Bool:=and (vkOk L) (lAll (fun K=>lAll (fun w=>and (and (Nat.beq (rootOf L K).id 32) (Nat.beq (rootOf L K).rest L)) (and (ckCh L K w) (ckBe L K w))) (upN L 1)) (upN (cond (Nat.beq L 6) 6 (L + 1)) 1))
theorem ckX1:ckX 1=true:=by kernel_rfl
theorem ckX2:ckX 2=true:=by kernel_rfl
theorem ckX3:ckX 3=true:=by kernel_rfl
theorem ckX4:ckX 4=true:=by kernel_rfl
theorem ckX5:ckX 5=true:=by kernel_rfl
theorem ckX6:ckX 6=true:=by kernel_rfl
end Go.Sx
namespace Go.Sx
open Go.RowKit Go.Proofs
set_option maxRecDepth 100000
theorem ckX_all {L K w:Nat} (h0:1≤L) (hL:L≤6) (k0:1≤K) (hK:K≤L + 1) (k6:K≤6) (w0:1≤w) (hw:w≤L):vkOk L=true∧(rootOf L K).id=32∧(rootOf L K).rest=L∧ckCh L K w=true∧ckBe L K w=true:=by
  have h:ckX L=true:=by
    rcases six h0 hL with rfl | rfl | rfl | rfl | rfl | rfl
    · exact ckX1
    · exact ckX2
    · exact ckX3
    · exact ckX4
    · exact ckX5
    · exact ckX6
  unfold ckX at h
  rw [Bool.and_eq_true] at h
  have hk:K < 1 + cond (Nat.beq L 6) 6 (L + 1):=by
    cases h6:Nat.beq L 6 with
    | true=>rw [cond_true]; omega
    | false=>rw [cond_false]; omega
  have hw':=lAll_at (lAll_at h.2 k0 hk) w0 (by omega:w < 1 + L)
  simp only [Bool.and_eq_true] at hw'
  exact ⟨h.1,beq_t.1 hw'.1.1,beq_t.1 hw'.1.2,hw'.2.1,hw'.2.2⟩
theorem root_mem {L K:Nat} (h0:1≤L) (h:(rootOf L K).rest=L):rootOf L K ∈ nodeTab L K:=by
  unfold rootOf nodeAt at h ⊢
  split at h
  · rename_i n hn
    rw [listGet_eq] at hn
    exact List.mem_of_getElem? hn
  · have h:0=L:=h
    omega
section
variable {L K:Nat} {W:List (Nat × Nat)} (H:Base0 L K W)
include H
theorem root_w:1≤lenN W 32∧lenN W 32≤L:=by
  obtain ⟨_,r1,r2,_⟩:=ckX_all (w:=1) H.h0 H.hL H.k0 H.hK H.k6 (Nat.le_refl _) H.h0
  have hm:=root_mem H.h0 r2
  have h0:=H.h0
  have:=H.w _ hm (by omega)
  rw [r1,r2] at this
  have e:(rootOf L K).pre=[]:=by
    have hL:=H.hL; have k0:=H.k0; have hK:=H.hK; have k6:=H.k6
    rcases six H.h0 H.hL with rfl | rfl | rfl | rfl | rfl | rfl <;> rcases six k0 k6 with rfl | rfl | rfl | rfl | rfl | rfl <;> rfl
  rw [e] at this
  have e0:lLen ([]:List Nat)=0:=rfl
  omega
theorem tabsCh:TabOk (pNd L K W) Sx.Tryd.tt.get (tbCh L K [(32,lenN W 32)]):=by
  obtain ⟨w0,hw⟩:=root_w H
  obtain ⟨_,r1,r2,_⟩:=ckX_all H.h0 H.hL H.k0 H.hK H.k6 w0 hw
  have hm:=root_mem H.h0 r2
  refine Tryd.tab (orcCh L K [(32,lenN W 32)]) (fun f args h t e=>?_) 2000
  unfold orcCh at e
  obtain ⟨h1,e⟩:=cond_some e
  rw [beq_t.1 h1]
  refine orcTry_ok H (fun k hk=>?_) (fun k hk=>?_) e
  · rw [List.mem_singleton] at hk; subst hk
    exact try_said H _ _ rfl hm
  · rw [List.mem_singleton] at hk; subst hk
    unfold lenNd
    cases Nat.beq (rootOf L K).rest 0 with
    | true=>rfl
    | false=>rw [cond_false,cond_false,r1]; rfl
theorem choose_said:CallOk (pNd L K W) 19 (argsCh L) (viewA 2003 (vKC L)) (.ret (leafCh L K (lenN W 32))):=by
  obtain ⟨w0,hw⟩:=root_w H
  obtain ⟨hv,r1,r2,hck,_⟩:=ckX_all H.h0 H.hL H.k0 H.hK H.k6 w0 hw
  have base:=eval_ok (tabsCh H) 100 19 (argsCh L) (viewA 2003 (vKC L))
  have up:upA 0 (vKC L)=true:=rfl
  have fr:CallOk (pNd L K W) 19 (argsCh L) (viewA 2003 (vKC L)) (runCh L K [(32,lenN W 32)]):=base.frame (n:=2003) (l:=vKC L) (by omega) rfl hv
    (fun g hg=>⟨g.2,viewA_mem 2003 _ 0 up g hg,.refl _⟩) (by rw [viewA_next]; exact Nat.le_refl _) nwCh
  refine CallOk.read (p0:=pNd L K W) (p:=pNd L K W) rfl fr fun ρ b hok Q k=>⟨ρ,hok,SameL.refl _ _,⟨rfl,fun j o g=>⟨o,g,SameA.refl o⟩⟩,?_⟩
  have k:Q (leafCh L K (lenN W 32)):=k
  refine allW_ok (rules_nil ρ) (fun K' q _ hq=>?_) (runCh L K [(32,lenN W 32)]) _ (knOf_ok (fun c hc=>by cases hc) (fun c hc=>by cases hc)) hck
  unfold endCh at hq
  simp only [Bool.and_eq_true] at hq
  obtain ⟨q1,q2,q3,q4⟩:=hq
  refine ⟨_,k,by rw [eqAV_eq _ _ q1]; exact SameV.refl _ _,(beq_t.1 q4).trans (viewA_next _ _).symm,fun j o g=>?_⟩
  rcases List.mem_append.1 (viewA_get _ _ _ _ g) with hm | hm
  · exact ⟨o,allO_get q3 hm,SameA.refl o⟩
  · rw [List.mem_singleton] at hm
    cases hm
    exact ⟨_,isO_eq q2,SameA.refl _⟩
theorem tabsBe:TabOk (pNd L K W) Sx.Tryd.tt.get (tbBe L K (lenN W 32)):=by
  obtain ⟨w0,hw⟩:=root_w H
  obtain ⟨hv,_⟩:=ckX_all H.h0 H.hL H.k0 H.hK H.k6 w0 hw
  refine Tryd.tab (orcBe L K (lenN W 32)) (fun f args h t e=>?_) 2000
  unfold orcBe at e
  cases h1:Nat.beq f 18 with
  | true =>
    rw [h1,cond_true] at e
    rw [beq_t.1 h1]
    exact smallO_ok (CallOk.weak (ok0:=fun ρ _=>okB L ρ) (fun ρ m k=>k.1.1.1) (knowR_said H.h0 H.hL)) (by omega) rfl (viewR_ok H.h0 H.hL) e
  | false =>
    rw [h1,cond_false] at e
    obtain ⟨h2,e⟩:=cond_some e
    rw [beq_t.1 h2]
    exact smallO_ok (choose_said H) (by omega) rfl hv e
theorem best_said:CallOk (pNd L K W) 6 [bookF L] (viewA 2000 (vR L)) (.ret (chV 2000 (lenN W 32),viewA 2001 (vR L ++ [(2000,chO L K (lenN W 32))]))):=by
  obtain ⟨w0,hw⟩:=root_w H
  obtain ⟨hv,r1,r2,_,hck⟩:=ckX_all H.h0 H.hL H.k0 H.hK H.k6 w0 hw
  have base:=eval_ok (tabsBe H) 100 6 [bookF L] (viewA 2000 (vR L))
  have up:upA 0 (vR L)=true:=rfl
  have fr:CallOk (pNd L K W) 6 [bookF L] (viewA 2000 (vR L)) (runBe L K (lenN W 32)):=base.frame (n:=2000) (l:=vR L) (by omega) rfl (viewR_ok H.h0 H.hL)
    (fun g hg=>⟨g.2,viewA_mem 2000 _ 0 up g hg,.refl _⟩) (by rw [viewA_next]; exact Nat.le_refl _) nwCh
  refine CallOk.read (p0:=pNd L K W) (p:=pNd L K W) rfl fr fun ρ b hok Q k=>⟨ρ,hok,SameL.refl _ _,⟨rfl,fun j o g=>⟨o,g,SameA.refl o⟩⟩,?_⟩
  have k:Q (chV 2000 (lenN W 32),viewA 2001 (vR L ++ [(2000,chO L K (lenN W 32))])):=k
  refine allW_ok (rules_nil ρ) (fun K' q _ hq=>?_) (runBe L K (lenN W 32)) _ (knOf_ok (fun c hc=>by cases hc) (fun c hc=>by cases hc)) hck
  unfold endBe at hq
  simp only [Bool.and_eq_true] at hq
  obtain ⟨q1,q2,q3,q4⟩:=hq
  refine ⟨_,k,by rw [eqAV_eq _ _ q1]; exact SameV.refl _ _,(beq_t.1 q4).trans (viewA_next _ _).symm,fun j o g=>?_⟩
  rcases List.mem_append.1 (viewA_get _ _ _ _ g) with hm | hm
  · exact ⟨o,allO_get q3 hm,SameA.refl o⟩
  · rw [List.mem_singleton] at hm
    cases hm
    exact ⟨_,isO_eq q2,SameA.refl _⟩
end
end Go.Sx
namespace Go.Sx
open Go.RowKit Go.Proofs
set_option maxRecDepth 100000
def eqNode (a b:Node):Bool:=and (and (and (Nat.beq a.id b.id) (eqNs a.pre b.pre)) (and (Nat.beq a.rest b.rest) (eqNs a.arrB b.arrB))) (and (eqNs a.arrA b.arrA) (eqNs a.kids b.kids))
theorem eqNode_eq {a b:Node} (h:eqNode a b=true):a=b:=by
  unfold eqNode at h
  simp only [Bool.and_eq_true] at h
  obtain ⟨⟨⟨h1,h2⟩,h3,h4⟩,h5,h6⟩:=h
  cases a; cases b
  simp only at h1 h2 h3 h4 h5 h6
  rw [beq_t.1 h1,eqNs_eq _ _ h2,beq_t.1 h3,eqNs_eq _ _ h4,eqNs_eq _ _ h5,eqNs_eq _ _ h6]
def eqNodes:List Node→List Node→Bool
  | [],[]=>true
  | a :: l,b :: m=>and (eqNode a b) (eqNodes l m)
  | _,_=>false
theorem eqNodes_eq:∀ (l m:List Node),eqNodes l m=true→l=m
  | [],[],_=>rfl
  | [],_ :: _,h=>by cases h
  | _ :: _,[],h=>by cases h
  | a :: l,b :: m,h=>by
    simp only [eqNodes,Bool.and_eq_true] at h
    rw [eqNode_eq h.1,eqNodes_eq l m h.2]
def isPre:List Nat→List Nat→Bool
  | [],_=>true
  | _ :: _,[]=>false
  | a :: l,b :: m=>and (Nat.beq a b) (isPre l m)
noncomputable def under (L K:Nat) (nd:Node):List Node:=(leafs L K).filter fun x=>isPre nd.pre x.pre
noncomputable def inners (L K:Nat):List Node:=(nodeTab L K).filter fun nd=>Bool.not (Nat.beq nd.rest 0)
def isN (o:Option Node) (nd:Node):Bool:=match o with
  | some x=>eqNode x nd
  | none=>false
theorem isN_eq {o:Option Node} {nd:Node} (h:isN o nd=true):o=some nd:=by
  cases o with
  | none=>cases h
  | some x=>rw [eqNode_eq h]
noncomputable def incr:List Nat→Bool
  | []=>true
  | a :: l=>and (lAll (fun b=>Nat.ble (a + 1) b) l) (incr l)
def someN (l:List Node):Bool:=match l with
  | []=>false
  | _ :: _=>true
noncomputable def winNd (L K:Nat) (nd:Node):Bool :=
  cond (Nat.beq nd.rest 0) (eqNodes (under L K nd) [nd])
    (and (and (isN (findN (fun x=>Nat.beq x.id nd.id) (inners L K)) nd) (and (someN (kidsOf L K nd)) (eqNodes (under L K nd) ((kidsOf L K nd).flatMap (under L K)))))
      (lAll (fun x:Node=>and (Nat.ble (lLen nd.pre + 1) (lLen x.pre)) (Nat.ble (lLen x.pre) (lLen nd.pre + nd.rest))) (under L K nd)))
noncomputable def allLe (K:Nat) (l:List Nat):Bool:=lAll (fun p=>Nat.ble p K) l
noncomputable def hasLeaf (L K i:Nat) (p:List Nat):Bool:=(leafs L K).any fun x=>and (Nat.beq x.id i) (eqNs x.pre p)
noncomputable def planCk (L K:Nat):List (List Nat)→Nat→Bool:=@List.rec (List Nat) (fun _=>Nat→Bool) (fun _=>true) (fun p _ ih i=>and (cond (allLe K p) (hasLeaf L K i p) true) (ih (i + 1)))
noncomputable def winCk (L K:Nat):Bool:=and (and (lAll (winNd L K) (nodeTab L K)) (lAll (fun nd=>someN (under L K nd)) (nodeTab L K))) (and (and (eqNodes (under L K (rootOf L K)) (leafs L K)) (incr (lMap Node.id (leafs L K)))) (and (planCk L K (plansL L) 0) (lAll (fun x:Node=>and (Nat.ble (x.id + 1) 32) (isAt (listGet (plansL L) x.id) x.pre)) (leafs L K))))
theorem winCk1:lAll (winCk 1) [1,2]=true:=by kernel_rfl
theorem winCk2:lAll (winCk 2) [1,2,3]=true:=by kernel_rfl
theorem winCk3:lAll (winCk 3) [1,2,3,4]=true:=by kernel_rfl
theorem winCk4:lAll (winCk 4) [1,2,3,4,5]=true:=by kernel_rfl
theorem winCk5:lAll (winCk 5) [1,2,3,4,5,6]=true:=by kernel_rfl
theorem winCk6:lAll (winCk 6) [1,2,3,4,5,6]=true:=by kernel_rfl
theorem win_ck {L K:Nat} (h0:1≤L) (hL:L≤6) (k0:1≤K) (hK:K≤L + 1) (k6:K≤6):winCk L K=true:=by
  rcases six h0 hL with rfl | rfl | rfl | rfl | rfl | rfl
  · exact lAll_mem winCk1 K (by rcases (by omega:K=1 ∨ K=2) with rfl | rfl <;> simp)
  · exact lAll_mem winCk2 K (by rcases (by omega:K=1 ∨ K=2 ∨ K=3) with rfl | rfl | rfl <;> simp)
  · exact lAll_mem winCk3 K (by rcases (by omega:K=1 ∨ K=2 ∨ K=3 ∨ K=4) with rfl | rfl | rfl | rfl <;> simp)
  · exact lAll_mem winCk4 K (by rcases (by omega:K=1 ∨ K=2 ∨ K=3 ∨ K=4 ∨ K=5) with rfl | rfl | rfl | rfl | rfl <;> simp)
  · exact lAll_mem winCk5 K (mem_six k0 k6)
  · exact lAll_mem winCk6 K (mem_six k0 k6)
def minL {α:Type} (f:α→Int × Nat) (l:List α):Option α:=match l with
  | []=>none
  | c :: cs=>some (minB f c cs)
theorem minL_app {α:Type} {f:α→Int × Nat} {A B:List α} {a b:α} (hA:minL f A=some a) (hB:minL f B=some b):minL f (A ++ B)=some (if lexP (f b) (f a) then b else a):=by
  cases A with
  | nil=>cases hA
  | cons c cs =>
    cases B with
    | nil=>cases hB
    | cons d ds =>
      simp only [minL,Option.some.injEq] at hA hB
      show some (minB f c (cs ++ d :: ds))=_
      have e:minB f c (cs ++ d :: ds)=minB f (minB f c cs) (d :: ds):=by unfold minB; rw [List.foldl_append]
      have e2:minB f (minB f c cs) (d :: ds)=minB f (if lexP (f d) (f (minB f c cs)) then d else minB f c cs) ds:=rfl
      rw [e,e2,minB_if,hA,hB]
theorem minL_flat {α β:Type} {f:α→Int × Nat} (u:β→List α) (w:β→α):∀ (l:List β) (k:β) (A:List α),(∀ x ∈ l,minL f (u x)=some (w x))→minL f A=some (w k)→minL f (A ++ l.flatMap u)=some (w (minB (fun x=>f (w x)) k l))
  | [],k,A,_,hA=>by simp only [List.flatMap_nil,List.append_nil]; exact hA
  | x :: l,k,A,hl,hA=>by
    have e:A ++ (x :: l).flatMap u=(A ++ u x) ++ l.flatMap u:=by rw [List.flatMap_cons,List.append_assoc]
    have e2:minB (fun x=>f (w x)) k (x :: l)=minB (fun x=>f (w x)) (if lexP (f (w x)) (f (w k)) then x else k) l:=rfl
    rw [e,e2]
    refine minL_flat u w l _ _ (fun y hy=>hl y (List.mem_cons_of_mem _ hy)) ?_
    rw [minL_app hA (hl x List.mem_cons_self)]
    split <;> rfl
noncomputable def fL (ρ:Rho) (x:Node):Int × Nat:=(ρ.iv (400 + x.id),lLen x.pre)
noncomputable def wN (L K:Nat) (ρ:Rho) (nd:Node):Node:=match minL (fL ρ) (under L K nd) with
  | some x=>x
  | none=>nd
section
variable {L K:Nat} (h0:1≤L) (hL:L≤6) (k0:1≤K) (hK:K≤L + 1) (k6:K≤6)
include h0 hL k0 hK k6
theorem wN_some (ρ:Rho) {nd:Node} (h:nd ∈ nodeTab L K):minL (fL ρ) (under L K nd)=some (wN L K ρ nd)∧wN L K ρ nd ∈ under L K nd:=by
  have hw:=win_ck h0 hL k0 hK k6
  unfold winCk at hw
  simp only [Bool.and_eq_true] at hw
  have hs:=lAll_mem hw.1.2 nd h
  unfold wN
  cases hu:under L K nd with
  | nil=>rw [hu] at hs; cases hs
  | cons c cs =>
    refine ⟨rfl,?_⟩
    show minB (fL ρ) c cs ∈ c :: cs
    rcases minB_mem (fL ρ) cs c with h | h
    · rw [h]; exact List.mem_cons_self
    · exact List.mem_cons_of_mem _ h
theorem wN_leaf (ρ:Rho) {nd:Node} (h:nd ∈ nodeTab L K) (hr:nd.rest=0):wN L K ρ nd=nd:=by
  have hw:=win_ck h0 hL k0 hK k6
  unfold winCk at hw
  simp only [Bool.and_eq_true] at hw
  have hn:=lAll_mem hw.1.1 nd h
  unfold winNd at hn
  rw [beq_t.2 hr,cond_true] at hn
  have e:=eqNodes_eq _ _ hn
  unfold wN
  rw [e]; rfl
theorem wN_kids (ρ:Rho) {nd:Node} (h:nd ∈ nodeTab L K) (hr:nd.rest ≠ 0):∃ k l,kidsOf L K nd=k :: l∧wN L K ρ nd=wN L K ρ (minB (fun x=>fL ρ (wN L K ρ x)) k l)∧findN (fun x=>Nat.beq x.id nd.id) (inners L K)=some nd∧lLen nd.pre + 1≤lLen (wN L K ρ nd).pre∧lLen (wN L K ρ nd).pre≤lLen nd.pre + nd.rest:=by
  have hw:=win_ck h0 hL k0 hK k6
  unfold winCk at hw
  simp only [Bool.and_eq_true] at hw
  have hn:=lAll_mem hw.1.1 nd h
  unfold winNd at hn
  have hb:Nat.beq nd.rest 0=false:=by
    cases hb:Nat.beq nd.rest 0 with
    | true=>exact absurd (beq_t.1 hb) hr
    | false=>rfl
  rw [hb,cond_false] at hn
  simp only [Bool.and_eq_true] at hn
  obtain ⟨⟨n1,n2,n3⟩,n4⟩:=hn
  obtain ⟨s1,s2⟩:=wN_some h0 hL k0 hK k6 ρ h
  have hlen:=lAll_mem n4 _ s2
  simp only [Bool.and_eq_true] at hlen
  cases hk:kidsOf L K nd with
  | nil=>rw [hk] at n2; cases n2
  | cons k l =>
    refine ⟨k,l,rfl,?_,isN_eq n1,ble_t.1 hlen.1,ble_t.1 hlen.2⟩
    have e:=eqNodes_eq _ _ n3
    rw [hk,List.flatMap_cons] at e
    have key:=minL_flat (f:=fL ρ) (under L K) (wN L K ρ) l k (under L K k) (fun x hx=>(wN_some h0 hL k0 hK k6 ρ (kids_mem (by rw [hk]; exact List.mem_cons_of_mem _ hx))).1) (wN_some h0 hL k0 hK k6 ρ (kids_mem (by rw [hk]; exact List.mem_cons_self))).1
    rw [e,key] at s1
    exact (Option.some.inj s1).symm
end
noncomputable def wOf (L K:Nat) (ρ:Rho):List (Nat × Nat):=(inners L K).map fun nd=>(nd.id,lLen (wN L K ρ nd).pre)
noncomputable def ivW (L K:Nat) (ρ:Rho) (i:Nat):Int:=match findN (fun x=>Nat.beq x.id (i - 400)) (inners L K) with
  | some nd=>ρ.iv (400 + (wN L K ρ nd).id)
  | none=>ρ.iv i
noncomputable def fiT (L K:Nat) (ρ:Rho) (a b:Int):Int:=match findN (fun x=>Nat.beq x.id a.toNat) (inners L K) with
  | some nd=>(((wN L K ρ nd).pre)[b.toNat]?.getD 0:Nat)
  | none=>0
noncomputable def rhoW (L K:Nat) (ρ:Rho):Rho:=⟨fun i=>if 432≤i∧i < 464 then ivW L K ρ i else ρ.iv i,ρ.bv,fun f a b c=>if f=9702 then fiT L K ρ a b else ρ.fi f a b c,ρ.fb,ρ.ov⟩
theorem lFind_map (g:Node→Nat) (i:Nat):∀ (l:List Node),lFind (l.map fun nd=>(nd.id,g nd)) i=(findN (fun x=>Nat.beq x.id i) l).map g
  | []=>rfl
  | x :: l=>by
    have e:findN (fun x=>Nat.beq x.id i) (x :: l)=cond (Nat.beq x.id i) (some x) (findN (fun x=>Nat.beq x.id i) l):=rfl
    rw [List.map_cons,lFind_cons,e,lFind_map g i l]
    cases Nat.beq x.id i <;> rfl
end Go.Sx
namespace Go.Sx
open Go.RowKit Go.Proofs
set_option maxRecDepth 100000
theorem inn_all:lAll (fun L=>lAll (fun K=>lAll (fun nd:Node=>Nat.ble 32 nd.id) (inners L K)) [1,2,3,4,5,6]) [1,2,3,4,5,6]=true:=by kernel_rfl
theorem rhoW_iv {L K:Nat} {ρ:Rho} {i:Nat} (h:i < 432 ∨ 464≤i):(rhoW L K ρ).iv i=ρ.iv i:=by
  show (if 432≤i∧i < 464 then _ else ρ.iv i)=_
  rw [if_neg (by omega)]
theorem rhoW_fi {L K:Nat} {ρ:Rho} {f:Nat} {a b c:Int} (h:f ≠ 9702):(rhoW L K ρ).fi f a b c=ρ.fi f a b c:=if_neg h
theorem minL_congr {α:Type} {f g:α→Int × Nat} {l:List α} (h:∀ x ∈ l,f x=g x):minL f l=minL g l:=by
  cases l with
  | nil=>rfl
  | cons a l=>exact congrArg some (minB_congr l a h)
theorem minB_id {α:Type} {f:α→Int × Nat} (g:α→Nat):∀ (l:List α) (a:α),incr (lMap g (a :: l))=true→∀ x ∈ a :: l,¬ lexP (f (minB f a l)) (f x)→g (minB f a l)≤g x
  | [],a,_,x,hx,_=>by
    rw [List.mem_singleton] at hx; subst hx; exact Nat.le_refl _
  | y :: l,a,hi,x,hx,hn=>by
    have e1:minB f a (y :: l)=minB f (if lexP (f y) (f a) then y else a) l:=rfl
    have ei:incr (lMap g (a :: y :: l))=and (lAll (fun b=>Nat.ble (g a + 1) b) (lMap g (y :: l))) (incr (lMap g (y :: l))):=rfl
    rw [ei,Bool.and_eq_true] at hi
    have ei2:incr (lMap g (y :: l))=and (lAll (fun b=>Nat.ble (g y + 1) b) (lMap g l)) (incr (lMap g l)):=rfl
    have ay:=ble_t.1 (lAll_mem hi.1 (g y) (by rw [lMap_eq]; exact List.mem_map.2 ⟨y,List.mem_cons_self,rfl⟩))
    have hal:incr (lMap g (a :: l))=true:=by
      have e:incr (lMap g (a :: l))=and (lAll (fun b=>Nat.ble (g a + 1) b) (lMap g l)) (incr (lMap g l)):=rfl
      rw [e,Bool.and_eq_true]
      have h2:=hi.2
      rw [ei2,Bool.and_eq_true] at h2
      refine ⟨?_,h2.2⟩
      have h3:cond (Nat.ble (g a + 1) (g y)) (lAll (fun b=>Nat.ble (g a + 1) b) (lMap g l)) false=true:=hi.1
      rw [ble_t.2 ay,cond_true] at h3; exact h3
    rw [e1] at hn ⊢
    by_cases h:lexP (f y) (f a)
    · rw [if_pos h] at hn ⊢
      rcases List.mem_cons.1 hx with rfl | hx
      · exfalso
        have:=(minB_le f l y).1
        unfold lexP at *; omega
      · exact minB_id g l y hi.2 x hx hn
    · rw [if_neg h] at hn ⊢
      rcases List.mem_cons.1 hx with rfl | hx
      · exact minB_id g l x hal x List.mem_cons_self hn
      · rcases List.mem_cons.1 hx with rfl | hx
        · have ha := minB_id (f := f) g l a hal a List.mem_cons_self (by
            have:=(minB_le f l a).1
            unfold lexP at *; omega)
          omega
        · exact minB_id g l a hal x (List.mem_cons_of_mem _ hx) hn
section
variable {L K:Nat} (h0:1≤L) (hL:L≤6) (k0:1≤K) (hK:K≤L + 1) (k6:K≤6)
include h0 hL k0 hK k6
theorem leaf_plan {x:Node} (h:x ∈ leafs L K):x.id < 32∧(plansL L)[x.id]?=some x.pre:=by
  have hw:=win_ck h0 hL k0 hK k6
  unfold winCk at hw
  simp only [Bool.and_eq_true] at hw
  have:=lAll_mem hw.2.2.2 x h
  rw [Bool.and_eq_true] at this
  refine ⟨ble_t.1 this.1,?_⟩
  have h2:=this.2
  unfold isAt at h2
  split at h2
  · rename_i y hy
    rw [eqNs_eq _ _ h2,listGet_eq] at hy; exact hy
  · cases h2
omit h0 hL k0 hK k6 in
theorem under_leaf {nd x:Node} (h:x ∈ under L K nd):x ∈ leafs L K:=(List.mem_filter.1 h).1
theorem lenN_wOf (ρ:Rho) {nd:Node} (h:nd ∈ nodeTab L K) (hr:nd.rest ≠ 0):lenN (wOf L K ρ) nd.id=lLen (wN L K ρ nd).pre:=by
  obtain ⟨_,_,_,_,hf,_⟩:=wN_kids h0 hL k0 hK k6 ρ h hr
  unfold lenN wOf
  rw [lFind_map (fun nd=>lLen (wN L K ρ nd).pre),hf]; rfl
omit hK in
theorem inner_id {nd:Node} (h:nd ∈ nodeTab L K) (hr:nd.rest ≠ 0):32≤nd.id∧nd.id < 64:=by
  refine ⟨?_,(node_ck h0 hL k0 k6 h).1⟩
  have hb:nd ∈ inners L K:=List.mem_filter.2 ⟨h,by
    cases hb:Nat.beq nd.rest 0 with
    | true=>exact absurd (beq_t.1 hb) hr
    | false=>rfl⟩
  exact ble_t.1 (lAll_mem (lAll_mem (lAll_mem inn_all L (mem_six h0 hL)) K (mem_six k0 k6)) nd hb)
theorem fN_wOf (ρ:Rho) {nd:Node} (h:nd ∈ nodeTab L K):fN (rhoW L K ρ) (wOf L K ρ) nd=fL ρ (wN L K ρ nd):=by
  by_cases hr:nd.rest=0
  · rw [wN_leaf h0 hL k0 hK k6 ρ h hr]
    have:=(leaf_plan h0 hL k0 hK k6 (List.mem_filter.2 ⟨h,beq_t.2 hr⟩)).1
    unfold fN fL lenNd
    rw [beq_t.2 hr,cond_true,rhoW_iv (.inl (by omega))]
  · obtain ⟨_,_,_,_,hf,_⟩:=wN_kids h0 hL k0 hK k6 ρ h hr
    have hi:=inner_id h0 hL k0 k6 h hr
    have hb:Nat.beq nd.rest 0=false:=by
      cases hb:Nat.beq nd.rest 0 with
      | true=>exact absurd (beq_t.1 hb) hr
      | false=>rfl
    unfold fN fL lenNd
    rw [hb,cond_false,lenN_wOf h0 hL k0 hK k6 ρ h hr]
    have e:(rhoW L K ρ).iv (400 + nd.id)=ivW L K ρ (400 + nd.id):=if_pos (by omega)
    rw [e]
    unfold ivW
    rw [Nat.add_sub_cancel_left,hf]
omit h0 hL k0 hK k6 in
theorem upN_get':∀ (n k i:Nat),i < n→(upN n k)[i]?=some (k + i)
  | 0,_,_,h=>by omega
  | n + 1,k,0,_=>by simp [upN]
  | n + 1,k,i + 1,h=>by simp only [upN,List.getElem?_cons_succ]; rw [upN_get' n (k + 1) i (by omega)]; congr 1; omega
omit h0 hL k0 hK k6 in
theorem upN_len':∀ (n k:Nat),(upN n k).length=n
  | 0,_=>rfl
  | n + 1,k=>by simp only [upN,List.length_cons,upN_len' n]
theorem tripZ_wOf (ρ:Rho) {nd:Node} (h:nd ∈ nodeTab L K):tripZ (rhoW L K ρ) (wOf L K ρ) nd=(wN L K ρ nd).pre.map Int.ofNat:=by
  by_cases hr:nd.rest=0
  · rw [wN_leaf h0 hL k0 hK k6 ρ h hr]
    unfold tripZ tripsE
    rw [beq_t.2 hr,cond_true,List.map_map]; rfl
  · obtain ⟨_,_,_,_,hf,_⟩:=wN_kids h0 hL k0 hK k6 ρ h hr
    have hb:Nat.beq nd.rest 0=false:=by
      cases hb:Nat.beq nd.rest 0 with
      | true=>exact absurd (beq_t.1 hb) hr
      | false=>rfl
    unfold tripZ tripsE lenNd
    rw [hb,cond_false,cond_false,lenN_wOf h0 hL k0 hK k6 ρ h hr,List.map_map,lLen_eq]
    refine List.ext_getElem? fun i=>?_
    by_cases hi:i < (wN L K ρ nd).pre.length
    · rw [List.getElem?_map,List.getElem?_map,upN_get' _ _ _ hi,List.getElem?_eq_getElem hi]
      simp only [Option.map_some,Function.comp,Nat.zero_add,Option.some.injEq]
      show FI (rhoW L K ρ).fi 9702 (nd.id:Int) (i:Int) 0=_
      unfold FI
      rw [if_pos (by omega)]
      have e:(rhoW L K ρ).fi 9702 (nd.id:Int) (i:Int) 0=fiT L K ρ (nd.id:Int) (i:Int):=by
        show (if (9702:Nat)=9702 then fiT L K ρ (nd.id:Int) (i:Int) else ρ.fi 9702 (nd.id:Int) (i:Int) 0)=_
        rw [if_pos rfl]
      rw [e]
      unfold fiT
      rw [Int.toNat_natCast,Int.toNat_natCast,hf]
      simp only [List.getElem?_eq_getElem hi,Option.getD_some]; rfl
    · rw [List.getElem?_eq_none (by rw [List.length_map,upN_len']; omega),List.getElem?_eq_none (by rw [List.length_map]; omega)]
theorem okW_of (ρ:Rho):OkW L K (wOf L K ρ) (rhoW L K ρ):=fun nd h hr=>by
  obtain ⟨k,l,e0,e1,_⟩:=wN_kids h0 hL k0 hK k6 ρ h hr
  have em:minB (fN (rhoW L K ρ) (wOf L K ρ)) k l=minB (fun x=>fL ρ (wN L K ρ x)) k l:=minB_congr l k fun x hx=>fN_wOf h0 hL k0 hK k6 ρ (kids_mem (nd:=nd) (by rw [e0]; exact hx))
  have hm:minB (fun x=>fL ρ (wN L K ρ x)) k l ∈ nodeTab L K:=by
    have:minB (fun x=>fL ρ (wN L K ρ x)) k l ∈ k :: l:=by
      rcases minB_mem (fun x=>fL ρ (wN L K ρ x)) l k with h | h
      · rw [h]; exact List.mem_cons_self
      · exact List.mem_cons_of_mem _ h
    exact kids_mem (nd:=nd) (by rw [e0]; exact this)
  refine ⟨k,l,e0,?_,?_⟩
  · rw [em,fN_wOf h0 hL k0 hK k6 ρ h,fN_wOf h0 hL k0 hK k6 ρ hm,e1]
  · rw [em,tripZ_wOf h0 hL k0 hK k6 ρ h,tripZ_wOf h0 hL k0 hK k6 ρ hm,e1]
theorem wOk_of (ρ:Rho):WOk L K (wOf L K ρ):=fun nd h hr=>by
  obtain ⟨_,_,_,_,_,h1,h2⟩:=wN_kids h0 hL k0 hK k6 ρ h hr
  rw [lenN_wOf h0 hL k0 hK k6 ρ h hr]
  exact ⟨h1,h2⟩
theorem root_in:rootOf L K ∈ nodeTab L K∧(rootOf L K).id=32∧(rootOf L K).rest=L:=by
  obtain ⟨_,r1,r2,_⟩:=ckX_all (w:=1) h0 hL k0 hK k6 (Nat.le_refl _) h0
  exact ⟨root_mem h0 r2,r1,r2⟩
theorem best_le (ρ:Rho):wN L K ρ (rootOf L K) ∈ leafs L K∧∀ x ∈ leafs L K,¬ lexP (fL ρ x) (fL ρ (wN L K ρ (rootOf L K)))∧(¬ lexP (fL ρ (wN L K ρ (rootOf L K))) (fL ρ x)→(wN L K ρ (rootOf L K)).id≤x.id):=by
  have hr:=(root_in h0 hL k0 hK k6).1
  have hw:=win_ck h0 hL k0 hK k6
  unfold winCk at hw
  simp only [Bool.and_eq_true] at hw
  have e:=eqNodes_eq _ _ hw.2.1.1
  have hi:=hw.2.1.2
  obtain ⟨s1,s2⟩:=wN_some h0 hL k0 hK k6 ρ hr
  rw [e] at s1 s2
  refine ⟨s2,fun x hx=>?_⟩
  cases hl:leafs L K with
  | nil=>rw [hl] at hx; cases hx
  | cons c cs =>
    rw [hl] at s1 hx hi
    have s1:minB (fL ρ) c cs=wN L K ρ (rootOf L K):=Option.some.inj s1
    rw [← s1]
    refine ⟨?_,fun hn=>minB_id Node.id cs c hi x hx hn⟩
    rcases List.mem_cons.1 hx with rfl | hx
    · exact (minB_le (fL ρ) cs x).1
    · exact (minB_le (fL ρ) cs c).2 x hx
omit h0 hL k0 hK k6 in
theorem planCk_get:∀ (l:List (List Nat)) (n i:Nat) (p:List Nat),planCk L K l n=true→l[i]?=some p→(∀ q ∈ p,q≤K)→hasLeaf L K (n + i) p=true
  | [],_,_,_,_,h,_=>by simp at h
  | a :: l,n,i,p,hc,h,hp=>by
    have e:planCk L K (a :: l) n=and (cond (allLe K a) (hasLeaf L K n a) true) (planCk L K l (n + 1)):=rfl
    rw [e,Bool.and_eq_true] at hc
    cases i with
    | zero =>
      rw [List.getElem?_cons_zero] at h
      cases h
      have ha:allLe K a=true:=by unfold allLe; exact lAll_of fun q hq=>ble_t.2 (hp q hq)
      rw [ha,cond_true] at hc
      exact hc.1
    | succ i =>
      rw [List.getElem?_cons_succ] at h
      have:=planCk_get l (n + 1) i p hc.2 h hp
      rw [show n + (i + 1)=n + 1 + i by omega]; exact this
theorem plan_leaf {i:Nat} {p:List Nat} (h:(plansL L)[i]?=some p) (hp:∀ q ∈ p,q≤K):∃ x ∈ leafs L K,x.id=i∧x.pre=p:=by
  have hw:=win_ck h0 hL k0 hK k6
  unfold winCk at hw
  simp only [Bool.and_eq_true] at hw
  have:=planCk_get _ 0 i p hw.2.2.1 h hp
  rw [Nat.zero_add] at this
  unfold hasLeaf at this
  rw [List.any_eq_true] at this
  obtain ⟨x,hx,hh⟩:=this
  rw [Bool.and_eq_true] at hh
  exact ⟨x,hx,beq_t.1 hh.1,eqNs_eq _ _ hh.2⟩
end
end Go.Sx
namespace Go.Sx
open Go.RowKit Go.Proofs
set_option maxRecDepth 100000
theorem ckFT11:lAll (ckFa 1 1) (nodeTab 1 1)=true:=by
  have h0:lAll (ckFa 1 1) (lDrop (nodeTab 1 1) 2)=true:=rfl
  have k0:=chunk ckFG11_0 h0
  rw [lDrop_eq,List.drop_zero] at k0
  exact k0
theorem ckFT12:lAll (ckFa 1 2) (nodeTab 1 2)=true:=by
  have h0:lAll (ckFa 1 2) (lDrop (nodeTab 1 2) 2)=true:=rfl
  have k0:=chunk ckFG12_0 h0
  rw [lDrop_eq,List.drop_zero] at k0
  exact k0
theorem ckFT21:lAll (ckFa 2 1) (nodeTab 2 1)=true:=by
  have h0:lAll (ckFa 2 1) (lDrop (nodeTab 2 1) 3)=true:=rfl
  have k0:=chunk ckFG21_0 h0
  rw [lDrop_eq,List.drop_zero] at k0
  exact k0
theorem ckFT22:lAll (ckFa 2 2) (nodeTab 2 2)=true:=by
  have h0:lAll (ckFa 2 2) (lDrop (nodeTab 2 2) 4)=true:=rfl
  have k0:=chunk ckFG22_0 h0
  rw [lDrop_eq,List.drop_zero] at k0
  exact k0
theorem ckFT23:lAll (ckFa 2 3) (nodeTab 2 3)=true:=by
  have h0:lAll (ckFa 2 3) (lDrop (nodeTab 2 3) 4)=true:=rfl
  have k0:=chunk ckFG23_0 h0
  rw [lDrop_eq,List.drop_zero] at k0
  exact k0
theorem ckFT31:lAll (ckFa 3 1) (nodeTab 3 1)=true:=by
  have h0:lAll (ckFa 3 1) (lDrop (nodeTab 3 1) 4)=true:=rfl
  have k0:=chunk ckFG31_0 h0
  rw [lDrop_eq,List.drop_zero] at k0
  exact k0
theorem ckFT32:lAll (ckFa 3 2) (nodeTab 3 2)=true:=by
  have h0:lAll (ckFa 3 2) (lDrop (nodeTab 3 2) 7)=true:=rfl
  have k0:=chunk ckFG32_0 h0
  rw [lDrop_eq,List.drop_zero] at k0
  exact k0
theorem ckFT33:lAll (ckFa 3 3) (nodeTab 3 3)=true:=by
  have h0:lAll (ckFa 3 3) (lDrop (nodeTab 3 3) 8)=true:=rfl
  have k0:=chunk ckFG33_0 h0
  rw [lDrop_eq,List.drop_zero] at k0
  exact k0
theorem ckFT34:lAll (ckFa 3 4) (nodeTab 3 4)=true:=by
  have h0:lAll (ckFa 3 4) (lDrop (nodeTab 3 4) 8)=true:=rfl
  have k0:=chunk ckFG34_0 h0
  rw [lDrop_eq,List.drop_zero] at k0
  exact k0
theorem ckFT41:lAll (ckFa 4 1) (nodeTab 4 1)=true:=by
  have h0:lAll (ckFa 4 1) (lDrop (nodeTab 4 1) 5)=true:=rfl
  have k0:=chunk ckFG41_0 h0
  rw [lDrop_eq,List.drop_zero] at k0
  exact k0
theorem ckFT42:lAll (ckFa 4 2) (nodeTab 4 2)=true:=by
  have h0:lAll (ckFa 4 2) (lDrop (nodeTab 4 2) 12)=true:=rfl
  have k0:=chunk ckFG42_0 h0
  rw [lDrop_eq,List.drop_zero] at k0
  exact k0
theorem ckFT43:lAll (ckFa 4 3) (nodeTab 4 3)=true:=by
  have h0:lAll (ckFa 4 3) (lDrop (nodeTab 4 3) 15)=true:=rfl
  have k0:=chunk ckFG43_0 h0
  rw [lDrop_eq,List.drop_zero] at k0
  exact k0
theorem ckFT44:lAll (ckFa 4 4) (nodeTab 4 4)=true:=by
  have h0:lAll (ckFa 4 4) (lDrop (nodeTab 4 4) 16)=true:=rfl
  have k0:=chunk ckFG44_0 h0
  rw [lDrop_eq,List.drop_zero] at k0
  exact k0
theorem ckFT45:lAll (ckFa 4 5) (nodeTab 4 5)=true:=by
  have h0:lAll (ckFa 4 5) (lDrop (nodeTab 4 5) 16)=true:=rfl
  have k0:=chunk ckFG45_0 h0
  rw [lDrop_eq,List.drop_zero] at k0
  exact k0
theorem ckFT51:lAll (ckFa 5 1) (nodeTab 5 1)=true:=by
  have h0:lAll (ckFa 5 1) (lDrop (nodeTab 5 1) 6)=true:=rfl
  have k0:=chunk ckFG51_0 h0
  rw [lDrop_eq,List.drop_zero] at k0
  exact k0
theorem ckFT52:lAll (ckFa 5 2) (nodeTab 5 2)=true:=by
  have h0:lAll (ckFa 5 2) (lDrop (nodeTab 5 2) 20)=true:=rfl
  have k0:=chunk ckFG52_0 h0
  rw [lDrop_eq,List.drop_zero] at k0
  exact k0
theorem ckFT53:lAll (ckFa 5 3) (nodeTab 5 3)=true:=by
  have h0:lAll (ckFa 5 3) (lDrop (nodeTab 5 3) 28)=true:=rfl
  have k0:=chunk ckFG53_22 h0
  have k1:=chunk ckFG53_0 k0
  rw [lDrop_eq,List.drop_zero] at k1
  exact k1
theorem ckFT54:lAll (ckFa 5 4) (nodeTab 5 4)=true:=by
  have h0:lAll (ckFa 5 4) (lDrop (nodeTab 5 4) 31)=true:=rfl
  have k0:=chunk ckFG54_17 h0
  have k1:=chunk ckFG54_0 k0
  rw [lDrop_eq,List.drop_zero] at k1
  exact k1
theorem ckFT55:lAll (ckFa 5 5) (nodeTab 5 5)=true:=by
  have h0:lAll (ckFa 5 5) (lDrop (nodeTab 5 5) 32)=true:=rfl
  have k0:=chunk ckFG55_2 h0
  have k1:=chunk ckFG55_0 k0
  rw [lDrop_eq,List.drop_zero] at k1
  exact k1
theorem ckFT56:lAll (ckFa 5 6) (nodeTab 5 6)=true:=by
  have h0:lAll (ckFa 5 6) (lDrop (nodeTab 5 6) 32)=true:=rfl
  have k0:=chunk ckFG56_2 h0
  have k1:=chunk ckFG56_0 k0
  rw [lDrop_eq,List.drop_zero] at k1
  exact k1
theorem ckFT61:lAll (ckFa 6 1) (nodeTab 6 1)=true:=by
  have h0:lAll (ckFa 6 1) (lDrop (nodeTab 6 1) 7)=true:=rfl
  have k0:=chunk ckFG61_0 h0
  rw [lDrop_eq,List.drop_zero] at k0
  exact k0
theorem ckFT62:lAll (ckFa 6 2) (nodeTab 6 2)=true:=by
  have h0:lAll (ckFa 6 2) (lDrop (nodeTab 6 2) 33)=true:=rfl
  have k0:=chunk ckFG62_21 h0
  have k1:=chunk ckFG62_0 k0
  rw [lDrop_eq,List.drop_zero] at k1
  exact k1
theorem ckFT63:lAll (ckFa 6 3) (nodeTab 6 3)=true:=by
  have h0:lAll (ckFa 6 3) (lDrop (nodeTab 6 3) 52)=true:=rfl
  have k0:=chunk ckFG63_40 h0
  have k1:=chunk ckFG63_29 k0
  have k2:=chunk ckFG63_2 k1
  have k3:=chunk ckFG63_0 k2
  rw [lDrop_eq,List.drop_zero] at k3
  exact k3
theorem ckFN64_0:lAll (ckFa 6 4) (lTake (lDrop (nodeTab 6 4) 0) 1)=true:=by
  have h0:lAll (ckFo 6 4 (nodeAt 6 4 0)) (lDrop (combos (kidsOf 6 4 (nodeAt 6 4 0))) 150)=true:=by kernel_rfl
  have k0:=chunk ckFC64_0_100 h0
  have k1:=chunk ckFC64_0_50 k0
  have k2:=chunk ckFC64_0_0 k1
  rw [lDrop_eq,List.drop_zero] at k2
  have e:lTake (lDrop (nodeTab 6 4) 0) 1=[nodeAt 6 4 0]:=rfl
  rw [e]
  exact lAll_cons k2 rfl
theorem ckFT64:lAll (ckFa 6 4) (nodeTab 6 4)=true:=by
  have h0:lAll (ckFa 6 4) (lDrop (nodeTab 6 4) 60)=true:=rfl
  have k0:=chunk ckFG64_58 h0
  have k1:=chunk ckFG64_34 k0
  have k2:=chunk ckFG64_32 k1
  have k3:=chunk ckFG64_17 k2
  have k4:=chunk ckFG64_1 k3
  have k5:=chunk ckFN64_0 k4
  rw [lDrop_eq,List.drop_zero] at k5
  exact k5
theorem ckFN65_0:lAll (ckFa 6 5) (lTake (lDrop (nodeTab 6 5) 0) 1)=true:=by
  have h0:lAll (ckFo 6 5 (nodeAt 6 5 0)) (lDrop (combos (kidsOf 6 5 (nodeAt 6 5 0))) 135)=true:=by kernel_rfl
  have k0:=chunk ckFC65_0_108 h0
  have k1:=chunk ckFC65_0_81 k0
  have k2:=chunk ckFC65_0_54 k1
  have k3:=chunk ckFC65_0_27 k2
  have k4:=chunk ckFC65_0_0 k3
  rw [lDrop_eq,List.drop_zero] at k4
  have e:lTake (lDrop (nodeTab 6 5) 0) 1=[nodeAt 6 5 0]:=rfl
  rw [e]
  exact lAll_cons k4 rfl
theorem ckFT65:lAll (ckFa 6 5) (nodeTab 6 5)=true:=by
  have h0:lAll (ckFa 6 5) (lDrop (nodeTab 6 5) 63)=true:=rfl
  have k0:=chunk ckFG65_55 h0
  have k1:=chunk ckFG65_34 k0
  have k2:=chunk ckFG65_31 k1
  have k3:=chunk ckFG65_3 k2
  have k4:=chunk ckFG65_1 k3
  have k5:=chunk ckFN65_0 k4
  rw [lDrop_eq,List.drop_zero] at k5
  exact k5
theorem ckFN66_0:lAll (ckFa 6 6) (lTake (lDrop (nodeTab 6 6) 0) 1)=true:=by
  have h0:lAll (ckFo 6 6 (nodeAt 6 6 0)) (lDrop (combos (kidsOf 6 6 (nodeAt 6 6 0))) 126)=true:=by kernel_rfl
  have k0:=chunk ckFC66_0_112 h0
  have k1:=chunk ckFC66_0_98 k0
  have k2:=chunk ckFC66_0_84 k1
  have k3:=chunk ckFC66_0_70 k2
  have k4:=chunk ckFC66_0_56 k3
  have k5:=chunk ckFC66_0_42 k4
  have k6:=chunk ckFC66_0_28 k5
  have k7:=chunk ckFC66_0_14 k6
  have k8:=chunk ckFC66_0_0 k7
  rw [lDrop_eq,List.drop_zero] at k8
  have e:lTake (lDrop (nodeTab 6 6) 0) 1=[nodeAt 6 6 0]:=rfl
  rw [e]
  exact lAll_cons k8 rfl
theorem ckFT66:lAll (ckFa 6 6) (nodeTab 6 6)=true:=by
  have h0:lAll (ckFa 6 6) (lDrop (nodeTab 6 6) 64)=true:=rfl
  have k0:=chunk ckFG66_55 h0
  have k1:=chunk ckFG66_34 k0
  have k2:=chunk ckFG66_31 k1
  have k3:=chunk ckFG66_3 k2
  have k4:=chunk ckFG66_1 k3
  have k5:=chunk ckFN66_0 k4
  rw [lDrop_eq,List.drop_zero] at k5
  exact k5
theorem ckFa_all {L K:Nat} (h0:1≤L) (hL:L≤6) (k0:1≤K) (hK:K≤L + 1) (k6:K≤6) {nd:Node} (h:nd ∈ nodeTab L K):ckFa L K nd=true:=by
  rcases six h0 hL with rfl | rfl | rfl | rfl | rfl | rfl
  · rcases (by omega:K=1 ∨ K=2) with rfl | rfl
    · exact lAll_mem ckFT11 nd h
    · exact lAll_mem ckFT12 nd h
  · rcases (by omega:K=1 ∨ K=2 ∨ K=3) with rfl | rfl | rfl
    · exact lAll_mem ckFT21 nd h
    · exact lAll_mem ckFT22 nd h
    · exact lAll_mem ckFT23 nd h
  · rcases (by omega:K=1 ∨ K=2 ∨ K=3 ∨ K=4) with rfl | rfl | rfl | rfl
    · exact lAll_mem ckFT31 nd h
    · exact lAll_mem ckFT32 nd h
    · exact lAll_mem ckFT33 nd h
    · exact lAll_mem ckFT34 nd h
  · rcases (by omega:K=1 ∨ K=2 ∨ K=3 ∨ K=4 ∨ K=5) with rfl | rfl | rfl | rfl | rfl
    · exact lAll_mem ckFT41 nd h
    · exact lAll_mem ckFT42 nd h
    · exact lAll_mem ckFT43 nd h
    · exact lAll_mem ckFT44 nd h
    · exact lAll_mem ckFT45 nd h
  · rcases (by omega:K=1 ∨ K=2 ∨ K=3 ∨ K=4 ∨ K=5 ∨ K=6) with rfl | rfl | rfl | rfl | rfl | rfl
    · exact lAll_mem ckFT51 nd h
    · exact lAll_mem ckFT52 nd h
    · exact lAll_mem ckFT53 nd h
    · exact lAll_mem ckFT54 nd h
    · exact lAll_mem ckFT55 nd h
    · exact lAll_mem ckFT56 nd h
  · rcases (by omega:K=1 ∨ K=2 ∨ K=3 ∨ K=4 ∨ K=5 ∨ K=6) with rfl | rfl | rfl | rfl | rfl | rfl
    · exact lAll_mem ckFT61 nd h
    · exact lAll_mem ckFT62 nd h
    · exact lAll_mem ckFT63 nd h
    · exact lAll_mem ckFT64 nd h
    · exact lAll_mem ckFT65 nd h
    · exact lAll_mem ckFT66 nd h
end Go.Sx
namespace Go.Sx
open Go.RowKit Go.Proofs
set_option maxRecDepth 100000
theorem shorter_iff {W:List (Nat × Nat)} {k:Node} {n:Nat}:shorter W k n=true ↔ lenNd W k < n:=by
  unfold shorter
  constructor
  · intro h; have:=ble_t.1 h; omega
  · intro h; exact ble_t.2 (by omega)
noncomputable def hasF (ρ:Rho) (k:Node):Bool:=Bool.not ((noF k).den ρ)
noncomputable def stF (ρ:Rho) (W:List (Nat × Nat)) (o:Option (Nat × IE)) (c:Option Node) (k:Node):Option Node:=if btF W o c k=true∧hasF ρ k=true then some k else c
theorem seqF_cons (W:List (Nat × Nat)) (b:Nat) (o:Option (Nat × IE)) (k:Node) (l:List Node) (c:Option Node):seqF W b o (k :: l) c=cond (btF W o c k) (.br (noF k) (seqF W b o l c) (seqF W b o l (some k))) (seqF W b o l c):=rfl
theorem seqF_holds {ρ:Rho} {W:List (Nat × Nat)} {b:Nat} {o:Option (Nat × IE)} {R:AV→Prop}:∀ (l:List Node) (c:Option Node),(endF W b o (l.foldl (stF ρ W o) c)).Holds ρ R→(seqF W b o l c).Holds ρ R
  | [],c,h=>h
  | k :: l,c,h=>by
    rw [List.foldl_cons] at h
    rw [seqF_cons]
    cases hb:btF W o c k with
    | false =>
      have e:stF ρ W o c k=c:=by unfold stF; rw [if_neg]; rintro ⟨h1,_⟩; rw [hb] at h1; cases h1
      rw [e] at h
      exact seqF_holds l c h
    | true =>
      rw [cond_true]
      simp only [T.Holds]
      split
      · rename_i hn
        have e:stF ρ W o c k=c:=by unfold stF hasF; rw [if_neg]; rintro ⟨_,h2⟩; rw [hn] at h2; cases h2
        rw [e] at h
        exact seqF_holds l c h
      · rename_i hn
        have e:stF ρ W o c k=some k:=by
          unfold stF hasF
          rw [if_pos ⟨hb,by cases hh:(noF k).den ρ with | true=>exact absurd hh hn | false=>rfl⟩]
        rw [e] at h
        exact seqF_holds l (some k) h
noncomputable def gN (W:List (Nat × Nat)) (nd:Node):Int × Nat:=(0,lenNd W nd)
theorem lex0 {W:List (Nat × Nat)} {k d:Node}:lexP (gN W k) (gN W d) ↔ lenNd W k < lenNd W d:=⟨fun h=>by
  rcases h with h | h
  · exact absurd h (Int.lt_irrefl 0)
  · exact h.2,fun h=>.inr ⟨rfl,h⟩⟩
theorem fold_some {ρ:Rho} {W:List (Nat × Nat)} {o:Option (Nat × IE)}:∀ (l:List Node) (d:Node),l.foldl (stF ρ W o) (some d)=some (minB (gN W) d (l.filter (hasF ρ)))
  | [],d=>rfl
  | k :: l,d=>by
    rw [List.foldl_cons]
    cases hh:hasF ρ k with
    | false =>
      have e:stF ρ W o (some d) k=some d:=by unfold stF; rw [if_neg]; rintro ⟨_,h2⟩; rw [hh] at h2; cases h2
      rw [e,List.filter_cons_of_neg (by rw [hh]; exact Bool.false_ne_true)]
      exact fold_some l d
    | true =>
      rw [List.filter_cons_of_pos hh]
      have e2:minB (gN W) d (k :: l.filter (hasF ρ))=minB (gN W) (if lexP (gN W k) (gN W d) then k else d) (l.filter (hasF ρ)):=rfl
      rw [e2]
      by_cases hx:lenNd W k < lenNd W d
      · have e:stF ρ W o (some d) k=some k:=by unfold stF; rw [if_pos ⟨shorter_iff.2 hx,hh⟩]
        rw [e,if_pos (lex0.2 hx)]
        exact fold_some l k
      · have e:stF ρ W o (some d) k=some d:=by unfold stF; rw [if_neg]; rintro ⟨h1,_⟩; exact hx (shorter_iff.1 h1)
        rw [e,if_neg (fun h=>hx (lex0.1 h))]
        exact fold_some l d
noncomputable def winF (ρ:Rho) (W:List (Nat × Nat)) (l:List Node):Option Node:=minL (gN W) (l.filter (hasF ρ))
theorem fold_nil {ρ:Rho} {W:List (Nat × Nat)}:∀ (l:List Node),l.foldl (stF ρ W none) none=winF ρ W l
  | []=>rfl
  | k :: l=>by
    rw [List.foldl_cons]
    unfold winF
    cases hh:hasF ρ k with
    | false =>
      have e:stF ρ W none none k=none:=by unfold stF; rw [if_neg]; rintro ⟨_,h2⟩; rw [hh] at h2; cases h2
      rw [e,List.filter_cons_of_neg (by rw [hh]; exact Bool.false_ne_true)]
      exact fold_nil l
    | true =>
      have e:stF ρ W none none k=some k:=by unfold stF; rw [if_pos ⟨rfl,hh⟩]
      rw [e,List.filter_cons_of_pos hh,fold_some]; rfl
theorem fold_from {ρ : Rho} {W : List (Nat × Nat)} {n : Nat} {s : IE} : ∀ (l : List Node), l.foldl (stF ρ W (some (n, s))) none = (match winF ρ W l with
    | some w=>if lenNd W w < n then some w else none
    | none=>none)
  | []=>rfl
  | k :: l=>by
    rw [List.foldl_cons]
    unfold winF
    cases hh:hasF ρ k with
    | false =>
      have e:stF ρ W (some (n,s)) none k=none:=by unfold stF; rw [if_neg]; rintro ⟨_,h2⟩; rw [hh] at h2; cases h2
      rw [e,List.filter_cons_of_neg (by rw [hh]; exact Bool.false_ne_true)]
      exact fold_from l
    | true =>
      rw [List.filter_cons_of_pos hh]
      show _=if lenNd W (minB (gN W) k (l.filter (hasF ρ))) < n then some (minB (gN W) k (l.filter (hasF ρ))) else none
      have hle:=(minB_le (gN W) (l.filter (hasF ρ)) k).1
      have hle:¬ lenNd W k < lenNd W (minB (gN W) k (l.filter (hasF ρ))):=fun h=>hle (lex0.2 h)
      by_cases hx:lenNd W k < n
      · have e:stF ρ W (some (n,s)) none k=some k:=by unfold stF; rw [if_pos ⟨shorter_iff.2 hx,hh⟩]
        rw [e,fold_some,if_pos (by omega)]
      · have e:stF ρ W (some (n,s)) none k=none:=by unfold stF; rw [if_neg]; rintro ⟨h1,_⟩; exact hx (shorter_iff.1 h1)
        rw [e,fold_from l]
        unfold winF
        cases hf:l.filter (hasF ρ) with
        | nil =>
          show none=_
          rw [if_neg]
          exact hx
        | cons a m =>
          show (if lenNd W (minB (gN W) a m) < n then some (minB (gN W) a m) else none)=_
          have e2:minB (gN W) k (a :: m)=if lexP (gN W (minB (gN W) a m)) (gN W k) then minB (gN W) a m else k:=by
            have e3:minB (gN W) k (a :: m)=minB (gN W) (if lexP (gN W a) (gN W k) then a else k) m:=rfl
            rw [e3,minB_if]
          rw [e2]
          by_cases hy:lenNd W (minB (gN W) a m) < lenNd W k
          · rw [if_pos (lex0.2 hy)]
          · rw [if_neg (fun h=>hy (lex0.1 h)),if_neg (by omega),if_neg hx]
theorem shorter_congr {W W':List (Nat × Nat)} {k:Node} (h:lenNd W' k=lenNd W k) (n:Nat):shorter W' k n=shorter W k n:=by unfold shorter; rw [h]
theorem endF_congr {W W':List (Nat × Nat)} {b:Nat} {o:Option (Nat × IE)}:∀ (c:Option Node),(∀ k,c=some k→lenNd W' k=lenNd W k)→endF W' b o c=endF W b o c
  | none,_=>by cases o <;> rfl
  | some k,h=>by unfold endF; simp only; rw [h k rfl]
theorem btF_congr {W W':List (Nat × Nat)} {o:Option (Nat × IE)} {c:Option Node} {k:Node} (hk:lenNd W' k=lenNd W k) (hc:∀ k,c=some k→lenNd W' k=lenNd W k):btF W' o c k=btF W o c k:=by
  cases c with
  | some d=>show shorter W' k (lenNd W' d)=shorter W k (lenNd W d); rw [hc d rfl]; exact shorter_congr hk _
  | none=>cases o with
    | some p=>exact shorter_congr hk _
    | none=>rfl
theorem seqF_congr {W W':List (Nat × Nat)} {b:Nat} {o:Option (Nat × IE)}:∀ (l:List Node) (c:Option Node),(∀ k ∈ l,lenNd W' k=lenNd W k)→(∀ k,c=some k→lenNd W' k=lenNd W k)→seqF W' b o l c=seqF W b o l c
  | [],c,_,hc=>endF_congr c hc
  | k :: l,c,hl,hc=>by
    have hk:=hl k List.mem_cons_self
    have hl':∀ k ∈ l,lenNd W' k=lenNd W k:=fun k h=>hl k (List.mem_cons_of_mem _ h)
    rw [seqF_cons,seqF_cons,btF_congr hk hc,seqF_congr l c hl' hc,seqF_congr l (some k) hl' (fun x hx=>by cases hx; exact hk)]
theorem encF_all {L b:Nat} {nd:Node} {q:AV × Heap} (h:encFw L b nd q ≠ .bad):q.1=tag true∧allO q.2 (preF L)=true∧allO q.2 (sufF L nd.arrA)=true:=by
  unfold encFw at h
  cases hc:and (and (eqAV q.1 (tag true)) (allO q.2 (preF L))) (allO q.2 (sufF L nd.arrA)) with
  | false=>rw [hc] at h; exact absurd rfl h
  | true =>
    simp only [Bool.and_eq_true] at hc
    exact ⟨eqAV_eq _ _ hc.1.1,hc.1.2,hc.2⟩
section
variable {L b n x:Nat} {s:IE} {cs:List AV} {nd:Node} {q:AV × Heap}
theorem encF_true {v:List AV} (h:encFw L b nd q=.tup v):and (and (eqAV q.1 (tag true)) (allO q.2 (preF L))) (allO q.2 (sufF L nd.arrA))=true:=by
  cases hc:and (and (eqAV q.1 (tag true)) (allO q.2 (preF L))) (allO q.2 (sufF L nd.arrA)) with
  | false=>unfold encFw at h; rw [hc] at h; cases h
  | true=>rfl
theorem ln_ne {a b:Nat} (h:a ≠ b):ln a ≠ ln b:=fun e=>h (ln_inj e)
theorem encF_new (h:encFw L b nd q=.tup [ln 1,ln n,iA s,.agg cs,ln x]):q.2.get 2005=some (.cells [.sliceX b 1 0 n,iA s] 78 true false)∧q.2.get b=some (.cells cs 3 true true)∧q.2.next=x:=by
  have hc:=encF_true h
  unfold encFw at h
  rw [hc,cond_true] at h
  split at h
  · rename_i d n' s' hg
    cases hd:Nat.beq d b with
    | true =>
      rw [hd,cond_true] at h
      have hd:=beq_t.1 hd
      subst hd
      split at h
      · rename_i cs' hg2
        simp only [AV.tup.injEq,List.cons.injEq,and_true] at h
        obtain ⟨_,h2,h3,h4,h5⟩:=h
        have h2:=ln_inj h2
        have h5:=ln_inj h5
        unfold iA at h3
        simp only [AV.int.injEq,true_and] at h3
        simp only [AV.agg.injEq] at h4
        subst h2; subst h3; subst h4; subst h5
        exact ⟨hg,hg2,rfl⟩
      · cases h
    | false =>
      rw [hd,cond_false] at h
      cases hd2:Nat.beq d 2012 with
      | true =>
        rw [hd2,cond_true] at h
        simp only [AV.tup.injEq,List.cons.injEq] at h
        exact absurd h.1 (ln_ne (by omega))
      | false=>rw [hd2] at h; cases h
  · simp only [AV.tup.injEq,List.cons.injEq] at h
    exact absurd h.1 (ln_ne (by omega))
  · cases h
theorem encF_old (h:encFw L b nd q=.tup [ln 0,ln n,iA s,ln x]):q.2.get 2005=some (.cells (bestC n s) 78 true false)∧q.2.next=x:=by
  have hc:=encF_true h
  unfold encFw at h
  rw [hc,cond_true] at h
  split at h
  · rename_i d n' s' hg
    cases hd:Nat.beq d b with
    | true =>
      rw [hd,cond_true] at h
      split at h
      · simp only [AV.tup.injEq,List.cons.injEq] at h
        exact absurd h.1 (ln_ne (by omega))
      · cases h
    | false =>
      rw [hd,cond_false] at h
      cases hd2:Nat.beq d 2012 with
      | true =>
        rw [hd2,cond_true] at h
        simp only [AV.tup.injEq,List.cons.injEq,and_true,true_and] at h
        obtain ⟨h2,h3,h5⟩:=h
        have h2:=ln_inj h2
        have h5:=ln_inj h5
        unfold iA at h3
        simp only [AV.int.injEq,true_and] at h3
        have hd2:=beq_t.1 hd2
        subst h2; subst h3; subst h5; subst hd2
        exact ⟨hg,rfl⟩
      | false=>rw [hd2] at h; cases h
  · simp only [AV.tup.injEq,List.cons.injEq] at h
    exact absurd h.1 (ln_ne (by omega))
  · cases h
theorem encF_nil (h:encFw L b nd q=.tup [ln 2,ln 0,ln x]):q.2.get 2005=some (.cells nilC 78 true false)∧q.2.next=x:=by
  have hc:=encF_true h
  unfold encFw at h
  rw [hc,cond_true] at h
  split at h
  · rename_i d n' s' hg
    cases hd:Nat.beq d b with
    | true =>
      rw [hd,cond_true] at h
      split at h
      · simp only [AV.tup.injEq,List.cons.injEq] at h
        exact absurd h.1 (ln_ne (by omega))
      · cases h
    | false =>
      rw [hd,cond_false] at h
      cases hd2:Nat.beq d 2012 with
      | true =>
        rw [hd2,cond_true] at h
        simp only [AV.tup.injEq,List.cons.injEq] at h
        exact absurd h.1 (ln_ne (by omega))
      | false=>rw [hd2] at h; cases h
  · rename_i s' hg
    simp only [AV.tup.injEq,List.cons.injEq,and_true,true_and] at h
    obtain ⟨h2,h3⟩:=h
    have h3:=ln_inj h3
    subst h3
    refine ⟨?_,rfl⟩
    unfold nilC
    rw [← h2]; exact hg
  · cases h
end
end Go.Sx
namespace Go.Sx
open Go.RowKit Go.Proofs
set_option maxRecDepth 100000
noncomputable def tripsFE (nd:Node) (w:Nat):List IE:=cond (Nat.beq nd.rest 0) (nd.pre.map fun p=>.lit (Int.ofNat p)) ((upN w 0).map fun k=>.app 9704 (.lit (Int.ofNat nd.id)) (.lit (Int.ofNat k)) (.lit 0))
theorem tripsF_eq (nd:Node) (w:Nat):tripsF nd w=lMap iA (tripsFE nd w):=by
  unfold tripsF tripsFE
  cases Nat.beq nd.rest 0 with
  | true=>rw [cond_true,cond_true]; unfold litsN; rw [lMap_eq,lMap_eq,List.map_map]; rfl
  | false=>rw [cond_false,cond_false,lMap_eq,lMap_eq,List.map_map]; rfl
noncomputable def tripZF (ρ:Rho) (W:List (Nat × Nat)) (nd:Node):List Int:=(tripsFE nd (lenNd W nd)).map (IE.den ρ)
def SameW (ρ:Rho) (W:List (Nat × Nat)) (a b:Node):Prop:=lenNd W a=lenNd W b∧(sF a).den ρ=(sF b).den ρ∧tripZF ρ W a=tripZF ρ W b
def OkWF (L K:Nat) (W:List (Nat × Nat)) (ρ:Rho):Prop:=∀ nd ∈ nodeTab L K,nd.rest ≠ 0→match winF ρ W (kidsOf L K nd) with
  | none=>hasF ρ nd=false
  | some w=>hasF ρ nd=true∧SameW ρ W nd w
def okNf (L K:Nat) (W:List (Nat × Nat)) (ρ:Rho):Prop:=okSB L ρ∧(∀ c ∈ ivC (carryQ L K ++ startsQ),c.den ρ=true)∧OkWF L K W ρ
noncomputable def pNf (L K:Nat) (W:List (Nat × Nat)):Par:=pOk fun ρ _=>okNf L K W ρ
theorem knF_ok {L K:Nat} {W:List (Nat × Nat)} {ρ:Rho} (h:okNf L K W ρ):KnOk ρ (knN L K):=knOf_ok h.2.1 (fun c hc=>by cases hc)
theorem vNf_mem {L:Nat} {arr:List Nat} {best:List AV} {b:Nat} {c:AObj} (h:(b,c) ∈ vNf L arr best):(b,c) ∈ preF L ∨ (b=2005∧c=.cells best 78 true false) ∨ (b,c) ∈ sufF L arr:=by
  unfold vNf at h
  rcases List.mem_append.1 h with h | h
  · exact .inl h
  · rcases List.mem_cons.1 h with h | h
    · cases h; exact .inr (.inl ⟨rfl,rfl⟩)
    · exact .inr (.inr h)
theorem preF_ok {L n:Nat} (h0:1≤L) (hL:L≤6) (hn:n=2012 ∨ n=2013):lAll (okH n) (preF L)=true:=by
  rcases hn with rfl | rfl <;> rcases six h0 hL with rfl | rfl | rfl | rfl | rfl | rfl <;> kernel_rfl
theorem sufF_ok0 {L n:Nat} (h0:1≤L) (hL:L≤6) (hn:n=2012 ∨ n=2013):lAll (okH n) (sufF L [])=true:=by
  rcases hn with rfl | rfl <;> rcases six h0 hL with rfl | rfl | rfl | rfl | rfl | rfl <;> kernel_rfl
theorem sufF_mem {L:Nat} {arr:List Nat} {b:Nat} {c:AObj} (h:(b,c) ∈ sufF L arr):(b,c) ∈ sufF L [] ∨ (b=2010∧c=.cells (litsN arr) 104 true false):=by
  unfold sufF at h ⊢
  simp only [List.mem_cons,List.not_mem_nil,or_false] at h ⊢
  rcases h with h | h | h | h | h | h
  · exact .inl (.inl h)
  · exact .inl (.inr (.inl h))
  · exact .inl (.inr (.inr (.inl h)))
  · exact .inl (.inr (.inr (.inr (.inl h))))
  · cases h; exact .inr ⟨rfl,rfl⟩
  · exact .inl (.inr (.inr (.inr (.inr (.inr h)))))
theorem sufF_ok {L n:Nat} (h0:1≤L) (hL:L≤6) (hn:n=2012 ∨ n=2013) {arr:List Nat} {b:Nat} {c:AObj} (h:(b,c) ∈ sufF L arr):okH n (b,c)=true:=by
  rcases sufF_mem h with h | ⟨rfl,rfl⟩
  · exact lAll_mem (sufF_ok0 h0 hL hn) _ h
  · unfold okH
    have e1:plO (.cells (litsN arr) 104 true false)=true:=plsN arr
    have e2:idsO n (.cells (litsN arr) 104 true false)=true:=idsN n arr
    have e3:Nat.ble (2010 + 1) n=true:=by rcases hn with rfl | rfl <;> rfl
    rw [e1,e2,e3]; rfl
theorem viewF_ok {L n:Nat} (h0:1≤L) (hL:L≤6) (hn:n=2012 ∨ n=2013) {arr:List Nat} {best:List AV} (hb:idsLts n best=true):viewOk n (vNf L arr best)=true:=by
  unfold viewOk
  rw [Bool.and_eq_true]
  refine ⟨rfl,lAll_of fun g hg=>?_⟩
  obtain ⟨b,c⟩:=g
  rcases vNf_mem hg with hm | ⟨rfl,rfl⟩ | hm
  · have:=lAll_mem (preF_ok h0 hL hn) _ hm
    unfold okH at this
    rw [Bool.and_eq_true] at this; exact this.2
  · have e3:Nat.ble (2005 + 1) n=true:=by rcases hn with rfl | rfl <;> rfl
    rw [Bool.and_eq_true]; exact ⟨e3,hb⟩
  · have:=sufF_ok h0 hL hn hm
    unfold okH at this
    rw [Bool.and_eq_true] at this; exact this.2
theorem newF_same {p : Par} {L b : Nat} {W : List (Nat × Nat)} {nd w : Node} {ρ : Rho} {r : AV × Heap} (he : encFw L b nd r = .tup [ln 1, ln (lenNd W w), iA (sF w), .agg (tripsF w (lenNd W w)), ln (b + 1)]) (e : SameW ρ W nd w) :
    SameV ρ r.1 ρ (lfFB L W nd b).1∧SameH p p ρ r.2 ρ (lfFB L W nd b).2:=by
  obtain ⟨q1,q2,q3⟩:=encF_all (by rw [he]; exact fun h=>by cases h)
  obtain ⟨q4,q5,q6⟩:=encF_new he
  obtain ⟨el,ei,et⟩:=e
  refine ⟨by rw [q1]; exact SameV.refl _ _,q6.trans (viewA_next _ _).symm,fun j o g=>?_⟩
  have hm:=viewA_get _ _ _ _ g
  rcases List.mem_append.1 hm with hm | hm
  · rcases vNf_mem hm with hm | ⟨rfl,rfl⟩ | hm
    · exact ⟨o,allO_get q2 hm,SameA.refl o⟩
    · refine ⟨_,q4,SameA.cells rfl ?_⟩
      rw [el]
      exact SameL.cons (SameV.sliceX _ _ _ _) (SameL.cons (SameV.int ei.symm) SameL.nil)
    · exact ⟨o,allO_get q3 hm,SameA.refl o⟩
  · rw [List.mem_singleton] at hm
    cases hm
    refine ⟨_,q5,SameA.cells rfl ?_⟩
    rw [tripsF_eq,tripsF_eq]
    exact same_ints et.symm
theorem oldF_same {p:Par} {L b:Nat} {best:List AV} {nd:Node} {ρ:Rho} {r:AV × Heap} (h1:encFw L b nd r ≠ .bad) (h2:r.2.get 2005=some (.cells best 78 true false)∧r.2.next=b):SameV ρ r.1 ρ (lfFA L nd best b).1∧SameH p p ρ r.2 ρ (lfFA L nd best b).2:=by
  obtain ⟨q1,q2,q3⟩:=encF_all h1
  refine ⟨by rw [q1]; exact SameV.refl _ _,h2.2.trans (viewA_next _ _).symm,fun j o g=>?_⟩
  rcases vNf_mem (viewA_get _ _ _ _ g) with hm | ⟨rfl,rfl⟩ | hm
  · exact ⟨o,allO_get q2 hm,SameA.refl o⟩
  · exact ⟨_,h2.1,SameA.refl _⟩
  · exact ⟨o,allO_get q3 hm,SameA.refl o⟩
structure TryF (L K:Nat) (W:List (Nat × Nat)) (nd:Node):Prop where
  nil:CallOk (pNf L K W) 62 (argsNd (lLen nd.pre) nd.rest) (viewA 2012 (vNf L nd.arrB nilC)) (saidFw0 L W nd)
  old:frst nd=false→∀ n s,1≤n→n≤L→CallOk (pNf L K W) 62 (argsNd (lLen nd.pre) nd.rest) (viewA 2013 (vNf L nd.arrB (bestC n s))) (saidFw L W nd n s)
theorem ckF_one {L K:Nat} {W:List (Nat × Nat)} (H:Base0 L K W) {nd:Node} (h:nd ∈ nodeTab L K):ckFo L K nd (resW W (kidsOf L K nd))=true :=
  lAll_mem (ckFa_all H.h0 H.hL H.k0 H.hK H.k6 h) _ (resW_mem _ fun k hk hr=>H.w k (kids_mem hk) hr)
theorem expF_holds {L K b : Nat} {W : List (Nat × Nat)} {nd : Node} (h : nd ∈ nodeTab L K) {ρ : Rho} (hW : OkWF L K W ρ) {o : Option (Nat × IE)} {R : AV → Prop}
    (hno:hasF ρ nd=false ∨ btF W o none nd=false→(endF W b o none).Holds ρ R) (hyes:hasF ρ nd=true→btF W o none nd=true→∀ w,SameW ρ W nd w→(endF W b o (some w)).Holds ρ R):(expFw L K (resW W (kidsOf L K nd)) nd b o).Holds ρ R:=by
  unfold expFw
  cases hr:Nat.beq nd.rest 0 with
  | true =>
    rw [cond_true]
    have hl:lenNd (resW W (kidsOf L K nd)) nd=lenNd W nd:=by unfold lenNd; rw [hr]; rfl
    rw [btF_congr (W:=W) (c:=none) hl (fun x hx=>by cases hx),endF_congr (W:=W) none (fun x hx=>by cases hx),endF_congr (W:=W) (some nd) (fun x hx=>by cases hx; exact hl)]
    simp only [T.Holds]
    split
    · rename_i hn
      exact hno (.inl (by unfold hasF; rw [hn]; rfl))
    · rename_i hn
      have hh:hasF ρ nd=true:=by
        unfold hasF
        cases hb:(noF nd).den ρ with
        | true=>exact absurd hb hn
        | false=>rfl
      cases hb:btF W o none nd with
      | true=>exact hyes hh hb nd ⟨rfl,rfl,rfl⟩
      | false=>exact hno (.inr hb)
  | false =>
    rw [cond_false,seqF_congr (W:=W) _ none lenNd_res (fun x hx=>by cases hx)]
    refine seqF_holds _ _ ?_
    have hw:=hW nd h (fun e=>by rw [beq_t.2 e] at hr; cases hr)
    cases o with
    | none =>
      rw [fold_nil]
      cases hf:winF ρ W (kidsOf L K nd) with
      | none=>rw [hf] at hw; exact hno (.inl hw)
      | some w=>rw [hf] at hw; exact hyes hw.1 rfl w hw.2
    | some p =>
      obtain ⟨n,s⟩:=p
      rw [fold_from]
      cases hf:winF ρ W (kidsOf L K nd) with
      | none=>rw [hf] at hw; exact hno (.inl hw)
      | some w =>
        rw [hf] at hw
        have el:=hw.2.1
        simp only
        by_cases hx:lenNd W w < n
        · rw [if_pos hx]
          exact hyes hw.1 (shorter_iff.2 (by rw [el]; exact hx)) w hw.2
        · rw [if_neg hx]
          refine hno (.inr ?_)
          cases hb:btF W (some (n,s)) none nd with
          | false=>rfl
          | true=>exact absurd (shorter_iff.1 hb) (by rw [el]; exact hx)
section
variable {L K:Nat} {W:List (Nat × Nat)} (H:Base0 L K W) {nd:Node} (hnd:nd ∈ nodeTab L K)
include H hnd
theorem tryF_old {n : Nat} (hf : frst nd = false) (h1 : 1 ≤ n) (hn : n ≤ L) (B : TabOk (pNf L K W) Sx.Tryd.tt.get (tbNf L nd (kidsOf L K nd) (resW W (kidsOf L K nd)))) :
    CallOk (pNf L K W) 62 (argsNd (lLen nd.pre) nd.rest) (viewA 2013 (vNf L nd.arrB (bestC n (.var 520)))) (saidFw L W nd n (.var 520)):=by
  have base:=eval_ok B 60 62 (argsNd (lLen nd.pre) nd.rest) (viewA 2013 (vNf L nd.arrB (bestC n (.var 520))))
  have up:upA 0 (vNf L nd.arrB (bestC n (.var 520)))=true:=rfl
  have fr:CallOk (pNf L K W) 62 (argsNd (lLen nd.pre) nd.rest) (viewA 2013 (vNf L nd.arrB (bestC n (.var 520)))) (runNf L K (resW W (kidsOf L K nd)) nd 2013 (bestC n (.var 520))):=base.frame (n:=2013) (l:=vNf L nd.arrB (bestC n (.var 520))) (by omega) rfl (viewF_ok H.h0 H.hL (.inr rfl) rfl)
    (fun g hg=>⟨g.2,viewA_mem 2013 _ 0 up g hg,.refl _⟩) (by rw [viewA_next]; exact Nat.le_refl _) (nwB 2013)
  have hck:ckFn L K (resW W (kidsOf L K nd)) nd n=true:=by
    have:=ckF_one H hnd
    unfold ckFo at this
    rw [hf,cond_false,Bool.and_eq_true] at this
    exact lAll_at this.2 h1 (by omega)
  refine CallOk.read (p0:=pNf L K W) (p:=pNf L K W) rfl fr fun ρ b hok Q k=>⟨ρ,hok,SameL.refl _ _,⟨rfl,fun j o g=>⟨o,g,SameA.refl o⟩⟩,?_⟩
  obtain ⟨_,hA,_⟩:=hok
  have hA:okNf L K W ρ:=hA
  refine pruneT_holds (knF_ok hA) _ (T.holds_enc (eqTF_eq _ _ hck) ?_)
  refine expF_holds hnd hA.2.2 (fun hno=>?_) (fun hh hb w hw=>?_)
  · intro r he
    have qA:Q (lfFA L nd (bestC n (.var 520)) 2013):=by
      unfold saidFw at k
      cases hs:shorter W nd n with
      | false=>rw [hs] at k; exact k
      | true =>
        rw [hs,cond_true] at k
        rcases hno with hno | hno
        · simp only [T.Holds] at k
          have hn2:(noF nd).den ρ=true:=by
            unfold hasF at hno
            cases hb:(noF nd).den ρ with
            | true=>rfl
            | false=>rw [hb] at hno; cases hno
          rw [if_pos hn2] at k; exact k
        · have hno:shorter W nd n=false:=hno
          rw [hs] at hno; cases hno
    obtain ⟨s1,s2⟩:=oldF_same (p:=pNf L K W) (ρ:=ρ) (nd:=nd) (L:=L) (by rw [he]; exact fun h=>by cases h) (encF_old he)
    exact ⟨_,qA,s1,s2⟩
  · intro r he
    have hb:shorter W nd n=true:=hb
    have qB:Q (lfFB L W nd 2013):=by
      unfold saidFw at k
      rw [hb,cond_true] at k
      simp only [T.Holds] at k
      have hn2:¬ (noF nd).den ρ=true:=fun e=>by unfold hasF at hh; rw [e] at hh; cases hh
      rw [if_neg hn2] at k; exact k
    obtain ⟨s1,s2⟩:=newF_same (p:=pNf L K W) he hw
    exact ⟨_,qB,s1,s2⟩
theorem tryF_nil (B : TabOk (pNf L K W) Sx.Tryd.tt.get (tbNf L nd (kidsOf L K nd) (resW W (kidsOf L K nd)))) :
    CallOk (pNf L K W) 62 (argsNd (lLen nd.pre) nd.rest) (viewA 2012 (vNf L nd.arrB nilC)) (saidFw0 L W nd):=by
  have base:=eval_ok B 60 62 (argsNd (lLen nd.pre) nd.rest) (viewA 2012 (vNf L nd.arrB nilC))
  have up:upA 0 (vNf L nd.arrB nilC)=true:=rfl
  have fr:CallOk (pNf L K W) 62 (argsNd (lLen nd.pre) nd.rest) (viewA 2012 (vNf L nd.arrB nilC)) (runNf L K (resW W (kidsOf L K nd)) nd 2012 nilC):=base.frame (n:=2012) (l:=vNf L nd.arrB nilC) (by omega) rfl (viewF_ok H.h0 H.hL (.inl rfl) rfl)
    (fun g hg=>⟨g.2,viewA_mem 2012 _ 0 up g hg,.refl _⟩) (by rw [viewA_next]; exact Nat.le_refl _) (nwB 2012)
  have hck:ckF0 L K (resW W (kidsOf L K nd)) nd=true:=by
    have:=ckF_one H hnd
    unfold ckFo at this
    rw [Bool.and_eq_true] at this; exact this.1
  refine CallOk.read (p0:=pNf L K W) (p:=pNf L K W) rfl fr fun ρ b hok Q k=>⟨ρ,hok,SameL.refl _ _,⟨rfl,fun j o g=>⟨o,g,SameA.refl o⟩⟩,?_⟩
  obtain ⟨_,hA,_⟩:=hok
  have hA:okNf L K W ρ:=hA
  refine pruneT_holds (knF_ok hA) _ (T.holds_enc (eqTF_eq _ _ hck) ?_)
  unfold saidFw0 at k
  simp only [T.Holds] at k
  refine expF_holds hnd hA.2.2 (fun hno=>?_) (fun hh _ w hw=>?_)
  · intro r he
    have hno:hasF ρ nd=false:=by
      rcases hno with h | h
      · exact h
      · cases h
    have hn2:(noF nd).den ρ=true:=by
      unfold hasF at hno
      cases hb:(noF nd).den ρ with
      | true=>rfl
      | false=>rw [hb] at hno; cases hno
    rw [if_pos hn2] at k
    obtain ⟨s1,s2⟩:=oldF_same (p:=pNf L K W) (ρ:=ρ) (nd:=nd) (L:=L) (by rw [he]; exact fun h=>by cases h) (encF_nil he)
    exact ⟨_,k,s1,s2⟩
  · intro r he
    have hn2:¬ (noF nd).den ρ=true:=fun e=>by unfold hasF at hh; rw [e] at hh; cases hh
    rw [if_neg hn2] at k
    obtain ⟨s1,s2⟩:=newF_same (p:=pNf L K W) he hw
    exact ⟨_,k,s1,s2⟩
end
end Go.Sx
namespace Go.Sx
open Go.RowKit Go.Proofs
set_option maxRecDepth 100000
section
variable {L K:Nat} {W:List (Nat × Nat)} (H:Base0 L K W)
include H
theorem noF_over {ρ:Rho} (g:Nat→Int) {nd:Node} (h:nd ∈ nodeTab L K):(noF nd).den (ρ.over g)=(noF nd).den ρ:=by
  have hid:=(node_ck H.h0 H.hL H.k0 H.k6 h).1
  have e1:(ρ.over g).iv (400 + nd.id)=ρ.iv (400 + nd.id):=over_lt (by omega)
  have e2:(ρ.over g).iv 499=ρ.iv 499:=over_lt (by omega)
  unfold noF limE
  cases Nat.beq nd.rest 0 with
  | true=>rw [cond_true]; simp only [BE.den,IE.den,e1,e2]
  | false=>rw [cond_false]; rfl
theorem hasF_over {ρ:Rho} (g:Nat→Int) {nd:Node} (h:nd ∈ nodeTab L K):hasF (ρ.over g) nd=hasF ρ nd:=by unfold hasF; rw [noF_over H g h]
theorem sF_over {ρ:Rho} (g:Nat→Int) {nd:Node} (h:nd ∈ nodeTab L K):(sF nd).den (ρ.over g)=(sF nd).den ρ:=by
  have hid:=(node_ck H.h0 H.hL H.k0 H.k6 h).1
  unfold sF
  cases Nat.beq nd.rest 0 with
  | true=>rw [cond_true]; exact over_lt (by omega)
  | false=>rw [cond_false]; rfl
omit H in
theorem tripZF_over {ρ:Rho} (g:Nat→Int) (nd:Node):tripZF (ρ.over g) W nd=tripZF ρ W nd:=by
  unfold tripZF tripsFE
  cases Nat.beq nd.rest 0 with
  | true=>rw [cond_true,List.map_map,List.map_map]; rfl
  | false=>rw [cond_false,List.map_map,List.map_map]; rfl
omit H in
theorem winF_mem {ρ:Rho} {l:List Node} {w:Node} (h:winF ρ W l=some w):w ∈ l∧hasF ρ w=true:=by
  unfold winF at h
  cases hf:l.filter (hasF ρ) with
  | nil=>rw [hf] at h; cases h
  | cons a m =>
    rw [hf] at h
    have h:minB (gN W) a m=w:=Option.some.inj h
    have:w ∈ l.filter (hasF ρ):=by
      rw [hf]
      rcases minB_mem (gN W) m a with e | e
      · rw [← h,e]; exact List.mem_cons_self
      · rw [← h]; exact List.mem_cons_of_mem _ e
    exact List.mem_filter.1 this
theorem okNf_over {ρ:Rho} (g:Nat→Int) (h:okNf L K W ρ):okNf L K W (ρ.over g):=by
  obtain ⟨⟨h1,h2⟩,h3,h4⟩:=h
  refine ⟨⟨okBN_over H.hL g h1,okSt_over H.h0 H.hL g h2⟩,ivC_over g _ rfl h3,fun nd hnd hr=>?_⟩
  have k:=h4 nd hnd hr
  have ew:winF (ρ.over g) W (kidsOf L K nd)=winF ρ W (kidsOf L K nd):=by
    unfold winF
    rw [List.filter_congr fun x hx=>hasF_over H g (kids_mem hx)]
  rw [ew]
  cases hw:winF ρ W (kidsOf L K nd) with
  | none=>rw [hw] at k; rw [hasF_over H g hnd]; exact k
  | some w =>
    rw [hw] at k
    obtain ⟨k1,k2,k3,k4⟩:=k
    have hm:=kids_mem (winF_mem hw).1
    exact ⟨by rw [hasF_over H g hnd]; exact k1,k2,by rw [sF_over H g hnd,sF_over H g hm]; exact k3,by rw [tripZF_over,tripZF_over]; exact k4⟩
omit H in
theorem vNf_same {p p' : Par} (hP : p.P = p'.P) (h0 : 1 ≤ L) (hL : L ≤ 6) {ρ ρ' : Rho} (hA : Alike ρ ρ') {P : Program} {RC : Nat → Nat → List Nat → Code → Code → Prop} {ok ok' : Rho → (Nat → Obj → Prop) → Prop} (e1 : p = ⟨P, RC, ok⟩) (e2 : p' = ⟨P, RC, ok'⟩) {arr : List Nat} {best best' : List AV} (hb : SameL ρ best ρ' best') {b : Nat} {o : AObj} (hm : (b, o) ∈ vNf L arr best') :
    ∃ o0,(b,o0) ∈ vNf L arr best∧SameA p p' ρ o0 ρ' o:=by
  rcases vNf_mem hm with hm | ⟨rfl,rfl⟩ | hm
  · have:=lAll_mem (preF_ok h0 hL (.inl rfl)) _ hm
    unfold okH at this
    rw [Bool.and_eq_true] at this
    subst e1; subst e2
    exact ⟨o,List.mem_append_left _ hm,SameA.pl hA this.1⟩
  · exact ⟨_,List.mem_append_right _ List.mem_cons_self,SameA.cells hP hb⟩
  · have:=sufF_ok h0 hL (.inl rfl) hm
    unfold okH at this
    rw [Bool.and_eq_true] at this
    subst e1; subst e2
    exact ⟨o,List.mem_append_right _ (List.mem_cons_of_mem _ hm),SameA.pl hA this.1⟩
theorem tryF_from {nd : Node} (hnd : nd ∈ nodeTab L K) {n : Nat} (s : IE) (hc : CallOk (pNf L K W) 62 (argsNd (lLen nd.pre) nd.rest) (viewA 2013 (vNf L nd.arrB (bestC n (.var 520)))) (saidFw L W nd n (.var 520))) :
    CallOk (pNf L K W) 62 (argsNd (lLen nd.pre) nd.rest) (viewA 2013 (vNf L nd.arrB (bestC n s))) (saidFw L W nd n s):=by
  refine CallOk.read (p0:=pNf L K W) (p:=pNf L K W) rfl hc fun ρ b ⟨mm,k1,k2⟩ Q k=>?_
  let g:Nat→Int:=fun _=>s.den ρ
  have hA:Alike ρ (ρ.over g):=Rho.over_alike ρ g
  have es:(IE.var 520).den (ρ.over g)=s.den ρ:=rfl
  have hb:SameL ρ (bestC n s) (ρ.over g) (bestC n (.var 520)):=SameL.cons (SameV.sliceX _ _ _ _) (SameL.cons (SameV.int es.symm) SameL.nil)
  have leafA:∀ r0:AV × Heap,r0=lfFA L nd (bestC n (.var 520)) 2013→Q (lfFA L nd (bestC n s) 2013)→∃ r,Q r∧SameV (ρ.over g) r0.1 ρ r.1∧SameH (pNf L K W) (pNf L K W) (ρ.over g) r0.2 ρ r.2:=fun r0 he q=>by
    subst he
    refine ⟨_,q,SameV.bool rfl,(viewA_next _ _).trans (viewA_next _ _).symm,fun j o hg=>?_⟩
    obtain ⟨o0,m1,m2⟩:=vNf_same (p:=pNf L K W) (p':=pNf L K W) rfl H.h0 H.hL hA.symm rfl rfl (SameL.symm hb) (viewA_get _ _ _ _ hg)
    exact ⟨o0,viewA_mem 2013 _ 0 rfl _ m1,m2⟩
  refine ⟨ρ.over g,⟨mm,okNf_over H g k1,k2⟩,SameL.pl hA _ rfl,⟨by rw [viewA_next,viewA_next],fun j o hg=>?_⟩,?_⟩
  · obtain ⟨o0,m1,m2⟩:=vNf_same (p:=pNf L K W) (p':=pNf L K W) rfl H.h0 H.hL hA rfl rfl hb (viewA_get _ _ _ _ hg)
    exact ⟨o0,viewA_mem 2013 _ 0 rfl _ m1,m2⟩
  · unfold saidFw at k ⊢
    cases hs:shorter W nd n with
    | false=>rw [hs] at k; exact leafA _ rfl k
    | true =>
      rw [hs,cond_true] at k
      rw [cond_true]
      simp only [T.Holds] at k ⊢
      rw [noF_over H g hnd]
      split
      · rename_i hn
        rw [if_pos hn] at k
        exact leafA _ rfl k
      · rename_i hn
        rw [if_neg hn] at k
        refine ⟨_,k,SameV.bool rfl,(viewA_next _ _).trans (viewA_next _ _).symm,fun j o hg=>?_⟩
        have hm:=viewA_get _ _ _ _ hg
        rcases List.mem_append.1 hm with hm | hm
        · have hb2:SameL (ρ.over g) [.sliceX 2013 1 0 (lenNd W nd),iA (sF nd)] ρ [.sliceX 2013 1 0 (lenNd W nd),iA (sF nd)]:=SameL.cons (SameV.sliceX _ _ _ _) (SameL.cons (SameV.int (sF_over H g hnd)) SameL.nil)
          obtain ⟨o0,m1,m2⟩:=vNf_same (p:=pNf L K W) (p':=pNf L K W) rfl H.h0 H.hL hA.symm rfl rfl hb2 hm
          exact ⟨o0,viewA_mem 2014 _ 0 rfl _ (List.mem_append_left _ m1),m2⟩
        · rw [List.mem_singleton] at hm
          cases hm
          refine ⟨_,viewA_mem 2014 _ 0 rfl (2013,.cells (tripsF nd (lenNd W nd)) 3 true true) (List.mem_append_right _ (List.mem_singleton.2 rfl)),SameA.cells rfl ?_⟩
          rw [tripsF_eq]
          exact same_ints (tripZF_over g nd)
end
theorem lfFB_congr {L:Nat} {W W':List (Nat × Nat)} {nd:Node} (h:lenNd W' nd=lenNd W nd) (b:Nat):lfFB L W' nd b=lfFB L W nd b:=by unfold lfFB; rw [h]
theorem saidFw_congr {L:Nat} {W W':List (Nat × Nat)} {nd:Node} (h:lenNd W' nd=lenNd W nd) (n:Nat) (s:IE):saidFw L W' nd n s=saidFw L W nd n s:=by unfold saidFw; rw [shorter_congr h,lfFB_congr h]
theorem saidFw0_congr {L:Nat} {W W':List (Nat × Nat)} {nd:Node} (h:lenNd W' nd=lenNd W nd):saidFw0 L W' nd=saidFw0 L W nd:=by unfold saidFw0; rw [lfFB_congr h]
theorem orcTryF_ok {L K:Nat} {W W':List (Nat × Nat)} (H:Base0 L K W) {ks:List Node} (hks:∀ k ∈ ks,TryF L K W k) (hW:∀ k ∈ ks,lenNd W' k=lenNd W k) {args:List AV} {h:Heap} {t:T (AV × Heap)} (e:orcTryF L ks W' args h=some t):CallOk (pNf L K W) 62 args h t:=by
  unfold orcTryF at e
  split at e
  · split at e
    · rename_i nd hnd
      have hm:=(findN_some hnd).1
      have S:=hks nd hm
      have hl:=hW nd hm
      split at e
      · rw [saidFw0_congr hl] at e
        exact smallO_ok S.nil (by omega) rfl (viewF_ok H.h0 H.hL (.inl rfl) rfl) e
      · rename_i d _ _ n _ s _ _ _ _
        obtain ⟨h1,e⟩:=cond_some e
        rw [Bool.and_eq_true,Bool.and_eq_true] at h1
        have hf:frst nd=false:=by
          cases hf:frst nd with
          | false=>rfl
          | true=>rw [hf] at h1; cases h1.1
        rw [saidFw_congr hl] at e
        have hc:=S.old hf n s (ble_t.1 h1.2.1) (ble_t.1 h1.2.2)
        cases hd:Nat.beq d 2012 with
        | true =>
          rw [hd,cond_true] at e
          exact smallO_ok hc (by omega) rfl (viewF_ok H.h0 H.hL (.inr rfl) rfl) e
        | false =>
          rw [hd,cond_false] at e
          exact aliasO_ok hc (by omega) (by omega) rfl (viewF_ok H.h0 H.hL (.inr rfl) rfl) e
      · cases e
    · cases e
  · cases e
theorem orcSuF_ok {L K:Nat} {W:List (Nat × Nat)} (H:Base0 L K W) {nd:Node} (hnd:nd ∈ nodeTab L K) {args:List AV} {h:Heap} {t:T (AV × Heap)} (e:orcSu L nd args h=some t):CallOk (pNf L K W) 34 args h t:=by
  unfold orcSu at e
  obtain ⟨hr,e⟩:=cond_some e
  exact smallO_ok (CallOk.weak (ok0:=fun ρ _=>okSB L ρ) (fun ρ m k=>k.1) (surely_said H.h0 H.hL (ckSu_all H.h0 H.hL H.k0 H.hK H.k6 hnd (beq_t.1 hr)))) (by omega) rfl (viewSu_ok H.h0 H.hL nd.arrB) e
theorem tabsNf {L K:Nat} {W W':List (Nat × Nat)} (H:Base0 L K W) {nd:Node} (hnd:nd ∈ nodeTab L K) {ks:List Node} (hks:∀ k ∈ ks,TryF L K W k) (hW:∀ k ∈ ks,lenNd W' k=lenNd W k):TabOk (pNf L K W) Sx.Tryd.tt.get (tbNf L nd ks W'):=by
  refine Tryd.tab (orcNf L nd ks W') (fun f args h t e=>?_) 2000
  unfold orcNf at e
  cases h1:Nat.beq f 34 with
  | true=>rw [h1,cond_true] at e; rw [beq_t.1 h1]; exact orcSuF_ok H hnd e
  | false =>
    rw [h1,cond_false] at e
    obtain ⟨h2,e⟩:=cond_some e
    rw [beq_t.1 h2]
    exact orcTryF_ok H hks hW e
theorem tryF_said {L K:Nat} {W:List (Nat × Nat)} (H:Base0 L K W):∀ (r:Nat) (nd:Node),nd.rest=r→nd ∈ nodeTab L K→TryF L K W nd:=by
  intro r
  induction r using Nat.strongRecOn with
  | ind r ih =>
    intro nd hr hnd
    have hk:=(node_ck H.h0 H.hL H.k0 H.k6 hnd).2
    have B:=tabsNf (W':=resW W (kidsOf L K nd)) H hnd (ks:=kidsOf L K nd) (fun k hkk=>ih k.rest (by have:=hk k hkk; omega) k rfl (kids_mem hkk)) lenNd_res
    exact ⟨tryF_nil H hnd B,fun hf n s h1 hn=>tryF_from H hnd s (tryF_old H hnd hf h1 hn B)⟩
end Go.Sx
namespace Go.Sx
open Go.RowKit Go.Proofs
set_option maxRecDepth 100000
noncomputable def argsCf (L:Nat):List AV:=[.agg (kCells L),.agg chF]
noncomputable def chOF (L K w:Nat):AObj:=.cells (tripsF (rootOf L K) w) 3 true true
noncomputable def noneVc:AV:=.tup [.nilslice,ln 4]
noncomputable def fewT (L K w b:Nat) (l:List (Nat × AObj)):T (AV × Heap):=.br (noF (rootOf L K)) (.ret (noneVc,viewA b l)) (.ret (chV b w,viewA (b + 1) (l ++ [(b,chOF L K w)])))
noncomputable def encC (b:Nat) (l:List (Nat × AObj)) (q:AV × Heap):AV:=cond (allO q.2 l) (match q.1 with
  | .tup [.sliceX d 1 0 n,e]=>cond (Nat.beq d b) (match q.2.get b with
    | some (.cells cs 3 true true)=>.tup [ln n,e,.agg cs,ln q.2.next]
    | _=>.bad) .bad
  | .tup [.nilslice,e]=>.tup [e,ln q.2.next]
  | _=>.bad) .bad
noncomputable def expC (L K w b:Nat):T AV:=.br (noF (rootOf L K)) (.ret (.tup [ln 4,ln b])) (.ret (.tup [ln w,ln 0,.agg (tripsF (rootOf L K) w),ln (b + 1)]))
noncomputable def orcCf (L K:Nat) (W:List (Nat × Nat)) (f:FuncId) (args:List AV) (h:Heap):Option (T (AV × Heap)):=cond (Nat.beq f 62) (orcTryF L [rootOf L K] W args h) none
noncomputable def tbCf (L K:Nat) (W:List (Nat × Nat)):Tabs:=⟨Sx.Tryd.ft.get,lFind Sx.Tryd.rt,2000,orcCf L K W⟩
noncomputable def runCf (L K:Nat) (W:List (Nat × Nat)):T (AV × Heap):=(evalN (tbCf L K W) 100 false 19 (argsCf L) (viewA 2003 (vKC L))).bind fun r=>graftT 2003 (vKC L) (viewA 2003 (vKC L)) (nwCh r) r
noncomputable def ckCf (L K w:Nat):Bool:=eqTF ((runCf L K [(32,w)]).bind fun q=>.ret (encC 2003 (vKC L) q)) (expC L K w 2003)
noncomputable def argsFe (L:Nat):List AV:=[bookF L,iA limE]
noncomputable def runKs (L:Nat):T (AV × Heap):=(evalN (tbS L) 100 false 36 (argsFe L) (viewA 2000 (vR L))).bind fun r=>graftT 2000 (vR L) (viewA 2000 (vR L)) (nwKR r) r
noncomputable def endKs (L:Nat) (_:Kn) (q:AV × Heap):Bool:=and (eqAV q.1 (knowVR L)) (and (isO (q.2.get 2001) (.umap (mR false))) (and (isO (q.2.get 2000) (ordB L)) (and (allO q.2 (vR L)) (Nat.beq q.2.next 2002))))
noncomputable def limQ:List (Nat × Int × Int):=[(499,0,99999)]
noncomputable def ckKs (L:Nat):Bool:=allW [] (endKs L) (runKs L) (knOf limQ [])
noncomputable def orcFe (L K w:Nat) (f:FuncId) (args:List AV) (h:Heap):Option (T (AV × Heap)) :=
  cond (Nat.beq f 36) (smallO 2000 (argsFe L) (vR L) (.ret (knowVR L,viewA 2002 (vKR L false))) (fun _=>[2000,2001]) args h)
  (cond (Nat.beq f 19) (smallO 2003 (argsCf L) (vKC L) (fewT L K w 2003 (vKC L)) nwCh args h) none)
noncomputable def tbFe (L K w:Nat):Tabs:=⟨Sx.Tryd.ft.get,lFind Sx.Tryd.rt,2000,orcFe L K w⟩
noncomputable def runFe (L K w:Nat):T (AV × Heap):=(evalN (tbFe L K w) 100 false 15 (argsFe L) (viewA 2000 (vR L))).bind fun r=>graftT 2000 (vR L) (viewA 2000 (vR L)) (nwCh r) r
noncomputable def ckFe (L K w:Nat):Bool:=eqTF ((runFe L K w).bind fun q=>.ret (encC 2000 (vR L) q)) (expC L K w 2000)
noncomputable def ckXf (L:Nat):Bool:=and (ckKs L) (lAll (fun K=>lAll (fun w=>and (ckCf L K w) (ckFe L K w)) (upN L 1)) (upN (cond (Nat.beq L 6) 6 (L + 1)) 1))
theorem ckXf1:ckXf 1=true:=by kernel_rfl
theorem ckXf2:ckXf 2=true:=by kernel_rfl
theorem ckXf3:ckXf 3=true:=by kernel_rfl
theorem ckXf4:ckXf 4=true:=by kernel_rfl
theorem ckXf5:ckXf 5=true:=by kernel_rfl
theorem ckXf6:ckXf 6=true:=by kernel_rfl
end Go.Sx
namespace Go.Sx
open Go.RowKit Go.Proofs
set_option maxRecDepth 100000
theorem ckXf_all {L K w:Nat} (h0:1≤L) (hL:L≤6) (k0:1≤K) (hK:K≤L + 1) (k6:K≤6) (w0:1≤w) (hw:w≤L):ckKs L=true∧ckCf L K w=true∧ckFe L K w=true:=by
  have h:ckXf L=true:=by
    rcases six h0 hL with rfl | rfl | rfl | rfl | rfl | rfl
    · exact ckXf1
    · exact ckXf2
    · exact ckXf3
    · exact ckXf4
    · exact ckXf5
    · exact ckXf6
  unfold ckXf at h
  rw [Bool.and_eq_true] at h
  have hk:K < 1 + cond (Nat.beq L 6) 6 (L + 1):=by
    cases h6:Nat.beq L 6 with
    | true=>rw [cond_true]; omega
    | false=>rw [cond_false]; omega
  have hw':=lAll_at (lAll_at h.2 k0 hk) w0 (by omega:w < 1 + L)
  rw [Bool.and_eq_true] at hw'
  exact ⟨h.1,hw'.1,hw'.2⟩
theorem encC_all {b:Nat} {l:List (Nat × AObj)} {q:AV × Heap} (h:encC b l q ≠ .bad):allO q.2 l=true:=by
  unfold encC at h
  cases hc:allO q.2 l with
  | true=>rfl
  | false=>rw [hc] at h; exact absurd rfl h
theorem encC_some {b n x:Nat} {l:List (Nat × AObj)} {e:AV} {cs:List AV} {q:AV × Heap} (h:encC b l q=.tup [ln n,e,.agg cs,ln x]):q.1=.tup [.sliceX b 1 0 n,e]∧q.2.get b=some (.cells cs 3 true true)∧q.2.next=x:=by
  have hc:=encC_all (b:=b) (l:=l) (q:=q) (by rw [h]; exact fun k=>by cases k)
  unfold encC at h
  rw [hc,cond_true] at h
  split at h
  · rename_i d n' e' hq
    cases hd:Nat.beq d b with
    | false=>rw [hd] at h; cases h
    | true =>
      rw [hd,cond_true] at h
      have hd:=beq_t.1 hd
      subst hd
      split at h
      · rename_i cs' hg
        simp only [AV.tup.injEq,List.cons.injEq,and_true] at h
        obtain ⟨h1,h2,h3,h4⟩:=h
        have h1:=ln_inj h1
        have h4:=ln_inj h4
        simp only [AV.agg.injEq] at h3
        subst h1; subst h2; subst h3; subst h4
        exact ⟨hq,hg,rfl⟩
      · cases h
  · simp only [AV.tup.injEq,List.cons.injEq] at h
    cases h.2.2
  · cases h
theorem encC_none {b x:Nat} {l:List (Nat × AObj)} {e:AV} {q:AV × Heap} (h:encC b l q=.tup [e,ln x]):q.1=.tup [.nilslice,e]∧q.2.next=x:=by
  have hc:=encC_all (b:=b) (l:=l) (q:=q) (by rw [h]; exact fun k=>by cases k)
  unfold encC at h
  rw [hc,cond_true] at h
  split at h
  · rename_i d n' e' hq
    cases hd:Nat.beq d b with
    | false=>rw [hd] at h; cases h
    | true =>
      rw [hd,cond_true] at h
      split at h
      · simp only [AV.tup.injEq,List.cons.injEq] at h
        cases h.2.2
      · cases h
  · rename_i e' hq
    simp only [AV.tup.injEq,List.cons.injEq,and_true] at h
    obtain ⟨h1,h2⟩:=h
    have h2:=ln_inj h2
    subst h1; subst h2
    exact ⟨hq,rfl⟩
  · cases h
theorem fewT_holds {p : Par} {L K w b : Nat} {l : List (Nat × AObj)} {run : T (AV × Heap)} (hck : eqTF (run.bind fun q => .ret (encC b l q)) (expC L K w b) = true) {ρ : Rho} {Q : AV × Heap → Prop} (k : (fewT L K w b l).Holds ρ Q) :
    run.Holds ρ fun r0=>∃ r,Q r∧SameV ρ r0.1 ρ r.1∧SameH p p ρ r0.2 ρ r.2:=by
  refine T.holds_enc (eqTF_eq _ _ hck) ?_
  unfold fewT at k
  unfold expC
  simp only [T.Holds] at k ⊢
  split
  · rename_i hn
    rw [if_pos hn] at k
    intro r he
    have hall:=encC_all (by rw [he]; exact fun h=>by cases h)
    obtain ⟨q1,q2⟩:=encC_none he
    exact ⟨_,k,by rw [q1]; exact SameV.refl _ _,q2.trans (viewA_next _ _).symm,fun j o g=>⟨o,allO_get hall (viewA_get _ _ _ _ g),SameA.refl o⟩⟩
  · rename_i hn
    rw [if_neg hn] at k
    intro r he
    have hall:=encC_all (by rw [he]; exact fun h=>by cases h)
    obtain ⟨q1,q2,q3⟩:=encC_some he
    refine ⟨_,k,by rw [q1]; exact SameV.refl _ _,q3.trans (viewA_next _ _).symm,fun j o g=>?_⟩
    rcases List.mem_append.1 (viewA_get _ _ _ _ g) with hm | hm
    · exact ⟨o,allO_get hall hm,SameA.refl o⟩
    · rw [List.mem_singleton] at hm
      cases hm
      exact ⟨_,q2,SameA.refl _⟩
section
variable {L K:Nat} {W:List (Nat × Nat)} (H:Base0 L K W)
include H
theorem tabsCf:TabOk (pNf L K W) Sx.Tryd.tt.get (tbCf L K [(32,lenN W 32)]):=by
  obtain ⟨w0,hw⟩:=root_w H
  obtain ⟨_,r1,r2,_⟩:=ckX_all H.h0 H.hL H.k0 H.hK H.k6 w0 hw
  have hm:=root_mem H.h0 r2
  refine Tryd.tab (orcCf L K [(32,lenN W 32)]) (fun f args h t e=>?_) 2000
  unfold orcCf at e
  obtain ⟨h1,e⟩:=cond_some e
  rw [beq_t.1 h1]
  refine orcTryF_ok H (fun k hk=>?_) (fun k hk=>?_) e
  · rw [List.mem_singleton] at hk; subst hk
    exact tryF_said H _ _ rfl hm
  · rw [List.mem_singleton] at hk; subst hk
    unfold lenNd
    cases Nat.beq (rootOf L K).rest 0 with
    | true=>rfl
    | false=>rw [cond_false,cond_false,r1]; rfl
theorem chooseF_said:CallOk (pNf L K W) 19 (argsCf L) (viewA 2003 (vKC L)) (fewT L K (lenN W 32) 2003 (vKC L)):=by
  obtain ⟨w0,hw⟩:=root_w H
  obtain ⟨hv,_⟩:=ckX_all H.h0 H.hL H.k0 H.hK H.k6 w0 hw
  obtain ⟨_,hck,_⟩:=ckXf_all H.h0 H.hL H.k0 H.hK H.k6 w0 hw
  have base:=eval_ok (tabsCf H) 100 19 (argsCf L) (viewA 2003 (vKC L))
  have up:upA 0 (vKC L)=true:=rfl
  have fr:CallOk (pNf L K W) 19 (argsCf L) (viewA 2003 (vKC L)) (runCf L K [(32,lenN W 32)]):=base.frame (n:=2003) (l:=vKC L) (by omega) rfl hv
    (fun g hg=>⟨g.2,viewA_mem 2003 _ 0 up g hg,.refl _⟩) (by rw [viewA_next]; exact Nat.le_refl _) nwCh
  exact CallOk.read (p0:=pNf L K W) (p:=pNf L K W) rfl fr fun ρ b hok Q k=>⟨ρ,hok,SameL.refl _ _,⟨rfl,fun j o g=>⟨o,g,SameA.refl o⟩⟩,fewT_holds hck k⟩
omit H in
theorem knowStart_said (h0:1≤L) (hL:L≤6) {ok:Rho→(Nat→Obj→Prop)→Prop} (hok:∀ ρ m,ok ρ m→okB L ρ∧0≤ρ.iv 499∧ρ.iv 499≤99999):CallOk (pOk ok) 36 (argsFe L) (viewA 2000 (vR L)) (.ret (knowVR L,viewA 2002 (vKR L false))):=by
  have hck:=(ckXf_all (K:=1) (w:=1) h0 hL (Nat.le_refl _) (by omega) (by omega) (Nat.le_refl _) h0).1
  have base:=eval_ok (tabsS h0 hL) 100 36 (argsFe L) (viewA 2000 (vR L))
  have up:upA 0 (vR L)=true:=rfl
  have fr:CallOk (pB L) 36 (argsFe L) (viewA 2000 (vR L)) (runKs L):=base.frame (n:=2000) (l:=vR L) (by omega) rfl (viewR_ok h0 hL)
    (fun g hg=>⟨g.2,viewA_mem 2000 _ 0 up g hg,.refl _⟩) (by rw [viewA_next]; exact Nat.le_refl _) nwKR
  refine CallOk.read (p0:=pOk ok) (p:=pOk ok) rfl (CallOk.weak (ok0:=fun ρ _=>okB L ρ) (fun ρ m k=>(hok ρ m k).1) fr) fun ρ b hok' Q k=>⟨ρ,hok',SameL.refl _ _,⟨rfl,fun j o g=>⟨o,g,SameA.refl o⟩⟩,?_⟩
  obtain ⟨_,hA,_⟩:=hok'
  obtain ⟨_,l1,l2⟩:=hok _ _ hA
  have k:Q (knowVR L,viewA 2002 (vKR L false)):=k
  have hkn:KnOk ρ (knOf limQ []):=knOf_ok (fun c hc=>by
    simp only [limQ,ivC,List.mem_cons,List.not_mem_nil,or_false] at hc
    rcases hc with rfl | rfl
    · rw [BE.t_leq]; exact l1
    · rw [BE.t_leq]; exact l2) (fun c hc=>by cases hc)
  refine allW_ok (rules_nil ρ) (fun K q _ hq=>?_) (runKs L) _ hkn hck
  unfold endKs at hq
  simp only [Bool.and_eq_true] at hq
  obtain ⟨q1,q2,q3,q4,q5⟩:=hq
  refine ⟨_,k,by rw [eqAV_eq _ _ q1]; exact SameV.refl _ _,(beq_t.1 q5).trans (viewA_next _ _).symm,fun j o g=>?_⟩
  have hm:=viewA_get _ _ _ _ g
  unfold vKR at hm
  rcases List.mem_append.1 hm with hm | hm
  · exact ⟨o,allO_get q4 hm,SameA.refl o⟩
  · simp only [List.mem_cons,List.not_mem_nil,or_false] at hm
    rcases hm with h | h
    · cases h; exact ⟨_,isO_eq q3,SameA.refl _⟩
    · cases h; exact ⟨_,isO_eq q2,SameA.refl _⟩
theorem few_said:CallOk (pOk fun ρ _=>okNf L K W ρ∧0≤ρ.iv 499∧ρ.iv 499≤99999) 15 (argsFe L) (viewA 2000 (vR L)) (fewT L K (lenN W 32) 2000 (vR L)):=by
  obtain ⟨w0,hw⟩:=root_w H
  obtain ⟨hv,_⟩:=ckX_all H.h0 H.hL H.k0 H.hK H.k6 w0 hw
  obtain ⟨_,_,hck⟩:=ckXf_all H.h0 H.hL H.k0 H.hK H.k6 w0 hw
  have tabs:TabOk (pOk fun ρ _=>okNf L K W ρ∧0≤ρ.iv 499∧ρ.iv 499≤99999) Sx.Tryd.tt.get (tbFe L K (lenN W 32)):=by
    refine Tryd.tab (orcFe L K (lenN W 32)) (fun f args h t e=>?_) 2000
    unfold orcFe at e
    cases h1:Nat.beq f 36 with
    | true =>
      rw [h1,cond_true] at e
      rw [beq_t.1 h1]
      exact smallO_ok (knowStart_said H.h0 H.hL fun ρ m k=>⟨k.1.1.1.1,k.2⟩) (by omega) rfl (viewR_ok H.h0 H.hL) e
    | false =>
      rw [h1,cond_false] at e
      obtain ⟨h2,e⟩:=cond_some e
      rw [beq_t.1 h2]
      exact smallO_ok (CallOk.weak (ok0:=fun ρ _=>okNf L K W ρ) (fun ρ m k=>k.1) (chooseF_said H)) (by omega) rfl hv e
  have base:=eval_ok tabs 100 15 (argsFe L) (viewA 2000 (vR L))
  have up:upA 0 (vR L)=true:=rfl
  have fr:CallOk (pOk fun ρ _=>okNf L K W ρ∧0≤ρ.iv 499∧ρ.iv 499≤99999) 15 (argsFe L) (viewA 2000 (vR L)) (runFe L K (lenN W 32)):=base.frame (n:=2000) (l:=vR L) (by omega) rfl (viewR_ok H.h0 H.hL)
    (fun g hg=>⟨g.2,viewA_mem 2000 _ 0 up g hg,.refl _⟩) (by rw [viewA_next]; exact Nat.le_refl _) nwCh
  exact CallOk.read rfl fr fun ρ b hok Q k=>⟨ρ,hok,SameL.refl _ _,⟨rfl,fun j o g=>⟨o,g,SameA.refl o⟩⟩,fewT_holds hck k⟩
end
end Go.Sx
