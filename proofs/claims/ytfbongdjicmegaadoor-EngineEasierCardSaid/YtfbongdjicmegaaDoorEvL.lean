/- THE SEARCH of any evening,from its beginning. -/
import Derived.Test.YtfbongdjicmegaaDoorEsA
import Derived.Test.YtfbongdjicmegaaDoorEnT
import Derived.Test.YtfbongdjicmegaaDoorEnKt20
import Derived.Test.YtfbongdjicmegaaDoorEnKt30
import Derived.Test.YtfbongdjicmegaaDoorEnKt32
import Derived.Test.YtfbongdjicmegaaDoorEnKt41
import Derived.Test.YtfbongdjicmegaaDoorEnKt43
import Derived.Test.YtfbongdjicmegaaDoorEnKt51
import Derived.Test.YtfbongdjicmegaaDoorEnKt53
import Derived.Test.YtfbongdjicmegaaDoorEnKf10
import Derived.Test.YtfbongdjicmegaaDoorEnKf21
import Derived.Test.YtfbongdjicmegaaDoorEnKf31
import Derived.Test.YtfbongdjicmegaaDoorEnKf40
import Derived.Test.YtfbongdjicmegaaDoorEnKf42
import Derived.Test.YtfbongdjicmegaaDoorEnKf50
import Derived.Test.YtfbongdjicmegaaDoorEnKf52
import Derived.Test.YtfbongdjicmegaaDoorEnKf54
/-! THE SEARCH of any evening,from its beginning. -/
namespace Go.Sx
open Go.RowKit Go.Proofs
set_option maxRecDepth 100000
theorem ckN_f0:ckN false 0=true:=by kernel_rfl
theorem ckA_all {q:Bool} {m i:Nat} (h:ckAll q m i=true):ckS q m i=true∧∀ W,W≤5→ckW q m i W=true:=by
  unfold ckAll at h
  simp only [Bool.and_eq_true] at h
  exact ⟨h.1,fun W hW=>lAll_mem h.2 W (by simp only [List.mem_cons,List.not_mem_nil,or_false]; omega)⟩
theorem ckO_at {m:Nat} (h:m≤5):ckO true m=true∧ckO false m=true∧ckP true m=true∧ckP false m=true:=by
  have:=lAll_mem ckO_all m (by simp only [List.mem_cons,List.not_mem_nil,or_false]; omega)
  simpa only [Bool.and_eq_true] using this
theorem look_of {q:Bool} {m:Nat} (hm:m≤5) (hN:ckN q m=true) (h:∀ i,i < m→ckAll q m i=true):LookAt q m 0 :=
  look_all hm hN (fun i hi=>(ckA_all (h i hi)).1) (fun i hi=>(ckA_all (h i hi)).2) m 0 (Nat.zero_add m)
theorem look_t1:LookAt true 1 0:=look_of (by omega) ckN_t1 fun i hi=>by
  match i,hi with
  | 0,_=>exact ckA_t10
theorem look_t2:LookAt true 2 0:=look_of (by omega) ckN_t2 fun i hi=>by
  match i,hi with
  | 0,_=>exact ckA_t20
  | 1,_=>exact ckA_t21
theorem look_t3:LookAt true 3 0:=look_of (by omega) ckN_t3 fun i hi=>by
  match i,hi with
  | 0,_=>exact ckA_t30
  | 1,_=>exact ckA_t31
  | 2,_=>exact ckA_t32
theorem look_t4:LookAt true 4 0:=look_of (by omega) ckN_t4 fun i hi=>by
  match i,hi with
  | 0,_=>exact ckA_t40
  | 1,_=>exact ckA_t41
  | 2,_=>exact ckA_t42
  | 3,_=>exact ckA_t43
theorem look_t5:LookAt true 5 0:=look_of (by omega) ckN_t5 fun i hi=>by
  match i,hi with
  | 0,_=>exact ckA_t50
  | 1,_=>exact ckA_t51
  | 2,_=>exact ckA_t52
  | 3,_=>exact ckA_t53
  | 4,_=>exact ckA_t54
theorem look_f1:LookAt false 1 0:=look_of (by omega) ckN_f1 fun i hi=>by
  match i,hi with
  | 0,_=>exact ckA_f10
theorem look_f2:LookAt false 2 0:=look_of (by omega) ckN_f2 fun i hi=>by
  match i,hi with
  | 0,_=>exact ckA_f20
  | 1,_=>exact ckA_f21
theorem look_f3:LookAt false 3 0:=look_of (by omega) ckN_f3 fun i hi=>by
  match i,hi with
  | 0,_=>exact ckA_f30
  | 1,_=>exact ckA_f31
  | 2,_=>exact ckA_f32
theorem look_f4:LookAt false 4 0:=look_of (by omega) ckN_f4 fun i hi=>by
  match i,hi with
  | 0,_=>exact ckA_f40
  | 1,_=>exact ckA_f41
  | 2,_=>exact ckA_f42
  | 3,_=>exact ckA_f43
theorem look_f5:LookAt false 5 0:=look_of (by omega) ckN_f5 fun i hi=>by
  match i,hi with
  | 0,_=>exact ckA_f50
  | 1,_=>exact ckA_f51
  | 2,_=>exact ckA_f52
  | 3,_=>exact ckA_f53
  | 4,_=>exact ckA_f54
theorem look_f0:LookAt false 0 0:=look_of (by omega) ckN_f0 fun i hi=>absurd hi (by omega)
theorem looks_t:∀ n,1≤n→n≤5→Looks true n:=fun n h1 h5=>⟨by
  match n,h1,h5 with
  | 1,_,_=>exact look_t1
  | 2,_,_=>exact look_t2
  | 3,_,_=>exact look_t3
  | 4,_,_=>exact look_t4
  | 5,_,_=>exact look_t5,(ckO_at h5).1,(ckO_at h5).2.2.1⟩
theorem looks_f:∀ n,n≤5→Looks false n:=fun n h5=>⟨by
  match n,h5 with
  | 0,_=>exact look_f0
  | 1,_=>exact look_f1
  | 2,_=>exact look_f2
  | 3,_=>exact look_f3
  | 4,_=>exact look_f4
  | 5,_=>exact look_f5,(ckO_at h5).2.1,(ckO_at h5).2.2.2⟩
end Go.Sx
