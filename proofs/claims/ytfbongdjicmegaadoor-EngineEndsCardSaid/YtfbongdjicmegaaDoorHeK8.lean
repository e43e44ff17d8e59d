/- HeK8 -/
import Derived.Test.YtfbongdjicmegaaDoorHeM
import Derived.Test.YtfbongdjicmegaaDoorHeK8b
namespace Go.Sx
open Go.RowKit Go.Proofs
set_option maxRecDepth 100000
theorem lAll_of {α:Type} {p:α→Bool}:∀ {l:List α},(∀ a ∈ l,p a=true)→bz p l=true
  | [],_=>rfl
  | a :: l,h=>by
    show cond (p a) (bz p l) false=true
    rw [h a List.mem_cons_self,cond_true]
    exact lAll_of fun b hb=>h b (List.mem_cons_of_mem _ hb)
theorem lawE_8a:bz lawEq [(2,0,1),(2,2,2),(3,0,0),(4,0,4)]=true:=by kernel_rfl
theorem lawE_8:bz lawEq tE8=true:=lAll_of fun x hx=>by
  simp only [tE8,List.mem_cons,List.not_mem_nil,or_false] at hx
  rcases hx with h | h | h | h | h | h | h
  · exact av lawE_8a x (by simp [h])
  · exact av lawE_8a x (by simp [h])
  · exact av lawE_8a x (by simp [h])
  · exact av lawE_8a x (by simp [h])
  · exact av lawE_8b x (by simp [h])
  · exact av lawE_8b x (by simp [h])
  · exact av lawE_8b x (by simp [h])
end Go.Sx
