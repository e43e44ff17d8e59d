/- THE LAW OF THE FEWEST WALKS,called with whatever can be read. -/
import Derived.Test.YtpkonfmonoaajaaDoorEvH
import Derived.Test.YtpkonfmonoaajaaDoorFwD
import Derived.Test.YtpkonfmonoaajaaDoorFwK
import Derived.Test.YtpkonfmonoaajaaDoorFwK5
/-! THE LAW OF THE FEWEST WALKS,called with whatever can be read. -/
namespace Go.Sx
open Go.RowKit Go.Proofs
set_option maxRecDepth 100000
noncomputable def xsFw:List AV:=[.sliceU 96,.agg [vi 88,vi 87]]
theorem lawI_fw:lAll (lawIg 6 xsFw) [1,2,3,4,5]=true:=by kernel_rfl
theorem lawU_fw:lAll (lawUg 6 xsFw) [true,false]=true:=by kernel_rfl
theorem lawFw_all {L:Nat} (hL:L ∈ [1,2,3,4,5]):lawFws L=true:=by
  simp only [List.mem_cons,List.not_mem_nil,or_false] at hL
  rcases hL with rfl | rfl | rfl | rfl | rfl
  · exact lawFw1
  · exact lawFw2
  · exact lawFw3
  · exact lawFw4
  · exact lawFw5
theorem lawFw_at {L i oc:Nat} {fd fl:Bool} (hL:L ∈ [1,2,3,4,5]) (h0:fd=false→i=0∧fl=false∧oc < L) (h1:fd=true→i < L∧oc < L + 2):lawFw L fd i oc fl=true:=by
  have h:=lawFw_all hL
  unfold lawFws at h
  simp only [Bool.and_eq_true] at h
  cases fd
  · obtain ⟨rfl,rfl,ho⟩:=h0 rfl
    exact lAll_mem h.1 oc (cntD_mem ho)
  · obtain ⟨hi,ho⟩:=h1 rfl
    have:=lAll_mem (lAll_mem h.2 i (cntD_mem hi)) oc (cntD_mem ho)
    simp only [Bool.and_eq_true] at this
    cases fl
    · exact this.2
    · exact this.1
theorem fewest_valid (HT:∀ n,1≤n→n≤5→Looks true n) (W:World):∀ L ∈ [1,2,3,4,5],LawL 6 xsFw L W:=fun L hL ρ hcs hpk=>by
  have hL':=hL
  simp only [List.mem_cons,List.not_mem_nil,or_false] at hL'
  obtain ⟨fd,i,oc,fl,ρ',q0,q1,hok,A,Ab,Ao⟩:=okFw_of (by omega) (by omega) hcs hpk
  refine ⟨ρ',A,Ab,Ao,fun E vs he hv hf hg hn ha=>?_⟩
  have B:TabOk (pLaw fun ρ m=>OkFw L fd i oc fl ρ m) Sx.Tryd.tt.get (tbFw L fd i oc fl):=Tryd.tab (orcFw L fd i oc fl) (orcFw_ok (by omega) (by omega) (HT L (by omega) (by omega))) 2000
  exact law_true (p:=pLaw fun ρ m=>OkFw L fd i oc fl ρ m) B hv hf hg hn ha (knOf_ok (q:=qFw L fd) (he ▸ hok.q) (he ▸ hok.fc)) (lawFw_at hL q0 q1) ⟨(Base.of W).has,by rw [he]; exact hok,fun _ _ h=>h⟩
theorem fewest_any (HT : ∀ n, 1 ≤ n → n ≤ 5 → Looks true n) {W : World} {ρ0 : Rho} (hG : ∀ g ∈ gl, GlobIn W ρ0 g) {nb : Nat → Int} {s : Value} {n0 n1 : Int} {bb : Option Addr} {bl bc : Nat} {y : Nat → Int} (hs : PartsIn W s)
    (hbl:(bl:Int)≤9223372036854775807) (hbc:bl≤bc) (hb:0 < bl→∃ c x cells el fz,bb=some ⟨c,x,none⟩∧W.heap[c]?=some (.cells cells el fz)∧∀ q,q < bl→cells[x + q]?=some (.int .i64 (y q))) :
    Calls Tryd.prog 6 #[.agg ((List.range 22).map (fun i=>Value.int .i64 (nb i)) ++ [s]).toArray,.slice bb bl bc,.agg #[.int .i64 n0,.int .i64 n1]] W fun e W'=>e=.returned (.bool true)∧Below W.heap.size W W' :=
  any_ofL (f:=6) (xs:=xsFw) (vr:=[.slice bb bl bc,.agg #[.int .i64 n0,.int .i64 n1]]) (nu:=fun j=>if j=88 then n0 else n1) (fun L hL=>lAll_mem lawI_fw L hL) (fun many=>lAll_mem lawU_fw many (by cases many <;> simp))
    (fun E h h96 ho=>by
      have h8:=h 88 (by omega) (by omega)
      have h7:=h 87 (by omega) (by omega)
      simp only [if_true,show ¬ (87:Nat)=88 by omega,if_false] at h8 h7
      simp only [xsFw,vi,concL,conc,IE.den,h8,h7,h96,ho,if_true]
      rfl) (fewest_valid HT W) hbl hbc hb hG hs
end Go.Sx
