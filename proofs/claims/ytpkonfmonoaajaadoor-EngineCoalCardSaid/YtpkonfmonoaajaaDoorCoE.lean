/- THE LAW OF THE COAL,called with whatever can be read. -/
import Derived.Test.YtpkonfmonoaajaaDoorCoD
import Derived.Test.YtpkonfmonoaajaaDoorCoK10
import Derived.Test.YtpkonfmonoaajaaDoorCoK11
import Derived.Test.YtpkonfmonoaajaaDoorCoK12
import Derived.Test.YtpkonfmonoaajaaDoorCoK20
import Derived.Test.YtpkonfmonoaajaaDoorCoK21
import Derived.Test.YtpkonfmonoaajaaDoorCoK22
import Derived.Test.YtpkonfmonoaajaaDoorCoK30
import Derived.Test.YtpkonfmonoaajaaDoorCoK31
import Derived.Test.YtpkonfmonoaajaaDoorCoK32
import Derived.Test.YtpkonfmonoaajaaDoorCoK40
import Derived.Test.YtpkonfmonoaajaaDoorCoK41
import Derived.Test.YtpkonfmonoaajaaDoorCoK42
import Derived.Test.YtpkonfmonoaajaaDoorCoK50
import Derived.Test.YtpkonfmonoaajaaDoorCoK51
import Derived.Test.YtpkonfmonoaajaaDoorCoK52
/-! THE LAW OF THE COAL,called with whatever can be read. -/
namespace Go.Sx
open Go.RowKit Go.Proofs
set_option maxRecDepth 100000
noncomputable def xsCo:List AV:=[vi 88]
theorem lawI_co:lAll (lawIg 5 xsCo) [1,2,3,4,5]=true:=by kernel_rfl
theorem lawU_co:lAll (lawUg 5 xsCo) [true,false]=true:=by kernel_rfl
theorem co_three {L:Nat} (h1:ckCos L 57 1=true) (h2:ckCos L 23 58=true) (h3:ckCos L 19 81=true) (x:Nat) (a:1≤x) (b:x≤99):ckCo L x true=true∧ckCo L x false=true:=by
  by_cases e:x < 58
  · exact ckCos_at h1 (by omega) (by omega)
  · by_cases e2:x < 81
    · exact ckCos_at h2 (by omega) (by omega)
    · exact ckCos_at h3 (by omega) (by omega)
theorem ckCo_at {L:Nat} (hL:L ∈ [1,2,3,4,5]):∀ x,1≤x→x≤99→ckCo L x true=true∧ckCo L x false=true:=by
  simp only [List.mem_cons,List.not_mem_nil,or_false] at hL
  rcases hL with rfl | rfl | rfl | rfl | rfl
  · exact co_three ckCo10 ckCo11 ckCo12
  · exact co_three ckCo20 ckCo21 ckCo22
  · exact co_three ckCo30 ckCo31 ckCo32
  · exact co_three ckCo40 ckCo41 ckCo42
  · exact co_three ckCo50 ckCo51 ckCo52
theorem lawCl_at {L:Nat} {k z o:Bool} (hL:L ∈ [1,2,3,4,5]) (h1:k=false→z=false∧o=false) (h2:z=true→o=true):lawCl L k z o=true:=by
  have h:=lAll_mem lawCl_all L hL
  simp only [Bool.and_eq_true] at h
  cases k
  · obtain ⟨rfl,rfl⟩:=h1 rfl
    exact h.1
  · cases z
    · cases o
      · exact h.2.2.2
      · exact h.2.2.1
    · rw [h2 rfl]; exact h.2.1
theorem coal_valid (HT:∀ n,1≤n→n≤5→Looks true n) (nu:Nat→Int):∀ L ∈ [1,2,3,4,5],LawV 5 xsCo nu L:=fun L hL ρ c _=>by
  have hL':=hL
  simp only [List.mem_cons,List.not_mem_nil,or_false] at hL'
  obtain ⟨k,z,o,ρ',q1,q2,hok,A,Ab⟩:=okCl_of (by omega) c
  refine ⟨ρ',A,Ab,fun E w vs he hv hf hg hn ha=>?_⟩
  have B:TabOk (pLaw fun ρ _=>OkCl L k z o ρ) Sx.Tryd.tt.get (tbCl L k z o):=Tryd.tab (orcCl L k z o) (orcCl_ok (by omega) (by omega) (HT L (by omega) (by omega)) (ckCo_at hL)) 2000
  refine law_true (p:=pLaw fun ρ _=>OkCl L k z o ρ) B hv hf hg hn ha (knOf_ok (q:=qCl k) (fun c hc=>?_) (he ▸ hok.fc)) (lawCl_at hL q1 q2) ⟨fun _ _=>False,by rw [he]; exact hok,fun _ _ h=>h.elim⟩
  rw [he]
  have hr:=hok.co.r
  cases k with
  | false=>exact (List.not_mem_nil hc).elim
  | true =>
    rw [cond_true] at hr
    have hr:=of_decide_eq_true hr
    obtain ⟨_,u1,u2⟩:=hok.t rfl
    have b:=(cs_iff.1 hok.co.cs).1
    have b0:=b.room0; have b1:=b.room1; have b2:=b.coal; have b3:=b.load0; have b4:=b.load1; have b5:=b.lamp
    simp only [qCl,cond_true,ivC,List.mem_cons,List.not_mem_nil,or_false] at hc
    rcases hc with rfl | rfl | rfl | rfl | rfl | rfl | rfl | rfl | rfl | rfl | rfl | rfl | rfl | rfl | rfl | rfl <;> rw [BE.t_leq,IE.den_lit,IE.den_var] <;> omega
theorem coal_any (HT : ∀ n, 1 ≤ n → n ≤ 5 → Looks true n) {W : World} {ρ0 : Rho} (hG : ∀ g ∈ gl, GlobIn W ρ0 g) {nb : Nat → Int} {s : Value} {num : Int} (hs : PartsIn W s) :
    Calls Tryd.prog 5 #[.agg ((List.range 22).map (fun i=>Value.int .i64 (nb i)) ++ [s]).toArray,.int .i64 num] W fun e W'=>e=.returned (.bool true)∧Below W.heap.size W W' :=
  any_of (f:=5) (xs:=xsCo) (vr:=[.int .i64 num]) (nu:=fun _=>num) (fun L hL=>lAll_mem lawI_co L hL) (fun many=>lAll_mem lawU_co many (by cases many <;> simp))
    (fun E h=>by
      have h8:=h 88 (by omega) (by omega)
      simp only [xsCo,vi,concL,conc,IE.den,h8]) (coal_valid HT _) hG hs
end Go.Sx
