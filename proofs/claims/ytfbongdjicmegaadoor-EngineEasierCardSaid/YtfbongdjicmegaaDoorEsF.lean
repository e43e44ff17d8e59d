/- THE LAW OF WHAT IS EASIER,called with whatever can be read. -/
import Derived.Test.YtfbongdjicmegaaDoorEsE
import Derived.Test.YtfbongdjicmegaaDoorEsA
import Derived.Test.YtfbongdjicmegaaDoorEsK
import Derived.Test.YtfbongdjicmegaaDoorEsK5
/-! THE LAW OF WHAT IS EASIER,called with whatever can be read. -/
namespace Go.Sx
open Go.RowKit Go.Proofs
set_option maxRecDepth 100000
theorem lawI_es:lAll (lawIg 3 xsEs) [1,2,3,4,5]=true:=by kernel_rfl
theorem lawU_es:lAll (lawUg 3 xsEs) [true,false]=true:=by kernel_rfl
theorem lawEs_all {L:Nat} (hL:L ∈ [1,2,3,4,5]):lawEss L=true:=by
  simp only [List.mem_cons,List.not_mem_nil,or_false] at hL
  rcases hL with rfl | rfl | rfl | rfl | rfl
  · exact lawEs1
  · exact lawEs2
  · exact lawEs3
  · exact lawEs4
  · exact lawEs5
theorem lawEs_at {L t i:Nat} {kb kx:Bool} (hL:L ∈ [1,2,3,4,5]) (ht:t≤10) (hi:i < L) (hp:partK t=false→i=0) (hk:kb=true→kx=true):lawEs L t i kb kx=true:=by
  have h:=lAll_mem (lawEs_all hL) t (cntD_mem (by omega))
  have h3:lawE3 L t i=true:=by
    refine lAll_mem h i ?_
    cases e:partK t with
    | true=>rw [cond_true]; exact cntD_mem hi
    | false=>rw [cond_false,hp e]; exact List.mem_cons_self
  unfold lawE3 at h3
  simp only [Bool.and_eq_true] at h3
  cases kb
  · cases kx
    · exact h3.2.2
    · exact h3.2.1
  · cases kx
    · exact absurd (hk rfl) (by decide)
    · exact h3.1
theorem easier_valid (HT:∀ n,1≤n→n≤5→Looks true n) (HF:∀ n,n≤5→Looks false n) (nu:Nat→Int):∀ L ∈ [1,2,3,4,5],LawV 3 xsEs nu L:=fun L hL ρ k _=>by
  have hL':=hL
  simp only [List.mem_cons,List.not_mem_nil,or_false] at hL'
  obtain ⟨t,i,kb,kx,ρ',ht,hi,hp,hk,hok,A,Ab⟩:=okEs_of (by omega) (by omega) k
  refine ⟨ρ',A,Ab,fun E w vs he hv hf hg hn ha=>?_⟩
  have B:TabOk (pLaw fun ρ _=>OkEs L t i kb kx ρ) Sx.Tryd.tt.get (tbEs L t i kb kx):=Tryd.tab (orcEs L t i kb kx) (orcEs_ok (by omega) (by omega) (HT L (by omega) (by omega)) HF) 2000
  exact law_true (p:=pLaw fun ρ _=>OkEs L t i kb kx ρ) B hv hf hg hn ha (knOf_ok (q:=qEs L kb) (he ▸ hok.q) (he ▸ hok.fc)) (lawEs_at hL ht hi hp hk) ⟨fun _ _=>False,by rw [he]; exact hok,fun _ _ h=>h.elim⟩
theorem easier_any (HT : ∀ n, 1 ≤ n → n ≤ 5 → Looks true n) (HF : ∀ n, n ≤ 5 → Looks false n) {W : World} {ρ0 : Rho} (hG : ∀ g ∈ gl, GlobIn W ρ0 g) {nb : Nat → Int} {s : Value} {n0 n1 : Int} (hs : PartsIn W s) :
    Calls Tryd.prog 3 #[.agg ((List.range 22).map (fun i=>Value.int .i64 (nb i)) ++ [s]).toArray,.agg #[.int .i64 n0,.int .i64 n1]] W fun e W'=>e=.returned (.bool true)∧Below W.heap.size W W' :=
  any_of (f:=3) (xs:=xsEs) (vr:=[.agg #[.int .i64 n0,.int .i64 n1]]) (nu:=fun j=>if j=88 then n0 else n1) (fun L hL=>lAll_mem lawI_es L hL) (fun many=>lAll_mem lawU_es many (by cases many <;> simp))
    (fun E h=>by
      have h8:=h 88 (by omega) (by omega)
      have h7:=h 87 (by omega) (by omega)
      simp only [if_true,show ¬ (87:Nat)=88 by omega,if_false] at h8 h7
      simp only [xsEs,vi,concL,conc,IE.den,h8,h7]
      rfl) (easier_valid HT HF _) hG hs
end Go.Sx
