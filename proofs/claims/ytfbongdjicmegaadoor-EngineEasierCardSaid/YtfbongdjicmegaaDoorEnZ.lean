/- THE NAMES OF THE LAW OF THE PARTS: there are such,for any valid evening. -/
import Derived.Test.YtfbongdjicmegaaDoorEnX
/-! THE LAW OF THE PARTS,for a valid evening: its calls are so,and it holds. -/
namespace Go.Sx
open Go.RowKit Go.Proofs
set_option maxRecDepth 100000
theorem parts_mem {c:BE}:∀ {n b i:Nat},i < n→c ∈ partV (b + 4 * i)→c ∈ partsV n b
  | 0,_,_,h,_=>absurd h (by omega)
  | n + 1,b,0,_,h=>List.mem_append.2 (.inl h)
  | n + 1,b,i + 1,h,hc=>List.mem_append.2 (.inr (parts_mem (n:=n) (b:=b + 4) (i:=i) (by omega) (by rw [show b + 4 + 4 * i=b + 4 * (i + 1) by omega]; exact hc)))
theorem walks_of {L:Nat} {ρ:Rho} (h:∀ c ∈ csV L,c.den ρ=true) {i:Nat} (hi:i < L):∃ W:Nat,W≤5∧ρ.iv (33 + 4 * i)=W:=by
  have k:∀ c ∈ partV (30 + 4 * i),c.den ρ=true:=fun c hc=>h c (List.mem_append.2 (.inr (parts_mem hi hc)))
  simp only [partV,leV,List.mem_cons,List.not_mem_nil,or_false,forall_eq_or_imp,forall_eq,BE.t_leq,IE.den_lit,IE.den_var] at k
  obtain ⟨_,_,_,k4,k5⟩:=k
  rw [show 30 + 4 * i + 3=33 + 4 * i by omega] at k4 k5
  exact ⟨(ρ.iv (33 + 4 * i)).toNat,by omega,by omega⟩
/-- the texts that say what is so from the beginning of an evening of so many parts -/
structure Looks (q:Bool) (n:Nat):Prop where
  l:LookAt q n 0
  o:ckO q n=true
  p:ckP q n=true
noncomputable def cntD:Nat→List Nat
  | 0=>[]
  | n + 1=>n :: cntD n
end Go.Sx
/-! THE NAMES OF THE LAW OF THE PARTS: there are such,for any valid evening. -/
namespace Go.Sx
open Go.RowKit Go.Proofs
set_option maxRecDepth 100000
theorem turnF_in {n m:Int} (h:1≤m):0≤turnF n m∧turnF n m < m:=by
  unfold turnF
  rw [if_neg (by omega)]
  exact ⟨Int.emod_nonneg _ (by omega),Int.emod_lt_of_pos _ (by omega)⟩
/-- how many parts have a plan that is enough -/
noncomputable def mostE (ρ:Rho):Nat→Nat
  | 0=>0
  | n + 1=>if enD ρ (n + 1)=true then n + 1 else mostE ρ n
theorem mostE_le (ρ:Rho):∀ n,mostE ρ n≤n
  | 0=>Nat.le_refl 0
  | n + 1=>by
    unfold mostE
    split
    · exact Nat.le_refl _
    · exact Nat.le_succ_of_le (mostE_le ρ n)
theorem mostE_spec (ρ:Rho):∀ L n,n≤L→enD ρ n=Nat.ble n (mostE ρ L)
  | 0,n,h=>by
    obtain rfl:n=0:=by omega
    rfl
  | L + 1,n,h=>by
    unfold mostE
    split
    · rename_i he
      rw [enD_le h he,Nat.ble_eq_true_of_le h]
    · rename_i he
      by_cases hn:n=L + 1
      · subst hn
        have h1:enD ρ (L + 1)=false:=by simpa using he
        rw [h1]
        have:=mostE_le ρ L
        exact (Bool.eq_false_iff.2 fun hb=>absurd (Nat.le_of_ble_eq_true hb) (by omega)).symm
      · exact mostE_spec ρ L n (by omega)
theorem isTrueK_okP {ρ:Rho} {K:Kn} (hK:KnOk ρ K) {r:AV × Heap} (h:isTrueK K r=true):∃ b,r.1=.bool b∧b.den ρ=true:=by
  unfold isTrueK at h
  split at h
  · rename_i b hb
    refine ⟨b,hb,?_⟩
    split at h
    · rename_i c hc
      rw [decK_ok hK _ _ hc]; exact h
    · cases h
  · cases h
theorem law_true {p : Par} {ty : Nat → Option TI} {tb : Tabs} (B : TabOk p ty tb) {d : Nat} {f : FuncId} {args : List AV} {l : List (Nat × List AV)} {E : Env} {w : World} {vs : List Value}
    (hv:∀ g ∈ l,ViewIn w E g) (hf:∀ b,2000≤b→E.σ b=none) (hg:∀ b,b < 1000→E.σ b=some (b,0)) (hn:E.n≤2000) (ha:concL E args=some vs)
    {K:Kn} (hK:KnOk E.ρ K) (h:allK isTrueK (evalN tb d false f args (viewHeap 2000 l)) K=true) (hok:p.okB E.ρ (Base.of w)) :
    Calls p.P f vs.toArray w fun e w'=>e=.returned (.bool true)∧Below w.heap.size w w':=by
  have key:=allK_ok (P:=fun r:AV × Heap=>∃ b,r.1=.bool b∧b.den E.ρ=true) (fun K a hK h=>isTrueK_okP hK h) _ K hK h
  have HS:HeapOk p E (viewHeap 2000 l) (Base.of w) w:=view_ok hv hf hg hn hok
  obtain ⟨r1,r2⟩:=eval_ok B d f args (viewHeap 2000 l) vs E (Base.of w) w _ (fun cv w'=>cv=.bool true∧Below w.heap.size w w') key HS ha
    (fun v h' E2 w' cv hq2 hle HH' hv2=>by
      obtain ⟨b,hb,hd⟩:=hq2
      refine ⟨?_,Base.keeps_below HH'.below⟩
      have hb:v=.bool b:=hb
      rw [hb] at hv2
      simp only [conc,Option.some.injEq] at hv2
      rw [← hv2,hle.ρ,hd])
  refine r2.mono ?_
  rintro e w' ⟨cv,rfl,rfl,hb⟩
  exact ⟨rfl,hb⟩
theorem cntD_mem:∀ {n i:Nat},i < n→i ∈ cntD n
  | 0,_,h=>absurd h (by omega)
  | n + 1,i,h=>by
    by_cases e:i=n
    · subst e; exact List.mem_cons_self
    · exact List.mem_cons_of_mem _ (cntD_mem (by omega))
end Go.Sx
