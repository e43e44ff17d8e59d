/- EaN -/
import Derived.Test.YtoefmmmfefdcdaaDoorFeY
import Derived.Test.YtoefmmmfefdcdaaDoorFeA
import Derived.Test.YtoefmmmfefdcdaaDoorRlE5b
import Derived.Test.YtoefmmmfefdcdaaDoorRlE6b
import Derived.Test.YtoefmmmfefdcdaaDoorRlE6d
namespace Go.Sx
open Go.RowKit Go.Proofs
set_option maxRecDepth 100000
def LikeF (ρ ρ':Rho):Prop:=∀ j,j < 60→ρ.iv j=ρ'.iv j
theorem aftF_like {ρ ρ':Rho} (h:LikeF ρ ρ') {r:Nat} (hr:r < 6) (a b:Int):aftF ρ r a b=aftF ρ' r a b:=by
  unfold aftF
  rw [h (10 + 6 * r) (by omega),h (11 + 6 * r) (by omega),h (12 + 6 * r) (by omega),h (13 + 6 * r) (by omega)]
theorem noneF_like {ρ ρ':Rho} (h:LikeF ρ ρ'):∀ (k m:Nat) (a b:Int),noneF ρ k m a b=noneF ρ' k m a b
  | 0,_,_,_=>rfl
  | k + 1,m,a,b=>by
    simp only [noneF]
    refine all_congr fun r hr=>?_
    rw [aftF_like h (rsOf_lt hr),noneF_like h k]
theorem ordF_like {ρ ρ':Rho} (h:LikeF ρ ρ'):∀ (k m:Nat) (a b:Int),ordF ρ k m a b=ordF ρ' k m a b
  | 0,_,_,_=>rfl
  | k + 1,m,a,b=>by
    simp only [ordF]
    rw [find_congr (q:=fun r=>!(decide (aftF ρ' r a b=(0,0)) || noneF ρ' k (del m r) (aftF ρ' r a b).1 (aftF ρ' r a b).2)) fun r hr=>by rw [aftF_like h (rsOf_lt hr),noneF_like h k]]
    cases hf:(rsOf m).find? fun r=>!(decide (aftF ρ' r a b=(0,0)) || noneF ρ' k (del m r) (aftF ρ' r a b).1 (aftF ρ' r a b).2) with
    | none=>rfl
    | some r =>
      simp only
      rw [aftF_like h (rsOf_lt (List.mem_of_find?_eq_some hf)),ordF_like h k]
theorem leftF_like {ρ ρ':Rho} (h:LikeF ρ ρ'):∀ (k p m j:Nat) (a b o:Int),leftF ρ k p m j a b o=leftF ρ' k p m j a b o
  | 0,_,_,_,_,_,_=>rfl
  | k + 1,p,m,j,a,b,o=>by
    simp only [leftF]
    refine foldl_congr _ fun o r hr=>?_
    rw [aftF_like h (rsOf_lt hr),leftF_like h k]
theorem SameA.shrink {P:Program} {RC:Nat→Nat→List Nat→Code→Code→Prop} {ok ok':Rho→(Nat→Obj→Prop)→Prop} {ρ0 ρ:Rho} {cs:List AV} {el:TypeId}:SameA ⟨P,RC,ok⟩ ⟨P,RC,ok'⟩ ρ0 (.cells cs el true true) ρ (.cells [] el true true) :=
  ⟨fun h=>h,fun h=>h,fun _ _ _ _ _ _ ⟨c,base,vs,cells,el',fz,k1,_,k3,_,k5⟩=>⟨c,base,[],cells,el',fz,k1,rfl,k3,fun i hi=>absurd hi (Nat.not_lt_zero i),fun h=>by
    obtain ⟨q1,q2,_,q4⟩:=k5 h
    exact ⟨q1,q2,fun h=>(by cases h),q4⟩⟩⟩
structure LikeS (ρ ρ':Rho):Prop where
  iv:∀ i,(i < 66 ∨ (100≤i∧i < 200) ∨ (400≤i∧i < 432) ∨ (464≤i∧i < 499))→ρ'.iv i=ρ.iv i
  fi:∀ f,f < 9600→ρ'.fi f=ρ.fi f
  fb:∀ f,f < 9600→ρ'.fb f=ρ.fb f
theorem okT_like {L:Nat} (hL:L≤6) {ρ ρ':Rho} (h:LikeS ρ ρ') (k:okT L ρ):okT L ρ':=by
  have lf:LikeF ρ' ρ:=fun j hj=>h.iv j (by omega)
  refine ⟨fun r hr=>?_,fun m hm=>?_⟩
  · obtain ⟨k1,k2⟩:=k.1 r hr
    refine ⟨?_,fun a b=>?_⟩
    · unfold reelOk at k1 ⊢
      rw [h.iv _ (by omega),h.iv _ (by omega),h.iv _ (by omega),h.iv _ (by omega)]; exact k1
    · rw [h.fi 3001 (by omega),h.fi 3002 (by omega),aftF_like lf (by omega)]; exact k2 a b
  · have hm64:=lt64 hL hm
    obtain ⟨k1,k2,k3⟩:=k.2 m hm
    refine ⟨fun a b=>?_,fun j a b hj=>?_,fun K j a b o hK hj=>?_⟩
    · rw [h.fb _ (by omega),noneF_like lf]; exact k1 a b
    · rw [h.fi _ (by omega),ordF_like lf]; exact k2 j a b hj
    · rw [h.fi _ (by omega),leftF_like lf]; exact k3 K j a b o hK hj
theorem oB_like {L:Nat} (hL:L≤6) {ρ ρ':Rho} (h:LikeS ρ ρ') {j:Nat} (hj:j < L):(oB L j).den ρ'=(oB L j).den ρ:=by
  have hf:=lt64 hL (fullM_lt (L:=L))
  unfold oB ordE
  simp only [IE.den,FI]
  rw [if_pos (by omega),if_pos (by omega),h.fi _ (by omega)]
noncomputable def relB (q:Nat × Int × Int):Bool:=cond (Nat.ble (q.1 + 1) 66) true (and (Nat.ble 400 q.1) (Nat.ble (q.1 + 1) 432))
theorem relB_ok {q:Nat × Int × Int} (h:relB q=true):q.1 < 66 ∨ (100≤q.1∧q.1 < 200) ∨ (400≤q.1∧q.1 < 432) ∨ (464≤q.1∧q.1 < 499):=by
  unfold relB at h
  cases hb:Nat.ble (q.1 + 1) 66 with
  | true=>exact .inl (ble_t.1 hb)
  | false =>
    rw [hb,cond_false,Bool.and_eq_true] at h
    exact .inr (.inr (.inl ⟨ble_t.1 h.1,ble_t.1 h.2⟩))
theorem ivC_like {ρ ρ':Rho} (h:LikeS ρ ρ'):∀ (l:List (Nat × Int × Int)),lAll relB l=true→(∀ c ∈ ivC l,c.den ρ=true)→∀ c ∈ ivC l,c.den ρ'=true
  | [],_,_,c,hc=>by cases hc
  | q :: l,hv,k,c,hc=>by
    have hq0:=lAll_mem hv q List.mem_cons_self
    have hq:=h.iv _ (relB_ok hq0)
    simp only [ivC,List.mem_cons] at hc k
    rcases hc with rfl | rfl | hc
    · have:=k _ (.inl rfl)
      rw [BE.t_leq,IE.den_lit,IE.den_var] at this ⊢; rw [hq]; exact this
    · have:=k _ (.inr (.inl rfl))
      rw [BE.t_leq,IE.den_lit,IE.den_var] at this ⊢; rw [hq]; exact this
    · refine ivC_like h l ?_ (fun c hc=>k c (.inr (.inr hc))) c hc
      have hv:cond (relB q) (lAll relB l) false=true:=hv
      rw [hq0,cond_true] at hv; exact hv
theorem okBook_like' {ρ ρ':Rho} (h:∀ j,60≤j→j < 66→ρ'.iv j=ρ.iv j) (hb:okBook ρ):okBook ρ':=by
  have e0:=h 60 (by omega) (by omega); have e1:=h 61 (by omega) (by omega); have e2:=h 62 (by omega) (by omega); have e3:=h 63 (by omega) (by omega); have e4:=h 64 (by omega) (by omega); have e5:=h 65 (by omega) (by omega)
  obtain ⟨h1,h2⟩:=hb
  refine ⟨?_,?_⟩
  · simp only [bookQ,ivC,List.forall_mem_cons,BE.t_leq,IE.den_lit,IE.den_var,List.not_mem_nil,false_implies,implies_true,and_true] at h1 ⊢
    omega
  · simp only [bookLe,leV,List.forall_mem_cons,BE.t_leq,IE.den_var,List.not_mem_nil,false_implies,implies_true,and_true] at h2 ⊢
    omega
theorem okFilm_like {L:Nat} (h0:1≤L) (hL:L≤6) {ρ ρ':Rho} (h:LikeS ρ ρ') (k:okFilm L ρ):okFilm L ρ':=by
  have e:∀ i,i < 66→ρ'.iv i=ρ.iv i:=fun i hi=>h.iv i (by omega)
  refine ⟨?_,?_⟩
  · have hv:lAll relB (filmQ L)=true:=by rcases six h0 hL with rfl | rfl | rfl | rfl | rfl | rfl <;> rfl
    exact ivC_like h _ hv k.1
  · intro c hc
    have hle:∀ c ∈ filmC L,∃ i j,i < 66∧j < 66∧c=leV i j:=by
      intro c hc
      simp only [filmC,List.mem_cons] at hc
      rcases hc with rfl | rfl | hc
      · exact ⟨0,1,by omega,by omega,rfl⟩
      · exact ⟨2,3,by omega,by omega,rfl⟩
      · have key : ∀ (l : List Nat), (∀ r ∈ l, r < 6) → c ∈ (@List.rec Nat (fun _ => List BE) [] (fun r _ ih => leV (10 + 6 * r) (11 + 6 * r) :: leV (12 + 6 * r) (13 + 6 * r) :: leV (14 + 6 * r) (15 + 6 * r) :: leV (10 + 6 * r) (13 + 6 * r) :: ih) l) → ∃ i j, i < 66 ∧ j < 66 ∧ c = leV i j := by
          intro l
          induction l with
          | nil=>intro _ h; cases h
          | cons a l ih =>
            intro hl hc
            have:=hl a List.mem_cons_self
            simp only [List.mem_cons] at hc
            rcases hc with rfl | rfl | rfl | rfl | hc
            · exact ⟨_,_,by omega,by omega,rfl⟩
            · exact ⟨_,_,by omega,by omega,rfl⟩
            · exact ⟨_,_,by omega,by omega,rfl⟩
            · exact ⟨_,_,by omega,by omega,rfl⟩
            · exact ih (fun r hr=>hl r (List.mem_cons_of_mem _ hr)) hc
        exact key _ (fun r hr=>by have:=upN_lt _ _ _ hr; omega) hc
    obtain ⟨i,j,hi,hj,rfl⟩:=hle c hc
    have:=k.2 _ hc
    unfold leV at this ⊢
    rw [BE.t_leq,IE.den_var,IE.den_var] at this ⊢
    rw [e i hi,e j hj]; exact this
noncomputable def plainE (n:Nat):IE→Bool
  | .lit _=>true
  | .var i=>cond (Nat.ble (i + 1) 66) true (and (Nat.ble 100 i) (Nat.ble (i + 1) n))
  | .bin _ _ a b=>and (plainE n a) (plainE n b)
  | .conv _ a=>plainE n a
  | .mx a b=>and (plainE n a) (plainE n b)
  | .mn a b=>and (plainE n a) (plainE n b)
  | .app _ _ _ _=>false
theorem plain_den {n:Nat} {ρ ρ':Rho} (h:∀ i,(i < 66 ∨ (100≤i∧i < n))→ρ'.iv i=ρ.iv i):∀ e,plainE n e=true→e.den ρ'=e.den ρ
  | .lit _,_=>rfl
  | .var i,he=>by
    simp only [plainE] at he
    refine h i ?_
    cases hb:Nat.ble (i + 1) 66 with
    | true=>exact .inl (ble_t.1 hb)
    | false =>
      rw [hb,cond_false,Bool.and_eq_true] at he
      exact .inr ⟨ble_t.1 he.1,ble_t.1 he.2⟩
  | .bin o k a b,he=>by
    simp only [plainE,Bool.and_eq_true] at he
    simp only [IE.den,plain_den h a he.1,plain_den h b he.2]
  | .conv k a,he=>by
    simp only [plainE] at he
    simp only [IE.den,plain_den h a he]
  | .mx a b,he=>by
    simp only [plainE,Bool.and_eq_true] at he
    simp only [IE.den,plain_den h a he.1,plain_den h b he.2]
  | .mn a b,he=>by
    simp only [plainE,Bool.and_eq_true] at he
    simp only [IE.den,plain_den h a he.1,plain_den h b he.2]
  | .app _ _ _ _,he=>by cases he
theorem plain_all:lAll (fun L=>lAll (fun p=>and (plainE 200 (surelyE p)) (plainE 200 (perhapsE p))) (plansL L)) [1,2,3,4,5,6]=true:=by kernel_rfl
theorem plan_plain {L:Nat} (h0:1≤L) (hL:L≤6) {i:Nat} {plan:List Nat} (hi:(plansL L)[i]?=some plan):plainE 200 (surelyE plan)=true∧plainE 200 (perhapsE plan)=true:=by
  have:=lAll_mem (lAll_mem plain_all L (mem_six h0 hL)) plan (List.mem_of_getElem? hi)
  rw [Bool.and_eq_true] at this
  exact this
theorem okSB_like {L:Nat} (h0:1≤L) (hL:L≤6) {ρ ρ':Rho} (h:LikeS ρ ρ') (k:okSB L ρ):okSB L ρ':=by
  obtain ⟨⟨⟨k1,k2,k3,k4⟩,k5,k6⟩,k7⟩:=k
  have e:=h.iv
  refine ⟨⟨⟨okT_like hL h k1,okFilm_like h0 hL h k2,?_,okBook_like' (fun j _ hj=>e j (by omega)) k4⟩,fun j t hj ht=>?_,fun r i hr hi=>?_⟩,fun i plan hi=>?_,fun i plan hi=>?_⟩
  · have hf:=lt64 hL (fullM_lt (L:=L))
    rw [← k3]
    unfold noneB noneE
    simp only [BE.den,FB]
    rw [if_pos (by omega),if_pos (by omega),h.fb _ (by omega)]; rfl
  · have q:=k5 j t hj ht
    have ho:=oB_like hL h hj
    have hb:=oB_in h0 hL k1 hj
    rw [e (100 + 4 * j + 2 * t) (by omega),e (101 + 4 * j + 2 * t) (by omega),e 60 (by omega),ho,q.1,q.2]
    unfold loZ hiZ
    rw [e (14 + 6 * ((oB L j).den ρ).toNat) (by omega),e (15 + 6 * ((oB L j).den ρ).toNat) (by omega),e 0 (by omega),e 1 (by omega),e 2 (by omega),e 3 (by omega)]
    exact ⟨rfl,rfl⟩
  · rw [h.fi _ (by omega),e 60 (by omega),e (100 + 4 * r + i) (by omega)]
    exact k6 r i hr hi
  · obtain ⟨hv,h1,_⟩:=plan_vars h0 hL hi
    rw [e (400 + i) (by omega),plain_den (n:=200) (fun i hi=>e i (by omega)) _ (plan_plain h0 hL hi).1]
    exact k7.sure i plan hi
  · obtain ⟨hv,_,h2⟩:=plan_vars h0 hL hi
    rw [e (464 + i) (by omega),plain_den (n:=200) (fun i hi=>e i (by omega)) _ (plan_plain h0 hL hi).2]
    exact k7.may i plan hi
noncomputable def gL (x:Node):Int × Nat:=(0,lLen x.pre)
noncomputable def uF (L K:Nat) (ρ:Rho) (lim:Int) (nd:Node):List Node:=(under L K nd).filter fun x=>decide (ρ.iv (400 + x.id)≤lim)
noncomputable def wFo (L K:Nat) (ρ:Rho) (lim:Int) (nd:Node):Option Node:=minL gL (uF L K ρ lim nd)
noncomputable def wF (L K:Nat) (ρ:Rho) (lim:Int) (nd:Node):Node:=(wFo L K ρ lim nd).getD nd
theorem filter_flat {α β:Type} (p:α→Bool) (u:β→List α):∀ l:List β,(l.flatMap u).filter p=l.flatMap fun x=>(u x).filter p
  | []=>rfl
  | x :: l=>by rw [List.flatMap_cons,List.filter_append,filter_flat p u l,List.flatMap_cons]
theorem minL_none {α:Type} {f:α→Int × Nat} {l:List α} (h:minL f l=none):l=[]:=by
  cases l with
  | nil=>rfl
  | cons a l=>cases h
theorem minL_flatO {α β:Type} {f:α→Int × Nat} (u:β→List α) (w:β→α) (hs:β→Bool):∀ (l:List β),(∀ x ∈ l,(hs x=true∧minL f (u x)=some (w x)) ∨ (hs x=false∧u x=[]))→minL f (l.flatMap u)=(minL (fun x=>f (w x)) (l.filter hs)).map w:=by
  intro l h
  have e:l.flatMap u=(l.filter hs).flatMap u:=by
    induction l with
    | nil=>rfl
    | cons x l ih =>
      have ih:=ih fun y hy=>h y (List.mem_cons_of_mem _ hy)
      rcases h x List.mem_cons_self with ⟨h1,_⟩ | ⟨h1,h2⟩
      · rw [List.filter_cons_of_pos h1,List.flatMap_cons,List.flatMap_cons,ih]
      · rw [List.filter_cons_of_neg (by rw [h1]; exact Bool.false_ne_true),List.flatMap_cons,h2,List.nil_append,ih]
  rw [e]
  cases hf:l.filter hs with
  | nil=>rfl
  | cons k m =>
    have hm:∀ x ∈ k :: m,minL f (u x)=some (w x):=fun x hx=>by
      rw [← hf] at hx
      obtain ⟨h1,h2⟩:=List.mem_filter.1 hx
      rcases h x h1 with ⟨_,h3⟩ | ⟨h3,_⟩
      · exact h3
      · rw [h3] at h2; cases h2
    rw [List.flatMap_cons,minL_flat u w m k (u k) (fun x hx=>hm x (List.mem_cons_of_mem _ hx)) (hm k List.mem_cons_self)]; rfl
section
variable {L K:Nat} (h0:1≤L) (hL:L≤6) (k0:1≤K) (hK:K≤L + 1) (k6:K≤6) (ρ:Rho) (lim:Int)
include h0 hL k0 hK k6
omit h0 hL k0 hK k6 in
theorem wFo_mem {nd x:Node} (h:wFo L K ρ lim nd=some x):x ∈ under L K nd∧ρ.iv (400 + x.id)≤lim:=by
  unfold wFo at h
  have:x ∈ uF L K ρ lim nd:=by
    cases hu:uF L K ρ lim nd with
    | nil=>rw [hu] at h; cases h
    | cons a m =>
      rw [hu] at h
      have h:minB gL a m=x:=Option.some.inj h
      rcases minB_mem gL m a with e | e
      · rw [← h,e]; exact List.mem_cons_self
      · rw [← h]; exact List.mem_cons_of_mem _ e
  obtain ⟨h1,h2⟩:=List.mem_filter.1 this
  exact ⟨h1,of_decide_eq_true h2⟩
omit h0 hL k0 hK k6 in
theorem wF_some {nd:Node} (h:(wFo L K ρ lim nd).isSome=true):wFo L K ρ lim nd=some (wF L K ρ lim nd):=by
  unfold wF
  cases hw:wFo L K ρ lim nd with
  | none=>rw [hw] at h; cases h
  | some x=>rfl
theorem wF_leaf {nd:Node} (h:nd ∈ nodeTab L K) (hr:nd.rest=0):(wFo L K ρ lim nd).isSome=decide (ρ.iv (400 + nd.id)≤lim)∧wF L K ρ lim nd=nd:=by
  have hw:=win_ck h0 hL k0 hK k6
  unfold winCk at hw
  simp only [Bool.and_eq_true] at hw
  have hn:=lAll_mem hw.1.1 nd h
  unfold winNd at hn
  rw [beq_t.2 hr,cond_true] at hn
  have e:=eqNodes_eq _ _ hn
  unfold wF wFo uF
  rw [e]
  cases hd:decide (ρ.iv (400 + nd.id)≤lim) with
  | true =>
    have e2:List.filter (fun x:Node=>decide (ρ.iv (400 + x.id)≤lim)) [nd]=[nd]:=by simp only [List.filter_cons,hd,List.filter_nil,if_true]
    rw [e2]; exact ⟨rfl,rfl⟩
  | false =>
    have e2:List.filter (fun x:Node=>decide (ρ.iv (400 + x.id)≤lim)) [nd]=[]:=by simp only [List.filter_cons,hd,List.filter_nil,Bool.false_eq_true,if_false]
    rw [e2]; exact ⟨rfl,rfl⟩
theorem wF_kids {nd:Node} (h:nd ∈ nodeTab L K) (hr:nd.rest ≠ 0):wFo L K ρ lim nd=(minL (fun x=>gL (wF L K ρ lim x)) ((kidsOf L K nd).filter fun x=>(wFo L K ρ lim x).isSome)).map (wF L K ρ lim):=by
  have hw:=win_ck h0 hL k0 hK k6
  unfold winCk at hw
  simp only [Bool.and_eq_true] at hw
  have hn:=lAll_mem hw.1.1 nd h
  unfold winNd at hn
  have hb:Nat.beq nd.rest 0=false:=by
    cases hb:Nat.beq nd.rest 0 with
    | true=>exact absurd (beq_t.1 hb) hr
    | false=>rfl
  rw [hb,cond_false] at hn
  simp only [Bool.and_eq_true] at hn
  have e:=eqNodes_eq _ _ hn.1.2.2
  have e2:wFo L K ρ lim nd=minL gL ((kidsOf L K nd).flatMap (uF L K ρ lim)):=by
    unfold wFo
    rw [show uF L K ρ lim nd=(kidsOf L K nd).flatMap (uF L K ρ lim) from by unfold uF; rw [e,filter_flat]]
  rw [e2]
  refine minL_flatO (uF L K ρ lim) (wF L K ρ lim) (fun x=>(wFo L K ρ lim x).isSome) _ fun x _=>?_
  cases hx:(wFo L K ρ lim x).isSome with
  | true=>exact .inl ⟨rfl,wF_some ρ lim hx⟩
  | false =>
    refine .inr ⟨rfl,minL_none (f:=gL) ?_⟩
    cases hw2:wFo L K ρ lim x with
    | none=>exact hw2
    | some y=>rw [hw2] at hx; cases hx
end
noncomputable def atF {α:Type} (L K:Nat) (a:Int) (d:α) (g:Node→α):α:=match findN (fun x=>Nat.beq x.id a.toNat) (inners L K) with
  | some nd=>g nd
  | none=>d
noncomputable def wOfF (L K:Nat) (ρ:Rho) (lim:Int):List (Nat × Nat):=(inners L K).map fun nd=>(nd.id,cond (wFo L K ρ lim nd).isSome (lLen (wF L K ρ lim nd).pre) (lLen nd.pre + 1))
noncomputable def rhoF' (L K:Nat) (ρ:Rho) (lim:Int):Rho:=⟨fun i=>if i=499 then lim else ρ.iv i,ρ.bv,
  fun f a b c=>if f=9703 then atF L K a 0 (fun nd=>ρ.iv (400 + (wF L K ρ lim nd).id)) else if f=9704 then atF L K a 0 (fun nd=>(((wF L K ρ lim nd).pre)[b.toNat]?.getD 0:Nat)) else ρ.fi f a b c,
  fun f a b c=>if f=9705 then atF L K a false (fun nd=>Bool.not (wFo L K ρ lim nd).isSome) else ρ.fb f a b c,ρ.ov⟩
theorem rho_499 (L K:Nat) (ρ:Rho) (lim:Int):(rhoF' L K ρ lim).iv 499=lim:=by
  show (if (499:Nat)=499 then lim else ρ.iv 499)=lim
  rw [if_pos rfl]
theorem rho_fi3 (L K:Nat) (ρ:Rho) (lim a b c:Int):(rhoF' L K ρ lim).fi 9703 a b c=atF L K a 0 (fun nd=>ρ.iv (400 + (wF L K ρ lim nd).id)):=by
  unfold rhoF'
  simp only [if_true]
theorem rho_fi4 (L K:Nat) (ρ:Rho) (lim a b c:Int):(rhoF' L K ρ lim).fi 9704 a b c=atF L K a 0 (fun nd=>((((wF L K ρ lim nd).pre)[b.toNat]?.getD 0:Nat):Int)):=by
  unfold rhoF'
  simp only [if_true]
  rw [if_neg (by omega)]
theorem rho_fb5 (L K:Nat) (ρ:Rho) (lim a b c:Int):(rhoF' L K ρ lim).fb 9705 a b c=atF L K a false (fun nd=>Bool.not (wFo L K ρ lim nd).isSome):=by
  unfold rhoF'
  simp only [if_true]
theorem rhoF_like (L K:Nat) (ρ:Rho) (lim:Int):LikeS ρ (rhoF' L K ρ lim):=by
  refine ⟨fun i hi=>?_,fun f hf=>?_,fun f hf=>?_⟩
  · show (if i=499 then lim else ρ.iv i)=_
    rw [if_neg (by omega)]
  · funext a b c
    show (if f=9703 then _ else if f=9704 then _ else ρ.fi f a b c)=_
    rw [if_neg (by omega),if_neg (by omega)]
  · funext a b c
    show (if f=9705 then _ else ρ.fb f a b c)=_
    rw [if_neg (by omega)]
section
variable {L K:Nat} (h0:1≤L) (hL:L≤6) (k0:1≤K) (hK:K≤L + 1) (k6:K≤6) (ρ:Rho) (lim:Int)
include h0 hL k0 hK k6
theorem at_inner {α:Type} (ρ:Rho) {nd:Node} (h:nd ∈ nodeTab L K) (hr:nd.rest ≠ 0) (d:α) (g:Node→α):atF L K (nd.id:Int) d g=g nd:=by
  obtain ⟨_,_,_,_,hf,_⟩:=wN_kids h0 hL k0 hK k6 ρ h hr
  unfold atF
  rw [Int.toNat_natCast,hf]
omit h0 hL k0 hK k6 in
theorem rest_beq {nd:Node} (hr:nd.rest ≠ 0):Nat.beq nd.rest 0=false:=by
  cases hb:Nat.beq nd.rest 0 with
  | true=>exact absurd (beq_t.1 hb) hr
  | false=>rfl
theorem hasF_rho {nd:Node} (h:nd ∈ nodeTab L K):hasF (rhoF' L K ρ lim) nd=(wFo L K ρ lim nd).isSome:=by
  unfold hasF noF
  by_cases hr:nd.rest=0
  · rw [beq_t.2 hr,cond_true,(wF_leaf h0 hL k0 hK k6 ρ lim h hr).1]
    have hid:=(leaf_plan h0 hL k0 hK k6 (List.mem_filter.2 ⟨h,beq_t.2 hr⟩)).1
    have e1:(rhoF' L K ρ lim).iv (400 + nd.id)=ρ.iv (400 + nd.id):=(rhoF_like L K ρ lim).iv _ (by omega)
    have e2:(rhoF' L K ρ lim).iv 499=lim:=rho_499 L K ρ lim
    cases hc:(BE.cmp .gtr (.var (400 + nd.id)) limE).den (rhoF' L K ρ lim) with
    | true =>
      have:=BE.t_gtr.1 hc
      unfold limE at this
      rw [IE.den_var,IE.den_var,e1,e2] at this
      rw [decide_eq_false (by omega)]; rfl
    | false =>
      have:¬ (limE.den (rhoF' L K ρ lim) < (IE.var (400 + nd.id)).den (rhoF' L K ρ lim)):=fun k=>by rw [BE.t_gtr.2 k] at hc; cases hc
      unfold limE at this
      rw [IE.den_var,IE.den_var,e1,e2] at this
      rw [decide_eq_true (by omega)]; rfl
  · rw [rest_beq hr,cond_false]
    have e:(BE.app 9705 (.lit (Int.ofNat nd.id)) (.lit 0) (.lit 0)).den (rhoF' L K ρ lim)=Bool.not (wFo L K ρ lim nd).isSome:=by
      simp only [BE.den,IE.den,FB]
      rw [if_pos (by omega)]
      show (rhoF' L K ρ lim).fb 9705 (nd.id:Int) 0 0=_
      rw [rho_fb5]
      exact at_inner h0 hL k0 hK k6 ρ h hr false _
    rw [e,Bool.not_not]
theorem lenNd_rho {nd:Node} (h:nd ∈ nodeTab L K) (hs:(wFo L K ρ lim nd).isSome=true):lenNd (wOfF L K ρ lim) nd=lLen (wF L K ρ lim nd).pre:=by
  unfold lenNd
  by_cases hr:nd.rest=0
  · rw [beq_t.2 hr,cond_true,(wF_leaf h0 hL k0 hK k6 ρ lim h hr).2]
  · obtain ⟨_,_,_,_,hf,_⟩:=wN_kids h0 hL k0 hK k6 ρ h hr
    rw [rest_beq hr,cond_false]
    unfold lenN wOfF
    rw [lFind_map (fun nd=>cond (wFo L K ρ lim nd).isSome (lLen (wF L K ρ lim nd).pre) (lLen nd.pre + 1)),hf]
    simp only [Option.map_some,hs,cond_true]
theorem sF_rho {nd:Node} (h:nd ∈ nodeTab L K):(sF nd).den (rhoF' L K ρ lim)=ρ.iv (400 + (wF L K ρ lim nd).id):=by
  unfold sF
  by_cases hr:nd.rest=0
  · have hid:=(leaf_plan h0 hL k0 hK k6 (List.mem_filter.2 ⟨h,beq_t.2 hr⟩)).1
    rw [beq_t.2 hr,cond_true,(wF_leaf h0 hL k0 hK k6 ρ lim h hr).2,IE.den_var]
    exact (rhoF_like L K ρ lim).iv _ (by omega)
  · rw [rest_beq hr,cond_false]
    simp only [IE.den,FI]
    rw [if_pos (by omega)]
    show (rhoF' L K ρ lim).fi 9703 (nd.id:Int) 0 0=_
    rw [rho_fi3]
    exact at_inner h0 hL k0 hK k6 ρ h hr 0 _
theorem tripZF_rho {nd:Node} (h:nd ∈ nodeTab L K) (hs:(wFo L K ρ lim nd).isSome=true):tripZF (rhoF' L K ρ lim) (wOfF L K ρ lim) nd=(wF L K ρ lim nd).pre.map Int.ofNat:=by
  unfold tripZF tripsFE
  rw [lenNd_rho h0 hL k0 hK k6 ρ lim h hs]
  by_cases hr:nd.rest=0
  · rw [beq_t.2 hr,cond_true,List.map_map,(wF_leaf h0 hL k0 hK k6 ρ lim h hr).2]; rfl
  · rw [rest_beq hr,cond_false,List.map_map,lLen_eq]
    refine List.ext_getElem? fun i=>?_
    by_cases hi:i < (wF L K ρ lim nd).pre.length
    · rw [List.getElem?_map,List.getElem?_map,upN_get' _ _ _ hi,List.getElem?_eq_getElem hi]
      simp only [Option.map_some,Function.comp,Nat.zero_add,Option.some.injEq]
      show FI (rhoF' L K ρ lim).fi 9704 (nd.id:Int) (i:Int) 0=_
      unfold FI
      rw [if_pos (by omega)]
      rw [rho_fi4,at_inner h0 hL k0 hK k6 ρ h hr,Int.toNat_natCast]
      simp only [List.getElem?_eq_getElem hi,Option.getD_some]; rfl
    · rw [List.getElem?_eq_none (by rw [List.length_map,upN_len']; omega),List.getElem?_eq_none (by rw [List.length_map]; omega)]
theorem okWF_of:OkWF L K (wOfF L K ρ lim) (rhoF' L K ρ lim):=fun nd h hr=>by
  have hk:=wF_kids h0 hL k0 hK k6 ρ lim h hr
  have hfil:(kidsOf L K nd).filter (hasF (rhoF' L K ρ lim))=(kidsOf L K nd).filter fun x=>(wFo L K ρ lim x).isSome:=List.filter_congr fun x hx=>hasF_rho h0 hL k0 hK k6 ρ lim (kids_mem hx)
  have hwin:winF (rhoF' L K ρ lim) (wOfF L K ρ lim) (kidsOf L K nd)=minL (fun x=>gL (wF L K ρ lim x)) ((kidsOf L K nd).filter fun x=>(wFo L K ρ lim x).isSome):=by
    unfold winF
    rw [hfil]
    refine minL_congr fun x hx=>?_
    obtain ⟨h1,h2⟩:=List.mem_filter.1 hx
    unfold gN gL
    rw [lenNd_rho h0 hL k0 hK k6 ρ lim (kids_mem h1) h2]
  cases hw:winF (rhoF' L K ρ lim) (wOfF L K ρ lim) (kidsOf L K nd) with
  | none =>
    rw [hwin] at hw
    rw [hw] at hk
    show hasF (rhoF' L K ρ lim) nd=false
    rw [hasF_rho h0 hL k0 hK k6 ρ lim h,hk]; rfl
  | some w =>
    obtain ⟨w1,w2⟩:=winF_mem hw
    have hwm:=kids_mem w1
    rw [hasF_rho h0 hL k0 hK k6 ρ lim hwm] at w2
    rw [hwin] at hw
    rw [hw] at hk
    have hk:wFo L K ρ lim nd=some (wF L K ρ lim w):=hk
    have hs:(wFo L K ρ lim nd).isSome=true:=by rw [hk]; rfl
    have e:wF L K ρ lim nd=wF L K ρ lim w:=by
      have:=wF_some ρ lim hs
      rw [hk] at this; exact (Option.some.inj this).symm
    refine ⟨(hasF_rho h0 hL k0 hK k6 ρ lim h).trans hs,?_,?_,?_⟩
    · rw [lenNd_rho h0 hL k0 hK k6 ρ lim h hs,lenNd_rho h0 hL k0 hK k6 ρ lim hwm w2,e]
    · rw [sF_rho h0 hL k0 hK k6 ρ lim h,sF_rho h0 hL k0 hK k6 ρ lim hwm,e]
    · rw [tripZF_rho h0 hL k0 hK k6 ρ lim h hs,tripZF_rho h0 hL k0 hK k6 ρ lim hwm w2,e]
theorem wOkF_of:WOk L K (wOfF L K ρ lim):=fun nd h hr=>by
  obtain ⟨_,_,_,_,hf,_⟩:=wN_kids h0 hL k0 hK k6 ρ h hr
  have hw:=win_ck h0 hL k0 hK k6
  unfold winCk at hw
  simp only [Bool.and_eq_true] at hw
  have hn:=lAll_mem hw.1.1 nd h
  unfold winNd at hn
  rw [rest_beq hr,cond_false] at hn
  simp only [Bool.and_eq_true] at hn
  have e:lenN (wOfF L K ρ lim) nd.id=cond (wFo L K ρ lim nd).isSome (lLen (wF L K ρ lim nd).pre) (lLen nd.pre + 1):=by
    unfold lenN wOfF
    rw [lFind_map (fun nd=>cond (wFo L K ρ lim nd).isSome (lLen (wF L K ρ lim nd).pre) (lLen nd.pre + 1)),hf]; rfl
  rw [e]
  cases hs:(wFo L K ρ lim nd).isSome with
  | false=>rw [cond_false]; omega
  | true =>
    rw [cond_true]
    have hm:=(wFo_mem ρ lim (wF_some ρ lim hs)).1
    have hlen:=lAll_mem hn.2 _ hm
    rw [Bool.and_eq_true] at hlen
    exact ⟨ble_t.1 hlen.1,ble_t.1 hlen.2⟩
end
theorem SameV.trans {ρ ρ' ρ'':Rho} {a b c:AV} (h:SameV ρ a ρ' b) (k:SameV ρ' b ρ'' c):SameV ρ a ρ'' c:=fun σ κ n m rc rc'=>(h σ κ n n rc rc).trans (k σ κ n m rc rc')
theorem vjs_same {ρ ρ':Rho} (h:∀ j,j < 60→ρ.iv j=ρ'.iv j):∀ (n k:Nat),k + n≤60→SameL ρ (lMap vj (upN n k)) ρ' (lMap vj (upN n k))
  | 0,_,_=>SameL.nil
  | n + 1,k,hk=>SameL.cons (SameV.int (h k (by omega))) (vjs_same h n (k + 1) (by omega))
theorem vR_like {p0 p:Par} (hP:p0.P=p.P) {L:Nat} (hL:L≤6) {ρ ρ':Rho} (h:∀ j,j < 60→ρ.iv j=ρ'.iv j) {j:Nat} {o:AObj} (hm:(j,o) ∈ vR L):SameA p0 p ρ o ρ' o:=by
  simp only [vR,List.mem_cons,List.not_mem_nil,or_false] at hm
  have lits:∀ (l:List Int),SameL ρ (l.map li) ρ' (l.map li):=by
    intro l
    induction l with
    | nil=>exact SameL.nil
    | cons a l ih=>exact SameL.cons (SameV.int rfl) ih
  rcases hm with h' | h' | h' | h' | h'
  · cases h'; exact SameA.cells hP (lits [0,998,1,6])
  · cases h'; exact SameA.cells hP (lits [0,3600,0,3600])
  · cases h'; exact SameA.cells hP (lits [1,20,0,50])
  · cases h'; exact SameA.cells hP (lits [0,99,0,99,1,1200])
  · cases h'; exact SameA.cells hP (vjs_same h _ _ (by omega))
theorem bookF_like {L:Nat} {ρ ρ':Rho} (h:∀ j,j < 66→ρ.iv j=ρ'.iv j):SameV ρ (bookF L) ρ' (bookF L):=by
  have v:∀ j,j < 66→SameV ρ (vj j) ρ' (vj j):=fun j hj=>SameV.int (h j hj)
  exact SameV.agg (SameL.cons (SameV.sliceX _ _ _ _) (SameL.cons (v 0 (by omega)) (SameL.cons (v 1 (by omega)) (SameL.cons (v 2 (by omega)) (SameL.cons (v 3 (by omega)) (SameL.cons (v 4 (by omega)) (SameL.cons (v 60 (by omega)) (SameL.cons (v 61 (by omega)) (SameL.cons (v 62 (by omega)) (SameL.cons (v 63 (by omega)) (SameL.cons (v 64 (by omega)) (SameL.cons (v 65 (by omega)) SameL.nil))))))))))))
noncomputable def fewN (L K:Nat) (ρ:Rho) (lim:Int):Option Nat:=(wFo L K ρ lim (rootOf L K)).map fun x=>lLen x.pre
noncomputable def fewLeaf (L:Nat) (r:Option Nat):AV × Heap:=match r with
  | some n=>(chV 2000 n,viewA 2001 (vR L ++ [(2000,.cells [] 3 true true)]))
  | none=>(noneVc,viewA 2000 (vR L))
def okSr (L K:Nat) (ρ:Rho):Prop:=okSB L ρ∧∀ c ∈ ivC (carryQ L K ++ startsQ),c.den ρ=true
structure IsBook (L K:Nat) (A:AV) (ρ ρ':Rho):Prop where
  k0:1≤K
  hK:K≤L + 1
  k6:K≤6
  sr:okSr L K ρ'
  iv:∀ j,j < 60→ρ.iv j=ρ'.iv j
  same:SameV ρ A ρ' (bookF L)
theorem few_read {ok : Rho → (Nat → Obj → Prop) → Prop} {L : Nat} (h0 : 1 ≤ L) (hL : L ≤ 6) {A : AV} {e : IE} {r : Option Nat} (hok : ∀ ρ m, ok ρ m → ∃ K ρ', IsBook L K A ρ ρ' ∧ (0 ≤ e.den ρ ∧ e.den ρ ≤ 99999) ∧ fewN L K ρ' (e.den ρ) = r) :
    CallOk (pOk ok) 15 [A,iA e] (viewA 2000 (vR L)) (.ret (fewLeaf L r)):=by
  refine CallOk.each fun ρ1 m1 hm1=>?_
  obtain ⟨K,ρx,⟨k0,hK,k6,⟨a1,a2⟩,b1,b2⟩,a3,a4⟩:=hok ρ1 m1 hm1
  let lim:=e.den ρ1
  let W:=wOfF L K ρx lim
  let ρ2:=rhoF' L K ρx lim
  refine ⟨fun ρ m=>ok ρ m∧ρ=ρ1,⟨hm1,rfl⟩,?_⟩
  have H:Base0 L K W:=⟨h0,hL,k0,hK,k6,wOkF_of h0 hL k0 hK k6 ρx lim⟩
  refine CallOk.read (p0:=pOk fun ρ _=>okNf L K W ρ∧0≤ρ.iv 499∧ρ.iv 499≤99999) (p:=pOk fun ρ m=>ok ρ m∧ρ=ρ1) rfl (few_said H) fun ρ b ⟨m,⟨_,e2⟩,b3⟩ Q k=>?_
  subst e2
  have k:Q (fewLeaf L r):=k
  have hl:LikeS ρx ρ2:=rhoF_like L K ρx lim
  have e499:ρ2.iv 499=e.den ρ:=rho_499 L K ρx _
  have iv:∀ j,j < 60→ρ.iv j=ρ2.iv j:=fun j hj=>(b1 j hj).trans (hl.iv j (by omega)).symm
  obtain ⟨r0,r1,r2⟩:=root_in h0 hL k0 hK k6
  have hN:okNf L K W ρ2:=⟨okSB_like h0 hL hl a1,ivC_like hl _ rfl a2,okWF_of h0 hL k0 hK k6 ρx lim⟩
  refine ⟨ρ2,⟨m,⟨hN,by rw [e499]; exact a3.1,by rw [e499]; exact a3.2⟩,b3⟩,?_,⟨rfl,fun j o hg=>⟨o,hg,vR_like rfl hL iv (viewA_get _ _ _ _ hg)⟩⟩,?_⟩
  · exact SameL.cons (b2.trans (bookF_like fun j hj=>(hl.iv j (by omega)).symm)) (SameL.cons (SameV.int e499.symm) SameL.nil)
  · unfold fewT
    have hh:=hasF_rho h0 hL k0 hK k6 ρx lim r0
    unfold hasF at hh
    simp only [T.Holds]
    cases hs:(wFo L K ρx lim (rootOf L K)).isSome with
    | false =>
      rw [hs] at hh
      have hn:(noF (rootOf L K)).den ρ2=true:=by
        cases hb:(noF (rootOf L K)).den ρ2 with
        | true=>rfl
        | false=>rw [hb] at hh; cases hh
      rw [if_pos hn]
      have hr:r=none:=by
        rw [← a4]; unfold fewN
        cases hw:wFo L K ρx lim (rootOf L K) with
        | none=>rfl
        | some x=>rw [hw] at hs; cases hs
      subst hr
      exact ⟨_,k,SameV.tup (SameL.cons SameV.nilslice (SameL.cons (SameV.int rfl) SameL.nil)),rfl,fun j o hg=>⟨o,hg,vR_like rfl hL (fun j hj=>(iv j hj).symm) (viewA_get _ _ _ _ hg)⟩⟩
    | true =>
      rw [hs] at hh
      have hn:¬ (noF (rootOf L K)).den ρ2=true:=fun hb=>by rw [hb] at hh; cases hh
      rw [if_neg hn]
      have hw:=wF_some ρx lim hs
      have hlen:lenN W 32=lLen (wF L K ρx lim (rootOf L K)).pre:=by
        have:=lenNd_rho h0 hL k0 hK k6 ρx lim r0 hs
        unfold lenNd at this
        rw [rest_beq (by omega),cond_false,r1] at this; exact this
      have hr:r=some (lenN W 32):=by
        rw [← a4,hlen]; unfold fewN
        show Option.map _ (wFo L K ρx lim (rootOf L K))=_
        rw [hw]; rfl
      subst hr
      refine ⟨_,k,SameV.tup (SameL.cons (SameV.sliceX _ _ _ _) (SameL.cons (SameV.int rfl) SameL.nil)),(viewA_next _ _).trans (viewA_next _ _).symm,fun j o hg=>?_⟩
      rcases List.mem_append.1 (viewA_get _ _ _ _ hg) with hm | hm
      · exact ⟨o,viewA_mem 2001 _ 0 rfl _ (List.mem_append_left _ hm),vR_like rfl hL (fun j hj=>(iv j hj).symm) hm⟩
      · rw [List.mem_singleton] at hm
        cases hm
        exact ⟨_,viewA_mem 2001 _ 0 rfl (2000,chOF L K (lenN W 32)) (List.mem_append_right _ (List.mem_singleton.2 rfl)),SameA.shrink⟩
section
variable {L K:Nat} (h0:1≤L) (hL:L≤6) (k0:1≤K) (hK:K≤L + 1) (k6:K≤6) {ρ:Rho} {lim:Int}
include h0 hL k0 hK k6
theorem few_root:uF L K ρ lim (rootOf L K)=(leafs L K).filter fun x=>decide (ρ.iv (400 + x.id)≤lim):=by
  have hw:=win_ck h0 hL k0 hK k6
  unfold winCk at hw
  simp only [Bool.and_eq_true] at hw
  unfold uF
  rw [eqNodes_eq _ _ hw.2.1.1]
theorem few_le {x:Node} (hx:x ∈ leafs L K) (hl:ρ.iv (400 + x.id)≤lim):∃ n,fewN L K ρ lim=some n∧n≤lLen x.pre:=by
  unfold fewN wFo
  rw [few_root h0 hL k0 hK k6]
  have hm:x ∈ (leafs L K).filter fun x=>decide (ρ.iv (400 + x.id)≤lim):=List.mem_filter.2 ⟨hx,decide_eq_true hl⟩
  cases hf:(leafs L K).filter fun x=>decide (ρ.iv (400 + x.id)≤lim) with
  | nil=>rw [hf] at hm; cases hm
  | cons a l =>
    rw [hf] at hm
    refine ⟨_,rfl,?_⟩
    have key:¬ lexP (gL x) (gL (minB gL a l)):=by
      rcases List.mem_cons.1 hm with rfl | hm
      · exact (minB_le gL l x).1
      · exact (minB_le gL l a).2 x hm
    exact Nat.not_lt.1 fun h=>key (.inr ⟨rfl,h⟩)
omit h0 hL k0 hK k6 in
theorem few_some {n:Nat} (h:fewN L K ρ lim=some n):∃ x ∈ leafs L K,ρ.iv (400 + x.id)≤lim∧n=lLen x.pre:=by
  unfold fewN at h
  cases hw:wFo L K ρ lim (rootOf L K) with
  | none=>rw [hw] at h; cases h
  | some x =>
    rw [hw] at h
    obtain ⟨h1,h2⟩:=wFo_mem ρ lim hw
    exact ⟨x,under_leaf h1,h2,(Option.some.inj h).symm⟩
end
end Go.Sx
namespace Go.Sx
open Go.RowKit Go.Proofs
set_option maxRecDepth 100000
theorem sliceV_same {ρ:Rho} {b x c:Nat} (h:ρ.iv x=(c:Int)):SameV ρ (.sliceX b 1 0 c) ρ (.sliceV b x):=by
  intro σ κ n m rc rc'
  simp only [conc,h]
  by_cases hk:c≤κ b
  · have hk2:(0:Int)≤(c:Int)∧(c:Int)≤(κ b:Int):=by omega
    rw [if_pos (show 0 + c≤κ b by omega),if_pos hk2]
    simp
  · have hk2:¬ ((0:Int)≤(c:Int)∧(c:Int)≤(κ b:Int)):=by omega
    rw [if_neg (show ¬ 0 + c≤κ b by omega),if_neg hk2]
theorem rhoW_like (L K:Nat) (ρ:Rho):LikeS ρ (rhoW L K ρ):=⟨fun i hi=>rhoW_iv (by omega),fun f hf=>by
  funext a b c
  exact rhoW_fi (by omega),fun _ _=>rfl⟩
noncomputable def leafNm (L:Nat) (names:List IE):AV × Heap:=(chV 2000 (lLen names),viewA 2001 (vR L ++ [(2000,.cells (lMap iA names) 3 true true)]))
theorem best_read {ok : Rho → (Nat → Obj → Prop) → Prop} {L : Nat} (h0 : 1 ≤ L) (hL : L ≤ 6) {A : AV} {names : List IE} (hok : ∀ ρ m, ok ρ m → ∃ K ρ', IsBook L K A ρ ρ' ∧ (wN L K ρ' (rootOf L K)).pre.map Int.ofNat = names.map (IE.den ρ)) :
    CallOk (pOk ok) 6 [A] (viewA 2000 (vR L)) (.ret (leafNm L names)):=by
  refine CallOk.each fun ρ1 m1 hm1=>?_
  obtain ⟨K,ρx,⟨k0,hK,k6,⟨a1,a2⟩,b1,b2⟩,a3⟩:=hok ρ1 m1 hm1
  let W:=wOf L K ρx
  let ρ2:=rhoW L K ρx
  refine ⟨fun ρ m=>ok ρ m∧ρ=ρ1,⟨hm1,rfl⟩,?_⟩
  have H:Base0 L K W:=⟨h0,hL,k0,hK,k6,wOk_of h0 hL k0 hK k6 ρx⟩
  refine CallOk.read (p0:=pNd L K W) (p:=pOk fun ρ m=>ok ρ m∧ρ=ρ1) rfl (best_said H) fun ρ b ⟨m,⟨_,e2⟩,b3⟩ Q k=>?_
  subst e2
  have k:Q (leafNm L names):=k
  have hl:LikeS ρx ρ2:=rhoW_like L K ρx
  have iv:∀ j,j < 60→ρ.iv j=ρ2.iv j:=fun j hj=>(b1 j hj).trans (hl.iv j (by omega)).symm
  obtain ⟨r0,r1,r2⟩:=root_in h0 hL k0 hK k6
  have hN:okNd L K W ρ2:=⟨okSB_like h0 hL hl a1,ivC_like hl _ rfl a2,okW_of h0 hL k0 hK k6 ρx⟩
  have hlen:lenN W 32=lLen names:=by
    have:=lenN_wOf h0 hL k0 hK k6 ρx r0 (by omega)
    rw [r1] at this
    rw [this]
    have e:=congrArg List.length a3
    rw [List.length_map,List.length_map] at e
    rw [lLen_eq,lLen_eq,e]
  have ht:=tripZ_wOf h0 hL k0 hK k6 ρx r0
  have el:lenNd W (rootOf L K)=lenN W 32:=by unfold lenNd; rw [rest_beq (by omega),cond_false,r1]
  unfold tripZ at ht
  rw [el,a3] at ht
  refine ⟨ρ2,⟨m,hN,b3⟩,SameL.cons (b2.trans (bookF_like fun j hj=>(hl.iv j (by omega)).symm)) SameL.nil,⟨rfl,fun j o hg=>⟨o,hg,vR_like rfl hL iv (viewA_get _ _ _ _ hg)⟩⟩,?_⟩
  refine ⟨_,k,by rw [hlen]; exact SameV.tup (SameL.cons (SameV.sliceX _ _ _ _) (SameL.cons (SameV.int rfl) SameL.nil)),(viewA_next _ _).trans (viewA_next _ _).symm,fun j o hg=>?_⟩
  rcases List.mem_append.1 (viewA_get _ _ _ _ hg) with hm | hm
  · exact ⟨o,viewA_mem 2001 _ 0 rfl _ (List.mem_append_left _ hm),vR_like rfl hL (fun j hj=>(iv j hj).symm) hm⟩
  · rw [List.mem_singleton] at hm
    cases hm
    refine ⟨_,viewA_mem 2001 _ 0 rfl (2000,chO L K (lenN W 32)) (List.mem_append_right _ (List.mem_singleton.2 rfl)),?_⟩
    unfold chO
    rw [tripsN_eq]
    exact SameA.cells rfl (same_ints ht)
noncomputable def startsV2 (a b:Nat):AV:=.tup [vj a,vj b,ln 0]
theorem litsN_eq' (l:List Nat):litsN l=lMap iA (l.map fun p=>.lit (Int.ofNat p)):=by unfold litsN; rw [lMap_eq,lMap_eq,List.map_map]; rfl
theorem starts_read {ok : Rho → (Nat → Obj → Prop) → Prop} {L : Nat} (h0 : 1 ≤ L) (hL : L ≤ 6) (hall : lAll (ckSt L) (plansL L) = true) {A : AV} {names : List IE} {a b : Nat} (hok : ∀ ρ m, ok ρ m → ∃ K ρ' i p, IsBook L K A ρ ρ' ∧ (plansL L)[i]? = some p ∧ (∀ c ∈ carryC p, c.den ρ' = true) ∧ p.map Int.ofNat = names.map (IE.den ρ) ∧ ρ.iv a = ρ'.iv (400 + i) ∧ ρ.iv b = ρ'.iv (464 + i)) :
    CallOk (pOk ok) 11 [A,.sliceX 2000 1 0 (lLen names)] (viewA 2001 (vR L ++ [(2000,ro (lMap iA names))])) (.ret (startsV2 a b,viewA 2001 (vR L ++ [(2000,ro (lMap iA names))]))):=by
  refine CallOk.each fun ρ1 m1 hm1=>?_
  obtain ⟨K,ρx,i,p,⟨k0,hK,k6,⟨a1,a2⟩,b1,b2⟩,hi,hc,hp,ha,hb⟩:=hok ρ1 m1 hm1
  refine ⟨fun ρ m=>ok ρ m∧ρ=ρ1,⟨hm1,rfl⟩,?_⟩
  have hlen:lLen p=lLen names:=by
    have e:=congrArg List.length hp
    rw [List.length_map,List.length_map] at e
    rw [lLen_eq,lLen_eq,e]
  refine CallOk.read (p0:=pP L p) (p:=pOk fun ρ m=>ok ρ m∧ρ=ρ1) rfl (starts_said h0 hL hi (lAll_mem hall p (List.mem_of_getElem? hi))) fun ρ b ⟨m,⟨_,e2⟩,b3⟩ Q k=>?_
  subst e2
  have cells:SameL ρ (lMap iA names) ρx (litsN p):=by
    rw [litsN_eq']
    refine same_ints ?_
    rw [← hp,List.map_map]; rfl
  refine ⟨ρx,⟨m,⟨a1,hc⟩,b3⟩,SameL.cons b2 (SameL.cons (by unfold planA; rw [hlen]; exact SameV.sliceX _ _ _ _) SameL.nil),⟨(viewA_next _ _).trans (viewA_next _ _).symm,fun j o hg=>?_⟩,?_⟩
  · rcases List.mem_append.1 (viewA_get _ _ _ _ hg) with hm | hm
    · exact ⟨o,viewA_mem 2001 _ 0 rfl _ (List.mem_append_left _ hm),vR_like rfl hL b1 hm⟩
    · rw [List.mem_singleton] at hm
      cases hm
      exact ⟨_,viewA_mem 2001 _ 0 rfl (2000,ro (lMap iA names)) (List.mem_append_right _ (List.mem_singleton.2 rfl)),SameA.cells rfl cells⟩
  · refine ⟨_,k,SameV.tup (SameL.cons (SameV.int ha.symm) (SameL.cons (SameV.int hb.symm) (SameL.cons (SameV.int rfl) SameL.nil))),(viewA_next _ _).trans (viewA_next _ _).symm,fun j o hg=>?_⟩
    rcases List.mem_append.1 (viewA_get _ _ _ _ hg) with hm | hm
    · exact ⟨o,viewA_mem 2001 _ 0 rfl _ (List.mem_append_left _ hm),vR_like rfl hL (fun j hj=>(b1 j hj).symm) hm⟩
    · rw [List.mem_singleton] at hm
      cases hm
      exact ⟨_,viewA_mem 2001 (vP L p) 0 rfl (2000,ro (litsN p)) (List.mem_append_right _ (List.mem_singleton.2 rfl)),SameA.cells rfl (SameL.symm cells)⟩
theorem starts_names {ok : Rho → (Nat → Obj → Prop) → Prop} {L : Nat} {A : AV} {names : List IE} {a b : Nat} (hc : CallOk (pOk ok) 11 [A, .sliceX 2000 1 0 (lLen names)] (viewA 2001 (vR L ++ [(2000, ro (lMap iA names))])) (.ret (startsV2 a b, viewA 2001 (vR L ++ [(2000, ro (lMap iA names))]))))
    {c:Nat} (hA:∀ E:Env,conc (E.mv 2000 c 2001) A=conc E A) {h:Heap} (h1:lessAll h (vR L)=true) (h2:lessO (ro (lMap iA names)) (h.get c)=true):CallOk (pOk ok) 11 [A,.sliceX c 1 0 (lLen names)] h (.ret (startsV2 a b,h)):=by
  refine CallOk.moved (a:=2000) (c:=c) hc (by omega) (by omega) rfl (fun g hg=>?_) (fun g hg=>?_) (fun E=>?_)
  · rcases List.mem_append.1 hg with hg | hg
    · simp only [vR,List.mem_cons,List.not_mem_nil,or_false] at hg
      rcases hg with rfl | rfl | rfl | rfl | rfl
      · exact ⟨by omega,rfl,rfl⟩
      · exact ⟨by omega,rfl,rfl⟩
      · exact ⟨by omega,rfl,rfl⟩
      · exact ⟨by omega,rfl,rfl⟩
      · exact ⟨by omega,rfl,ids0 _⟩
    · rw [List.mem_singleton] at hg; subst hg
      exact ⟨by omega,rfl,idsI 0 names⟩
  · have hl:=lessAll_ok h1
    rcases List.mem_append.1 hg with hg | hg
    · have hlg:=hl g hg
      have ne:g.1 ≠ 2000:=by
        simp only [vR,List.mem_cons,List.not_mem_nil,or_false] at hg
        rcases hg with rfl | rfl | rfl | rfl | rfl <;> exact Nat.ne_of_lt (Nat.le_of_ble_eq_true rfl)
      unfold mvN
      rw [if_neg ne]; exact hlg
    · rw [List.mem_singleton] at hg; subst hg
      show ∃ o,h.get (mvN 2000 c 2000)=some o∧_
      have e:mvN 2000 c 2000=c:=if_pos rfl
      rw [e]
      exact lessO_ok h2
  · have e2:conc (E.mv 2000 c 2001) (.sliceX 2000 1 0 (lLen names))=conc E (.sliceX c 1 0 (lLen names)):=by simp [conc,Env.mv,mvN]
    simp only [concL,hA E,e2]
noncomputable def fewLeafV (L:Nat) (some?:Bool) (i:Nat):AV × Heap:=cond some? (.tup [.sliceV 2000 i,ln 0],viewA 2001 (vR L ++ [(2000,.cells [] 3 true true)])) (noneVc,viewA 2000 (vR L))
theorem few_names {ok : Rho → (Nat → Obj → Prop) → Prop} {L : Nat} (h0 : 1 ≤ L) (hL : L ≤ 6) {A : AV} {e : IE} {f : Bool} {i : Nat} (hok : ∀ ρ m, ok ρ m → ∃ K ρ' r, IsBook L K A ρ ρ' ∧ (0 ≤ e.den ρ ∧ e.den ρ ≤ 99999) ∧ fewN L K ρ' (e.den ρ) = r ∧ r.isSome = f ∧ ∀ n, r = some n → ρ.iv i = (n : Int)) :
    CallOk (pOk ok) 15 [A,iA e] (viewA 2000 (vR L)) (.ret (fewLeafV L f i)):=by
  refine CallOk.each fun ρ1 m1 hm1=>?_
  obtain ⟨K,ρx,r,hB,a3,a4,a5,a6⟩:=hok ρ1 m1 hm1
  refine ⟨fun ρ m=>ok ρ m∧ρ=ρ1,⟨hm1,rfl⟩,?_⟩
  refine CallOk.read (p0:=pOk fun ρ m=>ok ρ m∧ρ=ρ1) (p:=pOk fun ρ m=>ok ρ m∧ρ=ρ1) rfl (few_read h0 hL (A:=A) (e:=e) (r:=r) fun ρ m ⟨_,e2⟩=>by subst e2; exact ⟨K,ρx,hB,a3,a4⟩) fun ρ b hok' Q k=>⟨ρ,hok',SameL.refl _ _,⟨rfl,fun j o g=>⟨o,g,SameA.refl o⟩⟩,?_⟩
  obtain ⟨_,⟨_,e2⟩,_⟩:=hok'
  have k:Q (fewLeafV L f i):=k
  rw [← a5] at k
  cases r with
  | none=>exact ⟨_,k,SameV.refl _ _,rfl,fun j o g=>⟨o,g,SameA.refl o⟩⟩
  | some n =>
    have hi:ρ.iv i=(n:Int):=by rw [e2]; exact a6 n rfl
    refine ⟨_,k,SameV.tup (SameL.cons (sliceV_same hi) (SameL.cons (SameV.int rfl) SameL.nil)),(viewA_next _ _).trans (viewA_next _ _).symm,fun j o hg=>?_⟩
    rcases List.mem_append.1 (viewA_get _ _ _ _ hg) with hm | hm
    · exact ⟨o,viewA_mem 2001 _ 0 rfl _ (List.mem_append_left _ hm),SameA.refl o⟩
    · rw [List.mem_singleton] at hm
      cases hm
      exact ⟨_,viewA_mem 2001 _ 0 rfl (2000,.cells [] 3 true true) (List.mem_append_right _ (List.mem_singleton.2 rfl)),SameA.refl _⟩
end Go.Sx
namespace Go.Sx
open Go.RowKit Go.Proofs
set_option maxRecDepth 100000
noncomputable def orcTu (qs:List (IE × Int × IE)) (args:List AV) (h:Heap):Option (T (AV × Heap)) :=
  match args with
  | [.int k1 a,.int k2 m]=>cond (and (isI64 k1) (isI64 k2)) (@List.rec (IE × Int × IE) (fun _=>Option (T (AV × Heap))) none (fun q _ ih=>cond (and (eqIE a q.1) (eqIE m (.lit q.2.1))) (some (.ret (.int .i64 q.2.2,h))) ih) qs) none
  | _=>none
noncomputable def turnsE (sw:Nat):List (IE × Int × IE):=[(.var 94,600,.var 71),(.var 93,3,.lit (Int.ofNat sw)),(.var 71,3,.var 76),(.var 97,100000,.var 72)]
noncomputable def bookX (L sw:Nat):AV:=match sw with
  | 0=>.agg [.sliceX 1001 6 0 L,vj 0,vj 1,vj 2,vj 3,vj 4,vj 60,vj 61,vj 62,vj 63,vj 64,.int .i64 (.mn (.lit 6) (.bin .add .i64 (.bin .add .i64 (.var 65) (.lit 1)) (.var 76)))]
  | 1=>.agg [.sliceX 1001 6 0 L,vj 0,vj 1,vj 2,vj 3,vj 4,vj 60,.int .i64 (.mx (.lit 0) (.bin .sub .i64 (.var 61) (.var 71))),.int .i64 (.mx (.lit 0) (.bin .sub .i64 (.var 62) (.var 71))),vj 63,vj 64,vj 65]
  | _=>.agg [.sliceX 1001 6 0 L,vj 0,vj 1,vj 2,vj 3,vj 4,vj 60,vj 61,vj 62,.int .i64 (.mx (.lit 0) (.bin .sub .i64 (.var 63) (.var 71))),.int .i64 (.mx (.lit 0) (.bin .sub .i64 (.var 64) (.var 71))),vj 65]
noncomputable def nmE (f i:Nat):IE:=.app f (.lit (Int.ofNat i)) (.lit 0) (.lit 0)
noncomputable def nmsE (f k:Nat):List IE:=lMap (nmE f) (upN k 0)
noncomputable def laterE:IE:=.mn (.lit 99999) (.bin .add .i64 (.var 72) (.var 71))
noncomputable def orcSt2 (L:Nat) (qs:List (AV × List IE × Nat × Nat)) (args:List AV) (h:Heap):Option (T (AV × Heap)) :=
  match args with
  | [fa, .sliceX c s z n] => cond (and (and (Nat.beq s 1) (Nat.beq z 0)) (lessAll h (vR L)))
      (@List.rec (AV × List IE × Nat × Nat) (fun _=>Option (T (AV × Heap))) none (fun q _ ih=>cond (and (eqAV fa q.1) (and (Nat.beq n (lLen q.2.1)) (lessO (ro (lMap iA q.2.1)) (h.get c)))) (some (.ret (startsV2 q.2.2.1 q.2.2.2,h))) ih) qs) none
  | _=>none
noncomputable def orcFw (L:Nat) (qs:List (AV × IE × Bool × Nat)) (args:List AV) (h:Heap):Option (T (AV × Heap)) :=
  @List.rec (AV × IE × Bool × Nat) (fun _=>Option (T (AV × Heap))) none (fun q _ ih=>match smallO 2000 [q.1,iA q.2.1] (vR L) (.ret (fewLeafV L q.2.2.1 q.2.2.2)) (fun _=>cond q.2.2.1 [2000] []) args h with
    | some t=>some t
    | none=>ih) qs
noncomputable def orcB2 (L:Nat) (qs:List (AV × List IE)) (args:List AV) (h:Heap):Option (T (AV × Heap)) :=
  @List.rec (AV × List IE) (fun _=>Option (T (AV × Heap))) none (fun q _ ih=>match smallO 2000 [q.1] (vR L) (.ret (leafNm L q.2)) (fun _=>[2000]) args h with
    | some t=>some t
    | none=>ih) qs
noncomputable def bestsE (L sw wl wm:Nat):List (AV × List IE):=[(bookF L,nmsE 9712 wl),(bookX L sw,nmsE 9713 wm)]
noncomputable def startsE (L sw wl wm:Nat):List (AV × List IE × Nat × Nat):=[(bookF L,nmsE 9712 wl,380,381),(bookX L sw,nmsE 9713 wm,382,383)]
noncomputable def fewsE (L sw:Nat) (fp fq fr:Bool):List (AV × IE × Bool × Nat):=[(bookF L,.var 72,fp,73),(bookX L sw,.var 72,fq,74),(bookF L,laterE,fr,75)]
noncomputable def orcE (L sw wl wm:Nat) (fp fq fr:Bool) (f:FuncId) (args:List AV) (h:Heap):Option (T (AV × Heap)) :=
  cond (Nat.beq f 8) (closedOrc glR args h) (cond (Nat.beq f 13) (orcTu (turnsE sw) args h)
  (cond (Nat.beq f 7) (smallO 2000 [bookF L] (vR L) (.ret (tag true,viewA 2000 (vR L))) (fun _=>[]) args h)
  (cond (Nat.beq f 6) (orcB2 L (bestsE L sw wl wm) args h)
  (cond (Nat.beq f 11) (orcSt2 L (startsE L sw wl wm) args h)
  (cond (Nat.beq f 15) (orcFw L (fewsE L sw fp fq fr) args h) none)))))
noncomputable def tbE (L sw wl wm:Nat) (fp fq fr:Bool):Tabs:=⟨Sx.Tryd.ft.get,lFind Sx.Tryd.rt,2000,orcE L sw wl wm fp fq fr⟩
noncomputable def qE:List (Nat × Int × Int):=[(61,0,3600),(62,0,3600),(63,0,3600),(64,0,3600),(65,1,6),(71,0,599),(72,0,99999),(76,0,2),(73,0,6),(74,0,6),(75,0,6)]
noncomputable def csE (fp:Bool):List BE:=.cmp .leq (.var 382) (.var 380) :: cond fp [.cmp .leq (.var 74) (.var 73),.cmp .leq (.var 75) (.var 73)] []
noncomputable def lawE (L sw wl wm:Nat) (fp fq fr:Bool):Bool:=allK isTrueK (evalN (tbE L sw wl wm fp fq fr) 60 false 5 [bookF L,.agg [vj 93,vj 94,vj 97]] (viewA 2000 (vR L))) (knOf qE (csE fp))
noncomputable def ckE1 (L wl wm:Nat):Bool:=lAll (fun sw=>and (lawE L sw wl wm true true true) (and (and (lawE L sw wl wm false true true) (lawE L sw wl wm false true false)) (and (lawE L sw wl wm false false true) (lawE L sw wl wm false false false)))) [0,1,2]
noncomputable def ckE (L wl:Nat):Bool:=lAll (ckE1 L wl) (upN L 1)
end Go.Sx
namespace Go.Sx
open Go.RowKit Go.Proofs
set_option maxRecDepth 100000
noncomputable def le2 (a b:IE):BE:=.cmp .leq a b
noncomputable def reelC (b:Nat):List BE :=
  [le2 (.lit 0) (.var b),le2 (.var b) (.var (b + 1)),le2 (.var (b + 1)) (.lit 99),le2 (.lit 0) (.var (b + 2)),le2 (.var (b + 2)) (.var (b + 3)),le2 (.var (b + 3)) (.lit 99),le2 (.lit 1) (.var (b + 4)),le2 (.var (b + 4)) (.var (b + 5)),le2 (.var (b + 5)) (.lit 1200),le2 (.var b) (.var (b + 3))]
noncomputable def restC:List BE:=[le2 (.lit 1) (.var 0),le2 (.var 0) (.var 1),le2 (.var 1) (.lit 20),le2 (.lit 0) (.var 2),le2 (.var 2) (.var 3),le2 (.var 3) (.lit 50),le2 (.lit 1) (.var 4),le2 (.var 4) (.lit 6000)]
noncomputable def csUp:Nat→Nat→List BE
  | 0,_=>restC
  | n + 1,b=>reelC b ++ csUp n (b + 6)
noncomputable def csL (L:Nat):List BE:=csUp L 10
noncomputable def bookCs:List BE:=[le2 (.lit 0) (.var 60),le2 (.var 60) (.lit 998),le2 (.lit 1) (.var 65),le2 (.var 65) (.lit 6),le2 (.lit 0) (.var 61),le2 (.var 61) (.var 62),le2 (.var 62) (.lit 3600),le2 (.lit 0) (.var 63),le2 (.var 63) (.var 64),le2 (.var 64) (.lit 3600)]
noncomputable def conjC:List BE→BE
  | []=>.lit true
  | c :: l=>.and c (conjC l)
theorem conj_false {ρ:Rho}:∀ (l:List BE),(conjC l).den ρ=true→∀ c ∈ l,c.den ρ=true
  | [],_,c,hc=>by cases hc
  | d :: l,h,c,hc=>by
    simp only [conjC,BE.den,Bool.and_eq_true] at h
    rcases List.mem_cons.1 hc with rfl | hc
    · exact h.1
    · exact conj_false l h.2 c hc
noncomputable def cellsUp:Nat→Nat→List AV
  | 0,_=>[]
  | n + 1,i=>vi i :: cellsUp n (i + 1)
noncomputable def filmV (L:Nat):AV:=.agg [.sliceX 1001 6 0 L,vi 0,vi 1,vi 2,vi 3,vi 4]
noncomputable def viewV (L:Nat):List (Nat × List AV):=(1001,cellsUp (6 * L) 10) :: glR
noncomputable def notFilm (L:Nat):CSpec:=⟨43,[filmV L],viewV L,2000,[],.br (conjC (csL L)) (.fail 1) (.ret (.bool (.lit false)))⟩
noncomputable def ckI (L:Nat):Bool:=(notFilm L).chk (evalN tb0 60 false 43 (notFilm L).args (viewHeap 2000 (notFilm L).view))
theorem ckI_all:lAll ckI [1,2,3,4,5,6]=true:=by kernel_rfl
noncomputable def orcTI (L:Nat) (f:FuncId) (args:List AV) (h:Heap):Option (T (AV × Heap)) :=
  cond (Nat.beq f 8) (closedOrc glR args h) (cond (Nat.beq f 43) ((notFilm L).orc args h) none)
noncomputable def tbTI (L:Nat):Tabs:=⟨Sx.Tryd.ft.get,lFind Sx.Tryd.rt,2000,orcTI L⟩
noncomputable def bookW (s:AV):AV:=.agg [s,vj 0,vj 1,vj 2,vj 3,vj 4,vj 60,vj 61,vj 62,vj 63,vj 64,vj 65]
noncomputable def lawTI (L:Nat):Bool:=allK isTrueK (evalN (tbTI L) 60 false 5 [bookF L,.agg [vj 93,vj 94,vj 97]] (viewHeap 2000 (viewV L))) ⟨.nil,[],[⟨conjC (csL L),false⟩]⟩
theorem lawTI_all:lAll lawTI [1,2,3,4,5,6]=true:=by kernel_rfl
noncomputable def orcTS (f:FuncId) (args:List AV) (h:Heap):Option (T (AV × Heap)):=cond (Nat.beq f 8) (closedOrc glR args h) none
noncomputable def tbTS:Tabs:=⟨Sx.Tryd.ft.get,lFind Sx.Tryd.rt,2000,orcTS⟩
noncomputable def lawTS (s:AV) (cs:List BE):Bool:=allK isTrueK (evalN tbTS 60 false 5 [bookW s,.agg [vj 93,vj 94,vj 97]] (viewHeap 2000 glR)) (knOf [] cs)
theorem lawTS_nil:lawTS .nilslice []=true:=by kernel_rfl
theorem lawTS_few:lawTS (.sliceU 95) [.cmp .leq (.var 95) (.lit 0)]=true:=by kernel_rfl
theorem lawTS_many:lawTS (.sliceU 95) [.cmp .leq (.lit 7) (.var 95)]=true:=by kernel_rfl
theorem orcTI_ok {L:Nat} (hL:L ∈ [1,2,3,4,5,6]):∀ f args h t,orcTI L f args h=some t→CallOk pT f args h t:=by
  intro f args h t e
  have h1:ckI L=true:=lAll_mem ckI_all L hL
  unfold orcTI at e
  cases h25:Nat.beq f 8 with
  | true=>rw [h25] at e; have:=beq_t.1 h25; subst this; exact carried_orc e
  | false =>
    rw [h25,cond_false] at e
    obtain ⟨h68,e⟩:=cond_some e
    have:=beq_t.1 h68; subst this
    exact CSpec.ok (c:=notFilm L) (eval_ok tabs0 60 43 (notFilm L).args _) h1 (Nat.le_of_ble_eq_true rfl) e
theorem orcTS_ok:∀ f args h t,orcTS f args h=some t→CallOk pT f args h t:=by
  intro f args h t e
  unfold orcTS at e
  obtain ⟨h25,e⟩:=cond_some e
  have:=beq_t.1 h25; subst this
  exact carried_orc e
section
variable {E:Env} {w:World} {vs:List Value}
theorem waits_bad {L : Nat} (hL : L ∈ [1, 2, 3, 4, 5, 6]) (hv : ∀ g ∈ viewV L, ViewIn w E g) (hf : ∀ b, 2000 ≤ b → E.σ b = none) (hg : ∀ b, b < 1000 → E.σ b = some (b, 0)) (hn : E.n ≤ 2000)
    (ha:concL E ([bookF L,.agg [vj 93,vj 94,vj 97]])=some vs) (hno:¬ ∀ c ∈ csL L,c.den E.ρ=true):Calls Tryd.prog 5 vs.toArray w fun e w'=>e=.returned (.bool true)∧Below w.heap.size w w':=by
  have h1:lawTI L=true:=lAll_mem lawTI_all L hL
  have hc:(conjC (csL L)).den E.ρ=false:=by
    cases h:(conjC (csL L)).den E.ρ with
    | false=>rfl
    | true=>exact absurd (conj_false _ h) hno
  have hK:KnOk E.ρ ⟨.nil,[],[⟨conjC (csL L),false⟩]⟩:=by
    refine ⟨fun i v h=>?_,fun f hf=>(List.not_mem_nil hf).elim,fun a ha=>?_⟩
    · rw [PT.get_nil] at h; cases h
    · rcases List.mem_singleton.1 ha with rfl; exact hc
  exact law_view (Tryd.tab (orcTI L) (orcTI_ok hL) 2000) hv hf hg hn ha (allK_ok (fun K a H h=>isTrueK_ok H h) _ _ hK h1) (Par.okB_all (fun _ _=>trivial) _ _)
theorem waits_short {s : AV} {cs : List BE} (h1 : lawTS s cs = true) (hv : ∀ g ∈ glR, ViewIn w E g) (hf : ∀ b, 2000 ≤ b → E.σ b = none) (hg : ∀ b, b < 1000 → E.σ b = some (b, 0)) (hn : E.n ≤ 2000)
    (ha:concL E [bookW s,.agg [vj 93,vj 94,vj 97]]=some vs) (hcs:∀ c ∈ cs,c.den E.ρ=true):Calls Tryd.prog 5 vs.toArray w fun e w'=>e=.returned (.bool true)∧Below w.heap.size w w':=by
  have hK:KnOk E.ρ (knOf [] cs):=knOf_ok (fun c hc=>by simp [ivC] at hc) hcs
  exact law_view (Tryd.tab orcTS orcTS_ok 2000) hv hf hg hn ha (allK_ok (fun K a H h=>isTrueK_ok H h) _ _ hK h1) (Par.okB_all (fun _ _=>trivial) _ _)
end
theorem first_none {L:Nat} (h0:1≤L) (hL:L≤6):CallOk (pOk fun ρ _=>okT L ρ∧okFilm L ρ∧(noneB L).den ρ=true) 39 [filmF L] (viewA 2000 (vK L)) (.ret (noneVF,viewA 2001 (vF0 L))):=by
  refine CallOk.read (p0:=pF L) (p:=pOk fun ρ _=>okT L ρ∧okFilm L ρ∧(noneB L).den ρ=true) rfl (first_said h0 hL) fun ρ b ⟨m,k1,k2⟩ Q k=>⟨ρ,⟨m,⟨k1.1,k1.2.1⟩,k2⟩,SameL.refl _ _,⟨rfl,fun j o g=>⟨o,g,SameA.refl o⟩⟩,?_⟩
  have k:Q (noneVF,viewA 2001 (vF0 L)):=k
  have hn:(noneE (fullM L) (.lit 0) (.lit 100)).den ρ=true:=k1.2.2
  unfold saidF
  simp only [T.Holds]
  rw [if_pos hn]
  exact ⟨_,k,SameV.refl _ _,rfl,fun j o g=>⟨o,g,SameA.refl o⟩⟩
noncomputable def orcTN (L:Nat) (f:FuncId) (args:List AV) (h:Heap):Option (T (AV × Heap)) :=
  cond (Nat.beq f 8) (closedOrc glR args h) (cond (Nat.beq f 39) (smallO 2000 [filmF L] (vK L) (.ret (noneVF,viewA 2001 (vF0 L))) (fun _=>[2000]) args h) none)
noncomputable def tbTN (L:Nat):Tabs:=⟨Sx.Tryd.ft.get,lFind Sx.Tryd.rt,2000,orcTN L⟩
noncomputable def lawTN (L:Nat):Bool:=allK isTrueK (evalN (tbTN L) 60 false 5 [bookF L,.agg [vj 93,vj 94,vj 97]] (viewA 2000 (vR L))) (knOf [] [])
theorem lawTN_all:lAll lawTN [1,2,3,4,5,6]=true:=by kernel_rfl
noncomputable def notRelay (L:Nat):CSpec:=⟨40,[bookF L],viewV L,2000,[],.br (conjC bookCs) (.fail 1) (.ret (.bool (.lit false)))⟩
noncomputable def ckNR (L:Nat):Bool:=(notRelay L).chk (evalN tb0 60 false 40 (notRelay L).args (viewHeap 2000 (notRelay L).view))
theorem ckNR_all:lAll ckNR [1,2,3,4,5,6]=true:=by kernel_rfl
theorem first_found' {L:Nat} (h0:1≤L) (hL:L≤6):CallOk (pOk fun ρ _=>okT L ρ∧okFilm L ρ∧(noneB L).den ρ=false) 39 [filmF L] (viewA 2000 (vK L)) (.ret (foundVF L,viewA 2001 (vF L))):=by
  refine CallOk.read (p0:=pF L) (p:=pOk fun ρ _=>okT L ρ∧okFilm L ρ∧(noneB L).den ρ=false) rfl (first_said h0 hL) fun ρ b ⟨m,k1,k2⟩ Q k=>⟨ρ,⟨m,⟨k1.1,k1.2.1⟩,k2⟩,SameL.refl _ _,⟨rfl,fun j o g=>⟨o,g,SameA.refl o⟩⟩,?_⟩
  have k:Q (foundVF L,viewA 2001 (vF L)):=k
  have hn:(noneE (fullM L) (.lit 0) (.lit 100)).den ρ=false:=k1.2.2
  unfold saidF
  simp only [T.Holds]
  rw [if_neg (by rw [hn]; exact Bool.false_ne_true)]
  exact ⟨_,k,SameV.refl _ _,rfl,fun j o g=>⟨o,g,SameA.refl o⟩⟩
noncomputable def orcTB (L:Nat) (f:FuncId) (args:List AV) (h:Heap):Option (T (AV × Heap)) :=
  cond (Nat.beq f 8) (closedOrc glR args h) (cond (Nat.beq f 39) (smallO 2000 [filmF L] (vK L) (.ret (foundVF L,viewA 2001 (vF L))) (fun _=>[2000]) args h) (cond (Nat.beq f 40) ((notRelay L).orc args h) none))
noncomputable def tbTB (L:Nat):Tabs:=⟨Sx.Tryd.ft.get,lFind Sx.Tryd.rt,2000,orcTB L⟩
noncomputable def lawTB (L:Nat):Bool:=allK isTrueK (evalN (tbTB L) 60 false 5 [bookF L,.agg [vj 93,vj 94,vj 97]] (viewA 2000 (vR L))) ⟨.nil,[],[⟨conjC bookCs,false⟩]⟩
theorem lawTB_all:lAll lawTB [1,2,3,4,5,6]=true:=by kernel_rfl
theorem law_end {ok : Rho → (Nat → Obj → Prop) → Prop} {orc : FuncId → List AV → Heap → Option (T (AV × Heap))} {L : Nat} (ho : ∀ f args h t, orc f args h = some t → CallOk (pOk ok) f args h t) {E : Env} {w : World} {vs : List Value} {K : Kn}
    (hck:allK isTrueK (evalN ⟨Sx.Tryd.ft.get,lFind Sx.Tryd.rt,2000,orc⟩ 60 false 5 [bookF L,.agg [vj 93,vj 94,vj 97]] (viewA 2000 (vR L))) K=true) (hK:KnOk E.ρ K)
    (HS:HeapOk (pOk ok) E (viewA 2000 (vR L)) (Base.of w) w) (ha:concL E [bookF L,.agg [vj 93,vj 94,vj 97]]=some vs):Calls Tryd.prog 5 vs.toArray w fun e w'=>e=.returned (.bool true)∧Below w.heap.size w w':=by
  have key:=allK_ok (fun K a H h=>isTrueK_ok H h) _ _ hK hck
  obtain ⟨r1,r2⟩:=eval_ok (Tryd.tab orc ho 2000) 60 5 [bookF L,.agg [vj 93,vj 94,vj 97]] (viewA 2000 (vR L)) vs E (Base.of w) w _ (fun cv w'=>cv=.bool true∧Below w.heap.size w w') key HS ha
    (fun v h' E2 w' cv hq2 hle HH' hv2=>by
      obtain ⟨b,hb1,hb2⟩:=hq2
      refine ⟨?_,Base.keeps_below HH'.below⟩
      have hb1:v=.bool b:=hb1
      rw [hb1] at hv2
      simp only [conc,Option.some.injEq] at hv2
      rw [← hv2,hle.ρ,hb2])
  refine r2.mono ?_
  rintro e w' ⟨cv,rfl,rfl,hb⟩
  exact ⟨rfl,hb⟩
theorem waits_none {L : Nat} (h0 : 1 ≤ L) (hL : L ≤ 6) {E : Env} {w : World} {vs : List Value} (HS : HeapOk (pOk fun ρ _ => okT L ρ ∧ okFilm L ρ ∧ (noneB L).den ρ = true) E (viewA 2000 (vR L)) (Base.of w) w) (ha : concL E [bookF L, .agg [vj 93, vj 94, vj 97]] = some vs) :
    Calls Tryd.prog 5 vs.toArray w fun e w'=>e=.returned (.bool true)∧Below w.heap.size w w':=by
  refine law_end (orc:=orcTN L) (fun f args h t e=>?_) (K:=knOf [] []) (lAll_mem lawTN_all L (mem_six h0 hL)) (knOf_ok (fun c hc=>by cases hc) (fun c hc=>by cases hc)) HS ha
  unfold orcTN at e
  cases h7:Nat.beq f 8 with
  | true=>rw [h7,cond_true] at e; rw [beq_t.1 h7]; exact CallOk.weak (fun _ _ _=>trivial) (carried_orc e)
  | false =>
    rw [h7,cond_false] at e
    obtain ⟨h40,e1⟩:=cond_some e
    rw [beq_t.1 h40]
    exact smallO_ok (first_none h0 hL) (by omega) rfl (viewK_ok h0 hL) e1
theorem waits_book {L : Nat} (h0 : 1 ≤ L) (hL : L ≤ 6) {E : Env} {w : World} {vs : List Value} (HS : HeapOk (pOk fun ρ _ => okT L ρ ∧ okFilm L ρ ∧ (noneB L).den ρ = false) E (viewA 2000 (vR L)) (Base.of w) w) (ha : concL E [bookF L, .agg [vj 93, vj 94, vj 97]] = some vs)
    (hno:¬ ∀ c ∈ bookCs,c.den E.ρ=true):Calls Tryd.prog 5 vs.toArray w fun e w'=>e=.returned (.bool true)∧Below w.heap.size w w':=by
  have hc:(conjC bookCs).den E.ρ=false:=by
    cases h:(conjC bookCs).den E.ρ with
    | false=>rfl
    | true=>exact absurd (conj_false _ h) hno
  have hK:KnOk E.ρ ⟨.nil,[],[⟨conjC bookCs,false⟩]⟩:=by
    refine ⟨fun i v h=>?_,fun f hf=>(List.not_mem_nil hf).elim,fun a ha=>?_⟩
    · rw [PT.get_nil] at h; cases h
    · rcases List.mem_singleton.1 ha with rfl; exact hc
  refine law_end (orc:=orcTB L) (fun f args h t e=>?_) (lAll_mem lawTB_all L (mem_six h0 hL)) hK HS ha
  unfold orcTB at e
  cases h7:Nat.beq f 8 with
  | true=>rw [h7,cond_true] at e; rw [beq_t.1 h7]; exact CallOk.weak (fun _ _ _=>trivial) (carried_orc e)
  | false =>
    rw [h7,cond_false] at e
    cases h40:Nat.beq f 39 with
    | true=>rw [h40,cond_true] at e; rw [beq_t.1 h40]; exact smallO_ok (first_found' h0 hL) (by omega) rfl (viewK_ok h0 hL) e
    | false =>
      rw [h40,cond_false] at e
      obtain ⟨h70,e1⟩:=cond_some e
      have:=beq_t.1 h70; subst this
      exact CallOk.weak (ok0:=fun _ _=>True) (fun _ _ _=>trivial) (CSpec.ok (c:=notRelay L) (p:=pT) (eval_ok tabs0 60 40 (notRelay L).args _) (lAll_mem ckNR_all L (mem_six h0 hL)) (Nat.le_of_ble_eq_true rfl) e1)
end Go.Sx
namespace Go.Sx
open Go.RowKit Go.Proofs
set_option maxRecDepth 100000
theorem turnF_in {n m:Int} (h:1≤m):0≤turnF n m∧turnF n m < m:=by
  unfold turnF
  rw [if_neg (by omega)]
  exact ⟨Int.emod_nonneg _ (by omega),Int.emod_lt_of_pos _ (by omega)⟩
theorem ckSt4_all:lAll (ckSt 4) (plansL 4)=true:=by
  have h4:lAll (ckSt 4) (lDrop (plansL 4) 8)=true:=by kernel_rfl
  have h3:=chunk ckSt4_3 h4
  have h2:=chunk ckSt4_2 h3
  have h1:=chunk ckSt4_1 h2
  have h0:=chunk ckSt4_0 h1
  rw [lDrop_eq,List.drop_zero] at h0
  exact h0
theorem ckSt5_all:lAll (ckSt 5) (plansL 5)=true:=by
  have h8:lAll (ckSt 5) (lDrop (plansL 5) 16)=true:=by kernel_rfl
  have h7:=chunk ckSt5_7 h8
  have h6:=chunk ckSt5_6 h7
  have h5:=chunk ckSt5_5 h6
  have h4:=chunk ckSt5_4 h5
  have h3:=chunk ckSt5_3 h4
  have h2:=chunk ckSt5_2 h3
  have h1:=chunk ckSt5_1 h2
  have h0:=chunk ckSt5_0 h1
  rw [lDrop_eq,List.drop_zero] at h0
  exact h0
theorem ckSt6_all:lAll (ckSt 6) (plansL 6)=true:=by
  have h32:lAll (ckSt 6) (lDrop (plansL 6) 32)=true:=by kernel_rfl
  have h31:=chunk ckSt6_31 h32
  have h30:=chunk ckSt6_30 h31
  have h29:=chunk ckSt6_29 h30
  have h28:=chunk ckSt6_28 h29
  have h27:=chunk ckSt6_27 h28
  have h26:=chunk ckSt6_26 h27
  have h25:=chunk ckSt6_25 h26
  have h24:=chunk ckSt6_24 h25
  have h23:=chunk ckSt6_23 h24
  have h22:=chunk ckSt6_22 h23
  have h21:=chunk ckSt6_21 h22
  have h20:=chunk ckSt6_20 h21
  have h19:=chunk ckSt6_19 h20
  have h18:=chunk ckSt6_18 h19
  have h17:=chunk ckSt6_17 h18
  have h16:=chunk ckSt6_16 h17
  have h15:=chunk ckSt6_15 h16
  have h14:=chunk ckSt6_14 h15
  have h13:=chunk ckSt6_13 h14
  have h12:=chunk ckSt6_12 h13
  have h11:=chunk ckSt6_11 h12
  have h10:=chunk ckSt6_10 h11
  have h9:=chunk ckSt6_9 h10
  have h8:=chunk ckSt6_8 h9
  have h7:=chunk ckSt6_7 h8
  have h6:=chunk ckSt6_6 h7
  have h5:=chunk ckSt6_5 h6
  have h4:=chunk ckSt6_4 h5
  have h3:=chunk ckSt6_3 h4
  have h2:=chunk ckSt6_2 h3
  have h1:=chunk ckSt6_1 h2
  have h0:=chunk ckSt6_0 h1
  rw [lDrop_eq,List.drop_zero] at h0
  exact h0
theorem ckStL {L:Nat} (h0:1≤L) (hL:L≤6):lAll (ckSt L) (plansL L)=true:=by
  rcases six h0 hL with rfl | rfl | rfl | rfl | rfl | rfl
  · exact ckSt1
  · exact ckSt2
  · exact ckSt3
  · exact ckSt4_all
  · exact ckSt5_all
  · exact ckSt6_all
noncomputable def fiW (ρ:Rho) (f:Nat) (a b c:Int):Int :=
  if f=3001 then (aftF ρ a.toNat b c).1 else if f=3002 then (aftF ρ a.toNat b c).2
  else if 4100≤f∧f < 4612 then (ordF ρ (cnt ((f - 4100) / 8)) ((f - 4100) / 8) a b).getD ((f - 4100) % 8) 0
  else if 5000≤f∧f < 9200 then leftF ρ (cnt ((f - 5000) % 600 / 8)) ((f - 5000) / 600 - cnt ((f - 5000) % 600 / 8)) ((f - 5000) % 600 / 8) ((f - 5000) % 600 % 8) a b c
  else ρ.fi f a b c
noncomputable def fbW (ρ:Rho) (f:Nat) (a b c:Int):Bool:=if 4000≤f∧f < 4064 then noneF ρ (cnt (f - 4000)) (f - 4000) a b else ρ.fb f a b c
theorem okT_of {L:Nat} (hL:L≤6) {ρ ρ0:Rho} (h:LikeF ρ ρ0) (hfi:∀ f a b c,¬ (3101≤f∧f < 3105)→f ≠ 9702→ρ.fi f a b c=fiW ρ0 f a b c) (hfb:ρ.fb=fbW ρ0) (hr:∀ r,r < L→reelOk ρ r):okT L ρ:=by
  have m64:∀ m,m < 2 ^ L→m < 64:=fun m hm=>lt64 hL hm
  refine ⟨fun r hrL=>⟨hr r hrL,fun a b=>?_⟩,fun m hm=>⟨fun a b=>?_,fun j a b hj=>?_,fun K j a b o hK hj=>?_⟩⟩
  · rw [hfi 3001 _ _ _ (by omega) (by omega),hfi 3002 _ _ _ (by omega) (by omega),aftF_like h (by omega)]
    unfold fiW
    rw [if_pos rfl,if_neg (by omega),if_pos rfl,Int.toNat_natCast]
    exact ⟨rfl,rfl⟩
  · rw [hfb,noneF_like h]
    have:=m64 m hm
    unfold fbW
    rw [if_pos (by omega),Nat.add_sub_cancel_left]
  · have:=m64 m hm
    rw [hfi _ _ _ _ (by omega) (by omega),ordF_like h]
    unfold fiW
    rw [if_neg (by omega),if_neg (by omega),if_pos (by omega),show 4100 + 8 * m + j - 4100=8 * m + j by omega,show (8 * m + j) / 8=m by omega,show (8 * m + j) % 8=j by omega]
  · have:=m64 m hm
    rw [hfi _ _ _ _ (by omega) (by omega),leftF_like h]
    unfold fiW
    rw [if_neg (by omega),if_neg (by omega),if_neg (by omega),if_pos (by omega),show 5000 + 600 * K + 8 * m + j - 5000=600 * K + (8 * m + j) by omega,show (600 * K + (8 * m + j)) % 600=8 * m + j by omega,show (600 * K + (8 * m + j)) / 600=K by omega,
      show (8 * m + j) / 8=m by omega,show (8 * m + j) % 8=j by omega]
theorem cellsUp_vals (E:Env) (z:Nat→Int):∀ (k i:Nat),(∀ j,i≤j→j < i + k→E.ρ.iv j=z j)→concL E (cellsUp k i)=some ((List.range k).map fun q=>.int .i64 (z (i + q)))
  | 0,i,_=>rfl
  | k + 1,i,h=>by
    simp only [cellsUp,vi,concL,conc,IE.den]
    rw [h i (Nat.le_refl _) (by omega),cellsUp_vals E z k (i + 1) fun j h1 h2=>h j (by omega) (by omega)]
    simp only [List.range_succ_eq_map,List.map_cons,List.map_map,Nat.add_zero]
    congr 2
    apply List.map_congr_left
    intro q _
    simp only [Function.comp,Nat.succ_eq_add_one]
    rw [show i + 1 + q=i + (q + 1) by omega]
theorem filmV_ok {L:Nat} (h0:1≤L) (hL:L≤6) {ρ:Rho} (h:∀ c ∈ csL L,c.den ρ=true):okFilm L ρ∧∀ r,r < L→reelOk ρ r:=by
  have up:∀ n b r,r < n→∀ c ∈ reelC (b + 6 * r),c ∈ csUp n b:=by
    intro n
    induction n with
    | zero=>intro b r hr; omega
    | succ n ih =>
      intro b r hr c hc
      cases r with
      | zero=>exact List.mem_append_left _ hc
      | succ r=>exact List.mem_append_right _ (ih (b + 6) r (by omega) c (by rw [show b + 6 + 6 * r=b + 6 * (r + 1) by omega]; exact hc))
  have rest:∀ n b,∀ c ∈ restC,c ∈ csUp n b:=by
    intro n
    induction n with
    | zero=>intro b c hc; exact hc
    | succ n ih=>intro b c hc; exact List.mem_append_right _ (ih _ c hc)
  have R:∀ c ∈ restC,c.den ρ=true:=fun c hc=>h c (rest L 10 c hc)
  have U:∀ r,r < L→∀ c ∈ reelC (10 + 6 * r),c.den ρ=true:=fun r hr c hc=>h c (up L 10 r hr c hc)
  have le:∀ {a b:IE},(le2 a b).den ρ=true→a.den ρ≤b.den ρ:=fun k=>BE.t_leq.1 k
  have reel:∀ r,r < L→0≤ρ.iv (10 + 6 * r)∧ρ.iv (10 + 6 * r)≤ρ.iv (11 + 6 * r)∧ρ.iv (11 + 6 * r)≤99∧0≤ρ.iv (12 + 6 * r)∧ρ.iv (12 + 6 * r)≤ρ.iv (13 + 6 * r)∧ρ.iv (13 + 6 * r)≤99∧1≤ρ.iv (14 + 6 * r)∧ρ.iv (14 + 6 * r)≤ρ.iv (15 + 6 * r)∧ρ.iv (15 + 6 * r)≤1200∧ρ.iv (10 + 6 * r)≤ρ.iv (13 + 6 * r):=fun r hr=>by
    have u:=U r hr
    simp only [reelC,List.forall_mem_cons,le2,BE.t_leq,IE.den_lit,IE.den_var] at u
    obtain ⟨u1,u2,u3,u4,u5,u6,u7,u8,u9,u10,_⟩:=u
    rw [show 10 + 6 * r + 1=11 + 6 * r by omega] at u2 u3
    rw [show 10 + 6 * r + 2=12 + 6 * r by omega] at u4 u5
    rw [show 10 + 6 * r + 3=13 + 6 * r by omega] at u5 u6 u10
    rw [show 10 + 6 * r + 4=14 + 6 * r by omega] at u7 u8
    rw [show 10 + 6 * r + 5=15 + 6 * r by omega] at u8 u9
    exact ⟨u1,u2,u3,u4,u5,u6,u7,u8,u9,u10⟩
  simp only [restC,List.forall_mem_cons,le2,BE.t_leq,IE.den_lit,IE.den_var] at R
  obtain ⟨r1,r2,r3,r4,r5,r6,r7,r8,_⟩:=R
  refine ⟨⟨?_,?_⟩,fun r hr=>?_⟩
  · rcases six h0 hL with rfl | rfl | rfl | rfl | rfl | rfl
    all_goals
      have q0:=reel 0 (by omega)
      try have q1:=reel 1 (by omega)
      try have q2:=reel 2 (by omega)
      try have q3:=reel 3 (by omega)
      try have q4:=reel 4 (by omega)
      try have q5:=reel 5 (by omega)
      simp only [Nat.mul_zero,Nat.mul_one,Nat.reduceMul,Nat.reduceAdd,Nat.add_zero] at *
      simp only [filmQ,upN,ivC,List.forall_mem_cons,BE.t_leq,IE.den_lit,IE.den_var,List.not_mem_nil,false_implies,implies_true,and_true,Nat.reduceMul,Nat.reduceAdd]
      omega
  · rcases six h0 hL with rfl | rfl | rfl | rfl | rfl | rfl
    all_goals
      have q0:=reel 0 (by omega)
      try have q1:=reel 1 (by omega)
      try have q2:=reel 2 (by omega)
      try have q3:=reel 3 (by omega)
      try have q4:=reel 4 (by omega)
      try have q5:=reel 5 (by omega)
      simp only [Nat.mul_zero,Nat.mul_one,Nat.reduceMul,Nat.reduceAdd,Nat.add_zero] at *
      simp only [filmC,upN,leV,List.forall_mem_cons,BE.t_leq,IE.den_var,List.not_mem_nil,false_implies,implies_true,and_true,Nat.reduceMul,Nat.reduceAdd]
      omega
  · obtain ⟨a1,a2,a3,a4,a5,a6,_⟩:=reel r hr
    exact ⟨a1,a2,a3,a4,a5,a6⟩
theorem book_ok {ρ:Rho} (h:∀ c ∈ bookCs,c.den ρ=true):okBook ρ:=by
  simp only [bookCs,List.forall_mem_cons,le2,BE.t_leq,IE.den_lit,IE.den_var] at h
  obtain ⟨r1,r2,r3,r4,r5,r6,r7,r8,r9,r10,_⟩:=h
  refine ⟨?_,?_⟩
  · simp only [bookQ,ivC,List.forall_mem_cons,BE.t_leq,IE.den_lit,IE.den_var,List.not_mem_nil,false_implies,implies_true,and_true]
    omega
  · simp only [bookLe,leV,List.forall_mem_cons,BE.t_leq,IE.den_var,List.not_mem_nil,false_implies,implies_true,and_true]
    omega
def baseI (nf z bk nn:Nat→Int) (len:Nat) (j:Nat):Int :=
  if j < 5 then nf j else if j < 60 then z (j - 10) else if j < 66 then bk (j - 60) else if j=95 then len else if j=93 then nn 0 else if j=94 then nn 1 else if j=97 then nn 2 else 0
noncomputable def rhoF (b:Nat→Int) (s:Value):Rho:=⟨b,fun _=>false,fun _ _ _ _=>0,fun _ _ _ _=>false,fun _=>s⟩
noncomputable def rho1 (ρF:Rho):Rho:=⟨ρF.iv,ρF.bv,fiW ρF,fbW ρF,ρF.ov⟩
noncomputable def lastI (L:Nat) (ρ:Rho) (q:Nat):Int:=if q % 2=0 then loZ ρ ((oB L (q / 4)).den ρ).toNat (ρ.iv 60 + ((q % 4 / 2:Nat):Int)) else hiZ ρ ((oB L (q / 4)).den ρ).toNat (ρ.iv 60 + ((q % 4 / 2:Nat):Int))
noncomputable def fiX (L:Nat) (ρ:Rho) (f:Nat) (a b c:Int):Int:=if 3101≤f∧f < 3105 then lastI L ρ (4 * a.toNat + (f - 3101)) else ρ.fi f a b c
noncomputable def rho2 (L:Nat) (ρ:Rho):Rho:=⟨fun j=>if 100≤j∧j < 124 then lastI L ρ (j - 100) else ρ.iv j,ρ.bv,fiX L ρ,ρ.fb,ρ.ov⟩
theorem rho2_iv {L:Nat} {ρ:Rho} {j:Nat} (h:j < 100):(rho2 L ρ).iv j=ρ.iv j:=by
  show (if 100≤j∧j < 124 then _ else ρ.iv j)=_
  rw [if_neg (by omega)]
theorem sure_in {L:Nat} (h0:1≤L) (hL:L≤6) {plan:List Nat} (hp:plan ∈ plansL L) {ρ:Rho} (h:okBN L ρ):0≤(surelyE plan).den ρ∧(surelyE plan).den ρ≤100000:=by
  obtain ⟨p1,p2⟩:=plansN_mem _ _ _ hp
  have pl:=sum_len plan p1
  have H:=lastZ_of h0 hL h
  have len:∀ e,(thereE e plan).length=L:=fun e=>by unfold thereE; rw [atsE_len,p2]
  have bd:∀ e,e < 2→∀ x ∈ thereE e plan,0≤x.den ρ∧x.den ρ≤600000:=fun e he=>atsE_in hL H he plan 0 (.lit 0) 0 (by omega) (by omega) (Int.le_refl _) (by rw [IE.den_lit]; omega)
  obtain ⟨a1,a2,_,_⟩:=lateE_den hL H (e2:=0) (by omega) (thereE 1 plan) 0 (.lit 0) (by rw [len]; omega) (bd 1 (by omega)) (Int.le_refl _) (by rw [IE.den_lit]; omega)
  rw [IE.den_lit] at a1
  have s:=sec_den a1 a2
  exact ⟨s.1,s.2.1⟩
noncomputable def ivS (L:Nat) (ρ:Rho) (f:List Nat→IE) (i:Nat):Int:=match (plansL L)[i]? with
  | some p=>(f p).den ρ
  | none=>0
noncomputable def rho3 (L:Nat) (ρ:Rho):Rho:=⟨fun j=>if 400≤j∧j < 432 then ivS L ρ surelyE (j - 400) else if 464≤j∧j < 496 then ivS L ρ perhapsE (j - 464) else ρ.iv j,ρ.bv,ρ.fi,ρ.fb,ρ.ov⟩
theorem rho3_iv {L:Nat} {ρ:Rho} {j:Nat} (h:j < 400):(rho3 L ρ).iv j=ρ.iv j:=by
  show (if 400≤j∧j < 432 then _ else if 464≤j∧j < 496 then _ else ρ.iv j)=_
  rw [if_neg (by omega),if_neg (by omega)]
theorem rho3_sure {L:Nat} {ρ:Rho} {i:Nat} (h:i < 32):(rho3 L ρ).iv (400 + i)=ivS L ρ surelyE i:=by
  show (if 400≤400 + i∧400 + i < 432 then ivS L ρ surelyE (400 + i - 400) else _)=_
  rw [if_pos (by omega),Nat.add_sub_cancel_left]
theorem rho3_may {L:Nat} {ρ:Rho} {i:Nat} (h:i < 32):(rho3 L ρ).iv (464 + i)=ivS L ρ perhapsE i:=by
  show (if 400≤464 + i∧464 + i < 432 then _ else if 464≤464 + i∧464 + i < 496 then ivS L ρ perhapsE (464 + i - 464) else _)=_
  rw [if_neg (by omega),if_pos (by omega),Nat.add_sub_cancel_left]
theorem oB_rho {L:Nat} {ρ ρ':Rho} (h:∀ f a b c,¬ (3101≤f∧f < 3105)→f < 5000→ρ'.fi f a b c=ρ.fi f a b c) (hL:L≤6) {j:Nat} (hj:j < L):(oB L j).den ρ'=(oB L j).den ρ:=by
  have hf:=lt64 hL (fullM_lt (L:=L))
  unfold oB ordE
  simp only [IE.den,FI]
  rw [if_pos (by omega),if_pos (by omega),h _ _ _ _ (by omega) (by omega)]
theorem okNM_of {L:Nat} (h0:1≤L) (hL:L≤6) {ρ1 ρ:Rho} (hiv:∀ i,i < 400→ρ.iv i=(rho2 L ρ1).iv i) (hfi:∀ f a b c,f ≠ 9702→ρ.fi f a b c=(rho2 L ρ1).fi f a b c) (hB:okB L ρ):okN L ρ∧okM L ρ:=by
  have fi:∀ f a b c,¬ (3101≤f∧f < 3105)→f < 5000→ρ.fi f a b c=ρ1.fi f a b c:=fun f a b c hf h5=>by
    rw [hfi f a b c (by omega)]
    show (if 3101≤f∧f < 3105 then _ else ρ1.fi f a b c)=_
    rw [if_neg hf]
  have iv:∀ i,i < 100→ρ.iv i=ρ1.iv i:=fun i hi=>by rw [hiv i (by omega),rho2_iv hi]
  have ivl:∀ q,q < 24→ρ.iv (100 + q)=lastI L ρ1 q:=fun q hq=>by
    rw [hiv _ (by omega)]
    show (if 100≤100 + q∧100 + q < 124 then lastI L ρ1 (100 + q - 100) else _)=_
    rw [if_pos (by omega),Nat.add_sub_cancel_left]
  refine ⟨fun j t hj ht=>?_,fun r i hr hi=>?_⟩
  · have ho:=oB_in h0 hL hB.1 hj
    have eo:=oB_rho (L:=L) (ρ:=ρ1) (ρ':=ρ) fi hL hj
    rw [eo] at ho
    have l1:=ivl (4 * j + 2 * t) (by omega)
    have l2:=ivl (4 * j + 2 * t + 1) (by omega)
    rw [eo,iv 60 (by omega)]
    unfold lastI at l1 l2
    rw [if_pos (by omega),show (4 * j + 2 * t) / 4=j by omega,show (4 * j + 2 * t) % 4 / 2=t by omega] at l1
    rw [if_neg (by omega),show (4 * j + 2 * t + 1) / 4=j by omega,show (4 * j + 2 * t + 1) % 4 / 2=t by omega] at l2
    have hlt:((oB L j).den ρ1).toNat < 6:=by omega
    refine ⟨?_,?_⟩
    · rw [show 100 + 4 * j + 2 * t=100 + (4 * j + 2 * t) by omega,l1]
      unfold loZ
      rw [iv (14 + 6 * ((oB L j).den ρ1).toNat) (by omega),iv 3 (by omega),iv 0 (by omega)]
    · rw [show 101 + 4 * j + 2 * t=100 + (4 * j + 2 * t + 1) by omega,l2]
      unfold hiZ
      rw [iv (15 + 6 * ((oB L j).den ρ1).toNat) (by omega),iv 2 (by omega),iv 1 (by omega)]
  · rw [hfi _ _ _ _ (by omega)]
    rw [hiv 60 (by omega)]
    show (if 3101≤3101 + i∧3101 + i < 3105 then lastI L ρ1 (4 * ((r:Int)).toNat + (3101 + i - 3101)) else _)=_
    rw [if_pos (by omega),Int.toNat_natCast,Nat.add_sub_cancel_left,show 100 + 4 * r + i=100 + (4 * r + i) by omega,ivl (4 * r + i) (by omega)]
theorem leafLe_all:lAll (fun L=>lAll (fun K=>lAll (fun x:Node=>allLe K x.pre) (leafs L K)) [1,2,3,4,5,6]) [1,2,3,4,5,6]=true:=by kernel_rfl
theorem carry_of {K:Nat} {p:List Nat} {ρ:Rho} (hp:∀ q ∈ p,q≤K) (hc:(K:Int)≤ρ.iv 65):∀ c ∈ carryC p,c.den ρ=true:=fun c hcc=>by
  unfold carryC at hcc
  rw [lMap_eq,List.mem_map] at hcc
  obtain ⟨q,hq,rfl⟩:=hcc
  rw [BE.t_leq,IE.den_lit,IE.den_var]
  have:=hp q hq
  show ((q:Nat):Int)≤_
  omega
theorem cells_vj:∀ (n i:Nat),cellsUp n i=lMap vj (upN n i)
  | 0,_=>rfl
  | n + 1,i=>by
    have e:lMap vj (upN (n + 1) i)=vj i :: lMap vj (upN n (i + 1)):=rfl
    show vi i :: cellsUp n (i + 1)=_
    rw [e,cells_vj n]; rfl
theorem viewVR (L j:Nat):(viewA 2000 (vR L)).get j=(viewHeap 2000 (viewV L)).get j:=by
  have e:AObj.cells (cellsUp (6 * L) 10) 0 false false=rowsA L:=by rw [cells_vj]; rfl
  simp only [vR,viewV,glR,viewA,viewHeap,Heap.get_put,e]
  by_cases h0:j=0
  · subst h0; simp [ro]
  · by_cases h1:j=1
    · subst h1; simp [ro]
    · by_cases h2:j=2
      · subst h2; simp [ro]
      · by_cases h3:j=3
        · subst h3; simp [ro]
        · simp only [if_neg h0,if_neg h1,if_neg h2,if_neg h3]
def envL (ρ:Rho) (b o cap:Nat):Env:=⟨ρ,fun x=>if x < 1000 then some (x,0) else if x=1001 then some (b,o) else none,fun _=>cap,2000,fun _=>#[]⟩
theorem six_vals (E:Env) (nf bk:Nat→Int) (h:∀ j,j < 5→E.ρ.iv j=nf j) (k:∀ j,j < 6→E.ρ.iv (60 + j)=bk j):concL E [vj 0,vj 1,vj 2,vj 3,vj 4,vj 60,vj 61,vj 62,vj 63,vj 64,vj 65]=some [.int .i64 (nf 0),.int .i64 (nf 1),.int .i64 (nf 2),.int .i64 (nf 3),.int .i64 (nf 4),.int .i64 (bk 0),.int .i64 (bk 1),.int .i64 (bk 2),.int .i64 (bk 3),.int .i64 (bk 4),.int .i64 (bk 5)]:=by
  have k0:=k 0 (by omega); have k1:=k 1 (by omega); have k2:=k 2 (by omega); have k3:=k 3 (by omega); have k4:=k 4 (by omega); have k5:=k 5 (by omega)
  have h0:=h 0 (by omega); have h1:=h 1 (by omega); have h2:=h 2 (by omega); have h3:=h 3 (by omega); have h4:=h 4 (by omega)
  simp only [Nat.add_zero,Nat.reduceAdd] at k0 k1 k2 k3 k4 k5
  simp only [vj,concL,conc,IE.den,h0,h1,h2,h3,h4,k0,k1,k2,k3,k4,k5]
noncomputable def bookVal (s:Value) (nf bk:Nat→Int):Value:=.agg #[s,.int .i64 (nf 0),.int .i64 (nf 1),.int .i64 (nf 2),.int .i64 (nf 3),.int .i64 (nf 4),.int .i64 (bk 0),.int .i64 (bk 1),.int .i64 (bk 2),.int .i64 (bk 3),.int .i64 (bk 4),.int .i64 (bk 5)]
end Go.Sx
namespace Go.Sx
open Go.RowKit Go.Proofs
set_option maxRecDepth 100000
structure Easier (L:Nat) (ρ ρ':Rho):Prop where
  a:LastZ L ρ
  b:LastZ L ρ'
  iv:∀ i,100≤i→i < 200→ρ'.iv i=ρ.iv i
  go:ρ'.iv 62≤ρ.iv 62
  back:ρ'.iv 64≤ρ.iv 64
theorem befZ_eq {L:Nat} (hL:L≤6) {ρ ρ':Rho} (H:Easier L ρ ρ') {t e:Nat} (ht:t < 2) (he:e < 2):∀ n,n≤L→befZ ρ' t e n=befZ ρ t e n
  | 0,_=>rfl
  | n + 1,hn=>by
    simp only [befZ]
    rw [befZ_eq hL H ht he n (by omega),H.iv _ (by omega) (by omega)]
theorem ats_le {L : Nat} (hL : L ≤ 6) {ρ ρ' : Rho} (H : Easier L ρ ρ') : ∀ (plan : List Nat) (next : Nat) (boy : IE) (k : Nat), next + sumN plan ≤ L → plan.length + k ≤ 6 → 0 ≤ boy.den ρ → boy.den ρ ≤ 144000 + 72000 * k → 0 ≤ boy.den ρ' → boy.den ρ' ≤ boy.den ρ →
    ∀ x ∈ atsE 1 plan next boy,x.den ρ'≤x.den ρ
  | [],_,_,_,_,_,_,_,_,_,x,hx=>by cases hx
  | p :: plan,next,boy,k,hn,hk,h0,h1,h2,h3,x,hx=>by
    simp only [sumN,List.length_cons] at hn hk
    have a:=at_den hL H.a (e:=1) (next:=next + p) (by omega) (by omega) h0 h1 (by omega) (by omega)
    have b:=at_den hL H.b (e:=1) (next:=next + p) (by omega) (by omega) h2 (Int.le_trans h3 h1) (by omega) (by omega)
    have eb:=befZ_eq hL H (t:=0) (e:=1) (by omega) (by omega) (next + p) (by omega)
    have hg:=H.go
    have le:(atE 1 (next + p) boy).den ρ'≤(atE 1 (next + p) boy).den ρ:=by
      rw [a.1,b.1,eb]
      show _ + 10 * ρ'.iv 62≤_ + 10 * ρ.iv 62
      omega
    rw [atsE_cons] at hx
    rcases repE_mem _ _ hx with rfl | hx
    · exact le
    · have c:=boy_den H.a (e:=1) (by omega) a.2.1 a.2.2 (by omega)
      have d:=boy_den H.b (e:=1) (by omega) b.2.1 b.2.2 (by omega)
      have hbk:=H.back
      have c1:=c.1
      have d1:=d.1
      have c2:=c.2.2
      have hk':((k + 1:Nat):Int)=(k:Int) + 1:=by omega
      have le2:(adE (atE 1 (next + p) boy) (tenE (.var (63 + 1)))).den ρ'≤(adE (atE 1 (next + p) boy) (tenE (.var (63 + 1)))).den ρ:=by
        rw [c1,d1]
        show _ + 10 * ρ'.iv 64≤_ + 10 * ρ.iv 64
        omega
      exact ats_le hL H plan (next + p) _ (k + 1) (by omega) (by omega) c.2.1 (by rw [hk']; omega) d.2.1 le2 x hx
theorem late_le {L : Nat} (hL : L ≤ 6) {ρ ρ' : Rho} (H : Easier L ρ ρ') {l : List IE} (hi : l.length ≤ L) (ha : ∀ x ∈ l, 0 ≤ x.den ρ ∧ x.den ρ ≤ 600000) (hb : ∀ x ∈ l, 0 ≤ x.den ρ' ∧ x.den ρ' ≤ 600000) (hl : ∀ x ∈ l, x.den ρ' ≤ x.den ρ) :
    (lateE 0 l 0 (.lit 0)).den ρ'≤(lateE 0 l 0 (.lit 0)).den ρ:=by
  obtain ⟨a1,a2,a3,_⟩:=lateE_den hL H.a (e2:=0) (by omega) l 0 (.lit 0) (by omega) ha (by rw [IE.den_lit]; omega) (by rw [IE.den_lit]; omega)
  obtain ⟨_,_,_,b4⟩:=lateE_den hL H.b (e2:=0) (by omega) l 0 (.lit 0) (by omega) hb (by rw [IE.den_lit]; omega) (by rw [IE.den_lit]; omega)
  rcases b4 with b4 | ⟨k,x,hx,b4⟩
  · rw [b4]; rw [IE.den_lit] at a1 ⊢; exact a1
  · have hk:k < l.length:=(List.getElem?_eq_some_iff.1 hx).1
    rw [b4,befZ_eq hL H (t:=1) (e:=0) (by omega) (by omega) (0 + k) (by omega)]
    have:=a3 k x hx
    have:=hl x (List.mem_of_getElem? hx)
    omega
theorem surely_le {L:Nat} (hL:L≤6) {ρ ρ':Rho} (H:Easier L ρ ρ') {plan:List Nat} (hp:plan ∈ plansL L):(surelyE plan).den ρ'≤(surelyE plan).den ρ:=by
  obtain ⟨p1,p2⟩:=plansN_mem _ _ _ hp
  have pl:=sum_len plan p1
  have len:(thereE 1 plan).length=L:=by unfold thereE; rw [atsE_len,p2]
  have z:∀ ρ:Rho,0≤(IE.lit 0).den ρ∧(IE.lit 0).den ρ≤144000 + 72000 * (0:Nat):=fun ρ=>by rw [IE.den_lit]; omega
  have ba:∀ x ∈ thereE 1 plan,0≤x.den ρ∧x.den ρ≤600000:=atsE_in hL H.a (by omega) plan 0 (.lit 0) 0 (by omega) (by omega) (z ρ).1 (z ρ).2
  have bb:∀ x ∈ thereE 1 plan,0≤x.den ρ'∧x.den ρ'≤600000:=atsE_in hL H.b (by omega) plan 0 (.lit 0) 0 (by omega) (by omega) (z ρ').1 (z ρ').2
  have le:∀ x ∈ thereE 1 plan,x.den ρ'≤x.den ρ:=ats_le hL H plan 0 (.lit 0) 0 (by omega) (by omega) (z ρ).1 (z ρ).2 (z ρ').1 (Int.le_refl _)
  have hl:=late_le hL H (by rw [len]; omega) ba bb le
  obtain ⟨a1,a2,_,_⟩:=lateE_den hL H.a (e2:=0) (by omega) (thereE 1 plan) 0 (.lit 0) (by rw [len]; omega) ba (Int.le_refl _) (by rw [IE.den_lit]; omega)
  obtain ⟨b1,b2,_,_⟩:=lateE_den hL H.b (e2:=0) (by omega) (thereE 1 plan) 0 (.lit 0) (by rw [len]; omega) bb (Int.le_refl _) (by rw [IE.den_lit]; omega)
  rw [IE.den_lit] at a1 b1
  have s:=sec_den a1 a2
  have s':=sec_den b1 b2
  show (secE _).den ρ'≤(secE _).den ρ
  omega
noncomputable def relF (q:Nat × Int × Int):Bool:=Nat.ble (q.1 + 1) 60
theorem ivC_likeF {ρ ρ':Rho} (h:LikeF ρ ρ'):∀ (l:List (Nat × Int × Int)),lAll relF l=true→(∀ c ∈ ivC l,c.den ρ=true)→∀ c ∈ ivC l,c.den ρ'=true
  | [],_,_,c,hc=>by cases hc
  | q :: l,hv,k,c,hc=>by
    have hq0:=lAll_mem hv q List.mem_cons_self
    have hq:=h q.1 (ble_t.1 hq0)
    simp only [ivC,List.mem_cons] at hc k
    rcases hc with rfl | rfl | hc
    · have:=k _ (.inl rfl)
      rw [BE.t_leq,IE.den_lit,IE.den_var] at this ⊢; rw [← hq]; exact this
    · have:=k _ (.inr (.inl rfl))
      rw [BE.t_leq,IE.den_lit,IE.den_var] at this ⊢; rw [← hq]; exact this
    · refine ivC_likeF h l ?_ (fun c hc=>k c (.inr (.inr hc))) c hc
      have hv:cond (relF q) (lAll relF l) false=true:=hv
      rw [hq0,cond_true] at hv; exact hv
theorem okFilm_likeF {L:Nat} (h0:1≤L) (hL:L≤6) {ρ ρ':Rho} (e:LikeF ρ ρ') (k:okFilm L ρ):okFilm L ρ':=by
  refine ⟨?_,?_⟩
  · have hv:lAll relF (filmQ L)=true:=by rcases six h0 hL with rfl | rfl | rfl | rfl | rfl | rfl <;> rfl
    exact ivC_likeF e _ hv k.1
  · intro c hc
    have hle:∀ c ∈ filmC L,∃ i j,i < 60∧j < 60∧c=leV i j:=by
      intro c hc
      simp only [filmC,List.mem_cons] at hc
      rcases hc with rfl | rfl | hc
      · exact ⟨0,1,by omega,by omega,rfl⟩
      · exact ⟨2,3,by omega,by omega,rfl⟩
      · have key : ∀ (l : List Nat), (∀ r ∈ l, r < 6) → c ∈ (@List.rec Nat (fun _ => List BE) [] (fun r _ ih => leV (10 + 6 * r) (11 + 6 * r) :: leV (12 + 6 * r) (13 + 6 * r) :: leV (14 + 6 * r) (15 + 6 * r) :: leV (10 + 6 * r) (13 + 6 * r) :: ih) l) → ∃ i j, i < 60 ∧ j < 60 ∧ c = leV i j := by
          intro l
          induction l with
          | nil=>intro _ h; cases h
          | cons a l ih =>
            intro hl hc
            have:=hl a List.mem_cons_self
            simp only [List.mem_cons] at hc
            rcases hc with rfl | rfl | rfl | rfl | hc
            · exact ⟨_,_,by omega,by omega,rfl⟩
            · exact ⟨_,_,by omega,by omega,rfl⟩
            · exact ⟨_,_,by omega,by omega,rfl⟩
            · exact ⟨_,_,by omega,by omega,rfl⟩
            · exact ih (fun r hr=>hl r (List.mem_cons_of_mem _ hr)) hc
        exact key _ (fun r hr=>by have:=upN_lt _ _ _ hr; omega) hc
    obtain ⟨i,j,hi,hj,rfl⟩:=hle c hc
    have:=k.2 _ hc
    unfold leV at this ⊢
    rw [BE.t_leq,IE.den_var,IE.den_var] at this ⊢
    rw [← e i hi,← e j hj]; exact this
structure LikeB (ρ ρ':Rho):Prop where
  iv:∀ i,(i < 61 ∨ (100≤i∧i < 200))→ρ'.iv i=ρ.iv i
  fi:ρ'.fi=ρ.fi
  fb:ρ'.fb=ρ.fb
theorem okBN_x {L:Nat} (h0:1≤L) (hL:L≤6) {ρ ρ':Rho} (h:LikeB ρ ρ') (hb:okBook ρ') (k:okBN L ρ):okBN L ρ':=by
  obtain ⟨⟨k1,k2,k3,k4⟩,k5,k6⟩:=k
  have e:=h.iv
  have lf:LikeF ρ ρ':=fun j hj=>(e j (by omega)).symm
  have lf':LikeF ρ' ρ:=fun j hj=>e j (by omega)
  have ho:∀ j,(oB L j).den ρ'=(oB L j).den ρ:=fun j=>by
    unfold oB ordE
    simp only [IE.den,h.fi]
  refine ⟨⟨⟨fun r hr=>?_,fun m hm=>?_⟩,okFilm_likeF h0 hL lf k2,?_,hb⟩,fun j t hj ht=>?_,fun r i hr hi=>?_⟩
  · obtain ⟨q1,q2⟩:=k1.1 r hr
    refine ⟨?_,fun a b=>?_⟩
    · unfold reelOk at q1 ⊢
      rw [e _ (by omega),e _ (by omega),e _ (by omega),e _ (by omega)]; exact q1
    · rw [h.fi,aftF_like lf' (by omega)]; exact q2 a b
  · obtain ⟨q1,q2,q3⟩:=k1.2 m hm
    refine ⟨fun a b=>?_,fun j a b hj=>?_,fun K j a b o hK hj=>?_⟩
    · rw [h.fb,noneF_like lf']; exact q1 a b
    · rw [h.fi,ordF_like lf']; exact q2 j a b hj
    · rw [h.fi,leftF_like lf']; exact q3 K j a b o hK hj
  · rw [← k3]
    unfold noneB noneE
    simp only [BE.den,h.fb]; rfl
  · have q:=k5 j t hj ht
    have hb:=oB_in h0 hL k1 hj
    rw [e (100 + 4 * j + 2 * t) (by omega),e (101 + 4 * j + 2 * t) (by omega),e 60 (by omega),ho,q.1,q.2]
    unfold loZ hiZ
    rw [e (14 + 6 * ((oB L j).den ρ).toNat) (by omega),e (15 + 6 * ((oB L j).den ρ).toNat) (by omega),e 0 (by omega),e 1 (by omega),e 2 (by omega),e 3 (by omega)]
    exact ⟨rfl,rfl⟩
  · rw [h.fi,e 60 (by omega),e (100 + 4 * r + i) (by omega)]
    exact k6 r i hr hi
def kOf (L:Nat) (ρ:Rho):Nat:=min (ρ.iv 65).toNat (L + 1)
theorem c65 {ρ:Rho} (h:okBook ρ):1≤ρ.iv 65∧ρ.iv 65≤6:=by
  have:=ivC_in h.1 (65,1,6) (by simp [bookQ])
  exact this
section
variable {L:Nat} (h0:1≤L) (hL:L≤6) {ρ:Rho} (hB:okBN L ρ)
include h0 hL hB
theorem k_in:1≤kOf L ρ∧kOf L ρ≤L + 1∧kOf L ρ≤6∧((kOf L ρ:Nat):Int)≤ρ.iv 65:=by
  have:=c65 hB.1.2.2.2
  unfold kOf
  omega
theorem r3_sure {i:Nat} {plan:List Nat} (hi:(plansL L)[i]?=some plan):(rho3 L ρ).iv (400 + i)=(surelyE plan).den ρ:=by
  have _:=hB
  have hv:=(plan_vars h0 hL hi).1
  rw [rho3_sure hv]
  unfold ivS; rw [hi]
theorem sr_of:okSr L (kOf L ρ) (rho3 L ρ):=by
  have hk:=k_in h0 hL hB
  have h65:=c65 hB.1.2.2.2
  have like:LikeB ρ (rho3 L ρ):=⟨fun i hi=>rho3_iv (by omega),rfl,rfl⟩
  have hB3:okBN L (rho3 L ρ):=okBN_x h0 hL like (okBook_like' (fun j _ hj=>rho3_iv (by omega)) hB.1.2.2.2) hB
  have pd:∀ i,(i < 66 ∨ (100≤i∧i < 200))→(rho3 L ρ).iv i=ρ.iv i:=fun i hi=>rho3_iv (by omega)
  have hS : OkSt L (rho3 L ρ) := ⟨fun i plan hi => by
      rw [r3_sure h0 hL hB hi,plain_den pd _ (plan_plain h0 hL hi).1],fun i plan hi=>by
      rw [rho3_may (plan_vars h0 hL hi).1,plain_den pd _ (plan_plain h0 hL hi).2]
      unfold ivS; rw [hi]⟩
  refine ⟨⟨hB3,hS⟩,fun c hc=>?_⟩
  rw [ivC_app] at hc
  rcases List.mem_append.1 hc with hc | hc
  · have hc:c ∈ [BE.cmp .leq (.lit (Int.ofNat (kOf L ρ))) (.var 65),BE.cmp .leq (.var 65) (.lit (cond (Nat.beq (kOf L ρ) (L + 1)) 6 (Int.ofNat (kOf L ρ))))]:=hc
    have e65:(rho3 L ρ).iv 65=ρ.iv 65:=rho3_iv (by omega)
    rcases List.mem_cons.1 hc with rfl | hc
    · rw [BE.t_leq,IE.den_lit,IE.den_var,e65]; exact hk.2.2.2
    · rw [List.mem_singleton] at hc; subst hc
      rw [BE.t_leq,IE.den_lit,IE.den_var,e65]
      cases hb:Nat.beq (kOf L ρ) (L + 1) with
      | true=>rw [cond_true]; exact h65.2
      | false =>
        rw [cond_false]
        have hne:kOf L ρ ≠ L + 1:=fun h=>by rw [beq_t.2 h] at hb; cases hb
        have hK2:kOf L ρ=min (ρ.iv 65).toNat (L + 1):=rfl
        show _≤((kOf L ρ:Nat):Int)
        omega
  · have key : ∀ (l : List Nat), (∀ i ∈ l, i < 32) → ∀ c ∈ ivC (lMap (fun i => (400 + i, (0 : Int), (100000 : Int))) l), c.den (rho3 L ρ) = true := by
      intro l
      induction l with
      | nil=>intro _ c hc; cases hc
      | cons i l ih =>
        intro hl c hc
        have hi:=hl i List.mem_cons_self
        have bd:0≤(rho3 L ρ).iv (400 + i)∧(rho3 L ρ).iv (400 + i)≤100000:=by
          cases hp:(plansL L)[i]? with
          | some plan=>rw [hS.sure i plan hp]; exact sure_in h0 hL (List.mem_of_getElem? hp) hB3
          | none =>
            rw [rho3_sure hi]
            unfold ivS; rw [hp]
            simp only; omega
        have hc:c ∈ BE.cmp .leq (.lit 0) (.var (400 + i)) :: BE.cmp .leq (.var (400 + i)) (.lit 100000) :: ivC (lMap (fun i=>(400 + i,(0:Int),(100000:Int))) l):=hc
        rcases List.mem_cons.1 hc with rfl | hc
        · exact BE.t_leq.2 bd.1
        · rcases List.mem_cons.1 hc with rfl | hc
          · exact BE.t_leq.2 bd.2
          · exact ih (fun j hj=>hl j (List.mem_cons_of_mem _ hj)) c hc
    exact key _ (fun i hi=>by have:=upN_lt _ _ _ hi; omega) c hc
end
section
variable {L:Nat} (h0:1≤L) (hL:L≤6) {ρ ρ':Rho} (hB:okBN L ρ) (hB':okBN L ρ') (H:Easier L ρ ρ') (hc:ρ.iv 65≤ρ'.iv 65)
include h0 hL hB hB' H hc
theorem k_le:kOf L ρ≤kOf L ρ':=by
  have _:=h0
  have _:=hL
  have _:=hB
  have _:=hB'
  have _:=H
  unfold kOf; omega
theorem leaf_up {x:Node} (hx:x ∈ leafs L (kOf L ρ)):∃ y ∈ leafs L (kOf L ρ'),y.id=x.id∧y.pre=x.pre∧(rho3 L ρ').iv (400 + y.id)≤(rho3 L ρ).iv (400 + x.id):=by
  obtain ⟨k0,hK,k6,_⟩:=k_in h0 hL hB
  obtain ⟨k0',hK',k6',_⟩:=k_in h0 hL hB'
  have hp:=(leaf_plan h0 hL k0 hK k6 hx).2
  have hkk:=k_le h0 hL hB hB' H hc
  obtain ⟨y,hy,e1,e2⟩:=plan_leaf h0 hL k0' hK' k6' hp fun q hq=>Nat.le_trans (ble_t.1 (lAll_mem (lAll_mem (lAll_mem (lAll_mem leafLe_all L (mem_six h0 hL)) _ (mem_six k0 k6)) _ hx) q hq)) hkk
  refine ⟨y,hy,e1,e2,?_⟩
  rw [e1,r3_sure h0 hL hB hp,r3_sure h0 hL hB' hp]
  exact surely_le hL H (List.mem_of_getElem? hp)
theorem best_easier:(rho3 L ρ').iv (400 + (wN L (kOf L ρ') (rho3 L ρ') (rootOf L (kOf L ρ'))).id)≤(rho3 L ρ).iv (400 + (wN L (kOf L ρ) (rho3 L ρ) (rootOf L (kOf L ρ))).id):=by
  obtain ⟨k0,hK,k6,_⟩:=k_in h0 hL hB
  obtain ⟨k0',hK',k6',_⟩:=k_in h0 hL hB'
  obtain ⟨bm,_⟩:=best_le h0 hL k0 hK k6 (rho3 L ρ)
  obtain ⟨_,ble⟩:=best_le h0 hL k0' hK' k6' (rho3 L ρ')
  obtain ⟨y,hy,_,_,hle⟩:=leaf_up h0 hL hB hB' H hc bm
  have:=(ble y hy).1
  unfold fL lexP at this
  simp only at this
  omega
theorem few_easier {lim:Int} {n:Nat} (h:fewN L (kOf L ρ) (rho3 L ρ) lim=some n):∃ m,fewN L (kOf L ρ') (rho3 L ρ') lim=some m∧m≤n:=by
  obtain ⟨k0',hK',k6',_⟩:=k_in h0 hL hB'
  obtain ⟨x,hx,hl,hn⟩:=few_some h
  obtain ⟨y,hy,_,e2,hle⟩:=leaf_up h0 hL hB hB' H hc hx
  obtain ⟨m,hm,hle2⟩:=few_le h0 hL k0' hK' k6' (ρ:=rho3 L ρ') (lim:=lim) hy (by omega)
  exact ⟨m,hm,by rw [hn,← e2]; exact hle2⟩
omit hB' H hc in
theorem few_later {lim lim':Int} (hll:lim≤lim') {n:Nat} (h:fewN L (kOf L ρ) (rho3 L ρ) lim=some n):∃ m,fewN L (kOf L ρ) (rho3 L ρ) lim'=some m∧m≤n:=by
  obtain ⟨k0,hK,k6,_⟩:=k_in h0 hL hB
  obtain ⟨x,hx,hl,hn⟩:=few_some h
  obtain ⟨m,hm,hle2⟩:=few_le h0 hL k0 hK k6 (ρ:=rho3 L ρ) (lim:=lim') hx (by omega)
  exact ⟨m,hm,by rw [hn]; exact hle2⟩
end
end Go.Sx
namespace Go.Sx
open Go.RowKit Go.Proofs
set_option maxRecDepth 100000
theorem turn_at {p:Par} (hP:pT.P=p.P) (a m:IE) (h:Heap):CallOk p 13 [.int .i64 a,.int .i64 m] h (.br (.cmp .leq m big) (.ret (.int .i64 (.app 6 a m (.lit 0)),h)) (.fail 99)):=turn_orc hP (args:=[.int .i64 a,.int .i64 m]) (h:=h) rfl
theorem orcTu_ok {ok:Rho→(Nat→Obj→Prop)→Prop} {qs:List (IE × Int × IE)} (hok:∀ ρ m,ok ρ m→∀ q ∈ qs,q.2.1≤9223372036854775807∧turnF (q.1.den ρ) q.2.1=q.2.2.den ρ) {args:List AV} {h:Heap} {t:T (AV × Heap)} (e:orcTu qs args h=some t):CallOk (pOk ok) 13 args h t:=by
  unfold orcTu at e
  split at e
  · rename_i k1 a k2 m
    obtain ⟨i1,e⟩:=cond_some e
    rw [Bool.and_eq_true] at i1
    rw [isI64_eq i1.1,isI64_eq i1.2]
    have key : ∀ (l : List (IE × Int × IE)), (@List.rec (IE × Int × IE) (fun _ => Option (T (AV × Heap))) none (fun q _ ih => cond (and (eqIE a q.1) (eqIE m (.lit q.2.1))) (some (.ret (.int .i64 q.2.2, h))) ih) l) = some t →
        ∃ q ∈ l,a=q.1∧m=.lit q.2.1∧t=.ret (.int .i64 q.2.2,h):=by
      intro l
      induction l with
      | nil=>intro h; cases h
      | cons q l ih =>
        intro hh
        have hh:cond (and (eqIE a q.1) (eqIE m (.lit q.2.1))) (some (T.ret (.int .i64 q.2.2,h))) (@List.rec (IE × Int × IE) (fun _=>Option (T (AV × Heap))) none (fun q _ ih=>cond (and (eqIE a q.1) (eqIE m (.lit q.2.1))) (some (.ret (.int .i64 q.2.2,h))) ih) l)=some t:=hh
        cases hc:and (eqIE a q.1) (eqIE m (.lit q.2.1)) with
        | true =>
          rw [hc] at hh; cases hh
          rw [Bool.and_eq_true] at hc
          exact ⟨q,List.mem_cons_self,eqIE_eq _ _ hc.1,eqIE_eq _ _ hc.2,rfl⟩
        | false =>
          rw [hc,cond_false] at hh
          obtain ⟨q',h1,h2⟩:=ih hh
          exact ⟨q',List.mem_cons_of_mem _ h1,h2⟩
    obtain ⟨q,hq,ha,hm,rfl⟩:=key _ e
    refine CallOk.read (p0:=pOk ok) (p:=pOk ok) rfl (turn_at (p:=pOk ok) rfl a m h) fun ρ b hok' Q k=>⟨ρ,hok',SameL.refl _ _,⟨rfl,fun j o g=>⟨o,g,SameA.refl o⟩⟩,?_⟩
    obtain ⟨_,hA,_⟩:=hok'
    obtain ⟨h1,h2⟩:=hok _ _ hA q hq
    have k:Q (.int .i64 q.2.2,h):=k
    simp only [T.Holds]
    rw [if_pos]
    · refine ⟨_,k,SameV.int ?_,rfl,fun j o g=>⟨o,g,SameA.refl o⟩⟩
      rw [ha,hm]
      show turnF (q.1.den ρ) q.2.1=_
      exact h2
    · rw [BE.t_leq,hm,IE.den_lit]
      exact h1
  · cases e
noncomputable def bestN (L:Nat) (r:Rho):Node:=wN L (kOf L r) (rho3 L r) (rootOf L (kOf L r))
structure IsNm (L:Nat) (A:AV) (f a b len:Nat) (ρ r:Rho):Prop where
  bn:okBN L r
  book:IsBook L (kOf L r) A ρ (rho3 L r)
  nm:(bestN L r).pre.map Int.ofNat=(nmsE f len).map (IE.den ρ)
  ha:ρ.iv a=(rho3 L r).iv (400 + (bestN L r).id)
  hb:ρ.iv b=(rho3 L r).iv (464 + (bestN L r).id)
structure IsFw (L:Nat) (e:IE) (f:Bool) (i:Nat) (ρ r:Rho):Prop where
  lim:0≤e.den ρ∧e.den ρ≤99999
  some:(fewN L (kOf L r) (rho3 L r) (e.den ρ)).isSome=f
  eq:∀ n,fewN L (kOf L r) (rho3 L r) (e.den ρ)=Option.some n→ρ.iv i=(n:Int)
structure OkEa (L sw wl wm:Nat) (fp fq fr:Bool) (ρ:Rho):Prop where
  book:okB L ρ
  two:∃ r rx,IsNm L (bookF L) 9712 380 381 wl ρ r∧IsNm L (bookX L sw) 9713 382 383 wm ρ rx∧IsFw L (.var 72) fp 73 ρ r∧IsFw L (.var 72) fq 74 ρ rx∧IsFw L laterE fr 75 ρ r
  turns:∀ q ∈ turnsE sw,q.2.1≤9223372036854775807∧turnF (q.1.den ρ) q.2.1=q.2.2.den ρ
theorem nm_starts {L:Nat} (h0:1≤L) (hL:L≤6) {A:AV} {f a b len:Nat} {ρ r:Rho} (h:IsNm L A f a b len ρ r):∃ K ρ' i p,IsBook L K A ρ ρ'∧(plansL L)[i]?=some p∧(∀ c ∈ carryC p,c.den ρ'=true)∧p.map Int.ofNat=(nmsE f len).map (IE.den ρ)∧ρ.iv a=ρ'.iv (400 + i)∧ρ.iv b=ρ'.iv (464 + i):=by
  obtain ⟨k0,hK,k6,hk⟩:=k_in h0 hL h.bn
  obtain ⟨bm,_⟩:=best_le h0 hL k0 hK k6 (rho3 L r)
  refine ⟨kOf L r,rho3 L r,(bestN L r).id,(bestN L r).pre,h.book,(leaf_plan h0 hL k0 hK k6 bm).2,carry_of (K:=kOf L r) (fun q hq=>ble_t.1 (lAll_mem (lAll_mem (lAll_mem (lAll_mem leafLe_all L (mem_six h0 hL)) _ (mem_six k0 k6)) _ bm) q hq)) ?_,h.nm,h.ha,h.hb⟩
  have e:(rho3 L r).iv 65=r.iv 65:=rho3_iv (by omega)
  rw [e]; exact hk
theorem orcB2_ok {ok : Rho → (Nat → Obj → Prop) → Prop} {L : Nat} (h0 : 1 ≤ L) (hL : L ≤ 6) : ∀ {qs : List (AV × List IE)}, (∀ q ∈ qs, idsLts 2000 [q.1] = true ∧ ∀ ρ m, ok ρ m → ∃ K ρ', IsBook L K q.1 ρ ρ' ∧ (wN L K ρ' (rootOf L K)).pre.map Int.ofNat = q.2.map (IE.den ρ)) →
    ∀ {args:List AV} {h:Heap} {t:T (AV × Heap)},orcB2 L qs args h=some t→CallOk (pOk ok) 6 args h t
  | [],_,_,_,_,e=>by cases e
  | q :: qs,hq,args,h,t,e=>by
    have e1:orcB2 L (q :: qs) args h=match smallO 2000 [q.1] (vR L) (.ret (leafNm L q.2)) (fun _=>[2000]) args h with
      | some t=>some t
      | none=>orcB2 L qs args h:=rfl
    rw [e1] at e
    obtain ⟨q1,q2⟩:=hq q List.mem_cons_self
    cases hs:smallO 2000 [q.1] (vR L) (.ret (leafNm L q.2)) (fun _=>[2000]) args h with
    | some u =>
      rw [hs] at e; cases e
      exact smallO_ok (best_read h0 hL q2) (by omega) q1 (viewR_ok h0 hL) hs
    | none =>
      rw [hs] at e
      exact orcB2_ok h0 hL (fun q' h'=>hq q' (List.mem_cons_of_mem _ h')) e
theorem orcFw_ok {ok : Rho → (Nat → Obj → Prop) → Prop} {L : Nat} (h0 : 1 ≤ L) (hL : L ≤ 6) : ∀ {qs : List (AV × IE × Bool × Nat)}, (∀ q ∈ qs, idsLts 2000 [q.1, iA q.2.1] = true ∧ ∀ ρ m, ok ρ m → ∃ K ρ' r, IsBook L K q.1 ρ ρ' ∧ (0 ≤ q.2.1.den ρ ∧ q.2.1.den ρ ≤ 99999) ∧ fewN L K ρ' (q.2.1.den ρ) = r ∧ r.isSome = q.2.2.1 ∧ ∀ n, r = some n → ρ.iv q.2.2.2 = (n : Int)) →
    ∀ {args:List AV} {h:Heap} {t:T (AV × Heap)},orcFw L qs args h=some t→CallOk (pOk ok) 15 args h t
  | [],_,_,_,_,e=>by cases e
  | q :: qs,hq,args,h,t,e=>by
    have e1:orcFw L (q :: qs) args h=match smallO 2000 [q.1,iA q.2.1] (vR L) (.ret (fewLeafV L q.2.2.1 q.2.2.2)) (fun _=>cond q.2.2.1 [2000] []) args h with
      | some t=>some t
      | none=>orcFw L qs args h:=rfl
    rw [e1] at e
    obtain ⟨q1,q2⟩:=hq q List.mem_cons_self
    cases hs:smallO 2000 [q.1,iA q.2.1] (vR L) (.ret (fewLeafV L q.2.2.1 q.2.2.2)) (fun _=>cond q.2.2.1 [2000] []) args h with
    | some u =>
      rw [hs] at e; cases e
      exact smallO_ok (few_names h0 hL q2) (by omega) q1 (viewR_ok h0 hL) hs
    | none =>
      rw [hs] at e
      exact orcFw_ok h0 hL (fun q' h'=>hq q' (List.mem_cons_of_mem _ h')) e
theorem orcSt2_ok {ok : Rho → (Nat → Obj → Prop) → Prop} {L : Nat} (h0 : 1 ≤ L) (hL : L ≤ 6) (hall : lAll (ckSt L) (plansL L) = true) {qs : List (AV × List IE × Nat × Nat)}
    (hq:∀ q ∈ qs,(∀ (c:Nat) (E:Env),conc (E.mv 2000 c 2001) q.1=conc E q.1)∧∀ ρ m,ok ρ m→∃ K ρ' i p,IsBook L K q.1 ρ ρ'∧(plansL L)[i]?=some p∧(∀ c ∈ carryC p,c.den ρ'=true)∧p.map Int.ofNat=q.2.1.map (IE.den ρ)∧ρ.iv q.2.2.1=ρ'.iv (400 + i)∧ρ.iv q.2.2.2=ρ'.iv (464 + i))
    {args:List AV} {h:Heap} {t:T (AV × Heap)} (e:orcSt2 L qs args h=some t):CallOk (pOk ok) 11 args h t:=by
  unfold orcSt2 at e
  split at e
  · rename_i fa c s z n
    obtain ⟨j1,e⟩:=cond_some e
    simp only [Bool.and_eq_true] at j1
    obtain ⟨⟨i2,i3⟩,i4⟩:=j1
    rw [beq_t.1 i2,beq_t.1 i3]
    have key:∀ (l:List (AV × List IE × Nat × Nat)),(@List.rec (AV × List IE × Nat × Nat) (fun _=>Option (T (AV × Heap))) none (fun q _ ih=>cond (and (eqAV fa q.1) (and (Nat.beq n (lLen q.2.1)) (lessO (ro (lMap iA q.2.1)) (h.get c)))) (some (.ret (startsV2 q.2.2.1 q.2.2.2,h))) ih) l)=some t→∃ q ∈ l,fa=q.1∧n=lLen q.2.1∧lessO (ro (lMap iA q.2.1)) (h.get c)=true∧t=.ret (startsV2 q.2.2.1 q.2.2.2,h):=by
      intro l
      induction l with
      | nil=>intro h; cases h
      | cons q l ih =>
        intro hh
        have hh:cond (and (eqAV fa q.1) (and (Nat.beq n (lLen q.2.1)) (lessO (ro (lMap iA q.2.1)) (h.get c)))) (some (T.ret (startsV2 q.2.2.1 q.2.2.2,h))) (@List.rec (AV × List IE × Nat × Nat) (fun _=>Option (T (AV × Heap))) none (fun q _ ih=>cond (and (eqAV fa q.1) (and (Nat.beq n (lLen q.2.1)) (lessO (ro (lMap iA q.2.1)) (h.get c)))) (some (.ret (startsV2 q.2.2.1 q.2.2.2,h))) ih) l)=some t:=hh
        cases hc:and (eqAV fa q.1) (and (Nat.beq n (lLen q.2.1)) (lessO (ro (lMap iA q.2.1)) (h.get c))) with
        | true =>
          rw [hc] at hh; cases hh
          simp only [Bool.and_eq_true] at hc
          exact ⟨q,List.mem_cons_self,eqAV_eq _ _ hc.1,beq_t.1 hc.2.1,hc.2.2,rfl⟩
        | false =>
          rw [hc,cond_false] at hh
          obtain ⟨q',k1,k2⟩:=ih hh
          exact ⟨q',List.mem_cons_of_mem _ k1,k2⟩
    obtain ⟨q,hm,rfl,rfl,hl,rfl⟩:=key qs e
    obtain ⟨k1,k2⟩:=hq q hm
    exact starts_names (starts_read h0 hL hall k2) (k1 c) i4 hl
  · cases e
theorem bookX_mv (L sw c:Nat) (E:Env):conc (E.mv 2000 c 2001) (bookX L sw)=conc E (bookX L sw)∧conc (E.mv 2000 c 2001) (bookF L)=conc E (bookF L):=by
  refine ⟨?_,?_⟩
  · unfold bookX
    split <;> simp [conc,concL,Env.mv,mvN,vj]
  · simp [bookF,bookC,conc,concL,Env.mv,mvN,vj]
theorem bookX_ids (L sw:Nat):idsLts 2000 [bookX L sw]=true:=by
  unfold bookX
  split <;> rfl
theorem bookX_ids2 (L sw:Nat):idsLts 2000 [bookX L sw,iA (.var 72)]=true:=by
  unfold bookX
  split <;> rfl
theorem orcE_ok {L:Nat} (h0:1≤L) (hL:L≤6) (hall:lAll (ckSt L) (plansL L)=true) {sw wl wm:Nat} {fp fq fr:Bool}:∀ f args h t,orcE L sw wl wm fp fq fr f args h=some t→CallOk (pOk fun ρ _=>OkEa L sw wl wm fp fq fr ρ) f args h t:=by
  intro f args h t e
  unfold orcE at e
  have dec:∀ {n:Nat} {a b:Option (T (AV × Heap))},cond (Nat.beq f n) a b=some t→(f=n∧a=some t) ∨ b=some t:=fun {n a b} e=>by
    cases hf:Nat.beq f n with
    | true=>rw [hf,cond_true] at e; exact .inl ⟨beq_t.1 hf,e⟩
    | false=>rw [hf,cond_false] at e; exact .inr e
  rcases dec e with ⟨rfl,e2⟩ | e
  · exact CallOk.weak (fun _ _ _=>trivial) (carried_orc e2)
  rcases dec e with ⟨rfl,e2⟩ | e
  · exact orcTu_ok (fun ρ m h=>h.turns) e2
  rcases dec e with ⟨rfl,e2⟩ | e
  · exact smallO_ok (CallOk.weak (fun ρ m h=>h.book) (soundB_said h0 hL)) (by omega) rfl (viewR_ok h0 hL) e2
  rcases dec e with ⟨rfl,e2⟩ | e
  · refine orcB2_ok h0 hL (fun q hq=>?_) e2
    simp only [bestsE,List.mem_cons,List.not_mem_nil,or_false] at hq
    rcases hq with rfl | rfl
    · exact ⟨rfl, fun ρ m h => by
        obtain ⟨r,rx,a,_⟩:=h.two
        exact ⟨_,_,a.book,a.nm⟩⟩
    · exact ⟨bookX_ids L sw, fun ρ m h => by
        obtain ⟨r,rx,_,a,_⟩:=h.two
        exact ⟨_,_,a.book,a.nm⟩⟩
  rcases dec e with ⟨rfl,e2⟩ | e
  · refine orcSt2_ok h0 hL hall (fun q hq=>?_) e2
    simp only [startsE,List.mem_cons,List.not_mem_nil,or_false] at hq
    rcases hq with rfl | rfl
    · exact ⟨fun c E => (bookX_mv L sw c E).2, fun ρ m h => by
        obtain ⟨r,rx,a,_⟩:=h.two
        exact nm_starts h0 hL a⟩
    · exact ⟨fun c E => (bookX_mv L sw c E).1, fun ρ m h => by
        obtain ⟨r,rx,_,a,_⟩:=h.two
        exact nm_starts h0 hL a⟩
  rcases dec e with ⟨rfl,e1⟩ | e1
  · refine orcFw_ok h0 hL (fun q hq=>?_) e1
    simp only [fewsE,List.mem_cons,List.not_mem_nil,or_false] at hq
    rcases hq with rfl | rfl | rfl
    · exact ⟨rfl, fun ρ m h => by
        obtain ⟨r,rx,a,_,f,_⟩:=h.two
        exact ⟨_,_,_,a.book,f.lim,rfl,f.some,f.eq⟩⟩
    · exact ⟨bookX_ids2 L sw, fun ρ m h => by
        obtain ⟨r,rx,_,a,_,f,_⟩:=h.two
        exact ⟨_,_,_,a.book,f.lim,rfl,f.some,f.eq⟩⟩
    · exact ⟨rfl, fun ρ m h => by
        obtain ⟨r,rx,a,_,_,_,f⟩:=h.two
        exact ⟨_,_,_,a.book,f.lim,rfl,f.some,f.eq⟩⟩
  · cases e1
section
variable {E:Env} {w:World} {vs:List Value}
theorem easier_valid {L : Nat} (h0 : 1 ≤ L) (hL : L ≤ 6) (hall : lAll (ckSt L) (plansL L) = true) {sw wl wm : Nat} {fp fq fr : Bool} (hck : lawE L sw wl wm fp fq fr = true) (hq : ∀ c ∈ ivC qE, c.den E.ρ = true) (hcs : ∀ c ∈ csE fp, c.den E.ρ = true)
    (HS:HeapOk (pOk fun ρ _=>OkEa L sw wl wm fp fq fr ρ) E (viewA 2000 (vR L)) (Base.of w) w) (ha:concL E [bookF L,.agg [vj 93,vj 94,vj 97]]=some vs):Calls Tryd.prog 5 vs.toArray w fun e w'=>e=.returned (.bool true)∧Below w.heap.size w w' :=
  law_end (orcE_ok h0 hL hall) hck (knOf_ok hq hcs) HS ha
end
end Go.Sx
namespace Go.Sx
open Go.RowKit Go.Proofs
set_option maxRecDepth 100000
def xI (sw:Nat) (w d:Int) (r:Nat→Int) (j:Nat):Int :=
  if j=65 then (if sw=0 then min 6 (r 65 + 1 + d) else r 65)
  else if j=61 ∨ j=62 then (if sw=1 then max 0 (r j - w) else r j)
  else if j=63 ∨ j=64 then (if sw=2 then max 0 (r j - w) else r j) else r j
theorem xI_lt {sw:Nat} {w d:Int} {r:Nat→Int} {j:Nat} (h:j < 61 ∨ 66≤j):xI sw w d r j=r j:=by
  unfold xI
  rw [if_neg (by omega),if_neg (by omega),if_neg (by omega)]
theorem xI_go {sw:Nat} {w d:Int} {r:Nat→Int} {j:Nat} (h:j=61 ∨ j=62):xI sw w d r j=if sw=1 then max 0 (r j - w) else r j:=by
  unfold xI
  rw [if_neg (by omega),if_pos h]
theorem xI_back {sw:Nat} {w d:Int} {r:Nat→Int} {j:Nat} (h:j=63 ∨ j=64):xI sw w d r j=if sw=2 then max 0 (r j - w) else r j:=by
  unfold xI
  rw [if_neg (by omega),if_neg (by omega),if_pos h]
theorem xI_carry {sw:Nat} {w d:Int} {r:Nat→Int}:xI sw w d r 65=if sw=0 then min 6 (r 65 + 1 + d) else r 65:=by
  unfold xI
  rw [if_pos rfl]
noncomputable def rhoX (sw:Nat) (w d:Int) (r:Rho):Rho:=⟨xI sw w d r.iv,r.bv,r.fi,r.fb,r.ov⟩
structure BookIn (ρ:Rho):Prop where
  shows:0≤ρ.iv 60∧ρ.iv 60≤998
  go:0≤ρ.iv 61∧ρ.iv 61≤ρ.iv 62∧ρ.iv 62≤3600
  back:0≤ρ.iv 63∧ρ.iv 63≤ρ.iv 64∧ρ.iv 64≤3600
  carry:1≤ρ.iv 65∧ρ.iv 65≤6
theorem bookIn {ρ:Rho} (h:okBook ρ):BookIn ρ:=by
  obtain ⟨h1,h2⟩:=h
  simp only [bookQ,bookLe,leV,ivC,List.forall_mem_cons,BE.t_leq,IE.den_lit,IE.den_var,List.not_mem_nil,false_implies,implies_true,and_true] at h1 h2
  exact ⟨by omega,by omega,by omega,by omega⟩
theorem bookIn_ok {ρ:Rho} (h:BookIn ρ):okBook ρ:=by
  obtain ⟨h1,h2,h3,h4⟩:=h
  refine ⟨?_,?_⟩
  · simp only [bookQ,ivC,List.forall_mem_cons,BE.t_leq,IE.den_lit,IE.den_var,List.not_mem_nil,false_implies,implies_true,and_true]
    omega
  · simp only [bookLe,leV,List.forall_mem_cons,BE.t_leq,IE.den_var,List.not_mem_nil,false_implies,implies_true,and_true]
    omega
section
variable {sw:Nat} {w d:Int} {r:Rho} (hw:0≤w) (hd:0≤d) (hb:BookIn r)
include hw hd hb
theorem rhoX_book:BookIn (rhoX sw w d r):=by
  obtain ⟨h1,h2,h3,h4⟩:=hb
  refine ⟨?_,?_,?_,?_⟩
  · show 0≤xI sw w d r.iv 60∧xI sw w d r.iv 60≤998
    rw [xI_lt (by omega)]; exact h1
  · show 0≤xI sw w d r.iv 61∧xI sw w d r.iv 61≤xI sw w d r.iv 62∧xI sw w d r.iv 62≤3600
    rw [xI_go (.inl rfl),xI_go (.inr rfl)]
    split <;> omega
  · show 0≤xI sw w d r.iv 63∧xI sw w d r.iv 63≤xI sw w d r.iv 64∧xI sw w d r.iv 64≤3600
    rw [xI_back (.inl rfl),xI_back (.inr rfl)]
    split <;> omega
  · show 1≤xI sw w d r.iv 65∧xI sw w d r.iv 65≤6
    rw [xI_carry]
    split <;> omega
theorem rhoX_easier {L:Nat} (h0:1≤L) (hL:L≤6) (hB:okBN L r):okBN L (rhoX sw w d r)∧Easier L r (rhoX sw w d r)∧r.iv 65≤(rhoX sw w d r).iv 65:=by
  have hx:okBN L (rhoX sw w d r):=okBN_x h0 hL ⟨fun i hi=>xI_lt (by omega),rfl,rfl⟩ (bookIn_ok (rhoX_book hw hd hb)) hB
  obtain ⟨h1,h2,h3,h4⟩:=hb
  refine ⟨hx,⟨lastZ_of h0 hL hB,lastZ_of h0 hL hx,fun i h1 h2=>xI_lt (by omega),?_,?_⟩,?_⟩
  · show xI sw w d r.iv 62≤_
    rw [xI_go (.inr rfl)]
    split <;> omega
  · show xI sw w d r.iv 64≤_
    rw [xI_back (.inr rfl)]
    split <;> omega
  · show _≤xI sw w d r.iv 65
    rw [xI_carry]
    split <;> omega
end
theorem bookX_same {L sw:Nat} (hsw:sw < 3) {w d:Int} (hw:0≤w∧w≤599) (hd:0≤d∧d≤2) {ρ ρ' r:Rho} (hb:BookIn r) (e:∀ j,j < 66→ρ.iv j=r.iv j) (e71:ρ.iv 71=w) (e76:ρ.iv 76=d) (e':∀ j,j < 66→ρ'.iv j=xI sw w d r.iv j):SameV ρ (bookX L sw) ρ' (bookF L):=by
  obtain ⟨h1,h2,h3,h4⟩:=hb
  have lo:∀ j,j < 61→SameV ρ (vj j) ρ' (vj j):=fun j hj=>SameV.int (by rw [IE.den_var,IE.den_var,e j (by omega),e' j (by omega),xI_lt (.inl hj)])
  have E61:=e 61 (by omega); have E62:=e 62 (by omega); have E63:=e 63 (by omega); have E64:=e 64 (by omega); have E65:=e 65 (by omega)
  have X61:=e' 61 (by omega); have X62:=e' 62 (by omega); have X63:=e' 63 (by omega); have X64:=e' 64 (by omega); have X65:=e' 65 (by omega)
  rw [xI_go (.inl rfl)] at X61
  rw [xI_go (.inr rfl)] at X62
  rw [xI_back (.inl rfl)] at X63
  rw [xI_back (.inr rfl)] at X64
  rw [xI_carry] at X65
  have sb:∀ j,0≤ρ.iv j→ρ.iv j≤3600→(IE.mx (.lit 0) (.bin .sub .i64 (.var j) (.var 71))).den ρ=max 0 (ρ.iv j - w):=fun j h1 h2=>by
    rw [IE.den_mx,IE.den_lit,IE.den_sub,IE.den_var,IE.den_var,e71]
    rw [show IntKind.i64.wrap (ρ.iv j - w)=ρ.iv j - w from wrap_sm (by omega) (by omega)]
  have ad:(IE.mn (.lit 6) (.bin .add .i64 (.bin .add .i64 (.var 65) (.lit 1)) (.var 76))).den ρ=min 6 (ρ.iv 65 + 1 + d):=by
    rw [IE.den_mn,IE.den_lit,IE.den_add,IE.den_add,IE.den_lit,IE.den_var,IE.den_var,e76]
    rw [show IntKind.i64.wrap (ρ.iv 65 + 1)=ρ.iv 65 + 1 from wrap_sm (by omega) (by omega)]
    rw [show IntKind.i64.wrap (ρ.iv 65 + 1 + d)=ρ.iv 65 + 1 + d from wrap_sm (by omega) (by omega)]
  rcases (by omega:sw=0 ∨ sw=1 ∨ sw=2) with rfl | rfl | rfl
  · rw [if_neg (by omega)] at X61 X62 X63 X64
    rw [if_pos rfl] at X65
    refine SameV.agg (SameL.cons (SameV.sliceX _ _ _ _) (SameL.cons (lo 0 (by omega)) (SameL.cons (lo 1 (by omega)) (SameL.cons (lo 2 (by omega)) (SameL.cons (lo 3 (by omega)) (SameL.cons (lo 4 (by omega)) (SameL.cons (lo 60 (by omega)) (SameL.cons (SameV.int ?_) (SameL.cons (SameV.int ?_) (SameL.cons (SameV.int ?_) (SameL.cons (SameV.int ?_) (SameL.cons (SameV.int ?_) SameL.nil))))))))))))
    · rw [IE.den_var,IE.den_var,E61,X61]
    · rw [IE.den_var,IE.den_var,E62,X62]
    · rw [IE.den_var,IE.den_var,E63,X63]
    · rw [IE.den_var,IE.den_var,E64,X64]
    · rw [ad,IE.den_var,E65,X65]
  · rw [if_pos rfl] at X61 X62
    rw [if_neg (by omega)] at X63 X64 X65
    refine SameV.agg (SameL.cons (SameV.sliceX _ _ _ _) (SameL.cons (lo 0 (by omega)) (SameL.cons (lo 1 (by omega)) (SameL.cons (lo 2 (by omega)) (SameL.cons (lo 3 (by omega)) (SameL.cons (lo 4 (by omega)) (SameL.cons (lo 60 (by omega)) (SameL.cons (SameV.int ?_) (SameL.cons (SameV.int ?_) (SameL.cons (SameV.int ?_) (SameL.cons (SameV.int ?_) (SameL.cons (SameV.int ?_) SameL.nil))))))))))))
    · rw [sb 61 (by omega) (by omega),IE.den_var,E61,X61]
    · rw [sb 62 (by omega) (by omega),IE.den_var,E62,X62]
    · rw [IE.den_var,IE.den_var,E63,X63]
    · rw [IE.den_var,IE.den_var,E64,X64]
    · rw [IE.den_var,IE.den_var,E65,X65]
  · rw [if_neg (by omega)] at X61 X62 X65
    rw [if_pos rfl] at X63 X64
    refine SameV.agg (SameL.cons (SameV.sliceX _ _ _ _) (SameL.cons (lo 0 (by omega)) (SameL.cons (lo 1 (by omega)) (SameL.cons (lo 2 (by omega)) (SameL.cons (lo 3 (by omega)) (SameL.cons (lo 4 (by omega)) (SameL.cons (lo 60 (by omega)) (SameL.cons (SameV.int ?_) (SameL.cons (SameV.int ?_) (SameL.cons (SameV.int ?_) (SameL.cons (SameV.int ?_) (SameL.cons (SameV.int ?_) SameL.nil))))))))))))
    · rw [IE.den_var,IE.den_var,E61,X61]
    · rw [IE.den_var,IE.den_var,E62,X62]
    · rw [sb 63 (by omega) (by omega),IE.den_var,E63,X63]
    · rw [sb 64 (by omega) (by omega),IE.den_var,E64,X64]
    · rw [IE.den_var,IE.den_var,E65,X65]
noncomputable def fewZ (L:Nat) (r:Rho) (lim:Int):Option Nat:=fewN L (kOf L r) (rho3 L r) lim
noncomputable def ivNm (L:Nat) (r rx:Rho) (w d st:Int) (j:Nat):Int :=
  if j=71 then w else if j=72 then st else if j=73 then ((fewZ L r st).getD 0:Nat) else if j=74 then ((fewZ L rx st).getD 0:Nat) else if j=75 then ((fewZ L r (min 99999 (st + w))).getD 0:Nat) else if j=76 then d
  else if j=380 then (rho3 L r).iv (400 + (bestN L r).id) else if j=381 then (rho3 L r).iv (464 + (bestN L r).id) else if j=382 then (rho3 L rx).iv (400 + (bestN L rx).id) else if j=383 then (rho3 L rx).iv (464 + (bestN L rx).id)
  else (rho3 L r).iv j
noncomputable def rhoN (L:Nat) (r rx:Rho) (w d st:Int):Rho:=⟨ivNm L r rx w d st,r.bv,fun f a b c=>if f=9712 then (((bestN L r).pre[a.toNat]?.getD 0:Nat):Int) else if f=9713 then (((bestN L rx).pre[a.toNat]?.getD 0:Nat):Int) else r.fi f a b c,r.fb,r.ov⟩
section
variable {L:Nat} {r rx:Rho} {w d st:Int}
theorem rhoN_iv {j:Nat} (h:¬ (71≤j∧j≤76)∧¬ (380≤j∧j≤383)):(rhoN L r rx w d st).iv j=(rho3 L r).iv j:=by
  show ivNm L r rx w d st j=_
  unfold ivNm
  rw [if_neg (by omega),if_neg (by omega),if_neg (by omega),if_neg (by omega),if_neg (by omega),if_neg (by omega),if_neg (by omega),if_neg (by omega),if_neg (by omega),if_neg (by omega)]
theorem rhoN_like:LikeS (rho3 L r) (rhoN L r rx w d st):=⟨fun i hi=>rhoN_iv (by omega),fun f hf=>by
  funext a b c
  show (if f=9712 then _ else if f=9713 then _ else r.fi f a b c)=_
  rw [if_neg (by omega),if_neg (by omega)]; rfl,fun _ _=>rfl⟩
theorem rhoN_f1 (a b c:Int):(rhoN L r rx w d st).fi 9712 a b c=(((bestN L r).pre[a.toNat]?.getD 0:Nat):Int):=by
  unfold rhoN
  simp only [if_true]
theorem rhoN_f2 (a b c:Int):(rhoN L r rx w d st).fi 9713 a b c=(((bestN L rx).pre[a.toNat]?.getD 0:Nat):Int):=by
  unfold rhoN
  simp only [if_true]
  rw [if_neg (by omega)]
theorem nms_den {f:Nat} {p:List Nat} {ρ:Rho} (hf:1000≤f) (h:∀ i,i < p.length→ρ.fi f (i:Int) 0 0=((p[i]?.getD 0:Nat):Int)):p.map Int.ofNat=(nmsE f (lLen p)).map (IE.den ρ):=by
  unfold nmsE
  rw [lMap_eq,List.map_map,lLen_eq]
  refine List.ext_getElem? fun i=>?_
  by_cases hi:i < p.length
  · rw [List.getElem?_map,List.getElem?_map,upN_get' _ _ _ hi,List.getElem?_eq_getElem hi]
    simp only [Option.map_some,Function.comp,Nat.zero_add,Option.some.injEq]
    show _=FI ρ.fi f (i:Int) 0 0
    unfold FI
    rw [if_pos hf,h i hi]
    simp only [List.getElem?_eq_getElem hi,Option.getD_some]; rfl
  · rw [List.getElem?_eq_none (by rw [List.length_map]; omega),List.getElem?_eq_none (by rw [List.length_map,upN_len']; omega)]
theorem best_len (h0:1≤L) (hL:L≤6) {r:Rho} (hB:okBN L r):1≤lLen (bestN L r).pre∧lLen (bestN L r).pre≤L:=by
  obtain ⟨k0,hK,k6,_⟩:=k_in h0 hL hB
  obtain ⟨bm,_⟩:=best_le h0 hL k0 hK k6 (rho3 L r)
  have hp:=List.mem_of_getElem? (leaf_plan h0 hL k0 hK k6 bm).2
  obtain ⟨p1,p2⟩:=plansN_mem _ _ _ hp
  have:=sum_len _ p1
  rw [lLen_eq]
  refine ⟨?_,by unfold bestN; omega⟩
  cases hc:(bestN L r).pre with
  | nil=>unfold bestN at hc; rw [hc] at p2; simp only [sumN] at p2; omega
  | cons a l=>simp
theorem few_len (h0:1≤L) (hL:L≤6) {r:Rho} (hB:okBN L r) {lim:Int}:(fewZ L r lim).getD 0≤6:=by
  cases h:fewZ L r lim with
  | none=>exact Nat.zero_le _
  | some n =>
    obtain ⟨k0,hK,k6,_⟩:=k_in h0 hL hB
    obtain ⟨x,hx,_,hn⟩:=few_some (L:=L) (K:=kOf L r) (ρ:=rho3 L r) (lim:=lim) h
    have hp:=List.mem_of_getElem? (leaf_plan h0 hL k0 hK k6 hx).2
    obtain ⟨p1,p2⟩:=plansN_mem _ _ _ hp
    have:=sum_len _ p1
    rw [Option.getD_some,hn,lLen_eq]; omega
end
theorem okEa_of {L : Nat} (h0 : 1 ≤ L) (hL : L ≤ 6) {r : Rho} (hB : okBN L r) {sw : Nat} (hsw : sw < 3) {w d st : Int} (hw : 0 ≤ w ∧ w ≤ 599) (hd : 0 ≤ d ∧ d ≤ 2) (hst : 0 ≤ st ∧ st ≤ 99999)
    (t0:turnF (r.iv 93) 3=(sw:Int)) (t1:turnF (r.iv 94) 600=w) (t2:turnF w 3=d) (t3:turnF (r.iv 97) 100000=st) :
    let rx:=rhoX sw w d r
    let ρ:=rhoN L r rx w d st
    OkEa L sw (lLen (bestN L r).pre) (lLen (bestN L rx).pre) (fewZ L r st).isSome (fewZ L rx st).isSome (fewZ L r (min 99999 (st + w))).isSome ρ∧(∀ c ∈ ivC qE,c.den ρ=true)∧(∀ c ∈ csE (fewZ L r st).isSome,c.den ρ=true) ∧
      ((fewZ L r st).isSome=true→(fewZ L rx st).isSome=true∧(fewZ L r (min 99999 (st + w))).isSome=true):=by
  intro rx ρ
  have hbk:=bookIn hB.1.2.2.2
  obtain ⟨hBx,hE,hc⟩:=rhoX_easier (sw:=sw) hw.1 hd.1 hbk h0 hL hB
  have hBx:okBN L rx:=hBx
  have hE:Easier L r rx:=hE
  have hc:r.iv 65≤rx.iv 65:=hc
  have iv:∀ j,j < 66→ρ.iv j=r.iv j:=fun j hj=>by rw [rhoN_iv (by omega),rho3_iv (by omega)]
  have iv9:∀ j,90≤j→j < 100→ρ.iv j=r.iv j:=fun j h1 h2=>by rw [rhoN_iv (by omega),rho3_iv (by omega)]
  have e71:ρ.iv 71=w:=by
    show ivNm L r rx w d st 71=w
    unfold ivNm; rw [if_pos rfl]
  have e72:ρ.iv 72=st:=by
    show ivNm L r rx w d st 72=st
    unfold ivNm; rw [if_neg (by omega),if_pos rfl]
  have e73:ρ.iv 73=((fewZ L r st).getD 0:Nat):=by
    show ivNm L r rx w d st 73=_
    unfold ivNm; rw [if_neg (by omega),if_neg (by omega),if_pos rfl]
  have e74:ρ.iv 74=((fewZ L rx st).getD 0:Nat):=by
    show ivNm L r rx w d st 74=_
    unfold ivNm; rw [if_neg (by omega),if_neg (by omega),if_neg (by omega),if_pos rfl]
  have e75:ρ.iv 75=((fewZ L r (min 99999 (st + w))).getD 0:Nat):=by
    show ivNm L r rx w d st 75=_
    unfold ivNm; rw [if_neg (by omega),if_neg (by omega),if_neg (by omega),if_neg (by omega),if_pos rfl]
  have e76:ρ.iv 76=d:=by
    show ivNm L r rx w d st 76=_
    unfold ivNm; rw [if_neg (by omega),if_neg (by omega),if_neg (by omega),if_neg (by omega),if_neg (by omega),if_pos rfl]
  have e380:ρ.iv 380=(rho3 L r).iv (400 + (bestN L r).id):=by
    show ivNm L r rx w d st 380=_
    unfold ivNm; rw [if_neg (by omega),if_neg (by omega),if_neg (by omega),if_neg (by omega),if_neg (by omega),if_neg (by omega),if_pos rfl]
  have e381:ρ.iv 381=(rho3 L r).iv (464 + (bestN L r).id):=by
    show ivNm L r rx w d st 381=_
    unfold ivNm; rw [if_neg (by omega),if_neg (by omega),if_neg (by omega),if_neg (by omega),if_neg (by omega),if_neg (by omega),if_neg (by omega),if_pos rfl]
  have e382:ρ.iv 382=(rho3 L rx).iv (400 + (bestN L rx).id):=by
    show ivNm L r rx w d st 382=_
    unfold ivNm; rw [if_neg (by omega),if_neg (by omega),if_neg (by omega),if_neg (by omega),if_neg (by omega),if_neg (by omega),if_neg (by omega),if_neg (by omega),if_pos rfl]
  have e383:ρ.iv 383=(rho3 L rx).iv (464 + (bestN L rx).id):=by
    show ivNm L r rx w d st 383=_
    unfold ivNm; rw [if_neg (by omega),if_neg (by omega),if_neg (by omega),if_neg (by omega),if_neg (by omega),if_neg (by omega),if_neg (by omega),if_neg (by omega),if_neg (by omega),if_pos rfl]
  have sr:=sr_of h0 hL hB
  have srx:=sr_of h0 hL hBx
  obtain ⟨k0,hK,k6,_⟩:=k_in h0 hL hB
  obtain ⟨k0x,hKx,k6x,_⟩:=k_in h0 hL hBx
  have hl:LikeS (rho3 L r) ρ:=rhoN_like
  have hok:okB L ρ:=(okSB_like h0 hL hl sr.1).1.1
  have b1:IsBook L (kOf L r) (bookF L) ρ (rho3 L r):=⟨k0,hK,k6,sr,fun j hj=>hl.iv j (by omega),bookF_like fun j hj=>hl.iv j (by omega)⟩
  have b2:IsBook L (kOf L rx) (bookX L sw) ρ (rho3 L rx):=⟨k0x,hKx,k6x,srx,fun j hj=>by
    rw [iv j (by omega),rho3_iv (by omega)]
    show _=xI sw w d r.iv j
    rw [xI_lt (by omega)],bookX_same hsw hw hd hbk iv e71 e76 fun j hj=>rho3_iv (by omega)⟩
  have hlat:laterE.den ρ=min 99999 (st + w):=by
    unfold laterE
    rw [IE.den_mn,IE.den_lit,IE.den_add,IE.den_var,IE.den_var,e71,e72]
    rw [show IntKind.i64.wrap (st + w)=st + w from wrap_sm (by omega) (by omega)]
  have d72:(IE.var 72).den ρ=st:=by rw [IE.den_var,e72]
  have up:∀ n,fewZ L r st=some n→∃ m,fewZ L rx st=some m∧m≤n:=fun n hn=>few_easier h0 hL hB hBx hE hc hn
  have later:∀ n,fewZ L r st=some n→∃ m,fewZ L r (min 99999 (st + w))=some m∧m≤n:=fun n hn=>few_later h0 hL hB (by omega) hn
  refine ⟨⟨hok,⟨r,rx,⟨hB,b1,nms_den (by omega) fun i hi=>?_,e380,e381⟩,⟨hBx,b2,nms_den (by omega) fun i hi=>?_,e382,e383⟩,⟨by rw [d72]; exact hst,by rw [d72]; rfl,fun n hn=>?_⟩,⟨by rw [d72]; exact hst,by rw [d72]; rfl,fun n hn=>?_⟩,⟨by rw [hlat]; omega,by rw [hlat]; rfl,fun n hn=>?_⟩⟩,fun q hq=>?_⟩,?_,?_,fun h=>?_⟩
  · rw [rhoN_f1,Int.toNat_natCast]
  · rw [rhoN_f2,Int.toNat_natCast]
  · rw [d72] at hn
    have hn:fewZ L r st=some n:=hn
    rw [e73,hn]; rfl
  · rw [d72] at hn
    have hn:fewZ L rx st=some n:=hn
    rw [e74,hn]; rfl
  · rw [hlat] at hn
    have hn:fewZ L r (min 99999 (st + w))=some n:=hn
    rw [e75,hn]; rfl
  · simp only [turnsE,List.mem_cons,List.not_mem_nil,or_false] at hq
    rcases hq with rfl | rfl | rfl | rfl
    · exact ⟨by show (600:Int)≤_; omega,by show turnF (ρ.iv 94) 600=ρ.iv 71; rw [iv9 94 (by omega) (by omega),t1,e71]⟩
    · exact ⟨by show (3:Int)≤_; omega,by show turnF (ρ.iv 93) 3=(IE.lit (Int.ofNat sw)).den ρ; rw [iv9 93 (by omega) (by omega),t0,IE.den_lit]; rfl⟩
    · exact ⟨by show (3:Int)≤_; omega,by show turnF (ρ.iv 71) 3=ρ.iv 76; rw [e71,t2,e76]⟩
    · exact ⟨by show (100000:Int)≤_; omega,by show turnF (ρ.iv 97) 100000=ρ.iv 72; rw [iv9 97 (by omega) (by omega),t3,e72]⟩
  · obtain ⟨_,g1,g2,g3⟩:=hbk
    have f1:=few_len h0 hL hB (lim:=st)
    have f2:=few_len h0 hL hBx (lim:=st)
    have f3:=few_len h0 hL hB (lim:=min 99999 (st + w))
    simp only [qE,ivC,List.forall_mem_cons,BE.t_leq,IE.den_lit,IE.den_var,List.not_mem_nil,false_implies,implies_true,and_true,iv 61 (by omega),iv 62 (by omega),iv 63 (by omega),iv 64 (by omega),iv 65 (by omega),e71,e72,e73,e74,e75,e76]
    omega
  · have hbe:=best_easier h0 hL hB hBx hE hc
    have h1:(BE.cmp .leq (.var 382) (.var 380)).den ρ=true:=by
      rw [BE.t_leq,IE.den_var,IE.den_var,e382,e380]; exact hbe
    intro c hcc
    unfold csE at hcc
    rcases List.mem_cons.1 hcc with rfl | hcc
    · exact h1
    · cases hf:fewZ L r st with
      | none=>rw [hf] at hcc; cases hcc
      | some n =>
        rw [hf] at hcc
        obtain ⟨m,hm,hle⟩:=up n hf
        obtain ⟨m',hm',hle'⟩:=later n hf
        have hcc:c ∈ [BE.cmp .leq (.var 74) (.var 73),BE.cmp .leq (.var 75) (.var 73)]:=hcc
        simp only [List.mem_cons,List.not_mem_nil,or_false] at hcc
        rcases hcc with rfl | rfl
        · rw [BE.t_leq,IE.den_var,IE.den_var,e73,e74,hf,hm]
          show ((m:Nat):Int)≤(n:Nat); omega
        · rw [BE.t_leq,IE.den_var,IE.den_var,e73,e75,hf,hm']
          show ((m':Nat):Int)≤(n:Nat); omega
  · cases hf:fewZ L r st with
    | none=>rw [hf] at h; cases h
    | some n =>
      obtain ⟨m,hm,_⟩:=up n hf
      obtain ⟨m',hm',_⟩:=later n hf
      rw [hm,hm']; exact ⟨rfl,rfl⟩
end Go.Sx
