/- SxTree -/
import Derived.Test.YtfbongdjicmegaaDoorSxFloat
import Derived.KernelRfl
import Derived.ProofKit
import Derived.LaidMore
import Derived.OpenShut
import Derived.Carry
import Derived.OpenVars
import Derived.Test.YtfbongdjicmegaaDoorSxOps6
namespace Go.Sx
open Go.RowKit
theorem lRev_eq {α:Type} (l:List α):lRev l=l.reverse:=by
  have:∀ (l m:List α),(@List.rec α (fun _=>List α→List α) (fun m=>m) (fun a _ ih m=>ih (a :: m)) l:List α→List α) m=l.reverse ++ m:=by
    intro l
    induction l with
    | nil=>intro m; rfl
    | cons a l ih=>intro m; show (@List.rec α (fun _=>List α→List α) (fun m=>m) (fun a _ ih m=>ih (a :: m)) l:List α→List α) (a :: m)=_; rw [ih]; simp
  unfold lRev
  rw [this l []]; simp
theorem T.holds_at {α:Type} {ρ:Rho} {P:α→Prop}:∀ t:T α,t.Holds ρ P→∃ b,t.Holds ρ (fun x=>x=b)∧P b
  | .ret a,h=>⟨a,rfl,h⟩
  | .fail w,h=>absurd h id
  | .br c x y,h=>by
    simp only [T.Holds] at h ⊢
    split at h
    · rename_i hc; obtain ⟨b,h1,h2⟩:=T.holds_at x h; exact ⟨b,by rw [if_pos hc]; exact h1,h2⟩
    · rename_i hc; obtain ⟨b,h1,h2⟩:=T.holds_at y h; exact ⟨b,by rw [if_neg hc]; exact h1,h2⟩
theorem uptoT_ok {f:Nat→T Bool} {ρ:Rho}:∀ (n k:Nat),(uptoT f n k).Holds ρ (fun b=>b=true)→∀ j,k≤j→j≤k + n→(f j).Holds ρ fun b=>b=true
  | 0,k,h,j,h1,h2=>by
    have:j=k:=by omega
    subst this; exact h
  | n + 1,k,h,j,h1,h2=>by
    have h':((f k).bind fun b=>cond b (uptoT f n (k + 1)) (.ret false)).Holds ρ (fun b=>b=true):=h
    rw [T.holds_bind] at h'
    obtain ⟨b,hb,h'⟩:=T.holds_at _ h'
    cases b with
    | false=>cases h'
    | true =>
      by_cases e:j=k
      · rw [e]; exact hb
      · exact uptoT_ok n (k + 1) h' j (by omega) (by omega)
theorem getD_set {l:Array Bool} {i j:Nat}:(l.setIfInBounds i true).getD j false=if i=j∧j < l.size then true else l.getD j false:=by
  simp only [Array.getD_eq_getD_getElem?,Array.getElem?_setIfInBounds]
  by_cases h:i=j
  · subst h
    by_cases h2:i < l.size
    · simp [h2]
    · simp [h2]
  · simp [h]
theorem getD_true {l:Array Bool} {j:Nat} (h:l.getD j true=false):j < l.size∧l.getD j false=false:=by
  simp only [Array.getD_eq_getD_getElem?] at *
  by_cases hj:j < l.size
  · simp [hj] at *; exact h
  · simp [hj] at h
theorem getD_false {l:Array Bool} {j:Nat} (hj:j < l.size) (h:l.getD j false=false):l.getD j true=false:=by
  simp only [Array.getD_eq_getD_getElem?] at *
  simp [hj] at *; exact h
def FltOk (dis:List DI) (base:Nat) (pdF:List (Nat × List AV)) (E:Env) (listed:Array Bool):Prop :=
  ∀ (i:Nat) (d:DI) (fl:FIns × FK × Nat),dis[i]?=some d→d.fl=some fl→base + fl.2.2 < E.n ∧
    (listed.getD i false=true→∀ cs,aA pdF fl.2.2=some cs→∃ c vs,E.σ (base + fl.2.2)=some (c,0)∧ad E cs=some vs∧E.rc (base + fl.2.2)=vs.toArray) ∧
    (listed.getD i false=false→E.σ (base + fl.2.2)=none)
structure DInv (p:Par) (dis:List DI) (ms:List Nat) (N:Nat) (base:Nat) (pdF:List (Nat × List AV)) (HS:List Heap) (tmF:Tm) (E0 E:Env) (w0:Base) (w:World) (arr0:Array Value) (ds0:List Deferred) (listed:Array Bool) (a:Act) (k:Nat):Prop where
  le:E0.le E
  hp:∃ h,HS[k]?=some h∧HeapOk p E h w0 w
  sz:listed.size=N
  cl:∀ i,listed.getD i false=true→∀ j,Nat.testBit (bm ms i) j=true→listed.getD j false=true
  eff:∀ (i:Nat) (d:DI),dis[i]?=some d→d.eff=true→(listed.getD i false=true ↔ d.lo < k)
  val:∀ (i:Nat) (d:DI) (t:Nat) (v:AV),dis[i]?=some d→listed.getD i false=true→d.ci.dst=some t→tmF.look t=some v→good E a.tmps t v
  old:∀ t,(∀ (j:Nat) (d:DI),dis[j]?=some d→d.ci.dst=some t→listed.getD j false=false)→a.tmps[t]?=arr0[t]?
  asz:a.tmps.size=arr0.size
  adf:a.defers=ds0
  flt:FltOk dis base pdF E listed
theorem DInv.next {p : Par} {dis : List DI} {ms : List Nat} {N base : Nat} {pdF : List (Nat × List AV)} {HS : List Heap} {tmF : Tm} {E0 E E' : Env} {w0 : Base} {w w' : World} {arr0 : Array Value} {ds0 : List Deferred} {listed : Array Bool} {a : Act} {k k' : Nat}
    (I:DInv p dis ms N base pdF HS tmF E0 E w0 w arr0 ds0 listed a k) (ho:Once dis) {i:Nat} {d:DI} (hd:dis[i]?=some d) (hi:i < N)
    (hanc:∀ j,Nat.testBit (bm ms i) j=true→listed.getD j false=true) (hE0:E0.le E') (hle:E.le0 E') (hfl:FltOk dis base pdF E' (listed.setIfInBounds i true)) {h':Heap} (hH:HS[k']?=some h') (HH:HeapOk p E' h' w0 w')
    (hnum:∀ (j:Nat) (e:DI),dis[j]?=some e→e.eff=true→j ≠ i→(e.lo < k' ↔ e.lo < k)) (hme:d.eff=true→d.lo < k') {v:AV} {cv:Value} (hv:∀ t,d.ci.dst=some t→af E' v=some cv)
    (hdst:∀ t,d.ci.dst=some t→tmF.look t=some v∧t < arr0.size):DInv p dis ms N base pdF HS tmF E0 E' w0 w' arr0 ds0 (listed.setIfInBounds i true) (a.put d.ci.dst cv) k':=by
  refine ⟨hE0,⟨h',hH,HH⟩,by simp [I.sz],fun i' h j hb=>?_,fun i' d' hd' he'=>?_,fun i' d' t v' hd' hl' ht' hv'=>?_,fun t ht=>?_,?_,?_,hfl⟩
  · rw [getD_set] at h ⊢
    have key:listed.getD j false=true:=by
      by_cases c:i=i'∧i' < listed.size
      · obtain ⟨rfl,_⟩:=c; exact hanc j hb
      · rw [if_neg c] at h; exact I.cl i' h j hb
    split
    · rfl
    · exact key
  · rw [getD_set]
    by_cases c:i=i'
    · subst c
      rw [hd] at hd'; cases hd'
      rw [if_pos ⟨rfl,by rw [I.sz]; exact hi⟩]
      exact ⟨fun _=>hme he',fun _=>rfl⟩
    · rw [if_neg (fun h=>c h.1),hnum i' d' hd' he' (Ne.symm c)]
      exact I.eff i' d' hd' he'
  · by_cases c:i=i'
    · subst c
      rw [hd] at hd'; cases hd'
      obtain ⟨h1,h2⟩:=hdst t ht'
      rw [h1] at hv'; cases hv'
      refine ⟨cv,hv t ht',?_⟩
      rw [ht']
      simp only [Act.put]
      rw [Array.getElem?_setIfInBounds]
      simp [I.asz,h2]
    · rw [getD_set,if_neg (fun h=>c h.1)] at hl'
      obtain ⟨u,g1,g2⟩:=(I.val i' d' t v' hd' hl' ht' hv').mono hle
      refine ⟨u,g1,?_⟩
      cases hdd:d.ci.dst with
      | none=>exact g2
      | some t' =>
        have hne:t' ≠ t:=by
          rintro rfl
          rcases Nat.lt_or_ge i i' with hlt | hge
          · exact ho i i' d d' t' hlt hd hd' hdd ht'
          · exact ho i' i d' d t' (by omega) hd' hd ht' hdd
        simp only [Act.put]
        rw [Array.getElem?_setIfInBounds_ne hne]; exact g2
  · have hno : ∀ (j : Nat) (e : DI), dis[j]? = some e → e.ci.dst = some t → i ≠ j ∧ listed.getD j false = false := fun j e hj he => by
      have h1:=ht j e hj he
      rw [getD_set] at h1
      by_cases c:i=j∧j < listed.size
      · rw [if_pos c] at h1; cases h1
      · rw [if_neg c] at h1
        refine ⟨fun h=>c ⟨h,?_⟩,h1⟩
        rw [I.sz,← h]; exact hi
    rw [← I.old t fun j e hj he=>(hno j e hj he).2]
    cases hdd:d.ci.dst with
    | none=>rfl
    | some t' =>
      have hne:t' ≠ t:=by
        rintro rfl
        exact (hno i d hd hdd).1 rfl
      simp only [Act.put]
      rw [Array.getElem?_setIfInBounds_ne hne]
  · rw [← I.asz]
    cases hdd:d.ci.dst with
    | none=>rfl
    | some t'=>simp [Act.put]
  · rw [← I.adf]
    cases hdd:d.ci.dst <;> rfl
end Go.Sx
namespace Go.Sx
open Go.RowKit
theorem gW:∀ (l:List DI) (k:Nat),co k l=true→∀ (i j:Nat) (d e:DI),l[i]?=some d→l[j]?=some e→d.eff=true→e.eff=true→d.lo=e.lo→i=j
  | [],k,_,i,j,d,e,h,_,_,_,_=>by simp at h
  | o :: l,k,hn,i,j,d,e,h1,h2,e1,e2,hl=>by
    have hn0:=hn
    simp only [co] at hn
    cases he:o.eff with
    | false =>
      rw [he,cond_false] at hn
      cases i with
      | zero=>simp at h1; subst h1; rw [he] at e1; cases e1
      | succ i=>cases j with
        | zero=>simp at h2; subst h2; rw [he] at e2; cases e2
        | succ j=>simp at h1 h2; rw [gW l k hn i j d e h1 h2 e1 e2 hl]
    | true =>
      rw [he,cond_true] at hn
      simp only [Bool.and_eq_true] at hn
      have hk:=aq.1 hn.1
      cases i with
      | zero=>cases j with
        | zero=>rfl
        | succ j=>simp at h1 h2; subst h1; have:=eM l (k + 1) hn.2 j e h2 e2; omega
      | succ i=>cases j with
        | zero=>simp at h1 h2; subst h2; have:=eM l (k + 1) hn.2 i d h1 e1; omega
        | succ j=>simp at h1 h2; rw [gW l (k + 1) hn.2 i j d e h1 h2 e1 e2 hl]
structure PlanOk (ty:Nat→Option TI) (n:Nat) (keep:List Nat) (ops:Array Oper) (fls ms:List Nat) (dis:List DI):Prop where
  here:∀ (i:Nat) (o:Oper),ops[i]?=some o→∃ d,dis[i]?=some d∧cOper ty n keep ops.toList o=some d.ci∧PlanIs ty fls ms i o d
  back:∀ (i:Nat) (d:DI),dis[i]?=some d→∃ o,ops[i]?=some o∧cOper ty n keep ops.toList o=some d.ci∧PlanIs ty fls ms i o d
  pair:∀ (i j:Nat) (a b:DI),dis[i]?=some a→dis[j]?=some b→pairOk ms i j a b=true
  edge:∀ (i:Nat) (o:Oper),ops[i]?=some o→∀ e ∈ o.after,Region.binds .any e=true→e.on < i
  num:co 0 dis=true
  bit:∀ (i:Nat) (o:Oper) (j:Nat),ops[i]?=some o→Nat.testBit (bm ms i) j=true→∃ e ∈ o.after,Region.binds .any e=true∧(e.on=j ∨ Nat.testBit (bm ms e.on) j=true)
theorem planOk_of {ty : Nat → Option TI} {n : Nat} {keep : List Nat} {ops : Array Oper} {cs : List CI} (hcs : gT ty n keep ops.toList ops.toList = some cs) {effs fls : List Nat} {dis : List DI} (hpl : planOf ty effs fls (gU [] ops.toList) 0 ops.toList cs = some dis)
    (hok:drawOk ops.toList (gU [] ops.toList) dis=true):PlanOk ty n keep ops fls (gU [] ops.toList) dis:=by
  obtain ⟨hl,hget⟩:=cOpers_get _ _ hcs
  obtain ⟨hpl,hpg⟩:=planOf_get effs fls (gU [] ops.toList) ops.toList cs 0 dis hl hpl
  simp only [drawOk,Bool.and_eq_true] at hok
  have here:∀ (i:Nat) (o:Oper),ops[i]?=some o→∃ d,dis[i]?=some d∧cOper ty n keep ops.toList o=some d.ci∧PlanIs ty fls (gU [] ops.toList) i o d:=fun i o h=>by
    have h':ops.toList[i]?=some o:=by simpa using h
    obtain ⟨c,hc1,hc2⟩:=hget i o h'
    obtain ⟨d,hd1,hd2⟩:=hpg i o c h' hc1
    obtain ⟨p1,_,p2⟩:=planAt_is hd2
    rw [Nat.zero_add] at p2
    exact ⟨d,hd1,by rw [p1]; exact hc2,p2⟩
  refine ⟨here,fun i d h=>?_,fun i j a b h1 h2=>?_,fun i o h e he hbe=>?_,hok.2,fun i o j h hb=>?_⟩
  · have hi:i < ops.toList.length:=by rw [← hpl]; exact (List.getElem?_eq_some_iff.1 h).1
    have ho:ops[i]?=some ops[i]!:=by
      have:i < ops.size:=by simpa using hi
      simp [this]
    obtain ⟨d',h1,h2⟩:=here i _ ho
    rw [h] at h1; cases h1
    exact ⟨_,ho,h2⟩
  · have:=rowsOk_get _ 0 hok.1.1 i a j b h1 h2
    simpa using this
  · have:=edgesOk_get _ 0 hok.1.2 i o (by simpa using h) e he hbe
    omega
  · have:=masks_bit ops.toList [] i o j (by simpa using h) (by simpa using hb)
    exact this
theorem posOf_inj:∀ (l:List Nat) (i j:Nat),memB l i=true→memB l j=true→posOf l i=posOf l j→i=j
  | [],i,j,h,_,_=>by simp [memB] at h
  | a :: l,i,j,hi,hj,e=>by
    simp only [posOf] at e
    by_cases c1:a=i
    · by_cases c2:a=j
      · omega
      · rw [aq.2 c1,bW.2 c2,cond_true,cond_false] at e; omega
    · by_cases c2:a=j
      · rw [bW.2 c1,aq.2 c2,cond_true,cond_false] at e; omega
      · rw [bW.2 c1,bW.2 c2,cond_false,cond_false] at e
        have hi':memB l i=true:=by
          simp only [memB,List.any_cons,Bool.or_eq_true] at hi
          rcases hi with h | h
          · exact absurd (aq.1 h).symm c1
          · exact h
        have hj':memB l j=true:=by
          simp only [memB,List.any_cons,Bool.or_eq_true] at hj
          rcases hj with h | h
          · exact absurd (aq.1 h).symm c2
          · exact h
        exact posOf_inj l i j hi' hj' (Nat.succ.inj e)
theorem dueOf_mem {ms:List Nat} {i:Nat} {all:List Nat}:∀ (l:List Nat) (j:Nat),j ∈ dueOf ms i all l→∃ f ∈ l,Nat.testBit (bm ms i) f=true∧j=posOf all f
  | [],j,h=>by cases h
  | f :: l,j,h=>by
    simp only [dueOf] at h
    cases hb:Nat.testBit (bm ms i) f with
    | false =>
      rw [hb,cond_false] at h
      obtain ⟨f',h1,h2⟩:=dueOf_mem l j h
      exact ⟨f',List.mem_cons_of_mem _ h1,h2⟩
    | true =>
      rw [hb,cond_true] at h
      rcases List.mem_cons.1 h with rfl | h
      · exact ⟨f,List.mem_cons_self,hb,rfl⟩
      · obtain ⟨f',h1,h2⟩:=dueOf_mem l j h
        exact ⟨f',List.mem_cons_of_mem _ h1,h2⟩
theorem memB_of {l:List Nat} {f:Nat} (h:f ∈ l):memB l f=true:=by
  rw [memB,List.any_eq_true]; exact ⟨f,h,aq.2 rfl⟩
section
variable {ty:Nat→Option TI} {n:Nat} {keep:List Nat} {ops:Array Oper} {fls ms:List Nat} {dis:List DI}
theorem PlanOk.lt (L:PlanOk ty n keep ops fls ms dis) (i:Nat):∀ (o:Oper) (j:Nat),ops[i]?=some o→Nat.testBit (bm ms i) j=true→j < i:=by
  induction i using Nat.strongRecOn with
  | _ i ih =>
    intro o j h hb
    obtain ⟨e,he,hbe,h1⟩:=L.bit i o j h hb
    have hlt:=L.edge i o h e he hbe
    rcases h1 with rfl | h1
    · exact hlt
    · have hsz:i < ops.size:=(Array.getElem?_eq_some_iff.1 h).1
      have ho:ops[e.on]?=some ops[e.on]!:=by
        have:e.on < ops.size:=by omega
        simp [this]
      have:=ih e.on hlt _ j ho h1
      omega
theorem PlanOk.once (L:PlanOk ty n keep ops fls ms dis):Once dis:=by
  intro i j d d' t hij h1 h2 h3 h4
  have:=L.pair i j d d' h1 h2
  simp only [pairOk,Bool.and_eq_true,h3,h4] at this
  have:=this.1.2
  simp only [Bool.or_eq_true,Bool.not_eq_true'] at this
  rcases this with h | h
  · rw [aq.2 rfl] at h; cases h
  · have:=aq.1 h; omega
theorem PlanOk.quiet (L:PlanOk ty n keep ops fls ms dis):∀ d ∈ dis,QuietD d:=by
  intro d hd hfl he
  obtain ⟨i,hi⟩:=List.getElem?_of_mem hd
  obtain ⟨o,ho,hc,hp⟩:=L.back i d hi
  rcases hp with ⟨_,h2,_,h4,_⟩ | ⟨q,_,h2,_⟩
  · exact ⟨h4 he,fun cx tm h ρ r e=>quiet_runC hc (by rw [← h2]; exact he) e⟩
  · rw [h2] at hfl; cases hfl
theorem PlanOk.floatD (L:PlanOk ty n keep ops fls ms dis):∀ d ∈ dis,FloatD d:=by
  intro d hd hfl
  obtain ⟨i,hi⟩:=List.getElem?_of_mem hd
  obtain ⟨o,ho,hc,hp⟩:=L.back i d hi
  rcases hp with ⟨h1,_⟩ | ⟨q,_,_,h3,_⟩
  · exact absurd h1 hfl
  · exact h3
theorem PlanOk.ord (L:PlanOk ty n keep ops fls ms dis) {i:Nat} {d:DI} {f:FIns × FK × Nat} (hi:dis[i]?=some d) (hf:d.fl=some f):f.2.2=posOf fls i∧memB fls i=true:=by
  obtain ⟨o,ho,hc,hp⟩:=L.back i d hi
  rcases hp with ⟨h1,_⟩ | ⟨q,_,h2,_,h4⟩
  · rw [hf] at h1; cases h1
  · rw [hf] at h2; cases h2; exact ⟨rfl,h4⟩
theorem PlanOk.onceF (L:PlanOk ty n keep ops fls ms dis):OnceF dis:=by
  intro i j d d' f f' hij h1 h2 hf hf' e
  obtain ⟨a1,a2⟩:=L.ord h1 hf
  obtain ⟨b1,b2⟩:=L.ord h2 hf'
  have:=posOf_inj fls i j a2 b2 (by rw [← a1,← b1]; exact e)
  omega
theorem PlanOk.due (L:PlanOk ty n keep ops fls ms dis) {i:Nat} {d:DI} (hi:dis[i]?=some d) (hfl:d.fl=none) {j:Nat} (hj:j ∈ d.due):∃ (i':Nat) (d':DI) (f:FIns × FK × Nat),Nat.testBit (bm ms i) i'=true∧dis[i']?=some d'∧d'.fl=some f∧f.2.2=j:=by
  obtain ⟨o,ho,hc,hp⟩:=L.back i d hi
  rcases hp with ⟨_,h2,_,h4,h5⟩ | ⟨q,_,h2,_⟩
  · cases he:d.eff with
    | false=>rw [h4 he] at hj; cases hj
    | true =>
      rw [h5 he] at hj
      obtain ⟨f,hf1,hf2,rfl⟩:=dueOf_mem fls j hj
      have hlt:f < i:=L.lt i o f ho hf2
      have hsz:i < ops.size:=(Array.getElem?_eq_some_iff.1 ho).1
      have hof:ops[f]?=some ops[f]!:=by
        have:f < ops.size:=by omega
        simp [this]
      obtain ⟨d',hd',_,hp'⟩:=L.here f _ hof
      rcases hp' with ⟨_,_,h3,_⟩ | ⟨q,_,h2,_⟩
      · rw [memB_of hf1] at h3; cases h3
      · exact ⟨f,d',_,hf2,hd',h2,rfl⟩
  · rw [hfl] at h2; cases h2
theorem PlanOk.reads (L:PlanOk ty n keep ops fls ms dis) {i j:Nat} {d d':DI} (h1:dis[i]?=some d) (h2:dis[j]?=some d') {t:Nat} (ht:t ∈ d.reads) (hd:d'.ci.dst=some t):Nat.testBit (bm ms i) j=true ∨ Nat.testBit (bm ms j) i=true:=by
  have:=L.pair i j d d' h1 h2
  simp only [pairOk,Bool.and_eq_true,hd] at this
  have:=this.1.1
  simp only [Bool.or_eq_true,Bool.not_eq_true'] at this
  rcases this with h | h
  · rw [List.any_eq_false] at h
    exact absurd (aq.2 rfl) (h t ht)
  · exact h
theorem PlanOk.effs (L:PlanOk ty n keep ops fls ms dis) {i j:Nat} {d e:DI} (h1:dis[j]?=some e) (h2:dis[i]?=some d) (he:e.eff=true) (hd:d.eff=true) (hl:e.lo < d.lo):Nat.testBit (bm ms i) j=true:=by
  have:=L.pair j i e d h1 h2
  simp only [pairOk,Bool.and_eq_true,hd,he,cond_true] at this
  have:=this.2
  simp only [Bool.or_eq_true] at this
  rcases this with h | h
  · have:=aD.1 h; omega
  · exact h
theorem PlanOk.lo (L:PlanOk ty n keep ops fls ms dis) {i j:Nat} {d e:DI} (h1:dis[i]?=some d) (h2:dis[j]?=some e) (he:e.eff=true) (hd:d.eff=false) (hl:e.lo < d.lo):Nat.testBit (bm ms i) j=true:=by
  have:=L.pair i j d e h1 h2
  simp only [pairOk,Bool.and_eq_true,hd,he,cond_true,cond_false] at this
  have:=this.2.1
  simp only [Bool.or_eq_true] at this
  rcases this with h | h
  · have:=aD.1 h; omega
  · exact h
theorem PlanOk.hi (L:PlanOk ty n keep ops fls ms dis) {i j:Nat} {d e:DI} (h1:dis[i]?=some d) (h2:dis[j]?=some e) (he:e.eff=true) (hd:d.eff=false) (hl:d.hi≤e.lo):Nat.testBit (bm ms j) i=true:=by
  have:=L.pair i j d e h1 h2
  simp only [pairOk,Bool.and_eq_true,hd,he,cond_true,cond_false] at this
  have:=this.2.2
  simp only [Bool.or_eq_true] at this
  rcases this with h | h
  · have:=aD.1 h; omega
  · exact h
end
end Go.Sx
namespace Go.Sx
open Go.RowKit
section
variable {p:Par} {ty:Nat→Option TI} {n:Nat} {keep:List Nat} {ops:Array Oper} {fls ms:List Nat} {dis:List DI} {base:Nat} {pdF:List (Nat × List AV)} {HS:List Heap} {tmF tm0:Tm} {E0:Env} {w0:Base} {arr0:Array Value} {ds0:List Deferred} {cx:Cx}
structure RunOk (ρ:Rho) (cx:Cx) (base:Nat) (pdF:List (Nat × List AV)) (dis:List DI) (HS:List Heap) (tmF tm0:Tm):Prop where
  len:HS.length=1 + bx dis
  at_:∀ (i:Nat) (d:DI),dis[i]?=some d→∃ V,AtOk ρ cx base dis tm0 tmF HS V pdF i d∧(d.fl=none→d.eff=false→∀ V',V=some V'→∀ j,d.lo≤j→j≤d.lo + (d.hi - d.lo)→(gZ cx HS V' d j).Holds ρ (fun b=>b=true))
theorem stableAt_some {ρ:Rho} {V:Tm × AV} {d:DI} {j:Nat} (h:(gZ cx HS V d j).Holds ρ (fun b=>b=true)):∃ H r,HS[j]?=some H∧(runC cx V.1 H d.ci).Holds ρ (fun x=>x=r)∧∀ t,d.ci.dst=some t→r.1=V.2:=by
  unfold gZ at h
  rw [bR] at h
  cases hH:HS[j]? with
  | none=>rw [hH] at h; cases h
  | some H =>
    rw [hH] at h
    simp only at h
    rw [T.holds_bind] at h
    obtain ⟨r,hr,h⟩:=T.holds_at _ h
    refine ⟨H,r,rfl,hr,fun t ht=>?_⟩
    rw [ht] at h
    exact dZ _ _ h
theorem stables_ok {ρ:Rho} {HS:List Heap}:∀ (l:List DI) (vs:List (Tm × AV)),(stablesT cx HS l vs).Holds ρ (fun b=>b=true)→∀ (i:Nat) (d:DI) (V:Tm × AV),l[i]?=some d→vs[i]?=some V→d.fl=none→d.eff=false→∀ j,d.lo≤j→j≤d.lo + (d.hi - d.lo)→(gZ cx HS V d j).Holds ρ (fun b=>b=true)
  | [],vs,_,i,d,V,h,_,_,_,_,_,_=>by simp at h
  | o :: l,[],h,i,d,V,_,_,_,_,_,_,_=>by
    simp only [stablesT] at h
    cases h
  | o :: l,v :: vs,h,i,d,V,h1,h2,hf,he,j,g1,g2=>by
    simp only [stablesT] at h
    rw [T.holds_bind] at h
    obtain ⟨b,hs,h⟩:=T.holds_at _ h
    cases b with
    | false=>cases h
    | true =>
      rw [cond_true] at h
      cases i with
      | zero =>
        simp at h1 h2; subst h1; subst h2
        unfold stableT at hs
        rw [he,hf] at hs
        exact uptoT_ok _ _ hs j g1 g2
      | succ i=>simp at h1 h2; exact stables_ok l vs h i d V h1 h2 hf he j g1 g2
theorem num_at (L:PlanOk ty n keep ops fls ms dis) {r:Nat} (h:r < bx dis):∃ (j:Nat) (e:DI),dis[j]?=some e∧e.eff=true∧e.lo=r:=gV dis 0 L.num r (by omega) (by omega)
theorem draw_step (TT : ct p.P ty) (L : PlanOk ty n keep ops fls ms dis) (R : RunOk E0.ρ cx base pdF dis HS tmF tm0) (CX : CxOk p cx) (HT0 : TmOk n keep E0 tm0 arr0) (hbase : E0.n ≤ base) {rd : Option Nat} {Q' : Exit → Act → World → Prop}
    {E:Env} {w:World} {listed:Array Bool} {a:Act} {k:Nat} (I:DInv p dis ms ops.size base pdF HS tmF E0 E w0 w arr0 ds0 listed a k) {i:Nat} (hi:i ∈ Region.ready .any ops listed) {next:Act→World→Prop}
    (hnext:∀ a' w' E' k',DInv p dis ms ops.size base pdF HS tmF E0 E' w0 w' arr0 ds0 (listed.setIfInBounds i true) a' k'→next a' w'):wpOpIn (ej rd) 0 p.P ops Q' i next a w:=by
  rw [mem_ready] at hi
  obtain ⟨hun,o,ho,hedges⟩:=hi
  obtain ⟨hlt,hun⟩:=getD_true hun
  rw [I.sz] at hlt
  have hanc:∀ j,Nat.testBit (bm ms i) j=true→listed.getD j false=true:=fun j hb=>by
    obtain ⟨e,he,hbe,h1⟩:=L.bit i o j ho hb
    have hl:=hedges e he hbe
    rcases h1 with rfl | h1
    · exact hl
    · exact I.cl e.on hl j h1
  obtain ⟨d,hd,hc,hplan⟩:=L.here i o ho
  obtain ⟨H,hH,HH⟩:=I.hp
  have hkm:k≤bx dis:=by
    have:=(List.getElem?_eq_some_iff.1 hH).1
    rw [R.len] at this; omega
  have hsz:n≤a.tmps.size:=by rw [I.asz]; exact HT0.size
  obtain ⟨V,⟨tmi,vv,hlater,hval0,hearlier,hrun0⟩,hstab⟩:=R.at_ i d hd
  have HTr:TmOk n keep E (eh tmi d.reads) a.tmps:=restr_ok hsz fun t ht v hv=>by
    have from0:(∀ (j:Nat) (d':DI),dis[j]?=some d'→d'.ci.dst=some t→i≤j∧listed.getD j false=false)→good E a.tmps t v:=fun hno=>by
      rw [hearlier t fun j d' hj hd' hdt=>by have:=(hno j d' hd' hdt).1; omega] at hv
      obtain ⟨u,g1,g2⟩:=(HT0.look hv).mono I.le.tole0
      exact ⟨u,g1,by rw [I.old t fun j d' hd' hdt=>(hno j d' hd' hdt).2]; exact g2⟩
    by_cases hw:∃ (j:Nat) (d':DI),dis[j]?=some d'∧d'.ci.dst=some t
    · obtain ⟨j,d',hj,hdt⟩:=hw
      have uniq:∀ (j':Nat) (e:DI),dis[j']?=some e→e.ci.dst=some t→j'=j:=fun j' e he hte=>by
        rcases Nat.lt_trichotomy j' j with h | h | h
        · exact absurd hdt (L.once j' j e d' t h he hj hte)
        · exact h
        · exact absurd hte (L.once j j' d' e t h hj he hdt)
      rcases L.reads hd hj ht hdt with hb | hb
      · have hji:=L.lt i o j ho hb
        rw [← hlater t fun j' e hge he hte=>by have:=uniq j' e he hte; omega] at hv
        exact I.val j d' t v hj (hanc j hb) hdt hv
      · obtain ⟨oj,hoj,_⟩:=L.back j d' hj
        have hij:=L.lt j oj i hoj hb
        refine from0 fun j' e he hte=>?_
        rw [uniq j' e he hte]
        refine ⟨by omega,?_⟩
        cases hl:listed.getD j false with
        | false=>rfl
        | true=>rw [I.cl j hl i hb] at hun; cases hun
    · exact from0 fun j d' hj hdt=>absurd ⟨j,d',hj,hdt⟩ hw
  obtain ⟨f,g,hf,hg,hdok,hce⟩:=fV hc
  have hdst:d.ci.dst=o.dst:=by rw [hce]
  have hsize:∀ t,d.ci.dst=some t→t < arr0.size:=fun t ht=>by
    rw [hdst] at ht
    rw [ht] at hdok
    have:=aD.1 hdok
    have:=HT0.size
    omega
  have listedAt:∀ j,(listed.setIfInBounds i true).getD j false=if i=j then true else listed.getD j false:=fun j=>by
    rw [getD_set]
    by_cases c:i=j
    · subst c; rw [if_pos ⟨rfl,by rw [I.sz]; exact hlt⟩,if_pos rfl]
    · rw [if_neg (fun h=>c h.1),if_neg c]
  rcases hrun0 with ⟨hfl,HL,HL1,rr,pd,hconv,hpd,hrun0,hsame0,hst0,hV⟩ | ⟨fl,pe,hfl,hrunF,hvv,hpe⟩
  · -- an operation in its order,or one without an effect
    have key:∃ H2 r,HeapOk p E H2 w0 w∧(runC cx (eh tmi d.reads) H2 d.ci).Holds E0.ρ (fun x=>x=r)∧(∀ t,d.ci.dst=some t→tmF.look t=some vv∧Same E0.ρ vv r.1)∧(d.eff=false→r.2=H)∧(d.eff=true→d.lo=k∧HS[k + 1]?=some r.2):=by
      cases he:d.eff with
      | false =>
        have hst:=hstab hfl he _ hV
        have hlo:d.lo≤k:=by
          rcases Nat.lt_or_ge k d.lo with h | h
          · exfalso
            obtain ⟨H1,r',h1,_⟩:=stableAt_some (hst d.lo (Nat.le_refl _) (by omega))
            have:=(List.getElem?_eq_some_iff.1 h1).1
            rw [R.len] at this
            obtain ⟨j,e,g1,g2,g3⟩:=num_at L (r:=k) (by omega)
            have hl:=hanc j (L.lo hd g1 g2 he (by omega))
            have:=(I.eff j e g1 g2).1 hl
            omega
          · exact h
        have hhi:k≤d.hi:=by
          rcases Nat.lt_or_ge d.hi k with h | h
          · exfalso
            obtain ⟨j,e,g1,g2,g3⟩:=num_at L (r:=d.hi) (by omega)
            have hl:=(I.eff j e g1 g2).2 (by omega)
            have:=I.cl j hl i (L.hi hd g1 g2 he (by omega))
            rw [hun] at this; cases this
          · exact h
        obtain ⟨H1,r,h1,h2,h3⟩:=stableAt_some (hst k hlo (by omega))
        rw [hH] at h1; cases h1
        have h2':(runC cx (eh tmi d.reads) H d.ci).Holds E0.ρ (fun x=>x=r):=h2
        exact ⟨H,r,HH,h2',fun t ht=>⟨hval0 t ht,by rw [h3 t ht]; exact hsame0⟩,fun _=>(L.quiet d (List.mem_of_getElem? hd) hfl he).2 _ _ _ _ _ h2',fun h=>by cases h⟩
      | true =>
        have hlo:d.lo=k:=by
          rcases Nat.lt_trichotomy d.lo k with h | h | h
          · have:=(I.eff i d hd he).2 h
            rw [hun] at this; cases this
          · exact h
          · exfalso
            have:=eM dis 0 L.num i d hd he
            obtain ⟨j,e,g1,g2,g3⟩:=num_at L (r:=k) (by omega)
            have hl:=hanc j (L.effs g1 hd g2 he (by omega))
            have:=(I.eff j e g1 g2).1 hl
            omega
        obtain ⟨h5,h6⟩:=hst0 he
        rw [hlo] at h5 h6
        rw [hH] at h5; cases h5
        have HH1:HeapOk p E HL1 w0 w:=by
          refine convR_ok d.due H HL1 (fun j hj cs hcs=>?_) HH hconv
          obtain ⟨i',d',fl',b1,b2,b3,b4⟩:=L.due hd hfl hj
          have:=(I.flt i' d' fl' b2 b3).2.1 (hanc i' b1) cs (by rw [b4]; exact hpd j cs hcs)
          rw [b4] at this
          exact this
        exact ⟨HL1,rr,HH1,hrun0,fun t ht=>⟨hval0 t ht,hsame0⟩,(fun h=>by cases h),fun _=>⟨hlo,h6⟩⟩
    obtain ⟨H2,r,HH2,hrun,hlook,hq,hef⟩:=key
    unfold wpOpIn
    rw [ho]
    refine oper_ok TT hc CX HTr HH2 (Q:=fun r'=>r'=r) (by rw [I.le.ρ]; exact hrun) ?_
    intro v0 h' E' w' cv hqq hle' HH' hcv0
    have e1:r.1=v0:=by rw [← hqq]
    have e2:r.2=h':=by rw [← hqq]
    rw [e1] at hlook
    rw [e2] at hq hef
    obtain ⟨v,hcv,hlk⟩:∃ v,af E' v=some cv∧∀ t,d.ci.dst=some t→tmF.look t=some v:=by
      cases hdd:d.ci.dst with
      | none=>exact ⟨v0,hcv0,fun t ht=>by cases ht⟩
      | some t =>
        obtain ⟨g1,g2⟩:=hlook t hdd
        exact ⟨vv,by rw [g2 E' (hle'.ρ.trans I.le.ρ)]; exact hcv0,fun t' ht'=>by cases ht'; exact g1⟩
    have hdl:∀ t,d.ci.dst=some t→tmF.look t=some v∧t < arr0.size:=fun t ht=>⟨hlk t ht,hsize t ht⟩
    have hflt:FltOk dis base pdF E' (listed.setIfInBounds i true):=fun i' d' fl' h1 h2=>by
      obtain ⟨b1,b2,b3⟩:=I.flt i' d' fl' h1 h2
      have hne:i ≠ i':=by
        rintro rfl
        rw [hd] at h1; cases h1
        rw [hfl] at h2; cases h2
      refine ⟨Nat.lt_of_lt_of_le b1 hle'.n,fun hl cs hcs=>?_,fun hl=>?_⟩
      · rw [listedAt,if_neg hne] at hl
        obtain ⟨c,us,g1,g2,g3⟩:=b2 hl cs hcs
        exact ⟨c,us,hle'.σ _ _ g1,a9 hle'.tole0 _ _ g2,by rw [hle'.rc _ _ g1]; exact g3⟩
      · rw [listedAt,if_neg hne] at hl
        exact hle'.none _ b1 (b3 hl)
    rw [← hdst]
    cases he:d.eff with
    | false =>
      have:=hq he
      subst this
      exact hnext _ _ E' k (I.next L.once hd hlt hanc (I.le.trans hle') hle'.tole0 hflt hH HH' (fun _ _ _ _ _=>Iff.rfl) (fun h=>by rw [he] at h; cases h) (fun _ _=>hcv) hdl)
    | true =>
      obtain ⟨hlo,h6⟩:=hef he
      refine hnext _ _ E' (k + 1) (I.next L.once hd hlt hanc (I.le.trans hle') hle'.tole0 hflt h6 HH' (fun j e hj hee hne=>?_) (fun _=>by omega) (fun _ _=>hcv) hdl)
      have:e.lo ≠ k:=fun h=>hne (gW dis 0 L.num j i e d hj hd hee he (by omega))
      omega
  · -- an allocation that no order binds
    have heff:d.eff=false:=L.floatD d (List.mem_of_getElem? hd) (by rw [hfl]; simp)
    obtain ⟨hord,hmem⟩:=L.ord hd hfl
    obtain ⟨fq,hcf,hflq⟩:∃ q,cFl ty o.op=some q∧d.fl=some (q.1,q.2,posOf fls i):=by
      rcases hplan with ⟨h1,_⟩ | ⟨q,h1,h2,_⟩
      · rw [hfl] at h1; cases h1
      · exact ⟨q,h1,h2⟩
    have hfl':fl=(fq.1,fq.2,posOf fls i):=by rw [hfl] at hflq; exact Option.some.inj hflq
    have hnone:E.σ (base + fl.2.2)=none:=(I.flt i d fl hd hfl).2.2 hun
    have hothers:∀ (i':Nat) (d':DI) (f':FIns × FK × Nat),dis[i']?=some d'→d'.fl=some f'→i ≠ i'→base + f'.2.2 ≠ base + fl.2.2:=fun i' d' f' h1 h2 hne e=>by
      obtain ⟨a1,a2⟩:=L.ord h1 h2
      exact hne (posOf_inj fls i i' hmem a2 (by rw [← hord,← a1]; omega))
    unfold wpOpIn
    rw [ho]
    have hgo:o.guard=none∧d.ci.guard=none ∨ ∃ j want dd,o.guard=some (j,want)∧d.ci.guard=some (dd,want)∧(ops[j]?).bind (·.dst)=some dd:=by
      have hgd:d.ci.guard=g:=by rw [hce]
      cases hg0:o.guard with
      | none=>rw [hg0] at hg; cases hg; exact .inl ⟨rfl,hgd⟩
      | some q =>
        obtain ⟨j,want⟩:=q
        rw [hg0] at hg
        simp only [cGuard] at hg
        cases hb:(ops.toList[j]?).bind (·.dst) with
        | none=>rw [hb] at hg; cases hg
        | some dd =>
          rw [hb] at hg
          cases hg
          exact .inr ⟨j,want,dd,rfl,hgd,by simpa using hb⟩
    have skip:Region.wanted o (yielded ops a.tmps)=false→pe=none→(if Region.wanted o (yielded ops a.tmps) then o.wpIn (ej rd) 0 p.P a w next Q' else (∀ f,o.about p.P w a.eval=some f→(ej rd).fn f)∧next (a.put o.dst undef) w):=fun hw hpe0=>by
      rw [hw,if_neg (by simp)]
      refine ⟨fence_all rd _,?_⟩
      rw [hpe0] at hvv hpe
      have hdl:∀ t,d.ci.dst=some t→tmF.look t=some gz∧t < arr0.size:=fun t ht=>⟨by rw [hval0 t ht,hvv]; rfl,hsize t ht⟩
      have hflt:FltOk dis base pdF E (listed.setIfInBounds i true):=fun i' d' fl' h1 h2=>by
        obtain ⟨b1,b2,b3⟩:=I.flt i' d' fl' h1 h2
        by_cases hne:i=i'
        · subst hne
          rw [hd] at h1; cases h1
          rw [hfl] at h2; cases h2
          exact ⟨b1,(fun _ cs hcs=>by rw [hpe] at hcs; cases hcs),fun _=>hnone⟩
        · exact ⟨b1,fun hl=>b2 (by rw [listedAt,if_neg hne] at hl; exact hl),fun hl=>b3 (by rw [listedAt,if_neg hne] at hl; exact hl)⟩
      rw [← hdst]
      exact hnext _ _ E k (I.next L.once hd hlt hanc I.le (Env.le0.refl E) hflt hH HH (fun _ _ _ _ _=>Iff.rfl) (fun h=>by rw [heff] at h; cases h) (fun _ _=>rfl) hdl)
    have lay:Region.wanted o (yielded ops a.tmps)=true→∀ cs,pe=some cs→fl.1 (eh tmi d.reads)=some cs→(if Region.wanted o (yielded ops a.tmps) then o.wpIn (ej rd) 0 p.P a w next Q' else (∀ f,o.about p.P w a.eval=some f→(ej rd).fn f)∧next (a.put o.dst undef) w):=fun hw cs hpe0 hcs=>by
      rw [hw,if_pos rfl]
      refine ⟨fence_all rd _,?_⟩
      rw [Oper.semAt_eq _ _ _ (not_defer hf)]
      rw [hpe0] at hvv hpe
      have hcf':cFl ty o.op=some (fq.1,fq.2):=hcf
      obtain ⟨us,el,hus,hdoes⟩:=cFl_ok TT hcf' HTr HH (cs:=cs) (by rw [hfl'] at hcs; exact hcs)
      refine Does.upon (hdoes _ ?_)
      have hb:base + fl.2.2 < H.next:=Nat.lt_of_lt_of_le (I.flt i d fl hd hfl).1 HH.nx
      have hobj:∀ o',H.get (base + fl.2.2)=some o'→o'=.resv ∨ o'=.dead:=fun o' ho'=>by
        have hob:=HH.obj _ o' ho'
        cases o' with
        | resv=>exact .inl rfl
        | cells=>obtain ⟨c,b,vs,cl,el,fz,g1,_⟩:=hob; rw [hnone] at g1; cases g1
        | map=>obtain ⟨c,ms,g1,_⟩:=hob; rw [hnone] at g1; cases g1
        | rmap=>obtain ⟨c,ms,g1,_⟩:=hob; rw [hnone] at g1; cases g1
        | umap=>obtain ⟨c,es,ms,k,g1,_⟩:=hob; rw [hnone] at g1; cases g1
        | ucells=>obtain ⟨c,base,cells,el,fz,g1,_⟩:=hob; rw [hnone] at g1; cases g1
        | loop=>obtain ⟨c,d',n',kp,r,g1,_⟩:=hob; rw [hnone] at g1; cases g1
        | defd=>obtain ⟨c,g1,_⟩:=hob; rw [hnone] at g1; cases g1
        | dead=>exact .inr rfl
      have HHL:=HH.lay hnone hb hobj us.toArray el
      have hle0:E.le0 (E.lay (base + fl.2.2) w.heap.size us.toArray):=Env.lay_le0 hnone
      have hE0:E0.le (E.lay (base + fl.2.2) w.heap.size us.toArray):=by
        refine ⟨I.le.tole0.trans hle0,I.le.n,fun b hb0 hn=>?_⟩
        have hne:b ≠ base + fl.2.2:=by
          omega
        rw [(Env.lay_ne E _ _ hne).1]
        exact I.le.none b hb0 hn
      have hcv:af (E.lay (base + fl.2.2) w.heap.size us.toArray) (flV base fl (some cs))=some (fq.2.vals w.heap.size):=by
        simp only [flV]
        rw [hfl']
        have:=FK.val_conc (k:=fq.2) (E:=E.lay (base + fl.2.2) w.heap.size us.toArray) (Env.lay_σ E (base + fl.2.2) w.heap.size us.toArray)
        rw [hfl'] at this
        exact this
      have hdl:∀ t,d.ci.dst=some t→tmF.look t=some (flV base fl (some cs))∧t < arr0.size:=fun t ht=>⟨by rw [hval0 t ht,hvv],hsize t ht⟩
      have hflt:FltOk dis base pdF (E.lay (base + fl.2.2) w.heap.size us.toArray) (listed.setIfInBounds i true):=fun i' d' fl' h1 h2=>by
        obtain ⟨b1,b2,b3⟩:=I.flt i' d' fl' h1 h2
        by_cases hne:i=i'
        · subst hne
          rw [hd] at h1; cases h1
          rw [hfl] at h2; cases h2
          refine ⟨b1,fun _ cs' hcs'=>?_,fun hl=>by rw [listedAt,if_pos rfl] at hl; cases hl⟩
          rw [hpe] at hcs'; cases hcs'
          exact ⟨w.heap.size,us,Env.lay_σ _ _ _ _,a9 hle0 _ _ hus,Env.lay_rc _ _ _ _⟩
        · have hnb:=hothers i' d' fl' h1 h2 hne
          refine ⟨b1,fun hl cs' hcs'=>?_,fun hl=>?_⟩
          · obtain ⟨c,vs,g1,g2,g3⟩:=b2 (by rw [listedAt,if_neg hne] at hl; exact hl) cs' hcs'
            exact ⟨c,vs,by rw [(Env.lay_ne E _ _ hnb).1]; exact g1,a9 hle0 _ _ g2,by rw [(Env.lay_ne E _ _ hnb).2]; exact g3⟩
          · rw [(Env.lay_ne E _ _ hnb).1]
            exact b3 (by rw [listedAt,if_neg hne] at hl; exact hl)
      rw [← hdst]
      exact hnext _ _ _ k (I.next L.once hd hlt hanc hE0 hle0 hflt hH HHL (fun _ _ _ _ _=>Iff.rfl) (fun h=>by rw [heff] at h; cases h) (fun _ _=>hcv) hdl)
    rcases hgo with ⟨g1,g2⟩ | ⟨j,want,dd,g1,g2,g3⟩
    · have hw:Region.wanted o (yielded ops a.tmps)=true:=by unfold Region.wanted; rw [g1]
      rw [g2] at hrunF
      unfold runFl at hrunF
      simp only at hrunF
      split at hrunF
      · rename_i cs hcs
        cases hrunF
        exact lay hw cs rfl hcs
      · cases hrunF
    · rw [g2] at hrunF
      unfold runFl at hrunF
      simp only at hrunF
      split at hrunF
      · rename_i c hcb
        have hw:Region.wanted o (yielded ops a.tmps)=c.den E.ρ:=by
          unfold Region.wanted
          rw [g1]
          exact guardOf_some HTr (by simpa using g3) hcb
        split at hrunF
        · rename_i b
          cases b with
          | true =>
            simp only [cond_true] at hrunF
            split at hrunF
            · rename_i cs hcs
              cases hrunF
              exact lay (by rw [hw]; rfl) cs rfl hcs
            · cases hrunF
          | false =>
            simp only [cond_false] at hrunF
            cases hrunF
            exact skip (by rw [hw]; rfl) rfl
        · cases hrunF
      · cases hrunF
theorem all_listed (L:PlanOk ty n keep ops fls ms dis) {listed:Array Bool} (hsz:listed.size=ops.size) (hr:Region.ready .any ops listed=[]):∀ j,j < ops.size→listed.getD j false=true:=by
  intro j
  induction j using Nat.strongRecOn with
  | _ j ih =>
    intro hj
    cases hb:listed.getD j false with
    | true=>rfl
    | false =>
      exfalso
      have ho:ops[j]?=some ops[j]!:=by simp [hj]
      have:j ∈ Region.ready .any ops listed:=by
        rw [mem_ready]
        refine ⟨getD_false (by omega) hb,_,ho,fun e he hbe=>?_⟩
        have:=L.edge j _ ho e he hbe
        exact ih e.on this (by omega)
      rw [hr] at this
      cases this
theorem draw_any (TT : ct p.P ty) (L : PlanOk ty n keep ops fls ms dis) (R : RunOk E0.ρ cx base pdF dis HS tmF tm0) (CX : CxOk p cx) (HT0 : TmOk n keep E0 tm0 arr0) (hbase : E0.n ≤ base) {rd : Option Nat} {Q' : Exit → Act → World → Prop}
    (hfin:∀ listed a w E k,DInv p dis ms ops.size base pdF HS tmF E0 E w0 w arr0 ds0 listed a k→(∀ j,j < ops.size→listed.getD j false=true)→Q' .normal a w) :
    ∀ (fuel:Nat) (listed:Array Bool) (a:Act) (w:World) (E:Env) (k:Nat),DInv p dis ms ops.size base pdF HS tmF E0 E w0 w arr0 ds0 listed a k→listed.toList.countP (fun b=>!b)≤fuel→wpAnyIn (ej rd) 0 p.P .any ops Q' fuel listed a w
  | 0,listed,a,w,E,k,I,hc=>by
    have hall:∀ j,j < ops.size→listed.getD j false=true:=fun j hj=>by
      have h0:listed.toList.countP (fun b=>!b)=0:=by omega
      rw [List.countP_eq_zero] at h0
      have hj':j < listed.size:=by rw [I.sz]; exact hj
      have:=h0 listed[j] (by simp)
      simp only [Array.getD_eq_getD_getElem?]
      simp [hj'] at *
      exact this
    refine ⟨?_,hfin listed a w E k I hall⟩
    rw [List.eq_nil_iff_forall_not_mem]
    intro i hi
    rw [mem_ready] at hi
    obtain ⟨h1,h2⟩:=getD_true hi.1
    rw [hall i (by rw [← I.sz]; exact h1)] at h2
    cases h2
  | fuel + 1,listed,a,w,E,k,I,hc=>by
    refine ⟨fun hr=>hfin listed a w E k I (all_listed L I.sz hr),fun i hi=>?_⟩
    refine draw_step TT L R CX HT0 hbase I hi fun a' w' E' k' I'=>?_
    refine draw_any TT L R CX HT0 hbase hfin fuel _ a' w' E' k' I' ?_
    rw [mem_ready] at hi
    obtain ⟨h1,h2⟩:=getD_true hi.1
    rw [Array.toList_setIfInBounds,List.countP_set (by simpa using h1)]
    have h3:listed.toList[i]'(by simpa using h1)=false:=by
      simp only [Array.getD_eq_getD_getElem?] at h2
      simp [h1] at h2 ⊢; exact h2
    rw [h3]
    have hpos:0 < listed.toList.countP (fun b=>!b):=by
      rw [List.countP_pos_iff]
      exact ⟨false,by rw [← h3]; exact List.getElem_mem _,rfl⟩
    simp only [Bool.not_false,Bool.not_true,if_true,Bool.false_eq_true,if_false]
    omega
end
theorem posOf_lt:∀ (l:List Nat) (i:Nat),memB l i=true→posOf l i < l.length
  | [],i,h=>by simp [memB] at h
  | a :: l,i,h=>by
    simp only [posOf]
    by_cases c:a=i
    · rw [aq.2 c,cond_true]; simp
    · rw [bW.2 c,cond_false]
      have hi:memB l i=true:=by
        simp only [memB,List.any_cons,Bool.or_eq_true] at h
        rcases h with h | h
        · exact absurd (aq.1 h).symm c
        · exact h
      have:=posOf_lt l i hi
      simp only [List.length_cons]; omega
theorem draw_ok {p : Par} {ty : Nat → Option TI} (TT : ct p.P ty) (hm : p.P.follows .mixedOrders = true) {n : Nat} {keep : List Nat} {id : Nat} {ops : Array Oper} {f : C} (hc : cDraw ty n keep ops.toList = some f) :
    COk p n keep f (.region id ops true):=by
  unfold cDraw at hc
  split at hc
  · rename_i cs hcs
    generalize floatsOf ops.toList (gU [] ops.toList) (effsOf ops.toList ops.toList.length)=fls at hc
    generalize effsOf ops.toList ops.toList.length=effs at hc
    unfold cPlanWith at hc
    split at hc
    · rename_i dis hpl
      cases hok:drawOk ops.toList (gU [] ops.toList) dis with
      | false=>rw [hok] at hc; cases hc
      | true =>
        rw [hok,cond_true,Option.some.injEq] at hc
        subst hc
        have L:=planOk_of hcs hpl hok
        intro cx CX wh rd E0 w0 w s a Q Q' hrd S k P
        have k':((runD cx s.h.next dis s.tm (resvN fls.length s.h) [] [] []).bind fun r=>(stablesT cx (lRev r.2.1) dis (lRev r.2.2.1)).bind fun b=>cond b (endD s.h.next fls.length s.df r) (.fail 92)).Holds E0.ρ Q:=k
        rw [T.holds_bind] at k'
        obtain ⟨⟨tmF,hsF,vsF,pdF⟩,hrun,k'⟩:=runD_runs _ _ _ _ _ _ k'
        simp only at k'
        rw [T.holds_bind] at k'
        obtain ⟨b,hst,k'⟩:=T.holds_at _ k'
        cases b with
        | false=>simp only [cond_false] at k'; exact k'.elim
        | true =>
          simp only [cond_true] at k'
          rw [lRev_eq,lRev_eq] at hst
          obtain ⟨hA,hB,hC,hV,hP,hD⟩:=runD_ok dis s.tm _ [] [] [] tmF hsF vsF pdF hrun L.num L.quiet L.floatD L.once L.onceF (fun _ _ _ _=>rfl)
          have R:RunOk E0.ρ cx s.h.next pdF dis hsF.reverse tmF s.tm:=by
            refine ⟨by simp [hB],fun i d hd=>⟨_,hD i d hd,fun hfl he V' hV'=>?_⟩⟩
            exact stables_ok dis vsF.reverse hst i d V' hd (by simpa using hV') hfl he
          cases hsF with
          | nil=>exact k'.elim
          | cons hl tl =>
            have k2:(match conv s.h.next pdF (upN fls.length 0) hl with
              | some h2=>T.ret (Ex.norm,(⟨tmF.shut,s.df,h2⟩:St))
              | none=>.fail 95).Holds E0.ρ Q:=k'
            split at k2
            · rename_i h2 hconv
              have q:Q (.norm,⟨tmF.shut,s.df,h2⟩):=k2
              have hlast:(hl :: tl).reverse[bx dis]?=some hl:=by
                have:tl.length=bx dis:=by simp at hB; omega
                rw [List.reverse_cons,← this,List.getElem?_append_right (by simp)]
                simp
              refine wpIn_region_any hm ?_
              have keepd:∀ d ∈ dis,d.ci.keep=memN keep d.ci.dst:=fun d hd=>by
                obtain ⟨i,hi⟩:=List.getElem?_of_mem hd
                obtain ⟨o,_,hc,_⟩:=L.back i d hi
                obtain ⟨f,g,_,_,_,hce⟩:=fV hc
                rw [hce]
              refine draw_any (p:=p) (E0:=E0) (w0:=w0) (arr0:=a.tmps) (ds0:=a.defers) TT L R CX S.tm S.hp.nx (fun listed a' w' E k I hall=>?_) ops.size _ a _ (E0.atN (s.h.next + fls.length)) 0 ?_ ?_
              · obtain ⟨H,hH,HH⟩:=I.hp
                have hk:k=bx dis:=by
                  have h1:=(List.getElem?_eq_some_iff.1 hH).1
                  rw [R.len] at h1
                  rcases Nat.lt_or_ge k (bx dis) with h | h
                  · exfalso
                    obtain ⟨j,e,g1,g2,g3⟩:=num_at L h
                    obtain ⟨o,ho,_⟩:=L.back j e g1
                    have:=(I.eff j e g1 g2).1 (hall j (Array.getElem?_eq_some_iff.1 ho).1)
                    omega
                  · omega
                rw [hk,hlast] at hH
                cases hH
                have HH2:HeapOk p E h2 w0 w':=by
                  refine convR_ok _ hl h2 (fun j _ cs hcs=>?_) HH hconv
                  rcases runD_pend dis s.tm _ [] [] [] _ hrun j cs hcs with h | ⟨d,hd,f,hf,hj⟩
                  · cases h
                  · obtain ⟨i,hi⟩:=List.getElem?_of_mem hd
                    obtain ⟨o,ho,_⟩:=L.back i d hi
                    have:=(I.flt i d f hi hf).2.1 (hall i (Array.getElem?_eq_some_iff.1 ho).1) cs (by rw [hj]; exact hcs)
                    rw [hj] at this
                    exact this
                have X:TmX n keep E s.tm a'.tmps (fun t=>∃ d ∈ dis,d.ci.dst=some t):=by
                  have tr:∀ i b,good E0 a.tmps i b→(¬ ∃ d ∈ dis,d.ci.dst=some i)→good E a'.tmps i b:=fun i b g hno=>by
                    obtain ⟨u,g1,g2⟩:=g.mono I.le.tole0
                    exact ⟨u,g1,by rw [I.old i fun j d h1 h2=>absurd ⟨d,List.mem_of_getElem? h1,h2⟩ hno]; exact g2⟩
                  exact ⟨by rw [I.asz]; exact S.tm.size,fun i b e hno=>tr i b (S.tm.loc i b e) hno,fun i b e=>⟨(S.tm.tree.at_ i b e).1,fun hno=>tr i b (S.tm.tree.at_ i b e).2 hno⟩⟩
                have HT:=runD_tm (E:=E) (arr:=a'.tmps) (n:=n) (keep:=keep) dis s.tm _ [] [] [] _ hrun L.once keepd (fun d hd t v h1 h2=>by
                  obtain ⟨i,hi⟩:=List.getElem?_of_mem hd
                  obtain ⟨o,ho,_⟩:=L.back i d hi
                  exact I.val i d t v hi (hall i (Array.getElem?_eq_some_iff.1 ho).1) h1 h2) X
                exact P .norm _ E w' a' q I.le ⟨HT.shut,by rw [I.adf]; exact DfOk.mono I.le.tole0 _ _ S.df,HH2⟩
              · have hf : ∀ i, (Array.replicate ops.size false).getD i false = false := fun i => by
                  simp only [Array.getD_eq_getD_getElem?,Array.getElem?_replicate]
                  split <;> rfl
                have HR:=S.hp.resvN fls.length
                refine ⟨Env.atN_le E0 (by have:=S.hp.nx; omega),⟨_,hA 0 _ rfl,HR.world ⟨rfl,rfl,rfl,Nat.le_refl _,fun _ _=>rfl⟩⟩,by simp,fun i h=>?_,fun i d h1 h2=>?_,fun i d t v h1 h2=>?_,fun _ _=>rfl,rfl,rfl,fun i d fl h1 h2=>⟨?_,fun h=>?_,fun _=>?_⟩⟩
                · rw [hf] at h; cases h
                · rw [hf]; simp
                · rw [hf] at h2; cases h2
                · obtain ⟨a1,a2⟩:=L.ord h1 h2
                  have:=posOf_lt fls i a2
                  show s.h.next + fl.2.2 < s.h.next + fls.length
                  omega
                · rw [hf] at h; cases h
                · exact S.hp.fresh _ (Nat.le_add_right _ _)
              · have:=List.countP_le_length (p:=fun b=>!b) (l:=(Array.replicate ops.size false).toList)
                simpa using this
            · exact k2.elim
    · cases hc
  · cases hc
end Go.Sx
namespace Go.Sx
open Go.RowKit
def Rng (p:Par) (n:Nat) (keep:List Nat) (fid:FuncId):Code→Prop
  | .seq a b=>Rng p n keep fid a∧Rng p n keep fid b
  | .cond _ a b=>Rng p n keep fid a∧Rng p n keep fid b
  | .block _ a=>Rng p n keep fid a
  | .loop a=>Rng p n keep fid a
  | .scope a=>Rng p n keep fid a
  | .rangeFunc _ ps a b=>∀ id,rangeId fid ps.toList=some id→p.RC id n keep a b
  | _=>True
theorem cCode_ok {p : Par} {ty : Nat → Option TI} (TT : ct p.P ty) (hm : p.P.follows .mixedOrders = true) {n : Nat} {keep : List Nat} {fid : FuncId} :
    ∀ (c:Code) (f:C),bX ty n keep fid c=some f→Rng p n keep fid c→COk p n keep f c:=by
  intro c
  induction c with
  | skip=>intro f h _; simp only [bX,Option.some.injEq] at h; subst h; exact skip_ok
  | label l=>intro f h _; simp only [bX,Option.some.injEq] at h; subst h; exact label_ok
  | region id ops draw =>
    intro f h _
    simp only [bX] at h
    cases draw with
    | true=>exact draw_ok TT hm h
    | false =>
      simp only [cond_false,Option.map_eq_some_iff] at h
      obtain ⟨cs,hcs,rfl⟩:=h
      exact cOps_ok TT hcs
  | seq a b iha ihb =>
    intro f h R
    simp only [bX] at h
    split at h
    · rename_i x y hx hy; cases h; exact seq_ok (iha x hx R.1) (ihb y hy R.2)
    · cases h
  | cond c a b iha ihb =>
    intro f h R
    simp only [bX] at h
    split at h
    · rename_i y x z hy hx hz; cases h; exact cond_ok hy (iha x hx R.1) (ihb z hz R.2)
    · cases h
  | block id a ih =>
    intro f h R
    simp only [bX,Option.map_eq_some_iff] at h
    obtain ⟨x,hx,rfl⟩:=h
    exact block_ok (ih x hx R)
  | loop a ih =>
    intro f h R
    simp only [bX,Option.map_eq_some_iff] at h
    obtain ⟨x,hx,rfl⟩:=h
    exact loop_ok (ih x hx R)
  | scope a ih=>exact fun f h R=>scope_ok (ih f h R)
  | rangeFunc g ps a b _ _ =>
    intro f h R
    simp only [bX] at h
    split at h
    · rename_i y id hy hid
      cases hps:(ps.toList.all fun q=>and (memN keep (some q)) (okDst n (some q))) with
      | false=>rw [hps] at h; cases h
      | true=>rw [hps] at h; cases h; exact range_ok hy ⟨R id hid,hps⟩
    · cases h
  | exit id=>intro f h _; simp only [bX,Option.some.injEq] at h; subst h; exact exit_ok
  | ret=>intro f h _; simp only [bX,Option.some.injEq] at h; subst h; exact ret_ok
  | _=>intro f h _; simp only [bX] at h; cases h
theorem tmOf_cons (a:AV) (l:List AV) (n:Nat) (t:PT AV):tmOf (a :: l) n t=tmOf l (n + 1) (PT.set t n a):=rfl
theorem tmOf_get:∀ (l:List AV) (n:Nat) (t:PT AV) (i:Nat),(tmOf l n t).get i=if n≤i∧i < n + l.length then l[i - n]? else t.get i
  | [],n,t,i=>by
    show t.get i=_
    rw [if_neg (by rintro ⟨h1,h2⟩; simp only [List.length_nil] at h2; omega)]
  | a :: l,n,t,i=>by
    rw [tmOf_cons,tmOf_get l (n + 1) _ i,PT.get_set]
    by_cases h1:n + 1≤i∧i < n + 1 + l.length
    · rw [if_pos h1,if_pos (by simp; omega)]
      rw [show i - n=(i - (n + 1)) + 1 by omega,List.getElem?_cons_succ]
    · rw [if_neg h1]
      by_cases h2:i=n
      · subst h2; rw [if_pos rfl,if_pos (by simp)]; simp
      · rw [if_neg h2,if_neg (by simp at *; omega)]
theorem args_ok {n m : Nat} {keep : List Nat} {E : Env} {args : List AV} {vs : List Value} (h : ad E args = some vs) (hk : ((List.range m).all fun i => memN keep (some i)) = true) (hl : args.length ≤ m) :
    TmOk n keep E ⟨[],tmOf args 0 .nil⟩ (vs.toArray ++ Array.replicate (n - vs.toArray.size) undef):=by
  have hlen:=bD h
  refine ⟨by simp; omega,fun i a e=>(by cases e),⟨fun i a e=>?_⟩⟩
  rw [tmOf_get] at e
  split at e
  · rename_i hi
    rw [Nat.sub_zero] at e
    obtain ⟨v,hv,hi2⟩:=c9 h e
    refine ⟨?_,v,hv,?_⟩
    · rw [List.all_eq_true] at hk
      exact hk i (by simp; omega)
    · have:=(List.getElem?_eq_some_iff.1 hi2).1
      rw [Array.getElem?_append_left (by simpa using this)]
      simpa using hi2
  · rw [PT.get_nil] at e; cases e
def resSem (arr:Array Value):ResultVar→Sem Value
  | .tmp t=>pure (arr.getD t undef)
  | .cell a t=>do loadVar t (← asAddr (arr.getD a undef))
theorem loadV_run {p : Par} {ty : Nat → Option TI} (T : ct p.P ty) {t : Nat} {i : TI} (ht : ty t = some i) (hagg : i.isAgg = false) {E : Env} {h : Heap} {w0 : Base} {w : World} (HH : HeapOk p E h w0 w)
    {b i' size off:Nat} {e:IE} {r:AV} (hr:aload h (.ptrV b i' size off e)=some r) {u:Value} (hn:af E (.ptrV b i' size off e)=some u):∃ u',af E r=some u'∧(Instr.loadAt t u).run p.P w=.ok u' w:=by
  simp only [aload] at hr
  split at hr
  · rename_i i2 ks hcs
    cases hb:(Nat.beq i' i2 && Nat.beq size (lLen ks)) with
    | false=>rw [hb] at hr; cases hr
    | true =>
      rw [hb] at hr
      simp only [cond] at hr
      simp only [Bool.and_eq_true] at hb
      obtain ⟨hb1,hb2⟩:=hb
      cases Nat.eq_of_beq_eq_true hb1
      have hsz:=Nat.eq_of_beq_eq_true hb2
      rw [cM] at hsz; subst hsz
      rw [bR] at hr
      cases hk:ks[off]? with
      | none=>rw [hk] at hr; cases hr
      | some k' =>
        rw [hk] at hr; cases hr
        obtain ⟨q',hq',hp,hl,hv'⟩:=dR hn
        have hnn:e.den E.ρ=((e.den E.ρ).toNat:Int):=(Int.toNat_of_nonneg hp).symm
        rw [hv']
        exact ⟨_,cellU_conc hnn k',eo T ht hagg (HH.ucell hcs (hnn ▸ hl) hk hq')⟩
  · cases hr
theorem loadNV_run {p : Par} {ty : Nat → Option TI} (T : ct p.P ty) {t : Nat} {i : TI} (ht : ty t = some i) (hagg : i.isAgg = true) {E : Env} {h : Heap} {w0 : Base} {w : World} (HH : HeapOk p E h w0 w)
    {b i' size off:Nat} {e:IE} {r:AV} (hr:aloadN i.size h (.ptrV b i' size off e)=some r) {u:Value} (hn:af E (.ptrV b i' size off e)=some u):∃ u',af E r=some u'∧(Instr.loadAt t u).run p.P w=.ok u' w:=by
  simp only [aloadN] at hr
  split at hr
  · rename_i i2 ks hcs
    cases hb:(Nat.beq i' i2 && Nat.beq size (lLen ks)) with
    | false=>rw [hb] at hr; cases hr
    | true =>
      rw [hb] at hr
      simp only [cond] at hr
      simp only [Bool.and_eq_true] at hb
      obtain ⟨hb1,hb2⟩:=hb
      cases Nat.eq_of_beq_eq_true hb1
      have hsz:=Nat.eq_of_beq_eq_true hb2
      rw [cM] at hsz; subst hsz
      cases hk:fp ks off i.size with
      | none=>rw [hk] at hr; cases hr
      | some l =>
        rw [hk] at hr; cases hr
        obtain ⟨q',hq',hp,hl,hv'⟩:=dR hn
        have hnn:e.den E.ρ=((e.den E.ρ).toNat:Int):=(Int.toNat_of_nonneg hp).symm
        obtain ⟨hle,rfl⟩:=fC hk
        obtain ⟨vs,hvs,hlen,hcell⟩:=cellsU_conc (E:=E) (i:=i') hnn ((ks.drop off).take i.size) off
        rw [hv']
        have hlen':vs.length=i.size:=by rw [hlen]; simp; omega
        refine ⟨.agg vs.toArray,by simp [af,hvs],ep T ht hagg hlen' (fun j v hj=>?_)⟩
        have hjl:j < i.size:=hlen' ▸ (List.getElem?_eq_some_iff.1 hj).1
        have hks:((ks.drop off).take i.size)[j]?=some (ks[off + j]'(by omega)):=by
          rw [List.getElem?_take,if_pos hjl,List.getElem?_drop]; exact List.getElem?_eq_getElem (by omega)
        have:=hcell j _ hks
        rw [hj] at this; cases this
        rw [show q'.2 + (e.den E.ρ).toNat * ks.length + off + j=q'.2 + (e.den E.ρ).toNat * ks.length + (off + j) by omega]
        exact HH.ucell hcs (hnn ▸ hl) (by rw [List.getElem?_eq_getElem (by omega)]) hq'
  · cases hr
theorem result_ok {p : Par} {ty : Nat → Option TI} (TT : ct p.P ty) {n : Nat} {keep : List Nat} {E : Env} {w0 : Base} {w : World} {tm : Tm} {h : Heap} {arr : Array Value} (HT : TmOk n keep E tm arr) (HH : HeapOk p E h w0 w) :
    ∀ (l:List ResultVar) (rs:List RV) (vs:List AV),cRes ty l=some rs→dh tm h rs=some vs→∃ us,ad E vs=some us ∧
      (l.mapM (resSem arr)).run p.P w=.ok us w
  | [],rs,vs,hr,hv=>by
    simp only [cRes,Option.some.injEq] at hr; subst hr
    simp only [dh,Option.some.injEq] at hv; subst hv
    exact ⟨[],rfl,rfl⟩
  | r :: l,rs,vs,hr,hv=>by
    have head:∃ rv rs',rs=rv :: rs'∧cRes ty l=some rs'∧∀ v,resultA tm h rv=some v→∃ u,af E v=some u∧(resSem arr r).run p.P w=.ok u w:=by
      cases r with
      | tmp t =>
        simp only [cRes,Option.map_eq_some_iff] at hr
        obtain ⟨rs',h1,rfl⟩:=hr
        refine ⟨_,rs',rfl,h1,fun v hv=>?_⟩
        obtain ⟨u,g1,g2⟩:=HT.look (show tm.look t=some v from hv)
        refine ⟨u,g1,?_⟩
        simp only [resSem,Array.getD_eq_getD_getElem?,g2]
        rfl
      | cell a t =>
        simp only [cRes] at hr
        split at hr
        · rename_i i rs' hi h1
          cases hr
          refine ⟨_,rs',rfl,h1,fun v hv=>?_⟩
          simp only [resultA] at hv
          cases hl:tm.look a with
          | none=>rw [hl] at hv; cases hv
          | some pa =>
            rw [hl] at hv
            simp only at hv
            obtain ⟨u,g1,g2⟩:=HT.look hl
            have key:∀ (b off:Nat) (_:pa=.ptr b off),∃ u',af E v=some u'∧(Instr.loadAt t (arr.getD a undef)).run p.P w=.ok u' w:=by
              rintro b off rfl
              obtain ⟨q,hq,rfl⟩:=cJ g1
              rw [Array.getD_eq_getD_getElem?,g2,Option.getD_some]
              cases hagg:i.isAgg with
              | true =>
                rw [hagg,cond_true] at hv
                simp only [aloadN] at hv
                cases hcs:h.cells b with
                | none=>rw [hcs] at hv; cases hv
                | some cs =>
                  rw [hcs] at hv
                  simp only [Option.map_eq_some_iff] at hv
                  obtain ⟨l',hl',rfl⟩:=hv
                  obtain ⟨vs',hvs,hlen,hcell⟩:=HH.cellsRange hcs hl' hq
                  exact ⟨_,by simp [af,hvs],ep TT hi hagg hlen hcell⟩
              | false =>
                rw [hagg,cond_false] at hv
                simp only [aload] at hv
                cases hcs:h.cells b with
                | none=>rw [hcs] at hv; cases hv
                | some cs =>
                  rw [hcs] at hv
                  simp only [bR] at hv
                  obtain ⟨v',hv',hcell⟩:=HH.cell hcs hv hq
                  exact ⟨v',hv',eo TT hi hagg hcell⟩
            cases pa with
            | ptr b off =>
              obtain ⟨u',k1,k2⟩:=key b off rfl
              refine ⟨u',k1,?_⟩
              obtain ⟨q,hq,rfl⟩:=cJ g1
              have e:arr.getD a undef=.pointer (some ⟨q.1,q.2 + off,none⟩):=by rw [Array.getD_eq_getD_getElem?,g2]; rfl
              rw [e] at k2
              show (do loadVar t (← asAddr (arr.getD a undef)):Sem Value).run p.P w=_
              rw [e]
              exact k2
            | ptrV b i' size off e =>
              have key:∃ u',af E v=some u'∧(Instr.loadAt t u).run p.P w=.ok u' w:=by
                cases hagg:i.isAgg with
                | true=>rw [hagg,cond_true] at hv; exact loadNV_run TT hi hagg HH hv g1
                | false=>rw [hagg,cond_false] at hv; exact loadV_run TT hi hagg HH hv g1
              obtain ⟨u',k1,k2⟩:=key
              refine ⟨u',k1,?_⟩
              obtain ⟨q',hq',hp,hl,hv'⟩:=dR g1
              have e:arr.getD a undef=u:=by rw [Array.getD_eq_getD_getElem?,g2]; rfl
              show (do loadVar t (← asAddr (arr.getD a undef)):Sem Value).run p.P w=_
              rw [e]
              subst hv'
              exact k2
            | _=>cases hagg:i.isAgg <;> rw [hagg] at hv <;> simp [aload,aloadN] at hv
        · cases hr
    obtain ⟨rv,rs',rfl,hrs',hrv⟩:=head
    simp only [dh] at hv
    cases hv1:resultA tm h rv with
    | none=>rw [hv1] at hv; cases hv
    | some v =>
      cases hv2:dh tm h rs' with
      | none=>rw [hv1,hv2] at hv; cases hv
      | some vs' =>
        rw [hv1,hv2] at hv; cases hv
        obtain ⟨u,k1,k2⟩:=hrv v hv1
        obtain ⟨us,k3,k4⟩:=result_ok TT HT HH l rs' vs' hrs' hv2
        refine ⟨u :: us,ap.2 ⟨u,us,k1,k3,rfl⟩,?_⟩
        rw [List.mapM_cons,az k2,az k4]
        rfl
theorem run_results {p : Par} {ty : Nat → Option TI} (TT : ct p.P ty) {n : Nat} {keep : List Nat} {E : Env} {w0 : Base} {w : World} {tm : Tm} {h : Heap} {arr : Array Value} (HT : TmOk n keep E tm arr) (HH : HeapOk p E h w0 w)
    {fn:Func} {rs:List RV} {vs:List AV} (hr:cRes ty fn.results.toList=some rs) (hv:dh tm h rs=some vs):∃ v,af E (one vs)=some v∧(results fn arr).run p.P w=.ok v w:=by
  obtain ⟨us,h1,h2⟩:=result_ok TT HT HH _ rs vs hr hv
  have hlen:=bD h1
  have hres:results fn arr=(do let us ← fn.results.mapM (resSem arr); pure (if h:us.size=1 then us[0] else .tuple us)):=by
    unfold results
    congr 1
  have hm:(fn.results.mapM (resSem arr)).run p.P w=.ok us.toArray w:=by
    rw [Array.mapM_eq_mapM_toList]
    show ((fn.results.toList.mapM (resSem arr)) >>= fun us=>pure us.toArray).run p.P w=_
    rw [az h2]
    rfl
  rw [hres,az hm]
  match vs,us,hlen,h1 with
  | [v],[u],_,h1 =>
    obtain ⟨u',r,hu,hr',e⟩:=ap.1 h1
    cases e
    exact ⟨u,hu,rfl⟩
  | [],us,hlen,h1 =>
    simp only [ad,Option.some.injEq] at h1
    subst h1
    exact ⟨_,rfl,rfl⟩
  | v :: v' :: vs,us,hlen,h1 =>
    refine ⟨.tuple us.toArray,by simp [one,af,h1],?_⟩
    have:¬ us.toArray.size=1:=by simp at hlen ⊢; omega
    simp only [dif_neg this]
    rfl
theorem undefer_ok {p : Par} {fn : Func} {tmps : Array Value} {E : Env} {w0 : Base} {R : Ending → World → Prop} {Q : Heap → Prop} :
    ∀ (df:List Nat) (ds:List Deferred) (h:Heap) (w:World),DfOk E df ds→HeapOk p E h w0 w→(undefer df h).Holds E.ρ Q →
      (∀ h' w',Q h'→HeapOk p E h' w0 w'→∃ v,(results fn tmps).run p.P w'=.ok v w'∧R (.returned v) w')→LeavesInM Fence.wide 0 p.P fn tmps R ds .returning w
  | [],[],h,w,_,HH,k,P=>P h w k HH
  | [],_ :: _,h,w,D,_,_,_=>D.elim
  | _ :: _,[],h,w,D,_,_,_=>D.elim
  | b :: df,d :: ds,h,w,⟨⟨c,hc,hd⟩,D⟩,HH,k,P=>by
    unfold undefer at k
    split at k
    · rename_i hg
      obtain ⟨c',hc',hh⟩:=HH.obj b _ hg
      rw [hc] at hc'; cases hc'
      have hlt:=HH.lt b _ c 0 hg hc
      refine ⟨by simp,.inl ⟨c,_,hd,run_takeDeferred (by simpa using hh),?_⟩⟩
      refine undefer_ok df ds (h.put b (.defd false)) _ D ?_ k P
      exact HH.turn hg rfl hc rfl ⟨c,hc,by rw [World.putObj_heap_same hlt]; rfl⟩ (fun i hi=>World.putObj_heap_other hi) rfl rfl rfl (by simp)
    · exact k.elim
end Go.Sx
namespace Go.Sx
open Go.RowKit
theorem cFunc_some {ty : Nat → Option TI} {keep : List Nat} {fid : FuncId} {fn : Func} {cf : CF} (h : cFunc ty keep fid fn = some cf) :
    ∃ c f rs,fn.body=some c∧bX ty fn.ntmps keep fid c=some f∧cRes ty fn.results.toList=some rs∧((List.range (fn.params.size + fn.nfree)).all fun i=>memN keep (some i))=true∧cf=⟨fn.params.size + fn.nfree,f,rs⟩:=by
  unfold cFunc at h
  split at h
  · cases h
  · rename_i c hc
    split at h
    · rename_i f rs hf hrs
      cases hk:((List.range (fn.params.size + fn.nfree)).all fun i=>memN keep (some i)) with
      | false=>rw [hk] at h; cases h
      | true=>rw [hk] at h; cases h; exact ⟨c,f,rs,hc,hf,hrs,rfl,rfl⟩
    · cases h
def CallOk (p:Par) (f:FuncId) (args:List AV) (h:Heap) (t:T (AV × Heap)):Prop :=
  ∀ vs E w0 w Q K,t.Holds E.ρ Q→HeapOk p E h w0 w→ad E args=some vs→Post p E w0 Q K →
    (callFunc f vs.toArray).run p.P w=.ok (.enter f vs.toArray) w∧Calls p.P f vs.toArray w fun e w'=>∃ v,e=.returned v∧K v w'
structure b8 (p:Par) (ty:Nat→Option TI) (tb:hI):Prop where
  types:ct p.P ty
  mixed:p.P.follows .mixedOrders=true
  fn:∀ f cf,tb.F f=some cf→∃ fn keep,p.P.funcs[f]?=some fn∧cFunc ty keep f fn=some cf∧(fn.name == "runtime.NumGoroutine")=false∧∀ c,fn.body=some c→Rng p fn.ntmps keep f c
  rc:∀ code n keep a b,p.RC code n keep a b→∃ fid ca cb,tb.R code=some (ca,cb)∧bX ty n keep fid a=some ca∧bX ty n keep fid b=some cb∧Rng p n keep fid a∧Rng p n keep fid b
  orc:∀ f args h t,tb.orc f args h=some t→CallOk p f args h t
theorem run_callFunc {P : Program} {f : FuncId} {fn : Func} {c : Code} (hf : P.funcs[f]? = some fn) (hb : fn.body = some c) (hn : (fn.name == "runtime.NumGoroutine") = false) (args : Array Value) (w : World) :
    (callFunc f args).run P w=.ok (.enter f args) w:=by
  unfold callFunc
  simp only [Sem.run_bind,program,Sem.run,Result.andThen_ok,hf,hn,hb,Bool.false_eq_true,if_false,Option.isNone_some]
  rfl
theorem callBody_ok {p:Par} {ty:Nat→Option TI} {tb:hI} (B:b8 p ty tb) {cx:Cx} (CX:CxOk p cx) (f:FuncId) (args:List AV) (h:Heap):CallOk p f args h (callBody tb cx f args h):=by
  intro vs E w0 w Q K k HH ha P
  unfold callBody at k
  cases hF:tb.F f with
  | none=>rw [hF] at k; exact k.elim
  | some cf =>
    rw [hF] at k
    simp only at k
    obtain ⟨fn,keep,hfn,hcf,hname,hrng⟩:=B.fn f cf hF
    obtain ⟨c,g,rs,hb,hg,hrs,hkeep,rfl⟩:=cFunc_some hcf
    refine ⟨run_callFunc hfn hb hname _ w,?_⟩
    cases hl:Nat.ble (lLen args) (fn.params.size + fn.nfree) with
    | false=>simp only [hl,cond_false] at k; exact k.elim
    | true =>
      simp only [hl,cond_true] at k
      rw [T.holds_bind] at k
      have hlen:args.length≤fn.params.size + fn.nfree:=by have:=aD.1 hl; rwa [cM] at this
      refine callsIn_wide.1 (callsIn_of_wp_marks (F:=Fence.wide) (n:=0) hfn hb trivial ?_)
      refine cCode_ok B.types B.mixed c g hg (hrng c hb) cx CX ⟨f,none⟩ none E w0 w ⟨⟨[],tmOf args 0 .nil⟩,[],h⟩ _ _ _ trivial ⟨args_ok ha hkeep hlen,trivial,HH⟩ k ?_
      intro x s' E' w' a' q hle S'
      have fin:(finish ⟨fn.params.size + fn.nfree,g,rs⟩ (x,s')).Holds E'.ρ Q:=by rw [hle.ρ]; exact q
      have go : ((undefer s'.df s'.h).bind fun h2 => match dh s'.tm h2 rs with
          | some vs=>T.ret (one vs,h2)
          | none=>.fail 64).Holds E'.ρ Q→LeavesInM Fence.wide 0 p.P fn a'.tmps (fun e w'=>∃ v,e=.returned v∧K v w') a'.defers .returning w':=fun kk=>by
        rw [T.holds_bind] at kk
        refine undefer_ok s'.df a'.defers s'.h w' S'.df S'.hp kk ?_
        intro h2 w2 q2 HH2
        cases hres:dh s'.tm h2 rs with
        | none=>rw [hres] at q2; exact q2.elim
        | some vs' =>
          rw [hres] at q2
          obtain ⟨v,hv1,hv2⟩:=run_results B.types S'.tm HH2 hrs hres
          exact ⟨v,hv2,v,rfl,P _ _ E' w2 v q2 hle HH2 hv1⟩
      cases x with
      | norm=>exact go fin
      | ret=>exact go fin
      | exit id=>exact fin.elim
theorem setParams_ok {n : Nat} {keep : List Nat} {E : Env} : ∀ (ps : List Nat) (args : List AV) (vs : List Value) (tm tm' : PT AV) (arr : Array Value), eQ ps args tm = some tm' → ad E args = some vs → n ≤ arr.size → psOk n keep ps = true → TreeOk keep E tm arr →
    vs.length=ps.length∧TreeOk keep E tm' ((ps.zip vs).foldl (fun t q=>t.setIfInBounds q.1 q.2) arr)∧((ps.zip vs).foldl (fun t q=>t.setIfInBounds q.1 q.2) arr).size=arr.size
  | [],[],vs,tm,tm',arr,h,ha,hn,hp,H=>by
    simp only [eQ,Option.some.injEq] at h; subst h
    simp only [ad,Option.some.injEq] at ha; subst ha
    exact ⟨rfl,H,rfl⟩
  | [],_ :: _,vs,tm,tm',arr,h,ha,hn,hp,H=>by simp [eQ] at h
  | _ :: _,[],vs,tm,tm',arr,h,ha,hn,hp,H=>by simp [eQ] at h
  | t :: ps,a :: args,vs,tm,tm',arr,h,ha,hn,hp,H=>by
    simp only [eQ] at h
    obtain ⟨v,r,hv,hr,rfl⟩:=ap.1 ha
    simp only [psOk,List.all_cons,Bool.and_eq_true] at hp
    have hlt:=aD.1 hp.1.2
    have H':TreeOk keep E (PT.set tm t a) (arr.setIfInBounds t v):=by
      refine ⟨fun i b e=>?_⟩
      rw [PT.get_set] at e
      by_cases c:i=t
      · subst c; rw [if_pos rfl] at e; cases e
        exact ⟨hp.1.1,v,hv,by rw [Array.getElem?_setIfInBounds]; simp; omega⟩
      · rw [if_neg c] at e
        obtain ⟨h1,u,h2,h3⟩:=H.at_ i b e
        exact ⟨h1,u,h2,by rw [Array.getElem?_setIfInBounds_ne (Ne.symm c)]; exact h3⟩
    obtain ⟨h1,h2,h3⟩:=setParams_ok ps args r _ tm' (arr.setIfInBounds t v) h hr (by simpa using hn) (by simpa [psOk] using hp.2) H'
    exact ⟨by simp [h1],h2,by rw [List.zip_cons_cons,List.foldl_cons,h3]; simp⟩
theorem goesOn_eq (x:Ex):goesOn x=(hT x).isNone:=by cases x <;> rfl
theorem endState_eq (x:Ex):endState x=if (hT x).isNone then .ready else .done:=by cases x <;> rfl
theorem yieldBody_ok {p : Par} {ty : Nat → Option TI} {tb : hI} (B : b8 p ty tb) {cx : Cx} (CX : CxOk p cx) (l : Nat) (args : List AV) (h : Heap) :
    ∀ vs E w0 w Q K q,(fK tb cx l args h).Holds E.ρ Q→HeapOk p E h w0 w→ad E args=some vs→E.σ l=some q→Post p E w0 Q K→Does p.P ((Instr.yield q.1 vs.toArray).run p.P w) K:=by
  intro vs E w0 w Q K q k HH ha hq P
  unfold fK at k
  split at k
  · rename_i st0 pd0 fnn tm params code d0 hg
    split at k
    · rename_i tm' c htm hR
      obtain ⟨cc,d',n,keep,r,g1,g2,g3,g4,g5,g6,g7,g8,⟨g9,g9'⟩,g10,ht⟩:=HH.loopTurn hg
      rw [hq] at g1; cases g1
      obtain ⟨fid,ca,cb,hR',hca,hcb,ra,rb⟩:=B.rc code n keep _ _ g9
      rw [hR] at hR'; cases hR'
      obtain ⟨s1,s2,s3⟩:=setParams_ok (n:=n) params args vs tm tm' r.tmps htm ha g6 g9' g7
      have hzip:((r.params.zip vs.toArray).foldl (fun tmps (x:Nat × Value)=>tmps.setIfInBounds x.1 x.2) r.tmps)=((params.zip vs).foldl (fun t q=>t.setIfInBounds q.1 q.2) r.tmps):=by
        rw [← g8,← Array.foldl_toList]
        simp
      have hsz:vs.toArray.size=r.params.size:=by
        rw [← g8] at s1; simpa using s1
      rw [run_yield g3 hsz]
      rw [T.holds_bind] at k
      show RoundIn Fence.wide 0 p.P cc r.fn ((r.params.zip vs.toArray).foldl (fun tmps (x:Nat × Value)=>tmps.setIfInBounds x.1 x.2) r.tmps) r.assign r.body w _
      rw [hzip]
      refine roundIn_of_wpIn (F:=Fence.wide) trivial ?_
      have S0:StOk p n keep E w0 ⟨⟨[],tm'⟩,[],h⟩ { tmps:=(params.zip vs).foldl (fun t q=>t.setIfInBounds q.1 q.2) r.tmps,defers:=[] } w :=
        ⟨⟨by rw [s3]; exact g6,fun i a e=>(by cases e),s2⟩,trivial,HH⟩
      refine cCode_ok B.types B.mixed r.assign ca hca ra cx CX ⟨fnn,some l⟩ (some cc) E w0 w _ _ _ _ hq S0 k ?_
      intro x s1 E1 w1 a1 q1 hle1 S1
      cases x with
      | exit id=>exact q1.elim
      | ret=>exact q1.elim
      | norm =>
        have q1':(midRound cx ⟨fnn,some l⟩ l cb (.norm,s1)).Holds E1.ρ Q:=by rw [hle1.ρ]; exact q1
        unfold midRound at q1'
        simp only at q1'
        split at q1'
        · rename_i st1 p1 f1 t1 ps1 c1 d1 hg1
          split at q1'
          · obtain ⟨cc1,d1',n1,keep1,r1,e1,e2,e3,e4,e5,e6,e7,e8,e9,e10,ht1⟩:=S1.hp.loopTurn hg1
            have hq1:=hle1.σ _ _ hq
            rw [hq1] at e1; cases e1
            have HB:=ht1 .busy p1
            rw [show ({ r1 with state:=LoopState.busy,pending:=hT p1 }:Loop)={ r1 with state:=.busy } from by rw [← e5]] at HB
            refine ⟨_,run_beginRound e3 e4,?_⟩
            rw [T.holds_bind] at q1'
            refine cCode_ok B.types B.mixed r.body cb hcb rb cx CX ⟨fnn,some l⟩ (some cc) E1 w0 _ ⟨s1.tm,s1.df,s1.h.put l (.loop .busy p1 f1 t1 ps1 c1 d1)⟩ _ _ _ hq1 ⟨S1.tm,S1.df,HB⟩ q1' ?_
            intro x s2 E2 w2 a2 q2 hle2 S2
            have q2':(endRound l (x,s2)).Holds E2.ρ Q:=by rw [hle2.ρ]; exact q2
            unfold endRound at q2'
            simp only at q2'
            split at q2'
            · split at q2'
              · rename_i st2 p2 f2 t2 ps2 c2 d2 hg2
                obtain ⟨cc2,d2',n2,keep2,r2,o1,o2,o3,o4,o5,o6,o7,o8,o9,o10,ht2⟩:=S2.hp.loopTurn hg2
                have hq2:=hle2.σ _ _ hq1
                rw [hq2] at o1; cases o1
                have HE:=ht2 (endState x) x
                have hre:=run_endRound (P:=p.P) (hT x) o3
                rw [← endState_eq] at hre
                have done:∃ v w',(Instr.endRound cc (hT x)).run p.P w2=.ok v w'∧∃ u,Ending.returned v=.returned u∧K u w':=by
                  refine ⟨_,_,hre,_,rfl,?_⟩
                  refine P _ _ E2 _ (.bool (hT x).isNone) q2' (hle1.trans hle2) HE ?_
                  rw [goesOn_eq]; rfl
                cases x <;> exact done
              · exact q2'.elim
            · exact q2'.elim
          · exact q1'.elim
        · exact q1'.elim
    · exact k.elim
  · exact k.elim
theorem evalN_ok {p:Par} {ty:Nat→Option TI} {tb:hI} (B:b8 p ty tb):∀ d,CxOk p ⟨b7 tb d false,b7 tb d true,tb.loops⟩
  | 0=>⟨fun f args h vs E w0 w Q K k=>k.elim,fun f args h vs E w0 w Q K q k=>k.elim⟩
  | d + 1=>by
    have ih:=evalN_ok B d
    refine ⟨fun f args h vs E w0 w Q K k=>?_,fun l args h vs E w0 w Q K q k=>?_⟩
    · have k' : (match tb.orc f args h with
        | some t=>t
        | none=>callBody tb ⟨b7 tb d false,b7 tb d true,tb.loops⟩ f args h).Holds E.ρ Q:=k
      cases ho:tb.orc f args h with
      | some t =>
        rw [ho] at k'
        exact B.orc f args h t ho vs E w0 w Q K k'
      | none =>
        rw [ho] at k'
        exact callBody_ok B ih f args h vs E w0 w Q K k'
    · have k':(fK tb ⟨b7 tb d false,b7 tb d true,tb.loops⟩ l args h).Holds E.ρ Q:=k
      exact yieldBody_ok B ih l args h vs E w0 w Q K q k'
theorem bL {p:Par} {ty:Nat→Option TI} {tb:hI} (B:b8 p ty tb) (d:Nat) (f:FuncId) (args:List AV) (h:Heap):CallOk p f args h (b7 tb d false f args h) :=
  fun vs E w0 w Q K k HH ha P=>(evalN_ok B d).call f args h vs E w0 w Q K k HH ha P
end Go.Sx
namespace Go.Sx
open Go.RowKit
structure TyRow (P:Program) (t:Nat) (i:TI):Prop where
  und:P.underlying t=some i.desc
  info:∃ j,P.info? t=some j∧j.size=i.size∧j.bytes=i.bytes∧∀ z,i.zero=some z→∃ v,j.zero=some v∧ofV v=some z
  eqOk:i.eqOk=true→P.stoodInHeld t=false∧P.eqGuardType P.depth t=false
theorem TyRow.of' {P : Program} {t : Nat} (i : TI) (j : TypeInfo) (hu : P.underlying t = some i.desc) (hj : P.info? t = some j) (hs : j.size = i.size) (hb : j.bytes = i.bytes)
    (hz:i.zero.isSome=true→j.zero.bind ofV=i.zero) (he:i.eqOk=true→(P.stoodInHeld t=false∧P.eqGuardType P.depth t=false)):TyRow P t i:=by
  refine ⟨hu,⟨j,hj,hs,hb,fun z0 h0=>?_⟩,he⟩
  have:=hz (by rw [h0]; rfl)
  rw [h0] at this
  cases hv:j.zero with
  | none=>rw [hv] at this; cases this
  | some v=>rw [hv] at this; exact ⟨v,rfl,this⟩
def PT.Every {α:Type} (R:Nat→α→Prop):PT α→Prop
  | .nil=>True
  | .node v l r=>(∀ a,v=some a→R 0 a)∧PT.Every (fun k=>R (2 * k + 1)) l∧PT.Every (fun k=>R (2 * k + 2)) r
theorem PT.every_get {α:Type}:∀ (t:PT α) (R:Nat→α→Prop),t.Every R→∀ k a,t.get k=some a→R k a
  | .nil,R,_,k,a,h=>by rw [PT.get_nil] at h; cases h
  | .node v l r,R,h,k,a,e=>by
    rw [PT.get_node] at e
    by_cases h0:k=0
    · subst h0; rw [aq.2 rfl,cond_true] at e; exact h.1 a e
    · rw [bW.2 h0,cond_false] at e
      by_cases h1:k % 2=1
      · rw [show Nat.beq (Nat.mod k 2) 1=true from aq.2 h1,cond_true] at e
        have:=PT.every_get l _ h.2.1 _ a e
        rw [show 2 * (Nat.div (Nat.pred k) 2) + 1=k from by show 2 * ((k - 1) / 2) + 1=k; omega] at this
        exact this
      · rw [show Nat.beq (Nat.mod k 2) 1=false from bW.2 h1,cond_false] at e
        have:=PT.every_get r _ h.2.2 _ a e
        rw [show 2 * (Nat.div (Nat.pred k) 2) + 2=k from by show 2 * ((k - 1) / 2) + 2=k; omega] at this
        exact this
theorem ev1 {α:Type} {R:Nat→α→Prop} {k:Nat} {x:α} (h:R k x):∀ a,some x=some a→R k a:=fun a e=>by cases e; exact h
theorem ev0 {α:Type} {R:Nat→α→Prop} {k:Nat}:∀ a,(none:Option α)=some a→R k a:=fun a e=>by cases e
theorem tyOk_of {P:Program} {tt:PT TI} (h:tt.Every (TyRow P)):ct P tt.get :=
  ⟨fun t i e=>(PT.every_get tt _ h t i e).und,fun t i e=>(PT.every_get tt _ h t i e).info,fun t i e he=>(PT.every_get tt _ h t i e).eqOk he⟩
noncomputable def bK:Code→List (List Nat × Code × Code)
  | .seq a b=>bK a ++ bK b
  | .cond _ a b=>bK a ++ bK b
  | .block _ a=>bK a
  | .loop a=>bK a
  | .scope a=>bK a
  | .rangeFunc _ ps a b=>(ps.toList,a,b) :: (bK a ++ bK b)
  | _=>[]
theorem rng_of {p:Par} {n:Nat} {keep:List Nat} {fid:FuncId}:∀ (c:Code),(∀ q ∈ bK c,∀ id,rangeId fid q.1=some id→p.RC id n keep q.2.1 q.2.2)→Rng p n keep fid c:=by
  intro c
  induction c with
  | seq a b iha ihb=>exact fun h=>⟨iha fun q hq=>h q (List.mem_append_left _ hq),ihb fun q hq=>h q (List.mem_append_right _ hq)⟩
  | cond c a b iha ihb=>exact fun h=>⟨iha fun q hq=>h q (List.mem_append_left _ hq),ihb fun q hq=>h q (List.mem_append_right _ hq)⟩
  | block id a ih=>exact fun h=>ih h
  | loop a ih=>exact fun h=>ih h
  | scope a ih=>exact fun h=>ih h
  | rangeFunc g ps a b _ _=>exact fun h=>h (ps.toList,a,b) (by simp [bK])
  | _=>exact fun _=>trivial
noncomputable def firstR (l:List (List Nat × Code × Code)):Code × Code :=
  match l with
  | q :: _=>q.2
  | []=>(.skip,.skip)
noncomputable def aB (fn:Func):Code :=
  match fn.body with
  | some c=>c
  | none=>.skip
structure RRow where
  id:Nat
  fid:Nat
  n:Nat
  keep:List Nat
  a:Code
  b:Code
def bQ (l:List RRow) (code n:Nat) (keep:List Nat) (a b:Code):Prop:=∃ r ∈ l,r.id=code∧r.n=n∧r.keep=keep∧r.a=a∧r.b=b
theorem rcOf_rng {P : Program} {ok : Rho → (Nat → Obj → Prop) → Prop} {l : List RRow} {n : Nat} {keep : List Nat} {fid : FuncId} {c : Code} (rs : List (List Nat × Code × Code)) (h : bK c = rs)
    (hr:∀ q ∈ rs,∀ id,rangeId fid q.1=some id→bQ l id n keep q.2.1 q.2.2):Rng ⟨P,bQ l,ok⟩ n keep fid c:=rng_of c (by rw [h]; exact hr)
structure FRow (p:Par) (ty:Nat→Option TI) (f:Nat) (cf:CF):Prop where
  row:∃ fn keep,p.P.funcs[f]?=some fn∧cFunc ty keep f fn=some cf∧(fn.name == "runtime.NumGoroutine")=false∧∀ c,fn.body=some c→Rng p fn.ntmps keep f c
theorem FRow.plain {P : Program} {ok : Rho → (Nat → Obj → Prop) → Prop} {l : List RRow} {ty : Nat → Option TI} {f : Nat} {cf : CF} {fn : Func} (keep : List Nat) (c : Code) (h1 : P.funcs[f]? = some fn) (h2 : cFunc ty keep f fn = some cf) (h3 : (fn.name == "runtime.NumGoroutine") = false) (h4 : fn.body = some c)
    (rs:List (List Nat × Code × Code)) (h5:bK c=rs) (h6:∀ q ∈ rs,∀ id,rangeId f q.1=some id→bQ l id fn.ntmps keep q.2.1 q.2.2):FRow ⟨P,bQ l,ok⟩ ty f cf :=
  ⟨fn,keep,h1,h2,h3,fun c' hc=>by rw [h4] at hc; cases hc; exact rcOf_rng rs h5 h6⟩
def RSub (l:List RRow) (r:RRow):Prop:=∀ q ∈ bK r.a ++ bK r.b,∀ id,rangeId r.fid q.1=some id→bQ l id r.n r.keep q.2.1 q.2.2
theorem RSub.of {l:List RRow} {r:RRow} (rs:List (List Nat × Code × Code)) (h:bK r.a ++ bK r.b=rs) (k:∀ q ∈ rs,∀ id,rangeId r.fid q.1=some id→bQ l id r.n r.keep q.2.1 q.2.2):RSub l r:=by rw [← h] at k; exact k
theorem tabOk_of {P : Program} {ok : Rho → (Nat → Obj → Prop) → Prop} {l : List RRow} {tt : PT TI} {ft : PT CF} {rt : List (Nat × (C × C))} {loops : Nat} {orc : FuncId → List AV → Heap → Option (T (AV × Heap))} (hm : P.follows .mixedOrders = true) (ht : tt.Every (TyRow P)) (hf : ft.Every (FRow ⟨P, bQ l, ok⟩ tt.get))
    (hr:∀ r ∈ l,∃ ca cb,aA rt r.id=some (ca,cb)∧bX tt.get r.n r.keep r.fid r.a=some ca∧bX tt.get r.n r.keep r.fid r.b=some cb∧RSub l r)
    (ho:∀ f args h t,orc f args h=some t→CallOk ⟨P,bQ l,ok⟩ f args h t):b8 ⟨P,bQ l,ok⟩ tt.get ⟨ft.get,aA rt,loops,orc⟩:=by
  refine ⟨tyOk_of ht,hm,fun f cf e=>(PT.every_get ft _ hf f cf e).row,?_,ho⟩
  rintro code n keep a b ⟨r,hrl,rfl,rfl,rfl,rfl,rfl⟩
  obtain ⟨ca,cb,h1,h2,h3,h4⟩:=hr r hrl
  exact ⟨r.fid,ca,cb,h1,h2,h3,rng_of _ fun q hq=>h4 q (List.mem_append_left _ hq),rng_of _ fun q hq=>h4 q (List.mem_append_right _ hq)⟩
end Go.Sx
namespace Go.Sx
open Go.RowKit
def E0 (ρ:Rho):Env:=⟨ρ,fun b=>if b < 1000 then some (b,0) else none,fun _=>0,1000,fun _=>#[]⟩
noncomputable def dO:List (Nat × List AV)→Heap
  | []=>⟨.nil,1000⟩
  | g :: l=>(dO l).put g.1 (.cells g.2 0 false false)
theorem gx:∀ l,(dO l).next=1000
  | []=>rfl
  | g :: l=>by rw [dO,Heap.next_put]; exact gx l
theorem dT:∀ (l:List (Nat × List AV)) (b:Nat) (o:AObj),(dO l).get b=some o→∃ g ∈ l,g.1=b∧o=.cells g.2 0 false false
  | [],b,o,h=>by
    have:(PT.nil:PT AObj).get b=some o:=h
    rw [PT.get_nil] at this; cases this
  | g :: l,b,o,h=>by
    rw [dO,Heap.get_put] at h
    by_cases c:b=g.1
    · rw [if_pos c] at h; cases h; exact ⟨g,List.mem_cons_self,c.symm,rfl⟩
    · rw [if_neg c] at h
      obtain ⟨g',h1,h2⟩:=dT l b o h
      exact ⟨g',List.mem_cons_of_mem _ h1,h2⟩
def GlobIn (w:World) (ρ:Rho) (g:Nat × List AV):Prop:=g.1 < 1000∧∃ vs cells el fz,ad (E0 ρ) g.2=some vs∧w.heap[g.1]?=some (.cells cells el fz)∧∀ i,i < vs.length→cells[i]?=vs[i]?
theorem start_ok {p:Par} {ρ:Rho} {w:World} {l:List (Nat × List AV)} (h:∀ g ∈ l,GlobIn w ρ g) (hok:p.okB ρ (Base.of w)):HeapOk p (E0 ρ) (dO l) (Base.of w) w:=by
  have own:∀ b o,(dO l).get b=some o→bN o=false:=fun b o e=>by
    obtain ⟨g,_,_,rfl⟩:=dT l b o e; rfl
  refine ⟨fun b o e=>?_,fun b b' o o' c x y h1 h2 w1=>?_,fun b o c x e ow=>?_,fun b o c y hg _ s=>?_,fun b hb=>?_,fun b o c x e s=>?_,fun b hb=>by simp [E0,hb],Kept.refl _ _,(by rw [gx]; exact Nat.le_refl _),hok⟩
  · obtain ⟨g,hg,rfl,rfl⟩:=dT l b o e
    obtain ⟨hlt,vs,cells,el,fz,h1,h2,h3⟩:=h g hg
    exact ⟨g.1,0,vs,cells,el,fz,by simp [E0,hlt],h1,h2,fun i hi=>by rw [Nat.zero_add]; exact h3 i hi,fun h=>by cases h⟩
  · rw [own b o h1] at w1; cases w1
  · rw [own b o e] at ow; cases ow
  · obtain ⟨g,hg',rfl,_⟩:=dT l b _ hg
    obtain ⟨hlt,vs,cells,el,fz,h1,h2,h3⟩:=h g hg'
    simp only [E0,hlt,if_true,Option.some.injEq,Prod.mk.injEq] at s
    rw [← s.1]
    exact (Array.getElem?_eq_some_iff.1 h2).1
  · rw [gx] at hb
    simp only [E0]
    rw [if_neg (by omega)]
  · obtain ⟨g,hg',rfl,_⟩:=dT l b _ e
    obtain ⟨hlt,vs,cells,el,fz,h1,h2,h3⟩:=h g hg'
    simp only [E0,hlt,if_true,Option.some.injEq,Prod.mk.injEq] at s
    rw [← s.1]
    exact (Array.getElem?_eq_some_iff.1 h2).1
noncomputable def isTrue1 (t:T (AV × Heap)):Bool :=
  match t with
  | .ret r=>(match r.1 with
    | .bool b=>(match b with
      | .lit b=>b
      | _=>false)
    | _=>false)
  | _=>false
theorem isTrue1_some {t:T (AV × Heap)} (h:isTrue1 t=true):∃ h1,t=.ret (.bool (.lit true),h1):=by
  unfold isTrue1 at h
  split at h
  · rename_i r
    split at h
    · rename_i b hb
      split at h
      · rename_i c
        obtain ⟨v,h1⟩:=r
        simp only at hb
        subst hb
        subst h
        exact ⟨h1,rfl⟩
      · cases h
    · cases h
  · cases h
end Go.Sx
namespace Go.Sx
open Go.RowKit
noncomputable def bj (n:Nat):List (Nat × List AV)→Heap
  | []=>⟨.nil,n⟩
  | g :: l=>(bj n l).put g.1 (.cells g.2 0 false false)
theorem gy (n:Nat):∀ l,(bj n l).next=n
  | []=>rfl
  | g :: l=>by rw [bj,Heap.next_put]; exact gy n l
theorem dU (n:Nat):∀ (l:List (Nat × List AV)) (b:Nat) (o:AObj),(bj n l).get b=some o→∃ g ∈ l,g.1=b∧o=.cells g.2 0 false false
  | [],b,o,h=>by
    have:(PT.nil:PT AObj).get b=some o:=h
    rw [PT.get_nil] at this; cases this
  | g :: l,b,o,h=>by
    rw [bj,Heap.get_put] at h
    by_cases c:b=g.1
    · rw [if_pos c] at h; cases h; exact ⟨g,List.mem_cons_self,c.symm,rfl⟩
    · rw [if_neg c] at h
      obtain ⟨g',h1,h2⟩:=dU n l b o h
      exact ⟨g',List.mem_cons_of_mem _ h1,h2⟩
def ViewIn (w:World) (E:Env) (g:Nat × List AV):Prop :=
  ∃ c base vs cells el fz,E.σ g.1=some (c,base)∧ad E g.2=some vs∧w.heap[c]?=some (.cells cells el fz)∧∀ i,i < vs.length→cells[base + i]?=vs[i]?
theorem ViewIn.lt {w:World} {E:Env} {g:Nat × List AV} (h:ViewIn w E g):∃ c base,E.σ g.1=some (c,base)∧c < w.heap.size:=by
  obtain ⟨c,base,vs,cells,el,fz,h1,h2,h3,h4⟩:=h
  exact ⟨c,base,h1,(Array.getElem?_eq_some_iff.1 h3).1⟩
theorem ViewIn.of_heap {p:Par} {E:Env} {h:Heap} {w0:Base} {w:World} (HH:HeapOk p E h w0 w) {b:Nat} {cs:List AV} {e:TypeId} {own ext:Bool} (hg:h.get b=some (.cells cs e own ext)):ViewIn w E (b,cs):=by
  obtain ⟨c,base,vs,cells,el,fz,h1,h2,h3,h4,_⟩:=HH.obj b _ hg
  exact ⟨c,base,vs,cells,el,fz,h1,h2,h3,h4⟩
theorem view_ok {p:Par} {E:Env} {w:World} {n:Nat} {l:List (Nat × List AV)} (h:∀ g ∈ l,ViewIn w E g) (hf:∀ b,n≤b→E.σ b=none) (hg:∀ b,b < 1000→E.σ b=some (b,0)) (hn:E.n≤n) (hok:p.okB E.ρ (Base.of w)):HeapOk p E (bj n l) (Base.of w) w:=by
  have own:∀ b o,(bj n l).get b=some o→bN o=false:=fun b o e=>by
    obtain ⟨g,_,_,rfl⟩:=dU n l b o e; rfl
  refine ⟨fun b o e=>?_,fun b b' o o' c x y h1 h2 w1=>?_,fun b o c x e ow=>?_,fun b o c y hg _ s=>?_,fun b hb=>?_,fun b o c x e s=>?_,hg,Kept.refl _ _,(by rw [gy]; exact hn),hok⟩
  · obtain ⟨g,hg,rfl,rfl⟩:=dU n l b o e
    obtain ⟨c,base,vs,cells,el,fz,h1,h2,h3,h4⟩:=h g hg
    exact ⟨c,base,vs,cells,el,fz,h1,h2,h3,h4,fun h=>by cases h⟩
  · rw [own b o h1] at w1; cases w1
  · rw [own b o e] at ow; cases ow
  · obtain ⟨g,hg',rfl,_⟩:=dU n l b _ hg
    obtain ⟨c',base,h1,h2⟩:=(h g hg').lt
    rw [h1] at s; cases s; exact h2
  · rw [gy] at hb; exact hf b hb
  · obtain ⟨g,hg',rfl,_⟩:=dU n l b _ e
    obtain ⟨c',base,h1,h2⟩:=(h g hg').lt
    rw [h1] at s; cases s; exact h2
mutual
def cI:AV→Bool
  | .bool _=>true
  | .int _ _=>true
  | .agg cs=>pureAVs cs
  | .tup cs=>pureAVs cs
  | .nilslice=>true
  | .nilmap=>true
  | .nilFunc=>true
  | .nilptr=>true
  | .opq _=>true
  | .sliceU _=>true
  | _=>false
def pureAVs:List AV→Bool
  | []=>true
  | a :: l=>and (cI a) (pureAVs l)
end
mutual
theorem conc_pure {E E':Env} (h:E'.ρ=E.ρ):∀ (a:AV),cI a=true→af E' a=af E a
  | .bool b,_=>by simp only [af,h]
  | .int k e,_=>by simp only [af,h]
  | .agg cs,k=>by simp only [af,concL_pure h cs (by simpa [cI] using k)]
  | .tup cs,k=>by simp only [af,concL_pure h cs (by simpa [cI] using k)]
  | .nilslice,_=>rfl
  | .nilmap,_=>rfl
  | .nilFunc,_=>rfl
  | .nilptr,_=>rfl
  | .opq i,_=>by simp only [af,h]
  | .sliceU i,_=>by simp only [af,h]
  | .ptr ..,k=>by simp [cI] at k
  | .slice ..,k=>by simp [cI] at k
  | .sliceX ..,k=>by simp [cI] at k
  | .sliceV ..,k=>by simp [cI] at k
  | .ptrV ..,k=>by simp [cI] at k
  | .map _,k=>by simp [cI] at k
  | .func ..,k=>by simp [cI] at k
  | .yieldF _,k=>by simp [cI] at k
  | .bad,k=>by simp [cI] at k
theorem concL_pure {E E':Env} (h:E'.ρ=E.ρ):∀ (l:List AV),pureAVs l=true→ad E' l=ad E l
  | [],_=>rfl
  | a :: l,k=>by
    simp only [pureAVs,Bool.and_eq_true] at k
    simp only [ad,conc_pure h a k.1,concL_pure h l k.2]
end
theorem callOk_of {p : Par} {f : FuncId} {args : List AV} {h : Heap} {t : T (AV × Heap)}
    (H:∀ vs E w0 w Q,HeapOk p E h w0 w→ad E args=some vs→t.Holds E.ρ Q →
      (callFunc f vs.toArray).run p.P w=.ok (.enter f vs.toArray) w∧Calls p.P f vs.toArray w fun e w'=>∃ v cv,e=.returned cv∧Q (v,h)∧af E v=some cv∧Below w.heap.size w w'):CallOk p f args h t:=by
  intro vs E w0 w Q K k HH ha P
  obtain ⟨h1,h2⟩:=H vs E w0 w Q HH ha k
  refine ⟨h1,h2.mono ?_⟩
  rintro e w' ⟨v,cv,rfl,q,hv,hb⟩
  exact ⟨cv,rfl,P v h E w' cv q (Env.le.refl E) (HH.world hb) hv⟩
noncomputable def treeOf:List (Nat × AV)→PT AV
  | []=>.nil
  | g :: l=>(treeOf l).set g.1 g.2
theorem treeOf_get:∀ (l:List (Nat × AV)) (b:Nat) (o:AV),(treeOf l).get b=some o→(b,o) ∈ l
  | [],b,o,h=>by rw [treeOf,PT.get_nil] at h; cases h
  | g :: l,b,o,h=>by
    rw [treeOf,PT.get_set] at h
    by_cases c:b=g.1
    · rw [if_pos c] at h; cases h; subst c; exact List.mem_cons_self
    · rw [if_neg c] at h
      exact List.mem_cons_of_mem _ (treeOf_get l b o h)
theorem BE.t_lss {ρ:Rho} {a b:IE}:(BE.cmp .lss a b).den ρ=true ↔ a.den ρ < b.den ρ:=by simp [BE.den,aS]
theorem BE.t_leq {ρ:Rho} {a b:IE}:(BE.cmp .leq a b).den ρ=true ↔ a.den ρ≤b.den ρ:=by simp [BE.den,aS]
theorem BE.t_gtr {ρ:Rho} {a b:IE}:(BE.cmp .gtr a b).den ρ=true ↔ b.den ρ < a.den ρ:=by simp [BE.den,aS]
theorem BE.t_eql {ρ:Rho} {a b:IE}:(BE.cmp .eql a b).den ρ=true ↔ a.den ρ=b.den ρ:=by simp [BE.den,aS]
theorem BE.t_not {ρ:Rho} {a:BE}:(BE.not a).den ρ=true ↔ ¬ a.den ρ=true:=by simp [BE.den]
theorem mxden (a b:Int):(if b > a then b else a)=max a b:=by
  rcases Int.lt_or_le a b with h | h
  · rw [if_pos h]; omega
  · rw [if_neg (by omega)]; omega
theorem IE.den_mx {ρ:Rho} {a b:IE}:(IE.mx a b).den ρ=max (a.den ρ) (b.den ρ):=mxden (a.den ρ) (b.den ρ)
theorem IE.den_lit {ρ:Rho} {n:Int}:(IE.lit n).den ρ=n:=rfl
theorem IE.den_var {ρ:Rho} {n:Nat}:(IE.var n).den ρ=ρ.iv n:=rfl
end Go.Sx
namespace Go.Sx
open Go.RowKit
noncomputable def globsIn (h:Heap):List (Nat × List AV)→Bool
  | []=>true
  | g :: l=>(match h.cells g.1 with
    | some c=>cond (dg c g.2) (globsIn h l) false
    | none=>false)
noncomputable def gR (l:List (Nat × List AV)) (args:List AV) (h:Heap):Option (T (AV × Heap)) :=
  match args with
  | []=>cond (globsIn h l) (some (.ret (.bool (.lit true),h))) none
  | _=>none
noncomputable def fG:AV→Bool
  | .int _ (.lit _)=>true
  | .bool (.lit _)=>true
  | _=>false
theorem litVal_conc {E E':Env} {a:AV} (h:fG a=true):af E a=af E' a:=by
  unfold fG at h
  split at h
  · simp only [af,IE.den]
  · simp only [af,BE.den]
  · cases h
theorem gS {E E':Env}:∀ {l:List AV},bz fG l=true→ad E l=ad E' l
  | [],_=>rfl
  | a :: l,h=>by
    have h:cond (fG a) (bz fG l) false=true:=h
    cases ha:fG a with
    | false=>rw [ha] at h; cases h
    | true=>rw [ha] at h; simp only [ad,litVal_conc (E:=E) (E':=E') ha,gS (E:=E) (E':=E') h]
theorem cells_get' {h:Heap} {b:Nat} {cs:List AV} (e:h.cells b=some cs):∃ el own ext,h.get b=some (.cells cs el own ext):=by
  unfold Heap.cells at e
  split at e
  · rename_i c el own ext hh; cases e; exact ⟨el,own,ext,hh⟩
  · cases e
theorem globsIn_ok {p:Par} {E:Env} {h:Heap} {w0:Base} {w:World} (HH:HeapOk p E h w0 w):∀ (l:List (Nat × List AV)),globsIn h l=true→bz (fun g:Nat × List AV=>and (Nat.ble (g.1 + 1) 1000) (bz fG g.2)) l=true→∀ g ∈ l,GlobIn w E.ρ g
  | [],_,_,g,hg=>by cases hg
  | q :: l,h1,h2,g,hg=>by
    have h2:cond (and (Nat.ble (q.1 + 1) 1000) (bz fG q.2)) (bz (fun g:Nat × List AV=>and (Nat.ble (g.1 + 1) 1000) (bz fG g.2)) l) false=true:=h2
    cases hc:and (Nat.ble (q.1 + 1) 1000) (bz fG q.2) with
    | false=>rw [hc] at h2; cases h2
    | true =>
      rw [hc,cond_true] at h2
      simp only [globsIn] at h1
      split at h1
      · rename_i c hcells
        cases he:dg c q.2 with
        | false=>rw [he] at h1; cases h1
        | true =>
          rw [he,cond_true] at h1
          rcases List.mem_cons.1 hg with rfl | hg
          · simp only [Bool.and_eq_true] at hc
            have hlt:=aD.1 hc.1
            obtain ⟨el,own,ext,g0⟩:=cells_get' hcells
            have v0:=ViewIn.of_heap HH g0
            rw [aZ _ _ he] at v0
            obtain ⟨b,base,us,cells,el,fz,q1,q2,q3,q4⟩:=v0
            rw [HH.glob g.1 (by omega)] at q1; cases q1
            exact ⟨by omega,us,cells,el,fz,by rw [← q2]; exact gS hc.2,q3,fun i hi=>by have:=q4 i hi; simpa using this⟩
          · exact globsIn_ok HH l h1 h2 g hg
      · cases h1
theorem closedOrc_ok {p : Par} {ty : Nat → Option TI} {tb : hI} (B : b8 p ty tb) {d : Nat} {f : FuncId} {l : List (Nat × List AV)} (hrun : isTrue1 (b7 tb d false f [] (dO l)) = true)
    (hl:bz (fun g:Nat × List AV=>and (Nat.ble (g.1 + 1) 1000) (bz fG g.2)) l=true) {args:List AV} {h:Heap} {t:T (AV × Heap)} (ho:gR l args h=some t):CallOk p f args h t:=by
  unfold gR at ho
  split at ho
  · cases hc:globsIn h l with
    | false=>rw [hc] at ho; cases ho
    | true =>
      rw [hc] at ho
      cases ho
      refine callOk_of fun vs E w0 w Q HH ha k=>?_
      have hg:=globsIn_ok HH l hc hl
      simp only [ad,Option.some.injEq] at ha
      subst ha
      obtain ⟨h1,hr⟩:=isTrue1_some hrun
      have key:=bL B d f [] (dO l) [] (E0 E.ρ) (Base.of w) w (fun r=>r=(.bool (.lit true),h1)) (fun cv w'=>cv=.bool true∧Below w.heap.size w w') (by rw [hr]; rfl) (start_ok hg (HH.ok.of HH.below)) rfl ?_
      · refine ⟨key.1,key.2.mono ?_⟩
        rintro e w' ⟨cv,rfl,rfl,hb⟩
        exact ⟨.bool (.lit true),_,rfl,k,rfl,hb⟩
      · intro v h' E' w' cv q hle HH' hv
        cases q
        simp only [af,BE.den,Option.some.injEq] at hv
        exact ⟨hv.symm,Base.keeps_below HH'.below⟩
  · cases ho
end Go.Sx
namespace Go.Sx
open Go.RowKit
theorem lAll_mem' {α:Type} {p:α→Bool}:∀ {l:List α},bz p l=true→∀ a ∈ l,p a=true
  | [],_,a,ha=>by cases ha
  | x :: l,h,a,ha=>by
    have h:cond (p x) (bz p l) false=true:=h
    cases hx:p x with
    | false=>rw [hx] at h; cases h
    | true =>
      rw [hx] at h
      rcases List.mem_cons.1 ha with rfl | ha
      · exact hx
      · exact lAll_mem' h a ha
theorem glob_view {w:World} {ρ:Rho} {l:List (Nat × List AV)} (hl:bz (fun g:Nat × List AV=>and (Nat.ble (g.1 + 1) 1000) (bz fG g.2)) l=true) (h:∀ g ∈ l,GlobIn w ρ g) {E:Env} (hg:∀ b,b < 1000→E.σ b=some (b,0)):∀ g ∈ l,ViewIn w E g:=by
  intro g hgl
  obtain ⟨h1,vs,cells,el,fz,h2,h3,h4⟩:=h g hgl
  have h5:=lAll_mem' hl g hgl
  simp only [Bool.and_eq_true] at h5
  exact ⟨g.1,0,vs,cells,el,fz,hg _ h1,by rw [← h2]; exact gS h5.2,h3,fun i hi=>by rw [Nat.zero_add]; exact h4 i hi⟩
end Go.Sx
namespace Go.Sx
open Go.RowKit
def flatB (P:Program):Nat→TypeId→Bool
  | 0,_=>false
  | n + 1,t=>match P.underlying t with
    | some (.int .i64)=>true
    | some (.struct fs)=>flatF P (flatB P n) fs.toList 0 (P.cellsOf t)
    | some (.array k e)=>and (flatB P n e) (Nat.beq (k * P.cellsOf e) (P.cellsOf t))
    | _=>false
where
  flatF (P:Program) (g:TypeId→Bool):List Field→Nat→Nat→Bool
    | [],off,tot=>Nat.beq off tot
    | f :: fs,off,tot=>and (and (Nat.beq f.offset off) (g f.type)) (flatF P g fs (off + P.cellsOf f.type) tot)
mutual
def leavesD {H:Type}:DataW H→List Value
  | .lit (.int k n)=>[.int k n]
  | .agg xs=>hZ xs
  | _=>[]
def hZ {H:Type}:List (DataW H)→List Value
  | []=>[]
  | x :: xs=>leavesD x ++ hZ xs
end
section
variable {H:Type} {enc:TypeId × Value→H} {P:Program} {w:World} {base:Nat} {spare:Nat→Bool} {held:Bool}
theorem flat_fields {g : TypeId → Bool} {m : Nat} (hg : ∀ t cs x, g t = true → DataW.trod enc P w base spare held m t cs = some x → cs = leavesD x.1 ∧ x.2 = [] ∧ (∀ v ∈ cs, ∃ n, v = .int .i64 n)) {cs : List Value} :
    ∀ (fs:List Field) (xs:List (DataW H × List MemPlace)) (off:Nat),xs.length=fs.length→flatB.flatF P g fs off cs.length=true→(∀ (i:Nat) (f:Field),fs[i]?=some f→DataW.trod enc P w base spare held m f.type ((cs.drop f.offset).take (P.cellsOf f.type))=xs[i]?) →
      cs.drop off=hZ (xs.map (·.1))∧xs.flatMap (·.2)=[]∧(∀ v ∈ cs.drop off,∃ n,v=.int .i64 n)
  | [],xs,off,hl,hf,_=>by
    cases xs with
    | cons x xs=>simp at hl
    | nil =>
      have:off=cs.length:=aq.1 hf
      subst this
      simp [hZ]
  | f :: fs,[],off,hl,_,_=>by simp at hl
  | f :: fs,x :: xs,off,hl,hf,hx=>by
    simp only [flatB.flatF,Bool.and_eq_true] at hf
    obtain ⟨⟨h1,h2⟩,h3⟩:=hf
    have h1:=aq.1 h1
    have hx0:=hx 0 f rfl
    simp only [List.getElem?_cons_zero] at hx0
    rw [h1] at hx0
    obtain ⟨g1,g2,g3⟩:=hg f.type _ x h2 hx0
    obtain ⟨r1,r2,r3⟩:=flat_fields hg fs xs (off + P.cellsOf f.type) (by simpa using hl) h3 (fun i f' hf'=>by simpa using hx (i + 1) f' (by simpa using hf'))
    have split:cs.drop off=(cs.drop off).take (P.cellsOf f.type) ++ cs.drop (off + P.cellsOf f.type):=by
      rw [← List.drop_drop,List.take_append_drop]
    refine ⟨?_,by simp [g2,r2],fun v hv=>?_⟩
    · rw [split,r1]
      simp only [List.map_cons,hZ]
      rw [← g1]
    · rw [split] at hv
      rcases List.mem_append.1 hv with hv | hv
      · exact g3 v hv
      · exact r3 v hv
theorem flat_array {m k e : Nat} {cs : List Value} (hg : ∀ cs x, DataW.trod enc P w base spare held m e cs = some x → cs = leavesD x.1 ∧ x.2 = [] ∧ (∀ v ∈ cs, ∃ n, v = .int .i64 n)) :
    ∀ (r:Nat) (xs:List (DataW H × List MemPlace)),xs.length=r→r≤k→cs.length=k * P.cellsOf e→(∀ i,i < r→DataW.trod enc P w base spare held m e ((cs.drop ((k - r + i) * P.cellsOf e)).take (P.cellsOf e))=xs[i]?) →
      cs.drop ((k - r) * P.cellsOf e)=hZ (xs.map (·.1))∧xs.flatMap (·.2)=[]∧(∀ v ∈ cs.drop ((k - r) * P.cellsOf e),∃ n,v=.int .i64 n)
  | 0,xs,hl,_,hc,_=>by
    cases xs with
    | cons x xs=>simp at hl
    | nil=>rw [Nat.sub_zero,List.drop_eq_nil_of_le (by omega)]; simp [hZ]
  | r + 1,[],hl,_,_,_=>by simp at hl
  | r + 1,x :: xs,hl,hr,hc,hx=>by
    have hx0:=hx 0 (by omega)
    simp only [List.getElem?_cons_zero,Nat.add_zero] at hx0
    obtain ⟨g1,g2,g3⟩:=hg _ x hx0
    obtain ⟨r1,r2,r3⟩:=flat_array hg r xs (by simpa using hl) (by omega) hc (fun i hi=>by
      have:=hx (i + 1) (by omega)
      rw [show k - (r + 1) + (i + 1)=k - r + i by omega] at this
      simpa using this)
    have e1:(k - (r + 1)) * P.cellsOf e + P.cellsOf e=(k - r) * P.cellsOf e:=by
      rw [show k - r=(k - (r + 1)) + 1 by omega,Nat.add_mul,Nat.one_mul]
    have split:cs.drop ((k - (r + 1)) * P.cellsOf e)=(cs.drop ((k - (r + 1)) * P.cellsOf e)).take (P.cellsOf e) ++ cs.drop ((k - r) * P.cellsOf e):=by
      rw [← e1,← List.drop_drop,List.take_append_drop]
    refine ⟨?_,by simp [g2,r2],fun v hv=>?_⟩
    · rw [split,r1]
      simp only [List.map_cons,hZ]
      rw [← g1]
    · rw [split] at hv
      rcases List.mem_append.1 hv with hv | hv
      · exact g3 v hv
      · exact r3 v hv
theorem flat_trod:∀ (n:Nat) (t:TypeId) (fuel:Nat) (cs:List Value) (x:DataW H × List MemPlace),flatB P n t=true→DataW.trod enc P w base spare held fuel t cs=some x→cs=leavesD x.1∧x.2=[]∧(∀ v ∈ cs,∃ n,v=.int .i64 n)
  | 0,t,fuel,cs,x,h,_=>by cases h
  | n + 1,t,fuel,cs,x,h,k=>by
    unfold flatB at h
    split at h
    · rename_i hu
      obtain ⟨z,rfl,rfl,_⟩:=DataW.trod_int hu k
      exact ⟨rfl,rfl,fun v hv=>⟨z,List.mem_singleton.1 hv⟩⟩
    · rename_i fs hu
      obtain ⟨xs,m,rfl,rfl,hl,hxl,hx⟩:=DataW.trod_struct hu k
      rw [← hl] at h
      obtain ⟨r1,r2,r3⟩:=flat_fields (m:=m) (g:=flatB P n) (fun t cs x h k=>flat_trod n t m cs x h k) fs.toList xs 0 (by simpa using hxl) h (fun i f hf=>hx i f (by simpa using hf))
      exact ⟨by simpa [leavesD] using r1,r2,by simpa using r3⟩
    · rename_i k' e hu
      rw [Bool.and_eq_true] at h
      obtain ⟨xs,m,rfl,rfl,hl,hxl,hx⟩:=DataW.trod_array hu k
      have hc:=aq.1 h.2
      obtain ⟨r1,r2,r3⟩:=flat_array (m:=m) (k:=k') (e:=e) (fun cs x k=>flat_trod n e m cs x h.1 k) k' xs hxl (Nat.le_refl _) (by rw [hl,hc]) (fun i hi=>by rw [Nat.sub_self,Nat.zero_add]; exact hx i hi)
      rw [Nat.sub_self,Nat.zero_mul] at r1 r3
      exact ⟨by simpa [leavesD] using r1,r2,by simpa using r3⟩
    · cases h
end
theorem okCell_int {P:Program} {w:World} {r:Reach} {base:Nat} {u:TypeId} {v:Value} (hu:P.underlying u=some (.int .i64)) (h:Cell.okWide P w r base u v):∃ n,v=.int .i64 n:=by
  unfold Cell.okWide at h
  rw [hu] at h
  have h':Cell.ok P w r base u v:=by
    revert h
    cases v <;> exact fun h=>h
  unfold Cell.ok at h'
  rw [hu] at h'
  split at h' <;> simp_all
theorem okCell_slice {P : Program} {w : World} {r : Reach} {base : Nat} {u e : TypeId} {v : Value} (hu : P.underlying u = some (.slice e)) (h : Cell.okWide P w r base u v) :
    v=.slice none 0 0 ∨ ∃ b o len cap,v=.slice (some ⟨b,o,none⟩) len cap∧len≤cap:=by
  unfold Cell.okWide at h
  rw [hu] at h
  have h':Cell.ok P w r base u v:=by
    revert h
    cases v <;> exact fun h=>h
  clear h
  unfold Cell.ok at h'
  rw [hu] at h'
  cases v with
  | slice a len cap =>
    cases a with
    | none =>
      cases len with
      | zero=>cases cap with
        | zero=>exact .inl rfl
        | succ c=>exact h'.elim
      | succ l=>exact h'.elim
    | some a =>
      obtain ⟨h1,_,_,h4,_⟩:=h'
      refine .inr ⟨a.block,a.off,len,cap,?_,h1⟩
      cases a
      simp_all
  | _=>exact h'.elim
theorem okRow {P : Program} {w : World} {r : Reach} {base : Nat} {t : TypeId} {v : Value} {ts : List TypeId} (hagg : (match P.underlying t with | some (.struct _) => true | some (.array _ _) => true | _ => false) = true) (hts : P.cellTypes P.depth t = some ts) (hlen : ts.length = P.cellsOf t)
    (h:Value.okWide P w r base t v):∃ cs:List Value,v=.agg cs.toArray∧cs.length=ts.length∧∀ (i:Nat) (u:TypeId) (x:Value),ts[i]?=some u→cs[i]?=some x→Cell.okWide P w r base u x:=by
  have h':∃ cs,v=.agg cs∧cs.size=P.cellsOf t∧Row.okWide P w r base t cs:=by
    unfold Value.okWide at h
    split at h
    · exact h
    · exact h
    · rename_i h1 h2
      exfalso
      split at hagg
      · rename_i fs hu; exact h1 fs hu
      · rename_i n e hu; exact h2 n e hu
      · cases hagg
  obtain ⟨cs,rfl,hsz,ts',hts',_,hc⟩:=h'
  rw [hts] at hts'
  cases hts'
  refine ⟨cs.toList,rfl,by simp [hsz,hlen],fun i u x hu hx=>?_⟩
  have hi:i < ts.length:=(List.getElem?_eq_some_iff.1 hu).1
  obtain ⟨u',h1,h2⟩:=hc i x (by simpa using hx)
  rw [Nat.mod_eq_of_lt hi,hu] at h1
  cases h1
  exact h2
end Go.Sx
namespace Go.Sx
open Go.RowKit
noncomputable def dw (lc:C) (ty:Nat→Option TI) (n:Nat) (keep:List Nat) (fid:FuncId):Code→Option C
  | .skip=>some aM
  | .label _=>some aM
  | .region _ ops draw=>cond draw (cDraw ty n keep ops.toList) ((gT ty n keep ops.toList ops.toList).map al)
  | .seq a b=>match dw lc ty n keep fid a,dw lc ty n keep fid b with
    | some a,some b=>some (ae a b)
    | _,_=>none
  | .cond c a b=>match bk c,dw lc ty n keep fid a,dw lc ty n keep fid b with
    | some c,some a,some b=>some (aO c a b)
    | _,_,_=>none
  | .block id a=>(dw lc ty n keep fid a).map (aL id)
  | .loop _=>some lc
  | .scope a=>dw lc ty n keep fid a
  | .exit id=>some (dE id)
  | .ret=>some bg
  | _=>none
def fx (p:Par) (n:Nat) (keep:List Nat) (lc:C):Code→Prop
  | .seq a b=>fx p n keep lc a∧fx p n keep lc b
  | .cond _ a b=>fx p n keep lc a∧fx p n keep lc b
  | .block _ a=>fx p n keep lc a
  | .loop a=>COk p n keep lc (.loop a)
  | .scope a=>fx p n keep lc a
  | _=>True
def bd:Code→List Code
  | .seq a b=>bd a ++ bd b
  | .cond _ a b=>bd a ++ bd b
  | .block _ a=>bd a
  | .loop a=>[a]
  | .scope a=>bd a
  | _=>[]
theorem loopsOk_of {p:Par} {n:Nat} {keep:List Nat} {lc:C}:∀ (c:Code),(∀ a ∈ bd c,COk p n keep lc (.loop a))→fx p n keep lc c:=by
  intro c
  induction c with
  | seq a b iha ihb=>exact fun h=>⟨iha fun x hx=>h x (by simp [bd,hx]),ihb fun x hx=>h x (by simp [bd,hx])⟩
  | cond c a b iha ihb=>exact fun h=>⟨iha fun x hx=>h x (by simp [bd,hx]),ihb fun x hx=>h x (by simp [bd,hx])⟩
  | block id a ih=>exact fun h=>ih fun x hx=>h x (by simpa [bd] using hx)
  | loop a=>exact fun h=>h a (by simp [bd])
  | scope a ih=>exact fun h=>ih fun x hx=>h x (by simpa [bd] using hx)
  | _=>exact fun _=>trivial
theorem cCodeX_ok {p : Par} {ty : Nat → Option TI} (TT : ct p.P ty) (hm : p.P.follows .mixedOrders = true) {lc : C} {n : Nat} {keep : List Nat} {fid : FuncId} :
    ∀ (c:Code) (f:C),dw lc ty n keep fid c=some f→fx p n keep lc c→COk p n keep f c:=by
  intro c
  induction c with
  | skip=>intro f h _; simp only [dw,Option.some.injEq] at h; subst h; exact skip_ok
  | label l=>intro f h _; simp only [dw,Option.some.injEq] at h; subst h; exact label_ok
  | region id ops draw =>
    intro f h _
    simp only [dw] at h
    cases draw with
    | true=>exact draw_ok TT hm h
    | false =>
      simp only [cond_false,Option.map_eq_some_iff] at h
      obtain ⟨cs,hcs,rfl⟩:=h
      exact cOps_ok TT hcs
  | seq a b iha ihb =>
    intro f h R
    simp only [dw] at h
    split at h
    · rename_i x y hx hy; cases h; exact seq_ok (iha x hx R.1) (ihb y hy R.2)
    · cases h
  | cond c a b iha ihb =>
    intro f h R
    simp only [dw] at h
    split at h
    · rename_i y x z hy hx hz; cases h; exact cond_ok hy (iha x hx R.1) (ihb z hz R.2)
    · cases h
  | block id a ih =>
    intro f h R
    simp only [dw,Option.map_eq_some_iff] at h
    obtain ⟨x,hx,rfl⟩:=h
    exact block_ok (ih x hx R)
  | loop a ih =>
    intro f h R
    simp only [dw,Option.some.injEq] at h
    subst h
    exact R
  | scope a ih=>exact fun f h R=>scope_ok (ih f h R)
  | exit id=>intro f h _; simp only [dw,Option.some.injEq] at h; subst h; exact exit_ok
  | ret=>intro f h _; simp only [dw,Option.some.injEq] at h; subst h; exact ret_ok
  | _=>intro f h _; simp only [dw] at h; cases h
theorem bodyOf_ok {p : Par} {ty : Nat → Option TI} (TT : ct p.P ty) {cx : Cx} (CX : CxOk p cx) {f : FuncId} {fn : Func} {c : Code} {keep : List Nat} {g : C} {rs : List RV} (hfn : p.P.funcs[f]? = some fn) (hb : fn.body = some c)
    (hname:(fn.name == "runtime.NumGoroutine")=false) (hg:COk p fn.ntmps keep g c) (hrs:cRes ty fn.results.toList=some rs) (hkeep:((List.range (fn.params.size + fn.nfree)).all fun i=>memN keep (some i))=true)
    {args:List AV} {h:Heap} (hlen:args.length≤fn.params.size + fn.nfree) :
    CallOk p f args h ((g cx ⟨f,none⟩ ⟨⟨[],tmOf args 0 .nil⟩,[],h⟩).bind (finish ⟨fn.params.size + fn.nfree,g,rs⟩)):=by
  intro vs E w0 w Q K k HH ha P
  refine ⟨run_callFunc hfn hb hname _ w,?_⟩
  rw [T.holds_bind] at k
  refine callsIn_wide.1 (callsIn_of_wp_marks (F:=Fence.wide) (n:=0) hfn hb trivial ?_)
  refine hg cx CX ⟨f,none⟩ none E w0 w ⟨⟨[],tmOf args 0 .nil⟩,[],h⟩ _ _ _ trivial ⟨args_ok ha hkeep hlen,trivial,HH⟩ k ?_
  intro x s' E' w' a' q hle S'
  have fin:(finish ⟨fn.params.size + fn.nfree,g,rs⟩ (x,s')).Holds E'.ρ Q:=by rw [hle.ρ]; exact q
  have go : ((undefer s'.df s'.h).bind fun h2 => match dh s'.tm h2 rs with
      | some vs=>T.ret (one vs,h2)
      | none=>.fail 64).Holds E'.ρ Q→LeavesInM Fence.wide 0 p.P fn a'.tmps (fun e w'=>∃ v,e=.returned v∧K v w') a'.defers .returning w':=fun kk=>by
    rw [T.holds_bind] at kk
    refine undefer_ok s'.df a'.defers s'.h w' S'.df S'.hp kk ?_
    intro h2 w2 q2 HH2
    cases hres:dh s'.tm h2 rs with
    | none=>rw [hres] at q2; exact q2.elim
    | some vs' =>
      rw [hres] at q2
      obtain ⟨v,hv1,hv2⟩:=run_results TT S'.tm HH2 hrs hres
      exact ⟨v,hv2,v,rfl,P _ _ E' w2 v q2 hle HH2 hv1⟩
  cases x with
  | norm=>exact go fin
  | ret=>exact go fin
  | exit id=>exact fin.elim
end Go.Sx
namespace Go.Sx
open Go.RowKit
theorem eqFn_eq {a b:Fn} (h:eqFn a b=true):a=b:=by
  cases a <;> cases b <;> simp only [eqFn] at h <;> first | (cases h; done) | skip
  rw [aq.1 h]
structure Rel (n:Nat) (E ES:Env) (r:Ren):Prop where
  ρ:ES.ρ=E.ρ
  lo:∀ b,b < 1000→ES.σ b=E.σ b∧ES.κ b=E.κ b
  at_:∀ b c,1000≤b→b < n→aA r b=some c→ES.σ b=E.σ c∧ES.κ b=E.κ c
def SubR (n:Nat) (r r':Ren):Prop:=∀ b c,1000≤b→b < n→aA r b=some c→aA r' b=some c
theorem SubR.refl (n:Nat) (r:Ren):SubR n r r:=fun _ _ _ _ h=>h
theorem SubR.trans {n:Nat} {r s t:Ren} (h:SubR n r s) (k:SubR n s t):SubR n r t:=fun b c h1 h2 e=>k b c h1 h2 (h b c h1 h2 e)
theorem Rel.sub {n:Nat} {E ES:Env} {r r':Ren} (h:Rel n E ES r') (k:SubR n r r'):Rel n E ES r:=⟨h.ρ,h.lo,fun b c h1 h2 e=>h.at_ b c h1 h2 (k b c h1 h2 e)⟩
theorem bindR_ok {n b b' : Nat} {r r' : Ren} (h : bindR n b b' r = some r') :
    SubR n r r'∧∀ E ES,Rel n E ES r'→ES.σ b=E.σ b'∧ES.κ b=E.κ b':=by
  unfold bindR at h
  cases h1:Nat.ble (Nat.succ b) 1000 with
  | true =>
    rw [h1,cond_true] at h
    cases h2:Nat.beq b b' with
    | false=>rw [h2] at h; cases h
    | true =>
      rw [h2] at h; cases h
      have e:=aq.1 h2
      subst e
      exact ⟨SubR.refl _ _,fun E ES R=>R.lo b (aD.1 h1)⟩
  | false =>
    rw [h1,cond_false] at h
    have hb:1000≤b:=by
      rcases Nat.lt_or_ge b 1000 with k | k
      · have:=aD.2 k; rw [h1] at this; cases this
      · exact k
    cases h3:Nat.ble (Nat.succ b) n with
    | false=>rw [h3] at h; cases h
    | true =>
      rw [h3,cond_true] at h
      have hn:b < n:=aD.1 h3
      cases h2:aA r b with
      | some c =>
        rw [h2] at h
        simp only at h
        cases h4:Nat.beq c b' with
        | false=>rw [h4] at h; cases h
        | true =>
          rw [h4] at h; cases h
          have e:=aq.1 h4
          subst e
          exact ⟨SubR.refl _ _,fun E ES R=>R.at_ b c hb hn h2⟩
      | none =>
        rw [h2] at h
        simp only at h
        cases h
        refine ⟨fun i c _ _ e=>?_,fun E ES R=>R.at_ b b' hb hn (by rw [aN,aq.2 rfl]; rfl)⟩
        rw [aN]
        cases hi:Nat.beq b i with
        | true=>have:=aq.1 hi; subst this; rw [h2] at e; cases e
        | false=>exact e
theorem ak {α:Type} {c:Bool} {x:Option α} {y:α} (h:cond c x none=some y):c=true∧x=some y:=by
  cases c with
  | true=>exact ⟨rfl,h⟩
  | false=>cases h
mutual
theorem mtV_ok {n:Nat}:∀ (a a':AV) (r r':Ren),mtV n a a' r=some r'→SubR n r r'∧∀ E ES,Rel n E ES r'→af ES a=af E a'
  | .ptr b o,a',r,r',h=>by
    cases a' <;> simp only [mtV] at h <;> first | (cases h; done) | skip
    obtain ⟨h1,h2⟩:=ak h
    have:=aq.1 h1; subst this
    obtain ⟨q1,q2⟩:=bindR_ok h2
    exact ⟨q1,fun E ES R=>by simp only [af,(q2 E ES R).1]⟩
  | .slice b o l c,a',r,r',h=>by
    cases a' <;> simp only [mtV] at h <;> first | (cases h; done) | skip
    obtain ⟨h1,h2⟩:=ak h
    simp only [Bool.and_eq_true] at h1
    have e1:=aq.1 h1.1; have e2:=aq.1 h1.2.1; have e3:=aq.1 h1.2.2; subst e1; subst e2; subst e3
    obtain ⟨q1,q2⟩:=bindR_ok h2
    exact ⟨q1,fun E ES R=>by simp only [af,(q2 E ES R).1]⟩
  | .sliceX b o l c,a',r,r',h=>by
    cases a' <;> simp only [mtV] at h <;> first | (cases h; done) | skip
    obtain ⟨h1,h2⟩:=ak h
    simp only [Bool.and_eq_true] at h1
    have e1:=aq.1 h1.1; have e2:=aq.1 h1.2.1; have e3:=aq.1 h1.2.2; subst e1; subst e2; subst e3
    obtain ⟨q1,q2⟩:=bindR_ok h2
    exact ⟨q1,fun E ES R=>by simp only [af,(q2 E ES R).1,(q2 E ES R).2]⟩
  | .agg x,a',r,r',h=>by
    cases a' <;> simp only [mtV] at h <;> first | (cases h; done) | skip
    obtain ⟨q1,q2⟩:=mtL_ok x _ r r' h
    exact ⟨q1,fun E ES R=>by simp only [af,q2 E ES R]⟩
  | .tup x,a',r,r',h=>by
    cases a' <;> simp only [mtV] at h <;> first | (cases h; done) | skip
    obtain ⟨q1,q2⟩:=mtL_ok x _ r r' h
    exact ⟨q1,fun E ES R=>by simp only [af,q2 E ES R]⟩
  | .func fn x y,a',r,r',h=>by
    cases a' <;> simp only [mtV] at h <;> first | (cases h; done) | skip
    rename_i fn' x' y'
    obtain ⟨h1,h2⟩:=ak h
    have e1:=eqFn_eq h1; subst e1
    cases h3:mtL n x x' r with
    | none=>rw [h3] at h2; cases h2
    | some r1 =>
      rw [h3] at h2
      obtain ⟨q1,q2⟩:=mtL_ok x _ r r1 h3
      obtain ⟨q3,q4⟩:=mtL_ok y _ r1 r' h2
      exact ⟨q1.trans q3,fun E ES R=>by simp only [af,q2 E ES (R.sub q3),q4 E ES R]⟩
  | .bool b,a',r,r',h=>by
    cases a' <;> simp only [mtV] at h <;> first | (cases h; done) | skip
    obtain ⟨h1,h2⟩:=ak h
    cases h2
    have:=dr _ _ h1; subst this
    exact ⟨SubR.refl _ _,fun E ES R=>by simp only [af,R.ρ]⟩
  | .int k e,a',r,r',h=>by
    cases a' <;> simp only [mtV] at h <;> first | (cases h; done) | skip
    obtain ⟨h1,h2⟩:=ak h
    cases h2
    simp only [Bool.and_eq_true] at h1
    have e1:=cm h1.1; have e2:=bu _ _ h1.2; subst e1; subst e2
    exact ⟨SubR.refl _ _,fun E ES R=>by simp only [af,R.ρ]⟩
  | .nilptr,a',r,r',h=>by
    cases a' <;> simp only [mtV] at h <;> first | (cases h; done) | skip
    cases h; exact ⟨SubR.refl _ _,fun E ES R=>rfl⟩
  | .nilslice,a',r,r',h=>by
    cases a' <;> simp only [mtV] at h <;> first | (cases h; done) | skip
    cases h; exact ⟨SubR.refl _ _,fun E ES R=>rfl⟩
  | .nilmap,a',r,r',h=>by
    cases a' <;> simp only [mtV] at h <;> first | (cases h; done) | skip
    cases h; exact ⟨SubR.refl _ _,fun E ES R=>rfl⟩
  | .nilFunc,a',r,r',h=>by
    cases a' <;> simp only [mtV] at h <;> first | (cases h; done) | skip
    cases h; exact ⟨SubR.refl _ _,fun E ES R=>rfl⟩
  | .map b,a',r,r',h=>by
    cases a' <;> simp only [mtV] at h <;> first | (cases h; done) | skip
    obtain ⟨q1,q2⟩:=bindR_ok h
    exact ⟨q1,fun E ES R=>by simp only [af,(q2 E ES R).1]⟩
  | .yieldF b,a',r,r',h=>by cases a' <;> simp only [mtV] at h <;> cases h
  | .opq b,a',r,r',h=>by cases a' <;> simp only [mtV] at h <;> cases h
  | .sliceU b,a',r,r',h=>by
    cases a' <;> simp only [mtV] at h <;> first | (cases h; done) | skip
    obtain ⟨h1,h2⟩:=ak h
    cases h2
    have:=aq.1 h1; subst this
    exact ⟨SubR.refl _ _,fun E ES R=>by simp only [af,R.ρ]⟩
  | .sliceV _ _,a',r,r',h=>by cases a' <;> simp only [mtV] at h <;> cases h
  | .ptrV _ _ _ _ _,a',r,r',h=>by cases a' <;> simp only [mtV] at h <;> cases h
  | .bad,a',r,r',h=>by cases a' <;> simp only [mtV] at h <;> cases h
theorem mtL_ok {n:Nat}:∀ (l l':List AV) (r r':Ren),mtL n l l' r=some r'→SubR n r r'∧∀ E ES,Rel n E ES r'→ad ES l=ad E l'
  | [],l',r,r',h=>by
    cases l' <;> simp only [mtL] at h
    · cases h; exact ⟨SubR.refl _ _,fun E ES R=>rfl⟩
    · cases h
  | a :: l,l',r,r',h=>by
    cases l' with
    | nil=>simp only [mtL] at h; cases h
    | cons b m =>
      simp only [mtL] at h
      cases h3:mtV n a b r with
      | none=>rw [h3] at h; cases h
      | some r1 =>
        rw [h3] at h
        obtain ⟨q1,q2⟩:=mtV_ok a b r r1 h3
        obtain ⟨q3,q4⟩:=mtL_ok l m r1 r' h
        exact ⟨q1.trans q3,fun E ES R=>by simp only [ad,q2 E ES (R.sub q3),q4 E ES R]⟩
end
theorem mtE_ok {n:Nat}:∀ (l l':List (AV × AV × Nat)) (r r':Ren),mtE n l l' r=some r'→SubR n r r'∧∀ E ES,Rel n E ES r'→∀ ms,bG E l' ms→bG ES l ms
  | [],[],r,r',h=>by simp only [mtE,Option.some.injEq] at h; subst h; exact ⟨SubR.refl _ _,fun E ES R ms k=>by cases ms <;> first | exact trivial | exact k.elim⟩
  | [],_ :: _,r,r',h=>by simp only [mtE] at h; cases h
  | _ :: _,[],r,r',h=>by simp only [mtE] at h; cases h
  | a :: l,b :: m,r,r',h=>by
    simp only [mtE] at h
    obtain ⟨h0,h⟩:=ak h
    have h0:=aq.1 h0
    split at h
    · rename_i r1 e1
      split at h
      · rename_i r2 e2
        obtain ⟨s1,m1⟩:=mtV_ok _ _ _ _ e1
        obtain ⟨s2,m2⟩:=mtV_ok _ _ _ _ e2
        obtain ⟨s3,m3⟩:=mtE_ok l m r2 r' h
        refine ⟨(s1.trans s2).trans s3,fun E ES R ms k=>?_⟩
        cases ms with
        | nil=>exact k.elim
        | cons x ms =>
          obtain ⟨k1,k2,k3,k4⟩:=k
          exact ⟨(m1 E ES ((R.sub s3).sub s2)).trans k1,(m2 E ES (R.sub s3)).trans k2,k3.trans h0.symm,m3 E ES R ms k4⟩
      · cases h
    · cases h
theorem eN {a b:Bool} (h:beqB a b=true):a=b:=by cases a <;> cases b <;> first | rfl | cases h
def VO.isOwn (v:VO):Bool :=
  match v with
  | .own _ _ _=>true
  | .ownMap _ _=>true
  | _=>false
theorem VO.own_obj (v:VO):bN v.obj=v.isOwn:=by cases v <;> rfl
theorem VO.ro_obj (v:VO):roO v.obj=!v.isOwn:=by cases v <;> rfl
structure ViewAt (p:Par) (E ES:Env) (h:Heap) (w:World) (r:Ren) (n:Nat) (g:Nat × VO):Prop where
  at_:∃ b o,(cond (Nat.ble (Nat.succ g.1) 1000) (some g.1) (cond (Nat.ble (Nat.succ g.1) n) (aA r g.1) none))=some b∧h.get b=some o∧ES.σ g.1=E.σ b∧(g.2.isOwn=true→bN o=true)∧(bN o=true ∨ roO o=true)
  obj:objOk p ES g.1 g.2.obj w.heap
theorem dC {n b c : Nat} {r r' : Ren} (q : SubR n r r') (h : (cond (Nat.ble (Nat.succ b) 1000) (some b) (cond (Nat.ble (Nat.succ b) n) (aA r b) none)) = some c) :
    (cond (Nat.ble (Nat.succ b) 1000) (some b) (cond (Nat.ble (Nat.succ b) n) (aA r' b) none))=some c∧∀ E ES,Rel n E ES r'→ES.σ b=E.σ c∧ES.κ b=E.κ c:=by
  cases h2:Nat.ble (Nat.succ b) 1000 with
  | true =>
    rw [h2] at h; cases h
    exact ⟨rfl,fun E ES R=>R.lo _ (aD.1 h2)⟩
  | false =>
    rw [h2,cond_false] at h
    obtain ⟨h3,h4⟩:=ak h
    have h5:1000≤b:=by
      rcases Nat.lt_or_ge b 1000 with k | k
      · have:=aD.2 k; rw [h2] at this; cases this
      · exact k
    have h6:=q _ _ h5 (aD.1 h3) h4
    exact ⟨by rw [cond_false,h3,cond_true]; exact h6,fun E ES R=>R.at_ _ _ h5 (aD.1 h3) h6⟩
theorem mtView_ok {n : Nat} {h : Heap} : ∀ (l : List (Nat × VO)) (r r' : Ren), mtView n h l r = some r' → SubR n r r' ∧
    ∀ {p:Par} {E ES:Env} {w0:Base} {w:World},Rel n E ES r'→HeapOk p E h w0 w→∀ g ∈ l,ViewAt p E ES h w r' n g
  | [],r,r',e=>by
    simp only [mtView,Option.some.injEq] at e; subst e
    exact ⟨SubR.refl _ _,fun _ _ g hg=>by cases hg⟩
  | g :: l,r,r',e=>by
    simp only [mtView] at e
    split at e
    · rename_i b hb
      split at e
      · rename_i r1 h1
        obtain ⟨q3,q4⟩:=mtView_ok l r1 r' e
        have fin : ∀ (q1 : SubR n r r1), (∀ {p : Par} {E ES : Env} {w0 : Base} {w : World}, Rel n E ES r1 → HeapOk p E h w0 w → ES.σ g.1 = E.σ b → ES.κ g.1 = E.κ b →
            ∃ o,h.get b=some o∧(g.2.isOwn=true→bN o=true)∧(bN o=true ∨ roO o=true)∧objOk p ES g.1 g.2.obj w.heap) →
            SubR n r r'∧∀ {p:Par} {E ES:Env} {w0:Base} {w:World},Rel n E ES r'→HeapOk p E h w0 w→∀ g' ∈ g :: l,ViewAt p E ES h w r' n g':=by
          intro q1 H
          refine ⟨q1.trans q3,fun {p E ES w0 w} R HH g' hg'=>?_⟩
          rcases List.mem_cons.1 hg' with rfl | hg'
          · obtain ⟨e1,e2⟩:=dC (q1.trans q3) hb
            obtain ⟨o,z1,z2,z3,z4⟩:=H (R.sub q3) HH (e2 E ES R).1 (e2 E ES R).2
            exact ⟨⟨b,o,e1,z1,(e2 E ES R).1,z2,z3⟩,z4⟩
          · exact q4 R HH g' hg'
        have cellsAt:∀ {p:Par} {E ES:Env} {w0:Base} {w:World} {cs cs':List AV} {el:TypeId} {own ext:Bool},HeapOk p E h w0 w→h.get b=some (.cells cs' el own ext)→ES.σ g.1=E.σ b→ad ES cs=ad E cs'→objOk p ES g.1 (.cells cs 0 false false) w.heap :=
          fun HH hg hσ hc=>by
            obtain ⟨c,base,vs,cells,el',fz,k1,k2,k3,k4,k5⟩:=HH.obj b _ hg
            exact ⟨c,base,vs,cells,el',fz,hσ.trans k1,hc.trans k2,k3,k4,fun h=>by cases h⟩
        unfold mtO at h1
        split at h1
        · rename_i cs hcs
          split at h1
          · rename_i cs' el own ext hg
            obtain ⟨q1,q2⟩:=mtL_ok _ _ _ _ h1
            refine fin q1 fun {p E ES w0 w} R HH hσ hκ=>⟨_,hg,by rw [hcs]; exact fun h=>(by cases h),?_,by rw [hcs]; exact cellsAt HH hg hσ (q2 E ES R)⟩
            cases own; exact .inr rfl; exact .inl rfl
          · cases h1
        · rename_i es k hes
          split at h1
          · rename_i es' k' hg
            obtain ⟨h2,h3⟩:=ak h1
            have h2:=aq.1 h2
            subst h2
            obtain ⟨q1,q2⟩:=mtE_ok _ _ _ _ h3
            refine fin q1 fun {p E ES w0 w} R HH hσ hκ=>⟨_,hg,by rw [hes]; exact fun h=>(by cases h),.inl rfl,?_⟩
            rw [hes]
            obtain ⟨c,ms,z1,z2,z3⟩:=HH.obj b _ hg
            exact ⟨c,ms,hσ.trans z1,q2 E ES R ms z2,z3⟩
          · rename_i es' k' hg
            obtain ⟨h2,h3⟩:=ak h1
            have h2:=aq.1 h2
            subst h2
            obtain ⟨q1,q2⟩:=mtE_ok _ _ _ _ h3
            refine fin q1 fun {p E ES w0 w} R HH hσ hκ=>⟨_,hg,by rw [hes]; exact fun h=>(by cases h),.inr rfl,?_⟩
            rw [hes]
            obtain ⟨c,ms,z1,z2,z3⟩:=HH.obj b _ hg
            exact ⟨c,ms,hσ.trans z1,q2 E ES R ms z2,z3⟩
          · cases h1
        · rename_i cs el ext hcs
          split at h1
          · rename_i cs' el' own ext' hg
            obtain ⟨h2,h3⟩:=ak h1
            simp only [Bool.and_eq_true] at h2
            obtain ⟨h4,h5,h6⟩:=h2
            have h5:=aq.1 h5; have h6:=eN h6
            subst h4; subst h5; subst h6
            obtain ⟨q1,q2⟩:=mtL_ok _ _ _ _ h3
            refine fin q1 fun {p E ES w0 w} R HH hσ hκ=>⟨_,hg,fun _=>rfl,.inl rfl,?_⟩
            rw [hcs]
            obtain ⟨c,base,vs,cells,el',fz,k1,k2,k3,k4,k5⟩:=HH.obj b _ hg
            exact ⟨c,base,vs,cells,el',fz,hσ.trans k1,(q2 E ES R).trans k2,k3,k4,by rw [hκ]; exact k5⟩
          · cases h1
        · rename_i es k hes
          split at h1
          · rename_i es' k' hg
            obtain ⟨h2,h3⟩:=ak h1
            have h2:=aq.1 h2
            subst h2
            obtain ⟨q1,q2⟩:=mtE_ok _ _ _ _ h3
            refine fin q1 fun {p E ES w0 w} R HH hσ hκ=>⟨_,hg,fun _=>rfl,.inl rfl,?_⟩
            rw [hes]
            obtain ⟨c,ms,z1,z2,z3⟩:=HH.obj b _ hg
            exact ⟨c,ms,hσ.trans z1,q2 E ES R ms z2,z3⟩
          · cases h1
      · cases e
    · cases e
theorem fH (n:Nat):∀ l,(fI n l).next=n
  | []=>rfl
  | g :: l=>by rw [fI,Heap.next_put]; exact fH n l
theorem cg (n:Nat):∀ (l:List (Nat × VO)) (b:Nat) (o:AObj),(fI n l).get b=some o→∃ g ∈ l,g.1=b∧o=g.2.obj
  | [],b,o,h=>by
    have:(PT.nil:PT AObj).get b=some o:=h
    rw [PT.get_nil] at this; cases this
  | g :: l,b,o,h=>by
    rw [fI,Heap.get_put] at h
    by_cases c:b=g.1
    · rw [if_pos c] at h; cases h; exact ⟨g,List.mem_cons_self,c.symm,rfl⟩
    · rw [if_neg c] at h
      obtain ⟨g',h1,h2⟩:=cg n l b o h
      exact ⟨g',List.mem_cons_of_mem _ h1,h2⟩
theorem viewUp_ge:∀ (l:List (Nat × VO)) (n:Nat),viewUp n l=true→∀ q ∈ l,n≤q.1
  | [],n,_,q,hq=>by cases hq
  | q :: l,n,h,q',hq=>by
    simp only [viewUp] at h
    cases h1:Nat.ble n q.1 with
    | false=>rw [h1] at h; cases h
    | true =>
      rw [h1] at h
      rcases List.mem_cons.1 hq with rfl | hq
      · exact aD.1 h1
      · have:=viewUp_ge l _ h q' hq; have:=aD.1 h1; omega
theorem viewUp_inj:∀ (l:List (Nat × VO)) (n:Nat),viewUp n l=true→∀ q ∈ l,∀ q' ∈ l,q.1=q'.1→q=q'
  | [],n,_,q,hq,_,_,_=>by cases hq
  | p :: l,n,h,q,hq,q',hq',e=>by
    simp only [viewUp] at h
    cases h0:Nat.ble n p.1 with
    | false=>rw [h0] at h; cases h
    | true =>
      rw [h0] at h
      rcases List.mem_cons.1 hq with h1 | h1
      · rcases List.mem_cons.1 hq' with h2 | h2
        · rw [h1,h2]
        · have:=viewUp_ge l _ h q' h2; rw [h1] at e; omega
      · rcases List.mem_cons.1 hq' with h2 | h2
        · have:=viewUp_ge l _ h q h1; rw [h2] at e; omega
        · exact viewUp_inj l _ h q h1 q' h2 e
theorem outsOk_own {n : Nat} : ∀ (l : List (Nat × VO)) (m : List (Nat × NB)), dS n l m = true →
    (∀ g ∈ l,g.2.isOwn=true→∃ q ∈ m,q.1=g.1)∧(∀ q ∈ m,1000≤q.1∧q.1 < n∧∃ g ∈ l,g.1=q.1∧g.2.isOwn=true)
  | [],[],_=>⟨fun g hg=>(by cases hg),fun q hq=>(by cases hq)⟩
  | [],_ :: _,h=>by simp only [dS] at h; cases h
  | g :: l,m,h=>by
    have ro:g.2.isOwn=false→dS n l m=true→(∀ g' ∈ g :: l,g'.2.isOwn=true→∃ q ∈ m,q.1=g'.1)∧(∀ q ∈ m,1000≤q.1∧q.1 < n∧∃ g' ∈ g :: l,g'.1=q.1∧g'.2.isOwn=true):=fun hg h=>by
      obtain ⟨a1,a2⟩:=outsOk_own l m h
      refine ⟨fun g' hg' ho=>?_,fun q hq=>?_⟩
      · rcases List.mem_cons.1 hg' with rfl | hg'
        · rw [hg] at ho; cases ho
        · exact a1 g' hg' ho
      · obtain ⟨b1,b2,g',b3,b4⟩:=a2 q hq
        exact ⟨b1,b2,g',List.mem_cons_of_mem _ b3,b4⟩
    have own : ∀ (q : Nat × NB) (m' : List (Nat × NB)), g.2.isOwn = true → cond (and (Nat.beq g.1 q.1) (and (Nat.ble 1000 q.1) (Nat.ble (Nat.succ q.1) n))) (dS n l m') false = true →
        (∀ g' ∈ g :: l,g'.2.isOwn=true→∃ q' ∈ q :: m',q'.1=g'.1)∧(∀ q' ∈ q :: m',1000≤q'.1∧q'.1 < n∧∃ g' ∈ g :: l,g'.1=q'.1∧g'.2.isOwn=true):=fun q m' hg h=>by
      cases hc:and (Nat.beq g.1 q.1) (and (Nat.ble 1000 q.1) (Nat.ble (Nat.succ q.1) n)) with
      | false=>rw [hc] at h; cases h
      | true =>
        rw [hc,cond_true] at h
        simp only [Bool.and_eq_true] at hc
        have c1:=aq.1 hc.1; have c2:=aD.1 hc.2.1; have c3:=aD.1 hc.2.2
        obtain ⟨a1,a2⟩:=outsOk_own l m' h
        refine ⟨fun g' hg' ho=>?_,fun q' hq=>?_⟩
        · rcases List.mem_cons.1 hg' with rfl | hg'
          · exact ⟨q,List.mem_cons_self,c1.symm⟩
          · obtain ⟨q',b1,b2⟩:=a1 g' hg' ho
            exact ⟨q',List.mem_cons_of_mem _ b1,b2⟩
        · rcases List.mem_cons.1 hq with rfl | hq
          · exact ⟨c2,c3,g,List.mem_cons_self,c1,hg⟩
          · obtain ⟨b1,b2,g',b3,b4⟩:=a2 q' hq
            exact ⟨b1,b2,g',List.mem_cons_of_mem _ b3,b4⟩
    obtain ⟨gb,gv⟩:=g
    cases gv with
    | cells cs=>simp only [dS] at h; exact ro rfl h
    | map es k=>simp only [dS] at h; exact ro rfl h
    | own cs el ext =>
      cases m with
      | nil=>simp only [dS] at h; cases h
      | cons q m=>simp only [dS] at h; exact own q m rfl h
    | ownMap es k =>
      cases m with
      | nil=>simp only [dS] at h; cases h
      | cons q m=>simp only [dS] at h; exact own q m rfl h
theorem injR_ok:∀ {r:Ren},injR r=true→(∀ b c,aA r b=some c→1000≤c∧memR c r=true)∧∀ b b' c,aA r b=some c→aA r b'=some c→b=b'
  | [],_=>⟨fun b c h=>(by cases h),fun b b' c h=>(by cases h)⟩
  | p :: l,h=>by
    simp only [injR] at h
    cases hc:and (Nat.ble 1000 p.2) (Bool.not (memR p.2 l)) with
    | false=>rw [hc] at h; cases h
    | true =>
      rw [hc] at h
      simp only [Bool.and_eq_true,Bool.not_eq_true'] at hc
      obtain ⟨a1,a2⟩:=injR_ok (r:=l) h
      refine ⟨fun b c e=>?_,fun b b' c e e'=>?_⟩
      · rw [aN] at e
        simp only [memR]
        cases hb:Nat.beq p.1 b with
        | true=>rw [hb] at e; cases e; exact ⟨aD.1 hc.1,by rw [aq.2 rfl]; rfl⟩
        | false =>
          rw [hb] at e
          obtain ⟨b1,b2⟩:=a1 b c e
          exact ⟨b1,by cases Nat.beq p.2 c <;> first | rfl | exact b2⟩
      · rw [aN] at e e'
        cases hb:Nat.beq p.1 b with
        | true =>
          rw [hb] at e; cases e
          cases hb':Nat.beq p.1 b' with
          | true=>rw [← aq.1 hb,← aq.1 hb']
          | false =>
            rw [hb'] at e'
            have:=(a1 b' _ e').2
            rw [hc.2] at this; cases this
        | false =>
          rw [hb] at e
          cases hb':Nat.beq p.1 b' with
          | true =>
            rw [hb'] at e'; cases e'
            have:=(a1 b _ e).2
            rw [hc.2] at this; cases this
          | false=>rw [hb'] at e'; exact a2 b b' c e e'
noncomputable def eV (n:Nat) (E:Env) (r:Ren):Env :=
  ⟨E.ρ,fun b=>if b < 1000 then some (b,0) else if b < n then (match aA r b with | some c=>E.σ c | none=>none) else none,
    fun b=>if b < 1000 then E.κ b else if b < n then (match aA r b with | some c=>E.κ c | none=>0) else 0,n,fun _=>#[]⟩
theorem envR_rel {n:Nat} {E:Env} {r:Ren} (hg:∀ b,b < 1000→E.σ b=some (b,0)):Rel n E (eV n E r) r:=by
  refine ⟨rfl,fun b hb=>?_,fun b c h1 h2 e=>?_⟩
  · simp only [eV,if_pos hb,hg b hb,and_self]
  · simp only [eV,if_neg (show ¬ b < 1000 by omega),if_pos h2,e,and_self]
structure RelB (g:Nat→Option Nat) (E1 E2:Env):Prop where
  ρ:E2.ρ=E1.ρ
  at_:∀ b c q,g b=some c→E1.σ b=some q→E2.σ c=some q∧E2.κ c=E1.κ b
mutual
theorem rnV_ok {g:Nat→Option Nat} {E1 E2:Env} (R:RelB g E1 E2):∀ (a a':AV) (v:Value),rnV g a=some a'→af E1 a=some v→af E2 a'=some v
  | .ptr b o,a',v,h,e=>by
    simp only [rnV] at h
    split at h
    · rename_i b' hb
      cases h
      simp only [af,Option.map_eq_some_iff] at e ⊢
      obtain ⟨q,hq,e⟩:=e
      exact ⟨q,(R.at_ _ _ _ hb hq).1,e⟩
    · cases h
  | .slice b o l c,a',v,h,e=>by
    simp only [rnV] at h
    split at h
    · rename_i b' hb
      cases h
      simp only [af,Option.map_eq_some_iff] at e ⊢
      obtain ⟨q,hq,e⟩:=e
      exact ⟨q,(R.at_ _ _ _ hb hq).1,e⟩
    · cases h
  | .sliceX b o l c,a',v,h,e=>by
    simp only [rnV] at h
    split at h
    · rename_i b' hb
      cases h
      simp only [af] at e ⊢
      split at e
      · rename_i hl
        simp only [Option.map_eq_some_iff] at e
        obtain ⟨q,hq,e⟩:=e
        obtain ⟨h1,h2⟩:=R.at_ _ _ _ hb hq
        rw [if_pos (by rw [h2]; exact hl),h1,h2,Option.map_some,e]
      · cases e
    · cases h
  | .agg x,a',v,h,e=>by
    simp only [rnV] at h
    split at h
    · rename_i y hy
      cases h
      simp only [af,Option.map_eq_some_iff] at e ⊢
      obtain ⟨q,hq,e⟩:=e
      exact ⟨q,rnL_ok R x y q hy hq,e⟩
    · cases h
  | .tup x,a',v,h,e=>by
    simp only [rnV] at h
    split at h
    · rename_i y hy
      cases h
      simp only [af,Option.map_eq_some_iff] at e ⊢
      obtain ⟨q,hq,e⟩:=e
      exact ⟨q,rnL_ok R x y q hy hq,e⟩
    · cases h
  | .bool a,a',v,h,e=>by simp only [rnV,Option.some.injEq] at h; subst h; simpa only [af,R.ρ] using e
  | .int k a,a',v,h,e=>by simp only [rnV,Option.some.injEq] at h; subst h; simpa only [af,R.ρ] using e
  | .nilptr,a',v,h,e=>by simp only [rnV,Option.some.injEq] at h; subst h; exact e
  | .nilslice,a',v,h,e=>by simp only [rnV,Option.some.injEq] at h; subst h; exact e
  | .nilmap,a',v,h,e=>by simp only [rnV,Option.some.injEq] at h; subst h; exact e
  | .nilFunc,a',v,h,e=>by simp only [rnV,Option.some.injEq] at h; subst h; exact e
  | .map b,a',v,h,e=>by
    simp only [rnV] at h
    split at h
    · rename_i b' hb
      cases h
      simp only [af,Option.map_eq_some_iff] at e ⊢
      obtain ⟨q,hq,e⟩:=e
      exact ⟨q,(R.at_ _ _ _ hb hq).1,e⟩
    · cases h
  | .func f x y,a',v,h,e=>by simp only [rnV] at h; cases h
  | .yieldF b,a',v,h,e=>by simp only [rnV] at h; cases h
  | .opq b,a',v,h,e=>by simp only [rnV] at h; cases h
  | .sliceU b,a',v,h,e=>by simp only [rnV] at h; cases h
  | .sliceV b i,a',v,h,e=>by
    simp only [rnV] at h
    split at h
    · rename_i b' hb
      cases h
      simp only [af] at e ⊢
      split at e
      · rename_i hl
        simp only [Option.map_eq_some_iff] at e
        obtain ⟨q,hq,e⟩:=e
        obtain ⟨h1,h2⟩:=R.at_ _ _ _ hb hq
        rw [if_pos (by rw [h2,R.ρ]; exact hl),h1,Option.map_some,R.ρ,h2,e]
      · cases e
    · cases h
  | .ptrV _ _ _ _ _,a',v,h,e=>by simp only [rnV] at h; cases h
  | .bad,a',v,h,e=>by simp only [rnV] at h; cases h
theorem rnL_ok {g:Nat→Option Nat} {E1 E2:Env} (R:RelB g E1 E2):∀ (l l':List AV) (vs:List Value),rnL g l=some l'→ad E1 l=some vs→ad E2 l'=some vs
  | [],l',vs,h,e=>by simp only [rnL,Option.some.injEq] at h; subst h; exact e
  | a :: l,l',vs,h,e=>by
    simp only [rnL] at h
    split at h
    · rename_i b hb
      split at h
      · rename_i m hm
        cases h
        obtain ⟨v,rest,h1,h2,rfl⟩:=ap.1 e
        exact ap.2 ⟨v,rest,rnV_ok R a b v hb h1,rnL_ok R l m rest hm h2,rfl⟩
      · cases h
    · cases h
end
theorem rnE_ok {g:Nat→Option Nat} {E1 E2:Env} (R:RelB g E1 E2):∀ (l l':List (AV × AV × Nat)) (ms:List MapEntry),rnE g l=some l'→bG E1 l ms→bG E2 l' ms
  | [],l',ms,h,e=>by simp only [rnE,Option.some.injEq] at h; subst h; cases ms <;> first | exact trivial | exact e.elim
  | a :: l,l',ms,h,e=>by
    simp only [rnE] at h
    split at h
    · rename_i k v m hk hv hm
      cases h
      cases ms with
      | nil=>exact e.elim
      | cons x ms =>
        obtain ⟨k1,k2,k3,k4⟩:=e
        exact ⟨rnV_ok R _ _ _ hk k1,rnV_ok R _ _ _ hv k2,k3,rnE_ok R l m ms hm k4⟩
    · cases h
theorem NB.raw_own (q:NB):bN q.raw=true:=by cases q <;> rfl
theorem NB.ren_own {g:Nat→Option Nat} {q:NB} {o:AObj} (h:q.ren g=some o):bN o=true:=by
  unfold NB.ren at h
  split at h
  · split at h
    · cases h; rfl
    · cases h
  · split at h
    · cases h; rfl
    · cases h
theorem newsH_next {g:Nat→Option Nat}:∀ (l:List (Nat × NB)) (h h2:Heap),newsH g l h=some h2→h2.next=h.next + l.length
  | [],h,h2,e=>by simp only [newsH,Option.some.injEq] at e; subst e; rfl
  | q :: l,h,h2,e=>by
    simp only [newsH] at e
    split at e
    · rename_i o ho
      rw [newsH_next l _ h2 e,Heap.next_new,List.length_cons]; omega
    · cases e
theorem newsH_get {g : Nat → Option Nat} : ∀ (l : List (Nat × NB)) (h h2 : Heap), newsH g l h = some h2 → ∀ j o, h2.get j = some o →
    (h.get j=some o∧(j < h.next ∨ h.next + l.length≤j)) ∨ ∃ (i:Nat) (q:Nat × NB),l[i]?=some q∧j=h.next + i∧q.2.ren g=some o
  | [],h,h2,e,j,o,ho=>by
    simp only [newsH,Option.some.injEq] at e; subst e
    refine .inl ⟨ho,?_⟩
    simp only [List.length_nil]; omega
  | q :: l,h,h2,e,j,o,ho=>by
    simp only [newsH] at e
    split at e
    · rename_i o1 ho1
      rcases newsH_get l _ h2 e j o ho with ⟨h1,h3⟩ | ⟨i,q',h1,h3,h4⟩
      · rw [Heap.get_new] at h1
        by_cases hj:j=h.next
        · rw [if_pos hj] at h1; cases h1
          exact .inr ⟨0,q,rfl,by omega,ho1⟩
        · rw [if_neg hj] at h1
          rw [Heap.next_new] at h3
          refine .inl ⟨h1,?_⟩
          simp only [List.length_cons]; omega
      · rw [Heap.next_new] at h3
        exact .inr ⟨i + 1,q',by simpa using h1,by omega,h4⟩
    · cases e
theorem newsR_find:∀ (l:List (Nat × NB)) (k b c:Nat),aA (newsR l k) b=some c→∃ i q,l[i]?=some q∧q.1=b∧c=k + i
  | [],k,b,c,e=>by cases e
  | q :: l,k,b,c,e=>by
    simp only [newsR,aN] at e
    cases h:Nat.beq q.1 b with
    | true=>rw [h] at e; cases e; exact ⟨0,q,rfl,aq.1 h,rfl⟩
    | false =>
      rw [h] at e
      obtain ⟨i,q',h1,h2,h3⟩:=newsR_find l _ b c e
      exact ⟨i + 1,q',by simpa using h1,h2,by omega⟩
theorem rises_ge:∀ (l:List (Nat × NB)) (n:Nat),rises n l=true→∀ q ∈ l,n≤q.1
  | [],n,_,q,hq=>by cases hq
  | q :: l,n,h,q',hq=>by
    simp only [rises] at h
    cases h1:Nat.ble n q.1 with
    | false=>rw [h1] at h; cases h
    | true =>
      rw [h1] at h
      rcases List.mem_cons.1 hq with rfl | hq
      · exact aD.1 h1
      · have:=rises_ge l _ h q' hq; have:=aD.1 h1; omega
theorem rises_inj:∀ (l:List (Nat × NB)) (n:Nat),rises n l=true→∀ (i j:Nat) (q q':Nat × NB),l[i]?=some q→l[j]?=some q'→q.1=q'.1→i=j
  | [],n,_,i,j,q,q',h1,_,_=>by simp at h1
  | p :: l,n,h,i,j,q,q',h1,h2,e=>by
    simp only [rises] at h
    cases h0:Nat.ble n p.1 with
    | false=>rw [h0] at h; cases h
    | true =>
      rw [h0] at h
      cases i with
      | zero =>
        cases j with
        | zero=>rfl
        | succ j =>
          simp at h1 h2; subst h1
          have:=rises_ge l _ h q' (List.mem_of_getElem? h2); omega
      | succ i =>
        cases j with
        | zero =>
          simp at h1 h2; subst h2
          have:=rises_ge l _ h q (List.mem_of_getElem? h1); omega
        | succ j =>
          simp at h1 h2
          rw [rises_inj l _ h i j q q' h1 h2 e]
noncomputable def envN (E E1:Env) (base:Nat) (l:List (Nat × NB)):Env :=
  ⟨E.ρ,fun b=>if b < base then E.σ b else match l[b - base]? with | some q=>E1.σ q.1 | none=>none,
    fun b=>if b < base then E.κ b else match l[b - base]? with | some q=>E1.κ q.1 | none=>0,base + l.length,
    E.rc⟩
theorem putsH_next {g:Nat→Option Nat}:∀ (l:List (Nat × NB)) (h h2:Heap),putsH g l h=some h2→h2.next=h.next
  | [],h,h2,e=>by simp only [putsH,Option.some.injEq] at e; subst e; rfl
  | q :: l,h,h2,e=>by
    simp only [putsH] at e
    split at e
    · split at e
      · rw [putsH_next l _ h2 e,Heap.next_put]
      · cases e
    · cases e
theorem putsH_get {g : Nat → Option Nat} : ∀ (l : List (Nat × NB)) (h h2 : Heap), putsH g l h = some h2 → ∀ j o, h2.get j = some o →
    (h.get j=some o∧∀ q ∈ l,g q.1 ≠ some j) ∨ ∃ q ∈ l,g q.1=some j∧q.2.ren g=some o
  | [],h,h2,e,j,o,ho=>by
    simp only [putsH,Option.some.injEq] at e; subst e
    exact .inl ⟨ho,fun q hq=>by cases hq⟩
  | q :: l,h,h2,e,j,o,ho=>by
    simp only [putsH] at e
    split at e
    · rename_i b hb
      split at e
      · rename_i o1 ho1
        rcases putsH_get l _ h2 e j o ho with ⟨h1,h3⟩ | ⟨q',h1,h3,h4⟩
        · rw [Heap.get_put] at h1
          by_cases hj:j=b
          · rw [if_pos hj] at h1; cases h1
            exact .inr ⟨q,List.mem_cons_self,by rw [hj]; exact hb,ho1⟩
          · rw [if_neg hj] at h1
            refine .inl ⟨h1,fun q' hq'=>?_⟩
            rcases List.mem_cons.1 hq' with rfl | hq'
            · rw [hb]; intro e; cases e; exact hj rfl
            · exact h3 q' hq'
        · exact .inr ⟨q',List.mem_cons_of_mem _ h1,h3,h4⟩
      · cases e
    · cases e
theorem NB.ren_ok {p:Par} {g:Nat→Option Nat} {E1 E2:Env} (hR:RelB g E1 E2) {q:NB} {b j:Nat} {o:AObj} {heap:Array Obj} (hq:q.ren g=some o) (hσ:∀ x,E1.σ b=some x→E2.σ j=some x∧E2.κ j=E1.κ b) (hg:objOk p E1 b q.raw heap):objOk p E2 j o heap:=by
  cases q with
  | cells cs el ext =>
    simp only [NB.ren] at hq
    split at hq
    · rename_i cs' hcs'
      cases hq
      obtain ⟨c,base,vs,cells,el',fz,k1,k2,k3,k4,k5⟩:=hg
      exact ⟨c,base,vs,cells,el',fz,(hσ _ k1).1,rnL_ok hR _ _ _ hcs' k2,k3,k4,by rw [(hσ _ k1).2]; exact k5⟩
    · cases hq
  | map es k =>
    simp only [NB.ren] at hq
    split at hq
    · rename_i es' hes'
      cases hq
      obtain ⟨c,ms,k1,k2,k3⟩:=hg
      exact ⟨c,ms,(hσ _ k1).1,rnE_ok hR _ _ _ hes' k2,k3⟩
    · cases hq
theorem HeapOk.merge {p : Par} {E E1 : Env} {h h1 h2 h3 : Heap} {w0 b1 : Base} {w w' : World} {n : Nat} {r : Ren} {l outs : List (Nat × NB)}
    (HH:HeapOk p E h w0 w) (H1:HeapOk p E1 h1 b1 w') (hb1:b1.w=w) (hS:∀ c,b1.S c ↔ c < w.heap.size∧∀ q ∈ outs,∀ x,(eV n E r).σ q.1 ≠ some (c,x))
    (hle:(eV n E r).le E1) (hrise:rises n l=true)
    (hl:∀ q ∈ l,h1.get q.1=some q.2.raw)
    (hout:∀ q ∈ outs,h1.get q.1=some q.2.raw∧1000≤q.1∧q.1 < n∧∃ j o0,aA r q.1=some j∧h.get j=some o0∧bN o0=true)
    (e2:newsH (blR n r (newsR l h.next)) l h=some h2) (e3:putsH (blR n r (newsR l h.next)) outs h2=some h3) :
    E.le (envN E E1 h.next l)∧RelB (blR n r (newsR l h.next)) E1 (envN E E1 h.next l)∧HeapOk p (envN E E1 h.next l) h3 w0 w':=by
  have hnx:=newsH_next l h h2 e2
  have hfr:∀ b q,E.σ b=some q→b < h.next:=fun b q e=>by
    rcases Nat.lt_or_ge b h.next with k | k
    · exact k
    · rw [HH.fresh b k] at e; cases e
  have h1000:1000≤h.next:=by
    rcases Nat.lt_or_ge h.next 1000 with k | k
    · have:=HH.glob h.next k; rw [HH.fresh _ (Nat.le_refl _)] at this; cases this
    · exact k
  have hσ0:∀ b,b < h.next→(envN E E1 h.next l).σ b=E.σ b:=fun b hb=>by simp only [envN,if_pos hb]
  have hκ0:∀ b,b < h.next→(envN E E1 h.next l).κ b=E.κ b:=fun b hb=>by simp only [envN,if_pos hb]
  have hσ1:∀ i q,l[i]?=some q→(envN E E1 h.next l).σ (h.next + i)=E1.σ q.1:=fun i q hq=>by
    simp only [envN,if_neg (show ¬ h.next + i < h.next by omega),Nat.add_sub_cancel_left,hq]
  have hκ1:∀ i q,l[i]?=some q→(envN E E1 h.next l).κ (h.next + i)=E1.κ q.1:=fun i q hq=>by
    simp only [envN,if_neg (show ¬ h.next + i < h.next by omega),Nat.add_sub_cancel_left,hq]
  have hσ2:∀ b,h.next + l.length≤b→(envN E E1 h.next l).σ b=none:=fun b hb=>by
    simp only [envN,if_neg (show ¬ b < h.next by omega)]
    rw [List.getElem?_eq_none (by omega)]
  have hEle:E.le (envN E E1 h.next l):=by
    refine ⟨⟨rfl,fun b q e=>by rw [hσ0 b (hfr b q e)]; exact e,fun b q e=>hκ0 b (hfr b q e),fun _ _ _=>rfl⟩,?_,fun b hb e=>?_⟩
    · have:=HH.nx; simp only [envN]; omega
    · rw [hσ0 b (Nat.lt_of_lt_of_le hb HH.nx)]; exact e
  have hR:RelB (blR n r (newsR l h.next)) E1 (envN E E1 h.next l):=by
    refine ⟨?_,fun b c q hb hq=>?_⟩
    · exact hle.ρ.symm
    · unfold blR at hb
      cases k1:Nat.ble (Nat.succ b) 1000 with
      | true =>
        rw [k1] at hb; cases hb
        have hb':b < 1000:=aD.1 k1
        have s0:(eV n E r).σ b=some (b,0):=by simp only [eV,if_pos hb']
        have s1:=hle.σ _ _ s0
        rw [hq] at s1; cases s1
        have kk:=hle.κ _ _ s0
        rw [hσ0 b (by omega),hκ0 b (by omega),HH.glob b hb',kk]
        exact ⟨rfl,by simp only [eV,if_pos hb']⟩
      | false =>
        rw [k1,cond_false] at hb
        have hb1:1000≤b:=by
          rcases Nat.lt_or_ge b 1000 with k | k
          · have:=aD.2 k; rw [k1] at this; cases this
          · exact k
        cases k2:Nat.ble (Nat.succ b) n with
        | true =>
          rw [k2,cond_true] at hb
          have hbn:b < n:=aD.1 k2
          have s0:(eV n E r).σ b=E.σ c:=by simp only [eV,if_neg (show ¬ b < 1000 by omega),if_pos hbn,hb]
          have t0:(eV n E r).κ b=E.κ c:=by simp only [eV,if_neg (show ¬ b < 1000 by omega),if_pos hbn,hb]
          cases hc:E.σ c with
          | none =>
            have:=hle.none b (by simpa [eV] using hbn) (by rw [s0]; exact hc)
            rw [hq] at this; cases this
          | some q' =>
            rw [hc] at s0
            have s1:=hle.σ _ _ s0
            rw [hq] at s1; cases s1
            have hcn:=hfr c _ hc
            refine ⟨by rw [hσ0 c hcn]; exact hc,?_⟩
            rw [hκ0 c hcn,hle.κ _ _ s0,t0]
        | false =>
          rw [k2,cond_false] at hb
          obtain ⟨i,q',g1,g2,rfl⟩:=newsR_find l _ b c hb
          subst g2
          exact ⟨by rw [hσ1 i q' g1]; exact hq,hκ1 i q' g1⟩
  refine ⟨hEle,hR,?_⟩
  have HW:=HH.below
  have hK:Kept b1.S w w':=by have:=H1.below; rw [← hb1]; exact this
  have hnx3:=putsH_next outs h2 h3 e3
  have outAt:∀ q ∈ outs,∃ j o0 c,aA r q.1=some j∧blR n r (newsR l h.next) q.1=some j∧h.get j=some o0∧bN o0=true∧(∃ x,E1.σ q.1=some (c,x)∧E.σ j=some (c,x)∧(eV n E r).σ q.1=some (c,x)):=by
    intro q hq
    obtain ⟨g1,g2,g3,j,o0,g4,g5,g6⟩:=hout q hq
    have hbl:blR n r (newsR l h.next) q.1=some j:=by
      unfold blR
      have k1:Nat.ble (Nat.succ q.1) 1000=false:=by
        cases hk:Nat.ble (Nat.succ q.1) 1000 with
        | false=>rfl
        | true=>have:=aD.1 hk; omega
      rw [k1,cond_false,aD.2 g3,cond_true]; exact g4
    have ho:=H1.obj _ _ g1
    obtain ⟨⟨c,x⟩,hσ1⟩:∃ y,E1.σ q.1=some y:=by
      revert ho
      obtain ⟨qb,qo⟩:=q
      cases qo with
      | cells cs el ext=>rintro ⟨c,base,vs,cells,el',fz,k1,_⟩; exact ⟨_,k1⟩
      | map es k=>rintro ⟨c,ms,k1,_⟩; exact ⟨_,k1⟩
    have hes:(eV n E r).σ q.1=E.σ j:=by simp only [eV,if_neg (show ¬ q.1 < 1000 by omega),if_pos g3,g4]
    have hEj:E.σ j=some (c,x):=by
      cases hc:E.σ j with
      | none =>
        have:=hle.none q.1 (by simpa [eV] using g3) (by rw [hes]; exact hc)
        rw [hσ1] at this; cases this
      | some y =>
        have:=hle.σ _ _ (hes.trans hc)
        rw [hσ1] at this; exact this.symm
    exact ⟨j,o0,c,g4,hbl,g5,g6,x,hσ1,hEj,hes.trans hEj⟩
  have newO:∀ (i:Nat) (q:Nat × NB),l[i]?=some q→∀ c x,E1.σ q.1=some (c,x)→w.heap.size≤c∧c < w'.heap.size:=fun i q hq c x hs=>by
    have hg:=hl q (List.mem_of_getElem? hq)
    refine ⟨?_,H1.lt _ _ _ _ hg hs⟩
    rcases Nat.lt_or_ge c w.heap.size with hc | hc
    · exfalso
      refine H1.base _ _ _ _ hg q.2.raw_own hs ((hS c).2 ⟨hc,fun q' hq' y hy=>?_⟩)
      obtain ⟨g1,g2,g3,_⟩:=hout q' hq'
      have:=hle.σ _ _ hy
      have:=H1.inj _ _ _ _ _ _ _ hg g1 q.2.raw_own q'.2.raw_own hs this
      have:=rises_ge l n hrise q (List.mem_of_getElem? hq)
      omega
    · exact hc
  have old:∀ j o,h.get j=some o→(j < h.next ∨ h.next + l.length≤j)→(envN E E1 h.next l).σ j=E.σ j:=fun j o _ hj=>by
    rcases hj with hj | hj
    · exact hσ0 j hj
    · rw [hσ2 j hj,HH.fresh j (by omega)]
  have kinds : ∀ j o, h3.get j = some o →
      (∃ (i:Nat) (q:Nat × NB),l[i]?=some q∧j=h.next + i∧q.2.ren (blR n r (newsR l h.next))=some o) ∨
      (∃ o0,h.get j=some o0∧(envN E E1 h.next l).σ j=E.σ j ∧
        ((o0=o∧∀ q ∈ outs,aA r q.1 ≠ some j) ∨ (bN o0=true∧∃ q ∈ outs,blR n r (newsR l h.next) q.1=some j∧q.2.ren (blR n r (newsR l h.next))=some o))):=by
    intro j o ho
    rcases putsH_get outs h2 h3 e3 j o ho with ⟨g1,g2⟩ | ⟨q,hq,g1,g2⟩
    · rcases newsH_get l h h2 e2 j o g1 with ⟨g3,hj⟩ | ⟨i,q,hq,rfl,hcs⟩
      · refine .inr ⟨o,g3,old j o g3 hj,.inl ⟨rfl,fun q hq e=>?_⟩⟩
        obtain ⟨j',o0,c,z1,z2,_⟩:=outAt q hq
        rw [e] at z1; cases z1
        exact g2 q hq z2
      · exact .inl ⟨i,q,hq,rfl,hcs⟩
    · obtain ⟨j',o0,c,z1,z2,z3,z4,x,z5,z6,z7⟩:=outAt q hq
      rw [g1] at z2; cases z2
      exact .inr ⟨o0,z3,hσ0 j (hfr j _ z6),.inr ⟨z4,q,hq,g1,g2⟩⟩
  refine ⟨fun j o ho=>?_,fun b b' o o' c x y g1 g2 w1 w2 s1 s2=>?_,fun b o c x ho ow s=>?_,fun b o c y hg hr s=>?_,fun b hb=>?_,fun b o c x ho s=>?_,fun b hb=>?_,?_,?_,HH.ok⟩
  · rcases kinds j o ho with ⟨i,q,hq,rfl,hcs⟩ | ⟨o0,g,hσ,⟨rfl,hno⟩ | ⟨hw,q,hq,hbl,hren⟩⟩
    · exact NB.ren_ok hR hcs (fun x hx=>⟨by rw [hσ1 i q hq]; exact hx,hκ1 i q hq⟩) (H1.obj _ _ (hl q (List.mem_of_getElem? hq)))
    · refine (HH.obj j o0 g).mono hEle.tole0 (fun hn=>by rw [hσ]; exact hn) (fun c x hc hk=>hK.block c ((hS c).2 ⟨HH.lt j o0 c x g hc,fun q hq y hy=>?_⟩))
      obtain ⟨j',o1,c',z1,z2,z3,z4,x',z5,z6,z7⟩:=outAt q hq
      rw [hy] at z7; cases z7
      rcases hk with hk | hk
      · have:=HH.inj _ _ _ _ _ _ _ g z3 hk z4 hc z6
        subst this
        exact hno q hq z1
      · exact HH.base _ _ _ _ z3 z4 z6 (HH.ro _ _ _ _ g hk hc)
    · obtain ⟨g1,_⟩:=hout q hq
      exact NB.ren_ok hR hren (fun x hx=>hR.at_ _ _ _ hbl hx) (H1.obj _ _ g1)
  · have one : ∀ b o c x, h3.get b = some o → bN o = true → (envN E E1 h.next l).σ b = some (c, x) →
        (∃ (i:Nat) (q:Nat × NB),l[i]?=some q∧b=h.next + i∧E1.σ q.1=some (c,x)) ∨ (∃ o0,h.get b=some o0∧bN o0=true∧E.σ b=some (c,x)):=by
      intro b o c x g0 w1 s
      rcases kinds b o g0 with ⟨i,q,hq,rfl,hcs⟩ | ⟨o0,g',hσ,⟨rfl,hno⟩ | ⟨hw,_⟩⟩
      · rw [hσ1 i q hq] at s; exact .inl ⟨i,q,hq,rfl,s⟩
      · rw [hσ] at s; exact .inr ⟨o0,g',w1,s⟩
      · rw [hσ] at s; exact .inr ⟨o0,g',hw,s⟩
    rcases one b o c x g1 w1 s1 with ⟨i,q,hq,rfl,k1⟩ | ⟨o0,k1,k2,k3⟩
    · rcases one b' o' c y g2 w2 s2 with ⟨i',q',hq',rfl,k1'⟩ | ⟨o0',k1',k2',k3'⟩
      · have:=H1.inj _ _ _ _ _ _ _ (hl q (List.mem_of_getElem? hq)) (hl q' (List.mem_of_getElem? hq')) q.2.raw_own q'.2.raw_own k1 k1'
        rw [rises_inj l n hrise i i' q q' hq hq' this]
      · have a1:=(newO i q hq c x k1).1
        have a2:=HH.lt _ _ _ _ k1' k3'
        omega
    · rcases one b' o' c y g2 w2 s2 with ⟨i',q',hq',rfl,k1'⟩ | ⟨o0',k1',k2',k3'⟩
      · have a1:=(newO i' q' hq' c y k1').1
        have a2:=HH.lt _ _ _ _ k1 k3
        omega
      · exact HH.inj _ _ _ _ _ _ _ k1 k1' k2 k2' k3 k3'
  · rcases kinds b o ho with ⟨i,q,hq,rfl,hcs⟩ | ⟨o0,g,hσ,⟨rfl,hno⟩ | ⟨hw,_⟩⟩
    · rw [hσ1 i q hq] at s
      have a1:=(newO i q hq c x s).1
      intro hc
      have:=HW.lt hc; omega
    · rw [hσ] at s; exact HH.base _ _ _ _ g ow s
    · rw [hσ] at s; exact HH.base _ _ _ _ g hw s
  · rcases kinds b o hg with ⟨i,q,hq,rfl,hcs⟩ | ⟨o0,g,hσ,⟨rfl,hno⟩ | ⟨hw,q,hq,hbl,hren⟩⟩
    · rw [gk (NB.ren_own hcs)] at hr; cases hr
    · rw [hσ] at s; exact HH.ro _ _ _ _ g hr s
    · rw [gk (NB.ren_own hren)] at hr; cases hr
  · rw [hnx3,hnx] at hb; exact hσ2 b hb
  · rcases kinds b o ho with ⟨i,q,hq,rfl,hcs⟩ | ⟨o0,g,hσ,_⟩
    · rw [hσ1 i q hq] at s; exact (newO i q hq c x s).2
    · rw [hσ] at s; exact Nat.lt_of_lt_of_le (HH.lt _ _ _ _ g s) hK.size
  · rw [hσ0 b (by omega)]; exact HH.glob b hb
  · refine HW.trans ⟨hK.os,hK.tape,hK.output,hK.size,fun c hc=>hK.block c ((hS c).2 ⟨HW.lt hc,fun q hq y hy=>?_⟩)⟩
    obtain ⟨j',o1,c',z1,z2,z3,z4,x',z5,z6,z7⟩:=outAt q hq
    rw [hy] at z7; cases z7
    exact HH.base _ _ _ _ z3 z4 z6 hc
  · rw [hnx3,hnx]; exact Nat.le_refl _
theorem eqEs_eq:∀ (l m:List (AV × AV × Nat)),eqEs l m=true→l=m
  | [],[],_=>rfl
  | [],_ :: _,h=>by simp only [eqEs] at h; cases h
  | _ :: _,[],h=>by simp only [eqEs] at h; cases h
  | (a1,a2,a3) :: l,(b1,b2,b3) :: m,h=>by
    simp only [eqEs,Bool.and_eq_true] at h
    rw [dZ _ _ h.1.1,dZ _ _ h.1.2.1,aq.1 h.1.2.2,eqEs_eq l m h.2]
theorem newOk_get {h:Heap} {q:Nat × NB} (e:newOk h q=true):h.get q.1=some q.2.raw:=by
  unfold newOk at e
  split at e
  · rename_i cs el ext hq
    split at e
    · rename_i cs' el' own ext' hg
      simp only [Bool.and_eq_true] at e
      rw [hg,hq,e.1,aZ _ _ e.2.1,aq.1 e.2.2.1,eN e.2.2.2]; rfl
    · cases e
  · rename_i es k hq
    split at e
    · rename_i es' k' hg
      simp only [Bool.and_eq_true] at e
      rw [hg,hq,eqEs_eq _ _ e.1,aq.1 e.2]; rfl
    · cases e
noncomputable def li (n:Int):AV:=.int .i64 (.lit n)
theorem bS {α:Type} {p:α→Bool} {a:α} {l:List α} (h:p a=true) (k:bz p l=true):bz p (a :: l)=true:=by
  show cond (p a) (bz p l) false=true
  rw [h]; exact k
noncomputable def Ent.run (tb:hI) (d:Nat) (e:Ent):Bool :=
  match b7 tb d false e.f e.args (fI e.n e.view) with
  | .ret r=>and (and (eqAV r.1 e.res) (bz (newOk r.2) e.news)) (and (and (rises e.n e.news) (Nat.ble 1000 e.n)) (and (bz (newOk r.2) e.outs) (and (viewUp 0 e.view) (dS e.n e.view e.outs))))
  | _=>false
theorem av {α:Type} {p:α→Bool}:∀ {l:List α},bz p l=true→∀ a ∈ l,p a=true
  | [],_,a,h=>by cases h
  | x :: l,h,a,ha=>by
    have h:cond (p x) (bz p l) false=true:=h
    cases hx:p x with
    | false=>rw [hx] at h; cases h
    | true =>
      rw [hx] at h
      rcases List.mem_cons.1 ha with rfl | ha
      · exact hx
      · exact av h a ha
theorem Ent.meet_ok {p : Par} {ty : Nat → Option TI} {tb : hI} (B : b8 p ty tb) {d : Nat} {e : Ent} (hrun : e.run tb d = true) {args : List AV} {h : Heap} {t : T (AV × Heap)}
    (hm:e.meet args h=some t):CallOk p e.f args h t:=by
  unfold Ent.meet at hm
  split at hm
  · rename_i r0 h0
    split at hm
    · rename_i r hr
      obtain ⟨hinj,hm⟩:=ak hm
      split at hm
      · rename_i v hv
        split at hm
        · rename_i h2 hn
          split at hm
          · rename_i h3 hp
            cases hm
            obtain ⟨s0,m0⟩:=mtL_ok _ _ _ _ h0
            obtain ⟨s1,m1⟩:=mtView_ok _ _ _ hr
            intro vs E w0 w Q K k HH ha P
            have R:Rel e.n E (eV e.n E r) r:=envR_rel HH.glob
            unfold Ent.run at hrun
            split at hrun
            · rename_i q hq
              obtain ⟨v1,h1⟩:=q
              simp only [Bool.and_eq_true] at hrun
              obtain ⟨⟨k1,k2⟩,⟨k3,k4⟩,k5,k6,k7⟩:=hrun
              have hn1:1000≤e.n:=aD.1 k4
              have k1:=dZ _ _ k1
              subst k1
              obtain ⟨o1,o2⟩:=outsOk_own _ _ k7
              have hargs:ad (eV e.n E r) e.args=some vs:=by rw [m0 E _ (R.sub s1)]; exact ha
              have hview:=m1 R HH
              have h1000:∀ b,b < 1000→(eV e.n E r).σ b=some (b,0):=fun b hb=>by simp only [eV,if_pos hb]
              have res1000:∀ b c,1000≤b→(cond (Nat.ble (Nat.succ b) 1000) (some b) (cond (Nat.ble (Nat.succ b) e.n) (aA r b) none))=some c→aA r b=some c:=fun b c hb hc=>by
                have k1:Nat.ble (Nat.succ b) 1000=false:=by
                  cases hk:Nat.ble (Nat.succ b) 1000 with
                  | false=>rfl
                  | true=>have:=aD.1 hk; omega
                rw [k1,cond_false] at hc
                exact (ak hc).2
              have outR:∀ q ∈ e.outs,1000≤q.1∧q.1 < e.n∧∃ g ∈ e.view,g.1=q.1∧g.2.isOwn=true∧∃ j o,aA r q.1=some j∧h.get j=some o∧bN o=true∧(eV e.n E r).σ q.1=E.σ j:=fun q hq=>by
                obtain ⟨b1,b2,g,b3,b4,b5⟩:=o2 q hq
                obtain ⟨b,o,c1,c2,c3,c4,c5⟩:=(hview g b3).at_
                rw [b4] at c1 c3
                exact ⟨b1,b2,g,b3,b4,b5,b,o,res1000 _ _ b1 c1,c2,c4 b5,c3⟩
              have inj:e.outs ≠ []→injR r=true:=fun hne=>by
                unfold someInj at hinj
                split at hinj
                · rename_i he; exact absurd he hne
                · exact hinj
              let b1:Base:=⟨w,fun c=>c < w.heap.size∧∀ q ∈ e.outs,∀ x,(eV e.n E r).σ q.1 ≠ some (c,x),fun c hc=>hc.1⟩
              have hvo:HeapOk p (eV e.n E r) (fI e.n e.view) b1 w:=by
                have obj:∀ b o,(fI e.n e.view).get b=some o→objOk p (eV e.n E r) b o w.heap:=fun b o ho=>by
                  obtain ⟨g,hg,rfl,rfl⟩:=cg _ _ _ _ ho
                  exact (hview g hg).obj
                have lt:∀ b o c x,(fI e.n e.view).get b=some o→(eV e.n E r).σ b=some (c,x)→c < w.heap.size:=fun b o c x ho hs=>by
                  obtain ⟨g,hg,rfl,rfl⟩:=cg _ _ _ _ ho
                  obtain ⟨b',o',c1,c2,c3,c4,c5⟩:=(hview g hg).at_
                  rw [c3] at hs
                  exact HH.lt _ _ _ _ c2 hs
                have own:∀ b o,(fI e.n e.view).get b=some o→bN o=true→∃ q ∈ e.outs,q.1=b:=fun b o ho hw=>by
                  obtain ⟨g,hg,rfl,rfl⟩:=cg _ _ _ _ ho
                  rw [VO.own_obj] at hw
                  exact o1 g hg hw
                have same:∀ q ∈ e.outs,∀ b o c x y,(fI e.n e.view).get b=some o→(eV e.n E r).σ b=some (c,x)→(eV e.n E r).σ q.1=some (c,y)→b=q.1:=by
                  intro q hq b o c x y ho hs hs'
                  have hi:=injR_ok (inj (fun h0=>by rw [h0] at hq; cases hq))
                  obtain ⟨d1,d2,g',d3,d4,d5,j,o',d6,d7,d8,d9⟩:=outR q hq
                  obtain ⟨g,hg,rfl,rfl⟩:=cg _ _ _ _ ho
                  obtain ⟨b',o2,c1,c2,c3,c4,c5⟩:=(hview g hg).at_
                  rw [c3] at hs
                  rw [d9] at hs'
                  have hj:b'=j:=by
                    rcases c5 with c5 | c5
                    · exact HH.inj _ _ _ _ _ _ _ c2 d7 c5 d8 hs hs'
                    · exact absurd (HH.ro _ _ _ _ c2 c5 hs) (HH.base _ _ _ _ d7 d8 hs')
                  subst hj
                  rcases Nat.lt_or_ge g.1 1000 with hlt | hge
                  · have : g.1 = b' := by
                      have k1:Nat.ble (Nat.succ g.1) 1000=true:=aD.2 hlt
                      rw [k1,cond_true] at c1; exact Option.some.inj c1
                    have:=(hi.1 _ _ d6).1
                    omega
                  · exact hi.2 _ _ _ (res1000 _ _ hge c1) d6
                refine ⟨obj,fun b b' o o' c x y g1 g2 w1 w2 s1 s2=>?_,fun b o c x ho hw hs hc=>?_,fun b o c y ho hr hs=>?_,fun b hb=>?_,lt,h1000,Kept.refl _ _,(by rw [fH]; exact Nat.le_refl _),HH.ok.mono fun c o e'=>⟨⟨HH.below.lt e'.1,fun q hq x hx=>?_⟩,Base.Keeps.has HH.below e'⟩⟩
                · obtain ⟨q,hq,e1⟩:=own _ _ g2 w2
                  rw [← e1] at s2
                  rw [← e1]
                  exact same q hq _ _ _ _ _ g1 s1 s2
                · obtain ⟨q,hq,e1⟩:=own _ _ ho hw
                  rw [← e1] at hs
                  exact hc.2 q hq x hs
                · refine ⟨lt _ _ _ _ ho hs,fun q hq x hx=>?_⟩
                  have hb:=same q hq _ _ _ _ _ ho hs hx
                  obtain ⟨d1,d2,g',d3,d4,d5,_⟩:=outR q hq
                  obtain ⟨g,hg,e1,rfl⟩:=cg _ _ _ _ ho
                  have:=viewUp_inj _ _ k6 g hg g' d3 (by rw [e1,hb,d4])
                  subst this
                  rw [VO.ro_obj,d5] at hr; cases hr
                · rw [fH] at hb
                  simp only [eV]; rw [if_neg (by omega),if_neg (by omega)]
                · obtain ⟨d1,d2,g',d3,d4,d5,j,o',d6,d7,d8,d9⟩:=outR q hq
                  rw [d9] at hx
                  exact HH.base _ _ _ _ d7 d8 hx e'.1
              have key:=bL B d e.f e.args (fI e.n e.view) vs (eV e.n E r) b1 w (fun r=>r=(e.res,h1)) (fun cv w'=>∃ E1,(eV e.n E r).le E1∧HeapOk p E1 h1 b1 w'∧af E1 e.res=some cv)
                (by rw [hq]; rfl) hvo hargs ?_
              · refine ⟨key.1,key.2.mono ?_⟩
                rintro ex w' ⟨cv,rfl,E1,hle,H1,hcv⟩
                obtain ⟨z1,z2,z3⟩:=HH.merge (outs:=e.outs) H1 rfl (fun c=>Iff.rfl) hle k3 (fun q hq=>newOk_get (av k2 q hq))
                  (fun q hq=>by
                    obtain ⟨d1,d2,g',d3,d4,d5,j,o',d6,d7,d8,d9⟩:=outR q hq
                    exact ⟨newOk_get (av k5 q hq),d1,d2,j,o',d6,d7,d8⟩) hn hp
                exact ⟨cv,rfl,P v h3 _ w' cv k z1 z3 (rnV_ok z2 _ _ _ hv hcv)⟩
              · intro v' h' E' w' cv q hle HH' hv'
                cases q
                exact ⟨E',hle,HH',hv'⟩
            · cases hrun
          · cases hm
        · cases hm
      · cases hm
    · cases hm
  · cases hm
theorem entOrc_ok {p:Par} {ty:Nat→Option TI} {tb:hI} (B:b8 p ty tb) {d:Nat} {f:FuncId} {args:List AV} {h:Heap} {t:T (AV × Heap)}:∀ {l:List Ent},bz (Ent.run tb d) l=true→entOrc f args h l=some t→CallOk p f args h t
  | [],_,e=>by cases e
  | x :: l,hl,e=>by
    have e:cond (Nat.beq f x.f) (match x.meet args h with
      | some t=>some t
      | none=>entOrc f args h l) (entOrc f args h l)=some t:=e
    have hx:Ent.run tb d x=true:=av hl x List.mem_cons_self
    have hl':bz (Ent.run tb d) l=true:=by
      have h:cond (Ent.run tb d x) (bz (Ent.run tb d) l) false=true:=hl
      rw [hx] at h; exact h
    cases hf:Nat.beq f x.f with
    | false=>rw [hf] at e; exact entOrc_ok B hl' e
    | true =>
      rw [hf,cond_true] at e
      have:=aq.1 hf
      subst this
      cases hm:x.meet args h with
      | none=>rw [hm] at e; exact entOrc_ok B hl' e
      | some u=>rw [hm] at e; cases e; exact Ent.meet_ok B hx hm
structure RunL (tb:hI) (d:Nat) (k:Nat) (l:List Ent):Prop where
  ok:bz (Ent.run tb d) l=true
theorem entPT_ok {p : Par} {ty : Nat → Option TI} {tb : hI} (B : b8 p ty tb) {d m : Nat} {pt : PT (List Ent)} (H : pt.Every (RunL tb d)) {f : FuncId} {args : List AV} {h : Heap} {t : T (AV × Heap)}
    (e:entPT m pt f args h=some t):CallOk p f args h t:=by
  unfold entPT at e
  split at e
  · rename_i l hl
    exact entOrc_ok B (PT.every_get _ _ H _ _ hl).ok e
  · cases e
end Go.Sx
namespace Go.Sx
open Go.RowKit
noncomputable def dx (lc:C) (ty:Nat→Option TI) (n:Nat) (keep:List Nat) (fid:FuncId):Code→Option C
  | .skip=>some aM
  | .label _=>some aM
  | .region _ ops draw=>cond draw (cDraw ty n keep ops.toList) ((gT ty n keep ops.toList ops.toList).map al)
  | .seq a b=>match dx lc ty n keep fid a,dx lc ty n keep fid b with
    | some a,some b=>some (ae a b)
    | _,_=>none
  | .cond c a b=>match bk c,dx lc ty n keep fid a,dx lc ty n keep fid b with
    | some c,some a,some b=>some (aO c a b)
    | _,_,_=>none
  | .block id a=>(dx lc ty n keep fid a).map (aL id)
  | .loop a=>(dw lc ty n keep fid a).map eP
  | .scope a=>dx lc ty n keep fid a
  | .exit id=>some (dE id)
  | .ret=>some bg
  | _=>none
def hX (p:Par) (n:Nat) (keep:List Nat) (lc:C):Code→Prop
  | .seq a b=>hX p n keep lc a∧hX p n keep lc b
  | .cond _ a b=>hX p n keep lc a∧hX p n keep lc b
  | .block _ a=>hX p n keep lc a
  | .loop a=>fx p n keep lc a
  | .scope a=>hX p n keep lc a
  | _=>True
theorem loopsIn_of {p:Par} {n:Nat} {keep:List Nat} {lc:C}:∀ (c:Code),(∀ a ∈ bd c,fx p n keep lc a)→hX p n keep lc c:=by
  intro c
  induction c with
  | seq a b iha ihb=>exact fun h=>⟨iha fun x hx=>h x (by simp [bd,hx]),ihb fun x hx=>h x (by simp [bd,hx])⟩
  | cond c a b iha ihb=>exact fun h=>⟨iha fun x hx=>h x (by simp [bd,hx]),ihb fun x hx=>h x (by simp [bd,hx])⟩
  | block id a ih=>exact fun h=>ih fun x hx=>h x (by simpa [bd] using hx)
  | loop a=>exact fun h=>h a (by simp [bd])
  | scope a ih=>exact fun h=>ih fun x hx=>h x (by simpa [bd] using hx)
  | _=>exact fun _=>trivial
theorem cCodeI_ok {p : Par} {ty : Nat → Option TI} (TT : ct p.P ty) (hm : p.P.follows .mixedOrders = true) {lc : C} {n : Nat} {keep : List Nat} {fid : FuncId} :
    ∀ (c:Code) (f:C),dx lc ty n keep fid c=some f→hX p n keep lc c→COk p n keep f c:=by
  intro c
  induction c with
  | skip=>intro f h _; simp only [dx,Option.some.injEq] at h; subst h; exact skip_ok
  | label l=>intro f h _; simp only [dx,Option.some.injEq] at h; subst h; exact label_ok
  | region id ops draw =>
    intro f h _
    simp only [dx] at h
    cases draw with
    | true=>exact draw_ok TT hm h
    | false =>
      simp only [cond_false,Option.map_eq_some_iff] at h
      obtain ⟨cs,hcs,rfl⟩:=h
      exact cOps_ok TT hcs
  | seq a b iha ihb =>
    intro f h R
    simp only [dx] at h
    split at h
    · rename_i x y hx hy; cases h; exact seq_ok (iha x hx R.1) (ihb y hy R.2)
    · cases h
  | cond c a b iha ihb =>
    intro f h R
    simp only [dx] at h
    split at h
    · rename_i y x z hy hx hz; cases h; exact cond_ok hy (iha x hx R.1) (ihb z hz R.2)
    · cases h
  | block id a ih =>
    intro f h R
    simp only [dx,Option.map_eq_some_iff] at h
    obtain ⟨x,hx,rfl⟩:=h
    exact block_ok (ih x hx R)
  | loop a ih =>
    intro f h R
    simp only [dx,Option.map_eq_some_iff] at h
    obtain ⟨x,hx,rfl⟩:=h
    exact loop_ok (cCodeX_ok TT hm a x hx R)
  | scope a ih=>exact fun f h R=>scope_ok (ih f h R)
  | exit id=>intro f h _; simp only [dx,Option.some.injEq] at h; subst h; exact exit_ok
  | ret=>intro f h _; simp only [dx,Option.some.injEq] at h; subst h; exact ret_ok
  | _=>intro f h _; simp only [dx] at h; cases h
end Go.Sx
namespace Go.Sx
open Go.RowKit
mutual
def cP (n:Nat):AV→Bool
  | .bool _=>true
  | .int _ _=>true
  | .ptr b _=>Nat.ble (b + 1) n
  | .nilptr=>true
  | .slice b _ _ _=>Nat.ble (b + 1) n
  | .sliceX b _ _ _=>Nat.ble (b + 1) n
  | .nilslice=>true
  | .map b=>Nat.ble (b + 1) n
  | .nilmap=>true
  | .func _ x y=>and (aW n x) (aW n y)
  | .yieldF b=>Nat.ble (b + 1) n
  | .nilFunc=>true
  | .agg l=>aW n l
  | .tup l=>aW n l
  | .opq _=>true
  | .sliceU _=>true
  | .sliceV b _=>Nat.ble (b + 1) n
  | .ptrV b _ _ _ _=>Nat.ble (b + 1) n
  | .bad=>true
def aW (n:Nat):List AV→Bool
  | []=>true
  | a :: l=>and (cP n a) (aW n l)
end
mutual
theorem gm {n:Nat} {E E':Env} (hρ:E'.ρ=E.ρ) (hσ:∀ b,b < n→E'.σ b=E.σ b∧(E.σ b ≠ none→E'.κ b=E.κ b)):∀ (a:AV),cP n a=true→af E' a=af E a
  | .bool _,_=>by simp only [af,hρ]
  | .int _ _,_=>by simp only [af,hρ]
  | .ptr b _,h=>by simp only [af,(hσ b (aD.1 h)).1]
  | .nilptr,_=>rfl
  | .slice b _ _ _,h=>by simp only [af,(hσ b (aD.1 h)).1]
  | .sliceX b _ _ _,h=>by
    simp only [af,(hσ b (aD.1 h)).1]
    cases hb:E.σ b with
    | none=>simp
    | some q=>simp only [(hσ b (aD.1 h)).2 (by rw [hb]; simp)]
  | .nilslice,_=>rfl
  | .map b,h=>by simp only [af,(hσ b (aD.1 h)).1]
  | .nilmap,_=>rfl
  | .func fn x y,h=>by
    simp only [cP,Bool.and_eq_true] at h
    simp only [af,cH hρ hσ x h.1,cH hρ hσ y h.2]
  | .yieldF b,h=>by simp only [af,(hσ b (aD.1 h)).1]
  | .nilFunc,_=>rfl
  | .agg l,h=>by simp only [af,cH hρ hσ l (by simpa [cP] using h)]
  | .tup l,h=>by simp only [af,cH hρ hσ l (by simpa [cP] using h)]
  | .opq _,_=>by simp only [af,hρ]
  | .sliceU _,_=>by simp only [af,hρ]
  | .sliceV b _,h=>by
    simp only [af,hρ,(hσ b (aD.1 h)).1]
    cases hb:E.σ b with
    | none=>simp
    | some q=>simp only [(hσ b (aD.1 h)).2 (by rw [hb]; simp)]
  | .ptrV b _ _ _ _,h=>by simp only [af,hρ,(hσ b (aD.1 h)).1]
  | .bad,_=>rfl
theorem cH {n:Nat} {E E':Env} (hρ:E'.ρ=E.ρ) (hσ:∀ b,b < n→E'.σ b=E.σ b∧(E.σ b ≠ none→E'.κ b=E.κ b)):∀ (l:List AV),aW n l=true→ad E' l=ad E l
  | [],_=>rfl
  | a :: l,h=>by
    simp only [aW,Bool.and_eq_true] at h
    simp only [ad,gm hρ hσ a h.1,cH hρ hσ l h.2]
end
def SameV (ρ:Rho) (v:AV) (ρ':Rho) (v':AV):Prop:=∀ σ κ n m rc rc',af ⟨ρ,σ,κ,n,rc⟩ v=af ⟨ρ',σ,κ,m,rc'⟩ v'
theorem SameV.int {ρ ρ':Rho} {k:IntKind} {e e':IE} (h:e.den ρ=e'.den ρ'):SameV ρ (.int k e) ρ' (.int k e'):=fun _ _ _ _ _ _=>by simp only [af,h]
theorem SameV.bool {ρ ρ':Rho} {e e':BE} (h:e.den ρ=e'.den ρ'):SameV ρ (.bool e) ρ' (.bool e'):=fun _ _ _ _ _ _=>by simp only [af,h]
theorem SameV.opq {ρ ρ':Rho} {i j:Nat} (h:ρ.ov i=ρ'.ov j):SameV ρ (.opq i) ρ' (.opq j):=fun _ _ _ _ _ _=>by simp only [af,h]
theorem SameV.ptr {ρ ρ':Rho} (b o:Nat):SameV ρ (.ptr b o) ρ' (.ptr b o):=fun _ _ _ _ _ _=>rfl
theorem SameV.sliceX {ρ ρ':Rho} (b o l c:Nat):SameV ρ (.sliceX b o l c) ρ' (.sliceX b o l c):=fun _ _ _ _ _ _=>rfl
theorem SameV.agg {ρ ρ':Rho} {l l':List AV} (h:∀ σ κ n m rc rc',ad ⟨ρ,σ,κ,n,rc⟩ l=ad ⟨ρ',σ,κ,m,rc'⟩ l'):SameV ρ (.agg l) ρ' (.agg l'):=fun σ κ n m rc rc'=>by simp only [af,h σ κ n m rc rc']
theorem SameL.nil {ρ ρ':Rho}:∀ σ κ n m rc rc',ad ⟨ρ,σ,κ,n,rc⟩ []=ad ⟨ρ',σ,κ,m,rc'⟩ []:=fun _ _ _ _ _ _=>rfl
theorem SameL.cons {ρ ρ':Rho} {a a':AV} {l l':List AV} (h:SameV ρ a ρ' a') (k:∀ σ κ n m rc rc',ad ⟨ρ,σ,κ,n,rc⟩ l=ad ⟨ρ',σ,κ,m,rc'⟩ l'):∀ σ κ n m rc rc',ad ⟨ρ,σ,κ,n,rc⟩ (a :: l)=ad ⟨ρ',σ,κ,m,rc'⟩ (a' :: l') :=
  fun σ κ n m rc rc'=>by simp only [ad,h σ κ n m rc rc',k σ κ n m rc rc']
noncomputable def putL:List (Nat × AObj)→Heap→Heap
  | [],h=>h
  | q :: l,h=>putL l (h.put q.1 q.2)
theorem putL_next:∀ (l:List (Nat × AObj)) (h:Heap),(putL l h).next=h.next
  | [],_=>rfl
  | q :: l,h=>by rw [putL,putL_next l]; rfl
theorem putL_get:∀ (l:List (Nat × AObj)) (h:Heap) (j:Nat) (o:AObj),(putL l h).get j=some o→(h.get j=some o∧∀ q ∈ l,q.1 ≠ j) ∨ ∃ q ∈ l,q.1=j∧q.2=o
  | [],h,j,o,e=>.inl ⟨e,fun q hq=>by cases hq⟩
  | q :: l,h,j,o,e=>by
    rw [putL] at e
    rcases putL_get l _ j o e with ⟨h1,h2⟩ | ⟨q',h1,h2,h3⟩
    · rw [Heap.get_put] at h1
      by_cases hj:j=q.1
      · rw [if_pos hj] at h1; cases h1
        exact .inr ⟨q,List.mem_cons_self,hj.symm,rfl⟩
      · rw [if_neg hj] at h1
        refine .inl ⟨h1,fun q' hq'=>?_⟩
        rcases List.mem_cons.1 hq' with rfl | hq'
        · exact fun e=>hj e.symm
        · exact h2 q' hq'
    · exact .inr ⟨q',List.mem_cons_of_mem _ h1,h2,h3⟩
theorem HeapOk.putAll {p : Par} {E : Env} {h : Heap} {w0 : Base} {w w' : World} (HH : HeapOk p E h w0 w) {outs : List (Nat × AObj)} (hK : Kept (fun c => c < w.heap.size ∧ ∀ q ∈ outs, ∀ x, E.σ q.1 ≠ some (c, x)) w w')
    (hout:∀ q ∈ outs,bN q.2=true∧objOk p E q.1 q.2 w'.heap∧∃ o0,h.get q.1=some o0∧bN o0=true):HeapOk p E (putL outs h) w0 w':=by
  have kinds:∀ j o,(putL outs h).get j=some o→∃ o0,h.get j=some o0∧((o0=o∧∀ q ∈ outs,q.1 ≠ j) ∨ (bN o0=true∧bN o=true∧objOk p E j o w'.heap)):=fun j o e=>by
    rcases putL_get outs h j o e with ⟨h1,h2⟩ | ⟨q,hq,rfl,rfl⟩
    · exact ⟨o,h1,.inl ⟨rfl,h2⟩⟩
    · obtain ⟨a1,a2,o0,a3,a4⟩:=hout q hq
      exact ⟨o0,a3,.inr ⟨a4,a1,a2⟩⟩
  have no:∀ j o0 c x,h.get j=some o0→(∀ q ∈ outs,q.1 ≠ j)→(bN o0=true ∨ roO o0=true)→E.σ j=some (c,x)→∀ q ∈ outs,∀ y,E.σ q.1 ≠ some (c,y):=fun j o0 c x g hne hk hc q hq y hy=>by
    obtain ⟨_,_,o1,a3,a4⟩:=hout q hq
    rcases hk with hk | hk
    · exact hne q hq (HH.inj _ _ _ _ _ _ _ a3 g a4 hk hy hc)
    · exact HH.base _ _ _ _ a3 a4 hy (HH.ro _ _ _ _ g hk hc)
  refine ⟨fun j o ho=>?_,fun b b' o o' c x y g1 g2 w1 w2 s1 s2=>?_,fun b o c x ho ow s=>?_,fun b o c y hg hr s=>?_,fun b hb=>?_,fun b o c x ho s=>?_,HH.glob,?_,?_,HH.ok⟩
  · obtain ⟨o0,g,⟨rfl,hne⟩ | ⟨_,_,hok⟩⟩:=kinds j o ho
    · exact (HH.obj j o0 g).mono (Env.le0.refl E) (fun h=>h) (fun c x hc hk=>hK.block c ⟨HH.lt _ _ _ _ g hc,no j o0 c x g hne hk hc⟩)
    · exact hok
  · have f : ∀ b o, (putL outs h).get b = some o → bN o = true → ∃ o0, h.get b = some o0 ∧ bN o0 = true := fun b o g hw => by
      obtain ⟨o0,g',⟨rfl,_⟩ | ⟨hw',_⟩⟩:=kinds b o g
      · exact ⟨o0,g',hw⟩
      · exact ⟨o0,g',hw'⟩
    obtain ⟨o0,k1,k2⟩:=f b o g1 w1
    obtain ⟨o0',k1',k2'⟩:=f b' o' g2 w2
    exact HH.inj _ _ _ _ _ _ _ k1 k1' k2 k2' s1 s2
  · obtain ⟨o0,g,⟨rfl,_⟩ | ⟨hw,_⟩⟩:=kinds b o ho
    · exact HH.base _ _ _ _ g ow s
    · exact HH.base _ _ _ _ g hw s
  · obtain ⟨o0,g,⟨rfl,_⟩ | ⟨_,hw,_⟩⟩:=kinds b o hg
    · exact HH.ro _ _ _ _ g hr s
    · rw [gk hw] at hr; cases hr
  · rw [putL_next] at hb; exact HH.fresh b hb
  · obtain ⟨o0,g,_⟩:=kinds b o ho
    exact Nat.lt_of_lt_of_le (HH.lt _ _ _ _ g s) hK.size
  · refine HH.below.trans ⟨hK.os,hK.tape,hK.output,hK.size,fun c hc=>hK.block c ⟨HH.below.lt hc,fun q hq y hy=>?_⟩⟩
    obtain ⟨_,_,o1,a3,a4⟩:=hout q hq
    exact HH.base _ _ _ _ a3 a4 hy hc
  · rw [putL_next]; exact HH.nx
structure VB where
  id:Nat
  cs:List AV
  own:Option (TypeId × Bool)
  u:Option (Nat × List Bool)
noncomputable def VB.obj (v:VB):AObj :=
  match v.own with
  | none=>(match v.u with
    | none=>.cells v.cs 0 false false
    | some q=>.ucells q.1 q.2)
  | some q=>.cells v.cs q.1 true q.2
theorem VB.own_obj (v:VB):bN v.obj=v.own.isSome:=by unfold VB.obj; cases v.own with | some q=>rfl | none=>cases v.u <;> rfl
theorem VB.ro_obj (v:VB):roO v.obj=!v.own.isSome:=by unfold VB.obj; cases v.own with | some q=>rfl | none=>cases v.u <;> rfl
def SameU (ρ ρ':Rho) (u:Option (Nat × List Bool)):Prop:=∀ q,u=some q→ρ.iv q.1=ρ'.iv q.1∧∀ n off k,cellOf ρ q.1 n off k=cellOf ρ' q.1 n off k
theorem SameU.none (ρ ρ':Rho):SameU ρ ρ' none:=fun q h=>by cases h
noncomputable def vbHeap (n:Nat):List VB→Heap
  | []=>⟨.nil,n⟩
  | g :: l=>(vbHeap n l).put g.id g.obj
theorem vbHeap_next (n:Nat):∀ l,(vbHeap n l).next=n
  | []=>rfl
  | g :: l=>by rw [vbHeap,Heap.next_put]; exact vbHeap_next n l
theorem dJ (n:Nat):∀ (l:List VB) (b:Nat) (o:AObj),(vbHeap n l).get b=some o→∃ g ∈ l,g.id=b∧o=g.obj
  | [],b,o,h=>by
    have:(PT.nil:PT AObj).get b=some o:=h
    rw [PT.get_nil] at this; cases this
  | g :: l,b,o,h=>by
    rw [vbHeap,Heap.get_put] at h
    by_cases c:b=g.id
    · rw [if_pos c] at h; cases h; exact ⟨g,List.mem_cons_self,c.symm,rfl⟩
    · rw [if_neg c] at h
      obtain ⟨g',h1,h2⟩:=dJ n l b o h
      exact ⟨g',List.mem_cons_of_mem _ h1,h2⟩
structure Tmpl where
  sl:List (Nat × AV)
  view:List VB
  nv:Nat
noncomputable def Tmpl.st (T:Tmpl):St:=⟨⟨[],treeOf T.sl⟩,[],vbHeap T.nv T.view⟩
def Tmpl.env (T:Tmpl) (σ:Nat→Option (Nat × Nat)) (κ:Nat→Nat) (ρ:Rho):Env:=⟨ρ,σ,κ,T.nv,fun _=>#[]⟩
def Tmpl.keeps (T:Tmpl) (σ:Nat→Option (Nat × Nat)) (w:World) (c:Nat):Prop:=c < w.heap.size∧∀ g ∈ T.view,g.own.isSome=true→∀ x,σ g.id ≠ some (c,x)
structure LInv (p:Par) (T:Tmpl) (n:Nat) (σ:Nat→Option (Nat × Nat)) (κ:Nat→Nat) (ρ:Rho) (w0:World) (a:Act) (w:World):Prop where
  size:n≤a.tmps.size
  df:a.defers=[]
  at_:∀ g ∈ T.sl,∃ v,af (T.env σ κ ρ) g.2=some v∧a.tmps[g.1]?=some v
  view:∀ g ∈ T.view,objOk p (T.env σ κ ρ) g.id g.obj w.heap∧∃ c x,σ g.id=some (c,x)∧c < w.heap.size
  kept:Kept (T.keeps σ w0) w0 w
def SameL (ρ:Rho) (l:List AV) (ρ':Rho) (l':List AV):Prop:=∀ σ κ n m rc rc',ad ⟨ρ,σ,κ,n,rc⟩ l=ad ⟨ρ',σ,κ,m,rc'⟩ l'
def Next (T:Tmpl) (ρ ρ':Rho) (s:St):Prop:=s.df=[]∧(∀ g ∈ T.sl,∃ v,s.tm.tree.get g.1=some v∧SameV ρ v ρ' g.2) ∧
  ∀ g ∈ T.view,match g.own with
    | none=>SameL ρ g.cs ρ' g.cs∧SameU ρ ρ' g.u
    | some q=>∃ cs,s.h.get g.id=some (.cells cs q.1 true q.2)∧SameL ρ cs ρ' g.cs
structure TOk (T:Tmpl) (keep:List Nat) (σ:Nat→Option (Nat × Nat)):Prop where
  keep:∀ g ∈ T.sl,memN keep (some g.1)=true
  ids:∀ g ∈ T.sl,cP T.nv g.2=true
  idsV:∀ g ∈ T.view,aW T.nv g.cs=true∧g.id < T.nv
  fresh:∀ b,T.nv≤b→σ b=none
  glob:∀ b,b < 1000→σ b=some (b,0)
  inj:∀ g ∈ T.view,g.own.isSome=true→∀ g' ∈ T.view,∀ c x y,σ g.id=some (c,x)→σ g'.id=some (c,y)→g=g'
theorem concL_env {T:Tmpl} {σ:Nat→Option (Nat × Nat)} {κ:Nat→Nat} {ρ ρ':Rho} {E':Env} (hle:(T.env σ κ ρ).le E') {cs cs':List AV} {vs:List Value} (hi:aW T.nv cs'=true) (hs:SameL ρ cs ρ' cs') (h:ad E' cs=some vs):ad (T.env σ κ ρ') cs'=some vs:=by
  have e1:ad ⟨ρ',E'.σ,E'.κ,T.nv,fun _=>#[]⟩ cs'=some vs:=by
    have:=hs E'.σ E'.κ E'.n T.nv E'.rc (fun _=>#[])
    rw [← this,← h]
    have hρ:E'.ρ=ρ:=hle.ρ
    rw [← hρ]
  rw [← e1]
  refine (cH (E:=T.env σ κ ρ') (E':=⟨ρ',E'.σ,E'.κ,T.nv,fun _=>#[]⟩) rfl (fun b hb=>?_) cs' hi).symm
  cases hs':σ b with
  | none=>exact ⟨(hle.none b hb hs').trans hs'.symm,fun h=>absurd hs' h⟩
  | some q=>exact ⟨(hle.σ b q hs').trans hs'.symm,fun _=>hle.κ b q hs'⟩
theorem conc_env {T:Tmpl} {σ:Nat→Option (Nat × Nat)} {κ:Nat→Nat} {ρ ρ':Rho} {E':Env} (hle:(T.env σ κ ρ).le E') {v v':AV} {u:Value} (hi:cP T.nv v'=true) (hs:SameV ρ v ρ' v') (h:af E' v=some u):af (T.env σ κ ρ') v'=some u:=by
  have hs':SameL ρ [v] ρ' [v']:=fun σ κ n m rc rc'=>by simp only [ad,hs σ κ n m rc rc']
  have hc:ad E' [v]=some [u]:=by simp only [ad,h]
  have:=concL_env (ρ':=ρ') hle (by simp [aW,hi]) hs' hc
  obtain ⟨x,r,h1,h2,h3⟩:=ap.1 this
  cases h3
  exact h1
theorem loop_step {p : Par} {n : Nat} {keep : List Nat} {body : C} {code : Code} (hf : COk p n keep body code) {T : Tmpl} {σ : Nat → Option (Nat × Nat)} {κ : Nat → Nat} (K : TOk T keep σ) {cx : Cx} (CX : CxOk p cx) {wh : Wh} {rd : Option Nat} (hwr : wh.rd = none) (hrd : rd = none)
    {ρ:Rho} {m:Nat→Obj→Prop} (hok:p.ok ρ m) {w0:World} (hm:∀ c o,m c o→T.keeps σ w0 c∧w0.heap[c]?=some o) {a:Act} {w:World} (I:LInv p T n σ κ ρ w0 a w) {Nx:Rho→Prop} {Out:Ex→St→Prop}
    (round:(body cx wh T.st).Holds ρ fun r=>(r.1=.norm∧∃ ρ',Nx ρ'∧Next T ρ ρ' r.2) ∨ (r.1 ≠ .norm∧Out r.1 r.2)) {Q':Exit→Act→World→Prop}
    (go:∀ ρ' a' w',Nx ρ'→LInv p T n σ κ ρ' w0 a' w'→Q' .normal a' w')
    (exit:∀ x s' E' b a' w',x ≠ .norm→Out x s'→(T.env σ κ ρ).le E'→StOk p n keep E' b s' a' w'→Kept (T.keeps σ w0) w0 w'→(∀ g ∈ T.view,∃ c x,σ g.id=some (c,x))→Q' (exOf x) a' w'):code.wpIn (ej rd) 0 p.P Q' a w:=by
  let b:Base:=⟨w,T.keeps σ w,fun c hc=>hc.1⟩
  have lt:∀ j o c x,(vbHeap T.nv T.view).get j=some o→(T.env σ κ ρ).σ j=some (c,x)→c < w.heap.size:=fun j o c x ho hs=>by
    obtain ⟨g,hg,rfl,rfl⟩:=dJ _ _ _ _ ho
    obtain ⟨c',x',h1,h2⟩:=(I.view g hg).2
    have h1':(T.env σ κ ρ).σ g.id=some (c',x'):=h1
    rw [h1'] at hs; cases hs; exact h2
  have HH:HeapOk p (T.env σ κ ρ) (vbHeap T.nv T.view) b w:=by
    refine ⟨fun j o ho=>?_,fun j j' o o' c x y g1 g2 w1 w2 s1 s2=>?_,fun j o c x ho hw hs hc=>?_,fun j o c y ho hr hs=>?_,fun j hj=>?_,lt,K.glob,Kept.refl _ _,(by rw [vbHeap_next]; exact Nat.le_refl _),⟨m,hok,fun c o e=>⟨⟨Nat.lt_of_lt_of_le (hm c o e).1.1 I.kept.size,(hm c o e).1.2⟩,(I.kept.block c (hm c o e).1).trans (hm c o e).2⟩⟩⟩
    · obtain ⟨g,hg,rfl,rfl⟩:=dJ _ _ _ _ ho
      exact (I.view g hg).1
    · obtain ⟨g,hg,rfl,rfl⟩:=dJ _ _ _ _ g1
      obtain ⟨g',hg',rfl,rfl⟩:=dJ _ _ _ _ g2
      rw [VB.own_obj] at w1
      rw [K.inj g hg w1 g' hg' c x y s1 s2]
    · obtain ⟨g,hg,rfl,rfl⟩:=dJ _ _ _ _ ho
      rw [VB.own_obj] at hw
      exact hc.2 g hg hw x hs
    · refine ⟨lt j o c y ho hs,fun g' hg' hw x hx=>?_⟩
      obtain ⟨g,hg,rfl,rfl⟩:=dJ _ _ _ _ ho
      have:=K.inj g' hg' hw g hg c x y hx hs
      subst this
      rw [VB.ro_obj,hw] at hr; cases hr
    · rw [vbHeap_next] at hj; exact K.fresh j hj
  have HT:TreeOk keep (T.env σ κ ρ) (treeOf T.sl) a.tmps:=⟨fun t A hA=>by
    have hm:=treeOf_get _ _ _ hA
    obtain ⟨v,h1,h2⟩:=I.at_ _ hm
    exact ⟨K.keep _ hm,v,h1,h2⟩⟩
  have S:StOk p n keep (T.env σ κ ρ) b T.st a w:=⟨⟨I.size,fun t A h=>(by cases h),HT⟩,by rw [I.df]; trivial,HH⟩
  refine hf cx CX wh rd (T.env σ κ ρ) b w T.st a _ Q' (by rw [hwr,hrd]; trivial) S round ?_
  intro x s' E' w' a' q hle S'
  have hk:Kept (T.keeps σ w) w w':=S'.hp.below
  have hb:Kept (T.keeps σ w0) w0 w':=I.kept.trans ⟨hk.os,hk.tape,hk.output,hk.size,fun c hc=>hk.block c ⟨Nat.lt_of_lt_of_le hc.1 I.kept.size,hc.2⟩⟩
  rcases q with ⟨hx,ρ',hN,hdf,hsl,hvw⟩ | ⟨hx,ho⟩
  · simp only at hx hdf hsl hvw
    subst hx
    refine go ρ' a' w' hN ⟨S'.tm.size,?_,fun g hg=>?_,fun g hg=>?_,hb⟩
    · have:=S'.df
      rw [hdf] at this
      cases hd:a'.defers with
      | nil=>rfl
      | cons d ds=>rw [hd] at this; exact this.elim
    · obtain ⟨v,h1,h2⟩:=hsl g hg
      obtain ⟨_,u,h3,h4⟩:=S'.tm.tree.at_ _ _ h1
      exact ⟨u,conc_env hle (K.ids g hg) h2 h3,h4⟩
    · obtain ⟨hok,c,x,hσ,hlt⟩:=I.view g hg
      refine ⟨?_,c,x,hσ,Nat.lt_of_lt_of_le hlt hk.size⟩
      have hv:=hvw g hg
      cases hown:g.own with
      | none =>
        rw [hown] at hv
        obtain ⟨hv,hu⟩:=hv
        have hσ':(T.env σ κ ρ).σ g.id=some (c,x):=hσ
        have hsame:w'.heap[c]?=w.heap[c]?:=hk.block c ⟨hlt,fun g' hg' hw y hy=>by
          have:=K.inj g' hg' hw g hg c y x hy hσ
          subst this
          rw [hown] at hw; cases hw⟩
        cases hgu:g.u with
        | none =>
          have e:g.obj=.cells g.cs 0 false false:=by unfold VB.obj; rw [hown]; simp only [hgu]
          rw [e] at hok ⊢
          obtain ⟨c',base,vs,cells,el,fz,k1,k2,k3,k4,k5⟩:=hok
          rw [hσ'] at k1; cases k1
          refine ⟨c,x,vs,cells,el,fz,hσ,?_,?_,k4,fun h=>by cases h⟩
          · rw [← k2]; exact (hv σ κ T.nv T.nv (fun _=>#[]) (fun _=>#[])).symm
          · rw [hsame]; exact k3
        | some q =>
          have e:g.obj=.ucells q.1 q.2:=by unfold VB.obj; rw [hown]; simp only [hgu]
          rw [e] at hok ⊢
          obtain ⟨c',base,cells,el,fz,k1,k3,k4⟩:=hok
          rw [hσ'] at k1; cases k1
          obtain ⟨u1,u2⟩:=hu q hgu
          have u1:ρ.iv q.1=ρ'.iv q.1:=u1
          refine ⟨c,x,cells,el,fz,hσ,by rw [hsame]; exact k3,fun n off k hn hk=>?_⟩
          have hn:(n:Int) < ρ'.iv q.1:=hn
          rw [← u1] at hn
          rw [k4 n off k hn hk]
          exact congrArg some (u2 n off k)
      | some q =>
        rw [hown] at hv
        obtain ⟨cs,hget,hs⟩:=hv
        have e:g.obj=.cells g.cs q.1 true q.2:=by unfold VB.obj; rw [hown]
        rw [e]
        obtain ⟨c',base,vs,cells,el,fz,k1,k2,k3,k4,k5⟩:=S'.hp.obj _ _ hget
        have hσ':(T.env σ κ ρ).σ g.id=some (c,x):=hσ
        have h6:=hle.σ _ _ hσ'
        rw [k1] at h6; cases h6
        refine ⟨c,x,vs,cells,el,fz,hσ,concL_env hle (K.idsV g hg).1 hs k2,k3,k4,fun h=>?_⟩
        have hκ:E'.κ g.id=κ g.id:=hle.κ _ _ hσ'
        obtain ⟨m1,m2,m3,m4⟩:=k5 h
        exact ⟨m1,m2,m3,fun h=>by have:=m4 h; rw [hκ] at this; exact this⟩
  · exact exit x s' E' b a' w' hx ho hle S' hb (fun g hg => by
      obtain ⟨c,x,h1,_⟩:=(I.view g hg).2
      exact ⟨c,x,h1⟩)
theorem loop_rounds {p : Par} {n : Nat} {keep : List Nat} {body : C} {code : Code} (hf : COk p n keep body code) {T : Tmpl} {σ : Nat → Option (Nat × Nat)} {κ : Nat → Nat} (K : TOk T keep σ) {cx : Cx} (CX : CxOk p cx) {wh : Wh} {rd : Option Nat} (hwr : wh.rd = none) (hrd : rd = none)
    {w0:World} {M:Nat} {At:Nat→Rho→Prop} {Out:Rho→Ex→St→Prop} {m:Nat→Obj→Prop} (hAt:∀ i ρ,At i ρ→p.ok ρ m) (hm:∀ c o,m c o→T.keeps σ w0 c∧w0.heap[c]?=some o)
    (round:∀ i ρ,i≤M→At i ρ→(body cx wh T.st).Holds ρ fun r=>(r.1=.norm∧∃ ρ',(i < M∧At (i + 1) ρ')∧Next T ρ ρ' r.2) ∨ (r.1 ≠ .norm∧Out ρ r.1 r.2)) {Q':Exit→Act→World→Prop}
    (exit:∀ i ρ x s' E' b a' w',At i ρ→x ≠ .norm→Out ρ x s'→(T.env σ κ ρ).le E'→StOk p n keep E' b s' a' w'→Kept (T.keeps σ w0) w0 w'→(∀ g ∈ T.view,∃ c x,σ g.id=some (c,x))→Q' (exOf x) a' w') :
    ∀ (k i:Nat) (ρ:Rho) (a:Act) (w:World),i + k=M→At i ρ→LInv p T n σ κ ρ w0 a w→Code.roundsIn (ej rd) 0 p.P code Q' (k + 1) a w
  | k,i,ρ,a,w,hik,hA,I=>by
    rw [roundsIn_succ]
    have ex:∀ x s' E' b a' w',x ≠ .norm→Out ρ x s'→(T.env σ κ ρ).le E'→StOk p n keep E' b s' a' w'→Kept (T.keeps σ w0) w0 w'→(∀ g ∈ T.view,∃ c x,σ g.id=some (c,x))→Exit.then (Code.roundsIn (ej rd) 0 p.P code Q' k) Q' (exOf x) a' w':=fun x s' E' b a' w' hx ho hle S' hb hv=>by
      have:=exit i ρ x s' E' b a' w' hA hx ho hle S' hb hv
      cases x with
      | norm=>exact absurd rfl hx
      | exit id=>exact this
      | ret=>exact this
    refine loop_step hf K CX hwr hrd (hAt i ρ hA) hm I (Nx:=fun ρ'=>i < M∧At (i + 1) ρ') (Out:=Out ρ) (round i ρ (by omega) hA) (fun ρ' a' w' hN I'=>?_) ex
    cases k with
    | zero=>omega
    | succ k=>exact loop_rounds hf K CX hwr hrd hAt hm round exit k (i + 1) ρ' a' w' (by omega) hN.2 I'
structure Bd where
  is:List (Nat × IE)
  os:List (Nat × AV)
  r:Ren
  bs:List (Nat × BE)
noncomputable def bdI (x e:IE) (B:Bd):Option Bd :=
  match x with
  | .var j=>(match aA B.is j with
    | some e'=>cond (gX e' e) (some B) none
    | none=>some ⟨(j,e) :: B.is,B.os,B.r,B.bs⟩)
  | .lit z=>cond (gX (.lit z) e) (some B) none
  | _=>none
noncomputable def bdB (a b:BE) (B:Bd):Option Bd :=
  match a with
  | .lit x=>(match b with
    | .lit y=>cond (beqB x y) (some B) none
    | _=>none)
  | .var j=>(match aA B.bs j with
    | some b'=>cond (eqBE b' b) (some B) none
    | none=>some ⟨B.is,B.os,B.r,(j,b) :: B.bs⟩)
  | _=>none
noncomputable def bdR (n b b':Nat) (B:Bd):Option Bd :=
  match bindR n b b' B.r with
  | some r=>some ⟨B.is,B.os,r,B.bs⟩
  | none=>none
noncomputable def bdO (j:Nat) (v:AV) (B:Bd):Option Bd :=
  match aA B.os j with
  | some v'=>cond (eqAV v' v) (some B) none
  | none=>some ⟨B.is,(j,v) :: B.os,B.r,B.bs⟩
mutual
noncomputable def bdV (n:Nat):AV→AV→Bd→Option Bd
  | .int k x,.int k' e,B=>cond (dv k k') (bdI x e B) none
  | .opq j,v,B=>bdO j v B
  | .sliceU i,.sliceU j,B=>(match bdI (.var i) (.var j) B with
    | some B'=>bdO i (.sliceU j) B'
    | none=>none)
  | .ptr b o,.ptr b' o',B=>cond (Nat.beq o o') (bdR n b b' B) none
  | .slice b o l c,.slice b' o' l' c',B=>cond (and (Nat.beq o o') (and (Nat.beq l l') (Nat.beq c c'))) (bdR n b b' B) none
  | .sliceX b o l c,.sliceX b' o' l' c',B=>cond (and (Nat.beq o o') (and (Nat.beq l l') (Nat.beq c c'))) (bdR n b b' B) none
  | .map b,.map b',B=>cond true (bdR n b b' B) none
  | .sliceV b i,.sliceV b' j,B=>(match bdI (.var i) (.var j) B with
    | some B'=>cond true (bdR n b b' B') none
    | none=>none)
  | .agg x,.agg y,B=>bdL n x y B
  | .tup x,.tup y,B=>bdL n x y B
  | .func fn x y,.func fn' x' y',B=>cond (eqFn fn fn') (match bdL n x x' B with
    | some B'=>bdL n y y' B'
    | none=>none) none
  | .bool a,.bool b,B=>bdB a b B
  | .nilptr,.nilptr,B=>some B
  | .nilslice,.nilslice,B=>some B
  | .nilmap,.nilmap,B=>some B
  | .nilFunc,.nilFunc,B=>some B
  | _,_,_=>none
noncomputable def bdL (n:Nat):List AV→List AV→Bd→Option Bd
  | [],[],B=>some B
  | a :: l,b :: m,B=>(match bdV n a b B with
    | some B'=>bdL n l m B'
    | none=>none)
  | _,_,_=>none
end
structure RelD (n:Nat) (E ES:Env) (B:Bd):Prop where
  is:∀ j e,aA B.is j=some e→ES.ρ.iv j=e.den E.ρ
  os:∀ j v,aA B.os j=some v→af E v=some (ES.ρ.ov j)
  lo:∀ b,b < 1000→ES.σ b=E.σ b∧ES.κ b=E.κ b
  at_:∀ b c,1000≤b→b < n→aA B.r b=some c→ES.σ b=E.σ c∧ES.κ b=E.κ c
  bs:∀ j e,aA B.bs j=some e→ES.ρ.bv j=e.den E.ρ
structure SubD (n:Nat) (B B':Bd):Prop where
  is:∀ j e,aA B.is j=some e→aA B'.is j=some e
  os:∀ j v,aA B.os j=some v→aA B'.os j=some v
  r:SubR n B.r B'.r
  bs:∀ j e,aA B.bs j=some e→aA B'.bs j=some e
theorem SubD.refl (n:Nat) (B:Bd):SubD n B B:=⟨fun _ _ h=>h,fun _ _ h=>h,SubR.refl _ _,fun _ _ h=>h⟩
theorem SubD.trans {n:Nat} {A B C:Bd} (h:SubD n A B) (k:SubD n B C):SubD n A C:=⟨fun j e h1=>k.is j e (h.is j e h1),fun j v h1=>k.os j v (h.os j v h1),h.r.trans k.r,fun j v h1=>k.bs j v (h.bs j v h1)⟩
theorem RelD.sub {n:Nat} {E ES:Env} {B B':Bd} (h:RelD n E ES B') (k:SubD n B B'):RelD n E ES B :=
  ⟨fun j e h1=>h.is j e (k.is j e h1),fun j v h1=>h.os j v (k.os j v h1),h.lo,fun b c h1 h2 h3=>h.at_ b c h1 h2 (k.r b c h1 h2 h3),fun j e h1=>h.bs j e (k.bs j e h1)⟩
def gp (E:Env) (B:Bd):Prop:=∀ j v,aA B.os j=some v→∃ u,af E v=some u
structure BdOk (n:Nat) (B B':Bd) (A:Env→Value→Prop) (A':Env→Value→Prop):Prop where
  sub:SubD n B B'
  good:∀ E u,A' E u→gp E B→gp E B'
  same:∀ E ES u,RelD n E ES B'→A' E u→A ES u
theorem bd_bind {n b b' : Nat} {B B' : Bd} {c : Bool} (h : cond c (bdR n b b' B) none = some B') :
    c=true∧SubD n B B'∧B'.os=B.os∧∀ E ES,RelD n E ES B'→ES.σ b=E.σ b'∧ES.κ b=E.κ b':=by
  obtain ⟨hc,h⟩:=ak h
  unfold bdR at h
  split at h
  · rename_i r hr
    cases h
    obtain ⟨q1,q2⟩:=bindR_ok hr
    exact ⟨hc,⟨fun _ _ h=>h,fun _ _ h=>h,q1,fun _ _ h=>h⟩,rfl,fun E ES R=>q2 ⟨E.ρ,E.σ,E.κ,E.n,E.rc⟩ ⟨E.ρ,ES.σ,ES.κ,ES.n,ES.rc⟩ ⟨rfl,R.lo,R.at_⟩⟩
  · cases h
theorem bdI_ok {n:Nat} {k:IntKind} {x e:IE} {B B':Bd} (h:bdI x e B=some B'):BdOk n B B' (fun E u=>af E (.int k x)=some u) (fun E u=>af E (.int k e)=some u):=by
  unfold bdI at h
  split at h
  · rename_i j
    split at h
    · rename_i e' he'
      obtain ⟨h1,h2⟩:=ak h
      cases h2
      have:=bu _ _ h1; subst this
      exact ⟨SubD.refl _ _,fun _ _ _ g=>g,fun E ES u R hu=>by simp only [af,IE.den,R.is _ _ he'] at hu ⊢; exact hu⟩
    · rename_i hn
      cases h
      refine ⟨⟨fun i e1 hi=>?_,fun _ _ h=>h,SubR.refl _ _,fun _ _ h=>h⟩,fun _ _ _ g=>g,fun E ES u R hu=>?_⟩
      · rw [aN]
        cases hb:Nat.beq j i with
        | true=>have:=aq.1 hb; subst this; rw [hn] at hi; cases hi
        | false=>exact hi
      · have:=R.is j e (by rw [aN,aq.2 rfl]; rfl)
        simp only [af,IE.den,this] at hu ⊢; exact hu
  · obtain ⟨h1,h2⟩:=ak h
    cases h2
    have:=bu _ _ h1; subst this
    exact ⟨SubD.refl _ _,fun _ _ _ g=>g,fun E ES u R hu=>by simp only [af,IE.den] at hu ⊢; exact hu⟩
  · cases h
theorem bdB_ok {n:Nat} {a b:BE} {B B':Bd} (h:bdB a b B=some B'):BdOk n B B' (fun E u=>af E (.bool a)=some u) (fun E u=>af E (.bool b)=some u):=by
  unfold bdB at h
  split at h
  · split at h
    · obtain ⟨h1,h2⟩:=ak h
      cases h2
      have:=eN h1; subst this
      exact ⟨SubD.refl _ _,fun _ _ _ g=>g,fun E ES u R hu=>by simp only [af,BE.den] at hu ⊢; exact hu⟩
    · cases h
  · rename_i j
    split at h
    · rename_i b' hb'
      obtain ⟨h1,h2⟩:=ak h
      cases h2
      have:=dr _ _ h1; subst this
      exact ⟨SubD.refl _ _,fun _ _ _ g=>g,fun E ES u R hu=>by simp only [af,BE.den,R.bs _ _ hb'] at hu ⊢; exact hu⟩
    · rename_i hn
      cases h
      refine ⟨⟨fun _ _ h=>h,fun _ _ h=>h,SubR.refl _ _,fun i e1 hi=>?_⟩,fun _ _ _ g=>g,fun E ES u R hu=>?_⟩
      · rw [aN]
        cases hb:Nat.beq j i with
        | true=>have:=aq.1 hb; subst this; rw [hn] at hi; cases hi
        | false=>exact hi
      · have:=R.bs j b (by rw [aN,aq.2 rfl]; rfl)
        simp only [af,BE.den,this] at hu ⊢; exact hu
  · cases h
theorem bdO_ok {n j:Nat} {v:AV} {B B':Bd} (h:bdO j v B=some B'):BdOk n B B' (fun E u=>af E (.opq j)=some u) (fun E u=>af E v=some u):=by
  unfold bdO at h
  split at h
  · rename_i v' hv'
    obtain ⟨h1,h2⟩:=ak h
    cases h2
    have:=dZ _ _ h1; subst this
    exact ⟨SubD.refl _ _,fun _ _ _ g=>g,fun E ES u R hu=>by have:=R.os _ _ hv'; rw [hu] at this; simp only [af]; exact this.symm⟩
  · rename_i hn
    cases h
    refine ⟨⟨fun _ _ h=>h,fun i e1 hi=>?_,SubR.refl _ _,fun _ _ h=>h⟩,fun E u hu g i v1 hi=>?_,fun E ES u R hu=>?_⟩
    · rw [aN]
      cases hb:Nat.beq j i with
      | true=>have:=aq.1 hb; subst this; rw [hn] at hi; cases hi
      | false=>exact hi
    · rw [aN] at hi
      cases hb:Nat.beq j i with
      | true=>rw [hb] at hi; cases hi; exact ⟨u,hu⟩
      | false=>rw [hb] at hi; exact g i v1 hi
    · have:=R.os j v (by rw [aN,aq.2 rfl]; rfl)
      rw [hu] at this; simp only [af]; exact this.symm
mutual
theorem bdV_ok {n:Nat}:∀ (a a':AV) (B B':Bd),bdV n a a' B=some B'→BdOk n B B' (fun E u=>af E a=some u) (fun E u=>af E a'=some u)
  | .int k x,a',B,B',h=>by
    cases a' <;> simp only [bdV] at h <;> first | (cases h; done) | skip
    rename_i k' e
    obtain ⟨hk,h2⟩:=ak h
    have hk:=cm hk
    subst hk
    exact bdI_ok h2
  | .opq j,v,B,B',h=>by
    simp only [bdV] at h
    exact bdO_ok h
  | .ptr b o,a',B,B',h=>by
    cases a' <;> simp only [bdV] at h <;> first | (cases h; done) | skip
    obtain ⟨h1,h2,h3,h4⟩:=bd_bind h
    have:=aq.1 h1; subst this
    exact ⟨h2,fun E u _ g=>by unfold gp; rw [h3]; exact g,fun E ES u R hu=>by simp only [af,(h4 E ES R).1] at hu ⊢; exact hu⟩
  | .slice b o l c,a',B,B',h=>by
    cases a' <;> simp only [bdV] at h <;> first | (cases h; done) | skip
    obtain ⟨h1,h2,h3,h4⟩:=bd_bind h
    simp only [Bool.and_eq_true] at h1
    have e1:=aq.1 h1.1; have e2:=aq.1 h1.2.1; have e3:=aq.1 h1.2.2; subst e1; subst e2; subst e3
    exact ⟨h2,fun E u _ g=>by unfold gp; rw [h3]; exact g,fun E ES u R hu=>by simp only [af,(h4 E ES R).1] at hu ⊢; exact hu⟩
  | .sliceX b o l c,a',B,B',h=>by
    cases a' <;> simp only [bdV] at h <;> first | (cases h; done) | skip
    obtain ⟨h1,h2,h3,h4⟩:=bd_bind h
    simp only [Bool.and_eq_true] at h1
    have e1:=aq.1 h1.1; have e2:=aq.1 h1.2.1; have e3:=aq.1 h1.2.2; subst e1; subst e2; subst e3
    exact ⟨h2,fun E u _ g=>by unfold gp; rw [h3]; exact g,fun E ES u R hu=>by simp only [af,(h4 E ES R).1,(h4 E ES R).2] at hu ⊢; exact hu⟩
  | .agg x,a',B,B',h=>by
    cases a' <;> simp only [bdV] at h <;> first | (cases h; done) | skip
    obtain ⟨q1,q2,q3⟩:=bdL_ok x _ B B' h
    refine ⟨q1,fun E u hu g=>?_,fun E ES u R hu=>?_⟩
    · simp only [af,Option.map_eq_some_iff] at hu
      obtain ⟨us,h1,_⟩:=hu
      exact q2 E us h1 g
    · simp only [af,Option.map_eq_some_iff] at hu ⊢
      obtain ⟨us,h1,h2⟩:=hu
      exact ⟨us,q3 E ES us R h1,h2⟩
  | .tup x,a',B,B',h=>by
    cases a' <;> simp only [bdV] at h <;> first | (cases h; done) | skip
    obtain ⟨q1,q2,q3⟩:=bdL_ok x _ B B' h
    refine ⟨q1,fun E u hu g=>?_,fun E ES u R hu=>?_⟩
    · simp only [af,Option.map_eq_some_iff] at hu
      obtain ⟨us,h1,_⟩:=hu
      exact q2 E us h1 g
    · simp only [af,Option.map_eq_some_iff] at hu ⊢
      obtain ⟨us,h1,h2⟩:=hu
      exact ⟨us,q3 E ES us R h1,h2⟩
  | .func fn x y,a',B,B',h=>by
    cases a' <;> simp only [bdV] at h <;> first | (cases h; done) | skip
    rename_i fn' x' y'
    obtain ⟨h1,h2⟩:=ak h
    have e1:=eqFn_eq h1; subst e1
    cases h3:bdL n x x' B with
    | none=>rw [h3] at h2; cases h2
    | some B1 =>
      rw [h3] at h2
      obtain ⟨q1,q2,q3⟩:=bdL_ok x _ B B1 h3
      obtain ⟨q4,q5,q6⟩:=bdL_ok y _ B1 B' h2
      have parts:∀ E u,af E (.func fn x' y')=some u→∃ us vs,ad E x'=some us∧ad E y'=some vs:=fun E u hu=>by
        simp only [af] at hu
        cases hx:ad E x' with
        | none=>rw [hx] at hu; cases fn <;> simp at hu
        | some us =>
          cases hy:ad E y' with
          | none=>rw [hx,hy] at hu; cases fn <;> simp at hu
          | some vs=>exact ⟨us,vs,rfl,rfl⟩
      refine ⟨q1.trans q4,fun E u hu g=>?_,fun E ES u R hu=>?_⟩
      · obtain ⟨us,vs,h5,h6⟩:=parts E u hu
        exact q5 E vs h6 (q2 E us h5 g)
      · obtain ⟨us,vs,h5,h6⟩:=parts E u hu
        simp only [af,h5,h6] at hu
        simp only [af,q3 E ES us (R.sub q4) h5,q6 E ES vs R h6]
        exact hu
  | .bool b,a',B,B',h=>by
    cases a' <;> simp only [bdV] at h <;> first | (cases h; done) | skip
    exact bdB_ok h
  | .nilptr,a',B,B',h=>by
    cases a' <;> simp only [bdV] at h <;> first | (cases h; done) | skip
    cases h; exact ⟨SubD.refl _ _,fun _ _ _ g=>g,fun E ES u R hu=>hu⟩
  | .nilslice,a',B,B',h=>by
    cases a' <;> simp only [bdV] at h <;> first | (cases h; done) | skip
    cases h; exact ⟨SubD.refl _ _,fun _ _ _ g=>g,fun E ES u R hu=>hu⟩
  | .sliceU i,a',B,B',h=>by
    cases a' <;> simp only [bdV] at h <;> first | (cases h; done) | skip
    rename_i j
    split at h
    · rename_i B1 h1
      obtain ⟨p1,p2,p3⟩:=bdI_ok (n:=n) (k:=.i64) h1
      obtain ⟨q1,q2,q3⟩:=bdO_ok (n:=n) h
      have hint:∀ E:Env,af E (.int .i64 (.var j))=some (.int .i64 (E.ρ.iv j)):=fun E=>rfl
      refine ⟨p1.trans q1,fun E u hu g=>q2 E u hu (p2 E _ (hint E) g),fun E ES u R hu=>?_⟩
      have e1:=p3 E ES _ (R.sub q1) (hint E)
      have e2:=q3 E ES u R hu
      simp only [af,IE.den,Option.some.injEq,Value.int.injEq,true_and] at e1 e2
      obtain ⟨p,m,c,rfl,hm⟩:=eJ hu
      simp only [af,e2]
      rw [if_pos (by rw [e1,hm])]
    · cases h
  | .sliceV b i,a',B,B',h=>by
    cases a' <;> simp only [bdV] at h <;> first | (cases h; done) | skip
    rename_i b' j
    split at h
    · rename_i B1 h1
      obtain ⟨p1,p2,p3⟩:=bdI_ok (n:=n) (k:=.i64) h1
      obtain ⟨h1,h2,h3,h4⟩:=bd_bind (c:=true) h
      have hint:∀ E:Env,af E (.int .i64 (.var j))=some (.int .i64 (E.ρ.iv j)):=fun E=>rfl
      refine ⟨p1.trans h2,fun E u hu g=>by unfold gp; rw [h3]; exact p2 E _ (hint E) g,fun E ES u R hu=>?_⟩
      have e1:=p3 E ES _ (R.sub h2) (hint E)
      simp only [af,IE.den,Option.some.injEq,Value.int.injEq,true_and] at e1
      simp only [af,(h4 E ES R).1,(h4 E ES R).2,e1] at hu ⊢; exact hu
    · cases h
  | .nilmap,a',B,B',h=>by
    cases a' <;> simp only [bdV] at h <;> first | (cases h; done) | skip
    cases h; exact ⟨SubD.refl _ _,fun _ _ _ g=>g,fun E ES u R hu=>hu⟩
  | .nilFunc,a',B,B',h=>by
    cases a' <;> simp only [bdV] at h <;> first | (cases h; done) | skip
    cases h; exact ⟨SubD.refl _ _,fun _ _ _ g=>g,fun E ES u R hu=>hu⟩
  | .map b,a',B,B',h=>by
    cases a' <;> simp only [bdV] at h <;> first | (cases h; done) | skip
    obtain ⟨h1,h2,h3,h4⟩:=bd_bind h
    exact ⟨h2,fun E u _ g=>by unfold gp; rw [h3]; exact g,fun E ES u R hu=>by simp only [af,(h4 E ES R).1] at hu ⊢; exact hu⟩
  | .yieldF b,a',B,B',h=>by cases a' <;> simp only [bdV] at h <;> cases h
  | .bad,a',B,B',h=>by cases a' <;> simp only [bdV] at h <;> cases h
theorem bdL_ok {n:Nat}:∀ (l l':List AV) (B B':Bd),bdL n l l' B=some B'→SubD n B B'∧(∀ E us,ad E l'=some us→gp E B→gp E B')∧∀ E ES us,RelD n E ES B'→ad E l'=some us→ad ES l=some us
  | [],l',B,B',h=>by
    cases l' <;> simp only [bdL] at h
    · cases h; exact ⟨SubD.refl _ _,fun _ _ _ g=>g,fun E ES us R hu=>hu⟩
    · cases h
  | a :: l,l',B,B',h=>by
    cases l' with
    | nil=>simp only [bdL] at h; cases h
    | cons b m =>
      simp only [bdL] at h
      cases h3:bdV n a b B with
      | none=>rw [h3] at h; cases h
      | some B1 =>
        rw [h3] at h
        obtain ⟨q1,q2,q3⟩:=bdV_ok a b B B1 h3
        obtain ⟨q4,q5,q6⟩:=bdL_ok l m B1 B' h
        refine ⟨q1.trans q4,fun E us hu g=>?_,fun E ES us R hu=>?_⟩
        · obtain ⟨v,r,h5,h6,rfl⟩:=ap.1 hu
          exact q5 E r h6 (q2 E v h5 g)
        · obtain ⟨v,r,h5,h6,rfl⟩:=ap.1 hu
          exact ap.2 ⟨v,r,q3 E ES v (R.sub q4) h5,q6 E ES r R h6,rfl⟩
end
noncomputable def bdSl (n:Nat) (t:PT AV):List (Nat × AV)→Bd→Option Bd
  | [],B=>some B
  | g :: l,B=>(match t.get g.1 with
    | some v=>(match bdV n g.2 v B with
      | some B'=>bdSl n t l B'
      | none=>none)
    | none=>none)
structure VS where
  id:Nat
  own:Option (TypeId × Bool)
  c0:List AV
  c:List AV
  cf:List AV
  u:Option (Nat × List Bool)
noncomputable def bdG (v:VS) (o:Option AObj):Option (List AV) :=
  match o with
  | some (.cells cs el own ext)=>(match v.own with
    | none=>some cs
    | some q=>cond (and own (and (Nat.beq q.1 el) (beqB q.2 ext))) (some cs) none)
  | _=>none
noncomputable def eqKs:List Bool→List Bool→Bool
  | [],[]=>true
  | a :: l,b :: m=>and (beqB a b) (eqKs l m)
  | _,_=>false
theorem eqKs_eq:∀ {l m:List Bool},eqKs l m=true→l=m
  | [],[],_=>rfl
  | [],_ :: _,h=>by cases h
  | _ :: _,[],h=>by cases h
  | a :: l,b :: m,h=>by
    simp only [eqKs,Bool.and_eq_true] at h
    rw [eN h.1,eqKs_eq h.2]
noncomputable def bdU (v:VS) (q:Nat × List Bool) (o:Option AObj) (B:Bd):Option Bd :=
  match o with
  | some (.ucells j ks)=>cond (and v.own.isNone (and (Nat.beq q.1 j) (eqKs q.2 ks))) (bdI (.var j) (.var j) B) none
  | _=>none
noncomputable def bdC (n:Nat) (v:VS) (o:Option AObj) (B:Bd):Option Bd :=
  match v.u with
  | none=>(match bdG v o with
    | some cs=>bdL n v.c0 cs B
    | none=>none)
  | some q=>bdU v q o B
noncomputable def bdVw (n:Nat) (h:Heap):List VS→Bd→Option Bd
  | [],B=>some B
  | g :: l,B=>(match cond (Nat.ble (Nat.succ g.id) 1000) (some g.id) (cond (Nat.ble (Nat.succ g.id) n) (aA B.r g.id) none) with
    | some b=>(match bdC n g (h.get b) B with
      | some B'=>bdVw n h l B'
      | none=>none)
    | none=>none)
noncomputable def rhoD (E:Env) (B:Bd):Rho :=
  ⟨fun j=>match aA B.is j with | some e=>e.den E.ρ | none=>0,fun j=>match aA B.bs j with | some e=>e.den E.ρ | none=>false,E.ρ.fi,E.ρ.fb,fun j=>match aA B.os j with | some v=>(match af E v with | some u=>u | none=>.tuple #[]) | none=>.tuple #[]⟩
noncomputable def sigD (n:Nat) (E:Env) (B:Bd):Nat→Option (Nat × Nat):=fun b=>if b < 1000 then some (b,0) else if b < n then (match aA B.r b with | some c=>E.σ c | none=>none) else none
noncomputable def kapD (n:Nat) (E:Env) (B:Bd):Nat→Nat:=fun b=>if b < 1000 then E.κ b else if b < n then (match aA B.r b with | some c=>E.κ c | none=>0) else 0
noncomputable def envD (n:Nat) (E:Env) (B:Bd):Env:=⟨rhoD E B,sigD n E B,kapD n E B,n,fun _=>#[]⟩
theorem envD_rel {n:Nat} {E:Env} {B:Bd} (hg:∀ b,b < 1000→E.σ b=some (b,0)) (hG:gp E B):RelD n E (envD n E B) B:=by
  refine ⟨fun j e h=>?_,fun j v h=>?_,fun b hb=>?_,fun b c h1 h2 e=>?_,fun j e h=>by simp only [envD,rhoD,h]⟩
  · simp only [envD,rhoD,h]
  · obtain ⟨u,hu⟩:=hG j v h
    simp only [envD,rhoD,h,hu]
  · simp only [envD,sigD,kapD,if_pos hb,hg b hb,and_self]
  · simp only [envD,sigD,kapD,if_neg (show ¬ b < 1000 by omega),if_pos h2,e,and_self]
theorem bdSl_ok {n : Nat} {t : PT AV} : ∀ (l : List (Nat × AV)) (B B' : Bd), bdSl n t l B = some B' → SubD n B B' ∧
    (∀ E,(∀ g ∈ l,∀ v,t.get g.1=some v→∃ u,af E v=some u)→gp E B→gp E B') ∧
    ∀ g ∈ l,∃ v,t.get g.1=some v∧∀ E ES u,RelD n E ES B'→af E v=some u→af ES g.2=some u
  | [],B,B',h=>by simp only [bdSl,Option.some.injEq] at h; subst h; exact ⟨SubD.refl _ _,fun _ _ g=>g,fun g hg=>by cases hg⟩
  | g :: l,B,B',h=>by
    simp only [bdSl] at h
    split at h
    · rename_i v hv
      split at h
      · rename_i B1 h1
        obtain ⟨q1,q2,q3⟩:=bdV_ok _ _ _ _ h1
        obtain ⟨q4,q5,q6⟩:=bdSl_ok l B1 B' h
        refine ⟨q1.trans q4,fun E hc G=>?_,fun g' hg'=>?_⟩
        · obtain ⟨u,hu⟩:=hc g List.mem_cons_self v hv
          exact q5 E (fun g' hg'=>hc g' (List.mem_cons_of_mem _ hg')) (q2 E u hu G)
        · rcases List.mem_cons.1 hg' with rfl | hg'
          · exact ⟨v,hv,fun E ES u R hu=>q3 E ES u (R.sub q4) hu⟩
          · exact q6 g' hg'
      · cases h
    · cases h
structure VAt (p:Par) (E ES:Env) (h:Heap) (w:World) (r:Ren) (n:Nat) (g:VS):Prop where
  at_:∃ b o,(cond (Nat.ble (Nat.succ g.id) 1000) (some g.id) (cond (Nat.ble (Nat.succ g.id) n) (aA r g.id) none))=some b∧h.get b=some o∧ES.σ g.id=E.σ b∧(g.own.isSome=true→bN o=true)∧(bN o=true ∨ roO o=true)∧∃ c x,E.σ b=some (c,x)
  obj:objOk p ES g.id (VB.obj ⟨g.id,g.c0,g.own,g.u⟩) w.heap
theorem bdVw_ok {n : Nat} {h : Heap} : ∀ (l : List VS) (B B' : Bd), bdVw n h l B = some B' → SubD n B B' ∧
    (∀ {p:Par} {E:Env} {w0:Base} {w:World},HeapOk p E h w0 w→gp E B→gp E B') ∧
    ∀ {p:Par} {E ES:Env} {w0:Base} {w:World},RelD n E ES B'→ES.ρ.fi=E.ρ.fi→ES.ρ.fb=E.ρ.fb→HeapOk p E h w0 w→∀ g ∈ l,VAt p E ES h w B'.r n g
  | [],B,B',e=>by simp only [bdVw,Option.some.injEq] at e; subst e; exact ⟨SubD.refl _ _,fun _ g=>g,fun _ _ _ _ g hg=>by cases hg⟩
  | g :: l,B,B',e=>by
    simp only [bdVw] at e
    split at e
    · rename_i b hb
      split at e
      · rename_i B1 h0
        obtain ⟨q4,q5,q6⟩:=bdVw_ok l B1 B' e
        unfold bdC at h0
        split at h0
        · rename_i hgu
          split at h0
          · rename_i cs hcs
            rename_i h1
            obtain ⟨q1,q2,q3⟩:=bdL_ok _ _ _ _ h0
            unfold bdG at hcs
            split at hcs
            · rename_i cs' el own ext hg
              have hcs':cs'=cs:=by
                split at hcs
                · cases hcs; rfl
                · have:=(ak hcs).2; cases this; rfl
              subst hcs'
              refine ⟨q1.trans q4,fun {p E w0 w} HH G=>?_,fun {p E ES w0 w} R hfi hfb HH g' hg'=>?_⟩
              · obtain ⟨c,base,vs,cells,el',fz,k1,k2,k3,k4,k5⟩:=HH.obj _ _ hg
                exact q5 HH (q2 E vs k2 G)
              · rcases List.mem_cons.1 hg' with rfl | hg'
                · obtain ⟨c,base,vs,cells,el',fz,k1,k2,k3,k4,k5⟩:=HH.obj _ _ hg
                  obtain ⟨z0,z1⟩:=dC (q1.trans q4).r hb
                  have hσ:=z1 ⟨E.ρ,E.σ,E.κ,E.n,E.rc⟩ ⟨E.ρ,ES.σ,ES.κ,ES.n,ES.rc⟩ ⟨rfl,R.lo,R.at_⟩
                  have hσ1:ES.σ g'.id=E.σ b:=hσ.1
                  have hσ2:ES.κ g'.id=E.κ b:=hσ.2
                  have hvs:=q3 E ES vs (R.sub q4) k2
                  cases hown:g'.own with
                  | none =>
                    refine ⟨⟨b,_,z0,hg,hσ1,fun h=>(by rw [hown] at h; cases h),(by cases own; exact .inr rfl; exact .inl rfl),c,base,k1⟩,?_⟩
                    have e:VB.obj ⟨g'.id,g'.c0,g'.own,g'.u⟩=.cells g'.c0 0 false false:=by unfold VB.obj; simp only [hown,hgu]
                    rw [e]
                    exact ⟨c,base,vs,cells,el',fz,hσ1.trans k1,hvs,k3,k4,fun h=>by cases h⟩
                  | some q =>
                    rw [hown] at hcs
                    have h2:=(ak hcs).1
                    simp only [Bool.and_eq_true] at h2
                    obtain ⟨h4,h5,h6⟩:=h2
                    have h5:=aq.1 h5; have h6:=eN h6
                    subst h4
                    refine ⟨⟨b,_,z0,hg,hσ1,fun _=>rfl,.inl rfl,c,base,k1⟩,?_⟩
                    have e:VB.obj ⟨g'.id,g'.c0,g'.own,g'.u⟩=.cells g'.c0 q.1 true q.2:=by unfold VB.obj; simp only [hown]
                    rw [e,h5,h6]
                    exact ⟨c,base,vs,cells,el',fz,hσ1.trans k1,hvs,k3,k4,by rw [hσ2]; exact k5⟩
                · exact q6 R hfi hfb HH g' hg'
            · cases hcs
          · cases h0
        · rename_i q hgu
          unfold bdU at h0
          split at h0
          · rename_i j ks hg
            obtain ⟨hc,h0⟩:=ak h0
            simp only [Bool.and_eq_true] at hc
            obtain ⟨hown,hj,hks⟩:=hc
            have hj:=aq.1 hj; have hks:=eqKs_eq hks
            have hown:g.own=none:=by cases h:g.own with | none=>rfl | some q=>rw [h] at hown; cases hown
            obtain ⟨q1,q2,q3⟩:=bdI_ok (n:=n) (k:=.i64) h0
            have hint:∀ E:Env,af E (.int .i64 (.var j))=some (.int .i64 (E.ρ.iv j)):=fun E=>rfl
            refine ⟨q1.trans q4,fun {p E w0 w} HH G=>q5 HH (q2 E _ (hint E) G),fun {p E ES w0 w} R hfi hfb HH g' hg'=>?_⟩
            rcases List.mem_cons.1 hg' with rfl | hg'
            · obtain ⟨c,base,cells,el',fz,k1,k3,k4⟩:=HH.obj _ _ hg
              obtain ⟨z0,z1⟩:=dC (q1.trans q4).r hb
              have hσ:=z1 ⟨E.ρ,E.σ,E.κ,E.n,E.rc⟩ ⟨E.ρ,ES.σ,ES.κ,ES.n,ES.rc⟩ ⟨rfl,R.lo,R.at_⟩
              have hσ1:ES.σ g'.id=E.σ b:=hσ.1
              have hiv:=q3 E ES _ (R.sub q4) (hint E)
              simp only [af,IE.den,Option.some.injEq,Value.int.injEq,true_and] at hiv
              refine ⟨⟨b,_,z0,hg,hσ1,fun h=>(by rw [hown] at h; cases h),.inr rfl,c,base,k1⟩,?_⟩
              have e:VB.obj ⟨g'.id,g'.c0,g'.own,g'.u⟩=.ucells q.1 q.2:=by unfold VB.obj; simp only [hown,hgu]
              rw [e,hj,hks]
              refine ⟨c,base,cells,el',fz,hσ1.trans k1,k3,fun m off k hm hk=>?_⟩
              rw [hiv] at hm
              rw [k4 m off k hm hk]
              unfold cellOf
              rw [hfi,hfb]
            · exact q6 R hfi hfb HH g' hg'
          · cases h0
      · cases e
    · cases e
noncomputable def sI (B:Bd):IE→Option IE
  | .lit z=>some (.lit z)
  | .var j=>aA B.is j
  | .bin o k a b=>(match sI B a,sI B b with
    | some x,some y=>some (.bin o k x y)
    | _,_=>none)
  | .conv k a=>(match sI B a with
    | some x=>some (.conv k x)
    | none=>none)
  | .mx a b=>(match sI B a,sI B b with
    | some x,some y=>some (.mx x y)
    | _,_=>none)
  | .mn a b=>(match sI B a,sI B b with
    | some x,some y=>some (.mn x y)
    | _,_=>none)
  | .app f a b c=>(match sI B a,sI B b,sI B c with
    | some x,some y,some z=>some (.app f x y z)
    | _,_,_=>none)
theorem sI_ok {n:Nat} {E ES:Env} {B:Bd} (R:RelD n E ES B) (hfi:ES.ρ.fi=E.ρ.fi):∀ (e e':IE),sI B e=some e'→e'.den E.ρ=e.den ES.ρ
  | .lit z,e',h=>by simp only [sI,Option.some.injEq] at h; subst h; rfl
  | .var j,e',h=>by simp only [sI] at h; simp only [IE.den,R.is _ _ h]
  | .bin o k a b,e',h=>by
    simp only [sI] at h
    split at h
    · rename_i x y hx hy; cases h; simp only [IE.den,sI_ok R hfi a x hx,sI_ok R hfi b y hy]
    · cases h
  | .conv k a,e',h=>by
    simp only [sI] at h
    split at h
    · rename_i x hx; cases h; simp only [IE.den,sI_ok R hfi a x hx]
    · cases h
  | .mx a b,e',h=>by
    simp only [sI] at h
    split at h
    · rename_i x y hx hy; cases h; simp only [IE.den,sI_ok R hfi a x hx,sI_ok R hfi b y hy]
    · cases h
  | .mn a b,e',h=>by
    simp only [sI] at h
    split at h
    · rename_i x y hx hy; cases h; simp only [IE.den,sI_ok R hfi a x hx,sI_ok R hfi b y hy]
    · cases h
  | .app f a b c,e',h=>by
    simp only [sI] at h
    split at h
    · rename_i x y z hx hy hz; cases h; simp only [IE.den,hfi,sI_ok R hfi a x hx,sI_ok R hfi b y hy,sI_ok R hfi c z hz]
    · cases h
noncomputable def sB (B:Bd):BE→Option BE
  | .lit b=>some (.lit b)
  | .not a=>(match sB B a with
    | some x=>some (.not x)
    | none=>none)
  | .and a b=>(match sB B a,sB B b with
    | some x,some y=>some (.and x y)
    | _,_=>none)
  | .cmp o a b=>(match sI B a,sI B b with
    | some x,some y=>some (.cmp o x y)
    | _,_=>none)
  | .iff a b=>(match sB B a,sB B b with
    | some x,some y=>some (.iff x y)
    | _,_=>none)
  | .app f a b c=>(match sI B a,sI B b,sI B c with
    | some x,some y,some z=>some (.app f x y z)
    | _,_,_=>none)
  | .var j=>aA B.bs j
theorem sB_ok {n:Nat} {E ES:Env} {B:Bd} (R:RelD n E ES B) (hfi:ES.ρ.fi=E.ρ.fi) (hfb:ES.ρ.fb=E.ρ.fb):∀ (e e':BE),sB B e=some e'→e'.den E.ρ=e.den ES.ρ
  | .lit z,e',h=>by simp only [sB,Option.some.injEq] at h; subst h; rfl
  | .var j,e',h=>by simp only [sB] at h; simp only [BE.den,R.bs _ _ h]
  | .not a,e',h=>by
    simp only [sB] at h
    split at h
    · rename_i x hx; cases h; simp only [BE.den,sB_ok R hfi hfb a x hx]
    · cases h
  | .and a b,e',h=>by
    simp only [sB] at h
    split at h
    · rename_i x y hx hy; cases h; simp only [BE.den,sB_ok R hfi hfb a x hx,sB_ok R hfi hfb b y hy]
    · cases h
  | .cmp o a b,e',h=>by
    simp only [sB] at h
    split at h
    · rename_i x y hx hy; cases h; simp only [BE.den,sI_ok R hfi a x hx,sI_ok R hfi b y hy]
    · cases h
  | .iff a b,e',h=>by
    simp only [sB] at h
    split at h
    · rename_i x y hx hy; cases h; simp only [BE.den,sB_ok R hfi hfb a x hx,sB_ok R hfi hfb b y hy]
    · cases h
  | .app f a b c,e',h=>by
    simp only [sB] at h
    split at h
    · rename_i x y z hx hy hz; cases h; simp only [BE.den,hfb,sI_ok R hfi a x hx,sI_ok R hfi b y hy,sI_ok R hfi c z hz]
    · cases h
mutual
noncomputable def sV (n:Nat) (B:Bd):AV→Option AV
  | .int k e=>(match sI B e with
    | some x=>some (.int k x)
    | none=>none)
  | .bool e=>(match sB B e with
    | some x=>some (.bool x)
    | none=>none)
  | .opq j=>aA B.os j
  | .ptr b o=>(match cond (Nat.ble (Nat.succ b) 1000) (some b) (cond (Nat.ble (Nat.succ b) n) (aA B.r b) none) with
    | some c=>some (.ptr c o)
    | none=>none)
  | .slice b o l k=>(match cond (Nat.ble (Nat.succ b) 1000) (some b) (cond (Nat.ble (Nat.succ b) n) (aA B.r b) none) with
    | some c=>some (.slice c o l k)
    | none=>none)
  | .sliceX b o l k=>(match cond (Nat.ble (Nat.succ b) 1000) (some b) (cond (Nat.ble (Nat.succ b) n) (aA B.r b) none) with
    | some c=>some (.sliceX c o l k)
    | none=>none)
  | .agg l=>(match sVs n B l with
    | some m=>some (.agg m)
    | none=>none)
  | .tup l=>(match sVs n B l with
    | some m=>some (.tup m)
    | none=>none)
  | .nilptr=>some .nilptr
  | .nilslice=>some .nilslice
  | .nilmap=>some .nilmap
  | .nilFunc=>some .nilFunc
  | _=>none
noncomputable def sVs (n:Nat) (B:Bd):List AV→Option (List AV)
  | []=>some []
  | a :: l=>(match sV n B a with
    | some x=>(match sVs n B l with
      | some m=>some (x :: m)
      | none=>none)
    | none=>none)
end
mutual
theorem sV_ok {n:Nat} {E ES:Env} {B:Bd} (R:RelD n E ES B) (hfi:ES.ρ.fi=E.ρ.fi) (hfb:ES.ρ.fb=E.ρ.fb):∀ (a a':AV),sV n B a=some a'→af E a'=af ES a
  | .int k e,a',h=>by
    simp only [sV] at h
    split at h
    · rename_i x hx; cases h; simp only [af,sI_ok R hfi e x hx]
    · cases h
  | .bool e,a',h=>by
    simp only [sV] at h
    split at h
    · rename_i x hx; cases h; simp only [af,sB_ok R hfi hfb e x hx]
    · cases h
  | .opq j,a',h=>by simp only [sV] at h; simp only [af,R.os _ _ h]
  | .ptr b o,a',h=>by
    simp only [sV] at h
    split at h
    · rename_i c hc
      cases h
      have hσ:=((dC (SubR.refl n B.r) hc).2 ⟨E.ρ,E.σ,E.κ,E.n,E.rc⟩ ⟨E.ρ,ES.σ,ES.κ,ES.n,ES.rc⟩ ⟨rfl,R.lo,R.at_⟩)
      simp only [af]; rw [hσ.1]
    · cases h
  | .slice b o l k,a',h=>by
    simp only [sV] at h
    split at h
    · rename_i c hc
      cases h
      have hσ:=((dC (SubR.refl n B.r) hc).2 ⟨E.ρ,E.σ,E.κ,E.n,E.rc⟩ ⟨E.ρ,ES.σ,ES.κ,ES.n,ES.rc⟩ ⟨rfl,R.lo,R.at_⟩)
      simp only [af]; rw [hσ.1]
    · cases h
  | .sliceX b o l k,a',h=>by
    simp only [sV] at h
    split at h
    · rename_i c hc
      cases h
      have hσ:=((dC (SubR.refl n B.r) hc).2 ⟨E.ρ,E.σ,E.κ,E.n,E.rc⟩ ⟨E.ρ,ES.σ,ES.κ,ES.n,ES.rc⟩ ⟨rfl,R.lo,R.at_⟩)
      simp only at hσ
      simp only [af,hσ.1,hσ.2]
    · cases h
  | .agg l,a',h=>by
    simp only [sV] at h
    split at h
    · rename_i m hm; cases h; simp only [af,sVs_ok R hfi hfb l m hm]
    · cases h
  | .tup l,a',h=>by
    simp only [sV] at h
    split at h
    · rename_i m hm; cases h; simp only [af,sVs_ok R hfi hfb l m hm]
    · cases h
  | .nilptr,a',h=>by simp only [sV,Option.some.injEq] at h; subst h; rfl
  | .nilslice,a',h=>by simp only [sV,Option.some.injEq] at h; subst h; rfl
  | .nilmap,a',h=>by simp only [sV,Option.some.injEq] at h; subst h; rfl
  | .nilFunc,a',h=>by simp only [sV,Option.some.injEq] at h; subst h; rfl
  | .map _,a',h=>by simp only [sV] at h; cases h
  | .func _ _ _,a',h=>by simp only [sV] at h; cases h
  | .yieldF _,a',h=>by simp only [sV] at h; cases h
  | .bad,a',h=>by simp only [sV] at h; cases h
theorem sVs_ok {n:Nat} {E ES:Env} {B:Bd} (R:RelD n E ES B) (hfi:ES.ρ.fi=E.ρ.fi) (hfb:ES.ρ.fb=E.ρ.fb):∀ (l l':List AV),sVs n B l=some l'→ad E l'=ad ES l
  | [],l',h=>by simp only [sVs,Option.some.injEq] at h; subst h; rfl
  | a :: l,l',h=>by
    simp only [sVs] at h
    split at h
    · rename_i x hx
      split at h
      · rename_i m hm; cases h; simp only [ad,sV_ok R hfi hfb a x hx,sVs_ok R hfi hfb l m hm]
      · cases h
    · cases h
end
structure LSpec where
  sl0:List (Nat × AV)
  sl:List (Nat × AV)
  vs:List VS
  nv:Nat
  dom:List BE
  out:T (Ex × List (Nat × AV))
noncomputable def T.end_ {α:Type} (ρ:Rho):T α→Option α
  | .ret a=>some a
  | .fail _=>none
  | .br c x y=>if c.den ρ=true then x.end_ ρ else y.end_ ρ
def LSpec.T (L:LSpec):Tmpl:=⟨L.sl,L.vs.map fun g=>⟨g.id,g.c,g.own,g.u⟩,L.nv⟩
noncomputable def sBs (B:Bd):List BE→Option (List BE)
  | []=>some []
  | a :: l=>(match sB B a with
    | some x=>(match sBs B l with
      | some m=>some (x :: m)
      | none=>none)
    | none=>none)
noncomputable def sSl (n:Nat) (B:Bd):List (Nat × AV)→Option (List (Nat × AV))
  | []=>some []
  | g :: l=>(match sV n B g.2 with
    | some x=>(match sSl n B l with
      | some m=>some ((g.1,x) :: m)
      | none=>none)
    | none=>none)
noncomputable def sOut (n:Nat) (B:Bd):List VS→Option (List (Nat × AObj))
  | []=>some []
  | g :: l=>(match g.own with
    | none=>sOut n B l
    | some q=>(match aA B.r g.id,sVs n B g.cf,sOut n B l with
      | some b,some cs,some m=>some ((b,.cells cs q.1 true q.2) :: m)
      | _,_,_=>none))
noncomputable def vsUp:Nat→List VS→Bool
  | _,[]=>true
  | n,g :: l=>cond (Nat.ble n g.id) (vsUp (Nat.succ g.id) l) false
noncomputable def brAll {α:Type} (t:T α):List BE→T α
  | []=>t
  | c :: l=>.br c (brAll t l) (.fail 99)
theorem gq {α:Type} {ρ:Rho} {Q:α→Prop} {t:T α}:∀ {l:List BE},(brAll t l).Holds ρ Q→(∀ c ∈ l,c.den ρ=true)∧t.Holds ρ Q
  | [],h=>⟨fun c hc=>(by cases hc),h⟩
  | c :: l,h=>by
    simp only [brAll,T.Holds] at h
    split at h
    · rename_i hc
      obtain ⟨a1,a2⟩:=gq h
      exact ⟨fun d hd=>by
        rcases List.mem_cons.1 hd with rfl | hd
        · exact hc
        · exact a1 d hd,a2⟩
    · exact h.elim
noncomputable def sO (n:Nat) (B:Bd) (t:T (Ex × List (Nat × AV))):Option (T (Ex × List (Nat × AV))) :=
  @T.rec (Ex × List (Nat × AV)) (fun _=>Option (T (Ex × List (Nat × AV)))) (fun a=>match sSl n B a.2 with
    | some l=>some (.ret (a.1,l))
    | none=>none)
    (fun c _ _ x y=>match sB B c,x,y with
      | some d,some x,some y=>some (.br d x y)
      | _,_,_=>none) (fun w=>some (.fail w)) t
theorem sO_end {n:Nat} {E ES:Env} {B:Bd} (R:RelD n E ES B) (hfi:ES.ρ.fi=E.ρ.fi) (hfb:ES.ρ.fb=E.ρ.fb) {P:Ex × List (Nat × AV)→Prop}:∀ (t t':T (Ex × List (Nat × AV))),sO n B t=some t'→t'.Holds E.ρ P→∀ o,t.end_ ES.ρ=some o→∃ l,sSl n B o.2=some l∧P (o.1,l)
  | .ret a,t',h,k,o,ho=>by
    have h:(match sSl n B a.2 with
      | some l=>some (T.ret (a.1,l))
      | none=>none)=some t':=h
    simp only [T.end_,Option.some.injEq] at ho
    subst ho
    split at h
    · rename_i l hl; cases h; exact ⟨l,hl,k⟩
    · cases h
  | .fail w,t',h,k,o,ho=>by cases ho
  | .br c x y,t',h,k,o,ho=>by
    have h:(match sB B c,sO n B x,sO n B y with
      | some d,some x,some y=>some (T.br d x y)
      | _,_,_=>none)=some t':=h
    split at h
    · rename_i d x' y' hd hx hy
      cases h
      simp only [T.Holds] at k
      simp only [T.end_] at ho
      rw [sB_ok R hfi hfb c d hd] at k
      split at k
      · rename_i hc; rw [if_pos hc] at ho; exact sO_end R hfi hfb x x' hx k o ho
      · rename_i hc; rw [if_neg hc] at ho; exact sO_end R hfi hfb y y' hy k o ho
    · cases h
noncomputable def LSpec.run (L:LSpec):C:=fun _ wh s =>
  match wh.rd with
  | some _=>.fail 96
  | none=>(match s.df with
    | _ :: _=>.fail 96
    | []=>(match bdSl L.nv s.tm.tree L.sl0 ⟨[],[],[],[]⟩ with
      | none=>.fail 97
      | some B0=>(match bdVw L.nv s.h L.vs B0 with
        | none=>.fail 98
        | some B=>cond (injR B.r) (match sBs B L.dom with
          | none=>.fail 94
          | some cs=>(match sO L.nv B L.out with
            | none=>.fail 95
            | some out=>(match sOut L.nv B L.vs with
              | none=>.fail 93
              | some outs=>brAll (out.bind fun o=>.ret (o.1,⟨⟨[],treeOf o.2⟩,[],putL outs s.h⟩)) cs))) (.fail 92))))
def LSpec.OkP (L:LSpec) (ok st:Rho→(Nat→Obj→Prop)→Prop) (cx:Cx) (wh:Wh) (body:C):Prop:=∀ (ρ:Rho) (m:Nat→Obj→Prop),st ρ m→(∀ c ∈ L.dom,c.den ρ=true)→∃ (M:Nat) (At:Nat→Rho→Prop) (ρ0:Rho),(∀ i ρ',At i ρ'→ok ρ' m)∧At 0 ρ0 ∧
  (∀ g ∈ L.sl,∃ v,(g.1,v) ∈ L.sl0∧SameV ρ v ρ0 g.2) ∧
  (∀ g ∈ L.vs,SameL ρ g.c0 ρ0 g.c∧SameU ρ ρ0 g.u) ∧
  ∀ i ρ',i≤M→At i ρ'→(body cx wh L.T.st).Holds ρ' fun r=>(r.1=.norm∧∃ ρ'',(i < M∧At (i + 1) ρ'')∧Next L.T ρ' ρ'' r.2) ∨
    (r.1 ≠ .norm∧r.2.df=[]∧(∃ o,L.out.end_ ρ=some o∧r.1=o.1∧∀ g ∈ o.2,cP L.nv g.2=true∧∃ v,r.2.tm.tree.get g.1=some v∧SameV ρ' v ρ g.2) ∧
      ∀ g ∈ L.vs,∀ q,g.own=some q→∃ cs,r.2.h.get g.id=some (.cells cs q.1 true q.2)∧SameL ρ' cs ρ g.cf)
noncomputable def keepsB (B:Bd):List Nat→Bool
  | []=>true
  | j :: l=>and (match aA B.os j with
    | some (.sliceU k)=>Nat.beq j k
    | _=>false) (and (match aA B.is j with
    | some (.var k)=>Nat.beq j k
    | _=>false) (keepsB B l))
noncomputable def keepsL (L:LSpec) (fix:List Nat) (s:St):Bool :=
  match bdSl L.nv s.tm.tree L.sl0 ⟨[],[],[],[]⟩ with
  | none=>true
  | some B0=>(match bdVw L.nv s.h L.vs B0 with
    | none=>true
    | some B=>keepsB B fix)
noncomputable def LSpec.runF (L:LSpec) (fix:List Nat):C:=fun cx wh s=>cond (keepsL L fix s) (L.run cx wh s) (.fail 91)
theorem keepsB_ok {B:Bd} {E:Env} (G:gp E B):∀ fix,keepsB B fix=true→∀ j ∈ fix,(rhoD E B).ov j=E.ρ.ov j∧(rhoD E B).iv j=E.ρ.iv j
  | [],_,j,hj=>(List.not_mem_nil hj).elim
  | i :: l,h,j,hj=>by
    simp only [keepsB,Bool.and_eq_true] at h
    obtain ⟨h1,h2,h3⟩:=h
    rcases List.mem_cons.1 hj with rfl | hj
    · constructor
      · split at h1
        · rename_i k hk
          have:=aq.1 h1; subst this
          obtain ⟨u,hu⟩:=G _ _ hk
          simp only [rhoD,hk,hu]
          obtain ⟨p,n,c,e1,e2⟩:=eJ hu
          subst e1
          simp only [af] at hu
          split at hu
          · rename_i p' n' c' he
            split at hu
            · cases hu; exact he.symm
            · cases hu
          · cases hu
        · cases h1
      · split at h2
        · rename_i k hk
          have:=aq.1 h2; subst this
          simp only [rhoD,hk,IE.den]
        · cases h2
    · exact keepsB_ok G l h3 j hj
theorem sSl_ok {n:Nat} {B:Bd}:∀ (l l':List (Nat × AV)),sSl n B l=some l'→∀ q ∈ l',∃ g ∈ l,g.1=q.1∧sV n B g.2=some q.2
  | [],l',h,q,hq=>by simp only [sSl,Option.some.injEq] at h; subst h; cases hq
  | g :: l,l',h,q,hq=>by
    simp only [sSl] at h
    split at h
    · rename_i x hx
      split at h
      · rename_i m hm
        cases h
        rcases List.mem_cons.1 hq with rfl | hq
        · exact ⟨g,List.mem_cons_self,rfl,hx⟩
        · obtain ⟨g',h1,h2,h3⟩:=sSl_ok l m hm q hq
          exact ⟨g',List.mem_cons_of_mem _ h1,h2,h3⟩
      · cases h
    · cases h
theorem sOut_ok {n : Nat} {B : Bd} : ∀ (l : List VS) (l' : List (Nat × AObj)), sOut n B l = some l' →
    (∀ q ∈ l',∃ g ∈ l,∃ t cs,g.own=some t∧aA B.r g.id=some q.1∧sVs n B g.cf=some cs∧q.2=.cells cs t.1 true t.2)∧∀ g ∈ l,g.own.isSome=true→∃ q ∈ l',aA B.r g.id=some q.1
  | [],l',h=>by simp only [sOut,Option.some.injEq] at h; subst h; exact ⟨fun q hq=>(by cases hq),fun g hg=>(by cases hg)⟩
  | g :: l,l',h=>by
    simp only [sOut] at h
    split at h
    · rename_i hown
      obtain ⟨a1,a2⟩:=sOut_ok l l' h
      refine ⟨fun q hq=>?_,fun g' hg' hw=>?_⟩
      · obtain ⟨g',b1,b2⟩:=a1 q hq
        exact ⟨g',List.mem_cons_of_mem _ b1,b2⟩
      · rcases List.mem_cons.1 hg' with rfl | hg'
        · rw [hown] at hw; cases hw
        · exact a2 g' hg' hw
    · rename_i t hown
      split at h
      · rename_i b cs m hb hcs hm
        cases h
        obtain ⟨a1,a2⟩:=sOut_ok l m hm
        refine ⟨fun q hq=>?_,fun g' hg' hw=>?_⟩
        · rcases List.mem_cons.1 hq with rfl | hq
          · exact ⟨g,List.mem_cons_self,t,cs,hown,hb,hcs,rfl⟩
          · obtain ⟨g',b1,b2⟩:=a1 q hq
            exact ⟨g',List.mem_cons_of_mem _ b1,b2⟩
        · rcases List.mem_cons.1 hg' with rfl | hg'
          · exact ⟨_,List.mem_cons_self,hb⟩
          · obtain ⟨q,b1,b2⟩:=a2 g' hg' hw
            exact ⟨q,List.mem_cons_of_mem _ b1,b2⟩
      · cases h
theorem sBs_ok {B:Bd}:∀ (l l':List BE),sBs B l=some l'→∀ c ∈ l,∃ c' ∈ l',sB B c=some c'
  | [],l',h,c,hc=>by cases hc
  | a :: l,l',h,c,hc=>by
    simp only [sBs] at h
    split at h
    · rename_i x hx
      split at h
      · rename_i m hm
        cases h
        rcases List.mem_cons.1 hc with rfl | hc
        · exact ⟨x,List.mem_cons_self,hx⟩
        · obtain ⟨c',h1,h2⟩:=sBs_ok l m hm c hc
          exact ⟨c',List.mem_cons_of_mem _ h1,h2⟩
      · cases h
    · cases h
theorem vsUp_ge:∀ (l:List VS) (n:Nat),vsUp n l=true→∀ q ∈ l,n≤q.id
  | [],n,_,q,hq=>by cases hq
  | q :: l,n,h,q',hq=>by
    simp only [vsUp] at h
    cases h1:Nat.ble n q.id with
    | false=>rw [h1] at h; cases h
    | true =>
      rw [h1] at h
      rcases List.mem_cons.1 hq with rfl | hq
      · exact aD.1 h1
      · have:=vsUp_ge l _ h q' hq; have:=aD.1 h1; omega
theorem vsUp_inj:∀ (l:List VS) (n:Nat),vsUp n l=true→∀ q ∈ l,∀ q' ∈ l,q.id=q'.id→q=q'
  | [],n,_,q,hq,_,_,_=>by cases hq
  | p :: l,n,h,q,hq,q',hq',e=>by
    simp only [vsUp] at h
    cases h0:Nat.ble n p.id with
    | false=>rw [h0] at h; cases h
    | true =>
      rw [h0] at h
      rcases List.mem_cons.1 hq with h1 | h1
      · rcases List.mem_cons.1 hq' with h2 | h2
        · rw [h1,h2]
        · have:=vsUp_ge l _ h q' h2; rw [h1] at e; omega
      · rcases List.mem_cons.1 hq' with h2 | h2
        · have:=vsUp_ge l _ h q h1; rw [h2] at e; omega
        · exact vsUp_inj l _ h q h1 q' h2 e
end Go.Sx
namespace Go.Sx
open Go.RowKit
noncomputable def keepsBv (B:Bd):List Nat→Bool
  | []=>true
  | j :: l=>and (match aA B.bs j with
    | some (.var k)=>Nat.beq j k
    | _=>false) (keepsBv B l)
noncomputable def keepsI (B:Bd):List Nat→Bool
  | []=>true
  | j :: l=>and (match aA B.is j with
    | some (.var k)=>Nat.beq j k
    | _=>false) (keepsI B l)
noncomputable def keepsIL (L:LSpec) (fixI fixB:List Nat) (s:St):Bool :=
  match bdSl L.nv s.tm.tree L.sl0 ⟨[],[],[],[]⟩ with
  | none=>true
  | some B0=>(match bdVw L.nv s.h L.vs B0 with
    | none=>true
    | some B=>and (keepsI B fixI) (keepsBv B fixB))
noncomputable def LSpec.runW (L:LSpec) (fix fixI fixB:List Nat):C:=fun cx wh s=>cond (keepsIL L fixI fixB s) (L.runF fix cx wh s) (.fail 91)
theorem keepsI_ok {B:Bd} {E:Env}:∀ fixI,keepsI B fixI=true→∀ j ∈ fixI,(rhoD E B).iv j=E.ρ.iv j
  | [],_,j,hj=>(List.not_mem_nil hj).elim
  | i :: l,h,j,hj=>by
    simp only [keepsI,Bool.and_eq_true] at h
    obtain ⟨h1,h2⟩:=h
    rcases List.mem_cons.1 hj with rfl | hj
    · split at h1
      · rename_i k hk
        have:=aq.1 h1; subst this
        simp only [rhoD,hk,IE.den]
      · cases h1
    · exact keepsI_ok l h2 j hj
theorem keepsBv_ok {B:Bd} {E:Env}:∀ fixB,keepsBv B fixB=true→∀ j ∈ fixB,(rhoD E B).bv j=E.ρ.bv j
  | [],_,j,hj=>(List.not_mem_nil hj).elim
  | i :: l,h,j,hj=>by
    simp only [keepsBv,Bool.and_eq_true] at h
    obtain ⟨h1,h2⟩:=h
    rcases List.mem_cons.1 hj with rfl | hj
    · split at h1
      · rename_i k hk
        have:=aq.1 h1; subst this
        simp only [rhoD,hk,BE.den]
      · cases h1
    · exact keepsBv_ok l h2 j hj
theorem LSpec.cokW {p pI : Par} (hPP : pI.P = p.P) (hRC : pI.RC = p.RC) {n : Nat} {keep : List Nat} {body : C} {code : Code} (hf : COk pI n keep body code) (L : LSpec) (hk : L.sl.all (fun g => and (memN keep (some g.1)) (cP L.nv g.2)) = true) 
    (hkv:L.vs.all (fun g=>and (aW L.nv g.c) (and (aW L.nv g.cf) (and (Nat.ble (g.id + 1) L.nv) (or g.own.isNone (Nat.ble 1000 g.id)))))=true) (hup:vsUp 0 L.vs=true) (hnv:1000≤L.nv)
    {cx0:Cx} (CX0:CxOk pI cx0) {wh0:Wh} (hw0:wh0.rd=none) {st:Rho→(Nat→Obj→Prop)→Prop} (hOk:L.OkP pI.ok st cx0 wh0 body) (fix fixI fixB:List Nat)
    (hre:∀ (ρ ρ':Rho) (m:Nat→Obj→Prop),p.ok ρ m→ρ'.fi=ρ.fi→ρ'.fb=ρ.fb→(∀ j ∈ fix,ρ'.ov j=ρ.ov j∧ρ'.iv j=ρ.iv j)→(∀ j ∈ fixI,ρ'.iv j=ρ.iv j)→(∀ j ∈ fixB,ρ'.bv j=ρ.bv j)→st ρ' m):COk p n keep (L.runW fix fixI fixB) (.loop code):=by
  obtain ⟨PP,RC,ok⟩:=p
  obtain ⟨PI,RCI,okI⟩:=pI
  have hPP:PI=PP:=hPP
  have hRC:RCI=RC:=hRC
  subst hPP hRC
  intro cx CX wh rd E w0 w s a Q Q' hrd S k P
  unfold LSpec.runW at k
  obtain ⟨hkeepI,k⟩:keepsIL L fixI fixB s=true∧(L.runF fix cx wh s).Holds E.ρ Q:=by
    cases hkp:keepsIL L fixI fixB s with
    | false=>rw [hkp] at k; exact k.elim
    | true=>rw [hkp] at k; exact ⟨rfl,k⟩
  unfold LSpec.runF at k
  obtain ⟨hkeep,k⟩:keepsL L fix s=true∧(L.run cx wh s).Holds E.ρ Q:=by
    cases hkp:keepsL L fix s with
    | false=>rw [hkp] at k; exact k.elim
    | true=>rw [hkp] at k; exact ⟨rfl,k⟩
  unfold LSpec.run at k
  split at k
  · exact k.elim
  · rename_i hwr
    have hrd0:rd=none:=by
      rw [hwr] at hrd
      cases rd with
      | none=>rfl
      | some l=>exact hrd.elim
    split at k
    · exact k.elim
    · rename_i hdf
      split at k
      · exact k.elim
      · rename_i B0 h0
        split at k
        · exact k.elim
        · rename_i B hB
          cases hinj:injR B.r with
          | false=>rw [hinj] at k; exact k.elim
          | true =>
          rw [hinj,cond_true] at k
          split at k
          · exact k.elim
          · rename_i cs hcs
            split at k
            · exact k.elim
            · rename_i out hfin
              split at k
              · exact k.elim
              · rename_i outs hout
                obtain ⟨hdom,hret⟩:=gq k
                rw [T.holds_bind] at hret
                obtain ⟨a1,a2,a3⟩:=bdSl_ok _ _ _ h0
                obtain ⟨c1,c2,c3⟩:=bdVw_ok _ _ _ hB
                obtain ⟨hi1,hi2⟩:=injR_ok hinj
                obtain ⟨o1,o2⟩:=sOut_ok _ _ hout
                have G0:gp E B0:=a2 E (fun g _ v hv=>by
                  obtain ⟨_,u,hu,_⟩:=S.tm.tree.at_ _ _ hv
                  exact ⟨u,hu⟩) (fun j v h=>by cases h)
                have G:gp E B:=c2 S.hp G0
                have R:RelD L.nv E (envD L.nv E B) B:=envD_rel S.hp.glob G
                have hdom':∀ c ∈ L.dom,c.den (rhoD E B)=true:=fun c hc=>by
                  obtain ⟨c',h1,h2⟩:=sBs_ok _ _ hcs c hc
                  have:=sB_ok R rfl rfl c c' h2
                  rw [hdom c' h1] at this
                  exact this.symm
                have hkB:keepsB B fix=true:=by
                  unfold keepsL at hkeep
                  rw [h0] at hkeep
                  simp only [hB] at hkeep
                  exact hkeep
                have hkI:keepsI B fixI=true∧keepsBv B fixB=true:=by
                  unfold keepsIL at hkeepI
                  rw [h0] at hkeepI
                  simp only [hB,Bool.and_eq_true] at hkeepI
                  exact hkeepI
                obtain ⟨m0,hm0,hm1⟩:=S.hp.ok
                obtain ⟨M,At,ρ0,hAt,hA0,hstart,hvstart,hround⟩:=hOk (rhoD E B) m0 (hre E.ρ _ m0 hm0 rfl rfl (keepsB_ok G fix hkB) (keepsI_ok fixI hkI.1) (keepsBv_ok fixB hkI.2)) hdom'
                have hk':∀ g ∈ L.sl,memN keep (some g.1)=true∧cP L.nv g.2=true:=fun g hg=>by
                  have:=List.all_eq_true.1 hk g hg
                  simpa only [Bool.and_eq_true] using this
                have hkv':∀ g ∈ L.vs,aW L.nv g.c=true∧aW L.nv g.cf=true∧g.id < L.nv∧(g.own.isSome=true→1000≤g.id):=fun g hg=>by
                  have:=List.all_eq_true.1 hkv g hg
                  simp only [Bool.and_eq_true,Bool.or_eq_true] at this
                  refine ⟨this.1,this.2.1,aD.1 this.2.2.1,fun hw=>?_⟩
                  rcases this.2.2.2 with h | h
                  · cases hown:g.own with
                    | none=>rw [hown] at hw; cases hw
                    | some q=>rw [hown] at h; cases h
                  · exact aD.1 h
                have hV:=c3 R rfl rfl S.hp
                have res1000:∀ b c,1000≤b→(cond (Nat.ble (Nat.succ b) 1000) (some b) (cond (Nat.ble (Nat.succ b) L.nv) (aA B.r b) none))=some c→aA B.r b=some c:=fun b c hb hc=>by
                  have k1:Nat.ble (Nat.succ b) 1000=false:=by
                    cases hk:Nat.ble (Nat.succ b) 1000 with
                    | false=>rfl
                    | true=>have:=aD.1 hk; omega
                  rw [k1,cond_false] at hc
                  exact (ak hc).2
                have same:∀ g ∈ L.vs,g.own.isSome=true→∀ g' ∈ L.vs,∀ c x y,sigD L.nv E B g.id=some (c,x)→sigD L.nv E B g'.id=some (c,y)→g=g':=by
                  intro g hg hw g' hg' c x y hs hs'
                  obtain ⟨b,o,d1,d2,d3,d4,d5,_⟩:=(hV g hg).at_
                  obtain ⟨b',o',e1,e2,e3,e4,e5,_⟩:=(hV g' hg').at_
                  have d3:sigD L.nv E B g.id=E.σ b:=d3
                  have e3:sigD L.nv E B g'.id=E.σ b':=e3
                  rw [d3] at hs; rw [e3] at hs'
                  have hbb:b=b':=by
                    rcases e5 with e5 | e5
                    · exact S.hp.inj _ _ _ _ _ _ _ d2 e2 (d4 hw) e5 hs hs'
                    · exact absurd (S.hp.ro _ _ _ _ e2 e5 hs') (S.hp.base _ _ _ _ d2 (d4 hw) hs)
                  subst hbb
                  refine vsUp_inj _ _ hup g hg g' hg' ?_
                  have f1:=res1000 _ _ ((hkv' g hg).2.2.2 hw) d1
                  rcases Nat.lt_or_ge g'.id 1000 with hlt | hge
                  · have k1:Nat.ble (Nat.succ g'.id) 1000=true:=aD.2 hlt
                    rw [k1,cond_true] at e1
                    have:=Option.some.inj e1
                    have:=(hi1 _ _ f1).1
                    omega
                  · exact hi2 _ _ _ f1 (res1000 _ _ hge e1)
                have K:TOk L.T keep (sigD L.nv E B):=⟨fun g hg=>(hk' g hg).1,fun g hg=>(hk' g hg).2,fun g hg=>by
                  obtain ⟨g0,hg0,rfl⟩:=List.mem_map.1 hg
                  exact ⟨(hkv' g0 hg0).1,(hkv' g0 hg0).2.2.1⟩,fun b hb=>by
                  have hb':L.nv≤b:=hb
                  simp only [sigD]; rw [if_neg (by omega),if_neg (by omega)],fun b hb=>by simp only [sigD,if_pos hb],fun g hg hw g' hg' c x y hs hs'=>by
                  obtain ⟨g0,hg0,rfl⟩:=List.mem_map.1 hg
                  obtain ⟨g1,hg1,rfl⟩:=List.mem_map.1 hg'
                  rw [same g0 hg0 hw g1 hg1 c x y hs hs']⟩
                have I0:LInv ⟨PI,RCI,okI⟩ L.T n (sigD L.nv E B) (kapD L.nv E B) ρ0 w a w:=by
                  refine ⟨S.tm.size,?_,fun g hg=>?_,fun g hg=>?_,Kept.refl _ _⟩
                  · have:=S.df
                    rw [hdf] at this
                    cases hd:a.defers with
                    | nil=>rfl
                    | cons d ds=>rw [hd] at this; exact this.elim
                  · obtain ⟨v,hv,hs⟩:=hstart g hg
                    obtain ⟨v',hv',he⟩:=a3 _ hv
                    obtain ⟨_,u,hu,ht⟩:=S.tm.tree.at_ _ _ hv'
                    refine ⟨u,?_,ht⟩
                    have:=he E (envD L.nv E B) u (R.sub c1) hu
                    rw [← this]
                    exact (hs (sigD L.nv E B) (kapD L.nv E B) L.nv L.nv (fun _=>#[]) (fun _=>#[])).symm
                  · obtain ⟨g0,hg0,rfl⟩:=List.mem_map.1 hg
                    obtain ⟨b,o,d1,d2,d3,d4,d5,c,x,d6⟩:=(hV g0 hg0).at_
                    have d3:sigD L.nv E B g0.id=E.σ b:=d3
                    refine ⟨?_,c,x,d3.trans d6,S.hp.lt _ _ _ _ d2 d6⟩
                    have hobj:=(hV g0 hg0).obj
                    have hu0:=(hvstart g0 hg0).2
                    have hs:=(hvstart g0 hg0).1 (sigD L.nv E B) (kapD L.nv E B) L.nv L.nv (fun _=>#[]) (fun _=>#[])
                    have hs:ad (envD L.nv E B) g0.c0=ad (L.T.env (sigD L.nv E B) (kapD L.nv E B) ρ0) g0.c:=hs
                    unfold VB.obj at hobj ⊢
                    simp only at hobj ⊢
                    cases hown:g0.own with
                    | none =>
                      rw [hown] at hobj
                      simp only at hobj ⊢
                      cases hgu:g0.u with
                      | none =>
                        rw [hgu] at hobj
                        obtain ⟨c',base,vs,cells,el,fz,k1,k2,k3,k4,k5⟩:=hobj
                        exact ⟨c',base,vs,cells,el,fz,k1,hs.symm.trans k2,k3,k4,k5⟩
                      | some q =>
                        rw [hgu] at hobj
                        obtain ⟨c',base,cells,el,fz,k1,k3,k4⟩:=hobj
                        obtain ⟨u1,u2⟩:=hu0 q hgu
                        refine ⟨c',base,cells,el,fz,k1,k3,fun n off k hn hk=>?_⟩
                        have hn:(n:Int) < ρ0.iv q.1:=hn
                        rw [← u1] at hn
                        rw [k4 n off k hn hk]
                        exact congrArg some (u2 n off k)
                    | some q =>
                      rw [hown] at hobj
                      obtain ⟨c',base,vs,cells,el,fz,k1,k2,k3,k4,k5⟩:=hobj
                      exact ⟨c',base,vs,cells,el,fz,k1,hs.symm.trans k2,k3,k4,k5⟩
                have hm2:∀ c o,m0 c o→L.T.keeps (sigD L.nv E B) w c∧w.heap[c]?=some o:=fun c o e=>by
                  have hh:=hm1 c o e
                  refine ⟨⟨Base.Keeps.lt S.hp.below hh.1,fun g hg hw x hx'=>?_⟩,Base.Keeps.has S.hp.below hh⟩
                  obtain ⟨g0,hg0,rfl⟩:=List.mem_map.1 hg
                  obtain ⟨b,o',d1,d2,d3,d4,d5,_⟩:=(hV g0 hg0).at_
                  have d3:sigD L.nv E B g0.id=E.σ b:=d3
                  have hx2:sigD L.nv E B g0.id=some (c,x):=hx'
                  exact S.hp.base _ _ _ _ d2 (d4 hw) (d3.symm.trans hx2) hh.1
                refine wpIn_loop_rounds (M + 1) (loop_rounds hf K CX0 (wh:=wh0) hw0 hrd0 (At:=At) hAt hm2 (Out:=fun ρ' x s'=>s'.df=[]∧(∃ o,L.out.end_ (rhoD E B)=some o∧x=o.1∧∀ g ∈ o.2,cP L.nv g.2=true∧∃ v,s'.tm.tree.get g.1=some v∧SameV ρ' v (rhoD E B) g.2) ∧
                  ∀ g ∈ L.vs,∀ q,g.own=some q→∃ cs,s'.h.get g.id=some (.cells cs q.1 true q.2)∧SameL ρ' cs (rhoD E B) g.cf) hround ?_ M 0 ρ0 a w (by omega) hA0 I0)
                rintro i ρ' x s' E' b' a' w' hA hx ⟨hsdf,⟨o,ho,hxo,hsl⟩,hvw⟩ hle S' hb _
                obtain ⟨fin,hfin2,hQ⟩:=sO_end R rfl rfl _ _ hfin hret o ho
                subst hxo
                refine P o.1 _ E w' a' hQ (Env.le.refl E) ⟨⟨S'.tm.size,fun t A h=>(by cases h),⟨fun t A hA'=>?_⟩⟩,?_,?_⟩
                · have hm:=treeOf_get _ _ _ hA'
                  obtain ⟨g,hg,e1,e2⟩:=sSl_ok _ _ hfin2 _ hm
                  obtain ⟨hid,v,hv,hs⟩:=hsl g hg
                  simp only at e1 e2
                  rw [e1] at hv
                  obtain ⟨hkp,u,hu,ht⟩:=S'.tm.tree.at_ _ _ hv
                  refine ⟨hkp,u,?_,ht⟩
                  rw [sV_ok R rfl rfl g.2 A e2]
                  exact conc_env (T:=L.T) hle hid hs hu
                · have:=S'.df
                  rw [hsdf] at this
                  cases hd:a'.defers with
                  | nil=>trivial
                  | cons d ds=>rw [hd] at this; exact this.elim
                · refine S.hp.putAll ⟨hb.os,hb.tape,hb.output,hb.size,fun c hc=>hb.block c ⟨hc.1,fun g hg hw x hx'=>?_⟩⟩ fun q hq=>?_
                  · obtain ⟨g0,hg0,rfl⟩:=List.mem_map.1 hg
                    obtain ⟨b,o,d1,d2,d3,d4,d5,_⟩:=(hV g0 hg0).at_
                    have d3:sigD L.nv E B g0.id=E.σ b:=d3
                    obtain ⟨q,hq,hfo⟩:=o2 g0 hg0 hw
                    have f1:=res1000 _ _ ((hkv' g0 hg0).2.2.2 hw) d1
                    rw [hfo] at f1
                    have f2:=Option.some.inj f1
                    have hx2:sigD L.nv E B g0.id=some (c,x):=hx'
                    exact hc.2 q hq x (by rw [f2,← d3]; exact hx2)
                  · obtain ⟨g,hg,t,cs',w1,w2,w3,w4⟩:=o1 q hq
                    obtain ⟨b,o,d1,d2,d3,d4,d5,cc,xx,d6⟩:=(hV g hg).at_
                    have d3:sigD L.nv E B g.id=E.σ b:=d3
                    have f1:=res1000 _ _ ((hkv' g hg).2.2.2 (by rw [w1]; rfl)) d1
                    rw [w2] at f1
                    have f2:=Option.some.inj f1
                    refine ⟨by rw [w4]; rfl,?_,o,by rw [f2]; exact d2,d4 (by rw [w1]; rfl)⟩
                    rw [w4,f2]
                    obtain ⟨cs1,h1,h2⟩:=hvw g hg t w1
                    obtain ⟨c',base,vs,cells,el,fz,k1,k2,k3,k4,k5⟩:=S'.hp.obj _ _ h1
                    have h6:=hle.σ _ _ (d3.trans d6)
                    rw [k1] at h6; cases h6
                    have k7:=concL_env (T:=L.T) hle (hkv' g hg).2.1 h2 k2
                    have k8:ad E cs'=some vs:=by rw [sVs_ok R rfl rfl g.cf cs' w3]; exact k7
                    refine ⟨cc,xx,vs,cells,el,fz,d6,k8,k3,k4,fun h=>?_⟩
                    have hκ:E'.κ g.id=kapD L.nv E B g.id:=hle.κ _ _ (d3.trans d6)
                    have hκ2:kapD L.nv E B g.id=E.κ b:=(R.at_ g.id b ((hkv' g hg).2.2.2 (by rw [w1]; rfl)) (hkv' g hg).2.2.1 (by rw [w2,f2])).2
                    obtain ⟨m1,m2,m3,m4⟩:=k5 h
                    exact ⟨m1,m2,m3,fun h=>by have:=m4 h; rw [hκ,hκ2] at this; exact this⟩
theorem cok_pick {p:Par} {n:Nat} {keep:List Nat} {code:Code} {sel:St→C} (h:∀ s,COk p n keep (sel s) code):COk p n keep (fun cx wh s=>sel s cx wh s) code :=
  fun cx CX wh rd E w0 w s=>h s cx CX wh rd E w0 w s
end Go.Sx
namespace Go.Sx
open Go.RowKit
structure Asm where
  c:BE
  b:Bool
noncomputable def findA (c:BE) (l:List Asm):Option Bool:=@List.rec Asm (fun _=>Option Bool) none (fun a _ ih=>cond (eqBE a.c c) (some a.b) ih) l
def AsmOk (ρ:Rho) (l:List Asm):Prop:=∀ a ∈ l,a.c.den ρ=a.b
theorem findA_ok {ρ:Rho} {c:BE}:∀ {l:List Asm} {b:Bool},AsmOk ρ l→findA c l=some b→c.den ρ=b
  | [],b,_,h=>by cases h
  | a :: l,b,H,h=>by
    have h:cond (eqBE a.c c) (some a.b) (findA c l)=some b:=h
    cases he:eqBE a.c c with
    | true =>
      rw [he] at h; cases h
      rw [← dr _ _ he]; exact H a List.mem_cons_self
    | false=>rw [he] at h; exact findA_ok (fun x hx=>H x (List.mem_cons_of_mem _ hx)) h
theorem T.holds_weak {α:Type} {ρ:Rho} {P Q:α→Prop}:∀ {t:T α},t.Holds ρ P→(∀ a,P a→Q a)→t.Holds ρ Q
  | .ret a,h,k=>k a h
  | .fail w,h,_=>h.elim
  | .br c x y,h,k=>by
    simp only [T.Holds] at h ⊢
    split at h
    · rename_i hc; rw [if_pos hc]; exact T.holds_weak h k
    · rename_i hc; rw [if_neg hc]; exact T.holds_weak h k
end Go.Sx
