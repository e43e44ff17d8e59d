/- A CALL THAT ONLY READS A BLOCK,WHEREVER THIS BLOCK LIES. -/
import Derived.Test.YtpkonfmonoaajaaDoorSxEnt
import Derived.IntWalk
/-! LOOPS,ROUND BY ROUND: a round from a state that variables tell; the next one begins as it ends,with other values of the variables. -/
namespace Go.Sx
open Go.RowKit

/-! ## Values that name the blocks below a number alone -/
mutual
def idsLt (n:Nat):AV→Bool
  | .bool _=>true
  | .int _ _=>true
  | .ptr b _=>Nat.ble (b + 1) n
  | .nilptr=>true
  | .slice b _ _ _=>Nat.ble (b + 1) n
  | .sliceX b _ _ _=>Nat.ble (b + 1) n
  | .nilslice=>true
  | .map b=>Nat.ble (b + 1) n
  | .nilmap=>true
  | .func _ x y=>and (idsLts n x) (idsLts n y)
  | .yieldF b=>Nat.ble (b + 1) n
  | .nilFunc=>true
  | .agg l=>idsLts n l
  | .tup l=>idsLts n l
  | .opq _=>true
  | .sliceU _=>true
  | .sliceV b _=>Nat.ble (b + 1) n
  | .ptrV b _ _ _ _=>Nat.ble (b + 1) n
  | .bad=>true
def idsLts (n:Nat):List AV→Bool
  | []=>true
  | a :: l=>and (idsLt n a) (idsLts n l)
end

mutual
theorem conc_ids {n:Nat} {E E':Env} (hρ:E'.ρ=E.ρ) (hσ:∀ b,b < n→E'.σ b=E.σ b∧(E.σ b ≠ none→E'.κ b=E.κ b)):∀ (a:AV),idsLt n a=true→conc E' a=conc E a
  | .bool _,_=>by simp only [conc,hρ]
  | .int _ _,_=>by simp only [conc,hρ]
  | .ptr b _,h=>by simp only [conc,(hσ b (ble_t.1 h)).1]
  | .nilptr,_=>rfl
  | .slice b _ _ _,h=>by simp only [conc,(hσ b (ble_t.1 h)).1]
  | .sliceX b _ _ _,h=>by
    simp only [conc,(hσ b (ble_t.1 h)).1]
    cases hb:E.σ b with
    | none=>simp
    | some q=>simp only [(hσ b (ble_t.1 h)).2 (by rw [hb]; simp)]
  | .nilslice,_=>rfl
  | .map b,h=>by simp only [conc,(hσ b (ble_t.1 h)).1]
  | .nilmap,_=>rfl
  | .func fn x y,h=>by
    simp only [idsLt,Bool.and_eq_true] at h
    simp only [conc,concL_ids hρ hσ x h.1,concL_ids hρ hσ y h.2]
  | .yieldF b,h=>by simp only [conc,(hσ b (ble_t.1 h)).1]
  | .nilFunc,_=>rfl
  | .agg l,h=>by simp only [conc,concL_ids hρ hσ l (by simpa [idsLt] using h)]
  | .tup l,h=>by simp only [conc,concL_ids hρ hσ l (by simpa [idsLt] using h)]
  | .opq _,_=>by simp only [conc,hρ]
  | .sliceU _,_=>by simp only [conc,hρ]
  | .sliceV b _,h=>by
    simp only [conc,hρ,(hσ b (ble_t.1 h)).1]
    cases hb:E.σ b with
    | none=>simp
    | some q=>simp only [(hσ b (ble_t.1 h)).2 (by rw [hb]; simp)]
  | .ptrV b _ _ _ _,h=>by simp only [conc,hρ,(hσ b (ble_t.1 h)).1]
  | .bad,_=>rfl
theorem concL_ids {n:Nat} {E E':Env} (hρ:E'.ρ=E.ρ) (hσ:∀ b,b < n→E'.σ b=E.σ b∧(E.σ b ≠ none→E'.κ b=E.κ b)):∀ (l:List AV),idsLts n l=true→concL E' l=concL E l
  | [],_=>rfl
  | a :: l,h=>by
    simp only [idsLts,Bool.and_eq_true] at h
    simp only [concL,conc_ids hρ hσ a h.1,concL_ids hρ hσ l h.2]
end

/-- alike,whatever blocks are named: a value under one reading of the variables,and one under another -/
def SameV (ρ:Rho) (v:AV) (ρ':Rho) (v':AV):Prop:=∀ σ κ n m rc rc',conc ⟨ρ,σ,κ,n,rc⟩ v=conc ⟨ρ',σ,κ,m,rc'⟩ v'

theorem SameV.int {ρ ρ':Rho} {k:IntKind} {e e':IE} (h:e.den ρ=e'.den ρ'):SameV ρ (.int k e) ρ' (.int k e'):=fun _ _ _ _ _ _=>by simp only [conc,h]
theorem SameV.bool {ρ ρ':Rho} {e e':BE} (h:e.den ρ=e'.den ρ'):SameV ρ (.bool e) ρ' (.bool e'):=fun _ _ _ _ _ _=>by simp only [conc,h]
theorem SameV.opq {ρ ρ':Rho} {i j:Nat} (h:ρ.ov i=ρ'.ov j):SameV ρ (.opq i) ρ' (.opq j):=fun _ _ _ _ _ _=>by simp only [conc,h]
theorem SameV.ptr {ρ ρ':Rho} (b o:Nat):SameV ρ (.ptr b o) ρ' (.ptr b o):=fun _ _ _ _ _ _=>rfl
theorem SameV.slice {ρ ρ':Rho} (b o l c:Nat):SameV ρ (.slice b o l c) ρ' (.slice b o l c):=fun _ _ _ _ _ _=>rfl
theorem SameV.sliceX {ρ ρ':Rho} (b o l c:Nat):SameV ρ (.sliceX b o l c) ρ' (.sliceX b o l c):=fun _ _ _ _ _ _=>rfl
theorem SameV.sliceV {ρ ρ':Rho} (b:Nat) {i:Nat} (h:ρ.iv i=ρ'.iv i):SameV ρ (.sliceV b i) ρ' (.sliceV b i):=fun _ _ _ _ _ _=>by simp only [conc,h]
theorem SameV.map {ρ ρ':Rho} (b:Nat):SameV ρ (.map b) ρ' (.map b):=fun _ _ _ _ _ _=>rfl
theorem SameV.nilslice {ρ ρ':Rho}:SameV ρ .nilslice ρ' .nilslice:=fun _ _ _ _ _ _=>rfl
theorem SameV.nilFunc {ρ ρ':Rho}:SameV ρ .nilFunc ρ' .nilFunc:=fun _ _ _ _ _ _=>rfl
theorem SameV.agg {ρ ρ':Rho} {l l':List AV} (h:∀ σ κ n m rc rc',concL ⟨ρ,σ,κ,n,rc⟩ l=concL ⟨ρ',σ,κ,m,rc'⟩ l'):SameV ρ (.agg l) ρ' (.agg l'):=fun σ κ n m rc rc'=>by simp only [conc,h σ κ n m rc rc']
theorem SameV.func {ρ ρ':Rho} {fn:Fn} {l l' k k':List AV} (h:∀ σ κ n m rc rc',concL ⟨ρ,σ,κ,n,rc⟩ l=concL ⟨ρ',σ,κ,m,rc'⟩ l') (hk:∀ σ κ n m rc rc',concL ⟨ρ,σ,κ,n,rc⟩ k=concL ⟨ρ',σ,κ,m,rc'⟩ k'):SameV ρ (.func fn l k) ρ' (.func fn l' k') :=
  fun σ κ n m rc rc'=>by simp only [conc,h σ κ n m rc rc',hk σ κ n m rc rc']
theorem SameL.nil {ρ ρ':Rho}:∀ σ κ n m rc rc',concL ⟨ρ,σ,κ,n,rc⟩ []=concL ⟨ρ',σ,κ,m,rc'⟩ []:=fun _ _ _ _ _ _=>rfl
theorem SameL.cons {ρ ρ':Rho} {a a':AV} {l l':List AV} (h:SameV ρ a ρ' a') (k:∀ σ κ n m rc rc',concL ⟨ρ,σ,κ,n,rc⟩ l=concL ⟨ρ',σ,κ,m,rc'⟩ l'):∀ σ κ n m rc rc',concL ⟨ρ,σ,κ,n,rc⟩ (a :: l)=concL ⟨ρ',σ,κ,m,rc'⟩ (a' :: l') :=
  fun σ κ n m rc rc'=>by simp only [concL,h σ κ n m rc rc',k σ κ n m rc rc']

/-! ## Blocks put anew -/
noncomputable def putL:List (Nat × AObj)→Heap→Heap
  | [],h=>h
  | q :: l,h=>putL l (h.put q.1 q.2)
theorem putL_next:∀ (l:List (Nat × AObj)) (h:Heap),(putL l h).next=h.next
  | [],_=>rfl
  | q :: l,h=>by rw [putL,putL_next l]; rfl
theorem putL_get:∀ (l:List (Nat × AObj)) (h:Heap) (j:Nat) (o:AObj),(putL l h).get j=some o→(h.get j=some o∧∀ q ∈ l,q.1 ≠ j) ∨ ∃ q ∈ l,q.1=j∧q.2=o
  | [],h,j,o,e=>.inl ⟨e,fun q hq=>by cases hq⟩
  | q :: l,h,j,o,e=>by
    rw [putL] at e
    rcases putL_get l _ j o e with ⟨h1,h2⟩ | ⟨q',h1,h2,h3⟩
    · rw [Heap.get_put] at h1
      by_cases hj:j=q.1
      · rw [if_pos hj] at h1; cases h1
        exact .inr ⟨q,List.mem_cons_self,hj.symm,rfl⟩
      · rw [if_neg hj] at h1
        refine .inl ⟨h1,fun q' hq'=>?_⟩
        rcases List.mem_cons.1 hq' with rfl | hq'
        · exact fun e=>hj e.symm
        · exact h2 q' hq'
    · exact .inr ⟨q',List.mem_cons_of_mem _ h1,h2,h3⟩

/-- BLOCKS OF ONE's OWN,WRITTEN. -/
theorem HeapOk.putAll {p : Par} {E : Env} {h : Heap} {w0 : Base} {w w' : World} (HH : HeapOk p E h w0 w) {outs : List (Nat × AObj)} (hK : Kept (fun c => c < w.heap.size ∧ ∀ q ∈ outs, ∀ x, E.σ q.1 ≠ some (c, x)) w w')
    (hout:∀ q ∈ outs,ownO q.2=true∧objOk p E q.1 q.2 w'.heap∧∃ o0,h.get q.1=some o0∧ownO o0=true):HeapOk p E (putL outs h) w0 w':=by
  have kinds:∀ j o,(putL outs h).get j=some o→∃ o0,h.get j=some o0∧((o0=o∧∀ q ∈ outs,q.1 ≠ j) ∨ (ownO o0=true∧ownO o=true∧objOk p E j o w'.heap)):=fun j o e=>by
    rcases putL_get outs h j o e with ⟨h1,h2⟩ | ⟨q,hq,rfl,rfl⟩
    · exact ⟨o,h1,.inl ⟨rfl,h2⟩⟩
    · obtain ⟨a1,a2,o0,a3,a4⟩:=hout q hq
      exact ⟨o0,a3,.inr ⟨a4,a1,a2⟩⟩
  have no:∀ j o0 c x,h.get j=some o0→(∀ q ∈ outs,q.1 ≠ j)→(ownO o0=true ∨ roO o0=true)→E.σ j=some (c,x)→∀ q ∈ outs,∀ y,E.σ q.1 ≠ some (c,y):=fun j o0 c x g hne hk hc q hq y hy=>by
    obtain ⟨_,_,o1,a3,a4⟩:=hout q hq
    rcases hk with hk | hk
    · exact hne q hq (HH.inj _ _ _ _ _ _ _ a3 g a4 hk hy hc)
    · exact HH.base _ _ _ _ a3 a4 hy (HH.ro _ _ _ _ g hk hc)
  refine ⟨fun j o ho=>?_,fun b b' o o' c x y g1 g2 w1 w2 s1 s2=>?_,fun b o c x ho ow s=>?_,fun b o c y hg hr s=>?_,fun b hb=>?_,fun b o c x ho s=>?_,HH.glob,?_,?_,HH.ok⟩
  · obtain ⟨o0,g,⟨rfl,hne⟩ | ⟨_,_,hok⟩⟩:=kinds j o ho
    · exact (HH.obj j o0 g).mono (Env.le0.refl E) (fun h=>h) (fun c x hc hk=>hK.block c ⟨HH.lt _ _ _ _ g hc,no j o0 c x g hne hk hc⟩)
    · exact hok
  · have f : ∀ b o, (putL outs h).get b = some o → ownO o = true → ∃ o0, h.get b = some o0 ∧ ownO o0 = true := fun b o g hw => by
      obtain ⟨o0,g',⟨rfl,_⟩ | ⟨hw',_⟩⟩:=kinds b o g
      · exact ⟨o0,g',hw⟩
      · exact ⟨o0,g',hw'⟩
    obtain ⟨o0,k1,k2⟩:=f b o g1 w1
    obtain ⟨o0',k1',k2'⟩:=f b' o' g2 w2
    exact HH.inj _ _ _ _ _ _ _ k1 k1' k2 k2' s1 s2
  · obtain ⟨o0,g,⟨rfl,_⟩ | ⟨hw,_⟩⟩:=kinds b o ho
    · exact HH.base _ _ _ _ g ow s
    · exact HH.base _ _ _ _ g hw s
  · obtain ⟨o0,g,⟨rfl,_⟩ | ⟨_,hw,_⟩⟩:=kinds b o hg
    · exact HH.ro _ _ _ _ g hr s
    · rw [roO_own hw] at hr; cases hr
  · rw [putL_next] at hb; exact HH.fresh b hb
  · obtain ⟨o0,g,_⟩:=kinds b o ho
    exact Nat.lt_of_lt_of_le (HH.lt _ _ _ _ g s) hK.size
  · refine HH.below.trans ⟨hK.os,hK.tape,hK.output,hK.size,fun c hc=>hK.block c ⟨HH.below.lt hc,fun q hq y hy=>?_⟩⟩
    obtain ⟨_,_,o1,a3,a4⟩:=hout q hq
    exact HH.base _ _ _ _ a3 a4 hy hc
  · rw [putL_next]; exact HH.nx

/-! ## Rounds -/
/-- a block of a template: one that is only read,or one that is written -/
structure VB where
  id:Nat
  cs:List AV
  own:Option (TypeId × Bool)
  u:Option (Nat × List Bool)

noncomputable def VB.obj (v:VB):AObj :=
  match v.own with
  | none=>(match v.u with
    | none=>.cells v.cs 0 false false
    | some q=>.ucells q.1 q.2)
  | some q=>.cells v.cs q.1 true q.2
theorem VB.own_obj (v:VB):ownO v.obj=v.own.isSome:=by unfold VB.obj; cases v.own with | some q=>rfl | none=>cases v.u <;> rfl
theorem VB.ro_obj (v:VB):roO v.obj=!v.own.isSome:=by unfold VB.obj; cases v.own with | some q=>rfl | none=>cases v.u <;> rfl
/-- a list that is not known,under two readings -/
def SameU (ρ ρ':Rho) (u:Option (Nat × List Bool)):Prop:=∀ q,u=some q→ρ.iv q.1=ρ'.iv q.1∧∀ n off k,cellOf ρ q.1 n off k=cellOf ρ' q.1 n off k
theorem SameU.none (ρ ρ':Rho):SameU ρ ρ' none:=fun q h=>by cases h
theorem SameU.some {ρ ρ':Rho} {i:Nat} {ks:List Bool} (h:ρ.iv i=ρ'.iv i) (hi:ρ.fi=ρ'.fi) (hb:ρ.fb=ρ'.fb):SameU ρ ρ' (some (i,ks)):=fun q e=>by cases e; exact ⟨h,fun n off k=>by unfold cellOf; rw [hi,hb]⟩

noncomputable def vbHeap (n:Nat):List VB→Heap
  | []=>⟨.nil,n⟩
  | g :: l=>(vbHeap n l).put g.id g.obj
theorem vbHeap_next (n:Nat):∀ l,(vbHeap n l).next=n
  | []=>rfl
  | g :: l=>by rw [vbHeap,Heap.next_put]; exact vbHeap_next n l
theorem vbHeap_get (n:Nat):∀ (l:List VB) (b:Nat) (o:AObj),(vbHeap n l).get b=some o→∃ g ∈ l,g.id=b∧o=g.obj
  | [],b,o,h=>by
    have:(PT.nil:PT AObj).get b=some o:=h
    rw [PT.get_nil] at this; cases this
  | g :: l,b,o,h=>by
    rw [vbHeap,Heap.get_put] at h
    by_cases c:b=g.id
    · rw [if_pos c] at h; cases h; exact ⟨g,List.mem_cons_self,c.symm,rfl⟩
    · rw [if_neg c] at h
      obtain ⟨g',h1,h2⟩:=vbHeap_get n l b o h
      exact ⟨g',List.mem_cons_of_mem _ h1,h2⟩

/-- a state that variables tell: slots,and blocks -/
structure Tmpl where
  sl:List (Nat × AV)
  view:List VB
  nv:Nat

noncomputable def Tmpl.st (T:Tmpl):St:=⟨⟨[],treeOf T.sl⟩,[],vbHeap T.nv T.view⟩
def Tmpl.env (T:Tmpl) (σ:Nat→Option (Nat × Nat)) (κ:Nat→Nat) (ρ:Rho):Env:=⟨ρ,σ,κ,T.nv,fun _=>#[]⟩
/-- what the rounds do not write -/
def Tmpl.keeps (T:Tmpl) (σ:Nat→Option (Nat × Nat)) (w:World) (c:Nat):Prop:=c < w.heap.size∧∀ g ∈ T.view,g.own.isSome=true→∀ x,σ g.id ≠ some (c,x)

/-- a state is as the template,the variables read so -/
structure LInv (p:Par) (T:Tmpl) (n:Nat) (σ:Nat→Option (Nat × Nat)) (κ:Nat→Nat) (ρ:Rho) (w0:World) (a:Act) (w:World):Prop where
  size:n≤a.tmps.size
  df:a.defers=[]
  at_:∀ g ∈ T.sl,∃ v,conc (T.env σ κ ρ) g.2=some v∧a.tmps[g.1]?=some v
  view:∀ g ∈ T.view,objOk p (T.env σ κ ρ) g.id g.obj w.heap∧∃ c x,σ g.id=some (c,x)∧c < w.heap.size
  kept:Kept (T.keeps σ w0) w0 w

/-- cells alike -/
def SameL (ρ:Rho) (l:List AV) (ρ':Rho) (l':List AV):Prop:=∀ σ κ n m rc rc',concL ⟨ρ,σ,κ,n,rc⟩ l=concL ⟨ρ',σ,κ,m,rc'⟩ l'

/-- a state after a round is as the template,the variables read anew -/
def Next (T:Tmpl) (ρ ρ':Rho) (s:St):Prop:=s.df=[]∧(∀ g ∈ T.sl,∃ v,s.tm.tree.get g.1=some v∧SameV ρ v ρ' g.2) ∧
  ∀ g ∈ T.view,match g.own with
    | none=>SameL ρ g.cs ρ' g.cs∧SameU ρ ρ' g.u
    | some q=>∃ cs,s.h.get g.id=some (.cells cs q.1 true q.2)∧SameL ρ cs ρ' g.cs

structure TOk (T:Tmpl) (keep:List Nat) (σ:Nat→Option (Nat × Nat)):Prop where
  keep:∀ g ∈ T.sl,memN keep (some g.1)=true
  ids:∀ g ∈ T.sl,idsLt T.nv g.2=true
  idsV:∀ g ∈ T.view,idsLts T.nv g.cs=true∧g.id < T.nv
  fresh:∀ b,T.nv≤b→σ b=none
  glob:∀ b,b < 1000→σ b=some (b,0)
  inj:∀ g ∈ T.view,g.own.isSome=true→∀ g' ∈ T.view,∀ c x y,σ g.id=some (c,x)→σ g'.id=some (c,y)→g=g'

/-- cells under names that are more -/
theorem concL_env {T:Tmpl} {σ:Nat→Option (Nat × Nat)} {κ:Nat→Nat} {ρ ρ':Rho} {E':Env} (hle:(T.env σ κ ρ).le E') {cs cs':List AV} {vs:List Value} (hi:idsLts T.nv cs'=true) (hs:SameL ρ cs ρ' cs') (h:concL E' cs=some vs):concL (T.env σ κ ρ') cs'=some vs:=by
  have e1:concL ⟨ρ',E'.σ,E'.κ,T.nv,fun _=>#[]⟩ cs'=some vs:=by
    have:=hs E'.σ E'.κ E'.n T.nv E'.rc (fun _=>#[])
    rw [← this,← h]
    have hρ:E'.ρ=ρ:=hle.ρ
    rw [← hρ]
  rw [← e1]
  refine (concL_ids (E:=T.env σ κ ρ') (E':=⟨ρ',E'.σ,E'.κ,T.nv,fun _=>#[]⟩) rfl (fun b hb=>?_) cs' hi).symm
  cases hs':σ b with
  | none=>exact ⟨(hle.none b hb hs').trans hs'.symm,fun h=>absurd hs' h⟩
  | some q=>exact ⟨(hle.σ b q hs').trans hs'.symm,fun _=>hle.κ b q hs'⟩
theorem conc_env {T:Tmpl} {σ:Nat→Option (Nat × Nat)} {κ:Nat→Nat} {ρ ρ':Rho} {E':Env} (hle:(T.env σ κ ρ).le E') {v v':AV} {u:Value} (hi:idsLt T.nv v'=true) (hs:SameV ρ v ρ' v') (h:conc E' v=some u):conc (T.env σ κ ρ') v'=some u:=by
  have hs':SameL ρ [v] ρ' [v']:=fun σ κ n m rc rc'=>by simp only [concL,hs σ κ n m rc rc']
  have hc:concL E' [v]=some [u]:=by simp only [concL,h]
  have:=concL_env (ρ':=ρ') hle (by simp [idsLts,hi]) hs' hc
  obtain ⟨x,r,h1,h2,h3⟩:=concL_cons.1 this
  cases h3
  exact h1

theorem loop_step {p : Par} {n : Nat} {keep : List Nat} {body : C} {code : Code} (hf : COk p n keep body code) {T : Tmpl} {σ : Nat → Option (Nat × Nat)} {κ : Nat → Nat} (K : TOk T keep σ) {cx : Cx} (CX : CxOk p cx) {wh : Wh} {rd : Option Nat} (hwr : wh.rd = none) (hrd : rd = none)
    {ρ:Rho} {m:Nat→Obj→Prop} (hok:p.ok ρ m) {w0:World} (hm:∀ c o,m c o→T.keeps σ w0 c∧w0.heap[c]?=some o) {a:Act} {w:World} (I:LInv p T n σ κ ρ w0 a w) {Nx:Rho→Prop} {Out:Ex→St→Prop}
    (round:(body cx wh T.st).Holds ρ fun r=>(r.1=.norm∧∃ ρ',Nx ρ'∧Next T ρ ρ' r.2) ∨ (r.1 ≠ .norm∧Out r.1 r.2)) {Q':Exit→Act→World→Prop}
    (go:∀ ρ' a' w',Nx ρ'→LInv p T n σ κ ρ' w0 a' w'→Q' .normal a' w')
    (exit:∀ x s' E' b a' w',x ≠ .norm→Out x s'→(T.env σ κ ρ).le E'→StOk p n keep E' b s' a' w'→Kept (T.keeps σ w0) w0 w'→(∀ g ∈ T.view,∃ c x,σ g.id=some (c,x))→Q' (exOf x) a' w'):code.wpIn (fence rd) 0 p.P Q' a w:=by
  let b:Base:=⟨w,T.keeps σ w,fun c hc=>hc.1⟩
  have lt:∀ j o c x,(vbHeap T.nv T.view).get j=some o→(T.env σ κ ρ).σ j=some (c,x)→c < w.heap.size:=fun j o c x ho hs=>by
    obtain ⟨g,hg,rfl,rfl⟩:=vbHeap_get _ _ _ _ ho
    obtain ⟨c',x',h1,h2⟩:=(I.view g hg).2
    have h1':(T.env σ κ ρ).σ g.id=some (c',x'):=h1
    rw [h1'] at hs; cases hs; exact h2
  have HH:HeapOk p (T.env σ κ ρ) (vbHeap T.nv T.view) b w:=by
    refine ⟨fun j o ho=>?_,fun j j' o o' c x y g1 g2 w1 w2 s1 s2=>?_,fun j o c x ho hw hs hc=>?_,fun j o c y ho hr hs=>?_,fun j hj=>?_,lt,K.glob,Kept.refl _ _,(by rw [vbHeap_next]; exact Nat.le_refl _),⟨m,hok,fun c o e=>⟨⟨Nat.lt_of_lt_of_le (hm c o e).1.1 I.kept.size,(hm c o e).1.2⟩,(I.kept.block c (hm c o e).1).trans (hm c o e).2⟩⟩⟩
    · obtain ⟨g,hg,rfl,rfl⟩:=vbHeap_get _ _ _ _ ho
      exact (I.view g hg).1
    · obtain ⟨g,hg,rfl,rfl⟩:=vbHeap_get _ _ _ _ g1
      obtain ⟨g',hg',rfl,rfl⟩:=vbHeap_get _ _ _ _ g2
      rw [VB.own_obj] at w1
      rw [K.inj g hg w1 g' hg' c x y s1 s2]
    · obtain ⟨g,hg,rfl,rfl⟩:=vbHeap_get _ _ _ _ ho
      rw [VB.own_obj] at hw
      exact hc.2 g hg hw x hs
    · refine ⟨lt j o c y ho hs,fun g' hg' hw x hx=>?_⟩
      obtain ⟨g,hg,rfl,rfl⟩:=vbHeap_get _ _ _ _ ho
      have:=K.inj g' hg' hw g hg c x y hx hs
      subst this
      rw [VB.ro_obj,hw] at hr; cases hr
    · rw [vbHeap_next] at hj; exact K.fresh j hj
  have HT:TreeOk keep (T.env σ κ ρ) (treeOf T.sl) a.tmps:=⟨fun t A hA=>by
    have hm:=treeOf_get _ _ _ hA
    obtain ⟨v,h1,h2⟩:=I.at_ _ hm
    exact ⟨K.keep _ hm,v,h1,h2⟩⟩
  have S:StOk p n keep (T.env σ κ ρ) b T.st a w:=⟨⟨I.size,fun t A h=>(by cases h),HT⟩,by rw [I.df]; trivial,HH⟩
  refine hf cx CX wh rd (T.env σ κ ρ) b w T.st a _ Q' (by rw [hwr,hrd]; trivial) S round ?_
  intro x s' E' w' a' q hle S'
  have hk:Kept (T.keeps σ w) w w':=S'.hp.below
  have hb:Kept (T.keeps σ w0) w0 w':=I.kept.trans ⟨hk.os,hk.tape,hk.output,hk.size,fun c hc=>hk.block c ⟨Nat.lt_of_lt_of_le hc.1 I.kept.size,hc.2⟩⟩
  rcases q with ⟨hx,ρ',hN,hdf,hsl,hvw⟩ | ⟨hx,ho⟩
  · simp only at hx hdf hsl hvw
    subst hx
    refine go ρ' a' w' hN ⟨S'.tm.size,?_,fun g hg=>?_,fun g hg=>?_,hb⟩
    · have:=S'.df
      rw [hdf] at this
      cases hd:a'.defers with
      | nil=>rfl
      | cons d ds=>rw [hd] at this; exact this.elim
    · obtain ⟨v,h1,h2⟩:=hsl g hg
      obtain ⟨_,u,h3,h4⟩:=S'.tm.tree.at_ _ _ h1
      exact ⟨u,conc_env hle (K.ids g hg) h2 h3,h4⟩
    · obtain ⟨hok,c,x,hσ,hlt⟩:=I.view g hg
      refine ⟨?_,c,x,hσ,Nat.lt_of_lt_of_le hlt hk.size⟩
      have hv:=hvw g hg
      cases hown:g.own with
      | none =>
        rw [hown] at hv
        obtain ⟨hv,hu⟩:=hv
        have hσ':(T.env σ κ ρ).σ g.id=some (c,x):=hσ
        have hsame:w'.heap[c]?=w.heap[c]?:=hk.block c ⟨hlt,fun g' hg' hw y hy=>by
          have:=K.inj g' hg' hw g hg c y x hy hσ
          subst this
          rw [hown] at hw; cases hw⟩
        cases hgu:g.u with
        | none =>
          have e:g.obj=.cells g.cs 0 false false:=by unfold VB.obj; rw [hown]; simp only [hgu]
          rw [e] at hok ⊢
          obtain ⟨c',base,vs,cells,el,fz,k1,k2,k3,k4,k5⟩:=hok
          rw [hσ'] at k1; cases k1
          refine ⟨c,x,vs,cells,el,fz,hσ,?_,?_,k4,fun h=>by cases h⟩
          · rw [← k2]; exact (hv σ κ T.nv T.nv (fun _=>#[]) (fun _=>#[])).symm
          · rw [hsame]; exact k3
        | some q =>
          have e:g.obj=.ucells q.1 q.2:=by unfold VB.obj; rw [hown]; simp only [hgu]
          rw [e] at hok ⊢
          obtain ⟨c',base,cells,el,fz,k1,k3,k4⟩:=hok
          rw [hσ'] at k1; cases k1
          obtain ⟨u1,u2⟩:=hu q hgu
          have u1:ρ.iv q.1=ρ'.iv q.1:=u1
          refine ⟨c,x,cells,el,fz,hσ,by rw [hsame]; exact k3,fun n off k hn hk=>?_⟩
          have hn:(n:Int) < ρ'.iv q.1:=hn
          rw [← u1] at hn
          rw [k4 n off k hn hk]
          exact congrArg some (u2 n off k)
      | some q =>
        rw [hown] at hv
        obtain ⟨cs,hget,hs⟩:=hv
        have e:g.obj=.cells g.cs q.1 true q.2:=by unfold VB.obj; rw [hown]
        rw [e]
        obtain ⟨c',base,vs,cells,el,fz,k1,k2,k3,k4,k5⟩:=S'.hp.obj _ _ hget
        have hσ':(T.env σ κ ρ).σ g.id=some (c,x):=hσ
        have h6:=hle.σ _ _ hσ'
        rw [k1] at h6; cases h6
        refine ⟨c,x,vs,cells,el,fz,hσ,concL_env hle (K.idsV g hg).1 hs k2,k3,k4,fun h=>?_⟩
        have hκ:E'.κ g.id=κ g.id:=hle.κ _ _ hσ'
        obtain ⟨m1,m2,m3,m4⟩:=k5 h
        exact ⟨m1,m2,m3,fun h=>by have:=m4 h; rw [hκ] at this; exact this⟩
  · exact exit x s' E' b a' w' hx ho hle S' hb (fun g hg => by
      obtain ⟨c,x,h1,_⟩:=(I.view g hg).2
      exact ⟨c,x,h1⟩)

theorem loop_rounds {p : Par} {n : Nat} {keep : List Nat} {body : C} {code : Code} (hf : COk p n keep body code) {T : Tmpl} {σ : Nat → Option (Nat × Nat)} {κ : Nat → Nat} (K : TOk T keep σ) {cx : Cx} (CX : CxOk p cx) {wh : Wh} {rd : Option Nat} (hwr : wh.rd = none) (hrd : rd = none)
    {w0:World} {M:Nat} {At:Nat→Rho→Prop} {Out:Rho→Ex→St→Prop} {m:Nat→Obj→Prop} (hAt:∀ i ρ,At i ρ→p.ok ρ m) (hm:∀ c o,m c o→T.keeps σ w0 c∧w0.heap[c]?=some o)
    (round:∀ i ρ,i≤M→At i ρ→(body cx wh T.st).Holds ρ fun r=>(r.1=.norm∧∃ ρ',(i < M∧At (i + 1) ρ')∧Next T ρ ρ' r.2) ∨ (r.1 ≠ .norm∧Out ρ r.1 r.2)) {Q':Exit→Act→World→Prop}
    (exit:∀ i ρ x s' E' b a' w',At i ρ→x ≠ .norm→Out ρ x s'→(T.env σ κ ρ).le E'→StOk p n keep E' b s' a' w'→Kept (T.keeps σ w0) w0 w'→(∀ g ∈ T.view,∃ c x,σ g.id=some (c,x))→Q' (exOf x) a' w') :
    ∀ (k i:Nat) (ρ:Rho) (a:Act) (w:World),i + k=M→At i ρ→LInv p T n σ κ ρ w0 a w→Code.roundsIn (fence rd) 0 p.P code Q' (k + 1) a w
  | k,i,ρ,a,w,hik,hA,I=>by
    rw [roundsIn_succ]
    have ex:∀ x s' E' b a' w',x ≠ .norm→Out ρ x s'→(T.env σ κ ρ).le E'→StOk p n keep E' b s' a' w'→Kept (T.keeps σ w0) w0 w'→(∀ g ∈ T.view,∃ c x,σ g.id=some (c,x))→Exit.then (Code.roundsIn (fence rd) 0 p.P code Q' k) Q' (exOf x) a' w':=fun x s' E' b a' w' hx ho hle S' hb hv=>by
      have:=exit i ρ x s' E' b a' w' hA hx ho hle S' hb hv
      cases x with
      | norm=>exact absurd rfl hx
      | exit id=>exact this
      | ret=>exact this
    refine loop_step hf K CX hwr hrd (hAt i ρ hA) hm I (Nx:=fun ρ'=>i < M∧At (i + 1) ρ') (Out:=Out ρ) (round i ρ (by omega) hA) (fun ρ' a' w' hN I'=>?_) ex
    cases k with
    | zero=>omega
    | succ k=>exact loop_rounds hf K CX hwr hrd hAt hm round exit k (i + 1) ρ' a' w' (by omega) hN.2 I'

/-! ## A loop,taken as said -/
/-- what the variables of a template are in a state -/
structure Bd where
  is:List (Nat × IE)
  os:List (Nat × AV)
  r:Ren
  bs:List (Nat × BE)

noncomputable def bdI (x e:IE) (B:Bd):Option Bd :=
  match x with
  | .var j=>(match lFind B.is j with
    | some e'=>cond (eqIE e' e) (some B) none
    | none=>some ⟨(j,e) :: B.is,B.os,B.r,B.bs⟩)
  | .lit z=>cond (eqIE (.lit z) e) (some B) none
  | _=>none
noncomputable def bdB (a b:BE) (B:Bd):Option Bd :=
  match a with
  | .lit x=>(match b with
    | .lit y=>cond (beqB x y) (some B) none
    | _=>none)
  | .var j=>(match lFind B.bs j with
    | some b'=>cond (eqBE b' b) (some B) none
    | none=>some ⟨B.is,B.os,B.r,(j,b) :: B.bs⟩)
  | _=>none
noncomputable def bdR (n b b':Nat) (B:Bd):Option Bd :=
  match bindR n b b' B.r with
  | some r=>some ⟨B.is,B.os,r,B.bs⟩
  | none=>none
noncomputable def bdO (j:Nat) (v:AV) (B:Bd):Option Bd :=
  match lFind B.os j with
  | some v'=>cond (eqAV v' v) (some B) none
  | none=>some ⟨B.is,(j,v) :: B.os,B.r,B.bs⟩

mutual
noncomputable def bdV (n:Nat):AV→AV→Bd→Option Bd
  | .int k x,.int k' e,B=>cond (kindEq k k') (bdI x e B) none
  | .opq j,v,B=>bdO j v B
  | .sliceU i,.sliceU j,B=>(match bdI (.var i) (.var j) B with
    | some B'=>bdO i (.sliceU j) B'
    | none=>none)
  | .ptr b o,.ptr b' o',B=>cond (Nat.beq o o') (bdR n b b' B) none
  | .slice b o l c,.slice b' o' l' c',B=>cond (and (Nat.beq o o') (and (Nat.beq l l') (Nat.beq c c'))) (bdR n b b' B) none
  | .sliceX b o l c,.sliceX b' o' l' c',B=>cond (and (Nat.beq o o') (and (Nat.beq l l') (Nat.beq c c'))) (bdR n b b' B) none
  | .map b,.map b',B=>cond true (bdR n b b' B) none
  | .sliceV b i,.sliceV b' j,B=>(match bdI (.var i) (.var j) B with
    | some B'=>cond true (bdR n b b' B') none
    | none=>none)
  | .agg x,.agg y,B=>bdL n x y B
  | .tup x,.tup y,B=>bdL n x y B
  | .func fn x y,.func fn' x' y',B=>cond (eqFn fn fn') (match bdL n x x' B with
    | some B'=>bdL n y y' B'
    | none=>none) none
  | .bool a,.bool b,B=>bdB a b B
  | .nilptr,.nilptr,B=>some B
  | .nilslice,.nilslice,B=>some B
  | .nilmap,.nilmap,B=>some B
  | .nilFunc,.nilFunc,B=>some B
  | _,_,_=>none
noncomputable def bdL (n:Nat):List AV→List AV→Bd→Option Bd
  | [],[],B=>some B
  | a :: l,b :: m,B=>(match bdV n a b B with
    | some B'=>bdL n l m B'
    | none=>none)
  | _,_,_=>none
end

structure RelD (n:Nat) (E ES:Env) (B:Bd):Prop where
  is:∀ j e,lFind B.is j=some e→ES.ρ.iv j=e.den E.ρ
  os:∀ j v,lFind B.os j=some v→conc E v=some (ES.ρ.ov j)
  lo:∀ b,b < 1000→ES.σ b=E.σ b∧ES.κ b=E.κ b
  at_:∀ b c,1000≤b→b < n→lFind B.r b=some c→ES.σ b=E.σ c∧ES.κ b=E.κ c
  bs:∀ j e,lFind B.bs j=some e→ES.ρ.bv j=e.den E.ρ
structure SubD (n:Nat) (B B':Bd):Prop where
  is:∀ j e,lFind B.is j=some e→lFind B'.is j=some e
  os:∀ j v,lFind B.os j=some v→lFind B'.os j=some v
  r:SubR n B.r B'.r
  bs:∀ j e,lFind B.bs j=some e→lFind B'.bs j=some e
theorem SubD.refl (n:Nat) (B:Bd):SubD n B B:=⟨fun _ _ h=>h,fun _ _ h=>h,SubR.refl _ _,fun _ _ h=>h⟩
theorem SubD.trans {n:Nat} {A B C:Bd} (h:SubD n A B) (k:SubD n B C):SubD n A C:=⟨fun j e h1=>k.is j e (h.is j e h1),fun j v h1=>k.os j v (h.os j v h1),h.r.trans k.r,fun j v h1=>k.bs j v (h.bs j v h1)⟩
theorem RelD.sub {n:Nat} {E ES:Env} {B B':Bd} (h:RelD n E ES B') (k:SubD n B B'):RelD n E ES B :=
  ⟨fun j e h1=>h.is j e (k.is j e h1),fun j v h1=>h.os j v (k.os j v h1),h.lo,fun b c h1 h2 h3=>h.at_ b c h1 h2 (k.r b c h1 h2 h3),fun j e h1=>h.bs j e (k.bs j e h1)⟩
/-- each of them is a value -/
def GoodD (E:Env) (B:Bd):Prop:=∀ j v,lFind B.os j=some v→∃ u,conc E v=some u

/-- what a match gives -/
structure BdOk (n:Nat) (B B':Bd) (A:Env→Value→Prop) (A':Env→Value→Prop):Prop where
  sub:SubD n B B'
  good:∀ E u,A' E u→GoodD E B→GoodD E B'
  same:∀ E ES u,RelD n E ES B'→A' E u→A ES u

theorem bd_bind {n b b' : Nat} {B B' : Bd} {c : Bool} (h : cond c (bdR n b b' B) none = some B') :
    c=true∧SubD n B B'∧B'.os=B.os∧∀ E ES,RelD n E ES B'→ES.σ b=E.σ b'∧ES.κ b=E.κ b':=by
  obtain ⟨hc,h⟩:=cond_some h
  unfold bdR at h
  split at h
  · rename_i r hr
    cases h
    obtain ⟨q1,q2⟩:=bindR_ok hr
    exact ⟨hc,⟨fun _ _ h=>h,fun _ _ h=>h,q1,fun _ _ h=>h⟩,rfl,fun E ES R=>q2 ⟨E.ρ,E.σ,E.κ,E.n,E.rc⟩ ⟨E.ρ,ES.σ,ES.κ,ES.n,ES.rc⟩ ⟨rfl,R.lo,R.at_⟩⟩
  · cases h

theorem bdI_ok {n:Nat} {k:IntKind} {x e:IE} {B B':Bd} (h:bdI x e B=some B'):BdOk n B B' (fun E u=>conc E (.int k x)=some u) (fun E u=>conc E (.int k e)=some u):=by
  unfold bdI at h
  split at h
  · rename_i j
    split at h
    · rename_i e' he'
      obtain ⟨h1,h2⟩:=cond_some h
      cases h2
      have:=eqIE_eq _ _ h1; subst this
      exact ⟨SubD.refl _ _,fun _ _ _ g=>g,fun E ES u R hu=>by simp only [conc,IE.den,R.is _ _ he'] at hu ⊢; exact hu⟩
    · rename_i hn
      cases h
      refine ⟨⟨fun i e1 hi=>?_,fun _ _ h=>h,SubR.refl _ _,fun _ _ h=>h⟩,fun _ _ _ g=>g,fun E ES u R hu=>?_⟩
      · rw [lFind_cons]
        cases hb:Nat.beq j i with
        | true=>have:=beq_t.1 hb; subst this; rw [hn] at hi; cases hi
        | false=>exact hi
      · have:=R.is j e (by rw [lFind_cons,beq_t.2 rfl]; rfl)
        simp only [conc,IE.den,this] at hu ⊢; exact hu
  · obtain ⟨h1,h2⟩:=cond_some h
    cases h2
    have:=eqIE_eq _ _ h1; subst this
    exact ⟨SubD.refl _ _,fun _ _ _ g=>g,fun E ES u R hu=>by simp only [conc,IE.den] at hu ⊢; exact hu⟩
  · cases h

theorem bdB_ok {n:Nat} {a b:BE} {B B':Bd} (h:bdB a b B=some B'):BdOk n B B' (fun E u=>conc E (.bool a)=some u) (fun E u=>conc E (.bool b)=some u):=by
  unfold bdB at h
  split at h
  · split at h
    · obtain ⟨h1,h2⟩:=cond_some h
      cases h2
      have:=beqB_eq h1; subst this
      exact ⟨SubD.refl _ _,fun _ _ _ g=>g,fun E ES u R hu=>by simp only [conc,BE.den] at hu ⊢; exact hu⟩
    · cases h
  · rename_i j
    split at h
    · rename_i b' hb'
      obtain ⟨h1,h2⟩:=cond_some h
      cases h2
      have:=eqBE_eq _ _ h1; subst this
      exact ⟨SubD.refl _ _,fun _ _ _ g=>g,fun E ES u R hu=>by simp only [conc,BE.den,R.bs _ _ hb'] at hu ⊢; exact hu⟩
    · rename_i hn
      cases h
      refine ⟨⟨fun _ _ h=>h,fun _ _ h=>h,SubR.refl _ _,fun i e1 hi=>?_⟩,fun _ _ _ g=>g,fun E ES u R hu=>?_⟩
      · rw [lFind_cons]
        cases hb:Nat.beq j i with
        | true=>have:=beq_t.1 hb; subst this; rw [hn] at hi; cases hi
        | false=>exact hi
      · have:=R.bs j b (by rw [lFind_cons,beq_t.2 rfl]; rfl)
        simp only [conc,BE.den,this] at hu ⊢; exact hu
  · cases h

theorem bdO_ok {n j:Nat} {v:AV} {B B':Bd} (h:bdO j v B=some B'):BdOk n B B' (fun E u=>conc E (.opq j)=some u) (fun E u=>conc E v=some u):=by
  unfold bdO at h
  split at h
  · rename_i v' hv'
    obtain ⟨h1,h2⟩:=cond_some h
    cases h2
    have:=eqAV_eq _ _ h1; subst this
    exact ⟨SubD.refl _ _,fun _ _ _ g=>g,fun E ES u R hu=>by have:=R.os _ _ hv'; rw [hu] at this; simp only [conc]; exact this.symm⟩
  · rename_i hn
    cases h
    refine ⟨⟨fun _ _ h=>h,fun i e1 hi=>?_,SubR.refl _ _,fun _ _ h=>h⟩,fun E u hu g i v1 hi=>?_,fun E ES u R hu=>?_⟩
    · rw [lFind_cons]
      cases hb:Nat.beq j i with
      | true=>have:=beq_t.1 hb; subst this; rw [hn] at hi; cases hi
      | false=>exact hi
    · rw [lFind_cons] at hi
      cases hb:Nat.beq j i with
      | true=>rw [hb] at hi; cases hi; exact ⟨u,hu⟩
      | false=>rw [hb] at hi; exact g i v1 hi
    · have:=R.os j v (by rw [lFind_cons,beq_t.2 rfl]; rfl)
      rw [hu] at this; simp only [conc]; exact this.symm

mutual
theorem bdV_ok {n:Nat}:∀ (a a':AV) (B B':Bd),bdV n a a' B=some B'→BdOk n B B' (fun E u=>conc E a=some u) (fun E u=>conc E a'=some u)
  | .int k x,a',B,B',h=>by
    cases a' <;> simp only [bdV] at h <;> first | (cases h; done) | skip
    rename_i k' e
    obtain ⟨hk,h2⟩:=cond_some h
    have hk:=kindEq_eq hk
    subst hk
    exact bdI_ok h2
  | .opq j,v,B,B',h=>by
    simp only [bdV] at h
    exact bdO_ok h
  | .ptr b o,a',B,B',h=>by
    cases a' <;> simp only [bdV] at h <;> first | (cases h; done) | skip
    obtain ⟨h1,h2,h3,h4⟩:=bd_bind h
    have:=beq_t.1 h1; subst this
    exact ⟨h2,fun E u _ g=>by unfold GoodD; rw [h3]; exact g,fun E ES u R hu=>by simp only [conc,(h4 E ES R).1] at hu ⊢; exact hu⟩
  | .slice b o l c,a',B,B',h=>by
    cases a' <;> simp only [bdV] at h <;> first | (cases h; done) | skip
    obtain ⟨h1,h2,h3,h4⟩:=bd_bind h
    simp only [Bool.and_eq_true] at h1
    have e1:=beq_t.1 h1.1; have e2:=beq_t.1 h1.2.1; have e3:=beq_t.1 h1.2.2; subst e1; subst e2; subst e3
    exact ⟨h2,fun E u _ g=>by unfold GoodD; rw [h3]; exact g,fun E ES u R hu=>by simp only [conc,(h4 E ES R).1] at hu ⊢; exact hu⟩
  | .sliceX b o l c,a',B,B',h=>by
    cases a' <;> simp only [bdV] at h <;> first | (cases h; done) | skip
    obtain ⟨h1,h2,h3,h4⟩:=bd_bind h
    simp only [Bool.and_eq_true] at h1
    have e1:=beq_t.1 h1.1; have e2:=beq_t.1 h1.2.1; have e3:=beq_t.1 h1.2.2; subst e1; subst e2; subst e3
    exact ⟨h2,fun E u _ g=>by unfold GoodD; rw [h3]; exact g,fun E ES u R hu=>by simp only [conc,(h4 E ES R).1,(h4 E ES R).2] at hu ⊢; exact hu⟩
  | .agg x,a',B,B',h=>by
    cases a' <;> simp only [bdV] at h <;> first | (cases h; done) | skip
    obtain ⟨q1,q2,q3⟩:=bdL_ok x _ B B' h
    refine ⟨q1,fun E u hu g=>?_,fun E ES u R hu=>?_⟩
    · simp only [conc,Option.map_eq_some_iff] at hu
      obtain ⟨us,h1,_⟩:=hu
      exact q2 E us h1 g
    · simp only [conc,Option.map_eq_some_iff] at hu ⊢
      obtain ⟨us,h1,h2⟩:=hu
      exact ⟨us,q3 E ES us R h1,h2⟩
  | .tup x,a',B,B',h=>by
    cases a' <;> simp only [bdV] at h <;> first | (cases h; done) | skip
    obtain ⟨q1,q2,q3⟩:=bdL_ok x _ B B' h
    refine ⟨q1,fun E u hu g=>?_,fun E ES u R hu=>?_⟩
    · simp only [conc,Option.map_eq_some_iff] at hu
      obtain ⟨us,h1,_⟩:=hu
      exact q2 E us h1 g
    · simp only [conc,Option.map_eq_some_iff] at hu ⊢
      obtain ⟨us,h1,h2⟩:=hu
      exact ⟨us,q3 E ES us R h1,h2⟩
  | .func fn x y,a',B,B',h=>by
    cases a' <;> simp only [bdV] at h <;> first | (cases h; done) | skip
    rename_i fn' x' y'
    obtain ⟨h1,h2⟩:=cond_some h
    have e1:=eqFn_eq h1; subst e1
    cases h3:bdL n x x' B with
    | none=>rw [h3] at h2; cases h2
    | some B1 =>
      rw [h3] at h2
      obtain ⟨q1,q2,q3⟩:=bdL_ok x _ B B1 h3
      obtain ⟨q4,q5,q6⟩:=bdL_ok y _ B1 B' h2
      have parts:∀ E u,conc E (.func fn x' y')=some u→∃ us vs,concL E x'=some us∧concL E y'=some vs:=fun E u hu=>by
        simp only [conc] at hu
        cases hx:concL E x' with
        | none=>rw [hx] at hu; cases fn <;> simp at hu
        | some us =>
          cases hy:concL E y' with
          | none=>rw [hx,hy] at hu; cases fn <;> simp at hu
          | some vs=>exact ⟨us,vs,rfl,rfl⟩
      refine ⟨q1.trans q4,fun E u hu g=>?_,fun E ES u R hu=>?_⟩
      · obtain ⟨us,vs,h5,h6⟩:=parts E u hu
        exact q5 E vs h6 (q2 E us h5 g)
      · obtain ⟨us,vs,h5,h6⟩:=parts E u hu
        simp only [conc,h5,h6] at hu
        simp only [conc,q3 E ES us (R.sub q4) h5,q6 E ES vs R h6]
        exact hu
  | .bool b,a',B,B',h=>by
    cases a' <;> simp only [bdV] at h <;> first | (cases h; done) | skip
    exact bdB_ok h
  | .nilptr,a',B,B',h=>by
    cases a' <;> simp only [bdV] at h <;> first | (cases h; done) | skip
    cases h; exact ⟨SubD.refl _ _,fun _ _ _ g=>g,fun E ES u R hu=>hu⟩
  | .nilslice,a',B,B',h=>by
    cases a' <;> simp only [bdV] at h <;> first | (cases h; done) | skip
    cases h; exact ⟨SubD.refl _ _,fun _ _ _ g=>g,fun E ES u R hu=>hu⟩
  | .sliceU i,a',B,B',h=>by
    cases a' <;> simp only [bdV] at h <;> first | (cases h; done) | skip
    rename_i j
    split at h
    · rename_i B1 h1
      obtain ⟨p1,p2,p3⟩:=bdI_ok (n:=n) (k:=.i64) h1
      obtain ⟨q1,q2,q3⟩:=bdO_ok (n:=n) h
      have hint:∀ E:Env,conc E (.int .i64 (.var j))=some (.int .i64 (E.ρ.iv j)):=fun E=>rfl
      refine ⟨p1.trans q1,fun E u hu g=>q2 E u hu (p2 E _ (hint E) g),fun E ES u R hu=>?_⟩
      have e1:=p3 E ES _ (R.sub q1) (hint E)
      have e2:=q3 E ES u R hu
      simp only [conc,IE.den,Option.some.injEq,Value.int.injEq,true_and] at e1 e2
      obtain ⟨p,m,c,rfl,hm⟩:=sliceU_conc hu
      simp only [conc,e2]
      rw [if_pos (by rw [e1,hm])]
    · cases h
  | .sliceV b i,a',B,B',h=>by
    cases a' <;> simp only [bdV] at h <;> first | (cases h; done) | skip
    rename_i b' j
    split at h
    · rename_i B1 h1
      obtain ⟨p1,p2,p3⟩:=bdI_ok (n:=n) (k:=.i64) h1
      obtain ⟨h1,h2,h3,h4⟩:=bd_bind (c:=true) h
      have hint:∀ E:Env,conc E (.int .i64 (.var j))=some (.int .i64 (E.ρ.iv j)):=fun E=>rfl
      refine ⟨p1.trans h2,fun E u hu g=>by unfold GoodD; rw [h3]; exact p2 E _ (hint E) g,fun E ES u R hu=>?_⟩
      have e1:=p3 E ES _ (R.sub h2) (hint E)
      simp only [conc,IE.den,Option.some.injEq,Value.int.injEq,true_and] at e1
      simp only [conc,(h4 E ES R).1,(h4 E ES R).2,e1] at hu ⊢; exact hu
    · cases h
  | .nilmap,a',B,B',h=>by
    cases a' <;> simp only [bdV] at h <;> first | (cases h; done) | skip
    cases h; exact ⟨SubD.refl _ _,fun _ _ _ g=>g,fun E ES u R hu=>hu⟩
  | .nilFunc,a',B,B',h=>by
    cases a' <;> simp only [bdV] at h <;> first | (cases h; done) | skip
    cases h; exact ⟨SubD.refl _ _,fun _ _ _ g=>g,fun E ES u R hu=>hu⟩
  | .map b,a',B,B',h=>by
    cases a' <;> simp only [bdV] at h <;> first | (cases h; done) | skip
    obtain ⟨h1,h2,h3,h4⟩:=bd_bind h
    exact ⟨h2,fun E u _ g=>by unfold GoodD; rw [h3]; exact g,fun E ES u R hu=>by simp only [conc,(h4 E ES R).1] at hu ⊢; exact hu⟩
  | .yieldF b,a',B,B',h=>by cases a' <;> simp only [bdV] at h <;> cases h
  | .bad,a',B,B',h=>by cases a' <;> simp only [bdV] at h <;> cases h
theorem bdL_ok {n:Nat}:∀ (l l':List AV) (B B':Bd),bdL n l l' B=some B'→SubD n B B'∧(∀ E us,concL E l'=some us→GoodD E B→GoodD E B')∧∀ E ES us,RelD n E ES B'→concL E l'=some us→concL ES l=some us
  | [],l',B,B',h=>by
    cases l' <;> simp only [bdL] at h
    · cases h; exact ⟨SubD.refl _ _,fun _ _ _ g=>g,fun E ES us R hu=>hu⟩
    · cases h
  | a :: l,l',B,B',h=>by
    cases l' with
    | nil=>simp only [bdL] at h; cases h
    | cons b m =>
      simp only [bdL] at h
      cases h3:bdV n a b B with
      | none=>rw [h3] at h; cases h
      | some B1 =>
        rw [h3] at h
        obtain ⟨q1,q2,q3⟩:=bdV_ok a b B B1 h3
        obtain ⟨q4,q5,q6⟩:=bdL_ok l m B1 B' h
        refine ⟨q1.trans q4,fun E us hu g=>?_,fun E ES us R hu=>?_⟩
        · obtain ⟨v,r,h5,h6,rfl⟩:=concL_cons.1 hu
          exact q5 E r h6 (q2 E v h5 g)
        · obtain ⟨v,r,h5,h6,rfl⟩:=concL_cons.1 hu
          exact concL_cons.2 ⟨v,r,q3 E ES v (R.sub q4) h5,q6 E ES r R h6,rfl⟩
end

noncomputable def bdSl (n:Nat) (t:PT AV):List (Nat × AV)→Bd→Option Bd
  | [],B=>some B
  | g :: l,B=>(match t.get g.1 with
    | some v=>(match bdV n g.2 v B with
      | some B'=>bdSl n t l B'
      | none=>none)
    | none=>none)
/-- a block of a loop: what it has at the start,as each round begins,and,if it is written,at the end -/
structure VS where
  id:Nat
  own:Option (TypeId × Bool)
  c0:List AV
  c:List AV
  cf:List AV
  u:Option (Nat × List Bool)
noncomputable def bdG (v:VS) (o:Option AObj):Option (List AV) :=
  match o with
  | some (.cells cs el own ext)=>(match v.own with
    | none=>some cs
    | some q=>cond (and own (and (Nat.beq q.1 el) (beqB q.2 ext))) (some cs) none)
  | _=>none
noncomputable def eqKs:List Bool→List Bool→Bool
  | [],[]=>true
  | a :: l,b :: m=>and (beqB a b) (eqKs l m)
  | _,_=>false
theorem eqKs_eq:∀ {l m:List Bool},eqKs l m=true→l=m
  | [],[],_=>rfl
  | [],_ :: _,h=>by cases h
  | _ :: _,[],h=>by cases h
  | a :: l,b :: m,h=>by
    simp only [eqKs,Bool.and_eq_true] at h
    rw [beqB_eq h.1,eqKs_eq h.2]
/-- a list that is not known: its length has the same name -/
noncomputable def bdU (v:VS) (q:Nat × List Bool) (o:Option AObj) (B:Bd):Option Bd :=
  match o with
  | some (.ucells j ks)=>cond (and v.own.isNone (and (Nat.beq q.1 j) (eqKs q.2 ks))) (bdI (.var j) (.var j) B) none
  | _=>none
noncomputable def bdC (n:Nat) (v:VS) (o:Option AObj) (B:Bd):Option Bd :=
  match v.u with
  | none=>(match bdG v o with
    | some cs=>bdL n v.c0 cs B
    | none=>none)
  | some q=>bdU v q o B
noncomputable def bdVw (n:Nat) (h:Heap):List VS→Bd→Option Bd
  | [],B=>some B
  | g :: l,B=>(match cond (Nat.ble (Nat.succ g.id) 1000) (some g.id) (cond (Nat.ble (Nat.succ g.id) n) (lFind B.r g.id) none) with
    | some b=>(match bdC n g (h.get b) B with
      | some B'=>bdVw n h l B'
      | none=>none)
    | none=>none)

/-- what a state's variables are read as -/
noncomputable def rhoD (E:Env) (B:Bd):Rho :=
  ⟨fun j=>match lFind B.is j with | some e=>e.den E.ρ | none=>0,fun j=>match lFind B.bs j with | some e=>e.den E.ρ | none=>false,E.ρ.fi,E.ρ.fb,fun j=>match lFind B.os j with | some v=>(match conc E v with | some u=>u | none=>.tuple #[]) | none=>.tuple #[]⟩
noncomputable def sigD (n:Nat) (E:Env) (B:Bd):Nat→Option (Nat × Nat):=fun b=>if b < 1000 then some (b,0) else if b < n then (match lFind B.r b with | some c=>E.σ c | none=>none) else none
noncomputable def kapD (n:Nat) (E:Env) (B:Bd):Nat→Nat:=fun b=>if b < 1000 then E.κ b else if b < n then (match lFind B.r b with | some c=>E.κ c | none=>0) else 0
noncomputable def envD (n:Nat) (E:Env) (B:Bd):Env:=⟨rhoD E B,sigD n E B,kapD n E B,n,fun _=>#[]⟩

theorem envD_rel {n:Nat} {E:Env} {B:Bd} (hg:∀ b,b < 1000→E.σ b=some (b,0)) (hG:GoodD E B):RelD n E (envD n E B) B:=by
  refine ⟨fun j e h=>?_,fun j v h=>?_,fun b hb=>?_,fun b c h1 h2 e=>?_,fun j e h=>by simp only [envD,rhoD,h]⟩
  · simp only [envD,rhoD,h]
  · obtain ⟨u,hu⟩:=hG j v h
    simp only [envD,rhoD,h,hu]
  · simp only [envD,sigD,kapD,if_pos hb,hg b hb,and_self]
  · simp only [envD,sigD,kapD,if_neg (show ¬ b < 1000 by omega),if_pos h2,e,and_self]

theorem bdSl_ok {n : Nat} {t : PT AV} : ∀ (l : List (Nat × AV)) (B B' : Bd), bdSl n t l B = some B' → SubD n B B' ∧
    (∀ E,(∀ g ∈ l,∀ v,t.get g.1=some v→∃ u,conc E v=some u)→GoodD E B→GoodD E B') ∧
    ∀ g ∈ l,∃ v,t.get g.1=some v∧∀ E ES u,RelD n E ES B'→conc E v=some u→conc ES g.2=some u
  | [],B,B',h=>by simp only [bdSl,Option.some.injEq] at h; subst h; exact ⟨SubD.refl _ _,fun _ _ g=>g,fun g hg=>by cases hg⟩
  | g :: l,B,B',h=>by
    simp only [bdSl] at h
    split at h
    · rename_i v hv
      split at h
      · rename_i B1 h1
        obtain ⟨q1,q2,q3⟩:=bdV_ok _ _ _ _ h1
        obtain ⟨q4,q5,q6⟩:=bdSl_ok l B1 B' h
        refine ⟨q1.trans q4,fun E hc G=>?_,fun g' hg'=>?_⟩
        · obtain ⟨u,hu⟩:=hc g List.mem_cons_self v hv
          exact q5 E (fun g' hg'=>hc g' (List.mem_cons_of_mem _ hg')) (q2 E u hu G)
        · rcases List.mem_cons.1 hg' with rfl | hg'
          · exact ⟨v,hv,fun E ES u R hu=>q3 E ES u (R.sub q4) hu⟩
          · exact q6 g' hg'
      · cases h
    · cases h

/-- a block of the loop: which block it is here -/
structure VAt (p:Par) (E ES:Env) (h:Heap) (w:World) (r:Ren) (n:Nat) (g:VS):Prop where
  at_:∃ b o,(cond (Nat.ble (Nat.succ g.id) 1000) (some g.id) (cond (Nat.ble (Nat.succ g.id) n) (lFind r g.id) none))=some b∧h.get b=some o∧ES.σ g.id=E.σ b∧(g.own.isSome=true→ownO o=true)∧(ownO o=true ∨ roO o=true)∧∃ c x,E.σ b=some (c,x)
  obj:objOk p ES g.id (VB.obj ⟨g.id,g.c0,g.own,g.u⟩) w.heap

theorem bdVw_ok {n : Nat} {h : Heap} : ∀ (l : List VS) (B B' : Bd), bdVw n h l B = some B' → SubD n B B' ∧
    (∀ {p:Par} {E:Env} {w0:Base} {w:World},HeapOk p E h w0 w→GoodD E B→GoodD E B') ∧
    ∀ {p:Par} {E ES:Env} {w0:Base} {w:World},RelD n E ES B'→ES.ρ.fi=E.ρ.fi→ES.ρ.fb=E.ρ.fb→HeapOk p E h w0 w→∀ g ∈ l,VAt p E ES h w B'.r n g
  | [],B,B',e=>by simp only [bdVw,Option.some.injEq] at e; subst e; exact ⟨SubD.refl _ _,fun _ g=>g,fun _ _ _ _ g hg=>by cases hg⟩
  | g :: l,B,B',e=>by
    simp only [bdVw] at e
    split at e
    · rename_i b hb
      split at e
      · rename_i B1 h0
        obtain ⟨q4,q5,q6⟩:=bdVw_ok l B1 B' e
        unfold bdC at h0
        split at h0
        · rename_i hgu
          split at h0
          · rename_i cs hcs
            rename_i h1
            obtain ⟨q1,q2,q3⟩:=bdL_ok _ _ _ _ h0
            unfold bdG at hcs
            split at hcs
            · rename_i cs' el own ext hg
              have hcs':cs'=cs:=by
                split at hcs
                · cases hcs; rfl
                · have:=(cond_some hcs).2; cases this; rfl
              subst hcs'
              refine ⟨q1.trans q4,fun {p E w0 w} HH G=>?_,fun {p E ES w0 w} R hfi hfb HH g' hg'=>?_⟩
              · obtain ⟨c,base,vs,cells,el',fz,k1,k2,k3,k4,k5⟩:=HH.obj _ _ hg
                exact q5 HH (q2 E vs k2 G)
              · rcases List.mem_cons.1 hg' with rfl | hg'
                · obtain ⟨c,base,vs,cells,el',fz,k1,k2,k3,k4,k5⟩:=HH.obj _ _ hg
                  obtain ⟨z0,z1⟩:=resolve_sub (q1.trans q4).r hb
                  have hσ:=z1 ⟨E.ρ,E.σ,E.κ,E.n,E.rc⟩ ⟨E.ρ,ES.σ,ES.κ,ES.n,ES.rc⟩ ⟨rfl,R.lo,R.at_⟩
                  have hσ1:ES.σ g'.id=E.σ b:=hσ.1
                  have hσ2:ES.κ g'.id=E.κ b:=hσ.2
                  have hvs:=q3 E ES vs (R.sub q4) k2
                  cases hown:g'.own with
                  | none =>
                    refine ⟨⟨b,_,z0,hg,hσ1,fun h=>(by rw [hown] at h; cases h),(by cases own; exact .inr rfl; exact .inl rfl),c,base,k1⟩,?_⟩
                    have e:VB.obj ⟨g'.id,g'.c0,g'.own,g'.u⟩=.cells g'.c0 0 false false:=by unfold VB.obj; simp only [hown,hgu]
                    rw [e]
                    exact ⟨c,base,vs,cells,el',fz,hσ1.trans k1,hvs,k3,k4,fun h=>by cases h⟩
                  | some q =>
                    rw [hown] at hcs
                    have h2:=(cond_some hcs).1
                    simp only [Bool.and_eq_true] at h2
                    obtain ⟨h4,h5,h6⟩:=h2
                    have h5:=beq_t.1 h5; have h6:=beqB_eq h6
                    subst h4
                    refine ⟨⟨b,_,z0,hg,hσ1,fun _=>rfl,.inl rfl,c,base,k1⟩,?_⟩
                    have e:VB.obj ⟨g'.id,g'.c0,g'.own,g'.u⟩=.cells g'.c0 q.1 true q.2:=by unfold VB.obj; simp only [hown]
                    rw [e,h5,h6]
                    exact ⟨c,base,vs,cells,el',fz,hσ1.trans k1,hvs,k3,k4,by rw [hσ2]; exact k5⟩
                · exact q6 R hfi hfb HH g' hg'
            · cases hcs
          · cases h0
        · rename_i q hgu
          unfold bdU at h0
          split at h0
          · rename_i j ks hg
            obtain ⟨hc,h0⟩:=cond_some h0
            simp only [Bool.and_eq_true] at hc
            obtain ⟨hown,hj,hks⟩:=hc
            have hj:=beq_t.1 hj; have hks:=eqKs_eq hks
            have hown:g.own=none:=by cases h:g.own with | none=>rfl | some q=>rw [h] at hown; cases hown
            obtain ⟨q1,q2,q3⟩:=bdI_ok (n:=n) (k:=.i64) h0
            have hint:∀ E:Env,conc E (.int .i64 (.var j))=some (.int .i64 (E.ρ.iv j)):=fun E=>rfl
            refine ⟨q1.trans q4,fun {p E w0 w} HH G=>q5 HH (q2 E _ (hint E) G),fun {p E ES w0 w} R hfi hfb HH g' hg'=>?_⟩
            rcases List.mem_cons.1 hg' with rfl | hg'
            · obtain ⟨c,base,cells,el',fz,k1,k3,k4⟩:=HH.obj _ _ hg
              obtain ⟨z0,z1⟩:=resolve_sub (q1.trans q4).r hb
              have hσ:=z1 ⟨E.ρ,E.σ,E.κ,E.n,E.rc⟩ ⟨E.ρ,ES.σ,ES.κ,ES.n,ES.rc⟩ ⟨rfl,R.lo,R.at_⟩
              have hσ1:ES.σ g'.id=E.σ b:=hσ.1
              have hiv:=q3 E ES _ (R.sub q4) (hint E)
              simp only [conc,IE.den,Option.some.injEq,Value.int.injEq,true_and] at hiv
              refine ⟨⟨b,_,z0,hg,hσ1,fun h=>(by rw [hown] at h; cases h),.inr rfl,c,base,k1⟩,?_⟩
              have e:VB.obj ⟨g'.id,g'.c0,g'.own,g'.u⟩=.ucells q.1 q.2:=by unfold VB.obj; simp only [hown,hgu]
              rw [e,hj,hks]
              refine ⟨c,base,cells,el',fz,hσ1.trans k1,k3,fun m off k hm hk=>?_⟩
              rw [hiv] at hm
              rw [k4 m off k hm hk]
              unfold cellOf
              rw [hfi,hfb]
            · exact q6 R hfi hfb HH g' hg'
          · cases h0
      · cases e
    · cases e

/-! ## The variables put back -/
noncomputable def sI (B:Bd):IE→Option IE
  | .lit z=>some (.lit z)
  | .var j=>lFind B.is j
  | .bin o k a b=>(match sI B a,sI B b with
    | some x,some y=>some (.bin o k x y)
    | _,_=>none)
  | .conv k a=>(match sI B a with
    | some x=>some (.conv k x)
    | none=>none)
  | .mx a b=>(match sI B a,sI B b with
    | some x,some y=>some (.mx x y)
    | _,_=>none)
  | .mn a b=>(match sI B a,sI B b with
    | some x,some y=>some (.mn x y)
    | _,_=>none)
  | .app f a b c=>(match sI B a,sI B b,sI B c with
    | some x,some y,some z=>some (.app f x y z)
    | _,_,_=>none)

theorem sI_ok {n:Nat} {E ES:Env} {B:Bd} (R:RelD n E ES B) (hfi:ES.ρ.fi=E.ρ.fi):∀ (e e':IE),sI B e=some e'→e'.den E.ρ=e.den ES.ρ
  | .lit z,e',h=>by simp only [sI,Option.some.injEq] at h; subst h; rfl
  | .var j,e',h=>by simp only [sI] at h; simp only [IE.den,R.is _ _ h]
  | .bin o k a b,e',h=>by
    simp only [sI] at h
    split at h
    · rename_i x y hx hy; cases h; simp only [IE.den,sI_ok R hfi a x hx,sI_ok R hfi b y hy]
    · cases h
  | .conv k a,e',h=>by
    simp only [sI] at h
    split at h
    · rename_i x hx; cases h; simp only [IE.den,sI_ok R hfi a x hx]
    · cases h
  | .mx a b,e',h=>by
    simp only [sI] at h
    split at h
    · rename_i x y hx hy; cases h; simp only [IE.den,sI_ok R hfi a x hx,sI_ok R hfi b y hy]
    · cases h
  | .mn a b,e',h=>by
    simp only [sI] at h
    split at h
    · rename_i x y hx hy; cases h; simp only [IE.den,sI_ok R hfi a x hx,sI_ok R hfi b y hy]
    · cases h
  | .app f a b c,e',h=>by
    simp only [sI] at h
    split at h
    · rename_i x y z hx hy hz; cases h; simp only [IE.den,hfi,sI_ok R hfi a x hx,sI_ok R hfi b y hy,sI_ok R hfi c z hz]
    · cases h

noncomputable def sB (B:Bd):BE→Option BE
  | .lit b=>some (.lit b)
  | .not a=>(match sB B a with
    | some x=>some (.not x)
    | none=>none)
  | .and a b=>(match sB B a,sB B b with
    | some x,some y=>some (.and x y)
    | _,_=>none)
  | .cmp o a b=>(match sI B a,sI B b with
    | some x,some y=>some (.cmp o x y)
    | _,_=>none)
  | .iff a b=>(match sB B a,sB B b with
    | some x,some y=>some (.iff x y)
    | _,_=>none)
  | .app f a b c=>(match sI B a,sI B b,sI B c with
    | some x,some y,some z=>some (.app f x y z)
    | _,_,_=>none)
  | .var j=>lFind B.bs j

theorem sB_ok {n:Nat} {E ES:Env} {B:Bd} (R:RelD n E ES B) (hfi:ES.ρ.fi=E.ρ.fi) (hfb:ES.ρ.fb=E.ρ.fb):∀ (e e':BE),sB B e=some e'→e'.den E.ρ=e.den ES.ρ
  | .lit z,e',h=>by simp only [sB,Option.some.injEq] at h; subst h; rfl
  | .var j,e',h=>by simp only [sB] at h; simp only [BE.den,R.bs _ _ h]
  | .not a,e',h=>by
    simp only [sB] at h
    split at h
    · rename_i x hx; cases h; simp only [BE.den,sB_ok R hfi hfb a x hx]
    · cases h
  | .and a b,e',h=>by
    simp only [sB] at h
    split at h
    · rename_i x y hx hy; cases h; simp only [BE.den,sB_ok R hfi hfb a x hx,sB_ok R hfi hfb b y hy]
    · cases h
  | .cmp o a b,e',h=>by
    simp only [sB] at h
    split at h
    · rename_i x y hx hy; cases h; simp only [BE.den,sI_ok R hfi a x hx,sI_ok R hfi b y hy]
    · cases h
  | .iff a b,e',h=>by
    simp only [sB] at h
    split at h
    · rename_i x y hx hy; cases h; simp only [BE.den,sB_ok R hfi hfb a x hx,sB_ok R hfi hfb b y hy]
    · cases h
  | .app f a b c,e',h=>by
    simp only [sB] at h
    split at h
    · rename_i x y z hx hy hz; cases h; simp only [BE.den,hfb,sI_ok R hfi a x hx,sI_ok R hfi b y hy,sI_ok R hfi c z hz]
    · cases h

mutual
noncomputable def sV (n:Nat) (B:Bd):AV→Option AV
  | .int k e=>(match sI B e with
    | some x=>some (.int k x)
    | none=>none)
  | .bool e=>(match sB B e with
    | some x=>some (.bool x)
    | none=>none)
  | .opq j=>lFind B.os j
  | .ptr b o=>(match cond (Nat.ble (Nat.succ b) 1000) (some b) (cond (Nat.ble (Nat.succ b) n) (lFind B.r b) none) with
    | some c=>some (.ptr c o)
    | none=>none)
  | .slice b o l k=>(match cond (Nat.ble (Nat.succ b) 1000) (some b) (cond (Nat.ble (Nat.succ b) n) (lFind B.r b) none) with
    | some c=>some (.slice c o l k)
    | none=>none)
  | .sliceX b o l k=>(match cond (Nat.ble (Nat.succ b) 1000) (some b) (cond (Nat.ble (Nat.succ b) n) (lFind B.r b) none) with
    | some c=>some (.sliceX c o l k)
    | none=>none)
  | .agg l=>(match sVs n B l with
    | some m=>some (.agg m)
    | none=>none)
  | .tup l=>(match sVs n B l with
    | some m=>some (.tup m)
    | none=>none)
  | .nilptr=>some .nilptr
  | .nilslice=>some .nilslice
  | .nilmap=>some .nilmap
  | .nilFunc=>some .nilFunc
  | _=>none
noncomputable def sVs (n:Nat) (B:Bd):List AV→Option (List AV)
  | []=>some []
  | a :: l=>(match sV n B a with
    | some x=>(match sVs n B l with
      | some m=>some (x :: m)
      | none=>none)
    | none=>none)
end

mutual
theorem sV_ok {n:Nat} {E ES:Env} {B:Bd} (R:RelD n E ES B) (hfi:ES.ρ.fi=E.ρ.fi) (hfb:ES.ρ.fb=E.ρ.fb):∀ (a a':AV),sV n B a=some a'→conc E a'=conc ES a
  | .int k e,a',h=>by
    simp only [sV] at h
    split at h
    · rename_i x hx; cases h; simp only [conc,sI_ok R hfi e x hx]
    · cases h
  | .bool e,a',h=>by
    simp only [sV] at h
    split at h
    · rename_i x hx; cases h; simp only [conc,sB_ok R hfi hfb e x hx]
    · cases h
  | .opq j,a',h=>by simp only [sV] at h; simp only [conc,R.os _ _ h]
  | .ptr b o,a',h=>by
    simp only [sV] at h
    split at h
    · rename_i c hc
      cases h
      have hσ:=((resolve_sub (SubR.refl n B.r) hc).2 ⟨E.ρ,E.σ,E.κ,E.n,E.rc⟩ ⟨E.ρ,ES.σ,ES.κ,ES.n,ES.rc⟩ ⟨rfl,R.lo,R.at_⟩)
      simp only [conc]; rw [hσ.1]
    · cases h
  | .slice b o l k,a',h=>by
    simp only [sV] at h
    split at h
    · rename_i c hc
      cases h
      have hσ:=((resolve_sub (SubR.refl n B.r) hc).2 ⟨E.ρ,E.σ,E.κ,E.n,E.rc⟩ ⟨E.ρ,ES.σ,ES.κ,ES.n,ES.rc⟩ ⟨rfl,R.lo,R.at_⟩)
      simp only [conc]; rw [hσ.1]
    · cases h
  | .sliceX b o l k,a',h=>by
    simp only [sV] at h
    split at h
    · rename_i c hc
      cases h
      have hσ:=((resolve_sub (SubR.refl n B.r) hc).2 ⟨E.ρ,E.σ,E.κ,E.n,E.rc⟩ ⟨E.ρ,ES.σ,ES.κ,ES.n,ES.rc⟩ ⟨rfl,R.lo,R.at_⟩)
      simp only at hσ
      simp only [conc,hσ.1,hσ.2]
    · cases h
  | .agg l,a',h=>by
    simp only [sV] at h
    split at h
    · rename_i m hm; cases h; simp only [conc,sVs_ok R hfi hfb l m hm]
    · cases h
  | .tup l,a',h=>by
    simp only [sV] at h
    split at h
    · rename_i m hm; cases h; simp only [conc,sVs_ok R hfi hfb l m hm]
    · cases h
  | .nilptr,a',h=>by simp only [sV,Option.some.injEq] at h; subst h; rfl
  | .nilslice,a',h=>by simp only [sV,Option.some.injEq] at h; subst h; rfl
  | .nilmap,a',h=>by simp only [sV,Option.some.injEq] at h; subst h; rfl
  | .nilFunc,a',h=>by simp only [sV,Option.some.injEq] at h; subst h; rfl
  | .map _,a',h=>by simp only [sV] at h; cases h
  | .func _ _ _,a',h=>by simp only [sV] at h; cases h
  | .yieldF _,a',h=>by simp only [sV] at h; cases h
  | .bad,a',h=>by simp only [sV] at h; cases h
theorem sVs_ok {n:Nat} {E ES:Env} {B:Bd} (R:RelD n E ES B) (hfi:ES.ρ.fi=E.ρ.fi) (hfb:ES.ρ.fb=E.ρ.fb):∀ (l l':List AV),sVs n B l=some l'→concL E l'=concL ES l
  | [],l',h=>by simp only [sVs,Option.some.injEq] at h; subst h; rfl
  | a :: l,l',h=>by
    simp only [sVs] at h
    split at h
    · rename_i x hx
      split at h
      · rename_i m hm; cases h; simp only [concL,sV_ok R hfi hfb a x hx,sVs_ok R hfi hfb l m hm]
      · cases h
    · cases h
end

/-- A LOOP,AS IT IS SAID: how it begins,how each round begins,on what terms,and what it leaves. -/
structure LSpec where
  sl0:List (Nat × AV)
  sl:List (Nat × AV)
  vs:List VS
  nv:Nat
  dom:List BE
  out:T (Ex × List (Nat × AV))

/-- where a tree ends -/
noncomputable def T.end_ {α:Type} (ρ:Rho):T α→Option α
  | .ret a=>some a
  | .fail _=>none
  | .br c x y=>if c.den ρ=true then x.end_ ρ else y.end_ ρ
theorem T.end_holds {α:Type} {ρ:Rho} {P:α→Prop}:∀ {t:T α},t.Holds ρ P→∃ a,t.end_ ρ=some a∧P a
  | .ret a,h=>⟨a,rfl,h⟩
  | .fail _,h=>h.elim
  | .br c x y,h=>by
    simp only [T.Holds] at h
    simp only [T.end_]
    split at h
    · rename_i hc; rw [if_pos hc]; exact T.end_holds h
    · rename_i hc; rw [if_neg hc]; exact T.end_holds h

def LSpec.T (L:LSpec):Tmpl:=⟨L.sl,L.vs.map fun g=>⟨g.id,g.c,g.own,g.u⟩,L.nv⟩

noncomputable def sBs (B:Bd):List BE→Option (List BE)
  | []=>some []
  | a :: l=>(match sB B a with
    | some x=>(match sBs B l with
      | some m=>some (x :: m)
      | none=>none)
    | none=>none)
noncomputable def sSl (n:Nat) (B:Bd):List (Nat × AV)→Option (List (Nat × AV))
  | []=>some []
  | g :: l=>(match sV n B g.2 with
    | some x=>(match sSl n B l with
      | some m=>some ((g.1,x) :: m)
      | none=>none)
    | none=>none)
/-- the blocks that are written,here -/
noncomputable def sOut (n:Nat) (B:Bd):List VS→Option (List (Nat × AObj))
  | []=>some []
  | g :: l=>(match g.own with
    | none=>sOut n B l
    | some q=>(match lFind B.r g.id,sVs n B g.cf,sOut n B l with
      | some b,some cs,some m=>some ((b,.cells cs q.1 true q.2) :: m)
      | _,_,_=>none))
noncomputable def vsUp:Nat→List VS→Bool
  | _,[]=>true
  | n,g :: l=>cond (Nat.ble n g.id) (vsUp (Nat.succ g.id) l) false
noncomputable def brAll {α:Type} (t:T α):List BE→T α
  | []=>t
  | c :: l=>.br c (brAll t l) (.fail 99)
theorem brAll_holds {α:Type} {ρ:Rho} {Q:α→Prop} {t:T α}:∀ {l:List BE},(brAll t l).Holds ρ Q→(∀ c ∈ l,c.den ρ=true)∧t.Holds ρ Q
  | [],h=>⟨fun c hc=>(by cases hc),h⟩
  | c :: l,h=>by
    simp only [brAll,T.Holds] at h
    split at h
    · rename_i hc
      obtain ⟨a1,a2⟩:=brAll_holds h
      exact ⟨fun d hd=>by
        rcases List.mem_cons.1 hd with rfl | hd
        · exact hc
        · exact a1 d hd,a2⟩
    · exact h.elim

/-- the outcomes,here -/
noncomputable def sO (n:Nat) (B:Bd) (t:T (Ex × List (Nat × AV))):Option (T (Ex × List (Nat × AV))) :=
  @T.rec (Ex × List (Nat × AV)) (fun _=>Option (T (Ex × List (Nat × AV)))) (fun a=>match sSl n B a.2 with
    | some l=>some (.ret (a.1,l))
    | none=>none)
    (fun c _ _ x y=>match sB B c,x,y with
      | some d,some x,some y=>some (.br d x y)
      | _,_,_=>none) (fun w=>some (.fail w)) t

theorem sO_end {n:Nat} {E ES:Env} {B:Bd} (R:RelD n E ES B) (hfi:ES.ρ.fi=E.ρ.fi) (hfb:ES.ρ.fb=E.ρ.fb) {P:Ex × List (Nat × AV)→Prop}:∀ (t t':T (Ex × List (Nat × AV))),sO n B t=some t'→t'.Holds E.ρ P→∀ o,t.end_ ES.ρ=some o→∃ l,sSl n B o.2=some l∧P (o.1,l)
  | .ret a,t',h,k,o,ho=>by
    have h:(match sSl n B a.2 with
      | some l=>some (T.ret (a.1,l))
      | none=>none)=some t':=h
    simp only [T.end_,Option.some.injEq] at ho
    subst ho
    split at h
    · rename_i l hl; cases h; exact ⟨l,hl,k⟩
    · cases h
  | .fail w,t',h,k,o,ho=>by cases ho
  | .br c x y,t',h,k,o,ho=>by
    have h:(match sB B c,sO n B x,sO n B y with
      | some d,some x,some y=>some (T.br d x y)
      | _,_,_=>none)=some t':=h
    split at h
    · rename_i d x' y' hd hx hy
      cases h
      simp only [T.Holds] at k
      simp only [T.end_] at ho
      rw [sB_ok R hfi hfb c d hd] at k
      split at k
      · rename_i hc; rw [if_pos hc] at ho; exact sO_end R hfi hfb x x' hx k o ho
      · rename_i hc; rw [if_neg hc] at ho; exact sO_end R hfi hfb y y' hy k o ho
    · cases h

noncomputable def LSpec.run (L:LSpec):C:=fun _ wh s =>
  match wh.rd with
  | some _=>.fail 96
  | none=>(match s.df with
    | _ :: _=>.fail 96
    | []=>(match bdSl L.nv s.tm.tree L.sl0 ⟨[],[],[],[]⟩ with
      | none=>.fail 97
      | some B0=>(match bdVw L.nv s.h L.vs B0 with
        | none=>.fail 98
        | some B=>cond (injR B.r) (match sBs B L.dom with
          | none=>.fail 94
          | some cs=>(match sO L.nv B L.out with
            | none=>.fail 95
            | some out=>(match sOut L.nv B L.vs with
              | none=>.fail 93
              | some outs=>brAll (out.bind fun o=>.ret (o.1,⟨⟨[],treeOf o.2⟩,[],putL outs s.h⟩)) cs))) (.fail 92))))

/-- what a loop's rounds must be,for it to be as it is said -/
def LSpec.Ok (L:LSpec) (cx:Cx) (wh:Wh) (body:C):Prop:=∀ (ρ:Rho),(∀ c ∈ L.dom,c.den ρ=true)→∃ (M:Nat) (At:Nat→Rho→Prop) (ρ0:Rho),At 0 ρ0 ∧
  (∀ g ∈ L.sl,∃ v,(g.1,v) ∈ L.sl0∧SameV ρ v ρ0 g.2) ∧
  (∀ g ∈ L.vs,SameL ρ g.c0 ρ0 g.c∧SameU ρ ρ0 g.u) ∧
  ∀ i ρ',i≤M→At i ρ'→(body cx wh L.T.st).Holds ρ' fun r=>(r.1=.norm∧∃ ρ'',(i < M∧At (i + 1) ρ'')∧Next L.T ρ' ρ'' r.2) ∨
    (r.1 ≠ .norm∧r.2.df=[]∧(∃ o,L.out.end_ ρ=some o∧r.1=o.1∧∀ g ∈ o.2,idsLt L.nv g.2=true∧∃ v,r.2.tm.tree.get g.1=some v∧SameV ρ' v ρ g.2) ∧
      ∀ g ∈ L.vs,∀ q,g.own=some q→∃ cs,r.2.h.get g.id=some (.cells cs q.1 true q.2)∧SameL ρ' cs ρ g.cf)

/-- the same,where something is known of the numbers: 'ok' in each round,'st' as the loop starts -/
def LSpec.OkP (L:LSpec) (ok st:Rho→(Nat→Obj→Prop)→Prop) (cx:Cx) (wh:Wh) (body:C):Prop:=∀ (ρ:Rho) (m:Nat→Obj→Prop),st ρ m→(∀ c ∈ L.dom,c.den ρ=true)→∃ (M:Nat) (At:Nat→Rho→Prop) (ρ0:Rho),(∀ i ρ',At i ρ'→ok ρ' m)∧At 0 ρ0 ∧
  (∀ g ∈ L.sl,∃ v,(g.1,v) ∈ L.sl0∧SameV ρ v ρ0 g.2) ∧
  (∀ g ∈ L.vs,SameL ρ g.c0 ρ0 g.c∧SameU ρ ρ0 g.u) ∧
  ∀ i ρ',i≤M→At i ρ'→(body cx wh L.T.st).Holds ρ' fun r=>(r.1=.norm∧∃ ρ'',(i < M∧At (i + 1) ρ'')∧Next L.T ρ' ρ'' r.2) ∨
    (r.1 ≠ .norm∧r.2.df=[]∧(∃ o,L.out.end_ ρ=some o∧r.1=o.1∧∀ g ∈ o.2,idsLt L.nv g.2=true∧∃ v,r.2.tm.tree.get g.1=some v∧SameV ρ' v ρ g.2) ∧
      ∀ g ∈ L.vs,∀ q,g.own=some q→∃ cs,r.2.h.get g.id=some (.cells cs q.1 true q.2)∧SameL ρ' cs ρ g.cf)
theorem LSpec.Ok.toP {L:LSpec} {cx:Cx} {wh:Wh} {body:C} (h:L.Ok cx wh body) {ok:Rho→(Nat→Obj→Prop)→Prop} (hAll:∀ ρ m,ok ρ m):L.OkP ok (fun _ _=>True) cx wh body:=by
  intro ρ m _ hdom
  obtain ⟨M,At,ρ0,h1,h2⟩:=h ρ hdom
  exact ⟨M,At,ρ0,fun _ ρ' _=>hAll ρ' m,h1,h2⟩
/-- lists whose names a loop keeps -/
noncomputable def keepsB (B:Bd):List Nat→Bool
  | []=>true
  | j :: l=>and (match lFind B.os j with
    | some (.sliceU k)=>Nat.beq j k
    | _=>false) (and (match lFind B.is j with
    | some (.var k)=>Nat.beq j k
    | _=>false) (keepsB B l))
noncomputable def keepsL (L:LSpec) (fix:List Nat) (s:St):Bool :=
  match bdSl L.nv s.tm.tree L.sl0 ⟨[],[],[],[]⟩ with
  | none=>true
  | some B0=>(match bdVw L.nv s.h L.vs B0 with
    | none=>true
    | some B=>keepsB B fix)
noncomputable def LSpec.runF (L:LSpec) (fix:List Nat):C:=fun cx wh s=>cond (keepsL L fix s) (L.run cx wh s) (.fail 91)
theorem LSpec.runF_nil (L:LSpec):L.runF []=L.run:=by
  funext cx wh s
  have:keepsL L [] s=true:=by
    unfold keepsL
    split
    · rfl
    · split <;> rfl
  unfold LSpec.runF
  rw [this,cond_true]
theorem keepsB_ok {B:Bd} {E:Env} (G:GoodD E B):∀ fix,keepsB B fix=true→∀ j ∈ fix,(rhoD E B).ov j=E.ρ.ov j∧(rhoD E B).iv j=E.ρ.iv j
  | [],_,j,hj=>(List.not_mem_nil hj).elim
  | i :: l,h,j,hj=>by
    simp only [keepsB,Bool.and_eq_true] at h
    obtain ⟨h1,h2,h3⟩:=h
    rcases List.mem_cons.1 hj with rfl | hj
    · constructor
      · split at h1
        · rename_i k hk
          have:=beq_t.1 h1; subst this
          obtain ⟨u,hu⟩:=G _ _ hk
          simp only [rhoD,hk,hu]
          obtain ⟨p,n,c,e1,e2⟩:=sliceU_conc hu
          subst e1
          simp only [conc] at hu
          split at hu
          · rename_i p' n' c' he
            split at hu
            · cases hu; exact he.symm
            · cases hu
          · cases hu
        · cases h1
      · split at h2
        · rename_i k hk
          have:=beq_t.1 h2; subst this
          simp only [rhoD,hk,IE.den]
        · cases h2
    · exact keepsB_ok G l h3 j hj

theorem sSl_ok {n:Nat} {B:Bd}:∀ (l l':List (Nat × AV)),sSl n B l=some l'→∀ q ∈ l',∃ g ∈ l,g.1=q.1∧sV n B g.2=some q.2
  | [],l',h,q,hq=>by simp only [sSl,Option.some.injEq] at h; subst h; cases hq
  | g :: l,l',h,q,hq=>by
    simp only [sSl] at h
    split at h
    · rename_i x hx
      split at h
      · rename_i m hm
        cases h
        rcases List.mem_cons.1 hq with rfl | hq
        · exact ⟨g,List.mem_cons_self,rfl,hx⟩
        · obtain ⟨g',h1,h2,h3⟩:=sSl_ok l m hm q hq
          exact ⟨g',List.mem_cons_of_mem _ h1,h2,h3⟩
      · cases h
    · cases h
theorem sOut_ok {n : Nat} {B : Bd} : ∀ (l : List VS) (l' : List (Nat × AObj)), sOut n B l = some l' →
    (∀ q ∈ l',∃ g ∈ l,∃ t cs,g.own=some t∧lFind B.r g.id=some q.1∧sVs n B g.cf=some cs∧q.2=.cells cs t.1 true t.2)∧∀ g ∈ l,g.own.isSome=true→∃ q ∈ l',lFind B.r g.id=some q.1
  | [],l',h=>by simp only [sOut,Option.some.injEq] at h; subst h; exact ⟨fun q hq=>(by cases hq),fun g hg=>(by cases hg)⟩
  | g :: l,l',h=>by
    simp only [sOut] at h
    split at h
    · rename_i hown
      obtain ⟨a1,a2⟩:=sOut_ok l l' h
      refine ⟨fun q hq=>?_,fun g' hg' hw=>?_⟩
      · obtain ⟨g',b1,b2⟩:=a1 q hq
        exact ⟨g',List.mem_cons_of_mem _ b1,b2⟩
      · rcases List.mem_cons.1 hg' with rfl | hg'
        · rw [hown] at hw; cases hw
        · exact a2 g' hg' hw
    · rename_i t hown
      split at h
      · rename_i b cs m hb hcs hm
        cases h
        obtain ⟨a1,a2⟩:=sOut_ok l m hm
        refine ⟨fun q hq=>?_,fun g' hg' hw=>?_⟩
        · rcases List.mem_cons.1 hq with rfl | hq
          · exact ⟨g,List.mem_cons_self,t,cs,hown,hb,hcs,rfl⟩
          · obtain ⟨g',b1,b2⟩:=a1 q hq
            exact ⟨g',List.mem_cons_of_mem _ b1,b2⟩
        · rcases List.mem_cons.1 hg' with rfl | hg'
          · exact ⟨_,List.mem_cons_self,hb⟩
          · obtain ⟨q,b1,b2⟩:=a2 g' hg' hw
            exact ⟨q,List.mem_cons_of_mem _ b1,b2⟩
      · cases h
theorem sBs_ok {B:Bd}:∀ (l l':List BE),sBs B l=some l'→∀ c ∈ l,∃ c' ∈ l',sB B c=some c'
  | [],l',h,c,hc=>by cases hc
  | a :: l,l',h,c,hc=>by
    simp only [sBs] at h
    split at h
    · rename_i x hx
      split at h
      · rename_i m hm
        cases h
        rcases List.mem_cons.1 hc with rfl | hc
        · exact ⟨x,List.mem_cons_self,hx⟩
        · obtain ⟨c',h1,h2⟩:=sBs_ok l m hm c hc
          exact ⟨c',List.mem_cons_of_mem _ h1,h2⟩
      · cases h
    · cases h
theorem vsUp_ge:∀ (l:List VS) (n:Nat),vsUp n l=true→∀ q ∈ l,n≤q.id
  | [],n,_,q,hq=>by cases hq
  | q :: l,n,h,q',hq=>by
    simp only [vsUp] at h
    cases h1:Nat.ble n q.id with
    | false=>rw [h1] at h; cases h
    | true =>
      rw [h1] at h
      rcases List.mem_cons.1 hq with rfl | hq
      · exact ble_t.1 h1
      · have:=vsUp_ge l _ h q' hq; have:=ble_t.1 h1; omega
theorem vsUp_inj:∀ (l:List VS) (n:Nat),vsUp n l=true→∀ q ∈ l,∀ q' ∈ l,q.id=q'.id→q=q'
  | [],n,_,q,hq,_,_,_=>by cases hq
  | p :: l,n,h,q,hq,q',hq',e=>by
    simp only [vsUp] at h
    cases h0:Nat.ble n p.id with
    | false=>rw [h0] at h; cases h
    | true =>
      rw [h0] at h
      rcases List.mem_cons.1 hq with h1 | h1
      · rcases List.mem_cons.1 hq' with h2 | h2
        · rw [h1,h2]
        · have:=vsUp_ge l _ h q' h2; rw [h1] at e; omega
      · rcases List.mem_cons.1 hq' with h2 | h2
        · have:=vsUp_ge l _ h q h1; rw [h2] at e; omega
        · exact vsUp_inj l _ h q h1 q' h2 e

/-- THE LOOP IS AS IT IS SAID; its rounds may know something else. -/
theorem LSpec.cokG {p pI : Par} (hPP : pI.P = p.P) (hRC : pI.RC = p.RC) {n : Nat} {keep : List Nat} {body : C} {code : Code} (hf : COk pI n keep body code) (L : LSpec) (hk : L.sl.all (fun g => and (memN keep (some g.1)) (idsLt L.nv g.2)) = true) 
    (hkv:L.vs.all (fun g=>and (idsLts L.nv g.c) (and (idsLts L.nv g.cf) (and (Nat.ble (g.id + 1) L.nv) (or g.own.isNone (Nat.ble 1000 g.id)))))=true) (hup:vsUp 0 L.vs=true) (hnv:1000≤L.nv)
    {cx0:Cx} (CX0:CxOk pI cx0) {wh0:Wh} (hw0:wh0.rd=none) {st:Rho→(Nat→Obj→Prop)→Prop} (hOk:L.OkP pI.ok st cx0 wh0 body) (fix:List Nat)
    (hre:∀ (ρ ρ':Rho) (m:Nat→Obj→Prop),p.ok ρ m→ρ'.fi=ρ.fi→ρ'.fb=ρ.fb→(∀ j ∈ fix,ρ'.ov j=ρ.ov j∧ρ'.iv j=ρ.iv j)→st ρ' m):COk p n keep (L.runF fix) (.loop code):=by
  obtain ⟨PP,RC,ok⟩:=p
  obtain ⟨PI,RCI,okI⟩:=pI
  have hPP:PI=PP:=hPP
  have hRC:RCI=RC:=hRC
  subst hPP hRC
  intro cx CX wh rd E w0 w s a Q Q' hrd S k P
  unfold LSpec.runF at k
  obtain ⟨hkeep,k⟩:keepsL L fix s=true∧(L.run cx wh s).Holds E.ρ Q:=by
    cases hkp:keepsL L fix s with
    | false=>rw [hkp] at k; exact k.elim
    | true=>rw [hkp] at k; exact ⟨rfl,k⟩
  unfold LSpec.run at k
  split at k
  · exact k.elim
  · rename_i hwr
    have hrd0:rd=none:=by
      rw [hwr] at hrd
      cases rd with
      | none=>rfl
      | some l=>exact hrd.elim
    split at k
    · exact k.elim
    · rename_i hdf
      split at k
      · exact k.elim
      · rename_i B0 h0
        split at k
        · exact k.elim
        · rename_i B hB
          cases hinj:injR B.r with
          | false=>rw [hinj] at k; exact k.elim
          | true =>
          rw [hinj,cond_true] at k
          split at k
          · exact k.elim
          · rename_i cs hcs
            split at k
            · exact k.elim
            · rename_i out hfin
              split at k
              · exact k.elim
              · rename_i outs hout
                obtain ⟨hdom,hret⟩:=brAll_holds k
                rw [T.holds_bind] at hret
                obtain ⟨a1,a2,a3⟩:=bdSl_ok _ _ _ h0
                obtain ⟨c1,c2,c3⟩:=bdVw_ok _ _ _ hB
                obtain ⟨hi1,hi2⟩:=injR_ok hinj
                obtain ⟨o1,o2⟩:=sOut_ok _ _ hout
                have G0:GoodD E B0:=a2 E (fun g _ v hv=>by
                  obtain ⟨_,u,hu,_⟩:=S.tm.tree.at_ _ _ hv
                  exact ⟨u,hu⟩) (fun j v h=>by cases h)
                have G:GoodD E B:=c2 S.hp G0
                have R:RelD L.nv E (envD L.nv E B) B:=envD_rel S.hp.glob G
                have hdom':∀ c ∈ L.dom,c.den (rhoD E B)=true:=fun c hc=>by
                  obtain ⟨c',h1,h2⟩:=sBs_ok _ _ hcs c hc
                  have:=sB_ok R rfl rfl c c' h2
                  rw [hdom c' h1] at this
                  exact this.symm
                have hkB:keepsB B fix=true:=by
                  unfold keepsL at hkeep
                  rw [h0] at hkeep
                  simp only [hB] at hkeep
                  exact hkeep
                obtain ⟨m0,hm0,hm1⟩:=S.hp.ok
                obtain ⟨M,At,ρ0,hAt,hA0,hstart,hvstart,hround⟩:=hOk (rhoD E B) m0 (hre E.ρ _ m0 hm0 rfl rfl (keepsB_ok G fix hkB)) hdom'
                have hk':∀ g ∈ L.sl,memN keep (some g.1)=true∧idsLt L.nv g.2=true:=fun g hg=>by
                  have:=List.all_eq_true.1 hk g hg
                  simpa only [Bool.and_eq_true] using this
                have hkv':∀ g ∈ L.vs,idsLts L.nv g.c=true∧idsLts L.nv g.cf=true∧g.id < L.nv∧(g.own.isSome=true→1000≤g.id):=fun g hg=>by
                  have:=List.all_eq_true.1 hkv g hg
                  simp only [Bool.and_eq_true,Bool.or_eq_true] at this
                  refine ⟨this.1,this.2.1,ble_t.1 this.2.2.1,fun hw=>?_⟩
                  rcases this.2.2.2 with h | h
                  · cases hown:g.own with
                    | none=>rw [hown] at hw; cases hw
                    | some q=>rw [hown] at h; cases h
                  · exact ble_t.1 h
                have hV:=c3 R rfl rfl S.hp
                have res1000:∀ b c,1000≤b→(cond (Nat.ble (Nat.succ b) 1000) (some b) (cond (Nat.ble (Nat.succ b) L.nv) (lFind B.r b) none))=some c→lFind B.r b=some c:=fun b c hb hc=>by
                  have k1:Nat.ble (Nat.succ b) 1000=false:=by
                    cases hk:Nat.ble (Nat.succ b) 1000 with
                    | false=>rfl
                    | true=>have:=ble_t.1 hk; omega
                  rw [k1,cond_false] at hc
                  exact (cond_some hc).2
                have same:∀ g ∈ L.vs,g.own.isSome=true→∀ g' ∈ L.vs,∀ c x y,sigD L.nv E B g.id=some (c,x)→sigD L.nv E B g'.id=some (c,y)→g=g':=by
                  intro g hg hw g' hg' c x y hs hs'
                  obtain ⟨b,o,d1,d2,d3,d4,d5,_⟩:=(hV g hg).at_
                  obtain ⟨b',o',e1,e2,e3,e4,e5,_⟩:=(hV g' hg').at_
                  have d3:sigD L.nv E B g.id=E.σ b:=d3
                  have e3:sigD L.nv E B g'.id=E.σ b':=e3
                  rw [d3] at hs; rw [e3] at hs'
                  have hbb:b=b':=by
                    rcases e5 with e5 | e5
                    · exact S.hp.inj _ _ _ _ _ _ _ d2 e2 (d4 hw) e5 hs hs'
                    · exact absurd (S.hp.ro _ _ _ _ e2 e5 hs') (S.hp.base _ _ _ _ d2 (d4 hw) hs)
                  subst hbb
                  refine vsUp_inj _ _ hup g hg g' hg' ?_
                  have f1:=res1000 _ _ ((hkv' g hg).2.2.2 hw) d1
                  rcases Nat.lt_or_ge g'.id 1000 with hlt | hge
                  · have k1:Nat.ble (Nat.succ g'.id) 1000=true:=ble_t.2 hlt
                    rw [k1,cond_true] at e1
                    have:=Option.some.inj e1
                    have:=(hi1 _ _ f1).1
                    omega
                  · exact hi2 _ _ _ f1 (res1000 _ _ hge e1)
                have K:TOk L.T keep (sigD L.nv E B):=⟨fun g hg=>(hk' g hg).1,fun g hg=>(hk' g hg).2,fun g hg=>by
                  obtain ⟨g0,hg0,rfl⟩:=List.mem_map.1 hg
                  exact ⟨(hkv' g0 hg0).1,(hkv' g0 hg0).2.2.1⟩,fun b hb=>by
                  have hb':L.nv≤b:=hb
                  simp only [sigD]; rw [if_neg (by omega),if_neg (by omega)],fun b hb=>by simp only [sigD,if_pos hb],fun g hg hw g' hg' c x y hs hs'=>by
                  obtain ⟨g0,hg0,rfl⟩:=List.mem_map.1 hg
                  obtain ⟨g1,hg1,rfl⟩:=List.mem_map.1 hg'
                  rw [same g0 hg0 hw g1 hg1 c x y hs hs']⟩
                have I0:LInv ⟨PI,RCI,okI⟩ L.T n (sigD L.nv E B) (kapD L.nv E B) ρ0 w a w:=by
                  refine ⟨S.tm.size,?_,fun g hg=>?_,fun g hg=>?_,Kept.refl _ _⟩
                  · have:=S.df
                    rw [hdf] at this
                    cases hd:a.defers with
                    | nil=>rfl
                    | cons d ds=>rw [hd] at this; exact this.elim
                  · obtain ⟨v,hv,hs⟩:=hstart g hg
                    obtain ⟨v',hv',he⟩:=a3 _ hv
                    obtain ⟨_,u,hu,ht⟩:=S.tm.tree.at_ _ _ hv'
                    refine ⟨u,?_,ht⟩
                    have:=he E (envD L.nv E B) u (R.sub c1) hu
                    rw [← this]
                    exact (hs (sigD L.nv E B) (kapD L.nv E B) L.nv L.nv (fun _=>#[]) (fun _=>#[])).symm
                  · obtain ⟨g0,hg0,rfl⟩:=List.mem_map.1 hg
                    obtain ⟨b,o,d1,d2,d3,d4,d5,c,x,d6⟩:=(hV g0 hg0).at_
                    have d3:sigD L.nv E B g0.id=E.σ b:=d3
                    refine ⟨?_,c,x,d3.trans d6,S.hp.lt _ _ _ _ d2 d6⟩
                    have hobj:=(hV g0 hg0).obj
                    have hu0:=(hvstart g0 hg0).2
                    have hs:=(hvstart g0 hg0).1 (sigD L.nv E B) (kapD L.nv E B) L.nv L.nv (fun _=>#[]) (fun _=>#[])
                    have hs:concL (envD L.nv E B) g0.c0=concL (L.T.env (sigD L.nv E B) (kapD L.nv E B) ρ0) g0.c:=hs
                    unfold VB.obj at hobj ⊢
                    simp only at hobj ⊢
                    cases hown:g0.own with
                    | none =>
                      rw [hown] at hobj
                      simp only at hobj ⊢
                      cases hgu:g0.u with
                      | none =>
                        rw [hgu] at hobj
                        obtain ⟨c',base,vs,cells,el,fz,k1,k2,k3,k4,k5⟩:=hobj
                        exact ⟨c',base,vs,cells,el,fz,k1,hs.symm.trans k2,k3,k4,k5⟩
                      | some q =>
                        rw [hgu] at hobj
                        obtain ⟨c',base,cells,el,fz,k1,k3,k4⟩:=hobj
                        obtain ⟨u1,u2⟩:=hu0 q hgu
                        refine ⟨c',base,cells,el,fz,k1,k3,fun n off k hn hk=>?_⟩
                        have hn:(n:Int) < ρ0.iv q.1:=hn
                        rw [← u1] at hn
                        rw [k4 n off k hn hk]
                        exact congrArg some (u2 n off k)
                    | some q =>
                      rw [hown] at hobj
                      obtain ⟨c',base,vs,cells,el,fz,k1,k2,k3,k4,k5⟩:=hobj
                      exact ⟨c',base,vs,cells,el,fz,k1,hs.symm.trans k2,k3,k4,k5⟩
                have hm2:∀ c o,m0 c o→L.T.keeps (sigD L.nv E B) w c∧w.heap[c]?=some o:=fun c o e=>by
                  have hh:=hm1 c o e
                  refine ⟨⟨Base.Keeps.lt S.hp.below hh.1,fun g hg hw x hx'=>?_⟩,Base.Keeps.has S.hp.below hh⟩
                  obtain ⟨g0,hg0,rfl⟩:=List.mem_map.1 hg
                  obtain ⟨b,o',d1,d2,d3,d4,d5,_⟩:=(hV g0 hg0).at_
                  have d3:sigD L.nv E B g0.id=E.σ b:=d3
                  have hx2:sigD L.nv E B g0.id=some (c,x):=hx'
                  exact S.hp.base _ _ _ _ d2 (d4 hw) (d3.symm.trans hx2) hh.1
                refine wpIn_loop_rounds (M + 1) (loop_rounds hf K CX0 (wh:=wh0) hw0 hrd0 (At:=At) hAt hm2 (Out:=fun ρ' x s'=>s'.df=[]∧(∃ o,L.out.end_ (rhoD E B)=some o∧x=o.1∧∀ g ∈ o.2,idsLt L.nv g.2=true∧∃ v,s'.tm.tree.get g.1=some v∧SameV ρ' v (rhoD E B) g.2) ∧
                  ∀ g ∈ L.vs,∀ q,g.own=some q→∃ cs,s'.h.get g.id=some (.cells cs q.1 true q.2)∧SameL ρ' cs (rhoD E B) g.cf) hround ?_ M 0 ρ0 a w (by omega) hA0 I0)
                rintro i ρ' x s' E' b' a' w' hA hx ⟨hsdf,⟨o,ho,hxo,hsl⟩,hvw⟩ hle S' hb _
                obtain ⟨fin,hfin2,hQ⟩:=sO_end R rfl rfl _ _ hfin hret o ho
                subst hxo
                refine P o.1 _ E w' a' hQ (Env.le.refl E) ⟨⟨S'.tm.size,fun t A h=>(by cases h),⟨fun t A hA'=>?_⟩⟩,?_,?_⟩
                · have hm:=treeOf_get _ _ _ hA'
                  obtain ⟨g,hg,e1,e2⟩:=sSl_ok _ _ hfin2 _ hm
                  obtain ⟨hid,v,hv,hs⟩:=hsl g hg
                  simp only at e1 e2
                  rw [e1] at hv
                  obtain ⟨hkp,u,hu,ht⟩:=S'.tm.tree.at_ _ _ hv
                  refine ⟨hkp,u,?_,ht⟩
                  rw [sV_ok R rfl rfl g.2 A e2]
                  exact conc_env (T:=L.T) hle hid hs hu
                · have:=S'.df
                  rw [hsdf] at this
                  cases hd:a'.defers with
                  | nil=>trivial
                  | cons d ds=>rw [hd] at this; exact this.elim
                · refine S.hp.putAll ⟨hb.os,hb.tape,hb.output,hb.size,fun c hc=>hb.block c ⟨hc.1,fun g hg hw x hx'=>?_⟩⟩ fun q hq=>?_
                  · obtain ⟨g0,hg0,rfl⟩:=List.mem_map.1 hg
                    obtain ⟨b,o,d1,d2,d3,d4,d5,_⟩:=(hV g0 hg0).at_
                    have d3:sigD L.nv E B g0.id=E.σ b:=d3
                    obtain ⟨q,hq,hfo⟩:=o2 g0 hg0 hw
                    have f1:=res1000 _ _ ((hkv' g0 hg0).2.2.2 hw) d1
                    rw [hfo] at f1
                    have f2:=Option.some.inj f1
                    have hx2:sigD L.nv E B g0.id=some (c,x):=hx'
                    exact hc.2 q hq x (by rw [f2,← d3]; exact hx2)
                  · obtain ⟨g,hg,t,cs',w1,w2,w3,w4⟩:=o1 q hq
                    obtain ⟨b,o,d1,d2,d3,d4,d5,cc,xx,d6⟩:=(hV g hg).at_
                    have d3:sigD L.nv E B g.id=E.σ b:=d3
                    have f1:=res1000 _ _ ((hkv' g hg).2.2.2 (by rw [w1]; rfl)) d1
                    rw [w2] at f1
                    have f2:=Option.some.inj f1
                    refine ⟨by rw [w4]; rfl,?_,o,by rw [f2]; exact d2,d4 (by rw [w1]; rfl)⟩
                    rw [w4,f2]
                    obtain ⟨cs1,h1,h2⟩:=hvw g hg t w1
                    obtain ⟨c',base,vs,cells,el,fz,k1,k2,k3,k4,k5⟩:=S'.hp.obj _ _ h1
                    have h6:=hle.σ _ _ (d3.trans d6)
                    rw [k1] at h6; cases h6
                    have k7:=concL_env (T:=L.T) hle (hkv' g hg).2.1 h2 k2
                    have k8:concL E cs'=some vs:=by rw [sVs_ok R rfl rfl g.cf cs' w3]; exact k7
                    refine ⟨cc,xx,vs,cells,el,fz,d6,k8,k3,k4,fun h=>?_⟩
                    have hκ:E'.κ g.id=kapD L.nv E B g.id:=hle.κ _ _ (d3.trans d6)
                    have hκ2:kapD L.nv E B g.id=E.κ b:=(R.at_ g.id b ((hkv' g hg).2.2.2 (by rw [w1]; rfl)) (hkv' g hg).2.2.1 (by rw [w2,f2])).2
                    obtain ⟨m1,m2,m3,m4⟩:=k5 h
                    exact ⟨m1,m2,m3,fun h=>by have:=m4 h; rw [hκ,hκ2] at this; exact this⟩


theorem LSpec.cokF {p : Par} {n : Nat} {keep : List Nat} {body : C} {code : Code} (hf : COk p n keep body code) (L : LSpec) (hk : L.sl.all (fun g => and (memN keep (some g.1)) (idsLt L.nv g.2)) = true) 
    (hkv:L.vs.all (fun g=>and (idsLts L.nv g.c) (and (idsLts L.nv g.cf) (and (Nat.ble (g.id + 1) L.nv) (or g.own.isNone (Nat.ble 1000 g.id)))))=true) (hup:vsUp 0 L.vs=true) (hnv:1000≤L.nv)
    {cx0:Cx} (CX0:CxOk p cx0) {wh0:Wh} (hw0:wh0.rd=none) {st:Rho→(Nat→Obj→Prop)→Prop} (hOk:L.OkP p.ok st cx0 wh0 body) (fix:List Nat)
    (hre:∀ (ρ ρ':Rho) (m:Nat→Obj→Prop),p.ok ρ m→ρ'.fi=ρ.fi→ρ'.fb=ρ.fb→(∀ j ∈ fix,ρ'.ov j=ρ.ov j∧ρ'.iv j=ρ.iv j)→st ρ' m):COk p n keep (L.runF fix) (.loop code) :=
  LSpec.cokG rfl rfl hf L hk hkv hup hnv CX0 hw0 hOk fix hre

theorem LSpec.cok {p : Par} {n : Nat} {keep : List Nat} {body : C} {code : Code} (hf : COk p n keep body code) (L : LSpec) (hk : L.sl.all (fun g => and (memN keep (some g.1)) (idsLt L.nv g.2)) = true)
    (hkv:L.vs.all (fun g=>and (idsLts L.nv g.c) (and (idsLts L.nv g.cf) (and (Nat.ble (g.id + 1) L.nv) (or g.own.isNone (Nat.ble 1000 g.id)))))=true) (hup:vsUp 0 L.vs=true) (hnv:1000≤L.nv)
    {cx0:Cx} (CX0:CxOk p cx0) {wh0:Wh} (hw0:wh0.rd=none) (hOk:L.Ok cx0 wh0 body) (hAll:∀ ρ m,p.ok ρ m):COk p n keep L.run (.loop code):=by
  rw [← L.runF_nil]
  exact LSpec.cokF hf L hk hkv hup hnv CX0 hw0 (hOk.toP hAll) [] (fun _ _ _ _ _ _ _=>trivial)

end Go.Sx
/-! TREES UNDER CONDITIONS: which way a tree goes,where some conditions are known; one tree against another one. -/
namespace Go.Sx
open Go.RowKit

/-- a condition that is known: 'a≤b','a=b' or any other one,and whether it holds -/
structure Asm where
  c:BE
  b:Bool

/-- comparisons in one form: 'a≤b',with whether it holds -/
noncomputable def canon (c:BE) (b:Bool):Asm :=
  match c with
  | .cmp .leq x y=>⟨.cmp .leq x y,b⟩
  | .cmp .geq x y=>⟨.cmp .leq y x,b⟩
  | .cmp .lss x y=>⟨.cmp .leq y x,Bool.not b⟩
  | .cmp .gtr x y=>⟨.cmp .leq x y,Bool.not b⟩
  | .cmp .neq x y=>⟨.cmp .eql x y,Bool.not b⟩
  | c=>⟨c,b⟩

theorem canon_den {ρ:Rho} (c:BE) (b:Bool):(canon c b).c.den ρ=(canon c b).b ↔ c.den ρ=b:=by
  unfold canon
  split
  · exact Iff.rfl
  · simp only [BE.den,cmpDen]
  · rename_i x y
    simp only [BE.den,cmpDen]
    by_cases h:IE.den ρ x < IE.den ρ y
    · have h2:¬ IE.den ρ y≤IE.den ρ x:=by omega
      simp only [h,h2,decide_true,decide_false]; cases b <;> simp
    · have h2:IE.den ρ y≤IE.den ρ x:=by omega
      simp only [h,h2,decide_true,decide_false]; cases b <;> simp
  · rename_i x y
    simp only [BE.den,cmpDen]
    by_cases h:IE.den ρ x≤IE.den ρ y
    · have h2:¬ IE.den ρ x > IE.den ρ y:=by omega
      simp only [h,h2,decide_true,decide_false]; cases b <;> simp
    · have h2:IE.den ρ x > IE.den ρ y:=by omega
      simp only [h,h2,decide_true,decide_false]; cases b <;> simp
  · rename_i x y
    simp only [BE.den,cmpDen]
    cases h:(IE.den ρ x == IE.den ρ y) with
    | true=>simp only [bne,h]; cases b <;> simp
    | false=>simp only [bne,h]; cases b <;> simp
  · exact Iff.rfl

noncomputable def findA (c:BE) (l:List Asm):Option Bool:=@List.rec Asm (fun _=>Option Bool) none (fun a _ ih=>cond (eqBE a.c c) (some a.b) ih) l
/-- is it known whether a condition holds? -/
noncomputable def decB (l:List Asm):BE→Option Bool
  | .lit b=>some b
  | .not a=>(match decB l a with
    | some b=>some (Bool.not b)
    | none=>none)
  | .and a b=>(match decB l a with
    | some false=>some false
    | some true=>decB l b
    | none=>(match decB l b with
      | some false=>some false
      | _=>none))
  | .cmp o x y=>(match findA (canon (.cmp o x y) true).c l with
    | some b=>some (cond (canon (.cmp o x y) true).b b (Bool.not b))
    | none=>none)
  | c=>findA c l

def AsmOk (ρ:Rho) (l:List Asm):Prop:=∀ a ∈ l,a.c.den ρ=a.b

theorem findA_ok {ρ:Rho} {c:BE}:∀ {l:List Asm} {b:Bool},AsmOk ρ l→findA c l=some b→c.den ρ=b
  | [],b,_,h=>by cases h
  | a :: l,b,H,h=>by
    have h:cond (eqBE a.c c) (some a.b) (findA c l)=some b:=h
    cases he:eqBE a.c c with
    | true =>
      rw [he] at h; cases h
      rw [← eqBE_eq _ _ he]; exact H a List.mem_cons_self
    | false=>rw [he] at h; exact findA_ok (fun x hx=>H x (List.mem_cons_of_mem _ hx)) h

theorem decB_ok {ρ:Rho} {l:List Asm} (H:AsmOk ρ l):∀ (c:BE) (b:Bool),decB l c=some b→c.den ρ=b
  | .lit x,b,h=>by simp only [decB,Option.some.injEq] at h; exact h
  | .var i,b,h=>by simp only [decB] at h; exact findA_ok H h
  | .app f x y z,b,h=>by simp only [decB] at h; exact findA_ok H h
  | .iff x y,b,h=>by simp only [decB] at h; exact findA_ok H h
  | .not a,b,h=>by
    simp only [decB] at h
    split at h
    · rename_i x hx; cases h; simp only [BE.den,decB_ok H a x hx]
    · cases h
  | .and a c,b,h=>by
    simp only [decB] at h
    split at h
    · rename_i hx; cases h; simp only [BE.den,decB_ok H a false hx,Bool.false_and]
    · rename_i hx; simp only [BE.den,decB_ok H a true hx,decB_ok H c b h,Bool.true_and]
    · split at h
      · rename_i hy; cases h; simp only [BE.den,decB_ok H c false hy,Bool.and_false]
      · cases h
  | .cmp o x y,b,h=>by
    simp only [decB] at h
    split at h
    · rename_i z hz
      cases h
      have h1:=findA_ok H hz
      have h2:=canon_den (ρ:=ρ) (.cmp o x y) true
      have e:(canon (.cmp o x y) true).c=(canon (.cmp o x y) false).c∧(canon (.cmp o x y) false).b=Bool.not (canon (.cmp o x y) true).b:=by
        cases o <;> exact ⟨rfl,rfl⟩
      cases hb:(canon (.cmp o x y) true).b with
      | true =>
        rw [cond_true]
        cases z with
        | true=>exact h2.1 (by rw [hb]; exact h1)
        | false =>
          refine (canon_den (.cmp o x y) false).1 ?_
          rw [← e.1,e.2,hb]; exact h1
      | false =>
        rw [cond_false]
        cases z with
        | false=>exact h2.1 (by rw [hb]; exact h1)
        | true =>
          refine (canon_den (.cmp o x y) false).1 ?_
          rw [← e.1,e.2,hb]; exact h1
    · cases h

/-- a condition,taken apart,that is known from now on -/
noncomputable def addB (b:Bool):BE→List Asm→List Asm
  | .lit _,l=>l
  | .not a,l=>addB (Bool.not b) a l
  | .and x y,l=>cond b (addB b x (addB b y l)) (⟨.and x y,b⟩ :: l)
  | c,l=>canon c b :: l

theorem addB_ok {ρ:Rho}:∀ (c:BE) (b:Bool) (l:List Asm),AsmOk ρ l→c.den ρ=b→AsmOk ρ (addB b c l)
  | .lit _,b,l,H,_=>H
  | .not a,b,l,H,h=>by
    simp only [addB]
    refine addB_ok a _ l H ?_
    simp only [BE.den] at h
    rw [← h,Bool.not_not]
  | .and x y,b,l,H,h=>by
    simp only [addB]
    cases b with
    | true =>
      simp only [BE.den,Bool.and_eq_true] at h
      exact addB_ok x true _ (addB_ok y true l H h.2) h.1
    | false =>
      intro a ha
      rcases List.mem_cons.1 ha with rfl | ha
      · exact h
      · exact H a ha
  | .var i,b,l,H,h=>by
    intro a ha
    rcases List.mem_cons.1 ha with rfl | ha
    · exact (canon_den (.var i) b).2 h
    · exact H a ha
  | .app f x y z,b,l,H,h=>by
    intro a ha
    rcases List.mem_cons.1 ha with rfl | ha
    · exact (canon_den (.app f x y z) b).2 h
    · exact H a ha
  | .iff x y,b,l,H,h=>by
    intro a ha
    rcases List.mem_cons.1 ha with rfl | ha
    · exact (canon_den (.iff x y) b).2 h
    · exact H a ha
  | .cmp o x y,b,l,H,h=>by
    intro a ha
    rcases List.mem_cons.1 ha with rfl | ha
    · exact (canon_den (.cmp o x y) b).2 h
    · exact H a ha

/-- does each way of a tree that can be end so? -/
noncomputable def allWays {α:Type} (Q:List Asm→α→Bool) (t:T α):List Asm→Bool :=
  @T.rec α (fun _=>List Asm→Bool) (fun a l=>Q l a)
    (fun c _ _ ih1 ih2 l=>match decB l c with
      | some b=>cond b (ih1 l) (ih2 l)
      | none=>and (ih1 (addB true c l)) (ih2 (addB false c l)))
    (fun _ _=>false) t

theorem allWays_ok {α:Type} {ρ:Rho} {Q:List Asm→α→Bool} {P:α→Prop} (hQ:∀ l a,AsmOk ρ l→Q l a=true→P a):∀ (t:T α) (l:List Asm),AsmOk ρ l→allWays Q t l=true→t.Holds ρ P
  | .ret a,l,H,h=>hQ l a H h
  | .fail w,l,H,h=>by cases h
  | .br c x y,l,H,h=>by
    have h:(match decB l c with
      | some b=>cond b (allWays Q x l) (allWays Q y l)
      | none=>and (allWays Q x (addB true c l)) (allWays Q y (addB false c l)))=true:=h
    simp only [T.Holds]
    split at h
    · rename_i b hb
      have hc:=decB_ok H c b hb
      cases b with
      | true=>rw [hc,if_pos rfl]; exact allWays_ok hQ x l H h
      | false=>rw [hc,if_neg (by simp)]; exact allWays_ok hQ y l H h
    · simp only [Bool.and_eq_true] at h
      cases hc:c.den ρ with
      | true=>rw [if_pos rfl]; exact allWays_ok hQ x _ (addB_ok c true l H hc) h.1
      | false=>rw [if_neg (by simp)]; exact allWays_ok hQ y _ (addB_ok c false l H hc) h.2

/-- where a tree ends under conditions; 'dead': it ends nowhere,whatever holds -/
inductive Lf (α:Type) where
  | at_ (a:α)
  | dead
  | open_
noncomputable def leafA {α:Type} (t:T α) (l:List Asm):Lf α :=
  @T.rec α (fun _=>Lf α) (fun a=>.at_ a)
    (fun c _ _ x y=>match decB l c with
      | some b=>cond b x y
      | none=>.open_)
    (fun _=>.dead) t

theorem leafA_at {α:Type} {ρ:Rho} {l:List Asm} (H:AsmOk ρ l) {P:α→Prop}:∀ (t:T α) (a:α),leafA t l=.at_ a→t.Holds ρ P→P a
  | .ret b,a,h,k=>by cases h; exact k
  | .fail w,a,h,k=>k.elim
  | .br c x y,a,h,k=>by
    have h:(match decB l c with
      | some b=>cond b (leafA x l) (leafA y l)
      | none=>.open_)=.at_ a:=h
    split at h
    · rename_i b hb
      have hc:=decB_ok H c b hb
      simp only [T.Holds,hc] at k
      cases b with
      | true=>rw [if_pos rfl] at k; exact leafA_at H x a h k
      | false=>rw [if_neg (by simp)] at k; exact leafA_at H y a h k
    · cases h
theorem leafA_dead {α:Type} {ρ:Rho} {l:List Asm} (H:AsmOk ρ l) {P:α→Prop}:∀ (t:T α),leafA t l=.dead→t.Holds ρ P→False
  | .ret b,h,k=>by cases h
  | .fail w,h,k=>k
  | .br c x y,h,k=>by
    have h:(match decB l c with
      | some b=>cond b (leafA x l) (leafA y l)
      | none=>.open_)=.dead:=h
    split at h
    · rename_i b hb
      have hc:=decB_ok H c b hb
      simp only [T.Holds,hc] at k
      cases b with
      | true=>rw [if_pos rfl] at k; exact leafA_dead H x h k
      | false=>rw [if_neg (by simp)] at k; exact leafA_dead H y h k
    · cases h

/-- ONE TREE SERVES FOR ANOTHER: wherever the run's tree 't' ends,the said one 'u' ends alike,or nowhere. -/
noncomputable def serves {α:Type} (eq:α→α→Bool) (u:T α) (t:T α):List Asm→Bool :=
  @T.rec α (fun _=>List Asm→Bool)
    (fun a l=>match leafA u l with
      | .at_ b=>eq a b
      | .dead=>true
      | .open_=>false)
    (fun c _ _ ih1 ih2 l=>match leafA u l with
      | .dead=>true
      | _=>(match decB l c with
        | some b=>cond b (ih1 l) (ih2 l)
        | none=>and (ih1 (addB true c l)) (ih2 (addB false c l))))
    (fun _ l=>match leafA u l with
      | .dead=>true
      | _=>false) t

theorem serves_ok {α:Type} {ρ:Rho} {eq:α→α→Bool} {P:α→Prop} (heq:∀ a b,eq a b=true→a=b) {u:T α} (hu:u.Holds ρ P):∀ (t:T α) (l:List Asm),AsmOk ρ l→serves eq u t l=true→t.Holds ρ P
  | .ret a,l,H,h=>by
    have h:(match leafA u l with
      | .at_ b=>eq a b
      | .dead=>true
      | .open_=>false)=true:=h
    split at h
    · rename_i b hb
      have:=leafA_at H u b hb hu
      rw [← heq a b h] at this; exact this
    · rename_i hd; exact (leafA_dead H u hd hu).elim
    · cases h
  | .fail w,l,H,h=>by
    have h:(match leafA u l with
      | .dead=>true
      | _=>false)=true:=h
    split at h
    · rename_i hd; exact (leafA_dead H u hd hu).elim
    · cases h
  | .br c x y,l,H,h=>by
    have h:(match leafA u l with
      | .dead=>true
      | _=>(match decB l c with
        | some b=>cond b (serves eq u x l) (serves eq u y l)
        | none=>and (serves eq u x (addB true c l)) (serves eq u y (addB false c l))))=true:=h
    split at h
    · rename_i hd; exact (leafA_dead H u hd hu).elim
    · simp only [T.Holds]
      split at h
      · rename_i b hb
        have hc:=decB_ok H c b hb
        cases b with
        | true=>rw [hc,if_pos rfl]; exact serves_ok heq hu x l H h
        | false=>rw [hc,if_neg (by simp)]; exact serves_ok heq hu y l H h
      · simp only [Bool.and_eq_true] at h
        cases hc:c.den ρ with
        | true=>rw [if_pos rfl]; exact serves_ok heq hu x _ (addB_ok c true l H hc) h.1
        | false=>rw [if_neg (by simp)]; exact serves_ok heq hu y _ (addB_ok c false l H hc) h.2

theorem T.holds_weak {α:Type} {ρ:Rho} {P Q:α→Prop}:∀ {t:T α},t.Holds ρ P→(∀ a,P a→Q a)→t.Holds ρ Q
  | .ret a,h,k=>k a h
  | .fail w,h,_=>h.elim
  | .br c x y,h,k=>by
    simp only [T.Holds] at h ⊢
    split at h
    · rename_i hc; rw [if_pos hc]; exact T.holds_weak h k
    · rename_i hc; rw [if_neg hc]; exact T.holds_weak h k

theorem serves_ok2 {α:Type} {ρ:Rho} {eq:α→α→Bool} {P R:α→Prop} (heq:∀ a b,eq a b=true→a=b∧R a) {u:T α} (hu:u.Holds ρ P):∀ (t:T α) (l:List Asm),AsmOk ρ l→serves eq u t l=true→t.Holds ρ fun a=>R a∧P a
  | .ret a,l,H,h=>by
    have h:(match leafA u l with
      | .at_ b=>eq a b
      | .dead=>true
      | .open_=>false)=true:=h
    split at h
    · rename_i b hb
      have:=leafA_at H u b hb hu
      obtain ⟨h1,h2⟩:=heq a b h
      exact ⟨h2,h1 ▸ this⟩
    · rename_i hd; exact (leafA_dead H u hd hu).elim
    · cases h
  | .fail w,l,H,h=>by
    have h:(match leafA u l with
      | .dead=>true
      | _=>false)=true:=h
    split at h
    · rename_i hd; exact (leafA_dead H u hd hu).elim
    · cases h
  | .br c x y,l,H,h=>by
    have h:(match leafA u l with
      | .dead=>true
      | _=>(match decB l c with
        | some b=>cond b (serves eq u x l) (serves eq u y l)
        | none=>and (serves eq u x (addB true c l)) (serves eq u y (addB false c l))))=true:=h
    split at h
    · rename_i hd; exact (leafA_dead H u hd hu).elim
    · simp only [T.Holds]
      split at h
      · rename_i b hb
        have hc:=decB_ok H c b hb
        cases b with
        | true=>rw [hc,if_pos rfl]; exact serves_ok2 heq hu x l H h
        | false=>rw [hc,if_neg (by simp)]; exact serves_ok2 heq hu y l H h
      · simp only [Bool.and_eq_true] at h
        cases hc:c.den ρ with
        | true=>rw [if_pos rfl]; exact serves_ok2 heq hu x _ (addB_ok c true l H hc) h.1
        | false=>rw [if_neg (by simp)]; exact serves_ok2 heq hu y _ (addB_ok c false l H hc) h.2

end Go.Sx
/-! TREES UNDER CONDITIONS,where a number equals itself. -/
namespace Go.Sx
open Go.RowKit

/-- a comparison that holds of whatever numbers -/
noncomputable def reflA (a:Asm):Option Bool :=
  match a.c with
  | .cmp .eql x y=>cond (eqIE x y) (some a.b) none
  | .cmp .leq x y=>cond (eqIE x y) (some a.b) none
  | _=>none
theorem reflA_ok {ρ:Rho} {c:BE} {b:Bool} (h:reflA (canon c true)=some b):c.den ρ=b:=by
  have key:(canon c true).c.den ρ=true:=by
    unfold reflA at h
    split at h
    · rename_i x y hc
      have:=eqIE_eq _ _ (cond_some h).1
      rw [hc,this]; simp [BE.den,cmpDen]
    · rename_i x y hc
      have:=eqIE_eq _ _ (cond_some h).1
      rw [hc,this]; simp [BE.den,cmpDen]
    · cases h
  have hb:(canon c true).b=b:=by
    unfold reflA at h
    split at h
    · have:=(cond_some h).2; cases this; rfl
    · have:=(cond_some h).2; cases this; rfl
    · cases h
  have h2:=canon_den (ρ:=ρ) c true
  cases hcb:(canon c true).b with
  | true=>rw [hcb] at h2 hb; rw [← hb]; exact h2.1 key
  | false =>
    rw [hcb] at h2 hb
    rw [← hb]
    cases hd:c.den ρ with
    | false=>rfl
    | true=>have:=h2.2 hd; rw [key] at this; cases this

/-- as 'decB',and a number equals itself -/
noncomputable def decR (l:List Asm):BE→Option Bool
  | .not a=>(match decR l a with
    | some b=>some (Bool.not b)
    | none=>none)
  | .and a b=>(match decR l a with
    | some false=>some false
    | some true=>decR l b
    | none=>(match decR l b with
      | some false=>some false
      | _=>findA (.and a b) l))
  | c=>(match decB l c with
    | some b=>some b
    | none=>reflA (canon c true))

theorem decR_ok {ρ:Rho} {l:List Asm} (H:AsmOk ρ l):∀ (c:BE) (b:Bool),decR l c=some b→c.den ρ=b
  | .not a,b,h=>by
    simp only [decR] at h
    split at h
    · rename_i x hx; cases h; simp only [BE.den,decR_ok H a x hx]
    · cases h
  | .and a c,b,h=>by
    simp only [decR] at h
    split at h
    · rename_i hx; cases h; simp only [BE.den,decR_ok H a false hx,Bool.false_and]
    · rename_i hx; simp only [BE.den,decR_ok H a true hx,decR_ok H c b h,Bool.true_and]
    · split at h
      · rename_i hy; cases h; simp only [BE.den,decR_ok H c false hy,Bool.and_false]
      · exact findA_ok H h
  | .lit x,b,h=>by
    simp only [decR] at h
    split at h
    · rename_i y hy; cases h; exact decB_ok H _ _ hy
    · exact reflA_ok h
  | .var x,b,h=>by
    simp only [decR] at h
    split at h
    · rename_i y hy; cases h; exact decB_ok H _ _ hy
    · exact reflA_ok h
  | .cmp o x y,b,h=>by
    simp only [decR] at h
    split at h
    · rename_i y hy; cases h; exact decB_ok H _ _ hy
    · exact reflA_ok h
  | .iff x y,b,h=>by
    simp only [decR] at h
    split at h
    · rename_i y hy; cases h; exact decB_ok H _ _ hy
    · exact reflA_ok h
  | .app f x y z,b,h=>by
    simp only [decR] at h
    split at h
    · rename_i y hy; cases h; exact decB_ok H _ _ hy
    · exact reflA_ok h

/-- as 'allWays'; a way that cannot be is one that some known condition rules out -/
noncomputable def allR {α:Type} (Q:α→Bool) (t:T α):List Asm→Bool :=
  @T.rec α (fun _=>List Asm→Bool) (fun a _=>Q a)
    (fun c _ _ ih1 ih2 l=>match decR l c with
      | some b=>cond b (ih1 l) (ih2 l)
      | none=>and (ih1 (addB true c l)) (ih2 (addB false c l)))
    (fun _ _=>false) t

theorem allR_ok {α:Type} {ρ:Rho} {Q:α→Bool} {P:α→Prop} (hQ:∀ a,Q a=true→P a):∀ (t:T α) (l:List Asm),AsmOk ρ l→allR Q t l=true→t.Holds ρ P
  | .ret a,l,H,h=>hQ a h
  | .fail w,l,H,h=>by cases h
  | .br c x y,l,H,h=>by
    have h:(match decR l c with
      | some b=>cond b (allR Q x l) (allR Q y l)
      | none=>and (allR Q x (addB true c l)) (allR Q y (addB false c l)))=true:=h
    simp only [T.Holds]
    split at h
    · rename_i b hb
      have hc:=decR_ok H c b hb
      cases b with
      | true=>rw [hc,if_pos rfl]; exact allR_ok hQ x l H h
      | false=>rw [hc,if_neg (by simp)]; exact allR_ok hQ y l H h
    · simp only [Bool.and_eq_true] at h
      cases hc:c.den ρ with
      | true=>rw [if_pos rfl]; exact allR_ok hQ x _ (addB_ok c true l H hc) h.1
      | false=>rw [if_neg (by simp)]; exact allR_ok hQ y _ (addB_ok c false l H hc) h.2
end Go.Sx
/-! CALLS,AS THEY ARE SAID: what a call leads to,told by variables,held against its run. -/
namespace Go.Sx
open Go.RowKit

/-- A CALL,AS IT IS SAID: what it is called with,the blocks that it reads,on what terms,and what it hands back. -/
structure CSpec where
  f:Nat
  args:List AV
  view:List (Nat × List AV)
  nv:Nat
  cs:List BE
  u:T AV

noncomputable def addAll:List BE→List Asm→List Asm
  | [],l=>l
  | c :: cs,l=>addB true c (addAll cs l)
theorem addAll_ok {ρ:Rho}:∀ (cs:List BE) (l:List Asm),AsmOk ρ l→(∀ c ∈ cs,c.den ρ=true)→AsmOk ρ (addAll cs l)
  | [],_,H,_=>H
  | c :: cs,l,H,h=>addB_ok c true _ (addAll_ok cs l H fun d hd=>h d (List.mem_cons_of_mem _ hd)) (h c List.mem_cons_self)

noncomputable def sT (n:Nat) (B:Bd) (t:T AV):Option (T AV) :=
  @T.rec AV (fun _=>Option (T AV)) (fun a=>match sV n B a with
    | some x=>some (.ret x)
    | none=>none)
    (fun c _ _ x y=>match sB B c,x,y with
      | some d,some x,some y=>some (.br d x y)
      | _,_,_=>none) (fun w=>some (.fail w)) t

theorem sT_holds {n:Nat} {E ES:Env} {B:Bd} (R:RelD n E ES B) (hfi:ES.ρ.fi=E.ρ.fi) (hfb:ES.ρ.fb=E.ρ.fb) {P:AV→Prop}:∀ (t t':T AV),sT n B t=some t'→t'.Holds E.ρ P→t.Holds ES.ρ fun v=>∃ v',sV n B v=some v'∧P v'
  | .ret a,t',h,k=>by
    have h:(match sV n B a with
      | some x=>some (T.ret x)
      | none=>none)=some t':=h
    split at h
    · rename_i x hx; cases h; exact ⟨x,hx,k⟩
    · cases h
  | .fail w,t',h,k=>by
    have h:some (T.fail w)=some t':=h
    cases h; exact k.elim
  | .br c x y,t',h,k=>by
    have h:(match sB B c,sT n B x,sT n B y with
      | some d,some x,some y=>some (T.br d x y)
      | _,_,_=>none)=some t':=h
    split at h
    · rename_i d x' y' hd hx hy
      cases h
      simp only [T.Holds] at k ⊢
      rw [sB_ok R hfi hfb c d hd] at k
      split at k
      · rename_i hc; rw [if_pos hc]; exact sT_holds R hfi hfb x x' hx k
      · rename_i hc; rw [if_neg hc]; exact sT_holds R hfi hfb y y' hy k
    · cases h

noncomputable def CSpec.vs (c:CSpec):List VS:=c.view.map fun g=>⟨g.1,none,g.2,g.2,g.2,none⟩

noncomputable def CSpec.orc (c:CSpec) (args:List AV) (h:Heap):Option (T (AV × Heap)) :=
  match bdL c.nv c.args args ⟨[],[],[],[]⟩ with
  | none=>none
  | some B0=>(match bdVw c.nv h c.vs B0 with
    | none=>none
    | some B=>(match sBs B c.cs,sT c.nv B c.u with
      | some cs,some u=>some (brAll (u.bind fun v=>.ret (v,h)) cs)
      | _,_=>none))

/-- does the said tree serve for the run's? its values name no block -/
noncomputable def CSpec.chk (c:CSpec) (run:T (AV × Heap)):Bool :=
  serves (fun a b=>and (eqAV a b) (pureAV b)) c.u (run.bind fun r=>.ret r.1) (addAll c.cs [])

/-- what holds of whatever numbers is so where some more is known of them -/
theorem CSpec.ok {p0 p:Par} {c:CSpec} {run:T (AV × Heap)} (hc:CallOk p0 c.f c.args (viewHeap c.nv c.view) run) (hchk:c.chk run=true) (hnv:1000≤c.nv) {args:List AV} {h:Heap} {t:T (AV × Heap)} (ho:c.orc args h=some t) (hP:p0.P=p.P:=by rfl) (hfree:∀ ρ m,p0.ok ρ m:=by exact fun _ _=>trivial):CallOk p c.f args h t:=by
  unfold CSpec.orc at ho
  split at ho
  · cases ho
  · rename_i B0 h0
    split at ho
    · cases ho
    · rename_i B hB
      split at ho
      · rename_i cs u hcs hu
        cases ho
        intro vs E w0 w Q K k HH ha P
        obtain ⟨hdom,hret⟩:=brAll_holds k
        rw [T.holds_bind] at hret
        obtain ⟨a1,a2,a3⟩:=bdL_ok _ _ _ _ h0
        obtain ⟨c1,c2,c3⟩:=bdVw_ok _ _ _ hB
        have G0:GoodD E B0:=a2 E vs ha (fun j v h=>by cases h)
        have G:GoodD E B:=c2 HH G0
        have R:RelD c.nv E (envD c.nv E B) B:=envD_rel HH.glob G
        have hargs:concL (envD c.nv E B) c.args=some vs:=a3 E (envD c.nv E B) vs (R.sub c1) ha
        have hdom':∀ d ∈ c.cs,d.den (rhoD E B)=true:=fun d hd=>by
          obtain ⟨d',h1,h2⟩:=sBs_ok _ _ hcs d hd
          have:=sB_ok R rfl rfl d d' h2
          rw [hdom d' h1] at this
          exact this.symm
        have hV:=c3 R rfl rfl HH
        have hview:∀ g ∈ c.view,ViewIn w (envD c.nv E B) g:=fun g hg=>by
          have hm:(⟨g.1,none,g.2,g.2,g.2,none⟩:VS) ∈ c.vs:=List.mem_map.2 ⟨g,hg,rfl⟩
          obtain ⟨c',base,vs',cells,el,fz,k1,k2,k3,k4,k5⟩:=(hV _ hm).obj
          exact ⟨c',base,vs',cells,el,fz,k1,k2,k3,k4⟩
        have HS:HeapOk p0 (envD c.nv E B) (viewHeap c.nv c.view) (Base.of w) w:=view_ok hview
          (fun b hb=>by simp only [envD,sigD]; rw [if_neg (by omega),if_neg (by omega)]) (fun b hb=>by simp only [envD,sigD,if_pos hb]) (Nat.le_refl _) (Par.okB_all hfree _ _)
        have hu':=sT_holds R rfl rfl c.u u hu hret
        -- the run,under the conditions
        have hrun:(run.bind fun r=>T.ret r.1).Holds (rhoD E B) fun v=>pureAV v=true∧∃ v',sV c.nv B v=some v'∧(T.ret (v',h)).Holds E.ρ Q:=by
          unfold CSpec.chk at hchk
          have key:∀ (t:T AV) (l:List Asm),AsmOk (rhoD E B) l→serves (fun a b=>and (eqAV a b) (pureAV b)) c.u t l=true→t.Holds (rhoD E B) fun v=>pureAV v=true∧∃ v',sV c.nv B v=some v'∧(T.ret (v',h)).Holds E.ρ Q:=by
            intro t l H hs
            have hu2:c.u.Holds (rhoD E B) (fun v=>pureAV v=true→pureAV v=true∧∃ v',sV c.nv B v=some v'∧(T.ret (v',h)).Holds E.ρ Q):=T.holds_weak hu' fun v hv hp=>⟨hp,hv⟩
            have:t.Holds (rhoD E B) (fun v=>pureAV v=true∧(pureAV v=true→pureAV v=true∧∃ v',sV c.nv B v=some v'∧(T.ret (v',h)).Holds E.ρ Q)) :=
              serves_ok2 (P:=fun v=>pureAV v=true→pureAV v=true∧∃ v',sV c.nv B v=some v'∧(T.ret (v',h)).Holds E.ρ Q) (R:=fun v=>pureAV v=true) (fun a b hab=>by
                simp only [Bool.and_eq_true] at hab
                have:=eqAV_eq _ _ hab.1
                exact ⟨this,this ▸ hab.2⟩) hu2 t l H hs
            exact T.holds_weak this fun v hv=>hv.2 hv.1
          exact key _ _ (addAll_ok _ _ (fun a ha=>by cases ha) hdom') hchk
        rw [T.holds_bind] at hrun
        obtain ⟨r1,r2⟩:=hc vs (envD c.nv E B) (Base.of w) w (fun r=>pureAV r.1=true∧∃ v',sV c.nv B r.1=some v'∧(T.ret (v',h)).Holds E.ρ Q) (fun cv w'=>∃ v v',pureAV v=true∧sV c.nv B v=some v'∧Q (v',h)∧conc (envD c.nv E B) v=some cv∧Below w.heap.size w w') hrun HS hargs
          (fun v h' E' w' cv hq hle HH' hv=>by
            obtain ⟨hp,v',hs,hQ⟩:=hq
            exact ⟨v,v',hp,hs,hQ,by rw [← hv]; exact (conc_pure hle.ρ v hp).symm,Base.keeps_below HH'.below⟩)
        rw [hP] at r1 r2
        refine ⟨r1,r2.mono ?_⟩
        rintro e w' ⟨cv,rfl,v,v',hp,hs,hQ,hv,hb⟩
        exact ⟨cv,rfl,P v' h E w' cv hQ (Env.le.refl E) (HH.world hb) (by rw [sV_ok R rfl rfl v v' hs]; exact hv)⟩
      · cases ho

end Go.Sx
/-! LINEAR FACTS: sums of numbers,what is known of them,and what follows; trees and values under them. -/
namespace Go.Sx
open Go.RowKit Go.IntWalk

/-! ## Sums -/
abbrev Lin:=List (IE × Int)
def linDen (ρ:Rho):Lin→Int
  | []=>0
  | p :: l=>p.2 * p.1.den ρ + linDen ρ l

noncomputable def linPut (e:IE) (c:Int):Lin→Lin
  | []=>[(e,c)]
  | p :: l=>cond (eqIE p.1 e) (cond (ieq (Int.add p.2 c) 0) l ((p.1,Int.add p.2 c) :: l)) (p :: linPut e c l)
noncomputable def linAdd:Lin→Lin→Lin
  | [],m=>m
  | p :: l,m=>linPut p.1 p.2 (linAdd l m)
noncomputable def linMul (k:Int) (l:Lin):Lin:=cond (ieq k 0) [] (lMap (fun p=>(p.1,Int.mul k p.2)) l)
noncomputable def linSub (l m:Lin):Lin:=linAdd (linMul (-1) m) l

theorem ieq_t {x y:Int} (h:ieq x y=true):x=y:=by
  cases x <;> cases y <;> simp [ieq] at h
  · rw [h]
  · rw [h]
theorem ilt_t {x y:Int}:ilt x y=true ↔ x < y:=by rw [ilt_eq]; exact decide_eq_true_iff
theorem ilt_f {x y:Int}:ilt x y=false ↔ y≤x:=by
  rw [← Bool.not_eq_true,ilt_t]; omega

theorem linPut_den {ρ:Rho} (e:IE) (c:Int):∀ l,linDen ρ (linPut e c l)=c * e.den ρ + linDen ρ l
  | []=>rfl
  | p :: l=>by
    simp only [linPut]
    cases h:eqIE p.1 e with
    | true =>
      have he:=eqIE_eq _ _ h
      simp only [cond_true]
      cases h2:ieq (Int.add p.2 c) 0 with
      | true =>
        have h3:p.2 + c=0:=ieq_t h2
        simp only [cond_true,linDen,he]
        have:(p.2 + c) * e.den ρ=0:=by rw [h3,Int.zero_mul]
        rw [Int.add_mul] at this; omega
      | false =>
        simp only [cond_false,linDen,he]
        show (p.2 + c) * e.den ρ + linDen ρ l=_
        rw [Int.add_mul]; omega
    | false=>simp only [cond_false,linDen,linPut_den e c l]; omega
theorem linAdd_den {ρ:Rho}:∀ l m,linDen ρ (linAdd l m)=linDen ρ l + linDen ρ m
  | [],m=>by simp [linAdd,linDen]
  | p :: l,m=>by simp only [linAdd,linPut_den,linAdd_den l m,linDen]; omega
theorem linMul_den {ρ:Rho} (k:Int) (l:Lin):linDen ρ (linMul k l)=k * linDen ρ l:=by
  unfold linMul
  cases h:ieq k 0 with
  | true=>simp [ieq_t h,linDen]
  | false =>
    simp only [cond_false,lMap_eq]
    induction l with
    | nil=>simp [linDen]
    | cons p l ih =>
      simp only [List.map_cons,linDen,ih,Int.mul_add]
      show k * p.2 * _ + _=_
      rw [Int.mul_assoc]
theorem linSub_den {ρ:Rho} (l m:Lin):linDen ρ (linSub l m)=linDen ρ l - linDen ρ m:=by
  unfold linSub; rw [linAdd_den,linMul_den]; omega

/-! ## What is known -/
structure Iv where
  lo:Int
  hi:Int
inductive Fk where
  | le | eq | ne
/-- of a sum and a number together: at most 0,0,or not 0 -/
structure Fct where
  k:Fk
  l:Lin
  c:Int
structure Kn where
  iv:PT Iv
  fs:List Fct
  bs:List Asm

def Fct.ok (ρ:Rho) (f:Fct):Prop :=
  match f.k with
  | .le=>linDen ρ f.l + f.c≤0
  | .eq=>linDen ρ f.l + f.c=0
  | .ne=>linDen ρ f.l + f.c ≠ 0
structure KnOk (ρ:Rho) (K:Kn):Prop where
  iv:∀ i v,K.iv.get i=some v→v.lo≤ρ.iv i∧ρ.iv i≤v.hi
  fs:∀ f ∈ K.fs,f.ok ρ
  bs:AsmOk ρ K.bs

noncomputable def imin (x y:Int):Int:=cond (ilt y x) y x
noncomputable def imax (x y:Int):Int:=cond (ilt x y) y x
theorem imin_eq (x y:Int):imin x y=min x y:=by
  unfold imin; cases h:ilt y x with
  | true=>have:=ilt_t.1 h; simp only [cond_true]; omega
  | false=>have:=ilt_f.1 h; simp only [cond_false]; omega
theorem imax_eq (x y:Int):imax x y=max x y:=by
  unfold imax; cases h:ilt x y with
  | true=>have:=ilt_t.1 h; simp only [cond_true]; omega
  | false=>have:=ilt_f.1 h; simp only [cond_false]; omega

noncomputable def ivIn (v:Iv):Bool:=and (Bool.not (ilt v.lo (-9223372036854775808))) (Bool.not (ilt 9223372036854775807 v.hi))
noncomputable def ivI (k:IntKind) (v:Iv):Option Iv:=cond (and (isI64 k) (ivIn v)) (some v) none
noncomputable def ivMul (a b:Iv):Iv :=
  ⟨imin (imin (Int.mul a.lo b.lo) (Int.mul a.lo b.hi)) (imin (Int.mul a.hi b.lo) (Int.mul a.hi b.hi)),
   imax (imax (Int.mul a.lo b.lo) (Int.mul a.lo b.hi)) (imax (Int.mul a.hi b.lo) (Int.mul a.hi b.hi))⟩

noncomputable def ivE (G:PT Iv):IE→Option Iv
  | .lit n=>some ⟨n,n⟩
  | .var i=>G.get i
  | .bin op k a b=>(match ivE G a,ivE G b with
    | some x,some y=>(match op with
      | .add=>ivI k ⟨Int.add x.lo y.lo,Int.add x.hi y.hi⟩
      | .sub=>ivI k ⟨Int.sub x.lo y.hi,Int.sub x.hi y.lo⟩
      | .mul=>ivI k (ivMul x y)
      | _=>none)
    | _,_=>none)
  | .conv k a=>(match ivE G a with
    | some x=>ivI k x
    | none=>none)
  | .mx a b=>(match ivE G a,ivE G b with
    | some x,some y=>some ⟨imax x.lo y.lo,imax x.hi y.hi⟩
    | _,_=>none)
  | .mn a b=>(match ivE G a,ivE G b with
    | some x,some y=>some ⟨imin x.lo y.lo,imin x.hi y.hi⟩
    | _,_=>none)
  | .app _ _ _ _=>none

theorem isI64_eq {k:IntKind} (h:isI64 k=true):k=.i64:=by cases k <;> simp [isI64] at h; rfl
theorem ivI_ok {k:IntKind} {v u:Iv} (h:ivI k v=some u):k=.i64∧u=v∧-9223372036854775808≤v.lo∧v.hi≤9223372036854775807:=by
  obtain ⟨h1,h2⟩:=cond_some h
  simp only [Bool.and_eq_true] at h1
  obtain ⟨a,b⟩:=h1
  unfold ivIn at b
  simp only [Bool.and_eq_true,Bool.not_eq_true',ilt_f] at b
  cases h2
  exact ⟨isI64_eq a,rfl,b.1,b.2⟩

theorem mul_bounds {a b l h m n : Int} (h1 : l ≤ a) (h2 : a ≤ h) (h3 : m ≤ b) (h4 : b ≤ n) :
    min (min (l * m) (l * n)) (min (h * m) (h * n))≤a * b∧a * b≤max (max (l * m) (l * n)) (max (h * m) (h * n)):=by
  have up:∀ {x y z:Int},0≤z→x≤y→x * z≤y * z:=fun hz hxy=>Int.mul_le_mul_of_nonneg_right hxy hz
  have dn:∀ {x y z:Int},z≤0→x≤y→y * z≤x * z:=fun hz hxy=>Int.mul_le_mul_of_nonpos_right hxy hz
  have up':∀ {x y z:Int},0≤z→x≤y→z * x≤z * y:=fun hz hxy=>Int.mul_le_mul_of_nonneg_left hxy hz
  have dn':∀ {x y z:Int},z≤0→x≤y→z * y≤z * x:=fun {x y z} hz hxy=>by
    rw [Int.mul_comm z y,Int.mul_comm z x]; exact dn hz hxy
  -- a*b lies between l*b and h*b; each of these between its ends
  have e1:min (l * b) (h * b)≤a * b∧a * b≤max (l * b) (h * b):=by
    rcases Int.le_total 0 b with hb | hb
    · have:=up hb h1; have:=up hb h2; omega
    · have:=dn hb h1; have:=dn hb h2; omega
  have e2:∀ x:Int,min (x * m) (x * n)≤x * b∧x * b≤max (x * m) (x * n):=fun x=>by
    rcases Int.le_total 0 x with hx | hx
    · have:=up' hx h3; have:=up' hx h4; omega
    · have:=dn' hx h3; have:=dn' hx h4; omega
  have:=e2 l; have:=e2 h; omega

theorem ivE_ok {ρ:Rho} {G:PT Iv} (HG:∀ i v,G.get i=some v→v.lo≤ρ.iv i∧ρ.iv i≤v.hi):∀ (e:IE) (v:Iv),ivE G e=some v→v.lo≤e.den ρ∧e.den ρ≤v.hi
  | .lit n,v,h=>by simp only [ivE,Option.some.injEq] at h; subst h; exact ⟨Int.le_refl _,Int.le_refl _⟩
  | .var i,v,h=>HG i v h
  | .bin op k a b,v,h=>by
    simp only [ivE] at h
    split at h
    · rename_i x y hx hy
      have h1:=ivE_ok HG a x hx
      have h2:=ivE_ok HG b y hy
      split at h
      · obtain ⟨rfl,rfl,h3,h4⟩:=ivI_ok h
        have e1:Int.add x.lo y.lo=x.lo + y.lo:=rfl
        have e2:Int.add x.hi y.hi=x.hi + y.hi:=rfl
        simp only [e1,e2] at h3 h4 ⊢
        simp only [IE.den,binDen]
        rw [i64_in _ (by omega)]; omega
      · obtain ⟨rfl,rfl,h3,h4⟩:=ivI_ok h
        have e1:Int.sub x.lo y.hi=x.lo - y.hi:=rfl
        have e2:Int.sub x.hi y.lo=x.hi - y.lo:=rfl
        simp only [e1,e2] at h3 h4 ⊢
        simp only [IE.den,binDen]
        rw [i64_in _ (by omega)]; omega
      · obtain ⟨rfl,rfl,h3,h4⟩:=ivI_ok h
        have hb:=mul_bounds h1.1 h1.2 h2.1 h2.2
        have e1:(ivMul x y).lo=min (min (x.lo * y.lo) (x.lo * y.hi)) (min (x.hi * y.lo) (x.hi * y.hi)):=by simp only [ivMul,imin_eq]; rfl
        have e2:(ivMul x y).hi=max (max (x.lo * y.lo) (x.lo * y.hi)) (max (x.hi * y.lo) (x.hi * y.hi)):=by simp only [ivMul,imax_eq]; rfl
        rw [e1] at h3 ⊢; rw [e2] at h4 ⊢
        simp only [IE.den,binDen]
        rw [i64_in _ ⟨Int.le_trans h3 hb.1,Int.le_trans hb.2 h4⟩]; exact hb
      · cases h
    · cases h
  | .conv k a,v,h=>by
    simp only [ivE] at h
    split at h
    · rename_i x hx
      have h1:=ivE_ok HG a x hx
      obtain ⟨rfl,rfl,h3,h4⟩:=ivI_ok h
      simp only [IE.den]
      rw [i64_in _ (by omega)]; exact h1
    · cases h
  | .mx a b,v,h=>by
    simp only [ivE] at h
    split at h
    · rename_i x y hx hy
      have h1:=ivE_ok HG a x hx
      have h2:=ivE_ok HG b y hy
      cases h
      simp only [imax_eq,IE.den_mx]; omega
    · cases h
  | .mn a b,v,h=>by
    simp only [ivE] at h
    split at h
    · rename_i x y hx hy
      have h1:=ivE_ok HG a x hx
      have h2:=ivE_ok HG b y hy
      cases h
      simp only [imin_eq,IE.den]
      split <;> omega
    · cases h
  | .app _ _ _ _,v,h=>by simp only [ivE] at h; cases h

/-! ## What a sum is at most -/
noncomputable def upL (G:PT Iv):Lin→Option Int
  | []=>some 0
  | p :: l=>(match ivE G p.1,upL G l with
    | some v,some u=>some (Int.add (Int.mul p.2 (cond (ilt p.2 0) v.lo v.hi)) u)
    | _,_=>none)
theorem upL_ok {ρ:Rho} {G:PT Iv} (HG:∀ i v,G.get i=some v→v.lo≤ρ.iv i∧ρ.iv i≤v.hi):∀ (l:Lin) (u:Int),upL G l=some u→linDen ρ l≤u
  | [],u,h=>by simp only [upL,Option.some.injEq] at h; subst h; exact Int.le_refl _
  | p :: l,u,h=>by
    simp only [upL] at h
    split at h
    · rename_i v w hv hw
      have h1:=ivE_ok HG p.1 v hv
      have h2:=upL_ok HG l w hw
      cases h
      show p.2 * p.1.den ρ + linDen ρ l≤p.2 * (cond (ilt p.2 0) v.lo v.hi) + w
      cases hc:ilt p.2 0 with
      | true =>
        have:=ilt_t.1 hc
        have h3:p.2 * p.1.den ρ≤p.2 * v.lo:=by
          rw [Int.mul_comm p.2,Int.mul_comm p.2]; exact Int.mul_le_mul_of_nonpos_right h1.1 (by omega)
        simp only [cond_true]; omega
      | false =>
        have:=ilt_f.1 hc
        have h3:p.2 * p.1.den ρ≤p.2 * v.hi:=Int.mul_le_mul_of_nonneg_left h1.2 this
        simp only [cond_false]; omega
    · cases h
/-- a sum and a number are at most 0 together,by the bounds alone -/
noncomputable def leI (G:PT Iv) (l:Lin) (c:Int):Bool :=
  match upL G l with
  | some u=>Bool.not (ilt 0 (Int.add u c))
  | none=>false
theorem leI_ok {ρ:Rho} {G:PT Iv} (HG:∀ i v,G.get i=some v→v.lo≤ρ.iv i∧ρ.iv i≤v.hi) {l:Lin} {c:Int} (h:leI G l c=true):linDen ρ l + c≤0:=by
  unfold leI at h
  split at h
  · rename_i u hu
    have h1:=upL_ok HG l u hu
    simp only [Bool.not_eq_true',ilt_f] at h
    have:Int.add u c=u + c:=rfl
    omega
  · cases h
/-- .. or by one fact more -/
noncomputable def leF (G:PT Iv) (l:Lin) (c:Int) (f:Fct):Bool :=
  match f.k with
  | .le=>leI G (linSub l f.l) (Int.sub c f.c)
  | .eq=>or (leI G (linSub l f.l) (Int.sub c f.c)) (leI G (linAdd l f.l) (Int.add c f.c))
  | .ne=>false
theorem leF_ok {ρ:Rho} {G:PT Iv} (HG:∀ i v,G.get i=some v→v.lo≤ρ.iv i∧ρ.iv i≤v.hi) {l:Lin} {c:Int} {f:Fct} (hf:f.ok ρ) (h:leF G l c f=true):linDen ρ l + c≤0:=by
  unfold leF at h
  unfold Fct.ok at hf
  have e1:Int.sub c f.c=c - f.c:=rfl
  have e2:Int.add c f.c=c + f.c:=rfl
  split at h
  · rename_i hk
    rw [hk] at hf
    have:=leI_ok HG h
    rw [linSub_den] at this; simp only at hf; omega
  · rename_i hk
    rw [hk] at hf; simp only at hf
    simp only [Bool.or_eq_true] at h
    rcases h with h | h
    · have:=leI_ok HG h
      rw [linSub_den] at this; omega
    · have:=leI_ok HG h
      rw [linAdd_den] at this; omega
  · cases h
noncomputable def anyF (p:Fct→Bool) (l:List Fct):Bool:=@List.rec Fct (fun _=>Bool) false (fun f _ ih=>cond (p f) true ih) l
theorem anyF_ok {p:Fct→Bool}:∀ {l:List Fct},anyF p l=true→∃ f ∈ l,p f=true
  | [],h=>by cases h
  | f :: l,h=>by
    have h:cond (p f) true (anyF p l)=true:=h
    cases hp:p f with
    | true=>exact ⟨f,List.mem_cons_self,hp⟩
    | false =>
      rw [hp] at h
      obtain ⟨g,h1,h2⟩:=anyF_ok h
      exact ⟨g,List.mem_cons_of_mem _ h1,h2⟩
noncomputable def leK (K:Kn) (l:Lin) (c:Int):Bool:=cond (leI K.iv l c) true (anyF (leF K.iv l c) K.fs)
theorem leK_ok {ρ:Rho} {K:Kn} (H:KnOk ρ K) {l:Lin} {c:Int} (h:leK K l c=true):linDen ρ l + c≤0:=by
  unfold leK at h
  cases h1:leI K.iv l c with
  | true=>exact leI_ok H.iv h1
  | false =>
    rw [h1] at h
    obtain ⟨f,hf,h2⟩:=anyF_ok h
    exact leF_ok H.iv (H.fs f hf) h2

/-! ## A number as a sum -/
structure LC where
  l:Lin
  c:Int
noncomputable def LC.sub (x y:LC):LC:=⟨linSub x.l y.l,Int.sub x.c y.c⟩
noncomputable def LC.add (x y:LC):LC:=⟨linAdd x.l y.l,Int.add x.c y.c⟩
noncomputable def LC.neg (x:LC):LC:=⟨linMul (-1) x.l,Int.neg x.c⟩
noncomputable def LC.mul (k:Int) (x:LC):LC:=⟨linMul k x.l,Int.mul k x.c⟩
def LC.den (ρ:Rho) (x:LC):Int:=linDen ρ x.l + x.c
theorem LC.sub_den {ρ:Rho} (x y:LC):(x.sub y).den ρ=x.den ρ - y.den ρ:=by
  have:Int.sub x.c y.c=x.c - y.c:=rfl
  simp only [LC.sub,LC.den,linSub_den,this]; omega
theorem LC.add_den {ρ:Rho} (x y:LC):(x.add y).den ρ=x.den ρ + y.den ρ:=by
  have:Int.add x.c y.c=x.c + y.c:=rfl
  simp only [LC.add,LC.den,linAdd_den,this]; omega
theorem LC.neg_den {ρ:Rho} (x:LC):(x.neg).den ρ=-(x.den ρ):=by
  have:Int.neg x.c=-x.c:=rfl
  simp only [LC.neg,LC.den,linMul_den,this]; omega
theorem LC.mul_den {ρ:Rho} (k:Int) (x:LC):(x.mul k).den ρ=k * x.den ρ:=by
  have:Int.mul k x.c=k * x.c:=rfl
  simp only [LC.mul,LC.den,linMul_den,this,Int.mul_add]

noncomputable def atomL (e:IE):LC:=⟨[(e,1)],0⟩
theorem atomL_den {ρ:Rho} (e:IE):(atomL e).den ρ=e.den ρ:=by simp [atomL,LC.den,linDen]

noncomputable def inR (G:PT Iv) (e:IE):Bool:=(ivE G e).isSome
noncomputable def litL (x:LC):Option Int :=
  match x.l with
  | []=>some x.c
  | _=>none

/-- the less of two sums,if it is known which -/
noncomputable def linMn (K:Kn) (e:IE) (x y:LC):LC:=cond (leK K (x.sub y).l (x.sub y).c) x (cond (leK K (y.sub x).l (y.sub x).c) y (atomL e))
noncomputable def linMx (K:Kn) (e:IE) (x y:LC):LC:=cond (leK K (x.sub y).l (x.sub y).c) y (cond (leK K (y.sub x).l (y.sub x).c) x (atomL e))
noncomputable def linMul2 (G:PT Iv) (e:IE) (x y:LC):LC :=
  match litL x,litL y with
  | some n,_=>cond (inR G e) (y.mul n) (atomL e)
  | none,some m=>cond (inR G e) (x.mul m) (atomL e)
  | none,none=>atomL e
noncomputable def linE (K:Kn):IE→LC
  | .lit n=>⟨[],n⟩
  | .bin op k a b=>(match op with
    | .add=>cond (inR K.iv (.bin .add k a b)) ((linE K a).add (linE K b)) (atomL (.bin .add k a b))
    | .sub=>cond (inR K.iv (.bin .sub k a b)) ((linE K a).sub (linE K b)) (atomL (.bin .sub k a b))
    | .mul=>linMul2 K.iv (.bin .mul k a b) (linE K a) (linE K b)
    | op=>atomL (.bin op k a b))
  | .conv k a=>cond (inR K.iv (.conv k a)) (linE K a) (atomL (.conv k a))
  | .mx a b=>linMx K (.mx a b) (linE K a) (linE K b)
  | .mn a b=>linMn K (.mn a b) (linE K a) (linE K b)
  | e=>atomL e

theorem inR_ok {G:PT Iv} {e:IE} (h:inR G e=true):∃ v,ivE G e=some v:=Option.isSome_iff_exists.1 h
theorem inR_bin {ρ : Rho} {G : PT Iv} (HG : ∀ i v, G.get i = some v → v.lo ≤ ρ.iv i ∧ ρ.iv i ≤ v.hi) {k : IntKind} {a b : IE} :
    (inR G (.bin .add k a b)=true→(IE.bin .add k a b).den ρ=a.den ρ + b.den ρ)∧(inR G (.bin .sub k a b)=true→(IE.bin .sub k a b).den ρ=a.den ρ - b.den ρ) ∧
    (inR G (.bin .mul k a b)=true→(IE.bin .mul k a b).den ρ=a.den ρ * b.den ρ)∧(inR G (.conv k a)=true→(IE.conv k a).den ρ=a.den ρ):=by
  refine ⟨fun h=>?_,fun h=>?_,fun h=>?_,fun h=>?_⟩
  · obtain ⟨v,h⟩:=inR_ok h
    simp only [ivE] at h
    split at h
    · rename_i x y hx hy
      have h1:=ivE_ok HG a x hx
      have h2:=ivE_ok HG b y hy
      obtain ⟨rfl,rfl,h3,h4⟩:=ivI_ok h
      have e1:Int.add x.lo y.lo=x.lo + y.lo:=rfl
      have e2:Int.add x.hi y.hi=x.hi + y.hi:=rfl
      simp only [e1,e2] at h3 h4
      simp only [IE.den,binDen]
      rw [i64_in _ (by omega)]
    · cases h
  · obtain ⟨v,h⟩:=inR_ok h
    simp only [ivE] at h
    split at h
    · rename_i x y hx hy
      have h1:=ivE_ok HG a x hx
      have h2:=ivE_ok HG b y hy
      obtain ⟨rfl,rfl,h3,h4⟩:=ivI_ok h
      have e1:Int.sub x.lo y.hi=x.lo - y.hi:=rfl
      have e2:Int.sub x.hi y.lo=x.hi - y.lo:=rfl
      simp only [e1,e2] at h3 h4
      simp only [IE.den,binDen]
      rw [i64_in _ (by omega)]
    · cases h
  · obtain ⟨v,h⟩:=inR_ok h
    simp only [ivE] at h
    split at h
    · rename_i x y hx hy
      have h1:=ivE_ok HG a x hx
      have h2:=ivE_ok HG b y hy
      obtain ⟨rfl,rfl,h3,h4⟩:=ivI_ok h
      have hb:=mul_bounds h1.1 h1.2 h2.1 h2.2
      have e1:(ivMul x y).lo=min (min (x.lo * y.lo) (x.lo * y.hi)) (min (x.hi * y.lo) (x.hi * y.hi)):=by simp only [ivMul,imin_eq]; rfl
      have e2:(ivMul x y).hi=max (max (x.lo * y.lo) (x.lo * y.hi)) (max (x.hi * y.lo) (x.hi * y.hi)):=by simp only [ivMul,imax_eq]; rfl
      rw [e1] at h3; rw [e2] at h4
      simp only [IE.den,binDen]
      rw [i64_in _ ⟨Int.le_trans h3 hb.1,Int.le_trans hb.2 h4⟩]
    · cases h
  · obtain ⟨v,h⟩:=inR_ok h
    simp only [ivE] at h
    split at h
    · rename_i x hx
      have h1:=ivE_ok HG a x hx
      obtain ⟨rfl,rfl,h3,h4⟩:=ivI_ok h
      simp only [IE.den]
      rw [i64_in _ (by omega)]
    · cases h

theorem litL_ok {ρ:Rho} {x:LC} {n:Int} (h:litL x=some n):x.den ρ=n:=by
  unfold litL at h
  split at h
  · rename_i hl; cases h; simp [LC.den,hl,linDen]
  · cases h

theorem linE_ok {ρ:Rho} {K:Kn} (H:KnOk ρ K):∀ e:IE,(linE K e).den ρ=e.den ρ
  | .lit n=>by simp [linE,LC.den,linDen,IE.den]
  | .var i=>by simp only [linE]; exact atomL_den _
  | .app f a b c=>by simp only [linE]; exact atomL_den _
  | .bin op k a b=>by
    have ha:=linE_ok H a
    have hb:=linE_ok H b
    obtain ⟨q1,q2,q3,_⟩:=inR_bin H.iv (k:=k) (a:=a) (b:=b)
    simp only [linE]
    split
    · cases h:inR K.iv (.bin .add k a b) with
      | true=>simp only [cond_true]; rw [LC.add_den,ha,hb,q1 h]
      | false=>exact atomL_den _
    · cases h:inR K.iv (.bin .sub k a b) with
      | true=>simp only [cond_true]; rw [LC.sub_den,ha,hb,q2 h]
      | false=>exact atomL_den _
    · unfold linMul2
      split
      · rename_i x _ hx
        cases h:inR K.iv (.bin .mul k a b) with
        | true=>simp only [cond_true]; rw [LC.mul_den,hb,q3 h,← ha,litL_ok hx]
        | false=>exact atomL_den _
      · rename_i y _ hy
        cases h:inR K.iv (.bin .mul k a b) with
        | true=>simp only [cond_true]; rw [LC.mul_den,ha,q3 h,← hb,litL_ok hy,Int.mul_comm]
        | false=>exact atomL_den _
      · exact atomL_den _
    · exact atomL_den _
  | .conv k a=>by
    have ha:=linE_ok H a
    obtain ⟨_,_,_,q4⟩:=inR_bin H.iv (k:=k) (a:=a) (b:=a)
    simp only [linE]
    cases h:inR K.iv (.conv k a) with
    | true=>simp only [cond_true]; rw [ha,q4 h]
    | false=>exact atomL_den _
  | .mx a b=>by
    have ha:=linE_ok H a
    have hb:=linE_ok H b
    simp only [linE]
    unfold linMx
    generalize linE K a=x at ha
    generalize linE K b=y at hb
    cases h:leK K (x.sub y).l (x.sub y).c with
    | true =>
      have:=leK_ok H h
      have e:=LC.sub_den (ρ:=ρ) x y
      simp only [LC.den] at e ha hb ⊢
      simp only [cond_true,IE.den_mx]; omega
    | false =>
      simp only [cond_false]
      cases h2:leK K (y.sub x).l (y.sub x).c with
      | true =>
        have:=leK_ok H h2
        have e:=LC.sub_den (ρ:=ρ) y x
        simp only [LC.den] at e ha hb ⊢
        simp only [cond_true,IE.den_mx]; omega
      | false=>exact atomL_den _
  | .mn a b=>by
    have ha:=linE_ok H a
    have hb:=linE_ok H b
    simp only [linE]
    unfold linMn
    generalize linE K a=x at ha
    generalize linE K b=y at hb
    cases h:leK K (x.sub y).l (x.sub y).c with
    | true =>
      have:=leK_ok H h
      have e:=LC.sub_den (ρ:=ρ) x y
      simp only [LC.den] at e ha hb ⊢
      simp only [cond_true,IE.den]; split <;> omega
    | false =>
      simp only [cond_false]
      cases h2:leK K (y.sub x).l (y.sub x).c with
      | true =>
        have:=leK_ok H h2
        have e:=LC.sub_den (ρ:=ρ) y x
        simp only [LC.den] at e ha hb ⊢
        simp only [cond_true,IE.den]; split <;> omega
      | false=>exact atomL_den _

/-! ## Truth values -/
noncomputable def leLC (K:Kn) (x:LC):Bool:=leK K x.l x.c
theorem leLC_ok {ρ:Rho} {K:Kn} (H:KnOk ρ K) {x:LC} (h:leLC K x=true):x.den ρ≤0:=leK_ok H h
noncomputable def LC.plus (n:Int) (x:LC):LC:=⟨x.l,Int.add x.c n⟩
theorem LC.plus_den {ρ:Rho} (n:Int) (x:LC):(x.plus n).den ρ=x.den ρ + n:=by
  have:Int.add x.c n=x.c + n:=rfl
  simp only [LC.plus,LC.den,this]; omega

/-- is a sum known to be at most 0? or more? -/
noncomputable def decLe (K:Kn) (d:LC):Option Bool :=
  cond (leLC K d) (some true) (cond (leLC K (d.neg.plus 1)) (some false) none)
theorem decLe_ok {ρ:Rho} {K:Kn} (H:KnOk ρ K) {d:LC} {b:Bool} (h:decLe K d=some b):(d.den ρ≤0 ↔ b=true):=by
  unfold decLe at h
  cases h1:leLC K d with
  | true=>rw [h1] at h; cases h; exact ⟨fun _=>rfl,fun _=>leLC_ok H h1⟩
  | false =>
    rw [h1,cond_false] at h
    obtain ⟨h2,h3⟩:=cond_some h
    cases h3
    have:=leLC_ok H h2
    rw [LC.plus_den,LC.neg_den] at this
    constructor
    · intro; omega
    · intro h; cases h

noncomputable def neF (d:LC) (f:Fct):Bool :=
  match f.k with
  | .ne=>or (cond (isNil (linSub d.l f.l)) (ieq d.c f.c) false) (cond (isNil (linAdd d.l f.l)) (ieq (Int.add d.c f.c) 0) false)
  | _=>false
where isNil (l:Lin):Bool:=match l with
  | []=>true
  | _=>false
theorem neF_ok {ρ:Rho} {d:LC} {f:Fct} (hf:f.ok ρ) (h:neF d f=true):d.den ρ ≠ 0:=by
  unfold neF at h
  unfold Fct.ok at hf
  split at h
  · rename_i hk
    rw [hk] at hf; simp only at hf
    simp only [Bool.or_eq_true] at h
    have nl:∀ l:Lin,neF.isNil l=true→l=[]:=fun l h=>by cases l with
      | nil=>rfl
      | cons=>cases h
    rcases h with h | h
    · cases h1:neF.isNil (linSub d.l f.l) with
      | false=>rw [h1] at h; cases h
      | true =>
        rw [h1,cond_true] at h
        have h2:=linSub_den (ρ:=ρ) d.l f.l
        rw [nl _ h1] at h2
        have h3:=ieq_t h
        simp only [linDen] at h2
        simp only [LC.den]; omega
    · cases h1:neF.isNil (linAdd d.l f.l) with
      | false=>rw [h1] at h; cases h
      | true =>
        rw [h1,cond_true] at h
        have h2:=linAdd_den (ρ:=ρ) d.l f.l
        rw [nl _ h1] at h2
        have h3:d.c + f.c=0:=ieq_t h
        simp only [linDen] at h2
        simp only [LC.den]; omega
  · cases h

/-- is a sum known to be 0? or not? -/
noncomputable def decEq0 (K:Kn) (d:LC):Option Bool :=
  cond (leLC K d)
    (cond (leLC K d.neg) (some true) (cond (leLC K (d.plus 1)) (some false) (cond (anyF (neF d) K.fs) (some false) none)))
    (cond (leLC K (d.neg.plus 1)) (some false) (cond (anyF (neF d) K.fs) (some false) none))
theorem decEq0_ok {ρ:Rho} {K:Kn} (H:KnOk ρ K) {d:LC} {b:Bool} (h:decEq0 K d=some b):(d.den ρ=0 ↔ b=true):=by
  unfold decEq0 at h
  have ne:anyF (neF d) K.fs=true→d.den ρ ≠ 0:=fun h=>by
    obtain ⟨f,hf,h2⟩:=anyF_ok h
    exact neF_ok (H.fs f hf) h2
  have fal:d.den ρ ≠ 0→(d.den ρ=0 ↔ false=true):=fun h=>⟨fun e=>(h e).elim,fun e=>by cases e⟩
  cases h1:leLC K d with
  | true =>
    rw [h1,cond_true] at h
    have a1:=leLC_ok H h1
    cases h2:leLC K d.neg with
    | true =>
      rw [h2,cond_true] at h; cases h
      have a2:=leLC_ok H h2
      rw [LC.neg_den] at a2
      exact ⟨fun _=>rfl,fun _=>by omega⟩
    | false =>
      rw [h2,cond_false] at h
      cases h3:leLC K (d.plus 1) with
      | true =>
        rw [h3,cond_true] at h; cases h
        have a2:=leLC_ok H h3
        rw [LC.plus_den] at a2
        exact fal (by omega)
      | false =>
        rw [h3,cond_false] at h
        obtain ⟨h4,h5⟩:=cond_some h
        cases h5
        exact fal (ne h4)
  | false =>
    rw [h1,cond_false] at h
    cases h3:leLC K (d.neg.plus 1) with
    | true =>
      rw [h3,cond_true] at h; cases h
      have a2:=leLC_ok H h3
      rw [LC.plus_den,LC.neg_den] at a2
      exact fal (by omega)
    | false =>
      rw [h3,cond_false] at h
      obtain ⟨h4,h5⟩:=cond_some h
      cases h5
      exact fal (ne h4)

noncomputable def optNot (o:Option Bool):Option Bool :=
  match o with
  | some b=>some (Bool.not b)
  | none=>none
theorem optNot_some {o:Option Bool} {b:Bool} (h:optNot o=some b):o=some (!b):=by
  cases o with
  | none=>cases h
  | some x=>simp only [optNot,Option.some.injEq] at h; subst h; simp

noncomputable def decC (K:Kn) (op:BinOp) (x y:IE):Option Bool :=
  match op with
  | .leq=>decLe K ((linE K x).sub (linE K y))
  | .lss=>decLe K (((linE K x).sub (linE K y)).plus 1)
  | .geq=>decLe K ((linE K y).sub (linE K x))
  | .gtr=>decLe K (((linE K y).sub (linE K x)).plus 1)
  | .eql=>decEq0 K ((linE K x).sub (linE K y))
  | .neq=>optNot (decEq0 K ((linE K x).sub (linE K y)))
  | _=>none
theorem bool_of_iff {p:Prop} [Decidable p] {b:Bool} (h:p ↔ b=true):decide p=b:=by
  cases b with
  | true=>exact decide_eq_true (h.2 rfl)
  | false=>exact decide_eq_false fun e=>by have:=h.1 e; cases this
theorem decC_ok {ρ:Rho} {K:Kn} (H:KnOk ρ K) {op:BinOp} {x y:IE} {b:Bool} (h:decC K op x y=some b):cmpDen op (x.den ρ) (y.den ρ)=b:=by
  have hx:=linE_ok H x
  have hy:=linE_ok H y
  unfold decC at h
  split at h
  · have:=decLe_ok H h
    rw [LC.sub_den,hx,hy] at this
    exact bool_of_iff ⟨fun e=>this.1 (by omega),fun e=>by have:=this.2 e; omega⟩
  · have:=decLe_ok H h
    rw [LC.plus_den,LC.sub_den,hx,hy] at this
    exact bool_of_iff ⟨fun e=>this.1 (by omega),fun e=>by have:=this.2 e; omega⟩
  · have:=decLe_ok H h
    rw [LC.sub_den,hx,hy] at this
    exact bool_of_iff ⟨fun e=>this.1 (by omega),fun e=>by have:=this.2 e; omega⟩
  · have:=decLe_ok H h
    rw [LC.plus_den,LC.sub_den,hx,hy] at this
    exact bool_of_iff ⟨fun e=>this.1 (by omega),fun e=>by have:=this.2 e; omega⟩
  · have:=decEq0_ok H h
    rw [LC.sub_den,hx,hy] at this
    have h2:=bool_of_iff (p:=x.den ρ=y.den ρ) (b:=b) ⟨fun e=>this.1 (by omega),fun e=>by have:=this.2 e; omega⟩
    simp only [cmpDen]
    rw [← h2]
    by_cases e:x.den ρ=y.den ρ <;> simp [e]
  · have h:=optNot_some h
    have:=decEq0_ok H h
    rw [LC.sub_den,hx,hy] at this
    have h2:=bool_of_iff (p:=x.den ρ=y.den ρ) (b:=!b) ⟨fun e=>this.1 (by omega),fun e=>by have:=this.2 e; omega⟩
    simp only [cmpDen]
    have h3:b=!(decide (x.den ρ=y.den ρ)):=by rw [h2]; simp
    rw [h3]
    by_cases e:x.den ρ=y.den ρ <;> simp [e,bne]
  · cases h

/-- is it known whether a condition holds? -/
noncomputable def decK (K:Kn):BE→Option Bool
  | .lit b=>some b
  | .not a=>optNot (decK K a)
  | .and a b=>(match decK K a with
    | some false=>some false
    | some true=>decK K b
    | none=>(match decK K b with
      | some false=>some false
      | _=>findA (.and a b) K.bs))
  | .cmp op x y=>decC K op x y
  | .iff a b=>(match decK K a,decK K b with
    | some x,some y=>some (x == y)
    | _,_=>findA (.iff a b) K.bs)
  | .var i=>findA (.var i) K.bs
  | .app f a b c=>findA (.app f a b c) K.bs
theorem decK_ok {ρ:Rho} {K:Kn} (H:KnOk ρ K):∀ (c:BE) (b:Bool),decK K c=some b→c.den ρ=b
  | .lit x,b,h=>by simp only [decK,Option.some.injEq] at h; exact h
  | .var i,b,h=>by simp only [decK] at h; exact findA_ok H.bs h
  | .app f x y z,b,h=>by simp only [decK] at h; exact findA_ok H.bs h
  | .iff x y,b,h=>by
    simp only [decK] at h
    split at h
    · rename_i p q hp hq
      cases h
      simp only [BE.den,decK_ok H x p hp,decK_ok H y q hq]
    · exact findA_ok H.bs h
  | .not a,b,h=>by
    simp only [decK] at h
    have h:=optNot_some h
    simp only [BE.den,decK_ok H a _ h,Bool.not_not]
  | .and a c,b,h=>by
    simp only [decK] at h
    split at h
    · rename_i hx; cases h; simp only [BE.den,decK_ok H a false hx,Bool.false_and]
    · rename_i hx; simp only [BE.den,decK_ok H a true hx,decK_ok H c b h,Bool.true_and]
    · split at h
      · rename_i hy; cases h; simp only [BE.den,decK_ok H c false hy,Bool.and_false]
      · exact findA_ok H.bs h
  | .cmp o x y,b,h=>by simp only [decK] at h; exact decC_ok H h

noncomputable def Kn.fact (K:Kn) (k:Fk) (x:LC):Kn:=⟨K.iv,⟨k,x.l,x.c⟩ :: K.fs,K.bs⟩
noncomputable def Kn.bool (K:Kn) (c:BE) (b:Bool):Kn:=⟨K.iv,K.fs,⟨c,b⟩ :: K.bs⟩
theorem KnOk.fact {ρ:Rho} {K:Kn} (H:KnOk ρ K) {k:Fk} {x:LC} (h:(⟨k,x.l,x.c⟩:Fct).ok ρ):KnOk ρ (K.fact k x) :=
  ⟨H.iv,fun f hf=>(List.mem_cons.1 hf).elim (fun e=>e ▸ h) (fun hf=>H.fs f hf),H.bs⟩
theorem KnOk.bool {ρ:Rho} {K:Kn} (H:KnOk ρ K) {c:BE} {b:Bool} (h:c.den ρ=b):KnOk ρ (K.bool c b) :=
  ⟨H.iv,H.fs,fun a ha=>(List.mem_cons.1 ha).elim (fun e=>by rw [e]; exact h) (fun ha=>H.bs a ha)⟩

noncomputable def addC (K:Kn) (b:Bool) (op:BinOp) (x y:IE):Kn :=
  match op with
  | .leq=>K.fact .le (cond b ((linE K x).sub (linE K y)) (((linE K y).sub (linE K x)).plus 1))
  | .lss=>K.fact .le (cond b (((linE K x).sub (linE K y)).plus 1) ((linE K y).sub (linE K x)))
  | .geq=>K.fact .le (cond b ((linE K y).sub (linE K x)) (((linE K x).sub (linE K y)).plus 1))
  | .gtr=>K.fact .le (cond b (((linE K y).sub (linE K x)).plus 1) ((linE K x).sub (linE K y)))
  | .eql=>K.fact (cond b .eq .ne) ((linE K x).sub (linE K y))
  | .neq=>K.fact (cond b .ne .eq) ((linE K x).sub (linE K y))
  | _=>K
theorem addC_ok {ρ:Rho} {K:Kn} (H:KnOk ρ K) {b:Bool} {op:BinOp} {x y:IE} (h:cmpDen op (x.den ρ) (y.den ρ)=b):KnOk ρ (addC K b op x y):=by
  have hx:=linE_ok H x
  have hy:=linE_ok H y
  have e1:=LC.sub_den (ρ:=ρ) (linE K x) (linE K y)
  have e2:=LC.sub_den (ρ:=ρ) (linE K y) (linE K x)
  have e3:=LC.plus_den (ρ:=ρ) 1 ((linE K x).sub (linE K y))
  have e4:=LC.plus_den (ρ:=ρ) 1 ((linE K y).sub (linE K x))
  rw [hx,hy] at e1 e2
  unfold LC.den at e1 e2 e3 e4
  unfold addC
  split
  · refine H.fact ?_
    simp only [cmpDen] at h
    cases b with
    | true=>have:=of_decide_eq_true h; simp only [Fct.ok,cond_true]; omega
    | false=>have:=of_decide_eq_false h; simp only [Fct.ok,cond_false]; omega
  · refine H.fact ?_
    simp only [cmpDen] at h
    cases b with
    | true=>have:=of_decide_eq_true h; simp only [Fct.ok,cond_true]; omega
    | false=>have:=of_decide_eq_false h; simp only [Fct.ok,cond_false]; omega
  · refine H.fact ?_
    simp only [cmpDen] at h
    cases b with
    | true=>have:=of_decide_eq_true h; simp only [Fct.ok,cond_true]; omega
    | false=>have:=of_decide_eq_false h; simp only [Fct.ok,cond_false]; omega
  · refine H.fact ?_
    simp only [cmpDen] at h
    cases b with
    | true=>have:=of_decide_eq_true h; simp only [Fct.ok,cond_true]; omega
    | false=>have:=of_decide_eq_false h; simp only [Fct.ok,cond_false]; omega
  · refine H.fact ?_
    simp only [cmpDen] at h
    cases b with
    | true => have : x.den ρ = y.den ρ := by simpa using h
              simp only [Fct.ok,cond_true]; omega
    | false => have : x.den ρ ≠ y.den ρ := by simpa using h
               simp only [Fct.ok,cond_false]; omega
  · refine H.fact ?_
    simp only [cmpDen] at h
    cases b with
    | true => have : x.den ρ ≠ y.den ρ := by simpa using h
              simp only [Fct.ok,cond_true]; omega
    | false => have : x.den ρ = y.den ρ := by simpa using h
               simp only [Fct.ok,cond_false]; omega
  · exact H

/-- a condition,taken apart,that is known from now on -/
noncomputable def addK (b:Bool):BE→Kn→Kn
  | .lit _,K=>K
  | .not a,K=>addK (Bool.not b) a K
  | .and x y,K=>cond b (addK b x (addK b y K)) (match decK K x with
    | some true=>addK false y K
    | _=>(match decK K y with
      | some true=>addK false x K
      | _=>K.bool (.and x y) b))
  | .cmp op x y,K=>addC K b op x y
  | c,K=>K.bool c b
theorem addK_ok {ρ:Rho}:∀ (c:BE) (b:Bool) (K:Kn),KnOk ρ K→c.den ρ=b→KnOk ρ (addK b c K)
  | .lit _,b,K,H,_=>H
  | .not a,b,K,H,h=>by
    simp only [addK]
    refine addK_ok a _ K H ?_
    simp only [BE.den] at h
    rw [← h,Bool.not_not]
  | .and x y,b,K,H,h=>by
    simp only [addK]
    cases b with
    | true =>
      simp only [BE.den,Bool.and_eq_true] at h
      exact addK_ok x true _ (addK_ok y true K H h.2) h.1
    | false =>
      simp only [cond_false]
      split
      · rename_i hx
        have:=decK_ok H x true hx
        simp only [BE.den,this,Bool.true_and] at h
        exact addK_ok y false K H h
      · split
        · rename_i hy
          have:=decK_ok H y true hy
          simp only [BE.den,this,Bool.and_true] at h
          exact addK_ok x false K H h
        · exact H.bool h
  | .var i,b,K,H,h=>H.bool h
  | .app f x y z,b,K,H,h=>H.bool h
  | .iff x y,b,K,H,h=>H.bool h
  | .cmp op x y,b,K,H,h=>addC_ok H h

noncomputable def addAllK:List BE→Kn→Kn
  | [],K=>K
  | c :: cs,K=>addK true c (addAllK cs K)
theorem addAllK_ok {ρ:Rho}:∀ (cs:List BE) (K:Kn),KnOk ρ K→(∀ c ∈ cs,c.den ρ=true)→KnOk ρ (addAllK cs K)
  | [],_,H,_=>H
  | c :: cs,K,H,h=>addK_ok c true _ (addAllK_ok cs K H fun d hd=>h d (List.mem_cons_of_mem _ hd)) (h c List.mem_cons_self)

/-- bounds of variables,as conditions,and as they are known -/
noncomputable def ivC:List (Nat × Int × Int)→List BE
  | []=>[]
  | q :: l=>.cmp .leq (.lit q.2.1) (.var q.1) :: .cmp .leq (.var q.1) (.lit q.2.2) :: ivC l
noncomputable def ivT:List (Nat × Int × Int)→PT Iv
  | []=>.nil
  | q :: l=>(ivT l).set q.1 ⟨q.2.1,q.2.2⟩
noncomputable def knOf (q:List (Nat × Int × Int)) (cs:List BE):Kn:=addAllK cs ⟨ivT q,[],[]⟩
theorem ivT_ok {ρ:Rho}:∀ (q:List (Nat × Int × Int)),(∀ c ∈ ivC q,c.den ρ=true)→∀ i v,(ivT q).get i=some v→v.lo≤ρ.iv i∧ρ.iv i≤v.hi
  | [],_,i,v,h=>by rw [ivT,PT.get_nil] at h; cases h
  | q :: l,H,i,v,h=>by
    rw [ivT,PT.get_set] at h
    by_cases c:i=q.1
    · rw [if_pos c] at h; cases h; subst c
      have h1:=H _ List.mem_cons_self
      have h2:=H _ (List.mem_cons_of_mem _ List.mem_cons_self)
      exact ⟨of_decide_eq_true h1,of_decide_eq_true h2⟩
    · rw [if_neg c] at h
      exact ivT_ok l (fun c hc=>H c (List.mem_cons_of_mem _ (List.mem_cons_of_mem _ hc))) i v h
theorem knOf_ok {ρ:Rho} {q:List (Nat × Int × Int)} {cs:List BE} (h1:∀ c ∈ ivC q,c.den ρ=true) (h2:∀ c ∈ cs,c.den ρ=true):KnOk ρ (knOf q cs) :=
  addAllK_ok cs _ ⟨ivT_ok q h1,fun _ hf=>(List.not_mem_nil hf).elim,fun _ ha=>(List.not_mem_nil ha).elim⟩ h2

/-! ## Trees -/
/-- does each way of a tree that can be end so? -/
noncomputable def allK {α:Type} (Q:Kn→α→Bool) (t:T α):Kn→Bool :=
  @T.rec α (fun _=>Kn→Bool) (fun a K=>Q K a)
    (fun c _ _ ih1 ih2 K=>match decK K c with
      | some b=>cond b (ih1 K) (ih2 K)
      | none=>and (ih1 (addK true c K)) (ih2 (addK false c K)))
    (fun _ _=>false) t
theorem allK_ok {α:Type} {ρ:Rho} {Q:Kn→α→Bool} {P:α→Prop} (hQ:∀ K a,KnOk ρ K→Q K a=true→P a):∀ (t:T α) (K:Kn),KnOk ρ K→allK Q t K=true→t.Holds ρ P
  | .ret a,K,H,h=>hQ K a H h
  | .fail w,K,H,h=>by cases h
  | .br c x y,K,H,h=>by
    have h:(match decK K c with
      | some b=>cond b (allK Q x K) (allK Q y K)
      | none=>and (allK Q x (addK true c K)) (allK Q y (addK false c K)))=true:=h
    simp only [T.Holds]
    split at h
    · rename_i b hb
      have hc:=decK_ok H c b hb
      cases b with
      | true=>rw [hc,if_pos rfl]; exact allK_ok hQ x K H h
      | false=>rw [hc,if_neg (by simp)]; exact allK_ok hQ y K H h
    · simp only [Bool.and_eq_true] at h
      cases hc:c.den ρ with
      | true=>rw [if_pos rfl]; exact allK_ok hQ x _ (addK_ok c true K H hc) h.1
      | false=>rw [if_neg (by simp)]; exact allK_ok hQ y _ (addK_ok c false K H hc) h.2
noncomputable def isTrueK (K:Kn) (r:AV × Heap):Bool :=
  match r.1 with
  | .bool b=>(match decK K b with
    | some b=>b
    | none=>false)
  | _=>false
end Go.Sx
/-! WHAT A ROUND LEAVES,as values: its kind of end,and some slots and blocks. -/
namespace Go.Sx
open Go.RowKit

noncomputable def tagE (x:Ex):Nat :=
  match x with
  | .norm=>0
  | .ret=>1
  | .exit id=>id + 2
noncomputable def optA (v:Option AV):AV :=
  match v with
  | some v=>.tup [v]
  | none=>.tup []
noncomputable def blkA (o:Option AObj):AV :=
  match o with
  | some (.cells cs el own ext)=>.tup [.tup cs,li el,.bool (.lit own),.bool (.lit ext)]
  | _=>.nilptr
noncomputable def dfA (l:List Nat):AV :=
  match l with
  | []=>.nilslice
  | _=>.nilmap
noncomputable def extr (ids bs:List Nat) (r:Ex × St):AV :=
  .tup (li (tagE r.1) :: dfA r.2.df :: (lMap (fun i=>optA (r.2.tm.tree.get i)) ids ++ lMap (fun b=>blkA (r.2.h.get b)) bs))

theorem tagE_inj {x y:Ex} (h:tagE x=tagE y):x=y:=by
  cases x <;> cases y <;> simp only [tagE] at h <;> first | rfl | omega | (congr 1; omega)
theorem optA_some {v:Option AV} {a:AV} (h:optA v=.tup [a]):v=some a:=by
  cases v with
  | none=>simp [optA] at h
  | some b=>simp only [optA,AV.tup.injEq,List.cons.injEq,and_true] at h; rw [h]
theorem dfA_nil {l:List Nat} (h:dfA l=.nilslice):l=[]:=by
  cases l with
  | nil=>rfl
  | cons a l=>simp [dfA] at h
theorem blkA_some {o:Option AObj} {cs:List AV} {el:TypeId} {own ext:Bool} (h:blkA o=.tup [.tup cs,li el,.bool (.lit own),.bool (.lit ext)]):o=some (.cells cs el own ext):=by
  unfold blkA at h
  split at h
  · simp only [AV.tup.injEq,List.cons.injEq,li,AV.int.injEq,IE.lit.injEq,AV.bool.injEq,BE.lit.injEq,and_true,true_and] at h
    obtain ⟨h1,h2,h3,h4⟩:=h
    have h2:=Int.ofNat_inj.1 h2
    rw [h1,h2,h3,h4]
  · cases h

/-- a tree's ends,as values -/
noncomputable def extT (ids bs:List Nat) (t:T (Ex × St)):T AV:=t.bind fun r=>.ret (extr ids bs r)
theorem extT_holds {ρ:Rho} {ids bs:List Nat} {t:T (Ex × St)} {P:AV→Prop} (h:(extT ids bs t).Holds ρ P):t.Holds ρ fun r=>P (extr ids bs r):=T.holds_bind.1 h

end Go.Sx
/-! CALLS,AS THEY ARE SAID,held against their run under linear facts: values alike,not the same text. -/
namespace Go.Sx
open Go.RowKit

/-- alike,in whatever state with these numbers -/
def SameE (ρ:Rho) (a b:AV):Prop:=∀ E:Env,E.ρ=ρ→conc E a=conc E b
def SameEs (ρ:Rho) (a b:List AV):Prop:=∀ E:Env,E.ρ=ρ→concL E a=concL E b
mutual
noncomputable def eqS (K:Kn):AV→AV→Bool
  | .bool a,.bool b=>(match decK K a,decK K b with
    | some x,some y=>x == y
    | _,_=>eqBE a b)
  | .int k a,.int k' b=>and (kindEq k k') (cond (eqIE a b) true (match decEq0 K ((linE K a).sub (linE K b)) with
    | some x=>x
    | none=>false))
  | .agg x,.agg y=>eqSs K x y
  | .tup x,.tup y=>eqSs K x y
  | a,b=>eqAV a b
noncomputable def eqSs (K:Kn):List AV→List AV→Bool
  | [],[]=>true
  | a :: l,b :: m=>cond (eqS K a b) (eqSs K l m) false
  | _,_=>false
end
mutual
theorem eqS_ok {ρ:Rho} {K:Kn} (H:KnOk ρ K):∀ (a b:AV),eqS K a b=true→SameE ρ a b:=by
  intro a b h
  unfold eqS at h
  split at h
  · rename_i a b
    split at h
    · rename_i x y hx hy
      have h1:=decK_ok H a x hx
      have h2:=decK_ok H b y hy
      intro E hE
      simp only [conc,hE,h1,h2]
      rw [beq_iff_eq.1 h]
    · rw [eqBE_eq _ _ h]; intro E _; rfl
  · rename_i k a k' b
    simp only [Bool.and_eq_true] at h
    obtain ⟨hk,h⟩:=h
    have hk:=kindEq_eq hk
    subst hk
    cases he:eqIE a b with
    | true=>rw [eqIE_eq _ _ he]; intro E _; rfl
    | false =>
      rw [he,cond_false] at h
      split at h
      · rename_i x hx
        subst h
        have h1:=(decEq0_ok H hx).2 rfl
        rw [LC.sub_den,linE_ok H a,linE_ok H b] at h1
        intro E hE
        simp only [conc,hE]
        rw [show a.den ρ=b.den ρ by omega]
      · cases h
  · rename_i x y
    have:=eqSs_ok H x y h
    intro E hE
    simp only [conc,this E hE]
  · rename_i x y
    have:=eqSs_ok H x y h
    intro E hE
    simp only [conc,this E hE]
  · rw [eqAV_eq _ _ h]; intro E _; rfl
theorem eqSs_ok {ρ:Rho} {K:Kn} (H:KnOk ρ K):∀ (a b:List AV),eqSs K a b=true→SameEs ρ a b
  | [],[],_=>fun _ _=>rfl
  | [],_ :: _,h=>by simp [eqSs] at h
  | _ :: _,[],h=>by simp [eqSs] at h
  | a :: l,b :: m,h=>by
    simp only [eqSs] at h
    cases hab:eqS K a b with
    | false=>rw [hab] at h; cases h
    | true =>
      rw [hab,cond_true] at h
      have h1:=eqS_ok H a b hab
      have h2:=eqSs_ok H l m h
      intro E hE
      simp only [concL,h1 E hE,h2 E hE]
end

/-- a value,and the said tree -/
noncomputable def matchU (a:AV) (u:T AV):Kn→Bool :=
  @T.rec AV (fun _=>Kn→Bool) (fun b K=>and (eqS K a b) (pureAV b))
    (fun c _ _ ih1 ih2 K=>match decK K c with
      | some b=>cond b (ih1 K) (ih2 K)
      | none=>and (ih1 (addK true c K)) (ih2 (addK false c K)))
    (fun _ _=>true) u
theorem matchU_ok {ρ:Rho} {a:AV} {P:AV→Prop}:∀ (u:T AV) (K:Kn),KnOk ρ K→matchU a u K=true→u.Holds ρ P→∃ b,P b∧pureAV b=true∧SameE ρ a b
  | .ret b,K,H,h,hu=>by
    have h:and (eqS K a b) (pureAV b)=true:=h
    simp only [Bool.and_eq_true] at h
    exact ⟨b,hu,h.2,eqS_ok H a b h.1⟩
  | .fail w,K,H,h,hu=>hu.elim
  | .br c x y,K,H,h,hu=>by
    have h:(match decK K c with
      | some b=>cond b (matchU a x K) (matchU a y K)
      | none=>and (matchU a x (addK true c K)) (matchU a y (addK false c K)))=true:=h
    simp only [T.Holds] at hu
    split at h
    · rename_i b hb
      have hc:=decK_ok H c b hb
      cases b with
      | true=>rw [hc,if_pos rfl] at hu; exact matchU_ok x K H h hu
      | false=>rw [hc,if_neg (by simp)] at hu; exact matchU_ok y K H h hu
    · simp only [Bool.and_eq_true] at h
      cases hc:c.den ρ with
      | true=>rw [hc,if_pos rfl] at hu; exact matchU_ok x _ (addK_ok c true K H hc) h.1 hu
      | false=>rw [hc,if_neg (by simp)] at hu; exact matchU_ok y _ (addK_ok c false K H hc) h.2 hu
/-- the said tree ends nowhere -/
noncomputable def deadU (u:T AV):Kn→Bool :=
  @T.rec AV (fun _=>Kn→Bool) (fun _ _=>false)
    (fun c _ _ ih1 ih2 K=>match decK K c with
      | some b=>cond b (ih1 K) (ih2 K)
      | none=>and (ih1 (addK true c K)) (ih2 (addK false c K)))
    (fun _ _=>true) u
theorem deadU_ok {ρ:Rho} {P:AV→Prop}:∀ (u:T AV) (K:Kn),KnOk ρ K→deadU u K=true→u.Holds ρ P→False
  | .ret b,K,H,h,hu=>by cases h
  | .fail w,K,H,h,hu=>hu
  | .br c x y,K,H,h,hu=>by
    have h:(match decK K c with
      | some b=>cond b (deadU x K) (deadU y K)
      | none=>and (deadU x (addK true c K)) (deadU y (addK false c K)))=true:=h
    simp only [T.Holds] at hu
    split at h
    · rename_i b hb
      have hc:=decK_ok H c b hb
      cases b with
      | true=>rw [hc,if_pos rfl] at hu; exact deadU_ok x K H h hu
      | false=>rw [hc,if_neg (by simp)] at hu; exact deadU_ok y K H h hu
    · simp only [Bool.and_eq_true] at h
      cases hc:c.den ρ with
      | true=>rw [hc,if_pos rfl] at hu; exact deadU_ok x _ (addK_ok c true K H hc) h.1 hu
      | false=>rw [hc,if_neg (by simp)] at hu; exact deadU_ok y _ (addK_ok c false K H hc) h.2 hu

/-! ## Rules: what follows from some conditions -/
abbrev Rules:=List (List BE × BE)
def RulesOk (ρ:Rho) (R:Rules):Prop:=∀ r ∈ R,(∀ p ∈ r.1,p.den ρ=true)→r.2.den ρ=true
noncomputable def allT (K:Kn) (l:List BE):Bool:=lAll (fun c=>match decK K c with
  | some b=>b
  | none=>false) l
noncomputable def fires (R:Rules) (K:Kn) (c:BE):Bool :=
  @List.rec (List BE × BE) (fun _=>Bool) false (fun r _ ih=>cond (eqBE r.2 c) (cond (allT K r.1) true ih) ih) R
theorem fires_ok {ρ:Rho} {K:Kn} (H:KnOk ρ K) {c:BE}:∀ {R:Rules},RulesOk ρ R→fires R K c=true→c.den ρ=true
  | [],_,h=>by cases h
  | r :: R,HR,h=>by
    have h:cond (eqBE r.2 c) (cond (allT K r.1) true (fires R K c)) (fires R K c)=true:=h
    have ih:=fires_ok H (R:=R) (fun r hr=>HR r (List.mem_cons_of_mem _ hr)) (c:=c)
    cases he:eqBE r.2 c with
    | false=>rw [he] at h; exact ih h
    | true =>
      rw [he,cond_true] at h
      cases ha:allT K r.1 with
      | false=>rw [ha] at h; exact ih h
      | true =>
        rw [← eqBE_eq _ _ he]
        refine HR r List.mem_cons_self fun p hp=>?_
        have:=lAll_mem' ha p hp
        split at this
        · rename_i b hb; subst this; exact decK_ok H p _ hb
        · cases this
noncomputable def decW (R:Rules) (K:Kn) (c:BE):Option Bool :=
  match decK K c with
  | some b=>some b
  | none=>cond (fires R K c) (some true) none
theorem decW_ok {ρ:Rho} {R:Rules} {K:Kn} (HR:RulesOk ρ R) (H:KnOk ρ K) {c:BE} {b:Bool} (h:decW R K c=some b):c.den ρ=b:=by
  unfold decW at h
  split at h
  · rename_i x hx; cases h; exact decK_ok H c _ hx
  · obtain ⟨h1,h2⟩:=cond_some h
    cases h2
    exact fires_ok H HR h1
/-- one tree serves for another one,under what is known and some rules -/
noncomputable def servesW (R:Rules) (u t:T AV):Kn→Bool :=
  @T.rec AV (fun _=>Kn→Bool) (fun a K=>matchU a u K)
    (fun c _ _ ih1 ih2 K=>match decW R K c with
      | some b=>cond b (ih1 K) (ih2 K)
      | none=>and (ih1 (addK true c K)) (ih2 (addK false c K)))
    (fun _ K=>deadU u K) t
theorem servesW_ok {ρ:Rho} {R:Rules} (HR:RulesOk ρ R) {P:AV→Prop} {u:T AV} (hu:u.Holds ρ P):∀ (t:T AV) (K:Kn),KnOk ρ K→servesW R u t K=true→t.Holds ρ fun a=>∃ b,P b∧pureAV b=true∧SameE ρ a b
  | .ret a,K,H,h=>matchU_ok u K H h hu
  | .fail w,K,H,h=>(deadU_ok u K H h hu).elim
  | .br c x y,K,H,h=>by
    have h:(match decW R K c with
      | some b=>cond b (servesW R u x K) (servesW R u y K)
      | none=>and (servesW R u x (addK true c K)) (servesW R u y (addK false c K)))=true:=h
    simp only [T.Holds]
    split at h
    · rename_i b hb
      have hc:=decW_ok HR H hb
      cases b with
      | true=>rw [hc,if_pos rfl]; exact servesW_ok HR hu x K H h
      | false=>rw [hc,if_neg (by simp)]; exact servesW_ok HR hu y K H h
    · simp only [Bool.and_eq_true] at h
      cases hc:c.den ρ with
      | true=>rw [if_pos rfl]; exact servesW_ok HR hu x _ (addK_ok c true K H hc) h.1
      | false=>rw [if_neg (by simp)]; exact servesW_ok HR hu y _ (addK_ok c false K H hc) h.2

/-- a call as it is said: bounds of its variables,and other conditions -/
noncomputable def mkC (f:Nat) (args:List AV) (view:List (Nat × List AV)) (q:List (Nat × Int × Int)) (cs:List BE) (u:T AV):CSpec:=⟨f,args,view,2000,ivC q ++ cs,u⟩
noncomputable def CSpec.chkK (c:CSpec) (R:Rules) (q:List (Nat × Int × Int)) (cs:List BE) (run:T (AV × Heap)):Bool :=
  servesW R c.u (run.bind fun r=>.ret r.1) (knOf q cs)

/-- a call as it is said,whatever shows it -/
theorem CSpec.okS {p0 p : Par} {c : CSpec} {run : T (AV × Heap)} (hc : CallOk p0 c.f c.args (viewHeap c.nv c.view) run)
    (hS:∀ ρ,(∀ d ∈ c.cs,d.den ρ=true)→∀ P:AV→Prop,c.u.Holds ρ P→(run.bind fun r=>.ret r.1).Holds ρ fun a=>∃ b,P b∧pureAV b=true∧SameE ρ a b) (hnv:1000≤c.nv) {args:List AV} {h:Heap} {t:T (AV × Heap)} (ho:c.orc args h=some t) (hP:p0.P=p.P:=by rfl) (hfree:∀ ρ m,p0.ok ρ m:=by exact fun _ _=>trivial):CallOk p c.f args h t:=by
  unfold CSpec.orc at ho
  split at ho
  · cases ho
  · rename_i B0 h0
    split at ho
    · cases ho
    · rename_i B hB
      split at ho
      · rename_i cs u hcs hu
        cases ho
        intro vs E w0 w Q K k HH ha P
        obtain ⟨hdom,hret⟩:=brAll_holds k
        rw [T.holds_bind] at hret
        obtain ⟨a1,a2,a3⟩:=bdL_ok _ _ _ _ h0
        obtain ⟨c1,c2,c3⟩:=bdVw_ok _ _ _ hB
        have G0:GoodD E B0:=a2 E vs ha (fun j v h=>by cases h)
        have G:GoodD E B:=c2 HH G0
        have R:RelD c.nv E (envD c.nv E B) B:=envD_rel HH.glob G
        have hargs:concL (envD c.nv E B) c.args=some vs:=a3 E (envD c.nv E B) vs (R.sub c1) ha
        have hdom':∀ d ∈ c.cs,d.den (rhoD E B)=true:=fun d hd=>by
          obtain ⟨d',h1,h2⟩:=sBs_ok _ _ hcs d hd
          have:=sB_ok R rfl rfl d d' h2
          rw [hdom d' h1] at this
          exact this.symm
        have hV:=c3 R rfl rfl HH
        have hview:∀ g ∈ c.view,ViewIn w (envD c.nv E B) g:=fun g hg=>by
          have hm:(⟨g.1,none,g.2,g.2,g.2,none⟩:VS) ∈ c.vs:=List.mem_map.2 ⟨g,hg,rfl⟩
          obtain ⟨c',base,vs',cells,el,fz,k1,k2,k3,k4,k5⟩:=(hV _ hm).obj
          exact ⟨c',base,vs',cells,el,fz,k1,k2,k3,k4⟩
        have HS:HeapOk p0 (envD c.nv E B) (viewHeap c.nv c.view) (Base.of w) w:=view_ok hview
          (fun b hb=>by simp only [envD,sigD]; rw [if_neg (by omega),if_neg (by omega)]) (fun b hb=>by simp only [envD,sigD,if_pos hb]) (Nat.le_refl _) (Par.okB_all hfree _ _)
        have hu':=sT_holds R rfl rfl c.u u hu hret
        have hrun:=hS _ hdom' _ hu'
        rw [T.holds_bind] at hrun
        obtain ⟨r1,r2⟩:=hc vs (envD c.nv E B) (Base.of w) w (fun r=>∃ b,(∃ v',sV c.nv B b=some v'∧(T.ret (v',h)).Holds E.ρ Q)∧pureAV b=true∧SameE (rhoD E B) r.1 b)
          (fun cv w'=>∃ b v',pureAV b=true∧sV c.nv B b=some v'∧Q (v',h)∧conc (envD c.nv E B) b=some cv∧Below w.heap.size w w') hrun HS hargs
          (fun v h' E' w' cv hq hle HH' hv=>by
            obtain ⟨b,⟨v',hs,hQ⟩,hp,hsame⟩:=hq
            refine ⟨b,v',hp,hs,hQ,?_,Base.keeps_below HH'.below⟩
            rw [← hv,hsame E' hle.ρ]
            exact (conc_pure hle.ρ b hp).symm)
        rw [hP] at r1 r2
        refine ⟨r1,r2.mono ?_⟩
        rintro e w' ⟨cv,rfl,b,v',hp,hs,hQ,hv,hb⟩
        exact ⟨cv,rfl,P v' h E w' cv hQ (Env.le.refl E) (HH.world hb) (by rw [sV_ok R rfl rfl b v' hs]; exact hv)⟩
      · cases ho

theorem CSpec.okR {p0 p : Par} {c : CSpec} {run : T (AV × Heap)} (hc : CallOk p0 c.f c.args (viewHeap c.nv c.view) run)
    (hK:∀ ρ,(∀ d ∈ c.cs,d.den ρ=true)→∃ R K,RulesOk ρ R∧KnOk ρ K∧servesW R c.u (run.bind fun r=>.ret r.1) K=true) (hnv:1000≤c.nv) {args:List AV} {h:Heap} {t:T (AV × Heap)} (ho:c.orc args h=some t) (hP:p0.P=p.P:=by rfl) (hfree:∀ ρ m,p0.ok ρ m:=by exact fun _ _=>trivial):CallOk p c.f args h t :=
  CSpec.okS hc (fun ρ hd P hP=>by
    obtain ⟨R,K,hR,hKn,hchk⟩:=hK ρ hd
    exact servesW_ok hR hP _ _ hKn hchk) hnv ho hP hfree

theorem CSpec.okK {p0 p:Par} {c:CSpec} {R:Rules} {q:List (Nat × Int × Int)} {cs0:List BE} (hcs0:c.cs=ivC q ++ cs0) {run:T (AV × Heap)} (hc:CallOk p0 c.f c.args (viewHeap c.nv c.view) run) (hchk:c.chkK R q cs0 run=true) (hR:∀ ρ,(∀ d ∈ ivC q ++ cs0,d.den ρ=true)→RulesOk ρ R) (hnv:1000≤c.nv) {args:List AV} {h:Heap} {t:T (AV × Heap)} (ho:c.orc args h=some t) (hP:p0.P=p.P:=by rfl) (hfree:∀ ρ m,p0.ok ρ m:=by exact fun _ _=>trivial):CallOk p c.f args h t :=
  CSpec.okR hc (fun ρ hd=>by
    rw [hcs0] at hd
    exact ⟨R,knOf q cs0,hR ρ hd,knOf_ok (fun d h=>hd d (List.mem_append_left _ h)) (fun d h=>hd d (List.mem_append_right _ h)),hchk⟩) hnv ho hP hfree
theorem rules_nil (ρ:Rho):RulesOk ρ []:=fun _ h=>(List.not_mem_nil h).elim

noncomputable def allW {α:Type} (R:Rules) (Q:Kn→α→Bool) (t:T α):Kn→Bool :=
  @T.rec α (fun _=>Kn→Bool) (fun a K=>Q K a)
    (fun c _ _ ih1 ih2 K=>match decW R K c with
      | some b=>cond b (ih1 K) (ih2 K)
      | none=>and (ih1 (addK true c K)) (ih2 (addK false c K)))
    (fun _ _=>false) t
theorem allW_ok {α:Type} {ρ:Rho} {R:Rules} (HR:RulesOk ρ R) {Q:Kn→α→Bool} {P:α→Prop} (hQ:∀ K a,KnOk ρ K→Q K a=true→P a):∀ (t:T α) (K:Kn),KnOk ρ K→allW R Q t K=true→t.Holds ρ P
  | .ret a,K,H,h=>hQ K a H h
  | .fail w,K,H,h=>by cases h
  | .br c x y,K,H,h=>by
    have h:(match decW R K c with
      | some b=>cond b (allW R Q x K) (allW R Q y K)
      | none=>and (allW R Q x (addK true c K)) (allW R Q y (addK false c K)))=true:=h
    simp only [T.Holds]
    split at h
    · rename_i b hb
      have hc:=decW_ok HR H hb
      cases b with
      | true=>rw [hc,if_pos rfl]; exact allW_ok HR hQ x K H h
      | false=>rw [hc,if_neg (by simp)]; exact allW_ok HR hQ y K H h
    · simp only [Bool.and_eq_true] at h
      cases hc:c.den ρ with
      | true=>rw [if_pos rfl]; exact allW_ok HR hQ x _ (addK_ok c true K H hc) h.1
      | false=>rw [if_neg (by simp)]; exact allW_ok HR hQ y _ (addK_ok c false K H hc) h.2

theorem isTrueK_ok {ρ:Rho} {K:Kn} {r:AV × Heap} (H:KnOk ρ K) (h:isTrueK K r=true):∃ b,r.1=.bool b∧b.den ρ=true:=by
  unfold isTrueK at h
  split at h
  · rename_i b hb
    split at h
    · rename_i c hc; subst h; exact ⟨_,hb,decK_ok H _ _ hc⟩
    · cases h
  · cases h
end Go.Sx
/-! WHAT A CALL HANDS BACK,BY NAMES OF ITS OWN: variables that stand for it,where some more is known of the numbers. -/
namespace Go.Sx
open Go.RowKit

/-- where a tree ends -/
def T.leaf {α:Type} (ρ:Rho):T α→Option α
  | .ret a=>some a
  | .br c x y=>if c.den ρ then x.leaf ρ else y.leaf ρ
  | .fail _=>none
theorem T.leaf_holds {α:Type} {ρ:Rho} {b:α}:∀ (t:T α),t.leaf ρ=some b→t.Holds ρ fun a=>a=b
  | .ret a,h=>by simp only [T.leaf,Option.some.injEq] at h; exact h
  | .br c x y,h=>by
    simp only [T.leaf] at h
    simp only [T.Holds]
    split at h
    · rename_i hc; rw [if_pos hc]; exact T.leaf_holds x h
    · rename_i hc; rw [if_neg hc]; exact T.leaf_holds y h
  | .fail w,h=>by simp [T.leaf] at h

/-! ## Numbers that name the variables below a number alone -/
def varsI (n:Nat):IE→Bool
  | .lit _=>true
  | .var i=>Nat.ble (i + 1) n
  | .bin _ _ a b=>and (varsI n a) (varsI n b)
  | .conv _ a=>varsI n a
  | .mx a b=>and (varsI n a) (varsI n b)
  | .mn a b=>and (varsI n a) (varsI n b)
  | .app _ a b c=>and (varsI n a) (and (varsI n b) (varsI n c))
def varsB (n:Nat):BE→Bool
  | .lit _=>true
  | .var _=>true
  | .not a=>varsB n a
  | .and a b=>and (varsB n a) (varsB n b)
  | .cmp _ a b=>and (varsI n a) (varsI n b)
  | .iff a b=>and (varsB n a) (varsB n b)
  | .app _ a b c=>and (varsI n a) (and (varsI n b) (varsI n c))
theorem varsI_den {n:Nat} {ρ ρ':Rho} (h:∀ i,i < n→ρ'.iv i=ρ.iv i) (hf:ρ'.fi=ρ.fi∧ρ'.fb=ρ.fb):∀ e:IE,varsI n e=true→e.den ρ'=e.den ρ
  | .lit _,_=>rfl
  | .var i,k=>h i (ble_t.1 k)
  | .bin op kd a b,k=>by
    simp only [varsI,Bool.and_eq_true] at k
    simp only [IE.den,varsI_den h hf a k.1,varsI_den h hf b k.2]
  | .conv kd a,k=>by
    simp only [varsI] at k
    simp only [IE.den,varsI_den h hf a k]
  | .mx a b,k=>by
    simp only [varsI,Bool.and_eq_true] at k
    simp only [IE.den,varsI_den h hf a k.1,varsI_den h hf b k.2]
  | .mn a b,k=>by
    simp only [varsI,Bool.and_eq_true] at k
    simp only [IE.den,varsI_den h hf a k.1,varsI_den h hf b k.2]
  | .app f a b c,k=>by
    simp only [varsI,Bool.and_eq_true] at k
    simp only [IE.den,varsI_den h hf a k.1,varsI_den h hf b k.2.1,varsI_den h hf c k.2.2,hf.1]
theorem varsB_den {n:Nat} {ρ ρ':Rho} (h:∀ i,i < n→ρ'.iv i=ρ.iv i) (hb:ρ'.bv=ρ.bv) (hf:ρ'.fi=ρ.fi∧ρ'.fb=ρ.fb):∀ c:BE,varsB n c=true→c.den ρ'=c.den ρ
  | .lit _,_=>rfl
  | .var i,_=>by simp only [BE.den,hb]
  | .not a,k=>by
    simp only [varsB] at k
    simp only [BE.den,varsB_den h hb hf a k]
  | .and a b,k=>by
    simp only [varsB,Bool.and_eq_true] at k
    simp only [BE.den,varsB_den h hb hf a k.1,varsB_den h hb hf b k.2]
  | .iff a b,k=>by
    simp only [varsB,Bool.and_eq_true] at k
    simp only [BE.den,varsB_den h hb hf a k.1,varsB_den h hb hf b k.2]
  | .cmp op a b,k=>by
    simp only [varsB,Bool.and_eq_true] at k
    simp only [BE.den,varsI_den h hf a k.1,varsI_den h hf b k.2]
  | .app f a b c,k=>by
    simp only [varsB,Bool.and_eq_true] at k
    simp only [BE.den,varsI_den h hf a k.1,varsI_den h hf b k.2.1,varsI_den h hf c k.2.2,hf.2]

/-- a tree's conditions,and its ends -/
def varsT (n:Nat) (P:AV→Bool):T AV→Bool
  | .ret a=>P a
  | .br c x y=>and (varsB n c) (and (varsT n P x) (varsT n P y))
  | .fail _=>true
theorem varsT_leaf {n:Nat} {P:AV→Bool} {ρ ρ':Rho} (h:∀ i,i < n→ρ'.iv i=ρ.iv i) (hb:ρ'.bv=ρ.bv) (hf:ρ'.fi=ρ.fi∧ρ'.fb=ρ.fb):∀ t:T AV,varsT n P t=true→t.leaf ρ'=t.leaf ρ∧∀ b,t.leaf ρ=some b→P b=true
  | .ret a,k=>⟨rfl,fun b e=>by simp only [T.leaf,Option.some.injEq] at e; subst e; exact k⟩
  | .fail w,_=>⟨rfl,fun b e=>by simp [T.leaf] at e⟩
  | .br c x y,k=>by
    simp only [varsT,Bool.and_eq_true] at k
    obtain ⟨k1,k2,k3⟩:=k
    obtain ⟨x1,x2⟩:=varsT_leaf h hb hf x k2
    obtain ⟨y1,y2⟩:=varsT_leaf h hb hf y k3
    simp only [T.leaf,varsB_den h hb hf c k1]
    split
    · exact ⟨x1,x2⟩
    · exact ⟨y1,y2⟩

/-! ## A call whose result has names -/
/-- called just as it is said,with the view's blocks just so: it hands back 'v' -/
noncomputable def CSpec.orcX (c:CSpec) (v:AV) (args:List AV) (h:Heap):Option (T (AV × Heap)) :=
  cond (and (eqAVs args c.args) (globsIn h c.view)) (some (.ret (v,h))) none

theorem globsIn_get {h:Heap}:∀ (l:List (Nat × List AV)),globsIn h l=true→∀ g ∈ l,∃ el own ext,h.get g.1=some (.cells g.2 el own ext)
  | [],_,g,hg=>(List.not_mem_nil hg).elim
  | q :: l,h1,g,hg=>by
    simp only [globsIn] at h1
    split at h1
    · rename_i c hcells
      cases he:eqAVs c q.2 with
      | false=>rw [he] at h1; cases h1
      | true =>
        rw [he,cond_true] at h1
        rcases List.mem_cons.1 hg with rfl | hg
        · obtain ⟨el,own,ext,g0⟩:=cells_get' hcells
          exact ⟨el,own,ext,by rw [g0,eqAVs_eq _ _ he]⟩
        · exact globsIn_get l h1 g hg
    · cases h1

theorem CSpec.okX {p0 p : Par} {c : CSpec} {v : AV} {run : T (AV × Heap)} (hc : CallOk p0 c.f c.args (viewHeap c.nv c.view) run)
    (hK:∀ ρ,(∀ d ∈ c.cs,d.den ρ=true)→∃ R K,RulesOk ρ R∧KnOk ρ K∧servesW R c.u (run.bind fun r=>.ret r.1) K=true) (hnv:1000≤c.nv)
    (hids:idsLts c.nv c.args=true) (hvids:lAll (fun g:Nat × List AV=>and (Nat.ble (g.1 + 1) c.nv) (idsLts c.nv g.2)) c.view=true)
    (hv:∀ ρ b,p.okB ρ b→(∀ d ∈ c.cs,d.den ρ=true)∧∃ b,c.u.leaf ρ=some b∧SameE ρ v b) {args:List AV} {h:Heap} {t:T (AV × Heap)} (ho:c.orcX v args h=some t)
    (hP:p0.P=p.P:=by rfl) (hfree:∀ ρ m,p0.ok ρ m:=by exact fun _ _=>trivial):CallOk p c.f args h t:=by
  unfold CSpec.orcX at ho
  obtain ⟨h1,h2⟩:=cond_some ho
  cases h2
  simp only [Bool.and_eq_true] at h1
  obtain ⟨h1,h2⟩:=h1
  have:=eqAVs_eq _ _ h1; subst this
  refine callOk_of fun vs E w0 w Q HH ha k=>?_
  obtain ⟨hcs,b,hleaf,hsame⟩:=hv E.ρ _ HH.ok
  let E':Env:=⟨E.ρ,fun x=>if x < c.nv then E.σ x else none,E.κ,c.nv,fun _=>#[]⟩
  have hσ:∀ x,x < c.nv→E'.σ x=E.σ x∧(E.σ x ≠ none→E'.κ x=E.κ x):=fun x hx=>⟨by simp only [E',if_pos hx],fun _=>rfl⟩
  have ha':concL E' c.args=some vs:=by rw [concL_ids (E:=E) (E':=E') rfl hσ c.args hids]; exact ha
  have hview:∀ g ∈ c.view,ViewIn w E' g:=fun g hg=>by
    obtain ⟨el,own,ext,g0⟩:=globsIn_get c.view h2 g hg
    have hg2:=lAll_mem' hvids g hg
    simp only [Bool.and_eq_true] at hg2
    have v0:=ViewIn.of_heap HH g0
    exact v0.re (hσ g.1 (ble_t.1 hg2.1)).1 (concL_ids (E:=E) (E':=E') rfl hσ g.2 hg2.2)
  have HS:HeapOk p0 E' (viewHeap c.nv c.view) (Base.of w) w:=view_ok hview
    (fun x hx=>by simp only [E']; rw [if_neg (by omega)]) (fun x hx=>by simp only [E']; rw [if_pos (by omega)]; exact HH.glob x hx) (Nat.le_refl _) (Par.okB_all hfree _ _)
  obtain ⟨R',K',hR,hKn,hchk⟩:=hK E.ρ hcs
  have hrun:=servesW_ok hR (T.leaf_holds c.u hleaf) _ _ hKn hchk
  rw [T.holds_bind] at hrun
  obtain ⟨r1,r2⟩:=hc vs E' (Base.of w) w (fun r=>∃ b',b'=b∧pureAV b'=true∧SameE E.ρ r.1 b') (fun cv w'=>conc E v=some cv∧Below w.heap.size w w') hrun HS ha'
    (fun v' h' E2 w' cv hq hle HH' hv'=>by
      obtain ⟨b',rfl,hp,hs⟩:=hq
      refine ⟨?_,Base.keeps_below HH'.below⟩
      have hρ:E2.ρ=E.ρ:=hle.ρ
      rw [← hv',hs E2 hρ,hsame E rfl]
      exact (conc_pure (E:=E2) (E':=E) hρ.symm b' hp))
  rw [hP] at r1 r2
  refine ⟨r1,r2.mono ?_⟩
  rintro e w' ⟨cv,rfl,hcv,hb⟩
  exact ⟨v,cv,rfl,k,hcv,hb⟩

/-! ## Where more is known of the numbers -/
theorem HeapOk.re {P:Program} {RC:Nat→Nat→List Nat→Code→Code→Prop} {ok ok':Rho→(Nat→Obj→Prop)→Prop} {E:Env} {h:Heap} {w0:Base} {w:World} (H:HeapOk ⟨P,RC,ok⟩ E h w0 w) (hok:Par.okB ⟨P,RC,ok'⟩ E.ρ w0):HeapOk ⟨P,RC,ok'⟩ E h w0 w :=
  ⟨fun b o e=>by have:=H.obj b o e; cases o <;> exact this,H.inj,H.base,H.ro,H.fresh,H.lt,H.glob,H.below,H.nx,hok⟩
theorem CallOk.lift {P:Program} {RC:Nat→Nat→List Nat→Code→Code→Prop} {ok:Rho→(Nat→Obj→Prop)→Prop} {f:FuncId} {args:List AV} {h:Heap} {t:T (AV × Heap)} (H:CallOk ⟨P,RC,fun _ _=>True⟩ f args h t):CallOk ⟨P,RC,ok⟩ f args h t:=by
  intro vs E w0 w Q K k HH ha P'
  exact H vs E w0 w Q K k (HH.re (Par.okB_all (fun _ _=>trivial) _ _)) ha fun v h' E' w' cv q hle HH' hv=>P' v h' E' w' cv q hle (HH'.re (by rw [hle.ρ]; exact HH.ok)) hv

/-! ## Trees that end somewhere -/
def noFail {α:Type}:T α→Bool
  | .ret _=>true
  | .br _ x y=>and (noFail x) (noFail y)
  | .fail _=>false
theorem noFail_leaf {α:Type} {ρ:Rho}:∀ t:T α,noFail t=true→∃ b,t.leaf ρ=some b
  | .ret a,_=>⟨a,rfl⟩
  | .fail w,h=>by cases h
  | .br c x y,h=>by
    simp only [noFail,Bool.and_eq_true] at h
    obtain ⟨a,ha⟩:=noFail_leaf (ρ:=ρ) x h.1
    obtain ⟨b,hb⟩:=noFail_leaf (ρ:=ρ) y h.2
    simp only [T.leaf]
    split
    · exact ⟨a,ha⟩
    · exact ⟨b,hb⟩
end Go.Sx
/-! CALLS WHOSE RESULTS HAVE NAMES,whatever they mean: what a run ends with,where more is known of the numbers. -/
namespace Go.Sx
open Go.RowKit
theorem T.holds_leaf {α:Type} {ρ:Rho} {P:α→Prop}:∀ t:T α,t.Holds ρ P→∃ b,t.leaf ρ=some b∧P b
  | .ret a,h=>⟨a,rfl,h⟩
  | .fail w,h=>absurd h id
  | .br c x y,h=>by
    simp only [T.Holds] at h
    simp only [T.leaf]
    split at h
    · rename_i hc; rw [if_pos hc]; exact T.holds_leaf x h
    · rename_i hc; rw [if_neg hc]; exact T.holds_leaf y h
theorem T.leaf_of {α:Type} {ρ:Rho} {P:α→Prop} {t:T α} {b:α} (h:t.Holds ρ P) (e:t.leaf ρ=some b):P b:=by
  obtain ⟨b',e',p⟩:=T.holds_leaf t h
  rw [e] at e'; cases e'; exact p
/-- called just as it is said,with the view's blocks just so,on its terms: it hands back what the tree says -/
noncomputable def CSpec.orcY (c:CSpec) (u:T AV) (args:List AV) (h:Heap):Option (T (AV × Heap)) :=
  cond (and (eqAVs args c.args) (globsIn h c.view)) (some (brAll (u.bind fun v=>.ret (v,h)) c.cs)) none
theorem CSpec.okY {p0 p : Par} {c : CSpec} {u : T AV} {run : T (AV × Heap)} (hc : CallOk p0 c.f c.args (viewHeap c.nv c.view) run) (hnv : 1000 ≤ c.nv)
    (hids:idsLts c.nv c.args=true) (hvids:lAll (fun g:Nat × List AV=>and (Nat.ble (g.1 + 1) c.nv) (idsLts c.nv g.2)) c.view=true)
    (hv:∀ ρ b,p.okB ρ b→(∀ d ∈ c.cs,d.den ρ=true)→∃ v v',(run.bind fun r=>T.ret r.1).leaf ρ=some v∧idsLt c.nv v=true∧(∀ E vs,E.ρ=ρ→concL E c.args=some vs→∃ x,conc E v=some x)∧u.leaf ρ=some v'∧SameE ρ v v') {args:List AV} {h:Heap} {t:T (AV × Heap)} (ho:c.orcY u args h=some t)
    (hP:p0.P=p.P) (hfree:∀ ρ b b',p.okB ρ b→p0.okB ρ b'):CallOk p c.f args h t:=by
  unfold CSpec.orcY at ho
  obtain ⟨h1,h2⟩:=cond_some ho
  cases h2
  simp only [Bool.and_eq_true] at h1
  obtain ⟨h1,h2⟩:=h1
  have:=eqAVs_eq _ _ h1; subst this
  refine callOk_of fun vs E w0 w Q HH ha k=>?_
  obtain ⟨hcs,hret⟩:=brAll_holds k
  rw [T.holds_bind] at hret
  obtain ⟨b,b',hleaf,hidb,hdef,huleaf,hsame⟩:=hv E.ρ _ HH.ok hcs
  let E':Env:=⟨E.ρ,fun x=>if x < c.nv then E.σ x else none,E.κ,c.nv,fun _=>#[]⟩
  have hσ:∀ x,x < c.nv→E'.σ x=E.σ x∧(E.σ x ≠ none→E'.κ x=E.κ x):=fun x hx=>⟨by simp only [E',if_pos hx],fun _=>rfl⟩
  have ha':concL E' c.args=some vs:=by rw [concL_ids (E:=E) (E':=E') rfl hσ c.args hids]; exact ha
  have hview:∀ g ∈ c.view,ViewIn w E' g:=fun g hg=>by
    obtain ⟨el,own,ext,g0⟩:=globsIn_get c.view h2 g hg
    have hg2:=lAll_mem' hvids g hg
    simp only [Bool.and_eq_true] at hg2
    have v0:=ViewIn.of_heap HH g0
    exact v0.re (hσ g.1 (ble_t.1 hg2.1)).1 (concL_ids (E:=E) (E':=E') rfl hσ g.2 hg2.2)
  have HS:HeapOk p0 E' (viewHeap c.nv c.view) (Base.of w) w:=view_ok hview
    (fun x hx=>by simp only [E']; rw [if_neg (by omega)]) (fun x hx=>by simp only [E']; rw [if_pos (by omega)]; exact HH.glob x hx) (Nat.le_refl _) (hfree _ _ _ HH.ok)
  have hrun:=T.leaf_holds _ hleaf
  rw [T.holds_bind] at hrun
  obtain ⟨r1,r2⟩:=hc vs E' (Base.of w) w (fun r=>r.1=b) (fun cv w'=>conc E b'=some cv∧Below w.heap.size w w') hrun HS ha'
    (fun v' h' E2 w' cv hq hle HH' hv'=>by
      obtain rfl:=hq
      refine ⟨?_,Base.keeps_below HH'.below⟩
      obtain ⟨x,hx⟩:=hdef E' vs rfl ha'
      have hx2:=conc_mono hle.tole0 _ _ hx
      rw [← hsame E rfl,← conc_ids (E:=E) (E':=E') rfl hσ _ hidb,hx,← hx2,hv'])
  rw [hP] at r1 r2
  refine ⟨r1,r2.mono ?_⟩
  rintro e w' ⟨cv,rfl,hcv,hb⟩
  exact ⟨b',cv,rfl,T.leaf_of (P:=fun a=>Q (a,h)) hret huleaf,hcv,hb⟩
end Go.Sx
/-! CALLS WHOSE RESULTS HAVE NAMES: values that mean the same wherever the blocks lie alike. -/
namespace Go.Sx
open Go.RowKit
theorem CSpec.okZ {p0 p : Par} {c : CSpec} {u : T AV} {run : T (AV × Heap)} (hc : CallOk p0 c.f c.args (viewHeap c.nv c.view) run) (hnv : 1000 ≤ c.nv)
    (hids:idsLts c.nv c.args=true) (hvids:lAll (fun g:Nat × List AV=>and (Nat.ble (g.1 + 1) c.nv) (idsLts c.nv g.2)) c.view=true)
    (hv:∀ ρ b,p.okB ρ b→(∀ d ∈ c.cs,d.den ρ=true)→∃ v v',(run.bind fun r=>T.ret r.1).leaf ρ=some v∧(∀ E E':Env,E.ρ=ρ→E'.ρ=ρ→(∀ b,b < c.nv→E'.σ b=E.σ b∧(E.σ b ≠ none→E'.κ b=E.κ b))→conc E' v=conc E v)∧(∀ E vs,E.ρ=ρ→concL E c.args=some vs→∃ x,conc E v=some x)∧u.leaf ρ=some v'∧SameE ρ v v') {args:List AV} {h:Heap} {t:T (AV × Heap)} (ho:c.orcY u args h=some t)
    (hP:p0.P=p.P) (hfree:∀ ρ b b',p.okB ρ b→p0.okB ρ b'):CallOk p c.f args h t:=by
  unfold CSpec.orcY at ho
  obtain ⟨h1,h2⟩:=cond_some ho
  cases h2
  simp only [Bool.and_eq_true] at h1
  obtain ⟨h1,h2⟩:=h1
  have:=eqAVs_eq _ _ h1; subst this
  refine callOk_of fun vs E w0 w Q HH ha k=>?_
  obtain ⟨hcs,hret⟩:=brAll_holds k
  rw [T.holds_bind] at hret
  obtain ⟨b,b',hleaf,hidb,hdef,huleaf,hsame⟩:=hv E.ρ _ HH.ok hcs
  let E':Env:=⟨E.ρ,fun x=>if x < c.nv then E.σ x else none,E.κ,c.nv,fun _=>#[]⟩
  have hσ:∀ x,x < c.nv→E'.σ x=E.σ x∧(E.σ x ≠ none→E'.κ x=E.κ x):=fun x hx=>⟨by simp only [E',if_pos hx],fun _=>rfl⟩
  have ha':concL E' c.args=some vs:=by rw [concL_ids (E:=E) (E':=E') rfl hσ c.args hids]; exact ha
  have hview:∀ g ∈ c.view,ViewIn w E' g:=fun g hg=>by
    obtain ⟨el,own,ext,g0⟩:=globsIn_get c.view h2 g hg
    have hg2:=lAll_mem' hvids g hg
    simp only [Bool.and_eq_true] at hg2
    have v0:=ViewIn.of_heap HH g0
    exact v0.re (hσ g.1 (ble_t.1 hg2.1)).1 (concL_ids (E:=E) (E':=E') rfl hσ g.2 hg2.2)
  have HS:HeapOk p0 E' (viewHeap c.nv c.view) (Base.of w) w:=view_ok hview
    (fun x hx=>by simp only [E']; rw [if_neg (by omega)]) (fun x hx=>by simp only [E']; rw [if_pos (by omega)]; exact HH.glob x hx) (Nat.le_refl _) (hfree _ _ _ HH.ok)
  have hrun:=T.leaf_holds _ hleaf
  rw [T.holds_bind] at hrun
  obtain ⟨r1,r2⟩:=hc vs E' (Base.of w) w (fun r=>r.1=b) (fun cv w'=>conc E b'=some cv∧Below w.heap.size w w') hrun HS ha'
    (fun v' h' E2 w' cv hq hle HH' hv'=>by
      obtain rfl:=hq
      refine ⟨?_,Base.keeps_below HH'.below⟩
      obtain ⟨x,hx⟩:=hdef E' vs rfl ha'
      have hx2:=conc_mono hle.tole0 _ _ hx
      rw [← hsame E rfl,← hidb E E' rfl rfl hσ,hx,← hx2,hv'])
  rw [hP] at r1 r2
  refine ⟨r1,r2.mono ?_⟩
  rintro e w' ⟨cv,rfl,hcv,hb⟩
  exact ⟨b',cv,rfl,T.leaf_of (P:=fun a=>Q (a,h)) hret huleaf,hcv,hb⟩
end Go.Sx
/-! CALLS WHOSE RESULTS HAVE NAMES,with blocks under other numbers,and new blocks: what a run ends with,number by number. -/
namespace Go.Sx
open Go.RowKit
/-- a block whose numbers are alike -/
def SameO (ρ:Rho) (o:AObj) (q:NB):Prop :=
  match q with
  | .cells cs el ext=>∃ cs' more,o=.cells (cs' ++ more) el true ext∧SameEs ρ cs' cs∧(more=[] ∨ ext=true)
  | .map es k=>o=.map es k
theorem SameO.own {ρ:Rho} {o:AObj} {q:NB} (h:SameO ρ o q):ownO o=true:=by
  cases q with
  | cells cs el ext=>obtain ⟨cs',more,rfl,_⟩:=h; rfl
  | map es k=>have h:o=.map es k:=h; subst h; rfl
theorem concL_split {E:Env}:∀ {l m:List AV} {vs:List Value},concL E (l ++ m)=some vs→∃ us ws,concL E l=some us∧concL E m=some ws∧vs=us ++ ws
  | [],m,vs,h=>⟨[],vs,rfl,h,rfl⟩
  | a :: l,m,vs,h=>by
    obtain ⟨x,r,h1,h2,rfl⟩:=concL_cons.1 h
    obtain ⟨us,ws,k1,k2,rfl⟩:=concL_split h2
    exact ⟨x :: us,ws,concL_cons.2 ⟨x,us,h1,k1,rfl⟩,k2,rfl⟩
theorem SameO.obj {p:Par} {E:Env} {b:Nat} {o:AObj} {q:NB} {heap:Array Obj} (h:SameO E.ρ o q) (H:objOk p E b o heap):objOk p E b q.raw heap:=by
  cases q with
  | cells cs el ext =>
    obtain ⟨cs',more,rfl,hs,hm⟩:=h
    obtain ⟨c,base,vs,cells,el',fz,k1,k2,k3,k4,k5⟩:=H
    obtain ⟨us,ws,u1,u2,rfl⟩:=concL_split k2
    refine ⟨c,base,us,cells,el',fz,k1,by rw [← hs E rfl]; exact u1,k3,fun i hi=>?_,fun ho=>?_⟩
    · rw [k4 i (by rw [List.length_append]; omega),List.getElem?_append_left hi]
    · obtain ⟨a1,a2,a3,a4⟩:=k5 ho
      refine ⟨a1,a2,fun he=>?_,a4⟩
      rcases hm with rfl | hm
      · have:ws=[]:=by simpa [concL] using u2
        subst this
        rw [a3 he]; simp
      · rw [hm] at he; cases he
  | map es k=>have h:o=.map es k:=h; subst h; exact H
noncomputable def putN:List (Nat × NB)→Heap→Heap
  | [],h=>h
  | q :: l,h=>(putN l h).put q.1 q.2.raw
theorem putN_get:∀ (l:List (Nat × NB)) (h:Heap) (n:Nat),rises n l=true→∀ q ∈ l,(putN l h).get q.1=some q.2.raw
  | [],_,_,_,q,hq=>(List.not_mem_nil hq).elim
  | p :: l,h,n,hr,q,hq=>by
    have hr0:=hr
    simp only [rises] at hr
    obtain ⟨h1,h2⟩:Nat.ble n p.1=true∧rises (Nat.succ p.1) l=true:=by
      cases h1:Nat.ble n p.1 with
      | false=>rw [h1] at hr; cases hr
      | true=>rw [h1] at hr; exact ⟨rfl,hr⟩
    simp only [putN]
    rw [Heap.get_put]
    rcases List.mem_cons.1 hq with rfl | hq
    · rw [if_pos rfl]
    · have:=rises_ge l _ h2 q hq
      rw [if_neg (by omega)]
      exact putN_get l h _ h2 q hq
theorem putN_next:∀ (l:List (Nat × NB)) (h:Heap),(putN l h).next=h.next
  | [],_=>rfl
  | _ :: l,h=>by simp only [putN]; rw [Heap.next_put]; exact putN_next l h
theorem putN_ok {p:Par} {E:Env} {w0:Base} {w:World}:∀ (l:List (Nat × NB)) (h:Heap),HeapOk p E h w0 w→(∀ q ∈ l,∃ o,h.get q.1=some o∧SameO E.ρ o q.2)→HeapOk p E (putN l h) w0 w∧∀ j o,(putN l h).get j=some o→∃ o0,h.get j=some o0∧(ownO o0=ownO o)∧(roO o0=roO o)
  | [],h,H,_=>⟨H,fun j o e=>⟨o,e,rfl,rfl⟩⟩
  | q :: l,h,H,hs=>by
    obtain ⟨H1,g1⟩:=putN_ok l h H fun q' hq'=>hs q' (List.mem_cons_of_mem _ hq')
    obtain ⟨o,ho,hso⟩:=hs q List.mem_cons_self
    have hob:=hso.obj (H.obj _ _ ho)
    have hown:ownO q.2.raw=true:=q.2.raw_own
    have hro:∀ x:AObj,ownO x=true→roO x=false:=fun x hx=>by cases x <;> simp_all [ownO,roO]
    have back:∀ j x,((putN l h).put q.1 q.2.raw).get j=some x→∃ o0,h.get j=some o0∧(ownO o0=ownO x)∧(roO o0=roO x):=fun j x e=>by
      rw [Heap.get_put] at e
      split at e
      · rename_i hj; subst hj; cases e
        exact ⟨o,ho,by rw [hso.own,hown],by rw [hro _ hso.own,hro _ hown]⟩
      · exact g1 j x e
    refine ⟨⟨fun b x e=>?_,fun b b' x x' c y z e e' w1 w2 s1 s2=>?_,fun b x c y e w1 s=>?_,fun b x c y e r1 s=>?_,fun b hb=>H.fresh b (by rw [putN_next] at hb; exact hb),fun b x c y e s=>?_,H.glob,H.below,(by rw [putN_next]; exact H.nx),H.ok⟩,back⟩
    · have e0:=e
      simp only [putN] at e
      rw [Heap.get_put] at e
      split at e
      · rename_i hj; subst hj; cases e; exact hob
      · exact H1.obj b x e
    · obtain ⟨o1,a1,a2,_⟩:=back _ _ e
      obtain ⟨o2,b1,b2,_⟩:=back _ _ e'
      exact H.inj _ _ _ _ _ _ _ a1 b1 (a2.trans w1) (b2.trans w2) s1 s2
    · obtain ⟨o1,a1,a2,_⟩:=back _ _ e
      exact H.base _ _ _ _ a1 (a2.trans w1) s
    · obtain ⟨o1,a1,_,a3⟩:=back _ _ e
      exact H.ro _ _ _ _ a1 (a3.trans r1) s
    · obtain ⟨o1,a1,_,_⟩:=back _ _ e
      exact H.lt _ _ _ _ a1 s
/-- A CALL WHOSE RESULT HAS NAMES: it meets what is said of it,on its terms; what its run ends with is that,number by number. -/
theorem meetN {p : Par} {ty : Nat → Option TI} {tb : Tabs} (B : TabOk p ty tb) {d : Nat} {f : FuncId} {args0 : List AV} {n : Nat} {view : List (Nat × VO)} (hst : and (Nat.ble 1000 n) (and (viewUp 0 view) (outsOk n view [])) = true) {args : List AV} {h : Heap} {cs : List BE} {rr : AV × Heap}
    (hsem:∀ ρ b,p.okB ρ b→(∀ c ∈ cs,c.den ρ=true)→∃ res news r1,rises n news=true∧(Ent.mk f args0 n view res news []).meet args h=some (.ret rr)∧(evalN tb d false f args0 (viewO n view)).leaf ρ=some r1∧SameE ρ r1.1 res ∧
      ∀ q ∈ news,∃ o,r1.2.get q.1=some o∧SameO ρ o q.2):CallOk p f args h (brAll (.ret rr) cs):=by
  intro vs E w0 w Q K k0 HH ha P
  obtain ⟨hcs,k⟩:=brAll_holds k0
  obtain ⟨res,news,⟨v1,h1⟩,k3,hm,hleaf,hsame,hnews⟩:=hsem E.ρ _ HH.ok hcs
  let e:Ent:=Ent.mk f args0 n view res news []
  have hm:e.meet args h=some (.ret rr):=hm
  simp only [Bool.and_eq_true] at hst
  obtain ⟨k4,k6,k7⟩:=hst
  unfold Ent.meet at hm
  split at hm
  · rename_i r0 h0
    split at hm
    · rename_i r hr
      obtain ⟨hinj,hm⟩:=cond_some hm
      split at hm
      · rename_i v hv
        split at hm
        · rename_i h2 hn
          split at hm
          · rename_i h3 hp
            cases hm
            obtain ⟨s0,m0⟩:=mtL_ok _ _ _ _ h0
            obtain ⟨s1,m1⟩:=mtView_ok _ _ _ hr
            have R:Rel e.n E (envR e.n E r) r:=envR_rel HH.glob
            · -- (what the run ends with)
              have hn1:1000≤e.n:=ble_t.1 k4
              obtain ⟨o1,o2⟩:=outsOk_own _ _ k7
              have hargs:concL (envR e.n E r) e.args=some vs:=by rw [m0 E _ (R.sub s1)]; exact ha
              have hview:=m1 R HH
              have h1000:∀ b,b < 1000→(envR e.n E r).σ b=some (b,0):=fun b hb=>by simp only [envR,if_pos hb]
              have res1000:∀ b c,1000≤b→(cond (Nat.ble (Nat.succ b) 1000) (some b) (cond (Nat.ble (Nat.succ b) e.n) (lFind r b) none))=some c→lFind r b=some c:=fun b c hb hc=>by
                have k1:Nat.ble (Nat.succ b) 1000=false:=by
                  cases hk:Nat.ble (Nat.succ b) 1000 with
                  | false=>rfl
                  | true=>have:=ble_t.1 hk; omega
                rw [k1,cond_false] at hc
                exact (cond_some hc).2
              -- what may be written lies where it may be
              have outR:∀ q ∈ e.outs,1000≤q.1∧q.1 < e.n∧∃ g ∈ e.view,g.1=q.1∧g.2.isOwn=true∧∃ j o,lFind r q.1=some j∧h.get j=some o∧ownO o=true∧(envR e.n E r).σ q.1=E.σ j:=fun q hq=>by
                obtain ⟨b1,b2,g,b3,b4,b5⟩:=o2 q hq
                obtain ⟨b,o,c1,c2,c3,c4,c5⟩:=(hview g b3).at_
                rw [b4] at c1 c3
                exact ⟨b1,b2,g,b3,b4,b5,b,o,res1000 _ _ b1 c1,c2,c4 b5,c3⟩
              have inj:e.outs ≠ []→injR r=true:=fun hne=>absurd rfl hne
              let b1:Base:=⟨w,fun c=>c < w.heap.size∧∀ q ∈ e.outs,∀ x,(envR e.n E r).σ q.1 ≠ some (c,x),fun c hc=>hc.1⟩
              have hvo:HeapOk p (envR e.n E r) (viewO e.n e.view) b1 w:=by
                have obj:∀ b o,(viewO e.n e.view).get b=some o→objOk p (envR e.n E r) b o w.heap:=fun b o ho=>by
                  obtain ⟨g,hg,rfl,rfl⟩:=viewO_get _ _ _ _ ho
                  exact (hview g hg).obj
                have lt:∀ b o c x,(viewO e.n e.view).get b=some o→(envR e.n E r).σ b=some (c,x)→c < w.heap.size:=fun b o c x ho hs=>by
                  obtain ⟨g,hg,rfl,rfl⟩:=viewO_get _ _ _ _ ho
                  obtain ⟨b',o',c1,c2,c3,c4,c5⟩:=(hview g hg).at_
                  rw [c3] at hs
                  exact HH.lt _ _ _ _ c2 hs
                have own:∀ b o,(viewO e.n e.view).get b=some o→ownO o=true→∃ q ∈ e.outs,q.1=b:=fun b o ho hw=>by
                  obtain ⟨g,hg,rfl,rfl⟩:=viewO_get _ _ _ _ ho
                  rw [VO.own_obj] at hw
                  exact o1 g hg hw
                have same:∀ q ∈ e.outs,∀ b o c x y,(viewO e.n e.view).get b=some o→(envR e.n E r).σ b=some (c,x)→(envR e.n E r).σ q.1=some (c,y)→b=q.1:=by
                  intro q hq b o c x y ho hs hs'
                  have hi:=injR_ok (inj (fun h0=>by rw [h0] at hq; cases hq))
                  obtain ⟨d1,d2,g',d3,d4,d5,j,o',d6,d7,d8,d9⟩:=outR q hq
                  obtain ⟨g,hg,rfl,rfl⟩:=viewO_get _ _ _ _ ho
                  obtain ⟨b',o2,c1,c2,c3,c4,c5⟩:=(hview g hg).at_
                  rw [c3] at hs
                  rw [d9] at hs'
                  have hj:b'=j:=by
                    rcases c5 with c5 | c5
                    · exact HH.inj _ _ _ _ _ _ _ c2 d7 c5 d8 hs hs'
                    · exact absurd (HH.ro _ _ _ _ c2 c5 hs) (HH.base _ _ _ _ d7 d8 hs')
                  subst hj
                  rcases Nat.lt_or_ge g.1 1000 with hlt | hge
                  · have : g.1 = b' := by
                      have k1:Nat.ble (Nat.succ g.1) 1000=true:=ble_t.2 hlt
                      rw [k1,cond_true] at c1; exact Option.some.inj c1
                    have:=(hi.1 _ _ d6).1
                    omega
                  · exact hi.2 _ _ _ (res1000 _ _ hge c1) d6
                refine ⟨obj,fun b b' o o' c x y g1 g2 w1 w2 s1 s2=>?_,fun b o c x ho hw hs hc=>?_,fun b o c y ho hr hs=>?_,fun b hb=>?_,lt,h1000,Kept.refl _ _,(by rw [viewO_next]; exact Nat.le_refl _),HH.ok.mono fun c o e'=>⟨⟨HH.below.lt e'.1,fun q hq x hx=>?_⟩,Base.Keeps.has HH.below e'⟩⟩
                · obtain ⟨q,hq,e1⟩:=own _ _ g2 w2
                  rw [← e1] at s2
                  rw [← e1]
                  exact same q hq _ _ _ _ _ g1 s1 s2
                · obtain ⟨q,hq,e1⟩:=own _ _ ho hw
                  rw [← e1] at hs
                  exact hc.2 q hq x hs
                · refine ⟨lt _ _ _ _ ho hs,fun q hq x hx=>?_⟩
                  have hb:=same q hq _ _ _ _ _ ho hs hx
                  obtain ⟨d1,d2,g',d3,d4,d5,_⟩:=outR q hq
                  obtain ⟨g,hg,e1,rfl⟩:=viewO_get _ _ _ _ ho
                  have:=viewUp_inj _ _ k6 g hg g' d3 (by rw [e1,hb,d4])
                  subst this
                  rw [VO.ro_obj,d5] at hr; cases hr
                · rw [viewO_next] at hb
                  simp only [envR]; rw [if_neg (by omega),if_neg (by omega)]
                · obtain ⟨d1,d2,g',d3,d4,d5,j,o',d6,d7,d8,d9⟩:=outR q hq
                  rw [d9] at hx
                  exact HH.base _ _ _ _ d7 d8 hx e'.1
              have key:=eval_ok B d e.f e.args (viewO e.n e.view) vs (envR e.n E r) b1 w (fun r=>r=(v1,h1)) (fun cv w'=>∃ E1,(envR e.n E r).le E1∧HeapOk p E1 h1 b1 w'∧conc E1 v1=some cv)
                (T.leaf_holds _ hleaf) hvo hargs ?_
              · refine ⟨key.1,key.2.mono ?_⟩
                rintro ex w' ⟨cv,rfl,E1,hle,H1,hcv⟩
                have hρ:E1.ρ=E.ρ:=hle.ρ
                obtain ⟨H2,_⟩:=putN_ok e.news h1 H1 (fun q hq=>by
                  obtain ⟨o,o1,o2⟩:=hnews q hq
                  exact ⟨o,o1,by rw [hρ]; exact o2⟩)
                obtain ⟨z1,z2,z3⟩:=HH.merge (outs:=e.outs) H2 rfl (fun c=>Iff.rfl) hle k3 (fun q hq=>putN_get _ _ _ k3 q hq)
                  (fun q hq=>(List.not_mem_nil hq).elim) hn hp
                have hcv:conc E1 e.res=some cv:=by rw [← hsame E1 hρ]; exact hcv
                exact ⟨cv,rfl,P v h3 _ w' cv k z1 z3 (rnV_ok z2 _ _ _ hv hcv)⟩
              · intro v' h' E' w' cv q hle HH' hv'
                cases q
                exact ⟨E',hle,HH',hv'⟩
          · cases hm
        · cases hm
      · cases hm
    · cases hm
  · cases hm
end Go.Sx
/-! CALLS MADE IN A SMALLER HEAP,taken up in a larger one: what they wrote is put there,the blocks that are still told of are laid anew,all others are forgotten. -/
namespace Go.Sx
open Go.RowKit

/-! ## Objects that name no block from a number on -/
def ptAll (p:AV→Bool):PT AV→Bool
  | .nil=>true
  | .node none l r=>and (ptAll p l) (ptAll p r)
  | .node (some a) l r=>and (p a) (and (ptAll p l) (ptAll p r))
theorem ptAll_get {p:AV→Bool}:∀ (t:PT AV) (i:Nat) (a:AV),ptAll p t=true→t.get i=some a→p a=true
  | .nil,i,a,_,h=>by rw [PT.get_nil] at h; cases h
  | .node v l r,i,a,hp,h=>by
    have step:(PT.node v l r).get i=cond (Nat.beq i 0) v (cond (Nat.beq (Nat.mod i 2) 1) (l.get (Nat.div (Nat.pred i) 2)) (r.get (Nat.div (Nat.pred i) 2))):=rfl
    rw [step] at h
    have hl:ptAll p l=true:=by cases v <;> simp only [ptAll,Bool.and_eq_true] at hp <;> first | exact hp.1 | exact hp.2.1
    have hr:ptAll p r=true:=by cases v <;> simp only [ptAll,Bool.and_eq_true] at hp <;> first | exact hp.2 | exact hp.2.2
    cases h0:Nat.beq i 0 with
    | true =>
      rw [h0,cond_true] at h
      subst h
      simp only [ptAll,Bool.and_eq_true] at hp
      exact hp.1
    | false =>
      rw [h0,cond_false] at h
      cases h1:Nat.beq (Nat.mod i 2) 1 with
      | true=>rw [h1,cond_true] at h; exact ptAll_get l _ a hl h
      | false=>rw [h1,cond_false] at h; exact ptAll_get r _ a hr h

def idsE (n:Nat):List (AV × AV × Nat)→Bool
  | []=>true
  | e :: es=>and (idsLt n e.1) (and (idsLt n e.2.1) (idsE n es))

def idsO (n:Nat):AObj→Bool
  | .cells cs _ _ _=>idsLts n cs
  | .map es _=>idsE n es
  | .rmap es _=>idsE n es
  | .umap _=>true
  | .ucells _ _=>true
  | .loop _ _ _ tm _ _ d=>and (ptAll (idsLt n) tm) (Nat.ble (d + 1) n)
  | .defd _=>true
  | .resv=>false
  | .dead=>true

theorem concE_ids {n:Nat} {E E':Env} (hρ:E'.ρ=E.ρ) (hσ:∀ b,b < n→E'.σ b=E.σ b∧(E.σ b ≠ none→E'.κ b=E.κ b)):∀ (es:List (AV × AV × Nat)) (ms:List MapEntry),idsE n es=true→concE E es ms→concE E' es ms
  | [],[],_,_=>trivial
  | [],_ :: _,_,h=>h.elim
  | _ :: _,[],_,h=>h.elim
  | e :: es,m :: ms,hi,⟨h1,h2,h3,h4⟩=>by
    simp only [idsE,Bool.and_eq_true] at hi
    exact ⟨by rw [conc_ids hρ hσ _ hi.1]; exact h1,by rw [conc_ids hρ hσ _ hi.2.1]; exact h2,h3,concE_ids hρ hσ es ms hi.2.2 h4⟩

/-- an object that names only blocks that lie alike,in a block that lies alike -/
theorem objOk.ids {p : Par} {n : Nat} {E E' : Env} (hρ : E'.ρ = E.ρ) (hσ : ∀ b, b < n → E'.σ b = E.σ b ∧ (E.σ b ≠ none → E'.κ b = E.κ b)) {b b' : Nat} {o : AObj} {heap : Array Obj} (hi : idsO n o = true)
    (hb:∀ q,E.σ b=some q→E'.σ b'=some q∧E'.κ b'=E.κ b) (h:objOk p E b o heap):objOk p E' b' o heap:=by
  cases o with
  | cells cs el own ext =>
    obtain ⟨c,base,vs,cells,el',fz,k1,k2,k3,k4,k5⟩:=h
    exact ⟨c,base,vs,cells,el',fz,(hb _ k1).1,by rw [concL_ids hρ hσ cs hi]; exact k2,k3,k4,by rw [(hb _ k1).2]; exact k5⟩
  | map es k =>
    obtain ⟨c,ms,k1,k2,k3⟩:=h
    exact ⟨c,ms,(hb _ k1).1,concE_ids hρ hσ _ _ hi k2,k3⟩
  | rmap es k =>
    obtain ⟨c,ms,k1,k2,k3⟩:=h
    exact ⟨c,ms,(hb _ k1).1,concE_ids hρ hσ _ _ hi k2,k3⟩
  | umap m =>
    obtain ⟨c,es,ms,k,k1,k2,k3,k4⟩:=h
    have lit:concE E' es ms:=by
      have hl:∀ e ∈ es,conc E' e.1=conc E e.1∧conc E' e.2.1=conc E e.2.1:=fun e he=>by
        obtain ⟨a,b,c,_,_,e1,e2⟩:=k4.1 e he
        have hc:∀ q,conc E' (umCellL E.ρ a b c q)=conc E (umCellL E.ρ a b c q):=fun q=>by unfold umCellL; cases q.1 <;> rfl
        have hcs:∀ l:List (Bool × Nat),concL E' (l.map (umCellL E.ρ a b c))=concL E (l.map (umCellL E.ρ a b c)):=fun l=>by
          induction l with
          | nil=>rfl
          | cons q l ih=>simp only [List.map_cons,concL,hc,ih]
        refine ⟨?_,?_⟩
        · rw [e1]; unfold keyU; split <;> rfl
        · rw [e2]; unfold umValL
          cases m.ag with
          | true=>simp only [cond_true,conc,hcs]
          | false =>
            simp only [cond_false]
            cases m.fi with
            | nil=>rfl
            | cons q l=>cases l with
              | nil=>exact hc q
              | cons _ _=>rfl
      clear k3 k4
      induction es generalizing ms with
      | nil=>cases ms with
        | nil=>trivial
        | cons _ _=>exact k2.elim
      | cons e es ih=>cases ms with
        | nil=>exact k2.elim
        | cons m' ms =>
          obtain ⟨h1,h2,h3,h4⟩:=k2
          exact ⟨(hl e List.mem_cons_self).1.trans h1,(hl e List.mem_cons_self).2.trans h2,h3,ih ms h4 fun e' he'=>hl e' (List.mem_cons_of_mem _ he')⟩
    exact ⟨c,es,ms,k,(hb _ k1).1,lit,k3,by rw [hρ]; exact k4⟩
  | ucells i ks =>
    obtain ⟨c,base,cells,el,fz,k1,k3,k4⟩:=h
    exact ⟨c,base,cells,el,fz,(hb _ k1).1,k3,by rw [hρ]; exact k4⟩
  | loop st pend fn tm ps code d =>
    obtain ⟨c,d',nn,keep,r,k1,k2,k3,k4,k5,k6,k7,k8,k9,k10⟩:=h
    simp only [idsO,Bool.and_eq_true] at hi
    have hd:d < n:=ble_t.1 hi.2
    refine ⟨c,d',nn,keep,r,(hb _ k1).1,(hσ d hd).1.trans k2,k3,k4,k5,k6,⟨fun i a e=>?_⟩,k8,k9,k10⟩
    obtain ⟨m1,v,m2,m3⟩:=k7.at_ i a e
    exact ⟨m1,v,by rw [conc_ids hρ hσ a (ptAll_get _ _ _ hi.1 e)]; exact m2,m3⟩
  | defd t =>
    obtain ⟨c,k1,k2⟩:=h
    exact ⟨c,(hb _ k1).1,k2⟩
  | resv=>cases hi
  | dead=>trivial

/-! ## What is put in the larger heap -/
/-- the names: those below 'n' as they are,those that are kept by their places -/
noncomputable def nameG (n k:Nat) (news:List Nat) (b:Nat):Option Nat :=
  cond (Nat.ble (b + 1) n) (some b) (@List.rec Nat (fun _=>Nat→Option Nat) (fun _=>none) (fun c _ ih i=>cond (Nat.beq c b) (some i) (ih (i + 1))) news k)
noncomputable def moved (n:Nat) (g:Nat→Option Nat) (o:AObj):Option AObj :=
  cond (idsO n o) (some o) (match o with
  | .cells cs el own ext=>(match rnL g cs with
    | some cs'=>some (.cells cs' el own ext)
    | none=>none)
  | _=>none)
noncomputable def graftN (n:Nat) (g:Nat→Option Nat) (h1:Heap):List Nat→Heap→Option Heap
  | [],h=>some h
  | b :: l,h=>(match h1.get b with
    | some o1=>cond (ownO o1) (match moved n g o1 with
      | some o=>graftN n g h1 l (h.new o)
      | none=>none) none
    | none=>none)
noncomputable def graftO (n:Nat) (g:Nat→Option Nat) (h1:Heap):List Nat→Heap→Heap
  | [],h=>h
  | b :: l,h=>graftO n g h1 l (h.put b (match h1.get b with
    | some o1=>(match moved n g o1 with
      | some o=>o
      | none=>.dead)
    | none=>.dead))
def risesL (n:Nat):List Nat→Bool
  | []=>true
  | b :: l=>and (Nat.ble n b) (risesL (b + 1) l)

theorem nameG_lt {n k:Nat} {news:List Nat} {b:Nat} (h:b < n):nameG n k news b=some b:=by
  unfold nameG
  rw [ble_t.2 (show b + 1≤n from h)]; rfl
theorem nameG_ge {n k:Nat} {news:List Nat} {b c:Nat} (h:n≤b) (e:nameG n k news b=some c):∃ i,news[i]?=some b∧c=k + i:=by
  unfold nameG at e
  have h1:Nat.ble (b + 1) n=false:=by
    cases hk:Nat.ble (b + 1) n with
    | false=>rfl
    | true=>have:=ble_t.1 hk; omega
  rw [h1,cond_false] at e
  induction news generalizing k with
  | nil=>cases e
  | cons a l ih =>
    have e:cond (Nat.beq a b) (some k) (@List.rec Nat (fun _=>Nat→Option Nat) (fun _=>none) (fun c _ ih i=>cond (Nat.beq c b) (some i) (ih (i + 1))) l (k + 1))=some c:=e
    cases hb:Nat.beq a b with
    | true=>rw [hb] at e; cases e; exact ⟨0,by rw [beq_t.1 hb]; rfl,rfl⟩
    | false =>
      rw [hb,cond_false] at e
      obtain ⟨i,h1,h2⟩:=ih e
      exact ⟨i + 1,by simpa using h1,by omega⟩

theorem risesL_ge:∀ (l:List Nat) (n:Nat),risesL n l=true→∀ b ∈ l,n≤b
  | [],_,_,b,hb=>(List.not_mem_nil hb).elim
  | a :: l,n,h,b,hb=>by
    simp only [risesL,Bool.and_eq_true] at h
    have h1:=ble_t.1 h.1
    rcases List.mem_cons.1 hb with rfl | hb
    · exact h1
    · have:=risesL_ge l _ h.2 b hb; omega
theorem risesL_inj:∀ (l:List Nat) (n:Nat),risesL n l=true→∀ (i j b:Nat),l[i]?=some b→l[j]?=some b→i=j
  | [],_,_,i,_,b,h,_=>by simp at h
  | a :: l,n,h,i,j,b,hi,hj=>by
    simp only [risesL,Bool.and_eq_true] at h
    cases i with
    | zero =>
      simp at hi; subst hi
      cases j with
      | zero=>rfl
      | succ j =>
        simp at hj
        have:=risesL_ge l _ h.2 a (List.mem_of_getElem? hj); omega
    | succ i =>
      simp at hi
      cases j with
      | zero =>
        simp at hj; subst hj
        have:=risesL_ge l _ h.2 a (List.mem_of_getElem? hi); omega
      | succ j=>simp at hj; rw [risesL_inj l _ h.2 i j b hi hj]

theorem graftN_get {n : Nat} {g : Nat → Option Nat} {h1 : Heap} : ∀ (l : List Nat) (h h2 : Heap), graftN n g h1 l h = some h2 → h2.next = h.next + l.length ∧ ∀ j o, h2.get j = some o →
    (h.get j=some o∧(j < h.next ∨ h.next + l.length≤j)) ∨ ∃ i b o1,l[i]?=some b∧j=h.next + i∧h1.get b=some o1∧ownO o1=true∧moved n g o1=some o
  | [],h,h2,e=>by
    simp only [graftN,Option.some.injEq] at e; subst e
    exact ⟨rfl,fun j o hj=>.inl ⟨hj,by rcases Nat.lt_or_ge j h.next with k | k; exact .inl k; exact .inr k⟩⟩
  | b :: l,h,h2,e=>by
    simp only [graftN] at e
    split at e
    · rename_i o1 ho1
      obtain ⟨hown,e⟩:=cond_some e
      split at e
      · rename_i o hmv
        obtain ⟨k1,k2⟩:=graftN_get l _ _ e
        rw [Heap.next_new] at k1
        refine ⟨by rw [k1,List.length_cons]; omega,fun j o' hj=>?_⟩
        rcases k2 j o' hj with ⟨k3,k4⟩ | ⟨i,b',o1',k3,k4,k5,k6,k7⟩
        · rw [Heap.get_new] at k3
          rw [Heap.next_new] at k4
          by_cases hjn:j=h.next
          · rw [if_pos hjn] at k3; cases k3
            exact .inr ⟨0,b,o1,rfl,by omega,ho1,hown,hmv⟩
          · rw [if_neg hjn] at k3
            exact .inl ⟨k3,by rw [List.length_cons]; omega⟩
        · rw [Heap.next_new] at k4
          exact .inr ⟨i + 1,b',o1',by simpa using k3,by omega,k5,k6,k7⟩
      · cases e
    · cases e
theorem graftO_get {n : Nat} {g : Nat → Option Nat} {h1 : Heap} : ∀ (l : List Nat) (h : Heap), (graftO n g h1 l h).next = h.next ∧ ∀ j o, (graftO n g h1 l h).get j = some o →
    (h.get j=some o∧j ∉ l) ∨ (j ∈ l∧(o=.dead ∨ ∃ o1,h1.get j=some o1∧moved n g o1=some o))
  | [],h=>⟨rfl,fun j o hj=>.inl ⟨hj,List.not_mem_nil⟩⟩
  | b :: l,h=>by
    simp only [graftO]
    generalize hx:(match h1.get b with
    | some o1=>(match moved n g o1 with
      | some o=>o
      | none=>AObj.dead)
    | none=>.dead)=x
    have hx':x=.dead ∨ ∃ o1,h1.get b=some o1∧moved n g o1=some x:=by
      rw [← hx]
      cases h2:h1.get b with
      | none=>exact .inl rfl
      | some o1 =>
        cases h3:moved n g o1 with
        | none=>exact .inl (by simp only [h3])
        | some o=>exact .inr ⟨o1,rfl,by simp only [h3]⟩
    obtain ⟨k1,k2⟩:=graftO_get (n:=n) (g:=g) (h1:=h1) l (h.put b x)
    refine ⟨k1,fun j o hj=>?_⟩
    rcases k2 j o hj with ⟨k3,k4⟩ | ⟨k3,k4⟩
    · rw [Heap.get_put] at k3
      by_cases hjb:j=b
      · subst hjb
        rw [if_pos rfl] at k3; cases k3
        exact .inr ⟨List.mem_cons_self,hx'⟩
      · rw [if_neg hjb] at k3
        exact .inl ⟨k3,fun h=>(List.mem_cons.1 h).elim hjb k4⟩
    · exact .inr ⟨List.mem_cons_of_mem _ k3,k4⟩

theorem moved_own {n:Nat} {g:Nat→Option Nat} {o1 o:AObj} (h:moved n g o1=some o):ownO o=ownO o1∧roO o=roO o1:=by
  unfold moved at h
  cases hi:idsO n o1 with
  | true=>rw [hi,cond_true] at h; cases h; exact ⟨rfl,rfl⟩
  | false =>
    rw [hi,cond_false] at h
    split at h
    · split at h
      · cases h; exact ⟨rfl,rfl⟩
      · cases h
    · cases h
theorem moved_ok {p : Par} {n : Nat} {g : Nat → Option Nat} {E1 E2 : Env} (hR : RelB g E1 E2) (hσ : ∀ b, b < n → E2.σ b = E1.σ b ∧ (E1.σ b ≠ none → E2.κ b = E1.κ b)) {o1 o : AObj} {b j : Nat} {heap : Array Obj} (h : moved n g o1 = some o)
    (hb:∀ q,E1.σ b=some q→E2.σ j=some q∧E2.κ j=E1.κ b) (ho:objOk p E1 b o1 heap):objOk p E2 j o heap:=by
  unfold moved at h
  cases hi:idsO n o1 with
  | true=>rw [hi,cond_true] at h; cases h; exact ho.ids hR.ρ hσ hi hb
  | false =>
    rw [hi,cond_false] at h
    split at h
    · split at h
      · rename_i cs el own ext cs' hcs
        cases h
        obtain ⟨c,base,vs,cells,el',fz,k1,k2,k3,k4,k5⟩:=ho
        exact ⟨c,base,vs,cells,el',fz,(hb _ k1).1,rnL_ok hR _ _ _ hcs k2,k3,k4,by rw [(hb _ k1).2]; exact k5⟩
      · cases h
    · cases h

/-- the names,cut -/
def Env.cut (n:Nat) (E:Env):Env:=⟨E.ρ,fun b=>if b < n then E.σ b else none,E.κ,n,fun _=>#[]⟩
def envG (E E1:Env) (k:Nat) (news:List Nat):Env :=
  ⟨E.ρ,fun b=>if b < k then E.σ b else match news[b - k]? with | some c=>E1.σ c | none=>none,fun b=>if b < k then E.κ b else match news[b - k]? with | some c=>E1.κ c | none=>0,k + news.length,E.rc⟩

/-- WHAT A CALL IN A SMALLER HEAP LEAVES,IN THE LARGER ONE. -/
theorem HeapOk.graft {p : Par} {E E1 : Env} {h hv h1 h2 : Heap} {w0 b1 : Base} {w w' : World} {n : Nat} {news owns : List Nat}
    (HH:HeapOk p E h w0 w) (hsub:∀ b o,hv.get b=some o→∃ o',h.get b=some o'∧(ownO o=true→ownO o'=true)) (hvn:∀ b o,hv.get b=some o→b < n) (hn:n≤h.next)
    (howns:∀ b,b ∈ owns ↔ ∃ o,hv.get b=some o∧ownO o=true)
    (hb1:b1.w=w) (hS:∀ c,b1.S c ↔ c < w.heap.size∧∀ b ∈ owns,∀ x,E.σ b ≠ some (c,x))
    (H1:HeapOk p E1 h1 b1 w') (hle:(E.cut n).le E1) (hrise:risesL n news=true)
    (e2:graftN n (nameG n h.next news) h1 news h=some h2) :
    E.le (envG E E1 h.next news)∧RelB (nameG n h.next news) E1 (envG E E1 h.next news)∧HeapOk p (envG E E1 h.next news) (graftO n (nameG n h.next news) h1 owns h2) w0 w':=by
  let F:=envG E E1 h.next news
  have hfr:∀ b q,E.σ b=some q→b < h.next:=fun b q e=>by
    rcases Nat.lt_or_ge b h.next with k | k
    · exact k
    · rw [HH.fresh b k] at e; cases e
  have h1000:1000≤h.next:=by
    rcases Nat.lt_or_ge h.next 1000 with k | k
    · have:=HH.glob h.next k; rw [HH.fresh _ (Nat.le_refl _)] at this; cases this
    · exact k
  have hσ0:∀ b,b < h.next→F.σ b=E.σ b:=fun b hb=>by simp only [F,envG,if_pos hb]
  have hκ0:∀ b,b < h.next→F.κ b=E.κ b:=fun b hb=>by simp only [F,envG,if_pos hb]
  have hσ1:∀ i b,news[i]?=some b→F.σ (h.next + i)=E1.σ b∧F.κ (h.next + i)=E1.κ b:=fun i b hq=>by
    simp only [F,envG,if_neg (show ¬ h.next + i < h.next by omega),Nat.add_sub_cancel_left,hq,and_self]
  have hσ2:∀ b,h.next + news.length≤b→F.σ b=none:=fun b hb=>by
    simp only [F,envG,if_neg (show ¬ b < h.next by omega)]
    rw [List.getElem?_eq_none (by omega)]
  have hEle:E.le F:=by
    refine ⟨⟨rfl,fun b q e=>by rw [hσ0 b (hfr b q e)]; exact e,fun b q e=>hκ0 b (hfr b q e),fun _ _ _=>rfl⟩,?_,fun b hb e=>?_⟩
    · have:=HH.nx; simp only [F,envG]; omega
    · rw [hσ0 b (Nat.lt_of_lt_of_le hb HH.nx)]; exact e
  -- what lay is where it was
  have hlow:∀ b,b < n→E1.σ b=E.σ b∧(E.σ b ≠ none→E1.κ b=E.κ b):=fun b hb=>by
    have hc:(E.cut n).σ b=E.σ b:=by simp only [Env.cut,if_pos hb]
    cases hs:E.σ b with
    | none=>exact ⟨hle.none b hb (hc.trans hs),fun h=>absurd rfl h⟩
    | some q=>exact ⟨hle.σ b q (hc.trans hs),fun _=>hle.κ b q (hc.trans hs)⟩
  have hlowF:∀ b,b < n→F.σ b=E1.σ b∧(E1.σ b ≠ none→F.κ b=E1.κ b):=fun b hb=>by
    have hbn:b < h.next:=by omega
    refine ⟨(hσ0 b hbn).trans (hlow b hb).1.symm,fun hne=>?_⟩
    rw [hκ0 b hbn]
    rw [(hlow b hb).1] at hne
    exact ((hlow b hb).2 hne).symm
  have hρ:F.ρ=E1.ρ:=hle.ρ.symm
  have hR:RelB (nameG n h.next news) E1 F:=by
    refine ⟨hρ,fun b c q hb hq=>?_⟩
    rcases Nat.lt_or_ge b n with hbn | hbn
    · rw [nameG_lt hbn] at hb; cases hb
      obtain ⟨a1,a2⟩:=hlowF b hbn
      exact ⟨a1.trans hq,a2 (by rw [hq]; exact Option.some_ne_none _)⟩
    · obtain ⟨i,k1,k2⟩:=nameG_ge hbn hb
      subst k2
      obtain ⟨a1,a2⟩:=hσ1 i b k1
      exact ⟨a1.trans hq,a2⟩
  obtain ⟨n1,n2⟩:=graftN_get _ _ _ e2
  obtain ⟨m1,m2⟩:=graftO_get (n:=n) (g:=nameG n h.next news) (h1:=h1) owns h2
  have ownlt:∀ b ∈ owns,b < n:=fun b hb=>by obtain ⟨o,h1,_⟩:=(howns b).1 hb; exact hvn b o h1
  -- the three kinds of what lies there
  have kinds : ∀ j o, (graftO n (nameG n h.next news) h1 owns h2).get j = some o →
      (h.get j=some o∧j ∉ owns) ∨ (j ∈ owns∧j < n∧(o=.dead ∨ ∃ o1,h1.get j=some o1∧moved n (nameG n h.next news) o1=some o)) ∨
      ∃ i b o1,news[i]?=some b∧j=h.next + i∧n≤b∧h1.get b=some o1∧ownO o1=true∧moved n (nameG n h.next news) o1=some o:=fun j o hj=>by
    rcases m2 j o hj with ⟨k1,k2⟩ | ⟨k1,k2⟩
    · rcases n2 j o k1 with ⟨k3,_⟩ | ⟨i,b,o1,k3,k4,k5,k6,k7⟩
      · exact .inl ⟨k3,k2⟩
      · exact .inr (.inr ⟨i,b,o1,k3,k4,risesL_ge _ _ hrise b (List.mem_of_getElem? k3),k5,k6,k7⟩)
    · exact .inr (.inl ⟨k1,ownlt j k1,k2⟩)
  have clear:∀ j o c x,h.get j=some o→j ∉ owns→(ownO o=true ∨ roO o=true)→E.σ j=some (c,x)→b1.S c:=fun j o c x g hno hk hs=>by
    refine (hS c).2 ⟨HH.lt _ _ _ _ g hs,fun b hb y hy=>?_⟩
    obtain ⟨o',k1,k2⟩:=(howns b).1 hb
    obtain ⟨o2,k3,k4⟩:=hsub _ _ k1
    rcases hk with hk | hk
    · have:=HH.inj _ _ _ _ _ _ _ k3 g (k4 k2) hk hy hs
      subst this; exact hno hb
    · exact HH.base _ _ _ _ k3 (k4 k2) hy (HH.ro _ _ _ _ g hk hs)
  have w0S:∀ c,w0.S c→b1.S c:=fun c hc=>(hS c).2 ⟨HH.below.lt hc,fun b hb y hy=>by
    obtain ⟨o',k1,k2⟩:=(howns b).1 hb
    obtain ⟨o2,k3,k4⟩:=hsub _ _ k1
    exact HH.base _ _ _ _ k3 (k4 k2) hy hc⟩
  have kept:Kept b1.S w w':=hb1 ▸ H1.below
  refine ⟨hEle,hR,⟨fun j o hj=>?_,fun j j' o o' c x y g1 g2 w1 w2 s1 s2=>?_,fun j o c x hj hw s hc=>?_,fun j o c y hj hr s=>?_,fun b hb=>?_,fun j o c x hj s=>?_,fun b hb=>?_,?_,?_,HH.ok⟩⟩
  · rcases kinds j o hj with ⟨k1,k2⟩ | ⟨k1,k2,k3⟩ | ⟨i,b,o1,k1,k2,k3,k4,k5,k6⟩
    · refine (HH.obj j o k1).mono hEle.tole0 (fun hn=>?_) (fun c x hc hk=>kept.block c (clear j o c x k1 k2 hk hc))
      rcases Nat.lt_or_ge j h.next with hl | hl
      · rw [hσ0 j hl]; exact hn
      · rcases n2 j o (by
          rcases m2 j o hj with ⟨q1,_⟩ | ⟨q1,_⟩
          · exact q1
          · exact absurd q1 k2) with ⟨_,q3⟩ | ⟨i,b,o1,q3,q4,q5,q6,q7⟩
        · rcases q3 with q3 | q3
          · omega
          · exact hσ2 j q3
        · subst q4
          rw [(hσ1 i b q3).1]
          cases hb:E1.σ b with
          | none=>rfl
          | some q =>
            exfalso
            -- an object of the larger heap above its end has no block
            have:=HH.obj _ o k1
            have hno:E.σ (h.next + i)=none:=HH.fresh _ (by omega)
            have hmm:=moved_own q7
            cases o with
            | cells=>obtain ⟨c,b',vs,cl,el,fz,g1,_⟩:=this; rw [hno] at g1; cases g1
            | map=>obtain ⟨c,ms,g1,_⟩:=this; rw [hno] at g1; cases g1
            | rmap=>obtain ⟨c,ms,g1,_⟩:=this; rw [hno] at g1; cases g1
            | umap=>obtain ⟨c,es,ms,k,g1,_⟩:=this; rw [hno] at g1; cases g1
            | ucells=>obtain ⟨c,b',cl,el,fz,g1,_⟩:=this; rw [hno] at g1; cases g1
            | loop=>obtain ⟨c,d',n',kp,r,g1,_⟩:=this; rw [hno] at g1; cases g1
            | defd=>obtain ⟨c,g1,_⟩:=this; rw [hno] at g1; cases g1
            | resv =>
              -- what is moved is never reserved
              unfold moved at q7
              cases hi:idsO n o1 with
              | true=>rw [hi,cond_true] at q7; cases q7; cases hi
              | false =>
                rw [hi,cond_false] at q7
                split at q7
                · split at q7 <;> cases q7
                · cases q7
            | dead=>rw [hmm.1.symm] at q6; cases q6
    · rcases k3 with rfl | ⟨o1,k3,k4⟩
      · trivial
      · exact moved_ok hR hlowF k4 (fun q hq => by
          obtain ⟨a1,a2⟩:=hlowF j k2
          exact ⟨a1.trans hq,a2 (by rw [hq]; exact Option.some_ne_none _)⟩) (H1.obj _ _ k3)
    · subst k2
      exact moved_ok hR hlowF k6 (fun q hq=>by
        obtain ⟨a1,a2⟩:=hσ1 i b k1
        exact ⟨a1.trans hq,a2⟩) (H1.obj _ _ k4)
  · -- each block has one name
    have name : ∀ j o c x, (graftO n (nameG n h.next news) h1 owns h2).get j = some o → ownO o = true → F.σ j = some (c, x) →
        (j < h.next∧h.get j=some o∧j ∉ owns∧E.σ j=some (c,x)∧b1.S c) ∨ (∃ b o1,h1.get b=some o1∧ownO o1=true∧E1.σ b=some (c,x)∧¬ b1.S c∧((b=j∧j < n) ∨ ∃ i,news[i]?=some b∧j=h.next + i∧n≤b)):=fun j o c x g hw s=>by
      rcases kinds j o g with ⟨k1,k2⟩ | ⟨k1,k2,k3⟩ | ⟨i,b,o1,k1,k2,k3,k4,k5,k6⟩
      · have hl : j < h.next := by
          rcases Nat.lt_or_ge j h.next with hl | hl
          · exact hl
          · exfalso
            have hob:=HH.obj _ o k1
            have hno:E.σ j=none:=HH.fresh _ hl
            cases o with
            | cells=>obtain ⟨c,b',vs,cl,el,fz,g1,_⟩:=hob; rw [hno] at g1; cases g1
            | map=>obtain ⟨c,ms,g1,_⟩:=hob; rw [hno] at g1; cases g1
            | rmap=>cases hw
            | umap=>obtain ⟨c,es,ms,k,g1,_⟩:=hob; rw [hno] at g1; cases g1
            | ucells=>cases hw
            | loop=>obtain ⟨c,d',n',kp,r,g1,_⟩:=hob; rw [hno] at g1; cases g1
            | defd=>obtain ⟨c,g1,_⟩:=hob; rw [hno] at g1; cases g1
            | resv =>
              -- what is reserved above the end of the larger heap
              rcases n2 j .resv (by
                rcases m2 j _ g with ⟨q1,_⟩ | ⟨q1,_⟩
                · exact q1
                · exact absurd q1 k2) with ⟨_,q3⟩ | ⟨i,b,o1,q3,q4,q5,q6,q7⟩
              · rcases q3 with q3 | q3
                · omega
                · rw [hσ2 j q3] at s; cases s
              · unfold moved at q7
                cases hi:idsO n o1 with
                | true=>rw [hi,cond_true] at q7; cases q7; cases hi
                | false =>
                  rw [hi,cond_false] at q7
                  split at q7
                  · split at q7 <;> cases q7
                  · cases q7
            | dead=>cases hw
        rw [hσ0 j hl] at s
        exact .inl ⟨hl,k1,k2,s,clear j o c x k1 k2 (.inl hw) s⟩
      · rcases k3 with rfl | ⟨o1,k3,k4⟩
        · cases hw
        · have hw1:ownO o1=true:=(moved_own k4).1.symm.trans hw
          have hs:E1.σ j=some (c,x):=(hlowF j k2).1.symm.trans s
          exact .inr ⟨j,o1,k3,hw1,hs,H1.base _ _ _ _ k3 hw1 hs,.inl ⟨rfl,k2⟩⟩
      · subst k2
        rw [(hσ1 i b k1).1] at s
        exact .inr ⟨b,o1,k4,k5,s,H1.base _ _ _ _ k4 k5 s,.inr ⟨i,k1,rfl,k3⟩⟩
    rcases name j o c x g1 w1 s1 with ⟨a1,a2,a3,a4,a5⟩ | ⟨b,o1,a1,a2,a3,a4,a5⟩
    · rcases name j' o' c y g2 w2 s2 with ⟨c1,c2,c3,c4,c5⟩ | ⟨b',o1',c1,c2,c3,c4,c5⟩
      · exact HH.inj _ _ _ _ _ _ _ a2 c2 w1 w2 a4 c4
      · exact absurd a5 c4
    · rcases name j' o' c y g2 w2 s2 with ⟨c1,c2,c3,c4,c5⟩ | ⟨b',o1',c1,c2,c3,c4,c5⟩
      · exact absurd c5 a4
      · have hbb:=H1.inj _ _ _ _ _ _ _ a1 c1 a2 c2 a3 c3
        subst hbb
        rcases a5 with ⟨rfl,a6⟩ | ⟨i,a6,a7,a8⟩
        · rcases c5 with ⟨rfl,_⟩ | ⟨i',_,_,c8⟩
          · rfl
          · omega
        · rcases c5 with ⟨rfl,c6⟩ | ⟨i',c6,c7,_⟩
          · omega
          · rw [a7,c7,risesL_inj _ _ hrise i i' b a6 c6]
  · rcases kinds j o hj with ⟨k1,k2⟩ | ⟨k1,k2,k3⟩ | ⟨i,b,o1,k1,k2,k3,k4,k5,k6⟩
    · rcases Nat.lt_or_ge j h.next with hl | hl
      · rw [hσ0 j hl] at s; exact HH.base _ _ _ _ k1 hw s hc
      · rcases n2 j o (by
          rcases m2 j o hj with ⟨q1,_⟩ | ⟨q1,_⟩
          · exact q1
          · exact absurd q1 k2) with ⟨_,q3⟩ | ⟨i,b,o1,q3,q4,q5,q6,q7⟩
        · rcases q3 with q3 | q3
          · omega
          · rw [hσ2 j q3] at s; cases s
        · subst q4
          rw [(hσ1 i b q3).1] at s
          exact H1.base _ _ _ _ q5 q6 s (w0S c hc)
    · rcases k3 with rfl | ⟨o1,k3,k4⟩
      · cases hw
      · have hw1:ownO o1=true:=(moved_own k4).1.symm.trans hw
        have hs:E1.σ j=some (c,x):=(hlowF j k2).1.symm.trans s
        exact H1.base _ _ _ _ k3 hw1 hs (w0S c hc)
    · subst k2
      rw [(hσ1 i b k1).1] at s
      exact H1.base _ _ _ _ k4 k5 s (w0S c hc)
  · rcases kinds j o hj with ⟨k1,k2⟩ | ⟨k1,k2,k3⟩ | ⟨i,b,o1,k1,k2,k3,k4,k5,k6⟩
    · rcases Nat.lt_or_ge j h.next with hl | hl
      · rw [hσ0 j hl] at s; exact HH.ro _ _ _ _ k1 hr s
      · rcases n2 j o (by
          rcases m2 j o hj with ⟨q1,_⟩ | ⟨q1,_⟩
          · exact q1
          · exact absurd q1 k2) with ⟨_,q3⟩ | ⟨i,b,o1,q3,q4,q5,q6,q7⟩
        · rcases q3 with q3 | q3
          · omega
          · rw [hσ2 j q3] at s; cases s
        · have:=moved_own q7
          rw [roO_own (this.1.trans q6)] at hr; cases hr
    · rcases k3 with rfl | ⟨o1,k3,k4⟩
      · cases hr
      · -- what may be written is not what is only read
        have hr1:roO o1=true:=(moved_own k4).2.symm.trans hr
        have hs:E1.σ j=some (c,y):=(hlowF j k2).1.symm.trans s
        have hS1:=H1.ro _ _ _ _ k3 hr1 hs
        exact absurd ((hlow j k2).1.symm.trans hs) (((hS c).1 hS1).2 j k1 y)
    · have:=moved_own k6
      rw [roO_own (this.1.trans k5)] at hr; cases hr
  · rw [m1,n1] at hb; exact hσ2 b hb
  · rcases kinds j o hj with ⟨k1,k2⟩ | ⟨k1,k2,k3⟩ | ⟨i,b,o1,k1,k2,k3,k4,k5,k6⟩
    · rcases Nat.lt_or_ge j h.next with hl | hl
      · rw [hσ0 j hl] at s; exact Nat.lt_of_lt_of_le (HH.lt _ _ _ _ k1 s) kept.size
      · rcases n2 j o (by
          rcases m2 j o hj with ⟨q1,_⟩ | ⟨q1,_⟩
          · exact q1
          · exact absurd q1 k2) with ⟨_,q3⟩ | ⟨i,b,o1,q3,q4,q5,q6,q7⟩
        · rcases q3 with q3 | q3
          · omega
          · rw [hσ2 j q3] at s; cases s
        · subst q4
          rw [(hσ1 i b q3).1] at s
          exact H1.lt _ _ _ _ q5 s
    · rcases k3 with rfl | ⟨o1,k3,k4⟩
      · obtain ⟨o',q1,_⟩:=(howns j).1 k1
        obtain ⟨o2,k3,_⟩:=hsub _ _ q1
        rw [hσ0 j (by omega)] at s
        exact Nat.lt_of_lt_of_le (HH.lt _ _ _ _ k3 s) kept.size
      · exact H1.lt _ _ _ _ k3 ((hlowF j k2).1.symm.trans s)
    · subst k2
      rw [(hσ1 i b k1).1] at s
      exact H1.lt _ _ _ _ k4 s
  · rw [hσ0 b (by omega)]; exact HH.glob b hb
  · exact HH.below.trans ⟨kept.os,kept.tape,kept.output,kept.size,fun c hc=>kept.block c (w0S c hc)⟩
  · rw [m1,n1]; exact Nat.le_refl _
end Go.Sx
/-! CALLS,AS THEY ARE SAID OF A SMALL HEAP: read with other numbers,and taken up in a larger heap. -/
namespace Go.Sx
open Go.RowKit

/-! ## A heap of a few blocks -/
noncomputable def viewA (n:Nat):List (Nat × AObj)→Heap
  | []=>⟨.nil,n⟩
  | g :: l=>(viewA n l).put g.1 g.2
theorem viewA_next (n:Nat):∀ l,(viewA n l).next=n
  | []=>rfl
  | g :: l=>by rw [viewA,Heap.next_put]; exact viewA_next n l
theorem viewA_get (n:Nat):∀ (l:List (Nat × AObj)) (b:Nat) (o:AObj),(viewA n l).get b=some o→(b,o) ∈ l
  | [],b,o,h=>by
    have:(PT.nil:PT AObj).get b=some o:=h
    rw [PT.get_nil] at this; cases this
  | g :: l,b,o,h=>by
    rw [viewA,Heap.get_put] at h
    by_cases c:b=g.1
    · rw [if_pos c] at h; cases h; rw [c]; exact List.mem_cons_self
    · rw [if_neg c] at h; exact List.mem_cons_of_mem _ (viewA_get n l b o h)
def upA (n:Nat):List (Nat × AObj)→Bool
  | []=>true
  | g :: l=>and (Nat.ble n g.1) (upA (g.1 + 1) l)
theorem upA_ge:∀ (l:List (Nat × AObj)) (n:Nat),upA n l=true→∀ g ∈ l,n≤g.1
  | [],_,_,g,hg=>(List.not_mem_nil hg).elim
  | a :: l,n,h,g,hg=>by
    simp only [upA,Bool.and_eq_true] at h
    have h1:=ble_t.1 h.1
    rcases List.mem_cons.1 hg with rfl | hg
    · exact h1
    · have:=upA_ge l _ h.2 g hg; omega
theorem viewA_mem (k:Nat):∀ (l:List (Nat × AObj)) (n:Nat),upA n l=true→∀ g ∈ l,(viewA k l).get g.1=some g.2
  | [],_,_,g,hg=>(List.not_mem_nil hg).elim
  | a :: l,n,h,g,hg=>by
    simp only [upA,Bool.and_eq_true] at h
    rw [viewA,Heap.get_put]
    rcases List.mem_cons.1 hg with rfl | hg
    · rw [if_pos rfl]
    · have:=upA_ge l _ h.2 g hg
      rw [if_neg (by omega)]
      exact viewA_mem k l _ h.2 g hg
def ownsOf:List (Nat × AObj)→List Nat
  | []=>[]
  | g :: l=>cond (ownO g.2) (g.1 :: ownsOf l) (ownsOf l)
theorem mem_ownsOf:∀ (l:List (Nat × AObj)) (b:Nat),b ∈ ownsOf l ↔ ∃ o,(b,o) ∈ l∧ownO o=true
  | [],b=>⟨fun h=>(List.not_mem_nil h).elim,fun ⟨_,h,_⟩=>(List.not_mem_nil h).elim⟩
  | g :: l,b=>by
    simp only [ownsOf]
    cases hg:ownO g.2 with
    | true =>
      rw [cond_true,List.mem_cons,mem_ownsOf l b]
      constructor
      · rintro (rfl | ⟨o,h1,h2⟩)
        · exact ⟨g.2,List.mem_cons_self,hg⟩
        · exact ⟨o,List.mem_cons_of_mem _ h1,h2⟩
      · rintro ⟨o,h1,h2⟩
        rcases List.mem_cons.1 h1 with h | h
        · exact .inl (congrArg Prod.fst h)
        · exact .inr ⟨o,h,h2⟩
    | false =>
      rw [cond_false,mem_ownsOf l b]
      constructor
      · rintro ⟨o,h1,h2⟩; exact ⟨o,List.mem_cons_of_mem _ h1,h2⟩
      · rintro ⟨o,h1,h2⟩
        rcases List.mem_cons.1 h1 with h | h
        · have:o=g.2:=congrArg Prod.snd h
          subst this; rw [hg] at h2; cases h2
        · exact ⟨o,h,h2⟩

/-! ## An object,told with less -/
/-- 'o' tells no more than what lies there -/
theorem concL_front {E:Env}:∀ {l m:List AV} {vs:List Value},concL E (l ++ m)=some vs→∃ us ws,concL E l=some us∧vs=us ++ ws
  | [],m,vs,h=>⟨[],vs,rfl,rfl⟩
  | a :: l,m,vs,h=>by
    obtain ⟨v,r,h1,h2,rfl⟩:=concL_cons.1 (show concL E (a :: (l ++ m))=some vs from h)
    obtain ⟨us,ws,e1,rfl⟩:=concL_front h2
    exact ⟨v :: us,ws,concL_cons.2 ⟨v,us,h1,e1,rfl⟩,rfl⟩
inductive Less:AObj→AObj→Prop where
  | refl (o:AObj):Less o o
  | cut (cs r:List AV) (el:TypeId) (own ext:Bool):Less (.cells cs 0 false false) (.cells (cs ++ r) el own ext)
  | read (cs:List AV) (el:TypeId) (own ext:Bool):Less (.cells cs 0 false false) (.cells cs el own ext)
  | dull (m:MU):Less (.umap m.dull) (.umap m)
theorem Less.own {o o':AObj} (h:Less o o'):ownO o=true→ownO o'=true:=by cases h <;> intro k <;> first | exact k | cases k
theorem Less.kinds {o o':AObj} (h:Less o o'):roO o=true→ownO o'=true ∨ roO o'=true:=by
  cases h with
  | refl=>exact fun h=>.inr h
  | cut cs r el own ext=>intro _; cases own; exact .inr rfl; exact .inl rfl
  | read cs el own ext=>intro _; cases own; exact .inr rfl; exact .inl rfl
  | dull m=>intro h; cases h
theorem Less.obj {o o':AObj} (h:Less o o') {p:Par} {E:Env} {b:Nat} {heap:Array Obj} (k:objOk p E b o' heap):objOk p E b o heap:=by
  cases h with
  | refl=>exact k
  | cut cs r el own ext =>
    obtain ⟨c,base,vs,cells,el',fz,k1,k2,k3,k4,k5⟩:=k
    obtain ⟨us,ws,e1,rfl⟩:=concL_front k2
    refine ⟨c,base,us,cells,el',fz,k1,e1,k3,fun i hi=>?_,fun h=>by cases h⟩
    rw [k4 i (by rw [List.length_append]; omega),List.getElem?_append_left hi]
  | read cs el own ext =>
    obtain ⟨c,base,vs,cells,el',fz,k1,k2,k3,k4,k5⟩:=k
    exact ⟨c,base,vs,cells,el',fz,k1,k2,k3,k4,fun h=>by cases h⟩
  | dull m =>
    obtain ⟨c,es,ms,clock,k1,k2,k3,k4⟩:=k
    exact ⟨c,es,ms,clock,k1,k2,k3,k4.1,(fun h=>by cases h),k4.2.2⟩

/-! ## Taken up in a larger heap -/
noncomputable def graftV (n:Nat) (g:Nat→Option Nat) (v:AV):Option AV:=cond (idsLt n v) (some v) (rnV g v)
noncomputable def graftT (n:Nat) (l:List (Nat × AObj)) (h:Heap) (news:List Nat) (r:AV × Heap):T (AV × Heap) :=
  cond (risesL n news) (match graftN n (nameG n h.next news) r.2 news h with
  | some h2=>(match graftV n (nameG n h.next news) r.1 with
    | some v=>.ret (v,graftO n (nameG n h.next news) r.2 (ownsOf l) h2)
    | none=>.fail 98)
  | none=>.fail 98) (.fail 98)
noncomputable def viewOk (n:Nat) (l:List (Nat × AObj)):Bool:=and (upA 0 l) (lAll (fun g:Nat × AObj=>and (Nat.ble (g.1 + 1) n) (idsO n g.2)) l)

theorem view_heapOk {p : Par} {E : Env} {h : Heap} {w0 : Base} {w : World} {n : Nat} {l : List (Nat × AObj)} (HH : HeapOk p E h w0 w) (hv : viewOk n l = true) (_ : n ≤ h.next) (h1000 : 1000 ≤ n)
    (hl:∀ g ∈ l,∃ o,h.get g.1=some o∧Less g.2 o) (b1:Base) (hb1:b1=⟨w,fun c=>c < w.heap.size∧∀ b ∈ ownsOf l,∀ x,E.σ b ≠ some (c,x),fun _ h=>h.1⟩):HeapOk p (E.cut n) (viewA n l) b1 w:=by
  subst hb1
  unfold viewOk at hv
  simp only [Bool.and_eq_true] at hv
  obtain ⟨hup,hall⟩:=hv
  have hσ:∀ b,b < n→(E.cut n).σ b=E.σ b∧(E.σ b ≠ none→(E.cut n).κ b=E.κ b):=fun b hb=>⟨by simp only [Env.cut,if_pos hb],fun _=>rfl⟩
  have inl:∀ g ∈ l,g.1 < n∧idsO n g.2=true:=fun g hg=>by
    have:=lAll_mem hall g hg
    simp only [Bool.and_eq_true] at this
    exact ⟨ble_t.1 this.1,this.2⟩
  have cutσ:∀ b q,(E.cut n).σ b=some q→b < n∧E.σ b=some q:=fun b q e=>by
    simp only [Env.cut] at e
    split at e
    · rename_i hb; exact ⟨hb,e⟩
    · cases e
  have lt:∀ b o c x,(viewA n l).get b=some o→(E.cut n).σ b=some (c,x)→c < w.heap.size:=fun b o c x g s=>by
    obtain ⟨o',h1,_⟩:=hl _ (viewA_get _ _ _ _ g)
    exact HH.lt _ _ _ _ h1 (cutσ _ _ s).2
  have owns:∀ b ∈ ownsOf l,∃ o',h.get b=some o'∧ownO o'=true:=fun b hb=>by
    obtain ⟨o,h1,h2⟩:=(mem_ownsOf l b).1 hb
    obtain ⟨o',h3,h4⟩:=hl _ h1
    exact ⟨o',h3,h4.own h2⟩
  refine ⟨fun b o g=>?_,fun b b' o o' c x y g1 g2 w1 w2 s1 s2=>?_,fun b o c x g hw s hc=>?_,fun b o c y g hr s=>?_,fun b hb=>?_,lt,fun b hb=>?_,Kept.refl _ _,(by rw [viewA_next]; exact Nat.le_refl _),HH.ok.mono fun c o e'=>⟨⟨HH.below.lt e'.1,fun b hb x hx=>?_⟩,Base.Keeps.has HH.below e'⟩⟩
  · have hm:=viewA_get _ _ _ _ g
    obtain ⟨o',h1,h2⟩:=hl _ hm
    obtain ⟨h3,h4⟩:=inl _ hm
    have hb:objOk p E b o w.heap:=h2.obj (HH.obj _ _ h1)
    exact objOk.ids (E:=E) (E':=E.cut n) rfl hσ h4 (fun q hq=>⟨(hσ b h3).1.trans hq,rfl⟩) hb
  · obtain ⟨o1,h1,h2⟩:=hl _ (viewA_get _ _ _ _ g1)
    obtain ⟨o2,h3,h4⟩:=hl _ (viewA_get _ _ _ _ g2)
    exact HH.inj _ _ _ _ _ _ _ h1 h3 (h2.own w1) (h4.own w2) (cutσ _ _ s1).2 (cutσ _ _ s2).2
  · exact hc.2 b ((mem_ownsOf l b).2 ⟨o,viewA_get _ _ _ _ g,hw⟩) x (cutσ _ _ s).2
  · refine ⟨lt _ _ _ _ g s,fun b' hb' x hx=>?_⟩
    have hm:=viewA_get _ _ _ _ g
    obtain ⟨o1,h1,h2⟩:=hl _ hm
    obtain ⟨o2,h3,h4⟩:=owns b' hb'
    rcases h2.kinds hr with k | k
    · have:=HH.inj _ _ _ _ _ _ _ h1 h3 k h4 (cutσ _ _ s).2 hx
      subst this
      obtain ⟨o3,h5,h6⟩:=(mem_ownsOf l b).1 hb'
      have e1:=viewA_mem n l 0 hup _ hm
      have e2:=viewA_mem n l 0 hup _ h5
      have e3:(viewA n l).get b=some o:=e1
      have e4:(viewA n l).get b=some o3:=e2
      rw [e3] at e4; cases e4
      rw [roO_own h6] at hr; cases hr
    · exact HH.base _ _ _ _ h3 h4 hx (HH.ro _ _ _ _ h1 k (cutσ _ _ s).2)
  · rw [viewA_next] at hb
    simp only [Env.cut,if_neg (show ¬ b < n by omega)]
  · have hb':b < n:=by omega
    rw [(hσ b hb').1]; exact HH.glob b hb
  · obtain ⟨o',h3,h4⟩:=owns b hb
    exact HH.base _ _ _ _ h3 h4 hx e'.1

/-- A CALL IN A SMALL HEAP,TAKEN UP IN A LARGER ONE: 'nw' says of which new blocks something is told further on. -/
theorem CallOk.frame {p : Par} {f : FuncId} {args : List AV} {n : Nat} {l : List (Nat × AObj)} {t : T (AV × Heap)} (hc : CallOk p f args (viewA n l) t) (h1000 : 1000 ≤ n) (hids : idsLts n args = true) (hv : viewOk n l = true)
    {h:Heap} (hl:∀ g ∈ l,∃ o,h.get g.1=some o∧Less g.2 o) (hn:n≤h.next) (nw:AV × Heap→List Nat):CallOk p f args h (t.bind fun r=>graftT n l h (nw r) r):=by
  intro vs E w0 w Q K k HH ha P
  rw [T.holds_bind] at k
  let b1:Base:=⟨w,fun c=>c < w.heap.size∧∀ b ∈ ownsOf l,∀ x,E.σ b ≠ some (c,x),fun _ h=>h.1⟩
  have HV:=view_heapOk HH hv hn h1000 hl b1 rfl
  have hσ:∀ b,b < n→(E.cut n).σ b=E.σ b∧(E.σ b ≠ none→(E.cut n).κ b=E.κ b):=fun b hb=>⟨by simp only [Env.cut,if_pos hb],fun _=>rfl⟩
  have ha':concL (E.cut n) args=some vs:=by rw [concL_ids (E:=E) (E':=E.cut n) rfl hσ args hids]; exact ha
  unfold viewOk at hv
  simp only [Bool.and_eq_true] at hv
  obtain ⟨hup,hall⟩:=hv
  refine hc vs (E.cut n) b1 w _ K k HV ha' ?_
  intro v' h1 E1 w' cv q hle H1 hcv
  unfold graftT at q
  cases hr:risesL n (nw (v',h1)) with
  | false=>rw [hr] at q; exact q.elim
  | true =>
    rw [hr,cond_true] at q
    split at q
    · rename_i h2 e2
      split at q
      · rename_i v ev
        have key := HH.graft (hv := viewA n l) (owns := ownsOf l) (fun b o g => by
            obtain ⟨o',k1,k2⟩:=hl _ (viewA_get _ _ _ _ g)
            exact ⟨o',k1,k2.own⟩) (fun b o g=>by
            have:=lAll_mem hall _ (viewA_get _ _ _ _ g)
            simp only [Bool.and_eq_true] at this
            exact ble_t.1 this.1) hn (fun b=>by
            rw [mem_ownsOf]
            exact ⟨fun ⟨o,k1,k2⟩=>⟨o,viewA_mem n l 0 hup _ k1,k2⟩,fun ⟨o,k1,k2⟩=>⟨o,viewA_get _ _ _ _ k1,k2⟩⟩) (b1:=b1) rfl (fun c=>Iff.rfl) H1 hle hr e2
        obtain ⟨z1,z2,z3⟩:=key
        refine P v _ _ w' cv q z1 z3 ?_
        unfold graftV at ev
        cases hi:idsLt n v' with
        | true =>
          rw [hi,cond_true] at ev; cases ev
          have low:∀ b,b < n→(envG E E1 h.next (nw (v',h1))).σ b=E1.σ b∧(E1.σ b ≠ none→(envG E E1 h.next (nw (v',h1))).κ b=E1.κ b):=fun b hb=>by
            have hbn:b < h.next:=by omega
            have hcs:(E.cut n).σ b=E.σ b:=(hσ b hb).1
            have e1:(envG E E1 h.next (nw (v',h1))).σ b=E.σ b:=by simp only [envG,if_pos hbn]
            have e2:(envG E E1 h.next (nw (v',h1))).κ b=E.κ b:=by simp only [envG,if_pos hbn]
            cases hs:E.σ b with
            | none=>exact ⟨by rw [e1,hs,hle.none b hb (hcs.trans hs)],fun hne=>absurd (hle.none b hb (hcs.trans hs)) hne⟩
            | some q=>exact ⟨by rw [e1,hs,hle.σ b q (hcs.trans hs)],fun _=>by rw [e2]; exact (hle.κ b q (hcs.trans hs)).symm⟩
          rw [conc_ids (E:=E1) (E':=envG E E1 h.next (nw (v',h1))) z2.ρ low v' hi]
          exact hcv
        | false =>
          rw [hi,cond_false] at ev
          exact rnV_ok z2 _ _ _ ev hcv
      · exact q.elim
    · exact q.elim

/-! ## Read with other numbers -/
/-- an object of one reading tells what one of another reading does -/
def SameA (p0 p:Par) (ρ0:Rho) (o0:AObj) (ρ:Rho) (o:AObj):Prop :=
  (ownO o=true→ownO o0=true)∧(roO o=true→roO o0=true)∧∀ σ κ n rc heap b,objOk p0 ⟨ρ0,σ,κ,n,rc⟩ b o0 heap→objOk p ⟨ρ,σ,κ,n,rc⟩ b o heap
def SameH (p0 p:Par) (ρ0:Rho) (h0:Heap) (ρ:Rho) (h:Heap):Prop:=h0.next=h.next∧∀ b o,h.get b=some o→∃ o0,h0.get b=some o0∧SameA p0 p ρ0 o0 ρ o

theorem HeapOk.read {p0 p:Par} {ρ0 ρ:Rho} {σ:Nat→Option (Nat × Nat)} {κ:Nat→Nat} {n:Nat} {rc:Nat→Array Value} {h0 h:Heap} {w0:Base} {w:World} (H:HeapOk p0 ⟨ρ0,σ,κ,n,rc⟩ h0 w0 w) (S:SameH p0 p ρ0 h0 ρ h) (hok:p.okB ρ w0):HeapOk p ⟨ρ,σ,κ,n,rc⟩ h w0 w:=by
  obtain ⟨sn,so⟩:=S
  refine ⟨fun b o g=>?_,fun b b' o o' c x y g1 g2 w1 w2 s1 s2=>?_,fun b o c x g hw s=>?_,fun b o c y g hr s=>?_,fun b hb=>H.fresh b (by rw [sn]; exact hb),fun b o c x g s=>?_,H.glob,H.below,by rw [← sn]; exact H.nx,hok⟩
  · obtain ⟨o0,g0,_,_,k⟩:=so b o g
    exact k σ κ n rc w.heap b (H.obj b o0 g0)
  · obtain ⟨o0,a1,a2,_⟩:=so b o g1
    obtain ⟨o0',c1,c2,_⟩:=so b' o' g2
    exact H.inj _ _ _ _ _ _ _ a1 c1 (a2 w1) (c2 w2) s1 s2
  · obtain ⟨o0,a1,a2,_⟩:=so b o g
    exact H.base _ _ _ _ a1 (a2 hw) s
  · obtain ⟨o0,a1,_,a3,_⟩:=so b o g
    exact H.ro _ _ _ _ a1 (a3 hr) s
  · obtain ⟨o0,a1,_⟩:=so b o g
    exact H.lt _ _ _ _ a1 s

/-- A CALL,READ WITH OTHER NUMBERS,and told otherwise. -/
theorem CallOk.read {p0 p : Par} (hP : p0.P = p.P) {f : FuncId} {args0 args : List AV} {h0 h : Heap} {t0 t : T (AV × Heap)} (hc : CallOk p0 f args0 h0 t0)
    (H:∀ ρ b,p.okB ρ b→∀ Q:AV × Heap→Prop,t.Holds ρ Q→∃ ρ',p0.okB ρ' b∧SameL ρ args ρ' args0∧SameH p p0 ρ h ρ' h0∧t0.Holds ρ' fun r0=>∃ r,Q r∧SameV ρ' r0.1 ρ r.1∧SameH p0 p ρ' r0.2 ρ r.2):CallOk p f args h t:=by
  intro vs E w0 w Q K k HH ha P
  obtain ⟨ρ',hok,hargs,hh,ht⟩:=H E.ρ w0 HH.ok Q k
  have HH0:HeapOk p0 ⟨ρ',E.σ,E.κ,E.n,E.rc⟩ h0 w0 w:=HeapOk.read (ρ0:=E.ρ) (σ:=E.σ) (κ:=E.κ) (n:=E.n) (rc:=E.rc) HH hh hok
  have ha0:concL ⟨ρ',E.σ,E.κ,E.n,E.rc⟩ args0=some vs:=by
    rw [← hargs E.σ E.κ E.n E.n E.rc E.rc]; exact ha
  have key:=hc vs ⟨ρ',E.σ,E.κ,E.n,E.rc⟩ w0 w _ K ht HH0 ha0 (fun v' h' E1 w' cv q hle H1 hcv=>by
    obtain ⟨r,hq,hv,hs⟩:=q
    have hρ1:E1.ρ=ρ':=hle.ρ
    have H2:HeapOk p ⟨E.ρ,E1.σ,E1.κ,E1.n,E1.rc⟩ r.2 w0 w':=HeapOk.read (ρ0:=ρ') (σ:=E1.σ) (κ:=E1.κ) (n:=E1.n) (rc:=E1.rc) (by rw [← hρ1]; exact H1) hs HH.ok
    refine P r.1 r.2 ⟨E.ρ,E1.σ,E1.κ,E1.n,E1.rc⟩ w' cv hq ⟨⟨rfl,hle.σ,hle.κ,hle.rc⟩,hle.n,hle.none⟩ H2 ?_
    have:=hv E1.σ E1.κ E1.n E1.n E1.rc E1.rc
    rw [← this,← hρ1]; exact hcv)
  rw [hP] at key
  exact key
end Go.Sx
/-! A CALL THAT ONLY READS A BLOCK,WHEREVER THIS BLOCK LIES. -/
namespace Go.Sx
open Go.RowKit
def mvN (a c b:Nat):Nat:=if b=a then c else b
def Env.mv (a c n:Nat) (E:Env):Env:=⟨E.ρ,fun b=>if b < n then E.σ (mvN a c b) else none,fun b=>E.κ (mvN a c b),n,fun _=>#[]⟩
/-- what is read only may lie under another number -/
theorem CallOk.moved {p : Par} {f : FuncId} {args0 args : List AV} {n a c : Nat} {l : List (Nat × AObj)} {v : AV} {h0 : Heap} (hc : CallOk p f args0 (viewA n l) (.ret (v, h0)))
    (h1000:1000≤n) (ha:1000≤a) (hv:idsLt 0 v=true) (hl:∀ g ∈ l,g.1 < n∧ownO g.2=false∧idsO 0 g.2=true)
    {h:Heap} (hm:∀ g ∈ l,∃ o,h.get (mvN a c g.1)=some o∧Less g.2 o) (hargs:∀ E:Env,concL (E.mv a c n) args0=concL E args):CallOk p f args h (.ret (v,h)):=by
  intro vs E w0 w Q K k HH hA P
  have k:Q (v,h):=k
  let b1:Base:=Base.of w
  have none0:∀ b,b < 0→(E.mv a c n).σ b=E.σ b∧(E.σ b ≠ none→(E.mv a c n).κ b=E.κ b):=fun b hb=>absurd hb (Nat.not_lt_zero b)
  have mvσ:∀ b q,(E.mv a c n).σ b=some q→b < n∧E.σ (mvN a c b)=some q:=fun b q e=>by
    simp only [Env.mv] at e
    split at e
    · rename_i hb; exact ⟨hb,e⟩
    · cases e
  have lt:∀ b o d x,(viewA n l).get b=some o→(E.mv a c n).σ b=some (d,x)→d < w.heap.size:=fun b o d x g s=>by
    obtain ⟨o',h1,_⟩:=hm _ (viewA_get _ _ _ _ g)
    exact HH.lt _ _ _ _ h1 (mvσ _ _ s).2
  have HV:HeapOk p (E.mv a c n) (viewA n l) b1 w:=by
    refine ⟨fun b o g=>?_,fun b b' o o' d x y g1 g2 w1 w2 s1 s2=>?_,fun b o d x g hw s hd=>?_,fun b o d y g hr s=>lt b o d y g s,fun b hb=>?_,lt,fun b hb=>?_,Kept.refl _ _,(by rw [viewA_next]; exact Nat.le_refl _),HH.ok.mono fun d o e'=>⟨HH.below.lt e'.1,Base.Keeps.has HH.below e'⟩⟩
    · have hmem:=viewA_get _ _ _ _ g
      obtain ⟨o',h1,h2⟩:=hm _ hmem
      obtain ⟨h3,_,h4⟩:=hl _ hmem
      have hb:objOk p E (mvN a c b) o w.heap:=h2.obj (HH.obj _ _ h1)
      refine objOk.ids (E:=E) (E':=E.mv a c n) rfl none0 h4 (fun q hq=>⟨?_,rfl⟩) hb
      simp only [Env.mv,if_pos h3]; exact hq
    · have:=(hl _ (viewA_get _ _ _ _ g1)).2.1
      have w1:ownO o=true:=w1
      have this:ownO o=false:=this
      rw [this] at w1; cases w1
    · have:=(hl _ (viewA_get _ _ _ _ g)).2.1
      have hw:ownO o=true:=hw
      have this:ownO o=false:=this
      rw [this] at hw; cases hw
    · rw [viewA_next] at hb
      simp only [Env.mv,if_neg (show ¬ b < n by omega)]
    · have e:mvN a c b=b:=by unfold mvN; rw [if_neg (by omega)]
      simp only [Env.mv,if_pos (show b < n by omega),e]
      exact HH.glob b hb
  refine hc vs (E.mv a c n) b1 w (fun r=>r.1=v) K rfl HV ((hargs E).trans hA) ?_
  intro v' h1 E1 w' cv q hle H1 hcv
  have q:v'=v:=q
  subst q
  refine P v' h E w' cv k (Env.le.refl E) (HH.world (Base.keeps_below H1.below)) ?_
  rw [← hcv]
  exact (conc_ids (n:=0) (E:=E1) (E':=E) hle.ρ.symm (fun b hb=>absurd hb (Nat.not_lt_zero b)) v' hv)
end Go.Sx
