/- SxAlias2 -/
import Derived.Test.YtoefmmmfefdcdaaDoorSxTab
import Derived.ProofKit
import Derived.LaidMore
import Derived.OpenShut
import Derived.Carry
import Derived.OpenVars
import Derived.Test.YtoefmmmfefdcdaaDoorSxEq
import Derived.IntWalk
namespace Go.Sx
open Go.RowKit
def E0 (ρ:Rho):Env:=⟨ρ,fun b=>if b < 1000 then some (b,0) else none,fun _=>0,1000,fun _=>#[]⟩
noncomputable def globHeap:List (Nat × List AV)→Heap
  | []=>⟨.nil,1000⟩
  | g :: l=>(globHeap l).put g.1 (.cells g.2 0 false false)
theorem globHeap_next:∀ l,(globHeap l).next=1000
  | []=>rfl
  | g :: l=>by rw [globHeap,Heap.next_put]; exact globHeap_next l
theorem globHeap_get:∀ (l:List (Nat × List AV)) (b:Nat) (o:AObj),(globHeap l).get b=some o→∃ g ∈ l,g.1=b∧o=.cells g.2 0 false false
  | [],b,o,h=>by
    have:(PT.nil:PT AObj).get b=some o:=h
    rw [PT.get_nil] at this; cases this
  | g :: l,b,o,h=>by
    rw [globHeap,Heap.get_put] at h
    by_cases c:b=g.1
    · rw [if_pos c] at h; cases h; exact ⟨g,List.mem_cons_self,c.symm,rfl⟩
    · rw [if_neg c] at h
      obtain ⟨g',h1,h2⟩:=globHeap_get l b o h
      exact ⟨g',List.mem_cons_of_mem _ h1,h2⟩
def GlobIn (w:World) (ρ:Rho) (g:Nat × List AV):Prop:=g.1 < 1000∧∃ vs cells el fz,concL (E0 ρ) g.2=some vs∧w.heap[g.1]?=some (.cells cells el fz)∧∀ i,i < vs.length→cells[i]?=vs[i]?
theorem start_ok {p:Par} {ρ:Rho} {w:World} {l:List (Nat × List AV)} (h:∀ g ∈ l,GlobIn w ρ g) (hok:p.okB ρ (Base.of w)):HeapOk p (E0 ρ) (globHeap l) (Base.of w) w:=by
  have own:∀ b o,(globHeap l).get b=some o→ownO o=false:=fun b o e=>by
    obtain ⟨g,_,_,rfl⟩:=globHeap_get l b o e; rfl
  refine ⟨fun b o e=>?_,fun b b' o o' c x y h1 h2 w1=>?_,fun b o c x e ow=>?_,fun b o c y hg _ s=>?_,fun b hb=>?_,fun b o c x e s=>?_,fun b hb=>by simp [E0,hb],Kept.refl _ _,(by rw [globHeap_next]; exact Nat.le_refl _),hok⟩
  · obtain ⟨g,hg,rfl,rfl⟩:=globHeap_get l b o e
    obtain ⟨hlt,vs,cells,el,fz,h1,h2,h3⟩:=h g hg
    exact ⟨g.1,0,vs,cells,el,fz,by simp [E0,hlt],h1,h2,fun i hi=>by rw [Nat.zero_add]; exact h3 i hi,fun h=>by cases h⟩
  · rw [own b o h1] at w1; cases w1
  · rw [own b o e] at ow; cases ow
  · obtain ⟨g,hg',rfl,_⟩:=globHeap_get l b _ hg
    obtain ⟨hlt,vs,cells,el,fz,h1,h2,h3⟩:=h g hg'
    simp only [E0,hlt,if_true,Option.some.injEq,Prod.mk.injEq] at s
    rw [← s.1]
    exact (Array.getElem?_eq_some_iff.1 h2).1
  · rw [globHeap_next] at hb
    simp only [E0]
    rw [if_neg (by omega)]
  · obtain ⟨g,hg',rfl,_⟩:=globHeap_get l b _ e
    obtain ⟨hlt,vs,cells,el,fz,h1,h2,h3⟩:=h g hg'
    simp only [E0,hlt,if_true,Option.some.injEq,Prod.mk.injEq] at s
    rw [← s.1]
    exact (Array.getElem?_eq_some_iff.1 h2).1
noncomputable def isTrue1 (t:T (AV × Heap)):Bool :=
  match t with
  | .ret r=>(match r.1 with
    | .bool b=>(match b with
      | .lit b=>b
      | _=>false)
    | _=>false)
  | _=>false
theorem isTrue1_some {t:T (AV × Heap)} (h:isTrue1 t=true):∃ h1,t=.ret (.bool (.lit true),h1):=by
  unfold isTrue1 at h
  split at h
  · rename_i r
    split at h
    · rename_i b hb
      split at h
      · rename_i c
        obtain ⟨v,h1⟩:=r
        simp only at hb
        subst hb
        subst h
        exact ⟨h1,rfl⟩
      · cases h
    · cases h
  · cases h
end Go.Sx
namespace Go.Sx
open Go.RowKit
noncomputable def viewHeap (n:Nat):List (Nat × List AV)→Heap
  | []=>⟨.nil,n⟩
  | g :: l=>(viewHeap n l).put g.1 (.cells g.2 0 false false)
theorem viewHeap_next (n:Nat):∀ l,(viewHeap n l).next=n
  | []=>rfl
  | g :: l=>by rw [viewHeap,Heap.next_put]; exact viewHeap_next n l
theorem viewHeap_get (n:Nat):∀ (l:List (Nat × List AV)) (b:Nat) (o:AObj),(viewHeap n l).get b=some o→∃ g ∈ l,g.1=b∧o=.cells g.2 0 false false
  | [],b,o,h=>by
    have:(PT.nil:PT AObj).get b=some o:=h
    rw [PT.get_nil] at this; cases this
  | g :: l,b,o,h=>by
    rw [viewHeap,Heap.get_put] at h
    by_cases c:b=g.1
    · rw [if_pos c] at h; cases h; exact ⟨g,List.mem_cons_self,c.symm,rfl⟩
    · rw [if_neg c] at h
      obtain ⟨g',h1,h2⟩:=viewHeap_get n l b o h
      exact ⟨g',List.mem_cons_of_mem _ h1,h2⟩
def ViewIn (w:World) (E:Env) (g:Nat × List AV):Prop :=
  ∃ c base vs cells el fz,E.σ g.1=some (c,base)∧concL E g.2=some vs∧w.heap[c]?=some (.cells cells el fz)∧∀ i,i < vs.length→cells[base + i]?=vs[i]?
theorem ViewIn.lt {w:World} {E:Env} {g:Nat × List AV} (h:ViewIn w E g):∃ c base,E.σ g.1=some (c,base)∧c < w.heap.size:=by
  obtain ⟨c,base,vs,cells,el,fz,h1,h2,h3,h4⟩:=h
  exact ⟨c,base,h1,(Array.getElem?_eq_some_iff.1 h3).1⟩
theorem ViewIn.of_heap {p:Par} {E:Env} {h:Heap} {w0:Base} {w:World} (HH:HeapOk p E h w0 w) {b:Nat} {cs:List AV} {e:TypeId} {own ext:Bool} (hg:h.get b=some (.cells cs e own ext)):ViewIn w E (b,cs):=by
  obtain ⟨c,base,vs,cells,el,fz,h1,h2,h3,h4,_⟩:=HH.obj b _ hg
  exact ⟨c,base,vs,cells,el,fz,h1,h2,h3,h4⟩
theorem view_ok {p:Par} {E:Env} {w:World} {n:Nat} {l:List (Nat × List AV)} (h:∀ g ∈ l,ViewIn w E g) (hf:∀ b,n≤b→E.σ b=none) (hg:∀ b,b < 1000→E.σ b=some (b,0)) (hn:E.n≤n) (hok:p.okB E.ρ (Base.of w)):HeapOk p E (viewHeap n l) (Base.of w) w:=by
  have own:∀ b o,(viewHeap n l).get b=some o→ownO o=false:=fun b o e=>by
    obtain ⟨g,_,_,rfl⟩:=viewHeap_get n l b o e; rfl
  refine ⟨fun b o e=>?_,fun b b' o o' c x y h1 h2 w1=>?_,fun b o c x e ow=>?_,fun b o c y hg _ s=>?_,fun b hb=>?_,fun b o c x e s=>?_,hg,Kept.refl _ _,(by rw [viewHeap_next]; exact hn),hok⟩
  · obtain ⟨g,hg,rfl,rfl⟩:=viewHeap_get n l b o e
    obtain ⟨c,base,vs,cells,el,fz,h1,h2,h3,h4⟩:=h g hg
    exact ⟨c,base,vs,cells,el,fz,h1,h2,h3,h4,fun h=>by cases h⟩
  · rw [own b o h1] at w1; cases w1
  · rw [own b o e] at ow; cases ow
  · obtain ⟨g,hg',rfl,_⟩:=viewHeap_get n l b _ hg
    obtain ⟨c',base,h1,h2⟩:=(h g hg').lt
    rw [h1] at s; cases s; exact h2
  · rw [viewHeap_next] at hb; exact hf b hb
  · obtain ⟨g,hg',rfl,_⟩:=viewHeap_get n l b _ e
    obtain ⟨c',base,h1,h2⟩:=(h g hg').lt
    rw [h1] at s; cases s; exact h2
mutual
def pureAV:AV→Bool
  | .bool _=>true
  | .int _ _=>true
  | .agg cs=>pureAVs cs
  | .tup cs=>pureAVs cs
  | .nilslice=>true
  | .nilmap=>true
  | .nilFunc=>true
  | .nilptr=>true
  | .opq _=>true
  | .sliceU _=>true
  | _=>false
def pureAVs:List AV→Bool
  | []=>true
  | a :: l=>and (pureAV a) (pureAVs l)
end
mutual
theorem conc_pure {E E':Env} (h:E'.ρ=E.ρ):∀ (a:AV),pureAV a=true→conc E' a=conc E a
  | .bool b,_=>by simp only [conc,h]
  | .int k e,_=>by simp only [conc,h]
  | .agg cs,k=>by simp only [conc,concL_pure h cs (by simpa [pureAV] using k)]
  | .tup cs,k=>by simp only [conc,concL_pure h cs (by simpa [pureAV] using k)]
  | .nilslice,_=>rfl
  | .nilmap,_=>rfl
  | .nilFunc,_=>rfl
  | .nilptr,_=>rfl
  | .opq i,_=>by simp only [conc,h]
  | .sliceU i,_=>by simp only [conc,h]
  | .ptr ..,k=>by simp [pureAV] at k
  | .slice ..,k=>by simp [pureAV] at k
  | .sliceX ..,k=>by simp [pureAV] at k
  | .sliceV ..,k=>by simp [pureAV] at k
  | .ptrV ..,k=>by simp [pureAV] at k
  | .map _,k=>by simp [pureAV] at k
  | .func ..,k=>by simp [pureAV] at k
  | .yieldF _,k=>by simp [pureAV] at k
  | .bad,k=>by simp [pureAV] at k
theorem concL_pure {E E':Env} (h:E'.ρ=E.ρ):∀ (l:List AV),pureAVs l=true→concL E' l=concL E l
  | [],_=>rfl
  | a :: l,k=>by
    simp only [pureAVs,Bool.and_eq_true] at k
    simp only [concL,conc_pure h a k.1,concL_pure h l k.2]
end
theorem call_view {p : Par} {ty : Nat → Option TI} {tb : Tabs} (B : TabOk p ty tb) {d : Nat} {f : FuncId} {args : List AV} {n : Nat} {l : List (Nat × List AV)} {E : Env} {w : World} {vs : List Value}
    (h:∀ g ∈ l,ViewIn w E g) (hf:∀ b,n≤b→E.σ b=none) (hg:∀ b,b < 1000→E.σ b=some (b,0)) (hn:E.n≤n) (ha:concL E args=some vs) {Q:AV→Prop}
    (hrun:(evalN tb d false f args (viewHeap n l)).Holds E.ρ (fun r=>Q r.1)) (hok:p.okB E.ρ (Base.of w)) :
    (callFunc f vs.toArray).run p.P w=.ok (.enter f vs.toArray) w∧Calls p.P f vs.toArray w fun e w'=>∃ v cv E',e=.returned cv∧Q v∧E.le E'∧conc E' v=some cv∧Below w.heap.size w w':=by
  have key:=eval_ok B d f args (viewHeap n l) vs E (Base.of w) w (fun r=>Q r.1) (fun cv w'=>∃ v E',Q v∧E.le E'∧conc E' v=some cv∧Below w.heap.size w w') hrun (view_ok h hf hg hn hok) ha ?_
  · exact ⟨key.1,key.2.mono fun e w' ⟨cv,he,v,E',h1,h2,h3,h4⟩=>⟨v,cv,E',he,h1,h2,h3,h4⟩⟩
  · intro v h' E' w' cv q hle HH hv
    exact ⟨v,E',q,hle,hv,Base.keeps_below HH.below⟩
theorem callOk_of {p : Par} {f : FuncId} {args : List AV} {h : Heap} {t : T (AV × Heap)}
    (H:∀ vs E w0 w Q,HeapOk p E h w0 w→concL E args=some vs→t.Holds E.ρ Q →
      (callFunc f vs.toArray).run p.P w=.ok (.enter f vs.toArray) w∧Calls p.P f vs.toArray w fun e w'=>∃ v cv,e=.returned cv∧Q (v,h)∧conc E v=some cv∧Below w.heap.size w w'):CallOk p f args h t:=by
  intro vs E w0 w Q K k HH ha P
  obtain ⟨h1,h2⟩:=H vs E w0 w Q HH ha k
  refine ⟨h1,h2.mono ?_⟩
  rintro e w' ⟨v,cv,rfl,q,hv,hb⟩
  exact ⟨cv,rfl,P v h E w' cv q (Env.le.refl E) (HH.world hb) hv⟩
noncomputable def treeOf:List (Nat × AV)→PT AV
  | []=>.nil
  | g :: l=>(treeOf l).set g.1 g.2
theorem BE.t_lss {ρ:Rho} {a b:IE}:(BE.cmp .lss a b).den ρ=true ↔ a.den ρ < b.den ρ:=by simp [BE.den,cmpDen]
theorem BE.t_leq {ρ:Rho} {a b:IE}:(BE.cmp .leq a b).den ρ=true ↔ a.den ρ≤b.den ρ:=by simp [BE.den,cmpDen]
theorem BE.t_gtr {ρ:Rho} {a b:IE}:(BE.cmp .gtr a b).den ρ=true ↔ b.den ρ < a.den ρ:=by simp [BE.den,cmpDen]
theorem BE.t_eql {ρ:Rho} {a b:IE}:(BE.cmp .eql a b).den ρ=true ↔ a.den ρ=b.den ρ:=by simp [BE.den,cmpDen]
theorem BE.t_neq {ρ:Rho} {a b:IE}:(BE.cmp .neq a b).den ρ=true ↔ a.den ρ ≠ b.den ρ:=by simp [BE.den,cmpDen]
theorem BE.t_and {ρ:Rho} {a b:BE}:(BE.and a b).den ρ=true ↔ a.den ρ=true∧b.den ρ=true:=by simp [BE.den]
theorem mxden (a b:Int):(if b > a then b else a)=max a b:=by
  rcases Int.lt_or_le a b with h | h
  · rw [if_pos h]; omega
  · rw [if_neg (by omega)]; omega
theorem IE.den_mx {ρ:Rho} {a b:IE}:(IE.mx a b).den ρ=max (a.den ρ) (b.den ρ):=mxden (a.den ρ) (b.den ρ)
theorem IE.den_lit {ρ:Rho} {n:Int}:(IE.lit n).den ρ=n:=rfl
theorem IE.den_var {ρ:Rho} {n:Nat}:(IE.var n).den ρ=ρ.iv n:=rfl
theorem IE.den_add {ρ:Rho} {a b:IE}:(IE.bin .add .i64 a b).den ρ=IntKind.i64.wrap (a.den ρ + b.den ρ):=rfl
theorem IE.den_sub {ρ:Rho} {a b:IE}:(IE.bin .sub .i64 a b).den ρ=IntKind.i64.wrap (a.den ρ - b.den ρ):=rfl
theorem IE.den_mul {ρ:Rho} {a b:IE}:(IE.bin .mul .i64 a b).den ρ=IntKind.i64.wrap (a.den ρ * b.den ρ):=rfl
end Go.Sx
namespace Go.Sx
open Go.RowKit
noncomputable def globsIn (h:Heap):List (Nat × List AV)→Bool
  | []=>true
  | g :: l=>(match h.cells g.1 with
    | some c=>cond (eqAVs c g.2) (globsIn h l) false
    | none=>false)
noncomputable def closedOrc (l:List (Nat × List AV)) (args:List AV) (h:Heap):Option (T (AV × Heap)) :=
  match args with
  | []=>cond (globsIn h l) (some (.ret (.bool (.lit true),h))) none
  | _=>none
noncomputable def litVal:AV→Bool
  | .int _ (.lit _)=>true
  | .bool (.lit _)=>true
  | _=>false
theorem litVal_conc {E E':Env} {a:AV} (h:litVal a=true):conc E a=conc E' a:=by
  unfold litVal at h
  split at h
  · simp only [conc,IE.den]
  · simp only [conc,BE.den]
  · cases h
theorem litVals_conc {E E':Env}:∀ {l:List AV},lAll litVal l=true→concL E l=concL E' l
  | [],_=>rfl
  | a :: l,h=>by
    have h:cond (litVal a) (lAll litVal l) false=true:=h
    cases ha:litVal a with
    | false=>rw [ha] at h; cases h
    | true=>rw [ha] at h; simp only [concL,litVal_conc (E:=E) (E':=E') ha,litVals_conc (E:=E) (E':=E') h]
theorem cells_get' {h:Heap} {b:Nat} {cs:List AV} (e:h.cells b=some cs):∃ el own ext,h.get b=some (.cells cs el own ext):=by
  unfold Heap.cells at e
  split at e
  · rename_i c el own ext hh; cases e; exact ⟨el,own,ext,hh⟩
  · cases e
theorem globsIn_ok {p:Par} {E:Env} {h:Heap} {w0:Base} {w:World} (HH:HeapOk p E h w0 w):∀ (l:List (Nat × List AV)),globsIn h l=true→lAll (fun g:Nat × List AV=>and (Nat.ble (g.1 + 1) 1000) (lAll litVal g.2)) l=true→∀ g ∈ l,GlobIn w E.ρ g
  | [],_,_,g,hg=>by cases hg
  | q :: l,h1,h2,g,hg=>by
    have h2:cond (and (Nat.ble (q.1 + 1) 1000) (lAll litVal q.2)) (lAll (fun g:Nat × List AV=>and (Nat.ble (g.1 + 1) 1000) (lAll litVal g.2)) l) false=true:=h2
    cases hc:and (Nat.ble (q.1 + 1) 1000) (lAll litVal q.2) with
    | false=>rw [hc] at h2; cases h2
    | true =>
      rw [hc,cond_true] at h2
      simp only [globsIn] at h1
      split at h1
      · rename_i c hcells
        cases he:eqAVs c q.2 with
        | false=>rw [he] at h1; cases h1
        | true =>
          rw [he,cond_true] at h1
          rcases List.mem_cons.1 hg with rfl | hg
          · simp only [Bool.and_eq_true] at hc
            have hlt:=ble_t.1 hc.1
            obtain ⟨el,own,ext,g0⟩:=cells_get' hcells
            have v0:=ViewIn.of_heap HH g0
            rw [eqAVs_eq _ _ he] at v0
            obtain ⟨b,base,us,cells,el,fz,q1,q2,q3,q4⟩:=v0
            rw [HH.glob g.1 (by omega)] at q1; cases q1
            exact ⟨by omega,us,cells,el,fz,by rw [← q2]; exact litVals_conc hc.2,q3,fun i hi=>by have:=q4 i hi; simpa using this⟩
          · exact globsIn_ok HH l h1 h2 g hg
      · cases h1
theorem closedOrc_ok {p : Par} {ty : Nat → Option TI} {tb : Tabs} (B : TabOk p ty tb) {d : Nat} {f : FuncId} {l : List (Nat × List AV)} (hrun : isTrue1 (evalN tb d false f [] (globHeap l)) = true)
    (hl:lAll (fun g:Nat × List AV=>and (Nat.ble (g.1 + 1) 1000) (lAll litVal g.2)) l=true) {args:List AV} {h:Heap} {t:T (AV × Heap)} (ho:closedOrc l args h=some t):CallOk p f args h t:=by
  unfold closedOrc at ho
  split at ho
  · cases hc:globsIn h l with
    | false=>rw [hc] at ho; cases ho
    | true =>
      rw [hc] at ho
      cases ho
      refine callOk_of fun vs E w0 w Q HH ha k=>?_
      have hg:=globsIn_ok HH l hc hl
      simp only [concL,Option.some.injEq] at ha
      subst ha
      obtain ⟨h1,hr⟩:=isTrue1_some hrun
      have key:=eval_ok B d f [] (globHeap l) [] (E0 E.ρ) (Base.of w) w (fun r=>r=(.bool (.lit true),h1)) (fun cv w'=>cv=.bool true∧Below w.heap.size w w') (by rw [hr]; rfl) (start_ok hg (HH.ok.of HH.below)) rfl ?_
      · refine ⟨key.1,key.2.mono ?_⟩
        rintro e w' ⟨cv,rfl,rfl,hb⟩
        exact ⟨.bool (.lit true),_,rfl,k,rfl,hb⟩
      · intro v h' E' w' cv q hle HH' hv
        cases q
        simp only [conc,BE.den,Option.some.injEq] at hv
        exact ⟨hv.symm,Base.keeps_below HH'.below⟩
  · cases ho
theorem law_view {p : Par} {ty : Nat → Option TI} {tb : Tabs} (B : TabOk p ty tb) {d : Nat} {f : FuncId} {args : List AV} {n : Nat} {l : List (Nat × List AV)} {E : Env} {w : World} {vs : List Value}
    (h:∀ g ∈ l,ViewIn w E g) (hf:∀ b,n≤b→E.σ b=none) (hg:∀ b,b < 1000→E.σ b=some (b,0)) (hn:E.n≤n) (ha:concL E args=some vs)
    (hrun:(evalN tb d false f args (viewHeap n l)).Holds E.ρ (fun r=>∃ b,r.1=.bool b∧b.den E.ρ=true)) (hok:p.okB E.ρ (Base.of w)) :
    Calls p.P f vs.toArray w fun e w'=>e=.returned (.bool true)∧Below w.heap.size w w':=by
  refine (call_view B h hf hg hn ha (Q:=fun v=>∃ b,v=.bool b∧b.den E.ρ=true) hrun hok).2.mono ?_
  rintro e w' ⟨v,cv,E',rfl,⟨b,rfl,hb⟩,hle,hcv,hbl⟩
  simp only [conc,Option.some.injEq] at hcv
  subst hcv
  rw [hle.ρ,hb]
  exact ⟨rfl,hbl⟩
end Go.Sx
namespace Go.Sx
open Go.RowKit
theorem lAll_mem' {α:Type} {p:α→Bool}:∀ {l:List α},lAll p l=true→∀ a ∈ l,p a=true
  | [],_,a,ha=>by cases ha
  | x :: l,h,a,ha=>by
    have h:cond (p x) (lAll p l) false=true:=h
    cases hx:p x with
    | false=>rw [hx] at h; cases h
    | true =>
      rw [hx] at h
      rcases List.mem_cons.1 ha with rfl | ha
      · exact hx
      · exact lAll_mem' h a ha
theorem glob_view {w:World} {ρ:Rho} {l:List (Nat × List AV)} (hl:lAll (fun g:Nat × List AV=>and (Nat.ble (g.1 + 1) 1000) (lAll litVal g.2)) l=true) (h:∀ g ∈ l,GlobIn w ρ g) {E:Env} (hg:∀ b,b < 1000→E.σ b=some (b,0)):∀ g ∈ l,ViewIn w E g:=by
  intro g hgl
  obtain ⟨h1,vs,cells,el,fz,h2,h3,h4⟩:=h g hgl
  have h5:=lAll_mem' hl g hgl
  simp only [Bool.and_eq_true] at h5
  exact ⟨g.1,0,vs,cells,el,fz,hg _ h1,by rw [← h2]; exact litVals_conc h5.2,h3,fun i hi=>by rw [Nat.zero_add]; exact h4 i hi⟩
end Go.Sx
namespace Go.Sx
open Go.RowKit
def flatB (P:Program):Nat→TypeId→Bool
  | 0,_=>false
  | n + 1,t=>match P.underlying t with
    | some (.int .i64)=>true
    | some (.struct fs)=>flatF P (flatB P n) fs.toList 0 (P.cellsOf t)
    | some (.array k e)=>and (flatB P n e) (Nat.beq (k * P.cellsOf e) (P.cellsOf t))
    | _=>false
where
  flatF (P:Program) (g:TypeId→Bool):List Field→Nat→Nat→Bool
    | [],off,tot=>Nat.beq off tot
    | f :: fs,off,tot=>and (and (Nat.beq f.offset off) (g f.type)) (flatF P g fs (off + P.cellsOf f.type) tot)
mutual
def leavesD {H:Type}:DataW H→List Value
  | .lit (.int k n)=>[.int k n]
  | .agg xs=>leavesL xs
  | _=>[]
def leavesL {H:Type}:List (DataW H)→List Value
  | []=>[]
  | x :: xs=>leavesD x ++ leavesL xs
end
section
variable {H:Type} {enc:TypeId × Value→H} {P:Program} {w:World} {base:Nat} {spare:Nat→Bool} {held:Bool}
theorem flat_fields {g : TypeId → Bool} {m : Nat} (hg : ∀ t cs x, g t = true → DataW.trod enc P w base spare held m t cs = some x → cs = leavesD x.1 ∧ x.2 = [] ∧ (∀ v ∈ cs, ∃ n, v = .int .i64 n)) {cs : List Value} :
    ∀ (fs:List Field) (xs:List (DataW H × List MemPlace)) (off:Nat),xs.length=fs.length→flatB.flatF P g fs off cs.length=true→(∀ (i:Nat) (f:Field),fs[i]?=some f→DataW.trod enc P w base spare held m f.type ((cs.drop f.offset).take (P.cellsOf f.type))=xs[i]?) →
      cs.drop off=leavesL (xs.map (·.1))∧xs.flatMap (·.2)=[]∧(∀ v ∈ cs.drop off,∃ n,v=.int .i64 n)
  | [],xs,off,hl,hf,_=>by
    cases xs with
    | cons x xs=>simp at hl
    | nil =>
      have:off=cs.length:=beq_t.1 hf
      subst this
      simp [leavesL]
  | f :: fs,[],off,hl,_,_=>by simp at hl
  | f :: fs,x :: xs,off,hl,hf,hx=>by
    simp only [flatB.flatF,Bool.and_eq_true] at hf
    obtain ⟨⟨h1,h2⟩,h3⟩:=hf
    have h1:=beq_t.1 h1
    have hx0:=hx 0 f rfl
    simp only [List.getElem?_cons_zero] at hx0
    rw [h1] at hx0
    obtain ⟨g1,g2,g3⟩:=hg f.type _ x h2 hx0
    obtain ⟨r1,r2,r3⟩:=flat_fields hg fs xs (off + P.cellsOf f.type) (by simpa using hl) h3 (fun i f' hf'=>by simpa using hx (i + 1) f' (by simpa using hf'))
    have split:cs.drop off=(cs.drop off).take (P.cellsOf f.type) ++ cs.drop (off + P.cellsOf f.type):=by
      rw [← List.drop_drop,List.take_append_drop]
    refine ⟨?_,by simp [g2,r2],fun v hv=>?_⟩
    · rw [split,r1]
      simp only [List.map_cons,leavesL]
      rw [← g1]
    · rw [split] at hv
      rcases List.mem_append.1 hv with hv | hv
      · exact g3 v hv
      · exact r3 v hv
theorem flat_array {m k e : Nat} {cs : List Value} (hg : ∀ cs x, DataW.trod enc P w base spare held m e cs = some x → cs = leavesD x.1 ∧ x.2 = [] ∧ (∀ v ∈ cs, ∃ n, v = .int .i64 n)) :
    ∀ (r:Nat) (xs:List (DataW H × List MemPlace)),xs.length=r→r≤k→cs.length=k * P.cellsOf e→(∀ i,i < r→DataW.trod enc P w base spare held m e ((cs.drop ((k - r + i) * P.cellsOf e)).take (P.cellsOf e))=xs[i]?) →
      cs.drop ((k - r) * P.cellsOf e)=leavesL (xs.map (·.1))∧xs.flatMap (·.2)=[]∧(∀ v ∈ cs.drop ((k - r) * P.cellsOf e),∃ n,v=.int .i64 n)
  | 0,xs,hl,_,hc,_=>by
    cases xs with
    | cons x xs=>simp at hl
    | nil=>rw [Nat.sub_zero,List.drop_eq_nil_of_le (by omega)]; simp [leavesL]
  | r + 1,[],hl,_,_,_=>by simp at hl
  | r + 1,x :: xs,hl,hr,hc,hx=>by
    have hx0:=hx 0 (by omega)
    simp only [List.getElem?_cons_zero,Nat.add_zero] at hx0
    obtain ⟨g1,g2,g3⟩:=hg _ x hx0
    obtain ⟨r1,r2,r3⟩:=flat_array hg r xs (by simpa using hl) (by omega) hc (fun i hi=>by
      have:=hx (i + 1) (by omega)
      rw [show k - (r + 1) + (i + 1)=k - r + i by omega] at this
      simpa using this)
    have e1:(k - (r + 1)) * P.cellsOf e + P.cellsOf e=(k - r) * P.cellsOf e:=by
      rw [show k - r=(k - (r + 1)) + 1 by omega,Nat.add_mul,Nat.one_mul]
    have split:cs.drop ((k - (r + 1)) * P.cellsOf e)=(cs.drop ((k - (r + 1)) * P.cellsOf e)).take (P.cellsOf e) ++ cs.drop ((k - r) * P.cellsOf e):=by
      rw [← e1,← List.drop_drop,List.take_append_drop]
    refine ⟨?_,by simp [g2,r2],fun v hv=>?_⟩
    · rw [split,r1]
      simp only [List.map_cons,leavesL]
      rw [← g1]
    · rw [split] at hv
      rcases List.mem_append.1 hv with hv | hv
      · exact g3 v hv
      · exact r3 v hv
theorem flat_trod:∀ (n:Nat) (t:TypeId) (fuel:Nat) (cs:List Value) (x:DataW H × List MemPlace),flatB P n t=true→DataW.trod enc P w base spare held fuel t cs=some x→cs=leavesD x.1∧x.2=[]∧(∀ v ∈ cs,∃ n,v=.int .i64 n)
  | 0,t,fuel,cs,x,h,_=>by cases h
  | n + 1,t,fuel,cs,x,h,k=>by
    unfold flatB at h
    split at h
    · rename_i hu
      obtain ⟨z,rfl,rfl,_⟩:=DataW.trod_int hu k
      exact ⟨rfl,rfl,fun v hv=>⟨z,List.mem_singleton.1 hv⟩⟩
    · rename_i fs hu
      obtain ⟨xs,m,rfl,rfl,hl,hxl,hx⟩:=DataW.trod_struct hu k
      rw [← hl] at h
      obtain ⟨r1,r2,r3⟩:=flat_fields (m:=m) (g:=flatB P n) (fun t cs x h k=>flat_trod n t m cs x h k) fs.toList xs 0 (by simpa using hxl) h (fun i f hf=>hx i f (by simpa using hf))
      exact ⟨by simpa [leavesD] using r1,r2,by simpa using r3⟩
    · rename_i k' e hu
      rw [Bool.and_eq_true] at h
      obtain ⟨xs,m,rfl,rfl,hl,hxl,hx⟩:=DataW.trod_array hu k
      have hc:=beq_t.1 h.2
      obtain ⟨r1,r2,r3⟩:=flat_array (m:=m) (k:=k') (e:=e) (fun cs x k=>flat_trod n e m cs x h.1 k) k' xs hxl (Nat.le_refl _) (by rw [hl,hc]) (fun i hi=>by rw [Nat.sub_self,Nat.zero_add]; exact hx i hi)
      rw [Nat.sub_self,Nat.zero_mul] at r1 r3
      exact ⟨by simpa [leavesD] using r1,r2,by simpa using r3⟩
    · cases h
end
theorem okCell_int {P:Program} {w:World} {r:Reach} {base:Nat} {u:TypeId} {v:Value} (hu:P.underlying u=some (.int .i64)) (h:Cell.okWide P w r base u v):∃ n,v=.int .i64 n:=by
  unfold Cell.okWide at h
  rw [hu] at h
  have h':Cell.ok P w r base u v:=by
    revert h
    cases v <;> exact fun h=>h
  unfold Cell.ok at h'
  rw [hu] at h'
  split at h' <;> simp_all
theorem okCell_slice {P : Program} {w : World} {r : Reach} {base : Nat} {u e : TypeId} {v : Value} (hu : P.underlying u = some (.slice e)) (h : Cell.okWide P w r base u v) :
    v=.slice none 0 0 ∨ ∃ b o len cap,v=.slice (some ⟨b,o,none⟩) len cap∧len≤cap:=by
  unfold Cell.okWide at h
  rw [hu] at h
  have h':Cell.ok P w r base u v:=by
    revert h
    cases v <;> exact fun h=>h
  clear h
  unfold Cell.ok at h'
  rw [hu] at h'
  cases v with
  | slice a len cap =>
    cases a with
    | none =>
      cases len with
      | zero=>cases cap with
        | zero=>exact .inl rfl
        | succ c=>exact h'.elim
      | succ l=>exact h'.elim
    | some a =>
      obtain ⟨h1,_,_,h4,_⟩:=h'
      refine .inr ⟨a.block,a.off,len,cap,?_,h1⟩
      cases a
      simp_all
  | _=>exact h'.elim
theorem okRow {P : Program} {w : World} {r : Reach} {base : Nat} {t : TypeId} {v : Value} {ts : List TypeId} (hagg : (match P.underlying t with | some (.struct _) => true | some (.array _ _) => true | _ => false) = true) (hts : P.cellTypes P.depth t = some ts) (hlen : ts.length = P.cellsOf t)
    (h:Value.okWide P w r base t v):∃ cs:List Value,v=.agg cs.toArray∧cs.length=ts.length∧∀ (i:Nat) (u:TypeId) (x:Value),ts[i]?=some u→cs[i]?=some x→Cell.okWide P w r base u x:=by
  have h':∃ cs,v=.agg cs∧cs.size=P.cellsOf t∧Row.okWide P w r base t cs:=by
    unfold Value.okWide at h
    split at h
    · exact h
    · exact h
    · rename_i h1 h2
      exfalso
      split at hagg
      · rename_i fs hu; exact h1 fs hu
      · rename_i n e hu; exact h2 n e hu
      · cases hagg
  obtain ⟨cs,rfl,hsz,ts',hts',_,hc⟩:=h'
  rw [hts] at hts'
  cases hts'
  refine ⟨cs.toList,rfl,by simp [hsz,hlen],fun i u x hu hx=>?_⟩
  have hi:i < ts.length:=(List.getElem?_eq_some_iff.1 hu).1
  obtain ⟨u',h1,h2⟩:=hc i x (by simpa using hx)
  rw [Nat.mod_eq_of_lt hi,hu] at h1
  cases h1
  exact h2
end Go.Sx
namespace Go.Sx
open Go.RowKit
theorem eqFn_eq {a b:Fn} (h:eqFn a b=true):a=b:=by
  cases a <;> cases b <;> simp only [eqFn] at h <;> first | (cases h; done) | skip
  rw [beq_t.1 h]
structure Rel (n:Nat) (E ES:Env) (r:Ren):Prop where
  ρ:ES.ρ=E.ρ
  lo:∀ b,b < 1000→ES.σ b=E.σ b∧ES.κ b=E.κ b
  at_:∀ b c,1000≤b→b < n→lFind r b=some c→ES.σ b=E.σ c∧ES.κ b=E.κ c
def SubR (n:Nat) (r r':Ren):Prop:=∀ b c,1000≤b→b < n→lFind r b=some c→lFind r' b=some c
theorem SubR.refl (n:Nat) (r:Ren):SubR n r r:=fun _ _ _ _ h=>h
theorem SubR.trans {n:Nat} {r s t:Ren} (h:SubR n r s) (k:SubR n s t):SubR n r t:=fun b c h1 h2 e=>k b c h1 h2 (h b c h1 h2 e)
theorem Rel.sub {n:Nat} {E ES:Env} {r r':Ren} (h:Rel n E ES r') (k:SubR n r r'):Rel n E ES r:=⟨h.ρ,h.lo,fun b c h1 h2 e=>h.at_ b c h1 h2 (k b c h1 h2 e)⟩
theorem bindR_ok {n b b' : Nat} {r r' : Ren} (h : bindR n b b' r = some r') :
    SubR n r r'∧∀ E ES,Rel n E ES r'→ES.σ b=E.σ b'∧ES.κ b=E.κ b':=by
  unfold bindR at h
  cases h1:Nat.ble (Nat.succ b) 1000 with
  | true =>
    rw [h1,cond_true] at h
    cases h2:Nat.beq b b' with
    | false=>rw [h2] at h; cases h
    | true =>
      rw [h2] at h; cases h
      have e:=beq_t.1 h2
      subst e
      exact ⟨SubR.refl _ _,fun E ES R=>R.lo b (ble_t.1 h1)⟩
  | false =>
    rw [h1,cond_false] at h
    have hb:1000≤b:=by
      rcases Nat.lt_or_ge b 1000 with k | k
      · have:=ble_t.2 k; rw [h1] at this; cases this
      · exact k
    cases h3:Nat.ble (Nat.succ b) n with
    | false=>rw [h3] at h; cases h
    | true =>
      rw [h3,cond_true] at h
      have hn:b < n:=ble_t.1 h3
      cases h2:lFind r b with
      | some c =>
        rw [h2] at h
        simp only at h
        cases h4:Nat.beq c b' with
        | false=>rw [h4] at h; cases h
        | true =>
          rw [h4] at h; cases h
          have e:=beq_t.1 h4
          subst e
          exact ⟨SubR.refl _ _,fun E ES R=>R.at_ b c hb hn h2⟩
      | none =>
        rw [h2] at h
        simp only at h
        cases h
        refine ⟨fun i c _ _ e=>?_,fun E ES R=>R.at_ b b' hb hn (by rw [lFind_cons,beq_t.2 rfl]; rfl)⟩
        rw [lFind_cons]
        cases hi:Nat.beq b i with
        | true=>have:=beq_t.1 hi; subst this; rw [h2] at e; cases e
        | false=>exact e
theorem cond_some {α:Type} {c:Bool} {x:Option α} {y:α} (h:cond c x none=some y):c=true∧x=some y:=by
  cases c with
  | true=>exact ⟨rfl,h⟩
  | false=>cases h
mutual
theorem mtV_ok {n:Nat}:∀ (a a':AV) (r r':Ren),mtV n a a' r=some r'→SubR n r r'∧∀ E ES,Rel n E ES r'→conc ES a=conc E a'
  | .ptr b o,a',r,r',h=>by
    cases a' <;> simp only [mtV] at h <;> first | (cases h; done) | skip
    obtain ⟨h1,h2⟩:=cond_some h
    have:=beq_t.1 h1; subst this
    obtain ⟨q1,q2⟩:=bindR_ok h2
    exact ⟨q1,fun E ES R=>by simp only [conc,(q2 E ES R).1]⟩
  | .slice b o l c,a',r,r',h=>by
    cases a' <;> simp only [mtV] at h <;> first | (cases h; done) | skip
    obtain ⟨h1,h2⟩:=cond_some h
    simp only [Bool.and_eq_true] at h1
    have e1:=beq_t.1 h1.1; have e2:=beq_t.1 h1.2.1; have e3:=beq_t.1 h1.2.2; subst e1; subst e2; subst e3
    obtain ⟨q1,q2⟩:=bindR_ok h2
    exact ⟨q1,fun E ES R=>by simp only [conc,(q2 E ES R).1]⟩
  | .sliceX b o l c,a',r,r',h=>by
    cases a' <;> simp only [mtV] at h <;> first | (cases h; done) | skip
    obtain ⟨h1,h2⟩:=cond_some h
    simp only [Bool.and_eq_true] at h1
    have e1:=beq_t.1 h1.1; have e2:=beq_t.1 h1.2.1; have e3:=beq_t.1 h1.2.2; subst e1; subst e2; subst e3
    obtain ⟨q1,q2⟩:=bindR_ok h2
    exact ⟨q1,fun E ES R=>by simp only [conc,(q2 E ES R).1,(q2 E ES R).2]⟩
  | .agg x,a',r,r',h=>by
    cases a' <;> simp only [mtV] at h <;> first | (cases h; done) | skip
    obtain ⟨q1,q2⟩:=mtL_ok x _ r r' h
    exact ⟨q1,fun E ES R=>by simp only [conc,q2 E ES R]⟩
  | .tup x,a',r,r',h=>by
    cases a' <;> simp only [mtV] at h <;> first | (cases h; done) | skip
    obtain ⟨q1,q2⟩:=mtL_ok x _ r r' h
    exact ⟨q1,fun E ES R=>by simp only [conc,q2 E ES R]⟩
  | .func fn x y,a',r,r',h=>by
    cases a' <;> simp only [mtV] at h <;> first | (cases h; done) | skip
    rename_i fn' x' y'
    obtain ⟨h1,h2⟩:=cond_some h
    have e1:=eqFn_eq h1; subst e1
    cases h3:mtL n x x' r with
    | none=>rw [h3] at h2; cases h2
    | some r1 =>
      rw [h3] at h2
      obtain ⟨q1,q2⟩:=mtL_ok x _ r r1 h3
      obtain ⟨q3,q4⟩:=mtL_ok y _ r1 r' h2
      exact ⟨q1.trans q3,fun E ES R=>by simp only [conc,q2 E ES (R.sub q3),q4 E ES R]⟩
  | .bool b,a',r,r',h=>by
    cases a' <;> simp only [mtV] at h <;> first | (cases h; done) | skip
    obtain ⟨h1,h2⟩:=cond_some h
    cases h2
    have:=eqBE_eq _ _ h1; subst this
    exact ⟨SubR.refl _ _,fun E ES R=>by simp only [conc,R.ρ]⟩
  | .int k e,a',r,r',h=>by
    cases a' <;> simp only [mtV] at h <;> first | (cases h; done) | skip
    obtain ⟨h1,h2⟩:=cond_some h
    cases h2
    simp only [Bool.and_eq_true] at h1
    have e1:=kindEq_eq h1.1; have e2:=eqIE_eq _ _ h1.2; subst e1; subst e2
    exact ⟨SubR.refl _ _,fun E ES R=>by simp only [conc,R.ρ]⟩
  | .nilptr,a',r,r',h=>by
    cases a' <;> simp only [mtV] at h <;> first | (cases h; done) | skip
    cases h; exact ⟨SubR.refl _ _,fun E ES R=>rfl⟩
  | .nilslice,a',r,r',h=>by
    cases a' <;> simp only [mtV] at h <;> first | (cases h; done) | skip
    cases h; exact ⟨SubR.refl _ _,fun E ES R=>rfl⟩
  | .nilmap,a',r,r',h=>by
    cases a' <;> simp only [mtV] at h <;> first | (cases h; done) | skip
    cases h; exact ⟨SubR.refl _ _,fun E ES R=>rfl⟩
  | .nilFunc,a',r,r',h=>by
    cases a' <;> simp only [mtV] at h <;> first | (cases h; done) | skip
    cases h; exact ⟨SubR.refl _ _,fun E ES R=>rfl⟩
  | .map b,a',r,r',h=>by
    cases a' <;> simp only [mtV] at h <;> first | (cases h; done) | skip
    obtain ⟨q1,q2⟩:=bindR_ok h
    exact ⟨q1,fun E ES R=>by simp only [conc,(q2 E ES R).1]⟩
  | .yieldF b,a',r,r',h=>by cases a' <;> simp only [mtV] at h <;> cases h
  | .opq b,a',r,r',h=>by cases a' <;> simp only [mtV] at h <;> cases h
  | .sliceU b,a',r,r',h=>by
    cases a' <;> simp only [mtV] at h <;> first | (cases h; done) | skip
    obtain ⟨h1,h2⟩:=cond_some h
    cases h2
    have:=beq_t.1 h1; subst this
    exact ⟨SubR.refl _ _,fun E ES R=>by simp only [conc,R.ρ]⟩
  | .sliceV _ _,a',r,r',h=>by cases a' <;> simp only [mtV] at h <;> cases h
  | .ptrV _ _ _ _ _,a',r,r',h=>by cases a' <;> simp only [mtV] at h <;> cases h
  | .bad,a',r,r',h=>by cases a' <;> simp only [mtV] at h <;> cases h
theorem mtL_ok {n:Nat}:∀ (l l':List AV) (r r':Ren),mtL n l l' r=some r'→SubR n r r'∧∀ E ES,Rel n E ES r'→concL ES l=concL E l'
  | [],l',r,r',h=>by
    cases l' <;> simp only [mtL] at h
    · cases h; exact ⟨SubR.refl _ _,fun E ES R=>rfl⟩
    · cases h
  | a :: l,l',r,r',h=>by
    cases l' with
    | nil=>simp only [mtL] at h; cases h
    | cons b m =>
      simp only [mtL] at h
      cases h3:mtV n a b r with
      | none=>rw [h3] at h; cases h
      | some r1 =>
        rw [h3] at h
        obtain ⟨q1,q2⟩:=mtV_ok a b r r1 h3
        obtain ⟨q3,q4⟩:=mtL_ok l m r1 r' h
        exact ⟨q1.trans q3,fun E ES R=>by simp only [concL,q2 E ES (R.sub q3),q4 E ES R]⟩
end
theorem mtE_ok {n:Nat}:∀ (l l':List (AV × AV × Nat)) (r r':Ren),mtE n l l' r=some r'→SubR n r r'∧∀ E ES,Rel n E ES r'→∀ ms,concE E l' ms→concE ES l ms
  | [],[],r,r',h=>by simp only [mtE,Option.some.injEq] at h; subst h; exact ⟨SubR.refl _ _,fun E ES R ms k=>by cases ms <;> first | exact trivial | exact k.elim⟩
  | [],_ :: _,r,r',h=>by simp only [mtE] at h; cases h
  | _ :: _,[],r,r',h=>by simp only [mtE] at h; cases h
  | a :: l,b :: m,r,r',h=>by
    simp only [mtE] at h
    obtain ⟨h0,h⟩:=cond_some h
    have h0:=beq_t.1 h0
    split at h
    · rename_i r1 e1
      split at h
      · rename_i r2 e2
        obtain ⟨s1,m1⟩:=mtV_ok _ _ _ _ e1
        obtain ⟨s2,m2⟩:=mtV_ok _ _ _ _ e2
        obtain ⟨s3,m3⟩:=mtE_ok l m r2 r' h
        refine ⟨(s1.trans s2).trans s3,fun E ES R ms k=>?_⟩
        cases ms with
        | nil=>exact k.elim
        | cons x ms =>
          obtain ⟨k1,k2,k3,k4⟩:=k
          exact ⟨(m1 E ES ((R.sub s3).sub s2)).trans k1,(m2 E ES (R.sub s3)).trans k2,k3.trans h0.symm,m3 E ES R ms k4⟩
      · cases h
    · cases h
theorem beqB_eq {a b:Bool} (h:beqB a b=true):a=b:=by cases a <;> cases b <;> first | rfl | cases h
def VO.isOwn (v:VO):Bool :=
  match v with
  | .own _ _ _=>true
  | .ownMap _ _=>true
  | _=>false
theorem VO.own_obj (v:VO):ownO v.obj=v.isOwn:=by cases v <;> rfl
theorem VO.ro_obj (v:VO):roO v.obj=!v.isOwn:=by cases v <;> rfl
structure ViewAt (p:Par) (E ES:Env) (h:Heap) (w:World) (r:Ren) (n:Nat) (g:Nat × VO):Prop where
  at_:∃ b o,(cond (Nat.ble (Nat.succ g.1) 1000) (some g.1) (cond (Nat.ble (Nat.succ g.1) n) (lFind r g.1) none))=some b∧h.get b=some o∧ES.σ g.1=E.σ b∧(g.2.isOwn=true→ownO o=true)∧(ownO o=true ∨ roO o=true)
  obj:objOk p ES g.1 g.2.obj w.heap
theorem resolve_sub {n b c : Nat} {r r' : Ren} (q : SubR n r r') (h : (cond (Nat.ble (Nat.succ b) 1000) (some b) (cond (Nat.ble (Nat.succ b) n) (lFind r b) none)) = some c) :
    (cond (Nat.ble (Nat.succ b) 1000) (some b) (cond (Nat.ble (Nat.succ b) n) (lFind r' b) none))=some c∧∀ E ES,Rel n E ES r'→ES.σ b=E.σ c∧ES.κ b=E.κ c:=by
  cases h2:Nat.ble (Nat.succ b) 1000 with
  | true =>
    rw [h2] at h; cases h
    exact ⟨rfl,fun E ES R=>R.lo _ (ble_t.1 h2)⟩
  | false =>
    rw [h2,cond_false] at h
    obtain ⟨h3,h4⟩:=cond_some h
    have h5:1000≤b:=by
      rcases Nat.lt_or_ge b 1000 with k | k
      · have:=ble_t.2 k; rw [h2] at this; cases this
      · exact k
    have h6:=q _ _ h5 (ble_t.1 h3) h4
    exact ⟨by rw [cond_false,h3,cond_true]; exact h6,fun E ES R=>R.at_ _ _ h5 (ble_t.1 h3) h6⟩
theorem mtView_ok {n : Nat} {h : Heap} : ∀ (l : List (Nat × VO)) (r r' : Ren), mtView n h l r = some r' → SubR n r r' ∧
    ∀ {p:Par} {E ES:Env} {w0:Base} {w:World},Rel n E ES r'→HeapOk p E h w0 w→∀ g ∈ l,ViewAt p E ES h w r' n g
  | [],r,r',e=>by
    simp only [mtView,Option.some.injEq] at e; subst e
    exact ⟨SubR.refl _ _,fun _ _ g hg=>by cases hg⟩
  | g :: l,r,r',e=>by
    simp only [mtView] at e
    split at e
    · rename_i b hb
      split at e
      · rename_i r1 h1
        obtain ⟨q3,q4⟩:=mtView_ok l r1 r' e
        have fin : ∀ (q1 : SubR n r r1), (∀ {p : Par} {E ES : Env} {w0 : Base} {w : World}, Rel n E ES r1 → HeapOk p E h w0 w → ES.σ g.1 = E.σ b → ES.κ g.1 = E.κ b →
            ∃ o,h.get b=some o∧(g.2.isOwn=true→ownO o=true)∧(ownO o=true ∨ roO o=true)∧objOk p ES g.1 g.2.obj w.heap) →
            SubR n r r'∧∀ {p:Par} {E ES:Env} {w0:Base} {w:World},Rel n E ES r'→HeapOk p E h w0 w→∀ g' ∈ g :: l,ViewAt p E ES h w r' n g':=by
          intro q1 H
          refine ⟨q1.trans q3,fun {p E ES w0 w} R HH g' hg'=>?_⟩
          rcases List.mem_cons.1 hg' with rfl | hg'
          · obtain ⟨e1,e2⟩:=resolve_sub (q1.trans q3) hb
            obtain ⟨o,z1,z2,z3,z4⟩:=H (R.sub q3) HH (e2 E ES R).1 (e2 E ES R).2
            exact ⟨⟨b,o,e1,z1,(e2 E ES R).1,z2,z3⟩,z4⟩
          · exact q4 R HH g' hg'
        have cellsAt:∀ {p:Par} {E ES:Env} {w0:Base} {w:World} {cs cs':List AV} {el:TypeId} {own ext:Bool},HeapOk p E h w0 w→h.get b=some (.cells cs' el own ext)→ES.σ g.1=E.σ b→concL ES cs=concL E cs'→objOk p ES g.1 (.cells cs 0 false false) w.heap :=
          fun HH hg hσ hc=>by
            obtain ⟨c,base,vs,cells,el',fz,k1,k2,k3,k4,k5⟩:=HH.obj b _ hg
            exact ⟨c,base,vs,cells,el',fz,hσ.trans k1,hc.trans k2,k3,k4,fun h=>by cases h⟩
        unfold mtO at h1
        split at h1
        · rename_i cs hcs
          split at h1
          · rename_i cs' el own ext hg
            obtain ⟨q1,q2⟩:=mtL_ok _ _ _ _ h1
            refine fin q1 fun {p E ES w0 w} R HH hσ hκ=>⟨_,hg,by rw [hcs]; exact fun h=>(by cases h),?_,by rw [hcs]; exact cellsAt HH hg hσ (q2 E ES R)⟩
            cases own; exact .inr rfl; exact .inl rfl
          · cases h1
        · rename_i es k hes
          split at h1
          · rename_i es' k' hg
            obtain ⟨h2,h3⟩:=cond_some h1
            have h2:=beq_t.1 h2
            subst h2
            obtain ⟨q1,q2⟩:=mtE_ok _ _ _ _ h3
            refine fin q1 fun {p E ES w0 w} R HH hσ hκ=>⟨_,hg,by rw [hes]; exact fun h=>(by cases h),.inl rfl,?_⟩
            rw [hes]
            obtain ⟨c,ms,z1,z2,z3⟩:=HH.obj b _ hg
            exact ⟨c,ms,hσ.trans z1,q2 E ES R ms z2,z3⟩
          · rename_i es' k' hg
            obtain ⟨h2,h3⟩:=cond_some h1
            have h2:=beq_t.1 h2
            subst h2
            obtain ⟨q1,q2⟩:=mtE_ok _ _ _ _ h3
            refine fin q1 fun {p E ES w0 w} R HH hσ hκ=>⟨_,hg,by rw [hes]; exact fun h=>(by cases h),.inr rfl,?_⟩
            rw [hes]
            obtain ⟨c,ms,z1,z2,z3⟩:=HH.obj b _ hg
            exact ⟨c,ms,hσ.trans z1,q2 E ES R ms z2,z3⟩
          · cases h1
        · rename_i cs el ext hcs
          split at h1
          · rename_i cs' el' own ext' hg
            obtain ⟨h2,h3⟩:=cond_some h1
            simp only [Bool.and_eq_true] at h2
            obtain ⟨h4,h5,h6⟩:=h2
            have h5:=beq_t.1 h5; have h6:=beqB_eq h6
            subst h4; subst h5; subst h6
            obtain ⟨q1,q2⟩:=mtL_ok _ _ _ _ h3
            refine fin q1 fun {p E ES w0 w} R HH hσ hκ=>⟨_,hg,fun _=>rfl,.inl rfl,?_⟩
            rw [hcs]
            obtain ⟨c,base,vs,cells,el',fz,k1,k2,k3,k4,k5⟩:=HH.obj b _ hg
            exact ⟨c,base,vs,cells,el',fz,hσ.trans k1,(q2 E ES R).trans k2,k3,k4,by rw [hκ]; exact k5⟩
          · cases h1
        · rename_i es k hes
          split at h1
          · rename_i es' k' hg
            obtain ⟨h2,h3⟩:=cond_some h1
            have h2:=beq_t.1 h2
            subst h2
            obtain ⟨q1,q2⟩:=mtE_ok _ _ _ _ h3
            refine fin q1 fun {p E ES w0 w} R HH hσ hκ=>⟨_,hg,fun _=>rfl,.inl rfl,?_⟩
            rw [hes]
            obtain ⟨c,ms,z1,z2,z3⟩:=HH.obj b _ hg
            exact ⟨c,ms,hσ.trans z1,q2 E ES R ms z2,z3⟩
          · cases h1
      · cases e
    · cases e
theorem viewO_next (n:Nat):∀ l,(viewO n l).next=n
  | []=>rfl
  | g :: l=>by rw [viewO,Heap.next_put]; exact viewO_next n l
theorem viewO_get (n:Nat):∀ (l:List (Nat × VO)) (b:Nat) (o:AObj),(viewO n l).get b=some o→∃ g ∈ l,g.1=b∧o=g.2.obj
  | [],b,o,h=>by
    have:(PT.nil:PT AObj).get b=some o:=h
    rw [PT.get_nil] at this; cases this
  | g :: l,b,o,h=>by
    rw [viewO,Heap.get_put] at h
    by_cases c:b=g.1
    · rw [if_pos c] at h; cases h; exact ⟨g,List.mem_cons_self,c.symm,rfl⟩
    · rw [if_neg c] at h
      obtain ⟨g',h1,h2⟩:=viewO_get n l b o h
      exact ⟨g',List.mem_cons_of_mem _ h1,h2⟩
theorem viewUp_ge:∀ (l:List (Nat × VO)) (n:Nat),viewUp n l=true→∀ q ∈ l,n≤q.1
  | [],n,_,q,hq=>by cases hq
  | q :: l,n,h,q',hq=>by
    simp only [viewUp] at h
    cases h1:Nat.ble n q.1 with
    | false=>rw [h1] at h; cases h
    | true =>
      rw [h1] at h
      rcases List.mem_cons.1 hq with rfl | hq
      · exact ble_t.1 h1
      · have:=viewUp_ge l _ h q' hq; have:=ble_t.1 h1; omega
theorem viewUp_inj:∀ (l:List (Nat × VO)) (n:Nat),viewUp n l=true→∀ q ∈ l,∀ q' ∈ l,q.1=q'.1→q=q'
  | [],n,_,q,hq,_,_,_=>by cases hq
  | p :: l,n,h,q,hq,q',hq',e=>by
    simp only [viewUp] at h
    cases h0:Nat.ble n p.1 with
    | false=>rw [h0] at h; cases h
    | true =>
      rw [h0] at h
      rcases List.mem_cons.1 hq with h1 | h1
      · rcases List.mem_cons.1 hq' with h2 | h2
        · rw [h1,h2]
        · have:=viewUp_ge l _ h q' h2; rw [h1] at e; omega
      · rcases List.mem_cons.1 hq' with h2 | h2
        · have:=viewUp_ge l _ h q h1; rw [h2] at e; omega
        · exact viewUp_inj l _ h q h1 q' h2 e
theorem outsOk_own {n : Nat} : ∀ (l : List (Nat × VO)) (m : List (Nat × NB)), outsOk n l m = true →
    (∀ g ∈ l,g.2.isOwn=true→∃ q ∈ m,q.1=g.1)∧(∀ q ∈ m,1000≤q.1∧q.1 < n∧∃ g ∈ l,g.1=q.1∧g.2.isOwn=true)
  | [],[],_=>⟨fun g hg=>(by cases hg),fun q hq=>(by cases hq)⟩
  | [],_ :: _,h=>by simp only [outsOk] at h; cases h
  | g :: l,m,h=>by
    have ro:g.2.isOwn=false→outsOk n l m=true→(∀ g' ∈ g :: l,g'.2.isOwn=true→∃ q ∈ m,q.1=g'.1)∧(∀ q ∈ m,1000≤q.1∧q.1 < n∧∃ g' ∈ g :: l,g'.1=q.1∧g'.2.isOwn=true):=fun hg h=>by
      obtain ⟨a1,a2⟩:=outsOk_own l m h
      refine ⟨fun g' hg' ho=>?_,fun q hq=>?_⟩
      · rcases List.mem_cons.1 hg' with rfl | hg'
        · rw [hg] at ho; cases ho
        · exact a1 g' hg' ho
      · obtain ⟨b1,b2,g',b3,b4⟩:=a2 q hq
        exact ⟨b1,b2,g',List.mem_cons_of_mem _ b3,b4⟩
    have own : ∀ (q : Nat × NB) (m' : List (Nat × NB)), g.2.isOwn = true → cond (and (Nat.beq g.1 q.1) (and (Nat.ble 1000 q.1) (Nat.ble (Nat.succ q.1) n))) (outsOk n l m') false = true →
        (∀ g' ∈ g :: l,g'.2.isOwn=true→∃ q' ∈ q :: m',q'.1=g'.1)∧(∀ q' ∈ q :: m',1000≤q'.1∧q'.1 < n∧∃ g' ∈ g :: l,g'.1=q'.1∧g'.2.isOwn=true):=fun q m' hg h=>by
      cases hc:and (Nat.beq g.1 q.1) (and (Nat.ble 1000 q.1) (Nat.ble (Nat.succ q.1) n)) with
      | false=>rw [hc] at h; cases h
      | true =>
        rw [hc,cond_true] at h
        simp only [Bool.and_eq_true] at hc
        have c1:=beq_t.1 hc.1; have c2:=ble_t.1 hc.2.1; have c3:=ble_t.1 hc.2.2
        obtain ⟨a1,a2⟩:=outsOk_own l m' h
        refine ⟨fun g' hg' ho=>?_,fun q' hq=>?_⟩
        · rcases List.mem_cons.1 hg' with rfl | hg'
          · exact ⟨q,List.mem_cons_self,c1.symm⟩
          · obtain ⟨q',b1,b2⟩:=a1 g' hg' ho
            exact ⟨q',List.mem_cons_of_mem _ b1,b2⟩
        · rcases List.mem_cons.1 hq with rfl | hq
          · exact ⟨c2,c3,g,List.mem_cons_self,c1,hg⟩
          · obtain ⟨b1,b2,g',b3,b4⟩:=a2 q' hq
            exact ⟨b1,b2,g',List.mem_cons_of_mem _ b3,b4⟩
    obtain ⟨gb,gv⟩:=g
    cases gv with
    | cells cs=>simp only [outsOk] at h; exact ro rfl h
    | map es k=>simp only [outsOk] at h; exact ro rfl h
    | own cs el ext =>
      cases m with
      | nil=>simp only [outsOk] at h; cases h
      | cons q m=>simp only [outsOk] at h; exact own q m rfl h
    | ownMap es k =>
      cases m with
      | nil=>simp only [outsOk] at h; cases h
      | cons q m=>simp only [outsOk] at h; exact own q m rfl h
theorem injR_ok:∀ {r:Ren},injR r=true→(∀ b c,lFind r b=some c→1000≤c∧memR c r=true)∧∀ b b' c,lFind r b=some c→lFind r b'=some c→b=b'
  | [],_=>⟨fun b c h=>(by cases h),fun b b' c h=>(by cases h)⟩
  | p :: l,h=>by
    simp only [injR] at h
    cases hc:and (Nat.ble 1000 p.2) (Bool.not (memR p.2 l)) with
    | false=>rw [hc] at h; cases h
    | true =>
      rw [hc] at h
      simp only [Bool.and_eq_true,Bool.not_eq_true'] at hc
      obtain ⟨a1,a2⟩:=injR_ok (r:=l) h
      refine ⟨fun b c e=>?_,fun b b' c e e'=>?_⟩
      · rw [lFind_cons] at e
        simp only [memR]
        cases hb:Nat.beq p.1 b with
        | true=>rw [hb] at e; cases e; exact ⟨ble_t.1 hc.1,by rw [beq_t.2 rfl]; rfl⟩
        | false =>
          rw [hb] at e
          obtain ⟨b1,b2⟩:=a1 b c e
          exact ⟨b1,by cases Nat.beq p.2 c <;> first | rfl | exact b2⟩
      · rw [lFind_cons] at e e'
        cases hb:Nat.beq p.1 b with
        | true =>
          rw [hb] at e; cases e
          cases hb':Nat.beq p.1 b' with
          | true=>rw [← beq_t.1 hb,← beq_t.1 hb']
          | false =>
            rw [hb'] at e'
            have:=(a1 b' _ e').2
            rw [hc.2] at this; cases this
        | false =>
          rw [hb] at e
          cases hb':Nat.beq p.1 b' with
          | true =>
            rw [hb'] at e'; cases e'
            have:=(a1 b _ e).2
            rw [hc.2] at this; cases this
          | false=>rw [hb'] at e'; exact a2 b b' c e e'
noncomputable def envR (n:Nat) (E:Env) (r:Ren):Env :=
  ⟨E.ρ,fun b=>if b < 1000 then some (b,0) else if b < n then (match lFind r b with | some c=>E.σ c | none=>none) else none,
    fun b=>if b < 1000 then E.κ b else if b < n then (match lFind r b with | some c=>E.κ c | none=>0) else 0,n,fun _=>#[]⟩
theorem envR_rel {n:Nat} {E:Env} {r:Ren} (hg:∀ b,b < 1000→E.σ b=some (b,0)):Rel n E (envR n E r) r:=by
  refine ⟨rfl,fun b hb=>?_,fun b c h1 h2 e=>?_⟩
  · simp only [envR,if_pos hb,hg b hb,and_self]
  · simp only [envR,if_neg (show ¬ b < 1000 by omega),if_pos h2,e,and_self]
structure RelB (g:Nat→Option Nat) (E1 E2:Env):Prop where
  ρ:E2.ρ=E1.ρ
  at_:∀ b c q,g b=some c→E1.σ b=some q→E2.σ c=some q∧E2.κ c=E1.κ b
mutual
theorem rnV_ok {g:Nat→Option Nat} {E1 E2:Env} (R:RelB g E1 E2):∀ (a a':AV) (v:Value),rnV g a=some a'→conc E1 a=some v→conc E2 a'=some v
  | .ptr b o,a',v,h,e=>by
    simp only [rnV] at h
    split at h
    · rename_i b' hb
      cases h
      simp only [conc,Option.map_eq_some_iff] at e ⊢
      obtain ⟨q,hq,e⟩:=e
      exact ⟨q,(R.at_ _ _ _ hb hq).1,e⟩
    · cases h
  | .slice b o l c,a',v,h,e=>by
    simp only [rnV] at h
    split at h
    · rename_i b' hb
      cases h
      simp only [conc,Option.map_eq_some_iff] at e ⊢
      obtain ⟨q,hq,e⟩:=e
      exact ⟨q,(R.at_ _ _ _ hb hq).1,e⟩
    · cases h
  | .sliceX b o l c,a',v,h,e=>by
    simp only [rnV] at h
    split at h
    · rename_i b' hb
      cases h
      simp only [conc] at e ⊢
      split at e
      · rename_i hl
        simp only [Option.map_eq_some_iff] at e
        obtain ⟨q,hq,e⟩:=e
        obtain ⟨h1,h2⟩:=R.at_ _ _ _ hb hq
        rw [if_pos (by rw [h2]; exact hl),h1,h2,Option.map_some,e]
      · cases e
    · cases h
  | .agg x,a',v,h,e=>by
    simp only [rnV] at h
    split at h
    · rename_i y hy
      cases h
      simp only [conc,Option.map_eq_some_iff] at e ⊢
      obtain ⟨q,hq,e⟩:=e
      exact ⟨q,rnL_ok R x y q hy hq,e⟩
    · cases h
  | .tup x,a',v,h,e=>by
    simp only [rnV] at h
    split at h
    · rename_i y hy
      cases h
      simp only [conc,Option.map_eq_some_iff] at e ⊢
      obtain ⟨q,hq,e⟩:=e
      exact ⟨q,rnL_ok R x y q hy hq,e⟩
    · cases h
  | .bool a,a',v,h,e=>by simp only [rnV,Option.some.injEq] at h; subst h; simpa only [conc,R.ρ] using e
  | .int k a,a',v,h,e=>by simp only [rnV,Option.some.injEq] at h; subst h; simpa only [conc,R.ρ] using e
  | .nilptr,a',v,h,e=>by simp only [rnV,Option.some.injEq] at h; subst h; exact e
  | .nilslice,a',v,h,e=>by simp only [rnV,Option.some.injEq] at h; subst h; exact e
  | .nilmap,a',v,h,e=>by simp only [rnV,Option.some.injEq] at h; subst h; exact e
  | .nilFunc,a',v,h,e=>by simp only [rnV,Option.some.injEq] at h; subst h; exact e
  | .map b,a',v,h,e=>by
    simp only [rnV] at h
    split at h
    · rename_i b' hb
      cases h
      simp only [conc,Option.map_eq_some_iff] at e ⊢
      obtain ⟨q,hq,e⟩:=e
      exact ⟨q,(R.at_ _ _ _ hb hq).1,e⟩
    · cases h
  | .func f x y,a',v,h,e=>by simp only [rnV] at h; cases h
  | .yieldF b,a',v,h,e=>by simp only [rnV] at h; cases h
  | .opq b,a',v,h,e=>by simp only [rnV] at h; cases h
  | .sliceU b,a',v,h,e=>by simp only [rnV] at h; cases h
  | .sliceV b i,a',v,h,e=>by
    simp only [rnV] at h
    split at h
    · rename_i b' hb
      cases h
      simp only [conc] at e ⊢
      split at e
      · rename_i hl
        simp only [Option.map_eq_some_iff] at e
        obtain ⟨q,hq,e⟩:=e
        obtain ⟨h1,h2⟩:=R.at_ _ _ _ hb hq
        rw [if_pos (by rw [h2,R.ρ]; exact hl),h1,Option.map_some,R.ρ,h2,e]
      · cases e
    · cases h
  | .ptrV _ _ _ _ _,a',v,h,e=>by simp only [rnV] at h; cases h
  | .bad,a',v,h,e=>by simp only [rnV] at h; cases h
theorem rnL_ok {g:Nat→Option Nat} {E1 E2:Env} (R:RelB g E1 E2):∀ (l l':List AV) (vs:List Value),rnL g l=some l'→concL E1 l=some vs→concL E2 l'=some vs
  | [],l',vs,h,e=>by simp only [rnL,Option.some.injEq] at h; subst h; exact e
  | a :: l,l',vs,h,e=>by
    simp only [rnL] at h
    split at h
    · rename_i b hb
      split at h
      · rename_i m hm
        cases h
        obtain ⟨v,rest,h1,h2,rfl⟩:=concL_cons.1 e
        exact concL_cons.2 ⟨v,rest,rnV_ok R a b v hb h1,rnL_ok R l m rest hm h2,rfl⟩
      · cases h
    · cases h
end
theorem rnE_ok {g:Nat→Option Nat} {E1 E2:Env} (R:RelB g E1 E2):∀ (l l':List (AV × AV × Nat)) (ms:List MapEntry),rnE g l=some l'→concE E1 l ms→concE E2 l' ms
  | [],l',ms,h,e=>by simp only [rnE,Option.some.injEq] at h; subst h; cases ms <;> first | exact trivial | exact e.elim
  | a :: l,l',ms,h,e=>by
    simp only [rnE] at h
    split at h
    · rename_i k v m hk hv hm
      cases h
      cases ms with
      | nil=>exact e.elim
      | cons x ms =>
        obtain ⟨k1,k2,k3,k4⟩:=e
        exact ⟨rnV_ok R _ _ _ hk k1,rnV_ok R _ _ _ hv k2,k3,rnE_ok R l m ms hm k4⟩
    · cases h
theorem NB.raw_own (q:NB):ownO q.raw=true:=by cases q <;> rfl
theorem NB.ren_own {g:Nat→Option Nat} {q:NB} {o:AObj} (h:q.ren g=some o):ownO o=true:=by
  unfold NB.ren at h
  split at h
  · split at h
    · cases h; rfl
    · cases h
  · split at h
    · cases h; rfl
    · cases h
theorem newsH_next {g:Nat→Option Nat}:∀ (l:List (Nat × NB)) (h h2:Heap),newsH g l h=some h2→h2.next=h.next + l.length
  | [],h,h2,e=>by simp only [newsH,Option.some.injEq] at e; subst e; rfl
  | q :: l,h,h2,e=>by
    simp only [newsH] at e
    split at e
    · rename_i o ho
      rw [newsH_next l _ h2 e,Heap.next_new,List.length_cons]; omega
    · cases e
theorem newsH_get {g : Nat → Option Nat} : ∀ (l : List (Nat × NB)) (h h2 : Heap), newsH g l h = some h2 → ∀ j o, h2.get j = some o →
    (h.get j=some o∧(j < h.next ∨ h.next + l.length≤j)) ∨ ∃ (i:Nat) (q:Nat × NB),l[i]?=some q∧j=h.next + i∧q.2.ren g=some o
  | [],h,h2,e,j,o,ho=>by
    simp only [newsH,Option.some.injEq] at e; subst e
    refine .inl ⟨ho,?_⟩
    simp only [List.length_nil]; omega
  | q :: l,h,h2,e,j,o,ho=>by
    simp only [newsH] at e
    split at e
    · rename_i o1 ho1
      rcases newsH_get l _ h2 e j o ho with ⟨h1,h3⟩ | ⟨i,q',h1,h3,h4⟩
      · rw [Heap.get_new] at h1
        by_cases hj:j=h.next
        · rw [if_pos hj] at h1; cases h1
          exact .inr ⟨0,q,rfl,by omega,ho1⟩
        · rw [if_neg hj] at h1
          rw [Heap.next_new] at h3
          refine .inl ⟨h1,?_⟩
          simp only [List.length_cons]; omega
      · rw [Heap.next_new] at h3
        exact .inr ⟨i + 1,q',by simpa using h1,by omega,h4⟩
    · cases e
theorem newsR_find:∀ (l:List (Nat × NB)) (k b c:Nat),lFind (newsR l k) b=some c→∃ i q,l[i]?=some q∧q.1=b∧c=k + i
  | [],k,b,c,e=>by cases e
  | q :: l,k,b,c,e=>by
    simp only [newsR,lFind_cons] at e
    cases h:Nat.beq q.1 b with
    | true=>rw [h] at e; cases e; exact ⟨0,q,rfl,beq_t.1 h,rfl⟩
    | false =>
      rw [h] at e
      obtain ⟨i,q',h1,h2,h3⟩:=newsR_find l _ b c e
      exact ⟨i + 1,q',by simpa using h1,h2,by omega⟩
theorem rises_ge:∀ (l:List (Nat × NB)) (n:Nat),rises n l=true→∀ q ∈ l,n≤q.1
  | [],n,_,q,hq=>by cases hq
  | q :: l,n,h,q',hq=>by
    simp only [rises] at h
    cases h1:Nat.ble n q.1 with
    | false=>rw [h1] at h; cases h
    | true =>
      rw [h1] at h
      rcases List.mem_cons.1 hq with rfl | hq
      · exact ble_t.1 h1
      · have:=rises_ge l _ h q' hq; have:=ble_t.1 h1; omega
theorem rises_inj:∀ (l:List (Nat × NB)) (n:Nat),rises n l=true→∀ (i j:Nat) (q q':Nat × NB),l[i]?=some q→l[j]?=some q'→q.1=q'.1→i=j
  | [],n,_,i,j,q,q',h1,_,_=>by simp at h1
  | p :: l,n,h,i,j,q,q',h1,h2,e=>by
    simp only [rises] at h
    cases h0:Nat.ble n p.1 with
    | false=>rw [h0] at h; cases h
    | true =>
      rw [h0] at h
      cases i with
      | zero =>
        cases j with
        | zero=>rfl
        | succ j =>
          simp at h1 h2; subst h1
          have:=rises_ge l _ h q' (List.mem_of_getElem? h2); omega
      | succ i =>
        cases j with
        | zero =>
          simp at h1 h2; subst h2
          have:=rises_ge l _ h q (List.mem_of_getElem? h1); omega
        | succ j =>
          simp at h1 h2
          rw [rises_inj l _ h i j q q' h1 h2 e]
noncomputable def envN (E E1:Env) (base:Nat) (l:List (Nat × NB)):Env :=
  ⟨E.ρ,fun b=>if b < base then E.σ b else match l[b - base]? with | some q=>E1.σ q.1 | none=>none,
    fun b=>if b < base then E.κ b else match l[b - base]? with | some q=>E1.κ q.1 | none=>0,base + l.length,
    E.rc⟩
theorem putsH_next {g:Nat→Option Nat}:∀ (l:List (Nat × NB)) (h h2:Heap),putsH g l h=some h2→h2.next=h.next
  | [],h,h2,e=>by simp only [putsH,Option.some.injEq] at e; subst e; rfl
  | q :: l,h,h2,e=>by
    simp only [putsH] at e
    split at e
    · split at e
      · rw [putsH_next l _ h2 e,Heap.next_put]
      · cases e
    · cases e
theorem putsH_get {g : Nat → Option Nat} : ∀ (l : List (Nat × NB)) (h h2 : Heap), putsH g l h = some h2 → ∀ j o, h2.get j = some o →
    (h.get j=some o∧∀ q ∈ l,g q.1 ≠ some j) ∨ ∃ q ∈ l,g q.1=some j∧q.2.ren g=some o
  | [],h,h2,e,j,o,ho=>by
    simp only [putsH,Option.some.injEq] at e; subst e
    exact .inl ⟨ho,fun q hq=>by cases hq⟩
  | q :: l,h,h2,e,j,o,ho=>by
    simp only [putsH] at e
    split at e
    · rename_i b hb
      split at e
      · rename_i o1 ho1
        rcases putsH_get l _ h2 e j o ho with ⟨h1,h3⟩ | ⟨q',h1,h3,h4⟩
        · rw [Heap.get_put] at h1
          by_cases hj:j=b
          · rw [if_pos hj] at h1; cases h1
            exact .inr ⟨q,List.mem_cons_self,by rw [hj]; exact hb,ho1⟩
          · rw [if_neg hj] at h1
            refine .inl ⟨h1,fun q' hq'=>?_⟩
            rcases List.mem_cons.1 hq' with rfl | hq'
            · rw [hb]; intro e; cases e; exact hj rfl
            · exact h3 q' hq'
        · exact .inr ⟨q',List.mem_cons_of_mem _ h1,h3,h4⟩
      · cases e
    · cases e
theorem NB.ren_ok {p:Par} {g:Nat→Option Nat} {E1 E2:Env} (hR:RelB g E1 E2) {q:NB} {b j:Nat} {o:AObj} {heap:Array Obj} (hq:q.ren g=some o) (hσ:∀ x,E1.σ b=some x→E2.σ j=some x∧E2.κ j=E1.κ b) (hg:objOk p E1 b q.raw heap):objOk p E2 j o heap:=by
  cases q with
  | cells cs el ext =>
    simp only [NB.ren] at hq
    split at hq
    · rename_i cs' hcs'
      cases hq
      obtain ⟨c,base,vs,cells,el',fz,k1,k2,k3,k4,k5⟩:=hg
      exact ⟨c,base,vs,cells,el',fz,(hσ _ k1).1,rnL_ok hR _ _ _ hcs' k2,k3,k4,by rw [(hσ _ k1).2]; exact k5⟩
    · cases hq
  | map es k =>
    simp only [NB.ren] at hq
    split at hq
    · rename_i es' hes'
      cases hq
      obtain ⟨c,ms,k1,k2,k3⟩:=hg
      exact ⟨c,ms,(hσ _ k1).1,rnE_ok hR _ _ _ hes' k2,k3⟩
    · cases hq
theorem HeapOk.merge {p : Par} {E E1 : Env} {h h1 h2 h3 : Heap} {w0 b1 : Base} {w w' : World} {n : Nat} {r : Ren} {l outs : List (Nat × NB)}
    (HH:HeapOk p E h w0 w) (H1:HeapOk p E1 h1 b1 w') (hb1:b1.w=w) (hS:∀ c,b1.S c ↔ c < w.heap.size∧∀ q ∈ outs,∀ x,(envR n E r).σ q.1 ≠ some (c,x))
    (hle:(envR n E r).le E1) (hrise:rises n l=true)
    (hl:∀ q ∈ l,h1.get q.1=some q.2.raw)
    (hout:∀ q ∈ outs,h1.get q.1=some q.2.raw∧1000≤q.1∧q.1 < n∧∃ j o0,lFind r q.1=some j∧h.get j=some o0∧ownO o0=true)
    (e2:newsH (blR n r (newsR l h.next)) l h=some h2) (e3:putsH (blR n r (newsR l h.next)) outs h2=some h3) :
    E.le (envN E E1 h.next l)∧RelB (blR n r (newsR l h.next)) E1 (envN E E1 h.next l)∧HeapOk p (envN E E1 h.next l) h3 w0 w':=by
  have hnx:=newsH_next l h h2 e2
  have hfr:∀ b q,E.σ b=some q→b < h.next:=fun b q e=>by
    rcases Nat.lt_or_ge b h.next with k | k
    · exact k
    · rw [HH.fresh b k] at e; cases e
  have h1000:1000≤h.next:=by
    rcases Nat.lt_or_ge h.next 1000 with k | k
    · have:=HH.glob h.next k; rw [HH.fresh _ (Nat.le_refl _)] at this; cases this
    · exact k
  have hσ0:∀ b,b < h.next→(envN E E1 h.next l).σ b=E.σ b:=fun b hb=>by simp only [envN,if_pos hb]
  have hκ0:∀ b,b < h.next→(envN E E1 h.next l).κ b=E.κ b:=fun b hb=>by simp only [envN,if_pos hb]
  have hσ1:∀ i q,l[i]?=some q→(envN E E1 h.next l).σ (h.next + i)=E1.σ q.1:=fun i q hq=>by
    simp only [envN,if_neg (show ¬ h.next + i < h.next by omega),Nat.add_sub_cancel_left,hq]
  have hκ1:∀ i q,l[i]?=some q→(envN E E1 h.next l).κ (h.next + i)=E1.κ q.1:=fun i q hq=>by
    simp only [envN,if_neg (show ¬ h.next + i < h.next by omega),Nat.add_sub_cancel_left,hq]
  have hσ2:∀ b,h.next + l.length≤b→(envN E E1 h.next l).σ b=none:=fun b hb=>by
    simp only [envN,if_neg (show ¬ b < h.next by omega)]
    rw [List.getElem?_eq_none (by omega)]
  have hEle:E.le (envN E E1 h.next l):=by
    refine ⟨⟨rfl,fun b q e=>by rw [hσ0 b (hfr b q e)]; exact e,fun b q e=>hκ0 b (hfr b q e),fun _ _ _=>rfl⟩,?_,fun b hb e=>?_⟩
    · have:=HH.nx; simp only [envN]; omega
    · rw [hσ0 b (Nat.lt_of_lt_of_le hb HH.nx)]; exact e
  have hR:RelB (blR n r (newsR l h.next)) E1 (envN E E1 h.next l):=by
    refine ⟨?_,fun b c q hb hq=>?_⟩
    · exact hle.ρ.symm
    · unfold blR at hb
      cases k1:Nat.ble (Nat.succ b) 1000 with
      | true =>
        rw [k1] at hb; cases hb
        have hb':b < 1000:=ble_t.1 k1
        have s0:(envR n E r).σ b=some (b,0):=by simp only [envR,if_pos hb']
        have s1:=hle.σ _ _ s0
        rw [hq] at s1; cases s1
        have kk:=hle.κ _ _ s0
        rw [hσ0 b (by omega),hκ0 b (by omega),HH.glob b hb',kk]
        exact ⟨rfl,by simp only [envR,if_pos hb']⟩
      | false =>
        rw [k1,cond_false] at hb
        have hb1:1000≤b:=by
          rcases Nat.lt_or_ge b 1000 with k | k
          · have:=ble_t.2 k; rw [k1] at this; cases this
          · exact k
        cases k2:Nat.ble (Nat.succ b) n with
        | true =>
          rw [k2,cond_true] at hb
          have hbn:b < n:=ble_t.1 k2
          have s0:(envR n E r).σ b=E.σ c:=by simp only [envR,if_neg (show ¬ b < 1000 by omega),if_pos hbn,hb]
          have t0:(envR n E r).κ b=E.κ c:=by simp only [envR,if_neg (show ¬ b < 1000 by omega),if_pos hbn,hb]
          cases hc:E.σ c with
          | none =>
            have:=hle.none b (by simpa [envR] using hbn) (by rw [s0]; exact hc)
            rw [hq] at this; cases this
          | some q' =>
            rw [hc] at s0
            have s1:=hle.σ _ _ s0
            rw [hq] at s1; cases s1
            have hcn:=hfr c _ hc
            refine ⟨by rw [hσ0 c hcn]; exact hc,?_⟩
            rw [hκ0 c hcn,hle.κ _ _ s0,t0]
        | false =>
          rw [k2,cond_false] at hb
          obtain ⟨i,q',g1,g2,rfl⟩:=newsR_find l _ b c hb
          subst g2
          exact ⟨by rw [hσ1 i q' g1]; exact hq,hκ1 i q' g1⟩
  refine ⟨hEle,hR,?_⟩
  have HW:=HH.below
  have hK:Kept b1.S w w':=by have:=H1.below; rw [← hb1]; exact this
  have hnx3:=putsH_next outs h2 h3 e3
  have outAt:∀ q ∈ outs,∃ j o0 c,lFind r q.1=some j∧blR n r (newsR l h.next) q.1=some j∧h.get j=some o0∧ownO o0=true∧(∃ x,E1.σ q.1=some (c,x)∧E.σ j=some (c,x)∧(envR n E r).σ q.1=some (c,x)):=by
    intro q hq
    obtain ⟨g1,g2,g3,j,o0,g4,g5,g6⟩:=hout q hq
    have hbl:blR n r (newsR l h.next) q.1=some j:=by
      unfold blR
      have k1:Nat.ble (Nat.succ q.1) 1000=false:=by
        cases hk:Nat.ble (Nat.succ q.1) 1000 with
        | false=>rfl
        | true=>have:=ble_t.1 hk; omega
      rw [k1,cond_false,ble_t.2 g3,cond_true]; exact g4
    have ho:=H1.obj _ _ g1
    obtain ⟨⟨c,x⟩,hσ1⟩:∃ y,E1.σ q.1=some y:=by
      revert ho
      obtain ⟨qb,qo⟩:=q
      cases qo with
      | cells cs el ext=>rintro ⟨c,base,vs,cells,el',fz,k1,_⟩; exact ⟨_,k1⟩
      | map es k=>rintro ⟨c,ms,k1,_⟩; exact ⟨_,k1⟩
    have hes:(envR n E r).σ q.1=E.σ j:=by simp only [envR,if_neg (show ¬ q.1 < 1000 by omega),if_pos g3,g4]
    have hEj:E.σ j=some (c,x):=by
      cases hc:E.σ j with
      | none =>
        have:=hle.none q.1 (by simpa [envR] using g3) (by rw [hes]; exact hc)
        rw [hσ1] at this; cases this
      | some y =>
        have:=hle.σ _ _ (hes.trans hc)
        rw [hσ1] at this; exact this.symm
    exact ⟨j,o0,c,g4,hbl,g5,g6,x,hσ1,hEj,hes.trans hEj⟩
  have newO:∀ (i:Nat) (q:Nat × NB),l[i]?=some q→∀ c x,E1.σ q.1=some (c,x)→w.heap.size≤c∧c < w'.heap.size:=fun i q hq c x hs=>by
    have hg:=hl q (List.mem_of_getElem? hq)
    refine ⟨?_,H1.lt _ _ _ _ hg hs⟩
    rcases Nat.lt_or_ge c w.heap.size with hc | hc
    · exfalso
      refine H1.base _ _ _ _ hg q.2.raw_own hs ((hS c).2 ⟨hc,fun q' hq' y hy=>?_⟩)
      obtain ⟨g1,g2,g3,_⟩:=hout q' hq'
      have:=hle.σ _ _ hy
      have:=H1.inj _ _ _ _ _ _ _ hg g1 q.2.raw_own q'.2.raw_own hs this
      have:=rises_ge l n hrise q (List.mem_of_getElem? hq)
      omega
    · exact hc
  have old:∀ j o,h.get j=some o→(j < h.next ∨ h.next + l.length≤j)→(envN E E1 h.next l).σ j=E.σ j:=fun j o _ hj=>by
    rcases hj with hj | hj
    · exact hσ0 j hj
    · rw [hσ2 j hj,HH.fresh j (by omega)]
  have kinds : ∀ j o, h3.get j = some o →
      (∃ (i:Nat) (q:Nat × NB),l[i]?=some q∧j=h.next + i∧q.2.ren (blR n r (newsR l h.next))=some o) ∨
      (∃ o0,h.get j=some o0∧(envN E E1 h.next l).σ j=E.σ j ∧
        ((o0=o∧∀ q ∈ outs,lFind r q.1 ≠ some j) ∨ (ownO o0=true∧∃ q ∈ outs,blR n r (newsR l h.next) q.1=some j∧q.2.ren (blR n r (newsR l h.next))=some o))):=by
    intro j o ho
    rcases putsH_get outs h2 h3 e3 j o ho with ⟨g1,g2⟩ | ⟨q,hq,g1,g2⟩
    · rcases newsH_get l h h2 e2 j o g1 with ⟨g3,hj⟩ | ⟨i,q,hq,rfl,hcs⟩
      · refine .inr ⟨o,g3,old j o g3 hj,.inl ⟨rfl,fun q hq e=>?_⟩⟩
        obtain ⟨j',o0,c,z1,z2,_⟩:=outAt q hq
        rw [e] at z1; cases z1
        exact g2 q hq z2
      · exact .inl ⟨i,q,hq,rfl,hcs⟩
    · obtain ⟨j',o0,c,z1,z2,z3,z4,x,z5,z6,z7⟩:=outAt q hq
      rw [g1] at z2; cases z2
      exact .inr ⟨o0,z3,hσ0 j (hfr j _ z6),.inr ⟨z4,q,hq,g1,g2⟩⟩
  refine ⟨fun j o ho=>?_,fun b b' o o' c x y g1 g2 w1 w2 s1 s2=>?_,fun b o c x ho ow s=>?_,fun b o c y hg hr s=>?_,fun b hb=>?_,fun b o c x ho s=>?_,fun b hb=>?_,?_,?_,HH.ok⟩
  · rcases kinds j o ho with ⟨i,q,hq,rfl,hcs⟩ | ⟨o0,g,hσ,⟨rfl,hno⟩ | ⟨hw,q,hq,hbl,hren⟩⟩
    · exact NB.ren_ok hR hcs (fun x hx=>⟨by rw [hσ1 i q hq]; exact hx,hκ1 i q hq⟩) (H1.obj _ _ (hl q (List.mem_of_getElem? hq)))
    · refine (HH.obj j o0 g).mono hEle.tole0 (fun hn=>by rw [hσ]; exact hn) (fun c x hc hk=>hK.block c ((hS c).2 ⟨HH.lt j o0 c x g hc,fun q hq y hy=>?_⟩))
      obtain ⟨j',o1,c',z1,z2,z3,z4,x',z5,z6,z7⟩:=outAt q hq
      rw [hy] at z7; cases z7
      rcases hk with hk | hk
      · have:=HH.inj _ _ _ _ _ _ _ g z3 hk z4 hc z6
        subst this
        exact hno q hq z1
      · exact HH.base _ _ _ _ z3 z4 z6 (HH.ro _ _ _ _ g hk hc)
    · obtain ⟨g1,_⟩:=hout q hq
      exact NB.ren_ok hR hren (fun x hx=>hR.at_ _ _ _ hbl hx) (H1.obj _ _ g1)
  · have one : ∀ b o c x, h3.get b = some o → ownO o = true → (envN E E1 h.next l).σ b = some (c, x) →
        (∃ (i:Nat) (q:Nat × NB),l[i]?=some q∧b=h.next + i∧E1.σ q.1=some (c,x)) ∨ (∃ o0,h.get b=some o0∧ownO o0=true∧E.σ b=some (c,x)):=by
      intro b o c x g0 w1 s
      rcases kinds b o g0 with ⟨i,q,hq,rfl,hcs⟩ | ⟨o0,g',hσ,⟨rfl,hno⟩ | ⟨hw,_⟩⟩
      · rw [hσ1 i q hq] at s; exact .inl ⟨i,q,hq,rfl,s⟩
      · rw [hσ] at s; exact .inr ⟨o0,g',w1,s⟩
      · rw [hσ] at s; exact .inr ⟨o0,g',hw,s⟩
    rcases one b o c x g1 w1 s1 with ⟨i,q,hq,rfl,k1⟩ | ⟨o0,k1,k2,k3⟩
    · rcases one b' o' c y g2 w2 s2 with ⟨i',q',hq',rfl,k1'⟩ | ⟨o0',k1',k2',k3'⟩
      · have:=H1.inj _ _ _ _ _ _ _ (hl q (List.mem_of_getElem? hq)) (hl q' (List.mem_of_getElem? hq')) q.2.raw_own q'.2.raw_own k1 k1'
        rw [rises_inj l n hrise i i' q q' hq hq' this]
      · have a1:=(newO i q hq c x k1).1
        have a2:=HH.lt _ _ _ _ k1' k3'
        omega
    · rcases one b' o' c y g2 w2 s2 with ⟨i',q',hq',rfl,k1'⟩ | ⟨o0',k1',k2',k3'⟩
      · have a1:=(newO i' q' hq' c y k1').1
        have a2:=HH.lt _ _ _ _ k1 k3
        omega
      · exact HH.inj _ _ _ _ _ _ _ k1 k1' k2 k2' k3 k3'
  · rcases kinds b o ho with ⟨i,q,hq,rfl,hcs⟩ | ⟨o0,g,hσ,⟨rfl,hno⟩ | ⟨hw,_⟩⟩
    · rw [hσ1 i q hq] at s
      have a1:=(newO i q hq c x s).1
      intro hc
      have:=HW.lt hc; omega
    · rw [hσ] at s; exact HH.base _ _ _ _ g ow s
    · rw [hσ] at s; exact HH.base _ _ _ _ g hw s
  · rcases kinds b o hg with ⟨i,q,hq,rfl,hcs⟩ | ⟨o0,g,hσ,⟨rfl,hno⟩ | ⟨hw,q,hq,hbl,hren⟩⟩
    · rw [roO_own (NB.ren_own hcs)] at hr; cases hr
    · rw [hσ] at s; exact HH.ro _ _ _ _ g hr s
    · rw [roO_own (NB.ren_own hren)] at hr; cases hr
  · rw [hnx3,hnx] at hb; exact hσ2 b hb
  · rcases kinds b o ho with ⟨i,q,hq,rfl,hcs⟩ | ⟨o0,g,hσ,_⟩
    · rw [hσ1 i q hq] at s; exact (newO i q hq c x s).2
    · rw [hσ] at s; exact Nat.lt_of_lt_of_le (HH.lt _ _ _ _ g s) hK.size
  · rw [hσ0 b (by omega)]; exact HH.glob b hb
  · refine HW.trans ⟨hK.os,hK.tape,hK.output,hK.size,fun c hc=>hK.block c ((hS c).2 ⟨HW.lt hc,fun q hq y hy=>?_⟩)⟩
    obtain ⟨j',o1,c',z1,z2,z3,z4,x',z5,z6,z7⟩:=outAt q hq
    rw [hy] at z7; cases z7
    exact HH.base _ _ _ _ z3 z4 z6 hc
  · rw [hnx3,hnx]; exact Nat.le_refl _
theorem eqEs_eq:∀ (l m:List (AV × AV × Nat)),eqEs l m=true→l=m
  | [],[],_=>rfl
  | [],_ :: _,h=>by simp only [eqEs] at h; cases h
  | _ :: _,[],h=>by simp only [eqEs] at h; cases h
  | (a1,a2,a3) :: l,(b1,b2,b3) :: m,h=>by
    simp only [eqEs,Bool.and_eq_true] at h
    rw [eqAV_eq _ _ h.1.1,eqAV_eq _ _ h.1.2.1,beq_t.1 h.1.2.2,eqEs_eq l m h.2]
theorem newOk_get {h:Heap} {q:Nat × NB} (e:newOk h q=true):h.get q.1=some q.2.raw:=by
  unfold newOk at e
  split at e
  · rename_i cs el ext hq
    split at e
    · rename_i cs' el' own ext' hg
      simp only [Bool.and_eq_true] at e
      rw [hg,hq,e.1,eqAVs_eq _ _ e.2.1,beq_t.1 e.2.2.1,beqB_eq e.2.2.2]; rfl
    · cases e
  · rename_i es k hq
    split at e
    · rename_i es' k' hg
      simp only [Bool.and_eq_true] at e
      rw [hg,hq,eqEs_eq _ _ e.1,beq_t.1 e.2]; rfl
    · cases e
noncomputable def li (n:Int):AV:=.int .i64 (.lit n)
theorem lAll_cons {α:Type} {p:α→Bool} {a:α} {l:List α} (h:p a=true) (k:lAll p l=true):lAll p (a :: l)=true:=by
  show cond (p a) (lAll p l) false=true
  rw [h]; exact k
noncomputable def Ent.run (tb:Tabs) (d:Nat) (e:Ent):Bool :=
  match evalN tb d false e.f e.args (viewO e.n e.view) with
  | .ret r=>and (and (eqAV r.1 e.res) (lAll (newOk r.2) e.news)) (and (and (rises e.n e.news) (Nat.ble 1000 e.n)) (and (lAll (newOk r.2) e.outs) (and (viewUp 0 e.view) (outsOk e.n e.view e.outs))))
  | _=>false
theorem lAll_mem {α:Type} {p:α→Bool}:∀ {l:List α},lAll p l=true→∀ a ∈ l,p a=true
  | [],_,a,h=>by cases h
  | x :: l,h,a,ha=>by
    have h:cond (p x) (lAll p l) false=true:=h
    cases hx:p x with
    | false=>rw [hx] at h; cases h
    | true =>
      rw [hx] at h
      rcases List.mem_cons.1 ha with rfl | ha
      · exact hx
      · exact lAll_mem h a ha
theorem Ent.meet_ok {p : Par} {ty : Nat → Option TI} {tb : Tabs} (B : TabOk p ty tb) {d : Nat} {e : Ent} (hrun : e.run tb d = true) {args : List AV} {h : Heap} {t : T (AV × Heap)}
    (hm:e.meet args h=some t):CallOk p e.f args h t:=by
  unfold Ent.meet at hm
  split at hm
  · rename_i r0 h0
    split at hm
    · rename_i r hr
      obtain ⟨hinj,hm⟩:=cond_some hm
      split at hm
      · rename_i v hv
        split at hm
        · rename_i h2 hn
          split at hm
          · rename_i h3 hp
            cases hm
            obtain ⟨s0,m0⟩:=mtL_ok _ _ _ _ h0
            obtain ⟨s1,m1⟩:=mtView_ok _ _ _ hr
            intro vs E w0 w Q K k HH ha P
            have R:Rel e.n E (envR e.n E r) r:=envR_rel HH.glob
            unfold Ent.run at hrun
            split at hrun
            · rename_i q hq
              obtain ⟨v1,h1⟩:=q
              simp only [Bool.and_eq_true] at hrun
              obtain ⟨⟨k1,k2⟩,⟨k3,k4⟩,k5,k6,k7⟩:=hrun
              have hn1:1000≤e.n:=ble_t.1 k4
              have k1:=eqAV_eq _ _ k1
              subst k1
              obtain ⟨o1,o2⟩:=outsOk_own _ _ k7
              have hargs:concL (envR e.n E r) e.args=some vs:=by rw [m0 E _ (R.sub s1)]; exact ha
              have hview:=m1 R HH
              have h1000:∀ b,b < 1000→(envR e.n E r).σ b=some (b,0):=fun b hb=>by simp only [envR,if_pos hb]
              have res1000:∀ b c,1000≤b→(cond (Nat.ble (Nat.succ b) 1000) (some b) (cond (Nat.ble (Nat.succ b) e.n) (lFind r b) none))=some c→lFind r b=some c:=fun b c hb hc=>by
                have k1:Nat.ble (Nat.succ b) 1000=false:=by
                  cases hk:Nat.ble (Nat.succ b) 1000 with
                  | false=>rfl
                  | true=>have:=ble_t.1 hk; omega
                rw [k1,cond_false] at hc
                exact (cond_some hc).2
              have outR:∀ q ∈ e.outs,1000≤q.1∧q.1 < e.n∧∃ g ∈ e.view,g.1=q.1∧g.2.isOwn=true∧∃ j o,lFind r q.1=some j∧h.get j=some o∧ownO o=true∧(envR e.n E r).σ q.1=E.σ j:=fun q hq=>by
                obtain ⟨b1,b2,g,b3,b4,b5⟩:=o2 q hq
                obtain ⟨b,o,c1,c2,c3,c4,c5⟩:=(hview g b3).at_
                rw [b4] at c1 c3
                exact ⟨b1,b2,g,b3,b4,b5,b,o,res1000 _ _ b1 c1,c2,c4 b5,c3⟩
              have inj:e.outs ≠ []→injR r=true:=fun hne=>by
                unfold someInj at hinj
                split at hinj
                · rename_i he; exact absurd he hne
                · exact hinj
              let b1:Base:=⟨w,fun c=>c < w.heap.size∧∀ q ∈ e.outs,∀ x,(envR e.n E r).σ q.1 ≠ some (c,x),fun c hc=>hc.1⟩
              have hvo:HeapOk p (envR e.n E r) (viewO e.n e.view) b1 w:=by
                have obj:∀ b o,(viewO e.n e.view).get b=some o→objOk p (envR e.n E r) b o w.heap:=fun b o ho=>by
                  obtain ⟨g,hg,rfl,rfl⟩:=viewO_get _ _ _ _ ho
                  exact (hview g hg).obj
                have lt:∀ b o c x,(viewO e.n e.view).get b=some o→(envR e.n E r).σ b=some (c,x)→c < w.heap.size:=fun b o c x ho hs=>by
                  obtain ⟨g,hg,rfl,rfl⟩:=viewO_get _ _ _ _ ho
                  obtain ⟨b',o',c1,c2,c3,c4,c5⟩:=(hview g hg).at_
                  rw [c3] at hs
                  exact HH.lt _ _ _ _ c2 hs
                have own:∀ b o,(viewO e.n e.view).get b=some o→ownO o=true→∃ q ∈ e.outs,q.1=b:=fun b o ho hw=>by
                  obtain ⟨g,hg,rfl,rfl⟩:=viewO_get _ _ _ _ ho
                  rw [VO.own_obj] at hw
                  exact o1 g hg hw
                have same:∀ q ∈ e.outs,∀ b o c x y,(viewO e.n e.view).get b=some o→(envR e.n E r).σ b=some (c,x)→(envR e.n E r).σ q.1=some (c,y)→b=q.1:=by
                  intro q hq b o c x y ho hs hs'
                  have hi:=injR_ok (inj (fun h0=>by rw [h0] at hq; cases hq))
                  obtain ⟨d1,d2,g',d3,d4,d5,j,o',d6,d7,d8,d9⟩:=outR q hq
                  obtain ⟨g,hg,rfl,rfl⟩:=viewO_get _ _ _ _ ho
                  obtain ⟨b',o2,c1,c2,c3,c4,c5⟩:=(hview g hg).at_
                  rw [c3] at hs
                  rw [d9] at hs'
                  have hj:b'=j:=by
                    rcases c5 with c5 | c5
                    · exact HH.inj _ _ _ _ _ _ _ c2 d7 c5 d8 hs hs'
                    · exact absurd (HH.ro _ _ _ _ c2 c5 hs) (HH.base _ _ _ _ d7 d8 hs')
                  subst hj
                  rcases Nat.lt_or_ge g.1 1000 with hlt | hge
                  · have : g.1 = b' := by
                      have k1:Nat.ble (Nat.succ g.1) 1000=true:=ble_t.2 hlt
                      rw [k1,cond_true] at c1; exact Option.some.inj c1
                    have:=(hi.1 _ _ d6).1
                    omega
                  · exact hi.2 _ _ _ (res1000 _ _ hge c1) d6
                refine ⟨obj,fun b b' o o' c x y g1 g2 w1 w2 s1 s2=>?_,fun b o c x ho hw hs hc=>?_,fun b o c y ho hr hs=>?_,fun b hb=>?_,lt,h1000,Kept.refl _ _,(by rw [viewO_next]; exact Nat.le_refl _),HH.ok.mono fun c o e'=>⟨⟨HH.below.lt e'.1,fun q hq x hx=>?_⟩,Base.Keeps.has HH.below e'⟩⟩
                · obtain ⟨q,hq,e1⟩:=own _ _ g2 w2
                  rw [← e1] at s2
                  rw [← e1]
                  exact same q hq _ _ _ _ _ g1 s1 s2
                · obtain ⟨q,hq,e1⟩:=own _ _ ho hw
                  rw [← e1] at hs
                  exact hc.2 q hq x hs
                · refine ⟨lt _ _ _ _ ho hs,fun q hq x hx=>?_⟩
                  have hb:=same q hq _ _ _ _ _ ho hs hx
                  obtain ⟨d1,d2,g',d3,d4,d5,_⟩:=outR q hq
                  obtain ⟨g,hg,e1,rfl⟩:=viewO_get _ _ _ _ ho
                  have:=viewUp_inj _ _ k6 g hg g' d3 (by rw [e1,hb,d4])
                  subst this
                  rw [VO.ro_obj,d5] at hr; cases hr
                · rw [viewO_next] at hb
                  simp only [envR]; rw [if_neg (by omega),if_neg (by omega)]
                · obtain ⟨d1,d2,g',d3,d4,d5,j,o',d6,d7,d8,d9⟩:=outR q hq
                  rw [d9] at hx
                  exact HH.base _ _ _ _ d7 d8 hx e'.1
              have key:=eval_ok B d e.f e.args (viewO e.n e.view) vs (envR e.n E r) b1 w (fun r=>r=(e.res,h1)) (fun cv w'=>∃ E1,(envR e.n E r).le E1∧HeapOk p E1 h1 b1 w'∧conc E1 e.res=some cv)
                (by rw [hq]; rfl) hvo hargs ?_
              · refine ⟨key.1,key.2.mono ?_⟩
                rintro ex w' ⟨cv,rfl,E1,hle,H1,hcv⟩
                obtain ⟨z1,z2,z3⟩:=HH.merge (outs:=e.outs) H1 rfl (fun c=>Iff.rfl) hle k3 (fun q hq=>newOk_get (lAll_mem k2 q hq))
                  (fun q hq=>by
                    obtain ⟨d1,d2,g',d3,d4,d5,j,o',d6,d7,d8,d9⟩:=outR q hq
                    exact ⟨newOk_get (lAll_mem k5 q hq),d1,d2,j,o',d6,d7,d8⟩) hn hp
                exact ⟨cv,rfl,P v h3 _ w' cv k z1 z3 (rnV_ok z2 _ _ _ hv hcv)⟩
              · intro v' h' E' w' cv q hle HH' hv'
                cases q
                exact ⟨E',hle,HH',hv'⟩
            · cases hrun
          · cases hm
        · cases hm
      · cases hm
    · cases hm
  · cases hm
theorem entOrc_ok {p:Par} {ty:Nat→Option TI} {tb:Tabs} (B:TabOk p ty tb) {d:Nat} {f:FuncId} {args:List AV} {h:Heap} {t:T (AV × Heap)}:∀ {l:List Ent},lAll (Ent.run tb d) l=true→entOrc f args h l=some t→CallOk p f args h t
  | [],_,e=>by cases e
  | x :: l,hl,e=>by
    have e:cond (Nat.beq f x.f) (match x.meet args h with
      | some t=>some t
      | none=>entOrc f args h l) (entOrc f args h l)=some t:=e
    have hx:Ent.run tb d x=true:=lAll_mem hl x List.mem_cons_self
    have hl':lAll (Ent.run tb d) l=true:=by
      have h:cond (Ent.run tb d x) (lAll (Ent.run tb d) l) false=true:=hl
      rw [hx] at h; exact h
    cases hf:Nat.beq f x.f with
    | false=>rw [hf] at e; exact entOrc_ok B hl' e
    | true =>
      rw [hf,cond_true] at e
      have:=beq_t.1 hf
      subst this
      cases hm:x.meet args h with
      | none=>rw [hm] at e; exact entOrc_ok B hl' e
      | some u=>rw [hm] at e; cases e; exact Ent.meet_ok B hx hm
structure RunL (tb:Tabs) (d:Nat) (k:Nat) (l:List Ent):Prop where
  ok:lAll (Ent.run tb d) l=true
theorem entPT_ok {p : Par} {ty : Nat → Option TI} {tb : Tabs} (B : TabOk p ty tb) {d m : Nat} {pt : PT (List Ent)} (H : pt.Every (RunL tb d)) {f : FuncId} {args : List AV} {h : Heap} {t : T (AV × Heap)}
    (e:entPT m pt f args h=some t):CallOk p f args h t:=by
  unfold entPT at e
  split at e
  · rename_i l hl
    exact entOrc_ok B (PT.every_get _ _ H _ _ hl).ok e
  · cases e
end Go.Sx
namespace Go.Sx
open Go.RowKit
mutual
def idsLt (n:Nat):AV→Bool
  | .bool _=>true
  | .int _ _=>true
  | .ptr b _=>Nat.ble (b + 1) n
  | .nilptr=>true
  | .slice b _ _ _=>Nat.ble (b + 1) n
  | .sliceX b _ _ _=>Nat.ble (b + 1) n
  | .nilslice=>true
  | .map b=>Nat.ble (b + 1) n
  | .nilmap=>true
  | .func _ x y=>and (idsLts n x) (idsLts n y)
  | .yieldF b=>Nat.ble (b + 1) n
  | .nilFunc=>true
  | .agg l=>idsLts n l
  | .tup l=>idsLts n l
  | .opq _=>true
  | .sliceU _=>true
  | .sliceV b _=>Nat.ble (b + 1) n
  | .ptrV b _ _ _ _=>Nat.ble (b + 1) n
  | .bad=>true
def idsLts (n:Nat):List AV→Bool
  | []=>true
  | a :: l=>and (idsLt n a) (idsLts n l)
end
mutual
theorem conc_ids {n:Nat} {E E':Env} (hρ:E'.ρ=E.ρ) (hσ:∀ b,b < n→E'.σ b=E.σ b∧(E.σ b ≠ none→E'.κ b=E.κ b)):∀ (a:AV),idsLt n a=true→conc E' a=conc E a
  | .bool _,_=>by simp only [conc,hρ]
  | .int _ _,_=>by simp only [conc,hρ]
  | .ptr b _,h=>by simp only [conc,(hσ b (ble_t.1 h)).1]
  | .nilptr,_=>rfl
  | .slice b _ _ _,h=>by simp only [conc,(hσ b (ble_t.1 h)).1]
  | .sliceX b _ _ _,h=>by
    simp only [conc,(hσ b (ble_t.1 h)).1]
    cases hb:E.σ b with
    | none=>simp
    | some q=>simp only [(hσ b (ble_t.1 h)).2 (by rw [hb]; simp)]
  | .nilslice,_=>rfl
  | .map b,h=>by simp only [conc,(hσ b (ble_t.1 h)).1]
  | .nilmap,_=>rfl
  | .func fn x y,h=>by
    simp only [idsLt,Bool.and_eq_true] at h
    simp only [conc,concL_ids hρ hσ x h.1,concL_ids hρ hσ y h.2]
  | .yieldF b,h=>by simp only [conc,(hσ b (ble_t.1 h)).1]
  | .nilFunc,_=>rfl
  | .agg l,h=>by simp only [conc,concL_ids hρ hσ l (by simpa [idsLt] using h)]
  | .tup l,h=>by simp only [conc,concL_ids hρ hσ l (by simpa [idsLt] using h)]
  | .opq _,_=>by simp only [conc,hρ]
  | .sliceU _,_=>by simp only [conc,hρ]
  | .sliceV b _,h=>by
    simp only [conc,hρ,(hσ b (ble_t.1 h)).1]
    cases hb:E.σ b with
    | none=>simp
    | some q=>simp only [(hσ b (ble_t.1 h)).2 (by rw [hb]; simp)]
  | .ptrV b _ _ _ _,h=>by simp only [conc,hρ,(hσ b (ble_t.1 h)).1]
  | .bad,_=>rfl
theorem concL_ids {n:Nat} {E E':Env} (hρ:E'.ρ=E.ρ) (hσ:∀ b,b < n→E'.σ b=E.σ b∧(E.σ b ≠ none→E'.κ b=E.κ b)):∀ (l:List AV),idsLts n l=true→concL E' l=concL E l
  | [],_=>rfl
  | a :: l,h=>by
    simp only [idsLts,Bool.and_eq_true] at h
    simp only [concL,conc_ids hρ hσ a h.1,concL_ids hρ hσ l h.2]
end
def SameV (ρ:Rho) (v:AV) (ρ':Rho) (v':AV):Prop:=∀ σ κ n m rc rc',conc ⟨ρ,σ,κ,n,rc⟩ v=conc ⟨ρ',σ,κ,m,rc'⟩ v'
theorem SameV.int {ρ ρ':Rho} {k:IntKind} {e e':IE} (h:e.den ρ=e'.den ρ'):SameV ρ (.int k e) ρ' (.int k e'):=fun _ _ _ _ _ _=>by simp only [conc,h]
theorem SameV.bool {ρ ρ':Rho} {e e':BE} (h:e.den ρ=e'.den ρ'):SameV ρ (.bool e) ρ' (.bool e'):=fun _ _ _ _ _ _=>by simp only [conc,h]
theorem SameV.ptr {ρ ρ':Rho} (b o:Nat):SameV ρ (.ptr b o) ρ' (.ptr b o):=fun _ _ _ _ _ _=>rfl
theorem SameV.slice {ρ ρ':Rho} (b o l c:Nat):SameV ρ (.slice b o l c) ρ' (.slice b o l c):=fun _ _ _ _ _ _=>rfl
theorem SameV.sliceX {ρ ρ':Rho} (b o l c:Nat):SameV ρ (.sliceX b o l c) ρ' (.sliceX b o l c):=fun _ _ _ _ _ _=>rfl
theorem SameV.map {ρ ρ':Rho} (b:Nat):SameV ρ (.map b) ρ' (.map b):=fun _ _ _ _ _ _=>rfl
theorem SameV.nilslice {ρ ρ':Rho}:SameV ρ .nilslice ρ' .nilslice:=fun _ _ _ _ _ _=>rfl
theorem SameV.nilFunc {ρ ρ':Rho}:SameV ρ .nilFunc ρ' .nilFunc:=fun _ _ _ _ _ _=>rfl
theorem SameV.agg {ρ ρ':Rho} {l l':List AV} (h:∀ σ κ n m rc rc',concL ⟨ρ,σ,κ,n,rc⟩ l=concL ⟨ρ',σ,κ,m,rc'⟩ l'):SameV ρ (.agg l) ρ' (.agg l'):=fun σ κ n m rc rc'=>by simp only [conc,h σ κ n m rc rc']
theorem SameV.func {ρ ρ':Rho} {fn:Fn} {l l' k k':List AV} (h:∀ σ κ n m rc rc',concL ⟨ρ,σ,κ,n,rc⟩ l=concL ⟨ρ',σ,κ,m,rc'⟩ l') (hk:∀ σ κ n m rc rc',concL ⟨ρ,σ,κ,n,rc⟩ k=concL ⟨ρ',σ,κ,m,rc'⟩ k'):SameV ρ (.func fn l k) ρ' (.func fn l' k') :=
  fun σ κ n m rc rc'=>by simp only [conc,h σ κ n m rc rc',hk σ κ n m rc rc']
theorem SameL.nil {ρ ρ':Rho}:∀ σ κ n m rc rc',concL ⟨ρ,σ,κ,n,rc⟩ []=concL ⟨ρ',σ,κ,m,rc'⟩ []:=fun _ _ _ _ _ _=>rfl
theorem SameL.cons {ρ ρ':Rho} {a a':AV} {l l':List AV} (h:SameV ρ a ρ' a') (k:∀ σ κ n m rc rc',concL ⟨ρ,σ,κ,n,rc⟩ l=concL ⟨ρ',σ,κ,m,rc'⟩ l'):∀ σ κ n m rc rc',concL ⟨ρ,σ,κ,n,rc⟩ (a :: l)=concL ⟨ρ',σ,κ,m,rc'⟩ (a' :: l') :=
  fun σ κ n m rc rc'=>by simp only [concL,h σ κ n m rc rc',k σ κ n m rc rc']
structure VB where
  id:Nat
  cs:List AV
  own:Option (TypeId × Bool)
noncomputable def VB.obj (v:VB):AObj :=
  match v.own with
  | none=>.cells v.cs 0 false false
  | some q=>.cells v.cs q.1 true q.2
def SameL (ρ:Rho) (l:List AV) (ρ':Rho) (l':List AV):Prop:=∀ σ κ n m rc rc',concL ⟨ρ,σ,κ,n,rc⟩ l=concL ⟨ρ',σ,κ,m,rc'⟩ l'
structure Bd where
  is:List (Nat × IE)
  os:List (Nat × AV)
  r:Ren
  bs:List (Nat × BE)
noncomputable def bdI (x e:IE) (B:Bd):Option Bd :=
  match x with
  | .var j=>(match lFind B.is j with
    | some e'=>cond (eqIE e' e) (some B) none
    | none=>some ⟨(j,e) :: B.is,B.os,B.r,B.bs⟩)
  | .lit z=>cond (eqIE (.lit z) e) (some B) none
  | _=>none
noncomputable def bdB (a b:BE) (B:Bd):Option Bd :=
  match a with
  | .lit x=>(match b with
    | .lit y=>cond (beqB x y) (some B) none
    | _=>none)
  | .var j=>(match lFind B.bs j with
    | some b'=>cond (eqBE b' b) (some B) none
    | none=>some ⟨B.is,B.os,B.r,(j,b) :: B.bs⟩)
  | _=>none
noncomputable def bdR (n b b':Nat) (B:Bd):Option Bd :=
  match bindR n b b' B.r with
  | some r=>some ⟨B.is,B.os,r,B.bs⟩
  | none=>none
noncomputable def bdO (j:Nat) (v:AV) (B:Bd):Option Bd :=
  match lFind B.os j with
  | some v'=>cond (eqAV v' v) (some B) none
  | none=>some ⟨B.is,(j,v) :: B.os,B.r,B.bs⟩
mutual
noncomputable def bdV (n:Nat):AV→AV→Bd→Option Bd
  | .int k x,.int k' e,B=>cond (kindEq k k') (bdI x e B) none
  | .opq j,v,B=>bdO j v B
  | .sliceU i,.sliceU j,B=>(match bdI (.var i) (.var j) B with
    | some B'=>bdO i (.sliceU j) B'
    | none=>none)
  | .ptr b o,.ptr b' o',B=>cond (Nat.beq o o') (bdR n b b' B) none
  | .slice b o l c,.slice b' o' l' c',B=>cond (and (Nat.beq o o') (and (Nat.beq l l') (Nat.beq c c'))) (bdR n b b' B) none
  | .sliceX b o l c,.sliceX b' o' l' c',B=>cond (and (Nat.beq o o') (and (Nat.beq l l') (Nat.beq c c'))) (bdR n b b' B) none
  | .map b,.map b',B=>cond true (bdR n b b' B) none
  | .agg x,.agg y,B=>bdL n x y B
  | .tup x,.tup y,B=>bdL n x y B
  | .func fn x y,.func fn' x' y',B=>cond (eqFn fn fn') (match bdL n x x' B with
    | some B'=>bdL n y y' B'
    | none=>none) none
  | .bool a,.bool b,B=>bdB a b B
  | .nilptr,.nilptr,B=>some B
  | .nilslice,.nilslice,B=>some B
  | .nilmap,.nilmap,B=>some B
  | .nilFunc,.nilFunc,B=>some B
  | _,_,_=>none
noncomputable def bdL (n:Nat):List AV→List AV→Bd→Option Bd
  | [],[],B=>some B
  | a :: l,b :: m,B=>(match bdV n a b B with
    | some B'=>bdL n l m B'
    | none=>none)
  | _,_,_=>none
end
structure RelD (n:Nat) (E ES:Env) (B:Bd):Prop where
  is:∀ j e,lFind B.is j=some e→ES.ρ.iv j=e.den E.ρ
  os:∀ j v,lFind B.os j=some v→conc E v=some (ES.ρ.ov j)
  lo:∀ b,b < 1000→ES.σ b=E.σ b∧ES.κ b=E.κ b
  at_:∀ b c,1000≤b→b < n→lFind B.r b=some c→ES.σ b=E.σ c∧ES.κ b=E.κ c
  bs:∀ j e,lFind B.bs j=some e→ES.ρ.bv j=e.den E.ρ
structure SubD (n:Nat) (B B':Bd):Prop where
  is:∀ j e,lFind B.is j=some e→lFind B'.is j=some e
  os:∀ j v,lFind B.os j=some v→lFind B'.os j=some v
  r:SubR n B.r B'.r
  bs:∀ j e,lFind B.bs j=some e→lFind B'.bs j=some e
theorem SubD.refl (n:Nat) (B:Bd):SubD n B B:=⟨fun _ _ h=>h,fun _ _ h=>h,SubR.refl _ _,fun _ _ h=>h⟩
theorem SubD.trans {n:Nat} {A B C:Bd} (h:SubD n A B) (k:SubD n B C):SubD n A C:=⟨fun j e h1=>k.is j e (h.is j e h1),fun j v h1=>k.os j v (h.os j v h1),h.r.trans k.r,fun j v h1=>k.bs j v (h.bs j v h1)⟩
theorem RelD.sub {n:Nat} {E ES:Env} {B B':Bd} (h:RelD n E ES B') (k:SubD n B B'):RelD n E ES B :=
  ⟨fun j e h1=>h.is j e (k.is j e h1),fun j v h1=>h.os j v (k.os j v h1),h.lo,fun b c h1 h2 h3=>h.at_ b c h1 h2 (k.r b c h1 h2 h3),fun j e h1=>h.bs j e (k.bs j e h1)⟩
def GoodD (E:Env) (B:Bd):Prop:=∀ j v,lFind B.os j=some v→∃ u,conc E v=some u
structure BdOk (n:Nat) (B B':Bd) (A:Env→Value→Prop) (A':Env→Value→Prop):Prop where
  sub:SubD n B B'
  good:∀ E u,A' E u→GoodD E B→GoodD E B'
  same:∀ E ES u,RelD n E ES B'→A' E u→A ES u
theorem bd_bind {n b b' : Nat} {B B' : Bd} {c : Bool} (h : cond c (bdR n b b' B) none = some B') :
    c=true∧SubD n B B'∧B'.os=B.os∧∀ E ES,RelD n E ES B'→ES.σ b=E.σ b'∧ES.κ b=E.κ b':=by
  obtain ⟨hc,h⟩:=cond_some h
  unfold bdR at h
  split at h
  · rename_i r hr
    cases h
    obtain ⟨q1,q2⟩:=bindR_ok hr
    exact ⟨hc,⟨fun _ _ h=>h,fun _ _ h=>h,q1,fun _ _ h=>h⟩,rfl,fun E ES R=>q2 ⟨E.ρ,E.σ,E.κ,E.n,E.rc⟩ ⟨E.ρ,ES.σ,ES.κ,ES.n,ES.rc⟩ ⟨rfl,R.lo,R.at_⟩⟩
  · cases h
theorem bdI_ok {n:Nat} {k:IntKind} {x e:IE} {B B':Bd} (h:bdI x e B=some B'):BdOk n B B' (fun E u=>conc E (.int k x)=some u) (fun E u=>conc E (.int k e)=some u):=by
  unfold bdI at h
  split at h
  · rename_i j
    split at h
    · rename_i e' he'
      obtain ⟨h1,h2⟩:=cond_some h
      cases h2
      have:=eqIE_eq _ _ h1; subst this
      exact ⟨SubD.refl _ _,fun _ _ _ g=>g,fun E ES u R hu=>by simp only [conc,IE.den,R.is _ _ he'] at hu ⊢; exact hu⟩
    · rename_i hn
      cases h
      refine ⟨⟨fun i e1 hi=>?_,fun _ _ h=>h,SubR.refl _ _,fun _ _ h=>h⟩,fun _ _ _ g=>g,fun E ES u R hu=>?_⟩
      · rw [lFind_cons]
        cases hb:Nat.beq j i with
        | true=>have:=beq_t.1 hb; subst this; rw [hn] at hi; cases hi
        | false=>exact hi
      · have:=R.is j e (by rw [lFind_cons,beq_t.2 rfl]; rfl)
        simp only [conc,IE.den,this] at hu ⊢; exact hu
  · obtain ⟨h1,h2⟩:=cond_some h
    cases h2
    have:=eqIE_eq _ _ h1; subst this
    exact ⟨SubD.refl _ _,fun _ _ _ g=>g,fun E ES u R hu=>by simp only [conc,IE.den] at hu ⊢; exact hu⟩
  · cases h
theorem bdB_ok {n:Nat} {a b:BE} {B B':Bd} (h:bdB a b B=some B'):BdOk n B B' (fun E u=>conc E (.bool a)=some u) (fun E u=>conc E (.bool b)=some u):=by
  unfold bdB at h
  split at h
  · split at h
    · obtain ⟨h1,h2⟩:=cond_some h
      cases h2
      have:=beqB_eq h1; subst this
      exact ⟨SubD.refl _ _,fun _ _ _ g=>g,fun E ES u R hu=>by simp only [conc,BE.den] at hu ⊢; exact hu⟩
    · cases h
  · rename_i j
    split at h
    · rename_i b' hb'
      obtain ⟨h1,h2⟩:=cond_some h
      cases h2
      have:=eqBE_eq _ _ h1; subst this
      exact ⟨SubD.refl _ _,fun _ _ _ g=>g,fun E ES u R hu=>by simp only [conc,BE.den,R.bs _ _ hb'] at hu ⊢; exact hu⟩
    · rename_i hn
      cases h
      refine ⟨⟨fun _ _ h=>h,fun _ _ h=>h,SubR.refl _ _,fun i e1 hi=>?_⟩,fun _ _ _ g=>g,fun E ES u R hu=>?_⟩
      · rw [lFind_cons]
        cases hb:Nat.beq j i with
        | true=>have:=beq_t.1 hb; subst this; rw [hn] at hi; cases hi
        | false=>exact hi
      · have:=R.bs j b (by rw [lFind_cons,beq_t.2 rfl]; rfl)
        simp only [conc,BE.den,this] at hu ⊢; exact hu
  · cases h
theorem bdO_ok {n j:Nat} {v:AV} {B B':Bd} (h:bdO j v B=some B'):BdOk n B B' (fun E u=>conc E (.opq j)=some u) (fun E u=>conc E v=some u):=by
  unfold bdO at h
  split at h
  · rename_i v' hv'
    obtain ⟨h1,h2⟩:=cond_some h
    cases h2
    have:=eqAV_eq _ _ h1; subst this
    exact ⟨SubD.refl _ _,fun _ _ _ g=>g,fun E ES u R hu=>by have:=R.os _ _ hv'; rw [hu] at this; simp only [conc]; exact this.symm⟩
  · rename_i hn
    cases h
    refine ⟨⟨fun _ _ h=>h,fun i e1 hi=>?_,SubR.refl _ _,fun _ _ h=>h⟩,fun E u hu g i v1 hi=>?_,fun E ES u R hu=>?_⟩
    · rw [lFind_cons]
      cases hb:Nat.beq j i with
      | true=>have:=beq_t.1 hb; subst this; rw [hn] at hi; cases hi
      | false=>exact hi
    · rw [lFind_cons] at hi
      cases hb:Nat.beq j i with
      | true=>rw [hb] at hi; cases hi; exact ⟨u,hu⟩
      | false=>rw [hb] at hi; exact g i v1 hi
    · have:=R.os j v (by rw [lFind_cons,beq_t.2 rfl]; rfl)
      rw [hu] at this; simp only [conc]; exact this.symm
mutual
theorem bdV_ok {n:Nat}:∀ (a a':AV) (B B':Bd),bdV n a a' B=some B'→BdOk n B B' (fun E u=>conc E a=some u) (fun E u=>conc E a'=some u)
  | .int k x,a',B,B',h=>by
    cases a' <;> simp only [bdV] at h <;> first | (cases h; done) | skip
    rename_i k' e
    obtain ⟨hk,h2⟩:=cond_some h
    have hk:=kindEq_eq hk
    subst hk
    exact bdI_ok h2
  | .opq j,v,B,B',h=>by
    simp only [bdV] at h
    exact bdO_ok h
  | .ptr b o,a',B,B',h=>by
    cases a' <;> simp only [bdV] at h <;> first | (cases h; done) | skip
    obtain ⟨h1,h2,h3,h4⟩:=bd_bind h
    have:=beq_t.1 h1; subst this
    exact ⟨h2,fun E u _ g=>by unfold GoodD; rw [h3]; exact g,fun E ES u R hu=>by simp only [conc,(h4 E ES R).1] at hu ⊢; exact hu⟩
  | .slice b o l c,a',B,B',h=>by
    cases a' <;> simp only [bdV] at h <;> first | (cases h; done) | skip
    obtain ⟨h1,h2,h3,h4⟩:=bd_bind h
    simp only [Bool.and_eq_true] at h1
    have e1:=beq_t.1 h1.1; have e2:=beq_t.1 h1.2.1; have e3:=beq_t.1 h1.2.2; subst e1; subst e2; subst e3
    exact ⟨h2,fun E u _ g=>by unfold GoodD; rw [h3]; exact g,fun E ES u R hu=>by simp only [conc,(h4 E ES R).1] at hu ⊢; exact hu⟩
  | .sliceX b o l c,a',B,B',h=>by
    cases a' <;> simp only [bdV] at h <;> first | (cases h; done) | skip
    obtain ⟨h1,h2,h3,h4⟩:=bd_bind h
    simp only [Bool.and_eq_true] at h1
    have e1:=beq_t.1 h1.1; have e2:=beq_t.1 h1.2.1; have e3:=beq_t.1 h1.2.2; subst e1; subst e2; subst e3
    exact ⟨h2,fun E u _ g=>by unfold GoodD; rw [h3]; exact g,fun E ES u R hu=>by simp only [conc,(h4 E ES R).1,(h4 E ES R).2] at hu ⊢; exact hu⟩
  | .agg x,a',B,B',h=>by
    cases a' <;> simp only [bdV] at h <;> first | (cases h; done) | skip
    obtain ⟨q1,q2,q3⟩:=bdL_ok x _ B B' h
    refine ⟨q1,fun E u hu g=>?_,fun E ES u R hu=>?_⟩
    · simp only [conc,Option.map_eq_some_iff] at hu
      obtain ⟨us,h1,_⟩:=hu
      exact q2 E us h1 g
    · simp only [conc,Option.map_eq_some_iff] at hu ⊢
      obtain ⟨us,h1,h2⟩:=hu
      exact ⟨us,q3 E ES us R h1,h2⟩
  | .tup x,a',B,B',h=>by
    cases a' <;> simp only [bdV] at h <;> first | (cases h; done) | skip
    obtain ⟨q1,q2,q3⟩:=bdL_ok x _ B B' h
    refine ⟨q1,fun E u hu g=>?_,fun E ES u R hu=>?_⟩
    · simp only [conc,Option.map_eq_some_iff] at hu
      obtain ⟨us,h1,_⟩:=hu
      exact q2 E us h1 g
    · simp only [conc,Option.map_eq_some_iff] at hu ⊢
      obtain ⟨us,h1,h2⟩:=hu
      exact ⟨us,q3 E ES us R h1,h2⟩
  | .func fn x y,a',B,B',h=>by
    cases a' <;> simp only [bdV] at h <;> first | (cases h; done) | skip
    rename_i fn' x' y'
    obtain ⟨h1,h2⟩:=cond_some h
    have e1:=eqFn_eq h1; subst e1
    cases h3:bdL n x x' B with
    | none=>rw [h3] at h2; cases h2
    | some B1 =>
      rw [h3] at h2
      obtain ⟨q1,q2,q3⟩:=bdL_ok x _ B B1 h3
      obtain ⟨q4,q5,q6⟩:=bdL_ok y _ B1 B' h2
      have parts:∀ E u,conc E (.func fn x' y')=some u→∃ us vs,concL E x'=some us∧concL E y'=some vs:=fun E u hu=>by
        simp only [conc] at hu
        cases hx:concL E x' with
        | none=>rw [hx] at hu; cases fn <;> simp at hu
        | some us =>
          cases hy:concL E y' with
          | none=>rw [hx,hy] at hu; cases fn <;> simp at hu
          | some vs=>exact ⟨us,vs,rfl,rfl⟩
      refine ⟨q1.trans q4,fun E u hu g=>?_,fun E ES u R hu=>?_⟩
      · obtain ⟨us,vs,h5,h6⟩:=parts E u hu
        exact q5 E vs h6 (q2 E us h5 g)
      · obtain ⟨us,vs,h5,h6⟩:=parts E u hu
        simp only [conc,h5,h6] at hu
        simp only [conc,q3 E ES us (R.sub q4) h5,q6 E ES vs R h6]
        exact hu
  | .bool b,a',B,B',h=>by
    cases a' <;> simp only [bdV] at h <;> first | (cases h; done) | skip
    exact bdB_ok h
  | .nilptr,a',B,B',h=>by
    cases a' <;> simp only [bdV] at h <;> first | (cases h; done) | skip
    cases h; exact ⟨SubD.refl _ _,fun _ _ _ g=>g,fun E ES u R hu=>hu⟩
  | .nilslice,a',B,B',h=>by
    cases a' <;> simp only [bdV] at h <;> first | (cases h; done) | skip
    cases h; exact ⟨SubD.refl _ _,fun _ _ _ g=>g,fun E ES u R hu=>hu⟩
  | .sliceU i,a',B,B',h=>by
    cases a' <;> simp only [bdV] at h <;> first | (cases h; done) | skip
    rename_i j
    split at h
    · rename_i B1 h1
      obtain ⟨p1,p2,p3⟩:=bdI_ok (n:=n) (k:=.i64) h1
      obtain ⟨q1,q2,q3⟩:=bdO_ok (n:=n) h
      have hint:∀ E:Env,conc E (.int .i64 (.var j))=some (.int .i64 (E.ρ.iv j)):=fun E=>rfl
      refine ⟨p1.trans q1,fun E u hu g=>q2 E u hu (p2 E _ (hint E) g),fun E ES u R hu=>?_⟩
      have e1:=p3 E ES _ (R.sub q1) (hint E)
      have e2:=q3 E ES u R hu
      simp only [conc,IE.den,Option.some.injEq,Value.int.injEq,true_and] at e1 e2
      obtain ⟨p,m,c,rfl,hm⟩:=sliceU_conc hu
      simp only [conc,e2]
      rw [if_pos (by rw [e1,hm])]
    · cases h
  | .nilmap,a',B,B',h=>by
    cases a' <;> simp only [bdV] at h <;> first | (cases h; done) | skip
    cases h; exact ⟨SubD.refl _ _,fun _ _ _ g=>g,fun E ES u R hu=>hu⟩
  | .nilFunc,a',B,B',h=>by
    cases a' <;> simp only [bdV] at h <;> first | (cases h; done) | skip
    cases h; exact ⟨SubD.refl _ _,fun _ _ _ g=>g,fun E ES u R hu=>hu⟩
  | .map b,a',B,B',h=>by
    cases a' <;> simp only [bdV] at h <;> first | (cases h; done) | skip
    obtain ⟨h1,h2,h3,h4⟩:=bd_bind h
    exact ⟨h2,fun E u _ g=>by unfold GoodD; rw [h3]; exact g,fun E ES u R hu=>by simp only [conc,(h4 E ES R).1] at hu ⊢; exact hu⟩
  | .yieldF b,a',B,B',h=>by cases a' <;> simp only [bdV] at h <;> cases h
  | .bad,a',B,B',h=>by cases a' <;> simp only [bdV] at h <;> cases h
theorem bdL_ok {n:Nat}:∀ (l l':List AV) (B B':Bd),bdL n l l' B=some B'→SubD n B B'∧(∀ E us,concL E l'=some us→GoodD E B→GoodD E B')∧∀ E ES us,RelD n E ES B'→concL E l'=some us→concL ES l=some us
  | [],l',B,B',h=>by
    cases l' <;> simp only [bdL] at h
    · cases h; exact ⟨SubD.refl _ _,fun _ _ _ g=>g,fun E ES us R hu=>hu⟩
    · cases h
  | a :: l,l',B,B',h=>by
    cases l' with
    | nil=>simp only [bdL] at h; cases h
    | cons b m =>
      simp only [bdL] at h
      cases h3:bdV n a b B with
      | none=>rw [h3] at h; cases h
      | some B1 =>
        rw [h3] at h
        obtain ⟨q1,q2,q3⟩:=bdV_ok a b B B1 h3
        obtain ⟨q4,q5,q6⟩:=bdL_ok l m B1 B' h
        refine ⟨q1.trans q4,fun E us hu g=>?_,fun E ES us R hu=>?_⟩
        · obtain ⟨v,r,h5,h6,rfl⟩:=concL_cons.1 hu
          exact q5 E r h6 (q2 E v h5 g)
        · obtain ⟨v,r,h5,h6,rfl⟩:=concL_cons.1 hu
          exact concL_cons.2 ⟨v,r,q3 E ES v (R.sub q4) h5,q6 E ES r R h6,rfl⟩
end
structure VS where
  id:Nat
  own:Option (TypeId × Bool)
  c0:List AV
  c:List AV
  cf:List AV
noncomputable def bdG (v:VS) (o:Option AObj):Option (List AV) :=
  match o with
  | some (.cells cs el own ext)=>(match v.own with
    | none=>some cs
    | some q=>cond (and own (and (Nat.beq q.1 el) (beqB q.2 ext))) (some cs) none)
  | _=>none
noncomputable def bdVw (n:Nat) (h:Heap):List VS→Bd→Option Bd
  | [],B=>some B
  | g :: l,B=>(match cond (Nat.ble (Nat.succ g.id) 1000) (some g.id) (cond (Nat.ble (Nat.succ g.id) n) (lFind B.r g.id) none) with
    | some b=>(match bdG g (h.get b) with
      | some cs=>(match bdL n g.c0 cs B with
        | some B'=>bdVw n h l B'
        | none=>none)
      | none=>none)
    | none=>none)
noncomputable def rhoD (E:Env) (B:Bd):Rho :=
  ⟨fun j=>match lFind B.is j with | some e=>e.den E.ρ | none=>0,fun j=>match lFind B.bs j with | some e=>e.den E.ρ | none=>false,E.ρ.fi,E.ρ.fb,fun j=>match lFind B.os j with | some v=>(match conc E v with | some u=>u | none=>.tuple #[]) | none=>.tuple #[]⟩
noncomputable def sigD (n:Nat) (E:Env) (B:Bd):Nat→Option (Nat × Nat):=fun b=>if b < 1000 then some (b,0) else if b < n then (match lFind B.r b with | some c=>E.σ c | none=>none) else none
noncomputable def kapD (n:Nat) (E:Env) (B:Bd):Nat→Nat:=fun b=>if b < 1000 then E.κ b else if b < n then (match lFind B.r b with | some c=>E.κ c | none=>0) else 0
noncomputable def envD (n:Nat) (E:Env) (B:Bd):Env:=⟨rhoD E B,sigD n E B,kapD n E B,n,fun _=>#[]⟩
theorem envD_rel {n:Nat} {E:Env} {B:Bd} (hg:∀ b,b < 1000→E.σ b=some (b,0)) (hG:GoodD E B):RelD n E (envD n E B) B:=by
  refine ⟨fun j e h=>?_,fun j v h=>?_,fun b hb=>?_,fun b c h1 h2 e=>?_,fun j e h=>by simp only [envD,rhoD,h]⟩
  · simp only [envD,rhoD,h]
  · obtain ⟨u,hu⟩:=hG j v h
    simp only [envD,rhoD,h,hu]
  · simp only [envD,sigD,kapD,if_pos hb,hg b hb,and_self]
  · simp only [envD,sigD,kapD,if_neg (show ¬ b < 1000 by omega),if_pos h2,e,and_self]
structure VAt (p:Par) (E ES:Env) (h:Heap) (w:World) (r:Ren) (n:Nat) (g:VS):Prop where
  at_:∃ b o,(cond (Nat.ble (Nat.succ g.id) 1000) (some g.id) (cond (Nat.ble (Nat.succ g.id) n) (lFind r g.id) none))=some b∧h.get b=some o∧ES.σ g.id=E.σ b∧(g.own.isSome=true→ownO o=true)∧(ownO o=true ∨ roO o=true)∧∃ c x,E.σ b=some (c,x)
  obj:objOk p ES g.id (VB.obj ⟨g.id,g.c0,g.own⟩) w.heap
theorem bdVw_ok {n : Nat} {h : Heap} : ∀ (l : List VS) (B B' : Bd), bdVw n h l B = some B' → SubD n B B' ∧
    (∀ {p:Par} {E:Env} {w0:Base} {w:World},HeapOk p E h w0 w→GoodD E B→GoodD E B') ∧
    ∀ {p:Par} {E ES:Env} {w0:Base} {w:World},RelD n E ES B'→HeapOk p E h w0 w→∀ g ∈ l,VAt p E ES h w B'.r n g
  | [],B,B',e=>by simp only [bdVw,Option.some.injEq] at e; subst e; exact ⟨SubD.refl _ _,fun _ g=>g,fun _ _ g hg=>by cases hg⟩
  | g :: l,B,B',e=>by
    simp only [bdVw] at e
    split at e
    · rename_i b hb
      split at e
      · rename_i cs hcs
        split at e
        · rename_i B1 h1
          obtain ⟨q1,q2,q3⟩:=bdL_ok _ _ _ _ h1
          obtain ⟨q4,q5,q6⟩:=bdVw_ok l B1 B' e
          unfold bdG at hcs
          split at hcs
          · rename_i cs' el own ext hg
            have hcs':cs'=cs:=by
              split at hcs
              · cases hcs; rfl
              · have:=(cond_some hcs).2; cases this; rfl
            subst hcs'
            refine ⟨q1.trans q4,fun {p E w0 w} HH G=>?_,fun {p E ES w0 w} R HH g' hg'=>?_⟩
            · obtain ⟨c,base,vs,cells,el',fz,k1,k2,k3,k4,k5⟩:=HH.obj _ _ hg
              exact q5 HH (q2 E vs k2 G)
            · rcases List.mem_cons.1 hg' with rfl | hg'
              · obtain ⟨c,base,vs,cells,el',fz,k1,k2,k3,k4,k5⟩:=HH.obj _ _ hg
                obtain ⟨z0,z1⟩:=resolve_sub (q1.trans q4).r hb
                have hσ:=z1 ⟨E.ρ,E.σ,E.κ,E.n,E.rc⟩ ⟨E.ρ,ES.σ,ES.κ,ES.n,ES.rc⟩ ⟨rfl,R.lo,R.at_⟩
                have hσ1:ES.σ g'.id=E.σ b:=hσ.1
                have hσ2:ES.κ g'.id=E.κ b:=hσ.2
                have hvs:=q3 E ES vs (R.sub q4) k2
                cases hown:g'.own with
                | none =>
                  refine ⟨⟨b,_,z0,hg,hσ1,fun h=>(by rw [hown] at h; cases h),(by cases own; exact .inr rfl; exact .inl rfl),c,base,k1⟩,?_⟩
                  have e:VB.obj ⟨g'.id,g'.c0,g'.own⟩=.cells g'.c0 0 false false:=by unfold VB.obj; simp only [hown]
                  rw [e]
                  exact ⟨c,base,vs,cells,el',fz,hσ1.trans k1,hvs,k3,k4,fun h=>by cases h⟩
                | some q =>
                  rw [hown] at hcs
                  have h2:=(cond_some hcs).1
                  simp only [Bool.and_eq_true] at h2
                  obtain ⟨h4,h5,h6⟩:=h2
                  have h5:=beq_t.1 h5; have h6:=beqB_eq h6
                  subst h4
                  refine ⟨⟨b,_,z0,hg,hσ1,fun _=>rfl,.inl rfl,c,base,k1⟩,?_⟩
                  have e:VB.obj ⟨g'.id,g'.c0,g'.own⟩=.cells g'.c0 q.1 true q.2:=by unfold VB.obj; simp only [hown]
                  rw [e,h5,h6]
                  exact ⟨c,base,vs,cells,el',fz,hσ1.trans k1,hvs,k3,k4,by rw [hσ2]; exact k5⟩
              · exact q6 R HH g' hg'
          · cases hcs
        · cases e
      · cases e
    · cases e
noncomputable def sI (B:Bd):IE→Option IE
  | .lit z=>some (.lit z)
  | .var j=>lFind B.is j
  | .bin o k a b=>(match sI B a,sI B b with
    | some x,some y=>some (.bin o k x y)
    | _,_=>none)
  | .conv k a=>(match sI B a with
    | some x=>some (.conv k x)
    | none=>none)
  | .mx a b=>(match sI B a,sI B b with
    | some x,some y=>some (.mx x y)
    | _,_=>none)
  | .mn a b=>(match sI B a,sI B b with
    | some x,some y=>some (.mn x y)
    | _,_=>none)
  | .app f a b c=>(match sI B a,sI B b,sI B c with
    | some x,some y,some z=>some (.app f x y z)
    | _,_,_=>none)
theorem sI_ok {n:Nat} {E ES:Env} {B:Bd} (R:RelD n E ES B) (hfi:ES.ρ.fi=E.ρ.fi):∀ (e e':IE),sI B e=some e'→e'.den E.ρ=e.den ES.ρ
  | .lit z,e',h=>by simp only [sI,Option.some.injEq] at h; subst h; rfl
  | .var j,e',h=>by simp only [sI] at h; simp only [IE.den,R.is _ _ h]
  | .bin o k a b,e',h=>by
    simp only [sI] at h
    split at h
    · rename_i x y hx hy; cases h; simp only [IE.den,sI_ok R hfi a x hx,sI_ok R hfi b y hy]
    · cases h
  | .conv k a,e',h=>by
    simp only [sI] at h
    split at h
    · rename_i x hx; cases h; simp only [IE.den,sI_ok R hfi a x hx]
    · cases h
  | .mx a b,e',h=>by
    simp only [sI] at h
    split at h
    · rename_i x y hx hy; cases h; simp only [IE.den,sI_ok R hfi a x hx,sI_ok R hfi b y hy]
    · cases h
  | .mn a b,e',h=>by
    simp only [sI] at h
    split at h
    · rename_i x y hx hy; cases h; simp only [IE.den,sI_ok R hfi a x hx,sI_ok R hfi b y hy]
    · cases h
  | .app f a b c,e',h=>by
    simp only [sI] at h
    split at h
    · rename_i x y z hx hy hz; cases h; simp only [IE.den,hfi,sI_ok R hfi a x hx,sI_ok R hfi b y hy,sI_ok R hfi c z hz]
    · cases h
noncomputable def sB (B:Bd):BE→Option BE
  | .lit b=>some (.lit b)
  | .not a=>(match sB B a with
    | some x=>some (.not x)
    | none=>none)
  | .and a b=>(match sB B a,sB B b with
    | some x,some y=>some (.and x y)
    | _,_=>none)
  | .cmp o a b=>(match sI B a,sI B b with
    | some x,some y=>some (.cmp o x y)
    | _,_=>none)
  | .iff a b=>(match sB B a,sB B b with
    | some x,some y=>some (.iff x y)
    | _,_=>none)
  | .app f a b c=>(match sI B a,sI B b,sI B c with
    | some x,some y,some z=>some (.app f x y z)
    | _,_,_=>none)
  | .var j=>lFind B.bs j
theorem sB_ok {n:Nat} {E ES:Env} {B:Bd} (R:RelD n E ES B) (hfi:ES.ρ.fi=E.ρ.fi) (hfb:ES.ρ.fb=E.ρ.fb):∀ (e e':BE),sB B e=some e'→e'.den E.ρ=e.den ES.ρ
  | .lit z,e',h=>by simp only [sB,Option.some.injEq] at h; subst h; rfl
  | .var j,e',h=>by simp only [sB] at h; simp only [BE.den,R.bs _ _ h]
  | .not a,e',h=>by
    simp only [sB] at h
    split at h
    · rename_i x hx; cases h; simp only [BE.den,sB_ok R hfi hfb a x hx]
    · cases h
  | .and a b,e',h=>by
    simp only [sB] at h
    split at h
    · rename_i x y hx hy; cases h; simp only [BE.den,sB_ok R hfi hfb a x hx,sB_ok R hfi hfb b y hy]
    · cases h
  | .cmp o a b,e',h=>by
    simp only [sB] at h
    split at h
    · rename_i x y hx hy; cases h; simp only [BE.den,sI_ok R hfi a x hx,sI_ok R hfi b y hy]
    · cases h
  | .iff a b,e',h=>by
    simp only [sB] at h
    split at h
    · rename_i x y hx hy; cases h; simp only [BE.den,sB_ok R hfi hfb a x hx,sB_ok R hfi hfb b y hy]
    · cases h
  | .app f a b c,e',h=>by
    simp only [sB] at h
    split at h
    · rename_i x y z hx hy hz; cases h; simp only [BE.den,hfb,sI_ok R hfi a x hx,sI_ok R hfi b y hy,sI_ok R hfi c z hz]
    · cases h
mutual
noncomputable def sV (n:Nat) (B:Bd):AV→Option AV
  | .int k e=>(match sI B e with
    | some x=>some (.int k x)
    | none=>none)
  | .bool e=>(match sB B e with
    | some x=>some (.bool x)
    | none=>none)
  | .opq j=>lFind B.os j
  | .ptr b o=>(match cond (Nat.ble (Nat.succ b) 1000) (some b) (cond (Nat.ble (Nat.succ b) n) (lFind B.r b) none) with
    | some c=>some (.ptr c o)
    | none=>none)
  | .slice b o l k=>(match cond (Nat.ble (Nat.succ b) 1000) (some b) (cond (Nat.ble (Nat.succ b) n) (lFind B.r b) none) with
    | some c=>some (.slice c o l k)
    | none=>none)
  | .sliceX b o l k=>(match cond (Nat.ble (Nat.succ b) 1000) (some b) (cond (Nat.ble (Nat.succ b) n) (lFind B.r b) none) with
    | some c=>some (.sliceX c o l k)
    | none=>none)
  | .agg l=>(match sVs n B l with
    | some m=>some (.agg m)
    | none=>none)
  | .tup l=>(match sVs n B l with
    | some m=>some (.tup m)
    | none=>none)
  | .nilptr=>some .nilptr
  | .nilslice=>some .nilslice
  | .nilmap=>some .nilmap
  | .nilFunc=>some .nilFunc
  | _=>none
noncomputable def sVs (n:Nat) (B:Bd):List AV→Option (List AV)
  | []=>some []
  | a :: l=>(match sV n B a with
    | some x=>(match sVs n B l with
      | some m=>some (x :: m)
      | none=>none)
    | none=>none)
end
mutual
theorem sV_ok {n:Nat} {E ES:Env} {B:Bd} (R:RelD n E ES B) (hfi:ES.ρ.fi=E.ρ.fi) (hfb:ES.ρ.fb=E.ρ.fb):∀ (a a':AV),sV n B a=some a'→conc E a'=conc ES a
  | .int k e,a',h=>by
    simp only [sV] at h
    split at h
    · rename_i x hx; cases h; simp only [conc,sI_ok R hfi e x hx]
    · cases h
  | .bool e,a',h=>by
    simp only [sV] at h
    split at h
    · rename_i x hx; cases h; simp only [conc,sB_ok R hfi hfb e x hx]
    · cases h
  | .opq j,a',h=>by simp only [sV] at h; simp only [conc,R.os _ _ h]
  | .ptr b o,a',h=>by
    simp only [sV] at h
    split at h
    · rename_i c hc
      cases h
      have hσ:=((resolve_sub (SubR.refl n B.r) hc).2 ⟨E.ρ,E.σ,E.κ,E.n,E.rc⟩ ⟨E.ρ,ES.σ,ES.κ,ES.n,ES.rc⟩ ⟨rfl,R.lo,R.at_⟩)
      simp only [conc]; rw [hσ.1]
    · cases h
  | .slice b o l k,a',h=>by
    simp only [sV] at h
    split at h
    · rename_i c hc
      cases h
      have hσ:=((resolve_sub (SubR.refl n B.r) hc).2 ⟨E.ρ,E.σ,E.κ,E.n,E.rc⟩ ⟨E.ρ,ES.σ,ES.κ,ES.n,ES.rc⟩ ⟨rfl,R.lo,R.at_⟩)
      simp only [conc]; rw [hσ.1]
    · cases h
  | .sliceX b o l k,a',h=>by
    simp only [sV] at h
    split at h
    · rename_i c hc
      cases h
      have hσ:=((resolve_sub (SubR.refl n B.r) hc).2 ⟨E.ρ,E.σ,E.κ,E.n,E.rc⟩ ⟨E.ρ,ES.σ,ES.κ,ES.n,ES.rc⟩ ⟨rfl,R.lo,R.at_⟩)
      simp only at hσ
      simp only [conc,hσ.1,hσ.2]
    · cases h
  | .agg l,a',h=>by
    simp only [sV] at h
    split at h
    · rename_i m hm; cases h; simp only [conc,sVs_ok R hfi hfb l m hm]
    · cases h
  | .tup l,a',h=>by
    simp only [sV] at h
    split at h
    · rename_i m hm; cases h; simp only [conc,sVs_ok R hfi hfb l m hm]
    · cases h
  | .nilptr,a',h=>by simp only [sV,Option.some.injEq] at h; subst h; rfl
  | .nilslice,a',h=>by simp only [sV,Option.some.injEq] at h; subst h; rfl
  | .nilmap,a',h=>by simp only [sV,Option.some.injEq] at h; subst h; rfl
  | .nilFunc,a',h=>by simp only [sV,Option.some.injEq] at h; subst h; rfl
  | .map _,a',h=>by simp only [sV] at h; cases h
  | .func _ _ _,a',h=>by simp only [sV] at h; cases h
  | .yieldF _,a',h=>by simp only [sV] at h; cases h
  | .bad,a',h=>by simp only [sV] at h; cases h
theorem sVs_ok {n:Nat} {E ES:Env} {B:Bd} (R:RelD n E ES B) (hfi:ES.ρ.fi=E.ρ.fi) (hfb:ES.ρ.fb=E.ρ.fb):∀ (l l':List AV),sVs n B l=some l'→concL E l'=concL ES l
  | [],l',h=>by simp only [sVs,Option.some.injEq] at h; subst h; rfl
  | a :: l,l',h=>by
    simp only [sVs] at h
    split at h
    · rename_i x hx
      split at h
      · rename_i m hm; cases h; simp only [concL,sV_ok R hfi hfb a x hx,sVs_ok R hfi hfb l m hm]
      · cases h
    · cases h
end
noncomputable def sBs (B:Bd):List BE→Option (List BE)
  | []=>some []
  | a :: l=>(match sB B a with
    | some x=>(match sBs B l with
      | some m=>some (x :: m)
      | none=>none)
    | none=>none)
noncomputable def brAll {α:Type} (t:T α):List BE→T α
  | []=>t
  | c :: l=>.br c (brAll t l) (.fail 99)
theorem brAll_holds {α:Type} {ρ:Rho} {Q:α→Prop} {t:T α}:∀ {l:List BE},(brAll t l).Holds ρ Q→(∀ c ∈ l,c.den ρ=true)∧t.Holds ρ Q
  | [],h=>⟨fun c hc=>(by cases hc),h⟩
  | c :: l,h=>by
    simp only [brAll,T.Holds] at h
    split at h
    · rename_i hc
      obtain ⟨a1,a2⟩:=brAll_holds h
      exact ⟨fun d hd=>by
        rcases List.mem_cons.1 hd with rfl | hd
        · exact hc
        · exact a1 d hd,a2⟩
    · exact h.elim
theorem sBs_ok {B:Bd}:∀ (l l':List BE),sBs B l=some l'→∀ c ∈ l,∃ c' ∈ l',sB B c=some c'
  | [],l',h,c,hc=>by cases hc
  | a :: l,l',h,c,hc=>by
    simp only [sBs] at h
    split at h
    · rename_i x hx
      split at h
      · rename_i m hm
        cases h
        rcases List.mem_cons.1 hc with rfl | hc
        · exact ⟨x,List.mem_cons_self,hx⟩
        · obtain ⟨c',h1,h2⟩:=sBs_ok l m hm c hc
          exact ⟨c',List.mem_cons_of_mem _ h1,h2⟩
      · cases h
    · cases h
end Go.Sx
namespace Go.Sx
open Go.RowKit
structure Asm where
  c:BE
  b:Bool
noncomputable def canon (c:BE) (b:Bool):Asm :=
  match c with
  | .cmp .leq x y=>⟨.cmp .leq x y,b⟩
  | .cmp .geq x y=>⟨.cmp .leq y x,b⟩
  | .cmp .lss x y=>⟨.cmp .leq y x,Bool.not b⟩
  | .cmp .gtr x y=>⟨.cmp .leq x y,Bool.not b⟩
  | .cmp .neq x y=>⟨.cmp .eql x y,Bool.not b⟩
  | c=>⟨c,b⟩
theorem canon_den {ρ:Rho} (c:BE) (b:Bool):(canon c b).c.den ρ=(canon c b).b ↔ c.den ρ=b:=by
  unfold canon
  split
  · exact Iff.rfl
  · simp only [BE.den,cmpDen]
  · rename_i x y
    simp only [BE.den,cmpDen]
    by_cases h:IE.den ρ x < IE.den ρ y
    · have h2:¬ IE.den ρ y≤IE.den ρ x:=by omega
      simp only [h,h2,decide_true,decide_false]; cases b <;> simp
    · have h2:IE.den ρ y≤IE.den ρ x:=by omega
      simp only [h,h2,decide_true,decide_false]; cases b <;> simp
  · rename_i x y
    simp only [BE.den,cmpDen]
    by_cases h:IE.den ρ x≤IE.den ρ y
    · have h2:¬ IE.den ρ x > IE.den ρ y:=by omega
      simp only [h,h2,decide_true,decide_false]; cases b <;> simp
    · have h2:IE.den ρ x > IE.den ρ y:=by omega
      simp only [h,h2,decide_true,decide_false]; cases b <;> simp
  · rename_i x y
    simp only [BE.den,cmpDen]
    cases h:(IE.den ρ x == IE.den ρ y) with
    | true=>simp only [bne,h]; cases b <;> simp
    | false=>simp only [bne,h]; cases b <;> simp
  · exact Iff.rfl
noncomputable def findA (c:BE) (l:List Asm):Option Bool:=@List.rec Asm (fun _=>Option Bool) none (fun a _ ih=>cond (eqBE a.c c) (some a.b) ih) l
noncomputable def decB (l:List Asm):BE→Option Bool
  | .lit b=>some b
  | .not a=>(match decB l a with
    | some b=>some (Bool.not b)
    | none=>none)
  | .and a b=>(match decB l a with
    | some false=>some false
    | some true=>decB l b
    | none=>(match decB l b with
      | some false=>some false
      | _=>none))
  | .cmp o x y=>(match findA (canon (.cmp o x y) true).c l with
    | some b=>some (cond (canon (.cmp o x y) true).b b (Bool.not b))
    | none=>none)
  | c=>findA c l
def AsmOk (ρ:Rho) (l:List Asm):Prop:=∀ a ∈ l,a.c.den ρ=a.b
theorem findA_ok {ρ:Rho} {c:BE}:∀ {l:List Asm} {b:Bool},AsmOk ρ l→findA c l=some b→c.den ρ=b
  | [],b,_,h=>by cases h
  | a :: l,b,H,h=>by
    have h:cond (eqBE a.c c) (some a.b) (findA c l)=some b:=h
    cases he:eqBE a.c c with
    | true =>
      rw [he] at h; cases h
      rw [← eqBE_eq _ _ he]; exact H a List.mem_cons_self
    | false=>rw [he] at h; exact findA_ok (fun x hx=>H x (List.mem_cons_of_mem _ hx)) h
theorem decB_ok {ρ:Rho} {l:List Asm} (H:AsmOk ρ l):∀ (c:BE) (b:Bool),decB l c=some b→c.den ρ=b
  | .lit x,b,h=>by simp only [decB,Option.some.injEq] at h; exact h
  | .var i,b,h=>by simp only [decB] at h; exact findA_ok H h
  | .app f x y z,b,h=>by simp only [decB] at h; exact findA_ok H h
  | .iff x y,b,h=>by simp only [decB] at h; exact findA_ok H h
  | .not a,b,h=>by
    simp only [decB] at h
    split at h
    · rename_i x hx; cases h; simp only [BE.den,decB_ok H a x hx]
    · cases h
  | .and a c,b,h=>by
    simp only [decB] at h
    split at h
    · rename_i hx; cases h; simp only [BE.den,decB_ok H a false hx,Bool.false_and]
    · rename_i hx; simp only [BE.den,decB_ok H a true hx,decB_ok H c b h,Bool.true_and]
    · split at h
      · rename_i hy; cases h; simp only [BE.den,decB_ok H c false hy,Bool.and_false]
      · cases h
  | .cmp o x y,b,h=>by
    simp only [decB] at h
    split at h
    · rename_i z hz
      cases h
      have h1:=findA_ok H hz
      have h2:=canon_den (ρ:=ρ) (.cmp o x y) true
      have e:(canon (.cmp o x y) true).c=(canon (.cmp o x y) false).c∧(canon (.cmp o x y) false).b=Bool.not (canon (.cmp o x y) true).b:=by
        cases o <;> exact ⟨rfl,rfl⟩
      cases hb:(canon (.cmp o x y) true).b with
      | true =>
        rw [cond_true]
        cases z with
        | true=>exact h2.1 (by rw [hb]; exact h1)
        | false =>
          refine (canon_den (.cmp o x y) false).1 ?_
          rw [← e.1,e.2,hb]; exact h1
      | false =>
        rw [cond_false]
        cases z with
        | false=>exact h2.1 (by rw [hb]; exact h1)
        | true =>
          refine (canon_den (.cmp o x y) false).1 ?_
          rw [← e.1,e.2,hb]; exact h1
    · cases h
noncomputable def addB (b:Bool):BE→List Asm→List Asm
  | .lit _,l=>l
  | .not a,l=>addB (Bool.not b) a l
  | .and x y,l=>cond b (addB b x (addB b y l)) (⟨.and x y,b⟩ :: l)
  | c,l=>canon c b :: l
theorem addB_ok {ρ:Rho}:∀ (c:BE) (b:Bool) (l:List Asm),AsmOk ρ l→c.den ρ=b→AsmOk ρ (addB b c l)
  | .lit _,b,l,H,_=>H
  | .not a,b,l,H,h=>by
    simp only [addB]
    refine addB_ok a _ l H ?_
    simp only [BE.den] at h
    rw [← h,Bool.not_not]
  | .and x y,b,l,H,h=>by
    simp only [addB]
    cases b with
    | true =>
      simp only [BE.den,Bool.and_eq_true] at h
      exact addB_ok x true _ (addB_ok y true l H h.2) h.1
    | false =>
      intro a ha
      rcases List.mem_cons.1 ha with rfl | ha
      · exact h
      · exact H a ha
  | .var i,b,l,H,h=>by
    intro a ha
    rcases List.mem_cons.1 ha with rfl | ha
    · exact (canon_den (.var i) b).2 h
    · exact H a ha
  | .app f x y z,b,l,H,h=>by
    intro a ha
    rcases List.mem_cons.1 ha with rfl | ha
    · exact (canon_den (.app f x y z) b).2 h
    · exact H a ha
  | .iff x y,b,l,H,h=>by
    intro a ha
    rcases List.mem_cons.1 ha with rfl | ha
    · exact (canon_den (.iff x y) b).2 h
    · exact H a ha
  | .cmp o x y,b,l,H,h=>by
    intro a ha
    rcases List.mem_cons.1 ha with rfl | ha
    · exact (canon_den (.cmp o x y) b).2 h
    · exact H a ha
inductive Lf (α:Type) where
  | at_ (a:α)
  | dead
  | open_
noncomputable def leafA {α:Type} (t:T α) (l:List Asm):Lf α :=
  @T.rec α (fun _=>Lf α) (fun a=>.at_ a)
    (fun c _ _ x y=>match decB l c with
      | some b=>cond b x y
      | none=>.open_)
    (fun _=>.dead) t
theorem leafA_at {α:Type} {ρ:Rho} {l:List Asm} (H:AsmOk ρ l) {P:α→Prop}:∀ (t:T α) (a:α),leafA t l=.at_ a→t.Holds ρ P→P a
  | .ret b,a,h,k=>by cases h; exact k
  | .fail w,a,h,k=>k.elim
  | .br c x y,a,h,k=>by
    have h:(match decB l c with
      | some b=>cond b (leafA x l) (leafA y l)
      | none=>.open_)=.at_ a:=h
    split at h
    · rename_i b hb
      have hc:=decB_ok H c b hb
      simp only [T.Holds,hc] at k
      cases b with
      | true=>rw [if_pos rfl] at k; exact leafA_at H x a h k
      | false=>rw [if_neg (by simp)] at k; exact leafA_at H y a h k
    · cases h
theorem leafA_dead {α:Type} {ρ:Rho} {l:List Asm} (H:AsmOk ρ l) {P:α→Prop}:∀ (t:T α),leafA t l=.dead→t.Holds ρ P→False
  | .ret b,h,k=>by cases h
  | .fail w,h,k=>k
  | .br c x y,h,k=>by
    have h:(match decB l c with
      | some b=>cond b (leafA x l) (leafA y l)
      | none=>.open_)=.dead:=h
    split at h
    · rename_i b hb
      have hc:=decB_ok H c b hb
      simp only [T.Holds,hc] at k
      cases b with
      | true=>rw [if_pos rfl] at k; exact leafA_dead H x h k
      | false=>rw [if_neg (by simp)] at k; exact leafA_dead H y h k
    · cases h
noncomputable def serves {α:Type} (eq:α→α→Bool) (u:T α) (t:T α):List Asm→Bool :=
  @T.rec α (fun _=>List Asm→Bool)
    (fun a l=>match leafA u l with
      | .at_ b=>eq a b
      | .dead=>true
      | .open_=>false)
    (fun c _ _ ih1 ih2 l=>match leafA u l with
      | .dead=>true
      | _=>(match decB l c with
        | some b=>cond b (ih1 l) (ih2 l)
        | none=>and (ih1 (addB true c l)) (ih2 (addB false c l))))
    (fun _ l=>match leafA u l with
      | .dead=>true
      | _=>false) t
theorem T.holds_weak {α:Type} {ρ:Rho} {P Q:α→Prop}:∀ {t:T α},t.Holds ρ P→(∀ a,P a→Q a)→t.Holds ρ Q
  | .ret a,h,k=>k a h
  | .fail w,h,_=>h.elim
  | .br c x y,h,k=>by
    simp only [T.Holds] at h ⊢
    split at h
    · rename_i hc; rw [if_pos hc]; exact T.holds_weak h k
    · rename_i hc; rw [if_neg hc]; exact T.holds_weak h k
theorem serves_ok2 {α:Type} {ρ:Rho} {eq:α→α→Bool} {P R:α→Prop} (heq:∀ a b,eq a b=true→a=b∧R a) {u:T α} (hu:u.Holds ρ P):∀ (t:T α) (l:List Asm),AsmOk ρ l→serves eq u t l=true→t.Holds ρ fun a=>R a∧P a
  | .ret a,l,H,h=>by
    have h:(match leafA u l with
      | .at_ b=>eq a b
      | .dead=>true
      | .open_=>false)=true:=h
    split at h
    · rename_i b hb
      have:=leafA_at H u b hb hu
      obtain ⟨h1,h2⟩:=heq a b h
      exact ⟨h2,h1 ▸ this⟩
    · rename_i hd; exact (leafA_dead H u hd hu).elim
    · cases h
  | .fail w,l,H,h=>by
    have h:(match leafA u l with
      | .dead=>true
      | _=>false)=true:=h
    split at h
    · rename_i hd; exact (leafA_dead H u hd hu).elim
    · cases h
  | .br c x y,l,H,h=>by
    have h:(match leafA u l with
      | .dead=>true
      | _=>(match decB l c with
        | some b=>cond b (serves eq u x l) (serves eq u y l)
        | none=>and (serves eq u x (addB true c l)) (serves eq u y (addB false c l))))=true:=h
    split at h
    · rename_i hd; exact (leafA_dead H u hd hu).elim
    · simp only [T.Holds]
      split at h
      · rename_i b hb
        have hc:=decB_ok H c b hb
        cases b with
        | true=>rw [hc,if_pos rfl]; exact serves_ok2 heq hu x l H h
        | false=>rw [hc,if_neg (by simp)]; exact serves_ok2 heq hu y l H h
      · simp only [Bool.and_eq_true] at h
        cases hc:c.den ρ with
        | true=>rw [if_pos rfl]; exact serves_ok2 heq hu x _ (addB_ok c true l H hc) h.1
        | false=>rw [if_neg (by simp)]; exact serves_ok2 heq hu y _ (addB_ok c false l H hc) h.2
end Go.Sx
namespace Go.Sx
open Go.RowKit Go.IntWalk
abbrev Lin:=List (IE × Int)
def linDen (ρ:Rho):Lin→Int
  | []=>0
  | p :: l=>p.2 * p.1.den ρ + linDen ρ l
noncomputable def linPut (e:IE) (c:Int):Lin→Lin
  | []=>[(e,c)]
  | p :: l=>cond (eqIE p.1 e) (cond (ieq (Int.add p.2 c) 0) l ((p.1,Int.add p.2 c) :: l)) (p :: linPut e c l)
noncomputable def linAdd:Lin→Lin→Lin
  | [],m=>m
  | p :: l,m=>linPut p.1 p.2 (linAdd l m)
noncomputable def linMul (k:Int) (l:Lin):Lin:=cond (ieq k 0) [] (lMap (fun p=>(p.1,Int.mul k p.2)) l)
noncomputable def linSub (l m:Lin):Lin:=linAdd (linMul (-1) m) l
theorem ieq_t {x y:Int} (h:ieq x y=true):x=y:=by
  cases x <;> cases y <;> simp [ieq] at h
  · rw [h]
  · rw [h]
theorem ilt_t {x y:Int}:ilt x y=true ↔ x < y:=by rw [ilt_eq]; exact decide_eq_true_iff
theorem ilt_f {x y:Int}:ilt x y=false ↔ y≤x:=by
  rw [← Bool.not_eq_true,ilt_t]; omega
theorem linPut_den {ρ:Rho} (e:IE) (c:Int):∀ l,linDen ρ (linPut e c l)=c * e.den ρ + linDen ρ l
  | []=>rfl
  | p :: l=>by
    simp only [linPut]
    cases h:eqIE p.1 e with
    | true =>
      have he:=eqIE_eq _ _ h
      simp only [cond_true]
      cases h2:ieq (Int.add p.2 c) 0 with
      | true =>
        have h3:p.2 + c=0:=ieq_t h2
        simp only [cond_true,linDen,he]
        have:(p.2 + c) * e.den ρ=0:=by rw [h3,Int.zero_mul]
        rw [Int.add_mul] at this; omega
      | false =>
        simp only [cond_false,linDen,he]
        show (p.2 + c) * e.den ρ + linDen ρ l=_
        rw [Int.add_mul]; omega
    | false=>simp only [cond_false,linDen,linPut_den e c l]; omega
theorem linAdd_den {ρ:Rho}:∀ l m,linDen ρ (linAdd l m)=linDen ρ l + linDen ρ m
  | [],m=>by simp [linAdd,linDen]
  | p :: l,m=>by simp only [linAdd,linPut_den,linAdd_den l m,linDen]; omega
theorem linMul_den {ρ:Rho} (k:Int) (l:Lin):linDen ρ (linMul k l)=k * linDen ρ l:=by
  unfold linMul
  cases h:ieq k 0 with
  | true=>simp [ieq_t h,linDen]
  | false =>
    simp only [cond_false,lMap_eq]
    induction l with
    | nil=>simp [linDen]
    | cons p l ih =>
      simp only [List.map_cons,linDen,ih,Int.mul_add]
      show k * p.2 * _ + _=_
      rw [Int.mul_assoc]
theorem linSub_den {ρ:Rho} (l m:Lin):linDen ρ (linSub l m)=linDen ρ l - linDen ρ m:=by
  unfold linSub; rw [linAdd_den,linMul_den]; omega
structure Iv where
  lo:Int
  hi:Int
inductive Fk where
  | le | eq | ne
structure Fct where
  k:Fk
  l:Lin
  c:Int
structure Kn where
  iv:PT Iv
  fs:List Fct
  bs:List Asm
def Fct.ok (ρ:Rho) (f:Fct):Prop :=
  match f.k with
  | .le=>linDen ρ f.l + f.c≤0
  | .eq=>linDen ρ f.l + f.c=0
  | .ne=>linDen ρ f.l + f.c ≠ 0
structure KnOk (ρ:Rho) (K:Kn):Prop where
  iv:∀ i v,K.iv.get i=some v→v.lo≤ρ.iv i∧ρ.iv i≤v.hi
  fs:∀ f ∈ K.fs,f.ok ρ
  bs:AsmOk ρ K.bs
noncomputable def imin (x y:Int):Int:=cond (ilt y x) y x
noncomputable def imax (x y:Int):Int:=cond (ilt x y) y x
theorem imin_eq (x y:Int):imin x y=min x y:=by
  unfold imin; cases h:ilt y x with
  | true=>have:=ilt_t.1 h; simp only [cond_true]; omega
  | false=>have:=ilt_f.1 h; simp only [cond_false]; omega
theorem imax_eq (x y:Int):imax x y=max x y:=by
  unfold imax; cases h:ilt x y with
  | true=>have:=ilt_t.1 h; simp only [cond_true]; omega
  | false=>have:=ilt_f.1 h; simp only [cond_false]; omega
noncomputable def ivIn (v:Iv):Bool:=and (Bool.not (ilt v.lo (-9223372036854775808))) (Bool.not (ilt 9223372036854775807 v.hi))
noncomputable def ivI (k:IntKind) (v:Iv):Option Iv:=cond (and (isI64 k) (ivIn v)) (some v) none
noncomputable def ivMul (a b:Iv):Iv :=
  ⟨imin (imin (Int.mul a.lo b.lo) (Int.mul a.lo b.hi)) (imin (Int.mul a.hi b.lo) (Int.mul a.hi b.hi)),
   imax (imax (Int.mul a.lo b.lo) (Int.mul a.lo b.hi)) (imax (Int.mul a.hi b.lo) (Int.mul a.hi b.hi))⟩
noncomputable def ivE (G:PT Iv):IE→Option Iv
  | .lit n=>some ⟨n,n⟩
  | .var i=>G.get i
  | .bin op k a b=>(match ivE G a,ivE G b with
    | some x,some y=>(match op with
      | .add=>ivI k ⟨Int.add x.lo y.lo,Int.add x.hi y.hi⟩
      | .sub=>ivI k ⟨Int.sub x.lo y.hi,Int.sub x.hi y.lo⟩
      | .mul=>ivI k (ivMul x y)
      | _=>none)
    | _,_=>none)
  | .conv k a=>(match ivE G a with
    | some x=>ivI k x
    | none=>none)
  | .mx a b=>(match ivE G a,ivE G b with
    | some x,some y=>some ⟨imax x.lo y.lo,imax x.hi y.hi⟩
    | _,_=>none)
  | .mn a b=>(match ivE G a,ivE G b with
    | some x,some y=>some ⟨imin x.lo y.lo,imin x.hi y.hi⟩
    | _,_=>none)
  | .app _ _ _ _=>none
theorem isI64_eq {k:IntKind} (h:isI64 k=true):k=.i64:=by cases k <;> simp [isI64] at h; rfl
theorem ivI_ok {k:IntKind} {v u:Iv} (h:ivI k v=some u):k=.i64∧u=v∧-9223372036854775808≤v.lo∧v.hi≤9223372036854775807:=by
  obtain ⟨h1,h2⟩:=cond_some h
  simp only [Bool.and_eq_true] at h1
  obtain ⟨a,b⟩:=h1
  unfold ivIn at b
  simp only [Bool.and_eq_true,Bool.not_eq_true',ilt_f] at b
  cases h2
  exact ⟨isI64_eq a,rfl,b.1,b.2⟩
theorem mul_bounds {a b l h m n : Int} (h1 : l ≤ a) (h2 : a ≤ h) (h3 : m ≤ b) (h4 : b ≤ n) :
    min (min (l * m) (l * n)) (min (h * m) (h * n))≤a * b∧a * b≤max (max (l * m) (l * n)) (max (h * m) (h * n)):=by
  have up:∀ {x y z:Int},0≤z→x≤y→x * z≤y * z:=fun hz hxy=>Int.mul_le_mul_of_nonneg_right hxy hz
  have dn:∀ {x y z:Int},z≤0→x≤y→y * z≤x * z:=fun hz hxy=>Int.mul_le_mul_of_nonpos_right hxy hz
  have up':∀ {x y z:Int},0≤z→x≤y→z * x≤z * y:=fun hz hxy=>Int.mul_le_mul_of_nonneg_left hxy hz
  have dn':∀ {x y z:Int},z≤0→x≤y→z * y≤z * x:=fun {x y z} hz hxy=>by
    rw [Int.mul_comm z y,Int.mul_comm z x]; exact dn hz hxy
  have e1:min (l * b) (h * b)≤a * b∧a * b≤max (l * b) (h * b):=by
    rcases Int.le_total 0 b with hb | hb
    · have:=up hb h1; have:=up hb h2; omega
    · have:=dn hb h1; have:=dn hb h2; omega
  have e2:∀ x:Int,min (x * m) (x * n)≤x * b∧x * b≤max (x * m) (x * n):=fun x=>by
    rcases Int.le_total 0 x with hx | hx
    · have:=up' hx h3; have:=up' hx h4; omega
    · have:=dn' hx h3; have:=dn' hx h4; omega
  have:=e2 l; have:=e2 h; omega
theorem ivE_ok {ρ:Rho} {G:PT Iv} (HG:∀ i v,G.get i=some v→v.lo≤ρ.iv i∧ρ.iv i≤v.hi):∀ (e:IE) (v:Iv),ivE G e=some v→v.lo≤e.den ρ∧e.den ρ≤v.hi
  | .lit n,v,h=>by simp only [ivE,Option.some.injEq] at h; subst h; exact ⟨Int.le_refl _,Int.le_refl _⟩
  | .var i,v,h=>HG i v h
  | .bin op k a b,v,h=>by
    simp only [ivE] at h
    split at h
    · rename_i x y hx hy
      have h1:=ivE_ok HG a x hx
      have h2:=ivE_ok HG b y hy
      split at h
      · obtain ⟨rfl,rfl,h3,h4⟩:=ivI_ok h
        have e1:Int.add x.lo y.lo=x.lo + y.lo:=rfl
        have e2:Int.add x.hi y.hi=x.hi + y.hi:=rfl
        simp only [e1,e2] at h3 h4 ⊢
        simp only [IE.den,binDen]
        rw [i64_in _ (by omega)]; omega
      · obtain ⟨rfl,rfl,h3,h4⟩:=ivI_ok h
        have e1:Int.sub x.lo y.hi=x.lo - y.hi:=rfl
        have e2:Int.sub x.hi y.lo=x.hi - y.lo:=rfl
        simp only [e1,e2] at h3 h4 ⊢
        simp only [IE.den,binDen]
        rw [i64_in _ (by omega)]; omega
      · obtain ⟨rfl,rfl,h3,h4⟩:=ivI_ok h
        have hb:=mul_bounds h1.1 h1.2 h2.1 h2.2
        have e1:(ivMul x y).lo=min (min (x.lo * y.lo) (x.lo * y.hi)) (min (x.hi * y.lo) (x.hi * y.hi)):=by simp only [ivMul,imin_eq]; rfl
        have e2:(ivMul x y).hi=max (max (x.lo * y.lo) (x.lo * y.hi)) (max (x.hi * y.lo) (x.hi * y.hi)):=by simp only [ivMul,imax_eq]; rfl
        rw [e1] at h3 ⊢; rw [e2] at h4 ⊢
        simp only [IE.den,binDen]
        rw [i64_in _ ⟨Int.le_trans h3 hb.1,Int.le_trans hb.2 h4⟩]; exact hb
      · cases h
    · cases h
  | .conv k a,v,h=>by
    simp only [ivE] at h
    split at h
    · rename_i x hx
      have h1:=ivE_ok HG a x hx
      obtain ⟨rfl,rfl,h3,h4⟩:=ivI_ok h
      simp only [IE.den]
      rw [i64_in _ (by omega)]; exact h1
    · cases h
  | .mx a b,v,h=>by
    simp only [ivE] at h
    split at h
    · rename_i x y hx hy
      have h1:=ivE_ok HG a x hx
      have h2:=ivE_ok HG b y hy
      cases h
      simp only [imax_eq,IE.den_mx]; omega
    · cases h
  | .mn a b,v,h=>by
    simp only [ivE] at h
    split at h
    · rename_i x y hx hy
      have h1:=ivE_ok HG a x hx
      have h2:=ivE_ok HG b y hy
      cases h
      simp only [imin_eq,IE.den]
      split <;> omega
    · cases h
  | .app _ _ _ _,v,h=>by simp only [ivE] at h; cases h
noncomputable def upL (G:PT Iv):Lin→Option Int
  | []=>some 0
  | p :: l=>(match ivE G p.1,upL G l with
    | some v,some u=>some (Int.add (Int.mul p.2 (cond (ilt p.2 0) v.lo v.hi)) u)
    | _,_=>none)
theorem upL_ok {ρ:Rho} {G:PT Iv} (HG:∀ i v,G.get i=some v→v.lo≤ρ.iv i∧ρ.iv i≤v.hi):∀ (l:Lin) (u:Int),upL G l=some u→linDen ρ l≤u
  | [],u,h=>by simp only [upL,Option.some.injEq] at h; subst h; exact Int.le_refl _
  | p :: l,u,h=>by
    simp only [upL] at h
    split at h
    · rename_i v w hv hw
      have h1:=ivE_ok HG p.1 v hv
      have h2:=upL_ok HG l w hw
      cases h
      show p.2 * p.1.den ρ + linDen ρ l≤p.2 * (cond (ilt p.2 0) v.lo v.hi) + w
      cases hc:ilt p.2 0 with
      | true =>
        have:=ilt_t.1 hc
        have h3:p.2 * p.1.den ρ≤p.2 * v.lo:=by
          rw [Int.mul_comm p.2,Int.mul_comm p.2]; exact Int.mul_le_mul_of_nonpos_right h1.1 (by omega)
        simp only [cond_true]; omega
      | false =>
        have:=ilt_f.1 hc
        have h3:p.2 * p.1.den ρ≤p.2 * v.hi:=Int.mul_le_mul_of_nonneg_left h1.2 this
        simp only [cond_false]; omega
    · cases h
noncomputable def leI (G:PT Iv) (l:Lin) (c:Int):Bool :=
  match upL G l with
  | some u=>Bool.not (ilt 0 (Int.add u c))
  | none=>false
theorem leI_ok {ρ:Rho} {G:PT Iv} (HG:∀ i v,G.get i=some v→v.lo≤ρ.iv i∧ρ.iv i≤v.hi) {l:Lin} {c:Int} (h:leI G l c=true):linDen ρ l + c≤0:=by
  unfold leI at h
  split at h
  · rename_i u hu
    have h1:=upL_ok HG l u hu
    simp only [Bool.not_eq_true',ilt_f] at h
    have:Int.add u c=u + c:=rfl
    omega
  · cases h
noncomputable def leF (G:PT Iv) (l:Lin) (c:Int) (f:Fct):Bool :=
  match f.k with
  | .le=>leI G (linSub l f.l) (Int.sub c f.c)
  | .eq=>or (leI G (linSub l f.l) (Int.sub c f.c)) (leI G (linAdd l f.l) (Int.add c f.c))
  | .ne=>false
theorem leF_ok {ρ:Rho} {G:PT Iv} (HG:∀ i v,G.get i=some v→v.lo≤ρ.iv i∧ρ.iv i≤v.hi) {l:Lin} {c:Int} {f:Fct} (hf:f.ok ρ) (h:leF G l c f=true):linDen ρ l + c≤0:=by
  unfold leF at h
  unfold Fct.ok at hf
  have e1:Int.sub c f.c=c - f.c:=rfl
  have e2:Int.add c f.c=c + f.c:=rfl
  split at h
  · rename_i hk
    rw [hk] at hf
    have:=leI_ok HG h
    rw [linSub_den] at this; simp only at hf; omega
  · rename_i hk
    rw [hk] at hf; simp only at hf
    simp only [Bool.or_eq_true] at h
    rcases h with h | h
    · have:=leI_ok HG h
      rw [linSub_den] at this; omega
    · have:=leI_ok HG h
      rw [linAdd_den] at this; omega
  · cases h
noncomputable def anyF (p:Fct→Bool) (l:List Fct):Bool:=@List.rec Fct (fun _=>Bool) false (fun f _ ih=>cond (p f) true ih) l
theorem anyF_ok {p:Fct→Bool}:∀ {l:List Fct},anyF p l=true→∃ f ∈ l,p f=true
  | [],h=>by cases h
  | f :: l,h=>by
    have h:cond (p f) true (anyF p l)=true:=h
    cases hp:p f with
    | true=>exact ⟨f,List.mem_cons_self,hp⟩
    | false =>
      rw [hp] at h
      obtain ⟨g,h1,h2⟩:=anyF_ok h
      exact ⟨g,List.mem_cons_of_mem _ h1,h2⟩
noncomputable def leK (K:Kn) (l:Lin) (c:Int):Bool:=cond (leI K.iv l c) true (anyF (leF K.iv l c) K.fs)
theorem leK_ok {ρ:Rho} {K:Kn} (H:KnOk ρ K) {l:Lin} {c:Int} (h:leK K l c=true):linDen ρ l + c≤0:=by
  unfold leK at h
  cases h1:leI K.iv l c with
  | true=>exact leI_ok H.iv h1
  | false =>
    rw [h1] at h
    obtain ⟨f,hf,h2⟩:=anyF_ok h
    exact leF_ok H.iv (H.fs f hf) h2
structure LC where
  l:Lin
  c:Int
noncomputable def LC.sub (x y:LC):LC:=⟨linSub x.l y.l,Int.sub x.c y.c⟩
noncomputable def LC.add (x y:LC):LC:=⟨linAdd x.l y.l,Int.add x.c y.c⟩
noncomputable def LC.neg (x:LC):LC:=⟨linMul (-1) x.l,Int.neg x.c⟩
noncomputable def LC.mul (k:Int) (x:LC):LC:=⟨linMul k x.l,Int.mul k x.c⟩
def LC.den (ρ:Rho) (x:LC):Int:=linDen ρ x.l + x.c
theorem LC.sub_den {ρ:Rho} (x y:LC):(x.sub y).den ρ=x.den ρ - y.den ρ:=by
  have:Int.sub x.c y.c=x.c - y.c:=rfl
  simp only [LC.sub,LC.den,linSub_den,this]; omega
theorem LC.add_den {ρ:Rho} (x y:LC):(x.add y).den ρ=x.den ρ + y.den ρ:=by
  have:Int.add x.c y.c=x.c + y.c:=rfl
  simp only [LC.add,LC.den,linAdd_den,this]; omega
theorem LC.neg_den {ρ:Rho} (x:LC):(x.neg).den ρ=-(x.den ρ):=by
  have:Int.neg x.c=-x.c:=rfl
  simp only [LC.neg,LC.den,linMul_den,this]; omega
theorem LC.mul_den {ρ:Rho} (k:Int) (x:LC):(x.mul k).den ρ=k * x.den ρ:=by
  have:Int.mul k x.c=k * x.c:=rfl
  simp only [LC.mul,LC.den,linMul_den,this,Int.mul_add]
noncomputable def atomL (e:IE):LC:=⟨[(e,1)],0⟩
theorem atomL_den {ρ:Rho} (e:IE):(atomL e).den ρ=e.den ρ:=by simp [atomL,LC.den,linDen]
noncomputable def inR (G:PT Iv) (e:IE):Bool:=(ivE G e).isSome
noncomputable def litL (x:LC):Option Int :=
  match x.l with
  | []=>some x.c
  | _=>none
noncomputable def linMn (K:Kn) (e:IE) (x y:LC):LC:=cond (leK K (x.sub y).l (x.sub y).c) x (cond (leK K (y.sub x).l (y.sub x).c) y (atomL e))
noncomputable def linMx (K:Kn) (e:IE) (x y:LC):LC:=cond (leK K (x.sub y).l (x.sub y).c) y (cond (leK K (y.sub x).l (y.sub x).c) x (atomL e))
noncomputable def linMul2 (G:PT Iv) (e:IE) (x y:LC):LC :=
  match litL x,litL y with
  | some n,_=>cond (inR G e) (y.mul n) (atomL e)
  | none,some m=>cond (inR G e) (x.mul m) (atomL e)
  | none,none=>atomL e
noncomputable def linE (K:Kn):IE→LC
  | .lit n=>⟨[],n⟩
  | .bin op k a b=>(match op with
    | .add=>cond (inR K.iv (.bin .add k a b)) ((linE K a).add (linE K b)) (atomL (.bin .add k a b))
    | .sub=>cond (inR K.iv (.bin .sub k a b)) ((linE K a).sub (linE K b)) (atomL (.bin .sub k a b))
    | .mul=>linMul2 K.iv (.bin .mul k a b) (linE K a) (linE K b)
    | op=>atomL (.bin op k a b))
  | .conv k a=>cond (inR K.iv (.conv k a)) (linE K a) (atomL (.conv k a))
  | .mx a b=>linMx K (.mx a b) (linE K a) (linE K b)
  | .mn a b=>linMn K (.mn a b) (linE K a) (linE K b)
  | e=>atomL e
theorem inR_ok {G:PT Iv} {e:IE} (h:inR G e=true):∃ v,ivE G e=some v:=Option.isSome_iff_exists.1 h
theorem inR_bin {ρ : Rho} {G : PT Iv} (HG : ∀ i v, G.get i = some v → v.lo ≤ ρ.iv i ∧ ρ.iv i ≤ v.hi) {k : IntKind} {a b : IE} :
    (inR G (.bin .add k a b)=true→(IE.bin .add k a b).den ρ=a.den ρ + b.den ρ)∧(inR G (.bin .sub k a b)=true→(IE.bin .sub k a b).den ρ=a.den ρ - b.den ρ) ∧
    (inR G (.bin .mul k a b)=true→(IE.bin .mul k a b).den ρ=a.den ρ * b.den ρ)∧(inR G (.conv k a)=true→(IE.conv k a).den ρ=a.den ρ):=by
  refine ⟨fun h=>?_,fun h=>?_,fun h=>?_,fun h=>?_⟩
  · obtain ⟨v,h⟩:=inR_ok h
    simp only [ivE] at h
    split at h
    · rename_i x y hx hy
      have h1:=ivE_ok HG a x hx
      have h2:=ivE_ok HG b y hy
      obtain ⟨rfl,rfl,h3,h4⟩:=ivI_ok h
      have e1:Int.add x.lo y.lo=x.lo + y.lo:=rfl
      have e2:Int.add x.hi y.hi=x.hi + y.hi:=rfl
      simp only [e1,e2] at h3 h4
      simp only [IE.den,binDen]
      rw [i64_in _ (by omega)]
    · cases h
  · obtain ⟨v,h⟩:=inR_ok h
    simp only [ivE] at h
    split at h
    · rename_i x y hx hy
      have h1:=ivE_ok HG a x hx
      have h2:=ivE_ok HG b y hy
      obtain ⟨rfl,rfl,h3,h4⟩:=ivI_ok h
      have e1:Int.sub x.lo y.hi=x.lo - y.hi:=rfl
      have e2:Int.sub x.hi y.lo=x.hi - y.lo:=rfl
      simp only [e1,e2] at h3 h4
      simp only [IE.den,binDen]
      rw [i64_in _ (by omega)]
    · cases h
  · obtain ⟨v,h⟩:=inR_ok h
    simp only [ivE] at h
    split at h
    · rename_i x y hx hy
      have h1:=ivE_ok HG a x hx
      have h2:=ivE_ok HG b y hy
      obtain ⟨rfl,rfl,h3,h4⟩:=ivI_ok h
      have hb:=mul_bounds h1.1 h1.2 h2.1 h2.2
      have e1:(ivMul x y).lo=min (min (x.lo * y.lo) (x.lo * y.hi)) (min (x.hi * y.lo) (x.hi * y.hi)):=by simp only [ivMul,imin_eq]; rfl
      have e2:(ivMul x y).hi=max (max (x.lo * y.lo) (x.lo * y.hi)) (max (x.hi * y.lo) (x.hi * y.hi)):=by simp only [ivMul,imax_eq]; rfl
      rw [e1] at h3; rw [e2] at h4
      simp only [IE.den,binDen]
      rw [i64_in _ ⟨Int.le_trans h3 hb.1,Int.le_trans hb.2 h4⟩]
    · cases h
  · obtain ⟨v,h⟩:=inR_ok h
    simp only [ivE] at h
    split at h
    · rename_i x hx
      have h1:=ivE_ok HG a x hx
      obtain ⟨rfl,rfl,h3,h4⟩:=ivI_ok h
      simp only [IE.den]
      rw [i64_in _ (by omega)]
    · cases h
theorem litL_ok {ρ:Rho} {x:LC} {n:Int} (h:litL x=some n):x.den ρ=n:=by
  unfold litL at h
  split at h
  · rename_i hl; cases h; simp [LC.den,hl,linDen]
  · cases h
theorem linE_ok {ρ:Rho} {K:Kn} (H:KnOk ρ K):∀ e:IE,(linE K e).den ρ=e.den ρ
  | .lit n=>by simp [linE,LC.den,linDen,IE.den]
  | .var i=>by simp only [linE]; exact atomL_den _
  | .app f a b c=>by simp only [linE]; exact atomL_den _
  | .bin op k a b=>by
    have ha:=linE_ok H a
    have hb:=linE_ok H b
    obtain ⟨q1,q2,q3,_⟩:=inR_bin H.iv (k:=k) (a:=a) (b:=b)
    simp only [linE]
    split
    · cases h:inR K.iv (.bin .add k a b) with
      | true=>simp only [cond_true]; rw [LC.add_den,ha,hb,q1 h]
      | false=>exact atomL_den _
    · cases h:inR K.iv (.bin .sub k a b) with
      | true=>simp only [cond_true]; rw [LC.sub_den,ha,hb,q2 h]
      | false=>exact atomL_den _
    · unfold linMul2
      split
      · rename_i x _ hx
        cases h:inR K.iv (.bin .mul k a b) with
        | true=>simp only [cond_true]; rw [LC.mul_den,hb,q3 h,← ha,litL_ok hx]
        | false=>exact atomL_den _
      · rename_i y _ hy
        cases h:inR K.iv (.bin .mul k a b) with
        | true=>simp only [cond_true]; rw [LC.mul_den,ha,q3 h,← hb,litL_ok hy,Int.mul_comm]
        | false=>exact atomL_den _
      · exact atomL_den _
    · exact atomL_den _
  | .conv k a=>by
    have ha:=linE_ok H a
    obtain ⟨_,_,_,q4⟩:=inR_bin H.iv (k:=k) (a:=a) (b:=a)
    simp only [linE]
    cases h:inR K.iv (.conv k a) with
    | true=>simp only [cond_true]; rw [ha,q4 h]
    | false=>exact atomL_den _
  | .mx a b=>by
    have ha:=linE_ok H a
    have hb:=linE_ok H b
    simp only [linE]
    unfold linMx
    generalize linE K a=x at ha
    generalize linE K b=y at hb
    cases h:leK K (x.sub y).l (x.sub y).c with
    | true =>
      have:=leK_ok H h
      have e:=LC.sub_den (ρ:=ρ) x y
      simp only [LC.den] at e ha hb ⊢
      simp only [cond_true,IE.den_mx]; omega
    | false =>
      simp only [cond_false]
      cases h2:leK K (y.sub x).l (y.sub x).c with
      | true =>
        have:=leK_ok H h2
        have e:=LC.sub_den (ρ:=ρ) y x
        simp only [LC.den] at e ha hb ⊢
        simp only [cond_true,IE.den_mx]; omega
      | false=>exact atomL_den _
  | .mn a b=>by
    have ha:=linE_ok H a
    have hb:=linE_ok H b
    simp only [linE]
    unfold linMn
    generalize linE K a=x at ha
    generalize linE K b=y at hb
    cases h:leK K (x.sub y).l (x.sub y).c with
    | true =>
      have:=leK_ok H h
      have e:=LC.sub_den (ρ:=ρ) x y
      simp only [LC.den] at e ha hb ⊢
      simp only [cond_true,IE.den]; split <;> omega
    | false =>
      simp only [cond_false]
      cases h2:leK K (y.sub x).l (y.sub x).c with
      | true =>
        have:=leK_ok H h2
        have e:=LC.sub_den (ρ:=ρ) y x
        simp only [LC.den] at e ha hb ⊢
        simp only [cond_true,IE.den]; split <;> omega
      | false=>exact atomL_den _
noncomputable def leLC (K:Kn) (x:LC):Bool:=leK K x.l x.c
theorem leLC_ok {ρ:Rho} {K:Kn} (H:KnOk ρ K) {x:LC} (h:leLC K x=true):x.den ρ≤0:=leK_ok H h
noncomputable def LC.plus (n:Int) (x:LC):LC:=⟨x.l,Int.add x.c n⟩
theorem LC.plus_den {ρ:Rho} (n:Int) (x:LC):(x.plus n).den ρ=x.den ρ + n:=by
  have:Int.add x.c n=x.c + n:=rfl
  simp only [LC.plus,LC.den,this]; omega
noncomputable def decLe (K:Kn) (d:LC):Option Bool :=
  cond (leLC K d) (some true) (cond (leLC K (d.neg.plus 1)) (some false) none)
theorem decLe_ok {ρ:Rho} {K:Kn} (H:KnOk ρ K) {d:LC} {b:Bool} (h:decLe K d=some b):(d.den ρ≤0 ↔ b=true):=by
  unfold decLe at h
  cases h1:leLC K d with
  | true=>rw [h1] at h; cases h; exact ⟨fun _=>rfl,fun _=>leLC_ok H h1⟩
  | false =>
    rw [h1,cond_false] at h
    obtain ⟨h2,h3⟩:=cond_some h
    cases h3
    have:=leLC_ok H h2
    rw [LC.plus_den,LC.neg_den] at this
    constructor
    · intro; omega
    · intro h; cases h
noncomputable def neF (d:LC) (f:Fct):Bool :=
  match f.k with
  | .ne=>or (cond (isNil (linSub d.l f.l)) (ieq d.c f.c) false) (cond (isNil (linAdd d.l f.l)) (ieq (Int.add d.c f.c) 0) false)
  | _=>false
where isNil (l:Lin):Bool:=match l with
  | []=>true
  | _=>false
theorem neF_ok {ρ:Rho} {d:LC} {f:Fct} (hf:f.ok ρ) (h:neF d f=true):d.den ρ ≠ 0:=by
  unfold neF at h
  unfold Fct.ok at hf
  split at h
  · rename_i hk
    rw [hk] at hf; simp only at hf
    simp only [Bool.or_eq_true] at h
    have nl:∀ l:Lin,neF.isNil l=true→l=[]:=fun l h=>by cases l with
      | nil=>rfl
      | cons=>cases h
    rcases h with h | h
    · cases h1:neF.isNil (linSub d.l f.l) with
      | false=>rw [h1] at h; cases h
      | true =>
        rw [h1,cond_true] at h
        have h2:=linSub_den (ρ:=ρ) d.l f.l
        rw [nl _ h1] at h2
        have h3:=ieq_t h
        simp only [linDen] at h2
        simp only [LC.den]; omega
    · cases h1:neF.isNil (linAdd d.l f.l) with
      | false=>rw [h1] at h; cases h
      | true =>
        rw [h1,cond_true] at h
        have h2:=linAdd_den (ρ:=ρ) d.l f.l
        rw [nl _ h1] at h2
        have h3:d.c + f.c=0:=ieq_t h
        simp only [linDen] at h2
        simp only [LC.den]; omega
  · cases h
noncomputable def decEq0 (K:Kn) (d:LC):Option Bool :=
  cond (leLC K d)
    (cond (leLC K d.neg) (some true) (cond (leLC K (d.plus 1)) (some false) (cond (anyF (neF d) K.fs) (some false) none)))
    (cond (leLC K (d.neg.plus 1)) (some false) (cond (anyF (neF d) K.fs) (some false) none))
theorem decEq0_ok {ρ:Rho} {K:Kn} (H:KnOk ρ K) {d:LC} {b:Bool} (h:decEq0 K d=some b):(d.den ρ=0 ↔ b=true):=by
  unfold decEq0 at h
  have ne:anyF (neF d) K.fs=true→d.den ρ ≠ 0:=fun h=>by
    obtain ⟨f,hf,h2⟩:=anyF_ok h
    exact neF_ok (H.fs f hf) h2
  have fal:d.den ρ ≠ 0→(d.den ρ=0 ↔ false=true):=fun h=>⟨fun e=>(h e).elim,fun e=>by cases e⟩
  cases h1:leLC K d with
  | true =>
    rw [h1,cond_true] at h
    have a1:=leLC_ok H h1
    cases h2:leLC K d.neg with
    | true =>
      rw [h2,cond_true] at h; cases h
      have a2:=leLC_ok H h2
      rw [LC.neg_den] at a2
      exact ⟨fun _=>rfl,fun _=>by omega⟩
    | false =>
      rw [h2,cond_false] at h
      cases h3:leLC K (d.plus 1) with
      | true =>
        rw [h3,cond_true] at h; cases h
        have a2:=leLC_ok H h3
        rw [LC.plus_den] at a2
        exact fal (by omega)
      | false =>
        rw [h3,cond_false] at h
        obtain ⟨h4,h5⟩:=cond_some h
        cases h5
        exact fal (ne h4)
  | false =>
    rw [h1,cond_false] at h
    cases h3:leLC K (d.neg.plus 1) with
    | true =>
      rw [h3,cond_true] at h; cases h
      have a2:=leLC_ok H h3
      rw [LC.plus_den,LC.neg_den] at a2
      exact fal (by omega)
    | false =>
      rw [h3,cond_false] at h
      obtain ⟨h4,h5⟩:=cond_some h
      cases h5
      exact fal (ne h4)
noncomputable def optNot (o:Option Bool):Option Bool :=
  match o with
  | some b=>some (Bool.not b)
  | none=>none
theorem optNot_some {o:Option Bool} {b:Bool} (h:optNot o=some b):o=some (!b):=by
  cases o with
  | none=>cases h
  | some x=>simp only [optNot,Option.some.injEq] at h; subst h; simp
noncomputable def decC (K:Kn) (op:BinOp) (x y:IE):Option Bool :=
  match op with
  | .leq=>decLe K ((linE K x).sub (linE K y))
  | .lss=>decLe K (((linE K x).sub (linE K y)).plus 1)
  | .geq=>decLe K ((linE K y).sub (linE K x))
  | .gtr=>decLe K (((linE K y).sub (linE K x)).plus 1)
  | .eql=>decEq0 K ((linE K x).sub (linE K y))
  | .neq=>optNot (decEq0 K ((linE K x).sub (linE K y)))
  | _=>none
theorem bool_of_iff {p:Prop} [Decidable p] {b:Bool} (h:p ↔ b=true):decide p=b:=by
  cases b with
  | true=>exact decide_eq_true (h.2 rfl)
  | false=>exact decide_eq_false fun e=>by have:=h.1 e; cases this
theorem decC_ok {ρ:Rho} {K:Kn} (H:KnOk ρ K) {op:BinOp} {x y:IE} {b:Bool} (h:decC K op x y=some b):cmpDen op (x.den ρ) (y.den ρ)=b:=by
  have hx:=linE_ok H x
  have hy:=linE_ok H y
  unfold decC at h
  split at h
  · have:=decLe_ok H h
    rw [LC.sub_den,hx,hy] at this
    exact bool_of_iff ⟨fun e=>this.1 (by omega),fun e=>by have:=this.2 e; omega⟩
  · have:=decLe_ok H h
    rw [LC.plus_den,LC.sub_den,hx,hy] at this
    exact bool_of_iff ⟨fun e=>this.1 (by omega),fun e=>by have:=this.2 e; omega⟩
  · have:=decLe_ok H h
    rw [LC.sub_den,hx,hy] at this
    exact bool_of_iff ⟨fun e=>this.1 (by omega),fun e=>by have:=this.2 e; omega⟩
  · have:=decLe_ok H h
    rw [LC.plus_den,LC.sub_den,hx,hy] at this
    exact bool_of_iff ⟨fun e=>this.1 (by omega),fun e=>by have:=this.2 e; omega⟩
  · have:=decEq0_ok H h
    rw [LC.sub_den,hx,hy] at this
    have h2:=bool_of_iff (p:=x.den ρ=y.den ρ) (b:=b) ⟨fun e=>this.1 (by omega),fun e=>by have:=this.2 e; omega⟩
    simp only [cmpDen]
    rw [← h2]
    by_cases e:x.den ρ=y.den ρ <;> simp [e]
  · have h:=optNot_some h
    have:=decEq0_ok H h
    rw [LC.sub_den,hx,hy] at this
    have h2:=bool_of_iff (p:=x.den ρ=y.den ρ) (b:=!b) ⟨fun e=>this.1 (by omega),fun e=>by have:=this.2 e; omega⟩
    simp only [cmpDen]
    have h3:b=!(decide (x.den ρ=y.den ρ)):=by rw [h2]; simp
    rw [h3]
    by_cases e:x.den ρ=y.den ρ <;> simp [e,bne]
  · cases h
noncomputable def decK (K:Kn):BE→Option Bool
  | .lit b=>some b
  | .not a=>optNot (decK K a)
  | .and a b=>(match decK K a with
    | some false=>some false
    | some true=>decK K b
    | none=>(match decK K b with
      | some false=>some false
      | _=>findA (.and a b) K.bs))
  | .cmp op x y=>decC K op x y
  | .iff a b=>(match decK K a,decK K b with
    | some x,some y=>some (x == y)
    | _,_=>findA (.iff a b) K.bs)
  | .var i=>findA (.var i) K.bs
  | .app f a b c=>findA (.app f a b c) K.bs
theorem decK_ok {ρ:Rho} {K:Kn} (H:KnOk ρ K):∀ (c:BE) (b:Bool),decK K c=some b→c.den ρ=b
  | .lit x,b,h=>by simp only [decK,Option.some.injEq] at h; exact h
  | .var i,b,h=>by simp only [decK] at h; exact findA_ok H.bs h
  | .app f x y z,b,h=>by simp only [decK] at h; exact findA_ok H.bs h
  | .iff x y,b,h=>by
    simp only [decK] at h
    split at h
    · rename_i p q hp hq
      cases h
      simp only [BE.den,decK_ok H x p hp,decK_ok H y q hq]
    · exact findA_ok H.bs h
  | .not a,b,h=>by
    simp only [decK] at h
    have h:=optNot_some h
    simp only [BE.den,decK_ok H a _ h,Bool.not_not]
  | .and a c,b,h=>by
    simp only [decK] at h
    split at h
    · rename_i hx; cases h; simp only [BE.den,decK_ok H a false hx,Bool.false_and]
    · rename_i hx; simp only [BE.den,decK_ok H a true hx,decK_ok H c b h,Bool.true_and]
    · split at h
      · rename_i hy; cases h; simp only [BE.den,decK_ok H c false hy,Bool.and_false]
      · exact findA_ok H.bs h
  | .cmp o x y,b,h=>by simp only [decK] at h; exact decC_ok H h
noncomputable def Kn.fact (K:Kn) (k:Fk) (x:LC):Kn:=⟨K.iv,⟨k,x.l,x.c⟩ :: K.fs,K.bs⟩
noncomputable def Kn.bool (K:Kn) (c:BE) (b:Bool):Kn:=⟨K.iv,K.fs,⟨c,b⟩ :: K.bs⟩
theorem KnOk.fact {ρ:Rho} {K:Kn} (H:KnOk ρ K) {k:Fk} {x:LC} (h:(⟨k,x.l,x.c⟩:Fct).ok ρ):KnOk ρ (K.fact k x) :=
  ⟨H.iv,fun f hf=>(List.mem_cons.1 hf).elim (fun e=>e ▸ h) (fun hf=>H.fs f hf),H.bs⟩
theorem KnOk.bool {ρ:Rho} {K:Kn} (H:KnOk ρ K) {c:BE} {b:Bool} (h:c.den ρ=b):KnOk ρ (K.bool c b) :=
  ⟨H.iv,H.fs,fun a ha=>(List.mem_cons.1 ha).elim (fun e=>by rw [e]; exact h) (fun ha=>H.bs a ha)⟩
noncomputable def addC (K:Kn) (b:Bool) (op:BinOp) (x y:IE):Kn :=
  match op with
  | .leq=>K.fact .le (cond b ((linE K x).sub (linE K y)) (((linE K y).sub (linE K x)).plus 1))
  | .lss=>K.fact .le (cond b (((linE K x).sub (linE K y)).plus 1) ((linE K y).sub (linE K x)))
  | .geq=>K.fact .le (cond b ((linE K y).sub (linE K x)) (((linE K x).sub (linE K y)).plus 1))
  | .gtr=>K.fact .le (cond b (((linE K y).sub (linE K x)).plus 1) ((linE K x).sub (linE K y)))
  | .eql=>K.fact (cond b .eq .ne) ((linE K x).sub (linE K y))
  | .neq=>K.fact (cond b .ne .eq) ((linE K x).sub (linE K y))
  | _=>K
theorem addC_ok {ρ:Rho} {K:Kn} (H:KnOk ρ K) {b:Bool} {op:BinOp} {x y:IE} (h:cmpDen op (x.den ρ) (y.den ρ)=b):KnOk ρ (addC K b op x y):=by
  have hx:=linE_ok H x
  have hy:=linE_ok H y
  have e1:=LC.sub_den (ρ:=ρ) (linE K x) (linE K y)
  have e2:=LC.sub_den (ρ:=ρ) (linE K y) (linE K x)
  have e3:=LC.plus_den (ρ:=ρ) 1 ((linE K x).sub (linE K y))
  have e4:=LC.plus_den (ρ:=ρ) 1 ((linE K y).sub (linE K x))
  rw [hx,hy] at e1 e2
  unfold LC.den at e1 e2 e3 e4
  unfold addC
  split
  · refine H.fact ?_
    simp only [cmpDen] at h
    cases b with
    | true=>have:=of_decide_eq_true h; simp only [Fct.ok,cond_true]; omega
    | false=>have:=of_decide_eq_false h; simp only [Fct.ok,cond_false]; omega
  · refine H.fact ?_
    simp only [cmpDen] at h
    cases b with
    | true=>have:=of_decide_eq_true h; simp only [Fct.ok,cond_true]; omega
    | false=>have:=of_decide_eq_false h; simp only [Fct.ok,cond_false]; omega
  · refine H.fact ?_
    simp only [cmpDen] at h
    cases b with
    | true=>have:=of_decide_eq_true h; simp only [Fct.ok,cond_true]; omega
    | false=>have:=of_decide_eq_false h; simp only [Fct.ok,cond_false]; omega
  · refine H.fact ?_
    simp only [cmpDen] at h
    cases b with
    | true=>have:=of_decide_eq_true h; simp only [Fct.ok,cond_true]; omega
    | false=>have:=of_decide_eq_false h; simp only [Fct.ok,cond_false]; omega
  · refine H.fact ?_
    simp only [cmpDen] at h
    cases b with
    | true => have : x.den ρ = y.den ρ := by simpa using h
              simp only [Fct.ok,cond_true]; omega
    | false => have : x.den ρ ≠ y.den ρ := by simpa using h
               simp only [Fct.ok,cond_false]; omega
  · refine H.fact ?_
    simp only [cmpDen] at h
    cases b with
    | true => have : x.den ρ ≠ y.den ρ := by simpa using h
              simp only [Fct.ok,cond_true]; omega
    | false => have : x.den ρ = y.den ρ := by simpa using h
               simp only [Fct.ok,cond_false]; omega
  · exact H
noncomputable def addK (b:Bool):BE→Kn→Kn
  | .lit _,K=>K
  | .not a,K=>addK (Bool.not b) a K
  | .and x y,K=>cond b (addK b x (addK b y K)) (match decK K x with
    | some true=>addK false y K
    | _=>(match decK K y with
      | some true=>addK false x K
      | _=>K.bool (.and x y) b))
  | .cmp op x y,K=>addC K b op x y
  | c,K=>K.bool c b
theorem addK_ok {ρ:Rho}:∀ (c:BE) (b:Bool) (K:Kn),KnOk ρ K→c.den ρ=b→KnOk ρ (addK b c K)
  | .lit _,b,K,H,_=>H
  | .not a,b,K,H,h=>by
    simp only [addK]
    refine addK_ok a _ K H ?_
    simp only [BE.den] at h
    rw [← h,Bool.not_not]
  | .and x y,b,K,H,h=>by
    simp only [addK]
    cases b with
    | true =>
      simp only [BE.den,Bool.and_eq_true] at h
      exact addK_ok x true _ (addK_ok y true K H h.2) h.1
    | false =>
      simp only [cond_false]
      split
      · rename_i hx
        have:=decK_ok H x true hx
        simp only [BE.den,this,Bool.true_and] at h
        exact addK_ok y false K H h
      · split
        · rename_i hy
          have:=decK_ok H y true hy
          simp only [BE.den,this,Bool.and_true] at h
          exact addK_ok x false K H h
        · exact H.bool h
  | .var i,b,K,H,h=>H.bool h
  | .app f x y z,b,K,H,h=>H.bool h
  | .iff x y,b,K,H,h=>H.bool h
  | .cmp op x y,b,K,H,h=>addC_ok H h
noncomputable def addAllK:List BE→Kn→Kn
  | [],K=>K
  | c :: cs,K=>addK true c (addAllK cs K)
theorem addAllK_ok {ρ:Rho}:∀ (cs:List BE) (K:Kn),KnOk ρ K→(∀ c ∈ cs,c.den ρ=true)→KnOk ρ (addAllK cs K)
  | [],_,H,_=>H
  | c :: cs,K,H,h=>addK_ok c true _ (addAllK_ok cs K H fun d hd=>h d (List.mem_cons_of_mem _ hd)) (h c List.mem_cons_self)
noncomputable def ivC:List (Nat × Int × Int)→List BE
  | []=>[]
  | q :: l=>.cmp .leq (.lit q.2.1) (.var q.1) :: .cmp .leq (.var q.1) (.lit q.2.2) :: ivC l
noncomputable def ivT:List (Nat × Int × Int)→PT Iv
  | []=>.nil
  | q :: l=>(ivT l).set q.1 ⟨q.2.1,q.2.2⟩
noncomputable def knOf (q:List (Nat × Int × Int)) (cs:List BE):Kn:=addAllK cs ⟨ivT q,[],[]⟩
theorem ivT_ok {ρ:Rho}:∀ (q:List (Nat × Int × Int)),(∀ c ∈ ivC q,c.den ρ=true)→∀ i v,(ivT q).get i=some v→v.lo≤ρ.iv i∧ρ.iv i≤v.hi
  | [],_,i,v,h=>by rw [ivT,PT.get_nil] at h; cases h
  | q :: l,H,i,v,h=>by
    rw [ivT,PT.get_set] at h
    by_cases c:i=q.1
    · rw [if_pos c] at h; cases h; subst c
      have h1:=H _ List.mem_cons_self
      have h2:=H _ (List.mem_cons_of_mem _ List.mem_cons_self)
      exact ⟨of_decide_eq_true h1,of_decide_eq_true h2⟩
    · rw [if_neg c] at h
      exact ivT_ok l (fun c hc=>H c (List.mem_cons_of_mem _ (List.mem_cons_of_mem _ hc))) i v h
theorem knOf_ok {ρ:Rho} {q:List (Nat × Int × Int)} {cs:List BE} (h1:∀ c ∈ ivC q,c.den ρ=true) (h2:∀ c ∈ cs,c.den ρ=true):KnOk ρ (knOf q cs) :=
  addAllK_ok cs _ ⟨ivT_ok q h1,fun _ hf=>(List.not_mem_nil hf).elim,fun _ ha=>(List.not_mem_nil ha).elim⟩ h2
noncomputable def allK {α:Type} (Q:Kn→α→Bool) (t:T α):Kn→Bool :=
  @T.rec α (fun _=>Kn→Bool) (fun a K=>Q K a)
    (fun c _ _ ih1 ih2 K=>match decK K c with
      | some b=>cond b (ih1 K) (ih2 K)
      | none=>and (ih1 (addK true c K)) (ih2 (addK false c K)))
    (fun _ _=>false) t
theorem allK_ok {α:Type} {ρ:Rho} {Q:Kn→α→Bool} {P:α→Prop} (hQ:∀ K a,KnOk ρ K→Q K a=true→P a):∀ (t:T α) (K:Kn),KnOk ρ K→allK Q t K=true→t.Holds ρ P
  | .ret a,K,H,h=>hQ K a H h
  | .fail w,K,H,h=>by cases h
  | .br c x y,K,H,h=>by
    have h:(match decK K c with
      | some b=>cond b (allK Q x K) (allK Q y K)
      | none=>and (allK Q x (addK true c K)) (allK Q y (addK false c K)))=true:=h
    simp only [T.Holds]
    split at h
    · rename_i b hb
      have hc:=decK_ok H c b hb
      cases b with
      | true=>rw [hc,if_pos rfl]; exact allK_ok hQ x K H h
      | false=>rw [hc,if_neg (by simp)]; exact allK_ok hQ y K H h
    · simp only [Bool.and_eq_true] at h
      cases hc:c.den ρ with
      | true=>rw [if_pos rfl]; exact allK_ok hQ x _ (addK_ok c true K H hc) h.1
      | false=>rw [if_neg (by simp)]; exact allK_ok hQ y _ (addK_ok c false K H hc) h.2
noncomputable def isTrueK (K:Kn) (r:AV × Heap):Bool :=
  match r.1 with
  | .bool b=>(match decK K b with
    | some b=>b
    | none=>false)
  | _=>false
end Go.Sx
namespace Go.Sx
open Go.RowKit
structure CSpec where
  f:Nat
  args:List AV
  view:List (Nat × List AV)
  nv:Nat
  cs:List BE
  u:T AV
noncomputable def addAll:List BE→List Asm→List Asm
  | [],l=>l
  | c :: cs,l=>addB true c (addAll cs l)
theorem addAll_ok {ρ:Rho}:∀ (cs:List BE) (l:List Asm),AsmOk ρ l→(∀ c ∈ cs,c.den ρ=true)→AsmOk ρ (addAll cs l)
  | [],_,H,_=>H
  | c :: cs,l,H,h=>addB_ok c true _ (addAll_ok cs l H fun d hd=>h d (List.mem_cons_of_mem _ hd)) (h c List.mem_cons_self)
noncomputable def sT (n:Nat) (B:Bd) (t:T AV):Option (T AV) :=
  @T.rec AV (fun _=>Option (T AV)) (fun a=>match sV n B a with
    | some x=>some (.ret x)
    | none=>none)
    (fun c _ _ x y=>match sB B c,x,y with
      | some d,some x,some y=>some (.br d x y)
      | _,_,_=>none) (fun w=>some (.fail w)) t
theorem sT_holds {n:Nat} {E ES:Env} {B:Bd} (R:RelD n E ES B) (hfi:ES.ρ.fi=E.ρ.fi) (hfb:ES.ρ.fb=E.ρ.fb) {P:AV→Prop}:∀ (t t':T AV),sT n B t=some t'→t'.Holds E.ρ P→t.Holds ES.ρ fun v=>∃ v',sV n B v=some v'∧P v'
  | .ret a,t',h,k=>by
    have h:(match sV n B a with
      | some x=>some (T.ret x)
      | none=>none)=some t':=h
    split at h
    · rename_i x hx; cases h; exact ⟨x,hx,k⟩
    · cases h
  | .fail w,t',h,k=>by
    have h:some (T.fail w)=some t':=h
    cases h; exact k.elim
  | .br c x y,t',h,k=>by
    have h:(match sB B c,sT n B x,sT n B y with
      | some d,some x,some y=>some (T.br d x y)
      | _,_,_=>none)=some t':=h
    split at h
    · rename_i d x' y' hd hx hy
      cases h
      simp only [T.Holds] at k ⊢
      rw [sB_ok R hfi hfb c d hd] at k
      split at k
      · rename_i hc; rw [if_pos hc]; exact sT_holds R hfi hfb x x' hx k
      · rename_i hc; rw [if_neg hc]; exact sT_holds R hfi hfb y y' hy k
    · cases h
noncomputable def CSpec.vs (c:CSpec):List VS:=c.view.map fun g=>⟨g.1,none,g.2,g.2,g.2⟩
noncomputable def CSpec.orc (c:CSpec) (args:List AV) (h:Heap):Option (T (AV × Heap)) :=
  match bdL c.nv c.args args ⟨[],[],[],[]⟩ with
  | none=>none
  | some B0=>(match bdVw c.nv h c.vs B0 with
    | none=>none
    | some B=>(match sBs B c.cs,sT c.nv B c.u with
      | some cs,some u=>some (brAll (u.bind fun v=>.ret (v,h)) cs)
      | _,_=>none))
noncomputable def CSpec.chk (c:CSpec) (run:T (AV × Heap)):Bool :=
  serves (fun a b=>and (eqAV a b) (pureAV b)) c.u (run.bind fun r=>.ret r.1) (addAll c.cs [])
theorem CSpec.ok {p0 p:Par} {c:CSpec} {run:T (AV × Heap)} (hc:CallOk p0 c.f c.args (viewHeap c.nv c.view) run) (hchk:c.chk run=true) (hnv:1000≤c.nv) {args:List AV} {h:Heap} {t:T (AV × Heap)} (ho:c.orc args h=some t) (hP:p0.P=p.P:=by rfl) (hfree:∀ ρ m,p0.ok ρ m:=by exact fun _ _=>trivial):CallOk p c.f args h t:=by
  unfold CSpec.orc at ho
  split at ho
  · cases ho
  · rename_i B0 h0
    split at ho
    · cases ho
    · rename_i B hB
      split at ho
      · rename_i cs u hcs hu
        cases ho
        intro vs E w0 w Q K k HH ha P
        obtain ⟨hdom,hret⟩:=brAll_holds k
        rw [T.holds_bind] at hret
        obtain ⟨a1,a2,a3⟩:=bdL_ok _ _ _ _ h0
        obtain ⟨c1,c2,c3⟩:=bdVw_ok _ _ _ hB
        have G0:GoodD E B0:=a2 E vs ha (fun j v h=>by cases h)
        have G:GoodD E B:=c2 HH G0
        have R:RelD c.nv E (envD c.nv E B) B:=envD_rel HH.glob G
        have hargs:concL (envD c.nv E B) c.args=some vs:=a3 E (envD c.nv E B) vs (R.sub c1) ha
        have hdom':∀ d ∈ c.cs,d.den (rhoD E B)=true:=fun d hd=>by
          obtain ⟨d',h1,h2⟩:=sBs_ok _ _ hcs d hd
          have:=sB_ok R rfl rfl d d' h2
          rw [hdom d' h1] at this
          exact this.symm
        have hV:=c3 R HH
        have hview:∀ g ∈ c.view,ViewIn w (envD c.nv E B) g:=fun g hg=>by
          have hm:(⟨g.1,none,g.2,g.2,g.2⟩:VS) ∈ c.vs:=List.mem_map.2 ⟨g,hg,rfl⟩
          obtain ⟨c',base,vs',cells,el,fz,k1,k2,k3,k4,k5⟩:=(hV _ hm).obj
          exact ⟨c',base,vs',cells,el,fz,k1,k2,k3,k4⟩
        have HS:HeapOk p0 (envD c.nv E B) (viewHeap c.nv c.view) (Base.of w) w:=view_ok hview
          (fun b hb=>by simp only [envD,sigD]; rw [if_neg (by omega),if_neg (by omega)]) (fun b hb=>by simp only [envD,sigD,if_pos hb]) (Nat.le_refl _) (Par.okB_all hfree _ _)
        have hu':=sT_holds R rfl rfl c.u u hu hret
        have hrun:(run.bind fun r=>T.ret r.1).Holds (rhoD E B) fun v=>pureAV v=true∧∃ v',sV c.nv B v=some v'∧(T.ret (v',h)).Holds E.ρ Q:=by
          unfold CSpec.chk at hchk
          have key:∀ (t:T AV) (l:List Asm),AsmOk (rhoD E B) l→serves (fun a b=>and (eqAV a b) (pureAV b)) c.u t l=true→t.Holds (rhoD E B) fun v=>pureAV v=true∧∃ v',sV c.nv B v=some v'∧(T.ret (v',h)).Holds E.ρ Q:=by
            intro t l H hs
            have hu2:c.u.Holds (rhoD E B) (fun v=>pureAV v=true→pureAV v=true∧∃ v',sV c.nv B v=some v'∧(T.ret (v',h)).Holds E.ρ Q):=T.holds_weak hu' fun v hv hp=>⟨hp,hv⟩
            have:t.Holds (rhoD E B) (fun v=>pureAV v=true∧(pureAV v=true→pureAV v=true∧∃ v',sV c.nv B v=some v'∧(T.ret (v',h)).Holds E.ρ Q)) :=
              serves_ok2 (P:=fun v=>pureAV v=true→pureAV v=true∧∃ v',sV c.nv B v=some v'∧(T.ret (v',h)).Holds E.ρ Q) (R:=fun v=>pureAV v=true) (fun a b hab=>by
                simp only [Bool.and_eq_true] at hab
                have:=eqAV_eq _ _ hab.1
                exact ⟨this,this ▸ hab.2⟩) hu2 t l H hs
            exact T.holds_weak this fun v hv=>hv.2 hv.1
          exact key _ _ (addAll_ok _ _ (fun a ha=>by cases ha) hdom') hchk
        rw [T.holds_bind] at hrun
        obtain ⟨r1,r2⟩:=hc vs (envD c.nv E B) (Base.of w) w (fun r=>pureAV r.1=true∧∃ v',sV c.nv B r.1=some v'∧(T.ret (v',h)).Holds E.ρ Q) (fun cv w'=>∃ v v',pureAV v=true∧sV c.nv B v=some v'∧Q (v',h)∧conc (envD c.nv E B) v=some cv∧Below w.heap.size w w') hrun HS hargs
          (fun v h' E' w' cv hq hle HH' hv=>by
            obtain ⟨hp,v',hs,hQ⟩:=hq
            exact ⟨v,v',hp,hs,hQ,by rw [← hv]; exact (conc_pure hle.ρ v hp).symm,Base.keeps_below HH'.below⟩)
        rw [hP] at r1 r2
        refine ⟨r1,r2.mono ?_⟩
        rintro e w' ⟨cv,rfl,v,v',hp,hs,hQ,hv,hb⟩
        exact ⟨cv,rfl,P v' h E w' cv hQ (Env.le.refl E) (HH.world hb) (by rw [sV_ok R rfl rfl v v' hs]; exact hv)⟩
      · cases ho
end Go.Sx
namespace Go.Sx
open Go.RowKit
noncomputable def blkA (o:Option AObj):AV :=
  match o with
  | some (.cells cs el own ext)=>.tup [.tup cs,li el,.bool (.lit own),.bool (.lit ext)]
  | _=>.nilptr
theorem blkA_some {o:Option AObj} {cs:List AV} {el:TypeId} {own ext:Bool} (h:blkA o=.tup [.tup cs,li el,.bool (.lit own),.bool (.lit ext)]):o=some (.cells cs el own ext):=by
  unfold blkA at h
  split at h
  · simp only [AV.tup.injEq,List.cons.injEq,li,AV.int.injEq,IE.lit.injEq,AV.bool.injEq,BE.lit.injEq,and_true,true_and] at h
    obtain ⟨h1,h2,h3,h4⟩:=h
    have h2:=Int.ofNat_inj.1 h2
    rw [h1,h2,h3,h4]
  · cases h
end Go.Sx
namespace Go.Sx
open Go.RowKit
def SameE (ρ:Rho) (a b:AV):Prop:=∀ E:Env,E.ρ=ρ→conc E a=conc E b
abbrev Rules:=List (List BE × BE)
def RulesOk (ρ:Rho) (R:Rules):Prop:=∀ r ∈ R,(∀ p ∈ r.1,p.den ρ=true)→r.2.den ρ=true
noncomputable def allT (K:Kn) (l:List BE):Bool:=lAll (fun c=>match decK K c with
  | some b=>b
  | none=>false) l
noncomputable def fires (R:Rules) (K:Kn) (c:BE):Bool :=
  @List.rec (List BE × BE) (fun _=>Bool) false (fun r _ ih=>cond (eqBE r.2 c) (cond (allT K r.1) true ih) ih) R
theorem fires_ok {ρ:Rho} {K:Kn} (H:KnOk ρ K) {c:BE}:∀ {R:Rules},RulesOk ρ R→fires R K c=true→c.den ρ=true
  | [],_,h=>by cases h
  | r :: R,HR,h=>by
    have h:cond (eqBE r.2 c) (cond (allT K r.1) true (fires R K c)) (fires R K c)=true:=h
    have ih:=fires_ok H (R:=R) (fun r hr=>HR r (List.mem_cons_of_mem _ hr)) (c:=c)
    cases he:eqBE r.2 c with
    | false=>rw [he] at h; exact ih h
    | true =>
      rw [he,cond_true] at h
      cases ha:allT K r.1 with
      | false=>rw [ha] at h; exact ih h
      | true =>
        rw [← eqBE_eq _ _ he]
        refine HR r List.mem_cons_self fun p hp=>?_
        have:=lAll_mem' ha p hp
        split at this
        · rename_i b hb; subst this; exact decK_ok H p _ hb
        · cases this
noncomputable def decW (R:Rules) (K:Kn) (c:BE):Option Bool :=
  match decK K c with
  | some b=>some b
  | none=>cond (fires R K c) (some true) none
theorem decW_ok {ρ:Rho} {R:Rules} {K:Kn} (HR:RulesOk ρ R) (H:KnOk ρ K) {c:BE} {b:Bool} (h:decW R K c=some b):c.den ρ=b:=by
  unfold decW at h
  split at h
  · rename_i x hx; cases h; exact decK_ok H c _ hx
  · obtain ⟨h1,h2⟩:=cond_some h
    cases h2
    exact fires_ok H HR h1
theorem CSpec.okS {p0 p : Par} {c : CSpec} {run : T (AV × Heap)} (hc : CallOk p0 c.f c.args (viewHeap c.nv c.view) run)
    (hS:∀ ρ,(∀ d ∈ c.cs,d.den ρ=true)→∀ P:AV→Prop,c.u.Holds ρ P→(run.bind fun r=>.ret r.1).Holds ρ fun a=>∃ b,P b∧pureAV b=true∧SameE ρ a b) (hnv:1000≤c.nv) {args:List AV} {h:Heap} {t:T (AV × Heap)} (ho:c.orc args h=some t) (hP:p0.P=p.P:=by rfl) (hfree:∀ ρ m,p0.ok ρ m:=by exact fun _ _=>trivial):CallOk p c.f args h t:=by
  unfold CSpec.orc at ho
  split at ho
  · cases ho
  · rename_i B0 h0
    split at ho
    · cases ho
    · rename_i B hB
      split at ho
      · rename_i cs u hcs hu
        cases ho
        intro vs E w0 w Q K k HH ha P
        obtain ⟨hdom,hret⟩:=brAll_holds k
        rw [T.holds_bind] at hret
        obtain ⟨a1,a2,a3⟩:=bdL_ok _ _ _ _ h0
        obtain ⟨c1,c2,c3⟩:=bdVw_ok _ _ _ hB
        have G0:GoodD E B0:=a2 E vs ha (fun j v h=>by cases h)
        have G:GoodD E B:=c2 HH G0
        have R:RelD c.nv E (envD c.nv E B) B:=envD_rel HH.glob G
        have hargs:concL (envD c.nv E B) c.args=some vs:=a3 E (envD c.nv E B) vs (R.sub c1) ha
        have hdom':∀ d ∈ c.cs,d.den (rhoD E B)=true:=fun d hd=>by
          obtain ⟨d',h1,h2⟩:=sBs_ok _ _ hcs d hd
          have:=sB_ok R rfl rfl d d' h2
          rw [hdom d' h1] at this
          exact this.symm
        have hV:=c3 R HH
        have hview:∀ g ∈ c.view,ViewIn w (envD c.nv E B) g:=fun g hg=>by
          have hm:(⟨g.1,none,g.2,g.2,g.2⟩:VS) ∈ c.vs:=List.mem_map.2 ⟨g,hg,rfl⟩
          obtain ⟨c',base,vs',cells,el,fz,k1,k2,k3,k4,k5⟩:=(hV _ hm).obj
          exact ⟨c',base,vs',cells,el,fz,k1,k2,k3,k4⟩
        have HS:HeapOk p0 (envD c.nv E B) (viewHeap c.nv c.view) (Base.of w) w:=view_ok hview
          (fun b hb=>by simp only [envD,sigD]; rw [if_neg (by omega),if_neg (by omega)]) (fun b hb=>by simp only [envD,sigD,if_pos hb]) (Nat.le_refl _) (Par.okB_all hfree _ _)
        have hu':=sT_holds R rfl rfl c.u u hu hret
        have hrun:=hS _ hdom' _ hu'
        rw [T.holds_bind] at hrun
        obtain ⟨r1,r2⟩:=hc vs (envD c.nv E B) (Base.of w) w (fun r=>∃ b,(∃ v',sV c.nv B b=some v'∧(T.ret (v',h)).Holds E.ρ Q)∧pureAV b=true∧SameE (rhoD E B) r.1 b)
          (fun cv w'=>∃ b v',pureAV b=true∧sV c.nv B b=some v'∧Q (v',h)∧conc (envD c.nv E B) b=some cv∧Below w.heap.size w w') hrun HS hargs
          (fun v h' E' w' cv hq hle HH' hv=>by
            obtain ⟨b,⟨v',hs,hQ⟩,hp,hsame⟩:=hq
            refine ⟨b,v',hp,hs,hQ,?_,Base.keeps_below HH'.below⟩
            rw [← hv,hsame E' hle.ρ]
            exact (conc_pure hle.ρ b hp).symm)
        rw [hP] at r1 r2
        refine ⟨r1,r2.mono ?_⟩
        rintro e w' ⟨cv,rfl,b,v',hp,hs,hQ,hv,hb⟩
        exact ⟨cv,rfl,P v' h E w' cv hQ (Env.le.refl E) (HH.world hb) (by rw [sV_ok R rfl rfl b v' hs]; exact hv)⟩
      · cases ho
theorem rules_nil (ρ:Rho):RulesOk ρ []:=fun _ h=>(List.not_mem_nil h).elim
noncomputable def allW {α:Type} (R:Rules) (Q:Kn→α→Bool) (t:T α):Kn→Bool :=
  @T.rec α (fun _=>Kn→Bool) (fun a K=>Q K a)
    (fun c _ _ ih1 ih2 K=>match decW R K c with
      | some b=>cond b (ih1 K) (ih2 K)
      | none=>and (ih1 (addK true c K)) (ih2 (addK false c K)))
    (fun _ _=>false) t
theorem allW_ok {α:Type} {ρ:Rho} {R:Rules} (HR:RulesOk ρ R) {Q:Kn→α→Bool} {P:α→Prop} (hQ:∀ K a,KnOk ρ K→Q K a=true→P a):∀ (t:T α) (K:Kn),KnOk ρ K→allW R Q t K=true→t.Holds ρ P
  | .ret a,K,H,h=>hQ K a H h
  | .fail w,K,H,h=>by cases h
  | .br c x y,K,H,h=>by
    have h:(match decW R K c with
      | some b=>cond b (allW R Q x K) (allW R Q y K)
      | none=>and (allW R Q x (addK true c K)) (allW R Q y (addK false c K)))=true:=h
    simp only [T.Holds]
    split at h
    · rename_i b hb
      have hc:=decW_ok HR H hb
      cases b with
      | true=>rw [hc,if_pos rfl]; exact allW_ok HR hQ x K H h
      | false=>rw [hc,if_neg (by simp)]; exact allW_ok HR hQ y K H h
    · simp only [Bool.and_eq_true] at h
      cases hc:c.den ρ with
      | true=>rw [if_pos rfl]; exact allW_ok HR hQ x _ (addK_ok c true K H hc) h.1
      | false=>rw [if_neg (by simp)]; exact allW_ok HR hQ y _ (addK_ok c false K H hc) h.2
theorem isTrueK_ok {ρ:Rho} {K:Kn} {r:AV × Heap} (H:KnOk ρ K) (h:isTrueK K r=true):∃ b,r.1=.bool b∧b.den ρ=true:=by
  unfold isTrueK at h
  split at h
  · rename_i b hb
    split at h
    · rename_i c hc; subst h; exact ⟨_,hb,decK_ok H _ _ hc⟩
    · cases h
  · cases h
end Go.Sx
namespace Go.Sx
open Go.RowKit
def varsI (n:Nat):IE→Bool
  | .lit _=>true
  | .var i=>Nat.ble (i + 1) n
  | .bin _ _ a b=>and (varsI n a) (varsI n b)
  | .conv _ a=>varsI n a
  | .mx a b=>and (varsI n a) (varsI n b)
  | .mn a b=>and (varsI n a) (varsI n b)
  | .app _ a b c=>and (varsI n a) (and (varsI n b) (varsI n c))
def varsB (n:Nat):BE→Bool
  | .lit _=>true
  | .var _=>true
  | .not a=>varsB n a
  | .and a b=>and (varsB n a) (varsB n b)
  | .cmp _ a b=>and (varsI n a) (varsI n b)
  | .iff a b=>and (varsB n a) (varsB n b)
  | .app _ a b c=>and (varsI n a) (and (varsI n b) (varsI n c))
theorem varsI_den {n:Nat} {ρ ρ':Rho} (h:∀ i,i < n→ρ'.iv i=ρ.iv i) (hf:ρ'.fi=ρ.fi∧ρ'.fb=ρ.fb):∀ e:IE,varsI n e=true→e.den ρ'=e.den ρ
  | .lit _,_=>rfl
  | .var i,k=>h i (ble_t.1 k)
  | .bin op kd a b,k=>by
    simp only [varsI,Bool.and_eq_true] at k
    simp only [IE.den,varsI_den h hf a k.1,varsI_den h hf b k.2]
  | .conv kd a,k=>by
    simp only [varsI] at k
    simp only [IE.den,varsI_den h hf a k]
  | .mx a b,k=>by
    simp only [varsI,Bool.and_eq_true] at k
    simp only [IE.den,varsI_den h hf a k.1,varsI_den h hf b k.2]
  | .mn a b,k=>by
    simp only [varsI,Bool.and_eq_true] at k
    simp only [IE.den,varsI_den h hf a k.1,varsI_den h hf b k.2]
  | .app f a b c,k=>by
    simp only [varsI,Bool.and_eq_true] at k
    simp only [IE.den,varsI_den h hf a k.1,varsI_den h hf b k.2.1,varsI_den h hf c k.2.2,hf.1]
theorem varsB_den {n:Nat} {ρ ρ':Rho} (h:∀ i,i < n→ρ'.iv i=ρ.iv i) (hb:ρ'.bv=ρ.bv) (hf:ρ'.fi=ρ.fi∧ρ'.fb=ρ.fb):∀ c:BE,varsB n c=true→c.den ρ'=c.den ρ
  | .lit _,_=>rfl
  | .var i,_=>by simp only [BE.den,hb]
  | .not a,k=>by
    simp only [varsB] at k
    simp only [BE.den,varsB_den h hb hf a k]
  | .and a b,k=>by
    simp only [varsB,Bool.and_eq_true] at k
    simp only [BE.den,varsB_den h hb hf a k.1,varsB_den h hb hf b k.2]
  | .iff a b,k=>by
    simp only [varsB,Bool.and_eq_true] at k
    simp only [BE.den,varsB_den h hb hf a k.1,varsB_den h hb hf b k.2]
  | .cmp op a b,k=>by
    simp only [varsB,Bool.and_eq_true] at k
    simp only [BE.den,varsI_den h hf a k.1,varsI_den h hf b k.2]
  | .app f a b c,k=>by
    simp only [varsB,Bool.and_eq_true] at k
    simp only [BE.den,varsI_den h hf a k.1,varsI_den h hf b k.2.1,varsI_den h hf c k.2.2,hf.2]
end Go.Sx
namespace Go.Sx
open Go.RowKit
def ptAll (p:AV→Bool):PT AV→Bool
  | .nil=>true
  | .node none l r=>and (ptAll p l) (ptAll p r)
  | .node (some a) l r=>and (p a) (and (ptAll p l) (ptAll p r))
theorem ptAll_get {p:AV→Bool}:∀ (t:PT AV) (i:Nat) (a:AV),ptAll p t=true→t.get i=some a→p a=true
  | .nil,i,a,_,h=>by rw [PT.get_nil] at h; cases h
  | .node v l r,i,a,hp,h=>by
    have step:(PT.node v l r).get i=cond (Nat.beq i 0) v (cond (Nat.beq (Nat.mod i 2) 1) (l.get (Nat.div (Nat.pred i) 2)) (r.get (Nat.div (Nat.pred i) 2))):=rfl
    rw [step] at h
    have hl:ptAll p l=true:=by cases v <;> simp only [ptAll,Bool.and_eq_true] at hp <;> first | exact hp.1 | exact hp.2.1
    have hr:ptAll p r=true:=by cases v <;> simp only [ptAll,Bool.and_eq_true] at hp <;> first | exact hp.2 | exact hp.2.2
    cases h0:Nat.beq i 0 with
    | true =>
      rw [h0,cond_true] at h
      subst h
      simp only [ptAll,Bool.and_eq_true] at hp
      exact hp.1
    | false =>
      rw [h0,cond_false] at h
      cases h1:Nat.beq (Nat.mod i 2) 1 with
      | true=>rw [h1,cond_true] at h; exact ptAll_get l _ a hl h
      | false=>rw [h1,cond_false] at h; exact ptAll_get r _ a hr h
def idsE (n:Nat):List (AV × AV × Nat)→Bool
  | []=>true
  | e :: es=>and (idsLt n e.1) (and (idsLt n e.2.1) (idsE n es))
def idsO (n:Nat):AObj→Bool
  | .cells cs _ _ _=>idsLts n cs
  | .map es _=>idsE n es
  | .rmap es _=>idsE n es
  | .umap _=>true
  | .ucells _ _=>true
  | .loop _ _ _ tm _ _ d=>and (ptAll (idsLt n) tm) (Nat.ble (d + 1) n)
  | .defd _=>true
  | .resv=>false
  | .dead=>true
theorem concE_ids {n:Nat} {E E':Env} (hρ:E'.ρ=E.ρ) (hσ:∀ b,b < n→E'.σ b=E.σ b∧(E.σ b ≠ none→E'.κ b=E.κ b)):∀ (es:List (AV × AV × Nat)) (ms:List MapEntry),idsE n es=true→concE E es ms→concE E' es ms
  | [],[],_,_=>trivial
  | [],_ :: _,_,h=>h.elim
  | _ :: _,[],_,h=>h.elim
  | e :: es,m :: ms,hi,⟨h1,h2,h3,h4⟩=>by
    simp only [idsE,Bool.and_eq_true] at hi
    exact ⟨by rw [conc_ids hρ hσ _ hi.1]; exact h1,by rw [conc_ids hρ hσ _ hi.2.1]; exact h2,h3,concE_ids hρ hσ es ms hi.2.2 h4⟩
theorem objOk.ids {p : Par} {n : Nat} {E E' : Env} (hρ : E'.ρ = E.ρ) (hσ : ∀ b, b < n → E'.σ b = E.σ b ∧ (E.σ b ≠ none → E'.κ b = E.κ b)) {b b' : Nat} {o : AObj} {heap : Array Obj} (hi : idsO n o = true)
    (hb:∀ q,E.σ b=some q→E'.σ b'=some q∧E'.κ b'=E.κ b) (h:objOk p E b o heap):objOk p E' b' o heap:=by
  cases o with
  | cells cs el own ext =>
    obtain ⟨c,base,vs,cells,el',fz,k1,k2,k3,k4,k5⟩:=h
    exact ⟨c,base,vs,cells,el',fz,(hb _ k1).1,by rw [concL_ids hρ hσ cs hi]; exact k2,k3,k4,by rw [(hb _ k1).2]; exact k5⟩
  | map es k =>
    obtain ⟨c,ms,k1,k2,k3⟩:=h
    exact ⟨c,ms,(hb _ k1).1,concE_ids hρ hσ _ _ hi k2,k3⟩
  | rmap es k =>
    obtain ⟨c,ms,k1,k2,k3⟩:=h
    exact ⟨c,ms,(hb _ k1).1,concE_ids hρ hσ _ _ hi k2,k3⟩
  | umap m =>
    obtain ⟨c,es,ms,k,k1,k2,k3,k4⟩:=h
    have lit:concE E' es ms:=by
      have hl:∀ e ∈ es,conc E' e.1=conc E e.1∧conc E' e.2.1=conc E e.2.1:=fun e he=>by
        obtain ⟨a,b,c,_,_,e1,e2⟩:=k4.1 e he
        have hc:∀ q,conc E' (umCellL E.ρ a b c q)=conc E (umCellL E.ρ a b c q):=fun q=>by unfold umCellL; cases q.1 <;> rfl
        have hcs:∀ l:List (Bool × Nat),concL E' (l.map (umCellL E.ρ a b c))=concL E (l.map (umCellL E.ρ a b c)):=fun l=>by
          induction l with
          | nil=>rfl
          | cons q l ih=>simp only [List.map_cons,concL,hc,ih]
        refine ⟨?_,?_⟩
        · rw [e1]; unfold keyU; split <;> rfl
        · rw [e2]; unfold umValL
          cases m.ag with
          | true=>simp only [cond_true,conc,hcs]
          | false =>
            simp only [cond_false]
            cases m.fi with
            | nil=>rfl
            | cons q l=>cases l with
              | nil=>exact hc q
              | cons _ _=>rfl
      clear k3 k4
      induction es generalizing ms with
      | nil=>cases ms with
        | nil=>trivial
        | cons _ _=>exact k2.elim
      | cons e es ih=>cases ms with
        | nil=>exact k2.elim
        | cons m' ms =>
          obtain ⟨h1,h2,h3,h4⟩:=k2
          exact ⟨(hl e List.mem_cons_self).1.trans h1,(hl e List.mem_cons_self).2.trans h2,h3,ih ms h4 fun e' he'=>hl e' (List.mem_cons_of_mem _ he')⟩
    exact ⟨c,es,ms,k,(hb _ k1).1,lit,k3,by rw [hρ]; exact k4⟩
  | ucells i ks =>
    obtain ⟨c,base,cells,el,fz,k1,k3,k4⟩:=h
    exact ⟨c,base,cells,el,fz,(hb _ k1).1,k3,by rw [hρ]; exact k4⟩
  | loop st pend fn tm ps code d =>
    obtain ⟨c,d',nn,keep,r,k1,k2,k3,k4,k5,k6,k7,k8,k9,k10⟩:=h
    simp only [idsO,Bool.and_eq_true] at hi
    have hd:d < n:=ble_t.1 hi.2
    refine ⟨c,d',nn,keep,r,(hb _ k1).1,(hσ d hd).1.trans k2,k3,k4,k5,k6,⟨fun i a e=>?_⟩,k8,k9,k10⟩
    obtain ⟨m1,v,m2,m3⟩:=k7.at_ i a e
    exact ⟨m1,v,by rw [conc_ids hρ hσ a (ptAll_get _ _ _ hi.1 e)]; exact m2,m3⟩
  | defd t =>
    obtain ⟨c,k1,k2⟩:=h
    exact ⟨c,(hb _ k1).1,k2⟩
  | resv=>cases hi
  | dead=>trivial
noncomputable def nameG (n k:Nat) (news:List Nat) (b:Nat):Option Nat :=
  cond (Nat.ble (b + 1) n) (some b) (@List.rec Nat (fun _=>Nat→Option Nat) (fun _=>none) (fun c _ ih i=>cond (Nat.beq c b) (some i) (ih (i + 1))) news k)
noncomputable def moved (n:Nat) (g:Nat→Option Nat) (o:AObj):Option AObj :=
  cond (idsO n o) (some o) (match o with
  | .cells cs el own ext=>(match rnL g cs with
    | some cs'=>some (.cells cs' el own ext)
    | none=>none)
  | _=>none)
noncomputable def graftN (n:Nat) (g:Nat→Option Nat) (h1:Heap):List Nat→Heap→Option Heap
  | [],h=>some h
  | b :: l,h=>(match h1.get b with
    | some o1=>cond (ownO o1) (match moved n g o1 with
      | some o=>graftN n g h1 l (h.new o)
      | none=>none) none
    | none=>none)
noncomputable def graftO (n:Nat) (g:Nat→Option Nat) (h1:Heap):List Nat→Heap→Heap
  | [],h=>h
  | b :: l,h=>graftO n g h1 l (h.put b (match h1.get b with
    | some o1=>(match moved n g o1 with
      | some o=>o
      | none=>.dead)
    | none=>.dead))
def risesL (n:Nat):List Nat→Bool
  | []=>true
  | b :: l=>and (Nat.ble n b) (risesL (b + 1) l)
theorem nameG_lt {n k:Nat} {news:List Nat} {b:Nat} (h:b < n):nameG n k news b=some b:=by
  unfold nameG
  rw [ble_t.2 (show b + 1≤n from h)]; rfl
theorem nameG_ge {n k:Nat} {news:List Nat} {b c:Nat} (h:n≤b) (e:nameG n k news b=some c):∃ i,news[i]?=some b∧c=k + i:=by
  unfold nameG at e
  have h1:Nat.ble (b + 1) n=false:=by
    cases hk:Nat.ble (b + 1) n with
    | false=>rfl
    | true=>have:=ble_t.1 hk; omega
  rw [h1,cond_false] at e
  induction news generalizing k with
  | nil=>cases e
  | cons a l ih =>
    have e:cond (Nat.beq a b) (some k) (@List.rec Nat (fun _=>Nat→Option Nat) (fun _=>none) (fun c _ ih i=>cond (Nat.beq c b) (some i) (ih (i + 1))) l (k + 1))=some c:=e
    cases hb:Nat.beq a b with
    | true=>rw [hb] at e; cases e; exact ⟨0,by rw [beq_t.1 hb]; rfl,rfl⟩
    | false =>
      rw [hb,cond_false] at e
      obtain ⟨i,h1,h2⟩:=ih e
      exact ⟨i + 1,by simpa using h1,by omega⟩
theorem risesL_ge:∀ (l:List Nat) (n:Nat),risesL n l=true→∀ b ∈ l,n≤b
  | [],_,_,b,hb=>(List.not_mem_nil hb).elim
  | a :: l,n,h,b,hb=>by
    simp only [risesL,Bool.and_eq_true] at h
    have h1:=ble_t.1 h.1
    rcases List.mem_cons.1 hb with rfl | hb
    · exact h1
    · have:=risesL_ge l _ h.2 b hb; omega
theorem risesL_inj:∀ (l:List Nat) (n:Nat),risesL n l=true→∀ (i j b:Nat),l[i]?=some b→l[j]?=some b→i=j
  | [],_,_,i,_,b,h,_=>by simp at h
  | a :: l,n,h,i,j,b,hi,hj=>by
    simp only [risesL,Bool.and_eq_true] at h
    cases i with
    | zero =>
      simp at hi; subst hi
      cases j with
      | zero=>rfl
      | succ j =>
        simp at hj
        have:=risesL_ge l _ h.2 a (List.mem_of_getElem? hj); omega
    | succ i =>
      simp at hi
      cases j with
      | zero =>
        simp at hj; subst hj
        have:=risesL_ge l _ h.2 a (List.mem_of_getElem? hi); omega
      | succ j=>simp at hj; rw [risesL_inj l _ h.2 i j b hi hj]
theorem graftN_get {n : Nat} {g : Nat → Option Nat} {h1 : Heap} : ∀ (l : List Nat) (h h2 : Heap), graftN n g h1 l h = some h2 → h2.next = h.next + l.length ∧ ∀ j o, h2.get j = some o →
    (h.get j=some o∧(j < h.next ∨ h.next + l.length≤j)) ∨ ∃ i b o1,l[i]?=some b∧j=h.next + i∧h1.get b=some o1∧ownO o1=true∧moved n g o1=some o
  | [],h,h2,e=>by
    simp only [graftN,Option.some.injEq] at e; subst e
    exact ⟨rfl,fun j o hj=>.inl ⟨hj,by rcases Nat.lt_or_ge j h.next with k | k; exact .inl k; exact .inr k⟩⟩
  | b :: l,h,h2,e=>by
    simp only [graftN] at e
    split at e
    · rename_i o1 ho1
      obtain ⟨hown,e⟩:=cond_some e
      split at e
      · rename_i o hmv
        obtain ⟨k1,k2⟩:=graftN_get l _ _ e
        rw [Heap.next_new] at k1
        refine ⟨by rw [k1,List.length_cons]; omega,fun j o' hj=>?_⟩
        rcases k2 j o' hj with ⟨k3,k4⟩ | ⟨i,b',o1',k3,k4,k5,k6,k7⟩
        · rw [Heap.get_new] at k3
          rw [Heap.next_new] at k4
          by_cases hjn:j=h.next
          · rw [if_pos hjn] at k3; cases k3
            exact .inr ⟨0,b,o1,rfl,by omega,ho1,hown,hmv⟩
          · rw [if_neg hjn] at k3
            exact .inl ⟨k3,by rw [List.length_cons]; omega⟩
        · rw [Heap.next_new] at k4
          exact .inr ⟨i + 1,b',o1',by simpa using k3,by omega,k5,k6,k7⟩
      · cases e
    · cases e
theorem graftO_get {n : Nat} {g : Nat → Option Nat} {h1 : Heap} : ∀ (l : List Nat) (h : Heap), (graftO n g h1 l h).next = h.next ∧ ∀ j o, (graftO n g h1 l h).get j = some o →
    (h.get j=some o∧j ∉ l) ∨ (j ∈ l∧(o=.dead ∨ ∃ o1,h1.get j=some o1∧moved n g o1=some o))
  | [],h=>⟨rfl,fun j o hj=>.inl ⟨hj,List.not_mem_nil⟩⟩
  | b :: l,h=>by
    simp only [graftO]
    generalize hx:(match h1.get b with
    | some o1=>(match moved n g o1 with
      | some o=>o
      | none=>AObj.dead)
    | none=>.dead)=x
    have hx':x=.dead ∨ ∃ o1,h1.get b=some o1∧moved n g o1=some x:=by
      rw [← hx]
      cases h2:h1.get b with
      | none=>exact .inl rfl
      | some o1 =>
        cases h3:moved n g o1 with
        | none=>exact .inl (by simp only [h3])
        | some o=>exact .inr ⟨o1,rfl,by simp only [h3]⟩
    obtain ⟨k1,k2⟩:=graftO_get (n:=n) (g:=g) (h1:=h1) l (h.put b x)
    refine ⟨k1,fun j o hj=>?_⟩
    rcases k2 j o hj with ⟨k3,k4⟩ | ⟨k3,k4⟩
    · rw [Heap.get_put] at k3
      by_cases hjb:j=b
      · subst hjb
        rw [if_pos rfl] at k3; cases k3
        exact .inr ⟨List.mem_cons_self,hx'⟩
      · rw [if_neg hjb] at k3
        exact .inl ⟨k3,fun h=>(List.mem_cons.1 h).elim hjb k4⟩
    · exact .inr ⟨List.mem_cons_of_mem _ k3,k4⟩
theorem moved_own {n:Nat} {g:Nat→Option Nat} {o1 o:AObj} (h:moved n g o1=some o):ownO o=ownO o1∧roO o=roO o1:=by
  unfold moved at h
  cases hi:idsO n o1 with
  | true=>rw [hi,cond_true] at h; cases h; exact ⟨rfl,rfl⟩
  | false =>
    rw [hi,cond_false] at h
    split at h
    · split at h
      · cases h; exact ⟨rfl,rfl⟩
      · cases h
    · cases h
theorem moved_ok {p : Par} {n : Nat} {g : Nat → Option Nat} {E1 E2 : Env} (hR : RelB g E1 E2) (hσ : ∀ b, b < n → E2.σ b = E1.σ b ∧ (E1.σ b ≠ none → E2.κ b = E1.κ b)) {o1 o : AObj} {b j : Nat} {heap : Array Obj} (h : moved n g o1 = some o)
    (hb:∀ q,E1.σ b=some q→E2.σ j=some q∧E2.κ j=E1.κ b) (ho:objOk p E1 b o1 heap):objOk p E2 j o heap:=by
  unfold moved at h
  cases hi:idsO n o1 with
  | true=>rw [hi,cond_true] at h; cases h; exact ho.ids hR.ρ hσ hi hb
  | false =>
    rw [hi,cond_false] at h
    split at h
    · split at h
      · rename_i cs el own ext cs' hcs
        cases h
        obtain ⟨c,base,vs,cells,el',fz,k1,k2,k3,k4,k5⟩:=ho
        exact ⟨c,base,vs,cells,el',fz,(hb _ k1).1,rnL_ok hR _ _ _ hcs k2,k3,k4,by rw [(hb _ k1).2]; exact k5⟩
      · cases h
    · cases h
def Env.cut (n:Nat) (E:Env):Env:=⟨E.ρ,fun b=>if b < n then E.σ b else none,E.κ,n,fun _=>#[]⟩
def envG (E E1:Env) (k:Nat) (news:List Nat):Env :=
  ⟨E.ρ,fun b=>if b < k then E.σ b else match news[b - k]? with | some c=>E1.σ c | none=>none,fun b=>if b < k then E.κ b else match news[b - k]? with | some c=>E1.κ c | none=>0,k + news.length,E.rc⟩
theorem HeapOk.graft {p : Par} {E E1 : Env} {h hv h1 h2 : Heap} {w0 b1 : Base} {w w' : World} {n : Nat} {news owns : List Nat}
    (HH:HeapOk p E h w0 w) (hsub:∀ b o,hv.get b=some o→∃ o',h.get b=some o'∧(ownO o=true→ownO o'=true)) (hvn:∀ b o,hv.get b=some o→b < n) (hn:n≤h.next)
    (howns:∀ b,b ∈ owns ↔ ∃ o,hv.get b=some o∧ownO o=true)
    (hb1:b1.w=w) (hS:∀ c,b1.S c ↔ c < w.heap.size∧∀ b ∈ owns,∀ x,E.σ b ≠ some (c,x))
    (H1:HeapOk p E1 h1 b1 w') (hle:(E.cut n).le E1) (hrise:risesL n news=true)
    (e2:graftN n (nameG n h.next news) h1 news h=some h2) :
    E.le (envG E E1 h.next news)∧RelB (nameG n h.next news) E1 (envG E E1 h.next news)∧HeapOk p (envG E E1 h.next news) (graftO n (nameG n h.next news) h1 owns h2) w0 w':=by
  let F:=envG E E1 h.next news
  have hfr:∀ b q,E.σ b=some q→b < h.next:=fun b q e=>by
    rcases Nat.lt_or_ge b h.next with k | k
    · exact k
    · rw [HH.fresh b k] at e; cases e
  have h1000:1000≤h.next:=by
    rcases Nat.lt_or_ge h.next 1000 with k | k
    · have:=HH.glob h.next k; rw [HH.fresh _ (Nat.le_refl _)] at this; cases this
    · exact k
  have hσ0:∀ b,b < h.next→F.σ b=E.σ b:=fun b hb=>by simp only [F,envG,if_pos hb]
  have hκ0:∀ b,b < h.next→F.κ b=E.κ b:=fun b hb=>by simp only [F,envG,if_pos hb]
  have hσ1:∀ i b,news[i]?=some b→F.σ (h.next + i)=E1.σ b∧F.κ (h.next + i)=E1.κ b:=fun i b hq=>by
    simp only [F,envG,if_neg (show ¬ h.next + i < h.next by omega),Nat.add_sub_cancel_left,hq,and_self]
  have hσ2:∀ b,h.next + news.length≤b→F.σ b=none:=fun b hb=>by
    simp only [F,envG,if_neg (show ¬ b < h.next by omega)]
    rw [List.getElem?_eq_none (by omega)]
  have hEle:E.le F:=by
    refine ⟨⟨rfl,fun b q e=>by rw [hσ0 b (hfr b q e)]; exact e,fun b q e=>hκ0 b (hfr b q e),fun _ _ _=>rfl⟩,?_,fun b hb e=>?_⟩
    · have:=HH.nx; simp only [F,envG]; omega
    · rw [hσ0 b (Nat.lt_of_lt_of_le hb HH.nx)]; exact e
  have hlow:∀ b,b < n→E1.σ b=E.σ b∧(E.σ b ≠ none→E1.κ b=E.κ b):=fun b hb=>by
    have hc:(E.cut n).σ b=E.σ b:=by simp only [Env.cut,if_pos hb]
    cases hs:E.σ b with
    | none=>exact ⟨hle.none b hb (hc.trans hs),fun h=>absurd rfl h⟩
    | some q=>exact ⟨hle.σ b q (hc.trans hs),fun _=>hle.κ b q (hc.trans hs)⟩
  have hlowF:∀ b,b < n→F.σ b=E1.σ b∧(E1.σ b ≠ none→F.κ b=E1.κ b):=fun b hb=>by
    have hbn:b < h.next:=by omega
    refine ⟨(hσ0 b hbn).trans (hlow b hb).1.symm,fun hne=>?_⟩
    rw [hκ0 b hbn]
    rw [(hlow b hb).1] at hne
    exact ((hlow b hb).2 hne).symm
  have hρ:F.ρ=E1.ρ:=hle.ρ.symm
  have hR:RelB (nameG n h.next news) E1 F:=by
    refine ⟨hρ,fun b c q hb hq=>?_⟩
    rcases Nat.lt_or_ge b n with hbn | hbn
    · rw [nameG_lt hbn] at hb; cases hb
      obtain ⟨a1,a2⟩:=hlowF b hbn
      exact ⟨a1.trans hq,a2 (by rw [hq]; exact Option.some_ne_none _)⟩
    · obtain ⟨i,k1,k2⟩:=nameG_ge hbn hb
      subst k2
      obtain ⟨a1,a2⟩:=hσ1 i b k1
      exact ⟨a1.trans hq,a2⟩
  obtain ⟨n1,n2⟩:=graftN_get _ _ _ e2
  obtain ⟨m1,m2⟩:=graftO_get (n:=n) (g:=nameG n h.next news) (h1:=h1) owns h2
  have ownlt:∀ b ∈ owns,b < n:=fun b hb=>by obtain ⟨o,h1,_⟩:=(howns b).1 hb; exact hvn b o h1
  have kinds : ∀ j o, (graftO n (nameG n h.next news) h1 owns h2).get j = some o →
      (h.get j=some o∧j ∉ owns) ∨ (j ∈ owns∧j < n∧(o=.dead ∨ ∃ o1,h1.get j=some o1∧moved n (nameG n h.next news) o1=some o)) ∨
      ∃ i b o1,news[i]?=some b∧j=h.next + i∧n≤b∧h1.get b=some o1∧ownO o1=true∧moved n (nameG n h.next news) o1=some o:=fun j o hj=>by
    rcases m2 j o hj with ⟨k1,k2⟩ | ⟨k1,k2⟩
    · rcases n2 j o k1 with ⟨k3,_⟩ | ⟨i,b,o1,k3,k4,k5,k6,k7⟩
      · exact .inl ⟨k3,k2⟩
      · exact .inr (.inr ⟨i,b,o1,k3,k4,risesL_ge _ _ hrise b (List.mem_of_getElem? k3),k5,k6,k7⟩)
    · exact .inr (.inl ⟨k1,ownlt j k1,k2⟩)
  have clear:∀ j o c x,h.get j=some o→j ∉ owns→(ownO o=true ∨ roO o=true)→E.σ j=some (c,x)→b1.S c:=fun j o c x g hno hk hs=>by
    refine (hS c).2 ⟨HH.lt _ _ _ _ g hs,fun b hb y hy=>?_⟩
    obtain ⟨o',k1,k2⟩:=(howns b).1 hb
    obtain ⟨o2,k3,k4⟩:=hsub _ _ k1
    rcases hk with hk | hk
    · have:=HH.inj _ _ _ _ _ _ _ k3 g (k4 k2) hk hy hs
      subst this; exact hno hb
    · exact HH.base _ _ _ _ k3 (k4 k2) hy (HH.ro _ _ _ _ g hk hs)
  have w0S:∀ c,w0.S c→b1.S c:=fun c hc=>(hS c).2 ⟨HH.below.lt hc,fun b hb y hy=>by
    obtain ⟨o',k1,k2⟩:=(howns b).1 hb
    obtain ⟨o2,k3,k4⟩:=hsub _ _ k1
    exact HH.base _ _ _ _ k3 (k4 k2) hy hc⟩
  have kept:Kept b1.S w w':=hb1 ▸ H1.below
  refine ⟨hEle,hR,⟨fun j o hj=>?_,fun j j' o o' c x y g1 g2 w1 w2 s1 s2=>?_,fun j o c x hj hw s hc=>?_,fun j o c y hj hr s=>?_,fun b hb=>?_,fun j o c x hj s=>?_,fun b hb=>?_,?_,?_,HH.ok⟩⟩
  · rcases kinds j o hj with ⟨k1,k2⟩ | ⟨k1,k2,k3⟩ | ⟨i,b,o1,k1,k2,k3,k4,k5,k6⟩
    · refine (HH.obj j o k1).mono hEle.tole0 (fun hn=>?_) (fun c x hc hk=>kept.block c (clear j o c x k1 k2 hk hc))
      rcases Nat.lt_or_ge j h.next with hl | hl
      · rw [hσ0 j hl]; exact hn
      · rcases n2 j o (by
          rcases m2 j o hj with ⟨q1,_⟩ | ⟨q1,_⟩
          · exact q1
          · exact absurd q1 k2) with ⟨_,q3⟩ | ⟨i,b,o1,q3,q4,q5,q6,q7⟩
        · rcases q3 with q3 | q3
          · omega
          · exact hσ2 j q3
        · subst q4
          rw [(hσ1 i b q3).1]
          cases hb:E1.σ b with
          | none=>rfl
          | some q =>
            exfalso
            have:=HH.obj _ o k1
            have hno:E.σ (h.next + i)=none:=HH.fresh _ (by omega)
            have hmm:=moved_own q7
            cases o with
            | cells=>obtain ⟨c,b',vs,cl,el,fz,g1,_⟩:=this; rw [hno] at g1; cases g1
            | map=>obtain ⟨c,ms,g1,_⟩:=this; rw [hno] at g1; cases g1
            | rmap=>obtain ⟨c,ms,g1,_⟩:=this; rw [hno] at g1; cases g1
            | umap=>obtain ⟨c,es,ms,k,g1,_⟩:=this; rw [hno] at g1; cases g1
            | ucells=>obtain ⟨c,b',cl,el,fz,g1,_⟩:=this; rw [hno] at g1; cases g1
            | loop=>obtain ⟨c,d',n',kp,r,g1,_⟩:=this; rw [hno] at g1; cases g1
            | defd=>obtain ⟨c,g1,_⟩:=this; rw [hno] at g1; cases g1
            | resv =>
              unfold moved at q7
              cases hi:idsO n o1 with
              | true=>rw [hi,cond_true] at q7; cases q7; cases hi
              | false =>
                rw [hi,cond_false] at q7
                split at q7
                · split at q7 <;> cases q7
                · cases q7
            | dead=>rw [hmm.1.symm] at q6; cases q6
    · rcases k3 with rfl | ⟨o1,k3,k4⟩
      · trivial
      · exact moved_ok hR hlowF k4 (fun q hq => by
          obtain ⟨a1,a2⟩:=hlowF j k2
          exact ⟨a1.trans hq,a2 (by rw [hq]; exact Option.some_ne_none _)⟩) (H1.obj _ _ k3)
    · subst k2
      exact moved_ok hR hlowF k6 (fun q hq=>by
        obtain ⟨a1,a2⟩:=hσ1 i b k1
        exact ⟨a1.trans hq,a2⟩) (H1.obj _ _ k4)
  · -- each block has one name
    have name : ∀ j o c x, (graftO n (nameG n h.next news) h1 owns h2).get j = some o → ownO o = true → F.σ j = some (c, x) →
        (j < h.next∧h.get j=some o∧j ∉ owns∧E.σ j=some (c,x)∧b1.S c) ∨ (∃ b o1,h1.get b=some o1∧ownO o1=true∧E1.σ b=some (c,x)∧¬ b1.S c∧((b=j∧j < n) ∨ ∃ i,news[i]?=some b∧j=h.next + i∧n≤b)):=fun j o c x g hw s=>by
      rcases kinds j o g with ⟨k1,k2⟩ | ⟨k1,k2,k3⟩ | ⟨i,b,o1,k1,k2,k3,k4,k5,k6⟩
      · have hl : j < h.next := by
          rcases Nat.lt_or_ge j h.next with hl | hl
          · exact hl
          · exfalso
            have hob:=HH.obj _ o k1
            have hno:E.σ j=none:=HH.fresh _ hl
            cases o with
            | cells=>obtain ⟨c,b',vs,cl,el,fz,g1,_⟩:=hob; rw [hno] at g1; cases g1
            | map=>obtain ⟨c,ms,g1,_⟩:=hob; rw [hno] at g1; cases g1
            | rmap=>cases hw
            | umap=>obtain ⟨c,es,ms,k,g1,_⟩:=hob; rw [hno] at g1; cases g1
            | ucells=>cases hw
            | loop=>obtain ⟨c,d',n',kp,r,g1,_⟩:=hob; rw [hno] at g1; cases g1
            | defd=>obtain ⟨c,g1,_⟩:=hob; rw [hno] at g1; cases g1
            | resv =>
              rcases n2 j .resv (by
                rcases m2 j _ g with ⟨q1,_⟩ | ⟨q1,_⟩
                · exact q1
                · exact absurd q1 k2) with ⟨_,q3⟩ | ⟨i,b,o1,q3,q4,q5,q6,q7⟩
              · rcases q3 with q3 | q3
                · omega
                · rw [hσ2 j q3] at s; cases s
              · unfold moved at q7
                cases hi:idsO n o1 with
                | true=>rw [hi,cond_true] at q7; cases q7; cases hi
                | false =>
                  rw [hi,cond_false] at q7
                  split at q7
                  · split at q7 <;> cases q7
                  · cases q7
            | dead=>cases hw
        rw [hσ0 j hl] at s
        exact .inl ⟨hl,k1,k2,s,clear j o c x k1 k2 (.inl hw) s⟩
      · rcases k3 with rfl | ⟨o1,k3,k4⟩
        · cases hw
        · have hw1:ownO o1=true:=(moved_own k4).1.symm.trans hw
          have hs:E1.σ j=some (c,x):=(hlowF j k2).1.symm.trans s
          exact .inr ⟨j,o1,k3,hw1,hs,H1.base _ _ _ _ k3 hw1 hs,.inl ⟨rfl,k2⟩⟩
      · subst k2
        rw [(hσ1 i b k1).1] at s
        exact .inr ⟨b,o1,k4,k5,s,H1.base _ _ _ _ k4 k5 s,.inr ⟨i,k1,rfl,k3⟩⟩
    rcases name j o c x g1 w1 s1 with ⟨a1,a2,a3,a4,a5⟩ | ⟨b,o1,a1,a2,a3,a4,a5⟩
    · rcases name j' o' c y g2 w2 s2 with ⟨c1,c2,c3,c4,c5⟩ | ⟨b',o1',c1,c2,c3,c4,c5⟩
      · exact HH.inj _ _ _ _ _ _ _ a2 c2 w1 w2 a4 c4
      · exact absurd a5 c4
    · rcases name j' o' c y g2 w2 s2 with ⟨c1,c2,c3,c4,c5⟩ | ⟨b',o1',c1,c2,c3,c4,c5⟩
      · exact absurd c5 a4
      · have hbb:=H1.inj _ _ _ _ _ _ _ a1 c1 a2 c2 a3 c3
        subst hbb
        rcases a5 with ⟨rfl,a6⟩ | ⟨i,a6,a7,a8⟩
        · rcases c5 with ⟨rfl,_⟩ | ⟨i',_,_,c8⟩
          · rfl
          · omega
        · rcases c5 with ⟨rfl,c6⟩ | ⟨i',c6,c7,_⟩
          · omega
          · rw [a7,c7,risesL_inj _ _ hrise i i' b a6 c6]
  · rcases kinds j o hj with ⟨k1,k2⟩ | ⟨k1,k2,k3⟩ | ⟨i,b,o1,k1,k2,k3,k4,k5,k6⟩
    · rcases Nat.lt_or_ge j h.next with hl | hl
      · rw [hσ0 j hl] at s; exact HH.base _ _ _ _ k1 hw s hc
      · rcases n2 j o (by
          rcases m2 j o hj with ⟨q1,_⟩ | ⟨q1,_⟩
          · exact q1
          · exact absurd q1 k2) with ⟨_,q3⟩ | ⟨i,b,o1,q3,q4,q5,q6,q7⟩
        · rcases q3 with q3 | q3
          · omega
          · rw [hσ2 j q3] at s; cases s
        · subst q4
          rw [(hσ1 i b q3).1] at s
          exact H1.base _ _ _ _ q5 q6 s (w0S c hc)
    · rcases k3 with rfl | ⟨o1,k3,k4⟩
      · cases hw
      · have hw1:ownO o1=true:=(moved_own k4).1.symm.trans hw
        have hs:E1.σ j=some (c,x):=(hlowF j k2).1.symm.trans s
        exact H1.base _ _ _ _ k3 hw1 hs (w0S c hc)
    · subst k2
      rw [(hσ1 i b k1).1] at s
      exact H1.base _ _ _ _ k4 k5 s (w0S c hc)
  · rcases kinds j o hj with ⟨k1,k2⟩ | ⟨k1,k2,k3⟩ | ⟨i,b,o1,k1,k2,k3,k4,k5,k6⟩
    · rcases Nat.lt_or_ge j h.next with hl | hl
      · rw [hσ0 j hl] at s; exact HH.ro _ _ _ _ k1 hr s
      · rcases n2 j o (by
          rcases m2 j o hj with ⟨q1,_⟩ | ⟨q1,_⟩
          · exact q1
          · exact absurd q1 k2) with ⟨_,q3⟩ | ⟨i,b,o1,q3,q4,q5,q6,q7⟩
        · rcases q3 with q3 | q3
          · omega
          · rw [hσ2 j q3] at s; cases s
        · have:=moved_own q7
          rw [roO_own (this.1.trans q6)] at hr; cases hr
    · rcases k3 with rfl | ⟨o1,k3,k4⟩
      · cases hr
      · -- what may be written is not what is only read
        have hr1:roO o1=true:=(moved_own k4).2.symm.trans hr
        have hs:E1.σ j=some (c,y):=(hlowF j k2).1.symm.trans s
        have hS1:=H1.ro _ _ _ _ k3 hr1 hs
        exact absurd ((hlow j k2).1.symm.trans hs) (((hS c).1 hS1).2 j k1 y)
    · have:=moved_own k6
      rw [roO_own (this.1.trans k5)] at hr; cases hr
  · rw [m1,n1] at hb; exact hσ2 b hb
  · rcases kinds j o hj with ⟨k1,k2⟩ | ⟨k1,k2,k3⟩ | ⟨i,b,o1,k1,k2,k3,k4,k5,k6⟩
    · rcases Nat.lt_or_ge j h.next with hl | hl
      · rw [hσ0 j hl] at s; exact Nat.lt_of_lt_of_le (HH.lt _ _ _ _ k1 s) kept.size
      · rcases n2 j o (by
          rcases m2 j o hj with ⟨q1,_⟩ | ⟨q1,_⟩
          · exact q1
          · exact absurd q1 k2) with ⟨_,q3⟩ | ⟨i,b,o1,q3,q4,q5,q6,q7⟩
        · rcases q3 with q3 | q3
          · omega
          · rw [hσ2 j q3] at s; cases s
        · subst q4
          rw [(hσ1 i b q3).1] at s
          exact H1.lt _ _ _ _ q5 s
    · rcases k3 with rfl | ⟨o1,k3,k4⟩
      · obtain ⟨o',q1,_⟩:=(howns j).1 k1
        obtain ⟨o2,k3,_⟩:=hsub _ _ q1
        rw [hσ0 j (by omega)] at s
        exact Nat.lt_of_lt_of_le (HH.lt _ _ _ _ k3 s) kept.size
      · exact H1.lt _ _ _ _ k3 ((hlowF j k2).1.symm.trans s)
    · subst k2
      rw [(hσ1 i b k1).1] at s
      exact H1.lt _ _ _ _ k4 s
  · rw [hσ0 b (by omega)]; exact HH.glob b hb
  · exact HH.below.trans ⟨kept.os,kept.tape,kept.output,kept.size,fun c hc=>kept.block c (w0S c hc)⟩
  · rw [m1,n1]; exact Nat.le_refl _
end Go.Sx
namespace Go.Sx
open Go.RowKit
noncomputable def viewA (n:Nat):List (Nat × AObj)→Heap
  | []=>⟨.nil,n⟩
  | g :: l=>(viewA n l).put g.1 g.2
theorem viewA_next (n:Nat):∀ l,(viewA n l).next=n
  | []=>rfl
  | g :: l=>by rw [viewA,Heap.next_put]; exact viewA_next n l
theorem viewA_get (n:Nat):∀ (l:List (Nat × AObj)) (b:Nat) (o:AObj),(viewA n l).get b=some o→(b,o) ∈ l
  | [],b,o,h=>by
    have:(PT.nil:PT AObj).get b=some o:=h
    rw [PT.get_nil] at this; cases this
  | g :: l,b,o,h=>by
    rw [viewA,Heap.get_put] at h
    by_cases c:b=g.1
    · rw [if_pos c] at h; cases h; rw [c]; exact List.mem_cons_self
    · rw [if_neg c] at h; exact List.mem_cons_of_mem _ (viewA_get n l b o h)
def upA (n:Nat):List (Nat × AObj)→Bool
  | []=>true
  | g :: l=>and (Nat.ble n g.1) (upA (g.1 + 1) l)
theorem upA_ge:∀ (l:List (Nat × AObj)) (n:Nat),upA n l=true→∀ g ∈ l,n≤g.1
  | [],_,_,g,hg=>(List.not_mem_nil hg).elim
  | a :: l,n,h,g,hg=>by
    simp only [upA,Bool.and_eq_true] at h
    have h1:=ble_t.1 h.1
    rcases List.mem_cons.1 hg with rfl | hg
    · exact h1
    · have:=upA_ge l _ h.2 g hg; omega
theorem viewA_mem (k:Nat):∀ (l:List (Nat × AObj)) (n:Nat),upA n l=true→∀ g ∈ l,(viewA k l).get g.1=some g.2
  | [],_,_,g,hg=>(List.not_mem_nil hg).elim
  | a :: l,n,h,g,hg=>by
    simp only [upA,Bool.and_eq_true] at h
    rw [viewA,Heap.get_put]
    rcases List.mem_cons.1 hg with rfl | hg
    · rw [if_pos rfl]
    · have:=upA_ge l _ h.2 g hg
      rw [if_neg (by omega)]
      exact viewA_mem k l _ h.2 g hg
def ownsOf:List (Nat × AObj)→List Nat
  | []=>[]
  | g :: l=>cond (ownO g.2) (g.1 :: ownsOf l) (ownsOf l)
theorem mem_ownsOf:∀ (l:List (Nat × AObj)) (b:Nat),b ∈ ownsOf l ↔ ∃ o,(b,o) ∈ l∧ownO o=true
  | [],b=>⟨fun h=>(List.not_mem_nil h).elim,fun ⟨_,h,_⟩=>(List.not_mem_nil h).elim⟩
  | g :: l,b=>by
    simp only [ownsOf]
    cases hg:ownO g.2 with
    | true =>
      rw [cond_true,List.mem_cons,mem_ownsOf l b]
      constructor
      · rintro (rfl | ⟨o,h1,h2⟩)
        · exact ⟨g.2,List.mem_cons_self,hg⟩
        · exact ⟨o,List.mem_cons_of_mem _ h1,h2⟩
      · rintro ⟨o,h1,h2⟩
        rcases List.mem_cons.1 h1 with h | h
        · exact .inl (congrArg Prod.fst h)
        · exact .inr ⟨o,h,h2⟩
    | false =>
      rw [cond_false,mem_ownsOf l b]
      constructor
      · rintro ⟨o,h1,h2⟩; exact ⟨o,List.mem_cons_of_mem _ h1,h2⟩
      · rintro ⟨o,h1,h2⟩
        rcases List.mem_cons.1 h1 with h | h
        · have:o=g.2:=congrArg Prod.snd h
          subst this; rw [hg] at h2; cases h2
        · exact ⟨o,h,h2⟩
inductive Less:AObj→AObj→Prop where
  | refl (o:AObj):Less o o
  | read (cs:List AV) (el:TypeId) (own ext:Bool):Less (.cells cs 0 false false) (.cells cs el own ext)
  | dull (m:MU):Less (.umap m.dull) (.umap m)
theorem Less.own {o o':AObj} (h:Less o o'):ownO o=true→ownO o'=true:=by cases h <;> intro k <;> first | exact k | cases k
theorem Less.kinds {o o':AObj} (h:Less o o'):roO o=true→ownO o'=true ∨ roO o'=true:=by
  cases h with
  | refl=>exact fun h=>.inr h
  | read cs el own ext=>intro _; cases own; exact .inr rfl; exact .inl rfl
  | dull m=>intro h; cases h
theorem Less.obj {o o':AObj} (h:Less o o') {p:Par} {E:Env} {b:Nat} {heap:Array Obj} (k:objOk p E b o' heap):objOk p E b o heap:=by
  cases h with
  | refl=>exact k
  | read cs el own ext =>
    obtain ⟨c,base,vs,cells,el',fz,k1,k2,k3,k4,k5⟩:=k
    exact ⟨c,base,vs,cells,el',fz,k1,k2,k3,k4,fun h=>by cases h⟩
  | dull m =>
    obtain ⟨c,es,ms,clock,k1,k2,k3,k4⟩:=k
    exact ⟨c,es,ms,clock,k1,k2,k3,k4.1,fun h=>by cases h⟩
noncomputable def graftV (n:Nat) (g:Nat→Option Nat) (v:AV):Option AV:=cond (idsLt n v) (some v) (rnV g v)
noncomputable def graftT (n:Nat) (l:List (Nat × AObj)) (h:Heap) (news:List Nat) (r:AV × Heap):T (AV × Heap) :=
  cond (risesL n news) (match graftN n (nameG n h.next news) r.2 news h with
  | some h2=>(match graftV n (nameG n h.next news) r.1 with
    | some v=>.ret (v,graftO n (nameG n h.next news) r.2 (ownsOf l) h2)
    | none=>.fail 98)
  | none=>.fail 98) (.fail 98)
noncomputable def viewOk (n:Nat) (l:List (Nat × AObj)):Bool:=and (upA 0 l) (lAll (fun g:Nat × AObj=>and (Nat.ble (g.1 + 1) n) (idsO n g.2)) l)
theorem view_heapOk {p : Par} {E : Env} {h : Heap} {w0 : Base} {w : World} {n : Nat} {l : List (Nat × AObj)} (HH : HeapOk p E h w0 w) (hv : viewOk n l = true) (_ : n ≤ h.next) (h1000 : 1000 ≤ n)
    (hl:∀ g ∈ l,∃ o,h.get g.1=some o∧Less g.2 o) (b1:Base) (hb1:b1=⟨w,fun c=>c < w.heap.size∧∀ b ∈ ownsOf l,∀ x,E.σ b ≠ some (c,x),fun _ h=>h.1⟩):HeapOk p (E.cut n) (viewA n l) b1 w:=by
  subst hb1
  unfold viewOk at hv
  simp only [Bool.and_eq_true] at hv
  obtain ⟨hup,hall⟩:=hv
  have hσ:∀ b,b < n→(E.cut n).σ b=E.σ b∧(E.σ b ≠ none→(E.cut n).κ b=E.κ b):=fun b hb=>⟨by simp only [Env.cut,if_pos hb],fun _=>rfl⟩
  have inl:∀ g ∈ l,g.1 < n∧idsO n g.2=true:=fun g hg=>by
    have:=lAll_mem hall g hg
    simp only [Bool.and_eq_true] at this
    exact ⟨ble_t.1 this.1,this.2⟩
  have cutσ:∀ b q,(E.cut n).σ b=some q→b < n∧E.σ b=some q:=fun b q e=>by
    simp only [Env.cut] at e
    split at e
    · rename_i hb; exact ⟨hb,e⟩
    · cases e
  have lt:∀ b o c x,(viewA n l).get b=some o→(E.cut n).σ b=some (c,x)→c < w.heap.size:=fun b o c x g s=>by
    obtain ⟨o',h1,_⟩:=hl _ (viewA_get _ _ _ _ g)
    exact HH.lt _ _ _ _ h1 (cutσ _ _ s).2
  have owns:∀ b ∈ ownsOf l,∃ o',h.get b=some o'∧ownO o'=true:=fun b hb=>by
    obtain ⟨o,h1,h2⟩:=(mem_ownsOf l b).1 hb
    obtain ⟨o',h3,h4⟩:=hl _ h1
    exact ⟨o',h3,h4.own h2⟩
  refine ⟨fun b o g=>?_,fun b b' o o' c x y g1 g2 w1 w2 s1 s2=>?_,fun b o c x g hw s hc=>?_,fun b o c y g hr s=>?_,fun b hb=>?_,lt,fun b hb=>?_,Kept.refl _ _,(by rw [viewA_next]; exact Nat.le_refl _),HH.ok.mono fun c o e'=>⟨⟨HH.below.lt e'.1,fun b hb x hx=>?_⟩,Base.Keeps.has HH.below e'⟩⟩
  · have hm:=viewA_get _ _ _ _ g
    obtain ⟨o',h1,h2⟩:=hl _ hm
    obtain ⟨h3,h4⟩:=inl _ hm
    have hb:objOk p E b o w.heap:=h2.obj (HH.obj _ _ h1)
    exact objOk.ids (E:=E) (E':=E.cut n) rfl hσ h4 (fun q hq=>⟨(hσ b h3).1.trans hq,rfl⟩) hb
  · obtain ⟨o1,h1,h2⟩:=hl _ (viewA_get _ _ _ _ g1)
    obtain ⟨o2,h3,h4⟩:=hl _ (viewA_get _ _ _ _ g2)
    exact HH.inj _ _ _ _ _ _ _ h1 h3 (h2.own w1) (h4.own w2) (cutσ _ _ s1).2 (cutσ _ _ s2).2
  · exact hc.2 b ((mem_ownsOf l b).2 ⟨o,viewA_get _ _ _ _ g,hw⟩) x (cutσ _ _ s).2
  · refine ⟨lt _ _ _ _ g s,fun b' hb' x hx=>?_⟩
    have hm:=viewA_get _ _ _ _ g
    obtain ⟨o1,h1,h2⟩:=hl _ hm
    obtain ⟨o2,h3,h4⟩:=owns b' hb'
    rcases h2.kinds hr with k | k
    · have:=HH.inj _ _ _ _ _ _ _ h1 h3 k h4 (cutσ _ _ s).2 hx
      subst this
      obtain ⟨o3,h5,h6⟩:=(mem_ownsOf l b).1 hb'
      have e1:=viewA_mem n l 0 hup _ hm
      have e2:=viewA_mem n l 0 hup _ h5
      have e3:(viewA n l).get b=some o:=e1
      have e4:(viewA n l).get b=some o3:=e2
      rw [e3] at e4; cases e4
      rw [roO_own h6] at hr; cases hr
    · exact HH.base _ _ _ _ h3 h4 hx (HH.ro _ _ _ _ h1 k (cutσ _ _ s).2)
  · rw [viewA_next] at hb
    simp only [Env.cut,if_neg (show ¬ b < n by omega)]
  · have hb':b < n:=by omega
    rw [(hσ b hb').1]; exact HH.glob b hb
  · obtain ⟨o',h3,h4⟩:=owns b hb
    exact HH.base _ _ _ _ h3 h4 hx e'.1
theorem CallOk.frame {p : Par} {f : FuncId} {args : List AV} {n : Nat} {l : List (Nat × AObj)} {t : T (AV × Heap)} (hc : CallOk p f args (viewA n l) t) (h1000 : 1000 ≤ n) (hids : idsLts n args = true) (hv : viewOk n l = true)
    {h:Heap} (hl:∀ g ∈ l,∃ o,h.get g.1=some o∧Less g.2 o) (hn:n≤h.next) (nw:AV × Heap→List Nat):CallOk p f args h (t.bind fun r=>graftT n l h (nw r) r):=by
  intro vs E w0 w Q K k HH ha P
  rw [T.holds_bind] at k
  let b1:Base:=⟨w,fun c=>c < w.heap.size∧∀ b ∈ ownsOf l,∀ x,E.σ b ≠ some (c,x),fun _ h=>h.1⟩
  have HV:=view_heapOk HH hv hn h1000 hl b1 rfl
  have hσ:∀ b,b < n→(E.cut n).σ b=E.σ b∧(E.σ b ≠ none→(E.cut n).κ b=E.κ b):=fun b hb=>⟨by simp only [Env.cut,if_pos hb],fun _=>rfl⟩
  have ha':concL (E.cut n) args=some vs:=by rw [concL_ids (E:=E) (E':=E.cut n) rfl hσ args hids]; exact ha
  unfold viewOk at hv
  simp only [Bool.and_eq_true] at hv
  obtain ⟨hup,hall⟩:=hv
  refine hc vs (E.cut n) b1 w _ K k HV ha' ?_
  intro v' h1 E1 w' cv q hle H1 hcv
  unfold graftT at q
  cases hr:risesL n (nw (v',h1)) with
  | false=>rw [hr] at q; exact q.elim
  | true =>
    rw [hr,cond_true] at q
    split at q
    · rename_i h2 e2
      split at q
      · rename_i v ev
        have key := HH.graft (hv := viewA n l) (owns := ownsOf l) (fun b o g => by
            obtain ⟨o',k1,k2⟩:=hl _ (viewA_get _ _ _ _ g)
            exact ⟨o',k1,k2.own⟩) (fun b o g=>by
            have:=lAll_mem hall _ (viewA_get _ _ _ _ g)
            simp only [Bool.and_eq_true] at this
            exact ble_t.1 this.1) hn (fun b=>by
            rw [mem_ownsOf]
            exact ⟨fun ⟨o,k1,k2⟩=>⟨o,viewA_mem n l 0 hup _ k1,k2⟩,fun ⟨o,k1,k2⟩=>⟨o,viewA_get _ _ _ _ k1,k2⟩⟩) (b1:=b1) rfl (fun c=>Iff.rfl) H1 hle hr e2
        obtain ⟨z1,z2,z3⟩:=key
        refine P v _ _ w' cv q z1 z3 ?_
        unfold graftV at ev
        cases hi:idsLt n v' with
        | true =>
          rw [hi,cond_true] at ev; cases ev
          have low:∀ b,b < n→(envG E E1 h.next (nw (v',h1))).σ b=E1.σ b∧(E1.σ b ≠ none→(envG E E1 h.next (nw (v',h1))).κ b=E1.κ b):=fun b hb=>by
            have hbn:b < h.next:=by omega
            have hcs:(E.cut n).σ b=E.σ b:=(hσ b hb).1
            have e1:(envG E E1 h.next (nw (v',h1))).σ b=E.σ b:=by simp only [envG,if_pos hbn]
            have e2:(envG E E1 h.next (nw (v',h1))).κ b=E.κ b:=by simp only [envG,if_pos hbn]
            cases hs:E.σ b with
            | none=>exact ⟨by rw [e1,hs,hle.none b hb (hcs.trans hs)],fun hne=>absurd (hle.none b hb (hcs.trans hs)) hne⟩
            | some q=>exact ⟨by rw [e1,hs,hle.σ b q (hcs.trans hs)],fun _=>by rw [e2]; exact (hle.κ b q (hcs.trans hs)).symm⟩
          rw [conc_ids (E:=E1) (E':=envG E E1 h.next (nw (v',h1))) z2.ρ low v' hi]
          exact hcv
        | false =>
          rw [hi,cond_false] at ev
          exact rnV_ok z2 _ _ _ ev hcv
      · exact q.elim
    · exact q.elim
def SameA (p0 p:Par) (ρ0:Rho) (o0:AObj) (ρ:Rho) (o:AObj):Prop :=
  (ownO o=true→ownO o0=true)∧(roO o=true→roO o0=true)∧∀ σ κ n rc heap b,objOk p0 ⟨ρ0,σ,κ,n,rc⟩ b o0 heap→objOk p ⟨ρ,σ,κ,n,rc⟩ b o heap
def SameH (p0 p:Par) (ρ0:Rho) (h0:Heap) (ρ:Rho) (h:Heap):Prop:=h0.next=h.next∧∀ b o,h.get b=some o→∃ o0,h0.get b=some o0∧SameA p0 p ρ0 o0 ρ o
theorem HeapOk.read {p0 p:Par} {ρ0 ρ:Rho} {σ:Nat→Option (Nat × Nat)} {κ:Nat→Nat} {n:Nat} {rc:Nat→Array Value} {h0 h:Heap} {w0:Base} {w:World} (H:HeapOk p0 ⟨ρ0,σ,κ,n,rc⟩ h0 w0 w) (S:SameH p0 p ρ0 h0 ρ h) (hok:p.okB ρ w0):HeapOk p ⟨ρ,σ,κ,n,rc⟩ h w0 w:=by
  obtain ⟨sn,so⟩:=S
  refine ⟨fun b o g=>?_,fun b b' o o' c x y g1 g2 w1 w2 s1 s2=>?_,fun b o c x g hw s=>?_,fun b o c y g hr s=>?_,fun b hb=>H.fresh b (by rw [sn]; exact hb),fun b o c x g s=>?_,H.glob,H.below,by rw [← sn]; exact H.nx,hok⟩
  · obtain ⟨o0,g0,_,_,k⟩:=so b o g
    exact k σ κ n rc w.heap b (H.obj b o0 g0)
  · obtain ⟨o0,a1,a2,_⟩:=so b o g1
    obtain ⟨o0',c1,c2,_⟩:=so b' o' g2
    exact H.inj _ _ _ _ _ _ _ a1 c1 (a2 w1) (c2 w2) s1 s2
  · obtain ⟨o0,a1,a2,_⟩:=so b o g
    exact H.base _ _ _ _ a1 (a2 hw) s
  · obtain ⟨o0,a1,_,a3,_⟩:=so b o g
    exact H.ro _ _ _ _ a1 (a3 hr) s
  · obtain ⟨o0,a1,_⟩:=so b o g
    exact H.lt _ _ _ _ a1 s
theorem CallOk.read {p0 p : Par} (hP : p0.P = p.P) {f : FuncId} {args0 args : List AV} {h0 h : Heap} {t0 t : T (AV × Heap)} (hc : CallOk p0 f args0 h0 t0)
    (H:∀ ρ b,p.okB ρ b→∀ Q:AV × Heap→Prop,t.Holds ρ Q→∃ ρ',p0.okB ρ' b∧SameL ρ args ρ' args0∧SameH p p0 ρ h ρ' h0∧t0.Holds ρ' fun r0=>∃ r,Q r∧SameV ρ' r0.1 ρ r.1∧SameH p0 p ρ' r0.2 ρ r.2):CallOk p f args h t:=by
  intro vs E w0 w Q K k HH ha P
  obtain ⟨ρ',hok,hargs,hh,ht⟩:=H E.ρ w0 HH.ok Q k
  have HH0:HeapOk p0 ⟨ρ',E.σ,E.κ,E.n,E.rc⟩ h0 w0 w:=HeapOk.read (ρ0:=E.ρ) (σ:=E.σ) (κ:=E.κ) (n:=E.n) (rc:=E.rc) HH hh hok
  have ha0:concL ⟨ρ',E.σ,E.κ,E.n,E.rc⟩ args0=some vs:=by
    rw [← hargs E.σ E.κ E.n E.n E.rc E.rc]; exact ha
  have key:=hc vs ⟨ρ',E.σ,E.κ,E.n,E.rc⟩ w0 w _ K ht HH0 ha0 (fun v' h' E1 w' cv q hle H1 hcv=>by
    obtain ⟨r,hq,hv,hs⟩:=q
    have hρ1:E1.ρ=ρ':=hle.ρ
    have H2:HeapOk p ⟨E.ρ,E1.σ,E1.κ,E1.n,E1.rc⟩ r.2 w0 w':=HeapOk.read (ρ0:=ρ') (σ:=E1.σ) (κ:=E1.κ) (n:=E1.n) (rc:=E1.rc) (by rw [← hρ1]; exact H1) hs HH.ok
    refine P r.1 r.2 ⟨E.ρ,E1.σ,E1.κ,E1.n,E1.rc⟩ w' cv hq ⟨⟨rfl,hle.σ,hle.κ,hle.rc⟩,hle.n,hle.none⟩ H2 ?_
    have:=hv E1.σ E1.κ E1.n E1.n E1.rc E1.rc
    rw [← this,← hρ1]; exact hcv)
  rw [hP] at key
  exact key
end Go.Sx
namespace Go.Sx
open Go.RowKit
def mvN (a c b:Nat):Nat:=if b=a then c else b
def Env.mv (a c n:Nat) (E:Env):Env:=⟨E.ρ,fun b=>if b < n then E.σ (mvN a c b) else none,fun b=>E.κ (mvN a c b),n,fun _=>#[]⟩
theorem CallOk.moved {p : Par} {f : FuncId} {args0 args : List AV} {n a c : Nat} {l : List (Nat × AObj)} {v : AV} {h0 : Heap} (hc : CallOk p f args0 (viewA n l) (.ret (v, h0)))
    (h1000:1000≤n) (ha:1000≤a) (hv:idsLt 0 v=true) (hl:∀ g ∈ l,g.1 < n∧ownO g.2=false∧idsO 0 g.2=true)
    {h:Heap} (hm:∀ g ∈ l,∃ o,h.get (mvN a c g.1)=some o∧Less g.2 o) (hargs:∀ E:Env,concL (E.mv a c n) args0=concL E args):CallOk p f args h (.ret (v,h)):=by
  intro vs E w0 w Q K k HH hA P
  have k:Q (v,h):=k
  let b1:Base:=Base.of w
  have none0:∀ b,b < 0→(E.mv a c n).σ b=E.σ b∧(E.σ b ≠ none→(E.mv a c n).κ b=E.κ b):=fun b hb=>absurd hb (Nat.not_lt_zero b)
  have mvσ:∀ b q,(E.mv a c n).σ b=some q→b < n∧E.σ (mvN a c b)=some q:=fun b q e=>by
    simp only [Env.mv] at e
    split at e
    · rename_i hb; exact ⟨hb,e⟩
    · cases e
  have lt:∀ b o d x,(viewA n l).get b=some o→(E.mv a c n).σ b=some (d,x)→d < w.heap.size:=fun b o d x g s=>by
    obtain ⟨o',h1,_⟩:=hm _ (viewA_get _ _ _ _ g)
    exact HH.lt _ _ _ _ h1 (mvσ _ _ s).2
  have HV:HeapOk p (E.mv a c n) (viewA n l) b1 w:=by
    refine ⟨fun b o g=>?_,fun b b' o o' d x y g1 g2 w1 w2 s1 s2=>?_,fun b o d x g hw s hd=>?_,fun b o d y g hr s=>lt b o d y g s,fun b hb=>?_,lt,fun b hb=>?_,Kept.refl _ _,(by rw [viewA_next]; exact Nat.le_refl _),HH.ok.mono fun d o e'=>⟨HH.below.lt e'.1,Base.Keeps.has HH.below e'⟩⟩
    · have hmem:=viewA_get _ _ _ _ g
      obtain ⟨o',h1,h2⟩:=hm _ hmem
      obtain ⟨h3,_,h4⟩:=hl _ hmem
      have hb:objOk p E (mvN a c b) o w.heap:=h2.obj (HH.obj _ _ h1)
      refine objOk.ids (E:=E) (E':=E.mv a c n) rfl none0 h4 (fun q hq=>⟨?_,rfl⟩) hb
      simp only [Env.mv,if_pos h3]; exact hq
    · have:=(hl _ (viewA_get _ _ _ _ g1)).2.1
      have w1:ownO o=true:=w1
      have this:ownO o=false:=this
      rw [this] at w1; cases w1
    · have:=(hl _ (viewA_get _ _ _ _ g)).2.1
      have hw:ownO o=true:=hw
      have this:ownO o=false:=this
      rw [this] at hw; cases hw
    · rw [viewA_next] at hb
      simp only [Env.mv,if_neg (show ¬ b < n by omega)]
    · have e:mvN a c b=b:=by unfold mvN; rw [if_neg (by omega)]
      simp only [Env.mv,if_pos (show b < n by omega),e]
      exact HH.glob b hb
  refine hc vs (E.mv a c n) b1 w (fun r=>r.1=v) K rfl HV ((hargs E).trans hA) ?_
  intro v' h1 E1 w' cv q hle H1 hcv
  have q:v'=v:=q
  subst q
  refine P v' h E w' cv k (Env.le.refl E) (HH.world (Base.keeps_below H1.below)) ?_
  rw [← hcv]
  exact (conc_ids (n:=0) (E:=E1) (E':=E) hle.ρ.symm (fun b hb=>absurd hb (Nat.not_lt_zero b)) v' hv)
end Go.Sx
namespace Go.Sx
open Go.RowKit
noncomputable def eqPT:PT AV→PT AV→Bool
  | .nil,.nil=>true
  | .node none l r,.node none l' r'=>and (eqPT l l') (eqPT r r')
  | .node (some a) l r,.node (some b) l' r'=>and (eqAV a b) (and (eqPT l l') (eqPT r r'))
  | _,_=>false
theorem eqPT_eq:∀ (t u:PT AV),eqPT t u=true→t=u
  | .nil,u,h=>by cases u with | nil=>rfl | node v l r=>simp [eqPT] at h
  | .node none l r,u,h=>by
    cases u with
    | nil=>simp [eqPT] at h
    | node v l' r'=>cases v with
      | none =>
        simp only [eqPT,Bool.and_eq_true] at h
        rw [eqPT_eq l l' h.1,eqPT_eq r r' h.2]
      | some b=>simp [eqPT] at h
  | .node (some a) l r,u,h=>by
    cases u with
    | nil=>simp [eqPT] at h
    | node v l' r'=>cases v with
      | none=>simp [eqPT] at h
      | some b =>
        simp only [eqPT,Bool.and_eq_true] at h
        rw [eqAV_eq a b h.1,eqPT_eq l l' h.2.1,eqPT_eq r r' h.2.2]
def eqSt (a b:LoopState):Bool :=
  match a,b with
  | .ready,.ready=>true
  | .busy,.busy=>true
  | .done,.done=>true
  | .exhausted,.exhausted=>true
  | _,_=>false
theorem eqSt_eq {a b:LoopState} (h:eqSt a b=true):a=b:=by cases a <;> cases b <;> first | rfl | cases h
def eqEx (a b:Ex):Bool :=
  match a,b with
  | .norm,.norm=>true
  | .exit i,.exit j=>Nat.beq i j
  | .ret,.ret=>true
  | _,_=>false
theorem eqEx_eq {a b:Ex} (h:eqEx a b=true):a=b:=by
  cases a <;> cases b <;> first | rfl | (cases h; done) | (rw [beq_t.1 h])
def eqNs:List Nat→List Nat→Bool
  | [],[]=>true
  | a :: l,b :: m=>and (Nat.beq a b) (eqNs l m)
  | _,_=>false
theorem eqNs_eq:∀ (l m:List Nat),eqNs l m=true→l=m
  | [],[],_=>rfl
  | [],_ :: _,h=>by cases h
  | _ :: _,[],h=>by cases h
  | a :: l,b :: m,h=>by
    simp only [eqNs,Bool.and_eq_true] at h
    rw [beq_t.1 h.1,eqNs_eq l m h.2]
noncomputable def eqFs:List (Bool × Nat)→List (Bool × Nat)→Bool
  | [],[]=>true
  | a :: l,b :: m=>and (beqB a.1 b.1) (and (Nat.beq a.2 b.2) (eqFs l m))
  | _,_=>false
theorem eqFs_eq:∀ (l m:List (Bool × Nat)),eqFs l m=true→l=m
  | [],[],_=>rfl
  | [],_ :: _,h=>by cases h
  | _ :: _,[],h=>by cases h
  | a :: l,b :: m,h=>by
    simp only [eqFs,Bool.and_eq_true] at h
    obtain ⟨a1,a2⟩:=a; obtain ⟨b1,b2⟩:=b
    have h1:=beqB_eq h.1; have h2:=beq_t.1 h.2.1
    simp only at h1 h2
    rw [h1,h2,eqFs_eq l m h.2.2]
noncomputable def eqMU (a b:MU):Bool:=and (Nat.beq a.fb b.fb) (and (eqFs a.fi b.fi) (and (beqB a.ag b.ag) (and (Nat.beq a.nk b.nk) (beqB a.live b.live))))
theorem eqMU_eq {a b:MU} (h:eqMU a b=true):a=b:=by
  simp only [eqMU,Bool.and_eq_true] at h
  obtain ⟨h1,h2,h3,h4,h5⟩:=h
  cases a; cases b
  simp only at h1 h2 h3 h4 h5
  rw [beq_t.1 h1,eqFs_eq _ _ h2,beqB_eq h3,beq_t.1 h4,beqB_eq h5]
noncomputable def eqO (a b:AObj):Bool :=
  match a,b with
  | .cells cs el own ext,.cells cs' el' own' ext'=>and (eqAVs cs cs') (and (Nat.beq el el') (and (beqB own own') (beqB ext ext')))
  | .umap m,.umap m'=>eqMU m m'
  | .loop st p f tm ps c d,.loop st' p' f' tm' ps' c' d'=>and (eqSt st st') (and (eqEx p p') (and (Nat.beq f f') (and (eqPT tm tm') (and (eqNs ps ps') (and (Nat.beq c c') (Nat.beq d d'))))))
  | .defd a,.defd b=>beqB a b
  | _,_=>false
theorem eqO_eq {a b:AObj} (h:eqO a b=true):a=b:=by
  cases a <;> cases b <;> simp only [eqO,Bool.and_eq_true] at h <;> first | (cases h; done) | skip
  · rw [eqMU_eq h]
  · rw [eqAVs_eq _ _ h.1,beq_t.1 h.2.1,beqB_eq h.2.2.1,beqB_eq h.2.2.2]
  · obtain ⟨h1,h2,h3,h4,h5,h6,h7⟩:=h
    rw [eqSt_eq h1,eqEx_eq h2,beq_t.1 h3,eqPT_eq _ _ h4,eqNs_eq _ _ h5,beq_t.1 h6,beq_t.1 h7]
  · rw [beqB_eq h]
noncomputable def isO (o:Option AObj) (q:AObj):Bool :=
  match o with
  | some x=>eqO x q
  | none=>false
theorem isO_eq {o:Option AObj} {q:AObj} (h:isO o q=true):o=some q:=by
  cases o with
  | none=>cases h
  | some x=>rw [eqO_eq h]
noncomputable def lessO (q:AObj) (o:Option AObj):Bool :=
  match o with
  | none=>false
  | some x=>cond (eqO x q) true (match q,x with
    | .cells cs 0 false false,.cells cs' _ _ _=>eqAVs cs' cs
    | .umap m,.umap m'=>eqMU m'.dull m
    | _,_=>false)
theorem lessO_ok {q:AObj} {o:Option AObj} (h:lessO q o=true):∃ x,o=some x∧Less q x:=by
  cases o with
  | none=>cases h
  | some x =>
    refine ⟨x,rfl,?_⟩
    simp only [lessO] at h
    cases h1:eqO x q with
    | true=>rw [eqO_eq h1]; exact .refl _
    | false =>
      rw [h1,cond_false] at h
      split at h
      · rw [eqAVs_eq _ _ h]; exact .read _ _ _ _
      · rw [← eqMU_eq h]; exact .dull _
      · cases h
noncomputable def lessAll (h:Heap) (l:List (Nat × AObj)):Bool:=lAll (fun g:Nat × AObj=>lessO g.2 (h.get g.1)) l
theorem lessAll_ok {h:Heap} {l:List (Nat × AObj)} (e:lessAll h l=true):∀ g ∈ l,∃ o,h.get g.1=some o∧Less g.2 o:=fun g hg=>lessO_ok (lAll_mem e g hg)
theorem SameA.refl {P:Program} {RC:Nat→Nat→List Nat→Code→Code→Prop} {ok ok':Rho→(Nat→Obj→Prop)→Prop} {ρ:Rho} (o:AObj):SameA ⟨P,RC,ok⟩ ⟨P,RC,ok'⟩ ρ o ρ o :=
  ⟨fun h=>h,fun h=>h,fun σ κ n rc heap b h=>by cases o <;> exact h⟩
theorem SameA.cells {p0 p:Par} {ρ0 ρ:Rho} {cs0 cs:List AV} {el:TypeId} {own ext:Bool} (hP:p0.P=p.P) (h:SameL ρ0 cs0 ρ cs):SameA p0 p ρ0 (.cells cs0 el own ext) ρ (.cells cs el own ext) :=
  ⟨fun h=>h,fun h=>h,fun σ κ n rc heap b ⟨c,base,vs,cells,el',fz,k1,k2,k3,k4,k5⟩=>⟨c,base,vs,cells,el',fz,k1,(h σ κ n n rc rc).symm.trans k2,k3,k4,by rw [← hP]; exact k5⟩⟩
theorem SameA.dead {p0 p:Par} {ρ0 ρ:Rho} {o:AObj}:SameA p0 p ρ0 o ρ .dead:=⟨fun h=>(by cases h),fun h=>(by cases h),fun _ _ _ _ _ _ _=>trivial⟩
theorem SameA.empty {p0 p:Par} {ρ0 ρ:Rho} {k:Nat} {m:MU} (hm:m.live=false):SameA p0 p ρ0 (.map [] k) ρ (.umap m) :=
  ⟨fun _=>rfl,fun h=>(by cases h),fun σ κ n rc heap b ⟨c,ms,k1,k2,k3⟩=>⟨c,[],ms,k,k1,(by cases ms with | nil=>trivial | cons _ _=>exact k2.elim),k3,fun e he=>(by cases he),fun h=>by rw [hm] at h; cases h⟩⟩
mutual
theorem conc_bare {ρ:Rho} {σ:Nat→Option (Nat × Nat)} {κ:Nat→Nat} {n m:Nat} {rc rc':Nat→Array Value}:∀ (a:AV),conc ⟨ρ,σ,κ,n,rc⟩ a=conc ⟨ρ,σ,κ,m,rc'⟩ a
  | .bool _=>rfl
  | .int _ _=>rfl
  | .ptr _ _=>rfl
  | .nilptr=>rfl
  | .slice _ _ _ _=>rfl
  | .sliceX _ _ _ _=>rfl
  | .nilslice=>rfl
  | .map _=>rfl
  | .nilmap=>rfl
  | .func fn x y=>by simp only [conc,show concL ⟨ρ,σ,κ,n,rc⟩ x=concL ⟨ρ,σ,κ,m,rc'⟩ x from concL_bare x,show concL ⟨ρ,σ,κ,n,rc⟩ y=concL ⟨ρ,σ,κ,m,rc'⟩ y from concL_bare y]
  | .yieldF _=>rfl
  | .nilFunc=>rfl
  | .agg l=>by simp only [conc,show concL ⟨ρ,σ,κ,n,rc⟩ l=concL ⟨ρ,σ,κ,m,rc'⟩ l from concL_bare l]
  | .tup l=>by simp only [conc,show concL ⟨ρ,σ,κ,n,rc⟩ l=concL ⟨ρ,σ,κ,m,rc'⟩ l from concL_bare l]
  | .opq _=>rfl
  | .sliceU _=>rfl
  | .sliceV _ _=>rfl
  | .ptrV _ _ _ _ _=>rfl
  | .bad=>rfl
theorem concL_bare {ρ:Rho} {σ:Nat→Option (Nat × Nat)} {κ:Nat→Nat} {n m:Nat} {rc rc':Nat→Array Value}:∀ (l:List AV),concL ⟨ρ,σ,κ,n,rc⟩ l=concL ⟨ρ,σ,κ,m,rc'⟩ l
  | []=>rfl
  | a :: l=>by simp only [concL,show conc ⟨ρ,σ,κ,n,rc⟩ a=conc ⟨ρ,σ,κ,m,rc'⟩ a from conc_bare a,show concL ⟨ρ,σ,κ,n,rc⟩ l=concL ⟨ρ,σ,κ,m,rc'⟩ l from concL_bare l]
end
theorem SameV.refl (ρ:Rho) (v:AV):SameV ρ v ρ v:=fun _ _ _ _ _ _=>conc_bare v
theorem SameL.refl (ρ:Rho) (l:List AV):SameL ρ l ρ l:=fun _ _ _ _ _ _=>concL_bare l
noncomputable def eqTF (t u:T AV):Bool :=
  match t,u with
  | .ret a,.ret b=>eqAV a b
  | .fail a,.fail b=>Nat.beq a b
  | .br c x y,.br c' x' y'=>and (eqBE c c') (and (eqTF x x') (eqTF y y'))
  | _,_=>false
theorem eqTF_eq:∀ (t u:T AV),eqTF t u=true→t=u
  | .ret a,u,h=>by
    cases u <;> simp only [eqTF] at h <;> first | (cases h; done) | skip
    rw [eqAV_eq _ _ h]
  | .fail w,u,h=>by
    cases u <;> simp only [eqTF] at h <;> first | (cases h; done) | skip
    rw [beq_t.1 h]
  | .br c x y,u,h=>by
    cases u <;> simp only [eqTF,Bool.and_eq_true] at h <;> first | (cases h; done) | skip
    rw [eqBE_eq _ _ h.1,eqTF_eq x _ h.2.1,eqTF_eq y _ h.2.2]
theorem T.holds_enc {α:Type} {ρ:Rho} {t:T α} {enc:α→AV} {u:T AV} (h:(t.bind fun r=>T.ret (enc r))=u) {P:α→Prop} (k:u.Holds ρ fun a=>∀ r,enc r=a→P r):t.Holds ρ P:=by
  rw [← h,T.holds_bind] at k
  exact T.holds_mono (fun r hr=>hr r rfl) k
def Rho.setB (ρ:Rho) (i:Nat) (B:Int→Int→Int→Bool):Rho:=⟨ρ.iv,ρ.bv,ρ.fi,fun j=>if j=i then B else ρ.fb j,ρ.ov⟩
theorem UOk.live {ρ:Rho} {m:MU} {es:List (AV × AV × Nat)} (h:UOk ρ m.dull es) (h1:1000≤m.fb) (hfi:∀ q ∈ m.fi,q.2 ≠ m.fb):∃ B,UOk (ρ.setB m.fb B) m es:=by
  classical
  refine ⟨fun a b c=>decide (∃ e ∈ es,e.1=keyU m.nk a b c),fun e he=>?_,fun _ a b c _ _=>?_⟩
  · obtain ⟨a,b,c,k1,k2,k3,k4⟩:=h.1 e he
    refine ⟨a,b,c,k1,k2,k3,k4.trans ?_⟩
    have hc:∀ q ∈ m.fi,umCellL ρ a b c q=umCellL (ρ.setB m.fb fun a b c=>decide (∃ e ∈ es,e.1=keyU m.nk a b c)) a b c q:=fun q hq=>by
      unfold umCellL FB FI Rho.setB
      simp only [if_neg (hfi q hq)]
    unfold umValL MU.dull
    simp only
    rw [List.map_congr_left hc]
    cases m.ag with
    | true=>rfl
    | false =>
      simp only [cond_false]
      have:=hc
      revert this
      cases m.fi with
      | nil=>intro _; rfl
      | cons q l=>cases l with
        | nil=>intro hh; exact hh q List.mem_cons_self
        | cons _ _=>intro _; rfl
  · unfold FB Rho.setB
    simp only [if_pos h1,if_true,decide_eq_true_eq]
theorem CallOk.live {p : Par} {f : FuncId} {args : List AV} {h : Heap} {t : T (AV × Heap)} {b : Nat} {m : MU} (h1 : 1000 ≤ m.fb) (hfi : ∀ q ∈ m.fi, q.2 ≠ m.fb) (hc : CallOk p f args (h.put b (.umap m)) t)
    (hst:∀ ρ B c,p.okB ρ c→p.okB (ρ.setB m.fb B) c) (hargs:∀ ρ B,SameL ρ args (ρ.setB m.fb B) args) (hh:∀ ρ B j o,j ≠ b→h.get j=some o→SameA p p ρ o (ρ.setB m.fb B) o)
    (ht:∀ ρ B (Q:AV × Heap→Prop),t.Holds ρ Q→t.Holds (ρ.setB m.fb B) fun r0=>∃ r,Q r∧SameV (ρ.setB m.fb B) r0.1 ρ r.1∧SameH p p (ρ.setB m.fb B) r0.2 ρ r.2):CallOk p f args (h.put b (.umap m.dull)) t:=by
  intro vs E w0 w Q K k HH ha P
  have hg:(h.put b (.umap m.dull)).get b=some (.umap m.dull):=by rw [Heap.get_put,if_pos rfl]
  obtain ⟨c,es,ms,clock,g1,g2,g3,g4⟩:=HH.obj _ _ hg
  obtain ⟨B,hU⟩:=g4.live h1 hfi
  let E':Env:=⟨E.ρ.setB m.fb B,E.σ,E.κ,E.n,E.rc⟩
  have back:∀ j o,(h.put b (.umap m)).get j=some o→∃ o0,(h.put b (.umap m.dull)).get j=some o0∧ownO o0=ownO o∧roO o0=roO o:=fun j o g=>by
    rw [Heap.get_put] at g
    rw [Heap.get_put]
    by_cases hj:j=b
    · rw [if_pos hj] at g ⊢; cases g; exact ⟨_,rfl,rfl,rfl⟩
    · rw [if_neg hj] at g ⊢; exact ⟨o,g,rfl,rfl⟩
  have HH':HeapOk p E' (h.put b (.umap m)) w0 w:=by
    refine ⟨fun j o g=>?_,fun j j' o o' c x y k1 k2 w1 w2 s1 s2=>?_,fun j o c x g hw s=>?_,fun j o c y g hr s=>?_,HH.fresh,fun j o c x g s=>?_,HH.glob,HH.below,HH.nx,hst _ _ _ HH.ok⟩
    · by_cases hj:j=b
      · subst hj
        rw [Heap.get_put,if_pos rfl] at g; cases g
        have lit:∀ (es:List (AV × AV × Nat)) (ms:List MapEntry),(∀ e ∈ es,∃ a b c,(m.nk < 2→b=0)∧(m.nk < 3→c=0)∧e.1=keyU m.nk a b c∧e.2.1=umValL (E.ρ.setB m.fb B) m a b c)→concE E es ms→concE E' es ms:=by
          intro es
          induction es with
          | nil=>intro ms _ h; cases ms with | nil=>trivial | cons _ _=>exact h.elim
          | cons e es ih =>
            intro ms hl h
            cases ms with
            | nil=>exact h.elim
            | cons m' ms =>
              obtain ⟨q1,q2,q3,q4⟩:=h
              obtain ⟨x,y,z,_,_,e1,e2⟩:=hl e List.mem_cons_self
              have hk:conc E' e.1=conc E e.1:=by rw [e1]; unfold keyU; split <;> rfl
              have hc:∀ q,conc E' (umCellL (E.ρ.setB m.fb B) x y z q)=conc E (umCellL (E.ρ.setB m.fb B) x y z q):=fun q=>by unfold umCellL; cases q.1 <;> rfl
              have hcs:∀ l:List (Bool × Nat),concL E' (l.map (umCellL (E.ρ.setB m.fb B) x y z))=concL E (l.map (umCellL (E.ρ.setB m.fb B) x y z)):=fun l=>by
                induction l with
                | nil=>rfl
                | cons q l ih=>simp only [List.map_cons,concL,hc,ih]
              have hv:conc E' e.2.1=conc E e.2.1:=by
                rw [e2]; unfold umValL
                cases m.ag with
                | true=>simp only [cond_true,conc,hcs]
                | false =>
                  simp only [cond_false]
                  cases m.fi with
                  | nil=>rfl
                  | cons q l=>cases l with
                    | nil=>exact hc q
                    | cons _ _=>rfl
              exact ⟨hk.trans q1,hv.trans q2,q3,ih ms (fun e' he'=>hl e' (List.mem_cons_of_mem _ he')) q4⟩
        exact ⟨c,es,ms,clock,g1,lit es ms hU.1 g2,g3,hU⟩
      · have g':h.get j=some o:=by rw [Heap.get_put,if_neg hj] at g; exact g
        have g0:(h.put b (.umap m.dull)).get j=some o:=by rw [Heap.get_put,if_neg hj]; exact g'
        exact (hh E.ρ B j o hj g').2.2 E.σ E.κ E.n E.rc w.heap j (HH.obj j o g0)
    · obtain ⟨o1,a1,a2,_⟩:=back j o k1
      obtain ⟨o2,c1,c2,_⟩:=back j' o' k2
      exact HH.inj _ _ _ _ _ _ _ a1 c1 (a2.trans w1) (c2.trans w2) s1 s2
    · obtain ⟨o1,a1,a2,_⟩:=back j o g
      exact HH.base _ _ _ _ a1 (a2.trans hw) s
    · obtain ⟨o1,a1,_,a3⟩:=back j o g
      exact HH.ro _ _ _ _ a1 (a3.trans hr) s
    · obtain ⟨o1,a1,_⟩:=back j o g
      exact HH.lt _ _ _ _ a1 s
  have ha':concL E' args=some vs:=by rw [← hargs E.ρ B E.σ E.κ E.n E.n E.rc E.rc]; exact ha
  refine hc vs E' w0 w _ K (ht E.ρ B Q k) HH' ha' ?_
  intro v' h' E1 w' cv q hle H1 hcv
  obtain ⟨r,hq,hv,hs⟩:=q
  have hρ1:E1.ρ=E.ρ.setB m.fb B:=hle.ρ
  have H2:HeapOk p ⟨E.ρ,E1.σ,E1.κ,E1.n,E1.rc⟩ r.2 w0 w':=HeapOk.read (ρ0:=E.ρ.setB m.fb B) (σ:=E1.σ) (κ:=E1.κ) (n:=E1.n) (rc:=E1.rc) (by rw [← hρ1]; exact H1) hs HH.ok
  refine P r.1 r.2 ⟨E.ρ,E1.σ,E1.κ,E1.n,E1.rc⟩ w' cv hq ⟨⟨rfl,hle.σ,hle.κ,hle.rc⟩,hle.n,hle.none⟩ H2 ?_
  rw [← hv E1.σ E1.κ E1.n E1.n E1.rc E1.rc,← hρ1]; exact hcv
end Go.Sx
namespace Go.Sx
open Go.RowKit
mutual
def plV:AV→Bool
  | .bool b=>varsB 500 b
  | .int _ e=>varsI 500 e
  | .ptr _ _=>true
  | .nilptr=>true
  | .slice _ _ _ _=>true
  | .sliceX _ _ _ _=>true
  | .nilslice=>true
  | .map _=>true
  | .nilmap=>true
  | .func _ x y=>and (plVs x) (plVs y)
  | .yieldF _=>true
  | .nilFunc=>true
  | .agg l=>plVs l
  | .tup l=>plVs l
  | _=>false
def plVs:List AV→Bool
  | []=>true
  | a :: l=>and (plV a) (plVs l)
end
structure Alike (ρ ρ':Rho):Prop where
  iv:∀ i,i < 500→ρ'.iv i=ρ.iv i
  bv:ρ'.bv=ρ.bv
  f:ρ'.fi=ρ.fi∧ρ'.fb=ρ.fb
theorem Alike.symm {ρ ρ':Rho} (h:Alike ρ ρ'):Alike ρ' ρ:=⟨fun i hi=>(h.iv i hi).symm,h.bv.symm,h.f.1.symm,h.f.2.symm⟩
mutual
theorem SameV.pl {ρ ρ':Rho} (h:Alike ρ ρ'):∀ v:AV,plV v=true→SameV ρ v ρ' v
  | .bool b,hp=>SameV.bool (varsB_den h.iv h.bv h.f b hp).symm
  | .int k e,hp=>SameV.int (varsI_den h.iv h.f e hp).symm
  | .ptr _ _,_=>SameV.ptr _ _
  | .nilptr,_=>fun _ _ _ _ _ _=>rfl
  | .slice _ _ _ _,_=>SameV.slice _ _ _ _
  | .sliceX _ _ _ _,_=>SameV.sliceX _ _ _ _
  | .nilslice,_=>SameV.nilslice
  | .map _,_=>SameV.map _
  | .nilmap,_=>fun _ _ _ _ _ _=>rfl
  | .func fn x y,hp=>by
    simp only [plV,Bool.and_eq_true] at hp
    exact SameV.func (SameL.pl h x hp.1) (SameL.pl h y hp.2)
  | .yieldF _,_=>fun _ _ _ _ _ _=>rfl
  | .nilFunc,_=>SameV.nilFunc
  | .agg l,hp=>SameV.agg (SameL.pl h l (by simpa [plV] using hp))
  | .tup l,hp=>fun σ κ n m rc rc'=>by
    have:=SameL.pl h l (by simpa [plV] using hp) σ κ n m rc rc'
    simp only [conc,this]
  | .opq _,hp=>by simp [plV] at hp
  | .sliceU _,hp=>by simp [plV] at hp
  | .sliceV _ _,hp=>by simp [plV] at hp
  | .ptrV _ _ _ _ _,hp=>by simp [plV] at hp
  | .bad,hp=>by simp [plV] at hp
theorem SameL.pl {ρ ρ':Rho} (h:Alike ρ ρ'):∀ l:List AV,plVs l=true→SameL ρ l ρ' l
  | [],_=>SameL.nil
  | a :: l,hp=>by
    simp only [plVs,Bool.and_eq_true] at hp
    exact SameL.cons (SameV.pl h a hp.1) (SameL.pl h l hp.2)
end
def nbF:List (Bool × Nat)→Bool
  | []=>true
  | q :: l=>and (Bool.not q.1) (nbF l)
theorem nbF_mem:∀ (l:List (Bool × Nat)),nbF l=true→∀ q ∈ l,q.1=false
  | [],_,q,hq=>by cases hq
  | p :: l,h,q,hq=>by
    simp only [nbF,Bool.and_eq_true,Bool.not_eq_true'] at h
    rcases List.mem_cons.1 hq with rfl | hq
    · exact h.1
    · exact nbF_mem l h.2 q hq
def plO:AObj→Bool
  | .cells cs _ _ _=>plVs cs
  | .umap m=>and (Bool.not m.live) (nbF m.fi)
  | .loop _ _ _ tm _ _ _=>ptAll plV tm
  | .defd _=>true
  | .dead=>true
  | _=>false
theorem SameA.umap {p0 p:Par} {ρ0 ρ:Rho} {m:MU} (hl:m.live=false) (hfi:ρ.fi=ρ0.fi) (hnb:∀ q ∈ m.fi,q.1=false):SameA p0 p ρ0 (.umap m) ρ (.umap m):=by
  refine ⟨fun _=>rfl,fun h=>absurd h (by simp [roO]),fun σ κ n rc heap b ⟨c,es,ms,k,k1,k2,k3,k4⟩=>?_⟩
  have hc:∀ (a b c:Int) (q:Bool × Nat),q ∈ m.fi→umCellL ρ a b c q=umCellL ρ0 a b c q:=fun a b c q hq=>by
    unfold umCellL; rw [hnb q hq,hfi]; rfl
  have hv:∀ a b c,umValL ρ m a b c=umValL ρ0 m a b c:=fun a b c=>by
    unfold umValL
    rw [List.map_congr_left (hc a b c)]
    cases m.ag with
    | true=>rfl
    | false =>
      simp only [cond_false]
      have:=hc a b c
      revert this
      cases m.fi with
      | nil=>intro _; rfl
      | cons q l=>cases l with
        | nil=>intro hh; exact hh q List.mem_cons_self
        | cons _ _=>intro _; rfl
  have hU:UOk ρ m es:=⟨fun e he=>by
    obtain ⟨a,b,c,z1,z2,z3,z4⟩:=k4.1 e he
    exact ⟨a,b,c,z1,z2,z3,by rw [hv]; exact z4⟩,fun h=>by rw [hl] at h; cases h⟩
  refine ⟨c,es,ms,k,k1,?_,k3,hU⟩
  have lit:∀ (es:List (AV × AV × Nat)) (ms:List MapEntry),(∀ e ∈ es,∃ a b c,(m.nk < 2→b=0)∧(m.nk < 3→c=0)∧e.1=keyU m.nk a b c∧e.2.1=umValL ρ m a b c)→concE ⟨ρ0,σ,κ,n,rc⟩ es ms→concE ⟨ρ,σ,κ,n,rc⟩ es ms:=by
    intro es
    induction es with
    | nil=>intro ms _ h; cases ms with | nil=>trivial | cons _ _=>exact h.elim
    | cons e es ih =>
      intro ms hl h
      cases ms with
      | nil=>exact h.elim
      | cons m' ms =>
        obtain ⟨q1,q2,q3,q4⟩:=h
        obtain ⟨x,y,z,_,_,e1,e2⟩:=hl e List.mem_cons_self
        have hk:conc ⟨ρ,σ,κ,n,rc⟩ e.1=conc ⟨ρ0,σ,κ,n,rc⟩ e.1:=by rw [e1]; unfold keyU; split <;> rfl
        have hcc:∀ q,conc ⟨ρ,σ,κ,n,rc⟩ (umCellL ρ x y z q)=conc ⟨ρ0,σ,κ,n,rc⟩ (umCellL ρ x y z q):=fun q=>by unfold umCellL; cases q.1 <;> rfl
        have hcs:∀ l:List (Bool × Nat),concL ⟨ρ,σ,κ,n,rc⟩ (l.map (umCellL ρ x y z))=concL ⟨ρ0,σ,κ,n,rc⟩ (l.map (umCellL ρ x y z)):=fun l=>by
          induction l with
          | nil=>rfl
          | cons q l ih=>simp only [List.map_cons,concL,hcc,ih]
        have hvv:conc ⟨ρ,σ,κ,n,rc⟩ e.2.1=conc ⟨ρ0,σ,κ,n,rc⟩ e.2.1:=by
          rw [e2]; unfold umValL
          cases m.ag with
          | true=>simp only [cond_true,conc,hcs]
          | false =>
            simp only [cond_false]
            cases m.fi with
            | nil=>rfl
            | cons q l=>cases l with
              | nil=>exact hcc q
              | cons _ _=>rfl
        exact ⟨hk.trans q1,hvv.trans q2,q3,ih ms (fun e' he'=>hl e' (List.mem_cons_of_mem _ he')) q4⟩
  exact lit es ms hU.1 k2
theorem SameA.pl {P:Program} {RC:Nat→Nat→List Nat→Code→Code→Prop} {ok ok':Rho→(Nat→Obj→Prop)→Prop} {ρ ρ':Rho} (h:Alike ρ ρ') {o:AObj} (hp:plO o=true):SameA ⟨P,RC,ok⟩ ⟨P,RC,ok'⟩ ρ o ρ' o:=by
  cases o with
  | cells cs el own ext=>exact SameA.cells rfl (SameL.pl h cs hp)
  | umap m =>
    simp only [plO,Bool.and_eq_true,Bool.not_eq_true'] at hp
    exact SameA.umap hp.1 h.f.1 (nbF_mem _ hp.2)
  | loop st p f tm ps c d =>
    refine ⟨fun h=>h,fun h=>h,fun σ κ n rc heap b ⟨c',d',nn,keep,r,k1,k2,k3,k4,k5,k6,k7,k8,k9,k10⟩=>⟨c',d',nn,keep,r,k1,k2,k3,k4,k5,k6,⟨fun i a e=>?_⟩,k8,k9,k10⟩⟩
    obtain ⟨m1,v,m2,m3⟩:=k7.at_ i a e
    exact ⟨m1,v,by rw [← SameV.pl h a (ptAll_get _ _ _ hp e) σ κ n n rc rc]; exact m2,m3⟩
  | defd t=>exact ⟨fun h=>h,fun h=>h,fun σ κ n rc heap b h=>h⟩
  | dead=>exact SameA.dead
  | _=>cases hp
end Go.Sx
namespace Go.Sx
open Go.RowKit
theorem concL_cut {E:Env}:∀ {l m:List AV} {vs:List Value},concL E (l ++ m)=some vs→∃ us ws,concL E l=some us∧concL E m=some ws∧vs=us ++ ws
  | [],m,vs,h=>⟨[],vs,rfl,h,rfl⟩
  | a :: l,m,vs,h=>by
    obtain ⟨v,r,h1,h2,rfl⟩:=concL_cons.1 (show concL E (a :: (l ++ m))=some vs from h)
    obtain ⟨us,ws,e1,e2,rfl⟩:=concL_cut h2
    exact ⟨v :: us,ws,concL_cons.2 ⟨v,us,h1,e1,rfl⟩,e2,rfl⟩
def Env.mv3 (mv off:Nat→Nat) (n:Nat) (E:Env):Env:=⟨E.ρ,fun b=>if b < n then (E.σ (mv b)).map fun q=>(q.1,q.2 + off b) else none,fun b=>E.κ (mv b) - off b,n,fun _=>#[]⟩
def Part (cs:List AV) (k:Nat) (o:AObj):Prop:=∃ cs' el own ext,o=.cells cs' el own ext∧∃ l r,cs'=l ++ cs ++ r∧l.length=k
theorem Part.obj {p:Par} {E:Env} {mv off:Nat→Nat} {n b:Nat} {cs:List AV} {o:AObj} {heap:Array Obj} (h:Part cs (off b) o) (hb:b < n) (hi:idsLts 0 cs=true) (k:objOk p E (mv b) o heap):objOk p (E.mv3 mv off n) b (.cells cs 0 false false) heap:=by
  obtain ⟨cs',el,own,ext,rfl,l,r,rfl,hl⟩:=h
  obtain ⟨c,base,vs,cells,el',fz,k1,k2,k3,k4,_⟩:=k
  obtain ⟨us,ws,e1,e2,rfl⟩:=concL_cut k2
  obtain ⟨u1,u2,e3,e4,rfl⟩:=concL_cut e1
  have len:u1.length=l.length:=concL_len e3
  refine ⟨c,base + off b,u2,cells,el',fz,?_,?_,k3,fun i hi=>?_,fun h=>by cases h⟩
  · simp only [Env.mv3,if_pos hb,k1,Option.map_some]
  · rw [concL_ids (n:=0) (E:=E) (E':=E.mv3 mv off n) rfl (fun b hb=>absurd hb (Nat.not_lt_zero b)) cs hi]; exact e4
  · have:=k4 (l.length + i) (by simp only [List.length_append]; omega)
    rw [← hl,Nat.add_assoc,this,List.append_assoc,List.getElem?_append_right (by omega),len,Nat.add_sub_cancel_left,List.getElem?_append_left hi]
theorem CallOk.moved3 {p : Par} {f : FuncId} {args0 args : List AV} {n : Nat} {mv off : Nat → Nat} {l : List (Nat × AObj)} {v : AV} {h0 : Heap} (hc : CallOk p f args0 (viewA n l) (.ret (v, h0)))
    (h1000:1000≤n) (hlow:∀ b,b < 1000→mv b=b∧off b=0) (hv:idsLt 0 v=true) {h:Heap} (hl:∀ g ∈ l,g.1 < n∧∃ cs,g.2=.cells cs 0 false false∧idsLts 0 cs=true∧∃ o,h.get (mv g.1)=some o∧Part cs (off g.1) o)
    (hargs:∀ E:Env,concL (E.mv3 mv off n) args0=concL E args):CallOk p f args h (.ret (v,h)):=by
  intro vs E w0 w Q K k HH hA P
  have k:Q (v,h):=k
  have mvσ:∀ b q,(E.mv3 mv off n).σ b=some q→b < n∧∃ x,E.σ (mv b)=some (q.1,x):=fun b q e=>by
    simp only [Env.mv3] at e
    split at e
    · rename_i hb
      cases hs:E.σ (mv b) with
      | none=>rw [hs] at e; cases e
      | some u=>rw [hs] at e; cases e; exact ⟨hb,u.2,rfl⟩
    · cases e
  have lt:∀ b o d x,(viewA n l).get b=some o→(E.mv3 mv off n).σ b=some (d,x)→d < w.heap.size:=fun b o d x g s=>by
    obtain ⟨_,cs,_,_,o',h1,_⟩:=hl _ (viewA_get _ _ _ _ g)
    obtain ⟨_,y,hy⟩:=mvσ _ _ s
    exact HH.lt _ _ _ _ h1 hy
  have own0:∀ b o,(viewA n l).get b=some o→ownO o=false:=fun b o g=>by
    obtain ⟨_,cs,he,_⟩:=hl _ (viewA_get _ _ _ _ g)
    have he:o=.cells cs 0 false false:=he
    rw [he]; rfl
  have HV:HeapOk p (E.mv3 mv off n) (viewA n l) (Base.of w) w:=by
    refine ⟨fun b o g=>?_,fun b b' o o' d x y g1 g2 w1 w2 s1 s2=>?_,fun b o d x g hw s hd=>?_,fun b o d y g hr s=>lt b o d y g s,fun b hb=>?_,lt,fun b hb=>?_,Kept.refl _ _,(by rw [viewA_next]; exact Nat.le_refl _),HH.ok.mono fun d o e'=>⟨HH.below.lt e'.1,Base.Keeps.has HH.below e'⟩⟩
    · obtain ⟨h3,cs,he,hi,o',h1,h2⟩:=hl _ (viewA_get _ _ _ _ g)
      have he:o=.cells cs 0 false false:=he
      rw [he]
      exact h2.obj h3 hi (HH.obj _ _ h1)
    · rw [own0 _ _ g1] at w1; cases w1
    · rw [own0 _ _ g] at hw; cases hw
    · rw [viewA_next] at hb
      simp only [Env.mv3,if_neg (show ¬ b < n by omega)]
    · obtain ⟨e1,e2⟩:=hlow b hb
      simp only [Env.mv3,if_pos (show b < n by omega),e1,e2,HH.glob b hb,Option.map_some,Nat.add_zero]
  refine hc vs (E.mv3 mv off n) (Base.of w) w (fun r=>r.1=v) K rfl HV ((hargs E).trans hA) ?_
  intro v' h1 E1 w' cv q hle H1 hcv
  have q:v'=v:=q
  subst q
  refine P v' h E w' cv k (Env.le.refl E) (HH.world (Base.keeps_below H1.below)) ?_
  rw [← hcv]
  exact (conc_ids (n:=0) (E:=E1) (E':=E) hle.ρ.symm (fun b hb=>absurd hb (Nat.not_lt_zero b)) v' hv)
end Go.Sx
namespace Go.Sx
open Go.RowKit
noncomputable def fixV (g:Nat→Option Nat) (x:AV):Bool:=match rnV g x with
  | some y=>eqAV y x
  | none=>false
theorem fixV_ok {g:Nat→Option Nat} {E1 E2:Env} (R:RelB g E1 E2) {x:AV} (h:fixV g x=true) {v:Value} (k:conc E1 x=some v):conc E2 x=some v:=by
  unfold fixV at h
  split at h
  · rename_i y hy
    have:=rnV_ok R x y v hy k
    rw [eqAV_eq _ _ h] at this
    exact this
  · cases h
noncomputable def rnO (a:Nat) (g:Nat→Option Nat) (o:AObj):Option AObj :=
  cond (idsO a o) (some o) (match o with
  | .cells cs el own ext=>(match rnL g cs with
    | some cs'=>some (.cells cs' el own ext)
    | none=>none)
  | .umap m=>some (.umap m)
  | .ucells i ks=>some (.ucells i ks)
  | .loop st p f tm ps c d=>cond (and (ptAll (fixV g) tm) (match g d with
    | some e=>Nat.beq e d
    | none=>false)) (some (.loop st p f tm ps c d)) none
  | .defd t=>some (.defd t)
  | .dead=>some .dead
  | _=>none)
theorem rnO_own {a:Nat} {g:Nat→Option Nat} {o o':AObj} (h:rnO a g o=some o'):ownO o'=ownO o∧roO o'=roO o:=by
  unfold rnO at h
  cases hi:idsO a o with
  | true=>rw [hi,cond_true] at h; cases h; exact ⟨rfl,rfl⟩
  | false =>
  rw [hi,cond_false] at h
  cases o with
  | cells cs el own ext =>
    simp only at h
    split at h
    · cases h; exact ⟨rfl,rfl⟩
    · cases h
  | umap m=>cases h; exact ⟨rfl,rfl⟩
  | ucells i ks=>cases h; exact ⟨rfl,rfl⟩
  | loop st p f tm ps c d =>
    simp only at h
    obtain ⟨_,h⟩:=cond_some h
    cases h; exact ⟨rfl,rfl⟩
  | defd t=>cases h; exact ⟨rfl,rfl⟩
  | dead=>cases h; exact ⟨rfl,rfl⟩
  | map es k=>cases h
  | rmap es k=>cases h
  | resv=>cases h
theorem objOk.rn {p : Par} {a : Nat} {g : Nat → Option Nat} {E1 E2 : Env} (R : RelB g E1 E2) (low : ∀ b, b < a → E2.σ b = E1.σ b ∧ (E1.σ b ≠ none → E2.κ b = E1.κ b)) {o o' : AObj} {b b' : Nat} {heap : Array Obj} (h : rnO a g o = some o')
    (hb:∀ q,E1.σ b=some q→E2.σ b'=some q∧E2.κ b'=E1.κ b) (k:objOk p E1 b o heap):objOk p E2 b' o' heap:=by
  have zero:∀ b,b < 0→E2.σ b=E1.σ b∧(E1.σ b ≠ none→E2.κ b=E1.κ b):=fun b hb=>absurd hb (Nat.not_lt_zero b)
  unfold rnO at h
  cases hi:idsO a o with
  | true=>rw [hi,cond_true] at h; cases h; exact objOk.ids (n:=a) R.ρ low hi hb k
  | false =>
  rw [hi,cond_false] at h
  cases o with
  | cells cs el own ext =>
    simp only at h
    split at h
    · rename_i cs' hcs
      cases h
      obtain ⟨c,base,vs,cells,el',fz,k1,k2,k3,k4,k5⟩:=k
      exact ⟨c,base,vs,cells,el',fz,(hb _ k1).1,rnL_ok R _ _ _ hcs k2,k3,k4,by rw [(hb _ k1).2]; exact k5⟩
    · cases h
  | umap m=>cases h; exact objOk.ids (n:=0) R.ρ zero rfl hb k
  | ucells i ks=>cases h; exact objOk.ids (n:=0) R.ρ zero rfl hb k
  | defd t=>cases h; exact objOk.ids (n:=0) R.ρ zero rfl hb k
  | dead=>cases h; trivial
  | loop st pend fn tm ps code d =>
    simp only at h
    obtain ⟨h1,h⟩:=cond_some h
    cases h
    rw [Bool.and_eq_true] at h1
    obtain ⟨h1,h2⟩:=h1
    split at h2
    · rename_i e he
      have:=beq_t.1 h2; subst this
      obtain ⟨c,d',nn,keep,r,k1,k2,k3,k4,k5,k6,k7,k8,k9,k10⟩:=k
      refine ⟨c,d',nn,keep,r,(hb _ k1).1,(R.2 _ _ _ he k2).1,k3,k4,k5,k6,⟨fun i x e=>?_⟩,k8,k9,k10⟩
      obtain ⟨m1,v,m2,m3⟩:=k7.at_ i x e
      exact ⟨m1,v,fixV_ok R (ptAll_get _ _ _ h1 e) m2,m3⟩
    · cases h2
  | map es k=>cases h
  | rmap es k=>cases h
  | resv=>cases h
noncomputable def renO (a:Nat) (g:Nat→Option Nat) (o:AObj):AObj:=match rnO a g o with
  | some o'=>o'
  | none=>.dead
noncomputable def ptMap (f:AObj→AObj) (t:PT AObj):PT AObj:=@PT.rec AObj (fun _=>PT AObj) .nil (fun v _ _ l r=>.node (v.map f) l r) t
theorem ptMap_get {f:AObj→AObj}:∀ (t:PT AObj) (i:Nat),(ptMap f t).get i=(t.get i).map f
  | .nil,i=>by
    show (PT.nil:PT AObj).get i=((PT.nil:PT AObj).get i).map f
    rw [PT.get_nil]; rfl
  | .node v l r,i=>by
    have s1:(PT.node v l r).get i=cond (Nat.beq i 0) v (cond (Nat.beq (Nat.mod i 2) 1) (l.get (Nat.div (Nat.pred i) 2)) (r.get (Nat.div (Nat.pred i) 2))):=rfl
    have s2:(ptMap f (PT.node v l r)).get i=cond (Nat.beq i 0) (v.map f) (cond (Nat.beq (Nat.mod i 2) 1) ((ptMap f l).get (Nat.div (Nat.pred i) 2)) ((ptMap f r).get (Nat.div (Nat.pred i) 2))):=rfl
    rw [s1,s2,ptMap_get l,ptMap_get r]
    cases Nat.beq i 0 with
    | true=>rfl
    | false=>cases Nat.beq (Nat.mod i 2) 1 <;> rfl
noncomputable def renH (a:Nat) (g:Nat→Option Nat) (h:Heap):Heap:=⟨ptMap (renO a g) h.objs,h.next⟩
theorem renH_get {a:Nat} {g:Nat→Option Nat} {h:Heap} {b:Nat} {o:AObj} (e:(renH a g h).get b=some o):∃ o1,h.get b=some o1∧o=renO a g o1:=by
  have s:(renH a g h).get b=(h.get b).map (renO a g):=ptMap_get _ _
  rw [s] at e
  cases hg:h.get b with
  | none=>rw [hg] at e; cases e
  | some o1=>rw [hg] at e; cases e; exact ⟨o1,rfl,rfl⟩
theorem renO_own {a:Nat} {g:Nat→Option Nat} {o:AObj}:(ownO (renO a g o)=true→ownO o=true)∧(roO (renO a g o)=true→roO o=true):=by
  unfold renO
  split
  · rename_i o' h
    have:=rnO_own h
    exact ⟨fun k=>this.1.symm.trans k,fun k=>this.2.symm.trans k⟩
  · exact ⟨fun k=>(by cases k),fun k=>(by cases k)⟩
noncomputable def bkA (a d b:Nat):Option Nat:=cond (Nat.beq b d) (some a) (cond (Nat.beq b a) none (some b))
noncomputable def fwA (a d b:Nat):Option Nat:=cond (Nat.beq b a) (some d) (some b)
theorem bkA_some {a d b c:Nat} (h:bkA a d b=some c):(b=d∧c=a) ∨ (b ≠ d∧b ≠ a∧c=b):=by
  unfold bkA at h
  cases h1:Nat.beq b d with
  | true=>rw [h1] at h; cases h; exact .inl ⟨beq_t.1 h1,rfl⟩
  | false =>
    rw [h1,cond_false] at h
    cases h2:Nat.beq b a with
    | true=>rw [h2] at h; cases h
    | false =>
      rw [h2] at h; cases h
      refine .inr ⟨fun e=>?_,fun e=>?_,rfl⟩
      · rw [e,beq_t.2 rfl] at h1; cases h1
      · rw [e,beq_t.2 rfl] at h2; cases h2
theorem fwA_some {a d b c:Nat} (h:fwA a d b=some c):(b=a∧c=d) ∨ (b ≠ a∧c=b):=by
  unfold fwA at h
  cases h1:Nat.beq b a with
  | true=>rw [h1] at h; cases h; exact .inl ⟨beq_t.1 h1,rfl⟩
  | false =>
    rw [h1] at h; cases h
    exact .inr ⟨fun e=>(by rw [e,beq_t.2 rfl] at h1; cases h1),rfl⟩
noncomputable def aliasT (a d:Nat) (r:AV × Heap):T (AV × Heap):=match r.2.get a with
  | some _=>.fail 97
  | none=>(match rnV (fwA a d) r.1 with
    | some v=>.ret (v,renH a (fwA a d) r.2)
    | none=>.fail 97)
theorem CallOk.alias {p : Par} {f : FuncId} {args args' : List AV} {h h' : Heap} {t : T (AV × Heap)} {a d : Nat} (hc : CallOk p f args h t) (h1000 : 1000 ≤ a) (ha : a < h.next) (hne : a ≠ d) (hnx : h'.next = h.next)
    (hobj:∀ b o,h.get b=some o→b ≠ a∧∃ o',h'.get b=some o'∧rnO a (bkA a d) o'=some o) (hargs:rnL (bkA a d) args'=some args)
    (hdef:∀ (E:Env) (w0:Base) (w:World),HeapOk p E h' w0 w→concL E args' ≠ none→E.σ d ≠ none):CallOk p f args' h' (t.bind fun r=>aliasT a d r):=by
  intro vs E w0 w Q K k HH hA P
  rw [T.holds_bind] at k
  obtain ⟨q0,hq0⟩:∃ q,E.σ d=some q:=by
    cases hs:E.σ d with
    | none=>exact absurd hs (hdef E w0 w HH (by rw [hA]; exact Option.some_ne_none _))
    | some q=>exact ⟨q,rfl⟩
  let F:Env:=⟨E.ρ,fun b=>if b=a then E.σ d else E.σ b,fun b=>if b=a then E.κ d else E.κ b,E.n,E.rc⟩
  have Fa:F.σ a=E.σ d∧F.κ a=E.κ d:=⟨if_pos rfl,if_pos rfl⟩
  have Fb:∀ b,b ≠ a→F.σ b=E.σ b∧F.κ b=E.κ b:=fun b hb=>⟨if_neg hb,if_neg hb⟩
  have R:RelB (bkA a d) E F:=⟨rfl,fun b c q hb hq=>by
    rcases bkA_some hb with ⟨rfl,rfl⟩ | ⟨_,h2,rfl⟩
    · exact ⟨Fa.1.trans hq,Fa.2⟩
    · exact ⟨(Fb _ h2).1.trans hq,(Fb _ h2).2⟩⟩
  have lowF:∀ b,b < a→F.σ b=E.σ b∧(E.σ b ≠ none→F.κ b=E.κ b):=fun b hb=>⟨(Fb b (Nat.ne_of_lt hb)).1,fun _=>(Fb b (Nat.ne_of_lt hb)).2⟩
  have HV:HeapOk p F h w0 w:=by
    refine ⟨fun b o g=>?_,fun b b' o o' c x y g1 g2 w1 w2 s1 s2=>?_,fun b o c x g hw s=>?_,fun b o c y g hr s=>?_,fun b hb=>?_,fun b o c x g s=>?_,fun b hb=>?_,HH.below,by rw [← hnx]; exact HH.nx,HH.ok⟩
    · obtain ⟨e1,o',e2,e3⟩:=hobj b o g
      exact objOk.rn R lowF e3 (fun q hq=>⟨(Fb b e1).1.trans hq,(Fb b e1).2⟩) (HH.obj b o' e2)
    · obtain ⟨e1,p1,e2,e3⟩:=hobj b o g1
      obtain ⟨f1,p2,f2,f3⟩:=hobj b' o' g2
      exact HH.inj _ _ _ _ _ _ _ e2 f2 ((rnO_own e3).1.symm.trans w1) ((rnO_own f3).1.symm.trans w2) ((Fb b e1).1.symm.trans s1) ((Fb b' f1).1.symm.trans s2)
    · obtain ⟨e1,p1,e2,e3⟩:=hobj b o g
      exact HH.base _ _ _ _ e2 ((rnO_own e3).1.symm.trans hw) ((Fb b e1).1.symm.trans s)
    · obtain ⟨e1,p1,e2,e3⟩:=hobj b o g
      exact HH.ro _ _ _ _ e2 ((rnO_own e3).2.symm.trans hr) ((Fb b e1).1.symm.trans s)
    · rw [(Fb b (by omega)).1]; exact HH.fresh b (by omega)
    · obtain ⟨e1,p1,e2,e3⟩:=hobj b o g
      exact HH.lt _ _ _ _ e2 ((Fb b e1).1.symm.trans s)
    · rw [(Fb b (by omega)).1]; exact HH.glob b hb
  refine hc vs F w0 w _ K k HV (rnL_ok R _ _ _ hargs hA) ?_
  intro v1 h1 E1 w' cv q hle H1 hcv
  unfold aliasT at q
  split at q
  · exact q.elim
  · rename_i hga
    have hga:h1.get a=none:=hga
    split at q
    · rename_i v2 ev
      let G:Env:=⟨E1.ρ,fun b=>if b=a then E.σ a else E1.σ b,fun b=>if b=a then E.κ a else E1.κ b,E1.n,fun b=>if b=a then E.rc a else E1.rc b⟩
      have Ga:G.σ a=E.σ a∧G.κ a=E.κ a∧G.rc a=E.rc a:=⟨if_pos rfl,if_pos rfl,if_pos rfl⟩
      have Gb:∀ b,b ≠ a→G.σ b=E1.σ b∧G.κ b=E1.κ b∧G.rc b=E1.rc b:=fun b hb=>⟨if_neg hb,if_neg hb,if_neg hb⟩
      have E1a:E1.σ a=some q0:=hle.σ a q0 (Fa.1.trans hq0)
      have le:E.le G:=by
        refine ⟨⟨hle.ρ,fun b q e=>?_,fun b q e=>?_,fun b q e=>?_⟩,hle.n,fun b hb e=>?_⟩
        · by_cases hb:b=a
          · subst hb; exact Ga.1.trans e
          · rw [(Gb b hb).1]; exact hle.σ b q ((Fb b hb).1.trans e)
        · by_cases hb:b=a
          · subst hb; exact Ga.2.1
          · rw [(Gb b hb).2.1,hle.κ b q ((Fb b hb).1.trans e)]; exact (Fb b hb).2
        · by_cases hb:b=a
          · subst hb; exact Ga.2.2
          · rw [(Gb b hb).2.2]; exact hle.rc b q ((Fb b hb).1.trans e)
        · by_cases hb2:b=a
          · subst hb2; exact Ga.1.trans e
          · rw [(Gb b hb2).1]; exact hle.none b hb ((Fb b hb2).1.trans e)
      have R2:RelB (fwA a d) E1 G:=⟨rfl,fun b c q hb hq=>by
        rcases fwA_some hb with ⟨rfl,rfl⟩ | ⟨h2,rfl⟩
        · have hd:F.σ c=some q0:=(Fb c (fun e=>hne e.symm)).1.trans hq0
          rw [E1a] at hq; cases hq
          refine ⟨(Gb c (fun e=>hne e.symm)).1.trans (hle.σ c _ hd),?_⟩
          rw [(Gb c (fun e=>hne e.symm)).2.1,hle.κ c _ hd,(Fb c (fun e=>hne e.symm)).2,hle.κ b q0 (Fa.1.trans hq0),Fa.2]
        · exact ⟨(Gb _ h2).1.trans hq,(Gb _ h2).2.1⟩⟩
      have lowG:∀ b,b < a→G.σ b=E1.σ b∧(E1.σ b ≠ none→G.κ b=E1.κ b):=fun b hb=>⟨(Gb b (Nat.ne_of_lt hb)).1,fun _=>(Gb b (Nat.ne_of_lt hb)).2.1⟩
      have ne:∀ b o1,h1.get b=some o1→b ≠ a:=fun b o1 g e=>by rw [e,hga] at g; cases g
      have H2:HeapOk p G (renH a (fwA a d) h1) w0 w':=by
        refine ⟨fun b o g=>?_,fun b b' o o' c x y g1 g2 w1 w2 s1 s2=>?_,fun b o c x g hw s=>?_,fun b o c y g hr s=>?_,fun b hb=>?_,fun b o c x g s=>?_,fun b hb=>?_,H1.below,H1.nx,H1.ok⟩
        · obtain ⟨o1,e1,rfl⟩:=renH_get g
          unfold renO
          split
          · rename_i o' hr
            exact objOk.rn R2 lowG hr (fun q hq=>⟨(Gb b (ne b o1 e1)).1.trans hq,(Gb b (ne b o1 e1)).2.1⟩) (H1.obj b o1 e1)
          · trivial
        · obtain ⟨o1,e1,rfl⟩:=renH_get g1
          obtain ⟨o2,e2,rfl⟩:=renH_get g2
          exact H1.inj _ _ _ _ _ _ _ e1 e2 (renO_own.1 w1) (renO_own.1 w2) ((Gb b (ne b o1 e1)).1.symm.trans s1) ((Gb b' (ne b' o2 e2)).1.symm.trans s2)
        · obtain ⟨o1,e1,rfl⟩:=renH_get g
          exact H1.base _ _ _ _ e1 (renO_own.1 hw) ((Gb b (ne b o1 e1)).1.symm.trans s)
        · obtain ⟨o1,e1,rfl⟩:=renH_get g
          exact H1.ro _ _ _ _ e1 (renO_own.2 hr) ((Gb b (ne b o1 e1)).1.symm.trans s)
        · have hn:=H1.fresh b hb
          have hb2:b ≠ a:=fun e=>by rw [e,E1a] at hn; cases hn
          rw [(Gb b hb2).1]; exact hn
        · obtain ⟨o1,e1,rfl⟩:=renH_get g
          exact H1.lt _ _ _ _ e1 ((Gb b (ne b o1 e1)).1.symm.trans s)
        · rw [(Gb b (by omega)).1]; exact H1.glob b hb
      exact P v2 _ G w' cv q le H2 (rnV_ok R2 _ _ _ ev hcv)
    · exact q.elim
end Go.Sx
namespace Go.Sx
open Go.RowKit
noncomputable def viewFw (a d:Nat) (l:List (Nat × AObj)):List (Nat × AObj):=lMap (fun g:Nat × AObj=>(g.1,renO a (fwA a d) g.2)) l
noncomputable def headOf (x:AV):Option Nat:=match x with
  | .sliceX b _ _ _=>some b
  | .sliceV b _=>some b
  | _=>none
theorem headOf_def {x:AV} {d:Nat} (h:headOf x=some d) {E:Env} {v:Value} (k:conc E x=some v):E.σ d ≠ none:=by
  intro hn
  unfold headOf at h
  split at h
  · cases h
    simp only [conc,hn] at k
    split at k
    · cases k
    · cases k
  · cases h
    simp only [conc,hn] at k
    split at k
    · cases k
    · cases k
  · cases h
noncomputable def isL (x:Option (List AV)) (l:List AV):Bool:=match x with
  | some y=>eqAVs y l
  | none=>false
noncomputable def fitA (n a d:Nat) (args0:List AV) (l:List (Nat × AObj)) (args:List AV) (h:Heap):Bool :=
  and (and (isL (rnL (bkA a d) args) args0) (lAll (fun g:Nat × AObj=>and (Bool.not (Nat.beq g.1 a)) (isO (rnO a (bkA a d) (renO a (fwA a d) g.2)) g.2)) l))
    (and (and (lessAll h (viewFw a d l)) (viewOk h.next (viewFw a d l))) (and (and (idsLts h.next args) (Nat.ble n h.next)) (Bool.not (Nat.beq a d))))
noncomputable def headAt (b:Nat) (h:Heap):Option Nat:=match h.get b with
  | some (.cells (x :: _) _ _ _)=>headOf x
  | _=>none
noncomputable def aliasO (n a b0:Nat) (args0:List AV) (l:List (Nat × AObj)) (t:T (AV × Heap)) (nw nw2:AV × Heap→List Nat) (args:List AV) (h:Heap):Option (T (AV × Heap)) :=
  match headAt b0 h with
  | some d=>cond (and (fitA n a d args0 l args h) (match headAt b0 (viewA h.next (viewFw a d l)) with
    | some e=>Nat.beq e d
    | none=>false)) (some (((t.bind fun r=>graftT n l (viewA h.next l) (nw r) r).bind fun r=>aliasT a d r).bind fun r=>graftT h.next (viewFw a d l) h (nw2 r) r)) none
  | none=>none
theorem aliasO_ok {p : Par} {f : FuncId} {n a b0 : Nat} {args0 : List AV} {l : List (Nat × AObj)} {t : T (AV × Heap)} {nw nw2 : AV × Heap → List Nat} (hc : CallOk p f args0 (viewA n l) t) (h1000 : 1000 ≤ a) (han : a < n) (hids : idsLts n args0 = true) (hv : viewOk n l = true)
    {args:List AV} {h:Heap} {u:T (AV × Heap)} (e:aliasO n a b0 args0 l t nw nw2 args h=some u):CallOk p f args h u:=by
  unfold aliasO at e
  split at e
  · rename_i d hd
    obtain ⟨hf,e1⟩:=cond_some e
    cases e1
    rw [Bool.and_eq_true] at hf
    obtain ⟨hf,hhd⟩:=hf
    unfold fitA at hf
    simp only [Bool.and_eq_true] at hf
    obtain ⟨⟨f1,f2⟩,⟨f3,f4⟩,⟨f5,f6⟩,f7⟩:=hf
    have hn:=ble_t.1 f6
    have hne:a ≠ d:=fun k=>by rw [k,beq_t.2 rfl] at f7; cases f7
    have up:upA 0 l=true:=by unfold viewOk at hv; rw [Bool.and_eq_true] at hv; exact hv.1
    have up':upA 0 (viewFw a d l)=true:=by unfold viewOk at f4; rw [Bool.and_eq_true] at f4; exact f4.1
    have c1:CallOk p f args0 (viewA h.next l) (t.bind fun r=>graftT n l (viewA h.next l) (nw r) r):=hc.frame (by omega) hids hv (fun g hg=>⟨g.2,viewA_mem _ _ 0 up g hg,.refl _⟩) (by rw [viewA_next]; exact hn) nw
    have hargs:rnL (bkA a d) args=some args0:=by
      unfold isL at f1
      split at f1
      · rename_i y hy; rw [hy,eqAVs_eq _ _ f1]
      · cases f1
    have c2:CallOk p f args (viewA h.next (viewFw a d l)) ((t.bind fun r=>graftT n l (viewA h.next l) (nw r) r).bind fun r=>aliasT a d r):=by
      refine CallOk.alias c1 h1000 (by rw [viewA_next]; omega) hne (by rw [viewA_next,viewA_next]) (fun b o g=>?_) hargs (fun E w0 w HH _=>?_)
      · have hm:=viewA_get _ _ _ _ g
        have k:=lAll_mem f2 _ hm
        rw [Bool.and_eq_true] at k
        refine ⟨fun hb=>?_,renO a (fwA a d) o,?_,isO_eq k.2⟩
        · have k1:(!Nat.beq b a)=true:=k.1
          rw [hb,beq_t.2 rfl] at k1; cases k1
        · have hm2:(b,renO a (fwA a d) o) ∈ viewFw a d l:=by unfold viewFw; rw [lMap_eq]; exact List.mem_map.2 ⟨(b,o),hm,rfl⟩
          exact viewA_mem _ _ 0 up' _ hm2
      · split at hhd
        · rename_i e' he
          have:=beq_t.1 hhd; subst this
          unfold headAt at he
          split at he
          · rename_i x cs el own ext hx
            obtain ⟨c,base,vs,cells,el',fz,k1,k2,_⟩:=HH.obj _ _ hx
            obtain ⟨v,r,q1,q2,q3⟩:=concL_cons.1 k2
            exact headOf_def he q1
          · cases he
        · cases hhd
    exact c2.frame (by omega) f5 f4 (lessAll_ok f3) (Nat.le_refl _) nw2
  · cases e
end Go.Sx
