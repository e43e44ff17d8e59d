/- MAPS of which it is known that some keys lie there: told with fewer keys,or by other expressions. -/
import Derived.Test.YtpkonfmonoaajaaDoorSxMoved
/-! CALLS,AS THEY ARE SAID: checks of what a run leaves,and maps whose test speaks of what lies there. -/
namespace Go.Sx
open Go.RowKit

/-! ## Objects alike,to the letter -/
noncomputable def eqPT:PT AV→PT AV→Bool
  | .nil,.nil=>true
  | .node none l r,.node none l' r'=>and (eqPT l l') (eqPT r r')
  | .node (some a) l r,.node (some b) l' r'=>and (eqAV a b) (and (eqPT l l') (eqPT r r'))
  | _,_=>false
theorem eqPT_eq:∀ (t u:PT AV),eqPT t u=true→t=u
  | .nil,u,h=>by cases u with | nil=>rfl | node v l r=>simp [eqPT] at h
  | .node none l r,u,h=>by
    cases u with
    | nil=>simp [eqPT] at h
    | node v l' r'=>cases v with
      | none =>
        simp only [eqPT,Bool.and_eq_true] at h
        rw [eqPT_eq l l' h.1,eqPT_eq r r' h.2]
      | some b=>simp [eqPT] at h
  | .node (some a) l r,u,h=>by
    cases u with
    | nil=>simp [eqPT] at h
    | node v l' r'=>cases v with
      | none=>simp [eqPT] at h
      | some b =>
        simp only [eqPT,Bool.and_eq_true] at h
        rw [eqAV_eq a b h.1,eqPT_eq l l' h.2.1,eqPT_eq r r' h.2.2]
def eqSt (a b:LoopState):Bool :=
  match a,b with
  | .ready,.ready=>true
  | .busy,.busy=>true
  | .done,.done=>true
  | .exhausted,.exhausted=>true
  | _,_=>false
theorem eqSt_eq {a b:LoopState} (h:eqSt a b=true):a=b:=by cases a <;> cases b <;> first | rfl | cases h
def eqEx (a b:Ex):Bool :=
  match a,b with
  | .norm,.norm=>true
  | .exit i,.exit j=>Nat.beq i j
  | .ret,.ret=>true
  | _,_=>false
theorem eqEx_eq {a b:Ex} (h:eqEx a b=true):a=b:=by
  cases a <;> cases b <;> first | rfl | (cases h; done) | (rw [beq_t.1 h])
def eqNs:List Nat→List Nat→Bool
  | [],[]=>true
  | a :: l,b :: m=>and (Nat.beq a b) (eqNs l m)
  | _,_=>false
theorem eqNs_eq:∀ (l m:List Nat),eqNs l m=true→l=m
  | [],[],_=>rfl
  | [],_ :: _,h=>by cases h
  | _ :: _,[],h=>by cases h
  | a :: l,b :: m,h=>by
    simp only [eqNs,Bool.and_eq_true] at h
    rw [beq_t.1 h.1,eqNs_eq l m h.2]
noncomputable def eqFs:List (Bool × Nat)→List (Bool × Nat)→Bool
  | [],[]=>true
  | a :: l,b :: m=>and (beqB a.1 b.1) (and (Nat.beq a.2 b.2) (eqFs l m))
  | _,_=>false
theorem eqFs_eq:∀ (l m:List (Bool × Nat)),eqFs l m=true→l=m
  | [],[],_=>rfl
  | [],_ :: _,h=>by cases h
  | _ :: _,[],h=>by cases h
  | a :: l,b :: m,h=>by
    simp only [eqFs,Bool.and_eq_true] at h
    obtain ⟨a1,a2⟩:=a; obtain ⟨b1,b2⟩:=b
    have h1:=beqB_eq h.1; have h2:=beq_t.1 h.2.1
    simp only at h1 h2
    rw [h1,h2,eqFs_eq l m h.2.2]
noncomputable def eqKs3:List (BE × IE × IE × IE)→List (BE × IE × IE × IE)→Bool
  | [],[]=>true
  | a :: l,b :: m=>and (and (eqBE a.1 b.1) (keyEq a.2 b.2)) (eqKs3 l m)
  | _,_=>false
theorem eqKs3_eq:∀ (l m:List (BE × IE × IE × IE)),eqKs3 l m=true→l=m
  | [],[],_=>rfl
  | [],_ :: _,h=>by cases h
  | _ :: _,[],h=>by cases h
  | a :: l,b :: m,h=>by
    simp only [eqKs3,Bool.and_eq_true] at h
    rw [show a=b from Prod.ext (eqBE_eq _ _ h.1.1) (keyEq_eq h.1.2),eqKs3_eq l m h.2]
noncomputable def eqPs (a b:Pres):Bool:=and (Nat.beq a.sure b.sure) (and (eqKs3 a.keys b.keys) (eqNs a.cl b.cl))
theorem eqPs_eq {a b:Pres} (h:eqPs a b=true):a=b:=by
  simp only [eqPs,Bool.and_eq_true] at h
  obtain ⟨h1,h2,h3⟩:=h
  cases a; cases b
  simp only at h1 h2 h3
  rw [beq_t.1 h1,eqKs3_eq _ _ h2,eqNs_eq _ _ h3]
noncomputable def eqMU (a b:MU):Bool:=and (Nat.beq a.fb b.fb) (and (eqFs a.fi b.fi) (and (beqB a.ag b.ag) (and (Nat.beq a.nk b.nk) (and (beqB a.live b.live) (eqPs a.ps b.ps)))))
theorem eqMU_eq {a b:MU} (h:eqMU a b=true):a=b:=by
  simp only [eqMU,Bool.and_eq_true] at h
  obtain ⟨h1,h2,h3,h4,h5,h6⟩:=h
  cases a; cases b
  simp only at h1 h2 h3 h4 h5 h6
  rw [beq_t.1 h1,eqFs_eq _ _ h2,beqB_eq h3,beq_t.1 h4,beqB_eq h5,eqPs_eq h6]
noncomputable def eqO (a b:AObj):Bool :=
  match a,b with
  | .cells cs el own ext,.cells cs' el' own' ext'=>and (eqAVs cs cs') (and (Nat.beq el el') (and (beqB own own') (beqB ext ext')))
  | .umap m,.umap m'=>eqMU m m'
  | .loop st p f tm ps c d,.loop st' p' f' tm' ps' c' d'=>and (eqSt st st') (and (eqEx p p') (and (Nat.beq f f') (and (eqPT tm tm') (and (eqNs ps ps') (and (Nat.beq c c') (Nat.beq d d'))))))
  | .defd a,.defd b=>beqB a b
  | _,_=>false
theorem eqO_eq {a b:AObj} (h:eqO a b=true):a=b:=by
  cases a <;> cases b <;> simp only [eqO,Bool.and_eq_true] at h <;> first | (cases h; done) | skip
  · rw [eqMU_eq h]
  · rw [eqAVs_eq _ _ h.1,beq_t.1 h.2.1,beqB_eq h.2.2.1,beqB_eq h.2.2.2]
  · obtain ⟨h1,h2,h3,h4,h5,h6,h7⟩:=h
    rw [eqSt_eq h1,eqEx_eq h2,beq_t.1 h3,eqPT_eq _ _ h4,eqNs_eq _ _ h5,beq_t.1 h6,beq_t.1 h7]
  · rw [beqB_eq h]
noncomputable def isO (o:Option AObj) (q:AObj):Bool :=
  match o with
  | some x=>eqO x q
  | none=>false
theorem isO_eq {o:Option AObj} {q:AObj} (h:isO o q=true):o=some q:=by
  cases o with
  | none=>cases h
  | some x=>rw [eqO_eq h]

/-- what is told is no more than what lies there -/
noncomputable def lessO (q:AObj) (o:Option AObj):Bool :=
  match o with
  | none=>false
  | some x=>cond (eqO x q) true (match q,x with
    | .cells cs 0 false false,.cells cs' _ _ _=>eqAVs cs' cs
    | .umap m,.umap m'=>eqMU m'.dull m
    | _,_=>false)
theorem lessO_ok {q:AObj} {o:Option AObj} (h:lessO q o=true):∃ x,o=some x∧Less q x:=by
  cases o with
  | none=>cases h
  | some x =>
    refine ⟨x,rfl,?_⟩
    simp only [lessO] at h
    cases h1:eqO x q with
    | true=>rw [eqO_eq h1]; exact .refl _
    | false =>
      rw [h1,cond_false] at h
      split at h
      · rw [eqAVs_eq _ _ h]; exact .read _ _ _ _
      · rw [← eqMU_eq h]; exact .dull _
      · cases h
noncomputable def lessAll (h:Heap) (l:List (Nat × AObj)):Bool:=lAll (fun g:Nat × AObj=>lessO g.2 (h.get g.1)) l
theorem lessAll_ok {h:Heap} {l:List (Nat × AObj)} (e:lessAll h l=true):∀ g ∈ l,∃ o,h.get g.1=some o∧Less g.2 o:=fun g hg=>lessO_ok (lAll_mem e g hg)

/-- an object tells what it tells,on whatever terms -/
theorem SameA.refl {P:Program} {RC:Nat→Nat→List Nat→Code→Code→Prop} {ok ok':Rho→(Nat→Obj→Prop)→Prop} {ρ:Rho} (o:AObj):SameA ⟨P,RC,ok⟩ ⟨P,RC,ok'⟩ ρ o ρ o :=
  ⟨fun h=>h,fun h=>h,fun σ κ n rc heap b h=>by cases o <;> exact h⟩
theorem SameA.cells {p0 p:Par} {ρ0 ρ:Rho} {cs0 cs:List AV} {el:TypeId} {own ext:Bool} (hP:p0.P=p.P) (h:SameL ρ0 cs0 ρ cs):SameA p0 p ρ0 (.cells cs0 el own ext) ρ (.cells cs el own ext) :=
  ⟨fun h=>h,fun h=>h,fun σ κ n rc heap b ⟨c,base,vs,cells,el',fz,k1,k2,k3,k4,k5⟩=>⟨c,base,vs,cells,el',fz,k1,(h σ κ n n rc rc).symm.trans k2,k3,k4,by rw [← hP]; exact k5⟩⟩
theorem SameA.dead {p0 p:Par} {ρ0 ρ:Rho} {o:AObj}:SameA p0 p ρ0 o ρ .dead:=⟨fun h=>(by cases h),fun h=>(by cases h),fun _ _ _ _ _ _ _=>trivial⟩
/-- a new map tells nothing wrong -/
theorem SameA.empty {p0 p:Par} {ρ0 ρ:Rho} {k:Nat} {m:MU} (hm:m.live=false) (hk:m.ps.keys=[]:=by rfl) (hs:m.ps.sure ≠ 0→∀ a b c,FB ρ.fb m.ps.sure a b c=false:=by exact fun h=>absurd rfl h):SameA p0 p ρ0 (.map [] k) ρ (.umap m) :=
  ⟨fun _=>rfl,fun h=>(by cases h),fun σ κ n rc heap b ⟨c,ms,k1,k2,k3⟩=>⟨c,[],ms,k,k1,(by cases ms with | nil=>trivial | cons _ _=>exact k2.elim),k3,fun e he=>(by cases he),(fun h=>by rw [hm] at h; cases h),(fun h a b c hb=>by rw [hs h] at hb; cases hb),(fun f hf=>by rw [hk] at hf; cases hf),fun _ _ _ _ _ _ _ _ _ ⟨_,he,_⟩=>by cases he⟩⟩

mutual
theorem conc_bare {ρ:Rho} {σ:Nat→Option (Nat × Nat)} {κ:Nat→Nat} {n m:Nat} {rc rc':Nat→Array Value}:∀ (a:AV),conc ⟨ρ,σ,κ,n,rc⟩ a=conc ⟨ρ,σ,κ,m,rc'⟩ a
  | .bool _=>rfl
  | .int _ _=>rfl
  | .ptr _ _=>rfl
  | .nilptr=>rfl
  | .slice _ _ _ _=>rfl
  | .sliceX _ _ _ _=>rfl
  | .nilslice=>rfl
  | .map _=>rfl
  | .nilmap=>rfl
  | .func fn x y=>by simp only [conc,show concL ⟨ρ,σ,κ,n,rc⟩ x=concL ⟨ρ,σ,κ,m,rc'⟩ x from concL_bare x,show concL ⟨ρ,σ,κ,n,rc⟩ y=concL ⟨ρ,σ,κ,m,rc'⟩ y from concL_bare y]
  | .yieldF _=>rfl
  | .nilFunc=>rfl
  | .agg l=>by simp only [conc,show concL ⟨ρ,σ,κ,n,rc⟩ l=concL ⟨ρ,σ,κ,m,rc'⟩ l from concL_bare l]
  | .tup l=>by simp only [conc,show concL ⟨ρ,σ,κ,n,rc⟩ l=concL ⟨ρ,σ,κ,m,rc'⟩ l from concL_bare l]
  | .opq _=>rfl
  | .sliceU _=>rfl
  | .sliceV _ _=>rfl
  | .ptrV _ _ _ _ _=>rfl
  | .bad=>rfl
theorem concL_bare {ρ:Rho} {σ:Nat→Option (Nat × Nat)} {κ:Nat→Nat} {n m:Nat} {rc rc':Nat→Array Value}:∀ (l:List AV),concL ⟨ρ,σ,κ,n,rc⟩ l=concL ⟨ρ,σ,κ,m,rc'⟩ l
  | []=>rfl
  | a :: l=>by simp only [concL,show conc ⟨ρ,σ,κ,n,rc⟩ a=conc ⟨ρ,σ,κ,m,rc'⟩ a from conc_bare a,show concL ⟨ρ,σ,κ,n,rc⟩ l=concL ⟨ρ,σ,κ,m,rc'⟩ l from concL_bare l]
end
theorem SameV.refl (ρ:Rho) (v:AV):SameV ρ v ρ v:=fun _ _ _ _ _ _=>conc_bare v
theorem SameL.refl (ρ:Rho) (l:List AV):SameL ρ l ρ l:=fun _ _ _ _ _ _=>concL_bare l

/-! ## Trees alike -/
noncomputable def eqTF (t u:T AV):Bool :=
  match t,u with
  | .ret a,.ret b=>eqAV a b
  | .fail a,.fail b=>Nat.beq a b
  | .br c x y,.br c' x' y'=>and (eqBE c c') (and (eqTF x x') (eqTF y y'))
  | _,_=>false
theorem eqTF_eq:∀ (t u:T AV),eqTF t u=true→t=u
  | .ret a,u,h=>by
    cases u <;> simp only [eqTF] at h <;> first | (cases h; done) | skip
    rw [eqAV_eq _ _ h]
  | .fail w,u,h=>by
    cases u <;> simp only [eqTF] at h <;> first | (cases h; done) | skip
    rw [beq_t.1 h]
  | .br c x y,u,h=>by
    cases u <;> simp only [eqTF,Bool.and_eq_true] at h <;> first | (cases h; done) | skip
    rw [eqBE_eq _ _ h.1,eqTF_eq x _ h.2.1,eqTF_eq y _ h.2.2]
/-- what is asked of a run,asked of what its ends look like -/
theorem T.holds_enc {α:Type} {ρ:Rho} {t:T α} {enc:α→AV} {u:T AV} (h:(t.bind fun r=>T.ret (enc r))=u) {P:α→Prop} (k:u.Holds ρ fun a=>∀ r,enc r=a→P r):t.Holds ρ P:=by
  rw [← h,T.holds_bind] at k
  exact T.holds_mono (fun r hr=>hr r rfl) k

/-! ## A map's test,made to speak of what lies there -/
def Rho.setB (ρ:Rho) (i:Nat) (B:Int→Int→Int→Bool):Rho:=⟨ρ.iv,ρ.bv,ρ.fi,fun j=>if j=i then B else ρ.fb j,ρ.ov⟩

/-- what is known to lie there does not depend on a test -/
noncomputable def Pres.clear (s:Pres) (i:Nat):Bool:=and s.keys.isEmpty (and (Bool.not (Nat.beq s.sure i)) (lAll (fun j=>Bool.not (Nat.beq j i)) s.cl))
theorem PresOk.setB {ρ:Rho} {m:MU} {es:List (AV × AV × Nat)} (H:PresOk ρ m es) {i:Nat} {B:Int→Int→Int→Bool} (h:m.ps.clear i=true):PresOk (ρ.setB i B) m es:=by
  simp only [Pres.clear,Bool.and_eq_true,List.isEmpty_iff,Bool.not_eq_true'] at h
  obtain ⟨h1,h2,h3⟩:=h
  have hne:∀ j,Nat.beq j i=false→∀ a b c,FB (ρ.setB i B).fb j a b c=FB ρ.fb j a b c:=fun j hj a b c=>by
    unfold FB Rho.setB
    simp only [if_neg (Nat.ne_of_beq_eq_false hj)]
  refine ⟨fun k a b c hb=>H.1 k a b c (by rw [← hne _ h2]; exact hb),(fun f hf=>by rw [h1] at hf; cases hf),fun e p x y hc h3' a b c ha he hp=>?_⟩
  have he':=lAll_mem h3 e (by rw [hc]; simp)
  rw [hne e (by simpa using he')] at he
  exact H.2.2 e p x y hc h3' a b c ha he hp
theorem UOk.live {ρ:Rho} {m:MU} {es:List (AV × AV × Nat)} (h:UOk ρ m.dull es) (h1:1000≤m.fb) (hfi:∀ q ∈ m.fi,q.2 ≠ m.fb) (hps:m.ps.clear m.fb=true):∃ B,UOk (ρ.setB m.fb B) m es:=by
  classical
  refine ⟨fun a b c=>decide (∃ e ∈ es,e.1=keyU m.nk a b c),fun e he=>?_,fun _ a b c _ _=>?_,PresOk.setB (m:=m) h.2.2 hps⟩
  · obtain ⟨a,b,c,k1,k2,k3,k4⟩:=h.1 e he
    refine ⟨a,b,c,k1,k2,k3,k4.trans ?_⟩
    have hc:∀ q ∈ m.fi,umCellL ρ a b c q=umCellL (ρ.setB m.fb fun a b c=>decide (∃ e ∈ es,e.1=keyU m.nk a b c)) a b c q:=fun q hq=>by
      unfold umCellL FB FI Rho.setB
      simp only [if_neg (hfi q hq)]
    unfold umValL MU.dull
    simp only
    rw [List.map_congr_left hc]
    cases m.ag with
    | true=>rfl
    | false =>
      simp only [cond_false]
      have:=hc
      revert this
      cases m.fi with
      | nil=>intro _; rfl
      | cons q l=>cases l with
        | nil=>intro hh; exact hh q List.mem_cons_self
        | cons _ _=>intro _; rfl
  · unfold FB Rho.setB
    simp only [if_pos h1,if_true,decide_eq_true_eq]

/-- A CALL THAT LOOKS INTO A MAP,where the map's test need speak of nothing. -/
theorem CallOk.live {p : Par} {f : FuncId} {args : List AV} {h : Heap} {t : T (AV × Heap)} {b : Nat} {m : MU} (h1 : 1000 ≤ m.fb) (hfi : ∀ q ∈ m.fi, q.2 ≠ m.fb) (hc : CallOk p f args (h.put b (.umap m)) t)
    (hst:∀ ρ B c,p.okB ρ c→p.okB (ρ.setB m.fb B) c) (hargs:∀ ρ B,SameL ρ args (ρ.setB m.fb B) args) (hh:∀ ρ B j o,j ≠ b→h.get j=some o→SameA p p ρ o (ρ.setB m.fb B) o)
    (ht:∀ ρ B (Q:AV × Heap→Prop),t.Holds ρ Q→t.Holds (ρ.setB m.fb B) fun r0=>∃ r,Q r∧SameV (ρ.setB m.fb B) r0.1 ρ r.1∧SameH p p (ρ.setB m.fb B) r0.2 ρ r.2) (hps:m.ps.clear m.fb=true:=by rfl):CallOk p f args (h.put b (.umap m.dull)) t:=by
  intro vs E w0 w Q K k HH ha P
  have hg:(h.put b (.umap m.dull)).get b=some (.umap m.dull):=by rw [Heap.get_put,if_pos rfl]
  obtain ⟨c,es,ms,clock,g1,g2,g3,g4⟩:=HH.obj _ _ hg
  obtain ⟨B,hU⟩:=g4.live h1 hfi hps
  let E':Env:=⟨E.ρ.setB m.fb B,E.σ,E.κ,E.n,E.rc⟩
  have back:∀ j o,(h.put b (.umap m)).get j=some o→∃ o0,(h.put b (.umap m.dull)).get j=some o0∧ownO o0=ownO o∧roO o0=roO o:=fun j o g=>by
    rw [Heap.get_put] at g
    rw [Heap.get_put]
    by_cases hj:j=b
    · rw [if_pos hj] at g ⊢; cases g; exact ⟨_,rfl,rfl,rfl⟩
    · rw [if_neg hj] at g ⊢; exact ⟨o,g,rfl,rfl⟩
  have HH':HeapOk p E' (h.put b (.umap m)) w0 w:=by
    refine ⟨fun j o g=>?_,fun j j' o o' c x y k1 k2 w1 w2 s1 s2=>?_,fun j o c x g hw s=>?_,fun j o c y g hr s=>?_,HH.fresh,fun j o c x g s=>?_,HH.glob,HH.below,HH.nx,hst _ _ _ HH.ok⟩
    · by_cases hj:j=b
      · subst hj
        rw [Heap.get_put,if_pos rfl] at g; cases g
        have lit:∀ (es:List (AV × AV × Nat)) (ms:List MapEntry),(∀ e ∈ es,∃ a b c,(m.nk < 2→b=0)∧(m.nk < 3→c=0)∧e.1=keyU m.nk a b c∧e.2.1=umValL (E.ρ.setB m.fb B) m a b c)→concE E es ms→concE E' es ms:=by
          intro es
          induction es with
          | nil=>intro ms _ h; cases ms with | nil=>trivial | cons _ _=>exact h.elim
          | cons e es ih =>
            intro ms hl h
            cases ms with
            | nil=>exact h.elim
            | cons m' ms =>
              obtain ⟨q1,q2,q3,q4⟩:=h
              obtain ⟨x,y,z,_,_,e1,e2⟩:=hl e List.mem_cons_self
              have hk:conc E' e.1=conc E e.1:=by rw [e1]; unfold keyU; split <;> rfl
              have hc:∀ q,conc E' (umCellL (E.ρ.setB m.fb B) x y z q)=conc E (umCellL (E.ρ.setB m.fb B) x y z q):=fun q=>by unfold umCellL; cases q.1 <;> rfl
              have hcs:∀ l:List (Bool × Nat),concL E' (l.map (umCellL (E.ρ.setB m.fb B) x y z))=concL E (l.map (umCellL (E.ρ.setB m.fb B) x y z)):=fun l=>by
                induction l with
                | nil=>rfl
                | cons q l ih=>simp only [List.map_cons,concL,hc,ih]
              have hv:conc E' e.2.1=conc E e.2.1:=by
                rw [e2]; unfold umValL
                cases m.ag with
                | true=>simp only [cond_true,conc,hcs]
                | false =>
                  simp only [cond_false]
                  cases m.fi with
                  | nil=>rfl
                  | cons q l=>cases l with
                    | nil=>exact hc q
                    | cons _ _=>rfl
              exact ⟨hk.trans q1,hv.trans q2,q3,ih ms (fun e' he'=>hl e' (List.mem_cons_of_mem _ he')) q4⟩
        exact ⟨c,es,ms,clock,g1,lit es ms hU.1 g2,g3,hU⟩
      · have g':h.get j=some o:=by rw [Heap.get_put,if_neg hj] at g; exact g
        have g0:(h.put b (.umap m.dull)).get j=some o:=by rw [Heap.get_put,if_neg hj]; exact g'
        exact (hh E.ρ B j o hj g').2.2 E.σ E.κ E.n E.rc w.heap j (HH.obj j o g0)
    · obtain ⟨o1,a1,a2,_⟩:=back j o k1
      obtain ⟨o2,c1,c2,_⟩:=back j' o' k2
      exact HH.inj _ _ _ _ _ _ _ a1 c1 (a2.trans w1) (c2.trans w2) s1 s2
    · obtain ⟨o1,a1,a2,_⟩:=back j o g
      exact HH.base _ _ _ _ a1 (a2.trans hw) s
    · obtain ⟨o1,a1,_,a3⟩:=back j o g
      exact HH.ro _ _ _ _ a1 (a3.trans hr) s
    · obtain ⟨o1,a1,_⟩:=back j o g
      exact HH.lt _ _ _ _ a1 s
  have ha':concL E' args=some vs:=by rw [← hargs E.ρ B E.σ E.κ E.n E.n E.rc E.rc]; exact ha
  refine hc vs E' w0 w _ K (ht E.ρ B Q k) HH' ha' ?_
  intro v' h' E1 w' cv q hle H1 hcv
  obtain ⟨r,hq,hv,hs⟩:=q
  have hρ1:E1.ρ=E.ρ.setB m.fb B:=hle.ρ
  have H2:HeapOk p ⟨E.ρ,E1.σ,E1.κ,E1.n,E1.rc⟩ r.2 w0 w':=HeapOk.read (ρ0:=E.ρ.setB m.fb B) (σ:=E1.σ) (κ:=E1.κ) (n:=E1.n) (rc:=E1.rc) (by rw [← hρ1]; exact H1) hs HH.ok
  refine P r.1 r.2 ⟨E.ρ,E1.σ,E1.κ,E1.n,E1.rc⟩ w' cv hq ⟨⟨rfl,hle.σ,hle.κ,hle.rc⟩,hle.n,hle.none⟩ H2 ?_
  rw [← hv E1.σ E1.κ E1.n E1.n E1.rc E1.rc,← hρ1]; exact hcv
end Go.Sx
/-! VALUES THAT NAME NO NUMBER FROM 500 ON: read alike,whatever those are. -/
namespace Go.Sx
open Go.RowKit
mutual
def plV:AV→Bool
  | .bool b=>varsB 500 b
  | .int _ e=>varsI 500 e
  | .ptr _ _=>true
  | .nilptr=>true
  | .slice _ _ _ _=>true
  | .sliceX _ _ _ _=>true
  | .nilslice=>true
  | .map _=>true
  | .nilmap=>true
  | .func _ x y=>and (plVs x) (plVs y)
  | .yieldF _=>true
  | .nilFunc=>true
  | .agg l=>plVs l
  | .tup l=>plVs l
  | _=>false
def plVs:List AV→Bool
  | []=>true
  | a :: l=>and (plV a) (plVs l)
end
/-- numbers alike below 500,and what names mean -/
structure Alike (ρ ρ':Rho):Prop where
  iv:∀ i,i < 500→ρ'.iv i=ρ.iv i
  bv:ρ'.bv=ρ.bv
  f:ρ'.fi=ρ.fi∧ρ'.fb=ρ.fb
theorem Alike.symm {ρ ρ':Rho} (h:Alike ρ ρ'):Alike ρ' ρ:=⟨fun i hi=>(h.iv i hi).symm,h.bv.symm,h.f.1.symm,h.f.2.symm⟩
mutual
theorem SameV.pl {ρ ρ':Rho} (h:Alike ρ ρ'):∀ v:AV,plV v=true→SameV ρ v ρ' v
  | .bool b,hp=>SameV.bool (varsB_den h.iv h.bv h.f b hp).symm
  | .int k e,hp=>SameV.int (varsI_den h.iv h.f e hp).symm
  | .ptr _ _,_=>SameV.ptr _ _
  | .nilptr,_=>fun _ _ _ _ _ _=>rfl
  | .slice _ _ _ _,_=>SameV.slice _ _ _ _
  | .sliceX _ _ _ _,_=>SameV.sliceX _ _ _ _
  | .nilslice,_=>SameV.nilslice
  | .map _,_=>SameV.map _
  | .nilmap,_=>fun _ _ _ _ _ _=>rfl
  | .func fn x y,hp=>by
    simp only [plV,Bool.and_eq_true] at hp
    exact SameV.func (SameL.pl h x hp.1) (SameL.pl h y hp.2)
  | .yieldF _,_=>fun _ _ _ _ _ _=>rfl
  | .nilFunc,_=>SameV.nilFunc
  | .agg l,hp=>SameV.agg (SameL.pl h l (by simpa [plV] using hp))
  | .tup l,hp=>fun σ κ n m rc rc'=>by
    have:=SameL.pl h l (by simpa [plV] using hp) σ κ n m rc rc'
    simp only [conc,this]
  | .opq _,hp=>by simp [plV] at hp
  | .sliceU _,hp=>by simp [plV] at hp
  | .sliceV _ _,hp=>by simp [plV] at hp
  | .ptrV _ _ _ _ _,hp=>by simp [plV] at hp
  | .bad,hp=>by simp [plV] at hp
theorem SameL.pl {ρ ρ':Rho} (h:Alike ρ ρ'):∀ l:List AV,plVs l=true→SameL ρ l ρ' l
  | [],_=>SameL.nil
  | a :: l,hp=>by
    simp only [plVs,Bool.and_eq_true] at hp
    exact SameL.cons (SameV.pl h a hp.1) (SameL.pl h l hp.2)
end
def nbF:List (Bool × Nat)→Bool
  | []=>true
  | q :: l=>and (Bool.not q.1) (nbF l)
theorem nbF_mem:∀ (l:List (Bool × Nat)),nbF l=true→∀ q ∈ l,q.1=false
  | [],_,q,hq=>by cases hq
  | p :: l,h,q,hq=>by
    simp only [nbF,Bool.and_eq_true,Bool.not_eq_true'] at h
    rcases List.mem_cons.1 hq with rfl | hq
    · exact h.1
    · exact nbF_mem l h.2 q hq
def Pres.isNo (s:Pres):Bool:=and (Nat.beq s.sure 0) (and s.keys.isEmpty s.cl.isEmpty)
theorem Pres.isNo_eq {s:Pres} (h:s.isNo=true):s=.no:=by
  obtain ⟨a,b,c⟩:=s
  simp only [Pres.isNo,Bool.and_eq_true,List.isEmpty_iff] at h
  obtain ⟨h1,h2,h3⟩:=h
  have h1:=beq_t.1 h1
  subst h1 h2 h3; rfl
def plO:AObj→Bool
  | .cells cs _ _ _=>plVs cs
  | .umap m=>and (and (Bool.not m.live) m.ps.isNo) (nbF m.fi)
  | .loop _ _ _ tm _ _ _=>ptAll plV tm
  | .defd _=>true
  | .dead=>true
  | _=>false
theorem SameA.umap {p0 p:Par} {ρ0 ρ:Rho} {m:MU} (hl:m.live=false) (hfi:ρ.fi=ρ0.fi) (hnb:∀ q ∈ m.fi,q.1=false) (hps:m.ps=.no:=by rfl):SameA p0 p ρ0 (.umap m) ρ (.umap m):=by
  refine ⟨fun _=>rfl,fun h=>absurd h (by simp [roO]),fun σ κ n rc heap b ⟨c,es,ms,k,k1,k2,k3,k4⟩=>?_⟩
  have hc:∀ (a b c:Int) (q:Bool × Nat),q ∈ m.fi→umCellL ρ a b c q=umCellL ρ0 a b c q:=fun a b c q hq=>by
    unfold umCellL; rw [hnb q hq,hfi]; rfl
  have hv:∀ a b c,umValL ρ m a b c=umValL ρ0 m a b c:=fun a b c=>by
    unfold umValL
    rw [List.map_congr_left (hc a b c)]
    cases m.ag with
    | true=>rfl
    | false =>
      simp only [cond_false]
      have:=hc a b c
      revert this
      cases m.fi with
      | nil=>intro _; rfl
      | cons q l=>cases l with
        | nil=>intro hh; exact hh q List.mem_cons_self
        | cons _ _=>intro _; rfl
  have hU:UOk ρ m es:=⟨fun e he=>by
    obtain ⟨a,b,c,z1,z2,z3,z4⟩:=k4.1 e he
    exact ⟨a,b,c,z1,z2,z3,by rw [hv]; exact z4⟩,(fun h=>by rw [hl] at h; cases h),PresOk.no hps⟩
  refine ⟨c,es,ms,k,k1,?_,k3,hU⟩
  have lit:∀ (es:List (AV × AV × Nat)) (ms:List MapEntry),(∀ e ∈ es,∃ a b c,(m.nk < 2→b=0)∧(m.nk < 3→c=0)∧e.1=keyU m.nk a b c∧e.2.1=umValL ρ m a b c)→concE ⟨ρ0,σ,κ,n,rc⟩ es ms→concE ⟨ρ,σ,κ,n,rc⟩ es ms:=by
    intro es
    induction es with
    | nil=>intro ms _ h; cases ms with | nil=>trivial | cons _ _=>exact h.elim
    | cons e es ih =>
      intro ms hl h
      cases ms with
      | nil=>exact h.elim
      | cons m' ms =>
        obtain ⟨q1,q2,q3,q4⟩:=h
        obtain ⟨x,y,z,_,_,e1,e2⟩:=hl e List.mem_cons_self
        have hk:conc ⟨ρ,σ,κ,n,rc⟩ e.1=conc ⟨ρ0,σ,κ,n,rc⟩ e.1:=by rw [e1]; unfold keyU; split <;> rfl
        have hcc:∀ q,conc ⟨ρ,σ,κ,n,rc⟩ (umCellL ρ x y z q)=conc ⟨ρ0,σ,κ,n,rc⟩ (umCellL ρ x y z q):=fun q=>by unfold umCellL; cases q.1 <;> rfl
        have hcs:∀ l:List (Bool × Nat),concL ⟨ρ,σ,κ,n,rc⟩ (l.map (umCellL ρ x y z))=concL ⟨ρ0,σ,κ,n,rc⟩ (l.map (umCellL ρ x y z)):=fun l=>by
          induction l with
          | nil=>rfl
          | cons q l ih=>simp only [List.map_cons,concL,hcc,ih]
        have hvv:conc ⟨ρ,σ,κ,n,rc⟩ e.2.1=conc ⟨ρ0,σ,κ,n,rc⟩ e.2.1:=by
          rw [e2]; unfold umValL
          cases m.ag with
          | true=>simp only [cond_true,conc,hcs]
          | false =>
            simp only [cond_false]
            cases m.fi with
            | nil=>rfl
            | cons q l=>cases l with
              | nil=>exact hcc q
              | cons _ _=>rfl
        exact ⟨hk.trans q1,hvv.trans q2,q3,ih ms (fun e' he'=>hl e' (List.mem_cons_of_mem _ he')) q4⟩
  exact lit es ms hU.1 k2
/-- an object that names no number from 500 on -/
theorem SameA.pl {P:Program} {RC:Nat→Nat→List Nat→Code→Code→Prop} {ok ok':Rho→(Nat→Obj→Prop)→Prop} {ρ ρ':Rho} (h:Alike ρ ρ') {o:AObj} (hp:plO o=true):SameA ⟨P,RC,ok⟩ ⟨P,RC,ok'⟩ ρ o ρ' o:=by
  cases o with
  | cells cs el own ext=>exact SameA.cells rfl (SameL.pl h cs hp)
  | umap m =>
    simp only [plO,Bool.and_eq_true,Bool.not_eq_true'] at hp
    exact SameA.umap hp.1.1 h.f.1 (nbF_mem _ hp.2) (Pres.isNo_eq hp.1.2)
  | loop st p f tm ps c d =>
    refine ⟨fun h=>h,fun h=>h,fun σ κ n rc heap b ⟨c',d',nn,keep,r,k1,k2,k3,k4,k5,k6,k7,k8,k9,k10⟩=>⟨c',d',nn,keep,r,k1,k2,k3,k4,k5,k6,⟨fun i a e=>?_⟩,k8,k9,k10⟩⟩
    obtain ⟨m1,v,m2,m3⟩:=k7.at_ i a e
    exact ⟨m1,v,by rw [← SameV.pl h a (ptAll_get _ _ _ hp e) σ κ n n rc rc]; exact m2,m3⟩
  | defd t=>exact ⟨fun h=>h,fun h=>h,fun σ κ n rc heap b h=>h⟩
  | dead=>exact SameA.dead
  | _=>cases hp
end Go.Sx
/-! A CALL THAT ONLY READS A BLOCK,WHEREVER THIS BLOCK LIES,and makes a list. -/
namespace Go.Sx
open Go.RowKit
noncomputable def nameM (n c:Nat) (b:Nat):Option Nat:=cond (Nat.beq b n) (some c) none
/-- the value,and the new block of a smaller heap,in the larger one -/
noncomputable def mvT (n:Nat) (h:Heap) (r:AV × Heap):T (AV × Heap) :=
  match r.2.get n with
  | some o=>cond (and (ownO o) (and (idsO 0 o) (idsO n o))) (match rnV (nameM n h.next) r.1 with
    | some v=>.ret (v,h.new o)
    | none=>.fail 98) (.fail 98)
  | none=>.fail 98
theorem CallOk.movedT {p : Par} {f : FuncId} {args0 args : List AV} {n a c : Nat} {l : List (Nat × AObj)} {t : T (AV × Heap)} (hc : CallOk p f args0 (viewA n l) t)
    (h1000:1000≤n) (ha:1000≤a) (hl:∀ g ∈ l,g.1 < n∧ownO g.2=false∧idsO 0 g.2=true)
    {h:Heap} (hn:n≤h.next) (hm:∀ g ∈ l,∃ o,h.get (mvN a c g.1)=some o∧Less g.2 o) (hargs:∀ E:Env,concL (E.mv a c n) args0=concL E args):CallOk p f args h (t.bind fun r=>mvT n h r):=by
  intro vs E w0 w Q K k HH hA P
  rw [T.holds_bind] at k
  let b1:Base:=Base.of w
  have none0:∀ b,b < 0→(E.mv a c n).σ b=E.σ b∧(E.σ b ≠ none→(E.mv a c n).κ b=E.κ b):=fun b hb=>absurd hb (Nat.not_lt_zero b)
  have mvσ:∀ b q,(E.mv a c n).σ b=some q→b < n∧E.σ (mvN a c b)=some q:=fun b q e=>by
    simp only [Env.mv] at e
    split at e
    · rename_i hb; exact ⟨hb,e⟩
    · cases e
  have lt:∀ b o d x,(viewA n l).get b=some o→(E.mv a c n).σ b=some (d,x)→d < w.heap.size:=fun b o d x g s=>by
    obtain ⟨o',h1,_⟩:=hm _ (viewA_get _ _ _ _ g)
    exact HH.lt _ _ _ _ h1 (mvσ _ _ s).2
  have HV:HeapOk p (E.mv a c n) (viewA n l) b1 w:=by
    refine ⟨fun b o g=>?_,fun b b' o o' d x y g1 g2 w1 w2 s1 s2=>?_,fun b o d x g hw s hd=>?_,fun b o d y g hr s=>lt b o d y g s,fun b hb=>?_,lt,fun b hb=>?_,Kept.refl _ _,(by rw [viewA_next]; exact Nat.le_refl _),HH.ok.mono fun d o e'=>⟨HH.below.lt e'.1,Base.Keeps.has HH.below e'⟩⟩
    · have hmem:=viewA_get _ _ _ _ g
      obtain ⟨o',h1,h2⟩:=hm _ hmem
      obtain ⟨h3,_,h4⟩:=hl _ hmem
      have hb:objOk p E (mvN a c b) o w.heap:=h2.obj (HH.obj _ _ h1)
      refine objOk.ids (E:=E) (E':=E.mv a c n) rfl none0 h4 (fun q hq=>⟨?_,rfl⟩) hb
      simp only [Env.mv,if_pos h3]; exact hq
    · have:=(hl _ (viewA_get _ _ _ _ g1)).2.1
      have w1:ownO o=true:=w1
      have this:ownO o=false:=this
      rw [this] at w1; cases w1
    · have:=(hl _ (viewA_get _ _ _ _ g)).2.1
      have hw:ownO o=true:=hw
      have this:ownO o=false:=this
      rw [this] at hw; cases hw
    · rw [viewA_next] at hb
      simp only [Env.mv,if_neg (show ¬ b < n by omega)]
    · have e:mvN a c b=b:=by unfold mvN; rw [if_neg (by omega)]
      simp only [Env.mv,if_pos (show b < n by omega),e]
      exact HH.glob b hb
  refine hc vs (E.mv a c n) b1 w _ K k HV ((hargs E).trans hA) ?_
  intro v' h1 E1 w' cv q hle H1 hcv
  unfold mvT at q
  split at q
  · rename_i o ho
    cases hb:and (ownO o) (and (idsO 0 o) (idsO n o)) with
    | false=>rw [hb] at q; exact q.elim
    | true =>
      rw [hb,cond_true] at q
      simp only [Bool.and_eq_true] at hb
      obtain ⟨o1,o2,o3⟩:=hb
      split at q
      · rename_i v ev
        -- what was made,alone
        let E2:Env:=⟨E.ρ,fun b=>if b < n then E.σ b else if b=n then E1.σ n else none,fun b=>if b < n then E.κ b else E1.κ b,n + 1,fun _=>#[]⟩
        have hρ:E1.ρ=E.ρ:=hle.ρ
        have g1:∀ b x,(viewA (n + 1) [(n,o)]).get b=some x→b=n∧x=o:=fun b x g=>by
          have:=viewA_get _ _ _ _ g
          rw [List.mem_singleton] at this
          cases this; exact ⟨rfl,rfl⟩
        have s2:E2.σ n=E1.σ n:=by simp only [E2,if_neg (Nat.lt_irrefl n),if_true]
        have k2:E2.κ n=E1.κ n:=by simp only [E2,if_neg (Nat.lt_irrefl n)]
        have gn:(viewA (n + 1) [(n,o)]).get n=some o:=viewA_mem (n + 1) [(n,o)] 0 rfl _ List.mem_cons_self
        have H2:HeapOk p E2 (viewA (n + 1) [(n,o)]) b1 w':=by
          refine ⟨fun b x g=>?_,fun b b' x x' d y z g2 g3 _ _ _ _=>?_,fun b x d y g hw s hd=>?_,fun b x d y g hr s=>?_,fun b hb=>?_,fun b x d y g s=>?_,fun b hb=>?_,H1.below,?_,?_⟩
          · obtain ⟨rfl,rfl⟩:=g1 b x g
            exact objOk.ids (E:=E1) (E':=E2) hρ.symm (fun b hb=>absurd hb (Nat.not_lt_zero b)) o2 (fun q hq=>⟨s2.trans hq,k2⟩) (H1.obj _ _ ho)
          · rw [(g1 b x g2).1,(g1 b' x' g3).1]
          · obtain ⟨rfl,rfl⟩:=g1 b x g
            exact H1.base _ _ _ _ ho hw (s2.symm.trans s) hd
          · obtain ⟨rfl,rfl⟩:=g1 b x g
            exact H1.ro _ _ _ _ ho hr (s2.symm.trans s)
          · rw [viewA_next] at hb
            simp only [E2,if_neg (show ¬ b < n by omega),if_neg (show ¬ b=n by omega)]
          · obtain ⟨rfl,rfl⟩:=g1 b x g
            exact H1.lt _ _ _ _ ho (s2.symm.trans s)
          · simp only [E2,if_pos (show b < n by omega)]
            exact HH.glob b hb
          · rw [viewA_next]; exact Nat.le_refl _
          · have:=H1.ok; rw [hρ] at this; exact this
        have hcut:(E.cut n).le E2:=by
          refine ⟨⟨rfl,fun b q e=>?_,fun b q e=>?_,fun b q e=>rfl⟩,?_,fun b hb e=>?_⟩
          · simp only [Env.cut] at e
            split at e
            · rename_i hb; simp only [E2,if_pos hb]; exact e
            · cases e
          · simp only [Env.cut] at e
            split at e
            · rename_i hb; simp only [E2,if_pos hb]; rfl
            · cases e
          · simp only [Env.cut,E2]; omega
          · simp only [Env.cut] at hb e
            rw [if_pos hb] at e
            simp only [E2,if_pos hb]; exact e
        have e2:graftN n (nameG n h.next [n]) (viewA (n + 1) [(n,o)]) [n] h=some (h.new o):=by
          have hmv:Sx.moved n (nameG n h.next [n]) o=some o:=by unfold Sx.moved; rw [o3]; rfl
          simp only [graftN,gn,o1,cond_true,hmv]
        have key:=HH.graft (hv:=viewA n []) (owns:=[]) (news:=[n]) (fun b x g=>by cases viewA_get _ _ _ _ g) (fun b x g=>by cases viewA_get _ _ _ _ g) hn
          (fun b=>⟨fun hb=>(List.not_mem_nil hb).elim,fun ⟨x,g,_⟩=>by cases viewA_get _ _ _ _ g⟩) (b1:=b1) rfl (fun d=>⟨fun hd=>⟨hd,fun b hb=>(List.not_mem_nil hb).elim⟩,fun hd=>hd.1⟩) H2 hcut (by simp [risesL]) e2
        obtain ⟨z1,z2,z3⟩:=key
        refine P v (h.new o) _ w' cv q z1 z3 ?_
        have hR:RelB (nameM n h.next) E1 (envG E E2 h.next [n]):=by
          refine ⟨hρ.symm,fun b d q hb hq=>?_⟩
          unfold nameM at hb
          cases hbn:Nat.beq b n with
          | false=>rw [hbn] at hb; cases hb
          | true =>
            rw [hbn,cond_true] at hb
            cases hb
            have:=beq_t.1 hbn
            subst this
            simp only [envG,Nat.lt_irrefl,if_false,Nat.sub_self,List.getElem?_cons_zero]
            exact ⟨s2.trans hq,k2⟩
        exact rnV_ok hR _ _ _ ev hcv
      · exact q.elim
  · exact q.elim
end Go.Sx
/-! A CALL THAT ONLY READS SOME BLOCKS,wherever they lie,and from whatever cell on. -/
namespace Go.Sx
open Go.RowKit
theorem concL_cut {E:Env}:∀ {l m:List AV} {vs:List Value},concL E (l ++ m)=some vs→∃ us ws,concL E l=some us∧concL E m=some ws∧vs=us ++ ws
  | [],m,vs,h=>⟨[],vs,rfl,h,rfl⟩
  | a :: l,m,vs,h=>by
    obtain ⟨v,r,h1,h2,rfl⟩:=concL_cons.1 (show concL E (a :: (l ++ m))=some vs from h)
    obtain ⟨us,ws,e1,e2,rfl⟩:=concL_cut h2
    exact ⟨v :: us,ws,concL_cons.2 ⟨v,us,h1,e1,rfl⟩,e2,rfl⟩
def Env.mv3 (mv off:Nat→Nat) (n:Nat) (E:Env):Env:=⟨E.ρ,fun b=>if b < n then (E.σ (mv b)).map fun q=>(q.1,q.2 + off b) else none,fun b=>E.κ (mv b) - off b,n,fun _=>#[]⟩
/-- cells from one on -/
def Part (cs:List AV) (k:Nat) (o:AObj):Prop:=∃ cs' el own ext,o=.cells cs' el own ext∧∃ l r,cs'=l ++ cs ++ r∧l.length=k
theorem Part.obj {p:Par} {E:Env} {mv off:Nat→Nat} {n b:Nat} {cs:List AV} {o:AObj} {heap:Array Obj} (h:Part cs (off b) o) (hb:b < n) (hi:idsLts 0 cs=true) (k:objOk p E (mv b) o heap):objOk p (E.mv3 mv off n) b (.cells cs 0 false false) heap:=by
  obtain ⟨cs',el,own,ext,rfl,l,r,rfl,hl⟩:=h
  obtain ⟨c,base,vs,cells,el',fz,k1,k2,k3,k4,_⟩:=k
  obtain ⟨us,ws,e1,e2,rfl⟩:=concL_cut k2
  obtain ⟨u1,u2,e3,e4,rfl⟩:=concL_cut e1
  have len:u1.length=l.length:=concL_len e3
  refine ⟨c,base + off b,u2,cells,el',fz,?_,?_,k3,fun i hi=>?_,fun h=>by cases h⟩
  · simp only [Env.mv3,if_pos hb,k1,Option.map_some]
  · rw [concL_ids (n:=0) (E:=E) (E':=E.mv3 mv off n) rfl (fun b hb=>absurd hb (Nat.not_lt_zero b)) cs hi]; exact e4
  · have:=k4 (l.length + i) (by simp only [List.length_append]; omega)
    rw [← hl,Nat.add_assoc,this,List.append_assoc,List.getElem?_append_right (by omega),len,Nat.add_sub_cancel_left,List.getElem?_append_left hi]
theorem CallOk.moved3 {p : Par} {f : FuncId} {args0 args : List AV} {n : Nat} {mv off : Nat → Nat} {l : List (Nat × AObj)} {v : AV} {h0 : Heap} (hc : CallOk p f args0 (viewA n l) (.ret (v, h0)))
    (h1000:1000≤n) (hlow:∀ b,b < 1000→mv b=b∧off b=0) (hv:idsLt 0 v=true) {h:Heap} (hl:∀ g ∈ l,g.1 < n∧∃ cs,g.2=.cells cs 0 false false∧idsLts 0 cs=true∧∃ o,h.get (mv g.1)=some o∧Part cs (off g.1) o)
    (hargs:∀ E:Env,concL (E.mv3 mv off n) args0=concL E args):CallOk p f args h (.ret (v,h)):=by
  intro vs E w0 w Q K k HH hA P
  have k:Q (v,h):=k
  have mvσ:∀ b q,(E.mv3 mv off n).σ b=some q→b < n∧∃ x,E.σ (mv b)=some (q.1,x):=fun b q e=>by
    simp only [Env.mv3] at e
    split at e
    · rename_i hb
      cases hs:E.σ (mv b) with
      | none=>rw [hs] at e; cases e
      | some u=>rw [hs] at e; cases e; exact ⟨hb,u.2,rfl⟩
    · cases e
  have lt:∀ b o d x,(viewA n l).get b=some o→(E.mv3 mv off n).σ b=some (d,x)→d < w.heap.size:=fun b o d x g s=>by
    obtain ⟨_,cs,_,_,o',h1,_⟩:=hl _ (viewA_get _ _ _ _ g)
    obtain ⟨_,y,hy⟩:=mvσ _ _ s
    exact HH.lt _ _ _ _ h1 hy
  have own0:∀ b o,(viewA n l).get b=some o→ownO o=false:=fun b o g=>by
    obtain ⟨_,cs,he,_⟩:=hl _ (viewA_get _ _ _ _ g)
    have he:o=.cells cs 0 false false:=he
    rw [he]; rfl
  have HV:HeapOk p (E.mv3 mv off n) (viewA n l) (Base.of w) w:=by
    refine ⟨fun b o g=>?_,fun b b' o o' d x y g1 g2 w1 w2 s1 s2=>?_,fun b o d x g hw s hd=>?_,fun b o d y g hr s=>lt b o d y g s,fun b hb=>?_,lt,fun b hb=>?_,Kept.refl _ _,(by rw [viewA_next]; exact Nat.le_refl _),HH.ok.mono fun d o e'=>⟨HH.below.lt e'.1,Base.Keeps.has HH.below e'⟩⟩
    · obtain ⟨h3,cs,he,hi,o',h1,h2⟩:=hl _ (viewA_get _ _ _ _ g)
      have he:o=.cells cs 0 false false:=he
      rw [he]
      exact h2.obj h3 hi (HH.obj _ _ h1)
    · rw [own0 _ _ g1] at w1; cases w1
    · rw [own0 _ _ g] at hw; cases hw
    · rw [viewA_next] at hb
      simp only [Env.mv3,if_neg (show ¬ b < n by omega)]
    · obtain ⟨e1,e2⟩:=hlow b hb
      simp only [Env.mv3,if_pos (show b < n by omega),e1,e2,HH.glob b hb,Option.map_some,Nat.add_zero]
  refine hc vs (E.mv3 mv off n) (Base.of w) w (fun r=>r.1=v) K rfl HV ((hargs E).trans hA) ?_
  intro v' h1 E1 w' cv q hle H1 hcv
  have q:v'=v:=q
  subst q
  refine P v' h E w' cv k (Env.le.refl E) (HH.world (Base.keeps_below H1.below)) ?_
  rw [← hcv]
  exact (conc_ids (n:=0) (E:=E1) (E':=E) hle.ρ.symm (fun b hb=>absurd hb (Nat.not_lt_zero b)) v' hv)
end Go.Sx
/-! ROUNDS OF A LOOP OVER A FUNCTION,taken as they are said. -/
namespace Go.Sx
open Go.RowKit
/-- what a round leads to -/
def YieldOk (p:Par) (l:Nat) (args:List AV) (h:Heap) (t:T (AV × Heap)):Prop :=
  ∀ vs E w0 w Q K q,t.Holds E.ρ Q→HeapOk p E h w0 w→concL E args=some vs→E.σ l=some q→Post p E w0 Q K→Does p.P ((Instr.yield q.1 vs.toArray).run p.P w) K
/-- the evaluator,with rounds that are told -/
noncomputable def evalY (tb:Tabs) (yo:Nat→List AV→Heap→Option (T (AV × Heap))) (d:Nat):Bool→Nat→List AV→Heap→T (AV × Heap) :=
  @Nat.rec (fun _=>Bool→Nat→List AV→Heap→T (AV × Heap)) (fun _ _ _ _=>.fail 80)
    (fun _ ih isYield f args h =>
      cond isYield (match yo f args h with
        | some t=>t
        | none=>yieldBody tb ⟨ih false,ih true,tb.loops⟩ f args h)
        (match tb.orc f args h with
        | some t=>t
        | none=>callBody tb ⟨ih false,ih true,tb.loops⟩ f args h)) d
theorem evalY_ok {p:Par} {ty:Nat→Option TI} {tb:Tabs} (B:TabOk p ty tb) {yo:Nat→List AV→Heap→Option (T (AV × Heap))} (Y:∀ l args h t,yo l args h=some t→YieldOk p l args h t):∀ d,CxOk p ⟨evalY tb yo d false,evalY tb yo d true,tb.loops⟩
  | 0=>⟨fun f args h vs E w0 w Q K k=>k.elim,fun f args h vs E w0 w Q K q k=>k.elim⟩
  | d + 1=>by
    have ih:=evalY_ok B Y d
    refine ⟨fun f args h vs E w0 w Q K k=>?_,fun l args h vs E w0 w Q K q k=>?_⟩
    · have k' : (match tb.orc f args h with
        | some t=>t
        | none=>callBody tb ⟨evalY tb yo d false,evalY tb yo d true,tb.loops⟩ f args h).Holds E.ρ Q:=k
      cases ho:tb.orc f args h with
      | some t =>
        rw [ho] at k'
        exact B.orc f args h t ho vs E w0 w Q K k'
      | none =>
        rw [ho] at k'
        exact callBody_ok B ih f args h vs E w0 w Q K k'
    · have k' : (match yo l args h with
        | some t=>t
        | none=>yieldBody tb ⟨evalY tb yo d false,evalY tb yo d true,tb.loops⟩ l args h).Holds E.ρ Q:=k
      cases ho:yo l args h with
      | some t =>
        rw [ho] at k'
        exact Y l args h t ho vs E w0 w Q K q k'
      | none =>
        rw [ho] at k'
        exact yieldBody_ok B ih l args h vs E w0 w Q K q k'
theorem callY_ok {p:Par} {ty:Nat→Option TI} {tb:Tabs} (B:TabOk p ty tb) {yo:Nat→List AV→Heap→Option (T (AV × Heap))} (Y:∀ l args h t,yo l args h=some t→YieldOk p l args h t) (d:Nat) (f:FuncId) (args:List AV) (h:Heap):CallOk p f args h (evalY tb yo d false f args h) :=
  fun vs E w0 w Q K k HH ha P=>(evalY_ok B Y d).call f args h vs E w0 w Q K k HH ha P
/-- a round,as it runs -/
theorem yield_ok {p:Par} {ty:Nat→Option TI} {tb:Tabs} (B:TabOk p ty tb) (d:Nat) (l:Nat) (args:List AV) (h:Heap):YieldOk p l args h (evalN tb d true l args h) :=
  fun vs E w0 w Q K q k HH ha hq P=>(evalN_ok B d).yield l args h vs E w0 w Q K q k HH ha hq P
/-- A ROUND,told otherwise. -/
theorem YieldOk.read {p : Par} {l : Nat} {args : List AV} {h : Heap} {t0 t : T (AV × Heap)} (hc : YieldOk p l args h t0)
    (H:∀ ρ b,p.okB ρ b→∀ Q:AV × Heap→Prop,t.Holds ρ Q→t0.Holds ρ fun r0=>∃ r,Q r∧SameV ρ r0.1 ρ r.1∧SameH p p ρ r0.2 ρ r.2):YieldOk p l args h t:=by
  intro vs E w0 w Q K q k HH ha hq P
  have ht:=H E.ρ w0 HH.ok Q k
  refine hc vs E w0 w _ K q ht HH ha hq fun v' h' E1 w' cv q hle H1 hcv=>?_
  obtain ⟨r,hr,hv,hs⟩:=q
  have hρ1:E1.ρ=E.ρ:=hle.ρ
  have H2:HeapOk p ⟨E.ρ,E1.σ,E1.κ,E1.n,E1.rc⟩ r.2 w0 w':=HeapOk.read (ρ0:=E.ρ) (σ:=E1.σ) (κ:=E1.κ) (n:=E1.n) (rc:=E1.rc) (by rw [← hρ1]; exact H1) hs HH.ok
  refine P r.1 r.2 ⟨E.ρ,E1.σ,E1.κ,E1.n,E1.rc⟩ w' cv hr ⟨⟨rfl,hle.σ,hle.κ,hle.rc⟩,hle.n,hle.none⟩ H2 ?_
  have:=hv E1.σ E1.κ E1.n E1.n E1.rc E1.rc
  rw [← this,← hρ1]; exact hcv
theorem YieldOk.congr {p:Par} {l:Nat} {args:List AV} {h h':Heap} {t:T (AV × Heap)} (hc:YieldOk p l args h t) (hget:∀ j,h'.get j=h.get j) (hn:h'.next=h.next):YieldOk p l args h' t :=
  fun vs E w0 w Q K q k HH ha hq P=>hc vs E w0 w Q K q k (HH.congr (fun j=>(hget j).symm) hn.symm) ha hq P
/-- A ROUND IN A SMALL HEAP,TAKEN UP IN A LARGER ONE. -/
theorem YieldOk.frame {p : Par} {l0 : Nat} {args : List AV} {n : Nat} {l : List (Nat × AObj)} {t : T (AV × Heap)} (hc : YieldOk p l0 args (viewA n l) t) (hl0 : l0 < n) (h1000 : 1000 ≤ n) (hids : idsLts n args = true) (hv : viewOk n l = true)
    {h:Heap} (hl:∀ g ∈ l,∃ o,h.get g.1=some o∧Less g.2 o) (hn:n≤h.next) (nw:AV × Heap→List Nat):YieldOk p l0 args h (t.bind fun r=>graftT n l h (nw r) r):=by
  intro vs E w0 w Q K q0 k HH ha hq0 P
  rw [T.holds_bind] at k
  let b1:Base:=⟨w,fun c=>c < w.heap.size∧∀ b ∈ ownsOf l,∀ x,E.σ b ≠ some (c,x),fun _ h=>h.1⟩
  have HV:=view_heapOk HH hv hn h1000 hl b1 rfl
  have hσ:∀ b,b < n→(E.cut n).σ b=E.σ b∧(E.σ b ≠ none→(E.cut n).κ b=E.κ b):=fun b hb=>⟨by simp only [Env.cut,if_pos hb],fun _=>rfl⟩
  have ha':concL (E.cut n) args=some vs:=by rw [concL_ids (E:=E) (E':=E.cut n) rfl hσ args hids]; exact ha
  unfold viewOk at hv
  simp only [Bool.and_eq_true] at hv
  obtain ⟨hup,hall⟩:=hv
  refine hc vs (E.cut n) b1 w _ K q0 k HV ha' ((hσ l0 hl0).1.trans hq0) ?_
  intro v' h1 E1 w' cv q hle H1 hcv
  unfold graftT at q
  cases hr:risesL n (nw (v',h1)) with
  | false=>rw [hr] at q; exact q.elim
  | true =>
    rw [hr,cond_true] at q
    split at q
    · rename_i h2 e2
      split at q
      · rename_i v ev
        have key := HH.graft (hv := viewA n l) (owns := ownsOf l) (fun b o g => by
            obtain ⟨o',k1,k2⟩:=hl _ (viewA_get _ _ _ _ g)
            exact ⟨o',k1,k2.own⟩) (fun b o g=>by
            have:=lAll_mem hall _ (viewA_get _ _ _ _ g)
            simp only [Bool.and_eq_true] at this
            exact ble_t.1 this.1) hn (fun b=>by
            rw [mem_ownsOf]
            exact ⟨fun ⟨o,k1,k2⟩=>⟨o,viewA_mem n l 0 hup _ k1,k2⟩,fun ⟨o,k1,k2⟩=>⟨o,viewA_get _ _ _ _ k1,k2⟩⟩) (b1:=b1) rfl (fun c=>Iff.rfl) H1 hle hr e2
        obtain ⟨z1,z2,z3⟩:=key
        refine P v _ _ w' cv q z1 z3 ?_
        unfold graftV at ev
        cases hi:idsLt n v' with
        | true =>
          rw [hi,cond_true] at ev; cases ev
          have low:∀ b,b < n→(envG E E1 h.next (nw (v',h1))).σ b=E1.σ b∧(E1.σ b ≠ none→(envG E E1 h.next (nw (v',h1))).κ b=E1.κ b):=fun b hb=>by
            have hbn:b < h.next:=by omega
            have hcs:(E.cut n).σ b=E.σ b:=(hσ b hb).1
            have e1:(envG E E1 h.next (nw (v',h1))).σ b=E.σ b:=by simp only [envG,if_pos hbn]
            have e2:(envG E E1 h.next (nw (v',h1))).κ b=E.κ b:=by simp only [envG,if_pos hbn]
            cases hs:E.σ b with
            | none=>exact ⟨by rw [e1,hs,hle.none b hb (hcs.trans hs)],fun hne=>absurd (hle.none b hb (hcs.trans hs)) hne⟩
            | some q=>exact ⟨by rw [e1,hs,hle.σ b q (hcs.trans hs)],fun _=>by rw [e2]; exact (hle.κ b q (hcs.trans hs)).symm⟩
          rw [conc_ids (E:=E1) (E':=envG E E1 h.next (nw (v',h1))) z2.ρ low v' hi]
          exact hcv
        | false =>
          rw [hi,cond_false] at ev
          exact rnV_ok z2 _ _ _ ev hcv
      · exact q.elim
    · exact q.elim

end Go.Sx
/-! MAPS of which it is known that some keys lie there: told with fewer keys,or by other expressions. -/
namespace Go.Sx
open Go.RowKit
/-- what lies in a map,with other keys that are known to lie there -/
theorem SameA.umapK {p0 p : Par} {ρ : Rho} {m m' : MU} (hfi : m'.fi = m.fi) (hag : m'.ag = m.ag) (hnk : m'.nk = m.nk) (hl : m'.live = false) (hs : m'.ps.sure = m.ps.sure ∨ m'.ps.sure = 0) (hc : m'.ps.cl = m.ps.cl)
    (hk:∀ f ∈ m'.ps.keys,f.1.den ρ=true→∃ g ∈ m.ps.keys,g.1.den ρ=true∧g.2.1.den ρ=f.2.1.den ρ∧g.2.2.1.den ρ=f.2.2.1.den ρ∧g.2.2.2.den ρ=f.2.2.2.den ρ):SameA p0 p ρ (.umap m) ρ (.umap m'):=by
  refine ⟨fun _=>rfl,fun h=>absurd h (by simp [roO]),fun σ κ n rc heap b ⟨c,es,ms,k,k1,k2,k3,k4⟩=>⟨c,es,ms,k,k1,k2,k3,?_⟩⟩
  have hv:∀ a b c,umValL ρ m' a b c=umValL ρ m a b c:=fun a b c=>by unfold umValL; rw [hfi,hag]
  have hhas:∀ a b c,m'.Has es a b c ↔ m.Has es a b c:=fun a b c=>by unfold MU.Has; rw [hnk]
  refine ⟨fun e he=>?_,(fun h=>by rw [hl] at h; cases h),fun h a b c hb=>?_,fun f hf hd=>?_,fun e p x y h h3 a b c h1 h2 h4=>?_⟩
  · obtain ⟨a,b,c,z1,z2,z3,z4⟩:=k4.1 e he
    exact ⟨a,b,c,by rw [hnk]; exact z1,by rw [hnk]; exact z2,by rw [hnk]; exact z3,by rw [hv]; exact z4⟩
  · rw [hhas]
    rcases hs with hs | hs
    · rw [hs] at h hb; exact k4.2.2.1 h a b c hb
    · exact absurd hs h
  · obtain ⟨g,g1,g2,g3,g4,g5⟩:=hk f hf hd
    rw [hhas,← g3,← g4,← g5]
    exact k4.2.2.2.1 g g1 g2
  · rw [hhas] at h1 ⊢
    rw [hc] at h; rw [hnk] at h3
    exact k4.2.2.2.2 e p x y h h3 a b c h1 h2 h4
/-- a key of which a live test is true lies there -/
theorem SameA.umapL {p0 p : Par} {ρ : Rho} {m m' : MU} (hfi : m'.fi = m.fi) (hag : m'.ag = m.ag) (hnk : m'.nk = m.nk) (hn3 : m.nk = 3) (hlive : m.live = true) (hl : m'.live = false) (hs : m'.ps.sure = m.ps.sure) (hc : m'.ps.cl = m.ps.cl)
    (hk:∀ f ∈ m'.ps.keys,f.1.den ρ=true→FB ρ.fb m.fb (f.2.1.den ρ) (f.2.2.1.den ρ) (f.2.2.2.den ρ)=true):SameA p0 p ρ (.umap m) ρ (.umap m'):=by
  refine ⟨fun _=>rfl,fun h=>absurd h (by simp [roO]),fun σ κ n rc heap b ⟨c,es,ms,k,k1,k2,k3,k4⟩=>⟨c,es,ms,k,k1,k2,k3,?_⟩⟩
  have hv:∀ a b c,umValL ρ m' a b c=umValL ρ m a b c:=fun a b c=>by unfold umValL; rw [hfi,hag]
  have hhas:∀ a b c,m'.Has es a b c ↔ m.Has es a b c:=fun a b c=>by unfold MU.Has; rw [hnk]
  refine ⟨fun e he=>?_,(fun h=>by rw [hl] at h; cases h),fun h a b c hb=>?_,fun f hf hd=>?_,fun e p x y h h3 a b c h1 h2 h4=>?_⟩
  · obtain ⟨a,b,c,z1,z2,z3,z4⟩:=k4.1 e he
    exact ⟨a,b,c,by rw [hnk]; exact z1,by rw [hnk]; exact z2,by rw [hnk]; exact z3,by rw [hv]; exact z4⟩
  · rw [hhas]
    rw [hs] at h hb; exact k4.2.2.1 h a b c hb
  · rw [hhas]
    exact (k4.2.1 hlive _ _ _ (fun h=>by omega) (fun h=>by omega)).1 (hk f hf hd)
  · rw [hhas] at h1 ⊢
    rw [hc] at h; rw [hnk] at h3
    exact k4.2.2.2.2 e p x y h h3 a b c h1 h2 h4
/-- what is known to lie in a map -/
def MU.Known (m:MU) (ρ:Rho) (a b c:Int):Prop:=(m.ps.sure ≠ 0∧FB ρ.fb m.ps.sure a b c=true) ∨ ∃ g ∈ m.ps.keys,g.1.den ρ=true∧g.2.1.den ρ=a∧g.2.2.1.den ρ=b∧g.2.2.2.den ρ=c
/-- WHAT LIES IN A MAP,read with other numbers and told with other keys. -/
theorem SameA.umapS {p0 p : Par} {ρ0 ρ : Rho} {m m' : MU} (hfi : m'.fi = m.fi) (hag : m'.ag = m.ag) (hnk : m'.nk = m.nk) (hl : m'.live = false) (hc : m'.ps.cl = m.ps.cl) (hF : ρ.fi = ρ0.fi)
    (hB:∀ q ∈ m.fi,q.1=true→ρ.fb q.2=ρ0.fb q.2) (hE:∀ e ∈ m.ps.cl,ρ.fb e=ρ0.fb e) (hk:∀ a b c,m'.Known ρ a b c→m.Known ρ0 a b c):SameA p0 p ρ0 (.umap m) ρ (.umap m'):=by
  refine ⟨fun _=>rfl,fun h=>absurd h (by simp [roO]),fun σ κ n rc heap b ⟨c,es,ms,k,k1,k2,k3,k4⟩=>?_⟩
  have hcell:∀ (a b c:Int) (q:Bool × Nat),q ∈ m.fi→umCellL ρ a b c q=umCellL ρ0 a b c q:=fun a b c q hq=>by
    unfold umCellL
    cases hq1:q.1 with
    | true=>simp only [cond_true,FB,hB q hq hq1]
    | false=>simp only [cond_false,hF]
  have hv:∀ a b c,umValL ρ m' a b c=umValL ρ0 m a b c:=fun a b c=>by
    unfold umValL
    rw [hfi,hag,List.map_congr_left (hcell a b c)]
    cases m.ag with
    | true=>rfl
    | false =>
      simp only [cond_false]
      have:=hcell a b c
      revert this
      cases m.fi with
      | nil=>intro _; rfl
      | cons q l=>cases l with
        | nil=>intro hh; exact hh q List.mem_cons_self
        | cons _ _=>intro _; rfl
  have hhas:∀ a b c,m'.Has es a b c ↔ m.Has es a b c:=fun a b c=>by unfold MU.Has; rw [hnk]
  have has:∀ a b c,m'.Known ρ a b c→m'.Has es a b c:=fun a b c h=>by
    rw [hhas]
    rcases hk a b c h with ⟨h1,h2⟩ | ⟨g,h1,h2,h3,h4,h5⟩
    · exact k4.2.2.1 h1 a b c h2
    · have:=k4.2.2.2.1 g h1 h2
      rw [h3,h4,h5] at this; exact this
  have hU:UOk ρ m' es:=by
    refine ⟨fun e he=>?_,(fun h=>by rw [hl] at h; cases h),fun h a b c hb=>has a b c (.inl ⟨h,hb⟩),fun f hf hd=>has _ _ _ (.inr ⟨f,hf,hd,rfl,rfl,rfl⟩),fun e p x y h h3 a b c h1 h2 h4=>?_⟩
    · obtain ⟨a,b,c,z1,z2,z3,z4⟩:=k4.1 e he
      exact ⟨a,b,c,by rw [hnk]; exact z1,by rw [hnk]; exact z2,by rw [hnk]; exact z3,by rw [hv]; exact z4⟩
    · rw [hhas] at h1 ⊢
      rw [hc] at h; rw [hnk] at h3
      have e1:∀ a b c,FB ρ.fb e a b c=FB ρ0.fb e a b c:=fun a b c=>by unfold FB; rw [hE e (by rw [h]; simp)]
      rw [e1] at h2
      rw [hF] at h4 ⊢
      exact k4.2.2.2.2 e p x y h h3 a b c h1 h2 h4
  refine ⟨c,es,ms,k,k1,?_,k3,hU⟩
  have lit:∀ (es:List (AV × AV × Nat)) (ms:List MapEntry),(∀ e ∈ es,∃ a b c,(m'.nk < 2→b=0)∧(m'.nk < 3→c=0)∧e.1=keyU m'.nk a b c∧e.2.1=umValL ρ m' a b c)→concE ⟨ρ0,σ,κ,n,rc⟩ es ms→concE ⟨ρ,σ,κ,n,rc⟩ es ms:=by
    intro es
    induction es with
    | nil=>intro ms _ h; cases ms with | nil=>trivial | cons _ _=>exact h.elim
    | cons e es ih =>
      intro ms hl h
      cases ms with
      | nil=>exact h.elim
      | cons m1 ms =>
        obtain ⟨q1,q2,q3,q4⟩:=h
        obtain ⟨x,y,z,_,_,e1,e2⟩:=hl e List.mem_cons_self
        have hk:conc ⟨ρ,σ,κ,n,rc⟩ e.1=conc ⟨ρ0,σ,κ,n,rc⟩ e.1:=by rw [e1]; unfold keyU; split <;> rfl
        have hcc:∀ q,conc ⟨ρ,σ,κ,n,rc⟩ (umCellL ρ x y z q)=conc ⟨ρ0,σ,κ,n,rc⟩ (umCellL ρ x y z q):=fun q=>by unfold umCellL; cases q.1 <;> rfl
        have hcs:∀ l:List (Bool × Nat),concL ⟨ρ,σ,κ,n,rc⟩ (l.map (umCellL ρ x y z))=concL ⟨ρ0,σ,κ,n,rc⟩ (l.map (umCellL ρ x y z)):=fun l=>by
          induction l with
          | nil=>rfl
          | cons q l ih=>simp only [List.map_cons,concL,hcc,ih]
        have hvv:conc ⟨ρ,σ,κ,n,rc⟩ e.2.1=conc ⟨ρ0,σ,κ,n,rc⟩ e.2.1:=by
          rw [e2]; unfold umValL
          cases m'.ag with
          | true=>simp only [cond_true,conc,hcs]
          | false =>
            simp only [cond_false]
            cases m'.fi with
            | nil=>rfl
            | cons q l=>cases l with
              | nil=>exact hcc q
              | cons _ _=>rfl
        exact ⟨hk.trans q1,hvv.trans q2,q3,ih ms (fun e' he'=>hl e' (List.mem_cons_of_mem _ he')) q4⟩
  exact lit es ms hU.1 k2
/-- a call is as it is said if it is so in each case -/
theorem CallOk.split {ι : Type} {P : Program} {RC : Nat → Nat → List Nat → Code → Code → Prop} {ok : Rho → (Nat → Obj → Prop) → Prop} {okC : ι → Rho → (Nat → Obj → Prop) → Prop} {f : FuncId} {args : List AV} {h : Heap} {t : T (AV × Heap)}
    (hc:∀ x,CallOk ⟨P,RC,okC x⟩ f args h t) (hs:∀ ρ m,ok ρ m→∃ x,okC x ρ m) (hb:∀ x ρ m,okC x ρ m→ok ρ m):CallOk ⟨P,RC,ok⟩ f args h t:=by
  intro vs E w0 w Q K k HH ha hP
  obtain ⟨m,hm,hmh⟩:=HH.ok
  obtain ⟨x,hx⟩:=hs _ _ hm
  have HX:HeapOk ⟨P,RC,okC x⟩ E h w0 w:=⟨HH.obj,HH.inj,HH.base,HH.ro,HH.fresh,HH.lt,HH.glob,HH.below,HH.nx,⟨m,hx,hmh⟩⟩
  exact hc x vs E w0 w Q K k HX ha fun v h' E' w' cv q hle H' hcv=>hP v h' E' w' cv q hle ⟨H'.obj,H'.inj,H'.base,H'.ro,H'.fresh,H'.lt,H'.glob,H'.below,H'.nx,by
    obtain ⟨m1,h1,h2⟩:=H'.ok
    exact ⟨m1,hb x _ _ h1,h2⟩⟩ hcv
end Go.Sx
