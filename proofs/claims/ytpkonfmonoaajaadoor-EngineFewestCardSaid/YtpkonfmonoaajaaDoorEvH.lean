/- A LAW OF AN EVENING,NUMBERS AND A LIST THAT CHOOSES,called with whatever can be read. -/
import Derived.Test.YtpkonfmonoaajaaDoorEnX
import Derived.Test.YtpkonfmonoaajaaDoorSxPres
import Derived.Test.YtpkonfmonoaajaaDoorEzC
import Derived.Test.YtpkonfmonoaajaaDoorEnT
import Derived.Test.YtpkonfmonoaajaaDoorEnKt20
import Derived.Test.YtpkonfmonoaajaaDoorEnKt30
import Derived.Test.YtpkonfmonoaajaaDoorEnKt32
import Derived.Test.YtpkonfmonoaajaaDoorEnKt41
import Derived.Test.YtpkonfmonoaajaaDoorEnKt43
import Derived.Test.YtpkonfmonoaajaaDoorEnKt51
import Derived.Test.YtpkonfmonoaajaaDoorEnKt53
import Derived.Test.YtpkonfmonoaajaaDoorEnKt54
import Derived.ChangeSlices
/-! THE LAW OF THE PARTS,for a valid evening: its calls are so,and it holds. -/
namespace Go.Sx
open Go.RowKit Go.Proofs
set_option maxRecDepth 100000
theorem parts_mem {c:BE}:∀ {n b i:Nat},i < n→c ∈ partV (b + 4 * i)→c ∈ partsV n b
  | 0,_,_,h,_=>absurd h (by omega)
  | n + 1,b,0,_,h=>List.mem_append.2 (.inl h)
  | n + 1,b,i + 1,h,hc=>List.mem_append.2 (.inr (parts_mem (n:=n) (b:=b + 4) (i:=i) (by omega) (by rw [show b + 4 + 4 * i=b + 4 * (i + 1) by omega]; exact hc)))
theorem walks_of {L:Nat} {ρ:Rho} (h:∀ c ∈ csV L,c.den ρ=true) {i:Nat} (hi:i < L):∃ W:Nat,W≤5∧ρ.iv (33 + 4 * i)=W:=by
  have k:∀ c ∈ partV (30 + 4 * i),c.den ρ=true:=fun c hc=>h c (List.mem_append.2 (.inr (parts_mem hi hc)))
  simp only [partV,leV,List.mem_cons,List.not_mem_nil,or_false,forall_eq_or_imp,forall_eq,BE.t_leq,IE.den_lit,IE.den_var] at k
  obtain ⟨_,_,_,k4,k5⟩:=k
  rw [show 30 + 4 * i + 3=33 + 4 * i by omega] at k4 k5
  exact ⟨(ρ.iv (33 + 4 * i)).toNat,by omega,by omega⟩
/-- the texts that say what is so from the beginning of an evening of so many parts -/
structure Looks (q:Bool) (n:Nat):Prop where
  l:LookAt q n 0
  o:ckO q n=true
  p:ckP q n=true
noncomputable def cntD:Nat→List Nat
  | 0=>[]
  | n + 1=>n :: cntD n
end Go.Sx
/-! A NUMBER THAT CHOOSES: Pick,as it is said; and one list that is not known. -/
namespace Go.Sx
open Go.RowKit Go.Proofs
set_option maxRecDepth 100000
/-- a heap with one list that is not known -/
noncomputable def heapU (n b i:Nat) (ks:List Bool):Heap:=(⟨.nil,n⟩:Heap).put b (.ucells i ks)
theorem heapU_get {n b i:Nat} {ks:List Bool} {j:Nat} {o:AObj} (h:(heapU n b i ks).get j=some o):j=b∧o=.ucells i ks:=by
  unfold heapU at h
  rw [Heap.get_put] at h
  split at h
  · rename_i e; cases h; exact ⟨e,rfl⟩
  · have:(PT.get PT.nil j:Option AObj)=some o:=h
    rw [PT.get_nil] at this; cases this
theorem heapU_ok {p : Par} {E : Env} {w : World} {n b i c x : Nat} {ks : List Bool} {cells : Array Value} {el : Nat} {fz : Nat × Nat} (hs : E.σ b = some (c, x)) (hcell : w.heap[c]? = some (.cells cells el fz))
    (hc:∀ (m off:Nat) (k:Bool),(m:Int) < E.ρ.iv i→ks[off]?=some k→cells[x + m * ks.length + off]?=some (cellOf E.ρ i m off k))
    (hf:∀ j,n≤j→E.σ j=none) (hg:∀ j,j < 1000→E.σ j=some (j,0)) (hn:E.n≤n) (hok:p.okB E.ρ (Base.of w)):HeapOk p E (heapU n b i ks) (Base.of w) w:=by
  have hlt:c < w.heap.size:=(Array.getElem?_eq_some_iff.1 hcell).1
  refine ⟨fun j o e=>?_,fun j j' o o' c x y h1 h2 w1=>?_,fun j o c x e ow=>?_,fun j o c y e _ s=>?_,hf,fun j o c x e s=>?_,hg,Kept.refl _ _,hn,hok⟩
  · obtain ⟨rfl,rfl⟩:=heapU_get e
    exact ⟨c,x,cells,el,fz,hs,hcell,hc⟩
  · obtain ⟨rfl,rfl⟩:=heapU_get h1; cases w1
  · obtain ⟨rfl,rfl⟩:=heapU_get e; cases ow
  · obtain ⟨rfl,rfl⟩:=heapU_get e; rw [hs] at s; cases s; exact hlt
  · obtain ⟨rfl,rfl⟩:=heapU_get e; rw [hs] at s; cases s; exact hlt
/-! ## Pick -/
/-- what is known of a list that is only read: it is the opaque value 96,it has iv 96 numbers; what lies in it is 'fi 1001',and what a number picks is 'fi 1000' -/
def okPick (ρ:Rho) (m:Nat→Obj→Prop):Prop:=∃ (b:Option Addr) (len cap:Nat),ρ.ov 96=.slice b len cap∧ρ.iv 96=(len:Int)∧(len:Int)≤9223372036854775807∧len≤cap ∧
  (∀ n,ρ.fi 1000 n 0 0=if len=0 then 0 else ρ.fi 1001 (turnF n len) 0 0) ∧
  (0 < len→∃ c x cells el fz,b=some ⟨c,x,none⟩∧m c (.cells cells el fz)∧∀ j:Nat,j < len→cells[x + j]?=some (.int .i64 (ρ.fi 1001 j 0 0)))
noncomputable def orcTn (f:FuncId) (args:List AV) (h:Heap):Option (T (AV × Heap)):=cond (Nat.beq f 9) (turnC.orc args h) none
noncomputable def tbTn:Tabs:=⟨Sx.Tryd.ft.get,lFind Sx.Tryd.rt,2000,orcTn⟩
theorem tabsTn:TabOk pT Sx.Tryd.tt.get tbTn:=Tryd.tab orcTn (fun f args h t e=>by
  unfold orcTn at e
  obtain ⟨h1,h2⟩:=cond_some e
  have:=beq_t.1 h1; subst this
  exact turn_orc rfl h2) 2000
/-- a list of some numbers -/
noncomputable def pickRun:T (AV × Heap):=evalN tbTn 10 false 39 [.sliceV 1001 1,vi 80] (heapU 2000 1001 1 [false])
noncomputable def turnE:IE:=.app 6 (.var 80) (.var 1) (.lit 0)
noncomputable def pickT:T AV:=.br (.cmp .eql (.var 1) (.lit 0)) (.ret (.int .i64 (.lit 0))) (.br (.cmp .leq (.var 1) big)
  (.br (.and (.cmp .leq (.lit 0) turnE) (.cmp .lss turnE (.var 1))) (.ret (.int .i64 (.app 1001 turnE (.lit 0) (.lit 0)))) (.fail 18)) (.fail 99))
theorem pick_run:(pickRun.bind fun r=>.ret r.1)=pickT:=by kernel_rfl
/-- a list of no number,whatever it is -/
noncomputable def pick0Run:T (AV × Heap):=evalN tbTn 10 false 39 [.sliceU 96,vi 80] (viewHeap 2000 [])
noncomputable def turn0E:IE:=.app 6 (.var 80) (.var 96) (.lit 0)
noncomputable def pick0T:T AV:=.br (.cmp .eql (.var 96) (.lit 0)) (.ret (.int .i64 (.lit 0))) (.br (.cmp .leq (.var 96) big) (.br (.and (.cmp .leq (.lit 0) turn0E) (.cmp .lss turn0E (.lit (Int.ofNat 0)))) (.fail 18) (.fail 18)) (.fail 99))
theorem pick0_run:(pick0Run.bind fun r=>.ret r.1)=pick0T:=by kernel_rfl
theorem made {f : FuncId} {args : List AV} {h : Heap} {run : T (AV × Heap)} (hc : CallOk pT f args h run) {E : Env} {w : World} {vs : List Value} (HS : HeapOk pT E h (Base.of w) w) (ha : concL E args = some vs) {V : AV → Prop}
    (hrun:(run.bind fun r=>T.ret r.1).Holds E.ρ V):(callFunc f vs.toArray).run pT.P w=.ok (.enter f vs.toArray) w∧Calls pT.P f vs.toArray w fun e w'=>∃ v cv E2,e=.returned cv∧V v∧E2.ρ=E.ρ∧conc E2 v=some cv∧Below w.heap.size w w':=by
  rw [T.holds_bind] at hrun
  obtain ⟨r1,r2⟩:=hc vs E (Base.of w) w (fun r=>V r.1) (fun cv w'=>∃ v E2,V v∧E2.ρ=E.ρ∧conc E2 v=some cv∧Below w.heap.size w w') hrun HS ha
    (fun v h' E2 w' cv q hle HH' hv=>⟨v,E2,q,hle.ρ,hv,Base.keeps_below HH'.below⟩)
  refine ⟨r1,r2.mono ?_⟩
  rintro e w' ⟨cv,rfl,v,E2,q,hρ,hv,hb⟩
  exact ⟨v,cv,E2,rfl,q,hρ,hv,hb⟩
/-- PICK,AS IT IS SAID: of a list of which 'okPick' is known. -/
noncomputable def pickOrc (args:List AV) (h:Heap):Option (T (AV × Heap)) :=
  match args with
  | [.sliceU i,.int .i64 e]=>cond (Nat.beq i 96) (some (.ret (.int .i64 (.app 1000 e (.lit 0) (.lit 0)),h))) none
  | _=>none
theorem pick_orc {p:Par} (hP:pT.P=p.P) (hok:∀ ρ m,p.ok ρ m→okPick ρ m) {args:List AV} {h:Heap} {t:T (AV × Heap)} (ho:pickOrc args h=some t):CallOk p 39 args h t:=by
  unfold pickOrc at ho
  split at ho
  · rename_i i e
    obtain ⟨hi,ho⟩:=cond_some ho
    have:=beq_t.1 hi; subst this
    cases ho
    refine callOk_of fun vs E w0 w Q HH ha k=>?_
    obtain ⟨m,hm,hmh⟩:=HH.ok
    obtain ⟨b,len,cap,h1,h2,h3,h4,h5,h6⟩:=hok _ _ hm
    have hvs:vs=[.slice b len cap,.int .i64 (e.den E.ρ)]:=by
      simp only [concL,conc,h1,h2,if_true,Option.some.injEq] at ha
      exact ha.symm
    subst hvs
    let ρ':Rho:=⟨fun j=>if j=1 then (len:Int) else if j=80 then e.den E.ρ else E.ρ.iv j,E.ρ.bv,E.ρ.fi,E.ρ.fb,E.ρ.ov⟩
    have hfin:∀ {f':FuncId} {z:Int} {u:Value},u=.int .i64 z→z=E.ρ.fi 1000 (e.den E.ρ) 0 0→conc E (.int .i64 (.app 1000 e (.lit 0) (.lit 0)))=some u:=by
      intro _ z u hu hz
      rw [hu,hz]
      simp only [conc,IE.den,FI]
      rw [if_pos (show 1000≤1000 from Nat.le_refl _)]
    rw [← hP]
    rcases Nat.eq_zero_or_pos len with hz | hpos
    · let E':Env:=⟨ρ',fun x=>if x < 1000 then some (x,0) else none,E.κ,2000,fun _=>#[]⟩
      have HS:HeapOk pT E' (viewHeap 2000 []) (Base.of w) w:=view_ok (fun g hg=>(List.not_mem_nil hg).elim)
        (fun x hx=>by simp only [E']; rw [if_neg (by omega)]) (fun x hx=>by simp only [E',if_pos hx]) (Nat.le_refl _) (Par.okB_all (fun _ _=>trivial) _ _)
      have ha':concL E' [.sliceU 96,vi 80]=some [.slice b len cap,.int .i64 (e.den E.ρ)]:=by
        have e1:E'.ρ.ov 96=.slice b len cap:=h1
        have e2:E'.ρ.iv 96=(len:Int):=h2
        simp only [concL,conc,vi,e1,e2,if_true]
        rfl
      obtain ⟨r1,r2⟩:=made (eval_ok tabsTn 10 39 _ _) HS ha' (V:=fun v=>v=.int .i64 (.lit 0)) (by
        show ((pick0Run.bind fun r=>T.ret r.1):T AV).Holds E'.ρ _
        rw [pick0_run]
        have:(BE.cmp .eql (.var 96) (.lit 0)).den E'.ρ=true:=by
          show (E'.ρ.iv 96 == 0)=true
          have e2:E'.ρ.iv 96=(len:Int):=h2
          rw [e2,hz]; rfl
        unfold pick0T
        simp only [T.Holds]
        rw [if_pos this]; trivial)
      refine ⟨r1,r2.mono ?_⟩
      rintro ex w' ⟨v,cv,E2,rfl,rfl,_,hv,hb⟩
      refine ⟨_,cv,rfl,k,?_,hb⟩
      simp only [conc,IE.den,Option.some.injEq] at hv
      exact hfin (f':=0) hv.symm (by rw [h5,if_pos hz])
    · obtain ⟨c,x,cells,el,fz,rfl,hc,hcells⟩:=h6 hpos
      have hw:w.heap[c]?=some (.cells cells el fz):=Base.Keeps.has HH.below (hmh _ _ hc)
      let E':Env:=⟨ρ',fun y=>if y < 1000 then some (y,0) else if y=1001 then some (c,x) else none,fun _=>cap,2000,fun _=>#[]⟩
      have i1:E'.ρ.iv 1=(len:Int):=rfl
      have i80:E'.ρ.iv 80=e.den E.ρ:=rfl
      have HS:HeapOk pT E' (heapU 2000 1001 1 [false]) (Base.of w) w:=heapU_ok (c:=c) (x:=x) rfl hw
        (fun n off kk hn hk=>by
          rw [i1] at hn
          have h0:off=0∧kk=false:=by
            cases off with
            | zero=>cases hk; exact ⟨rfl,rfl⟩
            | succ o=>cases hk
          obtain ⟨rfl,rfl⟩:=h0
          have:=hcells n (by omega)
          simp only [List.length_singleton,Nat.mul_one,Nat.add_zero]
          rw [this]; rfl)
        (fun y hy=>by simp only [E']; rw [if_neg (by omega),if_neg (by omega)]) (fun y hy=>by simp only [E',if_pos hy]) (Nat.le_refl _) (Par.okB_all (fun _ _=>trivial) _ _)
      have ha':concL E' [.sliceV 1001 1,vi 80]=some [.slice (some ⟨c,x,none⟩) len cap,.int .i64 (e.den E.ρ)]:=by
        have hle:(0:Int)≤E'.ρ.iv 1∧E'.ρ.iv 1≤(E'.κ 1001:Int):=by
          rw [i1]; exact ⟨by omega,by show (len:Int)≤(cap:Int); omega⟩
        simp only [concL,conc,vi,if_pos hle]
        rfl
      have ht:turnE.den E'.ρ=turnF (e.den E.ρ) len:=rfl
      have tb:0≤turnF (e.den E.ρ) len∧turnF (e.den E.ρ) len < len:=by
        unfold turnF
        rw [if_neg (by omega)]
        exact ⟨Int.emod_nonneg _ (by omega),Int.emod_lt_of_pos _ (by omega)⟩
      obtain ⟨r1,r2⟩:=made (eval_ok tabsTn 10 39 _ _) HS ha' (V:=fun v=>v=.int .i64 (.app 1001 turnE (.lit 0) (.lit 0))) (by
        show ((pickRun.bind fun r=>T.ret r.1):T AV).Holds E'.ρ _
        rw [pick_run]
        unfold pickT
        simp only [T.Holds]
        rw [if_neg (by show ¬ (E'.ρ.iv 1 == 0)=true; rw [i1]; simp only [beq_iff_eq]; omega)]
        rw [if_pos (by show decide (E'.ρ.iv 1≤9223372036854775807)=true; rw [i1]; exact decide_eq_true h3)]
        rw [if_pos (by
          show (decide (0≤turnE.den E'.ρ) && decide (turnE.den E'.ρ < E'.ρ.iv 1))=true
          rw [ht,i1,decide_eq_true tb.1,decide_eq_true tb.2]; rfl)]; trivial)
      refine ⟨r1,r2.mono ?_⟩
      rintro ex w' ⟨v,cv,E2,rfl,rfl,hρ,hv,hb⟩
      refine ⟨_,cv,rfl,k,?_,hb⟩
      have hv2:Value.int .i64 ((IE.app 1001 turnE (.lit 0) (.lit 0)).den E2.ρ)=cv:=by simpa only [conc,Option.some.injEq] using hv
      refine hfin (f':=0) hv2.symm ?_
      rw [hρ,h5,if_neg (by omega)]
      show FI E'.ρ.fi 1001 (turnE.den E'.ρ) 0 0=_
      unfold FI
      rw [if_pos (by omega),ht]
  · cases ho
end Go.Sx
/-! THE NAMES OF THE LAW OF THE PARTS: there are such,for any valid evening. -/
namespace Go.Sx
open Go.RowKit Go.Proofs
set_option maxRecDepth 100000
theorem turnF_in {n m:Int} (h:1≤m):0≤turnF n m∧turnF n m < m:=by
  unfold turnF
  rw [if_neg (by omega)]
  exact ⟨Int.emod_nonneg _ (by omega),Int.emod_lt_of_pos _ (by omega)⟩
theorem isTrueK_okP {ρ:Rho} {K:Kn} (hK:KnOk ρ K) {r:AV × Heap} (h:isTrueK K r=true):∃ b,r.1=.bool b∧b.den ρ=true:=by
  unfold isTrueK at h
  split at h
  · rename_i b hb
    refine ⟨b,hb,?_⟩
    split at h
    · rename_i c hc
      rw [decK_ok hK _ _ hc]; exact h
    · cases h
  · cases h
theorem law_true {p : Par} {ty : Nat → Option TI} {tb : Tabs} (B : TabOk p ty tb) {d : Nat} {f : FuncId} {args : List AV} {l : List (Nat × List AV)} {E : Env} {w : World} {vs : List Value}
    (hv:∀ g ∈ l,ViewIn w E g) (hf:∀ b,2000≤b→E.σ b=none) (hg:∀ b,b < 1000→E.σ b=some (b,0)) (hn:E.n≤2000) (ha:concL E args=some vs)
    {K:Kn} (hK:KnOk E.ρ K) (h:allK isTrueK (evalN tb d false f args (viewHeap 2000 l)) K=true) (hok:p.okB E.ρ (Base.of w)) :
    Calls p.P f vs.toArray w fun e w'=>e=.returned (.bool true)∧Below w.heap.size w w':=by
  have key:=allK_ok (P:=fun r:AV × Heap=>∃ b,r.1=.bool b∧b.den E.ρ=true) (fun K a hK h=>isTrueK_okP hK h) _ K hK h
  have HS:HeapOk p E (viewHeap 2000 l) (Base.of w) w:=view_ok hv hf hg hn hok
  obtain ⟨r1,r2⟩:=eval_ok B d f args (viewHeap 2000 l) vs E (Base.of w) w _ (fun cv w'=>cv=.bool true∧Below w.heap.size w w') key HS ha
    (fun v h' E2 w' cv hq2 hle HH' hv2=>by
      obtain ⟨b,hb,hd⟩:=hq2
      refine ⟨?_,Base.keeps_below HH'.below⟩
      have hb:v=.bool b:=hb
      rw [hb] at hv2
      simp only [conc,Option.some.injEq] at hv2
      rw [← hv2,hle.ρ,hd])
  refine r2.mono ?_
  rintro e w' ⟨cv,rfl,rfl,hb⟩
  exact ⟨rfl,hb⟩
theorem cntD_mem:∀ {n i:Nat},i < n→i ∈ cntD n
  | 0,_,h=>absurd h (by omega)
  | n + 1,i,h=>by
    by_cases e:i=n
    · subst e; exact List.mem_cons_self
    · exact List.mem_cons_of_mem _ (cntD_mem (by omega))
end Go.Sx
/-! THE LAW OF THE PARTS: evenings that are not valid; too few parts or too many. -/
namespace Go.Sx
open Go.RowKit Go.Proofs
set_option maxRecDepth 100000
noncomputable def conjC:List BE→BE
  | []=>.lit true
  | c :: l=>.and c (conjC l)
noncomputable def runS0 (c:CSpec):T (AV × Heap):=evalN tb0 60 false c.f c.args (viewHeap c.nv c.view)
noncomputable def evFalse (L:Nat):CSpec:=⟨42,bookA L,lB L,2000,[],.br (conjC (csV L)) (.fail 1) (.ret (.bool (.lit false)))⟩
noncomputable def noCk (L:Nat):Bool:=(evFalse L).chkK [] [] [] (runS0 (evFalse L))
noncomputable def bookU:List AV:=[.agg (bookS (.sliceU 95))]
noncomputable def fewC (many:Bool):BE:=cond many (leV (.lit 6) (.var 95)) (leV (.var 95) (.lit 0))
noncomputable def evNo (many:Bool):CSpec:=⟨42,bookU,gl,2000,[fewC many],.ret (.bool (.lit false))⟩
noncomputable def noCkU (many:Bool):Bool:=(evNo many).chkK [] [] [fewC many] (runS0 (evNo many))
noncomputable def orcIv (c:CSpec) (f:FuncId) (args:List AV) (h:Heap):Option (T (AV × Heap)):=cond (Nat.beq f 8) (closedOrc gl args h) (cond (Nat.beq f 42) (c.orc args h) none)
noncomputable def tbIv (c:CSpec):Tabs:=⟨Sx.Tryd.ft.get,lFind Sx.Tryd.rt,2000,orcIv c⟩
theorem noCk_all:lAll noCk [1,2,3,4,5]=true:=by kernel_rfl
theorem noCkU_all:lAll noCkU [true,false]=true:=by kernel_rfl
theorem orcIv_ok {c:CSpec} (hf:c.f=42) (H:∀ args h u,c.orc args h=some u→CallOk pT c.f args h u):∀ f args h t,orcIv c f args h=some t→CallOk pT f args h t:=by
  intro f args h t e
  unfold orcIv at e
  cases h8:Nat.beq f 8 with
  | true=>rw [h8] at e; have:=beq_t.1 h8; subst this; exact firedOrc_ok e
  | false =>
    rw [h8,cond_false] at e
    obtain ⟨h42,e⟩:=cond_some e
    have:=beq_t.1 h42; subst this
    have:=H args h t e
    rw [hf] at this; exact this
theorem evFalse_ok {L:Nat} (hL:L ∈ [1,2,3,4,5]) {args:List AV} {h:Heap} {t:T (AV × Heap)} (ho:(evFalse L).orc args h=some t):CallOk pT 42 args h t :=
  CSpec.okK (c:=evFalse L) (q:=[]) (cs0:=[]) rfl (eval_ok tabs0 60 42 (evFalse L).args _) (lAll_mem noCk_all L hL) (fun ρ _=>rules_nil ρ) (Nat.le_of_ble_eq_true rfl) ho
theorem evNo_ok (many:Bool) {args:List AV} {h:Heap} {t:T (AV × Heap)} (ho:(evNo many).orc args h=some t):CallOk pT 42 args h t :=
  CSpec.okK (c:=evNo many) (q:=[]) (cs0:=[fewC many]) rfl (eval_ok tabs0 60 42 (evNo many).args _) (lAll_mem noCkU_all many (by cases many <;> simp)) (fun ρ _=>rules_nil ρ) (Nat.le_of_ble_eq_true rfl) ho
theorem conj_t {ρ:Rho}:∀ (l:List BE),(conjC l).den ρ=true→∀ c ∈ l,c.den ρ=true
  | [],_,c,hc=>(List.not_mem_nil hc).elim
  | d :: l,h,c,hc=>by
    simp only [conjC,BE.den,Bool.and_eq_true] at h
    rcases List.mem_cons.1 hc with rfl | hc
    · exact h.1
    · exact conj_t l h.2 c hc
theorem conj_f {ρ:Rho} {l:List BE} (h:¬ ∀ c ∈ l,c.den ρ=true):(conjC l).den ρ=false:=by
  cases hc:(conjC l).den ρ with
  | false=>rfl
  | true=>exact (h (conj_t l hc)).elim
end Go.Sx
/-! AN EVENING WITH OTHER NUMBERS: what is asked of its numbers; whether some plan is enough. -/
namespace Go.Sx
open Go.RowKit Go.Proofs
set_option maxRecDepth 100000
/-- the numbers of an evening that is valid,but for its parts -/
structure BookE (iv:Nat→Int):Prop where
  room0:1≤iv 4∧iv 4≤99
  room1:1≤iv 5∧iv 5≤99
  coal:0≤iv 0∧iv 0≤iv 1∧iv 1≤iv 4
  water:0≤iv 2∧iv 2≤iv 3∧iv 3≤iv 5
  load0:1≤iv 6∧iv 6≤20
  load1:1≤iv 7∧iv 7≤20
  mark:0≤iv 20∧iv 20≤iv 5
  lamp:0≤iv 21∧iv 21≤60
  b0:0≤iv 8∧iv 8≤iv 9∧iv 9≤3
  b1:0≤iv 10∧iv 10≤iv 11∧iv 11≤3
  d0:0≤iv 12∧iv 12≤iv 13∧iv 13≤3
  d1:0≤iv 14∧iv 14≤iv 15∧iv 15≤3
  full:0≤iv 16∧iv 16≤iv 17∧iv 17≤60
  weak:0≤iv 18∧iv 18≤iv 19∧iv 19≤60
  cur:iv 18≤iv 16∧iv 19≤iv 17
structure PartE (iv:Nat→Int) (b:Nat):Prop where
  min:1≤iv b∧iv b≤iv (b + 1)∧iv (b + 1)≤60
  walks:0≤iv (b + 3)∧iv (b + 3)≤5
theorem book_iff {ρ:Rho}:(∀ c ∈ bookC,c.den ρ=true) ↔ BookE ρ.iv:=by
  simp only [bookC,inV,leV,List.cons_append,List.nil_append,List.mem_cons,List.not_mem_nil,or_false,forall_eq_or_imp,forall_eq,BE.t_leq,IE.den_lit,IE.den_var,Nat.reduceAdd]
  constructor
  · rintro ⟨h1,h2,h3,h4,h5,h6,h7,h8,h9,h10,h11,h12,h13,h14,h15,h16,h17,h18,h19,h20,h21,h22,h23,h24,h25,h26,h27,h28,h29,h30,h31,h32,h33,h34,h35,h36,h37,h38⟩
    constructor <;> omega
  · rintro ⟨⟨_,_⟩,⟨_,_⟩,⟨_,_,_⟩,⟨_,_,_⟩,⟨_,_⟩,⟨_,_⟩,⟨_,_⟩,⟨_,_⟩,⟨_,_,_⟩,⟨_,_,_⟩,⟨_,_,_⟩,⟨_,_,_⟩,⟨_,_,_⟩,⟨_,_,_⟩,⟨_,_⟩⟩
    refine ⟨?_,?_,?_,?_,?_,?_,?_,?_,?_,?_,?_,?_,?_,?_,?_,?_,?_,?_,?_,?_,?_,?_,?_,?_,?_,?_,?_,?_,?_,?_,?_,?_,?_,?_,?_,?_,?_,?_⟩ <;> assumption
theorem part_iff {ρ:Rho} {b:Nat}:(∀ c ∈ partV b,c.den ρ=true) ↔ PartE ρ.iv b:=by
  simp only [partV,leV,List.mem_cons,List.not_mem_nil,or_false,forall_eq_or_imp,forall_eq,BE.t_leq,IE.den_lit,IE.den_var]
  constructor
  · rintro ⟨h1,h2,h3,h4,h5⟩; constructor <;> omega
  · rintro ⟨⟨_,_,_⟩,⟨_,_⟩⟩; refine ⟨?_,?_,?_,?_,?_⟩ <;> assumption
theorem parts_iff {ρ:Rho}:∀ {n b:Nat},(∀ c ∈ partsV n b,c.den ρ=true) ↔ ∀ i,i < n→PartE ρ.iv (b + 4 * i)
  | 0,b=>⟨fun _ i h=>absurd h (by omega),fun _ c hc=>by cases hc⟩
  | n + 1,b=>by
    have ih:=parts_iff (ρ:=ρ) (n:=n) (b:=b + 4)
    have ip:=part_iff (ρ:=ρ) (b:=b)
    constructor
    · intro h i hi
      cases i with
      | zero=>exact ip.1 fun c hc=>h c (List.mem_append.2 (.inl hc))
      | succ i =>
        have:=ih.1 (fun c hc=>h c (List.mem_append.2 (.inr hc))) i (by omega)
        rw [show b + 4 * (i + 1)=b + 4 + 4 * i by omega]; exact this
    · intro h c hc
      rcases List.mem_append.1 hc with hc | hc
      · exact ip.2 (h 0 (by omega)) c hc
      · exact ih.2 (fun i hi=>by rw [show b + 4 + 4 * i=b + 4 * (i + 1) by omega]; exact h (i + 1) (by omega)) c hc
theorem cs_iff {ρ:Rho} {L:Nat}:(∀ c ∈ csV L,c.den ρ=true) ↔ BookE ρ.iv∧∀ i,i < L→PartE ρ.iv (30 + 4 * i):=by
  rw [← book_iff,← parts_iff]
  exact ⟨fun h=>⟨fun c hc=>h c (List.mem_append.2 (.inl hc)),fun c hc=>h c (List.mem_append.2 (.inr hc))⟩,fun h c hc=>(List.mem_append.1 hc).elim (h.1 c) (h.2 c)⟩
/-! ## Alike,as far as an evening goes -/
structure AgreeL (ρ ρ':Rho):Prop where
  iv:∀ j,j < 60→ρ.iv j=ρ'.iv j
  bv:∀ j,j < 60→ρ.bv j=ρ'.bv j
section
variable {ρ ρ':Rho} (A:AgreeL ρ ρ')
include A
theorem tak_agreeL {i r:Nat} (hi:i < 7) (hr:r < 2):takF ρ i r=takF ρ' i r:=by
  unfold takF
  rw [A.iv (31 + 4 * i) (by omega),A.bv (32 + 4 * i) (by omega)]
  split
  · rw [A.iv (11 + 4 * r) (by omega)]
  · rw [A.iv (9 + 4 * r) (by omega)]
theorem left_agreeL {i r:Nat} (hi:i < 7) (hr:r < 2) (a w:Int):leftF ρ i r a w=leftF ρ' i r a w:=by
  unfold leftF hasF; rw [tak_agreeL A hi hr,A.iv (6 + r) (by omega),A.iv (4 + r) (by omega)]
theorem lack_agreeL {i r:Nat} (hi:i < 7) (hr:r < 2) (a w:Int):lackF ρ i r a w=lackF ρ' i r a w:=by
  unfold lackF hasF; rw [tak_agreeL A hi hr,A.iv (6 + r) (by omega),A.iv (4 + r) (by omega)]
theorem fail_agreeL {i:Nat} (hi:i < 7) (l:Int):failF ρ i l=failF ρ' i l:=by
  unfold failF; rw [A.bv (32 + 4 * i) (by omega),A.iv 20 (by omega),A.iv 18 (by omega),A.iv 21 (by omega),A.iv 16 (by omega)]
theorem roundG_agreeL {i:Nat} (hi:i < 7) (nx:Int→Int→Out) (a b:Int) (cw ww:Nat) (S:Stt):roundG ρ nx i a b cw ww S=roundG ρ' nx i a b cw ww S:=by
  unfold roundG
  simp only [left_agreeL A hi (show 0 < 2 by omega),left_agreeL A hi (show 1 < 2 by omega),lack_agreeL A hi (show 0 < 2 by omega),lack_agreeL A hi (show 1 < 2 by omega),fail_agreeL A hi]
theorem roundsG_agreeL {i:Nat} (hi:i < 7) (nx:Int→Int→Out) (a b:Int):∀ (l:List (Nat × Nat)) (S:Stt),roundsG ρ nx i a b l S=roundsG ρ' nx i a b l S
  | [],_=>rfl
  | x :: l,S=>by simp only [roundsG]; rw [roundG_agreeL A hi,roundsG_agreeL hi nx a b l]
theorem outD_agreeL:∀ (d i:Nat),i + d≤7→outD ρ d i=outD ρ' d i
  | 0,_,_=>rfl
  | d + 1,i,h=>by
    funext a b
    simp only [outD]
    rw [outD_agreeL d (i + 1) (by omega),roundsG_agreeL A (by omega),A.iv (33 + 4 * i) (by omega)]
theorem enD_agreeL {m:Nat} (hm:m≤7):enD ρ m=enD ρ' m:=by
  unfold enD; rw [outD_agreeL A m 0 (by omega),A.iv 0 (by omega),A.iv 2 (by omega)]
end
/-! ## Other numbers -/
noncomputable def vx (e:Nat→IE) (j:Nat):AV:=.int .i64 (e j)
noncomputable def rowsX (e:Nat→IE):Nat→Nat→List AV
  | 0,_=>[]
  | n + 1,b=>vx e b :: vx e (b + 1) :: .bool (.var (b + 2)) :: vx e (b + 3) :: rowsX e n (b + 4)
noncomputable def vxUp (e:Nat→IE):Nat→Nat→List AV
  | 0,_=>[]
  | n + 1,i=>vx e i :: vxUp e n (i + 1)
noncomputable def bookX (e:Nat→IE) (s:AV):List AV:=lApp (vxUp e 22 0) [s]
theorem rowsX_ids (e:Nat→IE) (N:Nat):∀ n b,idsLts N (rowsX e n b)=true
  | 0,_=>rfl
  | n + 1,b=>by simp only [rowsX,idsLts,idsLt,vx,rowsX_ids e N n (b + 4),Bool.and_self]
end Go.Sx
/-! THE LAW OF THE PARTS,CALLED WITH WHATEVER CAN BE READ. -/
namespace Go.Sx
open Go.RowKit Go.Proofs
set_option maxRecDepth 100000
theorem rowsV_vals (E : Env) (z : Nat → Int) (zb : Nat → Bool) : ∀ (n b c : Nat), c % 4 = 0 → (∀ q, q < 4 * n → E.ρ.iv (b + q) = z (c + q)) → (∀ q, q < 4 * n → E.ρ.bv (b + q) = zb (c + q)) →
    ∃ vs,concL E (rowsV n b)=some vs∧vs.length=4 * n∧∀ q,q < 4 * n→vs[q]?=some (partAt z zb (c + q))
  | 0,b,c,_,_,_=>⟨[],rfl,rfl,fun q hq=>absurd hq (by omega)⟩
  | n + 1,b,c,h4,hz,hb=>by
    obtain ⟨vs,h1,h2,h3⟩:=rowsV_vals E z zb n (b + 4) (c + 4) (by omega) (fun q hq=>by rw [show b + 4 + q=b + (4 + q) by omega,show c + 4 + q=c + (4 + q) by omega]; exact hz _ (by omega)) (fun q hq=>by rw [show b + 4 + q=b + (4 + q) by omega,show c + 4 + q=c + (4 + q) by omega]; exact hb _ (by omega))
    have e0:=hz 0 (by omega); have e1:=hz 1 (by omega); have e2:=hb 2 (by omega); have e3:=hz 3 (by omega)
    refine ⟨partAt z zb c :: partAt z zb (c + 1) :: partAt z zb (c + 2) :: partAt z zb (c + 3) :: vs,?_,by simp only [List.length_cons,h2]; omega,fun q hq=>?_⟩
    · simp only [rowsV,vi,concL,conc,IE.den,BE.den,h1]
      unfold partAt
      rw [if_neg (show ¬ c % 4=2 by omega),if_neg (show ¬ (c + 1) % 4=2 by omega),if_pos (show (c + 2) % 4=2 by omega),if_neg (show ¬ (c + 3) % 4=2 by omega),← e1,← e2,← e3]
      rw [Nat.add_zero,Nat.add_zero] at e0
      rw [← e0]
    · match q,hq with
      | 0,_=>rfl
      | 1,_=>rfl
      | 2,_=>rfl
      | 3,_=>rfl
      | q + 4,hq =>
        have:=h3 q (by omega)
        rw [show c + 4 + q=c + (q + 4) by omega] at this
        exact this
def envP (ρ:Rho) (b o cap:Nat):Env:=⟨ρ,fun j=>if j < 1000 then some (j,0) else if j=1001 then some (b,o) else none,fun _=>cap,2000,fun _=>#[]⟩
theorem book_vals {E:Env} {nb:Nat→Int} {a:AV} {s:Value} (hi:∀ j,j < 22→E.ρ.iv j=nb j) (ha:conc E a=some s):conc E (.agg (bookS a))=some (.agg ((List.range 22).map (fun i=>Value.int .i64 (nb i)) ++ [s]).toArray):=by
  have h:concL E (bookS a)=some ((List.range 22).map (fun i=>Value.int .i64 (nb i)) ++ [s]):=by
    have hl:bookS a=[vi 0,vi 1,vi 2,vi 3,vi 4,vi 5,vi 6,vi 7,vi 8,vi 9,vi 10,vi 11,vi 12,vi 13,vi 14,vi 15,vi 16,vi 17,vi 18,vi 19,vi 20,vi 21,a]:=rfl
    rw [hl]
    simp only [vi,concL,conc,IE.den,ha,hi 0 (by omega),hi 1 (by omega),hi 2 (by omega),hi 3 (by omega),hi 4 (by omega),hi 5 (by omega),hi 6 (by omega),hi 7 (by omega),hi 8 (by omega),hi 9 (by omega),hi 10 (by omega),hi 11 (by omega),hi 12 (by omega),hi 13 (by omega),hi 14 (by omega),hi 15 (by omega),hi 16 (by omega),hi 17 (by omega),hi 18 (by omega),hi 19 (by omega),hi 20 (by omega),hi 21 (by omega)]
    rfl
  simp only [conc,h]
  rfl
end Go.Sx
/-! THE CALL Plan OF AN EVENING WITH OTHER NUMBERS,wherever its parts lie: what is told has names. -/
namespace Go.Sx
open Go.RowKit Go.Proofs
set_option maxRecDepth 100000
/-- what is left before a part,by the plan that is found; its walks -/
noncomputable def stD (ρ:Rho) (m:Nat):Nat→Int × Int
  | 0=>(ρ.iv 0,ρ.iv 2)
  | k + 1=>((outD ρ (m - k) k (stD ρ m k).1 (stD ρ m k).2).b0,(outD ρ (m - k) k (stD ρ m k).1 (stD ρ m k).2).b1)
noncomputable def outK (ρ:Rho) (m k:Nat):Out:=outD ρ (m - k) k (stD ρ m k).1 (stD ρ m k).2
structure OkC (m:Nat) (c:Bool) (ρ:Rho):Prop where
  w:∀ i,i < m→∃ W:Nat,W≤5∧ρ.iv (33 + 4 * i)=W
  e:enD ρ m=c
  pl:c=true→∀ k,k < m→ρ.iv (700 + 2 * k)=(outK ρ m k).wc∧ρ.iv (701 + 2 * k)=(outK ρ m k).ww
noncomputable def planN:Nat→Nat→List AV
  | 0,_=>[]
  | n + 1,b=>vi b :: vi (b + 1) :: planN n (b + 2)
theorem key_st {ρ:Rho} {m:Nat} (hw:∀ i,i < m→∃ W:Nat,W≤5∧ρ.iv (33 + 4 * i)=W) (h:enD ρ m=true):∀ k,k < m→(keyW k).1.den (rhoE ρ m)=k∧(keyW k).2.1.den (rhoE ρ m)=(stD ρ m k).1∧(keyW k).2.2.den (rhoE ρ m)=(stD ρ m k).2
  | 0,_=>⟨rfl,rfl,rfl⟩
  | k + 1,hk=>by
    obtain ⟨h1,h2,h3⟩:=key_st hw h k (by omega)
    have p:=(path_ok (okG_E hw) ((enB_E ρ m).trans h) (k + 1) hk).1
    refine ⟨p,?_,?_⟩
    · show FI (rhoE ρ m).fi 9405 ((keyW k).1.den (rhoE ρ m)) ((keyW k).2.1.den (rhoE ρ m)) ((keyW k).2.2.den (rhoE ρ m))=_
      rw [h1,h2,h3]
      have:=congrArg Out.b0 (outOf_E ρ m k (stD ρ m k).1 (stD ρ m k).2)
      rw [Int.toNat_natCast] at this
      exact this
    · show FI (rhoE ρ m).fi 9406 ((keyW k).1.den (rhoE ρ m)) ((keyW k).2.1.den (rhoE ρ m)) ((keyW k).2.2.den (rhoE ρ m))=_
      rw [h1,h2,h3]
      have:=congrArg Out.b1 (outOf_E ρ m k (stD ρ m k).1 (stD ρ m k).2)
      rw [Int.toNat_natCast] at this
      exact this
theorem plan_same {ρ:Rho} {m:Nat} (hk:OkC m true ρ):∀ n k,k + n=m→SameL (rhoE ρ m) (planC n k) ρ (planN n (700 + 2 * k))
  | 0,_,_=>SameL.nil
  | n + 1,k,h=>by
    obtain ⟨h1,h2,h3⟩:=key_st hk.w hk.e k (by omega)
    obtain ⟨p1,p2⟩:=hk.pl rfl k (by omega)
    have o:=outOf_E ρ m k (stD ρ m k).1 (stD ρ m k).2
    rw [Int.toNat_natCast] at o
    refine SameL.cons (SameV.int ?_) (SameL.cons (SameV.int ?_) (plan_same hk n (k + 1) (by omega)))
    · show FI (rhoE ρ m).fi 9402 ((keyW k).1.den (rhoE ρ m)) ((keyW k).2.1.den (rhoE ρ m)) ((keyW k).2.2.den (rhoE ρ m))=ρ.iv (700 + 2 * k)
      rw [h1,h2,h3,p1]; exact congrArg Out.wc o
    · show FI (rhoE ρ m).fi 9403 ((keyW k).1.den (rhoE ρ m)) ((keyW k).2.1.den (rhoE ρ m)) ((keyW k).2.2.den (rhoE ρ m))=ρ.iv (700 + 2 * k + 1)
      rw [h1,h2,h3,show 700 + 2 * k + 1=701 + 2 * k by omega,p2]; exact congrArg Out.ww o
noncomputable def newP (m b:Nat):AObj:=.cells (planN m b) 54 true false
noncomputable def vQ0 (m:Nat):List (Nat × AObj):=[(1001,.cells (rowsV m 30) 0 false false),(2000,newP m 700)]
noncomputable def resP (m:Nat) (c:Bool) (l:List (Nat × AObj)):AV × Heap:=cond c (foundV m,viewA 2001 (lApp l [(2000,newP m 700)])) (noneV,viewA 2000 l)
theorem plan_sh {m : Nat} {c : Bool} (h0 : 0 < m) (hm : m ≤ 5) (L : Looks true m) (hck : ckQ true m = true) :
    CallOk (pLaw fun ρ _=>OkC m c ρ) 36 (argsO true m) (viewA 2000 (vS m)) (.ret (resP m c (vS m))):=by
  have base:∀ c:Bool,CallOk (pLaw fun ρ _=>OkG m ρ∧enB.den ρ=c) 36 (argsO true m) (viewA 2000 (vS m)) (.ret (cond c (foundV m,viewA 2001 (vQ m)) (noneV,viewA 2000 (vS m)))):=fun c=>by
    have hc:=plan_ok (ok:=fun ρ _=>OkG m ρ∧enB.den ρ=c) (q:=true) (c:=c) h0 hm L.l L.o hck fun ρ b k=>k
    cases c
    · exact hc
    · exact hc
  refine CallOk.read (p0:=pLaw fun ρ _=>OkG m ρ∧enB.den ρ=c) (p:=pLaw fun ρ _=>OkC m c ρ) rfl (base c) fun ρ b h Q hQ=>?_
  obtain ⟨k,hk,hb⟩:=h
  have hk:OkC m c ρ:=hk
  have ei:ρ.iv=(rhoE ρ m).iv:=rfl
  have eb:ρ.bv=(rhoE ρ m).bv:=rfl
  refine ⟨rhoE ρ m,⟨k,⟨okG_E hk.w,(enB_E ρ m).trans hk.e⟩,hb⟩,SameL.cons (SameV.agg (even_same (fun j _=>congrFun ei j) true m)) SameL.nil,vS_same ei eb rfl m,?_⟩
  cases c
  · exact ⟨(noneV,viewA 2000 (vS m)),hQ,fun _ _ _ _ _ _=>rfl,vS_same ei.symm eb.symm rfl m⟩
  · refine ⟨(foundV m,viewA 2001 (vQ0 m)),hQ,fun _ _ _ _ _ _=>rfl,rfl,fun b o hg=>?_⟩
    have:=viewA_get _ _ _ _ hg
    simp only [vQ0,List.mem_cons,List.not_mem_nil,or_false] at this
    rcases this with h | h
    · cases h; exact ⟨_,viewA_mem 2001 _ 0 rfl (1001,.cells (rowsV m 30) 0 false false) (by simp [vQ]),SameA.cells rfl (rowsV_same ei.symm eb.symm _ _)⟩
    · cases h; exact ⟨_,viewA_mem 2001 _ 0 rfl (2000,.cells (planC m 0) 54 true false) (by simp [vQ]),SameA.cells rfl (plan_same hk m 0 (Nat.zero_add m))⟩
/-! ## Plan -/
structure OkPl (m:Nat) (c:Bool) (ρ:Rho):Prop where
  cs:∀ d ∈ csV m,d.den ρ=true
  o:OkC m c ρ
noncomputable def orcPl (m:Nat) (c:Bool) (f:FuncId) (args:List AV) (h:Heap):Option (T (AV × Heap)) :=
  cond (Nat.beq f 42) (soGo m args h) (cond (Nat.beq f 36) (frontGo (argsO true m) (lS m) (.ret (resP m c (vS m))) args h) none)
noncomputable def tbPl (m:Nat) (c:Bool):Tabs:=⟨Sx.Tryd.ft.get,lFind Sx.Tryd.rt,2000,orcPl m c⟩
noncomputable def runPl (m:Nat) (c:Bool):T (AV × Heap):=(evalN (tbPl m c) 60 false 12 (bookA m) (viewA 2000 (vB m))).bind fun r=>graftT 2000 (vB m) (viewA 2000 (vB m)) (nwP r) r
noncomputable def isRes (m:Nat) (c:Bool) (r:AV × Heap):Bool:=cond c (isR (foundV m) 2001 (lApp (vB m) [(2000,newP m 700)]) r) (isR noneV 2000 (vB m) r)
noncomputable def ckPl (m:Nat) (c:Bool):Bool:=and (viewOk 2000 (vB m)) (allK (fun _=>isRes m c) (runPl m c) (knOf [] []))
theorem ckPl_all:lAll (fun m=>and (ckPl m true) (ckPl m false)) [1,2,3,4,5]=true:=by kernel_rfl
theorem so_any {ok:Rho→(Nat→Obj→Prop)→Prop} {n:Nat} {f:Nat} (hok:∀ ρ b,ok ρ b→∀ c ∈ csV n,c.den ρ=true) (hck:ckBk f n (.bool (.lit true))=true) {args:List AV} {h:Heap} {t:T (AV × Heap)} (e:soGo n args h=some t):CallOk (pLaw ok) f args h t:=by
  have hv:viewOk 2000 (vB n)=true:=by
    have:=hck
    unfold ckBk at this
    simp only [Bool.and_eq_true] at this
    exact this.1
  exact frontGo_ok (p:=pLaw ok) (l:=lB n) (valid_ok (ok:=ok) hck hok) rfl hv e
theorem vals_at {n:Nat} (a:1≤n) (b:n≤5):ckBk 42 n (.bool (.lit true))=true∧ckBk 7 n (.bool (.lit true))=true:=by
  have:=lAll_mem valid_all n (by simp only [List.mem_cons,List.not_mem_nil,or_false]; omega)
  simpa only [Bool.and_eq_true] using this
theorem ckQ_at {m:Nat} (a:1≤m) (b:m≤5):ckQ true m=true:=by
  have:=lAll_mem ckQ_all (m - 1) (by simp only [List.mem_cons,List.not_mem_nil,or_false]; omega)
  simp only [Bool.and_eq_true] at this
  rw [show m - 1 + 1=m by omega] at this
  exact this.1
theorem vS_ok {q:Bool} {m:Nat} (H:Looks q m):viewOk 2000 (vS m)=true:=by
  have:=H.p
  unfold ckP at this
  simp only [Bool.and_eq_true] at this
  exact this.1
theorem orcPl_ok {m:Nat} {c:Bool} (h0:1≤m) (hm:m≤5) (H:Looks true m):∀ f args h t,orcPl m c f args h=some t→CallOk (pLaw fun ρ _=>OkPl m c ρ) f args h t:=by
  intro f args h t e
  unfold orcPl at e
  cases h42:Nat.beq f 42 with
  | true=>rw [h42,cond_true] at e; have:=beq_t.1 h42; subst this; exact so_any (fun ρ b k=>k.cs) (vals_at h0 hm).1 e
  | false =>
    rw [h42,cond_false] at e
    obtain ⟨h36,e⟩:=cond_some e
    have:=beq_t.1 h36; subst this
    refine frontGo_ok (p:=pLaw fun ρ _=>OkPl m c ρ) (l:=lS m) ?_ rfl (vS_ok H) e
    refine CallOk.read (p0:=pLaw fun ρ _=>OkC m c ρ) (p:=pLaw fun ρ _=>OkPl m c ρ) rfl (plan_sh h0 hm H (ckQ_at h0 hm)) fun ρ b hb Q hQ=>?_
    obtain ⟨w,hw,hbw⟩:=hb
    have hw:OkPl m c ρ:=hw
    refine ⟨ρ,⟨w,hw.o,hbw⟩,SameL.refl _ _,⟨rfl,fun j o g=>⟨o,g,SameA.refl o⟩⟩,?_⟩
    exact ⟨_,hQ,SameV.refl _ _,rfl,fun j o g=>⟨o,g,SameA.refl o⟩⟩
theorem plan12 {m:Nat} {c:Bool} (h0:1≤m) (hm:m≤5) (H:Looks true m):CallOk (pLaw fun ρ _=>OkPl m c ρ) 12 (bookA m) (viewA 2000 (vB m)) (.ret (resP m c (vB m))):=by
  have hck:ckPl m c=true:=by
    have:=lAll_mem ckPl_all m (by simp only [List.mem_cons,List.not_mem_nil,or_false]; omega)
    simp only [Bool.and_eq_true] at this
    cases c
    · exact this.2
    · exact this.1
  unfold ckPl at hck
  simp only [Bool.and_eq_true] at hck
  obtain ⟨hv,hck⟩:=hck
  have B:TabOk (pLaw fun ρ _=>OkPl m c ρ) Sx.Tryd.tt.get (tbPl m c):=Tryd.tab (orcPl m c) (orcPl_ok h0 hm H) 2000
  have base:=eval_ok B 60 12 (bookA m) (viewA 2000 (vB m))
  have up:∀ g ∈ vB m,(viewA 2000 (vB m)).get g.1=some g.2:=viewA_mem 2000 _ 0 rfl
  have fr:CallOk (pLaw fun ρ _=>OkPl m c ρ) 12 (bookA m) (viewA 2000 (vB m)) (runPl m c):=base.frame (n:=2000) (l:=vB m) (by omega) rfl hv (fun g hg=>⟨g.2,up g hg,.refl _⟩) (by rw [viewA_next]; exact Nat.le_refl _) nwP
  refine CallOk.read (p0:=pLaw fun ρ _=>OkPl m c ρ) (p:=pLaw fun ρ _=>OkPl m c ρ) rfl fr fun ρ b hb Q hQ=>⟨ρ,hb,SameL.refl _ _,⟨rfl,fun j o g=>⟨o,g,SameA.refl o⟩⟩,?_⟩
  refine allK_ok (ρ:=ρ) (fun K r hK hr=>?_) _ _ (knOf_ok (fun c hc=>by cases hc) fun c hc=>by cases hc) hck
  unfold isRes at hr
  cases c
  · obtain ⟨s1,s2⟩:=isR_same (p0:=pLaw fun ρ _=>OkPl m false ρ) (p:=pLaw fun ρ _=>OkPl m false ρ) rfl rfl (ρ:=ρ) hr
    exact ⟨_,hQ,s1,s2⟩
  · obtain ⟨s1,s2⟩:=isR_same (p0:=pLaw fun ρ _=>OkPl m true ρ) (p:=pLaw fun ρ _=>OkPl m true ρ) rfl rfl (ρ:=ρ) hr
    exact ⟨_,hQ,s1,s2⟩
end Go.Sx
/-! THE SEARCH of any evening,from its beginning. -/
namespace Go.Sx
open Go.RowKit Go.Proofs
set_option maxRecDepth 100000
theorem ckA_all {q:Bool} {m i:Nat} (h:ckAll q m i=true):ckS q m i=true∧∀ W,W≤5→ckW q m i W=true:=by
  unfold ckAll at h
  simp only [Bool.and_eq_true] at h
  exact ⟨h.1,fun W hW=>lAll_mem h.2 W (by simp only [List.mem_cons,List.not_mem_nil,or_false]; omega)⟩
theorem ckO_at {m:Nat} (h:m≤5):ckO true m=true∧ckO false m=true∧ckP true m=true∧ckP false m=true:=by
  have:=lAll_mem ckO_all m (by simp only [List.mem_cons,List.not_mem_nil,or_false]; omega)
  simpa only [Bool.and_eq_true] using this
theorem look_of {q:Bool} {m:Nat} (hm:m≤5) (hN:ckN q m=true) (h:∀ i,i < m→ckAll q m i=true):LookAt q m 0 :=
  look_all hm hN (fun i hi=>(ckA_all (h i hi)).1) (fun i hi=>(ckA_all (h i hi)).2) m 0 (Nat.zero_add m)
theorem look_t1:LookAt true 1 0:=look_of (by omega) ckN_t1 fun i hi=>by
  match i,hi with
  | 0,_=>exact ckA_t10
theorem look_t2:LookAt true 2 0:=look_of (by omega) ckN_t2 fun i hi=>by
  match i,hi with
  | 0,_=>exact ckA_t20
  | 1,_=>exact ckA_t21
theorem look_t3:LookAt true 3 0:=look_of (by omega) ckN_t3 fun i hi=>by
  match i,hi with
  | 0,_=>exact ckA_t30
  | 1,_=>exact ckA_t31
  | 2,_=>exact ckA_t32
theorem look_t4:LookAt true 4 0:=look_of (by omega) ckN_t4 fun i hi=>by
  match i,hi with
  | 0,_=>exact ckA_t40
  | 1,_=>exact ckA_t41
  | 2,_=>exact ckA_t42
  | 3,_=>exact ckA_t43
theorem look_t5:LookAt true 5 0:=look_of (by omega) ckN_t5 fun i hi=>by
  match i,hi with
  | 0,_=>exact ckA_t50
  | 1,_=>exact ckA_t51
  | 2,_=>exact ckA_t52
  | 3,_=>exact ckA_t53
  | 4,_=>exact ckA_t54
theorem looks_t:∀ n,1≤n→n≤5→Looks true n:=fun n h1 h5=>⟨by
  match n,h1,h5 with
  | 1,_,_=>exact look_t1
  | 2,_,_=>exact look_t2
  | 3,_,_=>exact look_t3
  | 4,_,_=>exact look_t4
  | 5,_,_=>exact look_t5,(ckO_at h5).1,(ckO_at h5).2.2.1⟩
end Go.Sx
/-! THE CALLS Plan,Parts AND isEnough,read with other numbers,wherever the parts lie. -/
namespace Go.Sx
open Go.RowKit Go.Proofs
set_option maxRecDepth 100000
/-- numbers that are read as others -/
structure Reads (e:Nat→IE) (ρ ρ':Rho):Prop where
  iv:∀ j,j < 60→(e j).den ρ=ρ'.iv j
  bv:∀ j,j < 60→ρ.bv j=ρ'.bv j
theorem rowsX_reads {e:Nat→IE} {ρ ρ':Rho} (R:Reads e ρ ρ'):∀ n b,b + 4 * n≤60→SameL ρ (rowsX e n b) ρ' (rowsV n b)
  | 0,_,_=>SameL.nil
  | n + 1,b,h=>by
    show SameL ρ (vx e b :: vx e (b + 1) :: .bool (.var (b + 2)) :: vx e (b + 3) :: rowsX e n (b + 4)) ρ' (vi b :: vi (b + 1) :: .bool (.var (b + 2)) :: vi (b + 3) :: rowsV n (b + 4))
    exact SameL.cons (SameV.int (R.iv _ (by omega))) (SameL.cons (SameV.int (R.iv _ (by omega))) (SameL.cons (SameV.bool (R.bv _ (by omega))) (SameL.cons (SameV.int (R.iv _ (by omega))) (rowsX_reads R n (b + 4) (by omega)))))
theorem vxUp_reads {e:Nat→IE} {ρ ρ':Rho} (R:Reads e ρ ρ') {s:List AV} (hs:SameL ρ s ρ' s):∀ n i,i + n≤60→SameL ρ (lApp (vxUp e n i) s) ρ' (lApp (viUp n i) s)
  | 0,_,_=>hs
  | n + 1,i,h=>by
    show SameL ρ (vx e i :: lApp (vxUp e n (i + 1)) s) ρ' (vi i :: lApp (viUp n (i + 1)) s)
    exact SameL.cons (SameV.int (R.iv _ (by omega))) (vxUp_reads R hs n (i + 1) (by omega))
theorem bookX_reads {e:Nat→IE} {ρ ρ':Rho} (R:Reads e ρ ρ') (b o n c:Nat):SameV ρ (.agg (bookX e (.sliceX b o n c))) ρ' (.agg (bookS (.sliceX b o n c))):=SameV.agg (vxUp_reads R (SameL.cons (SameV.sliceX _ _ _ _) SameL.nil) 22 0 (by omega))
noncomputable def stX (e:Nat→IE):List Nat→List AV→List AV
  | [],r=>r
  | j :: l,r=>vx e j :: stX e l r
noncomputable def stJ:List Nat:=[0,1,4,6,8,9,10,11,2,3,5,7,12,13,14,15]
noncomputable def evenX (e:Nat→IE) (s:AV):List AV:=lApp (vxUp e 22 0) (s :: stX e stJ [])
theorem stX_reads {e:Nat→IE} {ρ ρ':Rho} (R:Reads e ρ ρ'):∀ l:List Nat,(∀ j ∈ l,j < 60)→SameL ρ (stX e l []) ρ' (stX IE.var l [])
  | [],_=>SameL.nil
  | j :: l,h=>SameL.cons (SameV.int (R.iv j (h j List.mem_cons_self))) (stX_reads R l fun k hk=>h k (List.mem_cons_of_mem _ hk))
theorem even_split (s:AV):evenS s=lApp (viUp 22 0) (s :: stX IE.var stJ []):=rfl
theorem evenX_reads {e:Nat→IE} {ρ ρ':Rho} (R:Reads e ρ ρ') (b o n c:Nat):SameV ρ (.agg (evenX e (.sliceX b o n c))) ρ' (.agg (evenS (.sliceX b o n c))):=by
  rw [even_split]
  have hs:SameL ρ (.sliceX b o n c :: stX e stJ []) ρ' (.sliceX b o n c :: stX IE.var stJ []):=SameL.cons (SameV.sliceX _ _ _ _) (stX_reads R stJ (by simp [stJ]))
  have go:∀ k i,i + k≤60→SameL ρ (lApp (vxUp e k i) (.sliceX b o n c :: stX e stJ [])) ρ' (lApp (viUp k i) (.sliceX b o n c :: stX IE.var stJ [])):=by
    intro k
    induction k with
    | zero=>intro i _; exact hs
    | succ k ih =>
      intro i h
      show SameL ρ (vx e i :: lApp (vxUp e k (i + 1)) _) ρ' (vi i :: lApp (viUp k (i + 1)) _)
      exact SameL.cons (SameV.int (R.iv _ (by omega))) (ih (i + 1) (by omega))
  exact SameV.agg (go 22 0 (by omega))
/-! ## Where the parts lie -/
theorem mv_vx {a c n:Nat} {E:Env} (e:Nat→IE) {s s':List AV} (hs:concL (E.mv a c n) s=concL E s'):∀ k i,concL (E.mv a c n) (lApp (vxUp e k i) s)=concL E (lApp (vxUp e k i) s')
  | 0,_=>hs
  | k + 1,i=>by
    show concL (E.mv a c n) (vx e i :: lApp (vxUp e k (i + 1)) s)=concL E (vx e i :: lApp (vxUp e k (i + 1)) s')
    simp only [concL,vx,conc,mv_vx e hs k (i + 1)]
    rfl
theorem mv_sl {nb L:Nat} {E:Env}:conc (E.mv 1001 nb 2000) (.sliceX 1001 4 0 L)=conc E (.sliceX nb 4 0 L):=by
  simp only [conc,Env.mv,mvN,show (1001:Nat) < 2000 by omega,if_true]
noncomputable def glC:List AV:=[li 1,li 99,li 1,li 99,li 1,li 20,li 1,li 20,li 0,li 60,li 1,li 5]
noncomputable def vX (e:Nat→IE) (L:Nat):List (Nat × AObj):=[(0,glO),(1001,.cells (rowsX e L 30) 0 false false)]
noncomputable def xGo (e:Nat→IE) (nb L:Nat) (args0:List AV) (r:Heap→AV × Heap) (args:List AV) (h:Heap):Option (T (AV × Heap)) :=
  cond (and (eqAVs args args0) (and (frontC glC (h.get 0)) (and (frontC (rowsX e L 30) (h.get nb)) (Nat.ble 2000 h.next)))) (some (.ret (r h))) none
theorem xGo_ok {e : Nat → IE} {nb L : Nat} {args0 args : List AV} {r : Heap → AV × Heap} {h : Heap} {t : T (AV × Heap)} (k : xGo e nb L args0 r args h = some t) :
    args=args0∧t=.ret (r h)∧2000≤h.next∧∀ g ∈ vX e L,∃ o,h.get (mvN 1001 nb g.1)=some o∧Less g.2 o:=by
  unfold xGo at k
  obtain ⟨hc,k1⟩:=cond_some k
  clear k
  simp only [Bool.and_eq_true] at hc
  obtain ⟨h1,h2,h3,h4⟩:=hc
  refine ⟨eqAVs_eq _ _ h1,(Option.some.inj k1).symm,ble_t.1 h4,fun g hg=>?_⟩
  simp only [vX,List.mem_cons,List.not_mem_nil,or_false] at hg
  rcases hg with rfl | rfl
  · exact frontC_ok h2
  · exact frontC_ok h3
theorem vX_low (e:Nat→IE) (L:Nat):∀ g ∈ vX e L,g.1 < 2000∧ownO g.2=false∧idsO 0 g.2=true:=fun g hg=>by
  simp only [vX,List.mem_cons,List.not_mem_nil,or_false] at hg
  rcases hg with rfl | rfl
  · exact ⟨by show 0 < 2000; omega,rfl,rfl⟩
  · exact ⟨by show 1001 < 2000; omega,rfl,rowsX_ids e 0 L 30⟩
theorem vX_same {p0 p:Par} (hP:p0.P=p.P) {e:Nat→IE} {ρ ρ':Rho} (R:Reads e ρ ρ') {L:Nat} (hL:L≤5):SameH p0 p ρ (viewA 2000 (vX e L)) ρ' (viewA 2000 (vB L)) :=
  ⟨rfl,fun b o hg=>by
    have:=viewA_get _ _ _ _ hg
    simp only [vB,List.mem_cons,List.not_mem_nil,or_false] at this
    rcases this with h | h
    · cases h; exact ⟨_,viewA_mem 2000 (vX e L) 0 rfl (0,glO) (by simp [vX]),SameA.cells hP (fun _ _ _ _ _ _=>rfl)⟩
    · cases h; exact ⟨_,viewA_mem 2000 (vX e L) 0 rfl (1001,.cells (rowsX e L 30) 0 false false) (by simp [vX]),SameA.cells hP (rowsX_reads R L 30 (by omega))⟩⟩
theorem vX_same' {p0 p:Par} (hP:p0.P=p.P) {e:Nat→IE} {ρ ρ':Rho} (R:Reads e ρ ρ') {L:Nat} (hL:L≤5):SameH p0 p ρ' (viewA 2000 (vB L)) ρ (viewA 2000 (vX e L)) :=
  ⟨rfl,fun b o hg=>by
    have:=viewA_get _ _ _ _ hg
    simp only [vX,List.mem_cons,List.not_mem_nil,or_false] at this
    rcases this with h | h
    · cases h; exact ⟨_,viewA_mem 2000 (vB L) 0 rfl (0,glO) (by simp [vB]),SameA.cells hP (fun _ _ _ _ _ _=>rfl)⟩
    · cases h; exact ⟨_,viewA_mem 2000 (vB L) 0 rfl (1001,.cells (rowsV L 30) 0 false false) (by simp [vB]),SameA.cells hP (rowsX_reads R L 30 (by omega)).symm⟩⟩
/-! ## Plan -/
noncomputable def planXt (nm L:Nat) (c:Bool) (h:Heap):AV × Heap:=cond c (.tup [.slice h.next 0 L L,li 0],h.new (newP L nm)) (noneV,h)
noncomputable def pl12 (e:Nat→IE) (nm nb L:Nat) (c:Bool):List AV→Heap→Option (T (AV × Heap)):=xGo e nb L [.agg (bookX e (.sliceX nb 4 0 L))] (planXt nm L c)
theorem planN_ids (N:Nat):∀ n b,idsLts N (planN n b)=true
  | 0,_=>rfl
  | n + 1,b=>by simp only [planN,idsLts,idsLt,vi,planN_ids N n (b + 2),Bool.and_self]
theorem planN_same {ρ ρ':Rho} {b b':Nat}:∀ n k,(∀ j,k≤j→j < k + 2 * n→ρ.iv (b + j)=ρ'.iv (b' + j))→SameL ρ (planN n (b + k)) ρ' (planN n (b' + k))
  | 0,_,_=>SameL.nil
  | n + 1,k,h=>SameL.cons (SameV.int (h k (by omega) (by omega))) (SameL.cons (SameV.int (h (k + 1) (by omega) (by omega))) (planN_same n (k + 2) fun j h1 h2=>h j (by omega) (by omega)))
theorem pl12_ok {ok : Rho → (Nat → Obj → Prop) → Prop} {e : Nat → IE} {nm nb L : Nat} {c : Bool} (h0 : 1 ≤ L) (hm : L ≤ 5) (H : Looks true L)
    (hok:∀ ρ b,ok ρ b→∃ ρ',Reads e ρ ρ'∧OkPl L c ρ'∧(c=true→∀ k,k < 2 * L→ρ'.iv (700 + k)=ρ.iv (nm + k))) {args:List AV} {h:Heap} {t:T (AV × Heap)} (k:pl12 e nm nb L c args h=some t):CallOk (pLaw ok) 12 args h t:=by
  obtain ⟨rfl,rfl,hn,hl⟩:=xGo_ok k
  have hargs:∀ E:Env,concL (E.mv 1001 nb 2000) [.agg (bookX e (.sliceX 1001 4 0 L))]=concL E [.agg (bookX e (.sliceX nb 4 0 L))]:=fun E=>by
    have:concL (E.mv 1001 nb 2000) (bookX e (.sliceX 1001 4 0 L))=concL E (bookX e (.sliceX nb 4 0 L)):=mv_vx e (by simp only [concL,mv_sl]) 22 0
    simp only [concL,conc,this]
  cases c
  · have hc : CallOk (pLaw ok) 12 [.agg (bookX e (.sliceX 1001 4 0 L))] (viewA 2000 (vX e L)) (.ret (noneV, viewA 2000 (vX e L))) := by
      refine CallOk.read (p0:=pLaw fun ρ _=>OkPl L false ρ) (p:=pLaw ok) rfl (plan12 h0 hm H) fun ρ b hb Q hQ=>?_
      obtain ⟨w,hw,hbw⟩:=hb
      obtain ⟨ρ',R,o,_⟩:=hok ρ w hw
      exact ⟨ρ',⟨w,o,hbw⟩,SameL.cons (bookX_reads R _ _ _ _) SameL.nil,vX_same rfl R hm,(noneV,viewA 2000 (vX e L)),hQ,fun _ _ _ _ _ _=>rfl,vX_same' rfl R hm⟩
    exact hc.moved (a:=1001) (c:=nb) (by omega) (by omega) rfl (vX_low e L) hl hargs
  · have hc : CallOk (pLaw ok) 12 [.agg (bookX e (.sliceX 1001 4 0 L))] (viewA 2000 (vX e L)) (.ret (foundV L, viewA 2001 (lApp (vX e L) [(2000, newP L nm)]))) := by
      refine CallOk.read (p0:=pLaw fun ρ _=>OkPl L true ρ) (p:=pLaw ok) rfl (plan12 h0 hm H) fun ρ b hb Q hQ=>?_
      obtain ⟨w,hw,hbw⟩:=hb
      obtain ⟨ρ',R,o,hp⟩:=hok ρ w hw
      refine ⟨ρ',⟨w,o,hbw⟩,SameL.cons (bookX_reads R _ _ _ _) SameL.nil,vX_same rfl R hm,(foundV L,viewA 2001 (lApp (vX e L) [(2000,newP L nm)])),hQ,fun _ _ _ _ _ _=>rfl,rfl,fun b o hg=>?_⟩
      have:=viewA_get _ _ _ _ hg
      simp only [vX,lApp_eq,List.cons_append,List.nil_append,List.mem_cons,List.not_mem_nil,or_false] at this
      have at_:∀ g ∈ lApp (vB L) [(2000,newP L 700)],(viewA 2001 (lApp (vB L) [(2000,newP L 700)])).get g.1=some g.2:=viewA_mem 2001 _ 0 rfl
      rcases this with h | h | h
      · cases h; exact ⟨_,at_ (0,glO) (by simp [vB,lApp_eq]),SameA.cells rfl (fun _ _ _ _ _ _=>rfl)⟩
      · cases h; exact ⟨_,at_ (1001,.cells (rowsV L 30) 0 false false) (by simp [vB,lApp_eq]),SameA.cells rfl (rowsX_reads R L 30 (by omega)).symm⟩
      · cases h
        refine ⟨_,at_ (2000,newP L 700) (by simp [lApp_eq]),SameA.cells rfl ?_⟩
        have:=planN_same (ρ:=ρ') (ρ':=ρ) (b:=700) (b':=nm) L 0 fun j _ hj=>hp rfl j (by omega)
        exact this
    have mv:=hc.movedT (a:=1001) (c:=nb) (by omega) (by omega) (vX_low e L) hn hl hargs
    have hg:(viewA 2001 (lApp (vX e L) [(2000,newP L nm)])).get 2000=some (newP L nm):=viewA_mem 2001 (lApp (vX e L) [(2000,newP L nm)]) 0 rfl (2000,newP L nm) (by simp [lApp_eq])
    have e1:((T.ret (foundV L,viewA 2001 (lApp (vX e L) [(2000,newP L nm)]))).bind fun r=>mvT 2000 h r)=.ret (planXt nm L true h):=by
      show mvT 2000 h (foundV L,viewA 2001 (lApp (vX e L) [(2000,newP L nm)]))=_
      have hi:and (ownO (newP L nm)) (and (idsO 0 (newP L nm)) (idsO 2000 (newP L nm)))=true:=by
        have i1:idsO 0 (newP L nm)=true:=planN_ids 0 L nm
        have i2:idsO 2000 (newP L nm)=true:=planN_ids 2000 L nm
        rw [i1,i2]; rfl
      simp only [mvT,hg,hi,cond_true]
      rfl
    rw [e1] at mv
    exact mv
end Go.Sx
/-! THE CALL Longer is as it is said. -/
namespace Go.Sx
open Go.RowKit Go.Proofs
set_option maxRecDepth 100000
theorem book_agree {iv iv':Nat→Int} (A:∀ j,j < 60→iv j=iv' j) (h:BookE iv):BookE iv':=by
  obtain ⟨h1,h2,h3,h4,h5,h6,h7,h8,h9,h10,h11,h12,h13,h14,h15⟩:=h
  simp only [A 0 (by omega),A 1 (by omega),A 2 (by omega),A 3 (by omega),A 4 (by omega),A 5 (by omega),A 6 (by omega),A 7 (by omega),A 8 (by omega),A 9 (by omega),A 10 (by omega),A 11 (by omega),A 12 (by omega),A 13 (by omega),A 14 (by omega),A 15 (by omega),A 16 (by omega),A 17 (by omega),A 18 (by omega),A 19 (by omega),A 20 (by omega),A 21 (by omega)] at *
  exact ⟨h1,h2,h3,h4,h5,h6,h7,h8,h9,h10,h11,h12,h13,h14,h15⟩
theorem cs_agree {ρ ρ':Rho} {L:Nat} (h5:L≤5) (A:∀ j,j < 60→ρ.iv j=ρ'.iv j) (h:∀ d ∈ csV L,d.den ρ=true):∀ d ∈ csV L,d.den ρ'=true:=by
  obtain ⟨h1,h2⟩:=cs_iff.1 h
  refine cs_iff.2 ⟨book_agree A h1,fun i hi=>?_⟩
  obtain ⟨⟨p1,p2,p3⟩,p4,p5⟩:=h2 i hi
  rw [A (30 + 4 * i) (by omega)] at p1 p2
  rw [A (30 + 4 * i + 1) (by omega)] at p2 p3
  rw [A (30 + 4 * i + 3) (by omega)] at p4 p5
  exact ⟨⟨p1,p2,p3⟩,p4,p5⟩
theorem walks_cs {L:Nat} {ρ:Rho} (h:∀ c ∈ csV L,c.den ρ=true):∀ i,i < L→∃ W:Nat,W≤5∧ρ.iv (33 + 4 * i)=W:=fun _ hi=>walks_of h hi
theorem mv_self {E:Env} {l:List AV} (h:idsLts 2000 l=true):concL (E.mv 1001 1001 2000) l=concL E l:=by
  refine concL_ids (n:=2000) (E:=E) (E':=E.mv 1001 1001 2000) rfl (fun b hb=>?_) l h
  have e:mvN 1001 1001 b=b:=by unfold mvN; split <;> omega
  exact ⟨by simp only [Env.mv,if_pos hb,e],fun _=>by simp only [Env.mv,e]⟩
end Go.Sx
/-! A PART THAT IS LONGER: more minutes are no easier; by how many it can be longer. -/
namespace Go.Sx
open Go.RowKit Go.Proofs
set_option maxRecDepth 100000
theorem mul_bd2 {a b m n:Int} (ha:0≤a∧a≤m) (hb:0≤b∧b≤n):0≤a * b∧a * b≤m * n :=
  ⟨Int.mul_nonneg ha.1 hb.1,Int.mul_le_mul ha.2 hb.2 hb.1 (by omega)⟩
theorem tak_eq {ρ : Rho} (hb : BookE ρ.iv) {i r : Nat} (hr : r < 2) (hp : 0 ≤ ρ.iv (31 + 4 * i) ∧ ρ.iv (31 + 4 * i) ≤ 130) :
    takF ρ i r=ρ.iv (31 + 4 * i) * ρ.iv (if ρ.bv (32 + 4 * i)=true then 11 + 4 * r else 9 + 4 * r)∧0≤ρ.iv (if ρ.bv (32 + 4 * i)=true then 11 + 4 * r else 9 + 4 * r)∧ρ.iv (if ρ.bv (32 + 4 * i)=true then 11 + 4 * r else 9 + 4 * r)≤3:=by
  have hq:0≤ρ.iv (if ρ.bv (32 + 4 * i)=true then 11 + 4 * r else 9 + 4 * r)∧ρ.iv (if ρ.bv (32 + 4 * i)=true then 11 + 4 * r else 9 + 4 * r)≤3:=by
    have h1:=hb.b0; have h2:=hb.b1; have h3:=hb.d0; have h4:=hb.d1
    have hr':r=0 ∨ r=1:=by omega
    rcases hr' with rfl | rfl <;> split <;> simp only [Nat.mul_zero,Nat.add_zero,Nat.mul_one,Nat.reduceAdd] <;> omega
  refine ⟨?_,hq⟩
  have:=mul_bd2 hp hq
  unfold takF
  generalize ρ.iv (31 + 4 * i) * ρ.iv (if ρ.bv (32 + 4 * i)=true then 11 + 4 * r else 9 + 4 * r)=x at *
  exact IntWalk.i64_in _ (by omega)
theorem bds_of {ρ:Rho} {m:Nat} (hb:BookE ρ.iv) (hp:∀ i,i < m→0≤ρ.iv (31 + 4 * i)∧ρ.iv (31 + 4 * i)≤130):Bds ρ m:=by
  have h1:=hb.room0; have h2:=hb.room1; have h3:=hb.load0; have h4:=hb.load1
  refine ⟨fun r hr=>?_,fun r hr=>?_,fun i hi r hr=>?_⟩
  · have hr':r=0 ∨ r=1:=by omega
    rcases hr' with rfl | rfl <;> simp only [Nat.add_zero,Nat.reduceAdd] <;> omega
  · have hr':r=0 ∨ r=1:=by omega
    rcases hr' with rfl | rfl <;> simp only [Nat.add_zero,Nat.reduceAdd] <;> omega
  · obtain ⟨e,q⟩:=tak_eq hb hr (hp i hi)
    have:=mul_bd2 (hp i hi) q
    rw [e]; omega
theorem fail_mono {ρ:Rho} (hb:BookE ρ.iv) {i:Nat} {l l':Int} (h:l≤l') (k:failF ρ i l'=true):failF ρ i l=true:=by
  have hc:=hb.cur.1
  unfold failF at *
  simp only [Bool.and_eq_true] at *
  refine ⟨k.1,?_⟩
  have k:=k.2
  split at k <;> split <;> simp only [decide_eq_true_eq] at * <;> omega
end Go.Sx
/-! THE LAW OF THE LONGER EVENING,for a valid one: its run,in each case. -/
namespace Go.Sx
open Go.RowKit Go.Proofs
set_option maxRecDepth 100000
noncomputable def tu2 (a b v:IE) (args:List AV) (h:Heap):Option (T (AV × Heap)):=cond (eqAVs args [.int .i64 a,.int .i64 b]) (some (.ret (.int .i64 v,h))) none
noncomputable def addE (a b:IE):IE:=.bin .add .i64 a b
noncomputable def orElse (a:Option (T (AV × Heap))) (b:Option (T (AV × Heap))):Option (T (AV × Heap)):=match a with
  | some t=>some t
  | none=>b
end Go.Sx
/-! THE LAW OF THE LONGER EVENING,for a valid one: its calls are so; names for all of it. -/
namespace Go.Sx
open Go.RowKit Go.Proofs
set_option maxRecDepth 100000
/-- the numbers that a call on an evening with other numbers reads -/
noncomputable def rhoR (e:Nat→IE) (nm:Nat) (ρ:Rho):Rho:=⟨fun j=>if j < 60 then (e j).den ρ else ρ.iv (nm + (j - 700)),ρ.bv,ρ.fi,ρ.fb,ρ.ov⟩
theorem rhoR_reads (e:Nat→IE) (nm:Nat) (ρ:Rho):Reads e ρ (rhoR e nm ρ):=⟨fun _ hj=>(if_pos hj).symm,fun _ _=>rfl⟩
theorem rhoR_iv {e:Nat→IE} {nm:Nat} {ρ:Rho} {j:Nat} (h:j < 60):(rhoR e nm ρ).iv j=(e j).den ρ:=if_pos h
theorem rhoR_nm {e:Nat→IE} {nm k:Nat} {ρ:Rho}:(rhoR e nm ρ).iv (700 + k)=ρ.iv (nm + k):=by
  show (if 700 + k < 60 then _ else ρ.iv (nm + (700 + k - 700)))=_
  rw [if_neg (by omega),Nat.add_sub_cancel_left]
theorem turn_at {ok:Rho→(Nat→Obj→Prop)→Prop} {a b v:IE} (hok:∀ ρ m,ok ρ m→b.den ρ≤9223372036854775807∧turnF (a.den ρ) (b.den ρ)=v.den ρ) (h:Heap):CallOk (pLaw ok) 9 [.int .i64 a,.int .i64 b] h (.ret (.int .i64 v,h)):=by
  have at_:CallOk (pLaw ok) 9 [.int .i64 a,.int .i64 b] h (.br (.cmp .leq b big) (.ret (.int .i64 (.app 6 a b (.lit 0)),h)) (.fail 99)):=turn_orc (p:=pLaw ok) rfl (args:=[.int .i64 a,.int .i64 b]) (h:=h) rfl
  refine CallOk.read (p0:=pLaw ok) (p:=pLaw ok) rfl at_ fun ρ b' hk Q k=>⟨ρ,hk,SameL.refl _ _,⟨rfl,fun j o g=>⟨o,g,SameA.refl o⟩⟩,?_⟩
  obtain ⟨w,hw,_⟩:=hk
  obtain ⟨h1,h2⟩:=hok ρ w hw
  simp only [T.Holds]
  rw [if_pos (by rw [BE.t_leq]; exact h1)]
  exact ⟨_,k,SameV.int h2,rfl,fun j o g=>⟨o,g,SameA.refl o⟩⟩
theorem tu2_ok {ok:Rho→(Nat→Obj→Prop)→Prop} {a b v:IE} (hok:∀ ρ m,ok ρ m→b.den ρ≤9223372036854775807∧turnF (a.den ρ) (b.den ρ)=v.den ρ) {args:List AV} {h:Heap} {t:T (AV × Heap)} (e:tu2 a b v args h=some t):CallOk (pLaw ok) 9 args h t:=by
  unfold tu2 at e
  obtain ⟨k,e1⟩:=cond_some e
  clear e
  obtain rfl:=eqAVs_eq _ _ k
  obtain rfl:=Option.some.inj e1
  exact turn_at hok h
theorem orElse_some {a b:Option (T (AV × Heap))} {t:T (AV × Heap)} (h:orElse a b=some t):a=some t ∨ b=some t:=by
  unfold orElse at h
  split at h
  · exact .inl h
  · exact .inr h
end Go.Sx
/-! THE LAW OF THE LONGER EVENING: there are such names,for any valid one; and so it holds. -/
namespace Go.Sx
open Go.RowKit Go.Proofs
set_option maxRecDepth 100000
theorem stD_agreeL {ρ ρ':Rho} (A:AgreeL ρ ρ') {L:Nat} (hL:L≤7):∀ k,k≤L→stD ρ L k=stD ρ' L k
  | 0,_=>by simp only [stD,A.iv 0 (by omega),A.iv 2 (by omega)]
  | k + 1,h=>by simp only [stD,stD_agreeL A hL k (by omega),outD_agreeL A (L - k) k (by omega)]
theorem outK_agreeL {ρ ρ':Rho} (A:AgreeL ρ ρ') {L k:Nat} (hL:L≤7) (hk:k≤L):outK ρ L k=outK ρ' L k:=by
  unfold outK; rw [stD_agreeL A hL k hk,outD_agreeL A (L - k) k (by omega)]
noncomputable def planO (ρ:Rho) (L n:Nat):Int:=if n % 2=0 then (outK ρ L (n / 2)).wc else (outK ρ L (n / 2)).ww
theorem okPl_of {ρX ρ':Rho} {L:Nat} {c:Bool} (h5:L≤5) (cs:∀ d ∈ csV L,d.den ρX=true) (A:AgreeL ρX ρ') (e:enD ρX L=c) (hp:∀ n,n < 2 * L→ρ'.iv (700 + n)=planO ρX L n):OkPl L c ρ':=by
  refine ⟨cs_agree h5 A.iv cs,⟨walks_cs (cs_agree h5 A.iv cs),(enD_agreeL A (by omega)).symm.trans e,fun _ k hk=>?_⟩⟩
  rw [← outK_agreeL A (L:=L) (by omega) (by omega)]
  have h0:=hp (2 * k) (by omega)
  have h1:=hp (2 * k + 1) (by omega)
  unfold planO at h0 h1
  rw [if_pos (by omega),show 2 * k / 2=k by omega] at h0
  rw [if_neg (by omega),show (2 * k + 1) / 2=k by omega] at h1
  exact ⟨h0,by rw [show 701 + 2 * k=700 + (2 * k + 1) by omega]; exact h1⟩
end Go.Sx
/-! A LAW OF AN EVENING AND NUMBERS,called with whatever can be read: evenings that are not valid; and what is known for valid ones. -/
namespace Go.Sx
open Go.RowKit Go.Proofs
set_option maxRecDepth 100000
noncomputable def lawIg (f:Nat) (xs:List AV) (L:Nat):Bool:=allK isTrueK (evalN (tbIv (evFalse L)) 60 false f (.agg (bookS (.sliceX 1001 4 0 L)) :: xs) (viewHeap 2000 (lB L))) ⟨.nil,[],[⟨conjC (csV L),false⟩]⟩
noncomputable def lawUg (f:Nat) (xs:List AV) (many:Bool):Bool:=allK isTrueK (evalN (tbIv (evNo many)) 60 false f (.agg (bookS (.sliceU 95)) :: xs) (viewHeap 2000 gl)) (knOf [] [fewC many])
section
variable {E:Env} {w:World} {vs:List Value} (hf:∀ b,2000≤b→E.σ b=none) (hg:∀ b,b < 1000→E.σ b=some (b,0)) (hn:E.n≤2000)
include hf hg hn
theorem law_bad {f : Nat} {xs : List AV} {L : Nat} (hL : L ∈ [1, 2, 3, 4, 5]) (hck : lawIg f xs L = true) (hv : ∀ g ∈ lB L, ViewIn w E g) (ha : concL E (.agg (bookS (.sliceX 1001 4 0 L)) :: xs) = some vs) (k : ¬ ∀ c ∈ csV L, c.den E.ρ = true) :
    Calls Tryd.prog f vs.toArray w fun e w'=>e=.returned (.bool true)∧Below w.heap.size w w':=by
  have B:TabOk pT Sx.Tryd.tt.get (tbIv (evFalse L)):=Tryd.tab _ (orcIv_ok rfl fun args h u e=>evFalse_ok hL e) 2000
  refine law_true B hv hf hg hn ha (K:=⟨.nil,[],[⟨conjC (csV L),false⟩]⟩) ⟨fun i v h=>?_,fun _ hf=>(List.not_mem_nil hf).elim,fun a hm=>?_⟩ hck ⟨fun _ _=>False,trivial,fun _ _ h=>h.elim⟩
  · simp [PT.get] at h
  · rcases List.mem_singleton.1 hm with rfl
    exact conj_f k
theorem law_short {f : Nat} {xs : List AV} (many : Bool) (hck : lawUg f xs many = true) (hv : ∀ g ∈ gl, ViewIn w E g) (ha : concL E (.agg (bookS (.sliceU 95)) :: xs) = some vs) (k : (fewC many).den E.ρ = true) :
    Calls Tryd.prog f vs.toArray w fun e w'=>e=.returned (.bool true)∧Below w.heap.size w w':=by
  have B:TabOk pT Sx.Tryd.tt.get (tbIv (evNo many)):=Tryd.tab _ (orcIv_ok rfl fun args h u e=>evNo_ok many e) 2000
  refine law_true B hv hf hg hn ha (knOf_ok (fun c hc=>(List.not_mem_nil hc).elim) fun c hc=>?_) hck ⟨fun _ _=>False,trivial,fun _ _ h=>h.elim⟩
  rcases List.mem_singleton.1 hc with rfl
  exact k
end
end Go.Sx
/-! THE LAW OF THE COAL: there are such names,for any valid evening; called with whatever can be read. -/
namespace Go.Sx
open Go.RowKit Go.Proofs
set_option maxRecDepth 100000
theorem bds_cs {ρ:Rho} {L:Nat} (hcs:∀ c ∈ csV L,c.den ρ=true):Bds ρ L:=by
  obtain ⟨hb,hp⟩:=cs_iff.1 hcs
  refine bds_of hb fun i hi=>?_
  have:=(hp i hi).min
  rw [show 31 + 4 * i=30 + 4 * i + 1 by omega]; omega
theorem ez_coal {ρ ρ':Rho} {L:Nat} (hcs:∀ c ∈ csV L,c.den ρ=true) (hcs':∀ c ∈ csV L,c.den ρ'=true) (h5:L≤5) (A:∀ j,2≤j→j < 60→ρ'.iv j=ρ.iv j) (hb:ρ.bv=ρ'.bv):Ez ρ ρ' L:=by
  have tk:∀ i,i < L→∀ r,r < 2→takF ρ' i r=takF ρ i r:=fun i hi r hr=>by
    unfold takF
    rw [A (31 + 4 * i) (by omega) (by omega),← hb]
    split
    · rw [A (11 + 4 * r) (by omega) (by omega)]
    · rw [A (9 + 4 * r) (by omega) (by omega)]
  refine ⟨bds_cs hcs,bds_cs hcs',fun r hr=>Int.le_of_eq (A _ (by omega) (by omega)).symm,fun r hr=>Int.le_of_eq (A _ (by omega) (by omega)).symm,fun i hi r hr=>Int.le_of_eq (tk i hi r hr),fun i hi=>?_,fun i hi=>?_,fun i hi l l' h k=>?_⟩
  · rw [A (33 + 4 * i) (by omega) (by omega)]; exact Nat.le_refl _
  · obtain ⟨W,w1,w2⟩:=walks_cs hcs' i hi
    rw [w2]; omega
  · refine fail_mono (cs_iff.1 hcs).1 h ?_
    unfold failF at *
    rw [A 20 (by omega) (by omega),A 18 (by omega) (by omega),A 21 (by omega) (by omega),A 16 (by omega) (by omega),← hb] at k
    exact k
end Go.Sx
/-! A LAW OF AN EVENING,NUMBERS AND A LIST THAT CHOOSES,called with whatever can be read. -/
namespace Go.Sx
open Go.RowKit Go.Proofs Go.ChangeShapes
set_option maxRecDepth 100000
section
variable {H:Type} {enc:TypeId × Value→H} {W:World}
theorem ints_open {t : TypeId} (ht : Tryd.prog.underlying t = some (.slice 3)) (hc : Tryd.prog.cellsOf 3 = 1) {base : Nat} {v : Value} {d : DataW H} {p : List MemPlace} (h0 : DataW.Trod enc Tryd.prog W 0 (fun _ => true) true t v d p) (hv : Value.okWide Tryd.prog W .any base t v) :
    ∃ (bb:Option Addr) (bl bc:Nat) (y:Nat→Int),v=.slice bb bl bc∧(bl:Int)≤9223372036854775807∧bl≤bc ∧
      (0 < bl→∃ c x cells el fz,bb=some ⟨c,x,none⟩∧W.heap[c]?=some (.cells cells el fz)∧∀ q,q < bl→cells[x + q]?=some (.int .i64 (y q))):=by
  unfold Value.okWide at hv
  rw [ht] at hv
  have hs:=okCell_slice ht hv
  obtain ⟨fuel,f⟩:=h0
  have f1:DataW.trod enc Tryd.prog W 0 (fun _=>true) true fuel t [v]=some (d,p):=by
    rcases hs with rfl | ⟨b,o,len,cap,rfl,_⟩ <;> exact f
  rcases open_ints ht Tryd.underlying3 hc f1 with ⟨h1,_⟩ | ⟨a,len,cap,zs,h1,_,hlc,hm,hz,_,hcell,_⟩
  · obtain rfl:v=.slice none 0 0:=by simpa using h1
    exact ⟨none,0,0,fun _=>0,rfl,by omega,Nat.le_refl _,fun h=>by omega⟩
  · obtain rfl:v=.slice (some a) len cap:=by simpa using h1
    rcases hs with h | ⟨b,o,l',c',h,_⟩
    · cases h
    · obtain ⟨e1,rfl,rfl⟩:some a=some ⟨b,o,none⟩∧len=l'∧cap=c':=by simpa using h
      obtain rfl:=Option.some.inj e1
      have hm':(len:Int)≤9223372036854775807:=by
        have:maxLen=9223372036854775807:=by decide
        omega
      have hlz:len≤zs.length:=by rw [hz]; simpa using hlc
      refine ⟨some ⟨b,o,none⟩,len,cap,fun q=>zs.getD q 0,rfl,hm',hlc,fun hpos=>?_⟩
      have c0:=hcell 0 (by omega)
      rw [add_none] at c0
      unfold World.cell? at c0
      split at c0
      · rename_i cells el fz hh
        refine ⟨b,o,cells,el,fz,rfl,hh,fun q hq=>?_⟩
        have cq:=hcell q (by omega)
        rw [add_none] at cq
        unfold World.cell? at cq
        simp only [hh] at cq
        simpa using cq
      · cases c0
end
noncomputable def numL (nb z nu:Nat→Int) (len bl j:Nat):Int:=if j < 22 then nb j else if j < 60 then z (j - 30) else if j=95 then len else if j=96 then bl else nu j
noncomputable def rhoLs (nb z nu:Nat→Int) (zb:Nat→Bool) (len bl:Nat) (y:Nat→Int) (s bits:Value):Rho :=
  ⟨numL nb z nu len bl,fun j=>zb (j - 30),fun f a _ _=>if f=1000 then (if bl=0 then 0 else y (turnF a bl).toNat) else if f=1001 then y a.toNat else 0,fun _ _ _ _=>false,fun j=>if j=96 then bits else s⟩
/-- what is known of a valid evening,in a world where the list lies -/
def LawL (f:Nat) (xs:List AV) (L:Nat) (W:World):Prop:=∀ ρ:Rho,(∀ c ∈ csV L,c.den ρ=true)→okPick ρ (Base.of W).has →
  ∃ ρ':Rho,(∀ j,j < 100→ρ.iv j=ρ'.iv j)∧ρ.bv=ρ'.bv∧ρ.ov=ρ'.ov∧∀ (E:Env) (vs:List Value),E.ρ=ρ'→(∀ g ∈ lB L,ViewIn W E g)→(∀ b,2000≤b→E.σ b=none)→(∀ b,b < 1000→E.σ b=some (b,0))→E.n≤2000 →
    concL E (.agg (bookS (.sliceX 1001 4 0 L)) :: xs)=some vs→Calls Tryd.prog f vs.toArray W fun e w'=>e=.returned (.bool true)∧Below W.heap.size W w'
theorem any_ofL {f : Nat} {xs : List AV} {vr : List Value} {nu : Nat → Int} {bb : Option Addr} {bl bc : Nat} {y : Nat → Int} {W : World} (HI : ∀ L ∈ [1, 2, 3, 4, 5], lawIg f xs L = true) (HU : ∀ many, lawUg f xs many = true)
    (hx:∀ E:Env,(∀ j,60≤j→j < 89→E.ρ.iv j=nu j)→E.ρ.iv 96=bl→E.ρ.ov 96=.slice bb bl bc→concL E xs=some vr) (HV:∀ L ∈ [1,2,3,4,5],LawL f xs L W)
    (hbl:(bl:Int)≤9223372036854775807) (hbc:bl≤bc) (hb:0 < bl→∃ c x cells el fz,bb=some ⟨c,x,none⟩∧W.heap[c]?=some (.cells cells el fz)∧∀ q,q < bl→cells[x + q]?=some (.int .i64 (y q)))
    {ρ0:Rho} (hG:∀ g ∈ gl,GlobIn W ρ0 g) {nb:Nat→Int} {s:Value} (hs:PartsIn W s) :
    Calls Tryd.prog f (.agg ((List.range 22).map (fun i=>Value.int .i64 (nb i)) ++ [s]).toArray :: vr).toArray W fun e W'=>e=.returned (.bool true)∧Below W.heap.size W W':=by
  have hσ:∀ ρ b o cap,∀ j,j < 1000→(envP ρ b o cap).σ j=some (j,0):=fun ρ b o cap j hj=>by simp [envP,hj]
  have hnone:∀ ρ b o cap,∀ j,2000≤j→(envP ρ b o cap).σ j=none:=fun ρ b o cap j hj=>by
    simp only [envP]; rw [if_neg (by omega),if_neg (by omega)]
  have gvw:∀ ρ b o cap,∀ g ∈ gl,ViewIn W (envP ρ b o cap) g:=fun ρ b o cap=>glob_view gl_lit hG (hσ ρ b o cap)
  have args:∀ (ρ:Rho) (b o cap:Nat) (a:AV),(∀ j,j < 22→ρ.iv j=nb j)→(∀ j,60≤j→j < 89→ρ.iv j=nu j)→ρ.iv 96=bl→ρ.ov 96=.slice bb bl bc→conc (envP ρ b o cap) a=some s→concL (envP ρ b o cap) (.agg (bookS a) :: xs)=some (.agg ((List.range 22).map (fun i=>Value.int .i64 (nb i)) ++ [s]).toArray :: vr):=fun ρ b o cap a h1 h2 h3 h4 ha =>
    concL_cons.2 ⟨_,_,book_vals h1 ha,hx _ h2 h3 h4,rfl⟩
  have low:∀ z len j,j < 22→numL nb z nu len bl j=nb j:=fun z len j hj=>by unfold numL; rw [if_pos hj]
  have hi:∀ z len j,60≤j→j < 89→numL nb z nu len bl j=nu j:=fun z len j h1 h2=>by unfold numL; rw [if_neg (by omega),if_neg (by omega),if_neg (by omega),if_neg (by omega)]
  have n96:∀ z len,numL nb z nu len bl 96=bl:=fun z len=>by simp [numL]
  have short:∀ (len cap:Nat) (a:Option Addr),s=.slice a len cap→(len=0 ∨ 6≤len)→Calls Tryd.prog f (.agg ((List.range 22).map (fun i=>Value.int .i64 (nb i)) ++ [s]).toArray :: vr).toArray W fun e W'=>e=.returned (.bool true)∧Below W.heap.size W W':=fun len cap a hs h=>by
    let ρ:=rhoLs nb (fun _=>0) nu (fun _=>false) len bl y s (.slice bb bl bc)
    have i95:ρ.iv 95=len:=by simp [ρ,rhoLs,numL]
    have hu:conc (envP ρ 0 0 0) (.sliceU 95)=some s:=by
      simp [conc,envP,ρ,rhoLs,numL,hs]
    have ha:=args ρ 0 0 0 _ (fun j hj=>low (fun _=>0) len j hj) (fun j h1 h2=>hi (fun _=>0) len j h1 h2) (n96 (fun _=>0) len) rfl hu
    rcases h with h | h
    · exact law_short (hnone _ _ _ _) (hσ _ _ _ _) (Nat.le_refl _) false (HU false) (gvw _ _ _ _) ha (by
        show (leV (.var 95) (.lit 0)).den _=true
        unfold leV; rw [BE.t_leq,IE.den_var,IE.den_lit]; show ρ.iv 95≤0; rw [i95]; omega)
    · exact law_short (hnone _ _ _ _) (hσ _ _ _ _) (Nat.le_refl _) true (HU true) (gvw _ _ _ _) ha (by
        show (leV (.lit 6) (.var 95)).den _=true
        unfold leV; rw [BE.t_leq,IE.den_var,IE.den_lit]; show 6≤ρ.iv 95; rw [i95]; omega)
  rcases hs with hs | ⟨b,o,len,cap,z,zb,hs,hlc,hc⟩
  · exact short 0 0 none hs (.inl rfl)
  · by_cases h0:len=0
    · exact short len cap _ hs (.inl h0)
    · by_cases h6:6≤len
      · exact short len cap _ hs (.inr h6)
      · obtain ⟨cells,el,fz,c1,c2⟩:=hc (by omega)
        have hLm:len ∈ [1,2,3,4,5]:=by simp only [List.mem_cons,List.not_mem_nil,or_false]; omega
        have hsl:∀ ρ,conc (envP ρ b o cap) (.sliceX 1001 4 0 len)=some s:=fun ρ=>by
          rw [hs]
          simp only [conc,envP]
          rw [if_pos (by simp; omega)]
          simp
        have hview:∀ ρ:Rho,(∀ q,q < 4 * len→ρ.iv (30 + q)=z q)→(∀ q,q < 4 * len→ρ.bv (30 + q)=zb q)→∀ g ∈ lB len,ViewIn W (envP ρ b o cap) g:=fun ρ hz hb g hg=>by
          rcases List.mem_cons.1 hg with rfl | hg
          · exact gvw ρ b o cap _ List.mem_cons_self
          · rcases List.mem_singleton.1 hg with rfl
            obtain ⟨vs,v1,v2,v3⟩:=rowsV_vals (envP ρ b o cap) z zb len 30 0 rfl (fun q hq=>by rw [Nat.zero_add]; exact hz q hq) (fun q hq=>by rw [Nat.zero_add]; exact hb q hq)
            refine ⟨b,o,vs,cells,el,fz,by simp [envP],v1,c1,fun i hi=>?_⟩
            rw [v2] at hi
            rw [c2 i hi,v3 i hi,Nat.zero_add]
        let ρ:=rhoLs nb z nu zb len bl y s (.slice bb bl bc)
        have hz:∀ q,q < 4 * len→ρ.iv (30 + q)=z q:=fun q hq=>by
          show numL nb z nu len bl (30 + q)=_
          unfold numL
          rw [if_neg (by omega),if_pos (by omega),Nat.add_sub_cancel_left]
        have hbv:∀ q,q < 4 * len→ρ.bv (30 + q)=zb q:=fun q hq=>by
          show zb (30 + q - 30)=_
          rw [Nat.add_sub_cancel_left]
        have hPk:okPick ρ (Base.of W).has:=by
          refine ⟨bb,bl,bc,rfl,n96 z len,hbl,hbc,fun n=>?_,fun hl=>?_⟩
          · show (if bl=0 then 0 else y (turnF n bl).toNat)=(if bl=0 then 0 else y ((turnF n bl)).toNat)
            rfl
          · obtain ⟨c,x,cells',el',fz',e1,e2,e3⟩:=hb hl
            refine ⟨c,x,cells',el',fz',e1,⟨(Array.getElem?_eq_some_iff.1 e2).1,e2⟩,fun j hj=>?_⟩
            rw [e3 j hj]
            show _=some (Value.int .i64 (y ((j:Int)).toNat))
            rw [Int.toNat_natCast]
        by_cases hcs:∀ c ∈ csV len,c.den ρ=true
        · obtain ⟨ρ',A,Ab,Ao,key⟩:=HV len hLm ρ hcs hPk
          exact key (envP ρ' b o cap) _ rfl (hview _ (fun q hq=>by rw [← A _ (by omega)]; exact hz q hq) (fun q hq=>by rw [← congrFun Ab (30 + q)]; exact hbv q hq)) (hnone _ _ _ _) (hσ _ _ _ _) (Nat.le_refl _) (args _ b o cap _ (fun j hj=>by rw [← A j (by omega)]; exact low z len j hj) (fun j h1 h2=>by rw [← A j (by omega)]; exact hi z len j h1 h2) (by rw [← A 96 (by omega)]; exact n96 z len) (by rw [← congrFun Ao 96]; rfl) (hsl _))
        · exact law_bad (hnone _ _ _ _) (hσ _ _ _ _) (Nat.le_refl _) hLm (HI len hLm) (E:=envP ρ b o cap) (hview ρ hz hbv) (args ρ b o cap _ (fun j hj=>low z len j hj) (fun j h1 h2=>hi z len j h1 h2) (n96 z len) rfl (hsl ρ)) hcs
end Go.Sx
