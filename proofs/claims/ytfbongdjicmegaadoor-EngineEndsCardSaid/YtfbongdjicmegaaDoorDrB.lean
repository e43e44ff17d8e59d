/- DrB -/
import Derived.Test.YtfbongdjicmegaaDoorEnX
namespace Go.Sx
open Go.RowKit Go.Proofs
set_option maxRecDepth 100000
theorem parts_mem {c:BE}:∀ {n b i:Nat},i < n→c ∈ partV (b + 4 * i)→c ∈ partsV n b
  | 0,_,_,h,_=>absurd h (by omega)
  | n + 1,b,0,_,h=>List.mem_append.2 (.inl h)
  | n + 1,b,i + 1,h,hc=>List.mem_append.2 (.inr (parts_mem (n:=n) (b:=b + 4) (i:=i) (by omega) (by rw [show b + 4 + 4 * i=b + 4 * (i + 1) by omega]; exact hc)))
theorem walks_of {L:Nat} {ρ:Rho} (h:∀ c ∈ csV L,c.den ρ=true) {i:Nat} (hi:i < L):∃ W:Nat,W≤5∧ρ.iv (33 + 4 * i)=W:=by
  have k:∀ c ∈ partV (30 + 4 * i),c.den ρ=true:=fun c hc=>h c (List.mem_append.2 (.inr (parts_mem hi hc)))
  simp only [partV,leV,List.mem_cons,List.not_mem_nil,or_false,forall_eq_or_imp,forall_eq,BE.t_leq,IE.den_lit,IE.den_var] at k
  obtain ⟨_,_,_,k4,k5⟩:=k
  rw [show 30 + 4 * i + 3=33 + 4 * i by omega] at k4 k5
  exact ⟨(ρ.iv (33 + 4 * i)).toNat,by omega,by omega⟩
structure Looks (q:Bool) (n:Nat):Prop where
  l:cX q n 0
  o:ckO q n=true
  p:ckP q n=true
noncomputable def cntD:Nat→List Nat
  | 0=>[]
  | n + 1=>n :: cntD n
end Go.Sx
namespace Go.Sx
open Go.RowKit Go.Proofs
set_option maxRecDepth 100000
noncomputable def heapU (n b i:Nat) (ks:List Bool):Heap:=(⟨.nil,n⟩:Heap).put b (.ucells i ks)
theorem ig {n b i:Nat} {ks:List Bool} {j:Nat} {o:AObj} (h:(heapU n b i ks).get j=some o):j=b∧o=.ucells i ks:=by
  unfold heapU at h
  rw [Heap.get_put] at h
  split at h
  · rename_i e; cases h; exact ⟨e,rfl⟩
  · have:(PT.get PT.nil j:Option AObj)=some o:=h
    rw [PT.get_nil] at this; cases this
theorem heapU_ok {p : Par} {E : Env} {w : World} {n b i c x : Nat} {ks : List Bool} {cells : Array Value} {el : Nat} {fz : Nat × Nat} (hs : E.σ b = some (c, x)) (hcell : w.heap[c]? = some (.cells cells el fz))
    (hc:∀ (m off:Nat) (k:Bool),(m:Int) < E.ρ.iv i→ks[off]?=some k→cells[x + m * ks.length + off]?=some (cellOf E.ρ i m off k))
    (hf:∀ j,n≤j→E.σ j=none) (hg:∀ j,j < 1000→E.σ j=some (j,0)) (hn:E.n≤n) (hok:p.okB E.ρ (Base.of w)):HeapOk p E (heapU n b i ks) (Base.of w) w:=by
  have hlt:c < w.heap.size:=(Array.getElem?_eq_some_iff.1 hcell).1
  refine ⟨fun j o e=>?_,fun j j' o o' c x y h1 h2 w1=>?_,fun j o c x e ow=>?_,fun j o c y e _ s=>?_,hf,fun j o c x e s=>?_,hg,Kept.refl _ _,hn,hok⟩
  · obtain ⟨rfl,rfl⟩:=ig e
    exact ⟨c,x,cells,el,fz,hs,hcell,hc⟩
  · obtain ⟨rfl,rfl⟩:=ig h1; cases w1
  · obtain ⟨rfl,rfl⟩:=ig e; cases ow
  · obtain ⟨rfl,rfl⟩:=ig e; rw [hs] at s; cases s; exact hlt
  · obtain ⟨rfl,rfl⟩:=ig e; rw [hs] at s; cases s; exact hlt
def gB (ρ:Rho) (m:Nat→Obj→Prop):Prop:=∃ (b:Option Addr) (len cap:Nat),ρ.ov 96=.slice b len cap∧ρ.iv 96=(len:Int)∧(len:Int)≤9223372036854775807∧len≤cap ∧
  (∀ n,ρ.fi 1000 n 0 0=if len=0 then 0 else ρ.fi 1001 (bO n len) 0 0) ∧
  (0 < len→∃ c x cells el fz,b=some ⟨c,x,none⟩∧m c (.cells cells el fz)∧∀ j:Nat,j < len→cells[x + j]?=some (.int .i64 (ρ.fi 1001 j 0 0)))
noncomputable def orcTn (f:FuncId) (args:List AV) (h:Heap):Option (T (AV × Heap)):=cond (Nat.beq f 8) (turnC.orc args h) none
noncomputable def tbTn:hI:=⟨Sx.Tryd.ft.get,aA Sx.Tryd.rt,2000,orcTn⟩
theorem tabsTn:b8 pT Sx.Tryd.tt.get tbTn:=Tryd.tab orcTn (fun f args h t e=>by
  unfold orcTn at e
  obtain ⟨h1,h2⟩:=ak e
  have:=aq.1 h1; subst this
  exact turn_orc rfl h2) 2000
noncomputable def pickRun:T (AV × Heap):=b7 tbTn 10 false 36 [.sliceV 1001 1,vi 80] (heapU 2000 1001 1 [false])
noncomputable def turnE:IE:=.app 6 (.var 80) (.var 1) (.lit 0)
noncomputable def pickT:T AV:=.br (.cmp .eql (.var 1) (.lit 0)) (.ret (.int .i64 (.lit 0))) (.br (.cmp .leq (.var 1) big)
  (.br (.and (.cmp .leq (.lit 0) turnE) (.cmp .lss turnE (.var 1))) (.ret (.int .i64 (.app 1001 turnE (.lit 0) (.lit 0)))) (.fail 18)) (.fail 99))
theorem pick_run:(pickRun.bind fun r=>.ret r.1)=pickT:=by kernel_rfl
noncomputable def pick0Run:T (AV × Heap):=b7 tbTn 10 false 36 [.sliceU 96,vi 80] (bj 2000 [])
noncomputable def turn0E:IE:=.app 6 (.var 80) (.var 96) (.lit 0)
noncomputable def pick0T:T AV:=.br (.cmp .eql (.var 96) (.lit 0)) (.ret (.int .i64 (.lit 0))) (.br (.cmp .leq (.var 96) big) (.br (.and (.cmp .leq (.lit 0) turn0E) (.cmp .lss turn0E (.lit (Int.ofNat 0)))) (.fail 18) (.fail 18)) (.fail 99))
theorem pick0_run:(pick0Run.bind fun r=>.ret r.1)=pick0T:=by kernel_rfl
theorem made {f : FuncId} {args : List AV} {h : Heap} {run : T (AV × Heap)} (hc : CallOk pT f args h run) {E : Env} {w : World} {vs : List Value} (HS : HeapOk pT E h (Base.of w) w) (ha : ad E args = some vs) {V : AV → Prop}
    (hrun:(run.bind fun r=>T.ret r.1).Holds E.ρ V):(callFunc f vs.toArray).run pT.P w=.ok (.enter f vs.toArray) w∧Calls pT.P f vs.toArray w fun e w'=>∃ v cv E2,e=.returned cv∧V v∧E2.ρ=E.ρ∧af E2 v=some cv∧Below w.heap.size w w':=by
  rw [T.holds_bind] at hrun
  obtain ⟨r1,r2⟩:=hc vs E (Base.of w) w (fun r=>V r.1) (fun cv w'=>∃ v E2,V v∧E2.ρ=E.ρ∧af E2 v=some cv∧Below w.heap.size w w') hrun HS ha
    (fun v h' E2 w' cv q hle HH' hv=>⟨v,E2,q,hle.ρ,hv,Base.keeps_below HH'.below⟩)
  refine ⟨r1,r2.mono ?_⟩
  rintro e w' ⟨cv,rfl,v,E2,q,hρ,hv,hb⟩
  exact ⟨v,cv,E2,rfl,q,hρ,hv,hb⟩
noncomputable def pickOrc (args:List AV) (h:Heap):Option (T (AV × Heap)) :=
  match args with
  | [.sliceU i,.int .i64 e]=>cond (Nat.beq i 96) (some (.ret (.int .i64 (.app 1000 e (.lit 0) (.lit 0)),h))) none
  | _=>none
theorem pick_orc {p:Par} (hP:pT.P=p.P) (hok:∀ ρ m,p.ok ρ m→gB ρ m) {args:List AV} {h:Heap} {t:T (AV × Heap)} (ho:pickOrc args h=some t):CallOk p 36 args h t:=by
  unfold pickOrc at ho
  split at ho
  · rename_i i e
    obtain ⟨hi,ho⟩:=ak ho
    have:=aq.1 hi; subst this
    cases ho
    refine callOk_of fun vs E w0 w Q HH ha k=>?_
    obtain ⟨m,hm,hmh⟩:=HH.ok
    obtain ⟨b,len,cap,h1,h2,h3,h4,h5,h6⟩:=hok _ _ hm
    have hvs:vs=[.slice b len cap,.int .i64 (e.den E.ρ)]:=by
      simp only [ad,af,h1,h2,if_true,Option.some.injEq] at ha
      exact ha.symm
    subst hvs
    let ρ':Rho:=⟨fun j=>if j=1 then (len:Int) else if j=80 then e.den E.ρ else E.ρ.iv j,E.ρ.bv,E.ρ.fi,E.ρ.fb,E.ρ.ov⟩
    have hfin:∀ {f':FuncId} {z:Int} {u:Value},u=.int .i64 z→z=E.ρ.fi 1000 (e.den E.ρ) 0 0→af E (.int .i64 (.app 1000 e (.lit 0) (.lit 0)))=some u:=by
      intro _ z u hu hz
      rw [hu,hz]
      simp only [af,IE.den,FI]
      rw [if_pos (show 1000≤1000 from Nat.le_refl _)]
    rw [← hP]
    rcases Nat.eq_zero_or_pos len with hz | hpos
    · let E':Env:=⟨ρ',fun x=>if x < 1000 then some (x,0) else none,E.κ,2000,fun _=>#[]⟩
      have HS:HeapOk pT E' (bj 2000 []) (Base.of w) w:=view_ok (fun g hg=>(List.not_mem_nil hg).elim)
        (fun x hx=>by simp only [E']; rw [if_neg (by omega)]) (fun x hx=>by simp only [E',if_pos hx]) (Nat.le_refl _) (Par.okB_all (fun _ _=>trivial) _ _)
      have ha':ad E' [.sliceU 96,vi 80]=some [.slice b len cap,.int .i64 (e.den E.ρ)]:=by
        have e1:E'.ρ.ov 96=.slice b len cap:=h1
        have e2:E'.ρ.iv 96=(len:Int):=h2
        simp only [ad,af,vi,e1,e2,if_true]
        rfl
      obtain ⟨r1,r2⟩:=made (bL tabsTn 10 36 _ _) HS ha' (V:=fun v=>v=.int .i64 (.lit 0)) (by
        show ((pick0Run.bind fun r=>T.ret r.1):T AV).Holds E'.ρ _
        rw [pick0_run]
        have:(BE.cmp .eql (.var 96) (.lit 0)).den E'.ρ=true:=by
          show (E'.ρ.iv 96 == 0)=true
          have e2:E'.ρ.iv 96=(len:Int):=h2
          rw [e2,hz]; rfl
        unfold pick0T
        simp only [T.Holds]
        rw [if_pos this]; trivial)
      refine ⟨r1,r2.mono ?_⟩
      rintro ex w' ⟨v,cv,E2,rfl,rfl,_,hv,hb⟩
      refine ⟨_,cv,rfl,k,?_,hb⟩
      simp only [af,IE.den,Option.some.injEq] at hv
      exact hfin (f':=0) hv.symm (by rw [h5,if_pos hz])
    · obtain ⟨c,x,cells,el,fz,rfl,hc,hcells⟩:=h6 hpos
      have hw:w.heap[c]?=some (.cells cells el fz):=Base.Keeps.has HH.below (hmh _ _ hc)
      let E':Env:=⟨ρ',fun y=>if y < 1000 then some (y,0) else if y=1001 then some (c,x) else none,fun _=>cap,2000,fun _=>#[]⟩
      have i1:E'.ρ.iv 1=(len:Int):=rfl
      have i80:E'.ρ.iv 80=e.den E.ρ:=rfl
      have HS:HeapOk pT E' (heapU 2000 1001 1 [false]) (Base.of w) w:=heapU_ok (c:=c) (x:=x) rfl hw
        (fun n off kk hn hk=>by
          rw [i1] at hn
          have h0:off=0∧kk=false:=by
            cases off with
            | zero=>cases hk; exact ⟨rfl,rfl⟩
            | succ o=>cases hk
          obtain ⟨rfl,rfl⟩:=h0
          have:=hcells n (by omega)
          simp only [List.length_singleton,Nat.mul_one,Nat.add_zero]
          rw [this]; rfl)
        (fun y hy=>by simp only [E']; rw [if_neg (by omega),if_neg (by omega)]) (fun y hy=>by simp only [E',if_pos hy]) (Nat.le_refl _) (Par.okB_all (fun _ _=>trivial) _ _)
      have ha':ad E' [.sliceV 1001 1,vi 80]=some [.slice (some ⟨c,x,none⟩) len cap,.int .i64 (e.den E.ρ)]:=by
        have hle:(0:Int)≤E'.ρ.iv 1∧E'.ρ.iv 1≤(E'.κ 1001:Int):=by
          rw [i1]; exact ⟨by omega,by show (len:Int)≤(cap:Int); omega⟩
        simp only [ad,af,vi,if_pos hle]
        rfl
      have ht:turnE.den E'.ρ=bO (e.den E.ρ) len:=rfl
      have tb:0≤bO (e.den E.ρ) len∧bO (e.den E.ρ) len < len:=by
        unfold bO
        rw [if_neg (by omega)]
        exact ⟨Int.emod_nonneg _ (by omega),Int.emod_lt_of_pos _ (by omega)⟩
      obtain ⟨r1,r2⟩:=made (bL tabsTn 10 36 _ _) HS ha' (V:=fun v=>v=.int .i64 (.app 1001 turnE (.lit 0) (.lit 0))) (by
        show ((pickRun.bind fun r=>T.ret r.1):T AV).Holds E'.ρ _
        rw [pick_run]
        unfold pickT
        simp only [T.Holds]
        rw [if_neg (by show ¬ (E'.ρ.iv 1 == 0)=true; rw [i1]; simp only [beq_iff_eq]; omega)]
        rw [if_pos (by show decide (E'.ρ.iv 1≤9223372036854775807)=true; rw [i1]; exact decide_eq_true h3)]
        rw [if_pos (by
          show (decide (0≤turnE.den E'.ρ) && decide (turnE.den E'.ρ < E'.ρ.iv 1))=true
          rw [ht,i1,decide_eq_true tb.1,decide_eq_true tb.2]; rfl)]; trivial)
      refine ⟨r1,r2.mono ?_⟩
      rintro ex w' ⟨v,cv,E2,rfl,rfl,hρ,hv,hb⟩
      refine ⟨_,cv,rfl,k,?_,hb⟩
      have hv2:Value.int .i64 ((IE.app 1001 turnE (.lit 0) (.lit 0)).den E2.ρ)=cv:=by simpa only [af,Option.some.injEq] using hv
      refine hfin (f':=0) hv2.symm ?_
      rw [hρ,h5,if_neg (by omega)]
      show FI E'.ρ.fi 1001 (turnE.den E'.ρ) 0 0=_
      unfold FI
      rw [if_pos (by omega),ht]
  · cases ho
end Go.Sx
namespace Go.Sx
open Go.RowKit Go.Proofs
set_option maxRecDepth 100000
theorem turnF_in {n m:Int} (h:1≤m):0≤bO n m∧bO n m < m:=by
  unfold bO
  rw [if_neg (by omega)]
  exact ⟨Int.emod_nonneg _ (by omega),Int.emod_lt_of_pos _ (by omega)⟩
theorem isTrueK_okP {ρ:Rho} {K:Kn} (hK:KnOk ρ K) {r:AV × Heap} (h:isTrueK K r=true):∃ b,r.1=.bool b∧b.den ρ=true:=by
  unfold isTrueK at h
  split at h
  · rename_i b hb
    refine ⟨b,hb,?_⟩
    split at h
    · rename_i c hc
      rw [ck hK _ _ hc]; exact h
    · cases h
  · cases h
theorem law_true {p : Par} {ty : Nat → Option TI} {tb : hI} (B : b8 p ty tb) {d : Nat} {f : FuncId} {args : List AV} {l : List (Nat × List AV)} {E : Env} {w : World} {vs : List Value}
    (hv:∀ g ∈ l,ViewIn w E g) (hf:∀ b,2000≤b→E.σ b=none) (hg:∀ b,b < 1000→E.σ b=some (b,0)) (hn:E.n≤2000) (ha:ad E args=some vs)
    {K:Kn} (hK:KnOk E.ρ K) (h:allK isTrueK (b7 tb d false f args (bj 2000 l)) K=true) (hok:p.okB E.ρ (Base.of w)) :
    Calls p.P f vs.toArray w fun e w'=>e=.returned (.bool true)∧Below w.heap.size w w':=by
  have key:=dY (P:=fun r:AV × Heap=>∃ b,r.1=.bool b∧b.den E.ρ=true) (fun K a hK h=>isTrueK_okP hK h) _ K hK h
  have HS:HeapOk p E (bj 2000 l) (Base.of w) w:=view_ok hv hf hg hn hok
  obtain ⟨r1,r2⟩:=bL B d f args (bj 2000 l) vs E (Base.of w) w _ (fun cv w'=>cv=.bool true∧Below w.heap.size w w') key HS ha
    (fun v h' E2 w' cv hq2 hle HH' hv2=>by
      obtain ⟨b,hb,hd⟩:=hq2
      refine ⟨?_,Base.keeps_below HH'.below⟩
      have hb:v=.bool b:=hb
      rw [hb] at hv2
      simp only [af,Option.some.injEq] at hv2
      rw [← hv2,hle.ρ,hd])
  refine r2.mono ?_
  rintro e w' ⟨cv,rfl,rfl,hb⟩
  exact ⟨rfl,hb⟩
theorem bP:∀ {n i:Nat},i < n→i ∈ cntD n
  | 0,_,h=>absurd h (by omega)
  | n + 1,i,h=>by
    by_cases e:i=n
    · subst e; exact List.mem_cons_self
    · exact List.mem_cons_of_mem _ (bP (by omega))
end Go.Sx
namespace Go.Sx
open Go.RowKit Go.Proofs
set_option maxRecDepth 100000
noncomputable def drawF (ρ:Rho) (a lo hi:Int):Int:=if hi < lo then lo else IntKind.i64.wrap (lo + bO (FI ρ.fi 1000 a 0 0) (IntKind.i64.wrap (IntKind.i64.wrap (hi - lo) + 1)))
def OkDr (ρ:Rho):Prop:=∀ a lo hi:Int,FI ρ.fi 9600 a lo hi=drawF ρ a lo hi
noncomputable def drawA (lo hi at_:IE):List AV:=[.agg [.int .i64 lo,.int .i64 hi],.agg [.sliceU 96,.int .i64 at_]]
noncomputable def drawR (lo hi at_:IE):AV:=.tup [.int .i64 (.app 9600 at_ lo hi),.agg [.sliceU 96,.int .i64 (.bin .add .i64 at_ (.lit 1))]]
noncomputable def orcDr (f:FuncId) (args:List AV) (h:Heap):Option (T (AV × Heap)):=cond (Nat.beq f 36) (pickOrc args h) (cond (Nat.beq f 8) (turnC.orc args h) none)
noncomputable def tbDr:hI:=⟨Sx.Tryd.ft.get,aA Sx.Tryd.rt,2000,orcDr⟩
noncomputable def runDr:T (AV × Heap):=(b7 tbDr 60 false 34 (drawA (.var 500) (.var 501) (.var 502)) (ah 2000 [])).bind fun r=>bV 2000 [] (ah 2000 []) [] r
noncomputable def encDr (r:AV × Heap):AV:=.tup [r.1,.bool (.lit (Nat.beq r.2.next 2000))]
noncomputable def manyD:IE:=.bin .add .i64 (.bin .sub .i64 (.var 501) (.var 500)) (.lit 1)
noncomputable def leafDr (e:IE):T AV:=.ret (.tup [.tup [.int .i64 e,.agg [.sliceU 96,.int .i64 (.bin .add .i64 (.var 502) (.lit 1))]],.bool (.lit true)])
noncomputable def drawE:IE:=.bin .add .i64 (.var 500) (.app 6 (.app 1000 (.var 502) (.lit 0) (.lit 0)) manyD (.lit 0))
noncomputable def drawT:T AV:=.br (.cmp .gtr (.var 500) (.var 501)) (leafDr (.var 500)) (.br (.cmp .leq manyD big) (leafDr drawE) (.fail 99))
theorem ckDr:eqTF (runDr.bind fun r=>.ret (encDr r)) drawT=true:=by kernel_rfl
theorem wrap_big (x:Int):IntKind.i64.wrap x≤9223372036854775807:=by
  show (if (true && decide (x % 2 ^ 64 ≥ 2 ^ 63))=true then x % 2 ^ 64 - 2 ^ 64 else x % 2 ^ 64)≤9223372036854775807
  simp only [Bool.true_and]
  split
  · omega
  · rename_i h
    have h:¬ x % 2 ^ 64 ≥ 2 ^ 63:=fun k=>h (decide_eq_true k)
    omega
theorem draw_var {ok:Rho→(Nat→Obj→Prop)→Prop} (hok:∀ ρ m,ok ρ m→gB ρ m∧OkDr ρ):CallOk (aQ ok) 34 (drawA (.var 500) (.var 501) (.var 502)) (ah 2000 []) (.ret (drawR (.var 500) (.var 501) (.var 502),ah 2000 [])):=by
  have B:b8 (aQ ok) Sx.Tryd.tt.get tbDr:=Tryd.tab orcDr (fun f args h t e=>by
    unfold orcDr at e
    cases h36:Nat.beq f 36 with
    | true=>rw [h36,cond_true] at e; have:=aq.1 h36; subst this; exact pick_orc (p:=aQ ok) rfl (fun ρ m k=>(hok ρ m k).1) e
    | false =>
      rw [h36,cond_false] at e
      obtain ⟨h8,e⟩:=ak e
      have:=aq.1 h8; subst this
      exact turn_orc (p:=aQ ok) rfl e) 2000
  have base:=bL B 60 34 (drawA (.var 500) (.var 501) (.var 502)) (ah 2000 [])
  have fr:CallOk (aQ ok) 34 (drawA (.var 500) (.var 501) (.var 502)) (ah 2000 []) runDr:=base.frame (n:=2000) (l:=[]) (by omega) rfl (by kernel_rfl) (fun g hg=>(List.not_mem_nil hg).elim) (by rw [aw]; exact Nat.le_refl _) (fun _=>[])
  refine CallOk.read (p0:=aQ ok) (p:=aQ ok) rfl fr fun ρ b hk Q hQ=>⟨ρ,hk,SameL.refl _ _,SameH.refl _,T.holds_enc (ea _ _ ckDr) ?_⟩
  obtain ⟨m,hm,_⟩:=hk
  have hd:=(hok ρ m hm).2 (ρ.iv 502) (ρ.iv 500) (ρ.iv 501)
  have leaf:∀ e:IE,e.den ρ=drawF ρ (ρ.iv 502) (ρ.iv 500) (ρ.iv 501)→(leafDr e).Holds ρ fun a=>∀ r,encDr r=a→∃ r',Q r'∧SameV ρ r.1 ρ r'.1∧SameH (aQ ok) (aQ ok) ρ r.2 ρ r'.2:=fun e he=>by
    intro r hr
    simp only [encDr,AV.tup.injEq,List.cons.injEq,and_true,AV.bool.injEq,BE.lit.injEq] at hr
    obtain ⟨hr1,hr2⟩:=hr
    refine ⟨_,hQ,?_,(aq.1 hr2).trans (aw 2000 _).symm,fun b o hg=>?_⟩
    · rw [hr1]
      have hl:SameL ρ [.int .i64 e,.agg [.sliceU 96,.int .i64 (.bin .add .i64 (.var 502) (.lit 1))]] ρ [.int .i64 (.app 9600 (.var 502) (.var 500) (.var 501)),.agg [.sliceU 96,.int .i64 (.bin .add .i64 (.var 502) (.lit 1))]]:=SameL.cons (SameV.int (he.trans hd.symm)) (SameL.refl _ _)
      exact fun σ κ n m rc rc'=>by simp only [drawR,af,hl σ κ n m rc rc']
    · have:=am _ _ _ _ hg
      exact (List.not_mem_nil this).elim
  unfold drawT
  simp only [T.Holds]
  split
  · rename_i h
    refine leaf _ ?_
    have h:ρ.iv 501 < ρ.iv 500:=by simpa [BE.den,aS,IE.den] using h
    unfold drawF; rw [if_pos h]; rfl
  · rename_i h
    have h:¬ ρ.iv 501 < ρ.iv 500:=by simpa [BE.den,aS,IE.den] using h
    rw [if_pos (by rw [BE.t_leq]; exact wrap_big _)]
    refine leaf _ ?_
    unfold drawF; rw [if_neg h]; rfl
end Go.Sx
namespace Go.Sx
open Go.RowKit Go.Proofs
set_option maxRecDepth 100000
theorem drawn_any {ok:Rho→(Nat→Obj→Prop)→Prop} {lo hi at_:IE} (hok:∀ ρ m,ok ρ m→gB ρ m∧OkDr ρ):CallOk (aQ ok) 34 (drawA lo hi at_) (ah 2000 []) (.ret (drawR lo hi at_,ah 2000 [])):=by
  refine CallOk.read (p0:=aQ fun ρ m=>gB ρ m∧OkDr ρ) (p:=aQ ok) rfl (draw_var fun _ _ h=>h) fun ρ b' hk Q hQ=>?_
  obtain ⟨m,hm,hmh⟩:=hk
  obtain ⟨k1,k2⟩:=hok ρ m hm
  let ρ':Rho:=⟨fun j=>if j=500 then lo.den ρ else if j=501 then hi.den ρ else if j=502 then at_.den ρ else ρ.iv j,ρ.bv,ρ.fi,ρ.fb,ρ.ov⟩
  have i0:ρ'.iv 500=lo.den ρ:=rfl
  have i1:ρ'.iv 501=hi.den ρ:=rfl
  have i2:ρ'.iv 502=at_.den ρ:=rfl
  have pk:gB ρ' m:=by
    obtain ⟨b,len,cap,h1,h2,h3⟩:=k1
    exact ⟨b,len,cap,h1,h2,h3⟩
  have u:SameV ρ (.sliceU 96) ρ' (.sliceU 96):=fun _ _ _ _ _ _=>rfl
  refine ⟨ρ',⟨m,⟨pk,k2⟩,hmh⟩,?_,⟨rfl,fun b o hg=>?_⟩,(drawR lo hi at_,ah 2000 []),hQ,?_,⟨rfl,fun b o hg=>?_⟩⟩
  · exact SameL.cons (SameV.agg (SameL.cons (SameV.int i0.symm) (SameL.cons (SameV.int i1.symm) SameL.nil))) (SameL.cons (SameV.agg (SameL.cons u (SameL.cons (SameV.int i2.symm) SameL.nil))) SameL.nil)
  · exact (List.not_mem_nil (am _ _ _ _ hg)).elim
  · have e1 : (IE.app 9600 (.var 502) (.var 500) (.var 501)).den ρ' = (IE.app 9600 at_ lo hi).den ρ := by
      show FI ρ.fi 9600 (ρ'.iv 502) (ρ'.iv 500) (ρ'.iv 501)=FI ρ.fi 9600 (at_.den ρ) (lo.den ρ) (hi.den ρ)
      rw [i0,i1,i2]
    have e2:(IE.bin .add .i64 (.var 502) (.lit 1)).den ρ'=(IE.bin .add .i64 at_ (.lit 1)).den ρ:=by
      show IntKind.i64.wrap (ρ'.iv 502 + 1)=IntKind.i64.wrap (at_.den ρ + 1)
      rw [i2]
    have hl:SameL ρ' [.int .i64 (.app 9600 (.var 502) (.var 500) (.var 501)),.agg [.sliceU 96,.int .i64 (.bin .add .i64 (.var 502) (.lit 1))]] ρ [.int .i64 (.app 9600 at_ lo hi),.agg [.sliceU 96,.int .i64 (.bin .add .i64 at_ (.lit 1))]] :=
      SameL.cons (SameV.int e1) (SameL.cons (SameV.agg (SameL.cons (fun _ _ _ _ _ _=>rfl) (SameL.cons (SameV.int e2) SameL.nil))) SameL.nil)
    exact fun σ κ n m rc rc'=>by simp only [drawR,af,hl σ κ n m rc rc']
  · exact (List.not_mem_nil (am _ _ _ _ hg)).elim
end Go.Sx
