/- HaE -/
import Derived.Test.YtfbongdjicmegaaDoorHaA
import Derived.Test.YtfbongdjicmegaaDoorLeS4
import Derived.Test.YtfbongdjicmegaaDoorLeS5
import Derived.Test.YtfbongdjicmegaaDoorEvH
namespace Go.Sx
open Go.RowKit Go.Proofs
set_option maxRecDepth 100000
structure Mn where
  c:Int
  w:Int
  a:Int
  f:Int
def wr (x:Int):Int:=IntKind.i64.wrap x
def mnI (a b:Int):Int:=if b < a then b else a
noncomputable def drw (ρ:Rho) (a lo hi:Int):Int:=FI ρ.fi 9600 a lo hi
noncomputable def fX (ρ:Rho) (kd:Nat) (a:Int):Int:=drw ρ a (ρ.iv (8 + 2 * kd)) (ρ.iv (9 + 2 * kd))
noncomputable def b9 (ρ:Rho) (kd:Nat) (a:Int):Int:=drw ρ (wr (a + 1)) (ρ.iv (12 + 2 * kd)) (ρ.iv (13 + 2 * kd))
noncomputable def curM (ρ:Rho) (a w:Int):Int:=if w < ρ.iv 20 then drw ρ (wr (wr (a + 1) + 1)) (ρ.iv 18) (ρ.iv 19) else drw ρ (wr (wr (a + 1) + 1)) (ρ.iv 16) (ρ.iv 17)
noncomputable def stepM (ρ:Rho) (k kd:Nat) (s:Mn):Mn :=
  ⟨wr (s.c - fX ρ kd s.a),wr (s.w - b9 ρ kd s.a),wr (wr (wr (s.a + 1) + 1) + 1),if kd=1∧curM ρ s.a (wr (s.w - b9 ρ kd s.a)) < ρ.iv 21 then mnI s.f k else s.f⟩
def bM (ρ:Rho) (kd:Nat) (s:Mn):Prop:=s.c < fX ρ kd s.a ∨ s.w < b9 ρ kd s.a
noncomputable def stM (ρ:Rho) (k kd:Nat) (s0:Mn):Nat→Mn
  | 0=>s0
  | i + 1=>stepM ρ k kd (stM ρ k kd s0 i)
noncomputable def nmF (ρ:Rho) (f k:Nat):Int:=FI ρ.fi f k 0 0
noncomputable def s0M (ρ:Rho) (k:Nat):Mn:=⟨nmF ρ 9701 k,nmF ρ 9702 k,nmF ρ 9703 k,nmF ρ 9704 k⟩
structure HapSt (k kd:Nat) (st:Bool) (ρ:Rho):Prop where
  lo:0≤nmF ρ 9705 k
  hi:nmF ρ 9705 k≤60
  go:st=false→(∀ j,j < (nmF ρ 9705 k).toNat→¬ bM ρ kd (stM ρ k kd (s0M ρ k) j))∧(⟨nmF ρ 9706 k,nmF ρ 9707 k,nmF ρ 9708 k,nmF ρ 9709 k⟩:Mn)=stM ρ k kd (s0M ρ k) (nmF ρ 9705 k).toNat
  st:st=true→∃ j,j < (nmF ρ 9705 k).toNat∧bM ρ kd (stM ρ k kd (s0M ρ k) j)∧(∀ i,i < j→¬ bM ρ kd (stM ρ k kd (s0M ρ k) i)) ∧
    nmF ρ 9708 k=wr (wr ((stM ρ k kd (s0M ρ k) j).a + 1) + 1)∧nmF ρ 9709 k=mnI (stM ρ k kd (s0M ρ k) j).f k
def dz (ρ:Rho) (i:Int) (s:Mn):Rho:=⟨fun q=>if q=910 then s.c else if q=911 then s.w else if q=912 then s.a else if q=913 then s.f else if q=918 then i else ρ.iv q,ρ.bv,ρ.fi,ρ.fb,ρ.ov⟩
theorem updM_iv {ρ:Rho} {i:Int} {s:Mn} {j:Nat} (h:j < 900):(dz ρ i s).iv j=ρ.iv j:=by
  show (if j=910 then s.c else if j=911 then s.w else if j=912 then s.a else if j=913 then s.f else if j=918 then i else ρ.iv j)=_
  rw [if_neg (by omega),if_neg (by omega),if_neg (by omega),if_neg (by omega),if_neg (by omega)]
theorem okMn_upd {nl:Bool} {ρ:Rho} {m:Nat→Obj→Prop} {i:Int} {s:Mn} (h:okMn nl ρ m):okMn nl (dz ρ i s) m:=by
  unfold okMn at h ⊢
  split
  · rename_i e; rw [if_pos e] at h; exact h
  · rename_i e
    rw [if_neg e] at h
    obtain ⟨⟨b,len,cap,h1,h2,h3⟩,h4⟩:=h
    exact ⟨⟨b,len,cap,h1,by rw [updM_iv (by omega)]; exact h2,h3⟩,h4⟩
theorem tag_inj {x:Ex} {t:Nat} {y:Ex} (h:li (Int.ofNat (tagE x))=li (Int.ofNat t)) (ht:tagE y=t):x=y:=by
  subst ht
  unfold li at h
  simp only [AV.int.injEq,IE.lit.injEq,true_and] at h
  exact tagE_inj (Int.ofNat_inj.1 h)
structure LeafM (nl:Bool) (k kd:Nat) (m c w a f:IE) (rs:List AV) (r:Ex × St):Prop where
  df:r.2.df=[]
  sl:∀ g ∈ slMn k kd m c w,r.2.tm.tree.get g.1=some g.2
  b1:r.2.h.get 2001=some (.cells rs 45 true false)
  b2:r.2.h.get 2002=some (.cells [btA nl,.int .i64 a] 78 true false)
  b3:r.2.h.get 2003=some (.cells (outM k f) 45 true false)
theorem leafM_ok {nl : Bool} {k kd t : Nat} {m c w a f : IE} {rs : List AV} {ρ : Rho} {P : Ex × St → Prop} {y : Ex} (ht : tagE y = t) (h : ∀ r, r.1 = y → LeafM nl k kd m c w a f rs r → P r) :
    (leafM nl k kd t m c w a f rs).Holds ρ fun v=>∀ r,extr idsM [2000,2001,2002,2003,2004] r=v→P r:=by
  intro r hr
  simp only [extr,slV,slMn,idsM,lMap_eq,aI,List.map_cons,List.map_nil,List.cons_append,List.nil_append,AV.tup.injEq,List.cons.injEq,and_true] at hr
  obtain ⟨r1,r2,p1,p2,p3,p4,p5,p6,p7,p8,p9,p10,p11,p12,b0,b1,b2,b3,b4⟩:=hr
  refine h r (tag_inj r1 ht) ⟨dfA_nil r2,fun g hg=>?_,blkA_some b1,blkA_some b2,blkA_some b3⟩
  simp only [slMn,List.mem_cons,List.not_mem_nil,or_false] at hg
  rcases hg with rfl | rfl | rfl | rfl | rfl | rfl | rfl | rfl | rfl | rfl | rfl | rfl
  all_goals (apply optA_some; assumption)
theorem lsM_same {ρ ρ':Rho} (b k:Nat):SameV ρ (lsM b k) ρ' (lsM b k):=by
  unfold lsM
  cases Nat.beq k 0 <;> exact fun _ _ _ _ _ _=>rfl
theorem gL {ρ ρ':Rho} {k:Nat} {f f':IE} (h:f.den ρ=f'.den ρ'):SameL ρ (outM k f) ρ' (outM k f') :=
  SameL.cons (lsM_same _ _) (SameL.cons (lsM_same _ _) (SameL.cons (SameV.int h) SameL.nil))
theorem bkM_same {ρ:Rho} {i j:Int} {s t:Mn}:SameL (dz ρ i s) bkM (dz ρ j t) bkM:=fun _ _ _ _ _ _=>rfl
theorem bkM_same0 {ρ:Rho} {j:Int} {t:Mn}:SameL ρ bkM (dz ρ j t) bkM:=fun _ _ _ _ _ _=>rfl
theorem xM_same {ρ:Rho} {i j:Int} {s t:Mn} {k:Nat}:SameL (dz ρ i s) (xM k) (dz ρ j t) (xM k):=fun _ _ _ _ _ _=>rfl
theorem xM_same0 {ρ:Rho} {j:Int} {t:Mn} {k:Nat}:SameL ρ (xM k) (dz ρ j t) (xM k):=fun _ _ _ _ _ _=>rfl
theorem btA_same {ρ:Rho} {i j:Int} {s t:Mn} {nl:Bool}:SameV (dz ρ i s) (btA nl) (dz ρ j t) (btA nl):=by
  cases nl <;> exact fun _ _ _ _ _ _=>rfl
theorem btA_same0 {ρ:Rho} {j:Int} {t:Mn} {nl:Bool}:SameV ρ (btA nl) (dz ρ j t) (btA nl):=by
  cases nl <;> exact fun _ _ _ _ _ _=>rfl
theorem btA_out {ρ:Rho} {m:Nat→Obj→Prop} {j:Int} {t:Mn} {nl:Bool} (h:okMn nl ρ m):SameV (dz ρ j t) (btA nl) ρ (cond nl .nilslice (.opq 96)):=by
  cases nl with
  | true=>exact fun _ _ _ _ _ _=>rfl
  | false =>
    unfold okMn at h
    rw [if_neg (by simp)] at h
    obtain ⟨⟨b,len,cap,h1,h2,_⟩,_⟩:=h
    intro σ κ n m rc rc'
    have e1:(dz ρ j t).ov 96=.slice b len cap:=h1
    have e2:(dz ρ j t).iv 96=(len:Int):=h2
    simp only [btA,cond_false,af,e1,e2,h1,if_true]
theorem e1M_den {ρ:Rho} {i:Int} {s:Mn} {kd:Nat} (h:kd < 2):(e1M kd).den (dz ρ i s)=fX ρ kd s.a:=by
  show FI ρ.fi 9600 s.a ((dz ρ i s).iv (8 + 2 * kd)) ((dz ρ i s).iv (9 + 2 * kd))=_
  rw [updM_iv (by omega),updM_iv (by omega)]; rfl
theorem e2M_den {ρ:Rho} {i:Int} {s:Mn} {kd:Nat} (h:kd < 2):(e2M kd).den (dz ρ i s)=b9 ρ kd s.a:=by
  show FI ρ.fi 9600 (wr (s.a + 1)) ((dz ρ i s).iv (12 + 2 * kd)) ((dz ρ i s).iv (13 + 2 * kd))=_
  rw [updM_iv (by omega),updM_iv (by omega)]; rfl
theorem c1M_den {ρ:Rho} {i:Int} {s:Mn} {kd:Nat} (h:kd < 2):(c1M kd).den (dz ρ i s)=wr (s.c - fX ρ kd s.a):=by
  show wr (s.c - (e1M kd).den (dz ρ i s))=_
  rw [e1M_den h]
theorem w1M_den {ρ:Rho} {i:Int} {s:Mn} {kd:Nat} (h:kd < 2):(w1M kd).den (dz ρ i s)=wr (s.w - b9 ρ kd s.a):=by
  show wr (s.w - (e2M kd).den (dz ρ i s))=_
  rw [e2M_den h]
theorem e3M_den {ρ:Rho} {i:Int} {s:Mn} {weak:Bool} {w:Int} (h:weak=true ↔ w < ρ.iv 20):(e3M weak).den (dz ρ i s)=curM ρ s.a w:=by
  unfold curM
  cases weak with
  | true=>rw [if_pos (h.1 rfl)]; rfl
  | false=>rw [if_neg (fun k=>by have:=h.2 k; cases this)]; rfl
theorem ckMn_at {nl st:Bool} {k kd:Nat} (hk:k < 5) (hkd:kd < 2):eqTO (roundMn nl k kd st) (treeM nl k kd)=true:=by
  have h1:=av (av ckMn_all nl (by cases nl <;> simp)) k (by simp only [List.mem_cons,List.not_mem_nil,or_false]; omega)
  simp only [Bool.and_eq_true] at h1
  have h2:ckMn nl k kd=true:=by
    have:kd=0 ∨ kd=1:=by omega
    rcases this with rfl | rfl
    · exact h1.1
    · exact h1.2
  unfold ckMn at h2
  simp only [Bool.and_eq_true] at h2
  cases st
  · exact h2.2
  · exact h2.1
theorem min_loop {nl st:Bool} {k kd:Nat} (hk:k < 5) (hkd:kd < 2):(eU nl k kd st).OkP (okMn nl) (fun ρ m=>okMn nl ρ m∧((litE k kd).den ρ=true→HapSt k kd st ρ)) (cxMn nl) ⟨13,none⟩ hapBody:=by
  intro ρ m hst hdom
  obtain ⟨hmn,hH⟩:=hst
  simp only [eU,List.mem_cons,List.not_mem_nil,or_false,forall_eq_or_imp,forall_eq] at hdom
  obtain ⟨d0,d1,d2,d3,d4,d5⟩:=hdom
  have H:=hH d5
  have q:∀ v f,(eqN v f k).den ρ=true→ρ.iv v=nmF ρ f k:=fun v f h=>by unfold eqN at h; rw [BE.t_eql] at h; exact h
  have q0:=q _ _ d0
  have q1:=q _ _ d1
  have q2:=q _ _ d2
  have q3:=q _ _ d3
  have q4:=q _ _ d4
  have hlo:=H.lo
  have hhi:=H.hi
  generalize hN:(nmF ρ 9705 k).toNat=N
  have hN':(N:Int)=nmF ρ 9705 k:=by rw [← hN]; exact Int.toNat_of_nonneg hlo
  have hgo:=H.go
  have hstp:=H.st
  rw [hN] at hgo hstp
  generalize hs:stM ρ k kd (s0M ρ k)=s at hgo hstp
  have s_0:s 0=s0M ρ k:=by rw [← hs]; rfl
  have s_s:∀ i,s (i + 1)=stepM ρ k kd (s i):=fun i=>by rw [← hs]; rfl
  refine ⟨N,fun i ρ'=>i≤N∧(∀ j,j < i→¬ bM ρ kd (s j))∧ρ'=dz ρ i (s i),dz ρ (0:Nat) (s 0),fun i ρ' h=>by obtain ⟨_,_,rfl⟩:=h; exact okMn_upd hmn,⟨Nat.zero_le _,fun j hj=>by omega,rfl⟩,?_,?_,?_⟩
  · intro g hg
    simp only [eU,slMn,List.mem_cons,List.not_mem_nil,or_false] at hg
    rcases hg with rfl | rfl | rfl | rfl | rfl | rfl | rfl | rfl | rfl | rfl | rfl | rfl
    · exact ⟨.opq 93,by simp [eU,slMn],SameV.opq rfl⟩
    · exact ⟨.ptr 2000 0,by simp [eU,slMn],SameV.ptr _ _⟩
    · exact ⟨.ptr 2001 0,by simp [eU,slMn],SameV.ptr _ _⟩
    · exact ⟨.ptr 2002 0,by simp [eU,slMn],SameV.ptr _ _⟩
    · exact ⟨.int .i64 (.var 910),by simp [eU,slMn],SameV.int (by rw [IE.den_var,q0]; show _=(s 0).c; rw [s_0]; rfl)⟩
    · exact ⟨.int .i64 (.var 911),by simp [eU,slMn],SameV.int (by rw [IE.den_var,q1]; show _=(s 0).w; rw [s_0]; rfl)⟩
    · exact ⟨.ptr 2003 0,by simp [eU,slMn],SameV.ptr _ _⟩
    · exact ⟨li (Int.ofNat k),by simp [eU,slMn],SameV.int rfl⟩
    · exact ⟨.ptr 2004 0,by simp [eU,slMn],SameV.ptr _ _⟩
    · exact ⟨li (Int.ofNat kd),by simp [eU,slMn],SameV.int rfl⟩
    · exact ⟨vi 914,by simp [eU,slMn],SameV.int rfl⟩
    · exact ⟨.int .i64 (.lit 0),by simp [eU,slMn],SameV.int rfl⟩
  · intro g hg
    simp only [eU,vsMn,List.mem_cons,List.not_mem_nil,or_false] at hg
    rcases hg with rfl | rfl | rfl | rfl | rfl
    · exact ⟨bkM_same0,SameU.none _ _⟩
    · exact ⟨fun _ _ _ _ _ _=>rfl,SameU.none _ _⟩
    · exact ⟨SameL.cons btA_same0 (SameL.cons (SameV.int (by rw [IE.den_var,q2]; show _=(s 0).a; rw [s_0]; rfl)) SameL.nil),SameU.none _ _⟩
    · exact ⟨gL (by rw [IE.den_var,q3]; show _=(s 0).f; rw [s_0]; rfl),SameU.none _ _⟩
    · exact ⟨xM_same0,SameU.none _ _⟩
  · rintro i ρ' hi ⟨hi',hno,rfl⟩
    have key : (treeM nl k kd).Holds (dz ρ i (s i)) (fun a => ∀ r, extr idsM [2000, 2001, 2002, 2003, 2004] r = a →
        (r.1=.norm∧∃ ρ'',(i < N∧i + 1≤N∧(∀ j,j < i + 1→¬ bM ρ kd (s j))∧ρ''=dz ρ ((i + 1:Nat):Int) (s (i + 1)))∧Next (eU nl k kd st).T (dz ρ i (s i)) ρ'' r.2) ∨
        (r.1 ≠ .norm∧r.2.df=[]∧(∃ o,(eU nl k kd st).out.end_ ρ=some o∧r.1=o.1∧∀ g ∈ o.2,cP (eU nl k kd st).nv g.2=true∧∃ v,r.2.tm.tree.get g.1=some v∧SameV (dz ρ i (s i)) v ρ g.2) ∧
          ∀ g ∈ (eU nl k kd st).vs,∀ q,g.own=some q→∃ cs,r.2.h.get g.id=some (.cells cs q.1 true q.2)∧SameL (dz ρ i (s i)) cs ρ g.cf)):=by
      have c1:(BE.cmp .lss (.var 918) (.var 914)).den (dz ρ i (s i))=true ↔ i < N:=by
        rw [BE.t_lss]
        show (i:Int) < ρ.iv 914 ↔ _
        rw [q4,← hN']; omega
      have c2:(BE.cmp .gtr (e1M kd) (.var 910)).den (dz ρ i (s i))=true ↔ (s i).c < fX ρ kd (s i).a:=by
        rw [BE.t_gtr,e1M_den hkd]; rfl
      have c3:(BE.cmp .gtr (e2M kd) (.var 911)).den (dz ρ i (s i))=true ↔ (s i).w < b9 ρ kd (s i).a:=by
        rw [BE.t_gtr,e2M_den hkd]; rfl
      have c4:(BE.cmp .lss (w1M kd) (.var 20)).den (dz ρ i (s i))=true ↔ wr ((s i).w - b9 ρ kd (s i).a) < ρ.iv 20:=by
        rw [BE.t_lss,w1M_den hkd]; rfl
      have hlt:(BE.var (32 + 4 * k)).den (dz ρ i (s i))=true ↔ kd=1:=by
        show ρ.bv (32 + 4 * k)=true ↔ _
        have:kd=0 ∨ kd=1:=by omega
        rcases this with rfl | rfl
        · have d5:(BE.not (.var (32 + 4 * k))).den ρ=true:=d5
          rw [BE.t_not] at d5
          have d5:¬ ρ.bv (32 + 4 * k)=true:=d5
          simp [d5]
        · have d5:(BE.var (32 + 4 * k)).den ρ=true:=d5
          have d5:ρ.bv (32 + 4 * k)=true:=d5
          simp [d5]
      have goL:∀ f:IE,i < N→¬ bM ρ kd (s i)→f.den (dz ρ i (s i))=(s (i + 1)).f→(goM nl k kd f).Holds (dz ρ i (s i)) (fun a=>∀ r,extr idsM [2000,2001,2002,2003,2004] r=a →
        (r.1=.norm∧∃ ρ'',(i < N∧i + 1≤N∧(∀ j,j < i + 1→¬ bM ρ kd (s j))∧ρ''=dz ρ ((i + 1:Nat):Int) (s (i + 1)))∧Next (eU nl k kd st).T (dz ρ i (s i)) ρ'' r.2) ∨
        (r.1 ≠ .norm∧r.2.df=[]∧(∃ o,(eU nl k kd st).out.end_ ρ=some o∧r.1=o.1∧∀ g ∈ o.2,cP (eU nl k kd st).nv g.2=true∧∃ v,r.2.tm.tree.get g.1=some v∧SameV (dz ρ i (s i)) v ρ g.2) ∧
          ∀ g ∈ (eU nl k kd st).vs,∀ q,g.own=some q→∃ cs,r.2.h.get g.id=some (.cells cs q.1 true q.2)∧SameL (dz ρ i (s i)) cs ρ g.cf)):=fun f hiN hns hf=>by
        refine leafM_ok (y:=.norm) rfl fun r hr L=>.inl ⟨hr,_,⟨hiN,hiN,fun j hj=>?_,rfl⟩,L.df,fun g hg=>?_,fun g hg=>?_⟩
        · rcases Nat.lt_or_ge j i with h | h
          · exact hno j h
          · have:j=i:=by omega
            subst this; exact hns
        · have sl:=L.sl
          simp only [slMn,List.mem_cons,List.not_mem_nil,or_false,forall_eq_or_imp,forall_eq] at sl
          obtain ⟨p1,p2,p3,p4,p5,p6,p7,p8,p9,p10,p11,p12⟩:=sl
          simp only [LSpec.T,eU,slMn,List.mem_cons,List.not_mem_nil,or_false] at hg
          rcases hg with rfl | rfl | rfl | rfl | rfl | rfl | rfl | rfl | rfl | rfl | rfl | rfl
          · exact ⟨_,p1,SameV.opq rfl⟩
          · exact ⟨_,p2,SameV.ptr _ _⟩
          · exact ⟨_,p3,SameV.ptr _ _⟩
          · exact ⟨_,p4,SameV.ptr _ _⟩
          · exact ⟨_,p5,SameV.int (by rw [c1M_den hkd]; show _=(s (i + 1)).c; rw [s_s]; rfl)⟩
          · exact ⟨_,p6,SameV.int (by rw [w1M_den hkd]; show _=(s (i + 1)).w; rw [s_s]; rfl)⟩
          · exact ⟨_,p7,SameV.ptr _ _⟩
          · exact ⟨_,p8,SameV.int rfl⟩
          · exact ⟨_,p9,SameV.ptr _ _⟩
          · exact ⟨_,p10,SameV.int rfl⟩
          · exact ⟨_,p11,SameV.int rfl⟩
          · refine ⟨_,p12,SameV.int ?_⟩
            show wr ((i:Int) + 1)=((i + 1:Nat):Int)
            unfold wr
            rw [IntWalk.i64_in _ (by omega)]; omega
        · simp only [LSpec.T,eU,vsMn,List.map_cons,List.map_nil,List.mem_cons,List.not_mem_nil,or_false] at hg
          rcases hg with rfl | rfl | rfl | rfl | rfl
          · exact ⟨bkM_same,SameU.none _ _⟩
          · exact ⟨_,L.b1,fun _ _ _ _ _ _=>rfl⟩
          · exact ⟨_,L.b2,SameL.cons btA_same (SameL.cons (SameV.int (by show wr (wr (wr ((s i).a + 1) + 1) + 1)=(s (i + 1)).a; rw [s_s]; rfl)) SameL.nil)⟩
          · exact ⟨_,L.b3,gL hf⟩
          · exact ⟨xM_same,SameU.none _ _⟩
      have lampL:∀ weak:Bool,i < N→¬ bM ρ kd (s i)→(weak=true ↔ wr ((s i).w - b9 ρ kd (s i).a) < ρ.iv 20)→(lampM nl k kd weak).Holds (dz ρ i (s i)) (fun a=>∀ r,extr idsM [2000,2001,2002,2003,2004] r=a →
        (r.1=.norm∧∃ ρ'',(i < N∧i + 1≤N∧(∀ j,j < i + 1→¬ bM ρ kd (s j))∧ρ''=dz ρ ((i + 1:Nat):Int) (s (i + 1)))∧Next (eU nl k kd st).T (dz ρ i (s i)) ρ'' r.2) ∨
        (r.1 ≠ .norm∧r.2.df=[]∧(∃ o,(eU nl k kd st).out.end_ ρ=some o∧r.1=o.1∧∀ g ∈ o.2,cP (eU nl k kd st).nv g.2=true∧∃ v,r.2.tm.tree.get g.1=some v∧SameV (dz ρ i (s i)) v ρ g.2) ∧
          ∀ g ∈ (eU nl k kd st).vs,∀ q,g.own=some q→∃ cs,r.2.h.get g.id=some (.cells cs q.1 true q.2)∧SameL (dz ρ i (s i)) cs ρ g.cf)):=fun weak hiN hns hw=>by
        have c5:(BE.cmp .lss (e3M weak) (.var 21)).den (dz ρ i (s i))=true ↔ curM ρ (s i).a (wr ((s i).w - b9 ρ kd (s i).a)) < ρ.iv 21:=by
          rw [BE.t_lss,e3M_den hw]; rfl
        have fS:(s (i + 1)).f=if kd=1∧curM ρ (s i).a (wr ((s i).w - b9 ρ kd (s i).a)) < ρ.iv 21 then mnI (s i).f k else (s i).f:=by rw [s_s]; rfl
        unfold lampM
        simp only [T.Holds]
        split
        · rename_i h1
          have h1:=hlt.1 h1
          split
          · rename_i h2
            exact goL _ hiN hns (by rw [fS,if_pos ⟨h1,c5.1 h2⟩]; rfl)
          · rename_i h2
            exact goL _ hiN hns (by rw [fS,if_neg fun h=>h2 (c5.2 h.2)]; rfl)
        · rename_i h1
          exact goL _ hiN hns (by rw [fS,if_neg fun h=>h1 (hlt.2 h.1)]; rfl)
      have stopL:i < N→bM ρ kd (s i)→(stopM nl k kd).Holds (dz ρ i (s i)) (fun a=>∀ r,extr idsM [2000,2001,2002,2003,2004] r=a →
        (r.1=.norm∧∃ ρ'',(i < N∧i + 1≤N∧(∀ j,j < i + 1→¬ bM ρ kd (s j))∧ρ''=dz ρ ((i + 1:Nat):Int) (s (i + 1)))∧Next (eU nl k kd st).T (dz ρ i (s i)) ρ'' r.2) ∨
        (r.1 ≠ .norm∧r.2.df=[]∧(∃ o,(eU nl k kd st).out.end_ ρ=some o∧r.1=o.1∧∀ g ∈ o.2,cP (eU nl k kd st).nv g.2=true∧∃ v,r.2.tm.tree.get g.1=some v∧SameV (dz ρ i (s i)) v ρ g.2) ∧
          ∀ g ∈ (eU nl k kd st).vs,∀ q,g.own=some q→∃ cs,r.2.h.get g.id=some (.cells cs q.1 true q.2)∧SameL (dz ρ i (s i)) cs ρ g.cf)):=fun hiN hstop=>by
        cases st with
        | false=>exact absurd hstop ((hgo rfl).1 i hiN)
        | true =>
          obtain ⟨j,j1,j2,j3,j4,j5⟩:=hstp rfl
          have hji:j=i:=by
            rcases Nat.lt_trichotomy j i with h | h | h
            · exact absurd j2 (hno j h)
            · exact h
            · exact absurd hstop (j3 i h)
          subst hji
          have eF:(mnF k).den (dz ρ (j:Nat) (s j))=(nmE 9709 k).den ρ:=by
            show mnI (s j).f k=nmF ρ 9709 k
            exact j5.symm
          refine leafM_ok (y:=.ret) rfl fun r hr L=>.inr ⟨by rw [hr]; simp,L.df,⟨_,rfl,hr,fun g hg=>?_⟩,fun g hg q hq=>?_⟩
          · rcases List.mem_singleton.1 hg with rfl
            exact ⟨rfl,_,L.sl (6,.ptr 2001 0) (by simp [slMn]),SameV.ptr _ _⟩
          · simp only [eU,vsMn,List.mem_cons,List.not_mem_nil,or_false] at hg
            rcases hg with rfl | rfl | rfl | rfl | rfl
            · cases hq
            · cases hq; exact ⟨_,L.b1,gL eF⟩
            · cases hq; exact ⟨_,L.b2,SameL.cons (btA_out hmn) (SameL.cons (SameV.int (by show wr (wr ((s j).a + 1) + 1)=nmF ρ 9708 k; exact j4.symm)) SameL.nil)⟩
            · cases hq; exact ⟨_,L.b3,gL eF⟩
            · cases hq
      unfold treeM
      simp only [T.Holds]
      split
      · rename_i h1
        have hiN:=c1.1 h1
        split
        · rename_i h2; exact stopL hiN (.inl (c2.1 h2))
        · rename_i h2
          split
          · rename_i h3; exact stopL hiN (.inr (c3.1 h3))
          · rename_i h3
            have hns:¬ bM ρ kd (s i):=fun h=>h.elim (fun h=>h2 (c2.2 h)) fun h=>h3 (c3.2 h)
            split
            · rename_i h4; exact lampL true hiN hns ⟨fun _=>c4.1 h4,fun _=>rfl⟩
            · rename_i h4; exact lampL false hiN hns ⟨fun h=>(by cases h),fun h=>absurd (c4.2 h) h4⟩
      · rename_i h1
        have hin:i=N:=by
          have:¬ i < N:=fun h=>h1 (c1.2 h)
          omega
        subst hin
        cases st with
        | true =>
          obtain ⟨j,j1,j2,_⟩:=hstp rfl
          exact absurd j2 (hno j j1)
        | false =>
          obtain ⟨_,g2⟩:=hgo rfl
          have g2c:nmF ρ 9706 k=(s i).c:=congrArg Mn.c g2
          have g2w:nmF ρ 9707 k=(s i).w:=congrArg Mn.w g2
          have g2a:nmF ρ 9708 k=(s i).a:=congrArg Mn.a g2
          have g2f:nmF ρ 9709 k=(s i).f:=congrArg Mn.f g2
          refine leafM_ok (y:=.exit 2) rfl fun r hr L=>.inr ⟨by rw [hr]; simp,L.df,⟨_,rfl,hr,fun g hg=>?_⟩,fun g hg q hq=>?_⟩
          · have sl:=L.sl
            simp only [slMn,List.mem_cons,List.not_mem_nil,or_false,forall_eq_or_imp,forall_eq] at sl
            obtain ⟨p1,p2,p3,p4,p5,p6,p7,p8,p9,p10,p11,p12⟩:=sl
            simp only [List.mem_cons,List.not_mem_nil,or_false] at hg
            rcases hg with rfl | rfl | rfl | rfl | rfl | rfl | rfl | rfl
            · exact ⟨rfl,_,p1,SameV.opq rfl⟩
            · exact ⟨rfl,_,p2,SameV.ptr _ _⟩
            · exact ⟨rfl,_,p3,SameV.ptr _ _⟩
            · exact ⟨rfl,_,p4,SameV.ptr _ _⟩
            · exact ⟨rfl,_,p5,SameV.int g2c.symm⟩
            · exact ⟨rfl,_,p6,SameV.int g2w.symm⟩
            · exact ⟨rfl,_,p7,SameV.ptr _ _⟩
            · exact ⟨rfl,_,p8,SameV.int rfl⟩
          · simp only [eU,vsMn,List.mem_cons,List.not_mem_nil,or_false] at hg
            rcases hg with rfl | rfl | rfl | rfl | rfl
            · cases hq
            · cases hq; exact ⟨_,L.b1,fun _ _ _ _ _ _=>rfl⟩
            · cases hq; exact ⟨_,L.b2,SameL.cons (btA_out hmn) (SameL.cons (SameV.int g2a.symm) SameL.nil)⟩
            · cases hq; exact ⟨_,L.b3,gL g2f.symm⟩
            · cases hq
    rw [← eqTO_eq _ _ (ckMn_at (st:=st) hk hkd)] at key
    exact T.holds_weak (extT_holds key) fun r h=>h r rfl
end Go.Sx
namespace Go.Sx
open Go.RowKit Go.Proofs
set_option maxRecDepth 100000
theorem ckSH_at {L i:Nat} (h1:1≤L) (h5:L≤5) (hi:i < L):ckSH L i=true:=by
  have hL:L=1 ∨ L=2 ∨ L=3 ∨ L=4 ∨ L=5:=by omega
  rcases hL with rfl | rfl | rfl | rfl | rfl
  · exact av (av ckSH3 1 (by simp)) i (bP hi)
  · exact av (av ckSH3 2 (by simp)) i (bP hi)
  · exact av (av ckSH3 3 (by simp)) i (bP hi)
  · exact av ckSH4 i (bP hi)
  · exact av ckSH5 i (bP hi)
theorem leftH_alike {ρ ρ':Rho} (A:AlikeG ρ ρ') {m:Nat} (hm:m≤5) (h:OkSH m ρ):OkSH m ρ':=fun i hi a w=>by
  have hs:∀ r,r < 2→∀ a w,cA ρ r a w=cA ρ' r a w:=fun r hr a w=>by
    unfold cA; rw [A.iv (6 + r) (by omega),A.iv (4 + r) (by omega)]
  have tk:∀ r,r < 2→takH ρ i r=takH ρ' i r:=fun r hr=>by
    unfold takH
    rw [A.iv (30 + 4 * i) (by omega),A.bv (32 + 4 * i) (by omega)]
    split
    · rw [A.iv (10 + 4 * r) (by omega)]
    · rw [A.iv (8 + 4 * r) (by omega)]
  have lf:∀ r,r < 2→∀ a w,dQ ρ i r a w=dQ ρ' i r a w:=fun r hr a w=>by unfold dQ; rw [hs r hr,tk r hr]
  have lk:∀ r,r < 2→∀ a w,lackH ρ i r a w=lackH ρ' i r a w:=fun r hr a w=>by unfold lackH; rw [hs r hr,tk r hr]
  have k:=h i hi a w
  rw [lf 0 (by omega),lf 1 (by omega),lk 0 (by omega),lk 1 (by omega)] at k
  have ef:ρ.fi=ρ'.fi:=A.fi
  rw [ef] at k
  exact k
theorem stepH_any {ok : Rho → (Nat → Obj → Prop) → Prop} {L i : Nat} {a b c w : IE} (h1 : 1 ≤ L) (h5 : L ≤ 5) (hi : i < L) (hok : ∀ ρ m, ok ρ m → OkSH L ρ) :
    CallOk (aQ ok) 71 (stepAH L i a b c w) (ah 2000 (vS L)) (.ret (stepRH i a b c w,ah 2000 (vS L))):=by
  have hck:=ckSH_at h1 h5 hi
  refine CallOk.read (p0:=aQ fun ρ _=>OkSH L ρ) (p:=aQ ok) rfl (stepH_var hi hck) fun ρ b' hk Q hQ=>?_
  obtain ⟨m,hm,hmh⟩:=hk
  let ρ':Rho:=⟨fun j=>if j=500 then a.den ρ else if j=501 then b.den ρ else if j=502 then c.den ρ else if j=503 then w.den ρ else ρ.iv j,ρ.bv,ρ.fi,ρ.fb,ρ.ov⟩
  have A:AlikeG ρ ρ':=⟨fun j hj=>by show ρ.iv j=(if j=500 then _ else _); rw [if_neg (by omega),if_neg (by omega),if_neg (by omega),if_neg (by omega)],fun _ _=>rfl,rfl,rfl⟩
  have i0:ρ'.iv 500=a.den ρ:=rfl
  have i1:ρ'.iv 501=b.den ρ:=rfl
  have i2:ρ'.iv 502=c.den ρ:=rfl
  have i3:ρ'.iv 503=w.den ρ:=rfl
  have R:Reads IE.var ρ ρ':=⟨fun j hj=>A.iv j (by omega),fun _ _=>rfl⟩
  have rows:SameL ρ (bf L 30) ρ' (bf L 30):=eH R h5
  have at_:(ah 2000 (vS L)).get 1001=some (.cells (bf L 30) 0 false false):=aC 2000 (vS L) 0 rfl (1001,.cells (bf L 30) 0 false false) (List.mem_singleton.2 rfl)
  refine ⟨ρ',⟨m,leftH_alike A (by omega) (hok ρ m hm),hmh⟩,?_,⟨rfl,fun b o hg=>?_⟩,(stepRH i a b c w,ah 2000 (vS L)),hQ,?_,⟨rfl,fun b o hg=>?_⟩⟩
  · exact SameL.cons (evenX_reads R _ _ _ _) (SameL.cons (SameV.agg (SameL.cons (SameV.int rfl) (SameL.cons (SameV.int i0.symm) (SameL.cons (SameV.int i1.symm) SameL.nil)))) (SameL.cons (SameV.agg (SameL.cons (SameV.int i2.symm) (SameL.cons (SameV.int i3.symm) SameL.nil))) (fun _ _ _ _ _ _=>rfl)))
  · rcases List.mem_singleton.1 (am _ _ _ _ hg) with h
    cases h; exact ⟨_,at_,SameA.cells rfl rows⟩
  · have d : ∀ f (x x' y y' : IE), x.den ρ' = x'.den ρ → y.den ρ' = y'.den ρ → (IE.app f (lt i) x y).den ρ' = (IE.app f (lt i) x' y').den ρ := fun f x x' y y' h1 h2 => by
      show FI ρ.fi f i (x.den ρ') (y.den ρ')=FI ρ.fi f i (x'.den ρ) (y'.den ρ)
      rw [h1,h2]
    exact SameV.agg (SameL.cons (SameV.int i2) (SameL.cons (SameV.int i3) (SameL.cons (SameV.int rfl) (SameL.cons (SameV.int (d _ _ _ _ _ i0 i2)) (SameL.cons (SameV.int (d _ _ _ _ _ i1 i3)) (SameL.cons (SameV.int (d _ _ _ _ _ i0 i2)) (SameL.cons (SameV.int (d _ _ _ _ _ i1 i3)) SameL.nil)))))))
  · rcases List.mem_singleton.1 (am _ _ _ _ hg) with h
    cases h; exact ⟨_,at_,SameA.cells rfl rows.symm⟩
end Go.Sx
namespace Go.Sx
open Go.RowKit Go.Proofs
set_option maxRecDepth 100000
noncomputable def bookN:List Nat:=[0,1,2,3,4,5,6,7,8,9,10,11,12,13,14,15,16,17,18,19,20,21]
noncomputable def fixM (nl:Bool):List Nat:=cond nl [] [96]
noncomputable def failC:C:=fun _ _ _=>.fail 90
noncomputable def selMn (nl:Bool) (L p:Nat) (s:St):C:=match s.tm.tree.get 11,s.tm.tree.get 13 with
  | some (.int _ (.lit (.ofNat k))),some (.int _ (.lit (.ofNat kd)))=>cond (and (Nat.blt k L) (and (Nat.ble k p) (Nat.blt kd 2))) ((eU nl k kd (Nat.beq k p)).runW (fixM nl) bookN [32 + 4 * k]) failC
  | _,_=>failC
noncomputable def lcMn (nl:Bool) (L p:Nat):C:=fun cx wh s=>selMn nl L p s cx wh s
noncomputable def codeHp (nl:Bool) (L p:Nat):C:=hapCode (lcMn nl L p)
theorem hap_compiles (lc:C):dx lc Sx.Tryd.tt.get Tryd.f13.ntmps Sx.Tryd.kp13 13 (aB Tryd.f13)=some (hapCode lc):=by kernel_rfl
theorem hap_loops:(bd (aB Tryd.f13)).map (fun a=>(bd a).map (bX Sx.Tryd.tt.get Tryd.f13.ntmps Sx.Tryd.kp13 13))=[[some hapBody]]:=by kernel_rfl
theorem hap_ranges:(bd (aB Tryd.f13)).map (fun a=>(bd a).map bK)=[[[]]]:=by kernel_rfl
noncomputable def lkM (nl st:Bool) (k kd:Nat):Bool:=and ((eU nl k kd st).sl.all (fun g=>and (memN Sx.Tryd.kp13 (some g.1)) (cP (eU nl k kd st).nv g.2)))
  (and ((eU nl k kd st).vs.all (fun g=>and (aW (eU nl k kd st).nv g.c) (and (aW (eU nl k kd st).nv g.cf) (and (Nat.ble (g.id + 1) (eU nl k kd st).nv) (or g.own.isNone (Nat.ble 1000 g.id)))))) (vsUp 0 (eU nl k kd st).vs))
theorem lkM_all:bz (fun nl=>bz (fun st=>bz (fun k=>and (lkM nl st k 0) (lkM nl st k 1)) [0,1,2,3,4]) [true,false]) [true,false]=true:=by kernel_rfl
theorem lkM_at {nl st:Bool} {k kd:Nat} (hk:k < 5) (hkd:kd < 2):lkM nl st k kd=true:=by
  have h1:=av (av (av lkM_all nl (by cases nl <;> simp)) st (by cases st <;> simp)) k (by simp only [List.mem_cons,List.not_mem_nil,or_false]; omega)
  simp only [Bool.and_eq_true] at h1
  have:kd=0 ∨ kd=1:=by omega
  rcases this with rfl | rfl
  · exact h1.1
  · exact h1.2
noncomputable def kdR (ρ:Rho) (k:Nat):Nat:=if ρ.bv (32 + 4 * k)=true then 1 else 0
theorem gM (ρ:Rho) (k:Nat):kdR ρ k < 2:=by unfold kdR; split <;> omega
theorem stM_of {ρ ρ':Rho} (hi:ρ'.fi=ρ.fi) (hv:∀ j,j < 22→ρ'.iv j=ρ.iv j) {k kd:Nat} (hkd:kd < 2) (s0:Mn):∀ i,stM ρ' k kd s0 i=stM ρ k kd s0 i
  | 0=>rfl
  | i + 1=>by
    show stepM ρ' k kd (stM ρ' k kd s0 i)=stepM ρ k kd (stM ρ k kd s0 i)
    rw [stM_of hi hv hkd s0 i]
    have hb:∀ a,fX ρ' kd a=fX ρ kd a:=fun a=>by unfold fX drw; rw [hi,hv _ (by omega),hv _ (by omega)]
    have hd:∀ a,b9 ρ' kd a=b9 ρ kd a:=fun a=>by unfold b9 drw; rw [hi,hv _ (by omega),hv _ (by omega)]
    have hc:∀ a w,curM ρ' a w=curM ρ a w:=fun a w=>by
      unfold curM drw
      rw [hi,hv 16 (by omega),hv 17 (by omega),hv 18 (by omega),hv 19 (by omega),hv 20 (by omega)]
    unfold stepM
    rw [hb,hd,hc,hv 21 (by omega)]
theorem stopsM_of {ρ ρ':Rho} (hi:ρ'.fi=ρ.fi) (hv:∀ j,j < 22→ρ'.iv j=ρ.iv j) {kd:Nat} (hkd:kd < 2) (s:Mn):bM ρ' kd s ↔ bM ρ kd s:=by
  simp only [bM,fX,b9,drw,hi,hv _ (show 8 + 2 * kd < 22 by omega),hv _ (show 9 + 2 * kd < 22 by omega),hv _ (show 12 + 2 * kd < 22 by omega),hv _ (show 13 + 2 * kd < 22 by omega)]
theorem HapSt.of {ρ ρ':Rho} (hi:ρ'.fi=ρ.fi) (hv:∀ j,j < 22→ρ'.iv j=ρ.iv j) {k kd:Nat} {st:Bool} (hkd:kd < 2) (h:HapSt k kd st ρ):HapSt k kd st ρ':=by
  have e:∀ f k,nmF ρ' f k=nmF ρ f k:=fun f k=>by unfold nmF; rw [hi]
  have e0:s0M ρ' k=s0M ρ k:=by unfold s0M; rw [e,e,e,e]
  refine ⟨by rw [e]; exact h.lo,by rw [e]; exact h.hi,fun hs=>?_,fun hs=>?_⟩
  · obtain ⟨g1,g2⟩:=h.go hs
    rw [e,e,e,e,e,e0,stM_of hi hv hkd]
    exact ⟨fun j hj hn=>g1 j hj ((stopsM_of hi hv hkd _).1 (by rwa [stM_of hi hv hkd] at hn)),g2⟩
  · obtain ⟨j,j1,j2,j3,j4,j5⟩:=h.st hs
    refine ⟨j,by rw [e]; exact j1,?_,fun i hij hn=>j3 i hij ?_,?_,?_⟩
    · rw [e0,stM_of hi hv hkd]; exact (stopsM_of hi hv hkd _).2 j2
    · rw [e0,stM_of hi hv hkd] at hn; exact (stopsM_of hi hv hkd _).1 hn
    · rw [e,e0,stM_of hi hv hkd]; exact j4
    · rw [e,e0,stM_of hi hv hkd]; exact j5
theorem okMn_of {nl:Bool} {ρ ρ':Rho} {m:Nat→Obj→Prop} (hi:ρ'.fi=ρ.fi) (hf:∀ j ∈ fixM nl,ρ'.ov j=ρ.ov j∧ρ'.iv j=ρ.iv j) (h:okMn nl ρ m):okMn nl ρ' m:=by
  unfold okMn at h ⊢
  cases nl with
  | true =>
    rw [if_pos rfl] at h ⊢
    intro a lo hi'
    rw [hi]; exact h a lo hi'
  | false =>
    rw [if_neg (by simp)] at h ⊢
    obtain ⟨⟨b,len,cap,h1,h2,h3,h4,h5,h6⟩,h7⟩:=h
    obtain ⟨f1,f2⟩:=hf 96 (by simp [fixM])
    refine ⟨⟨b,len,cap,by rw [f1]; exact h1,by rw [f2]; exact h2,h3,h4,by rw [hi]; exact h5,by rw [hi]; exact h6⟩,fun a lo hi'=>?_⟩
    have:=h7 a lo hi'
    unfold drawF at this ⊢
    rw [hi]; exact this
structure OkHs (nl:Bool) (L p:Nat) (ρ:Rho) (m:Nat→Obj→Prop):Prop where
  mn:okMn nl ρ m
  hs:∀ k,k < L→k≤p→HapSt k (kdR ρ k) (Nat.beq k p) ρ
theorem fail_cok {p:Par} {n:Nat} {keep:List Nat} {code:Code}:COk p n keep failC code:=by
  intro cx CX wh rd E w0 w s a Q Q' hrd S k P
  exact k.elim
theorem lc_ok {ok : Rho → (Nat → Obj → Prop) → Prop} {nl : Bool} {L p : Nat} (h5 : L ≤ 5) (hok : ∀ ρ m, ok ρ m → OkHs nl L p ρ m) {a : Code} (hc : bX Sx.Tryd.tt.get Tryd.f13.ntmps Sx.Tryd.kp13 13 a = some hapBody) (hr : bK a = []) :
    COk (aQ ok) Tryd.f13.ntmps Sx.Tryd.kp13 (lcMn nl L p) (.loop a):=by
  suffices h:∀ s,COk (aQ ok) Tryd.f13.ntmps Sx.Tryd.kp13 (selMn nl L p s) (.loop a) from cok_pick (sel:=selMn nl L p) h
  intro s
  unfold selMn
  split
  · rename_i _ k _ kd _ _
    cases hcnd:and (Nat.blt k L) (and (Nat.ble k p) (Nat.blt kd 2)) with
    | false=>exact fail_cok
    | true =>
      rw [cond_true]
      simp only [Bool.and_eq_true] at hcnd
      obtain ⟨h1,h2,h3⟩:=hcnd
      have h1:=Nat.le_of_ble_eq_true h1
      have h2:=Nat.le_of_ble_eq_true h2
      have h3:=Nat.le_of_ble_eq_true h3
      have hl:=lkM_at (nl:=nl) (st:=Nat.beq k p) (k:=k) (kd:=kd) (by omega) (by omega)
      unfold lkM at hl
      simp only [Bool.and_eq_true] at hl
      obtain ⟨l1,l2,l3⟩:=hl
      refine LSpec.cokW (p:=aQ ok) (pI:=aQ (okMn nl)) rfl rfl (cCode_ok (tabsMn fun _ _ k=>k).types (tabsMn (nl:=nl) fun _ _ k=>k).mixed a hapBody hc (rcOf_rng [] hr (by simp))) _ ?_ ?_ l3 (Nat.le_of_ble_eq_true rfl) (cxMn_ok fun _ _ k=>k) rfl (min_loop (by omega) (by omega)) (fixM nl) bookN [32 + 4 * k] ?_
      · simpa only [Bool.and_eq_true] using l1
      · simpa only [Bool.and_eq_true] using l2
      · intro ρ ρ' m h hi hb hfx hiv hbv
        have H:=hok ρ m h
        refine ⟨okMn_of hi hfx H.mn,fun hlit=>?_⟩
        have hv:∀ j,j < 22→ρ'.iv j=ρ.iv j:=fun j hj=>hiv j (by simp only [bookN,List.mem_cons,List.not_mem_nil,or_false]; omega)
        have hk:=hbv (32 + 4 * k) (List.mem_singleton.2 rfl)
        have ek:kdR ρ k=kd:=by
          unfold kdR
          have:kd=0 ∨ kd=1:=by omega
          rcases this with rfl | rfl
          · have:(BE.not (.var (32 + 4 * k))).den ρ'=true:=hlit
            rw [BE.t_not] at this
            have this:¬ ρ'.bv (32 + 4 * k)=true:=this
            rw [hk] at this
            rw [if_neg this]
          · have:ρ'.bv (32 + 4 * k)=true:=hlit
            rw [hk] at this
            rw [if_pos this]
        have:=H.hs k (by omega) h2
        rw [ek] at this
        exact this.of hi hv (by omega)
  · exact fail_cok
theorem hap_code_ok {ok:Rho→(Nat→Obj→Prop)→Prop} {nl:Bool} {L p:Nat} (h5:L≤5) (hok:∀ ρ m,ok ρ m→OkHs nl L p ρ m):COk (aQ ok) Tryd.f13.ntmps Sx.Tryd.kp13 (codeHp nl L p) (aB Tryd.f13):=by
  have T:=tabsMn (ok:=ok) (nl:=nl) fun ρ m k=>(hok ρ m k).mn
  refine cCodeI_ok T.types T.mixed _ _ (hap_compiles _) (loopsIn_of _ fun a ha=>loopsOk_of _ fun b hb=>?_)
  have m1:=List.mem_map_of_mem (f:=fun a=>(bd a).map (bX Sx.Tryd.tt.get Tryd.f13.ntmps Sx.Tryd.kp13 13)) ha
  rw [hap_loops] at m1
  have m1:=List.mem_singleton.1 m1
  have m2:=List.mem_map_of_mem (f:=fun a=>(bd a).map bK) ha
  rw [hap_ranges] at m2
  have m2:=List.mem_singleton.1 m2
  have c1:=List.mem_map_of_mem (f:=bX Sx.Tryd.tt.get Tryd.f13.ntmps Sx.Tryd.kp13 13) hb
  rw [m1] at c1
  have c2:=List.mem_map_of_mem (f:=bK) hb
  rw [m2] at c2
  exact lc_ok h5 hok (List.mem_singleton.1 c1) (List.mem_singleton.1 c2)
noncomputable def vHl (qb pb _L:Nat) (rows plan:List AV):List (Nat × List AV):=cond (Nat.blt qb pb) [(qb,rows),(pb,plan)] [(pb,plan),(qb,rows)]
noncomputable def vH (qb pb L:Nat):List (Nat × AObj):=vC (vHl qb pb L (bf L 30) (planN L 540))
noncomputable def argsHp (nl arr:Bool) (qb pb L:Nat):List AV:=[.agg (eG (.sliceX qb 4 0 L)),plA arr pb L,btA nl]
noncomputable def nwH (r:AV × Heap):List Nat:=match r.1 with
  | .agg [.sliceX b _ _ _,.sliceX c _ _ _,_]=>[b,c]
  | _=>[]
noncomputable def run0Hp (nl arr:Bool) (qb pb n L p:Nat):T (AV × Heap):=(codeHp nl L p (cxMn nl) ⟨13,none⟩ ⟨⟨[],tmOf (argsHp nl arr qb pb L) 0 .nil⟩,[],ah n (vH qb pb L)⟩).bind (finish ⟨Tryd.f13.params.size + Tryd.f13.nfree,codeHp nl L p,[.cell 6 true 3]⟩)
noncomputable def runHp (nl arr:Bool) (qb pb n L p:Nat):T (AV × Heap):=(run0Hp nl arr qb pb n L p).bind fun r=>bV n (vH qb pb L) (ah n (vH qb pb L)) (nwH r) r
theorem hap_call {ok:Rho→(Nat→Obj→Prop)→Prop} {nl arr:Bool} {qb pb n L p:Nat} (h5:L≤5) (hok:∀ ρ m,ok ρ m→OkHs nl L p ρ m):CallOk (aQ ok) 13 (argsHp nl arr qb pb L) (ah n (vH qb pb L)) (run0Hp nl arr qb pb n L p) :=
  bodyOf_ok (tabsMn (ok:=ok) (nl:=nl) fun ρ m k=>(hok ρ m k).mn).types (cxMn_ok fun ρ m k=>(hok ρ m k).mn) Tryd.func13 (by kernel_rfl) (by kernel_rfl) (hap_code_ok h5 hok) (by kernel_rfl) (by kernel_rfl) (by show 3≤_; exact of_decide_eq_true (by kernel_rfl))
noncomputable def atH:Nat→IE
  | 0=>addI (addI (.lit 0))
  | k + 1=>nmE 9708 k
noncomputable def cPv:Nat→IE
  | 0=>.app 9600 (.lit 0) (.var 0) (.var 1)
  | k + 1=>nmE 9706 k
noncomputable def wPv:Nat→IE
  | 0=>.app 9600 (addI (.lit 0)) (.var 2) (.var 3)
  | k + 1=>nmE 9707 k
noncomputable def fPv (L:Nat):Nat→IE
  | 0=>lt L
  | k + 1=>nmE 9709 k
noncomputable def fc1 (L k:Nat):List BE:=[.cmp .eql (.mn (.var 4) (.bin .add .i64 (cPv k) (.bin .mul .i64 (.var (540 + 2 * k)) (.var 6)))) (nmE 9701 k),
  .cmp .eql (.mn (.var 5) (.bin .add .i64 (wPv k) (.bin .mul .i64 (.var (541 + 2 * k)) (.var 7)))) (nmE 9702 k),
  .cmp .eql (addI (atH k)) (nmE 9703 k),.cmp .eql (fPv L k) (nmE 9704 k),.cmp .eql (.app 9600 (atH k) (.var (30 + 4 * k)) (.var (31 + 4 * k))) (nmE 9705 k)]
noncomputable def fcHp (L:Nat):Nat→List BE
  | 0=>[]
  | k + 1=>cC (fc1 L k) (fcHp L k)
noncomputable def nPt (L p:Nat):Nat:=cond (Nat.blt p L) (p + 1) L
noncomputable def cellsH (f:Nat):Nat→List AV
  | 0=>[]
  | k + 1=>cC (cellsH f k) [.int .i64 (nmE f k)]
noncomputable def lsH (b k:Nat):AV:=cond (Nat.beq k 0) .nilslice (.sliceX b 1 0 k)
noncomputable def resH (n L p:Nat):AV:=.agg [lsH n p,lsH (n + 1) p,.int .i64 (nmE 9709 (nPt L p - 1))]
noncomputable def newH (n p:Nat) (c w:List AV):List (Nat × AObj):=cond (Nat.beq p 0) [] [(n,.cells c 3 true true),(n + 1,.cells w 3 true true)]
noncomputable def nxH (n p:Nat):Nat:=cond (Nat.beq p 0) n (n + 2)
noncomputable def ckHp (nl arr:Bool) (qb pb n L p:Nat):Bool:=and (ba n (vH qb pb L)) (allK (fun _=>isR (resH n L p) (nxH n p) (cC (vH qb pb L) (newH n p (cellsH 9706 p) (cellsH 9707 p)))) (runHp nl arr qb pb n L p) (knOf [] (fcHp L (nPt L p))))
end Go.Sx
namespace Go.Sx
open Go.RowKit Go.Proofs
set_option maxRecDepth 100000
noncomputable def fm (ρ:Rho) (pl:Nat→Int):Nat→Int × Int
  | 0=>(ρ.iv 1,ρ.iv 3)
  | k + 1=>(dQ ρ k 0 (fm ρ pl k).1 (pl (2 * k)),dQ ρ k 1 (fm ρ pl k).2 (pl (2 * k + 1)))
def cV (ρ:Rho) (pl:Nat→Int) (j:Nat):Prop:=bY ρ j 0 (crs ρ pl j).1 (pl (2 * j))=0∧bY ρ j 1 (crs ρ pl j).2 (pl (2 * j + 1))=0
structure LeOk (L k p:Nat) (pl:Nat→Int) (ρ:Rho):Prop where
  pb:∀ j,j < L→0≤pl (2 * j)∧0≤pl (2 * j + 1)∧pl (2 * j) + pl (2 * j + 1)≤ρ.iv (33 + 4 * j)
  go:∀ j,j≤k→j < p→cV ρ pl j
  st:p≤k→¬ cV ρ pl p
structure OkLe (L k p:Nat) (ρ:Rho):Prop where
  cs:∀ d ∈ csV L,d.den ρ=true
  s:OkS L ρ
  sh:OkSH L ρ
  f:LeOk L k p (fun j=>ρ.iv (540 + j)) ρ
noncomputable def aH (r:Nat):Nat→IE
  | 0=>.var (2 * r + 1)
  | k + 1=>.app (9310 + r) (lt k) (aH r k) (.var (540 + 2 * k + r))
noncomputable def lackE (r j:Nat):IE:=.app (9302 + r) (lt j) (aE r j) (.var (540 + 2 * j + r))
noncomputable def lessC (j:Nat):BE:=.not (.and (.cmp .eql (lackE 0 j) (.lit 0)) (.and (.cmp .eql (lackE 1 j) (.lit 0)) (.lit true)))
noncomputable def fcLe:Nat→Nat→List BE
  | 0,_=>[]
  | n + 1,j=>.cmp .eql (lackE 0 j) (.lit 0) :: .cmp .eql (lackE 1 j) (.lit 0) :: fcLe n (j + 1)
noncomputable def orcLe (L:Nat) (f:FuncId) (args:List AV) (h:Heap):Option (T (AV × Heap)) :=
  cond (Nat.beq f 42) (soGo L args h) (cond (Nat.beq f 71) (match args with
    | [_,.agg [.int _ (.lit (.ofNat i)),.int _ a,.int _ b],.agg [.int _ c,.int _ w],_]=>cond (Nat.blt i L) (orElse (rowGo L (stepA L i a b c w) (stepR i a b c w) args h) (rowGo L (stepAH L i a b c w) (stepRH i a b c w) args h)) none
    | _=>none) none)
noncomputable def tbLe (L:Nat):hI:=⟨Sx.Tryd.ft.get,aA Sx.Tryd.rt,2000,orcLe L⟩
noncomputable def argsLe (arr:Bool) (b L k:Nat):List AV:=[.agg (eG (.sliceX 1001 4 0 L)),plA arr b L,li (Int.ofNat k)]
noncomputable def standsV:AV:=.tup [.agg [li 0,li 0],.agg [li 0,li 0],li 42]
noncomputable def resLe (k p:Nat):AV:=cond (Nat.ble p k) standsV (.tup [.agg [.int .i64 (aE 0 (k + 1)),.int .i64 (aH 0 (k + 1))],.agg [.int .i64 (aE 1 (k + 1)),.int .i64 (aH 1 (k + 1))],li 0])
noncomputable def runLe (arr:Bool) (L k:Nat):T (AV × Heap):=(b7 (tbLe L) 60 false 19 (argsLe arr 1002 L k) (ah 2000 (vF L))).bind fun r=>bV 2000 (vF L) (ah 2000 (vF L)) [] r
noncomputable def fcLes (k p:Nat):List BE:=cond (Nat.ble p k) (lessC p :: fcLe p 0) (fcLe (k + 1) 0)
noncomputable def ckLe (arr:Bool) (L k p:Nat):Bool:=and (ba 2000 (vF L)) (allK (fun _=>isR (resLe k p) 2000 (vF L)) (runLe arr L k) (knOf (qPl 540 L 0) (cC (fcPl 540 L 0) (fcLes k p))))
noncomputable def ckLes (L:Nat):Bool:=bz (fun k=>bz (fun p=>and (ckLe true L k p) (ckLe false L k p)) (cntD (k + 2))) (cntD L)
end Go.Sx
namespace Go.Sx
open Go.RowKit Go.Proofs
set_option maxRecDepth 100000
noncomputable def st0 (ρ:Rho) (pl:Nat→Int) (k:Nat) (S:Mn):Mn:=⟨cA ρ 0 S.c (pl (2 * k)),cA ρ 1 S.w (pl (2 * k + 1)),wr (S.a + 1),S.f⟩
noncomputable def nmM (ρ:Rho) (k:Nat) (S:Mn):Int:=drw ρ S.a (ρ.iv (30 + 4 * k)) (ρ.iv (31 + 4 * k))
noncomputable instance (ρ:Rho) (kd:Nat) (s:Mn):Decidable (bM ρ kd s):=inferInstanceAs (Decidable (s.c < fX ρ kd s.a ∨ s.w < b9 ρ kd s.a))
noncomputable def jS (ρ:Rho) (pl:Nat→Int) (k:Nat) (S:Mn):Nat:=ez (fun j=>decide (bM ρ (kdR ρ k) (stM ρ k (kdR ρ k) (st0 ρ pl k S) j))) (nmM ρ k S).toNat
noncomputable def endM (ρ:Rho) (pl:Nat→Int) (k:Nat) (S:Mn):Mn:=stM ρ k (kdR ρ k) (st0 ρ pl k S) (jS ρ pl k S)
noncomputable def aJ (ρ:Rho) (L:Nat) (pl:Nat→Int):Nat→Mn
  | 0=>⟨drw ρ 0 (ρ.iv 0) (ρ.iv 1),drw ρ (wr (0 + 1)) (ρ.iv 2) (ρ.iv 3),wr (wr (0 + 1) + 1),L⟩
  | k + 1=>endM ρ pl k (aJ ρ L pl k)
theorem hap0c (ρ:Rho) (L:Nat) (pl:Nat→Int):(aJ ρ L pl 0).c=drw ρ 0 (ρ.iv 0) (ρ.iv 1):=rfl
theorem hap0w (ρ:Rho) (L:Nat) (pl:Nat→Int):(aJ ρ L pl 0).w=drw ρ (wr (0 + 1)) (ρ.iv 2) (ρ.iv 3):=rfl
theorem hap0a (ρ:Rho) (L:Nat) (pl:Nat→Int):(aJ ρ L pl 0).a=wr (wr (0 + 1) + 1):=rfl
theorem hap0f (ρ:Rho) (L:Nat) (pl:Nat→Int):(aJ ρ L pl 0).f=L:=rfl
noncomputable def aP (ρ:Rho) (L:Nat) (pl:Nat→Int) (k:Nat):Bool:=Nat.blt (jS ρ pl k (aJ ρ L pl k)) (nmM ρ k (aJ ρ L pl k)).toNat
noncomputable def hapF (ρ:Rho) (L:Nat) (pl:Nat→Int) (p:Nat):Int:=if p < L then mnI (aJ ρ L pl (p + 1)).f p else (aJ ρ L pl L).f
theorem jS_spec (ρ:Rho) (pl:Nat→Int) (k:Nat) (S:Mn):jS ρ pl k S≤(nmM ρ k S).toNat∧(∀ j,j < jS ρ pl k S→¬ bM ρ (kdR ρ k) (stM ρ k (kdR ρ k) (st0 ρ pl k S) j))∧(jS ρ pl k S < (nmM ρ k S).toNat→bM ρ (kdR ρ k) (endM ρ pl k S)):=by
  obtain ⟨h1,h2,h3⟩:=eD (fun j=>decide (bM ρ (kdR ρ k) (stM ρ k (kdR ρ k) (st0 ρ pl k S) j))) (nmM ρ k S).toNat
  refine ⟨h1,fun j hj=>?_,fun h=>?_⟩
  · have:=h2 j hj
    exact of_decide_eq_false this
  · have:=h3 h
    exact of_decide_eq_true this
structure AgreeD (ρ ρ':Rho):Prop where
  iv:∀ j,j < 60→ρ.iv j=ρ'.iv j
  bv:∀ j,j < 60→ρ.bv j=ρ'.bv j
  d:∀ a lo hi,drw ρ a lo hi=drw ρ' a lo hi
section
variable {ρ ρ':Rho} (A:AgreeD ρ ρ')
include A
theorem kdR_agree {k:Nat} (hk:k < 7):kdR ρ k=kdR ρ' k:=by unfold kdR; rw [A.bv _ (by omega)]
theorem stM_agree {k kd:Nat} (hkd:kd < 2) (s0:Mn):∀ i,stM ρ k kd s0 i=stM ρ' k kd s0 i
  | 0=>rfl
  | i + 1=>by
    show stepM ρ k kd (stM ρ k kd s0 i)=stepM ρ' k kd (stM ρ' k kd s0 i)
    rw [stM_agree hkd s0 i]
    have hb:∀ a,fX ρ kd a=fX ρ' kd a:=fun a=>by unfold fX; rw [A.d,A.iv _ (by omega),A.iv _ (by omega)]
    have hd:∀ a,b9 ρ kd a=b9 ρ' kd a:=fun a=>by unfold b9; rw [A.d,A.iv _ (by omega),A.iv _ (by omega)]
    have hc:∀ a w,curM ρ a w=curM ρ' a w:=fun a w=>by
      unfold curM
      rw [A.d,A.d,A.iv 16 (by omega),A.iv 17 (by omega),A.iv 18 (by omega),A.iv 19 (by omega),A.iv 20 (by omega)]
    unfold stepM
    rw [hb,hd,hc,A.iv 21 (by omega)]
theorem stopsM_agree {kd:Nat} (hkd:kd < 2) (s:Mn):bM ρ kd s ↔ bM ρ' kd s:=by
  have hb:∀ a,fX ρ kd a=fX ρ' kd a:=fun a=>by unfold fX; rw [A.d,A.iv _ (by omega),A.iv _ (by omega)]
  have hd:∀ a,b9 ρ kd a=b9 ρ' kd a:=fun a=>by unfold b9; rw [A.d,A.iv _ (by omega),A.iv _ (by omega)]
  unfold bM
  rw [hb,hd]
theorem has_agreeD {r:Nat} (hr:r < 2) (a w:Int):cA ρ r a w=cA ρ' r a w:=by unfold cA; rw [A.iv (6 + r) (by omega),A.iv (4 + r) (by omega)]
theorem st0_agree (pl:Nat→Int) (k:Nat) (S:Mn):st0 ρ pl k S=st0 ρ' pl k S:=by unfold st0; rw [has_agreeD A (by omega),has_agreeD A (by omega)]
theorem nmM_agree {k:Nat} (hk:k < 7) (S:Mn):nmM ρ k S=nmM ρ' k S:=by unfold nmM; rw [A.d,A.iv _ (by omega),A.iv _ (by omega)]
theorem jS_agree {pl:Nat→Int} {k:Nat} (hk:k < 7) (S:Mn):jS ρ pl k S=jS ρ' pl k S:=by
  unfold jS
  rw [nmM_agree A hk]
  congr 1
  funext j
  have:=stopsM_agree A (gM ρ' k) (stM ρ' k (kdR ρ' k) (st0 ρ' pl k S) j)
  rw [kdR_agree A hk,st0_agree A,stM_agree A (gM ρ' k)]
  exact decide_eq_decide.2 this
theorem endM_agree {pl:Nat→Int} {k:Nat} (hk:k < 7) (S:Mn):endM ρ pl k S=endM ρ' pl k S:=by
  unfold endM
  rw [jS_agree A hk,kdR_agree A hk,st0_agree A,stM_agree A (gM ρ' k)]
theorem cS {L:Nat} {pl:Nat→Int}:∀ k,k≤7→aJ ρ L pl k=aJ ρ' L pl k
  | 0,_=>by unfold aJ; rw [A.d,A.d,A.iv 0 (by omega),A.iv 1 (by omega),A.iv 2 (by omega),A.iv 3 (by omega)]
  | k + 1,h=>by
    show endM ρ pl k (aJ ρ L pl k)=endM ρ' pl k (aJ ρ' L pl k)
    rw [cS k (by omega),endM_agree A (by omega)]
theorem standsP_agree {L:Nat} {pl:Nat→Int} {k:Nat} (hk:k < 7):aP ρ L pl k=aP ρ' L pl k:=by
  unfold aP; rw [cS A k (by omega),jS_agree A hk,nmM_agree A hk]
theorem hapF_agree {L:Nat} {pl:Nat→Int} {p:Nat} (h5:L≤5):hapF ρ L pl p=hapF ρ' L pl p:=by
  unfold hapF
  split
  · rw [cS A _ (by omega)]
  · rw [cS A _ (by omega)]
end
noncomputable def bE (ρ:Rho) (L:Nat) (pl:Nat→Int) (p:Nat):Rho:=⟨ρ.iv,ρ.bv,fun f x y z =>
  if f=9701 then (st0 ρ pl x.toNat (aJ ρ L pl x.toNat)).c else if f=9702 then (st0 ρ pl x.toNat (aJ ρ L pl x.toNat)).w else if f=9703 then (st0 ρ pl x.toNat (aJ ρ L pl x.toNat)).a else if f=9704 then (aJ ρ L pl x.toNat).f else if f=9705 then nmM ρ x.toNat (aJ ρ L pl x.toNat)
  else if f=9706 then (aJ ρ L pl (x.toNat + 1)).c else if f=9707 then (aJ ρ L pl (x.toNat + 1)).w else if f=9708 then (if x.toNat=p then wr (wr ((aJ ρ L pl (x.toNat + 1)).a + 1) + 1) else (aJ ρ L pl (x.toNat + 1)).a)
  else if f=9709 then (if x.toNat=p then mnI (aJ ρ L pl (x.toNat + 1)).f p else (aJ ρ L pl (x.toNat + 1)).f) else ρ.fi f x y z,ρ.fb,ρ.ov⟩
section
variable (ρ:Rho) (L:Nat) (pl:Nat→Int) (p k:Nat)
theorem nm1:nmF (bE ρ L pl p) 9701 k=(st0 ρ pl k (aJ ρ L pl k)).c:=by simp [nmF,FI,bE]
theorem nm2:nmF (bE ρ L pl p) 9702 k=(st0 ρ pl k (aJ ρ L pl k)).w:=by simp [nmF,FI,bE]
theorem nm3:nmF (bE ρ L pl p) 9703 k=(st0 ρ pl k (aJ ρ L pl k)).a:=by simp [nmF,FI,bE]
theorem nm4:nmF (bE ρ L pl p) 9704 k=(aJ ρ L pl k).f:=by simp [nmF,FI,bE]
theorem nm5:nmF (bE ρ L pl p) 9705 k=nmM ρ k (aJ ρ L pl k):=by simp [nmF,FI,bE]
theorem nm6:nmF (bE ρ L pl p) 9706 k=(aJ ρ L pl (k + 1)).c:=by simp [nmF,FI,bE]
theorem nm7:nmF (bE ρ L pl p) 9707 k=(aJ ρ L pl (k + 1)).w:=by simp [nmF,FI,bE]
theorem nm8:nmF (bE ρ L pl p) 9708 k=if k=p then wr (wr ((aJ ρ L pl (k + 1)).a + 1) + 1) else (aJ ρ L pl (k + 1)).a:=by simp [nmF,FI,bE]
theorem nm9:nmF (bE ρ L pl p) 9709 k=if k=p then mnI (aJ ρ L pl (k + 1)).f p else (aJ ρ L pl (k + 1)).f:=by simp [nmF,FI,bE]
theorem fY:AgreeD ρ (bE ρ L pl p):=⟨fun _ _=>rfl,fun _ _=>rfl,fun a lo hi=>by simp [drw,FI,bE]⟩
end
def DrIn (ρ:Rho):Prop:=∀ a lo hi:Int,0≤lo→lo≤hi→hi≤99→lo≤drw ρ a lo hi∧drw ρ a lo hi≤hi
theorem drIn_of {nl:Bool} {ρ:Rho} {m:Nat→Obj→Prop} (h:okMn nl ρ m):DrIn ρ:=by
  intro a lo hi h1 h2 h3
  have wr':∀ x:Int,-9223372036854775808≤x∧x≤9223372036854775807→IntKind.i64.wrap x=x:=fun x hx=>IntWalk.i64_in x hx
  have gen:∀ t:Int,0≤t∧t < hi - lo + 1→lo≤IntKind.i64.wrap (lo + t)∧IntKind.i64.wrap (lo + t)≤hi:=fun t ht=>by
    rw [wr' _ (by omega)]; omega
  have tf:∀ x:Int,0≤bO x (IntKind.i64.wrap (IntKind.i64.wrap (hi - lo) + 1))∧bO x (IntKind.i64.wrap (IntKind.i64.wrap (hi - lo) + 1)) < hi - lo + 1:=fun x=>by
    rw [wr' (hi - lo) (by omega),wr' _ (by omega)]
    exact turnF_in (by omega)
  unfold okMn at h
  cases nl with
  | true =>
    rw [if_pos rfl] at h
    have:=h a lo hi
    unfold drw
    rw [this]
    unfold drawN0
    rw [if_neg (by omega)]
    exact gen _ (tf _)
  | false =>
    rw [if_neg (by simp)] at h
    have:=h.2 a lo hi
    unfold drw
    rw [this]
    unfold drawF
    rw [if_neg (by omega)]
    exact gen _ (tf _)
structure HapOk (L p:Nat) (pl:Nat→Int) (ρ:Rho):Prop where
  le:p≤L
  st:∀ k,k < L→k≤p→aP ρ L pl k=decide (k=p)
theorem min_in {ρ:Rho} {L:Nat} (D:DrIn ρ) (cs:∀ d ∈ csV L,d.den ρ=true) {k:Nat} (hk:k < L) (S:Mn):ρ.iv (30 + 4 * k)≤nmM ρ k S∧nmM ρ k S≤ρ.iv (31 + 4 * k)∧1≤ρ.iv (30 + 4 * k)∧ρ.iv (31 + 4 * k)≤60:=by
  have:=((fg.1 cs).2 k hk).min
  rw [show 30 + 4 * k + 1=31 + 4 * k by omega] at this
  have d:=D S.a (ρ.iv (30 + 4 * k)) (ρ.iv (31 + 4 * k)) (by omega) (by omega) (by omega)
  exact ⟨d.1,d.2,by omega,by omega⟩
theorem okHs_of {nl:Bool} {L p:Nat} {pl:Nat→Int} {ρ:Rho} {m:Nat→Obj→Prop} (h5:L≤5) (hmn:okMn nl ρ m) (cs:∀ d ∈ csV L,d.den ρ=true) (H:HapOk L p pl ρ):OkHs nl L p (bE ρ L pl p) m:=by
  have A:=fY ρ L pl p
  have D:=drIn_of hmn
  refine ⟨?_,fun k hk hkp=>?_⟩
  · unfold okMn at hmn ⊢
    have a:=A.d
    cases nl with
    | true =>
      rw [if_pos rfl] at hmn ⊢
      intro a' lo hi
      exact (a a' lo hi).symm.trans (hmn a' lo hi)
    | false =>
      rw [if_neg (by simp)] at hmn ⊢
      obtain ⟨⟨b,len,cap,h1,h2,h3,h4,h5,h6⟩,h7⟩:=hmn
      have e0:∀ n,(bE ρ L pl p).fi 1000 n 0 0=ρ.fi 1000 n 0 0:=fun n=>by simp [bE]
      have e1:∀ n,(bE ρ L pl p).fi 1001 n 0 0=ρ.fi 1001 n 0 0:=fun n=>by simp [bE]
      refine ⟨⟨b,len,cap,h1,h2,h3,h4,fun n=>by rw [e0,e1]; exact h5 n,fun hp=>?_⟩,fun a' lo hi=>?_⟩
      · obtain ⟨c,x,cells,el,fz,q1,q2,q3⟩:=h6 hp
        exact ⟨c,x,cells,el,fz,q1,q2,fun j hj=>by rw [e1]; exact q3 j hj⟩
      · have:=(a a' lo hi).symm.trans (h7 a' lo hi)
        refine this.trans ?_
        unfold drawF
        have:FI (bE ρ L pl p).fi 1000 a' 0 0=FI ρ.fi 1000 a' 0 0:=by simp [FI,bE]
        rw [this]
  · have mi:=min_in D cs hk (aJ ρ L pl k)
    have kd':kdR (bE ρ L pl p) k=kdR ρ k:=(kdR_agree A (by omega)).symm
    have s0:s0M (bE ρ L pl p) k=st0 ρ pl k (aJ ρ L pl k):=by unfold s0M; rw [nm1,nm2,nm3,nm4]; rfl
    have js:=jS_spec ρ pl k (aJ ρ L pl k)
    have hst:=H.st k hk hkp
    have sm:∀ i,stM (bE ρ L pl p) k (kdR ρ k) (st0 ρ pl k (aJ ρ L pl k)) i=stM ρ k (kdR ρ k) (st0 ρ pl k (aJ ρ L pl k)) i:=fun i=>(stM_agree A (gM ρ k) _ i).symm
    have so:∀ s,bM (bE ρ L pl p) (kdR ρ k) s ↔ bM ρ (kdR ρ k) s:=fun s=>(stopsM_agree A (gM ρ k) s).symm
    rw [kd']
    have beq:Nat.beq k p=decide (k=p):=by
      apply Bool.eq_iff_iff.2
      rw [aq,decide_eq_true_iff]
    refine ⟨by rw [nm5]; omega,by rw [nm5]; omega,fun hs=>?_,fun hs=>?_⟩
    · rw [beq] at hs
      have hkne:k ≠ p:=of_decide_eq_false hs
      rw [hs] at hst
      unfold aP at hst
      have hj:jS ρ pl k (aJ ρ L pl k)=(nmM ρ k (aJ ρ L pl k)).toNat:=by
        rcases Nat.lt_or_ge (jS ρ pl k (aJ ρ L pl k)) (nmM ρ k (aJ ρ L pl k)).toNat with h | h
        · rw [show Nat.blt (jS ρ pl k (aJ ρ L pl k)) (nmM ρ k (aJ ρ L pl k)).toNat=true from Nat.ble_eq_true_of_le h] at hst; cases hst
        · omega
      rw [nm5,nm6,nm7,nm8,nm9,s0,if_neg hkne,if_neg hkne,sm]
      refine ⟨fun j hj' hn=>js.2.1 j (by omega) ?_,?_⟩
      · rw [sm] at hn; exact (so _).1 hn
      · show (⟨(aJ ρ L pl (k + 1)).c,(aJ ρ L pl (k + 1)).w,(aJ ρ L pl (k + 1)).a,(aJ ρ L pl (k + 1)).f⟩:Mn)=_
        rw [← hj]; rfl
    · rw [beq] at hs
      have hkp:k=p:=of_decide_eq_true hs
      rw [hs] at hst
      unfold aP at hst
      have hj:jS ρ pl k (aJ ρ L pl k) < (nmM ρ k (aJ ρ L pl k)).toNat:=Nat.le_of_ble_eq_true hst
      refine ⟨jS ρ pl k (aJ ρ L pl k),by rw [nm5]; exact hj,?_,fun i hi hn=>js.2.1 i hi ?_,?_,?_⟩
      · rw [s0,sm]; exact (so _).2 (js.2.2 hj)
      · rw [s0,sm] at hn; exact (so _).1 hn
      · rw [nm8,if_pos hkp,s0,sm]; rfl
      · rw [nm9,if_pos hkp,s0,sm,hkp]; rfl
section
variable (ρ:Rho) (L:Nat) (pl:Nat→Int) (p:Nat)
theorem cPv_den:∀ n,(cPv n).den (bE ρ L pl p)=(aJ ρ L pl n).c
  | 0=>by
    rw [hap0c,(fY ρ L pl p).d]; rfl
  | j + 1=>nm6 ρ L pl p j
theorem wPv_den:∀ n,(wPv n).den (bE ρ L pl p)=(aJ ρ L pl n).w
  | 0=>by
    rw [hap0w,(fY ρ L pl p).d]; rfl
  | j + 1=>nm7 ρ L pl p j
theorem atH_den:∀ n,n≤p→(atH n).den (bE ρ L pl p)=(aJ ρ L pl n).a
  | 0,_=>by rw [hap0a]; rfl
  | j + 1,h=>(nm8 ρ L pl p j).trans (if_neg (by omega))
theorem fPv_den:∀ n,n≤p→(fPv L n).den (bE ρ L pl p)=(aJ ρ L pl n).f
  | 0,_=>by rw [hap0f]; rfl
  | j + 1,h=>(nm9 ρ L pl p j).trans (if_neg (by omega))
end
theorem fcHp_ok {L p:Nat} {pl:Nat→Int} {ρ:Rho} (hpl:∀ j,ρ.iv (540 + j)=pl j):∀ n,n≤nPt L p→∀ c ∈ fcHp L n,c.den (bE ρ L pl p)=true
  | 0,_,c,hc=>(List.not_mem_nil hc).elim
  | n + 1,hn,c,hc=>by
    have hnp:n≤p:=by
      unfold nPt at hn
      cases hb:Nat.blt p L with
      | true=>rw [hb,cond_true] at hn; omega
      | false =>
        rw [hb,cond_false] at hn
        have:¬ p < L:=fun h=>by rw [show Nat.blt p L=true from Nat.ble_eq_true_of_le h] at hb; cases hb
        omega
    simp only [fcHp,aI] at hc
    rcases List.mem_append.1 hc with hc | hc
    · have eC:=cPv_den ρ L pl p n
      have eW:=wPv_den ρ L pl p n
      have eA:=atH_den ρ L pl p n hnp
      have eF:=fPv_den ρ L pl p n hnp
      have n1:=nm1 ρ L pl p n
      have n2:=nm2 ρ L pl p n
      have n3:=nm3 ρ L pl p n
      have n4:=nm4 ρ L pl p n
      have n5:=nm5 ρ L pl p n
      have dd:=(fY ρ L pl p).d (aJ ρ L pl n).a (ρ.iv (30 + 4 * n)) (ρ.iv (31 + 4 * n))
      have i4:∀ j,(bE ρ L pl p).iv j=ρ.iv j:=fun _=>rfl
      generalize hS:aJ ρ L pl n=S at eC eW eA eF n1 n2 n3 n4 n5 dd
      generalize hR:bE ρ L pl p=R at eC eW eA eF n1 n2 n3 n4 n5 dd i4
      simp only [fc1,List.mem_cons,List.not_mem_nil,or_false] at hc
      rcases hc with rfl | rfl | rfl | rfl | rfl
      · rw [BE.t_eql]
        show mnI (R.iv 4) (wr ((cPv n).den R + wr (R.iv (540 + 2 * n) * R.iv 6)))=nmF R 9701 n
        rw [n1,eC,i4,i4,i4,hpl]; rfl
      · rw [BE.t_eql]
        show mnI (R.iv 5) (wr ((wPv n).den R + wr (R.iv (541 + 2 * n) * R.iv 7)))=nmF R 9702 n
        rw [n2,eW,i4,i4,i4,show 541 + 2 * n=540 + (2 * n + 1) by omega,hpl]; rfl
      · rw [BE.t_eql]
        show wr ((atH n).den R + 1)=nmF R 9703 n
        rw [n3,eA]; rfl
      · rw [BE.t_eql]
        show (fPv L n).den R=nmF R 9704 n
        rw [n4,eF]
      · rw [BE.t_eql]
        show drw R ((atH n).den R) (R.iv (30 + 4 * n)) (R.iv (31 + 4 * n))=nmF R 9705 n
        rw [n5,eA,i4,i4,← dd]; rfl
    · exact fcHp_ok hpl n (by omega) c hc
end Go.Sx
namespace Go.Sx
open Go.RowKit Go.Proofs
set_option maxRecDepth 100000
structure OkHp (nl:Bool) (L p:Nat) (ρ:Rho) (m:Nat→Obj→Prop):Prop where
  s:OkHs nl L p ρ m
  fc:∀ c ∈ fcHp L (nPt L p),c.den ρ=true
noncomputable def outHp (qb pb n L p:Nat):List (Nat × AObj):=cC (vH qb pb L) (newH n p (cellsH 9706 p) (cellsH 9707 p))
noncomputable def ckH (nl arr:Bool) (qb pb n L p:Nat):Bool:=and (ckHp nl arr qb pb n L p) (and (aW n (argsHp nl arr qb pb L)) (and (upA 0 (outHp qb pb n L p)) (Nat.ble 2000 n)))
section
variable {nl arr:Bool} {qb pb n L p:Nat}
theorem hap_said (h5:L≤5) (hck:ckH nl arr qb pb n L p=true):CallOk (aQ fun ρ m=>OkHp nl L p ρ m) 13 (argsHp nl arr qb pb L) (ah n (vH qb pb L)) (.ret (resH n L p,ah (nxH n p) (outHp qb pb n L p))):=by
  unfold ckH ckHp at hck
  simp only [Bool.and_eq_true] at hck
  obtain ⟨⟨hv,hck⟩,hid,hup,hn⟩:=hck
  have hn:=Nat.le_of_ble_eq_true hn
  have base:=hap_call (ok:=fun ρ m=>OkHp nl L p ρ m) (nl:=nl) (arr:=arr) (qb:=qb) (pb:=pb) (n:=n) (L:=L) (p:=p) h5 fun ρ m k=>k.s
  have hu:upA 0 (vH qb pb L)=true:=by
    unfold ba at hv
    simp only [Bool.and_eq_true] at hv
    exact hv.1
  have up:∀ g ∈ vH qb pb L,(ah n (vH qb pb L)).get g.1=some g.2:=aC n _ 0 hu
  have fr:CallOk (aQ fun ρ m=>OkHp nl L p ρ m) 13 (argsHp nl arr qb pb L) (ah n (vH qb pb L)) (runHp nl arr qb pb n L p):=base.frame (n:=n) (l:=vH qb pb L) (by omega) hid hv (fun g hg=>⟨g.2,up g hg,.refl _⟩) (by rw [aw]; exact Nat.le_refl _) nwH
  refine CallOk.read (p0:=aQ fun ρ m=>OkHp nl L p ρ m) (p:=aQ fun ρ m=>OkHp nl L p ρ m) rfl fr fun ρ b hb P hP=>⟨ρ,hb,SameL.refl _ _,⟨rfl,fun j o g=>⟨o,g,SameA.refl o⟩⟩,?_⟩
  obtain ⟨w,hw,_⟩:=hb
  have hw:OkHp nl L p ρ w:=hw
  refine dY (ρ:=ρ) (fun K r hK hr=>?_) _ _ (fw (fun c hc=>(List.not_mem_nil hc).elim) hw.fc) hck
  obtain ⟨s1,s2⟩:=fd (p0:=aQ fun ρ m=>OkHp nl L p ρ m) (p:=aQ fun ρ m=>OkHp nl L p ρ m) rfl rfl (ρ:=ρ) hr
  exact ⟨_,hP,s1,s2⟩
end
def SameW (p0 p:Par) (ρ0 ρ:Rho):List (Nat × AObj)→List (Nat × AObj)→Prop
  | [],[]=>True
  | a :: l,b :: m=>a.1=b.1∧SameA p0 p ρ0 a.2 ρ b.2∧SameW p0 p ρ0 ρ l m
  | _,_=>False
theorem SameW.mem {p0 p:Par} {ρ0 ρ:Rho}:∀ {l m:List (Nat × AObj)},SameW p0 p ρ0 ρ l m→∀ b ∈ m,∃ a ∈ l,a.1=b.1∧SameA p0 p ρ0 a.2 ρ b.2
  | [],[],_,b,hb=>(List.not_mem_nil hb).elim
  | [],_ :: _,h,_,_=>h.elim
  | _ :: _,[],h,_,_=>h.elim
  | a :: l,b :: m,⟨h1,h2,h3⟩,c,hc=>by
    rcases List.mem_cons.1 hc with rfl | hc
    · exact ⟨a,List.mem_cons_self,h1,h2⟩
    · obtain ⟨a',q1,q2,q3⟩:=SameW.mem h3 c hc
      exact ⟨a',List.mem_cons_of_mem _ q1,q2,q3⟩
theorem SameW.up {p0 p:Par} {ρ0 ρ:Rho}:∀ {l m:List (Nat × AObj)} (k:Nat),SameW p0 p ρ0 ρ l m→upA k l=upA k m
  | [],[],_,_=>rfl
  | [],_ :: _,_,h=>h.elim
  | _ :: _,[],_,h=>h.elim
  | a :: l,b :: m,k,⟨h1,_,h3⟩=>by simp only [upA,h1,SameW.up (b.1 + 1) h3]
theorem SameW.heap {p0 p:Par} {ρ0 ρ:Rho} {l m:List (Nat × AObj)} (h:SameW p0 p ρ0 ρ l m) (n:Nat) (hup:upA 0 l=true):SameH p0 p ρ0 (ah n l) ρ (ah n m):=by
  refine ⟨by rw [aw,aw],fun b o hg=>?_⟩
  obtain ⟨a,h1,h2,h3⟩:=h.mem _ (am _ _ _ _ hg)
  refine ⟨a.2,?_,h3⟩
  have:=aC n l 0 hup a h1
  rw [h2] at this
  exact this
theorem SameW.app {p0 p:Par} {ρ0 ρ:Rho}:∀ {l m l' m':List (Nat × AObj)},SameW p0 p ρ0 ρ l m→SameW p0 p ρ0 ρ l' m'→SameW p0 p ρ0 ρ (cC l l') (cC m m')
  | [],[],_,_,_,h=>h
  | [],_ :: _,_,_,h,_=>h.elim
  | _ :: _,[],_,_,h,_=>h.elim
  | _ :: _,_ :: _,_,_,⟨h1,h2,h3⟩,h=>⟨h1,h2,SameW.app h3 h⟩
noncomputable def aG (e:Nat→IE) (ρ:Rho):Rho:=⟨fun j=>if j < 60 then (e j).den ρ else ρ.iv j,ρ.bv,ρ.fi,ρ.fb,ρ.ov⟩
noncomputable def argsHx (e:Nat→IE) (nl arr:Bool) (qb pb L:Nat):List AV:=[.agg (bookX e (.sliceX qb 4 0 L)),plA arr pb L,btA nl]
noncomputable def vHx (e pE:Nat→IE) (qb pb L:Nat):List (Nat × AObj):=vC (vHl qb pb L (rowsX e L 30) (ff pE L 0))
noncomputable def cellsNm (nm o:Nat):Nat→List AV
  | 0=>[]
  | k + 1=>cC (cellsNm nm o k) [vi (nm + 2 * k + o)]
noncomputable def resHn (nm n p:Nat):AV:=.agg [lsH n p,lsH (n + 1) p,vi (nm + 20)]
noncomputable def outHn (e pE:Nat→IE) (nm qb pb n L p:Nat):List (Nat × AObj):=cC (vHx e pE qb pb L) (newH n p (cellsNm nm 0 p) (cellsNm nm 1 p))
structure HapNm (e pE:Nat→IE) (nm L p:Nat) (ρ:Rho):Prop where
  cs:∀ d ∈ csV L,d.den (aG e ρ)=true
  ok:HapOk L p (fun j=>(pE j).den ρ) (aG e ρ)
  c:∀ k,k < p→ρ.iv (nm + 2 * k)=(aJ (aG e ρ) L (fun j=>(pE j).den ρ) (k + 1)).c
  w:∀ k,k < p→ρ.iv (nm + 2 * k + 1)=(aJ (aG e ρ) L (fun j=>(pE j).den ρ) (k + 1)).w
  f:ρ.iv (nm + 20)=hapF (aG e ρ) L (fun j=>(pE j).den ρ) p
theorem okMn_iv {nl:Bool} {ρ ρ':Rho} {m:Nat→Obj→Prop} (hi:ρ'.fi=ρ.fi) (ho:ρ'.ov=ρ.ov) (h96:ρ'.iv 96=ρ.iv 96) (h:okMn nl ρ m):okMn nl ρ' m :=
  okMn_of hi (fun j hj=>by
    cases nl with
    | true=>exact (List.not_mem_nil hj).elim
    | false =>
      rcases List.mem_singleton.1 hj with rfl
      exact ⟨by rw [ho],h96⟩) h
theorem cellsH_same {ρ ρ':Rho} {nm o f:Nat}:∀ k,(∀ j,j < k→nmF ρ' f j=ρ.iv (nm + 2 * j + o))→SameL ρ' (cellsH f k) ρ (cellsNm nm o k)
  | 0,_=>SameL.nil
  | k + 1,h=>by
    have h1:=cellsH_same k fun j hj=>h j (by omega)
    have h2:SameL ρ' [.int .i64 (nmE f k)] ρ [vi (nm + 2 * k + o)]:=SameL.cons (SameV.int (h k (by omega))) SameL.nil
    intro σ κ n m rc rc'
    simp only [cellsH,cellsNm,aI]
    have app:∀ (E:Env) (l l':List AV),ad E (l ++ l')=(ad E l).bind fun a=>(ad E l').bind fun b=>some (a ++ b):=fun E l l'=>by
      induction l with
      | nil=>cases h:ad E l' <;> simp [ad,h]
      | cons x l ih =>
        rw [List.cons_append]
        simp only [ad,ih]
        cases af E x <;> cases ad E l <;> cases ad E l' <;> simp
    rw [app,app,h1 σ κ n m rc rc',h2 σ κ n m rc rc']
theorem lsH_same {ρ ρ':Rho} (b k:Nat):SameV ρ (lsH b k) ρ' (lsH b k):=by
  unfold lsH
  cases Nat.beq k 0 <;> exact fun _ _ _ _ _ _=>rfl
theorem vHl_same {p0 p:Par} (hP:p0.P=p.P) {ρ0 ρ:Rho} {qb pb L:Nat} {r r' pl pl':List AV} (h1:SameL ρ0 r ρ r') (h2:SameL ρ0 pl ρ pl'):SameW p0 p ρ0 ρ (vC (vHl qb pb L r pl)) (vC (vHl qb pb L r' pl')):=by
  unfold vHl
  cases Nat.blt qb pb
  · exact ⟨rfl,SameA.cells hP h2,rfl,SameA.cells hP h1,trivial⟩
  · exact ⟨rfl,SameA.cells hP h1,rfl,SameA.cells hP h2,trivial⟩
theorem newH_same {p0 p:Par} (hP:p0.P=p.P) {ρ0 ρ:Rho} {n k:Nat} {r r' pl pl':List AV} (h1:SameL ρ0 r ρ r') (h2:SameL ρ0 pl ρ pl'):SameW p0 p ρ0 ρ (newH n k r pl) (newH n k r' pl'):=by
  unfold newH
  cases Nat.beq k 0
  · exact ⟨rfl,SameA.cells hP h1,rfl,SameA.cells hP h2,trivial⟩
  · trivial
theorem hap_names {ok : Rho → (Nat → Obj → Prop) → Prop} {e pE : Nat → IE} {nl arr : Bool} {nm qb pb n L p : Nat} (h1 : 1 ≤ L) (h5 : L ≤ 5) (hck : ckH nl arr qb pb n L p = true) (hok : ∀ ρ m, ok ρ m → okMn nl ρ m ∧ HapNm e pE nm L p ρ) :
    CallOk (aQ ok) 13 (argsHx e nl arr qb pb L) (ah n (vHx e pE qb pb L)) (.ret (resHn nm n p,ah (nxH n p) (outHn e pE nm qb pb n L p))):=by
  refine CallOk.read (p0:=aQ fun ρ m=>OkHp nl L p ρ m) (p:=aQ ok) rfl (hap_said h5 hck) fun ρ b hb Q hQ=>?_
  obtain ⟨m,hm,hbm⟩:=hb
  obtain ⟨hmn,H⟩:=hok ρ m hm
  let ρ1:Rho:=⟨fun j=>if j < 60 then (e j).den ρ else if j < 540 then ρ.iv j else (pE (j - 540)).den ρ,ρ.bv,ρ.fi,ρ.fb,ρ.ov⟩
  let pl:Nat→Int:=fun j=>(pE j).den ρ
  have i60:∀ j,j < 60→(e j).den ρ=ρ1.iv j:=fun j hj=>(if_pos hj).symm
  have nm':∀ j,ρ1.iv (540 + j)=pl j:=fun j=>by
    show (if 540 + j < 60 then _ else if 540 + j < 540 then _ else (pE (540 + j - 540)).den ρ)=_
    rw [if_neg (by omega),if_neg (by omega),Nat.add_sub_cancel_left]
  have A:AgreeD (aG e ρ) ρ1:=⟨fun j hj=>(if_pos hj).trans (i60 j hj),fun _ _=>rfl,fun _ _ _=>rfl⟩
  have hmn1:okMn nl ρ1 m:=okMn_iv rfl rfl rfl hmn
  have cs1:∀ d ∈ csV L,d.den ρ1=true:=eY h5 A.iv H.cs
  have H1:HapOk L p pl ρ1:=⟨H.ok.le,fun k hk hkp=>by rw [← standsP_agree A (by omega)]; exact H.ok.st k hk hkp⟩
  have hle:=H.ok.le
  have okp:OkHp nl L p (bE ρ1 L pl p) m:=⟨okHs_of h5 hmn1 cs1 H1,fcHp_ok nm' _ (Nat.le_refl _)⟩
  have R:Reads e ρ (bE ρ1 L pl p):=⟨i60,fun _ _=>rfl⟩
  have rows:SameL ρ (rowsX e L 30) (bE ρ1 L pl p) (bf L 30):=dA R L 30 (by omega)
  have cells:SameL ρ (ff pE L 0) (bE ρ1 L pl p) (planN L 540):=fW L 0 fun j _ _=>(nm' j).symm
  have hck':=hck
  unfold ckH ckHp at hck'
  simp only [Bool.and_eq_true] at hck'
  obtain ⟨⟨hv,_⟩,_,hup,_⟩:=hck'
  have hu:upA 0 (vH qb pb L)=true:=by
    unfold ba at hv
    simp only [Bool.and_eq_true] at hv
    exact hv.1
  have w1:SameW (aQ ok) (aQ fun ρ m=>OkHp nl L p ρ m) ρ (bE ρ1 L pl p) (vHx e pE qb pb L) (vH qb pb L):=vHl_same (p0:=aQ ok) (p:=aQ fun ρ m=>OkHp nl L p ρ m) rfl rows cells
  have w2:SameW (aQ fun ρ m=>OkHp nl L p ρ m) (aQ ok) (bE ρ1 L pl p) ρ (outHp qb pb n L p) (outHn e pE nm qb pb n L p):=by
    refine SameW.app (vHl_same (p0:=aQ fun ρ m=>OkHp nl L p ρ m) (p:=aQ ok) rfl rows.symm cells.symm) (newH_same (p0:=aQ fun ρ m=>OkHp nl L p ρ m) (p:=aQ ok) rfl (cellsH_same p fun j hj=>?_) (cellsH_same p fun j hj=>?_))
    · rw [nm6,← cS A _ (by omega)]; exact (H.c j hj).symm
    · rw [nm7,← cS A _ (by omega)]; exact (H.w j hj).symm
  refine ⟨bE ρ1 L pl p,⟨m,okp,hbm⟩,?_,w1.heap n (by rw [w1.up]; exact hu),(resHn nm n p,ah (nxH n p) (outHn e pE nm qb pb n L p)),hQ,?_,w2.heap _ hup⟩
  · refine SameL.cons (eI R _ _ _ _) (SameL.cons (by cases arr <;> exact fun _ _ _ _ _ _=>rfl) (SameL.cons ?_ SameL.nil))
    cases nl with
    | true=>exact fun _ _ _ _ _ _=>rfl
    | false=>exact fun _ _ _ _ _ _=>rfl
  · refine SameV.agg (SameL.cons (lsH_same _ _) (SameL.cons (lsH_same _ _) (SameL.cons (SameV.int ?_) SameL.nil)))
    show nmF (bE ρ1 L pl p) 9709 (nPt L p - 1)=ρ.iv (nm + 20)
    rw [H.f,nm9,hapF_agree A h5]
    unfold nPt hapF
    cases hb:Nat.blt p L with
    | true =>
      have:=Nat.le_of_ble_eq_true hb
      rw [cond_true,if_pos (by omega),if_pos (by omega),show p + 1 - 1 + 1=p + 1 by omega]
    | false =>
      have:¬ p < L:=fun h=>by rw [show Nat.blt p L=true from Nat.ble_eq_true_of_le h] at hb; cases hb
      rw [cond_false,if_neg (by omega),if_neg this,show L - 1 + 1=L by omega]
noncomputable def hapGo (e pE:Nat→IE) (nl arr:Bool) (nm qb pb n L p:Nat) (args:List AV) (h:Heap):Option (T (AV × Heap)) :=
  cond (and (dg args (argsHx e nl arr qb pb L)) (and (fe (rowsX e L 30) (h.get qb)) (and (fe (ff pE L 0) (h.get pb)) (Nat.ble n h.next)))) (some ((T.ret (resHn nm n p,ah (nxH n p) (outHn e pE nm qb pb n L p))).bind fun r=>bV n (vHx e pE qb pb L) h (nwH r) r)) none
theorem vxUp_ids (e:Nat→IE) (N:Nat) (l:List AV):∀ n i,aW N (cC (vxUp e n i) l)=aW N l
  | 0,_=>rfl
  | n + 1,i=>by
    show aW N (vx e i :: cC (vxUp e n (i + 1)) l)=_
    simp only [aW,vxUp_ids e N l n (i + 1),vx,cP,Bool.true_and]
theorem hapGo_ok {ok : Rho → (Nat → Obj → Prop) → Prop} {e pE : Nat → IE} {nl arr : Bool} {nm qb pb n L p : Nat} (h1 : 1 ≤ L) (h5 : L ≤ 5) (hck : ckH nl arr qb pb n L p = true) (hok : ∀ ρ m, ok ρ m → okMn nl ρ m ∧ HapNm e pE nm L p ρ)
    {args:List AV} {h:Heap} {t:T (AV × Heap)} (k:hapGo e pE nl arr nm qb pb n L p args h=some t):CallOk (aQ ok) 13 args h t:=by
  unfold hapGo at k
  obtain ⟨hk,k1⟩:=ak k
  clear k
  simp only [Bool.and_eq_true] at hk
  obtain ⟨g1,g2,g3,g4⟩:=hk
  obtain rfl:=aZ _ _ g1
  obtain rfl:=Option.some.inj k1
  have hck':=hck
  unfold ckH ckHp at hck'
  simp only [Bool.and_eq_true] at hck'
  obtain ⟨⟨hv,_⟩,hid,_,hn⟩:=hck'
  have hn:=Nat.le_of_ble_eq_true hn
  have hid':aW n (argsHx e nl arr qb pb L)=true:=by
    unfold argsHp at hid
    unfold argsHx
    simp only [aW,cP,Bool.and_eq_true,bookX,vxUp_ids] at hid ⊢
    refine ⟨?_,hid.2⟩
    have h0:=hid.1
    have hb:aW n (eG (.sliceX qb 4 0 L))=aW n [.sliceX qb 4 0 L]:=rfl
    rw [hb] at h0
    simpa only [aW,cP,Bool.and_eq_true] using h0
  have hv':ba n (vHx e pE qb pb L)=true:=by
    have r1:=rowsX_ids e n L 30
    have r2:=io pE n L 0
    unfold vH vHl at hv
    unfold vHx vHl
    have cnd:∀ (c d:Bool),cond c d false=and c d:=fun c d=>by cases c <;> rfl
    cases hb:Nat.blt qb pb <;> rw [hb] at hv <;> simp only [cond_true,cond_false,vC,List.map_cons,List.map_nil,ba,upA,bz,idsO,r1,r2,cnd,Bool.and_eq_true,Bool.and_true] at hv ⊢
    · exact ⟨hv.1,hv.2.1.1,hv.2.2.1⟩
    · exact ⟨hv.1,hv.2.1.1,hv.2.2.1⟩
  refine (hap_names (ok:=ok) h1 h5 hck hok).frame (n:=n) (l:=vHx e pE qb pb L) (by omega) hid' hv' (fun g hg=>?_) (Nat.le_of_ble_eq_true g4) nwH
  unfold vHx vHl at hg
  cases hb:Nat.blt qb pb <;> rw [hb] at hg <;> simp only [cond_true,cond_false,vC,List.map_cons,List.map_nil,List.mem_cons,List.not_mem_nil,or_false] at hg
  · rcases hg with rfl | rfl
    · exact bH g3
    · exact bH g2
  · rcases hg with rfl | rfl
    · exact bH g2
    · exact bH g3
end Go.Sx
