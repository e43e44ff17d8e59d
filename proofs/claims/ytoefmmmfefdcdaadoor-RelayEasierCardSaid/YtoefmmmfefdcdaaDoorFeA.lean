/- FeA -/
import Derived.Test.YtoefmmmfefdcdaaDoorRyKF6
import Derived.Test.YtoefmmmfefdcdaaDoorEntL2x0
import Derived.Test.YtoefmmmfefdcdaaDoorSxAlias2
namespace Go.Sx
open Go.RowKit Go.Proofs
set_option maxRecDepth 100000
theorem ckF_all {L m:Nat} (h0:1≤L) (hL:L≤6) (hm:m < 2 ^ L):ckT consF L m=true:=by
  rcases six h0 hL with rfl | rfl | rfl | rfl | rfl | rfl
  · exact lAll_at kF1 (Nat.zero_le _) (by omega)
  · exact lAll_at kF2 (Nat.zero_le _) (by omega)
  · exact lAll_at kF3 (Nat.zero_le _) (by omega)
  · exact lAll_at kF4 (Nat.zero_le _) (by omega)
  · have h:m < 8∧0≤m ∨ m < 16∧8≤m ∨ m < 24∧16≤m ∨ m < 32∧24≤m:=by omega
    rcases h with h | h | h | h
    · exact lAll_at kF5_0 (by omega) (by omega)
    · exact lAll_at kF5_1 (by omega) (by omega)
    · exact lAll_at kF5_2 (by omega) (by omega)
    · exact lAll_at kF5_3 (by omega) (by omega)
  · have h:m < 8∧0≤m ∨ m < 16∧8≤m ∨ m < 24∧16≤m ∨ m < 32∧24≤m ∨ m < 40∧32≤m ∨ m < 48∧40≤m ∨ m < 56∧48≤m ∨ m < 64∧56≤m:=by omega
    rcases h with h | h | h | h | h | h | h | h
    · exact lAll_at kF6_0 (by omega) (by omega)
    · exact lAll_at kF6_1 (by omega) (by omega)
    · exact lAll_at kF6_2 (by omega) (by omega)
    · exact lAll_at kF6_3 (by omega) (by omega)
    · exact lAll_at kF6_4 (by omega) (by omega)
    · exact lAll_at kF6_5 (by omega) (by omega)
    · exact lAll_at kF6_6 (by omega) (by omega)
    · exact lAll_at kF6_7 (by omega) (by omega)
theorem cnt_six (m:Nat):cnt m≤6:=by
  have k:∀ i,(cond (bt m i) 1 0:Nat)≤1:=fun i=>by cases bt m i <;> simp
  unfold cnt
  have:=k 0; have:=k 1; have:=k 2; have:=k 3; have:=k 4; have:=k 5
  omega
theorem cnt_le' {L m:Nat} (hm:m < 2 ^ L):cnt m≤L:=by
  by_cases h:6≤L
  · exact Nat.le_trans (cnt_six m) h
  · rcases Nat.eq_zero_or_pos L with rfl | h0
    · have:m=0:=by omega
      subst this; exact Nat.le_of_eq rfl
    · exact cnt_le h0 (by omega) hm
theorem ltP_t {L m:Nat} (h:ltP L m=true):m < 2 ^ L:=ble_t.1 h
theorem del_lt {L m r:Nat} (h:m < 2 ^ L):del m r < 2 ^ L:=Nat.lt_of_le_of_lt (Nat.sub_le _ _) h
theorem consF_ok:ConsOk consF where
  b:=.inr (.inl rfl)
  ck L m h0 hL h _:=ckF_all h0 hL (ltP_t h)
  lt L m h:=ltP_t h
  sub L m r h _:=ble_t.2 (del_lt (ltP_t h))
  le L m h:=cnt_le' (ltP_t h)
  six L hL:=hL
  big:=by decide
  ids:=rfl
  ptrs:=rfl
  arr:=by decide
  up L xs _ _:=rfl
  pre L h0 hL:=by rcases six h0 hL with rfl | rfl | rfl | rfl | rfl | rfl <;> kernel_rfl
  suf L _ _:=by kernel_rfl
  fup f hf L cs _ _:=by cases hf; rfl
  fpl f hf L h0 hL:=by cases hf; rcases six h0 hL with rfl | rfl | rfl | rfl | rfl | rfl <;> kernel_rfl
end Go.Sx
namespace Go.Sx
open Go.RowKit Go.Proofs
set_option maxRecDepth 100000
theorem bk1 (k:Nat):RunL tb1 100 k [e1]:=⟨(lAll_cons (p:=Ent.run tb1 100) e1_run rfl)⟩
theorem bk8 (k:Nat):RunL tb1 100 k [e8,e12]:=⟨(lAll_cons (p:=Ent.run tb1 100) e8_run (lAll_cons (p:=Ent.run tb1 100) e12_run rfl))⟩
theorem bk9 (k:Nat):RunL tb1 100 k [e9]:=⟨(lAll_cons (p:=Ent.run tb1 100) e9_run rfl)⟩
theorem bk10 (k:Nat):RunL tb1 100 k [e10,e11,e13]:=⟨(lAll_cons (p:=Ent.run tb1 100) e10_run (lAll_cons (p:=Ent.run tb1 100) e11_run (lAll_cons (p:=Ent.run tb1 100) e13_run rfl)))⟩
noncomputable def ents2:PT (List Ent):=(.node (some [e10,e11,e13]) (.node none .nil (.node (some [e8,e12]) .nil .nil)) (.node none (.node (some [e1]) .nil .nil) (.node (some [e9]) .nil .nil)))
theorem ents2_run:ents2.Every (RunL tb1 100):=⟨ev1 (bk10 _),⟨ev0,trivial,⟨ev1 (bk8 _),trivial,trivial⟩⟩,⟨ev0,⟨ev1 (bk1 _),trivial,trivial⟩,⟨ev1 (bk9 _),trivial,trivial⟩⟩⟩
noncomputable def orc2 (f:FuncId) (args:List AV) (h:Heap):Option (T (AV × Heap)) :=
  match entPT 8 ents2 f args h with
  | some t=>some t
  | none=>orc1 f args h
theorem orc2_ok:∀ f args h t,orc2 f args h=some t→CallOk pT f args h t:=by
  intro f args h t e
  unfold orc2 at e
  split at e
  · rename_i u hu
    cases e
    exact entPT_ok tabs1 ents2_run hu
  · exact orc1_ok f args h t e
noncomputable def tb2:Tabs:=⟨Sx.Tryd.ft.get,lFind Sx.Tryd.rt,2000,orc2⟩
theorem tabs2:TabOk pT Sx.Tryd.tt.get tb2:=Tryd.tab orc2 orc2_ok 2000
end Go.Sx
namespace Go.Sx
open Go.RowKit Go.Proofs
set_option maxRecDepth 100000
noncomputable def filmQ (L:Nat):List (Nat × Int × Int) :=
  (0,1,20) :: (1,1,20) :: (2,0,50) :: (3,0,50) :: (4,1,6000) :: (@List.rec Nat (fun _=>List (Nat × Int × Int)) [] (fun r _ ih=>(10 + 6 * r,0,99) :: (11 + 6 * r,0,99) :: (12 + 6 * r,0,99) :: (13 + 6 * r,0,99) :: (14 + 6 * r,1,1200) :: (15 + 6 * r,1,1200) :: ih) (upN L 0))
noncomputable def leV (i j:Nat):BE:=.cmp .leq (.var i) (.var j)
noncomputable def filmC (L:Nat):List BE :=
  leV 0 1 :: leV 2 3 :: (@List.rec Nat (fun _=>List BE) [] (fun r _ ih=>leV (10 + 6 * r) (11 + 6 * r) :: leV (12 + 6 * r) (13 + 6 * r) :: leV (14 + 6 * r) (15 + 6 * r) :: leV (10 + 6 * r) (13 + 6 * r) :: ih) (upN L 0))
def okFilm (L:Nat) (ρ:Rho):Prop:=(∀ c ∈ ivC (filmQ L),c.den ρ=true)∧∀ c ∈ filmC L,c.den ρ=true
theorem okFilm_kn {L:Nat} {ρ:Rho} (h:okFilm L ρ):KnOk ρ (knOf (filmQ L) (filmC L)):=knOf_ok h.1 h.2
theorem CallOk.weak {P:Program} {RC:Nat→Nat→List Nat→Code→Code→Prop} {ok0 ok:Rho→(Nat→Obj→Prop)→Prop} (hw:∀ ρ m,ok ρ m→ok0 ρ m) {f:FuncId} {args:List AV} {h:Heap} {t:T (AV × Heap)} (hc:CallOk ⟨P,RC,ok0⟩ f args h t):CallOk ⟨P,RC,ok⟩ f args h t :=
  CallOk.read (p0:=⟨P,RC,ok0⟩) (p:=⟨P,RC,ok⟩) rfl hc fun ρ _ ⟨m,k1,k2⟩ _ k=>⟨ρ,⟨m,hw ρ m k1,k2⟩,SameL.refl _ _,⟨rfl,fun _ o g=>⟨o,g,SameA.refl o⟩⟩,T.holds_mono (fun r hr=>⟨r,hr,SameV.refl _ _,rfl,fun _ o g=>⟨o,g,SameA.refl o⟩⟩) k⟩
noncomputable def vK (L:Nat):List (Nat × AObj):=[(2,ro [li 1,li 20,li 0,li 50]),(3,ro [li 0,li 99,li 0,li 99,li 1,li 1200]),(1001,rowsA L)]
noncomputable def vK2 (L:Nat):List (Nat × AObj):=[(2,ro [li 1,li 20,li 0,li 50]),(3,ro [li 0,li 99,li 0,li 99,li 1,li 1200]),(1001,rowsA L),(2000,.umap (mU false))]
noncomputable def knowV (L b:Nat):AV:=.tup [filmK b L,ln 0]
noncomputable def pK (L:Nat):Par:=⟨Tryd.prog,rcOf Tryd.rows,fun ρ _=>okFilm L ρ⟩
theorem tabsK (L:Nat):TabOk (pK L) Sx.Tryd.tt.get tbA:=Tryd.tab (fun _ _ _=>none) (fun _ _ _ _ h=>by cases h) 2000
noncomputable def runK (L:Nat):T (AV × Heap):=(evalN tbA 100 false 57 [filmF L] (viewA 2000 (vK L))).bind fun r=>graftT 2000 (vK L) (viewA 2000 (vK L)) (match r.1 with | .tup (.agg cs :: _)=>(match listGet cs 6 with | some (.map b)=>[b] | _=>[]) | _=>[]) r
noncomputable def mapO (o:Option AObj):Bool :=
  match o with
  | some (.map [] 0)=>true
  | _=>false
theorem mapO_eq {o:Option AObj} (h:mapO o=true):o=some (.map [] 0):=by
  unfold mapO at h; split at h
  · rfl
  · cases h
noncomputable def endK (L:Nat) (_:Kn) (q:AV × Heap):Bool:=and (eqAV q.1 (knowV L 2000)) (and (mapO (q.2.get 2000)) (and (allO q.2 (vK L)) (Nat.beq q.2.next 2001)))
noncomputable def ckK (L:Nat):Bool:=allW [] (endK L) (runK L) (knOf (filmQ L) (filmC L))
theorem ckK1:ckK 1=true:=by kernel_rfl
theorem ckK2:ckK 2=true:=by kernel_rfl
theorem ckK3:ckK 3=true:=by kernel_rfl
theorem ckK4:ckK 4=true:=by kernel_rfl
theorem ckK5:ckK 5=true:=by kernel_rfl
theorem ckK6:ckK 6=true:=by kernel_rfl
end Go.Sx
namespace Go.Sx
open Go.RowKit Go.Proofs
set_option maxRecDepth 100000
noncomputable def glR:List (Nat × List AV):=[(0,[li 0,li 998,li 1,li 6]),(1,[li 0,li 3600,li 0,li 3600]),(2,[li 1,li 20,li 0,li 50]),(3,[li 0,li 99,li 0,li 99,li 1,li 1200])]
theorem carried_run:isTrue1 (evalN tb2 100 false 8 [] (globHeap glR))=true:=by kernel_rfl
theorem glR_lit:lAll (fun g:Nat × List AV=>and (Nat.ble (g.1 + 1) 1000) (lAll litVal g.2)) glR=true:=by kernel_rfl
theorem carried_orc {args:List AV} {h:Heap} {t:T (AV × Heap)} (e:closedOrc glR args h=some t):CallOk pT 8 args h t:=closedOrc_ok tabs2 carried_run glR_lit e
end Go.Sx
namespace Go.Sx
open Go.RowKit Go.Proofs
set_option maxRecDepth 100000
noncomputable def vi (n:Nat):AV:=.int .i64 (.var n)
noncomputable def big:IE:=.lit 9223372036854775807
noncomputable def turnC:CSpec:=⟨13,[vi 80,vi 81],[],2000,[.cmp .leq (.var 81) big],.ret (.int .i64 (.app 6 (.var 80) (.var 81) (.lit 0)))⟩
noncomputable def turnRun:T (AV × Heap):=evalN tb0 10 false 13 [vi 80,vi 81] (viewHeap 2000 [])
noncomputable def remE:IE:=.bin .rem .i64 (.var 80) (.var 81)
noncomputable def turnT:T AV:=.br (.cmp .lss (.var 81) (.lit 1)) (.ret (.int .i64 (.lit 0))) (.br (.cmp .neq (.var 81) (.lit 0)) (.br (.cmp .lss remE (.lit 0)) (.ret (.int .i64 (.bin .add .i64 remE (.var 81)))) (.ret (.int .i64 remE))) (.fail 10))
theorem turn_run:(turnRun.bind fun r=>.ret r.1)=turnT:=by kernel_rfl
theorem turn_den {n m:Int} (h1:¬ m < 1) (hm:m≤9223372036854775807):(n.tmod m < 0→IntKind.i64.wrap (n.tmod m + m)=turnF n m)∧(¬ n.tmod m < 0→n.tmod m=turnF n m):=by
  have e1:=Int.emod_nonneg n (show m ≠ 0 by omega)
  have e2:=Int.emod_lt_of_pos n (show 0 < m by omega)
  have e3:n.tmod m=n % m ∨ n.tmod m=n % m - m∧n % m ≠ 0:=by
    rw [Int.tmod_eq_emod]
    split
    · left; omega
    · rename_i hh
      right
      refine ⟨by omega,fun h0=>hh (.inr (Int.dvd_of_emod_eq_zero h0))⟩
  unfold turnF
  rw [if_neg h1]
  generalize n % m=r at *
  generalize n.tmod m=t at *
  constructor
  · intro h
    rw [IntWalk.i64_in _ (by omega)]; omega
  · intro h; omega
theorem turn_orc {p:Par} (hP:pT.P=p.P) {args:List AV} {h:Heap} {t:T (AV × Heap)} (ho:turnC.orc args h=some t):CallOk p 13 args h t:=by
  refine CSpec.okS (c:=turnC) (p0:=pT) (eval_ok tabs0 10 13 [vi 80,vi 81] _) (fun ρ hd P hP=>?_) (Nat.le_of_ble_eq_true rfl) ho hP
  have hd:=hd _ List.mem_cons_self
  rw [BE.t_leq] at hd
  have hd:ρ.iv 81≤9223372036854775807:=hd
  have hP:P (.int .i64 (.app 6 (.var 80) (.var 81) (.lit 0))):=hP
  show ((turnRun.bind fun r=>.ret r.1):T AV).Holds ρ _
  rw [turn_run]
  have hden:(IE.app 6 (.var 80) (.var 81) (.lit 0)).den ρ=turnF (ρ.iv 80) (ρ.iv 81):=rfl
  have fin:∀ e:IE,e.den ρ=turnF (ρ.iv 80) (ρ.iv 81)→∃ b,P b∧pureAV b=true∧SameE ρ (.int .i64 e) b:=fun e he =>
    ⟨_,hP,rfl,by intro E hE; simp only [conc,hE]; rw [he,hden]⟩
  unfold turnT
  simp only [T.Holds]
  split
  · rename_i h1
    rw [BE.t_lss] at h1
    refine fin _ ?_
    have h1:ρ.iv 81 < 1:=h1
    unfold turnF; rw [if_pos h1]; rfl
  · rename_i h1
    rw [BE.t_lss] at h1
    have h1:¬ ρ.iv 81 < 1:=h1
    obtain ⟨d1,d2⟩:=turn_den (n:=ρ.iv 80) h1 hd
    split
    · split
      · rename_i h2
        rw [BE.t_lss] at h2
        exact fin _ (d1 h2)
      · rename_i h2
        rw [BE.t_lss] at h2
        exact fin _ (d2 h2)
    · rename_i h3
      refine absurd ?_ h3
      show (ρ.iv 81 != 0)=true
      simp only [bne_iff_ne,ne_eq]; omega
end Go.Sx
namespace Go.Sx
open Go.RowKit Go.Proofs
set_option maxRecDepth 100000
theorem viewK_ok {L:Nat} (h0:1≤L) (hL:L≤6):viewOk 2000 (vK L)=true:=by
  rcases six h0 hL with rfl | rfl | rfl | rfl | rfl | rfl <;> kernel_rfl
theorem ckK_all {L:Nat} (h0:1≤L) (hL:L≤6):ckK L=true:=by
  rcases six h0 hL with rfl | rfl | rfl | rfl | rfl | rfl
  · exact ckK1
  · exact ckK2
  · exact ckK3
  · exact ckK4
  · exact ckK5
  · exact ckK6
noncomputable def nwK (r:AV × Heap):List Nat:=(match r.1 with | .tup (.agg cs :: _)=>(match listGet cs 6 with | some (.map b)=>[b] | _=>[]) | _=>[])
theorem know_said {L:Nat} (h0:1≤L) (hL:L≤6):CallOk (pK L) 57 [filmF L] (viewA 2000 (vK L)) (.ret (knowV L 2000,viewA 2001 (vK2 L))):=by
  have base:=eval_ok (tabsK L) 100 57 [filmF L] (viewA 2000 (vK L))
  have up:upA 0 (vK L)=true:=rfl
  have fr:CallOk (pK L) 57 [filmF L] (viewA 2000 (vK L)) (runK L):=base.frame (n:=2000) (l:=vK L) (by omega) rfl (viewK_ok h0 hL)
    (fun g hg=>⟨g.2,viewA_mem 2000 _ 0 up g hg,.refl _⟩) (by rw [viewA_next]; exact Nat.le_refl _) nwK
  refine CallOk.read rfl fr fun ρ b hok Q k=>⟨ρ,hok,SameL.refl _ _,⟨rfl,fun j o g=>⟨o,g,SameA.refl o⟩⟩,?_⟩
  obtain ⟨_,hA,_⟩:=hok
  have k:Q (knowV L 2000,viewA 2001 (vK2 L)):=k
  refine allW_ok (rules_nil ρ) (fun K q _ hq=>?_) (runK L) _ (okFilm_kn hA) (ckK_all h0 hL)
  unfold endK at hq
  simp only [Bool.and_eq_true] at hq
  obtain ⟨q1,q2,q3,q4⟩:=hq
  refine ⟨_,k,by rw [eqAV_eq _ _ q1]; exact SameV.refl _ _,(beq_t.1 q4).trans (viewA_next _ _).symm,fun j o g=>?_⟩
  have hm:=viewA_get _ _ _ _ g
  unfold vK2 at hm
  simp only [List.mem_cons,List.not_mem_nil,or_false] at hm
  rcases hm with h | h | h | h
  · exact ⟨o,allO_get q3 (by unfold vK; rw [h]; simp),SameA.refl o⟩
  · exact ⟨o,allO_get q3 (by unfold vK; rw [h]; simp),SameA.refl o⟩
  · exact ⟨o,allO_get q3 (by unfold vK; rw [h]; simp),SameA.refl o⟩
  · cases h; exact ⟨_,mapO_eq q2,SameA.empty rfl⟩
noncomputable def pF (L:Nat):Par:=⟨Tryd.prog,rcOf Tryd.rows,fun ρ _=>okT L ρ∧okFilm L ρ⟩
noncomputable def nwM (_:AV × Heap):List Nat:=[2000]
noncomputable def orcK (L:Nat) (args:List AV) (h:Heap):Option (T (AV × Heap)) :=
  cond (and (eqAVs args [filmF L]) (and (lessAll h (vK L)) (Nat.ble 2000 h.next))) (some ((T.ret (knowV L 2000,viewA 2001 (vK2 L))).bind fun r=>graftT 2000 (vK L) h (nwM r) r)) none
noncomputable def orcF (L:Nat) (f:FuncId) (args:List AV) (h:Heap):Option (T (AV × Heap)) :=
  cond (Nat.beq f 57) (orcK L args h) (orcL consF L 7 f args h)
noncomputable def tbF (L:Nat):Tabs:=⟨Sx.Tryd.ft.get,lFind Sx.Tryd.rt,2000,orcF L⟩
theorem tabsF {L:Nat} (h0:1≤L) (hL:L≤6):TabOk (pF L) Sx.Tryd.tt.get (tbF L):=by
  refine Tryd.tab (orcF L) (fun f args h t e=>?_) 2000
  unfold orcF at e
  cases h1:Nat.beq f 57 with
  | true =>
    rw [h1,cond_true] at e
    rw [beq_t.1 h1]
    unfold orcK at e
    obtain ⟨hc,e2⟩:=cond_some e
    clear e
    simp only [Bool.and_eq_true] at hc
    obtain ⟨i1,i2,i3⟩:=hc
    rw [eqAVs_eq _ _ i1]
    cases e2
    have hw:CallOk (pF L) 57 [filmF L] (viewA 2000 (vK L)) (.ret (knowV L 2000,viewA 2001 (vK2 L))):=CallOk.weak (fun ρ m h=>h.2) (know_said h0 hL)
    exact hw.frame (n:=2000) (by omega) rfl (viewK_ok h0 hL) (lessAll_ok i2) (ble_t.1 i3) nwM
  | false =>
    rw [h1,cond_false] at e
    exact CallOk.weak (fun ρ m h=>h.1) ((tabsTs consF_ok h0 hL 7).orc f args h t e)
noncomputable def fullM (L:Nat):Nat:=Nat.pow 2 L - 1
noncomputable def vF (L:Nat):List (Nat × AObj):=vK L ++ [(2000,.cells (lMap iA (ordL (fullM L) (.lit 0) (.lit 100))) 3 true true)]
noncomputable def nwFirst (r:AV × Heap):List Nat :=
  match r.1 with
  | .tup [.sliceX b _ _ _,_]=>[b]
  | .tup [.nilslice,_]=>[2001]
  | _=>[]
noncomputable def dumO:AObj:=.cells [.nilslice] 29 true false
noncomputable def vF0 (L:Nat):List (Nat × AObj):=vK L ++ [(2000,dumO)]
noncomputable def runF (L:Nat):T (AV × Heap):=(evalN (tbF L) 100 false 39 [filmF L] (viewA 2000 (vK L))).bind fun r=>graftT 2000 (vK L) (viewA 2000 (vK L)) (nwFirst r) r
noncomputable def noneVF:AV:=.tup [.nilslice,ln 4]
noncomputable def foundVF (L:Nat):AV:=.tup [.sliceX 2000 1 0 L,ln 0]
noncomputable def encF (L:Nat) (q:AV × Heap):AV :=
  match q.1 with
  | .tup [.nilslice,e]=>.tup [tag true,e,tag (and (allO q.2 (vF0 L)) (Nat.beq q.2.next 2001))]
  | v=>.tup [tag false,v,tag (and (allO q.2 (vK L)) (Nat.beq q.2.next 2001)),blkA (q.2.get 2000)]
noncomputable def expF (L:Nat):T AV :=
  .br (noneE (fullM L) (.lit 0) (.lit 100)) (.ret (.tup [tag true,ln 4,tag true])) (.ret (.tup [tag false,foundVF L,tag true,cellsB (ordL (fullM L) (.lit 0) (.lit 100)) true]))
noncomputable def ckFi (L:Nat):Bool:=eqTF ((runF L).bind fun q=>.ret (encF L q)) (expF L)
theorem ckFi1:ckFi 1=true:=by kernel_rfl
theorem ckFi2:ckFi 2=true:=by kernel_rfl
theorem ckFi3:ckFi 3=true:=by kernel_rfl
theorem ckFi4:ckFi 4=true:=by kernel_rfl
theorem ckFi5:ckFi 5=true:=by kernel_rfl
theorem ckFi6:ckFi 6=true:=by kernel_rfl
end Go.Sx
namespace Go.Sx
open Go.RowKit Go.Proofs
set_option maxRecDepth 100000
theorem ckFi_all {L:Nat} (h0:1≤L) (hL:L≤6):((runF L).bind fun q=>T.ret (encF L q))=expF L:=by
  refine eqTF_eq _ _ ?_
  rcases six h0 hL with rfl | rfl | rfl | rfl | rfl | rfl
  · exact ckFi1
  · exact ckFi2
  · exact ckFi3
  · exact ckFi4
  · exact ckFi5
  · exact ckFi6
noncomputable def saidF (L:Nat):T (AV × Heap):=.br (noneE (fullM L) (.lit 0) (.lit 100)) (.ret (noneVF,viewA 2001 (vF0 L))) (.ret (foundVF L,viewA 2001 (vF L)))
theorem encF_none {L:Nat} {q:AV × Heap} (h:encF L q=.tup [tag true,ln 4,tag true]):q.1=noneVF∧allO q.2 (vF0 L)=true∧q.2.next=2001:=by
  unfold encF at h
  split at h
  · rename_i e hv
    simp only [AV.tup.injEq,List.cons.injEq,and_true,true_and] at h
    obtain ⟨h1,h2⟩:=h
    simp only [tag,AV.bool.injEq,BE.lit.injEq,Bool.and_eq_true] at h2
    exact ⟨by rw [hv,h1]; rfl,h2.1,beq_t.1 h2.2⟩
  · simp at h
theorem encF_found {L:Nat} {q:AV × Heap} {cs:List IE} (h:encF L q=.tup [tag false,foundVF L,tag true,cellsB cs true]):q.1=foundVF L∧allO q.2 (vK L)=true∧q.2.next=2001∧q.2.get 2000=some (.cells (lMap iA cs) 3 true true):=by
  unfold encF at h
  split at h
  · simp at h
  · simp only [AV.tup.injEq,List.cons.injEq,and_true,true_and] at h
    obtain ⟨h1,h2,h3⟩:=h
    simp only [tag,AV.bool.injEq,BE.lit.injEq,Bool.and_eq_true] at h2
    exact ⟨h1,h2.1,beq_t.1 h2.2,blkA_some h3⟩
theorem first_said {L:Nat} (h0:1≤L) (hL:L≤6):CallOk (pF L) 39 [filmF L] (viewA 2000 (vK L)) (saidF L):=by
  have base:=eval_ok (tabsF h0 hL) 100 39 [filmF L] (viewA 2000 (vK L))
  have up:upA 0 (vK L)=true:=rfl
  have fr:CallOk (pF L) 39 [filmF L] (viewA 2000 (vK L)) (runF L):=base.frame (n:=2000) (l:=vK L) (by omega) rfl (viewK_ok h0 hL)
    (fun g hg=>⟨g.2,viewA_mem 2000 _ 0 up g hg,.refl _⟩) (by rw [viewA_next]; exact Nat.le_refl _) nwFirst
  refine CallOk.read rfl fr fun ρ b hok Q k=>⟨ρ,hok,SameL.refl _ _,⟨rfl,fun j o g=>⟨o,g,SameA.refl o⟩⟩,T.holds_enc (ckFi_all h0 hL) ?_⟩
  unfold saidF at k
  unfold expF
  simp only [T.Holds] at k ⊢
  split
  · rename_i hc
    rw [if_pos hc] at k
    intro r0 he
    obtain ⟨h1,h2,h3⟩:=encF_none he
    exact ⟨_,k,by rw [h1]; exact SameV.refl _ _,h3.trans (viewA_next _ _).symm,fun j o g=>⟨o,allO_get h2 (viewA_get _ _ _ _ g),SameA.refl o⟩⟩
  · rename_i hc
    rw [if_neg hc] at k
    intro r0 he
    obtain ⟨h1,h2,h3,h4⟩:=encF_found he
    refine ⟨_,k,by rw [h1]; exact SameV.refl _ _,h3.trans (viewA_next _ _).symm,fun j o g=>?_⟩
    have hm:=viewA_get _ _ _ _ g
    unfold vF at hm
    rcases List.mem_append.1 hm with hm | hm
    · exact ⟨o,allO_get h2 hm,SameA.refl o⟩
    · rw [List.mem_singleton] at hm
      cases hm
      exact ⟨_,h4,SameA.refl _⟩
end Go.Sx
namespace Go.Sx
open Go.RowKit Go.Proofs
set_option maxRecDepth 100000
noncomputable def smallO (n:Nat) (args0:List AV) (l:List (Nat × AObj)) (t:T (AV × Heap)) (nw:AV × Heap→List Nat) (args:List AV) (h:Heap):Option (T (AV × Heap)) :=
  cond (and (eqAVs args args0) (and (lessAll h l) (Nat.ble n h.next))) (some (t.bind fun r=>graftT n l h (nw r) r)) none
theorem smallO_ok {p : Par} {f : FuncId} {n : Nat} {args0 : List AV} {l : List (Nat × AObj)} {t : T (AV × Heap)} {nw : AV × Heap → List Nat} (hc : CallOk p f args0 (viewA n l) t) (hn : 1000 ≤ n) (ha : idsLts n args0 = true) (hv : viewOk n l = true)
    {args:List AV} {h:Heap} {u:T (AV × Heap)} (e:smallO n args0 l t nw args h=some u):CallOk p f args h u:=by
  unfold smallO at e
  obtain ⟨h1,e2⟩:=cond_some e
  clear e
  simp only [Bool.and_eq_true] at h1
  obtain ⟨i1,i2,i3⟩:=h1
  rw [eqAVs_eq _ _ i1]
  cases e2
  exact hc.frame (n:=n) hn ha hv (lessAll_ok i2) (ble_t.1 i3) nw
noncomputable def bookC (L:Nat):List AV:=[.sliceX 1001 6 0 L,vj 0,vj 1,vj 2,vj 3,vj 4,vj 60,vj 61,vj 62,vj 63,vj 64,vj 65]
noncomputable def bookF (L:Nat):AV:=.agg (bookC L)
noncomputable def vR (L:Nat):List (Nat × AObj):=[(0,ro [li 0,li 998,li 1,li 6]),(1,ro [li 0,li 3600,li 0,li 3600]),(2,ro [li 1,li 20,li 0,li 50]),(3,ro [li 0,li 99,li 0,li 99,li 1,li 1200]),(1001,rowsA L)]
noncomputable def bookQ:List (Nat × Int × Int):=[(60,0,998),(61,0,3600),(62,0,3600),(63,0,3600),(64,0,3600),(65,1,6)]
noncomputable def bookLe:List BE:=[leV 61 62,leV 63 64]
def okBook (ρ:Rho):Prop:=(∀ c ∈ ivC bookQ,c.den ρ=true)∧∀ c ∈ bookLe,c.den ρ=true
noncomputable def noneB (L:Nat):BE:=noneE (fullM L) (.lit 0) (.lit 100)
def okB (L:Nat) (ρ:Rho):Prop:=okT L ρ∧okFilm L ρ∧(noneB L).den ρ=false∧okBook ρ
noncomputable def pB (L:Nat):Par:=⟨Tryd.prog,rcOf Tryd.rows,fun ρ _=>okB L ρ⟩
theorem okBook_kn {ρ:Rho} (h:okBook ρ):KnOk ρ (knOf bookQ bookLe):=knOf_ok h.1 h.2
noncomputable def ordB (L:Nat):AObj:=.cells (lMap iA (ordL (fullM L) (.lit 0) (.lit 100))) 3 true true
theorem first_found {L:Nat} (h0:1≤L) (hL:L≤6):CallOk (pB L) 39 [filmF L] (viewA 2000 (vK L)) (.ret (foundVF L,viewA 2001 (vF L))):=by
  refine CallOk.read (p0:=pF L) (p:=pB L) rfl (first_said h0 hL) fun ρ b ⟨m,k1,k2⟩ Q k=>⟨ρ,⟨m,⟨k1.1,k1.2.1⟩,k2⟩,SameL.refl _ _,⟨rfl,fun j o g=>⟨o,g,SameA.refl o⟩⟩,?_⟩
  have k:Q (foundVF L,viewA 2001 (vF L)):=k
  have hn:(noneE (fullM L) (.lit 0) (.lit 100)).den ρ=false:=k1.2.2.1
  unfold saidF
  simp only [T.Holds]
  rw [if_neg (by rw [hn]; exact Bool.false_ne_true)]
  exact ⟨_,k,SameV.refl _ _,rfl,fun j o g=>⟨o,g,SameA.refl o⟩⟩
noncomputable def mR (live:Bool):MU:=⟨3100,[(false,3101),(false,3102),(false,3103),(false,3104)],true,2,live⟩
noncomputable def kV (L b m:Nat):AV:=.agg (bookC L ++ [.sliceX b 1 0 L,.map m])
noncomputable def vKR (L:Nat) (live:Bool):List (Nat × AObj):=vR L ++ [(2000,ordB L),(2001,.umap (mR live))]
noncomputable def orcKR (L:Nat) (f:FuncId) (args:List AV) (h:Heap):Option (T (AV × Heap)) :=
  cond (Nat.beq f 39) (smallO 2000 [filmF L] (vK L) (.ret (foundVF L,viewA 2001 (vF L))) (fun _=>[2000]) args h) none
noncomputable def tbKR (L:Nat):Tabs:=⟨Sx.Tryd.ft.get,lFind Sx.Tryd.rt,2000,orcKR L⟩
noncomputable abbrev pOk (ok:Rho→(Nat→Obj→Prop)→Prop):Par:=⟨Tryd.prog,rcOf Tryd.rows,ok⟩
theorem orcFirst_ok {ok : Rho → (Nat → Obj → Prop) → Prop} {L : Nat} (hok : ∀ ρ m, ok ρ m → okB L ρ) (h0 : 1 ≤ L) (hL : L ≤ 6) {args : List AV} {h : Heap} {t : T (AV × Heap)}
    (e:smallO 2000 [filmF L] (vK L) (.ret (foundVF L,viewA 2001 (vF L))) (fun _=>[2000]) args h=some t):CallOk (pOk ok) 39 args h t :=
  smallO_ok (CallOk.weak (ok0:=fun ρ _=>okB L ρ) hok (first_found h0 hL)) (by omega) rfl (viewK_ok h0 hL) e
theorem tabsKR {L:Nat} (h0:1≤L) (hL:L≤6):TabOk (pB L) Sx.Tryd.tt.get (tbKR L):=by
  refine Tryd.tab (orcKR L) (fun f args h t e=>?_) 2000
  unfold orcKR at e
  obtain ⟨h1,e⟩:=cond_some e
  rw [beq_t.1 h1]
  exact orcFirst_ok (ok:=fun ρ _=>okB L ρ) (fun _ _ h=>h) h0 hL e
noncomputable def nwKR (r:AV × Heap):List Nat:=match r.1 with
  | .tup (.agg cs :: _)=>(match listGet cs 12,listGet cs 13 with
    | some (.sliceX b _ _ _),some (.map m)=>[b,m]
    | _,_=>[])
  | _=>[]
noncomputable def runKR (L:Nat):T (AV × Heap):=(evalN (tbKR L) 100 false 18 [bookF L] (viewA 2000 (vR L))).bind fun r=>graftT 2000 (vR L) (viewA 2000 (vR L)) (nwKR r) r
noncomputable def knowVR (L:Nat):AV:=.tup [kV L 2000 2001,ln 0]
noncomputable def endKR (L:Nat) (_:Kn) (q:AV × Heap):Bool:=and (eqAV q.1 (knowVR L)) (and (mapO (q.2.get 2001)) (and (isO (q.2.get 2000) (ordB L)) (and (allO q.2 (vR L)) (Nat.beq q.2.next 2002))))
noncomputable def ckKR (L:Nat):Bool:=allW [] (endKR L) (runKR L) (knOf bookQ bookLe)
theorem ckKR1:ckKR 1=true:=by kernel_rfl
theorem ckKR2:ckKR 2=true:=by kernel_rfl
theorem ckKR3:ckKR 3=true:=by kernel_rfl
theorem ckKR4:ckKR 4=true:=by kernel_rfl
theorem ckKR5:ckKR 5=true:=by kernel_rfl
theorem ckKR6:ckKR 6=true:=by kernel_rfl
theorem viewR_ok {L:Nat} (h0:1≤L) (hL:L≤6):viewOk 2000 (vR L)=true:=by
  rcases six h0 hL with rfl | rfl | rfl | rfl | rfl | rfl <;> kernel_rfl
theorem ckKR_all {L:Nat} (h0:1≤L) (hL:L≤6):ckKR L=true:=by
  rcases six h0 hL with rfl | rfl | rfl | rfl | rfl | rfl
  · exact ckKR1
  · exact ckKR2
  · exact ckKR3
  · exact ckKR4
  · exact ckKR5
  · exact ckKR6
theorem mR_nb (live:Bool):∀ q ∈ (mR live).fi,q.1=false:=by
  intro q hq
  simp only [mR,List.mem_cons,List.not_mem_nil,or_false] at hq
  rcases hq with rfl | rfl | rfl | rfl <;> rfl
theorem knowR_said {L:Nat} (h0:1≤L) (hL:L≤6):CallOk (pB L) 18 [bookF L] (viewA 2000 (vR L)) (.ret (knowVR L,viewA 2002 (vKR L false))):=by
  have base:=eval_ok (tabsKR h0 hL) 100 18 [bookF L] (viewA 2000 (vR L))
  have up:upA 0 (vR L)=true:=rfl
  have fr:CallOk (pB L) 18 [bookF L] (viewA 2000 (vR L)) (runKR L):=base.frame (n:=2000) (l:=vR L) (by omega) rfl (viewR_ok h0 hL)
    (fun g hg=>⟨g.2,viewA_mem 2000 _ 0 up g hg,.refl _⟩) (by rw [viewA_next]; exact Nat.le_refl _) nwKR
  refine CallOk.read rfl fr fun ρ b hok Q k=>⟨ρ,hok,SameL.refl _ _,⟨rfl,fun j o g=>⟨o,g,SameA.refl o⟩⟩,?_⟩
  obtain ⟨_,hA,_⟩:=hok
  have hA:okB L ρ:=hA
  have k:Q (knowVR L,viewA 2002 (vKR L false)):=k
  refine allW_ok (rules_nil ρ) (fun K q _ hq=>?_) (runKR L) _ (okBook_kn hA.2.2.2) (ckKR_all h0 hL)
  unfold endKR at hq
  simp only [Bool.and_eq_true] at hq
  obtain ⟨q1,q2,q3,q4,q5⟩:=hq
  refine ⟨_,k,by rw [eqAV_eq _ _ q1]; exact SameV.refl _ _,(beq_t.1 q5).trans (viewA_next _ _).symm,fun j o g=>?_⟩
  have hm:=viewA_get _ _ _ _ g
  unfold vKR at hm
  rcases List.mem_append.1 hm with hm | hm
  · exact ⟨o,allO_get q4 hm,SameA.refl o⟩
  · simp only [List.mem_cons,List.not_mem_nil,or_false] at hm
    rcases hm with h | h
    · cases h; exact ⟨_,isO_eq q3,SameA.refl _⟩
    · cases h; exact ⟨_,mapO_eq q2,SameA.empty rfl⟩
end Go.Sx
namespace Go.Sx
open Go.RowKit Go.Proofs
set_option maxRecDepth 100000
noncomputable def vL1 (L o:Nat):List (Nat × AObj):=vK L ++ [(2000,ro [ln o])]
noncomputable def loE (o:Nat) (x:IE):IE:=.bin .mul .i64 (.bin .add .i64 (.lit 0) (.mx (.lit 0) (.bin .sub .i64 (.var (14 + 6 * o)) (.bin .mul .i64 x (.var 3))))) (.var 0)
noncomputable def hiE (o:Nat) (x:IE):IE:=.bin .mul .i64 (.bin .add .i64 (.lit 0) (.mx (.lit 0) (.bin .sub .i64 (.var (15 + 6 * o)) (.bin .mul .i64 x (.var 2))))) (.var 1)
noncomputable def lastV (a b:IE):AV:=.tup [.agg [iA a,iA b],ln 0]
noncomputable def orcK2 (L:Nat) (f:FuncId) (args:List AV) (h:Heap):Option (T (AV × Heap)) :=
  cond (Nat.beq f 57) (orcK L args h) none
noncomputable def tbK2 (L:Nat):Tabs:=⟨Sx.Tryd.ft.get,lFind Sx.Tryd.rt,2000,orcK2 L⟩
noncomputable def pLs (L:Nat):Par:=⟨Tryd.prog,rcOf Tryd.rows,fun ρ _=>okFilm L ρ∧0≤ρ.iv 500∧ρ.iv 500≤999⟩
theorem tabsK2 {L:Nat} (h0:1≤L) (hL:L≤6):TabOk (pLs L) Sx.Tryd.tt.get (tbK2 L):=by
  refine Tryd.tab (orcK2 L) (fun f args h t e=>?_) 2000
  unfold orcK2 at e
  obtain ⟨h1,e⟩:=cond_some e
  rw [beq_t.1 h1]
  unfold orcK at e
  obtain ⟨hc,e2⟩:=cond_some e
  clear e
  simp only [Bool.and_eq_true] at hc
  obtain ⟨i1,i2,i3⟩:=hc
  rw [eqAVs_eq _ _ i1]
  cases e2
  have hw:CallOk (pLs L) 57 [filmF L] (viewA 2000 (vK L)) (.ret (knowV L 2000,viewA 2001 (vK2 L))):=CallOk.weak (fun ρ m h=>h.1) (know_said h0 hL)
  exact hw.frame (n:=2000) (by omega) rfl (viewK_ok h0 hL) (lessAll_ok i2) (ble_t.1 i3) nwM
noncomputable def argsLs (L:Nat) (x:IE):List AV:=[filmF L,.slice 2000 0 1 1,iA x]
noncomputable def runLs (L o:Nat):T (AV × Heap):=(evalN (tbK2 L) 100 false 80 (argsLs L (.var 500)) (viewA 2001 (vL1 L o))).bind fun r=>graftT 2001 (vL1 L o) (viewA 2001 (vL1 L o)) [] r
noncomputable def endLs (L o:Nat) (_:Kn) (q:AV × Heap):Bool:=and (eqAV q.1 (lastV (loE o (.var 500)) (hiE o (.var 500)))) (and (allO q.2 (vL1 L o)) (Nat.beq q.2.next 2001))
noncomputable def ckLs (L:Nat):Bool:=lAll (fun o=>and (viewOk 2001 (vL1 L o)) (allW [] (endLs L o) (runLs L o) (knOf [(500,0,999)] []))) (upN L 0)
theorem ckLs1:ckLs 1=true:=by kernel_rfl
theorem ckLs2:ckLs 2=true:=by kernel_rfl
theorem ckLs3:ckLs 3=true:=by kernel_rfl
theorem ckLs4:ckLs 4=true:=by kernel_rfl
theorem ckLs5:ckLs 5=true:=by kernel_rfl
theorem ckLs6:ckLs 6=true:=by kernel_rfl
theorem ckLs_all {L o:Nat} (h0:1≤L) (hL:L≤6) (ho:o < L):and (viewOk 2001 (vL1 L o)) (allW [] (endLs L o) (runLs L o) (knOf [(500,0,999)] []))=true:=by
  have h:ckLs L=true:=by
    rcases six h0 hL with rfl | rfl | rfl | rfl | rfl | rfl
    · exact ckLs1
    · exact ckLs2
    · exact ckLs3
    · exact ckLs4
    · exact ckLs5
    · exact ckLs6
  exact lAll_at h (Nat.zero_le _) (by omega)
theorem lasts_var {L o:Nat} (h0:1≤L) (hL:L≤6) (ho:o < L):CallOk (pLs L) 80 (argsLs L (.var 500)) (viewA 2001 (vL1 L o)) (.ret (lastV (loE o (.var 500)) (hiE o (.var 500)),viewA 2001 (vL1 L o))):=by
  have hck:=ckLs_all h0 hL ho
  rw [Bool.and_eq_true] at hck
  have base:=eval_ok (tabsK2 h0 hL) 100 80 (argsLs L (.var 500)) (viewA 2001 (vL1 L o))
  have up:upA 0 (vL1 L o)=true:=rfl
  have fr:CallOk (pLs L) 80 (argsLs L (.var 500)) (viewA 2001 (vL1 L o)) (runLs L o):=base.frame (n:=2001) (l:=vL1 L o) (by omega) rfl hck.1
    (fun g hg=>⟨g.2,viewA_mem 2001 _ 0 up g hg,.refl _⟩) (by rw [viewA_next]; exact Nat.le_refl _) (fun _=>[])
  refine CallOk.read (p0:=pLs L) (p:=pLs L) rfl fr fun ρ b hok Q k=>⟨ρ,hok,SameL.refl _ _,⟨rfl,fun j o g=>⟨o,g,SameA.refl o⟩⟩,?_⟩
  obtain ⟨_,hA,_⟩:=hok
  have k:Q (lastV (loE o (.var 500)) (hiE o (.var 500)),viewA 2001 (vL1 L o)):=k
  refine allW_ok (rules_nil ρ) (fun K q _ hq=>?_) (runLs L o) _ (knOf_ok (fun c hc=>?_) (fun c hc=>by cases hc)) hck.2
  · unfold endLs at hq
    simp only [Bool.and_eq_true] at hq
    obtain ⟨q1,q2,q3⟩:=hq
    exact ⟨_,k,by rw [eqAV_eq _ _ q1]; exact SameV.refl _ _,(beq_t.1 q3).trans (viewA_next _ _).symm,fun j o g=>⟨o,allO_get q2 (viewA_get _ _ _ _ g),SameA.refl o⟩⟩
  · simp only [ivC,List.mem_cons,List.not_mem_nil,or_false] at hc
    rcases hc with rfl | rfl
    · rw [BE.t_leq]; exact hA.2.1
    · rw [BE.t_leq]; exact hA.2.2
end Go.Sx
namespace Go.Sx
open Go.RowKit Go.Proofs
set_option maxRecDepth 100000
theorem less_part {h:Heap} {b:Nat} {cs l r:List AV} {k:Nat} (H:∃ o,h.get b=some o∧Less (ro (l ++ cs ++ r)) o) (hl:l.length=k):∃ o,h.get b=some o∧Part cs k o:=by
  obtain ⟨o,g,hl'⟩:=H
  refine ⟨o,g,?_⟩
  cases hl' with
  | refl=>exact ⟨_,_,_,_,rfl,l,r,rfl,hl⟩
  | read cs el own ext=>exact ⟨_,_,_,_,rfl,l,r,rfl,hl⟩
theorem less_part0 {h:Heap} {b:Nat} {cs:List AV} (H:∃ o,h.get b=some o∧Less (ro cs) o):∃ o,h.get b=some o∧Part cs 0 o :=
  less_part (l:=[]) (r:=[]) (by simpa using H) rfl
theorem ids0:∀ l:List Nat,idsLts 0 (lMap vj l)=true
  | []=>rfl
  | _ :: l=>ids0 l
theorem SameV.tup {ρ ρ':Rho} {l l':List AV} (h:SameL ρ l ρ' l'):SameV ρ (.tup l) ρ' (.tup l'):=fun σ κ n m rc rc'=>by simp only [conc,h σ κ n m rc rc']
theorem SameL.symm {ρ ρ':Rho} {l l':List AV} (h:SameL ρ l ρ' l'):SameL ρ' l' ρ l:=fun σ κ n m rc rc'=>(h σ κ m n rc' rc).symm
def loZ (ρ:Rho) (o:Nat) (x:Int):Int:=max 0 (ρ.iv (14 + 6 * o) - x * ρ.iv 3) * ρ.iv 0
def hiZ (ρ:Rho) (o:Nat) (x:Int):Int:=max 0 (ρ.iv (15 + 6 * o) - x * ρ.iv 2) * ρ.iv 1
theorem ivC_in {l:List (Nat × Int × Int)} {ρ:Rho} (h:∀ c ∈ ivC l,c.den ρ=true):∀ q ∈ l,q.2.1≤ρ.iv q.1∧ρ.iv q.1≤q.2.2:=by
  induction l with
  | nil=>intro q hq; cases hq
  | cons a l ih =>
    intro q hq
    simp only [ivC,List.mem_cons] at h
    rcases List.mem_cons.1 hq with rfl | hq
    · exact ⟨BE.t_leq.1 (h _ (.inl rfl)),BE.t_leq.1 (h _ (.inr (.inl rfl)))⟩
    · exact ih (fun c hc=>h c (.inr (.inr hc))) q hq
structure FilmZ (L:Nat) (ρ:Rho):Prop where
  turn:1≤ρ.iv 0∧ρ.iv 0≤ρ.iv 1∧ρ.iv 1≤20
  tear:0≤ρ.iv 2∧ρ.iv 2≤ρ.iv 3∧ρ.iv 3≤50
  feet:∀ r,r < L→1≤ρ.iv (14 + 6 * r)∧ρ.iv (14 + 6 * r)≤ρ.iv (15 + 6 * r)∧ρ.iv (15 + 6 * r)≤1200
theorem filmZ {L:Nat} {ρ:Rho} (h:okFilm L ρ):FilmZ L ρ:=by
  obtain ⟨h1,h2⟩:=h
  have q:=ivC_in h1
  have m:∀ {a:Nat × Int × Int},a ∈ filmQ L→a ∈ filmQ L:=fun h=>h
  have q0:=q (0,1,20) (by simp [filmQ])
  have q1:=q (1,1,20) (by simp [filmQ])
  have q2:=q (2,0,50) (by simp [filmQ])
  have q3:=q (3,0,50) (by simp [filmQ])
  have l0:=BE.t_leq.1 (h2 (leV 0 1) (by simp [filmC]))
  have l2:=BE.t_leq.1 (h2 (leV 2 3) (by simp [filmC]))
  simp only [IE.den_var] at l0 l2 q0 q1 q2 q3
  refine ⟨⟨q0.1,l0,q1.2⟩,⟨q2.1,l2,q3.2⟩,fun r hr=>?_⟩
  have rows : ∀ (l : List Nat), r ∈ l → (14 + 6 * r, (1 : Int), (1200 : Int)) ∈ (@List.rec Nat (fun _ => List (Nat × Int × Int)) [] (fun r _ ih => (10 + 6 * r, 0, 99) :: (11 + 6 * r, 0, 99) :: (12 + 6 * r, 0, 99) :: (13 + 6 * r, 0, 99) :: (14 + 6 * r, 1, 1200) :: (15 + 6 * r, 1, 1200) :: ih) l) ∧
      (15 + 6 * r,(1:Int),(1200:Int)) ∈ (@List.rec Nat (fun _=>List (Nat × Int × Int)) [] (fun r _ ih=>(10 + 6 * r,0,99) :: (11 + 6 * r,0,99) :: (12 + 6 * r,0,99) :: (13 + 6 * r,0,99) :: (14 + 6 * r,1,1200) :: (15 + 6 * r,1,1200) :: ih) l) ∧
      leV (14 + 6 * r) (15 + 6 * r) ∈ (@List.rec Nat (fun _=>List BE) [] (fun r _ ih=>leV (10 + 6 * r) (11 + 6 * r) :: leV (12 + 6 * r) (13 + 6 * r) :: leV (14 + 6 * r) (15 + 6 * r) :: leV (10 + 6 * r) (13 + 6 * r) :: ih) l):=by
    intro l
    induction l with
    | nil=>intro h; cases h
    | cons a l ih =>
      intro h
      rcases List.mem_cons.1 h with rfl | h
      · refine ⟨?_,?_,?_⟩ <;> simp
      · obtain ⟨i1,i2,i3⟩:=ih h
        exact ⟨List.mem_cons_of_mem _ (List.mem_cons_of_mem _ (List.mem_cons_of_mem _ (List.mem_cons_of_mem _ (List.mem_cons_of_mem _ (List.mem_cons_of_mem _ i1))))),List.mem_cons_of_mem _ (List.mem_cons_of_mem _ (List.mem_cons_of_mem _ (List.mem_cons_of_mem _ (List.mem_cons_of_mem _ (List.mem_cons_of_mem _ i2))))),
          List.mem_cons_of_mem _ (List.mem_cons_of_mem _ (List.mem_cons_of_mem _ (List.mem_cons_of_mem _ i3)))⟩
  obtain ⟨i1,i2,i3⟩:=rows (upN L 0) (mem_upN L 0 r (Nat.zero_le _) (by omega))
  have a1:=q _ (List.mem_cons_of_mem _ (List.mem_cons_of_mem _ (List.mem_cons_of_mem _ (List.mem_cons_of_mem _ (List.mem_cons_of_mem _ i1)))))
  have a2:=q _ (List.mem_cons_of_mem _ (List.mem_cons_of_mem _ (List.mem_cons_of_mem _ (List.mem_cons_of_mem _ (List.mem_cons_of_mem _ i2)))))
  have a3:=BE.t_leq.1 (h2 _ (List.mem_cons_of_mem _ (List.mem_cons_of_mem _ i3)))
  simp only [IE.den_var] at a1 a2 a3
  exact ⟨a1.1,a3,a2.2⟩
theorem mul_in {a b A B:Int} (h1:0≤a) (h2:a≤A) (h3:0≤b) (h4:b≤B):0≤a * b∧a * b≤A * B :=
  ⟨Int.mul_nonneg h1 h3,Int.mul_le_mul h2 h4 h3 (Int.le_trans h1 h2)⟩
theorem lastZ_in {L:Nat} {ρ:Rho} (H:FilmZ L ρ) {o:Nat} (ho:o < L) {x:Int} (h0:0≤x) (hx:x≤999):0≤loZ ρ o x∧loZ ρ o x≤hiZ ρ o x∧hiZ ρ o x≤24000:=by
  obtain ⟨t1,t2,t3⟩:=H.turn
  obtain ⟨u1,u2,u3⟩:=H.tear
  obtain ⟨f1,f2,f3⟩:=H.feet o ho
  have a1:=mul_in h0 hx u1 (Int.le_trans u2 u3)
  have a2:x * ρ.iv 2≤x * ρ.iv 3:=Int.mul_le_mul_of_nonneg_left u2 h0
  have m1:(0:Int)≤max 0 (ρ.iv (14 + 6 * o) - x * ρ.iv 3):=Int.le_max_left _ _
  have m2:max 0 (ρ.iv (14 + 6 * o) - x * ρ.iv 3)≤max 0 (ρ.iv (15 + 6 * o) - x * ρ.iv 2):=by omega
  have m3:max 0 (ρ.iv (15 + 6 * o) - x * ρ.iv 2)≤1200:=by omega
  refine ⟨Int.mul_nonneg m1 (by omega),Int.mul_le_mul m2 t2 (by omega) (by omega),?_⟩
  exact (mul_in (by omega:0≤max 0 (ρ.iv (15 + 6 * o) - x * ρ.iv 2)) m3 (by omega:0≤ρ.iv 1) t3).2
theorem loE_den {L:Nat} {ρ:Rho} (H:FilmZ L ρ) {o:Nat} (ho:o < L) {x:IE} (h0:0≤x.den ρ) (hx:x.den ρ≤999):(loE o x).den ρ=loZ ρ o (x.den ρ)∧(hiE o x).den ρ=hiZ ρ o (x.den ρ):=by
  obtain ⟨t1,t2,t3⟩:=H.turn
  obtain ⟨u1,u2,u3⟩:=H.tear
  obtain ⟨f1,f2,f3⟩:=H.feet o ho
  have a1:=mul_in h0 hx (Int.le_trans u1 u2) u3
  have a2:=mul_in h0 hx u1 (Int.le_trans u2 u3)
  have m:=lastZ_in H ho h0 hx
  unfold loE hiE
  simp only [IE.den_mul,IE.den_add,IE.den_sub,IE.den_mx,IE.den_lit,IE.den_var]
  unfold loZ hiZ at *
  have w1:IntKind.i64.wrap (x.den ρ * ρ.iv 3)=x.den ρ * ρ.iv 3:=wrap_sm (by omega) (by omega)
  have w2:IntKind.i64.wrap (x.den ρ * ρ.iv 2)=x.den ρ * ρ.iv 2:=wrap_sm (by omega) (by omega)
  have w3:IntKind.i64.wrap (ρ.iv (14 + 6 * o) - x.den ρ * ρ.iv 3)=ρ.iv (14 + 6 * o) - x.den ρ * ρ.iv 3:=wrap_sm (by omega) (by omega)
  have w4:IntKind.i64.wrap (ρ.iv (15 + 6 * o) - x.den ρ * ρ.iv 2)=ρ.iv (15 + 6 * o) - x.den ρ * ρ.iv 2:=wrap_sm (by omega) (by omega)
  rw [w1,w2,w3,w4]
  have w5:IntKind.i64.wrap (0 + max 0 (ρ.iv (14 + 6 * o) - x.den ρ * ρ.iv 3))=max 0 (ρ.iv (14 + 6 * o) - x.den ρ * ρ.iv 3):=by rw [Int.zero_add]; exact wrap_sm (by omega) (by omega)
  have w6:IntKind.i64.wrap (0 + max 0 (ρ.iv (15 + 6 * o) - x.den ρ * ρ.iv 2))=max 0 (ρ.iv (15 + 6 * o) - x.den ρ * ρ.iv 2):=by rw [Int.zero_add]; exact wrap_sm (by omega) (by omega)
  rw [w5,w6]
  exact ⟨wrap_sm (by omega) (by omega),wrap_sm (by omega) (by omega)⟩
noncomputable def oB (L j:Nat):IE:=ordE (fullM L) (.lit 0) (.lit 100) j
theorem ordF_in {L:Nat} {ρ:Rho} (hL:L≤6):∀ (k m:Nat) (a b:Int),m < 2 ^ L→∀ z ∈ ordF ρ k m a b,0≤z∧z < L
  | 0,_,_,_,_,z,hz=>by cases hz
  | k + 1,m,a,b,hm,z,hz=>by
    simp only [ordF] at hz
    split at hz
    · rename_i r hr
      have hr':=List.mem_of_find?_eq_some hr
      obtain ⟨q1,q2,_,_⟩:=(facts_of hL hm).1 r hr'
      rcases List.mem_cons.1 hz with rfl | hz
      · omega
      · exact ordF_in hL k _ _ _ q2 z hz
    · cases hz
theorem fullM_lt {L:Nat}:fullM L < 2 ^ L:=by
  unfold fullM
  have:0 < 2 ^ L:=Nat.two_pow_pos L
  show 2 ^ L - 1 < 2 ^ L
  omega
theorem oB_in {L:Nat} (h0:1≤L) (hL:L≤6) {ρ:Rho} (h:okT L ρ) {j:Nat} (hj:j < L):0≤(oB L j).den ρ∧(oB L j).den ρ < L:=by
  unfold oB
  rw [ord_den h fullM_lt _ _ (by omega)]
  rw [List.getD_eq_getElem?_getD]
  cases hg:(ordF ρ (cnt (fullM L)) (fullM L) ((IE.lit 0).den ρ) ((IE.lit 100).den ρ))[j]? with
  | none=>simp only [Option.getD_none]; omega
  | some z =>
    simp only [Option.getD_some]
    exact ordF_in hL _ _ _ _ fullM_lt z (List.mem_of_getElem? hg)
def okN (L:Nat) (ρ:Rho):Prop:=∀ j t,j < L→t < 2→ρ.iv (100 + 4 * j + 2 * t)=loZ ρ ((oB L j).den ρ).toNat (ρ.iv 60 + t)∧ρ.iv (101 + 4 * j + 2 * t)=hiZ ρ ((oB L j).den ρ).toNat (ρ.iv 60 + t)
theorem shows_in {ρ:Rho} (h:okBook ρ):0≤ρ.iv 60∧ρ.iv 60≤998:=ivC_in h.1 (60,0,998) (by simp [bookQ])
theorem okN_in {L:Nat} (h0:1≤L) (hL:L≤6) {ρ:Rho} (h:okB L ρ) (hn:okN L ρ) {j t:Nat} (hj:j < L) (ht:t < 2):0≤ρ.iv (100 + 4 * j + 2 * t)∧ρ.iv (100 + 4 * j + 2 * t)≤ρ.iv (101 + 4 * j + 2 * t)∧ρ.iv (101 + 4 * j + 2 * t)≤24000:=by
  obtain ⟨e1,e2⟩:=hn j t hj ht
  rw [e1,e2]
  have ho:=oB_in h0 hL h.1 hj
  have hs:=shows_in h.2.2.2
  exact lastZ_in (filmZ h.2.1) (by omega) (by omega) (by omega)
theorem ofilm_over {L:Nat} (hL:L≤6) {ρ:Rho} (g:Nat→Int) (h:okFilm L ρ):okFilm L (ρ.over g):=by
  have e:∀ i,i < 500→(ρ.over g).iv i=ρ.iv i:=fun i hi=>over_lt hi
  refine ⟨fun c hc=>?_,fun c hc=>?_⟩
  · have key : ∀ (l : List (Nat × Int × Int)), (∀ q ∈ l, q.1 < 500) → ∀ c ∈ ivC l, c.den ρ = true → c.den (ρ.over g) = true := by
      intro l
      induction l with
      | nil=>intro _ c hc; cases hc
      | cons a l ih =>
        intro hl c hc hd
        have ha:=hl a List.mem_cons_self
        simp only [ivC,List.mem_cons] at hc
        rcases hc with rfl | rfl | hc
        · rw [BE.t_leq,IE.den_lit,IE.den_var] at hd ⊢; rw [e _ ha]; exact hd
        · rw [BE.t_leq,IE.den_lit,IE.den_var] at hd ⊢; rw [e _ ha]; exact hd
        · exact ih (fun q hq=>hl q (List.mem_cons_of_mem _ hq)) c hc hd
    refine key (filmQ L) ?_ c hc (h.1 c hc)
    rcases Nat.lt_or_ge L 1 with h1 | h1
    · have:L=0:=by omega
      subst this; intro q hq; simp only [filmQ,upN,List.mem_cons,List.not_mem_nil,or_false] at hq
      rcases hq with rfl | rfl | rfl | rfl | rfl <;> simp
    · have hk : lAll (fun q : Nat × Int × Int => Nat.ble (q.1 + 1) 500) (filmQ L) = true := by
        rcases six h1 hL with rfl | rfl | rfl | rfl | rfl | rfl <;> rfl
      exact fun q hq=>ble_t.1 (lAll_mem hk q hq)
  · have hle : ∀ c ∈ filmC L, ∃ i j, i < 500 ∧ j < 500 ∧ c = leV i j := by
      intro c hc
      simp only [filmC,List.mem_cons] at hc
      rcases hc with rfl | rfl | hc
      · exact ⟨0,1,by omega,by omega,rfl⟩
      · exact ⟨2,3,by omega,by omega,rfl⟩
      · have key : ∀ (l : List Nat), (∀ r ∈ l, r < 6) → c ∈ (@List.rec Nat (fun _ => List BE) [] (fun r _ ih => leV (10 + 6 * r) (11 + 6 * r) :: leV (12 + 6 * r) (13 + 6 * r) :: leV (14 + 6 * r) (15 + 6 * r) :: leV (10 + 6 * r) (13 + 6 * r) :: ih) l) → ∃ i j, i < 500 ∧ j < 500 ∧ c = leV i j := by
          intro l
          induction l with
          | nil=>intro _ h; cases h
          | cons a l ih =>
            intro hl hc
            have:=hl a List.mem_cons_self
            simp only [List.mem_cons] at hc
            rcases hc with rfl | rfl | rfl | rfl | hc
            · exact ⟨_,_,by omega,by omega,rfl⟩
            · exact ⟨_,_,by omega,by omega,rfl⟩
            · exact ⟨_,_,by omega,by omega,rfl⟩
            · exact ⟨_,_,by omega,by omega,rfl⟩
            · exact ih (fun r hr=>hl r (List.mem_cons_of_mem _ hr)) hc
        exact key _ (fun r hr=>by have:=upN_lt _ _ _ hr; omega) hc
    obtain ⟨i,j,hi,hj,rfl⟩:=hle c hc
    have:=h.2 _ hc
    unfold leV at this ⊢
    rw [BE.t_leq,IE.den_var,IE.den_var] at this ⊢
    rw [e i hi,e j hj]; exact this
end Go.Sx
namespace Go.Sx
open Go.RowKit Go.Proofs
set_option maxRecDepth 100000
theorem CallOk.each {P : Program} {RC : Nat → Nat → List Nat → Code → Code → Prop} {ok : Rho → (Nat → Obj → Prop) → Prop} {f : FuncId} {args : List AV} {h : Heap} {t : T (AV × Heap)}
    (H:∀ ρ m,ok ρ m→∃ ok0:Rho→(Nat→Obj→Prop)→Prop,ok0 ρ m∧CallOk ⟨P,RC,ok0⟩ f args h t):CallOk ⟨P,RC,ok⟩ f args h t:=by
  intro vs E w0 w Q K k HH ha Pp
  obtain ⟨m,m1,m2⟩:=HH.ok
  obtain ⟨ok0,k1,hc⟩:=H E.ρ m m1
  have same:∀ {ok1 ok2:Rho→(Nat→Obj→Prop)→Prop} (ρ:Rho) (h:Heap),SameH ⟨P,RC,ok1⟩ ⟨P,RC,ok2⟩ ρ h ρ h:=fun ρ h=>⟨rfl,fun _ o g=>⟨o,g,SameA.refl o⟩⟩
  have HH0:HeapOk ⟨P,RC,ok0⟩ ⟨E.ρ,E.σ,E.κ,E.n,E.rc⟩ h w0 w:=HeapOk.read (ρ0:=E.ρ) (σ:=E.σ) (κ:=E.κ) (n:=E.n) (rc:=E.rc) HH (same _ _) ⟨m,k1,m2⟩
  exact hc vs ⟨E.ρ,E.σ,E.κ,E.n,E.rc⟩ w0 w Q K k HH0 ha fun v' h' E1 w' cv q hle H1 hcv=>by
    have hρ1:E1.ρ=E.ρ:=hle.ρ
    have H2:HeapOk ⟨P,RC,ok⟩ ⟨E.ρ,E1.σ,E1.κ,E1.n,E1.rc⟩ h' w0 w':=HeapOk.read (ρ0:=E.ρ) (σ:=E1.σ) (κ:=E1.κ) (n:=E1.n) (rc:=E1.rc) (by rw [← hρ1]; exact H1) (same _ _) HH.ok
    exact Pp v' h' ⟨E.ρ,E1.σ,E1.κ,E1.n,E1.rc⟩ w' cv q ⟨⟨rfl,hle.σ,hle.κ,hle.rc⟩,hle.n,hle.none⟩ H2 (by rw [← hρ1]; exact hcv)
noncomputable def vLN (L j:Nat):List (Nat × AObj):=vK L ++ [(2000,ro [iA (oB L j)])]
noncomputable def nameV (j t:Nat):AV:=lastV (.var (100 + 4 * j + 2 * t)) (.var (101 + 4 * j + 2 * t))
def okJ (L j t o:Nat) (x:IE) (ρ:Rho) (_:Nat→Obj→Prop):Prop:=okB L ρ∧okN L ρ∧x.den ρ=ρ.iv 60 + t∧(oB L j).den ρ=(o:Int)
theorem lasts_named {ok : Rho → (Nat → Obj → Prop) → Prop} {L : Nat} (h0 : 1 ≤ L) (hL : L ≤ 6) {j t : Nat} (hj : j < L) (ht : t < 2) {x : IE}
    (hok:∀ ρ m,ok ρ m→okB L ρ∧okN L ρ∧x.den ρ=ρ.iv 60 + t):CallOk (pOk ok) 80 (argsLs L x) (viewA 2001 (vLN L j)) (.ret (nameV j t,viewA 2001 (vLN L j))):=by
  refine CallOk.each fun ρ m hm=>?_
  obtain ⟨k1,k2,k3⟩:=hok ρ m hm
  have ho:=oB_in h0 hL k1.1 hj
  refine ⟨okJ L j t ((oB L j).den ρ).toNat x,⟨k1,k2,k3,by omega⟩,?_⟩
  generalize ho':((oB L j).den ρ).toNat=o at *
  have ho2:o < L:=by omega
  refine CallOk.read (p0:=pLs L) (p:=pOk (okJ L j t o x)) rfl (lasts_var h0 hL ho2) fun ρ b ⟨m,⟨a1,a2,a3,a4⟩,c2⟩ Q k=>?_
  have k:Q (nameV j t,viewA 2001 (vLN L j)):=k
  let g:Nat→Int:=fun _=>x.den ρ
  have hs:=shows_in a1.2.2.2
  have iv:∀ i,i < 500→ρ.iv i=(ρ.over g).iv i:=fun i hi=>(over_lt hi).symm
  have e1:(IE.var 500).den (ρ.over g)=x.den ρ:=rfl
  have hF:=ofilm_over hL g a1.2.1
  refine ⟨ρ.over g,⟨m,⟨hF,by show 0≤x.den ρ; omega,by show x.den ρ≤999; omega⟩,c2⟩,?_,⟨rfl,fun i o' hg=>?_⟩,?_⟩
  · exact SameL.cons (SameV.agg (SameL.cons (SameV.sliceX _ _ _ _) (SameL.cons (SameV.int (iv 0 (by omega))) (SameL.cons (SameV.int (iv 1 (by omega))) (SameL.cons (SameV.int (iv 2 (by omega))) (SameL.cons (SameV.int (iv 3 (by omega))) (SameL.cons (SameV.int (iv 4 (by omega))) SameL.nil))))))) (SameL.cons (SameV.slice _ _ _ _) (SameL.cons (SameV.int e1.symm) SameL.nil))
  · have hm:=viewA_get _ _ _ _ hg
    unfold vL1 at hm
    rcases List.mem_append.1 hm with hm | hm
    · have hm':(i,o') ∈ vLN L j:=List.mem_append_left _ hm
      refine ⟨o',viewA_mem 2001 _ 0 rfl _ hm',?_⟩
      simp only [vK,List.mem_cons,List.not_mem_nil,or_false] at hm
      rcases hm with h | h | h
      · cases h; exact SameA.pl (Rho.over_alike ρ g) rfl
      · cases h; exact SameA.pl (Rho.over_alike ρ g) rfl
      · cases h; exact rowsA_same rfl hL iv
    · rw [List.mem_singleton] at hm
      cases hm
      refine ⟨_,viewA_mem 2001 (vLN L j) 0 rfl (2000,ro [iA (oB L j)]) (List.mem_append_right _ (List.mem_singleton.2 rfl)),SameA.cells rfl (SameL.cons (SameV.int ?_) SameL.nil)⟩
      rw [a4]; rfl
  · show ∃ r,Q r∧_∧_
    refine ⟨_,k,?_,rfl,fun i o' hg=>?_⟩
    · have d:=loE_den (ρ:=ρ.over g) (filmZ hF) ho2 (x:=.var 500) (by show 0≤x.den ρ; omega) (by show x.den ρ≤999; omega)
      have n:=a2 j t hj ht
      have eo:((oB L j).den ρ).toNat=o:=by omega
      rw [eo] at n
      have l1:loZ (ρ.over g) o ((IE.var 500).den (ρ.over g))=loZ ρ o (ρ.iv 60 + t):=by
        rw [e1,a3]; unfold loZ; rw [← iv _ (show 14 + 6 * o < 500 by omega),← iv 3 (by omega),← iv 0 (by omega)]
      have l2:hiZ (ρ.over g) o ((IE.var 500).den (ρ.over g))=hiZ ρ o (ρ.iv 60 + t):=by
        rw [e1,a3]; unfold hiZ; rw [← iv _ (show 15 + 6 * o < 500 by omega),← iv 2 (by omega),← iv 1 (by omega)]
      exact SameV.tup (SameL.cons (SameV.agg (SameL.cons (SameV.int (d.1.trans (l1.trans n.1.symm))) (SameL.cons (SameV.int (d.2.trans (l2.trans n.2.symm))) SameL.nil))) (SameL.cons (SameV.int rfl) SameL.nil))
    · have hm:=viewA_get _ _ _ _ hg
      unfold vLN at hm
      rcases List.mem_append.1 hm with hm | hm
      · have hm':(i,o') ∈ vL1 L o:=List.mem_append_left _ hm
        refine ⟨o',viewA_mem 2001 _ 0 rfl _ hm',?_⟩
        simp only [vK,List.mem_cons,List.not_mem_nil,or_false] at hm
        rcases hm with h | h | h
        · cases h; exact SameA.pl (Rho.over_alike ρ g).symm rfl
        · cases h; exact SameA.pl (Rho.over_alike ρ g).symm rfl
        · cases h; exact rowsA_same rfl hL fun i hi=>(iv i hi).symm
      · rw [List.mem_singleton] at hm
        cases hm
        refine ⟨_,viewA_mem 2001 (vL1 L o) 0 rfl (2000,ro [ln o]) (List.mem_append_right _ (List.mem_singleton.2 rfl)),SameA.cells rfl (SameL.cons (SameV.int ?_) SameL.nil)⟩
        rw [a4]; rfl
noncomputable def mvL (c b:Nat):Nat:=if b=2000 then c else b
noncomputable def offL (k b:Nat):Nat:=if b=2000 then k else 0
noncomputable def cellIs (x:Option AV) (e:IE):Bool:=match x with
  | some (.int k y)=>and (isI64 k) (eqIE y e)
  | _=>false
noncomputable def placeOf (L:Nat) (x:Option AV):Option Nat:=@List.rec Nat (fun _=>Option Nat) none (fun j _ ih=>cond (cellIs x (oB L j)) (some j) ih) (upN L 0)
noncomputable def tentOf (x:IE):Option Nat:=cond (eqIE x (.var 60)) (some 0) (cond (eqIE x (.bin .add .i64 (.var 60) (.lit 0))) (some 0) (cond (eqIE x (.bin .add .i64 (.var 60) (.lit 1))) (some 1) none))
noncomputable def orcLs (L:Nat) (args:List AV) (h:Heap):Option (T (AV × Heap)) :=
  match args with
  | [fa,.slice c k n1 n2,.int kk x]=>(match h.get c with
    | some (.cells cs _ _ _)=>(match placeOf L (listGet cs k),tentOf x with
      | some j,some t=>cond (and (and (eqAV fa (filmF L)) (isI64 kk)) (and (and (Nat.beq n1 1) (Nat.beq n2 1)) (and (lessAll h (vK L)) (cellIs (listGet cs k) (oB L j))))) (cond (and (Nat.ble (j + 1) L) (Nat.ble (t + 1) 2)) (some (.ret (nameV j t,h))) none) none
      | _,_=>none)
    | _=>none)
  | _=>none
theorem listGet_split:∀ {l:List AV} {k:Nat} {a:AV},listGet l k=some a→∃ u v,l=u ++ [a] ++ v∧u.length=k
  | [],_,_,h=>by cases h
  | x :: l,0,a,h=>by cases h; exact ⟨[],l,rfl,rfl⟩
  | x :: l,k + 1,a,h=>by
    have h:listGet l k=some a:=h
    obtain ⟨u,v,h1,h2⟩:=listGet_split h
    exact ⟨x :: u,v,by rw [h1]; rfl,by rw [List.length_cons,h2]⟩
theorem tent_den {x:IE} {t:Nat} (h:tentOf x=some t) {ρ:Rho} (hb:okBook ρ):x.den ρ=ρ.iv 60 + t:=by
  have hs:=shows_in hb
  unfold tentOf at h
  cases h1:eqIE x (.var 60) with
  | true=>rw [h1] at h; cases h; rw [eqIE_eq _ _ h1,IE.den_var]; simp
  | false =>
    rw [h1,cond_false] at h
    cases h2:eqIE x (.bin .add .i64 (.var 60) (.lit 0)) with
    | true=>rw [h2] at h; cases h; rw [eqIE_eq _ _ h2,IE.den_add,IE.den_var,IE.den_lit]; exact wrap_sm (by omega) (by omega)
    | false =>
      rw [h2,cond_false] at h
      obtain ⟨h3,h4⟩:=cond_some h
      cases h4
      rw [eqIE_eq _ _ h3,IE.den_add,IE.den_var,IE.den_lit]; exact wrap_sm (by omega) (by omega)
theorem orcLs_ok {ok:Rho→(Nat→Obj→Prop)→Prop} {L:Nat} (h0:1≤L) (hL:L≤6) (hok:∀ ρ m,ok ρ m→okB L ρ∧okN L ρ) {args:List AV} {h:Heap} {t:T (AV × Heap)} (e:orcLs L args h=some t):CallOk (pOk ok) 80 args h t:=by
  unfold orcLs at e
  split at e
  · rename_i fa c k n1 n2 kk x
    split at e
    · rename_i cs el own ext hc
      split at e
      · rename_i j t hj ht
        obtain ⟨i1,e⟩:=cond_some e
        obtain ⟨i2,e⟩:=cond_some e
        simp only [Bool.and_eq_true] at i1 i2
        obtain ⟨⟨i3,i4⟩,⟨i5,i6⟩,i7,i8⟩:=i1
        cases e
        have i5:=beq_t.1 i5; subst i5
        have i6:=beq_t.1 i6; subst i6
        have i4:=isI64_eq i4; subst i4
        rw [eqAV_eq _ _ i3]
        have hcell:listGet cs k=some (iA (oB L j)):=by
          unfold cellIs at i8
          split at i8
          · rename_i kx y hy
            rw [Bool.and_eq_true] at i8
            rw [hy,isI64_eq i8.1,eqIE_eq _ _ i8.2]; rfl
          · cases i8
        have hl:=lessAll_ok i7
        refine CallOk.moved3 (mv:=mvL c) (off:=offL k) (lasts_named (ok:=ok) h0 hL (ble_t.1 i2.1) (ble_t.1 i2.2) (x:=x) fun ρ m hm=>⟨(hok ρ m hm).1,(hok ρ m hm).2,tent_den ht (hok ρ m hm).1.2.2.2⟩) (by omega)
          (fun b hb=>⟨if_neg (by omega),if_neg (by omega)⟩) rfl (fun g hg=>?_) (fun E=>?_)
        · unfold vLN at hg
          rcases List.mem_append.1 hg with hg | hg
          · have hlg:=hl g hg
            simp only [vK,List.mem_cons,List.not_mem_nil,or_false] at hg
            rcases hg with rfl | rfl | rfl
            · exact ⟨by omega,_,rfl,rfl,less_part0 hlg⟩
            · exact ⟨by omega,_,rfl,rfl,less_part0 hlg⟩
            · exact ⟨by omega,_,rfl,ids0 _,less_part0 hlg⟩
          · rw [List.mem_singleton] at hg
            subst hg
            obtain ⟨u,v,h1,h2⟩:=listGet_split hcell
            exact ⟨by omega,_,rfl,rfl,_,hc,cs,el,own,ext,rfl,u,v,h1,h2⟩
        · simp [argsLs,filmF,iA,vj,concL,conc,Env.mv3,mvL,offL]
          cases E.σ c <;> simp
      · cases e
    · cases e
  · cases e
end Go.Sx
namespace Go.Sx
open Go.RowKit Go.Proofs
set_option maxRecDepth 100000
noncomputable def vB (b L:Nat) (live:Bool):List (Nat × AObj):=vR L ++ [(b,ordB L),(b + 1,.umap (mR live))]
def okM (L:Nat) (ρ:Rho):Prop:=∀ r i:Nat,r < L→i < 4→ρ.fi (3101 + i) r (ρ.iv 60) 0=ρ.iv (100 + 4 * r + i)
def okBN (L:Nat) (ρ:Rho):Prop:=okB L ρ∧okN L ρ∧okM L ρ
noncomputable def pBN (L:Nat):Par:=pOk fun ρ _=>okBN L ρ
noncomputable def orcBL (L:Nat) (f:FuncId) (args:List AV) (h:Heap):Option (T (AV × Heap)):=cond (Nat.beq f 80) (orcLs L args h) none
noncomputable def tbBL (L:Nat):Tabs:=⟨Sx.Tryd.ft.get,lFind Sx.Tryd.rt,2000,orcBL L⟩
theorem tabsBL {L:Nat} (h0:1≤L) (hL:L≤6):TabOk (pBN L) Sx.Tryd.tt.get (tbBL L):=by
  refine Tryd.tab (orcBL L) (fun f args h t e=>?_) 2000
  unfold orcBL at e
  obtain ⟨h1,e⟩:=cond_some e
  rw [beq_t.1 h1]
  exact orcLs_ok h0 hL (fun ρ m k=>⟨k.1,k.2.1⟩) e
noncomputable def argsBL (b L r:Nat):List AV:=[kV L b (b + 1),.agg [ln r,vj 60]]
noncomputable def fiM (r i:Nat):IE:=.app (3101 + i) (.lit (Int.ofNat r)) (.var 60) (.lit 0)
noncomputable def fourV (g:Nat→IE):AV:=.agg [iA (g 0),iA (g 1),iA (g 2),iA (g 3)]
noncomputable def valBL (r:Nat):AV:=fourV fun i=>.var (100 + 4 * r + i)
noncomputable def runBL (b L r:Nat):T (AV × Heap):=(evalN (tbBL L) 100 false 75 (argsBL b L r) (viewA (b + 2) (vB b L true))).bind fun q=>graftT (b + 2) (vB b L true) (viewA (b + 2) (vB b L true)) [] q
noncomputable def endBL (b L r:Nat) (_:Kn) (q:AV × Heap):Bool:=and (cond (eqAV q.1 (fourV (fiM r))) true (eqAV q.1 (valBL r))) (and (lessO (.umap (mR false)) (q.2.get (b + 1))) (and (isO (q.2.get b) (ordB L)) (and (allO q.2 (vR L)) (Nat.beq q.2.next (b + 2)))))
noncomputable def factM4 (r:Nat):List BE:=lMap (fun i=>.cmp .eql (.var (100 + 4 * r + i)) (fiM r i)) (upN 4 0)
noncomputable def ckBL (b L:Nat):Bool:=and (viewOk (b + 2) (vB b L true)) (and (viewOk (b + 2) (vB b L false)) (lAll (fun r=>allW [] (endBL b L r) (runBL b L r) (knOf [] (factM4 r))) (upN L 0)))
theorem ckBL2004_1:ckBL 2004 1=true:=by kernel_rfl
theorem ckBL2004_2:ckBL 2004 2=true:=by kernel_rfl
theorem ckBL2004_3:ckBL 2004 3=true:=by kernel_rfl
theorem ckBL2004_4:ckBL 2004 4=true:=by kernel_rfl
theorem ckBL2004_5:ckBL 2004 5=true:=by kernel_rfl
theorem ckBL2004_6:ckBL 2004 6=true:=by kernel_rfl
theorem ckBL2001_1:ckBL 2001 1=true:=by kernel_rfl
theorem ckBL2001_2:ckBL 2001 2=true:=by kernel_rfl
theorem ckBL2001_3:ckBL 2001 3=true:=by kernel_rfl
theorem ckBL2001_4:ckBL 2001 4=true:=by kernel_rfl
theorem ckBL2001_5:ckBL 2001 5=true:=by kernel_rfl
theorem ckBL2001_6:ckBL 2001 6=true:=by kernel_rfl
theorem ckBL_all {b L:Nat} (hb:b=2004 ∨ b=2001) (h0:1≤L) (hL:L≤6):viewOk (b + 2) (vB b L true)=true∧viewOk (b + 2) (vB b L false)=true∧∀ r,r < L→allW [] (endBL b L r) (runBL b L r) (knOf [] (factM4 r))=true:=by
  have h:ckBL b L=true:=by
    rcases hb with rfl | rfl
    · rcases six h0 hL with rfl | rfl | rfl | rfl | rfl | rfl
      · exact ckBL2004_1
      · exact ckBL2004_2
      · exact ckBL2004_3
      · exact ckBL2004_4
      · exact ckBL2004_5
      · exact ckBL2004_6
    · rcases six h0 hL with rfl | rfl | rfl | rfl | rfl | rfl
      · exact ckBL2001_1
      · exact ckBL2001_2
      · exact ckBL2001_3
      · exact ckBL2001_4
      · exact ckBL2001_5
      · exact ckBL2001_6
  unfold ckBL at h
  simp only [Bool.and_eq_true] at h
  exact ⟨h.1,h.2.1,fun r hr=>lAll_at h.2.2 (Nat.zero_le _) (by omega)⟩
theorem fiM_den {L:Nat} {ρ:Rho} (h:okM L ρ) {r i:Nat} (hr:r < L) (hi:i < 4):(fiM r i).den ρ=ρ.iv (100 + 4 * r + i):=by
  rw [← h r i hr hi]
  unfold fiM
  simp only [IE.den,FI]
  rw [if_pos (by omega)]; rfl
theorem factM4_ok {L:Nat} {ρ:Rho} (h:okM L ρ) {r:Nat} (hr:r < L):KnOk ρ (knOf [] (factM4 r)):=by
  refine knOf_ok (fun c hc=>by cases hc) fun c hc=>?_
  unfold factM4 at hc
  rw [lMap_eq,List.mem_map] at hc
  obtain ⟨i,hi,rfl⟩:=hc
  have:=upN_lt _ _ _ hi
  rw [BE.t_eql,IE.den_var,fiM_den h hr (by omega)]
theorem ordB_same {p0 p:Par} (hP:p0.P=p.P) {L:Nat} {ρ ρ':Rho} (h:ρ.fi=ρ'.fi):SameA p0 p ρ (ordB L) ρ' (ordB L):=by
  refine SameA.cells hP (same_ints ?_)
  refine List.map_congr_left fun e he=>?_
  unfold ordL at he
  rw [lMap_eq,List.mem_map] at he
  obtain ⟨j,_,rfl⟩:=he
  unfold ordE
  simp only [IE.den,h]
theorem lastsB_var {b L r:Nat} (hb:b=2004 ∨ b=2001) (h0:1≤L) (hL:L≤6) (hr:r < L):CallOk (pBN L) 75 (argsBL b L r) (viewA (b + 2) (vB b L true)) (.ret (valBL r,viewA (b + 2) (vB b L false))):=by
  obtain ⟨hv,_,hck⟩:=ckBL_all hb h0 hL
  have base:=eval_ok (tabsBL h0 hL) 100 75 (argsBL b L r) (viewA (b + 2) (vB b L true))
  have up:upA 0 (vB b L true)=true:=by rcases hb with rfl | rfl <;> rfl
  have fr:CallOk (pBN L) 75 (argsBL b L r) (viewA (b + 2) (vB b L true)) (runBL b L r):=base.frame (n:=b + 2) (l:=vB b L true) (by omega) (by rcases hb with rfl | rfl <;> rfl) hv
    (fun g hg=>⟨g.2,viewA_mem (b + 2) _ 0 up g hg,.refl _⟩) (by rw [viewA_next]; exact Nat.le_refl _) (fun _=>[])
  refine CallOk.read (p0:=pBN L) (p:=pBN L) rfl fr fun ρ b' hok Q k=>⟨ρ,hok,SameL.refl _ _,⟨rfl,fun j o g=>⟨o,g,SameA.refl o⟩⟩,?_⟩
  obtain ⟨_,hA,_⟩:=hok
  have hA:okBN L ρ:=hA
  have k:Q (valBL r,viewA (b + 2) (vB b L false)):=k
  refine allW_ok (rules_nil ρ) (fun K q _ hq=>?_) (runBL b L r) _ (factM4_ok hA.2.2 hr) (hck r hr)
  unfold endBL at hq
  simp only [Bool.and_eq_true] at hq
  obtain ⟨q1,q2,q3,q4,q5⟩:=hq
  refine ⟨_,k,?_,(beq_t.1 q5).trans (viewA_next _ _).symm,fun j o g=>?_⟩
  · cases h1:eqAV q.1 (fourV (fiM r)) with
    | true =>
      rw [eqAV_eq _ _ h1]
      have d:=fun i hi=>fiM_den hA.2.2 (r:=r) (i:=i) hr hi
      exact SameV.agg (SameL.cons (SameV.int (d 0 (by omega))) (SameL.cons (SameV.int (d 1 (by omega))) (SameL.cons (SameV.int (d 2 (by omega))) (SameL.cons (SameV.int (d 3 (by omega))) SameL.nil))))
    | false =>
      rw [h1,cond_false] at q1
      rw [eqAV_eq _ _ q1]; exact SameV.refl _ _
  · have hm:=viewA_get _ _ _ _ g
    unfold vB at hm
    rcases List.mem_append.1 hm with hm | hm
    · exact ⟨o,allO_get q4 hm,SameA.refl o⟩
    · simp only [List.mem_cons,List.not_mem_nil,or_false] at hm
      rcases hm with h | h
      · cases h; exact ⟨_,isO_eq q3,SameA.refl _⟩
      · cases h
        obtain ⟨x,hx,hl⟩:=lessO_ok q2
        exact ⟨x,hx,SameA.dull hl rfl⟩
theorem vR_same {p0 p:Par} (hP:p0.P=p.P) {L:Nat} (hL:L≤6) {ρ ρ':Rho} (h:∀ j,j < 500→ρ.iv j=ρ'.iv j) {j:Nat} {o:AObj} (hm:(j,o) ∈ vR L):SameA p0 p ρ o ρ' o:=by
  simp only [vR,List.mem_cons,List.not_mem_nil,or_false] at hm
  have lits:∀ (l:List Int),SameL ρ (l.map li) ρ' (l.map li):=by
    intro l
    induction l with
    | nil=>exact SameL.nil
    | cons a l ih=>exact SameL.cons (SameV.int rfl) ih
  rcases hm with h | h | h | h | h
  · cases h; exact SameA.cells hP (lits [0,998,1,6])
  · cases h; exact SameA.cells hP (lits [0,3600,0,3600])
  · cases h; exact SameA.cells hP (lits [1,20,0,50])
  · cases h; exact SameA.cells hP (lits [0,99,0,99,1,1200])
  · cases h; exact rowsA_same hP hL h
theorem aftF_setB {ρ:Rho} (i:Nat) (B:Int→Int→Int→Bool) (r:Nat) (a b:Int):aftF (ρ.setB i B) r a b=aftF ρ r a b:=rfl
theorem noneF_setB {ρ:Rho} (i:Nat) (B:Int→Int→Int→Bool):∀ (k m:Nat) (a b:Int),noneF (ρ.setB i B) k m a b=noneF ρ k m a b
  | 0,_,_,_=>rfl
  | k + 1,m,a,b=>by
    simp only [noneF]
    refine all_congr fun r hr=>?_
    rw [aftF_setB,noneF_setB i B k]
theorem ordF_setB {ρ:Rho} (i:Nat) (B:Int→Int→Int→Bool):∀ (k m:Nat) (a b:Int),ordF (ρ.setB i B) k m a b=ordF ρ k m a b
  | 0,_,_,_=>rfl
  | k + 1,m,a,b=>by
    simp only [ordF]
    rw [find_congr (q:=fun r=>!(decide (aftF ρ r a b=(0,0)) || noneF ρ k (del m r) (aftF ρ r a b).1 (aftF ρ r a b).2)) fun r hr=>by rw [aftF_setB,noneF_setB i B k]]
    cases hf:(rsOf m).find? fun r=>!(decide (aftF ρ r a b=(0,0)) || noneF ρ k (del m r) (aftF ρ r a b).1 (aftF ρ r a b).2) with
    | none=>rfl
    | some r =>
      simp only
      rw [aftF_setB,ordF_setB i B k]
theorem leftF_setB {ρ:Rho} (i:Nat) (B:Int→Int→Int→Bool):∀ (k p m j:Nat) (a b o:Int),leftF (ρ.setB i B) k p m j a b o=leftF ρ k p m j a b o
  | 0,_,_,_,_,_,_=>rfl
  | k + 1,p,m,j,a,b,o=>by
    simp only [leftF]
    refine foldl_congr _ fun o r hr=>?_
    rw [aftF_setB,leftF_setB i B k]
theorem ivC_iv {ρ ρ':Rho} (e:ρ.iv=ρ'.iv):∀ {l:List (Nat × Int × Int)} {c:BE},c ∈ ivC l→c.den ρ=c.den ρ'
  | [],_,h=>by cases h
  | q :: l,c,h=>by
    simp only [ivC,List.mem_cons] at h
    rcases h with rfl | rfl | h
    · simp only [BE.den,IE.den,e]
    · simp only [BE.den,IE.den,e]
    · exact ivC_iv e h
theorem filmC_le {L:Nat}:∀ c ∈ filmC L,∃ i j,c=leV i j:=by
  intro c hc
  simp only [filmC,List.mem_cons] at hc
  rcases hc with rfl | rfl | hc
  · exact ⟨0,1,rfl⟩
  · exact ⟨2,3,rfl⟩
  · have key : ∀ (l : List Nat), c ∈ (@List.rec Nat (fun _ => List BE) [] (fun r _ ih => leV (10 + 6 * r) (11 + 6 * r) :: leV (12 + 6 * r) (13 + 6 * r) :: leV (14 + 6 * r) (15 + 6 * r) :: leV (10 + 6 * r) (13 + 6 * r) :: ih) l) → ∃ i j, c = leV i j := by
      intro l
      induction l with
      | nil=>intro h; cases h
      | cons a l ih =>
        intro hc
        simp only [List.mem_cons] at hc
        rcases hc with rfl | rfl | rfl | rfl | hc
        · exact ⟨_,_,rfl⟩
        · exact ⟨_,_,rfl⟩
        · exact ⟨_,_,rfl⟩
        · exact ⟨_,_,rfl⟩
        · exact ih hc
    exact key _ hc
theorem leV_iv {ρ ρ':Rho} (e:ρ.iv=ρ'.iv) (i j:Nat):(leV i j).den ρ=(leV i j).den ρ':=by simp only [leV,BE.den,IE.den,e]
theorem okFilm_iv {L:Nat} {ρ ρ':Rho} (e:ρ.iv=ρ'.iv) (h:okFilm L ρ):okFilm L ρ' :=
  ⟨fun c hc=>(ivC_iv e hc).symm.trans (h.1 c hc),fun c hc=>by
    obtain ⟨i,j,rfl⟩:=filmC_le c hc
    exact (leV_iv e i j).symm.trans (h.2 _ hc)⟩
theorem okBook_iv {ρ ρ':Rho} (e:ρ.iv=ρ'.iv) (h:okBook ρ):okBook ρ' :=
  ⟨fun c hc=>(ivC_iv e hc).symm.trans (h.1 c hc),fun c hc=>by
    have:=h.2 c hc
    simp only [bookLe,List.mem_cons,List.not_mem_nil,or_false] at hc
    rcases hc with rfl | rfl
    · exact (leV_iv e _ _).symm.trans this
    · exact (leV_iv e _ _).symm.trans this⟩
theorem okBN_setB {L:Nat} {ρ:Rho} (B:Int→Int→Int→Bool) (h:okBN L ρ):okBN L (ρ.setB 3100 B):=by
  obtain ⟨⟨⟨h1,h2⟩,h3,h4,h5⟩,h6,h7⟩:=h
  refine ⟨⟨⟨h1,fun m hm=>?_⟩,okFilm_iv (ρ:=ρ) (ρ':=ρ.setB 3100 B) rfl h3,?_,okBook_iv (ρ:=ρ) (ρ':=ρ.setB 3100 B) rfl h5⟩,h6,h7⟩
  · obtain ⟨q1,q2,q3⟩:=h2 m hm
    refine ⟨fun a b=>?_,fun j a b hj=>?_,fun K j a b o hK hj=>?_⟩
    · rw [noneF_setB]
      show (if 4000 + m=3100 then B else ρ.fb (4000 + m)) a b 0=_
      rw [if_neg (by omega)]; exact q1 a b
    · rw [ordF_setB]; exact q2 j a b hj
    · rw [leftF_setB]; exact q3 K j a b o hK hj
  · rw [← h4]
    unfold noneB noneE
    simp only [BE.den,FB]
    rw [if_pos (by omega),if_pos (by omega)]
    show (if 4000 + fullM L=3100 then B else ρ.fb (4000 + fullM L)) _ _ _=_
    rw [if_neg (by omega)]; rfl
theorem lastsB_dull {b L r:Nat} (hb:b=2004 ∨ b=2001) (h0:1≤L) (hL:L≤6) (hr:r < L):CallOk (pBN L) 75 (argsBL b L r) (viewA (b + 2) (vB b L false)) (.ret (valBL r,viewA (b + 2) (vB b L false))):=by
  have hv:=lastsB_var hb h0 hL hr
  let h0':Heap:=viewA (b + 2) (vR L ++ [(b,ordB L)])
  have hb1:b + 1 ≠ 0∧b + 1 ≠ 1∧b + 1 ≠ 2∧b + 1 ≠ 3∧b + 1 ≠ 1001∧b + 1 ≠ b:=by omega
  have get:∀ (t:Bool) (j:Nat),(h0'.put (b + 1) (.umap (mR t))).get j=(viewA (b + 2) (vB b L t)).get j:=fun t j=>by
    have e:∀ (l:List (Nat × AObj)) (hl:∀ g ∈ l,g.1 ≠ b + 1),((viewA (b + 2) l).put (b + 1) (.umap (mR t))).get j=(viewA (b + 2) (l ++ [(b + 1,.umap (mR t))])).get j:=by
      intro l
      induction l with
      | nil=>intro _; rfl
      | cons g l ih =>
        intro hl
        have hg:=hl g List.mem_cons_self
        have:=ih fun g' hg'=>hl g' (List.mem_cons_of_mem _ hg')
        show (((viewA (b + 2) l).put g.1 g.2).put (b + 1) _).get j=((viewA (b + 2) (l ++ [(b + 1,AObj.umap (mR t))])).put g.1 g.2).get j
        simp only [Heap.get_put] at this ⊢
        by_cases h1:j=g.1
        · subst h1; rw [if_neg hg,if_pos rfl,if_pos rfl]
        · rw [if_neg h1,if_neg h1]; exact this
    have:=e (vR L ++ [(b,ordB L)]) (fun g hg=>by
      simp only [vR,List.cons_append,List.nil_append,List.mem_cons,List.not_mem_nil,or_false] at hg
      rcases hg with rfl | rfl | rfl | rfl | rfl | rfl <;> simp only [ne_eq] <;> omega)
    rw [List.append_assoc] at this
    exact this
  have hc:CallOk (pBN L) 75 (argsBL b L r) (h0'.put (b + 1) (.umap (mR true))) (.ret (valBL r,viewA (b + 2) (vB b L false))):=hv.congr (get true) rfl
  have fsame:∀ ρ:Rho,SameL ρ (argsBL b L r) ρ (argsBL b L r):=fun ρ=>SameL.refl _ _
  have hd := CallOk.live (p := pBN L) (b := b + 1) (m := mR true) (by simp [mR]) (by
      intro q hq
      simp only [mR,List.mem_cons,List.not_mem_nil,or_false] at hq
      rcases hq with rfl | rfl | rfl | rfl <;> simp [mR]) hc
    (fun ρ B c ⟨m,k1,k2⟩=>⟨m,okBN_setB B k1,k2⟩)
    (fun ρ B=>?_)
    (fun ρ B j o hj hg=>?_)
    (fun ρ B Q k=>⟨_,k,?_,rfl,fun j o g=>⟨o,g,?_⟩⟩)
  · exact hd.congr (fun j=>(get false j).symm) rfl
  · exact SameL.cons (SameV.agg (SameL.cons (SameV.sliceX _ _ _ _) (SameL.cons (SameV.int rfl) (SameL.cons (SameV.int rfl) (SameL.cons (SameV.int rfl) (SameL.cons (SameV.int rfl) (SameL.cons (SameV.int rfl) (SameL.cons (SameV.int rfl) (SameL.cons (SameV.int rfl) (SameL.cons (SameV.int rfl) (SameL.cons (SameV.int rfl) (SameL.cons (SameV.int rfl) (SameL.cons (SameV.int rfl) (SameL.cons (SameV.sliceX _ _ _ _) (SameL.cons (SameV.map _) SameL.nil))))))))))))))) (SameL.cons (SameV.agg (SameL.cons (SameV.int rfl) (SameL.cons (SameV.int rfl) SameL.nil))) SameL.nil)
  · have hm:=viewA_get _ _ _ _ hg
    rcases List.mem_append.1 hm with hm | hm
    · exact vR_same (p0:=pBN L) (p:=pBN L) (ρ:=ρ) (ρ':=ρ.setB (mR true).fb B) rfl hL (fun _ _=>rfl) hm
    · rw [List.mem_singleton] at hm; cases hm; exact ordB_same rfl rfl
  · exact SameV.agg (SameL.cons (SameV.int rfl) (SameL.cons (SameV.int rfl) (SameL.cons (SameV.int rfl) (SameL.cons (SameV.int rfl) SameL.nil))))
  · have hm:=viewA_get _ _ _ _ g
    unfold vB at hm
    rcases List.mem_append.1 hm with hm | hm
    · exact vR_same (p0:=pBN L) (p:=pBN L) (ρ:=ρ.setB (mR true).fb B) (ρ':=ρ) rfl hL (fun _ _=>rfl) hm
    · simp only [List.mem_cons,List.not_mem_nil,or_false] at hm
      rcases hm with h | h
      · cases h; exact ordB_same rfl rfl
      · cases h; exact SameA.umap rfl rfl (mR_nb false)
end Go.Sx
namespace Go.Sx
open Go.RowKit Go.Proofs
set_option maxRecDepth 100000
noncomputable def adE (a b:IE):IE:=.bin .add .i64 a b
noncomputable def sbE (a b:IE):IE:=.bin .sub .i64 a b
noncomputable def tenE (a:IE):IE:=.bin .mul .i64 (.lit 10) a
noncomputable def aV (t e j:Nat):IE:=.var (100 + 4 * j + 2 * t + e)
noncomputable def befE (t e:Nat) (n:Nat):IE:=@Nat.rec (fun _=>IE) (.lit 0) (fun j ih=>adE ih (aV t e j)) n
noncomputable def repE (a:IE) (n:Nat) (l:List IE):List IE:=@Nat.rec (fun _=>List IE) l (fun _ ih=>a :: ih) n
noncomputable def atE (e next:Nat) (boy:IE):IE:=adE (.mx boy (befE 0 e next)) (tenE (.var (61 + e)))
noncomputable def atsE (e:Nat) (plan:List Nat):Nat→IE→List IE :=
  @List.rec Nat (fun _=>Nat→IE→List IE) (fun _ _=>[]) (fun p _ ih next boy=>repE (atE e (next + p) boy) p (ih (next + p) (adE (atE e (next + p) boy) (tenE (.var (63 + e)))))) plan
noncomputable def lateE (e2:Nat) (l:List IE):Nat→IE→IE:=@List.rec IE (fun _=>Nat→IE→IE) (fun _ acc=>acc) (fun a _ ih i acc=>ih (i + 1) (.mx acc (sbE a (befE 1 e2 i)))) l
noncomputable def secE (x:IE):IE:=.bin .quo .i64 (sbE (adE x (.lit 10)) (.lit 1)) (.lit 10)
noncomputable def thereE (e:Nat) (plan:List Nat):List IE:=atsE e plan 0 (.lit 0)
noncomputable def surelyE (plan:List Nat):IE:=secE (lateE 0 (thereE 1 plan) 0 (.lit 0))
noncomputable def perhapsE (plan:List Nat):IE:=secE (lateE 1 (thereE 0 plan) 0 (.lit 0))
noncomputable def sumN:List Nat→Nat
  | []=>0
  | p :: l=>p + sumN l
noncomputable def plansN:Nat→Nat→List (List Nat)
  | 0,_=>[]
  | _ + 1,0=>[[]]
  | f + 1,n=>(upN n 1).flatMap fun p=>(plansN f (n - p)).map fun l=>p :: l
noncomputable def plansL (L:Nat):List (List Nat):=plansN (L + 1) L
noncomputable def litsN (l:List Nat):List AV:=lMap ln l
noncomputable def vP (L:Nat) (plan:List Nat):List (Nat × AObj):=vR L ++ [(2000,ro (litsN plan))]
noncomputable def orcTP (b L:Nat) (f:FuncId) (args:List AV) (h:Heap):Option (T (AV × Heap)) :=
  cond (Nat.beq f 18) (smallO 2000 [bookF L] (vR L) (.ret (knowVR L,viewA 2002 (vKR L false))) (fun _=>[2000,2001]) args h)
    (cond (Nat.beq f 75) (match args with
      | [_,.agg [.int _ (.lit (.ofNat r)),_]]=>cond (Nat.ble (r + 1) L) (smallO (b + 2) (argsBL b L r) (vB b L false) (.ret (valBL r,viewA (b + 2) (vB b L false))) (fun _=>[]) args h) none
      | _=>none) none)
noncomputable def tbTP (b L:Nat):Tabs:=⟨Sx.Tryd.ft.get,lFind Sx.Tryd.rt,2000,orcTP b L⟩
theorem tabsTP {b L:Nat} (hb:b=2004 ∨ b=2001) (h0:1≤L) (hL:L≤6):TabOk (pBN L) Sx.Tryd.tt.get (tbTP b L):=by
  refine Tryd.tab (orcTP b L) (fun f args h t e=>?_) 2000
  unfold orcTP at e
  cases h1:Nat.beq f 18 with
  | true =>
    rw [h1,cond_true] at e
    rw [beq_t.1 h1]
    exact smallO_ok (CallOk.weak (ok0:=fun ρ _=>okB L ρ) (fun ρ m k=>k.1) (knowR_said h0 hL)) (by omega) rfl (viewR_ok h0 hL) e
  | false =>
    rw [h1,cond_false] at e
    obtain ⟨h2,e⟩:=cond_some e
    rw [beq_t.1 h2]
    split at e
    · obtain ⟨h3,e⟩:=cond_some e
      obtain ⟨_,hv,_⟩:=ckBL_all hb h0 hL
      exact smallO_ok (lastsB_dull hb h0 hL (ble_t.1 h3)) (by omega) (by rcases hb with rfl | rfl <;> rfl) hv e
    · cases e
noncomputable def planA (plan:List Nat):AV:=.sliceX 2000 1 0 (lLen plan)
noncomputable def carryC (plan:List Nat):List BE:=lMap (fun p=>.cmp .leq (.lit (Int.ofNat p)) (.var 65)) plan
noncomputable def runSt (L:Nat) (plan:List Nat):T (AV × Heap):=(evalN (tbTP 2004 L) 200 false 11 [bookF L,planA plan] (viewA 2001 (vP L plan))).bind fun r=>graftT 2001 (vP L plan) (viewA 2001 (vP L plan)) [] r
noncomputable def endSt (L:Nat) (plan:List Nat) (_:Kn) (q:AV × Heap):Bool:=and (eqAV q.1 (.tup [iA (surelyE plan),iA (perhapsE plan),ln 0])) (and (allO q.2 (vP L plan)) (Nat.beq q.2.next 2001))
noncomputable def ckSt (L:Nat) (plan:List Nat):Bool:=allW [] (endSt L plan) (runSt L plan) (knOf [] (carryC plan))
theorem ckSt1:lAll (ckSt 1) (plansL 1)=true:=by kernel_rfl
theorem ckSt2:lAll (ckSt 2) (plansL 2)=true:=by kernel_rfl
theorem ckSt3:lAll (ckSt 3) (plansL 3)=true:=by kernel_rfl
end Go.Sx
namespace Go.Sx
open Go.RowKit Go.Proofs
set_option maxRecDepth 100000
structure OkSt (L:Nat) (ρ:Rho):Prop where
  sure:∀ i plan,(plansL L)[i]?=some plan→ρ.iv (400 + i)=(surelyE plan).den ρ
  may:∀ i plan,(plansL L)[i]?=some plan→ρ.iv (464 + i)=(perhapsE plan).den ρ
def okSB (L:Nat) (ρ:Rho):Prop:=okBN L ρ∧OkSt L ρ
def okPB (L:Nat) (plan:List Nat) (ρ:Rho):Prop:=okSB L ρ∧∀ c ∈ carryC plan,c.den ρ=true
noncomputable def pP (L:Nat) (plan:List Nat):Par:=pOk fun ρ _=>okPB L plan ρ
theorem idsN (n:Nat):∀ l:List Nat,idsLts n (litsN l)=true
  | []=>rfl
  | _ :: l=>idsN n l
theorem vR_ids {L:Nat} (h0:1≤L) (hL:L≤6):lAll (fun g:Nat × AObj=>and (Nat.ble (g.1 + 1) 2001) (idsO 2001 g.2)) (vR L)=true:=by
  rcases six h0 hL with rfl | rfl | rfl | rfl | rfl | rfl <;> rfl
theorem viewP_ok {L:Nat} (h0:1≤L) (hL:L≤6) (plan:List Nat):viewOk 2001 (vP L plan)=true:=by
  unfold viewOk
  rw [Bool.and_eq_true]
  refine ⟨rfl,?_⟩
  unfold vP
  refine lAll_app (vR_ids h0 hL) (lAll_cons ?_ rfl)
  show and (Nat.ble 2001 2001) (idsLts 2001 (litsN plan))=true
  rw [idsN]; rfl
theorem kn_carry {L:Nat} {plan:List Nat} {ρ:Rho} (h:okPB L plan ρ):KnOk ρ (knOf [] (carryC plan)):=knOf_ok (fun c hc=>by cases hc) h.2
noncomputable def startsV (i:Nat):AV:=.tup [vj (400 + i),vj (464 + i),ln 0]
section
variable {L:Nat} (h0:1≤L) (hL:L≤6) {plan:List Nat}
include h0 hL
theorem starts_said {i:Nat} (hi:(plansL L)[i]?=some plan) (hck:ckSt L plan=true):CallOk (pP L plan) 11 [bookF L,planA plan] (viewA 2001 (vP L plan)) (.ret (startsV i,viewA 2001 (vP L plan))):=by
  have base:=eval_ok (tabsTP (b:=2004) (.inl rfl) h0 hL) 200 11 [bookF L,planA plan] (viewA 2001 (vP L plan))
  have up:upA 0 (vP L plan)=true:=rfl
  have fr:CallOk (pBN L) 11 [bookF L,planA plan] (viewA 2001 (vP L plan)) (runSt L plan):=base.frame (n:=2001) (l:=vP L plan) (by omega) rfl (viewP_ok h0 hL plan)
    (fun g hg=>⟨g.2,viewA_mem 2001 _ 0 up g hg,.refl _⟩) (by rw [viewA_next]; exact Nat.le_refl _) (fun _=>[])
  have fr':CallOk (pP L plan) 11 [bookF L,planA plan] (viewA 2001 (vP L plan)) (runSt L plan):=CallOk.weak (ok0:=fun ρ _=>okBN L ρ) (fun ρ m k=>k.1.1) fr
  refine CallOk.read (p0:=pP L plan) (p:=pP L plan) rfl fr' fun ρ b hok Q k=>⟨ρ,hok,SameL.refl _ _,⟨rfl,fun j o g=>⟨o,g,SameA.refl o⟩⟩,?_⟩
  obtain ⟨_,hA,_⟩:=hok
  have hA:okPB L plan ρ:=hA
  have k:Q (startsV i,viewA 2001 (vP L plan)):=k
  refine allW_ok (rules_nil ρ) (fun K q _ hq=>?_) (runSt L plan) _ (kn_carry hA) hck
  unfold endSt at hq
  simp only [Bool.and_eq_true] at hq
  obtain ⟨q1,q2,q3⟩:=hq
  refine ⟨_,k,by rw [eqAV_eq _ _ q1]; exact SameV.tup (SameL.cons (SameV.int (hA.1.2.sure i plan hi).symm) (SameL.cons (SameV.int (hA.1.2.may i plan hi).symm) (SameL.refl _ _))),(beq_t.1 q3).trans (viewA_next _ _).symm,fun j o g=>⟨o,allO_get q2 (viewA_get _ _ _ _ g),SameA.refl o⟩⟩
end
end Go.Sx
namespace Go.Sx
open Go.RowKit Go.Proofs
set_option maxRecDepth 100000
theorem plansN_mem:∀ (f n:Nat) (l:List Nat),l ∈ plansN f n→(∀ p ∈ l,1≤p)∧sumN l=n
  | 0,_,_,h=>by cases h
  | _ + 1,0,l,h=>by
    have h:l ∈ [[]]:=h
    rw [List.mem_singleton] at h
    subst h; exact ⟨fun p hp=>(by cases hp),rfl⟩
  | f + 1,n + 1,l,h=>by
    have h:l ∈ (upN (n + 1) 1).flatMap fun p=>(plansN f (n + 1 - p)).map fun l=>p :: l:=h
    obtain ⟨p,hp,h⟩:=List.mem_flatMap.1 h
    obtain ⟨m,hm,rfl⟩:=List.mem_map.1 h
    have hp:=upN_lt _ _ _ hp
    obtain ⟨h1,h2⟩:=plansN_mem f _ m hm
    refine ⟨fun q hq=>?_,by simp only [sumN,h2]; omega⟩
    rcases List.mem_cons.1 hq with rfl | hq
    · exact hp.1
    · exact h1 q hq
theorem sum_len:∀ (l:List Nat),(∀ p ∈ l,1≤p)→l.length≤sumN l
  | [],_=>Nat.le_refl _
  | p :: l,h=>by
    have:=h p List.mem_cons_self
    have:=sum_len l fun q hq=>h q (List.mem_cons_of_mem _ hq)
    simp only [List.length_cons,sumN]; omega
structure LastZ (L:Nat) (ρ:Rho):Prop where
  t0:∀ j,j < L→0≤ρ.iv (100 + 4 * j)∧ρ.iv (100 + 4 * j)≤ρ.iv (101 + 4 * j)∧ρ.iv (101 + 4 * j)≤24000
  t1:∀ j,j < L→0≤ρ.iv (102 + 4 * j)∧ρ.iv (102 + 4 * j)≤ρ.iv (103 + 4 * j)∧ρ.iv (103 + 4 * j)≤24000
  go:0≤ρ.iv 61∧ρ.iv 61≤ρ.iv 62∧ρ.iv 62≤3600
  back:0≤ρ.iv 63∧ρ.iv 63≤ρ.iv 64∧ρ.iv 64≤3600
theorem lastZ_of {L:Nat} (h0:1≤L) (hL:L≤6) {ρ:Rho} (h:okBN L ρ):LastZ L ρ:=by
  have b:=h.1.2.2.2
  have q:=ivC_in b.1
  have q1:=q (61,0,3600) (by simp [bookQ])
  have q2:=q (62,0,3600) (by simp [bookQ])
  have q3:=q (63,0,3600) (by simp [bookQ])
  have q4:=q (64,0,3600) (by simp [bookQ])
  have l1:=BE.t_leq.1 (b.2 (leV 61 62) (by simp [bookLe]))
  have l2:=BE.t_leq.1 (b.2 (leV 63 64) (by simp [bookLe]))
  simp only [IE.den_var] at l1 l2 q1 q2 q3 q4
  refine ⟨fun j hj=>?_,fun j hj=>?_,⟨q1.1,l1,q2.2⟩,⟨q3.1,l2,q4.2⟩⟩
  · have:=okN_in h0 hL h.1 h.2.1 hj (show 0 < 2 by omega)
    exact this
  · have:=okN_in h0 hL h.1 h.2.1 hj (show 1 < 2 by omega)
    rw [show 100 + 4 * j + 2 * 1=102 + 4 * j by omega,show 101 + 4 * j + 2 * 1=103 + 4 * j by omega] at this
    exact this
theorem LastZ.a {L:Nat} {ρ:Rho} (H:LastZ L ρ) {t e j:Nat} (ht:t < 2) (he:e < 2) (hj:j < L):0≤ρ.iv (100 + 4 * j + 2 * t + e)∧ρ.iv (100 + 4 * j + 2 * t + e)≤24000:=by
  have a:=H.t0 j hj
  have b:=H.t1 j hj
  rcases (by omega:t=0∧e=0 ∨ t=0∧e=1 ∨ t=1∧e=0 ∨ t=1∧e=1) with ⟨rfl,rfl⟩ | ⟨rfl,rfl⟩ | ⟨rfl,rfl⟩ | ⟨rfl,rfl⟩
  · rw [show 100 + 4 * j + 2 * 0 + 0=100 + 4 * j by omega]; omega
  · rw [show 100 + 4 * j + 2 * 0 + 1=101 + 4 * j by omega]; omega
  · rw [show 100 + 4 * j + 2 * 1 + 0=102 + 4 * j by omega]; omega
  · rw [show 100 + 4 * j + 2 * 1 + 1=103 + 4 * j by omega]; omega
def befZ (ρ:Rho) (t e:Nat):Nat→Int
  | 0=>0
  | n + 1=>befZ ρ t e n + ρ.iv (100 + 4 * n + 2 * t + e)
theorem befZ_in {L:Nat} {ρ:Rho} (H:LastZ L ρ) {t e:Nat} (ht:t < 2) (he:e < 2):∀ n,n≤L→0≤befZ ρ t e n∧befZ ρ t e n≤24000 * n
  | 0,_=>⟨Int.le_refl _,Int.le_refl _⟩
  | n + 1,hn=>by
    have i:=befZ_in H ht he n (by omega)
    have a:=H.a ht he (show n < L by omega)
    simp only [befZ]
    omega
theorem befE_den {L:Nat} (hL:L≤6) {ρ:Rho} (H:LastZ L ρ) {t e:Nat} (ht:t < 2) (he:e < 2):∀ n,n≤L→(befE t e n).den ρ=befZ ρ t e n
  | 0,_=>rfl
  | n + 1,hn=>by
    have i:=befZ_in H ht he n (by omega)
    have a:=H.a ht he (show n < L by omega)
    have e1:befE t e (n + 1)=adE (befE t e n) (aV t e n):=rfl
    rw [e1]
    unfold adE
    rw [IE.den_add,befE_den hL H ht he n (by omega)]
    show IntKind.i64.wrap (befZ ρ t e n + ρ.iv (100 + 4 * n + 2 * t + e))=_
    rw [wrap_sm (by omega) (by omega)]; rfl
theorem ten_den {ρ:Rho} {a:IE} (h0:-1000000≤a.den ρ) (h1:a.den ρ≤1000000):(tenE a).den ρ=10 * a.den ρ:=by
  unfold tenE
  rw [IE.den_mul,IE.den_lit]
  exact wrap_sm (by omega) (by omega)
theorem repE_mem {a x:IE}:∀ (n:Nat) (l:List IE),x ∈ repE a n l→x=a ∨ x ∈ l
  | 0,_,h=>.inr h
  | n + 1,l,h=>by
    have h:x ∈ a :: repE a n l:=h
    rcases List.mem_cons.1 h with h | h
    · exact .inl h
    · exact repE_mem n l h
theorem repE_len {a:IE}:∀ (n:Nat) (l:List IE),(repE a n l).length=n + l.length
  | 0,l=>(Nat.zero_add _).symm
  | n + 1,l=>by
    have e:repE a (n + 1) l=a :: repE a n l:=rfl
    rw [e,List.length_cons,repE_len n l]; omega
theorem atsE_cons (e p:Nat) (plan:List Nat) (next:Nat) (boy:IE):atsE e (p :: plan) next boy=repE (atE e (next + p) boy) p (atsE e plan (next + p) (adE (atE e (next + p) boy) (tenE (.var (63 + e))))):=rfl
theorem atsE_len (e:Nat):∀ (plan:List Nat) (next:Nat) (boy:IE),(atsE e plan next boy).length=sumN plan
  | [],_,_=>rfl
  | p :: plan,next,boy=>by rw [atsE_cons,repE_len,atsE_len e plan]; rfl
theorem at_den {L : Nat} (hL : L ≤ 6) {ρ : Rho} (H : LastZ L ρ) {e next : Nat} (he : e < 2) (hn : next ≤ L) {boy : IE} {M : Int} (h0 : 0 ≤ boy.den ρ) (h1 : boy.den ρ ≤ M) (hM : 144000 ≤ M) (hM2 : M ≤ 10000000) :
    (atE e next boy).den ρ=max (boy.den ρ) (befZ ρ 0 e next) + 10 * ρ.iv (61 + e)∧0≤(atE e next boy).den ρ∧(atE e next boy).den ρ≤M + 36000:=by
  have b:=befZ_in H (show 0 < 2 by omega) he next hn
  have g:0≤ρ.iv (61 + e)∧ρ.iv (61 + e)≤3600:=by
    have:=H.go
    rcases (by omega:e=0 ∨ e=1) with rfl | rfl
    · rw [show 61 + 0=61 by omega]; omega
    · rw [show 61 + 1=62 by omega]; omega
  have hd:(atE e next boy).den ρ=max (boy.den ρ) (befZ ρ 0 e next) + 10 * ρ.iv (61 + e):=by
    unfold atE adE
    rw [IE.den_add,IE.den_mx,befE_den hL H (by omega) he next hn,ten_den (by rw [IE.den_var]; omega) (by rw [IE.den_var]; omega),IE.den_var]
    exact wrap_sm (by omega) (by omega)
  refine ⟨hd,?_,?_⟩ <;> rw [hd] <;> omega
theorem boy_den {L : Nat} {ρ : Rho} (H : LastZ L ρ) {e : Nat} (he : e < 2) {x : IE} {M : Int} (h0 : 0 ≤ x.den ρ) (h1 : x.den ρ ≤ M) (hM : M ≤ 10000000) :
    (adE x (tenE (.var (63 + e)))).den ρ=x.den ρ + 10 * ρ.iv (63 + e)∧0≤(adE x (tenE (.var (63 + e)))).den ρ∧(adE x (tenE (.var (63 + e)))).den ρ≤M + 36000:=by
  have g:0≤ρ.iv (63 + e)∧ρ.iv (63 + e)≤3600:=by
    have:=H.back
    rcases (by omega:e=0 ∨ e=1) with rfl | rfl
    · rw [show 63 + 0=63 by omega]; omega
    · rw [show 63 + 1=64 by omega]; omega
  have hd:(adE x (tenE (.var (63 + e)))).den ρ=x.den ρ + 10 * ρ.iv (63 + e):=by
    unfold adE
    rw [IE.den_add,ten_den (by rw [IE.den_var]; omega) (by rw [IE.den_var]; omega),IE.den_var]
    exact wrap_sm (by omega) (by omega)
  refine ⟨hd,?_,?_⟩ <;> rw [hd] <;> omega
theorem atsE_in {L : Nat} (hL : L ≤ 6) {ρ : Rho} (H : LastZ L ρ) {e : Nat} (he : e < 2) : ∀ (plan : List Nat) (next : Nat) (boy : IE) (k : Nat), next + sumN plan ≤ L → plan.length + k ≤ 6 → 0 ≤ boy.den ρ → boy.den ρ ≤ 144000 + 72000 * k →
    ∀ x ∈ atsE e plan next boy,0≤x.den ρ∧x.den ρ≤600000
  | [],_,_,_,_,_,_,_,x,hx=>by cases hx
  | p :: plan,next,boy,k,hn,hk,h0,h1,x,hx=>by
    simp only [sumN,List.length_cons] at hn hk
    have a:=at_den hL H (next:=next + p) he (by omega) h0 h1 (by omega) (by omega)
    rw [atsE_cons] at hx
    rcases repE_mem _ _ hx with rfl | hx
    · omega
    · have b:=boy_den H he a.2.1 a.2.2 (by omega)
      exact atsE_in hL H he plan (next + p) _ (k + 1) (by omega) (by omega) b.2.1 (by have:=b.2.2; push_cast; omega) x hx
theorem lateE_cons (e2:Nat) (a:IE) (l:List IE) (i:Nat) (acc:IE):lateE e2 (a :: l) i acc=lateE e2 l (i + 1) (.mx acc (sbE a (befE 1 e2 i))):=rfl
theorem lateE_den {L : Nat} (hL : L ≤ 6) {ρ : Rho} (H : LastZ L ρ) {e2 : Nat} (he : e2 < 2) : ∀ (l : List IE) (i : Nat) (acc : IE), i + l.length ≤ L → (∀ x ∈ l, 0 ≤ x.den ρ ∧ x.den ρ ≤ 600000) → 0 ≤ acc.den ρ → acc.den ρ ≤ 600000 →
    acc.den ρ≤(lateE e2 l i acc).den ρ∧(lateE e2 l i acc).den ρ≤600000∧(∀ k x,l[k]?=some x→x.den ρ - befZ ρ 1 e2 (i + k)≤(lateE e2 l i acc).den ρ) ∧
      ((lateE e2 l i acc).den ρ=acc.den ρ ∨ ∃ k x,l[k]?=some x∧(lateE e2 l i acc).den ρ=x.den ρ - befZ ρ 1 e2 (i + k))
  | [],i,acc,_,_,h0,h1=>⟨Int.le_refl _,h1,fun k x h=>by simp at h,.inl rfl⟩
  | a :: l,i,acc,hi,hl,h0,h1=>by
    simp only [List.length_cons] at hi
    have ha:=hl a List.mem_cons_self
    have b:=befZ_in H (show 1 < 2 by omega) he i (by omega)
    have hs:(sbE a (befE 1 e2 i)).den ρ=a.den ρ - befZ ρ 1 e2 i:=by
      unfold sbE
      rw [IE.den_sub,befE_den hL H (by omega) he i (by omega)]
      exact wrap_sm (by omega) (by omega)
    have hm:(IE.mx acc (sbE a (befE 1 e2 i))).den ρ=max (acc.den ρ) (a.den ρ - befZ ρ 1 e2 i):=by rw [IE.den_mx,hs]
    obtain ⟨r1,r2,r3,r4⟩:=lateE_den hL H he l (i + 1) (.mx acc (sbE a (befE 1 e2 i))) (by omega) (fun x hx=>hl x (List.mem_cons_of_mem _ hx)) (by rw [hm]; omega) (by rw [hm]; omega)
    rw [lateE_cons]
    rw [hm] at r1 r4
    refine ⟨by omega,r2,fun k x hx=>?_,?_⟩
    · cases k with
      | zero=>simp only [List.getElem?_cons_zero,Option.some.injEq] at hx; subst hx; rw [Nat.add_zero]; omega
      | succ k =>
        rw [List.getElem?_cons_succ] at hx
        have:=r3 k x hx
        rw [show i + (k + 1)=i + 1 + k by omega]; exact this
    · rcases r4 with r4 | ⟨k,x,hx,r4⟩
      · by_cases h:acc.den ρ≤a.den ρ - befZ ρ 1 e2 i
        · exact .inr ⟨0,a,rfl,by rw [r4,Nat.add_zero]; omega⟩
        · exact .inl (by omega)
      · exact .inr ⟨k + 1,x,by rw [List.getElem?_cons_succ]; exact hx,by rw [r4,show i + (k + 1)=i + 1 + k by omega]⟩
theorem sec_den {ρ:Rho} {x:IE} (h0:0≤x.den ρ) (h1:x.den ρ≤600000):0≤(secE x).den ρ∧(secE x).den ρ≤100000∧x.den ρ≤10 * (secE x).den ρ∧10 * (secE x).den ρ≤x.den ρ + 9:=by
  have e:(secE x).den ρ=(x.den ρ + 10 - 1) / 10:=by
    have d:(sbE (adE x (.lit 10)) (.lit 1)).den ρ=x.den ρ + 10 - 1:=by
      unfold sbE adE
      have w:IntKind.i64.wrap (x.den ρ + 10)=x.den ρ + 10:=wrap_sm (by omega) (by omega)
      rw [IE.den_sub,IE.den_add,IE.den_lit,IE.den_lit,w]
      exact wrap_sm (by omega) (by omega)
    have:(secE x).den ρ=IntKind.i64.wrap ((sbE (adE x (.lit 10)) (.lit 1)).den ρ |>.tdiv 10):=rfl
    rw [this,d,Int.tdiv_eq_ediv_of_nonneg (by omega)]
    exact wrap_sm (by omega) (by omega)
  rw [e]
  omega
end Go.Sx
namespace Go.Sx
open Go.RowKit Go.Proofs
set_option maxRecDepth 100000
noncomputable def orcS (L:Nat) (f:FuncId) (args:List AV) (h:Heap):Option (T (AV × Heap)) :=
  cond (Nat.beq f 18) (smallO 2000 [bookF L] (vR L) (.ret (knowVR L,viewA 2002 (vKR L false))) (fun _=>[2000,2001]) args h) none
noncomputable def tbS (L:Nat):Tabs:=⟨Sx.Tryd.ft.get,lFind Sx.Tryd.rt,2000,orcS L⟩
theorem tabsS {L:Nat} (h0:1≤L) (hL:L≤6):TabOk (pB L) Sx.Tryd.tt.get (tbS L):=by
  refine Tryd.tab (orcS L) (fun f args h t e=>?_) 2000
  unfold orcS at e
  obtain ⟨h1,e⟩:=cond_some e
  rw [beq_t.1 h1]
  exact smallO_ok (knowR_said h0 hL) (by omega) rfl (viewR_ok h0 hL) e
noncomputable def runSB (L:Nat):T (AV × Heap):=(evalN (tbS L) 100 false 7 [bookF L] (viewA 2000 (vR L))).bind fun r=>graftT 2000 (vR L) (viewA 2000 (vR L)) [] r
noncomputable def endSB (L:Nat) (_:Kn) (q:AV × Heap):Bool:=and (eqAV q.1 (tag true)) (and (allO q.2 (vR L)) (Nat.beq q.2.next 2000))
noncomputable def ckSB (L:Nat):Bool:=allW [] (endSB L) (runSB L) (knOf (filmQ L ++ bookQ) (filmC L ++ bookLe))
theorem ckSB1:ckSB 1=true:=by kernel_rfl
theorem ckSB2:ckSB 2=true:=by kernel_rfl
theorem ckSB3:ckSB 3=true:=by kernel_rfl
theorem ckSB4:ckSB 4=true:=by kernel_rfl
theorem ckSB5:ckSB 5=true:=by kernel_rfl
theorem ckSB6:ckSB 6=true:=by kernel_rfl
theorem ckSB_all {L:Nat} (h0:1≤L) (hL:L≤6):ckSB L=true:=by
  rcases six h0 hL with rfl | rfl | rfl | rfl | rfl | rfl
  · exact ckSB1
  · exact ckSB2
  · exact ckSB3
  · exact ckSB4
  · exact ckSB5
  · exact ckSB6
theorem ivC_app:∀ (l m:List (Nat × Int × Int)),ivC (l ++ m)=ivC l ++ ivC m
  | [],_=>rfl
  | q :: l,m=>by simp only [List.cons_append,ivC,ivC_app l m]
theorem okB_kn {L:Nat} {ρ:Rho} (h:okB L ρ):KnOk ρ (knOf (filmQ L ++ bookQ) (filmC L ++ bookLe)):=by
  refine knOf_ok (fun c hc=>?_) fun c hc=>?_
  · rw [ivC_app] at hc
    rcases List.mem_append.1 hc with hc | hc
    · exact h.2.1.1 c hc
    · exact h.2.2.2.1 c hc
  · rcases List.mem_append.1 hc with hc | hc
    · exact h.2.1.2 c hc
    · exact h.2.2.2.2 c hc
theorem soundB_said {L:Nat} (h0:1≤L) (hL:L≤6):CallOk (pB L) 7 [bookF L] (viewA 2000 (vR L)) (.ret (tag true,viewA 2000 (vR L))):=by
  have base:=eval_ok (tabsS h0 hL) 100 7 [bookF L] (viewA 2000 (vR L))
  have up:upA 0 (vR L)=true:=rfl
  have fr:CallOk (pB L) 7 [bookF L] (viewA 2000 (vR L)) (runSB L):=base.frame (n:=2000) (l:=vR L) (by omega) rfl (viewR_ok h0 hL)
    (fun g hg=>⟨g.2,viewA_mem 2000 _ 0 up g hg,.refl _⟩) (by rw [viewA_next]; exact Nat.le_refl _) (fun _=>[])
  refine CallOk.read (p0:=pB L) (p:=pB L) rfl fr fun ρ b hok Q k=>⟨ρ,hok,SameL.refl _ _,⟨rfl,fun j o g=>⟨o,g,SameA.refl o⟩⟩,?_⟩
  obtain ⟨_,hA,_⟩:=hok
  have hA:okB L ρ:=hA
  have k:Q (tag true,viewA 2000 (vR L)):=k
  refine allW_ok (rules_nil ρ) (fun K q _ hq=>?_) (runSB L) _ (okB_kn hA) (ckSB_all h0 hL)
  unfold endSB at hq
  simp only [Bool.and_eq_true] at hq
  obtain ⟨q1,q2,q3⟩:=hq
  exact ⟨_,k,by rw [eqAV_eq _ _ q1]; exact SameV.refl _ _,(beq_t.1 q3).trans (viewA_next _ _).symm,fun j o g=>⟨o,allO_get q2 (viewA_get _ _ _ _ g),SameA.refl o⟩⟩
end Go.Sx
namespace Go.Sx
open Go.RowKit Go.Proofs
noncomputable def pruneT (t:T (AV × Heap)):Kn→T (AV × Heap):=@T.rec (AV × Heap) (fun _=>Kn→T (AV × Heap)) (fun a _=>.ret a) (fun c _ _ x y K=>match decK K c with
  | some b=>cond b (x K) (y K)
  | none=>.br c (x K) (y K)) (fun w _=>.fail w) t
theorem pruneT_holds {ρ:Rho} {K:Kn} (H:KnOk ρ K) {R:AV × Heap→Prop}:∀ t:T (AV × Heap),(pruneT t K).Holds ρ R→t.Holds ρ R
  | .ret _,h=>h
  | .fail _,h=>h
  | .br c x y,h=>by
    have h:(match decK K c with
      | some b=>cond b (pruneT x K) (pruneT y K)
      | none=>.br c (pruneT x K) (pruneT y K)).Holds ρ R:=h
    cases hd:decK K c with
    | none =>
      rw [hd] at h
      simp only [T.Holds] at h ⊢
      split
      · rename_i hc; rw [if_pos hc] at h; exact pruneT_holds H x h
      · rename_i hc; rw [if_neg hc] at h; exact pruneT_holds H y h
    | some b =>
      rw [hd] at h
      have hc:=decK_ok H c b hd
      simp only [T.Holds]
      cases b with
      | true=>rw [if_pos hc]; exact pruneT_holds H x h
      | false=>rw [if_neg (by rw [hc]; exact Bool.false_ne_true)]; exact pruneT_holds H y h
end Go.Sx
namespace Go.Sx
open Go.RowKit Go.Proofs
set_option maxRecDepth 100000
structure Node where
  id:Nat
  pre:List Nat
  rest:Nat
  arrB:List Nat
  arrA:List Nat
  kids:List Nat
noncomputable def nodes11:List Node:=[⟨32,[],1,[0,0,0,0,0,0],[1,0,0,0,0,0],[0]⟩,⟨0,[1],0,[1,0,0,0,0,0],[1,0,0,0,0,0],[]⟩]
noncomputable def nodes21:List Node:=[⟨32,[],2,[0,0,0,0,0,0],[1,1,0,0,0,0],[33]⟩,⟨33,[1],1,[1,0,0,0,0,0],[1,1,0,0,0,0],[0]⟩,⟨0,[1,1],0,[1,1,0,0,0,0],[1,1,0,0,0,0],[]⟩]
noncomputable def nodes22:List Node:=[⟨32,[],2,[0,0,0,0,0,0],[2,1,0,0,0,0],[33,1]⟩,⟨33,[1],1,[1,0,0,0,0,0],[1,1,0,0,0,0],[0]⟩,⟨0,[1,1],0,[1,1,0,0,0,0],[1,1,0,0,0,0],[]⟩,⟨1,[2],0,[2,1,0,0,0,0],[2,1,0,0,0,0],[]⟩]
noncomputable def nodes31:List Node:=[⟨32,[],3,[0,0,0,0,0,0],[1,1,1,0,0,0],[33]⟩,⟨33,[1],2,[1,0,0,0,0,0],[1,1,1,0,0,0],[34]⟩,⟨34,[1,1],1,[1,1,0,0,0,0],[1,1,1,0,0,0],[0]⟩,⟨0,[1,1,1],0,[1,1,1,0,0,0],[1,1,1,0,0,0],[]⟩]
noncomputable def nodes32:List Node:=[⟨32,[],3,[0,0,0,0,0,0],[2,1,1,0,0,0],[33,35]⟩,⟨33,[1],2,[1,0,0,0,0,0],[1,2,1,0,0,0],[34,1]⟩,⟨34,[1,1],1,[1,1,0,0,0,0],[1,1,1,0,0,0],[0]⟩,⟨0,[1,1,1],0,[1,1,1,0,0,0],[1,1,1,0,0,0],[]⟩,⟨1,[1,2],0,[1,2,1,0,0,0],[1,2,1,0,0,0],[]⟩,⟨35,[2],1,[2,2,1,0,0,0],[2,1,1,0,0,0],[2]⟩,⟨2,[2,1],0,[2,1,1,0,0,0],[2,1,1,0,0,0],[]⟩]
noncomputable def nodes33:List Node:=[⟨32,[],3,[0,0,0,0,0,0],[3,1,1,0,0,0],[33,35,3]⟩,⟨33,[1],2,[1,0,0,0,0,0],[1,2,1,0,0,0],[34,1]⟩,⟨34,[1,1],1,[1,1,0,0,0,0],[1,1,1,0,0,0],[0]⟩,⟨0,[1,1,1],0,[1,1,1,0,0,0],[1,1,1,0,0,0],[]⟩,⟨1,[1,2],0,[1,2,1,0,0,0],[1,2,1,0,0,0],[]⟩,⟨35,[2],1,[2,2,1,0,0,0],[2,1,1,0,0,0],[2]⟩,⟨2,[2,1],0,[2,1,1,0,0,0],[2,1,1,0,0,0],[]⟩,⟨3,[3],0,[3,1,1,0,0,0],[3,1,1,0,0,0],[]⟩]
noncomputable def nodes41:List Node:=[⟨32,[],4,[0,0,0,0,0,0],[1,1,1,1,0,0],[33]⟩,⟨33,[1],3,[1,0,0,0,0,0],[1,1,1,1,0,0],[34]⟩,⟨34,[1,1],2,[1,1,0,0,0,0],[1,1,1,1,0,0],[35]⟩,⟨35,[1,1,1],1,[1,1,1,0,0,0],[1,1,1,1,0,0],[0]⟩,⟨0,[1,1,1,1],0,[1,1,1,1,0,0],[1,1,1,1,0,0],[]⟩]
noncomputable def nodes42:List Node:=[⟨32,[],4,[0,0,0,0,0,0],[2,2,1,1,0,0],[33,37]⟩,⟨33,[1],3,[1,0,0,0,0,0],[1,2,1,1,0,0],[34,36]⟩,⟨34,[1,1],2,[1,1,0,0,0,0],[1,1,2,1,0,0],[35,1]⟩,⟨35,[1,1,1],1,[1,1,1,0,0,0],[1,1,1,1,0,0],[0]⟩,⟨0,[1,1,1,1],0,[1,1,1,1,0,0],[1,1,1,1,0,0],[]⟩,⟨1,[1,1,2],0,[1,1,2,1,0,0],[1,1,2,1,0,0],[]⟩,⟨36,[1,2],1,[1,2,2,1,0,0],[1,2,1,1,0,0],[2]⟩,⟨2,[1,2,1],0,[1,2,1,1,0,0],[1,2,1,1,0,0],[]⟩,⟨37,[2],2,[2,2,1,1,0,0],[2,2,1,1,0,0],[38,5]⟩,⟨38,[2,1],1,[2,1,1,1,0,0],[2,1,1,1,0,0],[4]⟩,⟨4,[2,1,1],0,[2,1,1,1,0,0],[2,1,1,1,0,0],[]⟩,⟨5,[2,2],0,[2,2,1,1,0,0],[2,2,1,1,0,0],[]⟩]
noncomputable def nodes43:List Node:=[⟨32,[],4,[0,0,0,0,0,0],[3,1,1,1,0,0],[33,37,39]⟩,⟨33,[1],3,[1,0,0,0,0,0],[1,3,1,1,0,0],[34,36,3]⟩,⟨34,[1,1],2,[1,1,0,0,0,0],[1,1,2,1,0,0],[35,1]⟩,⟨35,[1,1,1],1,[1,1,1,0,0,0],[1,1,1,1,0,0],[0]⟩,⟨0,[1,1,1,1],0,[1,1,1,1,0,0],[1,1,1,1,0,0],[]⟩,⟨1,[1,1,2],0,[1,1,2,1,0,0],[1,1,2,1,0,0],[]⟩,⟨36,[1,2],1,[1,2,2,1,0,0],[1,2,1,1,0,0],[2]⟩,⟨2,[1,2,1],0,[1,2,1,1,0,0],[1,2,1,1,0,0],[]⟩,⟨3,[1,3],0,[1,3,1,1,0,0],[1,3,1,1,0,0],[]⟩,⟨37,[2],2,[2,3,1,1,0,0],[2,2,1,1,0,0],[38,5]⟩,⟨38,[2,1],1,[2,1,1,1,0,0],[2,1,1,1,0,0],[4]⟩,⟨4,[2,1,1],0,[2,1,1,1,0,0],[2,1,1,1,0,0],[]⟩,⟨5,[2,2],0,[2,2,1,1,0,0],[2,2,1,1,0,0],[]⟩,⟨39,[3],1,[3,2,1,1,0,0],[3,1,1,1,0,0],[6]⟩,⟨6,[3,1],0,[3,1,1,1,0,0],[3,1,1,1,0,0],[]⟩]
noncomputable def nodes44:List Node:=[⟨32,[],4,[0,0,0,0,0,0],[4,1,1,1,0,0],[33,37,39,7]⟩,⟨33,[1],3,[1,0,0,0,0,0],[1,3,1,1,0,0],[34,36,3]⟩,⟨34,[1,1],2,[1,1,0,0,0,0],[1,1,2,1,0,0],[35,1]⟩,⟨35,[1,1,1],1,[1,1,1,0,0,0],[1,1,1,1,0,0],[0]⟩,⟨0,[1,1,1,1],0,[1,1,1,1,0,0],[1,1,1,1,0,0],[]⟩,⟨1,[1,1,2],0,[1,1,2,1,0,0],[1,1,2,1,0,0],[]⟩,⟨36,[1,2],1,[1,2,2,1,0,0],[1,2,1,1,0,0],[2]⟩,⟨2,[1,2,1],0,[1,2,1,1,0,0],[1,2,1,1,0,0],[]⟩,⟨3,[1,3],0,[1,3,1,1,0,0],[1,3,1,1,0,0],[]⟩,⟨37,[2],2,[2,3,1,1,0,0],[2,2,1,1,0,0],[38,5]⟩,⟨38,[2,1],1,[2,1,1,1,0,0],[2,1,1,1,0,0],[4]⟩,⟨4,[2,1,1],0,[2,1,1,1,0,0],[2,1,1,1,0,0],[]⟩,⟨5,[2,2],0,[2,2,1,1,0,0],[2,2,1,1,0,0],[]⟩,⟨39,[3],1,[3,2,1,1,0,0],[3,1,1,1,0,0],[6]⟩,⟨6,[3,1],0,[3,1,1,1,0,0],[3,1,1,1,0,0],[]⟩,⟨7,[4],0,[4,1,1,1,0,0],[4,1,1,1,0,0],[]⟩]
noncomputable def nodes51:List Node:=[⟨32,[],5,[0,0,0,0,0,0],[1,1,1,1,1,0],[33]⟩,⟨33,[1],4,[1,0,0,0,0,0],[1,1,1,1,1,0],[34]⟩,⟨34,[1,1],3,[1,1,0,0,0,0],[1,1,1,1,1,0],[35]⟩,⟨35,[1,1,1],2,[1,1,1,0,0,0],[1,1,1,1,1,0],[36]⟩,⟨36,[1,1,1,1],1,[1,1,1,1,0,0],[1,1,1,1,1,0],[0]⟩,⟨0,[1,1,1,1,1],0,[1,1,1,1,1,0],[1,1,1,1,1,0],[]⟩]
noncomputable def nodes52:List Node:=[⟨32,[],5,[0,0,0,0,0,0],[2,2,1,1,1,0],[33,41]⟩,⟨33,[1],4,[1,0,0,0,0,0],[1,2,2,1,1,0],[34,38]⟩,⟨34,[1,1],3,[1,1,0,0,0,0],[1,1,2,1,1,0],[35,37]⟩,⟨35,[1,1,1],2,[1,1,1,0,0,0],[1,1,1,2,1,0],[36,1]⟩,⟨36,[1,1,1,1],1,[1,1,1,1,0,0],[1,1,1,1,1,0],[0]⟩,⟨0,[1,1,1,1,1],0,[1,1,1,1,1,0],[1,1,1,1,1,0],[]⟩,⟨1,[1,1,1,2],0,[1,1,1,2,1,0],[1,1,1,2,1,0],[]⟩,⟨37,[1,1,2],1,[1,1,2,2,1,0],[1,1,2,1,1,0],[2]⟩,⟨2,[1,1,2,1],0,[1,1,2,1,1,0],[1,1,2,1,1,0],[]⟩,⟨38,[1,2],2,[1,2,2,1,1,0],[1,2,2,1,1,0],[39,5]⟩,⟨39,[1,2,1],1,[1,2,1,1,1,0],[1,2,1,1,1,0],[4]⟩,⟨4,[1,2,1,1],0,[1,2,1,1,1,0],[1,2,1,1,1,0],[]⟩,⟨5,[1,2,2],0,[1,2,2,1,1,0],[1,2,2,1,1,0],[]⟩,⟨41,[2],3,[2,2,2,1,1,0],[2,2,1,1,1,0],[42,44]⟩,⟨42,[2,1],2,[2,1,2,1,1,0],[2,1,2,1,1,0],[43,9]⟩,⟨43,[2,1,1],1,[2,1,1,1,1,0],[2,1,1,1,1,0],[8]⟩,⟨8,[2,1,1,1],0,[2,1,1,1,1,0],[2,1,1,1,1,0],[]⟩,⟨9,[2,1,2],0,[2,1,2,1,1,0],[2,1,2,1,1,0],[]⟩,⟨44,[2,2],1,[2,2,2,1,1,0],[2,2,1,1,1,0],[10]⟩,⟨10,[2,2,1],0,[2,2,1,1,1,0],[2,2,1,1,1,0],[]⟩]
noncomputable def nodes53:List Node:=[⟨32,[],5,[0,0,0,0,0,0],[3,2,1,1,1,0],[33,41,45]⟩,⟨33,[1],4,[1,0,0,0,0,0],[1,3,1,1,1,0],[34,38,40]⟩,⟨34,[1,1],3,[1,1,0,0,0,0],[1,1,3,1,1,0],[35,37,3]⟩,⟨35,[1,1,1],2,[1,1,1,0,0,0],[1,1,1,2,1,0],[36,1]⟩,⟨36,[1,1,1,1],1,[1,1,1,1,0,0],[1,1,1,1,1,0],[0]⟩,⟨0,[1,1,1,1,1],0,[1,1,1,1,1,0],[1,1,1,1,1,0],[]⟩,⟨1,[1,1,1,2],0,[1,1,1,2,1,0],[1,1,1,2,1,0],[]⟩,⟨37,[1,1,2],1,[1,1,2,2,1,0],[1,1,2,1,1,0],[2]⟩,⟨2,[1,1,2,1],0,[1,1,2,1,1,0],[1,1,2,1,1,0],[]⟩,⟨3,[1,1,3],0,[1,1,3,1,1,0],[1,1,3,1,1,0],[]⟩,⟨38,[1,2],2,[1,2,3,1,1,0],[1,2,2,1,1,0],[39,5]⟩,⟨39,[1,2,1],1,[1,2,1,1,1,0],[1,2,1,1,1,0],[4]⟩,⟨4,[1,2,1,1],0,[1,2,1,1,1,0],[1,2,1,1,1,0],[]⟩,⟨5,[1,2,2],0,[1,2,2,1,1,0],[1,2,2,1,1,0],[]⟩,⟨40,[1,3],1,[1,3,2,1,1,0],[1,3,1,1,1,0],[6]⟩,⟨6,[1,3,1],0,[1,3,1,1,1,0],[1,3,1,1,1,0],[]⟩,⟨41,[2],3,[2,3,1,1,1,0],[2,3,1,1,1,0],[42,44,11]⟩,⟨42,[2,1],2,[2,1,1,1,1,0],[2,1,2,1,1,0],[43,9]⟩,⟨43,[2,1,1],1,[2,1,1,1,1,0],[2,1,1,1,1,0],[8]⟩,⟨8,[2,1,1,1],0,[2,1,1,1,1,0],[2,1,1,1,1,0],[]⟩,⟨9,[2,1,2],0,[2,1,2,1,1,0],[2,1,2,1,1,0],[]⟩,⟨44,[2,2],1,[2,2,2,1,1,0],[2,2,1,1,1,0],[10]⟩,⟨10,[2,2,1],0,[2,2,1,1,1,0],[2,2,1,1,1,0],[]⟩,⟨11,[2,3],0,[2,3,1,1,1,0],[2,3,1,1,1,0],[]⟩,⟨45,[3],2,[3,3,1,1,1,0],[3,2,1,1,1,0],[46,13]⟩,⟨46,[3,1],1,[3,1,1,1,1,0],[3,1,1,1,1,0],[12]⟩,⟨12,[3,1,1],0,[3,1,1,1,1,0],[3,1,1,1,1,0],[]⟩,⟨13,[3,2],0,[3,2,1,1,1,0],[3,2,1,1,1,0],[]⟩]
noncomputable def nodes54:List Node:=[⟨32,[],5,[0,0,0,0,0,0],[4,1,1,1,1,0],[33,41,45,47]⟩,⟨33,[1],4,[1,0,0,0,0,0],[1,4,1,1,1,0],[34,38,40,7]⟩,⟨34,[1,1],3,[1,1,0,0,0,0],[1,1,3,1,1,0],[35,37,3]⟩,⟨35,[1,1,1],2,[1,1,1,0,0,0],[1,1,1,2,1,0],[36,1]⟩,⟨36,[1,1,1,1],1,[1,1,1,1,0,0],[1,1,1,1,1,0],[0]⟩,⟨0,[1,1,1,1,1],0,[1,1,1,1,1,0],[1,1,1,1,1,0],[]⟩,⟨1,[1,1,1,2],0,[1,1,1,2,1,0],[1,1,1,2,1,0],[]⟩,⟨37,[1,1,2],1,[1,1,2,2,1,0],[1,1,2,1,1,0],[2]⟩,⟨2,[1,1,2,1],0,[1,1,2,1,1,0],[1,1,2,1,1,0],[]⟩,⟨3,[1,1,3],0,[1,1,3,1,1,0],[1,1,3,1,1,0],[]⟩,⟨38,[1,2],2,[1,2,3,1,1,0],[1,2,2,1,1,0],[39,5]⟩,⟨39,[1,2,1],1,[1,2,1,1,1,0],[1,2,1,1,1,0],[4]⟩,⟨4,[1,2,1,1],0,[1,2,1,1,1,0],[1,2,1,1,1,0],[]⟩,⟨5,[1,2,2],0,[1,2,2,1,1,0],[1,2,2,1,1,0],[]⟩,⟨40,[1,3],1,[1,3,2,1,1,0],[1,3,1,1,1,0],[6]⟩,⟨6,[1,3,1],0,[1,3,1,1,1,0],[1,3,1,1,1,0],[]⟩,⟨7,[1,4],0,[1,4,1,1,1,0],[1,4,1,1,1,0],[]⟩,⟨41,[2],3,[2,4,1,1,1,0],[2,3,1,1,1,0],[42,44,11]⟩,⟨42,[2,1],2,[2,1,1,1,1,0],[2,1,2,1,1,0],[43,9]⟩,⟨43,[2,1,1],1,[2,1,1,1,1,0],[2,1,1,1,1,0],[8]⟩,⟨8,[2,1,1,1],0,[2,1,1,1,1,0],[2,1,1,1,1,0],[]⟩,⟨9,[2,1,2],0,[2,1,2,1,1,0],[2,1,2,1,1,0],[]⟩,⟨44,[2,2],1,[2,2,2,1,1,0],[2,2,1,1,1,0],[10]⟩,⟨10,[2,2,1],0,[2,2,1,1,1,0],[2,2,1,1,1,0],[]⟩,⟨11,[2,3],0,[2,3,1,1,1,0],[2,3,1,1,1,0],[]⟩,⟨45,[3],2,[3,3,1,1,1,0],[3,2,1,1,1,0],[46,13]⟩,⟨46,[3,1],1,[3,1,1,1,1,0],[3,1,1,1,1,0],[12]⟩,⟨12,[3,1,1],0,[3,1,1,1,1,0],[3,1,1,1,1,0],[]⟩,⟨13,[3,2],0,[3,2,1,1,1,0],[3,2,1,1,1,0],[]⟩,⟨47,[4],1,[4,2,1,1,1,0],[4,1,1,1,1,0],[14]⟩,⟨14,[4,1],0,[4,1,1,1,1,0],[4,1,1,1,1,0],[]⟩]
noncomputable def nodes55:List Node:=[⟨32,[],5,[0,0,0,0,0,0],[5,1,1,1,1,0],[33,41,45,47,15]⟩,⟨33,[1],4,[1,0,0,0,0,0],[1,4,1,1,1,0],[34,38,40,7]⟩,⟨34,[1,1],3,[1,1,0,0,0,0],[1,1,3,1,1,0],[35,37,3]⟩,⟨35,[1,1,1],2,[1,1,1,0,0,0],[1,1,1,2,1,0],[36,1]⟩,⟨36,[1,1,1,1],1,[1,1,1,1,0,0],[1,1,1,1,1,0],[0]⟩,⟨0,[1,1,1,1,1],0,[1,1,1,1,1,0],[1,1,1,1,1,0],[]⟩,⟨1,[1,1,1,2],0,[1,1,1,2,1,0],[1,1,1,2,1,0],[]⟩,⟨37,[1,1,2],1,[1,1,2,2,1,0],[1,1,2,1,1,0],[2]⟩,⟨2,[1,1,2,1],0,[1,1,2,1,1,0],[1,1,2,1,1,0],[]⟩,⟨3,[1,1,3],0,[1,1,3,1,1,0],[1,1,3,1,1,0],[]⟩,⟨38,[1,2],2,[1,2,3,1,1,0],[1,2,2,1,1,0],[39,5]⟩,⟨39,[1,2,1],1,[1,2,1,1,1,0],[1,2,1,1,1,0],[4]⟩,⟨4,[1,2,1,1],0,[1,2,1,1,1,0],[1,2,1,1,1,0],[]⟩,⟨5,[1,2,2],0,[1,2,2,1,1,0],[1,2,2,1,1,0],[]⟩,⟨40,[1,3],1,[1,3,2,1,1,0],[1,3,1,1,1,0],[6]⟩,⟨6,[1,3,1],0,[1,3,1,1,1,0],[1,3,1,1,1,0],[]⟩,⟨7,[1,4],0,[1,4,1,1,1,0],[1,4,1,1,1,0],[]⟩,⟨41,[2],3,[2,4,1,1,1,0],[2,3,1,1,1,0],[42,44,11]⟩,⟨42,[2,1],2,[2,1,1,1,1,0],[2,1,2,1,1,0],[43,9]⟩,⟨43,[2,1,1],1,[2,1,1,1,1,0],[2,1,1,1,1,0],[8]⟩,⟨8,[2,1,1,1],0,[2,1,1,1,1,0],[2,1,1,1,1,0],[]⟩,⟨9,[2,1,2],0,[2,1,2,1,1,0],[2,1,2,1,1,0],[]⟩,⟨44,[2,2],1,[2,2,2,1,1,0],[2,2,1,1,1,0],[10]⟩,⟨10,[2,2,1],0,[2,2,1,1,1,0],[2,2,1,1,1,0],[]⟩,⟨11,[2,3],0,[2,3,1,1,1,0],[2,3,1,1,1,0],[]⟩,⟨45,[3],2,[3,3,1,1,1,0],[3,2,1,1,1,0],[46,13]⟩,⟨46,[3,1],1,[3,1,1,1,1,0],[3,1,1,1,1,0],[12]⟩,⟨12,[3,1,1],0,[3,1,1,1,1,0],[3,1,1,1,1,0],[]⟩,⟨13,[3,2],0,[3,2,1,1,1,0],[3,2,1,1,1,0],[]⟩,⟨47,[4],1,[4,2,1,1,1,0],[4,1,1,1,1,0],[14]⟩,⟨14,[4,1],0,[4,1,1,1,1,0],[4,1,1,1,1,0],[]⟩,⟨15,[5],0,[5,1,1,1,1,0],[5,1,1,1,1,0],[]⟩]
noncomputable def nodes61:List Node:=[⟨32,[],6,[0,0,0,0,0,0],[1,1,1,1,1,1],[33]⟩,⟨33,[1],5,[1,0,0,0,0,0],[1,1,1,1,1,1],[34]⟩,⟨34,[1,1],4,[1,1,0,0,0,0],[1,1,1,1,1,1],[35]⟩,⟨35,[1,1,1],3,[1,1,1,0,0,0],[1,1,1,1,1,1],[36]⟩,⟨36,[1,1,1,1],2,[1,1,1,1,0,0],[1,1,1,1,1,1],[37]⟩,⟨37,[1,1,1,1,1],1,[1,1,1,1,1,0],[1,1,1,1,1,1],[0]⟩,⟨0,[1,1,1,1,1,1],0,[1,1,1,1,1,1],[1,1,1,1,1,1],[]⟩]
noncomputable def nodes62:List Node:=[⟨32,[],6,[0,0,0,0,0,0],[2,2,2,1,1,1],[33,49]⟩,⟨33,[1],5,[1,0,0,0,0,0],[1,2,2,1,1,1],[34,42]⟩,⟨34,[1,1],4,[1,1,0,0,0,0],[1,1,2,2,1,1],[35,39]⟩,⟨35,[1,1,1],3,[1,1,1,0,0,0],[1,1,1,2,1,1],[36,38]⟩,⟨36,[1,1,1,1],2,[1,1,1,1,0,0],[1,1,1,1,2,1],[37,1]⟩,⟨37,[1,1,1,1,1],1,[1,1,1,1,1,0],[1,1,1,1,1,1],[0]⟩,⟨0,[1,1,1,1,1,1],0,[1,1,1,1,1,1],[1,1,1,1,1,1],[]⟩,⟨1,[1,1,1,1,2],0,[1,1,1,1,2,1],[1,1,1,1,2,1],[]⟩,⟨38,[1,1,1,2],1,[1,1,1,2,2,1],[1,1,1,2,1,1],[2]⟩,⟨2,[1,1,1,2,1],0,[1,1,1,2,1,1],[1,1,1,2,1,1],[]⟩,⟨39,[1,1,2],2,[1,1,2,2,1,1],[1,1,2,2,1,1],[40,5]⟩,⟨40,[1,1,2,1],1,[1,1,2,1,1,1],[1,1,2,1,1,1],[4]⟩,⟨4,[1,1,2,1,1],0,[1,1,2,1,1,1],[1,1,2,1,1,1],[]⟩,⟨5,[1,1,2,2],0,[1,1,2,2,1,1],[1,1,2,2,1,1],[]⟩,⟨42,[1,2],3,[1,2,2,2,1,1],[1,2,2,1,1,1],[43,45]⟩,⟨43,[1,2,1],2,[1,2,1,2,1,1],[1,2,1,2,1,1],[44,9]⟩,⟨44,[1,2,1,1],1,[1,2,1,1,1,1],[1,2,1,1,1,1],[8]⟩,⟨8,[1,2,1,1,1],0,[1,2,1,1,1,1],[1,2,1,1,1,1],[]⟩,⟨9,[1,2,1,2],0,[1,2,1,2,1,1],[1,2,1,2,1,1],[]⟩,⟨45,[1,2,2],1,[1,2,2,2,1,1],[1,2,2,1,1,1],[10]⟩,⟨10,[1,2,2,1],0,[1,2,2,1,1,1],[1,2,2,1,1,1],[]⟩,⟨49,[2],4,[2,2,2,1,1,1],[2,2,2,1,1,1],[50,54]⟩,⟨50,[2,1],3,[2,1,2,1,1,1],[2,1,2,1,1,1],[51,53]⟩,⟨51,[2,1,1],2,[2,1,1,1,1,1],[2,1,1,2,1,1],[52,17]⟩,⟨52,[2,1,1,1],1,[2,1,1,1,1,1],[2,1,1,1,1,1],[16]⟩,⟨16,[2,1,1,1,1],0,[2,1,1,1,1,1],[2,1,1,1,1,1],[]⟩,⟨17,[2,1,1,2],0,[2,1,1,2,1,1],[2,1,1,2,1,1],[]⟩,⟨53,[2,1,2],1,[2,1,2,2,1,1],[2,1,2,1,1,1],[18]⟩,⟨18,[2,1,2,1],0,[2,1,2,1,1,1],[2,1,2,1,1,1],[]⟩,⟨54,[2,2],2,[2,2,2,1,1,1],[2,2,2,1,1,1],[55,21]⟩,⟨55,[2,2,1],1,[2,2,1,1,1,1],[2,2,1,1,1,1],[20]⟩,⟨20,[2,2,1,1],0,[2,2,1,1,1,1],[2,2,1,1,1,1],[]⟩,⟨21,[2,2,2],0,[2,2,2,1,1,1],[2,2,2,1,1,1],[]⟩]
noncomputable def nodes63:List Node:=[⟨32,[],6,[0,0,0,0,0,0],[3,3,1,1,1,1],[33,49,57]⟩,⟨33,[1],5,[1,0,0,0,0,0],[1,3,2,1,1,1],[34,42,46]⟩,⟨34,[1,1],4,[1,1,0,0,0,0],[1,1,3,1,1,1],[35,39,41]⟩,⟨35,[1,1,1],3,[1,1,1,0,0,0],[1,1,1,3,1,1],[36,38,3]⟩,⟨36,[1,1,1,1],2,[1,1,1,1,0,0],[1,1,1,1,2,1],[37,1]⟩,⟨37,[1,1,1,1,1],1,[1,1,1,1,1,0],[1,1,1,1,1,1],[0]⟩,⟨0,[1,1,1,1,1,1],0,[1,1,1,1,1,1],[1,1,1,1,1,1],[]⟩,⟨1,[1,1,1,1,2],0,[1,1,1,1,2,1],[1,1,1,1,2,1],[]⟩,⟨38,[1,1,1,2],1,[1,1,1,2,2,1],[1,1,1,2,1,1],[2]⟩,⟨2,[1,1,1,2,1],0,[1,1,1,2,1,1],[1,1,1,2,1,1],[]⟩,⟨3,[1,1,1,3],0,[1,1,1,3,1,1],[1,1,1,3,1,1],[]⟩,⟨39,[1,1,2],2,[1,1,2,3,1,1],[1,1,2,2,1,1],[40,5]⟩,⟨40,[1,1,2,1],1,[1,1,2,1,1,1],[1,1,2,1,1,1],[4]⟩,⟨4,[1,1,2,1,1],0,[1,1,2,1,1,1],[1,1,2,1,1,1],[]⟩,⟨5,[1,1,2,2],0,[1,1,2,2,1,1],[1,1,2,2,1,1],[]⟩,⟨41,[1,1,3],1,[1,1,3,2,1,1],[1,1,3,1,1,1],[6]⟩,⟨6,[1,1,3,1],0,[1,1,3,1,1,1],[1,1,3,1,1,1],[]⟩,⟨42,[1,2],3,[1,2,3,1,1,1],[1,2,3,1,1,1],[43,45,11]⟩,⟨43,[1,2,1],2,[1,2,1,1,1,1],[1,2,1,2,1,1],[44,9]⟩,⟨44,[1,2,1,1],1,[1,2,1,1,1,1],[1,2,1,1,1,1],[8]⟩,⟨8,[1,2,1,1,1],0,[1,2,1,1,1,1],[1,2,1,1,1,1],[]⟩,⟨9,[1,2,1,2],0,[1,2,1,2,1,1],[1,2,1,2,1,1],[]⟩,⟨45,[1,2,2],1,[1,2,2,2,1,1],[1,2,2,1,1,1],[10]⟩,⟨10,[1,2,2,1],0,[1,2,2,1,1,1],[1,2,2,1,1,1],[]⟩,⟨11,[1,2,3],0,[1,2,3,1,1,1],[1,2,3,1,1,1],[]⟩,⟨46,[1,3],2,[1,3,3,1,1,1],[1,3,2,1,1,1],[47,13]⟩,⟨47,[1,3,1],1,[1,3,1,1,1,1],[1,3,1,1,1,1],[12]⟩,⟨12,[1,3,1,1],0,[1,3,1,1,1,1],[1,3,1,1,1,1],[]⟩,⟨13,[1,3,2],0,[1,3,2,1,1,1],[1,3,2,1,1,1],[]⟩,⟨49,[2],4,[2,3,2,1,1,1],[2,3,1,1,1,1],[50,54,56]⟩,⟨50,[2,1],3,[2,1,2,1,1,1],[2,1,3,1,1,1],[51,53,19]⟩,⟨51,[2,1,1],2,[2,1,1,1,1,1],[2,1,1,2,1,1],[52,17]⟩,⟨52,[2,1,1,1],1,[2,1,1,1,1,1],[2,1,1,1,1,1],[16]⟩,⟨16,[2,1,1,1,1],0,[2,1,1,1,1,1],[2,1,1,1,1,1],[]⟩,⟨17,[2,1,1,2],0,[2,1,1,2,1,1],[2,1,1,2,1,1],[]⟩,⟨53,[2,1,2],1,[2,1,2,2,1,1],[2,1,2,1,1,1],[18]⟩,⟨18,[2,1,2,1],0,[2,1,2,1,1,1],[2,1,2,1,1,1],[]⟩,⟨19,[2,1,3],0,[2,1,3,1,1,1],[2,1,3,1,1,1],[]⟩,⟨54,[2,2],2,[2,2,3,1,1,1],[2,2,2,1,1,1],[55,21]⟩,⟨55,[2,2,1],1,[2,2,1,1,1,1],[2,2,1,1,1,1],[20]⟩,⟨20,[2,2,1,1],0,[2,2,1,1,1,1],[2,2,1,1,1,1],[]⟩,⟨21,[2,2,2],0,[2,2,2,1,1,1],[2,2,2,1,1,1],[]⟩,⟨56,[2,3],1,[2,3,2,1,1,1],[2,3,1,1,1,1],[22]⟩,⟨22,[2,3,1],0,[2,3,1,1,1,1],[2,3,1,1,1,1],[]⟩,⟨57,[3],3,[3,3,1,1,1,1],[3,3,1,1,1,1],[58,60,27]⟩,⟨58,[3,1],2,[3,1,1,1,1,1],[3,1,2,1,1,1],[59,25]⟩,⟨59,[3,1,1],1,[3,1,1,1,1,1],[3,1,1,1,1,1],[24]⟩,⟨24,[3,1,1,1],0,[3,1,1,1,1,1],[3,1,1,1,1,1],[]⟩,⟨25,[3,1,2],0,[3,1,2,1,1,1],[3,1,2,1,1,1],[]⟩,⟨60,[3,2],1,[3,2,2,1,1,1],[3,2,1,1,1,1],[26]⟩,⟨26,[3,2,1],0,[3,2,1,1,1,1],[3,2,1,1,1,1],[]⟩,⟨27,[3,3],0,[3,3,1,1,1,1],[3,3,1,1,1,1],[]⟩]
noncomputable def nodes64:List Node:=[⟨32,[],6,[0,0,0,0,0,0],[4,2,1,1,1,1],[33,49,57,61]⟩,⟨33,[1],5,[1,0,0,0,0,0],[1,4,1,1,1,1],[34,42,46,48]⟩,⟨34,[1,1],4,[1,1,0,0,0,0],[1,1,4,1,1,1],[35,39,41,7]⟩,⟨35,[1,1,1],3,[1,1,1,0,0,0],[1,1,1,3,1,1],[36,38,3]⟩,⟨36,[1,1,1,1],2,[1,1,1,1,0,0],[1,1,1,1,2,1],[37,1]⟩,⟨37,[1,1,1,1,1],1,[1,1,1,1,1,0],[1,1,1,1,1,1],[0]⟩,⟨0,[1,1,1,1,1,1],0,[1,1,1,1,1,1],[1,1,1,1,1,1],[]⟩,⟨1,[1,1,1,1,2],0,[1,1,1,1,2,1],[1,1,1,1,2,1],[]⟩,⟨38,[1,1,1,2],1,[1,1,1,2,2,1],[1,1,1,2,1,1],[2]⟩,⟨2,[1,1,1,2,1],0,[1,1,1,2,1,1],[1,1,1,2,1,1],[]⟩,⟨3,[1,1,1,3],0,[1,1,1,3,1,1],[1,1,1,3,1,1],[]⟩,⟨39,[1,1,2],2,[1,1,2,3,1,1],[1,1,2,2,1,1],[40,5]⟩,⟨40,[1,1,2,1],1,[1,1,2,1,1,1],[1,1,2,1,1,1],[4]⟩,⟨4,[1,1,2,1,1],0,[1,1,2,1,1,1],[1,1,2,1,1,1],[]⟩,⟨5,[1,1,2,2],0,[1,1,2,2,1,1],[1,1,2,2,1,1],[]⟩,⟨41,[1,1,3],1,[1,1,3,2,1,1],[1,1,3,1,1,1],[6]⟩,⟨6,[1,1,3,1],0,[1,1,3,1,1,1],[1,1,3,1,1,1],[]⟩,⟨7,[1,1,4],0,[1,1,4,1,1,1],[1,1,4,1,1,1],[]⟩,⟨42,[1,2],3,[1,2,4,1,1,1],[1,2,3,1,1,1],[43,45,11]⟩,⟨43,[1,2,1],2,[1,2,1,1,1,1],[1,2,1,2,1,1],[44,9]⟩,⟨44,[1,2,1,1],1,[1,2,1,1,1,1],[1,2,1,1,1,1],[8]⟩,⟨8,[1,2,1,1,1],0,[1,2,1,1,1,1],[1,2,1,1,1,1],[]⟩,⟨9,[1,2,1,2],0,[1,2,1,2,1,1],[1,2,1,2,1,1],[]⟩,⟨45,[1,2,2],1,[1,2,2,2,1,1],[1,2,2,1,1,1],[10]⟩,⟨10,[1,2,2,1],0,[1,2,2,1,1,1],[1,2,2,1,1,1],[]⟩,⟨11,[1,2,3],0,[1,2,3,1,1,1],[1,2,3,1,1,1],[]⟩,⟨46,[1,3],2,[1,3,3,1,1,1],[1,3,2,1,1,1],[47,13]⟩,⟨47,[1,3,1],1,[1,3,1,1,1,1],[1,3,1,1,1,1],[12]⟩,⟨12,[1,3,1,1],0,[1,3,1,1,1,1],[1,3,1,1,1,1],[]⟩,⟨13,[1,3,2],0,[1,3,2,1,1,1],[1,3,2,1,1,1],[]⟩,⟨48,[1,4],1,[1,4,2,1,1,1],[1,4,1,1,1,1],[14]⟩,⟨14,[1,4,1],0,[1,4,1,1,1,1],[1,4,1,1,1,1],[]⟩,⟨49,[2],4,[2,4,1,1,1,1],[2,4,1,1,1,1],[50,54,56,23]⟩,⟨50,[2,1],3,[2,1,1,1,1,1],[2,1,3,1,1,1],[51,53,19]⟩,⟨51,[2,1,1],2,[2,1,1,1,1,1],[2,1,1,2,1,1],[52,17]⟩,⟨52,[2,1,1,1],1,[2,1,1,1,1,1],[2,1,1,1,1,1],[16]⟩,⟨16,[2,1,1,1,1],0,[2,1,1,1,1,1],[2,1,1,1,1,1],[]⟩,⟨17,[2,1,1,2],0,[2,1,1,2,1,1],[2,1,1,2,1,1],[]⟩,⟨53,[2,1,2],1,[2,1,2,2,1,1],[2,1,2,1,1,1],[18]⟩,⟨18,[2,1,2,1],0,[2,1,2,1,1,1],[2,1,2,1,1,1],[]⟩,⟨19,[2,1,3],0,[2,1,3,1,1,1],[2,1,3,1,1,1],[]⟩,⟨54,[2,2],2,[2,2,3,1,1,1],[2,2,2,1,1,1],[55,21]⟩,⟨55,[2,2,1],1,[2,2,1,1,1,1],[2,2,1,1,1,1],[20]⟩,⟨20,[2,2,1,1],0,[2,2,1,1,1,1],[2,2,1,1,1,1],[]⟩,⟨21,[2,2,2],0,[2,2,2,1,1,1],[2,2,2,1,1,1],[]⟩,⟨56,[2,3],1,[2,3,2,1,1,1],[2,3,1,1,1,1],[22]⟩,⟨22,[2,3,1],0,[2,3,1,1,1,1],[2,3,1,1,1,1],[]⟩,⟨23,[2,4],0,[2,4,1,1,1,1],[2,4,1,1,1,1],[]⟩,⟨57,[3],3,[3,4,1,1,1,1],[3,3,1,1,1,1],[58,60,27]⟩,⟨58,[3,1],2,[3,1,1,1,1,1],[3,1,2,1,1,1],[59,25]⟩,⟨59,[3,1,1],1,[3,1,1,1,1,1],[3,1,1,1,1,1],[24]⟩,⟨24,[3,1,1,1],0,[3,1,1,1,1,1],[3,1,1,1,1,1],[]⟩,⟨25,[3,1,2],0,[3,1,2,1,1,1],[3,1,2,1,1,1],[]⟩,⟨60,[3,2],1,[3,2,2,1,1,1],[3,2,1,1,1,1],[26]⟩,⟨26,[3,2,1],0,[3,2,1,1,1,1],[3,2,1,1,1,1],[]⟩,⟨27,[3,3],0,[3,3,1,1,1,1],[3,3,1,1,1,1],[]⟩,⟨61,[4],2,[4,3,1,1,1,1],[4,2,1,1,1,1],[62,29]⟩,⟨62,[4,1],1,[4,1,1,1,1,1],[4,1,1,1,1,1],[28]⟩,⟨28,[4,1,1],0,[4,1,1,1,1,1],[4,1,1,1,1,1],[]⟩,⟨29,[4,2],0,[4,2,1,1,1,1],[4,2,1,1,1,1],[]⟩]
noncomputable def nodes65:List Node:=[⟨32,[],6,[0,0,0,0,0,0],[5,1,1,1,1,1],[33,49,57,61,63]⟩,⟨33,[1],5,[1,0,0,0,0,0],[1,5,1,1,1,1],[34,42,46,48,15]⟩,⟨34,[1,1],4,[1,1,0,0,0,0],[1,1,4,1,1,1],[35,39,41,7]⟩,⟨35,[1,1,1],3,[1,1,1,0,0,0],[1,1,1,3,1,1],[36,38,3]⟩,⟨36,[1,1,1,1],2,[1,1,1,1,0,0],[1,1,1,1,2,1],[37,1]⟩,⟨37,[1,1,1,1,1],1,[1,1,1,1,1,0],[1,1,1,1,1,1],[0]⟩,⟨0,[1,1,1,1,1,1],0,[1,1,1,1,1,1],[1,1,1,1,1,1],[]⟩,⟨1,[1,1,1,1,2],0,[1,1,1,1,2,1],[1,1,1,1,2,1],[]⟩,⟨38,[1,1,1,2],1,[1,1,1,2,2,1],[1,1,1,2,1,1],[2]⟩,⟨2,[1,1,1,2,1],0,[1,1,1,2,1,1],[1,1,1,2,1,1],[]⟩,⟨3,[1,1,1,3],0,[1,1,1,3,1,1],[1,1,1,3,1,1],[]⟩,⟨39,[1,1,2],2,[1,1,2,3,1,1],[1,1,2,2,1,1],[40,5]⟩,⟨40,[1,1,2,1],1,[1,1,2,1,1,1],[1,1,2,1,1,1],[4]⟩,⟨4,[1,1,2,1,1],0,[1,1,2,1,1,1],[1,1,2,1,1,1],[]⟩,⟨5,[1,1,2,2],0,[1,1,2,2,1,1],[1,1,2,2,1,1],[]⟩,⟨41,[1,1,3],1,[1,1,3,2,1,1],[1,1,3,1,1,1],[6]⟩,⟨6,[1,1,3,1],0,[1,1,3,1,1,1],[1,1,3,1,1,1],[]⟩,⟨7,[1,1,4],0,[1,1,4,1,1,1],[1,1,4,1,1,1],[]⟩,⟨42,[1,2],3,[1,2,4,1,1,1],[1,2,3,1,1,1],[43,45,11]⟩,⟨43,[1,2,1],2,[1,2,1,1,1,1],[1,2,1,2,1,1],[44,9]⟩,⟨44,[1,2,1,1],1,[1,2,1,1,1,1],[1,2,1,1,1,1],[8]⟩,⟨8,[1,2,1,1,1],0,[1,2,1,1,1,1],[1,2,1,1,1,1],[]⟩,⟨9,[1,2,1,2],0,[1,2,1,2,1,1],[1,2,1,2,1,1],[]⟩,⟨45,[1,2,2],1,[1,2,2,2,1,1],[1,2,2,1,1,1],[10]⟩,⟨10,[1,2,2,1],0,[1,2,2,1,1,1],[1,2,2,1,1,1],[]⟩,⟨11,[1,2,3],0,[1,2,3,1,1,1],[1,2,3,1,1,1],[]⟩,⟨46,[1,3],2,[1,3,3,1,1,1],[1,3,2,1,1,1],[47,13]⟩,⟨47,[1,3,1],1,[1,3,1,1,1,1],[1,3,1,1,1,1],[12]⟩,⟨12,[1,3,1,1],0,[1,3,1,1,1,1],[1,3,1,1,1,1],[]⟩,⟨13,[1,3,2],0,[1,3,2,1,1,1],[1,3,2,1,1,1],[]⟩,⟨48,[1,4],1,[1,4,2,1,1,1],[1,4,1,1,1,1],[14]⟩,⟨14,[1,4,1],0,[1,4,1,1,1,1],[1,4,1,1,1,1],[]⟩,⟨15,[1,5],0,[1,5,1,1,1,1],[1,5,1,1,1,1],[]⟩,⟨49,[2],4,[2,5,1,1,1,1],[2,4,1,1,1,1],[50,54,56,23]⟩,⟨50,[2,1],3,[2,1,1,1,1,1],[2,1,3,1,1,1],[51,53,19]⟩,⟨51,[2,1,1],2,[2,1,1,1,1,1],[2,1,1,2,1,1],[52,17]⟩,⟨52,[2,1,1,1],1,[2,1,1,1,1,1],[2,1,1,1,1,1],[16]⟩,⟨16,[2,1,1,1,1],0,[2,1,1,1,1,1],[2,1,1,1,1,1],[]⟩,⟨17,[2,1,1,2],0,[2,1,1,2,1,1],[2,1,1,2,1,1],[]⟩,⟨53,[2,1,2],1,[2,1,2,2,1,1],[2,1,2,1,1,1],[18]⟩,⟨18,[2,1,2,1],0,[2,1,2,1,1,1],[2,1,2,1,1,1],[]⟩,⟨19,[2,1,3],0,[2,1,3,1,1,1],[2,1,3,1,1,1],[]⟩,⟨54,[2,2],2,[2,2,3,1,1,1],[2,2,2,1,1,1],[55,21]⟩,⟨55,[2,2,1],1,[2,2,1,1,1,1],[2,2,1,1,1,1],[20]⟩,⟨20,[2,2,1,1],0,[2,2,1,1,1,1],[2,2,1,1,1,1],[]⟩,⟨21,[2,2,2],0,[2,2,2,1,1,1],[2,2,2,1,1,1],[]⟩,⟨56,[2,3],1,[2,3,2,1,1,1],[2,3,1,1,1,1],[22]⟩,⟨22,[2,3,1],0,[2,3,1,1,1,1],[2,3,1,1,1,1],[]⟩,⟨23,[2,4],0,[2,4,1,1,1,1],[2,4,1,1,1,1],[]⟩,⟨57,[3],3,[3,4,1,1,1,1],[3,3,1,1,1,1],[58,60,27]⟩,⟨58,[3,1],2,[3,1,1,1,1,1],[3,1,2,1,1,1],[59,25]⟩,⟨59,[3,1,1],1,[3,1,1,1,1,1],[3,1,1,1,1,1],[24]⟩,⟨24,[3,1,1,1],0,[3,1,1,1,1,1],[3,1,1,1,1,1],[]⟩,⟨25,[3,1,2],0,[3,1,2,1,1,1],[3,1,2,1,1,1],[]⟩,⟨60,[3,2],1,[3,2,2,1,1,1],[3,2,1,1,1,1],[26]⟩,⟨26,[3,2,1],0,[3,2,1,1,1,1],[3,2,1,1,1,1],[]⟩,⟨27,[3,3],0,[3,3,1,1,1,1],[3,3,1,1,1,1],[]⟩,⟨61,[4],2,[4,3,1,1,1,1],[4,2,1,1,1,1],[62,29]⟩,⟨62,[4,1],1,[4,1,1,1,1,1],[4,1,1,1,1,1],[28]⟩,⟨28,[4,1,1],0,[4,1,1,1,1,1],[4,1,1,1,1,1],[]⟩,⟨29,[4,2],0,[4,2,1,1,1,1],[4,2,1,1,1,1],[]⟩,⟨63,[5],1,[5,2,1,1,1,1],[5,1,1,1,1,1],[30]⟩,⟨30,[5,1],0,[5,1,1,1,1,1],[5,1,1,1,1,1],[]⟩]
noncomputable def nodes66:List Node:=[⟨32,[],6,[0,0,0,0,0,0],[6,1,1,1,1,1],[33,49,57,61,63,31]⟩,⟨33,[1],5,[1,0,0,0,0,0],[1,5,1,1,1,1],[34,42,46,48,15]⟩,⟨34,[1,1],4,[1,1,0,0,0,0],[1,1,4,1,1,1],[35,39,41,7]⟩,⟨35,[1,1,1],3,[1,1,1,0,0,0],[1,1,1,3,1,1],[36,38,3]⟩,⟨36,[1,1,1,1],2,[1,1,1,1,0,0],[1,1,1,1,2,1],[37,1]⟩,⟨37,[1,1,1,1,1],1,[1,1,1,1,1,0],[1,1,1,1,1,1],[0]⟩,⟨0,[1,1,1,1,1,1],0,[1,1,1,1,1,1],[1,1,1,1,1,1],[]⟩,⟨1,[1,1,1,1,2],0,[1,1,1,1,2,1],[1,1,1,1,2,1],[]⟩,⟨38,[1,1,1,2],1,[1,1,1,2,2,1],[1,1,1,2,1,1],[2]⟩,⟨2,[1,1,1,2,1],0,[1,1,1,2,1,1],[1,1,1,2,1,1],[]⟩,⟨3,[1,1,1,3],0,[1,1,1,3,1,1],[1,1,1,3,1,1],[]⟩,⟨39,[1,1,2],2,[1,1,2,3,1,1],[1,1,2,2,1,1],[40,5]⟩,⟨40,[1,1,2,1],1,[1,1,2,1,1,1],[1,1,2,1,1,1],[4]⟩,⟨4,[1,1,2,1,1],0,[1,1,2,1,1,1],[1,1,2,1,1,1],[]⟩,⟨5,[1,1,2,2],0,[1,1,2,2,1,1],[1,1,2,2,1,1],[]⟩,⟨41,[1,1,3],1,[1,1,3,2,1,1],[1,1,3,1,1,1],[6]⟩,⟨6,[1,1,3,1],0,[1,1,3,1,1,1],[1,1,3,1,1,1],[]⟩,⟨7,[1,1,4],0,[1,1,4,1,1,1],[1,1,4,1,1,1],[]⟩,⟨42,[1,2],3,[1,2,4,1,1,1],[1,2,3,1,1,1],[43,45,11]⟩,⟨43,[1,2,1],2,[1,2,1,1,1,1],[1,2,1,2,1,1],[44,9]⟩,⟨44,[1,2,1,1],1,[1,2,1,1,1,1],[1,2,1,1,1,1],[8]⟩,⟨8,[1,2,1,1,1],0,[1,2,1,1,1,1],[1,2,1,1,1,1],[]⟩,⟨9,[1,2,1,2],0,[1,2,1,2,1,1],[1,2,1,2,1,1],[]⟩,⟨45,[1,2,2],1,[1,2,2,2,1,1],[1,2,2,1,1,1],[10]⟩,⟨10,[1,2,2,1],0,[1,2,2,1,1,1],[1,2,2,1,1,1],[]⟩,⟨11,[1,2,3],0,[1,2,3,1,1,1],[1,2,3,1,1,1],[]⟩,⟨46,[1,3],2,[1,3,3,1,1,1],[1,3,2,1,1,1],[47,13]⟩,⟨47,[1,3,1],1,[1,3,1,1,1,1],[1,3,1,1,1,1],[12]⟩,⟨12,[1,3,1,1],0,[1,3,1,1,1,1],[1,3,1,1,1,1],[]⟩,⟨13,[1,3,2],0,[1,3,2,1,1,1],[1,3,2,1,1,1],[]⟩,⟨48,[1,4],1,[1,4,2,1,1,1],[1,4,1,1,1,1],[14]⟩,⟨14,[1,4,1],0,[1,4,1,1,1,1],[1,4,1,1,1,1],[]⟩,⟨15,[1,5],0,[1,5,1,1,1,1],[1,5,1,1,1,1],[]⟩,⟨49,[2],4,[2,5,1,1,1,1],[2,4,1,1,1,1],[50,54,56,23]⟩,⟨50,[2,1],3,[2,1,1,1,1,1],[2,1,3,1,1,1],[51,53,19]⟩,⟨51,[2,1,1],2,[2,1,1,1,1,1],[2,1,1,2,1,1],[52,17]⟩,⟨52,[2,1,1,1],1,[2,1,1,1,1,1],[2,1,1,1,1,1],[16]⟩,⟨16,[2,1,1,1,1],0,[2,1,1,1,1,1],[2,1,1,1,1,1],[]⟩,⟨17,[2,1,1,2],0,[2,1,1,2,1,1],[2,1,1,2,1,1],[]⟩,⟨53,[2,1,2],1,[2,1,2,2,1,1],[2,1,2,1,1,1],[18]⟩,⟨18,[2,1,2,1],0,[2,1,2,1,1,1],[2,1,2,1,1,1],[]⟩,⟨19,[2,1,3],0,[2,1,3,1,1,1],[2,1,3,1,1,1],[]⟩,⟨54,[2,2],2,[2,2,3,1,1,1],[2,2,2,1,1,1],[55,21]⟩,⟨55,[2,2,1],1,[2,2,1,1,1,1],[2,2,1,1,1,1],[20]⟩,⟨20,[2,2,1,1],0,[2,2,1,1,1,1],[2,2,1,1,1,1],[]⟩,⟨21,[2,2,2],0,[2,2,2,1,1,1],[2,2,2,1,1,1],[]⟩,⟨56,[2,3],1,[2,3,2,1,1,1],[2,3,1,1,1,1],[22]⟩,⟨22,[2,3,1],0,[2,3,1,1,1,1],[2,3,1,1,1,1],[]⟩,⟨23,[2,4],0,[2,4,1,1,1,1],[2,4,1,1,1,1],[]⟩,⟨57,[3],3,[3,4,1,1,1,1],[3,3,1,1,1,1],[58,60,27]⟩,⟨58,[3,1],2,[3,1,1,1,1,1],[3,1,2,1,1,1],[59,25]⟩,⟨59,[3,1,1],1,[3,1,1,1,1,1],[3,1,1,1,1,1],[24]⟩,⟨24,[3,1,1,1],0,[3,1,1,1,1,1],[3,1,1,1,1,1],[]⟩,⟨25,[3,1,2],0,[3,1,2,1,1,1],[3,1,2,1,1,1],[]⟩,⟨60,[3,2],1,[3,2,2,1,1,1],[3,2,1,1,1,1],[26]⟩,⟨26,[3,2,1],0,[3,2,1,1,1,1],[3,2,1,1,1,1],[]⟩,⟨27,[3,3],0,[3,3,1,1,1,1],[3,3,1,1,1,1],[]⟩,⟨61,[4],2,[4,3,1,1,1,1],[4,2,1,1,1,1],[62,29]⟩,⟨62,[4,1],1,[4,1,1,1,1,1],[4,1,1,1,1,1],[28]⟩,⟨28,[4,1,1],0,[4,1,1,1,1,1],[4,1,1,1,1,1],[]⟩,⟨29,[4,2],0,[4,2,1,1,1,1],[4,2,1,1,1,1],[]⟩,⟨63,[5],1,[5,2,1,1,1,1],[5,1,1,1,1,1],[30]⟩,⟨30,[5,1],0,[5,1,1,1,1,1],[5,1,1,1,1,1],[]⟩,⟨31,[6],0,[6,1,1,1,1,1],[6,1,1,1,1,1],[]⟩]
noncomputable def nodeTab (L K:Nat):List Node :=
  cond (Nat.beq L 6) (cond (Nat.beq K 6) nodes66 (cond (Nat.beq K 5) nodes65 (cond (Nat.beq K 4) nodes64 (cond (Nat.beq K 3) nodes63 (cond (Nat.beq K 2) nodes62 nodes61))))) (
  cond (Nat.beq L 5) (cond (Nat.beq K 1) nodes51 (cond (Nat.beq K 2) nodes52 (cond (Nat.beq K 3) nodes53 (cond (Nat.beq K 4) nodes54 (nodes55))))) (
  cond (Nat.beq L 4) (cond (Nat.beq K 1) nodes41 (cond (Nat.beq K 2) nodes42 (cond (Nat.beq K 3) nodes43 (nodes44)))) (
  cond (Nat.beq L 3) (cond (Nat.beq K 1) nodes31 (cond (Nat.beq K 2) nodes32 (nodes33))) (
  cond (Nat.beq L 2) (cond (Nat.beq K 1) nodes21 (nodes22)) (
  cond (Nat.beq L 1) (nodes11) ([]))))))
noncomputable def kCells (L:Nat):List AV:=bookC L ++ [.sliceX 2001 1 0 L,.map 2002]
noncomputable def chCells:List AV:=[.int .i64 (.lit 9223372036854775807),.func (.func 20) [] []]
noncomputable def ptrsN:List AV:=[.ptr 2009 0,.ptr 2010 0,.ptr 2006 0,.ptr 2011 0]
noncomputable def argsNd (t r:Nat):List AV:=[ln t,ln r,.ptr 2009 0,.ptr 2010 0,.ptr 2006 0,.ptr 2011 0]
noncomputable def loopCh (L:Nat):AObj:=.loop .ready .norm 19 (treeOf [(0,.agg (kCells L)),(1,.agg chCells),(2,.ptr 2003 0),(3,.ptr 2004 0),(4,.nilslice),(5,ln 0),(6,.ptr 2005 0),(10,.func (.func 61) [] [.ptr 2006 0])]) [11] 19011 2007
noncomputable def preN (L:Nat):List (Nat × AObj):=vR L ++ [(2001,ordB L),(2002,.umap (mR false)),(2003,.cells (kCells L) 52 true false),(2004,.cells chCells 58 true false)]
noncomputable def sufN (L:Nat) (arr:List Nat):List (Nat × AObj):=[(2006,.cells (kCells L) 52 true false),(2007,.defd true),(2008,loopCh L),(2009,.cells [.yieldF 2008] 84 true false),(2010,.cells (litsN arr) 104 true false),(2011,.cells [.func (.func 62) [] ptrsN] 105 true false)]
noncomputable def vNd (L:Nat) (arr:List Nat) (best:List AV):List (Nat × AObj):=preN L ++ ((2005,.cells best 78 true false) :: sufN L arr)
noncomputable def bestC (n:Nat) (s:IE):List AV:=[.sliceX 2012 1 0 n,iA s]
noncomputable def sN (i:Nat):IE:=.var (400 + i)
noncomputable def tripsN (nd:Node) (w:Nat):List AV:=cond (Nat.beq nd.rest 0) (litsN nd.pre) (lMap (fun k=>.int .i64 (.app 9702 (.lit (Int.ofNat nd.id)) (.lit (Int.ofNat k)) (.lit 0))) (upN w 0))
noncomputable def lenN (W:List (Nat × Nat)) (i:Nat):Nat:=match lFind W i with
  | some w=>w
  | none=>0
noncomputable def lenNd (W:List (Nat × Nat)) (nd:Node):Nat:=cond (Nat.beq nd.rest 0) (lLen nd.pre) (lenN W nd.id)
noncomputable def lfNdA (L:Nat) (nd:Node) (best:List AV):AV × Heap:=(tag true,viewA 2013 (vNd L nd.arrA best))
noncomputable def lfNdB (L:Nat) (W:List (Nat × Nat)) (nd:Node) (b:Nat):AV × Heap:=(tag true,viewA (b + 1) (vNd L nd.arrA [.sliceX b 1 0 (lenNd W nd),iA (sN nd.id)] ++ [(b,.cells (tripsN nd (lenNd W nd)) 3 true true)]))
noncomputable def sooT {α:Type} (s1:IE) (n1:Nat) (s:IE) (n:Nat) (x y:T α):T α:=.br (.cmp .neq s1 s) (.br (.cmp .lss s1 s) x y) (cond (Nat.ble (n1 + 1) n) x y)
noncomputable def saidN (L:Nat) (W:List (Nat × Nat)) (nd:Node) (n:Nat) (s:IE):T (AV × Heap):=sooT (sN nd.id) (lenNd W nd) s n (.ret (lfNdB L W nd 2013)) (.ret (lfNdA L nd (bestC n s)))
noncomputable def nwB (n:Nat) (r:AV × Heap):List Nat:=match r.2.get 2005 with
  | some (.cells (.sliceX b _ _ _ :: _) _ _ _)=>cond (Nat.ble n b) [b] []
  | _=>[]
noncomputable def litOf (a:AV):Nat:=match a with
  | .int _ (.lit (.ofNat n))=>n
  | _=>99
noncomputable def arrOf (h:Heap):List Nat:=match h.get 2010 with
  | some (.cells cs _ _ _)=>lMap litOf cs
  | _=>[]
noncomputable def findN (p:Node→Bool) (l:List Node):Option Node:=@List.rec Node (fun _=>Option Node) none (fun a _ ih=>cond (p a) (some a) ih) l
noncomputable def frst (nd:Node):Bool:=lAll (Nat.beq 1) nd.pre
noncomputable def isKid (t r:Nat) (h:Heap) (nd:Node):Bool:=and (and (Nat.beq (lLen nd.pre) t) (Nat.beq nd.rest r)) (eqNs nd.arrB (arrOf h))
noncomputable def orcTry (L:Nat) (ks:List Node) (W:List (Nat × Nat)) (args:List AV) (h:Heap):Option (T (AV × Heap)) :=
  match args with
  | .int _ (.lit (.ofNat t)) :: .int _ (.lit (.ofNat r)) :: _=>(match findN (isKid t r h) ks with
    | some nd=>cond (frst nd) (smallO 2012 (argsNd (lLen nd.pre) nd.rest) (vNd L nd.arrB [.nilslice,ln 0]) (.ret (lfNdB L W nd 2012)) (nwB 2012) args h) (match h.get 2005 with
      | some (.cells [.sliceX d _ _ n,.int _ s] _ _ _)=>cond (and (Nat.ble 1 n) (Nat.ble n L)) (cond (Nat.beq d 2012) (smallO 2013 (argsNd (lLen nd.pre) nd.rest) (vNd L nd.arrB (bestC n s)) (saidN L W nd n s) (nwB 2013) args h) (aliasO 2013 2012 2005 (argsNd (lLen nd.pre) nd.rest) (vNd L nd.arrB (bestC n s)) (saidN L W nd n s) (nwB 2013) (nwB h.next) args h)) none
      | _=>none)
    | none=>none)
  | _=>none
noncomputable def vSu (L:Nat) (arr:List Nat):List (Nat × AObj):=vR L ++ [(2001,ordB L),(2002,.umap (mR false)),(2010,.cells (litsN arr) 104 true false)]
noncomputable def orcSu (L:Nat) (nd:Node) (args:List AV) (h:Heap):Option (T (AV × Heap)):=cond (Nat.beq nd.rest 0) (smallO 2011 [.agg (kCells L),.slice 2010 0 (lLen nd.pre) (lLen nd.pre)] (vSu L nd.arrB) (.ret (iA (sN nd.id),viewA 2011 (vSu L nd.arrB))) (fun _=>[]) args h) none
noncomputable def orcNd (L:Nat) (nd:Node) (ks:List Node) (W:List (Nat × Nat)) (f:FuncId) (args:List AV) (h:Heap):Option (T (AV × Heap)) :=
  cond (Nat.beq f 34) (orcSu L nd args h) (cond (Nat.beq f 62) (orcTry L ks W args h) none)
noncomputable def tbNd (L:Nat) (nd:Node) (ks:List Node) (W:List (Nat × Nat)):Tabs:=⟨Sx.Tryd.ft.get,lFind Sx.Tryd.rt,2000,orcNd L nd ks W⟩
noncomputable def kidsOf (L K:Nat) (nd:Node):List Node:=(nodeTab L K).filter fun k=>nd.kids.any (Nat.beq k.id)
noncomputable def runNd (L K:Nat) (W:List (Nat × Nat)) (nd:Node) (b:Nat) (best:List AV):T (AV × Heap):=(evalN (tbNd L nd (kidsOf L K nd) W) 60 false 62 (argsNd (lLen nd.pre) nd.rest) (viewA b (vNd L nd.arrB best))).bind fun r=>graftT b (vNd L nd.arrB best) (viewA b (vNd L nd.arrB best)) (nwB b r) r
noncomputable def carryQ (L K:Nat):List (Nat × Int × Int):=[(65,Int.ofNat K,cond (Nat.beq K (L + 1)) 6 (Int.ofNat K))]
noncomputable def startsQ:List (Nat × Int × Int):=lMap (fun i=>(400 + i,(0:Int),(100000:Int))) (upN 32 0)
noncomputable def encN (L b:Nat) (nd:Node) (q:AV × Heap):AV:=cond (and (and (eqAV q.1 (tag true)) (allO q.2 (preN L))) (allO q.2 (sufN L nd.arrA))) (match q.2.get 2005 with
  | some (.cells [.sliceX d 1 0 n, .int .i64 s] 78 true false) => cond (Nat.beq d b) (match q.2.get d with
        | some (.cells cs 3 true true)=>.tup [ln 1,ln n,iA s,.agg cs,ln q.2.next]
        | _=>.bad) (cond (Nat.beq d 2012) (.tup [ln 0,ln n,iA s,ln q.2.next]) .bad)
  | _=>.bad) .bad
noncomputable def endN (W:List (Nat × Nat)) (b n:Nat) (s:IE) (c:Option Node):T AV:=match c with
  | none=>.ret (.tup [ln 0,ln n,iA s,ln b])
  | some nd=>.ret (.tup [ln 1,ln (lenNd W nd),iA (sN nd.id),.agg (tripsN nd (lenNd W nd)),ln (b + 1)])
noncomputable def seqT (W:List (Nat × Nat)) (b n:Nat) (s:IE) (l:List Node):Option Node→T AV :=
  @List.rec Node (fun _=>Option Node→T AV) (fun c=>endN W b n s c) (fun k _ ih c=>match c with
    | none=>sooT (sN k.id) (lenNd W k) s n (ih (some k)) (ih none)
    | some b=>sooT (sN k.id) (lenNd W k) (sN b.id) (lenNd W b) (ih (some k)) (ih (some b))) l
noncomputable def allN (L K:Nat) (nd:Node):List Node:=cond (Nat.beq nd.rest 0) [nd] (kidsOf L K nd)
noncomputable def knN (L K:Nat):Kn:=knOf (carryQ L K ++ startsQ) []
noncomputable def ckNd (L K:Nat) (W:List (Nat × Nat)) (nd:Node) (n:Nat):Bool:=eqTF ((pruneT (runNd L K W nd 2013 (bestC n (.var 520))) (knN L K)).bind fun q=>.ret (encN L 2013 nd q)) (seqT W 2013 n (.var 520) (allN L K nd) none)
noncomputable def fromNil (W:List (Nat × Nat)) (l:List Node):T AV:=match l with
  | []=>.fail 0
  | k :: l=>seqT W 2012 0 (.lit 0) l (some k)
noncomputable def ckNi (L K:Nat) (W:List (Nat × Nat)) (nd:Node):Bool:=eqTF ((pruneT (runNd L K W nd 2012 [.nilslice,ln 0]) (knN L K)).bind fun q=>.ret (encN L 2012 nd q)) (fromNil W (allN L K nd))
noncomputable def combos (ks:List Node):List (List (Nat × Nat)):=@List.rec Node (fun _=>List (List (Nat × Nat))) [[]] (fun k _ ih=>cond (Nat.beq k.rest 0) ih ((upN k.rest (lLen k.pre + 1)).flatMap fun w=>ih.map fun c=>(k.id,w) :: c)) ks
noncomputable def ckOne (L K:Nat) (nd:Node) (c:List (Nat × Nat)):Bool:=cond (frst nd) (ckNi L K c nd) (lAll (ckNd L K c nd) (upN L 1))
noncomputable def ckAll (L K:Nat) (nd:Node):Bool:=lAll (ckOne L K nd) (combos (kidsOf L K nd))
noncomputable def nodeAt (L K i:Nat):Node:=match listGet (nodeTab L K) i with
  | some n=>n
  | none=>⟨0,[],0,[],[],[]⟩
theorem lAll_td {α:Type} {p:α→Bool}:∀ (l:List α) (n:Nat),lAll p (lTake l n)=true→lAll p (lDrop l n)=true→lAll p l=true
  | [],_,_,_=>rfl
  | a :: l,0,_,h=>by rw [lDrop_eq,List.drop_zero] at h; exact h
  | a :: l,n + 1,h1,h2=>by
    have e1:lTake (a :: l) (n + 1)=a :: lTake l n:=rfl
    have e2:lDrop (a :: l) (n + 1)=lDrop l n:=rfl
    rw [e1] at h1; rw [e2] at h2
    have h1:cond (p a) (lAll p (lTake l n)) false=true:=h1
    cases ha:p a with
    | false=>rw [ha] at h1; cases h1
    | true=>rw [ha,cond_true] at h1; exact lAll_cons ha (lAll_td l n h1 h2)
theorem chunk {α:Type} {p:α→Bool} {l:List α} {k n:Nat} (h1:lAll p (lTake (lDrop l k) n)=true) (h2:lAll p (lDrop l (k + n))=true):lAll p (lDrop l k)=true:=by
  refine lAll_td (lDrop l k) n h1 ?_
  rw [lDrop_eq,lDrop_eq,List.drop_drop,← lDrop_eq]; exact h2
end Go.Sx
namespace Go.Sx
open Go.RowKit Go.Proofs
set_option maxRecDepth 100000
noncomputable def runSu (L:Nat) (nd:Node):T (AV × Heap):=(evalN (tbTP 2001 L) 200 false 34 [.agg (kCells L),.slice 2010 0 (lLen nd.pre) (lLen nd.pre)] (viewA 2011 (vSu L nd.arrB))).bind fun r=>graftT 2011 (vSu L nd.arrB) (viewA 2011 (vSu L nd.arrB)) [] r
noncomputable def endSu (L:Nat) (nd:Node) (_:Kn) (q:AV × Heap):Bool:=and (eqAV q.1 (iA (surelyE nd.pre))) (and (allO q.2 (vSu L nd.arrB)) (Nat.beq q.2.next 2011))
noncomputable def isAt (o:Option (List Nat)) (l:List Nat):Bool:=match o with
  | some x=>eqNs x l
  | none=>false
noncomputable def ckSu (L:Nat) (nd:Node):Bool:=and (isAt (listGet (plansL L) nd.id) nd.pre) (allW [] (endSu L nd) (runSu L nd) (knOf [] []))
noncomputable def leafs (L K:Nat):List Node:=(nodeTab L K).filter fun nd=>Nat.beq nd.rest 0
theorem vSu_ids {L:Nat} (h0:1≤L) (hL:L≤6):lAll (fun g:Nat × AObj=>and (Nat.ble (g.1 + 1) 2011) (idsO 2011 g.2)) (vR L ++ [(2001,ordB L),(2002,.umap (mR false))])=true:=by
  rcases six h0 hL with rfl | rfl | rfl | rfl | rfl | rfl <;> kernel_rfl
theorem viewSu_ok {L:Nat} (h0:1≤L) (hL:L≤6) (arr:List Nat):viewOk 2011 (vSu L arr)=true:=by
  unfold viewOk
  rw [Bool.and_eq_true]
  refine ⟨rfl,?_⟩
  have e:vSu L arr=(vR L ++ [(2001,ordB L),(2002,.umap (mR false))]) ++ [(2010,.cells (litsN arr) 104 true false)]:=by unfold vSu; rw [List.append_assoc]; rfl
  rw [e]
  refine lAll_app (vSu_ids h0 hL) (lAll_cons ?_ rfl)
  show and (Nat.ble 2011 2011) (idsLts 2011 (litsN arr))=true
  rw [idsN]; rfl
theorem surely_said {L:Nat} (h0:1≤L) (hL:L≤6) {nd:Node} (hck:ckSu L nd=true):CallOk (pOk fun ρ _=>okSB L ρ) 34 [.agg (kCells L),.slice 2010 0 (lLen nd.pre) (lLen nd.pre)] (viewA 2011 (vSu L nd.arrB)) (.ret (iA (sN nd.id),viewA 2011 (vSu L nd.arrB))):=by
  unfold ckSu at hck
  rw [Bool.and_eq_true] at hck
  have hid:(plansL L)[nd.id]?=some nd.pre:=by
    have h:=hck.1
    unfold isAt at h
    split at h
    · rename_i x hx
      rw [eqNs_eq _ _ h] at hx
      rw [← listGet_eq]; exact hx
    · cases h
  have base:=eval_ok (tabsTP (b:=2001) (.inr rfl) h0 hL) 200 34 [.agg (kCells L),.slice 2010 0 (lLen nd.pre) (lLen nd.pre)] (viewA 2011 (vSu L nd.arrB))
  have up:upA 0 (vSu L nd.arrB)=true:=rfl
  have fr:CallOk (pBN L) 34 [.agg (kCells L),.slice 2010 0 (lLen nd.pre) (lLen nd.pre)] (viewA 2011 (vSu L nd.arrB)) (runSu L nd):=base.frame (n:=2011) (l:=vSu L nd.arrB) (by omega) rfl (viewSu_ok h0 hL nd.arrB)
    (fun g hg=>⟨g.2,viewA_mem 2011 _ 0 up g hg,.refl _⟩) (by rw [viewA_next]; exact Nat.le_refl _) (fun _=>[])
  have fr':CallOk (pOk fun ρ _=>okSB L ρ) 34 [.agg (kCells L),.slice 2010 0 (lLen nd.pre) (lLen nd.pre)] (viewA 2011 (vSu L nd.arrB)) (runSu L nd):=CallOk.weak (ok0:=fun ρ _=>okBN L ρ) (fun ρ m k=>k.1) fr
  refine CallOk.read (p0:=pOk fun ρ _=>okSB L ρ) (p:=pOk fun ρ _=>okSB L ρ) rfl fr' fun ρ b hok Q k=>⟨ρ,hok,SameL.refl _ _,⟨rfl,fun j o g=>⟨o,g,SameA.refl o⟩⟩,?_⟩
  obtain ⟨_,hA,_⟩:=hok
  have hA:okSB L ρ:=hA
  have k:Q (iA (sN nd.id),viewA 2011 (vSu L nd.arrB)):=k
  refine allW_ok (rules_nil ρ) (fun K q _ hq=>?_) (runSu L nd) _ (knOf_ok (fun c hc=>by cases hc) (fun c hc=>by cases hc)) hck.2
  unfold endSu at hq
  simp only [Bool.and_eq_true] at hq
  obtain ⟨q1,q2,q3⟩:=hq
  exact ⟨_,k,by rw [eqAV_eq _ _ q1]; exact SameV.int (hA.2.sure nd.id nd.pre hid).symm,(beq_t.1 q3).trans (viewA_next _ _).symm,fun j o g=>⟨o,allO_get q2 (viewA_get _ _ _ _ g),SameA.refl o⟩⟩
end Go.Sx
namespace Go.Sx
open Go.RowKit Go.Proofs
set_option maxRecDepth 100000
def lexP (a b:Int × Nat):Prop:=a.1 < b.1 ∨ (a.1=b.1∧a.2 < b.2)
instance (a b:Int × Nat):Decidable (lexP a b):=by unfold lexP; infer_instance
def minB {α:Type} (f:α→Int × Nat) (c:α) (l:List α):α:=l.foldl (fun c k=>if lexP (f k) (f c) then k else c) c
theorem lex_step {α:Type} (f:α→Int × Nat) (a b x:α):(if lexP (f x) (f (if lexP (f b) (f a) then b else a)) then x else (if lexP (f b) (f a) then b else a))=if lexP (f (if lexP (f x) (f b) then x else b)) (f a) then (if lexP (f x) (f b) then x else b) else a:=by
  by_cases h1:lexP (f b) (f a)
  · by_cases h2:lexP (f x) (f b)
    · have h3:lexP (f x) (f a):=by unfold lexP at *; omega
      simp only [if_pos h1,if_pos h2,if_pos h3]
    · simp only [if_pos h1,if_neg h2]
  · by_cases h2:lexP (f x) (f b)
    · simp only [if_neg h1,if_pos h2]
    · have h3:¬ lexP (f x) (f a):=by unfold lexP at *; omega
      simp only [if_neg h1,if_neg h2,if_neg h3]
theorem minB_if {α:Type} (f:α→Int × Nat):∀ (l:List α) (a b:α),minB f (if lexP (f b) (f a) then b else a) l=if lexP (f (minB f b l)) (f a) then minB f b l else a
  | [],a,b=>rfl
  | x :: l,a,b=>by
    have e1:∀ c,minB f c (x :: l)=minB f (if lexP (f x) (f c) then x else c) l:=fun c=>rfl
    rw [e1,e1,lex_step f a b x]
    exact minB_if f l a _
theorem minB_mem {α:Type} (f:α→Int × Nat):∀ (l:List α) (a:α),minB f a l=a ∨ minB f a l ∈ l
  | [],a=>.inl rfl
  | x :: l,a=>by
    have e1:minB f a (x :: l)=minB f (if lexP (f x) (f a) then x else a) l:=rfl
    rw [e1]
    rcases minB_mem f l (if lexP (f x) (f a) then x else a) with h | h
    · split at h
      · rename_i hx; rw [if_pos hx]; exact .inr (by rw [h]; exact List.mem_cons_self)
      · rename_i hx; rw [if_neg hx]; exact .inl h
    · exact .inr (List.mem_cons_of_mem _ h)
theorem minB_le {α:Type} (f:α→Int × Nat):∀ (l:List α) (a:α),¬ lexP (f a) (f (minB f a l))∧∀ x ∈ l,¬ lexP (f x) (f (minB f a l))
  | [],a=>⟨fun h=>by unfold lexP minB at h; simp only [List.foldl_nil] at h; omega,fun x hx=>(by cases hx)⟩
  | x :: l,a=>by
    have e1:minB f a (x :: l)=minB f (if lexP (f x) (f a) then x else a) l:=rfl
    obtain ⟨h1,h2⟩:=minB_le f l (if lexP (f x) (f a) then x else a)
    rw [e1]
    by_cases hx:lexP (f x) (f a)
    · rw [if_pos hx] at h1 h2 ⊢
      refine ⟨fun h=>h1 ?_,fun y hy=>?_⟩
      · unfold lexP at *; omega
      · rcases List.mem_cons.1 hy with rfl | hy
        · exact h1
        · exact h2 y hy
    · rw [if_neg hx] at h1 h2 ⊢
      refine ⟨h1,fun y hy=>?_⟩
      rcases List.mem_cons.1 hy with rfl | hy
      · intro h; apply h1; unfold lexP at *; omega
      · exact h2 y hy
theorem sooT_holds {α:Type} {ρ:Rho} {P:α→Prop} {s1:IE} {n1:Nat} {s:IE} {n:Nat} {x y:T α} (h:if lexP (s1.den ρ,n1) (s.den ρ,n) then x.Holds ρ P else y.Holds ρ P):(sooT s1 n1 s n x y).Holds ρ P:=by
  unfold sooT
  simp only [T.Holds]
  split
  · rename_i h1
    rw [BE.t_neq] at h1
    split
    · rename_i h2
      rw [BE.t_lss] at h2
      rw [if_pos (.inl h2)] at h; exact h
    · rename_i h2
      rw [BE.t_lss] at h2
      rw [if_neg (by unfold lexP; simp only; omega)] at h; exact h
  · rename_i h1
    rw [BE.t_neq] at h1
    have h1:s1.den ρ=s.den ρ:=by omega
    cases hb:Nat.ble (n1 + 1) n with
    | true =>
      have:=ble_t.1 hb
      rw [if_pos (.inr ⟨h1,by simp only; omega⟩)] at h
      exact h
    | false =>
      have:¬ n1 + 1≤n:=fun k=>by rw [ble_t.2 k] at hb; cases hb
      rw [if_neg (by unfold lexP; simp only; omega)] at h
      exact h
theorem sooT_inv {α:Type} {ρ:Rho} {P:α→Prop} {s1:IE} {n1:Nat} {s:IE} {n:Nat} {x y:T α} (h:(sooT s1 n1 s n x y).Holds ρ P):if lexP (s1.den ρ,n1) (s.den ρ,n) then x.Holds ρ P else y.Holds ρ P:=by
  unfold sooT at h
  simp only [T.Holds] at h
  split at h
  · rename_i h1
    rw [BE.t_neq] at h1
    split at h
    · rename_i h2
      rw [BE.t_lss] at h2
      rw [if_pos (.inl h2)]; exact h
    · rename_i h2
      rw [BE.t_lss] at h2
      rw [if_neg (by unfold lexP; simp only; omega)]; exact h
  · rename_i h1
    rw [BE.t_neq] at h1
    have h1:s1.den ρ=s.den ρ:=by omega
    cases hb:Nat.ble (n1 + 1) n with
    | true =>
      have:=ble_t.1 hb
      rw [hb,cond_true] at h
      rw [if_pos (.inr ⟨h1,by simp only; omega⟩)]; exact h
    | false =>
      have:¬ n1 + 1≤n:=fun k=>by rw [ble_t.2 k] at hb; cases hb
      rw [hb,cond_false] at h
      rw [if_neg (by unfold lexP; simp only; omega)]; exact h
noncomputable def fN (ρ:Rho) (W:List (Nat × Nat)) (nd:Node):Int × Nat:=(ρ.iv (400 + nd.id),lenNd W nd)
noncomputable def fO (ρ:Rho) (W:List (Nat × Nat)) (n:Nat) (s:IE) (c:Option Node):Int × Nat:=match c with
  | none=>(s.den ρ,n)
  | some nd=>fN ρ W nd
theorem seqT_cons (W : List (Nat × Nat)) (b n : Nat) (s : IE) (k : Node) (l : List Node) (c : Option Node) : seqT W b n s (k :: l) c = (match c with
    | none=>sooT (sN k.id) (lenNd W k) s n (seqT W b n s l (some k)) (seqT W b n s l none)
    | some d=>sooT (sN k.id) (lenNd W k) (sN d.id) (lenNd W d) (seqT W b n s l (some k)) (seqT W b n s l (some d))):=rfl
theorem seqT_holds {ρ:Rho} {W:List (Nat × Nat)} {b n:Nat} {s:IE} {R:AV→Prop}:∀ (l:List Node) (c:Option Node),(endN W b n s (minB (fO ρ W n s) c (l.map some))).Holds ρ R→(seqT W b n s l c).Holds ρ R
  | [],c,h=>h
  | k :: l,c,h=>by
    have e:minB (fO ρ W n s) c ((k :: l).map some)=minB (fO ρ W n s) (if lexP (fN ρ W k) (fO ρ W n s c) then some k else c) (l.map some):=rfl
    rw [e] at h
    rw [seqT_cons]
    cases c with
    | none =>
      refine sooT_holds ?_
      show if lexP (fN ρ W k) (fO ρ W n s none) then _ else _
      split
      · rename_i hx; rw [if_pos hx] at h; exact seqT_holds l _ h
      · rename_i hx; rw [if_neg hx] at h; exact seqT_holds l _ h
    | some d =>
      refine sooT_holds ?_
      show if lexP (fN ρ W k) (fO ρ W n s (some d)) then _ else _
      split
      · rename_i hx; rw [if_pos hx] at h; exact seqT_holds l _ h
      · rename_i hx; rw [if_neg hx] at h; exact seqT_holds l _ h
theorem minB_some {ρ:Rho} {W:List (Nat × Nat)} {n:Nat} {s:IE}:∀ (l:List Node) (k:Node),minB (fO ρ W n s) (some k) (l.map some)=some (minB (fN ρ W) k l)
  | [],_=>rfl
  | x :: l,k=>by
    have e:minB (fO ρ W n s) (some k) ((x :: l).map some)=minB (fO ρ W n s) (if lexP (fN ρ W x) (fN ρ W k) then some x else some k) (l.map some):=rfl
    have e2:minB (fN ρ W) k (x :: l)=minB (fN ρ W) (if lexP (fN ρ W x) (fN ρ W k) then x else k) l:=rfl
    rw [e,e2]
    split
    · exact minB_some l x
    · exact minB_some l k
theorem minB_none {ρ:Rho} {W:List (Nat × Nat)} {n:Nat} {s:IE} (k:Node) (l:List Node):minB (fO ρ W n s) none ((k :: l).map some)=if lexP (fN ρ W (minB (fN ρ W) k l)) (s.den ρ,n) then some (minB (fN ρ W) k l) else none:=by
  have e:minB (fO ρ W n s) none ((k :: l).map some)=minB (fO ρ W n s) (if lexP (fO ρ W n s (some k)) (fO ρ W n s none) then some k else none) (l.map some):=rfl
  rw [e,minB_if,minB_some]; rfl
theorem seqT_congr {W W':List (Nat × Nat)} {b n:Nat} {s:IE}:∀ (l:List Node) (c:Option Node),(∀ k ∈ l,lenNd W' k=lenNd W k)→(∀ k,c=some k→lenNd W' k=lenNd W k)→seqT W' b n s l c=seqT W b n s l c
  | [],c,_,hc=>by
    show endN W' b n s c=endN W b n s c
    cases c with
    | none=>rfl
    | some k=>unfold endN; simp only; rw [hc k rfl]
  | k :: l,c,hl,hc=>by
    have hk:=hl k List.mem_cons_self
    have hl':∀ k ∈ l,lenNd W' k=lenNd W k:=fun k h=>hl k (List.mem_cons_of_mem _ h)
    have i1:=seqT_congr (b:=b) (n:=n) (s:=s) l (some k) hl' (fun x hx=>by cases hx; exact hk)
    rw [seqT_cons,seqT_cons]
    cases c with
    | none =>
      have i2:=seqT_congr (b:=b) (n:=n) (s:=s) l none hl' (fun x hx=>by cases hx)
      simp only; rw [hk,i1,i2]
    | some d =>
      have i2:=seqT_congr (b:=b) (n:=n) (s:=s) l (some d) hl' hc
      simp only; rw [hk,hc d rfl,i1,i2]
theorem ln_inj {a b:Nat} (h:ln a=ln b):a=b:=by
  unfold ln at h
  simp only [AV.int.injEq,IE.lit.injEq,true_and] at h
  exact Int.ofNat.inj h
theorem encN_all {L b:Nat} {nd:Node} {q:AV × Heap} (h:encN L b nd q ≠ .bad):q.1=tag true∧allO q.2 (preN L)=true∧allO q.2 (sufN L nd.arrA)=true:=by
  unfold encN at h
  cases hc:and (and (eqAV q.1 (tag true)) (allO q.2 (preN L))) (allO q.2 (sufN L nd.arrA)) with
  | false=>rw [hc] at h; exact absurd rfl h
  | true =>
    simp only [Bool.and_eq_true] at hc
    exact ⟨eqAV_eq _ _ hc.1.1,hc.1.2,hc.2⟩
theorem encN_new {L b n x:Nat} {s:IE} {cs:List AV} {nd:Node} {q:AV × Heap} (h:encN L b nd q=.tup [ln 1,ln n,iA s,.agg cs,ln x]):q.2.get 2005=some (.cells [.sliceX b 1 0 n,iA s] 78 true false)∧q.2.get b=some (.cells cs 3 true true)∧q.2.next=x:=by
  have hc:and (and (eqAV q.1 (tag true)) (allO q.2 (preN L))) (allO q.2 (sufN L nd.arrA))=true:=by
    cases hc:and (and (eqAV q.1 (tag true)) (allO q.2 (preN L))) (allO q.2 (sufN L nd.arrA)) with
    | false=>unfold encN at h; rw [hc] at h; cases h
    | true=>rfl
  unfold encN at h
  rw [hc,cond_true] at h
  split at h
  · rename_i d n' s' hg
    cases hd:Nat.beq d b with
    | true =>
      rw [hd,cond_true] at h
      have hd:=beq_t.1 hd
      subst hd
      split at h
      · rename_i cs' hg2
        simp only [AV.tup.injEq,List.cons.injEq,and_true] at h
        obtain ⟨_,h2,h3,h4,h5⟩:=h
        have h2:=ln_inj h2
        have h5:=ln_inj h5
        unfold iA at h3
        simp only [AV.int.injEq,true_and] at h3
        simp only [AV.agg.injEq] at h4
        subst h2; subst h3; subst h4; subst h5
        exact ⟨hg,hg2,rfl⟩
      · cases h
    | false =>
      rw [hd,cond_false] at h
      cases hd2:Nat.beq d 2012 with
      | true =>
        rw [hd2,cond_true] at h
        simp only [AV.tup.injEq,List.cons.injEq] at h
        have:=ln_inj h.1
        cases this
      | false=>rw [hd2] at h; cases h
  · cases h
theorem encN_old {L b n x:Nat} {s:IE} {nd:Node} {q:AV × Heap} (h:encN L b nd q=.tup [ln 0,ln n,iA s,ln x]):q.2.get 2005=some (.cells (bestC n s) 78 true false)∧q.2.next=x:=by
  have hc:and (and (eqAV q.1 (tag true)) (allO q.2 (preN L))) (allO q.2 (sufN L nd.arrA))=true:=by
    cases hc:and (and (eqAV q.1 (tag true)) (allO q.2 (preN L))) (allO q.2 (sufN L nd.arrA)) with
    | false=>unfold encN at h; rw [hc] at h; cases h
    | true=>rfl
  unfold encN at h
  rw [hc,cond_true] at h
  split at h
  · rename_i d n' s' hg
    cases hd:Nat.beq d b with
    | true =>
      rw [hd,cond_true] at h
      split at h
      · simp only [AV.tup.injEq,List.cons.injEq] at h
        have:=ln_inj h.1
        cases this
      · cases h
    | false =>
      rw [hd,cond_false] at h
      cases hd2:Nat.beq d 2012 with
      | true =>
        rw [hd2,cond_true] at h
        simp only [AV.tup.injEq,List.cons.injEq,and_true,true_and] at h
        obtain ⟨h2,h3,h5⟩:=h
        have h2:=ln_inj h2
        have h5:=ln_inj h5
        unfold iA at h3
        simp only [AV.int.injEq,true_and] at h3
        have hd2:=beq_t.1 hd2
        subst h2; subst h3; subst h5; subst hd2
        exact ⟨hg,rfl⟩
      | false=>rw [hd2] at h; cases h
  · cases h
end Go.Sx
namespace Go.Sx
open Go.RowKit Go.Proofs
set_option maxRecDepth 100000
noncomputable def limE:IE:=.var 499
noncomputable def chF:List AV:=[iA limE,.func (.func 37) [] []]
noncomputable def loopFw (L:Nat):AObj:=.loop .ready .norm 19 (treeOf [(0,.agg (kCells L)),(1,.agg chF),(2,.ptr 2003 0),(3,.ptr 2004 0),(4,.nilslice),(5,ln 0),(6,.ptr 2005 0),(10,.func (.func 61) [] [.ptr 2006 0])]) [11] 19011 2007
noncomputable def preF (L:Nat):List (Nat × AObj):=vR L ++ [(2001,ordB L),(2002,.umap (mR false)),(2003,.cells (kCells L) 52 true false),(2004,.cells chF 58 true false)]
noncomputable def sufF (L:Nat) (arr:List Nat):List (Nat × AObj):=[(2006,.cells (kCells L) 52 true false),(2007,.defd true),(2008,loopFw L),(2009,.cells [.yieldF 2008] 84 true false),(2010,.cells (litsN arr) 104 true false),(2011,.cells [.func (.func 62) [] ptrsN] 105 true false)]
noncomputable def vNf (L:Nat) (arr:List Nat) (best:List AV):List (Nat × AObj):=preF L ++ ((2005,.cells best 78 true false) :: sufF L arr)
noncomputable def nilC:List AV:=[.nilslice,ln 0]
noncomputable def sF (nd:Node):IE:=cond (Nat.beq nd.rest 0) (.var (400 + nd.id)) (.app 9703 (.lit (Int.ofNat nd.id)) (.lit 0) (.lit 0))
noncomputable def tripsF (nd:Node) (w:Nat):List AV:=cond (Nat.beq nd.rest 0) (litsN nd.pre) (lMap (fun k=>.int .i64 (.app 9704 (.lit (Int.ofNat nd.id)) (.lit (Int.ofNat k)) (.lit 0))) (upN w 0))
noncomputable def noF (nd:Node):BE:=cond (Nat.beq nd.rest 0) (.cmp .gtr (.var (400 + nd.id)) limE) (.app 9705 (.lit (Int.ofNat nd.id)) (.lit 0) (.lit 0))
noncomputable def lfFA (L:Nat) (nd:Node) (best:List AV) (b:Nat):AV × Heap:=(tag true,viewA b (vNf L nd.arrA best))
noncomputable def lfFB (L:Nat) (W:List (Nat × Nat)) (nd:Node) (b:Nat):AV × Heap:=(tag true,viewA (b + 1) (vNf L nd.arrA [.sliceX b 1 0 (lenNd W nd),iA (sF nd)] ++ [(b,.cells (tripsF nd (lenNd W nd)) 3 true true)]))
noncomputable def shorter (W:List (Nat × Nat)) (nd:Node) (n:Nat):Bool:=Nat.ble (lenNd W nd + 1) n
noncomputable def saidFw0 (L:Nat) (W:List (Nat × Nat)) (nd:Node):T (AV × Heap):=.br (noF nd) (.ret (lfFA L nd nilC 2012)) (.ret (lfFB L W nd 2012))
noncomputable def saidFw (L:Nat) (W:List (Nat × Nat)) (nd:Node) (n:Nat) (s:IE):T (AV × Heap):=cond (shorter W nd n) (.br (noF nd) (.ret (lfFA L nd (bestC n s) 2013)) (.ret (lfFB L W nd 2013))) (.ret (lfFA L nd (bestC n s) 2013))
noncomputable def orcTryF (L:Nat) (ks:List Node) (W:List (Nat × Nat)) (args:List AV) (h:Heap):Option (T (AV × Heap)) :=
  match args with
  | .int _ (.lit (.ofNat t)) :: .int _ (.lit (.ofNat r)) :: _=>(match findN (isKid t r h) ks with
    | some nd=>(match h.get 2005 with
      | some (.cells [.nilslice,_] _ _ _)=>smallO 2012 (argsNd (lLen nd.pre) nd.rest) (vNf L nd.arrB nilC) (saidFw0 L W nd) (nwB 2012) args h
      | some (.cells [.sliceX d _ _ n,.int _ s] _ _ _)=>cond (and (Bool.not (frst nd)) (and (Nat.ble 1 n) (Nat.ble n L))) (cond (Nat.beq d 2012) (smallO 2013 (argsNd (lLen nd.pre) nd.rest) (vNf L nd.arrB (bestC n s)) (saidFw L W nd n s) (nwB 2013) args h) (aliasO 2013 2012 2005 (argsNd (lLen nd.pre) nd.rest) (vNf L nd.arrB (bestC n s)) (saidFw L W nd n s) (nwB 2013) (nwB h.next) args h)) none
      | _=>none)
    | none=>none)
  | _=>none
noncomputable def orcNf (L:Nat) (nd:Node) (ks:List Node) (W:List (Nat × Nat)) (f:FuncId) (args:List AV) (h:Heap):Option (T (AV × Heap)) :=
  cond (Nat.beq f 34) (orcSu L nd args h) (cond (Nat.beq f 62) (orcTryF L ks W args h) none)
noncomputable def tbNf (L:Nat) (nd:Node) (ks:List Node) (W:List (Nat × Nat)):Tabs:=⟨Sx.Tryd.ft.get,lFind Sx.Tryd.rt,2000,orcNf L nd ks W⟩
noncomputable def runNf (L K:Nat) (W:List (Nat × Nat)) (nd:Node) (b:Nat) (best:List AV):T (AV × Heap):=(evalN (tbNf L nd (kidsOf L K nd) W) 60 false 62 (argsNd (lLen nd.pre) nd.rest) (viewA b (vNf L nd.arrB best))).bind fun r=>graftT b (vNf L nd.arrB best) (viewA b (vNf L nd.arrB best)) (nwB b r) r
noncomputable def encFw (L b:Nat) (nd:Node) (q:AV × Heap):AV:=cond (and (and (eqAV q.1 (tag true)) (allO q.2 (preF L))) (allO q.2 (sufF L nd.arrA))) (match q.2.get 2005 with
  | some (.cells [.sliceX d 1 0 n, .int .i64 s] 78 true false) => cond (Nat.beq d b) (match q.2.get d with
        | some (.cells cs 3 true true)=>.tup [ln 1,ln n,iA s,.agg cs,ln q.2.next]
        | _=>.bad) (cond (Nat.beq d 2012) (.tup [ln 0,ln n,iA s,ln q.2.next]) .bad)
  | some (.cells [.nilslice,.int .i64 s] 78 true false)=>.tup [ln 2,iA s,ln q.2.next]
  | _=>.bad) .bad
noncomputable def endF (W:List (Nat × Nat)) (b:Nat) (o:Option (Nat × IE)) (c:Option Node):T AV:=match c with
  | some nd=>.ret (.tup [ln 1,ln (lenNd W nd),iA (sF nd),.agg (tripsF nd (lenNd W nd)),ln (b + 1)])
  | none=>(match o with
    | some p=>.ret (.tup [ln 0,ln p.1,iA p.2,ln b])
    | none=>.ret (.tup [ln 2,ln 0,ln b]))
noncomputable def btF (W:List (Nat × Nat)) (o:Option (Nat × IE)) (c:Option Node) (k:Node):Bool:=match c with
  | some d=>shorter W k (lenNd W d)
  | none=>(match o with
    | some p=>shorter W k p.1
    | none=>true)
noncomputable def seqF (W:List (Nat × Nat)) (b:Nat) (o:Option (Nat × IE)) (l:List Node):Option Node→T AV :=
  @List.rec Node (fun _=>Option Node→T AV) (fun c=>endF W b o c) (fun k _ ih c=>cond (btF W o c k) (.br (noF k) (ih c) (ih (some k))) (ih c)) l
noncomputable def expFw (L K:Nat) (W:List (Nat × Nat)) (nd:Node) (b:Nat) (o:Option (Nat × IE)):T AV:=cond (Nat.beq nd.rest 0) (.br (noF nd) (endF W b o none) (cond (btF W o none nd) (endF W b o (some nd)) (endF W b o none))) (seqF W b o (kidsOf L K nd) none)
noncomputable def ckFn (L K:Nat) (W:List (Nat × Nat)) (nd:Node) (n:Nat):Bool:=eqTF ((pruneT (runNf L K W nd 2013 (bestC n (.var 520))) (knN L K)).bind fun q=>.ret (encFw L 2013 nd q)) (expFw L K W nd 2013 (some (n,.var 520)))
noncomputable def ckF0 (L K:Nat) (W:List (Nat × Nat)) (nd:Node):Bool:=eqTF ((pruneT (runNf L K W nd 2012 nilC) (knN L K)).bind fun q=>.ret (encFw L 2012 nd q)) (expFw L K W nd 2012 none)
noncomputable def ckFo (L K:Nat) (nd:Node) (c:List (Nat × Nat)):Bool:=and (ckF0 L K c nd) (cond (frst nd) true (lAll (ckFn L K c nd) (upN L 1)))
noncomputable def ckFa (L K:Nat) (nd:Node):Bool:=lAll (ckFo L K nd) (combos (kidsOf L K nd))
end Go.Sx
