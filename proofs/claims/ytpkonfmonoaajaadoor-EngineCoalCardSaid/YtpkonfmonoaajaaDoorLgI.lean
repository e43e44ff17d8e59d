/- THE LAW OF THE LONGER EVENING,for a valid one: its calls are so; names for all of it. -/
import Derived.Test.YtpkonfmonoaajaaDoorLgE
/-! THE CALL Longer is as it is said. -/
namespace Go.Sx
open Go.RowKit Go.Proofs
set_option maxRecDepth 100000
theorem SameV.trans {ρ ρ1 ρ2:Rho} {v v1 v2:AV} (h:SameV ρ v ρ1 v1) (k:SameV ρ1 v1 ρ2 v2):SameV ρ v ρ2 v2:=fun σ κ n m rc rc'=>(h σ κ n m rc rc').trans (k σ κ m m rc' rc')
theorem SameV.tupl {ρ ρ':Rho} {l l':List AV} (h:SameL ρ l ρ' l'):SameV ρ (.tup l) ρ' (.tup l'):=fun σ κ n m rc rc'=>by simp only [conc,h σ κ n m rc rc']
theorem book_agree {iv iv':Nat→Int} (A:∀ j,j < 60→iv j=iv' j) (h:BookE iv):BookE iv':=by
  obtain ⟨h1,h2,h3,h4,h5,h6,h7,h8,h9,h10,h11,h12,h13,h14,h15⟩:=h
  simp only [A 0 (by omega),A 1 (by omega),A 2 (by omega),A 3 (by omega),A 4 (by omega),A 5 (by omega),A 6 (by omega),A 7 (by omega),A 8 (by omega),A 9 (by omega),A 10 (by omega),A 11 (by omega),A 12 (by omega),A 13 (by omega),A 14 (by omega),A 15 (by omega),A 16 (by omega),A 17 (by omega),A 18 (by omega),A 19 (by omega),A 20 (by omega),A 21 (by omega)] at *
  exact ⟨h1,h2,h3,h4,h5,h6,h7,h8,h9,h10,h11,h12,h13,h14,h15⟩
theorem cs_agree {ρ ρ':Rho} {L:Nat} (h5:L≤5) (A:∀ j,j < 60→ρ.iv j=ρ'.iv j) (h:∀ d ∈ csV L,d.den ρ=true):∀ d ∈ csV L,d.den ρ'=true:=by
  obtain ⟨h1,h2⟩:=cs_iff.1 h
  refine cs_iff.2 ⟨book_agree A h1,fun i hi=>?_⟩
  obtain ⟨⟨p1,p2,p3⟩,p4,p5⟩:=h2 i hi
  rw [A (30 + 4 * i) (by omega)] at p1 p2
  rw [A (30 + 4 * i + 1) (by omega)] at p2 p3
  rw [A (30 + 4 * i + 3) (by omega)] at p4 p5
  exact ⟨⟨p1,p2,p3⟩,p4,p5⟩
theorem walks_agree {ρ ρ':Rho} {m:Nat} (hm:m≤5) (A:∀ j,j < 60→ρ.iv j=ρ'.iv j) (h:∀ i,i < m→∃ W:Nat,W≤5∧ρ.iv (33 + 4 * i)=W):∀ i,i < m→∃ W:Nat,W≤5∧ρ'.iv (33 + 4 * i)=W:=fun i hi=>by
  obtain ⟨W,h1,h2⟩:=h i hi
  exact ⟨W,h1,by rw [← A _ (by omega)]; exact h2⟩
/-- whether some plan is enough,of an evening with other numbers,wherever its parts lie -/
theorem en50_ok {ok : Rho → (Nat → Obj → Prop) → Prop} {e : Nat → IE} {nb L : Nat} {c : BE} (h5 : L ≤ 5) (H : Looks true L)
    (hok:∀ ρ b,ok ρ b→∃ ρ',Reads e ρ ρ'∧(∀ i,i < L→∃ W:Nat,W≤5∧ρ'.iv (33 + 4 * i)=W)∧enD ρ' L=c.den ρ) {args:List AV} {h:Heap} {t:T (AV × Heap)}
    (k:xGo e nb L [.agg (evenX e (.sliceX nb 4 0 L))] (fun h=>(.bool c,h)) args h=some t):CallOk (pLaw ok) 50 args h t:=by
  obtain ⟨rfl,rfl,hn,hl⟩:=xGo_ok k
  let l:List (Nat × AObj):=[(1001,.cells (rowsX e L 30) 0 false false)]
  have hc1:CallOk (pLaw ok) 50 [.agg (evenX e (.sliceX 1001 4 0 L))] (viewA 2000 l) (.ret (.bool c,viewA 2000 l)):=by
    refine CallOk.read (p0:=pG L) (p:=pLaw ok) rfl (enough_ok h5 H.l H.o H.p) fun ρ b hb Q hQ=>?_
    obtain ⟨w,hw,hbw⟩:=hb
    obtain ⟨ρ',R,o1,o2⟩:=hok ρ w hw
    have R2:Reads e ρ (rhoE ρ' L):=⟨R.iv,R.bv⟩
    have at1:(viewA 2000 l).get 1001=some (.cells (rowsX e L 30) 0 false false):=viewA_mem 2000 l 0 rfl (1001,.cells (rowsX e L 30) 0 false false) (List.mem_singleton.2 rfl)
    have at2:(viewA 2000 (vS L)).get 1001=some (.cells (rowsV L 30) 0 false false):=viewA_mem 2000 (vS L) 0 rfl (1001,.cells (rowsV L 30) 0 false false) (List.mem_singleton.2 rfl)
    refine ⟨rhoE ρ' L,⟨w,okG_E o1,hbw⟩,SameL.cons (evenX_reads R2 _ _ _ _) SameL.nil,⟨rfl,fun b o hg=>?_⟩,(.bool c,viewA 2000 l),hQ,SameV.bool ((enB_E ρ' L).trans o2),rfl,fun b o hg=>?_⟩
    · rcases List.mem_singleton.1 (viewA_get _ _ _ _ hg) with h
      cases h
      exact ⟨_,at1,SameA.cells rfl (rowsX_reads R2 L 30 (by omega))⟩
    · rcases List.mem_singleton.1 (viewA_get _ _ _ _ hg) with h
      cases h
      exact ⟨_,at2,SameA.cells rfl (rowsX_reads R2 L 30 (by omega)).symm⟩
  refine hc1.moved (a:=1001) (c:=nb) (by omega) (by omega) rfl (fun g hg=>vX_low e L g (List.mem_cons_of_mem _ hg)) (fun g hg=>hl g (List.mem_cons_of_mem _ hg)) fun E=>?_
  have:concL (E.mv 1001 nb 2000) (evenX e (.sliceX 1001 4 0 L))=concL E (evenX e (.sliceX nb 4 0 L)):=mv_vx e (by simp only [concL,mv_sl,mv_st]) 22 0
  simp only [concL,conc,this]
theorem walks_cs {L:Nat} {ρ:Rho} (h:∀ c ∈ csV L,c.den ρ=true):∀ i,i < L→∃ W:Nat,W≤5∧ρ.iv (33 + 4 * i)=W:=fun _ hi=>walks_of h hi
theorem by_said {L i:Nat} (h0:1≤L) (h5:L≤5) (hi:i < L) (H:Looks true L):CallOk (pLaw fun ρ _=>OkBy L i ρ) 34 (argsBy L i (.var 502)) (viewA 2000 (vB L)) (.ret (.bool (.var 905),viewA 2000 (vB L))):=by
  have hck:ckBy L i=true:=lAll_mem (lAll_mem ckBy_all L (by simp only [List.mem_cons,List.not_mem_nil,or_false]; omega)) i (cntD_mem hi)
  refine run_view (ok:=fun ρ _=>OkBy L i ρ) (Tryd.tab (orcBy L i) (fun f args h t e=>?_) 2000) rfl (vB_ok h0 h5) hck (fun ρ b _=>⟨fun c hc=>(List.not_mem_nil hc).elim,fun c hc=>(List.not_mem_nil hc).elim⟩) fun ρ b K r _ hK hr=>?_
  · unfold orcBy at e
    obtain ⟨hf,e⟩:=cond_some e
    have:=beq_t.1 hf; subst this
    refine en50_ok h5 H (fun ρ b k=>⟨chg (byE i) ρ,⟨fun _ _=>rfl,fun _ _=>rfl⟩,fun j hj=>?_,k.e⟩) e
    obtain ⟨W,w1,w2⟩:=walks_cs k.cs j hj
    refine ⟨W,w1,?_⟩
    show (byE i (33 + 4 * j)).den ρ=W
    unfold byE hiE
    rw [oneE_ne (by omega)]; exact w2
  · unfold is905 at hr
    split at hr
    · rename_i b hb
      obtain ⟨s1,s2⟩:=isR_same (p0:=pLaw fun ρ _=>OkBy L i ρ) (p:=pLaw fun ρ _=>OkBy L i ρ) rfl rfl (ρ:=ρ) hr
      exact ⟨s1.trans (SameV.bool (show b=(BE.var 905).den ρ from (decK_ok hK _ _ hb).symm)),s2⟩
    · cases hr
theorem mv_self {E:Env} {l:List AV} (h:idsLts 2000 l=true):concL (E.mv 1001 1001 2000) l=concL E l:=by
  refine concL_ids (n:=2000) (E:=E) (E':=E.mv 1001 1001 2000) rfl (fun b hb=>?_) l h
  have e:mvN 1001 1001 b=b:=by unfold mvN; split <;> omega
  exact ⟨by simp only [Env.mv,if_pos hb,e],fun _=>by simp only [Env.mv,e]⟩
theorem by34_ok {L i:Nat} {k:Bool} (h0:1≤L) (h5:L≤5) (hi:i < L) (H:Looks true L) {args:List AV} {h:Heap} {t:T (AV × Heap)} (e:by34 L i args h=some t):CallOk (pLaw fun ρ _=>OkLo L i k ρ) 34 args h t:=by
  unfold by34 at e
  split at e
  · rename_i _ _ x
    obtain ⟨hx,e1⟩:=cond_some e
    clear e
    have hx:=ble_t.1 hx
    refine read_at (ok:=fun ρ _=>OkLo L i k ρ) (ok0:=fun ρ _=>OkBy L i ρ) (args1:=argsBy L i (lt x)) h5 (by_said h0 h5 hi H) rfl (fun E=>mv_self rfl) (fun ρ b hb=>?_) e1
    have R:Reads IE.var ρ ⟨fun j=>if j=502 then (x:Int) else ρ.iv j,fun j=>if j=905 then decide ((x:Int)≤ρ.iv 89) else ρ.bv j,ρ.fi,ρ.fb,ρ.ov⟩ :=
      ⟨fun j hj=>by show ρ.iv j=if j=502 then _ else _; rw [if_neg (by omega)],fun j hj=>by show ρ.bv j=if j=905 then _ else _; rw [if_neg (by omega)]⟩
    generalize hρ:(⟨fun j=>if j=502 then (x:Int) else ρ.iv j,fun j=>if j=905 then decide ((x:Int)≤ρ.iv 89) else ρ.bv j,ρ.fi,ρ.fb,ρ.ov⟩:Rho)=ρ' at R
    have i5:ρ'.iv 502=x:=by rw [← hρ]; simp
    have b9:ρ'.bv 905=decide ((x:Int)≤ρ.iv 89):=by rw [← hρ]; simp
    obtain ⟨⟨_,_⟩,hp⟩:=cs_iff.1 hb.cs
    have hp:=(hp i hi).min
    have hp:1≤ρ.iv (30 + 4 * i)∧ρ.iv (30 + 4 * i)≤ρ.iv (31 + 4 * i)∧ρ.iv (31 + 4 * i)≤60:=by rw [show 31 + 4 * i=30 + 4 * i + 1 by omega]; exact hp
    refine ⟨ρ',R,⟨cs_agree h5 R.iv hb.cs,?_⟩,?_,?_⟩
    · rw [b9,← hb.b x hx]
      show enD (chg (byE i) ρ') L=enD (chg (hiE i (.lit (ρ.iv (31 + 4 * i) + x))) ρ) L
      refine enD_agreeL (ρ:=chg (byE i) ρ') (ρ':=chg (hiE i (.lit (ρ.iv (31 + 4 * i) + x))) ρ) ⟨fun j hj=>?_,fun j hj=>(R.bv j hj).symm⟩ (show L≤7 by omega)
      show (byE i j).den ρ'=(hiE i (.lit (ρ.iv (31 + 4 * i) + x)) j).den ρ
      by_cases he:j=31 + 4 * i
      · subst he
        unfold byE hiE
        rw [oneE_at,oneE_at]
        show IntKind.i64.wrap (ρ'.iv (31 + 4 * i) + ρ'.iv 502)=ρ.iv (31 + 4 * i) + x
        rw [i5,← R.iv (31 + 4 * i) (by omega)]
        show IntKind.i64.wrap (ρ.iv (31 + 4 * i) + x)=_
        exact IntWalk.i64_in (ρ.iv (31 + 4 * i) + (x:Int)) (by omega)
      · unfold byE hiE
        rw [oneE_ne he,oneE_ne he]; exact (R.iv j hj).symm
    · have:lApp (evenS (.sliceX 1001 4 0 L)) [li (Int.ofNat i)]=lApp (viUp 22 0) (.sliceX 1001 4 0 L :: stX IE.var stJ [li (Int.ofNat i)]):=rfl
      have hs:SameL ρ (.sliceX 1001 4 0 L :: stX IE.var stJ [li (Int.ofNat i)]) ρ' (.sliceX 1001 4 0 L :: stX IE.var stJ [li (Int.ofNat i)]):=by
        refine SameL.cons (SameV.sliceX _ _ _ _) ?_
        have go:∀ l:List Nat,(∀ j ∈ l,j < 60)→SameL ρ (stX IE.var l [li (Int.ofNat i)]) ρ' (stX IE.var l [li (Int.ofNat i)]):=by
          intro l
          induction l with
          | nil=>intro _; exact SameL.cons (SameV.int rfl) SameL.nil
          | cons j l ih=>intro hl; exact SameL.cons (SameV.int (R.iv j (hl j List.mem_cons_self))) (ih fun m hm=>hl m (List.mem_cons_of_mem _ hm))
        exact go stJ (by simp [stJ])
      unfold argsBy
      rw [this]
      exact SameL.cons (SameV.agg (vxUp_reads R hs 22 0 (by omega))) (SameL.cons (SameV.int i5.symm) SameL.nil)
    · refine SameV.bool ?_
      show ρ'.bv 905=(BE.cmp .leq (lt x) (.var 89)).den ρ
      rw [b9]
      apply Bool.eq_iff_iff.2
      rw [BE.t_leq,decide_eq_true_iff]
      exact Iff.rfl
  · cases e
theorem yes_t {o:Option Bool} (h:yes o=true):o=some true:=by
  unfold yes at h
  split at h
  · rw [h]
  · cases h
theorem longer10 {L i:Nat} {k:Bool} (h0:1≤L) (h5:L≤5) (hi:i < L) (H:Looks true L):CallOk (pLaw fun ρ _=>OkLo L i k ρ) 10 (argsLo L i) (viewA 2000 (vB L)) (.ret (resLo k,viewA 2000 (vB L))):=by
  have hck:ckLo L i k=true:=by
    have:=lAll_mem (lAll_mem ckLo_all L (by simp only [List.mem_cons,List.not_mem_nil,or_false]; omega)) i (cntD_mem hi)
    simp only [Bool.and_eq_true] at this
    cases k
    · exact this.2
    · exact this.1
  refine run_view (ok:=fun ρ _=>OkLo L i k ρ) (Tryd.tab (orcLo L i) (fun f args h t e=>?_) 2000) rfl (vB_ok h0 h5) hck (fun ρ b o=>⟨fun c hc=>?_,fun c hc=>(List.not_mem_nil hc).elim⟩) fun ρ b K r _ hK hr=>?_
  · unfold orcLo at e
    cases h42:Nat.beq f 42 with
    | true=>rw [h42,cond_true] at e; have:=beq_t.1 h42; subst this; exact so_any (fun ρ b k=>k.cs) (vals_at h0 h5).1 e
    | false =>
      rw [h42,cond_false] at e
      obtain ⟨hf,e⟩:=cond_some e
      have:=beq_t.1 hf; subst this
      exact by34_ok h0 h5 hi H e
  · have hr:=o.r
    cases k
    · have hr:ρ.iv 89=-1:=by simpa using hr
      simp only [knLo,cond_false,ivC,List.mem_cons,List.not_mem_nil,or_false] at hc
      rcases hc with rfl | rfl
      · rw [BE.t_leq,IE.den_lit,IE.den_var]; omega
      · rw [BE.t_leq,IE.den_lit,IE.den_var]; omega
    · have hr:0≤ρ.iv 89∧ρ.iv 89≤60:=by simpa using hr
      simp only [knLo,cond_true,ivC,List.mem_cons,List.not_mem_nil,or_false] at hc
      rcases hc with rfl | rfl
      · rw [BE.t_leq,IE.den_lit,IE.den_var]; omega
      · rw [BE.t_leq,IE.den_lit,IE.den_var]; omega
  · cases k
    · exact isR_same (p0:=pLaw fun ρ _=>OkLo L i false ρ) (p:=pLaw fun ρ _=>OkLo L i false ρ) rfl rfl (ρ:=ρ) hr
    · have hr:is89 L K r=true:=hr
      unfold is89 at hr
      split at hr
      · rename_i e x hx
        simp only [Bool.and_eq_true] at hr
        obtain ⟨⟨a1,a2,a3⟩,a4,a5⟩:=hr
        have d1:=decK_ok hK _ _ (yes_t a2)
        have d2:=decK_ok hK _ _ (yes_t a3)
        rw [BE.t_leq,IE.den_var] at d1 d2
        rw [hx,eqAV_eq _ _ a1]
        refine ⟨SameV.tupl (SameL.cons (SameV.int (Int.le_antisymm d1 d2)) (SameL.cons (SameV.refl _ _) SameL.nil)),(beq_t.1 a5).trans (viewA_next 2000 _).symm,fun b o hg=>?_⟩
        exact ⟨o,isO_eq (lAll_mem a4 (b,o) (viewA_get _ _ _ _ hg)),SameA.refl o⟩
      · cases hr
end Go.Sx
/-! A PART THAT IS LONGER: more minutes are no easier; by how many it can be longer. -/
namespace Go.Sx
open Go.RowKit Go.Proofs
set_option maxRecDepth 100000
theorem mul_bd2 {a b m n:Int} (ha:0≤a∧a≤m) (hb:0≤b∧b≤n):0≤a * b∧a * b≤m * n :=
  ⟨Int.mul_nonneg ha.1 hb.1,Int.mul_le_mul ha.2 hb.2 hb.1 (by omega)⟩
theorem tak_eq {ρ : Rho} (hb : BookE ρ.iv) {i r : Nat} (hr : r < 2) (hp : 0 ≤ ρ.iv (31 + 4 * i) ∧ ρ.iv (31 + 4 * i) ≤ 130) :
    takF ρ i r=ρ.iv (31 + 4 * i) * ρ.iv (if ρ.bv (32 + 4 * i)=true then 11 + 4 * r else 9 + 4 * r)∧0≤ρ.iv (if ρ.bv (32 + 4 * i)=true then 11 + 4 * r else 9 + 4 * r)∧ρ.iv (if ρ.bv (32 + 4 * i)=true then 11 + 4 * r else 9 + 4 * r)≤3:=by
  have hq:0≤ρ.iv (if ρ.bv (32 + 4 * i)=true then 11 + 4 * r else 9 + 4 * r)∧ρ.iv (if ρ.bv (32 + 4 * i)=true then 11 + 4 * r else 9 + 4 * r)≤3:=by
    have h1:=hb.b0; have h2:=hb.b1; have h3:=hb.d0; have h4:=hb.d1
    have hr':r=0 ∨ r=1:=by omega
    rcases hr' with rfl | rfl <;> split <;> simp only [Nat.mul_zero,Nat.add_zero,Nat.mul_one,Nat.reduceAdd] <;> omega
  refine ⟨?_,hq⟩
  have:=mul_bd2 hp hq
  unfold takF
  generalize ρ.iv (31 + 4 * i) * ρ.iv (if ρ.bv (32 + 4 * i)=true then 11 + 4 * r else 9 + 4 * r)=x at *
  exact IntWalk.i64_in _ (by omega)
theorem bds_of {ρ:Rho} {m:Nat} (hb:BookE ρ.iv) (hp:∀ i,i < m→0≤ρ.iv (31 + 4 * i)∧ρ.iv (31 + 4 * i)≤130):Bds ρ m:=by
  have h1:=hb.room0; have h2:=hb.room1; have h3:=hb.load0; have h4:=hb.load1
  refine ⟨fun r hr=>?_,fun r hr=>?_,fun i hi r hr=>?_⟩
  · have hr':r=0 ∨ r=1:=by omega
    rcases hr' with rfl | rfl <;> simp only [Nat.add_zero,Nat.reduceAdd] <;> omega
  · have hr':r=0 ∨ r=1:=by omega
    rcases hr' with rfl | rfl <;> simp only [Nat.add_zero,Nat.reduceAdd] <;> omega
  · obtain ⟨e,q⟩:=tak_eq hb hr (hp i hi)
    have:=mul_bd2 (hp i hi) q
    rw [e]; omega
theorem fail_mono {ρ:Rho} (hb:BookE ρ.iv) {i:Nat} {l l':Int} (h:l≤l') (k:failF ρ i l'=true):failF ρ i l=true:=by
  have hc:=hb.cur.1
  unfold failF at *
  simp only [Bool.and_eq_true] at *
  refine ⟨k.1,?_⟩
  have k:=k.2
  split at k <;> split <;> simp only [decide_eq_true_eq] at * <;> omega
theorem hi_iv {ρ:Rho} {i:Nat} {v:Int} {j:Nat} (h:j ≠ 31 + 4 * i):(chg (hiE i (.lit v)) ρ).iv j=ρ.iv j:=by
  show (hiE i (.lit v) j).den ρ=_
  unfold hiE; rw [oneE_ne h]; rfl
theorem hi_at {ρ:Rho} {i:Nat} {v:Int}:(chg (hiE i (.lit v)) ρ).iv (31 + 4 * i)=v:=by
  show (hiE i (.lit v) (31 + 4 * i)).den ρ=_
  unfold hiE; rw [oneE_at]; rfl
section
variable {ρ:Rho} {L i:Nat} (hcs:∀ c ∈ csV L,c.den ρ=true) (h5:L≤5) (hi:i < L)
include hcs h5 hi
theorem hi_book (v:Int):BookE (chg (hiE i (.lit v)) ρ).iv:=by
  obtain ⟨h1,_⟩:=cs_iff.1 hcs
  have e:∀ j,j < 30→ρ.iv j=(chg (hiE i (.lit v)) ρ).iv j:=fun j hj=>(hi_iv (by omega)).symm
  obtain ⟨h1,h2,h3,h4,h5,h6,h7,h8,h9,h10,h11,h12,h13,h14,h15⟩:=h1
  simp only [e 0 (by omega),e 1 (by omega),e 2 (by omega),e 3 (by omega),e 4 (by omega),e 5 (by omega),e 6 (by omega),e 7 (by omega),e 8 (by omega),e 9 (by omega),e 10 (by omega),e 11 (by omega),e 12 (by omega),e 13 (by omega),e 14 (by omega),e 15 (by omega),e 16 (by omega),e 17 (by omega),e 18 (by omega),e 19 (by omega),e 20 (by omega),e 21 (by omega)] at *
  exact ⟨h1,h2,h3,h4,h5,h6,h7,h8,h9,h10,h11,h12,h13,h14,h15⟩
omit h5 in
theorem hi_mins {v:Int} (hv:0≤v∧v≤130):∀ j,j < L→0≤(chg (hiE i (.lit v)) ρ).iv (31 + 4 * j)∧(chg (hiE i (.lit v)) ρ).iv (31 + 4 * j)≤130:=fun j hj=>by
  by_cases e:j=i
  · subst e; rw [hi_at]; exact hv
  · rw [hi_iv (by omega)]
    have:=((cs_iff.1 hcs).2 j hj).min
    rw [show 31 + 4 * j=30 + 4 * j + 1 by omega]; omega
theorem hi_ez {v1 v2:Int} (h1:0≤v1) (h12:v1≤v2) (h2:v2≤130):Ez (chg (hiE i (.lit v2)) ρ) (chg (hiE i (.lit v1)) ρ) L:=by
  have b2:=hi_book hcs h5 hi v2
  have b1:=hi_book hcs h5 hi v1
  have m2:=hi_mins hcs hi (v:=v2) (by omega)
  have m1:=hi_mins hcs hi (v:=v1) (by omega)
  have iv:∀ j,j ≠ 31 + 4 * i→(chg (hiE i (.lit v2)) ρ).iv j=(chg (hiE i (.lit v1)) ρ).iv j:=fun j hj=>(hi_iv hj).trans (hi_iv hj).symm
  refine ⟨bds_of b2 m2,bds_of b1 m1,fun r hr=>Int.le_of_eq (iv _ (by omega)),fun r hr=>Int.le_of_eq (iv _ (by omega)),fun j hj r hr=>?_,fun j hj=>by rw [iv _ (by omega)]; exact Nat.le_refl _,fun j hj=>?_,fun j hj l l' h k=>?_⟩
  · obtain ⟨e1,q1⟩:=tak_eq b1 hr (m1 j hj)
    obtain ⟨e2,q2⟩:=tak_eq b2 hr (m2 j hj)
    rw [e1,e2]
    have hbv:(chg (hiE i (.lit v1)) ρ).bv=ρ.bv:=rfl
    have hbv2:(chg (hiE i (.lit v2)) ρ).bv=ρ.bv:=rfl
    rw [hbv] at *
    rw [hbv2] at *
    have hne:(if ρ.bv (32 + 4 * j)=true then 11 + 4 * r else 9 + 4 * r) ≠ 31 + 4 * i:=by split <;> omega
    rw [iv _ hne] at *
    refine Int.mul_le_mul_of_nonneg_right ?_ q1.1
    by_cases e:j=i
    · subst e; rw [hi_at,hi_at]; exact h12
    · exact Int.le_of_eq (iv _ (by omega)).symm
  · rw [hi_iv (by omega)]
    obtain ⟨W,w1,w2⟩:=walks_cs hcs j hj
    rw [w2]; omega
  · refine fail_mono b2 h ?_
    unfold failF at *
    rw [iv 20 (by omega),iv 18 (by omega),iv 21 (by omega),iv 16 (by omega)]
    exact k
theorem hi_anti {v1 v2:Int} (h1:0≤v1) (h12:v1≤v2) (h2:v2≤130) (k:hiF ρ L i v2=true):hiF ρ L i v1=true:=by
  have b:=(cs_iff.1 hcs).1
  have c0:=b.coal; have c1:=b.water; have c2:=b.room0; have c3:=b.room1
  have e0:∀ v,(chg (hiE i (.lit v)) ρ).iv 0=ρ.iv 0:=fun v=>hi_iv (by omega)
  have e2:∀ v,(chg (hiE i (.lit v)) ρ).iv 2=ρ.iv 2:=fun v=>hi_iv (by omega)
  refine enD_easier (hi_ez hcs h5 hi h1 h12 h2) ?_ ?_ k
  · rw [e0,e0]; omega
  · rw [e2,e2]; omega
end
/-- the greatest number below a limit that is right; -1 if none is -/
noncomputable def lastB (f:Nat→Bool):Nat→Int
  | 0=>-1
  | n + 1=>if f n=true then (n:Int) else lastB f n
theorem lastB_bd (f:Nat→Bool):∀ n,-1≤lastB f n∧lastB f n < n
  | 0=>by simp [lastB]
  | n + 1=>by
    have:=lastB_bd f n
    unfold lastB
    split <;> omega
theorem lastB_spec {f:Nat→Bool} (hf:∀ x y,x≤y→y≤60→f y=true→f x=true):∀ n,n≤61→∀ x,x < n→f x=decide ((x:Int)≤lastB f n)
  | 0,_,x,h=>absurd h (by omega)
  | n + 1,hn,x,h=>by
    unfold lastB
    split
    · rename_i k
      rw [hf x n (by omega) (by omega) k]
      exact (decide_eq_true (by omega)).symm
    · rename_i k
      have bd:=lastB_bd f n
      by_cases e:x=n
      · subst e
        have:f x=false:=by simpa using k
        rw [this]
        exact (decide_eq_false (by omega)).symm
      · exact lastB_spec hf n (by omega) x (by omega)
end Go.Sx
/-! THE LAW OF THE LONGER EVENING,for a valid one: its run,in each case. -/
namespace Go.Sx
open Go.RowKit Go.Proofs
set_option maxRecDepth 100000
noncomputable def tu2 (a b v:IE) (args:List AV) (h:Heap):Option (T (AV × Heap)):=cond (eqAVs args [.int .i64 a,.int .i64 b]) (some (.ret (.int .i64 v,h))) none
noncomputable def addE (a b:IE):IE:=.bin .add .i64 a b
noncomputable def hiX (i:Nat):IE:=.var (31 + 4 * i)
noncomputable def e1L (i:Nat):Nat→IE:=hiE i (.mn (.lit 60) (addE (hiX i) (.var 90)))
noncomputable def e2L (i:Nat):Nat→IE:=hiE i (.mn (.lit 60) (addE (hiX i) (addE (.var 89) (.lit 1))))
noncomputable def found (L r:Nat):Bool:=Nat.beq r L
noncomputable def is2 (d:Nat):Bool:=Bool.not (Nat.beq d 0)
noncomputable def orElse (a:Option (T (AV × Heap))) (b:Option (T (AV × Heap))):Option (T (AV × Heap)):=match a with
  | some t=>some t
  | none=>b
noncomputable def orcLg (L i r:Nat) (c1:Bool) (d:Nat) (f:FuncId) (args:List AV) (h:Heap):Option (T (AV × Heap)) :=
  cond (Nat.beq f 8) (closedOrc gl args h) (cond (Nat.beq f 7) (soGo L args h)
    (cond (Nat.beq f 9) (orElse (tu2 (.var 88) (.lit (Int.ofNat L)) (.lit (Int.ofNat i)) args h) (cond (found L r) (tu2 (.var 87) (addE (.var 89) (.lit 1)) (.var 90) args h) none))
    (cond (Nat.beq f 10) (xGo IE.var 1001 L (argsLo L i) (fun h=>(resLo (found L r),h)) args h)
    (cond (Nat.beq f 11) (pa11 IE.var 1001 L r args h)
    (cond (Nat.beq f 12) (orElse (pl12 IE.var 710 1001 L (found L r) args h) (cond (found L r) (orElse (pl12 (e1L i) 730 2007 L c1 args h) (pl12 (e2L i) 750 (cond c1 2013 2012) L (is2 d) args h)) none)) none)))))
noncomputable def tbLg (L i r:Nat) (c1:Bool) (d:Nat):Tabs:=⟨Sx.Tryd.ft.get,lFind Sx.Tryd.rt,2000,orcLg L i r c1 d⟩
noncomputable def qLg (L i r:Nat):List (Nat × Int × Int):=cond (found L r) [(89,0,60),(90,0,60),(31 + 4 * i,1,60)] [(89,-1,-1)]
noncomputable def fcLg (L i r:Nat) (c1:Bool) (d:Nat):List BE:=cond (found L r) (leV (.var 90) (.var 89) :: lApp (cond c1 [] [leV (.lit 61) (addE (hiX i) (.var 89))]) (cond (Nat.beq d 0) [] (cond (Nat.beq d 1) [leV (.lit 60) (.var 89)] [leV (.lit 60) (addE (hiX i) (.var 89))]))) []
noncomputable def lawLg (L i r:Nat) (c1:Bool) (d:Nat):Bool:=allK isTrueK (evalN (tbLg L i r c1 d) 60 false 3 [.agg (bookS (.sliceX 1001 4 0 L)),.agg [vi 88,vi 87]] (viewHeap 2000 (lB L))) (knOf (qLg L i r) (fcLg L i r c1 d))
noncomputable def lawLgs (L:Nat):Bool:=lAll (fun i=>and (lAll (fun r=>lawLg L i r false 0) (cntD L)) (lAll (fun d=>and (lawLg L i L true d) (lawLg L i L false d)) [0,1,2])) (cntD L)
theorem lawLg1:lawLgs 1=true:=by kernel_rfl
theorem lawLg2:lawLgs 2=true:=by kernel_rfl
end Go.Sx
/-! THE LAW OF THE LONGER EVENING,for a valid one: its calls are so; names for all of it. -/
namespace Go.Sx
open Go.RowKit Go.Proofs
set_option maxRecDepth 100000
theorem lawLg3:lawLgs 3=true:=by kernel_rfl
theorem lawLg4:lawLgs 4=true:=by kernel_rfl
theorem lawLg5:lawLgs 5=true:=by kernel_rfl
/-- the numbers that a call on an evening with other numbers reads -/
noncomputable def rhoR (e:Nat→IE) (nm:Nat) (ρ:Rho):Rho:=⟨fun j=>if j < 60 then (e j).den ρ else ρ.iv (nm + (j - 700)),ρ.bv,ρ.fi,ρ.fb,ρ.ov⟩
theorem rhoR_reads (e:Nat→IE) (nm:Nat) (ρ:Rho):Reads e ρ (rhoR e nm ρ):=⟨fun _ hj=>(if_pos hj).symm,fun _ _=>rfl⟩
theorem rhoR_iv {e:Nat→IE} {nm:Nat} {ρ:Rho} {j:Nat} (h:j < 60):(rhoR e nm ρ).iv j=(e j).den ρ:=if_pos h
theorem rhoR_nm {e:Nat→IE} {nm k:Nat} {ρ:Rho}:(rhoR e nm ρ).iv (700 + k)=ρ.iv (nm + k):=by
  show (if 700 + k < 60 then _ else ρ.iv (nm + (700 + k - 700)))=_
  rw [if_neg (by omega),Nat.add_sub_cancel_left]
theorem turn_at {ok:Rho→(Nat→Obj→Prop)→Prop} {a b v:IE} (hok:∀ ρ m,ok ρ m→b.den ρ≤9223372036854775807∧turnF (a.den ρ) (b.den ρ)=v.den ρ) (h:Heap):CallOk (pLaw ok) 9 [.int .i64 a,.int .i64 b] h (.ret (.int .i64 v,h)):=by
  have at_:CallOk (pLaw ok) 9 [.int .i64 a,.int .i64 b] h (.br (.cmp .leq b big) (.ret (.int .i64 (.app 6 a b (.lit 0)),h)) (.fail 99)):=turn_orc (p:=pLaw ok) rfl (args:=[.int .i64 a,.int .i64 b]) (h:=h) rfl
  refine CallOk.read (p0:=pLaw ok) (p:=pLaw ok) rfl at_ fun ρ b' hk Q k=>⟨ρ,hk,SameL.refl _ _,⟨rfl,fun j o g=>⟨o,g,SameA.refl o⟩⟩,?_⟩
  obtain ⟨w,hw,_⟩:=hk
  obtain ⟨h1,h2⟩:=hok ρ w hw
  simp only [T.Holds]
  rw [if_pos (by rw [BE.t_leq]; exact h1)]
  exact ⟨_,k,SameV.int h2,rfl,fun j o g=>⟨o,g,SameA.refl o⟩⟩
theorem tu2_ok {ok:Rho→(Nat→Obj→Prop)→Prop} {a b v:IE} (hok:∀ ρ m,ok ρ m→b.den ρ≤9223372036854775807∧turnF (a.den ρ) (b.den ρ)=v.den ρ) {args:List AV} {h:Heap} {t:T (AV × Heap)} (e:tu2 a b v args h=some t):CallOk (pLaw ok) 9 args h t:=by
  unfold tu2 at e
  obtain ⟨k,e1⟩:=cond_some e
  clear e
  obtain rfl:=eqAVs_eq _ _ k
  obtain rfl:=Option.some.inj e1
  exact turn_at hok h
theorem orElse_some {a b:Option (T (AV × Heap))} {t:T (AV × Heap)} (h:orElse a b=some t):a=some t ∨ b=some t:=by
  unfold orElse at h
  split at h
  · exact .inl h
  · exact .inr h
structure OkLg (L i r:Nat) (c1:Bool) (d:Nat) (ρ:Rho):Prop where
  lo:OkLo L i (found L r) ρ
  pa:OkPa L r ρ
  t:turnF (ρ.iv 88) L=i
  p0:OkPl L (found L r) (rhoR IE.var 710 ρ)
  u:r=L→turnF (ρ.iv 87) (ρ.iv 89 + 1)=ρ.iv 90∧0≤ρ.iv 90∧ρ.iv 90≤ρ.iv 89
  p1:r=L→OkPl L c1 (rhoR (e1L i) 730 ρ)
  p2:r=L→OkPl L (is2 d) (rhoR (e2L i) 750 ρ)
  fc:∀ c ∈ fcLg L i r c1 d,c.den ρ=true
theorem found_iff {L r:Nat}:found L r=true ↔ r=L:=beq_t
theorem orcLg_ok {L i r d:Nat} {c1:Bool} (h0:1≤L) (h5:L≤5) (hi:i < L) (hr:r≤L) (HT:Looks true L) (HF:∀ n,n≤5→Looks false n):∀ f args h t,orcLg L i r c1 d f args h=some t→CallOk (pLaw fun ρ _=>OkLg L i r c1 d ρ) f args h t:=by
  intro f args h t e
  unfold orcLg at e
  cases h8:Nat.beq f 8 with
  | true=>rw [h8,cond_true] at e; have:=beq_t.1 h8; subst this; exact CallOk.lift (firedOrc_ok e)
  | false =>
    rw [h8,cond_false] at e
    cases h7:Nat.beq f 7 with
    | true=>rw [h7,cond_true] at e; have:=beq_t.1 h7; subst this; exact so_any (fun ρ b k=>k.lo.cs) (vals_at h0 h5).2 e
    | false =>
      rw [h7,cond_false] at e
      cases h9:Nat.beq f 9 with
      | true =>
        rw [h9,cond_true] at e
        have:=beq_t.1 h9; subst this
        rcases orElse_some e with e | e
        · exact tu2_ok (fun ρ m k=>⟨by show (L:Int)≤_; omega,k.t⟩) e
        · obtain ⟨hf,e⟩:=cond_some e
          have hf:=found_iff.1 hf
          refine tu2_ok (fun ρ m k=>?_) e
          have hlo:=k.lo.r
          rw [found_iff.2 hf,cond_true,decide_eq_true_iff] at hlo
          have e1:(addE (.var 89) (.lit 1)).den ρ=ρ.iv 89 + 1:=by
            show IntKind.i64.wrap (ρ.iv 89 + 1)=_
            exact IntWalk.i64_in _ (by omega)
          rw [e1]
          exact ⟨by omega,(k.u hf).1⟩
      | false =>
        rw [h9,cond_false] at e
        cases h10:Nat.beq f 10 with
        | true =>
          rw [h10,cond_true] at e
          have:=beq_t.1 h10; subst this
          refine read_at (ok:=fun ρ _=>OkLg L i r c1 d ρ) (ok0:=fun ρ _=>OkLo L i (found L r) ρ) (args1:=argsLo L i) h5 (longer10 h0 h5 hi HT) ?_ (fun E=>mv_self rfl) (fun ρ b k=>⟨ρ,⟨fun _ _=>rfl,fun _ _=>rfl⟩,k.lo,SameL.refl _ _,SameV.refl _ _⟩) e
          cases found L r <;> rfl
        | false =>
          rw [h10,cond_false] at e
          cases h11:Nat.beq f 11 with
          | true =>
            rw [h11,cond_true] at e
            have:=beq_t.1 h11; subst this
            exact pa11_ok h0 h5 hr HF (fun ρ b k=>⟨ρ,⟨fun _ _=>rfl,fun _ _=>rfl⟩,k.pa⟩) e
          | false =>
            rw [h11,cond_false] at e
            obtain ⟨h12,e⟩:=cond_some e
            have:=beq_t.1 h12; subst this
            rcases orElse_some e with e | e
            · exact pl12_ok h0 h5 HT (fun ρ b k=>⟨_,rhoR_reads IE.var 710 ρ,k.p0,fun _ _ _=>rhoR_nm⟩) e
            · obtain ⟨hf,e⟩:=cond_some e
              have hf:=found_iff.1 hf
              rcases orElse_some e with e | e
              · exact pl12_ok h0 h5 HT (fun ρ b k=>⟨_,rhoR_reads (e1L i) 730 ρ,k.p1 hf,fun _ _ _=>rhoR_nm⟩) e
              · exact pl12_ok h0 h5 HT (fun ρ b k=>⟨_,rhoR_reads (e2L i) 750 ρ,k.p2 hf,fun _ _ _=>rhoR_nm⟩) e
end Go.Sx
