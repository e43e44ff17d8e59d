/- THE LAW OF THE COAL: there are such names,for any valid evening; called with whatever can be read. -/
import Derived.Test.YtpkonfmonoaajaaDoorLgI
import Derived.Test.YtpkonfmonoaajaaDoorEvG
/-! THE CALL Coal,as it is said: the least coal has a name. -/
namespace Go.Sx
open Go.RowKit Go.Proofs
set_option maxRecDepth 100000
noncomputable def coE (v:IE):Nat→IE:=fun j=>cond (Nat.beq j 0) v (cond (Nat.beq j 1) v (.var j))
noncomputable def coF (ρ:Rho) (L:Nat) (s:Int):Bool:=enD (chg (coE (.lit s)) ρ) L
structure OkWi (L:Nat) (ρ:Rho):Prop where
  cs:∀ d ∈ csV L,d.den ρ=true
  e:enD (chg (coE (.var 502)) ρ) L=ρ.bv 905
noncomputable def argsWi (e:Nat→IE) (L:Nat) (x:IE):List AV:=[.agg (evenX e (.sliceX 1001 4 0 L)),.int .i64 x]
noncomputable def orcWi (L:Nat) (f:FuncId) (args:List AV) (h:Heap):Option (T (AV × Heap)):=cond (Nat.beq f 50) (xGo (coE (.var 502)) 1001 L [.agg (evenX (coE (.var 502)) (.sliceX 1001 4 0 L))] (fun h=>(.bool (.var 905),h)) args h) none
noncomputable def tbWi (L:Nat):Tabs:=⟨Sx.Tryd.ft.get,lFind Sx.Tryd.rt,2000,orcWi L⟩
noncomputable def runWi (L:Nat):T (AV × Heap):=(evalN (tbWi L) 60 false 38 (argsWi IE.var L (.var 502)) (viewA 2000 (vB L))).bind fun r=>graftT 2000 (vB L) (viewA 2000 (vB L)) [] r
noncomputable def ckWi (L:Nat):Bool:=allK (is905 L) (runWi L) (knOf [] [])
theorem ckWi_all:lAll ckWi [1,2,3,4,5]=true:=by kernel_rfl
/-! ## Coal -/
noncomputable def roomE (x:Nat):Nat→IE:=oneE 4 (lt x)
structure OkCo (L:Nat) (k:Bool) (ρ:Rho):Prop where
  cs:∀ d ∈ csV L,d.den ρ=true
  b:∀ s:Nat,(s:Int)≤ρ.iv 4→coF ρ L s=decide (ρ.iv 89≤s)
  r:cond k (decide (0≤ρ.iv 89∧ρ.iv 89≤ρ.iv 4)) (decide (ρ.iv 89=ρ.iv 4 + 1))=true
noncomputable def w38 (L x:Nat) (args:List AV) (h:Heap):Option (T (AV × Heap)):=match args with
  | [_,.int _ (.lit (.ofNat s))]=>cond (Nat.ble s x) (xGo (roomE x) 1001 L (argsWi (roomE x) L (lt s)) (fun h=>(.bool (.cmp .leq (.var 89) (lt s)),h)) args h) none
  | _=>none
noncomputable def argsCo (e:Nat→IE) (L:Nat):List AV:=[.agg (bookX e (.sliceX 1001 4 0 L))]
noncomputable def orcCo (L x:Nat) (f:FuncId) (args:List AV) (h:Heap):Option (T (AV × Heap)):=cond (Nat.beq f 42) (xGo (roomE x) 1001 L (argsCo (roomE x) L) (fun h=>(.bool (.lit true),h)) args h) (cond (Nat.beq f 38) (w38 L x args h) none)
noncomputable def tbCo (L x:Nat):Tabs:=⟨Sx.Tryd.ft.get,lFind Sx.Tryd.rt,2000,orcCo L x⟩
noncomputable def runCo (L x:Nat):T (AV × Heap):=(evalN (tbCo L x) 60 false 15 (argsCo (roomE x) L) (viewA 2000 (vB L))).bind fun r=>graftT 2000 (vB L) (viewA 2000 (vB L)) [] r
noncomputable def resCo (k:Bool):AV:=cond k (.tup [vi 89,li 0]) (.tup [li 0,li 4])
noncomputable def knCo (k:Bool) (x:Nat):List (Nat × Int × Int):=cond k [(89,0,Int.ofNat x)] [(89,Int.ofNat (x + 1),Int.ofNat (x + 1))]
noncomputable def ckCo (L x:Nat) (k:Bool):Bool:=allK (fun K r=>cond k (is89 L K r) (isR (resCo false) 2000 (vB L) r)) (runCo L x) (knOf (knCo k x) [])
/-- so many bunkers,from one on -/
noncomputable def ckCos (L:Nat):Nat→Nat→Bool
  | 0,_=>true
  | n + 1,x=>and (and (ckCo L x true) (ckCo L x false)) (ckCos L n (x + 1))
end Go.Sx
/-! THE CALL Coal is as it is said. -/
namespace Go.Sx
open Go.RowKit Go.Proofs
set_option maxRecDepth 100000
theorem coE_ne {v:IE} {j:Nat} (h0:j ≠ 0) (h1:j ≠ 1):coE v j=.var j:=by
  unfold coE
  cases h:Nat.beq j 0 with
  | true=>exact absurd (beq_t.1 h) h0
  | false =>
    cases h':Nat.beq j 1 with
    | true=>exact absurd (beq_t.1 h') h1
    | false=>rfl
theorem coE_0 {v:IE}:coE v 0=v:=rfl
theorem coE_1 {v:IE}:coE v 1=v:=rfl
theorem ckCos_at {L:Nat}:∀ {n x y:Nat},ckCos L n x=true→x≤y→y < x + n→ckCo L y true=true∧ckCo L y false=true
  | 0,x,y,_,h1,h2=>absurd h1 (by omega)
  | n + 1,x,y,h,h1,h2=>by
    simp only [ckCos,Bool.and_eq_true] at h
    by_cases e:x=y
    · subst e; exact h.1
    · exact ckCos_at h.2 (by omega) (by omega)
theorem wi_said {L:Nat} (h0:1≤L) (h5:L≤5) (H:Looks true L):CallOk (pLaw fun ρ _=>OkWi L ρ) 38 (argsWi IE.var L (.var 502)) (viewA 2000 (vB L)) (.ret (.bool (.var 905),viewA 2000 (vB L))):=by
  have hck:ckWi L=true:=lAll_mem ckWi_all L (by simp only [List.mem_cons,List.not_mem_nil,or_false]; omega)
  refine run_view (ok:=fun ρ _=>OkWi L ρ) (Tryd.tab (orcWi L) (fun f args h t e=>?_) 2000) rfl (vB_ok h0 h5) hck (fun ρ b _=>⟨fun c hc=>(List.not_mem_nil hc).elim,fun c hc=>(List.not_mem_nil hc).elim⟩) fun ρ b K r _ hK hr=>?_
  · unfold orcWi at e
    obtain ⟨hf,e⟩:=cond_some e
    have:=beq_t.1 hf; subst this
    refine en50_ok h5 H (fun ρ b k=>⟨chg (coE (.var 502)) ρ,⟨fun _ _=>rfl,fun _ _=>rfl⟩,fun j hj=>?_,k.e⟩) e
    obtain ⟨W,w1,w2⟩:=walks_cs k.cs j hj
    refine ⟨W,w1,?_⟩
    show (coE (.var 502) (33 + 4 * j)).den ρ=W
    rw [coE_ne (by omega) (by omega)]; exact w2
  · unfold is905 at hr
    split at hr
    · rename_i b hb
      obtain ⟨s1,s2⟩:=isR_same (p0:=pLaw fun ρ _=>OkWi L ρ) (p:=pLaw fun ρ _=>OkWi L ρ) rfl rfl (ρ:=ρ) hr
      exact ⟨s1.trans (SameV.bool (show b=(BE.var 905).den ρ from (decK_ok hK _ _ hb).symm)),s2⟩
    · cases hr
/-- with a bunker that is known -/
structure OkCx (L x:Nat) (k:Bool) (ρ:Rho):Prop where
  o:OkCo L k ρ
  x:ρ.iv 4=x
theorem room_reads {ρ ρ':Rho} {x:Nat} (hx:ρ.iv 4=x) (iv:∀ j,j < 60→ρ.iv j=ρ'.iv j) (bv:∀ j,j < 60→ρ.bv j=ρ'.bv j):Reads (roomE x) ρ ρ':=⟨fun j hj=>by
  unfold roomE
  by_cases e:j=4
  · subst e; rw [oneE_at,← iv 4 (by omega),hx]; rfl
  · rw [oneE_ne e]; exact iv j hj,bv⟩
theorem w38_ok {L x:Nat} {k:Bool} (h0:1≤L) (h5:L≤5) (H:Looks true L) {args:List AV} {h:Heap} {t:T (AV × Heap)} (e:w38 L x args h=some t):CallOk (pLaw fun ρ _=>OkCx L x k ρ) 38 args h t:=by
  unfold w38 at e
  split at e
  · rename_i _ _ s
    obtain ⟨hx,e1⟩:=cond_some e
    clear e
    have hx:=ble_t.1 hx
    refine read_at (ok:=fun ρ _=>OkCx L x k ρ) (ok0:=fun ρ _=>OkWi L ρ) (args1:=argsWi (roomE x) L (lt s)) h5 (wi_said h0 h5 H) rfl (fun E=>mv_self rfl) (fun ρ b hb=>?_) e1
    let ρ':Rho:=⟨fun j=>if j=502 then (s:Int) else ρ.iv j,fun j=>if j=905 then decide (ρ.iv 89≤(s:Int)) else ρ.bv j,ρ.fi,ρ.fb,ρ.ov⟩
    have iv:∀ j,j < 60→ρ.iv j=ρ'.iv j:=fun j hj=>by show ρ.iv j=if j=502 then _ else _; rw [if_neg (by omega)]
    have bv:∀ j,j < 60→ρ.bv j=ρ'.bv j:=fun j hj=>by show ρ.bv j=if j=905 then _ else _; rw [if_neg (by omega)]
    have i5:ρ'.iv 502=s:=rfl
    have R:=room_reads hb.x iv bv
    refine ⟨ρ',R,⟨cs_agree h5 iv hb.o.cs,?_⟩,?_,?_⟩
    · show enD (chg (coE (.var 502)) ρ') L=decide (ρ.iv 89≤(s:Int))
      rw [← hb.o.b s (by rw [hb.x]; omega)]
      refine enD_agreeL (ρ:=chg (coE (.var 502)) ρ') (ρ':=chg (coE (.lit s)) ρ) ⟨fun j hj=>?_,fun j hj=>(bv j hj).symm⟩ (show L≤7 by omega)
      show (coE (.var 502) j).den ρ'=(coE (.lit s) j).den ρ
      by_cases e0:j=0
      · subst e0; exact i5
      · by_cases e1:j=1
        · subst e1; exact i5
        · rw [coE_ne e0 e1,coE_ne e0 e1]; exact (iv j hj).symm
    · exact SameL.cons (evenX_reads R _ _ _ _) (SameL.cons (SameV.int i5.symm) SameL.nil)
    · refine SameV.bool ?_
      show decide (ρ.iv 89≤(s:Int))=(BE.cmp .leq (.var 89) (lt s)).den ρ
      apply Bool.eq_iff_iff.2
      rw [BE.t_leq,decide_eq_true_iff]
      exact Iff.rfl
  · cases e
theorem coal_x {L x:Nat} {k:Bool} (h0:1≤L) (h5:L≤5) (H:Looks true L) (hck:ckCo L x k=true):CallOk (pLaw fun ρ _=>OkCx L x k ρ) 15 (argsCo (roomE x) L) (viewA 2000 (vB L)) (.ret (resCo k,viewA 2000 (vB L))):=by
  refine run_view (ok:=fun ρ _=>OkCx L x k ρ) (Tryd.tab (orcCo L x) (fun f args h t e=>?_) 2000) rfl (vB_ok h0 h5) hck (fun ρ b o=>⟨fun c hc=>?_,fun c hc=>(List.not_mem_nil hc).elim⟩) fun ρ b K r o hK hr=>?_
  · unfold orcCo at e
    cases h42:Nat.beq f 42 with
    | true =>
      rw [h42,cond_true] at e
      have:=beq_t.1 h42; subst this
      refine read_at (ok:=fun ρ _=>OkCx L x k ρ) (ok0:=fun ρ _=>∀ c ∈ csV L,c.den ρ=true) (args1:=argsCo (roomE x) L) h5 (valid_ok (ok:=fun ρ _=>∀ c ∈ csV L,c.den ρ=true) (vals_at h0 h5).1 fun ρ b h=>h) rfl (fun E=>mv_self rfl) (fun ρ b hb=>?_) e
      have R:=room_reads hb.x (fun j _=>rfl) (fun j _=>rfl)
      exact ⟨ρ,R,hb.o.cs,SameL.cons (bookX_reads R _ _ _ _) SameL.nil,SameV.refl _ _⟩
    | false =>
      rw [h42,cond_false] at e
      obtain ⟨hf,e⟩:=cond_some e
      have:=beq_t.1 hf; subst this
      exact w38_ok h0 h5 H e
  · have hr:=o.o.r
    have hx:=o.x
    cases k
    · have hr:ρ.iv 89=ρ.iv 4 + 1:=by simpa using hr
      simp only [knCo,cond_false,ivC,List.mem_cons,List.not_mem_nil,or_false] at hc
      rcases hc with rfl | rfl
      · rw [BE.t_leq,IE.den_lit,IE.den_var]; show ((x + 1:Nat):Int)≤_; omega
      · rw [BE.t_leq,IE.den_lit,IE.den_var]; show _≤((x + 1:Nat):Int); omega
    · have hr:0≤ρ.iv 89∧ρ.iv 89≤ρ.iv 4:=by simpa using hr
      simp only [knCo,cond_true,ivC,List.mem_cons,List.not_mem_nil,or_false] at hc
      rcases hc with rfl | rfl
      · rw [BE.t_leq,IE.den_lit,IE.den_var]; omega
      · rw [BE.t_leq,IE.den_lit,IE.den_var]; show _≤((x:Nat):Int); omega
  · cases k
    · exact isR_same (p0:=pLaw fun ρ _=>OkCx L x false ρ) (p:=pLaw fun ρ _=>OkCx L x false ρ) rfl rfl (ρ:=ρ) hr
    · have hr:is89 L K r=true:=hr
      unfold is89 at hr
      split at hr
      · rename_i e y hx
        simp only [Bool.and_eq_true] at hr
        obtain ⟨⟨a1,a2,a3⟩,a4,a5⟩:=hr
        have d1:=decK_ok hK _ _ (yes_t a2)
        have d2:=decK_ok hK _ _ (yes_t a3)
        rw [BE.t_leq,IE.den_var] at d1 d2
        rw [hx,eqAV_eq _ _ a1]
        refine ⟨SameV.tupl (SameL.cons (SameV.int (Int.le_antisymm d1 d2)) (SameL.cons (SameV.refl _ _) SameL.nil)),(beq_t.1 a5).trans (viewA_next 2000 _).symm,fun b o hg=>?_⟩
        exact ⟨o,isO_eq (lAll_mem a4 (b,o) (viewA_get _ _ _ _ hg)),SameA.refl o⟩
      · cases hr
/-- with whatever bunker -/
theorem coal15 {L:Nat} {k:Bool} (h0:1≤L) (h5:L≤5) (H:Looks true L) (hck:∀ x,1≤x→x≤99→ckCo L x true=true∧ckCo L x false=true):CallOk (pLaw fun ρ _=>OkCo L k ρ) 15 (bookA L) (viewA 2000 (vB L)) (.ret (resCo k,viewA 2000 (vB L))):=by
  refine CallOk.split (ι:={ x:Nat // 1≤x∧x≤99 }) (P:=Tryd.prog) (RC:=rcOf Tryd.rows) (okC:=fun x ρ _=>OkCx L x.1 k ρ) (ok:=fun ρ _=>OkCo L k ρ) (fun x=>?_) (fun ρ m o=>?_) fun x ρ m o=>o.o
  · have hc : ckCo L x.1 k = true := by
      cases k
      · exact (hck x.1 x.2.1 x.2.2).2
      · exact (hck x.1 x.2.1 x.2.2).1
    refine CallOk.read (p0:=pLaw fun ρ _=>OkCx L x.1 k ρ) (p:=pLaw fun ρ _=>OkCx L x.1 k ρ) rfl (coal_x h0 h5 H hc) fun ρ b hb Q hQ=>?_
    obtain ⟨w,hw,hbw⟩:=hb
    have hw:OkCx L x.1 k ρ:=hw
    have R:=room_reads hw.x (fun j _=>rfl) (fun j _=>rfl)
    exact ⟨ρ,⟨w,hw,hbw⟩,SameL.cons (fun σ κ n m rc rc'=>(bookX_reads R _ _ _ _ σ κ m n rc' rc).symm) SameL.nil,⟨rfl,fun j o g=>⟨o,g,SameA.refl o⟩⟩,_,hQ,SameV.refl _ _,rfl,fun j o g=>⟨o,g,SameA.refl o⟩⟩
  · have b:=(cs_iff.1 o.cs).1.room0
    exact ⟨⟨(ρ.iv 4).toNat,by omega,by omega⟩,o,by show ρ.iv 4=((ρ.iv 4).toNat:Int); omega⟩
end Go.Sx
/-! THE LAW OF THE COAL,for a valid evening: its run,in each case; its calls are so. -/
namespace Go.Sx
open Go.RowKit Go.Proofs
set_option maxRecDepth 100000
noncomputable def subX (a b:IE):IE:=.bin .sub .i64 a b
noncomputable def moE:Nat→IE:=fun j=>cond (Nat.beq j 0) (addE (.var 89) (.var 90)) (cond (Nat.beq j 1) (.var 4) (.var j))
noncomputable def lessE:IE:=subX (.var 89) (.lit 1)
noncomputable def orcCl (L:Nat) (k z o:Bool) (f:FuncId) (args:List AV) (h:Heap):Option (T (AV × Heap)) :=
  cond (Nat.beq f 8) (closedOrc gl args h) (cond (Nat.beq f 7) (soGo L args h)
    (cond (Nat.beq f 9) (cond k (tu2 (.var 88) (addE (subX (.var 4) (.var 89)) (.lit 1)) (.var 90) args h) none)
    (cond (Nat.beq f 15) (xGo IE.var 1001 L (argsCo IE.var L) (fun h=>(resCo k,h)) args h)
    (cond (Nat.beq f 12) (cond k (orElse (pl12 IE.var 730 1001 L o args h) (orElse (pl12 moE 710 1001 L true args h) (cond z none (pl12 (coE lessE) 710 1001 L false args h)))) (pl12 (coE (.var 4)) 710 1001 L false args h)) none))))
noncomputable def tbCl (L:Nat) (k z o:Bool):Tabs:=⟨Sx.Tryd.ft.get,lFind Sx.Tryd.rt,2000,orcCl L k z o⟩
noncomputable def qCl (k:Bool):List (Nat × Int × Int):=cond k [(4,1,99),(0,0,99),(5,1,99),(6,1,20),(7,1,20),(21,0,60),(89,0,99),(90,0,99)] []
noncomputable def fcCl (k z o:Bool):List BE:=cond k [leV (.var 89) (.var 4),cond z (leV (.var 89) (.lit 0)) (leV (.lit 1) (.var 89)),cond o (leV (.var 89) (.var 0)) (.cmp .lss (.var 0) (.var 89))] []
noncomputable def lawCl (L:Nat) (k z o:Bool):Bool:=allK isTrueK (evalN (tbCl L k z o) 60 false 5 [.agg (bookS (.sliceX 1001 4 0 L)),vi 88] (viewHeap 2000 (lB L))) (knOf (qCl k) (fcCl k z o))
theorem lawCl_all:lAll (fun L=>and (lawCl L false false false) (and (lawCl L true true true) (and (lawCl L true false true) (lawCl L true false false)))) [1,2,3,4,5]=true:=by kernel_rfl
structure OkCl (L:Nat) (k z o:Bool) (ρ:Rho):Prop where
  co:OkCo L k ρ
  p0:k=false→OkPl L false (rhoR (coE (.var 4)) 710 ρ)
  t:k=true→turnF (ρ.iv 88) (ρ.iv 4 - ρ.iv 89 + 1)=ρ.iv 90∧0≤ρ.iv 90∧ρ.iv 90≤ρ.iv 4 - ρ.iv 89
  p1:k=true→OkPl L true (rhoR moE 710 ρ)
  p2:k=true→z=false→OkPl L false (rhoR (coE lessE) 710 ρ)
  p3:k=true→OkPl L o (rhoR IE.var 730 ρ)
  fc:∀ c ∈ fcCl k z o,c.den ρ=true
theorem orcCl_ok {L:Nat} {k z o:Bool} (h0:1≤L) (h5:L≤5) (HT:Looks true L) (hck:∀ x,1≤x→x≤99→ckCo L x true=true∧ckCo L x false=true):∀ f args h t,orcCl L k z o f args h=some t→CallOk (pLaw fun ρ _=>OkCl L k z o ρ) f args h t:=by
  intro f args h t e
  unfold orcCl at e
  cases h8:Nat.beq f 8 with
  | true=>rw [h8,cond_true] at e; have:=beq_t.1 h8; subst this; exact CallOk.lift (firedOrc_ok e)
  | false =>
    rw [h8,cond_false] at e
    cases h7:Nat.beq f 7 with
    | true=>rw [h7,cond_true] at e; have:=beq_t.1 h7; subst this; exact so_any (fun ρ b k=>k.co.cs) (vals_at h0 h5).2 e
    | false =>
      rw [h7,cond_false] at e
      cases h9:Nat.beq f 9 with
      | true =>
        rw [h9,cond_true] at e
        have:=beq_t.1 h9; subst this
        obtain ⟨hk,e⟩:=cond_some e
        refine tu2_ok (fun ρ m q=>?_) e
        have hr:=q.co.r
        rw [hk,cond_true,decide_eq_true_iff] at hr
        have hb:=(cs_iff.1 q.co.cs).1.room0
        have e1:(addE (subX (.var 4) (.var 89)) (.lit 1)).den ρ=ρ.iv 4 - ρ.iv 89 + 1:=by
          show IntKind.i64.wrap (IntKind.i64.wrap (ρ.iv 4 - ρ.iv 89) + 1)=_
          rw [IntWalk.i64_in (ρ.iv 4 - ρ.iv 89) (by omega),IntWalk.i64_in (ρ.iv 4 - ρ.iv 89 + 1) (by omega)]
        rw [e1]
        exact ⟨by omega,(q.t hk).1⟩
      | false =>
        rw [h9,cond_false] at e
        cases h15:Nat.beq f 15 with
        | true =>
          rw [h15,cond_true] at e
          have:=beq_t.1 h15; subst this
          refine read_at (ok:=fun ρ _=>OkCl L k z o ρ) (ok0:=fun ρ _=>OkCo L k ρ) (args1:=argsCo IE.var L) h5 (coal15 h0 h5 HT hck) ?_ (fun E=>mv_self rfl) (fun ρ b q=>⟨ρ,⟨fun _ _=>rfl,fun _ _=>rfl⟩,q.co,SameL.refl _ _,SameV.refl _ _⟩) e
          cases k <;> rfl
        | false =>
          rw [h15,cond_false] at e
          obtain ⟨h12,e⟩:=cond_some e
          have:=beq_t.1 h12; subst this
          cases k with
          | false =>
            rw [cond_false] at e
            exact pl12_ok h0 h5 HT (fun ρ b q=>⟨_,rhoR_reads (coE (.var 4)) 710 ρ,q.p0 rfl,fun _ _ _=>rhoR_nm⟩) e
          | true =>
            rw [cond_true] at e
            rcases orElse_some e with e | e
            · exact pl12_ok h0 h5 HT (fun ρ b q=>⟨_,rhoR_reads IE.var 730 ρ,q.p3 rfl,fun _ _ _=>rhoR_nm⟩) e
            · rcases orElse_some e with e | e
              · exact pl12_ok h0 h5 HT (fun ρ b q=>⟨_,rhoR_reads moE 710 ρ,q.p1 rfl,fun _ _ _=>rhoR_nm⟩) e
              · cases z with
                | true=>cases e
                | false=>exact pl12_ok h0 h5 HT (fun ρ b q=>⟨_,rhoR_reads (coE lessE) 710 ρ,q.p2 rfl rfl,fun _ _ _=>rhoR_nm⟩) e
end Go.Sx
/-! THE LAW OF THE COAL: there are such names,for any valid evening; called with whatever can be read. -/
namespace Go.Sx
open Go.RowKit Go.Proofs
set_option maxRecDepth 100000
theorem lastB_to {f:Nat→Bool} {N:Nat} (hf:∀ x y,x≤y→y < N→f y=true→f x=true):∀ n,n≤N→∀ x,x < n→f x=decide ((x:Int)≤lastB f n)
  | 0,_,x,h=>absurd h (by omega)
  | n + 1,hn,x,h=>by
    unfold lastB
    split
    · rename_i k
      rw [hf x n (by omega) (by omega) k]
      exact (decide_eq_true (by omega)).symm
    · rename_i k
      have bd:=lastB_bd f n
      by_cases e:x=n
      · subst e
        have:f x=false:=by simpa using k
        rw [this]
        exact (decide_eq_false (by omega)).symm
      · exact lastB_to hf n (by omega) x (by omega)
section
variable {ρ ρ':Rho} {L:Nat} (hcs:∀ c ∈ csV L,c.den ρ=true) (h5:L≤5) (A:∀ j,2≤j→j < 60→ρ'.iv j=ρ.iv j)
include hcs h5 A
theorem coal_cs (hv:0≤ρ'.iv 0∧ρ'.iv 0≤ρ'.iv 1∧ρ'.iv 1≤ρ.iv 4):∀ c ∈ csV L,c.den ρ'=true:=by
  obtain ⟨hb,hp⟩:=cs_iff.1 hcs
  refine cs_iff.2 ⟨?_,fun i hi=>?_⟩
  · obtain ⟨h1,h2,h3,h4,h5,h6,h7,h8,h9,h10,h11,h12,h13,h14,h15⟩:=hb
    rw [← A 4 (by omega) (by omega)] at hv
    rw [← A 2 (by omega) (by omega),← A 3 (by omega) (by omega),← A 5 (by omega) (by omega)] at h4
    rw [← A 4 (by omega) (by omega)] at h1
    rw [← A 5 (by omega) (by omega)] at h2
    rw [← A 6 (by omega) (by omega)] at h5
    rw [← A 7 (by omega) (by omega)] at h6
    rw [← A 20 (by omega) (by omega),← A 5 (by omega) (by omega)] at h7
    rw [← A 21 (by omega) (by omega)] at h8
    rw [← A 8 (by omega) (by omega),← A 9 (by omega) (by omega)] at h9
    rw [← A 10 (by omega) (by omega),← A 11 (by omega) (by omega)] at h10
    rw [← A 12 (by omega) (by omega),← A 13 (by omega) (by omega)] at h11
    rw [← A 14 (by omega) (by omega),← A 15 (by omega) (by omega)] at h12
    rw [← A 16 (by omega) (by omega),← A 17 (by omega) (by omega)] at h13
    rw [← A 18 (by omega) (by omega),← A 19 (by omega) (by omega)] at h14
    rw [← A 16 (by omega) (by omega),← A 17 (by omega) (by omega),← A 18 (by omega) (by omega),← A 19 (by omega) (by omega)] at h15
    exact ⟨h1,h2,hv,h4,h5,h6,h7,h8,h9,h10,h11,h12,h13,h14,h15⟩
  · obtain ⟨p1,p2⟩:=hp i hi
    rw [← A (30 + 4 * i) (by omega) (by omega),← A (30 + 4 * i + 1) (by omega) (by omega)] at p1
    rw [← A (30 + 4 * i + 3) (by omega) (by omega)] at p2
    exact ⟨p1,p2⟩
end
theorem bds_cs {ρ:Rho} {L:Nat} (hcs:∀ c ∈ csV L,c.den ρ=true):Bds ρ L:=by
  obtain ⟨hb,hp⟩:=cs_iff.1 hcs
  refine bds_of hb fun i hi=>?_
  have:=(hp i hi).min
  rw [show 31 + 4 * i=30 + 4 * i + 1 by omega]; omega
theorem ez_coal {ρ ρ':Rho} {L:Nat} (hcs:∀ c ∈ csV L,c.den ρ=true) (hcs':∀ c ∈ csV L,c.den ρ'=true) (h5:L≤5) (A:∀ j,2≤j→j < 60→ρ'.iv j=ρ.iv j) (hb:ρ.bv=ρ'.bv):Ez ρ ρ' L:=by
  have tk:∀ i,i < L→∀ r,r < 2→takF ρ' i r=takF ρ i r:=fun i hi r hr=>by
    unfold takF
    rw [A (31 + 4 * i) (by omega) (by omega),← hb]
    split
    · rw [A (11 + 4 * r) (by omega) (by omega)]
    · rw [A (9 + 4 * r) (by omega) (by omega)]
  refine ⟨bds_cs hcs,bds_cs hcs',fun r hr=>Int.le_of_eq (A _ (by omega) (by omega)).symm,fun r hr=>Int.le_of_eq (A _ (by omega) (by omega)).symm,fun i hi r hr=>Int.le_of_eq (tk i hi r hr),fun i hi=>?_,fun i hi=>?_,fun i hi l l' h k=>?_⟩
  · rw [A (33 + 4 * i) (by omega) (by omega)]; exact Nat.le_refl _
  · obtain ⟨W,w1,w2⟩:=walks_cs hcs' i hi
    rw [w2]; omega
  · refine fail_mono (cs_iff.1 hcs).1 h ?_
    unfold failF at *
    rw [A 20 (by omega) (by omega),A 18 (by omega) (by omega),A 21 (by omega) (by omega),A 16 (by omega) (by omega),← hb] at k
    exact k
theorem co_iv {ρ:Rho} {v:Int}:∀ j,2≤j→j < 60→(chg (coE (.lit v)) ρ).iv j=ρ.iv j:=fun j h _=>by
  show (coE (.lit v) j).den ρ=_
  rw [coE_ne (by omega) (by omega)]; rfl
theorem co_cs {ρ:Rho} {L:Nat} (hcs:∀ c ∈ csV L,c.den ρ=true) (h5:L≤5) {v:Int} (hv:0≤v∧v≤ρ.iv 4):∀ c ∈ csV L,c.den (chg (coE (.lit v)) ρ)=true :=
  coal_cs hcs h5 co_iv (by show 0≤v∧v≤v∧v≤ρ.iv 4; omega)
theorem co_mono {ρ:Rho} {L:Nat} (hcs:∀ c ∈ csV L,c.den ρ=true) (h5:L≤5) {v v':Int} (h0:0≤v) (hv:v≤v') (h4:v'≤ρ.iv 4) (k:coF ρ L v=true):coF ρ L v'=true:=by
  have c1:=co_cs hcs h5 (v:=v) (by omega)
  have c2:=co_cs hcs h5 (v:=v') (by omega)
  have hb:=(cs_iff.1 hcs).1.room0
  have hw:=(cs_iff.1 hcs).1.water
  have hb1:=(cs_iff.1 hcs).1.room1
  have e2:∀ v,(chg (coE (.lit v)) ρ).iv 2=ρ.iv 2:=fun v=>co_iv 2 (by omega) (by omega)
  refine enD_easier (ez_coal c1 c2 h5 (fun j h1 h2=>(co_iv j h1 h2).trans (co_iv j h1 h2).symm) rfl) ?_ ?_ k
  · show 0≤v∧v≤v'∧v'≤99; omega
  · rw [e2,e2]; omega
noncomputable def ivCl (ρ ρ1:Rho) (L:Nat) (c t:Int) (j:Nat):Int :=
  if j < 89 then ρ.iv j else if j=89 then c else if j=90 then t else if j < 730 then planO ρ1 L (j - 710) else planO ρ L (j - 730)
theorem okCl_of {ρ : Rho} {L : Nat} (h5 : L ≤ 5) (hcs : ∀ c ∈ csV L, c.den ρ = true) :
    ∃ k z o ρ',(k=false→z=false∧o=false)∧(z=true→o=true)∧OkCl L k z o ρ'∧(∀ j,j < 89→ρ.iv j=ρ'.iv j)∧ρ.bv=ρ'.bv:=by
  have hb:=(cs_iff.1 hcs).1
  have r0:=hb.room0; have co:=hb.coal
  obtain ⟨B,hB⟩:∃ B:Nat,ρ.iv 4=B:=⟨(ρ.iv 4).toNat,by omega⟩
  let f:Nat→Bool:=fun s=>!(coF ρ L s)
  have fm:∀ x y,x≤y→y < B + 1→f y=true→f x=true:=fun x y h1 h2 h=>by
    show (!(coF ρ L x))=true
    cases hx:coF ρ L x with
    | false=>rfl
    | true =>
      have h:(!(coF ρ L y))=true:=h
      rw [co_mono hcs h5 (by omega) (by omega) (by omega) hx] at h
      cases h
  let c:Int:=lastB f (B + 1) + 1
  have cb:0≤c∧c≤(B:Int) + 1:=by
    have:=lastB_bd f (B + 1)
    show 0≤lastB f (B + 1) + 1∧lastB f (B + 1) + 1≤(B:Int) + 1
    omega
  have cf:∀ s:Nat,s≤B→coF ρ L s=decide (c≤(s:Int)):=fun s hs=>by
    have:=lastB_to fm (B + 1) (Nat.le_refl _) s (by omega)
    have this:(!(coF ρ L s))=decide ((s:Int)≤lastB f (B + 1)):=this
    have e:coF ρ L s=!(!(coF ρ L s)):=(Bool.not_not _).symm
    rw [e,this,← decide_not]
    exact decide_eq_decide.2 ⟨fun h=>by show lastB f (B + 1) + 1≤(s:Int); omega,fun h=>by have h:lastB f (B + 1) + 1≤(s:Int):=h; omega⟩
  let t:=turnF (ρ.iv 88) (ρ.iv 4 - c + 1)
  let ρ1:Rho:=⟨fun j=>if j=0 then c + t else if j=1 then ρ.iv 4 else ρ.iv j,ρ.bv,ρ.fi,ρ.fb,ρ.ov⟩
  let ρ':Rho:=⟨ivCl ρ ρ1 L c t,ρ.bv,ρ.fi,ρ.fb,ρ.ov⟩
  have iv:∀ j,j < 89→ρ'.iv j=ρ.iv j:=fun j hj=>if_pos hj
  have i89:ρ'.iv 89=c:=rfl
  have i90:ρ'.iv 90=t:=rfl
  have nm1:∀ n,n < 2 * L→ρ'.iv (710 + n)=planO ρ1 L n:=fun n hn=>by
    show ivCl ρ ρ1 L c t (710 + n)=_
    unfold ivCl
    rw [if_neg (by omega),if_neg (by omega),if_neg (by omega),if_pos (by omega),Nat.add_sub_cancel_left]
  have nm0:∀ n,n < 2 * L→ρ'.iv (730 + n)=planO ρ L n:=fun n hn=>by
    show ivCl ρ ρ1 L c t (730 + n)=_
    unfold ivCl
    rw [if_neg (by omega),if_neg (by omega),if_neg (by omega),if_neg (by omega),Nat.add_sub_cancel_left]
  have cs':∀ c ∈ csV L,c.den ρ'=true:=cs_agree h5 (fun j hj=>(iv j (by omega)).symm) hcs
  have wr:∀ x:Int,-9223372036854775808≤x∧x≤9223372036854775807→IntKind.i64.wrap x=x:=fun x hx=>IntWalk.i64_in x hx
  have agc:∀ (e:IE) (v:Int) (nm:Nat),e.den ρ'=v→AgreeL (chg (coE (.lit v)) ρ) (rhoR (coE e) nm ρ'):=fun e v nm h=>⟨fun j hj=>by
    rw [rhoR_iv hj]
    show (coE (.lit v) j).den ρ=_
    by_cases e0:j=0
    · subst e0; exact h.symm
    · by_cases e1:j=1
      · subst e1; exact h.symm
      · rw [coE_ne e0 e1,coE_ne e0 e1]; exact (iv j (by omega)).symm,fun _ _=>rfl⟩
  have hbs:∀ s:Nat,(s:Int)≤ρ'.iv 4→coF ρ' L s=decide (ρ'.iv 89≤(s:Int)):=fun s hs=>by
    rw [iv 4 (by omega),hB] at hs
    rw [i89,← cf s (by omega)]
    refine enD_agreeL (ρ:=chg (coE (.lit s)) ρ') (ρ':=chg (coE (.lit s)) ρ) ⟨fun j hj=>?_,fun _ _=>rfl⟩ (by omega)
    show (coE (.lit s) j).den ρ'=(coE (.lit s) j).den ρ
    by_cases e0:j=0
    · subst e0; rfl
    · by_cases e1:j=1
      · subst e1; rfl
      · rw [coE_ne e0 e1]; exact iv j (by omega)
  have none4:coF ρ L (ρ.iv 4)=decide (c≤(B:Int)):=by rw [hB]; exact cf B (Nat.le_refl B)
  by_cases hk:c≤(B:Int)
  · -- there is such coal
    have tin:0≤t∧t≤ρ.iv 4 - c:=by
      have:=turnF_in (n:=ρ.iv 88) (m:=ρ.iv 4 - c + 1) (by omega)
      show 0≤turnF (ρ.iv 88) (ρ.iv 4 - c + 1)∧turnF (ρ.iv 88) (ρ.iv 4 - c + 1)≤ρ.iv 4 - c
      omega
    have A1:∀ j,2≤j→j < 60→ρ1.iv j=ρ.iv j:=fun j h1 _=>by
      show (if j=0 then _ else if j=1 then _ else ρ.iv j)=_
      rw [if_neg (by omega),if_neg (by omega)]
    have cs1:∀ c ∈ csV L,c.den ρ1=true:=coal_cs hcs h5 A1 (by show 0≤c + t∧c + t≤ρ.iv 4∧ρ.iv 4≤ρ.iv 4; omega)
    have en1:enD ρ1 L=true:=by
      have hm:coF ρ L (c + t)=true:=by
        have:=cf (c + t).toNat (by omega)
        rw [show (((c + t).toNat:Nat):Int)=c + t by omega] at this
        rw [this]; exact decide_eq_true (by omega)
      refine enD_easier (ez_coal (co_cs hcs h5 (v:=c + t) (by omega)) cs1 h5 (fun j h1 h2=>(A1 j h1 h2).trans (co_iv j h1 h2).symm) rfl) ?_ ?_ hm
      · show 0≤c + t∧c + t≤c + t∧c + t≤99; omega
      · have hw:=hb.water; have hb1:=hb.room1
        rw [co_iv 2 (by omega) (by omega),A1 2 (by omega) (by omega)]; omega
    have P1:OkPl L true (rhoR moE 710 ρ'):=by
      refine okPl_of (ρX:=ρ1) h5 cs1 ⟨fun j hj=>?_,fun _ _=>rfl⟩ en1 fun n hn=>by rw [rhoR_nm]; exact nm1 n hn
      rw [rhoR_iv hj]
      by_cases e0:j=0
      · subst e0
        show c + t=IntKind.i64.wrap (ρ'.iv 89 + ρ'.iv 90)
        rw [i89,i90,wr _ (by omega)]
      · by_cases e1:j=1
        · subst e1; exact (iv 4 (by omega)).symm
        · have : moE j = .var j := coE_ne (v := .lit 0) e0 e1 ▸ by
            unfold moE coE
            cases h:Nat.beq j 0 with
            | true=>exact absurd (beq_t.1 h) e0
            | false =>
              cases h':Nat.beq j 1 with
              | true=>exact absurd (beq_t.1 h') e1
              | false=>rfl
          rw [this,A1 j (by omega) hj]; exact (iv j (by omega)).symm
    have o1:enD ρ L=decide (c≤ρ.iv 0):=by
      have:=cf (ρ.iv 0).toNat (by omega)
      rw [show (((ρ.iv 0).toNat:Nat):Int)=ρ.iv 0 by omega] at this
      rw [← this]
      have cx:=co_cs hcs h5 (v:=ρ.iv 0) (by omega)
      have hw:=hb.water; have hb1:=hb.room1
      have e2:(chg (coE (.lit (ρ.iv 0))) ρ).iv 2=ρ.iv 2:=co_iv 2 (by omega) (by omega)
      have e0:(chg (coE (.lit (ρ.iv 0))) ρ).iv 0=ρ.iv 0:=rfl
      apply Bool.eq_iff_iff.2
      constructor
      · exact fun h=>enD_easier (ez_coal hcs cx h5 co_iv rfl) (by rw [e0]; omega) (by rw [e2]; omega) h
      · exact fun h=>enD_easier (ez_coal cx hcs h5 (fun j h1 h2=>(co_iv j h1 h2).symm) rfl) (by rw [e0]; omega) (by rw [e2]; omega) h
    have P3:OkPl L (decide (c≤ρ.iv 0)) (rhoR IE.var 730 ρ'):=okPl_of (ρX:=ρ) h5 hcs ⟨fun j hj=>by rw [rhoR_iv hj]; exact (iv j (by omega)).symm,fun _ _=>rfl⟩ o1 fun n hn=>by rw [rhoR_nm]; exact nm0 n hn
    have P2:1≤c→OkPl L false (rhoR (coE lessE) 710 ρ'):=fun h1=>by
      have e:lessE.den ρ'=c - 1:=by
        show IntKind.i64.wrap (ρ'.iv 89 - 1)=_
        rw [i89,wr _ (by omega)]
      have A:=agc lessE (c - 1) 710 e
      have cx:=co_cs hcs h5 (v:=c - 1) (by omega)
      have:=cf (c - 1).toNat (by omega)
      rw [show (((c - 1).toNat:Nat):Int)=c - 1 by omega,decide_eq_false (by omega)] at this
      exact ⟨cs_agree h5 A.iv cx,walks_cs (cs_agree h5 A.iv cx),(enD_agreeL A (by omega)).symm.trans this,fun h=>by cases h⟩
    refine ⟨true,decide (c≤0),decide (c≤ρ.iv 0),ρ',(fun h=>by cases h),(fun h=>decide_eq_true (by have:=of_decide_eq_true h; omega)),⟨⟨cs',hbs,decide_eq_true (by rw [i89,iv 4 (by omega)]; omega)⟩,(fun h=>by cases h),(fun _=>⟨(by rw [iv 88 (by omega),iv 4 (by omega)]; rfl),(by rw [i90]; exact tin.1),(by rw [i90,iv 4 (by omega)]; exact tin.2)⟩),(fun _=>P1),(fun _ h=>P2 (by have:=of_decide_eq_false h; omega)),(fun _=>P3),fun d hd=>?_⟩,fun j hj=>(iv j hj).symm,rfl⟩
    have v0:(IE.var 0).den ρ'=ρ.iv 0:=iv 0 (by omega)
    have v4:(IE.var 4).den ρ'=ρ.iv 4:=iv 4 (by omega)
    have v89:(IE.var 89).den ρ'=c:=rfl
    simp only [fcCl,cond_true,List.mem_cons,List.not_mem_nil,or_false] at hd
    rcases hd with rfl | rfl | rfl
    · unfold leV; rw [BE.t_leq,v89,v4]; omega
    · by_cases hz:c≤0
      · rw [decide_eq_true hz,cond_true]; unfold leV; rw [BE.t_leq,v89]; exact hz
      · rw [decide_eq_false hz,cond_false]; unfold leV; rw [BE.t_leq,v89,IE.den_lit]; omega
    · by_cases ho:c≤ρ.iv 0
      · rw [decide_eq_true ho,cond_true]; unfold leV; rw [BE.t_leq,v89,v0]; exact ho
      · rw [decide_eq_false ho,cond_false,BE.t_lss,v89,v0]; omega
  · have A:=agc (.var 4) (ρ.iv 4) 710 (iv 4 (by omega))
    have cx:=co_cs hcs h5 (v:=ρ.iv 4) (by omega)
    have e4:coF ρ L (ρ.iv 4)=false:=none4.trans (decide_eq_false hk)
    have P0:OkPl L false (rhoR (coE (.var 4)) 710 ρ'):=⟨cs_agree h5 A.iv cx,walks_cs (cs_agree h5 A.iv cx),(enD_agreeL A (by omega)).symm.trans e4,fun h=>by cases h⟩
    exact ⟨false,false,false,ρ',(fun _=>⟨rfl,rfl⟩),(fun h=>by cases h),⟨⟨cs',hbs,decide_eq_true (by rw [i89,iv 4 (by omega)]; omega)⟩,(fun _=>P0),(fun h=>by cases h),(fun h=>by cases h),(fun h=>by cases h),(fun h=>by cases h),fun d hd=>by
      simp only [fcCl,cond_false] at hd
      exact (List.not_mem_nil hd).elim⟩,fun j hj=>(iv j hj).symm,rfl⟩
end Go.Sx
