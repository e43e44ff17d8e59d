/- THE LAW OF THE FEWEST WALKS: there are such names,for any valid evening. -/
import Derived.Test.YtpkonfmonoaajaaDoorFaB
import Derived.Test.YtpkonfmonoaajaaDoorEvH
import Derived.Test.YtpkonfmonoaajaaDoorEzC
/-! THE CALL Fails is as it is said,wherever a plan lies,and whatever its walks are. -/
namespace Go.Sx
open Go.RowKit Go.Proofs
set_option maxRecDepth 100000
theorem orcFa_ok {L n:Nat} (h1:1≤L) (h5:L≤5):∀ f args h t,orcFa L n f args h=some t→CallOk (pLaw fun ρ _=>OkFa L n ρ) f args h t:=by
  intro f args h t e
  unfold orcFa at e
  cases h42:Nat.beq f 42 with
  | true=>rw [h42,cond_true] at e; have:=beq_t.1 h42; subst this; exact so_any (fun ρ b k=>k.cs) (vals_at h1 h5).1 e
  | false =>
    rw [h42,cond_false] at e
    cases h67:Nat.beq f 67 with
    | true =>
      rw [h67,cond_true] at e
      have:=beq_t.1 h67; subst this
      split at e
      · obtain ⟨hi,e⟩:=cond_some e
        have hi:=Nat.le_of_ble_eq_true hi
        exact rowGo_ok (step_any h1 h5 hi fun ρ m k=>k.s) rfl rfl e
      · cases e
    | false =>
      rw [h67,cond_false] at e
      obtain ⟨h55,e⟩:=cond_some e
      have:=beq_t.1 h55; subst this
      split at e
      · rename_i i _ _ _ _ _
        obtain ⟨_,e⟩:=cond_some e
        obtain ⟨hi,e⟩:=cond_some e
        simp only [Bool.and_eq_true] at hi
        have h2:=Nat.le_of_ble_eq_true hi.1
        have h3:=Nat.le_of_ble_eq_true hi.2
        refine rowGo_ok (may_any (i:=i) h1 h5 h2 fun ρ m k=>?_) rfl rfl e
        obtain ⟨d0,d1⟩:=aE_den k i (by omega)
        obtain ⟨_,d2⟩:=aE_den k (i + 1) (by omega)
        have e2:(IE.app 9302 (lt i) (aE 0 i) (.var (540 + 2 * i))).den ρ=lackF ρ i 0 (crs ρ (fun j=>ρ.iv (540 + j)) i).1 (ρ.iv (540 + 2 * i)):=by
          show FI ρ.fi 9302 i ((aE 0 i).den ρ) (ρ.iv (540 + 2 * i))=_
          rw [d0]; exact (k.s i (by omega) _ _).2.2.1
        have e3:(IE.app 9303 (lt i) (aE 1 i) (.var (541 + 2 * i))).den ρ=lackF ρ i 1 (crs ρ (fun j=>ρ.iv (540 + j)) i).2 (ρ.iv (541 + 2 * i)):=by
          show FI ρ.fi 9303 i ((aE 1 i).den ρ) (ρ.iv (541 + 2 * i))=_
          rw [d1]; exact (k.s i (by omega) _ _).2.2.2
        have:=k.f.may i (by omega) (by omega)
        rw [d2,e2,e3]
        have hb:Nat.beq i n=decide (i=n):=by
          apply Bool.eq_iff_iff.2
          rw [beq_t,decide_eq_true_iff]
        rw [hb,← this]
        unfold mayK
        show _=mayF ρ i (leftF ρ i 1 _ (ρ.iv (540 + (2 * i + 1)))) (lackF ρ i 0 _ (ρ.iv (540 + 2 * i))) (lackF ρ i 1 _ (ρ.iv (540 + (2 * i + 1))))
        rw [show 540 + (2 * i + 1)=541 + 2 * i by omega]
        show mayF ρ i (leftF ρ i 1 (crs ρ (fun j=>ρ.iv (540 + j)) i).2 (ρ.iv (540 + (2 * i + 1)))) _ _=_
        rw [show 540 + (2 * i + 1)=541 + 2 * i by omega]
      · cases e
theorem qPl_ok {ρ : Rho} {nm L : Nat} (hcs : ∀ d ∈ csV L, d.den ρ = true) (hp : ∀ k, k < L → 0 ≤ ρ.iv (nm + 2 * k) ∧ 0 ≤ ρ.iv (nm + 2 * k + 1) ∧ ρ.iv (nm + 2 * k) + ρ.iv (nm + 2 * k + 1) ≤ ρ.iv (33 + 4 * k)) :
    ∀ n k,k + n≤L→(∀ c ∈ ivC (qPl nm n k),c.den ρ=true)∧∀ c ∈ fcPl nm n k,c.den ρ=true
  | 0,_,_=>⟨fun c hc=>(List.not_mem_nil hc).elim,fun c hc=>(List.not_mem_nil hc).elim⟩
  | n + 1,k,h=>by
    obtain ⟨i1,i2⟩:=qPl_ok hcs hp n (k + 1) (by omega)
    obtain ⟨W,w1,w2⟩:=walks_cs hcs k (by omega)
    obtain ⟨p1,p2,p3⟩:=hp k (by omega)
    constructor
    · intro c hc
      simp only [qPl,ivC,List.mem_cons] at hc
      rcases hc with rfl | rfl | rfl | rfl | rfl | rfl | hc
      all_goals first | exact i1 c hc | (rw [BE.t_leq,IE.den_lit,IE.den_var]; omega)
    · intro c hc
      simp only [fcPl,List.mem_cons] at hc
      rcases hc with rfl | rfl | hc
      · unfold leV; rw [BE.t_leq,IE.den_var,IE.den_var]; omega
      · unfold leV; rw [BE.t_leq]
        show ρ.iv (nm + 2 * k + 1)≤IntKind.i64.wrap (ρ.iv (33 + 4 * k) - ρ.iv (nm + 2 * k))
        rw [IntWalk.i64_in _ (by omega)]; omega
      · exact i2 c hc
theorem fails18 {L n:Nat} {arr:Bool} (h1:1≤L) (h5:L≤5) (hn:n≤L):CallOk (pLaw fun ρ _=>OkFa L n ρ) 18 (argsFa arr 1002 L) (viewA 2000 (vF L)) (.ret (resFa L n,viewA 2000 (vF L))):=by
  have hck:ckFa arr L n=true:=by
    have:=lAll_mem (lAll_mem ckFa_all L (by simp only [List.mem_cons,List.not_mem_nil,or_false]; omega)) n (cntD_mem (by omega))
    simp only [Bool.and_eq_true] at this
    cases arr
    · exact this.2
    · exact this.1
  unfold ckFa at hck
  simp only [Bool.and_eq_true] at hck
  obtain ⟨hv,hck⟩:=hck
  have B:TabOk (pLaw fun ρ _=>OkFa L n ρ) Sx.Tryd.tt.get (tbFa L n):=Tryd.tab (orcFa L n) (orcFa_ok h1 h5) 2000
  have base:=eval_ok B 60 18 (argsFa arr 1002 L) (viewA 2000 (vF L))
  have up:∀ g ∈ vF L,(viewA 2000 (vF L)).get g.1=some g.2:=viewA_mem 2000 _ 0 rfl
  have fr:=base.frame (n:=2000) (l:=vF L) (by omega) (by cases arr <;> rfl) hv (fun g hg=>⟨g.2,up g hg,.refl _⟩) (by rw [viewA_next]; exact Nat.le_refl _) (fun _=>[])
  refine CallOk.read (p0:=pLaw fun ρ _=>OkFa L n ρ) (p:=pLaw fun ρ _=>OkFa L n ρ) rfl fr fun ρ b hb P hP=>⟨ρ,hb,SameL.refl _ _,⟨rfl,fun j o g=>⟨o,g,SameA.refl o⟩⟩,?_⟩
  obtain ⟨w,hw,_⟩:=hb
  have hw:OkFa L n ρ:=hw
  obtain ⟨q1,q2⟩:=qPl_ok (nm:=540) hw.cs (fun k hk=>by
    have:=hw.f.pb k hk
    rw [show 540 + 2 * k + 1=540 + (2 * k + 1) by omega]; exact this) L 0 (by omega)
  refine allK_ok (ρ:=ρ) (fun K r hK hr=>?_) _ _ (knOf_ok q1 q2) hck
  obtain ⟨s1,s2⟩:=isR_same (p0:=pLaw fun ρ _=>OkFa L n ρ) (p:=pLaw fun ρ _=>OkFa L n ρ) rfl rfl (ρ:=ρ) hr
  exact ⟨_,hP,s1,s2⟩
theorem crs_agree {ρ ρ':Rho} (A:AgreeL ρ ρ') (pl:Nat→Int):∀ k,k≤6→crs ρ pl k=crs ρ' pl k
  | 0,_=>by simp only [crs,A.iv 0 (by omega),A.iv 2 (by omega)]
  | k + 1,h=>by
    simp only [crs,crs_agree A pl k (by omega),left_agreeL A (show k < 7 by omega) (show 0 < 2 by omega),left_agreeL A (show k < 7 by omega) (show 1 < 2 by omega)]
theorem mayK_agree {ρ ρ':Rho} (A:AgreeL ρ ρ') (pl:Nat→Int) {k:Nat} (h:k≤5):mayK ρ pl k=mayK ρ' pl k:=by
  unfold mayK mayF
  rw [crs_agree A pl k (by omega),left_agreeL A (show k < 7 by omega) (show 1 < 2 by omega),lack_agreeL A (show k < 7 by omega) (show 0 < 2 by omega),lack_agreeL A (show k < 7 by omega) (show 1 < 2 by omega),fail_agreeL A (show k < 7 by omega)]
theorem faOk_agree {ρ ρ':Rho} (A:AgreeL ρ ρ') {L n:Nat} (h5:L≤5) {pl:Nat→Int} (h:FaOk L n pl ρ):FaOk L n pl ρ' :=
  ⟨fun k hk=>by rw [← A.iv (33 + 4 * k) (by omega)]; exact h.pb k hk,fun k hk hn=>by rw [← mayK_agree A pl (by omega)]; exact h.may k hk hn⟩
/-! ## Wherever the plan lies -/
noncomputable def cellsE (pE:Nat→IE):Nat→Nat→List AV
  | 0,_=>[]
  | n + 1,k=>.int .i64 (pE k) :: .int .i64 (pE (k + 1)) :: cellsE pE n (k + 2)
theorem cellsE_ids (pE:Nat→IE) (N:Nat):∀ n k,idsLts N (cellsE pE n k)=true
  | 0,_=>rfl
  | n + 1,k=>by simp only [cellsE,idsLts,idsLt,cellsE_ids pE N n (k + 2),Bool.and_self]
theorem cellsE_same {ρ ρ':Rho} {pE:Nat→IE} {b:Nat}:∀ n k,(∀ j,k≤j→j < k + 2 * n→(pE j).den ρ=ρ'.iv (b + j))→SameL ρ (cellsE pE n k) ρ' (planN n (b + k))
  | 0,_,_=>SameL.nil
  | n + 1,k,h=>SameL.cons (SameV.int (h k (by omega) (by omega))) (SameL.cons (SameV.int (h (k + 1) (by omega) (by omega))) (cellsE_same n (k + 2) fun j h1 h2=>h j (by omega) (by omega)))
noncomputable def fa18 (pE:Nat→IE) (arr:Bool) (pb L n:Nat) (args:List AV) (h:Heap):Option (T (AV × Heap)) :=
  cond (and (eqAVs args (argsFa arr pb L)) (and (frontC glC (h.get 0)) (and (frontC (rowsV L 30) (h.get 1001)) (and (frontC (cellsE pE L 0) (h.get pb)) (Nat.ble 2000 h.next))))) (some (.ret (resFa L n,h))) none
noncomputable def vFX (pE:Nat→IE) (L:Nat):List (Nat × AObj):=[(0,glO),(1001,.cells (rowsV L 30) 0 false false),(1002,.cells (cellsE pE L 0) 0 false false)]
theorem fa18_ok {ok : Rho → (Nat → Obj → Prop) → Prop} {pE : Nat → IE} {arr : Bool} {pb L n : Nat} (h1 : 1 ≤ L) (h5 : L ≤ 5) (hn : n ≤ L)
    (hok:∀ ρ m,ok ρ m→(∀ d ∈ csV L,d.den ρ=true)∧FaOk L n (fun j=>(pE j).den ρ) ρ) {args:List AV} {h:Heap} {t:T (AV × Heap)} (k:fa18 pE arr pb L n args h=some t):CallOk (pLaw ok) 18 args h t:=by
  unfold fa18 at k
  obtain ⟨hk,k1⟩:=cond_some k
  clear k
  simp only [Bool.and_eq_true] at hk
  obtain ⟨g1,g2,g3,g4,_⟩:=hk
  obtain rfl:=eqAVs_eq _ _ g1
  obtain rfl:=Option.some.inj k1
  have hc1:CallOk (pLaw ok) 18 (argsFa arr 1002 L) (viewA 2000 (vFX pE L)) (.ret (resFa L n,viewA 2000 (vFX pE L))):=by
    refine CallOk.read (p0:=pLaw fun ρ _=>OkFa L n ρ) (p:=pLaw ok) rfl (fails18 (arr:=arr) h1 h5 hn) fun ρ b hb Q hQ=>?_
    obtain ⟨w,hw,hbw⟩:=hb
    obtain ⟨o1,o2⟩:=hok ρ w hw
    let ρ1:Rho:=⟨fun j=>if j < 60 then ρ.iv j else (pE (j - 540)).den ρ,ρ.bv,ρ.fi,ρ.fb,ρ.ov⟩
    let ρ':=rhoE ρ1 L
    have iv:∀ j,j < 60→ρ.iv j=ρ'.iv j:=fun j hj=>(if_pos hj).symm
    have R:Reads IE.var ρ ρ':=⟨iv,fun _ _=>rfl⟩
    have A:AgreeL ρ ρ':=⟨iv,fun _ _=>rfl⟩
    have A1:AgreeL ρ1 ρ':=⟨fun _ _=>rfl,fun _ _=>rfl⟩
    have nm:∀ j,ρ'.iv (540 + j)=(pE j).den ρ:=fun j=>by
      show (if 540 + j < 60 then _ else (pE (540 + j - 540)).den ρ)=_
      rw [if_neg (by omega),Nat.add_sub_cancel_left]
    have hpl:(fun j=>ρ'.iv (540 + j))=fun j=>(pE j).den ρ:=funext nm
    have hf:OkFa L n ρ':=by
      refine ⟨cs_agree h5 iv o1,fun i hi a w=>?_,by rw [hpl]; exact faOk_agree A h5 o2⟩
      have s:=step_E ρ1 L i a w
      have l:=fun r (hr:r < 2)=>left_agreeL A1 (i:=i) (r:=r) (by omega) hr a w
      have q:=fun r (hr:r < 2)=>lack_agreeL A1 (i:=i) (r:=r) (by omega) hr a w
      exact ⟨s.1.trans (l 0 (by omega)),s.2.1.trans (l 1 (by omega)),s.2.2.1.trans (q 0 (by omega)),s.2.2.2.trans (q 1 (by omega))⟩
    have rows:=rowsV_reads R h5
    have cells:SameL ρ (cellsE pE L 0) ρ' (planN L 540):=cellsE_same L 0 fun j _ _=>(nm j).symm
    have atX:∀ g ∈ vFX pE L,(viewA 2000 (vFX pE L)).get g.1=some g.2:=viewA_mem 2000 _ 0 rfl
    have atF:∀ g ∈ vF L,(viewA 2000 (vF L)).get g.1=some g.2:=viewA_mem 2000 _ 0 rfl
    refine ⟨ρ',⟨w,hf,hbw⟩,?_,⟨rfl,fun b o hg=>?_⟩,(resFa L n,viewA 2000 (vFX pE L)),hQ,?_,⟨rfl,fun b o hg=>?_⟩⟩
    · exact SameL.cons (bookX_reads R _ _ _ _) (SameL.cons (by cases arr <;> exact fun _ _ _ _ _ _=>rfl) SameL.nil)
    · have:=viewA_get _ _ _ _ hg
      simp only [vF,List.mem_cons,List.not_mem_nil,or_false] at this
      rcases this with h | h | h
      · cases h; exact ⟨_,atX (0,glO) (by simp [vFX]),SameA.cells rfl (fun _ _ _ _ _ _=>rfl)⟩
      · cases h; exact ⟨_,atX (1001,.cells (rowsV L 30) 0 false false) (by simp [vFX]),SameA.cells rfl rows⟩
      · cases h; exact ⟨_,atX (1002,.cells (cellsE pE L 0) 0 false false) (by simp [vFX]),SameA.cells rfl cells⟩
    · unfold resFa
      cases Nat.blt n L <;> exact fun _ _ _ _ _ _=>rfl
    · have:=viewA_get _ _ _ _ hg
      simp only [vFX,List.mem_cons,List.not_mem_nil,or_false] at this
      rcases this with h | h | h
      · cases h; exact ⟨_,atF (0,glO) (by simp [vF]),SameA.cells rfl (fun _ _ _ _ _ _=>rfl)⟩
      · cases h; exact ⟨_,atF (1001,.cells (rowsV L 30) 0 false false) (by simp [vF]),SameA.cells rfl rows.symm⟩
      · cases h; exact ⟨_,atF (1002,.cells (planN L 540) 0 false false) (by simp [vF]),SameA.cells rfl cells.symm⟩
  have n2:∀ b,b ≠ 1002→mvN 1002 pb b=b:=fun b hb=>by unfold mvN; rw [if_neg hb]
  refine hc1.moved (a:=1002) (c:=pb) (by omega) (by omega) (by unfold resFa; cases Nat.blt n L <;> rfl) (fun g hg=>?_) (fun g hg=>?_) fun E=>?_
  · simp only [vFX,List.mem_cons,List.not_mem_nil,or_false] at hg
    rcases hg with rfl | rfl | rfl
    · exact ⟨by show 0 < 2000; omega,rfl,rfl⟩
    · exact ⟨by show 1001 < 2000; omega,rfl,rowsV_ids L 30⟩
    · exact ⟨by show 1002 < 2000; omega,rfl,cellsE_ids pE 0 L 0⟩
  · simp only [vFX,List.mem_cons,List.not_mem_nil,or_false] at hg
    rcases hg with rfl | rfl | rfl
    · exact frontC_ok g2
    · exact frontC_ok g3
    · exact frontC_ok g4
  · have e1 : concL (E.mv 1002 pb 2000) (bookS (.sliceX 1001 4 0 L)) = concL E (bookS (.sliceX 1001 4 0 L)) := by
      refine mv_vx IE.var ?_ 22 0
      simp only [concL,conc,Env.mv,mvN,show (1001:Nat) < 2000 by omega,if_true,show ¬ (1001:Nat)=1002 by omega,if_false]
    have e2:conc (E.mv 1002 pb 2000) (plA arr 1002 L)=conc E (plA arr pb L):=by
      cases arr <;> simp only [plA,cond_true,cond_false,conc,Env.mv,mvN,show (1002:Nat) < 2000 by omega,if_true]
    simp only [argsFa,concL,conc,e1,e2]
end Go.Sx
/-! THE LAW OF THE FEWEST WALKS,for a valid evening: its run,in each case. -/
namespace Go.Sx
open Go.RowKit Go.Proofs
set_option maxRecDepth 100000
/-! ## Before -/
noncomputable def vBe (L:Nat):List (Nat × AObj):=[(1002,.cells (planN L 800) 0 false false),(1003,.cells (planN L 710) 0 false false)]
noncomputable def argsBe (b1 b2 L:Nat):List AV:=[.sliceX b1 1 0 (2 * L),.sliceX b2 1 0 (2 * L)]
noncomputable def qBe:Nat→Nat→List (Nat × Int × Int)
  | 0,_=>[]
  | n + 1,k=>(800 + k,0,5) :: (710 + k,0,5) :: qBe n (k + 1)
noncomputable def eqBe:Nat→List BE
  | 0=>[]
  | n + 1=>.cmp .eql (.var (800 + n)) (.var (710 + n)) :: eqBe n
noncomputable def fcBe (L q:Nat):List BE:=cond (Nat.blt q (2 * L)) (.cmp .lss (.var (710 + q)) (.var (800 + q)) :: eqBe q) (eqBe q)
noncomputable def runBe (L:Nat):T (AV × Heap):=(evalN tb0 60 false 21 (argsBe 1002 1003 L) (viewA 2000 (vBe L))).bind fun r=>graftT 2000 (vBe L) (viewA 2000 (vBe L)) [] r
noncomputable def ckBe (L q:Nat):Bool:=and (viewOk 2000 (vBe L)) (allK (fun _=>isR (.bool (.lit false)) 2000 (vBe L)) (runBe L) (knOf (qBe (2 * L) 0) (fcBe L q)))
theorem ckBe_all:lAll (fun L=>lAll (ckBe L) (cntD (2 * L + 1))) [1,2,3,4,5]=true:=by kernel_rfl
/-! ## The law -/
noncomputable def bumpE (nm k:Nat):Nat→IE:=fun j=>cond (Nat.beq j k) (addE (.var (nm + k)) (.lit 1)) (.var (nm + j))
noncomputable def nmE (nm:Nat):Nat→IE:=fun j=>.var (nm + j)
noncomputable def nO (L oc:Nat):Nat:=cond (Nat.blt oc L) oc L
noncomputable def pkE (k:Nat):IE:=.app 1000 (lt k) (.lit 0) (.lit 0)
noncomputable def tuO (args:List AV) (h:Heap):Nat→Option (T (AV × Heap))
  | 0=>none
  | n + 1=>orElse (tu2 (pkE (2 * n)) (addE (.var (33 + 4 * n)) (.lit 1)) (.var (800 + 2 * n)) args h) (orElse (tu2 (pkE (2 * n + 1)) (addE (.bin .sub .i64 (.var (33 + 4 * n)) (.var (800 + 2 * n))) (.lit 1)) (.var (800 + 2 * n + 1)) args h) (tuO args h n))
noncomputable def faO (L:Nat) (fd:Bool) (i oc:Nat) (fl:Bool) (args:List AV) (h:Heap):Option (T (AV × Heap)):=match args with
  | [_,.sliceX pb _ _ _]=>orElse (fa18 (nmE 800) true pb L (nO L oc) args h) (cond (and fd (Bool.not fl)) (orElse (fa18 (bumpE 710 (2 * i)) true pb L L args h) (fa18 (bumpE 710 (2 * i + 1)) true pb L L args h)) none)
  | [_,.slice pb _ _ _]=>cond fd (fa18 (nmE 710) false pb L L args h) none
  | _=>none
noncomputable def be21 (L:Nat) (args:List AV) (h:Heap):Option (T (AV × Heap)):=match args with
  | [.sliceX b1 _ _ _,.sliceX b2 _ _ _]=>cond (and (eqAVs args (argsBe b1 b2 L)) (and (frontC (planN L 800) (h.get b1)) (frontC (planN L 710) (h.get b2)))) (some (.ret (.bool (.lit false),h))) none
  | _=>none
noncomputable def orcFw (L:Nat) (fd:Bool) (i oc:Nat) (fl:Bool) (f:FuncId) (args:List AV) (h:Heap):Option (T (AV × Heap)) :=
  cond (Nat.beq f 8) (closedOrc gl args h) (cond (Nat.beq f 7) (soGo L args h)
    (cond (Nat.beq f 9) (orElse (cond fd (tu2 (.var 88) (.lit (Int.ofNat L)) (.lit (Int.ofNat i)) args h) none) (tuO args h L))
    (cond (Nat.beq f 39) (pickOrc args h)
    (cond (Nat.beq f 12) (pl12 IE.var 710 1001 L fd args h)
    (cond (Nat.beq f 18) (faO L fd i oc fl args h)
    (cond (Nat.beq f 21) (cond (and fd (Nat.beq oc (L + 1))) (be21 L args h) none) none))))))
noncomputable def tbFw (L:Nat) (fd:Bool) (i oc:Nat) (fl:Bool):Tabs:=⟨Sx.Tryd.ft.get,lFind Sx.Tryd.rt,2000,orcFw L fd i oc fl⟩
noncomputable def sumE (nm:Nat):Nat→IE
  | 0=>.lit 0
  | n + 1=>addE (sumE nm n) (addE (.var (nm + 2 * n)) (.var (nm + 2 * n + 1)))
noncomputable def wkE (i:Nat):IE:=addE (.var (710 + 2 * i)) (.var (710 + 2 * i + 1))
noncomputable def qFw (L:Nat) (fd:Bool):List (Nat × Int × Int):=lApp (qPl 800 L 0) (cond fd (qPl 710 L 0) [])
noncomputable def fcFw (L:Nat) (fd:Bool) (i oc:Nat) (fl:Bool):List BE :=
  lApp (fcPl 800 L 0) (cond fd (lApp (fcPl 710 L 0) (cond fl (.cmp .eql (wkE i) (.var (33 + 4 * i))) (.cmp .lss (wkE i) (.var (33 + 4 * i))) ::
    (cond (Nat.beq oc L) [.cmp .lss (sumE 710 L) (sumE 800 L)] (cond (Nat.beq oc (L + 1)) [.cmp .eql (sumE 800 L) (sumE 710 L)] [])))) [])
noncomputable def lawFw (L:Nat) (fd:Bool) (i oc:Nat) (fl:Bool):Bool:=allK isTrueK (evalN (tbFw L fd i oc fl) 60 false 6 [.agg (bookS (.sliceX 1001 4 0 L)),.sliceU 96,.agg [vi 88,vi 87]] (viewHeap 2000 (lB L))) (knOf (qFw L fd) (fcFw L fd i oc fl))
noncomputable def lawFws (L:Nat):Bool:=and (lAll (fun oc=>lawFw L false 0 oc false) (cntD L)) (lAll (fun i=>lAll (fun oc=>and (lawFw L true i oc true) (lawFw L true i oc false)) (cntD (L + 2))) (cntD L))
theorem lawFw1:lawFws 1=true:=by kernel_rfl
theorem lawFw2:lawFws 2=true:=by kernel_rfl
end Go.Sx
/-! THE LAW OF THE FEWEST WALKS,for a valid evening: its calls are so. -/
namespace Go.Sx
open Go.RowKit Go.Proofs
set_option maxRecDepth 100000
structure OkB (L q:Nat) (ρ:Rho):Prop where
  r:∀ j,j < 2 * L→0≤ρ.iv (800 + j)∧ρ.iv (800 + j)≤5∧0≤ρ.iv (710 + j)∧ρ.iv (710 + j)≤5
  e:∀ j,j < q→ρ.iv (800 + j)=ρ.iv (710 + j)
  l:q < 2 * L→ρ.iv (710 + q) < ρ.iv (800 + q)
theorem qBe_ok {L q:Nat} {ρ:Rho} (h:OkB L q ρ):∀ n k,k + n≤2 * L→∀ c ∈ ivC (qBe n k),c.den ρ=true
  | 0,_,_,c,hc=>(List.not_mem_nil hc).elim
  | n + 1,k,hk,c,hc=>by
    have:=h.r k (by omega)
    simp only [qBe,ivC,List.mem_cons] at hc
    rcases hc with rfl | rfl | rfl | rfl | hc
    all_goals first | exact qBe_ok h n (k + 1) (by omega) c hc | (rw [BE.t_leq,IE.den_lit,IE.den_var]; omega)
theorem eqBe_ok {L q:Nat} {ρ:Rho} (h:OkB L q ρ):∀ n,n≤q→∀ c ∈ eqBe n,c.den ρ=true
  | 0,_,c,hc=>(List.not_mem_nil hc).elim
  | n + 1,hn,c,hc=>by
    simp only [eqBe,List.mem_cons] at hc
    rcases hc with rfl | hc
    · rw [BE.t_eql,IE.den_var,IE.den_var]; exact h.e n (by omega)
    · exact eqBe_ok h n (by omega) c hc
theorem before_q {L q:Nat} (h1:1≤L) (h5:L≤5) (hq:q≤2 * L):CallOk (pLaw fun ρ _=>OkB L q ρ) 21 (argsBe 1002 1003 L) (viewA 2000 (vBe L)) (.ret (.bool (.lit false),viewA 2000 (vBe L))):=by
  have hck:ckBe L q=true:=lAll_mem (lAll_mem ckBe_all L (by simp only [List.mem_cons,List.not_mem_nil,or_false]; omega)) q (cntD_mem (by omega))
  unfold ckBe at hck
  simp only [Bool.and_eq_true] at hck
  obtain ⟨hv,hck⟩:=hck
  have B:TabOk (pLaw fun ρ _=>OkB L q ρ) Sx.Tryd.tt.get tb0:=Tryd.tab (fun _ _ _=>none) (fun _ _ _ _ h=>by cases h) 2000
  have base:=eval_ok B 60 21 (argsBe 1002 1003 L) (viewA 2000 (vBe L))
  have up:∀ g ∈ vBe L,(viewA 2000 (vBe L)).get g.1=some g.2:=viewA_mem 2000 _ 0 rfl
  have fr:=base.frame (n:=2000) (l:=vBe L) (by omega) rfl hv (fun g hg=>⟨g.2,up g hg,.refl _⟩) (by rw [viewA_next]; exact Nat.le_refl _) (fun _=>[])
  refine CallOk.read (p0:=pLaw fun ρ _=>OkB L q ρ) (p:=pLaw fun ρ _=>OkB L q ρ) rfl fr fun ρ b hb P hP=>⟨ρ,hb,SameL.refl _ _,⟨rfl,fun j o g=>⟨o,g,SameA.refl o⟩⟩,?_⟩
  obtain ⟨w,hw,_⟩:=hb
  have hw:OkB L q ρ:=hw
  refine allK_ok (ρ:=ρ) (fun K r hK hr=>?_) _ _ (knOf_ok (qBe_ok hw _ 0 (by omega)) fun c hc=>?_) hck
  · obtain ⟨s1,s2⟩:=isR_same (p0:=pLaw fun ρ _=>OkB L q ρ) (p:=pLaw fun ρ _=>OkB L q ρ) rfl rfl (ρ:=ρ) hr
    exact ⟨_,hP,s1,s2⟩
  · unfold fcBe at hc
    cases hb:Nat.blt q (2 * L) with
    | true =>
      rw [hb,cond_true] at hc
      rcases List.mem_cons.1 hc with rfl | hc
      · rw [BE.t_lss,IE.den_var,IE.den_var]; exact hw.l (Nat.le_of_ble_eq_true hb)
      · exact eqBe_ok hw q (Nat.le_refl q) c hc
    | false=>rw [hb,cond_false] at hc; exact eqBe_ok hw q (Nat.le_refl q) c hc
theorem be21_ok {ok:Rho→(Nat→Obj→Prop)→Prop} {L:Nat} (h1:1≤L) (h5:L≤5) (hok:∀ ρ m,ok ρ m→∃ q,q≤2 * L∧OkB L q ρ) {args:List AV} {h:Heap} {t:T (AV × Heap)} (k:be21 L args h=some t):CallOk (pLaw ok) 21 args h t:=by
  unfold be21 at k
  split at k
  · rename_i b1 _ _ _ b2 _ _ _
    obtain ⟨hk,k1⟩:=cond_some k
    simp only [Bool.and_eq_true] at hk
    obtain ⟨g1,g2,g3⟩:=hk
    rw [eqAVs_eq _ _ g1]
    obtain rfl:=Option.some.inj k1
    have hc:CallOk (pLaw ok) 21 (argsBe 1002 1003 L) (viewA 2000 (vBe L)) (.ret (.bool (.lit false),viewA 2000 (vBe L))) :=
      CallOk.split (ι:={ q:Nat // q≤2 * L }) (P:=Tryd.prog) (RC:=rcOf Tryd.rows) (okC:=fun q ρ m=>ok ρ m∧OkB L q.1 ρ) (ok:=ok) (fun q=>CallOk.read (p0:=pLaw fun ρ _=>OkB L q.1 ρ) (p:=pLaw fun ρ m=>ok ρ m∧OkB L q.1 ρ) rfl (before_q h1 h5 q.2) fun ρ b hb Q hQ=>by
        obtain ⟨w,hw,hbw⟩:=hb
        exact ⟨ρ,⟨w,hw.2,hbw⟩,SameL.refl _ _,⟨rfl,fun j o g=>⟨o,g,SameA.refl o⟩⟩,_,hQ,SameV.refl _ _,rfl,fun j o g=>⟨o,g,SameA.refl o⟩⟩)
        (fun ρ m o=>by obtain ⟨q,hq,hb⟩:=hok ρ m o; exact ⟨⟨q,hq⟩,o,hb⟩) fun _ _ _ o=>o.1
    let mv:Nat→Nat:=fun b=>if b=1002 then b1 else if b=1003 then b2 else b
    have m2:mv 1002=b1:=rfl
    have m3:mv 1003=b2:=rfl
    have part:∀ {cs:List AV} {b:Nat},frontC cs (h.get b)=true→∃ o,h.get b=some o∧Part cs 0 o:=fun {cs b} hf=>by
      unfold frontC cellsOf at hf
      cases ho:h.get b with
      | none=>rw [ho] at hf; cases hf
      | some x =>
        rw [ho] at hf
        cases x <;> try cases hf
        rename_i cs' el own ext
        obtain ⟨r,rfl⟩:=frontL_ok (l:=cs) (k:=cs') hf
        exact ⟨_,rfl,_,el,own,ext,rfl,[],r,rfl,rfl⟩
    refine hc.moved3 (mv:=mv) (off:=fun _=>0) (by omega) (fun b hb=>⟨by show (if b=1002 then _ else if b=1003 then _ else b)=b; rw [if_neg (by omega),if_neg (by omega)],rfl⟩) rfl (fun g hg=>?_) (fun E=>?_)
    · simp only [vBe,List.mem_cons,List.not_mem_nil,or_false] at hg
      rcases hg with rfl | rfl
      · exact ⟨by show 1002 < 2000; omega,_,rfl,planN_ids 0 L 800,part g2⟩
      · exact ⟨by show 1003 < 2000; omega,_,rfl,planN_ids 0 L 710,part g3⟩
    · simp only [argsBe,concL,conc,Env.mv3,show (1002:Nat) < 2000 by omega,show (1003:Nat) < 2000 by omega,if_true,m2,m3,Nat.sub_zero,Nat.add_zero]
      cases E.σ b1 <;> cases E.σ b2 <;> rfl
  · cases k
structure OkFw (L:Nat) (fd:Bool) (i oc:Nat) (fl:Bool) (ρ:Rho) (m:Nat→Obj→Prop):Prop where
  cs:∀ d ∈ csV L,d.den ρ=true
  pk:okPick ρ m
  to:∀ k,k < L→turnF ((pkE (2 * k)).den ρ) (ρ.iv (33 + 4 * k) + 1)=ρ.iv (800 + 2 * k)∧turnF ((pkE (2 * k + 1)).den ρ) (ρ.iv (33 + 4 * k) - ρ.iv (800 + 2 * k) + 1)=ρ.iv (800 + 2 * k + 1)
  t:fd=true→turnF (ρ.iv 88) L=i
  p0:OkPl L fd (rhoR IE.var 710 ρ)
  fo:FaOk L (nO L oc) (fun j=>ρ.iv (800 + j)) ρ
  fpl:fd=true→FaOk L L (fun j=>ρ.iv (710 + j)) ρ
  xc:fd=true→fl=false→FaOk L L (fun j=>(bumpE 710 (2 * i) j).den ρ) ρ
  xw:fd=true→fl=false→FaOk L L (fun j=>(bumpE 710 (2 * i + 1) j).den ρ) ρ
  be:fd=true→oc=L + 1→∃ q,q≤2 * L∧OkB L q ρ
  q:∀ c ∈ ivC (qFw L fd),c.den ρ=true
  fc:∀ c ∈ fcFw L fd i oc fl,c.den ρ=true
theorem tuO_ok {L i oc:Nat} {fd fl:Bool} {args:List AV} {h:Heap} {t:T (AV × Heap)}:∀ n,n≤L→tuO args h n=some t→CallOk (pLaw fun ρ m=>OkFw L fd i oc fl ρ m) 9 args h t
  | 0,_,e=>by cases e
  | n + 1,hn,e=>by
    unfold tuO at e
    have wr:∀ x:Int,-9223372036854775808≤x∧x≤9223372036854775807→IntKind.i64.wrap x=x:=fun x hx=>IntWalk.i64_in x hx
    rcases orElse_some e with e | e
    · refine tu2_ok (fun ρ m k=>?_) e
      obtain ⟨W,w1,w2⟩:=walks_cs k.cs n (by omega)
      have e1:(addE (.var (33 + 4 * n)) (.lit 1)).den ρ=ρ.iv (33 + 4 * n) + 1:=wr _ (by show -9223372036854775808≤ρ.iv (33 + 4 * n) + 1∧ρ.iv (33 + 4 * n) + 1≤9223372036854775807; omega)
      rw [e1]
      exact ⟨by omega,(k.to n (by omega)).1⟩
    · rcases orElse_some e with e | e
      · refine tu2_ok (fun ρ m k=>?_) e
        obtain ⟨W,w1,w2⟩:=walks_cs k.cs n (by omega)
        have p:=k.fo.pb n (by omega)
        have p:0≤ρ.iv (800 + 2 * n)∧0≤ρ.iv (800 + (2 * n + 1))∧ρ.iv (800 + 2 * n) + ρ.iv (800 + (2 * n + 1))≤ρ.iv (33 + 4 * n):=p
        have e1:(addE (.bin .sub .i64 (.var (33 + 4 * n)) (.var (800 + 2 * n))) (.lit 1)).den ρ=ρ.iv (33 + 4 * n) - ρ.iv (800 + 2 * n) + 1:=by
          show IntKind.i64.wrap (IntKind.i64.wrap (ρ.iv (33 + 4 * n) - ρ.iv (800 + 2 * n)) + 1)=_
          rw [wr (ρ.iv (33 + 4 * n) - ρ.iv (800 + 2 * n)) (by omega),wr _ (by omega)]
        rw [e1]
        exact ⟨by omega,(k.to n (by omega)).2⟩
      · exact tuO_ok n (by omega) e
theorem nO_le (L oc:Nat):nO L oc≤L:=by
  unfold nO
  cases h:Nat.blt oc L with
  | true=>have:=Nat.le_of_ble_eq_true h; simp only [cond_true]; omega
  | false=>exact Nat.le_refl _
theorem orcFw_ok {L i oc:Nat} {fd fl:Bool} (h1:1≤L) (h5:L≤5) (HT:Looks true L):∀ f args h t,orcFw L fd i oc fl f args h=some t→CallOk (pLaw fun ρ m=>OkFw L fd i oc fl ρ m) f args h t:=by
  intro f args h t e
  unfold orcFw at e
  cases h8:Nat.beq f 8 with
  | true=>rw [h8,cond_true] at e; have:=beq_t.1 h8; subst this; exact CallOk.lift (firedOrc_ok e)
  | false =>
    rw [h8,cond_false] at e
    cases h7:Nat.beq f 7 with
    | true=>rw [h7,cond_true] at e; have:=beq_t.1 h7; subst this; exact so_any (fun ρ b k=>k.cs) (vals_at h1 h5).2 e
    | false =>
      rw [h7,cond_false] at e
      cases h9:Nat.beq f 9 with
      | true =>
        rw [h9,cond_true] at e
        have:=beq_t.1 h9; subst this
        rcases orElse_some e with e | e
        · obtain ⟨hf,e⟩:=cond_some e
          exact tu2_ok (fun ρ m k=>⟨by show (L:Int)≤_; omega,k.t hf⟩) e
        · exact tuO_ok L (Nat.le_refl L) e
      | false =>
        rw [h9,cond_false] at e
        cases h39:Nat.beq f 39 with
        | true=>rw [h39,cond_true] at e; have:=beq_t.1 h39; subst this; exact pick_orc (p:=pLaw fun ρ m=>OkFw L fd i oc fl ρ m) rfl (fun ρ m k=>k.pk) e
        | false =>
          rw [h39,cond_false] at e
          cases h12:Nat.beq f 12 with
          | true=>rw [h12,cond_true] at e; have:=beq_t.1 h12; subst this; exact pl12_ok h1 h5 HT (fun ρ b k=>⟨_,rhoR_reads IE.var 710 ρ,k.p0,fun _ _ _=>rhoR_nm⟩) e
          | false =>
            rw [h12,cond_false] at e
            cases h18:Nat.beq f 18 with
            | true =>
              rw [h18,cond_true] at e
              have:=beq_t.1 h18; subst this
              unfold faO at e
              split at e
              · rcases orElse_some e with e | e
                · exact fa18_ok h1 h5 (nO_le L oc) (fun ρ m k=>⟨k.cs,k.fo⟩) e
                · obtain ⟨hf,e⟩:=cond_some e
                  simp only [Bool.and_eq_true,Bool.not_eq_true'] at hf
                  rcases orElse_some e with e | e
                  · exact fa18_ok h1 h5 (Nat.le_refl L) (fun ρ m k=>⟨k.cs,k.xc hf.1 hf.2⟩) e
                  · exact fa18_ok h1 h5 (Nat.le_refl L) (fun ρ m k=>⟨k.cs,k.xw hf.1 hf.2⟩) e
              · obtain ⟨hf,e⟩:=cond_some e
                exact fa18_ok h1 h5 (Nat.le_refl L) (fun ρ m k=>⟨k.cs,k.fpl hf⟩) e
              · cases e
            | false =>
              rw [h18,cond_false] at e
              obtain ⟨h21,e1⟩:=cond_some e
              obtain ⟨hf,e2⟩:=cond_some e1
              have:=beq_t.1 h21; subst this
              simp only [Bool.and_eq_true] at hf
              exact be21_ok h1 h5 (fun ρ m k=>k.be hf.1 (beq_t.1 hf.2)) e2
end Go.Sx
/-! THE LAW OF THE FEWEST WALKS: plans as numbers and as lists. -/
namespace Go.Sx
open Go.RowKit Go.Proofs
set_option maxRecDepth 100000
def listF (pl:Nat→Int):Nat→Nat→List (Nat × Nat)
  | 0,_=>[]
  | n + 1,k=>((pl (2 * k)).toNat,(pl (2 * k + 1)).toNat) :: listF pl n (k + 1)
theorem listF_len (pl:Nat→Int):∀ n k,(listF pl n k).length=n
  | 0,_=>rfl
  | n + 1,k=>by simp only [listF,List.length_cons,listF_len pl n (k + 1)]
theorem mayK_f {ρ:Rho} {pl:Nat→Int} {k:Nat}:mayK ρ pl k=false ↔ (lackF ρ k 0 (crs ρ pl k).1 (pl (2 * k))=0∧lackF ρ k 1 (crs ρ pl k).2 (pl (2 * k + 1))=0)∧failF ρ k (leftF ρ k 1 (crs ρ pl k).2 (pl (2 * k + 1)))=false:=by
  unfold mayK mayF
  simp only [Bool.or_eq_false_iff,Bool.not_eq_false',decide_eq_true_eq]
/-- a plan is enough just if no part may fail -/
theorem enP_may {ρ:Rho} {pl:Nat→Int} (hp:∀ j,0≤pl j):∀ n k,EnP ρ k (crs ρ pl k).1 (crs ρ pl k).2 (listF pl n k) ↔ ∀ j,k≤j→j < k + n→(pl (2 * j)).toNat + (pl (2 * j + 1)).toNat≤(ρ.iv (33 + 4 * j)).toNat∧mayK ρ pl j=false
  | 0,k=>⟨fun _ j h1 h2=>absurd h1 (by omega),fun _=>trivial⟩
  | n + 1,k=>by
    have ih:=enP_may (ρ:=ρ) hp n (k + 1)
    have c0:(((pl (2 * k)).toNat:Nat):Int)=pl (2 * k):=Int.toNat_of_nonneg (hp _)
    have c1:(((pl (2 * k + 1)).toNat:Nat):Int)=pl (2 * k + 1):=Int.toNat_of_nonneg (hp _)
    have e:(EnP ρ k (crs ρ pl k).1 (crs ρ pl k).2 (listF pl (n + 1) k))=((pl (2 * k)).toNat + (pl (2 * k + 1)).toNat≤(ρ.iv (33 + 4 * k)).toNat∧(lackF ρ k 0 (crs ρ pl k).1 (((pl (2 * k)).toNat:Nat):Int)=0∧lackF ρ k 1 (crs ρ pl k).2 (((pl (2 * k + 1)).toNat:Nat):Int)=0)∧failF ρ k (leftF ρ k 1 (crs ρ pl k).2 (((pl (2 * k + 1)).toNat:Nat):Int))=false∧EnP ρ (k + 1) (leftF ρ k 0 (crs ρ pl k).1 (((pl (2 * k)).toNat:Nat):Int)) (leftF ρ k 1 (crs ρ pl k).2 (((pl (2 * k + 1)).toNat:Nat):Int)) (listF pl n (k + 1))):=rfl
    rw [e,c0,c1]
    constructor
    · rintro ⟨h1,h2,h3,h4⟩ j hj hj2
      by_cases ej:j=k
      · subst ej; exact ⟨h1,mayK_f.2 ⟨h2,h3⟩⟩
      · exact ih.1 h4 j (by omega) (by omega)
    · intro h
      obtain ⟨h1,h2⟩:=h k (Nat.le_refl k) (by omega)
      obtain ⟨h2,h3⟩:=mayK_f.1 h2
      exact ⟨h1,h2,h3,ih.2 fun j hj hj2=>h j (by omega) (by omega)⟩
theorem lexL_first {p r:Nat→Int} (hp:∀ j,0≤p j) (hr:∀ j,0≤r j):∀ n k,¬ lexL (listF p n k) (listF r n k)→∃ q,2 * k≤q∧q≤2 * k + 2 * n∧(∀ j,2 * k≤j→j < q→p j=r j)∧(q < 2 * k + 2 * n→r q < p q)
  | 0,k,_=>⟨2 * k,by omega,by omega,fun j h1 h2=>absurd h1 (by omega),fun h=>absurd h (by omega)⟩
  | n + 1,k,h=>by
    have h:¬ (lexLt ((p (2 * k)).toNat,(p (2 * k + 1)).toNat) ((r (2 * k)).toNat,(r (2 * k + 1)).toNat) ∨ ((p (2 * k)).toNat,(p (2 * k + 1)).toNat)=((r (2 * k)).toNat,(r (2 * k + 1)).toNat)∧lexL (listF p n (k + 1)) (listF r n (k + 1))):=h
    have a0:=hp (2 * k); have a1:=hp (2 * k + 1); have b0:=hr (2 * k); have b1:=hr (2 * k + 1)
    unfold lexLt at h
    simp only [Prod.mk.injEq,not_or,not_and,Nat.not_lt] at h
    obtain ⟨⟨h1,h2⟩,h3⟩:=h
    by_cases e0:p (2 * k)=r (2 * k)
    · by_cases e1:p (2 * k + 1)=r (2 * k + 1)
      · obtain ⟨q,q1,q2,q3,q4⟩:=lexL_first hp hr n (k + 1) (h3 ⟨by rw [e0],by rw [e1]⟩)
        refine ⟨q,by omega,by omega,fun j h1 h2=>?_,fun hq=>q4 (by omega)⟩
        by_cases j0:j=2 * k
        · subst j0; exact e0
        · by_cases j1:j=2 * k + 1
          · subst j1; exact e1
          · exact q3 j (by omega) h2
      · refine ⟨2 * k + 1,by omega,by omega,fun j h1 h2=>?_,fun _=>?_⟩
        · obtain rfl:j=2 * k:=by omega
          exact e0
        · have:=h2 (by rw [e0]); omega
    · exact ⟨2 * k,by omega,by omega,fun j h1 h2=>absurd h1 (by omega),fun _=>by omega⟩
theorem total_snoc (pl:Nat→Int):∀ n k,total (listF pl (n + 1) k)=total (listF pl n k) + ((pl (2 * (k + n))).toNat + (pl (2 * (k + n) + 1)).toNat)
  | 0,k=>by simp only [listF,total,Nat.add_zero]; omega
  | n + 1,k=>by
    have ih:=total_snoc pl n (k + 1)
    have e1:total (listF pl (n + 1 + 1) k)=(pl (2 * k)).toNat + (pl (2 * k + 1)).toNat + total (listF pl (n + 1) (k + 1)):=rfl
    have e2:total (listF pl (n + 1) k)=(pl (2 * k)).toNat + (pl (2 * k + 1)).toNat + total (listF pl n (k + 1)):=rfl
    rw [e1,e2,ih,show k + 1 + n=k + (n + 1) by omega]; omega
theorem sumE_den {ρ:Rho} {nm:Nat} (h:∀ j,j < 10→0≤ρ.iv (nm + j)∧ρ.iv (nm + j)≤5):∀ n,n≤5→(sumE nm n).den ρ=(total (listF (fun j=>ρ.iv (nm + j)) n 0):Nat)∧total (listF (fun j=>ρ.iv (nm + j)) n 0)≤10 * n
  | 0,_=>⟨rfl,Nat.le_refl _⟩
  | n + 1,hn=>by
    obtain ⟨h1,h2⟩:=sumE_den h n (by omega)
    have a:=h (2 * n) (by omega)
    have b:=h (2 * n + 1) (by omega)
    have wr:∀ x:Int,-9223372036854775808≤x∧x≤9223372036854775807→IntKind.i64.wrap x=x:=fun x hx=>IntWalk.i64_in x hx
    have e:(sumE nm (n + 1)).den ρ=IntKind.i64.wrap ((sumE nm n).den ρ + IntKind.i64.wrap (ρ.iv (nm + 2 * n) + ρ.iv (nm + 2 * n + 1))):=rfl
    rw [total_snoc,Nat.zero_add]
    rw [show nm + (2 * n + 1)=nm + 2 * n + 1 by omega] at b
    show (sumE nm (n + 1)).den ρ=((total (listF (fun j=>ρ.iv (nm + j)) n 0) + ((ρ.iv (nm + 2 * n)).toNat + (ρ.iv (nm + (2 * n + 1))).toNat):Nat):Int)∧total (listF (fun j=>ρ.iv (nm + j)) n 0) + ((ρ.iv (nm + 2 * n)).toNat + (ρ.iv (nm + (2 * n + 1))).toNat)≤10 * (n + 1)
    rw [show nm + (2 * n + 1)=nm + 2 * n + 1 by omega,e,h1,wr (ρ.iv (nm + 2 * n) + ρ.iv (nm + 2 * n + 1)) (by omega),wr _ (by omega)]
    constructor <;> omega
/-! ## The plan that is told -/
section
variable {ρ:Rho} {m:Nat} (B:Bds ρ m) (hm:m≤5) (hW:∀ i,i < m→(ρ.iv (33 + 4 * i)).toNat≤5)
include B hm hW
theorem out_pair {d i : Nat} {a b : Int} (hd : i + (d + 1) ≤ m) (ha : 0 ≤ a ∧ a ≤ 99) (hb : 0 ≤ b ∧ b ≤ 99) (h : (outD ρ (d + 1) i a b).en = true) :
    ∃ x:Nat × Nat,x.1 + x.2≤(ρ.iv (33 + 4 * i)).toNat∧enX ρ (outD ρ d (i + 1)) i a b x∧outD ρ (d + 1) i a b=outX ρ (outD ρ d (i + 1)) i a b x:=by
  have hN:∀ c e,(0≤c∧c≤99)→(0≤e∧e≤99)→(outD ρ d (i + 1) c e).en=true→0≤(outD ρ d (i + 1) c e).many∧(outD ρ d (i + 1) c e).many≤1000:=fun c e hc he hen=>by
    have t:=told_ok B hm hW d (i + 1) c e (by omega) hc he hen
    have:=t.five
    rw [t.many]; omega
  have h':=h
  rw [outD] at h'
  obtain ⟨x,hx,hex,ho,_⟩:=best_pair B (show i < m by omega) ha hb hN (hW i (by omega)) h'
  exact ⟨x,hx,hex,ho⟩
theorem st_ok (h0:0≤ρ.iv 0∧ρ.iv 0≤99) (h2:0≤ρ.iv 2∧ρ.iv 2≤99) (h:enD ρ m=true):∀ k,k≤m→(0≤(stD ρ m k).1∧(stD ρ m k).1≤99)∧(0≤(stD ρ m k).2∧(stD ρ m k).2≤99)∧(outK ρ m k).en=true
  | 0,_=>⟨h0,h2,h⟩
  | k + 1,hk=>by
    obtain ⟨r0,r1,he⟩:=st_ok h0 h2 h k (by omega)
    unfold outK at he
    have hd:m - k=(m - (k + 1)) + 1:=by omega
    rw [hd] at he
    obtain ⟨x,hx,hex,ho⟩:=out_pair B hm hW (show k + (m - (k + 1) + 1)≤m by omega) r0 r1 he
    have hi:k < m:=by omega
    have x5:=hW k hi
    have l0:=left_bd B (show 0 < 2 by omega) r0 (show x.1≤5 by omega) hi
    have l1:=left_bd B (show 1 < 2 by omega) r1 (show x.2≤5 by omega) hi
    have e1:(stD ρ m (k + 1)).1=leftF ρ k 0 (stD ρ m k).1 x.1:=by
      show (outD ρ (m - k) k (stD ρ m k).1 (stD ρ m k).2).b0=_
      rw [hd,ho]; rfl
    have e2:(stD ρ m (k + 1)).2=leftF ρ k 1 (stD ρ m k).2 x.2:=by
      show (outD ρ (m - k) k (stD ρ m k).1 (stD ρ m k).2).b1=_
      rw [hd,ho]; rfl
    refine ⟨by rw [e1]; exact l0,by rw [e2]; exact l1,?_⟩
    unfold outK
    rw [e1,e2]
    exact (enX_iff.1 hex).2
theorem plan_pair (h0:0≤ρ.iv 0∧ρ.iv 0≤99) (h2:0≤ρ.iv 2∧ρ.iv 2≤99) (h:enD ρ m=true) {k:Nat} (hk:k < m):∃ x:Nat × Nat,x.1 + x.2≤(ρ.iv (33 + 4 * k)).toNat∧(outK ρ m k).wc=x.1∧(outK ρ m k).ww=x.2:=by
  obtain ⟨r0,r1,he⟩:=st_ok B hm hW h0 h2 h k (by omega)
  unfold outK at he ⊢
  have hd:m - k=(m - (k + 1)) + 1:=by omega
  rw [hd] at he ⊢
  obtain ⟨x,hx,_,ho⟩:=out_pair B hm hW (show k + (m - (k + 1) + 1)≤m by omega) r0 r1 he
  rw [ho]
  exact ⟨x,hx,rfl,rfl⟩
end
theorem planO_even {ρ:Rho} {L k:Nat}:planO ρ L (2 * k)=(outK ρ L k).wc:=by
  unfold planO; rw [if_pos (by omega),show 2 * k / 2=k by omega]
theorem planO_odd {ρ:Rho} {L k:Nat}:planO ρ L (2 * k + 1)=(outK ρ L k).ww:=by
  unfold planO; rw [if_neg (by omega),show (2 * k + 1) / 2=k by omega]
theorem told_list {ρ:Rho} {L:Nat}:∀ n k,k + n=L→toldL ρ n k (stD ρ L k).1 (stD ρ L k).2=listF (planO ρ L) n k
  | 0,_,_=>rfl
  | n + 1,k,h=>by
    have hd:L - k=n + 1:=by omega
    have ih:=told_list (ρ:=ρ) (L:=L) n (k + 1) (by omega)
    have s:stD ρ L (k + 1)=((outD ρ (n + 1) k (stD ρ L k).1 (stD ρ L k).2).b0,(outD ρ (n + 1) k (stD ρ L k).1 (stD ρ L k).2).b1):=by
      show ((outD ρ (L - k) k (stD ρ L k).1 (stD ρ L k).2).b0,(outD ρ (L - k) k (stD ρ L k).1 (stD ρ L k).2).b1)=_
      rw [hd]
    rw [s] at ih
    have o:outK ρ L k=outD ρ (n + 1) k (stD ρ L k).1 (stD ρ L k).2:=by unfold outK; rw [hd]
    show ((outD ρ (n + 1) k (stD ρ L k).1 (stD ρ L k).2).wc.toNat,(outD ρ (n + 1) k (stD ρ L k).1 (stD ρ L k).2).ww.toNat) :: toldL ρ n (k + 1) _ _=((planO ρ L (2 * k)).toNat,(planO ρ L (2 * k + 1)).toNat) :: listF (planO ρ L) n (k + 1)
    rw [planO_even,planO_odd,o]
    exact congrArg _ ih
/-- the first number below a limit that is right; the limit if none is -/
noncomputable def firstT (f:Nat→Bool):Nat→Nat
  | 0=>0
  | n + 1=>if firstT f n < n then firstT f n else if f n=true then n else n + 1
theorem firstT_spec (f:Nat→Bool):∀ n,firstT f n≤n∧(∀ k,k < firstT f n→f k=false)∧(firstT f n < n→f (firstT f n)=true)
  | 0=>⟨Nat.le_refl 0,fun k h=>absurd h (Nat.not_lt_zero k),fun h=>absurd h (Nat.not_lt_zero 0)⟩
  | n + 1=>by
    obtain ⟨h1,h2,h3⟩:=firstT_spec f n
    unfold firstT
    split
    · rename_i h
      exact ⟨by omega,h2,fun _=>h3 h⟩
    · rename_i h
      have e:firstT f n=n:=by omega
      rw [e] at h2
      split
      · rename_i hn; exact ⟨by omega,h2,fun _=>hn⟩
      · rename_i hn
        refine ⟨Nat.le_refl _,fun k hk=>?_,fun h=>absurd h (by omega)⟩
        by_cases ek:k=n
        · subst ek; simpa using hn
        · exact h2 k (by omega)
end Go.Sx
/-! THE LAW OF THE FEWEST WALKS: there are such names,for any valid evening. -/
namespace Go.Sx
open Go.RowKit Go.Proofs
set_option maxRecDepth 100000
theorem turnF_nn (n m:Int):0≤turnF n m:=by
  by_cases h:m < 1
  · unfold turnF; rw [if_pos h]; exact Int.le_refl 0
  · exact (turnF_in (by omega)).1
noncomputable def othF (ρ:Rho) (n:Nat):Int:=if n % 2=0 then turnF ((pkE n).den ρ) (ρ.iv (33 + 4 * (n / 2)) + 1) else turnF ((pkE n).den ρ) (ρ.iv (33 + 4 * (n / 2)) - turnF ((pkE (n - 1)).den ρ) (ρ.iv (33 + 4 * (n / 2)) + 1) + 1)
theorem othF_nn (ρ:Rho) (n:Nat):0≤othF ρ n:=by
  unfold othF
  split <;> exact turnF_nn _ _
noncomputable def planZ (ρ:Rho) (L n:Nat):Int:=if n < 2 * L then planO ρ L n else 0
noncomputable def ivFw (ρ:Rho) (L j:Nat):Int:=if j < 100 then ρ.iv j else if j < 800 then planZ ρ L (j - 710) else othF ρ (j - 800)
theorem listF_congr {p r:Nat→Int}:∀ n k,(∀ j,2 * k≤j→j < 2 * k + 2 * n→p j=r j)→listF p n k=listF r n k
  | 0,_,_=>rfl
  | n + 1,k,h=>by simp only [listF,h (2 * k) (by omega) (by omega),h (2 * k + 1) (by omega) (by omega),listF_congr n (k + 1) fun j h1 h2=>h j (by omega) (by omega)]
theorem leL_list {p r:Nat→Int} (h:∀ j,p j≤r j):∀ n k,leL (listF p n k) (listF r n k)
  | 0,_=>trivial
  | n + 1,k=>⟨⟨Int.toNat_le_toNat (h _),Int.toNat_le_toNat (h _)⟩,leL_list h n (k + 1)⟩
theorem okL_list {ρ:Rho} {p:Nat→Int}:∀ n k,(∀ j,k≤j→j < k + n→(p (2 * j)).toNat + (p (2 * j + 1)).toNat≤(ρ.iv (33 + 4 * j)).toNat)→okL ρ k (listF p n k)
  | 0,_,_=>trivial
  | n + 1,k,h=>⟨h k (Nat.le_refl k) (by omega),okL_list n (k + 1) fun j h1 h2=>h j (by omega) (by omega)⟩
theorem faOk_enP {ρ:Rho} {L:Nat} {pl:Nat→Int} (hcs:∀ c ∈ csV L,c.den ρ=true) (hp:∀ j,0≤pl j) (h:EnP ρ 0 (ρ.iv 0) (ρ.iv 2) (listF pl L 0)):FaOk L L pl ρ:=by
  have h:=(enP_may hp L 0).1 h
  refine ⟨fun k hk=>?_,fun k hk _=>?_⟩
  · obtain ⟨W,w1,w2⟩:=walks_cs hcs k hk
    have:=(h k (Nat.zero_le k) (by omega)).1
    have a:=hp (2 * k); have b:=hp (2 * k + 1)
    omega
  · rw [(h k (Nat.zero_le k) (by omega)).2]; exact (decide_eq_false (by omega)).symm
theorem faOk_bump {ρ:Rho} {L:Nat} {pl pl':Nat→Int} (h5:L≤5) (hcs:∀ c ∈ csV L,c.den ρ=true) (hp:∀ j,0≤pl j) (hle:∀ j,pl j≤pl' j) (hs:∀ k,k < L→pl' (2 * k) + pl' (2 * k + 1)≤ρ.iv (33 + 4 * k)) (h:EnP ρ 0 (ρ.iv 0) (ρ.iv 2) (listF pl L 0)):FaOk L L pl' ρ:=by
  have hb:=(cs_iff.1 hcs).1
  have r0:=hb.room0; have r1:=hb.room1; have c0:=hb.coal; have c2:=hb.water
  refine faOk_enP hcs (fun j=>Int.le_trans (hp j) (hle j)) (enP_mono (ez_coal hcs hcs h5 (fun _ _ _=>rfl) rfl) (by rw [listF_len]; omega) (by omega) (by omega) (by omega) (by omega) (leL_list hle L 0) (okL_list L 0 fun j _ hj=>?_) h)
  have a:=hp (2 * j); have b:=hp (2 * j + 1)
  have a':=hle (2 * j); have b':=hle (2 * j + 1)
  have:=hs j (by omega)
  omega
theorem okFw_of {ρ : Rho} {m : Nat → Obj → Prop} {L : Nat} (h1 : 1 ≤ L) (h5 : L ≤ 5) (hcs : ∀ c ∈ csV L, c.den ρ = true) (hpk : okPick ρ m) :
    ∃ fd i oc fl ρ',(fd=false→i=0∧fl=false∧oc < L)∧(fd=true→i < L∧oc < L + 2)∧OkFw L fd i oc fl ρ' m∧(∀ j,j < 100→ρ.iv j=ρ'.iv j)∧ρ.bv=ρ'.bv∧ρ.ov=ρ'.ov:=by
  have hb:=(cs_iff.1 hcs).1
  have r0:=hb.room0; have r1:=hb.room1; have c0:=hb.coal; have c2:=hb.water
  have hB:Bds ρ L:=bds_cs hcs
  have hW:∀ i,i < L→(ρ.iv (33 + 4 * i)).toNat≤5:=fun i hi=>by
    obtain ⟨W,w1,w2⟩:=walks_cs hcs i hi
    omega
  let ρ':Rho:=⟨ivFw ρ L,ρ.bv,ρ.fi,ρ.fb,ρ.ov⟩
  have iv:∀ j,j < 100→ρ'.iv j=ρ.iv j:=fun j hj=>if_pos hj
  have A:AgreeL ρ ρ':=⟨fun j hj=>(iv j (by omega)).symm,fun _ _=>rfl⟩
  have cs':∀ c ∈ csV L,c.den ρ'=true:=cs_agree h5 A.iv hcs
  have nmO:∀ j,ρ'.iv (800 + j)=othF ρ j:=fun j=>by
    show ivFw ρ L (800 + j)=_
    unfold ivFw; rw [if_neg (by omega),if_neg (by omega),Nat.add_sub_cancel_left]
  have nmL:∀ j,j < 90→ρ'.iv (710 + j)=planZ ρ L j:=fun j hj=>by
    show ivFw ρ L (710 + j)=_
    unfold ivFw; rw [if_neg (by omega),if_pos (by omega),Nat.add_sub_cancel_left]
  have pkd:∀ k,(pkE k).den ρ'=(pkE k).den ρ:=fun k=>rfl
  -- the plan that numbers choose
  have ob:∀ k,k < L→turnF ((pkE (2 * k)).den ρ) (ρ.iv (33 + 4 * k) + 1)=othF ρ (2 * k)∧turnF ((pkE (2 * k + 1)).den ρ) (ρ.iv (33 + 4 * k) - othF ρ (2 * k) + 1)=othF ρ (2 * k + 1):=fun k _=>by
    have e0:othF ρ (2 * k)=turnF ((pkE (2 * k)).den ρ) (ρ.iv (33 + 4 * k) + 1):=by
      unfold othF; rw [if_pos (by omega),show 2 * k / 2=k by omega]
    refine ⟨e0.symm,?_⟩
    rw [e0]
    unfold othF; rw [if_neg (by omega),show (2 * k + 1) / 2=k by omega,show 2 * k + 1 - 1=2 * k by omega]
  have os:∀ k,k < L→0≤othF ρ (2 * k)∧0≤othF ρ (2 * k + 1)∧othF ρ (2 * k) + othF ρ (2 * k + 1)≤ρ.iv (33 + 4 * k):=fun k hk=>by
    obtain ⟨W,w1,w2⟩:=walks_cs hcs k hk
    obtain ⟨b0,b1⟩:=ob k hk
    have t0:=turnF_in (n:=(pkE (2 * k)).den ρ) (m:=ρ.iv (33 + 4 * k) + 1) (by omega)
    rw [b0] at t0
    have t1:=turnF_in (n:=(pkE (2 * k + 1)).den ρ) (m:=ρ.iv (33 + 4 * k) - othF ρ (2 * k) + 1) (by omega)
    rw [b1] at t1
    omega
  let f:Nat→Bool:=mayK ρ (othF ρ)
  obtain ⟨n1,n2,n3⟩:=firstT_spec f L
  have foK:∀ oc,nO L oc=firstT f L→FaOk L (nO L oc) (fun j=>ρ'.iv (800 + j)) ρ':=fun oc ho=>by
    have e:(fun j=>ρ'.iv (800 + j))=othF ρ:=funext nmO
    rw [e,ho]
    refine faOk_agree A h5 ⟨os,fun k hk hkn=>?_⟩
    by_cases ek:k=firstT f L
    · rw [decide_eq_true ek,ek]; exact n3 (ek ▸ hk)
    · rw [decide_eq_false ek]; exact n2 k (by omega)
  have to':∀ k,k < L→turnF ((pkE (2 * k)).den ρ') (ρ'.iv (33 + 4 * k) + 1)=ρ'.iv (800 + 2 * k)∧turnF ((pkE (2 * k + 1)).den ρ') (ρ'.iv (33 + 4 * k) - ρ'.iv (800 + 2 * k) + 1)=ρ'.iv (800 + 2 * k + 1):=fun k hk=>by
    rw [iv (33 + 4 * k) (by omega),nmO,show 800 + 2 * k + 1=800 + (2 * k + 1) by omega,nmO]
    exact ob k hk
  have pk':okPick ρ' m:=by
    obtain ⟨b,len,cap,q1,q2,q3⟩:=hpk
    exact ⟨b,len,cap,q1,(iv 96 (by omega)).trans q2,q3⟩
  have oq:=qPl_ok (ρ:=ρ') (nm:=800) cs' (fun k hk=>by
    rw [iv (33 + 4 * k) (by omega),nmO,show 800 + 2 * k + 1=800 + (2 * k + 1) by omega,nmO]; exact os k hk) L 0 (by omega)
  have allE:(∀ k,k < L→f k=false)→EnP ρ 0 (ρ.iv 0) (ρ.iv 2) (listF (othF ρ) L 0):=fun h=>(enP_may (othF_nn ρ) L 0).2 fun j _ hj=>⟨by
    have:=os j (by omega)
    omega,h j (by omega)⟩
  by_cases hen:enD ρ L=true
  · -- a plan is told
    have told:=told_ok hB h5 hW L 0 (ρ.iv 0) (ρ.iv 2) (by omega) (by omega) (by omega) hen
    have tl:=told_list (ρ:=ρ) (L:=L) L 0 (Nat.zero_add L)
    have tl:toldL ρ L 0 (ρ.iv 0) (ρ.iv 2)=listF (planO ρ L) L 0:=tl
    have zO:∀ j,j < 2 * L→planZ ρ L j=planO ρ L j:=fun j hj=>if_pos hj
    have lz:listF (planZ ρ L) L 0=listF (planO ρ L) L 0:=listF_congr L 0 fun j _ hj=>zO j (by omega)
    have pp:=fun k (hk:k < L)=>plan_pair hB h5 hW (by omega) (by omega) hen hk
    have ps:∀ k,k < L→0≤planZ ρ L (2 * k)∧0≤planZ ρ L (2 * k + 1)∧planZ ρ L (2 * k) + planZ ρ L (2 * k + 1)≤ρ.iv (33 + 4 * k):=fun k hk=>by
      obtain ⟨x,hx,x1,x2⟩:=pp k hk
      obtain ⟨W,w1,w2⟩:=walks_cs hcs k hk
      rw [zO _ (by omega),zO _ (by omega),planO_even,planO_odd,x1,x2]
      omega
    have pn:∀ j,0≤planZ ρ L j:=fun j=>by
      by_cases hj:j < 2 * L
      · by_cases e:j % 2=0
        · have:=(ps (j / 2) (by omega)).1
          rw [show 2 * (j / 2)=j by omega] at this; exact this
        · have:=(ps (j / 2) (by omega)).2.1
          rw [show 2 * (j / 2) + 1=j by omega] at this; exact this
      · unfold planZ; rw [if_neg hj]; exact Int.le_refl 0
    have tok:EnP ρ 0 (ρ.iv 0) (ρ.iv 2) (listF (planZ ρ L) L 0):=by rw [lz,← tl]; exact told.ok
    obtain ⟨i,hi⟩:∃ i:Nat,turnF (ρ.iv 88) L=(i:Int):=⟨(turnF (ρ.iv 88) L).toNat,by have:=turnF_nn (ρ.iv 88) L; omega⟩
    have hiL:i < L:=by have:=turnF_in (n:=ρ.iv 88) (m:=(L:Int)) (by omega); omega
    have lq:=qPl_ok (ρ:=ρ') (nm:=710) cs' (fun k hk=>by
      rw [iv (33 + 4 * k) (by omega),nmL _ (by omega),show 710 + 2 * k + 1=710 + (2 * k + 1) by omega,nmL _ (by omega)]; exact ps k hk) L 0 (by omega)
    have fun90:∀ {n:Nat} {pl pl':Nat→Int},(∀ j,j < 2 * L→pl j=pl' j)→FaOk L n pl ρ'→FaOk L n pl' ρ':=fun {n pl pl'} he h=>by
      have ec:∀ k,k≤L→crs ρ' pl k=crs ρ' pl' k:=by
        intro k
        induction k with
        | zero=>intro _; rfl
        | succ k ih=>intro hk; simp only [crs,ih (by omega),he (2 * k) (by omega),he (2 * k + 1) (by omega)]
      refine ⟨fun k hk=>?_,fun k hk hkn=>?_⟩
      · rw [← he _ (by omega),← he _ (by omega)]; exact h.pb k hk
      · rw [← h.may k hk hkn]
        unfold mayK
        rw [ec k (by omega),he (2 * k) (by omega),he (2 * k + 1) (by omega)]
    have fpl:FaOk L L (fun j=>ρ'.iv (710 + j)) ρ':=fun90 (fun j hj=>(nmL j (by omega)).symm) (faOk_agree A h5 (faOk_enP hcs pn tok))
    have P0:OkPl L true (rhoR IE.var 710 ρ'):=okPl_of (ρX:=ρ) h5 hcs ⟨fun j hj=>by rw [rhoR_iv hj]; exact (iv j (by omega)).symm,fun _ _=>rfl⟩ hen fun n hn=>by rw [rhoR_nm,nmL n (by omega)]; exact zO n hn
    have wr:∀ x:Int,-9223372036854775808≤x∧x≤9223372036854775807→IntKind.i64.wrap x=x:=fun x hx=>IntWalk.i64_in x hx
    obtain ⟨W,w1,w2⟩:=walks_cs hcs i hiL
    have psi:=ps i hiL
    have bump:planZ ρ L (2 * i) + planZ ρ L (2 * i + 1) < ρ.iv (33 + 4 * i)→∀ s,s < 2→FaOk L L (fun j=>(bumpE 710 (2 * i + s) j).den ρ') ρ':=fun hlt s hs=>by
      have key:FaOk L L (fun j=>if j=2 * i + s then planZ ρ L j + 1 else planZ ρ L j) ρ':=faOk_agree A h5 (faOk_bump h5 hcs pn (fun j=>by split <;> omega) (fun k hk=>by
        have:=ps k hk
        by_cases e:k=i
        · subst e
          have hs':s=0 ∨ s=1:=by omega
          rcases hs' with rfl | rfl
          · rw [if_pos (by omega),if_neg (by omega)]; omega
          · rw [if_neg (by omega),if_pos (by omega)]; omega
        · rw [if_neg (by omega),if_neg (by omega)]; exact this.2.2) tok)
      refine fun90 (fun j hj=>?_) key
      show (if j=2 * i + s then planZ ρ L j + 1 else planZ ρ L j)=(bumpE 710 (2 * i + s) j).den ρ'
      unfold bumpE
      by_cases e:j=2 * i + s
      · rw [if_pos e,e,Nat.beq_refl,cond_true]
        show _=IntKind.i64.wrap (ρ'.iv (710 + (2 * i + s)) + 1)
        rw [nmL _ (by omega),wr _ (by
          have hs':s=0 ∨ s=1:=by omega
          rcases hs' with rfl | rfl
          · rw [Nat.add_zero]; omega
          · omega)]
      · have : Nat.beq j (2 * i + s) = false := by
          cases hb:Nat.beq j (2 * i + s) with
          | false=>rfl
          | true=>exact absurd (beq_t.1 hb) e
        rw [if_neg e,this,cond_false]
        exact (nmL j (by omega)).symm
    have wk:(wkE i).den ρ'=planZ ρ L (2 * i) + planZ ρ L (2 * i + 1):=by
      show IntKind.i64.wrap (ρ'.iv (710 + 2 * i) + ρ'.iv (710 + 2 * i + 1))=_
      rw [show 710 + 2 * i + 1=710 + (2 * i + 1) by omega,nmL _ (by omega),nmL _ (by omega),wr _ (by omega)]
    have r5:∀ j,j < 10→0≤ρ'.iv (710 + j)∧ρ'.iv (710 + j)≤5:=fun j hj=>by
      rw [nmL j (by omega)]
      by_cases hj2:j < 2 * L
      · obtain ⟨V,v1,v2⟩:=walks_cs hcs (j / 2) (by omega)
        have:=ps (j / 2) (by omega)
        by_cases e:j % 2=0
        · rw [show 2 * (j / 2)=j by omega] at this; omega
        · rw [show 2 * (j / 2) + 1=j by omega] at this; omega
      · unfold planZ; rw [if_neg hj2]; omega
    have o5:∀ j,j < 2 * L→0≤ρ'.iv (800 + j)∧ρ'.iv (800 + j)≤5:=fun j hj=>by
      rw [nmO j]
      obtain ⟨V,v1,v2⟩:=walks_cs hcs (j / 2) (by omega)
      have:=os (j / 2) (by omega)
      by_cases e:j % 2=0
      · rw [show 2 * (j / 2)=j by omega] at this; omega
      · rw [show 2 * (j / 2) + 1=j by omega] at this; omega
    have tL:total (listF (fun j=>ρ'.iv (710 + j)) L 0)=total (toldL ρ L 0 (ρ.iv 0) (ρ.iv 2)):=by
      rw [tl,← lz]
      exact congrArg total (listF_congr L 0 fun j _ hj=>nmL j (by omega))
    have tO:(fun j=>ρ'.iv (800 + j))=othF ρ:=funext nmO
    -- whether all walks of the part are made
    have mk : ∀ oc, oc < L + 2 → nO L oc = firstT f L → (oc = L + 1 → ∃ q, q ≤ 2 * L ∧ OkB L q ρ') → (∀ c ∈ (cond (Nat.beq oc L) [BE.cmp .lss (sumE 710 L) (sumE 800 L)] (cond (Nat.beq oc (L + 1)) [BE.cmp .eql (sumE 800 L) (sumE 710 L)] [])), c.den ρ' = true) →
        ∃ fd i oc fl ρ',(fd=false→i=0∧fl=false∧oc < L)∧(fd=true→i < L∧oc < L + 2)∧OkFw L fd i oc fl ρ' m∧(∀ j,j < 100→ρ.iv j=ρ'.iv j)∧ρ.bv=ρ'.bv∧ρ.ov=ρ'.ov:=fun oc hoc hno hbe hfc=>by
      refine ⟨true,i,oc,decide (planZ ρ L (2 * i) + planZ ρ L (2 * i + 1)=ρ.iv (33 + 4 * i)),ρ',(fun h=>by cases h),(fun _=>⟨hiL,hoc⟩),⟨cs',pk',to',(fun _=>by rw [iv 88 (by omega)]; exact hi),P0,foK oc hno,(fun _=>fpl),(fun _ h=>?_),(fun _ h=>?_),(fun _ h=>hbe h),(fun c hc=>?_),fun c hc=>?_⟩,fun j hj=>(iv j hj).symm,rfl,rfl⟩
      · have h:=of_decide_eq_false h
        have:=bump (by omega) 0 (by omega)
        exact this
      · have h:=of_decide_eq_false h
        exact bump (by omega) 1 (by omega)
      · unfold qFw at hc
        rw [cond_true,lApp_eq] at hc
        have ivc:∀ l l':List (Nat × Int × Int),∀ c ∈ ivC (l ++ l'),c ∈ ivC l ∨ c ∈ ivC l':=by
          intro l l'
          induction l with
          | nil=>intro c hc; exact .inr hc
          | cons x l ih =>
            intro c hc
            obtain ⟨x0,x1,x2⟩:=x
            simp only [List.cons_append,ivC,List.mem_cons] at hc ⊢
            rcases hc with h | h | h
            · exact .inl (.inl h)
            · exact .inl (.inr (.inl h))
            · exact (ih c h).imp (fun h=>.inr (.inr h)) id
        exact (ivc _ _ c hc).elim (oq.1 c) (lq.1 c)
      · unfold fcFw at hc
        rw [cond_true] at hc
        simp only [lApp_eq,List.mem_append,List.mem_cons] at hc
        rcases hc with hc | hc | hc | hc
        · exact oq.2 c hc
        · exact lq.2 c hc
        · subst hc
          by_cases e:planZ ρ L (2 * i) + planZ ρ L (2 * i + 1)=ρ.iv (33 + 4 * i)
          · rw [decide_eq_true e,cond_true,BE.t_eql,wk,IE.den_var,iv _ (by omega)]; exact e
          · rw [decide_eq_false e,cond_false,BE.t_lss,wk,IE.den_var,iv _ (by omega)]; omega
        · exact hfc c hc
    by_cases hlt:firstT f L < L
    · have hb:Nat.blt (firstT f L) L=true:=Nat.ble_eq_true_of_le hlt
      have ne:∀ n,firstT f L ≠ n→Nat.beq (firstT f L) n=false:=fun n hn=>by
        cases hb:Nat.beq (firstT f L) n with
        | false=>rfl
        | true=>exact absurd (beq_t.1 hb) hn
      refine mk (firstT f L) (by omega) (by unfold nO; rw [hb]; rfl) (fun h=>absurd h (by omega)) fun c hc=>?_
      rw [ne L (by omega),ne (L + 1) (by omega)] at hc
      exact (List.not_mem_nil hc).elim
    · have eL:firstT f L=L:=by omega
      rw [eL] at n2
      have hE:=allE n2
      obtain ⟨b1,b2⟩:=told.best _ (listF_len _ _ _) hE
      have sL:=sumE_den r5 L h5
      have sO:(sumE 800 L).den ρ'=(total (listF (fun j=>ρ'.iv (800 + j)) L 0):Nat):=by
        have:∀ n,n≤L→(sumE 800 n).den ρ'=(total (listF (fun j=>ρ'.iv (800 + j)) n 0):Nat)∧total (listF (fun j=>ρ'.iv (800 + j)) n 0)≤10 * n:=by
          intro n
          induction n with
          | zero=>intro _; exact ⟨rfl,Nat.le_refl _⟩
          | succ n ih =>
            intro hn
            obtain ⟨e1,e2⟩:=ih (by omega)
            have a:=o5 (2 * n) (by omega)
            have b:=o5 (2 * n + 1) (by omega)
            have e:(sumE 800 (n + 1)).den ρ'=IntKind.i64.wrap ((sumE 800 n).den ρ' + IntKind.i64.wrap (ρ'.iv (800 + 2 * n) + ρ'.iv (800 + 2 * n + 1))):=rfl
            rw [total_snoc,Nat.zero_add]
            rw [show 800 + (2 * n + 1)=800 + 2 * n + 1 by omega] at b
            show (sumE 800 (n + 1)).den ρ'=((total (listF (fun j=>ρ'.iv (800 + j)) n 0) + ((ρ'.iv (800 + 2 * n)).toNat + (ρ'.iv (800 + (2 * n + 1))).toNat):Nat):Int)∧total (listF (fun j=>ρ'.iv (800 + j)) n 0) + ((ρ'.iv (800 + 2 * n)).toNat + (ρ'.iv (800 + (2 * n + 1))).toNat)≤10 * (n + 1)
            rw [show 800 + (2 * n + 1)=800 + 2 * n + 1 by omega,e,e1,wr (ρ'.iv (800 + 2 * n) + ρ'.iv (800 + 2 * n + 1)) (by omega),wr _ (by omega)]
            constructor <;> omega
        exact (this L (Nat.le_refl L)).1
      have nLe:nO L L=firstT f L:=by
        rw [eL]; unfold nO
        have:Nat.blt L L=false:=by
          cases hb:Nat.blt L L with
          | false=>rfl
          | true=>have:=Nat.le_of_ble_eq_true hb; omega
        rw [this]; rfl
      have nL1:nO L (L + 1)=firstT f L:=by
        rw [eL]; unfold nO
        have:Nat.blt (L + 1) L=false:=by
          cases hb:Nat.blt (L + 1) L with
          | false=>rfl
          | true=>have:=Nat.le_of_ble_eq_true hb; omega
        rw [this]; rfl
      rw [tL] at sL
      rw [tO] at sO
      by_cases hs:total (toldL ρ L 0 (ρ.iv 0) (ρ.iv 2)) < total (listF (othF ρ) L 0)
      · refine mk L (by omega) nLe (fun h=>absurd h (by omega)) fun c hc=>?_
        rw [Nat.beq_refl,cond_true] at hc
        rcases List.mem_singleton.1 hc with rfl
        rw [BE.t_lss,sL.1,sO]; omega
      · refine mk (L + 1) (by omega) nL1 (fun _=>?_) fun c hc=>?_
        · have nl : ¬ lexL (listF (othF ρ) L 0) (listF (planZ ρ L) L 0) := fun h => by
            rw [lz,← tl] at h
            have:=b2 h; omega
          obtain ⟨q,_,q2,q3,q4⟩:=lexL_first (othF_nn ρ) pn L 0 nl
          refine ⟨q,by omega,⟨fun j hj=>?_,fun j hj=>?_,fun hq=>?_⟩⟩
          · have a:=o5 j hj
            have b:=r5 j (by omega)
            exact ⟨a.1,a.2,b.1,b.2⟩
          · rw [nmO,nmL j (by omega)]; exact q3 j (Nat.zero_le _) hj
          · rw [nmO,nmL q (by omega)]; exact q4 (by omega)
        · have hne : Nat.beq (L + 1) L = false := by
            cases hb:Nat.beq (L + 1) L with
            | false=>rfl
            | true=>have:=beq_t.1 hb; omega
          rw [hne,cond_false,Nat.beq_refl,cond_true] at hc
          rcases List.mem_singleton.1 hc with rfl
          rw [BE.t_eql,sO,sL.1]; omega
  · -- none is told: none is enough
    have hf:enD ρ L=false:=by simpa using hen
    have hlt:firstT f L < L:=by
      by_cases h:firstT f L < L
      · exact h
      · have eL:firstT f L=L:=by omega
        rw [eL] at n2
        exact absurd ((outD_iff L 0 _ _).2 ⟨_,listF_len _ _ _,allE n2⟩) hen
    have P0:OkPl L false (rhoR IE.var 710 ρ'):=by
      have A0:AgreeL ρ (rhoR IE.var 710 ρ'):=⟨fun j hj=>by rw [rhoR_iv hj]; exact (iv j (by omega)).symm,fun _ _=>rfl⟩
      exact ⟨cs_agree h5 A0.iv hcs,walks_cs (cs_agree h5 A0.iv hcs),(enD_agreeL A0 (by omega)).symm.trans hf,fun h=>by cases h⟩
    have hb:Nat.blt (firstT f L) L=true:=Nat.ble_eq_true_of_le hlt
    refine ⟨false,0,firstT f L,false,ρ',(fun _=>⟨rfl,rfl,hlt⟩),(fun h=>by cases h),⟨cs',pk',to',(fun h=>by cases h),P0,foK _ (by unfold nO; rw [hb]; rfl),(fun h=>by cases h),(fun h=>by cases h),(fun h=>by cases h),(fun h=>by cases h),(fun c hc=>?_),fun c hc=>?_⟩,fun j hj=>(iv j hj).symm,rfl,rfl⟩
    · unfold qFw at hc
      rw [cond_false,lApp_eq,List.append_nil] at hc
      exact oq.1 c hc
    · unfold fcFw at hc
      rw [cond_false,lApp_eq,List.append_nil] at hc
      exact oq.2 c hc
end Go.Sx
