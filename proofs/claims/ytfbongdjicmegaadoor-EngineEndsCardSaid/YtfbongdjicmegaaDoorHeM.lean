/- HeM -/
import Derived.Test.YtfbongdjicmegaaDoorLeK
import Derived.Test.YtfbongdjicmegaaDoorLeK5
import Derived.Test.YtfbongdjicmegaaDoorHaE
import Derived.Test.YtfbongdjicmegaaDoorEvH
import Derived.Test.YtfbongdjicmegaaDoorDrB
namespace Go.Sx
open Go.RowKit Go.Proofs
set_option maxRecDepth 100000
theorem ckLe_at {L k p:Nat} {arr:Bool} (h1:1≤L) (h5:L≤5) (hk:k < L) (hp:p≤k + 1):ckLe arr L k p=true:=by
  have h:ckLes L=true:=by
    have hL:L=1 ∨ L=2 ∨ L=3 ∨ L=4 ∨ L=5:=by omega
    rcases hL with rfl | rfl | rfl | rfl | rfl
    · exact av ckLe3 1 (by simp)
    · exact av ckLe3 2 (by simp)
    · exact av ckLe3 3 (by simp)
    · exact ckLe4
    · exact ckLe5
  have:=av (av h k (bP hk)) p (bP (by omega))
  simp only [Bool.and_eq_true] at this
  cases arr
  · exact this.2
  · exact this.1
theorem aE_denS {ρ:Rho} {L:Nat} (H:OkS L ρ):∀ k,k≤L→(aE 0 k).den ρ=(crs ρ (fun j=>ρ.iv (540 + j)) k).1∧(aE 1 k).den ρ=(crs ρ (fun j=>ρ.iv (540 + j)) k).2
  | 0,_=>⟨rfl,rfl⟩
  | k + 1,hk=>by
    obtain ⟨h1,h2⟩:=aE_denS H k (by omega)
    constructor
    · show FI ρ.fi 9300 k ((aE 0 k).den ρ) (ρ.iv (540 + 2 * k + 0))=aY ρ k 0 _ (ρ.iv (540 + 2 * k))
      rw [h1]; exact (H k (by omega) _ _).1
    · show FI ρ.fi 9301 k ((aE 1 k).den ρ) (ρ.iv (540 + 2 * k + 1))=aY ρ k 1 _ (ρ.iv (540 + (2 * k + 1)))
      rw [h2]; exact (H k (by omega) _ _).2.1
theorem aH_denS {ρ:Rho} {L:Nat} (H:OkSH L ρ):∀ k,k≤L→(aH 0 k).den ρ=(fm ρ (fun j=>ρ.iv (540 + j)) k).1∧(aH 1 k).den ρ=(fm ρ (fun j=>ρ.iv (540 + j)) k).2
  | 0,_=>⟨rfl,rfl⟩
  | k + 1,hk=>by
    obtain ⟨h1,h2⟩:=aH_denS H k (by omega)
    constructor
    · show FI ρ.fi 9310 k ((aH 0 k).den ρ) (ρ.iv (540 + 2 * k + 0))=dQ ρ k 0 _ (ρ.iv (540 + 2 * k))
      rw [h1]; exact (H k (by omega) _ _).1
    · show FI ρ.fi 9311 k ((aH 1 k).den ρ) (ρ.iv (540 + 2 * k + 1))=dQ ρ k 1 _ (ρ.iv (540 + (2 * k + 1)))
      rw [h2]; exact (H k (by omega) _ _).2.1
theorem lackE_den {ρ:Rho} {L j:Nat} (H:OkS L ρ) (hj:j < L):(lackE 0 j).den ρ=bY ρ j 0 (crs ρ (fun j=>ρ.iv (540 + j)) j).1 (ρ.iv (540 + 2 * j))∧(lackE 1 j).den ρ=bY ρ j 1 (crs ρ (fun j=>ρ.iv (540 + j)) j).2 (ρ.iv (540 + (2 * j + 1))):=by
  obtain ⟨h1,h2⟩:=aE_denS H j (by omega)
  constructor
  · show FI ρ.fi 9302 j ((aE 0 j).den ρ) (ρ.iv (540 + 2 * j + 0))=_
    rw [h1]; exact (H j hj _ _).2.2.1
  · show FI ρ.fi 9303 j ((aE 1 j).den ρ) (ρ.iv (540 + 2 * j + 1))=_
    rw [h2]; exact (H j hj _ _).2.2.2
theorem fcLe_ok {ρ:Rho} {L:Nat} (H:OkS L ρ):∀ n j,j + n≤L→(∀ i,j≤i→i < j + n→cV ρ (fun j=>ρ.iv (540 + j)) i)→∀ c ∈ fcLe n j,c.den ρ=true
  | 0,_,_,_,c,hc=>(List.not_mem_nil hc).elim
  | n + 1,j,hn,h,c,hc=>by
    obtain ⟨e1,e2⟩:=lackE_den H (show j < L by omega)
    obtain ⟨k1,k2⟩:=h j (Nat.le_refl j) (by omega)
    simp only [fcLe,List.mem_cons] at hc
    rcases hc with rfl | rfl | hc
    · rw [BE.t_eql,e1,IE.den_lit]; exact k1
    · rw [BE.t_eql,e2,IE.den_lit]; exact k2
    · exact fcLe_ok H n (j + 1) (by omega) (fun i h1 h2=>h i (by omega) (by omega)) c hc
theorem orcLe_ok {L k p:Nat} (h1:1≤L) (h5:L≤5):∀ f args h t,orcLe L f args h=some t→CallOk (aQ fun ρ _=>OkLe L k p ρ) f args h t:=by
  intro f args h t e
  unfold orcLe at e
  cases h42:Nat.beq f 42 with
  | true=>rw [h42,cond_true] at e; have:=aq.1 h42; subst this; exact so_any (fun ρ b k=>k.cs) (vals_at h1 h5).1 e
  | false =>
    rw [h42,cond_false] at e
    obtain ⟨h71,e⟩:=ak e
    have:=aq.1 h71; subst this
    split at e
    · obtain ⟨_,e⟩:=ak e
      obtain ⟨hi,e⟩:=ak e
      have hi:=Nat.le_of_ble_eq_true hi
      rcases dy e with e | e
      · exact rowGo_ok (step_any h1 h5 hi fun ρ m k=>k.s) rfl rfl e
      · exact rowGo_ok (stepH_any h1 h5 hi fun ρ m k=>k.sh) rfl rfl e
    · cases e
theorem left19 {L k p:Nat} {arr:Bool} (h1:1≤L) (h5:L≤5) (hk:k < L) (hp:p≤k + 1):CallOk (aQ fun ρ _=>OkLe L k p ρ) 19 (argsLe arr 1002 L k) (ah 2000 (vF L)) (.ret (resLe k p,ah 2000 (vF L))):=by
  have hck:=ckLe_at (arr:=arr) h1 h5 hk hp
  unfold ckLe at hck
  simp only [Bool.and_eq_true] at hck
  obtain ⟨hv,hck⟩:=hck
  have B:b8 (aQ fun ρ _=>OkLe L k p ρ) Sx.Tryd.tt.get (tbLe L):=Tryd.tab (orcLe L) (orcLe_ok h1 h5) 2000
  have base:=bL B 60 19 (argsLe arr 1002 L k) (ah 2000 (vF L))
  have up:∀ g ∈ vF L,(ah 2000 (vF L)).get g.1=some g.2:=aC 2000 _ 0 rfl
  have fr:=base.frame (n:=2000) (l:=vF L) (by omega) (by cases arr <;> rfl) hv (fun g hg=>⟨g.2,up g hg,.refl _⟩) (by rw [aw]; exact Nat.le_refl _) (fun _=>[])
  refine CallOk.read (p0:=aQ fun ρ _=>OkLe L k p ρ) (p:=aQ fun ρ _=>OkLe L k p ρ) rfl fr fun ρ b hb P hP=>⟨ρ,hb,SameL.refl _ _,⟨rfl,fun j o g=>⟨o,g,SameA.refl o⟩⟩,?_⟩
  obtain ⟨w,hw,_⟩:=hb
  have hw:OkLe L k p ρ:=hw
  obtain ⟨q1,q2⟩:=qPl_ok (nm:=540) hw.cs (fun k hk=>by
    have:=hw.f.pb k hk
    rw [show 540 + 2 * k + 1=540 + (2 * k + 1) by omega]; exact this) L 0 (by omega)
  have q3:∀ c ∈ fcLes k p,c.den ρ=true:=fun c hc=>by
    unfold fcLes at hc
    cases hb:Nat.ble p k with
    | true =>
      have hpk:=Nat.le_of_ble_eq_true hb
      rw [hb,cond_true] at hc
      rcases List.mem_cons.1 hc with rfl | hc
      · obtain ⟨e1,e2⟩:=lackE_den hw.s (show p < L by omega)
        have hn:=hw.f.st hpk
        unfold cV at hn
        have hn:¬ ((lackE 0 p).den ρ=0∧(lackE 1 p).den ρ=0):=by rw [e1,e2]; exact hn
        unfold lessC
        simp only [BE.den,aS,IE.den,Bool.and_true,Bool.not_eq_true']
        apply Bool.eq_false_iff.2
        intro hc
        simp only [Bool.and_eq_true,beq_iff_eq] at hc
        exact hn hc
      · exact fcLe_ok hw.s p 0 (by omega) (fun i _ hi=>hw.f.go i (by omega) (by omega)) c hc
    | false =>
      have hpk:¬ p≤k:=fun h=>by rw [Nat.ble_eq_true_of_le h] at hb; cases hb
      rw [hb,cond_false] at hc
      exact fcLe_ok hw.s (k + 1) 0 (by omega) (fun i _ hi=>hw.f.go i (by omega) (by omega)) c hc
  refine dY (ρ:=ρ) (fun K r hK hr=>?_) _ _ (fw q1 fun c hc=>?_) hck
  · obtain ⟨s1,s2⟩:=fd (p0:=aQ fun ρ _=>OkLe L k p ρ) (p:=aQ fun ρ _=>OkLe L k p ρ) rfl rfl (ρ:=ρ) hr
    exact ⟨_,hP,s1,s2⟩
  · rw [aI] at hc
    exact (List.mem_append.1 hc).elim (q2 c) (q3 c)
theorem takH_agreeL {ρ ρ':Rho} (A:cD ρ ρ') {i r:Nat} (hi:i < 7) (hr:r < 2):takH ρ i r=takH ρ' i r:=by
  unfold takH
  rw [A.iv (30 + 4 * i) (by omega),A.bv (32 + 4 * i) (by omega)]
  split
  · rw [A.iv (10 + 4 * r) (by omega)]
  · rw [A.iv (8 + 4 * r) (by omega)]
theorem hasH_agreeL {ρ ρ':Rho} (A:cD ρ ρ') {r:Nat} (hr:r < 2) (a w:Int):cA ρ r a w=cA ρ' r a w:=by
  unfold cA; rw [A.iv (6 + r) (by omega),A.iv (4 + r) (by omega)]
theorem leftH_agreeL {ρ ρ':Rho} (A:cD ρ ρ') {i r:Nat} (hi:i < 7) (hr:r < 2) (a w:Int):dQ ρ i r a w=dQ ρ' i r a w:=by
  unfold dQ; rw [takH_agreeL A hi hr,hasH_agreeL A hr]
theorem crsH_agree {ρ ρ':Rho} (A:cD ρ ρ') (pl:Nat→Int):∀ k,k≤6→fm ρ pl k=fm ρ' pl k
  | 0,_=>by simp only [fm,A.iv 1 (by omega),A.iv 3 (by omega)]
  | k + 1,h=>by
    simp only [fm,crsH_agree A pl k (by omega),leftH_agreeL A (show k < 7 by omega) (show 0 < 2 by omega),leftH_agreeL A (show k < 7 by omega) (show 1 < 2 by omega)]
theorem lackN_agree {ρ ρ':Rho} (A:cD ρ ρ') (pl:Nat→Int) {j:Nat} (h:j≤5):cV ρ pl j ↔ cV ρ' pl j:=by
  unfold cV
  rw [fA A pl j (by omega),cd A (show j < 7 by omega) (show 0 < 2 by omega),cd A (show j < 7 by omega) (show 1 < 2 by omega)]
theorem leOk_agree {ρ ρ':Rho} (A:cD ρ ρ') {L k p:Nat} (h5:L≤5) (hk:k < L) {pl:Nat→Int} (h:LeOk L k p pl ρ):LeOk L k p pl ρ' :=
  ⟨fun j hj=>by rw [← A.iv (33 + 4 * j) (by omega)]; exact h.pb j hj,fun j h1 h2=>(lackN_agree A pl (by omega)).1 (h.go j h1 h2),fun hp hn=>h.st hp ((lackN_agree A pl (by omega)).2 hn)⟩
noncomputable def rhoH (ρ:Rho):Rho:=⟨ρ.iv,ρ.bv,fun f p a b=>if f=9310 then dQ ρ p.toNat 0 a b else if f=9311 then dQ ρ p.toNat 1 a b else if f=9312 then lackH ρ p.toNat 0 a b else if f=9313 then lackH ρ p.toNat 1 a b else ρ.fi f p a b,ρ.fb,ρ.ov⟩
theorem rhoH_H (ρ:Rho) (i:Nat) (a w:Int):FI (rhoH ρ).fi 9310 i a w=dQ ρ i 0 a w∧FI (rhoH ρ).fi 9311 i a w=dQ ρ i 1 a w∧FI (rhoH ρ).fi 9312 i a w=lackH ρ i 0 a w∧FI (rhoH ρ).fi 9313 i a w=lackH ρ i 1 a w:=by
  simp [FI,rhoH]
theorem rhoH_E (ρ:Rho) (i:Nat) (a w:Int):FI (rhoH ρ).fi 9300 i a w=FI ρ.fi 9300 i a w∧FI (rhoH ρ).fi 9301 i a w=FI ρ.fi 9301 i a w∧FI (rhoH ρ).fi 9302 i a w=FI ρ.fi 9302 i a w∧FI (rhoH ρ).fi 9303 i a w=FI ρ.fi 9303 i a w:=by
  simp [FI,rhoH]
noncomputable def resNm (nm k p:Nat):AV:=cond (Nat.ble p k) standsV (.tup [.agg [vi (nm + 4 * k),vi (nm + 4 * k + 1)],.agg [vi (nm + 4 * k + 2),vi (nm + 4 * k + 3)],li 0])
noncomputable def le19 (pE:Nat→IE) (arr:Bool) (pb nm L k p:Nat) (args:List AV) (h:Heap):Option (T (AV × Heap)) :=
  cond (and (dg args (argsLe arr pb L k)) (and (fe glC (h.get 0)) (and (fe (bf L 30) (h.get 1001)) (and (fe (ff pE L 0) (h.get pb)) (Nat.ble 2000 h.next))))) (some (.ret (resNm nm k p,h))) none
def NmOk (nm k:Nat) (pl:Nat→Int) (ρ:Rho):Prop:=ρ.iv (nm + 4 * k)=(crs ρ pl (k + 1)).1∧ρ.iv (nm + 4 * k + 1)=(fm ρ pl (k + 1)).1∧ρ.iv (nm + 4 * k + 2)=(crs ρ pl (k + 1)).2∧ρ.iv (nm + 4 * k + 3)=(fm ρ pl (k + 1)).2
theorem le19_ok {ok : Rho → (Nat → Obj → Prop) → Prop} {pE : Nat → IE} {arr : Bool} {pb nm L k p : Nat} (h1 : 1 ≤ L) (h5 : L ≤ 5) (hkL : k < L) (hp : p ≤ k + 1)
    (hok:∀ ρ m,ok ρ m→(∀ d ∈ csV L,d.den ρ=true)∧LeOk L k p (fun j=>(pE j).den ρ) ρ∧(k < p→NmOk nm k (fun j=>(pE j).den ρ) ρ)) {args:List AV} {h:Heap} {t:T (AV × Heap)} (e:le19 pE arr pb nm L k p args h=some t):CallOk (aQ ok) 19 args h t:=by
  unfold le19 at e
  obtain ⟨hk,k1⟩:=ak e
  clear e
  simp only [Bool.and_eq_true] at hk
  obtain ⟨g1,g2,g3,g4,_⟩:=hk
  obtain rfl:=aZ _ _ g1
  obtain rfl:=Option.some.inj k1
  have hc1:CallOk (aQ ok) 19 (argsLe arr 1002 L k) (ah 2000 (vFX pE L)) (.ret (resNm nm k p,ah 2000 (vFX pE L))):=by
    refine CallOk.read (p0:=aQ fun ρ _=>OkLe L k p ρ) (p:=aQ ok) rfl (left19 (arr:=arr) h1 h5 hkL hp) fun ρ b hb Q hQ=>?_
    obtain ⟨w,hw,hbw⟩:=hb
    obtain ⟨o1,o2,o3⟩:=hok ρ w hw
    let ρ1:Rho:=⟨fun j=>if j < 60 then ρ.iv j else (pE (j - 540)).den ρ,ρ.bv,ρ.fi,ρ.fb,ρ.ov⟩
    let ρ':=rhoH (fy ρ1 L)
    have iv:∀ j,j < 60→ρ.iv j=ρ'.iv j:=fun j hj=>(if_pos hj).symm
    have R:Reads IE.var ρ ρ':=⟨iv,fun _ _=>rfl⟩
    have A:cD ρ ρ':=⟨iv,fun _ _=>rfl⟩
    have A1:cD ρ1 ρ':=⟨fun _ _=>rfl,fun _ _=>rfl⟩
    have nm':∀ j,ρ'.iv (540 + j)=(pE j).den ρ:=fun j=>by
      show (if 540 + j < 60 then _ else (pE (540 + j - 540)).den ρ)=_
      rw [if_neg (by omega),Nat.add_sub_cancel_left]
    have hpl:(fun j=>ρ'.iv (540 + j))=fun j=>(pE j).den ρ:=funext nm'
    have hS:OkS L ρ':=fun i hi a w=>by
      have q:=rhoH_E (fy ρ1 L) i a w
      have s:=step_E ρ1 L i a w
      have l:=fun r (hr:r < 2)=>cL A1 (i:=i) (r:=r) (by omega) hr a w
      have q':=fun r (hr:r < 2)=>cd A1 (i:=i) (r:=r) (by omega) hr a w
      exact ⟨q.1.trans (s.1.trans (l 0 (by omega))),q.2.1.trans (s.2.1.trans (l 1 (by omega))),q.2.2.1.trans (s.2.2.1.trans (q' 0 (by omega))),q.2.2.2.trans (s.2.2.2.trans (q' 1 (by omega)))⟩
    have hH:OkSH L ρ':=fun i hi a w=>rhoH_H (fy ρ1 L) i a w
    have hf:OkLe L k p ρ':=⟨eY h5 iv o1,hS,hH,by rw [hpl]; exact leOk_agree A h5 hkL o2⟩
    have rows:=eH R h5
    have cells:SameL ρ (ff pE L 0) ρ' (planN L 540):=fW L 0 fun j _ _=>(nm' j).symm
    have atX:∀ g ∈ vFX pE L,(ah 2000 (vFX pE L)).get g.1=some g.2:=aC 2000 _ 0 rfl
    have atF:∀ g ∈ vF L,(ah 2000 (vF L)).get g.1=some g.2:=aC 2000 _ 0 rfl
    refine ⟨ρ',⟨w,hf,hbw⟩,?_,⟨rfl,fun b o hg=>?_⟩,(resNm nm k p,ah 2000 (vFX pE L)),hQ,?_,⟨rfl,fun b o hg=>?_⟩⟩
    · exact SameL.cons (eI R _ _ _ _) (SameL.cons (by cases arr <;> exact fun _ _ _ _ _ _=>rfl) (fun _ _ _ _ _ _=>rfl))
    · have:=am _ _ _ _ hg
      simp only [vF,List.mem_cons,List.not_mem_nil,or_false] at this
      rcases this with h | h | h
      · cases h; exact ⟨_,atX (0,glO) (by simp [vFX]),SameA.cells rfl (fun _ _ _ _ _ _=>rfl)⟩
      · cases h; exact ⟨_,atX (1001,.cells (bf L 30) 0 false false) (by simp [vFX]),SameA.cells rfl rows⟩
      · cases h; exact ⟨_,atX (1002,.cells (ff pE L 0) 0 false false) (by simp [vFX]),SameA.cells rfl cells⟩
    · unfold resLe resNm
      cases hb:Nat.ble p k with
      | true=>exact fun _ _ _ _ _ _=>rfl
      | false =>
        have hpk:k < p:=by
          by_cases h:p≤k
          · rw [Nat.ble_eq_true_of_le h] at hb; cases hb
          · omega
        obtain ⟨n0,n1,n2,n3⟩:=o3 hpk
        obtain ⟨d0,d1⟩:=aE_denS hS (k + 1) (by omega)
        obtain ⟨d2,d3⟩:=aH_denS hH (k + 1) (by omega)
        rw [hpl,← fA A _ _ (by omega)] at d0 d1
        rw [hpl,← crsH_agree A _ _ (by omega)] at d2 d3
        exact SameV.tupl (SameL.cons (SameV.agg (SameL.cons (SameV.int (d0.trans n0.symm)) (SameL.cons (SameV.int (d2.trans n1.symm)) SameL.nil))) (SameL.cons (SameV.agg (SameL.cons (SameV.int (d1.trans n2.symm)) (SameL.cons (SameV.int (d3.trans n3.symm)) SameL.nil))) (fun _ _ _ _ _ _=>rfl)))
    · have:=am _ _ _ _ hg
      simp only [vFX,List.mem_cons,List.not_mem_nil,or_false] at this
      rcases this with h | h | h
      · cases h; exact ⟨_,atF (0,glO) (by simp [vF]),SameA.cells rfl (fun _ _ _ _ _ _=>rfl)⟩
      · cases h; exact ⟨_,atF (1001,.cells (bf L 30) 0 false false) (by simp [vF]),SameA.cells rfl rows.symm⟩
      · cases h; exact ⟨_,atF (1002,.cells (planN L 540) 0 false false) (by simp [vF]),SameA.cells rfl cells.symm⟩
  refine hc1.moved (a:=1002) (c:=pb) (by omega) (by omega) (by unfold resNm; cases Nat.ble p k <;> rfl) (fun g hg=>?_) (fun g hg=>?_) fun E=>?_
  · simp only [vFX,List.mem_cons,List.not_mem_nil,or_false] at hg
    rcases hg with rfl | rfl | rfl
    · exact ⟨by show 0 < 2000; omega,rfl,rfl⟩
    · exact ⟨by show 1001 < 2000; omega,rfl,rowsV_ids L 30⟩
    · exact ⟨by show 1002 < 2000; omega,rfl,io pE 0 L 0⟩
  · simp only [vFX,List.mem_cons,List.not_mem_nil,or_false] at hg
    rcases hg with rfl | rfl | rfl
    · exact bH g2
    · exact bH g3
    · exact bH g4
  · have e1 : ad (E.mv 1002 pb 2000) (eG (.sliceX 1001 4 0 L)) = ad E (eG (.sliceX 1001 4 0 L)) := by
      refine mv_vx IE.var ?_ 22 0
      simp only [ad,af,Env.mv,mvN,show (1001:Nat) < 2000 by omega,if_true,show ¬ (1001:Nat)=1002 by omega,if_false]
    have e2:af (E.mv 1002 pb 2000) (plA arr 1002 L)=af E (plA arr pb L):=by
      cases arr <;> simp only [plA,cond_true,cond_false,af,Env.mv,mvN,show (1002:Nat) < 2000 by omega,if_true]
    simp only [argsLe,ad,af,e1,e2]
    rfl
end Go.Sx
namespace Go.Sx
open Go.RowKit Go.Proofs
set_option maxRecDepth 100000
theorem wr_in {x:Int} (h:-9223372036854775808≤x∧x≤9223372036854775807):wr x=x:=IntWalk.i64_in x h
theorem mul_in {a b h m:Int} (ha:0≤a∧a≤m) (hb:0≤b∧b≤h) (_hh:0≤h):0≤a * b∧a * b≤m * h :=
  ⟨Int.mul_nonneg ha.1 hb.1,Int.le_trans (Int.mul_le_mul_of_nonneg_right ha.2 hb.1) (Int.mul_le_mul_of_nonneg_left hb.2 (by omega))⟩
theorem gN (j:Nat) (h:Int):((j + 1:Nat):Int) * h=(j:Int) * h + h:=by
  rw [show ((j + 1:Nat):Int)=(j:Int) + 1 by omega,Int.add_mul,Int.one_mul]
section
variable {ρ:Rho} {L:Nat} (cs:∀ d ∈ csV L,d.den ρ=true)
include cs
theorem rate_in {kd:Nat} (hkd:kd < 2):(0≤ρ.iv (8 + 2 * kd)∧ρ.iv (8 + 2 * kd)≤ρ.iv (9 + 2 * kd)∧ρ.iv (9 + 2 * kd)≤3)∧(0≤ρ.iv (12 + 2 * kd)∧ρ.iv (12 + 2 * kd)≤ρ.iv (13 + 2 * kd)∧ρ.iv (13 + 2 * kd)≤3):=by
  have hb:=(fg.1 cs).1
  have b0:=hb.b0; have b1:=hb.b1; have d0:=hb.d0; have d1:=hb.d1
  have:kd=0 ∨ kd=1:=by omega
  rcases this with rfl | rfl
  · exact ⟨b0,d0⟩
  · exact ⟨b1,d1⟩
theorem mins_in {k:Nat} (hk:k < L):1≤ρ.iv (30 + 4 * k)∧ρ.iv (30 + 4 * k)≤ρ.iv (31 + 4 * k)∧ρ.iv (31 + 4 * k)≤60:=by
  have:=((fg.1 cs).2 k hk).min
  rw [show 30 + 4 * k + 1=31 + 4 * k by omega] at this
  exact this
theorem tak_val {k:Nat} (hk:k < L):eT ρ k 0=ρ.iv (31 + 4 * k) * ρ.iv (9 + 2 * kdR ρ k)∧eT ρ k 1=ρ.iv (31 + 4 * k) * ρ.iv (13 + 2 * kdR ρ k)∧takH ρ k 0=ρ.iv (30 + 4 * k) * ρ.iv (8 + 2 * kdR ρ k)∧takH ρ k 1=ρ.iv (30 + 4 * k) * ρ.iv (12 + 2 * kdR ρ k):=by
  have m:=mins_in cs hk
  have hr:=rate_in cs (gM ρ k)
  have w:∀ a b:Int,(0≤a∧a≤60)→(0≤b∧b≤3)→IntKind.i64.wrap (a * b)=a * b:=fun a b ha hb=>by
    have:=mul_in ha hb (by omega)
    exact IntWalk.i64_in _ (by omega)
  have a1:=w (ρ.iv (31 + 4 * k)) (ρ.iv (9 + 2 * kdR ρ k)) (by omega) (by omega)
  have a2:=w (ρ.iv (31 + 4 * k)) (ρ.iv (13 + 2 * kdR ρ k)) (by omega) (by omega)
  have a3:=w (ρ.iv (30 + 4 * k)) (ρ.iv (8 + 2 * kdR ρ k)) (by omega) (by omega)
  have a4:=w (ρ.iv (30 + 4 * k)) (ρ.iv (12 + 2 * kdR ρ k)) (by omega) (by omega)
  unfold eT takH
  by_cases h:ρ.bv (32 + 4 * k)=true
  · have e:kdR ρ k=1:=by unfold kdR; rw [if_pos h]
    rw [e] at a1 a2 a3 a4 ⊢
    simp only [if_pos h]
    exact ⟨a1,a2,a3,a4⟩
  · have e:kdR ρ k=0:=by unfold kdR; rw [if_neg h]
    rw [e] at a1 a2 a3 a4 ⊢
    simp only [if_neg h]
    exact ⟨a1,a2,a3,a4⟩
variable (D:DrIn ρ)
include D
theorem burn_in {kd:Nat} (hkd:kd < 2) (a:Int):(ρ.iv (8 + 2 * kd)≤fX ρ kd a∧fX ρ kd a≤ρ.iv (9 + 2 * kd))∧(ρ.iv (12 + 2 * kd)≤b9 ρ kd a∧b9 ρ kd a≤ρ.iv (13 + 2 * kd)):=by
  have hr:=rate_in cs hkd
  exact ⟨D _ _ _ (by omega) (by omega) (by omega),D _ _ _ (by omega) (by omega) (by omega)⟩
theorem min_inv {k kd : Nat} (hkd : kd < 2) {s0 : Mn} (h0 : 0 ≤ s0.c ∧ s0.c ≤ 99) (h1 : 0 ≤ s0.w ∧ s0.w ≤ 99) : ∀ j, (∀ i, i < j → ¬ bM ρ kd (stM ρ k kd s0 i)) →
    (0≤(stM ρ k kd s0 j).c∧s0.c - j * ρ.iv (9 + 2 * kd)≤(stM ρ k kd s0 j).c∧(stM ρ k kd s0 j).c≤s0.c - j * ρ.iv (8 + 2 * kd)) ∧
    (0≤(stM ρ k kd s0 j).w∧s0.w - j * ρ.iv (13 + 2 * kd)≤(stM ρ k kd s0 j).w∧(stM ρ k kd s0 j).w≤s0.w - j * ρ.iv (12 + 2 * kd))
  | 0,_=>by
    show (0≤s0.c∧s0.c - (0:Int) * _≤s0.c∧s0.c≤s0.c - (0:Int) * _)∧(0≤s0.w∧s0.w - (0:Int) * _≤s0.w∧s0.w≤s0.w - (0:Int) * _)
    simp only [Int.zero_mul]; omega
  | j + 1,hj=>by
    obtain ⟨⟨c1,c2,c3⟩,w1,w2,w3⟩:=min_inv hkd h0 h1 j fun i hi=>hj i (by omega)
    have hn:=hj j (by omega)
    have hb:=burn_in cs D hkd (stM ρ k kd s0 j).a
    have hr:=rate_in cs hkd
    have p1:=Int.mul_nonneg (show (0:Int)≤j by omega) hr.1.1
    have p2:=Int.mul_nonneg (show (0:Int)≤j by omega) hr.2.1
    unfold bM at hn
    simp only [not_or,Int.not_lt] at hn
    have e1:(stM ρ k kd s0 (j + 1)).c=wr ((stM ρ k kd s0 j).c - fX ρ kd (stM ρ k kd s0 j).a):=rfl
    have e2:(stM ρ k kd s0 (j + 1)).w=wr ((stM ρ k kd s0 j).w - b9 ρ kd (stM ρ k kd s0 j).a):=rfl
    rw [e1,e2,wr_in (by omega),wr_in (by omega),gN,gN,gN,gN]
    omega
theorem part_end {pl : Nat → Int} {k : Nat} (hk : k < L) {S : Mn} (h0 : 0 ≤ (st0 ρ pl k S).c ∧ (st0 ρ pl k S).c ≤ 99) (h1 : 0 ≤ (st0 ρ pl k S).w ∧ (st0 ρ pl k S).w ≤ 99) :
    (¬ jS ρ pl k S < (nmM ρ k S).toNat →
      (0≤(endM ρ pl k S).c∧(st0 ρ pl k S).c - eT ρ k 0≤(endM ρ pl k S).c∧(endM ρ pl k S).c≤(st0 ρ pl k S).c - takH ρ k 0) ∧
      (0≤(endM ρ pl k S).w∧(st0 ρ pl k S).w - eT ρ k 1≤(endM ρ pl k S).w∧(endM ρ pl k S).w≤(st0 ρ pl k S).w - takH ρ k 1)) ∧
    (jS ρ pl k S < (nmM ρ k S).toNat→(st0 ρ pl k S).c < eT ρ k 0 ∨ (st0 ρ pl k S).w < eT ρ k 1):=by
  obtain ⟨t0,t1,t2,t3⟩:=tak_val cs hk
  obtain ⟨j1,j2,j3⟩:=jS_spec ρ pl k S
  have hkd:=gM ρ k
  have hr:=rate_in cs hkd
  have hm:=min_in D cs hk S
  have inv:=min_inv cs D (k:=k) hkd h0 h1 (jS ρ pl k S) j2
  rw [t0,t1,t2,t3]
  have lo:∀ h:Int,0≤h→ρ.iv (30 + 4 * k) * h≤nmM ρ k S * h:=fun h hh=>Int.mul_le_mul_of_nonneg_right hm.1 hh
  have hi:∀ (x h:Int),x≤nmM ρ k S→0≤h→x * h≤ρ.iv (31 + 4 * k) * h:=fun x h hx hh=>Int.mul_le_mul_of_nonneg_right (by omega) hh
  constructor
  · intro hns
    have hj:jS ρ pl k S=(nmM ρ k S).toNat:=by omega
    have hN:(((nmM ρ k S).toNat:Nat):Int)=nmM ρ k S:=Int.toNat_of_nonneg (by omega)
    have a1:=lo _ hr.1.1
    have a2:=lo _ hr.2.1
    have b1:=hi (nmM ρ k S) (ρ.iv (9 + 2 * kdR ρ k)) (Int.le_refl _) (by omega)
    have b2:=hi (nmM ρ k S) (ρ.iv (13 + 2 * kdR ρ k)) (Int.le_refl _) (by omega)
    rw [hj,hN] at inv
    have e:endM ρ pl k S=stM ρ k (kdR ρ k) (st0 ρ pl k S) (nmM ρ k S).toNat:=by unfold endM; rw [hj]
    rw [e]
    omega
  · intro hs
    have hstop:=j3 hs
    have hb:=burn_in cs D hkd (endM ρ pl k S).a
    have hJ:((jS ρ pl k S + 1:Nat):Int)≤nmM ρ k S:=by omega
    have b1:=hi _ (ρ.iv (9 + 2 * kdR ρ k)) hJ (by omega)
    have b2:=hi _ (ρ.iv (13 + 2 * kdR ρ k)) hJ (by omega)
    rw [gN] at b1 b2
    have e:endM ρ pl k S=stM ρ k (kdR ρ k) (st0 ρ pl k S) (jS ρ pl k S):=rfl
    rw [← e] at inv
    unfold bM at hstop
    rcases hstop with h | h
    · left; omega
    · right; omega
end
section
variable {ρ:Rho} {L r:Nat} {a w:Int} (B:Bds ρ L) (hr:r < 2) (ha:0≤a∧a≤99) (hw:0≤w∧w≤5)
include B hr ha hw
theorem hasI_eq:cA ρ r a w=(if a + w * ρ.iv (6 + r) < ρ.iv (4 + r) then a + w * ρ.iv (6 + r) else ρ.iv (4 + r)):=by
  obtain ⟨n,rfl⟩:=Int.eq_ofNat_of_zero_le hw.1
  exact has_eq B hr ha (show n≤5 by omega)
theorem cz:0≤cA ρ r a w∧cA ρ r a w≤99:=by
  obtain ⟨n,rfl⟩:=Int.eq_ofNat_of_zero_le hw.1
  exact has_bd B hr ha (show n≤5 by omega)
theorem cY {i:Nat} (hi:i < L):aY ρ i r a w=cA ρ r a w - (if eT ρ i r < cA ρ r a w then eT ρ i r else cA ρ r a w)∧bY ρ i r a w=eT ρ i r - (if eT ρ i r < cA ρ r a w then eT ρ i r else cA ρ r a w):=by
  obtain ⟨n,rfl⟩:=Int.eq_ofNat_of_zero_le hw.1
  exact left_eq B hr ha (show n≤5 by omega) hi
theorem cZ {a':Int} (h:a≤a'∧a'≤99):cA ρ r a w≤cA ρ r a' w:=by
  rw [hasI_eq B hr ha hw,hasI_eq B hr (by omega) hw]
  split <;> split <;> omega
end
section
variable {ρ:Rho} {L:Nat} {pl:Nat→Int} (cs:∀ d ∈ csV L,d.den ρ=true) (D:DrIn ρ) (hpl:∀ j,j < 2 * L→0≤pl j∧pl j≤5)
include cs D hpl
theorem gO : ∀ k, k ≤ L → (∀ i, i < k → aP ρ L pl i = false) →
    (0≤(crs ρ pl k).1∧(crs ρ pl k).1≤(aJ ρ L pl k).c∧(aJ ρ L pl k).c≤(fm ρ pl k).1∧(fm ρ pl k).1≤99)∧(0≤(crs ρ pl k).2∧(crs ρ pl k).2≤(aJ ρ L pl k).w∧(aJ ρ L pl k).w≤(fm ρ pl k).2∧(fm ρ pl k).2≤99)
  | 0,_,_=>by
    have hb:=(fg.1 cs).1
    have r0:=hb.room0; have r1:=hb.room1; have c0:=hb.coal; have c2:=hb.water
    have d0:=D 0 (ρ.iv 0) (ρ.iv 1) (by omega) (by omega) (by omega)
    have d1:=D (wr (0 + 1)) (ρ.iv 2) (ρ.iv 3) (by omega) (by omega) (by omega)
    show (0≤ρ.iv 0∧ρ.iv 0≤drw ρ 0 (ρ.iv 0) (ρ.iv 1)∧drw ρ 0 (ρ.iv 0) (ρ.iv 1)≤ρ.iv 1∧ρ.iv 1≤99)∧(0≤ρ.iv 2∧ρ.iv 2≤drw ρ (wr (0 + 1)) (ρ.iv 2) (ρ.iv 3)∧drw ρ (wr (0 + 1)) (ρ.iv 2) (ρ.iv 3)≤ρ.iv 3∧ρ.iv 3≤99)
    omega
  | k + 1,hk,hst=>by
    obtain ⟨⟨a1,a2,a3,a4⟩,b1,b2,b3,b4⟩:=gO k (by omega) fun i hi=>hst i (by omega)
    have B:Bds ρ L:=bds_cs cs
    have p0:=hpl (2 * k) (by omega)
    have p1:=hpl (2 * k + 1) (by omega)
    have hk':k < L:=by omega
    have h0:=cz B (r:=0) (by omega) (a:=(aJ ρ L pl k).c) (by omega) p0
    have h1:=cz B (r:=1) (by omega) (a:=(aJ ρ L pl k).w) (by omega) p1
    have m0:=cZ B (r:=0) (by omega) (a:=(crs ρ pl k).1) (a':=(aJ ρ L pl k).c) (by omega) p0 (by omega)
    have m1:=cZ B (r:=1) (by omega) (a:=(crs ρ pl k).2) (a':=(aJ ρ L pl k).w) (by omega) p1 (by omega)
    have M0:=cZ B (r:=0) (by omega) (a:=(aJ ρ L pl k).c) (a':=(fm ρ pl k).1) (by omega) p0 (by omega)
    have M1:=cZ B (r:=1) (by omega) (a:=(aJ ρ L pl k).w) (a':=(fm ρ pl k).2) (by omega) p1 (by omega)
    have u0:=cz B (r:=0) (by omega) (a:=(fm ρ pl k).1) (by omega) p0
    have u1:=cz B (r:=1) (by omega) (a:=(fm ρ pl k).2) (by omega) p1
    have v0:=cz B (r:=0) (by omega) (a:=(crs ρ pl k).1) (by omega) p0
    have v1:=cz B (r:=1) (by omega) (a:=(crs ρ pl k).2) (by omega) p1
    have l0:=(cY B (r:=0) (by omega) (a:=(crs ρ pl k).1) (by omega) p0 hk').1
    have l1:=(cY B (r:=1) (by omega) (a:=(crs ρ pl k).2) (by omega) p1 hk').1
    have pe:=(part_end cs D hk' (pl:=pl) (S:=aJ ρ L pl k) h0 h1).1 (fun h=>by
      have:=hst k (by omega)
      unfold aP at this
      rw [show Nat.blt (jS ρ pl k (aJ ρ L pl k)) (nmM ρ k (aJ ρ L pl k)).toNat=true from Nat.ble_eq_true_of_le h] at this
      cases this)
    have t0:=B.tak k hk' 0 (by omega)
    have t1:=B.tak k hk' 1 (by omega)
    obtain ⟨_,_,q0,q1⟩:=tak_val cs hk'
    have mi:=mins_in cs hk'
    have hr:=rate_in cs (gM ρ k)
    have qb0:0≤takH ρ k 0∧takH ρ k 0≤60 * 3:=by rw [q0]; exact mul_in (by omega) (by omega) (by omega)
    have qb1:0≤takH ρ k 1∧takH ρ k 1≤60 * 3:=by rw [q1]; exact mul_in (by omega) (by omega) (by omega)
    have e0:(st0 ρ pl k (aJ ρ L pl k)).c=cA ρ 0 (aJ ρ L pl k).c (pl (2 * k)):=rfl
    have e1:(st0 ρ pl k (aJ ρ L pl k)).w=cA ρ 1 (aJ ρ L pl k).w (pl (2 * k + 1)):=rfl
    rw [e0,e1] at pe
    have g0:dQ ρ k 0 (fm ρ pl k).1 (pl (2 * k))=cA ρ 0 (fm ρ pl k).1 (pl (2 * k)) - (if takH ρ k 0 < cA ρ 0 (fm ρ pl k).1 (pl (2 * k)) then takH ρ k 0 else cA ρ 0 (fm ρ pl k).1 (pl (2 * k))):=by
      unfold dQ
      exact IntWalk.i64_in _ (by split <;> omega)
    have g1:dQ ρ k 1 (fm ρ pl k).2 (pl (2 * k + 1))=cA ρ 1 (fm ρ pl k).2 (pl (2 * k + 1)) - (if takH ρ k 1 < cA ρ 1 (fm ρ pl k).2 (pl (2 * k + 1)) then takH ρ k 1 else cA ρ 1 (fm ρ pl k).2 (pl (2 * k + 1))):=by
      unfold dQ
      exact IntWalk.i64_in _ (by split <;> omega)
    show (0≤aY ρ k 0 (crs ρ pl k).1 (pl (2 * k))∧aY ρ k 0 (crs ρ pl k).1 (pl (2 * k))≤(endM ρ pl k (aJ ρ L pl k)).c∧(endM ρ pl k (aJ ρ L pl k)).c≤dQ ρ k 0 (fm ρ pl k).1 (pl (2 * k))∧dQ ρ k 0 (fm ρ pl k).1 (pl (2 * k))≤99) ∧
      (0≤aY ρ k 1 (crs ρ pl k).2 (pl (2 * k + 1))∧aY ρ k 1 (crs ρ pl k).2 (pl (2 * k + 1))≤(endM ρ pl k (aJ ρ L pl k)).w∧(endM ρ pl k (aJ ρ L pl k)).w≤dQ ρ k 1 (fm ρ pl k).2 (pl (2 * k + 1))∧dQ ρ k 1 (fm ρ pl k).2 (pl (2 * k + 1))≤99)
    rw [l0,l1,g0,g1]
    refine ⟨⟨?_,?_,?_,?_⟩,?_,?_,?_,?_⟩ <;> split <;> omega
theorem stands_lack {k:Nat} (hk:k < L) (hst:∀ i,i < k→aP ρ L pl i=false) (h:aP ρ L pl k=true):¬ cV ρ pl k:=by
  obtain ⟨⟨a1,a2,a3,a4⟩,b1,b2,b3,b4⟩:=gO cs D hpl k (by omega) hst
  have B:Bds ρ L:=bds_cs cs
  have p0:=hpl (2 * k) (by omega)
  have p1:=hpl (2 * k + 1) (by omega)
  have h0:=cz B (r:=0) (by omega) (a:=(aJ ρ L pl k).c) (by omega) p0
  have h1:=cz B (r:=1) (by omega) (a:=(aJ ρ L pl k).w) (by omega) p1
  have m0:=cZ B (r:=0) (by omega) (a:=(crs ρ pl k).1) (a':=(aJ ρ L pl k).c) (by omega) p0 (by omega)
  have m1:=cZ B (r:=1) (by omega) (a:=(crs ρ pl k).2) (a':=(aJ ρ L pl k).w) (by omega) p1 (by omega)
  have l0:=(cY B (r:=0) (by omega) (a:=(crs ρ pl k).1) (by omega) p0 hk).2
  have l1:=(cY B (r:=1) (by omega) (a:=(crs ρ pl k).2) (by omega) p1 hk).2
  unfold aP at h
  have pe:=(part_end cs D hk (pl:=pl) (S:=aJ ρ L pl k) h0 h1).2 (Nat.le_of_ble_eq_true h)
  have e0:(st0 ρ pl k (aJ ρ L pl k)).c=cA ρ 0 (aJ ρ L pl k).c (pl (2 * k)):=rfl
  have e1:(st0 ρ pl k (aJ ρ L pl k)).w=cA ρ 1 (aJ ρ L pl k).w (pl (2 * k + 1)):=rfl
  rw [e0,e1] at pe
  unfold cV
  rw [l0,l1]
  rintro ⟨q0,q1⟩
  split at q0 <;> split at q1 <;> omega
theorem dark_may {k j : Nat} (hk : k < L) (hst : ∀ i, i < k → aP ρ L pl i = false) (hj : j < jS ρ pl k (aJ ρ L pl k)) (hl : kdR ρ k = 1)
    (hc:curM ρ (stM ρ k (kdR ρ k) (st0 ρ pl k (aJ ρ L pl k)) j).a (stM ρ k (kdR ρ k) (st0 ρ pl k (aJ ρ L pl k)) (j + 1)).w < ρ.iv 21):mayK ρ pl k=true:=by
  obtain ⟨⟨a1,a2,a3,a4⟩,b1,b2,b3,b4⟩:=gO cs D hpl k (by omega) hst
  have B:Bds ρ L:=bds_cs cs
  have p0:=hpl (2 * k) (by omega)
  have p1:=hpl (2 * k + 1) (by omega)
  have h0:=cz B (r:=0) (by omega) (a:=(aJ ρ L pl k).c) (by omega) p0
  have h1:=cz B (r:=1) (by omega) (a:=(aJ ρ L pl k).w) (by omega) p1
  have m1:=cZ B (r:=1) (by omega) (a:=(crs ρ pl k).2) (a':=(aJ ρ L pl k).w) (by omega) p1 (by omega)
  obtain ⟨l1,l2⟩:=cY B (r:=1) (by omega) (a:=(crs ρ pl k).2) (by omega) p1 hk
  obtain ⟨_,t1,_,_⟩:=tak_val cs hk
  have js:=jS_spec ρ pl k (aJ ρ L pl k)
  have hkd:=gM ρ k
  have hr:=rate_in cs hkd
  have hm:=min_in D cs hk (aJ ρ L pl k)
  have inv:=(min_inv cs D (k:=k) hkd (s0:=st0 ρ pl k (aJ ρ L pl k)) h0 h1 (j + 1) (fun i hi=>js.2.1 i (by omega))).2
  have hJ:((j + 1:Nat):Int) * ρ.iv (13 + 2 * kdR ρ k)≤eT ρ k 1:=by
    rw [t1]
    exact Int.mul_le_mul_of_nonneg_right (by omega) (by omega)
  have e1:(st0 ρ pl k (aJ ρ L pl k)).w=cA ρ 1 (aJ ρ L pl k).w (pl (2 * k + 1)):=rfl
  rw [e1] at inv
  generalize hw':(stM ρ k (kdR ρ k) (st0 ρ pl k (aJ ρ L pl k)) (j + 1)).w=w' at hc inv
  unfold mayK mayF
  by_cases hlk:bY ρ k 0 (crs ρ pl k).1 (pl (2 * k))=0∧bY ρ k 1 (crs ρ pl k).2 (pl (2 * k + 1))=0
  · have hlight : ρ.bv (32 + 4 * k) = true := by
      unfold kdR at hl
      split at hl
      · assumption
      · omega
    have hlw:aY ρ k 1 (crs ρ pl k).2 (pl (2 * k + 1))≤w':=by
      have:=hlk.2
      rw [l2] at this
      rw [l1]
      split at this
      · split <;> omega
      · split <;> omega
    have hb:=(fg.1 cs).1
    have hf:=hb.full; have hwk:=hb.weak; have hcur:=hb.cur
    have key:cK ρ k (aY ρ k 1 (crs ρ pl k).2 (pl (2 * k + 1)))=true:=by
      unfold cK
      rw [hlight,Bool.true_and]
      unfold curM at hc
      split at hc
      · have d:=D (wr (wr ((stM ρ k (kdR ρ k) (st0 ρ pl k (aJ ρ L pl k)) j).a + 1) + 1)) (ρ.iv 18) (ρ.iv 19) (by omega) (by omega) (by omega)
        rw [if_pos (by omega)]
        exact decide_eq_true (by omega)
      · have d:=D (wr (wr ((stM ρ k (kdR ρ k) (st0 ρ pl k (aJ ρ L pl k)) j).a + 1) + 1)) (ρ.iv 16) (ρ.iv 17) (by omega) (by omega) (by omega)
        split
        · exact decide_eq_true (by omega)
        · exact decide_eq_true (by omega)
    rw [key,Bool.or_true]
  · rw [decide_eq_false hlk]; rfl
theorem fail_min {n k : Nat} (hn : ∀ i, i < n → mayK ρ pl i = false) (hk : k < L) (hst : ∀ i, i < k → aP ρ L pl i = false) (hf : (n : Int) ≤ (aJ ρ L pl k).f) :
    ∀ j,j≤jS ρ pl k (aJ ρ L pl k)→(n:Int)≤(stM ρ k (kdR ρ k) (st0 ρ pl k (aJ ρ L pl k)) j).f
  | 0,_=>hf
  | j + 1,hj=>by
    have ih:=fail_min hn hk hst hf j (by omega)
    have e:(stM ρ k (kdR ρ k) (st0 ρ pl k (aJ ρ L pl k)) (j + 1)).f=if kdR ρ k=1∧curM ρ (stM ρ k (kdR ρ k) (st0 ρ pl k (aJ ρ L pl k)) j).a (stM ρ k (kdR ρ k) (st0 ρ pl k (aJ ρ L pl k)) (j + 1)).w < ρ.iv 21 then mnI (stM ρ k (kdR ρ k) (st0 ρ pl k (aJ ρ L pl k)) j).f k else (stM ρ k (kdR ρ k) (st0 ρ pl k (aJ ρ L pl k)) j).f:=rfl
    rw [e]
    split
    · rename_i h
      have hm:=dark_may cs D hpl hk hst (show j < _ by omega) h.1 h.2
      have hnk:n≤k:=by
        by_cases hlt:k < n
        · rw [hn k hlt] at hm; cases hm
        · omega
      unfold mnI
      split <;> omega
    · exact ih
theorem fail_in {n:Nat} (hn:∀ i,i < n→mayK ρ pl i=false) (hnL:n≤L):∀ k,k≤L→(∀ i,i < k→aP ρ L pl i=false)→(n:Int)≤(aJ ρ L pl k).f
  | 0,_,_=>by rw [hap0f]; omega
  | k + 1,hk,hst=>fail_min cs D hpl hn (by omega) (fun i hi=>hst i (by omega)) (fail_in hn hnL k (by omega) fun i hi=>hst i (by omega)) _ (Nat.le_refl _)
theorem fail_all {n p:Nat} (hn:∀ i,i < n→mayK ρ pl i=false) (hnL:n≤L) (H:HapOk L p pl ρ):(n:Int)≤hapF ρ L pl p:=by
  have hle:=H.le
  unfold hapF
  split
  · rename_i hp
    have hst:∀ i,i < p→aP ρ L pl i=false:=fun i hi=>(H.st i (by omega) (by omega)).trans (decide_eq_false (by omega))
    have hs:aP ρ L pl p=true:=(H.st p hp (Nat.le_refl _)).trans (decide_eq_true rfl)
    have h1:=fail_min cs D hpl hn hp hst (fail_in cs D hpl hn hnL p (by omega) hst) _ (Nat.le_refl _)
    have h2:=stands_lack cs D hpl hp hst hs
    have h3:mayK ρ pl p=true:=by
      have h2:¬ (bY ρ p 0 (crs ρ pl p).1 (pl (2 * p))=0∧bY ρ p 1 (crs ρ pl p).2 (pl (2 * p + 1))=0):=h2
      unfold mayK mayF
      rw [decide_eq_false h2]; rfl
    have hnp:n≤p:=by
      by_cases hlt:p < n
      · rw [hn p hlt] at h3; cases h3
      · omega
    have e:(aJ ρ L pl (p + 1)).f=(stM ρ p (kdR ρ p) (st0 ρ pl p (aJ ρ L pl p)) (jS ρ pl p (aJ ρ L pl p))).f:=rfl
    rw [e]
    unfold mnI
    split <;> omega
  · rename_i hp
    exact fail_in cs D hpl hn hnL L (Nat.le_refl _) fun i hi=>(H.st i hi (by omega)).trans (decide_eq_false (by omega))
end
end Go.Sx
namespace Go.Sx
open Go.RowKit Go.Proofs
set_option maxRecDepth 100000
noncomputable def plE (nm:Nat):Nat→IE:=fun j=>.var (nm + j)
noncomputable def tuO (pk:Nat→IE) (args:List AV) (h:Heap):Nat→Option (T (AV × Heap))
  | 0=>none
  | n + 1=>orElse (tu2 (pk (2 * n)) (addE (.var (33 + 4 * n)) (.lit 1)) (.var (800 + 2 * n)) args h) (orElse (tu2 (pk (2 * n + 1)) (addE (.bin .sub .i64 (.var (33 + 4 * n)) (.var (800 + 2 * n))) (.lit 1)) (.var (800 + 2 * n + 1)) args h) (tuO pk args h n))
noncomputable def upK (q k:Nat):Nat:=cond (Nat.blt k q) (k + 1) q
end Go.Sx
namespace Go.Sx
open Go.RowKit Go.Proofs
set_option maxRecDepth 100000
theorem upK_le (q k:Nat):upK q k≤k + 1:=by
  unfold upK
  cases h:Nat.blt k q with
  | true=>exact Nat.le_refl _
  | false =>
    have:¬ k < q:=fun h'=>by rw [show Nat.blt k q=true from Nat.ble_eq_true_of_le h'] at h; cases h
    rw [cond_false]; omega
theorem upK_in {q k:Nat} (h:k < q):upK q k=k + 1:=by
  unfold upK
  rw [show Nat.blt k q=true from Nat.ble_eq_true_of_le h,cond_true]
theorem tuO_ok {L : Nat} {ok : Rho → (Nat → Obj → Prop) → Prop} {pk : Nat → IE} (hcs : ∀ ρ m, ok ρ m → ∀ d ∈ csV L, d.den ρ = true)
    (hto:∀ ρ m,ok ρ m→∀ k,k < L→bO ((pk (2 * k)).den ρ) (ρ.iv (33 + 4 * k) + 1)=ρ.iv (800 + 2 * k)∧bO ((pk (2 * k + 1)).den ρ) (ρ.iv (33 + 4 * k) - ρ.iv (800 + 2 * k) + 1)=ρ.iv (800 + 2 * k + 1))
    (hwk:∀ ρ m,ok ρ m→∀ k,k < L→0≤ρ.iv (800 + 2 * k)∧ρ.iv (800 + 2 * k)≤ρ.iv (33 + 4 * k)) {args:List AV} {h:Heap} {t:T (AV × Heap)}:∀ n,n≤L→tuO pk args h n=some t→CallOk (aQ ok) 8 args h t
  | 0,_,e=>by cases e
  | n + 1,hn,e=>by
    unfold tuO at e
    have wr:∀ x:Int,-9223372036854775808≤x∧x≤9223372036854775807→IntKind.i64.wrap x=x:=fun x hx=>IntWalk.i64_in x hx
    rcases dy e with e | e
    · refine tu2_ok (fun ρ m k=>?_) e
      obtain ⟨W,w1,w2⟩:=walks_cs (hcs ρ m k) n (by omega)
      have e1:(addE (.var (33 + 4 * n)) (.lit 1)).den ρ=ρ.iv (33 + 4 * n) + 1:=wr _ (by show -9223372036854775808≤ρ.iv (33 + 4 * n) + 1∧ρ.iv (33 + 4 * n) + 1≤9223372036854775807; omega)
      rw [e1]
      exact ⟨by omega,(hto ρ m k n (by omega)).1⟩
    · rcases dy e with e | e
      · refine tu2_ok (fun ρ m k=>?_) e
        obtain ⟨W,w1,w2⟩:=walks_cs (hcs ρ m k) n (by omega)
        have p:=hwk ρ m k n (by omega)
        have e1:(addE (.bin .sub .i64 (.var (33 + 4 * n)) (.var (800 + 2 * n))) (.lit 1)).den ρ=ρ.iv (33 + 4 * n) - ρ.iv (800 + 2 * n) + 1:=by
          show IntKind.i64.wrap (IntKind.i64.wrap (ρ.iv (33 + 4 * n) - ρ.iv (800 + 2 * n)) + 1)=_
          rw [wr (ρ.iv (33 + 4 * n) - ρ.iv (800 + 2 * n)) (by omega),wr _ (by omega)]
        rw [e1]
        exact ⟨by omega,(hto ρ m k n (by omega)).2⟩
      · exact tuO_ok hcs hto hwk n (by omega) e
end Go.Sx
namespace Go.Sx
open Go.RowKit Go.Proofs
set_option maxRecDepth 100000
theorem mayT_f {ρ:Rho} {pl:Nat→Int} {k:Nat}:mayK ρ pl k=false ↔ cV ρ pl k∧cK ρ k (aY ρ k 1 (crs ρ pl k).2 (pl (2 * k + 1)))=false:=by
  unfold mayK mayF cV
  simp only [Bool.or_eq_false_iff,Bool.not_eq_false',decide_eq_true_eq]
theorem turnT_nn (n m:Int):0≤bO n m:=by
  by_cases h:m < 1
  · unfold bO; rw [if_pos h]; exact Int.le_refl 0
  · exact (turnF_in (by omega)).1
section
variable {ρ:Rho} {L:Nat} {pl pl':Nat→Int} (h:∀ j,j < 2 * L→pl j=pl' j)
include h
theorem crs_pl:∀ k,k≤L→crs ρ pl k=crs ρ pl' k
  | 0,_=>rfl
  | k + 1,hk=>by simp only [crs,crs_pl k (by omega),h (2 * k) (by omega),h (2 * k + 1) (by omega)]
theorem crsH_pl:∀ k,k≤L→fm ρ pl k=fm ρ pl' k
  | 0,_=>rfl
  | k + 1,hk=>by simp only [fm,crsH_pl k (by omega),h (2 * k) (by omega),h (2 * k + 1) (by omega)]
theorem lackN_pl {k:Nat} (hk:k < L):cV ρ pl k ↔ cV ρ pl' k:=by
  unfold cV; rw [crs_pl h k (by omega),h (2 * k) (by omega),h (2 * k + 1) (by omega)]
theorem mayK_pl {k:Nat} (hk:k < L):mayK ρ pl k=mayK ρ pl' k:=by
  unfold mayK; rw [crs_pl h k (by omega),h (2 * k) (by omega),h (2 * k + 1) (by omega)]
theorem st0_pl {k:Nat} (hk:k < L) (S:Mn):st0 ρ pl k S=st0 ρ pl' k S:=by
  unfold st0; rw [h (2 * k) (by omega),h (2 * k + 1) (by omega)]
theorem jS_pl {k:Nat} (hk:k < L) (S:Mn):jS ρ pl k S=jS ρ pl' k S:=by
  unfold jS; rw [st0_pl h hk]
theorem hapS_pl:∀ k,k≤L→aJ ρ L pl k=aJ ρ L pl' k
  | 0,_=>rfl
  | k + 1,hk=>by
    show endM ρ pl k (aJ ρ L pl k)=endM ρ pl' k (aJ ρ L pl' k)
    rw [hapS_pl k (by omega)]
    unfold endM
    rw [jS_pl h (by omega),st0_pl h (by omega)]
theorem standsP_pl {k:Nat} (hk:k < L):aP ρ L pl k=aP ρ L pl' k:=by
  unfold aP; rw [hapS_pl h k (by omega),jS_pl h hk]
theorem hapF_pl {p:Nat}:hapF ρ L pl p=hapF ρ L pl' p:=by
  unfold hapF
  split
  · rw [hapS_pl h _ (by omega)]
  · rw [hapS_pl h _ (Nat.le_refl _)]
theorem hapOk_pl {p:Nat} (H:HapOk L p pl ρ):HapOk L p pl' ρ:=⟨H.le,fun k hk hkp=>by rw [← standsP_pl h hk]; exact H.st k hk hkp⟩
theorem faOk_pl {n:Nat} (H:FaOk L n pl ρ):FaOk L n pl' ρ:=⟨fun k hk=>by rw [← h _ (by omega),← h _ (by omega)]; exact H.pb k hk,fun k hk hkn=>by rw [← mayK_pl h hk]; exact H.may k hk hkn⟩
theorem leOk_pl {k p:Nat} (hk:k < L) (H:LeOk L k p pl ρ):LeOk L k p pl' ρ :=
  ⟨fun j hj=>by rw [← h _ (by omega),← h _ (by omega)]; exact H.pb j hj,fun j hj hjp=>(lackN_pl h (by omega)).1 (H.go j hj hjp),fun hp hl=>H.st hp ((lackN_pl h (by omega)).2 hl)⟩
end
noncomputable def plZ (ρ:Rho) (L n:Nat):Int:=if n < 2 * L then planO ρ L n else 0
noncomputable def leftV (ρ:Rho) (pl:Nat→Int) (i:Nat):Int:=if i % 4=0 then (crs ρ pl (i / 4 + 1)).1 else if i % 4=1 then (fm ρ pl (i / 4 + 1)).1 else if i % 4=2 then (crs ρ pl (i / 4 + 1)).2 else (fm ρ pl (i / 4 + 1)).2
noncomputable def hapV (ρ:Rho) (L:Nat) (pl:Nat→Int) (p i:Nat):Int:=if i=20 then hapF ρ L pl p else if i % 2=0 then (aJ ρ L pl (i / 2 + 1)).c else (aJ ρ L pl (i / 2 + 1)).w
theorem hapV_nm (ρ:Rho) (L:Nat) (pl:Nat→Int) (p:Nat):(∀ k,k < 5→hapV ρ L pl p (2 * k)=(aJ ρ L pl (k + 1)).c∧hapV ρ L pl p (2 * k + 1)=(aJ ρ L pl (k + 1)).w)∧hapV ρ L pl p 20=hapF ρ L pl p:=by
  refine ⟨fun k hk=>⟨?_,?_⟩,if_pos rfl⟩
  · unfold hapV; rw [if_neg (by omega),if_pos (by omega),show 2 * k / 2=k by omega]
  · unfold hapV; rw [if_neg (by omega),if_neg (by omega),show (2 * k + 1) / 2=k by omega]
theorem leftV_nm (ρ:Rho) (pl:Nat→Int) (k:Nat):leftV ρ pl (4 * k)=(crs ρ pl (k + 1)).1∧leftV ρ pl (4 * k + 1)=(fm ρ pl (k + 1)).1∧leftV ρ pl (4 * k + 2)=(crs ρ pl (k + 1)).2∧leftV ρ pl (4 * k + 3)=(fm ρ pl (k + 1)).2:=by
  refine ⟨?_,?_,?_,?_⟩
  · unfold leftV; rw [if_pos (by omega),show 4 * k / 4=k by omega]
  · unfold leftV; rw [if_neg (by omega),if_pos (by omega),show (4 * k + 1) / 4=k by omega]
  · unfold leftV; rw [if_neg (by omega),if_neg (by omega),if_pos (by omega),show (4 * k + 2) / 4=k by omega]
  · unfold leftV; rw [if_neg (by omega),if_neg (by omega),if_neg (by omega),show (4 * k + 3) / 4=k by omega]
theorem hapOk_first (ρ:Rho) (L:Nat) (pl:Nat→Int):HapOk L (ez (aP ρ L pl) L) pl ρ:=by
  obtain ⟨h1,h2,h3⟩:=eD (aP ρ L pl) L
  refine ⟨h1,fun k hk hkp=>?_⟩
  by_cases e:k=ez (aP ρ L pl) L
  · rw [decide_eq_true e]
    have:=h3 (by omega)
    rw [← e] at this; exact this
  · rw [decide_eq_false e]; exact h2 k (by omega)
noncomputable instance (ρ:Rho) (pl:Nat→Int) (k:Nat):Decidable (cV ρ pl k):=inferInstanceAs (Decidable (bY ρ k 0 (crs ρ pl k).1 (pl (2 * k))=0∧bY ρ k 1 (crs ρ pl k).2 (pl (2 * k + 1))=0))
noncomputable def lackB (ρ:Rho) (pl:Nat→Int) (k:Nat):Bool:=decide (¬ cV ρ pl k)
end Go.Sx
namespace Go.Sx
open Go.RowKit Go.Proofs
set_option maxRecDepth 100000
noncomputable def atL:List Nat→Nat→Nat
  | [],j=>j
  | a :: l,j=>cond (Nat.beq j 0) a (atL l (j - 1))
noncomputable def jW (j:Nat):Nat:=cond (Nat.blt j 22) (atL [0,0,2,2,4,5,6,7,9,9,11,11,13,13,15,15,16,16,18,18,20,21] j) (cond (Nat.beq ((j - 30) % 4) 0) (j + 1) j)
noncomputable def jB (j:Nat):Nat:=cond (Nat.blt j 22) (atL [1,1,3,3,4,5,6,7,8,8,10,10,12,12,14,14,17,17,19,19,20,21] j) (cond (Nat.beq ((j - 30) % 4) 1) (j - 1) j)
noncomputable def eW (j:Nat):IE:=.var (jW j)
noncomputable def eB (j:Nat):IE:=.var (jB j)
noncomputable def pk1E (k:Nat):IE:=.app 1000 (lt k) (.lit 0) (.lit 0)
noncomputable def pbE (L:Nat):Nat:=2001 + 2 * L
noncomputable def qwE (L:Nat):Nat:=2030 + 8 * L
noncomputable def qbE (L:Nat):Nat:=2057 + 14 * L
noncomputable def leE (L q i:Nat) (args:List AV) (h:Heap):Option (T (AV × Heap)):=le19 (plE 800) true (pbE L) 1140 L i (upK q i) args h
noncomputable def orcEd (L n q p i:Nat) (kb:Bool) (f:FuncId) (args:List AV) (h:Heap):Option (T (AV × Heap)) :=
  cond (Nat.beq f 7) (gR gl args h) (cond (Nat.beq f 6) (soGo L args h)
    (cond (Nat.beq f 8) (orElse (tu2 (.var 88) (.lit (Int.ofNat L)) (.lit (Int.ofNat i)) args h) (tuO pk1E args h L))
    (cond (Nat.beq f 36) (pickOrc args h)
    (cond (Nat.beq f 9) (orElse (pl12 IE.var 710 1001 L kb args h) (pl12 eW 710 (qwE L) L kb args h))
    (cond (Nat.beq f 16) (fa18 (plE 800) true (pbE L) L n args h)
    (cond (Nat.beq f 13) (orElse (hapGo eW (plE 800) true true 1180 (qwE L) (pbE L) (qwE L + 1) L q args h) (hapGo eB (plE 800) true true 1210 (qbE L) (pbE L) (qbE L + 1) L p args h))
    (cond (Nat.beq f 19) (leE L q i args h) none)))))))
noncomputable def tbEd (L n q p i:Nat) (kb:Bool):hI:=⟨Sx.Tryd.ft.get,aA Sx.Tryd.rt,2000,orcEd L n q p i kb⟩
noncomputable def fcEd (n q i:Nat):List BE:=.cmp .eql (.var 1200) (lt n) :: cond (Nat.blt i q) [.cmp .eql (.var (1140 + 4 * i)) (.var (1180 + 2 * i)),.cmp .eql (.var (1140 + 4 * i + 1)) (.var (1210 + 2 * i)),.cmp .eql (.var (1140 + 4 * i + 2)) (.var (1180 + 2 * i + 1)),.cmp .eql (.var (1140 + 4 * i + 3)) (.var (1210 + 2 * i + 1))] []
noncomputable def xsEd:List AV:=[.sliceU 96,vi 88]
noncomputable def lawEd (L n q p i:Nat) (kb:Bool):Bool:=allK isTrueK (b7 (tbEd L n q p i kb) 60 false 5 (.agg (eG (.sliceX 1001 4 0 L)) :: xsEd) (bj 2000 (lB L))) (knOf [] (fcEd n q i))
noncomputable def lawEq (t:Nat × Nat × Nat):Bool:=bz (fun p=>cond (Nat.blt p t.2.2) true (bz (fun i=>and (lawEd t.1 t.2.1 t.2.2 p i true) (lawEd t.1 t.2.1 t.2.2 p i false)) (cntD t.1))) (cntD (t.1 + 1))
noncomputable def tE0:List (Nat × Nat × Nat):=[(3,0,2),(4,1,3),(4,3,4),(5,0,0)]
noncomputable def tE1:List (Nat × Nat × Nat):=[(1,0,0),(3,0,1),(3,2,3),(5,0,1),(5,4,4)]
noncomputable def tE2:List (Nat × Nat × Nat):=[(4,0,2),(4,1,4),(5,1,1),(5,2,5)]
noncomputable def tE3:List (Nat × Nat × Nat):=[(3,1,2),(4,2,3),(4,4,4),(5,0,2),(5,1,4)]
noncomputable def tE4:List (Nat × Nat × Nat):=[(2,0,0),(2,1,1),(3,2,2),(4,3,3),(5,1,2),(5,2,4)]
noncomputable def tE5:List (Nat × Nat × Nat):=[(1,0,1),(1,1,1),(3,1,1),(3,3,3),(5,0,5),(5,2,2),(5,3,4)]
noncomputable def tE6:List (Nat × Nat × Nat):=[(2,0,2),(3,0,3),(4,0,0),(4,0,3),(5,0,3),(5,4,5)]
noncomputable def tE7:List (Nat × Nat × Nat):=[(2,1,2),(3,1,3),(4,0,1),(4,2,2),(5,1,3),(5,5,5)]
noncomputable def tE8:List (Nat × Nat × Nat):=[(2,0,1),(2,2,2),(3,0,0),(4,0,4),(4,1,1),(5,1,5),(5,2,3)]
noncomputable def tE9:List (Nat × Nat × Nat):=[(4,1,2),(4,2,4),(5,0,4),(5,3,3),(5,3,5)]
noncomputable def ckE (L:Nat):Bool:=bz (fun p=>and (ckH true true (qwE L) (pbE L) (qwE L + 1) L p) (ckH true true (qbE L) (pbE L) (qbE L + 1) L p)) (cntD (L + 1))
end Go.Sx
namespace Go.Sx
open Go.RowKit Go.Proofs
set_option maxRecDepth 100000
structure SameF (ρ ρ':Rho) (L:Nat):Prop where
  i0:ρ.iv 0=ρ'.iv 0
  i2:ρ.iv 2=ρ'.iv 2
  has:∀ r,r < 2→∀ a w,cA ρ r a w=cA ρ' r a w
  tak:∀ i,i < L→∀ r,r < 2→eT ρ i r=eT ρ' i r
  fail:∀ i,i < L→∀ l,cK ρ i l=cK ρ' i l
  walks:∀ i,i < L→ρ.iv (33 + 4 * i)=ρ'.iv (33 + 4 * i)
section
variable {ρ ρ':Rho} {L:Nat} (A:SameF ρ ρ' L)
include A
theorem leftF_sf {i r:Nat} (hi:i < L) (hr:r < 2) (a w:Int):aY ρ i r a w=aY ρ' i r a w:=by unfold aY; rw [A.tak i hi r hr,A.has r hr]
theorem iq {i r:Nat} (hi:i < L) (hr:r < 2) (a w:Int):bY ρ i r a w=bY ρ' i r a w:=by unfold bY; rw [A.tak i hi r hr,A.has r hr]
theorem crs_sf (pl:Nat→Int):∀ k,k≤L→crs ρ pl k=crs ρ' pl k
  | 0,_=>by simp only [crs,A.i0,A.i2]
  | k + 1,h=>by simp only [crs,crs_sf pl k (by omega),leftF_sf A (show k < L by omega) (show 0 < 2 by omega),leftF_sf A (show k < L by omega) (show 1 < 2 by omega)]
theorem lackN_sf (pl:Nat→Int) {k:Nat} (h:k < L):cV ρ pl k ↔ cV ρ' pl k:=by
  unfold cV
  rw [crs_sf A pl k (by omega),iq A h (show 0 < 2 by omega),iq A h (show 1 < 2 by omega)]
theorem mayK_sf (pl:Nat→Int) {k:Nat} (h:k < L):mayK ρ pl k=mayK ρ' pl k:=by
  unfold mayK mayF
  rw [crs_sf A pl k (by omega),leftF_sf A h (show 1 < 2 by omega),iq A h (show 0 < 2 by omega),iq A h (show 1 < 2 by omega),A.fail k h]
theorem roundG_sf {i:Nat} (hi:i < L) (nx:Int→Int→Out) (a b:Int) (cw ww:Nat) (S:Stt):roundG ρ nx i a b cw ww S=roundG ρ' nx i a b cw ww S:=by
  unfold roundG
  simp only [leftF_sf A hi (show 0 < 2 by omega),leftF_sf A hi (show 1 < 2 by omega),iq A hi (show 0 < 2 by omega),iq A hi (show 1 < 2 by omega),A.fail i hi]
theorem roundsG_sf {i:Nat} (hi:i < L) (nx:Int→Int→Out) (a b:Int):∀ (l:List (Nat × Nat)) (S:Stt),fk ρ nx i a b l S=fk ρ' nx i a b l S
  | [],_=>rfl
  | x :: l,S=>by simp only [fk]; rw [roundG_sf A hi,roundsG_sf hi nx a b l]
theorem outD_sf:∀ (d i:Nat),i + d≤L→outD ρ d i=outD ρ' d i
  | 0,_,_=>rfl
  | d + 1,i,h=>by
    funext a b
    simp only [outD]
    rw [outD_sf d (i + 1) (by omega),roundsG_sf A (by omega),A.walks i (by omega)]
theorem enD_sf:enD ρ L=enD ρ' L:=by
  unfold enD; rw [outD_sf A L 0 (by omega),A.i0,A.i2]
theorem stD_sf:∀ k,k≤L→stD ρ L k=stD ρ' L k
  | 0,_=>by simp only [stD,A.i0,A.i2]
  | k + 1,h=>by simp only [stD,stD_sf k (by omega),outD_sf A (L - k) k (by omega)]
theorem outK_sf {k:Nat} (hk:k≤L):outK ρ L k=outK ρ' L k:=by
  unfold outK; rw [stD_sf A k hk,outD_sf A (L - k) k (by omega)]
theorem planO_sf {n:Nat} (h:n < 2 * L):planO ρ L n=planO ρ' L n:=by
  unfold planO; rw [outK_sf A (by omega)]
end
structure OneE (ρ:Rho) (L:Nat):Prop where
  c:ρ.iv 0=ρ.iv 1
  w:ρ.iv 2=ρ.iv 3
  burn:∀ kd,kd < 2→ρ.iv (8 + 2 * kd)=ρ.iv (9 + 2 * kd)
  drink:∀ kd,kd < 2→ρ.iv (12 + 2 * kd)=ρ.iv (13 + 2 * kd)
  mins:∀ k,k < L→ρ.iv (30 + 4 * k)=ρ.iv (31 + 4 * k)
section
variable {ρ:Rho} {L:Nat} {pl:Nat→Int} (cs:∀ d ∈ csV L,d.den ρ=true) (D:DrIn ρ) (hpl:∀ j,j < 2 * L→0≤pl j∧pl j≤5) (U:OneE ρ L)
include cs U
theorem tak_one {k:Nat} (hk:k < L):takH ρ k 0=eT ρ k 0∧takH ρ k 1=eT ρ k 1:=by
  obtain ⟨t0,t1,t2,t3⟩:=tak_val cs hk
  have hkd:=gM ρ k
  rw [t0,t1,t2,t3,U.mins k hk,U.burn _ hkd,U.drink _ hkd]
  exact ⟨rfl,rfl⟩
theorem crsH_one:∀ k,k≤L→fm ρ pl k=crs ρ pl k
  | 0,_=>by simp only [crs,fm,U.c,U.w]
  | k + 1,h=>by
    obtain ⟨a,b⟩:=tak_one cs U (show k < L by omega)
    simp only [crs,fm,crsH_one k (by omega),dQ,aY,a,b]
include D hpl
theorem ir {k:Nat} (hk:k≤L) (hst:∀ i,i < k→aP ρ L pl i=false):(aJ ρ L pl k).c=(crs ρ pl k).1∧(aJ ρ L pl k).w=(crs ρ pl k).2:=by
  obtain ⟨⟨_,a2,a3,_⟩,_,b2,b3,_⟩:=gO cs D hpl k hk hst
  rw [crsH_one cs U k hk] at a3 b3
  omega
theorem lack_stands {k:Nat} (hk:k < L) (hst:∀ i,i < k→aP ρ L pl i=false) (h:¬ cV ρ pl k):aP ρ L pl k=true:=by
  obtain ⟨ec,ew⟩:=ir cs D hpl U (show k≤L by omega) hst
  obtain ⟨⟨a1,a2,a3,a4⟩,b1,b2,b3,b4⟩:=gO cs D hpl k (by omega) hst
  have B:Bds ρ L:=bds_cs cs
  have p0:=hpl (2 * k) (by omega)
  have p1:=hpl (2 * k + 1) (by omega)
  have h0:=cz B (r:=0) (by omega) (a:=(aJ ρ L pl k).c) (by omega) p0
  have h1:=cz B (r:=1) (by omega) (a:=(aJ ρ L pl k).w) (by omega) p1
  cases hs:aP ρ L pl k with
  | true=>rfl
  | false =>
    refine absurd ?_ h
    have pe:=(part_end cs D hk (pl:=pl) (S:=aJ ρ L pl k) h0 h1).1 (fun h=>by
      unfold aP at hs
      rw [show Nat.blt (jS ρ pl k (aJ ρ L pl k)) (nmM ρ k (aJ ρ L pl k)).toNat=true from Nat.ble_eq_true_of_le h] at hs
      cases hs)
    obtain ⟨t0,t1⟩:=tak_one cs U hk
    have l0:=(cY B (r:=0) (by omega) (a:=(crs ρ pl k).1) (by omega) p0 hk).2
    have l1:=(cY B (r:=1) (by omega) (a:=(crs ρ pl k).2) (by omega) p1 hk).2
    have e0:(st0 ρ pl k (aJ ρ L pl k)).c=cA ρ 0 (crs ρ pl k).1 (pl (2 * k)):=by rw [← ec]; rfl
    have e1:(st0 ρ pl k (aJ ρ L pl k)).w=cA ρ 1 (crs ρ pl k).2 (pl (2 * k + 1)):=by rw [← ew]; rfl
    rw [e0,e1,t0,t1] at pe
    unfold cV
    rw [l0,l1]
    constructor
    · split <;> omega
    · split <;> omega
omit hpl D cs U
theorem mnI_le (a b:Int):mnI a b≤a∧mnI a b≤b:=by unfold mnI; split <;> omega
theorem f_down (k kd:Nat) (s0:Mn):∀ j,(stM ρ k kd s0 j).f≤s0.f
  | 0=>Int.le_refl _
  | j + 1=>by
    have ih:=f_down k kd s0 j
    have e:(stM ρ k kd s0 (j + 1)).f=if kd=1∧curM ρ (stM ρ k kd s0 j).a (stM ρ k kd s0 (j + 1)).w < ρ.iv 21 then mnI (stM ρ k kd s0 j).f k else (stM ρ k kd s0 j).f:=rfl
    rw [e]
    split
    · have:=(mnI_le (stM ρ k kd s0 j).f k).1; omega
    · exact ih
theorem f_part (k:Nat) (S:Mn):(endM ρ pl k S).f≤S.f:=f_down k (kdR ρ k) (st0 ρ pl k S) _
theorem f_mono (k:Nat):∀ n,(aJ ρ L pl (k + n)).f≤(aJ ρ L pl k).f
  | 0=>Int.le_refl _
  | n + 1=>Int.le_trans (f_part (k + n) (aJ ρ L pl (k + n))) (f_mono k n)
theorem hapF_le {p:Nat} (hp:p≤L):hapF ρ L pl p≤(aJ ρ L pl p).f∧(p < L→hapF ρ L pl p≤p):=by
  unfold hapF
  split
  · have:=mnI_le (aJ ρ L pl (p + 1)).f p
    have h:=f_part (ρ:=ρ) (pl:=pl) p (aJ ρ L pl p)
    have e:(aJ ρ L pl (p + 1)).f=(endM ρ pl p (aJ ρ L pl p)).f:=rfl
    rw [← e] at h
    exact ⟨by omega,fun _=>this.2⟩
  · have:p=L:=by omega
    subst this
    exact ⟨Int.le_refl _,fun h=>absurd h (by omega)⟩
include cs D hpl U
theorem fail_one {n p:Nat} (hn:∀ i,i < n→mayK ρ pl i=false) (hnL:n≤L) (hm:n < L→mayK ρ pl n=true) (H:HapOk L p pl ρ) (hF:ρ.iv 18=ρ.iv 19) (hG:ρ.iv 16=ρ.iv 17):hapF ρ L pl p=n:=by
  have h1:=fail_all cs D hpl hn hnL H
  have hle:=H.le
  have hst:∀ i,i < p→aP ρ L pl i=false:=fun i hi=>(H.st i (by omega) (by omega)).trans (decide_eq_false (by omega))
  obtain ⟨q1,q2⟩:=hapF_le (ρ:=ρ) (pl:=pl) hle
  suffices h2:hapF ρ L pl p≤n by omega
  by_cases hnl:n < L
  · by_cases hpn:p≤n
    · have:=q2 (by omega); omega
    · -- it goes on behind the part: there is a minute without light
      have hnp:n < p:=by omega
      have hsn:aP ρ L pl n=false:=hst n hnp
      have hlk:cV ρ pl n:=by
        by_cases h:cV ρ pl n
        · exact h
        · have:=lack_stands cs D hpl U hnl (fun i hi=>hst i (by omega)) h
          rw [hsn] at this; cases this
      have hfail:cK ρ n (aY ρ n 1 (crs ρ pl n).2 (pl (2 * n + 1)))=true:=by
        have hmm:=hm hnl
        cases hfl:cK ρ n (aY ρ n 1 (crs ρ pl n).2 (pl (2 * n + 1))) with
        | true=>rfl
        | false=>rw [mayT_f.2 ⟨hlk,hfl⟩] at hmm; cases hmm
      obtain ⟨_,ew⟩:=ir cs D hpl U (show n + 1≤L by omega) (fun i hi=>hst i (by omega))
      have mi:=min_in D cs hnl (aJ ρ L pl n)
      have hj:jS ρ pl n (aJ ρ L pl n)=(nmM ρ n (aJ ρ L pl n)).toNat:=by
        have:=(jS_spec ρ pl n (aJ ρ L pl n)).1
        rcases Nat.lt_or_ge (jS ρ pl n (aJ ρ L pl n)) (nmM ρ n (aJ ρ L pl n)).toNat with h | h
        · unfold aP at hsn
          rw [show Nat.blt (jS ρ pl n (aJ ρ L pl n)) (nmM ρ n (aJ ρ L pl n)).toNat=true from Nat.ble_eq_true_of_le h] at hsn; cases hsn
        · omega
      obtain ⟨j,hj1⟩:∃ j,jS ρ pl n (aJ ρ L pl n)=j + 1:=⟨jS ρ pl n (aJ ρ L pl n) - 1,by omega⟩
      have eE:aJ ρ L pl (n + 1)=stM ρ n (kdR ρ n) (st0 ρ pl n (aJ ρ L pl n)) (j + 1):=by
        show endM ρ pl n (aJ ρ L pl n)=_
        unfold endM; rw [hj1]
      have eF:(aJ ρ L pl (n + 1)).f=if kdR ρ n=1∧curM ρ (stM ρ n (kdR ρ n) (st0 ρ pl n (aJ ρ L pl n)) j).a (aJ ρ L pl (n + 1)).w < ρ.iv 21 then mnI (stM ρ n (kdR ρ n) (st0 ρ pl n (aJ ρ L pl n)) j).f n else (stM ρ n (kdR ρ n) (st0 ρ pl n (aJ ρ L pl n)) j).f:=by
        rw [eE]; rfl
      unfold cK at hfail
      simp only [Bool.and_eq_true] at hfail
      have hkd:kdR ρ n=1:=by unfold kdR; rw [if_pos hfail.1]
      have ec2:(crs ρ pl (n + 1)).2=aY ρ n 1 (crs ρ pl n).2 (pl (2 * n + 1)):=rfl
      have hb:=(fg.1 cs).1
      have hfu:=hb.full; have hwk:=hb.weak
      have hc:curM ρ (stM ρ n (kdR ρ n) (st0 ρ pl n (aJ ρ L pl n)) j).a (aJ ρ L pl (n + 1)).w < ρ.iv 21:=by
        have hc:=hfail.2
        rw [ew,ec2]
        unfold curM
        split
        · rename_i h
          rw [if_pos h] at hc
          have hc:=of_decide_eq_true hc
          have d:=D (wr (wr ((stM ρ n (kdR ρ n) (st0 ρ pl n (aJ ρ L pl n)) j).a + 1) + 1)) (ρ.iv 18) (ρ.iv 19) (by omega) (by omega) (by omega)
          omega
        · rename_i h
          rw [if_neg h] at hc
          have hc:=of_decide_eq_true hc
          have d:=D (wr (wr ((stM ρ n (kdR ρ n) (st0 ρ pl n (aJ ρ L pl n)) j).a + 1) + 1)) (ρ.iv 16) (ρ.iv 17) (by omega) (by omega) (by omega)
          omega
      rw [if_pos ⟨hkd,hc⟩] at eF
      have hmn:=(mnI_le (stM ρ n (kdR ρ n) (st0 ρ pl n (aJ ρ L pl n)) j).f n).2
      have hmo:=f_mono (ρ:=ρ) (L:=L) (pl:=pl) (n + 1) (p - (n + 1))
      rw [show n + 1 + (p - (n + 1))=p by omega] at hmo
      omega
  · have hmo:=f_mono (ρ:=ρ) (L:=L) (pl:=pl) 0 p
    rw [Nat.zero_add,hap0f] at hmo
    omega
end
end Go.Sx
