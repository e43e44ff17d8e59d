/- HtA -/
import Derived.Test.YtfbongdjicmegaaDoorLeK
import Derived.Test.YtfbongdjicmegaaDoorLeK5
import Derived.Test.YtfbongdjicmegaaDoorHaE
import Derived.Test.YtfbongdjicmegaaDoorHaP
namespace Go.Sx
open Go.RowKit Go.Proofs
set_option maxRecDepth 100000
theorem ckLe_at {L k p:Nat} {arr:Bool} (h1:1≤L) (h5:L≤5) (hk:k < L) (hp:p≤k + 1):ckLe arr L k p=true:=by
  have h:ckLes L=true:=by
    have hL:L=1 ∨ L=2 ∨ L=3 ∨ L=4 ∨ L=5:=by omega
    rcases hL with rfl | rfl | rfl | rfl | rfl
    · exact aw ckLe3 1 (by simp)
    · exact aw ckLe3 2 (by simp)
    · exact aw ckLe3 3 (by simp)
    · exact ckLe4
    · exact ckLe5
  have:=aw (aw h k (bV hk)) p (bV (by omega))
  simp only [Bool.and_eq_true] at this
  cases arr
  · exact this.2
  · exact this.1
theorem aE_denS {ρ:Rho} {L:Nat} (H:OkS L ρ):∀ k,k≤L→(aE 0 k).den ρ=(crs ρ (fun j=>ρ.iv (540 + j)) k).1∧(aE 1 k).den ρ=(crs ρ (fun j=>ρ.iv (540 + j)) k).2
  | 0,_=>⟨rfl,rfl⟩
  | k + 1,hk=>by
    obtain ⟨h1,h2⟩:=aE_denS H k (by omega)
    constructor
    · show FI ρ.fi 9300 k ((aE 0 k).den ρ) (ρ.iv (540 + 2 * k + 0))=aG ρ k 0 _ (ρ.iv (540 + 2 * k))
      rw [h1]; exact (H k (by omega) _ _).1
    · show FI ρ.fi 9301 k ((aE 1 k).den ρ) (ρ.iv (540 + 2 * k + 1))=aG ρ k 1 _ (ρ.iv (540 + (2 * k + 1)))
      rw [h2]; exact (H k (by omega) _ _).2.1
theorem aH_denS {ρ:Rho} {L:Nat} (H:OkSH L ρ):∀ k,k≤L→(aH 0 k).den ρ=(gB ρ (fun j=>ρ.iv (540 + j)) k).1∧(aH 1 k).den ρ=(gB ρ (fun j=>ρ.iv (540 + j)) k).2
  | 0,_=>⟨rfl,rfl⟩
  | k + 1,hk=>by
    obtain ⟨h1,h2⟩:=aH_denS H k (by omega)
    constructor
    · show FI ρ.fi 9310 k ((aH 0 k).den ρ) (ρ.iv (540 + 2 * k + 0))=dW ρ k 0 _ (ρ.iv (540 + 2 * k))
      rw [h1]; exact (H k (by omega) _ _).1
    · show FI ρ.fi 9311 k ((aH 1 k).den ρ) (ρ.iv (540 + 2 * k + 1))=dW ρ k 1 _ (ρ.iv (540 + (2 * k + 1)))
      rw [h2]; exact (H k (by omega) _ _).2.1
theorem lackE_den {ρ:Rho} {L j:Nat} (H:OkS L ρ) (hj:j < L):(lackE 0 j).den ρ=bA ρ j 0 (crs ρ (fun j=>ρ.iv (540 + j)) j).1 (ρ.iv (540 + 2 * j))∧(lackE 1 j).den ρ=bA ρ j 1 (crs ρ (fun j=>ρ.iv (540 + j)) j).2 (ρ.iv (540 + (2 * j + 1))):=by
  obtain ⟨h1,h2⟩:=aE_denS H j (by omega)
  constructor
  · show FI ρ.fi 9302 j ((aE 0 j).den ρ) (ρ.iv (540 + 2 * j + 0))=_
    rw [h1]; exact (H j hj _ _).2.2.1
  · show FI ρ.fi 9303 j ((aE 1 j).den ρ) (ρ.iv (540 + 2 * j + 1))=_
    rw [h2]; exact (H j hj _ _).2.2.2
theorem fcLe_ok {ρ:Rho} {L:Nat} (H:OkS L ρ):∀ n j,j + n≤L→(∀ i,j≤i→i < j + n→gC ρ (fun j=>ρ.iv (540 + j)) i)→∀ c ∈ fcLe n j,c.den ρ=true
  | 0,_,_,_,c,hc=>(List.not_mem_nil hc).elim
  | n + 1,j,hn,h,c,hc=>by
    obtain ⟨e1,e2⟩:=lackE_den H (show j < L by omega)
    obtain ⟨k1,k2⟩:=h j (Nat.le_refl j) (by omega)
    simp only [fcLe,List.mem_cons] at hc
    rcases hc with rfl | rfl | hc
    · rw [BE.t_eql,e1,IE.den_lit]; exact k1
    · rw [BE.t_eql,e2,IE.den_lit]; exact k2
    · exact fcLe_ok H n (j + 1) (by omega) (fun i h1 h2=>h i (by omega) (by omega)) c hc
theorem orcLe_ok {L k p:Nat} (h1:1≤L) (h5:L≤5):∀ f args h t,orcLe L f args h=some t→CallOk (aP fun ρ _=>OkLe L k p ρ) f args h t:=by
  intro f args h t e
  unfold orcLe at e
  cases h42:Nat.beq f 42 with
  | true=>rw [h42,cond_true] at e; have:=ao.1 h42; subst this; exact so_any (fun ρ b k=>k.cs) (vals_at h1 h5).1 e
  | false =>
    rw [h42,cond_false] at e
    obtain ⟨h71,e⟩:=ai e
    have:=ao.1 h71; subst this
    split at e
    · obtain ⟨_,e⟩:=ai e
      obtain ⟨hi,e⟩:=ai e
      have hi:=Nat.le_of_ble_eq_true hi
      rcases fQ e with e | e
      · exact rowGo_ok (step_any h1 h5 hi fun ρ m k=>k.s) rfl rfl e
      · exact rowGo_ok (stepH_any h1 h5 hi fun ρ m k=>k.sh) rfl rfl e
    · cases e
theorem left19 {L k p:Nat} {arr:Bool} (h1:1≤L) (h5:L≤5) (hk:k < L) (hp:p≤k + 1):CallOk (aP fun ρ _=>OkLe L k p ρ) 19 (argsLe arr 1002 L k) (ah 2000 (vF L)) (.ret (resLe k p,ah 2000 (vF L))):=by
  have hck:=ckLe_at (arr:=arr) h1 h5 hk hp
  unfold ckLe at hck
  simp only [Bool.and_eq_true] at hck
  obtain ⟨hv,hck⟩:=hck
  have B:b7 (aP fun ρ _=>OkLe L k p ρ) Sx.Tryd.tt.get (tbLe L):=Tryd.tab (orcLe L) (orcLe_ok h1 h5) 2000
  have base:=bL B 60 19 (argsLe arr 1002 L k) (ah 2000 (vF L))
  have up:∀ g ∈ vF L,(ah 2000 (vF L)).get g.1=some g.2:=aC 2000 _ 0 rfl
  have fr:=base.frame (n:=2000) (l:=vF L) (by omega) (by cases arr <;> rfl) hv (fun g hg=>⟨g.2,up g hg,.refl _⟩) (by rw [av]; exact Nat.le_refl _) (fun _=>[])
  refine CallOk.read (p0:=aP fun ρ _=>OkLe L k p ρ) (p:=aP fun ρ _=>OkLe L k p ρ) rfl fr fun ρ b hb P hP=>⟨ρ,hb,SameL.refl _ _,⟨rfl,fun j o g=>⟨o,g,SameA.refl o⟩⟩,?_⟩
  obtain ⟨w,hw,_⟩:=hb
  have hw:OkLe L k p ρ:=hw
  obtain ⟨q1,q2⟩:=qPl_ok (nm:=540) hw.cs (fun k hk=>by
    have:=hw.f.pb k hk
    rw [show 540 + 2 * k + 1=540 + (2 * k + 1) by omega]; exact this) L 0 (by omega)
  have q3:∀ c ∈ fcLes k p,c.den ρ=true:=fun c hc=>by
    unfold fcLes at hc
    cases hb:Nat.ble p k with
    | true =>
      have hpk:=Nat.le_of_ble_eq_true hb
      rw [hb,cond_true] at hc
      rcases List.mem_cons.1 hc with rfl | hc
      · obtain ⟨e1,e2⟩:=lackE_den hw.s (show p < L by omega)
        have hn:=hw.f.st hpk
        unfold gC at hn
        have hn:¬ ((lackE 0 p).den ρ=0∧(lackE 1 p).den ρ=0):=by rw [e1,e2]; exact hn
        unfold lessC
        simp only [BE.den,aQ,IE.den,Bool.and_true,Bool.not_eq_true']
        apply Bool.eq_false_iff.2
        intro hc
        simp only [Bool.and_eq_true,beq_iff_eq] at hc
        exact hn hc
      · exact fcLe_ok hw.s p 0 (by omega) (fun i _ hi=>hw.f.go i (by omega) (by omega)) c hc
    | false =>
      have hpk:¬ p≤k:=fun h=>by rw [Nat.ble_eq_true_of_le h] at hb; cases hb
      rw [hb,cond_false] at hc
      exact fcLe_ok hw.s (k + 1) 0 (by omega) (fun i _ hi=>hw.f.go i (by omega) (by omega)) c hc
  refine dQ (ρ:=ρ) (fun K r hK hr=>?_) _ _ (fh q1 fun c hc=>?_) hck
  · obtain ⟨s1,s2⟩:=eX (p0:=aP fun ρ _=>OkLe L k p ρ) (p:=aP fun ρ _=>OkLe L k p ρ) rfl rfl (ρ:=ρ) hr
    exact ⟨_,hP,s1,s2⟩
  · rw [aI] at hc
    exact (List.mem_append.1 hc).elim (q2 c) (q3 c)
theorem takH_agreeL {ρ ρ':Rho} (A:cz ρ ρ') {i r:Nat} (hi:i < 7) (hr:r < 2):takH ρ i r=takH ρ' i r:=by
  unfold takH
  rw [A.iv (30 + 4 * i) (by omega),A.bv (32 + 4 * i) (by omega)]
  split
  · rw [A.iv (10 + 4 * r) (by omega)]
  · rw [A.iv (8 + 4 * r) (by omega)]
theorem hasH_agreeL {ρ ρ':Rho} (A:cz ρ ρ') {r:Nat} (hr:r < 2) (a w:Int):cy ρ r a w=cy ρ' r a w:=by
  unfold cy; rw [A.iv (6 + r) (by omega),A.iv (4 + r) (by omega)]
theorem leftH_agreeL {ρ ρ':Rho} (A:cz ρ ρ') {i r:Nat} (hi:i < 7) (hr:r < 2) (a w:Int):dW ρ i r a w=dW ρ' i r a w:=by
  unfold dW; rw [takH_agreeL A hi hr,hasH_agreeL A hr]
theorem fm {ρ ρ':Rho} (A:cz ρ ρ') (pl:Nat→Int):∀ k,k≤6→gB ρ pl k=gB ρ' pl k
  | 0,_=>by simp only [gB,A.iv 1 (by omega),A.iv 3 (by omega)]
  | k + 1,h=>by
    simp only [gB,fm A pl k (by omega),leftH_agreeL A (show k < 7 by omega) (show 0 < 2 by omega),leftH_agreeL A (show k < 7 by omega) (show 1 < 2 by omega)]
theorem fW {ρ ρ':Rho} (A:cz ρ ρ') (pl:Nat→Int) {j:Nat} (h:j≤5):gC ρ pl j ↔ gC ρ' pl j:=by
  unfold gC
  rw [ez A pl j (by omega),b9 A (show j < 7 by omega) (show 0 < 2 by omega),b9 A (show j < 7 by omega) (show 1 < 2 by omega)]
theorem leOk_agree {ρ ρ':Rho} (A:cz ρ ρ') {L k p:Nat} (h5:L≤5) (hk:k < L) {pl:Nat→Int} (h:LeOk L k p pl ρ):LeOk L k p pl ρ' :=
  ⟨fun j hj=>by rw [← A.iv (33 + 4 * j) (by omega)]; exact h.pb j hj,fun j h1 h2=>(fW A pl (by omega)).1 (h.go j h1 h2),fun hp hn=>h.st hp ((fW A pl (by omega)).2 hn)⟩
noncomputable def rhoH (ρ:Rho):Rho:=⟨ρ.iv,ρ.bv,fun f p a b=>if f=9310 then dW ρ p.toNat 0 a b else if f=9311 then dW ρ p.toNat 1 a b else if f=9312 then lackH ρ p.toNat 0 a b else if f=9313 then lackH ρ p.toNat 1 a b else ρ.fi f p a b,ρ.fb,ρ.ov⟩
theorem rhoH_H (ρ:Rho) (i:Nat) (a w:Int):FI (rhoH ρ).fi 9310 i a w=dW ρ i 0 a w∧FI (rhoH ρ).fi 9311 i a w=dW ρ i 1 a w∧FI (rhoH ρ).fi 9312 i a w=lackH ρ i 0 a w∧FI (rhoH ρ).fi 9313 i a w=lackH ρ i 1 a w:=by
  simp [FI,rhoH]
theorem rhoH_E (ρ:Rho) (i:Nat) (a w:Int):FI (rhoH ρ).fi 9300 i a w=FI ρ.fi 9300 i a w∧FI (rhoH ρ).fi 9301 i a w=FI ρ.fi 9301 i a w∧FI (rhoH ρ).fi 9302 i a w=FI ρ.fi 9302 i a w∧FI (rhoH ρ).fi 9303 i a w=FI ρ.fi 9303 i a w:=by
  simp [FI,rhoH]
noncomputable def resNm (nm k p:Nat):AV:=cond (Nat.ble p k) standsV (.tup [.agg [vi (nm + 4 * k),vi (nm + 4 * k + 1)],.agg [vi (nm + 4 * k + 2),vi (nm + 4 * k + 3)],li 0])
noncomputable def le19 (pE:Nat→IE) (arr:Bool) (pb nm L k p:Nat) (args:List AV) (h:Heap):Option (T (AV × Heap)) :=
  cond (and (cR args (argsLe arr pb L k)) (and (eY glC (h.get 0)) (and (eY (bd L 30) (h.get 1001)) (and (eY (eZ pE L 0) (h.get pb)) (Nat.ble 2000 h.next))))) (some (.ret (resNm nm k p,h))) none
def NmOk (nm k:Nat) (pl:Nat→Int) (ρ:Rho):Prop:=ρ.iv (nm + 4 * k)=(crs ρ pl (k + 1)).1∧ρ.iv (nm + 4 * k + 1)=(gB ρ pl (k + 1)).1∧ρ.iv (nm + 4 * k + 2)=(crs ρ pl (k + 1)).2∧ρ.iv (nm + 4 * k + 3)=(gB ρ pl (k + 1)).2
theorem le19_ok {ok : Rho → (Nat → Obj → Prop) → Prop} {pE : Nat → IE} {arr : Bool} {pb nm L k p : Nat} (h1 : 1 ≤ L) (h5 : L ≤ 5) (hkL : k < L) (hp : p ≤ k + 1)
    (hok:∀ ρ m,ok ρ m→(∀ d ∈ csV L,d.den ρ=true)∧LeOk L k p (fun j=>(pE j).den ρ) ρ∧(k < p→NmOk nm k (fun j=>(pE j).den ρ) ρ)) {args:List AV} {h:Heap} {t:T (AV × Heap)} (e:le19 pE arr pb nm L k p args h=some t):CallOk (aP ok) 19 args h t:=by
  unfold le19 at e
  obtain ⟨hk,k1⟩:=ai e
  clear e
  simp only [Bool.and_eq_true] at hk
  obtain ⟨g1,g2,g3,g4,_⟩:=hk
  obtain rfl:=aX _ _ g1
  obtain rfl:=Option.some.inj k1
  have hc1:CallOk (aP ok) 19 (argsLe arr 1002 L k) (ah 2000 (vFX pE L)) (.ret (resNm nm k p,ah 2000 (vFX pE L))):=by
    refine CallOk.read (p0:=aP fun ρ _=>OkLe L k p ρ) (p:=aP ok) rfl (left19 (arr:=arr) h1 h5 hkL hp) fun ρ b hb Q hQ=>?_
    obtain ⟨w,hw,hbw⟩:=hb
    obtain ⟨o1,o2,o3⟩:=hok ρ w hw
    let ρ1:Rho:=⟨fun j=>if j < 60 then ρ.iv j else (pE (j - 540)).den ρ,ρ.bv,ρ.fi,ρ.fb,ρ.ov⟩
    let ρ':=rhoH (fk ρ1 L)
    have iv:∀ j,j < 60→ρ.iv j=ρ'.iv j:=fun j hj=>(if_pos hj).symm
    have R:Reads IE.var ρ ρ':=⟨iv,fun _ _=>rfl⟩
    have A:cz ρ ρ':=⟨iv,fun _ _=>rfl⟩
    have A1:cz ρ1 ρ':=⟨fun _ _=>rfl,fun _ _=>rfl⟩
    have nm':∀ j,ρ'.iv (540 + j)=(pE j).den ρ:=fun j=>by
      show (if 540 + j < 60 then _ else (pE (540 + j - 540)).den ρ)=_
      rw [if_neg (by omega),Nat.add_sub_cancel_left]
    have hpl:(fun j=>ρ'.iv (540 + j))=fun j=>(pE j).den ρ:=funext nm'
    have hS:OkS L ρ':=fun i hi a w=>by
      have q:=rhoH_E (fk ρ1 L) i a w
      have s:=step_E ρ1 L i a w
      have l:=fun r (hr:r < 2)=>cJ A1 (i:=i) (r:=r) (by omega) hr a w
      have q':=fun r (hr:r < 2)=>b9 A1 (i:=i) (r:=r) (by omega) hr a w
      exact ⟨q.1.trans (s.1.trans (l 0 (by omega))),q.2.1.trans (s.2.1.trans (l 1 (by omega))),q.2.2.1.trans (s.2.2.1.trans (q' 0 (by omega))),q.2.2.2.trans (s.2.2.2.trans (q' 1 (by omega)))⟩
    have hH:OkSH L ρ':=fun i hi a w=>rhoH_H (fk ρ1 L) i a w
    have hf:OkLe L k p ρ':=⟨cF h5 iv o1,hS,hH,by rw [hpl]; exact leOk_agree A h5 hkL o2⟩
    have rows:=ey R h5
    have cells:SameL ρ (eZ pE L 0) ρ' (planN L 540):=fT L 0 fun j _ _=>(nm' j).symm
    have atX:∀ g ∈ vFX pE L,(ah 2000 (vFX pE L)).get g.1=some g.2:=aC 2000 _ 0 rfl
    have atF:∀ g ∈ vF L,(ah 2000 (vF L)).get g.1=some g.2:=aC 2000 _ 0 rfl
    refine ⟨ρ',⟨w,hf,hbw⟩,?_,⟨rfl,fun b o hg=>?_⟩,(resNm nm k p,ah 2000 (vFX pE L)),hQ,?_,⟨rfl,fun b o hg=>?_⟩⟩
    · exact SameL.cons (eD R _ _ _ _) (SameL.cons (by cases arr <;> exact fun _ _ _ _ _ _=>rfl) (fun _ _ _ _ _ _=>rfl))
    · have:=al _ _ _ _ hg
      simp only [vF,List.mem_cons,List.not_mem_nil,or_false] at this
      rcases this with h | h | h
      · cases h; exact ⟨_,atX (0,glO) (by simp [vFX]),SameA.cells rfl (fun _ _ _ _ _ _=>rfl)⟩
      · cases h; exact ⟨_,atX (1001,.cells (bd L 30) 0 false false) (by simp [vFX]),SameA.cells rfl rows⟩
      · cases h; exact ⟨_,atX (1002,.cells (eZ pE L 0) 0 false false) (by simp [vFX]),SameA.cells rfl cells⟩
    · unfold resLe resNm
      cases hb:Nat.ble p k with
      | true=>exact fun _ _ _ _ _ _=>rfl
      | false =>
        have hpk:k < p:=by
          by_cases h:p≤k
          · rw [Nat.ble_eq_true_of_le h] at hb; cases hb
          · omega
        obtain ⟨n0,n1,n2,n3⟩:=o3 hpk
        obtain ⟨d0,d1⟩:=aE_denS hS (k + 1) (by omega)
        obtain ⟨d2,d3⟩:=aH_denS hH (k + 1) (by omega)
        rw [hpl,← ez A _ _ (by omega)] at d0 d1
        rw [hpl,← fm A _ _ (by omega)] at d2 d3
        exact SameV.tupl (SameL.cons (SameV.agg (SameL.cons (SameV.int (d0.trans n0.symm)) (SameL.cons (SameV.int (d2.trans n1.symm)) SameL.nil))) (SameL.cons (SameV.agg (SameL.cons (SameV.int (d1.trans n2.symm)) (SameL.cons (SameV.int (d3.trans n3.symm)) SameL.nil))) (fun _ _ _ _ _ _=>rfl)))
    · have:=al _ _ _ _ hg
      simp only [vFX,List.mem_cons,List.not_mem_nil,or_false] at this
      rcases this with h | h | h
      · cases h; exact ⟨_,atF (0,glO) (by simp [vF]),SameA.cells rfl (fun _ _ _ _ _ _=>rfl)⟩
      · cases h; exact ⟨_,atF (1001,.cells (bd L 30) 0 false false) (by simp [vF]),SameA.cells rfl rows.symm⟩
      · cases h; exact ⟨_,atF (1002,.cells (planN L 540) 0 false false) (by simp [vF]),SameA.cells rfl cells.symm⟩
  refine hc1.moved (a:=1002) (c:=pb) (by omega) (by omega) (by unfold resNm; cases Nat.ble p k <;> rfl) (fun g hg=>?_) (fun g hg=>?_) fun E=>?_
  · simp only [vFX,List.mem_cons,List.not_mem_nil,or_false] at hg
    rcases hg with rfl | rfl | rfl
    · exact ⟨by show 0 < 2000; omega,rfl,rfl⟩
    · exact ⟨by show 1001 < 2000; omega,rfl,rowsV_ids L 30⟩
    · exact ⟨by show 1002 < 2000; omega,rfl,cellsE_ids pE 0 L 0⟩
  · simp only [vFX,List.mem_cons,List.not_mem_nil,or_false] at hg
    rcases hg with rfl | rfl | rfl
    · exact bG g2
    · exact bG g3
    · exact bG g4
  · have e1 : ad (E.mv 1002 pb 2000) (eu (.sliceX 1001 4 0 L)) = ad E (eu (.sliceX 1001 4 0 L)) := by
      refine mv_vx IE.var ?_ 22 0
      simp only [ad,af,Env.mv,mvN,show (1001:Nat) < 2000 by omega,if_true,show ¬ (1001:Nat)=1002 by omega,if_false]
    have e2:af (E.mv 1002 pb 2000) (plA arr 1002 L)=af E (plA arr pb L):=by
      cases arr <;> simp only [plA,cond_true,cond_false,af,Env.mv,mvN,show (1002:Nat) < 2000 by omega,if_true]
    simp only [argsLe,ad,af,e1,e2]
    rfl
end Go.Sx
namespace Go.Sx
open Go.RowKit Go.Proofs
set_option maxRecDepth 100000
theorem wr_in {x:Int} (h:-9223372036854775808≤x∧x≤9223372036854775807):wr x=x:=IntWalk.i64_in x h
theorem mul_in {a b h m:Int} (ha:0≤a∧a≤m) (hb:0≤b∧b≤h) (_hh:0≤h):0≤a * b∧a * b≤m * h :=
  ⟨Int.mul_nonneg ha.1 hb.1,Int.le_trans (Int.mul_le_mul_of_nonneg_right ha.2 hb.1) (Int.mul_le_mul_of_nonneg_left hb.2 (by omega))⟩
theorem gM (j:Nat) (h:Int):((j + 1:Nat):Int) * h=(j:Int) * h + h:=by
  rw [show ((j + 1:Nat):Int)=(j:Int) + 1 by omega,Int.add_mul,Int.one_mul]
section
variable {ρ:Rho} {L:Nat} (cs:∀ d ∈ csV L,d.den ρ=true)
include cs
theorem rate_in {kd:Nat} (hkd:kd < 2):(0≤ρ.iv (8 + 2 * kd)∧ρ.iv (8 + 2 * kd)≤ρ.iv (9 + 2 * kd)∧ρ.iv (9 + 2 * kd)≤3)∧(0≤ρ.iv (12 + 2 * kd)∧ρ.iv (12 + 2 * kd)≤ρ.iv (13 + 2 * kd)∧ρ.iv (13 + 2 * kd)≤3):=by
  have hb:=(cs_iff.1 cs).1
  have b0:=hb.b0; have b1:=hb.b1; have d0:=hb.d0; have d1:=hb.d1
  have:kd=0 ∨ kd=1:=by omega
  rcases this with rfl | rfl
  · exact ⟨b0,d0⟩
  · exact ⟨b1,d1⟩
theorem mins_in {k:Nat} (hk:k < L):1≤ρ.iv (30 + 4 * k)∧ρ.iv (30 + 4 * k)≤ρ.iv (31 + 4 * k)∧ρ.iv (31 + 4 * k)≤60:=by
  have:=((cs_iff.1 cs).2 k hk).min
  rw [show 30 + 4 * k + 1=31 + 4 * k by omega] at this
  exact this
theorem tak_val {k:Nat} (hk:k < L):fR ρ k 0=ρ.iv (31 + 4 * k) * ρ.iv (9 + 2 * kdR ρ k)∧fR ρ k 1=ρ.iv (31 + 4 * k) * ρ.iv (13 + 2 * kdR ρ k)∧takH ρ k 0=ρ.iv (30 + 4 * k) * ρ.iv (8 + 2 * kdR ρ k)∧takH ρ k 1=ρ.iv (30 + 4 * k) * ρ.iv (12 + 2 * kdR ρ k):=by
  have m:=mins_in cs hk
  have hr:=rate_in cs (kdR_lt ρ k)
  have w:∀ a b:Int,(0≤a∧a≤60)→(0≤b∧b≤3)→IntKind.i64.wrap (a * b)=a * b:=fun a b ha hb=>by
    have:=mul_in ha hb (by omega)
    exact IntWalk.i64_in _ (by omega)
  have a1:=w (ρ.iv (31 + 4 * k)) (ρ.iv (9 + 2 * kdR ρ k)) (by omega) (by omega)
  have a2:=w (ρ.iv (31 + 4 * k)) (ρ.iv (13 + 2 * kdR ρ k)) (by omega) (by omega)
  have a3:=w (ρ.iv (30 + 4 * k)) (ρ.iv (8 + 2 * kdR ρ k)) (by omega) (by omega)
  have a4:=w (ρ.iv (30 + 4 * k)) (ρ.iv (12 + 2 * kdR ρ k)) (by omega) (by omega)
  unfold fR takH
  by_cases h:ρ.bv (32 + 4 * k)=true
  · have e:kdR ρ k=1:=by unfold kdR; rw [if_pos h]
    rw [e] at a1 a2 a3 a4 ⊢
    simp only [if_pos h]
    exact ⟨a1,a2,a3,a4⟩
  · have e:kdR ρ k=0:=by unfold kdR; rw [if_neg h]
    rw [e] at a1 a2 a3 a4 ⊢
    simp only [if_neg h]
    exact ⟨a1,a2,a3,a4⟩
variable (D:DrIn ρ)
include D
theorem burn_in {kd:Nat} (hkd:kd < 2) (a:Int):(ρ.iv (8 + 2 * kd)≤fU ρ kd a∧fU ρ kd a≤ρ.iv (9 + 2 * kd))∧(ρ.iv (12 + 2 * kd)≤b8 ρ kd a∧b8 ρ kd a≤ρ.iv (13 + 2 * kd)):=by
  have hr:=rate_in cs hkd
  exact ⟨D _ _ _ (by omega) (by omega) (by omega),D _ _ _ (by omega) (by omega) (by omega)⟩
theorem min_inv {k kd : Nat} (hkd : kd < 2) {s0 : Mn} (h0 : 0 ≤ s0.c ∧ s0.c ≤ 99) (h1 : 0 ≤ s0.w ∧ s0.w ≤ 99) : ∀ j, (∀ i, i < j → ¬ bM ρ kd (stM ρ k kd s0 i)) →
    (0≤(stM ρ k kd s0 j).c∧s0.c - j * ρ.iv (9 + 2 * kd)≤(stM ρ k kd s0 j).c∧(stM ρ k kd s0 j).c≤s0.c - j * ρ.iv (8 + 2 * kd)) ∧
    (0≤(stM ρ k kd s0 j).w∧s0.w - j * ρ.iv (13 + 2 * kd)≤(stM ρ k kd s0 j).w∧(stM ρ k kd s0 j).w≤s0.w - j * ρ.iv (12 + 2 * kd))
  | 0,_=>by
    show (0≤s0.c∧s0.c - (0:Int) * _≤s0.c∧s0.c≤s0.c - (0:Int) * _)∧(0≤s0.w∧s0.w - (0:Int) * _≤s0.w∧s0.w≤s0.w - (0:Int) * _)
    simp only [Int.zero_mul]; omega
  | j + 1,hj=>by
    obtain ⟨⟨c1,c2,c3⟩,w1,w2,w3⟩:=min_inv hkd h0 h1 j fun i hi=>hj i (by omega)
    have hn:=hj j (by omega)
    have hb:=burn_in cs D hkd (stM ρ k kd s0 j).a
    have hr:=rate_in cs hkd
    have p1:=Int.mul_nonneg (show (0:Int)≤j by omega) hr.1.1
    have p2:=Int.mul_nonneg (show (0:Int)≤j by omega) hr.2.1
    unfold bM at hn
    simp only [not_or,Int.not_lt] at hn
    have e1:(stM ρ k kd s0 (j + 1)).c=wr ((stM ρ k kd s0 j).c - fU ρ kd (stM ρ k kd s0 j).a):=rfl
    have e2:(stM ρ k kd s0 (j + 1)).w=wr ((stM ρ k kd s0 j).w - b8 ρ kd (stM ρ k kd s0 j).a):=rfl
    rw [e1,e2,wr_in (by omega),wr_in (by omega),gM,gM,gM,gM]
    omega
theorem part_end {pl : Nat → Int} {k : Nat} (hk : k < L) {S : Mn} (h0 : 0 ≤ (st0 ρ pl k S).c ∧ (st0 ρ pl k S).c ≤ 99) (h1 : 0 ≤ (st0 ρ pl k S).w ∧ (st0 ρ pl k S).w ≤ 99) :
    (¬ jS ρ pl k S < (nmM ρ k S).toNat →
      (0≤(endM ρ pl k S).c∧(st0 ρ pl k S).c - fR ρ k 0≤(endM ρ pl k S).c∧(endM ρ pl k S).c≤(st0 ρ pl k S).c - takH ρ k 0) ∧
      (0≤(endM ρ pl k S).w∧(st0 ρ pl k S).w - fR ρ k 1≤(endM ρ pl k S).w∧(endM ρ pl k S).w≤(st0 ρ pl k S).w - takH ρ k 1)) ∧
    (jS ρ pl k S < (nmM ρ k S).toNat→(st0 ρ pl k S).c < fR ρ k 0 ∨ (st0 ρ pl k S).w < fR ρ k 1):=by
  obtain ⟨t0,t1,t2,t3⟩:=tak_val cs hk
  obtain ⟨j1,j2,j3⟩:=jS_spec ρ pl k S
  have hkd:=kdR_lt ρ k
  have hr:=rate_in cs hkd
  have hm:=min_in D cs hk S
  have inv:=min_inv cs D (k:=k) hkd h0 h1 (jS ρ pl k S) j2
  rw [t0,t1,t2,t3]
  have lo:∀ h:Int,0≤h→ρ.iv (30 + 4 * k) * h≤nmM ρ k S * h:=fun h hh=>Int.mul_le_mul_of_nonneg_right hm.1 hh
  have hi:∀ (x h:Int),x≤nmM ρ k S→0≤h→x * h≤ρ.iv (31 + 4 * k) * h:=fun x h hx hh=>Int.mul_le_mul_of_nonneg_right (by omega) hh
  constructor
  · intro hns
    have hj:jS ρ pl k S=(nmM ρ k S).toNat:=by omega
    have hN:(((nmM ρ k S).toNat:Nat):Int)=nmM ρ k S:=Int.toNat_of_nonneg (by omega)
    have a1:=lo _ hr.1.1
    have a2:=lo _ hr.2.1
    have b1:=hi (nmM ρ k S) (ρ.iv (9 + 2 * kdR ρ k)) (Int.le_refl _) (by omega)
    have b2:=hi (nmM ρ k S) (ρ.iv (13 + 2 * kdR ρ k)) (Int.le_refl _) (by omega)
    rw [hj,hN] at inv
    have e:endM ρ pl k S=stM ρ k (kdR ρ k) (st0 ρ pl k S) (nmM ρ k S).toNat:=by unfold endM; rw [hj]
    rw [e]
    omega
  · intro hs
    have hstop:=j3 hs
    have hb:=burn_in cs D hkd (endM ρ pl k S).a
    have hJ:((jS ρ pl k S + 1:Nat):Int)≤nmM ρ k S:=by omega
    have b1:=hi _ (ρ.iv (9 + 2 * kdR ρ k)) hJ (by omega)
    have b2:=hi _ (ρ.iv (13 + 2 * kdR ρ k)) hJ (by omega)
    rw [gM] at b1 b2
    have e:endM ρ pl k S=stM ρ k (kdR ρ k) (st0 ρ pl k S) (jS ρ pl k S):=rfl
    rw [← e] at inv
    unfold bM at hstop
    rcases hstop with h | h
    · left; omega
    · right; omega
end
section
variable {ρ:Rho} {L r:Nat} {a w:Int} (B:Bds ρ L) (hr:r < 2) (ha:0≤a∧a≤99) (hw:0≤w∧w≤5)
include B hr ha hw
theorem hasI_eq:cy ρ r a w=(if a + w * ρ.iv (6 + r) < ρ.iv (4 + r) then a + w * ρ.iv (6 + r) else ρ.iv (4 + r)):=by
  obtain ⟨n,rfl⟩:=Int.eq_ofNat_of_zero_le hw.1
  exact has_eq B hr ha (show n≤5 by omega)
theorem ff:0≤cy ρ r a w∧cy ρ r a w≤99:=by
  obtain ⟨n,rfl⟩:=Int.eq_ofNat_of_zero_le hw.1
  exact has_bd B hr ha (show n≤5 by omega)
theorem leftI_eq {i:Nat} (hi:i < L):aG ρ i r a w=cy ρ r a w - (if fR ρ i r < cy ρ r a w then fR ρ i r else cy ρ r a w)∧bA ρ i r a w=fR ρ i r - (if fR ρ i r < cy ρ r a w then fR ρ i r else cy ρ r a w):=by
  obtain ⟨n,rfl⟩:=Int.eq_ofNat_of_zero_le hw.1
  exact left_eq B hr ha (show n≤5 by omega) hi
theorem eB {a':Int} (h:a≤a'∧a'≤99):cy ρ r a w≤cy ρ r a' w:=by
  rw [hasI_eq B hr ha hw,hasI_eq B hr (by omega) hw]
  split <;> split <;> omega
end
section
variable {ρ:Rho} {L:Nat} {pl:Nat→Int} (cs:∀ d ∈ csV L,d.den ρ=true) (D:DrIn ρ) (hpl:∀ j,j < 2 * L→0≤pl j∧pl j≤5)
include cs D hpl
theorem course_in : ∀ k, k ≤ L → (∀ i, i < k → aY ρ L pl i = false) →
    (0≤(crs ρ pl k).1∧(crs ρ pl k).1≤(aT ρ L pl k).c∧(aT ρ L pl k).c≤(gB ρ pl k).1∧(gB ρ pl k).1≤99)∧(0≤(crs ρ pl k).2∧(crs ρ pl k).2≤(aT ρ L pl k).w∧(aT ρ L pl k).w≤(gB ρ pl k).2∧(gB ρ pl k).2≤99)
  | 0,_,_=>by
    have hb:=(cs_iff.1 cs).1
    have r0:=hb.room0; have r1:=hb.room1; have c0:=hb.coal; have c2:=hb.water
    have d0:=D 0 (ρ.iv 0) (ρ.iv 1) (by omega) (by omega) (by omega)
    have d1:=D (wr (0 + 1)) (ρ.iv 2) (ρ.iv 3) (by omega) (by omega) (by omega)
    show (0≤ρ.iv 0∧ρ.iv 0≤drw ρ 0 (ρ.iv 0) (ρ.iv 1)∧drw ρ 0 (ρ.iv 0) (ρ.iv 1)≤ρ.iv 1∧ρ.iv 1≤99)∧(0≤ρ.iv 2∧ρ.iv 2≤drw ρ (wr (0 + 1)) (ρ.iv 2) (ρ.iv 3)∧drw ρ (wr (0 + 1)) (ρ.iv 2) (ρ.iv 3)≤ρ.iv 3∧ρ.iv 3≤99)
    omega
  | k + 1,hk,hst=>by
    obtain ⟨⟨a1,a2,a3,a4⟩,b1,b2,b3,b4⟩:=course_in k (by omega) fun i hi=>hst i (by omega)
    have B:Bds ρ L:=bds_cs cs
    have p0:=hpl (2 * k) (by omega)
    have p1:=hpl (2 * k + 1) (by omega)
    have hk':k < L:=by omega
    have h0:=ff B (r:=0) (by omega) (a:=(aT ρ L pl k).c) (by omega) p0
    have h1:=ff B (r:=1) (by omega) (a:=(aT ρ L pl k).w) (by omega) p1
    have m0:=eB B (r:=0) (by omega) (a:=(crs ρ pl k).1) (a':=(aT ρ L pl k).c) (by omega) p0 (by omega)
    have m1:=eB B (r:=1) (by omega) (a:=(crs ρ pl k).2) (a':=(aT ρ L pl k).w) (by omega) p1 (by omega)
    have M0:=eB B (r:=0) (by omega) (a:=(aT ρ L pl k).c) (a':=(gB ρ pl k).1) (by omega) p0 (by omega)
    have M1:=eB B (r:=1) (by omega) (a:=(aT ρ L pl k).w) (a':=(gB ρ pl k).2) (by omega) p1 (by omega)
    have u0:=ff B (r:=0) (by omega) (a:=(gB ρ pl k).1) (by omega) p0
    have u1:=ff B (r:=1) (by omega) (a:=(gB ρ pl k).2) (by omega) p1
    have v0:=ff B (r:=0) (by omega) (a:=(crs ρ pl k).1) (by omega) p0
    have v1:=ff B (r:=1) (by omega) (a:=(crs ρ pl k).2) (by omega) p1
    have l0:=(leftI_eq B (r:=0) (by omega) (a:=(crs ρ pl k).1) (by omega) p0 hk').1
    have l1:=(leftI_eq B (r:=1) (by omega) (a:=(crs ρ pl k).2) (by omega) p1 hk').1
    have pe:=(part_end cs D hk' (pl:=pl) (S:=aT ρ L pl k) h0 h1).1 (fun h=>by
      have:=hst k (by omega)
      unfold aY at this
      rw [show Nat.blt (jS ρ pl k (aT ρ L pl k)) (nmM ρ k (aT ρ L pl k)).toNat=true from Nat.ble_eq_true_of_le h] at this
      cases this)
    have t0:=B.tak k hk' 0 (by omega)
    have t1:=B.tak k hk' 1 (by omega)
    obtain ⟨_,_,q0,q1⟩:=tak_val cs hk'
    have mi:=mins_in cs hk'
    have hr:=rate_in cs (kdR_lt ρ k)
    have qb0:0≤takH ρ k 0∧takH ρ k 0≤60 * 3:=by rw [q0]; exact mul_in (by omega) (by omega) (by omega)
    have qb1:0≤takH ρ k 1∧takH ρ k 1≤60 * 3:=by rw [q1]; exact mul_in (by omega) (by omega) (by omega)
    have e0:(st0 ρ pl k (aT ρ L pl k)).c=cy ρ 0 (aT ρ L pl k).c (pl (2 * k)):=rfl
    have e1:(st0 ρ pl k (aT ρ L pl k)).w=cy ρ 1 (aT ρ L pl k).w (pl (2 * k + 1)):=rfl
    rw [e0,e1] at pe
    have g0:dW ρ k 0 (gB ρ pl k).1 (pl (2 * k))=cy ρ 0 (gB ρ pl k).1 (pl (2 * k)) - (if takH ρ k 0 < cy ρ 0 (gB ρ pl k).1 (pl (2 * k)) then takH ρ k 0 else cy ρ 0 (gB ρ pl k).1 (pl (2 * k))):=by
      unfold dW
      exact IntWalk.i64_in _ (by split <;> omega)
    have g1:dW ρ k 1 (gB ρ pl k).2 (pl (2 * k + 1))=cy ρ 1 (gB ρ pl k).2 (pl (2 * k + 1)) - (if takH ρ k 1 < cy ρ 1 (gB ρ pl k).2 (pl (2 * k + 1)) then takH ρ k 1 else cy ρ 1 (gB ρ pl k).2 (pl (2 * k + 1))):=by
      unfold dW
      exact IntWalk.i64_in _ (by split <;> omega)
    show (0≤aG ρ k 0 (crs ρ pl k).1 (pl (2 * k))∧aG ρ k 0 (crs ρ pl k).1 (pl (2 * k))≤(endM ρ pl k (aT ρ L pl k)).c∧(endM ρ pl k (aT ρ L pl k)).c≤dW ρ k 0 (gB ρ pl k).1 (pl (2 * k))∧dW ρ k 0 (gB ρ pl k).1 (pl (2 * k))≤99) ∧
      (0≤aG ρ k 1 (crs ρ pl k).2 (pl (2 * k + 1))∧aG ρ k 1 (crs ρ pl k).2 (pl (2 * k + 1))≤(endM ρ pl k (aT ρ L pl k)).w∧(endM ρ pl k (aT ρ L pl k)).w≤dW ρ k 1 (gB ρ pl k).2 (pl (2 * k + 1))∧dW ρ k 1 (gB ρ pl k).2 (pl (2 * k + 1))≤99)
    rw [l0,l1,g0,g1]
    refine ⟨⟨?_,?_,?_,?_⟩,?_,?_,?_,?_⟩ <;> split <;> omega
theorem stands_lack {k:Nat} (hk:k < L) (hst:∀ i,i < k→aY ρ L pl i=false) (h:aY ρ L pl k=true):¬ gC ρ pl k:=by
  obtain ⟨⟨a1,a2,a3,a4⟩,b1,b2,b3,b4⟩:=course_in cs D hpl k (by omega) hst
  have B:Bds ρ L:=bds_cs cs
  have p0:=hpl (2 * k) (by omega)
  have p1:=hpl (2 * k + 1) (by omega)
  have h0:=ff B (r:=0) (by omega) (a:=(aT ρ L pl k).c) (by omega) p0
  have h1:=ff B (r:=1) (by omega) (a:=(aT ρ L pl k).w) (by omega) p1
  have m0:=eB B (r:=0) (by omega) (a:=(crs ρ pl k).1) (a':=(aT ρ L pl k).c) (by omega) p0 (by omega)
  have m1:=eB B (r:=1) (by omega) (a:=(crs ρ pl k).2) (a':=(aT ρ L pl k).w) (by omega) p1 (by omega)
  have l0:=(leftI_eq B (r:=0) (by omega) (a:=(crs ρ pl k).1) (by omega) p0 hk).2
  have l1:=(leftI_eq B (r:=1) (by omega) (a:=(crs ρ pl k).2) (by omega) p1 hk).2
  unfold aY at h
  have pe:=(part_end cs D hk (pl:=pl) (S:=aT ρ L pl k) h0 h1).2 (Nat.le_of_ble_eq_true h)
  have e0:(st0 ρ pl k (aT ρ L pl k)).c=cy ρ 0 (aT ρ L pl k).c (pl (2 * k)):=rfl
  have e1:(st0 ρ pl k (aT ρ L pl k)).w=cy ρ 1 (aT ρ L pl k).w (pl (2 * k + 1)):=rfl
  rw [e0,e1] at pe
  unfold gC
  rw [l0,l1]
  rintro ⟨q0,q1⟩
  split at q0 <;> split at q1 <;> omega
theorem dark_may {k j : Nat} (hk : k < L) (hst : ∀ i, i < k → aY ρ L pl i = false) (hj : j < jS ρ pl k (aT ρ L pl k)) (hl : kdR ρ k = 1)
    (hc:curM ρ (stM ρ k (kdR ρ k) (st0 ρ pl k (aT ρ L pl k)) j).a (stM ρ k (kdR ρ k) (st0 ρ pl k (aT ρ L pl k)) (j + 1)).w < ρ.iv 21):mayK ρ pl k=true:=by
  obtain ⟨⟨a1,a2,a3,a4⟩,b1,b2,b3,b4⟩:=course_in cs D hpl k (by omega) hst
  have B:Bds ρ L:=bds_cs cs
  have p0:=hpl (2 * k) (by omega)
  have p1:=hpl (2 * k + 1) (by omega)
  have h0:=ff B (r:=0) (by omega) (a:=(aT ρ L pl k).c) (by omega) p0
  have h1:=ff B (r:=1) (by omega) (a:=(aT ρ L pl k).w) (by omega) p1
  have m1:=eB B (r:=1) (by omega) (a:=(crs ρ pl k).2) (a':=(aT ρ L pl k).w) (by omega) p1 (by omega)
  obtain ⟨l1,l2⟩:=leftI_eq B (r:=1) (by omega) (a:=(crs ρ pl k).2) (by omega) p1 hk
  obtain ⟨_,t1,_,_⟩:=tak_val cs hk
  have js:=jS_spec ρ pl k (aT ρ L pl k)
  have hkd:=kdR_lt ρ k
  have hr:=rate_in cs hkd
  have hm:=min_in D cs hk (aT ρ L pl k)
  have inv:=(min_inv cs D (k:=k) hkd (s0:=st0 ρ pl k (aT ρ L pl k)) h0 h1 (j + 1) (fun i hi=>js.2.1 i (by omega))).2
  have hJ:((j + 1:Nat):Int) * ρ.iv (13 + 2 * kdR ρ k)≤fR ρ k 1:=by
    rw [t1]
    exact Int.mul_le_mul_of_nonneg_right (by omega) (by omega)
  have e1:(st0 ρ pl k (aT ρ L pl k)).w=cy ρ 1 (aT ρ L pl k).w (pl (2 * k + 1)):=rfl
  rw [e1] at inv
  generalize hw':(stM ρ k (kdR ρ k) (st0 ρ pl k (aT ρ L pl k)) (j + 1)).w=w' at hc inv
  unfold mayK mayF
  by_cases hlk:bA ρ k 0 (crs ρ pl k).1 (pl (2 * k))=0∧bA ρ k 1 (crs ρ pl k).2 (pl (2 * k + 1))=0
  · have hlight : ρ.bv (32 + 4 * k) = true := by
      unfold kdR at hl
      split at hl
      · assumption
      · omega
    have hlw:aG ρ k 1 (crs ρ pl k).2 (pl (2 * k + 1))≤w':=by
      have:=hlk.2
      rw [l2] at this
      rw [l1]
      split at this
      · split <;> omega
      · split <;> omega
    have hb:=(cs_iff.1 cs).1
    have hf:=hb.full; have hwk:=hb.weak; have hcur:=hb.cur
    have key:cI ρ k (aG ρ k 1 (crs ρ pl k).2 (pl (2 * k + 1)))=true:=by
      unfold cI
      rw [hlight,Bool.true_and]
      unfold curM at hc
      split at hc
      · have d:=D (wr (wr ((stM ρ k (kdR ρ k) (st0 ρ pl k (aT ρ L pl k)) j).a + 1) + 1)) (ρ.iv 18) (ρ.iv 19) (by omega) (by omega) (by omega)
        rw [if_pos (by omega)]
        exact decide_eq_true (by omega)
      · have d:=D (wr (wr ((stM ρ k (kdR ρ k) (st0 ρ pl k (aT ρ L pl k)) j).a + 1) + 1)) (ρ.iv 16) (ρ.iv 17) (by omega) (by omega) (by omega)
        split
        · exact decide_eq_true (by omega)
        · exact decide_eq_true (by omega)
    rw [key,Bool.or_true]
  · rw [decide_eq_false hlk]; rfl
theorem fail_min {n k : Nat} (hn : ∀ i, i < n → mayK ρ pl i = false) (hk : k < L) (hst : ∀ i, i < k → aY ρ L pl i = false) (hf : (n : Int) ≤ (aT ρ L pl k).f) :
    ∀ j,j≤jS ρ pl k (aT ρ L pl k)→(n:Int)≤(stM ρ k (kdR ρ k) (st0 ρ pl k (aT ρ L pl k)) j).f
  | 0,_=>hf
  | j + 1,hj=>by
    have ih:=fail_min hn hk hst hf j (by omega)
    have e:(stM ρ k (kdR ρ k) (st0 ρ pl k (aT ρ L pl k)) (j + 1)).f=if kdR ρ k=1∧curM ρ (stM ρ k (kdR ρ k) (st0 ρ pl k (aT ρ L pl k)) j).a (stM ρ k (kdR ρ k) (st0 ρ pl k (aT ρ L pl k)) (j + 1)).w < ρ.iv 21 then mnI (stM ρ k (kdR ρ k) (st0 ρ pl k (aT ρ L pl k)) j).f k else (stM ρ k (kdR ρ k) (st0 ρ pl k (aT ρ L pl k)) j).f:=rfl
    rw [e]
    split
    · rename_i h
      have hm:=dark_may cs D hpl hk hst (show j < _ by omega) h.1 h.2
      have hnk:n≤k:=by
        by_cases hlt:k < n
        · rw [hn k hlt] at hm; cases hm
        · omega
      unfold mnI
      split <;> omega
    · exact ih
theorem fail_in {n:Nat} (hn:∀ i,i < n→mayK ρ pl i=false) (hnL:n≤L):∀ k,k≤L→(∀ i,i < k→aY ρ L pl i=false)→(n:Int)≤(aT ρ L pl k).f
  | 0,_,_=>by rw [hap0f]; omega
  | k + 1,hk,hst=>fail_min cs D hpl hn (by omega) (fun i hi=>hst i (by omega)) (fail_in hn hnL k (by omega) fun i hi=>hst i (by omega)) _ (Nat.le_refl _)
theorem fail_all {n p:Nat} (hn:∀ i,i < n→mayK ρ pl i=false) (hnL:n≤L) (H:HapOk L p pl ρ):(n:Int)≤hapF ρ L pl p:=by
  have hle:=H.le
  unfold hapF
  split
  · rename_i hp
    have hst:∀ i,i < p→aY ρ L pl i=false:=fun i hi=>(H.st i (by omega) (by omega)).trans (decide_eq_false (by omega))
    have hs:aY ρ L pl p=true:=(H.st p hp (Nat.le_refl _)).trans (decide_eq_true rfl)
    have h1:=fail_min cs D hpl hn hp hst (fail_in cs D hpl hn hnL p (by omega) hst) _ (Nat.le_refl _)
    have h2:=stands_lack cs D hpl hp hst hs
    have h3:mayK ρ pl p=true:=by
      have h2:¬ (bA ρ p 0 (crs ρ pl p).1 (pl (2 * p))=0∧bA ρ p 1 (crs ρ pl p).2 (pl (2 * p + 1))=0):=h2
      unfold mayK mayF
      rw [decide_eq_false h2]; rfl
    have hnp:n≤p:=by
      by_cases hlt:p < n
      · rw [hn p hlt] at h3; cases h3
      · omega
    have e:(aT ρ L pl (p + 1)).f=(stM ρ p (kdR ρ p) (st0 ρ pl p (aT ρ L pl p)) (jS ρ pl p (aT ρ L pl p))).f:=rfl
    rw [e]
    unfold mnI
    split <;> omega
  · rename_i hp
    exact fail_in cs D hpl hn hnL L (Nat.le_refl _) fun i hi=>(H.st i hi (by omega)).trans (decide_eq_false (by omega))
end
end Go.Sx
namespace Go.Sx
open Go.RowKit Go.Proofs
set_option maxRecDepth 100000
noncomputable def pk2E (k:Nat):IE:=.app 1010 (lt k) (.lit 0) (.lit 0)
noncomputable def plE (nm:Nat):Nat→IE:=fun j=>.var (nm + j)
noncomputable def tuO (pk:Nat→IE) (args:List AV) (h:Heap):Nat→Option (T (AV × Heap))
  | 0=>none
  | n + 1=>orElse (tu2 (pk (2 * n)) (addE (.var (33 + 4 * n)) (.lit 1)) (.var (800 + 2 * n)) args h) (orElse (tu2 (pk (2 * n + 1)) (addE (.bin .sub .i64 (.var (33 + 4 * n)) (.var (800 + 2 * n))) (.lit 1)) (.var (800 + 2 * n + 1)) args h) (tuO pk args h n))
noncomputable def pbT (kb:Bool) (L:Nat):Nat:=cond kb (2008 + 6 * L) (2001 + 2 * L)
noncomputable def upK (q k:Nat):Nat:=cond (Nat.blt k q) (k + 1) q
noncomputable def leO (L q:Nat) (kb:Bool) (args:List AV) (h:Heap):Option (T (AV × Heap)):=match args with
  | [_,.slice _ _ _ _,.int _ (.lit (.ofNat k))]=>cond (and kb (Nat.blt k L)) (le19 (plE 710) false 2001 1100 L k (upK L k) args h) none
  | [_,.sliceX _ _ _ _,.int _ (.lit (.ofNat k))]=>cond (Nat.blt k L) (le19 (plE 800) true (pbT kb L) 1140 L k (upK q k) args h) none
  | _=>none
noncomputable def orcTr (L n q p:Nat) (kb:Bool) (f:FuncId) (args:List AV) (h:Heap):Option (T (AV × Heap)) :=
  cond (Nat.beq f 7) (gP gl args h) (cond (Nat.beq f 6) (soGo L args h)
    (cond (Nat.beq f 8) (tuO pk2E args h L)
    (cond (Nat.beq f 36) (pick2Go args h)
    (cond (Nat.beq f 9) (pl12 IE.var 710 1001 L kb args h)
    (cond (Nat.beq f 16) (fa18 (plE 800) true (pbT kb L) L n args h)
    (cond (Nat.beq f 13) (orElse (cond kb (hapGo IE.var (plE 710) false false 1180 1001 2001 2002 L L args h) none) (hapGo IE.var (plE 800) false true 1210 1001 (pbT kb L) (pbT kb L + 1) L p args h))
    (cond (Nat.beq f 19) (leO L q kb args h) none)))))))
noncomputable def tbTr (L n q p:Nat) (kb:Bool):gY:=⟨Sx.Tryd.ft.get,aA Sx.Tryd.rt,2000,orcTr L n q p kb⟩
noncomputable def fcIn (nl nh:Nat):Nat→List BE
  | 0=>[]
  | k + 1=>leV (.var (nl + 4 * k)) (.var (nh + 2 * k)) :: leV (.var (nh + 2 * k)) (.var (nl + 4 * k + 1)) :: leV (.var (nl + 4 * k + 2)) (.var (nh + 2 * k + 1)) :: leV (.var (nh + 2 * k + 1)) (.var (nl + 4 * k + 3)) :: fcIn nl nh k
noncomputable def qTr (L:Nat) (kb:Bool):List (Nat × Int × Int):=cond kb (qPl 710 L 0) []
noncomputable def fcTr (L n q:Nat) (kb:Bool):List BE:=leV (lt n) (.var 1230) :: cV (fcIn 1140 1210 q) (cond kb (leV (lt L) (.var 1200) :: cV (fcPl 710 L 0) (fcIn 1100 1180 L)) [])
noncomputable def xsTr:List AV:=[.sliceU 96,.sliceU 97]
noncomputable def lawTr (L n q p:Nat) (kb:Bool):Bool:=allK isTrueK (b6 (tbTr L n q p kb) 60 false 4 (.agg (eu (.sliceX 1001 4 0 L)) :: xsTr) (bh 2000 (lB L))) (knOf (qTr L kb) (fcTr L n q kb))
noncomputable def lawTn (L n:Nat):Bool:=bF (fun q=>cond (Nat.blt q n) true (bF (fun p=>cond (Nat.blt p q) true (and (lawTr L n q p true) (cond (Nat.blt n L) (lawTr L n q p false) true))) (cntD (L + 1)))) (cntD (L + 1))
noncomputable def ckT (L:Nat):Bool:=and (ckH false false 1001 2001 2002 L L) (bF (fun p=>and (ckH false true 1001 (pbT true L) (pbT true L + 1) L p) (ckH false true 1001 (pbT false L) (pbT false L + 1) L p)) (cntD (L + 1)))
end Go.Sx
