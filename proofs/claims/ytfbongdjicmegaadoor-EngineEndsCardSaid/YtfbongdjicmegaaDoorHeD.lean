/- HeD -/
import Derived.Test.YtfbongdjicmegaaDoorHeM
import Derived.Test.YtfbongdjicmegaaDoorHeC4
import Derived.Test.YtfbongdjicmegaaDoorHeC5
import Derived.Test.YtfbongdjicmegaaDoorHeK0
import Derived.Test.YtfbongdjicmegaaDoorHeK1
import Derived.Test.YtfbongdjicmegaaDoorHeK2
import Derived.Test.YtfbongdjicmegaaDoorHeK3
import Derived.Test.YtfbongdjicmegaaDoorHeK4
import Derived.Test.YtfbongdjicmegaaDoorHeK5
import Derived.Test.YtfbongdjicmegaaDoorHeK6
import Derived.Test.YtfbongdjicmegaaDoorHeK7
import Derived.Test.YtfbongdjicmegaaDoorHeK8
import Derived.Test.YtfbongdjicmegaaDoorHeK9
namespace Go.Sx
open Go.RowKit Go.Proofs
set_option maxRecDepth 100000
theorem ckE_at {L p:Nat} (h1:1≤L) (h5:L≤5) (hp:p≤L):ckH true true (qwE L) (pbE L) (qwE L + 1) L p=true∧ckH true true (qbE L) (pbE L) (qbE L + 1) L p=true:=by
  have h:ckE L=true:=by
    rcases Nat.lt_or_ge L 5 with h | h
    · exact av ckE4 L (by simp only [List.mem_cons,List.not_mem_nil,or_false]; omega)
    · have:L=5:=by omega
      subst this; exact ckE5
  have:=av h p (bP (by omega))
  simp only [Bool.and_eq_true] at this
  exact this
structure OkEd (L n q p i:Nat) (kb:Bool) (ρ:Rho) (m:Nat→Obj→Prop):Prop where
  cs:∀ d ∈ csV L,d.den ρ=true
  mn:okMn true ρ m
  pk:gB ρ m
  to:∀ k,k < L→bO ((pk1E (2 * k)).den ρ) (ρ.iv (33 + 4 * k) + 1)=ρ.iv (800 + 2 * k)∧bO ((pk1E (2 * k + 1)).den ρ) (ρ.iv (33 + 4 * k) - ρ.iv (800 + 2 * k) + 1)=ρ.iv (800 + 2 * k + 1)
  wk:∀ k,k < L→0≤ρ.iv (800 + 2 * k)∧ρ.iv (800 + 2 * k)≤ρ.iv (33 + 4 * k)
  ti:bO (ρ.iv 88) L=i
  p0:OkPl L kb (rhoR IE.var 710 ρ)
  p1:OkPl L kb (rhoR eW 710 ρ)
  fo:FaOk L n (fun j=>ρ.iv (800 + j)) ρ
  hw:HapNm eW (plE 800) 1180 L q ρ
  hb:HapNm eB (plE 800) 1210 L p ρ
  lo:LeOk L i (upK q i) (fun j=>ρ.iv (800 + j)) ρ∧(i < upK q i→NmOk 1140 i (fun j=>ρ.iv (800 + j)) ρ)
  fc:∀ c ∈ fcEd n q i,c.den ρ=true
theorem orcEd_ok {L n q p i:Nat} {kb:Bool} (h1:1≤L) (h5:L≤5) (hn:n≤L) (hq:q≤L) (hp:p≤L) (hi:i < L) (HT:Looks true L):∀ f args h t,orcEd L n q p i kb f args h=some t→CallOk (aQ fun ρ m=>OkEd L n q p i kb ρ m) f args h t:=by
  intro f args h t e
  unfold orcEd at e
  cases h7:Nat.beq f 7 with
  | true=>rw [h7,cond_true] at e; have:=aq.1 h7; subst this; exact CallOk.lift (firedOrc_ok e)
  | false =>
  rw [h7,cond_false] at e
  cases h6:Nat.beq f 6 with
  | true=>rw [h6,cond_true] at e; have:=aq.1 h6; subst this; exact so_any (fun ρ b k=>k.cs) (vals_at h1 h5).2 e
  | false =>
  rw [h6,cond_false] at e
  cases h8:Nat.beq f 8 with
  | true =>
    rw [h8,cond_true] at e
    have:=aq.1 h8; subst this
    rcases dy e with e | e
    · exact tu2_ok (fun ρ m k=>⟨by show (L:Int)≤_; omega,k.ti⟩) e
    · exact tuO_ok (fun ρ m k=>k.cs) (fun ρ m k=>k.to) (fun ρ m k=>k.wk) L (Nat.le_refl L) e
  | false =>
  rw [h8,cond_false] at e
  cases h36:Nat.beq f 36 with
  | true=>rw [h36,cond_true] at e; have:=aq.1 h36; subst this; exact pick_orc (p:=aQ fun ρ m=>OkEd L n q p i kb ρ m) rfl (fun ρ m k=>k.pk) e
  | false =>
  rw [h36,cond_false] at e
  cases h9:Nat.beq f 9 with
  | true =>
    rw [h9,cond_true] at e
    have:=aq.1 h9; subst this
    rcases dy e with e | e
    · exact pl12_ok h1 h5 HT (fun ρ b k=>⟨_,rhoR_reads IE.var 710 ρ,k.p0,fun _ _ _=>rhoR_nm⟩) e
    · exact pl12_ok h1 h5 HT (fun ρ b k=>⟨_,rhoR_reads eW 710 ρ,k.p1,fun _ _ _=>rhoR_nm⟩) e
  | false =>
  rw [h9,cond_false] at e
  cases h16:Nat.beq f 16 with
  | true=>rw [h16,cond_true] at e; have:=aq.1 h16; subst this; exact fa18_ok h1 h5 hn (fun ρ m k=>⟨k.cs,k.fo⟩) e
  | false =>
  rw [h16,cond_false] at e
  cases h13:Nat.beq f 13 with
  | true =>
    rw [h13,cond_true] at e
    have:=aq.1 h13; subst this
    rcases dy e with e | e
    · exact hapGo_ok h1 h5 (ckE_at h1 h5 hq).1 (fun ρ m k=>⟨k.mn,k.hw⟩) e
    · exact hapGo_ok h1 h5 (ckE_at h1 h5 hp).2 (fun ρ m k=>⟨k.mn,k.hb⟩) e
  | false =>
  rw [h13,cond_false] at e
  obtain ⟨h19,e1⟩:=ak e
  clear e
  have:=aq.1 h19; subst this
  exact le19_ok h1 h5 hi (upK_le _ _) (fun ρ m k=>⟨k.cs,k.lo.1,k.lo.2⟩) e1
end Go.Sx
namespace Go.Sx
open Go.RowKit Go.Proofs
set_option maxRecDepth 100000
noncomputable def dW (ρ:Rho) (n:Nat):Int:=if n % 2=0 then bO ((pk1E n).den ρ) (ρ.iv (33 + 4 * (n / 2)) + 1) else bO ((pk1E n).den ρ) (ρ.iv (33 + 4 * (n / 2)) - bO ((pk1E (n - 1)).den ρ) (ρ.iv (33 + 4 * (n / 2)) + 1) + 1)
theorem othH_eq (ρ:Rho) (k:Nat):bO ((pk1E (2 * k)).den ρ) (ρ.iv (33 + 4 * k) + 1)=dW ρ (2 * k)∧bO ((pk1E (2 * k + 1)).den ρ) (ρ.iv (33 + 4 * k) - dW ρ (2 * k) + 1)=dW ρ (2 * k + 1):=by
  have e0:dW ρ (2 * k)=bO ((pk1E (2 * k)).den ρ) (ρ.iv (33 + 4 * k) + 1):=by
    unfold dW; rw [if_pos (by omega),show 2 * k / 2=k by omega]
  refine ⟨e0.symm,?_⟩
  rw [e0]
  unfold dW; rw [if_neg (by omega),show (2 * k + 1) / 2=k by omega,show 2 * k + 1 - 1=2 * k by omega]
theorem othH_sum {ρ:Rho} {L:Nat} (hcs:∀ c ∈ csV L,c.den ρ=true) {k:Nat} (hk:k < L):0≤dW ρ (2 * k)∧0≤dW ρ (2 * k + 1)∧dW ρ (2 * k) + dW ρ (2 * k + 1)≤ρ.iv (33 + 4 * k)∧ρ.iv (33 + 4 * k)≤5:=by
  obtain ⟨W,w1,w2⟩:=walks_cs hcs k hk
  obtain ⟨b0,b1⟩:=othH_eq ρ k
  have t0:=turnF_in (n:=(pk1E (2 * k)).den ρ) (m:=ρ.iv (33 + 4 * k) + 1) (by omega)
  rw [b0] at t0
  have t1:=turnF_in (n:=(pk1E (2 * k + 1)).den ρ) (m:=ρ.iv (33 + 4 * k) - dW ρ (2 * k) + 1) (by omega)
  rw [b1] at t1
  omega
theorem othH_in {ρ:Rho} {L:Nat} (hcs:∀ c ∈ csV L,c.den ρ=true) {j:Nat} (hj:j < 2 * L):0≤dW ρ j∧dW ρ j≤5:=by
  have:=othH_sum hcs (k:=j / 2) (by omega)
  by_cases e:j % 2=0
  · rw [show 2 * (j / 2)=j by omega] at this; omega
  · rw [show 2 * (j / 2) + 1=j by omega] at this; omega
theorem jW_lt {j:Nat} (h:j < 60):jW j < 100:=by
  unfold jW
  cases hb:Nat.blt j 22 with
  | true =>
    have:=Nat.le_of_ble_eq_true hb
    rw [cond_true]
    have:j=0 ∨ j=1 ∨ j=2 ∨ j=3 ∨ j=4 ∨ j=5 ∨ j=6 ∨ j=7 ∨ j=8 ∨ j=9 ∨ j=10 ∨ j=11 ∨ j=12 ∨ j=13 ∨ j=14 ∨ j=15 ∨ j=16 ∨ j=17 ∨ j=18 ∨ j=19 ∨ j=20 ∨ j=21:=by omega
    rcases this with rfl | rfl | rfl | rfl | rfl | rfl | rfl | rfl | rfl | rfl | rfl | rfl | rfl | rfl | rfl | rfl | rfl | rfl | rfl | rfl | rfl | rfl <;> exact of_decide_eq_true rfl
  | false=>rw [cond_false]; cases Nat.beq ((j - 30) % 4) 0 <;> simp only [cond_true,cond_false] <;> omega
theorem jB_lt {j:Nat} (h:j < 60):jB j < 100:=by
  unfold jB
  cases hb:Nat.blt j 22 with
  | true =>
    have:=Nat.le_of_ble_eq_true hb
    rw [cond_true]
    have:j=0 ∨ j=1 ∨ j=2 ∨ j=3 ∨ j=4 ∨ j=5 ∨ j=6 ∨ j=7 ∨ j=8 ∨ j=9 ∨ j=10 ∨ j=11 ∨ j=12 ∨ j=13 ∨ j=14 ∨ j=15 ∨ j=16 ∨ j=17 ∨ j=18 ∨ j=19 ∨ j=20 ∨ j=21:=by omega
    rcases this with rfl | rfl | rfl | rfl | rfl | rfl | rfl | rfl | rfl | rfl | rfl | rfl | rfl | rfl | rfl | rfl | rfl | rfl | rfl | rfl | rfl | rfl <;> exact of_decide_eq_true rfl
  | false=>rw [cond_false]; cases Nat.beq ((j - 30) % 4) 1 <;> simp only [cond_true,cond_false] <;> omega
theorem part_W {ρ:Rho} {i:Nat} (h:i < 5):(aG eW ρ).iv (30 + 4 * i)=ρ.iv (31 + 4 * i)∧(aG eW ρ).iv (31 + 4 * i)=ρ.iv (31 + 4 * i)∧(aG eW ρ).iv (33 + 4 * i)=ρ.iv (33 + 4 * i):=by
  have:i=0 ∨ i=1 ∨ i=2 ∨ i=3 ∨ i=4:=by omega
  rcases this with rfl | rfl | rfl | rfl | rfl <;> exact ⟨rfl,rfl,rfl⟩
theorem part_B {ρ:Rho} {i:Nat} (h:i < 5):(aG eB ρ).iv (30 + 4 * i)=ρ.iv (30 + 4 * i)∧(aG eB ρ).iv (31 + 4 * i)=ρ.iv (30 + 4 * i)∧(aG eB ρ).iv (33 + 4 * i)=ρ.iv (33 + 4 * i):=by
  have:i=0 ∨ i=1 ∨ i=2 ∨ i=3 ∨ i=4:=by omega
  rcases this with rfl | rfl | rfl | rfl | rfl <;> exact ⟨rfl,rfl,rfl⟩
theorem cs_W {ρ:Rho} {L:Nat} (h5:L≤5) (cs:∀ c ∈ csV L,c.den ρ=true):∀ c ∈ csV L,c.den (aG eW ρ)=true:=by
  obtain ⟨b,p⟩:=fg.1 cs
  refine fg.2 ⟨?_,fun i hi=>?_⟩
  · obtain ⟨r0,r1,c0,c2,l0,l1,mk,lm,b0,b1,d0,d1,fu,wk,cu⟩:=b
    refine ⟨r0,r1,?_,?_,l0,l1,mk,lm,?_,?_,?_,?_,?_,?_,?_⟩
    · show 0≤ρ.iv 0∧ρ.iv 0≤ρ.iv 0∧ρ.iv 0≤ρ.iv 4; omega
    · show 0≤ρ.iv 2∧ρ.iv 2≤ρ.iv 2∧ρ.iv 2≤ρ.iv 5; omega
    · show 0≤ρ.iv 9∧ρ.iv 9≤ρ.iv 9∧ρ.iv 9≤3; omega
    · show 0≤ρ.iv 11∧ρ.iv 11≤ρ.iv 11∧ρ.iv 11≤3; omega
    · show 0≤ρ.iv 13∧ρ.iv 13≤ρ.iv 13∧ρ.iv 13≤3; omega
    · show 0≤ρ.iv 15∧ρ.iv 15≤ρ.iv 15∧ρ.iv 15≤3; omega
    · show 0≤ρ.iv 16∧ρ.iv 16≤ρ.iv 16∧ρ.iv 16≤60; omega
    · show 0≤ρ.iv 18∧ρ.iv 18≤ρ.iv 18∧ρ.iv 18≤60; omega
    · show ρ.iv 18≤ρ.iv 16∧ρ.iv 18≤ρ.iv 16; omega
  · obtain ⟨q1,q2⟩:=p i hi
    obtain ⟨e0,e1,e3⟩:=part_W (ρ:=ρ) (i:=i) (by omega)
    rw [show 30 + 4 * i + 1=31 + 4 * i by omega] at q1
    rw [show 30 + 4 * i + 3=33 + 4 * i by omega] at q2
    refine ⟨?_,?_⟩
    · rw [show 30 + 4 * i + 1=31 + 4 * i by omega,e0,e1]; omega
    · rw [show 30 + 4 * i + 3=33 + 4 * i by omega,e3]; exact q2
theorem cs_B {ρ:Rho} {L:Nat} (h5:L≤5) (cs:∀ c ∈ csV L,c.den ρ=true):∀ c ∈ csV L,c.den (aG eB ρ)=true:=by
  obtain ⟨b,p⟩:=fg.1 cs
  refine fg.2 ⟨?_,fun i hi=>?_⟩
  · obtain ⟨r0,r1,c0,c2,l0,l1,mk,lm,b0,b1,d0,d1,fu,wk,cu⟩:=b
    refine ⟨r0,r1,?_,?_,l0,l1,mk,lm,?_,?_,?_,?_,?_,?_,?_⟩
    · show 0≤ρ.iv 1∧ρ.iv 1≤ρ.iv 1∧ρ.iv 1≤ρ.iv 4; omega
    · show 0≤ρ.iv 3∧ρ.iv 3≤ρ.iv 3∧ρ.iv 3≤ρ.iv 5; omega
    · show 0≤ρ.iv 8∧ρ.iv 8≤ρ.iv 8∧ρ.iv 8≤3; omega
    · show 0≤ρ.iv 10∧ρ.iv 10≤ρ.iv 10∧ρ.iv 10≤3; omega
    · show 0≤ρ.iv 12∧ρ.iv 12≤ρ.iv 12∧ρ.iv 12≤3; omega
    · show 0≤ρ.iv 14∧ρ.iv 14≤ρ.iv 14∧ρ.iv 14≤3; omega
    · show 0≤ρ.iv 17∧ρ.iv 17≤ρ.iv 17∧ρ.iv 17≤60; omega
    · show 0≤ρ.iv 19∧ρ.iv 19≤ρ.iv 19∧ρ.iv 19≤60; omega
    · show ρ.iv 19≤ρ.iv 17∧ρ.iv 19≤ρ.iv 17; omega
  · obtain ⟨q1,q2⟩:=p i hi
    obtain ⟨e0,e1,e3⟩:=part_B (ρ:=ρ) (i:=i) (by omega)
    rw [show 30 + 4 * i + 1=31 + 4 * i by omega] at q1
    rw [show 30 + 4 * i + 3=33 + 4 * i by omega] at q2
    refine ⟨?_,?_⟩
    · rw [show 30 + 4 * i + 1=31 + 4 * i by omega,e0,e1]; omega
    · rw [show 30 + 4 * i + 3=33 + 4 * i by omega,e3]; exact q2
theorem sameF_W {ρ:Rho} {L:Nat} (h5:L≤5):SameF ρ (aG eW ρ) L:=by
  refine ⟨rfl,rfl,fun r hr a w=>?_,fun i hi r hr=>?_,fun i hi l=>rfl,fun i hi=>(part_W (by omega)).2.2.symm⟩
  · have:r=0 ∨ r=1:=by omega
    rcases this with rfl | rfl <;> rfl
  · have e1:=(part_W (ρ:=ρ) (i:=i) (by omega)).2.1
    unfold eT
    rw [e1]
    have:r=0 ∨ r=1:=by omega
    show IntKind.i64.wrap (ρ.iv (31 + 4 * i) * ρ.iv (if ρ.bv (32 + 4 * i)=true then 11 + 4 * r else 9 + 4 * r))=IntKind.i64.wrap (ρ.iv (31 + 4 * i) * (aG eW ρ).iv (if ρ.bv (32 + 4 * i)=true then 11 + 4 * r else 9 + 4 * r))
    rcases this with rfl | rfl <;> split <;> rfl
theorem one_W {ρ:Rho} {L:Nat} (h5:L≤5):OneE (aG eW ρ) L:=by
  refine ⟨rfl,rfl,fun kd hk=>?_,fun kd hk=>?_,fun k hk=>?_⟩
  · have:kd=0 ∨ kd=1:=by omega
    rcases this with rfl | rfl <;> rfl
  · have:kd=0 ∨ kd=1:=by omega
    rcases this with rfl | rfl <;> rfl
  · obtain ⟨e0,e1,_⟩:=part_W (ρ:=ρ) (i:=k) (by omega)
    rw [e0,e1]
theorem one_B {ρ:Rho} {L:Nat} (h5:L≤5):OneE (aG eB ρ) L:=by
  refine ⟨rfl,rfl,fun kd hk=>?_,fun kd hk=>?_,fun k hk=>?_⟩
  · have:kd=0 ∨ kd=1:=by omega
    rcases this with rfl | rfl <;> rfl
  · have:kd=0 ∨ kd=1:=by omega
    rcases this with rfl | rfl <;> rfl
  · obtain ⟨e0,e1,_⟩:=part_B (ρ:=ρ) (i:=k) (by omega)
    rw [e0,e1]
theorem has_B (ρ:Rho) {r:Nat} (hr:r < 2) (a w:Int):cA (aG eB ρ) r a w=cA ρ r a w:=by
  have:r=0 ∨ r=1:=by omega
  rcases this with rfl | rfl <;> rfl
theorem takH_B {ρ:Rho} {k r:Nat} (hk:k < 5) (hr:r < 2):takH (aG eB ρ) k r=takH ρ k r:=by
  have e1:=(part_B (ρ:=ρ) (i:=k) (by omega)).1
  unfold takH
  rw [e1]
  have:r=0 ∨ r=1:=by omega
  show IntKind.i64.wrap (ρ.iv (30 + 4 * k) * (aG eB ρ).iv (if ρ.bv (32 + 4 * k)=true then 10 + 4 * r else 8 + 4 * r))=IntKind.i64.wrap (ρ.iv (30 + 4 * k) * ρ.iv (if ρ.bv (32 + 4 * k)=true then 10 + 4 * r else 8 + 4 * r))
  rcases this with rfl | rfl <;> split <;> rfl
theorem crsH_B {ρ:Rho} (pl:Nat→Int):∀ k,k≤5→fm (aG eB ρ) pl k=fm ρ pl k
  | 0,_=>rfl
  | k + 1,h=>by
    simp only [fm,crsH_B pl k (by omega),dQ,takH_B (ρ:=ρ) (show k < 5 by omega) (show 0 < 2 by omega),takH_B (ρ:=ρ) (show k < 5 by omega) (show 1 < 2 by omega),has_B ρ (show 0 < 2 by omega),has_B ρ (show 1 < 2 by omega)]
theorem lack_B {ρ : Rho} {L : Nat} {pl : Nat → Int} (h5 : L ≤ 5) (cs : ∀ c ∈ csV L, c.den ρ = true) (hpl : ∀ j, j < 2 * L → 0 ≤ pl j ∧ pl j ≤ 5) : ∀ k, k ≤ L → (∀ i, i < k → cV ρ pl i) →
    ((0≤(crs ρ pl k).1∧(crs ρ pl k).1≤(crs (aG eB ρ) pl k).1∧(crs (aG eB ρ) pl k).1≤99)∧(0≤(crs ρ pl k).2∧(crs ρ pl k).2≤(crs (aG eB ρ) pl k).2∧(crs (aG eB ρ) pl k).2≤99))∧(∀ i,i < k→cV (aG eB ρ) pl i)
  | 0,_,_=>by
    have hb:=(fg.1 cs).1
    have r0:=hb.room0; have r1:=hb.room1; have c0:=hb.coal; have c2:=hb.water
    refine ⟨?_,fun i hi=>absurd hi (by omega)⟩
    show (0≤ρ.iv 0∧ρ.iv 0≤ρ.iv 1∧ρ.iv 1≤99)∧(0≤ρ.iv 2∧ρ.iv 2≤ρ.iv 3∧ρ.iv 3≤99)
    omega
  | k + 1,hk,hl=>by
    obtain ⟨⟨⟨a1,a2,a3⟩,b1,b2,b3⟩,ih⟩:=lack_B h5 cs hpl k (by omega) fun i hi=>hl i (by omega)
    have cs':=cs_B h5 cs
    have B:Bds ρ L:=bds_cs cs
    have B':Bds (aG eB ρ) L:=bds_cs cs'
    have p0:=hpl (2 * k) (by omega)
    have p1:=hpl (2 * k + 1) (by omega)
    have hk':k < L:=by omega
    have v0:=cz B (r:=0) (by omega) (a:=(crs ρ pl k).1) (by omega) p0
    have v1:=cz B (r:=1) (by omega) (a:=(crs ρ pl k).2) (by omega) p1
    have m0:=cZ B (r:=0) (by omega) (a:=(crs ρ pl k).1) (a':=(crs (aG eB ρ) pl k).1) (by omega) p0 (by omega)
    have m1:=cZ B (r:=1) (by omega) (a:=(crs ρ pl k).2) (a':=(crs (aG eB ρ) pl k).2) (by omega) p1 (by omega)
    have u0:=cz B' (r:=0) (by omega) (a:=(crs (aG eB ρ) pl k).1) (by omega) p0
    have u1:=cz B' (r:=1) (by omega) (a:=(crs (aG eB ρ) pl k).2) (by omega) p1
    obtain ⟨l0,q0⟩:=cY B (r:=0) (by omega) (a:=(crs ρ pl k).1) (by omega) p0 hk'
    obtain ⟨l1,q1⟩:=cY B (r:=1) (by omega) (a:=(crs ρ pl k).2) (by omega) p1 hk'
    obtain ⟨L0,Q0⟩:=cY B' (r:=0) (by omega) (a:=(crs (aG eB ρ) pl k).1) (by omega) p0 hk'
    obtain ⟨L1,Q1⟩:=cY B' (r:=1) (by omega) (a:=(crs (aG eB ρ) pl k).2) (by omega) p1 hk'
    rw [← has_B ρ (show 0 < 2 by omega) (crs (aG eB ρ) pl k).1] at m0
    rw [← has_B ρ (show 1 < 2 by omega) (crs (aG eB ρ) pl k).2] at m1
    obtain ⟨t0,t1,_,_⟩:=tak_val cs hk'
    obtain ⟨T0,T1,_,_⟩:=tak_val cs' hk'
    have ekd:kdR (aG eB ρ) k=kdR ρ k:=rfl
    obtain ⟨e0,e1,_⟩:=part_B (ρ:=ρ) (i:=k) (by omega)
    have hkd:=gM ρ k
    have hr:=rate_in cs hkd
    have mi:=mins_in cs hk'
    have ob:=(one_B (ρ:=ρ) h5).burn _ hkd
    have od:=(one_B (ρ:=ρ) h5).drink _ hkd
    have x0:(aG eB ρ).iv (8 + 2 * kdR ρ k)=ρ.iv (8 + 2 * kdR ρ k):=by
      have:kdR ρ k=0 ∨ kdR ρ k=1:=by omega
      rcases this with h | h <;> rw [h] <;> rfl
    have x1:(aG eB ρ).iv (12 + 2 * kdR ρ k)=ρ.iv (12 + 2 * kdR ρ k):=by
      have:kdR ρ k=0 ∨ kdR ρ k=1:=by omega
      rcases this with h | h <;> rw [h] <;> rfl
    rw [ekd,← ob,x0,e1] at T0
    rw [ekd,← od,x1,e1] at T1
    have z0:eT (aG eB ρ) k 0≤eT ρ k 0:=by
      rw [T0,t0]; exact Int.mul_le_mul mi.2.1 hr.1.2.1 hr.1.1 (by omega)
    have z1:eT (aG eB ρ) k 1≤eT ρ k 1:=by
      rw [T1,t1]; exact Int.mul_le_mul mi.2.1 hr.2.2.1 hr.2.1 (by omega)
    have T0':=B'.tak k hk' 0 (by omega)
    have T1':=B'.tak k hk' 1 (by omega)
    obtain ⟨h0,h1⟩:=hl k (by omega)
    rw [q0] at h0
    rw [q1] at h1
    refine ⟨?_,fun i hi=>?_⟩
    · show (0 ≤ aY ρ k 0 (crs ρ pl k).1 (pl (2 * k)) ∧ aY ρ k 0 (crs ρ pl k).1 (pl (2 * k)) ≤ aY (aG eB ρ) k 0 (crs (aG eB ρ) pl k).1 (pl (2 * k)) ∧ aY (aG eB ρ) k 0 (crs (aG eB ρ) pl k).1 (pl (2 * k)) ≤ 99) ∧
        (0≤aY ρ k 1 (crs ρ pl k).2 (pl (2 * k + 1))∧aY ρ k 1 (crs ρ pl k).2 (pl (2 * k + 1))≤aY (aG eB ρ) k 1 (crs (aG eB ρ) pl k).2 (pl (2 * k + 1))∧aY (aG eB ρ) k 1 (crs (aG eB ρ) pl k).2 (pl (2 * k + 1))≤99)
      rw [l0,l1,L0,L1]
      refine ⟨⟨?_,?_,?_⟩,?_,?_,?_⟩
      · split <;> omega
      · split at h0 <;> split <;> split <;> omega
      · split <;> omega
      · split <;> omega
      · split at h1 <;> split <;> split <;> omega
      · split <;> omega
    · by_cases e:i=k
      · subst e
        unfold cV
        rw [Q0,Q1]
        constructor
        · split at h0 <;> split <;> omega
        · split at h1 <;> split <;> omega
      · exact ih i (by omega)
noncomputable def drN (ρ:Rho):Rho:=⟨ρ.iv,ρ.bv,fun f x y z=>if f=9600 then drawN0 y z else ρ.fi f x y z,ρ.fb,ρ.ov⟩
theorem drN_mn {ρ:Rho} {m:Nat→Obj→Prop}:okMn true (drN ρ) m:=by
  unfold okMn
  rw [if_pos rfl]
  intro a lo hi
  simp [FI,drN]
noncomputable def ivEd (ρ:Rho) (L q p j:Nat):Int:=if j < 100 then ρ.iv j else if j < 790 then plZ ρ L (j - 710) else if j < 1000 then dW ρ (j - 800) else if j < 1180 then leftV ρ (dW ρ) (j - 1140) else if j < 1210 then hapV (aG eW (drN ρ)) L (dW ρ) q (j - 1180) else hapV (aG eB (drN ρ)) L (dW ρ) p (j - 1210)
noncomputable def rhoEd (ρ:Rho) (L q p:Nat):Rho:=⟨ivEd ρ L q p,ρ.bv,(drN ρ).fi,ρ.fb,ρ.ov⟩
section
variable (ρ:Rho) (L q p:Nat)
theorem ed0 {j:Nat} (h:j < 100):(rhoEd ρ L q p).iv j=ρ.iv j:=if_pos h
theorem ed1 {j:Nat} (h:j < 80):(rhoEd ρ L q p).iv (710 + j)=plZ ρ L j:=by
  show ivEd ρ L q p (710 + j)=_
  unfold ivEd; rw [if_neg (by omega),if_pos (by omega),Nat.add_sub_cancel_left]
theorem ed2 {j:Nat} (h:j < 200):(rhoEd ρ L q p).iv (800 + j)=dW ρ j:=by
  show ivEd ρ L q p (800 + j)=_
  unfold ivEd; rw [if_neg (by omega),if_neg (by omega),if_pos (by omega),Nat.add_sub_cancel_left]
theorem ed4 {j:Nat} (h:j < 40):(rhoEd ρ L q p).iv (1140 + j)=leftV ρ (dW ρ) j:=by
  show ivEd ρ L q p (1140 + j)=_
  unfold ivEd; rw [if_neg (by omega),if_neg (by omega),if_neg (by omega),if_pos (by omega),Nat.add_sub_cancel_left]
theorem ed5 {j:Nat} (h:j < 30):(rhoEd ρ L q p).iv (1180 + j)=hapV (aG eW (drN ρ)) L (dW ρ) q j:=by
  show ivEd ρ L q p (1180 + j)=_
  unfold ivEd; rw [if_neg (by omega),if_neg (by omega),if_neg (by omega),if_neg (by omega),if_pos (by omega),Nat.add_sub_cancel_left]
theorem ed6 (j:Nat):(rhoEd ρ L q p).iv (1210 + j)=hapV (aG eB (drN ρ)) L (dW ρ) p j:=by
  show ivEd ρ L q p (1210 + j)=_
  unfold ivEd; rw [if_neg (by omega),if_neg (by omega),if_neg (by omega),if_neg (by omega),if_neg (by omega),Nat.add_sub_cancel_left]
end
theorem hapNm_e {e : Nat → IE} {jj : Nat → Nat} (he : ∀ j, e j = .var (jj j)) (hj : ∀ j, j < 60 → jj j < 100) {ρ R : Rho} {L p nm q : Nat} {pl : Nat → Int} (h5 : L ≤ 5) (hcs : ∀ c ∈ csV L, c.den (aG e (drN ρ)) = true) (iv : ∀ j, j < 100 → R.iv j = ρ.iv j) (hb : R.bv = ρ.bv) (hfi : R.fi = (drN ρ).fi)
    (hpl:∀ j,j < 2 * L→R.iv (nm + j)=pl j) (hq:∀ j,j < 30→R.iv (q + j)=hapV (aG e (drN ρ)) L pl p j) (H:HapOk L p pl (aG e (drN ρ))):HapNm e (plE nm) q L p R:=by
  have A:AgreeD (aG e (drN ρ)) (aG e R):=⟨fun j hj'=>by
    show (if j < 60 then (e j).den (drN ρ) else (drN ρ).iv j)=(if j < 60 then (e j).den R else R.iv j)
    rw [if_pos hj',if_pos hj',he j]
    exact (iv _ (hj j hj')).symm,fun j _=>by show ρ.bv j=R.bv j; rw [hb],fun a lo hi=>by show FI (drN ρ).fi 9600 a lo hi=FI R.fi 9600 a lo hi; rw [hfi]⟩
  have hp':∀ j,j < 2 * L→pl j=(plE nm j).den R:=fun j hj=>(hpl j hj).symm
  obtain ⟨v1,v2⟩:=hapV_nm (aG e (drN ρ)) L pl p
  have hle:=H.le
  refine ⟨eY h5 A.iv hcs,hapOk_pl hp' ⟨H.le,fun k hk hkp=>by rw [← standsP_agree A (by omega)]; exact H.st k hk hkp⟩,fun k hk=>?_,fun k hk=>?_,?_⟩
  · rw [hq (2 * k) (by omega),(v1 k (by omega)).1,← hapS_pl hp' _ (by omega),← cS A _ (by omega)]
  · rw [show q + 2 * k + 1=q + (2 * k + 1) by omega,hq (2 * k + 1) (by omega),(v1 k (by omega)).2,← hapS_pl hp' _ (by omega),← cS A _ (by omega)]
  · rw [hq 20 (by omega),v2,← hapF_pl hp',← hapF_agree A h5]
theorem okEd_of {ρ : Rho} {m : Nat → Obj → Prop} {L : Nat} (h1 : 1 ≤ L) (h5 : L ≤ 5) (hcs : ∀ c ∈ csV L, c.den ρ = true) (hpk : gB ρ m) :
    ∃ n q p i kb ρ',(n≤q∧q≤p∧p≤L∧i < L)∧OkEd L n q p i kb ρ' m∧(∀ j,j < 100→ρ.iv j=ρ'.iv j)∧ρ.bv=ρ'.bv∧ρ.ov=ρ'.ov:=by
  have hmn:okMn true (drN ρ) m:=drN_mn
  have csN:∀ c ∈ csV L,c.den (drN ρ)=true:=eY h5 (ρ:=ρ) (ρ':=drN ρ) (fun _ _=>rfl) hcs
  have csW:∀ c ∈ csV L,c.den (aG eW (drN ρ))=true:=cs_W h5 csN
  have csB:∀ c ∈ csV L,c.den (aG eB (drN ρ))=true:=cs_B h5 csN
  have D:DrIn (drN ρ):=drIn_of hmn
  have DW:DrIn (aG eW (drN ρ)):=D
  have DB:DrIn (aG eB (drN ρ)):=D
  have A1:cD ρ (drN ρ):=⟨fun _ _=>rfl,fun _ _=>rfl⟩
  have SW:SameF (drN ρ) (aG eW (drN ρ)) L:=sameF_W h5
  have UW:OneE (aG eW (drN ρ)) L:=one_W h5
  have UB:OneE (aG eB (drN ρ)) L:=one_B h5
  have oin:∀ j,j < 2 * L→0≤dW ρ j∧dW ρ j≤5:=fun j hj=>othH_in hcs hj
  obtain ⟨n1,n2,n3⟩:=eD (mayK ρ (dW ρ)) L
  obtain ⟨q1,q2,q3⟩:=eD (lackB ρ (dW ρ)) L
  have HW0:=hapOk_first (aG eW (drN ρ)) L (dW ρ)
  have HB:=hapOk_first (aG eB (drN ρ)) L (dW ρ)
  generalize hn:ez (mayK ρ (dW ρ)) L=n at n1 n2 n3
  generalize hq:ez (lackB ρ (dW ρ)) L=q at q1 q2 q3
  generalize hw:ez (aP (aG eW (drN ρ)) L (dW ρ)) L=w at HW0
  generalize hp:ez (aP (aG eB (drN ρ)) L (dW ρ)) L=p at HB
  have lk:∀ k,k < q→cV ρ (dW ρ) k:=fun k hk=>by
    have:=q2 k hk
    unfold lackB at this
    have:=of_decide_eq_false this
    exact Classical.not_not.1 this
  have nlk:q < L→¬ cV ρ (dW ρ) q:=fun h=>by
    have:=q3 h
    unfold lackB at this
    exact of_decide_eq_true this
  have lkN:∀ k,k < L→(cV (drN ρ) (dW ρ) k ↔ cV ρ (dW ρ) k):=fun k hk=>(lackN_agree A1 _ (by omega)).symm
  have hnq:n≤q:=by
    by_cases h:q < n
    · exact absurd (mayT_f.1 (n2 q h)).1 (nlk (by omega))
    · omega
  have hwq:w=q:=by
    have hle:=HW0.le
    have ns:∀ i,i < w→aP (aG eW (drN ρ)) L (dW ρ) i=false:=fun i hi=>(HW0.st i (by omega) (by omega)).trans (decide_eq_false (by omega))
    rcases Nat.lt_trichotomy w q with h | h | h
    · have hs:aP (aG eW (drN ρ)) L (dW ρ) w=true:=(HW0.st w (by omega) (Nat.le_refl _)).trans (decide_eq_true rfl)
      have:=stands_lack csW DW oin (by omega) ns hs
      exact absurd ((lackN_sf SW _ (by omega)).1 ((lkN w (by omega)).2 (lk w h))) this
    · exact h
    · have:=lack_stands csW DW oin UW (k:=q) (by omega) (fun i hi=>ns i (by omega)) (fun hl=>nlk (by omega) ((lkN q (by omega)).1 ((lackN_sf SW _ (by omega)).2 hl)))
      rw [ns q h] at this; cases this
  subst hwq
  have HW:=HW0
  have nsW:∀ i,i < w→aP (aG eW (drN ρ)) L (dW ρ) i=false:=fun i hi=>(HW.st i (by omega) (by omega)).trans (decide_eq_false (by omega))
  have hpL:=HB.le
  have nsB:∀ i,i < p→aP (aG eB (drN ρ)) L (dW ρ) i=false:=fun i hi=>(HB.st i (by omega) (by omega)).trans (decide_eq_false (by omega))
  have hqp:w≤p:=by
    by_cases h:p < w
    · have hs:aP (aG eB (drN ρ)) L (dW ρ) p=true:=(HB.st p (by omega) (Nat.le_refl _)).trans (decide_eq_true rfl)
      have:=stands_lack csB DB oin (by omega) nsB hs
      have lb:=(lack_B h5 csN oin w q1 fun i hi=>(lkN i (by omega)).2 (lk i hi)).2 p h
      exact absurd lb this
    · omega
  have mW:∀ k,k < L→mayK (aG eW (drN ρ)) (dW ρ) k=mayK ρ (dW ρ) k:=fun k hk=>(mayK_sf SW _ hk).symm.trans (mayK_agree A1 _ (by omega)).symm
  have hF:hapF (aG eW (drN ρ)) L (dW ρ) w=n:=fail_one csW DW oin UW (fun i hi=>by rw [mW i (by omega)]; exact n2 i hi) n1 (fun h=>by rw [mW n h]; exact n3 h) HW rfl rfl
  obtain ⟨i,hi⟩:∃ i:Nat,bO (ρ.iv 88) L=(i:Int):=⟨(bO (ρ.iv 88) L).toNat,by have:=turnT_nn (ρ.iv 88) L; omega⟩
  have hiL:i < L:=by have:=turnF_in (n:=ρ.iv 88) (m:=(L:Int)) (by omega); omega
  let R:=rhoEd ρ L w p
  have iv:∀ j,j < 100→R.iv j=ρ.iv j:=fun j hj=>ed0 ρ L w p hj
  have A:cD ρ R:=⟨fun j hj=>(iv j (by omega)).symm,fun _ _=>rfl⟩
  have cs':∀ c ∈ csV L,c.den R=true:=eY h5 A.iv hcs
  have e2:∀ j,j < 2 * L→dW ρ j=(fun j=>R.iv (800 + j)) j:=fun j hj=>(ed2 ρ L w p (by omega)).symm
  have mn':okMn true R m:=by
    unfold okMn
    rw [if_pos rfl]
    intro a lo hi
    show FI (drN ρ).fi 9600 a lo hi=_
    simp [FI,drN]
  have pk':gB R m:=by
    obtain ⟨b,len,cap,h1,h2,h3,h4,h5,h6⟩:=hpk
    have f0:∀ n,R.fi 1000 n 0 0=ρ.fi 1000 n 0 0:=fun n=>by show (drN ρ).fi 1000 n 0 0=_; simp [drN]
    have f1:∀ n,R.fi 1001 n 0 0=ρ.fi 1001 n 0 0:=fun n=>by show (drN ρ).fi 1001 n 0 0=_; simp [drN]
    refine ⟨b,len,cap,h1,(iv 96 (by omega)).trans h2,h3,h4,fun n=>by rw [f0,f1]; exact h5 n,fun hp=>?_⟩
    obtain ⟨c,x,cells,el,fz,q1,q2,q3⟩:=h6 hp
    exact ⟨c,x,cells,el,fz,q1,q2,fun j hj=>by rw [f1]; exact q3 j hj⟩
  have to':∀ k,k < L→bO ((pk1E (2 * k)).den R) (R.iv (33 + 4 * k) + 1)=R.iv (800 + 2 * k)∧bO ((pk1E (2 * k + 1)).den R) (R.iv (33 + 4 * k) - R.iv (800 + 2 * k) + 1)=R.iv (800 + 2 * k + 1):=fun k hk=>by
    have pe:∀ k,(pk1E k).den R=(pk1E k).den ρ:=fun k=>by
      show FI (drN ρ).fi 1000 k 0 0=FI ρ.fi 1000 k 0 0
      simp [FI,drN]
    rw [iv (33 + 4 * k) (by omega),show 800 + 2 * k + 1=800 + (2 * k + 1) by omega]
    have x0:R.iv (800 + 2 * k)=dW ρ (2 * k):=ed2 ρ L w p (by omega)
    have x1:R.iv (800 + (2 * k + 1))=dW ρ (2 * k + 1):=ed2 ρ L w p (by omega)
    rw [x0,x1,pe,pe]
    exact othH_eq ρ k
  have wk':∀ k,k < L→0≤R.iv (800 + 2 * k)∧R.iv (800 + 2 * k)≤R.iv (33 + 4 * k):=fun k hk=>by
    have x0:R.iv (800 + 2 * k)=dW ρ (2 * k):=ed2 ρ L w p (by omega)
    rw [x0,iv (33 + 4 * k) (by omega)]
    have:=othH_sum hcs hk
    omega
  have fo:FaOk L n (fun j=>R.iv (800 + j)) R:=faOk_pl e2 (faOk_agree A h5 ⟨fun k hk=>by have:=othH_sum hcs hk; omega,fun k hk hkn=>by
    by_cases ek:k=n
    · rw [decide_eq_true ek,ek]; exact n3 (ek ▸ hk)
    · rw [decide_eq_false ek]; exact n2 k (by omega)⟩)
  have hw':HapNm eW (plE 800) 1180 L w R:=hapNm_e (fun _=>rfl) (fun _ h=>jW_lt h) h5 csW iv rfl rfl (fun j hj=>ed2 ρ L w p (by omega)) (fun j hj=>ed5 ρ L w p hj) HW
  have hb':HapNm eB (plE 800) 1210 L p R:=hapNm_e (fun _=>rfl) (fun _ h=>jB_lt h) h5 csB iv rfl rfl (fun j hj=>ed2 ρ L w p (by omega)) (fun j _=>ed6 ρ L w p j) HB
  obtain ⟨l0,l1,l2,l3⟩:=leftV_nm ρ (dW ρ) i
  have t0:R.iv (1140 + 4 * i)=_:=(ed4 ρ L w p (j:=4 * i) (by omega)).trans l0
  have t1:R.iv (1140 + (4 * i + 1))=_:=(ed4 ρ L w p (j:=4 * i + 1) (by omega)).trans l1
  have t2:R.iv (1140 + (4 * i + 2))=_:=(ed4 ρ L w p (j:=4 * i + 2) (by omega)).trans l2
  have t3:R.iv (1140 + (4 * i + 3))=_:=(ed4 ρ L w p (j:=4 * i + 3) (by omega)).trans l3
  have lo:LeOk L i (upK w i) (fun j=>R.iv (800 + j)) R∧(i < upK w i→NmOk 1140 i (fun j=>R.iv (800 + j)) R):=by
    refine ⟨leOk_pl e2 hiL (leOk_agree A h5 hiL ⟨fun j hj=>by have:=othH_sum hcs hj; omega,fun j hj hju=>lk j ?_,fun hu hl=>?_⟩),fun _=>?_⟩
    · by_cases hkq:i < w
      · omega
      · unfold upK at hju
        have hb:Nat.blt i w=false:=by
          cases hb:Nat.blt i w with
          | false=>rfl
          | true=>exact absurd (Nat.le_of_ble_eq_true hb) hkq
        rw [hb,cond_false] at hju
        exact hju
    · have hkq:¬ i < w:=fun h=>by rw [upK_in h] at hu; omega
      have hb:Nat.blt i w=false:=by
        cases hb:Nat.blt i w with
        | false=>rfl
        | true=>exact absurd (Nat.le_of_ble_eq_true hb) hkq
      have e:upK w i=w:=by unfold upK; rw [hb,cond_false]
      rw [e] at hl
      exact nlk (by omega) hl
    · unfold NmOk
      rw [← crs_pl e2 _ (by omega),← crsH_pl e2 _ (by omega),← fA A _ _ (by omega),← crsH_agree A _ _ (by omega)]
      exact ⟨t0,t1,t2,t3⟩
  have fc':∀ c ∈ fcEd n w i,c.den R=true:=fun c hc=>by
    simp only [fcEd,List.mem_cons] at hc
    rcases hc with rfl | hc
    · rw [BE.t_eql,IE.den_var]
      have t:R.iv (1180 + 20)=hapF (aG eW (drN ρ)) L (dW ρ) w:=(ed5 ρ L w p (j:=20) (by omega)).trans (hapV_nm _ _ _ _).2
      show R.iv 1200=(n:Int)
      rw [show (1200:Nat)=1180 + 20 from rfl,t]; exact hF
    · cases hb:Nat.blt i w with
      | false=>rw [hb,cond_false] at hc; exact (List.not_mem_nil hc).elim
      | true =>
        have hiw:i < w:=Nat.le_of_ble_eq_true hb
        rw [hb,cond_true] at hc
        obtain ⟨cW,wW⟩:=ir csW DW oin UW (k:=i + 1) (by omega) (fun j hj=>nsW j (by omega))
        obtain ⟨cB,wB⟩:=ir csB DB oin UB (k:=i + 1) (by omega) (fun j hj=>nsB j (by omega))
        rw [← crs_sf SW _ _ (by omega),← fA A1 _ _ (by omega)] at cW wW
        rw [← crsH_one csB UB _ (by omega),crsH_B _ _ (by omega),← crsH_agree A1 _ _ (by omega)] at cB wB
        obtain ⟨v1,v2⟩:=(hapV_nm (aG eW (drN ρ)) L (dW ρ) w).1 i (by omega)
        obtain ⟨u1,u2⟩:=(hapV_nm (aG eB (drN ρ)) L (dW ρ) p).1 i (by omega)
        have f0:R.iv (1180 + 2 * i)=_:=(ed5 ρ L w p (j:=2 * i) (by omega)).trans v1
        have f1:R.iv (1180 + (2 * i + 1))=_:=(ed5 ρ L w p (j:=2 * i + 1) (by omega)).trans v2
        have g0:R.iv (1210 + 2 * i)=_:=(ed6 ρ L w p (2 * i)).trans u1
        have g1:R.iv (1210 + (2 * i + 1))=_:=(ed6 ρ L w p (2 * i + 1)).trans u2
        simp only [List.mem_cons,List.not_mem_nil,or_false] at hc
        rcases hc with rfl | rfl | rfl | rfl
        · rw [BE.t_eql,IE.den_var,IE.den_var,t0,f0,cW]
        · rw [BE.t_eql,IE.den_var,IE.den_var,show 1140 + 4 * i + 1=1140 + (4 * i + 1) by omega,t1,g0,cB]
        · rw [BE.t_eql,IE.den_var,IE.den_var,show 1140 + 4 * i + 2=1140 + (4 * i + 2) by omega,show 1180 + 2 * i + 1=1180 + (2 * i + 1) by omega,t2,f1,wW]
        · rw [BE.t_eql,IE.den_var,IE.den_var,show 1140 + 4 * i + 3=1140 + (4 * i + 3) by omega,show 1210 + 2 * i + 1=1210 + (2 * i + 1) by omega,t3,g1,wB]
  have AW:cD (aG eW (drN ρ)) (rhoR eW 710 R):=⟨fun j hj=>by
    rw [rhoR_iv hj]
    show (if j < 60 then (eW j).den (drN ρ) else (drN ρ).iv j)=(eW j).den R
    rw [if_pos hj]
    exact (iv _ (jW_lt hj)).symm,fun _ _=>rfl⟩
  have A0:cD ρ (rhoR IE.var 710 R):=⟨fun j hj=>by rw [rhoR_iv hj]; exact (iv j (by omega)).symm,fun _ _=>rfl⟩
  have enW:enD (aG eW (drN ρ)) L=enD ρ L:=(enD_sf SW).symm.trans (enD_agreeL A1 (by omega)).symm
  have plW:∀ j,j < 2 * L→planO (aG eW (drN ρ)) L j=planO ρ L j:=fun j hj=>(planO_sf SW hj).symm.trans (by
    unfold planO
    rw [outK_agreeL A1 (L:=L) (k:=j / 2) (by omega) (by omega)])
  have P:OkPl L (enD ρ L) (rhoR IE.var 710 R)∧OkPl L (enD ρ L) (rhoR eW 710 R):=by
    have nm0:∀ (e:Nat→IE) n,n < 2 * L→(rhoR e 710 R).iv (700 + n)=planO ρ L n:=fun e n hn=>by
      rw [rhoR_nm]
      have x0:R.iv (710 + n)=plZ ρ L n:=ed1 ρ L w p (by omega)
      rw [x0]; exact if_pos hn
    exact ⟨okPl_of (ρX:=ρ) h5 hcs A0 rfl (nm0 _),okPl_of (ρX:=aG eW (drN ρ)) h5 csW AW enW fun n hn=>by rw [plW n hn]; exact nm0 _ n hn⟩
  exact ⟨n,w,p,i,enD ρ L,R,⟨hnq,hqp,hpL,hiL⟩,⟨cs',mn',pk',to',wk',by rw [iv 88 (by omega)]; exact hi,P.1,P.2,fo,hw',hb',lo,fc'⟩,fun j hj=>(iv j hj).symm,rfl,rfl⟩
end Go.Sx
namespace Go.Sx
open Go.RowKit Go.Proofs
set_option maxRecDepth 100000
theorem lawI_ed:bz (lawIg 5 xsEd) [1,2,3,4,5]=true:=by kernel_rfl
theorem lawU_ed:bz (lawUg 5 xsEd) [true,false]=true:=by kernel_rfl
noncomputable def memT (t:Nat × Nat × Nat):List (Nat × Nat × Nat)→Bool
  | []=>false
  | u :: l=>or (and (Nat.beq u.1 t.1) (and (Nat.beq u.2.1 t.2.1) (Nat.beq u.2.2 t.2.2))) (memT t l)
theorem memT_ok {t:Nat × Nat × Nat}:∀ {l:List (Nat × Nat × Nat)},memT t l=true→t ∈ l
  | [],h=>by cases h
  | u :: l,h=>by
    simp only [memT,Bool.or_eq_true,Bool.and_eq_true] at h
    rcases h with ⟨h1,h2,h3⟩ | h
    · have e:u=t:=Prod.ext (aq.1 h1) (Prod.ext (aq.1 h2) (aq.1 h3))
      rw [e]; exact List.mem_cons_self
    · exact List.mem_cons_of_mem _ (memT_ok h)
noncomputable def casE:List (Nat × Nat × Nat):=cC tE0 (cC tE1 (cC tE2 (cC tE3 (cC tE4 (cC tE5 (cC tE6 (cC tE7 (cC tE8 (tE9)))))))))
theorem allT_all:bz (fun L=>bz (fun n=>bz (fun q=>cond (Nat.blt q n) true (memT (L,n,q) casE)) (cntD (L + 1))) (cntD (L + 1))) [1,2,3,4,5]=true:=by kernel_rfl
theorem lawEq_all:∀ t ∈ casE,lawEq t=true:=fun t ht=>by
  simp only [casE,aI,List.mem_append] at ht
  rcases ht with ht | ht | ht | ht | ht | ht | ht | ht | ht | ht
  · exact av lawE_0 t ht
  · exact av lawE_1 t ht
  · exact av lawE_2 t ht
  · exact av lawE_3 t ht
  · exact av lawE_4 t ht
  · exact av lawE_5 t ht
  · exact av lawE_6 t ht
  · exact av lawE_7 t ht
  · exact av lawE_8 t ht
  · exact av lawE_9 t ht
theorem bltE_f {a b:Nat} (h:b≤a):Nat.blt a b=false:=by
  cases hb:Nat.blt a b with
  | false=>rfl
  | true=>have:=Nat.le_of_ble_eq_true hb; omega
theorem lawEd_at {L n q p i:Nat} {kb:Bool} (hL:L ∈ [1,2,3,4,5]) (h:n≤q∧q≤p∧p≤L∧i < L):lawEd L n q p i kb=true:=by
  have m:=av (av (av allT_all L hL) n (bP (by omega))) q (bP (by omega))
  rw [bltE_f h.1,cond_false] at m
  have h1:=lawEq_all _ (memT_ok m)
  unfold lawEq at h1
  have h2:=av h1 p (bP (by show p < L + 1; omega))
  rw [bltE_f h.2.1,cond_false] at h2
  have h3:=av h2 i (bP h.2.2.2)
  simp only [Bool.and_eq_true] at h3
  cases kb
  · exact h3.2
  · exact h3.1
theorem ends_valid (HT:∀ n,1≤n→n≤5→Looks true n) (W:World):∀ L ∈ [1,2,3,4,5],LawL 5 xsEd L W:=fun L hL ρ hcs hpk=>by
  have hL':=hL
  simp only [List.mem_cons,List.not_mem_nil,or_false] at hL'
  obtain ⟨n,q,p,i,kb,ρ',q0,hok,A,Ab,Ao⟩:=okEd_of (by omega) (by omega) hcs hpk
  refine ⟨ρ',A,Ab,Ao,fun E vs he hv hf hg hn ha=>?_⟩
  have B:b8 (aQ fun ρ m=>OkEd L n q p i kb ρ m) Sx.Tryd.tt.get (tbEd L n q p i kb):=Tryd.tab (orcEd L n q p i kb) (orcEd_ok (by omega) (by omega) (by omega) (by omega) (by omega) (by omega) (HT L (by omega) (by omega))) 2000
  exact law_true (p:=aQ fun ρ m=>OkEd L n q p i kb ρ m) B hv hf hg hn ha (fw (q:=[]) (fun c hc=>(List.not_mem_nil hc).elim) (he ▸ hok.fc)) (lawEd_at hL q0) ⟨(Base.of W).has,by rw [he]; exact hok,fun _ _ h=>h⟩
theorem ends_any (HT : ∀ n, 1 ≤ n → n ≤ 5 → Looks true n) {W : World} {ρ0 : Rho} (hG : ∀ g ∈ gl, GlobIn W ρ0 g) {nb : Nat → Int} {s : Value} {n0 : Int} {bb : Option Addr} {bl bc : Nat} {y : Nat → Int} (hs : PartsIn W s)
    (hbl:(bl:Int)≤9223372036854775807) (hbc:bl≤bc) (hb:0 < bl→∃ c x cells el fz,bb=some ⟨c,x,none⟩∧W.heap[c]?=some (.cells cells el fz)∧∀ q,q < bl→cells[x + q]?=some (.int .i64 (y q))) :
    Calls Tryd.prog 5 #[.agg ((List.range 22).map (fun i=>Value.int .i64 (nb i)) ++ [s]).toArray,.slice bb bl bc,.int .i64 n0] W fun e W'=>e=.returned (.bool true)∧Below W.heap.size W W' :=
  any_ofL (f:=5) (xs:=xsEd) (vr:=[.slice bb bl bc,.int .i64 n0]) (nu:=fun _=>n0) (fun L hL=>av lawI_ed L hL) (fun many=>av lawU_ed many (by cases many <;> simp))
    (fun E h h96 ho=>by
      have h8:=h 88 (by omega) (by omega)
      simp only [xsEd,vi,ad,af,IE.den,h8,h96,ho,if_true]) (ends_valid HT W) hbl hbc hb hG hs
end Go.Sx
