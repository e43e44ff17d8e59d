/- EnT -/
import Derived.Test.YtfbongdjicmegaaDoorEnS
namespace Go.Sx
open Go.RowKit Go.Proofs
set_option maxRecDepth 100000
noncomputable def dP:Nat→IE × IE × IE
  | 0=>(lt 0,.var 0,.var 2)
  | k + 1=>(.app 9404 (dP k).1 (dP k).2.1 (dP k).2.2,.app 9405 (dP k).1 (dP k).2.1 (dP k).2.2,.app 9406 (dP k).1 (dP k).2.1 (dP k).2.2)
noncomputable def enP (k:Nat):BE:=.app 9400 (dP k).1 (dP k).2.1 (dP k).2.2
noncomputable def leP (k:Nat):BE:=.cmp .leq (.lit 1) (.app 9404 (dP k).1 (dP k).2.1 (dP k).2.2)
noncomputable def pathF:Nat→List BE
  | 0=>[enP 0]
  | k + 1=>enP (k + 1) :: leP k :: pathF k
noncomputable def planC:Nat→Nat→List AV
  | 0,_=>[]
  | n + 1,k=>apE 9402 (dP k).1 (dP k).2.1 (dP k).2.2 :: apE 9403 (dP k).1 (dP k).2.1 (dP k).2.2 :: planC n (k + 1)
noncomputable def vQ (m:Nat):List (Nat × AObj):=[(1001,.cells (bf m 30) 0 false false),(2000,.cells (planC m 0) 76 true false)]
noncomputable def foundV (m:Nat):AV:=.tup [.slice 2000 0 m m,li 0]
noncomputable def noneV:AV:=.tup [.nilslice,li 4]
noncomputable def nwP (r:AV × Heap):List Nat:=match r.1 with
  | .tup (.slice b _ _ _ :: _)=>[b]
  | _=>[]
noncomputable def runQ (q:Bool) (m:Nat):T (AV × Heap):=(b7 (tbP q m) 60 false 31 (argsO q m) (ah 2000 (vS m))).bind fun r=>bV 2000 (vS m) (ah 2000 (vS m)) (nwP r) r
noncomputable def isR (v:AV) (n:Nat) (l:List (Nat × AObj)) (r:AV × Heap):Bool:=and (eqAV r.1 v) (and (bz (fun g:Nat × AObj=>isO (r.2.get g.1) g.2) l) (Nat.beq r.2.next n))
noncomputable def ckQ (q:Bool) (m:Nat):Bool:=and (ba 2000 (vS m)) (and (allK (fun _=>isR (foundV m) 2001 (vQ m)) (runQ q m) (knOf [] (pathF (m - 1)))) (allK (fun _=>isR noneV 2000 (vS m)) (runQ q m) (knOf [] [.not enB])))
def PInv (ρ:Rho) (i:Nat) (S:Stt):Prop:=S.o.en=true→S.o.bp=i + 1∧(dt ρ (i + 1) S.o.b0 S.o.b1).en=true
theorem round_path {ρ:Rho} {i:Nat} {a b:Int} {cw ww:Nat} {S:Stt} (h:PInv ρ i S):PInv ρ i (ee ρ i a b cw ww S):=by
  unfold ee
  split
  · split
    · exact h
    · split
      · exact h
      · split
        · rename_i he
          exact fun _=>⟨rfl,he.1⟩
        · exact h
  · exact h
theorem rounds_path {ρ:Rho} {i:Nat} {a b:Int}:∀ (l:List (Nat × Nat)) (S:Stt),PInv ρ i S→PInv ρ i (eZ ρ i a b l S)
  | [],_,h=>h
  | _ :: l,_,h=>rounds_path l _ (round_path h)
theorem out_path {ρ:Rho} {m i:Nat} (H:OkG m ρ) (hi:i < m) {a b:Int} (h:(dt ρ i a b).en=true):(dt ρ i a b).bp=i + 1∧(dt ρ (i + 1) (dt ρ i a b).b0 (dt ρ i a b).b1).en=true:=by
  obtain ⟨W,_,hW⟩:=H.walks i hi
  have e:=H.out i hi W hW a b
  have:=rounds_path (ρ:=ρ) (i:=i) (a:=a) (b:=b) (pairs W) ⟨i,a,b,.zero⟩ (fun h=>by cases h)
  unfold PInv at this
  rw [← e] at this
  exact this h
theorem path_ok {ρ:Rho} {m:Nat} (H:OkG m ρ) (h:enB.den ρ=true):∀ k,k < m→(dP k).1.den ρ=k∧(enP k).den ρ=true
  | 0,_=>⟨rfl,h⟩
  | k + 1,hk=>by
    obtain ⟨h1,h2⟩:=path_ok H h k (by omega)
    have e:(dt ρ k ((dP k).2.1.den ρ) ((dP k).2.2.den ρ)).en=true:=by
      rw [← h1]; exact h2
    obtain ⟨g1,g2⟩:=out_path H (by omega) e
    have n1:(dP (k + 1)).1.den ρ=(k:Int) + 1:=by
      show FI ρ.fi 9404 ((dP k).1.den ρ) ((dP k).2.1.den ρ) ((dP k).2.2.den ρ)=_
      rw [h1]; exact g1
    refine ⟨by rw [n1]; omega,?_⟩
    show FB ρ.fb 9400 ((dP (k + 1)).1.den ρ) (FI ρ.fi 9405 ((dP k).1.den ρ) ((dP k).2.1.den ρ) ((dP k).2.2.den ρ)) (FI ρ.fi 9406 ((dP k).1.den ρ) ((dP k).2.1.den ρ) ((dP k).2.2.den ρ))=true
    rw [n1,h1]; exact g2
theorem pathF_ok {ρ:Rho} {m:Nat} (H:OkG m ρ) (h:enB.den ρ=true):∀ k,k < m→∀ c ∈ pathF k,c.den ρ=true
  | 0,hk,c,hc=>by
    rcases List.mem_singleton.1 hc with rfl
    exact (path_ok H h 0 hk).2
  | k + 1,hk,c,hc=>by
    rcases List.mem_cons.1 hc with rfl | hc
    · exact (path_ok H h (k + 1) hk).2
    · rcases List.mem_cons.1 hc with rfl | hc
      · have:=(path_ok H h (k + 1) hk).1
        have:(IE.app 9404 (dP k).1 (dP k).2.1 (dP k).2.2).den ρ=((k + 1:Nat):Int):=this
        unfold leP
        rw [BE.t_leq,this]
        show (1:Int)≤_
        omega
      · exact pathF_ok H h k (by omega) c hc
theorem run_plan {q:Bool} {m:Nat} (hm:m≤5) (H:cX q m 0) (hco:ckO q m=true) (hv:ba 2000 (vS m)=true):CallOk (pG m) 31 (argsO q m) (ah 2000 (vS m)) (runQ q m):=by
  have B:b8 (pG m) Sx.Tryd.tt.get (tbP q m):=Tryd.tab (orcP q m) (all_ok hm H hco) 2000
  have base:=bL B 60 31 (argsO q m) (ah 2000 (vS m))
  exact base.frame (n:=2000) (l:=vS m) (by omega) (by cases q <;> rfl) hv (fun g hg=>⟨g.2,aC 2000 _ 0 (vS_up m) g hg,.refl _⟩) (by rw [aw]; exact Nat.le_refl _) nwP
theorem fd {p0 p:Par} (hP:p0.P=p.P) (hR:p0.RC=p.RC) {ρ:Rho} {v:AV} {n:Nat} {l:List (Nat × AObj)} {r:AV × Heap} (h:isR v n l r=true):SameV ρ r.1 ρ v∧SameH p0 p ρ r.2 ρ (ah n l):=by
  obtain ⟨P,RC,ok⟩:=p0
  obtain ⟨P',RC',ok'⟩:=p
  cases hP; cases hR
  unfold isR at h
  simp only [Bool.and_eq_true] at h
  obtain ⟨h1,h2,h3⟩:=h
  refine ⟨by rw [dZ _ _ h1]; exact SameV.refl _ _,(aq.1 h3).trans (aw n _).symm,fun b o hg=>?_⟩
  have:=av h2 (b,o) (am _ _ _ _ hg)
  exact ⟨o,gC this,SameA.refl o⟩
theorem plan_ok {ok : Rho → (Nat → Obj → Prop) → Prop} {q c : Bool} {m : Nat} (h0 : 0 < m) (hm : m ≤ 5) (H : cX q m 0) (hco : ckO q m = true) (hck : ckQ q m = true) (hok : ∀ ρ b, ok ρ b → OkG m ρ ∧ enB.den ρ = c) :
    CallOk (aQ ok) 31 (argsO q m) (ah 2000 (vS m)) (.ret (match c with
      | true=>(foundV m,ah 2001 (vQ m))
      | false=>(noneV,ah 2000 (vS m)))):=by
  unfold ckQ at hck
  simp only [Bool.and_eq_true] at hck
  obtain ⟨hv,hc1,hc2⟩:=hck
  refine CallOk.read (p0:=pG m) (p:=aQ ok) rfl (run_plan hm H hco hv) fun ρ b hb Q hQ=>?_
  obtain ⟨w,hw,hbw⟩:=hb
  obtain ⟨hG,he⟩:=hok ρ w hw
  refine ⟨ρ,⟨w,hG,hbw⟩,SameL.refl _ _,vS_same rfl rfl rfl m,?_⟩
  cases c
  · refine dY (ρ:=ρ) (fun K r hK hr=>?_) _ _ (fw (fun c hc=>by cases hc) fun c hc=>?_) hc2
    · obtain ⟨s1,s2⟩:=fd (p0:=pG m) (p:=aQ ok) rfl rfl (ρ:=ρ) hr
      exact ⟨_,hQ,s1,s2⟩
    · rcases List.mem_singleton.1 hc with rfl
      show (!(enB.den ρ))=true
      rw [he]; rfl
  · refine dY (ρ:=ρ) (fun K r hK hr=>?_) _ _ (fw (fun c hc=>by cases hc) fun c hc=>pathF_ok hG he (m - 1) (by omega) c hc) hc1
    obtain ⟨s1,s2⟩:=fd (p0:=pG m) (p:=aQ ok) rfl rfl (ρ:=ρ) hr
    exact ⟨_,hQ,s1,s2⟩
theorem ckQ_all:bz (fun m=>and (ckQ true (m + 1)) (ckQ false (m + 1))) [0,1,2,3,4]=true:=by kernel_rfl
theorem ckO_all:bz (fun m=>and (ckO true m) (and (ckO false m) (and (ckP true m) (ckP false m)))) [0,1,2,3,4,5]=true:=by kernel_rfl
end Go.Sx
