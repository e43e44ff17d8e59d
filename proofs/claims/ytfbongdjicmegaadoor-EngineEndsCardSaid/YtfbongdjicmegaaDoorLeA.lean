/- LeA -/
import Derived.Test.YtfbongdjicmegaaDoorFaB
namespace Go.Sx
open Go.RowKit Go.Proofs
set_option maxRecDepth 100000
theorem orcFa_ok {L n:Nat} (h1:1≤L) (h5:L≤5):∀ f args h t,orcFa L n f args h=some t→CallOk (aQ fun ρ _=>OkFa L n ρ) f args h t:=by
  intro f args h t e
  unfold orcFa at e
  cases h42:Nat.beq f 42 with
  | true=>rw [h42,cond_true] at e; have:=aq.1 h42; subst this; exact so_any (fun ρ b k=>k.cs) (vals_at h1 h5).1 e
  | false =>
    rw [h42,cond_false] at e
    cases h67:Nat.beq f 71 with
    | true =>
      rw [h67,cond_true] at e
      have:=aq.1 h67; subst this
      split at e
      · obtain ⟨hi,e⟩:=ak e
        have hi:=Nat.le_of_ble_eq_true hi
        exact rowGo_ok (step_any h1 h5 hi fun ρ m k=>k.s) rfl rfl e
      · cases e
    | false =>
      rw [h67,cond_false] at e
      obtain ⟨h55,e⟩:=ak e
      have:=aq.1 h55; subst this
      split at e
      · rename_i i _ _ _ _ _
        obtain ⟨_,e⟩:=ak e
        obtain ⟨hi,e⟩:=ak e
        simp only [Bool.and_eq_true] at hi
        have h2:=Nat.le_of_ble_eq_true hi.1
        have h3:=Nat.le_of_ble_eq_true hi.2
        refine rowGo_ok (may_any (i:=i) h1 h5 h2 fun ρ m k=>?_) rfl rfl e
        obtain ⟨d0,d1⟩:=aE_den k i (by omega)
        obtain ⟨_,d2⟩:=aE_den k (i + 1) (by omega)
        have e2:(IE.app 9302 (lt i) (aE 0 i) (.var (540 + 2 * i))).den ρ=bY ρ i 0 (crs ρ (fun j=>ρ.iv (540 + j)) i).1 (ρ.iv (540 + 2 * i)):=by
          show FI ρ.fi 9302 i ((aE 0 i).den ρ) (ρ.iv (540 + 2 * i))=_
          rw [d0]; exact (k.s i (by omega) _ _).2.2.1
        have e3:(IE.app 9303 (lt i) (aE 1 i) (.var (541 + 2 * i))).den ρ=bY ρ i 1 (crs ρ (fun j=>ρ.iv (540 + j)) i).2 (ρ.iv (541 + 2 * i)):=by
          show FI ρ.fi 9303 i ((aE 1 i).den ρ) (ρ.iv (541 + 2 * i))=_
          rw [d1]; exact (k.s i (by omega) _ _).2.2.2
        have:=k.f.may i (by omega) (by omega)
        rw [d2,e2,e3]
        have hb:Nat.beq i n=decide (i=n):=by
          apply Bool.eq_iff_iff.2
          rw [aq,decide_eq_true_iff]
        rw [hb,← this]
        unfold mayK
        show _=mayF ρ i (aY ρ i 1 _ (ρ.iv (540 + (2 * i + 1)))) (bY ρ i 0 _ (ρ.iv (540 + 2 * i))) (bY ρ i 1 _ (ρ.iv (540 + (2 * i + 1))))
        rw [show 540 + (2 * i + 1)=541 + 2 * i by omega]
        show mayF ρ i (aY ρ i 1 (crs ρ (fun j=>ρ.iv (540 + j)) i).2 (ρ.iv (540 + (2 * i + 1)))) _ _=_
        rw [show 540 + (2 * i + 1)=541 + 2 * i by omega]
      · cases e
theorem qPl_ok {ρ : Rho} {nm L : Nat} (hcs : ∀ d ∈ csV L, d.den ρ = true) (hp : ∀ k, k < L → 0 ≤ ρ.iv (nm + 2 * k) ∧ 0 ≤ ρ.iv (nm + 2 * k + 1) ∧ ρ.iv (nm + 2 * k) + ρ.iv (nm + 2 * k + 1) ≤ ρ.iv (33 + 4 * k)) :
    ∀ n k,k + n≤L→(∀ c ∈ ivC (qPl nm n k),c.den ρ=true)∧∀ c ∈ fcPl nm n k,c.den ρ=true
  | 0,_,_=>⟨fun c hc=>(List.not_mem_nil hc).elim,fun c hc=>(List.not_mem_nil hc).elim⟩
  | n + 1,k,h=>by
    obtain ⟨i1,i2⟩:=qPl_ok hcs hp n (k + 1) (by omega)
    obtain ⟨W,w1,w2⟩:=walks_cs hcs k (by omega)
    obtain ⟨p1,p2,p3⟩:=hp k (by omega)
    constructor
    · intro c hc
      simp only [qPl,ivC,List.mem_cons] at hc
      rcases hc with rfl | rfl | rfl | rfl | rfl | rfl | hc
      all_goals first | exact i1 c hc | (rw [BE.t_leq,IE.den_lit,IE.den_var]; omega)
    · intro c hc
      simp only [fcPl,List.mem_cons] at hc
      rcases hc with rfl | rfl | hc
      · unfold leV; rw [BE.t_leq,IE.den_var,IE.den_var]; omega
      · unfold leV; rw [BE.t_leq]
        show ρ.iv (nm + 2 * k + 1)≤IntKind.i64.wrap (ρ.iv (33 + 4 * k) - ρ.iv (nm + 2 * k))
        rw [IntWalk.i64_in _ (by omega)]; omega
      · exact i2 c hc
theorem fails18 {L n:Nat} {arr:Bool} (h1:1≤L) (h5:L≤5) (hn:n≤L):CallOk (aQ fun ρ _=>OkFa L n ρ) 16 (argsFa arr 1002 L) (ah 2000 (vF L)) (.ret (resFa L n,ah 2000 (vF L))):=by
  have hck:ckFa arr L n=true:=by
    have:=av (av ckFa_all L (by simp only [List.mem_cons,List.not_mem_nil,or_false]; omega)) n (bP (by omega))
    simp only [Bool.and_eq_true] at this
    cases arr
    · exact this.2
    · exact this.1
  unfold ckFa at hck
  simp only [Bool.and_eq_true] at hck
  obtain ⟨hv,hck⟩:=hck
  have B:b8 (aQ fun ρ _=>OkFa L n ρ) Sx.Tryd.tt.get (tbFa L n):=Tryd.tab (orcFa L n) (orcFa_ok h1 h5) 2000
  have base:=bL B 60 16 (argsFa arr 1002 L) (ah 2000 (vF L))
  have up:∀ g ∈ vF L,(ah 2000 (vF L)).get g.1=some g.2:=aC 2000 _ 0 rfl
  have fr:=base.frame (n:=2000) (l:=vF L) (by omega) (by cases arr <;> rfl) hv (fun g hg=>⟨g.2,up g hg,.refl _⟩) (by rw [aw]; exact Nat.le_refl _) (fun _=>[])
  refine CallOk.read (p0:=aQ fun ρ _=>OkFa L n ρ) (p:=aQ fun ρ _=>OkFa L n ρ) rfl fr fun ρ b hb P hP=>⟨ρ,hb,SameL.refl _ _,⟨rfl,fun j o g=>⟨o,g,SameA.refl o⟩⟩,?_⟩
  obtain ⟨w,hw,_⟩:=hb
  have hw:OkFa L n ρ:=hw
  obtain ⟨q1,q2⟩:=qPl_ok (nm:=540) hw.cs (fun k hk=>by
    have:=hw.f.pb k hk
    rw [show 540 + 2 * k + 1=540 + (2 * k + 1) by omega]; exact this) L 0 (by omega)
  refine dY (ρ:=ρ) (fun K r hK hr=>?_) _ _ (fw q1 q2) hck
  obtain ⟨s1,s2⟩:=fd (p0:=aQ fun ρ _=>OkFa L n ρ) (p:=aQ fun ρ _=>OkFa L n ρ) rfl rfl (ρ:=ρ) hr
  exact ⟨_,hP,s1,s2⟩
theorem fA {ρ ρ':Rho} (A:cD ρ ρ') (pl:Nat→Int):∀ k,k≤6→crs ρ pl k=crs ρ' pl k
  | 0,_=>by simp only [crs,A.iv 0 (by omega),A.iv 2 (by omega)]
  | k + 1,h=>by
    simp only [crs,fA A pl k (by omega),cL A (show k < 7 by omega) (show 0 < 2 by omega),cL A (show k < 7 by omega) (show 1 < 2 by omega)]
theorem mayK_agree {ρ ρ':Rho} (A:cD ρ ρ') (pl:Nat→Int) {k:Nat} (h:k≤5):mayK ρ pl k=mayK ρ' pl k:=by
  unfold mayK mayF
  rw [fA A pl k (by omega),cL A (show k < 7 by omega) (show 1 < 2 by omega),cd A (show k < 7 by omega) (show 0 < 2 by omega),cd A (show k < 7 by omega) (show 1 < 2 by omega),fail_agreeL A (show k < 7 by omega)]
theorem faOk_agree {ρ ρ':Rho} (A:cD ρ ρ') {L n:Nat} (h5:L≤5) {pl:Nat→Int} (h:FaOk L n pl ρ):FaOk L n pl ρ' :=
  ⟨fun k hk=>by rw [← A.iv (33 + 4 * k) (by omega)]; exact h.pb k hk,fun k hk hn=>by rw [← mayK_agree A pl (by omega)]; exact h.may k hk hn⟩
noncomputable def ff (pE:Nat→IE):Nat→Nat→List AV
  | 0,_=>[]
  | n + 1,k=>.int .i64 (pE k) :: .int .i64 (pE (k + 1)) :: ff pE n (k + 2)
theorem io (pE:Nat→IE) (N:Nat):∀ n k,aW N (ff pE n k)=true
  | 0,_=>rfl
  | n + 1,k=>by simp only [ff,aW,cP,io pE N n (k + 2),Bool.and_self]
theorem fW {ρ ρ':Rho} {pE:Nat→IE} {b:Nat}:∀ n k,(∀ j,k≤j→j < k + 2 * n→(pE j).den ρ=ρ'.iv (b + j))→SameL ρ (ff pE n k) ρ' (planN n (b + k))
  | 0,_,_=>SameL.nil
  | n + 1,k,h=>SameL.cons (SameV.int (h k (by omega) (by omega))) (SameL.cons (SameV.int (h (k + 1) (by omega) (by omega))) (fW n (k + 2) fun j h1 h2=>h j (by omega) (by omega)))
noncomputable def fa18 (pE:Nat→IE) (arr:Bool) (pb L n:Nat) (args:List AV) (h:Heap):Option (T (AV × Heap)) :=
  cond (and (dg args (argsFa arr pb L)) (and (fe glC (h.get 0)) (and (fe (bf L 30) (h.get 1001)) (and (fe (ff pE L 0) (h.get pb)) (Nat.ble 2000 h.next))))) (some (.ret (resFa L n,h))) none
noncomputable def vFX (pE:Nat→IE) (L:Nat):List (Nat × AObj):=[(0,glO),(1001,.cells (bf L 30) 0 false false),(1002,.cells (ff pE L 0) 0 false false)]
theorem fa18_ok {ok : Rho → (Nat → Obj → Prop) → Prop} {pE : Nat → IE} {arr : Bool} {pb L n : Nat} (h1 : 1 ≤ L) (h5 : L ≤ 5) (hn : n ≤ L)
    (hok:∀ ρ m,ok ρ m→(∀ d ∈ csV L,d.den ρ=true)∧FaOk L n (fun j=>(pE j).den ρ) ρ) {args:List AV} {h:Heap} {t:T (AV × Heap)} (k:fa18 pE arr pb L n args h=some t):CallOk (aQ ok) 16 args h t:=by
  unfold fa18 at k
  obtain ⟨hk,k1⟩:=ak k
  clear k
  simp only [Bool.and_eq_true] at hk
  obtain ⟨g1,g2,g3,g4,_⟩:=hk
  obtain rfl:=aZ _ _ g1
  obtain rfl:=Option.some.inj k1
  have hc1:CallOk (aQ ok) 16 (argsFa arr 1002 L) (ah 2000 (vFX pE L)) (.ret (resFa L n,ah 2000 (vFX pE L))):=by
    refine CallOk.read (p0:=aQ fun ρ _=>OkFa L n ρ) (p:=aQ ok) rfl (fails18 (arr:=arr) h1 h5 hn) fun ρ b hb Q hQ=>?_
    obtain ⟨w,hw,hbw⟩:=hb
    obtain ⟨o1,o2⟩:=hok ρ w hw
    let ρ1:Rho:=⟨fun j=>if j < 60 then ρ.iv j else (pE (j - 540)).den ρ,ρ.bv,ρ.fi,ρ.fb,ρ.ov⟩
    let ρ':=fy ρ1 L
    have iv:∀ j,j < 60→ρ.iv j=ρ'.iv j:=fun j hj=>(if_pos hj).symm
    have R:Reads IE.var ρ ρ':=⟨iv,fun _ _=>rfl⟩
    have A:cD ρ ρ':=⟨iv,fun _ _=>rfl⟩
    have A1:cD ρ1 ρ':=⟨fun _ _=>rfl,fun _ _=>rfl⟩
    have nm:∀ j,ρ'.iv (540 + j)=(pE j).den ρ:=fun j=>by
      show (if 540 + j < 60 then _ else (pE (540 + j - 540)).den ρ)=_
      rw [if_neg (by omega),Nat.add_sub_cancel_left]
    have hpl:(fun j=>ρ'.iv (540 + j))=fun j=>(pE j).den ρ:=funext nm
    have hf:OkFa L n ρ':=by
      refine ⟨eY h5 iv o1,fun i hi a w=>?_,by rw [hpl]; exact faOk_agree A h5 o2⟩
      have s:=step_E ρ1 L i a w
      have l:=fun r (hr:r < 2)=>cL A1 (i:=i) (r:=r) (by omega) hr a w
      have q:=fun r (hr:r < 2)=>cd A1 (i:=i) (r:=r) (by omega) hr a w
      exact ⟨s.1.trans (l 0 (by omega)),s.2.1.trans (l 1 (by omega)),s.2.2.1.trans (q 0 (by omega)),s.2.2.2.trans (q 1 (by omega))⟩
    have rows:=eH R h5
    have cells:SameL ρ (ff pE L 0) ρ' (planN L 540):=fW L 0 fun j _ _=>(nm j).symm
    have atX:∀ g ∈ vFX pE L,(ah 2000 (vFX pE L)).get g.1=some g.2:=aC 2000 _ 0 rfl
    have atF:∀ g ∈ vF L,(ah 2000 (vF L)).get g.1=some g.2:=aC 2000 _ 0 rfl
    refine ⟨ρ',⟨w,hf,hbw⟩,?_,⟨rfl,fun b o hg=>?_⟩,(resFa L n,ah 2000 (vFX pE L)),hQ,?_,⟨rfl,fun b o hg=>?_⟩⟩
    · exact SameL.cons (eI R _ _ _ _) (SameL.cons (by cases arr <;> exact fun _ _ _ _ _ _=>rfl) SameL.nil)
    · have:=am _ _ _ _ hg
      simp only [vF,List.mem_cons,List.not_mem_nil,or_false] at this
      rcases this with h | h | h
      · cases h; exact ⟨_,atX (0,glO) (by simp [vFX]),SameA.cells rfl (fun _ _ _ _ _ _=>rfl)⟩
      · cases h; exact ⟨_,atX (1001,.cells (bf L 30) 0 false false) (by simp [vFX]),SameA.cells rfl rows⟩
      · cases h; exact ⟨_,atX (1002,.cells (ff pE L 0) 0 false false) (by simp [vFX]),SameA.cells rfl cells⟩
    · unfold resFa
      cases Nat.blt n L <;> exact fun _ _ _ _ _ _=>rfl
    · have:=am _ _ _ _ hg
      simp only [vFX,List.mem_cons,List.not_mem_nil,or_false] at this
      rcases this with h | h | h
      · cases h; exact ⟨_,atF (0,glO) (by simp [vF]),SameA.cells rfl (fun _ _ _ _ _ _=>rfl)⟩
      · cases h; exact ⟨_,atF (1001,.cells (bf L 30) 0 false false) (by simp [vF]),SameA.cells rfl rows.symm⟩
      · cases h; exact ⟨_,atF (1002,.cells (planN L 540) 0 false false) (by simp [vF]),SameA.cells rfl cells.symm⟩
  have n2:∀ b,b ≠ 1002→mvN 1002 pb b=b:=fun b hb=>by unfold mvN; rw [if_neg hb]
  refine hc1.moved (a:=1002) (c:=pb) (by omega) (by omega) (by unfold resFa; cases Nat.blt n L <;> rfl) (fun g hg=>?_) (fun g hg=>?_) fun E=>?_
  · simp only [vFX,List.mem_cons,List.not_mem_nil,or_false] at hg
    rcases hg with rfl | rfl | rfl
    · exact ⟨by show 0 < 2000; omega,rfl,rfl⟩
    · exact ⟨by show 1001 < 2000; omega,rfl,rowsV_ids L 30⟩
    · exact ⟨by show 1002 < 2000; omega,rfl,io pE 0 L 0⟩
  · simp only [vFX,List.mem_cons,List.not_mem_nil,or_false] at hg
    rcases hg with rfl | rfl | rfl
    · exact bH g2
    · exact bH g3
    · exact bH g4
  · have e1 : ad (E.mv 1002 pb 2000) (eG (.sliceX 1001 4 0 L)) = ad E (eG (.sliceX 1001 4 0 L)) := by
      refine mv_vx IE.var ?_ 22 0
      simp only [ad,af,Env.mv,mvN,show (1001:Nat) < 2000 by omega,if_true,show ¬ (1001:Nat)=1002 by omega,if_false]
    have e2:af (E.mv 1002 pb 2000) (plA arr 1002 L)=af E (plA arr pb L):=by
      cases arr <;> simp only [plA,cond_true,cond_false,af,Env.mv,mvN,show (1002:Nat) < 2000 by omega,if_true]
    simp only [argsFa,ad,af,e1,e2]
end Go.Sx
namespace Go.Sx
open Go.RowKit Go.Proofs
set_option maxRecDepth 100000
noncomputable def endH:List AV:=[fnA 66,fnA 65]
noncomputable def tkH (i r:Nat) (lit:Bool):IE:=.bin .mul .i64 (.var (30 + 4 * i)) (.var (cond lit (10 + 4 * r) (8 + 4 * r)))
noncomputable def takHT {α:Type} (i r:Nat) (k:IE→T α):T α:=.br (.var (32 + 4 * i)) (k (tkH i r true)) (k (tkH i r false))
noncomputable def stepHT (i:Nat):T AV :=
  hasT 0 fun h0=>takHT i 0 fun t0=>minT t0 h0 fun n0=>hasT 1 fun h1=>takHT i 1 fun t1=>minT t1 h1 fun n1 =>
    .ret (.tup [.agg [vi 502,vi 503,li (Int.ofNat (i + 1)),.int .i64 (subE h0 n0),.int .i64 (subE h1 n1),.int .i64 (subE t0 n0),.int .i64 (subE t1 n1)],.bool (.lit true)])
noncomputable def stepAH (L i:Nat) (a b c w:IE):List AV:=[.agg (gD (.sliceX 1001 4 0 L)),pointE i a b,.agg [.int .i64 c,.int .i64 w],.agg endH]
noncomputable def stepRH (i:Nat) (a b c w:IE):AV:=.agg [.int .i64 c,.int .i64 w,li (Int.ofNat (i + 1)),apE 9310 (lt i) a c,apE 9311 (lt i) b w,apE 9312 (lt i) a c,apE 9313 (lt i) b w]
noncomputable def runSH (m i:Nat):T (AV × Heap):=(b7 tb0 60 false 71 (stepAH m i (.var 500) (.var 501) (.var 502) (.var 503)) (ah 2000 (vS m))).bind fun r=>bV 2000 (vS m) (ah 2000 (vS m)) [] r
noncomputable def ckSH (m i:Nat):Bool:=and (ba 2000 (vS m)) (eqTF ((runSH m i).bind fun r=>.ret (encS m r)) (stepHT i))
def takH (ρ:Rho) (i r:Nat):Int:=IntKind.i64.wrap (ρ.iv (30 + 4 * i) * ρ.iv (if ρ.bv (32 + 4 * i)=true then 10 + 4 * r else 8 + 4 * r))
noncomputable def dQ (ρ:Rho) (i r:Nat) (a w:Int):Int:=IntKind.i64.wrap (cA ρ r a w - (if takH ρ i r < cA ρ r a w then takH ρ i r else cA ρ r a w))
noncomputable def lackH (ρ:Rho) (i r:Nat) (a w:Int):Int:=IntKind.i64.wrap (takH ρ i r - (if takH ρ i r < cA ρ r a w then takH ρ i r else cA ρ r a w))
def OkSH (m:Nat) (ρ:Rho):Prop:=∀ i,i < m→∀ a w:Int,FI ρ.fi 9310 i a w=dQ ρ i 0 a w∧FI ρ.fi 9311 i a w=dQ ρ i 1 a w∧FI ρ.fi 9312 i a w=lackH ρ i 0 a w∧FI ρ.fi 9313 i a w=lackH ρ i 1 a w
theorem takHT_holds {α:Type} {ρ:Rho} {P:α→Prop} {i r:Nat} {k:IE→T α} (h:∀ e:IE,e.den ρ=takH ρ i r→(k e).Holds ρ P):(takHT i r k).Holds ρ P:=by
  unfold takHT
  simp only [T.Holds]
  split
  · rename_i hc
    have hc:ρ.bv (32 + 4 * i)=true:=hc
    refine h _ ?_
    unfold takH; rw [if_pos hc]; rfl
  · rename_i hc
    have hc:¬ ρ.bv (32 + 4 * i)=true:=hc
    refine h _ ?_
    unfold takH; rw [if_neg hc]; rfl
theorem stepH_var {m i:Nat} (hi:i < m) (hck:ckSH m i=true):CallOk (aQ fun ρ _=>OkSH m ρ) 71 (stepAH m i (.var 500) (.var 501) (.var 502) (.var 503)) (ah 2000 (vS m)) (.ret (stepRH i (.var 500) (.var 501) (.var 502) (.var 503),ah 2000 (vS m))):=by
  unfold ckSH at hck
  rw [Bool.and_eq_true] at hck
  obtain ⟨hv,hck⟩:=hck
  have B:b8 (aQ fun ρ _=>OkSH m ρ) Sx.Tryd.tt.get tb0:=Tryd.tab (fun _ _ _=>none) (fun _ _ _ _ h=>by cases h) 2000
  have base:=bL B 60 71 (stepAH m i (.var 500) (.var 501) (.var 502) (.var 503)) (ah 2000 (vS m))
  have fr:CallOk (aQ fun ρ _=>OkSH m ρ) 71 (stepAH m i (.var 500) (.var 501) (.var 502) (.var 503)) (ah 2000 (vS m)) (runSH m i):=base.frame (n:=2000) (l:=vS m) (by omega) rfl hv (fun g hg=>⟨g.2,aC 2000 _ 0 (vS_up m) g hg,.refl _⟩) (by rw [aw]; exact Nat.le_refl _) (fun _=>[])
  refine CallOk.read (p0:=aQ fun ρ _=>OkSH m ρ) (p:=aQ fun ρ _=>OkSH m ρ) rfl fr fun ρ b hok Q hQ=>⟨ρ,hok,SameL.refl _ _,SameH.refl _,T.holds_enc (ea _ _ hck) ?_⟩
  obtain ⟨m',hm,_⟩:=hok
  have hS:OkSH m ρ:=hm
  obtain ⟨s0,_,s2,_⟩:=hS i hi (ρ.iv 500) (ρ.iv 502)
  obtain ⟨_,s1,_,s3⟩:=hS i hi (ρ.iv 501) (ρ.iv 503)
  unfold stepHT
  refine ij fun h0 e0=>takHT_holds fun t0 e1=>il fun n0 e2=>ij fun h1 e3=>takHT_holds fun t1 e4=>il fun n1 e5=>?_
  rw [e0,e1] at e2
  rw [e3,e4] at e5
  intro r he
  simp only [encS,AV.tup.injEq,List.cons.injEq,and_true,AV.bool.injEq,BE.lit.injEq,Bool.and_eq_true] at he
  obtain ⟨he1,he2,he3⟩:=he
  refine ⟨_,hQ,?_,(aq.1 he3).trans (aw 2000 _).symm,fun b o hg=>?_⟩
  · rw [he1]
    have d0:(subE h0 n0).den ρ=(IE.app 9310 (lt i) (.var 500) (.var 502)).den ρ:=by
      show IntKind.i64.wrap (h0.den ρ - n0.den ρ)=FI ρ.fi 9310 i (ρ.iv 500) (ρ.iv 502)
      rw [s0,e0,e2]; rfl
    have d1:(subE h1 n1).den ρ=(IE.app 9311 (lt i) (.var 501) (.var 503)).den ρ:=by
      show IntKind.i64.wrap (h1.den ρ - n1.den ρ)=FI ρ.fi 9311 i (ρ.iv 501) (ρ.iv 503)
      rw [s1,e3,e5]; rfl
    have d2:(subE t0 n0).den ρ=(IE.app 9312 (lt i) (.var 500) (.var 502)).den ρ:=by
      show IntKind.i64.wrap (t0.den ρ - n0.den ρ)=FI ρ.fi 9312 i (ρ.iv 500) (ρ.iv 502)
      rw [s2,e1,e2]; rfl
    have d3:(subE t1 n1).den ρ=(IE.app 9313 (lt i) (.var 501) (.var 503)).den ρ:=by
      show IntKind.i64.wrap (t1.den ρ - n1.den ρ)=FI ρ.fi 9313 i (ρ.iv 501) (ρ.iv 503)
      rw [s3,e4,e5]; rfl
    exact SameV.agg (SameL.cons (SameV.int rfl) (SameL.cons (SameV.int rfl) (SameL.cons (SameV.int rfl) (SameL.cons (SameV.int d0) (SameL.cons (SameV.int d1) (SameL.cons (SameV.int d2) (SameL.cons (SameV.int d3) SameL.nil)))))))
  · have hm':=am _ _ _ _ hg
    rcases List.mem_singleton.1 hm' with h
    cases h
    exact ⟨_,gC he2,SameA.refl _⟩
end Go.Sx
