/- THE CALL Fails: a step,and whether a part can fail,by names. -/
import Derived.Test.YtpkonfmonoaajaaDoorEvH
/-! THE CALL Fails: a step,and whether a part can fail,by names. -/
namespace Go.Sx
open Go.RowKit Go.Proofs
set_option maxRecDepth 100000
theorem ckS_all:lAll (fun m=>lAll (ckS true m) (cntD m)) [1,2,3,4,5]=true:=by kernel_rfl
/-- a call that only reads the parts of an evening -/
noncomputable def rowGo (L:Nat) (args0:List AV) (v:AV) (args:List AV) (h:Heap):Option (T (AV × Heap)) :=
  cond (and (eqAVs args args0) (and (frontC (rowsV L 30) (h.get 1001)) (Nat.ble 2000 h.next))) (some (.ret (v,h))) none
theorem rowGo_ok {ok : Rho → (Nat → Obj → Prop) → Prop} {L f : Nat} {args0 args : List AV} {v : AV} {h : Heap} {t : T (AV × Heap)} (hc : CallOk (pLaw ok) f args0 (viewA 2000 (vS L)) (.ret (v, viewA 2000 (vS L)))) (hi : idsLts 2000 args0 = true) (hv : idsLt 0 v = true)
    (k:rowGo L args0 v args h=some t):CallOk (pLaw ok) f args h t:=by
  unfold rowGo at k
  obtain ⟨hk,k1⟩:=cond_some k
  clear k
  simp only [Bool.and_eq_true] at hk
  obtain ⟨h1,h2,_⟩:=hk
  obtain rfl:=eqAVs_eq _ _ h1
  obtain rfl:=Option.some.inj k1
  refine hc.moved (a:=1001) (c:=1001) (by omega) (by omega) hv (fun g hg=>?_) (fun g hg=>?_) fun E=>mv_self hi
  · rcases List.mem_singleton.1 hg with rfl
    exact ⟨by show 1001 < 2000; omega,rfl,rowsV_ids L 30⟩
  · rcases List.mem_singleton.1 hg with rfl
    exact frontC_ok h2
theorem rowsX_var:∀ n b,rowsX IE.var n b=rowsV n b
  | 0,_=>rfl
  | n + 1,b=>by
    show vi b :: vi (b + 1) :: .bool (.var (b + 2)) :: vi (b + 3) :: rowsX IE.var n (b + 4)=vi b :: vi (b + 1) :: .bool (.var (b + 2)) :: vi (b + 3) :: rowsV n (b + 4)
    rw [rowsX_var n (b + 4)]
theorem rowsV_reads {ρ ρ':Rho} (R:Reads IE.var ρ ρ') {L:Nat} (h5:L≤5):SameL ρ (rowsV L 30) ρ' (rowsV L 30):=by
  have:=rowsX_reads R L 30 (by omega)
  rw [rowsX_var] at this
  exact this
/-! ## A step -/
noncomputable def stepA (L i:Nat) (a b c w:IE):List AV:=[.agg (evenS (.sliceX 1001 4 0 L)),pointE i a b,.agg [.int .i64 c,.int .i64 w],.agg endV]
noncomputable def stepR (i:Nat) (a b c w:IE):AV:=.agg [.int .i64 c,.int .i64 w,li (Int.ofNat (i + 1)),apE 9300 (lt i) a c,apE 9301 (lt i) b w,apE 9302 (lt i) a c,apE 9303 (lt i) b w]
theorem step_any {ok : Rho → (Nat → Obj → Prop) → Prop} {L i : Nat} {a b c w : IE} (h1 : 1 ≤ L) (h5 : L ≤ 5) (hi : i < L) (hok : ∀ ρ m, ok ρ m → OkS L ρ) :
    CallOk (pLaw ok) 67 (stepA L i a b c w) (viewA 2000 (vS L)) (.ret (stepR i a b c w,viewA 2000 (vS L))):=by
  have hck:ckS true L i=true:=lAll_mem (lAll_mem ckS_all L (by simp only [List.mem_cons,List.not_mem_nil,or_false]; omega)) i (cntD_mem hi)
  refine CallOk.read (p0:=pS L) (p:=pLaw ok) rfl (step_var hi hck) fun ρ b' hk Q hQ=>?_
  obtain ⟨m,hm,hmh⟩:=hk
  let ρ':Rho:=⟨fun j=>if j=500 then a.den ρ else if j=501 then b.den ρ else if j=502 then c.den ρ else if j=503 then w.den ρ else ρ.iv j,ρ.bv,ρ.fi,ρ.fb,ρ.ov⟩
  have A:AlikeG ρ ρ':=⟨fun j hj=>by show ρ.iv j=(if j=500 then _ else _); rw [if_neg (by omega),if_neg (by omega),if_neg (by omega),if_neg (by omega)],fun _ _=>rfl,rfl,rfl⟩
  have i0:ρ'.iv 500=a.den ρ:=rfl
  have i1:ρ'.iv 501=b.den ρ:=rfl
  have i2:ρ'.iv 502=c.den ρ:=rfl
  have i3:ρ'.iv 503=w.den ρ:=rfl
  have R:Reads IE.var ρ ρ':=⟨fun j hj=>A.iv j (by omega),fun _ _=>rfl⟩
  have rows:SameL ρ (rowsV L 30) ρ' (rowsV L 30):=rowsV_reads R h5
  have at_:(viewA 2000 (vS L)).get 1001=some (.cells (rowsV L 30) 0 false false):=viewA_mem 2000 (vS L) 0 rfl (1001,.cells (rowsV L 30) 0 false false) (List.mem_singleton.2 rfl)
  refine ⟨ρ',⟨m,okS_alike A (by omega) (hok ρ m hm),hmh⟩,?_,⟨rfl,fun b o hg=>?_⟩,(stepR i a b c w,viewA 2000 (vS L)),hQ,?_,⟨rfl,fun b o hg=>?_⟩⟩
  · exact SameL.cons (evenX_reads R _ _ _ _) (SameL.cons (SameV.agg (SameL.cons (SameV.int rfl) (SameL.cons (SameV.int i0.symm) (SameL.cons (SameV.int i1.symm) SameL.nil)))) (SameL.cons (SameV.agg (SameL.cons (SameV.int i2.symm) (SameL.cons (SameV.int i3.symm) SameL.nil))) (fun _ _ _ _ _ _=>rfl)))
  · rcases List.mem_singleton.1 (viewA_get _ _ _ _ hg) with h
    cases h; exact ⟨_,at_,SameA.cells rfl rows⟩
  · have d : ∀ f (x x' y y' : IE), x.den ρ' = x'.den ρ → y.den ρ' = y'.den ρ → (IE.app f (lt i) x y).den ρ' = (IE.app f (lt i) x' y').den ρ := fun f x x' y y' h1 h2 => by
      show FI ρ.fi f i (x.den ρ') (y.den ρ')=FI ρ.fi f i (x'.den ρ) (y'.den ρ)
      rw [h1,h2]
    exact SameV.agg (SameL.cons (SameV.int i2) (SameL.cons (SameV.int i3) (SameL.cons (SameV.int rfl) (SameL.cons (SameV.int (d _ _ _ _ _ i0 i2)) (SameL.cons (SameV.int (d _ _ _ _ _ i1 i3)) (SameL.cons (SameV.int (d _ _ _ _ _ i0 i2)) (SameL.cons (SameV.int (d _ _ _ _ _ i1 i3)) SameL.nil)))))))
  · rcases List.mem_singleton.1 (viewA_get _ _ _ _ hg) with h
    cases h; exact ⟨_,at_,SameA.cells rfl rows.symm⟩
/-! ## Whether a part can fail -/
def mayF (ρ:Rho) (i:Nat) (l1 k0 k1:Int):Bool:=!(decide (k0=0∧k1=0)) || failF ρ i l1
noncomputable def mayA (L i:Nat) (c w l0 l1 k0 k1:IE):List AV:=[.agg (evenS (.sliceX 1001 4 0 L)),.agg [.int .i64 c,.int .i64 w,li (Int.ofNat (i + 1)),.int .i64 l0,.int .i64 l1,.int .i64 k0,.int .i64 k1]]
noncomputable def runMv (L i:Nat):T (AV × Heap):=(evalN tb0 60 false 55 (mayA L i (.var 502) (.var 503) (.var 504) (.var 505) (.var 506) (.var 507)) (viewA 2000 (vS L))).bind fun r=>graftT 2000 (vS L) (viewA 2000 (vS L)) [] r
noncomputable def isM (b:Bool):T AV:=.ret (.tup [.bool (.lit b),.bool (.lit true)])
noncomputable def mayVT (i:Nat):T AV :=
  .br (.not (.and (.cmp .eql (.var 506) (.lit 0)) (.and (.cmp .eql (.var 507) (.lit 0)) (.lit true)))) (isM true)
    (.br (.var (32 + 4 * i)) (.br (.cmp .lss (.var 505) (.var 20)) (.br (.cmp .lss (.var 18) (.var 21)) (isM true) (isM false)) (.br (.cmp .lss (.var 16) (.var 21)) (isM true) (isM false))) (isM false))
noncomputable def ckMv (L i:Nat):Bool:=and (viewOk 2000 (vS L)) (eqTF ((runMv L i).bind fun r=>.ret (encS L r)) (mayVT i))
theorem ckMv_all:lAll (fun m=>lAll (ckMv m) (cntD m)) [1,2,3,4,5]=true:=by kernel_rfl
theorem may_var {ok : Rho → (Nat → Obj → Prop) → Prop} {L i : Nat} (h1 : 1 ≤ L) (h5 : L ≤ 5) (hi : i < L) (hok : ∀ ρ m, ok ρ m → mayF ρ i (ρ.iv 505) (ρ.iv 506) (ρ.iv 507) = ρ.bv 906) :
    CallOk (pLaw ok) 55 (mayA L i (.var 502) (.var 503) (.var 504) (.var 505) (.var 506) (.var 507)) (viewA 2000 (vS L)) (.ret (.bool (.var 906),viewA 2000 (vS L))):=by
  have hck:ckMv L i=true:=lAll_mem (lAll_mem ckMv_all L (by simp only [List.mem_cons,List.not_mem_nil,or_false]; omega)) i (cntD_mem hi)
  unfold ckMv at hck
  simp only [Bool.and_eq_true] at hck
  obtain ⟨hv,hck⟩:=hck
  have B:TabOk (pLaw ok) Sx.Tryd.tt.get tb0:=Tryd.tab (fun _ _ _=>none) (fun _ _ _ _ h=>by cases h) 2000
  have base:=eval_ok B 60 55 (mayA L i (.var 502) (.var 503) (.var 504) (.var 505) (.var 506) (.var 507)) (viewA 2000 (vS L))
  have fr:CallOk (pLaw ok) 55 (mayA L i (.var 502) (.var 503) (.var 504) (.var 505) (.var 506) (.var 507)) (viewA 2000 (vS L)) (runMv L i):=base.frame (n:=2000) (l:=vS L) (by omega) rfl hv (fun g hg=>⟨g.2,viewA_mem 2000 _ 0 (vS_up L) g hg,.refl _⟩) (by rw [viewA_next]; exact Nat.le_refl _) (fun _=>[])
  refine CallOk.read (p0:=pLaw ok) (p:=pLaw ok) rfl fr fun ρ b hk Q hQ=>⟨ρ,hk,SameL.refl _ _,SameH.refl _,T.holds_enc (eqTF_eq _ _ hck) ?_⟩
  obtain ⟨m,hm,_⟩:=hk
  have h:=hok ρ m hm
  have leaf:∀ c:Bool,ρ.bv 906=c→(isM c).Holds ρ fun a=>∀ r,encS L r=a→∃ r',Q r'∧SameV ρ r.1 ρ r'.1∧SameH (pLaw ok) (pLaw ok) ρ r.2 ρ r'.2:=fun c hc=>by
    intro r he
    simp only [encS,AV.tup.injEq,List.cons.injEq,and_true,AV.bool.injEq,BE.lit.injEq,Bool.and_eq_true] at he
    obtain ⟨he1,he2,he3⟩:=he
    refine ⟨_,hQ,by rw [he1]; exact SameV.bool hc.symm,(beq_t.1 he3).trans (viewA_next 2000 _).symm,fun b o hg=>?_⟩
    rcases List.mem_singleton.1 (viewA_get _ _ _ _ hg) with h
    cases h
    exact ⟨_,isO_eq he2,SameA.refl _⟩
  have c0:(BE.not (.and (.cmp .eql (.var 506) (.lit 0)) (.and (.cmp .eql (.var 507) (.lit 0)) (.lit true)))).den ρ=true ↔ ¬ (ρ.iv 506=0∧ρ.iv 507=0):=by
    simp [BE.den,cmpDen,IE.den]
    omega
  have t:∀ x:Bool,mayF ρ i (ρ.iv 505) (ρ.iv 506) (ρ.iv 507)=x→(isM x).Holds ρ fun a=>∀ r,encS L r=a→∃ r',Q r'∧SameV ρ r.1 ρ r'.1∧SameH (pLaw ok) (pLaw ok) ρ r.2 ρ r'.2:=fun x hx=>leaf x (h.symm.trans hx)
  have hlit:(BE.var (32 + 4 * i)).den ρ=ρ.bv (32 + 4 * i):=rfl
  unfold mayVT
  simp only [T.Holds]
  split
  · rename_i k
    refine t true ?_
    unfold mayF
    rw [decide_eq_false (c0.1 k)]; rfl
  · rename_i k
    have k:ρ.iv 506=0∧ρ.iv 507=0:=by
      by_cases hk:ρ.iv 506=0∧ρ.iv 507=0
      · exact hk
      · exact absurd (c0.2 hk) k
    have e:mayF ρ i (ρ.iv 505) (ρ.iv 506) (ρ.iv 507)=failF ρ i (ρ.iv 505):=by
      unfold mayF; rw [decide_eq_true k]; simp
    rw [e] at t
    unfold failF at t
    split
    · rename_i hl
      rw [hlit] at hl
      rw [hl] at t
      split
      · rename_i hw
        rw [BE.t_lss,IE.den_var,IE.den_var] at hw
        rw [if_pos hw] at t
        split
        · rename_i hc; rw [BE.t_lss,IE.den_var,IE.den_var] at hc; exact t true (by simpa using hc)
        · rename_i hc; rw [BE.t_lss,IE.den_var,IE.den_var] at hc; exact t false (by simpa using hc)
      · rename_i hw
        rw [BE.t_lss,IE.den_var,IE.den_var] at hw
        rw [if_neg hw] at t
        split
        · rename_i hc; rw [BE.t_lss,IE.den_var,IE.den_var] at hc; exact t true (by simpa using hc)
        · rename_i hc; rw [BE.t_lss,IE.den_var,IE.den_var] at hc; exact t false (by simpa using hc)
    · rename_i hl
      rw [hlit] at hl
      exact t false (by simp [hl])
theorem may_any {ok : Rho → (Nat → Obj → Prop) → Prop} {L i : Nat} {b : Bool} {c w l0 l1 k0 k1 : IE} (h1 : 1 ≤ L) (h5 : L ≤ 5) (hi : i < L) (hok : ∀ ρ m, ok ρ m → mayF ρ i (l1.den ρ) (k0.den ρ) (k1.den ρ) = b) :
    CallOk (pLaw ok) 55 (mayA L i c w l0 l1 k0 k1) (viewA 2000 (vS L)) (.ret (.bool (.lit b),viewA 2000 (vS L))):=by
  refine CallOk.read (p0:=pLaw fun ρ _=>mayF ρ i (ρ.iv 505) (ρ.iv 506) (ρ.iv 507)=ρ.bv 906) (p:=pLaw ok) rfl (may_var h1 h5 hi fun ρ _ h=>h) fun ρ b' hk Q hQ=>?_
  obtain ⟨m,hm,hmh⟩:=hk
  let ρ':Rho:=⟨fun j=>if j=502 then c.den ρ else if j=503 then w.den ρ else if j=504 then l0.den ρ else if j=505 then l1.den ρ else if j=506 then k0.den ρ else if j=507 then k1.den ρ else ρ.iv j,fun j=>if j=906 then b else ρ.bv j,ρ.fi,ρ.fb,ρ.ov⟩
  have R:Reads IE.var ρ ρ':=⟨fun j hj=>by show ρ.iv j=(if j=502 then _ else _); rw [if_neg (by omega),if_neg (by omega),if_neg (by omega),if_neg (by omega),if_neg (by omega),if_neg (by omega)],fun j hj=>by show ρ.bv j=(if j=906 then _ else _); rw [if_neg (by omega)]⟩
  have rows:SameL ρ (rowsV L 30) ρ' (rowsV L 30):=rowsV_reads R h5
  have at_:(viewA 2000 (vS L)).get 1001=some (.cells (rowsV L 30) 0 false false):=viewA_mem 2000 (vS L) 0 rfl (1001,.cells (rowsV L 30) 0 false false) (List.mem_singleton.2 rfl)
  have hm':mayF ρ' i (ρ'.iv 505) (ρ'.iv 506) (ρ'.iv 507)=ρ'.bv 906:=by
    show mayF ρ' i (l1.den ρ) (k0.den ρ) (k1.den ρ)=b
    rw [← hok ρ m hm]
    unfold mayF
    rw [fail_agreeL (ρ:=ρ') (ρ':=ρ) ⟨fun j hj=>(R.iv j hj).symm,fun j hj=>(R.bv j hj).symm⟩ (by omega)]
  refine ⟨ρ',⟨m,hm',hmh⟩,?_,⟨rfl,fun b o hg=>?_⟩,(.bool (.lit b),viewA 2000 (vS L)),hQ,SameV.bool rfl,⟨rfl,fun b o hg=>?_⟩⟩
  · exact SameL.cons (evenX_reads R _ _ _ _) (SameL.cons (SameV.agg (SameL.cons (SameV.int rfl) (SameL.cons (SameV.int rfl) (SameL.cons (SameV.int rfl) (SameL.cons (SameV.int rfl) (SameL.cons (SameV.int rfl) (SameL.cons (SameV.int rfl) (SameL.cons (SameV.int rfl) SameL.nil)))))))) SameL.nil)
  · rcases List.mem_singleton.1 (viewA_get _ _ _ _ hg) with h
    cases h; exact ⟨_,at_,SameA.cells rfl rows⟩
  · rcases List.mem_singleton.1 (viewA_get _ _ _ _ hg) with h
    cases h; exact ⟨_,at_,SameA.cells rfl rows.symm⟩
end Go.Sx
