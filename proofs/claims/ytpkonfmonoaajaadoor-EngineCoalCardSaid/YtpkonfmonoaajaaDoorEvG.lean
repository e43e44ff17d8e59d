/- A LAW OF AN EVENING AND NUMBERS,called with whatever can be read: evenings that are not valid; and what is known for valid ones. -/
import Derived.Test.YtpkonfmonoaajaaDoorLgI
import Derived.Test.YtpkonfmonoaajaaDoorEvLt
/-! THE LAW OF THE LONGER EVENING: there are such names,for any valid one; and so it holds. -/
namespace Go.Sx
open Go.RowKit Go.Proofs
set_option maxRecDepth 100000
theorem stD_agreeL {ρ ρ':Rho} (A:AgreeL ρ ρ') {L:Nat} (hL:L≤7):∀ k,k≤L→stD ρ L k=stD ρ' L k
  | 0,_=>by simp only [stD,A.iv 0 (by omega),A.iv 2 (by omega)]
  | k + 1,h=>by simp only [stD,stD_agreeL A hL k (by omega),outD_agreeL A (L - k) k (by omega)]
theorem outK_agreeL {ρ ρ':Rho} (A:AgreeL ρ ρ') {L k:Nat} (hL:L≤7) (hk:k≤L):outK ρ L k=outK ρ' L k:=by
  unfold outK; rw [stD_agreeL A hL k hk,outD_agreeL A (L - k) k (by omega)]
noncomputable def planO (ρ:Rho) (L n:Nat):Int:=if n % 2=0 then (outK ρ L (n / 2)).wc else (outK ρ L (n / 2)).ww
theorem okPl_of {ρX ρ':Rho} {L:Nat} {c:Bool} (h5:L≤5) (cs:∀ d ∈ csV L,d.den ρX=true) (A:AgreeL ρX ρ') (e:enD ρX L=c) (hp:∀ n,n < 2 * L→ρ'.iv (700 + n)=planO ρX L n):OkPl L c ρ':=by
  refine ⟨cs_agree h5 A.iv cs,⟨walks_cs (cs_agree h5 A.iv cs),(enD_agreeL A (by omega)).symm.trans e,fun _ k hk=>?_⟩⟩
  rw [← outK_agreeL A (L:=L) (by omega) (by omega)]
  have h0:=hp (2 * k) (by omega)
  have h1:=hp (2 * k + 1) (by omega)
  unfold planO at h0 h1
  rw [if_pos (by omega),show 2 * k / 2=k by omega] at h0
  rw [if_neg (by omega),show (2 * k + 1) / 2=k by omega] at h1
  exact ⟨h0,by rw [show 701 + 2 * k=700 + (2 * k + 1) by omega]; exact h1⟩
theorem hi_cs {ρ:Rho} {L i:Nat} {v:Int} (hcs:∀ c ∈ csV L,c.den ρ=true) (h5:L≤5) (hi:i < L) (hv:ρ.iv (30 + 4 * i)≤v∧v≤60):∀ c ∈ csV L,c.den (chg (hiE i (.lit v)) ρ)=true:=by
  refine cs_iff.2 ⟨hi_book hcs h5 hi v,fun j hj=>?_⟩
  obtain ⟨p1,p2⟩:=(cs_iff.1 hcs).2 j hj
  refine ⟨?_,?_⟩
  · rw [hi_iv (show 30 + 4 * j ≠ 31 + 4 * i by omega)]
    by_cases e:j=i
    · subst e
      rw [show 30 + 4 * j + 1=31 + 4 * j by omega,hi_at]
      exact ⟨p1.1,hv.1,hv.2⟩
    · rw [hi_iv (show 30 + 4 * j + 1 ≠ 31 + 4 * i by omega)]; exact p1
  · rw [hi_iv (show 30 + 4 * j + 3 ≠ 31 + 4 * i by omega)]; exact p2
theorem chg_agree {ρ ρ':Rho} {e e':Nat→IE} (hb:ρ.bv=ρ'.bv) (h:∀ j,j < 60→(e j).den ρ=(e' j).den ρ'):AgreeL (chg e ρ) (chg e' ρ'):=⟨h,fun j _=>congrFun hb j⟩
noncomputable def ivLg (ρ ρ1 ρ2:Rho) (L:Nat) (m t:Int) (j:Nat):Int :=
  if j < 89 then ρ.iv j else if j=89 then m else if j=90 then t else if j < 730 then planO ρ L (j - 710) else if j < 750 then planO ρ1 L (j - 730) else planO ρ2 L (j - 750)
theorem okLg_of {ρ : Rho} {L i : Nat} (h0 : 1 ≤ L) (h5 : L ≤ 5) (hcs : ∀ c ∈ csV L, c.den ρ = true) (hi : i < L) (ht : turnF (ρ.iv 88) L = i) :
    ∃ r c1 d ρ',r≤L∧d≤2∧(r < L→c1=false∧d=0)∧OkLg L i r c1 d ρ'∧(∀ j,j < 89→ρ.iv j=ρ'.iv j)∧ρ.bv=ρ'.bv:=by
  let H:=ρ.iv (31 + 4 * i)
  have hp0:=((cs_iff.1 hcs).2 i hi).min
  have hp:1≤ρ.iv (30 + 4 * i)∧ρ.iv (30 + 4 * i)≤H∧H≤60:=by
    show 1≤ρ.iv (30 + 4 * i)∧ρ.iv (30 + 4 * i)≤ρ.iv (31 + 4 * i)∧ρ.iv (31 + 4 * i)≤60
    rw [show 31 + 4 * i=30 + 4 * i + 1 by omega]; exact hp0
  let f:Nat→Bool:=fun x=>hiF ρ L i (H + x)
  have fm:∀ x y,x≤y→y≤60→f y=true→f x=true:=fun x y h1 h2 h=>hi_anti hcs h5 hi (by omega) (by omega) (by omega) h
  let m:=lastB f 61
  have mb:-1≤m∧m < 61:=lastB_bd f 61
  have ms:∀ x:Nat,x≤60→f x=decide ((x:Int)≤m):=fun x hx=>lastB_spec fm 61 (by omega) x (by omega)
  let t:=turnF (ρ.iv 87) (m + 1)
  let v1:Int:=min 60 (H + t)
  let v2:Int:=min 60 (H + (m + 1))
  have f0:f 0=enD ρ L:=by
    refine enD_agreeL (ρ:=chg (hiE i (.lit (H + (0:Nat)))) ρ) (ρ':=ρ) ⟨fun j hj=>?_,fun _ _=>rfl⟩ (by omega)
    by_cases e:j=31 + 4 * i
    · subst e; rw [hi_at]; show ρ.iv (31 + 4 * i) + ((0:Nat):Int)=_; omega
    · exact hi_iv e
  let r:=mostE ρ L
  have rl:r≤L:=mostE_le ρ L
  have rs:∀ n,n≤L→enD ρ n=Nat.ble n r:=mostE_spec ρ L
  have rf:r=L ↔ 0≤m:=by
    have e1:=rs L (Nat.le_refl L)
    rw [← f0,ms 0 (by omega)] at e1
    constructor
    · intro h
      have:Nat.ble L r=true:=Nat.ble_eq_true_of_le (by omega)
      rw [this] at e1
      have:=of_decide_eq_true e1
      omega
    · intro h
      rw [decide_eq_true (by omega)] at e1
      have:=Nat.le_of_ble_eq_true e1.symm
      omega
  have tin:0≤m→0≤t∧t≤m:=fun h=>by
    have:=turnF_in (n:=ρ.iv 87) (m:=m + 1) (by omega)
    show 0≤turnF (ρ.iv 87) (m + 1)∧turnF (ρ.iv 87) (m + 1)≤m
    omega
  let ρ1:=chg (hiE i (.lit v1)) ρ
  let ρ2:=chg (hiE i (.lit v2)) ρ
  let ρ':Rho:=⟨ivLg ρ ρ1 ρ2 L m t,ρ.bv,ρ.fi,ρ.fb,ρ.ov⟩
  have iv:∀ j,j < 89→ρ'.iv j=ρ.iv j:=fun j hj=>if_pos hj
  have i89:ρ'.iv 89=m:=rfl
  have i90:ρ'.iv 90=t:=rfl
  have nm0:∀ n,n < 2 * L→ρ'.iv (710 + n)=planO ρ L n:=fun n hn=>by
    show ivLg ρ ρ1 ρ2 L m t (710 + n)=_
    unfold ivLg
    rw [if_neg (by omega),if_neg (by omega),if_neg (by omega),if_pos (by omega),Nat.add_sub_cancel_left]
  have nm1:∀ n,n < 2 * L→ρ'.iv (730 + n)=planO ρ1 L n:=fun n hn=>by
    show ivLg ρ ρ1 ρ2 L m t (730 + n)=_
    unfold ivLg
    rw [if_neg (by omega),if_neg (by omega),if_neg (by omega),if_neg (by omega),if_pos (by omega),Nat.add_sub_cancel_left]
  have nm2:∀ n,n < 2 * L→ρ'.iv (750 + n)=planO ρ2 L n:=fun n hn=>by
    show ivLg ρ ρ1 ρ2 L m t (750 + n)=_
    unfold ivLg
    rw [if_neg (by omega),if_neg (by omega),if_neg (by omega),if_neg (by omega),if_neg (by omega),Nat.add_sub_cancel_left]
  have cs':∀ c ∈ csV L,c.den ρ'=true:=cs_agree h5 (fun j hj=>(iv j (by omega)).symm) hcs
  have A0:AgreeL ρ (rhoR IE.var 710 ρ'):=⟨fun j hj=>by rw [rhoR_iv hj]; exact (iv j (by omega)).symm,fun _ _=>rfl⟩
  have Ah:∀ (v:Int) (e:Nat→IE) (nm:Nat),(∀ j,j < 60→(e j).den ρ'=(hiE i (.lit v) j).den ρ)→AgreeL (chg (hiE i (.lit v)) ρ) (rhoR e nm ρ'):=fun v e nm h=>⟨fun j hj=>by rw [rhoR_iv hj]; exact (h j hj).symm,fun _ _=>rfl⟩
  have at_:∀ (v:Int) (a:IE),a.den ρ'=v→∀ j,j < 60→(hiE i a j).den ρ'=(hiE i (.lit v) j).den ρ:=fun v a h j hj=>by
    unfold hiE
    by_cases e:j=31 + 4 * i
    · subst e; rw [oneE_at,oneE_at]; exact h
    · rw [oneE_ne e,oneE_ne e]; exact iv j (by omega)
  have hX:(hiX i).den ρ'=H:=iv (31 + 4 * i) (by omega)
  have w0:∀ x:Int,-9223372036854775808≤x∧x≤9223372036854775807→IntKind.i64.wrap x=x:=fun x hx=>IntWalk.i64_in x hx
  have hb:∀ x:Nat,x≤60→hiF ρ' L i (ρ'.iv (31 + 4 * i) + x)=decide ((x:Int)≤ρ'.iv 89):=fun x hx=>by
    rw [i89,← ms x hx,iv _ (by omega)]
    exact enD_agreeL (ρ:=chg (hiE i (.lit (H + x))) ρ') (ρ':=chg (hiE i (.lit (H + x))) ρ) (chg_agree rfl (at_ _ _ rfl)) (by omega)
  have hlo:cond (found L r) (decide (0≤ρ'.iv 89∧ρ'.iv 89≤60)) (decide (ρ'.iv 89=-1))=true:=by
    rw [i89]
    cases hf:found L r with
    | true=>exact decide_eq_true ⟨rf.1 (found_iff.1 hf),by omega⟩
    | false =>
      have:¬ 0≤m:=fun h=>by rw [found_iff.2 (rf.2 h)] at hf; cases hf
      exact decide_eq_true (by omega)
  have e0:enD ρ L=found L r:=by
    rw [rs L (Nat.le_refl L)]
    apply Bool.eq_iff_iff.2
    rw [found_iff]
    exact ⟨fun h=>by have:=Nat.le_of_ble_eq_true h; omega,fun h=>Nat.ble_eq_true_of_le (by omega)⟩
  have P0:OkPl L (found L r) (rhoR IE.var 710 ρ'):=okPl_of h5 hcs A0 e0 fun n hn=>by rw [rhoR_nm]; exact nm0 n hn
  have P1:0≤m→OkPl L (hiF ρ L i v1) (rhoR (e1L i) 730 ρ'):=fun h=>by
    have:=tin h
    refine okPl_of (ρX:=ρ1) h5 (hi_cs hcs h5 hi (by show ρ.iv (30 + 4 * i)≤min 60 (H + t)∧min 60 (H + t)≤60; omega)) (Ah v1 (e1L i) 730 (at_ v1 _ ?_)) rfl fun n hn=>by rw [rhoR_nm]; exact nm1 n hn
    have e:(addE (hiX i) (.var 90)).den ρ'=H + t:=by
      show IntKind.i64.wrap ((hiX i).den ρ' + ρ'.iv 90)=_
      rw [hX,i90,w0 _ (by omega)]
    show (if (addE (hiX i) (.var 90)).den ρ' < 60 then (addE (hiX i) (.var 90)).den ρ' else 60)=min 60 (H + t)
    rw [e]; split <;> omega
  have P2:0≤m→OkPl L (hiF ρ L i v2) (rhoR (e2L i) 750 ρ'):=fun h=>by
    refine okPl_of (ρX:=ρ2) h5 (hi_cs hcs h5 hi (by show ρ.iv (30 + 4 * i)≤min 60 (H + (m + 1))∧min 60 (H + (m + 1))≤60; omega)) (Ah v2 (e2L i) 750 (at_ v2 _ ?_)) rfl fun n hn=>by rw [rhoR_nm]; exact nm2 n hn
    have e:(addE (hiX i) (addE (.var 89) (.lit 1))).den ρ'=H + (m + 1):=by
      show IntKind.i64.wrap ((hiX i).den ρ' + IntKind.i64.wrap (ρ'.iv 89 + 1))=_
      rw [hX,i89,w0 (m + 1) (by omega),w0 _ (by omega)]
    show (if (addE (hiX i) (addE (.var 89) (.lit 1))).den ρ' < 60 then (addE (hiX i) (addE (.var 89) (.lit 1))).den ρ' else 60)=min 60 (H + (m + 1))
    rw [e]; split <;> omega
  have hpa:OkPa L r ρ':=⟨cs',fun n hn=>(enD_agreeL (ρ:=ρ') (ρ':=ρ) ⟨fun j hj=>iv j (by omega),fun _ _=>rfl⟩ (by omega)).trans (rs n hn)⟩
  have mk:∀ c1 d,d≤2→(r < L→c1=false∧d=0)→(0≤m→hiF ρ L i v1=c1∧hiF ρ L i v2=is2 d)→(∀ c ∈ fcLg L i r c1 d,c.den ρ'=true)→∃ r c1 d ρ',r≤L∧d≤2∧(r < L→c1=false∧d=0)∧OkLg L i r c1 d ρ'∧(∀ j,j < 89→ρ.iv j=ρ'.iv j)∧ρ.bv=ρ'.bv:=fun c1 d hd hz hc hfc =>
    ⟨r,c1,d,ρ',rl,hd,hz,⟨⟨cs',hb,hlo⟩,hpa,(by rw [iv 88 (by omega)]; exact ht),P0,fun h=>⟨(by rw [iv 87 (by omega)]; rfl),tin (rf.1 h)⟩,fun h=>(hc (rf.1 h)).1 ▸ P1 (rf.1 h),fun h=>(hc (rf.1 h)).2 ▸ P2 (rf.1 h),hfc⟩,fun j hj=>(iv j hj).symm,rfl⟩
  by_cases hm:0≤m
  · have hrL:r=L:=rf.2 hm
    have hfd:found L r=true:=found_iff.2 hrL
    have ht:=tin hm
    have t1:(leV (.var 90) (.var 89)).den ρ'=true:=by unfold leV; rw [BE.t_leq]; exact ht.2
    have sum:(addE (hiX i) (.var 89)).den ρ'=H + m:=by
      show IntKind.i64.wrap ((hiX i).den ρ' + ρ'.iv 89)=_
      rw [hX,i89,w0 _ (by omega)]
    have k1:hiF ρ L i v1=false→(leV (.lit 61) (addE (hiX i) (.var 89))).den ρ'=true:=fun h=>by
      unfold leV; rw [BE.t_leq,sum]
      show (61:Int)≤H + m
      by_cases hh:H + m≤60
      · have e:v1=H + (t.toNat:Int):=by show min 60 (H + t)=_; omega
        have:=ms t.toNat (by omega)
        rw [show f t.toNat=hiF ρ L i (H + (t.toNat:Int)) from rfl,← e,h] at this
        exact absurd (of_decide_eq_false this.symm) (by omega)
      · omega
    obtain ⟨d,d2,d3,d4⟩:∃ d,d≤2∧hiF ρ L i v2=is2 d∧∀ c ∈ (cond (Nat.beq d 0) [] (cond (Nat.beq d 1) [leV (.lit 60) (.var 89)] [leV (.lit 60) (addE (hiX i) (.var 89))])),c.den ρ'=true:=by
      cases h2:hiF ρ L i v2 with
      | false=>exact ⟨0,by omega,rfl,fun c hc=>(List.not_mem_nil hc).elim⟩
      | true =>
        by_cases h60:m=60
        · refine ⟨1,by omega,rfl,fun c hc=>?_⟩
          rcases List.mem_singleton.1 hc with rfl
          unfold leV; rw [BE.t_leq]
          show (60:Int)≤ρ'.iv 89
          rw [i89]; omega
        · refine ⟨2,by omega,rfl,fun c hc=>?_⟩
          rcases List.mem_singleton.1 hc with rfl
          unfold leV; rw [BE.t_leq,sum]
          show (60:Int)≤H + m
          by_cases hh:H + m < 60
          · have e:v2=H + ((m + 1).toNat:Int):=by show min 60 (H + (m + 1))=_; omega
            have:=ms (m + 1).toNat (by omega)
            rw [show f (m + 1).toNat=hiF ρ L i (H + ((m + 1).toNat:Int)) from rfl,← e,h2] at this
            have:=of_decide_eq_true this.symm
            omega
          · omega
    refine mk (hiF ρ L i v1) d d2 (fun h=>absurd h (by omega)) (fun _=>⟨rfl,d3⟩) fun c hc=>?_
    unfold fcLg at hc
    rw [hfd,cond_true,lApp_eq] at hc
    rcases List.mem_cons.1 hc with rfl | hc
    · exact t1
    · rcases List.mem_append.1 hc with hc | hc
      · cases h1:hiF ρ L i v1 with
        | true=>rw [h1] at hc; exact (List.not_mem_nil hc).elim
        | false =>
          rw [h1] at hc
          rcases List.mem_singleton.1 hc with rfl
          exact k1 h1
      · exact d4 c hc
  · have hrL:r ≠ L:=fun h=>hm (rf.1 h)
    have hfd:found L r=false:=by
      cases hf:found L r with
      | false=>rfl
      | true=>exact absurd (found_iff.1 hf) hrL
    refine mk false 0 (by omega) (fun _=>⟨rfl,rfl⟩) (fun h=>absurd h hm) fun c hc=>?_
    unfold fcLg at hc
    rw [hfd] at hc
    exact (List.not_mem_nil hc).elim
end Go.Sx
/-! A LAW OF AN EVENING AND NUMBERS,called with whatever can be read: evenings that are not valid; and what is known for valid ones. -/
namespace Go.Sx
open Go.RowKit Go.Proofs
set_option maxRecDepth 100000
noncomputable def lawIg (f:Nat) (xs:List AV) (L:Nat):Bool:=allK isTrueK (evalN (tbIv (evFalse L)) 60 false f (.agg (bookS (.sliceX 1001 4 0 L)) :: xs) (viewHeap 2000 (lB L))) ⟨.nil,[],[⟨conjC (csV L),false⟩]⟩
noncomputable def lawUg (f:Nat) (xs:List AV) (many:Bool):Bool:=allK isTrueK (evalN (tbIv (evNo many)) 60 false f (.agg (bookS (.sliceU 95)) :: xs) (viewHeap 2000 gl)) (knOf [] [fewC many])
section
variable {E:Env} {w:World} {vs:List Value} (hf:∀ b,2000≤b→E.σ b=none) (hg:∀ b,b < 1000→E.σ b=some (b,0)) (hn:E.n≤2000)
include hf hg hn
theorem law_bad {f : Nat} {xs : List AV} {L : Nat} (hL : L ∈ [1, 2, 3, 4, 5]) (hck : lawIg f xs L = true) (hv : ∀ g ∈ lB L, ViewIn w E g) (ha : concL E (.agg (bookS (.sliceX 1001 4 0 L)) :: xs) = some vs) (k : ¬ ∀ c ∈ csV L, c.den E.ρ = true) :
    Calls Tryd.prog f vs.toArray w fun e w'=>e=.returned (.bool true)∧Below w.heap.size w w':=by
  have B:TabOk pT Sx.Tryd.tt.get (tbIv (evFalse L)):=Tryd.tab _ (orcIv_ok rfl fun args h u e=>evFalse_ok hL e) 2000
  refine law_true B hv hf hg hn ha (K:=⟨.nil,[],[⟨conjC (csV L),false⟩]⟩) ⟨fun i v h=>?_,fun _ hf=>(List.not_mem_nil hf).elim,fun a hm=>?_⟩ hck ⟨fun _ _=>False,trivial,fun _ _ h=>h.elim⟩
  · simp [PT.get] at h
  · rcases List.mem_singleton.1 hm with rfl
    exact conj_f k
theorem law_short {f : Nat} {xs : List AV} (many : Bool) (hck : lawUg f xs many = true) (hv : ∀ g ∈ gl, ViewIn w E g) (ha : concL E (.agg (bookS (.sliceU 95)) :: xs) = some vs) (k : (fewC many).den E.ρ = true) :
    Calls Tryd.prog f vs.toArray w fun e w'=>e=.returned (.bool true)∧Below w.heap.size w w':=by
  have B:TabOk pT Sx.Tryd.tt.get (tbIv (evNo many)):=Tryd.tab _ (orcIv_ok rfl fun args h u e=>evNo_ok many e) 2000
  refine law_true B hv hf hg hn ha (knOf_ok (fun c hc=>(List.not_mem_nil hc).elim) fun c hc=>?_) hck ⟨fun _ _=>False,trivial,fun _ _ h=>h.elim⟩
  rcases List.mem_singleton.1 hc with rfl
  exact k
end
noncomputable def numG (nb z nu:Nat→Int) (len j:Nat):Int:=if j < 22 then nb j else if j < 60 then z (j - 30) else if j=95 then len else nu j
noncomputable def rhoU (nb z nu:Nat→Int) (zb:Nat→Bool) (len:Nat) (s:Value):Rho:=⟨numG nb z nu len,fun j=>zb (j - 30),fun _ _ _ _=>0,fun _ _ _ _=>false,fun _=>s⟩
/-- what is known of a valid evening -/
def LawV (f:Nat) (xs:List AV) (nu:Nat→Int) (L:Nat):Prop:=∀ ρ:Rho,(∀ c ∈ csV L,c.den ρ=true)→(∀ j,60≤j→j < 89→ρ.iv j=nu j) →
  ∃ ρ':Rho,(∀ j,j < 89→ρ.iv j=ρ'.iv j)∧ρ.bv=ρ'.bv∧∀ (E:Env) (w:World) (vs:List Value),E.ρ=ρ'→(∀ g ∈ lB L,ViewIn w E g)→(∀ b,2000≤b→E.σ b=none)→(∀ b,b < 1000→E.σ b=some (b,0))→E.n≤2000 →
    concL E (.agg (bookS (.sliceX 1001 4 0 L)) :: xs)=some vs→Calls Tryd.prog f vs.toArray w fun e w'=>e=.returned (.bool true)∧Below w.heap.size w w'
theorem any_of {f : Nat} {xs : List AV} {vr : List Value} {nu : Nat → Int} (HI : ∀ L ∈ [1, 2, 3, 4, 5], lawIg f xs L = true) (HU : ∀ many, lawUg f xs many = true)
    (hx:∀ E:Env,(∀ j,60≤j→j < 89→E.ρ.iv j=nu j)→concL E xs=some vr) (HV:∀ L ∈ [1,2,3,4,5],LawV f xs nu L)
    {W:World} {ρ0:Rho} (hG:∀ g ∈ gl,GlobIn W ρ0 g) {nb:Nat→Int} {s:Value} (hs:PartsIn W s) :
    Calls Tryd.prog f (.agg ((List.range 22).map (fun i=>Value.int .i64 (nb i)) ++ [s]).toArray :: vr).toArray W fun e W'=>e=.returned (.bool true)∧Below W.heap.size W W':=by
  have hσ:∀ ρ b o cap,∀ j,j < 1000→(envP ρ b o cap).σ j=some (j,0):=fun ρ b o cap j hj=>by simp [envP,hj]
  have hnone:∀ ρ b o cap,∀ j,2000≤j→(envP ρ b o cap).σ j=none:=fun ρ b o cap j hj=>by
    simp only [envP]; rw [if_neg (by omega),if_neg (by omega)]
  have gvw:∀ ρ b o cap,∀ g ∈ gl,ViewIn W (envP ρ b o cap) g:=fun ρ b o cap=>glob_view gl_lit hG (hσ ρ b o cap)
  have args:∀ (ρ:Rho) (b o cap:Nat) (a:AV),(∀ j,j < 22→ρ.iv j=nb j)→(∀ j,60≤j→j < 89→ρ.iv j=nu j)→conc (envP ρ b o cap) a=some s→concL (envP ρ b o cap) (.agg (bookS a) :: xs)=some (.agg ((List.range 22).map (fun i=>Value.int .i64 (nb i)) ++ [s]).toArray :: vr):=fun ρ b o cap a h1 h2 ha =>
    concL_cons.2 ⟨_,_,book_vals h1 ha,hx _ h2,rfl⟩
  have low:∀ z len j,j < 22→numG nb z nu len j=nb j:=fun z len j hj=>by unfold numG; rw [if_pos hj]
  have hi:∀ z len j,60≤j→j < 89→numG nb z nu len j=nu j:=fun z len j h1 h2=>by unfold numG; rw [if_neg (by omega),if_neg (by omega),if_neg (by omega)]
  have short:∀ (len cap:Nat) (a:Option Addr),s=.slice a len cap→(len=0 ∨ 6≤len)→Calls Tryd.prog f (.agg ((List.range 22).map (fun i=>Value.int .i64 (nb i)) ++ [s]).toArray :: vr).toArray W fun e W'=>e=.returned (.bool true)∧Below W.heap.size W W':=fun len cap a hs h=>by
    have i95:(rhoU nb (fun _=>0) nu (fun _=>false) len s).iv 95=len:=by simp [rhoU,numG]
    have hu:conc (envP (rhoU nb (fun _=>0) nu (fun _=>false) len s) 0 0 0) (.sliceU 95)=some s:=by
      simp [conc,envP,rhoU,numG,hs]
    have ha:=args _ 0 0 0 _ (fun j hj=>low (fun _=>0) len j hj) (fun j h1 h2=>hi (fun _=>0) len j h1 h2) hu
    rcases h with h | h
    · exact law_short (hnone _ _ _ _) (hσ _ _ _ _) (Nat.le_refl _) false (HU false) (gvw _ _ _ _) ha (by
        show (leV (.var 95) (.lit 0)).den _=true
        unfold leV; rw [BE.t_leq,IE.den_var,IE.den_lit]; show (rhoU nb (fun _=>0) nu (fun _=>false) len s).iv 95≤0; rw [i95]; omega)
    · exact law_short (hnone _ _ _ _) (hσ _ _ _ _) (Nat.le_refl _) true (HU true) (gvw _ _ _ _) ha (by
        show (leV (.lit 6) (.var 95)).den _=true
        unfold leV; rw [BE.t_leq,IE.den_var,IE.den_lit]; show 6≤(rhoU nb (fun _=>0) nu (fun _=>false) len s).iv 95; rw [i95]; omega)
  rcases hs with hs | ⟨b,o,len,cap,z,zb,hs,hlc,hc⟩
  · exact short 0 0 none hs (.inl rfl)
  · by_cases h0:len=0
    · exact short len cap _ hs (.inl h0)
    · by_cases h6:6≤len
      · exact short len cap _ hs (.inr h6)
      · obtain ⟨cells,el,fz,c1,c2⟩:=hc (by omega)
        have hLm:len ∈ [1,2,3,4,5]:=by simp only [List.mem_cons,List.not_mem_nil,or_false]; omega
        have hsl:∀ ρ,conc (envP ρ b o cap) (.sliceX 1001 4 0 len)=some s:=fun ρ=>by
          rw [hs]
          simp only [conc,envP]
          rw [if_pos (by simp; omega)]
          simp
        have hview:∀ ρ:Rho,(∀ q,q < 4 * len→ρ.iv (30 + q)=z q)→(∀ q,q < 4 * len→ρ.bv (30 + q)=zb q)→∀ g ∈ lB len,ViewIn W (envP ρ b o cap) g:=fun ρ hz hb g hg=>by
          rcases List.mem_cons.1 hg with rfl | hg
          · exact gvw ρ b o cap _ List.mem_cons_self
          · rcases List.mem_singleton.1 hg with rfl
            obtain ⟨vs,v1,v2,v3⟩:=rowsV_vals (envP ρ b o cap) z zb len 30 0 rfl (fun q hq=>by rw [Nat.zero_add]; exact hz q hq) (fun q hq=>by rw [Nat.zero_add]; exact hb q hq)
            refine ⟨b,o,vs,cells,el,fz,by simp [envP],v1,c1,fun i hi=>?_⟩
            rw [v2] at hi
            rw [c2 i hi,v3 i hi,Nat.zero_add]
        let ρ:=rhoU nb z nu zb len s
        have hz:∀ q,q < 4 * len→ρ.iv (30 + q)=z q:=fun q hq=>by
          show numG nb z nu len (30 + q)=_
          unfold numG
          rw [if_neg (by omega),if_pos (by omega),Nat.add_sub_cancel_left]
        have hb:∀ q,q < 4 * len→ρ.bv (30 + q)=zb q:=fun q hq=>by
          show zb (30 + q - 30)=_
          rw [Nat.add_sub_cancel_left]
        by_cases hcs:∀ c ∈ csV len,c.den ρ=true
        · obtain ⟨ρ',A,Ab,key⟩:=HV len hLm ρ hcs fun j h1 h2=>hi z len j h1 h2
          exact key (envP ρ' b o cap) W _ rfl (hview _ (fun q hq=>by rw [← A _ (by omega)]; exact hz q hq) (fun q hq=>by rw [← congrFun Ab (30 + q)]; exact hb q hq)) (hnone _ _ _ _) (hσ _ _ _ _) (Nat.le_refl _) (args _ b o cap _ (fun j hj=>by rw [← A j (by omega)]; exact low z len j hj) (fun j h1 h2=>by rw [← A j h2]; exact hi z len j h1 h2) (hsl _))
        · exact law_bad (hnone _ _ _ _) (hσ _ _ _ _) (Nat.le_refl _) hLm (HI len hLm) (E:=envP ρ b o cap) (hview ρ hz hb) (args ρ b o cap _ (fun j hj=>low z len j hj) (fun j h1 h2=>hi z len j h1 h2) (hsl ρ)) hcs
end Go.Sx
