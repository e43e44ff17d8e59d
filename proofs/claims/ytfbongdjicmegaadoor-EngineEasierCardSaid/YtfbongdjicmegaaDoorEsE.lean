/- THE LAW OF WHAT IS EASIER: there are such names,for any valid evening. -/
import Derived.Test.YtfbongdjicmegaaDoorEsB
import Derived.Test.YtfbongdjicmegaaDoorEsA
/-! THE LAW OF WHAT IS EASIER,for a valid evening: its run,in each case. -/
namespace Go.Sx
open Go.RowKit Go.Proofs
set_option maxRecDepth 100000
noncomputable def partK (t:Nat):Bool:=or (Nat.beq t 5) (Nat.beq t 6)
noncomputable def kiE (t:Nat):IE:=.lit (Int.ofNat (cond (Nat.blt t 9) t 9))
noncomputable def iiE (t i:Nat):IE:=cond (partK t) (.lit (Int.ofNat i)) (.var 91)
noncomputable def k2E (t:Nat):IE:=cond (Nat.blt t 9) (.var 92) (.lit (Int.ofNat (t - 9)))
noncomputable def paN (e:Nat→IE) (nb L v:Nat):List AV→Heap→Option (T (AV × Heap)):=xGo e nb L [.agg (bookX e (.sliceX nb 4 0 L))] (fun h=>(.tup [vi v,li 0],h))
noncomputable def qN (nm:Nat):Nat→List (Nat × Int × Int)
  | 0=>[]
  | n + 1=>(nm + n,0,5) :: qN nm n
noncomputable def fcX (e:Nat→IE) (nm:Nat):Nat→List BE
  | 0=>[]
  | n + 1=>leV (.var (nm + 2 * n)) (e (33 + 4 * n)) :: leV (.var (nm + 2 * n + 1)) (.bin .sub .i64 (e (33 + 4 * n)) (.var (nm + 2 * n))) :: fcX e nm n
noncomputable def orcEs (L t i:Nat) (kb kx:Bool) (f:FuncId) (args:List AV) (h:Heap):Option (T (AV × Heap)) :=
  cond (Nat.beq f 7) (closedOrc gl args h) (cond (Nat.beq f 6) (soGo L args h)
    (cond (Nat.beq f 8) (orElse (tu2 (.var 87) (.lit 12) (.var 90) args h) (orElse (tu2 (.var 87) (.lit (Int.ofNat L)) (iiE t i) args h) (orElse (tu2 (.var 88) (.lit 10) (kiE t) args h) (tu2 (.var 90) (.lit 2) (k2E t) args h))))
    (cond (Nat.beq f 9) (orElse (pl12 IE.var 710 1001 L kb args h) (pl12 (ezE t i) 730 2004 L kx args h))
    (cond (Nat.beq f 10) (orElse (paN IE.var 1001 L 94 args h) (paN (ezE t i) 2004 L 95 args h)) none))))
noncomputable def tbEs (L t i:Nat) (kb kx:Bool):Tabs:=⟨Sx.Tryd.ft.get,lFind Sx.Tryd.rt,2000,orcEs L t i kb kx⟩
noncomputable def qEs (L:Nat) (kb:Bool):List (Nat × Int × Int):=cond kb (lApp (qN 710 (2 * L)) (qN 730 (2 * L))) []
noncomputable def fcEs (L t i:Nat) (kb:Bool):List BE:=leV (.var 94) (.var 95) :: cond kb (leV (sumE 730 L) (sumE 710 L) :: fcX (ezE t i) 730 L) []
noncomputable def xsEs:List AV:=[.agg [vi 88,vi 87]]
noncomputable def lawEs (L t i:Nat) (kb kx:Bool):Bool:=allK isTrueK (evalN (tbEs L t i kb kx) 60 false 3 (.agg (bookS (.sliceX 1001 4 0 L)) :: xsEs) (viewHeap 2000 (lB L))) (knOf (qEs L kb) (fcEs L t i kb))
noncomputable def lawE3 (L t i:Nat):Bool:=and (lawEs L t i true true) (and (lawEs L t i false true) (lawEs L t i false false))
noncomputable def lawEss (L:Nat):Bool:=lAll (fun t=>lAll (lawE3 L t) (cond (partK t) (cntD L) [0])) (cntD 11)
end Go.Sx
/-! THE LAW OF WHAT IS EASIER: its calls are so. -/
namespace Go.Sx
open Go.RowKit Go.Proofs
set_option maxRecDepth 100000
theorem chg_reads (e:Nat→IE) (ρ:Rho):Reads e ρ (chg e ρ):=⟨fun _ _=>rfl,fun _ _=>rfl⟩
theorem paN_ok {ok : Rho → (Nat → Obj → Prop) → Prop} {e : Nat → IE} {nb L v : Nat} (h0 : 1 ≤ L) (h5 : L ≤ 5) (H : ∀ n, n ≤ 5 → Looks false n)
    (hok:∀ ρ b,ok ρ b→∃ r,r≤L∧OkPa L r (chg e ρ)∧ρ.iv v=r) {args:List AV} {h:Heap} {t:T (AV × Heap)} (k:paN e nb L v args h=some t):CallOk (pLaw ok) 10 args h t:=by
  refine CallOk.split (ι:={ r:Nat // r≤L }) (P:=Tryd.prog) (RC:=rcOf Tryd.rows) (okC:=fun r ρ b=>ok ρ b∧OkPa L r.1 (chg e ρ)∧ρ.iv v=(r.1:Int)) (ok:=ok) (fun r=>?_) (fun ρ b hb=>?_) fun _ ρ b o=>o.1
  · exact read_at (ok:=fun ρ b=>ok ρ b∧OkPa L r.1 (chg e ρ)∧ρ.iv v=(r.1:Int)) (ok0:=fun ρ _=>OkPa L r.1 ρ) h5 (parts11 h0 h5 r.2 H) rfl (book_mv fun _=>rfl) (fun ρ b hb=>⟨chg e ρ,chg_reads e ρ,hb.2.1,SameL.cons (bookX_reads (chg_reads e ρ) _ _ _ _) SameL.nil,SameV.tupl (SameL.cons (SameV.int (show (IE.lit (Int.ofNat r.1)).den (chg e ρ)=(IE.var v).den ρ from hb.2.2.symm)) (fun _ _ _ _ _ _=>rfl))⟩) k
  · obtain ⟨r,hr,o,hv⟩:=hok ρ b hb
    exact ⟨⟨r,hr⟩,hb,o,hv⟩
structure OkEs (L t i:Nat) (kb kx:Bool) (ρ:Rho):Prop where
  cs:∀ d ∈ csV L,d.den ρ=true
  t0:turnF (ρ.iv 87) 12=ρ.iv 90
  t1:turnF (ρ.iv 87) L=(iiE t i).den ρ
  t2:turnF (ρ.iv 88) 10=(kiE t).den ρ
  t3:turnF (ρ.iv 90) 2=(k2E t).den ρ
  p0:OkPl L kb (rhoR IE.var 710 ρ)
  p1:OkPl L kx (rhoR (ezE t i) 730 ρ)
  a0:∃ r,r≤L∧OkPa L r (chg IE.var ρ)∧ρ.iv 94=r
  a1:∃ r,r≤L∧OkPa L r (chg (ezE t i) ρ)∧ρ.iv 95=r
  q:∀ c ∈ ivC (qEs L kb),c.den ρ=true
  fc:∀ c ∈ fcEs L t i kb,c.den ρ=true
theorem orcEs_ok {L t i:Nat} {kb kx:Bool} (h0:1≤L) (h5:L≤5) (HT:Looks true L) (HF:∀ n,n≤5→Looks false n):∀ f args h u,orcEs L t i kb kx f args h=some u→CallOk (pLaw fun ρ _=>OkEs L t i kb kx ρ) f args h u:=by
  intro f args h u e
  unfold orcEs at e
  cases h7:Nat.beq f 7 with
  | true=>rw [h7,cond_true] at e; have:=beq_t.1 h7; subst this; exact CallOk.lift (firedOrc_ok e)
  | false =>
    rw [h7,cond_false] at e
    cases h6:Nat.beq f 6 with
    | true=>rw [h6,cond_true] at e; have:=beq_t.1 h6; subst this; exact so_any (fun ρ b k=>k.cs) (vals_at h0 h5).2 e
    | false =>
      rw [h6,cond_false] at e
      cases h8:Nat.beq f 8 with
      | true =>
        rw [h8,cond_true] at e
        have:=beq_t.1 h8; subst this
        rcases orElse_some e with e | e
        · exact tu2_ok (fun ρ m k=>⟨by show (12:Int)≤_; omega,k.t0⟩) e
        · rcases orElse_some e with e | e
          · exact tu2_ok (fun ρ m k=>⟨by show (L:Int)≤_; omega,k.t1⟩) e
          · rcases orElse_some e with e | e
            · exact tu2_ok (fun ρ m k=>⟨by show (10:Int)≤_; omega,k.t2⟩) e
            · exact tu2_ok (fun ρ m k=>⟨by show (2:Int)≤_; omega,k.t3⟩) e
      | false =>
        rw [h8,cond_false] at e
        cases h9:Nat.beq f 9 with
        | true =>
          rw [h9,cond_true] at e
          have:=beq_t.1 h9; subst this
          rcases orElse_some e with e | e
          · exact pl12_ok h0 h5 HT (fun ρ b k=>⟨_,rhoR_reads IE.var 710 ρ,k.p0,fun _ _ _=>rhoR_nm⟩) e
          · exact pl12_ok h0 h5 HT (fun ρ b k=>⟨_,rhoR_reads (ezE t i) 730 ρ,k.p1,fun _ _ _=>rhoR_nm⟩) e
        | false =>
          rw [h9,cond_false] at e
          obtain ⟨h10,e⟩:=cond_some e
          have:=beq_t.1 h10; subst this
          rcases orElse_some e with e | e
          · exact paN_ok h0 h5 HF (fun ρ b k=>k.a0) e
          · exact paN_ok h0 h5 HF (fun ρ b k=>k.a1) e
/-! ## There are such names -/
noncomputable def planZ (ρ:Rho) (L n:Nat):Int:=if n < 2 * L then planO ρ L n else 0
theorem listF_congr {p r:Nat→Int}:∀ n k,(∀ j,2 * k≤j→j < 2 * k + 2 * n→p j=r j)→listF p n k=listF r n k
  | 0,_,_=>rfl
  | n + 1,k,h=>by simp only [listF,h (2 * k) (by omega) (by omega),h (2 * k + 1) (by omega) (by omega),listF_congr n (k + 1) fun j h1 h2=>h j (by omega) (by omega)]
/-- the numbers of a plan that is told -/
theorem plan_num {ρ : Rho} {L : Nat} (h5 : L ≤ 5) (hcs : ∀ c ∈ csV L, c.den ρ = true) (hen : enD ρ L = true) :
    (∀ k,k < L→0≤planZ ρ L (2 * k)∧0≤planZ ρ L (2 * k + 1)∧planZ ρ L (2 * k) + planZ ρ L (2 * k + 1)≤ρ.iv (33 + 4 * k))∧(∀ j,0≤planZ ρ L j∧planZ ρ L j≤5) ∧
      total (listF (planZ ρ L) L 0)=total (toldL ρ L 0 (ρ.iv 0) (ρ.iv 2)):=by
  have hb:=(cs_iff.1 hcs).1
  have r0:=hb.room0; have r1:=hb.room1; have c0:=hb.coal; have c2:=hb.water
  have hB:Bds ρ L:=bds_cs hcs
  have hW:∀ i,i < L→(ρ.iv (33 + 4 * i)).toNat≤5:=fun i hi=>by
    obtain ⟨W,w1,w2⟩:=walks_cs hcs i hi
    omega
  have zO:∀ j,j < 2 * L→planZ ρ L j=planO ρ L j:=fun j hj=>if_pos hj
  have ps:∀ k,k < L→0≤planZ ρ L (2 * k)∧0≤planZ ρ L (2 * k + 1)∧planZ ρ L (2 * k) + planZ ρ L (2 * k + 1)≤ρ.iv (33 + 4 * k):=fun k hk=>by
    obtain ⟨x,hx,x1,x2⟩:=plan_pair hB h5 hW (by omega) (by omega) hen hk
    obtain ⟨W,w1,w2⟩:=walks_cs hcs k hk
    rw [zO _ (by omega),zO _ (by omega),planO_even,planO_odd,x1,x2]
    omega
  refine ⟨ps,fun j=>?_,?_⟩
  · by_cases hj2:j < 2 * L
    · obtain ⟨V,v1,v2⟩:=walks_cs hcs (j / 2) (by omega)
      have:=ps (j / 2) (by omega)
      by_cases e:j % 2=0
      · rw [show 2 * (j / 2)=j by omega] at this; omega
      · rw [show 2 * (j / 2) + 1=j by omega] at this; omega
    · unfold planZ; rw [if_neg hj2]; omega
  · have tl:=told_list (ρ:=ρ) (L:=L) L 0 (Nat.zero_add L)
    have tl:toldL ρ L 0 (ρ.iv 0) (ρ.iv 2)=listF (planO ρ L) L 0:=tl
    rw [tl,listF_congr L 0 fun j _ hj=>zO j (by omega)]
theorem ez_agree {ρ ρ':Rho} {t i:Nat} (hi:i < 5) (h:∀ j,j≤90→ρ.iv j=ρ'.iv j) {j:Nat} (hj:j < 60):(ezE t i j).den ρ=(ezE t i j).den ρ':=by
  have up:∀ k (e:IE),k≤90→e.den ρ=e.den ρ'→(upE k e).den ρ=(upE k e).den ρ':=fun k e hk he=>by
    show (if IntKind.i64.wrap (ρ.iv k + ρ.iv 90) < e.den ρ then IntKind.i64.wrap (ρ.iv k + ρ.iv 90) else e.den ρ)=(if IntKind.i64.wrap (ρ'.iv k + ρ'.iv 90) < e.den ρ' then IntKind.i64.wrap (ρ'.iv k + ρ'.iv 90) else e.den ρ')
    rw [h k hk,h 90 (by omega),he]
  have dn:∀ k (e:IE),k≤90→e.den ρ=e.den ρ'→(dnE e k).den ρ=(dnE e k).den ρ':=fun k e hk he=>by
    show (if e.den ρ < IntKind.i64.wrap (ρ.iv k - ρ.iv 90) then IntKind.i64.wrap (ρ.iv k - ρ.iv 90) else e.den ρ)=(if e.den ρ' < IntKind.i64.wrap (ρ'.iv k - ρ'.iv 90) then IntKind.i64.wrap (ρ'.iv k - ρ'.iv 90) else e.den ρ')
    rw [h k hk,h 90 (by omega),he]
  have o:∀ k (e:IE),e.den ρ=e.den ρ'→(oneE k e j).den ρ=(oneE k e j).den ρ':=fun k e he=>by
    by_cases hk:j=k
    · subst hk; rw [oneE_at]; exact he
    · rw [oneE_ne hk]; exact h j (by omega)
  have tw:∀ k (e:IE) k' (e':IE),e.den ρ=e.den ρ'→e'.den ρ=e'.den ρ'→(twoE k e k' e' j).den ρ=(twoE k e k' e' j).den ρ':=fun k e k' e' he he'=>by
    unfold twoE
    cases Nat.beq j k with
    | true=>exact he
    | false=>exact o k' e' he'
  unfold ezE
  split
  · exact o _ _ (up _ _ (by omega) (h 1 (by omega)))
  · exact o _ _ (up _ _ (by omega) (h 3 (by omega)))
  · exact tw _ _ _ _ (up _ _ (by omega) rfl) (up _ _ (by omega) rfl)
  · exact o _ _ (up _ _ (by omega) rfl)
  · exact o _ _ (up _ _ (by omega) rfl)
  · exact o _ _ (up _ _ (by omega) rfl)
  · exact o _ _ (dn _ _ (by omega) (h _ (by omega)))
  · exact o _ _ (dn _ _ (by omega) rfl)
  · exact o _ _ (dn _ _ (by omega) rfl)
  · exact tw _ _ _ _ (h 8 (by omega)) (h 12 (by omega))
  · exact tw _ _ _ _ (h 10 (by omega)) (h 14 (by omega))
end Go.Sx
/-! THE LAW OF WHAT IS EASIER: there are such names,for any valid evening. -/
namespace Go.Sx
open Go.RowKit Go.Proofs
set_option maxRecDepth 100000
noncomputable def ivEs (ρ X:Rho) (L:Nat) (y:Int) (j:Nat):Int :=
  if j < 90 then ρ.iv j else if j=90 then y else if j=91 then turnF (ρ.iv 87) L else if j=92 then turnF y 2 else if j=94 then (mostE ρ L:Nat) else if j=95 then (mostE X L:Nat)
  else if j < 730 then planZ ρ L (j - 710) else planZ X L (j - 730)
theorem okEs_at {ρ : Rho} {L t i : Nat} (h1 : 1 ≤ L) (h5 : L ≤ 5) (hcs : ∀ c ∈ csV L, c.den ρ = true) (hi : i < L) (ht : t ≤ 10) (hii : partK t = true → turnF (ρ.iv 87) L = i)
    (hk:turnF (ρ.iv 88) 10=(kiE t).den ρ) (h2:¬ t < 9→turnF (turnF (ρ.iv 87) 12) 2=((t - 9:Nat):Int)) :
    ∃ kb kx ρ',(kb=true→kx=true)∧OkEs L t i kb kx ρ'∧(∀ j,j < 89→ρ.iv j=ρ'.iv j)∧ρ.bv=ρ'.bv:=by
  have y1:=turnF_in (n:=ρ.iv 87) (m:=12) (by omega)
  let y:=turnF (ρ.iv 87) 12
  let ρb:Rho:=⟨fun j=>if j=90 then y else ρ.iv j,ρ.bv,ρ.fi,ρ.fb,ρ.ov⟩
  have ib:∀ j,j < 90→ρb.iv j=ρ.iv j:=fun j hj=>if_neg (by omega)
  have csb:∀ c ∈ csV L,c.den ρb=true:=cs_agree h5 (fun j hj=>(ib j (by omega)).symm) hcs
  let X:=chg (ezE t i) ρb
  have G:Good ρb X L:=good_any csb (show 0≤y∧y≤11 by show 0≤turnF (ρ.iv 87) 12∧turnF (ρ.iv 87) 12≤11; omega) hi ht
  let ρ':Rho:=⟨ivEs ρ X L y,ρ.bv,ρ.fi,ρ.fb,ρ.ov⟩
  have iv:∀ j,j < 90→ρ'.iv j=ρ.iv j:=fun j hj=>if_pos hj
  have i90:ρ'.iv 90=y:=rfl
  have i91:ρ'.iv 91=turnF (ρ.iv 87) L:=rfl
  have i92:ρ'.iv 92=turnF y 2:=rfl
  have i94:ρ'.iv 94=(mostE ρ L:Nat):=rfl
  have i95:ρ'.iv 95=(mostE X L:Nat):=rfl
  have nb:∀ n,n < 20→ρ'.iv (710 + n)=planZ ρ L n:=fun n hn=>by
    show ivEs ρ X L y (710 + n)=_
    unfold ivEs
    rw [if_neg (by omega),if_neg (by omega),if_neg (by omega),if_neg (by omega),if_neg (by omega),if_neg (by omega),if_pos (by omega),Nat.add_sub_cancel_left]
  have nx:∀ n,ρ'.iv (730 + n)=planZ X L n:=fun n=>by
    show ivEs ρ X L y (730 + n)=_
    unfold ivEs
    rw [if_neg (by omega),if_neg (by omega),if_neg (by omega),if_neg (by omega),if_neg (by omega),if_neg (by omega),if_neg (by omega),Nat.add_sub_cancel_left]
  have same:∀ j,j≤90→ρb.iv j=ρ'.iv j:=fun j hj=>by
    by_cases e:j=90
    · subst e; rfl
    · rw [ib j (by omega),iv j (by omega)]
  have cs':∀ c ∈ csV L,c.den ρ'=true:=cs_agree h5 (fun j hj=>(iv j (by omega)).symm) hcs
  have eX:∀ j,j < 60→X.iv j=(ezE t i j).den ρ':=fun j hj=>ez_agree (by omega) same hj
  have AX:AgreeL X (rhoR (ezE t i) 730 ρ'):=⟨fun j hj=>by rw [rhoR_iv hj]; exact eX j hj,fun _ _=>rfl⟩
  have AXc:AgreeL X (chg (ezE t i) ρ'):=⟨fun j hj=>eX j hj,fun _ _=>rfl⟩
  have A0:AgreeL ρ (rhoR IE.var 710 ρ'):=⟨fun j hj=>by rw [rhoR_iv hj]; exact (iv j (by omega)).symm,fun _ _=>rfl⟩
  have A0c:AgreeL ρ (chg IE.var ρ'):=⟨fun j hj=>(iv j (by omega)).symm,fun _ _=>rfl⟩
  have Ab:AgreeL ρ ρb:=⟨fun j hj=>(ib j (by omega)).symm,fun _ _=>rfl⟩
  have hb:=(cs_iff.1 hcs).1
  have r0:=hb.room0; have r1:=hb.room1; have c0:=hb.coal; have c2:=hb.water
  have b0:=ib 0 (by omega); have b2:=ib 2 (by omega)
  have ga:=G.a; have gb:=G.b
  rw [b0] at ga; rw [b2] at gb
  have P0:OkPl L (enD ρ L) (rhoR IE.var 710 ρ'):=okPl_of h5 hcs A0 rfl fun n hn=>by rw [rhoR_nm,nb n (by omega)]; exact if_pos hn
  have P1:OkPl L (enD X L) (rhoR (ezE t i) 730 ρ'):=okPl_of h5 G.cs AX rfl fun n hn=>by rw [rhoR_nm,nx n]; exact if_pos hn
  have en:∀ m,m≤L→enD ρ m=true→enD X m=true:=fun m hm h=>by
    have h:enD ρb m=true:=(enD_agreeL Ab (by omega)).symm.trans h
    have E:Ez ρb X m:=by
      have e:=G.ez
      exact ⟨⟨e.b.room,e.b.load,fun i hi=>e.b.tak i (by omega)⟩,⟨e.b'.room,e.b'.load,fun i hi=>e.b'.tak i (by omega)⟩,e.room,e.load,fun i hi=>e.tak i (by omega),fun i hi=>e.walks i (by omega),fun i hi=>e.five i (by omega),fun i hi=>e.fail i (by omega)⟩
    exact enD_easier E (by rw [b0]; omega) (by rw [b2]; omega) h
  have most:mostE ρ L≤mostE X L:=by
    have e1:=mostE_spec ρ L (mostE ρ L) (mostE_le ρ L)
    rw [Nat.ble_eq_true_of_le (Nat.le_refl _)] at e1
    have e2:=mostE_spec X L (mostE ρ L) (mostE_le ρ L)
    rw [en _ (mostE_le ρ L) e1] at e2
    exact Nat.le_of_ble_eq_true e2.symm
  have a0:OkPa L (mostE ρ L) (chg IE.var ρ'):=⟨cs_agree h5 A0c.iv hcs,fun n hn=>(enD_agreeL A0c (by omega)).symm.trans (mostE_spec ρ L n hn)⟩
  have a1:OkPa L (mostE X L) (chg (ezE t i) ρ'):=⟨cs_agree h5 AXc.iv G.cs,fun n hn=>(enD_agreeL AXc (by omega)).symm.trans (mostE_spec X L n hn)⟩
  have l94:(leV (.var 94) (.var 95)).den ρ'=true:=by
    unfold leV; rw [BE.t_leq,IE.den_var,IE.den_var,i94,i95]; omega
  have mk:(∀ c ∈ ivC (qEs L (enD ρ L)),c.den ρ'=true)→(∀ c ∈ fcEs L t i (enD ρ L),c.den ρ'=true)→∃ kb kx ρ',(kb=true→kx=true)∧OkEs L t i kb kx ρ'∧(∀ j,j < 89→ρ.iv j=ρ'.iv j)∧ρ.bv=ρ'.bv:=fun hq hf=>by
    refine ⟨enD ρ L,enD X L,ρ',en L (Nat.le_refl L),⟨cs',(by rw [iv 87 (by omega)]; rfl),?_,(by rw [iv 88 (by omega),hk]; rfl),?_,P0,P1,⟨_,mostE_le ρ L,a0,i94⟩,⟨_,mostE_le X L,a1,i95⟩,hq,hf⟩,fun j hj=>(iv j (by omega)).symm,rfl⟩
    · rw [iv 87 (by omega)]
      unfold iiE
      cases hp:partK t with
      | true=>exact hii hp
      | false=>exact i91.symm
    · rw [i90]
      unfold k2E
      cases hp:Nat.blt t 9 with
      | true=>exact i92.symm
      | false =>
        have:¬ t < 9:=fun h=>by
          have:Nat.blt t 9=true:=Nat.ble_eq_true_of_le h
          rw [this] at hp; cases hp
        exact h2 this
  cases hen:enD ρ L with
  | false =>
    rw [hen] at mk
    refine mk (fun c hc=>(List.not_mem_nil hc).elim) fun c hc=>?_
    unfold fcEs at hc
    rw [cond_false] at hc
    rcases List.mem_singleton.1 hc with rfl
    exact l94
  | true =>
    rw [hen] at mk
    have heX:=en L (Nat.le_refl L) hen
    obtain ⟨ps,pn,pt⟩:=plan_num h5 hcs hen
    obtain ⟨xs,xn,xt⟩:=plan_num h5 G.cs heX
    have B0:Bds ρ L:=bds_cs hcs
    have W0:∀ i,i < L→(ρ.iv (33 + 4 * i)).toNat≤5:=fun i hi=>by
      obtain ⟨W,w1,w2⟩:=walks_cs hcs i hi
      omega
    have WX:∀ i,i < L→(X.iv (33 + 4 * i)).toNat≤5:=fun i hi=>by
      obtain ⟨W,w1,w2⟩:=walks_cs G.cs i hi
      rw [w2]; omega
    have told:=told_ok B0 h5 W0 L 0 (ρ.iv 0) (ρ.iv 2) (by omega) (by omega) (by omega) hen
    have toldX:=told_ok (bds_cs G.cs) h5 WX L 0 (X.iv 0) (X.iv 2) (by omega) (by omega) (by omega) heX
    have tb:=told_ok G.ez.b h5 (fun i hi=>by rw [ib _ (by omega)]; exact W0 i hi) L 0 (ρb.iv 0) (ρb.iv 2) (by omega) (by rw [b0]; omega) (by rw [b2]; omega) ((enD_agreeL Ab (by omega)).symm.trans hen)
    have le:total (toldL X L 0 (X.iv 0) (X.iv 2))≤total (toldL ρb L 0 (ρb.iv 0) (ρb.iv 2)) :=
      (toldX.best _ tb.len (enP_mono G.ez (by rw [tb.len]; omega) (by rw [b0]; omega) (by rw [b0]; omega) (by rw [b2]; omega) (by rw [b2]; omega) (leL_refl _) (okL_mono G.ez (by rw [tb.len]; omega) (enP_ok tb.ok)) tb.ok)).1
    have pb:∀ n,planO ρb L n=planO ρ L n ∨ 2 * L≤n:=fun n=>by
      by_cases hn:n < 2 * L
      · left
        unfold planO
        rw [outK_agreeL Ab (L:=L) (by omega) (by omega)]
      · right; omega
    have eb:total (toldL ρb L 0 (ρb.iv 0) (ρb.iv 2))=total (toldL ρ L 0 (ρ.iv 0) (ρ.iv 2)):=by
      have tl:toldL ρ L 0 (ρ.iv 0) (ρ.iv 2)=listF (planO ρ L) L 0:=told_list (ρ:=ρ) (L:=L) L 0 (Nat.zero_add L)
      have tl':toldL ρb L 0 (ρb.iv 0) (ρb.iv 2)=listF (planO ρb L) L 0:=told_list (ρ:=ρb) (L:=L) L 0 (Nat.zero_add L)
      rw [tl,tl',listF_congr L 0 fun j _ hj=>(pb j).resolve_right (by omega)]
    have wr:∀ x:Int,-9223372036854775808≤x∧x≤9223372036854775807→IntKind.i64.wrap x=x:=fun x hx=>IntWalk.i64_in x hx
    have sB:=(sumE_den (ρ:=ρ') (nm:=710) (fun j hj=>by rw [nb j (by omega)]; exact pn j) L h5).1
    have sX:=(sumE_den (ρ:=ρ') (nm:=730) (fun j _=>by rw [nx j]; exact xn j) L h5).1
    have tB:total (listF (fun j=>ρ'.iv (710 + j)) L 0)=total (toldL ρ L 0 (ρ.iv 0) (ρ.iv 2)):=by
      rw [← pt]; exact congrArg total (listF_congr L 0 fun j _ hj=>nb j (by omega))
    have tX:total (listF (fun j=>ρ'.iv (730 + j)) L 0)=total (toldL X L 0 (X.iv 0) (X.iv 2)):=by
      rw [← xt]; exact congrArg total (listF_congr L 0 fun j _ _=>nx j)
    have qn:∀ nm n,(∀ j,j < n→0≤ρ'.iv (nm + j)∧ρ'.iv (nm + j)≤5)→∀ c ∈ ivC (qN nm n),c.den ρ'=true:=by
      intro nm n
      induction n with
      | zero=>intro _ c hc; exact (List.not_mem_nil hc).elim
      | succ n ih =>
        intro h c hc
        have hn:=h n (by omega)
        simp only [qN,ivC,List.mem_cons] at hc
        rcases hc with rfl | rfl | hc
        · rw [BE.t_leq,IE.den_lit,IE.den_var]; exact hn.1
        · rw [BE.t_leq,IE.den_lit,IE.den_var]; exact hn.2
        · exact ih (fun j hj=>h j (by omega)) c hc
    have fx:∀ n,n≤L→∀ c ∈ fcX (ezE t i) 730 n,c.den ρ'=true:=by
      intro n
      induction n with
      | zero=>intro _ c hc; exact (List.not_mem_nil hc).elim
      | succ n ih =>
        intro h c hc
        have hn:=xs n (by omega)
        obtain ⟨V,v1,v2⟩:=walks_cs G.cs n (by omega)
        have eW:=eX (33 + 4 * n) (by omega)
        simp only [fcX,List.mem_cons] at hc
        rcases hc with rfl | rfl | hc
        · unfold leV
          rw [BE.t_leq,IE.den_var,← eW,nx]; omega
        · have e : (IE.bin .sub .i64 (ezE t i (33 + 4 * n)) (.var (730 + 2 * n))).den ρ' = X.iv (33 + 4 * n) - planZ X L (2 * n) := by
            show IntKind.i64.wrap ((ezE t i (33 + 4 * n)).den ρ' - ρ'.iv (730 + 2 * n))=_
            rw [← eW,nx,wr _ (by omega)]
          unfold leV
          rw [BE.t_leq,e,IE.den_var,show 730 + 2 * n + 1=730 + (2 * n + 1) by omega,nx]; omega
        · exact ih (by omega) c hc
    refine mk (fun c hc=>?_) fun c hc=>?_
    · unfold qEs at hc
      rw [cond_true,lApp_eq] at hc
      have ivc:∀ l l':List (Nat × Int × Int),∀ c ∈ ivC (l ++ l'),c ∈ ivC l ∨ c ∈ ivC l':=by
        intro l l'
        induction l with
        | nil=>intro c hc; exact .inr hc
        | cons x l ih =>
          intro c hc
          obtain ⟨x0,x1,x2⟩:=x
          simp only [List.cons_append,ivC,List.mem_cons] at hc ⊢
          rcases hc with h | h | h
          · exact .inl (.inl h)
          · exact .inl (.inr (.inl h))
          · exact (ih c h).imp (fun h=>.inr (.inr h)) id
      refine (ivc _ _ c hc).elim (qn 710 _ (fun j hj=>?_) c) (qn 730 _ (fun j hj=>?_) c)
      · rw [nb j (by omega)]; exact pn j
      · rw [nx j]; exact xn j
    · unfold fcEs at hc
      rw [cond_true] at hc
      simp only [List.mem_cons] at hc
      rcases hc with rfl | rfl | hc
      · exact l94
      · unfold leV
        rw [BE.t_leq,sB,sX,tB,tX,← eb]; omega
      · exact fx L (Nat.le_refl L) c hc
theorem okEs_of {ρ : Rho} {L : Nat} (h1 : 1 ≤ L) (h5 : L ≤ 5) (hcs : ∀ c ∈ csV L, c.den ρ = true) :
    ∃ t i kb kx ρ',t≤10∧i < L∧(partK t=false→i=0)∧(kb=true→kx=true)∧OkEs L t i kb kx ρ'∧(∀ j,j < 89→ρ.iv j=ρ'.iv j)∧ρ.bv=ρ'.bv:=by
  have q1:=turnF_in (n:=ρ.iv 88) (m:=10) (by omega)
  have q2:=turnF_in (n:=turnF (ρ.iv 87) 12) (m:=2) (by omega)
  have q3:=turnF_in (n:=ρ.iv 87) (m:=(L:Int)) (by omega)
  obtain ⟨t,ht,hk,h2⟩:∃ t,t≤10∧turnF (ρ.iv 88) 10=(kiE t).den ρ∧(¬ t < 9→turnF (turnF (ρ.iv 87) 12) 2=((t - 9:Nat):Int)):=by
    have ek:∀ t,(kiE t).den ρ=((if t < 9 then t else 9:Nat):Int):=fun t=>by
      show ((cond (Nat.blt t 9) t 9:Nat):Int)=_
      cases hp:Nat.blt t 9 with
      | true=>have:=Nat.le_of_ble_eq_true hp; rw [if_pos (by omega)]; rfl
      | false =>
        have:¬ t < 9:=fun h=>by
          have:Nat.blt t 9=true:=Nat.ble_eq_true_of_le h
          rw [this] at hp; cases hp
        rw [if_neg this]; rfl
    by_cases h9:turnF (ρ.iv 88) 10 < 9
    · exact ⟨(turnF (ρ.iv 88) 10).toNat,by omega,by rw [ek,if_pos (by omega)]; omega,fun h=>absurd h (by omega)⟩
    · exact ⟨9 + (turnF (turnF (ρ.iv 87) 12) 2).toNat,by omega,by rw [ek,if_neg (by omega)]; omega,fun _=>by omega⟩
  cases hp:partK t with
  | true =>
    obtain ⟨kb,kx,ρ',r⟩:=okEs_at (t:=t) (i:=(turnF (ρ.iv 87) L).toNat) h1 h5 hcs (by omega) ht (fun _=>by omega) hk h2
    exact ⟨t,(turnF (ρ.iv 87) L).toNat,kb,kx,ρ',ht,by omega,(fun h=>by rw [hp] at h; cases h),r⟩
  | false =>
    obtain ⟨kb,kx,ρ',r⟩:=okEs_at (t:=t) (i:=0) h1 h5 hcs (by omega) ht (fun h=>by rw [hp] at h; cases h) hk h2
    exact ⟨t,0,kb,kx,ρ',ht,by omega,fun _=>rfl,r⟩
end Go.Sx
