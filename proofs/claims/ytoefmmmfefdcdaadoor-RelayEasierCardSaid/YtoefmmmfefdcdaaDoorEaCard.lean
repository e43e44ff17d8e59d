/- EaCard -/
import Derived.Test.YtoefmmmfefdcdaaDoorEaN
import Derived.Test.YtoefmmmfefdcdaaDoorEaK1
import Derived.Test.YtoefmmmfefdcdaaDoorEntL2x0
import Derived.ChangeSlices
import Derived.Test.YtoefmmmfefdcdaaDoorTie
import Derived.Test.YtoefmmmfefdcdaaDoorCards
import Derived.ProofKit
import Derived.LaidMore
import Derived.LaidHandle
import Derived.MakeChecks
import Derived.SevenTiedAt
import Derived.Stop.Joined
namespace Go.Sx
open Go.RowKit Go.Proofs
set_option maxRecDepth 100000
theorem lawE_of {L:Nat} (h0:1≤L) (hL:L≤6) {sw wl wm:Nat} (hsw:sw < 3) (hl:1≤wl∧wl≤L) (hm:1≤wm∧wm≤L) {fp fq fr:Bool} (hf:fp=true→fq=true∧fr=true):lawE L sw wl wm fp fq fr=true:=by
  have hE:lAll (ckE L) (upN L 1)=true:=by
    rcases six h0 hL with rfl | rfl | rfl | rfl | rfl | rfl
    · exact ckE1_all
    · exact ckE2_all
    · exact ckE3_all
    · exact ckE4_all
    · exact ckE5_all
    · exact ckE6_all
  have h1:ckE L wl=true:=lAll_at hE hl.1 (by omega)
  have h2:ckE1 L wl wm=true:=lAll_at h1 hm.1 (by omega)
  have h3:=lAll_mem h2 sw (by rcases (by omega:sw=0 ∨ sw=1 ∨ sw=2) with rfl | rfl | rfl <;> decide)
  simp only [Bool.and_eq_true] at h3
  obtain ⟨a,⟨b,c⟩,d,e⟩:=h3
  cases fp with
  | true =>
    obtain ⟨rfl,rfl⟩:=hf rfl
    exact a
  | false =>
    cases fq with
    | true=>cases fr with
      | true=>exact b
      | false=>exact c
    | false=>cases fr with
      | true=>exact d
      | false=>exact e
theorem easier_any {W : World} {ρ0 : Rho} (hG : ∀ g ∈ glR, GlobIn W ρ0 g) {s : Value} {nf bk nn : Nat → Int}
    (hs : s = .slice none 0 0 ∨ ∃ (b o len cap : Nat) (z : Nat → Int), s = .slice (some ⟨b, o, none⟩) len cap ∧ len ≤ cap ∧
        (0 < len→∃ cells el fz,W.heap[b]?=some (.cells cells el fz)∧∀ q,q < 6 * len→cells[o + q]?=some (.int .i64 (z q)))) :
    Calls Tryd.prog 5 #[bookVal s nf bk,.agg #[.int .i64 (nn 0),.int .i64 (nn 1),.int .i64 (nn 2)]] W fun e w'=>e=.returned (.bool true)∧Below W.heap.size W w':=by
  have hσ:∀ ρ b o cap,∀ x,x < 1000→(envL ρ b o cap).σ x=some (x,0):=fun ρ b o cap x hx=>by simp [envL,hx]
  have hnone:∀ ρ b o cap,∀ x,2000≤x→(envL ρ b o cap).σ x=none:=fun ρ b o cap x hx=>by
    simp only [envL]; rw [if_neg (by omega),if_neg (by omega)]
  have gvw:∀ ρ b o cap,∀ g ∈ glR,ViewIn W (envL ρ b o cap) g:=fun ρ b o cap=>glob_view glR_lit hG (hσ ρ b o cap)
  have args : ∀ (ρ : Rho) (b o cap : Nat) (a : AV), (∀ j, j < 5 → ρ.iv j = nf j) → (∀ j, j < 6 → ρ.iv (60 + j) = bk j) → ρ.iv 93 = nn 0 → ρ.iv 94 = nn 1 → ρ.iv 97 = nn 2 → conc (envL ρ b o cap) a = some s →
      concL (envL ρ b o cap) [bookW a,.agg [vj 93,vj 94,vj 97]]=some [bookVal s nf bk,.agg #[.int .i64 (nn 0),.int .i64 (nn 1),.int .i64 (nn 2)]]:=fun ρ b o cap a h1 h2 h3 h4 h5 ha=>by
    have e1:conc (envL ρ b o cap) (bookW a)=some (bookVal s nf bk):=by
      unfold bookW bookVal
      rw [conc,concL_cons.2 ⟨_,_,ha,six_vals (envL ρ b o cap) nf bk h1 h2,rfl⟩]; rfl
    have e2:concL (envL ρ b o cap) [.agg [vj 93,vj 94,vj 97]]=some [.agg #[.int .i64 (nn 0),.int .i64 (nn 1),.int .i64 (nn 2)]]:=by
      have h3':(envL ρ b o cap).ρ.iv 93=nn 0:=h3
      have h4':(envL ρ b o cap).ρ.iv 94=nn 1:=h4
      have h5':(envL ρ b o cap).ρ.iv 97=nn 2:=h5
      simp only [vj,concL,conc,IE.den,h3',h4',h5']; rfl
    exact concL_cons.2 ⟨_,_,e1,e2,rfl⟩
  have b5:∀ z len j,j < 5→baseI nf z bk nn len j=nf j:=fun z len j hj=>if_pos hj
  have b60:∀ z len j,j < 6→baseI nf z bk nn len (60 + j)=bk j:=fun z len j hj=>by
    unfold baseI
    rw [if_neg (by omega),if_neg (by omega),if_pos (by omega),Nat.add_sub_cancel_left]
  have b93:∀ z len,baseI nf z bk nn len 93=nn 0:=fun z len=>rfl
  have b94:∀ z len,baseI nf z bk nn len 94=nn 1:=fun z len=>rfl
  have b97:∀ z len,baseI nf z bk nn len 97=nn 2:=fun z len=>rfl
  have b95:∀ z len,baseI nf z bk nn len 95=len:=fun z len=>rfl
  rcases hs with hs0 | ⟨b,o,len,cap,z,hs1,hlc,hcells⟩
  · exact waits_short (E:=envL (rhoF (baseI nf (fun _=>0) bk nn 0) s) 0 0 0) lawTS_nil (gvw _ 0 0 0) (hnone _ 0 0 0) (hσ _ 0 0 0) (Nat.le_refl _) (args _ 0 0 0 .nilslice (b5 (fun _=>0) 0) (b60 (fun _=>0) 0) (b93 (fun _=>0) 0) (b94 (fun _=>0) 0) (b97 (fun _=>0) 0) (by rw [hs0]; rfl)) (fun c hc=>(List.not_mem_nil hc).elim)
  · have hsu : conc (envL (rhoF (baseI nf z bk nn len) s) b o cap) (.sliceU 95) = some s := by
      have h3:(envL (rhoF (baseI nf z bk nn len) s) b o cap).ρ.ov 95=s:=rfl
      have h4:(envL (rhoF (baseI nf z bk nn len) s) b o cap).ρ.iv 95=len:=rfl
      simp only [conc]
      rw [h3,h4,hs1]
      simp
    by_cases h0:len=0
    · exact waits_short lawTS_few (gvw _ b o cap) (hnone _ _ _ _) (hσ _ _ _ _) (Nat.le_refl _) (args _ b o cap (.sliceU 95) (b5 z len) (b60 z len) (b93 z len) (b94 z len) (b97 z len) hsu) (fun c hc => by
        rcases List.mem_singleton.1 hc with rfl
        rw [BE.t_leq,IE.den_var,IE.den_lit]; show baseI nf z bk nn len 95≤0; rw [b95]; omega)
    · by_cases h7:7≤len
      · exact waits_short lawTS_many (gvw _ b o cap) (hnone _ _ _ _) (hσ _ _ _ _) (Nat.le_refl _) (args _ b o cap (.sliceU 95) (b5 z len) (b60 z len) (b93 z len) (b94 z len) (b97 z len) hsu) (fun c hc => by
          rcases List.mem_singleton.1 hc with rfl
          rw [BE.t_leq,IE.den_var,IE.den_lit]; show 7≤baseI nf z bk nn len 95; rw [b95]; omega)
      · have h1:1≤len:=by omega
        have h6:len≤6:=by omega
        obtain ⟨cells,el,fz,c1,c2⟩:=hcells (by omega)
        let ρF:=rhoF (baseI nf z bk nn len) s
        let ρ1:=rho1 ρF
        let r:=rho2 len ρ1
        have iv:∀ i,i < 100→r.iv i=baseI nf z bk nn len i:=fun i hi=>by
          show (rho2 len ρ1).iv i=_
          rw [rho2_iv hi]; rfl
        have hsl:∀ ρ:Rho,conc (envL ρ b o cap) (.sliceX 1001 6 0 len)=some s:=fun ρ=>by
          rw [hs1]
          simp only [conc,envL]
          rw [if_pos (by omega)]
          simp
        have hview:∀ ρ:Rho,(∀ j,10≤j→j < 60→ρ.iv j=baseI nf z bk nn len j)→∀ g ∈ viewV len,ViewIn W (envL ρ b o cap) g:=fun ρ hρ g hg=>by
          rcases List.mem_cons.1 hg with rfl | hg
          · refine ⟨b,o,_,cells,el,fz,by simp [envL],cellsUp_vals _ (fun j=>z (j - 10)) (6 * len) 10 (fun j h3 h4=>?_),c1,fun i hi=>?_⟩
            · show ρ.iv j=_
              rw [hρ j (by omega) (by omega)]
              unfold baseI
              rw [if_neg (by omega),if_pos (by omega)]
            · simp only [List.length_map,List.length_range] at hi
              rw [c2 i hi,List.getElem?_map,List.getElem?_range hi]
              simp
          · exact gvw ρ b o cap g hg
        have ha:∀ ρ:Rho,(∀ i,i < 66 ∨ (90≤i∧i < 100)→ρ.iv i=baseI nf z bk nn len i)→concL (envL ρ b o cap) [bookF len,.agg [vj 93,vj 94,vj 97]]=some [bookVal s nf bk,.agg #[.int .i64 (nn 0),.int .i64 (nn 1),.int .i64 (nn 2)]]:=fun ρ hρ =>
          args ρ b o cap _ (fun j hj=>(hρ j (by omega)).trans (b5 z len j hj)) (fun j hj=>(hρ (60 + j) (by omega)).trans (b60 z len j hj)) ((hρ 93 (by omega)).trans (b93 z len)) ((hρ 94 (by omega)).trans (b94 z len)) ((hρ 97 (by omega)).trans (b97 z len)) (hsl ρ)
        have heap:∀ {ok:Rho→(Nat→Obj→Prop)→Prop} {ρ:Rho},(∀ j,10≤j→j < 60→ρ.iv j=baseI nf z bk nn len j)→ok ρ (Base.of W).has→HeapOk (pOk ok) (envL ρ b o cap) (viewA 2000 (vR len)) (Base.of W) W:=fun {ok} {ρ} hρ hok =>
          HeapOk.congr (view_ok (p:=pOk ok) (E:=envL ρ b o cap) (hview ρ hρ) (hnone _ _ _ _) (hσ _ _ _ _) (Nat.le_refl _) ⟨_,hok,fun _ _ h=>h⟩) (viewVR len) (by rw [viewA_next,viewHeap_next])
        have ivr:∀ j,10≤j→j < 60→r.iv j=baseI nf z bk nn len j:=fun j _ hj=>iv j (by omega)
        have har:=ha r fun i hi=>iv i (by omega)
        by_cases hcs:∀ c ∈ csL len,c.den r=true
        · obtain ⟨hF,hR⟩:=filmV_ok h1 h6 hcs
          have like:LikeF r ρF:=fun j hj=>iv j (by omega)
          have fi:∀ f a b c,¬ (3101≤f∧f < 3105)→f ≠ 9702→r.fi f a b c=fiW ρF f a b c:=fun f a b c hf _=>by
            show (if 3101≤f∧f < 3105 then _ else fiW ρF f a b c)=_
            rw [if_neg hf]
          have hT:okT len r:=okT_of h6 like fi rfl hR
          cases hn:(noneB len).den r with
          | true=>exact waits_none h1 h6 (heap ivr ⟨hT,hF,hn⟩) har
          | false =>
            by_cases hbc':∀ c ∈ bookCs,c.den r=true
            · have hBk:=book_ok hbc'
              have hB:okB len r:=⟨hT,hF,hn,hBk⟩
              have hBN:okBN len r:=⟨hB,okNM_of h1 h6 (ρ1:=ρ1) (ρ:=r) (fun i hi=>rfl) (fun f a b c hf=>rfl) hB⟩
              have t0:=turnF_in (n:=nn 0) (m:=3) (by omega)
              have t1:=turnF_in (n:=nn 1) (m:=600) (by omega)
              have t2:=turnF_in (n:=turnF (nn 1) 600) (m:=3) (by omega)
              have t3:=turnF_in (n:=nn 2) (m:=100000) (by omega)
              have e93:r.iv 93=nn 0:=iv 93 (by omega)
              have e94:r.iv 94=nn 1:=iv 94 (by omega)
              have e97:r.iv 97=nn 2:=iv 97 (by omega)
              have hsw:(turnF (nn 0) 3).toNat < 3:=by omega
              obtain ⟨hE,hq,hc,hf⟩:=okEa_of h1 h6 hBN (sw:=(turnF (nn 0) 3).toNat) hsw (w:=turnF (nn 1) 600) (d:=turnF (turnF (nn 1) 600) 3) (st:=turnF (nn 2) 100000) (by omega) (by omega) (by omega)
                (by rw [e93]; omega) (by rw [e94]) rfl (by rw [e97])
              have hBx:=(rhoX_easier (sw:=(turnF (nn 0) 3).toNat) (w:=turnF (nn 1) 600) (d:=turnF (turnF (nn 1) 600) 3) t1.1 t2.1 (bookIn hBk) h1 h6 hBN).1
              have hiv:∀ i,i < 66 ∨ (90≤i∧i < 100)→(rhoN len r (rhoX (turnF (nn 0) 3).toNat (turnF (nn 1) 600) (turnF (turnF (nn 1) 600) 3) r) (turnF (nn 1) 600) (turnF (turnF (nn 1) 600) 3) (turnF (nn 2) 100000)).iv i=baseI nf z bk nn len i:=fun i hi=>by
                rw [rhoN_iv (by omega),rho3_iv (by omega),iv i (by omega)]
              exact easier_valid h1 h6 (ckStL h1 h6) (lawE_of h1 h6 hsw (best_len h1 h6 hBN) (best_len h1 h6 hBx) hf) hq hc (heap (fun j _ hj=>hiv j (.inl (by omega))) hE) (ha _ hiv)
            · exact waits_book h1 h6 (heap ivr ⟨hT,hF,hn⟩) har hbc'
        · exact waits_bad (mem_six h1 h6) (hview r ivr) (hnone _ _ _ _) (hσ _ _ _ _) (Nat.le_refl _) har hcs
end Go.Sx
namespace Go.Proofs.YtoefmmmfefdcdaaDoor
open Go Go.ChangeShapes Go.WideShapes Go.ChangeAt Go.RowKit Go.Sx
set_option maxRecDepth 100000
theorem own:ownKnob Tryd.prog.godebug=none:=by kernel_rfl
theorem laidOut:laidOutB Tryd.prog=true:=by kernel_rfl
noncomputable def tyOf (g:Nat):TypeId:=match (Tryd.prog.globals[g]?).map (·.type) with | some t=>t | none=>0
theorem gn3:Tryd.prog.globalNamed "bioscope/reel.reelBounds"=some 3:=by kernel_rfl
theorem gt3:(Tryd.prog.globals[3]?).map (·.type)=some (tyOf 3):=by kernel_rfl
theorem gn2:Tryd.prog.globalNamed "bioscope/reel.filmBounds"=some 2:=by kernel_rfl
theorem gt2:(Tryd.prog.globals[2]?).map (·.type)=some (tyOf 2):=by kernel_rfl
theorem gn0:Tryd.prog.globalNamed "bioscope/relay.bookBounds"=some 0:=by kernel_rfl
theorem gt0:(Tryd.prog.globals[0]?).map (·.type)=some (tyOf 0):=by kernel_rfl
theorem gn1:Tryd.prog.globalNamed "bioscope/relay.rideBounds"=some 1:=by kernel_rfl
theorem gt1:(Tryd.prog.globals[1]?).map (·.type)=some (tyOf 1):=by kernel_rfl
def laid2 {H:Type}:List (String × DataW H):=[("bioscope/reel.reelBounds",Rows.laid_bioscope_reel_reelBounds),("bioscope/reel.filmBounds",Rows.laid_bioscope_reel_filmBounds),("bioscope/relay.bookBounds",Rows.laid_bioscope_relay_bookBounds),("bioscope/relay.rideBounds",Rows.laid_bioscope_relay_rideBounds)]
theorem var_cells {P:Program} {W:World} {n:String} {g:Nat} {cs:Array Value} (hg:P.globalNamed n=some g) (h:W.var? P n=some cs):∃ el fz,W.heap[g]?=some (.cells cs el fz):=by
  simp only [World.var?,hg,Option.bind_some] at h
  split at h
  · rename_i c el fz hh; cases h; exact ⟨el,fz,hh⟩
  · cases h
noncomputable def ρ0:Rho:=⟨fun _=>0,fun _=>false,fun _ _ _ _=>0,fun _ _ _ _=>false,fun _=>.tuple #[]⟩
theorem glob_of_laid {W:World} (h:laidMetH Tryd.prog laid2 W):∀ g ∈ glR,GlobIn W ρ0 g:=by
  rw [MakeChecks.laidMetH_plain _ _ _ (by kernel_rfl)] at h
  obtain ⟨ps,⟨g0,t0,cs0,f0,p0,q0,hg0,ht0,hv0,hd0,⟨g1,t1,cs1,f1,p1,q1,hg1,ht1,hv1,hd1,⟨g2,t2,cs2,f2,p2,q2,hg2,ht2,hv2,hd2,⟨g3,t3,cs3,f3,p3,q3,hg3,ht3,hv3,hd3,_,_⟩,_⟩,_⟩,_⟩,_,_⟩:=h
  obtain rfl:=Option.some.inj (gn3.symm.trans hg0)
  obtain rfl:=Option.some.inj (gn2.symm.trans hg1)
  obtain rfl:=Option.some.inj (gn0.symm.trans hg2)
  obtain rfl:=Option.some.inj (gn1.symm.trans hg3)
  obtain rfl:=Option.some.inj (gt3.symm.trans ht0)
  obtain rfl:=Option.some.inj (gt2.symm.trans ht1)
  obtain rfl:=Option.some.inj (gt0.symm.trans ht2)
  obtain rfl:=Option.some.inj (gt1.symm.trans ht3)
  obtain ⟨e0,_,_⟩:=flat_trod 6 (tyOf 3) f0 _ _ (by kernel_rfl) hd0
  obtain ⟨el0,fz0,h0⟩:=var_cells gn3 hv0
  obtain ⟨e1,_,_⟩:=flat_trod 6 (tyOf 2) f1 _ _ (by kernel_rfl) hd1
  obtain ⟨el1,fz1,h1⟩:=var_cells gn2 hv1
  obtain ⟨e2,_,_⟩:=flat_trod 6 (tyOf 0) f2 _ _ (by kernel_rfl) hd2
  obtain ⟨el2,fz2,h2⟩:=var_cells gn0 hv2
  obtain ⟨e3,_,_⟩:=flat_trod 6 (tyOf 1) f3 _ _ (by kernel_rfl) hd3
  obtain ⟨el3,fz3,h3⟩:=var_cells gn1 hv3
  intro g hg
  simp only [glR,List.mem_cons,List.not_mem_nil,or_false] at hg
  rcases hg with rfl | rfl | rfl | rfl
  · refine ⟨by omega,_,cs2,el2,fz2,rfl,h2,fun i hi=>?_⟩
    rw [← Array.getElem?_toList,e2]; rfl
  · refine ⟨by omega,_,cs3,el3,fz3,rfl,h3,fun i hi=>?_⟩
    rw [← Array.getElem?_toList,e3]; rfl
  · refine ⟨by omega,_,cs1,el1,fz1,rfl,h1,fun i hi=>?_⟩
    rw [← Array.getElem?_toList,e1]; rfl
  · refine ⟨by omega,_,cs0,el0,fz0,rfl,h0,fun i hi=>?_⟩
    rw [← Array.getElem?_toList,e0]; rfl
theorem door_met (os:Os) (args:Array Value):laidMetH Tryd.prog laid2 ((World.doorLaid Tryd.prog 400 os).forCall (fun _ _=>0) ⟨#[],args,[]⟩).memory :=
  laidMetH_of_parts3 (fuel:=8) (laidMet_of_run' 8 (by kernel_rfl) (by kernel_rfl)) (by kernel_rfl) (by kernel_rfl)
theorem triple_open {t:TypeId} (ht:Tryd.prog.underlying t=some (.array 3 3)) (hts:Tryd.prog.cellTypes Tryd.prog.depth t=some [3,3,3]) (hl:([3,3,3]:List TypeId).length=Tryd.prog.cellsOf t) {W:World} {base:Nat} {v:Value} (hv:Value.okWide Tryd.prog W .any base t v):∃ n0 n1 n2:Int,v=.agg #[.int .i64 n0,.int .i64 n1,.int .i64 n2]:=by
  obtain ⟨cs,rfl,hl,hc⟩:=okRow (P:=Tryd.prog) (ts:=[3,3,3]) (by rw [ht]) hts hl hv
  match cs,hl,hc with
  | [c1,c2,c3],_,hc =>
    obtain ⟨n0,rfl⟩:=okCell_int Tryd.underlying3 (hc 0 3 c1 rfl rfl)
    obtain ⟨n1,rfl⟩:=okCell_int Tryd.underlying3 (hc 1 3 c2 rfl rfl)
    obtain ⟨n2,rfl⟩:=okCell_int Tryd.underlying3 (hc 2 3 c3 rfl rfl)
    exact ⟨n0,n1,n2,rfl⟩
theorem easier_lifted (os : Os) (started : os.Started) (H : Type) (enc : TypeId × Value → H) :
    ReturnsInHanded {} Tryd.checked os 5 .any (fun w args=>(Rows.relayEasierSpec.pre enc Tryd.prog Tryd.f5 [] false w args∧laidMetH Tryd.prog laid2 w)∧sizedMet enc Tryd.prog Tryd.f5 (OpenSpec.ofChange Rows.relayEasierSpec) false w args)
      (Rows.relayEasierSpec.post enc Tryd.prog Tryd.f5 false true false false):=by
  refine returnsInHanded_of_change_and (C:=Tryd.checked) (X:=fun w _=>laidMetH Tryd.prog laid2 w) (fun _ _ _ hh h=>h.of_heap hh) own started (by kernel_rfl) Tryd.func5
    (ChangeSpec.witness_shaped (enc:=enc) (C:=Tryd.checked) (os:=os) (X:=fun w _=>laidMetH Tryd.prog laid2 w) false (World.doorLaid Tryd.prog 400 os)
      #[.agg #[.slice none 0 0,.int .i64 0,.int .i64 0,.int .i64 0,.int .i64 0,.int .i64 0,.int .i64 0,.int .i64 0,.int .i64 0,.int .i64 0,.int .i64 0,.int .i64 0],.agg #[.int .i64 0,.int .i64 0,.int .i64 0]] 8 rfl (World.shaped_of_RefB (by kernel_rfl) (by kernel_rfl)) (by kernel_rfl) (by kernel_rfl) (by kernel_rfl) (door_met os _)) ?_
  intro W base args ds gs before hval0 hW _ _ hL _
  have hval:∀ (j:Nat) t v,Tryd.f5.params[j]?=some t→args[j]?=some v→Value.okWide Tryd.prog W .any base t v:=hval0
  have hW':=hW
  have hlt:=hW.lt
  obtain ⟨p,q,hA0,hV,rfl,hfz,hnd⟩:=hW
  have hA:DataW.TrodAll enc Tryd.prog W 0 (fun _=>true) true Tryd.f5.params.toList args.toList ds p:=hA0
  rw [Tryd.params5] at hA hval
  obtain ⟨v0,v1,d0,d1,p0,p1,rfl,rfl,rfl,h0,h1⟩:=trodAll_two hA
  obtain ⟨rfl,rfl⟩:=trodVars_none hV
  obtain ⟨s,n0,n1,n2,n3,n4,m0,m1,m2,m3,m4,m5,rfl,hs⟩:=book_open h0 (hval 0 28 v0 rfl rfl)
  obtain ⟨a0,a1,a2,rfl⟩:=triple_open Tryd.underlying47 (by kernel_rfl) (by kernel_rfl) (hval 1 47 v1 rfl rfl)
  clear hA0 hval0
  simp only [List.append_nil] at hW' hlt
  refine (easier_any (nn:=fun i=>if i=0 then a0 else if i=1 then a1 else a2) (nf:=fun i=>if i=0 then n0 else if i=1 then n1 else if i=2 then n2 else if i=3 then n3 else n4) (bk:=fun i=>if i=0 then m0 else if i=1 then m1 else if i=2 then m2 else if i=3 then m3 else if i=4 then m4 else m5) (glob_of_laid hL) hs).mono fun e W' ⟨he,hb⟩=>?_
  subst he
  have e1:Rows.relayEasierSpec.fn H ([d0,d1] ++ [])={ results:=[.lit (.bool true)],args:=[d0,d1] }:=by simp [Rows.relayEasierSpec]
  refine ⟨_,rfl,_,_,_,[],p0 ++ p1,[],hW',?_,?_,?_,hb.frame _,fun h=>by cases h⟩
  · rw [e1]; exact trodAll_mk1 (shut_bool Tryd.underlying4 true)
  · rw [e1]
    exact trodAll_mk2 (Below.trod laidOut (by kernel_rfl) (of_decide_eq_true (by kernel_rfl)) h0 hb (fun x hx=>hlt x (by simp [hx]))) (Below.trod laidOut (by kernel_rfl) (of_decide_eq_true (by kernel_rfl)) h1 hb (fun x hx=>hlt x (by simp [hx])))
  · rw [e1]; rfl
theorem relayEasier_holds:Rows.RelayEasierSaid :=
  OpenClaim.holds_of_wide 5 Tryd.f5 rfl rfl rfl rfl rfl rfl rfl ⟨rfl,rfl,rfl,rfl,rfl⟩ rfl rfl rfl rfl rfl (by kernel_rfl) Tryd.func5 (by kernel_rfl)
    (of_decide_eq_true (by kernel_rfl)) (by unfold Func.isWrapper; first | (rw [if_pos (by decide +kernel)]; kernel_rfl) | (rw [if_neg (by decide +kernel)]; exact ⟨rfl,rfl⟩))
    (fun os started H enc _=>easier_lifted os started H enc)
theorem relayEasier_card_holds:Rows.RelayEasierCardSaid :=
  Claim7.holds_tied_plain_at .later [] [.data,.data,.data,.data] true (true,"990ba42512ac0f7597b050bde61cb1c8ad349569958634aa9c7123315648b959") false
    relayEasier_holds (fun _ h=>by cases h) (by kernel_rfl) (fun _ h=>by cases h) relayEasier_row_tie rfl ⟨rfl,rfl⟩ (by kernel_rfl) rfl
    (fun f fn hf hfn=>by
      obtain rfl:f=5:=Option.some.inj ((show Tryd.prog.funcNamed "bioscope/bioscopelaw08.RelayEasier"=some 5 by kernel_rfl).symm.trans hf) |>.symm
      obtain rfl:fn=Tryd.f5:=(Option.some.inj (Tryd.func5.symm.trans hfn)).symm
      exact ⟨by kernel_rfl,fun j t ht=>by
        rw [Tryd.params5] at ht
        have hm:t ∈ [28,47]:=by simpa using Array.mem_of_getElem? ht
        have hall:([28,47].all fun u=>!Tryd.prog.wantsStandIn u)=true:=by kernel_rfl
        exact (show Tryd.prog.wantsStandIn t=false by simpa using List.all_eq_true.1 hall t hm)⟩)
    (by kernel_rfl)
#print axioms relayEasier_card_holds
end Go.Proofs.YtoefmmmfefdcdaaDoor
