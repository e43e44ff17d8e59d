/- SxPres -/
import Derived.Test.YtfbongdjicmegaaDoorSxTree
import Derived.IntWalk
namespace Go.Sx
open Go.RowKit Go.IntWalk
abbrev Lin:=List (IE × Int)
def bo (ρ:Rho):Lin→Int
  | []=>0
  | p :: l=>p.2 * p.1.den ρ + bo ρ l
noncomputable def linPut (e:IE) (c:Int):Lin→Lin
  | []=>[(e,c)]
  | p :: l=>cond (gX p.1 e) (cond (ieq (Int.add p.2 c) 0) l ((p.1,Int.add p.2 c) :: l)) (p :: linPut e c l)
noncomputable def linAdd:Lin→Lin→Lin
  | [],m=>m
  | p :: l,m=>linPut p.1 p.2 (linAdd l m)
noncomputable def linMul (k:Int) (l:Lin):Lin:=cond (ieq k 0) [] (lMap (fun p=>(p.1,Int.mul k p.2)) l)
noncomputable def linSub (l m:Lin):Lin:=linAdd (linMul (-1) m) l
theorem ieq_t {x y:Int} (h:ieq x y=true):x=y:=by
  cases x <;> cases y <;> simp [ieq] at h
  · rw [h]
  · rw [h]
theorem ilt_t {x y:Int}:ilt x y=true ↔ x < y:=by rw [ilt_eq]; exact decide_eq_true_iff
theorem ilt_f {x y:Int}:ilt x y=false ↔ y≤x:=by
  rw [← Bool.not_eq_true,ilt_t]; omega
theorem linPut_den {ρ:Rho} (e:IE) (c:Int):∀ l,bo ρ (linPut e c l)=c * e.den ρ + bo ρ l
  | []=>rfl
  | p :: l=>by
    simp only [linPut]
    cases h:gX p.1 e with
    | true =>
      have he:=bu _ _ h
      simp only [cond_true]
      cases h2:ieq (Int.add p.2 c) 0 with
      | true =>
        have h3:p.2 + c=0:=ieq_t h2
        simp only [cond_true,bo,he]
        have:(p.2 + c) * e.den ρ=0:=by rw [h3,Int.zero_mul]
        rw [Int.add_mul] at this; omega
      | false =>
        simp only [cond_false,bo,he]
        show (p.2 + c) * e.den ρ + bo ρ l=_
        rw [Int.add_mul]; omega
    | false=>simp only [cond_false,bo,linPut_den e c l]; omega
theorem fM {ρ:Rho}:∀ l m,bo ρ (linAdd l m)=bo ρ l + bo ρ m
  | [],m=>by simp [linAdd,bo]
  | p :: l,m=>by simp only [linAdd,linPut_den,fM l m,bo]; omega
theorem linMul_den {ρ:Rho} (k:Int) (l:Lin):bo ρ (linMul k l)=k * bo ρ l:=by
  unfold linMul
  cases h:ieq k 0 with
  | true=>simp [ieq_t h,bo]
  | false =>
    simp only [cond_false,lMap_eq]
    induction l with
    | nil=>simp [bo]
    | cons p l ih =>
      simp only [List.map_cons,bo,ih,Int.mul_add]
      show k * p.2 * _ + _=_
      rw [Int.mul_assoc]
theorem linSub_den {ρ:Rho} (l m:Lin):bo ρ (linSub l m)=bo ρ l - bo ρ m:=by
  unfold linSub; rw [fM,linMul_den]; omega
structure Iv where
  lo:Int
  hi:Int
inductive Fk where
  | le | eq | ne
structure Fct where
  k:Fk
  l:Lin
  c:Int
structure Kn where
  iv:PT Iv
  fs:List Fct
  bs:List Asm
def Fct.ok (ρ:Rho) (f:Fct):Prop :=
  match f.k with
  | .le=>bo ρ f.l + f.c≤0
  | .eq=>bo ρ f.l + f.c=0
  | .ne=>bo ρ f.l + f.c ≠ 0
structure KnOk (ρ:Rho) (K:Kn):Prop where
  iv:∀ i v,K.iv.get i=some v→v.lo≤ρ.iv i∧ρ.iv i≤v.hi
  fs:∀ f ∈ K.fs,f.ok ρ
  bs:AsmOk ρ K.bs
noncomputable def imin (x y:Int):Int:=cond (ilt y x) y x
noncomputable def imax (x y:Int):Int:=cond (ilt x y) y x
theorem imin_eq (x y:Int):imin x y=min x y:=by
  unfold imin; cases h:ilt y x with
  | true=>have:=ilt_t.1 h; simp only [cond_true]; omega
  | false=>have:=ilt_f.1 h; simp only [cond_false]; omega
theorem imax_eq (x y:Int):imax x y=max x y:=by
  unfold imax; cases h:ilt x y with
  | true=>have:=ilt_t.1 h; simp only [cond_true]; omega
  | false=>have:=ilt_f.1 h; simp only [cond_false]; omega
noncomputable def ivIn (v:Iv):Bool:=and (Bool.not (ilt v.lo (-9223372036854775808))) (Bool.not (ilt 9223372036854775807 v.hi))
noncomputable def ivI (k:IntKind) (v:Iv):Option Iv:=cond (and (isI64 k) (ivIn v)) (some v) none
noncomputable def ivMul (a b:Iv):Iv :=
  ⟨imin (imin (Int.mul a.lo b.lo) (Int.mul a.lo b.hi)) (imin (Int.mul a.hi b.lo) (Int.mul a.hi b.hi)),
   imax (imax (Int.mul a.lo b.lo) (Int.mul a.lo b.hi)) (imax (Int.mul a.hi b.lo) (Int.mul a.hi b.hi))⟩
noncomputable def ivE (G:PT Iv):IE→Option Iv
  | .lit n=>some ⟨n,n⟩
  | .var i=>G.get i
  | .bin op k a b=>(match ivE G a,ivE G b with
    | some x,some y=>(match op with
      | .add=>ivI k ⟨Int.add x.lo y.lo,Int.add x.hi y.hi⟩
      | .sub=>ivI k ⟨Int.sub x.lo y.hi,Int.sub x.hi y.lo⟩
      | .mul=>ivI k (ivMul x y)
      | _=>none)
    | _,_=>none)
  | .conv k a=>(match ivE G a with
    | some x=>ivI k x
    | none=>none)
  | .mx a b=>(match ivE G a,ivE G b with
    | some x,some y=>some ⟨imax x.lo y.lo,imax x.hi y.hi⟩
    | _,_=>none)
  | .mn a b=>(match ivE G a,ivE G b with
    | some x,some y=>some ⟨imin x.lo y.lo,imin x.hi y.hi⟩
    | _,_=>none)
  | .app _ _ _ _=>none
theorem isI64_eq {k:IntKind} (h:isI64 k=true):k=.i64:=by cases k <;> simp [isI64] at h; rfl
theorem ivI_ok {k:IntKind} {v u:Iv} (h:ivI k v=some u):k=.i64∧u=v∧-9223372036854775808≤v.lo∧v.hi≤9223372036854775807:=by
  obtain ⟨h1,h2⟩:=ak h
  simp only [Bool.and_eq_true] at h1
  obtain ⟨a,b⟩:=h1
  unfold ivIn at b
  simp only [Bool.and_eq_true,Bool.not_eq_true',ilt_f] at b
  cases h2
  exact ⟨isI64_eq a,rfl,b.1,b.2⟩
theorem mul_bounds {a b l h m n : Int} (h1 : l ≤ a) (h2 : a ≤ h) (h3 : m ≤ b) (h4 : b ≤ n) :
    min (min (l * m) (l * n)) (min (h * m) (h * n))≤a * b∧a * b≤max (max (l * m) (l * n)) (max (h * m) (h * n)):=by
  have up:∀ {x y z:Int},0≤z→x≤y→x * z≤y * z:=fun hz hxy=>Int.mul_le_mul_of_nonneg_right hxy hz
  have dn:∀ {x y z:Int},z≤0→x≤y→y * z≤x * z:=fun hz hxy=>Int.mul_le_mul_of_nonpos_right hxy hz
  have up':∀ {x y z:Int},0≤z→x≤y→z * x≤z * y:=fun hz hxy=>Int.mul_le_mul_of_nonneg_left hxy hz
  have dn':∀ {x y z:Int},z≤0→x≤y→z * y≤z * x:=fun {x y z} hz hxy=>by
    rw [Int.mul_comm z y,Int.mul_comm z x]; exact dn hz hxy
  have e1:min (l * b) (h * b)≤a * b∧a * b≤max (l * b) (h * b):=by
    rcases Int.le_total 0 b with hb | hb
    · have:=up hb h1; have:=up hb h2; omega
    · have:=dn hb h1; have:=dn hb h2; omega
  have e2:∀ x:Int,min (x * m) (x * n)≤x * b∧x * b≤max (x * m) (x * n):=fun x=>by
    rcases Int.le_total 0 x with hx | hx
    · have:=up' hx h3; have:=up' hx h4; omega
    · have:=dn' hx h3; have:=dn' hx h4; omega
  have:=e2 l; have:=e2 h; omega
theorem eR {ρ:Rho} {G:PT Iv} (HG:∀ i v,G.get i=some v→v.lo≤ρ.iv i∧ρ.iv i≤v.hi):∀ (e:IE) (v:Iv),ivE G e=some v→v.lo≤e.den ρ∧e.den ρ≤v.hi
  | .lit n,v,h=>by simp only [ivE,Option.some.injEq] at h; subst h; exact ⟨Int.le_refl _,Int.le_refl _⟩
  | .var i,v,h=>HG i v h
  | .bin op k a b,v,h=>by
    simp only [ivE] at h
    split at h
    · rename_i x y hx hy
      have h1:=eR HG a x hx
      have h2:=eR HG b y hy
      split at h
      · obtain ⟨rfl,rfl,h3,h4⟩:=ivI_ok h
        have e1:Int.add x.lo y.lo=x.lo + y.lo:=rfl
        have e2:Int.add x.hi y.hi=x.hi + y.hi:=rfl
        simp only [e1,e2] at h3 h4 ⊢
        simp only [IE.den,binDen]
        rw [i64_in _ (by omega)]; omega
      · obtain ⟨rfl,rfl,h3,h4⟩:=ivI_ok h
        have e1:Int.sub x.lo y.hi=x.lo - y.hi:=rfl
        have e2:Int.sub x.hi y.lo=x.hi - y.lo:=rfl
        simp only [e1,e2] at h3 h4 ⊢
        simp only [IE.den,binDen]
        rw [i64_in _ (by omega)]; omega
      · obtain ⟨rfl,rfl,h3,h4⟩:=ivI_ok h
        have hb:=mul_bounds h1.1 h1.2 h2.1 h2.2
        have e1:(ivMul x y).lo=min (min (x.lo * y.lo) (x.lo * y.hi)) (min (x.hi * y.lo) (x.hi * y.hi)):=by simp only [ivMul,imin_eq]; rfl
        have e2:(ivMul x y).hi=max (max (x.lo * y.lo) (x.lo * y.hi)) (max (x.hi * y.lo) (x.hi * y.hi)):=by simp only [ivMul,imax_eq]; rfl
        rw [e1] at h3 ⊢; rw [e2] at h4 ⊢
        simp only [IE.den,binDen]
        rw [i64_in _ ⟨Int.le_trans h3 hb.1,Int.le_trans hb.2 h4⟩]; exact hb
      · cases h
    · cases h
  | .conv k a,v,h=>by
    simp only [ivE] at h
    split at h
    · rename_i x hx
      have h1:=eR HG a x hx
      obtain ⟨rfl,rfl,h3,h4⟩:=ivI_ok h
      simp only [IE.den]
      rw [i64_in _ (by omega)]; exact h1
    · cases h
  | .mx a b,v,h=>by
    simp only [ivE] at h
    split at h
    · rename_i x y hx hy
      have h1:=eR HG a x hx
      have h2:=eR HG b y hy
      cases h
      simp only [imax_eq,IE.den_mx]; omega
    · cases h
  | .mn a b,v,h=>by
    simp only [ivE] at h
    split at h
    · rename_i x y hx hy
      have h1:=eR HG a x hx
      have h2:=eR HG b y hy
      cases h
      simp only [imin_eq,IE.den]
      split <;> omega
    · cases h
  | .app _ _ _ _,v,h=>by simp only [ivE] at h; cases h
noncomputable def upL (G:PT Iv):Lin→Option Int
  | []=>some 0
  | p :: l=>(match ivE G p.1,upL G l with
    | some v,some u=>some (Int.add (Int.mul p.2 (cond (ilt p.2 0) v.lo v.hi)) u)
    | _,_=>none)
theorem upL_ok {ρ:Rho} {G:PT Iv} (HG:∀ i v,G.get i=some v→v.lo≤ρ.iv i∧ρ.iv i≤v.hi):∀ (l:Lin) (u:Int),upL G l=some u→bo ρ l≤u
  | [],u,h=>by simp only [upL,Option.some.injEq] at h; subst h; exact Int.le_refl _
  | p :: l,u,h=>by
    simp only [upL] at h
    split at h
    · rename_i v w hv hw
      have h1:=eR HG p.1 v hv
      have h2:=upL_ok HG l w hw
      cases h
      show p.2 * p.1.den ρ + bo ρ l≤p.2 * (cond (ilt p.2 0) v.lo v.hi) + w
      cases hc:ilt p.2 0 with
      | true =>
        have:=ilt_t.1 hc
        have h3:p.2 * p.1.den ρ≤p.2 * v.lo:=by
          rw [Int.mul_comm p.2,Int.mul_comm p.2]; exact Int.mul_le_mul_of_nonpos_right h1.1 (by omega)
        simp only [cond_true]; omega
      | false =>
        have:=ilt_f.1 hc
        have h3:p.2 * p.1.den ρ≤p.2 * v.hi:=Int.mul_le_mul_of_nonneg_left h1.2 this
        simp only [cond_false]; omega
    · cases h
noncomputable def leI (G:PT Iv) (l:Lin) (c:Int):Bool :=
  match upL G l with
  | some u=>Bool.not (ilt 0 (Int.add u c))
  | none=>false
theorem leI_ok {ρ:Rho} {G:PT Iv} (HG:∀ i v,G.get i=some v→v.lo≤ρ.iv i∧ρ.iv i≤v.hi) {l:Lin} {c:Int} (h:leI G l c=true):bo ρ l + c≤0:=by
  unfold leI at h
  split at h
  · rename_i u hu
    have h1:=upL_ok HG l u hu
    simp only [Bool.not_eq_true',ilt_f] at h
    have:Int.add u c=u + c:=rfl
    omega
  · cases h
noncomputable def leF (G:PT Iv) (l:Lin) (c:Int) (f:Fct):Bool :=
  match f.k with
  | .le=>leI G (linSub l f.l) (Int.sub c f.c)
  | .eq=>or (leI G (linSub l f.l) (Int.sub c f.c)) (leI G (linAdd l f.l) (Int.add c f.c))
  | .ne=>false
theorem leF_ok {ρ:Rho} {G:PT Iv} (HG:∀ i v,G.get i=some v→v.lo≤ρ.iv i∧ρ.iv i≤v.hi) {l:Lin} {c:Int} {f:Fct} (hf:f.ok ρ) (h:leF G l c f=true):bo ρ l + c≤0:=by
  unfold leF at h
  unfold Fct.ok at hf
  have e1:Int.sub c f.c=c - f.c:=rfl
  have e2:Int.add c f.c=c + f.c:=rfl
  split at h
  · rename_i hk
    rw [hk] at hf
    have:=leI_ok HG h
    rw [linSub_den] at this; simp only at hf; omega
  · rename_i hk
    rw [hk] at hf; simp only at hf
    simp only [Bool.or_eq_true] at h
    rcases h with h | h
    · have:=leI_ok HG h
      rw [linSub_den] at this; omega
    · have:=leI_ok HG h
      rw [fM] at this; omega
  · cases h
noncomputable def anyF (p:Fct→Bool) (l:List Fct):Bool:=@List.rec Fct (fun _=>Bool) false (fun f _ ih=>cond (p f) true ih) l
theorem anyF_ok {p:Fct→Bool}:∀ {l:List Fct},anyF p l=true→∃ f ∈ l,p f=true
  | [],h=>by cases h
  | f :: l,h=>by
    have h:cond (p f) true (anyF p l)=true:=h
    cases hp:p f with
    | true=>exact ⟨f,List.mem_cons_self,hp⟩
    | false =>
      rw [hp] at h
      obtain ⟨g,h1,h2⟩:=anyF_ok h
      exact ⟨g,List.mem_cons_of_mem _ h1,h2⟩
noncomputable def leK (K:Kn) (l:Lin) (c:Int):Bool:=cond (leI K.iv l c) true (anyF (leF K.iv l c) K.fs)
theorem leK_ok {ρ:Rho} {K:Kn} (H:KnOk ρ K) {l:Lin} {c:Int} (h:leK K l c=true):bo ρ l + c≤0:=by
  unfold leK at h
  cases h1:leI K.iv l c with
  | true=>exact leI_ok H.iv h1
  | false =>
    rw [h1] at h
    obtain ⟨f,hf,h2⟩:=anyF_ok h
    exact leF_ok H.iv (H.fs f hf) h2
structure LC where
  l:Lin
  c:Int
noncomputable def LC.sub (x y:LC):LC:=⟨linSub x.l y.l,Int.sub x.c y.c⟩
noncomputable def LC.add (x y:LC):LC:=⟨linAdd x.l y.l,Int.add x.c y.c⟩
noncomputable def LC.neg (x:LC):LC:=⟨linMul (-1) x.l,Int.neg x.c⟩
noncomputable def LC.mul (k:Int) (x:LC):LC:=⟨linMul k x.l,Int.mul k x.c⟩
def LC.den (ρ:Rho) (x:LC):Int:=bo ρ x.l + x.c
theorem LC.sub_den {ρ:Rho} (x y:LC):(x.sub y).den ρ=x.den ρ - y.den ρ:=by
  have:Int.sub x.c y.c=x.c - y.c:=rfl
  simp only [LC.sub,LC.den,linSub_den,this]; omega
theorem LC.add_den {ρ:Rho} (x y:LC):(x.add y).den ρ=x.den ρ + y.den ρ:=by
  have:Int.add x.c y.c=x.c + y.c:=rfl
  simp only [LC.add,LC.den,fM,this]; omega
theorem LC.neg_den {ρ:Rho} (x:LC):(x.neg).den ρ=-(x.den ρ):=by
  have:Int.neg x.c=-x.c:=rfl
  simp only [LC.neg,LC.den,linMul_den,this]; omega
theorem LC.mul_den {ρ:Rho} (k:Int) (x:LC):(x.mul k).den ρ=k * x.den ρ:=by
  have:Int.mul k x.c=k * x.c:=rfl
  simp only [LC.mul,LC.den,linMul_den,this,Int.mul_add]
noncomputable def atomL (e:IE):LC:=⟨[(e,1)],0⟩
theorem cj {ρ:Rho} (e:IE):(atomL e).den ρ=e.den ρ:=by simp [atomL,LC.den,bo]
noncomputable def inR (G:PT Iv) (e:IE):Bool:=(ivE G e).isSome
noncomputable def litL (x:LC):Option Int :=
  match x.l with
  | []=>some x.c
  | _=>none
noncomputable def linMn (K:Kn) (e:IE) (x y:LC):LC:=cond (leK K (x.sub y).l (x.sub y).c) x (cond (leK K (y.sub x).l (y.sub x).c) y (atomL e))
noncomputable def linMx (K:Kn) (e:IE) (x y:LC):LC:=cond (leK K (x.sub y).l (x.sub y).c) y (cond (leK K (y.sub x).l (y.sub x).c) x (atomL e))
noncomputable def linMul2 (G:PT Iv) (e:IE) (x y:LC):LC :=
  match litL x,litL y with
  | some n,_=>cond (inR G e) (y.mul n) (atomL e)
  | none,some m=>cond (inR G e) (x.mul m) (atomL e)
  | none,none=>atomL e
noncomputable def cG (K:Kn):IE→LC
  | .lit n=>⟨[],n⟩
  | .bin op k a b=>(match op with
    | .add=>cond (inR K.iv (.bin .add k a b)) ((cG K a).add (cG K b)) (atomL (.bin .add k a b))
    | .sub=>cond (inR K.iv (.bin .sub k a b)) ((cG K a).sub (cG K b)) (atomL (.bin .sub k a b))
    | .mul=>linMul2 K.iv (.bin .mul k a b) (cG K a) (cG K b)
    | op=>atomL (.bin op k a b))
  | .conv k a=>cond (inR K.iv (.conv k a)) (cG K a) (atomL (.conv k a))
  | .mx a b=>linMx K (.mx a b) (cG K a) (cG K b)
  | .mn a b=>linMn K (.mn a b) (cG K a) (cG K b)
  | e=>atomL e
theorem inR_ok {G:PT Iv} {e:IE} (h:inR G e=true):∃ v,ivE G e=some v:=Option.isSome_iff_exists.1 h
theorem inR_bin {ρ : Rho} {G : PT Iv} (HG : ∀ i v, G.get i = some v → v.lo ≤ ρ.iv i ∧ ρ.iv i ≤ v.hi) {k : IntKind} {a b : IE} :
    (inR G (.bin .add k a b)=true→(IE.bin .add k a b).den ρ=a.den ρ + b.den ρ)∧(inR G (.bin .sub k a b)=true→(IE.bin .sub k a b).den ρ=a.den ρ - b.den ρ) ∧
    (inR G (.bin .mul k a b)=true→(IE.bin .mul k a b).den ρ=a.den ρ * b.den ρ)∧(inR G (.conv k a)=true→(IE.conv k a).den ρ=a.den ρ):=by
  refine ⟨fun h=>?_,fun h=>?_,fun h=>?_,fun h=>?_⟩
  · obtain ⟨v,h⟩:=inR_ok h
    simp only [ivE] at h
    split at h
    · rename_i x y hx hy
      have h1:=eR HG a x hx
      have h2:=eR HG b y hy
      obtain ⟨rfl,rfl,h3,h4⟩:=ivI_ok h
      have e1:Int.add x.lo y.lo=x.lo + y.lo:=rfl
      have e2:Int.add x.hi y.hi=x.hi + y.hi:=rfl
      simp only [e1,e2] at h3 h4
      simp only [IE.den,binDen]
      rw [i64_in _ (by omega)]
    · cases h
  · obtain ⟨v,h⟩:=inR_ok h
    simp only [ivE] at h
    split at h
    · rename_i x y hx hy
      have h1:=eR HG a x hx
      have h2:=eR HG b y hy
      obtain ⟨rfl,rfl,h3,h4⟩:=ivI_ok h
      have e1:Int.sub x.lo y.hi=x.lo - y.hi:=rfl
      have e2:Int.sub x.hi y.lo=x.hi - y.lo:=rfl
      simp only [e1,e2] at h3 h4
      simp only [IE.den,binDen]
      rw [i64_in _ (by omega)]
    · cases h
  · obtain ⟨v,h⟩:=inR_ok h
    simp only [ivE] at h
    split at h
    · rename_i x y hx hy
      have h1:=eR HG a x hx
      have h2:=eR HG b y hy
      obtain ⟨rfl,rfl,h3,h4⟩:=ivI_ok h
      have hb:=mul_bounds h1.1 h1.2 h2.1 h2.2
      have e1:(ivMul x y).lo=min (min (x.lo * y.lo) (x.lo * y.hi)) (min (x.hi * y.lo) (x.hi * y.hi)):=by simp only [ivMul,imin_eq]; rfl
      have e2:(ivMul x y).hi=max (max (x.lo * y.lo) (x.lo * y.hi)) (max (x.hi * y.lo) (x.hi * y.hi)):=by simp only [ivMul,imax_eq]; rfl
      rw [e1] at h3; rw [e2] at h4
      simp only [IE.den,binDen]
      rw [i64_in _ ⟨Int.le_trans h3 hb.1,Int.le_trans hb.2 h4⟩]
    · cases h
  · obtain ⟨v,h⟩:=inR_ok h
    simp only [ivE] at h
    split at h
    · rename_i x hx
      have h1:=eR HG a x hx
      obtain ⟨rfl,rfl,h3,h4⟩:=ivI_ok h
      simp only [IE.den]
      rw [i64_in _ (by omega)]
    · cases h
theorem litL_ok {ρ:Rho} {x:LC} {n:Int} (h:litL x=some n):x.den ρ=n:=by
  unfold litL at h
  split at h
  · rename_i hl; cases h; simp [LC.den,hl,bo]
  · cases h
theorem dG {ρ:Rho} {K:Kn} (H:KnOk ρ K):∀ e:IE,(cG K e).den ρ=e.den ρ
  | .lit n=>by simp [cG,LC.den,bo,IE.den]
  | .var i=>by simp only [cG]; exact cj _
  | .app f a b c=>by simp only [cG]; exact cj _
  | .bin op k a b=>by
    have ha:=dG H a
    have hb:=dG H b
    obtain ⟨q1,q2,q3,_⟩:=inR_bin H.iv (k:=k) (a:=a) (b:=b)
    simp only [cG]
    split
    · cases h:inR K.iv (.bin .add k a b) with
      | true=>simp only [cond_true]; rw [LC.add_den,ha,hb,q1 h]
      | false=>exact cj _
    · cases h:inR K.iv (.bin .sub k a b) with
      | true=>simp only [cond_true]; rw [LC.sub_den,ha,hb,q2 h]
      | false=>exact cj _
    · unfold linMul2
      split
      · rename_i x _ hx
        cases h:inR K.iv (.bin .mul k a b) with
        | true=>simp only [cond_true]; rw [LC.mul_den,hb,q3 h,← ha,litL_ok hx]
        | false=>exact cj _
      · rename_i y _ hy
        cases h:inR K.iv (.bin .mul k a b) with
        | true=>simp only [cond_true]; rw [LC.mul_den,ha,q3 h,← hb,litL_ok hy,Int.mul_comm]
        | false=>exact cj _
      · exact cj _
    · exact cj _
  | .conv k a=>by
    have ha:=dG H a
    obtain ⟨_,_,_,q4⟩:=inR_bin H.iv (k:=k) (a:=a) (b:=a)
    simp only [cG]
    cases h:inR K.iv (.conv k a) with
    | true=>simp only [cond_true]; rw [ha,q4 h]
    | false=>exact cj _
  | .mx a b=>by
    have ha:=dG H a
    have hb:=dG H b
    simp only [cG]
    unfold linMx
    generalize cG K a=x at ha
    generalize cG K b=y at hb
    cases h:leK K (x.sub y).l (x.sub y).c with
    | true =>
      have:=leK_ok H h
      have e:=LC.sub_den (ρ:=ρ) x y
      simp only [LC.den] at e ha hb ⊢
      simp only [cond_true,IE.den_mx]; omega
    | false =>
      simp only [cond_false]
      cases h2:leK K (y.sub x).l (y.sub x).c with
      | true =>
        have:=leK_ok H h2
        have e:=LC.sub_den (ρ:=ρ) y x
        simp only [LC.den] at e ha hb ⊢
        simp only [cond_true,IE.den_mx]; omega
      | false=>exact cj _
  | .mn a b=>by
    have ha:=dG H a
    have hb:=dG H b
    simp only [cG]
    unfold linMn
    generalize cG K a=x at ha
    generalize cG K b=y at hb
    cases h:leK K (x.sub y).l (x.sub y).c with
    | true =>
      have:=leK_ok H h
      have e:=LC.sub_den (ρ:=ρ) x y
      simp only [LC.den] at e ha hb ⊢
      simp only [cond_true,IE.den]; split <;> omega
    | false =>
      simp only [cond_false]
      cases h2:leK K (y.sub x).l (y.sub x).c with
      | true =>
        have:=leK_ok H h2
        have e:=LC.sub_den (ρ:=ρ) y x
        simp only [LC.den] at e ha hb ⊢
        simp only [cond_true,IE.den]; split <;> omega
      | false=>exact cj _
noncomputable def leLC (K:Kn) (x:LC):Bool:=leK K x.l x.c
theorem leLC_ok {ρ:Rho} {K:Kn} (H:KnOk ρ K) {x:LC} (h:leLC K x=true):x.den ρ≤0:=leK_ok H h
noncomputable def LC.plus (n:Int) (x:LC):LC:=⟨x.l,Int.add x.c n⟩
theorem LC.plus_den {ρ:Rho} (n:Int) (x:LC):(x.plus n).den ρ=x.den ρ + n:=by
  have:Int.add x.c n=x.c + n:=rfl
  simp only [LC.plus,LC.den,this]; omega
noncomputable def decLe (K:Kn) (d:LC):Option Bool :=
  cond (leLC K d) (some true) (cond (leLC K (d.neg.plus 1)) (some false) none)
theorem decLe_ok {ρ:Rho} {K:Kn} (H:KnOk ρ K) {d:LC} {b:Bool} (h:decLe K d=some b):(d.den ρ≤0 ↔ b=true):=by
  unfold decLe at h
  cases h1:leLC K d with
  | true=>rw [h1] at h; cases h; exact ⟨fun _=>rfl,fun _=>leLC_ok H h1⟩
  | false =>
    rw [h1,cond_false] at h
    obtain ⟨h2,h3⟩:=ak h
    cases h3
    have:=leLC_ok H h2
    rw [LC.plus_den,LC.neg_den] at this
    constructor
    · intro; omega
    · intro h; cases h
noncomputable def neF (d:LC) (f:Fct):Bool :=
  match f.k with
  | .ne=>or (cond (isNil (linSub d.l f.l)) (ieq d.c f.c) false) (cond (isNil (linAdd d.l f.l)) (ieq (Int.add d.c f.c) 0) false)
  | _=>false
where isNil (l:Lin):Bool:=match l with
  | []=>true
  | _=>false
theorem neF_ok {ρ:Rho} {d:LC} {f:Fct} (hf:f.ok ρ) (h:neF d f=true):d.den ρ ≠ 0:=by
  unfold neF at h
  unfold Fct.ok at hf
  split at h
  · rename_i hk
    rw [hk] at hf; simp only at hf
    simp only [Bool.or_eq_true] at h
    have nl:∀ l:Lin,neF.isNil l=true→l=[]:=fun l h=>by cases l with
      | nil=>rfl
      | cons=>cases h
    rcases h with h | h
    · cases h1:neF.isNil (linSub d.l f.l) with
      | false=>rw [h1] at h; cases h
      | true =>
        rw [h1,cond_true] at h
        have h2:=linSub_den (ρ:=ρ) d.l f.l
        rw [nl _ h1] at h2
        have h3:=ieq_t h
        simp only [bo] at h2
        simp only [LC.den]; omega
    · cases h1:neF.isNil (linAdd d.l f.l) with
      | false=>rw [h1] at h; cases h
      | true =>
        rw [h1,cond_true] at h
        have h2:=fM (ρ:=ρ) d.l f.l
        rw [nl _ h1] at h2
        have h3:d.c + f.c=0:=ieq_t h
        simp only [bo] at h2
        simp only [LC.den]; omega
  · cases h
noncomputable def decEq0 (K:Kn) (d:LC):Option Bool :=
  cond (leLC K d)
    (cond (leLC K d.neg) (some true) (cond (leLC K (d.plus 1)) (some false) (cond (anyF (neF d) K.fs) (some false) none)))
    (cond (leLC K (d.neg.plus 1)) (some false) (cond (anyF (neF d) K.fs) (some false) none))
theorem decEq0_ok {ρ:Rho} {K:Kn} (H:KnOk ρ K) {d:LC} {b:Bool} (h:decEq0 K d=some b):(d.den ρ=0 ↔ b=true):=by
  unfold decEq0 at h
  have ne:anyF (neF d) K.fs=true→d.den ρ ≠ 0:=fun h=>by
    obtain ⟨f,hf,h2⟩:=anyF_ok h
    exact neF_ok (H.fs f hf) h2
  have fal:d.den ρ ≠ 0→(d.den ρ=0 ↔ false=true):=fun h=>⟨fun e=>(h e).elim,fun e=>by cases e⟩
  cases h1:leLC K d with
  | true =>
    rw [h1,cond_true] at h
    have a1:=leLC_ok H h1
    cases h2:leLC K d.neg with
    | true =>
      rw [h2,cond_true] at h; cases h
      have a2:=leLC_ok H h2
      rw [LC.neg_den] at a2
      exact ⟨fun _=>rfl,fun _=>by omega⟩
    | false =>
      rw [h2,cond_false] at h
      cases h3:leLC K (d.plus 1) with
      | true =>
        rw [h3,cond_true] at h; cases h
        have a2:=leLC_ok H h3
        rw [LC.plus_den] at a2
        exact fal (by omega)
      | false =>
        rw [h3,cond_false] at h
        obtain ⟨h4,h5⟩:=ak h
        cases h5
        exact fal (ne h4)
  | false =>
    rw [h1,cond_false] at h
    cases h3:leLC K (d.neg.plus 1) with
    | true =>
      rw [h3,cond_true] at h; cases h
      have a2:=leLC_ok H h3
      rw [LC.plus_den,LC.neg_den] at a2
      exact fal (by omega)
    | false =>
      rw [h3,cond_false] at h
      obtain ⟨h4,h5⟩:=ak h
      cases h5
      exact fal (ne h4)
noncomputable def optNot (o:Option Bool):Option Bool :=
  match o with
  | some b=>some (Bool.not b)
  | none=>none
theorem optNot_some {o:Option Bool} {b:Bool} (h:optNot o=some b):o=some (!b):=by
  cases o with
  | none=>cases h
  | some x=>simp only [optNot,Option.some.injEq] at h; subst h; simp
noncomputable def decC (K:Kn) (op:BinOp) (x y:IE):Option Bool :=
  match op with
  | .leq=>decLe K ((cG K x).sub (cG K y))
  | .lss=>decLe K (((cG K x).sub (cG K y)).plus 1)
  | .geq=>decLe K ((cG K y).sub (cG K x))
  | .gtr=>decLe K (((cG K y).sub (cG K x)).plus 1)
  | .eql=>decEq0 K ((cG K x).sub (cG K y))
  | .neq=>optNot (decEq0 K ((cG K x).sub (cG K y)))
  | _=>none
theorem dH {p:Prop} [Decidable p] {b:Bool} (h:p ↔ b=true):decide p=b:=by
  cases b with
  | true=>exact decide_eq_true (h.2 rfl)
  | false=>exact decide_eq_false fun e=>by have:=h.1 e; cases this
theorem decC_ok {ρ:Rho} {K:Kn} (H:KnOk ρ K) {op:BinOp} {x y:IE} {b:Bool} (h:decC K op x y=some b):aS op (x.den ρ) (y.den ρ)=b:=by
  have hx:=dG H x
  have hy:=dG H y
  unfold decC at h
  split at h
  · have:=decLe_ok H h
    rw [LC.sub_den,hx,hy] at this
    exact dH ⟨fun e=>this.1 (by omega),fun e=>by have:=this.2 e; omega⟩
  · have:=decLe_ok H h
    rw [LC.plus_den,LC.sub_den,hx,hy] at this
    exact dH ⟨fun e=>this.1 (by omega),fun e=>by have:=this.2 e; omega⟩
  · have:=decLe_ok H h
    rw [LC.sub_den,hx,hy] at this
    exact dH ⟨fun e=>this.1 (by omega),fun e=>by have:=this.2 e; omega⟩
  · have:=decLe_ok H h
    rw [LC.plus_den,LC.sub_den,hx,hy] at this
    exact dH ⟨fun e=>this.1 (by omega),fun e=>by have:=this.2 e; omega⟩
  · have:=decEq0_ok H h
    rw [LC.sub_den,hx,hy] at this
    have h2:=dH (p:=x.den ρ=y.den ρ) (b:=b) ⟨fun e=>this.1 (by omega),fun e=>by have:=this.2 e; omega⟩
    simp only [aS]
    rw [← h2]
    by_cases e:x.den ρ=y.den ρ <;> simp [e]
  · have h:=optNot_some h
    have:=decEq0_ok H h
    rw [LC.sub_den,hx,hy] at this
    have h2:=dH (p:=x.den ρ=y.den ρ) (b:=!b) ⟨fun e=>this.1 (by omega),fun e=>by have:=this.2 e; omega⟩
    simp only [aS]
    have h3:b=!(decide (x.den ρ=y.den ρ)):=by rw [h2]; simp
    rw [h3]
    by_cases e:x.den ρ=y.den ρ <;> simp [e,bne]
  · cases h
noncomputable def decK (K:Kn):BE→Option Bool
  | .lit b=>some b
  | .not a=>optNot (decK K a)
  | .and a b=>(match decK K a with
    | some false=>some false
    | some true=>decK K b
    | none=>(match decK K b with
      | some false=>some false
      | _=>findA (.and a b) K.bs))
  | .cmp op x y=>decC K op x y
  | .iff a b=>(match decK K a,decK K b with
    | some x,some y=>some (x == y)
    | _,_=>findA (.iff a b) K.bs)
  | .var i=>findA (.var i) K.bs
  | .app f a b c=>findA (.app f a b c) K.bs
theorem ck {ρ:Rho} {K:Kn} (H:KnOk ρ K):∀ (c:BE) (b:Bool),decK K c=some b→c.den ρ=b
  | .lit x,b,h=>by simp only [decK,Option.some.injEq] at h; exact h
  | .var i,b,h=>by simp only [decK] at h; exact findA_ok H.bs h
  | .app f x y z,b,h=>by simp only [decK] at h; exact findA_ok H.bs h
  | .iff x y,b,h=>by
    simp only [decK] at h
    split at h
    · rename_i p q hp hq
      cases h
      simp only [BE.den,ck H x p hp,ck H y q hq]
    · exact findA_ok H.bs h
  | .not a,b,h=>by
    simp only [decK] at h
    have h:=optNot_some h
    simp only [BE.den,ck H a _ h,Bool.not_not]
  | .and a c,b,h=>by
    simp only [decK] at h
    split at h
    · rename_i hx; cases h; simp only [BE.den,ck H a false hx,Bool.false_and]
    · rename_i hx; simp only [BE.den,ck H a true hx,ck H c b h,Bool.true_and]
    · split at h
      · rename_i hy; cases h; simp only [BE.den,ck H c false hy,Bool.and_false]
      · exact findA_ok H.bs h
  | .cmp o x y,b,h=>by simp only [decK] at h; exact decC_ok H h
noncomputable def Kn.fact (K:Kn) (k:Fk) (x:LC):Kn:=⟨K.iv,⟨k,x.l,x.c⟩ :: K.fs,K.bs⟩
noncomputable def Kn.bool (K:Kn) (c:BE) (b:Bool):Kn:=⟨K.iv,K.fs,⟨c,b⟩ :: K.bs⟩
theorem KnOk.fact {ρ:Rho} {K:Kn} (H:KnOk ρ K) {k:Fk} {x:LC} (h:(⟨k,x.l,x.c⟩:Fct).ok ρ):KnOk ρ (K.fact k x) :=
  ⟨H.iv,fun f hf=>(List.mem_cons.1 hf).elim (fun e=>e ▸ h) (fun hf=>H.fs f hf),H.bs⟩
theorem KnOk.bool {ρ:Rho} {K:Kn} (H:KnOk ρ K) {c:BE} {b:Bool} (h:c.den ρ=b):KnOk ρ (K.bool c b) :=
  ⟨H.iv,H.fs,fun a ha=>(List.mem_cons.1 ha).elim (fun e=>by rw [e]; exact h) (fun ha=>H.bs a ha)⟩
noncomputable def addC (K:Kn) (b:Bool) (op:BinOp) (x y:IE):Kn :=
  match op with
  | .leq=>K.fact .le (cond b ((cG K x).sub (cG K y)) (((cG K y).sub (cG K x)).plus 1))
  | .lss=>K.fact .le (cond b (((cG K x).sub (cG K y)).plus 1) ((cG K y).sub (cG K x)))
  | .geq=>K.fact .le (cond b ((cG K y).sub (cG K x)) (((cG K x).sub (cG K y)).plus 1))
  | .gtr=>K.fact .le (cond b (((cG K y).sub (cG K x)).plus 1) ((cG K x).sub (cG K y)))
  | .eql=>K.fact (cond b .eq .ne) ((cG K x).sub (cG K y))
  | .neq=>K.fact (cond b .ne .eq) ((cG K x).sub (cG K y))
  | _=>K
theorem addC_ok {ρ:Rho} {K:Kn} (H:KnOk ρ K) {b:Bool} {op:BinOp} {x y:IE} (h:aS op (x.den ρ) (y.den ρ)=b):KnOk ρ (addC K b op x y):=by
  have hx:=dG H x
  have hy:=dG H y
  have e1:=LC.sub_den (ρ:=ρ) (cG K x) (cG K y)
  have e2:=LC.sub_den (ρ:=ρ) (cG K y) (cG K x)
  have e3:=LC.plus_den (ρ:=ρ) 1 ((cG K x).sub (cG K y))
  have e4:=LC.plus_den (ρ:=ρ) 1 ((cG K y).sub (cG K x))
  rw [hx,hy] at e1 e2
  unfold LC.den at e1 e2 e3 e4
  unfold addC
  split
  · refine H.fact ?_
    simp only [aS] at h
    cases b with
    | true=>have:=of_decide_eq_true h; simp only [Fct.ok,cond_true]; omega
    | false=>have:=of_decide_eq_false h; simp only [Fct.ok,cond_false]; omega
  · refine H.fact ?_
    simp only [aS] at h
    cases b with
    | true=>have:=of_decide_eq_true h; simp only [Fct.ok,cond_true]; omega
    | false=>have:=of_decide_eq_false h; simp only [Fct.ok,cond_false]; omega
  · refine H.fact ?_
    simp only [aS] at h
    cases b with
    | true=>have:=of_decide_eq_true h; simp only [Fct.ok,cond_true]; omega
    | false=>have:=of_decide_eq_false h; simp only [Fct.ok,cond_false]; omega
  · refine H.fact ?_
    simp only [aS] at h
    cases b with
    | true=>have:=of_decide_eq_true h; simp only [Fct.ok,cond_true]; omega
    | false=>have:=of_decide_eq_false h; simp only [Fct.ok,cond_false]; omega
  · refine H.fact ?_
    simp only [aS] at h
    cases b with
    | true => have : x.den ρ = y.den ρ := by simpa using h
              simp only [Fct.ok,cond_true]; omega
    | false => have : x.den ρ ≠ y.den ρ := by simpa using h
               simp only [Fct.ok,cond_false]; omega
  · refine H.fact ?_
    simp only [aS] at h
    cases b with
    | true => have : x.den ρ ≠ y.den ρ := by simpa using h
              simp only [Fct.ok,cond_true]; omega
    | false => have : x.den ρ = y.den ρ := by simpa using h
               simp only [Fct.ok,cond_false]; omega
  · exact H
noncomputable def addK (b:Bool):BE→Kn→Kn
  | .lit _,K=>K
  | .not a,K=>addK (Bool.not b) a K
  | .and x y,K=>cond b (addK b x (addK b y K)) (match decK K x with
    | some true=>addK false y K
    | _=>(match decK K y with
      | some true=>addK false x K
      | _=>K.bool (.and x y) b))
  | .cmp op x y,K=>addC K b op x y
  | c,K=>K.bool c b
theorem di {ρ:Rho}:∀ (c:BE) (b:Bool) (K:Kn),KnOk ρ K→c.den ρ=b→KnOk ρ (addK b c K)
  | .lit _,b,K,H,_=>H
  | .not a,b,K,H,h=>by
    simp only [addK]
    refine di a _ K H ?_
    simp only [BE.den] at h
    rw [← h,Bool.not_not]
  | .and x y,b,K,H,h=>by
    simp only [addK]
    cases b with
    | true =>
      simp only [BE.den,Bool.and_eq_true] at h
      exact di x true _ (di y true K H h.2) h.1
    | false =>
      simp only [cond_false]
      split
      · rename_i hx
        have:=ck H x true hx
        simp only [BE.den,this,Bool.true_and] at h
        exact di y false K H h
      · split
        · rename_i hy
          have:=ck H y true hy
          simp only [BE.den,this,Bool.and_true] at h
          exact di x false K H h
        · exact H.bool h
  | .var i,b,K,H,h=>H.bool h
  | .app f x y z,b,K,H,h=>H.bool h
  | .iff x y,b,K,H,h=>H.bool h
  | .cmp op x y,b,K,H,h=>addC_ok H h
noncomputable def addAllK:List BE→Kn→Kn
  | [],K=>K
  | c :: cs,K=>addK true c (addAllK cs K)
theorem addAllK_ok {ρ:Rho}:∀ (cs:List BE) (K:Kn),KnOk ρ K→(∀ c ∈ cs,c.den ρ=true)→KnOk ρ (addAllK cs K)
  | [],_,H,_=>H
  | c :: cs,K,H,h=>di c true _ (addAllK_ok cs K H fun d hd=>h d (List.mem_cons_of_mem _ hd)) (h c List.mem_cons_self)
noncomputable def ivC:List (Nat × Int × Int)→List BE
  | []=>[]
  | q :: l=>.cmp .leq (.lit q.2.1) (.var q.1) :: .cmp .leq (.var q.1) (.lit q.2.2) :: ivC l
noncomputable def ivT:List (Nat × Int × Int)→PT Iv
  | []=>.nil
  | q :: l=>(ivT l).set q.1 ⟨q.2.1,q.2.2⟩
noncomputable def knOf (q:List (Nat × Int × Int)) (cs:List BE):Kn:=addAllK cs ⟨ivT q,[],[]⟩
theorem ivT_ok {ρ:Rho}:∀ (q:List (Nat × Int × Int)),(∀ c ∈ ivC q,c.den ρ=true)→∀ i v,(ivT q).get i=some v→v.lo≤ρ.iv i∧ρ.iv i≤v.hi
  | [],_,i,v,h=>by rw [ivT,PT.get_nil] at h; cases h
  | q :: l,H,i,v,h=>by
    rw [ivT,PT.get_set] at h
    by_cases c:i=q.1
    · rw [if_pos c] at h; cases h; subst c
      have h1:=H _ List.mem_cons_self
      have h2:=H _ (List.mem_cons_of_mem _ List.mem_cons_self)
      exact ⟨of_decide_eq_true h1,of_decide_eq_true h2⟩
    · rw [if_neg c] at h
      exact ivT_ok l (fun c hc=>H c (List.mem_cons_of_mem _ (List.mem_cons_of_mem _ hc))) i v h
theorem fw {ρ:Rho} {q:List (Nat × Int × Int)} {cs:List BE} (h1:∀ c ∈ ivC q,c.den ρ=true) (h2:∀ c ∈ cs,c.den ρ=true):KnOk ρ (knOf q cs) :=
  addAllK_ok cs _ ⟨ivT_ok q h1,fun _ hf=>(List.not_mem_nil hf).elim,fun _ ha=>(List.not_mem_nil ha).elim⟩ h2
noncomputable def allK {α:Type} (Q:Kn→α→Bool) (t:T α):Kn→Bool :=
  @T.rec α (fun _=>Kn→Bool) (fun a K=>Q K a)
    (fun c _ _ ih1 ih2 K=>match decK K c with
      | some b=>cond b (ih1 K) (ih2 K)
      | none=>and (ih1 (addK true c K)) (ih2 (addK false c K)))
    (fun _ _=>false) t
theorem dY {α:Type} {ρ:Rho} {Q:Kn→α→Bool} {P:α→Prop} (hQ:∀ K a,KnOk ρ K→Q K a=true→P a):∀ (t:T α) (K:Kn),KnOk ρ K→allK Q t K=true→t.Holds ρ P
  | .ret a,K,H,h=>hQ K a H h
  | .fail w,K,H,h=>by cases h
  | .br c x y,K,H,h=>by
    have h:(match decK K c with
      | some b=>cond b (allK Q x K) (allK Q y K)
      | none=>and (allK Q x (addK true c K)) (allK Q y (addK false c K)))=true:=h
    simp only [T.Holds]
    split at h
    · rename_i b hb
      have hc:=ck H c b hb
      cases b with
      | true=>rw [hc,if_pos rfl]; exact dY hQ x K H h
      | false=>rw [hc,if_neg (by simp)]; exact dY hQ y K H h
    · simp only [Bool.and_eq_true] at h
      cases hc:c.den ρ with
      | true=>rw [if_pos rfl]; exact dY hQ x _ (di c true K H hc) h.1
      | false=>rw [if_neg (by simp)]; exact dY hQ y _ (di c false K H hc) h.2
noncomputable def isTrueK (K:Kn) (r:AV × Heap):Bool :=
  match r.1 with
  | .bool b=>(match decK K b with
    | some b=>b
    | none=>false)
  | _=>false
end Go.Sx
namespace Go.Sx
open Go.RowKit
structure CSpec where
  f:Nat
  args:List AV
  view:List (Nat × List AV)
  nv:Nat
  cs:List BE
  u:T AV
noncomputable def sT (n:Nat) (B:Bd) (t:T AV):Option (T AV) :=
  @T.rec AV (fun _=>Option (T AV)) (fun a=>match sV n B a with
    | some x=>some (.ret x)
    | none=>none)
    (fun c _ _ x y=>match sB B c,x,y with
      | some d,some x,some y=>some (.br d x y)
      | _,_,_=>none) (fun w=>some (.fail w)) t
theorem sT_holds {n:Nat} {E ES:Env} {B:Bd} (R:RelD n E ES B) (hfi:ES.ρ.fi=E.ρ.fi) (hfb:ES.ρ.fb=E.ρ.fb) {P:AV→Prop}:∀ (t t':T AV),sT n B t=some t'→t'.Holds E.ρ P→t.Holds ES.ρ fun v=>∃ v',sV n B v=some v'∧P v'
  | .ret a,t',h,k=>by
    have h:(match sV n B a with
      | some x=>some (T.ret x)
      | none=>none)=some t':=h
    split at h
    · rename_i x hx; cases h; exact ⟨x,hx,k⟩
    · cases h
  | .fail w,t',h,k=>by
    have h:some (T.fail w)=some t':=h
    cases h; exact k.elim
  | .br c x y,t',h,k=>by
    have h:(match sB B c,sT n B x,sT n B y with
      | some d,some x,some y=>some (T.br d x y)
      | _,_,_=>none)=some t':=h
    split at h
    · rename_i d x' y' hd hx hy
      cases h
      simp only [T.Holds] at k ⊢
      rw [sB_ok R hfi hfb c d hd] at k
      split at k
      · rename_i hc; rw [if_pos hc]; exact sT_holds R hfi hfb x x' hx k
      · rename_i hc; rw [if_neg hc]; exact sT_holds R hfi hfb y y' hy k
    · cases h
noncomputable def CSpec.vs (c:CSpec):List VS:=c.view.map fun g=>⟨g.1,none,g.2,g.2,g.2,none⟩
noncomputable def CSpec.orc (c:CSpec) (args:List AV) (h:Heap):Option (T (AV × Heap)) :=
  match bdL c.nv c.args args ⟨[],[],[],[]⟩ with
  | none=>none
  | some B0=>(match bdVw c.nv h c.vs B0 with
    | none=>none
    | some B=>(match sBs B c.cs,sT c.nv B c.u with
      | some cs,some u=>some (brAll (u.bind fun v=>.ret (v,h)) cs)
      | _,_=>none))
end Go.Sx
namespace Go.Sx
open Go.RowKit
noncomputable def tagE (x:Ex):Nat :=
  match x with
  | .norm=>0
  | .ret=>1
  | .exit id=>id + 2
noncomputable def optA (v:Option AV):AV :=
  match v with
  | some v=>.tup [v]
  | none=>.tup []
noncomputable def blkA (o:Option AObj):AV :=
  match o with
  | some (.cells cs el own ext)=>.tup [.tup cs,li el,.bool (.lit own),.bool (.lit ext)]
  | _=>.nilptr
noncomputable def dfA (l:List Nat):AV :=
  match l with
  | []=>.nilslice
  | _=>.nilmap
noncomputable def extr (ids bs:List Nat) (r:Ex × St):AV :=
  .tup (li (tagE r.1) :: dfA r.2.df :: (lMap (fun i=>optA (r.2.tm.tree.get i)) ids ++ lMap (fun b=>blkA (r.2.h.get b)) bs))
theorem tagE_inj {x y:Ex} (h:tagE x=tagE y):x=y:=by
  cases x <;> cases y <;> simp only [tagE] at h <;> first | rfl | omega | (congr 1; omega)
theorem optA_some {v:Option AV} {a:AV} (h:optA v=.tup [a]):v=some a:=by
  cases v with
  | none=>simp [optA] at h
  | some b=>simp only [optA,AV.tup.injEq,List.cons.injEq,and_true] at h; rw [h]
theorem dfA_nil {l:List Nat} (h:dfA l=.nilslice):l=[]:=by
  cases l with
  | nil=>rfl
  | cons a l=>simp [dfA] at h
theorem blkA_some {o:Option AObj} {cs:List AV} {el:TypeId} {own ext:Bool} (h:blkA o=.tup [.tup cs,li el,.bool (.lit own),.bool (.lit ext)]):o=some (.cells cs el own ext):=by
  unfold blkA at h
  split at h
  · simp only [AV.tup.injEq,List.cons.injEq,li,AV.int.injEq,IE.lit.injEq,AV.bool.injEq,BE.lit.injEq,and_true,true_and] at h
    obtain ⟨h1,h2,h3,h4⟩:=h
    have h2:=Int.ofNat_inj.1 h2
    rw [h1,h2,h3,h4]
  · cases h
noncomputable def extT (ids bs:List Nat) (t:T (Ex × St)):T AV:=t.bind fun r=>.ret (extr ids bs r)
theorem extT_holds {ρ:Rho} {ids bs:List Nat} {t:T (Ex × St)} {P:AV→Prop} (h:(extT ids bs t).Holds ρ P):t.Holds ρ fun r=>P (extr ids bs r):=T.holds_bind.1 h
end Go.Sx
namespace Go.Sx
open Go.RowKit
def SameE (ρ:Rho) (a b:AV):Prop:=∀ E:Env,E.ρ=ρ→af E a=af E b
def SameEs (ρ:Rho) (a b:List AV):Prop:=∀ E:Env,E.ρ=ρ→ad E a=ad E b
mutual
noncomputable def eqS (K:Kn):AV→AV→Bool
  | .bool a,.bool b=>(match decK K a,decK K b with
    | some x,some y=>x == y
    | _,_=>eqBE a b)
  | .int k a,.int k' b=>and (dv k k') (cond (gX a b) true (match decEq0 K ((cG K a).sub (cG K b)) with
    | some x=>x
    | none=>false))
  | .agg x,.agg y=>eqSs K x y
  | .tup x,.tup y=>eqSs K x y
  | a,b=>eqAV a b
noncomputable def eqSs (K:Kn):List AV→List AV→Bool
  | [],[]=>true
  | a :: l,b :: m=>cond (eqS K a b) (eqSs K l m) false
  | _,_=>false
end
mutual
theorem eqS_ok {ρ:Rho} {K:Kn} (H:KnOk ρ K):∀ (a b:AV),eqS K a b=true→SameE ρ a b:=by
  intro a b h
  unfold eqS at h
  split at h
  · rename_i a b
    split at h
    · rename_i x y hx hy
      have h1:=ck H a x hx
      have h2:=ck H b y hy
      intro E hE
      simp only [af,hE,h1,h2]
      rw [beq_iff_eq.1 h]
    · rw [dr _ _ h]; intro E _; rfl
  · rename_i k a k' b
    simp only [Bool.and_eq_true] at h
    obtain ⟨hk,h⟩:=h
    have hk:=cm hk
    subst hk
    cases he:gX a b with
    | true=>rw [bu _ _ he]; intro E _; rfl
    | false =>
      rw [he,cond_false] at h
      split at h
      · rename_i x hx
        subst h
        have h1:=(decEq0_ok H hx).2 rfl
        rw [LC.sub_den,dG H a,dG H b] at h1
        intro E hE
        simp only [af,hE]
        rw [show a.den ρ=b.den ρ by omega]
      · cases h
  · rename_i x y
    have:=eqSs_ok H x y h
    intro E hE
    simp only [af,this E hE]
  · rename_i x y
    have:=eqSs_ok H x y h
    intro E hE
    simp only [af,this E hE]
  · rw [dZ _ _ h]; intro E _; rfl
theorem eqSs_ok {ρ:Rho} {K:Kn} (H:KnOk ρ K):∀ (a b:List AV),eqSs K a b=true→SameEs ρ a b
  | [],[],_=>fun _ _=>rfl
  | [],_ :: _,h=>by simp [eqSs] at h
  | _ :: _,[],h=>by simp [eqSs] at h
  | a :: l,b :: m,h=>by
    simp only [eqSs] at h
    cases hab:eqS K a b with
    | false=>rw [hab] at h; cases h
    | true =>
      rw [hab,cond_true] at h
      have h1:=eqS_ok H a b hab
      have h2:=eqSs_ok H l m h
      intro E hE
      simp only [ad,h1 E hE,h2 E hE]
end
noncomputable def matchU (a:AV) (u:T AV):Kn→Bool :=
  @T.rec AV (fun _=>Kn→Bool) (fun b K=>and (eqS K a b) (cI b))
    (fun c _ _ ih1 ih2 K=>match decK K c with
      | some b=>cond b (ih1 K) (ih2 K)
      | none=>and (ih1 (addK true c K)) (ih2 (addK false c K)))
    (fun _ _=>true) u
theorem gQ {ρ:Rho} {a:AV} {P:AV→Prop}:∀ (u:T AV) (K:Kn),KnOk ρ K→matchU a u K=true→u.Holds ρ P→∃ b,P b∧cI b=true∧SameE ρ a b
  | .ret b,K,H,h,hu=>by
    have h:and (eqS K a b) (cI b)=true:=h
    simp only [Bool.and_eq_true] at h
    exact ⟨b,hu,h.2,eqS_ok H a b h.1⟩
  | .fail w,K,H,h,hu=>hu.elim
  | .br c x y,K,H,h,hu=>by
    have h:(match decK K c with
      | some b=>cond b (matchU a x K) (matchU a y K)
      | none=>and (matchU a x (addK true c K)) (matchU a y (addK false c K)))=true:=h
    simp only [T.Holds] at hu
    split at h
    · rename_i b hb
      have hc:=ck H c b hb
      cases b with
      | true=>rw [hc,if_pos rfl] at hu; exact gQ x K H h hu
      | false=>rw [hc,if_neg (by simp)] at hu; exact gQ y K H h hu
    · simp only [Bool.and_eq_true] at h
      cases hc:c.den ρ with
      | true=>rw [hc,if_pos rfl] at hu; exact gQ x _ (di c true K H hc) h.1 hu
      | false=>rw [hc,if_neg (by simp)] at hu; exact gQ y _ (di c false K H hc) h.2 hu
noncomputable def deadU (u:T AV):Kn→Bool :=
  @T.rec AV (fun _=>Kn→Bool) (fun _ _=>false)
    (fun c _ _ ih1 ih2 K=>match decK K c with
      | some b=>cond b (ih1 K) (ih2 K)
      | none=>and (ih1 (addK true c K)) (ih2 (addK false c K)))
    (fun _ _=>true) u
theorem deadU_ok {ρ:Rho} {P:AV→Prop}:∀ (u:T AV) (K:Kn),KnOk ρ K→deadU u K=true→u.Holds ρ P→False
  | .ret b,K,H,h,hu=>by cases h
  | .fail w,K,H,h,hu=>hu
  | .br c x y,K,H,h,hu=>by
    have h:(match decK K c with
      | some b=>cond b (deadU x K) (deadU y K)
      | none=>and (deadU x (addK true c K)) (deadU y (addK false c K)))=true:=h
    simp only [T.Holds] at hu
    split at h
    · rename_i b hb
      have hc:=ck H c b hb
      cases b with
      | true=>rw [hc,if_pos rfl] at hu; exact deadU_ok x K H h hu
      | false=>rw [hc,if_neg (by simp)] at hu; exact deadU_ok y K H h hu
    · simp only [Bool.and_eq_true] at h
      cases hc:c.den ρ with
      | true=>rw [hc,if_pos rfl] at hu; exact deadU_ok x _ (di c true K H hc) h.1 hu
      | false=>rw [hc,if_neg (by simp)] at hu; exact deadU_ok y _ (di c false K H hc) h.2 hu
abbrev Rules:=List (List BE × BE)
def RulesOk (ρ:Rho) (R:Rules):Prop:=∀ r ∈ R,(∀ p ∈ r.1,p.den ρ=true)→r.2.den ρ=true
noncomputable def allT (K:Kn) (l:List BE):Bool:=bz (fun c=>match decK K c with
  | some b=>b
  | none=>false) l
noncomputable def fires (R:Rules) (K:Kn) (c:BE):Bool :=
  @List.rec (List BE × BE) (fun _=>Bool) false (fun r _ ih=>cond (eqBE r.2 c) (cond (allT K r.1) true ih) ih) R
theorem fires_ok {ρ:Rho} {K:Kn} (H:KnOk ρ K) {c:BE}:∀ {R:Rules},RulesOk ρ R→fires R K c=true→c.den ρ=true
  | [],_,h=>by cases h
  | r :: R,HR,h=>by
    have h:cond (eqBE r.2 c) (cond (allT K r.1) true (fires R K c)) (fires R K c)=true:=h
    have ih:=fires_ok H (R:=R) (fun r hr=>HR r (List.mem_cons_of_mem _ hr)) (c:=c)
    cases he:eqBE r.2 c with
    | false=>rw [he] at h; exact ih h
    | true =>
      rw [he,cond_true] at h
      cases ha:allT K r.1 with
      | false=>rw [ha] at h; exact ih h
      | true =>
        rw [← dr _ _ he]
        refine HR r List.mem_cons_self fun p hp=>?_
        have:=lAll_mem' ha p hp
        split at this
        · rename_i b hb; subst this; exact ck H p _ hb
        · cases this
noncomputable def decW (R:Rules) (K:Kn) (c:BE):Option Bool :=
  match decK K c with
  | some b=>some b
  | none=>cond (fires R K c) (some true) none
theorem decW_ok {ρ:Rho} {R:Rules} {K:Kn} (HR:RulesOk ρ R) (H:KnOk ρ K) {c:BE} {b:Bool} (h:decW R K c=some b):c.den ρ=b:=by
  unfold decW at h
  split at h
  · rename_i x hx; cases h; exact ck H c _ hx
  · obtain ⟨h1,h2⟩:=ak h
    cases h2
    exact fires_ok H HR h1
noncomputable def servesW (R:Rules) (u t:T AV):Kn→Bool :=
  @T.rec AV (fun _=>Kn→Bool) (fun a K=>matchU a u K)
    (fun c _ _ ih1 ih2 K=>match decW R K c with
      | some b=>cond b (ih1 K) (ih2 K)
      | none=>and (ih1 (addK true c K)) (ih2 (addK false c K)))
    (fun _ K=>deadU u K) t
theorem fF {ρ:Rho} {R:Rules} (HR:RulesOk ρ R) {P:AV→Prop} {u:T AV} (hu:u.Holds ρ P):∀ (t:T AV) (K:Kn),KnOk ρ K→servesW R u t K=true→t.Holds ρ fun a=>∃ b,P b∧cI b=true∧SameE ρ a b
  | .ret a,K,H,h=>gQ u K H h hu
  | .fail w,K,H,h=>(deadU_ok u K H h hu).elim
  | .br c x y,K,H,h=>by
    have h:(match decW R K c with
      | some b=>cond b (servesW R u x K) (servesW R u y K)
      | none=>and (servesW R u x (addK true c K)) (servesW R u y (addK false c K)))=true:=h
    simp only [T.Holds]
    split at h
    · rename_i b hb
      have hc:=decW_ok HR H hb
      cases b with
      | true=>rw [hc,if_pos rfl]; exact fF HR hu x K H h
      | false=>rw [hc,if_neg (by simp)]; exact fF HR hu y K H h
    · simp only [Bool.and_eq_true] at h
      cases hc:c.den ρ with
      | true=>rw [if_pos rfl]; exact fF HR hu x _ (di c true K H hc) h.1
      | false=>rw [if_neg (by simp)]; exact fF HR hu y _ (di c false K H hc) h.2
noncomputable def CSpec.chkK (c:CSpec) (R:Rules) (q:List (Nat × Int × Int)) (cs:List BE) (run:T (AV × Heap)):Bool :=
  servesW R c.u (run.bind fun r=>.ret r.1) (knOf q cs)
theorem CSpec.okS {p0 p : Par} {c : CSpec} {run : T (AV × Heap)} (hc : CallOk p0 c.f c.args (bj c.nv c.view) run)
    (hS:∀ ρ,(∀ d ∈ c.cs,d.den ρ=true)→∀ P:AV→Prop,c.u.Holds ρ P→(run.bind fun r=>.ret r.1).Holds ρ fun a=>∃ b,P b∧cI b=true∧SameE ρ a b) (hnv:1000≤c.nv) {args:List AV} {h:Heap} {t:T (AV × Heap)} (ho:c.orc args h=some t) (hP:p0.P=p.P:=by rfl) (hfree:∀ ρ m,p0.ok ρ m:=by exact fun _ _=>trivial):CallOk p c.f args h t:=by
  unfold CSpec.orc at ho
  split at ho
  · cases ho
  · rename_i B0 h0
    split at ho
    · cases ho
    · rename_i B hB
      split at ho
      · rename_i cs u hcs hu
        cases ho
        intro vs E w0 w Q K k HH ha P
        obtain ⟨hdom,hret⟩:=gq k
        rw [T.holds_bind] at hret
        obtain ⟨a1,a2,a3⟩:=bdL_ok _ _ _ _ h0
        obtain ⟨c1,c2,c3⟩:=bdVw_ok _ _ _ hB
        have G0:gp E B0:=a2 E vs ha (fun j v h=>by cases h)
        have G:gp E B:=c2 HH G0
        have R:RelD c.nv E (envD c.nv E B) B:=envD_rel HH.glob G
        have hargs:ad (envD c.nv E B) c.args=some vs:=a3 E (envD c.nv E B) vs (R.sub c1) ha
        have hdom':∀ d ∈ c.cs,d.den (rhoD E B)=true:=fun d hd=>by
          obtain ⟨d',h1,h2⟩:=sBs_ok _ _ hcs d hd
          have:=sB_ok R rfl rfl d d' h2
          rw [hdom d' h1] at this
          exact this.symm
        have hV:=c3 R rfl rfl HH
        have hview:∀ g ∈ c.view,ViewIn w (envD c.nv E B) g:=fun g hg=>by
          have hm:(⟨g.1,none,g.2,g.2,g.2,none⟩:VS) ∈ c.vs:=List.mem_map.2 ⟨g,hg,rfl⟩
          obtain ⟨c',base,vs',cells,el,fz,k1,k2,k3,k4,k5⟩:=(hV _ hm).obj
          exact ⟨c',base,vs',cells,el,fz,k1,k2,k3,k4⟩
        have HS:HeapOk p0 (envD c.nv E B) (bj c.nv c.view) (Base.of w) w:=view_ok hview
          (fun b hb=>by simp only [envD,sigD]; rw [if_neg (by omega),if_neg (by omega)]) (fun b hb=>by simp only [envD,sigD,if_pos hb]) (Nat.le_refl _) (Par.okB_all hfree _ _)
        have hu':=sT_holds R rfl rfl c.u u hu hret
        have hrun:=hS _ hdom' _ hu'
        rw [T.holds_bind] at hrun
        obtain ⟨r1,r2⟩:=hc vs (envD c.nv E B) (Base.of w) w (fun r=>∃ b,(∃ v',sV c.nv B b=some v'∧(T.ret (v',h)).Holds E.ρ Q)∧cI b=true∧SameE (rhoD E B) r.1 b)
          (fun cv w'=>∃ b v',cI b=true∧sV c.nv B b=some v'∧Q (v',h)∧af (envD c.nv E B) b=some cv∧Below w.heap.size w w') hrun HS hargs
          (fun v h' E' w' cv hq hle HH' hv=>by
            obtain ⟨b,⟨v',hs,hQ⟩,hp,hsame⟩:=hq
            refine ⟨b,v',hp,hs,hQ,?_,Base.keeps_below HH'.below⟩
            rw [← hv,hsame E' hle.ρ]
            exact (conc_pure hle.ρ b hp).symm)
        rw [hP] at r1 r2
        refine ⟨r1,r2.mono ?_⟩
        rintro e w' ⟨cv,rfl,b,v',hp,hs,hQ,hv,hb⟩
        exact ⟨cv,rfl,P v' h E w' cv hQ (Env.le.refl E) (HH.world hb) (by rw [sV_ok R rfl rfl b v' hs]; exact hv)⟩
      · cases ho
theorem CSpec.okR {p0 p : Par} {c : CSpec} {run : T (AV × Heap)} (hc : CallOk p0 c.f c.args (bj c.nv c.view) run)
    (hK:∀ ρ,(∀ d ∈ c.cs,d.den ρ=true)→∃ R K,RulesOk ρ R∧KnOk ρ K∧servesW R c.u (run.bind fun r=>.ret r.1) K=true) (hnv:1000≤c.nv) {args:List AV} {h:Heap} {t:T (AV × Heap)} (ho:c.orc args h=some t) (hP:p0.P=p.P:=by rfl) (hfree:∀ ρ m,p0.ok ρ m:=by exact fun _ _=>trivial):CallOk p c.f args h t :=
  CSpec.okS hc (fun ρ hd P hP=>by
    obtain ⟨R,K,hR,hKn,hchk⟩:=hK ρ hd
    exact fF hR hP _ _ hKn hchk) hnv ho hP hfree
theorem CSpec.okK {p0 p:Par} {c:CSpec} {R:Rules} {q:List (Nat × Int × Int)} {cs0:List BE} (hcs0:c.cs=ivC q ++ cs0) {run:T (AV × Heap)} (hc:CallOk p0 c.f c.args (bj c.nv c.view) run) (hchk:c.chkK R q cs0 run=true) (hR:∀ ρ,(∀ d ∈ ivC q ++ cs0,d.den ρ=true)→RulesOk ρ R) (hnv:1000≤c.nv) {args:List AV} {h:Heap} {t:T (AV × Heap)} (ho:c.orc args h=some t) (hP:p0.P=p.P:=by rfl) (hfree:∀ ρ m,p0.ok ρ m:=by exact fun _ _=>trivial):CallOk p c.f args h t :=
  CSpec.okR hc (fun ρ hd=>by
    rw [hcs0] at hd
    exact ⟨R,knOf q cs0,hR ρ hd,fw (fun d h=>hd d (List.mem_append_left _ h)) (fun d h=>hd d (List.mem_append_right _ h)),hchk⟩) hnv ho hP hfree
theorem rules_nil (ρ:Rho):RulesOk ρ []:=fun _ h=>(List.not_mem_nil h).elim
end Go.Sx
namespace Go.Sx
open Go.RowKit
def T.leaf {α:Type} (ρ:Rho):T α→Option α
  | .ret a=>some a
  | .br c x y=>if c.den ρ then x.leaf ρ else y.leaf ρ
  | .fail _=>none
theorem T.leaf_holds {α:Type} {ρ:Rho} {b:α}:∀ (t:T α),t.leaf ρ=some b→t.Holds ρ fun a=>a=b
  | .ret a,h=>by simp only [T.leaf,Option.some.injEq] at h; exact h
  | .br c x y,h=>by
    simp only [T.leaf] at h
    simp only [T.Holds]
    split at h
    · rename_i hc; rw [if_pos hc]; exact T.leaf_holds x h
    · rename_i hc; rw [if_neg hc]; exact T.leaf_holds y h
  | .fail w,h=>by simp [T.leaf] at h
theorem HeapOk.re {P:Program} {RC:Nat→Nat→List Nat→Code→Code→Prop} {ok ok':Rho→(Nat→Obj→Prop)→Prop} {E:Env} {h:Heap} {w0:Base} {w:World} (H:HeapOk ⟨P,RC,ok⟩ E h w0 w) (hok:Par.okB ⟨P,RC,ok'⟩ E.ρ w0):HeapOk ⟨P,RC,ok'⟩ E h w0 w :=
  ⟨fun b o e=>by have:=H.obj b o e; cases o <;> exact this,H.inj,H.base,H.ro,H.fresh,H.lt,H.glob,H.below,H.nx,hok⟩
theorem CallOk.lift {P:Program} {RC:Nat→Nat→List Nat→Code→Code→Prop} {ok:Rho→(Nat→Obj→Prop)→Prop} {f:FuncId} {args:List AV} {h:Heap} {t:T (AV × Heap)} (H:CallOk ⟨P,RC,fun _ _=>True⟩ f args h t):CallOk ⟨P,RC,ok⟩ f args h t:=by
  intro vs E w0 w Q K k HH ha P'
  exact H vs E w0 w Q K k (HH.re (Par.okB_all (fun _ _=>trivial) _ _)) ha fun v h' E' w' cv q hle HH' hv=>P' v h' E' w' cv q hle (HH'.re (by rw [hle.ρ]; exact HH.ok)) hv
end Go.Sx
namespace Go.Sx
open Go.RowKit
theorem T.holds_leaf {α:Type} {ρ:Rho} {P:α→Prop}:∀ t:T α,t.Holds ρ P→∃ b,t.leaf ρ=some b∧P b
  | .ret a,h=>⟨a,rfl,h⟩
  | .fail w,h=>absurd h id
  | .br c x y,h=>by
    simp only [T.Holds] at h
    simp only [T.leaf]
    split at h
    · rename_i hc; rw [if_pos hc]; exact T.holds_leaf x h
    · rename_i hc; rw [if_neg hc]; exact T.holds_leaf y h
end Go.Sx
namespace Go.Sx
open Go.RowKit
def SameO (ρ:Rho) (o:AObj) (q:NB):Prop :=
  match q with
  | .cells cs el ext=>∃ cs' more,o=.cells (cs' ++ more) el true ext∧SameEs ρ cs' cs∧(more=[] ∨ ext=true)
  | .map es k=>o=.map es k
theorem SameO.own {ρ:Rho} {o:AObj} {q:NB} (h:SameO ρ o q):bN o=true:=by
  cases q with
  | cells cs el ext=>obtain ⟨cs',more,rfl,_⟩:=h; rfl
  | map es k=>have h:o=.map es k:=h; subst h; rfl
theorem concL_split {E:Env}:∀ {l m:List AV} {vs:List Value},ad E (l ++ m)=some vs→∃ us ws,ad E l=some us∧ad E m=some ws∧vs=us ++ ws
  | [],m,vs,h=>⟨[],vs,rfl,h,rfl⟩
  | a :: l,m,vs,h=>by
    obtain ⟨x,r,h1,h2,rfl⟩:=ap.1 h
    obtain ⟨us,ws,k1,k2,rfl⟩:=concL_split h2
    exact ⟨x :: us,ws,ap.2 ⟨x,us,h1,k1,rfl⟩,k2,rfl⟩
theorem SameO.obj {p:Par} {E:Env} {b:Nat} {o:AObj} {q:NB} {heap:Array Obj} (h:SameO E.ρ o q) (H:objOk p E b o heap):objOk p E b q.raw heap:=by
  cases q with
  | cells cs el ext =>
    obtain ⟨cs',more,rfl,hs,hm⟩:=h
    obtain ⟨c,base,vs,cells,el',fz,k1,k2,k3,k4,k5⟩:=H
    obtain ⟨us,ws,u1,u2,rfl⟩:=concL_split k2
    refine ⟨c,base,us,cells,el',fz,k1,by rw [← hs E rfl]; exact u1,k3,fun i hi=>?_,fun ho=>?_⟩
    · rw [k4 i (by rw [List.length_append]; omega),List.getElem?_append_left hi]
    · obtain ⟨a1,a2,a3,a4⟩:=k5 ho
      refine ⟨a1,a2,fun he=>?_,a4⟩
      rcases hm with rfl | hm
      · have:ws=[]:=by simpa [ad] using u2
        subst this
        rw [a3 he]; simp
      · rw [hm] at he; cases he
  | map es k=>have h:o=.map es k:=h; subst h; exact H
noncomputable def putN:List (Nat × NB)→Heap→Heap
  | [],h=>h
  | q :: l,h=>(putN l h).put q.1 q.2.raw
theorem putN_get:∀ (l:List (Nat × NB)) (h:Heap) (n:Nat),rises n l=true→∀ q ∈ l,(putN l h).get q.1=some q.2.raw
  | [],_,_,_,q,hq=>(List.not_mem_nil hq).elim
  | p :: l,h,n,hr,q,hq=>by
    have hr0:=hr
    simp only [rises] at hr
    obtain ⟨h1,h2⟩:Nat.ble n p.1=true∧rises (Nat.succ p.1) l=true:=by
      cases h1:Nat.ble n p.1 with
      | false=>rw [h1] at hr; cases hr
      | true=>rw [h1] at hr; exact ⟨rfl,hr⟩
    simp only [putN]
    rw [Heap.get_put]
    rcases List.mem_cons.1 hq with rfl | hq
    · rw [if_pos rfl]
    · have:=rises_ge l _ h2 q hq
      rw [if_neg (by omega)]
      exact putN_get l h _ h2 q hq
theorem putN_next:∀ (l:List (Nat × NB)) (h:Heap),(putN l h).next=h.next
  | [],_=>rfl
  | _ :: l,h=>by simp only [putN]; rw [Heap.next_put]; exact putN_next l h
theorem putN_ok {p:Par} {E:Env} {w0:Base} {w:World}:∀ (l:List (Nat × NB)) (h:Heap),HeapOk p E h w0 w→(∀ q ∈ l,∃ o,h.get q.1=some o∧SameO E.ρ o q.2)→HeapOk p E (putN l h) w0 w∧∀ j o,(putN l h).get j=some o→∃ o0,h.get j=some o0∧(bN o0=bN o)∧(roO o0=roO o)
  | [],h,H,_=>⟨H,fun j o e=>⟨o,e,rfl,rfl⟩⟩
  | q :: l,h,H,hs=>by
    obtain ⟨H1,g1⟩:=putN_ok l h H fun q' hq'=>hs q' (List.mem_cons_of_mem _ hq')
    obtain ⟨o,ho,hso⟩:=hs q List.mem_cons_self
    have hob:=hso.obj (H.obj _ _ ho)
    have hown:bN q.2.raw=true:=q.2.raw_own
    have hro:∀ x:AObj,bN x=true→roO x=false:=fun x hx=>by cases x <;> simp_all [bN,roO]
    have back:∀ j x,((putN l h).put q.1 q.2.raw).get j=some x→∃ o0,h.get j=some o0∧(bN o0=bN x)∧(roO o0=roO x):=fun j x e=>by
      rw [Heap.get_put] at e
      split at e
      · rename_i hj; subst hj; cases e
        exact ⟨o,ho,by rw [hso.own,hown],by rw [hro _ hso.own,hro _ hown]⟩
      · exact g1 j x e
    refine ⟨⟨fun b x e=>?_,fun b b' x x' c y z e e' w1 w2 s1 s2=>?_,fun b x c y e w1 s=>?_,fun b x c y e r1 s=>?_,fun b hb=>H.fresh b (by rw [putN_next] at hb; exact hb),fun b x c y e s=>?_,H.glob,H.below,(by rw [putN_next]; exact H.nx),H.ok⟩,back⟩
    · have e0:=e
      simp only [putN] at e
      rw [Heap.get_put] at e
      split at e
      · rename_i hj; subst hj; cases e; exact hob
      · exact H1.obj b x e
    · obtain ⟨o1,a1,a2,_⟩:=back _ _ e
      obtain ⟨o2,b1,b2,_⟩:=back _ _ e'
      exact H.inj _ _ _ _ _ _ _ a1 b1 (a2.trans w1) (b2.trans w2) s1 s2
    · obtain ⟨o1,a1,a2,_⟩:=back _ _ e
      exact H.base _ _ _ _ a1 (a2.trans w1) s
    · obtain ⟨o1,a1,_,a3⟩:=back _ _ e
      exact H.ro _ _ _ _ a1 (a3.trans r1) s
    · obtain ⟨o1,a1,_,_⟩:=back _ _ e
      exact H.lt _ _ _ _ a1 s
theorem meetN {p : Par} {ty : Nat → Option TI} {tb : hI} (B : b8 p ty tb) {d : Nat} {f : FuncId} {args0 : List AV} {n : Nat} {view : List (Nat × VO)} (hst : and (Nat.ble 1000 n) (and (viewUp 0 view) (dS n view [])) = true) {args : List AV} {h : Heap} {cs : List BE} {rr : AV × Heap}
    (hsem:∀ ρ b,p.okB ρ b→(∀ c ∈ cs,c.den ρ=true)→∃ res news r1,rises n news=true∧(Ent.mk f args0 n view res news []).meet args h=some (.ret rr)∧(b7 tb d false f args0 (fI n view)).leaf ρ=some r1∧SameE ρ r1.1 res ∧
      ∀ q ∈ news,∃ o,r1.2.get q.1=some o∧SameO ρ o q.2):CallOk p f args h (brAll (.ret rr) cs):=by
  intro vs E w0 w Q K k0 HH ha P
  obtain ⟨hcs,k⟩:=gq k0
  obtain ⟨res,news,⟨v1,h1⟩,k3,hm,hleaf,hsame,hnews⟩:=hsem E.ρ _ HH.ok hcs
  let e:Ent:=Ent.mk f args0 n view res news []
  have hm:e.meet args h=some (.ret rr):=hm
  simp only [Bool.and_eq_true] at hst
  obtain ⟨k4,k6,k7⟩:=hst
  unfold Ent.meet at hm
  split at hm
  · rename_i r0 h0
    split at hm
    · rename_i r hr
      obtain ⟨hinj,hm⟩:=ak hm
      split at hm
      · rename_i v hv
        split at hm
        · rename_i h2 hn
          split at hm
          · rename_i h3 hp
            cases hm
            obtain ⟨s0,m0⟩:=mtL_ok _ _ _ _ h0
            obtain ⟨s1,m1⟩:=mtView_ok _ _ _ hr
            have R:Rel e.n E (eV e.n E r) r:=envR_rel HH.glob
            · -- (what the run ends with)
              have hn1:1000≤e.n:=aD.1 k4
              obtain ⟨o1,o2⟩:=outsOk_own _ _ k7
              have hargs:ad (eV e.n E r) e.args=some vs:=by rw [m0 E _ (R.sub s1)]; exact ha
              have hview:=m1 R HH
              have h1000:∀ b,b < 1000→(eV e.n E r).σ b=some (b,0):=fun b hb=>by simp only [eV,if_pos hb]
              have res1000:∀ b c,1000≤b→(cond (Nat.ble (Nat.succ b) 1000) (some b) (cond (Nat.ble (Nat.succ b) e.n) (aA r b) none))=some c→aA r b=some c:=fun b c hb hc=>by
                have k1:Nat.ble (Nat.succ b) 1000=false:=by
                  cases hk:Nat.ble (Nat.succ b) 1000 with
                  | false=>rfl
                  | true=>have:=aD.1 hk; omega
                rw [k1,cond_false] at hc
                exact (ak hc).2
              have outR:∀ q ∈ e.outs,1000≤q.1∧q.1 < e.n∧∃ g ∈ e.view,g.1=q.1∧g.2.isOwn=true∧∃ j o,aA r q.1=some j∧h.get j=some o∧bN o=true∧(eV e.n E r).σ q.1=E.σ j:=fun q hq=>by
                obtain ⟨b1,b2,g,b3,b4,b5⟩:=o2 q hq
                obtain ⟨b,o,c1,c2,c3,c4,c5⟩:=(hview g b3).at_
                rw [b4] at c1 c3
                exact ⟨b1,b2,g,b3,b4,b5,b,o,res1000 _ _ b1 c1,c2,c4 b5,c3⟩
              have inj:e.outs ≠ []→injR r=true:=fun hne=>absurd rfl hne
              let b1:Base:=⟨w,fun c=>c < w.heap.size∧∀ q ∈ e.outs,∀ x,(eV e.n E r).σ q.1 ≠ some (c,x),fun c hc=>hc.1⟩
              have hvo:HeapOk p (eV e.n E r) (fI e.n e.view) b1 w:=by
                have obj:∀ b o,(fI e.n e.view).get b=some o→objOk p (eV e.n E r) b o w.heap:=fun b o ho=>by
                  obtain ⟨g,hg,rfl,rfl⟩:=cg _ _ _ _ ho
                  exact (hview g hg).obj
                have lt:∀ b o c x,(fI e.n e.view).get b=some o→(eV e.n E r).σ b=some (c,x)→c < w.heap.size:=fun b o c x ho hs=>by
                  obtain ⟨g,hg,rfl,rfl⟩:=cg _ _ _ _ ho
                  obtain ⟨b',o',c1,c2,c3,c4,c5⟩:=(hview g hg).at_
                  rw [c3] at hs
                  exact HH.lt _ _ _ _ c2 hs
                have own:∀ b o,(fI e.n e.view).get b=some o→bN o=true→∃ q ∈ e.outs,q.1=b:=fun b o ho hw=>by
                  obtain ⟨g,hg,rfl,rfl⟩:=cg _ _ _ _ ho
                  rw [VO.own_obj] at hw
                  exact o1 g hg hw
                have same:∀ q ∈ e.outs,∀ b o c x y,(fI e.n e.view).get b=some o→(eV e.n E r).σ b=some (c,x)→(eV e.n E r).σ q.1=some (c,y)→b=q.1:=by
                  intro q hq b o c x y ho hs hs'
                  have hi:=injR_ok (inj (fun h0=>by rw [h0] at hq; cases hq))
                  obtain ⟨d1,d2,g',d3,d4,d5,j,o',d6,d7,d8,d9⟩:=outR q hq
                  obtain ⟨g,hg,rfl,rfl⟩:=cg _ _ _ _ ho
                  obtain ⟨b',o2,c1,c2,c3,c4,c5⟩:=(hview g hg).at_
                  rw [c3] at hs
                  rw [d9] at hs'
                  have hj:b'=j:=by
                    rcases c5 with c5 | c5
                    · exact HH.inj _ _ _ _ _ _ _ c2 d7 c5 d8 hs hs'
                    · exact absurd (HH.ro _ _ _ _ c2 c5 hs) (HH.base _ _ _ _ d7 d8 hs')
                  subst hj
                  rcases Nat.lt_or_ge g.1 1000 with hlt | hge
                  · have : g.1 = b' := by
                      have k1:Nat.ble (Nat.succ g.1) 1000=true:=aD.2 hlt
                      rw [k1,cond_true] at c1; exact Option.some.inj c1
                    have:=(hi.1 _ _ d6).1
                    omega
                  · exact hi.2 _ _ _ (res1000 _ _ hge c1) d6
                refine ⟨obj,fun b b' o o' c x y g1 g2 w1 w2 s1 s2=>?_,fun b o c x ho hw hs hc=>?_,fun b o c y ho hr hs=>?_,fun b hb=>?_,lt,h1000,Kept.refl _ _,(by rw [fH]; exact Nat.le_refl _),HH.ok.mono fun c o e'=>⟨⟨HH.below.lt e'.1,fun q hq x hx=>?_⟩,Base.Keeps.has HH.below e'⟩⟩
                · obtain ⟨q,hq,e1⟩:=own _ _ g2 w2
                  rw [← e1] at s2
                  rw [← e1]
                  exact same q hq _ _ _ _ _ g1 s1 s2
                · obtain ⟨q,hq,e1⟩:=own _ _ ho hw
                  rw [← e1] at hs
                  exact hc.2 q hq x hs
                · refine ⟨lt _ _ _ _ ho hs,fun q hq x hx=>?_⟩
                  have hb:=same q hq _ _ _ _ _ ho hs hx
                  obtain ⟨d1,d2,g',d3,d4,d5,_⟩:=outR q hq
                  obtain ⟨g,hg,e1,rfl⟩:=cg _ _ _ _ ho
                  have:=viewUp_inj _ _ k6 g hg g' d3 (by rw [e1,hb,d4])
                  subst this
                  rw [VO.ro_obj,d5] at hr; cases hr
                · rw [fH] at hb
                  simp only [eV]; rw [if_neg (by omega),if_neg (by omega)]
                · obtain ⟨d1,d2,g',d3,d4,d5,j,o',d6,d7,d8,d9⟩:=outR q hq
                  rw [d9] at hx
                  exact HH.base _ _ _ _ d7 d8 hx e'.1
              have key:=bL B d e.f e.args (fI e.n e.view) vs (eV e.n E r) b1 w (fun r=>r=(v1,h1)) (fun cv w'=>∃ E1,(eV e.n E r).le E1∧HeapOk p E1 h1 b1 w'∧af E1 v1=some cv)
                (T.leaf_holds _ hleaf) hvo hargs ?_
              · refine ⟨key.1,key.2.mono ?_⟩
                rintro ex w' ⟨cv,rfl,E1,hle,H1,hcv⟩
                have hρ:E1.ρ=E.ρ:=hle.ρ
                obtain ⟨H2,_⟩:=putN_ok e.news h1 H1 (fun q hq=>by
                  obtain ⟨o,o1,o2⟩:=hnews q hq
                  exact ⟨o,o1,by rw [hρ]; exact o2⟩)
                obtain ⟨z1,z2,z3⟩:=HH.merge (outs:=e.outs) H2 rfl (fun c=>Iff.rfl) hle k3 (fun q hq=>putN_get _ _ _ k3 q hq)
                  (fun q hq=>(List.not_mem_nil hq).elim) hn hp
                have hcv:af E1 e.res=some cv:=by rw [← hsame E1 hρ]; exact hcv
                exact ⟨cv,rfl,P v h3 _ w' cv k z1 z3 (rnV_ok z2 _ _ _ hv hcv)⟩
              · intro v' h' E' w' cv q hle HH' hv'
                cases q
                exact ⟨E',hle,HH',hv'⟩
          · cases hm
        · cases hm
      · cases hm
    · cases hm
  · cases hm
end Go.Sx
namespace Go.Sx
open Go.RowKit
def ptAll (p:AV→Bool):PT AV→Bool
  | .nil=>true
  | .node none l r=>and (ptAll p l) (ptAll p r)
  | .node (some a) l r=>and (p a) (and (ptAll p l) (ptAll p r))
theorem ptAll_get {p:AV→Bool}:∀ (t:PT AV) (i:Nat) (a:AV),ptAll p t=true→t.get i=some a→p a=true
  | .nil,i,a,_,h=>by rw [PT.get_nil] at h; cases h
  | .node v l r,i,a,hp,h=>by
    have step:(PT.node v l r).get i=cond (Nat.beq i 0) v (cond (Nat.beq (Nat.mod i 2) 1) (l.get (Nat.div (Nat.pred i) 2)) (r.get (Nat.div (Nat.pred i) 2))):=rfl
    rw [step] at h
    have hl:ptAll p l=true:=by cases v <;> simp only [ptAll,Bool.and_eq_true] at hp <;> first | exact hp.1 | exact hp.2.1
    have hr:ptAll p r=true:=by cases v <;> simp only [ptAll,Bool.and_eq_true] at hp <;> first | exact hp.2 | exact hp.2.2
    cases h0:Nat.beq i 0 with
    | true =>
      rw [h0,cond_true] at h
      subst h
      simp only [ptAll,Bool.and_eq_true] at hp
      exact hp.1
    | false =>
      rw [h0,cond_false] at h
      cases h1:Nat.beq (Nat.mod i 2) 1 with
      | true=>rw [h1,cond_true] at h; exact ptAll_get l _ a hl h
      | false=>rw [h1,cond_false] at h; exact ptAll_get r _ a hr h
def idsE (n:Nat):List (AV × AV × Nat)→Bool
  | []=>true
  | e :: es=>and (cP n e.1) (and (cP n e.2.1) (idsE n es))
def idsO (n:Nat):AObj→Bool
  | .cells cs _ _ _=>aW n cs
  | .map es _=>idsE n es
  | .rmap es _=>idsE n es
  | .umap _=>true
  | .ucells _ _=>true
  | .loop _ _ _ tm _ _ d=>and (ptAll (cP n) tm) (Nat.ble (d + 1) n)
  | .defd _=>true
  | .resv=>false
  | .dead=>true
theorem concE_ids {n:Nat} {E E':Env} (hρ:E'.ρ=E.ρ) (hσ:∀ b,b < n→E'.σ b=E.σ b∧(E.σ b ≠ none→E'.κ b=E.κ b)):∀ (es:List (AV × AV × Nat)) (ms:List MapEntry),idsE n es=true→bG E es ms→bG E' es ms
  | [],[],_,_=>trivial
  | [],_ :: _,_,h=>h.elim
  | _ :: _,[],_,h=>h.elim
  | e :: es,m :: ms,hi,⟨h1,h2,h3,h4⟩=>by
    simp only [idsE,Bool.and_eq_true] at hi
    exact ⟨by rw [gm hρ hσ _ hi.1]; exact h1,by rw [gm hρ hσ _ hi.2.1]; exact h2,h3,concE_ids hρ hσ es ms hi.2.2 h4⟩
theorem objOk.ids {p : Par} {n : Nat} {E E' : Env} (hρ : E'.ρ = E.ρ) (hσ : ∀ b, b < n → E'.σ b = E.σ b ∧ (E.σ b ≠ none → E'.κ b = E.κ b)) {b b' : Nat} {o : AObj} {heap : Array Obj} (hi : idsO n o = true)
    (hb:∀ q,E.σ b=some q→E'.σ b'=some q∧E'.κ b'=E.κ b) (h:objOk p E b o heap):objOk p E' b' o heap:=by
  cases o with
  | cells cs el own ext =>
    obtain ⟨c,base,vs,cells,el',fz,k1,k2,k3,k4,k5⟩:=h
    exact ⟨c,base,vs,cells,el',fz,(hb _ k1).1,by rw [cH hρ hσ cs hi]; exact k2,k3,k4,by rw [(hb _ k1).2]; exact k5⟩
  | map es k =>
    obtain ⟨c,ms,k1,k2,k3⟩:=h
    exact ⟨c,ms,(hb _ k1).1,concE_ids hρ hσ _ _ hi k2,k3⟩
  | rmap es k =>
    obtain ⟨c,ms,k1,k2,k3⟩:=h
    exact ⟨c,ms,(hb _ k1).1,concE_ids hρ hσ _ _ hi k2,k3⟩
  | umap m =>
    obtain ⟨c,es,ms,k,k1,k2,k3,k4⟩:=h
    have lit:bG E' es ms:=by
      have hl:∀ e ∈ es,af E' e.1=af E e.1∧af E' e.2.1=af E e.2.1:=fun e he=>by
        obtain ⟨a,b,c,_,_,e1,e2⟩:=k4.1 e he
        have hc:∀ q,af E' (aU E.ρ a b c q)=af E (aU E.ρ a b c q):=fun q=>by unfold aU; cases q.1 <;> rfl
        have hcs:∀ l:List (Bool × Nat),ad E' (l.map (aU E.ρ a b c))=ad E (l.map (aU E.ρ a b c)):=fun l=>by
          induction l with
          | nil=>rfl
          | cons q l ih=>simp only [List.map_cons,ad,hc,ih]
        refine ⟨?_,?_⟩
        · rw [e1]; unfold eX; split <;> rfl
        · rw [e2]; unfold bT
          cases m.ag with
          | true=>simp only [cond_true,af,hcs]
          | false =>
            simp only [cond_false]
            cases m.fi with
            | nil=>rfl
            | cons q l=>cases l with
              | nil=>exact hc q
              | cons _ _=>rfl
      clear k3 k4
      induction es generalizing ms with
      | nil=>cases ms with
        | nil=>trivial
        | cons _ _=>exact k2.elim
      | cons e es ih=>cases ms with
        | nil=>exact k2.elim
        | cons m' ms =>
          obtain ⟨h1,h2,h3,h4⟩:=k2
          exact ⟨(hl e List.mem_cons_self).1.trans h1,(hl e List.mem_cons_self).2.trans h2,h3,ih ms h4 fun e' he'=>hl e' (List.mem_cons_of_mem _ he')⟩
    exact ⟨c,es,ms,k,(hb _ k1).1,lit,k3,by rw [hρ]; exact k4⟩
  | ucells i ks =>
    obtain ⟨c,base,cells,el,fz,k1,k3,k4⟩:=h
    exact ⟨c,base,cells,el,fz,(hb _ k1).1,k3,by rw [hρ]; exact k4⟩
  | loop st pend fn tm ps code d =>
    obtain ⟨c,d',nn,keep,r,k1,k2,k3,k4,k5,k6,k7,k8,k9,k10⟩:=h
    simp only [idsO,Bool.and_eq_true] at hi
    have hd:d < n:=aD.1 hi.2
    refine ⟨c,d',nn,keep,r,(hb _ k1).1,(hσ d hd).1.trans k2,k3,k4,k5,k6,⟨fun i a e=>?_⟩,k8,k9,k10⟩
    obtain ⟨m1,v,m2,m3⟩:=k7.at_ i a e
    exact ⟨m1,v,by rw [gm hρ hσ a (ptAll_get _ _ _ hi.1 e)]; exact m2,m3⟩
  | defd t =>
    obtain ⟨c,k1,k2⟩:=h
    exact ⟨c,(hb _ k1).1,k2⟩
  | resv=>cases hi
  | dead=>trivial
noncomputable def gF (n k:Nat) (news:List Nat) (b:Nat):Option Nat :=
  cond (Nat.ble (b + 1) n) (some b) (@List.rec Nat (fun _=>Nat→Option Nat) (fun _=>none) (fun c _ ih i=>cond (Nat.beq c b) (some i) (ih (i + 1))) news k)
noncomputable def moved (n:Nat) (g:Nat→Option Nat) (o:AObj):Option AObj :=
  cond (idsO n o) (some o) (match o with
  | .cells cs el own ext=>(match rnL g cs with
    | some cs'=>some (.cells cs' el own ext)
    | none=>none)
  | _=>none)
noncomputable def graftN (n:Nat) (g:Nat→Option Nat) (h1:Heap):List Nat→Heap→Option Heap
  | [],h=>some h
  | b :: l,h=>(match h1.get b with
    | some o1=>cond (bN o1) (match moved n g o1 with
      | some o=>graftN n g h1 l (h.new o)
      | none=>none) none
    | none=>none)
noncomputable def graftO (n:Nat) (g:Nat→Option Nat) (h1:Heap):List Nat→Heap→Heap
  | [],h=>h
  | b :: l,h=>graftO n g h1 l (h.put b (match h1.get b with
    | some o1=>(match moved n g o1 with
      | some o=>o
      | none=>.dead)
    | none=>.dead))
def risesL (n:Nat):List Nat→Bool
  | []=>true
  | b :: l=>and (Nat.ble n b) (risesL (b + 1) l)
theorem nameG_lt {n k:Nat} {news:List Nat} {b:Nat} (h:b < n):gF n k news b=some b:=by
  unfold gF
  rw [aD.2 (show b + 1≤n from h)]; rfl
theorem nameG_ge {n k:Nat} {news:List Nat} {b c:Nat} (h:n≤b) (e:gF n k news b=some c):∃ i,news[i]?=some b∧c=k + i:=by
  unfold gF at e
  have h1:Nat.ble (b + 1) n=false:=by
    cases hk:Nat.ble (b + 1) n with
    | false=>rfl
    | true=>have:=aD.1 hk; omega
  rw [h1,cond_false] at e
  induction news generalizing k with
  | nil=>cases e
  | cons a l ih =>
    have e:cond (Nat.beq a b) (some k) (@List.rec Nat (fun _=>Nat→Option Nat) (fun _=>none) (fun c _ ih i=>cond (Nat.beq c b) (some i) (ih (i + 1))) l (k + 1))=some c:=e
    cases hb:Nat.beq a b with
    | true=>rw [hb] at e; cases e; exact ⟨0,by rw [aq.1 hb]; rfl,rfl⟩
    | false =>
      rw [hb,cond_false] at e
      obtain ⟨i,h1,h2⟩:=ih e
      exact ⟨i + 1,by simpa using h1,by omega⟩
theorem risesL_ge:∀ (l:List Nat) (n:Nat),risesL n l=true→∀ b ∈ l,n≤b
  | [],_,_,b,hb=>(List.not_mem_nil hb).elim
  | a :: l,n,h,b,hb=>by
    simp only [risesL,Bool.and_eq_true] at h
    have h1:=aD.1 h.1
    rcases List.mem_cons.1 hb with rfl | hb
    · exact h1
    · have:=risesL_ge l _ h.2 b hb; omega
theorem risesL_inj:∀ (l:List Nat) (n:Nat),risesL n l=true→∀ (i j b:Nat),l[i]?=some b→l[j]?=some b→i=j
  | [],_,_,i,_,b,h,_=>by simp at h
  | a :: l,n,h,i,j,b,hi,hj=>by
    simp only [risesL,Bool.and_eq_true] at h
    cases i with
    | zero =>
      simp at hi; subst hi
      cases j with
      | zero=>rfl
      | succ j =>
        simp at hj
        have:=risesL_ge l _ h.2 a (List.mem_of_getElem? hj); omega
    | succ i =>
      simp at hi
      cases j with
      | zero =>
        simp at hj; subst hj
        have:=risesL_ge l _ h.2 a (List.mem_of_getElem? hi); omega
      | succ j=>simp at hj; rw [risesL_inj l _ h.2 i j b hi hj]
theorem graftN_get {n : Nat} {g : Nat → Option Nat} {h1 : Heap} : ∀ (l : List Nat) (h h2 : Heap), graftN n g h1 l h = some h2 → h2.next = h.next + l.length ∧ ∀ j o, h2.get j = some o →
    (h.get j=some o∧(j < h.next ∨ h.next + l.length≤j)) ∨ ∃ i b o1,l[i]?=some b∧j=h.next + i∧h1.get b=some o1∧bN o1=true∧moved n g o1=some o
  | [],h,h2,e=>by
    simp only [graftN,Option.some.injEq] at e; subst e
    exact ⟨rfl,fun j o hj=>.inl ⟨hj,by rcases Nat.lt_or_ge j h.next with k | k; exact .inl k; exact .inr k⟩⟩
  | b :: l,h,h2,e=>by
    simp only [graftN] at e
    split at e
    · rename_i o1 ho1
      obtain ⟨hown,e⟩:=ak e
      split at e
      · rename_i o hmv
        obtain ⟨k1,k2⟩:=graftN_get l _ _ e
        rw [Heap.next_new] at k1
        refine ⟨by rw [k1,List.length_cons]; omega,fun j o' hj=>?_⟩
        rcases k2 j o' hj with ⟨k3,k4⟩ | ⟨i,b',o1',k3,k4,k5,k6,k7⟩
        · rw [Heap.get_new] at k3
          rw [Heap.next_new] at k4
          by_cases hjn:j=h.next
          · rw [if_pos hjn] at k3; cases k3
            exact .inr ⟨0,b,o1,rfl,by omega,ho1,hown,hmv⟩
          · rw [if_neg hjn] at k3
            exact .inl ⟨k3,by rw [List.length_cons]; omega⟩
        · rw [Heap.next_new] at k4
          exact .inr ⟨i + 1,b',o1',by simpa using k3,by omega,k5,k6,k7⟩
      · cases e
    · cases e
theorem graftO_get {n : Nat} {g : Nat → Option Nat} {h1 : Heap} : ∀ (l : List Nat) (h : Heap), (graftO n g h1 l h).next = h.next ∧ ∀ j o, (graftO n g h1 l h).get j = some o →
    (h.get j=some o∧j ∉ l) ∨ (j ∈ l∧(o=.dead ∨ ∃ o1,h1.get j=some o1∧moved n g o1=some o))
  | [],h=>⟨rfl,fun j o hj=>.inl ⟨hj,List.not_mem_nil⟩⟩
  | b :: l,h=>by
    simp only [graftO]
    generalize hx:(match h1.get b with
    | some o1=>(match moved n g o1 with
      | some o=>o
      | none=>AObj.dead)
    | none=>.dead)=x
    have hx':x=.dead ∨ ∃ o1,h1.get b=some o1∧moved n g o1=some x:=by
      rw [← hx]
      cases h2:h1.get b with
      | none=>exact .inl rfl
      | some o1 =>
        cases h3:moved n g o1 with
        | none=>exact .inl (by simp only [h3])
        | some o=>exact .inr ⟨o1,rfl,by simp only [h3]⟩
    obtain ⟨k1,k2⟩:=graftO_get (n:=n) (g:=g) (h1:=h1) l (h.put b x)
    refine ⟨k1,fun j o hj=>?_⟩
    rcases k2 j o hj with ⟨k3,k4⟩ | ⟨k3,k4⟩
    · rw [Heap.get_put] at k3
      by_cases hjb:j=b
      · subst hjb
        rw [if_pos rfl] at k3; cases k3
        exact .inr ⟨List.mem_cons_self,hx'⟩
      · rw [if_neg hjb] at k3
        exact .inl ⟨k3,fun h=>(List.mem_cons.1 h).elim hjb k4⟩
    · exact .inr ⟨List.mem_cons_of_mem _ k3,k4⟩
theorem fL {n:Nat} {g:Nat→Option Nat} {o1 o:AObj} (h:moved n g o1=some o):bN o=bN o1∧roO o=roO o1:=by
  unfold moved at h
  cases hi:idsO n o1 with
  | true=>rw [hi,cond_true] at h; cases h; exact ⟨rfl,rfl⟩
  | false =>
    rw [hi,cond_false] at h
    split at h
    · split at h
      · cases h; exact ⟨rfl,rfl⟩
      · cases h
    · cases h
theorem moved_ok {p : Par} {n : Nat} {g : Nat → Option Nat} {E1 E2 : Env} (hR : RelB g E1 E2) (hσ : ∀ b, b < n → E2.σ b = E1.σ b ∧ (E1.σ b ≠ none → E2.κ b = E1.κ b)) {o1 o : AObj} {b j : Nat} {heap : Array Obj} (h : moved n g o1 = some o)
    (hb:∀ q,E1.σ b=some q→E2.σ j=some q∧E2.κ j=E1.κ b) (ho:objOk p E1 b o1 heap):objOk p E2 j o heap:=by
  unfold moved at h
  cases hi:idsO n o1 with
  | true=>rw [hi,cond_true] at h; cases h; exact ho.ids hR.ρ hσ hi hb
  | false =>
    rw [hi,cond_false] at h
    split at h
    · split at h
      · rename_i cs el own ext cs' hcs
        cases h
        obtain ⟨c,base,vs,cells,el',fz,k1,k2,k3,k4,k5⟩:=ho
        exact ⟨c,base,vs,cells,el',fz,(hb _ k1).1,rnL_ok hR _ _ _ hcs k2,k3,k4,by rw [(hb _ k1).2]; exact k5⟩
      · cases h
    · cases h
def Env.cut (n:Nat) (E:Env):Env:=⟨E.ρ,fun b=>if b < n then E.σ b else none,E.κ,n,fun _=>#[]⟩
def envG (E E1:Env) (k:Nat) (news:List Nat):Env :=
  ⟨E.ρ,fun b=>if b < k then E.σ b else match news[b - k]? with | some c=>E1.σ c | none=>none,fun b=>if b < k then E.κ b else match news[b - k]? with | some c=>E1.κ c | none=>0,k + news.length,E.rc⟩
theorem HeapOk.graft {p : Par} {E E1 : Env} {h hv h1 h2 : Heap} {w0 b1 : Base} {w w' : World} {n : Nat} {news owns : List Nat}
    (HH:HeapOk p E h w0 w) (hsub:∀ b o,hv.get b=some o→∃ o',h.get b=some o'∧(bN o=true→bN o'=true)) (hvn:∀ b o,hv.get b=some o→b < n) (hn:n≤h.next)
    (howns:∀ b,b ∈ owns ↔ ∃ o,hv.get b=some o∧bN o=true)
    (hb1:b1.w=w) (hS:∀ c,b1.S c ↔ c < w.heap.size∧∀ b ∈ owns,∀ x,E.σ b ≠ some (c,x))
    (H1:HeapOk p E1 h1 b1 w') (hle:(E.cut n).le E1) (hrise:risesL n news=true)
    (e2:graftN n (gF n h.next news) h1 news h=some h2) :
    E.le (envG E E1 h.next news)∧RelB (gF n h.next news) E1 (envG E E1 h.next news)∧HeapOk p (envG E E1 h.next news) (graftO n (gF n h.next news) h1 owns h2) w0 w':=by
  let F:=envG E E1 h.next news
  have hfr:∀ b q,E.σ b=some q→b < h.next:=fun b q e=>by
    rcases Nat.lt_or_ge b h.next with k | k
    · exact k
    · rw [HH.fresh b k] at e; cases e
  have h1000:1000≤h.next:=by
    rcases Nat.lt_or_ge h.next 1000 with k | k
    · have:=HH.glob h.next k; rw [HH.fresh _ (Nat.le_refl _)] at this; cases this
    · exact k
  have hσ0:∀ b,b < h.next→F.σ b=E.σ b:=fun b hb=>by simp only [F,envG,if_pos hb]
  have hκ0:∀ b,b < h.next→F.κ b=E.κ b:=fun b hb=>by simp only [F,envG,if_pos hb]
  have hσ1:∀ i b,news[i]?=some b→F.σ (h.next + i)=E1.σ b∧F.κ (h.next + i)=E1.κ b:=fun i b hq=>by
    simp only [F,envG,if_neg (show ¬ h.next + i < h.next by omega),Nat.add_sub_cancel_left,hq,and_self]
  have hσ2:∀ b,h.next + news.length≤b→F.σ b=none:=fun b hb=>by
    simp only [F,envG,if_neg (show ¬ b < h.next by omega)]
    rw [List.getElem?_eq_none (by omega)]
  have hEle:E.le F:=by
    refine ⟨⟨rfl,fun b q e=>by rw [hσ0 b (hfr b q e)]; exact e,fun b q e=>hκ0 b (hfr b q e),fun _ _ _=>rfl⟩,?_,fun b hb e=>?_⟩
    · have:=HH.nx; simp only [F,envG]; omega
    · rw [hσ0 b (Nat.lt_of_lt_of_le hb HH.nx)]; exact e
  have hlow:∀ b,b < n→E1.σ b=E.σ b∧(E.σ b ≠ none→E1.κ b=E.κ b):=fun b hb=>by
    have hc:(E.cut n).σ b=E.σ b:=by simp only [Env.cut,if_pos hb]
    cases hs:E.σ b with
    | none=>exact ⟨hle.none b hb (hc.trans hs),fun h=>absurd rfl h⟩
    | some q=>exact ⟨hle.σ b q (hc.trans hs),fun _=>hle.κ b q (hc.trans hs)⟩
  have hlowF:∀ b,b < n→F.σ b=E1.σ b∧(E1.σ b ≠ none→F.κ b=E1.κ b):=fun b hb=>by
    have hbn:b < h.next:=by omega
    refine ⟨(hσ0 b hbn).trans (hlow b hb).1.symm,fun hne=>?_⟩
    rw [hκ0 b hbn]
    rw [(hlow b hb).1] at hne
    exact ((hlow b hb).2 hne).symm
  have hρ:F.ρ=E1.ρ:=hle.ρ.symm
  have hR:RelB (gF n h.next news) E1 F:=by
    refine ⟨hρ,fun b c q hb hq=>?_⟩
    rcases Nat.lt_or_ge b n with hbn | hbn
    · rw [nameG_lt hbn] at hb; cases hb
      obtain ⟨a1,a2⟩:=hlowF b hbn
      exact ⟨a1.trans hq,a2 (by rw [hq]; exact Option.some_ne_none _)⟩
    · obtain ⟨i,k1,k2⟩:=nameG_ge hbn hb
      subst k2
      obtain ⟨a1,a2⟩:=hσ1 i b k1
      exact ⟨a1.trans hq,a2⟩
  obtain ⟨n1,n2⟩:=graftN_get _ _ _ e2
  obtain ⟨m1,m2⟩:=graftO_get (n:=n) (g:=gF n h.next news) (h1:=h1) owns h2
  have ownlt:∀ b ∈ owns,b < n:=fun b hb=>by obtain ⟨o,h1,_⟩:=(howns b).1 hb; exact hvn b o h1
  have kinds : ∀ j o, (graftO n (gF n h.next news) h1 owns h2).get j = some o →
      (h.get j=some o∧j ∉ owns) ∨ (j ∈ owns∧j < n∧(o=.dead ∨ ∃ o1,h1.get j=some o1∧moved n (gF n h.next news) o1=some o)) ∨
      ∃ i b o1,news[i]?=some b∧j=h.next + i∧n≤b∧h1.get b=some o1∧bN o1=true∧moved n (gF n h.next news) o1=some o:=fun j o hj=>by
    rcases m2 j o hj with ⟨k1,k2⟩ | ⟨k1,k2⟩
    · rcases n2 j o k1 with ⟨k3,_⟩ | ⟨i,b,o1,k3,k4,k5,k6,k7⟩
      · exact .inl ⟨k3,k2⟩
      · exact .inr (.inr ⟨i,b,o1,k3,k4,risesL_ge _ _ hrise b (List.mem_of_getElem? k3),k5,k6,k7⟩)
    · exact .inr (.inl ⟨k1,ownlt j k1,k2⟩)
  have clear:∀ j o c x,h.get j=some o→j ∉ owns→(bN o=true ∨ roO o=true)→E.σ j=some (c,x)→b1.S c:=fun j o c x g hno hk hs=>by
    refine (hS c).2 ⟨HH.lt _ _ _ _ g hs,fun b hb y hy=>?_⟩
    obtain ⟨o',k1,k2⟩:=(howns b).1 hb
    obtain ⟨o2,k3,k4⟩:=hsub _ _ k1
    rcases hk with hk | hk
    · have:=HH.inj _ _ _ _ _ _ _ k3 g (k4 k2) hk hy hs
      subst this; exact hno hb
    · exact HH.base _ _ _ _ k3 (k4 k2) hy (HH.ro _ _ _ _ g hk hs)
  have w0S:∀ c,w0.S c→b1.S c:=fun c hc=>(hS c).2 ⟨HH.below.lt hc,fun b hb y hy=>by
    obtain ⟨o',k1,k2⟩:=(howns b).1 hb
    obtain ⟨o2,k3,k4⟩:=hsub _ _ k1
    exact HH.base _ _ _ _ k3 (k4 k2) hy hc⟩
  have kept:Kept b1.S w w':=hb1 ▸ H1.below
  refine ⟨hEle,hR,⟨fun j o hj=>?_,fun j j' o o' c x y g1 g2 w1 w2 s1 s2=>?_,fun j o c x hj hw s hc=>?_,fun j o c y hj hr s=>?_,fun b hb=>?_,fun j o c x hj s=>?_,fun b hb=>?_,?_,?_,HH.ok⟩⟩
  · rcases kinds j o hj with ⟨k1,k2⟩ | ⟨k1,k2,k3⟩ | ⟨i,b,o1,k1,k2,k3,k4,k5,k6⟩
    · refine (HH.obj j o k1).mono hEle.tole0 (fun hn=>?_) (fun c x hc hk=>kept.block c (clear j o c x k1 k2 hk hc))
      rcases Nat.lt_or_ge j h.next with hl | hl
      · rw [hσ0 j hl]; exact hn
      · rcases n2 j o (by
          rcases m2 j o hj with ⟨q1,_⟩ | ⟨q1,_⟩
          · exact q1
          · exact absurd q1 k2) with ⟨_,q3⟩ | ⟨i,b,o1,q3,q4,q5,q6,q7⟩
        · rcases q3 with q3 | q3
          · omega
          · exact hσ2 j q3
        · subst q4
          rw [(hσ1 i b q3).1]
          cases hb:E1.σ b with
          | none=>rfl
          | some q =>
            exfalso
            have:=HH.obj _ o k1
            have hno:E.σ (h.next + i)=none:=HH.fresh _ (by omega)
            have hmm:=fL q7
            cases o with
            | cells=>obtain ⟨c,b',vs,cl,el,fz,g1,_⟩:=this; rw [hno] at g1; cases g1
            | map=>obtain ⟨c,ms,g1,_⟩:=this; rw [hno] at g1; cases g1
            | rmap=>obtain ⟨c,ms,g1,_⟩:=this; rw [hno] at g1; cases g1
            | umap=>obtain ⟨c,es,ms,k,g1,_⟩:=this; rw [hno] at g1; cases g1
            | ucells=>obtain ⟨c,b',cl,el,fz,g1,_⟩:=this; rw [hno] at g1; cases g1
            | loop=>obtain ⟨c,d',n',kp,r,g1,_⟩:=this; rw [hno] at g1; cases g1
            | defd=>obtain ⟨c,g1,_⟩:=this; rw [hno] at g1; cases g1
            | resv =>
              unfold moved at q7
              cases hi:idsO n o1 with
              | true=>rw [hi,cond_true] at q7; cases q7; cases hi
              | false =>
                rw [hi,cond_false] at q7
                split at q7
                · split at q7 <;> cases q7
                · cases q7
            | dead=>rw [hmm.1.symm] at q6; cases q6
    · rcases k3 with rfl | ⟨o1,k3,k4⟩
      · trivial
      · exact moved_ok hR hlowF k4 (fun q hq => by
          obtain ⟨a1,a2⟩:=hlowF j k2
          exact ⟨a1.trans hq,a2 (by rw [hq]; exact Option.some_ne_none _)⟩) (H1.obj _ _ k3)
    · subst k2
      exact moved_ok hR hlowF k6 (fun q hq=>by
        obtain ⟨a1,a2⟩:=hσ1 i b k1
        exact ⟨a1.trans hq,a2⟩) (H1.obj _ _ k4)
  · -- each block has one name
    have name : ∀ j o c x, (graftO n (gF n h.next news) h1 owns h2).get j = some o → bN o = true → F.σ j = some (c, x) →
        (j < h.next∧h.get j=some o∧j ∉ owns∧E.σ j=some (c,x)∧b1.S c) ∨ (∃ b o1,h1.get b=some o1∧bN o1=true∧E1.σ b=some (c,x)∧¬ b1.S c∧((b=j∧j < n) ∨ ∃ i,news[i]?=some b∧j=h.next + i∧n≤b)):=fun j o c x g hw s=>by
      rcases kinds j o g with ⟨k1,k2⟩ | ⟨k1,k2,k3⟩ | ⟨i,b,o1,k1,k2,k3,k4,k5,k6⟩
      · have hl : j < h.next := by
          rcases Nat.lt_or_ge j h.next with hl | hl
          · exact hl
          · exfalso
            have hob:=HH.obj _ o k1
            have hno:E.σ j=none:=HH.fresh _ hl
            cases o with
            | cells=>obtain ⟨c,b',vs,cl,el,fz,g1,_⟩:=hob; rw [hno] at g1; cases g1
            | map=>obtain ⟨c,ms,g1,_⟩:=hob; rw [hno] at g1; cases g1
            | rmap=>cases hw
            | umap=>obtain ⟨c,es,ms,k,g1,_⟩:=hob; rw [hno] at g1; cases g1
            | ucells=>cases hw
            | loop=>obtain ⟨c,d',n',kp,r,g1,_⟩:=hob; rw [hno] at g1; cases g1
            | defd=>obtain ⟨c,g1,_⟩:=hob; rw [hno] at g1; cases g1
            | resv =>
              rcases n2 j .resv (by
                rcases m2 j _ g with ⟨q1,_⟩ | ⟨q1,_⟩
                · exact q1
                · exact absurd q1 k2) with ⟨_,q3⟩ | ⟨i,b,o1,q3,q4,q5,q6,q7⟩
              · rcases q3 with q3 | q3
                · omega
                · rw [hσ2 j q3] at s; cases s
              · unfold moved at q7
                cases hi:idsO n o1 with
                | true=>rw [hi,cond_true] at q7; cases q7; cases hi
                | false =>
                  rw [hi,cond_false] at q7
                  split at q7
                  · split at q7 <;> cases q7
                  · cases q7
            | dead=>cases hw
        rw [hσ0 j hl] at s
        exact .inl ⟨hl,k1,k2,s,clear j o c x k1 k2 (.inl hw) s⟩
      · rcases k3 with rfl | ⟨o1,k3,k4⟩
        · cases hw
        · have hw1:bN o1=true:=(fL k4).1.symm.trans hw
          have hs:E1.σ j=some (c,x):=(hlowF j k2).1.symm.trans s
          exact .inr ⟨j,o1,k3,hw1,hs,H1.base _ _ _ _ k3 hw1 hs,.inl ⟨rfl,k2⟩⟩
      · subst k2
        rw [(hσ1 i b k1).1] at s
        exact .inr ⟨b,o1,k4,k5,s,H1.base _ _ _ _ k4 k5 s,.inr ⟨i,k1,rfl,k3⟩⟩
    rcases name j o c x g1 w1 s1 with ⟨a1,a2,a3,a4,a5⟩ | ⟨b,o1,a1,a2,a3,a4,a5⟩
    · rcases name j' o' c y g2 w2 s2 with ⟨c1,c2,c3,c4,c5⟩ | ⟨b',o1',c1,c2,c3,c4,c5⟩
      · exact HH.inj _ _ _ _ _ _ _ a2 c2 w1 w2 a4 c4
      · exact absurd a5 c4
    · rcases name j' o' c y g2 w2 s2 with ⟨c1,c2,c3,c4,c5⟩ | ⟨b',o1',c1,c2,c3,c4,c5⟩
      · exact absurd c5 a4
      · have hbb:=H1.inj _ _ _ _ _ _ _ a1 c1 a2 c2 a3 c3
        subst hbb
        rcases a5 with ⟨rfl,a6⟩ | ⟨i,a6,a7,a8⟩
        · rcases c5 with ⟨rfl,_⟩ | ⟨i',_,_,c8⟩
          · rfl
          · omega
        · rcases c5 with ⟨rfl,c6⟩ | ⟨i',c6,c7,_⟩
          · omega
          · rw [a7,c7,risesL_inj _ _ hrise i i' b a6 c6]
  · rcases kinds j o hj with ⟨k1,k2⟩ | ⟨k1,k2,k3⟩ | ⟨i,b,o1,k1,k2,k3,k4,k5,k6⟩
    · rcases Nat.lt_or_ge j h.next with hl | hl
      · rw [hσ0 j hl] at s; exact HH.base _ _ _ _ k1 hw s hc
      · rcases n2 j o (by
          rcases m2 j o hj with ⟨q1,_⟩ | ⟨q1,_⟩
          · exact q1
          · exact absurd q1 k2) with ⟨_,q3⟩ | ⟨i,b,o1,q3,q4,q5,q6,q7⟩
        · rcases q3 with q3 | q3
          · omega
          · rw [hσ2 j q3] at s; cases s
        · subst q4
          rw [(hσ1 i b q3).1] at s
          exact H1.base _ _ _ _ q5 q6 s (w0S c hc)
    · rcases k3 with rfl | ⟨o1,k3,k4⟩
      · cases hw
      · have hw1:bN o1=true:=(fL k4).1.symm.trans hw
        have hs:E1.σ j=some (c,x):=(hlowF j k2).1.symm.trans s
        exact H1.base _ _ _ _ k3 hw1 hs (w0S c hc)
    · subst k2
      rw [(hσ1 i b k1).1] at s
      exact H1.base _ _ _ _ k4 k5 s (w0S c hc)
  · rcases kinds j o hj with ⟨k1,k2⟩ | ⟨k1,k2,k3⟩ | ⟨i,b,o1,k1,k2,k3,k4,k5,k6⟩
    · rcases Nat.lt_or_ge j h.next with hl | hl
      · rw [hσ0 j hl] at s; exact HH.ro _ _ _ _ k1 hr s
      · rcases n2 j o (by
          rcases m2 j o hj with ⟨q1,_⟩ | ⟨q1,_⟩
          · exact q1
          · exact absurd q1 k2) with ⟨_,q3⟩ | ⟨i,b,o1,q3,q4,q5,q6,q7⟩
        · rcases q3 with q3 | q3
          · omega
          · rw [hσ2 j q3] at s; cases s
        · have:=fL q7
          rw [gk (this.1.trans q6)] at hr; cases hr
    · rcases k3 with rfl | ⟨o1,k3,k4⟩
      · cases hr
      · -- what may be written is not what is only read
        have hr1:roO o1=true:=(fL k4).2.symm.trans hr
        have hs:E1.σ j=some (c,y):=(hlowF j k2).1.symm.trans s
        have hS1:=H1.ro _ _ _ _ k3 hr1 hs
        exact absurd ((hlow j k2).1.symm.trans hs) (((hS c).1 hS1).2 j k1 y)
    · have:=fL k6
      rw [gk (this.1.trans k5)] at hr; cases hr
  · rw [m1,n1] at hb; exact hσ2 b hb
  · rcases kinds j o hj with ⟨k1,k2⟩ | ⟨k1,k2,k3⟩ | ⟨i,b,o1,k1,k2,k3,k4,k5,k6⟩
    · rcases Nat.lt_or_ge j h.next with hl | hl
      · rw [hσ0 j hl] at s; exact Nat.lt_of_lt_of_le (HH.lt _ _ _ _ k1 s) kept.size
      · rcases n2 j o (by
          rcases m2 j o hj with ⟨q1,_⟩ | ⟨q1,_⟩
          · exact q1
          · exact absurd q1 k2) with ⟨_,q3⟩ | ⟨i,b,o1,q3,q4,q5,q6,q7⟩
        · rcases q3 with q3 | q3
          · omega
          · rw [hσ2 j q3] at s; cases s
        · subst q4
          rw [(hσ1 i b q3).1] at s
          exact H1.lt _ _ _ _ q5 s
    · rcases k3 with rfl | ⟨o1,k3,k4⟩
      · obtain ⟨o',q1,_⟩:=(howns j).1 k1
        obtain ⟨o2,k3,_⟩:=hsub _ _ q1
        rw [hσ0 j (by omega)] at s
        exact Nat.lt_of_lt_of_le (HH.lt _ _ _ _ k3 s) kept.size
      · exact H1.lt _ _ _ _ k3 ((hlowF j k2).1.symm.trans s)
    · subst k2
      rw [(hσ1 i b k1).1] at s
      exact H1.lt _ _ _ _ k4 s
  · rw [hσ0 b (by omega)]; exact HH.glob b hb
  · exact HH.below.trans ⟨kept.os,kept.tape,kept.output,kept.size,fun c hc=>kept.block c (w0S c hc)⟩
  · rw [m1,n1]; exact Nat.le_refl _
end Go.Sx
namespace Go.Sx
open Go.RowKit
noncomputable def ah (n:Nat):List (Nat × AObj)→Heap
  | []=>⟨.nil,n⟩
  | g :: l=>(ah n l).put g.1 g.2
theorem aw (n:Nat):∀ l,(ah n l).next=n
  | []=>rfl
  | g :: l=>by rw [ah,Heap.next_put]; exact aw n l
theorem am (n:Nat):∀ (l:List (Nat × AObj)) (b:Nat) (o:AObj),(ah n l).get b=some o→(b,o) ∈ l
  | [],b,o,h=>by
    have:(PT.nil:PT AObj).get b=some o:=h
    rw [PT.get_nil] at this; cases this
  | g :: l,b,o,h=>by
    rw [ah,Heap.get_put] at h
    by_cases c:b=g.1
    · rw [if_pos c] at h; cases h; rw [c]; exact List.mem_cons_self
    · rw [if_neg c] at h; exact List.mem_cons_of_mem _ (am n l b o h)
def upA (n:Nat):List (Nat × AObj)→Bool
  | []=>true
  | g :: l=>and (Nat.ble n g.1) (upA (g.1 + 1) l)
theorem upA_ge:∀ (l:List (Nat × AObj)) (n:Nat),upA n l=true→∀ g ∈ l,n≤g.1
  | [],_,_,g,hg=>(List.not_mem_nil hg).elim
  | a :: l,n,h,g,hg=>by
    simp only [upA,Bool.and_eq_true] at h
    have h1:=aD.1 h.1
    rcases List.mem_cons.1 hg with rfl | hg
    · exact h1
    · have:=upA_ge l _ h.2 g hg; omega
theorem aC (k:Nat):∀ (l:List (Nat × AObj)) (n:Nat),upA n l=true→∀ g ∈ l,(ah k l).get g.1=some g.2
  | [],_,_,g,hg=>(List.not_mem_nil hg).elim
  | a :: l,n,h,g,hg=>by
    simp only [upA,Bool.and_eq_true] at h
    rw [ah,Heap.get_put]
    rcases List.mem_cons.1 hg with rfl | hg
    · rw [if_pos rfl]
    · have:=upA_ge l _ h.2 g hg
      rw [if_neg (by omega)]
      exact aC k l _ h.2 g hg
def hM:List (Nat × AObj)→List Nat
  | []=>[]
  | g :: l=>cond (bN g.2) (g.1 :: hM l) (hM l)
theorem dF:∀ (l:List (Nat × AObj)) (b:Nat),b ∈ hM l ↔ ∃ o,(b,o) ∈ l∧bN o=true
  | [],b=>⟨fun h=>(List.not_mem_nil h).elim,fun ⟨_,h,_⟩=>(List.not_mem_nil h).elim⟩
  | g :: l,b=>by
    simp only [hM]
    cases hg:bN g.2 with
    | true =>
      rw [cond_true,List.mem_cons,dF l b]
      constructor
      · rintro (rfl | ⟨o,h1,h2⟩)
        · exact ⟨g.2,List.mem_cons_self,hg⟩
        · exact ⟨o,List.mem_cons_of_mem _ h1,h2⟩
      · rintro ⟨o,h1,h2⟩
        rcases List.mem_cons.1 h1 with h | h
        · exact .inl (congrArg Prod.fst h)
        · exact .inr ⟨o,h,h2⟩
    | false =>
      rw [cond_false,dF l b]
      constructor
      · rintro ⟨o,h1,h2⟩; exact ⟨o,List.mem_cons_of_mem _ h1,h2⟩
      · rintro ⟨o,h1,h2⟩
        rcases List.mem_cons.1 h1 with h | h
        · have:o=g.2:=congrArg Prod.snd h
          subst this; rw [hg] at h2; cases h2
        · exact ⟨o,h,h2⟩
theorem concL_front {E:Env}:∀ {l m:List AV} {vs:List Value},ad E (l ++ m)=some vs→∃ us ws,ad E l=some us∧vs=us ++ ws
  | [],m,vs,h=>⟨[],vs,rfl,rfl⟩
  | a :: l,m,vs,h=>by
    obtain ⟨v,r,h1,h2,rfl⟩:=ap.1 (show ad E (a :: (l ++ m))=some vs from h)
    obtain ⟨us,ws,e1,rfl⟩:=concL_front h2
    exact ⟨v :: us,ws,ap.2 ⟨v,us,h1,e1,rfl⟩,rfl⟩
inductive Less:AObj→AObj→Prop where
  | refl (o:AObj):Less o o
  | cut (cs r:List AV) (el:TypeId) (own ext:Bool):Less (.cells cs 0 false false) (.cells (cs ++ r) el own ext)
  | read (cs:List AV) (el:TypeId) (own ext:Bool):Less (.cells cs 0 false false) (.cells cs el own ext)
  | dull (m:MU):Less (.umap m.dull) (.umap m)
theorem Less.own {o o':AObj} (h:Less o o'):bN o=true→bN o'=true:=by cases h <;> intro k <;> first | exact k | cases k
theorem Less.kinds {o o':AObj} (h:Less o o'):roO o=true→bN o'=true ∨ roO o'=true:=by
  cases h with
  | refl=>exact fun h=>.inr h
  | cut cs r el own ext=>intro _; cases own; exact .inr rfl; exact .inl rfl
  | read cs el own ext=>intro _; cases own; exact .inr rfl; exact .inl rfl
  | dull m=>intro h; cases h
theorem Less.obj {o o':AObj} (h:Less o o') {p:Par} {E:Env} {b:Nat} {heap:Array Obj} (k:objOk p E b o' heap):objOk p E b o heap:=by
  cases h with
  | refl=>exact k
  | cut cs r el own ext =>
    obtain ⟨c,base,vs,cells,el',fz,k1,k2,k3,k4,k5⟩:=k
    obtain ⟨us,ws,e1,rfl⟩:=concL_front k2
    refine ⟨c,base,us,cells,el',fz,k1,e1,k3,fun i hi=>?_,fun h=>by cases h⟩
    rw [k4 i (by rw [List.length_append]; omega),List.getElem?_append_left hi]
  | read cs el own ext =>
    obtain ⟨c,base,vs,cells,el',fz,k1,k2,k3,k4,k5⟩:=k
    exact ⟨c,base,vs,cells,el',fz,k1,k2,k3,k4,fun h=>by cases h⟩
  | dull m =>
    obtain ⟨c,es,ms,clock,k1,k2,k3,k4⟩:=k
    exact ⟨c,es,ms,clock,k1,k2,k3,k4.1,(fun h=>by cases h),k4.2.2⟩
noncomputable def graftV (n:Nat) (g:Nat→Option Nat) (v:AV):Option AV:=cond (cP n v) (some v) (rnV g v)
noncomputable def bV (n:Nat) (l:List (Nat × AObj)) (h:Heap) (news:List Nat) (r:AV × Heap):T (AV × Heap) :=
  cond (risesL n news) (match graftN n (gF n h.next news) r.2 news h with
  | some h2=>(match graftV n (gF n h.next news) r.1 with
    | some v=>.ret (v,graftO n (gF n h.next news) r.2 (hM l) h2)
    | none=>.fail 98)
  | none=>.fail 98) (.fail 98)
noncomputable def ba (n:Nat) (l:List (Nat × AObj)):Bool:=and (upA 0 l) (bz (fun g:Nat × AObj=>and (Nat.ble (g.1 + 1) n) (idsO n g.2)) l)
theorem view_heapOk {p : Par} {E : Env} {h : Heap} {w0 : Base} {w : World} {n : Nat} {l : List (Nat × AObj)} (HH : HeapOk p E h w0 w) (hv : ba n l = true) (_ : n ≤ h.next) (h1000 : 1000 ≤ n)
    (hl:∀ g ∈ l,∃ o,h.get g.1=some o∧Less g.2 o) (b1:Base) (hb1:b1=⟨w,fun c=>c < w.heap.size∧∀ b ∈ hM l,∀ x,E.σ b ≠ some (c,x),fun _ h=>h.1⟩):HeapOk p (E.cut n) (ah n l) b1 w:=by
  subst hb1
  unfold ba at hv
  simp only [Bool.and_eq_true] at hv
  obtain ⟨hup,hall⟩:=hv
  have hσ:∀ b,b < n→(E.cut n).σ b=E.σ b∧(E.σ b ≠ none→(E.cut n).κ b=E.κ b):=fun b hb=>⟨by simp only [Env.cut,if_pos hb],fun _=>rfl⟩
  have inl:∀ g ∈ l,g.1 < n∧idsO n g.2=true:=fun g hg=>by
    have:=av hall g hg
    simp only [Bool.and_eq_true] at this
    exact ⟨aD.1 this.1,this.2⟩
  have cutσ:∀ b q,(E.cut n).σ b=some q→b < n∧E.σ b=some q:=fun b q e=>by
    simp only [Env.cut] at e
    split at e
    · rename_i hb; exact ⟨hb,e⟩
    · cases e
  have lt:∀ b o c x,(ah n l).get b=some o→(E.cut n).σ b=some (c,x)→c < w.heap.size:=fun b o c x g s=>by
    obtain ⟨o',h1,_⟩:=hl _ (am _ _ _ _ g)
    exact HH.lt _ _ _ _ h1 (cutσ _ _ s).2
  have owns:∀ b ∈ hM l,∃ o',h.get b=some o'∧bN o'=true:=fun b hb=>by
    obtain ⟨o,h1,h2⟩:=(dF l b).1 hb
    obtain ⟨o',h3,h4⟩:=hl _ h1
    exact ⟨o',h3,h4.own h2⟩
  refine ⟨fun b o g=>?_,fun b b' o o' c x y g1 g2 w1 w2 s1 s2=>?_,fun b o c x g hw s hc=>?_,fun b o c y g hr s=>?_,fun b hb=>?_,lt,fun b hb=>?_,Kept.refl _ _,(by rw [aw]; exact Nat.le_refl _),HH.ok.mono fun c o e'=>⟨⟨HH.below.lt e'.1,fun b hb x hx=>?_⟩,Base.Keeps.has HH.below e'⟩⟩
  · have hm:=am _ _ _ _ g
    obtain ⟨o',h1,h2⟩:=hl _ hm
    obtain ⟨h3,h4⟩:=inl _ hm
    have hb:objOk p E b o w.heap:=h2.obj (HH.obj _ _ h1)
    exact objOk.ids (E:=E) (E':=E.cut n) rfl hσ h4 (fun q hq=>⟨(hσ b h3).1.trans hq,rfl⟩) hb
  · obtain ⟨o1,h1,h2⟩:=hl _ (am _ _ _ _ g1)
    obtain ⟨o2,h3,h4⟩:=hl _ (am _ _ _ _ g2)
    exact HH.inj _ _ _ _ _ _ _ h1 h3 (h2.own w1) (h4.own w2) (cutσ _ _ s1).2 (cutσ _ _ s2).2
  · exact hc.2 b ((dF l b).2 ⟨o,am _ _ _ _ g,hw⟩) x (cutσ _ _ s).2
  · refine ⟨lt _ _ _ _ g s,fun b' hb' x hx=>?_⟩
    have hm:=am _ _ _ _ g
    obtain ⟨o1,h1,h2⟩:=hl _ hm
    obtain ⟨o2,h3,h4⟩:=owns b' hb'
    rcases h2.kinds hr with k | k
    · have:=HH.inj _ _ _ _ _ _ _ h1 h3 k h4 (cutσ _ _ s).2 hx
      subst this
      obtain ⟨o3,h5,h6⟩:=(dF l b).1 hb'
      have e1:=aC n l 0 hup _ hm
      have e2:=aC n l 0 hup _ h5
      have e3:(ah n l).get b=some o:=e1
      have e4:(ah n l).get b=some o3:=e2
      rw [e3] at e4; cases e4
      rw [gk h6] at hr; cases hr
    · exact HH.base _ _ _ _ h3 h4 hx (HH.ro _ _ _ _ h1 k (cutσ _ _ s).2)
  · rw [aw] at hb
    simp only [Env.cut,if_neg (show ¬ b < n by omega)]
  · have hb':b < n:=by omega
    rw [(hσ b hb').1]; exact HH.glob b hb
  · obtain ⟨o',h3,h4⟩:=owns b hb
    exact HH.base _ _ _ _ h3 h4 hx e'.1
theorem CallOk.frame {p : Par} {f : FuncId} {args : List AV} {n : Nat} {l : List (Nat × AObj)} {t : T (AV × Heap)} (hc : CallOk p f args (ah n l) t) (h1000 : 1000 ≤ n) (hids : aW n args = true) (hv : ba n l = true)
    {h:Heap} (hl:∀ g ∈ l,∃ o,h.get g.1=some o∧Less g.2 o) (hn:n≤h.next) (nw:AV × Heap→List Nat):CallOk p f args h (t.bind fun r=>bV n l h (nw r) r):=by
  intro vs E w0 w Q K k HH ha P
  rw [T.holds_bind] at k
  let b1:Base:=⟨w,fun c=>c < w.heap.size∧∀ b ∈ hM l,∀ x,E.σ b ≠ some (c,x),fun _ h=>h.1⟩
  have HV:=view_heapOk HH hv hn h1000 hl b1 rfl
  have hσ:∀ b,b < n→(E.cut n).σ b=E.σ b∧(E.σ b ≠ none→(E.cut n).κ b=E.κ b):=fun b hb=>⟨by simp only [Env.cut,if_pos hb],fun _=>rfl⟩
  have ha':ad (E.cut n) args=some vs:=by rw [cH (E:=E) (E':=E.cut n) rfl hσ args hids]; exact ha
  unfold ba at hv
  simp only [Bool.and_eq_true] at hv
  obtain ⟨hup,hall⟩:=hv
  refine hc vs (E.cut n) b1 w _ K k HV ha' ?_
  intro v' h1 E1 w' cv q hle H1 hcv
  unfold bV at q
  cases hr:risesL n (nw (v',h1)) with
  | false=>rw [hr] at q; exact q.elim
  | true =>
    rw [hr,cond_true] at q
    split at q
    · rename_i h2 e2
      split at q
      · rename_i v ev
        have key := HH.graft (hv := ah n l) (owns := hM l) (fun b o g => by
            obtain ⟨o',k1,k2⟩:=hl _ (am _ _ _ _ g)
            exact ⟨o',k1,k2.own⟩) (fun b o g=>by
            have:=av hall _ (am _ _ _ _ g)
            simp only [Bool.and_eq_true] at this
            exact aD.1 this.1) hn (fun b=>by
            rw [dF]
            exact ⟨fun ⟨o,k1,k2⟩=>⟨o,aC n l 0 hup _ k1,k2⟩,fun ⟨o,k1,k2⟩=>⟨o,am _ _ _ _ k1,k2⟩⟩) (b1:=b1) rfl (fun c=>Iff.rfl) H1 hle hr e2
        obtain ⟨z1,z2,z3⟩:=key
        refine P v _ _ w' cv q z1 z3 ?_
        unfold graftV at ev
        cases hi:cP n v' with
        | true =>
          rw [hi,cond_true] at ev; cases ev
          have low:∀ b,b < n→(envG E E1 h.next (nw (v',h1))).σ b=E1.σ b∧(E1.σ b ≠ none→(envG E E1 h.next (nw (v',h1))).κ b=E1.κ b):=fun b hb=>by
            have hbn:b < h.next:=by omega
            have hcs:(E.cut n).σ b=E.σ b:=(hσ b hb).1
            have e1:(envG E E1 h.next (nw (v',h1))).σ b=E.σ b:=by simp only [envG,if_pos hbn]
            have e2:(envG E E1 h.next (nw (v',h1))).κ b=E.κ b:=by simp only [envG,if_pos hbn]
            cases hs:E.σ b with
            | none=>exact ⟨by rw [e1,hs,hle.none b hb (hcs.trans hs)],fun hne=>absurd (hle.none b hb (hcs.trans hs)) hne⟩
            | some q=>exact ⟨by rw [e1,hs,hle.σ b q (hcs.trans hs)],fun _=>by rw [e2]; exact (hle.κ b q (hcs.trans hs)).symm⟩
          rw [gm (E:=E1) (E':=envG E E1 h.next (nw (v',h1))) z2.ρ low v' hi]
          exact hcv
        | false =>
          rw [hi,cond_false] at ev
          exact rnV_ok z2 _ _ _ ev hcv
      · exact q.elim
    · exact q.elim
def SameA (p0 p:Par) (ρ0:Rho) (o0:AObj) (ρ:Rho) (o:AObj):Prop :=
  (bN o=true→bN o0=true)∧(roO o=true→roO o0=true)∧∀ σ κ n rc heap b,objOk p0 ⟨ρ0,σ,κ,n,rc⟩ b o0 heap→objOk p ⟨ρ,σ,κ,n,rc⟩ b o heap
def SameH (p0 p:Par) (ρ0:Rho) (h0:Heap) (ρ:Rho) (h:Heap):Prop:=h0.next=h.next∧∀ b o,h.get b=some o→∃ o0,h0.get b=some o0∧SameA p0 p ρ0 o0 ρ o
theorem HeapOk.read {p0 p:Par} {ρ0 ρ:Rho} {σ:Nat→Option (Nat × Nat)} {κ:Nat→Nat} {n:Nat} {rc:Nat→Array Value} {h0 h:Heap} {w0:Base} {w:World} (H:HeapOk p0 ⟨ρ0,σ,κ,n,rc⟩ h0 w0 w) (S:SameH p0 p ρ0 h0 ρ h) (hok:p.okB ρ w0):HeapOk p ⟨ρ,σ,κ,n,rc⟩ h w0 w:=by
  obtain ⟨sn,so⟩:=S
  refine ⟨fun b o g=>?_,fun b b' o o' c x y g1 g2 w1 w2 s1 s2=>?_,fun b o c x g hw s=>?_,fun b o c y g hr s=>?_,fun b hb=>H.fresh b (by rw [sn]; exact hb),fun b o c x g s=>?_,H.glob,H.below,by rw [← sn]; exact H.nx,hok⟩
  · obtain ⟨o0,g0,_,_,k⟩:=so b o g
    exact k σ κ n rc w.heap b (H.obj b o0 g0)
  · obtain ⟨o0,a1,a2,_⟩:=so b o g1
    obtain ⟨o0',c1,c2,_⟩:=so b' o' g2
    exact H.inj _ _ _ _ _ _ _ a1 c1 (a2 w1) (c2 w2) s1 s2
  · obtain ⟨o0,a1,a2,_⟩:=so b o g
    exact H.base _ _ _ _ a1 (a2 hw) s
  · obtain ⟨o0,a1,_,a3,_⟩:=so b o g
    exact H.ro _ _ _ _ a1 (a3 hr) s
  · obtain ⟨o0,a1,_⟩:=so b o g
    exact H.lt _ _ _ _ a1 s
theorem CallOk.read {p0 p : Par} (hP : p0.P = p.P) {f : FuncId} {args0 args : List AV} {h0 h : Heap} {t0 t : T (AV × Heap)} (hc : CallOk p0 f args0 h0 t0)
    (H:∀ ρ b,p.okB ρ b→∀ Q:AV × Heap→Prop,t.Holds ρ Q→∃ ρ',p0.okB ρ' b∧SameL ρ args ρ' args0∧SameH p p0 ρ h ρ' h0∧t0.Holds ρ' fun r0=>∃ r,Q r∧SameV ρ' r0.1 ρ r.1∧SameH p0 p ρ' r0.2 ρ r.2):CallOk p f args h t:=by
  intro vs E w0 w Q K k HH ha P
  obtain ⟨ρ',hok,hargs,hh,ht⟩:=H E.ρ w0 HH.ok Q k
  have HH0:HeapOk p0 ⟨ρ',E.σ,E.κ,E.n,E.rc⟩ h0 w0 w:=HeapOk.read (ρ0:=E.ρ) (σ:=E.σ) (κ:=E.κ) (n:=E.n) (rc:=E.rc) HH hh hok
  have ha0:ad ⟨ρ',E.σ,E.κ,E.n,E.rc⟩ args0=some vs:=by
    rw [← hargs E.σ E.κ E.n E.n E.rc E.rc]; exact ha
  have key:=hc vs ⟨ρ',E.σ,E.κ,E.n,E.rc⟩ w0 w _ K ht HH0 ha0 (fun v' h' E1 w' cv q hle H1 hcv=>by
    obtain ⟨r,hq,hv,hs⟩:=q
    have hρ1:E1.ρ=ρ':=hle.ρ
    have H2:HeapOk p ⟨E.ρ,E1.σ,E1.κ,E1.n,E1.rc⟩ r.2 w0 w':=HeapOk.read (ρ0:=ρ') (σ:=E1.σ) (κ:=E1.κ) (n:=E1.n) (rc:=E1.rc) (by rw [← hρ1]; exact H1) hs HH.ok
    refine P r.1 r.2 ⟨E.ρ,E1.σ,E1.κ,E1.n,E1.rc⟩ w' cv hq ⟨⟨rfl,hle.σ,hle.κ,hle.rc⟩,hle.n,hle.none⟩ H2 ?_
    have:=hv E1.σ E1.κ E1.n E1.n E1.rc E1.rc
    rw [← this,← hρ1]; exact hcv)
  rw [hP] at key
  exact key
end Go.Sx
namespace Go.Sx
open Go.RowKit
def mvN (a c b:Nat):Nat:=if b=a then c else b
def Env.mv (a c n:Nat) (E:Env):Env:=⟨E.ρ,fun b=>if b < n then E.σ (mvN a c b) else none,fun b=>E.κ (mvN a c b),n,fun _=>#[]⟩
theorem CallOk.moved {p : Par} {f : FuncId} {args0 args : List AV} {n a c : Nat} {l : List (Nat × AObj)} {v : AV} {h0 : Heap} (hc : CallOk p f args0 (ah n l) (.ret (v, h0)))
    (h1000:1000≤n) (ha:1000≤a) (hv:cP 0 v=true) (hl:∀ g ∈ l,g.1 < n∧bN g.2=false∧idsO 0 g.2=true)
    {h:Heap} (hm:∀ g ∈ l,∃ o,h.get (mvN a c g.1)=some o∧Less g.2 o) (hargs:∀ E:Env,ad (E.mv a c n) args0=ad E args):CallOk p f args h (.ret (v,h)):=by
  intro vs E w0 w Q K k HH hA P
  have k:Q (v,h):=k
  let b1:Base:=Base.of w
  have none0:∀ b,b < 0→(E.mv a c n).σ b=E.σ b∧(E.σ b ≠ none→(E.mv a c n).κ b=E.κ b):=fun b hb=>absurd hb (Nat.not_lt_zero b)
  have mvσ:∀ b q,(E.mv a c n).σ b=some q→b < n∧E.σ (mvN a c b)=some q:=fun b q e=>by
    simp only [Env.mv] at e
    split at e
    · rename_i hb; exact ⟨hb,e⟩
    · cases e
  have lt:∀ b o d x,(ah n l).get b=some o→(E.mv a c n).σ b=some (d,x)→d < w.heap.size:=fun b o d x g s=>by
    obtain ⟨o',h1,_⟩:=hm _ (am _ _ _ _ g)
    exact HH.lt _ _ _ _ h1 (mvσ _ _ s).2
  have HV:HeapOk p (E.mv a c n) (ah n l) b1 w:=by
    refine ⟨fun b o g=>?_,fun b b' o o' d x y g1 g2 w1 w2 s1 s2=>?_,fun b o d x g hw s hd=>?_,fun b o d y g hr s=>lt b o d y g s,fun b hb=>?_,lt,fun b hb=>?_,Kept.refl _ _,(by rw [aw]; exact Nat.le_refl _),HH.ok.mono fun d o e'=>⟨HH.below.lt e'.1,Base.Keeps.has HH.below e'⟩⟩
    · have hmem:=am _ _ _ _ g
      obtain ⟨o',h1,h2⟩:=hm _ hmem
      obtain ⟨h3,_,h4⟩:=hl _ hmem
      have hb:objOk p E (mvN a c b) o w.heap:=h2.obj (HH.obj _ _ h1)
      refine objOk.ids (E:=E) (E':=E.mv a c n) rfl none0 h4 (fun q hq=>⟨?_,rfl⟩) hb
      simp only [Env.mv,if_pos h3]; exact hq
    · have:=(hl _ (am _ _ _ _ g1)).2.1
      have w1:bN o=true:=w1
      have this:bN o=false:=this
      rw [this] at w1; cases w1
    · have:=(hl _ (am _ _ _ _ g)).2.1
      have hw:bN o=true:=hw
      have this:bN o=false:=this
      rw [this] at hw; cases hw
    · rw [aw] at hb
      simp only [Env.mv,if_neg (show ¬ b < n by omega)]
    · have e:mvN a c b=b:=by unfold mvN; rw [if_neg (by omega)]
      simp only [Env.mv,if_pos (show b < n by omega),e]
      exact HH.glob b hb
  refine hc vs (E.mv a c n) b1 w (fun r=>r.1=v) K rfl HV ((hargs E).trans hA) ?_
  intro v' h1 E1 w' cv q hle H1 hcv
  have q:v'=v:=q
  subst q
  refine P v' h E w' cv k (Env.le.refl E) (HH.world (Base.keeps_below H1.below)) ?_
  rw [← hcv]
  exact (gm (n:=0) (E:=E1) (E':=E) hle.ρ.symm (fun b hb=>absurd hb (Nat.not_lt_zero b)) v' hv)
end Go.Sx
namespace Go.Sx
open Go.RowKit
noncomputable def nameM (n c:Nat) (b:Nat):Option Nat:=cond (Nat.beq b n) (some c) none
noncomputable def mvT (n:Nat) (h:Heap) (r:AV × Heap):T (AV × Heap) :=
  match r.2.get n with
  | some o=>cond (and (bN o) (and (idsO 0 o) (idsO n o))) (match rnV (nameM n h.next) r.1 with
    | some v=>.ret (v,h.new o)
    | none=>.fail 98) (.fail 98)
  | none=>.fail 98
theorem CallOk.movedT {p : Par} {f : FuncId} {args0 args : List AV} {n a c : Nat} {l : List (Nat × AObj)} {t : T (AV × Heap)} (hc : CallOk p f args0 (ah n l) t)
    (h1000:1000≤n) (ha:1000≤a) (hl:∀ g ∈ l,g.1 < n∧bN g.2=false∧idsO 0 g.2=true)
    {h:Heap} (hn:n≤h.next) (hm:∀ g ∈ l,∃ o,h.get (mvN a c g.1)=some o∧Less g.2 o) (hargs:∀ E:Env,ad (E.mv a c n) args0=ad E args):CallOk p f args h (t.bind fun r=>mvT n h r):=by
  intro vs E w0 w Q K k HH hA P
  rw [T.holds_bind] at k
  let b1:Base:=Base.of w
  have none0:∀ b,b < 0→(E.mv a c n).σ b=E.σ b∧(E.σ b ≠ none→(E.mv a c n).κ b=E.κ b):=fun b hb=>absurd hb (Nat.not_lt_zero b)
  have mvσ:∀ b q,(E.mv a c n).σ b=some q→b < n∧E.σ (mvN a c b)=some q:=fun b q e=>by
    simp only [Env.mv] at e
    split at e
    · rename_i hb; exact ⟨hb,e⟩
    · cases e
  have lt:∀ b o d x,(ah n l).get b=some o→(E.mv a c n).σ b=some (d,x)→d < w.heap.size:=fun b o d x g s=>by
    obtain ⟨o',h1,_⟩:=hm _ (am _ _ _ _ g)
    exact HH.lt _ _ _ _ h1 (mvσ _ _ s).2
  have HV:HeapOk p (E.mv a c n) (ah n l) b1 w:=by
    refine ⟨fun b o g=>?_,fun b b' o o' d x y g1 g2 w1 w2 s1 s2=>?_,fun b o d x g hw s hd=>?_,fun b o d y g hr s=>lt b o d y g s,fun b hb=>?_,lt,fun b hb=>?_,Kept.refl _ _,(by rw [aw]; exact Nat.le_refl _),HH.ok.mono fun d o e'=>⟨HH.below.lt e'.1,Base.Keeps.has HH.below e'⟩⟩
    · have hmem:=am _ _ _ _ g
      obtain ⟨o',h1,h2⟩:=hm _ hmem
      obtain ⟨h3,_,h4⟩:=hl _ hmem
      have hb:objOk p E (mvN a c b) o w.heap:=h2.obj (HH.obj _ _ h1)
      refine objOk.ids (E:=E) (E':=E.mv a c n) rfl none0 h4 (fun q hq=>⟨?_,rfl⟩) hb
      simp only [Env.mv,if_pos h3]; exact hq
    · have:=(hl _ (am _ _ _ _ g1)).2.1
      have w1:bN o=true:=w1
      have this:bN o=false:=this
      rw [this] at w1; cases w1
    · have:=(hl _ (am _ _ _ _ g)).2.1
      have hw:bN o=true:=hw
      have this:bN o=false:=this
      rw [this] at hw; cases hw
    · rw [aw] at hb
      simp only [Env.mv,if_neg (show ¬ b < n by omega)]
    · have e:mvN a c b=b:=by unfold mvN; rw [if_neg (by omega)]
      simp only [Env.mv,if_pos (show b < n by omega),e]
      exact HH.glob b hb
  refine hc vs (E.mv a c n) b1 w _ K k HV ((hargs E).trans hA) ?_
  intro v' h1 E1 w' cv q hle H1 hcv
  unfold mvT at q
  split at q
  · rename_i o ho
    cases hb:and (bN o) (and (idsO 0 o) (idsO n o)) with
    | false=>rw [hb] at q; exact q.elim
    | true =>
      rw [hb,cond_true] at q
      simp only [Bool.and_eq_true] at hb
      obtain ⟨o1,o2,o3⟩:=hb
      split at q
      · rename_i v ev
        let E2:Env:=⟨E.ρ,fun b=>if b < n then E.σ b else if b=n then E1.σ n else none,fun b=>if b < n then E.κ b else E1.κ b,n + 1,fun _=>#[]⟩
        have hρ:E1.ρ=E.ρ:=hle.ρ
        have g1:∀ b x,(ah (n + 1) [(n,o)]).get b=some x→b=n∧x=o:=fun b x g=>by
          have:=am _ _ _ _ g
          rw [List.mem_singleton] at this
          cases this; exact ⟨rfl,rfl⟩
        have s2:E2.σ n=E1.σ n:=by simp only [E2,if_neg (Nat.lt_irrefl n),if_true]
        have k2:E2.κ n=E1.κ n:=by simp only [E2,if_neg (Nat.lt_irrefl n)]
        have gn:(ah (n + 1) [(n,o)]).get n=some o:=aC (n + 1) [(n,o)] 0 rfl _ List.mem_cons_self
        have H2:HeapOk p E2 (ah (n + 1) [(n,o)]) b1 w':=by
          refine ⟨fun b x g=>?_,fun b b' x x' d y z g2 g3 _ _ _ _=>?_,fun b x d y g hw s hd=>?_,fun b x d y g hr s=>?_,fun b hb=>?_,fun b x d y g s=>?_,fun b hb=>?_,H1.below,?_,?_⟩
          · obtain ⟨rfl,rfl⟩:=g1 b x g
            exact objOk.ids (E:=E1) (E':=E2) hρ.symm (fun b hb=>absurd hb (Nat.not_lt_zero b)) o2 (fun q hq=>⟨s2.trans hq,k2⟩) (H1.obj _ _ ho)
          · rw [(g1 b x g2).1,(g1 b' x' g3).1]
          · obtain ⟨rfl,rfl⟩:=g1 b x g
            exact H1.base _ _ _ _ ho hw (s2.symm.trans s) hd
          · obtain ⟨rfl,rfl⟩:=g1 b x g
            exact H1.ro _ _ _ _ ho hr (s2.symm.trans s)
          · rw [aw] at hb
            simp only [E2,if_neg (show ¬ b < n by omega),if_neg (show ¬ b=n by omega)]
          · obtain ⟨rfl,rfl⟩:=g1 b x g
            exact H1.lt _ _ _ _ ho (s2.symm.trans s)
          · simp only [E2,if_pos (show b < n by omega)]
            exact HH.glob b hb
          · rw [aw]; exact Nat.le_refl _
          · have:=H1.ok; rw [hρ] at this; exact this
        have hcut:(E.cut n).le E2:=by
          refine ⟨⟨rfl,fun b q e=>?_,fun b q e=>?_,fun b q e=>rfl⟩,?_,fun b hb e=>?_⟩
          · simp only [Env.cut] at e
            split at e
            · rename_i hb; simp only [E2,if_pos hb]; exact e
            · cases e
          · simp only [Env.cut] at e
            split at e
            · rename_i hb; simp only [E2,if_pos hb]; rfl
            · cases e
          · simp only [Env.cut,E2]; omega
          · simp only [Env.cut] at hb e
            rw [if_pos hb] at e
            simp only [E2,if_pos hb]; exact e
        have e2:graftN n (gF n h.next [n]) (ah (n + 1) [(n,o)]) [n] h=some (h.new o):=by
          have hmv:Sx.moved n (gF n h.next [n]) o=some o:=by unfold Sx.moved; rw [o3]; rfl
          simp only [graftN,gn,o1,cond_true,hmv]
        have key:=HH.graft (hv:=ah n []) (owns:=[]) (news:=[n]) (fun b x g=>by cases am _ _ _ _ g) (fun b x g=>by cases am _ _ _ _ g) hn
          (fun b=>⟨fun hb=>(List.not_mem_nil hb).elim,fun ⟨x,g,_⟩=>by cases am _ _ _ _ g⟩) (b1:=b1) rfl (fun d=>⟨fun hd=>⟨hd,fun b hb=>(List.not_mem_nil hb).elim⟩,fun hd=>hd.1⟩) H2 hcut (by simp [risesL]) e2
        obtain ⟨z1,z2,z3⟩:=key
        refine P v (h.new o) _ w' cv q z1 z3 ?_
        have hR:RelB (nameM n h.next) E1 (envG E E2 h.next [n]):=by
          refine ⟨hρ.symm,fun b d q hb hq=>?_⟩
          unfold nameM at hb
          cases hbn:Nat.beq b n with
          | false=>rw [hbn] at hb; cases hb
          | true =>
            rw [hbn,cond_true] at hb
            cases hb
            have:=aq.1 hbn
            subst this
            simp only [envG,Nat.lt_irrefl,if_false,Nat.sub_self,List.getElem?_cons_zero]
            exact ⟨s2.trans hq,k2⟩
        exact rnV_ok hR _ _ _ ev hcv
      · exact q.elim
  · exact q.elim
end Go.Sx
namespace Go.Sx
open Go.RowKit
noncomputable def eqPT:PT AV→PT AV→Bool
  | .nil,.nil=>true
  | .node none l r,.node none l' r'=>and (eqPT l l') (eqPT r r')
  | .node (some a) l r,.node (some b) l' r'=>and (eqAV a b) (and (eqPT l l') (eqPT r r'))
  | _,_=>false
theorem eqPT_eq:∀ (t u:PT AV),eqPT t u=true→t=u
  | .nil,u,h=>by cases u with | nil=>rfl | node v l r=>simp [eqPT] at h
  | .node none l r,u,h=>by
    cases u with
    | nil=>simp [eqPT] at h
    | node v l' r'=>cases v with
      | none =>
        simp only [eqPT,Bool.and_eq_true] at h
        rw [eqPT_eq l l' h.1,eqPT_eq r r' h.2]
      | some b=>simp [eqPT] at h
  | .node (some a) l r,u,h=>by
    cases u with
    | nil=>simp [eqPT] at h
    | node v l' r'=>cases v with
      | none=>simp [eqPT] at h
      | some b =>
        simp only [eqPT,Bool.and_eq_true] at h
        rw [dZ a b h.1,eqPT_eq l l' h.2.1,eqPT_eq r r' h.2.2]
def eqSt (a b:LoopState):Bool :=
  match a,b with
  | .ready,.ready=>true
  | .busy,.busy=>true
  | .done,.done=>true
  | .exhausted,.exhausted=>true
  | _,_=>false
theorem eqSt_eq {a b:LoopState} (h:eqSt a b=true):a=b:=by cases a <;> cases b <;> first | rfl | cases h
def eqEx (a b:Ex):Bool :=
  match a,b with
  | .norm,.norm=>true
  | .exit i,.exit j=>Nat.beq i j
  | .ret,.ret=>true
  | _,_=>false
theorem eqEx_eq {a b:Ex} (h:eqEx a b=true):a=b:=by
  cases a <;> cases b <;> first | rfl | (cases h; done) | (rw [aq.1 h])
def eqNs:List Nat→List Nat→Bool
  | [],[]=>true
  | a :: l,b :: m=>and (Nat.beq a b) (eqNs l m)
  | _,_=>false
theorem eqNs_eq:∀ (l m:List Nat),eqNs l m=true→l=m
  | [],[],_=>rfl
  | [],_ :: _,h=>by cases h
  | _ :: _,[],h=>by cases h
  | a :: l,b :: m,h=>by
    simp only [eqNs,Bool.and_eq_true] at h
    rw [aq.1 h.1,eqNs_eq l m h.2]
noncomputable def eqFs:List (Bool × Nat)→List (Bool × Nat)→Bool
  | [],[]=>true
  | a :: l,b :: m=>and (beqB a.1 b.1) (and (Nat.beq a.2 b.2) (eqFs l m))
  | _,_=>false
theorem eqFs_eq:∀ (l m:List (Bool × Nat)),eqFs l m=true→l=m
  | [],[],_=>rfl
  | [],_ :: _,h=>by cases h
  | _ :: _,[],h=>by cases h
  | a :: l,b :: m,h=>by
    simp only [eqFs,Bool.and_eq_true] at h
    obtain ⟨a1,a2⟩:=a; obtain ⟨b1,b2⟩:=b
    have h1:=eN h.1; have h2:=aq.1 h.2.1
    simp only at h1 h2
    rw [h1,h2,eqFs_eq l m h.2.2]
noncomputable def eqKs3:List (BE × IE × IE × IE)→List (BE × IE × IE × IE)→Bool
  | [],[]=>true
  | a :: l,b :: m=>and (and (eqBE a.1 b.1) (keyEq a.2 b.2)) (eqKs3 l m)
  | _,_=>false
theorem eqKs3_eq:∀ (l m:List (BE × IE × IE × IE)),eqKs3 l m=true→l=m
  | [],[],_=>rfl
  | [],_ :: _,h=>by cases h
  | _ :: _,[],h=>by cases h
  | a :: l,b :: m,h=>by
    simp only [eqKs3,Bool.and_eq_true] at h
    rw [show a=b from Prod.ext (dr _ _ h.1.1) (keyEq_eq h.1.2),eqKs3_eq l m h.2]
noncomputable def eqPs (a b:Pres):Bool:=and (Nat.beq a.sure b.sure) (and (eqKs3 a.keys b.keys) (eqNs a.cl b.cl))
theorem eqPs_eq {a b:Pres} (h:eqPs a b=true):a=b:=by
  simp only [eqPs,Bool.and_eq_true] at h
  obtain ⟨h1,h2,h3⟩:=h
  cases a; cases b
  simp only at h1 h2 h3
  rw [aq.1 h1,eqKs3_eq _ _ h2,eqNs_eq _ _ h3]
noncomputable def eqMU (a b:MU):Bool:=and (Nat.beq a.fb b.fb) (and (eqFs a.fi b.fi) (and (beqB a.ag b.ag) (and (Nat.beq a.nk b.nk) (and (beqB a.live b.live) (eqPs a.ps b.ps)))))
theorem eqMU_eq {a b:MU} (h:eqMU a b=true):a=b:=by
  simp only [eqMU,Bool.and_eq_true] at h
  obtain ⟨h1,h2,h3,h4,h5,h6⟩:=h
  cases a; cases b
  simp only at h1 h2 h3 h4 h5 h6
  rw [aq.1 h1,eqFs_eq _ _ h2,eN h3,aq.1 h4,eN h5,eqPs_eq h6]
noncomputable def eqO (a b:AObj):Bool :=
  match a,b with
  | .cells cs el own ext,.cells cs' el' own' ext'=>and (dg cs cs') (and (Nat.beq el el') (and (beqB own own') (beqB ext ext')))
  | .umap m,.umap m'=>eqMU m m'
  | .loop st p f tm ps c d,.loop st' p' f' tm' ps' c' d'=>and (eqSt st st') (and (eqEx p p') (and (Nat.beq f f') (and (eqPT tm tm') (and (eqNs ps ps') (and (Nat.beq c c') (Nat.beq d d'))))))
  | .defd a,.defd b=>beqB a b
  | _,_=>false
theorem eqO_eq {a b:AObj} (h:eqO a b=true):a=b:=by
  cases a <;> cases b <;> simp only [eqO,Bool.and_eq_true] at h <;> first | (cases h; done) | skip
  · rw [eqMU_eq h]
  · rw [aZ _ _ h.1,aq.1 h.2.1,eN h.2.2.1,eN h.2.2.2]
  · obtain ⟨h1,h2,h3,h4,h5,h6,h7⟩:=h
    rw [eqSt_eq h1,eqEx_eq h2,aq.1 h3,eqPT_eq _ _ h4,eqNs_eq _ _ h5,aq.1 h6,aq.1 h7]
  · rw [eN h]
noncomputable def isO (o:Option AObj) (q:AObj):Bool :=
  match o with
  | some x=>eqO x q
  | none=>false
theorem gC {o:Option AObj} {q:AObj} (h:isO o q=true):o=some q:=by
  cases o with
  | none=>cases h
  | some x=>rw [eqO_eq h]
noncomputable def lessO (q:AObj) (o:Option AObj):Bool :=
  match o with
  | none=>false
  | some x=>cond (eqO x q) true (match q,x with
    | .cells cs 0 false false,.cells cs' _ _ _=>dg cs' cs
    | .umap m,.umap m'=>eqMU m'.dull m
    | _,_=>false)
theorem lessO_ok {q:AObj} {o:Option AObj} (h:lessO q o=true):∃ x,o=some x∧Less q x:=by
  cases o with
  | none=>cases h
  | some x =>
    refine ⟨x,rfl,?_⟩
    simp only [lessO] at h
    cases h1:eqO x q with
    | true=>rw [eqO_eq h1]; exact .refl _
    | false =>
      rw [h1,cond_false] at h
      split at h
      · rw [aZ _ _ h]; exact .read _ _ _ _
      · rw [← eqMU_eq h]; exact .dull _
      · cases h
theorem SameA.refl {P:Program} {RC:Nat→Nat→List Nat→Code→Code→Prop} {ok ok':Rho→(Nat→Obj→Prop)→Prop} {ρ:Rho} (o:AObj):SameA ⟨P,RC,ok⟩ ⟨P,RC,ok'⟩ ρ o ρ o :=
  ⟨fun h=>h,fun h=>h,fun σ κ n rc heap b h=>by cases o <;> exact h⟩
theorem SameA.cells {p0 p:Par} {ρ0 ρ:Rho} {cs0 cs:List AV} {el:TypeId} {own ext:Bool} (hP:p0.P=p.P) (h:SameL ρ0 cs0 ρ cs):SameA p0 p ρ0 (.cells cs0 el own ext) ρ (.cells cs el own ext) :=
  ⟨fun h=>h,fun h=>h,fun σ κ n rc heap b ⟨c,base,vs,cells,el',fz,k1,k2,k3,k4,k5⟩=>⟨c,base,vs,cells,el',fz,k1,(h σ κ n n rc rc).symm.trans k2,k3,k4,by rw [← hP]; exact k5⟩⟩
theorem SameA.empty {p0 p:Par} {ρ0 ρ:Rho} {k:Nat} {m:MU} (hm:m.live=false) (hk:m.ps.keys=[]:=by rfl) (hs:m.ps.sure ≠ 0→∀ a b c,FB ρ.fb m.ps.sure a b c=false:=by exact fun h=>absurd rfl h):SameA p0 p ρ0 (.map [] k) ρ (.umap m) :=
  ⟨fun _=>rfl,fun h=>(by cases h),fun σ κ n rc heap b ⟨c,ms,k1,k2,k3⟩=>⟨c,[],ms,k,k1,(by cases ms with | nil=>trivial | cons _ _=>exact k2.elim),k3,fun e he=>(by cases he),(fun h=>by rw [hm] at h; cases h),(fun h a b c hb=>by rw [hs h] at hb; cases hb),(fun f hf=>by rw [hk] at hf; cases hf),fun _ _ _ _ _ _ _ _ _ ⟨_,he,_⟩=>by cases he⟩⟩
mutual
theorem conc_bare {ρ:Rho} {σ:Nat→Option (Nat × Nat)} {κ:Nat→Nat} {n m:Nat} {rc rc':Nat→Array Value}:∀ (a:AV),af ⟨ρ,σ,κ,n,rc⟩ a=af ⟨ρ,σ,κ,m,rc'⟩ a
  | .bool _=>rfl
  | .int _ _=>rfl
  | .ptr _ _=>rfl
  | .nilptr=>rfl
  | .slice _ _ _ _=>rfl
  | .sliceX _ _ _ _=>rfl
  | .nilslice=>rfl
  | .map _=>rfl
  | .nilmap=>rfl
  | .func fn x y=>by simp only [af,show ad ⟨ρ,σ,κ,n,rc⟩ x=ad ⟨ρ,σ,κ,m,rc'⟩ x from ey x,show ad ⟨ρ,σ,κ,n,rc⟩ y=ad ⟨ρ,σ,κ,m,rc'⟩ y from ey y]
  | .yieldF _=>rfl
  | .nilFunc=>rfl
  | .agg l=>by simp only [af,show ad ⟨ρ,σ,κ,n,rc⟩ l=ad ⟨ρ,σ,κ,m,rc'⟩ l from ey l]
  | .tup l=>by simp only [af,show ad ⟨ρ,σ,κ,n,rc⟩ l=ad ⟨ρ,σ,κ,m,rc'⟩ l from ey l]
  | .opq _=>rfl
  | .sliceU _=>rfl
  | .sliceV _ _=>rfl
  | .ptrV _ _ _ _ _=>rfl
  | .bad=>rfl
theorem ey {ρ:Rho} {σ:Nat→Option (Nat × Nat)} {κ:Nat→Nat} {n m:Nat} {rc rc':Nat→Array Value}:∀ (l:List AV),ad ⟨ρ,σ,κ,n,rc⟩ l=ad ⟨ρ,σ,κ,m,rc'⟩ l
  | []=>rfl
  | a :: l=>by simp only [ad,show af ⟨ρ,σ,κ,n,rc⟩ a=af ⟨ρ,σ,κ,m,rc'⟩ a from conc_bare a,show ad ⟨ρ,σ,κ,n,rc⟩ l=ad ⟨ρ,σ,κ,m,rc'⟩ l from ey l]
end
theorem SameV.refl (ρ:Rho) (v:AV):SameV ρ v ρ v:=fun _ _ _ _ _ _=>conc_bare v
theorem SameL.refl (ρ:Rho) (l:List AV):SameL ρ l ρ l:=fun _ _ _ _ _ _=>ey l
noncomputable def eqTF (t u:T AV):Bool :=
  match t,u with
  | .ret a,.ret b=>eqAV a b
  | .fail a,.fail b=>Nat.beq a b
  | .br c x y,.br c' x' y'=>and (eqBE c c') (and (eqTF x x') (eqTF y y'))
  | _,_=>false
theorem ea:∀ (t u:T AV),eqTF t u=true→t=u
  | .ret a,u,h=>by
    cases u <;> simp only [eqTF] at h <;> first | (cases h; done) | skip
    rw [dZ _ _ h]
  | .fail w,u,h=>by
    cases u <;> simp only [eqTF] at h <;> first | (cases h; done) | skip
    rw [aq.1 h]
  | .br c x y,u,h=>by
    cases u <;> simp only [eqTF,Bool.and_eq_true] at h <;> first | (cases h; done) | skip
    rw [dr _ _ h.1,ea x _ h.2.1,ea y _ h.2.2]
theorem T.holds_enc {α:Type} {ρ:Rho} {t:T α} {enc:α→AV} {u:T AV} (h:(t.bind fun r=>T.ret (enc r))=u) {P:α→Prop} (k:u.Holds ρ fun a=>∀ r,enc r=a→P r):t.Holds ρ P:=by
  rw [← h,T.holds_bind] at k
  exact T.holds_mono (fun r hr=>hr r rfl) k
def Rho.setB (ρ:Rho) (i:Nat) (B:Int→Int→Int→Bool):Rho:=⟨ρ.iv,ρ.bv,ρ.fi,fun j=>if j=i then B else ρ.fb j,ρ.ov⟩
noncomputable def Pres.clear (s:Pres) (i:Nat):Bool:=and s.keys.isEmpty (and (Bool.not (Nat.beq s.sure i)) (bz (fun j=>Bool.not (Nat.beq j i)) s.cl))
theorem PresOk.setB {ρ:Rho} {m:MU} {es:List (AV × AV × Nat)} (H:PresOk ρ m es) {i:Nat} {B:Int→Int→Int→Bool} (h:m.ps.clear i=true):PresOk (ρ.setB i B) m es:=by
  simp only [Pres.clear,Bool.and_eq_true,List.isEmpty_iff,Bool.not_eq_true'] at h
  obtain ⟨h1,h2,h3⟩:=h
  have hne:∀ j,Nat.beq j i=false→∀ a b c,FB (ρ.setB i B).fb j a b c=FB ρ.fb j a b c:=fun j hj a b c=>by
    unfold FB Rho.setB
    simp only [if_neg (Nat.ne_of_beq_eq_false hj)]
  refine ⟨fun k a b c hb=>H.1 k a b c (by rw [← hne _ h2]; exact hb),(fun f hf=>by rw [h1] at hf; cases hf),fun e p x y hc h3' a b c ha he hp=>?_⟩
  have he':=av h3 e (by rw [hc]; simp)
  rw [hne e (by simpa using he')] at he
  exact H.2.2 e p x y hc h3' a b c ha he hp
theorem UOk.live {ρ:Rho} {m:MU} {es:List (AV × AV × Nat)} (h:UOk ρ m.dull es) (h1:1000≤m.fb) (hfi:∀ q ∈ m.fi,q.2 ≠ m.fb) (hps:m.ps.clear m.fb=true):∃ B,UOk (ρ.setB m.fb B) m es:=by
  classical
  refine ⟨fun a b c=>decide (∃ e ∈ es,e.1=eX m.nk a b c),fun e he=>?_,fun _ a b c _ _=>?_,PresOk.setB (m:=m) h.2.2 hps⟩
  · obtain ⟨a,b,c,k1,k2,k3,k4⟩:=h.1 e he
    refine ⟨a,b,c,k1,k2,k3,k4.trans ?_⟩
    have hc:∀ q ∈ m.fi,aU ρ a b c q=aU (ρ.setB m.fb fun a b c=>decide (∃ e ∈ es,e.1=eX m.nk a b c)) a b c q:=fun q hq=>by
      unfold aU FB FI Rho.setB
      simp only [if_neg (hfi q hq)]
    unfold bT MU.dull
    simp only
    rw [List.map_congr_left hc]
    cases m.ag with
    | true=>rfl
    | false =>
      simp only [cond_false]
      have:=hc
      revert this
      cases m.fi with
      | nil=>intro _; rfl
      | cons q l=>cases l with
        | nil=>intro hh; exact hh q List.mem_cons_self
        | cons _ _=>intro _; rfl
  · unfold FB Rho.setB
    simp only [if_pos h1,if_true,decide_eq_true_eq]
theorem CallOk.live {p : Par} {f : FuncId} {args : List AV} {h : Heap} {t : T (AV × Heap)} {b : Nat} {m : MU} (h1 : 1000 ≤ m.fb) (hfi : ∀ q ∈ m.fi, q.2 ≠ m.fb) (hc : CallOk p f args (h.put b (.umap m)) t)
    (hst:∀ ρ B c,p.okB ρ c→p.okB (ρ.setB m.fb B) c) (hargs:∀ ρ B,SameL ρ args (ρ.setB m.fb B) args) (hh:∀ ρ B j o,j ≠ b→h.get j=some o→SameA p p ρ o (ρ.setB m.fb B) o)
    (ht:∀ ρ B (Q:AV × Heap→Prop),t.Holds ρ Q→t.Holds (ρ.setB m.fb B) fun r0=>∃ r,Q r∧SameV (ρ.setB m.fb B) r0.1 ρ r.1∧SameH p p (ρ.setB m.fb B) r0.2 ρ r.2) (hps:m.ps.clear m.fb=true:=by rfl):CallOk p f args (h.put b (.umap m.dull)) t:=by
  intro vs E w0 w Q K k HH ha P
  have hg:(h.put b (.umap m.dull)).get b=some (.umap m.dull):=by rw [Heap.get_put,if_pos rfl]
  obtain ⟨c,es,ms,clock,g1,g2,g3,g4⟩:=HH.obj _ _ hg
  obtain ⟨B,hU⟩:=g4.live h1 hfi hps
  let E':Env:=⟨E.ρ.setB m.fb B,E.σ,E.κ,E.n,E.rc⟩
  have back:∀ j o,(h.put b (.umap m)).get j=some o→∃ o0,(h.put b (.umap m.dull)).get j=some o0∧bN o0=bN o∧roO o0=roO o:=fun j o g=>by
    rw [Heap.get_put] at g
    rw [Heap.get_put]
    by_cases hj:j=b
    · rw [if_pos hj] at g ⊢; cases g; exact ⟨_,rfl,rfl,rfl⟩
    · rw [if_neg hj] at g ⊢; exact ⟨o,g,rfl,rfl⟩
  have HH':HeapOk p E' (h.put b (.umap m)) w0 w:=by
    refine ⟨fun j o g=>?_,fun j j' o o' c x y k1 k2 w1 w2 s1 s2=>?_,fun j o c x g hw s=>?_,fun j o c y g hr s=>?_,HH.fresh,fun j o c x g s=>?_,HH.glob,HH.below,HH.nx,hst _ _ _ HH.ok⟩
    · by_cases hj:j=b
      · subst hj
        rw [Heap.get_put,if_pos rfl] at g; cases g
        have lit:∀ (es:List (AV × AV × Nat)) (ms:List MapEntry),(∀ e ∈ es,∃ a b c,(m.nk < 2→b=0)∧(m.nk < 3→c=0)∧e.1=eX m.nk a b c∧e.2.1=bT (E.ρ.setB m.fb B) m a b c)→bG E es ms→bG E' es ms:=by
          intro es
          induction es with
          | nil=>intro ms _ h; cases ms with | nil=>trivial | cons _ _=>exact h.elim
          | cons e es ih =>
            intro ms hl h
            cases ms with
            | nil=>exact h.elim
            | cons m' ms =>
              obtain ⟨q1,q2,q3,q4⟩:=h
              obtain ⟨x,y,z,_,_,e1,e2⟩:=hl e List.mem_cons_self
              have hk:af E' e.1=af E e.1:=by rw [e1]; unfold eX; split <;> rfl
              have hc:∀ q,af E' (aU (E.ρ.setB m.fb B) x y z q)=af E (aU (E.ρ.setB m.fb B) x y z q):=fun q=>by unfold aU; cases q.1 <;> rfl
              have hcs:∀ l:List (Bool × Nat),ad E' (l.map (aU (E.ρ.setB m.fb B) x y z))=ad E (l.map (aU (E.ρ.setB m.fb B) x y z)):=fun l=>by
                induction l with
                | nil=>rfl
                | cons q l ih=>simp only [List.map_cons,ad,hc,ih]
              have hv:af E' e.2.1=af E e.2.1:=by
                rw [e2]; unfold bT
                cases m.ag with
                | true=>simp only [cond_true,af,hcs]
                | false =>
                  simp only [cond_false]
                  cases m.fi with
                  | nil=>rfl
                  | cons q l=>cases l with
                    | nil=>exact hc q
                    | cons _ _=>rfl
              exact ⟨hk.trans q1,hv.trans q2,q3,ih ms (fun e' he'=>hl e' (List.mem_cons_of_mem _ he')) q4⟩
        exact ⟨c,es,ms,clock,g1,lit es ms hU.1 g2,g3,hU⟩
      · have g':h.get j=some o:=by rw [Heap.get_put,if_neg hj] at g; exact g
        have g0:(h.put b (.umap m.dull)).get j=some o:=by rw [Heap.get_put,if_neg hj]; exact g'
        exact (hh E.ρ B j o hj g').2.2 E.σ E.κ E.n E.rc w.heap j (HH.obj j o g0)
    · obtain ⟨o1,a1,a2,_⟩:=back j o k1
      obtain ⟨o2,c1,c2,_⟩:=back j' o' k2
      exact HH.inj _ _ _ _ _ _ _ a1 c1 (a2.trans w1) (c2.trans w2) s1 s2
    · obtain ⟨o1,a1,a2,_⟩:=back j o g
      exact HH.base _ _ _ _ a1 (a2.trans hw) s
    · obtain ⟨o1,a1,_,a3⟩:=back j o g
      exact HH.ro _ _ _ _ a1 (a3.trans hr) s
    · obtain ⟨o1,a1,_⟩:=back j o g
      exact HH.lt _ _ _ _ a1 s
  have ha':ad E' args=some vs:=by rw [← hargs E.ρ B E.σ E.κ E.n E.n E.rc E.rc]; exact ha
  refine hc vs E' w0 w _ K (ht E.ρ B Q k) HH' ha' ?_
  intro v' h' E1 w' cv q hle H1 hcv
  obtain ⟨r,hq,hv,hs⟩:=q
  have hρ1:E1.ρ=E.ρ.setB m.fb B:=hle.ρ
  have H2:HeapOk p ⟨E.ρ,E1.σ,E1.κ,E1.n,E1.rc⟩ r.2 w0 w':=HeapOk.read (ρ0:=E.ρ.setB m.fb B) (σ:=E1.σ) (κ:=E1.κ) (n:=E1.n) (rc:=E1.rc) (by rw [← hρ1]; exact H1) hs HH.ok
  refine P r.1 r.2 ⟨E.ρ,E1.σ,E1.κ,E1.n,E1.rc⟩ w' cv hq ⟨⟨rfl,hle.σ,hle.κ,hle.rc⟩,hle.n,hle.none⟩ H2 ?_
  rw [← hv E1.σ E1.κ E1.n E1.n E1.rc E1.rc,← hρ1]; exact hcv
end Go.Sx
namespace Go.Sx
open Go.RowKit
def YieldOk (p:Par) (l:Nat) (args:List AV) (h:Heap) (t:T (AV × Heap)):Prop :=
  ∀ vs E w0 w Q K q,t.Holds E.ρ Q→HeapOk p E h w0 w→ad E args=some vs→E.σ l=some q→Post p E w0 Q K→Does p.P ((Instr.yield q.1 vs.toArray).run p.P w) K
noncomputable def evalY (tb:hI) (yo:Nat→List AV→Heap→Option (T (AV × Heap))) (d:Nat):Bool→Nat→List AV→Heap→T (AV × Heap) :=
  @Nat.rec (fun _=>Bool→Nat→List AV→Heap→T (AV × Heap)) (fun _ _ _ _=>.fail 80)
    (fun _ ih isYield f args h =>
      cond isYield (match yo f args h with
        | some t=>t
        | none=>fK tb ⟨ih false,ih true,tb.loops⟩ f args h)
        (match tb.orc f args h with
        | some t=>t
        | none=>callBody tb ⟨ih false,ih true,tb.loops⟩ f args h)) d
theorem evalY_ok {p:Par} {ty:Nat→Option TI} {tb:hI} (B:b8 p ty tb) {yo:Nat→List AV→Heap→Option (T (AV × Heap))} (Y:∀ l args h t,yo l args h=some t→YieldOk p l args h t):∀ d,CxOk p ⟨evalY tb yo d false,evalY tb yo d true,tb.loops⟩
  | 0=>⟨fun f args h vs E w0 w Q K k=>k.elim,fun f args h vs E w0 w Q K q k=>k.elim⟩
  | d + 1=>by
    have ih:=evalY_ok B Y d
    refine ⟨fun f args h vs E w0 w Q K k=>?_,fun l args h vs E w0 w Q K q k=>?_⟩
    · have k' : (match tb.orc f args h with
        | some t=>t
        | none=>callBody tb ⟨evalY tb yo d false,evalY tb yo d true,tb.loops⟩ f args h).Holds E.ρ Q:=k
      cases ho:tb.orc f args h with
      | some t =>
        rw [ho] at k'
        exact B.orc f args h t ho vs E w0 w Q K k'
      | none =>
        rw [ho] at k'
        exact callBody_ok B ih f args h vs E w0 w Q K k'
    · have k' : (match yo l args h with
        | some t=>t
        | none=>fK tb ⟨evalY tb yo d false,evalY tb yo d true,tb.loops⟩ l args h).Holds E.ρ Q:=k
      cases ho:yo l args h with
      | some t =>
        rw [ho] at k'
        exact Y l args h t ho vs E w0 w Q K q k'
      | none =>
        rw [ho] at k'
        exact yieldBody_ok B ih l args h vs E w0 w Q K q k'
theorem callY_ok {p:Par} {ty:Nat→Option TI} {tb:hI} (B:b8 p ty tb) {yo:Nat→List AV→Heap→Option (T (AV × Heap))} (Y:∀ l args h t,yo l args h=some t→YieldOk p l args h t) (d:Nat) (f:FuncId) (args:List AV) (h:Heap):CallOk p f args h (evalY tb yo d false f args h) :=
  fun vs E w0 w Q K k HH ha P=>(evalY_ok B Y d).call f args h vs E w0 w Q K k HH ha P
theorem yield_ok {p:Par} {ty:Nat→Option TI} {tb:hI} (B:b8 p ty tb) (d:Nat) (l:Nat) (args:List AV) (h:Heap):YieldOk p l args h (b7 tb d true l args h) :=
  fun vs E w0 w Q K q k HH ha hq P=>(evalN_ok B d).yield l args h vs E w0 w Q K q k HH ha hq P
theorem YieldOk.read {p : Par} {l : Nat} {args : List AV} {h : Heap} {t0 t : T (AV × Heap)} (hc : YieldOk p l args h t0)
    (H:∀ ρ b,p.okB ρ b→∀ Q:AV × Heap→Prop,t.Holds ρ Q→t0.Holds ρ fun r0=>∃ r,Q r∧SameV ρ r0.1 ρ r.1∧SameH p p ρ r0.2 ρ r.2):YieldOk p l args h t:=by
  intro vs E w0 w Q K q k HH ha hq P
  have ht:=H E.ρ w0 HH.ok Q k
  refine hc vs E w0 w _ K q ht HH ha hq fun v' h' E1 w' cv q hle H1 hcv=>?_
  obtain ⟨r,hr,hv,hs⟩:=q
  have hρ1:E1.ρ=E.ρ:=hle.ρ
  have H2:HeapOk p ⟨E.ρ,E1.σ,E1.κ,E1.n,E1.rc⟩ r.2 w0 w':=HeapOk.read (ρ0:=E.ρ) (σ:=E1.σ) (κ:=E1.κ) (n:=E1.n) (rc:=E1.rc) (by rw [← hρ1]; exact H1) hs HH.ok
  refine P r.1 r.2 ⟨E.ρ,E1.σ,E1.κ,E1.n,E1.rc⟩ w' cv hr ⟨⟨rfl,hle.σ,hle.κ,hle.rc⟩,hle.n,hle.none⟩ H2 ?_
  have:=hv E1.σ E1.κ E1.n E1.n E1.rc E1.rc
  rw [← this,← hρ1]; exact hcv
theorem YieldOk.frame {p : Par} {l0 : Nat} {args : List AV} {n : Nat} {l : List (Nat × AObj)} {t : T (AV × Heap)} (hc : YieldOk p l0 args (ah n l) t) (hl0 : l0 < n) (h1000 : 1000 ≤ n) (hids : aW n args = true) (hv : ba n l = true)
    {h:Heap} (hl:∀ g ∈ l,∃ o,h.get g.1=some o∧Less g.2 o) (hn:n≤h.next) (nw:AV × Heap→List Nat):YieldOk p l0 args h (t.bind fun r=>bV n l h (nw r) r):=by
  intro vs E w0 w Q K q0 k HH ha hq0 P
  rw [T.holds_bind] at k
  let b1:Base:=⟨w,fun c=>c < w.heap.size∧∀ b ∈ hM l,∀ x,E.σ b ≠ some (c,x),fun _ h=>h.1⟩
  have HV:=view_heapOk HH hv hn h1000 hl b1 rfl
  have hσ:∀ b,b < n→(E.cut n).σ b=E.σ b∧(E.σ b ≠ none→(E.cut n).κ b=E.κ b):=fun b hb=>⟨by simp only [Env.cut,if_pos hb],fun _=>rfl⟩
  have ha':ad (E.cut n) args=some vs:=by rw [cH (E:=E) (E':=E.cut n) rfl hσ args hids]; exact ha
  unfold ba at hv
  simp only [Bool.and_eq_true] at hv
  obtain ⟨hup,hall⟩:=hv
  refine hc vs (E.cut n) b1 w _ K q0 k HV ha' ((hσ l0 hl0).1.trans hq0) ?_
  intro v' h1 E1 w' cv q hle H1 hcv
  unfold bV at q
  cases hr:risesL n (nw (v',h1)) with
  | false=>rw [hr] at q; exact q.elim
  | true =>
    rw [hr,cond_true] at q
    split at q
    · rename_i h2 e2
      split at q
      · rename_i v ev
        have key := HH.graft (hv := ah n l) (owns := hM l) (fun b o g => by
            obtain ⟨o',k1,k2⟩:=hl _ (am _ _ _ _ g)
            exact ⟨o',k1,k2.own⟩) (fun b o g=>by
            have:=av hall _ (am _ _ _ _ g)
            simp only [Bool.and_eq_true] at this
            exact aD.1 this.1) hn (fun b=>by
            rw [dF]
            exact ⟨fun ⟨o,k1,k2⟩=>⟨o,aC n l 0 hup _ k1,k2⟩,fun ⟨o,k1,k2⟩=>⟨o,am _ _ _ _ k1,k2⟩⟩) (b1:=b1) rfl (fun c=>Iff.rfl) H1 hle hr e2
        obtain ⟨z1,z2,z3⟩:=key
        refine P v _ _ w' cv q z1 z3 ?_
        unfold graftV at ev
        cases hi:cP n v' with
        | true =>
          rw [hi,cond_true] at ev; cases ev
          have low:∀ b,b < n→(envG E E1 h.next (nw (v',h1))).σ b=E1.σ b∧(E1.σ b ≠ none→(envG E E1 h.next (nw (v',h1))).κ b=E1.κ b):=fun b hb=>by
            have hbn:b < h.next:=by omega
            have hcs:(E.cut n).σ b=E.σ b:=(hσ b hb).1
            have e1:(envG E E1 h.next (nw (v',h1))).σ b=E.σ b:=by simp only [envG,if_pos hbn]
            have e2:(envG E E1 h.next (nw (v',h1))).κ b=E.κ b:=by simp only [envG,if_pos hbn]
            cases hs:E.σ b with
            | none=>exact ⟨by rw [e1,hs,hle.none b hb (hcs.trans hs)],fun hne=>absurd (hle.none b hb (hcs.trans hs)) hne⟩
            | some q=>exact ⟨by rw [e1,hs,hle.σ b q (hcs.trans hs)],fun _=>by rw [e2]; exact (hle.κ b q (hcs.trans hs)).symm⟩
          rw [gm (E:=E1) (E':=envG E E1 h.next (nw (v',h1))) z2.ρ low v' hi]
          exact hcv
        | false =>
          rw [hi,cond_false] at ev
          exact rnV_ok z2 _ _ _ ev hcv
      · exact q.elim
    · exact q.elim
end Go.Sx
namespace Go.Sx
open Go.RowKit
theorem SameA.umapK {p0 p : Par} {ρ : Rho} {m m' : MU} (hfi : m'.fi = m.fi) (hag : m'.ag = m.ag) (hnk : m'.nk = m.nk) (hl : m'.live = false) (hs : m'.ps.sure = m.ps.sure ∨ m'.ps.sure = 0) (hc : m'.ps.cl = m.ps.cl)
    (hk:∀ f ∈ m'.ps.keys,f.1.den ρ=true→∃ g ∈ m.ps.keys,g.1.den ρ=true∧g.2.1.den ρ=f.2.1.den ρ∧g.2.2.1.den ρ=f.2.2.1.den ρ∧g.2.2.2.den ρ=f.2.2.2.den ρ):SameA p0 p ρ (.umap m) ρ (.umap m'):=by
  refine ⟨fun _=>rfl,fun h=>absurd h (by simp [roO]),fun σ κ n rc heap b ⟨c,es,ms,k,k1,k2,k3,k4⟩=>⟨c,es,ms,k,k1,k2,k3,?_⟩⟩
  have hv:∀ a b c,bT ρ m' a b c=bT ρ m a b c:=fun a b c=>by unfold bT; rw [hfi,hag]
  have hhas:∀ a b c,m'.Has es a b c ↔ m.Has es a b c:=fun a b c=>by unfold MU.Has; rw [hnk]
  refine ⟨fun e he=>?_,(fun h=>by rw [hl] at h; cases h),fun h a b c hb=>?_,fun f hf hd=>?_,fun e p x y h h3 a b c h1 h2 h4=>?_⟩
  · obtain ⟨a,b,c,z1,z2,z3,z4⟩:=k4.1 e he
    exact ⟨a,b,c,by rw [hnk]; exact z1,by rw [hnk]; exact z2,by rw [hnk]; exact z3,by rw [hv]; exact z4⟩
  · rw [hhas]
    rcases hs with hs | hs
    · rw [hs] at h hb; exact k4.2.2.1 h a b c hb
    · exact absurd hs h
  · obtain ⟨g,g1,g2,g3,g4,g5⟩:=hk f hf hd
    rw [hhas,← g3,← g4,← g5]
    exact k4.2.2.2.1 g g1 g2
  · rw [hhas] at h1 ⊢
    rw [hc] at h; rw [hnk] at h3
    exact k4.2.2.2.2 e p x y h h3 a b c h1 h2 h4
theorem SameA.umapL {p0 p : Par} {ρ : Rho} {m m' : MU} (hfi : m'.fi = m.fi) (hag : m'.ag = m.ag) (hnk : m'.nk = m.nk) (hn3 : m.nk = 3) (hlive : m.live = true) (hl : m'.live = false) (hs : m'.ps.sure = m.ps.sure) (hc : m'.ps.cl = m.ps.cl)
    (hk:∀ f ∈ m'.ps.keys,f.1.den ρ=true→FB ρ.fb m.fb (f.2.1.den ρ) (f.2.2.1.den ρ) (f.2.2.2.den ρ)=true):SameA p0 p ρ (.umap m) ρ (.umap m'):=by
  refine ⟨fun _=>rfl,fun h=>absurd h (by simp [roO]),fun σ κ n rc heap b ⟨c,es,ms,k,k1,k2,k3,k4⟩=>⟨c,es,ms,k,k1,k2,k3,?_⟩⟩
  have hv:∀ a b c,bT ρ m' a b c=bT ρ m a b c:=fun a b c=>by unfold bT; rw [hfi,hag]
  have hhas:∀ a b c,m'.Has es a b c ↔ m.Has es a b c:=fun a b c=>by unfold MU.Has; rw [hnk]
  refine ⟨fun e he=>?_,(fun h=>by rw [hl] at h; cases h),fun h a b c hb=>?_,fun f hf hd=>?_,fun e p x y h h3 a b c h1 h2 h4=>?_⟩
  · obtain ⟨a,b,c,z1,z2,z3,z4⟩:=k4.1 e he
    exact ⟨a,b,c,by rw [hnk]; exact z1,by rw [hnk]; exact z2,by rw [hnk]; exact z3,by rw [hv]; exact z4⟩
  · rw [hhas]
    rw [hs] at h hb; exact k4.2.2.1 h a b c hb
  · rw [hhas]
    exact (k4.2.1 hlive _ _ _ (fun h=>by omega) (fun h=>by omega)).1 (hk f hf hd)
  · rw [hhas] at h1 ⊢
    rw [hc] at h; rw [hnk] at h3
    exact k4.2.2.2.2 e p x y h h3 a b c h1 h2 h4
def MU.Known (m:MU) (ρ:Rho) (a b c:Int):Prop:=(m.ps.sure ≠ 0∧FB ρ.fb m.ps.sure a b c=true) ∨ ∃ g ∈ m.ps.keys,g.1.den ρ=true∧g.2.1.den ρ=a∧g.2.2.1.den ρ=b∧g.2.2.2.den ρ=c
theorem SameA.umapS {p0 p : Par} {ρ0 ρ : Rho} {m m' : MU} (hfi : m'.fi = m.fi) (hag : m'.ag = m.ag) (hnk : m'.nk = m.nk) (hl : m'.live = false) (hc : m'.ps.cl = m.ps.cl) (hF : ρ.fi = ρ0.fi)
    (hB:∀ q ∈ m.fi,q.1=true→ρ.fb q.2=ρ0.fb q.2) (hE:∀ e ∈ m.ps.cl,ρ.fb e=ρ0.fb e) (hk:∀ a b c,m'.Known ρ a b c→m.Known ρ0 a b c):SameA p0 p ρ0 (.umap m) ρ (.umap m'):=by
  refine ⟨fun _=>rfl,fun h=>absurd h (by simp [roO]),fun σ κ n rc heap b ⟨c,es,ms,k,k1,k2,k3,k4⟩=>?_⟩
  have hcell:∀ (a b c:Int) (q:Bool × Nat),q ∈ m.fi→aU ρ a b c q=aU ρ0 a b c q:=fun a b c q hq=>by
    unfold aU
    cases hq1:q.1 with
    | true=>simp only [cond_true,FB,hB q hq hq1]
    | false=>simp only [cond_false,hF]
  have hv:∀ a b c,bT ρ m' a b c=bT ρ0 m a b c:=fun a b c=>by
    unfold bT
    rw [hfi,hag,List.map_congr_left (hcell a b c)]
    cases m.ag with
    | true=>rfl
    | false =>
      simp only [cond_false]
      have:=hcell a b c
      revert this
      cases m.fi with
      | nil=>intro _; rfl
      | cons q l=>cases l with
        | nil=>intro hh; exact hh q List.mem_cons_self
        | cons _ _=>intro _; rfl
  have hhas:∀ a b c,m'.Has es a b c ↔ m.Has es a b c:=fun a b c=>by unfold MU.Has; rw [hnk]
  have has:∀ a b c,m'.Known ρ a b c→m'.Has es a b c:=fun a b c h=>by
    rw [hhas]
    rcases hk a b c h with ⟨h1,h2⟩ | ⟨g,h1,h2,h3,h4,h5⟩
    · exact k4.2.2.1 h1 a b c h2
    · have:=k4.2.2.2.1 g h1 h2
      rw [h3,h4,h5] at this; exact this
  have hU:UOk ρ m' es:=by
    refine ⟨fun e he=>?_,(fun h=>by rw [hl] at h; cases h),fun h a b c hb=>has a b c (.inl ⟨h,hb⟩),fun f hf hd=>has _ _ _ (.inr ⟨f,hf,hd,rfl,rfl,rfl⟩),fun e p x y h h3 a b c h1 h2 h4=>?_⟩
    · obtain ⟨a,b,c,z1,z2,z3,z4⟩:=k4.1 e he
      exact ⟨a,b,c,by rw [hnk]; exact z1,by rw [hnk]; exact z2,by rw [hnk]; exact z3,by rw [hv]; exact z4⟩
    · rw [hhas] at h1 ⊢
      rw [hc] at h; rw [hnk] at h3
      have e1:∀ a b c,FB ρ.fb e a b c=FB ρ0.fb e a b c:=fun a b c=>by unfold FB; rw [hE e (by rw [h]; simp)]
      rw [e1] at h2
      rw [hF] at h4 ⊢
      exact k4.2.2.2.2 e p x y h h3 a b c h1 h2 h4
  refine ⟨c,es,ms,k,k1,?_,k3,hU⟩
  have lit:∀ (es:List (AV × AV × Nat)) (ms:List MapEntry),(∀ e ∈ es,∃ a b c,(m'.nk < 2→b=0)∧(m'.nk < 3→c=0)∧e.1=eX m'.nk a b c∧e.2.1=bT ρ m' a b c)→bG ⟨ρ0,σ,κ,n,rc⟩ es ms→bG ⟨ρ,σ,κ,n,rc⟩ es ms:=by
    intro es
    induction es with
    | nil=>intro ms _ h; cases ms with | nil=>trivial | cons _ _=>exact h.elim
    | cons e es ih =>
      intro ms hl h
      cases ms with
      | nil=>exact h.elim
      | cons m1 ms =>
        obtain ⟨q1,q2,q3,q4⟩:=h
        obtain ⟨x,y,z,_,_,e1,e2⟩:=hl e List.mem_cons_self
        have hk:af ⟨ρ,σ,κ,n,rc⟩ e.1=af ⟨ρ0,σ,κ,n,rc⟩ e.1:=by rw [e1]; unfold eX; split <;> rfl
        have hcc:∀ q,af ⟨ρ,σ,κ,n,rc⟩ (aU ρ x y z q)=af ⟨ρ0,σ,κ,n,rc⟩ (aU ρ x y z q):=fun q=>by unfold aU; cases q.1 <;> rfl
        have hcs:∀ l:List (Bool × Nat),ad ⟨ρ,σ,κ,n,rc⟩ (l.map (aU ρ x y z))=ad ⟨ρ0,σ,κ,n,rc⟩ (l.map (aU ρ x y z)):=fun l=>by
          induction l with
          | nil=>rfl
          | cons q l ih=>simp only [List.map_cons,ad,hcc,ih]
        have hvv:af ⟨ρ,σ,κ,n,rc⟩ e.2.1=af ⟨ρ0,σ,κ,n,rc⟩ e.2.1:=by
          rw [e2]; unfold bT
          cases m'.ag with
          | true=>simp only [cond_true,af,hcs]
          | false =>
            simp only [cond_false]
            cases m'.fi with
            | nil=>rfl
            | cons q l=>cases l with
              | nil=>exact hcc q
              | cons _ _=>rfl
        exact ⟨hk.trans q1,hvv.trans q2,q3,ih ms (fun e' he'=>hl e' (List.mem_cons_of_mem _ he')) q4⟩
  exact lit es ms hU.1 k2
theorem CallOk.split {ι : Type} {P : Program} {RC : Nat → Nat → List Nat → Code → Code → Prop} {ok : Rho → (Nat → Obj → Prop) → Prop} {okC : ι → Rho → (Nat → Obj → Prop) → Prop} {f : FuncId} {args : List AV} {h : Heap} {t : T (AV × Heap)}
    (hc:∀ x,CallOk ⟨P,RC,okC x⟩ f args h t) (hs:∀ ρ m,ok ρ m→∃ x,okC x ρ m) (hb:∀ x ρ m,okC x ρ m→ok ρ m):CallOk ⟨P,RC,ok⟩ f args h t:=by
  intro vs E w0 w Q K k HH ha hP
  obtain ⟨m,hm,hmh⟩:=HH.ok
  obtain ⟨x,hx⟩:=hs _ _ hm
  have HX:HeapOk ⟨P,RC,okC x⟩ E h w0 w:=⟨HH.obj,HH.inj,HH.base,HH.ro,HH.fresh,HH.lt,HH.glob,HH.below,HH.nx,⟨m,hx,hmh⟩⟩
  exact hc x vs E w0 w Q K k HX ha fun v h' E' w' cv q hle H' hcv=>hP v h' E' w' cv q hle ⟨H'.obj,H'.inj,H'.base,H'.ro,H'.fresh,H'.lt,H'.glob,H'.below,H'.nx,by
    obtain ⟨m1,h1,h2⟩:=H'.ok
    exact ⟨m1,hb x _ _ h1,h2⟩⟩ hcv
end Go.Sx
