/- WHAT IS EASIER: the kinds of evenings that are,and that they are. -/
import Derived.Test.YtfbongdjicmegaaDoorEvB
import Derived.Test.YtfbongdjicmegaaDoorEzC
import Derived.Test.YtfbongdjicmegaaDoorSxPres
/-! THE LAW OF THE PARTS,CALLED WITH WHATEVER CAN BE READ. -/
namespace Go.Sx
open Go.RowKit Go.Proofs
set_option maxRecDepth 100000
theorem rowsV_vals (E : Env) (z : Nat → Int) (zb : Nat → Bool) : ∀ (n b c : Nat), c % 4 = 0 → (∀ q, q < 4 * n → E.ρ.iv (b + q) = z (c + q)) → (∀ q, q < 4 * n → E.ρ.bv (b + q) = zb (c + q)) →
    ∃ vs,concL E (rowsV n b)=some vs∧vs.length=4 * n∧∀ q,q < 4 * n→vs[q]?=some (partAt z zb (c + q))
  | 0,b,c,_,_,_=>⟨[],rfl,rfl,fun q hq=>absurd hq (by omega)⟩
  | n + 1,b,c,h4,hz,hb=>by
    obtain ⟨vs,h1,h2,h3⟩:=rowsV_vals E z zb n (b + 4) (c + 4) (by omega) (fun q hq=>by rw [show b + 4 + q=b + (4 + q) by omega,show c + 4 + q=c + (4 + q) by omega]; exact hz _ (by omega)) (fun q hq=>by rw [show b + 4 + q=b + (4 + q) by omega,show c + 4 + q=c + (4 + q) by omega]; exact hb _ (by omega))
    have e0:=hz 0 (by omega); have e1:=hz 1 (by omega); have e2:=hb 2 (by omega); have e3:=hz 3 (by omega)
    refine ⟨partAt z zb c :: partAt z zb (c + 1) :: partAt z zb (c + 2) :: partAt z zb (c + 3) :: vs,?_,by simp only [List.length_cons,h2]; omega,fun q hq=>?_⟩
    · simp only [rowsV,vi,concL,conc,IE.den,BE.den,h1]
      unfold partAt
      rw [if_neg (show ¬ c % 4=2 by omega),if_neg (show ¬ (c + 1) % 4=2 by omega),if_pos (show (c + 2) % 4=2 by omega),if_neg (show ¬ (c + 3) % 4=2 by omega),← e1,← e2,← e3]
      rw [Nat.add_zero,Nat.add_zero] at e0
      rw [← e0]
    · match q,hq with
      | 0,_=>rfl
      | 1,_=>rfl
      | 2,_=>rfl
      | 3,_=>rfl
      | q + 4,hq =>
        have:=h3 q (by omega)
        rw [show c + 4 + q=c + (q + 4) by omega] at this
        exact this
def envP (ρ:Rho) (b o cap:Nat):Env:=⟨ρ,fun j=>if j < 1000 then some (j,0) else if j=1001 then some (b,o) else none,fun _=>cap,2000,fun _=>#[]⟩
theorem book_vals {E:Env} {nb:Nat→Int} {a:AV} {s:Value} (hi:∀ j,j < 22→E.ρ.iv j=nb j) (ha:conc E a=some s):conc E (.agg (bookS a))=some (.agg ((List.range 22).map (fun i=>Value.int .i64 (nb i)) ++ [s]).toArray):=by
  have h:concL E (bookS a)=some ((List.range 22).map (fun i=>Value.int .i64 (nb i)) ++ [s]):=by
    have hl:bookS a=[vi 0,vi 1,vi 2,vi 3,vi 4,vi 5,vi 6,vi 7,vi 8,vi 9,vi 10,vi 11,vi 12,vi 13,vi 14,vi 15,vi 16,vi 17,vi 18,vi 19,vi 20,vi 21,a]:=rfl
    rw [hl]
    simp only [vi,concL,conc,IE.den,ha,hi 0 (by omega),hi 1 (by omega),hi 2 (by omega),hi 3 (by omega),hi 4 (by omega),hi 5 (by omega),hi 6 (by omega),hi 7 (by omega),hi 8 (by omega),hi 9 (by omega),hi 10 (by omega),hi 11 (by omega),hi 12 (by omega),hi 13 (by omega),hi 14 (by omega),hi 15 (by omega),hi 16 (by omega),hi 17 (by omega),hi 18 (by omega),hi 19 (by omega),hi 20 (by omega),hi 21 (by omega)]
    rfl
  simp only [conc,h]
  rfl
end Go.Sx
/-! AN EVENING WITH OTHER NUMBERS: what is asked of its numbers; whether some plan is enough. -/
namespace Go.Sx
open Go.RowKit Go.Proofs
set_option maxRecDepth 100000
/-- the numbers of an evening that is valid,but for its parts -/
structure BookE (iv:Nat→Int):Prop where
  room0:1≤iv 4∧iv 4≤99
  room1:1≤iv 5∧iv 5≤99
  coal:0≤iv 0∧iv 0≤iv 1∧iv 1≤iv 4
  water:0≤iv 2∧iv 2≤iv 3∧iv 3≤iv 5
  load0:1≤iv 6∧iv 6≤20
  load1:1≤iv 7∧iv 7≤20
  mark:0≤iv 20∧iv 20≤iv 5
  lamp:0≤iv 21∧iv 21≤60
  b0:0≤iv 8∧iv 8≤iv 9∧iv 9≤3
  b1:0≤iv 10∧iv 10≤iv 11∧iv 11≤3
  d0:0≤iv 12∧iv 12≤iv 13∧iv 13≤3
  d1:0≤iv 14∧iv 14≤iv 15∧iv 15≤3
  full:0≤iv 16∧iv 16≤iv 17∧iv 17≤60
  weak:0≤iv 18∧iv 18≤iv 19∧iv 19≤60
  cur:iv 18≤iv 16∧iv 19≤iv 17
structure PartE (iv:Nat→Int) (b:Nat):Prop where
  min:1≤iv b∧iv b≤iv (b + 1)∧iv (b + 1)≤60
  walks:0≤iv (b + 3)∧iv (b + 3)≤5
theorem book_iff {ρ:Rho}:(∀ c ∈ bookC,c.den ρ=true) ↔ BookE ρ.iv:=by
  simp only [bookC,inV,leV,List.cons_append,List.nil_append,List.mem_cons,List.not_mem_nil,or_false,forall_eq_or_imp,forall_eq,BE.t_leq,IE.den_lit,IE.den_var,Nat.reduceAdd]
  constructor
  · rintro ⟨h1,h2,h3,h4,h5,h6,h7,h8,h9,h10,h11,h12,h13,h14,h15,h16,h17,h18,h19,h20,h21,h22,h23,h24,h25,h26,h27,h28,h29,h30,h31,h32,h33,h34,h35,h36,h37,h38⟩
    constructor <;> omega
  · rintro ⟨⟨_,_⟩,⟨_,_⟩,⟨_,_,_⟩,⟨_,_,_⟩,⟨_,_⟩,⟨_,_⟩,⟨_,_⟩,⟨_,_⟩,⟨_,_,_⟩,⟨_,_,_⟩,⟨_,_,_⟩,⟨_,_,_⟩,⟨_,_,_⟩,⟨_,_,_⟩,⟨_,_⟩⟩
    refine ⟨?_,?_,?_,?_,?_,?_,?_,?_,?_,?_,?_,?_,?_,?_,?_,?_,?_,?_,?_,?_,?_,?_,?_,?_,?_,?_,?_,?_,?_,?_,?_,?_,?_,?_,?_,?_,?_,?_⟩ <;> assumption
theorem part_iff {ρ:Rho} {b:Nat}:(∀ c ∈ partV b,c.den ρ=true) ↔ PartE ρ.iv b:=by
  simp only [partV,leV,List.mem_cons,List.not_mem_nil,or_false,forall_eq_or_imp,forall_eq,BE.t_leq,IE.den_lit,IE.den_var]
  constructor
  · rintro ⟨h1,h2,h3,h4,h5⟩; constructor <;> omega
  · rintro ⟨⟨_,_,_⟩,⟨_,_⟩⟩; refine ⟨?_,?_,?_,?_,?_⟩ <;> assumption
theorem parts_iff {ρ:Rho}:∀ {n b:Nat},(∀ c ∈ partsV n b,c.den ρ=true) ↔ ∀ i,i < n→PartE ρ.iv (b + 4 * i)
  | 0,b=>⟨fun _ i h=>absurd h (by omega),fun _ c hc=>by cases hc⟩
  | n + 1,b=>by
    have ih:=parts_iff (ρ:=ρ) (n:=n) (b:=b + 4)
    have ip:=part_iff (ρ:=ρ) (b:=b)
    constructor
    · intro h i hi
      cases i with
      | zero=>exact ip.1 fun c hc=>h c (List.mem_append.2 (.inl hc))
      | succ i =>
        have:=ih.1 (fun c hc=>h c (List.mem_append.2 (.inr hc))) i (by omega)
        rw [show b + 4 * (i + 1)=b + 4 + 4 * i by omega]; exact this
    · intro h c hc
      rcases List.mem_append.1 hc with hc | hc
      · exact ip.2 (h 0 (by omega)) c hc
      · exact ih.2 (fun i hi=>by rw [show b + 4 + 4 * i=b + 4 * (i + 1) by omega]; exact h (i + 1) (by omega)) c hc
theorem cs_iff {ρ:Rho} {L:Nat}:(∀ c ∈ csV L,c.den ρ=true) ↔ BookE ρ.iv∧∀ i,i < L→PartE ρ.iv (30 + 4 * i):=by
  rw [← book_iff,← parts_iff]
  exact ⟨fun h=>⟨fun c hc=>h c (List.mem_append.2 (.inl hc)),fun c hc=>h c (List.mem_append.2 (.inr hc))⟩,fun h c hc=>(List.mem_append.1 hc).elim (h.1 c) (h.2 c)⟩
/-! ## Alike,as far as an evening goes -/
structure AgreeL (ρ ρ':Rho):Prop where
  iv:∀ j,j < 60→ρ.iv j=ρ'.iv j
  bv:∀ j,j < 60→ρ.bv j=ρ'.bv j
section
variable {ρ ρ':Rho} (A:AgreeL ρ ρ')
include A
theorem tak_agreeL {i r:Nat} (hi:i < 7) (hr:r < 2):takF ρ i r=takF ρ' i r:=by
  unfold takF
  rw [A.iv (31 + 4 * i) (by omega),A.bv (32 + 4 * i) (by omega)]
  split
  · rw [A.iv (11 + 4 * r) (by omega)]
  · rw [A.iv (9 + 4 * r) (by omega)]
theorem left_agreeL {i r:Nat} (hi:i < 7) (hr:r < 2) (a w:Int):leftF ρ i r a w=leftF ρ' i r a w:=by
  unfold leftF hasF; rw [tak_agreeL A hi hr,A.iv (6 + r) (by omega),A.iv (4 + r) (by omega)]
theorem lack_agreeL {i r:Nat} (hi:i < 7) (hr:r < 2) (a w:Int):lackF ρ i r a w=lackF ρ' i r a w:=by
  unfold lackF hasF; rw [tak_agreeL A hi hr,A.iv (6 + r) (by omega),A.iv (4 + r) (by omega)]
theorem fail_agreeL {i:Nat} (hi:i < 7) (l:Int):failF ρ i l=failF ρ' i l:=by
  unfold failF; rw [A.bv (32 + 4 * i) (by omega),A.iv 20 (by omega),A.iv 18 (by omega),A.iv 21 (by omega),A.iv 16 (by omega)]
theorem roundG_agreeL {i:Nat} (hi:i < 7) (nx:Int→Int→Out) (a b:Int) (cw ww:Nat) (S:Stt):roundG ρ nx i a b cw ww S=roundG ρ' nx i a b cw ww S:=by
  unfold roundG
  simp only [left_agreeL A hi (show 0 < 2 by omega),left_agreeL A hi (show 1 < 2 by omega),lack_agreeL A hi (show 0 < 2 by omega),lack_agreeL A hi (show 1 < 2 by omega),fail_agreeL A hi]
theorem roundsG_agreeL {i:Nat} (hi:i < 7) (nx:Int→Int→Out) (a b:Int):∀ (l:List (Nat × Nat)) (S:Stt),roundsG ρ nx i a b l S=roundsG ρ' nx i a b l S
  | [],_=>rfl
  | x :: l,S=>by simp only [roundsG]; rw [roundG_agreeL A hi,roundsG_agreeL hi nx a b l]
theorem outD_agreeL:∀ (d i:Nat),i + d≤7→outD ρ d i=outD ρ' d i
  | 0,_,_=>rfl
  | d + 1,i,h=>by
    funext a b
    simp only [outD]
    rw [outD_agreeL d (i + 1) (by omega),roundsG_agreeL A (by omega),A.iv (33 + 4 * i) (by omega)]
theorem enD_agreeL {m:Nat} (hm:m≤7):enD ρ m=enD ρ' m:=by
  unfold enD; rw [outD_agreeL A m 0 (by omega),A.iv 0 (by omega),A.iv 2 (by omega)]
end
/-! ## Other numbers -/
noncomputable def chg (e:Nat→IE) (ρ:Rho):Rho:=⟨fun j=>(e j).den ρ,ρ.bv,ρ.fi,ρ.fb,ρ.ov⟩
noncomputable def vx (e:Nat→IE) (j:Nat):AV:=.int .i64 (e j)
noncomputable def rowsX (e:Nat→IE):Nat→Nat→List AV
  | 0,_=>[]
  | n + 1,b=>vx e b :: vx e (b + 1) :: .bool (.var (b + 2)) :: vx e (b + 3) :: rowsX e n (b + 4)
noncomputable def vxUp (e:Nat→IE):Nat→Nat→List AV
  | 0,_=>[]
  | n + 1,i=>vx e i :: vxUp e n (i + 1)
noncomputable def bookX (e:Nat→IE) (s:AV):List AV:=lApp (vxUp e 22 0) [s]
theorem rowsX_ids (e:Nat→IE) (N:Nat):∀ n b,idsLts N (rowsX e n b)=true
  | 0,_=>rfl
  | n + 1,b=>by simp only [rowsX,idsLts,idsLt,vx,rowsX_ids e N n (b + 4),Bool.and_self]
/-- a number,changed -/
def oneE (j:Nat) (v:IE):Nat→IE:=fun k=>cond (Nat.beq k j) v (.var k)
theorem oneE_at {j:Nat} {v:IE}:oneE j v j=v:=by unfold oneE; rw [Nat.beq_refl]; rfl
theorem oneE_ne {j k:Nat} {v:IE} (h:k ≠ j):oneE j v k=.var k:=by
  unfold oneE
  cases hb:Nat.beq k j with
  | true=>exact absurd (beq_t.1 hb) h
  | false=>rfl
end Go.Sx
/-! THE CALL Plan OF AN EVENING WITH OTHER NUMBERS,wherever its parts lie: what is told has names. -/
namespace Go.Sx
open Go.RowKit Go.Proofs
set_option maxRecDepth 100000
/-- what is left before a part,by the plan that is found; its walks -/
noncomputable def stD (ρ:Rho) (m:Nat):Nat→Int × Int
  | 0=>(ρ.iv 0,ρ.iv 2)
  | k + 1=>((outD ρ (m - k) k (stD ρ m k).1 (stD ρ m k).2).b0,(outD ρ (m - k) k (stD ρ m k).1 (stD ρ m k).2).b1)
noncomputable def outK (ρ:Rho) (m k:Nat):Out:=outD ρ (m - k) k (stD ρ m k).1 (stD ρ m k).2
structure OkC (m:Nat) (c:Bool) (ρ:Rho):Prop where
  w:∀ i,i < m→∃ W:Nat,W≤5∧ρ.iv (33 + 4 * i)=W
  e:enD ρ m=c
  pl:c=true→∀ k,k < m→ρ.iv (700 + 2 * k)=(outK ρ m k).wc∧ρ.iv (701 + 2 * k)=(outK ρ m k).ww
noncomputable def planN:Nat→Nat→List AV
  | 0,_=>[]
  | n + 1,b=>vi b :: vi (b + 1) :: planN n (b + 2)
theorem key_st {ρ:Rho} {m:Nat} (hw:∀ i,i < m→∃ W:Nat,W≤5∧ρ.iv (33 + 4 * i)=W) (h:enD ρ m=true):∀ k,k < m→(keyW k).1.den (rhoE ρ m)=k∧(keyW k).2.1.den (rhoE ρ m)=(stD ρ m k).1∧(keyW k).2.2.den (rhoE ρ m)=(stD ρ m k).2
  | 0,_=>⟨rfl,rfl,rfl⟩
  | k + 1,hk=>by
    obtain ⟨h1,h2,h3⟩:=key_st hw h k (by omega)
    have p:=(path_ok (okG_E hw) ((enB_E ρ m).trans h) (k + 1) hk).1
    refine ⟨p,?_,?_⟩
    · show FI (rhoE ρ m).fi 9405 ((keyW k).1.den (rhoE ρ m)) ((keyW k).2.1.den (rhoE ρ m)) ((keyW k).2.2.den (rhoE ρ m))=_
      rw [h1,h2,h3]
      have:=congrArg Out.b0 (outOf_E ρ m k (stD ρ m k).1 (stD ρ m k).2)
      rw [Int.toNat_natCast] at this
      exact this
    · show FI (rhoE ρ m).fi 9406 ((keyW k).1.den (rhoE ρ m)) ((keyW k).2.1.den (rhoE ρ m)) ((keyW k).2.2.den (rhoE ρ m))=_
      rw [h1,h2,h3]
      have:=congrArg Out.b1 (outOf_E ρ m k (stD ρ m k).1 (stD ρ m k).2)
      rw [Int.toNat_natCast] at this
      exact this
theorem plan_same {ρ:Rho} {m:Nat} (hk:OkC m true ρ):∀ n k,k + n=m→SameL (rhoE ρ m) (planC n k) ρ (planN n (700 + 2 * k))
  | 0,_,_=>SameL.nil
  | n + 1,k,h=>by
    obtain ⟨h1,h2,h3⟩:=key_st hk.w hk.e k (by omega)
    obtain ⟨p1,p2⟩:=hk.pl rfl k (by omega)
    have o:=outOf_E ρ m k (stD ρ m k).1 (stD ρ m k).2
    rw [Int.toNat_natCast] at o
    refine SameL.cons (SameV.int ?_) (SameL.cons (SameV.int ?_) (plan_same hk n (k + 1) (by omega)))
    · show FI (rhoE ρ m).fi 9402 ((keyW k).1.den (rhoE ρ m)) ((keyW k).2.1.den (rhoE ρ m)) ((keyW k).2.2.den (rhoE ρ m))=ρ.iv (700 + 2 * k)
      rw [h1,h2,h3,p1]; exact congrArg Out.wc o
    · show FI (rhoE ρ m).fi 9403 ((keyW k).1.den (rhoE ρ m)) ((keyW k).2.1.den (rhoE ρ m)) ((keyW k).2.2.den (rhoE ρ m))=ρ.iv (700 + 2 * k + 1)
      rw [h1,h2,h3,show 700 + 2 * k + 1=701 + 2 * k by omega,p2]; exact congrArg Out.ww o
noncomputable def newP (m b:Nat):AObj:=.cells (planN m b) 76 true false
noncomputable def vQ0 (m:Nat):List (Nat × AObj):=[(1001,.cells (rowsV m 30) 0 false false),(2000,newP m 700)]
noncomputable def resP (m:Nat) (c:Bool) (l:List (Nat × AObj)):AV × Heap:=cond c (foundV m,viewA 2001 (lApp l [(2000,newP m 700)])) (noneV,viewA 2000 l)
theorem plan_sh {m : Nat} {c : Bool} (h0 : 0 < m) (hm : m ≤ 5) (L : Looks true m) (hck : ckQ true m = true) :
    CallOk (pLaw fun ρ _=>OkC m c ρ) 31 (argsO true m) (viewA 2000 (vS m)) (.ret (resP m c (vS m))):=by
  have base:∀ c:Bool,CallOk (pLaw fun ρ _=>OkG m ρ∧enB.den ρ=c) 31 (argsO true m) (viewA 2000 (vS m)) (.ret (cond c (foundV m,viewA 2001 (vQ m)) (noneV,viewA 2000 (vS m)))):=fun c=>by
    have hc:=plan_ok (ok:=fun ρ _=>OkG m ρ∧enB.den ρ=c) (q:=true) (c:=c) h0 hm L.l L.o hck fun ρ b k=>k
    cases c
    · exact hc
    · exact hc
  refine CallOk.read (p0:=pLaw fun ρ _=>OkG m ρ∧enB.den ρ=c) (p:=pLaw fun ρ _=>OkC m c ρ) rfl (base c) fun ρ b h Q hQ=>?_
  obtain ⟨k,hk,hb⟩:=h
  have hk:OkC m c ρ:=hk
  have ei:ρ.iv=(rhoE ρ m).iv:=rfl
  have eb:ρ.bv=(rhoE ρ m).bv:=rfl
  refine ⟨rhoE ρ m,⟨k,⟨okG_E hk.w,(enB_E ρ m).trans hk.e⟩,hb⟩,SameL.cons (SameV.agg (even_same (fun j _=>congrFun ei j) true m)) SameL.nil,vS_same ei eb rfl m,?_⟩
  cases c
  · exact ⟨(noneV,viewA 2000 (vS m)),hQ,fun _ _ _ _ _ _=>rfl,vS_same ei.symm eb.symm rfl m⟩
  · refine ⟨(foundV m,viewA 2001 (vQ0 m)),hQ,fun _ _ _ _ _ _=>rfl,rfl,fun b o hg=>?_⟩
    have:=viewA_get _ _ _ _ hg
    simp only [vQ0,List.mem_cons,List.not_mem_nil,or_false] at this
    rcases this with h | h
    · cases h; exact ⟨_,viewA_mem 2001 _ 0 rfl (1001,.cells (rowsV m 30) 0 false false) (by simp [vQ]),SameA.cells rfl (rowsV_same ei.symm eb.symm _ _)⟩
    · cases h; exact ⟨_,viewA_mem 2001 _ 0 rfl (2000,.cells (planC m 0) 76 true false) (by simp [vQ]),SameA.cells rfl (plan_same hk m 0 (Nat.zero_add m))⟩
/-! ## Plan -/
structure OkPl (m:Nat) (c:Bool) (ρ:Rho):Prop where
  cs:∀ d ∈ csV m,d.den ρ=true
  o:OkC m c ρ
noncomputable def orcPl (m:Nat) (c:Bool) (f:FuncId) (args:List AV) (h:Heap):Option (T (AV × Heap)) :=
  cond (Nat.beq f 42) (soGo m args h) (cond (Nat.beq f 31) (frontGo (argsO true m) (lS m) (.ret (resP m c (vS m))) args h) none)
noncomputable def tbPl (m:Nat) (c:Bool):Tabs:=⟨Sx.Tryd.ft.get,lFind Sx.Tryd.rt,2000,orcPl m c⟩
noncomputable def runPl (m:Nat) (c:Bool):T (AV × Heap):=(evalN (tbPl m c) 60 false 9 (bookA m) (viewA 2000 (vB m))).bind fun r=>graftT 2000 (vB m) (viewA 2000 (vB m)) (nwP r) r
noncomputable def isRes (m:Nat) (c:Bool) (r:AV × Heap):Bool:=cond c (isR (foundV m) 2001 (lApp (vB m) [(2000,newP m 700)]) r) (isR noneV 2000 (vB m) r)
noncomputable def ckPl (m:Nat) (c:Bool):Bool:=and (viewOk 2000 (vB m)) (allK (fun _=>isRes m c) (runPl m c) (knOf [] []))
theorem ckPl_all:lAll (fun m=>and (ckPl m true) (ckPl m false)) [1,2,3,4,5]=true:=by kernel_rfl
theorem so_any {ok:Rho→(Nat→Obj→Prop)→Prop} {n:Nat} {f:Nat} (hok:∀ ρ b,ok ρ b→∀ c ∈ csV n,c.den ρ=true) (hck:ckBk f n (.bool (.lit true))=true) {args:List AV} {h:Heap} {t:T (AV × Heap)} (e:soGo n args h=some t):CallOk (pLaw ok) f args h t:=by
  have hv:viewOk 2000 (vB n)=true:=by
    have:=hck
    unfold ckBk at this
    simp only [Bool.and_eq_true] at this
    exact this.1
  exact frontGo_ok (p:=pLaw ok) (l:=lB n) (valid_ok (ok:=ok) hck hok) rfl hv e
theorem vals_at {n:Nat} (a:1≤n) (b:n≤5):ckBk 42 n (.bool (.lit true))=true∧ckBk 6 n (.bool (.lit true))=true:=by
  have:=lAll_mem valid_all n (by simp only [List.mem_cons,List.not_mem_nil,or_false]; omega)
  simpa only [Bool.and_eq_true] using this
theorem ckQ_at {m:Nat} (a:1≤m) (b:m≤5):ckQ true m=true:=by
  have:=lAll_mem ckQ_all (m - 1) (by simp only [List.mem_cons,List.not_mem_nil,or_false]; omega)
  simp only [Bool.and_eq_true] at this
  rw [show m - 1 + 1=m by omega] at this
  exact this.1
theorem vS_ok {q:Bool} {m:Nat} (H:Looks q m):viewOk 2000 (vS m)=true:=by
  have:=H.p
  unfold ckP at this
  simp only [Bool.and_eq_true] at this
  exact this.1
theorem orcPl_ok {m:Nat} {c:Bool} (h0:1≤m) (hm:m≤5) (H:Looks true m):∀ f args h t,orcPl m c f args h=some t→CallOk (pLaw fun ρ _=>OkPl m c ρ) f args h t:=by
  intro f args h t e
  unfold orcPl at e
  cases h42:Nat.beq f 42 with
  | true=>rw [h42,cond_true] at e; have:=beq_t.1 h42; subst this; exact so_any (fun ρ b k=>k.cs) (vals_at h0 hm).1 e
  | false =>
    rw [h42,cond_false] at e
    obtain ⟨h36,e⟩:=cond_some e
    have:=beq_t.1 h36; subst this
    refine frontGo_ok (p:=pLaw fun ρ _=>OkPl m c ρ) (l:=lS m) ?_ rfl (vS_ok H) e
    refine CallOk.read (p0:=pLaw fun ρ _=>OkC m c ρ) (p:=pLaw fun ρ _=>OkPl m c ρ) rfl (plan_sh h0 hm H (ckQ_at h0 hm)) fun ρ b hb Q hQ=>?_
    obtain ⟨w,hw,hbw⟩:=hb
    have hw:OkPl m c ρ:=hw
    refine ⟨ρ,⟨w,hw.o,hbw⟩,SameL.refl _ _,⟨rfl,fun j o g=>⟨o,g,SameA.refl o⟩⟩,?_⟩
    exact ⟨_,hQ,SameV.refl _ _,rfl,fun j o g=>⟨o,g,SameA.refl o⟩⟩
theorem plan12 {m:Nat} {c:Bool} (h0:1≤m) (hm:m≤5) (H:Looks true m):CallOk (pLaw fun ρ _=>OkPl m c ρ) 9 (bookA m) (viewA 2000 (vB m)) (.ret (resP m c (vB m))):=by
  have hck:ckPl m c=true:=by
    have:=lAll_mem ckPl_all m (by simp only [List.mem_cons,List.not_mem_nil,or_false]; omega)
    simp only [Bool.and_eq_true] at this
    cases c
    · exact this.2
    · exact this.1
  unfold ckPl at hck
  simp only [Bool.and_eq_true] at hck
  obtain ⟨hv,hck⟩:=hck
  have B:TabOk (pLaw fun ρ _=>OkPl m c ρ) Sx.Tryd.tt.get (tbPl m c):=Tryd.tab (orcPl m c) (orcPl_ok h0 hm H) 2000
  have base:=eval_ok B 60 9 (bookA m) (viewA 2000 (vB m))
  have up:∀ g ∈ vB m,(viewA 2000 (vB m)).get g.1=some g.2:=viewA_mem 2000 _ 0 rfl
  have fr:CallOk (pLaw fun ρ _=>OkPl m c ρ) 9 (bookA m) (viewA 2000 (vB m)) (runPl m c):=base.frame (n:=2000) (l:=vB m) (by omega) rfl hv (fun g hg=>⟨g.2,up g hg,.refl _⟩) (by rw [viewA_next]; exact Nat.le_refl _) nwP
  refine CallOk.read (p0:=pLaw fun ρ _=>OkPl m c ρ) (p:=pLaw fun ρ _=>OkPl m c ρ) rfl fr fun ρ b hb Q hQ=>⟨ρ,hb,SameL.refl _ _,⟨rfl,fun j o g=>⟨o,g,SameA.refl o⟩⟩,?_⟩
  refine allK_ok (ρ:=ρ) (fun K r hK hr=>?_) _ _ (knOf_ok (fun c hc=>by cases hc) fun c hc=>by cases hc) hck
  unfold isRes at hr
  cases c
  · obtain ⟨s1,s2⟩:=isR_same (p0:=pLaw fun ρ _=>OkPl m false ρ) (p:=pLaw fun ρ _=>OkPl m false ρ) rfl rfl (ρ:=ρ) hr
    exact ⟨_,hQ,s1,s2⟩
  · obtain ⟨s1,s2⟩:=isR_same (p0:=pLaw fun ρ _=>OkPl m true ρ) (p:=pLaw fun ρ _=>OkPl m true ρ) rfl rfl (ρ:=ρ) hr
    exact ⟨_,hQ,s1,s2⟩
end Go.Sx
/-! THE CALLS Plan,Parts AND isEnough,read with other numbers,wherever the parts lie. -/
namespace Go.Sx
open Go.RowKit Go.Proofs
set_option maxRecDepth 100000
/-- numbers that are read as others -/
structure Reads (e:Nat→IE) (ρ ρ':Rho):Prop where
  iv:∀ j,j < 60→(e j).den ρ=ρ'.iv j
  bv:∀ j,j < 60→ρ.bv j=ρ'.bv j
theorem rowsX_reads {e:Nat→IE} {ρ ρ':Rho} (R:Reads e ρ ρ'):∀ n b,b + 4 * n≤60→SameL ρ (rowsX e n b) ρ' (rowsV n b)
  | 0,_,_=>SameL.nil
  | n + 1,b,h=>by
    show SameL ρ (vx e b :: vx e (b + 1) :: .bool (.var (b + 2)) :: vx e (b + 3) :: rowsX e n (b + 4)) ρ' (vi b :: vi (b + 1) :: .bool (.var (b + 2)) :: vi (b + 3) :: rowsV n (b + 4))
    exact SameL.cons (SameV.int (R.iv _ (by omega))) (SameL.cons (SameV.int (R.iv _ (by omega))) (SameL.cons (SameV.bool (R.bv _ (by omega))) (SameL.cons (SameV.int (R.iv _ (by omega))) (rowsX_reads R n (b + 4) (by omega)))))
theorem vxUp_reads {e:Nat→IE} {ρ ρ':Rho} (R:Reads e ρ ρ') {s:List AV} (hs:SameL ρ s ρ' s):∀ n i,i + n≤60→SameL ρ (lApp (vxUp e n i) s) ρ' (lApp (viUp n i) s)
  | 0,_,_=>hs
  | n + 1,i,h=>by
    show SameL ρ (vx e i :: lApp (vxUp e n (i + 1)) s) ρ' (vi i :: lApp (viUp n (i + 1)) s)
    exact SameL.cons (SameV.int (R.iv _ (by omega))) (vxUp_reads R hs n (i + 1) (by omega))
theorem bookX_reads {e:Nat→IE} {ρ ρ':Rho} (R:Reads e ρ ρ') (b o n c:Nat):SameV ρ (.agg (bookX e (.sliceX b o n c))) ρ' (.agg (bookS (.sliceX b o n c))):=SameV.agg (vxUp_reads R (SameL.cons (SameV.sliceX _ _ _ _) SameL.nil) 22 0 (by omega))
/-! ## Where the parts lie -/
theorem mv_vx {a c n:Nat} {E:Env} (e:Nat→IE) {s s':List AV} (hs:concL (E.mv a c n) s=concL E s'):∀ k i,concL (E.mv a c n) (lApp (vxUp e k i) s)=concL E (lApp (vxUp e k i) s')
  | 0,_=>hs
  | k + 1,i=>by
    show concL (E.mv a c n) (vx e i :: lApp (vxUp e k (i + 1)) s)=concL E (vx e i :: lApp (vxUp e k (i + 1)) s')
    simp only [concL,vx,conc,mv_vx e hs k (i + 1)]
    rfl
theorem mv_sl {nb L:Nat} {E:Env}:conc (E.mv 1001 nb 2000) (.sliceX 1001 4 0 L)=conc E (.sliceX nb 4 0 L):=by
  simp only [conc,Env.mv,mvN,show (1001:Nat) < 2000 by omega,if_true]
noncomputable def glC:List AV:=[li 1,li 99,li 1,li 99,li 1,li 20,li 1,li 20,li 0,li 60,li 1,li 5]
noncomputable def vX (e:Nat→IE) (L:Nat):List (Nat × AObj):=[(0,glO),(1001,.cells (rowsX e L 30) 0 false false)]
noncomputable def xGo (e:Nat→IE) (nb L:Nat) (args0:List AV) (r:Heap→AV × Heap) (args:List AV) (h:Heap):Option (T (AV × Heap)) :=
  cond (and (eqAVs args args0) (and (frontC glC (h.get 0)) (and (frontC (rowsX e L 30) (h.get nb)) (Nat.ble 2000 h.next)))) (some (.ret (r h))) none
theorem xGo_ok {e : Nat → IE} {nb L : Nat} {args0 args : List AV} {r : Heap → AV × Heap} {h : Heap} {t : T (AV × Heap)} (k : xGo e nb L args0 r args h = some t) :
    args=args0∧t=.ret (r h)∧2000≤h.next∧∀ g ∈ vX e L,∃ o,h.get (mvN 1001 nb g.1)=some o∧Less g.2 o:=by
  unfold xGo at k
  obtain ⟨hc,k1⟩:=cond_some k
  clear k
  simp only [Bool.and_eq_true] at hc
  obtain ⟨h1,h2,h3,h4⟩:=hc
  refine ⟨eqAVs_eq _ _ h1,(Option.some.inj k1).symm,ble_t.1 h4,fun g hg=>?_⟩
  simp only [vX,List.mem_cons,List.not_mem_nil,or_false] at hg
  rcases hg with rfl | rfl
  · exact frontC_ok h2
  · exact frontC_ok h3
theorem vX_low (e:Nat→IE) (L:Nat):∀ g ∈ vX e L,g.1 < 2000∧ownO g.2=false∧idsO 0 g.2=true:=fun g hg=>by
  simp only [vX,List.mem_cons,List.not_mem_nil,or_false] at hg
  rcases hg with rfl | rfl
  · exact ⟨by show 0 < 2000; omega,rfl,rfl⟩
  · exact ⟨by show 1001 < 2000; omega,rfl,rowsX_ids e 0 L 30⟩
theorem vX_same {p0 p:Par} (hP:p0.P=p.P) {e:Nat→IE} {ρ ρ':Rho} (R:Reads e ρ ρ') {L:Nat} (hL:L≤5):SameH p0 p ρ (viewA 2000 (vX e L)) ρ' (viewA 2000 (vB L)) :=
  ⟨rfl,fun b o hg=>by
    have:=viewA_get _ _ _ _ hg
    simp only [vB,List.mem_cons,List.not_mem_nil,or_false] at this
    rcases this with h | h
    · cases h; exact ⟨_,viewA_mem 2000 (vX e L) 0 rfl (0,glO) (by simp [vX]),SameA.cells hP (fun _ _ _ _ _ _=>rfl)⟩
    · cases h; exact ⟨_,viewA_mem 2000 (vX e L) 0 rfl (1001,.cells (rowsX e L 30) 0 false false) (by simp [vX]),SameA.cells hP (rowsX_reads R L 30 (by omega))⟩⟩
theorem vX_same' {p0 p:Par} (hP:p0.P=p.P) {e:Nat→IE} {ρ ρ':Rho} (R:Reads e ρ ρ') {L:Nat} (hL:L≤5):SameH p0 p ρ' (viewA 2000 (vB L)) ρ (viewA 2000 (vX e L)) :=
  ⟨rfl,fun b o hg=>by
    have:=viewA_get _ _ _ _ hg
    simp only [vX,List.mem_cons,List.not_mem_nil,or_false] at this
    rcases this with h | h
    · cases h; exact ⟨_,viewA_mem 2000 (vB L) 0 rfl (0,glO) (by simp [vB]),SameA.cells hP (fun _ _ _ _ _ _=>rfl)⟩
    · cases h; exact ⟨_,viewA_mem 2000 (vB L) 0 rfl (1001,.cells (rowsV L 30) 0 false false) (by simp [vB]),SameA.cells hP (rowsX_reads R L 30 (by omega)).symm⟩⟩
/-! ## Plan -/
noncomputable def planXt (nm L:Nat) (c:Bool) (h:Heap):AV × Heap:=cond c (.tup [.slice h.next 0 L L,li 0],h.new (newP L nm)) (noneV,h)
noncomputable def pl12 (e:Nat→IE) (nm nb L:Nat) (c:Bool):List AV→Heap→Option (T (AV × Heap)):=xGo e nb L [.agg (bookX e (.sliceX nb 4 0 L))] (planXt nm L c)
theorem planN_ids (N:Nat):∀ n b,idsLts N (planN n b)=true
  | 0,_=>rfl
  | n + 1,b=>by simp only [planN,idsLts,idsLt,vi,planN_ids N n (b + 2),Bool.and_self]
theorem planN_same {ρ ρ':Rho} {b b':Nat}:∀ n k,(∀ j,k≤j→j < k + 2 * n→ρ.iv (b + j)=ρ'.iv (b' + j))→SameL ρ (planN n (b + k)) ρ' (planN n (b' + k))
  | 0,_,_=>SameL.nil
  | n + 1,k,h=>SameL.cons (SameV.int (h k (by omega) (by omega))) (SameL.cons (SameV.int (h (k + 1) (by omega) (by omega))) (planN_same n (k + 2) fun j h1 h2=>h j (by omega) (by omega)))
theorem pl12_ok {ok : Rho → (Nat → Obj → Prop) → Prop} {e : Nat → IE} {nm nb L : Nat} {c : Bool} (h0 : 1 ≤ L) (hm : L ≤ 5) (H : Looks true L)
    (hok:∀ ρ b,ok ρ b→∃ ρ',Reads e ρ ρ'∧OkPl L c ρ'∧(c=true→∀ k,k < 2 * L→ρ'.iv (700 + k)=ρ.iv (nm + k))) {args:List AV} {h:Heap} {t:T (AV × Heap)} (k:pl12 e nm nb L c args h=some t):CallOk (pLaw ok) 9 args h t:=by
  obtain ⟨rfl,rfl,hn,hl⟩:=xGo_ok k
  have hargs:∀ E:Env,concL (E.mv 1001 nb 2000) [.agg (bookX e (.sliceX 1001 4 0 L))]=concL E [.agg (bookX e (.sliceX nb 4 0 L))]:=fun E=>by
    have:concL (E.mv 1001 nb 2000) (bookX e (.sliceX 1001 4 0 L))=concL E (bookX e (.sliceX nb 4 0 L)):=mv_vx e (by simp only [concL,mv_sl]) 22 0
    simp only [concL,conc,this]
  cases c
  · have hc : CallOk (pLaw ok) 9 [.agg (bookX e (.sliceX 1001 4 0 L))] (viewA 2000 (vX e L)) (.ret (noneV, viewA 2000 (vX e L))) := by
      refine CallOk.read (p0:=pLaw fun ρ _=>OkPl L false ρ) (p:=pLaw ok) rfl (plan12 h0 hm H) fun ρ b hb Q hQ=>?_
      obtain ⟨w,hw,hbw⟩:=hb
      obtain ⟨ρ',R,o,_⟩:=hok ρ w hw
      exact ⟨ρ',⟨w,o,hbw⟩,SameL.cons (bookX_reads R _ _ _ _) SameL.nil,vX_same rfl R hm,(noneV,viewA 2000 (vX e L)),hQ,fun _ _ _ _ _ _=>rfl,vX_same' rfl R hm⟩
    exact hc.moved (a:=1001) (c:=nb) (by omega) (by omega) rfl (vX_low e L) hl hargs
  · have hc : CallOk (pLaw ok) 9 [.agg (bookX e (.sliceX 1001 4 0 L))] (viewA 2000 (vX e L)) (.ret (foundV L, viewA 2001 (lApp (vX e L) [(2000, newP L nm)]))) := by
      refine CallOk.read (p0:=pLaw fun ρ _=>OkPl L true ρ) (p:=pLaw ok) rfl (plan12 h0 hm H) fun ρ b hb Q hQ=>?_
      obtain ⟨w,hw,hbw⟩:=hb
      obtain ⟨ρ',R,o,hp⟩:=hok ρ w hw
      refine ⟨ρ',⟨w,o,hbw⟩,SameL.cons (bookX_reads R _ _ _ _) SameL.nil,vX_same rfl R hm,(foundV L,viewA 2001 (lApp (vX e L) [(2000,newP L nm)])),hQ,fun _ _ _ _ _ _=>rfl,rfl,fun b o hg=>?_⟩
      have:=viewA_get _ _ _ _ hg
      simp only [vX,lApp_eq,List.cons_append,List.nil_append,List.mem_cons,List.not_mem_nil,or_false] at this
      have at_:∀ g ∈ lApp (vB L) [(2000,newP L 700)],(viewA 2001 (lApp (vB L) [(2000,newP L 700)])).get g.1=some g.2:=viewA_mem 2001 _ 0 rfl
      rcases this with h | h | h
      · cases h; exact ⟨_,at_ (0,glO) (by simp [vB,lApp_eq]),SameA.cells rfl (fun _ _ _ _ _ _=>rfl)⟩
      · cases h; exact ⟨_,at_ (1001,.cells (rowsV L 30) 0 false false) (by simp [vB,lApp_eq]),SameA.cells rfl (rowsX_reads R L 30 (by omega)).symm⟩
      · cases h
        refine ⟨_,at_ (2000,newP L 700) (by simp [lApp_eq]),SameA.cells rfl ?_⟩
        have:=planN_same (ρ:=ρ') (ρ':=ρ) (b:=700) (b':=nm) L 0 fun j _ hj=>hp rfl j (by omega)
        exact this
    have mv:=hc.movedT (a:=1001) (c:=nb) (by omega) (by omega) (vX_low e L) hn hl hargs
    have hg:(viewA 2001 (lApp (vX e L) [(2000,newP L nm)])).get 2000=some (newP L nm):=viewA_mem 2001 (lApp (vX e L) [(2000,newP L nm)]) 0 rfl (2000,newP L nm) (by simp [lApp_eq])
    have e1:((T.ret (foundV L,viewA 2001 (lApp (vX e L) [(2000,newP L nm)]))).bind fun r=>mvT 2000 h r)=.ret (planXt nm L true h):=by
      show mvT 2000 h (foundV L,viewA 2001 (lApp (vX e L) [(2000,newP L nm)]))=_
      have hi:and (ownO (newP L nm)) (and (idsO 0 (newP L nm)) (idsO 2000 (newP L nm)))=true:=by
        have i1:idsO 0 (newP L nm)=true:=planN_ids 0 L nm
        have i2:idsO 2000 (newP L nm)=true:=planN_ids 2000 L nm
        rw [i1,i2]; rfl
      simp only [mvT,hg,hi,cond_true]
      rfl
    rw [e1] at mv
    exact mv
end Go.Sx
/-! THE CALLS Parts AND Longer,as they are said. -/
namespace Go.Sx
open Go.RowKit Go.Proofs
set_option maxRecDepth 100000
/-- whether some plan is enough,where it is known -/
theorem en_c {ok : Rho → (Nat → Obj → Prop) → Prop} {q : Bool} {m : Nat} {c : Bool} (hok : ∀ ρ b, ok ρ b → (∀ i, i < m → ∃ W : Nat, W ≤ 5 ∧ ρ.iv (33 + 4 * i) = W) ∧ enD ρ m = c) (hc : CallOk (pG m) 54 (argsO q m) (viewA 2000 (vS m)) (.ret (.bool enB, viewA 2000 (vS m)))) :
    CallOk (pLaw ok) 54 (argsO q m) (viewA 2000 (vS m)) (.ret (.bool (.lit c),viewA 2000 (vS m))) :=
  CallOk.read (p0:=pG m) (p:=pLaw ok) rfl hc fun ρ b h Q hQ=>by
    obtain ⟨k,hk,hb⟩:=h
    obtain ⟨h1,h2⟩:=hok ρ k hk
    have ei:ρ.iv=(rhoE ρ m).iv:=rfl
    have eb:ρ.bv=(rhoE ρ m).bv:=rfl
    exact ⟨rhoE ρ m,⟨k,okG_E h1,hb⟩,SameL.cons (SameV.agg (even_same (fun j _=>congrFun ei j) q m)) SameL.nil,vS_same ei eb rfl m,⟨(.bool (.lit c),viewA 2000 (vS m)),hQ,SameV.bool ((enB_E ρ m).trans h2),vS_same ei.symm eb.symm rfl m⟩⟩
/-! ## Parts -/
structure OkPa (L r:Nat) (ρ:Rho):Prop where
  cs:∀ d ∈ csV L,d.den ρ=true
  e:∀ n,n≤L→enD ρ n=Nat.ble n r
noncomputable def orcPa (L r:Nat) (f:FuncId) (args:List AV) (h:Heap):Option (T (AV × Heap)):=cond (Nat.beq f 42) (soGo L args h) (cond (Nat.beq f 54) (enGo r args h L) none)
noncomputable def tbPa (L r:Nat):Tabs:=⟨Sx.Tryd.ft.get,lFind Sx.Tryd.rt,2000,orcPa L r⟩
noncomputable def partsR (r:Nat):AV:=.tup [li (Int.ofNat r),li 0]
noncomputable def runPa (L r:Nat):T (AV × Heap):=(evalN (tbPa L r) 60 false 10 (bookA L) (viewA 2000 (vB L))).bind fun r=>graftT 2000 (vB L) (viewA 2000 (vB L)) [] r
noncomputable def ckPa (L r:Nat):Bool:=and (viewOk 2000 (vB L)) (allK (fun _=>isR (partsR r) 2000 (vB L)) (runPa L r) (knOf [] []))
theorem ckPa_all:lAll (fun L=>lAll (ckPa L) (cntD (L + 1))) [1,2,3,4,5]=true:=by kernel_rfl
theorem en_saidP {L r n:Nat} (hn:n≤L) (h5:L≤5) (H:Looks false n) {args:List AV} {h:Heap} {t:T (AV × Heap)} (e:frontGo (argsO false n) (lS n) (.ret (.bool (.lit (Nat.ble n r)),viewA 2000 (vC (lS n)))) args h=some t):CallOk (pLaw fun ρ _=>OkPa L r ρ) 54 args h t :=
  frontGo_ok (p:=pLaw fun ρ _=>OkPa L r ρ) (l:=lS n) (en_c (fun ρ b k=>⟨fun i hi=>walks_of k.cs (by omega),k.e n hn⟩) (enough_ok (by omega) H.l H.o H.p)) rfl (vS_ok H) e
theorem enGoP {L r:Nat} (h5:L≤5) (H:∀ n,n≤5→Looks false n) {args:List AV} {h:Heap} {t:T (AV × Heap)}:∀ n,n≤L→enGo r args h n=some t→CallOk (pLaw fun ρ _=>OkPa L r ρ) 54 args h t
  | 0,hn,e=>en_saidP hn h5 (H 0 (by omega)) e
  | n + 1,hn,e=>by
    unfold enGo at e
    split at e
    · rename_i t' e'
      cases e
      exact en_saidP hn h5 (H (n + 1) (by omega)) e'
    · exact enGoP h5 H n (by omega) e
/-- a run at the view of an evening,its new blocks forgotten: its ends are what is told -/
theorem run_view {ok : Rho → (Nat → Obj → Prop) → Prop} {tb : Tabs} {L f : Nat} {args : List AV} {v : AV} {q : List (Nat × Int × Int)} {cs : List BE} {Q : Kn → AV × Heap → Bool}
    (B:TabOk (pLaw ok) Sx.Tryd.tt.get tb) (hids:idsLts 2000 args=true) (hv:viewOk 2000 (vB L)=true)
    (hck:allK Q ((evalN tb 60 false f args (viewA 2000 (vB L))).bind fun r=>graftT 2000 (vB L) (viewA 2000 (vB L)) [] r) (knOf q cs)=true)
    (hq:∀ ρ b,ok ρ b→(∀ c ∈ ivC q,c.den ρ=true)∧∀ c ∈ cs,c.den ρ=true)
    (hQ:∀ ρ b K r,ok ρ b→KnOk ρ K→Q K r=true→SameV ρ r.1 ρ v∧SameH (pLaw ok) (pLaw ok) ρ r.2 ρ (viewA 2000 (vB L))) :
    CallOk (pLaw ok) f args (viewA 2000 (vB L)) (.ret (v,viewA 2000 (vB L))):=by
  have base:=eval_ok B 60 f args (viewA 2000 (vB L))
  have up:∀ g ∈ vB L,(viewA 2000 (vB L)).get g.1=some g.2:=viewA_mem 2000 _ 0 rfl
  have fr:=base.frame (n:=2000) (l:=vB L) (by omega) hids hv (fun g hg=>⟨g.2,up g hg,.refl _⟩) (by rw [viewA_next]; exact Nat.le_refl _) (fun _=>[])
  refine CallOk.read (p0:=pLaw ok) (p:=pLaw ok) rfl fr fun ρ b hb P hP=>⟨ρ,hb,SameL.refl _ _,⟨rfl,fun j o g=>⟨o,g,SameA.refl o⟩⟩,?_⟩
  obtain ⟨w,hw,_⟩:=hb
  obtain ⟨h1,h2⟩:=hq ρ w hw
  refine allK_ok (ρ:=ρ) (fun K r hK hr=>?_) _ _ (knOf_ok h1 h2) hck
  obtain ⟨s1,s2⟩:=hQ ρ w K r hw hK hr
  exact ⟨_,hP,s1,s2⟩
theorem parts11 {L r:Nat} (h0:1≤L) (h5:L≤5) (hr:r≤L) (H:∀ n,n≤5→Looks false n):CallOk (pLaw fun ρ _=>OkPa L r ρ) 10 (bookA L) (viewA 2000 (vB L)) (.ret (partsR r,viewA 2000 (vB L))):=by
  have hck:ckPa L r=true:=lAll_mem (lAll_mem ckPa_all L (by simp only [List.mem_cons,List.not_mem_nil,or_false]; omega)) r (cntD_mem (by omega))
  unfold ckPa at hck
  simp only [Bool.and_eq_true] at hck
  refine run_view (ok:=fun ρ _=>OkPa L r ρ) (Tryd.tab (orcPa L r) (fun f args h t e=>?_) 2000) rfl hck.1 hck.2 (fun ρ b _=>⟨fun c hc=>(List.not_mem_nil hc).elim,fun c hc=>(List.not_mem_nil hc).elim⟩) fun ρ b K r' _ _ hr=>isR_same rfl rfl hr
  unfold orcPa at e
  cases h42:Nat.beq f 42 with
  | true=>rw [h42,cond_true] at e; have:=beq_t.1 h42; subst this; exact so_any (fun ρ b k=>k.cs) (vals_at h0 h5).1 e
  | false =>
    rw [h42,cond_false] at e
    obtain ⟨h50,e⟩:=cond_some e
    have:=beq_t.1 h50; subst this
    exact enGoP h5 H L (Nat.le_refl L) e
/-- a call that only reads,read with other numbers,wherever the parts lie -/
theorem read_at {ok ok0 : Rho → (Nat → Obj → Prop) → Prop} {e : Nat → IE} {nb L f : Nat} {v v0 : AV} {args0 args1 args args' : List AV} {h : Heap} {t : T (AV × Heap)} (h5 : L ≤ 5) (hc : CallOk (pLaw ok0) f args0 (viewA 2000 (vB L)) (.ret (v0, viewA 2000 (vB L))))
    (hv:idsLt 0 v=true) (hargs:∀ E:Env,concL (E.mv 1001 nb 2000) args1=concL E args')
    (hok:∀ ρ b,ok ρ b→∃ ρ',Reads e ρ ρ'∧ok0 ρ' b∧SameL ρ args1 ρ' args0∧SameV ρ' v0 ρ v) (k:xGo e nb L args' (fun h=>(v,h)) args h=some t):CallOk (pLaw ok) f args h t:=by
  obtain ⟨rfl,rfl,hn,hl⟩:=xGo_ok k
  have hc1:CallOk (pLaw ok) f args1 (viewA 2000 (vX e L)) (.ret (v,viewA 2000 (vX e L))):=by
    refine CallOk.read (p0:=pLaw ok0) (p:=pLaw ok) rfl hc fun ρ b hb Q hQ=>?_
    obtain ⟨w,hw,hbw⟩:=hb
    obtain ⟨ρ',R,o,sa,sv⟩:=hok ρ w hw
    exact ⟨ρ',⟨w,o,hbw⟩,sa,vX_same rfl R h5,(v,viewA 2000 (vX e L)),hQ,sv,vX_same' rfl R h5⟩
  exact hc1.moved (a:=1001) (c:=nb) (by omega) (by omega) hv (vX_low e L) hl hargs
theorem book_mv {e:Nat→IE} {nb L:Nat} {r:List AV} (hr:∀ E:Env,concL (E.mv 1001 nb 2000) r=concL E r) (E:Env):concL (E.mv 1001 nb 2000) (.agg (bookX e (.sliceX 1001 4 0 L)) :: r)=concL E (.agg (bookX e (.sliceX nb 4 0 L)) :: r):=by
  have:concL (E.mv 1001 nb 2000) (bookX e (.sliceX 1001 4 0 L))=concL E (bookX e (.sliceX nb 4 0 L)):=mv_vx e (by simp only [concL,mv_sl]) 22 0
  simp only [concL,conc,this,hr E]
end Go.Sx
/-! WHAT LAWS OF AN EVENING SHARE: plans as numbers,calls with other numbers. -/
namespace Go.Sx
open Go.RowKit Go.Proofs
set_option maxRecDepth 100000
theorem SameV.tupl {ρ ρ':Rho} {l l':List AV} (h:SameL ρ l ρ' l'):SameV ρ (.tup l) ρ' (.tup l'):=fun σ κ n m rc rc'=>by simp only [conc,h σ κ n m rc rc']
theorem book_agree {iv iv':Nat→Int} (A:∀ j,j < 60→iv j=iv' j) (h:BookE iv):BookE iv':=by
  obtain ⟨h1,h2,h3,h4,h5,h6,h7,h8,h9,h10,h11,h12,h13,h14,h15⟩:=h
  simp only [A 0 (by omega),A 1 (by omega),A 2 (by omega),A 3 (by omega),A 4 (by omega),A 5 (by omega),A 6 (by omega),A 7 (by omega),A 8 (by omega),A 9 (by omega),A 10 (by omega),A 11 (by omega),A 12 (by omega),A 13 (by omega),A 14 (by omega),A 15 (by omega),A 16 (by omega),A 17 (by omega),A 18 (by omega),A 19 (by omega),A 20 (by omega),A 21 (by omega)] at *
  exact ⟨h1,h2,h3,h4,h5,h6,h7,h8,h9,h10,h11,h12,h13,h14,h15⟩
theorem cs_agree {ρ ρ':Rho} {L:Nat} (h5:L≤5) (A:∀ j,j < 60→ρ.iv j=ρ'.iv j) (h:∀ d ∈ csV L,d.den ρ=true):∀ d ∈ csV L,d.den ρ'=true:=by
  obtain ⟨h1,h2⟩:=cs_iff.1 h
  refine cs_iff.2 ⟨book_agree A h1,fun i hi=>?_⟩
  obtain ⟨⟨p1,p2,p3⟩,p4,p5⟩:=h2 i hi
  rw [A (30 + 4 * i) (by omega)] at p1 p2
  rw [A (30 + 4 * i + 1) (by omega)] at p2 p3
  rw [A (30 + 4 * i + 3) (by omega)] at p4 p5
  exact ⟨⟨p1,p2,p3⟩,p4,p5⟩
theorem walks_cs {L:Nat} {ρ:Rho} (h:∀ c ∈ csV L,c.den ρ=true):∀ i,i < L→∃ W:Nat,W≤5∧ρ.iv (33 + 4 * i)=W:=fun _ hi=>walks_of h hi
theorem mul_bd2 {a b m n:Int} (ha:0≤a∧a≤m) (hb:0≤b∧b≤n):0≤a * b∧a * b≤m * n :=
  ⟨Int.mul_nonneg ha.1 hb.1,Int.mul_le_mul ha.2 hb.2 hb.1 (by omega)⟩
theorem tak_eq {ρ : Rho} (hb : BookE ρ.iv) {i r : Nat} (hr : r < 2) (hp : 0 ≤ ρ.iv (31 + 4 * i) ∧ ρ.iv (31 + 4 * i) ≤ 130) :
    takF ρ i r=ρ.iv (31 + 4 * i) * ρ.iv (if ρ.bv (32 + 4 * i)=true then 11 + 4 * r else 9 + 4 * r)∧0≤ρ.iv (if ρ.bv (32 + 4 * i)=true then 11 + 4 * r else 9 + 4 * r)∧ρ.iv (if ρ.bv (32 + 4 * i)=true then 11 + 4 * r else 9 + 4 * r)≤3:=by
  have hq:0≤ρ.iv (if ρ.bv (32 + 4 * i)=true then 11 + 4 * r else 9 + 4 * r)∧ρ.iv (if ρ.bv (32 + 4 * i)=true then 11 + 4 * r else 9 + 4 * r)≤3:=by
    have h1:=hb.b0; have h2:=hb.b1; have h3:=hb.d0; have h4:=hb.d1
    have hr':r=0 ∨ r=1:=by omega
    rcases hr' with rfl | rfl <;> split <;> simp only [Nat.mul_zero,Nat.add_zero,Nat.mul_one,Nat.reduceAdd] <;> omega
  refine ⟨?_,hq⟩
  have:=mul_bd2 hp hq
  unfold takF
  generalize ρ.iv (31 + 4 * i) * ρ.iv (if ρ.bv (32 + 4 * i)=true then 11 + 4 * r else 9 + 4 * r)=x at *
  exact IntWalk.i64_in _ (by omega)
theorem bds_of {ρ:Rho} {m:Nat} (hb:BookE ρ.iv) (hp:∀ i,i < m→0≤ρ.iv (31 + 4 * i)∧ρ.iv (31 + 4 * i)≤130):Bds ρ m:=by
  have h1:=hb.room0; have h2:=hb.room1; have h3:=hb.load0; have h4:=hb.load1
  refine ⟨fun r hr=>?_,fun r hr=>?_,fun i hi r hr=>?_⟩
  · have hr':r=0 ∨ r=1:=by omega
    rcases hr' with rfl | rfl <;> simp only [Nat.add_zero,Nat.reduceAdd] <;> omega
  · have hr':r=0 ∨ r=1:=by omega
    rcases hr' with rfl | rfl <;> simp only [Nat.add_zero,Nat.reduceAdd] <;> omega
  · obtain ⟨e,q⟩:=tak_eq hb hr (hp i hi)
    have:=mul_bd2 (hp i hi) q
    rw [e]; omega
noncomputable def tu2 (a b v:IE) (args:List AV) (h:Heap):Option (T (AV × Heap)):=cond (eqAVs args [.int .i64 a,.int .i64 b]) (some (.ret (.int .i64 v,h))) none
noncomputable def addE (a b:IE):IE:=.bin .add .i64 a b
noncomputable def orElse (a:Option (T (AV × Heap))) (b:Option (T (AV × Heap))):Option (T (AV × Heap)):=match a with
  | some t=>some t
  | none=>b
/-- the numbers that a call on an evening with other numbers reads -/
noncomputable def rhoR (e:Nat→IE) (nm:Nat) (ρ:Rho):Rho:=⟨fun j=>if j < 60 then (e j).den ρ else ρ.iv (nm + (j - 700)),ρ.bv,ρ.fi,ρ.fb,ρ.ov⟩
theorem rhoR_reads (e:Nat→IE) (nm:Nat) (ρ:Rho):Reads e ρ (rhoR e nm ρ):=⟨fun _ hj=>(if_pos hj).symm,fun _ _=>rfl⟩
theorem rhoR_iv {e:Nat→IE} {nm:Nat} {ρ:Rho} {j:Nat} (h:j < 60):(rhoR e nm ρ).iv j=(e j).den ρ:=if_pos h
theorem rhoR_nm {e:Nat→IE} {nm k:Nat} {ρ:Rho}:(rhoR e nm ρ).iv (700 + k)=ρ.iv (nm + k):=by
  show (if 700 + k < 60 then _ else ρ.iv (nm + (700 + k - 700)))=_
  rw [if_neg (by omega),Nat.add_sub_cancel_left]
theorem turn_at {ok:Rho→(Nat→Obj→Prop)→Prop} {a b v:IE} (hok:∀ ρ m,ok ρ m→b.den ρ≤9223372036854775807∧turnF (a.den ρ) (b.den ρ)=v.den ρ) (h:Heap):CallOk (pLaw ok) 8 [.int .i64 a,.int .i64 b] h (.ret (.int .i64 v,h)):=by
  have at_:CallOk (pLaw ok) 8 [.int .i64 a,.int .i64 b] h (.br (.cmp .leq b big) (.ret (.int .i64 (.app 6 a b (.lit 0)),h)) (.fail 99)):=turn_orc (p:=pLaw ok) rfl (args:=[.int .i64 a,.int .i64 b]) (h:=h) rfl
  refine CallOk.read (p0:=pLaw ok) (p:=pLaw ok) rfl at_ fun ρ b' hk Q k=>⟨ρ,hk,SameL.refl _ _,⟨rfl,fun j o g=>⟨o,g,SameA.refl o⟩⟩,?_⟩
  obtain ⟨w,hw,_⟩:=hk
  obtain ⟨h1,h2⟩:=hok ρ w hw
  simp only [T.Holds]
  rw [if_pos (by rw [BE.t_leq]; exact h1)]
  exact ⟨_,k,SameV.int h2,rfl,fun j o g=>⟨o,g,SameA.refl o⟩⟩
theorem tu2_ok {ok:Rho→(Nat→Obj→Prop)→Prop} {a b v:IE} (hok:∀ ρ m,ok ρ m→b.den ρ≤9223372036854775807∧turnF (a.den ρ) (b.den ρ)=v.den ρ) {args:List AV} {h:Heap} {t:T (AV × Heap)} (e:tu2 a b v args h=some t):CallOk (pLaw ok) 8 args h t:=by
  unfold tu2 at e
  obtain ⟨k,e1⟩:=cond_some e
  clear e
  obtain rfl:=eqAVs_eq _ _ k
  obtain rfl:=Option.some.inj e1
  exact turn_at hok h
theorem orElse_some {a b:Option (T (AV × Heap))} {t:T (AV × Heap)} (h:orElse a b=some t):a=some t ∨ b=some t:=by
  unfold orElse at h
  split at h
  · exact .inl h
  · exact .inr h
theorem stD_agreeL {ρ ρ':Rho} (A:AgreeL ρ ρ') {L:Nat} (hL:L≤7):∀ k,k≤L→stD ρ L k=stD ρ' L k
  | 0,_=>by simp only [stD,A.iv 0 (by omega),A.iv 2 (by omega)]
  | k + 1,h=>by simp only [stD,stD_agreeL A hL k (by omega),outD_agreeL A (L - k) k (by omega)]
theorem outK_agreeL {ρ ρ':Rho} (A:AgreeL ρ ρ') {L k:Nat} (hL:L≤7) (hk:k≤L):outK ρ L k=outK ρ' L k:=by
  unfold outK; rw [stD_agreeL A hL k hk,outD_agreeL A (L - k) k (by omega)]
noncomputable def planO (ρ:Rho) (L n:Nat):Int:=if n % 2=0 then (outK ρ L (n / 2)).wc else (outK ρ L (n / 2)).ww
theorem okPl_of {ρX ρ':Rho} {L:Nat} {c:Bool} (h5:L≤5) (cs:∀ d ∈ csV L,d.den ρX=true) (A:AgreeL ρX ρ') (e:enD ρX L=c) (hp:∀ n,n < 2 * L→ρ'.iv (700 + n)=planO ρX L n):OkPl L c ρ':=by
  refine ⟨cs_agree h5 A.iv cs,⟨walks_cs (cs_agree h5 A.iv cs),(enD_agreeL A (by omega)).symm.trans e,fun _ k hk=>?_⟩⟩
  rw [← outK_agreeL A (L:=L) (by omega) (by omega)]
  have h0:=hp (2 * k) (by omega)
  have h1:=hp (2 * k + 1) (by omega)
  unfold planO at h0 h1
  rw [if_pos (by omega),show 2 * k / 2=k by omega] at h0
  rw [if_neg (by omega),show (2 * k + 1) / 2=k by omega] at h1
  exact ⟨h0,by rw [show 701 + 2 * k=700 + (2 * k + 1) by omega]; exact h1⟩
theorem bds_cs {ρ:Rho} {L:Nat} (hcs:∀ c ∈ csV L,c.den ρ=true):Bds ρ L:=by
  obtain ⟨hb,hp⟩:=cs_iff.1 hcs
  refine bds_of hb fun i hi=>?_
  have:=(hp i hi).min
  rw [show 31 + 4 * i=30 + 4 * i + 1 by omega]; omega
end Go.Sx
/-! PLANS AS NUMBERS AND AS LISTS. -/
namespace Go.Sx
open Go.RowKit Go.Proofs
set_option maxRecDepth 100000
def listF (pl:Nat→Int):Nat→Nat→List (Nat × Nat)
  | 0,_=>[]
  | n + 1,k=>((pl (2 * k)).toNat,(pl (2 * k + 1)).toNat) :: listF pl n (k + 1)
theorem total_snoc (pl:Nat→Int):∀ n k,total (listF pl (n + 1) k)=total (listF pl n k) + ((pl (2 * (k + n))).toNat + (pl (2 * (k + n) + 1)).toNat)
  | 0,k=>by simp only [listF,total,Nat.add_zero]; omega
  | n + 1,k=>by
    have ih:=total_snoc pl n (k + 1)
    have e1:total (listF pl (n + 1 + 1) k)=(pl (2 * k)).toNat + (pl (2 * k + 1)).toNat + total (listF pl (n + 1) (k + 1)):=rfl
    have e2:total (listF pl (n + 1) k)=(pl (2 * k)).toNat + (pl (2 * k + 1)).toNat + total (listF pl n (k + 1)):=rfl
    rw [e1,e2,ih,show k + 1 + n=k + (n + 1) by omega]; omega
noncomputable def sumE (nm:Nat):Nat→IE
  | 0=>.lit 0
  | n + 1=>addE (sumE nm n) (addE (.var (nm + 2 * n)) (.var (nm + 2 * n + 1)))
theorem sumE_den {ρ:Rho} {nm:Nat} (h:∀ j,j < 10→0≤ρ.iv (nm + j)∧ρ.iv (nm + j)≤5):∀ n,n≤5→(sumE nm n).den ρ=(total (listF (fun j=>ρ.iv (nm + j)) n 0):Nat)∧total (listF (fun j=>ρ.iv (nm + j)) n 0)≤10 * n
  | 0,_=>⟨rfl,Nat.le_refl _⟩
  | n + 1,hn=>by
    obtain ⟨h1,h2⟩:=sumE_den h n (by omega)
    have a:=h (2 * n) (by omega)
    have b:=h (2 * n + 1) (by omega)
    have wr:∀ x:Int,-9223372036854775808≤x∧x≤9223372036854775807→IntKind.i64.wrap x=x:=fun x hx=>IntWalk.i64_in x hx
    have e:(sumE nm (n + 1)).den ρ=IntKind.i64.wrap ((sumE nm n).den ρ + IntKind.i64.wrap (ρ.iv (nm + 2 * n) + ρ.iv (nm + 2 * n + 1))):=rfl
    rw [total_snoc,Nat.zero_add]
    rw [show nm + (2 * n + 1)=nm + 2 * n + 1 by omega] at b
    show (sumE nm (n + 1)).den ρ=((total (listF (fun j=>ρ.iv (nm + j)) n 0) + ((ρ.iv (nm + 2 * n)).toNat + (ρ.iv (nm + (2 * n + 1))).toNat):Nat):Int)∧total (listF (fun j=>ρ.iv (nm + j)) n 0) + ((ρ.iv (nm + 2 * n)).toNat + (ρ.iv (nm + (2 * n + 1))).toNat)≤10 * (n + 1)
    rw [show nm + (2 * n + 1)=nm + 2 * n + 1 by omega,e,h1,wr (ρ.iv (nm + 2 * n) + ρ.iv (nm + 2 * n + 1)) (by omega),wr _ (by omega)]
    constructor <;> omega
/-! ## The plan that is told -/
section
variable {ρ:Rho} {m:Nat} (B:Bds ρ m) (hm:m≤5) (hW:∀ i,i < m→(ρ.iv (33 + 4 * i)).toNat≤5)
include B hm hW
theorem out_pair {d i : Nat} {a b : Int} (hd : i + (d + 1) ≤ m) (ha : 0 ≤ a ∧ a ≤ 99) (hb : 0 ≤ b ∧ b ≤ 99) (h : (outD ρ (d + 1) i a b).en = true) :
    ∃ x:Nat × Nat,x.1 + x.2≤(ρ.iv (33 + 4 * i)).toNat∧enX ρ (outD ρ d (i + 1)) i a b x∧outD ρ (d + 1) i a b=outX ρ (outD ρ d (i + 1)) i a b x:=by
  have hN:∀ c e,(0≤c∧c≤99)→(0≤e∧e≤99)→(outD ρ d (i + 1) c e).en=true→0≤(outD ρ d (i + 1) c e).many∧(outD ρ d (i + 1) c e).many≤1000:=fun c e hc he hen=>by
    have t:=told_ok B hm hW d (i + 1) c e (by omega) hc he hen
    have:=t.five
    rw [t.many]; omega
  have h':=h
  rw [outD] at h'
  obtain ⟨x,hx,hex,ho,_⟩:=best_pair B (show i < m by omega) ha hb hN (hW i (by omega)) h'
  exact ⟨x,hx,hex,ho⟩
theorem st_ok (h0:0≤ρ.iv 0∧ρ.iv 0≤99) (h2:0≤ρ.iv 2∧ρ.iv 2≤99) (h:enD ρ m=true):∀ k,k≤m→(0≤(stD ρ m k).1∧(stD ρ m k).1≤99)∧(0≤(stD ρ m k).2∧(stD ρ m k).2≤99)∧(outK ρ m k).en=true
  | 0,_=>⟨h0,h2,h⟩
  | k + 1,hk=>by
    obtain ⟨r0,r1,he⟩:=st_ok h0 h2 h k (by omega)
    unfold outK at he
    have hd:m - k=(m - (k + 1)) + 1:=by omega
    rw [hd] at he
    obtain ⟨x,hx,hex,ho⟩:=out_pair B hm hW (show k + (m - (k + 1) + 1)≤m by omega) r0 r1 he
    have hi:k < m:=by omega
    have x5:=hW k hi
    have l0:=left_bd B (show 0 < 2 by omega) r0 (show x.1≤5 by omega) hi
    have l1:=left_bd B (show 1 < 2 by omega) r1 (show x.2≤5 by omega) hi
    have e1:(stD ρ m (k + 1)).1=leftF ρ k 0 (stD ρ m k).1 x.1:=by
      show (outD ρ (m - k) k (stD ρ m k).1 (stD ρ m k).2).b0=_
      rw [hd,ho]; rfl
    have e2:(stD ρ m (k + 1)).2=leftF ρ k 1 (stD ρ m k).2 x.2:=by
      show (outD ρ (m - k) k (stD ρ m k).1 (stD ρ m k).2).b1=_
      rw [hd,ho]; rfl
    refine ⟨by rw [e1]; exact l0,by rw [e2]; exact l1,?_⟩
    unfold outK
    rw [e1,e2]
    exact (enX_iff.1 hex).2
theorem plan_pair (h0:0≤ρ.iv 0∧ρ.iv 0≤99) (h2:0≤ρ.iv 2∧ρ.iv 2≤99) (h:enD ρ m=true) {k:Nat} (hk:k < m):∃ x:Nat × Nat,x.1 + x.2≤(ρ.iv (33 + 4 * k)).toNat∧(outK ρ m k).wc=x.1∧(outK ρ m k).ww=x.2:=by
  obtain ⟨r0,r1,he⟩:=st_ok B hm hW h0 h2 h k (by omega)
  unfold outK at he ⊢
  have hd:m - k=(m - (k + 1)) + 1:=by omega
  rw [hd] at he ⊢
  obtain ⟨x,hx,_,ho⟩:=out_pair B hm hW (show k + (m - (k + 1) + 1)≤m by omega) r0 r1 he
  rw [ho]
  exact ⟨x,hx,rfl,rfl⟩
end
theorem planO_even {ρ:Rho} {L k:Nat}:planO ρ L (2 * k)=(outK ρ L k).wc:=by
  unfold planO; rw [if_pos (by omega),show 2 * k / 2=k by omega]
theorem planO_odd {ρ:Rho} {L k:Nat}:planO ρ L (2 * k + 1)=(outK ρ L k).ww:=by
  unfold planO; rw [if_neg (by omega),show (2 * k + 1) / 2=k by omega]
theorem told_list {ρ:Rho} {L:Nat}:∀ n k,k + n=L→toldL ρ n k (stD ρ L k).1 (stD ρ L k).2=listF (planO ρ L) n k
  | 0,_,_=>rfl
  | n + 1,k,h=>by
    have hd:L - k=n + 1:=by omega
    have ih:=told_list (ρ:=ρ) (L:=L) n (k + 1) (by omega)
    have s:stD ρ L (k + 1)=((outD ρ (n + 1) k (stD ρ L k).1 (stD ρ L k).2).b0,(outD ρ (n + 1) k (stD ρ L k).1 (stD ρ L k).2).b1):=by
      show ((outD ρ (L - k) k (stD ρ L k).1 (stD ρ L k).2).b0,(outD ρ (L - k) k (stD ρ L k).1 (stD ρ L k).2).b1)=_
      rw [hd]
    rw [s] at ih
    have o:outK ρ L k=outD ρ (n + 1) k (stD ρ L k).1 (stD ρ L k).2:=by unfold outK; rw [hd]
    show ((outD ρ (n + 1) k (stD ρ L k).1 (stD ρ L k).2).wc.toNat,(outD ρ (n + 1) k (stD ρ L k).1 (stD ρ L k).2).ww.toNat) :: toldL ρ n (k + 1) _ _=((planO ρ L (2 * k)).toNat,(planO ρ L (2 * k + 1)).toNat) :: listF (planO ρ L) n (k + 1)
    rw [planO_even,planO_odd,o]
    exact congrArg _ ih
end Go.Sx
/-! A LAW OF AN EVENING AND NUMBERS,called with whatever can be read: evenings that are not valid; and what is known for valid ones. -/
namespace Go.Sx
open Go.RowKit Go.Proofs
set_option maxRecDepth 100000
noncomputable def lawIg (f:Nat) (xs:List AV) (L:Nat):Bool:=allK isTrueK (evalN (tbIv (evFalse L)) 60 false f (.agg (bookS (.sliceX 1001 4 0 L)) :: xs) (viewHeap 2000 (lB L))) ⟨.nil,[],[⟨conjC (csV L),false⟩]⟩
noncomputable def lawUg (f:Nat) (xs:List AV) (many:Bool):Bool:=allK isTrueK (evalN (tbIv (evNo many)) 60 false f (.agg (bookS (.sliceU 95)) :: xs) (viewHeap 2000 gl)) (knOf [] [fewC many])
section
variable {E:Env} {w:World} {vs:List Value} (hf:∀ b,2000≤b→E.σ b=none) (hg:∀ b,b < 1000→E.σ b=some (b,0)) (hn:E.n≤2000)
include hf hg hn
theorem law_bad {f : Nat} {xs : List AV} {L : Nat} (hL : L ∈ [1, 2, 3, 4, 5]) (hck : lawIg f xs L = true) (hv : ∀ g ∈ lB L, ViewIn w E g) (ha : concL E (.agg (bookS (.sliceX 1001 4 0 L)) :: xs) = some vs) (k : ¬ ∀ c ∈ csV L, c.den E.ρ = true) :
    Calls Tryd.prog f vs.toArray w fun e w'=>e=.returned (.bool true)∧Below w.heap.size w w':=by
  have B:TabOk pT Sx.Tryd.tt.get (tbIv (evFalse L)):=Tryd.tab _ (orcIv_ok rfl fun args h u e=>evFalse_ok hL e) 2000
  refine law_true B hv hf hg hn ha (K:=⟨.nil,[],[⟨conjC (csV L),false⟩]⟩) ⟨fun i v h=>?_,fun _ hf=>(List.not_mem_nil hf).elim,fun a hm=>?_⟩ hck ⟨fun _ _=>False,trivial,fun _ _ h=>h.elim⟩
  · simp [PT.get] at h
  · rcases List.mem_singleton.1 hm with rfl
    exact conj_f k
theorem law_short {f : Nat} {xs : List AV} (many : Bool) (hck : lawUg f xs many = true) (hv : ∀ g ∈ gl, ViewIn w E g) (ha : concL E (.agg (bookS (.sliceU 95)) :: xs) = some vs) (k : (fewC many).den E.ρ = true) :
    Calls Tryd.prog f vs.toArray w fun e w'=>e=.returned (.bool true)∧Below w.heap.size w w':=by
  have B:TabOk pT Sx.Tryd.tt.get (tbIv (evNo many)):=Tryd.tab _ (orcIv_ok rfl fun args h u e=>evNo_ok many e) 2000
  refine law_true B hv hf hg hn ha (knOf_ok (fun c hc=>(List.not_mem_nil hc).elim) fun c hc=>?_) hck ⟨fun _ _=>False,trivial,fun _ _ h=>h.elim⟩
  rcases List.mem_singleton.1 hc with rfl
  exact k
end
noncomputable def numG (nb z nu:Nat→Int) (len j:Nat):Int:=if j < 22 then nb j else if j < 60 then z (j - 30) else if j=95 then len else nu j
noncomputable def rhoU (nb z nu:Nat→Int) (zb:Nat→Bool) (len:Nat) (s:Value):Rho:=⟨numG nb z nu len,fun j=>zb (j - 30),fun _ _ _ _=>0,fun _ _ _ _=>false,fun _=>s⟩
/-- what is known of a valid evening -/
def LawV (f:Nat) (xs:List AV) (nu:Nat→Int) (L:Nat):Prop:=∀ ρ:Rho,(∀ c ∈ csV L,c.den ρ=true)→(∀ j,60≤j→j < 89→ρ.iv j=nu j) →
  ∃ ρ':Rho,(∀ j,j < 89→ρ.iv j=ρ'.iv j)∧ρ.bv=ρ'.bv∧∀ (E:Env) (w:World) (vs:List Value),E.ρ=ρ'→(∀ g ∈ lB L,ViewIn w E g)→(∀ b,2000≤b→E.σ b=none)→(∀ b,b < 1000→E.σ b=some (b,0))→E.n≤2000 →
    concL E (.agg (bookS (.sliceX 1001 4 0 L)) :: xs)=some vs→Calls Tryd.prog f vs.toArray w fun e w'=>e=.returned (.bool true)∧Below w.heap.size w w'
theorem any_of {f : Nat} {xs : List AV} {vr : List Value} {nu : Nat → Int} (HI : ∀ L ∈ [1, 2, 3, 4, 5], lawIg f xs L = true) (HU : ∀ many, lawUg f xs many = true)
    (hx:∀ E:Env,(∀ j,60≤j→j < 89→E.ρ.iv j=nu j)→concL E xs=some vr) (HV:∀ L ∈ [1,2,3,4,5],LawV f xs nu L)
    {W:World} {ρ0:Rho} (hG:∀ g ∈ gl,GlobIn W ρ0 g) {nb:Nat→Int} {s:Value} (hs:PartsIn W s) :
    Calls Tryd.prog f (.agg ((List.range 22).map (fun i=>Value.int .i64 (nb i)) ++ [s]).toArray :: vr).toArray W fun e W'=>e=.returned (.bool true)∧Below W.heap.size W W':=by
  have hσ:∀ ρ b o cap,∀ j,j < 1000→(envP ρ b o cap).σ j=some (j,0):=fun ρ b o cap j hj=>by simp [envP,hj]
  have hnone:∀ ρ b o cap,∀ j,2000≤j→(envP ρ b o cap).σ j=none:=fun ρ b o cap j hj=>by
    simp only [envP]; rw [if_neg (by omega),if_neg (by omega)]
  have gvw:∀ ρ b o cap,∀ g ∈ gl,ViewIn W (envP ρ b o cap) g:=fun ρ b o cap=>glob_view gl_lit hG (hσ ρ b o cap)
  have args:∀ (ρ:Rho) (b o cap:Nat) (a:AV),(∀ j,j < 22→ρ.iv j=nb j)→(∀ j,60≤j→j < 89→ρ.iv j=nu j)→conc (envP ρ b o cap) a=some s→concL (envP ρ b o cap) (.agg (bookS a) :: xs)=some (.agg ((List.range 22).map (fun i=>Value.int .i64 (nb i)) ++ [s]).toArray :: vr):=fun ρ b o cap a h1 h2 ha =>
    concL_cons.2 ⟨_,_,book_vals h1 ha,hx _ h2,rfl⟩
  have low:∀ z len j,j < 22→numG nb z nu len j=nb j:=fun z len j hj=>by unfold numG; rw [if_pos hj]
  have hi:∀ z len j,60≤j→j < 89→numG nb z nu len j=nu j:=fun z len j h1 h2=>by unfold numG; rw [if_neg (by omega),if_neg (by omega),if_neg (by omega)]
  have short:∀ (len cap:Nat) (a:Option Addr),s=.slice a len cap→(len=0 ∨ 6≤len)→Calls Tryd.prog f (.agg ((List.range 22).map (fun i=>Value.int .i64 (nb i)) ++ [s]).toArray :: vr).toArray W fun e W'=>e=.returned (.bool true)∧Below W.heap.size W W':=fun len cap a hs h=>by
    have i95:(rhoU nb (fun _=>0) nu (fun _=>false) len s).iv 95=len:=by simp [rhoU,numG]
    have hu:conc (envP (rhoU nb (fun _=>0) nu (fun _=>false) len s) 0 0 0) (.sliceU 95)=some s:=by
      simp [conc,envP,rhoU,numG,hs]
    have ha:=args _ 0 0 0 _ (fun j hj=>low (fun _=>0) len j hj) (fun j h1 h2=>hi (fun _=>0) len j h1 h2) hu
    rcases h with h | h
    · exact law_short (hnone _ _ _ _) (hσ _ _ _ _) (Nat.le_refl _) false (HU false) (gvw _ _ _ _) ha (by
        show (leV (.var 95) (.lit 0)).den _=true
        unfold leV; rw [BE.t_leq,IE.den_var,IE.den_lit]; show (rhoU nb (fun _=>0) nu (fun _=>false) len s).iv 95≤0; rw [i95]; omega)
    · exact law_short (hnone _ _ _ _) (hσ _ _ _ _) (Nat.le_refl _) true (HU true) (gvw _ _ _ _) ha (by
        show (leV (.lit 6) (.var 95)).den _=true
        unfold leV; rw [BE.t_leq,IE.den_var,IE.den_lit]; show 6≤(rhoU nb (fun _=>0) nu (fun _=>false) len s).iv 95; rw [i95]; omega)
  rcases hs with hs | ⟨b,o,len,cap,z,zb,hs,hlc,hc⟩
  · exact short 0 0 none hs (.inl rfl)
  · by_cases h0:len=0
    · exact short len cap _ hs (.inl h0)
    · by_cases h6:6≤len
      · exact short len cap _ hs (.inr h6)
      · obtain ⟨cells,el,fz,c1,c2⟩:=hc (by omega)
        have hLm:len ∈ [1,2,3,4,5]:=by simp only [List.mem_cons,List.not_mem_nil,or_false]; omega
        have hsl:∀ ρ,conc (envP ρ b o cap) (.sliceX 1001 4 0 len)=some s:=fun ρ=>by
          rw [hs]
          simp only [conc,envP]
          rw [if_pos (by simp; omega)]
          simp
        have hview:∀ ρ:Rho,(∀ q,q < 4 * len→ρ.iv (30 + q)=z q)→(∀ q,q < 4 * len→ρ.bv (30 + q)=zb q)→∀ g ∈ lB len,ViewIn W (envP ρ b o cap) g:=fun ρ hz hb g hg=>by
          rcases List.mem_cons.1 hg with rfl | hg
          · exact gvw ρ b o cap _ List.mem_cons_self
          · rcases List.mem_singleton.1 hg with rfl
            obtain ⟨vs,v1,v2,v3⟩:=rowsV_vals (envP ρ b o cap) z zb len 30 0 rfl (fun q hq=>by rw [Nat.zero_add]; exact hz q hq) (fun q hq=>by rw [Nat.zero_add]; exact hb q hq)
            refine ⟨b,o,vs,cells,el,fz,by simp [envP],v1,c1,fun i hi=>?_⟩
            rw [v2] at hi
            rw [c2 i hi,v3 i hi,Nat.zero_add]
        let ρ:=rhoU nb z nu zb len s
        have hz:∀ q,q < 4 * len→ρ.iv (30 + q)=z q:=fun q hq=>by
          show numG nb z nu len (30 + q)=_
          unfold numG
          rw [if_neg (by omega),if_pos (by omega),Nat.add_sub_cancel_left]
        have hb:∀ q,q < 4 * len→ρ.bv (30 + q)=zb q:=fun q hq=>by
          show zb (30 + q - 30)=_
          rw [Nat.add_sub_cancel_left]
        by_cases hcs:∀ c ∈ csV len,c.den ρ=true
        · obtain ⟨ρ',A,Ab,key⟩:=HV len hLm ρ hcs fun j h1 h2=>hi z len j h1 h2
          exact key (envP ρ' b o cap) W _ rfl (hview _ (fun q hq=>by rw [← A _ (by omega)]; exact hz q hq) (fun q hq=>by rw [← congrFun Ab (30 + q)]; exact hb q hq)) (hnone _ _ _ _) (hσ _ _ _ _) (Nat.le_refl _) (args _ b o cap _ (fun j hj=>by rw [← A j (by omega)]; exact low z len j hj) (fun j h1 h2=>by rw [← A j h2]; exact hi z len j h1 h2) (hsl _))
        · exact law_bad (hnone _ _ _ _) (hσ _ _ _ _) (Nat.le_refl _) hLm (HI len hLm) (E:=envP ρ b o cap) (hview ρ hz hb) (args ρ b o cap _ (fun j hj=>low z len j hj) (fun j h1 h2=>hi z len j h1 h2) (hsl ρ)) hcs
end Go.Sx
/-! WHAT IS EASIER: the kinds of evenings that are,and that they are. -/
namespace Go.Sx
open Go.RowKit Go.Proofs
set_option maxRecDepth 100000
noncomputable def upE (j:Nat) (hi:IE):IE:=.mn hi (addE (.var j) (.var 90))
noncomputable def dnE (lo:IE) (j:Nat):IE:=.mx lo (.bin .sub .i64 (.var j) (.var 90))
noncomputable def twoE (j:Nat) (v:IE) (k:Nat) (w:IE):Nat→IE:=fun q=>cond (Nat.beq q j) v (oneE k w q)
/-- what is easier,and of which part -/
noncomputable def ezE (t i:Nat):Nat→IE:=match t with
  | 0=>oneE 0 (upE 0 (.var 1))
  | 1=>oneE 2 (upE 2 (.var 3))
  | 2=>twoE 4 (upE 4 (lt 99)) 5 (upE 5 (lt 99))
  | 3=>oneE 6 (upE 6 (lt 20))
  | 4=>oneE 7 (upE 7 (lt 20))
  | 5=>oneE (33 + 4 * i) (upE (33 + 4 * i) (lt 5))
  | 6=>oneE (31 + 4 * i) (dnE (.var (30 + 4 * i)) (31 + 4 * i))
  | 7=>oneE 21 (dnE (lt 0) 21)
  | 8=>oneE 20 (dnE (lt 0) 20)
  | 9=>twoE 9 (.var 8) 13 (.var 12)
  | _=>twoE 11 (.var 10) 15 (.var 14)
theorem twoE_ne {j k q:Nat} {v w:IE} (h:q ≠ j) (h':q ≠ k):twoE j v k w q=.var q:=by
  unfold twoE
  cases hb:Nat.beq q j with
  | true=>exact absurd (beq_t.1 hb) h
  | false=>exact oneE_ne h'
theorem up_den {ρ:Rho} {j:Nat} {hi:IE} (h:-1000≤ρ.iv j∧ρ.iv j≤1000) (h90:0≤ρ.iv 90∧ρ.iv 90≤11):(upE j hi).den ρ=min (hi.den ρ) (ρ.iv j + ρ.iv 90):=by
  have e:(addE (.var j) (.var 90)).den ρ=ρ.iv j + ρ.iv 90:=IntWalk.i64_in (ρ.iv j + ρ.iv 90) (by omega)
  show (if (addE (.var j) (.var 90)).den ρ < hi.den ρ then (addE (.var j) (.var 90)).den ρ else hi.den ρ)=_
  rw [e]; split <;> omega
theorem dn_den {ρ:Rho} {j:Nat} {lo:IE} (h:-1000≤ρ.iv j∧ρ.iv j≤1000) (h90:0≤ρ.iv 90∧ρ.iv 90≤11):(dnE lo j).den ρ=max (lo.den ρ) (ρ.iv j - ρ.iv 90):=by
  have e:(IE.bin .sub .i64 (.var j) (.var 90)).den ρ=ρ.iv j - ρ.iv 90:=IntWalk.i64_in (ρ.iv j - ρ.iv 90) (by omega)
  show (if lo.den ρ < (IE.bin .sub .i64 (.var j) (.var 90)).den ρ then (IE.bin .sub .i64 (.var j) (.var 90)).den ρ else lo.den ρ)=_
  rw [e]; split <;> omega
theorem fail_ez {ρ ρ':Rho} {i:Nat} {l l':Int} (hbv:ρ'.bv (32 + 4 * i)=ρ.bv (32 + 4 * i)) (hm:ρ'.iv 20≤ρ.iv 20) (hl:ρ'.iv 21≤ρ.iv 21) (hw:ρ'.iv 18=ρ.iv 18) (hf:ρ'.iv 16=ρ.iv 16) (hc:ρ.iv 18≤ρ.iv 16) (h:l≤l') (k:failF ρ' i l'=true):failF ρ i l=true:=by
  unfold failF at *
  simp only [Bool.and_eq_true] at *
  rw [hbv] at k
  refine ⟨k.1,?_⟩
  have k:=k.2
  rw [hw,hf] at k
  split at k <;> split <;> simp only [decide_eq_true_eq] at * <;> omega
/-- both valid; the second one no less in any way -/
theorem ez_of {ρ ρ' : Rho} {L : Nat} (cs : ∀ c ∈ csV L, c.den ρ = true) (cs' : ∀ c ∈ csV L, c.den ρ' = true) (hb : ρ'.bv = ρ.bv) (room : ∀ r, r < 2 → ρ.iv (4 + r) ≤ ρ'.iv (4 + r)) (load : ∀ r, r < 2 → ρ.iv (6 + r) ≤ ρ'.iv (6 + r))
    (mins:∀ i,i < L→ρ'.iv (31 + 4 * i)≤ρ.iv (31 + 4 * i)) (rate:∀ q,q < 4→ρ'.iv (9 + 2 * q)≤ρ.iv (9 + 2 * q)) (walks:∀ i,i < L→ρ.iv (33 + 4 * i)≤ρ'.iv (33 + 4 * i)) (mark:ρ'.iv 20≤ρ.iv 20) (lamp:ρ'.iv 21≤ρ.iv 21) (weak:ρ'.iv 18=ρ.iv 18) (full:ρ'.iv 16=ρ.iv 16):Ez ρ ρ' L:=by
  have B:=(cs_iff.1 cs).1
  have B':=(cs_iff.1 cs').1
  have mb:∀ {ρ:Rho},(∀ c ∈ csV L,c.den ρ=true)→∀ i,i < L→0≤ρ.iv (31 + 4 * i)∧ρ.iv (31 + 4 * i)≤130:=fun h i hi=>by
    have:=((cs_iff.1 h).2 i hi).min
    rw [show 30 + 4 * i + 1=31 + 4 * i by omega] at this; omega
  refine ⟨bds_cs cs,bds_cs cs',room,load,fun i hi r hr=>?_,fun i hi=>Int.toNat_le_toNat (walks i hi),fun i hi=>?_,fun i hi l l' h k=>fail_ez (congrFun hb _) mark lamp weak full B.cur.1 h k⟩
  · obtain ⟨e1,q1⟩:=tak_eq B hr (mb cs i hi)
    obtain ⟨e2,q2⟩:=tak_eq B' hr (mb cs' i hi)
    rw [e1,e2]
    have hbb:ρ'.bv (32 + 4 * i)=ρ.bv (32 + 4 * i):=congrFun hb _
    rw [hbb] at q2 ⊢
    have hrate:ρ'.iv (if ρ.bv (32 + 4 * i)=true then 11 + 4 * r else 9 + 4 * r)≤ρ.iv (if ρ.bv (32 + 4 * i)=true then 11 + 4 * r else 9 + 4 * r):=by
      split
      · have:=rate (1 + 2 * r) (by omega)
        rw [show 9 + 2 * (1 + 2 * r)=11 + 4 * r by omega] at this; exact this
      · have:=rate (2 * r) (by omega)
        rw [show 9 + 2 * (2 * r)=9 + 4 * r by omega] at this; exact this
    exact Int.mul_le_mul (mins i hi) hrate q2.1 (mb cs i hi).1
  · obtain ⟨W,w1,w2⟩:=walks_cs cs' i hi
    rw [w2]; omega
end Go.Sx
