/- EvH -/
import Derived.Test.YtfbongdjicmegaaDoorEvB
import Derived.Test.YtfbongdjicmegaaDoorEnS
import Derived.Test.YtfbongdjicmegaaDoorSxPres
import Derived.Test.YtfbongdjicmegaaDoorEnT
import Derived.Test.YtfbongdjicmegaaDoorEnKt20
import Derived.Test.YtfbongdjicmegaaDoorEnKt30
import Derived.Test.YtfbongdjicmegaaDoorEnKt32
import Derived.Test.YtfbongdjicmegaaDoorEnKt41
import Derived.Test.YtfbongdjicmegaaDoorEnKt43
import Derived.Test.YtfbongdjicmegaaDoorEnKt51
import Derived.Test.YtfbongdjicmegaaDoorEnKt53
import Derived.Test.YtfbongdjicmegaaDoorEnKt54
import Derived.Test.YtfbongdjicmegaaDoorDrB
import Derived.ChangeSlices
namespace Go.Sx
open Go.RowKit Go.Proofs
set_option maxRecDepth 100000
theorem rowsV_vals (E : Env) (z : Nat → Int) (zb : Nat → Bool) : ∀ (n b c : Nat), c % 4 = 0 → (∀ q, q < 4 * n → E.ρ.iv (b + q) = z (c + q)) → (∀ q, q < 4 * n → E.ρ.bv (b + q) = zb (c + q)) →
    ∃ vs,ad E (bf n b)=some vs∧vs.length=4 * n∧∀ q,q < 4 * n→vs[q]?=some (partAt z zb (c + q))
  | 0,b,c,_,_,_=>⟨[],rfl,rfl,fun q hq=>absurd hq (by omega)⟩
  | n + 1,b,c,h4,hz,hb=>by
    obtain ⟨vs,h1,h2,h3⟩:=rowsV_vals E z zb n (b + 4) (c + 4) (by omega) (fun q hq=>by rw [show b + 4 + q=b + (4 + q) by omega,show c + 4 + q=c + (4 + q) by omega]; exact hz _ (by omega)) (fun q hq=>by rw [show b + 4 + q=b + (4 + q) by omega,show c + 4 + q=c + (4 + q) by omega]; exact hb _ (by omega))
    have e0:=hz 0 (by omega); have e1:=hz 1 (by omega); have e2:=hb 2 (by omega); have e3:=hz 3 (by omega)
    refine ⟨partAt z zb c :: partAt z zb (c + 1) :: partAt z zb (c + 2) :: partAt z zb (c + 3) :: vs,?_,by simp only [List.length_cons,h2]; omega,fun q hq=>?_⟩
    · simp only [bf,vi,ad,af,IE.den,BE.den,h1]
      unfold partAt
      rw [if_neg (show ¬ c % 4=2 by omega),if_neg (show ¬ (c + 1) % 4=2 by omega),if_pos (show (c + 2) % 4=2 by omega),if_neg (show ¬ (c + 3) % 4=2 by omega),← e1,← e2,← e3]
      rw [Nat.add_zero,Nat.add_zero] at e0
      rw [← e0]
    · match q,hq with
      | 0,_=>rfl
      | 1,_=>rfl
      | 2,_=>rfl
      | 3,_=>rfl
      | q + 4,hq =>
        have:=h3 q (by omega)
        rw [show c + 4 + q=c + (q + 4) by omega] at this
        exact this
def envP (ρ:Rho) (b o cap:Nat):Env:=⟨ρ,fun j=>if j < 1000 then some (j,0) else if j=1001 then some (b,o) else none,fun _=>cap,2000,fun _=>#[]⟩
theorem book_vals {E:Env} {nb:Nat→Int} {a:AV} {s:Value} (hi:∀ j,j < 22→E.ρ.iv j=nb j) (ha:af E a=some s):af E (.agg (eG a))=some (.agg ((List.range 22).map (fun i=>Value.int .i64 (nb i)) ++ [s]).toArray):=by
  have h:ad E (eG a)=some ((List.range 22).map (fun i=>Value.int .i64 (nb i)) ++ [s]):=by
    have hl:eG a=[vi 0,vi 1,vi 2,vi 3,vi 4,vi 5,vi 6,vi 7,vi 8,vi 9,vi 10,vi 11,vi 12,vi 13,vi 14,vi 15,vi 16,vi 17,vi 18,vi 19,vi 20,vi 21,a]:=rfl
    rw [hl]
    simp only [vi,ad,af,IE.den,ha,hi 0 (by omega),hi 1 (by omega),hi 2 (by omega),hi 3 (by omega),hi 4 (by omega),hi 5 (by omega),hi 6 (by omega),hi 7 (by omega),hi 8 (by omega),hi 9 (by omega),hi 10 (by omega),hi 11 (by omega),hi 12 (by omega),hi 13 (by omega),hi 14 (by omega),hi 15 (by omega),hi 16 (by omega),hi 17 (by omega),hi 18 (by omega),hi 19 (by omega),hi 20 (by omega),hi 21 (by omega)]
    rfl
  simp only [af,h]
  rfl
end Go.Sx
namespace Go.Sx
open Go.RowKit Go.Proofs
set_option maxRecDepth 100000
structure BookE (iv:Nat→Int):Prop where
  room0:1≤iv 4∧iv 4≤99
  room1:1≤iv 5∧iv 5≤99
  coal:0≤iv 0∧iv 0≤iv 1∧iv 1≤iv 4
  water:0≤iv 2∧iv 2≤iv 3∧iv 3≤iv 5
  load0:1≤iv 6∧iv 6≤20
  load1:1≤iv 7∧iv 7≤20
  mark:0≤iv 20∧iv 20≤iv 5
  lamp:0≤iv 21∧iv 21≤60
  b0:0≤iv 8∧iv 8≤iv 9∧iv 9≤3
  b1:0≤iv 10∧iv 10≤iv 11∧iv 11≤3
  d0:0≤iv 12∧iv 12≤iv 13∧iv 13≤3
  d1:0≤iv 14∧iv 14≤iv 15∧iv 15≤3
  full:0≤iv 16∧iv 16≤iv 17∧iv 17≤60
  weak:0≤iv 18∧iv 18≤iv 19∧iv 19≤60
  cur:iv 18≤iv 16∧iv 19≤iv 17
structure PartE (iv:Nat→Int) (b:Nat):Prop where
  min:1≤iv b∧iv b≤iv (b + 1)∧iv (b + 1)≤60
  walks:0≤iv (b + 3)∧iv (b + 3)≤5
theorem book_iff {ρ:Rho}:(∀ c ∈ bookC,c.den ρ=true) ↔ BookE ρ.iv:=by
  simp only [bookC,inV,leV,List.cons_append,List.nil_append,List.mem_cons,List.not_mem_nil,or_false,forall_eq_or_imp,forall_eq,BE.t_leq,IE.den_lit,IE.den_var,Nat.reduceAdd]
  constructor
  · rintro ⟨h1,h2,h3,h4,h5,h6,h7,h8,h9,h10,h11,h12,h13,h14,h15,h16,h17,h18,h19,h20,h21,h22,h23,h24,h25,h26,h27,h28,h29,h30,h31,h32,h33,h34,h35,h36,h37,h38⟩
    constructor <;> omega
  · rintro ⟨⟨_,_⟩,⟨_,_⟩,⟨_,_,_⟩,⟨_,_,_⟩,⟨_,_⟩,⟨_,_⟩,⟨_,_⟩,⟨_,_⟩,⟨_,_,_⟩,⟨_,_,_⟩,⟨_,_,_⟩,⟨_,_,_⟩,⟨_,_,_⟩,⟨_,_,_⟩,⟨_,_⟩⟩
    refine ⟨?_,?_,?_,?_,?_,?_,?_,?_,?_,?_,?_,?_,?_,?_,?_,?_,?_,?_,?_,?_,?_,?_,?_,?_,?_,?_,?_,?_,?_,?_,?_,?_,?_,?_,?_,?_,?_,?_⟩ <;> assumption
theorem part_iff {ρ:Rho} {b:Nat}:(∀ c ∈ partV b,c.den ρ=true) ↔ PartE ρ.iv b:=by
  simp only [partV,leV,List.mem_cons,List.not_mem_nil,or_false,forall_eq_or_imp,forall_eq,BE.t_leq,IE.den_lit,IE.den_var]
  constructor
  · rintro ⟨h1,h2,h3,h4,h5⟩; constructor <;> omega
  · rintro ⟨⟨_,_,_⟩,⟨_,_⟩⟩; refine ⟨?_,?_,?_,?_,?_⟩ <;> assumption
theorem parts_iff {ρ:Rho}:∀ {n b:Nat},(∀ c ∈ partsV n b,c.den ρ=true) ↔ ∀ i,i < n→PartE ρ.iv (b + 4 * i)
  | 0,b=>⟨fun _ i h=>absurd h (by omega),fun _ c hc=>by cases hc⟩
  | n + 1,b=>by
    have ih:=parts_iff (ρ:=ρ) (n:=n) (b:=b + 4)
    have ip:=part_iff (ρ:=ρ) (b:=b)
    constructor
    · intro h i hi
      cases i with
      | zero=>exact ip.1 fun c hc=>h c (List.mem_append.2 (.inl hc))
      | succ i =>
        have:=ih.1 (fun c hc=>h c (List.mem_append.2 (.inr hc))) i (by omega)
        rw [show b + 4 * (i + 1)=b + 4 + 4 * i by omega]; exact this
    · intro h c hc
      rcases List.mem_append.1 hc with hc | hc
      · exact ip.2 (h 0 (by omega)) c hc
      · exact ih.2 (fun i hi=>by rw [show b + 4 + 4 * i=b + 4 * (i + 1) by omega]; exact h (i + 1) (by omega)) c hc
theorem fg {ρ:Rho} {L:Nat}:(∀ c ∈ csV L,c.den ρ=true) ↔ BookE ρ.iv∧∀ i,i < L→PartE ρ.iv (30 + 4 * i):=by
  rw [← book_iff,← parts_iff]
  exact ⟨fun h=>⟨fun c hc=>h c (List.mem_append.2 (.inl hc)),fun c hc=>h c (List.mem_append.2 (.inr hc))⟩,fun h c hc=>(List.mem_append.1 hc).elim (h.1 c) (h.2 c)⟩
structure cD (ρ ρ':Rho):Prop where
  iv:∀ j,j < 60→ρ.iv j=ρ'.iv j
  bv:∀ j,j < 60→ρ.bv j=ρ'.bv j
section
variable {ρ ρ':Rho} (A:cD ρ ρ')
include A
theorem tak_agreeL {i r:Nat} (hi:i < 7) (hr:r < 2):eT ρ i r=eT ρ' i r:=by
  unfold eT
  rw [A.iv (31 + 4 * i) (by omega),A.bv (32 + 4 * i) (by omega)]
  split
  · rw [A.iv (11 + 4 * r) (by omega)]
  · rw [A.iv (9 + 4 * r) (by omega)]
theorem cL {i r:Nat} (hi:i < 7) (hr:r < 2) (a w:Int):aY ρ i r a w=aY ρ' i r a w:=by
  unfold aY cA; rw [tak_agreeL A hi hr,A.iv (6 + r) (by omega),A.iv (4 + r) (by omega)]
theorem cd {i r:Nat} (hi:i < 7) (hr:r < 2) (a w:Int):bY ρ i r a w=bY ρ' i r a w:=by
  unfold bY cA; rw [tak_agreeL A hi hr,A.iv (6 + r) (by omega),A.iv (4 + r) (by omega)]
theorem fail_agreeL {i:Nat} (hi:i < 7) (l:Int):cK ρ i l=cK ρ' i l:=by
  unfold cK; rw [A.bv (32 + 4 * i) (by omega),A.iv 20 (by omega),A.iv 18 (by omega),A.iv 21 (by omega),A.iv 16 (by omega)]
theorem roundG_agreeL {i:Nat} (hi:i < 7) (nx:Int→Int→Out) (a b:Int) (cw ww:Nat) (S:Stt):roundG ρ nx i a b cw ww S=roundG ρ' nx i a b cw ww S:=by
  unfold roundG
  simp only [cL A hi (show 0 < 2 by omega),cL A hi (show 1 < 2 by omega),cd A hi (show 0 < 2 by omega),cd A hi (show 1 < 2 by omega),fail_agreeL A hi]
theorem roundsG_agreeL {i:Nat} (hi:i < 7) (nx:Int→Int→Out) (a b:Int):∀ (l:List (Nat × Nat)) (S:Stt),fk ρ nx i a b l S=fk ρ' nx i a b l S
  | [],_=>rfl
  | x :: l,S=>by simp only [fk]; rw [roundG_agreeL A hi,roundsG_agreeL hi nx a b l]
theorem fZ:∀ (d i:Nat),i + d≤7→outD ρ d i=outD ρ' d i
  | 0,_,_=>rfl
  | d + 1,i,h=>by
    funext a b
    simp only [outD]
    rw [fZ d (i + 1) (by omega),roundsG_agreeL A (by omega),A.iv (33 + 4 * i) (by omega)]
theorem enD_agreeL {m:Nat} (hm:m≤7):enD ρ m=enD ρ' m:=by
  unfold enD; rw [fZ A m 0 (by omega),A.iv 0 (by omega),A.iv 2 (by omega)]
end
noncomputable def vx (e:Nat→IE) (j:Nat):AV:=.int .i64 (e j)
noncomputable def rowsX (e:Nat→IE):Nat→Nat→List AV
  | 0,_=>[]
  | n + 1,b=>vx e b :: vx e (b + 1) :: .bool (.var (b + 2)) :: vx e (b + 3) :: rowsX e n (b + 4)
noncomputable def vxUp (e:Nat→IE):Nat→Nat→List AV
  | 0,_=>[]
  | n + 1,i=>vx e i :: vxUp e n (i + 1)
noncomputable def bookX (e:Nat→IE) (s:AV):List AV:=cC (vxUp e 22 0) [s]
theorem rowsX_ids (e:Nat→IE) (N:Nat):∀ n b,aW N (rowsX e n b)=true
  | 0,_=>rfl
  | n + 1,b=>by simp only [rowsX,aW,cP,vx,rowsX_ids e N n (b + 4),Bool.and_self]
end Go.Sx
namespace Go.Sx
open Go.RowKit Go.Proofs
set_option maxRecDepth 100000
theorem ckA_all {q:Bool} {m i:Nat} (h:gE q m i=true):ckS q m i=true∧∀ W,W≤5→ckW q m i W=true:=by
  unfold gE at h
  simp only [Bool.and_eq_true] at h
  exact ⟨h.1,fun W hW=>av h.2 W (by simp only [List.mem_cons,List.not_mem_nil,or_false]; omega)⟩
theorem ckO_at {m:Nat} (h:m≤5):ckO true m=true∧ckO false m=true∧ckP true m=true∧ckP false m=true:=by
  have:=av ckO_all m (by simp only [List.mem_cons,List.not_mem_nil,or_false]; omega)
  simpa only [Bool.and_eq_true] using this
theorem look_of {q:Bool} {m:Nat} (hm:m≤5) (hN:ckN q m=true) (h:∀ i,i < m→gE q m i=true):cX q m 0 :=
  look_all hm hN (fun i hi=>(ckA_all (h i hi)).1) (fun i hi=>(ckA_all (h i hi)).2) m 0 (Nat.zero_add m)
theorem look_t1:cX true 1 0:=look_of (by omega) ckN_t1 fun i hi=>by
  match i,hi with
  | 0,_=>exact ckA_t10
theorem look_t2:cX true 2 0:=look_of (by omega) ckN_t2 fun i hi=>by
  match i,hi with
  | 0,_=>exact ckA_t20
  | 1,_=>exact ckA_t21
theorem look_t3:cX true 3 0:=look_of (by omega) ckN_t3 fun i hi=>by
  match i,hi with
  | 0,_=>exact ckA_t30
  | 1,_=>exact ckA_t31
  | 2,_=>exact ckA_t32
theorem look_t4:cX true 4 0:=look_of (by omega) ckN_t4 fun i hi=>by
  match i,hi with
  | 0,_=>exact ckA_t40
  | 1,_=>exact ckA_t41
  | 2,_=>exact ckA_t42
  | 3,_=>exact ckA_t43
theorem look_t5:cX true 5 0:=look_of (by omega) ckN_t5 fun i hi=>by
  match i,hi with
  | 0,_=>exact ckA_t50
  | 1,_=>exact ckA_t51
  | 2,_=>exact ckA_t52
  | 3,_=>exact ckA_t53
  | 4,_=>exact ckA_t54
theorem looks_t:∀ n,1≤n→n≤5→Looks true n:=fun n h1 h5=>⟨by
  match n,h1,h5 with
  | 1,_,_=>exact look_t1
  | 2,_,_=>exact look_t2
  | 3,_,_=>exact look_t3
  | 4,_,_=>exact look_t4
  | 5,_,_=>exact look_t5,(ckO_at h5).1,(ckO_at h5).2.2.1⟩
end Go.Sx
namespace Go.Sx
open Go.RowKit Go.Proofs
set_option maxRecDepth 100000
noncomputable def stD (ρ:Rho) (m:Nat):Nat→Int × Int
  | 0=>(ρ.iv 0,ρ.iv 2)
  | k + 1=>((outD ρ (m - k) k (stD ρ m k).1 (stD ρ m k).2).b0,(outD ρ (m - k) k (stD ρ m k).1 (stD ρ m k).2).b1)
noncomputable def outK (ρ:Rho) (m k:Nat):Out:=outD ρ (m - k) k (stD ρ m k).1 (stD ρ m k).2
structure OkC (m:Nat) (c:Bool) (ρ:Rho):Prop where
  w:∀ i,i < m→∃ W:Nat,W≤5∧ρ.iv (33 + 4 * i)=W
  e:enD ρ m=c
  pl:c=true→∀ k,k < m→ρ.iv (700 + 2 * k)=(outK ρ m k).wc∧ρ.iv (701 + 2 * k)=(outK ρ m k).ww
noncomputable def planN:Nat→Nat→List AV
  | 0,_=>[]
  | n + 1,b=>vi b :: vi (b + 1) :: planN n (b + 2)
theorem key_st {ρ:Rho} {m:Nat} (hw:∀ i,i < m→∃ W:Nat,W≤5∧ρ.iv (33 + 4 * i)=W) (h:enD ρ m=true):∀ k,k < m→(dP k).1.den (fy ρ m)=k∧(dP k).2.1.den (fy ρ m)=(stD ρ m k).1∧(dP k).2.2.den (fy ρ m)=(stD ρ m k).2
  | 0,_=>⟨rfl,rfl,rfl⟩
  | k + 1,hk=>by
    obtain ⟨h1,h2,h3⟩:=key_st hw h k (by omega)
    have p:=(path_ok (okG_E hw) ((enB_E ρ m).trans h) (k + 1) hk).1
    refine ⟨p,?_,?_⟩
    · show FI (fy ρ m).fi 9405 ((dP k).1.den (fy ρ m)) ((dP k).2.1.den (fy ρ m)) ((dP k).2.2.den (fy ρ m))=_
      rw [h1,h2,h3]
      have:=congrArg Out.b0 (outOf_E ρ m k (stD ρ m k).1 (stD ρ m k).2)
      rw [Int.toNat_natCast] at this
      exact this
    · show FI (fy ρ m).fi 9406 ((dP k).1.den (fy ρ m)) ((dP k).2.1.den (fy ρ m)) ((dP k).2.2.den (fy ρ m))=_
      rw [h1,h2,h3]
      have:=congrArg Out.b1 (outOf_E ρ m k (stD ρ m k).1 (stD ρ m k).2)
      rw [Int.toNat_natCast] at this
      exact this
theorem plan_same {ρ:Rho} {m:Nat} (hk:OkC m true ρ):∀ n k,k + n=m→SameL (fy ρ m) (planC n k) ρ (planN n (700 + 2 * k))
  | 0,_,_=>SameL.nil
  | n + 1,k,h=>by
    obtain ⟨h1,h2,h3⟩:=key_st hk.w hk.e k (by omega)
    obtain ⟨p1,p2⟩:=hk.pl rfl k (by omega)
    have o:=outOf_E ρ m k (stD ρ m k).1 (stD ρ m k).2
    rw [Int.toNat_natCast] at o
    refine SameL.cons (SameV.int ?_) (SameL.cons (SameV.int ?_) (plan_same hk n (k + 1) (by omega)))
    · show FI (fy ρ m).fi 9402 ((dP k).1.den (fy ρ m)) ((dP k).2.1.den (fy ρ m)) ((dP k).2.2.den (fy ρ m))=ρ.iv (700 + 2 * k)
      rw [h1,h2,h3,p1]; exact congrArg Out.wc o
    · show FI (fy ρ m).fi 9403 ((dP k).1.den (fy ρ m)) ((dP k).2.1.den (fy ρ m)) ((dP k).2.2.den (fy ρ m))=ρ.iv (700 + 2 * k + 1)
      rw [h1,h2,h3,show 700 + 2 * k + 1=701 + 2 * k by omega,p2]; exact congrArg Out.ww o
noncomputable def newP (m b:Nat):AObj:=.cells (planN m b) 76 true false
noncomputable def vQ0 (m:Nat):List (Nat × AObj):=[(1001,.cells (bf m 30) 0 false false),(2000,newP m 700)]
noncomputable def resP (m:Nat) (c:Bool) (l:List (Nat × AObj)):AV × Heap:=cond c (foundV m,ah 2001 (cC l [(2000,newP m 700)])) (noneV,ah 2000 l)
theorem plan_sh {m : Nat} {c : Bool} (h0 : 0 < m) (hm : m ≤ 5) (L : Looks true m) (hck : ckQ true m = true) :
    CallOk (aQ fun ρ _=>OkC m c ρ) 31 (argsO true m) (ah 2000 (vS m)) (.ret (resP m c (vS m))):=by
  have base:∀ c:Bool,CallOk (aQ fun ρ _=>OkG m ρ∧enB.den ρ=c) 31 (argsO true m) (ah 2000 (vS m)) (.ret (cond c (foundV m,ah 2001 (vQ m)) (noneV,ah 2000 (vS m)))):=fun c=>by
    have hc:=plan_ok (ok:=fun ρ _=>OkG m ρ∧enB.den ρ=c) (q:=true) (c:=c) h0 hm L.l L.o hck fun ρ b k=>k
    cases c
    · exact hc
    · exact hc
  refine CallOk.read (p0:=aQ fun ρ _=>OkG m ρ∧enB.den ρ=c) (p:=aQ fun ρ _=>OkC m c ρ) rfl (base c) fun ρ b h Q hQ=>?_
  obtain ⟨k,hk,hb⟩:=h
  have hk:OkC m c ρ:=hk
  have ei:ρ.iv=(fy ρ m).iv:=rfl
  have eb:ρ.bv=(fy ρ m).bv:=rfl
  refine ⟨fy ρ m,⟨k,⟨okG_E hk.w,(enB_E ρ m).trans hk.e⟩,hb⟩,SameL.cons (SameV.agg (gH (fun j _=>congrFun ei j) true m)) SameL.nil,vS_same ei eb rfl m,?_⟩
  cases c
  · exact ⟨(noneV,ah 2000 (vS m)),hQ,fun _ _ _ _ _ _=>rfl,vS_same ei.symm eb.symm rfl m⟩
  · refine ⟨(foundV m,ah 2001 (vQ0 m)),hQ,fun _ _ _ _ _ _=>rfl,rfl,fun b o hg=>?_⟩
    have:=am _ _ _ _ hg
    simp only [vQ0,List.mem_cons,List.not_mem_nil,or_false] at this
    rcases this with h | h
    · cases h; exact ⟨_,aC 2001 _ 0 rfl (1001,.cells (bf m 30) 0 false false) (by simp [vQ]),SameA.cells rfl (rowsV_same ei.symm eb.symm _ _)⟩
    · cases h; exact ⟨_,aC 2001 _ 0 rfl (2000,.cells (planC m 0) 76 true false) (by simp [vQ]),SameA.cells rfl (plan_same hk m 0 (Nat.zero_add m))⟩
structure OkPl (m:Nat) (c:Bool) (ρ:Rho):Prop where
  cs:∀ d ∈ csV m,d.den ρ=true
  o:OkC m c ρ
noncomputable def orcPl (m:Nat) (c:Bool) (f:FuncId) (args:List AV) (h:Heap):Option (T (AV × Heap)) :=
  cond (Nat.beq f 42) (soGo m args h) (cond (Nat.beq f 31) (frontGo (argsO true m) (lS m) (.ret (resP m c (vS m))) args h) none)
noncomputable def tbPl (m:Nat) (c:Bool):hI:=⟨Sx.Tryd.ft.get,aA Sx.Tryd.rt,2000,orcPl m c⟩
noncomputable def runPl (m:Nat) (c:Bool):T (AV × Heap):=(b7 (tbPl m c) 60 false 9 (bookA m) (ah 2000 (vB m))).bind fun r=>bV 2000 (vB m) (ah 2000 (vB m)) (nwP r) r
noncomputable def isRes (m:Nat) (c:Bool) (r:AV × Heap):Bool:=cond c (isR (foundV m) 2001 (cC (vB m) [(2000,newP m 700)]) r) (isR noneV 2000 (vB m) r)
noncomputable def ckPl (m:Nat) (c:Bool):Bool:=and (ba 2000 (vB m)) (allK (fun _=>isRes m c) (runPl m c) (knOf [] []))
theorem ckPl_all:bz (fun m=>and (ckPl m true) (ckPl m false)) [1,2,3,4,5]=true:=by kernel_rfl
theorem so_any {ok:Rho→(Nat→Obj→Prop)→Prop} {n:Nat} {f:Nat} (hok:∀ ρ b,ok ρ b→∀ c ∈ csV n,c.den ρ=true) (hck:ckBk f n (.bool (.lit true))=true) {args:List AV} {h:Heap} {t:T (AV × Heap)} (e:soGo n args h=some t):CallOk (aQ ok) f args h t:=by
  have hv:ba 2000 (vB n)=true:=by
    have:=hck
    unfold ckBk at this
    simp only [Bool.and_eq_true] at this
    exact this.1
  exact frontGo_ok (p:=aQ ok) (l:=lB n) (valid_ok (ok:=ok) hck hok) rfl hv e
theorem vals_at {n:Nat} (a:1≤n) (b:n≤5):ckBk 42 n (.bool (.lit true))=true∧ckBk 6 n (.bool (.lit true))=true:=by
  have:=av valid_all n (by simp only [List.mem_cons,List.not_mem_nil,or_false]; omega)
  simpa only [Bool.and_eq_true] using this
theorem ckQ_at {m:Nat} (a:1≤m) (b:m≤5):ckQ true m=true:=by
  have:=av ckQ_all (m - 1) (by simp only [List.mem_cons,List.not_mem_nil,or_false]; omega)
  simp only [Bool.and_eq_true] at this
  rw [show m - 1 + 1=m by omega] at this
  exact this.1
theorem vS_ok {q:Bool} {m:Nat} (H:Looks q m):ba 2000 (vS m)=true:=by
  have:=H.p
  unfold ckP at this
  simp only [Bool.and_eq_true] at this
  exact this.1
theorem orcPl_ok {m:Nat} {c:Bool} (h0:1≤m) (hm:m≤5) (H:Looks true m):∀ f args h t,orcPl m c f args h=some t→CallOk (aQ fun ρ _=>OkPl m c ρ) f args h t:=by
  intro f args h t e
  unfold orcPl at e
  cases h42:Nat.beq f 42 with
  | true=>rw [h42,cond_true] at e; have:=aq.1 h42; subst this; exact so_any (fun ρ b k=>k.cs) (vals_at h0 hm).1 e
  | false =>
    rw [h42,cond_false] at e
    obtain ⟨h36,e⟩:=ak e
    have:=aq.1 h36; subst this
    refine frontGo_ok (p:=aQ fun ρ _=>OkPl m c ρ) (l:=lS m) ?_ rfl (vS_ok H) e
    refine CallOk.read (p0:=aQ fun ρ _=>OkC m c ρ) (p:=aQ fun ρ _=>OkPl m c ρ) rfl (plan_sh h0 hm H (ckQ_at h0 hm)) fun ρ b hb Q hQ=>?_
    obtain ⟨w,hw,hbw⟩:=hb
    have hw:OkPl m c ρ:=hw
    refine ⟨ρ,⟨w,hw.o,hbw⟩,SameL.refl _ _,⟨rfl,fun j o g=>⟨o,g,SameA.refl o⟩⟩,?_⟩
    exact ⟨_,hQ,SameV.refl _ _,rfl,fun j o g=>⟨o,g,SameA.refl o⟩⟩
theorem plan12 {m:Nat} {c:Bool} (h0:1≤m) (hm:m≤5) (H:Looks true m):CallOk (aQ fun ρ _=>OkPl m c ρ) 9 (bookA m) (ah 2000 (vB m)) (.ret (resP m c (vB m))):=by
  have hck:ckPl m c=true:=by
    have:=av ckPl_all m (by simp only [List.mem_cons,List.not_mem_nil,or_false]; omega)
    simp only [Bool.and_eq_true] at this
    cases c
    · exact this.2
    · exact this.1
  unfold ckPl at hck
  simp only [Bool.and_eq_true] at hck
  obtain ⟨hv,hck⟩:=hck
  have B:b8 (aQ fun ρ _=>OkPl m c ρ) Sx.Tryd.tt.get (tbPl m c):=Tryd.tab (orcPl m c) (orcPl_ok h0 hm H) 2000
  have base:=bL B 60 9 (bookA m) (ah 2000 (vB m))
  have up:∀ g ∈ vB m,(ah 2000 (vB m)).get g.1=some g.2:=aC 2000 _ 0 rfl
  have fr:CallOk (aQ fun ρ _=>OkPl m c ρ) 9 (bookA m) (ah 2000 (vB m)) (runPl m c):=base.frame (n:=2000) (l:=vB m) (by omega) rfl hv (fun g hg=>⟨g.2,up g hg,.refl _⟩) (by rw [aw]; exact Nat.le_refl _) nwP
  refine CallOk.read (p0:=aQ fun ρ _=>OkPl m c ρ) (p:=aQ fun ρ _=>OkPl m c ρ) rfl fr fun ρ b hb Q hQ=>⟨ρ,hb,SameL.refl _ _,⟨rfl,fun j o g=>⟨o,g,SameA.refl o⟩⟩,?_⟩
  refine dY (ρ:=ρ) (fun K r hK hr=>?_) _ _ (fw (fun c hc=>by cases hc) fun c hc=>by cases hc) hck
  unfold isRes at hr
  cases c
  · obtain ⟨s1,s2⟩:=fd (p0:=aQ fun ρ _=>OkPl m false ρ) (p:=aQ fun ρ _=>OkPl m false ρ) rfl rfl (ρ:=ρ) hr
    exact ⟨_,hQ,s1,s2⟩
  · obtain ⟨s1,s2⟩:=fd (p0:=aQ fun ρ _=>OkPl m true ρ) (p:=aQ fun ρ _=>OkPl m true ρ) rfl rfl (ρ:=ρ) hr
    exact ⟨_,hQ,s1,s2⟩
end Go.Sx
namespace Go.Sx
open Go.RowKit Go.Proofs
set_option maxRecDepth 100000
structure Reads (e:Nat→IE) (ρ ρ':Rho):Prop where
  iv:∀ j,j < 60→(e j).den ρ=ρ'.iv j
  bv:∀ j,j < 60→ρ.bv j=ρ'.bv j
theorem dA {e:Nat→IE} {ρ ρ':Rho} (R:Reads e ρ ρ'):∀ n b,b + 4 * n≤60→SameL ρ (rowsX e n b) ρ' (bf n b)
  | 0,_,_=>SameL.nil
  | n + 1,b,h=>by
    show SameL ρ (vx e b :: vx e (b + 1) :: .bool (.var (b + 2)) :: vx e (b + 3) :: rowsX e n (b + 4)) ρ' (vi b :: vi (b + 1) :: .bool (.var (b + 2)) :: vi (b + 3) :: bf n (b + 4))
    exact SameL.cons (SameV.int (R.iv _ (by omega))) (SameL.cons (SameV.int (R.iv _ (by omega))) (SameL.cons (SameV.bool (R.bv _ (by omega))) (SameL.cons (SameV.int (R.iv _ (by omega))) (dA R n (b + 4) (by omega)))))
theorem vxUp_reads {e:Nat→IE} {ρ ρ':Rho} (R:Reads e ρ ρ') {s:List AV} (hs:SameL ρ s ρ' s):∀ n i,i + n≤60→SameL ρ (cC (vxUp e n i) s) ρ' (cC (viUp n i) s)
  | 0,_,_=>hs
  | n + 1,i,h=>by
    show SameL ρ (vx e i :: cC (vxUp e n (i + 1)) s) ρ' (vi i :: cC (viUp n (i + 1)) s)
    exact SameL.cons (SameV.int (R.iv _ (by omega))) (vxUp_reads R hs n (i + 1) (by omega))
theorem eI {e:Nat→IE} {ρ ρ':Rho} (R:Reads e ρ ρ') (b o n c:Nat):SameV ρ (.agg (bookX e (.sliceX b o n c))) ρ' (.agg (eG (.sliceX b o n c))):=SameV.agg (vxUp_reads R (SameL.cons (SameV.sliceX _ _ _ _) SameL.nil) 22 0 (by omega))
noncomputable def stX (e:Nat→IE):List Nat→List AV→List AV
  | [],r=>r
  | j :: l,r=>vx e j :: stX e l r
noncomputable def stJ:List Nat:=[0,1,4,6,8,9,10,11,2,3,5,7,12,13,14,15]
noncomputable def evenX (e:Nat→IE) (s:AV):List AV:=cC (vxUp e 22 0) (s :: stX e stJ [])
theorem stX_reads {e:Nat→IE} {ρ ρ':Rho} (R:Reads e ρ ρ'):∀ l:List Nat,(∀ j ∈ l,j < 60)→SameL ρ (stX e l []) ρ' (stX IE.var l [])
  | [],_=>SameL.nil
  | j :: l,h=>SameL.cons (SameV.int (R.iv j (h j List.mem_cons_self))) (stX_reads R l fun k hk=>h k (List.mem_cons_of_mem _ hk))
theorem even_split (s:AV):gD s=cC (viUp 22 0) (s :: stX IE.var stJ []):=rfl
theorem evenX_reads {e:Nat→IE} {ρ ρ':Rho} (R:Reads e ρ ρ') (b o n c:Nat):SameV ρ (.agg (evenX e (.sliceX b o n c))) ρ' (.agg (gD (.sliceX b o n c))):=by
  rw [even_split]
  have hs:SameL ρ (.sliceX b o n c :: stX e stJ []) ρ' (.sliceX b o n c :: stX IE.var stJ []):=SameL.cons (SameV.sliceX _ _ _ _) (stX_reads R stJ (by simp [stJ]))
  have go:∀ k i,i + k≤60→SameL ρ (cC (vxUp e k i) (.sliceX b o n c :: stX e stJ [])) ρ' (cC (viUp k i) (.sliceX b o n c :: stX IE.var stJ [])):=by
    intro k
    induction k with
    | zero=>intro i _; exact hs
    | succ k ih =>
      intro i h
      show SameL ρ (vx e i :: cC (vxUp e k (i + 1)) _) ρ' (vi i :: cC (viUp k (i + 1)) _)
      exact SameL.cons (SameV.int (R.iv _ (by omega))) (ih (i + 1) (by omega))
  exact SameV.agg (go 22 0 (by omega))
theorem mv_vx {a c n:Nat} {E:Env} (e:Nat→IE) {s s':List AV} (hs:ad (E.mv a c n) s=ad E s'):∀ k i,ad (E.mv a c n) (cC (vxUp e k i) s)=ad E (cC (vxUp e k i) s')
  | 0,_=>hs
  | k + 1,i=>by
    show ad (E.mv a c n) (vx e i :: cC (vxUp e k (i + 1)) s)=ad E (vx e i :: cC (vxUp e k (i + 1)) s')
    simp only [ad,vx,af,mv_vx e hs k (i + 1)]
    rfl
theorem mv_sl {nb L:Nat} {E:Env}:af (E.mv 1001 nb 2000) (.sliceX 1001 4 0 L)=af E (.sliceX nb 4 0 L):=by
  simp only [af,Env.mv,mvN,show (1001:Nat) < 2000 by omega,if_true]
noncomputable def glC:List AV:=[li 1,li 99,li 1,li 99,li 1,li 20,li 1,li 20,li 0,li 60,li 1,li 5]
noncomputable def vX (e:Nat→IE) (L:Nat):List (Nat × AObj):=[(0,glO),(1001,.cells (rowsX e L 30) 0 false false)]
noncomputable def xGo (e:Nat→IE) (nb L:Nat) (args0:List AV) (r:Heap→AV × Heap) (args:List AV) (h:Heap):Option (T (AV × Heap)) :=
  cond (and (dg args args0) (and (fe glC (h.get 0)) (and (fe (rowsX e L 30) (h.get nb)) (Nat.ble 2000 h.next)))) (some (.ret (r h))) none
theorem xGo_ok {e : Nat → IE} {nb L : Nat} {args0 args : List AV} {r : Heap → AV × Heap} {h : Heap} {t : T (AV × Heap)} (k : xGo e nb L args0 r args h = some t) :
    args=args0∧t=.ret (r h)∧2000≤h.next∧∀ g ∈ vX e L,∃ o,h.get (mvN 1001 nb g.1)=some o∧Less g.2 o:=by
  unfold xGo at k
  obtain ⟨hc,k1⟩:=ak k
  clear k
  simp only [Bool.and_eq_true] at hc
  obtain ⟨h1,h2,h3,h4⟩:=hc
  refine ⟨aZ _ _ h1,(Option.some.inj k1).symm,aD.1 h4,fun g hg=>?_⟩
  simp only [vX,List.mem_cons,List.not_mem_nil,or_false] at hg
  rcases hg with rfl | rfl
  · exact bH h2
  · exact bH h3
theorem vX_low (e:Nat→IE) (L:Nat):∀ g ∈ vX e L,g.1 < 2000∧bN g.2=false∧idsO 0 g.2=true:=fun g hg=>by
  simp only [vX,List.mem_cons,List.not_mem_nil,or_false] at hg
  rcases hg with rfl | rfl
  · exact ⟨by show 0 < 2000; omega,rfl,rfl⟩
  · exact ⟨by show 1001 < 2000; omega,rfl,rowsX_ids e 0 L 30⟩
theorem vX_same {p0 p:Par} (hP:p0.P=p.P) {e:Nat→IE} {ρ ρ':Rho} (R:Reads e ρ ρ') {L:Nat} (hL:L≤5):SameH p0 p ρ (ah 2000 (vX e L)) ρ' (ah 2000 (vB L)) :=
  ⟨rfl,fun b o hg=>by
    have:=am _ _ _ _ hg
    simp only [vB,List.mem_cons,List.not_mem_nil,or_false] at this
    rcases this with h | h
    · cases h; exact ⟨_,aC 2000 (vX e L) 0 rfl (0,glO) (by simp [vX]),SameA.cells hP (fun _ _ _ _ _ _=>rfl)⟩
    · cases h; exact ⟨_,aC 2000 (vX e L) 0 rfl (1001,.cells (rowsX e L 30) 0 false false) (by simp [vX]),SameA.cells hP (dA R L 30 (by omega))⟩⟩
theorem vX_same' {p0 p:Par} (hP:p0.P=p.P) {e:Nat→IE} {ρ ρ':Rho} (R:Reads e ρ ρ') {L:Nat} (hL:L≤5):SameH p0 p ρ' (ah 2000 (vB L)) ρ (ah 2000 (vX e L)) :=
  ⟨rfl,fun b o hg=>by
    have:=am _ _ _ _ hg
    simp only [vX,List.mem_cons,List.not_mem_nil,or_false] at this
    rcases this with h | h
    · cases h; exact ⟨_,aC 2000 (vB L) 0 rfl (0,glO) (by simp [vB]),SameA.cells hP (fun _ _ _ _ _ _=>rfl)⟩
    · cases h; exact ⟨_,aC 2000 (vB L) 0 rfl (1001,.cells (bf L 30) 0 false false) (by simp [vB]),SameA.cells hP (dA R L 30 (by omega)).symm⟩⟩
noncomputable def planXt (nm L:Nat) (c:Bool) (h:Heap):AV × Heap:=cond c (.tup [.slice h.next 0 L L,li 0],h.new (newP L nm)) (noneV,h)
noncomputable def pl12 (e:Nat→IE) (nm nb L:Nat) (c:Bool):List AV→Heap→Option (T (AV × Heap)):=xGo e nb L [.agg (bookX e (.sliceX nb 4 0 L))] (planXt nm L c)
theorem planN_ids (N:Nat):∀ n b,aW N (planN n b)=true
  | 0,_=>rfl
  | n + 1,b=>by simp only [planN,aW,cP,vi,planN_ids N n (b + 2),Bool.and_self]
theorem planN_same {ρ ρ':Rho} {b b':Nat}:∀ n k,(∀ j,k≤j→j < k + 2 * n→ρ.iv (b + j)=ρ'.iv (b' + j))→SameL ρ (planN n (b + k)) ρ' (planN n (b' + k))
  | 0,_,_=>SameL.nil
  | n + 1,k,h=>SameL.cons (SameV.int (h k (by omega) (by omega))) (SameL.cons (SameV.int (h (k + 1) (by omega) (by omega))) (planN_same n (k + 2) fun j h1 h2=>h j (by omega) (by omega)))
theorem pl12_ok {ok : Rho → (Nat → Obj → Prop) → Prop} {e : Nat → IE} {nm nb L : Nat} {c : Bool} (h0 : 1 ≤ L) (hm : L ≤ 5) (H : Looks true L)
    (hok:∀ ρ b,ok ρ b→∃ ρ',Reads e ρ ρ'∧OkPl L c ρ'∧(c=true→∀ k,k < 2 * L→ρ'.iv (700 + k)=ρ.iv (nm + k))) {args:List AV} {h:Heap} {t:T (AV × Heap)} (k:pl12 e nm nb L c args h=some t):CallOk (aQ ok) 9 args h t:=by
  obtain ⟨rfl,rfl,hn,hl⟩:=xGo_ok k
  have hargs:∀ E:Env,ad (E.mv 1001 nb 2000) [.agg (bookX e (.sliceX 1001 4 0 L))]=ad E [.agg (bookX e (.sliceX nb 4 0 L))]:=fun E=>by
    have:ad (E.mv 1001 nb 2000) (bookX e (.sliceX 1001 4 0 L))=ad E (bookX e (.sliceX nb 4 0 L)):=mv_vx e (by simp only [ad,mv_sl]) 22 0
    simp only [ad,af,this]
  cases c
  · have hc : CallOk (aQ ok) 9 [.agg (bookX e (.sliceX 1001 4 0 L))] (ah 2000 (vX e L)) (.ret (noneV, ah 2000 (vX e L))) := by
      refine CallOk.read (p0:=aQ fun ρ _=>OkPl L false ρ) (p:=aQ ok) rfl (plan12 h0 hm H) fun ρ b hb Q hQ=>?_
      obtain ⟨w,hw,hbw⟩:=hb
      obtain ⟨ρ',R,o,_⟩:=hok ρ w hw
      exact ⟨ρ',⟨w,o,hbw⟩,SameL.cons (eI R _ _ _ _) SameL.nil,vX_same rfl R hm,(noneV,ah 2000 (vX e L)),hQ,fun _ _ _ _ _ _=>rfl,vX_same' rfl R hm⟩
    exact hc.moved (a:=1001) (c:=nb) (by omega) (by omega) rfl (vX_low e L) hl hargs
  · have hc : CallOk (aQ ok) 9 [.agg (bookX e (.sliceX 1001 4 0 L))] (ah 2000 (vX e L)) (.ret (foundV L, ah 2001 (cC (vX e L) [(2000, newP L nm)]))) := by
      refine CallOk.read (p0:=aQ fun ρ _=>OkPl L true ρ) (p:=aQ ok) rfl (plan12 h0 hm H) fun ρ b hb Q hQ=>?_
      obtain ⟨w,hw,hbw⟩:=hb
      obtain ⟨ρ',R,o,hp⟩:=hok ρ w hw
      refine ⟨ρ',⟨w,o,hbw⟩,SameL.cons (eI R _ _ _ _) SameL.nil,vX_same rfl R hm,(foundV L,ah 2001 (cC (vX e L) [(2000,newP L nm)])),hQ,fun _ _ _ _ _ _=>rfl,rfl,fun b o hg=>?_⟩
      have:=am _ _ _ _ hg
      simp only [vX,aI,List.cons_append,List.nil_append,List.mem_cons,List.not_mem_nil,or_false] at this
      have at_:∀ g ∈ cC (vB L) [(2000,newP L 700)],(ah 2001 (cC (vB L) [(2000,newP L 700)])).get g.1=some g.2:=aC 2001 _ 0 rfl
      rcases this with h | h | h
      · cases h; exact ⟨_,at_ (0,glO) (by simp [vB,aI]),SameA.cells rfl (fun _ _ _ _ _ _=>rfl)⟩
      · cases h; exact ⟨_,at_ (1001,.cells (bf L 30) 0 false false) (by simp [vB,aI]),SameA.cells rfl (dA R L 30 (by omega)).symm⟩
      · cases h
        refine ⟨_,at_ (2000,newP L 700) (by simp [aI]),SameA.cells rfl ?_⟩
        have:=planN_same (ρ:=ρ') (ρ':=ρ) (b:=700) (b':=nm) L 0 fun j _ hj=>hp rfl j (by omega)
        exact this
    have mv:=hc.movedT (a:=1001) (c:=nb) (by omega) (by omega) (vX_low e L) hn hl hargs
    have hg:(ah 2001 (cC (vX e L) [(2000,newP L nm)])).get 2000=some (newP L nm):=aC 2001 (cC (vX e L) [(2000,newP L nm)]) 0 rfl (2000,newP L nm) (by simp [aI])
    have e1:((T.ret (foundV L,ah 2001 (cC (vX e L) [(2000,newP L nm)]))).bind fun r=>mvT 2000 h r)=.ret (planXt nm L true h):=by
      show mvT 2000 h (foundV L,ah 2001 (cC (vX e L) [(2000,newP L nm)]))=_
      have hi:and (bN (newP L nm)) (and (idsO 0 (newP L nm)) (idsO 2000 (newP L nm)))=true:=by
        have i1:idsO 0 (newP L nm)=true:=planN_ids 0 L nm
        have i2:idsO 2000 (newP L nm)=true:=planN_ids 2000 L nm
        rw [i1,i2]; rfl
      simp only [mvT,hg,hi,cond_true]
      rfl
    rw [e1] at mv
    exact mv
end Go.Sx
namespace Go.Sx
open Go.RowKit Go.Proofs
set_option maxRecDepth 100000
theorem SameV.tupl {ρ ρ':Rho} {l l':List AV} (h:SameL ρ l ρ' l'):SameV ρ (.tup l) ρ' (.tup l'):=fun σ κ n m rc rc'=>by simp only [af,h σ κ n m rc rc']
theorem book_agree {iv iv':Nat→Int} (A:∀ j,j < 60→iv j=iv' j) (h:BookE iv):BookE iv':=by
  obtain ⟨h1,h2,h3,h4,h5,h6,h7,h8,h9,h10,h11,h12,h13,h14,h15⟩:=h
  simp only [A 0 (by omega),A 1 (by omega),A 2 (by omega),A 3 (by omega),A 4 (by omega),A 5 (by omega),A 6 (by omega),A 7 (by omega),A 8 (by omega),A 9 (by omega),A 10 (by omega),A 11 (by omega),A 12 (by omega),A 13 (by omega),A 14 (by omega),A 15 (by omega),A 16 (by omega),A 17 (by omega),A 18 (by omega),A 19 (by omega),A 20 (by omega),A 21 (by omega)] at *
  exact ⟨h1,h2,h3,h4,h5,h6,h7,h8,h9,h10,h11,h12,h13,h14,h15⟩
theorem eY {ρ ρ':Rho} {L:Nat} (h5:L≤5) (A:∀ j,j < 60→ρ.iv j=ρ'.iv j) (h:∀ d ∈ csV L,d.den ρ=true):∀ d ∈ csV L,d.den ρ'=true:=by
  obtain ⟨h1,h2⟩:=fg.1 h
  refine fg.2 ⟨book_agree A h1,fun i hi=>?_⟩
  obtain ⟨⟨p1,p2,p3⟩,p4,p5⟩:=h2 i hi
  rw [A (30 + 4 * i) (by omega)] at p1 p2
  rw [A (30 + 4 * i + 1) (by omega)] at p2 p3
  rw [A (30 + 4 * i + 3) (by omega)] at p4 p5
  exact ⟨⟨p1,p2,p3⟩,p4,p5⟩
theorem walks_cs {L:Nat} {ρ:Rho} (h:∀ c ∈ csV L,c.den ρ=true):∀ i,i < L→∃ W:Nat,W≤5∧ρ.iv (33 + 4 * i)=W:=fun _ hi=>walks_of h hi
theorem mv_self {E:Env} {l:List AV} (h:aW 2000 l=true):ad (E.mv 1001 1001 2000) l=ad E l:=by
  refine cH (n:=2000) (E:=E) (E':=E.mv 1001 1001 2000) rfl (fun b hb=>?_) l h
  have e:mvN 1001 1001 b=b:=by unfold mvN; split <;> omega
  exact ⟨by simp only [Env.mv,if_pos hb,e],fun _=>by simp only [Env.mv,e]⟩
theorem mul_bd2 {a b m n:Int} (ha:0≤a∧a≤m) (hb:0≤b∧b≤n):0≤a * b∧a * b≤m * n :=
  ⟨Int.mul_nonneg ha.1 hb.1,Int.mul_le_mul ha.2 hb.2 hb.1 (by omega)⟩
theorem tak_eq {ρ : Rho} (hb : BookE ρ.iv) {i r : Nat} (hr : r < 2) (hp : 0 ≤ ρ.iv (31 + 4 * i) ∧ ρ.iv (31 + 4 * i) ≤ 130) :
    eT ρ i r=ρ.iv (31 + 4 * i) * ρ.iv (if ρ.bv (32 + 4 * i)=true then 11 + 4 * r else 9 + 4 * r)∧0≤ρ.iv (if ρ.bv (32 + 4 * i)=true then 11 + 4 * r else 9 + 4 * r)∧ρ.iv (if ρ.bv (32 + 4 * i)=true then 11 + 4 * r else 9 + 4 * r)≤3:=by
  have hq:0≤ρ.iv (if ρ.bv (32 + 4 * i)=true then 11 + 4 * r else 9 + 4 * r)∧ρ.iv (if ρ.bv (32 + 4 * i)=true then 11 + 4 * r else 9 + 4 * r)≤3:=by
    have h1:=hb.b0; have h2:=hb.b1; have h3:=hb.d0; have h4:=hb.d1
    have hr':r=0 ∨ r=1:=by omega
    rcases hr' with rfl | rfl <;> split <;> simp only [Nat.mul_zero,Nat.add_zero,Nat.mul_one,Nat.reduceAdd] <;> omega
  refine ⟨?_,hq⟩
  have:=mul_bd2 hp hq
  unfold eT
  generalize ρ.iv (31 + 4 * i) * ρ.iv (if ρ.bv (32 + 4 * i)=true then 11 + 4 * r else 9 + 4 * r)=x at *
  exact IntWalk.i64_in _ (by omega)
theorem bds_of {ρ:Rho} {m:Nat} (hb:BookE ρ.iv) (hp:∀ i,i < m→0≤ρ.iv (31 + 4 * i)∧ρ.iv (31 + 4 * i)≤130):Bds ρ m:=by
  have h1:=hb.room0; have h2:=hb.room1; have h3:=hb.load0; have h4:=hb.load1
  refine ⟨fun r hr=>?_,fun r hr=>?_,fun i hi r hr=>?_⟩
  · have hr':r=0 ∨ r=1:=by omega
    rcases hr' with rfl | rfl <;> simp only [Nat.add_zero,Nat.reduceAdd] <;> omega
  · have hr':r=0 ∨ r=1:=by omega
    rcases hr' with rfl | rfl <;> simp only [Nat.add_zero,Nat.reduceAdd] <;> omega
  · obtain ⟨e,q⟩:=tak_eq hb hr (hp i hi)
    have:=mul_bd2 (hp i hi) q
    rw [e]; omega
noncomputable def tu2 (a b v:IE) (args:List AV) (h:Heap):Option (T (AV × Heap)):=cond (dg args [.int .i64 a,.int .i64 b]) (some (.ret (.int .i64 v,h))) none
noncomputable def addE (a b:IE):IE:=.bin .add .i64 a b
noncomputable def orElse (a:Option (T (AV × Heap))) (b:Option (T (AV × Heap))):Option (T (AV × Heap)):=match a with
  | some t=>some t
  | none=>b
noncomputable def rhoR (e:Nat→IE) (nm:Nat) (ρ:Rho):Rho:=⟨fun j=>if j < 60 then (e j).den ρ else ρ.iv (nm + (j - 700)),ρ.bv,ρ.fi,ρ.fb,ρ.ov⟩
theorem rhoR_reads (e:Nat→IE) (nm:Nat) (ρ:Rho):Reads e ρ (rhoR e nm ρ):=⟨fun _ hj=>(if_pos hj).symm,fun _ _=>rfl⟩
theorem rhoR_iv {e:Nat→IE} {nm:Nat} {ρ:Rho} {j:Nat} (h:j < 60):(rhoR e nm ρ).iv j=(e j).den ρ:=if_pos h
theorem rhoR_nm {e:Nat→IE} {nm k:Nat} {ρ:Rho}:(rhoR e nm ρ).iv (700 + k)=ρ.iv (nm + k):=by
  show (if 700 + k < 60 then _ else ρ.iv (nm + (700 + k - 700)))=_
  rw [if_neg (by omega),Nat.add_sub_cancel_left]
theorem turn_at {ok:Rho→(Nat→Obj→Prop)→Prop} {a b v:IE} (hok:∀ ρ m,ok ρ m→b.den ρ≤9223372036854775807∧bO (a.den ρ) (b.den ρ)=v.den ρ) (h:Heap):CallOk (aQ ok) 8 [.int .i64 a,.int .i64 b] h (.ret (.int .i64 v,h)):=by
  have at_:CallOk (aQ ok) 8 [.int .i64 a,.int .i64 b] h (.br (.cmp .leq b big) (.ret (.int .i64 (.app 6 a b (.lit 0)),h)) (.fail 99)):=turn_orc (p:=aQ ok) rfl (args:=[.int .i64 a,.int .i64 b]) (h:=h) rfl
  refine CallOk.read (p0:=aQ ok) (p:=aQ ok) rfl at_ fun ρ b' hk Q k=>⟨ρ,hk,SameL.refl _ _,⟨rfl,fun j o g=>⟨o,g,SameA.refl o⟩⟩,?_⟩
  obtain ⟨w,hw,_⟩:=hk
  obtain ⟨h1,h2⟩:=hok ρ w hw
  simp only [T.Holds]
  rw [if_pos (by rw [BE.t_leq]; exact h1)]
  exact ⟨_,k,SameV.int h2,rfl,fun j o g=>⟨o,g,SameA.refl o⟩⟩
theorem tu2_ok {ok:Rho→(Nat→Obj→Prop)→Prop} {a b v:IE} (hok:∀ ρ m,ok ρ m→b.den ρ≤9223372036854775807∧bO (a.den ρ) (b.den ρ)=v.den ρ) {args:List AV} {h:Heap} {t:T (AV × Heap)} (e:tu2 a b v args h=some t):CallOk (aQ ok) 8 args h t:=by
  unfold tu2 at e
  obtain ⟨k,e1⟩:=ak e
  clear e
  obtain rfl:=aZ _ _ k
  obtain rfl:=Option.some.inj e1
  exact turn_at hok h
theorem dy {a b:Option (T (AV × Heap))} {t:T (AV × Heap)} (h:orElse a b=some t):a=some t ∨ b=some t:=by
  unfold orElse at h
  split at h
  · exact .inl h
  · exact .inr h
theorem stD_agreeL {ρ ρ':Rho} (A:cD ρ ρ') {L:Nat} (hL:L≤7):∀ k,k≤L→stD ρ L k=stD ρ' L k
  | 0,_=>by simp only [stD,A.iv 0 (by omega),A.iv 2 (by omega)]
  | k + 1,h=>by simp only [stD,stD_agreeL A hL k (by omega),fZ A (L - k) k (by omega)]
theorem outK_agreeL {ρ ρ':Rho} (A:cD ρ ρ') {L k:Nat} (hL:L≤7) (hk:k≤L):outK ρ L k=outK ρ' L k:=by
  unfold outK; rw [stD_agreeL A hL k hk,fZ A (L - k) k (by omega)]
noncomputable def planO (ρ:Rho) (L n:Nat):Int:=if n % 2=0 then (outK ρ L (n / 2)).wc else (outK ρ L (n / 2)).ww
theorem okPl_of {ρX ρ':Rho} {L:Nat} {c:Bool} (h5:L≤5) (cs:∀ d ∈ csV L,d.den ρX=true) (A:cD ρX ρ') (e:enD ρX L=c) (hp:∀ n,n < 2 * L→ρ'.iv (700 + n)=planO ρX L n):OkPl L c ρ':=by
  refine ⟨eY h5 A.iv cs,⟨walks_cs (eY h5 A.iv cs),(enD_agreeL A (by omega)).symm.trans e,fun _ k hk=>?_⟩⟩
  rw [← outK_agreeL A (L:=L) (by omega) (by omega)]
  have h0:=hp (2 * k) (by omega)
  have h1:=hp (2 * k + 1) (by omega)
  unfold planO at h0 h1
  rw [if_pos (by omega),show 2 * k / 2=k by omega] at h0
  rw [if_neg (by omega),show (2 * k + 1) / 2=k by omega] at h1
  exact ⟨h0,by rw [show 701 + 2 * k=700 + (2 * k + 1) by omega]; exact h1⟩
theorem bds_cs {ρ:Rho} {L:Nat} (hcs:∀ c ∈ csV L,c.den ρ=true):Bds ρ L:=by
  obtain ⟨hb,hp⟩:=fg.1 hcs
  refine bds_of hb fun i hi=>?_
  have:=(hp i hi).min
  rw [show 31 + 4 * i=30 + 4 * i + 1 by omega]; omega
end Go.Sx
namespace Go.Sx
open Go.RowKit Go.Proofs
set_option maxRecDepth 100000
noncomputable def ez (f:Nat→Bool):Nat→Nat
  | 0=>0
  | n + 1=>if ez f n < n then ez f n else if f n=true then n else n + 1
theorem eD (f:Nat→Bool):∀ n,ez f n≤n∧(∀ k,k < ez f n→f k=false)∧(ez f n < n→f (ez f n)=true)
  | 0=>⟨Nat.le_refl 0,fun k h=>absurd h (Nat.not_lt_zero k),fun h=>absurd h (Nat.not_lt_zero 0)⟩
  | n + 1=>by
    obtain ⟨h1,h2,h3⟩:=eD f n
    unfold ez
    split
    · rename_i h
      exact ⟨by omega,h2,fun _=>h3 h⟩
    · rename_i h
      have e:ez f n=n:=by omega
      rw [e] at h2
      split
      · rename_i hn; exact ⟨by omega,h2,fun _=>hn⟩
      · rename_i hn
        refine ⟨Nat.le_refl _,fun k hk=>?_,fun h=>absurd h (by omega)⟩
        by_cases ek:k=n
        · subst ek; simpa using hn
        · exact h2 k (by omega)
end Go.Sx
namespace Go.Sx
open Go.RowKit Go.Proofs
set_option maxRecDepth 100000
noncomputable def lawIg (f:Nat) (xs:List AV) (L:Nat):Bool:=allK isTrueK (b7 (tbIv (evFalse L)) 60 false f (.agg (eG (.sliceX 1001 4 0 L)) :: xs) (bj 2000 (lB L))) ⟨.nil,[],[⟨conjC (csV L),false⟩]⟩
noncomputable def lawUg (f:Nat) (xs:List AV) (many:Bool):Bool:=allK isTrueK (b7 (tbIv (evNo many)) 60 false f (.agg (eG (.sliceU 95)) :: xs) (bj 2000 gl)) (knOf [] [fewC many])
section
variable {E:Env} {w:World} {vs:List Value} (hf:∀ b,2000≤b→E.σ b=none) (hg:∀ b,b < 1000→E.σ b=some (b,0)) (hn:E.n≤2000)
include hf hg hn
theorem law_bad {f : Nat} {xs : List AV} {L : Nat} (hL : L ∈ [1, 2, 3, 4, 5]) (hck : lawIg f xs L = true) (hv : ∀ g ∈ lB L, ViewIn w E g) (ha : ad E (.agg (eG (.sliceX 1001 4 0 L)) :: xs) = some vs) (k : ¬ ∀ c ∈ csV L, c.den E.ρ = true) :
    Calls Tryd.prog f vs.toArray w fun e w'=>e=.returned (.bool true)∧Below w.heap.size w w':=by
  have B:b8 pT Sx.Tryd.tt.get (tbIv (evFalse L)):=Tryd.tab _ (orcIv_ok rfl fun args h u e=>evFalse_ok hL e) 2000
  refine law_true B hv hf hg hn ha (K:=⟨.nil,[],[⟨conjC (csV L),false⟩]⟩) ⟨fun i v h=>?_,fun _ hf=>(List.not_mem_nil hf).elim,fun a hm=>?_⟩ hck ⟨fun _ _=>False,trivial,fun _ _ h=>h.elim⟩
  · simp [PT.get] at h
  · rcases List.mem_singleton.1 hm with rfl
    exact conj_f k
theorem law_short {f : Nat} {xs : List AV} (many : Bool) (hck : lawUg f xs many = true) (hv : ∀ g ∈ gl, ViewIn w E g) (ha : ad E (.agg (eG (.sliceU 95)) :: xs) = some vs) (k : (fewC many).den E.ρ = true) :
    Calls Tryd.prog f vs.toArray w fun e w'=>e=.returned (.bool true)∧Below w.heap.size w w':=by
  have B:b8 pT Sx.Tryd.tt.get (tbIv (evNo many)):=Tryd.tab _ (orcIv_ok rfl fun args h u e=>evNo_ok many e) 2000
  refine law_true B hv hf hg hn ha (fw (fun c hc=>(List.not_mem_nil hc).elim) fun c hc=>?_) hck ⟨fun _ _=>False,trivial,fun _ _ h=>h.elim⟩
  rcases List.mem_singleton.1 hc with rfl
  exact k
end
end Go.Sx
namespace Go.Sx
open Go.RowKit Go.Proofs
set_option maxRecDepth 100000
theorem ckS_all:bz (fun m=>bz (ckS true m) (cntD m)) [1,2,3,4,5]=true:=by kernel_rfl
noncomputable def rowGo (L:Nat) (args0:List AV) (v:AV) (args:List AV) (h:Heap):Option (T (AV × Heap)) :=
  cond (and (dg args args0) (and (fe (bf L 30) (h.get 1001)) (Nat.ble 2000 h.next))) (some (.ret (v,h))) none
theorem rowGo_ok {ok : Rho → (Nat → Obj → Prop) → Prop} {L f : Nat} {args0 args : List AV} {v : AV} {h : Heap} {t : T (AV × Heap)} (hc : CallOk (aQ ok) f args0 (ah 2000 (vS L)) (.ret (v, ah 2000 (vS L)))) (hi : aW 2000 args0 = true) (hv : cP 0 v = true)
    (k:rowGo L args0 v args h=some t):CallOk (aQ ok) f args h t:=by
  unfold rowGo at k
  obtain ⟨hk,k1⟩:=ak k
  clear k
  simp only [Bool.and_eq_true] at hk
  obtain ⟨h1,h2,_⟩:=hk
  obtain rfl:=aZ _ _ h1
  obtain rfl:=Option.some.inj k1
  refine hc.moved (a:=1001) (c:=1001) (by omega) (by omega) hv (fun g hg=>?_) (fun g hg=>?_) fun E=>mv_self hi
  · rcases List.mem_singleton.1 hg with rfl
    exact ⟨by show 1001 < 2000; omega,rfl,rowsV_ids L 30⟩
  · rcases List.mem_singleton.1 hg with rfl
    exact bH h2
theorem rowsX_var:∀ n b,rowsX IE.var n b=bf n b
  | 0,_=>rfl
  | n + 1,b=>by
    show vi b :: vi (b + 1) :: .bool (.var (b + 2)) :: vi (b + 3) :: rowsX IE.var n (b + 4)=vi b :: vi (b + 1) :: .bool (.var (b + 2)) :: vi (b + 3) :: bf n (b + 4)
    rw [rowsX_var n (b + 4)]
theorem eH {ρ ρ':Rho} (R:Reads IE.var ρ ρ') {L:Nat} (h5:L≤5):SameL ρ (bf L 30) ρ' (bf L 30):=by
  have:=dA R L 30 (by omega)
  rw [rowsX_var] at this
  exact this
noncomputable def stepA (L i:Nat) (a b c w:IE):List AV:=[.agg (gD (.sliceX 1001 4 0 L)),pointE i a b,.agg [.int .i64 c,.int .i64 w],.agg endV]
noncomputable def stepR (i:Nat) (a b c w:IE):AV:=.agg [.int .i64 c,.int .i64 w,li (Int.ofNat (i + 1)),apE 9300 (lt i) a c,apE 9301 (lt i) b w,apE 9302 (lt i) a c,apE 9303 (lt i) b w]
theorem step_any {ok : Rho → (Nat → Obj → Prop) → Prop} {L i : Nat} {a b c w : IE} (h1 : 1 ≤ L) (h5 : L ≤ 5) (hi : i < L) (hok : ∀ ρ m, ok ρ m → OkS L ρ) :
    CallOk (aQ ok) 71 (stepA L i a b c w) (ah 2000 (vS L)) (.ret (stepR i a b c w,ah 2000 (vS L))):=by
  have hck:ckS true L i=true:=av (av ckS_all L (by simp only [List.mem_cons,List.not_mem_nil,or_false]; omega)) i (bP hi)
  refine CallOk.read (p0:=pS L) (p:=aQ ok) rfl (step_var hi hck) fun ρ b' hk Q hQ=>?_
  obtain ⟨m,hm,hmh⟩:=hk
  let ρ':Rho:=⟨fun j=>if j=500 then a.den ρ else if j=501 then b.den ρ else if j=502 then c.den ρ else if j=503 then w.den ρ else ρ.iv j,ρ.bv,ρ.fi,ρ.fb,ρ.ov⟩
  have A:AlikeG ρ ρ':=⟨fun j hj=>by show ρ.iv j=(if j=500 then _ else _); rw [if_neg (by omega),if_neg (by omega),if_neg (by omega),if_neg (by omega)],fun _ _=>rfl,rfl,rfl⟩
  have i0:ρ'.iv 500=a.den ρ:=rfl
  have i1:ρ'.iv 501=b.den ρ:=rfl
  have i2:ρ'.iv 502=c.den ρ:=rfl
  have i3:ρ'.iv 503=w.den ρ:=rfl
  have R:Reads IE.var ρ ρ':=⟨fun j hj=>A.iv j (by omega),fun _ _=>rfl⟩
  have rows:SameL ρ (bf L 30) ρ' (bf L 30):=eH R h5
  have at_:(ah 2000 (vS L)).get 1001=some (.cells (bf L 30) 0 false false):=aC 2000 (vS L) 0 rfl (1001,.cells (bf L 30) 0 false false) (List.mem_singleton.2 rfl)
  refine ⟨ρ',⟨m,okS_alike A (by omega) (hok ρ m hm),hmh⟩,?_,⟨rfl,fun b o hg=>?_⟩,(stepR i a b c w,ah 2000 (vS L)),hQ,?_,⟨rfl,fun b o hg=>?_⟩⟩
  · exact SameL.cons (evenX_reads R _ _ _ _) (SameL.cons (SameV.agg (SameL.cons (SameV.int rfl) (SameL.cons (SameV.int i0.symm) (SameL.cons (SameV.int i1.symm) SameL.nil)))) (SameL.cons (SameV.agg (SameL.cons (SameV.int i2.symm) (SameL.cons (SameV.int i3.symm) SameL.nil))) (fun _ _ _ _ _ _=>rfl)))
  · rcases List.mem_singleton.1 (am _ _ _ _ hg) with h
    cases h; exact ⟨_,at_,SameA.cells rfl rows⟩
  · have d : ∀ f (x x' y y' : IE), x.den ρ' = x'.den ρ → y.den ρ' = y'.den ρ → (IE.app f (lt i) x y).den ρ' = (IE.app f (lt i) x' y').den ρ := fun f x x' y y' h1 h2 => by
      show FI ρ.fi f i (x.den ρ') (y.den ρ')=FI ρ.fi f i (x'.den ρ) (y'.den ρ)
      rw [h1,h2]
    exact SameV.agg (SameL.cons (SameV.int i2) (SameL.cons (SameV.int i3) (SameL.cons (SameV.int rfl) (SameL.cons (SameV.int (d _ _ _ _ _ i0 i2)) (SameL.cons (SameV.int (d _ _ _ _ _ i1 i3)) (SameL.cons (SameV.int (d _ _ _ _ _ i0 i2)) (SameL.cons (SameV.int (d _ _ _ _ _ i1 i3)) SameL.nil)))))))
  · rcases List.mem_singleton.1 (am _ _ _ _ hg) with h
    cases h; exact ⟨_,at_,SameA.cells rfl rows.symm⟩
def mayF (ρ:Rho) (i:Nat) (l1 k0 k1:Int):Bool:=!(decide (k0=0∧k1=0)) || cK ρ i l1
noncomputable def mayA (L i:Nat) (c w l0 l1 k0 k1:IE):List AV:=[.agg (gD (.sliceX 1001 4 0 L)),.agg [.int .i64 c,.int .i64 w,li (Int.ofNat (i + 1)),.int .i64 l0,.int .i64 l1,.int .i64 k0,.int .i64 k1]]
noncomputable def runMv (L i:Nat):T (AV × Heap):=(b7 tb0 60 false 57 (mayA L i (.var 502) (.var 503) (.var 504) (.var 505) (.var 506) (.var 507)) (ah 2000 (vS L))).bind fun r=>bV 2000 (vS L) (ah 2000 (vS L)) [] r
noncomputable def isM (b:Bool):T AV:=.ret (.tup [.bool (.lit b),.bool (.lit true)])
noncomputable def mayVT (i:Nat):T AV :=
  .br (.not (.and (.cmp .eql (.var 506) (.lit 0)) (.and (.cmp .eql (.var 507) (.lit 0)) (.lit true)))) (isM true)
    (.br (.var (32 + 4 * i)) (.br (.cmp .lss (.var 505) (.var 20)) (.br (.cmp .lss (.var 18) (.var 21)) (isM true) (isM false)) (.br (.cmp .lss (.var 16) (.var 21)) (isM true) (isM false))) (isM false))
noncomputable def ckMv (L i:Nat):Bool:=and (ba 2000 (vS L)) (eqTF ((runMv L i).bind fun r=>.ret (encS L r)) (mayVT i))
theorem ckMv_all:bz (fun m=>bz (ckMv m) (cntD m)) [1,2,3,4,5]=true:=by kernel_rfl
theorem may_var {ok : Rho → (Nat → Obj → Prop) → Prop} {L i : Nat} (h1 : 1 ≤ L) (h5 : L ≤ 5) (hi : i < L) (hok : ∀ ρ m, ok ρ m → mayF ρ i (ρ.iv 505) (ρ.iv 506) (ρ.iv 507) = ρ.bv 906) :
    CallOk (aQ ok) 57 (mayA L i (.var 502) (.var 503) (.var 504) (.var 505) (.var 506) (.var 507)) (ah 2000 (vS L)) (.ret (.bool (.var 906),ah 2000 (vS L))):=by
  have hck:ckMv L i=true:=av (av ckMv_all L (by simp only [List.mem_cons,List.not_mem_nil,or_false]; omega)) i (bP hi)
  unfold ckMv at hck
  simp only [Bool.and_eq_true] at hck
  obtain ⟨hv,hck⟩:=hck
  have B:b8 (aQ ok) Sx.Tryd.tt.get tb0:=Tryd.tab (fun _ _ _=>none) (fun _ _ _ _ h=>by cases h) 2000
  have base:=bL B 60 57 (mayA L i (.var 502) (.var 503) (.var 504) (.var 505) (.var 506) (.var 507)) (ah 2000 (vS L))
  have fr:CallOk (aQ ok) 57 (mayA L i (.var 502) (.var 503) (.var 504) (.var 505) (.var 506) (.var 507)) (ah 2000 (vS L)) (runMv L i):=base.frame (n:=2000) (l:=vS L) (by omega) rfl hv (fun g hg=>⟨g.2,aC 2000 _ 0 (vS_up L) g hg,.refl _⟩) (by rw [aw]; exact Nat.le_refl _) (fun _=>[])
  refine CallOk.read (p0:=aQ ok) (p:=aQ ok) rfl fr fun ρ b hk Q hQ=>⟨ρ,hk,SameL.refl _ _,SameH.refl _,T.holds_enc (ea _ _ hck) ?_⟩
  obtain ⟨m,hm,_⟩:=hk
  have h:=hok ρ m hm
  have leaf:∀ c:Bool,ρ.bv 906=c→(isM c).Holds ρ fun a=>∀ r,encS L r=a→∃ r',Q r'∧SameV ρ r.1 ρ r'.1∧SameH (aQ ok) (aQ ok) ρ r.2 ρ r'.2:=fun c hc=>by
    intro r he
    simp only [encS,AV.tup.injEq,List.cons.injEq,and_true,AV.bool.injEq,BE.lit.injEq,Bool.and_eq_true] at he
    obtain ⟨he1,he2,he3⟩:=he
    refine ⟨_,hQ,by rw [he1]; exact SameV.bool hc.symm,(aq.1 he3).trans (aw 2000 _).symm,fun b o hg=>?_⟩
    rcases List.mem_singleton.1 (am _ _ _ _ hg) with h
    cases h
    exact ⟨_,gC he2,SameA.refl _⟩
  have c0:(BE.not (.and (.cmp .eql (.var 506) (.lit 0)) (.and (.cmp .eql (.var 507) (.lit 0)) (.lit true)))).den ρ=true ↔ ¬ (ρ.iv 506=0∧ρ.iv 507=0):=by
    simp [BE.den,aS,IE.den]
    omega
  have t:∀ x:Bool,mayF ρ i (ρ.iv 505) (ρ.iv 506) (ρ.iv 507)=x→(isM x).Holds ρ fun a=>∀ r,encS L r=a→∃ r',Q r'∧SameV ρ r.1 ρ r'.1∧SameH (aQ ok) (aQ ok) ρ r.2 ρ r'.2:=fun x hx=>leaf x (h.symm.trans hx)
  have hlit:(BE.var (32 + 4 * i)).den ρ=ρ.bv (32 + 4 * i):=rfl
  unfold mayVT
  simp only [T.Holds]
  split
  · rename_i k
    refine t true ?_
    unfold mayF
    rw [decide_eq_false (c0.1 k)]; rfl
  · rename_i k
    have k:ρ.iv 506=0∧ρ.iv 507=0:=by
      by_cases hk:ρ.iv 506=0∧ρ.iv 507=0
      · exact hk
      · exact absurd (c0.2 hk) k
    have e:mayF ρ i (ρ.iv 505) (ρ.iv 506) (ρ.iv 507)=cK ρ i (ρ.iv 505):=by
      unfold mayF; rw [decide_eq_true k]; simp
    rw [e] at t
    unfold cK at t
    split
    · rename_i hl
      rw [hlit] at hl
      rw [hl] at t
      split
      · rename_i hw
        rw [BE.t_lss,IE.den_var,IE.den_var] at hw
        rw [if_pos hw] at t
        split
        · rename_i hc; rw [BE.t_lss,IE.den_var,IE.den_var] at hc; exact t true (by simpa using hc)
        · rename_i hc; rw [BE.t_lss,IE.den_var,IE.den_var] at hc; exact t false (by simpa using hc)
      · rename_i hw
        rw [BE.t_lss,IE.den_var,IE.den_var] at hw
        rw [if_neg hw] at t
        split
        · rename_i hc; rw [BE.t_lss,IE.den_var,IE.den_var] at hc; exact t true (by simpa using hc)
        · rename_i hc; rw [BE.t_lss,IE.den_var,IE.den_var] at hc; exact t false (by simpa using hc)
    · rename_i hl
      rw [hlit] at hl
      exact t false (by simp [hl])
theorem may_any {ok : Rho → (Nat → Obj → Prop) → Prop} {L i : Nat} {b : Bool} {c w l0 l1 k0 k1 : IE} (h1 : 1 ≤ L) (h5 : L ≤ 5) (hi : i < L) (hok : ∀ ρ m, ok ρ m → mayF ρ i (l1.den ρ) (k0.den ρ) (k1.den ρ) = b) :
    CallOk (aQ ok) 57 (mayA L i c w l0 l1 k0 k1) (ah 2000 (vS L)) (.ret (.bool (.lit b),ah 2000 (vS L))):=by
  refine CallOk.read (p0:=aQ fun ρ _=>mayF ρ i (ρ.iv 505) (ρ.iv 506) (ρ.iv 507)=ρ.bv 906) (p:=aQ ok) rfl (may_var h1 h5 hi fun ρ _ h=>h) fun ρ b' hk Q hQ=>?_
  obtain ⟨m,hm,hmh⟩:=hk
  let ρ':Rho:=⟨fun j=>if j=502 then c.den ρ else if j=503 then w.den ρ else if j=504 then l0.den ρ else if j=505 then l1.den ρ else if j=506 then k0.den ρ else if j=507 then k1.den ρ else ρ.iv j,fun j=>if j=906 then b else ρ.bv j,ρ.fi,ρ.fb,ρ.ov⟩
  have R:Reads IE.var ρ ρ':=⟨fun j hj=>by show ρ.iv j=(if j=502 then _ else _); rw [if_neg (by omega),if_neg (by omega),if_neg (by omega),if_neg (by omega),if_neg (by omega),if_neg (by omega)],fun j hj=>by show ρ.bv j=(if j=906 then _ else _); rw [if_neg (by omega)]⟩
  have rows:SameL ρ (bf L 30) ρ' (bf L 30):=eH R h5
  have at_:(ah 2000 (vS L)).get 1001=some (.cells (bf L 30) 0 false false):=aC 2000 (vS L) 0 rfl (1001,.cells (bf L 30) 0 false false) (List.mem_singleton.2 rfl)
  have hm':mayF ρ' i (ρ'.iv 505) (ρ'.iv 506) (ρ'.iv 507)=ρ'.bv 906:=by
    show mayF ρ' i (l1.den ρ) (k0.den ρ) (k1.den ρ)=b
    rw [← hok ρ m hm]
    unfold mayF
    rw [fail_agreeL (ρ:=ρ') (ρ':=ρ) ⟨fun j hj=>(R.iv j hj).symm,fun j hj=>(R.bv j hj).symm⟩ (by omega)]
  refine ⟨ρ',⟨m,hm',hmh⟩,?_,⟨rfl,fun b o hg=>?_⟩,(.bool (.lit b),ah 2000 (vS L)),hQ,SameV.bool rfl,⟨rfl,fun b o hg=>?_⟩⟩
  · exact SameL.cons (evenX_reads R _ _ _ _) (SameL.cons (SameV.agg (SameL.cons (SameV.int rfl) (SameL.cons (SameV.int rfl) (SameL.cons (SameV.int rfl) (SameL.cons (SameV.int rfl) (SameL.cons (SameV.int rfl) (SameL.cons (SameV.int rfl) (SameL.cons (SameV.int rfl) SameL.nil)))))))) SameL.nil)
  · rcases List.mem_singleton.1 (am _ _ _ _ hg) with h
    cases h; exact ⟨_,at_,SameA.cells rfl rows⟩
  · rcases List.mem_singleton.1 (am _ _ _ _ hg) with h
    cases h; exact ⟨_,at_,SameA.cells rfl rows.symm⟩
end Go.Sx
namespace Go.Sx
open Go.RowKit Go.Proofs Go.ChangeShapes
set_option maxRecDepth 100000
section
variable {H:Type} {enc:TypeId × Value→H} {W:World}
theorem ints_open {t : TypeId} (ht : Tryd.prog.underlying t = some (.slice 3)) (hc : Tryd.prog.cellsOf 3 = 1) {base : Nat} {v : Value} {d : DataW H} {p : List MemPlace} (h0 : DataW.Trod enc Tryd.prog W 0 (fun _ => true) true t v d p) (hv : Value.okWide Tryd.prog W .any base t v) :
    ∃ (bb:Option Addr) (bl bc:Nat) (y:Nat→Int),v=.slice bb bl bc∧(bl:Int)≤9223372036854775807∧bl≤bc ∧
      (0 < bl→∃ c x cells el fz,bb=some ⟨c,x,none⟩∧W.heap[c]?=some (.cells cells el fz)∧∀ q,q < bl→cells[x + q]?=some (.int .i64 (y q))):=by
  unfold Value.okWide at hv
  rw [ht] at hv
  have hs:=okCell_slice ht hv
  obtain ⟨fuel,f⟩:=h0
  have f1:DataW.trod enc Tryd.prog W 0 (fun _=>true) true fuel t [v]=some (d,p):=by
    rcases hs with rfl | ⟨b,o,len,cap,rfl,_⟩ <;> exact f
  rcases open_ints ht Tryd.underlying3 hc f1 with ⟨h1,_⟩ | ⟨a,len,cap,zs,h1,_,hlc,hm,hz,_,hcell,_⟩
  · obtain rfl:v=.slice none 0 0:=by simpa using h1
    exact ⟨none,0,0,fun _=>0,rfl,by omega,Nat.le_refl _,fun h=>by omega⟩
  · obtain rfl:v=.slice (some a) len cap:=by simpa using h1
    rcases hs with h | ⟨b,o,l',c',h,_⟩
    · cases h
    · obtain ⟨e1,rfl,rfl⟩:some a=some ⟨b,o,none⟩∧len=l'∧cap=c':=by simpa using h
      obtain rfl:=Option.some.inj e1
      have hm':(len:Int)≤9223372036854775807:=by
        have:maxLen=9223372036854775807:=by decide
        omega
      have hlz:len≤zs.length:=by rw [hz]; simpa using hlc
      refine ⟨some ⟨b,o,none⟩,len,cap,fun q=>zs.getD q 0,rfl,hm',hlc,fun hpos=>?_⟩
      have c0:=hcell 0 (by omega)
      rw [add_none] at c0
      unfold World.cell? at c0
      split at c0
      · rename_i cells el fz hh
        refine ⟨b,o,cells,el,fz,rfl,hh,fun q hq=>?_⟩
        have cq:=hcell q (by omega)
        rw [add_none] at cq
        unfold World.cell? at cq
        simp only [hh] at cq
        simpa using cq
      · cases c0
end
noncomputable def numL (nb z nu:Nat→Int) (len bl j:Nat):Int:=if j < 22 then nb j else if j < 60 then z (j - 30) else if j=95 then len else if j=96 then bl else nu j
noncomputable def rhoLs (nb z nu:Nat→Int) (zb:Nat→Bool) (len bl:Nat) (y:Nat→Int) (s bits:Value):Rho :=
  ⟨numL nb z nu len bl,fun j=>zb (j - 30),fun f a _ _=>if f=1000 then (if bl=0 then 0 else y (bO a bl).toNat) else if f=1001 then y a.toNat else 0,fun _ _ _ _=>false,fun j=>if j=96 then bits else s⟩
def LawL (f:Nat) (xs:List AV) (L:Nat) (W:World):Prop:=∀ ρ:Rho,(∀ c ∈ csV L,c.den ρ=true)→gB ρ (Base.of W).has →
  ∃ ρ':Rho,(∀ j,j < 100→ρ.iv j=ρ'.iv j)∧ρ.bv=ρ'.bv∧ρ.ov=ρ'.ov∧∀ (E:Env) (vs:List Value),E.ρ=ρ'→(∀ g ∈ lB L,ViewIn W E g)→(∀ b,2000≤b→E.σ b=none)→(∀ b,b < 1000→E.σ b=some (b,0))→E.n≤2000 →
    ad E (.agg (eG (.sliceX 1001 4 0 L)) :: xs)=some vs→Calls Tryd.prog f vs.toArray W fun e w'=>e=.returned (.bool true)∧Below W.heap.size W w'
theorem any_ofL {f : Nat} {xs : List AV} {vr : List Value} {nu : Nat → Int} {bb : Option Addr} {bl bc : Nat} {y : Nat → Int} {W : World} (HI : ∀ L ∈ [1, 2, 3, 4, 5], lawIg f xs L = true) (HU : ∀ many, lawUg f xs many = true)
    (hx:∀ E:Env,(∀ j,60≤j→j < 89→E.ρ.iv j=nu j)→E.ρ.iv 96=bl→E.ρ.ov 96=.slice bb bl bc→ad E xs=some vr) (HV:∀ L ∈ [1,2,3,4,5],LawL f xs L W)
    (hbl:(bl:Int)≤9223372036854775807) (hbc:bl≤bc) (hb:0 < bl→∃ c x cells el fz,bb=some ⟨c,x,none⟩∧W.heap[c]?=some (.cells cells el fz)∧∀ q,q < bl→cells[x + q]?=some (.int .i64 (y q)))
    {ρ0:Rho} (hG:∀ g ∈ gl,GlobIn W ρ0 g) {nb:Nat→Int} {s:Value} (hs:PartsIn W s) :
    Calls Tryd.prog f (.agg ((List.range 22).map (fun i=>Value.int .i64 (nb i)) ++ [s]).toArray :: vr).toArray W fun e W'=>e=.returned (.bool true)∧Below W.heap.size W W':=by
  have hσ:∀ ρ b o cap,∀ j,j < 1000→(envP ρ b o cap).σ j=some (j,0):=fun ρ b o cap j hj=>by simp [envP,hj]
  have hnone:∀ ρ b o cap,∀ j,2000≤j→(envP ρ b o cap).σ j=none:=fun ρ b o cap j hj=>by
    simp only [envP]; rw [if_neg (by omega),if_neg (by omega)]
  have gvw:∀ ρ b o cap,∀ g ∈ gl,ViewIn W (envP ρ b o cap) g:=fun ρ b o cap=>glob_view gl_lit hG (hσ ρ b o cap)
  have args:∀ (ρ:Rho) (b o cap:Nat) (a:AV),(∀ j,j < 22→ρ.iv j=nb j)→(∀ j,60≤j→j < 89→ρ.iv j=nu j)→ρ.iv 96=bl→ρ.ov 96=.slice bb bl bc→af (envP ρ b o cap) a=some s→ad (envP ρ b o cap) (.agg (eG a) :: xs)=some (.agg ((List.range 22).map (fun i=>Value.int .i64 (nb i)) ++ [s]).toArray :: vr):=fun ρ b o cap a h1 h2 h3 h4 ha =>
    ap.2 ⟨_,_,book_vals h1 ha,hx _ h2 h3 h4,rfl⟩
  have low:∀ z len j,j < 22→numL nb z nu len bl j=nb j:=fun z len j hj=>by unfold numL; rw [if_pos hj]
  have hi:∀ z len j,60≤j→j < 89→numL nb z nu len bl j=nu j:=fun z len j h1 h2=>by unfold numL; rw [if_neg (by omega),if_neg (by omega),if_neg (by omega),if_neg (by omega)]
  have n96:∀ z len,numL nb z nu len bl 96=bl:=fun z len=>by simp [numL]
  have short:∀ (len cap:Nat) (a:Option Addr),s=.slice a len cap→(len=0 ∨ 6≤len)→Calls Tryd.prog f (.agg ((List.range 22).map (fun i=>Value.int .i64 (nb i)) ++ [s]).toArray :: vr).toArray W fun e W'=>e=.returned (.bool true)∧Below W.heap.size W W':=fun len cap a hs h=>by
    let ρ:=rhoLs nb (fun _=>0) nu (fun _=>false) len bl y s (.slice bb bl bc)
    have i95:ρ.iv 95=len:=by simp [ρ,rhoLs,numL]
    have hu:af (envP ρ 0 0 0) (.sliceU 95)=some s:=by
      simp [af,envP,ρ,rhoLs,numL,hs]
    have ha:=args ρ 0 0 0 _ (fun j hj=>low (fun _=>0) len j hj) (fun j h1 h2=>hi (fun _=>0) len j h1 h2) (n96 (fun _=>0) len) rfl hu
    rcases h with h | h
    · exact law_short (hnone _ _ _ _) (hσ _ _ _ _) (Nat.le_refl _) false (HU false) (gvw _ _ _ _) ha (by
        show (leV (.var 95) (.lit 0)).den _=true
        unfold leV; rw [BE.t_leq,IE.den_var,IE.den_lit]; show ρ.iv 95≤0; rw [i95]; omega)
    · exact law_short (hnone _ _ _ _) (hσ _ _ _ _) (Nat.le_refl _) true (HU true) (gvw _ _ _ _) ha (by
        show (leV (.lit 6) (.var 95)).den _=true
        unfold leV; rw [BE.t_leq,IE.den_var,IE.den_lit]; show 6≤ρ.iv 95; rw [i95]; omega)
  rcases hs with hs | ⟨b,o,len,cap,z,zb,hs,hlc,hc⟩
  · exact short 0 0 none hs (.inl rfl)
  · by_cases h0:len=0
    · exact short len cap _ hs (.inl h0)
    · by_cases h6:6≤len
      · exact short len cap _ hs (.inr h6)
      · obtain ⟨cells,el,fz,c1,c2⟩:=hc (by omega)
        have hLm:len ∈ [1,2,3,4,5]:=by simp only [List.mem_cons,List.not_mem_nil,or_false]; omega
        have hsl:∀ ρ,af (envP ρ b o cap) (.sliceX 1001 4 0 len)=some s:=fun ρ=>by
          rw [hs]
          simp only [af,envP]
          rw [if_pos (by simp; omega)]
          simp
        have hview:∀ ρ:Rho,(∀ q,q < 4 * len→ρ.iv (30 + q)=z q)→(∀ q,q < 4 * len→ρ.bv (30 + q)=zb q)→∀ g ∈ lB len,ViewIn W (envP ρ b o cap) g:=fun ρ hz hb g hg=>by
          rcases List.mem_cons.1 hg with rfl | hg
          · exact gvw ρ b o cap _ List.mem_cons_self
          · rcases List.mem_singleton.1 hg with rfl
            obtain ⟨vs,v1,v2,v3⟩:=rowsV_vals (envP ρ b o cap) z zb len 30 0 rfl (fun q hq=>by rw [Nat.zero_add]; exact hz q hq) (fun q hq=>by rw [Nat.zero_add]; exact hb q hq)
            refine ⟨b,o,vs,cells,el,fz,by simp [envP],v1,c1,fun i hi=>?_⟩
            rw [v2] at hi
            rw [c2 i hi,v3 i hi,Nat.zero_add]
        let ρ:=rhoLs nb z nu zb len bl y s (.slice bb bl bc)
        have hz:∀ q,q < 4 * len→ρ.iv (30 + q)=z q:=fun q hq=>by
          show numL nb z nu len bl (30 + q)=_
          unfold numL
          rw [if_neg (by omega),if_pos (by omega),Nat.add_sub_cancel_left]
        have hbv:∀ q,q < 4 * len→ρ.bv (30 + q)=zb q:=fun q hq=>by
          show zb (30 + q - 30)=_
          rw [Nat.add_sub_cancel_left]
        have hPk:gB ρ (Base.of W).has:=by
          refine ⟨bb,bl,bc,rfl,n96 z len,hbl,hbc,fun n=>?_,fun hl=>?_⟩
          · show (if bl=0 then 0 else y (bO n bl).toNat)=(if bl=0 then 0 else y ((bO n bl)).toNat)
            rfl
          · obtain ⟨c,x,cells',el',fz',e1,e2,e3⟩:=hb hl
            refine ⟨c,x,cells',el',fz',e1,⟨(Array.getElem?_eq_some_iff.1 e2).1,e2⟩,fun j hj=>?_⟩
            rw [e3 j hj]
            show _=some (Value.int .i64 (y ((j:Int)).toNat))
            rw [Int.toNat_natCast]
        by_cases hcs:∀ c ∈ csV len,c.den ρ=true
        · obtain ⟨ρ',A,Ab,Ao,key⟩:=HV len hLm ρ hcs hPk
          exact key (envP ρ' b o cap) _ rfl (hview _ (fun q hq=>by rw [← A _ (by omega)]; exact hz q hq) (fun q hq=>by rw [← congrFun Ab (30 + q)]; exact hbv q hq)) (hnone _ _ _ _) (hσ _ _ _ _) (Nat.le_refl _) (args _ b o cap _ (fun j hj=>by rw [← A j (by omega)]; exact low z len j hj) (fun j h1 h2=>by rw [← A j (by omega)]; exact hi z len j h1 h2) (by rw [← A 96 (by omega)]; exact n96 z len) (by rw [← congrFun Ao 96]; rfl) (hsl _))
        · exact law_bad (hnone _ _ _ _) (hσ _ _ _ _) (Nat.le_refl _) hLm (HI len hLm) (E:=envP ρ b o cap) (hview ρ hz hbv) (args ρ b o cap _ (fun j hj=>low z len j hj) (fun j h1 h2=>hi z len j h1 h2) (n96 z len) rfl (hsl ρ)) hcs
end Go.Sx
