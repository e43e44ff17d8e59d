/- THE CALLS Parts AND Longer,as they are said. -/
import Derived.Test.YtpkonfmonoaajaaDoorEnS
import Derived.Test.YtpkonfmonoaajaaDoorEvLt
import Derived.Test.YtpkonfmonoaajaaDoorSxPres
/-! WHAT IS EASIER NEEDS NO MORE: two evenings,compared. -/
namespace Go.Sx
open Go.RowKit Go.Proofs
set_option maxRecDepth 100000
structure Bds (ρ:Rho) (m:Nat):Prop where
  room:∀ r,r < 2→0≤ρ.iv (4 + r)∧ρ.iv (4 + r)≤99
  load:∀ r,r < 2→0≤ρ.iv (6 + r)∧ρ.iv (6 + r)≤20
  tak:∀ i,i < m→∀ r,r < 2→0≤takF ρ i r∧takF ρ i r≤400
theorem mul_bd {w:Nat} {l:Int} (hw:w≤5) (h:0≤l∧l≤20):0≤(w:Int) * l∧(w:Int) * l≤100:=by
  constructor
  · exact Int.mul_nonneg (by omega) h.1
  · have:(w:Int) * l≤5 * 20:=Int.mul_le_mul (by omega) h.2 h.1 (by omega)
    omega
section
variable {ρ:Rho} {m r w:Nat} {a:Int} (B:Bds ρ m) (hr:r < 2) (ha:0≤a∧a≤99) (hw:w≤5)
include B hr ha hw
theorem has_eq:hasF ρ r a w=(if a + w * ρ.iv (6 + r) < ρ.iv (4 + r) then a + w * ρ.iv (6 + r) else ρ.iv (4 + r)):=by
  have h1:=mul_bd hw (B.load r hr)
  unfold hasF
  rw [IntWalk.i64_in ((w:Int) * ρ.iv (6 + r)) (by omega)]
  generalize (w:Int) * ρ.iv (6 + r)=p at *
  rw [IntWalk.i64_in (a + p) (by omega)]
theorem has_bd:0≤hasF ρ r a w∧hasF ρ r a w≤99:=by
  have h1:=mul_bd hw (B.load r hr)
  have h2:=B.room r hr
  rw [has_eq B hr ha hw]
  generalize (w:Int) * ρ.iv (6 + r)=p at *
  split <;> omega
theorem left_eq {i:Nat} (hi:i < m):leftF ρ i r a w=hasF ρ r a w - (if takF ρ i r < hasF ρ r a w then takF ρ i r else hasF ρ r a w)∧lackF ρ i r a w=takF ρ i r - (if takF ρ i r < hasF ρ r a w then takF ρ i r else hasF ρ r a w):=by
  have h1:=has_bd B hr ha hw
  have h2:=B.tak i hi r hr
  unfold leftF lackF
  generalize hasF ρ r a w=h at *
  generalize takF ρ i r=t at *
  constructor <;> split <;> exact IntWalk.i64_in _ (by omega)
theorem left_bd {i:Nat} (hi:i < m):0≤leftF ρ i r a w∧leftF ρ i r a w≤99:=by
  have h1:=has_bd B hr ha hw
  have h2:=B.tak i hi r hr
  rw [(left_eq B hr ha hw hi).1]
  split <;> omega
theorem lack_iff {i:Nat} (hi:i < m):lackF ρ i r a w=0 ↔ takF ρ i r≤hasF ρ r a w:=by
  rw [(left_eq B hr ha hw hi).2]
  split <;> omega
theorem left_of {i:Nat} (hi:i < m) (h:lackF ρ i r a w=0):leftF ρ i r a w=hasF ρ r a w - takF ρ i r:=by
  have h:=(lack_iff B hr ha hw hi).1 h
  rw [(left_eq B hr ha hw hi).1]
  split <;> omega
end
/-- an evening,and one that is easier -/
structure Ez (ρ ρ':Rho) (m:Nat):Prop where
  b:Bds ρ m
  b':Bds ρ' m
  room:∀ r,r < 2→ρ.iv (4 + r)≤ρ'.iv (4 + r)
  load:∀ r,r < 2→ρ.iv (6 + r)≤ρ'.iv (6 + r)
  tak:∀ i,i < m→∀ r,r < 2→takF ρ' i r≤takF ρ i r
  walks:∀ i,i < m→(ρ.iv (33 + 4 * i)).toNat≤(ρ'.iv (33 + 4 * i)).toNat
  five:∀ i,i < m→(ρ'.iv (33 + 4 * i)).toNat≤5
  fail:∀ i,i < m→∀ l l':Int,l≤l'→failF ρ' i l'=true→failF ρ i l=true
theorem has_mono {ρ ρ':Rho} {m r w w':Nat} {a a':Int} (E:Ez ρ ρ' m) (hr:r < 2) (ha:0≤a∧a≤99) (ha':a≤a'∧a'≤99) (hw:w≤w') (hw':w'≤5):hasF ρ r a w≤hasF ρ' r a' w':=by
  have h1:=E.load r hr
  have h2:=E.room r hr
  have h3:(w:Int) * ρ.iv (6 + r)≤(w':Int) * ρ'.iv (6 + r):=Int.mul_le_mul (by omega) h1 (E.b.load r hr).1 (by omega)
  rw [has_eq E.b hr ha (by omega),has_eq E.b' hr (by omega) hw']
  generalize (w:Int) * ρ.iv (6 + r)=p at *
  generalize (w':Int) * ρ'.iv (6 + r)=p' at *
  split <;> split <;> omega
theorem step_mono {ρ ρ' : Rho} {m r w w' i : Nat} {a a' : Int} (E : Ez ρ ρ' m) (hi : i < m) (hr : r < 2) (ha : 0 ≤ a ∧ a ≤ 99) (ha' : a ≤ a' ∧ a' ≤ 99) (hw : w ≤ w') (hw' : w' ≤ 5) (h : lackF ρ i r a w = 0) :
    lackF ρ' i r a' w'=0∧leftF ρ i r a w≤leftF ρ' i r a' w':=by
  have h1:=has_mono E hr ha ha' hw hw'
  have h2:=E.tak i hi r hr
  have h3:=(lack_iff E.b hr ha (by omega) hi).1 h
  have h4:lackF ρ' i r a' w'=0:=(lack_iff E.b' hr (by omega) hw' hi).2 (by omega)
  refine ⟨h4,?_⟩
  rw [left_of E.b hr ha (by omega) hi h,left_of E.b' hr (by omega) hw' hi h4]
  omega
/-! ## Plans -/
/-- walks that are enough from a point on -/
def EnP (ρ:Rho):Nat→Int→Int→List (Nat × Nat)→Prop
  | _,_,_,[]=>True
  | i,a,b,x :: l=>x.1 + x.2≤(ρ.iv (33 + 4 * i)).toNat∧(lackF ρ i 0 a x.1=0∧lackF ρ i 1 b x.2=0)∧failF ρ i (leftF ρ i 1 b x.2)=false∧EnP ρ (i + 1) (leftF ρ i 0 a x.1) (leftF ρ i 1 b x.2) l
def leL:List (Nat × Nat)→List (Nat × Nat)→Prop
  | [],[]=>True
  | x :: l,y :: k=>(x.1≤y.1∧x.2≤y.2)∧leL l k
  | _,_=>False
def okL (ρ:Rho):Nat→List (Nat × Nat)→Prop
  | _,[]=>True
  | i,x :: l=>x.1 + x.2≤(ρ.iv (33 + 4 * i)).toNat∧okL ρ (i + 1) l
theorem leL_refl:∀ l,leL l l
  | []=>trivial
  | _ :: l=>⟨⟨Nat.le_refl _,Nat.le_refl _⟩,leL_refl l⟩
theorem enP_ok {ρ:Rho}:∀ {l:List (Nat × Nat)} {i:Nat} {a b:Int},EnP ρ i a b l→okL ρ i l
  | [],_,_,_,_=>trivial
  | _ :: _,_,_,_,h=>⟨h.1,enP_ok h.2.2.2⟩
theorem okL_mono {ρ ρ':Rho} {m:Nat} (E:Ez ρ ρ' m):∀ {l:List (Nat × Nat)} {i:Nat},i + l.length≤m→okL ρ i l→okL ρ' i l
  | [],_,_,_=>trivial
  | x :: l,i,h,k=>by
    simp only [List.length_cons] at h
    exact ⟨Nat.le_trans k.1 (E.walks i (by omega)),okL_mono E (by omega) k.2⟩
theorem enP_mono {ρ ρ':Rho} {m:Nat} (E:Ez ρ ρ' m):∀ {l l':List (Nat × Nat)} {i:Nat} {a b a' b':Int},i + l.length≤m→0≤a∧a≤99→a≤a'∧a'≤99→0≤b∧b≤99→b≤b'∧b'≤99→leL l l'→okL ρ' i l'→EnP ρ i a b l→EnP ρ' i a' b' l'
  | [],[],_,_,_,_,_,_,_,_,_,_,_,_,_=>trivial
  | [],_ :: _,_,_,_,_,_,_,_,_,_,_,h,_,_=>h.elim
  | _ :: _,[],_,_,_,_,_,_,_,_,_,_,h,_,_=>h.elim
  | x :: l,y :: k,i,a,b,a',b',hl,ha,ha',hb,hb',hle,hok,h=>by
    simp only [List.length_cons] at hl
    obtain ⟨h1,⟨h2,h3⟩,h4,h5⟩:=h
    obtain ⟨⟨l1,l2⟩,l3⟩:=hle
    obtain ⟨k1,k2⟩:=hok
    have f:=E.five i (by omega)
    obtain ⟨s1,s2⟩:=step_mono E (show i < m by omega) (show 0 < 2 by omega) ha ha' l1 (by omega) h2
    obtain ⟨s3,s4⟩:=step_mono E (show i < m by omega) (show 1 < 2 by omega) hb hb' l2 (by omega) h3
    have c0:=left_bd E.b (show 0 < 2 by omega) ha (show x.1≤5 by omega) (show i < m by omega)
    have c1:=left_bd E.b (show 1 < 2 by omega) hb (show x.2≤5 by omega) (show i < m by omega)
    have d0:=left_bd E.b' (show 0 < 2 by omega) (show 0≤a'∧a'≤99 by omega) (show y.1≤5 by omega) (show i < m by omega)
    have d1:=left_bd E.b' (show 1 < 2 by omega) (show 0≤b'∧b'≤99 by omega) (show y.2≤5 by omega) (show i < m by omega)
    refine ⟨k1,⟨s1,s3⟩,?_,enP_mono E (by omega) c0 ⟨s2,d0.2⟩ c1 ⟨s4,d1.2⟩ l3 k2 h5⟩
    cases hf:failF ρ' i (leftF ρ' i 1 b' y.2) with
    | false=>rfl
    | true=>exact absurd (E.fail i (by omega) _ _ s4 hf) (by rw [h4]; simp)
/-! ## All walks there can be -/
theorem mem_rowP {cw:Nat} {x:Nat × Nat}:∀ {n ww:Nat},x ∈ rowP cw n ww ↔ x.1=cw∧ww≤x.2∧x.2 < ww + n
  | 0,ww=>by simp only [rowP,List.not_mem_nil,false_iff]; omega
  | n + 1,ww=>by
    simp only [rowP,List.mem_cons,mem_rowP (n:=n)]
    constructor
    · rintro (rfl | h)
      · simp
      · omega
    · intro h
      by_cases e:x.2=ww
      · left; exact Prod.ext h.1 e
      · right; omega
theorem mem_pairsP {W:Nat} {x:Nat × Nat}:∀ {n cw:Nat},x ∈ pairsP W n cw ↔ cw≤x.1∧x.1 < cw + n∧x.2 < W + 1 - x.1
  | 0,cw=>by simp only [pairsP,List.not_mem_nil,false_iff]; omega
  | n + 1,cw=>by
    simp only [pairsP,lApp_eq,List.mem_append,mem_pairsP (n:=n),mem_rowP]
    constructor
    · rintro (h | h)
      · rw [h.1]; omega
      · omega
    · intro h
      by_cases e:x.1=cw
      · left; rw [e] at h; omega
      · right; omega
theorem mem_pairs {W:Nat} {x:Nat × Nat}:x ∈ pairs W ↔ x.1 + x.2≤W:=by
  unfold pairs; rw [mem_pairsP]; omega
theorem outD_iff {ρ:Rho}:∀ (d i:Nat) (a b:Int),(outD ρ d i a b).en=true ↔ ∃ l,l.length=d∧EnP ρ i a b l
  | 0,i,a,b=>⟨fun _=>⟨[],rfl,trivial⟩,fun _=>rfl⟩
  | d + 1,i,a,b=>by
    rw [outD_en]
    constructor
    · rintro ⟨x,hx,h1,h2,h3⟩
      obtain ⟨l,hl,h4⟩:=(outD_iff d (i + 1) _ _).1 h3
      exact ⟨x :: l,by simp only [List.length_cons,hl],mem_pairs.1 hx,h1,h2,h4⟩
    · rintro ⟨l,hl,h⟩
      cases l with
      | nil=>simp at hl
      | cons x l =>
        obtain ⟨h0,h1,h2,h3⟩:=h
        exact ⟨x,mem_pairs.2 h0,h1,h2,(outD_iff d (i + 1) _ _).2 ⟨l,by simpa using hl,h3⟩⟩
/-- in an easier evening,with no less at first,some plan is enough,too -/
theorem enD_easier {ρ ρ':Rho} {m:Nat} (E:Ez ρ ρ' m) (h0:0≤ρ.iv 0∧ρ.iv 0≤ρ'.iv 0∧ρ'.iv 0≤99) (h2:0≤ρ.iv 2∧ρ.iv 2≤ρ'.iv 2∧ρ'.iv 2≤99) (h:enD ρ m=true):enD ρ' m=true:=by
  obtain ⟨l,hl,k⟩:=(outD_iff m 0 _ _).1 h
  exact (outD_iff m 0 _ _).2 ⟨l,hl,enP_mono E (by omega) (by omega) (by omega) (by omega) (by omega) (leL_refl l) (okL_mono E (by omega) (enP_ok k)) k⟩
end Go.Sx
/-! AN EVENING WITH OTHER NUMBERS: what is asked of its numbers; whether some plan is enough. -/
namespace Go.Sx
open Go.RowKit Go.Proofs
set_option maxRecDepth 100000
/-- the numbers of an evening that is valid,but for its parts -/
structure BookE (iv:Nat→Int):Prop where
  room0:1≤iv 4∧iv 4≤99
  room1:1≤iv 5∧iv 5≤99
  coal:0≤iv 0∧iv 0≤iv 1∧iv 1≤iv 4
  water:0≤iv 2∧iv 2≤iv 3∧iv 3≤iv 5
  load0:1≤iv 6∧iv 6≤20
  load1:1≤iv 7∧iv 7≤20
  mark:0≤iv 20∧iv 20≤iv 5
  lamp:0≤iv 21∧iv 21≤60
  b0:0≤iv 8∧iv 8≤iv 9∧iv 9≤3
  b1:0≤iv 10∧iv 10≤iv 11∧iv 11≤3
  d0:0≤iv 12∧iv 12≤iv 13∧iv 13≤3
  d1:0≤iv 14∧iv 14≤iv 15∧iv 15≤3
  full:0≤iv 16∧iv 16≤iv 17∧iv 17≤60
  weak:0≤iv 18∧iv 18≤iv 19∧iv 19≤60
  cur:iv 18≤iv 16∧iv 19≤iv 17
structure PartE (iv:Nat→Int) (b:Nat):Prop where
  min:1≤iv b∧iv b≤iv (b + 1)∧iv (b + 1)≤60
  walks:0≤iv (b + 3)∧iv (b + 3)≤5
theorem book_iff {ρ:Rho}:(∀ c ∈ bookC,c.den ρ=true) ↔ BookE ρ.iv:=by
  simp only [bookC,inV,leV,List.cons_append,List.nil_append,List.mem_cons,List.not_mem_nil,or_false,forall_eq_or_imp,forall_eq,BE.t_leq,IE.den_lit,IE.den_var,Nat.reduceAdd]
  constructor
  · rintro ⟨h1,h2,h3,h4,h5,h6,h7,h8,h9,h10,h11,h12,h13,h14,h15,h16,h17,h18,h19,h20,h21,h22,h23,h24,h25,h26,h27,h28,h29,h30,h31,h32,h33,h34,h35,h36,h37,h38⟩
    constructor <;> omega
  · rintro ⟨⟨_,_⟩,⟨_,_⟩,⟨_,_,_⟩,⟨_,_,_⟩,⟨_,_⟩,⟨_,_⟩,⟨_,_⟩,⟨_,_⟩,⟨_,_,_⟩,⟨_,_,_⟩,⟨_,_,_⟩,⟨_,_,_⟩,⟨_,_,_⟩,⟨_,_,_⟩,⟨_,_⟩⟩
    refine ⟨?_,?_,?_,?_,?_,?_,?_,?_,?_,?_,?_,?_,?_,?_,?_,?_,?_,?_,?_,?_,?_,?_,?_,?_,?_,?_,?_,?_,?_,?_,?_,?_,?_,?_,?_,?_,?_,?_⟩ <;> assumption
theorem part_iff {ρ:Rho} {b:Nat}:(∀ c ∈ partV b,c.den ρ=true) ↔ PartE ρ.iv b:=by
  simp only [partV,leV,List.mem_cons,List.not_mem_nil,or_false,forall_eq_or_imp,forall_eq,BE.t_leq,IE.den_lit,IE.den_var]
  constructor
  · rintro ⟨h1,h2,h3,h4,h5⟩; constructor <;> omega
  · rintro ⟨⟨_,_,_⟩,⟨_,_⟩⟩; refine ⟨?_,?_,?_,?_,?_⟩ <;> assumption
theorem parts_iff {ρ:Rho}:∀ {n b:Nat},(∀ c ∈ partsV n b,c.den ρ=true) ↔ ∀ i,i < n→PartE ρ.iv (b + 4 * i)
  | 0,b=>⟨fun _ i h=>absurd h (by omega),fun _ c hc=>by cases hc⟩
  | n + 1,b=>by
    have ih:=parts_iff (ρ:=ρ) (n:=n) (b:=b + 4)
    have ip:=part_iff (ρ:=ρ) (b:=b)
    constructor
    · intro h i hi
      cases i with
      | zero=>exact ip.1 fun c hc=>h c (List.mem_append.2 (.inl hc))
      | succ i =>
        have:=ih.1 (fun c hc=>h c (List.mem_append.2 (.inr hc))) i (by omega)
        rw [show b + 4 * (i + 1)=b + 4 + 4 * i by omega]; exact this
    · intro h c hc
      rcases List.mem_append.1 hc with hc | hc
      · exact ip.2 (h 0 (by omega)) c hc
      · exact ih.2 (fun i hi=>by rw [show b + 4 + 4 * i=b + 4 * (i + 1) by omega]; exact h (i + 1) (by omega)) c hc
theorem cs_iff {ρ:Rho} {L:Nat}:(∀ c ∈ csV L,c.den ρ=true) ↔ BookE ρ.iv∧∀ i,i < L→PartE ρ.iv (30 + 4 * i):=by
  rw [← book_iff,← parts_iff]
  exact ⟨fun h=>⟨fun c hc=>h c (List.mem_append.2 (.inl hc)),fun c hc=>h c (List.mem_append.2 (.inr hc))⟩,fun h c hc=>(List.mem_append.1 hc).elim (h.1 c) (h.2 c)⟩
/-! ## Alike,as far as an evening goes -/
structure AgreeL (ρ ρ':Rho):Prop where
  iv:∀ j,j < 60→ρ.iv j=ρ'.iv j
  bv:∀ j,j < 60→ρ.bv j=ρ'.bv j
section
variable {ρ ρ':Rho} (A:AgreeL ρ ρ')
include A
theorem tak_agreeL {i r:Nat} (hi:i < 7) (hr:r < 2):takF ρ i r=takF ρ' i r:=by
  unfold takF
  rw [A.iv (31 + 4 * i) (by omega),A.bv (32 + 4 * i) (by omega)]
  split
  · rw [A.iv (11 + 4 * r) (by omega)]
  · rw [A.iv (9 + 4 * r) (by omega)]
theorem left_agreeL {i r:Nat} (hi:i < 7) (hr:r < 2) (a w:Int):leftF ρ i r a w=leftF ρ' i r a w:=by
  unfold leftF hasF; rw [tak_agreeL A hi hr,A.iv (6 + r) (by omega),A.iv (4 + r) (by omega)]
theorem lack_agreeL {i r:Nat} (hi:i < 7) (hr:r < 2) (a w:Int):lackF ρ i r a w=lackF ρ' i r a w:=by
  unfold lackF hasF; rw [tak_agreeL A hi hr,A.iv (6 + r) (by omega),A.iv (4 + r) (by omega)]
theorem fail_agreeL {i:Nat} (hi:i < 7) (l:Int):failF ρ i l=failF ρ' i l:=by
  unfold failF; rw [A.bv (32 + 4 * i) (by omega),A.iv 20 (by omega),A.iv 18 (by omega),A.iv 21 (by omega),A.iv 16 (by omega)]
theorem roundG_agreeL {i:Nat} (hi:i < 7) (nx:Int→Int→Out) (a b:Int) (cw ww:Nat) (S:Stt):roundG ρ nx i a b cw ww S=roundG ρ' nx i a b cw ww S:=by
  unfold roundG
  simp only [left_agreeL A hi (show 0 < 2 by omega),left_agreeL A hi (show 1 < 2 by omega),lack_agreeL A hi (show 0 < 2 by omega),lack_agreeL A hi (show 1 < 2 by omega),fail_agreeL A hi]
theorem roundsG_agreeL {i:Nat} (hi:i < 7) (nx:Int→Int→Out) (a b:Int):∀ (l:List (Nat × Nat)) (S:Stt),roundsG ρ nx i a b l S=roundsG ρ' nx i a b l S
  | [],_=>rfl
  | x :: l,S=>by simp only [roundsG]; rw [roundG_agreeL A hi,roundsG_agreeL hi nx a b l]
theorem outD_agreeL:∀ (d i:Nat),i + d≤7→outD ρ d i=outD ρ' d i
  | 0,_,_=>rfl
  | d + 1,i,h=>by
    funext a b
    simp only [outD]
    rw [outD_agreeL d (i + 1) (by omega),roundsG_agreeL A (by omega),A.iv (33 + 4 * i) (by omega)]
theorem enD_agreeL {m:Nat} (hm:m≤7):enD ρ m=enD ρ' m:=by
  unfold enD; rw [outD_agreeL A m 0 (by omega),A.iv 0 (by omega),A.iv 2 (by omega)]
end
/-! ## Other numbers -/
noncomputable def chg (e:Nat→IE) (ρ:Rho):Rho:=⟨fun j=>(e j).den ρ,ρ.bv,ρ.fi,ρ.fb,ρ.ov⟩
noncomputable def vx (e:Nat→IE) (j:Nat):AV:=.int .i64 (e j)
noncomputable def rowsX (e:Nat→IE):Nat→Nat→List AV
  | 0,_=>[]
  | n + 1,b=>vx e b :: vx e (b + 1) :: .bool (.var (b + 2)) :: vx e (b + 3) :: rowsX e n (b + 4)
noncomputable def vxUp (e:Nat→IE):Nat→Nat→List AV
  | 0,_=>[]
  | n + 1,i=>vx e i :: vxUp e n (i + 1)
noncomputable def bookX (e:Nat→IE) (s:AV):List AV:=lApp (vxUp e 22 0) [s]
theorem rowsX_same {e:Nat→IE} {ρ:Rho}:∀ n b,SameL ρ (rowsX e n b) (chg e ρ) (rowsV n b)
  | 0,_=>SameL.nil
  | n + 1,b=>by
    show SameL ρ (vx e b :: vx e (b + 1) :: .bool (.var (b + 2)) :: vx e (b + 3) :: rowsX e n (b + 4)) (chg e ρ) (vi b :: vi (b + 1) :: .bool (.var (b + 2)) :: vi (b + 3) :: rowsV n (b + 4))
    exact SameL.cons (SameV.int rfl) (SameL.cons (SameV.int rfl) (SameL.cons (SameV.bool rfl) (SameL.cons (SameV.int rfl) (rowsX_same n (b + 4)))))
theorem vxUp_same {e:Nat→IE} {ρ:Rho} {s:AV} (hs:SameV ρ s (chg e ρ) s):∀ n i,SameL ρ (lApp (vxUp e n i) [s]) (chg e ρ) (lApp (viUp n i) [s])
  | 0,_=>SameL.cons hs SameL.nil
  | n + 1,i=>by
    show SameL ρ (vx e i :: lApp (vxUp e n (i + 1)) [s]) (chg e ρ) (vi i :: lApp (viUp n (i + 1)) [s])
    exact SameL.cons (SameV.int rfl) (vxUp_same hs n (i + 1))
theorem bookX_same {e:Nat→IE} {ρ:Rho} {s:AV} (hs:SameV ρ s (chg e ρ) s):SameV ρ (.agg (bookX e s)) (chg e ρ) (.agg (bookS s)):=SameV.agg (vxUp_same hs 22 0)
theorem rowsX_ids (e:Nat→IE) (N:Nat):∀ n b,idsLts N (rowsX e n b)=true
  | 0,_=>rfl
  | n + 1,b=>by simp only [rowsX,idsLts,idsLt,vx,rowsX_ids e N n (b + 4),Bool.and_self]
/-- a number,changed -/
def oneE (j:Nat) (v:IE):Nat→IE:=fun k=>cond (Nat.beq k j) v (.var k)
theorem oneE_at {j:Nat} {v:IE}:oneE j v j=v:=by unfold oneE; rw [Nat.beq_refl]; rfl
theorem oneE_ne {j k:Nat} {v:IE} (h:k ≠ j):oneE j v k=.var k:=by
  unfold oneE
  cases hb:Nat.beq k j with
  | true=>exact absurd (beq_t.1 hb) h
  | false=>rfl
end Go.Sx
/-! THE CALL Plan OF AN EVENING WITH OTHER NUMBERS,wherever its parts lie: what is told has names. -/
namespace Go.Sx
open Go.RowKit Go.Proofs
set_option maxRecDepth 100000
/-- what is left before a part,by the plan that is found; its walks -/
noncomputable def stD (ρ:Rho) (m:Nat):Nat→Int × Int
  | 0=>(ρ.iv 0,ρ.iv 2)
  | k + 1=>((outD ρ (m - k) k (stD ρ m k).1 (stD ρ m k).2).b0,(outD ρ (m - k) k (stD ρ m k).1 (stD ρ m k).2).b1)
noncomputable def outK (ρ:Rho) (m k:Nat):Out:=outD ρ (m - k) k (stD ρ m k).1 (stD ρ m k).2
structure OkC (m:Nat) (c:Bool) (ρ:Rho):Prop where
  w:∀ i,i < m→∃ W:Nat,W≤5∧ρ.iv (33 + 4 * i)=W
  e:enD ρ m=c
  pl:c=true→∀ k,k < m→ρ.iv (700 + 2 * k)=(outK ρ m k).wc∧ρ.iv (701 + 2 * k)=(outK ρ m k).ww
noncomputable def planN:Nat→Nat→List AV
  | 0,_=>[]
  | n + 1,b=>vi b :: vi (b + 1) :: planN n (b + 2)
theorem key_st {ρ:Rho} {m:Nat} (hw:∀ i,i < m→∃ W:Nat,W≤5∧ρ.iv (33 + 4 * i)=W) (h:enD ρ m=true):∀ k,k < m→(keyW k).1.den (rhoE ρ m)=k∧(keyW k).2.1.den (rhoE ρ m)=(stD ρ m k).1∧(keyW k).2.2.den (rhoE ρ m)=(stD ρ m k).2
  | 0,_=>⟨rfl,rfl,rfl⟩
  | k + 1,hk=>by
    obtain ⟨h1,h2,h3⟩:=key_st hw h k (by omega)
    have p:=(path_ok (okG_E hw) ((enB_E ρ m).trans h) (k + 1) hk).1
    refine ⟨p,?_,?_⟩
    · show FI (rhoE ρ m).fi 9405 ((keyW k).1.den (rhoE ρ m)) ((keyW k).2.1.den (rhoE ρ m)) ((keyW k).2.2.den (rhoE ρ m))=_
      rw [h1,h2,h3]
      have:=congrArg Out.b0 (outOf_E ρ m k (stD ρ m k).1 (stD ρ m k).2)
      rw [Int.toNat_natCast] at this
      exact this
    · show FI (rhoE ρ m).fi 9406 ((keyW k).1.den (rhoE ρ m)) ((keyW k).2.1.den (rhoE ρ m)) ((keyW k).2.2.den (rhoE ρ m))=_
      rw [h1,h2,h3]
      have:=congrArg Out.b1 (outOf_E ρ m k (stD ρ m k).1 (stD ρ m k).2)
      rw [Int.toNat_natCast] at this
      exact this
theorem plan_same {ρ:Rho} {m:Nat} (hk:OkC m true ρ):∀ n k,k + n=m→SameL (rhoE ρ m) (planC n k) ρ (planN n (700 + 2 * k))
  | 0,_,_=>SameL.nil
  | n + 1,k,h=>by
    obtain ⟨h1,h2,h3⟩:=key_st hk.w hk.e k (by omega)
    obtain ⟨p1,p2⟩:=hk.pl rfl k (by omega)
    have o:=outOf_E ρ m k (stD ρ m k).1 (stD ρ m k).2
    rw [Int.toNat_natCast] at o
    refine SameL.cons (SameV.int ?_) (SameL.cons (SameV.int ?_) (plan_same hk n (k + 1) (by omega)))
    · show FI (rhoE ρ m).fi 9402 ((keyW k).1.den (rhoE ρ m)) ((keyW k).2.1.den (rhoE ρ m)) ((keyW k).2.2.den (rhoE ρ m))=ρ.iv (700 + 2 * k)
      rw [h1,h2,h3,p1]; exact congrArg Out.wc o
    · show FI (rhoE ρ m).fi 9403 ((keyW k).1.den (rhoE ρ m)) ((keyW k).2.1.den (rhoE ρ m)) ((keyW k).2.2.den (rhoE ρ m))=ρ.iv (700 + 2 * k + 1)
      rw [h1,h2,h3,show 700 + 2 * k + 1=701 + 2 * k by omega,p2]; exact congrArg Out.ww o
noncomputable def newP (m b:Nat):AObj:=.cells (planN m b) 54 true false
noncomputable def vQ0 (m:Nat):List (Nat × AObj):=[(1001,.cells (rowsV m 30) 0 false false),(2000,newP m 700)]
noncomputable def resP (m:Nat) (c:Bool) (l:List (Nat × AObj)):AV × Heap:=cond c (foundV m,viewA 2001 (lApp l [(2000,newP m 700)])) (noneV,viewA 2000 l)
theorem plan_sh {m : Nat} {c : Bool} (h0 : 0 < m) (hm : m ≤ 5) (L : Looks true m) (hck : ckQ true m = true) :
    CallOk (pLaw fun ρ _=>OkC m c ρ) 36 (argsO true m) (viewA 2000 (vS m)) (.ret (resP m c (vS m))):=by
  have base:∀ c:Bool,CallOk (pLaw fun ρ _=>OkG m ρ∧enB.den ρ=c) 36 (argsO true m) (viewA 2000 (vS m)) (.ret (cond c (foundV m,viewA 2001 (vQ m)) (noneV,viewA 2000 (vS m)))):=fun c=>by
    have hc:=plan_ok (ok:=fun ρ _=>OkG m ρ∧enB.den ρ=c) (q:=true) (c:=c) h0 hm L.l L.o hck fun ρ b k=>k
    cases c
    · exact hc
    · exact hc
  refine CallOk.read (p0:=pLaw fun ρ _=>OkG m ρ∧enB.den ρ=c) (p:=pLaw fun ρ _=>OkC m c ρ) rfl (base c) fun ρ b h Q hQ=>?_
  obtain ⟨k,hk,hb⟩:=h
  have hk:OkC m c ρ:=hk
  have ei:ρ.iv=(rhoE ρ m).iv:=rfl
  have eb:ρ.bv=(rhoE ρ m).bv:=rfl
  refine ⟨rhoE ρ m,⟨k,⟨okG_E hk.w,(enB_E ρ m).trans hk.e⟩,hb⟩,SameL.cons (SameV.agg (even_same (fun j _=>congrFun ei j) true m)) SameL.nil,vS_same ei eb rfl m,?_⟩
  cases c
  · exact ⟨(noneV,viewA 2000 (vS m)),hQ,fun _ _ _ _ _ _=>rfl,vS_same ei.symm eb.symm rfl m⟩
  · refine ⟨(foundV m,viewA 2001 (vQ0 m)),hQ,fun _ _ _ _ _ _=>rfl,rfl,fun b o hg=>?_⟩
    have:=viewA_get _ _ _ _ hg
    simp only [vQ0,List.mem_cons,List.not_mem_nil,or_false] at this
    rcases this with h | h
    · cases h; exact ⟨_,viewA_mem 2001 _ 0 rfl (1001,.cells (rowsV m 30) 0 false false) (by simp [vQ]),SameA.cells rfl (rowsV_same ei.symm eb.symm _ _)⟩
    · cases h; exact ⟨_,viewA_mem 2001 _ 0 rfl (2000,.cells (planC m 0) 54 true false) (by simp [vQ]),SameA.cells rfl (plan_same hk m 0 (Nat.zero_add m))⟩
/-! ## Plan -/
structure OkPl (m:Nat) (c:Bool) (ρ:Rho):Prop where
  cs:∀ d ∈ csV m,d.den ρ=true
  o:OkC m c ρ
noncomputable def orcPl (m:Nat) (c:Bool) (f:FuncId) (args:List AV) (h:Heap):Option (T (AV × Heap)) :=
  cond (Nat.beq f 42) (soGo m args h) (cond (Nat.beq f 36) (frontGo (argsO true m) (lS m) (.ret (resP m c (vS m))) args h) none)
noncomputable def tbPl (m:Nat) (c:Bool):Tabs:=⟨Sx.Tryd.ft.get,lFind Sx.Tryd.rt,2000,orcPl m c⟩
noncomputable def runPl (m:Nat) (c:Bool):T (AV × Heap):=(evalN (tbPl m c) 60 false 12 (bookA m) (viewA 2000 (vB m))).bind fun r=>graftT 2000 (vB m) (viewA 2000 (vB m)) (nwP r) r
noncomputable def isRes (m:Nat) (c:Bool) (r:AV × Heap):Bool:=cond c (isR (foundV m) 2001 (lApp (vB m) [(2000,newP m 700)]) r) (isR noneV 2000 (vB m) r)
noncomputable def ckPl (m:Nat) (c:Bool):Bool:=and (viewOk 2000 (vB m)) (allK (fun _=>isRes m c) (runPl m c) (knOf [] []))
theorem ckPl_all:lAll (fun m=>and (ckPl m true) (ckPl m false)) [1,2,3,4,5]=true:=by kernel_rfl
theorem so_any {ok:Rho→(Nat→Obj→Prop)→Prop} {n:Nat} {f:Nat} (hok:∀ ρ b,ok ρ b→∀ c ∈ csV n,c.den ρ=true) (hck:ckBk f n (.bool (.lit true))=true) {args:List AV} {h:Heap} {t:T (AV × Heap)} (e:soGo n args h=some t):CallOk (pLaw ok) f args h t:=by
  have hv:viewOk 2000 (vB n)=true:=by
    have:=hck
    unfold ckBk at this
    simp only [Bool.and_eq_true] at this
    exact this.1
  exact frontGo_ok (p:=pLaw ok) (l:=lB n) (valid_ok (ok:=ok) hck hok) rfl hv e
theorem vals_at {n:Nat} (a:1≤n) (b:n≤5):ckBk 42 n (.bool (.lit true))=true∧ckBk 7 n (.bool (.lit true))=true:=by
  have:=lAll_mem valid_all n (by simp only [List.mem_cons,List.not_mem_nil,or_false]; omega)
  simpa only [Bool.and_eq_true] using this
theorem ckQ_at {m:Nat} (a:1≤m) (b:m≤5):ckQ true m=true:=by
  have:=lAll_mem ckQ_all (m - 1) (by simp only [List.mem_cons,List.not_mem_nil,or_false]; omega)
  simp only [Bool.and_eq_true] at this
  rw [show m - 1 + 1=m by omega] at this
  exact this.1
theorem vS_ok {q:Bool} {m:Nat} (H:Looks q m):viewOk 2000 (vS m)=true:=by
  have:=H.p
  unfold ckP at this
  simp only [Bool.and_eq_true] at this
  exact this.1
theorem orcPl_ok {m:Nat} {c:Bool} (h0:1≤m) (hm:m≤5) (H:Looks true m):∀ f args h t,orcPl m c f args h=some t→CallOk (pLaw fun ρ _=>OkPl m c ρ) f args h t:=by
  intro f args h t e
  unfold orcPl at e
  cases h42:Nat.beq f 42 with
  | true=>rw [h42,cond_true] at e; have:=beq_t.1 h42; subst this; exact so_any (fun ρ b k=>k.cs) (vals_at h0 hm).1 e
  | false =>
    rw [h42,cond_false] at e
    obtain ⟨h36,e⟩:=cond_some e
    have:=beq_t.1 h36; subst this
    refine frontGo_ok (p:=pLaw fun ρ _=>OkPl m c ρ) (l:=lS m) ?_ rfl (vS_ok H) e
    refine CallOk.read (p0:=pLaw fun ρ _=>OkC m c ρ) (p:=pLaw fun ρ _=>OkPl m c ρ) rfl (plan_sh h0 hm H (ckQ_at h0 hm)) fun ρ b hb Q hQ=>?_
    obtain ⟨w,hw,hbw⟩:=hb
    have hw:OkPl m c ρ:=hw
    refine ⟨ρ,⟨w,hw.o,hbw⟩,SameL.refl _ _,⟨rfl,fun j o g=>⟨o,g,SameA.refl o⟩⟩,?_⟩
    exact ⟨_,hQ,SameV.refl _ _,rfl,fun j o g=>⟨o,g,SameA.refl o⟩⟩
theorem plan12 {m:Nat} {c:Bool} (h0:1≤m) (hm:m≤5) (H:Looks true m):CallOk (pLaw fun ρ _=>OkPl m c ρ) 12 (bookA m) (viewA 2000 (vB m)) (.ret (resP m c (vB m))):=by
  have hck:ckPl m c=true:=by
    have:=lAll_mem ckPl_all m (by simp only [List.mem_cons,List.not_mem_nil,or_false]; omega)
    simp only [Bool.and_eq_true] at this
    cases c
    · exact this.2
    · exact this.1
  unfold ckPl at hck
  simp only [Bool.and_eq_true] at hck
  obtain ⟨hv,hck⟩:=hck
  have B:TabOk (pLaw fun ρ _=>OkPl m c ρ) Sx.Tryd.tt.get (tbPl m c):=Tryd.tab (orcPl m c) (orcPl_ok h0 hm H) 2000
  have base:=eval_ok B 60 12 (bookA m) (viewA 2000 (vB m))
  have up:∀ g ∈ vB m,(viewA 2000 (vB m)).get g.1=some g.2:=viewA_mem 2000 _ 0 rfl
  have fr:CallOk (pLaw fun ρ _=>OkPl m c ρ) 12 (bookA m) (viewA 2000 (vB m)) (runPl m c):=base.frame (n:=2000) (l:=vB m) (by omega) rfl hv (fun g hg=>⟨g.2,up g hg,.refl _⟩) (by rw [viewA_next]; exact Nat.le_refl _) nwP
  refine CallOk.read (p0:=pLaw fun ρ _=>OkPl m c ρ) (p:=pLaw fun ρ _=>OkPl m c ρ) rfl fr fun ρ b hb Q hQ=>⟨ρ,hb,SameL.refl _ _,⟨rfl,fun j o g=>⟨o,g,SameA.refl o⟩⟩,?_⟩
  refine allK_ok (ρ:=ρ) (fun K r hK hr=>?_) _ _ (knOf_ok (fun c hc=>by cases hc) fun c hc=>by cases hc) hck
  unfold isRes at hr
  cases c
  · obtain ⟨s1,s2⟩:=isR_same (p0:=pLaw fun ρ _=>OkPl m false ρ) (p:=pLaw fun ρ _=>OkPl m false ρ) rfl rfl (ρ:=ρ) hr
    exact ⟨_,hQ,s1,s2⟩
  · obtain ⟨s1,s2⟩:=isR_same (p0:=pLaw fun ρ _=>OkPl m true ρ) (p:=pLaw fun ρ _=>OkPl m true ρ) rfl rfl (ρ:=ρ) hr
    exact ⟨_,hQ,s1,s2⟩
end Go.Sx
/-! THE CALLS Plan,Parts AND isEnough,read with other numbers,wherever the parts lie. -/
namespace Go.Sx
open Go.RowKit Go.Proofs
set_option maxRecDepth 100000
/-- numbers that are read as others -/
structure Reads (e:Nat→IE) (ρ ρ':Rho):Prop where
  iv:∀ j,j < 60→(e j).den ρ=ρ'.iv j
  bv:∀ j,j < 60→ρ.bv j=ρ'.bv j
theorem rowsX_reads {e:Nat→IE} {ρ ρ':Rho} (R:Reads e ρ ρ'):∀ n b,b + 4 * n≤60→SameL ρ (rowsX e n b) ρ' (rowsV n b)
  | 0,_,_=>SameL.nil
  | n + 1,b,h=>by
    show SameL ρ (vx e b :: vx e (b + 1) :: .bool (.var (b + 2)) :: vx e (b + 3) :: rowsX e n (b + 4)) ρ' (vi b :: vi (b + 1) :: .bool (.var (b + 2)) :: vi (b + 3) :: rowsV n (b + 4))
    exact SameL.cons (SameV.int (R.iv _ (by omega))) (SameL.cons (SameV.int (R.iv _ (by omega))) (SameL.cons (SameV.bool (R.bv _ (by omega))) (SameL.cons (SameV.int (R.iv _ (by omega))) (rowsX_reads R n (b + 4) (by omega)))))
theorem vxUp_reads {e:Nat→IE} {ρ ρ':Rho} (R:Reads e ρ ρ') {s:List AV} (hs:SameL ρ s ρ' s):∀ n i,i + n≤60→SameL ρ (lApp (vxUp e n i) s) ρ' (lApp (viUp n i) s)
  | 0,_,_=>hs
  | n + 1,i,h=>by
    show SameL ρ (vx e i :: lApp (vxUp e n (i + 1)) s) ρ' (vi i :: lApp (viUp n (i + 1)) s)
    exact SameL.cons (SameV.int (R.iv _ (by omega))) (vxUp_reads R hs n (i + 1) (by omega))
theorem bookX_reads {e:Nat→IE} {ρ ρ':Rho} (R:Reads e ρ ρ') (b o n c:Nat):SameV ρ (.agg (bookX e (.sliceX b o n c))) ρ' (.agg (bookS (.sliceX b o n c))):=SameV.agg (vxUp_reads R (SameL.cons (SameV.sliceX _ _ _ _) SameL.nil) 22 0 (by omega))
noncomputable def stX (e:Nat→IE):List Nat→List AV→List AV
  | [],r=>r
  | j :: l,r=>vx e j :: stX e l r
noncomputable def stJ:List Nat:=[0,1,4,6,8,9,10,11,2,3,5,7,12,13,14,15]
noncomputable def evenX (e:Nat→IE) (s:AV):List AV:=lApp (vxUp e 22 0) (s :: stX e stJ [])
theorem stX_reads {e:Nat→IE} {ρ ρ':Rho} (R:Reads e ρ ρ'):∀ l:List Nat,(∀ j ∈ l,j < 60)→SameL ρ (stX e l []) ρ' (stX IE.var l [])
  | [],_=>SameL.nil
  | j :: l,h=>SameL.cons (SameV.int (R.iv j (h j List.mem_cons_self))) (stX_reads R l fun k hk=>h k (List.mem_cons_of_mem _ hk))
theorem even_split (s:AV):evenS s=lApp (viUp 22 0) (s :: stX IE.var stJ []):=rfl
theorem evenX_reads {e:Nat→IE} {ρ ρ':Rho} (R:Reads e ρ ρ') (b o n c:Nat):SameV ρ (.agg (evenX e (.sliceX b o n c))) ρ' (.agg (evenS (.sliceX b o n c))):=by
  rw [even_split]
  have hs:SameL ρ (.sliceX b o n c :: stX e stJ []) ρ' (.sliceX b o n c :: stX IE.var stJ []):=SameL.cons (SameV.sliceX _ _ _ _) (stX_reads R stJ (by simp [stJ]))
  have go:∀ k i,i + k≤60→SameL ρ (lApp (vxUp e k i) (.sliceX b o n c :: stX e stJ [])) ρ' (lApp (viUp k i) (.sliceX b o n c :: stX IE.var stJ [])):=by
    intro k
    induction k with
    | zero=>intro i _; exact hs
    | succ k ih =>
      intro i h
      show SameL ρ (vx e i :: lApp (vxUp e k (i + 1)) _) ρ' (vi i :: lApp (viUp k (i + 1)) _)
      exact SameL.cons (SameV.int (R.iv _ (by omega))) (ih (i + 1) (by omega))
  exact SameV.agg (go 22 0 (by omega))
/-! ## Where the parts lie -/
theorem mv_vx {a c n:Nat} {E:Env} (e:Nat→IE) {s s':List AV} (hs:concL (E.mv a c n) s=concL E s'):∀ k i,concL (E.mv a c n) (lApp (vxUp e k i) s)=concL E (lApp (vxUp e k i) s')
  | 0,_=>hs
  | k + 1,i=>by
    show concL (E.mv a c n) (vx e i :: lApp (vxUp e k (i + 1)) s)=concL E (vx e i :: lApp (vxUp e k (i + 1)) s')
    simp only [concL,vx,conc,mv_vx e hs k (i + 1)]
    rfl
theorem mv_st {a c n:Nat} {E:Env} (e:Nat→IE):∀ l:List Nat,concL (E.mv a c n) (stX e l [])=concL E (stX e l [])
  | []=>rfl
  | j :: l=>by
    show concL (E.mv a c n) (vx e j :: stX e l [])=concL E (vx e j :: stX e l [])
    simp only [concL,vx,conc,mv_st e l]
    rfl
theorem mv_sl {nb L:Nat} {E:Env}:conc (E.mv 1001 nb 2000) (.sliceX 1001 4 0 L)=conc E (.sliceX nb 4 0 L):=by
  simp only [conc,Env.mv,mvN,show (1001:Nat) < 2000 by omega,if_true]
noncomputable def glC:List AV:=[li 1,li 99,li 1,li 99,li 1,li 20,li 1,li 20,li 0,li 60,li 1,li 5]
noncomputable def vX (e:Nat→IE) (L:Nat):List (Nat × AObj):=[(0,glO),(1001,.cells (rowsX e L 30) 0 false false)]
noncomputable def xGo (e:Nat→IE) (nb L:Nat) (args0:List AV) (r:Heap→AV × Heap) (args:List AV) (h:Heap):Option (T (AV × Heap)) :=
  cond (and (eqAVs args args0) (and (frontC glC (h.get 0)) (and (frontC (rowsX e L 30) (h.get nb)) (Nat.ble 2000 h.next)))) (some (.ret (r h))) none
theorem xGo_ok {e : Nat → IE} {nb L : Nat} {args0 args : List AV} {r : Heap → AV × Heap} {h : Heap} {t : T (AV × Heap)} (k : xGo e nb L args0 r args h = some t) :
    args=args0∧t=.ret (r h)∧2000≤h.next∧∀ g ∈ vX e L,∃ o,h.get (mvN 1001 nb g.1)=some o∧Less g.2 o:=by
  unfold xGo at k
  obtain ⟨hc,k1⟩:=cond_some k
  clear k
  simp only [Bool.and_eq_true] at hc
  obtain ⟨h1,h2,h3,h4⟩:=hc
  refine ⟨eqAVs_eq _ _ h1,(Option.some.inj k1).symm,ble_t.1 h4,fun g hg=>?_⟩
  simp only [vX,List.mem_cons,List.not_mem_nil,or_false] at hg
  rcases hg with rfl | rfl
  · exact frontC_ok h2
  · exact frontC_ok h3
theorem vX_low (e:Nat→IE) (L:Nat):∀ g ∈ vX e L,g.1 < 2000∧ownO g.2=false∧idsO 0 g.2=true:=fun g hg=>by
  simp only [vX,List.mem_cons,List.not_mem_nil,or_false] at hg
  rcases hg with rfl | rfl
  · exact ⟨by show 0 < 2000; omega,rfl,rfl⟩
  · exact ⟨by show 1001 < 2000; omega,rfl,rowsX_ids e 0 L 30⟩
theorem vX_same {p0 p:Par} (hP:p0.P=p.P) {e:Nat→IE} {ρ ρ':Rho} (R:Reads e ρ ρ') {L:Nat} (hL:L≤5):SameH p0 p ρ (viewA 2000 (vX e L)) ρ' (viewA 2000 (vB L)) :=
  ⟨rfl,fun b o hg=>by
    have:=viewA_get _ _ _ _ hg
    simp only [vB,List.mem_cons,List.not_mem_nil,or_false] at this
    rcases this with h | h
    · cases h; exact ⟨_,viewA_mem 2000 (vX e L) 0 rfl (0,glO) (by simp [vX]),SameA.cells hP (fun _ _ _ _ _ _=>rfl)⟩
    · cases h; exact ⟨_,viewA_mem 2000 (vX e L) 0 rfl (1001,.cells (rowsX e L 30) 0 false false) (by simp [vX]),SameA.cells hP (rowsX_reads R L 30 (by omega))⟩⟩
theorem vX_same' {p0 p:Par} (hP:p0.P=p.P) {e:Nat→IE} {ρ ρ':Rho} (R:Reads e ρ ρ') {L:Nat} (hL:L≤5):SameH p0 p ρ' (viewA 2000 (vB L)) ρ (viewA 2000 (vX e L)) :=
  ⟨rfl,fun b o hg=>by
    have:=viewA_get _ _ _ _ hg
    simp only [vX,List.mem_cons,List.not_mem_nil,or_false] at this
    rcases this with h | h
    · cases h; exact ⟨_,viewA_mem 2000 (vB L) 0 rfl (0,glO) (by simp [vB]),SameA.cells hP (fun _ _ _ _ _ _=>rfl)⟩
    · cases h; exact ⟨_,viewA_mem 2000 (vB L) 0 rfl (1001,.cells (rowsV L 30) 0 false false) (by simp [vB]),SameA.cells hP (rowsX_reads R L 30 (by omega)).symm⟩⟩
/-! ## Plan -/
noncomputable def planXt (nm L:Nat) (c:Bool) (h:Heap):AV × Heap:=cond c (.tup [.slice h.next 0 L L,li 0],h.new (newP L nm)) (noneV,h)
noncomputable def pl12 (e:Nat→IE) (nm nb L:Nat) (c:Bool):List AV→Heap→Option (T (AV × Heap)):=xGo e nb L [.agg (bookX e (.sliceX nb 4 0 L))] (planXt nm L c)
theorem planN_ids (N:Nat):∀ n b,idsLts N (planN n b)=true
  | 0,_=>rfl
  | n + 1,b=>by simp only [planN,idsLts,idsLt,vi,planN_ids N n (b + 2),Bool.and_self]
theorem planN_same {ρ ρ':Rho} {b b':Nat}:∀ n k,(∀ j,k≤j→j < k + 2 * n→ρ.iv (b + j)=ρ'.iv (b' + j))→SameL ρ (planN n (b + k)) ρ' (planN n (b' + k))
  | 0,_,_=>SameL.nil
  | n + 1,k,h=>SameL.cons (SameV.int (h k (by omega) (by omega))) (SameL.cons (SameV.int (h (k + 1) (by omega) (by omega))) (planN_same n (k + 2) fun j h1 h2=>h j (by omega) (by omega)))
theorem pl12_ok {ok : Rho → (Nat → Obj → Prop) → Prop} {e : Nat → IE} {nm nb L : Nat} {c : Bool} (h0 : 1 ≤ L) (hm : L ≤ 5) (H : Looks true L)
    (hok:∀ ρ b,ok ρ b→∃ ρ',Reads e ρ ρ'∧OkPl L c ρ'∧(c=true→∀ k,k < 2 * L→ρ'.iv (700 + k)=ρ.iv (nm + k))) {args:List AV} {h:Heap} {t:T (AV × Heap)} (k:pl12 e nm nb L c args h=some t):CallOk (pLaw ok) 12 args h t:=by
  obtain ⟨rfl,rfl,hn,hl⟩:=xGo_ok k
  have hargs:∀ E:Env,concL (E.mv 1001 nb 2000) [.agg (bookX e (.sliceX 1001 4 0 L))]=concL E [.agg (bookX e (.sliceX nb 4 0 L))]:=fun E=>by
    have:concL (E.mv 1001 nb 2000) (bookX e (.sliceX 1001 4 0 L))=concL E (bookX e (.sliceX nb 4 0 L)):=mv_vx e (by simp only [concL,mv_sl]) 22 0
    simp only [concL,conc,this]
  cases c
  · have hc : CallOk (pLaw ok) 12 [.agg (bookX e (.sliceX 1001 4 0 L))] (viewA 2000 (vX e L)) (.ret (noneV, viewA 2000 (vX e L))) := by
      refine CallOk.read (p0:=pLaw fun ρ _=>OkPl L false ρ) (p:=pLaw ok) rfl (plan12 h0 hm H) fun ρ b hb Q hQ=>?_
      obtain ⟨w,hw,hbw⟩:=hb
      obtain ⟨ρ',R,o,_⟩:=hok ρ w hw
      exact ⟨ρ',⟨w,o,hbw⟩,SameL.cons (bookX_reads R _ _ _ _) SameL.nil,vX_same rfl R hm,(noneV,viewA 2000 (vX e L)),hQ,fun _ _ _ _ _ _=>rfl,vX_same' rfl R hm⟩
    exact hc.moved (a:=1001) (c:=nb) (by omega) (by omega) rfl (vX_low e L) hl hargs
  · have hc : CallOk (pLaw ok) 12 [.agg (bookX e (.sliceX 1001 4 0 L))] (viewA 2000 (vX e L)) (.ret (foundV L, viewA 2001 (lApp (vX e L) [(2000, newP L nm)]))) := by
      refine CallOk.read (p0:=pLaw fun ρ _=>OkPl L true ρ) (p:=pLaw ok) rfl (plan12 h0 hm H) fun ρ b hb Q hQ=>?_
      obtain ⟨w,hw,hbw⟩:=hb
      obtain ⟨ρ',R,o,hp⟩:=hok ρ w hw
      refine ⟨ρ',⟨w,o,hbw⟩,SameL.cons (bookX_reads R _ _ _ _) SameL.nil,vX_same rfl R hm,(foundV L,viewA 2001 (lApp (vX e L) [(2000,newP L nm)])),hQ,fun _ _ _ _ _ _=>rfl,rfl,fun b o hg=>?_⟩
      have:=viewA_get _ _ _ _ hg
      simp only [vX,lApp_eq,List.cons_append,List.nil_append,List.mem_cons,List.not_mem_nil,or_false] at this
      have at_:∀ g ∈ lApp (vB L) [(2000,newP L 700)],(viewA 2001 (lApp (vB L) [(2000,newP L 700)])).get g.1=some g.2:=viewA_mem 2001 _ 0 rfl
      rcases this with h | h | h
      · cases h; exact ⟨_,at_ (0,glO) (by simp [vB,lApp_eq]),SameA.cells rfl (fun _ _ _ _ _ _=>rfl)⟩
      · cases h; exact ⟨_,at_ (1001,.cells (rowsV L 30) 0 false false) (by simp [vB,lApp_eq]),SameA.cells rfl (rowsX_reads R L 30 (by omega)).symm⟩
      · cases h
        refine ⟨_,at_ (2000,newP L 700) (by simp [lApp_eq]),SameA.cells rfl ?_⟩
        have:=planN_same (ρ:=ρ') (ρ':=ρ) (b:=700) (b':=nm) L 0 fun j _ hj=>hp rfl j (by omega)
        exact this
    have mv:=hc.movedT (a:=1001) (c:=nb) (by omega) (by omega) (vX_low e L) hn hl hargs
    have hg:(viewA 2001 (lApp (vX e L) [(2000,newP L nm)])).get 2000=some (newP L nm):=viewA_mem 2001 (lApp (vX e L) [(2000,newP L nm)]) 0 rfl (2000,newP L nm) (by simp [lApp_eq])
    have e1:((T.ret (foundV L,viewA 2001 (lApp (vX e L) [(2000,newP L nm)]))).bind fun r=>mvT 2000 h r)=.ret (planXt nm L true h):=by
      show mvT 2000 h (foundV L,viewA 2001 (lApp (vX e L) [(2000,newP L nm)]))=_
      have hi:and (ownO (newP L nm)) (and (idsO 0 (newP L nm)) (idsO 2000 (newP L nm)))=true:=by
        have i1:idsO 0 (newP L nm)=true:=planN_ids 0 L nm
        have i2:idsO 2000 (newP L nm)=true:=planN_ids 2000 L nm
        rw [i1,i2]; rfl
      simp only [mvT,hg,hi,cond_true]
      rfl
    rw [e1] at mv
    exact mv
end Go.Sx
/-! THE CALLS Parts AND Longer,as they are said. -/
namespace Go.Sx
open Go.RowKit Go.Proofs
set_option maxRecDepth 100000
/-- whether some plan is enough,where it is known -/
theorem en_c {ok : Rho → (Nat → Obj → Prop) → Prop} {q : Bool} {m : Nat} {c : Bool} (hok : ∀ ρ b, ok ρ b → (∀ i, i < m → ∃ W : Nat, W ≤ 5 ∧ ρ.iv (33 + 4 * i) = W) ∧ enD ρ m = c) (hc : CallOk (pG m) 50 (argsO q m) (viewA 2000 (vS m)) (.ret (.bool enB, viewA 2000 (vS m)))) :
    CallOk (pLaw ok) 50 (argsO q m) (viewA 2000 (vS m)) (.ret (.bool (.lit c),viewA 2000 (vS m))) :=
  CallOk.read (p0:=pG m) (p:=pLaw ok) rfl hc fun ρ b h Q hQ=>by
    obtain ⟨k,hk,hb⟩:=h
    obtain ⟨h1,h2⟩:=hok ρ k hk
    have ei:ρ.iv=(rhoE ρ m).iv:=rfl
    have eb:ρ.bv=(rhoE ρ m).bv:=rfl
    exact ⟨rhoE ρ m,⟨k,okG_E h1,hb⟩,SameL.cons (SameV.agg (even_same (fun j _=>congrFun ei j) q m)) SameL.nil,vS_same ei eb rfl m,⟨(.bool (.lit c),viewA 2000 (vS m)),hQ,SameV.bool ((enB_E ρ m).trans h2),vS_same ei.symm eb.symm rfl m⟩⟩
/-! ## Parts -/
structure OkPa (L r:Nat) (ρ:Rho):Prop where
  cs:∀ d ∈ csV L,d.den ρ=true
  e:∀ n,n≤L→enD ρ n=Nat.ble n r
noncomputable def orcPa (L r:Nat) (f:FuncId) (args:List AV) (h:Heap):Option (T (AV × Heap)):=cond (Nat.beq f 42) (soGo L args h) (cond (Nat.beq f 50) (enGo r args h L) none)
noncomputable def tbPa (L r:Nat):Tabs:=⟨Sx.Tryd.ft.get,lFind Sx.Tryd.rt,2000,orcPa L r⟩
noncomputable def partsR (r:Nat):AV:=.tup [li (Int.ofNat r),li 0]
noncomputable def runPa (L r:Nat):T (AV × Heap):=(evalN (tbPa L r) 60 false 11 (bookA L) (viewA 2000 (vB L))).bind fun r=>graftT 2000 (vB L) (viewA 2000 (vB L)) [] r
noncomputable def ckPa (L r:Nat):Bool:=and (viewOk 2000 (vB L)) (allK (fun _=>isR (partsR r) 2000 (vB L)) (runPa L r) (knOf [] []))
theorem ckPa_all:lAll (fun L=>lAll (ckPa L) (cntD (L + 1))) [1,2,3,4,5]=true:=by kernel_rfl
theorem en_saidP {L r n:Nat} (hn:n≤L) (h5:L≤5) (H:Looks false n) {args:List AV} {h:Heap} {t:T (AV × Heap)} (e:frontGo (argsO false n) (lS n) (.ret (.bool (.lit (Nat.ble n r)),viewA 2000 (vC (lS n)))) args h=some t):CallOk (pLaw fun ρ _=>OkPa L r ρ) 50 args h t :=
  frontGo_ok (p:=pLaw fun ρ _=>OkPa L r ρ) (l:=lS n) (en_c (fun ρ b k=>⟨fun i hi=>walks_of k.cs (by omega),k.e n hn⟩) (enough_ok (by omega) H.l H.o H.p)) rfl (vS_ok H) e
theorem enGoP {L r:Nat} (h5:L≤5) (H:∀ n,n≤5→Looks false n) {args:List AV} {h:Heap} {t:T (AV × Heap)}:∀ n,n≤L→enGo r args h n=some t→CallOk (pLaw fun ρ _=>OkPa L r ρ) 50 args h t
  | 0,hn,e=>en_saidP hn h5 (H 0 (by omega)) e
  | n + 1,hn,e=>by
    unfold enGo at e
    split at e
    · rename_i t' e'
      cases e
      exact en_saidP hn h5 (H (n + 1) (by omega)) e'
    · exact enGoP h5 H n (by omega) e
/-- a run at the view of an evening,its new blocks forgotten: its ends are what is told -/
theorem run_view {ok : Rho → (Nat → Obj → Prop) → Prop} {tb : Tabs} {L f : Nat} {args : List AV} {v : AV} {q : List (Nat × Int × Int)} {cs : List BE} {Q : Kn → AV × Heap → Bool}
    (B:TabOk (pLaw ok) Sx.Tryd.tt.get tb) (hids:idsLts 2000 args=true) (hv:viewOk 2000 (vB L)=true)
    (hck:allK Q ((evalN tb 60 false f args (viewA 2000 (vB L))).bind fun r=>graftT 2000 (vB L) (viewA 2000 (vB L)) [] r) (knOf q cs)=true)
    (hq:∀ ρ b,ok ρ b→(∀ c ∈ ivC q,c.den ρ=true)∧∀ c ∈ cs,c.den ρ=true)
    (hQ:∀ ρ b K r,ok ρ b→KnOk ρ K→Q K r=true→SameV ρ r.1 ρ v∧SameH (pLaw ok) (pLaw ok) ρ r.2 ρ (viewA 2000 (vB L))) :
    CallOk (pLaw ok) f args (viewA 2000 (vB L)) (.ret (v,viewA 2000 (vB L))):=by
  have base:=eval_ok B 60 f args (viewA 2000 (vB L))
  have up:∀ g ∈ vB L,(viewA 2000 (vB L)).get g.1=some g.2:=viewA_mem 2000 _ 0 rfl
  have fr:=base.frame (n:=2000) (l:=vB L) (by omega) hids hv (fun g hg=>⟨g.2,up g hg,.refl _⟩) (by rw [viewA_next]; exact Nat.le_refl _) (fun _=>[])
  refine CallOk.read (p0:=pLaw ok) (p:=pLaw ok) rfl fr fun ρ b hb P hP=>⟨ρ,hb,SameL.refl _ _,⟨rfl,fun j o g=>⟨o,g,SameA.refl o⟩⟩,?_⟩
  obtain ⟨w,hw,_⟩:=hb
  obtain ⟨h1,h2⟩:=hq ρ w hw
  refine allK_ok (ρ:=ρ) (fun K r hK hr=>?_) _ _ (knOf_ok h1 h2) hck
  obtain ⟨s1,s2⟩:=hQ ρ w K r hw hK hr
  exact ⟨_,hP,s1,s2⟩
theorem vB_ok {L:Nat} (h0:1≤L) (h5:L≤5):viewOk 2000 (vB L)=true:=by
  have:=(vals_at h0 h5).1
  unfold ckBk at this
  simp only [Bool.and_eq_true] at this
  exact this.1
theorem parts11 {L r:Nat} (h0:1≤L) (h5:L≤5) (hr:r≤L) (H:∀ n,n≤5→Looks false n):CallOk (pLaw fun ρ _=>OkPa L r ρ) 11 (bookA L) (viewA 2000 (vB L)) (.ret (partsR r,viewA 2000 (vB L))):=by
  have hck:ckPa L r=true:=lAll_mem (lAll_mem ckPa_all L (by simp only [List.mem_cons,List.not_mem_nil,or_false]; omega)) r (cntD_mem (by omega))
  unfold ckPa at hck
  simp only [Bool.and_eq_true] at hck
  refine run_view (ok:=fun ρ _=>OkPa L r ρ) (Tryd.tab (orcPa L r) (fun f args h t e=>?_) 2000) rfl hck.1 hck.2 (fun ρ b _=>⟨fun c hc=>(List.not_mem_nil hc).elim,fun c hc=>(List.not_mem_nil hc).elim⟩) fun ρ b K r' _ _ hr=>isR_same rfl rfl hr
  unfold orcPa at e
  cases h42:Nat.beq f 42 with
  | true=>rw [h42,cond_true] at e; have:=beq_t.1 h42; subst this; exact so_any (fun ρ b k=>k.cs) (vals_at h0 h5).1 e
  | false =>
    rw [h42,cond_false] at e
    obtain ⟨h50,e⟩:=cond_some e
    have:=beq_t.1 h50; subst this
    exact enGoP h5 H L (Nat.le_refl L) e
/-- a call that only reads,read with other numbers,wherever the parts lie -/
theorem read_at {ok ok0 : Rho → (Nat → Obj → Prop) → Prop} {e : Nat → IE} {nb L f : Nat} {v v0 : AV} {args0 args1 args args' : List AV} {h : Heap} {t : T (AV × Heap)} (h5 : L ≤ 5) (hc : CallOk (pLaw ok0) f args0 (viewA 2000 (vB L)) (.ret (v0, viewA 2000 (vB L))))
    (hv:idsLt 0 v=true) (hargs:∀ E:Env,concL (E.mv 1001 nb 2000) args1=concL E args')
    (hok:∀ ρ b,ok ρ b→∃ ρ',Reads e ρ ρ'∧ok0 ρ' b∧SameL ρ args1 ρ' args0∧SameV ρ' v0 ρ v) (k:xGo e nb L args' (fun h=>(v,h)) args h=some t):CallOk (pLaw ok) f args h t:=by
  obtain ⟨rfl,rfl,hn,hl⟩:=xGo_ok k
  have hc1:CallOk (pLaw ok) f args1 (viewA 2000 (vX e L)) (.ret (v,viewA 2000 (vX e L))):=by
    refine CallOk.read (p0:=pLaw ok0) (p:=pLaw ok) rfl hc fun ρ b hb Q hQ=>?_
    obtain ⟨w,hw,hbw⟩:=hb
    obtain ⟨ρ',R,o,sa,sv⟩:=hok ρ w hw
    exact ⟨ρ',⟨w,o,hbw⟩,sa,vX_same rfl R h5,(v,viewA 2000 (vX e L)),hQ,sv,vX_same' rfl R h5⟩
  exact hc1.moved (a:=1001) (c:=nb) (by omega) (by omega) hv (vX_low e L) hl hargs
theorem book_mv {e:Nat→IE} {nb L:Nat} {r:List AV} (hr:∀ E:Env,concL (E.mv 1001 nb 2000) r=concL E r) (E:Env):concL (E.mv 1001 nb 2000) (.agg (bookX e (.sliceX 1001 4 0 L)) :: r)=concL E (.agg (bookX e (.sliceX nb 4 0 L)) :: r):=by
  have:concL (E.mv 1001 nb 2000) (bookX e (.sliceX 1001 4 0 L))=concL E (bookX e (.sliceX nb 4 0 L)):=mv_vx e (by simp only [concL,mv_sl]) 22 0
  simp only [concL,conc,this,hr E]
noncomputable def pa11 (e:Nat→IE) (nb L r:Nat):List AV→Heap→Option (T (AV × Heap)):=xGo e nb L [.agg (bookX e (.sliceX nb 4 0 L))] (fun h=>(partsR r,h))
theorem pa11_ok {ok : Rho → (Nat → Obj → Prop) → Prop} {e : Nat → IE} {nb L r : Nat} (h0 : 1 ≤ L) (h5 : L ≤ 5) (hr : r ≤ L) (H : ∀ n, n ≤ 5 → Looks false n)
    (hok:∀ ρ b,ok ρ b→∃ ρ',Reads e ρ ρ'∧OkPa L r ρ') {args:List AV} {h:Heap} {t:T (AV × Heap)} (k:pa11 e nb L r args h=some t):CallOk (pLaw ok) 11 args h t :=
  read_at (ok0:=fun ρ _=>OkPa L r ρ) h5 (parts11 h0 h5 hr H) rfl (book_mv fun _=>rfl) (fun ρ b hb=>by
    obtain ⟨ρ',R,o⟩:=hok ρ b hb
    exact ⟨ρ',R,o,SameL.cons (bookX_reads R _ _ _ _) SameL.nil,fun _ _ _ _ _ _=>rfl⟩) k
end Go.Sx
