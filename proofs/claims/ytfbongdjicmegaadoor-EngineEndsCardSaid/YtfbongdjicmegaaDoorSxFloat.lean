/- SxFloat -/
import Derived.Test.YtfbongdjicmegaaDoorSxOps6
import Derived.TacticsIn
import Derived.LoopNIn
import Derived.RangeFuncLeaves
import Derived.OrdersIn
import Derived.RangeFuncRecord
import Derived.Scope
import Derived.RangeFuncNested
namespace Go.Sx
open Go.RowKit
theorem mkIff_den (ρ:Rho) (a b:BE):(a.mkIff b).den ρ=(a.den ρ == b.den ρ):=by
  unfold BE.mkIff
  split <;> rfl
def LeafOf (d:TypeDesc) (l:Leaf):Prop :=
  match l with
  | .bool=>d=.bool
  | .int=>∃ k,d=.int k
  | .nilS=>∃ e,d=.slice e
  | .nilM=>∃ k e,d=.map k e
  | .nilP=>∃ e,d=.pointer e
  | .nilF=>∃ a b c,d=.func a b c
theorem func_conc {E:Env} {fn:Fn} {x y:List AV} {v:Value} (h:af E (.func fn x y)=some v):∃ f a b,v=.func f a b:=by
  simp only [af] at h
  cases hx:ad E x with
  | none=>rw [hx] at h; cases fn <;> simp at h
  | some l =>
    cases hy:ad E y with
    | none=>rw [hx,hy] at h; cases fn <;> simp at h
    | some m=>rw [hx,hy] at h; cases fn <;> simp at h <;> exact ⟨_,_,_,h.symm⟩
theorem fJ {E:Env} {l:Nat} {v:Value} (h:af E (.yieldF l)=some v):∃ q,E.σ l=some q∧v=.func (.yield q.1) #[] #[]:=by
  simp only [af,Option.map_eq_some_iff] at h
  obtain ⟨q,h1,h2⟩:=h
  exact ⟨q,h1,h2.symm⟩
theorem eqLeaf_ok {P : Program} {t : Nat} {d : TypeDesc} (hu : P.underlying t = some d) {l : Leaf} (hl : LeafOf d l) {x y : AV} {be : BE} (h : eO l x y = some be) {E : Env} {u v : Value} (hx : af E x = some u) (hy : af E y = some v) (D : Nat) (w : World) :
    (Op.equalIn (D + 1) t u v).run P w=.ok (be.den E.ρ) w:=by
  unfold eO at h
  split at h
  · -- int
    obtain ⟨k,rfl⟩:=hl
    split at h
    · rename_i j a j' b
      cases hk:dv j j' with
      | false=>rw [hk] at h; cases h
      | true =>
        have:=cm hk
        subst this
        rw [hk,cond_true] at h
        simp only [af,Option.some.injEq] at hx hy
        subst hx; subst hy
        obtain ⟨_,hd⟩:=mkCmp_den (ρ:=E.ρ) h
        rw [hd]
        simp only [Op.equalIn,Sem.run_bind,run_underlying hu,Result.andThen_ok,if_true]
        rfl
    · cases h
  · have hd:d=.bool:=hl
    subst hd
    split at h
    · rename_i a b
      cases h
      simp only [af,Option.some.injEq] at hx hy
      subst hx; subst hy
      rw [mkIff_den]
      simp only [Op.equalIn,Sem.run_bind,run_underlying hu,Result.andThen_ok]
      rfl
    · cases h
  · obtain ⟨e,rfl⟩:=hl
    split at h
    · cases h; simp only [af,Option.some.injEq] at hx hy; subst hx; subst hy; simp only [Op.equalIn,Sem.run_bind,run_underlying hu,Result.andThen_ok]; rfl
    · cases h; obtain ⟨q,_,rfl⟩:=b6 hy; simp only [af,Option.some.injEq] at hx; subst hx; simp only [Op.equalIn,Sem.run_bind,run_underlying hu,Result.andThen_ok]; rfl
    · cases h; obtain ⟨q,_,_,rfl⟩:=bt hy; simp only [af,Option.some.injEq] at hx; subst hx; simp only [Op.equalIn,Sem.run_bind,run_underlying hu,Result.andThen_ok]; rfl
    · cases h; obtain ⟨q,_,rfl⟩:=b6 hx; simp only [af,Option.some.injEq] at hy; subst hy; simp only [Op.equalIn,Sem.run_bind,run_underlying hu,Result.andThen_ok]; rfl
    · cases h; obtain ⟨q,_,_,rfl⟩:=bt hx; simp only [af,Option.some.injEq] at hy; subst hy; simp only [Op.equalIn,Sem.run_bind,run_underlying hu,Result.andThen_ok]; rfl
    · cases h
  · obtain ⟨k,e,rfl⟩:=hl
    split at h
    · cases h; simp only [af,Option.some.injEq] at hx hy; subst hx; subst hy; simp only [Op.equalIn,Sem.run_bind,run_underlying hu,Result.andThen_ok]; rfl
    · cases h; obtain ⟨q,_,rfl⟩:=cn hy; simp only [af,Option.some.injEq] at hx; subst hx; simp only [Op.equalIn,Sem.run_bind,run_underlying hu,Result.andThen_ok]; rfl
    · cases h; obtain ⟨q,_,rfl⟩:=cn hx; simp only [af,Option.some.injEq] at hy; subst hy; simp only [Op.equalIn,Sem.run_bind,run_underlying hu,Result.andThen_ok]; rfl
    · cases h
  · obtain ⟨e,rfl⟩:=hl
    split at h
    · cases h; simp only [af,Option.some.injEq] at hx hy; subst hx; subst hy; simp only [Op.equalIn,Sem.run_bind,run_underlying hu,Result.andThen_ok]; rfl
    · cases h; obtain ⟨q,_,rfl⟩:=cJ hy; simp only [af,Option.some.injEq] at hx; subst hx; simp only [Op.equalIn,Sem.run_bind,run_underlying hu,Result.andThen_ok]; rfl
    · cases h; obtain ⟨q,_,rfl⟩:=cJ hx; simp only [af,Option.some.injEq] at hy; subst hy; simp only [Op.equalIn,Sem.run_bind,run_underlying hu,Result.andThen_ok]; rfl
    · cases h
  · obtain ⟨_,_,_,rfl⟩:=hl
    split at h
    · cases h; simp only [af,Option.some.injEq] at hx hy; subst hx; subst hy; simp only [Op.equalIn,Sem.run_bind,run_underlying hu,Result.andThen_ok]; rfl
    · cases h; obtain ⟨_,_,_,rfl⟩:=func_conc hy; simp only [af,Option.some.injEq] at hx; subst hx; simp only [Op.equalIn,Sem.run_bind,run_underlying hu,Result.andThen_ok]; rfl
    · cases h; obtain ⟨_,_,_,rfl⟩:=func_conc hx; simp only [af,Option.some.injEq] at hy; subst hy; simp only [Op.equalIn,Sem.run_bind,run_underlying hu,Result.andThen_ok]; rfl
    · cases h; obtain ⟨_,_,rfl⟩:=fJ hy; simp only [af,Option.some.injEq] at hx; subst hx; simp only [Op.equalIn,Sem.run_bind,run_underlying hu,Result.andThen_ok]; rfl
    · cases h; obtain ⟨_,_,rfl⟩:=fJ hx; simp only [af,Option.some.injEq] at hy; subst hy; simp only [Op.equalIn,Sem.run_bind,run_underlying hu,Result.andThen_ok]; rfl
    · cases h
theorem eqCells_nil (xs ys:List AV):bA xs ys []=some (.lit true):=rfl
theorem eqCells_cons (xs ys : List AV) (q : Nat × Leaf) (ls : List (Nat × Leaf)) : bA xs ys (q :: ls) =
    (match da xs q.1,da ys q.1 with
      | some x,some y=>(match eO q.2 x y with
        | some (.lit c)=>cond c (bA xs ys ls) (some (.lit false))
        | some c=>(match bA xs ys ls with
          | some d=>some (.and c d)
          | none=>none)
        | none=>none)
      | _,_=>none):=rfl
theorem fh {xs ys : List AV} {q : Nat × Leaf} {ls : List (Nat × Leaf)} {be : BE} (h : bA xs ys (q :: ls) = some be) (ρ : Rho) :
    ∃ x y c,xs[q.1]?=some x∧ys[q.1]?=some y∧eO q.2 x y=some c∧(c.den ρ=false→be.den ρ=false)∧(c.den ρ=true→∃ d,bA xs ys ls=some d∧be.den ρ=d.den ρ):=by
  rw [eqCells_cons] at h
  simp only [bR] at h
  split at h
  · rename_i x y hx hy
    split at h
    · rename_i c hc
      refine ⟨x,y,.lit c,hx,hy,hc,?_,?_⟩
      · intro hf; simp only [BE.den] at hf; subst hf; cases h; rfl
      · intro ht; simp only [BE.den] at ht; subst ht; exact ⟨be,h,rfl⟩
    · rename_i c _ hc
      split at h
      · rename_i d hd
        cases h
        refine ⟨x,y,c,hx,hy,hc,?_,?_⟩
        · intro hf; simp only [BE.den,hf,Bool.false_and]
        · intro ht; exact ⟨d,hd,by simp only [BE.den,ht,Bool.true_and]⟩
      · cases h
    · cases h
  · cases h
def cF (i:TI) (vs:List Value) (off:Nat) (u:Value):Prop :=
  if i.isAgg=true then u=.agg ((vs.drop off).take i.size).toArray else vs[off]?=some u
theorem part_sub {P : Program} {ty : Nat → Option TI} (T : ct P ty) {t : Nat} {j : TI} (ht : ty t = some j) {vs : List Value} {off o size : Nat} {u : Value} (h : cF j vs (off + o) u) (hle : o + j.size ≤ size) (h1 : 1 ≤ j.size) (w : World) :
    (part t ((vs.drop off).take size).toArray o).run P w=.ok u w:=by
  unfold cF at h
  unfold part
  simp only [Sem.run_bind,ia T ht,Result.andThen_ok]
  cases hagg:j.isAgg with
  | true =>
    rw [hagg,if_pos rfl] at h
    subst h
    simp only [if_true,Sem.run_bind,bq T ht,Result.andThen_ok,pure,Sem.run]
    congr 2
    apply Array.ext'
    simp only [Array.toList_extract,List.extract_eq_take_drop,List.drop_take,List.drop_drop,List.take_take]
    congr 1
    omega
  | false =>
    rw [hagg,if_neg (by simp)] at h
    simp only [Bool.false_eq_true,if_false]
    have:((vs.drop off).take size).toArray[o]?=some u:=by
      simp only [List.getElem?_toArray,List.getElem?_take,List.getElem?_drop]
      rw [if_pos (by omega),h]
    rw [this]
    rfl
def eqElems (d:Nat) (e:TypeId) (n:Nat) (xs ys:Array Value):List Nat→Sem Bool
  | []=>pure true
  | i :: l=>do
    let a ← part e xs (i * n)
    let b ← part e ys (i * n)
    let r ← Op.equalIn d e a b
    if (!r)=true then pure false else eqElems d e n xs ys l
theorem run_equalIn_array {P : Program} (w : World) (d t e len n : Nat) (xs ys : Array Value) (hu : P.underlying t = some (.array len e)) (hn : ∀ w, (sizeOf e).run P w = .ok n w) :
    (Op.equalIn (d + 1) t (.agg xs) (.agg ys)).run P w=(eqElems d e n xs ys (List.range' 0 len)).run P w:=by
  simp only [Op.equalIn,Sem.run_bind,run_underlying hu,Result.andThen_ok,hn]
  rw [Std.Legacy.Range.forIn_eq_forIn_range']
  have hs:(Std.Legacy.Range.size { stop:=len,step_pos:=Nat.zero_lt_one:Std.Legacy.Range })=len:=by simp [Std.Legacy.Range.size]
  rw [hs]
  show ((Sem.run P (forIn (List.range' 0 len 1) _ _) w).andThen _)=_
  generalize List.range' 0 len 1=l
  induction l generalizing w with
  | nil=>simp [eqElems]
  | cons i l ih =>
    simp only [List.forIn_cons,eqElems,Sem.run_bind,Sem.run_ite]
    generalize (part e xs (i * n)).run P w=r1
    cases r1 with
    | ok a w1 =>
      simp only [Result.andThen_ok]
      generalize (part e ys (i * n)).run P w1=r2
      cases r2 with
      | ok b w2 =>
        simp only [Result.andThen_ok]
        generalize (Op.equalIn d e a b).run P w2=r3
        cases r3 with
        | ok r w3 =>
          cases r
          · simp only [Result.andThen_ok,Bool.not_false,if_true,Sem.run_pure]
          · simp only [Result.andThen_ok,Bool.not_true,Bool.false_eq_true,if_false,Sem.run_pure]
            exact ih w3
        | halt x w3=>simp [Result.andThen]
      | halt x w2=>simp [Result.andThen]
    | halt x w1=>simp [Result.andThen]
def Says (ρ:Rho) (xs ys:List AV) (rest:List (Nat × Leaf)) (be:BE) (r:Bool):Prop :=
  (r=false→be.den ρ=false)∧(r=true→∃ e,bA xs ys rest=some e∧be.den ρ=e.den ρ)
theorem leavesF_cons {ty : Nat → Option TI} {g : TypeId → Nat → Option (List (Nat × Leaf))} {off size : Nat} {f : Field} {fs : List Field} {ls : List (Nat × Leaf)} (h : gd ty g off size (f :: fs) = some ls) :
    ∃ j a b,ty f.type=some j∧f.name ≠ "_"∧1≤j.size∧f.offset + j.size≤size∧g f.type (off + f.offset)=some a∧gd ty g off size fs=some b∧ls=a ++ b:=by
  simp only [gd] at h
  cases hj:ty f.type with
  | none=>rw [hj] at h; cases h
  | some j =>
    rw [hj] at h
    simp only at h
    cases hc:and (and (Bool.not (f.name == "_")) (Nat.ble 1 j.size)) (Nat.ble (f.offset + j.size) size) with
    | false=>rw [hc] at h; cases h
    | true =>
      rw [hc,cond_true] at h
      obtain ⟨c1,c2⟩:=Bool.and_eq_true_iff.1 hc
      obtain ⟨c1,c3⟩:=Bool.and_eq_true_iff.1 c1
      split at h
      · rename_i a b ha hb
        cases h
        exact ⟨j,a,b,rfl,by simpa using c1,aD.1 c3,aD.1 c2,ha,hb,rfl⟩
      · cases h
theorem leavesA_cons {g : Nat → Option (List (Nat × Leaf))} {size n off : Nat} {ls : List (Nat × Leaf)} (h : gf g size (n + 1) off = some ls) :
    ∃ a b,g off=some a∧gf g size n (off + size)=some b∧ls=a ++ b:=by
  simp only [gf] at h
  split at h
  · rename_i a b ha hb
    cases h
    exact ⟨a,b,ha,hb,rfl⟩
  · cases h
theorem eq_leaves {P : Program} {ty : Nat → Option TI} (T : ct P ty) (w : World) {E : Env} {xs ys : List AV} {vs us : List Value} (hx : ad E xs = some vs) (hy : ad E ys = some us) :
    ∀ (d t off:Nat) (ls:List (Nat × Leaf)) (i:TI),bI ty d t off=some ls→ty t=some i→∀ (D:Nat),d≤D→∀ (rest:List (Nat × Leaf)) (be:BE),bA xs ys (ls ++ rest)=some be →
      ∃ u v r,cF i vs off u∧cF i us off v∧(Op.equalIn D t u v).run P w=.ok r w∧Says E.ρ xs ys rest be r:=by
  intro d
  induction d with
  | zero=>intro t off ls i h; cases h
  | succ d ih =>
    intro t off ls i h ht D hD rest be he
    obtain ⟨D,rfl⟩:∃ D',D=D' + 1:=⟨D - 1,by omega⟩
    have hu:=T.und t i ht
    simp only [bI,ht] at h
    have leaf:∀ l:Leaf,LeafOf i.desc l→i.isAgg=false→ls=[(off,l)]→∃ u v r,cF i vs off u∧cF i us off v∧(Op.equalIn (D + 1) t u v).run P w=.ok r w∧Says E.ρ xs ys rest be r:=by
      intro l hl hagg e
      subst e
      obtain ⟨x,y,c,hx',hy',hc,hf,htt⟩:=fh he E.ρ
      obtain ⟨u,hu1,hu2⟩:=c9 hx hx'
      obtain ⟨v,hv1,hv2⟩:=c9 hy hy'
      refine ⟨u,v,c.den E.ρ,?_,?_,eqLeaf_ok hu hl hc hu1 hv1 D w,hf,htt⟩
      · unfold cF; rw [hagg,if_neg (by simp)]; exact hu2
      · unfold cF; rw [hagg,if_neg (by simp)]; exact hv2
    split at h
    · rename_i hd; exact leaf .bool hd (by unfold TI.isAgg; rw [hd]) (Option.some.inj h).symm
    · rename_i k hd; exact leaf .int ⟨k,hd⟩ (by unfold TI.isAgg; rw [hd]) (Option.some.inj h).symm
    · rename_i e hd; exact leaf .nilS ⟨e,hd⟩ (by unfold TI.isAgg; rw [hd]) (Option.some.inj h).symm
    · rename_i k e hd; exact leaf .nilM ⟨k,e,hd⟩ (by unfold TI.isAgg; rw [hd]) (Option.some.inj h).symm
    · rename_i e hd; exact leaf .nilP ⟨e,hd⟩ (by unfold TI.isAgg; rw [hd]) (Option.some.inj h).symm
    · rename_i x1 x2 x3 hd; exact leaf .nilF ⟨x1,x2,x3,hd⟩ (by unfold TI.isAgg; rw [hd]) (Option.some.inj h).symm
    · rename_i fs hd
      have hagg:i.isAgg=true:=by unfold TI.isAgg; rw [hd]
      cases hok:i.eqOk with
      | false=>rw [hok] at h; cases h
      | true =>
        rw [hok,cond_true] at h
        rw [hd] at hu
        have hfo:P.fieldsOf t=fs:=by unfold Program.fieldsOf; rw [hu]
        have hu':P.underlying t=some (.struct (P.fieldsOf t)):=by rw [hfo]; exact hu
        have key : ∀ (fl : List Field) (ls : List (Nat × Leaf)) (be : BE), gd ty (bI ty d) off i.size fl = some ls → bA xs ys (ls ++ rest) = some be →
            ∃ r,(Op.eqFields D ((vs.drop off).take i.size).toArray ((us.drop off).take i.size).toArray fl).run P w=.ok r w∧Says E.ρ xs ys rest be r:=by
          intro fl
          induction fl with
          | nil =>
            intro ls be hl he
            simp only [gd,Option.some.injEq] at hl
            subst hl
            exact ⟨true,rfl,fun e=>(by cases e),fun _=>⟨be,he,rfl⟩⟩
          | cons f fl ihf =>
            intro ls be hl he
            obtain ⟨j,a,b,hj,hname,h1,hle,ha,hb,rfl⟩:=leavesF_cons hl
            rw [List.append_assoc] at he
            obtain ⟨u,v,r,hpu,hpv,hrun,hs1,hs2⟩:=ih f.type (off + f.offset) a j ha hj D (by omega) (b ++ rest) be he
            have e1:=part_sub T hj hpu hle h1 w
            have e2:=part_sub T hj hpv hle h1 w
            simp only [Op.eqFields,if_pos hname,Sem.run_bind,e1,e2,hrun,Result.andThen_ok]
            cases r with
            | false=>exact ⟨false,rfl,fun _=>hs1 rfl,fun e=>(by cases e)⟩
            | true =>
              obtain ⟨e',he',hden⟩:=hs2 rfl
              obtain ⟨r',hrun',h1',h2'⟩:=ihf b e' hb he'
              exact ⟨r',by simpa using hrun',fun hr=>hden.trans (h1' hr),fun hr=>let ⟨e2,h3,h4⟩:=h2' hr; ⟨e2,h3,hden.trans h4⟩⟩
        obtain ⟨r,hrun,hs⟩:=key fs.toList ls be h he
        refine ⟨_,_,r,by unfold cF; rw [if_pos hagg],by unfold cF; rw [if_pos hagg],?_,hs⟩
        rw [run_equalIn_struct w D t _ _ hu' (T.eqOk t i ht hok).1,hfo]
        exact hrun
    · rename_i n e hd
      have hagg:i.isAgg=true:=by unfold TI.isAgg; rw [hd]
      cases hok:i.eqOk with
      | false=>rw [hok] at h; cases h
      | true =>
        rw [hok,cond_true] at h
        rw [hd] at hu
        cases hj:ty e with
        | none=>rw [hj] at h; cases h
        | some j =>
          rw [hj] at h
          simp only at h
          cases hc:and (Nat.ble 1 j.size) (Nat.ble (n * j.size) i.size) with
          | false=>rw [hc] at h; cases h
          | true =>
            rw [hc,cond_true] at h
            obtain ⟨c1,c2⟩:=Bool.and_eq_true_iff.1 hc
            have c1:=aD.1 c1
            have c2:=aD.1 c2
            have key : ∀ (m k : Nat) (ls : List (Nat × Leaf)) (be : BE), k + m = n → gf (bI ty d e) j.size m (off + k * j.size) = some ls → bA xs ys (ls ++ rest) = some be →
                ∃ r,(eqElems D e j.size ((vs.drop off).take i.size).toArray ((us.drop off).take i.size).toArray (List.range' k m)).run P w=.ok r w∧Says E.ρ xs ys rest be r:=by
              intro m
              induction m with
              | zero =>
                intro k ls be _ hl he
                simp only [gf,Option.some.injEq] at hl
                subst hl
                exact ⟨true,rfl,fun e=>(by cases e),fun _=>⟨be,he,rfl⟩⟩
              | succ m ihm =>
                intro k ls be hk hl he
                obtain ⟨a,b,ha,hb,rfl⟩:=leavesA_cons hl
                rw [List.append_assoc] at he
                obtain ⟨u,v,r,hpu,hpv,hrun,hs1,hs2⟩:=ih e (off + k * j.size) a j ha hj D (by omega) (b ++ rest) be he
                have hle:k * j.size + j.size≤i.size:=by
                  have:(k + 1) * j.size≤n * j.size:=Nat.mul_le_mul_right _ (by omega)
                  rw [Nat.succ_mul] at this
                  omega
                have e1:=part_sub T hj hpu hle c1 w
                have e2:=part_sub T hj hpv hle c1 w
                rw [show List.range' k (m + 1)=k :: List.range' (k + 1) m from by simp [List.range'_succ]]
                simp only [eqElems,Sem.run_bind,e1,e2,hrun,Result.andThen_ok]
                cases r with
                | false=>exact ⟨false,rfl,fun _=>hs1 rfl,fun e=>(by cases e)⟩
                | true =>
                  obtain ⟨e',he',hden⟩:=hs2 rfl
                  obtain ⟨r',hrun',h1',h2'⟩:=ihm (k + 1) b e' (by omega) (by rw [Nat.succ_mul,← Nat.add_assoc]; exact hb) he'
                  exact ⟨r',by simpa using hrun',fun hr=>hden.trans (h1' hr),fun hr=>let ⟨e2,h3,h4⟩:=h2' hr; ⟨e2,h3,hden.trans h4⟩⟩
            obtain ⟨r,hrun,hs⟩:=key n 0 ls be (by omega) (by simpa using h) he
            refine ⟨_,_,r,by unfold cF; rw [if_pos hagg],by unfold cF; rw [if_pos hagg],?_,hs⟩
            rw [run_equalIn_array w D t e n j.size _ _ hu (fun w=>bq T hj w)]
            exact hrun
    · cases h
theorem eqV_ok {P : Program} {ty : Nat → Option TI} (T : ct P ty) (w : World) {E : Env} {t : Nat} {i : TI} (ht : ty t = some i) {ls : List (Nat × Leaf)} (hl : bI ty 12 t 0 = some ls) {x y : AV} {be : BE} (h : eqV i.isAgg i.size ls x y = some be)
    {u v:Value} (hx:af E x=some u) (hy:af E y=some v):(Op.equal t u v).run P w=.ok (be.den E.ρ) w:=by
  unfold Op.equal
  unfold eqV at h
  have fin:∀ {xs ys:List AV} {r:Bool},Says E.ρ xs ys [] be r→r=be.den E.ρ:=by
    intro xs ys r hs
    cases r with
    | false=>exact (hs.1 rfl).symm
    | true =>
      obtain ⟨e,he,hd⟩:=hs.2 rfl
      rw [eqCells_nil] at he
      cases he
      exact hd.symm
  cases hagg:i.isAgg with
  | true =>
    rw [hagg,cond_true] at h
    split at h
    · rename_i xs ys
      obtain ⟨vs,hvs,rfl⟩:=er hx
      obtain ⟨us,hus,rfl⟩:=er hy
      have hc:and (Nat.beq (lLen xs) i.size) (Nat.beq (lLen ys) i.size)=true:=by
        cases hb:and (Nat.beq (lLen xs) i.size) (Nat.beq (lLen ys) i.size) with
        | true=>rfl
        | false=>rw [hb] at h; cases h
      rw [hc,cond_true] at h
      obtain ⟨c1,c2⟩:=Bool.and_eq_true_iff.1 hc
      rw [cM] at c1 c2
      rw [← List.append_nil ls] at h
      obtain ⟨u',v',r,hpu,hpv,hrun,hs⟩:=eq_leaves T w hvs hus 12 t 0 ls i hl ht Op.maxDepth (by decide) [] be h
      unfold cF at hpu hpv
      rw [if_pos hagg] at hpu hpv
      have l1:vs.length=i.size:=by rw [bD hvs]; exact aq.1 c1
      have l2:us.length=i.size:=by rw [bD hus]; exact aq.1 c2
      rw [List.drop_zero,← l1,List.take_length] at hpu
      rw [List.drop_zero,← l2,List.take_length] at hpv
      rw [hpu,hpv] at hrun
      rw [hrun,fin hs]
    · cases h
  | false =>
    rw [hagg,cond_false] at h
    have hxy:bA [x] [y] ls=some be:=by
      revert h
      split
      · intro h; cases h
      · intro h; cases h
      · exact fun h=>h
    rw [← List.append_nil ls] at hxy
    obtain ⟨u',v',r,hpu,hpv,hrun,hs⟩:=eq_leaves T w (xs:=[x]) (ys:=[y]) (ap.2 ⟨u,[],hx,rfl,rfl⟩) (ap.2 ⟨v,[],hy,rfl,rfl⟩) 12 t 0 ls i hl ht Op.maxDepth (by decide) [] be hxy
    unfold cF at hpu hpv
    rw [hagg,if_neg (by simp)] at hpu hpv
    simp only [List.getElem?_cons_zero,Option.some.injEq] at hpu hpv
    subst hpu; subst hpv
    rw [hrun,fin hs]
end Go.Sx
namespace Go.Sx
open Go.RowKit
def EqPlain (u v:Value):Prop :=
  (∀ t x y,eqGuard .eql t x y u v=pure ()∧eqGuard .neq t x y u v=pure ()) ∧
  (∀ t,binOp .eql t u v=(do let b ← Op.equal t u v; pure (.bool b))∧binOp .neq t u v=(do let b ← Op.equal t u v; pure (.bool !b)))
theorem eqLeaf_plain {l:Leaf} {x y:AV} {be:BE} (h:eO l x y=some be) (hl:l ≠ .int) {E:Env} {u v:Value} (hx:af E x=some u) (hy:af E y=some v):EqPlain u v:=by
  unfold eO at h
  split at h
  · exact absurd rfl hl
  · split at h
    · simp only [af,Option.some.injEq] at hx hy; subst hx; subst hy; exact ⟨fun _ _ _=>⟨rfl,rfl⟩,fun _=>⟨rfl,rfl⟩⟩
    · cases h
  · split at h
    · simp only [af,Option.some.injEq] at hx hy; subst hx; subst hy; exact ⟨fun _ _ _=>⟨rfl,rfl⟩,fun _=>⟨rfl,rfl⟩⟩
    · obtain ⟨q,_,rfl⟩:=b6 hy; simp only [af,Option.some.injEq] at hx; subst hx; exact ⟨fun _ _ _=>⟨rfl,rfl⟩,fun _=>⟨rfl,rfl⟩⟩
    · obtain ⟨q,_,_,rfl⟩:=bt hy; simp only [af,Option.some.injEq] at hx; subst hx; exact ⟨fun _ _ _=>⟨rfl,rfl⟩,fun _=>⟨rfl,rfl⟩⟩
    · obtain ⟨q,_,rfl⟩:=b6 hx; simp only [af,Option.some.injEq] at hy; subst hy; exact ⟨fun _ _ _=>⟨rfl,rfl⟩,fun _=>⟨rfl,rfl⟩⟩
    · obtain ⟨q,_,_,rfl⟩:=bt hx; simp only [af,Option.some.injEq] at hy; subst hy; exact ⟨fun _ _ _=>⟨rfl,rfl⟩,fun _=>⟨rfl,rfl⟩⟩
    · cases h
  · split at h
    · simp only [af,Option.some.injEq] at hx hy; subst hx; subst hy; exact ⟨fun _ _ _=>⟨rfl,rfl⟩,fun _=>⟨rfl,rfl⟩⟩
    · obtain ⟨q,_,rfl⟩:=cn hy; simp only [af,Option.some.injEq] at hx; subst hx; exact ⟨fun _ _ _=>⟨rfl,rfl⟩,fun _=>⟨rfl,rfl⟩⟩
    · obtain ⟨q,_,rfl⟩:=cn hx; simp only [af,Option.some.injEq] at hy; subst hy; exact ⟨fun _ _ _=>⟨rfl,rfl⟩,fun _=>⟨rfl,rfl⟩⟩
    · cases h
  · split at h
    · simp only [af,Option.some.injEq] at hx hy; subst hx; subst hy; exact ⟨fun _ _ _=>⟨rfl,rfl⟩,fun _=>⟨rfl,rfl⟩⟩
    · obtain ⟨q,_,rfl⟩:=cJ hy; simp only [af,Option.some.injEq] at hx; subst hx; exact ⟨fun _ _ _=>⟨rfl,rfl⟩,fun _=>⟨rfl,rfl⟩⟩
    · obtain ⟨q,_,rfl⟩:=cJ hx; simp only [af,Option.some.injEq] at hy; subst hy; exact ⟨fun _ _ _=>⟨rfl,rfl⟩,fun _=>⟨rfl,rfl⟩⟩
    · cases h
  · split at h
    · simp only [af,Option.some.injEq] at hx hy; subst hx; subst hy; exact ⟨fun _ _ _=>⟨rfl,rfl⟩,fun _=>⟨rfl,rfl⟩⟩
    · obtain ⟨_,_,_,rfl⟩:=func_conc hy; simp only [af,Option.some.injEq] at hx; subst hx; exact ⟨fun _ _ _=>⟨rfl,rfl⟩,fun _=>⟨rfl,rfl⟩⟩
    · obtain ⟨_,_,_,rfl⟩:=func_conc hx; simp only [af,Option.some.injEq] at hy; subst hy; exact ⟨fun _ _ _=>⟨rfl,rfl⟩,fun _=>⟨rfl,rfl⟩⟩
    · obtain ⟨_,_,rfl⟩:=fJ hy; simp only [af,Option.some.injEq] at hx; subst hx; exact ⟨fun _ _ _=>⟨rfl,rfl⟩,fun _=>⟨rfl,rfl⟩⟩
    · obtain ⟨_,_,rfl⟩:=fJ hx; simp only [af,Option.some.injEq] at hy; subst hy; exact ⟨fun _ _ _=>⟨rfl,rfl⟩,fun _=>⟨rfl,rfl⟩⟩
    · cases h
theorem leaves_one {ty:Nat→Option TI} {t:Nat} {i:TI} (ht:ty t=some i) {ls:List (Nat × Leaf)} (h:bI ty 12 t 0=some ls) (ha:i.isAgg=false) (hi:isInt i=false):∃ l,ls=[(0,l)]∧l ≠ .int:=by
  simp only [bI,ht] at h
  unfold TI.isAgg at ha
  unfold isInt at hi
  split at h
  · exact ⟨_,(Option.some.inj h).symm,by simp⟩
  · rename_i k hd; rw [hd] at hi; cases hi
  · exact ⟨_,(Option.some.inj h).symm,by simp⟩
  · exact ⟨_,(Option.some.inj h).symm,by simp⟩
  · exact ⟨_,(Option.some.inj h).symm,by simp⟩
  · exact ⟨_,(Option.some.inj h).symm,by simp⟩
  · rename_i fs hd; rw [hd] at ha; cases ha
  · rename_i n e hd; rw [hd] at ha; cases ha
  · cases h
theorem leaves_eqOk {ty:Nat→Option TI} {t:Nat} {i:TI} (ht:ty t=some i) {ls:List (Nat × Leaf)} (h:bI ty 12 t 0=some ls) (ha:i.isAgg=true):i.eqOk=true:=by
  simp only [bI,ht] at h
  unfold TI.isAgg at ha
  split at h
  · rename_i hd; rw [hd] at ha; cases ha
  · rename_i k hd; rw [hd] at ha; cases ha
  · rename_i k hd; rw [hd] at ha; cases ha
  · rename_i k e hd; rw [hd] at ha; cases ha
  · rename_i k hd; rw [hd] at ha; cases ha
  · rename_i k1 k2 k3 hd; rw [hd] at ha; cases ha
  · cases hok:i.eqOk with
    | true=>rfl
    | false=>rw [hok] at h; cases h
  · cases hok:i.eqOk with
    | true=>rfl
    | false=>rw [hok] at h; cases h
  · cases h
theorem eq_ok {p : Par} {ty : Nat → Option TI} (T : ct p.P ty) {t t' : Nat} {i : TI} (ht : ty t = some i) (hi : isInt i = false) {ls : List (Nat × Leaf)} (hl : bI ty 12 t 0 = some ls) {ng : Bool} {x1 x2 : Operand} {y1 y2 : Opd}
    (h1:bk x1=some y1) (h2:bk x2=some y2) {o:Oper} (ho:o.op=.binOp (if ng then .neq else .eql) t x1 x2 t'):bC p (iEq ng i.isAgg i.size ls y1 y2) o:=by
  intro cx n keep E w0 tm h a w Q K _ HT HH k P
  obtain ⟨r,hr,q⟩:=aV k
  have hex:execOp a.eval o=(do let x ← (do eqGuard (if ng then .neq else .eql) t x1 x2 (a.eval x1) (a.eval x2); binOp (if ng then .neq else .eql) t (a.eval x1) (a.eval x2)); pure (Next.value x)):=by unfold execOp; rw [ho]
  rw [hex]
  unfold aeq at hr
  split at hr
  · rename_i be hbe
    cases hr
    have main : ∀ {u v : Value}, af E (ev tm y1) = some u → af E (ev tm y2) = some v →
        (((eqGuard (if ng then .neq else .eql) t x1 x2 u v).run p.P w=.ok () w)∧binOp (if ng then .neq else .eql) t u v=(do let b ← Op.equal t u v; pure (.bool (if ng then !b else b)))) →
        Does p.P ((do let x ← (do eqGuard (if ng then .neq else .eql) t x1 x2 (a.eval x1) (a.eval x2); binOp (if ng then .neq else .eql) t (a.eval x1) (a.eval x2)); pure (Next.value x):Sem Next).run p.P w) K:=by
      intro u v hu hv ⟨g1,g2⟩
      rw [bJ HT h1 hu HH.glob,bJ HT h2 hv HH.glob]
      have heq:=eqV_ok T w ht hl hbe hu hv
      refine ai (v:=.bool (if ng then !(be.den E.ρ) else be.den E.ρ)) (w':=w) ?_ (P.same HH q ?_)
      · simp only [Sem.run_bind,g1,Result.andThen_ok,g2,heq]
        rfl
      · cases ng
        · rfl
        · simp [af,mkNot_den]
    cases hagg:i.isAgg with
    | true =>
      have hbe':=hbe
      unfold eqV at hbe'
      rw [hagg,cond_true] at hbe'
      split at hbe'
      · rename_i xs ys e1 e2
        have hb1:=ax HT h1 (by rw [e1]; rfl) HH.glob
        have hb2:=ax HT h2 (by rw [e2]; rfl) HH.glob
        have hb1':=hb1
        have hb2':=hb2
        rw [e1] at hb1'
        rw [e2] at hb2'
        obtain ⟨vs,hvs,ev1⟩:=er hb1'
        obtain ⟨us,hus,ev2⟩:=er hb2'
        refine main hb1 hb2 ?_
        rw [ev1,ev2]
        have hg:=(T.eqOk t i ht (leaves_eqOk ht hl hagg)).2
        refine ⟨?_,?_⟩
        · exact run_eqGuard_agg w _ t x1 x2 _ _ hg
        · cases ng <;> rfl
      · cases hbe'
    | false =>
      obtain ⟨l,rfl,hne⟩:=leaves_one ht hl hagg hi
      have hbe':=hbe
      unfold eqV at hbe'
      rw [hagg,cond_false] at hbe'
      have hxy:bA [ev tm y1] [ev tm y2] [(0,l)]=some be:=by
        revert hbe'
        split
        · intro h; cases h
        · intro h; cases h
        · exact fun h=>h
      obtain ⟨x,y,c,hx',hy',hc,_,_⟩:=fh hxy E.ρ
      simp only [List.getElem?_cons_zero,Option.some.injEq] at hx' hy'
      subst hx'; subst hy'
      have nb:aT (ev tm y1)=true∧aT (ev tm y2)=true:=by
        unfold eO at hc
        constructor
        · cases hz:ev tm y1 <;> first | rfl | (rw [hz] at hc; cases l <;> simp at hc)
        · cases hz:ev tm y2 <;> first | rfl | (rw [hz] at hc; cases l <;> cases ev tm y1 <;> simp at hc)
      have hu:=ax HT h1 nb.1 HH.glob
      have hv:=ax HT h2 nb.2 HH.glob
      have hpl:=eqLeaf_plain hc hne hu hv
      refine main hu hv ⟨?_,?_⟩
      · cases ng
        · rw [if_neg (by simp),(hpl.1 t x1 x2).1]; rfl
        · rw [if_pos rfl,(hpl.1 t x1 x2).2]; rfl
      · cases ng
        · exact (hpl.2 t).1
        · exact (hpl.2 t).2
  · cases hr
theorem mkCmp_self {a:IE} {c:BE} (h:mkCmp .eql a a=some c) (ρ:Rho):c.den ρ=true:=by
  obtain ⟨_,hd⟩:=mkCmp_den (ρ:=ρ) h
  rw [hd]; simp [aS]
theorem eqLeaf_self {l:Leaf} {x:AV} {c:BE} (h:eO l x x=some c) (ρ:Rho):c.den ρ=true:=by
  unfold eO at h
  cases l <;> cases x <;> simp only at h <;> first | (cases h; done) | skip
  · rename_i k e
    cases hk:dv k k with
    | false=>rw [hk] at h; cases h
    | true=>rw [hk,cond_true] at h; exact mkCmp_self h ρ
  · cases h; rw [mkIff_den]; simp
  all_goals (cases h; rfl)
def cQ (P:Program) (em:Bool) (D:Nat) (t:Nat) (u:Value) (w:World):Prop:=(Instr.checkKey em D t u).run P w=.ok () w
theorem run_check_struct {P : Program} (w : World) (em : Bool) (D t : Nat) (cs : Array Value) (fs : Array Field) (hu : P.underlying t = some (.struct fs)) :
    (∀ f ∈ fs.toList,f.name ≠ "_"→∃ u,(part f.type cs f.offset).run P w=.ok u w∧cQ P em D f.type u w)→cQ P em (D + 1) t (.agg cs) w:=by
  intro h
  unfold cQ Instr.checkKey
  simp only [Sem.run_bind,run_underlying hu,Result.andThen_ok]
  rw [← Array.forIn_toList]
  generalize fs.toList=l at h
  have : (Sem.run P (forIn l PUnit.unit fun f _ => do
      if f.name ≠ "_" then do
        let x ← part f.type cs f.offset
        Instr.checkKey em D f.type x
        pure (ForInStep.yield PUnit.unit)
      else pure (ForInStep.yield PUnit.unit)) w)=.ok PUnit.unit w:=by
    induction l with
    | nil=>rfl
    | cons f l ih =>
      simp only [List.forIn_cons,Sem.run_bind,Sem.run_ite]
      have ih':=ih (fun g hg=>h g (by simp [hg]))
      split
      · rename_i hn
        obtain ⟨u,h1,h2⟩:=h f (by simp) hn
        unfold cQ at h2
        simp only [h1,h2,Result.andThen_ok,Sem.run_pure]
        exact ih'
      · simp only [Sem.run_pure,Result.andThen_ok]
        exact ih'
  rw [this]
  rfl
theorem run_check_array {P : Program} (w : World) (em : Bool) (D t e len n : Nat) (cs : Array Value) (hu : P.underlying t = some (.array len e)) (hn : ∀ w, (sizeOf e).run P w = .ok n w) :
    (∀ k,k < len→∃ u,(part e cs (k * n)).run P w=.ok u w∧cQ P em D e u w)→cQ P em (D + 1) t (.agg cs) w:=by
  intro h
  unfold cQ Instr.checkKey
  simp only [Sem.run_bind,run_underlying hu,Result.andThen_ok]
  rw [Std.Legacy.Range.forIn_eq_forIn_range']
  have hs:(Std.Legacy.Range.size { stop:=len,step_pos:=Nat.zero_lt_one:Std.Legacy.Range })=len:=by simp [Std.Legacy.Range.size]
  rw [hs]
  have h':∀ k ∈ List.range' 0 len 1,∃ u,(part e cs (k * n)).run P w=.ok u w∧cQ P em D e u w:=fun k hk=>h k (by simp at hk; omega)
  have : (Sem.run P (forIn (List.range' 0 len 1) PUnit.unit fun i _ => do
      let s ← sizeOf e
      let x ← part e cs (i * s)
      Instr.checkKey em D e x
      pure (ForInStep.yield PUnit.unit)) w)=.ok PUnit.unit w:=by
    revert h'
    generalize List.range' 0 len 1=l
    intro h'
    induction l with
    | nil=>rfl
    | cons k l ih =>
      obtain ⟨u,h1,h2⟩:=h' k (by simp)
      unfold cQ at h2
      simp only [List.forIn_cons,Sem.run_bind,hn,h1,h2,Result.andThen_ok,Sem.run_pure]
      exact ih (fun g hg=>h' g (by simp [hg]))
  refine Eq.trans (b:=(Result.ok PUnit.unit w).andThen fun _ w'=>Sem.run P (pure ()) w') ?_ rfl
  rw [← this]
theorem check_leaf {P:Program} {t:Nat} {d:TypeDesc} (hu:P.underlying t=some d) {l:Leaf} (hl:LeafOf d l) (u:Value) (em:Bool) (D:Nat) (w:World):cQ P em (D + 1) t u w:=by
  unfold cQ Instr.checkKey
  simp only [Sem.run_bind,run_underlying hu,Result.andThen_ok]
  cases l
  · obtain ⟨k,rfl⟩:=hl; cases u <;> rfl
  · have:d=.bool:=hl
    subst this; cases u <;> rfl
  · obtain ⟨e,rfl⟩:=hl; cases u <;> rfl
  · obtain ⟨k,e,rfl⟩:=hl; cases u <;> rfl
  · obtain ⟨e,rfl⟩:=hl; cases u <;> rfl
  · obtain ⟨_,_,_,rfl⟩:=hl; cases u <;> rfl
theorem check_leaves {P : Program} {ty : Nat → Option TI} (T : ct P ty) (w : World) (em : Bool) {E : Env} {xs : List AV} {vs : List Value} (hx : ad E xs = some vs) :
    ∀ (d t off:Nat) (ls:List (Nat × Leaf)) (i:TI),bI ty d t off=some ls→ty t=some i→∀ (D:Nat),d≤D→∀ (rest:List (Nat × Leaf)) (be:BE),bA xs xs (ls ++ rest)=some be →
      ∃ u,cF i vs off u∧cQ P em D t u w∧∃ e,bA xs xs rest=some e:=by
  intro d
  induction d with
  | zero=>intro t off ls i h; cases h
  | succ d ih =>
    intro t off ls i h ht D hD rest be he
    obtain ⟨D,rfl⟩:∃ D',D=D' + 1:=⟨D - 1,by omega⟩
    have hu:=T.und t i ht
    simp only [bI,ht] at h
    have leaf:∀ l:Leaf,LeafOf i.desc l→i.isAgg=false→ls=[(off,l)]→∃ u,cF i vs off u∧cQ P em (D + 1) t u w∧∃ e,bA xs xs rest=some e:=by
      intro l hl hagg e
      subst e
      obtain ⟨x,y,c,hx',hy',hc,hf,htt⟩:=fh he E.ρ
      rw [hx'] at hy'
      cases hy'
      obtain ⟨u,hu1,hu2⟩:=c9 hx hx'
      obtain ⟨e',he',_⟩:=htt (eqLeaf_self hc E.ρ)
      exact ⟨u,by unfold cF; rw [hagg,if_neg (by simp)]; exact hu2,check_leaf hu hl u em D w,e',he'⟩
    split at h
    · rename_i hd; exact leaf .bool hd (by unfold TI.isAgg; rw [hd]) (Option.some.inj h).symm
    · rename_i k hd; exact leaf .int ⟨k,hd⟩ (by unfold TI.isAgg; rw [hd]) (Option.some.inj h).symm
    · rename_i e hd; exact leaf .nilS ⟨e,hd⟩ (by unfold TI.isAgg; rw [hd]) (Option.some.inj h).symm
    · rename_i k e hd; exact leaf .nilM ⟨k,e,hd⟩ (by unfold TI.isAgg; rw [hd]) (Option.some.inj h).symm
    · rename_i e hd; exact leaf .nilP ⟨e,hd⟩ (by unfold TI.isAgg; rw [hd]) (Option.some.inj h).symm
    · rename_i x1 x2 x3 hd; exact leaf .nilF ⟨x1,x2,x3,hd⟩ (by unfold TI.isAgg; rw [hd]) (Option.some.inj h).symm
    · rename_i fs hd
      have hagg:i.isAgg=true:=by unfold TI.isAgg; rw [hd]
      cases hok:i.eqOk with
      | false=>rw [hok] at h; cases h
      | true =>
        rw [hok,cond_true] at h
        rw [hd] at hu
        have key : ∀ (fl : List Field) (ls : List (Nat × Leaf)) (be : BE), gd ty (bI ty d) off i.size fl = some ls → bA xs xs (ls ++ rest) = some be →
            (∀ f ∈ fl,f.name ≠ "_"→∃ u,(part f.type ((vs.drop off).take i.size).toArray f.offset).run P w=.ok u w∧cQ P em D f.type u w)∧∃ e,bA xs xs rest=some e:=by
          intro fl
          induction fl with
          | nil =>
            intro ls be hl he
            simp only [gd,Option.some.injEq] at hl
            subst hl
            exact ⟨fun f hf=>(by cases hf),be,he⟩
          | cons f fl ihf =>
            intro ls be hl he
            obtain ⟨j,a,b,hj,hname,h1,hle,ha,hb,rfl⟩:=leavesF_cons hl
            rw [List.append_assoc] at he
            obtain ⟨u,hpu,hck,e',he'⟩:=ih f.type (off + f.offset) a j ha hj D (by omega) (b ++ rest) be he
            obtain ⟨h2,h3⟩:=ihf b e' hb he'
            refine ⟨fun g hg hn=>?_,h3⟩
            rcases List.mem_cons.1 hg with rfl | hg
            · exact ⟨u,part_sub T hj hpu hle h1 w,hck⟩
            · exact h2 g hg hn
        obtain ⟨hp,he'⟩:=key fs.toList ls be h he
        exact ⟨_,by unfold cF; rw [if_pos hagg],run_check_struct w em D t _ fs hu hp,he'⟩
    · rename_i n e hd
      have hagg:i.isAgg=true:=by unfold TI.isAgg; rw [hd]
      cases hok:i.eqOk with
      | false=>rw [hok] at h; cases h
      | true =>
        rw [hok,cond_true] at h
        rw [hd] at hu
        cases hj:ty e with
        | none=>rw [hj] at h; cases h
        | some j =>
          rw [hj] at h
          simp only at h
          cases hc:and (Nat.ble 1 j.size) (Nat.ble (n * j.size) i.size) with
          | false=>rw [hc] at h; cases h
          | true =>
            rw [hc,cond_true] at h
            obtain ⟨c1,c2⟩:=Bool.and_eq_true_iff.1 hc
            have c1:=aD.1 c1
            have c2:=aD.1 c2
            have key : ∀ (m k : Nat) (ls : List (Nat × Leaf)) (be : BE), k + m = n → gf (bI ty d e) j.size m (off + k * j.size) = some ls → bA xs xs (ls ++ rest) = some be →
                (∀ q,k≤q→q < n→∃ u,(part e ((vs.drop off).take i.size).toArray (q * j.size)).run P w=.ok u w∧cQ P em D e u w)∧∃ e,bA xs xs rest=some e:=by
              intro m
              induction m with
              | zero =>
                intro k ls be hk hl he
                simp only [gf,Option.some.injEq] at hl
                subst hl
                exact ⟨fun q h1 h2=>absurd h2 (by omega),be,he⟩
              | succ m ihm =>
                intro k ls be hk hl he
                obtain ⟨a,b,ha,hb,rfl⟩:=leavesA_cons hl
                rw [List.append_assoc] at he
                obtain ⟨u,hpu,hck,e',he'⟩:=ih e (off + k * j.size) a j ha hj D (by omega) (b ++ rest) be he
                have hle:k * j.size + j.size≤i.size:=by
                  have:(k + 1) * j.size≤n * j.size:=Nat.mul_le_mul_right _ (by omega)
                  rw [Nat.succ_mul] at this
                  omega
                obtain ⟨h2,h3⟩:=ihm (k + 1) b e' (by omega) (by rw [Nat.succ_mul,← Nat.add_assoc]; exact hb) he'
                refine ⟨fun q h4 h5=>?_,h3⟩
                by_cases hq:q=k
                · subst hq; exact ⟨u,part_sub T hj hpu hle c1 w,hck⟩
                · exact h2 q (by omega) h5
            obtain ⟨hp,he'⟩:=key n 0 ls be (by omega) (by simpa using h) he
            exact ⟨_,by unfold cF; rw [if_pos hagg],run_check_array w em D t e n j.size _ hu (fun w=>bq T hj w) (fun k hk=>hp k (by omega) hk),he'⟩
    · cases h
theorem eqV_agg {n:Nat} {ls:List (Nat × Leaf)} {x y:AV} {be:BE} (h:eqV true n ls x y=some be):∃ xs ys,x=.agg xs∧y=.agg ys∧xs.length=n∧ys.length=n∧bA xs ys ls=some be:=by
  unfold eqV at h
  rw [cond_true] at h
  split at h
  · rename_i xs ys
    cases hb:and (Nat.beq (lLen xs) n) (Nat.beq (lLen ys) n) with
    | false=>rw [hb] at h; cases h
    | true =>
      rw [hb,cond_true] at h
      obtain ⟨c1,c2⟩:=Bool.and_eq_true_iff.1 hb
      rw [cM] at c1 c2
      exact ⟨xs,ys,rfl,rfl,aq.1 c1,aq.1 c2,h⟩
  · cases h
theorem eqV_one {n:Nat} {ls:List (Nat × Leaf)} {x y:AV} {be:BE} (h:eqV false n ls x y=some be):bA [x] [y] ls=some be:=by
  unfold eqV at h
  rw [cond_false] at h
  revert h
  split
  · intro h; cases h
  · intro h; cases h
  · exact fun h=>h
theorem key_check {P : Program} {ty : Nat → Option TI} (T : ct P ty) (w : World) (em : Bool) {E : Env} {t : Nat} {i : TI} (ht : ty t = some i) {ls : List (Nat × Leaf)} (hl : bI ty 12 t 0 = some ls) {x : AV} (h : keyOk i.isAgg i.size ls x = true)
    {u:Value} (hx:af E x=some u):(Instr.checkKey em 10000 t u).run P w=.ok () w:=by
  unfold keyOk at h
  split at h
  · rename_i be hbe
    cases hagg:i.isAgg with
    | true =>
      rw [hagg] at hbe
      obtain ⟨xs,ys,rfl,e2,l1,_,hc⟩:=eqV_agg hbe
      cases e2
      obtain ⟨vs,hvs,rfl⟩:=er hx
      rw [← List.append_nil ls] at hc
      obtain ⟨u',hp,hck,_⟩:=check_leaves T w em hvs 12 t 0 ls i hl ht 10000 (by decide) [] be hc
      unfold cF at hp
      rw [if_pos hagg,List.drop_zero,← l1,← bD hvs,List.take_length] at hp
      rw [← hp]
      exact hck
    | false =>
      rw [hagg] at hbe
      have hc:=eqV_one hbe
      rw [← List.append_nil ls] at hc
      obtain ⟨u',hp,hck,_⟩:=check_leaves T w em (xs:=[x]) (ap.2 ⟨u,[],hx,rfl,rfl⟩) 12 t 0 ls i hl ht 10000 (by decide) [] be hc
      unfold cF at hp
      rw [hagg,if_neg (by simp)] at hp
      simp only [List.getElem?_cons_zero,Option.some.injEq] at hp
      subst hp
      exact hck
  · cases h
theorem findKeyA_cons (whole : Bool) (n : Nat) (ls : List (Nat × Leaf)) (k : AV) (e : AV × AV × Nat) (es : List (AV × AV × Nat)) (i : Nat) : bn whole n ls k (e :: es) i =
    (match eqV whole n ls k e.1 with
      | some (.lit c)=>cond c (some (some (i,e.2.1))) (bn whole n ls k es (Nat.succ i))
      | _=>none):=rfl
def FoundAs (E:Env) (r:Option (Nat × AV)) (r':Option (Nat × Value)):Prop :=
  match r,r' with
  | none,none=>True
  | some p,some q=>p.1=q.1∧af E p.2=some q.2
  | _,_=>False
theorem find_step {whole : Bool} {n : Nat} {ls : List (Nat × Leaf)} {k : AV} {e : AV × AV × Nat} {es : List (AV × AV × Nat)} {i : Nat} {r : Option (Nat × AV)} (h : bn whole n ls k (e :: es) i = some r) :
    ∃ c,eqV whole n ls k e.1=some (.lit c)∧((c=true∧r=some (i,e.2.1)) ∨ (c=false∧bn whole n ls k es (i + 1)=some r)):=by
  rw [findKeyA_cons] at h
  split at h
  · rename_i c hc
    refine ⟨c,hc,?_⟩
    cases c with
    | true=>exact .inl ⟨rfl,(Option.some.inj h).symm⟩
    | false=>exact .inr ⟨rfl,h⟩
  · cases h
theorem findAsking_ok {P : Program} {ty : Nat → Option TI} (T : ct P ty) (w : World) {E : Env} {t : Nat} {ti : TI} (ht : ty t = some ti) {ls : List (Nat × Leaf)} (hl : bI ty 12 t 0 = some ls) {k : AV} {kv : Value} (hk : af E k = some kv) :
    ∀ (es:List (AV × AV × Nat)) (ms:List MapEntry) (i:Nat) (r:Option (Nat × AV)),bG E es ms→bn ti.isAgg ti.size ls k es i=some r→∃ r',FoundAs E r r'∧(Instr.findAsking t kv ms i).run P w=.ok r' w
  | [],[],i,r,_,h=>by
    have:r=none:=(Option.some.inj h).symm
    subst this
    exact ⟨none,trivial,rfl⟩
  | e :: es,m :: ms,i,r,⟨h1,h2,h3,h4⟩,h=>by
    obtain ⟨c,hc,hr⟩:=find_step h
    have heq:=eqV_ok T w ht hl hc hk h1
    simp only [BE.den] at heq
    rcases hr with ⟨rfl,rfl⟩ | ⟨rfl,hr⟩
    · refine ⟨some (i,m.val),⟨rfl,h2⟩,?_⟩
      simp only [Instr.findAsking,Sem.run_bind,heq,Result.andThen_ok,if_true]
      rfl
    · obtain ⟨r',hf,hrun⟩:=findAsking_ok T w ht hl hk es ms (i + 1) r h4 hr
      refine ⟨r',hf,?_⟩
      simp only [Instr.findAsking,Sem.run_bind,heq,Result.andThen_ok,Bool.false_eq_true,if_false]
      exact hrun
theorem sameNow_eq {P:Program} {t:Nat} {d:TypeDesc} (hu:P.underlying t=some d) {u v:Value} {b c:Bool} {w:World} (h:Instr.sameNow d u v=some b) (he:(Op.equal t u v).run P w=.ok c w):b=c:=by
  unfold Op.equal at he
  rw [show Op.maxDepth=9999 + 1 from rfl] at he
  generalize (9999:Nat)=D at he
  unfold Instr.sameNow at h
  split at h
  · rename_i k a k' b' 
    split at h
    · rename_i hk
      subst hk
      cases h
      simp only [Op.equalIn,Sem.run_bind,run_underlying hu,Result.andThen_ok,if_true,pure,Sem.run] at he
      cases he; rfl
    · cases h
  · cases h
    simp only [Op.equalIn,Sem.run_bind,run_underlying hu,Result.andThen_ok,pure,Sem.run] at he
    cases he; rfl
  · cases h
    simp only [Op.equalIn,Sem.run_bind,run_underlying hu,Result.andThen_ok,pure,Sem.run] at he
    cases he; rfl
  · cases h
theorem findNow_ok {P : Program} {ty : Nat → Option TI} (T : ct P ty) (w : World) {E : Env} {t : Nat} {ti : TI} (ht : ty t = some ti) {ls : List (Nat × Leaf)} (hl : bI ty 12 t 0 = some ls) {k : AV} {kv : Value} (hk : af E k = some kv) :
    ∀ (es:List (AV × AV × Nat)) (ms:List MapEntry) (i:Nat) (r:Option (Nat × AV)) (r':Option (Nat × Value)),bG E es ms→bn ti.isAgg ti.size ls k es i=some r→Instr.findNow ti.desc kv ms i=some r'→FoundAs E r r'
  | [],[],i,r,r',_,h,h'=>by
    have:r=none:=(Option.some.inj h).symm
    subst this
    have:r'=none:=(Option.some.inj h').symm
    subst this
    trivial
  | e :: es,m :: ms,i,r,r',⟨h1,h2,h3,h4⟩,h,h'=>by
    obtain ⟨c,hc,hr⟩:=find_step h
    have heq:=eqV_ok T w ht hl hc hk h1
    simp only [BE.den] at heq
    have hu:=T.und t ti ht
    simp only [Instr.findNow] at h'
    split at h'
    · rename_i hs
      have:=sameNow_eq hu hs heq
      subst this
      rcases hr with ⟨_,rfl⟩ | ⟨hf,_⟩
      · cases h'; exact ⟨rfl,h2⟩
      · cases hf
    · rename_i hs
      have:=sameNow_eq hu hs heq
      subst this
      rcases hr with ⟨hf,_⟩ | ⟨_,hr⟩
      · cases hf
      · exact findNow_ok T w ht hl hk es ms (i + 1) r r' h4 hr h'
    · cases h'
theorem cp {P : Program} {ty : Nat → Option TI} (T : ct P ty) (w : World) {E : Env} {t : Nat} {ti : TI} (ht : ty t = some ti) {ls : List (Nat × Leaf)} (hl : bI ty 12 t 0 = some ls) {k : AV} {kv : Value} (hk : af E k = some kv)
    {es:List (AV × AV × Nat)} {ms:List MapEntry} {r:Option (Nat × AV)} (he:bG E es ms) (h:bn ti.isAgg ti.size ls k es 0=some r):∃ r',FoundAs E r r'∧(Instr.findKey t kv ms).run P w=.ok r' w:=by
  unfold Instr.findKey
  simp only [Sem.run_bind,run_underlying (T.und t ti ht),Result.andThen_ok]
  cases hn:Instr.findNow ti.desc kv ms 0 with
  | some r'=>exact ⟨r',findNow_ok T w ht hl hk es ms 0 r r' he h hn,rfl⟩
  | none=>exact findAsking_ok T w ht hl hk es ms 0 r he h
end Go.Sx
namespace Go.Sx
open Go.RowKit
theorem umAt_some {h:Heap} {x:AV} {p:Nat × MU} (e:umAt h x=some p):x=.map p.1∧h.get p.1=some (.umap p.2):=by
  unfold umAt at e
  split at e
  · split at e
    · rename_i b _ m hg; cases e; exact ⟨rfl,hg⟩
    · cases e
  · cases e
def keyN (nk:Nat):Prop:=nk=1 ∨ nk=2 ∨ nk=3
theorem eS {k:IntKind} (h:isI64 k=true):k=.i64:=by cases k <;> first | rfl | cases h
theorem umKey_some {nk : Nat} {k : AV} {q : IE × IE × IE} (h : umKey nk k = some q) : keyN nk ∧
    (∀ ρ:Rho,(nk < 2→q.2.1.den ρ=0)∧(nk < 3→q.2.2.den ρ=0))∧aT k=true∧∀ E:Env,af E k=af E (eX nk (q.1.den E.ρ) (q.2.1.den E.ρ) (q.2.2.den E.ρ)):=by
  unfold umKey at h
  split at h
  · split at h
    · rename_i k1 a
      obtain ⟨hc,e⟩:=cond_some' h
      simp only [Bool.and_eq_true] at hc
      have h1:=eS hc.1; have h2:=aq.1 hc.2; subst h1; subst h2
      cases e
      exact ⟨.inl rfl,fun ρ=>⟨fun _=>rfl,fun _=>rfl⟩,rfl,fun E=>rfl⟩
    · rename_i k1 a k2 b
      obtain ⟨hc,e⟩:=cond_some' h
      simp only [Bool.and_eq_true] at hc
      have h1:=eS hc.1; have h2:=eS hc.2.1; have h3:=aq.1 hc.2.2; subst h1; subst h2; subst h3
      cases e
      exact ⟨.inr (.inl rfl),fun ρ=>⟨fun h=>absurd h (by omega),fun _=>rfl⟩,rfl,fun E=>rfl⟩
    · rename_i k1 a k2 b k3 c
      obtain ⟨hc,e⟩:=cond_some' h
      simp only [Bool.and_eq_true] at hc
      have h1:=eS hc.1; have h2:=eS hc.2.1; have h3:=eS hc.2.2.1; have h4:=aq.1 hc.2.2.2; subst h1; subst h2; subst h3; subst h4
      cases e
      exact ⟨.inr (.inr rfl),fun ρ=>⟨fun h=>absurd h (by omega),fun h=>absurd h (by omega)⟩,rfl,fun E=>rfl⟩
    · cases h
  · cases h
where
  cond_some' {α:Type} {c:Bool} {x:Option α} {y:α} (h:cond c x none=some y):c=true∧x=some y:=by
    cases c with
    | true=>exact ⟨rfl,h⟩
    | false=>cases h
theorem fP {l:Leaf} (h:isIntL l=true):l=.int:=by cases l <;> first | rfl | cases h
theorem lvInts_eq {ls:List (Nat × Leaf)} {n:Nat} (h:lvInts ls n=true):(n=1∧ls=[(0,.int)]) ∨ (n=2∧ls=[(0,.int),(1,.int)]) ∨ (n=3∧ls=[(0,.int),(1,.int),(2,.int)]):=by
  unfold lvInts at h
  split at h
  · rename_i p
    simp only [Bool.and_eq_true] at h
    obtain ⟨h1,h2,h3⟩:=h
    have h1:=aq.1 h1; have h2:=aq.1 h2; have h3:=fP h3
    have hp:p=(0,.int):=Prod.ext h2 h3
    subst hp; exact .inl ⟨h1,rfl⟩
  · rename_i p q
    simp only [Bool.and_eq_true] at h
    obtain ⟨h1,⟨h2,h3⟩,h4,h5⟩:=h
    have h1:=aq.1 h1; have h2:=aq.1 h2; have h3:=fP h3; have h4:=aq.1 h4; have h5:=fP h5
    have hp:p=(0,.int):=Prod.ext h2 h3
    have hq:q=(1,.int):=Prod.ext h4 h5
    subst hp; subst hq; exact .inr (.inl ⟨h1,rfl⟩)
  · rename_i p q r
    simp only [Bool.and_eq_true] at h
    obtain ⟨h1,⟨h2,h3⟩,⟨h4,h5⟩,h6,h7⟩:=h
    have h1:=aq.1 h1; have h2:=aq.1 h2; have h3:=fP h3; have h4:=aq.1 h4; have h5:=fP h5; have h6:=aq.1 h6; have h7:=fP h7
    have hp:p=(0,.int):=Prod.ext h2 h3
    have hq:q=(1,.int):=Prod.ext h4 h5
    have hr:r=(2,.int):=Prod.ext h6 h7
    subst hp; subst hq; subst hr; exact .inr (.inr ⟨h1,rfl⟩)
  · cases h
theorem ieq_dec (x y:Int):ieq x y=decide (x=y):=by
  cases x with
  | ofNat m=>cases y with
    | ofNat n =>
      simp only [ieq]
      cases h:Nat.beq m n with
      | true=>have:=Nat.eq_of_beq_eq_true h; subst this; simp
      | false=>have:=Nat.ne_of_beq_eq_false h; simp; omega
    | negSucc n=>simp [ieq]
  | negSucc m=>cases y with
    | ofNat n=>simp [ieq]
    | negSucc n =>
      simp only [ieq]
      cases h:Nat.beq m n with
      | true=>have:=Nat.eq_of_beq_eq_true h; subst this; simp
      | false=>have:=Nat.ne_of_beq_eq_false h; simp; omega
theorem eqV_key {nk : Nat} {ls : List (Nat × Leaf)} (hl : lvInts ls nk = true) (a b c a' b' c' : Int) (hb : nk < 2 → b = 0) (hc : nk < 3 → c = 0) (hb' : nk < 2 → b' = 0) (hc' : nk < 3 → c' = 0) :
    eqV true nk ls (eX nk a b c) (eX nk a' b' c')=some (.lit (decide (a=a'∧b=b'∧c=c'))):=by
  rcases lvInts_eq hl with ⟨rfl,rfl⟩ | ⟨rfl,rfl⟩ | ⟨rfl,rfl⟩
  · have:=hb (by omega); have:=hc (by omega); have:=hb' (by omega); have:=hc' (by omega); subst_vars
    have:eqV true 1 [(0,Leaf.int)] (eX 1 a 0 0) (eX 1 a' 0 0)=cond (ieq a a') (some (.lit true)) (some (.lit false)):=rfl
    rw [this,ieq_dec]
    by_cases h:a=a' <;> simp [h]
  · have:=hc (by omega); have:=hc' (by omega); subst_vars
    have:eqV true 2 [(0,Leaf.int),(1,.int)] (eX 2 a b 0) (eX 2 a' b' 0)=cond (ieq a a') (cond (ieq b b') (some (.lit true)) (some (.lit false))) (some (.lit false)):=rfl
    rw [this,ieq_dec,ieq_dec]
    by_cases h:a=a' <;> by_cases h2:b=b' <;> simp [h,h2]
  · have:eqV true 3 [(0,Leaf.int),(1,.int),(2,.int)] (eX 3 a b c) (eX 3 a' b' c')=cond (ieq a a') (cond (ieq b b') (cond (ieq c c') (some (.lit true)) (some (.lit false))) (some (.lit false))) (some (.lit false)):=rfl
    rw [this,ieq_dec,ieq_dec,ieq_dec]
    by_cases h:a=a' <;> by_cases h2:b=b' <;> by_cases h3:c=c' <;> simp [h,h2,h3]
theorem keyU_inj {nk:Nat} (hn:keyN nk) {a b c a' b' c':Int} (hb:nk < 2→b=0) (hc:nk < 3→c=0) (hb':nk < 2→b'=0) (hc':nk < 3→c'=0) (h:eX nk a b c=eX nk a' b' c'):a=a'∧b=b'∧c=c':=by
  rcases hn with rfl | rfl | rfl
  · have:=hb (by omega); have:=hc (by omega); have:=hb' (by omega); have:=hc' (by omega); subst_vars
    simp [eX] at h; exact ⟨h,rfl,rfl⟩
  · have:=hc (by omega); have:=hc' (by omega); subst_vars
    simp [eX] at h; exact ⟨h.1,h.2,rfl⟩
  · simp [eX] at h; exact h
theorem find_key {ρ : Rho} {m : MU} {ls : List (Nat × Leaf)} (hl : lvInts ls m.nk = true) (hn : keyN m.nk) {a b c : Int} (hb : m.nk < 2 → b = 0) (hc : m.nk < 3 → c = 0) : ∀ (es : List (AV × AV × Nat)) (i : Nat), (∀ e ∈ es, ∃ a b c, (m.nk < 2 → b = 0) ∧ (m.nk < 3 → c = 0) ∧ e.1 = eX m.nk a b c ∧ e.2.1 = bT ρ m a b c) →
    (bn true m.nk ls (eX m.nk a b c) es i=some none∧∀ e ∈ es,e.1 ≠ eX m.nk a b c) ∨ (∃ j,i≤j∧bn true m.nk ls (eX m.nk a b c) es i=some (some (j,bT ρ m a b c))∧(∃ e,es[j - i]?=some e∧e.1=eX m.nk a b c))
  | [],i,_=>.inl ⟨rfl,fun e he=>by cases he⟩
  | e :: es,i,h=>by
    obtain ⟨a',b',c',h1,h2,h3,h4⟩:=h e List.mem_cons_self
    rw [findKeyA_cons,h3,eqV_key hl a b c a' b' c' hb hc h1 h2]
    by_cases hd:a=a'∧b=b'∧c=c'
    · obtain ⟨rfl,rfl,rfl⟩:=hd
      refine .inr ⟨i,Nat.le_refl _,by simp [h4],e,by simp,h3⟩
    · rw [decide_eq_false hd]
      simp only [cond_false]
      rcases find_key (ρ:=ρ) hl hn hb hc es (i + 1) (fun e' he'=>h e' (List.mem_cons_of_mem _ he')) with ⟨k1,k2⟩ | ⟨j,k1,k2,e',k3,k4⟩
      · refine .inl ⟨k1,fun e' he'=>?_⟩
        rcases List.mem_cons.1 he' with rfl | he'
        · rw [h3]; intro hq
          obtain ⟨x,y,z⟩:=keyU_inj hn h1 h2 hb hc hq
          exact hd ⟨x.symm,y.symm,z.symm⟩
        · exact k2 e' he'
      · refine .inr ⟨j,by omega,k2,e',?_,k4⟩
        have:j - i=(j - (i + 1)) + 1:=by omega
        rw [this,List.getElem?_cons_succ]; exact k3
theorem umCell_conc {E:Env} (q:IE × IE × IE) (p:Bool × Nat):af E (umCell q p)=af E (aU E.ρ (q.1.den E.ρ) (q.2.1.den E.ρ) (q.2.2.den E.ρ) p):=by
  unfold umCell aU
  cases p.1 <;> rfl
theorem umCells_conc {E:Env} (q:IE × IE × IE):∀ l:List (Bool × Nat),ad E (lMap (umCell q) l)=ad E (l.map (aU E.ρ (q.1.den E.ρ) (q.2.1.den E.ρ) (q.2.2.den E.ρ)))
  | []=>rfl
  | p :: l=>by
    have:lMap (umCell q) (p :: l)=umCell q p :: lMap (umCell q) l:=rfl
    rw [this,List.map_cons]
    simp only [ad,umCell_conc,umCells_conc q l]
theorem umVal_conc {E:Env} (m:MU) (q:IE × IE × IE):af E (umVal m q)=af E (bT E.ρ m (q.1.den E.ρ) (q.2.1.den E.ρ) (q.2.2.den E.ρ)):=by
  unfold umVal bT
  cases m.ag with
  | true=>simp only [cond_true,af,umCells_conc]
  | false =>
    simp only [cond_false]
    cases m.fi with
    | nil=>rfl
    | cons p l=>cases l with
      | nil=>exact umCell_conc q p
      | cons _ _=>rfl
theorem dj {α:Type} {ρ:Rho} {Q:α→Prop} {t:T α}:∀ {l:List BE},(dD t l).Holds ρ Q→(∀ c ∈ l,c.den ρ=true)∧t.Holds ρ Q
  | [],h=>⟨fun c hc=>(by cases hc),h⟩
  | c :: l,h=>by
    simp only [dD,T.Holds] at h
    split at h
    · rename_i hc
      obtain ⟨a1,a2⟩:=dj h
      exact ⟨fun d hd=>by
        rcases List.mem_cons.1 hd with rfl | hd
        · exact hc
        · exact a1 d hd,a2⟩
    · exact h.elim
theorem umNeed_conc {E : Env} {q : IE × IE × IE} : ∀ {l : List (Bool × Nat)} {vs : List AV} {cs : List BE}, umNeed q l vs = some cs → (∀ c ∈ cs, c.den E.ρ = true) →
    ad E vs=ad E (l.map (aU E.ρ (q.1.den E.ρ) (q.2.1.den E.ρ) (q.2.2.den E.ρ)))
  | [],[],cs,_,_=>rfl
  | [],_ :: _,cs,h,_=>by simp only [umNeed] at h; cases h
  | _ :: _,[],cs,h,_=>by simp only [umNeed] at h; cases h
  | p :: l,v :: vs,cs,h,hd=>by
    simp only [umNeed] at h
    split at h
    · cases h
    · rename_i cs' hcs'
      rw [List.map_cons]
      split at h
      · rename_i k e
        cases hc:and (isI64 k) (Bool.not p.1) with
        | false=>rw [hc] at h; cases h
        | true =>
          rw [hc,cond_true] at h; cases h
          simp only [Bool.and_eq_true,Bool.not_eq_true'] at hc
          have hk:=eS hc.1; subst hk
          have h1:=hd _ List.mem_cons_self
          have ih:=umNeed_conc hcs' fun c hc=>hd c (List.mem_cons_of_mem _ hc)
          have h2:e.den E.ρ=FI E.ρ.fi p.2 (q.1.den E.ρ) (q.2.1.den E.ρ) (q.2.2.den E.ρ):=by
            simpa [BE.den,aS,IE.den] using h1
          simp only [ad,af,aU,hc.2,cond_false,ih,IE.den,h2]
      · rename_i c
        cases hc:p.1 with
        | false=>rw [hc] at h; cases h
        | true =>
          rw [hc,cond_true] at h; cases h
          have h1:=hd _ List.mem_cons_self
          have ih:=umNeed_conc hcs' fun c hc=>hd c (List.mem_cons_of_mem _ hc)
          have h2:c.den E.ρ=FB E.ρ.fb p.2 (q.1.den E.ρ) (q.2.1.den E.ρ) (q.2.2.den E.ρ):=by
            simpa [BE.den] using h1
          simp only [ad,af,aU,hc,cond_true,ih,BE.den,h2]
      · cases h
theorem opEq_eq {a b:BinOp} (h:opEq a b=true):a=b:=by
  cases a <;> cases b <;> first | rfl | cases h
theorem bu:∀ (a b:IE),gX a b=true→a=b
  | .lit x,b,h=>by
    cases b <;> simp [gX] at h
    rw [ieq_eq] at h
    rw [eq_of_beq h]
  | .var x,b,h=>by
    cases b <;> simp [gX] at h
    rw [h]
  | .bin o k x y,b,h=>by
    cases b <;> simp [gX] at h
    rw [opEq_eq h.1.1,cm h.1.2,bu x _ h.2.1,bu y _ h.2.2]
  | .conv k x,b,h=>by
    cases b <;> simp [gX] at h
    rw [cm h.1,bu x _ h.2]
  | .mx x y,b,h=>by
    cases b <;> simp [gX] at h
    rw [bu x _ h.1,bu y _ h.2]
  | .mn x y,b,h=>by
    cases b <;> simp [gX] at h
    rw [bu x _ h.1,bu y _ h.2]
  | .app f x y z,b,h=>by
    cases b <;> simp [gX] at h
    rw [h.1,bu x _ h.2.1,bu y _ h.2.2.1,bu z _ h.2.2.2]
theorem keyEq_eq {a b:IE × IE × IE} (h:keyEq a b=true):a=b:=by
  simp only [keyEq,Bool.and_eq_true] at h
  obtain ⟨h1,h2,h3⟩:=h
  exact Prod.ext (bu _ _ h1) (Prod.ext (bu _ _ h2) (bu _ _ h3))
theorem presK_some {q:IE × IE × IE} {c:BE}:∀ {l:List (BE × IE × IE × IE)},presK q l=some c→(c,q) ∈ l
  | [],h=>by cases h
  | f :: l,h=>by
    simp only [presK] at h
    cases hk:keyEq f.2 q with
    | true =>
      rw [hk,cond_true] at h
      obtain rfl:=Option.some.inj h
      rw [← keyEq_eq hk]; exact List.mem_cons_self
    | false=>rw [hk,cond_false] at h; exact List.mem_cons_of_mem _ (presK_some h)
theorem nextOf_some {cl:List Nat} {q q0:IE × IE × IE} (h:nextOf cl q=some q0):∃ e p x y,cl=[e,p,x,y]∧q=(.app p q0.1 q0.2.1 q0.2.2,.app x q0.1 q0.2.1 q0.2.2,.app y q0.1 q0.2.1 q0.2.2):=by
  unfold nextOf at h
  split at h
  · rename_i e p x y p' a b c x' a' b' c' y' a'' b'' c''
    cases hc:and (and (Nat.beq p p') (and (Nat.beq x x') (Nat.beq y y'))) (and (keyEq (a,b,c) (a',b',c')) (keyEq (a,b,c) (a'',b'',c''))) with
    | false=>rw [hc] at h; cases h
    | true =>
      rw [hc,cond_true] at h
      obtain rfl:=Option.some.inj h
      simp only [Bool.and_eq_true] at hc
      obtain ⟨⟨h1,h2,h3⟩,h4,h5⟩:=hc
      have h1:=aq.1 h1; have h2:=aq.1 h2; have h3:=aq.1 h3
      have h4:=keyEq_eq h4; have h5:=keyEq_eq h5
      cases h4; cases h5; subst h1 h2 h3
      exact ⟨e,p,x,y,rfl,rfl⟩
  · cases h
theorem pres_ok {ρ:Rho} {m:MU} {es:List (AV × AV × Nat)} (H:PresOk ρ m es):∀ (n:Nat) (q:IE × IE × IE) (cs:List BE),pres m.ps m.nk n q=some cs→(∀ c ∈ cs,c.den ρ=true)→m.Has es (q.1.den ρ) (q.2.1.den ρ) (q.2.2.den ρ)
  | 0,q,cs,h,_=>by cases h
  | n + 1,q,cs,h,hd=>by
    simp only [pres] at h
    split at h
    · rename_i c hc
      obtain rfl:=Option.some.inj h
      exact H.2.1 _ (presK_some hc) (hd c List.mem_cons_self)
    · split at h
      · rename_i q0 hq0
        split at h
        · rename_i cs0 e p l hcs0 hcl
          cases h3:Nat.beq m.nk 3 with
          | false=>rw [h3] at h; cases h
          | true =>
            rw [h3,cond_true] at h
            obtain rfl:=Option.some.inj h
            obtain ⟨e',p',x,y,k1,rfl⟩:=nextOf_some hq0
            have ih:=pres_ok H n q0 cs0 hcs0 fun c hc=>hd c (List.mem_cons_of_mem _ (List.mem_cons_of_mem _ hc))
            have he:e'=e∧p'=p:=by rw [k1] at hcl; cases hcl; exact ⟨rfl,rfl⟩
            obtain ⟨rfl,rfl⟩:=he
            have d1:=hd _ List.mem_cons_self
            have d2:=hd _ (List.mem_cons_of_mem _ List.mem_cons_self)
            refine H.2.2 _ _ _ _ k1 (aq.1 h3) _ _ _ ih ?_ ?_
            · simpa only [BE.den] using d1
            · exact of_decide_eq_true (show decide (1≤FI ρ.fi p' (q0.1.den ρ) (q0.2.1.den ρ) (q0.2.2.den ρ))=true from d2)
        · cases h
      · cases hs:Nat.beq m.ps.sure 0 with
        | true=>rw [hs] at h; cases h
        | false =>
          rw [hs,cond_false] at h
          obtain rfl:=Option.some.inj h
          have d1:=hd _ List.mem_cons_self
          refine H.1 (Nat.ne_of_beq_eq_false hs) _ _ _ ?_
          simpa only [BE.den] using d1
theorem clT_holds {α : Type} {ρ : Rho} {Q : α → Prop} {t : T α} {s : Pres} {q : IE × IE × IE} (h : (clT s q t).Holds ρ Q) : t.Holds ρ Q ∧ ∀ e p x y, s.cl = [e, p, x, y] → FB ρ.fb e (q.1.den ρ) (q.2.1.den ρ) (q.2.2.den ρ) = true → 1 ≤ FI ρ.fi p (q.1.den ρ) (q.2.1.den ρ) (q.2.2.den ρ) →
    ∃ f ∈ s.keys,f.1.den ρ=true∧f.2.1.den ρ=FI ρ.fi p (q.1.den ρ) (q.2.1.den ρ) (q.2.2.den ρ)∧f.2.2.1.den ρ=FI ρ.fi x (q.1.den ρ) (q.2.1.den ρ) (q.2.2.den ρ)∧f.2.2.2.den ρ=FI ρ.fi y (q.1.den ρ) (q.2.1.den ρ) (q.2.2.den ρ):=by
  unfold clT at h
  split at h
  · rename_i e p x y hcl
    simp only [T.Holds] at h
    split at h
    · split at h
      · rename_i f l hf
        obtain ⟨hd,ht⟩:=dj h
        refine ⟨ht,fun e' p' x' y' hcl' _ _=>?_⟩
        rw [hcl] at hcl'; cases hcl'
        refine ⟨f,by rw [hf]; exact List.mem_cons_self,hd _ (by simp),?_,?_,?_⟩
        · have:=hd (.cmp .eql f.2.1 (.app p q.1 q.2.1 q.2.2)) (by simp)
          simpa [BE.den,aS,IE.den] using this
        · have:=hd (.cmp .eql f.2.2.1 (.app x q.1 q.2.1 q.2.2)) (by simp)
          simpa [BE.den,aS,IE.den] using this
        · have:=hd (.cmp .eql f.2.2.2 (.app y q.1 q.2.1 q.2.2)) (by simp)
          simpa [BE.den,aS,IE.den] using this
      · exact h.elim
    · rename_i hc
      refine ⟨h,fun e' p' x' y' hcl' k1 k2=>absurd ?_ hc⟩
      rw [hcl] at hcl'; cases hcl'
      simp only [BE.den,aS,IE.den,k1,Bool.true_and]
      exact decide_eq_true k2
  · rename_i hno
    exact ⟨h,fun e p x y hcl=>absurd hcl (hno e p x y)⟩
theorem PresOk.set {ρ : Rho} {m : MU} {es es' : List (AV × AV × Nat)} {q : IE × IE × IE} (H : PresOk ρ m es) (hold : ∀ e ∈ es, ∃ e' ∈ es', e'.1 = e.1) (hnew : m.Has es' (q.1.den ρ) (q.2.1.den ρ) (q.2.2.den ρ))
    (hes:∀ e ∈ es',e ∈ es ∨ e.1=eX m.nk (q.1.den ρ) (q.2.1.den ρ) (q.2.2.den ρ)) (hinj:∀ a b c,m.nk=3→eX m.nk a b c=eX m.nk (q.1.den ρ) (q.2.1.den ρ) (q.2.2.den ρ)→a=q.1.den ρ∧b=q.2.1.den ρ∧c=q.2.2.den ρ)
    (hcl:∀ e p x y,m.ps.cl=[e,p,x,y]→FB ρ.fb e (q.1.den ρ) (q.2.1.den ρ) (q.2.2.den ρ)=true→1≤FI ρ.fi p (q.1.den ρ) (q.2.1.den ρ) (q.2.2.den ρ) →
      ∃ f ∈ m.ps.keys,f.1.den ρ=true∧f.2.1.den ρ=FI ρ.fi p (q.1.den ρ) (q.2.1.den ρ) (q.2.2.den ρ)∧f.2.2.1.den ρ=FI ρ.fi x (q.1.den ρ) (q.2.1.den ρ) (q.2.2.den ρ)∧f.2.2.2.den ρ=FI ρ.fi y (q.1.den ρ) (q.2.1.den ρ) (q.2.2.den ρ)):PresOk ρ (m.set q) es':=by
  have up:∀ a b c,m.Has es a b c→m.Has es' a b c:=fun a b c ⟨e,h1,h2⟩=>by
    obtain ⟨e',h3,h4⟩:=hold e h1
    exact ⟨e',h3,h4.trans h2⟩
  refine ⟨fun h a b c hb=>up _ _ _ (H.1 h a b c hb),fun f hf hd=>?_,fun e p x y hc h3 a b c ha he hp=>?_⟩
  · rcases List.mem_cons.1 hf with rfl | hf
    · exact hnew
    · exact up _ _ _ (H.2.1 f hf hd)
  · obtain ⟨e1,k1,k2⟩:=ha
    rcases hes e1 k1 with h | h
    · exact up _ _ _ (H.2.2 e p x y hc h3 a b c ⟨e1,h,k2⟩ he hp)
    · obtain ⟨rfl,rfl,rfl⟩:=hinj a b c h3 (k2.symm.trans h)
      obtain ⟨f,f1,f2,f3,f4,f5⟩:=hcl e p x y hc he hp
      have:=up _ _ _ (H.2.1 f f1 f2)
      rw [f3,f4,f5] at this
      exact this
end Go.Sx
namespace Go.Sx
open Go.RowKit
theorem cMap_some {ty : Nat → Option TI} {t : Nat} {q : TI × List (Nat × Leaf) × TI} (h : cMap ty t = some q) :
    ∃ i k e,ty t=some i∧i.desc=.map k e∧ty k=some q.1∧bI ty 12 k 0=some q.2.1∧ty e=some q.2.2∧coversB q.1.size q.2.1=true:=by
  unfold cMap at h
  cases ht:ty t with
  | none=>rw [ht] at h; cases h
  | some i =>
    rw [ht] at h
    simp only at h
    split at h
    · rename_i k e hd
      split at h
      · rename_i ik ls ie h1 h2 h3
        cases hc:coversB ik.size ls with
        | false=>rw [hc] at h; cases h
        | true =>
          rw [hc] at h; cases h
          exact ⟨i,k,e,rfl,hd,h1,h2,h3,hc⟩
      · cases h
    · cases h
theorem eqLeaf_bad (l:Leaf) (y:AV):eO l .bad y=none:=by
  unfold eO
  cases l <;> cases y <;> rfl
theorem keyOk_nb {whole:Bool} {n:Nat} {ls:List (Nat × Leaf)} {k:AV} (h:keyOk whole n ls k=true) (hne:ls ≠ [] ∨ whole=true):aT k=true:=by
  unfold keyOk at h
  split at h
  · rename_i be hbe
    cases whole with
    | true=>obtain ⟨xs,ys,rfl,_⟩:=eqV_agg hbe; rfl
    | false =>
      have hc:=eqV_one hbe
      cases ls with
      | nil => rcases hne with h | h
               · exact absurd rfl h
               · cases h
      | cons q ls =>
        obtain ⟨x,y,c,hx,hy,hl,_,_⟩:=fh hc (⟨fun _=>0,fun _=>false,fun _ _ _ _=>0,fun _ _ _ _=>false,fun _=>undef⟩:Rho)
        have:x=k:=by
          cases hq:q.1 with
          | zero=>rw [hq] at hx; simpa using hx.symm
          | succ m=>rw [hq] at hx; simp at hx
        subst this
        have:y=x:=by
          cases hq:q.1 with
          | zero=>rw [hq] at hy; simpa using hy.symm
          | succ m=>rw [hq] at hy; simp at hy
        subst this
        cases y <;> first | rfl | (rw [eqLeaf_bad] at hl; cases hl)
  · cases h
theorem leaves_ne {ty:Nat→Option TI} {t:Nat} {i:TI} (ht:ty t=some i) {ls:List (Nat × Leaf)} (h:bI ty 12 t 0=some ls):ls ≠ [] ∨ i.isAgg=true:=by
  simp only [bI,ht] at h
  split at h
  · cases h; exact .inl (by simp)
  · cases h; exact .inl (by simp)
  · cases h; exact .inl (by simp)
  · cases h; exact .inl (by simp)
  · cases h; exact .inl (by simp)
  · cases h; exact .inl (by simp)
  · rename_i fs hd; exact .inr (by unfold TI.isAgg; rw [hd])
  · rename_i n e hd; exact .inr (by unfold TI.isAgg; rw [hd])
  · cases h
theorem entries_some {p : Par} {E : Env} {h : Heap} {w0 : Base} {w : World} (H : HeapOk p E h w0 w) {x : AV} {es : List (AV × AV × Nat)} (he : h.entries x = some es) {v : Value} (hv : af E x = some v) :
    ∃ ms,bG E es ms∧((v=.map none∧ms=[]) ∨ ∃ c clock,v=.map (some c)∧w.heap[c]?=some (.map ms.toArray clock)):=by
  unfold Heap.entries at he
  split at he
  · cases he
    simp only [af,Option.some.injEq] at hv
    subst hv
    exact ⟨[],trivial,.inl ⟨rfl,rfl⟩⟩
  · rename_i b
    split at he
    · rename_i es' clock hg
      cases he
      obtain ⟨q,hq,rfl⟩:=cn hv
      obtain ⟨ms,h0,hms,hheap⟩:=H.mapAt hg hq
      exact ⟨ms,hms,.inr ⟨q.1,clock,rfl,hheap⟩⟩
    · rename_i es' clock hg
      cases he
      obtain ⟨q,hq,rfl⟩:=cn hv
      obtain ⟨ms,h0,hms,hheap⟩:=H.rmapAt hg hq
      exact ⟨ms,hms,.inr ⟨q.1,clock,rfl,hheap⟩⟩
    · cases he
  · cases he
theorem entries_nb {h:Heap} {x:AV} {es:List (AV × AV × Nat)} (he:h.entries x=some es):aT x=true:=by
  unfold Heap.entries at he
  split at he
  · rfl
  · rfl
  · cases he
theorem fN {P : Program} {w : World} {t kt e : Nat} (hu : P.underlying t = some (.map kt e)) {mv kv zv : Value} {ms : List MapEntry} (hm : (mv = .map none ∧ ms = []) ∨ ∃ c clock, mv = .map (some c) ∧ w.heap[c]? = some (.map ms.toArray clock))
    (hck:∀ em,(Instr.checkKey em 10000 kt kv).run P w=.ok () w) {r':Option (Nat × Value)} (hf:(Instr.findKey kt kv ms).run P w=.ok r' w) (hz:(zeroValue e).run P w=.ok zv w) (ok:Bool) :
    (Instr.lookup t mv kv ok).run P w=.ok (match r' with | some q=>(if ok then .tuple #[q.2,.bool true] else q.2) | none=>(if ok then .tuple #[zv,.bool false] else zv)) w:=by
  rcases hm with ⟨rfl,rfl⟩ | ⟨c,clock,rfl,hheap⟩
  · unfold Instr.lookup
    have hf':(Instr.findKey kt kv (#[]:Array MapEntry).toList).run P w=.ok r' w:=hf
    simp only [Sem.run_bind,run_underlying hu,Result.andThen_ok,pure,Sem.run,hck,hf']
    cases r' with
    | none=>simp only [Sem.run_bind,hz,Result.andThen_ok]; rfl
    | some q=>rfl
  · unfold Instr.lookup
    have hf':(Instr.findKey kt kv ms.toArray.toList).run P w=.ok r' w:=by simpa using hf
    simp only [Sem.run_bind,run_underlying hu,Result.andThen_ok,dM hheap (by simp),pure,Sem.run,hck,hf']
    cases r' with
    | none=>simp only [Sem.run_bind,hz,Result.andThen_ok]; rfl
    | some q=>rfl
theorem um_keyOk {nk:Nat} {ls:List (Nat × Leaf)} (hl:lvInts ls nk=true) {a b c:Int} (hb:nk < 2→b=0) (hc:nk < 3→c=0):keyOk true nk ls (eX nk a b c)=true:=by
  unfold keyOk; rw [eqV_key hl a b c a b c hb hc hb hc]
theorem lookup_ok {p : Par} {ty : Nat → Option TI} (T : ct p.P ty) {t : Nat} {q : TI × List (Nat × Leaf) × TI} (hq : cMap ty t = some q) {z : AV} (hz : q.2.2.zero = some z) {ok : Bool} {x1 x2 : Operand} {y1 y2 : Opd}
    (h1:bk x1=some y1) (h2:bk x2=some y2) {o:Oper} (ho:o.op=.lookup t x1 x2 ok):bC p (dX z q.1.isAgg q.1.size q.2.1 ok y1 y2) o:=by
  intro cx n keep E w0 tm h a w Q K _ HT HH k P
  have hex:execOp a.eval o=(do let x ← Instr.lookup t (a.eval x1) (a.eval x2) ok; pure (Next.value x)):=by unfold execOp; rw [ho]
  rw [hex]
  obtain ⟨i,kt,e,ht,hd,hk,hl,he,_⟩:=cMap_some hq
  have hu:=T.und t i ht
  rw [hd] at hu
  cases hu0:umAt h (ev tm y1) with
  | some pm =>
    obtain ⟨hx,hg⟩:=umAt_some hu0
    simp only [dX,rLookup,hu0] at k
    unfold rLookupU at k
    split at k
    · rename_i q0 hq0
      cases hc:and (umOk pm.2) (and q.1.isAgg (and (Nat.beq q.1.size pm.2.nk) (lvInts q.2.1 q.1.size))) with
      | false=>rw [hc] at k; exact k.elim
      | true =>
        rw [hc,cond_true] at k
        simp only [Bool.and_eq_true] at hc
        obtain ⟨_,hagg,hsz,hlv⟩:=hc
        have hsz:=aq.1 hsz
        rw [hsz] at hlv
        obtain ⟨hN,hnorm,hnb,hkc⟩:=umKey_some hq0
        obtain ⟨n1,n2⟩:=hnorm E.ρ
        have hkv:=ax HT h2 hnb HH.glob
        rw [hkc E] at hkv
        have hmv:=ax HT h1 (by rw [hx]; rfl) HH.glob
        rw [hx] at hmv
        obtain ⟨qq',hqq,hmv'⟩:=cn hmv
        obtain ⟨c,es,ms,clock,g1,hms,hheap,hU,hL0,hP0⟩:=HH.obj _ _ hg
        rw [hqq] at g1; cases g1
        have hko:keyOk q.1.isAgg q.1.size q.2.1 (eX pm.2.nk (q0.1.den E.ρ) (q0.2.1.den E.ρ) (q0.2.2.den E.ρ))=true:=by
          rw [hagg,hsz]; exact um_keyOk hlv n1 n2
        have hck:=fun em=>key_check T w em hk hl hko hkv
        obtain ⟨zv,hzv,hzrun⟩:=run_zero T he hz E w
        have hcase:(a.eval x1=.map none∧ms=[]) ∨ ∃ c clock,a.eval x1=.map (some c)∧w.heap[c]?=some (.map ms.toArray clock):=.inr ⟨_,clock,hmv',hheap⟩
        cases hlive:pm.2.live with
        | false =>
          rw [hlive,cond_false] at k
          split at k
          · rename_i cs hcs
            obtain ⟨hcd,k⟩:=dj k
            have k:Q ((if ok=true then AV.tup [umVal pm.2 q0,.bool (.lit true)] else umVal pm.2 q0),h):=by cases ok <;> exact k
            obtain ⟨e0,he0,hek0⟩:=pres_ok hP0 8 q0 cs hcs hcd
            rcases find_key (ρ:=E.ρ) hlv hN n1 n2 es 0 hU with ⟨hf,hne⟩ | ⟨j,_,hf,e',he',hek⟩
            · exact absurd hek0 (hne e0 he0)
            · have hf:bn q.1.isAgg q.1.size q.2.1 (eX pm.2.nk (q0.1.den E.ρ) (q0.2.1.den E.ρ) (q0.2.2.den E.ρ)) es 0=some (some (j,bT E.ρ pm.2 (q0.1.den E.ρ) (q0.2.1.den E.ρ) (q0.2.2.den E.ρ))):=by rw [hagg,hsz]; exact hf
              obtain ⟨r',hfa,hrun⟩:=cp T w hk hl hkv hms hf
              cases r' with
              | none=>exact hfa.elim
              | some pv =>
                have hval:af E (umVal pm.2 q0)=some pv.2:=by rw [umVal_conc]; exact hfa.2
                refine ai (fN hu hcase hck hrun hzrun ok) (P.same HH k ?_)
                cases ok with
                | true=>simp [af,ad,hval,BE.den]
                | false=>simpa using hval
          · exact k.elim
        | true =>
        have hL:=hL0 hlive
        rw [hlive,cond_true] at k
        simp only [Sx.T.Holds] at k
        rcases find_key (ρ:=E.ρ) hlv hN n1 n2 es 0 hU with ⟨hf,hne⟩ | ⟨j,_,hf,e',he',hek⟩
        · have hfb : (BE.app pm.2.fb q0.1 q0.2.1 q0.2.2).den E.ρ = false := by
            cases hb:(BE.app pm.2.fb q0.1 q0.2.1 q0.2.2).den E.ρ with
            | false=>rfl
            | true=>obtain ⟨e1,m1,m2⟩:=(hL _ _ _ n1 n2).1 hb; exact absurd m2 (hne e1 m1)
          rw [hfb,if_neg Bool.false_ne_true] at k
          have hf:bn q.1.isAgg q.1.size q.2.1 (eX pm.2.nk (q0.1.den E.ρ) (q0.2.1.den E.ρ) (q0.2.2.den E.ρ)) es 0=some none:=by rw [hagg,hsz]; exact hf
          obtain ⟨r',hfa,hrun⟩:=cp T w hk hl hkv hms hf
          cases r' with
          | some pv=>exact hfa.elim
          | none =>
            refine ai (fN hu hcase hck hrun hzrun ok) (P.same HH k ?_)
            cases ok with
            | true=>simp [af,ad,hzv,BE.den]
            | false=>simpa using hzv
        · have hfb:(BE.app pm.2.fb q0.1 q0.2.1 q0.2.2).den E.ρ=true:=(hL _ _ _ n1 n2).2 ⟨e',List.mem_of_getElem? he',hek⟩
          rw [hfb,if_pos rfl] at k
          have hf:bn q.1.isAgg q.1.size q.2.1 (eX pm.2.nk (q0.1.den E.ρ) (q0.2.1.den E.ρ) (q0.2.2.den E.ρ)) es 0=some (some (j,bT E.ρ pm.2 (q0.1.den E.ρ) (q0.2.1.den E.ρ) (q0.2.2.den E.ρ))):=by rw [hagg,hsz]; exact hf
          obtain ⟨r',hfa,hrun⟩:=cp T w hk hl hkv hms hf
          cases r' with
          | none=>exact hfa.elim
          | some pv =>
            have hval:af E (umVal pm.2 q0)=some pv.2:=by rw [umVal_conc]; exact hfa.2
            refine ai (fN hu hcase hck hrun hzrun ok) (P.same HH k ?_)
            cases ok with
            | true=>simp [af,ad,hval,BE.den]
            | false=>simpa using hval
    · exact k.elim
  | none =>
  simp only [dX,rLookup,hu0] at k
  obtain ⟨r,hr,qq⟩:=aV k
  unfold alookup at hr
  cases hko:keyOk q.1.isAgg q.1.size q.2.1 (ev tm y2) with
  | false=>rw [hko] at hr; cases hr
  | true =>
    rw [hko,cond_true] at hr
    have hkv:=ax HT h2 (keyOk_nb hko (leaves_ne hk hl)) HH.glob
    split at hr
    · rename_i es hes
      have hxv:=ax HT h1 (entries_nb hes) HH.glob
      obtain ⟨ms,hms,hcase⟩:=entries_some HH hes hxv
      have hck:=fun em=>key_check T w em hk hl hko hkv
      obtain ⟨zv,hzv,hzrun⟩:=run_zero T he hz E w
      split at hr
      · rename_i pr hf
        cases hr
        obtain ⟨r',hfa,hrun⟩:=cp T w hk hl hkv hms hf
        cases r' with
        | none=>exact hfa.elim
        | some pv =>
          refine ai (fN hu hcase hck hrun hzrun ok) (P.same HH qq ?_)
          cases ok with
          | true=>simp [af,ad,hfa.2,BE.den]
          | false=>simpa using hfa.2
      · rename_i hf
        cases hr
        obtain ⟨r',hfa,hrun⟩:=cp T w hk hl hkv hms hf
        cases r' with
        | some pv=>exact hfa.elim
        | none =>
          refine ai (fN hu hcase hck hrun hzrun ok) (P.same HH qq ?_)
          cases ok with
          | true=>simp [af,ad,hzv,BE.den]
          | false=>simpa using hzv
      · cases hr
    · cases hr
theorem eqLeaf_true {l:Leaf} (hk:keyLeaf l=true) {x y:AV} (h:eO l x y=some (.lit true)) {E:Env} {u v:Value} (hx:af E x=some u) (hy:af E y=some v):u=v∧Instr.sameBits 9999 u u=true∧∀ n,Instr.sameBits n u u=true:=by
  unfold eO at h
  cases l <;> first | (cases hk; done) | skip
  · simp only at h
    split at h
    · rename_i j a j' b
      cases hkk:dv j j' with
      | false=>rw [hkk] at h; cases h
      | true =>
        have:=cm hkk
        subst this
        rw [hkk,cond_true] at h
        simp only [af,Option.some.injEq] at hx hy
        subst hx; subst hy
        obtain ⟨_,hd⟩:=mkCmp_den (ρ:=E.ρ) h
        simp only [BE.den,aS] at hd
        have he:a.den E.ρ=b.den E.ρ:=by simpa using hd.symm
        rw [he]
        exact ⟨rfl,by simp [Instr.sameBits],fun n=>by simp [Instr.sameBits]⟩
    · cases h
  · simp only at h
    split at h
    · rename_i a b
      simp only [af,Option.some.injEq] at hx hy
      subst hx; subst hy
      have hd:=congrArg (Option.map (BE.den E.ρ)) h
      simp only [Option.map_some,mkIff_den,BE.den,Option.some.injEq] at hd
      have he:a.den E.ρ=b.den E.ρ:=by simpa using hd
      rw [he]
      exact ⟨rfl,by simp [Instr.sameBits],fun n=>by simp [Instr.sameBits]⟩
    · cases h
  · simp only at h
    split at h
    · simp only [af,Option.some.injEq] at hx hy
      subst hx; subst hy
      exact ⟨rfl,by simp [Instr.sameBits],fun n=>by simp [Instr.sameBits]⟩
    · cases h
    · cases h
    · cases h
theorem eqCells_true {xs ys:List AV} {ls:List (Nat × Leaf)} (h:bA xs ys ls=some (.lit true)) {q:Nat × Leaf} (hq:q ∈ ls):∃ x y,xs[q.1]?=some x∧ys[q.1]?=some y∧eO q.2 x y=some (.lit true):=by
  induction ls with
  | nil=>cases hq
  | cons p ls ih =>
    rw [eqCells_cons] at h
    simp only [bR] at h
    split at h
    · rename_i x y hx hy
      split at h
      · rename_i c hc
        cases c with
        | false=>cases h
        | true =>
          rcases List.mem_cons.1 hq with rfl | hq
          · exact ⟨x,y,hx,hy,hc⟩
          · exact ih h hq
      · split at h <;> cases h
      · cases h
    · cases h
theorem coversB_some {n:Nat} {ls:List (Nat × Leaf)} (h:coversB n ls=true):ls.length=n∧(∀ q ∈ ls,keyLeaf q.2=true)∧∀ k,k < n→∃ l,(k,l) ∈ ls:=by
  unfold coversB at h
  obtain ⟨c1,c2⟩:=Bool.and_eq_true_iff.1 h
  obtain ⟨c2,c3⟩:=Bool.and_eq_true_iff.1 c2
  refine ⟨aq.1 c2,fun q hq=>List.all_eq_true.1 c1 q hq,fun k hk=>?_⟩
  have:=List.all_eq_true.1 c3 k (by simpa using hk)
  split at this
  · rename_i p hp
    rw [bR] at hp
    have:=aq.1 this
    subst this
    exact ⟨p.2,List.mem_of_getElem? hp⟩
  · cases this
theorem same_key {ty : Nat → Option TI} {t : Nat} {i : TI} (ht : ty t = some i) {ls : List (Nat × Leaf)} (hl : bI ty 12 t 0 = some ls) (hc : coversB i.size ls = true) {x y : AV} (h : eqV i.isAgg i.size ls x y = some (.lit true)) {E : Env} {u v : Value}
    (hx:af E x=some u) (hy:af E y=some v):Instr.sameBits 10000 v u=true∧u=v:=by
  obtain ⟨c1,c2,c3⟩:=coversB_some hc
  cases hagg:i.isAgg with
  | true =>
    rw [hagg] at h
    obtain ⟨xs,ys,rfl,rfl,l1,l2,he⟩:=eqV_agg h
    obtain ⟨vs,hvs,rfl⟩:=er hx
    obtain ⟨us,hus,rfl⟩:=er hy
    have n1:=bD hvs
    have n2:=bD hus
    have each:∀ k,k < i.size→∃ a,vs[k]?=some a∧us[k]?=some a∧Instr.sameBits 9999 a a=true:=by
      intro k hk
      obtain ⟨l,hm⟩:=c3 k hk
      obtain ⟨x,y,hx',hy',hle⟩:=eqCells_true he hm
      obtain ⟨a,ha1,ha2⟩:=c9 hvs hx'
      obtain ⟨b,hb1,hb2⟩:=c9 hus hy'
      obtain ⟨rfl,hs,_⟩:=eqLeaf_true (c2 _ hm) hle ha1 hb1
      exact ⟨a,ha2,hb2,hs⟩
    have heq:vs=us:=by
      apply List.ext_getElem?
      intro k
      by_cases hk:k < i.size
      · obtain ⟨a,h1,h2,_⟩:=each k hk
        rw [h1,h2]
      · rw [List.getElem?_eq_none (by omega),List.getElem?_eq_none (by omega)]
    subst heq
    refine ⟨?_,rfl⟩
    rw [show (10000:Nat)=9999 + 1 from rfl]
    have hall:(vs.zip vs).all (fun q=>Instr.sameBits 9999 q.1 q.2)=true:=by
      rw [List.all_eq_true]
      intro q hq
      obtain ⟨k,hk⟩:=List.mem_iff_getElem?.1 hq
      rw [List.getElem?_zip_eq_some] at hk
      have hlt:k < vs.length:=(List.getElem?_eq_some_iff.1 hk.1).1
      obtain ⟨a,h1,_,h3⟩:=each k (by omega)
      rw [h1] at hk
      obtain ⟨e1,e2⟩:=hk
      cases e1
      have e2':=Option.some.inj e2
      rw [← e2']
      exact h3
    simp only [Instr.sameBits]
    simpa using hall
  | false =>
    rw [hagg] at h
    have he:=eqV_one h
    have hmem:∃ q,q ∈ ls:=by
      cases ls with
      | nil => rcases leaves_ne ht hl with h | h
               · exact absurd rfl h
               · rw [hagg] at h; cases h
      | cons q ls=>exact ⟨q,by simp⟩
    obtain ⟨q,hq⟩:=hmem
    obtain ⟨x',y',hx',hy',hle⟩:=eqCells_true he hq
    have e1:x'=x:=by
      cases hz:q.1 with
      | zero=>rw [hz] at hx'; simpa using hx'.symm
      | succ m=>rw [hz] at hx'; simp at hx'
    have e2:y'=y:=by
      cases hz:q.1 with
      | zero=>rw [hz] at hy'; simpa using hy'.symm
      | succ m=>rw [hz] at hy'; simp at hy'
    subst e1; subst e2
    obtain ⟨rfl,_,hs⟩:=eqLeaf_true (c2 _ hq) hle hx hy
    exact ⟨hs _,rfl⟩
end Go.Sx
namespace Go.Sx
open Go.RowKit
theorem fO {P:Program} {w:World} {r:Nat} {es:Array MapEntry} {clock:Nat} (o:Obj) (hb:w.heap[r]?=some (.map es clock)):(setObj r o).run P w=.ok () { w with heap:=w.heap.setIfInBounds r o }:=by
  simp [setObj,Sem.run,hb]
theorem find_at {whole : Bool} {n : Nat} {ls : List (Nat × Leaf)} {k : AV} : ∀ {es : List (AV × AV × Nat)} {i : Nat} {p : Nat × AV}, bn whole n ls k es i = some (some p) →
    ∃ e,i≤p.1∧es[p.1 - i]?=some e∧eqV whole n ls k e.1=some (.lit true)
  | [],i,p,h=>by
    have:(none:Option (Nat × AV))=some p:=Option.some.inj h
    cases this
  | e :: es,i,p,h=>by
    obtain ⟨c,hc,hr⟩:=find_step h
    rcases hr with ⟨rfl,hp⟩ | ⟨rfl,hp⟩
    · cases hp
      exact ⟨e,Nat.le_refl _,by simp,hc⟩
    · obtain ⟨e',h1,h2,h3⟩:=find_at hp
      refine ⟨e',by omega,?_,h3⟩
      have:p.1 - i=(p.1 - (i + 1)) + 1:=by omega
      rw [this,List.getElem?_cons_succ]
      exact h2
theorem concE_get {E:Env}:∀ {es:List (AV × AV × Nat)} {ms:List MapEntry} {i:Nat} {e:AV × AV × Nat},bG E es ms→es[i]?=some e→∃ m,ms[i]?=some m∧af E e.1=some m.key
  | [],[],i,e,_,h=>by simp at h
  | e' :: es,m :: ms,i,e,⟨h1,_,_,h4⟩,h=>by
    cases i with
    | zero=>simp at h; subst h; exact ⟨m,rfl,h1⟩
    | succ i=>simp at h; simpa using concE_get h4 h
theorem concE_app {E:Env} {f:List (AV × AV × Nat)} {n:List MapEntry} (h':bG E f n):∀ {es:List (AV × AV × Nat)} {ms:List MapEntry},bG E es ms→bG E (es ++ f) (ms ++ n)
  | [],[],_=>h'
  | _ :: _,_ :: _,⟨h1,h2,h3,h4⟩=>⟨h1,h2,h3,concE_app h' h4⟩
theorem concE_mod {E : Env} {k v : AV} {kv vv : Value} (hk : af E k = some kv) (hv : af E v = some vv) : ∀ {es : List (AV × AV × Nat)} {ms : List MapEntry} (i : Nat), bG E es ms →
    bG E (eg (fun e=>(k,v,e.2.2)) es i) (ms.modify i fun e=>{ e with key:=kv,val:=vv })
  | [],[],i,_=>by cases i <;> simp [eg,bG]
  | _ :: _,_ :: _,0,⟨_,_,h3,h4⟩=>by simp only [eg,List.modify_zero_cons,bG]; exact ⟨hk,hv,h3,h4⟩
  | _ :: _,_ :: _,i + 1,⟨h1,h2,h3,h4⟩=>by simp only [eg,List.modify_succ_cons,bG]; exact ⟨h1,h2,h3,concE_mod hk hv i h4⟩
theorem HeapOk.setMap {p : Par} {E : Env} {h : Heap} {w0 : Base} {w : World} (H : HeapOk p E h w0 w) {b clock clock' : Nat} {es es' : List (AV × AV × Nat)} (hg : h.get b = some (.map es clock)) {q : Nat × Nat} (hq : E.σ b = some q) {ms' : List MapEntry} (he : bG E es' ms') {arr : Array MapEntry} (harr : arr = ms'.toArray) :
    HeapOk p E (h.put b (.map es' clock')) w0 { w with heap:=w.heap.setIfInBounds q.1 (.map arr clock') }:=by
  obtain ⟨ms,h0,hms,hheap⟩:=H.mapAt hg hq
  have hlt:q.1 < w.heap.size:=(Array.getElem?_eq_some_iff.1 hheap).1
  have hq':E.σ b=some (q.1,0):=by rw [hq,← h0]
  subst harr
  refine H.turn hg rfl hq' rfl ⟨q.1,ms',hq',he,by simp [hlt]⟩ (fun i hi=>by simp [Array.getElem?_setIfInBounds_ne (Ne.symm hi)]) rfl rfl rfl (by simp)
theorem rMapset_holds {ρ:Rho} {h:Heap} {whole:Bool} {n:Nat} {ls:List (Nat × Leaf)} {m k v:AV} {Q:AV × Heap→Prop} (hn:umAt h m=none) (kk:(rMapset h whole n ls m k v).Holds ρ Q):∃ h',amapset h whole n ls m k v=some h'∧Q (gz,h'):=by
  unfold rMapset at kk
  rw [hn] at kk
  simp only at kk
  split at kk
  · rename_i h' e; exact ⟨h',e,kk⟩
  · exact kk.elim
theorem HeapOk.congr {p:Par} {E:Env} {h h':Heap} {w0:Base} {w:World} (H:HeapOk p E h w0 w) (hget:∀ j,h'.get j=h.get j) (hn:h'.next=h.next):HeapOk p E h' w0 w :=
  ⟨fun b o e=>H.obj b o (by rw [← hget]; exact e),fun b b' o o' c x y e e'=>H.inj b b' o o' c x y (by rw [← hget]; exact e) (by rw [← hget]; exact e'),fun b o c x e=>H.base b o c x (by rw [← hget]; exact e),
    fun b o c y e=>H.ro b o c y (by rw [← hget]; exact e),fun b hb=>H.fresh b (by rw [← hn]; exact hb),fun b o c x e=>H.lt b o c x (by rw [← hget]; exact e),H.glob,H.below,by rw [hn]; exact H.nx,H.ok⟩
noncomputable def stored (h:Heap) (b:Nat) (es:List (AV × AV × Nat)) (clock:Nat) (k v:AV) (r:Option (Nat × AV)):Heap :=
  match r with
  | some pr=>h.put b (.map (eg (fun e=>(k,v,e.2.2)) es pr.1) clock)
  | none=>h.put b (.map (cC es [(k,v,clock)]) (Nat.succ clock))
theorem mapset_core {p : Par} {ty : Nat → Option TI} (T : ct p.P ty) {t kt et : Nat} (hu : p.P.underlying t = some (.map kt et)) {ki : TI} (hk : ty kt = some ki) {ls : List (Nat × Leaf)} (hl : bI ty 12 kt 0 = some ls) (hcov : coversB ki.size ls = true)
    {E:Env} {h:Heap} {w0:Base} {w:World} (HH:HeapOk p E h w0 w) {b:Nat} {es:List (AV × AV × Nat)} {clock:Nat} (hg:h.get b=some (.map es clock)) {q':Nat × Nat} (hqq:E.σ b=some q')
    {k v:AV} {kv vv:Value} (hko:keyOk ki.isAgg ki.size ls k=true) (hkv:af E k=some kv) (hvv:af E v=some vv) {r:Option (Nat × AV)} (hf:bn ki.isAgg ki.size ls k es 0=some r) :
    ∃ w',(Instr.mapUpdate t (.map (some q'.1)) kv vv).run p.P w=.ok () w'∧HeapOk p E (stored h b es clock k v r) w0 w':=by
  have hck:=key_check T w false hk hl hko hkv
  obtain ⟨ms,h0,hms,hheap⟩:=HH.mapAt hg hqq
  have pre : ∀ {r' : Option (Nat × Value)}, (Instr.findKey kt kv ms).run p.P w = .ok r' w → (Instr.mapUpdate t (.map (some q'.1)) kv vv).run p.P w =
      (match r' with
      | some pr=>(do
        let key ← Instr.keyThatStays (((ms.toArray[pr.1]?).map (·.key)).getD kv) kv
        setObj q'.1 (.map (ms.toArray.modify pr.1 fun e=>{ e with key,val:=vv }) clock):Sem Unit).run p.P w
      | none=>(setObj q'.1 (.map (ms.toArray.push { key:=kv,val:=vv,born:=clock }) (clock + 1))).run p.P w):=by
    intro r' hrun
    have hf':(Instr.findKey kt kv ms.toArray.toList).run p.P w=.ok r' w:=by simpa using hrun
    unfold Instr.mapUpdate
    simp only [Sem.run_bind,run_underlying hu,Result.andThen_ok,dM hheap (by simp),hck,hf']
    cases r' with
    | none=>rfl
    | some pr=>simp only [Sem.run_bind]
  cases r with
  | some pr =>
    obtain ⟨r',hfa,hrun⟩:=cp T w hk hl hkv hms hf
    cases r' with
    | none=>exact hfa.elim
    | some pv =>
      obtain ⟨e',_,he1,he2⟩:=find_at hf
      obtain ⟨m,hm1,hm2⟩:=concE_get hms he1
      obtain ⟨hs,_⟩:=same_key hk hl hcov he2 hkv hm2
      rw [Nat.sub_zero,hfa.1] at hm1
      have hold:((ms.toArray[pv.1]?).map (·.key)).getD kv=m.key:=by simp [hm1]
      refine ⟨{ w with heap:=w.heap.setIfInBounds q'.1 (.map (ms.toArray.modify pv.1 fun e=>{ e with key:=kv,val:=vv }) clock) },?_,?_⟩
      · rw [pre hrun]
        simp only [hold]
        unfold Instr.keyThatStays
        simp only [hs,if_true,Sem.run_bind,pure,Sem.run,Result.andThen_ok]
        exact fO _ hheap
      · unfold stored
        simp only
        rw [hfa.1]
        refine HH.setMap hg hqq (concE_mod hkv hvv pv.1 hms) ?_
        apply Array.ext'
        simp
  | none =>
    obtain ⟨r',hfa,hrun⟩:=cp T w hk hl hkv hms hf
    cases r' with
    | some pv=>exact hfa.elim
    | none =>
      refine ⟨{ w with heap:=w.heap.setIfInBounds q'.1 (.map (ms.toArray.push { key:=kv,val:=vv,born:=clock }) (clock + 1)) },?_,?_⟩
      · rw [pre hrun]
        exact fO _ hheap
      · unfold stored
        simp only
        rw [aI]
        refine HH.setMap hg hqq (concE_app (f:=[(k,v,clock)]) (n:=[{ key:=kv,val:=vv,born:=clock }]) ⟨hkv,hvv,rfl,trivial⟩ hms) ?_
        apply Array.ext'
        simp
theorem mem_modAt {α:Type} {f:α→α}:∀ {l:List α} {i:Nat} {a:α},a ∈ eg f l i→a ∈ l ∨ ∃ b ∈ l,a=f b
  | [],i,a,h=>by cases i <;> simp [eg] at h
  | x :: l,0,a,h=>by
    simp only [eg] at h
    rcases List.mem_cons.1 h with rfl | h
    · exact .inr ⟨x,List.mem_cons_self,rfl⟩
    · exact .inl (List.mem_cons_of_mem _ h)
  | x :: l,i + 1,a,h=>by
    simp only [eg] at h
    rcases List.mem_cons.1 h with rfl | h
    · exact .inl List.mem_cons_self
    · rcases mem_modAt h with h | ⟨b,h1,h2⟩
      · exact .inl (List.mem_cons_of_mem _ h)
      · exact .inr ⟨b,List.mem_cons_of_mem _ h1,h2⟩
theorem modAt_has {α:Type} {f:α→α}:∀ {l:List α} {i:Nat} {a:α},a ∈ l→a ∈ eg f l i ∨ (l[i]?=some a∧f a ∈ eg f l i)
  | [],_,_,h=>by cases h
  | x :: l,0,a,h=>by
    rcases List.mem_cons.1 h with rfl | h
    · exact .inr ⟨rfl,List.mem_cons_self⟩
    · exact .inl (List.mem_cons_of_mem _ h)
  | x :: l,i + 1,a,h=>by
    rcases List.mem_cons.1 h with rfl | h
    · exact .inl List.mem_cons_self
    · rcases modAt_has (f:=f) (i:=i) h with h | ⟨h1,h2⟩
      · exact .inl (List.mem_cons_of_mem _ h)
      · exact .inr ⟨h1,List.mem_cons_of_mem _ h2⟩
theorem modAt_at {α:Type} {f:α→α}:∀ {l:List α} {i:Nat} {a:α},l[i]?=some a→f a ∈ eg f l i
  | [],_,_,h=>by simp at h
  | x :: l,0,a,h=>by simp at h; subst h; exact List.mem_cons_self
  | x :: l,i + 1,a,h=>List.mem_cons_of_mem _ (modAt_at (f:=f) (by simpa using h))
theorem umStored_val {E : Env} {m : MU} {q : IE × IE × IE} {v : AV} {cs : List BE} (h : umNeed q m.fi v.cellsOf = some cs) (hd : ∀ c ∈ cs, c.den E.ρ = true) (ho : umOk m = true) (ha : eqBool (isAggV v) m.ag = true) :
    aT v=true∧af E v=af E (bT E.ρ m (q.1.den E.ρ) (q.2.1.den E.ρ) (q.2.2.den E.ρ)):=by
  have hc:=umNeed_conc (E:=E) h hd
  unfold bT
  cases hag:m.ag with
  | true =>
    rw [hag] at ha
    cases v with
    | agg vs=>simp only [AV.cellsOf] at hc; exact ⟨rfl,by simp only [af,cond_true,hc]⟩
    | _=>simp [isAggV,eqBool] at ha
  | false =>
    rw [hag] at ha
    unfold umOk at ho
    rw [hag] at ho
    simp only [cond_false] at ho ⊢
    obtain ⟨p,hp⟩:∃ p,m.fi=[p]:=by
      cases hfi:m.fi with
      | nil=>rw [hfi] at ho; first | cases ho | simp at ho
      | cons p l=>cases l with
        | nil=>exact ⟨p,rfl⟩
        | cons a b=>rw [hfi] at ho; first | cases ho | simp at ho
    rw [hp] at hc h ⊢
    have hcell:v.cellsOf=[v]:=by
      cases v with
      | agg vs=>simp [isAggV,eqBool] at ha
      | _=>rfl
    rw [hcell] at hc h
    refine ⟨?_,?_⟩
    · simp only [umNeed] at h
      cases v <;> first | rfl | cases h
    · simp only [List.map_cons,List.map_nil,ad] at hc
      cases h1:af E v with
      | none=>rw [h1] at hc; cases h2:af E (aU E.ρ (q.1.den E.ρ) (q.2.1.den E.ρ) (q.2.2.den E.ρ) p) with
        | none=>rfl
        | some y=>rw [h2] at hc; cases hc
      | some x=>rw [h1] at hc; cases h2:af E (aU E.ρ (q.1.den E.ρ) (q.2.1.den E.ρ) (q.2.2.den E.ρ) p) with
        | none=>rw [h2] at hc; cases hc
        | some y=>rw [h2] at hc; simp at hc; rw [hc]
theorem mapset_ok {p : Par} {ty : Nat → Option TI} (T : ct p.P ty) {t : Nat} {q : TI × List (Nat × Leaf) × TI} (hq : cMap ty t = some q) {x1 x2 x3 : Operand} {y1 y2 y3 : Opd}
    (h1:bk x1=some y1) (h2:bk x2=some y2) (h3:bk x3=some y3) {o:Oper} (ho:o.op=.mapUpdate t x1 x2 x3 ∨ o.op=.insert t x1 x2 x3):bC p (iMapset q.1.isAgg q.1.size q.2.1 y1 y2 y3) o:=by
  intro cx n keep E w0 tm h a w Q K _ HT HH k P
  have hex:execOp a.eval o=(do Instr.mapUpdate t (a.eval x1) (a.eval x2) (a.eval x3); pure Next.skip):=by unfold execOp; rcases ho with ho | ho <;> rw [ho]
  rw [hex]
  obtain ⟨i,kt,e,ht,hd,hk,hl,he,hcov⟩:=cMap_some hq
  have hu:=T.und t i ht
  rw [hd] at hu
  cases hu0:umAt h (ev tm y1) with
  | some pm =>
    obtain ⟨hx,hg⟩:=umAt_some hu0
    simp only [iMapset,rMapset,hu0] at k
    unfold rMapsetU at k
    split at k
    · rename_i q0 hq0
      split at k
      · rename_i cs hcs
        cases hc:and (and (umOk pm.2) (eqBool (isAggV (ev tm y3)) pm.2.ag)) (and q.1.isAgg (and (Nat.beq q.1.size pm.2.nk) (lvInts q.2.1 q.1.size))) with
        | false=>rw [hc] at k; exact k.elim
        | true =>
          rw [hc,cond_true] at k
          simp only [Bool.and_eq_true] at hc
          obtain ⟨⟨hok,hag⟩,hagg,hsz,hlv⟩:=hc
          have hsz:=aq.1 hsz
          rw [hsz] at hlv
          obtain ⟨hneed,k⟩:=dj k
          obtain ⟨k,hclo⟩:=clT_holds k
          obtain ⟨hN,hnorm,hnb,hkc⟩:=umKey_some hq0
          obtain ⟨n1,n2⟩:=hnorm E.ρ
          have hkv:=ax HT h2 hnb HH.glob
          rw [hkc E] at hkv
          obtain ⟨hnb3,hvc⟩:=umStored_val (E:=E) hcs hneed hok hag
          have hvv:=ax HT h3 hnb3 HH.glob
          rw [hvc] at hvv
          have hmv:=ax HT h1 (by rw [hx]; rfl) HH.glob
          rw [hx] at hmv
          obtain ⟨qq',hqq,hmv'⟩:=cn hmv
          obtain ⟨c,es,ms,clock,g1,hms,hheap,hU,_,hP0⟩:=HH.obj _ _ hg
          have g0:=g1
          rw [hqq] at g1; cases g1
          have hko:keyOk q.1.isAgg q.1.size q.2.1 (eX pm.2.nk (q0.1.den E.ρ) (q0.2.1.den E.ρ) (q0.2.2.den E.ρ))=true:=by
            rw [hagg,hsz]; exact um_keyOk hlv n1 n2
          have HH2:HeapOk p E (h.put pm.1 (.map es clock)) w0 w:=HH.turn hg rfl g0 rfl ⟨c,ms,g0,hms,hheap⟩ (fun _ _=>rfl) rfl rfl rfl (Nat.le_refl _)
          have hg2:(h.put pm.1 (.map es clock)).get pm.1=some (.map es clock):=by rw [Heap.get_put,if_pos rfl]
          have hat:∀ pr,bn q.1.isAgg q.1.size q.2.1 (eX pm.2.nk (q0.1.den E.ρ) (q0.2.1.den E.ρ) (q0.2.2.den E.ρ)) es 0=some (some pr)→∃ e,es[pr.1]?=some e∧e.1=eX pm.2.nk (q0.1.den E.ρ) (q0.2.1.den E.ρ) (q0.2.2.den E.ρ):=by
            intro pr hf
            rw [hagg,hsz] at hf
            rcases find_key (ρ:=E.ρ) hlv hN n1 n2 es 0 hU with ⟨hf',_⟩ | ⟨j,_,hf',e',he',hek⟩
            · rw [hf] at hf'; cases hf'
            · rw [hf] at hf'; cases hf'
              exact ⟨e',by simpa using he',hek⟩
          have fin:∀ r,bn q.1.isAgg q.1.size q.2.1 (eX pm.2.nk (q0.1.den E.ρ) (q0.2.1.den E.ρ) (q0.2.2.den E.ρ)) es 0=some r→Does p.P ((do Instr.mapUpdate t (a.eval x1) (a.eval x2) (a.eval x3); pure Next.skip:Sem Next).run p.P w) K:=by
            intro r hf
            obtain ⟨w',hrun,H3⟩:=mapset_core T hu hk hl hcov HH2 hg2 hqq hko hkv hvv hf
            rw [← hmv'] at hrun
            refine does_unit hrun (P _ _ E _ undef k (Env.le.refl E) ?_ rfl)
            have key : ∃ es' clock', stored (h.put pm.1 (.map es clock)) pm.1 es clock (eX pm.2.nk (q0.1.den E.ρ) (q0.2.1.den E.ρ) (q0.2.2.den E.ρ)) (bT E.ρ pm.2 (q0.1.den E.ρ) (q0.2.1.den E.ρ) (q0.2.2.den E.ρ)) r = (h.put pm.1 (.map es clock)).put pm.1 (.map es' clock') ∧
                (∀ e ∈ es',e ∈ es ∨ (e.1=eX pm.2.nk (q0.1.den E.ρ) (q0.2.1.den E.ρ) (q0.2.2.den E.ρ)∧e.2.1=bT E.ρ pm.2 (q0.1.den E.ρ) (q0.2.1.den E.ρ) (q0.2.2.den E.ρ))) ∧
                (∀ e ∈ es,∃ e' ∈ es',e'.1=e.1)∧∃ e' ∈ es',e'.1=eX pm.2.nk (q0.1.den E.ρ) (q0.2.1.den E.ρ) (q0.2.2.den E.ρ):=by
              cases r with
              | none => exact ⟨_, _, rfl, fun e he => by
                  rw [aI] at he
                  rcases List.mem_append.1 he with he | he
                  · exact .inl he
                  · rw [List.mem_singleton] at he; subst he; exact .inr ⟨rfl,rfl⟩,fun e he=>⟨e,by rw [aI]; exact List.mem_append.2 (.inl he),rfl⟩,⟨_,by rw [aI]; exact List.mem_append.2 (.inr (List.mem_singleton.2 rfl)),rfl⟩⟩
              | some pr =>
                obtain ⟨e0,he0,hek0⟩:=hat pr hf
                exact ⟨_,_,rfl,fun e he=>by
                  rcases mem_modAt he with he | ⟨b,_,rfl⟩
                  · exact .inl he
                  · exact .inr ⟨rfl,rfl⟩,fun e he=>by
                  rcases modAt_has (f:=fun e:AV × AV × Nat=>(eX pm.2.nk (q0.1.den E.ρ) (q0.2.1.den E.ρ) (q0.2.2.den E.ρ),bT E.ρ pm.2 (q0.1.den E.ρ) (q0.2.1.den E.ρ) (q0.2.2.den E.ρ),e.2.2)) (i:=pr.1) he with h | ⟨h1,h2⟩
                  · exact ⟨e,h,rfl⟩
                  · rw [he0] at h1; cases h1
                    exact ⟨_,h2,hek0.symm⟩,⟨_,modAt_at he0,rfl⟩⟩
            obtain ⟨es',clock',hst,hes',hkeep,hlaid⟩:=key
            rw [hst] at H3
            have hg3:((h.put pm.1 (.map es clock)).put pm.1 (.map es' clock')).get pm.1=some (.map es' clock'):=by rw [Heap.get_put,if_pos rfl]
            obtain ⟨c3,ms3,s1,s2,s3⟩:=H3.obj _ _ hg3
            have H4:=H3.turn (o':=.umap (pm.2.set q0)) hg3 rfl s1 rfl ⟨c3,es',ms3,clock',s1,s2,s3,fun e he=>by
              rcases hes' e he with he | ⟨e1,e2⟩
              · exact hU e he
              · exact ⟨_,_,_,n1,n2,e1,e2⟩,(fun h=>by cases h),hP0.set hkeep hlaid (fun e he=>(hes' e he).imp id And.left) (fun a b c h3 he=>keyU_inj hN (fun h=>absurd h (by omega)) (fun h=>absurd h (by omega)) n1 n2 he) hclo⟩ (fun _ _=>rfl) rfl rfl rfl (Nat.le_refl _)
            refine H4.congr (fun j=>?_) rfl
            rw [Heap.get_put,Heap.get_put,Heap.get_put,Heap.get_put]
            by_cases hj:j=pm.1
            · rw [if_pos hj,if_pos hj]
            · rw [if_neg hj,if_neg hj,if_neg hj,if_neg hj]
          rcases find_key (ρ:=E.ρ) hlv hN n1 n2 es 0 hU with ⟨hf,hne⟩ | ⟨j,_,hf,e',he',hek⟩
          · exact fin none (by rw [hagg,hsz]; exact hf)
          · exact fin _ (by rw [hagg,hsz]; exact hf)
      · exact k.elim
    · exact k.elim
  | none =>
  obtain ⟨h',hr,qq⟩:=rMapset_holds hu0 k
  unfold amapset at hr
  split at hr
  · rename_i b hb
    cases hc:and (keyOk q.1.isAgg q.1.size q.2.1 (ev tm y2)) (aT (ev tm y3)) with
    | false=>rw [hc] at hr; cases hr
    | true =>
      rw [hc,cond_true] at hr
      obtain ⟨hko,hnb⟩:=Bool.and_eq_true_iff.1 hc
      have hkv:=ax HT h2 (keyOk_nb hko (leaves_ne hk hl)) HH.glob
      have hvv:=ax HT h3 hnb HH.glob
      have hmv:=ax HT h1 (by rw [hb]; rfl) HH.glob
      rw [hb] at hmv
      obtain ⟨qq',hqq,hmv'⟩:=cn hmv
      split at hr
      · rename_i es clock hg
        have fin:∀ r,bn q.1.isAgg q.1.size q.2.1 (ev tm y2) es 0=some r→h'=stored h b es clock (ev tm y2) (ev tm y3) r→Does p.P ((do Instr.mapUpdate t (a.eval x1) (a.eval x2) (a.eval x3); pure Next.skip:Sem Next).run p.P w) K:=by
          intro r hf hh
          obtain ⟨w',hrun,H3⟩:=mapset_core T hu hk hl hcov HH hg hqq hko hkv hvv hf
          rw [← hmv'] at hrun
          rw [← hh] at H3
          exact does_unit hrun (P _ _ E _ undef qq (Env.le.refl E) H3 rfl)
        split at hr
        · rename_i pr hf
          cases hr
          exact fin _ hf rfl
        · rename_i hf
          cases hr
          exact fin _ hf rfl
        · cases hr
      · cases hr
  · cases hr
end Go.Sx
namespace Go.Sx
open Go.RowKit
theorem concE_modK {E : Env} {k : AV} {kv : Value} (hk : af E k = some kv) : ∀ {es : List (AV × AV × Nat)} {ms : List MapEntry} (i : Nat), bG E es ms →
    bG E (eg (fun e=>(k,e.2.1,e.2.2)) es i) (ms.modify i fun e=>{ e with key:=kv })
  | [],[],i,_=>by cases i <;> simp [eg,bG]
  | _ :: _,_ :: _,0,⟨_,h2,h3,h4⟩=>by simp only [eg,List.modify_zero_cons,bG]; exact ⟨hk,h2,h3,h4⟩
  | _ :: _,_ :: _,i + 1,⟨h1,h2,h3,h4⟩=>by simp only [eg,List.modify_succ_cons,bG]; exact ⟨h1,h2,h3,concE_modK hk i h4⟩
theorem concE_modV {E : Env} {v : AV} {vv : Value} (hv : af E v = some vv) : ∀ {es : List (AV × AV × Nat)} {ms : List MapEntry} (i : Nat), bG E es ms →
    bG E (eg (fun e=>(e.1,v,e.2.2)) es i) (ms.modify i fun e=>{ e with val:=vv })
  | [],[],i,_=>by cases i <;> simp [eg,bG]
  | _ :: _,_ :: _,0,⟨h1,_,h3,h4⟩=>by simp only [eg,List.modify_zero_cons,bG]; exact ⟨h1,hv,h3,h4⟩
  | _ :: _,_ :: _,i + 1,⟨h1,h2,h3,h4⟩=>by simp only [eg,List.modify_succ_cons,bG]; exact ⟨h1,h2,h3,concE_modV hv i h4⟩
theorem concE_get2 {E:Env}:∀ {es:List (AV × AV × Nat)} {ms:List MapEntry} {i:Nat} {e:AV × AV × Nat},bG E es ms→es[i]?=some e→∃ m,ms[i]?=some m∧af E e.1=some m.key∧m.born=e.2.2
  | [],[],i,e,_,h=>by simp at h
  | e' :: es,m :: ms,i,e,⟨h1,_,h3,h4⟩,h=>by
    cases i with
    | zero=>simp at h; subst h; exact ⟨m,rfl,h1,h3⟩
    | succ i=>simp at h; simpa using concE_get2 h4 h
theorem born_at {E:Env} {n:Nat}:∀ {es:List (AV × AV × Nat)} {ms:List MapEntry} {j i:Nat},bG E es ms→bornAt n es j=some i→j≤i∧ms.findIdx? (fun e=>(e.born:Int) == (n:Int))=some (i - j)
  | [],[],j,i,_,h=>by cases h
  | e :: es,m :: ms,j,i,⟨_,_,h3,h4⟩,h=>by
    have h:cond (Nat.beq e.2.2 n) (some j) (bornAt n es (Nat.succ j))=some i:=h
    cases hb:Nat.beq e.2.2 n with
    | true =>
      rw [hb] at h; cases h
      have:=aq.1 hb
      exact ⟨Nat.le_refl _,by simp [List.findIdx?_cons,h3,this]⟩
    | false =>
      rw [hb] at h
      have hne:=bW.1 hb
      obtain ⟨h5,h6⟩:=born_at h4 h
      refine ⟨by omega,?_⟩
      have:((m.born:Int) == (n:Int))=false:=by simp [h3]; omega
      rw [List.findIdx?_cons,this,h6]
      have:i - j=i - (j + 1) + 1:=by omega
      simp [this]
theorem mapent_ok {p : Par} {ty : Nat → Option TI} (T : ct p.P ty) {t : Nat} {q : TI × List (Nat × Leaf) × TI} (hq : cMap ty t = some q) {z : AV} (hz : q.2.2.zero = some z) {x1 x2 : Operand} {y1 y2 : Opd}
    (h1:bk x1=some y1) (h2:bk x2=some y2) {o:Oper} (ho:o.op=.mapEntry t x1 x2):bC p (iMapent z q.1.isAgg q.1.size q.2.1 y1 y2) o:=by
  intro cx n keep E w0 tm h a w Q K _ HT HH k P
  have hex:execOp a.eval o=(do let x ← Instr.mapEntry t (a.eval x1) (a.eval x2); pure (Next.value x)):=by unfold execOp; rw [ho]
  rw [hex]
  obtain ⟨i,kt,e,ht,hd,hk,hl,he,hcov⟩:=cMap_some hq
  have hu:=T.und t i ht
  rw [hd] at hu
  cases hr:amapent h z q.1.isAgg q.1.size q.2.1 (ev tm y1) (ev tm y2) with
  | none=>simp only [iMapent,hr,Sx.T.of] at k; exact k.elim
  | some r =>
  simp only [iMapent,hr,Sx.T.of] at k
  have qq:Q r:=k
  unfold amapent at hr
  split at hr
  · rename_i b hb
    cases hko:keyOk q.1.isAgg q.1.size q.2.1 (ev tm y2) with
    | false=>rw [hko] at hr; cases hr
    | true =>
      rw [hko,cond_true] at hr
      have hkv:=ax HT h2 (keyOk_nb hko (leaves_ne hk hl)) HH.glob
      have hmv:=ax HT h1 (by rw [hb]; rfl) HH.glob
      rw [hb] at hmv
      obtain ⟨qq',hqq,hmv'⟩:=cn hmv
      split at hr
      · rename_i es clock hg
        have hck:=key_check T w false hk hl hko hkv
        obtain ⟨ms,h0,hms,hheap⟩:=HH.mapAt hg hqq
        obtain ⟨zv,hzv,hzrun⟩:=run_zero T he hz E w
        split at hr
        · rename_i pr hf
          unfold entA at hr
          obtain ⟨r',hfa,hrun⟩:=cp T w hk hl hkv hms hf
          cases r' with
          | none=>exact hfa.elim
          | some pv =>
            obtain ⟨e',_,he1,he2⟩:=find_at hf
            rw [Nat.sub_zero] at he1
            rw [bR,he1] at hr
            cases hr
            obtain ⟨m,hm1,hm2,hm3⟩:=concE_get2 hms he1
            obtain ⟨hs,_⟩:=same_key hk hl hcov he2 hkv hm2
            rw [hfa.1] at hm1
            have hold:((ms.toArray[pv.1]?).map (·.key)).getD (a.eval x2)=m.key:=by simp [hm1]
            have hborn:((ms.toArray[pv.1]?).map (fun e=>(e.born:Int))).getD 0=(e'.2.2:Int):=by simp [hm1,hm3]
            have hf':(Instr.findKey kt (a.eval x2) ms.toArray.toList).run p.P w=.ok (some pv) w:=by simpa using hrun
            refine ai (v:=.tuple #[pv.2,goInt e'.2.2]) (w':={ w with heap:=w.heap.setIfInBounds qq'.1 (.map (ms.toArray.modify pv.1 fun e=>{ e with key:=a.eval x2 }) clock) }) ?_ ?_
            · rw [hmv']
              unfold Instr.mapEntry
              simp only [Sem.run_bind,run_underlying hu,Result.andThen_ok,dM hheap (by simp),hck,hf',hold,hborn]
              unfold Instr.keyThatStays
              simp only [hs,if_true,pure,Sem.run,Result.andThen_ok,fO _ hheap]
            · refine P _ _ E _ _ qq (Env.le.refl E) ?_ ?_
              · rw [hfa.1]
                refine HH.setMap hg hqq (concE_modK hkv pv.1 hms) ?_
                apply Array.ext'
                simp
              · simp [af,ad,hfa.2,goInt,IE.den]
        · rename_i hf
          cases hr
          obtain ⟨r',hfa,hrun⟩:=cp T w hk hl hkv hms hf
          cases r' with
          | some pv=>exact hfa.elim
          | none =>
            have hf':(Instr.findKey kt (a.eval x2) ms.toArray.toList).run p.P w=.ok none w:=by simpa using hrun
            refine ai (v:=.tuple #[zv,goInt clock]) (w':={ w with heap:=w.heap.setIfInBounds qq'.1 (.map (ms.toArray.push { key:=a.eval x2,val:=zv,born:=clock }) (clock + 1)) }) ?_ ?_
            · rw [hmv']
              unfold Instr.mapEntry
              simp only [Sem.run_bind,run_underlying hu,Result.andThen_ok,dM hheap (by simp),hck,hf',hzrun,fO _ hheap,pure,Sem.run]
            · refine P _ _ E _ _ qq (Env.le.refl E) ?_ ?_
              · rw [aI]
                refine HH.setMap hg hqq (concE_app (f:=[(ev tm y2,z,clock)]) (n:=[{ key:=a.eval x2,val:=zv,born:=clock }]) ⟨hkv,hzv,rfl,trivial⟩ hms) ?_
                apply Array.ext'
                simp
              · simp [af,ad,hzv,goInt,IE.den]
        · cases hr
      · cases hr
  · cases hr
theorem entset_ok {p:Par} {t:Nat} {x1 x2 x3:Operand} {y1 y2 y3:Opd} (h1:bk x1=some y1) (h2:bk x2=some y2) (h3:bk x3=some y3) {o:Oper} (ho:o.op=.entryStore t x1 x2 x3):bC p (iEntset y1 y2 y3) o:=by
  intro cx n keep E w0 tm h a w Q K _ HT HH k P
  have hex:execOp a.eval o=(do Instr.entryStore t (a.eval x1) (a.eval x2) (a.eval x3); pure Next.skip):=by unfold execOp; rw [ho]
  rw [hex]
  simp only [iEntset] at k
  unfold rEntset at k
  split at k
  · rename_i h' hr
    unfold aentset at hr
    split at hr
    · rename_i b hb
      split at hr
      · rename_i m hm
        cases hnb:aT (ev tm y3) with
        | false=>rw [hnb] at hr; cases hr
        | true =>
          rw [hnb,cond_true] at hr
          have hvv:=ax HT h3 hnb HH.glob
          have hmv:=ax HT h1 (by rw [hb]; rfl) HH.glob
          rw [hb] at hmv
          obtain ⟨qq',hqq,hmv'⟩:=cn hmv
          obtain ⟨k2,hm'⟩:=dK hm
          have hsv:a.eval x2=.int k2 (Int.ofNat m):=bJ HT h2 (by rw [hm']; rfl) HH.glob
          split at hr
          · rename_i es clock hg
            obtain ⟨ms,h0,hms,hheap⟩:=HH.mapAt hg hqq
            split at hr
            · rename_i i hi
              cases hr
              obtain ⟨_,hfi⟩:=born_at hms hi
              rw [Nat.sub_zero] at hfi
              refine does_unit (w':={ w with heap:=w.heap.setIfInBounds qq'.1 (.map (ms.toArray.modify i fun e=>{ e with val:=a.eval x3 }) clock) }) ?_ (P _ _ E _ undef k (Env.le.refl E) ?_ rfl)
              · rw [hmv',hsv]
                unfold Instr.entryStore asInt asIntOf
                have hfi':ms.toArray.findIdx? (fun e=>(e.born:Int) == Int.ofNat m)=some i:=by simpa using hfi
                simp only [Sem.run_bind,dM hheap (by simp),Result.andThen_ok,pure,Sem.run,hfi',fO _ hheap]
              · refine HH.setMap hg hqq (concE_modV hvv i hms) ?_
                apply Array.ext'
                simp
            · cases hr
          · cases hr
      · cases hr
    · cases hr
  · exact k.elim
end Go.Sx
namespace Go.Sx
open Go.RowKit
theorem fB {p : Par} {E : Env} {h : Heap} {w0 : Base} {w : World} (H : HeapOk p E h w0 w) {size n : Nat} {x : AV} {l : List AV} (hf : firstA h size n x = some l) {v : Value} (hv : af E x = some v) :
    ∃ vs,ad E l=some vs∧(Builtin.firstCells size n v).run p.P w=.ok vs.toArray w∧vs.length=n * size:=by
  unfold firstA at hf
  split at hf
  · rename_i b off len cap
    cases hc:Nat.ble n len with
    | false=>rw [hc] at hf; cases hf
    | true =>
      rw [hc,cond_true] at hf
      obtain ⟨q,hq,rfl⟩:=b6 hv
      cases hcs:h.cells b with
      | none=>rw [hcs] at hf; cases hf
      | some cs =>
        rw [hcs] at hf
        obtain ⟨vs,h1,h2,h3⟩:=H.cellsRange hcs hf hq
        exact ⟨vs,h1,dk h2 h3,h2⟩
  · rename_i b s lo len
    cases hc:and (Nat.ble n len) (Nat.beq s size) with
    | false=>rw [hc] at hf; cases hf
    | true =>
      rw [hc,cond_true] at hf
      obtain ⟨c1,c2⟩:=Bool.and_eq_true_iff.1 hc
      have c1:=aD.1 c1
      have c2:=aq.1 c2
      subst c2
      obtain ⟨q,hq,hle,rfl⟩:=bt hv
      by_cases hn:n=0
      · subst hn
        have:l=[]:=(Option.some.inj hf).symm
        subst this
        refine ⟨[],rfl,?_,by simp⟩
        have:=dk (P:=p.P) (w:=w) (c:=q.1) (o:=q.2 + if E.κ b=lo then 0 else lo * s) (n:=0) (vs:=[]) rfl (fun j v hj=>by simp at hj)
        unfold Builtin.firstCells
        simpa using this
      · rw [bW.2 hn,cond_false] at hf
        cases hcs:h.cells b with
        | none=>rw [hcs] at hf; cases hf
        | some cs =>
          rw [hcs] at hf
          obtain ⟨vs,h1,h2,h3⟩:=H.cellsRange hcs hf hq
          rw [if_neg (by omega)]
          exact ⟨vs,h1,dk h2 h3,h2⟩
  · cases hc:Nat.beq n 0 with
    | false=>rw [hc] at hf; cases hf
    | true =>
      rw [hc] at hf
      have hn:=aq.1 hc
      subst hn
      have:l=[]:=(Option.some.inj hf).symm
      subst this
      simp only [af,Option.some.injEq] at hv
      subst hv
      exact ⟨[],rfl,rfl,by simp⟩
  · cases hf
theorem HeapOk.reuse {p : Par} {E : Env} {h : Heap} {w0 : Base} {w w' : World} (k : HeapOk p E h w0 w) {b c : Nat} {o o' : AObj} (hg : h.get b = some o) (hown : bN o = true) (hc : E.σ b = some (c, 0)) (hown' : bN o' = true)
    (ho:objOk p (E.with h.next (c,0) (E.κ b)) h.next o' w'.heap) (hh:∀ i,i ≠ c→w'.heap[i]?=w.heap[i]?) (hos:w'.os=w.os) (ht:w'.tape=w.tape) (hout:w'.output=w.output) (hsz:w'.heap.size=w.heap.size) :
    HeapOk p (E.with h.next (c,0) (E.κ b)) ((h.put b .dead).new o') w0 w':=by
  have hf:E.σ h.next=none:=k.fresh _ (Nat.le_refl _)
  have hle:=Env.with_le hf k.nx (c,0) (E.κ b)
  have hbn:b ≠ h.next:=by rintro rfl; rw [hf] at hc; cases hc
  have hcb:=k.base b o c 0 hg hown hc
  have hσ:∀ i q,i ≠ h.next→(E.with h.next (c,0) (E.κ b)).σ i=some q→E.σ i=some q:=fun i q hi e=>by rw [Env.with_ne _ _ _ hi] at e; exact e
  have f:∀ i z,((h.put b .dead).new o').get i=some z→(i=h.next∧z=o') ∨ (i ≠ h.next∧i=b∧z=.dead) ∨ (i ≠ h.next∧i ≠ b∧h.get i=some z):=fun i z e=>by
    rw [Heap.get_new,Heap.next_put] at e
    by_cases hi:i=h.next
    · rw [if_pos hi] at e; cases e; exact .inl ⟨hi,rfl⟩
    · rw [if_neg hi,Heap.get_put] at e
      by_cases hib:i=b
      · rw [if_pos hib] at e; cases e; exact .inr (.inl ⟨hi,hib,rfl⟩)
      · rw [if_neg hib] at e; exact .inr (.inr ⟨hi,hib,e⟩)
  refine ⟨fun j x e=>?_,fun j j' o1 o2 d x y h1 h2 w1 w2 e1 e2=>?_,fun j x d y e ow s=>?_,fun j x d y hj hr s=>?_,fun j hj=>?_,fun j x d y e s=>?_,fun j hj=>hle.σ _ _ (k.glob j hj),?_,Nat.le_refl _,k.ok⟩
  · rcases f j x e with ⟨rfl,rfl⟩ | ⟨_,_,rfl⟩ | ⟨hj,hjb,e⟩
    · exact ho
    · trivial
    · refine (k.obj j x e).mono hle (fun hn=>by rw [Env.with_ne _ _ _ hj]; exact hn) (fun d y hd hx=>hh d ?_)
      rintro rfl
      rcases hx with hx | hx
      · exact hjb (k.inj j b x o d y 0 e hg hx hown hd hc)
      · exact absurd (k.ro j x d y e hx hd) hcb
  · rcases f j o1 h1 with ⟨rfl,rfl⟩ | ⟨_,_,rfl⟩ | ⟨hj,hjb,g1⟩
    · rcases f j' o2 h2 with ⟨rfl,rfl⟩ | ⟨_,_,rfl⟩ | ⟨hj',hjb',g2⟩
      · rfl
      · cases w2
      · rw [Env.with_at] at e1; cases e1
        exact absurd (k.inj j' b o2 o c y 0 g2 hg w2 hown (hσ _ _ hj' e2) hc) hjb'
    · cases w1
    · rcases f j' o2 h2 with ⟨rfl,rfl⟩ | ⟨_,_,rfl⟩ | ⟨hj',hjb',g2⟩
      · rw [Env.with_at] at e2; cases e2
        exact absurd (k.inj j b o1 o c x 0 g1 hg w1 hown (hσ _ _ hj e1) hc) hjb
      · cases w2
      · exact k.inj j j' o1 o2 d x y g1 g2 w1 w2 (hσ _ _ hj e1) (hσ _ _ hj' e2)
  · rcases f j x e with ⟨rfl,rfl⟩ | ⟨_,_,rfl⟩ | ⟨hj,hjb,g⟩
    · rw [Env.with_at] at s; cases s; exact hcb
    · cases ow
    · exact k.base j x d y g ow (hσ _ _ hj s)
  · rcases f j _ hj with ⟨rfl,rfl⟩ | ⟨_,_,rfl⟩ | ⟨hj',hjb,g⟩
    · exact absurd hr (by rw [gk hown']; exact Bool.false_ne_true)
    · cases hr
    · exact k.ro j x d y g hr (hσ _ _ hj' s)
  · rw [Heap.next_new,Heap.next_put] at hj
    rw [Env.with_ne _ _ _ (by omega)]; exact k.fresh j (by omega)
  · rw [hsz]
    rcases f j x e with ⟨rfl,rfl⟩ | ⟨hj,hjb,rfl⟩ | ⟨hj,hjb,g⟩
    · rw [Env.with_at] at s; cases s; exact k.lt b o c 0 hg hc
    · subst hjb; exact k.lt j o d y hg (hσ _ _ hj s)
    · exact k.lt j x d y g (hσ _ _ hj s)
  · exact k.below.trans ⟨hos,ht,hout,by omega,fun i hi=>hh i (by rintro rfl; exact hcb hi)⟩
theorem az {α β:Type} {P:Program} {x:Sem α} {f:α→Sem β} {a:α} {w w':World} (h:x.run P w=.ok a w'):(x >>= f).run P w=(f a).run P w':=by
  rw [Sem.run_bind,h]; rfl
theorem cE {P : Program} {w w' : World} {ts : Array Nat} {t u e e' : Nat} (h0 : ts[0]? = some t) (h1 : ts[1]? = some u) (hu : P.underlying t = some (.slice e)) (hx : P.underlying u = some (.slice e')) {size : Nat} (hs : ∀ w, (sizeOf e).run P w = .ok size w)
    {base xb:Option Addr} {len cap n xc:Nat} (hfit:len + n≤cap) {new:Array Value} (hnew:(Builtin.firstCells size n (.slice xb n xc)).run P w=.ok new w)
    (hst:(match base with | some a=>storeCells (a.add (len * size)) new.toList | none=>pure ()).run P w=.ok () w') (ty:Nat):(Builtin.append_ ts ty #[.slice base len cap,.slice xb n xc]).run P w=.ok (.slice base (len + n) cap) w':=by
  unfold Builtin.append_
  rw [h0,h1]
  simp only [List.getElem?_toArray,List.getElem?_cons_zero,List.getElem?_cons_succ]
  rw [az (run_underlying hu w)]
  simp only []
  rw [az (hs w),az (run_underlying hx w),az (a:=false) (w':=w) rfl]
  rw [if_neg (by simp)]
  rw [az (a:=n) (w':=w) (by rfl)]
  rw [if_pos hfit]
  rw [az (a:=new) (w':=w) (by rw [if_pos (by rfl)]; exact hnew)]
  cases base with
  | none=>simp only [] at hst ⊢; cases hst; rfl
  | some a=>simp only [] at hst ⊢; rw [az hst]; rfl
theorem run_append_grow {P : Program} {w : World} {ts : Array Nat} {t u e e' : Nat} (h0 : ts[0]? = some t) (h1 : ts[1]? = some u) (hu : P.underlying t = some (.slice e)) (hx : P.underlying u = some (.slice e')) {j : TypeInfo} (hj : P.info? e = some j)
    {base xb:Option Addr} {len cap n xc:Nat} (hfit:¬ len + n≤cap) (hlen:len≤1000000) (hn:n≤1000000) (hb:j.bytes≤1000000) {old new zero:Array Value}
    (hold:∀ w',w'.heap=w.heap→(Builtin.firstCells j.size len (.slice base len cap)).run P w'=.ok old w') (hnew:∀ w',w'.heap=w.heap→(Builtin.firstCells j.size n (.slice xb n xc)).run P w'=.ok new w')
    {zv:Value} (hz:∀ w,(zeroValue e).run P w=.ok zv w) (hzero:zv.cells=zero) (ty:Nat) :
    ∃ newCap,len + n≤newCap∧(Builtin.append_ ts ty #[.slice base len cap,.slice xb n xc]).run P w =
      .ok (.slice (some ⟨w.heap.size,0,none⟩) (len + n) newCap) ({ w with drawn:=w.drawn + 1 }.alloc (.cells (old ++ new ++ Builtin.zeroCells zero (newCap - (len + n))) e)):=by
  refine ⟨Question.cut (.appendCap (len + n) cap e) (w.tape w.drawn (.appendCap (len + n) cap e)),by simp only [Question.cut]; omega,?_⟩
  generalize hN:Question.cut (.appendCap (len + n) cap e) (w.tape w.drawn (.appendCap (len + n) cap e))=N
  have hs:∀ w,(sizeOf e).run P w=.ok j.size w:=fun w=>by unfold sizeOf; rw [az (run_typeInfo w hj)]; rfl
  have hcap:Builtin.nextslicecap (len + n) cap≤8000000:=by
    unfold Builtin.nextslicecap
    split
    · omega
    · split
      · omega
      · simp only [Builtin.growBy]
        (repeat' split) <;> omega
  have hbig:¬ (Builtin.nextslicecap (len + n) cap * j.bytes > 2 ^ 48):=by
    have:Builtin.nextslicecap (len + n) cap * j.bytes≤8000000 * 1000000:=Nat.mul_le_mul hcap hb
    omega
  have hmax:¬ (((len + n:Nat):Int) > IntKind.i64.max):=by
    have:IntKind.i64.max=9223372036854775807:=by decide
    omega
  unfold Builtin.append_
  rw [h0,h1]
  simp only [List.getElem?_toArray,List.getElem?_cons_zero,List.getElem?_cons_succ]
  rw [az (run_underlying hu w)]
  simp only []
  rw [az (hs w),az (run_underlying hx w),az (a:=false) (w':=w) rfl]
  rw [if_neg (by simp)]
  rw [az (a:=n) (w':=w) (by rfl)]
  rw [if_neg hfit]
  rw [az (run_typeInfo w hj)]
  rw [if_neg (fun hh=>hmax hh.1)]
  rw [az (run_typeInfo w hj)]
  rw [if_neg hbig]
  rw [az (a:=N) (w':={ w with drawn:=w.drawn + 1 }) (by
    unfold choose
    simp only [Sem.run,Question.forced,Bool.false_eq_true,if_false,hN])]
  rw [az (run_typeInfo _ hj),az (run_askRoom P _ _)]
  rw [az (hold { w with drawn:=w.drawn + 1 } rfl)]
  rw [az (a:=new) (w':={ w with drawn:=w.drawn + 1 }) (by rw [if_pos (by rfl)]; exact hnew _ rfl)]
  rw [az (hz _)]
  subst hzero
  rfl
theorem zeroCells_rep (zero:Array Value) (m:Nat):Builtin.zeroCells zero m=(rep zero.toList m).toArray:=by
  unfold Builtin.zeroCells
  exact gu zero m
theorem slice_value {E:Env} {x:AV} {n:Nat} (h:lenA x=some n) {v:Value} (hv:af E x=some v):∃ b c,v=.slice b n c:=by
  unfold lenA at h
  split at h
  · cases h; obtain ⟨q,_,rfl⟩:=b6 hv; exact ⟨_,_,rfl⟩
  · cases h; obtain ⟨q,_,_,rfl⟩:=bt hv; exact ⟨_,_,rfl⟩
  · cases h; simp only [af,Option.some.injEq] at hv; exact ⟨_,_,hv.symm⟩
  · cases h
theorem lenA_nb {x:AV} {n:Nat} (h:lenA x=some n):aT x=true:=by
  unfold lenA at h
  split at h <;> first | rfl | cases h
theorem appendTo_nb {h:Heap} {e size n:Nat} {s:AV} {new:List AV} {r:AV × Heap} (k:appendTo h e size n s new=some r):aT s=true:=by
  unfold appendTo at k
  split at k <;> first | rfl | cases k
theorem sliceX_new {E:Env} {n c K size len:Nat} (h:len≤K):af (E.with n (c,0) K) (.sliceX n size 0 len)=some (.slice (some ⟨c,0,none⟩) len K):=by
  simp [af,Env.with_at,Env.with_κ,h]
theorem append_ok {p : Par} {ty : Nat → Option TI} (T : ct p.P ty) {c : Call} {t u e e' : Nat} (hts : c.argTypes.toList = [t, u]) {i iu j : TI} (ht : ty t = some i) (hd : i.desc = .slice e) (hu' : ty u = some iu) (hdu : iu.desc = .slice e') (he : ty e = some j) {z : List AV} (hz : du j = some z)
    {x1 x2:Operand} (hxs:c.args.toList=[x1,x2]) {y1 y2:Opd} (h1:bk x1=some y1) (h2:bk x2=some y2) (hb:c.callee=.builtin .append) {o:Oper} (ho:o.op=.call c):bC p (gj e j.size j.bytes y1 y2) o:=by
  intro cx n' keep E w0 tm h a w Q K _ HT HH k P
  rw [dL a o ho hb]
  have hargs:c.args.map a.eval=#[a.eval x1,a.eval x2]:=by
    have:c.args=#[x1,x2]:=by rw [← Array.toList_inj]; exact hxs
    rw [this]; simp
  rw [hargs]
  have hut:=T.und t i ht
  rw [hd] at hut
  have huu:=T.und u iu hu'
  rw [hdu] at huu
  have t0:c.argTypes[0]?=some t:=by rw [← Array.getElem?_toList,hts]; rfl
  have t1:c.argTypes[1]?=some u:=by rw [← Array.getElem?_toList,hts]; rfl
  obtain ⟨jj,hj1,hj2,hj3,_⟩:=T.info e j he
  have hsz:=fun w=>bq T he w
  unfold builtin
  simp only
  cases hr:aappend h e j.size j.bytes (ev tm y1) (ev tm y2) with
  | none=>simp only [gj,hr,Sx.T.of] at k; exact k.elim
  | some r =>
    simp only [gj,hr,Sx.T.of] at k
    have q:Q r:=k
    unfold aappend at hr
    cases hln:lenA (ev tm y2) with
    | none=>rw [hln] at hr; cases hr
    | some n =>
      rw [hln] at hr
      simp only at hr
      cases hfa:firstA h j.size n (ev tm y2) with
      | none=>rw [hfa] at hr; cases hr
      | some new =>
        rw [hfa] at hr
        simp only at hr
        cases hc:and (Nat.ble n 1000000) (and (Nat.ble j.bytes 1000000) (and (Nat.ble 1 j.size) (dc new))) with
        | false=>rw [hc] at hr; cases hr
        | true =>
          rw [hc,cond_true] at hr
          obtain ⟨c1,c2⟩:=Bool.and_eq_true_iff.1 hc
          obtain ⟨c2,c3⟩:=Bool.and_eq_true_iff.1 c2
          obtain ⟨c3,hok⟩:=Bool.and_eq_true_iff.1 c3
          have c1:=aD.1 c1
          have c2:=aD.1 c2
          have c3:=aD.1 c3
          have hv2:=ax HT h2 (lenA_nb hln) HH.glob
          obtain ⟨xb,xc,hx2⟩:=slice_value hln hv2
          obtain ⟨nv,hnv,hnrun,hnl⟩:=fB HH hfa hv2
          rw [hx2] at hnrun ⊢
          have hv1:=ax HT h1 (appendTo_nb hr) HH.glob
          have growK : ∀ {len cap : Nat} {base : Option Addr} {old : List AV} {hh : Heap}, a.eval x1 = .slice base len cap → ¬ len + n ≤ cap → len ≤ 1000000 → firstA h j.size len (ev tm y1) = some old →
              HeapOk p E hh w0 w→hh.next=h.next→Q (.sliceX h.next j.size 0 (len + n),hh.new (.cells (old ++ new) e true true)) →
              Does p.P ((do let v ← Builtin.append_ c.argTypes o.type #[a.eval x1,.slice xb n xc]; pure (Next.value v):Sem Next).run p.P w) K:=by
            intro len cap base old hh hx1 hnf hlen hfo hH hnx hq
            obtain ⟨ov,hov,horun,hol⟩:=fB HH hfo hv1
            have heap_eq:∀ {w':World},w'.heap=w.heap→HeapOk p E h w0 w'→True:=fun _ _=>trivial
            have hdrew:∀ w',w'.heap=w.heap→(Builtin.firstCells j.size len (.slice base len cap)).run p.P w'=.ok ov.toArray w':=by
              intro w' hw'
              have:=(fB (p:=p) (E:=E) (h:=h) (w0:=⟨{ w0.w with os:=w'.os,tape:=w'.tape,output:=w'.output },w0.S,w0.lt⟩) (w:=w') ?_ hfo hv1)
              · obtain ⟨vs,g1,g2,_⟩:=this
                rw [hov] at g1; cases g1
                rw [hx1] at g2; exact g2
              · exact ⟨fun b o e=>by rw [hw']; exact HH.obj b o e,HH.inj,HH.base,HH.ro,HH.fresh,fun b o c x e s=>by rw [hw']; exact HH.lt b o c x e s,HH.glob,⟨rfl,rfl,rfl,by rw [hw']; exact HH.below.size,fun k hk=>by rw [hw']; exact HH.below.block k hk⟩,HH.nx,HH.ok⟩
            have hdrew2:∀ w',w'.heap=w.heap→(Builtin.firstCells j.size n (.slice xb n xc)).run p.P w'=.ok nv.toArray w':=by
              intro w' hw'
              have:=(fB (p:=p) (E:=E) (h:=h) (w0:=⟨{ w0.w with os:=w'.os,tape:=w'.tape,output:=w'.output },w0.S,w0.lt⟩) (w:=w') ?_ hfa hv2)
              · obtain ⟨vs,g1,g2,_⟩:=this
                rw [hnv] at g1; cases g1
                rw [hx2] at g2; exact g2
              · exact ⟨fun b o e=>by rw [hw']; exact HH.obj b o e,HH.inj,HH.base,HH.ro,HH.fresh,fun b o c x e s=>by rw [hw']; exact HH.lt b o c x e s,HH.glob,⟨rfl,rfl,rfl,by rw [hw']; exact HH.below.size,fun k hk=>by rw [hw']; exact HH.below.block k hk⟩,HH.nx,HH.ok⟩
            obtain ⟨zv,_,hzrun0,hzs⟩:=fU T he hz E w
            have hzrun:∀ w',(zeroValue e).run p.P w'=.ok zv w':=by
              intro w'
              obtain ⟨zv',_,hzrun',_⟩:=fU T he hz E w'
              have e1:∀ {w1 w2:World} {a b:Value},(zeroValue e).run p.P w1=.ok a w1→(zeroValue e).run p.P w2=.ok b w2→a=b:=by
                intro w1 w2 a b g1 g2
                unfold zeroValue at g1 g2
                rw [az (run_typeInfo _ hj1)] at g1 g2
                cases hjz:jj.zero with
                | none=>rw [hjz] at g1; cases g1
                | some v0 =>
                  rw [hjz] at g1 g2
                  simp only [pure,Sem.run,Result.ok.injEq] at g1 g2
                  rw [← g1.1,← g2.1]
              rw [e1 hzrun0 hzrun']; exact hzrun'
            rw [hx1]
            obtain ⟨N,hN,hrun⟩:=run_append_grow (P:=p.P) (w:=w) t0 t1 hut huu hj1 (base:=base) (xb:=xb) (xc:=xc) hnf hlen c1 (by rw [hj3]; exact c2) (by rw [hj2]; exact hdrew) (by rw [hj2]; exact hdrew2) hzrun rfl o.type
            refine ai hrun ?_
            have hH':HeapOk p E hh w0 { w with drawn:=w.drawn + 1 }:=hH.world ⟨rfl,rfl,rfl,Nat.le_refl _,fun _ _=>rfl⟩
            have hfr:E.σ hh.next=none:=hH.fresh _ (Nat.le_refl _)
            have hle:=Env.with_le hfr hH.nx (w.heap.size,0) N
            refine P _ _ (E.with hh.next (w.heap.size,0) N) _ _ hq hle ?_ ?_
            · refine hH'.alloc (κ:=N) (o:=.cells (old ++ new) e true true) rfl ⟨w.heap.size,0,ov ++ nv,_,e,(0,0),Env.with_at _ _ _ _,ce (a9 hle _ _ hov) (a9 hle _ _ hnv),by simp; rfl,?_,fun _=>⟨rfl,rfl,(fun x=>by cases x),fun _=>⟨jj,hj1,?_⟩⟩⟩
              · intro k hk
                simp only [Nat.zero_add]
                rw [Array.getElem?_append_left (by simpa using hk)]
                simp
              · rw [Env.with_κ,zeroCells_rep]
                simp only [Array.size_append,List.size_toArray,rep_len,Array.length_toList,List.length_append,hol,hnl,hzs,hj2]
                rw [← Nat.add_mul,← Nat.add_mul]
                congr 1
                omega
            · rw [← hnx]
              simp only [af]
              rw [Env.with_κ,if_pos (by omega),Env.with_at]
              simp
          unfold appendTo at hr
          split at hr
          · -- nil
            rename_i hs
            have hx1:a.eval x1=.slice none 0 0:=bJ HT h1 (by rw [hs]; rfl) HH.glob
            by_cases hn:n=0
            · subst hn
              cases hr
              rw [hx1]
              have hnv0:nv=[]:=List.length_eq_zero_iff.1 (by simpa using hnl)
              refine ai (cE t0 t1 hut huu hsz (by omega) hnrun (w':=w) ?_ o.type) (P.same HH q rfl)
              rfl
            · rw [bW.2 hn,cond_false] at hr
              cases hr
              refine growK hx1 (by omega) (by omega) (old:=[]) (by rw [hs]; rfl) HH rfl ?_
              have e1:cC ([]:List AV) new=[] ++ new:=aI _ _
              unfold grow at q
              rw [e1] at q
              exact q
          · rename_i b off len cap hs
            have hv1':=hv1
            rw [hs] at hv1'
            obtain ⟨qb,hqb,hx1⟩:=b6 hv1'
            cases hfit:Nat.ble (len + n) cap with
            | true =>
              rw [hfit,cond_true] at hr
              have hfit:=aD.1 hfit
              by_cases hn:n=0
              · subst hn
                cases hr
                have hnv0:nv=[]:=List.length_eq_zero_iff.1 (by simpa using hnl)
                rw [hx1]
                refine ai (cE t0 t1 hut huu hsz hfit hnrun (w':=w) ?_ o.type) (P.same HH q ?_)
                · simp only [hnv0]; rfl
                · rw [Nat.add_zero,← hs]; exact hx1 ▸ hv1
              · rw [bW.2 hn,cond_false] at hr
                split at hr
                · rename_i h' hst
                  cases hr
                  obtain ⟨cs,el,xx,cs',hg,hlen',_,hp,rfl⟩:=ib hst
                  obtain ⟨w',hrun,H'⟩:=HH.storeCells hg hnv hok hp hqb
                  rw [hx1]
                  refine ai (cE t0 t1 hut huu hsz hfit hnrun (w':=w') ?_ o.type) ?_
                  · simp only [gA]
                    rw [Nat.add_assoc]
                    simpa using hrun
                  · exact P _ _ E w' _ q (Env.le.refl E) H' (by simp [af,hqb])
                · cases hr
            | false =>
              rw [hfit,cond_false] at hr
              have hfit:¬ len + n≤cap:=fun hh=>by rw [aD.2 hh] at hfit; cases hfit
              split at hr
              · rename_i old hfo
                cases hl:Nat.ble len 1000000 with
                | false=>rw [hl] at hr; cases hr
                | true =>
                  rw [hl] at hr; cases hr
                  refine growK hx1 hfit (aD.1 hl) (old:=old) hfo HH rfl ?_
                  unfold grow at q
                  rw [aI] at q
                  exact q
              · cases hr
          · rename_i b sz zz len hs
            have hv1':=hv1
            rw [hs] at hv1'
            obtain ⟨qb,hqb,hle0,hx1⟩:=bt hv1'
            by_cases hn:n=0
            · subst hn
              cases hr
              have hnv0:nv=[]:=List.length_eq_zero_iff.1 (by simpa using hnl)
              rw [hx1]
              refine ai (cE t0 t1 hut huu hsz (by omega) hnrun (w':=w) ?_ o.type) (P.same HH q ?_)
              · simp only [hnv0]; rfl
              · have:=hv1
                rw [hx1] at this
                simpa using this
            · rw [bW.2 hn,cond_false] at hr
              split at hr
              · rename_i old ocs el own ext hfo hg
                cases hcc:and (and own ext) (and (Nat.ble len 1000000) (and (Nat.beq el e) (and (Nat.beq sz j.size) (Nat.beq zz 0)))) with
                | false=>rw [hcc] at hr; cases hr
                | true =>
                  rw [hcc] at hr; cases hr
                  obtain ⟨d1,d2⟩:=Bool.and_eq_true_iff.1 hcc
                  obtain ⟨d1,d3⟩:=Bool.and_eq_true_iff.1 d1
                  obtain ⟨d2,d4⟩:=Bool.and_eq_true_iff.1 d2
                  obtain ⟨d4,d5⟩:=Bool.and_eq_true_iff.1 d4
                  obtain ⟨d5,d6⟩:=Bool.and_eq_true_iff.1 d5
                  have hl2:=aD.1 d2
                  have d4:=aq.1 d4
                  have d5:=aq.1 d5
                  have d6:=aq.1 d6
                  subst d1; subst d3; subst d4; subst d5; subst d6
                  have hk:=HH.kill hg
                  by_cases hfit:len + n≤E.κ b - 0
                  · -- in place
                    obtain ⟨c,base,us,cells,el',fz,g1,g2,g3,g4,g5⟩:=HH.obj b _ hg
                    rw [hqb] at g1; cases g1
                    obtain ⟨rfl,rfl,_,g7⟩:=g5 rfl
                    obtain ⟨ii,g8,g9⟩:=g7 rfl
                    rw [hj1] at g8; cases g8
                    rw [hj2] at g9
                    obtain ⟨ov,hov,horun,hol⟩:=fB HH hfo hv1
                    have hcell:∀ m,m < len * j.size→cells[m]?=ov[m]?:=by
                      intro m hm
                      rw [hx1] at horun
                      unfold firstA at hfo
                      rw [hs] at hfo
                      simp only at hfo
                      rw [show and (Nat.ble len len) (Nat.beq j.size j.size)=true from by rw [aD.2 (Nat.le_refl _),aq.2 rfl]; rfl,cond_true] at hfo
                      by_cases hl0:len=0
                      · subst hl0; omega
                      · rw [bW.2 hl0,cond_false] at hfo
                        have hcells:h.cells b=some ocs:=by unfold Heap.cells; rw [hg]
                        rw [hcells] at hfo
                        simp only [Nat.zero_mul] at hfo
                        obtain ⟨hle1,rfl⟩:=fC hfo
                        have e1:=fD (fE g2 0) (len * j.size)
                        rw [hov] at e1
                        cases e1
                        have hul:=bD g2
                        have:=g4 m (by omega)
                        rw [Nat.zero_add] at this
                        rw [this,List.getElem?_take,if_pos hm,List.drop_zero]
                    have hfits:len * j.size + nv.length≤cells.size:=by
                      rw [hnl,g9,← Nat.add_mul]
                      exact Nat.mul_le_mul_right _ (by omega)
                    have hstore:=run_storeCells_at p.P c (len * j.size) el' nv 0 cells w g3 (by omega) (allOk_one hnv hok)
                    simp only [Nat.add_zero] at hstore
                    have hnew:=setRow_heap w c cells (cells.toList.take (len * j.size) ++ nv ++ cells.toList.drop (len * j.size + nv.length)).toArray el' (0,0) g3
                    have hfr:E.σ h.next=none:=HH.fresh _ (Nat.le_refl _)
                    have hle:=Env.with_le hfr HH.nx (c,0) (E.κ b)
                    have hlc:(cells.toList.take (len * j.size)).length=len * j.size:=by simp; omega
                    have HR:=HH.reuse (o':=.cells (old ++ new) el true true) (w':=w.setRow c (cells.toList.take (len * j.size) ++ nv ++ cells.toList.drop (len * j.size + nv.length)).toArray) hg rfl hqb rfl
                      ⟨c,0,ov ++ nv,_,el',(0,0),Env.with_at _ _ _ _,ce (a9 hle _ _ hov) (a9 hle _ _ hnv),hnew,(by
                        intro m hm
                        simp only [Nat.zero_add,List.getElem?_toArray]
                        rw [List.append_assoc]
                        by_cases hm1:m < len * j.size
                        · rw [List.getElem?_append_left (by omega),List.getElem?_append_left (by omega),List.getElem?_take,if_pos hm1,← hcell m hm1]
                          simp
                        · rw [List.getElem?_append_right (l₁:=cells.toList.take _) (by omega),List.getElem?_append_right (l₁:=ov) (by omega),hlc,hol]
                          rw [List.getElem?_append_left (by simp at hm; omega)]),
                       (fun _ => ⟨rfl, rfl, (fun x => by cases x), fun _ => ⟨jj, hj1, by
                          rw [Env.with_κ,hj2]
                          simp
                          omega⟩⟩)⟩
                      (fun i hi=>setRow_other w c i _ hi) rfl rfl rfl (by simp)
                    rw [hx1]
                    refine ai (cE t0 t1 hut huu hsz hfit hnrun (w':=w.setRow c (cells.toList.take (len * j.size) ++ nv ++ cells.toList.drop (len * j.size + nv.length)).toArray) ?_ o.type) ?_
                    · simp only [gA]
                      have:(0 + (if E.κ b=0 then 0 else 0 * j.size) + len * j.size)=len * j.size:=by simp
                      rw [this]
                      simpa using hstore
                    · unfold grow at q
                      rw [aI] at q
                      refine P _ _ _ _ _ q ?_ HR ?_
                      · exact hle
                      · show af (E.with h.next (c,0) (E.κ b)) (.sliceX h.next j.size 0 (len + n))=_
                        rw [sliceX_new (by omega)]
                        simp
                  · refine growK hx1 hfit hl2 (old:=old) hfo hk rfl ?_
                    unfold grow at q
                    rw [aI] at q
                    exact q
              · cases hr
          · cases hr
theorem copy_ok {p : Par} {ty : Nat → Option TI} (T : ct p.P ty) {c : Call} {t u e : Nat} (hts : c.argTypes.toList = [t, u]) {i j : TI} (ht : ty t = some i) (hd : i.desc = .slice e) (he : ty e = some j)
    {x1 x2:Operand} (hxs:c.args.toList=[x1,x2]) {y1 y2:Opd} (h1:bk x1=some y1) (h2:bk x2=some y2) (hb:c.callee=.builtin .copy) {o:Oper} (ho:o.op=.call c):bC p (iCopy j.size y1 y2) o:=by
  intro cx n' keep E w0 tm h a w Q K _ HT HH k P
  rw [dL a o ho hb]
  have hargs:c.args.map a.eval=#[a.eval x1,a.eval x2]:=by
    have:c.args=#[x1,x2]:=by rw [← Array.toList_inj]; exact hxs
    rw [this]; simp
  rw [hargs]
  have hut:=T.und t i ht
  rw [hd] at hut
  have t0:c.argTypes[0]?=some t:=by rw [← Array.getElem?_toList,hts]; rfl
  have hsz:=fun w=>bq T he w
  unfold builtin
  simp only
  cases hr:acopy h j.size (ev tm y1) (ev tm y2) with
  | none=>simp only [iCopy,hr,Sx.T.of] at k; exact k.elim
  | some r =>
    simp only [iCopy,hr,Sx.T.of] at k
    have q:Q r:=k
    unfold acopy at hr
    split at hr
    · rename_i b off dlen cap hs
      cases hln:lenA (ev tm y2) with
      | none=>rw [hln] at hr; cases hr
      | some m =>
        rw [hln] at hr
        simp only at hr
        have hmin:(cond (Nat.ble m dlen) m dlen)=Nat.min m dlen:=by
          cases hbl:Nat.ble m dlen with
          | true=>have:=aD.1 hbl; simp only [cond_true]; show m=min m dlen; omega
          | false =>
            have:¬ m≤dlen:=fun hh=>by rw [aD.2 hh] at hbl; cases hbl
            simp only [cond_false]; show dlen=min m dlen; omega
        generalize (cond (Nat.ble m dlen) m dlen)=n at hmin hr
        cases hfa:firstA h j.size n (ev tm y2) with
        | none=>rw [hfa] at hr; cases hr
        | some new =>
          rw [hfa] at hr
          simp only at hr
          cases hok:dc new with
          | false=>rw [hok] at hr; cases hr
          | true =>
            rw [hok,cond_true] at hr
            split at hr
            · rename_i h' hst
              cases hr
              have hv2:=ax HT h2 (lenA_nb hln) HH.glob
              obtain ⟨xb,xc,hx2⟩:=slice_value hln hv2
              obtain ⟨nv,hnv,hnrun,hnl⟩:=fB HH hfa hv2
              rw [hx2] at hnrun ⊢
              have hv1:af E (ev tm y1)=some (a.eval x1):=ax HT h1 (by rw [hs]; rfl) HH.glob
              rw [hs] at hv1
              obtain ⟨qb,hqb,hx1⟩:=b6 hv1
              rw [hx1]
              obtain ⟨cs,el,xx,cs',hg,hlen',_,hp,rfl⟩:=ib hst
              obtain ⟨w',hrun,H'⟩:=HH.storeCells hg hnv hok hp hqb
              refine ai (v:=goInt n) (w':=w') ?_ (P _ _ E w' _ q (Env.le.refl E) H' rfl)
              unfold Builtin.copy_
              rw [t0]
              simp only [List.getElem?_toArray,List.getElem?_cons_zero,List.getElem?_cons_succ]
              rw [az (run_underlying hut w)]
              simp only []
              rw [az (a:=m) (w':=w) (by rfl)]
              rw [az (hsz w)]
              rw [← hmin]
              rw [az (a:=nv.toArray) (w':=w) hnrun]
              simp only []
              rw [az (a:=()) (w':=w') (by simpa using hrun)]
              rfl
            · cases hr
    · cases hr
end Go.Sx
namespace Go.Sx
open Go.RowKit
theorem func_conc' {E:Env} {f:FuncId} {x y:List AV} {v:Value} (h:af E (.func (.func f) x y)=some v):∃ a b,ad E x=some a∧ad E y=some b∧v=.func (.func f) a.toArray b.toArray:=by
  simp only [af] at h
  cases hx:ad E x with
  | none=>rw [hx] at h; simp at h
  | some l =>
    cases hy:ad E y with
    | none=>rw [hx,hy] at h; simp at h
    | some m=>rw [hx,hy] at h; simp at h; exact ⟨l,m,rfl,rfl,h.symm⟩
theorem call_ok {p:Par} {c:Call} {f:Operand} {yf:Opd} {ys:List Opd} (hf:bk f=some yf) (hys:eK c.args.toList=some ys) (hc:c.callee=.value f) {o:Oper} (ho:o.op=.call c):bC p (ar yf ys) o:=by
  intro cx n keep E w0 tm h a w Q K CX HT HH k P
  simp only [ar,rCall] at k
  cases hb:bz aT (evs tm ys) with
  | false=>rw [hb] at k; exact k.elim
  | true =>
    rw [hb,cond_true] at k
    have hargs:=fR HT HH.glob hys hb
    have hex:(execOp a.eval o).run p.P w=(do let d ← Deferred.ofValue (a.eval f) (c.args.map a.eval); invoke d.target d.args:Sem Next).run p.P w:=by
      unfold execOp
      rw [ho]
      unfold resolve
      simp only [hc]
    rw [hex]
    unfold callA at k
    split at k
    · rename_i fn first captured he
      split at k
      · rename_i fid
        have hv:=ax HT hf (by rw [he]; rfl) HH.glob
        rw [he] at hv
        obtain ⟨l1,l2,e1,e2,hv'⟩:=func_conc' hv
        rw [hv']
        rw [az (a:={ target:=.fn (.func fid) l2.toArray,args:=l1.toArray ++ c.args.map a.eval }) (w':=w) rfl]
        have:(invoke (.fn (.func fid) l2.toArray) (l1.toArray ++ c.args.map a.eval)).run p.P w=(callFunc fid ((l1.toArray ++ c.args.map a.eval) ++ l2.toArray)).run p.P w:=rfl
        rw [this]
        have harr:((l1.toArray ++ c.args.map a.eval) ++ l2.toArray)=(l1 ++ (c.args.toList.map a.eval ++ l2)).toArray:=by
          apply Array.ext'
          simp
        rw [harr]
        rw [aI,aI] at k
        obtain ⟨hc1,hc2⟩:=CX.call fid _ h _ E w0 w Q K k HH (ce e1 (ce hargs e2)) P
        rw [hc1]
        exact hc2
      · exact k.elim
    · rename_i l he
      have hv:=ax HT hf (by rw [he]; rfl) HH.glob
      rw [he] at hv
      obtain ⟨q,hq,hv'⟩:=fJ hv
      rw [hv']
      rw [az (a:={ target:=.fn (.yield q.1) #[],args:=#[] ++ c.args.map a.eval }) (w':=w) rfl]
      have:(invoke (.fn (.yield q.1) #[]) (#[] ++ c.args.map a.eval)).run p.P w=(Instr.yield q.1 (#[] ++ c.args.map a.eval)).run p.P w:=rfl
      rw [this]
      have harr:(#[] ++ c.args.map a.eval)=(c.args.toList.map a.eval).toArray:=by
        apply Array.ext'
        simp
      rw [harr]
      exact CX.yield l _ h _ E w0 w Q K q k HH hargs hq P
    · exact k.elim
theorem cCall_ok {p:Par} {ty:Nat→Option TI} (T:ct p.P ty) {c:Call} {f:Ins} (h:cCall ty c=some f) {o:Oper} (ho:o.op=.call c):bC p f o:=by
  unfold cCall at h
  split at h
  · cases h
  · rename_i args hargs
    split at h
    · rename_i g hg
      split at h
      · rename_i yg hyg
        cases h
        exact call_ok hyg hargs hg ho
      · cases h
    · cases h
    · rename_i b hb
      split at h
      · -- len
        split at h
        · rename_i t ts x hts
          have hone:∃ z,c.args.toList=[z]∧bk z=some x:=by
            cases hl:c.args.toList with
            | nil=>rw [hl] at hargs; cases hargs
            | cons z l =>
              rw [hl] at hargs
              simp only [eK] at hargs
              cases hz:bk z with
              | none=>rw [hz] at hargs; cases hargs
              | some y =>
                cases hl':eK l with
                | none=>rw [hz,hl'] at hargs; cases hargs
                | some m =>
                  rw [hz,hl'] at hargs
                  cases hargs
                  cases l with
                  | nil=>exact ⟨z,rfl,hz⟩
                  | cons z' l' =>
                    simp only [eK] at hl'
                    split at hl' <;> cases hl'
          obtain ⟨z,hz1,hz2⟩:=hone
          split at h
          · rename_i i hi
            split at h
            · rename_i n e hd; cases h; exact lenA_ok T hts hi hd hz1 hb ho
            · rename_i e hd; cases h; exact lenS_ok T hts hi hd hz1 hz2 hb ho
            · rename_i k e hd; cases h; exact lenM_ok T hts hi hd hz1 hz2 hb ho
            · cases h
          · cases h
        · cases h
      · cases h2:Nat.ble 2 args.length with
        | false=>rw [h2] at h; cases h
        | true=>rw [h2] at h; cases h; exact max_ok hargs (aD.1 h2) hb ho
      · cases h2:Nat.ble 2 args.length with
        | false=>rw [h2] at h; cases h
        | true=>rw [h2] at h; cases h; exact min_ok hargs (aD.1 h2) hb ho
      · split at h
        · rename_i t u s x hts
          have htwo:∃ z1 z2,c.args.toList=[z1,z2]∧bk z1=some s∧bk z2=some x:=by
            cases hl:c.args.toList with
            | nil=>rw [hl] at hargs; cases hargs
            | cons z1 l =>
              rw [hl] at hargs
              simp only [eK] at hargs
              split at hargs
              · rename_i y1 m h1 h2
                cases hargs
                cases l with
                | nil=>cases h2
                | cons z2 l =>
                  simp only [eK] at h2
                  split at h2
                  · rename_i y2 m' h3 h4
                    cases h2
                    cases l with
                    | nil=>exact ⟨z1,z2,rfl,h1,h3⟩
                    | cons z3 l =>
                      simp only [eK] at h4
                      split at h4 <;> cases h4
                  · cases h2
              · cases hargs
          obtain ⟨z1,z2,hz1,hz2,hz3⟩:=htwo
          split at h
          · rename_i i iu hi hiu
            split at h
            · rename_i e e' hd hdu
              split at h
              · rename_i j hj
                split at h
                · rename_i z hz; cases h; exact append_ok T hts hi hd hiu hdu hj hz hz1 hz2 hz3 hb ho
                · cases h
              · cases h
            · cases h
          · cases h
        · cases h
      · split at h
        · rename_i t u s x hts
          have htwo:∃ z1 z2,c.args.toList=[z1,z2]∧bk z1=some s∧bk z2=some x:=by
            cases hl:c.args.toList with
            | nil=>rw [hl] at hargs; cases hargs
            | cons z1 l =>
              rw [hl] at hargs
              simp only [eK] at hargs
              split at hargs
              · rename_i y1 m h1 h2
                cases hargs
                cases l with
                | nil=>cases h2
                | cons z2 l =>
                  simp only [eK] at h2
                  split at h2
                  · rename_i y2 m' h3 h4
                    cases h2
                    cases l with
                    | nil=>exact ⟨z1,z2,rfl,h1,h3⟩
                    | cons z3 l =>
                      simp only [eK] at h4
                      split at h4 <;> cases h4
                  · cases h2
              · cases hargs
          obtain ⟨z1,z2,hz1,hz2,hz3⟩:=htwo
          split at h
          · rename_i i hi
            split at h
            · rename_i e hd
              split at h
              · rename_i j hj
                cases h; exact copy_ok T hts hi hd hj hz1 hz2 hz3 hb ho
              · cases h
            · cases h
          · cases h
        · cases h
      · cases h
theorem cBin_ok {p:Par} {ty:Nat→Option TI} (T:ct p.P ty) {op:BinOp} {t t':TypeId} {x1 x2:Operand} {y1 y2:Opd} (h1:bk x1=some y1) (h2:bk x2=some y2) {f:Ins} (h:cBin ty op t y1 y2=some f) {o:Oper} (ho:o.op=.binOp op t x1 x2 t'):bC p f o:=by
  unfold cBin at h
  split at h
  · cases h; exact shift_ok (.inl rfl) h1 h2 ho
  · cases h; exact shift_ok (.inr rfl) h1 h2 ho
  · cases h; exact cmp_ok h1 h2 ho
  · cases h; exact cmp_ok h1 h2 ho
  · cases h; exact cmp_ok h1 h2 ho
  · cases h; exact cmp_ok h1 h2 ho
  · split at h
    · rename_i i hi
      cases hint:isInt i with
      | true=>rw [hint] at h; cases h; exact cmp_ok h1 h2 ho
      | false =>
        rw [hint,cond_false] at h
        split at h
        · rename_i ls hls; cases h; exact eq_ok (ng:=false) T hi hint hls h1 h2 (by rw [ho]; rfl)
        · cases h
    · cases h
  · split at h
    · rename_i i hi
      cases hint:isInt i with
      | true=>rw [hint] at h; cases h; exact cmp_ok h1 h2 ho
      | false =>
        rw [hint,cond_false] at h
        split at h
        · rename_i ls hls; cases h; exact eq_ok (ng:=true) T hi hint hls h1 h2 (by rw [ho]; rfl)
        · cases h
    · cases h
  · rename_i n1 n2 n3 n4 n5 n6 n7 n8
    cases h
    refine arith_ok ?_ h1 h2 ho
    cases op <;> first | rfl | (exfalso; simp at *; done)
theorem places_ok {P : Program} {ty : Nat → Option TI} (T : ct P ty) : ∀ (fs : List Field), (fs.all fun f => (ty f.type).isSome) = true →
    ∃ places,fs.mapM (fun f=>(P.info? f.type).map fun i=>(f.offset,i.size))=some places∧∀ i,places[i]?=placeF ty fs i
  | [],_=>⟨[],rfl,fun i=>by simp [placeF]⟩
  | f :: fs,h=>by
    simp only [List.all_cons,Bool.and_eq_true] at h
    obtain ⟨l,hl,hp⟩:=places_ok T fs h.2
    cases ht:ty f.type with
    | none=>rw [ht] at h; cases h.1
    | some j =>
      obtain ⟨i,hi,hs,_,_⟩:=T.info _ _ ht
      refine ⟨(f.offset,j.size) :: l,by simp [List.mapM_cons,hi,hl,hs],fun n=>?_⟩
      cases n with
      | zero=>simp [placeF,ht]
      | succ n=>rw [List.getElem?_cons_succ,hp n]; simp [placeF]
theorem cBuild_ok {p:Par} {ty:Nat→Option TI} (T:ct p.P ty) {t:Nat} {parts:Array (Nat × Operand)} {f:Ins} (h:cBuild ty t parts.toList=some f) {o:Oper} (ho:o.op=.build t parts):bC p f o:=by
  unfold cBuild at h
  split at h
  · rename_i i hi
    split at h
    · rename_i z hz
      split at h
      · rename_i fs hd
        cases ha:(fs.toList.all fun f=>(ty f.type).isSome) with
        | false=>rw [ha] at h; cases h
        | true =>
          rw [ha,cond_true] at h
          cases hp:eL (placeF ty fs.toList) parts.toList with
          | none=>rw [hp] at h; cases h
          | some ps =>
            rw [hp,Option.map_some,Option.some.injEq] at h
            subst h
            refine build_ok T hi hz hp ?_ ho
            rintro v l cs ⟨j,hj,hv⟩ hf
            obtain ⟨places,hp1,hp2⟩:=places_ok T fs.toList ha
            have hu:=T.und t i hi
            rw [hd] at hu
            unfold Program.built
            rw [hj,hu]
            simp only [hv,hp1]
            rw [← hf]
            congr 1
            funext n
            simp [hp2]
      · rename_i n e hd
        split at h
        · rename_i j hj
          cases hp:eL (fun n=>some (n * j.size,j.size)) parts.toList with
          | none=>rw [hp] at h; cases h
          | some ps =>
            rw [hp,Option.map_some,Option.some.injEq] at h
            subst h
            refine build_ok T hi hz hp ?_ ho
            rintro v l cs ⟨k,hk,hv⟩ hf
            obtain ⟨i',hi',hs,_,_⟩:=T.info _ _ hj
            have hu:=T.und t i hi
            rw [hd] at hu
            unfold Program.built
            rw [hk,hu]
            simp only [hv,hi',hs]
            exact hf
        · cases h
      · cases h
    · cases h
  · cases h
theorem cBslice_ok {p:Par} {ty:Nat→Option TI} (T:ct p.P ty) {t len:Nat} {parts:Array (Nat × Operand)} {f:Ins} (h:cBslice ty t len parts.toList=some f) {o:Oper} (ho:o.op=.buildSlice t len parts):bC p f o:=by
  unfold cBslice at h
  split at h
  · rename_i i hi
    split at h
    · rename_i e hd
      split at h
      · rename_i j hj
        split at h
        · rename_i z hz
          cases hb:Nat.ble (len * j.size) 1000000 with
          | false=>rw [hb] at h; cases h
          | true =>
            rw [hb,cond_true] at h
            cases hp:eL (fun n=>some (n * j.size,j.size)) parts.toList with
            | none=>rw [hp] at h; cases h
            | some ps =>
              rw [hp,Option.map_some,Option.some.injEq] at h
              subst h
              exact bslice_ok T hi hd hj hz (aD.1 hb) hp ho
        · cases h
      · cases h
    · cases h
  · cases h
theorem cMkslice_ok {p:Par} {ty:Nat→Option TI} (T:ct p.P ty) {t:Nat} {x1 x2:Operand} {y1 y2:Opd} (h1:bk x1=some y1) (h2:bk x2=some y2) {f:Ins} (h:cMkslice ty t y1 y2=some f) {o:Oper} (ho:o.op=.makeSlice t x1 x2):bC p f o:=by
  unfold cMkslice at h
  split at h
  · rename_i i hi
    split at h
    · rename_i e hd
      split at h
      · rename_i j hj
        split at h
        · rename_i z hz
          cases h
          exact mkslice_ok T hi hd hj hz h1 h2 ho
        · cases h
      · cases h
    · cases h
  · cases h
theorem cSlice_ok {p : Par} {ty : Nat → Option TI} (T : ct p.P ty) {t : Nat} {x : Operand} {y : Opd} (hx : bk x = some y) {lo hi mx : Option Operand} {ylo yhi ymx : Option Opd} (h1 : cOpt lo = some ylo) (h2 : cOpt hi = some yhi) (h3 : cOpt mx = some ymx)
    {f:Ins} (h:cSlice ty t y ylo yhi ymx=some f) {o:Oper} (ho:o.op=.slice t x lo hi mx):bC p f o:=by
  have iso:∀ {z:Option Operand} {u:Option Opd},cOpt z=some u→z.isSome=u.isSome:=fun {z u} e=>by
    cases z with
    | none=>simp only [cOpt,Option.some.injEq] at e; subst e; rfl
    | some z =>
      simp only [cOpt,Option.map_eq_some_iff] at e
      obtain ⟨b,_,rfl⟩:=e
      rfl
  unfold cSlice at h
  cases hc:(ymx.isNone || yhi.isSome) with
  | false=>rw [hc] at h; cases h
  | true =>
    rw [hc,cond_true] at h
    have hmx:mx.isSome=true→hi.isSome=true:=by
      rw [iso h3,iso h2]
      intro hm
      cases ymx with
      | none=>cases hm
      | some m=>simpa using hc
    split at h
    · rename_i i ht
      split at h
      · rename_i e hd
        split at h
        · rename_i j hj
          cases hb:Nat.ble 1 j.size with
          | false=>rw [hb] at h; cases h
          | true =>
            rw [hb,cond_true,Option.some.injEq] at h
            subst h
            exact slice_ok T ht hd hj hx h1 h2 h3 hmx ho
        · cases h
      · rename_i n e hd
        split at h
        · rename_i j hj
          cases h
          exact sliceA_ok T ht hd hj hx h1 h2 h3 hmx ho
        · cases h
      · cases h
    · cases h
theorem cIaddr_ok {p:Par} {ty:Nat→Option TI} (T:ct p.P ty) {t:Nat} {x1 x2:Operand} {y1 y2:Opd} (h1:bk x1=some y1) (h2:bk x2=some y2) {f:Ins} (h:cIaddr ty t y1 y2=some f) {o:Oper} (ho:o.op=.indexAddr t x1 x2):bC p f o:=by
  unfold cIaddr at h
  split at h
  · rename_i i hi
    split at h
    · rename_i e hd
      split at h
      · rename_i j hj; cases h; exact iaddr_ok T hi hd hj h1 h2 ho
      · cases h
    · rename_i n e hd
      split at h
      · rename_i j hj; cases h; exact iaddrA_ok T hi hd hj h1 h2 ho
      · cases h
    · cases h
  · cases h
theorem cIndex_ok {p:Par} {ty:Nat→Option TI} (T:ct p.P ty) {t:Nat} {x1 x2:Operand} {y1 y2:Opd} (h1:bk x1=some y1) (h2:bk x2=some y2) {f:Ins} (h:cIndex ty t y1 y2=some f) {o:Oper} (ho:o.op=.index t x1 x2):bC p f o:=by
  unfold cIndex at h
  split at h
  · rename_i i hi
    split at h
    · rename_i n e hd
      split at h
      · rename_i j hj; cases h; exact index_ok T hi hd hj h1 h2 ho
      · cases h
    · cases h
  · cases h
theorem cOp_ok {p:Par} {ty:Nat→Option TI} (T:ct p.P ty) {o:Oper} {f:Ins} (h:cOp ty o.op=some f):bC p f o:=by
  generalize hop:o.op=op at h
  cases op with
  | move x=>obtain ⟨y,hy,hk⟩:=aX h; cases hk; exact mov_ok hy (.inl hop)
  | assign x=>obtain ⟨y,hy,hk⟩:=aX h; cases hk; exact mov_ok hy (.inr hop)
  | pick c a b=>obtain ⟨y1,y2,y3,e1,e2,e3,hk⟩:=fQ h; cases hk; exact pick_ok e1 e2 e3 hop
  | alloc t =>
    simp only [cOp] at h
    split at h
    · rename_i i hi
      cases hz:du i with
      | none=>rw [hz] at h; cases h
      | some z=>rw [hz] at h; cases h; exact alloc_ok T hi hz hop
    · cases h
  | box t x=>obtain ⟨y,hy,hk⟩:=aX h; cases hk; exact box_ok hy hop
  | build t ps=>exact cBuild_ok T h hop
  | buildSlice t len ps=>exact cBslice_ok T h hop
  | load t x =>
    obtain ⟨y,hy,hk⟩:=aX h
    split at hk
    · rename_i i hi
      cases ha:i.isAgg with
      | true=>rw [ha] at hk; cases hk; exact loadN_ok T hi ha hy hop
      | false=>rw [ha] at hk; cases hk; exact load_ok T hi ha hy hop
    · cases hk
  | store t a x =>
    obtain ⟨y1,y2,e1,e2,hk⟩:=bU h
    split at hk
    · rename_i i hi; cases hk; exact store_ok T hi e1 e2 hop
    · cases hk
  | binOp op t x y t'=>obtain ⟨y1,y2,e1,e2,hk⟩:=bU h; exact cBin_ok T e1 e2 hk hop
  | unOp op t x =>
    obtain ⟨y,hy,hk⟩:=aX h
    split at hk
    · cases hk; exact not_ok hy hop
    · cases hk; exact neg_ok hy hop
    · cases hk
  | convert s d x =>
    obtain ⟨y,hy,hk⟩:=aX h
    split at hk
    · rename_i i k hi hc; cases hk; exact conv_ok T hc hy ⟨_,T.und _ _ hi⟩ hop
    · cases hk
  | makeFunc fn first captured =>
    simp only [cOp] at h
    cases hn:notYield fn with
    | false=>rw [hn] at h; cases h
    | true =>
      rw [hn,cond_true] at h
      split at h
      · rename_i a b ha hb; cases h; exact func_ok hn ha hb hop
      · cases h
  | makeMap t r =>
    simp only [cOp] at h
    split at h
    · cases h; exact mkmap_ok hop
    · cases h
  | makeSlice t l c=>obtain ⟨y1,y2,e1,e2,hk⟩:=bU h; exact cMkslice_ok T e1 e2 hk hop
  | slice t x lo hi mx =>
    simp only [cOp] at h
    split at h
    · rename_i y l u m h1 h2 h3 h4; exact cSlice_ok T h1 h2 h3 h4 h hop
    · cases h
  | fieldAddr t x f =>
    obtain ⟨y,hy,hk⟩:=aX h
    split at hk
    · rename_i q hq
      cases hb:Nat.ble 1 q.2.size with
      | false=>rw [hb] at hk; cases hk
      | true=>rw [hb] at hk; cases hk; exact faddr_ok T hq (aD.1 hb) hy hop
    · cases hk
  | field t x f =>
    obtain ⟨y,hy,hk⟩:=aX h
    split at hk
    · rename_i q hq; cases hk; exact field_ok T hq hy hop
    · cases hk
  | indexAddr t x ix=>obtain ⟨y1,y2,e1,e2,hk⟩:=bU h; exact cIaddr_ok T e1 e2 hk hop
  | index t x ix=>obtain ⟨y1,y2,e1,e2,hk⟩:=bU h; exact cIndex_ok T e1 e2 hk hop
  | lookup t x k ok =>
    obtain ⟨y1,y2,e1,e2,hk⟩:=bU h
    split at hk
    · rename_i q hq
      split at hk
      · rename_i z hz; cases hk; exact lookup_ok T hq hz e1 e2 hop
      · cases hk
    · cases hk
  | mapUpdate t m k v =>
    obtain ⟨y1,y2,y3,e1,e2,e3,hk⟩:=fQ h
    split at hk
    · rename_i q hq; cases hk; exact mapset_ok T hq e1 e2 e3 (.inl hop)
    · cases hk
  | mapEntry t m k =>
    obtain ⟨y1,y2,e1,e2,hk⟩:=bU h
    split at hk
    · rename_i q hq
      split at hk
      · rename_i z hz; cases hk; exact mapent_ok T hq hz e1 e2 hop
      · cases hk
    · cases hk
  | entryStore t m s v=>obtain ⟨y1,y2,y3,e1,e2,e3,hk⟩:=fQ h; cases hk; exact entset_ok e1 e2 e3 hop
  | insert t m k v =>
    obtain ⟨y1,y2,y3,e1,e2,e3,hk⟩:=fQ h
    split at hk
    · rename_i q hq; cases hk; exact mapset_ok T hq e1 e2 e3 (.inr hop)
    · cases hk
  | extract t ix=>obtain ⟨y,hy,hk⟩:=aX h; cases hk; exact extract_ok hy hop
  | call c=>exact cCall_ok T h hop
  | _=>cases h
end Go.Sx
namespace Go.Sx
open Go.RowKit
theorem fence_all (rd:Option Nat) (o:Option FuncId):∀ f,o=some f→(ej rd).fn f:=fun f _=>fence_fn rd f
theorem not_defer {ty:Nat→Option TI} {o:Oper} {f:Ins} (h:cOp ty o.op=some f) (c:Call):o.op ≠ .defer c:=by
  intro e; rw [e] at h; cases h
theorem fV {ty : Nat → Option TI} {n : Nat} {keep : List Nat} {ops : List Oper} {o : Oper} {c : CI} (h : cOper ty n keep ops o = some c) :
    ∃ f g,cOp ty o.op=some f∧cGuard ops o.guard=some g∧okDst n o.dst=true∧c=⟨o.dst,memN keep o.dst,g,f⟩:=by
  unfold cOper at h
  split at h
  · rename_i f g hf hg
    cases hd:okDst n o.dst with
    | false=>rw [hd] at h; cases h
    | true=>rw [hd] at h; cases h; exact ⟨f,g,hf,hg,rfl,rfl⟩
  · cases h
theorem TmOk.setDst {n : Nat} {keep : List Nat} {E : Env} {tm : Tm} {a : Act} (H : TmOk n keep E tm a.tmps) {dst : Option Nat} (hd : okDst n dst = true) {v : AV} {cv : Value} (hv : af E v = some cv) :
    TmOk n keep E (setDst tm dst (memN keep dst) v) (a.put dst cv).tmps:=by
  cases dst with
  | none=>exact H
  | some d=>exact H.put (aD.1 hd) hv
theorem guardOf_some {n : Nat} {keep : List Nat} {E : Env} {tm : Tm} {arr : Array Value} (H : TmOk n keep E tm arr) {ops : Array Oper} {j d : Nat} {want : Bool} (hd : (ops[j]?).bind (·.dst) = some d) {c : BE} (hc : guardOf tm (d, want) = some c) :
    (yielded ops arr j == some want)=c.den E.ρ:=by
  unfold guardOf at hc
  unfold yielded
  rw [hd]
  split at hc
  · rename_i b hb
    obtain ⟨v,h1,h2⟩:=H.look hb
    simp only [af,Option.some.injEq] at h1
    subst h1
    cases hc
    simp only [Option.bind_some,h2]
    cases want with
    | true=>simp
    | false=>simp [mkNot_den]
  · rename_i hb
    obtain ⟨v,h1,h2⟩:=H.look hb
    simp only [af,ad,Option.map_some,Option.some.injEq] at h1
    subst h1
    cases hc
    simp only [Option.bind_some,h2]
    rfl
  · cases hc
theorem oper_ok {p : Par} {ty : Nat → Option TI} (TT : ct p.P ty) {n : Nat} {keep : List Nat} {ops : Array Oper} {o : Oper} {c : CI} (hc : cOper ty n keep ops.toList o = some c)
    {cx:Cx} (CX:CxOk p cx) {E:Env} {w0:Base} {w:World} {tm:Tm} {h:Heap} {a:Act} (HT:TmOk n keep E tm a.tmps) (HH:HeapOk p E h w0 w) {Q:AV × Heap→Prop} (k:(runC cx tm h c).Holds E.ρ Q)
    {rd:Option Nat} {next:Act→World→Prop} {Q':Exit→Act→World→Prop} (P:Post p E w0 Q fun v w'=>next (a.put o.dst v) w') :
    if Region.wanted o (yielded ops a.tmps) then o.wpIn (ej rd) 0 p.P a w next Q' else (∀ f,o.about p.P w a.eval=some f→(ej rd).fn f)∧next (a.put o.dst undef) w:=by
  obtain ⟨f,g,hf,hg,hd,rfl⟩:=fV hc
  have yes:(f cx tm h).Holds E.ρ Q→o.wpIn (ej rd) 0 p.P a w next Q':=fun k=>by
    refine ⟨fence_all rd _,?_⟩
    rw [Oper.semAt_eq _ _ _ (not_defer hf)]
    exact Does.upon (cOp_ok TT hf cx n keep E w0 tm h a w Q _ CX HT HH k P)
  unfold runC at k
  cases hgo:o.guard with
  | none =>
    rw [hgo] at hg
    cases hg
    rw [show Region.wanted o (yielded ops a.tmps)=true from by unfold Region.wanted; rw [hgo],if_pos rfl]
    exact yes k
  | some q =>
    obtain ⟨j,want⟩:=q
    rw [hgo] at hg
    simp only [cGuard] at hg
    cases hb:(ops.toList[j]?).bind (·.dst) with
    | none=>rw [hb] at hg; cases hg
    | some d =>
      rw [hb] at hg
      cases hg
      simp only at k
      cases hcb:guardOf tm (d,want) with
      | none=>rw [hcb] at k; exact k.elim
      | some cb =>
        rw [hcb] at k
        simp only [T.holds_ite] at k
        have hw:Region.wanted o (yielded ops a.tmps)=cb.den E.ρ:=by
          unfold Region.wanted
          rw [hgo]
          exact guardOf_some HT (by simpa using hb) hcb
        rw [hw]
        cases hden:cb.den E.ρ with
        | true=>rw [hden] at k; rw [if_pos rfl]; exact yes k
        | false =>
          rw [hden] at k
          rw [if_neg (by simp)]
          exact ⟨fence_all rd _,P gz h E w undef k (Env.le.refl E) HH rfl⟩
def Same (ρ:Rho) (v u:AV):Prop:=∀ E:Env,E.ρ=ρ→af E v=af E u
theorem Same.refl (ρ:Rho) (v:AV):Same ρ v v:=fun _ _=>rfl
theorem fork_br {β:Type} {ρ:Rho} {c:BE} {k:AV→T β} {Q:β→Prop} (h:(T.br c (k (.bool (.lit true))) (k (.bool (.lit false)))).Holds ρ Q):∃ v',(k v').Holds ρ Q∧Same ρ v' (.bool c):=by
  cases hc:c.den ρ with
  | true =>
    rw [T.Holds,hc,if_pos rfl] at h
    exact ⟨_,h,fun E e=>by simp only [af,BE.den,e,hc]⟩
  | false =>
    rw [T.Holds,hc,if_neg (by simp)] at h
    exact ⟨_,h,fun E e=>by simp only [af,BE.den,e,hc]⟩
theorem holds_fork {β:Type} {ρ:Rho} {v:AV} {k:AV→T β} {Q:β→Prop} (h:(fork v k).Holds ρ Q):∃ v',(k v').Holds ρ Q∧Same ρ v' v:=by
  cases v with
  | bool c=>cases c with
    | lit b=>exact ⟨_,h,Same.refl _ _⟩
    | _=>exact fork_br h
  | _=>exact ⟨_,h,Same.refl _ _⟩
theorem runOps_cons (cx:Cx) (o:CI) (l:List CI) (tm:Tm) (h:Heap):runOps cx (o :: l) tm h=(runC cx tm h o).bind fun r=>fork r.1 fun v=>runOps cx l (setDst tm o.dst o.keep v) r.2:=rfl
theorem region_ok {p : Par} {ty : Nat → Option TI} (TT : ct p.P ty) {n : Nat} {keep : List Nat} {ops : Array Oper} {cx : Cx} (CX : CxOk p cx) {w0 : Base} {rd : Option Nat} {Q' : Exit → Act → World → Prop} {Q : Tm × Heap → Prop} {ds : List Deferred} {sz : Nat} :
    ∀ (l:List Oper) (cs:List CI),gT ty n keep ops.toList l=some cs→∀ (E:Env) (w:World) (tm:Tm) (h:Heap) (a:Act),TmOk n keep E tm a.tmps→HeapOk p E h w0 w→(runOps cx cs tm h).Holds E.ρ Q→a.defers=ds→a.tmps.size=sz →
      (∀ E' w' tm' h' a',Q (tm',h')→E.le E'→HeapOk p E' h' w0 w'→TmOk n keep E' tm' a'.tmps→a'.defers=ds→a'.tmps.size=sz→Q' .normal a' w')→wpListIn (ej rd) 0 p.P ops Q' l a w
  | [],cs,hcs,E,w,tm,h,a,HT,HH,k,hds,hsz,P=>by
    cases hcs
    exact P E w tm h a k (Env.le.refl E) HH HT hds hsz
  | o :: l,cs,hcs,E,w,tm,h,a,HT,HH,k,hds,hsz,P=>by
    simp only [gT] at hcs
    split at hcs
    · rename_i c cl hc hcl
      cases hcs
      rw [runOps_cons] at k
      rw [T.holds_bind] at k
      obtain ⟨f,g,hf,hg,hd,hce⟩:=fV hc
      unfold wpListIn
      refine oper_ok TT hc CX HT HH k ?_
      intro v0 h' E' w' cv q0 hle HH' hv0
      obtain ⟨v,q,hsame⟩:=holds_fork q0
      have hv:af E' v=some cv:=by rw [hsame E' hle.ρ]; exact hv0
      have HT':=(HT.mono hle).setDst hd hv
      have hk:c.keep=memN keep o.dst:=by rw [hce]
      have hdst:c.dst=o.dst:=by rw [hce]
      rw [hdst,hk] at q
      refine region_ok TT CX l cl hcl E' w' _ h' (a.put o.dst cv) HT' HH' (by rw [hle.ρ]; exact q) ?_ ?_ fun E2 w2 tm2 h2 a2 q2 hle2 HH2 HT2=>P E2 w2 tm2 h2 a2 q2 (hle.trans hle2) HH2 HT2
      · cases o.dst <;> exact hds
      · cases hdd:o.dst with
        | none=>exact hsz
        | some d=>simp [Act.put,hsz]
    · cases hcs
def DfOk (E:Env):List Nat→List Deferred→Prop
  | [],[]=>True
  | b :: l,d :: ds=>(∃ c,E.σ b=some (c,0)∧d.target=.collected c)∧DfOk E l ds
  | _,_=>False
theorem DfOk.mono {E E':Env} (le:E.le0 E'):∀ (l:List Nat) (ds:List Deferred),DfOk E l ds→DfOk E' l ds
  | [],[],_=>trivial
  | _ :: l,_ :: ds,⟨⟨c,h1,h2⟩,h3⟩=>⟨⟨c,le.σ _ _ h1,h2⟩,DfOk.mono le l ds h3⟩
  | [],_ :: _,h=>h.elim
  | _ :: _,[],h=>h.elim
def RdOk (E:Env) (x:Option Nat) (rd:Option Nat):Prop :=
  match x,rd with
  | none,none=>True
  | some b,some l=>E.σ b=some (l,0)
  | _,_=>False
theorem RdOk.mono {E E':Env} (le:E.le E') {x rd:Option Nat} (h:RdOk E x rd):RdOk E' x rd:=by
  cases x <;> cases rd <;> first | exact h | exact le.σ _ _ h
def exOf (x:Ex):Exit :=
  match x with
  | .norm=>.normal
  | .exit id=>.exit id
  | .ret=>.ret
structure StOk (p:Par) (n:Nat) (keep:List Nat) (E:Env) (w0:Base) (s:St) (a:Act) (w:World):Prop where
  tm:TmOk n keep E s.tm a.tmps
  df:DfOk E s.df a.defers
  hp:HeapOk p E s.h w0 w
def CPost (p:Par) (n:Nat) (keep:List Nat) (E:Env) (w0:Base) (Q:Ex × St→Prop) (Q':Exit→Act→World→Prop):Prop :=
  ∀ x s' E' w' a',Q (x,s')→E.le E'→StOk p n keep E' w0 s' a' w'→Q' (exOf x) a' w'
def COk (p:Par) (n:Nat) (keep:List Nat) (f:C) (c:Code):Prop :=
  ∀ cx,CxOk p cx→∀ wh rd E w0 w s a Q Q',RdOk E wh.rd rd→StOk p n keep E w0 s a w→(f cx wh s).Holds E.ρ Q→CPost p n keep E w0 Q Q'→c.wpIn (ej rd) 0 p.P Q' a w
theorem cOps_ok {p:Par} {ty:Nat→Option TI} (TT:ct p.P ty) {n:Nat} {keep:List Nat} {id:Nat} {ops:Array Oper} {cs:List CI} (h:gT ty n keep ops.toList ops.toList=some cs):COk p n keep (al cs) (.region id ops false):=by
  intro cx CX wh rd E w0 w s a Q Q' hrd S k P
  have k':((runOps cx cs s.tm s.h).bind fun r=>T.ret (Ex.norm,(⟨r.1.shut,s.df,r.2⟩:St))).Holds E.ρ Q:=k
  rw [T.holds_bind] at k'
  refine wpIn_region_list (region_ok TT CX (ds:=a.defers) (sz:=a.tmps.size) ops.toList cs h E w s.tm s.h a S.tm S.hp k' rfl rfl ?_)
  intro E' w' tm' h' a' q hle HH HT hds hsz
  exact P .norm _ E' w' a' q hle ⟨HT.shut,hds ▸ DfOk.mono hle.tole0 _ _ S.df,HH⟩
end Go.Sx
namespace Go.Sx
open Go.RowKit
def gw (f:Ins):Prop:=∀ cx tm h (ρ:Rho) r,(f cx tm h).Holds ρ (fun x=>x=r)→r.2=h
theorem bZ {h:Heap} {why:Nat} {o:Option AV} {ρ:Rho} {r:AV × Heap} (e:(mk2 h why o).Holds ρ (fun x=>x=r)):r.2=h:=by
  cases o with
  | none=>exact e.elim
  | some v=>have e':(v,h)=r:=e; rw [← e']
theorem quiet_rMov {h:Heap} {v:AV} {ρ:Rho} {r:AV × Heap} (e:(rMov h v).Holds ρ (fun x=>x=r)):r.2=h:=by
  unfold rMov at e
  cases hb:aT v with
  | false=>rw [hb] at e; exact e.elim
  | true=>rw [hb] at e; have e':(v,h)=r:=e; rw [← e']
theorem quiet_mov (y:Opd):gw (ab y):=fun _ _ _ _ _ e=>quiet_rMov e
theorem quiet_pick (x y z:Opd):gw (aR x y z):=by
  intro cx tm h ρ r e
  simp only [aR,rPick] at e
  split at e
  · rename_i c hc
    rw [T.holds_ite] at e
    split at e
    · exact quiet_rMov e
    · exact quiet_rMov e
  · exact e.elim
theorem cR (why:Nat) (f:AV→Option AV) (x:Opd):gw (pure1 why f x):=fun _ _ _ _ _ e=>bZ e
theorem quiet_pure2 (why:Nat) (f:AV→AV→Option AV) (x y:Opd):gw (pure2 why f x y):=fun _ _ _ _ _ e=>bZ e
theorem quiet_arith (op:BinOp) (x y:Opd):gw (aF op x y):=by
  intro cx tm h ρ r e
  unfold aF rArith at e
  split at e
  · have e':(_,h)=r:=e; rw [← e']
  · unfold rDiv at e
    split at e
    · rename_i j u k' u' he1 he2
      cases hk:(dv j k' && isDiv op) with
      | false=>rw [hk] at e; exact e.elim
      | true =>
        rw [hk,cond_true] at e
        simp only [T.Holds] at e
        split at e
        · have e':(_,h)=r:=e; rw [← e']
        · exact e.elim
    · exact e.elim
theorem quiet_iaddr (size:Nat) (x ix:Opd):gw (bw size x ix):=by
  intro cx tm h ρ r e
  unfold bw rIaddr at e
  split at e
  · unfold rIaddrV at e
    split at e
    · simp only [T.Holds] at e
      split at e
      · have e':(_,h)=r:=e; rw [← e']
      · exact e.elim
    · exact e.elim
  · unfold rIaddrS at e
    split at e
    · have e':(_,h)=r:=e; rw [← e']
    · split at e
      · obtain ⟨m,_,e⟩:=rIaddrS_holds e
        exact bZ e
      · exact e.elim
theorem quiet_case {h:Heap} {why n:Nat} {g:AV→Option AV} {ix:AV} {ρ:Rho} {r:AV × Heap} (e:(rCase h why n g ix).Holds ρ fun x=>x=r):r.2=h:=by
  obtain ⟨z,_,e⟩:=rCase_holds e
  exact bZ e
theorem quiet_load (x:Opd):gw (au x):=fun _ _ _ _ _ e=>bZ e
theorem quiet_loadN (n:Nat) (x:Opd):gw (ac n x):=fun _ _ _ _ _ e=>bZ e
theorem quiet_build (z:List AV) (ps:List (Nat × Nat × Opd)):gw (aK z ps):=by
  intro cx tm h ρ r e
  simp only [aK,rBuild] at e
  cases hf:fillA (evp tm ps) z with
  | none=>rw [hf] at e; exact e.elim
  | some cs=>rw [hf] at e; have e':(AV.agg cs,h)=r:=e; rw [← e']
theorem quiet_func (fn:Fn) (x y:List Opd):gw (iFunc fn x y):=by
  intro cx tm h ρ r e
  simp only [iFunc,rFunc] at e
  revert e
  cases (and (bz aT (evs tm x)) (bz aT (evs tm y))) with
  | false=>intro e; exact e.elim
  | true=>intro e; have e':(AV.func fn (evs tm x) (evs tm y),h)=r:=e; rw [← e']
theorem quiet_slice (size:Nat) (x:Opd) (lo hi mx:Option Opd):gw (iSlice size x lo hi mx):=fun _ _ _ _ _ e=>bZ e
theorem quiet_sliceA (size n:Nat) (x:Opd) (lo hi mx:Option Opd):gw (iSliceA size n x lo hi mx):=fun _ _ _ _ _ e=>bZ e
theorem quiet_lookup (z:AV) (wh:Bool) (n:Nat) (ls:List (Nat × Leaf)) (ok:Bool) (x k:Opd):gw (dX z wh n ls ok x k):=fun _ tm h _ _ e=>by
  simp only [dX,rLookup] at e
  split at e
  · unfold rLookupU at e
    split at e
    · rename_i p _ _ q _
      revert e
      generalize and (umOk _) _=c
      cases c with
      | false=>intro e; exact e.elim
      | true =>
        intro e
        rw [cond_true] at e
        cases hl:p.2.live with
        | true =>
          rw [hl] at e
          simp only [cond_true,T.Holds] at e
          split at e
          · rw [← e]
          · rw [← e]
        | false =>
          rw [hl,cond_false] at e
          split at e
          · have:=(dj e).2
            simp only [T.Holds] at this
            rw [← this]
          · exact e.elim
    · exact e.elim
  · exact bZ e
theorem quiet_lenM (x:Opd):gw (iLenM x):=fun _ _ _ _ _ e=>bZ e
theorem quiet_lenA (n:Nat):gw (iLenA n):=fun _ _ h _ r e=>by have e':((AV.int .i64 (.lit (Int.ofNat n))),h)=r:=e; rw [← e']
theorem quiet_max (xs:List Opd):gw (iMax xs):=fun _ _ _ _ _ e=>bZ e
theorem quiet_min (xs:List Opd):gw (iMin xs):=fun _ _ _ _ _ e=>bZ e
theorem quiet_bin {ty:Nat→Option TI} {op:BinOp} {t:TypeId} {x y:Opd} {f:Ins} (h:cBin ty op t x y=some f):gw f:=by
  unfold cBin at h
  split at h <;> first
    | (cases h; exact quiet_pure2 _ _ _ _)
    | (cases h; exact quiet_arith _ _ _)
    | skip
  all_goals
    split at h
    · rename_i i hi
      cases hint:isInt i with
      | true=>rw [hint] at h; cases h; exact quiet_pure2 _ _ _ _
      | false =>
        rw [hint,cond_false] at h
        split at h
        · cases h; exact quiet_pure2 _ _ _ _
        · cases h
    · cases h
theorem quiet_of {ty:Nat→Option TI} {op:Op} {f:Ins} (h:cOp ty op=some f) (he:isEff op=false):gw f:=by
  cases op with
  | move x=>obtain ⟨y,hy,hk⟩:=aX h; cases hk; exact quiet_mov _
  | assign x=>obtain ⟨y,hy,hk⟩:=aX h; cases hk; exact quiet_mov _
  | pick c a b=>obtain ⟨y1,y2,y3,e1,e2,e3,hk⟩:=fQ h; cases hk; exact quiet_pick _ _ _
  | build t ps =>
    simp only [cOp] at h
    unfold cBuild at h
    split at h
    · split at h
      · split at h
        · rename_i fs hd
          cases ha:(fs.toList.all fun f=>(ty f.type).isSome) with
          | false=>rw [ha] at h; cases h
          | true =>
            rw [ha,cond_true] at h
            cases hp:eL (placeF ty fs.toList) ps.toList with
            | none=>rw [hp] at h; cases h
            | some q=>rw [hp] at h; cases h; exact quiet_build _ _
        · split at h
          · rename_i j hj
            cases hp:eL (fun n=>some (n * j.size,j.size)) ps.toList with
            | none=>rw [hp] at h; cases h
            | some q=>rw [hp] at h; cases h; exact quiet_build _ _
          · cases h
        · cases h
      · cases h
    · cases h
  | load t x =>
    obtain ⟨y,hy,hk⟩:=aX h
    split at hk
    · rename_i i hi
      cases ha:i.isAgg with
      | true=>rw [ha] at hk; cases hk; exact quiet_loadN _ _
      | false=>rw [ha] at hk; cases hk; exact quiet_load _
    · cases hk
  | binOp op t x y t'=>obtain ⟨y1,y2,e1,e2,hk⟩:=bU h; exact quiet_bin hk
  | unOp op t x =>
    obtain ⟨y,hy,hk⟩:=aX h
    split at hk
    · cases hk; exact cR _ _ _
    · cases hk; exact cR _ _ _
    · cases hk
  | convert s d x =>
    obtain ⟨y,hy,hk⟩:=aX h
    split at hk
    · cases hk; exact cR _ _ _
    · cases hk
  | makeFunc fn first captured =>
    simp only [cOp] at h
    cases hn:notYield fn with
    | false=>rw [hn] at h; cases h
    | true =>
      rw [hn,cond_true] at h
      split at h
      · cases h; exact quiet_func _ _ _
      · cases h
  | slice t x lo hi mx =>
    simp only [cOp] at h
    split at h
    · rename_i y l u m h1 h2 h3 h4
      unfold cSlice at h
      cases hc:(m.isNone || u.isSome) with
      | false=>rw [hc] at h; cases h
      | true =>
        rw [hc,cond_true] at h
        split at h
        · split at h
          · split at h
            · rename_i j hj
              cases hb:Nat.ble 1 j.size with
              | false=>rw [hb] at h; cases h
              | true=>rw [hb,cond_true,Option.some.injEq] at h; subst h; exact quiet_slice _ _ _ _ _
            · cases h
          · split at h
            · cases h; exact quiet_sliceA _ _ _ _ _ _
            · cases h
          · cases h
        · cases h
    · cases h
  | fieldAddr t x f =>
    obtain ⟨y,hy,hk⟩:=aX h
    split at hk
    · rename_i q hq
      cases hb:Nat.ble 1 q.2.size with
      | false=>rw [hb] at hk; cases hk
      | true=>rw [hb] at hk; cases hk; exact cR _ _ _
    · cases hk
  | field t x f =>
    obtain ⟨y,hy,hk⟩:=aX h
    split at hk
    · cases hk; exact cR _ _ _
    · cases hk
  | indexAddr t x ix =>
    obtain ⟨y1,y2,e1,e2,hk⟩:=bU h
    unfold cIaddr at hk
    split at hk
    · split at hk
      · split at hk
        · cases hk; exact quiet_iaddr _ _ _
        · cases hk
      · split at hk
        · cases hk; exact fun _ _ _ _ _ e=>quiet_case e
        · cases hk
      · cases hk
    · cases hk
  | index t x ix =>
    obtain ⟨y1,y2,e1,e2,hk⟩:=bU h
    unfold cIndex at hk
    split at hk
    · split at hk
      · split at hk
        · cases hk; exact fun _ _ _ _ _ e=>quiet_case e
        · cases hk
      · cases hk
    · cases hk
  | lookup t x k ok =>
    obtain ⟨y1,y2,e1,e2,hk⟩:=bU h
    split at hk
    · split at hk
      · cases hk; exact quiet_lookup _ _ _ _ _ _ _
      · cases hk
    · cases hk
  | extract t ix=>obtain ⟨y,hy,hk⟩:=aX h; cases hk; exact cR _ _ _
  | call c =>
    simp only [cOp] at h
    unfold cCall at h
    split at h
    · cases h
    · split at h
      · rename_i g hg
        simp only [isEff,hg] at he
        cases he
      · cases h
      · rename_i b hb
        simp only [isEff,hb] at he
        split at h
        · split at h
          · split at h
            · split at h
              · cases h; exact quiet_lenA _
              · cases h; exact cR _ _ _
              · cases h; exact quiet_lenM _
              · cases h
            · cases h
          · cases h
        · rename_i args _ _ _
          cases h2:Nat.ble 2 args.length with
          | false=>rw [h2] at h; cases h
          | true=>rw [h2] at h; cases h; exact quiet_max _
        · rename_i args _ _ _
          cases h2:Nat.ble 2 args.length with
          | false=>rw [h2] at h; cases h
          | true=>rw [h2] at h; cases h; exact quiet_min _
        · cases he
        · cases he
        · cases h
  | _=>cases he
theorem quiet_runC {ty : Nat → Option TI} {n : Nat} {keep : List Nat} {ops : List Oper} {o : Oper} {c : CI} (h : cOper ty n keep ops o = some c) (he : isEff o.op = false) {cx : Cx} {tm : Tm} {hp : Heap} {ρ : Rho} {r : AV × Heap}
    (e:(runC cx tm hp c).Holds ρ (fun x=>x=r)):r.2=hp:=by
  obtain ⟨f,g,hf,hg,hd,rfl⟩:=fV h
  have q:=quiet_of hf he
  unfold runC at e
  cases g with
  | none=>exact q _ _ _ _ _ e
  | some p =>
    simp only at e
    cases hc:guardOf tm p with
    | none=>rw [hc] at e; exact e.elim
    | some c =>
      rw [hc] at e
      simp only at e
      rw [T.holds_ite] at e
      split at e
      · exact q _ _ _ _ _ e
      · have e':(gz,hp)=r:=e
        rw [← e']
theorem cmpEq_eq {a b:BinOp} (h:cmpEq a b=true):a=b:=by
  cases a <;> cases b <;> first | rfl | cases h
theorem dr:∀ (a b:BE),eqBE a b=true→a=b
  | .lit x,b,h=>by
    cases b <;> simp [eqBE] at h
    rw [h]
  | .var x,b,h=>by
    cases b <;> simp [eqBE] at h
    rw [h]
  | .not x,b,h=>by
    cases b <;> simp [eqBE] at h
    rw [dr x _ h]
  | .and x y,b,h=>by
    cases b <;> simp [eqBE] at h
    rw [dr x _ h.1,dr y _ h.2]
  | .cmp o x y,b,h=>by
    cases b <;> simp [eqBE] at h
    rw [cmpEq_eq h.1,bu x _ h.2.1,bu y _ h.2.2]
  | .iff x y,b,h=>by
    cases b <;> simp [eqBE] at h
    rw [dr x _ h.1,dr y _ h.2]
  | .app f x y z,b,h=>by
    cases b <;> simp [eqBE] at h
    rw [h.1,bu x _ h.2.1,bu y _ h.2.2.1,bu z _ h.2.2.2]
mutual
theorem dZ:∀ (a b:AV),eqAV a b=true→a=b
  | .bool x,b,h=>by
    cases b <;> simp [eqAV] at h
    rw [dr _ _ h]
  | .int k x,b,h=>by
    cases b <;> simp [eqAV] at h
    rw [cm h.1,bu _ _ h.2]
  | .ptr x o,b,h=>by
    cases b <;> simp [eqAV] at h
    rw [h.1,h.2]
  | .nilptr,b,h=>by cases b <;> first | rfl | simp [eqAV] at h
  | .slice x o l c,b,h=>by
    cases b <;> simp [eqAV] at h
    rw [h.1.1,h.1.2,h.2.1,h.2.2]
  | .sliceU i,b,h=>by
    cases b <;> simp [eqAV] at h
    rw [h]
  | .sliceV b i,c,h=>by
    cases c <;> simp [eqAV] at h
    rw [h.1,h.2]
  | .ptrV b i s o e,c,h=>by
    cases c <;> simp [eqAV] at h
    rw [h.1.1,h.1.2,h.2.1.1,h.2.1.2,bu _ _ h.2.2]
  | .sliceX x o l c,b,h=>by
    cases b <;> simp [eqAV] at h
    rw [h.1.1,h.1.2,h.2.1,h.2.2]
  | .nilslice,b,h=>by cases b <;> first | rfl | simp [eqAV] at h
  | .map x,b,h=>by
    cases b <;> simp [eqAV] at h
    rw [h]
  | .nilmap,b,h=>by cases b <;> first | rfl | simp [eqAV] at h
  | .nilFunc,b,h=>by cases b <;> first | rfl | simp [eqAV] at h
  | .func fn x y,b,h=>by
    cases b <;> (try (cases fn <;> simp [eqAV] at h; done))
    rename_i fn' x' y'
    cases fn <;> cases fn' <;> simp [eqAV] at h
    rw [h.1,aZ x x' h.2.1,aZ y y' h.2.2]
  | .agg x,b,h=>by
    cases b <;> simp [eqAV] at h
    rw [aZ x _ h]
  | .tup x,b,h=>by
    cases b <;> simp [eqAV] at h
    rw [aZ x _ h]
  | .yieldF x,b,h=>by
    cases b <;> simp [eqAV] at h
    rw [h]
  | .opq _,b,h=>by cases b <;> simp [eqAV] at h
  | .bad,b,h=>by cases b <;> simp [eqAV] at h
theorem aZ:∀ (a b:List AV),dg a b=true→a=b
  | [],[],_=>rfl
  | [],_ :: _,h=>by simp [dg] at h
  | _ :: _,[],h=>by simp [dg] at h
  | a :: l,b :: m,h=>by
    simp [dg] at h
    rw [dZ a b h.1,aZ l m h.2]
end
end Go.Sx
namespace Go.Sx
open Go.RowKit
theorem skip_ok {p:Par} {n:Nat} {keep:List Nat}:COk p n keep aM .skip:=by
  intro cx CX wh rd E w0 w s a Q Q' hrd S k P
  exact wpIn_skip (P .norm s E w a k (Env.le.refl E) S)
theorem label_ok {p:Par} {n:Nat} {keep:List Nat} {l:Nat}:COk p n keep aM (.label l):=by
  intro cx CX wh rd E w0 w s a Q Q' hrd S k P
  exact wpIn_label (P .norm s E w a k (Env.le.refl E) S)
theorem exit_ok {p:Par} {n:Nat} {keep:List Nat} {id:Nat}:COk p n keep (dE id) (.exit id):=by
  intro cx CX wh rd E w0 w s a Q Q' hrd S k P
  exact wpIn_exit (P (.exit id) s E w a k (Env.le.refl E) S)
theorem ret_ok {p:Par} {n:Nat} {keep:List Nat}:COk p n keep bg .ret:=by
  intro cx CX wh rd E w0 w s a Q Q' hrd S k P
  exact wpIn_ret (P .ret s E w a k (Env.le.refl E) S)
theorem CPost.le {p:Par} {n:Nat} {keep:List Nat} {E E1:Env} {w0:Base} {Q:Ex × St→Prop} {Q':Exit→Act→World→Prop} (P:CPost p n keep E w0 Q Q') (le:E.le E1):CPost p n keep E1 w0 Q Q' :=
  fun x s' E' w' a' q hle S=>P x s' E' w' a' q (le.trans hle) S
theorem seq_ok {p:Par} {n:Nat} {keep:List Nat} {f g:C} {c d:Code} (hf:COk p n keep f c) (hg:COk p n keep g d):COk p n keep (ae f g) (.seq c d):=by
  intro cx CX wh rd E w0 w s a Q Q' hrd S k P
  have k':((f cx wh s).bind (afterSeq (g cx wh))).Holds E.ρ Q:=k
  rw [T.holds_bind] at k'
  refine wpIn_seq (hf cx CX wh rd E w0 w s a _ _ hrd S k' ?_)
  intro x s1 E1 w1 a1 q1 hle S1
  cases x with
  | norm =>
    have q1':(g cx wh s1).Holds E1.ρ Q:=by rw [hle.ρ]; exact q1
    exact hg cx CX wh rd E1 w0 w1 s1 a1 Q Q' (hrd.mono hle) S1 q1' (P.le hle)
  | exit id=>exact P (.exit id) s1 E1 w1 a1 q1 hle S1
  | ret=>exact P .ret s1 E1 w1 a1 q1 hle S1
theorem cond_ok {p:Par} {n:Nat} {keep:List Nat} {x:Operand} {y:Opd} (hx:bk x=some y) {f g:C} {c d:Code} (hf:COk p n keep f c) (hg:COk p n keep g d):COk p n keep (aO y f g) (.cond x c d):=by
  intro cx CX wh rd E w0 w s a Q Q' hrd S k P
  have k':(condA (ev s.tm y) (f cx wh s) (g cx wh s)).Holds E.ρ Q:=k
  cases hv:ev s.tm y with
  | bool b =>
    rw [hv] at k'
    have k2:(T.ite b (f cx wh s) (g cx wh s)).Holds E.ρ Q:=k'
    rw [T.holds_ite] at k2
    have he:a.eval x=.bool (b.den E.ρ):=bJ S.tm hx (v:=.bool (b.den E.ρ)) (by rw [hv]; rfl) S.hp.glob
    refine wpIn_cond he ?_
    cases hb:b.den E.ρ with
    | true=>rw [hb] at k2; exact hf cx CX wh rd E w0 w s a Q Q' hrd S k2 P
    | false=>rw [hb] at k2; exact hg cx CX wh rd E w0 w s a Q Q' hrd S k2 P
  | _=>rw [hv] at k'; exact k'.elim
theorem block_ok {p:Par} {n:Nat} {keep:List Nat} {id:Nat} {f:C} {c:Code} (hf:COk p n keep f c):COk p n keep (aL id f) (.block id c):=by
  intro cx CX wh rd E w0 w s a Q Q' hrd S k P
  have k':((f cx wh s).bind (afterBlock id)).Holds E.ρ Q:=k
  rw [T.holds_bind] at k'
  refine wpIn_block (hf cx CX wh rd E w0 w s a _ _ hrd S k' ?_)
  intro x s1 E1 w1 a1 q1 hle S1
  cases x with
  | norm=>exact P .norm s1 E1 w1 a1 q1 hle S1
  | exit id' =>
    have q2:(cond (Nat.beq id' id) (T.ret (Ex.norm,s1)) (T.ret (Ex.exit id',s1))).Holds E.ρ Q:=q1
    show (if id'=id then _ else _)
    by_cases hi:id'=id
    · rw [aq.2 hi] at q2
      rw [if_pos hi]
      exact P .norm s1 E1 w1 a1 q2 hle S1
    · rw [bW.2 hi] at q2
      rw [if_neg hi]
      exact P (.exit id') s1 E1 w1 a1 q2 hle S1
  | ret=>exact P .ret s1 E1 w1 a1 q1 hle S1
section
variable {F:Fence} {m:Nat} {P:Program} {Q:Exit→Act→World→Prop} {a:Act} {w:World} {b:Frame} {k:List Item} {cs:List Frame}
theorem dB {c:Code}:step P (lone (b.atR a (.code (.scope c) :: k)) cs w)=.next (lone (b.atR a (.code c :: .inScope c :: k)) cs w) :=
  step_lone_go (by simp [stepG,stepG.exec,Frame.atR])
theorem stepR_inScope {c:Code}:step P (lone (b.atR a (.inScope c :: k)) cs w)=.next (lone (b.atR a k) cs w) :=
  step_lone_go (by simp [stepG,stepG.exec,Frame.atR])
theorem wpIn_scope {c:Code} (h:c.wpIn F m P (Exit.noGoto Q) a w):(Code.scope c).wpIn F m P Q a w:=by
  intro b k cs hro hb hr
  have h0:(lone (b.atR a (.code (.scope c) :: k)) cs w).fenced P F:=fenced_calm hb hr rfl
  obtain ⟨e,a₁,w₁,hq,harr⟩:=h b (.inScope c :: k) cs hro hb hr
  cases e with
  | normal=>exact ⟨.normal,a₁,w₁,hq,.head h0 dB (StepsIn.trans harr (.one (fenced_calm hb hr rfl) stepR_inScope))⟩
  | exit id =>
    have hx:exitTo id (.inScope c :: k)=exitTo id k:=by simp [exitTo]
    exact ⟨.exit id,a₁,w₁,hq,fun k' hk=>.head h0 dB (harr.1 k' (by rw [hx]; exact hk)),
      fun hr' hk=>let ⟨k₁,h1,h2⟩:=harr.2 hr' (by rw [hx]; exact hk); ⟨k₁,h1,.head h0 dB h2⟩⟩
  | goto l=>exact hq.elim
  | ret=>exact ⟨_,a₁,w₁,hq,.of_steps (.one h0 dB) harr⟩
  | panic ch=>exact ⟨_,a₁,w₁,hq,.of_steps (.one h0 dB) harr⟩
  | outgrown=>exact ⟨_,a₁,w₁,hq,.of_steps (.one h0 dB) harr⟩
end
theorem scope_ok {p:Par} {n:Nat} {keep:List Nat} {f:C} {c:Code} (hf:COk p n keep f c):COk p n keep f (.scope c):=by
  intro cx CX wh rd E w0 w s a Q Q' hrd S k P
  refine wpIn_scope (hf cx CX wh rd E w0 w s a Q _ hrd S k ?_)
  intro x s' E' w' a' q hle S'
  have:=P x s' E' w' a' q hle S'
  cases x <;> exact this
theorem loopN_succ (body : St → T (Ex × St)) (n : Nat) (s : St) : loopN body (n + 1) s = (body s).bind fun r => match r.1 with
      | .norm=>loopN body n r.2
      | x=>.ret (x,r.2):=rfl
theorem loop_ok {p:Par} {n:Nat} {keep:List Nat} {f:C} {c:Code} (hf:COk p n keep f c):COk p n keep (eP f) (.loop c):=by
  intro cx CX wh rd E w0 w s a Q Q' hrd S k P
  have k':(loopN (f cx wh) cx.loops s).Holds E.ρ Q:=k
  refine wpIn_loop_rounds cx.loops ?_
  clear k
  generalize cx.loops=m at k'
  induction m generalizing E w s a with
  | zero=>exact k'.elim
  | succ m ih =>
    rw [loopN_succ,T.holds_bind] at k'
    rw [roundsIn_succ]
    refine hf cx CX wh rd E w0 w s a _ _ hrd S k' ?_
    intro x s1 E1 w1 a1 q1 hle S1
    cases x with
    | norm =>
      have q2:(loopN (f cx wh) m s1).Holds E1.ρ Q:=by rw [hle.ρ]; exact q1
      exact ih E1 w1 s1 a1 (hrd.mono hle) S1 (P.le hle) q2
    | exit id=>exact P (.exit id) s1 E1 w1 a1 q1 hle S1
    | ret=>exact P .ret s1 E1 w1 a1 q1 hle S1
theorem HeapOk.loopTurn {p : Par} {E : Env} {h : Heap} {w0 : Base} {w : World} (H : HeapOk p E h w0 w) {b : Nat} {st : LoopState} {pend : Ex} {fn : FuncId} {tm : PT AV} {ps : List Nat} {code d : Nat} (hg : h.get b = some (.loop st pend fn tm ps code d)) :
    ∃ c d' n keep r,E.σ b=some (c,0)∧E.σ d=some (d',0)∧w.heap[c]?=some (.loop r)∧r.state=st∧r.pending=hT pend∧n≤r.tmps.size∧TreeOk keep E tm r.tmps∧r.params.toList=ps∧(p.RC code n keep r.assign r.body∧psOk n keep ps=true)∧r.defers=d' ∧
      ∀ st' pend',HeapOk p E (h.put b (.loop st' pend' fn tm ps code d)) w0 (w.putObj c (.loop { r with state:=st',pending:=hT pend' })):=by
  obtain ⟨c,d',n,keep,r,h1,h2,h3,h4,h5,hn,h6,h7,h8,h9⟩:=H.obj b _ hg
  refine ⟨c,d',n,keep,r,h1,h2,h3,h4,h5,hn,h6,h7,h8,h9,fun st' pend'=>?_⟩
  have hlt:=H.lt b _ c 0 hg h1
  refine H.turn hg rfl h1 rfl ⟨c,d',n,keep,{ r with state:=st',pending:=hT pend' },h1,h2,World.putObj_heap_same hlt,rfl,rfl,hn,h6,h7,h8,h9⟩ (fun i hi=>World.putObj_heap_other hi) rfl rfl rfl (by simp)
theorem CallsIn.toFence {P:Program} {f:FuncId} {args:Array Value} {w:World} {R:Ending→World→Prop} (rd:Option Nat) (h:Calls P f args w R):CallsIn (ej rd) 0 P f args w R:=by
  cases rd with
  | none=>exact callsIn_wide.2 h
  | some l=>exact CallsIn.inRound l (callsIn_wide.2 h)
theorem range_go {p : Par} {n : Nat} {keep : List Nat} {cx : Cx} (CX : CxOk p cx) {g : Operand} {ps : Array Tmp} {assign body : Code} {code : Nat} (hRC : p.RC code n keep assign body ∧ psOk n keep ps.toList = true)
    {wh:Wh} {rd:Option Nat} {E:Env} {w0:Base} {w:World} {tm:Tm} {df:List Nat} {h:Heap} {a:Act} {Q:Ex × St→Prop} {Q':Exit→Act→World→Prop} {d d':Nat} {fv:AV}
    {mark:List Deferred} (hfv:af E fv=some (a.eval g))
    (HT:TmOk n keep E tm a.tmps) (HD:DfOk E df (mark ++ a.defers)) (HH:HeapOk p E h w0 w) (hd:E.σ d=some (d',0))
    (k:(rangeGo cx wh fv ps.toList code tm d df h).Holds E.ρ Q) (P:CPost p n keep E w0 Q Q') {w₀:World}
    (he:∀ fn,(Instr.enterLoop fn a.tmps ps assign body (ej rd).round).run p.P w₀=.ok (w.heap.size,mark) (w.alloc (.loop { state:=.ready,pending:=none,fn,tmps:=a.tmps,params:=ps,assign,body,defers:=d' }))) :
    (Code.rangeFunc g ps assign body).wpIn (ej rd) 0 p.P Q' a w₀:=by
  refine wpIn_rangeFunc fun fn hfn=>?_
  unfold rangeGo at k
  rw [T.holds_bind] at k
  unfold callF at k
  split at k
  · rename_i fnv first captured
    split at k
    · rename_i fid
      obtain ⟨l1,l2,e1,e2,hv⟩:=func_conc' hfv
      let r0:Loop:={ state:=.ready,pending:=none,fn,tmps:=a.tmps,params:=ps,assign,body,defers:=d' }
      have hf:E.σ h.next=none:=HH.fresh _ (Nat.le_refl _)
      have hle:=Env.with_le hf HH.nx (w.heap.size,0) 0
      have HH1:HeapOk p (E.with h.next (w.heap.size,0) 0) (h.new (.loop .ready .norm wh.fn tm.tree ps.toList code d)) w0 (w.alloc (.loop r0)):=by
        refine HH.alloc rfl ⟨w.heap.size,d',n,keep,r0,Env.with_at _ _ _ _,hle.σ _ _ hd,by simp,rfl,rfl,HT.size,HT.tree.mono hle,rfl,hRC,rfl⟩
      have hargs:ad (E.with h.next (w.heap.size,0) 0) (first ++ ([.yieldF h.next] ++ captured))=some (l1 ++ ([Value.func (.yield w.heap.size) #[] #[]] ++ l2)):=by
        refine ce (a9 hle _ _ e1) (ce ?_ (a9 hle _ _ e2))
        exact ap.2 ⟨_,[],by simp [af,Env.with_at],rfl,rfl⟩
      rw [aI,aI] at k
      have key:=CX.call fid _ _ _ (E.with h.next (w.heap.size,0) 0) w0 (w.alloc (.loop r0)) _ (fun v w'=>rangePost (ej rd) 0 p.P w.heap.size Q' { a with defers:=mark ++ a.defers } (.returned v) w') k HH1 hargs ?_
      · obtain ⟨hc1,hc2⟩:=key
        refine ⟨w.heap.size,mark,w.alloc (.loop r0),{ target:=.fn (.func fid) l2.toArray,args:=l1.toArray ++ #[Value.func (.yield w.heap.size) #[] #[]] },w.alloc (.loop r0),fid,(l1 ++ ([Value.func (.yield w.heap.size) #[] #[]] ++ l2)).toArray,w.alloc (.loop r0),he fn,?_,fun f' _=>fence_fn rd f',?_,fun hdp=>(by rw [fence_depth] at hdp; cases hdp),?_⟩
        · show (Deferred.ofValue (a.eval g) _).run p.P _=_
          rw [hv]
          have:(rangeCall g w.heap.size).args.map a.eval=#[Value.func (.yield w.heap.size) #[] #[]]:=by simp [Act.eval]
          rw [this]
          rfl
        · show (callFunc fid ((l1.toArray ++ #[Value.func (.yield w.heap.size) #[] #[]]) ++ l2.toArray)).run p.P _=_
          rw [show (l1.toArray ++ #[Value.func (.yield w.heap.size) #[] #[]]) ++ l2.toArray=(l1 ++ ([Value.func (.yield w.heap.size) #[] #[]] ++ l2)).toArray from by apply Array.ext'; simp]
          exact hc1
        · refine CallsIn.mono (CallsIn.toFence rd hc2) ?_
          rintro e w' ⟨v,rfl,hv⟩
          exact hv
      · intro v h' E' w' cv q hle' HH' hcv
        unfold endRange at q
        split at q
        · rename_i st pend f' tm' ps' c' d2 hg
          obtain ⟨c,d3,n',keep',r,g1,g2,g3,g4,g5,g6,g7,g8,g9,g10,ht⟩:=HH'.loopTurn hg
          have hc:c=w.heap.size:=by
            have:=hle'.σ _ _ (Env.with_at E h.next (w.heap.size,0) 0)
            rw [this] at g1; cases g1; rfl
          subst hc
          have hst:r.state ≠ .busy:=by
            rw [g4]; rintro rfl; exact q.elim
          have q2:Q (pend,⟨tm,df,h'.put h.next (.loop .exhausted pend f' tm' ps' c' d2)⟩):=by
            cases st <;> first | exact q.elim | exact q
          have HH2:=ht .exhausted pend
          have hre:(w'.putObj w.heap.size (.loop { r with state:=.exhausted,pending:=hT pend }))=w'.putObj w.heap.size (.loop { r with state:=.exhausted }):=by rw [← g5]
          rw [hre] at HH2
          have hres:=P pend _ E' _ { a with defers:=mark ++ a.defers } q2 (hle.trans hle') ⟨(HT.mono hle.tole0).mono hle'.tole0,DfOk.mono hle'.tole0 _ _ (DfOk.mono hle.tole0 _ _ HD),HH2⟩
          refine ⟨r.pending,_,run_endLoop g3 hst,?_⟩
          revert hres
          generalize w'.putObj w.heap.size (.loop { r with state:=.exhausted })=W
          intro hres
          rw [g5]
          cases pend with
          | norm=>exact hres
          | exit id=>exact wpIn_exit hres
          | ret=>exact wpIn_ret hres
        · exact q.elim
    · exact k.elim
  · exact k.elim
theorem range_ok {p : Par} {n : Nat} {keep : List Nat} {g : Operand} {y : Opd} (hy : bk g = some y) {ps : Array Tmp} {assign body : Code} {code : Nat} (hRC : p.RC code n keep assign body ∧ psOk n keep ps.toList = true) :
    COk p n keep (cRange y ps.toList code) (.rangeFunc g ps assign body):=by
  intro cx CX wh rd E w0 w s a Q Q' hrd S k P
  have k':(rangeF cx wh (ev s.tm y) ps.toList code s).Holds E.ρ Q:=k
  unfold rangeF at k'
  have fvok:∀ {E1:Env} {d:Nat} {df:List Nat} {h:Heap},(rangeGo cx wh (ev s.tm y) ps.toList code s.tm d df h).Holds E1.ρ Q→af E (ev s.tm y)=some (a.eval g):=fun {E1 d df h} kk=>by
    refine ax S.tm hy ?_ S.hp.glob
    cases hb:ev s.tm y with
    | bad=>rw [hb] at kk; exact kk.elim
    | _=>rfl
  split at k'
  · rename_i hr
    cases rd with
    | some l=>rw [hr] at hrd; exact hrd.elim
    | none =>
      have hv:=fvok (E1:=E) k'
      have hf:E.σ s.h.next=none:=S.hp.fresh _ (Nat.le_refl _)
      have hle:=Env.with_le hf S.hp.nx (w.heap.size,0) 0
      have HH1:HeapOk p (E.with s.h.next (w.heap.size,0) 0) (s.h.new (.defd true)) w0 (w.alloc (.deferred (some []))) :=
        S.hp.alloc rfl ⟨w.heap.size,Env.with_at _ _ _ _,by simp⟩
      have hdf:DfOk (E.with s.h.next (w.heap.size,0) 0) (s.h.next :: s.df) (({ target:=.collected w.heap.size,args:=#[] }:Deferred) :: a.defers):=by
        refine And.intro ⟨w.heap.size,Env.with_at _ _ _ _,rfl⟩ (DfOk.mono hle.tole0 _ _ S.df)
      refine range_go CX hRC (E:=E.with s.h.next (w.heap.size,0) 0) (mark:=[{ target:=.collected w.heap.size,args:=#[] }]) (d':=w.heap.size) (gP hle _ _ hv) (S.tm.mono hle) hdf HH1 (Env.with_at _ _ _ _) k' (P.le hle) (rd:=none) (fun fn=>?_)
      have:=run_enterLoop_outer (P:=p.P) (w:=w) fn a.tmps ps assign body
      simp only [World.size_alloc]
      exact this
  · rename_i l hr
    split at k'
    · rename_i st pend f' tm' ps' c' d hg
      cases rd with
      | none=>rw [hr] at hrd; exact hrd.elim
      | some l' =>
        rw [hr] at hrd
        have hv:=fvok (E1:=E) k'
        obtain ⟨c,d3,n',keep',r,g1,g2,g3,g4,g5,g6,g7,g8,g9,g10,ht⟩:=S.hp.loopTurn hg
        have:c=l':=by
          have h1:E.σ l=some (l',0):=hrd
          rw [h1] at g1; cases g1; rfl
        subst this
        refine range_go CX hRC (E:=E) (mark:=[]) (d':=d3) hv S.tm S.df S.hp g2 k' P (rd:=some c) (fun fn=>?_)
        have:=run_enterLoop_inner (P:=p.P) g3 fn a.tmps ps assign body
        rw [g10] at this
        exact this
    · exact k'.elim
end Go.Sx
namespace Go.Sx
open Go.RowKit
theorem cOpers_get {ty:Nat→Option TI} {n:Nat} {keep:List Nat} {ops:List Oper}:∀ (l:List Oper) (cs:List CI),gT ty n keep ops l=some cs→cs.length=l.length∧∀ (i:Nat) (o:Oper),l[i]?=some o→∃ c,cs[i]?=some c∧cOper ty n keep ops o=some c
  | [],cs,h=>by cases h; exact ⟨rfl,fun i o e=>by simp at e⟩
  | o :: l,cs,h=>by
    simp only [gT] at h
    split at h
    · rename_i c cl hc hcl
      cases h
      obtain ⟨h1,h2⟩:=cOpers_get l cl hcl
      refine ⟨by simp [h1],fun i o' e=>?_⟩
      cases i with
      | zero=>simp at e; subst e; exact ⟨c,rfl,hc⟩
      | succ i=>simp at e; exact h2 i o' e
    · cases h
theorem planOf_get {ty : Nat → Option TI} (effs fls ms : List Nat) : ∀ (l : List Oper) (cs : List CI) (k : Nat) (dis : List DI), cs.length = l.length → planOf ty effs fls ms k l cs = some dis → dis.length = l.length ∧
    ∀ i o c,l[i]?=some o→cs[i]?=some c→∃ d,dis[i]?=some d∧planAt ty effs fls ms (k + i) o c=some d
  | [],cs,k,dis,h,hp=>by
    cases cs <;> (simp only [planOf,Option.some.injEq] at hp; subst hp; exact ⟨rfl,fun i o c e=>by simp at e⟩)
  | o :: l,[],k,dis,h,_=>by simp at h
  | o :: l,c :: cs,k,dis,h,hp=>by
    simp only [planOf] at hp
    split at hp
    · rename_i a dl ha hl
      cases hp
      obtain ⟨h1,h2⟩:=planOf_get effs fls ms l cs (k + 1) dl (by simpa using h) hl
      refine ⟨by simp [h1],fun i o' c' e1 e2=>?_⟩
      cases i with
      | zero=>simp at e1 e2; subst e1; subst e2; exact ⟨a,rfl,ha⟩
      | succ i =>
        simp at e1 e2
        obtain ⟨d,g1,g2⟩:=h2 i o' c' e1 e2
        exact ⟨d,by simpa using g1,by rw [show k + (i + 1)=k + 1 + i by omega]; exact g2⟩
    · cases hp
def PlanIs (ty:Nat→Option TI) (fls ms:List Nat) (i:Nat) (o:Oper) (d:DI):Prop :=
  (d.fl=none∧d.eff=isEff o.op∧memB fls i=false∧(d.eff=false→d.due=[])∧(d.eff=true→d.due=dueOf ms i fls fls)) ∨
  (∃ q,cFl ty o.op=some q∧d.fl=some (q.1,q.2,posOf fls i)∧d.eff=false∧memB fls i=true)
theorem planAt_is {ty:Nat→Option TI} {effs fls ms:List Nat} {i:Nat} {o:Oper} {c:CI} {d:DI} (h:planAt ty effs fls ms i o c=some d):d.ci=c∧d.reads=readsOf o c∧PlanIs ty fls ms i o d:=by
  unfold planAt at h
  cases hm:memB fls i with
  | true =>
    rw [hm,cond_true] at h
    split at h
    · rename_i q hq; cases h; exact ⟨rfl,rfl,.inr ⟨q,hq,rfl,rfl,hm⟩⟩
    · cases h
  | false =>
    rw [hm,cond_false] at h
    cases he:isEff o.op with
    | true=>rw [he,cond_true] at h; cases h; exact ⟨rfl,rfl,.inl ⟨rfl,he.symm,hm,fun h=>(by cases h),fun _=>rfl⟩⟩
    | false=>rw [he,cond_false] at h; cases h; exact ⟨rfl,rfl,.inl ⟨rfl,he.symm,hm,fun _=>rfl,fun h=>(by cases h)⟩⟩
theorem rowOk_get {ms:List Nat} {i:Nat} {a:DI}:∀ (l:List DI) (k:Nat),rowOk ms i a k l=true→∀ j b,l[j]?=some b→pairOk ms i (k + j) a b=true
  | [],k,_,j,b,e=>by simp at e
  | c :: l,k,h,j,b,e=>by
    simp only [rowOk,Bool.and_eq_true] at h
    cases j with
    | zero=>simp at e; subst e; exact h.1
    | succ j =>
      simp at e
      have:=rowOk_get l (k + 1) h.2 j b e
      rw [show k + (j + 1)=k + 1 + j by omega]; exact this
theorem rowsOk_get {ms:List Nat} {all:List DI}:∀ (l:List DI) (k:Nat),rowsOk ms all k l=true→∀ i a j b,l[i]?=some a→all[j]?=some b→pairOk ms (k + i) j a b=true
  | [],k,_,i,a,j,b,e,_=>by simp at e
  | c :: l,k,h,i,a,j,b,e,e2=>by
    simp only [rowsOk,Bool.and_eq_true] at h
    cases i with
    | zero=>simp at e; subst e; have:=rowOk_get all 0 h.1 j b e2; simpa using this
    | succ i =>
      simp at e
      have:=rowsOk_get l (k + 1) h.2 i a j b e e2
      rw [show k + (i + 1)=k + 1 + i by omega]; exact this
theorem edgesOk_get:∀ (l:List Oper) (k:Nat),edgesOk k l=true→∀ i o,l[i]?=some o→∀ e ∈ o.after,Region.binds .any e=true→e.on < k + i
  | [],k,_,i,o,h,_,_,_=>by simp at h
  | c :: l,k,h,i,o,e,ed,he,hb=>by
    simp only [edgesOk,Bool.and_eq_true,List.all_eq_true] at h
    cases i with
    | zero =>
      simp at e; subst e
      have h1:=h.1 ed (by simpa using he)
      rw [hb] at h1
      have:=aD.1 (by simpa using h1)
      omega
    | succ i =>
      simp at e
      have:=edgesOk_get l (k + 1) h.2 i o e ed he hb
      omega
theorem testBit_one_shift (k j:Nat):Nat.testBit (Nat.shiftLeft 1 k) j=decide (k=j):=by
  show Nat.testBit (1 <<< k) j=decide (k=j)
  rw [Nat.one_shiftLeft,Nat.testBit_two_pow]
theorem maskOf_bit {acc:List Nat} {j:Nat}:∀ (l:List Edge),Nat.testBit (maskOf acc l) j=true→∃ e ∈ l,Region.binds .any e=true∧(e.on=j ∨ Nat.testBit (bm acc e.on) j=true)
  | [],h=>by simp [maskOf] at h
  | e :: l,h=>by
    simp only [maskOf] at h
    cases hb:Region.binds .any e with
    | false =>
      rw [hb,cond_false] at h
      obtain ⟨e',h1,h2⟩:=maskOf_bit l h
      exact ⟨e',List.mem_cons_of_mem _ h1,h2⟩
    | true =>
      rw [hb,cond_true] at h
      have h':Nat.testBit ((Nat.shiftLeft 1 e.on ||| bm acc e.on) ||| maskOf acc l) j=true:=h
      rw [Nat.testBit_or,Nat.testBit_or,testBit_one_shift] at h'
      rw [Bool.or_eq_true,Bool.or_eq_true] at h'
      rcases h' with h1 | h1
      · refine ⟨e,List.mem_cons_self,hb,?_⟩
        rcases h1 with h2 | h2
        · exact .inl (by simpa using h2)
        · exact .inr h2
      · obtain ⟨e',h1,h2⟩:=maskOf_bit l h1
        exact ⟨e',List.mem_cons_of_mem _ h1,h2⟩
theorem masks_pre:∀ (l:List Oper) (acc:List Nat) (i:Nat),i < acc.length→(gU acc l)[i]?=acc[i]?
  | [],acc,i,_=>rfl
  | o :: l,acc,i,h=>by
    simp only [gU]
    rw [masks_pre l _ i (by simp; omega),List.getElem?_append_left h]
theorem natGet_le {acc acc':List Nat} (h:∀ i,i < acc.length→acc'[i]?=acc[i]?) (x j:Nat) (hb:Nat.testBit (bm acc x) j=true):Nat.testBit (bm acc' x) j=true:=by
  unfold bm at *
  by_cases hx:x < acc.length
  · rw [h x hx]; exact hb
  · rw [List.getElem?_eq_none (by omega)] at hb; simp at hb
theorem masks_bit : ∀ (l : List Oper) (acc : List Nat) (i : Nat) (o : Oper) (j : Nat), l[i]? = some o → Nat.testBit (bm (gU acc l) (acc.length + i)) j = true →
    ∃ e ∈ o.after,Region.binds .any e=true∧(e.on=j ∨ Nat.testBit (bm (gU acc l) e.on) j=true)
  | [],acc,i,o,j,h,_=>by simp at h
  | o :: l,acc,i,o',j,h,hb=>by
    cases i with
    | zero =>
      simp at h; subst h
      have hm:(gU acc (o :: l))[acc.length + 0]?=some (maskOf acc o.after.toList):=by
        simp only [gU,Nat.add_zero]
        rw [masks_pre l _ acc.length (by simp)]; simp
      unfold bm at hb
      rw [hm] at hb
      obtain ⟨e,h1,h2,h3⟩:=maskOf_bit _ hb
      refine ⟨e,by simpa using h1,h2,h3.imp id fun h4=>natGet_le (fun i hi=>?_) _ _ h4⟩
      exact masks_pre (o :: l) acc i hi
    | succ i =>
      simp at h
      simp only [gU] at hb ⊢
      refine masks_bit l (acc ++ [maskOf acc o.after.toList]) i o' j h ?_
      rw [show (acc ++ [maskOf acc o.after.toList]).length + i=acc.length + (i + 1) by simp; omega]
      exact hb
def bx:List DI→Nat
  | []=>0
  | o :: l=>cond o.eff (bx l + 1) (bx l)
theorem gV:∀ (l:List DI) (k:Nat),co k l=true→∀ r,k≤r→r < k + bx l→∃ (i:Nat) (d:DI),l[i]?=some d∧d.eff=true∧d.lo=r
  | [],k,_,r,h1,h2=>by simp [bx] at h2; omega
  | o :: l,k,h,r,h1,h2=>by
    simp only [co,bx] at h h2
    cases he:o.eff with
    | false =>
      rw [he] at h h2
      obtain ⟨i,d,h3,h4⟩:=gV l k h r h1 h2
      exact ⟨i + 1,d,by simpa using h3,h4⟩
    | true =>
      rw [he,cond_true] at h h2
      simp only [Bool.and_eq_true] at h
      by_cases hr:r=k
      · exact ⟨0,o,rfl,he,by rw [aq.1 h.1,hr]⟩
      · obtain ⟨i,d,h3,h4⟩:=gV l (k + 1) h.2 r (by omega) (by omega)
        exact ⟨i + 1,d,by simpa using h3,h4⟩
theorem eM:∀ (l:List DI) (k:Nat),co k l=true→∀ (i:Nat) (d:DI),l[i]?=some d→d.eff=true→k≤d.lo∧d.lo < k + bx l
  | [],k,_,i,d,h,_=>by simp at h
  | o :: l,k,h,i,d,e,hd=>by
    simp only [co,bx] at h ⊢
    cases he:o.eff with
    | false =>
      rw [he] at h
      rw [cond_false]
      cases i with
      | zero=>simp at e; subst e; rw [hd] at he; cases he
      | succ i=>simp at e; exact eM l k h i d e hd
    | true =>
      rw [he,cond_true] at h
      simp only [Bool.and_eq_true] at h
      rw [cond_true]
      cases i with
      | zero=>simp at e; subst e; have:=aq.1 h.1; omega
      | succ i=>simp at e; have:=eM l (k + 1) h.2 i d e hd; omega
end Go.Sx
namespace Go.Sx
open Go.RowKit
theorem restrL_cons (tm:Tm) (t:Nat) (l:List Nat):restrL tm (t :: l)=(match tm.look t with | some v=>(t,v) :: restrL tm l | none=>restrL tm l):=rfl
theorem gg {tm:Tm}:∀ (l:List Nat) (t:Nat) (v:AV),aA (restrL tm l) t=some v→t ∈ l∧tm.look t=some v
  | [],t,v,h=>by cases h
  | u :: l,t,v,h=>by
    rw [restrL_cons] at h
    cases hu:tm.look u with
    | none =>
      rw [hu] at h
      obtain ⟨h1,h2⟩:=gg l t v h
      exact ⟨List.mem_cons_of_mem _ h1,h2⟩
    | some x =>
      rw [hu] at h
      simp only [aN] at h
      by_cases c:u=t
      · subst c; rw [aq.2 rfl] at h; cases h; exact ⟨List.mem_cons_self,hu⟩
      · rw [bW.2 c] at h
        obtain ⟨h1,h2⟩:=gg l t v h
        exact ⟨List.mem_cons_of_mem _ h1,h2⟩
theorem restr_ok {n:Nat} {keep:List Nat} {E:Env} {tm:Tm} {arr:Array Value} {l:List Nat} (hs:n≤arr.size) (h:∀ t ∈ l,∀ v,tm.look t=some v→good E arr t v):TmOk n keep E (eh tm l) arr :=
  ⟨hs,fun i a e=>h i (gg l i a e).1 a (gg l i a e).2,⟨fun i a e=>by rw [show (eh tm l).tree=.nil from rfl,PT.get_nil] at e; cases e⟩⟩
theorem look_put_ne {tm:Tm} {d t:Nat} (h:d ≠ t) (keep:Bool) (v:AV):(tm.put d keep v).look t=tm.look t:=by
  unfold Tm.look Tm.put
  simp only [aN,bW.2 h,cond_false]
  cases aA tm.loc t with
  | some x=>rfl
  | none =>
    cases keep with
    | true=>simp only [cond_true,PT.get_set]; rw [if_neg (Ne.symm h)]
    | false=>rfl
theorem look_put (tm:Tm) (d:Nat) (keep:Bool) (v:AV):(tm.put d keep v).look d=some v:=by
  unfold Tm.look Tm.put
  simp only [aN,aq.2 rfl,cond_true]
theorem dN {tm:Tm} {dst:Option Nat} {t:Nat} (h:dst ≠ some t) (keep:Bool) (v:AV):(setDst tm dst keep v).look t=tm.look t:=by
  cases dst with
  | none=>rfl
  | some d=>exact look_put_ne (fun e=>h (by rw [e])) keep v
theorem runD_cons (cx:Cx) (base:Nat) (o:DI) (l:List DI) (tm:Tm) (h:Heap) (hs:List Heap) (vs:List (Tm × AV)) (pd:List (Nat × List AV)):runD cx base (o :: l) tm h hs vs pd=stepD cx base o (runD cx base l) tm h hs vs pd:=rfl
noncomputable def flV (base:Nat) (fl:FIns × FK × Nat) (pe:Option (List AV)):AV :=
  match pe with
  | none=>gz
  | some _=>fl.2.1.val (base + fl.2.2)
def flP (fl:FIns × FK × Nat) (pe:Option (List AV)) (pd:List (Nat × List AV)):List (Nat × List AV) :=
  match pe with
  | none=>pd
  | some cs=>(fl.2.2,cs) :: pd
def RunsD (ρ:Rho) (cx:Cx) (base:Nat):List DI→Tm→Heap→List Heap→List (Tm × AV)→List (Nat × List AV)→DR→Prop
  | [],tm,h,hs,vs,pd,R=>R=(tm,h :: hs,vs,pd)
  | o :: l, tm, h, hs, vs, pd, R => (o.fl = none ∧ ∃ h1 r v, conv base pd o.due h = some h1 ∧ (runC cx (eh tm o.reads) h1 o.ci).Holds ρ (fun x => x = r) ∧ Same ρ v r.1 ∧
      RunsD ρ cx base l (setDst tm o.ci.dst o.ci.keep v) r.2 (cond o.eff (h :: hs) hs) ((eh tm o.reads,r.1) :: vs) pd R) ∨
      (∃ fl pe,o.fl=some fl∧runFl (eh tm o.reads) o.ci.guard fl.1=some pe ∧
        RunsD ρ cx base l (setDst tm o.ci.dst o.ci.keep (flV base fl pe)) h hs ((eh tm o.reads,flV base fl pe) :: vs) (flP fl pe pd) R)
theorem T.holds_one {α:Type} {ρ:Rho} {t:T α} {Q:α→Prop} (h:t.Holds ρ Q):∃ a,t.Holds ρ (fun x=>x=a)∧Q a:=by
  induction t with
  | ret a=>exact ⟨a,rfl,h⟩
  | br c t f iht ihf =>
    simp only [T.Holds] at h
    split at h
    · rename_i hc
      obtain ⟨a,h1,h2⟩:=iht h
      exact ⟨a,by simp only [T.Holds]; rw [if_pos hc]; exact h1,h2⟩
    · rename_i hc
      obtain ⟨a,h1,h2⟩:=ihf h
      exact ⟨a,by simp only [T.Holds]; rw [if_neg hc]; exact h1,h2⟩
  | fail w=>exact h.elim
theorem runD_runs {ρ:Rho} {cx:Cx} {base:Nat} {Q:DR→Prop}:∀ (l:List DI) (tm:Tm) (h:Heap) (hs:List Heap) (vs:List (Tm × AV)) (pd:List (Nat × List AV)),(runD cx base l tm h hs vs pd).Holds ρ Q→∃ R,RunsD ρ cx base l tm h hs vs pd R∧Q R
  | [],tm,h,hs,vs,pd,k=>⟨_,rfl,k⟩
  | o :: l,tm,h,hs,vs,pd,k=>by
    rw [runD_cons] at k
    unfold stepD at k
    split at k
    · rename_i hfl
      split at k
      · exact k.elim
      · rename_i h1 hc
        rw [T.holds_bind] at k
        obtain ⟨r,g1,g2⟩:=T.holds_one k
        obtain ⟨v,g3,g4⟩:=holds_fork g2
        obtain ⟨R,g5,g6⟩:=runD_runs l _ _ _ _ _ g3
        exact ⟨R,.inl ⟨hfl,h1,r,v,hc,g1,g4,g5⟩,g6⟩
    · rename_i fl hfl
      split at k
      · exact k.elim
      · rename_i hr
        obtain ⟨R,g5,g6⟩:=runD_runs l _ _ _ _ _ k
        exact ⟨R,.inr ⟨fl,none,hfl,hr,g5⟩,g6⟩
      · rename_i cs hr
        obtain ⟨R,g5,g6⟩:=runD_runs l _ _ _ _ _ k
        exact ⟨R,.inr ⟨fl,some cs,hfl,hr,g5⟩,g6⟩
def Once (l:List DI):Prop:=∀ (i j:Nat) (d d':DI) (t:Nat),i < j→l[i]?=some d→l[j]?=some d'→d.ci.dst=some t→d'.ci.dst ≠ some t
theorem Once.tail {o:DI} {l:List DI} (h:Once (o :: l)):Once l:=fun i j d d' t hij h1 h2=>h (i + 1) (j + 1) d d' t (by omega) (by simpa using h1) (by simpa using h2)
theorem Once.head {o:DI} {l:List DI} (h:Once (o :: l)) {t:Nat} (ht:o.ci.dst=some t):∀ d ∈ l,d.ci.dst ≠ some t:=fun d hd=>by
  obtain ⟨j,hj⟩:=List.getElem?_of_mem hd
  exact h 0 (j + 1) o d t (by omega) rfl (by simpa using hj) ht
def QuietD (d:DI):Prop:=d.fl=none→d.eff=false→d.due=[]∧∀ cx tm h ρ r,(runC cx tm h d.ci).Holds ρ (fun x=>x=r)→r.2=h
def FloatD (d:DI):Prop:=d.fl ≠ none→d.eff=false
def OnceF (l:List DI):Prop:=∀ (i j:Nat) (d d':DI) (f f':FIns × FK × Nat),i < j→l[i]?=some d→l[j]?=some d'→d.fl=some f→d'.fl=some f'→f.2.2 ≠ f'.2.2
theorem OnceF.tail {o:DI} {l:List DI} (h:OnceF (o :: l)):OnceF l:=fun i j d d' f f' hij h1 h2=>h (i + 1) (j + 1) d d' f f' (by omega) (by simpa using h1) (by simpa using h2)
theorem OnceF.head {o:DI} {l:List DI} (h:OnceF (o :: l)) {f:FIns × FK × Nat} (hf:o.fl=some f):∀ d ∈ l,∀ f',d.fl=some f'→f.2.2 ≠ f'.2.2:=fun d hd f' hf'=>by
  obtain ⟨j,hj⟩:=List.getElem?_of_mem hd
  exact h 0 (j + 1) o d f f' (by omega) rfl (by simpa using hj) hf hf'
def AtOk (ρ:Rho) (cx:Cx) (base:Nat) (l:List DI) (tm tmF:Tm) (HS:List Heap) (V:Option (Tm × AV)) (pdF:List (Nat × List AV)) (i:Nat) (d:DI):Prop :=
  ∃ tmi v, (∀ t, (∀ (j : Nat) (d' : DI), i ≤ j → l[j]? = some d' → d'.ci.dst ≠ some t) → tmF.look t = tmi.look t) ∧ (∀ t, d.ci.dst = some t → tmF.look t = some v) ∧
      (∀ t,(∀ (j:Nat) (d':DI),j < i→l[j]?=some d'→d'.ci.dst ≠ some t)→tmi.look t=tm.look t) ∧
      ((d.fl=none∧∃ H H1 r pd,conv base pd d.due H=some H1∧(∀ j cs,aA pd j=some cs→aA pdF j=some cs)∧(runC cx (eh tmi d.reads) H1 d.ci).Holds ρ (fun x=>x=r)∧Same ρ v r.1∧(d.eff=true→HS[d.lo]?=some H∧HS[d.lo + 1]?=some r.2)∧V=some (eh tmi d.reads,r.1)) ∨
       (∃ fl pe,d.fl=some fl∧runFl (eh tmi d.reads) d.ci.guard fl.1=some pe∧v=flV base fl pe∧aA pdF fl.2.2=pe))
theorem runD_ok {ρ : Rho} {cx : Cx} {base : Nat} : ∀ (l : List DI) (tm : Tm) (h : Heap) (hs : List Heap) (vs : List (Tm × AV)) (pd : List (Nat × List AV)) (tmF : Tm) (hsF : List Heap) (vsF : List (Tm × AV)) (pdF : List (Nat × List AV)), RunsD ρ cx base l tm h hs vs pd (tmF, hsF, vsF, pdF) → co hs.length l = true → (∀ d ∈ l, QuietD d) → (∀ d ∈ l, FloatD d) → Once l → OnceF l →
    (∀ d ∈ l,∀ f,d.fl=some f→aA pd f.2.2=none) →
    (∀ (j:Nat) (x:Heap),(hs.reverse ++ [h])[j]?=some x→hsF.reverse[j]?=some x)∧hsF.length=hs.length + 1 + bx l∧(∀ t,(∀ d ∈ l,d.ci.dst ≠ some t)→tmF.look t=tm.look t) ∧
    (∀ (j:Nat) (x:Tm × AV),vs.reverse[j]?=some x→vsF.reverse[j]?=some x) ∧
    (∀ j,(∀ d ∈ l,∀ f,d.fl=some f→f.2.2 ≠ j)→aA pdF j=aA pd j) ∧
    (∀ (i:Nat) (d:DI),l[i]?=some d→AtOk ρ cx base l tm tmF hsF.reverse (vsF.reverse[vs.length + i]?) pdF i d)
  | [],tm,h,hs,vs,pd,tmF,hsF,vsF,pdF,e,_,_,_,_,_,_=>by
    have e':(tmF,hsF,vsF,pdF)=(tm,h :: hs,vs,pd):=e
    cases e'
    refine ⟨fun j x e=>by simpa using e,by simp [bx],fun t _=>rfl,fun j x h=>h,fun _ _=>rfl,fun i d e=>by simp at e⟩
  | o :: l,tm,h,hs,vs,pd,tmF,hsF,vsF,pdF,e,hn,hq,hfd,ho,hof,hpd=>by
    have htl:=fun d hd=>hq d (List.mem_cons_of_mem _ hd)
    have hftl:=fun d hd=>hfd d (List.mem_cons_of_mem _ hd)
    have look_tail:∀ t,(∀ d ∈ o :: l,d.ci.dst ≠ some t)→(∀ d ∈ l,d.ci.dst ≠ some t):=fun t hh d hd=>hh d (List.mem_cons_of_mem _ hd)
    have fin : ∀ (v u : AV) (pd' : List (Nat × List AV)), (∀ t, (∀ d ∈ l, d.ci.dst ≠ some t) → tmF.look t = (setDst tm o.ci.dst o.ci.keep v).look t) →
        (∀ (j:Nat) (x:Tm × AV),((eh tm o.reads,u) :: vs).reverse[j]?=some x→vsF.reverse[j]?=some x) →
        (∀ (i:Nat) (d:DI),l[i]?=some d→AtOk ρ cx base l (setDst tm o.ci.dst o.ci.keep v) tmF hsF.reverse (vsF.reverse[((eh tm o.reads,u) :: vs).length + i]?) pdF i d) →
        (((o.fl=none∧∃ H H1 r pd,conv base pd o.due H=some H1∧(∀ j cs,aA pd j=some cs→aA pdF j=some cs)∧(runC cx (eh tm o.reads) H1 o.ci).Holds ρ (fun x=>x=r)∧Same ρ v r.1∧(o.eff=true→hsF.reverse[o.lo]?=some H∧hsF.reverse[o.lo + 1]?=some r.2)∧u=r.1) ∨
          (∃ fl pe,o.fl=some fl∧runFl (eh tm o.reads) o.ci.guard fl.1=some pe∧v=flV base fl pe∧aA pdF fl.2.2=pe))) →
        (∀ t,(∀ d ∈ o :: l,d.ci.dst ≠ some t)→tmF.look t=tm.look t)∧(∀ (j:Nat) (x:Tm × AV),vs.reverse[j]?=some x→vsF.reverse[j]?=some x) ∧
        (∀ (i:Nat) (d:DI),(o :: l)[i]?=some d→AtOk ρ cx base (o :: l) tm tmF hsF.reverse (vsF.reverse[vs.length + i]?) pdF i d):=by
      intro v u pd' hC hV hD hme
      have hC':∀ t,(∀ d ∈ o :: l,d.ci.dst ≠ some t)→tmF.look t=tm.look t:=fun t ht=>by
        rw [hC t (look_tail t ht),dN (ht o List.mem_cons_self)]
      refine ⟨hC',fun j x hx=>hV j x ?_,fun i d hd=>?_⟩
      · rw [List.reverse_cons,List.getElem?_append_left (by have:=(List.getElem?_eq_some_iff.1 hx).1; exact this)]
        exact hx
      cases i with
      | zero =>
        simp at hd; subst hd
        have hVV:vsF.reverse[vs.length + 0]?=some (eh tm o.reads,u):=hV _ _ (by simp)
        refine ⟨tm,v,fun t ht=>hC' t fun d hd=>?_,fun t ht=>?_,fun t _=>rfl,?_⟩
        · obtain ⟨j,hj⟩:=List.getElem?_of_mem hd
          exact ht j d (Nat.zero_le _) hj
        · rw [hC t (ho.head ht),ht]
          exact look_put _ _ _ _
        · rcases hme with ⟨hfl,H,H1,r,pd,g1,g2,g3,g4,g5,g6⟩ | hme
          · exact .inl ⟨hfl,H,H1,r,pd,g1,g2,g3,g4,g5,by rw [hVV,g6]⟩
          · exact .inr hme
      | succ i =>
        simp at hd
        obtain ⟨tmi,v',h3,h4,h5,h6⟩:=hD i d hd
        refine ⟨tmi,v',fun t ht=>h3 t fun j d' hj hd'=>ht (j + 1) d' (by omega) (by simpa using hd'),h4,fun t ht=>?_,?_⟩
        · rw [h5 t fun j d' hj hd'=>ht (j + 1) d' (by omega) (by simpa using hd'),dN (ht 0 o (by omega) rfl)]
        · rw [show vs.length + (i + 1)=((eh tm o.reads,u) :: vs).length + i by simp; omega]
          exact h6
    rcases e with ⟨hfl,h1,r,v,hc,hr,hsame,e⟩ | ⟨fl,pe,hfl,hr,e⟩
    · have hpd':∀ d ∈ l,∀ f,d.fl=some f→aA pd f.2.2=none:=fun d hd=>hpd d (List.mem_cons_of_mem _ hd)
      simp only [co] at hn
      have hsub:(∀ j,(∀ d ∈ l,∀ f,d.fl=some f→f.2.2 ≠ j)→aA pdF j=aA pd j)→∀ j cs,aA pd j=some cs→aA pdF j=some cs:=fun hP j cs hj=>by
        rw [hP j fun d hd f hf e=>?_]; exact hj
        rw [← e,hpd' d hd f hf] at hj; cases hj
      have hP':(∀ j,(∀ d ∈ l,∀ f,d.fl=some f→f.2.2 ≠ j)→aA pdF j=aA pd j)→(∀ j,(∀ d ∈ o :: l,∀ f,d.fl=some f→f.2.2 ≠ j)→aA pdF j=aA pd j):=fun hP j hj=>hP j fun d hd=>hj d (List.mem_cons_of_mem _ hd)
      cases he:o.eff with
      | true =>
        rw [he,cond_true] at e hn
        simp only [Bool.and_eq_true] at hn
        obtain ⟨hA,hB,hC,hV,hP,hD⟩:=runD_ok l _ _ (h :: hs) _ pd tmF hsF vsF pdF e (by simpa using hn.2) htl hftl ho.tail hof.tail hpd'
        have hlo:=aq.1 hn.1
        have hA0:hsF.reverse[hs.length]?=some h:=hA _ _ (by simp)
        have hA1:hsF.reverse[hs.length + 1]?=some r.2:=hA _ _ (by simp)
        obtain ⟨f1,f2,f3⟩:=fin v r.1 pd hC hV hD (.inl ⟨hfl,h,h1,r,pd,hc,hsub hP,hr,hsame,fun _=>by rw [hlo]; exact ⟨hA0,hA1⟩,rfl⟩)
        refine ⟨fun j x hx=>hA j x ?_,?_,f1,f2,hP' hP,f3⟩
        · simp only [List.reverse_cons]
          rw [List.getElem?_append_left (by have:=(List.getElem?_eq_some_iff.1 hx).1; exact this)]
          exact hx
        · rw [hB]; simp [bx,he]; omega
      | false =>
        rw [he,cond_false] at e hn
        obtain ⟨hdue,hqq⟩:=hq o List.mem_cons_self hfl he
        rw [hdue] at hc
        have hh1:h1=h:=by cases hc; rfl
        rw [hh1] at hr
        have hqr:=hqq _ _ _ _ _ hr
        obtain ⟨hA,hB,hC,hV,hP,hD⟩:=runD_ok l _ _ hs _ pd tmF hsF vsF pdF e hn htl hftl ho.tail hof.tail hpd'
        obtain ⟨f1,f2,f3⟩:=fin v r.1 pd hC hV hD (.inl ⟨hfl,h,h,r,pd,by rw [hdue]; rfl,hsub hP,hr,hsame,fun h=>(by rw [he] at h; cases h),rfl⟩)
        rw [hqr] at hA
        refine ⟨hA,?_,f1,f2,hP' hP,f3⟩
        rw [hB]; simp [bx,he]
    · have he:o.eff=false:=hfd o List.mem_cons_self (by rw [hfl]; simp)
      simp only [co] at hn
      rw [he,cond_false] at hn
      have hne:=hof.head hfl
      have hpd0:=hpd o List.mem_cons_self fl hfl
      have hpd':∀ d ∈ l,∀ f,d.fl=some f→aA (flP fl pe pd) f.2.2=none:=fun d hd f hf=>by
        have h0:=hpd d (List.mem_cons_of_mem _ hd) f hf
        cases pe with
        | none=>exact h0
        | some cs=>simp only [flP,aN]; rw [bW.2 (hne d hd f hf)]; exact h0
      obtain ⟨hA,hB,hC,hV,hP,hD⟩:=runD_ok l _ _ hs _ (flP fl pe pd) tmF hsF vsF pdF e hn htl hftl ho.tail hof.tail hpd'
      have hme:aA pdF fl.2.2=pe:=by
        rw [hP fl.2.2 fun d hd f hf=>Ne.symm (hne d hd f hf)]
        cases pe with
        | none=>exact hpd0
        | some cs=>simp only [flP,aN]; rw [aq.2 rfl]; rfl
      obtain ⟨f1,f2,f3⟩:=fin (flV base fl pe) (flV base fl pe) pd hC hV hD (.inr ⟨fl,pe,hfl,hr,rfl,hme⟩)
      refine ⟨hA,?_,f1,f2,fun j hj=>?_,f3⟩
      · rw [hB]; simp [bx,he]
      · rw [hP j fun d hd=>hj d (List.mem_cons_of_mem _ hd)]
        cases pe with
        | none=>rfl
        | some cs=>simp only [flP,aN]; rw [bW.2 (hj o List.mem_cons_self fl hfl)]; rfl
theorem runD_pend {ρ : Rho} {cx : Cx} {base : Nat} : ∀ (l : List DI) (tm : Tm) (h : Heap) (hs : List Heap) (vs : List (Tm × AV)) (pd : List (Nat × List AV)) (R : DR), RunsD ρ cx base l tm h hs vs pd R →
    ∀ j cs,aA R.2.2.2 j=some cs→aA pd j=some cs ∨ ∃ d ∈ l,∃ f,d.fl=some f∧f.2.2=j
  | [],tm,h,hs,vs,pd,R,e,j,cs,hj=>by
    have e':R=(tm,h :: hs,vs,pd):=e
    subst e'; exact .inl hj
  | o :: l,tm,h,hs,vs,pd,R,e,j,cs,hj=>by
    rcases e with ⟨hfl,h1,r,v,hc,hr,hsame,e⟩ | ⟨fl,pe,hfl,hr,e⟩
    · rcases runD_pend l _ _ _ _ _ R e j cs hj with h | ⟨d,hd,h⟩
      · exact .inl h
      · exact .inr ⟨d,List.mem_cons_of_mem _ hd,h⟩
    · rcases runD_pend l _ _ _ _ _ R e j cs hj with h | ⟨d,hd,h⟩
      · cases pe with
        | none=>exact .inl h
        | some cs' =>
          simp only [flP,aN] at h
          by_cases c:fl.2.2=j
          · exact .inr ⟨o,List.mem_cons_self,fl,hfl,c⟩
          · rw [bW.2 c] at h; exact .inl h
      · exact .inr ⟨d,List.mem_cons_of_mem _ hd,h⟩
structure TmX (n:Nat) (keep:List Nat) (E:Env) (tm:Tm) (arr:Array Value) (S:Nat→Prop):Prop where
  size:n≤arr.size
  loc:∀ i a,aA tm.loc i=some a→¬ S i→good E arr i a
  tree:∀ i a,tm.tree.get i=some a→memN keep (some i)=true∧(¬ S i→good E arr i a)
theorem TmX.put {n : Nat} {keep : List Nat} {E : Env} {tm : Tm} {arr : Array Value} {S S' : Nat → Prop} (h : TmX n keep E tm arr S) {d : Nat} {a : AV} (hv : good E arr d a) (hS : ∀ i, i ≠ d → S i → S' i) :
    TmX n keep E (tm.put d (memN keep (some d)) a) arr S':=by
  have out:∀ i,i ≠ d→¬ S' i→¬ S i:=fun i hi hs h=>hs (hS i hi h)
  refine ⟨h.size,fun i b e hs=>?_,fun i b e=>?_⟩
  · simp only [Tm.put,aN] at e
    by_cases c:d=i
    · subst c; rw [aq.2 rfl] at e; cases e; exact hv
    · rw [bW.2 c] at e; exact h.loc i b e (out i (Ne.symm c) hs)
  · simp only [Tm.put] at e
    cases hk:memN keep (some d) with
    | true =>
      rw [hk,cond_true,PT.get_set] at e
      by_cases c:i=d
      · subst c; rw [if_pos rfl] at e; cases e; exact ⟨hk,fun _=>hv⟩
      · rw [if_neg c] at e; exact ⟨(h.tree i b e).1,fun hs=>(h.tree i b e).2 (out i c hs)⟩
    | false =>
      rw [hk,cond_false] at e
      have c:i ≠ d:=by rintro rfl; rw [(h.tree i b e).1] at hk; cases hk
      exact ⟨(h.tree i b e).1,fun hs=>(h.tree i b e).2 (out i c hs)⟩
theorem runD_tm {ρ : Rho} {cx : Cx} {base : Nat} {n : Nat} {keep : List Nat} {E : Env} {arr : Array Value} : ∀ (l : List DI) (tm : Tm) (h : Heap) (hs : List Heap) (vs : List (Tm × AV)) (pd : List (Nat × List AV)) (R : DR), RunsD ρ cx base l tm h hs vs pd R → Once l →
    (∀ d ∈ l,d.ci.keep=memN keep d.ci.dst)→(∀ d ∈ l,∀ t v,d.ci.dst=some t→R.1.look t=some v→good E arr t v)→TmX n keep E tm arr (fun t=>∃ d ∈ l,d.ci.dst=some t)→TmOk n keep E R.1 arr
  | [],tm,h,hs,vs,pd,R,e,_,_,_,X=>by
    have e':R=(tm,h :: hs,vs,pd):=e
    subst e'
    exact ⟨X.size,fun i a e=>X.loc i a e (by simp),⟨fun i a e=>⟨(X.tree i a e).1,(X.tree i a e).2 (by simp)⟩⟩⟩
  | o :: l,tm,h,hs,vs,pd,R,e,ho,hk,hg,X=>by
    have look:∀ (l:List DI) (tm:Tm) (h:Heap) (hs:List Heap) (vs:List (Tm × AV)) (pd:List (Nat × List AV)),RunsD ρ cx base l tm h hs vs pd R→∀ t,(∀ d ∈ l,d.ci.dst ≠ some t)→R.1.look t=tm.look t:=by
      intro l
      induction l with
      | nil=>intro tm h hs vs pd e t _; have e':R=(tm,h :: hs,vs,pd):=e; subst e'; rfl
      | cons o l ih =>
        intro tm h hs vs pd e t ht
        rcases e with ⟨_,h1,r,v,_,_,_,e⟩ | ⟨fl,pe,_,_,e⟩
        · rw [ih _ _ _ _ _ e t fun d hd=>ht d (List.mem_cons_of_mem _ hd),dN (ht o List.mem_cons_self)]
        · rw [ih _ _ _ _ _ e t fun d hd=>ht d (List.mem_cons_of_mem _ hd),dN (ht o List.mem_cons_self)]
    have step:∀ (v:AV) (h':Heap) (hs':List Heap) (vs':List (Tm × AV)) (pd':List (Nat × List AV)),RunsD ρ cx base l (setDst tm o.ci.dst o.ci.keep v) h' hs' vs' pd' R→TmOk n keep E R.1 arr:=by
      intro v h' hs' vs' pd' e
      refine runD_tm l _ _ _ _ _ R e ho.tail (fun d hd=>hk d (List.mem_cons_of_mem _ hd)) (fun d hd=>hg d (List.mem_cons_of_mem _ hd)) ?_
      cases hdst:o.ci.dst with
      | none =>
        refine ⟨X.size,fun i a e hs=>X.loc i a e ?_,fun i a e=>⟨(X.tree i a e).1,fun hs=>(X.tree i a e).2 ?_⟩⟩
        all_goals
          rintro ⟨d,hd,hd2⟩
          rcases List.mem_cons.1 hd with rfl | hd
          · rw [hdst] at hd2; cases hd2
          · exact hs ⟨d,hd,hd2⟩
      | some t =>
        have hkk:=hk o List.mem_cons_self
        rw [hdst] at hkk
        rw [hkk]
        have hfl:R.1.look t=some v:=by
          rw [look l _ _ _ _ _ e t (ho.head hdst),hdst]
          exact look_put _ _ _ _
        refine X.put (hg o List.mem_cons_self t v hdst hfl) fun i hi ⟨d,hd,hd2⟩=>?_
        rcases List.mem_cons.1 hd with rfl | hd
        · rw [hdst] at hd2; cases hd2; exact absurd rfl hi
        · exact ⟨d,hd,hd2⟩
    rcases e with ⟨_,h1,r,v,_,_,_,e⟩ | ⟨fl,pe,_,_,e⟩
    · exact step v _ _ _ _ e
    · exact step _ _ _ _ _ e
end Go.Sx
namespace Go.Sx
open Go.RowKit
def Env.atN (E:Env) (k:Nat):Env:=⟨E.ρ,E.σ,E.κ,k,E.rc⟩
theorem Env.atN_le0 (E:Env) (k:Nat):E.le0 (E.atN k):=⟨rfl,fun _ _ h=>h,fun _ _ _=>rfl,fun _ _ _=>rfl⟩
theorem Env.atN_le (E:Env) {k:Nat} (h:E.n≤k):E.le (E.atN k):=⟨E.atN_le0 k,h,fun _ _ h=>h⟩
theorem HeapOk.resv1 {p:Par} {E:Env} {h:Heap} {w0:Base} {w:World} (k:HeapOk p E h w0 w):HeapOk p (E.atN (h.next + 1)) (h.new .resv) w0 w:=by
  have hf:E.σ h.next=none:=k.fresh _ (Nat.le_refl _)
  have f:∀ i z,(h.new .resv).get i=some z→(i=h.next∧z=.resv) ∨ (i ≠ h.next∧h.get i=some z):=fun i z e=>by
    rw [Heap.get_new] at e
    by_cases hi:i=h.next
    · rw [if_pos hi] at e; cases e; exact .inl ⟨hi,rfl⟩
    · rw [if_neg hi] at e; exact .inr ⟨hi,e⟩
  have no:∀ c x,E.σ h.next ≠ some (c,x):=fun c x e=>by rw [hf] at e; cases e
  refine ⟨fun b o e=>?_,fun b b' o1 o2 c x y h1 h2 w1 w2 e1 e2=>?_,fun b o c x e ow s=>?_,fun b o c y hg hr s=>?_,fun b hb=>?_,fun b o c x g e=>?_,k.glob,k.below,Nat.le_refl _,k.ok⟩
  · rcases f b o e with ⟨rfl,rfl⟩ | ⟨_,g⟩
    · exact .inl hf
    · exact (k.obj b o g).mono (E.atN_le0 _) (fun hn=>hn) (fun c x _ _=>rfl)
  · rcases f b o1 h1 with ⟨rfl,rfl⟩ | ⟨_,g1⟩
    · exact absurd e1 (no c x)
    · rcases f b' o2 h2 with ⟨rfl,rfl⟩ | ⟨_,g2⟩
      · exact absurd e2 (no c y)
      · exact k.inj b b' o1 o2 c x y g1 g2 w1 w2 e1 e2
  · rcases f b o e with ⟨rfl,rfl⟩ | ⟨_,g⟩
    · exact absurd s (no c x)
    · exact k.base b o c x g ow s
  · rcases f b _ hg with ⟨_,rfl⟩ | ⟨_,g⟩
    · cases hr
    · exact k.ro b o c y g hr s
  · exact k.fresh b (by rw [Heap.next_new] at hb; omega)
  · rcases f b o g with ⟨rfl,rfl⟩ | ⟨_,g⟩
    · exact absurd e (no c x)
    · exact k.lt b o c x g e
theorem HeapOk.resvN {p:Par} {w0:Base} {w:World}:∀ (m:Nat) (E:Env) (h:Heap),HeapOk p E h w0 w→HeapOk p (E.atN (h.next + m)) (Sx.resvN m h) w0 w
  | 0,E,h,k=>by
    refine ⟨fun b o e=>(k.obj b o e).mono (E.atN_le0 _) (fun hn=>hn) (fun _ _ _ _=>rfl),k.inj,k.base,k.ro,k.fresh,k.lt,k.glob,k.below,Nat.le_refl _,k.ok⟩
  | m + 1,E,h,k=>by
    have:=HeapOk.resvN m _ _ k.resv1
    rw [Heap.next_new] at this
    rw [show h.next + 1 + m=h.next + (m + 1) by omega] at this
    exact this
theorem HeapOk.unresv {p : Par} {E : Env} {h : Heap} {w0 : Base} {w : World} (k : HeapOk p E h w0 w) {b c : Nat} {cs : List AV} {vs : List Value} (hg : h.get b = some .resv) (hσ : E.σ b = some (c, 0)) (hv : ad E cs = some vs) (hrc : E.rc b = vs.toArray) :
    HeapOk p E (h.put b (.cells cs 0 true false)) w0 w:=by
  rcases k.obj b _ hg with hn | ⟨c',el,h1,h2⟩
  · rw [hσ] at hn; cases hn
  · rw [hσ] at h1; cases h1
    refine k.turn hg rfl hσ rfl ⟨c,0,vs,vs.toArray,el,(0,0),hσ,hv,by rw [← hrc]; exact h2,fun i _=>by simp,fun _=>⟨rfl,rfl,fun _=>by simp,fun e=>by cases e⟩⟩ (fun _ _=>rfl) rfl rfl rfl (Nat.le_refl _)
theorem convR_ok {p : Par} {E : Env} {w0 : Base} {w : World} {base : Nat} {pd : List (Nat × List AV)} : ∀ (l : List Nat) (h h1 : Heap), (∀ j ∈ l, ∀ cs, aA pd j = some cs → ∃ c vs, E.σ (base + j) = some (c, 0) ∧ ad E cs = some vs ∧ E.rc (base + j) = vs.toArray) →
    HeapOk p E h w0 w→conv base pd l h=some h1→HeapOk p E h1 w0 w
  | [],h,h1,_,k,e=>by cases e; exact k
  | j :: l,h,h1,hj,k,e=>by
    have htl:∀ j' ∈ l,∀ cs,aA pd j'=some cs→∃ c vs,E.σ (base + j')=some (c,0)∧ad E cs=some vs∧E.rc (base + j')=vs.toArray:=fun j' h'=>hj j' (List.mem_cons_of_mem _ h')
    unfold conv at e
    split at e
    · exact convR_ok l h h1 htl k e
    · rename_i cs hf
      split at e
      · rename_i o hg
        split at e
        · obtain ⟨c,vs,g1,g2,g3⟩:=hj j List.mem_cons_self cs hf
          exact convR_ok l _ h1 htl (k.unresv hg g1 g2 g3) e
        · exact convR_ok l h h1 htl k e
        · cases e
      · cases e
def Env.lay (E:Env) (b c:Nat) (vs:Array Value):Env:=⟨E.ρ,fun i=>if i=b then some (c,0) else E.σ i,E.κ,E.n,fun i=>if i=b then vs else E.rc i⟩
theorem Env.lay_le0 {E:Env} {b c:Nat} {vs:Array Value} (h:E.σ b=none):E.le0 (E.lay b c vs):=by
  have hne:∀ i p,E.σ i=some p→i ≠ b:=fun i p e=>by rintro rfl; rw [h] at e; cases e
  exact ⟨rfl,fun i p e=>by simp only [Env.lay,if_neg (hne i p e)]; exact e,fun _ _ _=>rfl,fun i p e=>by simp only [Env.lay,if_neg (hne i p e)]⟩
theorem Env.lay_σ (E:Env) (b c:Nat) (vs:Array Value):(E.lay b c vs).σ b=some (c,0):=by simp [Env.lay]
theorem Env.lay_rc (E:Env) (b c:Nat) (vs:Array Value):(E.lay b c vs).rc b=vs:=by simp [Env.lay]
theorem Env.lay_ne (E:Env) {b i:Nat} (c:Nat) (vs:Array Value) (h:i ≠ b):(E.lay b c vs).σ i=E.σ i∧(E.lay b c vs).rc i=E.rc i:=by simp [Env.lay,h]
theorem HeapOk.lay {p : Par} {E : Env} {h : Heap} {w0 : Base} {w : World} (k : HeapOk p E h w0 w) {b : Nat} (hσ : E.σ b = none) (hb : b < h.next) (hown : ∀ o, h.get b = some o → o = .resv ∨ o = .dead) (vs : Array Value) (el : TypeId) :
    HeapOk p (E.lay b w.heap.size vs) h w0 (w.alloc (.cells vs el)):=by
  have hle:=Env.lay_le0 (c:=w.heap.size) (vs:=vs) hσ
  have hsz:(w.alloc (.cells vs el)).heap=w.heap.push (.cells vs el):=rfl
  have hold:∀ c,c < w.heap.size→(w.heap.push (Obj.cells vs el))[c]?=w.heap[c]?:=fun c hc=>by rw [Array.getElem?_push,if_neg (by omega)]
  have h1000:1000≤b:=by
    rcases Nat.lt_or_ge b 1000 with h | h
    · rw [k.glob b h] at hσ; cases hσ
    · exact h
  have hs:∀ i q,i ≠ b→(E.lay b w.heap.size vs).σ i=some q→E.σ i=some q:=fun i q hi e=>by rw [(Env.lay_ne E _ _ hi).1] at e; exact e
  refine ⟨fun i o e=>?_,fun i i' o1 o2 c x y h1 h2 w1 w2 e1 e2=>?_,fun i o c x e ow s=>?_,fun i o c y hg hr s=>?_,fun i hi=>?_,fun i o c x g e=>?_,fun i hi=>?_,?_,k.nx,k.ok⟩
  · by_cases hi:i=b
    · subst hi
      rcases hown o e with rfl | rfl
      · exact .inr ⟨w.heap.size,el,Env.lay_σ _ _ _ _,by rw [hsz,Env.lay_rc]; simp⟩
      · trivial
    · exact (k.obj i o e).mono hle (fun hn=>by rw [(Env.lay_ne E _ _ hi).1]; exact hn) (fun c x hc _=>by rw [hsz]; exact hold c (k.lt i o c x e hc))
  · by_cases hi:i=b
    · by_cases hi':i'=b
      · rw [hi,hi']
      · rw [hi,Env.lay_σ] at e1; cases e1
        exact absurd (k.lt i' _ _ _ h2 (hs i' _ hi' e2)) (Nat.lt_irrefl _)
    · by_cases hi':i'=b
      · rw [hi',Env.lay_σ] at e2; cases e2
        exact absurd (k.lt i _ _ _ h1 (hs i _ hi e1)) (Nat.lt_irrefl _)
      · exact k.inj i i' o1 o2 c x y h1 h2 w1 w2 (hs i _ hi e1) (hs i' _ hi' e2)
  · by_cases hi:i=b
    · rw [hi,Env.lay_σ] at s; cases s; exact k.below.fresh
    · exact k.base i o c x e ow (hs i _ hi s)
  · by_cases hi:i=b
    · subst hi; rcases hown _ hg with h | h <;> subst h <;> cases hr
    · exact k.ro i o c y hg hr (hs i _ hi s)
  · rw [(Env.lay_ne E _ _ (by omega)).1]; exact k.fresh i hi
  · rw [hsz,Array.size_push]
    by_cases hi:i=b
    · rw [hi,Env.lay_σ] at e; cases e; omega
    · have:=k.lt i o c x g (hs i _ hi e); omega
  · exact hle.σ _ _ (k.glob i hi)
  · exact k.below.alloc (fun c hc=>k.below.lt hc) _
def FK.vals (k:FK) (c:Nat):Value :=
  match k with
  | .ptr=>.pointer (some ⟨c,0,none⟩)
  | .sl n=>.slice (some ⟨c,0,none⟩) n n
theorem FK.val_conc {k:FK} {E:Env} {b c:Nat} (h:E.σ b=some (c,0)):af E (k.val b)=some (k.vals c):=by
  cases k <;> simp [FK.val,FK.vals,af,h]
theorem cFl_ok {p : Par} {ty : Nat → Option TI} (T : ct p.P ty) {o : Oper} {f : FIns} {k : FK} (hf : cFl ty o.op = some (f, k)) {n : Nat} {keep : List Nat} {E : Env} {w0 : Base} {w : World} {tm : Tm} {h : Heap} {a : Act}
    (HT:TmOk n keep E tm a.tmps) (HH:HeapOk p E h w0 w) {cs:List AV} (hcs:f tm=some cs) :
    ∃ vs el,ad E cs=some vs∧∀ K,K (k.vals w.heap.size) (w.alloc (.cells vs.toArray el))→Does p.P ((execOp a.eval o).run p.P w) K:=by
  have key:∀ op,o.op=op→cFl ty op=some (f,k)→∃ vs el,ad E cs=some vs∧∀ K,K (k.vals w.heap.size) (w.alloc (.cells vs.toArray el))→Does p.P ((execOp a.eval o).run p.P w) K:=by
    intro op ho hf
    unfold cFl at hf
    split at hf
    · rename_i t
      split at hf
      · rename_i i ht
        split at hf
        · rename_i z hz
          cases hf
          unfold gY at hcs
          cases hb:dc z with
          | false=>rw [hb] at hcs; cases hcs
          | true =>
            rw [hb] at hcs
            cases hcs
            obtain ⟨v,hv0,rfl,hok,_⟩:=gr hz
            obtain ⟨u,hu,hrun⟩:=run_zero T ht hv0 E w
            have hc:=cU hu hok
            refine ⟨u.cells.toList,t,hc,fun K hK=>?_⟩
            have hex:execOp a.eval o=(do let x ← Instr.alloc t true (.tuple #[]); pure (Next.value x)):=by unfold execOp; rw [ho]
            rw [hex]
            refine ai (v:=.pointer (some ⟨w.heap.size,0,none⟩)) (w':=w.alloc (.cells u.cells t)) ?_ (by simpa [FK.vals] using hK)
            unfold Instr.alloc
            simp only [Sem.run_bind,hrun,Result.andThen_ok]
            rfl
        · cases hf
      · cases hf
    · rename_i t x
      split at hf
      · rename_i y hy
        cases hf
        unfold flBox at hcs
        cases hb:dc (ev tm y).cellsOf with
        | false=>rw [hb] at hcs; cases hcs
        | true =>
          rw [hb] at hcs
          cases hcs
          have hu:=ax HT hy (cells_bad hb) HH.glob
          have hc:=cU hu hb
          refine ⟨(a.eval x).cells.toList,t,hc,fun K hK=>?_⟩
          have hex:execOp a.eval o=(do let x ← Instr.box t (a.eval x); pure (Next.value x)):=by unfold execOp; rw [ho]
          rw [hex]
          exact ai (v:=.pointer (some ⟨w.heap.size,0,none⟩)) (w':=w.alloc (.cells (a.eval x).cells t)) rfl (by simpa [FK.vals] using hK)
      · cases hf
    · rename_i t len parts
      split at hf
      · rename_i i ht
        split at hf
        · rename_i e hd
          split at hf
          · rename_i j he
            split at hf
            · rename_i z hz
              cases hlen:Nat.ble (len * j.size) 1000000 with
              | false=>rw [hlen] at hf; cases hf
              | true =>
                rw [hlen,cond_true] at hf
                have hlen:=aD.1 hlen
                split at hf
                · rename_i ps hp
                  cases hf
                  unfold flSlice at hcs
                  have hu:=T.und t i ht
                  rw [hd] at hu
                  obtain ⟨zv,hzv,hzrun,hzs⟩:=fU T he hz E w
                  have hcells:ad E (rep z len)=some (rep zv.cells.toList len):=concL_rep hzv len
                  obtain ⟨cl,hcl,hfill⟩:=fill_ok HT HH.glob _ hp hcs hcells
                  have hex:execOp a.eval o=(do let x ← Instr.buildSlice t len (parts.map fun (i,x)=>(i,a.eval x)); pure (Next.value x)):=by unfold execOp; rw [ho]
                  have hl:(parts.map fun (i,x)=>(i,a.eval x)).toList=parts.toList.map fun q=>(q.1,a.eval q.2):=by simp
                  refine ⟨cl,e,hcl,fun K hK=>?_⟩
                  rw [hex]
                  refine ai (v:=.slice (some ⟨w.heap.size,0,none⟩) len len) (w':=w.alloc (.cells cl.toArray e)) ?_ (by simpa [FK.vals] using hK)
                  unfold Instr.buildSlice
                  simp only [Sem.run_bind,run_underlying hu,Result.andThen_ok,bq T he]
                  rw [if_neg (by omega)]
                  rw [hl]
                  have hz':∀ x:Array Value,x=zv.cells ∨ (x=#[]∧len * j.size=0)→((Array.range (len * j.size)).map fun i=>x[i % x.size]!)=(rep zv.cells.toList len).toArray:=by
                    rintro x (rfl | ⟨rfl,h0⟩)
                    · rw [← hzs,gu]
                    · rw [← gu,hzs,h0]; simp
                  by_cases h0:len * j.size=0
                  · rw [if_pos h0]
                    simp only [Sem.run_bind,pure,Sem.run,Result.andThen_ok]
                    rw [hz' #[] (.inr ⟨rfl,h0⟩),hfill]
                    rfl
                  · rw [if_neg h0]
                    simp only [Sem.run_bind,pure,Sem.run,Result.andThen_ok,hzrun]
                    rw [hz' zv.cells (.inl rfl),hfill]
                    rfl
                · cases hf
            · cases hf
          · cases hf
        · cases hf
      · cases hf
    · rename_i t x1 x2
      unfold cFlMk at hf
      split at hf
      · rename_i l c
        cases hb:and (decide (l=c)) (and (decide (0≤l)) (Nat.ble l.toNat 1000000)) with
        | false=>rw [hb] at hf; cases hf
        | true =>
          rw [hb,cond_true] at hf
          simp only [Bool.and_eq_true,decide_eq_true_eq] at hb
          obtain ⟨rfl,h0,h1⟩:=hb
          split at hf
          · rename_i i ht
            split at hf
            · rename_i e hd
              split at hf
              · rename_i j he
                split at hf
                · rename_i z hz
                  cases hb2:and (Nat.ble j.bytes 1000000) (Nat.ble (l.toNat * j.size) 1000000) with
                  | false=>rw [hb2] at hf; cases hf
                  | true =>
                    rw [hb2,cond_true] at hf
                    cases hf
                    cases hcs
                    obtain ⟨vs,hv,hrun⟩:=run_mkslice (k1:=.i64) (k2:=.i64) (l:=l.toNat) T ht hd he hz E w (aD.1 h1) (aD.1 (Bool.and_eq_true_iff.1 hb2).1) (Nat.le_refl _)
                    refine ⟨vs,e,hv,fun K hK=>?_⟩
                    have hex:execOp a.eval o=(do let x ← Instr.makeSlice t (a.eval (.const (.int .i64 l))) (a.eval (.const (.int .i64 l))); pure (Next.value x)):=by unfold execOp; rw [ho]
                    rw [hex]
                    have hl:a.eval (.const (.int .i64 l))=.int .i64 (Int.ofNat l.toNat):=by rw [Int.ofNat_eq_natCast,Int.toNat_of_nonneg h0]; rfl
                    rw [hl]
                    exact ai hrun (by simpa [FK.vals] using hK)
                · cases hf
              · cases hf
            · cases hf
          · cases hf
      · cases hf
    · cases hf
  exact key o.op rfl hf
end Go.Sx
