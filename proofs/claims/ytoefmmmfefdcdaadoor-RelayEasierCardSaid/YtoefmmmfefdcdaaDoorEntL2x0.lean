/- EntL2x0 -/
import Derived.Test.YtoefmmmfefdcdaaDoorTabFn
import Derived.Test.YtoefmmmfefdcdaaDoorSxAlias2
import Derived.KernelRfl
namespace Go.Sx
open Go.RowKit Go.Proofs
set_option maxRecDepth 100000
noncomputable def vj (j:Nat):AV:=.int .i64 (.var j)
noncomputable def ln (j:Nat):AV:=.int .i64 (.lit (Int.ofNat j))
noncomputable def filmK (b L:Nat):AV:=.agg [.sliceX 1001 6 0 L,vj 0,vj 1,vj 2,vj 3,vj 4,.map b]
noncomputable def rowsA (L:Nat):AObj:=.cells (lMap vj (upN (6 * L) 10)) 0 false false
def mU (live:Bool):MU:=⟨3000,[(false,3001),(false,3002)],true,3,live⟩
noncomputable def vA (b L:Nat) (live:Bool):List (Nat × AObj):=[(1001,rowsA L),(b,.umap (mU live))]
noncomputable def af1 (r:Nat) (x1 x2:IE):IE:=.app 3001 (.lit (Int.ofNat r)) x1 x2
noncomputable def af2 (r:Nat) (x1 x2:IE):IE:=.app 3002 (.lit (Int.ofNat r)) x1 x2
noncomputable def aftE (r:Nat) (x1 x2:IE):AV:=.agg [.int .i64 (af1 r x1 x2),.int .i64 (af2 r x1 x2)]
noncomputable def stepE (r:Nat) (x1 x2:IE):AV:=.agg [ln r,.int .i64 x1,.int .i64 x2]
def reelOk (ρ:Rho) (r:Nat):Prop:=0≤ρ.iv (10 + 6 * r)∧ρ.iv (10 + 6 * r)≤ρ.iv (11 + 6 * r)∧ρ.iv (11 + 6 * r)≤99∧0≤ρ.iv (12 + 6 * r)∧ρ.iv (12 + 6 * r)≤ρ.iv (13 + 6 * r)∧ρ.iv (13 + 6 * r)≤99
def aftF (ρ:Rho) (r:Nat) (a b:Int):Int × Int :=
  if max a (ρ.iv (10 + 6 * r))≤min b (ρ.iv (11 + 6 * r))∧max (max a (ρ.iv (10 + 6 * r))) (ρ.iv (12 + 6 * r))≤ρ.iv (13 + 6 * r) then (max (max a (ρ.iv (10 + 6 * r))) (ρ.iv (12 + 6 * r)),ρ.iv (13 + 6 * r) + 1) else (0,0)
def okA (L:Nat) (ρ:Rho):Prop:=∀ r,r < L→reelOk ρ r∧∀ a b,ρ.fi 3001 r a b=(aftF ρ r a b).1∧ρ.fi 3002 r a b=(aftF ρ r a b).2
noncomputable def pA (L:Nat):Par:=⟨Tryd.prog,rcOf Tryd.rows,fun ρ _=>okA L ρ⟩
noncomputable def tbA:Tabs:=⟨Sx.Tryd.ft.get,lFind Sx.Tryd.rt,2000,fun _ _ _=>none⟩
theorem tabsA (L:Nat):TabOk (pA L) Sx.Tryd.tt.get tbA:=Tryd.tab (fun _ _ _=>none) (fun _ _ _ _ h=>by cases h) 2000
noncomputable def runA (b L r:Nat):T (AV × Heap):=(evalN tbA 100 false 74 [filmK b L,stepE r (.var 500) (.var 501)] (viewA (b + 1) (vA b L true))).bind fun q=>graftT (b + 1) (vA b L true) (viewA (b + 1) (vA b L true)) [] q
noncomputable def tag (b:Bool):AV:=.bool (.lit b)
noncomputable def encA (b L:Nat) (q:AV × Heap):AV:=.tup [q.1,tag (and (lessO (.umap (mU false)) (q.2.get b)) (and (isO (q.2.get 1001) (rowsA L)) (Nat.beq q.2.next (b + 1))))]
noncomputable def needE (r:Nat) (e1 e2:IE):T AV :=
  .br (.cmp .eql e1 (af1 r (.var 500) (.var 501))) (.br (.cmp .eql e2 (af2 r (.var 500) (.var 501))) (.ret (.tup [.agg [.int .i64 e1,.int .i64 e2],tag true])) (.fail 99)) (.fail 99)
noncomputable def expA (r:Nat):T AV :=
  .br (.app 3000 (.lit (Int.ofNat r)) (.var 500) (.var 501)) (.ret (.tup [aftE r (.var 500) (.var 501),tag true]))
    (.br (.cmp .leq (.mx (.var 500) (.var (10 + 6 * r))) (.mn (.var 501) (.var (11 + 6 * r))))
      (.br (.cmp .leq (.mx (.mx (.var 500) (.var (10 + 6 * r))) (.var (12 + 6 * r))) (.var (13 + 6 * r)))
        (needE r (.mx (.mx (.var 500) (.var (10 + 6 * r))) (.var (12 + 6 * r))) (.bin .add .i64 (.var (13 + 6 * r)) (.lit 1)))
        (needE r (.lit 0) (.lit 0)))
      (needE r (.lit 0) (.lit 0)))
noncomputable def ckA (b L:Nat):Bool:=lAll (fun r=>eqTF ((runA b L r).bind fun q=>.ret (encA b L q)) (expA r)) (upN L 0)
theorem ckA2001_1:ckA 2001 1=true:=by kernel_rfl
theorem ckA2001_2:ckA 2001 2=true:=by kernel_rfl
theorem ckA2001_3:ckA 2001 3=true:=by kernel_rfl
theorem ckA2001_4:ckA 2001 4=true:=by kernel_rfl
theorem ckA2001_5:ckA 2001 5=true:=by kernel_rfl
theorem ckA2001_6:ckA 2001 6=true:=by kernel_rfl
theorem ckA2003_1:ckA 2003 1=true:=by kernel_rfl
theorem ckA2003_2:ckA 2003 2=true:=by kernel_rfl
theorem ckA2003_3:ckA 2003 3=true:=by kernel_rfl
theorem ckA2003_4:ckA 2003 4=true:=by kernel_rfl
theorem ckA2003_5:ckA 2003 5=true:=by kernel_rfl
theorem ckA2003_6:ckA 2003 6=true:=by kernel_rfl
theorem ckA2005_1:ckA 2005 1=true:=by kernel_rfl
theorem ckA2005_2:ckA 2005 2=true:=by kernel_rfl
theorem ckA2005_3:ckA 2005 3=true:=by kernel_rfl
theorem ckA2005_4:ckA 2005 4=true:=by kernel_rfl
theorem ckA2005_5:ckA 2005 5=true:=by kernel_rfl
theorem ckA2005_6:ckA 2005 6=true:=by kernel_rfl
theorem mem_upN:∀ (m k r:Nat),k≤r→r < k + m→r ∈ upN m k
  | 0,k,r,h1,h2=>by omega
  | m + 1,k,r,h1,h2=>by
    simp only [upN]
    by_cases h:r=k
    · rw [h]; exact List.mem_cons_self
    · exact List.mem_cons_of_mem _ (mem_upN m (k + 1) r (by omega) (by omega))
theorem ckA_all {b L:Nat} (hb:b=2001 ∨ b=2003 ∨ b=2005) (h0:1≤L) (hL:L≤6):ckA b L=true:=by
  have:L=1 ∨ L=2 ∨ L=3 ∨ L=4 ∨ L=5 ∨ L=6:=by omega
  rcases hb with rfl | rfl | rfl
  · rcases this with rfl | rfl | rfl | rfl | rfl | rfl
    · exact ckA2001_1
    · exact ckA2001_2
    · exact ckA2001_3
    · exact ckA2001_4
    · exact ckA2001_5
    · exact ckA2001_6
  · rcases this with rfl | rfl | rfl | rfl | rfl | rfl
    · exact ckA2003_1
    · exact ckA2003_2
    · exact ckA2003_3
    · exact ckA2003_4
    · exact ckA2003_5
    · exact ckA2003_6
  · rcases this with rfl | rfl | rfl | rfl | rfl | rfl
    · exact ckA2005_1
    · exact ckA2005_2
    · exact ckA2005_3
    · exact ckA2005_4
    · exact ckA2005_5
    · exact ckA2005_6
theorem runA_tree {b L r:Nat} (hb:b=2001 ∨ b=2003 ∨ b=2005) (h0:1≤L) (hL:L≤6) (hr:r < L):((runA b L r).bind fun q=>T.ret (encA b L q))=expA r :=
  eqTF_eq _ _ (lAll_mem (ckA_all hb h0 hL) r (mem_upN L 0 r (Nat.zero_le _) (by omega)))
end Go.Sx
namespace Go.Sx
open Go.RowKit Go.Proofs
set_option maxRecDepth 100000
noncomputable def pT:Par:=⟨Tryd.prog,rcOf Tryd.rows,fun _ _=>True⟩
noncomputable def tb0:Tabs:=⟨Sx.Tryd.ft.get,lFind Sx.Tryd.rt,2000,fun _ _ _=>none⟩
theorem tabs0:TabOk pT Sx.Tryd.tt.get tb0:=Tryd.tab (fun _ _ _=>none) (fun _ _ _ _ h=>by cases h) 2000
noncomputable def cl0:List AV:=[(li 1),(li 1),(li 4),(li 4),(li 1000),(li 1000),(li 5),(li 5),(li 8),(li 8),(li 800),(li 800),(li 9),(li 9),(li 12),(li 12),(li 600),(li 600)]
end Go.Sx
namespace Go.Sx
open Go.RowKit Go.Proofs
set_option maxRecDepth 100000
section
variable {H:Type} {enc:TypeId × Value→H} {W:World}
theorem add_none (b o k:Nat):(Addr.mk b o none).add k=⟨b,o + k,none⟩:=by
  unfold Addr.add
  split
  · rename_i h; subst h; rfl
  · rfl
theorem book_open {base : Nat} {v : Value} {d : DataW H} {p : List MemPlace} (h0 : DataW.Trod enc Tryd.prog W 0 (fun _ => true) true 28 v d p) (hv : Value.okWide Tryd.prog W .any base 28 v) :
    ∃ (s:Value) (n0 n1 n2 n3 n4 m0 m1 m2 m3 m4 m5:Int),v=.agg #[s,.int .i64 n0,.int .i64 n1,.int .i64 n2,.int .i64 n3,.int .i64 n4,.int .i64 m0,.int .i64 m1,.int .i64 m2,.int .i64 m3,.int .i64 m4,.int .i64 m5] ∧
      (s=.slice none 0 0 ∨ ∃ (b o len cap:Nat) (z:Nat→Int),s=.slice (some ⟨b,o,none⟩) len cap∧len≤cap ∧
        (0 < len→∃ cells el fz,W.heap[b]?=some (.cells cells el fz)∧∀ q,q < 6 * len→cells[o + q]?=some (.int .i64 (z q)))):=by
  obtain ⟨cs,rfl,hl,hc⟩:=okRow (P:=Tryd.prog) (ts:=[22,3,3,3,3,3,3,3,3,3,3,3]) (by rw [Tryd.underlying28]) (by kernel_rfl) (by kernel_rfl) hv
  match cs,hl,hc,h0 with
  | [s,c1,c2,c3,c4,c5,c6,c7,c8,c9,c10,c11],_,hc,h0 =>
    obtain ⟨n0,rfl⟩:=okCell_int Tryd.underlying3 (hc 1 3 c1 rfl rfl)
    obtain ⟨n1,rfl⟩:=okCell_int Tryd.underlying3 (hc 2 3 c2 rfl rfl)
    obtain ⟨n2,rfl⟩:=okCell_int Tryd.underlying3 (hc 3 3 c3 rfl rfl)
    obtain ⟨n3,rfl⟩:=okCell_int Tryd.underlying3 (hc 4 3 c4 rfl rfl)
    obtain ⟨n4,rfl⟩:=okCell_int Tryd.underlying3 (hc 5 3 c5 rfl rfl)
    obtain ⟨m0,rfl⟩:=okCell_int Tryd.underlying3 (hc 6 3 c6 rfl rfl)
    obtain ⟨m1,rfl⟩:=okCell_int Tryd.underlying3 (hc 7 3 c7 rfl rfl)
    obtain ⟨m2,rfl⟩:=okCell_int Tryd.underlying3 (hc 8 3 c8 rfl rfl)
    obtain ⟨m3,rfl⟩:=okCell_int Tryd.underlying3 (hc 9 3 c9 rfl rfl)
    obtain ⟨m4,rfl⟩:=okCell_int Tryd.underlying3 (hc 10 3 c10 rfl rfl)
    obtain ⟨m5,rfl⟩:=okCell_int Tryd.underlying3 (hc 11 3 c11 rfl rfl)
    refine ⟨s,n0,n1,n2,n3,n4,m0,m1,m2,m3,m4,m5,rfl,?_⟩
    rcases okCell_slice Tryd.underlying22 (hc 0 22 s rfl rfl) with rfl | ⟨b,o,len,cap,rfl,hlc⟩
    · exact .inl rfl
    · right
      obtain ⟨fuel,ht⟩:=h0
      obtain ⟨ys,n',rfl,hy,hycl,hyl,hys⟩:=DataW.trod_struct Tryd.underlying28 ht
      have g0:=hys 0 _ rfl
      have c26:Tryd.prog.cellsOf 26=6:=by kernel_rfl
      have hy0:∃ y0,ys[0]?=some y0:=⟨ys[0]'(by rw [hyl]; exact Nat.zero_lt_succ _),List.getElem?_eq_getElem _⟩
      obtain ⟨y0,hy0⟩:=hy0
      rw [hy0] at g0
      have g1:DataW.trod enc Tryd.prog W 0 (fun _=>true) true n' 26 (List.take (Tryd.prog.cellsOf 26) [Value.slice (some ⟨b,o,none⟩) len cap,.int .i64 n0,.int .i64 n1,.int .i64 n2,.int .i64 n3,.int .i64 n4,.int .i64 m0,.int .i64 m1,.int .i64 m2,.int .i64 m3,.int .i64 m4,.int .i64 m5])=some y0:=g0
      rw [c26] at g1
      have ht':DataW.trod enc Tryd.prog W 0 (fun _=>true) true n' 26 [Value.slice (some ⟨b,o,none⟩) len cap,.int .i64 n0,.int .i64 n1,.int .i64 n2,.int .i64 n3,.int .i64 n4]=some y0:=g1
      obtain ⟨xs,n,rfl,hx,hcl,hxl,hxs⟩:=DataW.trod_struct Tryd.underlying26 ht'
      have f0:=hxs 0 _ rfl
      have c22:Tryd.prog.cellsOf 22=1:=by kernel_rfl
      have c66:Tryd.prog.cellsOf 107=6:=by kernel_rfl
      have hx0:∃ x0,xs[0]?=some x0:=⟨xs[0]'(by rw [hxl]; exact Nat.zero_lt_succ _),List.getElem?_eq_getElem _⟩
      obtain ⟨x0,hx0⟩:=hx0
      rw [hx0] at f0
      have f1:DataW.trod enc Tryd.prog W 0 (fun _=>true) true n 22 (List.take (Tryd.prog.cellsOf 22) [Value.slice (some ⟨b,o,none⟩) len cap,.int .i64 n0,.int .i64 n1,.int .i64 n2,.int .i64 n3,.int .i64 n4])=some x0:=f0
      rw [c22] at f1
      have f0:DataW.trod enc Tryd.prog W 0 (fun _=>true) true n 22 [Value.slice (some ⟨b,o,none⟩) len cap]=some x0:=f1
      refine ⟨b,o,len,cap,fun q=>match W.cell? ⟨b,o + q,none⟩ with | some (.int _ n)=>n | _=>0,rfl,hlc,fun hpos=>?_⟩
      have key:∀ q,q < 6 * len→∃ m,W.cell? ⟨b,o + q,none⟩=some (.int .i64 m):=by
        rcases DataW.trod_slice Tryd.underlying22 f0 with ⟨h,_⟩ | ⟨a,len',cap',elems,rest,m,_,he,_,_,_,_,hel,hat,_⟩
        · simp at h
        · simp at he
          obtain ⟨rfl,rfl,rfl⟩:=he
          intro q hq
          have hi:q / 6 < len:=by omega
          have h1:=hat (q / 6) hi
          rw [c66,add_none] at h1
          have hey:∃ y,elems[q / 6]?=some y:=⟨elems[q / 6]'(by omega),List.getElem?_eq_getElem _⟩
          obtain ⟨y,hy⟩:=hey
          rw [hy,Option.bind_eq_some_iff] at h1
          obtain ⟨ci,h2,h3⟩:=h1
          obtain ⟨_,_,h4⟩:=flat_trod 5 107 m ci y (by kernel_rfl) h3
          obtain ⟨_,h5,h6⟩:=World.cells?_some h2
          have h7:=h6 (q % 6) (Nat.mod_lt _ (by omega))
          rw [add_none] at h7
          have hlt:q % 6 < ci.length:=by rw [h5]; exact Nat.mod_lt _ (by omega)
          obtain ⟨mm,hm⟩:=h4 _ (List.getElem_mem hlt)
          refine ⟨mm,?_⟩
          rw [show o + q=o + q / 6 * 6 + q % 6 by omega,h7,List.getElem?_eq_getElem hlt,hm]
      obtain ⟨m0,hm0⟩:=key 0 (by omega)
      unfold World.cell? at hm0
      split at hm0
      · rename_i cells el fz hh
        refine ⟨cells,el,fz,hh,fun q hq=>?_⟩
        obtain ⟨m,hm⟩:=key q hq
        have e:(match W.cell? ⟨b,o + q,none⟩ with | some (.int _ n)=>n | _=>0)=m:=by rw [hm]
        show cells[o + q]?=some (.int .i64 (match W.cell? ⟨b,o + q,none⟩ with | some (.int _ n)=>n | _=>0))
        rw [e]
        unfold World.cell? at hm
        simp only [hh] at hm
        simpa using hm
      · cases hm0
end
end Go.Sx
namespace Go.Sx
open Go.RowKit Go.Proofs
set_option maxRecDepth 100000
theorem six {L:Nat} (h0:1≤L) (hL:L≤6):L=1 ∨ L=2 ∨ L=3 ∨ L=4 ∨ L=5 ∨ L=6:=by omega
theorem SameA.dull {p:Par} {ρ:Rho} {q x:AObj} (h:Less q x) (hq:roO q=false):SameA p p ρ x ρ q :=
  ⟨h.own,fun k=>absurd k (by rw [hq]; exact Bool.false_ne_true),fun _ _ _ _ _ _ k=>h.obj k⟩
theorem IE.den_mn {ρ:Rho} {a b:IE}:(IE.mn a b).den ρ=min (a.den ρ) (b.den ρ):=by
  show (if b.den ρ < a.den ρ then b.den ρ else a.den ρ)=min (a.den ρ) (b.den ρ)
  split <;> omega
theorem af_den {L:Nat} {ρ:Rho} (h:okA L ρ) {r:Nat} (hr:r < L) (x1 x2:IE):(af1 r x1 x2).den ρ=(aftF ρ r (x1.den ρ) (x2.den ρ)).1∧(af2 r x1 x2).den ρ=(aftF ρ r (x1.den ρ) (x2.den ρ)).2:=by
  have h1:=(h r hr).2 (x1.den ρ) (x2.den ρ)
  unfold af1 af2
  simp only [IE.den,FI]
  exact ⟨h1.1,h1.2⟩
theorem aftF_pos {ρ : Rho} {r : Nat} {a b : Int} (h1 : max a (ρ.iv (10 + 6 * r)) ≤ min b (ρ.iv (11 + 6 * r))) (h2 : max (max a (ρ.iv (10 + 6 * r))) (ρ.iv (12 + 6 * r)) ≤ ρ.iv (13 + 6 * r)) :
    aftF ρ r a b=(max (max a (ρ.iv (10 + 6 * r))) (ρ.iv (12 + 6 * r)),ρ.iv (13 + 6 * r) + 1):=if_pos ⟨h1,h2⟩
theorem aftF_neg {ρ:Rho} {r:Nat} {a b:Int} (h:¬ (max a (ρ.iv (10 + 6 * r))≤min b (ρ.iv (11 + 6 * r))∧max (max a (ρ.iv (10 + 6 * r))) (ρ.iv (12 + 6 * r))≤ρ.iv (13 + 6 * r))):aftF ρ r a b=(0,0):=if_neg h
theorem wrap_sm {n:Int} (h1:-1000000000≤n) (h2:n≤1000000000):IntKind.i64.wrap n=n:=IntWalk.i64_in _ (by omega)
theorem viewA_ok {b:Nat} (hb:b=2001 ∨ b=2003 ∨ b=2005) (L:Nat) (h0:1≤L) (hL:L≤6) (t:Bool):viewOk (b + 1) (vA b L t)=true:=by
  rcases hb with rfl | rfl | rfl <;> rcases six h0 hL with rfl | rfl | rfl | rfl | rfl | rfl <;> cases t <;> rfl
theorem after_var {b L r:Nat} (hb:b=2001 ∨ b=2003 ∨ b=2005) (h0:1≤L) (hL:L≤6) (hr:r < L):CallOk (pA L) 74 [filmK b L,stepE r (.var 500) (.var 501)] (viewA (b + 1) (vA b L true)) (.ret (aftE r (.var 500) (.var 501),viewA (b + 1) (vA b L false))):=by
  have base:=eval_ok (tabsA L) 100 74 [filmK b L,stepE r (.var 500) (.var 501)] (viewA (b + 1) (vA b L true))
  have up:upA 0 (vA b L true)=true:=by rcases hb with rfl | rfl | rfl <;> rfl
  have hb9:1000≤b + 1:=by omega
  have fr:CallOk (pA L) 74 [filmK b L,stepE r (.var 500) (.var 501)] (viewA (b + 1) (vA b L true)) (runA b L r):=base.frame (n:=(b + 1)) (l:=vA b L true) hb9 (by rcases hb with rfl | rfl | rfl <;> rfl) (viewA_ok hb L h0 hL true)
    (fun g hg=>⟨g.2,viewA_mem (b + 1) _ 0 up g hg,.refl _⟩) (by rw [viewA_next]; exact Nat.le_refl _) (fun _=>[])
  refine CallOk.read rfl fr fun ρ b9 hok Q k=>⟨ρ,hok,SameL.refl _ _,⟨rfl,fun j o g=>⟨o,g,SameA.refl o⟩⟩,T.holds_enc (runA_tree hb h0 hL hr) ?_⟩
  obtain ⟨_,hA,_⟩:=hok
  have hA:okA L ρ:=hA
  have k:Q (aftE r (.var 500) (.var 501),viewA (b + 1) (vA b L false)):=k
  obtain ⟨d1,d2⟩:=af_den hA hr (.var 500) (.var 501)
  rw [IE.den_var,IE.den_var] at d1 d2
  obtain ⟨⟨r1,r2,r3,r4,r5,r6⟩,_⟩:=hA r hr
  have leaf:∀ e1 e2:IE,e1.den ρ=(af1 r (.var 500) (.var 501)).den ρ→e2.den ρ=(af2 r (.var 500) (.var 501)).den ρ→∀ r0,encA b L r0=.tup [.agg [.int .i64 e1,.int .i64 e2],tag true]→∃ q,Q q∧SameV ρ r0.1 ρ q.1∧SameH (pA L) (pA L) ρ r0.2 ρ q.2:=by
    intro e1 e2 h1 h2 r0 he
    unfold encA tag at he
    simp only [AV.tup.injEq,List.cons.injEq,AV.bool.injEq,BE.lit.injEq,and_true] at he
    obtain ⟨hv,hc⟩:=he
    simp only [Bool.and_eq_true] at hc
    obtain ⟨c1,c2,c3⟩:=hc
    refine ⟨_,k,?_,beq_t.1 c3,fun j o g=>?_⟩
    · rw [hv]; exact SameV.agg (SameL.cons (SameV.int h1) (SameL.cons (SameV.int h2) SameL.nil))
    · have hm:=viewA_get _ _ _ _ g
      rcases List.mem_cons.1 hm with h | hm
      · cases h; exact ⟨_,isO_eq c2,SameA.refl _⟩
      · rcases List.mem_cons.1 hm with h | hm
        · cases h
          obtain ⟨x,hx,hl⟩:=lessO_ok c1
          exact ⟨x,hx,SameA.dull hl rfl⟩
        · cases hm
  have need:∀ e1 e2:IE,e1.den ρ=(af1 r (.var 500) (.var 501)).den ρ→e2.den ρ=(af2 r (.var 500) (.var 501)).den ρ→(needE r e1 e2).Holds ρ fun a=>∀ r0,encA b L r0=a→∃ q,Q q∧SameV ρ r0.1 ρ q.1∧SameH (pA L) (pA L) ρ r0.2 ρ q.2:=by
    intro e1 e2 h1 h2
    unfold needE
    simp only [T.Holds]
    rw [if_pos (BE.t_eql.2 h1),if_pos (BE.t_eql.2 h2)]
    exact leaf e1 e2 h1 h2
  unfold expA
  simp only [T.Holds]
  split
  · exact leaf _ _ rfl rfl
  · split
    · rename_i hc1
      split
      · rename_i hc2
        rw [BE.t_leq,IE.den_mx,IE.den_mn] at hc1
        rw [BE.t_leq,IE.den_mx,IE.den_mx] at hc2
        simp only [IE.den_var] at hc1 hc2
        refine need _ _ ?_ ?_
        · rw [d1,IE.den_mx,IE.den_mx]; simp only [IE.den_var]; rw [aftF_pos hc1 hc2]
        · rw [d2,IE.den_add]; simp only [IE.den_var,IE.den_lit]; rw [aftF_pos hc1 hc2]
          exact wrap_sm (by omega) (by omega)
      · rename_i hc2
        rw [BE.t_leq,IE.den_mx,IE.den_mx] at hc2
        simp only [IE.den_var] at hc2
        refine need _ _ ?_ ?_
        · rw [d1,aftF_neg (fun h=>hc2 h.2)]; rfl
        · rw [d2,aftF_neg (fun h=>hc2 h.2)]; rfl
    · rename_i hc1
      rw [BE.t_leq,IE.den_mx,IE.den_mn] at hc1
      simp only [IE.den_var] at hc1
      refine need _ _ ?_ ?_
      · rw [d1,aftF_neg (fun h=>hc1 h.1)]; rfl
      · rw [d2,aftF_neg (fun h=>hc1 h.1)]; rfl
end Go.Sx
namespace Go.Sx
open Go.RowKit Go.Proofs
set_option maxRecDepth 100000
noncomputable def e0:Ent:=⟨39,[(.agg [(.sliceX 1000 6 0 3),(li 6),(li 8),(li 1),(li 3),(li 2000)])],1001,[(2,.cells [(li 1),(li 20),(li 0),(li 50)]),(3,.cells [(li 0),(li 99),(li 0),(li 99),(li 1),(li 1200)]),(1000,.cells cl0)],(.tup [(.sliceX 1095 1 0 3),(li 0)]),[(1095,.cells [(li 0),(li 1),(li 2)] 3 true)],[]⟩
theorem e0_run:e0.run tb0 100=true:=by kernel_rfl
noncomputable def e2:Ent:=⟨80,[(.agg [(.sliceX 1001 6 0 3),(li 6),(li 8),(li 1),(li 3),(li 2000)]),(.slice 1000 0 1 1),(li 0)],1002,[(2,.cells [(li 1),(li 20),(li 0),(li 50)]),(3,.cells [(li 0),(li 99),(li 0),(li 99),(li 1),(li 1200)]),(1000,.cells [(li 0),(li 1),(li 2)]),(1001,.cells cl0)],(.tup [(.agg [(li 6000),(li 8000)]),(li 0)]),[],[]⟩
theorem e2_run:e2.run tb0 100=true:=by kernel_rfl
noncomputable def e3:Ent:=⟨80,[(.agg [(.sliceX 1001 6 0 3),(li 6),(li 8),(li 1),(li 3),(li 2000)]),(.slice 1000 0 1 1),(li 1)],1002,[(2,.cells [(li 1),(li 20),(li 0),(li 50)]),(3,.cells [(li 0),(li 99),(li 0),(li 99),(li 1),(li 1200)]),(1000,.cells [(li 0),(li 1),(li 2)]),(1001,.cells cl0)],(.tup [(.agg [(li 5982),(li 7992)]),(li 0)]),[],[]⟩
theorem e3_run:e3.run tb0 100=true:=by kernel_rfl
noncomputable def e4:Ent:=⟨80,[(.agg [(.sliceX 1001 6 0 3),(li 6),(li 8),(li 1),(li 3),(li 2000)]),(.slice 1000 1 1 1),(li 0)],1002,[(2,.cells [(li 1),(li 20),(li 0),(li 50)]),(3,.cells [(li 0),(li 99),(li 0),(li 99),(li 1),(li 1200)]),(1000,.cells [(li 0),(li 1),(li 2)]),(1001,.cells cl0)],(.tup [(.agg [(li 4800),(li 6400)]),(li 0)]),[],[]⟩
theorem e4_run:e4.run tb0 100=true:=by kernel_rfl
noncomputable def e5:Ent:=⟨80,[(.agg [(.sliceX 1001 6 0 3),(li 6),(li 8),(li 1),(li 3),(li 2000)]),(.slice 1000 1 1 1),(li 1)],1002,[(2,.cells [(li 1),(li 20),(li 0),(li 50)]),(3,.cells [(li 0),(li 99),(li 0),(li 99),(li 1),(li 1200)]),(1000,.cells [(li 0),(li 1),(li 2)]),(1001,.cells cl0)],(.tup [(.agg [(li 4782),(li 6392)]),(li 0)]),[],[]⟩
theorem e5_run:e5.run tb0 100=true:=by kernel_rfl
noncomputable def e6:Ent:=⟨80,[(.agg [(.sliceX 1001 6 0 3),(li 6),(li 8),(li 1),(li 3),(li 2000)]),(.slice 1000 2 1 1),(li 0)],1002,[(2,.cells [(li 1),(li 20),(li 0),(li 50)]),(3,.cells [(li 0),(li 99),(li 0),(li 99),(li 1),(li 1200)]),(1000,.cells [(li 0),(li 1),(li 2)]),(1001,.cells cl0)],(.tup [(.agg [(li 3600),(li 4800)]),(li 0)]),[],[]⟩
theorem e6_run:e6.run tb0 100=true:=by kernel_rfl
noncomputable def e7:Ent:=⟨80,[(.agg [(.sliceX 1001 6 0 3),(li 6),(li 8),(li 1),(li 3),(li 2000)]),(.slice 1000 2 1 1),(li 1)],1002,[(2,.cells [(li 1),(li 20),(li 0),(li 50)]),(3,.cells [(li 0),(li 99),(li 0),(li 99),(li 1),(li 1200)]),(1000,.cells [(li 0),(li 1),(li 2)]),(1001,.cells cl0)],(.tup [(.agg [(li 3582),(li 4792)]),(li 0)]),[],[]⟩
theorem e7_run:e7.run tb0 100=true:=by kernel_rfl
end Go.Sx
namespace Go.Sx
open Go.RowKit Go.Proofs
set_option maxRecDepth 100000
theorem CallOk.congr {p:Par} {f:FuncId} {args:List AV} {h h':Heap} {t:T (AV × Heap)} (hc:CallOk p f args h t) (hget:∀ j,h'.get j=h.get j) (hn:h'.next=h.next):CallOk p f args h' t :=
  fun vs E w0 w Q K k HH ha P=>hc vs E w0 w Q K k (HH.congr (fun j=>(hget j).symm) hn.symm) ha P
theorem rows_same {ρ ρ':Rho}:∀ {l:List Nat},(∀ j ∈ l,ρ.iv j=ρ'.iv j)→SameL ρ (lMap vj l) ρ' (lMap vj l)
  | [],_=>SameL.nil
  | a :: _,h=>SameL.cons (SameV.int (h a List.mem_cons_self)) (rows_same fun j hj=>h j (List.mem_cons_of_mem _ hj))
theorem upN_lt:∀ (m k r:Nat),r ∈ upN m k→k≤r∧r < k + m
  | 0,k,r,h=>by cases h
  | m + 1,k,r,h=>by
    simp only [upN] at h
    rcases List.mem_cons.1 h with rfl | h
    · omega
    · have:=upN_lt m (k + 1) r h; omega
theorem rowsA_same {p0 p:Par} (hP:p0.P=p.P) {L:Nat} (hL:L≤6) {ρ ρ':Rho} (h:∀ j,j < 500→ρ.iv j=ρ'.iv j):SameA p0 p ρ (rowsA L) ρ' (rowsA L) :=
  SameA.cells hP (rows_same fun j hj=>h j (by have:=upN_lt _ _ _ hj; omega))
theorem film_same {ρ ρ':Rho} (h:∀ j,j < 500→ρ.iv j=ρ'.iv j) (b L:Nat):SameV ρ (filmK b L) ρ' (filmK b L) :=
  SameV.agg (SameL.cons (SameV.sliceX _ _ _ _) (SameL.cons (SameV.int (h 0 (by omega))) (SameL.cons (SameV.int (h 1 (by omega))) (SameL.cons (SameV.int (h 2 (by omega))) (SameL.cons (SameV.int (h 3 (by omega))) (SameL.cons (SameV.int (h 4 (by omega))) (SameL.cons (SameV.map _) SameL.nil)))))))
theorem mU_nb:∀ q ∈ (mU false).fi,q.1=false:=by
  intro q hq
  simp only [mU,List.mem_cons,List.not_mem_nil,or_false] at hq
  rcases hq with rfl | rfl <;> rfl
theorem after_dull {b L r:Nat} (hb:b=2001 ∨ b=2003 ∨ b=2005) (h0:1≤L) (hL:L≤6) (hr:r < L):CallOk (pA L) 74 [filmK b L,stepE r (.var 500) (.var 501)] (viewA (b + 1) (vA b L false)) (.ret (aftE r (.var 500) (.var 501),viewA (b + 1) (vA b L false))):=by
  have hv:=after_var hb h0 hL hr
  let h0':Heap:=viewA (b + 1) [(1001,rowsA L)]
  have hb1:b ≠ 1001:=by omega
  have get:∀ (t:Bool) (j:Nat),(h0'.put b (.umap (mU t))).get j=(viewA (b + 1) (vA b L t)).get j:=fun t j=>by
    simp only [h0',vA,viewA,Heap.get_put]
    by_cases h1:j=b
    · subst h1; rw [if_pos rfl,if_neg hb1,if_pos rfl]
    · simp only [if_neg h1]
  have hc:CallOk (pA L) 74 [filmK b L,stepE r (.var 500) (.var 501)] (h0'.put b (.umap (mU true))) (.ret (aftE r (.var 500) (.var 501),viewA (b + 1) (vA b L false))):=hv.congr (get true) rfl
  have hd := CallOk.live (p := pA L) (b := b) (m := mU true) (by simp [mU]) (by
      intro q hq
      simp only [mU,List.mem_cons,List.not_mem_nil,or_false] at hq
      rcases hq with rfl | rfl <;> simp [mU]) hc
    (fun ρ B c ⟨m,k1,k2⟩=>⟨m,k1,k2⟩)
    (fun ρ B=>SameL.cons (film_same (fun _ _=>rfl) b L) (SameL.cons (SameV.agg (SameL.cons (SameV.int rfl) (SameL.cons (SameV.int rfl) (SameL.cons (SameV.int rfl) SameL.nil)))) SameL.nil))
    (fun ρ B j o hj hg=>by
      have hm:=viewA_get _ _ _ _ hg
      rcases List.mem_cons.1 hm with h | hm
      · cases h; exact rowsA_same rfl hL fun _ _=>rfl
      · cases hm)
    (fun ρ B Q k=>⟨_,k,SameV.agg (SameL.cons (SameV.int rfl) (SameL.cons (SameV.int rfl) SameL.nil)),rfl,fun j o g=>⟨o,g,by
      have hm:=viewA_get _ _ _ _ g
      rcases List.mem_cons.1 hm with h | hm
      · cases h; exact rowsA_same rfl hL fun _ _=>rfl
      · rcases List.mem_cons.1 hm with h | hm
        · cases h; exact SameA.umap rfl rfl mU_nb
        · cases hm⟩⟩)
  exact hd.congr (fun j=>(get false j).symm) rfl
def Rho.over (ρ:Rho) (g:Nat→Int):Rho:=⟨fun j=>if j < 500 then ρ.iv j else g j,ρ.bv,ρ.fi,ρ.fb,ρ.ov⟩
theorem over_lt {ρ:Rho} {g:Nat→Int} {j:Nat} (h:j < 500):(ρ.over g).iv j=ρ.iv j:=if_pos h
theorem aftF_over {ρ:Rho} {g:Nat→Int} {r:Nat} (h:r < 6) (a b:Int):aftF (ρ.over g) r a b=aftF ρ r a b:=by
  unfold aftF
  rw [over_lt (show 10 + 6 * r < 500 by omega),over_lt (show 11 + 6 * r < 500 by omega),over_lt (show 12 + 6 * r < 500 by omega),over_lt (show 13 + 6 * r < 500 by omega)]
theorem okA_over {L:Nat} (hL:L≤6) {ρ:Rho} (g:Nat→Int) (h:okA L ρ):okA L (ρ.over g):=fun r hr=>by
  obtain ⟨h1,h2⟩:=h r hr
  refine ⟨?_,fun a b=>by rw [aftF_over (by omega)]; exact h2 a b⟩
  unfold reelOk
  rw [over_lt (show 10 + 6 * r < 500 by omega),over_lt (show 11 + 6 * r < 500 by omega),over_lt (show 12 + 6 * r < 500 by omega),over_lt (show 13 + 6 * r < 500 by omega)]
  exact h1
theorem after_said {p:Par} (hP:p.P=Tryd.prog) {b L r:Nat} (hb:b=2001 ∨ b=2003 ∨ b=2005) (hok:∀ ρ m,p.ok ρ m→okA L ρ) (h0:1≤L) (hL:L≤6) (hr:r < L) (x1 x2:IE):CallOk p 74 [filmK b L,stepE r x1 x2] (viewA (b + 1) (vA b L false)) (.ret (aftE r x1 x2,viewA (b + 1) (vA b L false))):=by
  refine CallOk.read (p0:=pA L) hP.symm (after_dull hb h0 hL hr) fun ρ b9 ⟨m,k1,k2⟩ Q k=>?_
  let g:Nat→Int:=fun j=>if j=500 then x1.den ρ else x2.den ρ
  have iv:∀ j,j < 500→ρ.iv j=(ρ.over g).iv j:=fun j hj=>(over_lt hj).symm
  have e1:(IE.var 500).den (ρ.over g)=x1.den ρ:=rfl
  have e2:(IE.var 501).den (ρ.over g)=x2.den ρ:=rfl
  refine ⟨ρ.over g,⟨m,okA_over hL g (hok ρ m k1),k2⟩,SameL.cons (film_same iv b L) (SameL.cons (SameV.agg (SameL.cons (SameV.int rfl) (SameL.cons (SameV.int e1.symm) (SameL.cons (SameV.int e2.symm) SameL.nil)))) SameL.nil),⟨rfl,fun j o g=>⟨o,g,?_⟩⟩,_,k,SameV.agg (SameL.cons (SameV.int rfl) (SameL.cons (SameV.int rfl) SameL.nil)),rfl,fun j o g=>⟨o,g,?_⟩⟩
  · have hm:=viewA_get _ _ _ _ g
    rcases List.mem_cons.1 hm with h | hm
    · cases h; exact rowsA_same hP hL iv
    · rcases List.mem_cons.1 hm with h | hm
      · cases h; exact SameA.umap rfl rfl mU_nb
      · cases hm
  · have hm:=viewA_get _ _ _ _ g
    rcases List.mem_cons.1 hm with h | hm
    · cases h; exact rowsA_same hP.symm hL fun j hj=>(iv j hj).symm
    · rcases List.mem_cons.1 hm with h | hm
      · cases h; exact SameA.umap rfl rfl mU_nb
      · cases hm
noncomputable def orcA (b L:Nat) (args:List AV) (h:Heap):Option (T (AV × Heap)) :=
  match args with
  | [fa, .agg [.int k0 (.lit (.ofNat r)), .int k1 x1, .int k2 x2]] => cond (and (and (isI64 k0) (and (isI64 k1) (isI64 k2))) (and (eqAV fa (filmK b L)) (and (Nat.ble (r + 1) L) (and (lessAll h (vA b L false)) (Nat.ble (b + 1) h.next)))))
      (some ((T.ret (aftE r x1 x2,viewA (b + 1) (vA b L false))).bind (graftT (b + 1) (vA b L false) h []))) none
  | _=>none
theorem orcA_ok {p:Par} (hP:p.P=Tryd.prog) {b L:Nat} (hb:b=2001 ∨ b=2003 ∨ b=2005) (hok:∀ ρ m,p.ok ρ m→okA L ρ) (h0:1≤L) (hL:L≤6) {args:List AV} {h:Heap} {t:T (AV × Heap)} (e:orcA b L args h=some t):CallOk p 74 args h t:=by
  unfold orcA at e
  split at e
  · rename_i fa k0 r k1 x1 k2 x2
    obtain ⟨hc,e2⟩:=cond_some e
    clear e
    simp only [Bool.and_eq_true] at hc
    obtain ⟨⟨i0,i1,i2⟩,i3,i4,i5,i6⟩:=hc
    have i0:=isI64_eq i0; have i1:=isI64_eq i1; have i2:=isI64_eq i2
    subst i0; subst i1; subst i2
    have i3:=eqAV_eq _ _ i3; subst i3
    cases e2
    exact (after_said hP hb hok h0 hL (ble_t.1 i4) x1 x2).frame (n:=(b + 1)) (by omega) (by rcases hb with rfl | rfl | rfl <;> rfl) (viewA_ok hb L h0 hL false) (lessAll_ok i5) (ble_t.1 i6) (fun _=>[])
  · cases e
end Go.Sx
namespace Go.Sx
open Go.RowKit Go.Proofs
set_option maxRecDepth 100000
theorem bk0 (k:Nat):RunL tb0 100 k [e0]:=⟨(lAll_cons (p:=Ent.run tb0 100) e0_run rfl)⟩
theorem bk2 (k:Nat):RunL tb0 100 k [e2,e5]:=⟨(lAll_cons (p:=Ent.run tb0 100) e2_run (lAll_cons (p:=Ent.run tb0 100) e5_run rfl))⟩
theorem bk3 (k:Nat):RunL tb0 100 k [e3]:=⟨(lAll_cons (p:=Ent.run tb0 100) e3_run rfl)⟩
theorem bk4 (k:Nat):RunL tb0 100 k [e4,e7]:=⟨(lAll_cons (p:=Ent.run tb0 100) e4_run (lAll_cons (p:=Ent.run tb0 100) e7_run rfl))⟩
theorem bk6 (k:Nat):RunL tb0 100 k [e6]:=⟨(lAll_cons (p:=Ent.run tb0 100) e6_run rfl)⟩
noncomputable def ents1:PT (List Ent):=(.node (some [e0]) (.node none (.node (some [e4,e7]) .nil .nil) (.node (some [e3]) .nil .nil)) (.node (some [e6]) (.node (some [e2,e5]) .nil .nil) .nil))
theorem ents1_run:ents1.Every (RunL tb0 100):=⟨ev1 (bk0 _),⟨ev0,⟨ev1 (bk4 _),trivial,trivial⟩,⟨ev1 (bk3 _),trivial,trivial⟩⟩,⟨ev1 (bk6 _),⟨ev1 (bk2 _),trivial,trivial⟩,trivial⟩⟩
noncomputable def orc1 (f:FuncId) (args:List AV) (h:Heap):Option (T (AV × Heap)):=entPT 8 ents1 f args h
theorem orc1_ok:∀ f args h t,orc1 f args h=some t→CallOk pT f args h t:=fun _ _ _ _ e=>entPT_ok tabs0 ents1_run e
noncomputable def tb1:Tabs:=⟨Sx.Tryd.ft.get,lFind Sx.Tryd.rt,2000,orc1⟩
theorem tabs1:TabOk pT Sx.Tryd.tt.get tb1:=Tryd.tab orc1 orc1_ok 2000
end Go.Sx
namespace Go.Sx
open Go.RowKit Go.Proofs
set_option maxRecDepth 100000
def bt (m i:Nat):Bool:=Nat.beq (Nat.mod (Nat.div m (Nat.pow 2 i)) 2) 1
def cnt (m:Nat):Nat:=(cond (bt m 0) 1 0) + (cond (bt m 1) 1 0) + (cond (bt m 2) 1 0) + (cond (bt m 3) 1 0) + (cond (bt m 4) 1 0) + (cond (bt m 5) 1 0)
def del (m r:Nat):Nat:=m - Nat.pow 2 r
noncomputable def lFilter (p:Nat→Bool) (l:List Nat):List Nat:=@List.rec Nat (fun _=>List Nat) [] (fun a _ ih=>cond (p a) (a :: ih) ih) l
noncomputable def rsOf (m:Nat):List Nat:=lFilter (bt m) (upN 6 0)
noncomputable def bitsA (m:Nat):AV:=.agg (lMap (fun i=>tag (bt m i)) (upN 6 0))
noncomputable def iA (x:IE):AV:=.int .i64 x
noncomputable def ro (cs:List AV):AObj:=.cells cs 0 false false
noncomputable def vs6:List IE:=lMap IE.var (upN 6 510)
noncomputable def allO (h:Heap) (l:List (Nat × AObj)):Bool:=lAll (fun g:Nat × AObj=>isO (h.get g.1) g.2) l
noncomputable def cellsB (cs:List IE) (ext:Bool):AV:=.tup [.tup (lMap iA cs),ln 3,tag true,tag ext]
noncomputable def empE (r:Nat) (x1 x2:IE):BE:=.and (.cmp .eql (af1 r x1 x2) (.lit (Int.ofNat 0))) (.and (.cmp .eql (af2 r x1 x2) (.lit (Int.ofNat 0))) (.lit true))
noncomputable def noneE (m:Nat) (x1 x2:IE):BE:=.app (4000 + m) x1 x2 (.lit 0)
noncomputable def ordE (m:Nat) (x1 x2:IE) (j:Nat):IE:=.app (4100 + 8 * m + j) x1 x2 (.lit 0)
noncomputable def leftE (K m:Nat) (x1 x2:IE) (j:Nat) (o:IE):IE:=.app (5000 + 600 * K + 8 * m + j) x1 x2 o
noncomputable def mapI (f:Nat→IE→IE):List IE→Nat→List IE:=fun l=>@List.rec IE (fun _=>Nat→List IE) (fun _=>[]) (fun a _ ih j=>f j a :: ih (j + 1)) l
noncomputable def leftL (K m p:Nat) (x1 x2:IE) (xs:List IE):List IE:=mapI (fun j o=>cond (Nat.ble p j) (leftE K m x1 x2 j o) o) xs 0
noncomputable def ordL (m:Nat) (x1 x2:IE):List IE:=lMap (ordE m x1 x2) (upN (cnt m) 0)
noncomputable def updL (K m' p r:Nat) (y1 y2:IE) (cs:List IE):List IE:=mapI (fun j o=>cond (Nat.ble (p + 1) j) (leftE K m' y1 y2 j o) (cond (Nat.beq j p) (.lit (Int.ofNat r)) o)) cs 0
noncomputable def nextL (p r m':Nat) (y1 y2:IE) (cs:List IE):List IE:=lApp (lTake cs p) (.lit (Int.ofNat r) :: ordL m' y1 y2)
noncomputable def tSr (K:Nat) (fd:List IE→T AV) (m p:Nat) (x1 x2:IE) (l:List Nat):List IE→T AV :=
  @List.rec Nat (fun _=>List IE→T AV) (fun cs=>.ret (.tup [tag true,tag true,cellsB cs false]))
    (fun r _ ih cs=>.br (empE r x1 x2) (ih cs) (cond (Nat.beq (del m r) 0) (fd (nextL p r (del m r) (af1 r x1 x2) (af2 r x1 x2) cs))
      (.br (noneE (del m r) (af1 r x1 x2) (af2 r x1 x2)) (ih (updL K (del m r) p r (af1 r x1 x2) (af2 r x1 x2) cs)) (fd (nextL p r (del m r) (af1 r x1 x2) (af2 r x1 x2) cs))))) l
noncomputable def noneF (ρ:Rho):Nat→Nat→Int→Int→Bool
  | 0,_,_,_=>false
  | k + 1,m,a,b=>(rsOf m).all fun r=>decide (aftF ρ r a b=(0,0)) || noneF ρ k (del m r) (aftF ρ r a b).1 (aftF ρ r a b).2
noncomputable def ordF (ρ:Rho):Nat→Nat→Int→Int→List Int
  | 0,_,_,_=>[]
  | k + 1,m,a,b=>match (rsOf m).find? fun r=>!(decide (aftF ρ r a b=(0,0)) || noneF ρ k (del m r) (aftF ρ r a b).1 (aftF ρ r a b).2) with
    | some r=>(r:Int) :: ordF ρ k (del m r) (aftF ρ r a b).1 (aftF ρ r a b).2
    | none=>[]
noncomputable def leftF (ρ:Rho):Nat→Nat→Nat→Nat→Int→Int→Int→Int
  | 0,_,_,_,_,_,o=>o
  | k + 1,p,m,j,a,b,o=>(rsOf m).foldl (fun o r=>if aftF ρ r a b=(0,0) then o else if j < p then o else if j=p then (r:Int) else leftF ρ k (p + 1) (del m r) j (aftF ρ r a b).1 (aftF ρ r a b).2 o) o
def okT (L:Nat) (ρ:Rho):Prop:=okA L ρ∧∀ m,m < 2 ^ L →
  (∀ a b,ρ.fb (4000 + m) a b 0=noneF ρ (cnt m) m a b)∧(∀ j a b,j < 8→ρ.fi (4100 + 8 * m + j) a b 0=(ordF ρ (cnt m) m a b).getD j 0) ∧
  ∀ K j a b o,K≤6→j < 8→ρ.fi (5000 + 600 * K + 8 * m + j) a b o=leftF ρ (cnt m) (K - cnt m) m j a b o
def mapZ (f:Nat→Int→Int):List Int→Nat→List Int
  | [],_=>[]
  | a :: l,j=>f j a :: mapZ f l (j + 1)
def dens (ρ:Rho) (l:List IE):List Int:=l.map (IE.den ρ)
theorem mapZ_comp (f g:Nat→Int→Int):∀ (l:List Int) (j:Nat),mapZ f (mapZ g l j) j=mapZ (fun j o=>f j (g j o)) l j
  | [],_=>rfl
  | a :: l,j=>by simp only [mapZ,mapZ_comp f g l]
theorem mapZ_id:∀ (l:List Int) (j:Nat),mapZ (fun _ o=>o) l j=l
  | [],_=>rfl
  | a :: l,j=>by simp only [mapZ,mapZ_id l]
theorem mapZ_congr {f g:Nat→Int→Int}:∀ (l:List Int) (j:Nat),(∀ i o,j≤i→i < j + l.length→f i o=g i o)→mapZ f l j=mapZ g l j
  | [],_,_=>rfl
  | a :: l,j,h=>by
    simp only [mapZ,List.length_cons] at h ⊢
    rw [h j a (Nat.le_refl _) (by omega),mapZ_congr l (j + 1) fun i o h1 h2=>h i o (by omega) (by omega)]
theorem mapI_cons (f:Nat→IE→IE) (a:IE) (l:List IE) (j:Nat):mapI f (a :: l) j=f j a :: mapI f l (j + 1):=rfl
theorem dens_mapI {ρ:Rho} {f:Nat→IE→IE} {g:Nat→Int→Int}:∀ (l:List IE) (j:Nat),(∀ i o,j≤i→i < j + l.length→(f i o).den ρ=g i (o.den ρ))→dens ρ (mapI f l j)=mapZ g (dens ρ l) j
  | [],_,_=>rfl
  | a :: l,j,h=>by
    rw [mapI_cons]
    simp only [dens,List.map_cons,mapZ,List.length_cons] at h ⊢
    rw [h j a (Nat.le_refl _) (by omega)]
    have:=dens_mapI (ρ:=ρ) (f:=f) (g:=g) l (j + 1) fun i o h1 h2=>h i o (by omega) (by omega)
    simp only [dens] at this
    rw [this]
theorem mapI_len (f:Nat→IE→IE):∀ (l:List IE) (j:Nat),(mapI f l j).length=l.length
  | [],_=>rfl
  | a :: l,j=>by rw [mapI_cons,List.length_cons,List.length_cons,mapI_len f l]
theorem same_ints {ρ ρ':Rho}:∀ {l l':List IE},l.map (IE.den ρ)=l'.map (IE.den ρ')→SameL ρ (lMap iA l) ρ' (lMap iA l')
  | [],[],_=>SameL.nil
  | [],_ :: _,h=>by simp at h
  | _ :: _,[],h=>by simp at h
  | a :: l,b :: l',h=>by
    simp only [List.map_cons,List.cons.injEq] at h
    have e1:lMap iA (a :: l)=iA a :: lMap iA l:=rfl
    have e2:lMap iA (b :: l')=iA b :: lMap iA l':=rfl
    rw [e1,e2]
    exact SameL.cons (SameV.int h.1) (same_ints h.2)
theorem lFilter_mem {p:Nat→Bool}:∀ {l:List Nat} {a:Nat},a ∈ lFilter p l→a ∈ l∧p a=true
  | [],a,h=>by cases h
  | x :: l,a,h=>by
    have e:lFilter p (x :: l)=cond (p x) (x :: lFilter p l) (lFilter p l):=rfl
    rw [e] at h
    cases hp:p x with
    | true =>
      rw [hp,cond_true] at h
      rcases List.mem_cons.1 h with rfl | h
      · exact ⟨List.mem_cons_self,hp⟩
      · have:=lFilter_mem h; exact ⟨List.mem_cons_of_mem _ this.1,this.2⟩
    | false =>
      rw [hp,cond_false] at h
      have:=lFilter_mem h; exact ⟨List.mem_cons_of_mem _ this.1,this.2⟩
noncomputable def skipF (ρ:Rho) (k m:Nat) (a b:Int) (r:Nat):Bool:=decide (aftF ρ r a b=(0,0)) || noneF ρ k (del m r) (aftF ρ r a b).1 (aftF ρ r a b).2
noncomputable def stepF (ρ:Rho) (k p m:Nat) (a b:Int) (j:Nat) (o:Int) (r:Nat):Int :=
  if aftF ρ r a b=(0,0) then o else if j < p then o else if j=p then (r:Int) else leftF ρ k (p + 1) (del m r) j (aftF ρ r a b).1 (aftF ρ r a b).2 o
theorem emp_den {L:Nat} {ρ:Rho} (h:okA L ρ) {r:Nat} (hr:r < L) (x1 x2:IE):(empE r x1 x2).den ρ=true ↔ aftF ρ r (x1.den ρ) (x2.den ρ)=(0,0):=by
  obtain ⟨d1,d2⟩:=af_den h hr x1 x2
  unfold empE
  rw [BE.t_and,BE.t_and,BE.t_eql,BE.t_eql,d1,d2,Prod.ext_iff]
  simp [IE.den,BE.den]
theorem none_den {L:Nat} {ρ:Rho} (h:okT L ρ) {m:Nat} (hm:m < 2 ^ L) (x1 x2:IE):(noneE m x1 x2).den ρ=noneF ρ (cnt m) m (x1.den ρ) (x2.den ρ):=by
  rw [← (h.2 m hm).1]
  unfold noneE
  simp only [BE.den,FB,IE.den]
  rw [if_pos (by omega)]
theorem left_den {L K:Nat} {ρ:Rho} (h:okT L ρ) {m:Nat} (hm:m < 2 ^ L) (hK:K≤6) (x1 x2:IE) {j:Nat} (hj:j < 8) (o:IE):(leftE K m x1 x2 j o).den ρ=leftF ρ (cnt m) (K - cnt m) m j (x1.den ρ) (x2.den ρ) (o.den ρ):=by
  rw [← (h.2 m hm).2.2 K j _ _ _ hK hj]
  unfold leftE
  simp only [FI,IE.den]
  rw [if_pos (by omega)]
theorem ord_den {L:Nat} {ρ:Rho} (h:okT L ρ) {m:Nat} (hm:m < 2 ^ L) (x1 x2:IE) {j:Nat} (hj:j < 8):(ordE m x1 x2 j).den ρ=(ordF ρ (cnt m) m (x1.den ρ) (x2.den ρ)).getD j 0:=by
  rw [← (h.2 m hm).2.1 j _ _ hj]
  unfold ordE
  simp only [FI,IE.den]
  rw [if_pos (by omega)]
theorem tT_nil (K:Nat) (fd:List IE→T AV) (m p:Nat) (x1 x2:IE) (cs:List IE):tSr K fd m p x1 x2 [] cs=.ret (.tup [tag true,tag true,cellsB cs false]):=rfl
theorem tT_cons (K : Nat) (fd : List IE → T AV) (m p r : Nat) (x1 x2 : IE) (l : List Nat) (cs : List IE) : tSr K fd m p x1 x2 (r :: l) cs = .br (empE r x1 x2) (tSr K fd m p x1 x2 l cs) (cond (Nat.beq (del m r) 0) (fd (nextL p r (del m r) (af1 r x1 x2) (af2 r x1 x2) cs))
      (.br (noneE (del m r) (af1 r x1 x2) (af2 r x1 x2)) (tSr K fd m p x1 x2 l (updL K (del m r) p r (af1 r x1 x2) (af2 r x1 x2) cs)) (fd (nextL p r (del m r) (af1 r x1 x2) (af2 r x1 x2) cs)))):=rfl
theorem tT_holds {fd : List IE → T AV} {L K : Nat} {ρ : Rho} (h : okT L ρ) {m k p : Nat} {x1 x2 : IE} (hp : K - (k + 1) = p) (hkL : k + 1 ≤ K) (hK : K ≤ 6) {R : AV → Prop} : ∀ (l : List Nat) (cs : List IE), (∀ r ∈ l, r < L ∧ del m r < 2 ^ L ∧ cnt (del m r) = k ∧ (del m r = 0 → k = 0)) → cs.length = 6 →
    ((∀ r ∈ l,skipF ρ k m (x1.den ρ) (x2.den ρ) r=true)→∀ cs':List IE,cs'.length=6→dens ρ cs'=mapZ (fun j o=>l.foldl (stepF ρ k p m (x1.den ρ) (x2.den ρ) j) o) (dens ρ cs) 0→R (.tup [tag true,tag true,cellsB cs' false])) →
    (∀ r,l.find? (fun r=>!skipF ρ k m (x1.den ρ) (x2.den ρ) r)=some r→∀ cs':List IE,cs'.length=6→(dens ρ cs').take p=(dens ρ cs).take p→(fd (nextL p r (del m r) (af1 r x1 x2) (af2 r x1 x2) cs')).Holds ρ R)→(tSr K fd m p x1 x2 l cs).Holds ρ R
  | [],cs,_,hc,hn,hf=>by
    rw [tT_nil]
    exact hn (fun r hr=>by cases hr) cs hc (by simp only [List.foldl_nil]; exact (mapZ_id _ 0).symm)
  | r :: l,cs,hl,hc,hn,hf=>by
    obtain ⟨hr,hd,hk,h0⟩:=hl r List.mem_cons_self
    have hl':∀ r ∈ l,r < L∧del m r < 2 ^ L∧cnt (del m r)=k∧(del m r=0→k=0):=fun r hr=>hl r (List.mem_cons_of_mem _ hr)
    obtain ⟨d1,d2⟩:=af_den h.1 hr x1 x2
    rw [tT_cons]
    simp only [T.Holds]
    split
    · rename_i he
      have he:=(emp_den h.1 hr x1 x2).1 he
      have hs:skipF ρ k m (x1.den ρ) (x2.den ρ) r=true:=by unfold skipF; rw [he]; rfl
      refine tT_holds h hp hkL hK l cs hl' hc (fun ha cs' hc' hd'=>hn (fun r' hr'=>?_) cs' hc' ?_) fun r' hr' cs' hc' ht=>hf r' ?_ cs' hc' ht
      · rcases List.mem_cons.1 hr' with rfl | hr'
        · exact hs
        · exact ha r' hr'
      · rw [hd']
        refine mapZ_congr _ _ fun j o _ _=>?_
        have:stepF ρ k p m (x1.den ρ) (x2.den ρ) j o r=o:=by unfold stepF; rw [if_pos he]
        simp only [List.foldl_cons,this]
      · simp only [List.find?_cons,hs,Bool.not_true]; exact hr'
    · rename_i he
      have he:¬ aftF ρ r (x1.den ρ) (x2.den ρ)=(0,0):=fun h'=>he ((emp_den h.1 hr x1 x2).2 h')
      have hs:skipF ρ k m (x1.den ρ) (x2.den ρ) r=noneF ρ k (del m r) (aftF ρ r (x1.den ρ) (x2.den ρ)).1 (aftF ρ r (x1.den ρ) (x2.den ρ)).2:=by unfold skipF; rw [decide_eq_false he,Bool.false_or]
      have found:skipF ρ k m (x1.den ρ) (x2.den ρ) r=false→(fd (nextL p r (del m r) (af1 r x1 x2) (af2 r x1 x2) cs)).Holds ρ R:=fun hf' =>
        hf r (by simp only [List.find?_cons,hf',Bool.not_false]) cs hc rfl
      cases hz:Nat.beq (del m r) 0 with
      | true =>
        rw [cond_true]
        refine found ?_
        have:=h0 (beq_t.1 hz)
        subst this
        rw [hs]; rfl
      | false =>
        rw [cond_false]
        simp only [T.Holds]
        have hnd:=none_den h hd (af1 r x1 x2) (af2 r x1 x2)
        rw [hk,d1,d2,← hs] at hnd
        split
        · rename_i hne
          rw [hnd] at hne
          have hu:dens ρ (updL K (del m r) p r (af1 r x1 x2) (af2 r x1 x2) cs)=mapZ (fun j o=>stepF ρ k p m (x1.den ρ) (x2.den ρ) j o r) (dens ρ cs) 0:=by
            unfold updL
            refine dens_mapI cs 0 fun j o _ hj=>?_
            rw [hc] at hj
            unfold stepF
            rw [if_neg he]
            by_cases h1:p + 1≤j
            · rw [ble_t.2 h1,cond_true,if_neg (by omega),if_neg (by omega),left_den h hd hK _ _ (by omega),hk,d1,d2]
              have:K - k=p + 1:=by omega
              rw [this]
            · have : Nat.ble (p + 1) j = false := by
                cases hb:Nat.ble (p + 1) j with
                | false=>rfl
                | true=>exact absurd (ble_t.1 hb) h1
              rw [this,cond_false]
              by_cases h2:j=p
              · rw [beq_t.2 h2,cond_true,if_neg (by omega),if_pos h2]; rfl
              · rw [beq_f.2 h2,cond_false,if_pos (by omega)]
          have hul:(updL K (del m r) p r (af1 r x1 x2) (af2 r x1 x2) cs).length=6:=by unfold updL; rw [mapI_len]; exact hc
          refine tT_holds h hp hkL hK l _ hl' hul (fun ha cs' hc' hd'=>hn (fun r' hr'=>?_) cs' hc' ?_) fun r' hr' cs' hc' ht=>hf r' ?_ cs' hc' ?_
          · rcases List.mem_cons.1 hr' with rfl | hr'
            · exact hne
            · exact ha r' hr'
          · rw [hd',hu,mapZ_comp]
            rfl
          · simp only [List.find?_cons,hne,Bool.not_true]; exact hr'
          · rw [ht,hu]
            have key:∀ (ds:List Int) (i q:Nat),i + q=p→(mapZ (fun j o=>stepF ρ k p m (x1.den ρ) (x2.den ρ) j o r) ds i).take q=ds.take q:=by
              intro ds
              induction ds with
              | nil=>intro i q _; rfl
              | cons d ds ih =>
                intro i q hq
                cases q with
                | zero=>simp
                | succ q =>
                  simp only [mapZ,List.take_succ_cons]
                  rw [ih (i + 1) q (by omega)]
                  have:stepF ρ k p m (x1.den ρ) (x2.den ρ) i d r=d:=by unfold stepF; rw [if_neg he,if_pos (by omega)]
                  rw [this]
            exact key _ 0 p (by omega)
        · rename_i hne
          refine found ?_
          rw [hnd] at hne
          simpa using hne
end Go.Sx
namespace Go.Sx
open Go.RowKit Go.Proofs
set_option maxRecDepth 100000
structure Cons where
  b:Nat
  arr:Nat
  n:Nat
  ptrs:List AV
  pre:Nat→List (Nat × AObj)
  suf:Nat→List (Nat × AObj)
  fnd:Option (Nat→List (Nat × AObj))
  new:Option Nat
  fn:Nat
  size:Nat→Nat
  dom:Nat→Nat→Bool
  rw:AV × Heap→List Nat
noncomputable def vT (C:Cons) (L:Nat) (xs:List IE):List (Nat × AObj):=C.pre L ++ (C.arr,.cells (lMap iA xs) 3 true false) :: C.suf L
noncomputable def newB (C:Cons) (cs:List IE):List (Nat × AObj) :=
  match C.new with
  | some j=>[(j,.cells (lMap iA cs) 3 true true)]
  | none=>[]
noncomputable def argsT (C:Cons) (L m:Nat) (x1 x2:IE):List AV:=ln (C.size L - cnt m) :: bitsA m :: .agg [iA x1,iA x2] :: C.ptrs
noncomputable def noneLf (C:Cons) (L m:Nat) (x1 x2:IE) (xs:List IE):AV × Heap:=(tag true,viewA C.n (vT C L (leftL (C.size L) m (C.size L - cnt m) x1 x2 xs)))
noncomputable def foundT (C:Cons) (L:Nat) (cs:List IE):T (AV × Heap) :=
  match C.fnd with
  | none=>.fail 9
  | some f=>.ret (tag false,viewA C.fn (f L ++ newB C cs))
noncomputable def saidT (C:Cons) (L m:Nat) (x1 x2:IE) (xs:List IE):T (AV × Heap) :=
  cond (Nat.beq m 0) (foundT C L (lApp (lTake xs (C.size L - cnt m)) (ordL m x1 x2))) (.br (noneE m x1 x2) (.ret (noneLf C L m x1 x2 xs)) (foundT C L (lApp (lTake xs (C.size L - cnt m)) (ordL m x1 x2))))
noncomputable def intsI:List AV→Option (List IE)
  | []=>some []
  | a :: l=>(match a with
    | .int k x=>cond (isI64 k) (match intsI l with
      | some xs=>some (x :: xs)
      | none=>none) none
    | _=>none)
noncomputable def cellsI (o:Option AObj):Option (List IE) :=
  match o with
  | some (.cells cs _ _ _)=>intsI cs
  | _=>none
noncomputable def maskA:List AV→Nat→Option Nat
  | [],_=>some 0
  | a :: l,w=>(match a with
    | .bool (.lit b)=>(match maskA l (2 * w) with
      | some m=>some (cond b (w + m) m)
      | none=>none)
    | _=>none)
noncomputable def newN (C:Cons):List Nat :=
  match C.new with
  | some j=>[j]
  | none=>[]
noncomputable def nwT (C:Cons) (r:AV × Heap):List Nat :=
  match r.1 with
  | .bool (.lit true)=>[]
  | _=>newN C
noncomputable def orcTs (C:Cons) (L k:Nat) (args:List AV) (h:Heap):Option (T (AV × Heap)) :=
  match args with
  | (_ :: .agg bs :: .agg [.int _ x1,.int _ x2] :: _)=>(match maskA bs 1,cellsI (h.get C.arr) with
    | some m, some xs => cond (and (and (eqAVs args (argsT C L m x1 x2)) (and (C.dom L m) (Nat.ble (cnt m + 1) k))) (and (and (Nat.beq (lLen xs) 6) (lessAll h (vT C L xs))) (Nat.ble C.n h.next)))
        (some ((saidT C L m x1 x2 xs).bind fun r=>graftT C.n (vT C L xs) h (nwT C r) r)) none
    | _,_=>none)
  | _=>none
noncomputable def orcL (C:Cons) (L k:Nat) (f:FuncId) (args:List AV) (h:Heap):Option (T (AV × Heap)):=cond (Nat.beq f 74) (orcA C.b L args h) (cond (Nat.beq f 77) (orcTs C L k args h) none)
noncomputable def tbTs (C:Cons) (L k:Nat):Tabs:=⟨Sx.Tryd.ft.get,lFind Sx.Tryd.rt,2000,orcL C L k⟩
noncomputable def runT (C:Cons) (L m:Nat):T (AV × Heap):=(evalN (tbTs C L (cnt m)) 100 false 77 (argsT C L m (.var 500) (.var 501)) (viewA C.n (vT C L vs6))).bind fun r=>graftT C.n (vT C L vs6) (viewA C.n (vT C L vs6)) (C.rw r) r
noncomputable def newA (C:Cons) (h:Heap):AV :=
  match C.new with
  | some j=>blkA (h.get j)
  | none=>tag true
noncomputable def encT (C:Cons) (L:Nat) (q:AV × Heap):AV :=
  match q.1 with
  | .bool (.lit true)=>.tup [tag true,tag (and (allO q.2 (C.pre L)) (and (allO q.2 (C.suf L)) (Nat.beq q.2.next C.n))),blkA (q.2.get C.arr)]
  | v=>.tup [v,tag (and (match C.fnd with | some f=>allO q.2 (f L) | none=>false) (Nat.beq q.2.next C.fn)),newA C q.2]
noncomputable def fdT (C:Cons) (cs:List IE):T AV :=
  match C.fnd with
  | none=>.fail 9
  | some _=>.ret (.tup [tag false,tag true,match C.new with | some _=>cellsB cs true | none=>tag true])
noncomputable def expT (C:Cons) (L m:Nat):T AV :=
  cond (Nat.beq m 0) (fdT C (lTake vs6 (C.size L))) (tSr (C.size L) (fdT C) m (C.size L - cnt m) (.var 500) (.var 501) (rsOf m) vs6)
noncomputable def ckT (C:Cons) (L m:Nat):Bool:=eqTF ((runT C L m).bind fun q=>.ret (encT C L q)) (expT C L m)
theorem lAll_at {p:Nat→Bool} {n k r:Nat} (h:lAll p (upN n k)=true) (h1:k≤r) (h2:r < k + n):p r=true:=lAll_mem h r (mem_upN n k r h1 h2)
noncomputable def factM (m:Nat):Bool:=and (lAll (fun r=>and (Nat.beq (cnt (del m r) + 1) (cnt m)) (and (Nat.ble (Nat.pow 2 r) m) (and (Nat.ble (del m r) m) (cond (Nat.beq (del m r) 0) (Nat.beq (cnt m) 1) true)))) (rsOf m)) (cond (Nat.beq m 0) (Nat.beq (cnt m) 0) (Nat.ble 1 (cnt m)))
theorem factM_all:lAll factM (upN 64 0)=true:=by kernel_rfl
noncomputable def factC (L:Nat):Bool:=lAll (fun m=>Nat.ble (cnt m) L) (upN (Nat.pow 2 L) 0)
theorem factC_all:lAll factC (upN 6 1)=true:=by kernel_rfl
theorem cnt_le {L m:Nat} (h0:1≤L) (hL:L≤6) (hm:m < 2 ^ L):cnt m≤L:=by
  have h:factC L=true:=lAll_at factC_all h0 (by omega)
  have h:lAll (fun m=>Nat.ble (cnt m) L) (upN (Nat.pow 2 L) 0)=true:=h
  exact ble_t.1 (lAll_at (p:=fun m=>Nat.ble (cnt m) L) h (Nat.zero_le _) (by rw [Nat.zero_add]; exact hm))
theorem lt64 {L m:Nat} (hL:L≤6) (hm:m < 2 ^ L):m < 64:=Nat.lt_of_lt_of_le hm (Nat.pow_le_pow_right (by omega) hL)
theorem facts_of {L m:Nat} (hL:L≤6) (hm:m < 2 ^ L):(∀ r ∈ rsOf m,r < L∧del m r < 2 ^ L∧cnt (del m r) + 1=cnt m∧(del m r=0→cnt m=1))∧(m=0→cnt m=0)∧(m ≠ 0→1≤cnt m):=by
  have h:=lAll_at factM_all (Nat.zero_le m) (by have:=lt64 hL hm; omega)
  unfold factM at h
  simp only [Bool.and_eq_true] at h
  obtain ⟨h1,h2⟩:=h
  refine ⟨fun r hr=>?_,fun h0=>?_,fun h0=>?_⟩
  · have:=lAll_mem h1 r hr
    simp only [Bool.and_eq_true] at this
    obtain ⟨q1,q2,q3,q4⟩:=this
    have q2:=ble_t.1 q2
    refine ⟨?_,Nat.lt_of_le_of_lt (ble_t.1 q3) hm,beq_t.1 q1,fun hz=>?_⟩
    · have:2 ^ r < 2 ^ L:=Nat.lt_of_le_of_lt q2 hm
      exact (Nat.pow_lt_pow_iff_right (by omega)).1 this
    · rw [beq_t.2 hz,cond_true] at q4; exact beq_t.1 q4
  · rw [beq_t.2 h0,cond_true] at h2; exact beq_t.1 h2
  · rw [beq_f.2 h0,cond_false] at h2; exact ble_t.1 h2
theorem idsI (n:Nat):∀ xs:List IE,idsLts n (lMap iA xs)=true
  | []=>rfl
  | x :: xs=>by
    have e:lMap iA (x :: xs)=iA x :: lMap iA xs:=rfl
    rw [e]; simp only [idsLts,idsI n xs,iA,idsLt,Bool.and_self]
structure ConsOk (C:Cons):Prop where
  b:C.b=2001 ∨ C.b=2003 ∨ C.b=2005
  ck:∀ L m,1≤L→L≤6→C.dom L m=true→(C.fnd=none→m ≠ 0)→ckT C L m=true
  lt:∀ L m,C.dom L m=true→m < 2 ^ L
  sub:∀ L m r,C.dom L m=true→r ∈ rsOf m→C.dom L (del m r)=true
  le:∀ L m,C.dom L m=true→cnt m≤C.size L
  six:∀ L,L≤6→C.size L≤6
  big:1000≤C.n
  ids:idsLts C.n C.ptrs=true
  ptrs:plVs C.ptrs=true
  arr:C.arr < C.n
  up:∀ L xs,1≤L→L≤6→upA 0 (vT C L xs)=true
  pre:∀ L,1≤L→L≤6→lAll (fun g:Nat × AObj=>and (plO g.2) (and (Nat.ble (g.1 + 1) C.n) (idsO C.n g.2))) (C.pre L)=true
  suf:∀ L,1≤L→L≤6→lAll (fun g:Nat × AObj=>and (plO g.2) (and (Nat.ble (g.1 + 1) C.n) (idsO C.n g.2))) (C.suf L)=true
  fup:∀ f,C.fnd=some f→∀ L cs,1≤L→L≤6→upA 0 (f L ++ newB C cs)=true
  fpl:∀ f,C.fnd=some f→∀ L,1≤L→L≤6→lAll (fun g:Nat × AObj=>plO g.2) (f L)=true
theorem lAll_app {α:Type} {p:α→Bool}:∀ {l m:List α},lAll p l=true→lAll p m=true→lAll p (l ++ m)=true
  | [],_,_,h=>h
  | a :: l,m,h,k=>by
    have e:lAll p (a :: l)=cond (p a) (lAll p l) false:=rfl
    rw [e] at h
    cases hp:p a with
    | false=>rw [hp] at h; cases h
    | true=>rw [hp] at h; exact lAll_cons hp (lAll_app h k)
theorem lAll_imp {α:Type} {p q:α→Bool} (h:∀ a,p a=true→q a=true):∀ {l:List α},lAll p l=true→lAll q l=true
  | [],_=>rfl
  | a :: l,k=>by
    have e:lAll p (a :: l)=cond (p a) (lAll p l) false:=rfl
    rw [e] at k
    cases hp:p a with
    | false=>rw [hp] at k; cases k
    | true=>rw [hp] at k; exact lAll_cons (h a hp) (lAll_imp h k)
theorem allO_get {h:Heap} {l:List (Nat × AObj)} (e:allO h l=true) {b:Nat} {o:AObj} (hm:(b,o) ∈ l):h.get b=some o:=isO_eq (lAll_mem e (b,o) hm)
section
variable {C:Cons} (O:ConsOk C)
include O
theorem ConsOk.view {L:Nat} (h0:1≤L) (hL:L≤6) (xs:List IE):viewOk C.n (vT C L xs)=true:=by
  unfold viewOk
  rw [Bool.and_eq_true]
  refine ⟨O.up L xs h0 hL,?_⟩
  unfold vT
  have imp:∀ g:Nat × AObj,and (plO g.2) (and (Nat.ble (g.1 + 1) C.n) (idsO C.n g.2))=true→and (Nat.ble (g.1 + 1) C.n) (idsO C.n g.2)=true:=fun g h=>by
    rw [Bool.and_eq_true] at h; exact h.2
  refine lAll_app (lAll_imp imp (O.pre L h0 hL)) (lAll_cons ?_ (lAll_imp imp (O.suf L h0 hL)))
  rw [Bool.and_eq_true]
  exact ⟨ble_t.2 O.arr,idsI C.n xs⟩
theorem ConsOk.args (L m:Nat) (x1 x2:IE):idsLts C.n (argsT C L m x1 x2)=true:=by
  unfold argsT
  have e1:idsLt C.n (ln (C.size L - cnt m))=true:=rfl
  have e2:idsLt C.n (bitsA m)=true:=rfl
  have e3:idsLt C.n (.agg [iA x1,iA x2])=true:=rfl
  simp only [idsLts,e1,e2,e3,O.ids,Bool.and_self]
end
end Go.Sx
namespace Go.Sx
open Go.RowKit Go.Proofs
set_option maxRecDepth 100000
noncomputable def pTs (L:Nat):Par:=⟨Tryd.prog,rcOf Tryd.rows,fun ρ _=>okT L ρ⟩
theorem foldl_id {α β:Type} {f:α→β→α}:∀ (l:List β) (a:α),(∀ a b,f a b=a)→l.foldl f a=a
  | [],_,_=>rfl
  | b :: l,a,h=>by rw [List.foldl_cons,h]; exact foldl_id l a h
theorem upN_map {f:Nat→Int}:∀ (k i:Nat),(upN k (i + 1)).map f=(upN k i).map fun j=>f (j + 1)
  | 0,_=>rfl
  | k + 1,i=>by simp only [upN,List.map_cons,upN_map k (i + 1)]
theorem dens_ordL {L:Nat} {ρ:Rho} (h:okT L ρ) {m:Nat} (hm:m < 2 ^ L) (hc:cnt m≤6) (x1 x2:IE):dens ρ (ordL m x1 x2)=(upN (cnt m) 0).map fun j=>(ordF ρ (cnt m) m (x1.den ρ) (x2.den ρ)).getD j 0:=by
  unfold dens ordL
  rw [lMap_eq,List.map_map]
  refine List.map_congr_left fun j hj=>?_
  have:=upN_lt _ _ _ hj
  exact ord_den h hm x1 x2 (by omega)
theorem dens_app {ρ:Rho} (l m:List IE):dens ρ (lApp l m)=dens ρ l ++ dens ρ m:=by rw [lApp_eq]; exact List.map_append
theorem dens_take {ρ:Rho} (l:List IE) (n:Nat):dens ρ (lTake l n)=(dens ρ l).take n:=by rw [lTake_eq]; exact List.map_take
theorem vT_mem {C:Cons} {L:Nat} {xs:List IE} {b:Nat} {o:AObj} (h:(b,o) ∈ vT C L xs):(b,o) ∈ C.pre L ∨ (b=C.arr∧o=.cells (lMap iA xs) 3 true false) ∨ (b,o) ∈ C.suf L:=by
  unfold vT at h
  rcases List.mem_append.1 h with h | h
  · exact .inl h
  · rcases List.mem_cons.1 h with h | h
    · cases h; exact .inr (.inl ⟨rfl,rfl⟩)
    · exact .inr (.inr h)
theorem vT_pre {C:Cons} {L:Nat} {xs:List IE} {b:Nat} {o:AObj} (h:(b,o) ∈ C.pre L):(b,o) ∈ vT C L xs:=List.mem_append_left _ h
theorem vT_arr {C:Cons} {L:Nat} {xs:List IE}:(C.arr,AObj.cells (lMap iA xs) 3 true false) ∈ vT C L xs:=List.mem_append_right _ List.mem_cons_self
theorem vT_suf {C:Cons} {L:Nat} {xs:List IE} {b:Nat} {o:AObj} (h:(b,o) ∈ C.suf L):(b,o) ∈ vT C L xs:=List.mem_append_right _ (List.mem_cons_of_mem _ h)
theorem newB_mem {C:Cons} {cs:List IE} {b:Nat} {o:AObj} (h:(b,o) ∈ newB C cs):C.new=some b∧o=.cells (lMap iA cs) 3 true true:=by
  unfold newB at h
  split at h
  · rename_i j hj; rw [List.mem_singleton] at h; cases h; exact ⟨hj,rfl⟩
  · cases h
theorem encT_true {C:Cons} {L:Nat} {q:AV × Heap} {cs:List IE} (h:encT C L q=.tup [tag true,tag true,cellsB cs false]):q.1=tag true∧allO q.2 (C.pre L)=true∧allO q.2 (C.suf L)=true∧q.2.next=C.n∧q.2.get C.arr=some (.cells (lMap iA cs) 3 true false):=by
  unfold encT at h
  split at h
  · rename_i hv
    simp only [AV.tup.injEq,List.cons.injEq,and_true] at h
    obtain ⟨_,h2,h3⟩:=h
    simp only [tag,AV.bool.injEq,BE.lit.injEq,Bool.and_eq_true] at h2
    exact ⟨hv,h2.1,h2.2.1,beq_t.1 h2.2.2,blkA_some h3⟩
  · rename_i hv
    simp only [AV.tup.injEq,List.cons.injEq,and_true] at h
    exact absurd h.1 hv
theorem encT_false {C:Cons} {L:Nat} {q:AV × Heap} {f:Nat→List (Nat × AObj)} (hf:C.fnd=some f) {x:AV} (h:encT C L q=.tup [tag false,tag true,x]):q.1=tag false∧allO q.2 (f L)=true∧q.2.next=C.fn∧newA C q.2=x:=by
  unfold encT at h
  split at h
  · simp only [AV.tup.injEq,List.cons.injEq,and_true] at h
    have:=h.1
    simp only [tag,AV.bool.injEq,BE.lit.injEq] at this
    cases this
  · simp only [AV.tup.injEq,List.cons.injEq,and_true] at h
    obtain ⟨h1,h2,h3⟩:=h
    rw [hf] at h2
    simp only [tag,AV.bool.injEq,BE.lit.injEq,Bool.and_eq_true] at h2
    exact ⟨h1,h2.1,beq_t.1 h2.2,h3⟩
def EndR (C:Cons) (L:Nat) (ρ:Rho) (Q:AV × Heap→Prop) (a:AV):Prop:=∀ r0,encT C L r0=a→∃ q,Q q∧SameV ρ r0.1 ρ q.1∧SameH (pTs L) (pTs L) ρ r0.2 ρ q.2
theorem noneR {C : Cons} {L : Nat} {ρ : Rho} {m : Nat} {x1 x2 : IE} {xs : List IE} {Q : AV × Heap → Prop} (k : Q (noneLf C L m x1 x2 xs)) {cs : List IE} (hd : dens ρ cs = dens ρ (leftL (C.size L) m (C.size L - cnt m) x1 x2 xs)) :
    EndR C L ρ Q (.tup [tag true,tag true,cellsB cs false]):=by
  intro r0 he
  obtain ⟨h1,h2,h2',h3,h4⟩:=encT_true he
  refine ⟨_,k,by rw [h1]; exact SameV.refl _ _,h3.trans (viewA_next _ _).symm,fun j o g=>?_⟩
  rcases vT_mem (viewA_get _ _ _ _ g) with hm | ⟨rfl,rfl⟩ | hm
  · exact ⟨o,allO_get h2 hm,SameA.refl o⟩
  · exact ⟨_,h4,SameA.cells rfl (same_ints hd)⟩
  · exact ⟨o,allO_get h2' hm,SameA.refl o⟩
theorem foundR {C:Cons} {L:Nat} {ρ:Rho} {xs:List IE} {Q:AV × Heap→Prop} (k:(foundT C L xs).Holds ρ Q) {cs:List IE} (hd:dens ρ cs=dens ρ xs):(fdT C cs).Holds ρ (EndR C L ρ Q):=by
  unfold foundT at k
  unfold fdT
  cases hf:C.fnd with
  | none=>rw [hf] at k; exact k.elim
  | some f =>
    rw [hf] at k
    have k:Q (tag false,viewA C.fn (f L ++ newB C xs)):=k
    show EndR C L ρ Q _
    intro r0 he
    obtain ⟨h1,h2,h3,h4⟩:=encT_false hf he
    refine ⟨_,k,by rw [h1]; exact SameV.refl _ _,h3.trans (viewA_next _ _).symm,fun j o g=>?_⟩
    rcases List.mem_append.1 (viewA_get _ _ _ _ g) with hm | hm
    · exact ⟨o,allO_get h2 hm,SameA.refl o⟩
    · obtain ⟨hj,rfl⟩:=newB_mem hm
      unfold newA at h4
      rw [hj] at h4
      exact ⟨_,blkA_some h4,SameA.cells rfl (same_ints hd)⟩
section
variable {C:Cons} (O:ConsOk C) {L:Nat} (h0:1≤L) (hL:L≤6)
include O h0 hL
theorem T_base {m:Nat} (hd:C.dom L m=true) (B:TabOk (pTs L) Sx.Tryd.tt.get (tbTs C L (cnt m))):CallOk (pTs L) 77 (argsT C L m (.var 500) (.var 501)) (viewA C.n (vT C L vs6)) (saidT C L m (.var 500) (.var 501) vs6):=by
  have hm:=O.lt L m hd
  by_cases hz0:C.fnd=none∧m=0
  · obtain ⟨hz1,rfl⟩:=hz0
    have e:saidT C L 0 (.var 500) (.var 501) vs6=.fail 9:=by unfold saidT foundT; rw [hz1]; rfl
    rw [e]
    intro vs E w0 w Q K k
    exact k.elim
  have base:=eval_ok B 100 77 (argsT C L m (.var 500) (.var 501)) (viewA C.n (vT C L vs6))
  have fr:CallOk (pTs L) 77 (argsT C L m (.var 500) (.var 501)) (viewA C.n (vT C L vs6)) (runT C L m):=base.frame (n:=C.n) (l:=vT C L vs6) O.big (O.args L m _ _) (O.view h0 hL vs6)
    (fun g hg=>⟨g.2,viewA_mem C.n _ 0 (O.up L vs6 h0 hL) g hg,.refl _⟩) (by rw [viewA_next]; exact Nat.le_refl _) C.rw
  have tree:((runT C L m).bind fun q=>T.ret (encT C L q))=expT C L m:=eqTF_eq _ _ (O.ck L m h0 hL hd fun h h'=>hz0 ⟨h,h'⟩)
  refine CallOk.read rfl fr fun ρ b hok Q k=>⟨ρ,hok,SameL.refl _ _,⟨rfl,fun j o g=>⟨o,g,SameA.refl o⟩⟩,T.holds_enc tree ?_⟩
  obtain ⟨_,hT,_⟩:=hok
  have hT:okT L ρ:=hT
  have hcl:=O.le L m hd
  have hc6:=O.six L hL
  obtain ⟨f1,f2,f3⟩:=facts_of hL hm
  show (expT C L m).Holds ρ (EndR C L ρ Q)
  unfold expT
  unfold saidT at k
  cases hz:Nat.beq m 0 with
  | true =>
    rw [hz,cond_true] at k
    rw [cond_true]
    have hm0:m=0:=beq_t.1 hz
    subst hm0
    refine foundR k ?_
    rw [dens_app,dens_take,dens_take,dens_ordL hT hm (by omega),f2 rfl]
    simp [upN]
  | false =>
    rw [hz,cond_false] at k
    rw [cond_false]
    have hm0:m ≠ 0:=fun h=>by rw [beq_t.2 h] at hz; cases hz
    obtain ⟨n,hn⟩:∃ n,cnt m=n + 1:=⟨cnt m - 1,by have:=f3 hm0; omega⟩
    simp only [T.Holds] at k
    rw [none_den hT hm,hn] at k
    rw [hn]
    refine tT_holds (k:=n) (p:=C.size L - (n + 1)) hT rfl (by omega) hc6 (rsOf m) vs6 (fun r hr=>?_) rfl (fun hall cs' hlen hd=>?_) fun r hr cs' hlen ht=>?_
    · obtain ⟨q1,q2,q3,q4⟩:=f1 r hr
      exact ⟨q1,q2,by omega,fun h=>by have:=q4 h; omega⟩
    · have hN:noneF ρ (n + 1) m ((IE.var 500).den ρ) ((IE.var 501).den ρ)=true:=List.all_eq_true.2 hall
      rw [if_pos hN] at k
      refine noneR k (hd.trans ?_)
      unfold leftL
      rw [hn]
      refine (dens_mapI vs6 0 fun j o _ hj=>?_).symm
      have hj:j < 6:=by have e:vs6.length=6:=rfl; rw [e] at hj; omega
      by_cases hp:C.size L - (n + 1)≤j
      · rw [ble_t.2 hp,cond_true,left_den hT hm hc6 _ _ (by omega),hn]
        rfl
      · have : Nat.ble (C.size L - (n + 1)) j = false := by
          cases hb:Nat.ble (C.size L - (n + 1)) j with
          | false=>rfl
          | true=>exact absurd (ble_t.1 hb) hp
        rw [this,cond_false]
        refine (foldl_id _ _ fun o r=>?_).symm
        unfold stepF
        split
        · rfl
        · rw [if_pos (by omega)]
    · obtain ⟨hr1,hr2⟩:r ∈ rsOf m∧skipF ρ n m ((IE.var 500).den ρ) ((IE.var 501).den ρ) r=false:=⟨List.mem_of_find?_eq_some hr,by have:=List.find?_some hr; simpa using this⟩
      have hN:¬ noneF ρ (n + 1) m ((IE.var 500).den ρ) ((IE.var 501).den ρ)=true:=fun h=>by
        have:=List.all_eq_true.1 h r hr1
        have:skipF ρ n m ((IE.var 500).den ρ) ((IE.var 501).den ρ) r=true:=this
        rw [hr2] at this; cases this
      rw [if_neg hN] at k
      obtain ⟨q1,q2,q3,q4⟩:=f1 r hr1
      obtain ⟨d1,d2⟩:=af_den hT.1 q1 (.var 500) (.var 501)
      refine foundR k ?_
      have hk:cnt (del m r)=n:=by omega
      unfold nextL
      rw [dens_app,dens_app,dens_take,dens_take,ht,dens_ordL hT hm (by omega),hn]
      have eo:ordF ρ (n + 1) m ((IE.var 500).den ρ) ((IE.var 501).den ρ)=(r:Int) :: ordF ρ n (del m r) (aftF ρ r ((IE.var 500).den ρ) ((IE.var 501).den ρ)).1 (aftF ρ r ((IE.var 500).den ρ) ((IE.var 501).den ρ)).2:=by
        have hr':(rsOf m).find? (fun r=>!(decide (aftF ρ r ((IE.var 500).den ρ) ((IE.var 501).den ρ)=(0,0)) || noneF ρ n (del m r) (aftF ρ r ((IE.var 500).den ρ) ((IE.var 501).den ρ)).1 (aftF ρ r ((IE.var 500).den ρ) ((IE.var 501).den ρ)).2))=some r:=hr
        rw [ordF]
        simp only [hr']
      rw [eo]
      congr 1
      have hdl:=dens_ordL hT q2 (by omega) (af1 r (.var 500) (.var 501)) (af2 r (.var 500) (.var 501))
      rw [hk,d1,d2] at hdl
      have ec:dens ρ (IE.lit (Int.ofNat r) :: ordL (del m r) (af1 r (.var 500) (.var 501)) (af2 r (.var 500) (.var 501)))=(r:Int) :: dens ρ (ordL (del m r) (af1 r (.var 500) (.var 501)) (af2 r (.var 500) (.var 501))):=rfl
      rw [ec,hdl]
      simp only [upN,List.map_cons,upN_map]
      rfl
end
end Go.Sx
namespace Go.Sx
open Go.RowKit Go.Proofs
set_option maxRecDepth 100000
theorem Rho.over_alike (ρ:Rho) (g:Nat→Int):Alike ρ (ρ.over g):=⟨fun _ hi=>over_lt hi,rfl,rfl,rfl⟩
theorem rsOf_lt {m r:Nat} (h:r ∈ rsOf m):r < 6:=by have:=upN_lt _ _ _ (lFilter_mem h).1; omega
theorem all_congr {p q:Nat→Bool}:∀ {l:List Nat},(∀ r ∈ l,p r=q r)→l.all p=l.all q
  | [],_=>rfl
  | a :: l,h=>by rw [List.all_cons,List.all_cons,h a List.mem_cons_self,all_congr fun r hr=>h r (List.mem_cons_of_mem _ hr)]
theorem find_congr {p q:Nat→Bool}:∀ {l:List Nat},(∀ r ∈ l,p r=q r)→l.find? p=l.find? q
  | [],_=>rfl
  | a :: l,h=>by
    rw [List.find?_cons,List.find?_cons,h a List.mem_cons_self,find_congr fun r hr=>h r (List.mem_cons_of_mem _ hr)]
theorem foldl_congr {f g:Int→Nat→Int}:∀ {l:List Nat} (a:Int),(∀ a,∀ r ∈ l,f a r=g a r)→l.foldl f a=l.foldl g a
  | [],_,_=>rfl
  | b :: l,a,h=>by
    rw [List.foldl_cons,List.foldl_cons,h a b List.mem_cons_self]
    exact foldl_congr _ fun a r hr=>h a r (List.mem_cons_of_mem _ hr)
theorem noneF_over {ρ:Rho} (g:Nat→Int):∀ (k m:Nat) (a b:Int),noneF (ρ.over g) k m a b=noneF ρ k m a b
  | 0,_,_,_=>rfl
  | k + 1,m,a,b=>by
    simp only [noneF]
    refine all_congr fun r hr=>?_
    rw [aftF_over (rsOf_lt hr),noneF_over g k]
theorem ordF_over {ρ:Rho} (g:Nat→Int):∀ (k m:Nat) (a b:Int),ordF (ρ.over g) k m a b=ordF ρ k m a b
  | 0,_,_,_=>rfl
  | k + 1,m,a,b=>by
    simp only [ordF]
    rw [find_congr (q:=fun r=>!(decide (aftF ρ r a b=(0,0)) || noneF ρ k (del m r) (aftF ρ r a b).1 (aftF ρ r a b).2)) fun r hr=>by rw [aftF_over (rsOf_lt hr),noneF_over g k]]
    cases hf:(rsOf m).find? fun r=>!(decide (aftF ρ r a b=(0,0)) || noneF ρ k (del m r) (aftF ρ r a b).1 (aftF ρ r a b).2) with
    | none=>rfl
    | some r =>
      simp only
      rw [aftF_over (rsOf_lt (List.mem_of_find?_eq_some hf)),ordF_over g k]
theorem leftF_over {ρ:Rho} (g:Nat→Int):∀ (k p m j:Nat) (a b o:Int),leftF (ρ.over g) k p m j a b o=leftF ρ k p m j a b o
  | 0,_,_,_,_,_,_=>rfl
  | k + 1,p,m,j,a,b,o=>by
    simp only [leftF]
    refine foldl_congr _ fun o r hr=>?_
    rw [aftF_over (rsOf_lt hr),leftF_over g k]
theorem okT_over {L:Nat} (hL:L≤6) {ρ:Rho} (g:Nat→Int) (h:okT L ρ):okT L (ρ.over g):=by
  refine ⟨okA_over hL g h.1,fun m hm=>?_⟩
  obtain ⟨h1,h2,h3⟩:=h.2 m hm
  exact ⟨fun a b=>by rw [noneF_over]; exact h1 a b,fun j a b hj=>by rw [ordF_over]; exact h2 j a b hj,fun K j a b o hK hj=>by rw [leftF_over]; exact h3 K j a b o hK hj⟩
theorem six_list:∀ (ds:List Int),ds.length=6→∀ (G:Nat→Int),(∀ i,i < 6→G (510 + i)=(ds[i]?).getD 0)→[G 510,G 511,G 512,G 513,G 514,G 515]=ds
  | [d0,d1,d2,d3,d4,d5],_,G,h=>by
    rw [show G 510=d0 from h 0 (by omega),show G 511=d1 from h 1 (by omega),show G 512=d2 from h 2 (by omega),show G 513=d3 from h 3 (by omega),show G 514=d4 from h 4 (by omega),show G 515=d5 from h 5 (by omega)]
section
variable {C:Cons} (O:ConsOk C) {L:Nat} (h0:1≤L) (hL:L≤6)
include O h0 hL
theorem vT_same {ρ ρ':Rho} (hA:Alike ρ ρ') {xs ys:List IE} (h:xs.map (IE.den ρ)=ys.map (IE.den ρ')):SameH (pTs L) (pTs L) ρ (viewA C.n (vT C L xs)) ρ' (viewA C.n (vT C L ys)):=by
  refine ⟨by rw [viewA_next,viewA_next],fun j o g=>?_⟩
  have get:∀ {b o},(b,o) ∈ vT C L xs→(viewA C.n (vT C L xs)).get b=some o:=fun hm=>viewA_mem C.n _ 0 (O.up L xs h0 hL) _ hm
  have pl:∀ g:Nat × AObj,and (plO g.2) (and (Nat.ble (g.1 + 1) C.n) (idsO C.n g.2))=true→plO g.2=true:=fun g h=>by
    rw [Bool.and_eq_true] at h; exact h.1
  rcases vT_mem (viewA_get _ _ _ _ g) with hm | ⟨rfl,rfl⟩ | hm
  · exact ⟨o,get (vT_pre hm),SameA.pl hA (pl _ (lAll_mem (O.pre L h0 hL) (j,o) hm))⟩
  · exact ⟨_,get vT_arr,SameA.cells rfl (same_ints h)⟩
  · exact ⟨o,get (vT_suf hm),SameA.pl hA (pl _ (lAll_mem (O.suf L h0 hL) (j,o) hm))⟩
theorem fT_same {f:Nat→List (Nat × AObj)} (hf:C.fnd=some f) {ρ ρ':Rho} (hA:Alike ρ ρ') {xs ys:List IE} (h:xs.map (IE.den ρ)=ys.map (IE.den ρ')):SameH (pTs L) (pTs L) ρ (viewA C.fn (f L ++ newB C xs)) ρ' (viewA C.fn (f L ++ newB C ys)):=by
  refine ⟨by rw [viewA_next,viewA_next],fun j o g=>?_⟩
  have get:∀ {b o},(b,o) ∈ f L ++ newB C xs→(viewA C.fn (f L ++ newB C xs)).get b=some o:=fun hm=>viewA_mem C.fn _ 0 (O.fup f hf L xs h0 hL) _ hm
  rcases List.mem_append.1 (viewA_get _ _ _ _ g) with hm | hm
  · exact ⟨o,get (List.mem_append_left _ hm),SameA.pl hA (lAll_mem (O.fpl f hf L h0 hL) (j,o) hm)⟩
  · obtain ⟨hj,rfl⟩:=newB_mem hm
    refine ⟨.cells (lMap iA xs) 3 true true,get (List.mem_append_right _ ?_),SameA.cells rfl (same_ints h)⟩
    unfold newB; rw [hj]; exact List.mem_singleton.2 rfl
theorem T_said {m:Nat} (hd:C.dom L m=true) (B:TabOk (pTs L) Sx.Tryd.tt.get (tbTs C L (cnt m))) (x1 x2:IE) {xs:List IE} (hx:xs.length=6):CallOk (pTs L) 77 (argsT C L m x1 x2) (viewA C.n (vT C L xs)) (saidT C L m x1 x2 xs):=by
  refine CallOk.read (p0:=pTs L) rfl (T_base O h0 hL hd B) fun ρ b ⟨mm,k1,k2⟩ Q k=>?_
  let g:Nat→Int:=fun j=>if j=500 then x1.den ρ else if j=501 then x2.den ρ else ((xs.map (IE.den ρ))[j - 510]?).getD 0
  have hA:Alike ρ (ρ.over g):=Rho.over_alike ρ g
  have e1:(IE.var 500).den (ρ.over g)=x1.den ρ:=rfl
  have e2:(IE.var 501).den (ρ.over g)=x2.den ρ:=rfl
  have ex:vs6.map (IE.den (ρ.over g))=xs.map (IE.den ρ):=six_list (xs.map (IE.den ρ)) (by rw [List.length_map]; exact hx) g fun i hi=>by
    simp only [g,if_neg (show ¬ 510 + i=500 by omega),if_neg (show ¬ 510 + i=501 by omega),Nat.add_sub_cancel_left]
  have eLeft:(leftL (C.size L) m (C.size L - cnt m) (.var 500) (.var 501) vs6).map (IE.den (ρ.over g))=(leftL (C.size L) m (C.size L - cnt m) x1 x2 xs).map (IE.den ρ):=by
    have a1:=dens_mapI (ρ:=ρ.over g) (f:=fun j o=>cond (Nat.ble (C.size L - cnt m) j) (leftE (C.size L) m (.var 500) (.var 501) j o) o) (g:=fun j o=>cond (Nat.ble (C.size L - cnt m) j) (FI ρ.fi (5000 + 600 * C.size L + 8 * m + j) (x1.den ρ) (x2.den ρ) o) o) vs6 0 fun i o _ _=>by
      cases Nat.ble (C.size L - cnt m) i <;> rfl
    have a2:=dens_mapI (ρ:=ρ) (f:=fun j o=>cond (Nat.ble (C.size L - cnt m) j) (leftE (C.size L) m x1 x2 j o) o) (g:=fun j o=>cond (Nat.ble (C.size L - cnt m) j) (FI ρ.fi (5000 + 600 * C.size L + 8 * m + j) (x1.den ρ) (x2.den ρ) o) o) xs 0 fun i o _ _=>by
      cases Nat.ble (C.size L - cnt m) i <;> rfl
    unfold dens at a1 a2
    unfold leftL
    rw [a1,a2,ex]
  have eFound:(lApp (lTake vs6 (C.size L - cnt m)) (ordL m (.var 500) (.var 501))).map (IE.den (ρ.over g))=(lApp (lTake xs (C.size L - cnt m)) (ordL m x1 x2)).map (IE.den ρ):=by
    rw [lApp_eq,lApp_eq,List.map_append,List.map_append,lTake_eq,lTake_eq,List.map_take,List.map_take,ex]
    congr 1
    unfold ordL
    rw [lMap_eq,lMap_eq,List.map_map,List.map_map]
    rfl
  refine ⟨ρ.over g,⟨mm,okT_over hL g k1,k2⟩,?_,vT_same O h0 hL hA ex.symm,?_⟩
  · unfold argsT
    have hb:SameV ρ (bitsA m) (ρ.over g) (bitsA m):=SameV.agg (SameL.cons (SameV.bool rfl) (SameL.cons (SameV.bool rfl) (SameL.cons (SameV.bool rfl) (SameL.cons (SameV.bool rfl) (SameL.cons (SameV.bool rfl) (SameL.cons (SameV.bool rfl) SameL.nil))))))
    exact SameL.cons (SameV.int rfl) (SameL.cons hb (SameL.cons (SameV.agg (SameL.cons (SameV.int e1.symm) (SameL.cons (SameV.int e2.symm) SameL.nil))) (SameL.pl hA C.ptrs O.ptrs)))
  · have found : (foundT C L (lApp (lTake xs (C.size L - cnt m)) (ordL m x1 x2))).Holds ρ Q → (foundT C L (lApp (lTake vs6 (C.size L - cnt m)) (ordL m (.var 500) (.var 501)))).Holds (ρ.over g) fun r0 => ∃ r, Q r ∧ SameV (ρ.over g) r0.1 ρ r.1 ∧ SameH (pTs L) (pTs L) (ρ.over g) r0.2 ρ r.2 := fun q => by
      unfold foundT at q ⊢
      cases hf:C.fnd with
      | none=>rw [hf] at q; exact q.elim
      | some f =>
        rw [hf] at q
        exact ⟨_,q,SameV.bool rfl,fT_same O h0 hL hf hA.symm eFound⟩
    unfold saidT at k ⊢
    cases hz:Nat.beq m 0 with
    | true =>
      rw [hz,cond_true] at k
      rw [cond_true]
      exact found k
    | false =>
      rw [hz,cond_false] at k
      rw [cond_false]
      simp only [T.Holds] at k ⊢
      have en:(noneE m (.var 500) (.var 501)).den (ρ.over g)=(noneE m x1 x2).den ρ:=rfl
      rw [en]
      split
      · rename_i hc
        rw [if_pos hc] at k
        exact ⟨_,k,SameV.bool rfl,vT_same O h0 hL hA.symm eLeft⟩
      · rename_i hc
        rw [if_neg hc] at k
        exact found k
theorem orcT_ok {k:Nat} (B:∀ j,j < k→TabOk (pTs L) Sx.Tryd.tt.get (tbTs C L j)) {args:List AV} {h:Heap} {t:T (AV × Heap)} (e:orcTs C L k args h=some t):CallOk (pTs L) 77 args h t:=by
  unfold orcTs at e
  split at e
  · split at e
    · rename_i m xs _ _
      obtain ⟨hc,e2⟩:=cond_some e
      clear e
      simp only [Bool.and_eq_true] at hc
      obtain ⟨⟨i1,i2,i3⟩,⟨i4,i5⟩,i6⟩:=hc
      have i1:=eqAVs_eq _ _ i1
      rw [i1]
      cases e2
      have hx:xs.length=6:=by rw [← lLen_eq]; exact beq_t.1 i4
      exact (T_said O h0 hL i2 (B _ (ble_t.1 i3)) _ _ hx).frame (n:=C.n) O.big (O.args L m _ _) (O.view h0 hL xs) (lessAll_ok i5) (ble_t.1 i6) (nwT C)
    · cases e
  · cases e
theorem tabsTs (k:Nat):TabOk (pTs L) Sx.Tryd.tt.get (tbTs C L k):=by
  induction k using Nat.strongRecOn with
  | ind k ih =>
    refine Tryd.tab (orcL C L k) (fun f args h t e=>?_) 2000
    unfold orcL at e
    cases h1:Nat.beq f 74 with
    | true =>
      rw [h1,cond_true] at e
      rw [beq_t.1 h1]
      exact orcA_ok (p:=pTs L) rfl O.b (fun ρ m h=>h.1) h0 hL e
    | false =>
      rw [h1,cond_false] at e
      obtain ⟨h2,e⟩:=cond_some e
      rw [beq_t.1 h2]
      exact orcT_ok O h0 hL ih e
end
end Go.Sx
namespace Go.Sx
open Go.RowKit Go.Proofs
set_option maxRecDepth 100000
noncomputable def filmF (L:Nat):AV:=.agg [.sliceX 1001 6 0 L,vj 0,vj 1,vj 2,vj 3,vj 4]
noncomputable def ltP (L m:Nat):Bool:=Nat.ble (m + 1) (Nat.pow 2 L)
noncomputable def ptrsF:List AV:=[.ptr 2013 0,.ptr 2015 0,.ptr 2010 0,.ptr 2016 0]
noncomputable def loopF (L:Nat) (st:LoopState) (x:Ex):AObj:=.loop st x 39 (treeOf [(0,filmF L),(1,.ptr 2000 0),(2,.ptr 2001 0),(3,.ptr 2002 0),(4,.ptr 2004 0),(5,ln 0),(13,tag false),(16,.func (.func 76) [] [.ptr 2010 0,.ptr 2009 0])]) [17] 39017 2011
noncomputable def rwF (r:AV × Heap):List Nat :=
  match r.2.get 2001 with
  | some (.cells [.sliceX b _ _ _] _ _ _)=>[b]
  | _=>[]
noncomputable def consF:Cons where
  b:=2003
  arr:=2014
  n:=2017
  ptrs:=ptrsF
  pre L:=[(1001,rowsA L),(2001,.cells [.nilslice] 29 true false),(2002,.cells [ln 0] 30 true false),(2003,.umap (mU false)),(2010,ro [.func (.func 74) [filmK 2003 L] []]),(2012,loopF L .ready .norm),(2013,ro [.yieldF 2012])]
  suf _:=[(2015,ro [.slice 2014 0 6 6]),(2016,ro [.func (.func 77) [] ptrsF])]
  fnd:=some fun L=>[(1001,rowsA L),(2001,.cells [.sliceX 2017 1 0 L] 29 true false),(2002,.cells [ln 0] 30 true false),(2003,.umap (mU false)),(2010,ro [.func (.func 74) [filmK 2003 L] []]),(2012,loopF L .done .ret),(2013,ro [.yieldF 2012]),(2015,ro [.slice 2014 0 6 6]),(2016,ro [.func (.func 77) [] ptrsF])]
  new:=some 2017
  fn:=2018
  size L:=L
  dom:=ltP
  rw:=rwF
end Go.Sx
namespace Go.Sx
open Go.RowKit Go.Proofs
set_option maxRecDepth 100000
noncomputable def e1:Ent:=⟨24,[(.agg [(.sliceX 1001 6 0 3),(li 6),(li 8),(li 1),(li 3),(li 2000),(li 0),(li 300),(li 400),(li 300),(li 300),(li 2)]),(.slice 1000 0 2 2)],1002,[(0,.cells [(li 0),(li 998),(li 1),(li 6)]),(1,.cells [(li 0),(li 3600),(li 0),(li 3600)]),(2,.cells [(li 1),(li 20),(li 0),(li 50)]),(3,.cells [(li 0),(li 99),(li 0),(li 99),(li 1),(li 1200)]),(1000,.cells [(li 1),(li 2)]),(1001,.cells cl0)],(.tup [(.bool (.lit true)),(li 0)]),[],[]⟩
theorem e1_run:e1.run tb1 100=true:=by kernel_rfl
noncomputable def e8:Ent:=⟨26,[(.agg [(.sliceX 1001 6 0 3),(li 6),(li 8),(li 1),(li 3),(li 2000),(li 0),(li 300),(li 400),(li 300),(li 300),(li 2)]),(.slice 1000 0 2 2)],1002,[(0,.cells [(li 0),(li 998),(li 1),(li 6)]),(1,.cells [(li 0),(li 3600),(li 0),(li 3600)]),(2,.cells [(li 1),(li 20),(li 0),(li 50)]),(3,.cells [(li 0),(li 99),(li 0),(li 99),(li 1),(li 1200)]),(1000,.cells [(li 1),(li 2)]),(1001,.cells cl0)],(.tup [(.slice 1172 0 3 3),(li 0)]),[(1172,.cells [(li 9000),(li 12000),(li 17400),(li 23200),(li 17400),(li 23200)] 24 false)],[]⟩
theorem e8_run:e8.run tb1 100=true:=by kernel_rfl
noncomputable def e9:Ent:=⟨11,[(.agg [(.sliceX 1001 6 0 3),(li 6),(li 8),(li 1),(li 3),(li 2000),(li 0),(li 300),(li 400),(li 300),(li 300),(li 2)]),(.slice 1000 0 2 2)],1002,[(0,.cells [(li 0),(li 998),(li 1),(li 6)]),(1,.cells [(li 0),(li 3600),(li 0),(li 3600)]),(2,.cells [(li 1),(li 20),(li 0),(li 50)]),(3,.cells [(li 0),(li 99),(li 0),(li 99),(li 1),(li 1200)]),(1000,.cells [(li 1),(li 2)]),(1001,.cells cl0)],(.tup [(li 1722),(li 941),(li 0)]),[],[]⟩
theorem e9_run:e9.run tb1 100=true:=by kernel_rfl
noncomputable def e10:Ent:=⟨27,[(.agg [(.sliceX 1001 6 0 3),(li 6),(li 8),(li 1),(li 3),(li 2000),(li 0),(li 300),(li 400),(li 300),(li 300),(li 2)]),(.slice 1000 0 3 3),(li 0)],1002,[(0,.cells [(li 0),(li 998),(li 1),(li 6)]),(1,.cells [(li 0),(li 3600),(li 0),(li 3600)]),(2,.cells [(li 1),(li 20),(li 0),(li 50)]),(3,.cells [(li 0),(li 99),(li 0),(li 99),(li 1),(li 1200)]),(1000,.cells [(li 1),(li 1),(li 1)]),(1001,.cells cl0)],(.tup [(.agg [(li 24582),(li 31176)]),(li 0)]),[],[]⟩
theorem e10_run:e10.run tb1 100=true:=by kernel_rfl
noncomputable def e11:Ent:=⟨6,[(.agg [(.sliceX 1000 6 0 3),(li 6),(li 8),(li 1),(li 3),(li 2000),(li 0),(li 300),(li 400),(li 300),(li 300),(li 2)])],1001,[(0,.cells [(li 0),(li 998),(li 1),(li 6)]),(1,.cells [(li 0),(li 3600),(li 0),(li 3600)]),(2,.cells [(li 1),(li 20),(li 0),(li 50)]),(3,.cells [(li 0),(li 99),(li 0),(li 99),(li 1),(li 1200)]),(1000,.cells cl0)],(.tup [(.sliceX 1192 1 0 3),(li 0)]),[(1192,.cells [(li 1),(li 1),(li 1)] 3 true)],[]⟩
theorem e11_run:e11.run tb1 100=true:=by kernel_rfl
noncomputable def e12:Ent:=⟨15,[(.agg [(.sliceX 1000 6 0 3),(li 6),(li 8),(li 1),(li 3),(li 2000),(li 0),(li 300),(li 400),(li 300),(li 300),(li 2)]),(li 1722)],1001,[(0,.cells [(li 0),(li 998),(li 1),(li 6)]),(1,.cells [(li 0),(li 3600),(li 0),(li 3600)]),(2,.cells [(li 1),(li 20),(li 0),(li 50)]),(3,.cells [(li 0),(li 99),(li 0),(li 99),(li 1),(li 1200)]),(1000,.cells cl0)],(.tup [(.sliceX 1331 1 0 2),(li 0)]),[(1331,.cells [(li 1),(li 2)] 3 true)],[]⟩
theorem e12_run:e12.run tb1 100=true:=by kernel_rfl
noncomputable def e13:Ent:=⟨16,[(.agg [(.sliceX 1000 6 0 3),(li 6),(li 8),(li 1),(li 3),(li 2000),(li 0),(li 900),(li 1000),(li 900),(li 900),(li 2)]),(li 3000)],1001,[(0,.cells [(li 0),(li 998),(li 1),(li 6)]),(1,.cells [(li 0),(li 3600),(li 0),(li 3600)]),(2,.cells [(li 1),(li 20),(li 0),(li 50)]),(3,.cells [(li 0),(li 99),(li 0),(li 99),(li 1),(li 1200)]),(1000,.cells cl0)],(.tup [(li 3),(li 0)]),[],[]⟩
theorem e13_run:e13.run tb1 100=true:=by kernel_rfl
end Go.Sx
