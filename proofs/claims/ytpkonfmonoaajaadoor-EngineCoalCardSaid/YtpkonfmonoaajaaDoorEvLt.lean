/- THE SEARCH of any evening,from its beginning. -/
import Derived.Test.YtpkonfmonoaajaaDoorEnY
import Derived.Test.YtpkonfmonoaajaaDoorSxMoved
import Derived.Test.YtpkonfmonoaajaaDoorEnS
import Derived.Test.YtpkonfmonoaajaaDoorEnT
import Derived.Test.YtpkonfmonoaajaaDoorEnKt20
import Derived.Test.YtpkonfmonoaajaaDoorEnKt30
import Derived.Test.YtpkonfmonoaajaaDoorEnKt32
import Derived.Test.YtpkonfmonoaajaaDoorEnKt41
import Derived.Test.YtpkonfmonoaajaaDoorEnKt43
import Derived.Test.YtpkonfmonoaajaaDoorEnKt51
import Derived.Test.YtpkonfmonoaajaaDoorEnKt53
import Derived.Test.YtpkonfmonoaajaaDoorEnKt54
/-! THE NAMES OF THE LAW OF THE PARTS: there are such,for any valid evening. -/
namespace Go.Sx
open Go.RowKit Go.Proofs
set_option maxRecDepth 100000
theorem turnF_in {n m:Int} (h:1≤m):0≤turnF n m∧turnF n m < m:=by
  unfold turnF
  rw [if_neg (by omega)]
  exact ⟨Int.emod_nonneg _ (by omega),Int.emod_lt_of_pos _ (by omega)⟩
structure Agree (ρ ρ':Rho):Prop where
  iv:ρ.iv=ρ'.iv
  bv:∀ j,j < 900→ρ.bv j=ρ'.bv j
section
variable {ρ ρ':Rho} (A:Agree ρ ρ')
include A
theorem tak_agree {i:Nat} (hi:i < 200) (r:Nat):takF ρ i r=takF ρ' i r:=by
  unfold takF; rw [A.iv,A.bv (32 + 4 * i) (by omega)]
theorem left_agree {i:Nat} (hi:i < 200) (r:Nat) (a w:Int):leftF ρ i r a w=leftF ρ' i r a w:=by
  unfold leftF hasF; rw [tak_agree A hi,A.iv]
theorem lack_agree {i:Nat} (hi:i < 200) (r:Nat) (a w:Int):lackF ρ i r a w=lackF ρ' i r a w:=by
  unfold lackF hasF; rw [tak_agree A hi,A.iv]
theorem fail_agree {i:Nat} (hi:i < 200) (l:Int):failF ρ i l=failF ρ' i l:=by
  unfold failF; rw [A.iv,A.bv (32 + 4 * i) (by omega)]
theorem roundG_agree {i:Nat} (hi:i < 200) (nx:Int→Int→Out) (a b:Int) (cw ww:Nat) (S:Stt):roundG ρ nx i a b cw ww S=roundG ρ' nx i a b cw ww S:=by
  unfold roundG
  simp only [left_agree A hi,lack_agree A hi,fail_agree A hi]
theorem roundsG_agree {i:Nat} (hi:i < 200) (nx:Int→Int→Out) (a b:Int):∀ (l:List (Nat × Nat)) (S:Stt),roundsG ρ nx i a b l S=roundsG ρ' nx i a b l S
  | [],_=>rfl
  | x :: l,S=>by simp only [roundsG]; rw [roundG_agree A hi,roundsG_agree hi nx a b l]
theorem outD_agree:∀ (d i:Nat),i + d≤200→outD ρ d i=outD ρ' d i
  | 0,_,_=>rfl
  | d + 1,i,h=>by
    funext a b
    simp only [outD]
    rw [outD_agree d (i + 1) (by omega),roundsG_agree A (by omega),A.iv]
theorem enD_agree {m:Nat} (hm:m≤200):enD ρ m=enD ρ' m:=by
  unfold enD; rw [outD_agree A m 0 (by omega),A.iv]
end
/-- how many parts have a plan that is enough -/
noncomputable def mostE (ρ:Rho):Nat→Nat
  | 0=>0
  | n + 1=>if enD ρ (n + 1)=true then n + 1 else mostE ρ n
theorem mostE_le (ρ:Rho):∀ n,mostE ρ n≤n
  | 0=>Nat.le_refl 0
  | n + 1=>by
    unfold mostE
    split
    · exact Nat.le_refl _
    · exact Nat.le_succ_of_le (mostE_le ρ n)
theorem mostE_spec (ρ:Rho):∀ L n,n≤L→enD ρ n=Nat.ble n (mostE ρ L)
  | 0,n,h=>by
    obtain rfl:n=0:=by omega
    rfl
  | L + 1,n,h=>by
    unfold mostE
    split
    · rename_i he
      rw [enD_le h he,Nat.ble_eq_true_of_le h]
    · rename_i he
      by_cases hn:n=L + 1
      · subst hn
        have h1:enD ρ (L + 1)=false:=by simpa using he
        rw [h1]
        have:=mostE_le ρ L
        exact (Bool.eq_false_iff.2 fun hb=>absurd (Nat.le_of_ble_eq_true hb) (by omega)).symm
      · exact mostE_spec ρ L n (by omega)
/-- the evening's numbers,whether so many parts have such a plan,and the outlooks of an evening of m parts -/
noncomputable def rhoL (ρ:Rho) (m:Nat):Rho:=rhoE ⟨ρ.iv,fun j=>if j < 900 then ρ.bv j else enD ρ (j - 900),ρ.fi,ρ.fb,ρ.ov⟩ m
theorem rhoL_agree (ρ:Rho) (m:Nat):Agree ρ (rhoL ρ m):=⟨rfl,fun j hj=>by show ρ.bv j=if j < 900 then _ else _; rw [if_pos hj]⟩
theorem rhoL_bv (ρ:Rho) (m n:Nat):(rhoL ρ m).bv (900 + n)=enD ρ n:=by
  show (if 900 + n < 900 then _ else enD ρ (900 + n - 900))=_
  rw [if_neg (by omega),show 900 + n - 900=n by omega]
/-- the conditions speak of numbers alone -/
theorem cs_same {ρ ρ':Rho} (h:ρ.iv=ρ'.iv) {L:Nat} (k:∀ c ∈ csV L,c.den ρ=true):∀ c ∈ csV L,c.den ρ'=true:=by
  have le:∀ a b:IE,a.den ρ=a.den ρ'→b.den ρ=b.den ρ'→(leV a b).den ρ=(leV a b).den ρ':=fun a b h1 h2=>by
    apply Bool.eq_iff_iff.2
    unfold leV
    rw [BE.t_leq,BE.t_leq,h1,h2]
  have v:∀ j,(IE.var j).den ρ=(IE.var j).den ρ':=fun j=>congrFun h j
  have l:∀ n:Int,(IE.lit n).den ρ=(IE.lit n).den ρ':=fun _=>rfl
  have part:∀ b,∀ c ∈ partV b,c.den ρ=c.den ρ':=fun b c hc=>by
    simp only [partV,List.mem_cons,List.not_mem_nil,or_false] at hc
    rcases hc with rfl | rfl | rfl | rfl | rfl <;> first | exact le _ _ (v _) (v _) | exact le _ _ (l _) (v _) | exact le _ _ (v _) (l _)
  have parts:∀ n b,∀ c ∈ partsV n b,c.den ρ=c.den ρ':=by
    intro n
    induction n with
    | zero=>intro b c hc; cases hc
    | succ n ih =>
      intro b c hc
      rcases List.mem_append.1 hc with hc | hc
      · exact part b c hc
      · exact ih (b + 4) c hc
  have book:∀ c ∈ bookC,c.den ρ=c.den ρ':=fun c hc=>by
    simp only [bookC,inV,List.cons_append,List.nil_append,List.mem_cons,List.not_mem_nil,or_false] at hc
    rcases hc with rfl | rfl | rfl | rfl | rfl | rfl | rfl | rfl | rfl | rfl | rfl | rfl | rfl | rfl | rfl | rfl | rfl | rfl | rfl | rfl | rfl | rfl | rfl | rfl | rfl | rfl | rfl | rfl | rfl | rfl | rfl | rfl | rfl | rfl | rfl | rfl | rfl | rfl <;> first | exact le _ _ (v _) (v _) | exact le _ _ (l _) (v _) | exact le _ _ (v _) (l _)
  intro c hc
  rcases List.mem_append.1 hc with h1 | h1
  · rw [← book c h1]; exact k c hc
  · rw [← parts L 30 c h1]; exact k c hc
theorem okLw_of {ρ:Rho} {L m:Nat} (h5:L≤5) (hm:m≤L) (k:∀ c ∈ csV L,c.den ρ=true) (ht:turnF (ρ.iv 88) L=(m:Int) - 1):OkLw L m (mostE ρ L) (rhoL ρ m):=by
  have A:=rhoL_agree ρ m
  refine ⟨cs_same A.iv k,okG_E (fun i hi=>walks_of k (by omega)),?_,fun n hn=>?_,fun n hn=>?_,ht⟩
  · rw [rhoL_bv]
    have AB:Agree ρ ⟨ρ.iv,fun j=>if j < 900 then ρ.bv j else enD ρ (j - 900),ρ.fi,ρ.fb,ρ.ov⟩:=⟨rfl,fun j hj=>(if_pos hj).symm⟩
    exact (enB_E _ m).trans (enD_agree AB (by omega)).symm
  · rw [rhoL_bv]; exact enD_agree A (by omega)
  · rw [rhoL_bv]; exact mostE_spec ρ L n hn
theorem isTrueK_okP {ρ:Rho} {K:Kn} (hK:KnOk ρ K) {r:AV × Heap} (h:isTrueK K r=true):∃ b,r.1=.bool b∧b.den ρ=true:=by
  unfold isTrueK at h
  split at h
  · rename_i b hb
    refine ⟨b,hb,?_⟩
    split at h
    · rename_i c hc
      rw [decK_ok hK _ _ hc]; exact h
    · cases h
  · cases h
theorem law_true {p : Par} {ty : Nat → Option TI} {tb : Tabs} (B : TabOk p ty tb) {d : Nat} {f : FuncId} {args : List AV} {l : List (Nat × List AV)} {E : Env} {w : World} {vs : List Value}
    (hv:∀ g ∈ l,ViewIn w E g) (hf:∀ b,2000≤b→E.σ b=none) (hg:∀ b,b < 1000→E.σ b=some (b,0)) (hn:E.n≤2000) (ha:concL E args=some vs)
    {K:Kn} (hK:KnOk E.ρ K) (h:allK isTrueK (evalN tb d false f args (viewHeap 2000 l)) K=true) (hok:p.okB E.ρ (Base.of w)) :
    Calls p.P f vs.toArray w fun e w'=>e=.returned (.bool true)∧Below w.heap.size w w':=by
  have key:=allK_ok (P:=fun r:AV × Heap=>∃ b,r.1=.bool b∧b.den E.ρ=true) (fun K a hK h=>isTrueK_okP hK h) _ K hK h
  have HS:HeapOk p E (viewHeap 2000 l) (Base.of w) w:=view_ok hv hf hg hn hok
  obtain ⟨r1,r2⟩:=eval_ok B d f args (viewHeap 2000 l) vs E (Base.of w) w _ (fun cv w'=>cv=.bool true∧Below w.heap.size w w') key HS ha
    (fun v h' E2 w' cv hq2 hle HH' hv2=>by
      obtain ⟨b,hb,hd⟩:=hq2
      refine ⟨?_,Base.keeps_below HH'.below⟩
      have hb:v=.bool b:=hb
      rw [hb] at hv2
      simp only [conc,Option.some.injEq] at hv2
      rw [← hv2,hle.ρ,hd])
  refine r2.mono ?_
  rintro e w' ⟨cv,rfl,rfl,hb⟩
  exact ⟨rfl,hb⟩
theorem tabsLw {L m r:Nat} (h1:1≤m) (hm:m≤L) (h5:L≤5) (HT:∀ n,1≤n→n≤5→Looks true n) (HF:∀ n,n≤5→Looks false n):TabOk (pLw L m r) Sx.Tryd.tt.get (tbLw L m r) :=
  Tryd.tab (orcLw L m r) (orcLw_ok h1 hm h5 (HT m h1 (by omega)) HF) 2000
theorem cntD_mem:∀ {n i:Nat},i < n→i ∈ cntD n
  | 0,_,h=>absurd h (by omega)
  | n + 1,i,h=>by
    by_cases e:i=n
    · subst e; exact List.mem_cons_self
    · exact List.mem_cons_of_mem _ (cntD_mem (by omega))
/-- a valid evening,and whatever number -/
theorem parts_valid {L : Nat} (h1 : 1 ≤ L) (h5 : L ≤ 5) (HC : lawAll L = true) (HT : ∀ n, 1 ≤ n → n ≤ 5 → Looks true n) (HF : ∀ n, n ≤ 5 → Looks false n) {ρ : Rho} (k : ∀ c ∈ csV L, c.den ρ = true) :
    ∃ m r,OkLw L m r (rhoL ρ m)∧∀ {E:Env} {w:World} {vs:List Value},E.ρ=rhoL ρ m→(∀ g ∈ lB L,ViewIn w E g)→(∀ b,2000≤b→E.σ b=none)→(∀ b,b < 1000→E.σ b=some (b,0))→E.n≤2000 →
      concL E [.agg (bookS (.sliceX 1001 4 0 L)),vi 88]=some vs→Calls Tryd.prog 4 vs.toArray w fun e w'=>e=.returned (.bool true)∧Below w.heap.size w w':=by
  have ht:=turnF_in (n:=ρ.iv 88) (m:=(L:Int)) (by omega)
  obtain ⟨m,hm⟩:∃ m:Nat,turnF (ρ.iv 88) L=(m:Int) - 1:=⟨(turnF (ρ.iv 88) L + 1).toNat,by omega⟩
  have hm1:1≤m:=by omega
  have hmL:m≤L:=by omega
  have hok:=okLw_of h5 hmL k hm
  refine ⟨m,mostE ρ L,hok,fun {E w vs} he hv hf hg hn ha=>?_⟩
  have hc:=lAll_mem (lAll_mem HC (m - 1) (cntD_mem (by omega))) (mostE ρ L) (cntD_mem (by have:=mostE_le ρ L; omega))
  rw [show m - 1 + 1=m by omega] at hc
  refine law_true (p:=pLw L m (mostE ρ L)) (tabsLw hm1 hmL h5 HT HF) hv hf hg hn ha (knOf_ok (fun c hc=>by cases hc) fun c hc=>by cases hc) hc ⟨fun _ _=>False,?_,fun _ _ h=>h.elim⟩
  rw [he]; exact hok
end Go.Sx
/-! THE LAW OF THE PARTS: evenings that are not valid; too few parts or too many. -/
namespace Go.Sx
open Go.RowKit Go.Proofs
set_option maxRecDepth 100000
noncomputable def conjC:List BE→BE
  | []=>.lit true
  | c :: l=>.and c (conjC l)
noncomputable def runS0 (c:CSpec):T (AV × Heap):=evalN tb0 60 false c.f c.args (viewHeap c.nv c.view)
noncomputable def evFalse (L:Nat):CSpec:=⟨42,bookA L,lB L,2000,[],.br (conjC (csV L)) (.fail 1) (.ret (.bool (.lit false)))⟩
noncomputable def noCk (L:Nat):Bool:=(evFalse L).chkK [] [] [] (runS0 (evFalse L))
noncomputable def bookU:List AV:=[.agg (bookS (.sliceU 95))]
noncomputable def fewC (many:Bool):BE:=cond many (leV (.lit 6) (.var 95)) (leV (.var 95) (.lit 0))
noncomputable def evNo (many:Bool):CSpec:=⟨42,bookU,gl,2000,[fewC many],.ret (.bool (.lit false))⟩
noncomputable def noCkU (many:Bool):Bool:=(evNo many).chkK [] [] [fewC many] (runS0 (evNo many))
noncomputable def orcIv (c:CSpec) (f:FuncId) (args:List AV) (h:Heap):Option (T (AV × Heap)):=cond (Nat.beq f 8) (closedOrc gl args h) (cond (Nat.beq f 42) (c.orc args h) none)
noncomputable def tbIv (c:CSpec):Tabs:=⟨Sx.Tryd.ft.get,lFind Sx.Tryd.rt,2000,orcIv c⟩
theorem noCk_all:lAll noCk [1,2,3,4,5]=true:=by kernel_rfl
theorem noCkU_all:lAll noCkU [true,false]=true:=by kernel_rfl
theorem orcIv_ok {c:CSpec} (hf:c.f=42) (H:∀ args h u,c.orc args h=some u→CallOk pT c.f args h u):∀ f args h t,orcIv c f args h=some t→CallOk pT f args h t:=by
  intro f args h t e
  unfold orcIv at e
  cases h8:Nat.beq f 8 with
  | true=>rw [h8] at e; have:=beq_t.1 h8; subst this; exact firedOrc_ok e
  | false =>
    rw [h8,cond_false] at e
    obtain ⟨h42,e⟩:=cond_some e
    have:=beq_t.1 h42; subst this
    have:=H args h t e
    rw [hf] at this; exact this
theorem evFalse_ok {L:Nat} (hL:L ∈ [1,2,3,4,5]) {args:List AV} {h:Heap} {t:T (AV × Heap)} (ho:(evFalse L).orc args h=some t):CallOk pT 42 args h t :=
  CSpec.okK (c:=evFalse L) (q:=[]) (cs0:=[]) rfl (eval_ok tabs0 60 42 (evFalse L).args _) (lAll_mem noCk_all L hL) (fun ρ _=>rules_nil ρ) (Nat.le_of_ble_eq_true rfl) ho
theorem evNo_ok (many:Bool) {args:List AV} {h:Heap} {t:T (AV × Heap)} (ho:(evNo many).orc args h=some t):CallOk pT 42 args h t :=
  CSpec.okK (c:=evNo many) (q:=[]) (cs0:=[fewC many]) rfl (eval_ok tabs0 60 42 (evNo many).args _) (lAll_mem noCkU_all many (by cases many <;> simp)) (fun ρ _=>rules_nil ρ) (Nat.le_of_ble_eq_true rfl) ho
theorem conj_t {ρ:Rho}:∀ (l:List BE),(conjC l).den ρ=true→∀ c ∈ l,c.den ρ=true
  | [],_,c,hc=>(List.not_mem_nil hc).elim
  | d :: l,h,c,hc=>by
    simp only [conjC,BE.den,Bool.and_eq_true] at h
    rcases List.mem_cons.1 hc with rfl | hc
    · exact h.1
    · exact conj_t l h.2 c hc
theorem conj_f {ρ:Rho} {l:List BE} (h:¬ ∀ c ∈ l,c.den ρ=true):(conjC l).den ρ=false:=by
  cases hc:(conjC l).den ρ with
  | false=>rfl
  | true=>exact (h (conj_t l hc)).elim
section
variable {E:Env} {w:World} {vs:List Value} (hf:∀ b,2000≤b→E.σ b=none) (hg:∀ b,b < 1000→E.σ b=some (b,0)) (hn:E.n≤2000)
include hf hg hn
end
end Go.Sx
/-! THE LAW OF THE PARTS,CALLED WITH WHATEVER CAN BE READ. -/
namespace Go.Sx
open Go.RowKit Go.Proofs
set_option maxRecDepth 100000
theorem rowsV_vals (E : Env) (z : Nat → Int) (zb : Nat → Bool) : ∀ (n b c : Nat), c % 4 = 0 → (∀ q, q < 4 * n → E.ρ.iv (b + q) = z (c + q)) → (∀ q, q < 4 * n → E.ρ.bv (b + q) = zb (c + q)) →
    ∃ vs,concL E (rowsV n b)=some vs∧vs.length=4 * n∧∀ q,q < 4 * n→vs[q]?=some (partAt z zb (c + q))
  | 0,b,c,_,_,_=>⟨[],rfl,rfl,fun q hq=>absurd hq (by omega)⟩
  | n + 1,b,c,h4,hz,hb=>by
    obtain ⟨vs,h1,h2,h3⟩:=rowsV_vals E z zb n (b + 4) (c + 4) (by omega) (fun q hq=>by rw [show b + 4 + q=b + (4 + q) by omega,show c + 4 + q=c + (4 + q) by omega]; exact hz _ (by omega)) (fun q hq=>by rw [show b + 4 + q=b + (4 + q) by omega,show c + 4 + q=c + (4 + q) by omega]; exact hb _ (by omega))
    have e0:=hz 0 (by omega); have e1:=hz 1 (by omega); have e2:=hb 2 (by omega); have e3:=hz 3 (by omega)
    refine ⟨partAt z zb c :: partAt z zb (c + 1) :: partAt z zb (c + 2) :: partAt z zb (c + 3) :: vs,?_,by simp only [List.length_cons,h2]; omega,fun q hq=>?_⟩
    · simp only [rowsV,vi,concL,conc,IE.den,BE.den,h1]
      unfold partAt
      rw [if_neg (show ¬ c % 4=2 by omega),if_neg (show ¬ (c + 1) % 4=2 by omega),if_pos (show (c + 2) % 4=2 by omega),if_neg (show ¬ (c + 3) % 4=2 by omega),← e1,← e2,← e3]
      rw [Nat.add_zero,Nat.add_zero] at e0
      rw [← e0]
    · match q,hq with
      | 0,_=>rfl
      | 1,_=>rfl
      | 2,_=>rfl
      | 3,_=>rfl
      | q + 4,hq =>
        have:=h3 q (by omega)
        rw [show c + 4 + q=c + (q + 4) by omega] at this
        exact this
noncomputable def numP (nb z:Nat→Int) (num:Int) (len j:Nat):Int:=if j < 22 then nb j else if j < 60 then z (j - 30) else if j=88 then num else if j=95 then len else 0
noncomputable def rhoP (nb z:Nat→Int) (zb:Nat→Bool) (num:Int) (len:Nat) (s:Value):Rho:=⟨numP nb z num len,fun j=>zb (j - 30),fun _ _ _ _=>0,fun _ _ _ _=>false,fun _=>s⟩
def envP (ρ:Rho) (b o cap:Nat):Env:=⟨ρ,fun j=>if j < 1000 then some (j,0) else if j=1001 then some (b,o) else none,fun _=>cap,2000,fun _=>#[]⟩
theorem book_vals {E:Env} {nb:Nat→Int} {a:AV} {s:Value} (hi:∀ j,j < 22→E.ρ.iv j=nb j) (ha:conc E a=some s):conc E (.agg (bookS a))=some (.agg ((List.range 22).map (fun i=>Value.int .i64 (nb i)) ++ [s]).toArray):=by
  have h:concL E (bookS a)=some ((List.range 22).map (fun i=>Value.int .i64 (nb i)) ++ [s]):=by
    have hl:bookS a=[vi 0,vi 1,vi 2,vi 3,vi 4,vi 5,vi 6,vi 7,vi 8,vi 9,vi 10,vi 11,vi 12,vi 13,vi 14,vi 15,vi 16,vi 17,vi 18,vi 19,vi 20,vi 21,a]:=rfl
    rw [hl]
    simp only [vi,concL,conc,IE.den,ha,hi 0 (by omega),hi 1 (by omega),hi 2 (by omega),hi 3 (by omega),hi 4 (by omega),hi 5 (by omega),hi 6 (by omega),hi 7 (by omega),hi 8 (by omega),hi 9 (by omega),hi 10 (by omega),hi 11 (by omega),hi 12 (by omega),hi 13 (by omega),hi 14 (by omega),hi 15 (by omega),hi 16 (by omega),hi 17 (by omega),hi 18 (by omega),hi 19 (by omega),hi 20 (by omega),hi 21 (by omega)]
    rfl
  simp only [conc,h]
  rfl
end Go.Sx
/-! THE SEARCH of any evening,from its beginning. -/
namespace Go.Sx
open Go.RowKit Go.Proofs
set_option maxRecDepth 100000
theorem ckA_all {q:Bool} {m i:Nat} (h:ckAll q m i=true):ckS q m i=true∧∀ W,W≤5→ckW q m i W=true:=by
  unfold ckAll at h
  simp only [Bool.and_eq_true] at h
  exact ⟨h.1,fun W hW=>lAll_mem h.2 W (by simp only [List.mem_cons,List.not_mem_nil,or_false]; omega)⟩
theorem ckO_at {m:Nat} (h:m≤5):ckO true m=true∧ckO false m=true∧ckP true m=true∧ckP false m=true:=by
  have:=lAll_mem ckO_all m (by simp only [List.mem_cons,List.not_mem_nil,or_false]; omega)
  simpa only [Bool.and_eq_true] using this
theorem look_of {q:Bool} {m:Nat} (hm:m≤5) (hN:ckN q m=true) (h:∀ i,i < m→ckAll q m i=true):LookAt q m 0 :=
  look_all hm hN (fun i hi=>(ckA_all (h i hi)).1) (fun i hi=>(ckA_all (h i hi)).2) m 0 (Nat.zero_add m)
theorem look_t1:LookAt true 1 0:=look_of (by omega) ckN_t1 fun i hi=>by
  match i,hi with
  | 0,_=>exact ckA_t10
theorem look_t2:LookAt true 2 0:=look_of (by omega) ckN_t2 fun i hi=>by
  match i,hi with
  | 0,_=>exact ckA_t20
  | 1,_=>exact ckA_t21
theorem look_t3:LookAt true 3 0:=look_of (by omega) ckN_t3 fun i hi=>by
  match i,hi with
  | 0,_=>exact ckA_t30
  | 1,_=>exact ckA_t31
  | 2,_=>exact ckA_t32
theorem look_t4:LookAt true 4 0:=look_of (by omega) ckN_t4 fun i hi=>by
  match i,hi with
  | 0,_=>exact ckA_t40
  | 1,_=>exact ckA_t41
  | 2,_=>exact ckA_t42
  | 3,_=>exact ckA_t43
theorem look_t5:LookAt true 5 0:=look_of (by omega) ckN_t5 fun i hi=>by
  match i,hi with
  | 0,_=>exact ckA_t50
  | 1,_=>exact ckA_t51
  | 2,_=>exact ckA_t52
  | 3,_=>exact ckA_t53
  | 4,_=>exact ckA_t54
theorem looks_t:∀ n,1≤n→n≤5→Looks true n:=fun n h1 h5=>⟨by
  match n,h1,h5 with
  | 1,_,_=>exact look_t1
  | 2,_,_=>exact look_t2
  | 3,_,_=>exact look_t3
  | 4,_,_=>exact look_t4
  | 5,_,_=>exact look_t5,(ckO_at h5).1,(ckO_at h5).2.2.1⟩
end Go.Sx
