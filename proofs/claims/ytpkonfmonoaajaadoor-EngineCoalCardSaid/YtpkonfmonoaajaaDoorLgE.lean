/- THE CALL Longer,as it is said: by how many minutes a part can be longer has a name. -/
import Derived.Test.YtpkonfmonoaajaaDoorLgD
/-! THE CALL Longer,as it is said: by how many minutes a part can be longer has a name. -/
namespace Go.Sx
open Go.RowKit Go.Proofs
set_option maxRecDepth 100000
/-- an evening of which a part can be longer -/
noncomputable def hiE (i:Nat) (v:IE):Nat→IE:=oneE (31 + 4 * i) v
noncomputable def hiF (ρ:Rho) (L i:Nat) (v:Int):Bool:=enD (chg (hiE i (.lit v)) ρ) L
noncomputable def byE (i:Nat):Nat→IE:=hiE i (.bin .add .i64 (.var (31 + 4 * i)) (.var 502))
structure OkBy (L i:Nat) (ρ:Rho):Prop where
  cs:∀ d ∈ csV L,d.den ρ=true
  e:enD (chg (byE i) ρ) L=ρ.bv 905
noncomputable def argsBy (L i:Nat) (x:IE):List AV:=[.agg (lApp (evenS (.sliceX 1001 4 0 L)) [li (Int.ofNat i)]),.int .i64 x]
noncomputable def orcBy (L i:Nat) (f:FuncId) (args:List AV) (h:Heap):Option (T (AV × Heap)):=cond (Nat.beq f 50) (xGo (byE i) 2003 L [.agg (evenX (byE i) (.sliceX 2003 4 0 L))] (fun h=>(.bool (.var 905),h)) args h) none
noncomputable def tbBy (L i:Nat):Tabs:=⟨Sx.Tryd.ft.get,lFind Sx.Tryd.rt,2000,orcBy L i⟩
noncomputable def runBy (L i:Nat):T (AV × Heap):=(evalN (tbBy L i) 60 false 34 (argsBy L i (.var 502)) (viewA 2000 (vB L))).bind fun r=>graftT 2000 (vB L) (viewA 2000 (vB L)) [] r
noncomputable def is905 (L:Nat) (K:Kn) (r:AV × Heap):Bool:=match decK K (.var 905) with
  | some b=>isR (.bool (.lit b)) 2000 (vB L) r
  | none=>false
noncomputable def ckBy (L i:Nat):Bool:=allK (is905 L) (runBy L i) (knOf [] [])
theorem ckBy_all:lAll (fun L=>lAll (ckBy L) (cntD L)) [1,2,3,4,5]=true:=by kernel_rfl
/-! ## Longer -/
structure OkLo (L i:Nat) (k:Bool) (ρ:Rho):Prop where
  cs:∀ d ∈ csV L,d.den ρ=true
  b:∀ x:Nat,x≤60→hiF ρ L i (ρ.iv (31 + 4 * i) + x)=decide ((x:Int)≤ρ.iv 89)
  r:cond k (decide (0≤ρ.iv 89∧ρ.iv 89≤60)) (decide (ρ.iv 89=-1))=true
noncomputable def by34 (L i:Nat) (args:List AV) (h:Heap):Option (T (AV × Heap)):=match args with
  | [_,.int _ (.lit (.ofNat x))]=>cond (Nat.ble x 60) (xGo IE.var 1001 L (argsBy L i (lt x)) (fun h=>(.bool (.cmp .leq (lt x) (.var 89)),h)) args h) none
  | _=>none
noncomputable def orcLo (L i:Nat) (f:FuncId) (args:List AV) (h:Heap):Option (T (AV × Heap)):=cond (Nat.beq f 42) (soGo L args h) (cond (Nat.beq f 34) (by34 L i args h) none)
noncomputable def tbLo (L i:Nat):Tabs:=⟨Sx.Tryd.ft.get,lFind Sx.Tryd.rt,2000,orcLo L i⟩
noncomputable def argsLo (L i:Nat):List AV:=[.agg (bookS (.sliceX 1001 4 0 L)),li (Int.ofNat i)]
noncomputable def runLo (L i:Nat):T (AV × Heap):=(evalN (tbLo L i) 60 false 10 (argsLo L i) (viewA 2000 (vB L))).bind fun r=>graftT 2000 (vB L) (viewA 2000 (vB L)) [] r
noncomputable def resLo (k:Bool):AV:=cond k (.tup [vi 89,li 0]) (.tup [li 0,li 4])
noncomputable def yes (o:Option Bool):Bool:=match o with
  | some b=>b
  | none=>false
noncomputable def is89 (L:Nat) (K:Kn) (r:AV × Heap):Bool:=match r.1 with
  | .tup [.int .i64 e,x]=>and (and (eqAV x (li 0)) (and (yes (decK K (.cmp .leq e (.var 89)))) (yes (decK K (.cmp .leq (.var 89) e))))) (and (lAll (fun g:Nat × AObj=>isO (r.2.get g.1) g.2) (vB L)) (Nat.beq r.2.next 2000))
  | _=>false
noncomputable def knLo (k:Bool):List (Nat × Int × Int):=cond k [(89,0,60)] [(89,-1,-1)]
noncomputable def ckLo (L i:Nat) (k:Bool):Bool:=allK (fun K r=>cond k (is89 L K r) (isR (resLo false) 2000 (vB L) r)) (runLo L i) (knOf (knLo k) [])
theorem ckLo_all:lAll (fun L=>lAll (fun i=>and (ckLo L i true) (ckLo L i false)) (cntD L)) [1,2,3,4,5]=true:=by kernel_rfl
end Go.Sx
