/- FaB -/
import Derived.Test.YtfbongdjicmegaaDoorEvH
namespace Go.Sx
open Go.RowKit Go.Proofs
set_option maxRecDepth 100000
noncomputable def crs (ρ:Rho) (pl:Nat→Int):Nat→Int × Int
  | 0=>(ρ.iv 0,ρ.iv 2)
  | k + 1=>(aY ρ k 0 (crs ρ pl k).1 (pl (2 * k)),aY ρ k 1 (crs ρ pl k).2 (pl (2 * k + 1)))
noncomputable def mayK (ρ:Rho) (pl:Nat→Int) (k:Nat):Bool:=mayF ρ k (aY ρ k 1 (crs ρ pl k).2 (pl (2 * k + 1))) (bY ρ k 0 (crs ρ pl k).1 (pl (2 * k))) (bY ρ k 1 (crs ρ pl k).2 (pl (2 * k + 1)))
structure FaOk (L n:Nat) (pl:Nat→Int) (ρ:Rho):Prop where
  pb:∀ k,k < L→0≤pl (2 * k)∧0≤pl (2 * k + 1)∧pl (2 * k) + pl (2 * k + 1)≤ρ.iv (33 + 4 * k)
  may:∀ k,k < L→k≤n→mayK ρ pl k=decide (k=n)
structure OkFa (L n:Nat) (ρ:Rho):Prop where
  cs:∀ d ∈ csV L,d.den ρ=true
  s:OkS L ρ
  f:FaOk L n (fun j=>ρ.iv (540 + j)) ρ
noncomputable def aE (r:Nat):Nat→IE
  | 0=>.var (2 * r)
  | k + 1=>.app (9300 + r) (lt k) (aE r k) (.var (540 + 2 * k + r))
theorem aE_den {ρ:Rho} {L n:Nat} (H:OkFa L n ρ):∀ k,k≤L→(aE 0 k).den ρ=(crs ρ (fun j=>ρ.iv (540 + j)) k).1∧(aE 1 k).den ρ=(crs ρ (fun j=>ρ.iv (540 + j)) k).2
  | 0,_=>⟨rfl,rfl⟩
  | k + 1,hk=>by
    obtain ⟨h1,h2⟩:=aE_den H k (by omega)
    constructor
    · show FI ρ.fi 9300 k ((aE 0 k).den ρ) (ρ.iv (540 + 2 * k + 0))=aY ρ k 0 _ (ρ.iv (540 + 2 * k))
      rw [h1]; exact (H.s k (by omega) _ _).1
    · show FI ρ.fi 9301 k ((aE 1 k).den ρ) (ρ.iv (540 + 2 * k + 1))=aY ρ k 1 _ (ρ.iv (540 + (2 * k + 1)))
      rw [h2]; exact (H.s k (by omega) _ _).2.1
noncomputable def orcFa (L n:Nat) (f:FuncId) (args:List AV) (h:Heap):Option (T (AV × Heap)) :=
  cond (Nat.beq f 42) (soGo L args h) (cond (Nat.beq f 71) (match args with
    | [_,.agg [.int _ (.lit (.ofNat i)),.int _ a,.int _ b],.agg [.int _ c,.int _ w],_]=>cond (Nat.blt i L) (rowGo L (stepA L i a b c w) (stepR i a b c w) args h) none
    | _=>none) (cond (Nat.beq f 57) (match args with
    | [_,.agg [_,_,.int _ (.lit (.ofNat (i + 1))),_,_,_,_]]=>cond (and (Nat.blt i L) (Nat.ble i n)) (rowGo L (mayA L i (.var (540 + 2 * i)) (.var (541 + 2 * i)) (aE 0 (i + 1)) (aE 1 (i + 1)) (.app 9302 (lt i) (aE 0 i) (.var (540 + 2 * i))) (.app 9303 (lt i) (aE 1 i) (.var (541 + 2 * i)))) (.bool (.lit (Nat.beq i n))) args h) none
    | _=>none) none))
noncomputable def tbFa (L n:Nat):hI:=⟨Sx.Tryd.ft.get,aA Sx.Tryd.rt,2000,orcFa L n⟩
noncomputable def plA (arr:Bool) (b L:Nat):AV:=cond arr (.sliceX b 2 0 L) (.slice b 0 L L)
noncomputable def vF (L:Nat):List (Nat × AObj):=[(0,glO),(1001,.cells (bf L 30) 0 false false),(1002,.cells (planN L 540) 0 false false)]
noncomputable def argsFa (arr:Bool) (b L:Nat):List AV:=[.agg (eG (.sliceX 1001 4 0 L)),plA arr b L]
noncomputable def runFa (arr:Bool) (L n:Nat):T (AV × Heap):=(b7 (tbFa L n) 60 false 16 (argsFa arr 1002 L) (ah 2000 (vF L))).bind fun r=>bV 2000 (vF L) (ah 2000 (vF L)) [] r
noncomputable def resFa (L n:Nat):AV:=cond (Nat.blt n L) (.tup [li (Int.ofNat n),li 0]) (.tup [li 0,li 4])
noncomputable def qPl (nm:Nat):Nat→Nat→List (Nat × Int × Int)
  | 0,_=>[]
  | n + 1,k=>(nm + 2 * k,0,5) :: (nm + 2 * k + 1,0,5) :: (33 + 4 * k,0,5) :: qPl nm n (k + 1)
noncomputable def fcPl (nm:Nat):Nat→Nat→List BE
  | 0,_=>[]
  | n + 1,k=>leV (.var (nm + 2 * k)) (.var (33 + 4 * k)) :: leV (.var (nm + 2 * k + 1)) (.bin .sub .i64 (.var (33 + 4 * k)) (.var (nm + 2 * k))) :: fcPl nm n (k + 1)
noncomputable def ckFa (arr:Bool) (L n:Nat):Bool:=and (ba 2000 (vF L)) (allK (fun _=>isR (resFa L n) 2000 (vF L)) (runFa arr L n) (knOf (qPl 540 L 0) (fcPl 540 L 0)))
theorem ckFa_all:bz (fun L=>bz (fun n=>and (ckFa true L n) (ckFa false L n)) (cntD (L + 1))) [1,2,3,4,5]=true:=by kernel_rfl
end Go.Sx
