/- EvB -/
import Derived.Test.YtfbongdjicmegaaDoorDrB
import Derived.Test.YtfbongdjicmegaaDoorSxPres
namespace Go.Sx
open Go.RowKit Go.Proofs
set_option maxRecDepth 100000
noncomputable def conjC:List BE→BE
  | []=>.lit true
  | c :: l=>.and c (conjC l)
noncomputable def runS0 (c:CSpec):T (AV × Heap):=b7 tb0 60 false c.f c.args (bj c.nv c.view)
noncomputable def evFalse (L:Nat):CSpec:=⟨42,bookA L,lB L,2000,[],.br (conjC (csV L)) (.fail 1) (.ret (.bool (.lit false)))⟩
noncomputable def noCk (L:Nat):Bool:=(evFalse L).chkK [] [] [] (runS0 (evFalse L))
noncomputable def bookU:List AV:=[.agg (eG (.sliceU 95))]
noncomputable def fewC (many:Bool):BE:=cond many (leV (.lit 6) (.var 95)) (leV (.var 95) (.lit 0))
noncomputable def evNo (many:Bool):CSpec:=⟨42,bookU,gl,2000,[fewC many],.ret (.bool (.lit false))⟩
noncomputable def noCkU (many:Bool):Bool:=(evNo many).chkK [] [] [fewC many] (runS0 (evNo many))
noncomputable def orcIv (c:CSpec) (f:FuncId) (args:List AV) (h:Heap):Option (T (AV × Heap)):=cond (Nat.beq f 7) (gR gl args h) (cond (Nat.beq f 42) (c.orc args h) none)
noncomputable def tbIv (c:CSpec):hI:=⟨Sx.Tryd.ft.get,aA Sx.Tryd.rt,2000,orcIv c⟩
theorem noCk_all:bz noCk [1,2,3,4,5]=true:=by kernel_rfl
theorem noCkU_all:bz noCkU [true,false]=true:=by kernel_rfl
theorem orcIv_ok {c:CSpec} (hf:c.f=42) (H:∀ args h u,c.orc args h=some u→CallOk pT c.f args h u):∀ f args h t,orcIv c f args h=some t→CallOk pT f args h t:=by
  intro f args h t e
  unfold orcIv at e
  cases h8:Nat.beq f 7 with
  | true=>rw [h8] at e; have:=aq.1 h8; subst this; exact firedOrc_ok e
  | false =>
    rw [h8,cond_false] at e
    obtain ⟨h42,e⟩:=ak e
    have:=aq.1 h42; subst this
    have:=H args h t e
    rw [hf] at this; exact this
theorem evFalse_ok {L:Nat} (hL:L ∈ [1,2,3,4,5]) {args:List AV} {h:Heap} {t:T (AV × Heap)} (ho:(evFalse L).orc args h=some t):CallOk pT 42 args h t :=
  CSpec.okK (c:=evFalse L) (q:=[]) (cs0:=[]) rfl (bL tabs0 60 42 (evFalse L).args _) (av noCk_all L hL) (fun ρ _=>rules_nil ρ) (Nat.le_of_ble_eq_true rfl) ho
theorem evNo_ok (many:Bool) {args:List AV} {h:Heap} {t:T (AV × Heap)} (ho:(evNo many).orc args h=some t):CallOk pT 42 args h t :=
  CSpec.okK (c:=evNo many) (q:=[]) (cs0:=[fewC many]) rfl (bL tabs0 60 42 (evNo many).args _) (av noCkU_all many (by cases many <;> simp)) (fun ρ _=>rules_nil ρ) (Nat.le_of_ble_eq_true rfl) ho
theorem conj_t {ρ:Rho}:∀ (l:List BE),(conjC l).den ρ=true→∀ c ∈ l,c.den ρ=true
  | [],_,c,hc=>(List.not_mem_nil hc).elim
  | d :: l,h,c,hc=>by
    simp only [conjC,BE.den,Bool.and_eq_true] at h
    rcases List.mem_cons.1 hc with rfl | hc
    · exact h.1
    · exact conj_t l h.2 c hc
theorem conj_f {ρ:Rho} {l:List BE} (h:¬ ∀ c ∈ l,c.den ρ=true):(conjC l).den ρ=false:=by
  cases hc:(conjC l).den ρ with
  | false=>rfl
  | true=>exact (h (conj_t l hc)).elim
end Go.Sx
