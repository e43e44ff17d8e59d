/- EnX -/
import Derived.Test.YtfbongdjicmegaaDoorEnW
import Derived.Test.YtfbongdjicmegaaDoorSxPres
namespace Go.Sx
open Go.RowKit Go.Proofs
set_option maxRecDepth 100000
noncomputable def big:IE:=.lit 9223372036854775807
noncomputable def turnC:CSpec:=⟨8,[vi 80,vi 81],[],2000,[.cmp .leq (.var 81) big],.ret (.int .i64 (.app 6 (.var 80) (.var 81) (.lit 0)))⟩
noncomputable def turnRun:T (AV × Heap):=b7 tb0 10 false 8 [vi 80,vi 81] (bj 2000 [])
noncomputable def remE:IE:=.bin .rem .i64 (.var 80) (.var 81)
noncomputable def turnT:T AV:=.br (.cmp .lss (.var 81) (.lit 1)) (.ret (.int .i64 (.lit 0))) (.br (.cmp .neq (.var 81) (.lit 0)) (.br (.cmp .lss remE (.lit 0)) (.ret (.int .i64 (.bin .add .i64 remE (.var 81)))) (.ret (.int .i64 remE))) (.fail 10))
theorem turn_run:(turnRun.bind fun r=>.ret r.1)=turnT:=by kernel_rfl
theorem turn_den {n m:Int} (h1:¬ m < 1) (hm:m≤9223372036854775807):(n.tmod m < 0→IntKind.i64.wrap (n.tmod m + m)=bO n m)∧(¬ n.tmod m < 0→n.tmod m=bO n m):=by
  have e1:=Int.emod_nonneg n (show m ≠ 0 by omega)
  have e2:=Int.emod_lt_of_pos n (show 0 < m by omega)
  have e3:n.tmod m=n % m ∨ n.tmod m=n % m - m∧n % m ≠ 0:=by
    rw [Int.tmod_eq_emod]
    split
    · left; omega
    · rename_i hh
      right
      refine ⟨by omega,fun h0=>hh (.inr (Int.dvd_of_emod_eq_zero h0))⟩
  unfold bO
  rw [if_neg h1]
  generalize n % m=r at *
  generalize n.tmod m=t at *
  constructor
  · intro h
    rw [IntWalk.i64_in _ (by omega)]; omega
  · intro h; omega
theorem turn_orc {p:Par} (hP:pT.P=p.P) {args:List AV} {h:Heap} {t:T (AV × Heap)} (ho:turnC.orc args h=some t):CallOk p 8 args h t:=by
  refine CSpec.okS (c:=turnC) (p0:=pT) (bL tabs0 10 8 [vi 80,vi 81] _) (fun ρ hd P hP=>?_) (Nat.le_of_ble_eq_true rfl) ho hP
  have hd:=hd _ List.mem_cons_self
  rw [BE.t_leq] at hd
  have hd:ρ.iv 81≤9223372036854775807:=hd
  have hP:P (.int .i64 (.app 6 (.var 80) (.var 81) (.lit 0))):=hP
  show ((turnRun.bind fun r=>.ret r.1):T AV).Holds ρ _
  rw [turn_run]
  have hden:(IE.app 6 (.var 80) (.var 81) (.lit 0)).den ρ=bO (ρ.iv 80) (ρ.iv 81):=rfl
  have fin:∀ e:IE,e.den ρ=bO (ρ.iv 80) (ρ.iv 81)→∃ b,P b∧cI b=true∧SameE ρ (.int .i64 e) b:=fun e he =>
    ⟨_,hP,rfl,by intro E hE; simp only [af,hE]; rw [he,hden]⟩
  unfold turnT
  simp only [T.Holds]
  split
  · rename_i h1
    rw [BE.t_lss] at h1
    refine fin _ ?_
    have h1:ρ.iv 81 < 1:=h1
    unfold bO; rw [if_pos h1]; rfl
  · rename_i h1
    rw [BE.t_lss] at h1
    have h1:¬ ρ.iv 81 < 1:=h1
    obtain ⟨d1,d2⟩:=turn_den (n:=ρ.iv 80) h1 hd
    split
    · split
      · rename_i h2
        rw [BE.t_lss] at h2
        exact fin _ (d1 h2)
      · rename_i h2
        rw [BE.t_lss] at h2
        exact fin _ (d2 h2)
    · rename_i h3
      refine absurd ?_ h3
      show (ρ.iv 81 != 0)=true
      simp only [bne_iff_ne,ne_eq]; omega
theorem vB_same {p1 p2:Par} (hP:p1.P=p2.P) (ρ:Rho) (m:Nat):SameH p1 p2 ρ (ah 2000 (vB m)) ρ (ah 2000 (vB m)) :=
  ⟨rfl,fun b o hg=>by
    have:=am _ _ _ _ hg
    simp only [vB,List.mem_cons,List.not_mem_nil,or_false] at this
    rcases this with h | h
    · cases h; exact ⟨_,hg,SameA.cells hP (SameL.refl _ _)⟩
    · cases h; exact ⟨_,hg,SameA.cells hP (SameL.refl _ _)⟩⟩
theorem valid_ok {ok : Rho → (Nat → Obj → Prop) → Prop} {f m : Nat} {v : AV} (hck : ckBk f m v = true) (hok : ∀ ρ b, ok ρ b → ∀ c ∈ csV m, c.den ρ = true) :
    CallOk (aQ ok) f (bookA m) (ah 2000 (vB m)) (.ret (v,ah 2000 (vB m))):=by
  unfold ckBk at hck
  simp only [Bool.and_eq_true] at hck
  obtain ⟨hv,hc⟩:=hck
  have base:=bL tabs0 60 f (bookA m) (ah 2000 (vB m))
  have up:∀ g ∈ vB m,(ah 2000 (vB m)).get g.1=some g.2:=aC 2000 _ 0 rfl
  have fr:CallOk pT f (bookA m) (ah 2000 (vB m)) (runBk f m):=base.frame (n:=2000) (l:=vB m) (by omega) rfl hv (fun g hg=>⟨g.2,up g hg,.refl _⟩) (by rw [aw]; exact Nat.le_refl _) (fun _=>[])
  refine CallOk.read (p0:=pT) (p:=aQ ok) rfl fr fun ρ b hb Q hQ=>?_
  obtain ⟨w,hw,hbw⟩:=hb
  refine ⟨ρ,⟨w,trivial,hbw⟩,SameL.refl _ _,vB_same rfl ρ m,?_⟩
  refine dY (ρ:=ρ) (fun K r hK hr=>?_) _ _ (fw (fun c hc=>by cases hc) fun c hc=>hok ρ w hw c hc) hc
  obtain ⟨s1,s2⟩:=fd (p0:=pT) (p:=aQ ok) rfl rfl (ρ:=ρ) hr
  exact ⟨_,hQ,s1,s2⟩
theorem valid_all:bz (fun m=>and (ckBk 42 m (.bool (.lit true))) (ckBk 6 m (.bool (.lit true)))) [1,2,3,4,5]=true:=by kernel_rfl
end Go.Sx
