/- WHAT IS EASIER: each kind is valid,and easier (written by mkesb.py). -/
import Derived.Test.YtfbongdjicmegaaDoorEsA
/-! WHAT IS EASIER: each kind is valid,and easier (written by mkesb.py). -/
namespace Go.Sx
open Go.RowKit Go.Proofs
set_option maxRecDepth 100000
structure Good (ρ ρ':Rho) (L:Nat):Prop where
  cs:∀ c ∈ csV L,c.den ρ'=true
  ez:Ez ρ ρ' L
  a:ρ.iv 0≤ρ'.iv 0∧ρ'.iv 0≤99
  b:ρ.iv 2≤ρ'.iv 2∧ρ'.iv 2≤99
section
variable {ρ:Rho} {L i:Nat} (hcs:∀ c ∈ csV L,c.den ρ=true) (h90:0≤ρ.iv 90∧ρ.iv 90≤11)
include hcs h90
theorem good0:Good ρ (chg (ezE 0 i) ρ) L:=by
  obtain ⟨hb,hp⟩:=cs_iff.1 hcs
  obtain ⟨h1,h2,h3,h4,h6,h7,h8,h9,h10,h11,h12,h13,h14,h15,h16⟩:=hb
  have q0:(chg (ezE 0 i) ρ).iv 0=min (ρ.iv 1) (ρ.iv 0 + ρ.iv 90):=up_den (j:=0) (hi:=(.var 1)) (by omega) h90
  have q1:(chg (ezE 0 i) ρ).iv 1=ρ.iv 1:=rfl
  have q2:(chg (ezE 0 i) ρ).iv 2=ρ.iv 2:=rfl
  have q3:(chg (ezE 0 i) ρ).iv 3=ρ.iv 3:=rfl
  have q4:(chg (ezE 0 i) ρ).iv 4=ρ.iv 4:=rfl
  have q5:(chg (ezE 0 i) ρ).iv 5=ρ.iv 5:=rfl
  have q6:(chg (ezE 0 i) ρ).iv 6=ρ.iv 6:=rfl
  have q7:(chg (ezE 0 i) ρ).iv 7=ρ.iv 7:=rfl
  have q8:(chg (ezE 0 i) ρ).iv 8=ρ.iv 8:=rfl
  have q9:(chg (ezE 0 i) ρ).iv 9=ρ.iv 9:=rfl
  have q10:(chg (ezE 0 i) ρ).iv 10=ρ.iv 10:=rfl
  have q11:(chg (ezE 0 i) ρ).iv 11=ρ.iv 11:=rfl
  have q12:(chg (ezE 0 i) ρ).iv 12=ρ.iv 12:=rfl
  have q13:(chg (ezE 0 i) ρ).iv 13=ρ.iv 13:=rfl
  have q14:(chg (ezE 0 i) ρ).iv 14=ρ.iv 14:=rfl
  have q15:(chg (ezE 0 i) ρ).iv 15=ρ.iv 15:=rfl
  have q16:(chg (ezE 0 i) ρ).iv 16=ρ.iv 16:=rfl
  have q17:(chg (ezE 0 i) ρ).iv 17=ρ.iv 17:=rfl
  have q18:(chg (ezE 0 i) ρ).iv 18=ρ.iv 18:=rfl
  have q19:(chg (ezE 0 i) ρ).iv 19=ρ.iv 19:=rfl
  have q20:(chg (ezE 0 i) ρ).iv 20=ρ.iv 20:=rfl
  have q21:(chg (ezE 0 i) ρ).iv 21=ρ.iv 21:=rfl
  have qp:∀ j,30≤j→(chg (ezE 0 i) ρ).iv j=ρ.iv j:=fun j hj=>by show (oneE 0 (upE 0 (.var 1)) j).den ρ=_; rw [oneE_ne (by omega)]; rfl
  have pt:∀ k,k < L→PartE (chg (ezE 0 i) ρ).iv (30 + 4 * k):=fun k hk=>by
    obtain ⟨p1,p2⟩:=hp k hk
    refine ⟨?_,?_⟩
    · rw [qp _ (by omega),qp _ (by omega)]; exact p1
    · rw [qp _ (by omega)]; exact p2
  have mins:∀ k,k < L→(chg (ezE 0 i) ρ).iv (31 + 4 * k)≤ρ.iv (31 + 4 * k):=fun k hk=>Int.le_of_eq (qp _ (by omega))
  have walks:∀ k,k < L→ρ.iv (33 + 4 * k)≤(chg (ezE 0 i) ρ).iv (33 + 4 * k):=fun k hk=>Int.le_of_eq (qp _ (by omega)).symm
  have cs':∀ c ∈ csV L,c.den (chg (ezE 0 i) ρ)=true:=cs_iff.2 ⟨by constructor <;> omega,pt⟩
  refine ⟨cs',ez_of hcs cs' rfl (fun r hr=>?_) (fun r hr=>?_) mins (fun q hq=>?_) walks (by omega) (by omega) (by omega) (by omega),by omega,by omega⟩
  · have hr':r=0 ∨ r=1:=by omega
    rcases hr' with rfl | rfl <;> simp only [Nat.add_zero,Nat.reduceAdd] <;> omega
  · have hr':r=0 ∨ r=1:=by omega
    rcases hr' with rfl | rfl <;> simp only [Nat.add_zero,Nat.reduceAdd] <;> omega
  · have hq':q=0 ∨ q=1 ∨ q=2 ∨ q=3:=by omega
    rcases hq' with rfl | rfl | rfl | rfl <;> simp only [Nat.mul_zero,Nat.add_zero,Nat.mul_one,Nat.reduceMul,Nat.reduceAdd] <;> omega
theorem good1:Good ρ (chg (ezE 1 i) ρ) L:=by
  obtain ⟨hb,hp⟩:=cs_iff.1 hcs
  obtain ⟨h1,h2,h3,h4,h6,h7,h8,h9,h10,h11,h12,h13,h14,h15,h16⟩:=hb
  have q0:(chg (ezE 1 i) ρ).iv 0=ρ.iv 0:=rfl
  have q1:(chg (ezE 1 i) ρ).iv 1=ρ.iv 1:=rfl
  have q2:(chg (ezE 1 i) ρ).iv 2=min (ρ.iv 3) (ρ.iv 2 + ρ.iv 90):=up_den (j:=2) (hi:=(.var 3)) (by omega) h90
  have q3:(chg (ezE 1 i) ρ).iv 3=ρ.iv 3:=rfl
  have q4:(chg (ezE 1 i) ρ).iv 4=ρ.iv 4:=rfl
  have q5:(chg (ezE 1 i) ρ).iv 5=ρ.iv 5:=rfl
  have q6:(chg (ezE 1 i) ρ).iv 6=ρ.iv 6:=rfl
  have q7:(chg (ezE 1 i) ρ).iv 7=ρ.iv 7:=rfl
  have q8:(chg (ezE 1 i) ρ).iv 8=ρ.iv 8:=rfl
  have q9:(chg (ezE 1 i) ρ).iv 9=ρ.iv 9:=rfl
  have q10:(chg (ezE 1 i) ρ).iv 10=ρ.iv 10:=rfl
  have q11:(chg (ezE 1 i) ρ).iv 11=ρ.iv 11:=rfl
  have q12:(chg (ezE 1 i) ρ).iv 12=ρ.iv 12:=rfl
  have q13:(chg (ezE 1 i) ρ).iv 13=ρ.iv 13:=rfl
  have q14:(chg (ezE 1 i) ρ).iv 14=ρ.iv 14:=rfl
  have q15:(chg (ezE 1 i) ρ).iv 15=ρ.iv 15:=rfl
  have q16:(chg (ezE 1 i) ρ).iv 16=ρ.iv 16:=rfl
  have q17:(chg (ezE 1 i) ρ).iv 17=ρ.iv 17:=rfl
  have q18:(chg (ezE 1 i) ρ).iv 18=ρ.iv 18:=rfl
  have q19:(chg (ezE 1 i) ρ).iv 19=ρ.iv 19:=rfl
  have q20:(chg (ezE 1 i) ρ).iv 20=ρ.iv 20:=rfl
  have q21:(chg (ezE 1 i) ρ).iv 21=ρ.iv 21:=rfl
  have qp:∀ j,30≤j→(chg (ezE 1 i) ρ).iv j=ρ.iv j:=fun j hj=>by show (oneE 2 (upE 2 (.var 3)) j).den ρ=_; rw [oneE_ne (by omega)]; rfl
  have pt:∀ k,k < L→PartE (chg (ezE 1 i) ρ).iv (30 + 4 * k):=fun k hk=>by
    obtain ⟨p1,p2⟩:=hp k hk
    refine ⟨?_,?_⟩
    · rw [qp _ (by omega),qp _ (by omega)]; exact p1
    · rw [qp _ (by omega)]; exact p2
  have mins:∀ k,k < L→(chg (ezE 1 i) ρ).iv (31 + 4 * k)≤ρ.iv (31 + 4 * k):=fun k hk=>Int.le_of_eq (qp _ (by omega))
  have walks:∀ k,k < L→ρ.iv (33 + 4 * k)≤(chg (ezE 1 i) ρ).iv (33 + 4 * k):=fun k hk=>Int.le_of_eq (qp _ (by omega)).symm
  have cs':∀ c ∈ csV L,c.den (chg (ezE 1 i) ρ)=true:=cs_iff.2 ⟨by constructor <;> omega,pt⟩
  refine ⟨cs',ez_of hcs cs' rfl (fun r hr=>?_) (fun r hr=>?_) mins (fun q hq=>?_) walks (by omega) (by omega) (by omega) (by omega),by omega,by omega⟩
  · have hr':r=0 ∨ r=1:=by omega
    rcases hr' with rfl | rfl <;> simp only [Nat.add_zero,Nat.reduceAdd] <;> omega
  · have hr':r=0 ∨ r=1:=by omega
    rcases hr' with rfl | rfl <;> simp only [Nat.add_zero,Nat.reduceAdd] <;> omega
  · have hq':q=0 ∨ q=1 ∨ q=2 ∨ q=3:=by omega
    rcases hq' with rfl | rfl | rfl | rfl <;> simp only [Nat.mul_zero,Nat.add_zero,Nat.mul_one,Nat.reduceMul,Nat.reduceAdd] <;> omega
theorem good2:Good ρ (chg (ezE 2 i) ρ) L:=by
  obtain ⟨hb,hp⟩:=cs_iff.1 hcs
  obtain ⟨h1,h2,h3,h4,h6,h7,h8,h9,h10,h11,h12,h13,h14,h15,h16⟩:=hb
  have q0:(chg (ezE 2 i) ρ).iv 0=ρ.iv 0:=rfl
  have q1:(chg (ezE 2 i) ρ).iv 1=ρ.iv 1:=rfl
  have q2:(chg (ezE 2 i) ρ).iv 2=ρ.iv 2:=rfl
  have q3:(chg (ezE 2 i) ρ).iv 3=ρ.iv 3:=rfl
  have q4:(chg (ezE 2 i) ρ).iv 4=min (99) (ρ.iv 4 + ρ.iv 90):=up_den (j:=4) (hi:=(lt 99)) (by omega) h90
  have q5:(chg (ezE 2 i) ρ).iv 5=min (99) (ρ.iv 5 + ρ.iv 90):=up_den (j:=5) (hi:=(lt 99)) (by omega) h90
  have q6:(chg (ezE 2 i) ρ).iv 6=ρ.iv 6:=rfl
  have q7:(chg (ezE 2 i) ρ).iv 7=ρ.iv 7:=rfl
  have q8:(chg (ezE 2 i) ρ).iv 8=ρ.iv 8:=rfl
  have q9:(chg (ezE 2 i) ρ).iv 9=ρ.iv 9:=rfl
  have q10:(chg (ezE 2 i) ρ).iv 10=ρ.iv 10:=rfl
  have q11:(chg (ezE 2 i) ρ).iv 11=ρ.iv 11:=rfl
  have q12:(chg (ezE 2 i) ρ).iv 12=ρ.iv 12:=rfl
  have q13:(chg (ezE 2 i) ρ).iv 13=ρ.iv 13:=rfl
  have q14:(chg (ezE 2 i) ρ).iv 14=ρ.iv 14:=rfl
  have q15:(chg (ezE 2 i) ρ).iv 15=ρ.iv 15:=rfl
  have q16:(chg (ezE 2 i) ρ).iv 16=ρ.iv 16:=rfl
  have q17:(chg (ezE 2 i) ρ).iv 17=ρ.iv 17:=rfl
  have q18:(chg (ezE 2 i) ρ).iv 18=ρ.iv 18:=rfl
  have q19:(chg (ezE 2 i) ρ).iv 19=ρ.iv 19:=rfl
  have q20:(chg (ezE 2 i) ρ).iv 20=ρ.iv 20:=rfl
  have q21:(chg (ezE 2 i) ρ).iv 21=ρ.iv 21:=rfl
  have qp:∀ j,30≤j→(chg (ezE 2 i) ρ).iv j=ρ.iv j:=fun j hj=>by show (twoE 4 (upE 4 (lt 99)) 5 (upE 5 (lt 99)) j).den ρ=_; rw [twoE_ne (by omega) (by omega)]; rfl
  have pt:∀ k,k < L→PartE (chg (ezE 2 i) ρ).iv (30 + 4 * k):=fun k hk=>by
    obtain ⟨p1,p2⟩:=hp k hk
    refine ⟨?_,?_⟩
    · rw [qp _ (by omega),qp _ (by omega)]; exact p1
    · rw [qp _ (by omega)]; exact p2
  have mins:∀ k,k < L→(chg (ezE 2 i) ρ).iv (31 + 4 * k)≤ρ.iv (31 + 4 * k):=fun k hk=>Int.le_of_eq (qp _ (by omega))
  have walks:∀ k,k < L→ρ.iv (33 + 4 * k)≤(chg (ezE 2 i) ρ).iv (33 + 4 * k):=fun k hk=>Int.le_of_eq (qp _ (by omega)).symm
  have cs':∀ c ∈ csV L,c.den (chg (ezE 2 i) ρ)=true:=cs_iff.2 ⟨by constructor <;> omega,pt⟩
  refine ⟨cs',ez_of hcs cs' rfl (fun r hr=>?_) (fun r hr=>?_) mins (fun q hq=>?_) walks (by omega) (by omega) (by omega) (by omega),by omega,by omega⟩
  · have hr':r=0 ∨ r=1:=by omega
    rcases hr' with rfl | rfl <;> simp only [Nat.add_zero,Nat.reduceAdd] <;> omega
  · have hr':r=0 ∨ r=1:=by omega
    rcases hr' with rfl | rfl <;> simp only [Nat.add_zero,Nat.reduceAdd] <;> omega
  · have hq':q=0 ∨ q=1 ∨ q=2 ∨ q=3:=by omega
    rcases hq' with rfl | rfl | rfl | rfl <;> simp only [Nat.mul_zero,Nat.add_zero,Nat.mul_one,Nat.reduceMul,Nat.reduceAdd] <;> omega
theorem good3:Good ρ (chg (ezE 3 i) ρ) L:=by
  obtain ⟨hb,hp⟩:=cs_iff.1 hcs
  obtain ⟨h1,h2,h3,h4,h6,h7,h8,h9,h10,h11,h12,h13,h14,h15,h16⟩:=hb
  have q0:(chg (ezE 3 i) ρ).iv 0=ρ.iv 0:=rfl
  have q1:(chg (ezE 3 i) ρ).iv 1=ρ.iv 1:=rfl
  have q2:(chg (ezE 3 i) ρ).iv 2=ρ.iv 2:=rfl
  have q3:(chg (ezE 3 i) ρ).iv 3=ρ.iv 3:=rfl
  have q4:(chg (ezE 3 i) ρ).iv 4=ρ.iv 4:=rfl
  have q5:(chg (ezE 3 i) ρ).iv 5=ρ.iv 5:=rfl
  have q6:(chg (ezE 3 i) ρ).iv 6=min (20) (ρ.iv 6 + ρ.iv 90):=up_den (j:=6) (hi:=(lt 20)) (by omega) h90
  have q7:(chg (ezE 3 i) ρ).iv 7=ρ.iv 7:=rfl
  have q8:(chg (ezE 3 i) ρ).iv 8=ρ.iv 8:=rfl
  have q9:(chg (ezE 3 i) ρ).iv 9=ρ.iv 9:=rfl
  have q10:(chg (ezE 3 i) ρ).iv 10=ρ.iv 10:=rfl
  have q11:(chg (ezE 3 i) ρ).iv 11=ρ.iv 11:=rfl
  have q12:(chg (ezE 3 i) ρ).iv 12=ρ.iv 12:=rfl
  have q13:(chg (ezE 3 i) ρ).iv 13=ρ.iv 13:=rfl
  have q14:(chg (ezE 3 i) ρ).iv 14=ρ.iv 14:=rfl
  have q15:(chg (ezE 3 i) ρ).iv 15=ρ.iv 15:=rfl
  have q16:(chg (ezE 3 i) ρ).iv 16=ρ.iv 16:=rfl
  have q17:(chg (ezE 3 i) ρ).iv 17=ρ.iv 17:=rfl
  have q18:(chg (ezE 3 i) ρ).iv 18=ρ.iv 18:=rfl
  have q19:(chg (ezE 3 i) ρ).iv 19=ρ.iv 19:=rfl
  have q20:(chg (ezE 3 i) ρ).iv 20=ρ.iv 20:=rfl
  have q21:(chg (ezE 3 i) ρ).iv 21=ρ.iv 21:=rfl
  have qp:∀ j,30≤j→(chg (ezE 3 i) ρ).iv j=ρ.iv j:=fun j hj=>by show (oneE 6 (upE 6 (lt 20)) j).den ρ=_; rw [oneE_ne (by omega)]; rfl
  have pt:∀ k,k < L→PartE (chg (ezE 3 i) ρ).iv (30 + 4 * k):=fun k hk=>by
    obtain ⟨p1,p2⟩:=hp k hk
    refine ⟨?_,?_⟩
    · rw [qp _ (by omega),qp _ (by omega)]; exact p1
    · rw [qp _ (by omega)]; exact p2
  have mins:∀ k,k < L→(chg (ezE 3 i) ρ).iv (31 + 4 * k)≤ρ.iv (31 + 4 * k):=fun k hk=>Int.le_of_eq (qp _ (by omega))
  have walks:∀ k,k < L→ρ.iv (33 + 4 * k)≤(chg (ezE 3 i) ρ).iv (33 + 4 * k):=fun k hk=>Int.le_of_eq (qp _ (by omega)).symm
  have cs':∀ c ∈ csV L,c.den (chg (ezE 3 i) ρ)=true:=cs_iff.2 ⟨by constructor <;> omega,pt⟩
  refine ⟨cs',ez_of hcs cs' rfl (fun r hr=>?_) (fun r hr=>?_) mins (fun q hq=>?_) walks (by omega) (by omega) (by omega) (by omega),by omega,by omega⟩
  · have hr':r=0 ∨ r=1:=by omega
    rcases hr' with rfl | rfl <;> simp only [Nat.add_zero,Nat.reduceAdd] <;> omega
  · have hr':r=0 ∨ r=1:=by omega
    rcases hr' with rfl | rfl <;> simp only [Nat.add_zero,Nat.reduceAdd] <;> omega
  · have hq':q=0 ∨ q=1 ∨ q=2 ∨ q=3:=by omega
    rcases hq' with rfl | rfl | rfl | rfl <;> simp only [Nat.mul_zero,Nat.add_zero,Nat.mul_one,Nat.reduceMul,Nat.reduceAdd] <;> omega
theorem good4:Good ρ (chg (ezE 4 i) ρ) L:=by
  obtain ⟨hb,hp⟩:=cs_iff.1 hcs
  obtain ⟨h1,h2,h3,h4,h6,h7,h8,h9,h10,h11,h12,h13,h14,h15,h16⟩:=hb
  have q0:(chg (ezE 4 i) ρ).iv 0=ρ.iv 0:=rfl
  have q1:(chg (ezE 4 i) ρ).iv 1=ρ.iv 1:=rfl
  have q2:(chg (ezE 4 i) ρ).iv 2=ρ.iv 2:=rfl
  have q3:(chg (ezE 4 i) ρ).iv 3=ρ.iv 3:=rfl
  have q4:(chg (ezE 4 i) ρ).iv 4=ρ.iv 4:=rfl
  have q5:(chg (ezE 4 i) ρ).iv 5=ρ.iv 5:=rfl
  have q6:(chg (ezE 4 i) ρ).iv 6=ρ.iv 6:=rfl
  have q7:(chg (ezE 4 i) ρ).iv 7=min (20) (ρ.iv 7 + ρ.iv 90):=up_den (j:=7) (hi:=(lt 20)) (by omega) h90
  have q8:(chg (ezE 4 i) ρ).iv 8=ρ.iv 8:=rfl
  have q9:(chg (ezE 4 i) ρ).iv 9=ρ.iv 9:=rfl
  have q10:(chg (ezE 4 i) ρ).iv 10=ρ.iv 10:=rfl
  have q11:(chg (ezE 4 i) ρ).iv 11=ρ.iv 11:=rfl
  have q12:(chg (ezE 4 i) ρ).iv 12=ρ.iv 12:=rfl
  have q13:(chg (ezE 4 i) ρ).iv 13=ρ.iv 13:=rfl
  have q14:(chg (ezE 4 i) ρ).iv 14=ρ.iv 14:=rfl
  have q15:(chg (ezE 4 i) ρ).iv 15=ρ.iv 15:=rfl
  have q16:(chg (ezE 4 i) ρ).iv 16=ρ.iv 16:=rfl
  have q17:(chg (ezE 4 i) ρ).iv 17=ρ.iv 17:=rfl
  have q18:(chg (ezE 4 i) ρ).iv 18=ρ.iv 18:=rfl
  have q19:(chg (ezE 4 i) ρ).iv 19=ρ.iv 19:=rfl
  have q20:(chg (ezE 4 i) ρ).iv 20=ρ.iv 20:=rfl
  have q21:(chg (ezE 4 i) ρ).iv 21=ρ.iv 21:=rfl
  have qp:∀ j,30≤j→(chg (ezE 4 i) ρ).iv j=ρ.iv j:=fun j hj=>by show (oneE 7 (upE 7 (lt 20)) j).den ρ=_; rw [oneE_ne (by omega)]; rfl
  have pt:∀ k,k < L→PartE (chg (ezE 4 i) ρ).iv (30 + 4 * k):=fun k hk=>by
    obtain ⟨p1,p2⟩:=hp k hk
    refine ⟨?_,?_⟩
    · rw [qp _ (by omega),qp _ (by omega)]; exact p1
    · rw [qp _ (by omega)]; exact p2
  have mins:∀ k,k < L→(chg (ezE 4 i) ρ).iv (31 + 4 * k)≤ρ.iv (31 + 4 * k):=fun k hk=>Int.le_of_eq (qp _ (by omega))
  have walks:∀ k,k < L→ρ.iv (33 + 4 * k)≤(chg (ezE 4 i) ρ).iv (33 + 4 * k):=fun k hk=>Int.le_of_eq (qp _ (by omega)).symm
  have cs':∀ c ∈ csV L,c.den (chg (ezE 4 i) ρ)=true:=cs_iff.2 ⟨by constructor <;> omega,pt⟩
  refine ⟨cs',ez_of hcs cs' rfl (fun r hr=>?_) (fun r hr=>?_) mins (fun q hq=>?_) walks (by omega) (by omega) (by omega) (by omega),by omega,by omega⟩
  · have hr':r=0 ∨ r=1:=by omega
    rcases hr' with rfl | rfl <;> simp only [Nat.add_zero,Nat.reduceAdd] <;> omega
  · have hr':r=0 ∨ r=1:=by omega
    rcases hr' with rfl | rfl <;> simp only [Nat.add_zero,Nat.reduceAdd] <;> omega
  · have hq':q=0 ∨ q=1 ∨ q=2 ∨ q=3:=by omega
    rcases hq' with rfl | rfl | rfl | rfl <;> simp only [Nat.mul_zero,Nat.add_zero,Nat.mul_one,Nat.reduceMul,Nat.reduceAdd] <;> omega
theorem good5 (hi:i < L):Good ρ (chg (ezE 5 i) ρ) L:=by
  obtain ⟨hb,hp⟩:=cs_iff.1 hcs
  obtain ⟨h1,h2,h3,h4,h6,h7,h8,h9,h10,h11,h12,h13,h14,h15,h16⟩:=hb
  have q0:(chg (ezE 5 i) ρ).iv 0=ρ.iv 0:=by show (oneE (33 + 4 * i) (upE (33 + 4 * i) (lt 5)) 0).den ρ=_; rw [oneE_ne (by omega)]; rfl
  have q1:(chg (ezE 5 i) ρ).iv 1=ρ.iv 1:=by show (oneE (33 + 4 * i) (upE (33 + 4 * i) (lt 5)) 1).den ρ=_; rw [oneE_ne (by omega)]; rfl
  have q2:(chg (ezE 5 i) ρ).iv 2=ρ.iv 2:=by show (oneE (33 + 4 * i) (upE (33 + 4 * i) (lt 5)) 2).den ρ=_; rw [oneE_ne (by omega)]; rfl
  have q3:(chg (ezE 5 i) ρ).iv 3=ρ.iv 3:=by show (oneE (33 + 4 * i) (upE (33 + 4 * i) (lt 5)) 3).den ρ=_; rw [oneE_ne (by omega)]; rfl
  have q4:(chg (ezE 5 i) ρ).iv 4=ρ.iv 4:=by show (oneE (33 + 4 * i) (upE (33 + 4 * i) (lt 5)) 4).den ρ=_; rw [oneE_ne (by omega)]; rfl
  have q5:(chg (ezE 5 i) ρ).iv 5=ρ.iv 5:=by show (oneE (33 + 4 * i) (upE (33 + 4 * i) (lt 5)) 5).den ρ=_; rw [oneE_ne (by omega)]; rfl
  have q6:(chg (ezE 5 i) ρ).iv 6=ρ.iv 6:=by show (oneE (33 + 4 * i) (upE (33 + 4 * i) (lt 5)) 6).den ρ=_; rw [oneE_ne (by omega)]; rfl
  have q7:(chg (ezE 5 i) ρ).iv 7=ρ.iv 7:=by show (oneE (33 + 4 * i) (upE (33 + 4 * i) (lt 5)) 7).den ρ=_; rw [oneE_ne (by omega)]; rfl
  have q8:(chg (ezE 5 i) ρ).iv 8=ρ.iv 8:=by show (oneE (33 + 4 * i) (upE (33 + 4 * i) (lt 5)) 8).den ρ=_; rw [oneE_ne (by omega)]; rfl
  have q9:(chg (ezE 5 i) ρ).iv 9=ρ.iv 9:=by show (oneE (33 + 4 * i) (upE (33 + 4 * i) (lt 5)) 9).den ρ=_; rw [oneE_ne (by omega)]; rfl
  have q10:(chg (ezE 5 i) ρ).iv 10=ρ.iv 10:=by show (oneE (33 + 4 * i) (upE (33 + 4 * i) (lt 5)) 10).den ρ=_; rw [oneE_ne (by omega)]; rfl
  have q11:(chg (ezE 5 i) ρ).iv 11=ρ.iv 11:=by show (oneE (33 + 4 * i) (upE (33 + 4 * i) (lt 5)) 11).den ρ=_; rw [oneE_ne (by omega)]; rfl
  have q12:(chg (ezE 5 i) ρ).iv 12=ρ.iv 12:=by show (oneE (33 + 4 * i) (upE (33 + 4 * i) (lt 5)) 12).den ρ=_; rw [oneE_ne (by omega)]; rfl
  have q13:(chg (ezE 5 i) ρ).iv 13=ρ.iv 13:=by show (oneE (33 + 4 * i) (upE (33 + 4 * i) (lt 5)) 13).den ρ=_; rw [oneE_ne (by omega)]; rfl
  have q14:(chg (ezE 5 i) ρ).iv 14=ρ.iv 14:=by show (oneE (33 + 4 * i) (upE (33 + 4 * i) (lt 5)) 14).den ρ=_; rw [oneE_ne (by omega)]; rfl
  have q15:(chg (ezE 5 i) ρ).iv 15=ρ.iv 15:=by show (oneE (33 + 4 * i) (upE (33 + 4 * i) (lt 5)) 15).den ρ=_; rw [oneE_ne (by omega)]; rfl
  have q16:(chg (ezE 5 i) ρ).iv 16=ρ.iv 16:=by show (oneE (33 + 4 * i) (upE (33 + 4 * i) (lt 5)) 16).den ρ=_; rw [oneE_ne (by omega)]; rfl
  have q17:(chg (ezE 5 i) ρ).iv 17=ρ.iv 17:=by show (oneE (33 + 4 * i) (upE (33 + 4 * i) (lt 5)) 17).den ρ=_; rw [oneE_ne (by omega)]; rfl
  have q18:(chg (ezE 5 i) ρ).iv 18=ρ.iv 18:=by show (oneE (33 + 4 * i) (upE (33 + 4 * i) (lt 5)) 18).den ρ=_; rw [oneE_ne (by omega)]; rfl
  have q19:(chg (ezE 5 i) ρ).iv 19=ρ.iv 19:=by show (oneE (33 + 4 * i) (upE (33 + 4 * i) (lt 5)) 19).den ρ=_; rw [oneE_ne (by omega)]; rfl
  have q20:(chg (ezE 5 i) ρ).iv 20=ρ.iv 20:=by show (oneE (33 + 4 * i) (upE (33 + 4 * i) (lt 5)) 20).den ρ=_; rw [oneE_ne (by omega)]; rfl
  have q21:(chg (ezE 5 i) ρ).iv 21=ρ.iv 21:=by show (oneE (33 + 4 * i) (upE (33 + 4 * i) (lt 5)) 21).den ρ=_; rw [oneE_ne (by omega)]; rfl
  have qp:∀ j,j ≠ 33 + 4 * i→(chg (ezE 5 i) ρ).iv j=ρ.iv j:=fun j hj=>by show (oneE (33 + 4 * i) (upE (33 + 4 * i) (lt 5)) j).den ρ=_; rw [oneE_ne hj]; rfl
  have pi:=hp i hi
  obtain ⟨pi1,pi2⟩:=pi
  rw [show 30 + 4 * i + 1=31 + 4 * i by omega] at pi1
  rw [show 30 + 4 * i + 3=33 + 4 * i by omega] at pi2
  have qi:(chg (ezE 5 i) ρ).iv (33 + 4 * i)=min 5 (ρ.iv (33 + 4 * i) + ρ.iv 90):=by
    show (oneE (33 + 4 * i) (upE (33 + 4 * i) (lt 5)) (33 + 4 * i)).den ρ=_
    rw [oneE_at]; exact up_den (by omega) h90
  have pt:∀ k,k < L→PartE (chg (ezE 5 i) ρ).iv (30 + 4 * k):=fun k hk=>by
    obtain ⟨p1,p2⟩:=hp k hk
    refine ⟨by rw [qp _ (by omega),qp _ (by omega)]; exact p1,?_⟩
    by_cases e:k=i
    · subst e; rw [show 30 + 4 * k + 3=33 + 4 * k by omega,qi]; omega
    · rw [qp _ (by omega)]; exact p2
  have mins:∀ k,k < L→(chg (ezE 5 i) ρ).iv (31 + 4 * k)≤ρ.iv (31 + 4 * k):=fun k hk=>Int.le_of_eq (qp _ (by omega))
  have walks:∀ k,k < L→ρ.iv (33 + 4 * k)≤(chg (ezE 5 i) ρ).iv (33 + 4 * k):=fun k hk=>by
    by_cases e:k=i
    · subst e; rw [qi]; omega
    · exact Int.le_of_eq (qp _ (by omega)).symm
  have cs':∀ c ∈ csV L,c.den (chg (ezE 5 i) ρ)=true:=cs_iff.2 ⟨by constructor <;> omega,pt⟩
  refine ⟨cs',ez_of hcs cs' rfl (fun r hr=>?_) (fun r hr=>?_) mins (fun q hq=>?_) walks (by omega) (by omega) (by omega) (by omega),by omega,by omega⟩
  · have hr':r=0 ∨ r=1:=by omega
    rcases hr' with rfl | rfl <;> simp only [Nat.add_zero,Nat.reduceAdd] <;> omega
  · have hr':r=0 ∨ r=1:=by omega
    rcases hr' with rfl | rfl <;> simp only [Nat.add_zero,Nat.reduceAdd] <;> omega
  · have hq':q=0 ∨ q=1 ∨ q=2 ∨ q=3:=by omega
    rcases hq' with rfl | rfl | rfl | rfl <;> simp only [Nat.mul_zero,Nat.add_zero,Nat.mul_one,Nat.reduceMul,Nat.reduceAdd] <;> omega
theorem good6 (hi:i < L):Good ρ (chg (ezE 6 i) ρ) L:=by
  obtain ⟨hb,hp⟩:=cs_iff.1 hcs
  obtain ⟨h1,h2,h3,h4,h6,h7,h8,h9,h10,h11,h12,h13,h14,h15,h16⟩:=hb
  have q0:(chg (ezE 6 i) ρ).iv 0=ρ.iv 0:=by show (oneE (31 + 4 * i) (dnE (.var (30 + 4 * i)) (31 + 4 * i)) 0).den ρ=_; rw [oneE_ne (by omega)]; rfl
  have q1:(chg (ezE 6 i) ρ).iv 1=ρ.iv 1:=by show (oneE (31 + 4 * i) (dnE (.var (30 + 4 * i)) (31 + 4 * i)) 1).den ρ=_; rw [oneE_ne (by omega)]; rfl
  have q2:(chg (ezE 6 i) ρ).iv 2=ρ.iv 2:=by show (oneE (31 + 4 * i) (dnE (.var (30 + 4 * i)) (31 + 4 * i)) 2).den ρ=_; rw [oneE_ne (by omega)]; rfl
  have q3:(chg (ezE 6 i) ρ).iv 3=ρ.iv 3:=by show (oneE (31 + 4 * i) (dnE (.var (30 + 4 * i)) (31 + 4 * i)) 3).den ρ=_; rw [oneE_ne (by omega)]; rfl
  have q4:(chg (ezE 6 i) ρ).iv 4=ρ.iv 4:=by show (oneE (31 + 4 * i) (dnE (.var (30 + 4 * i)) (31 + 4 * i)) 4).den ρ=_; rw [oneE_ne (by omega)]; rfl
  have q5:(chg (ezE 6 i) ρ).iv 5=ρ.iv 5:=by show (oneE (31 + 4 * i) (dnE (.var (30 + 4 * i)) (31 + 4 * i)) 5).den ρ=_; rw [oneE_ne (by omega)]; rfl
  have q6:(chg (ezE 6 i) ρ).iv 6=ρ.iv 6:=by show (oneE (31 + 4 * i) (dnE (.var (30 + 4 * i)) (31 + 4 * i)) 6).den ρ=_; rw [oneE_ne (by omega)]; rfl
  have q7:(chg (ezE 6 i) ρ).iv 7=ρ.iv 7:=by show (oneE (31 + 4 * i) (dnE (.var (30 + 4 * i)) (31 + 4 * i)) 7).den ρ=_; rw [oneE_ne (by omega)]; rfl
  have q8:(chg (ezE 6 i) ρ).iv 8=ρ.iv 8:=by show (oneE (31 + 4 * i) (dnE (.var (30 + 4 * i)) (31 + 4 * i)) 8).den ρ=_; rw [oneE_ne (by omega)]; rfl
  have q9:(chg (ezE 6 i) ρ).iv 9=ρ.iv 9:=by show (oneE (31 + 4 * i) (dnE (.var (30 + 4 * i)) (31 + 4 * i)) 9).den ρ=_; rw [oneE_ne (by omega)]; rfl
  have q10:(chg (ezE 6 i) ρ).iv 10=ρ.iv 10:=by show (oneE (31 + 4 * i) (dnE (.var (30 + 4 * i)) (31 + 4 * i)) 10).den ρ=_; rw [oneE_ne (by omega)]; rfl
  have q11:(chg (ezE 6 i) ρ).iv 11=ρ.iv 11:=by show (oneE (31 + 4 * i) (dnE (.var (30 + 4 * i)) (31 + 4 * i)) 11).den ρ=_; rw [oneE_ne (by omega)]; rfl
  have q12:(chg (ezE 6 i) ρ).iv 12=ρ.iv 12:=by show (oneE (31 + 4 * i) (dnE (.var (30 + 4 * i)) (31 + 4 * i)) 12).den ρ=_; rw [oneE_ne (by omega)]; rfl
  have q13:(chg (ezE 6 i) ρ).iv 13=ρ.iv 13:=by show (oneE (31 + 4 * i) (dnE (.var (30 + 4 * i)) (31 + 4 * i)) 13).den ρ=_; rw [oneE_ne (by omega)]; rfl
  have q14:(chg (ezE 6 i) ρ).iv 14=ρ.iv 14:=by show (oneE (31 + 4 * i) (dnE (.var (30 + 4 * i)) (31 + 4 * i)) 14).den ρ=_; rw [oneE_ne (by omega)]; rfl
  have q15:(chg (ezE 6 i) ρ).iv 15=ρ.iv 15:=by show (oneE (31 + 4 * i) (dnE (.var (30 + 4 * i)) (31 + 4 * i)) 15).den ρ=_; rw [oneE_ne (by omega)]; rfl
  have q16:(chg (ezE 6 i) ρ).iv 16=ρ.iv 16:=by show (oneE (31 + 4 * i) (dnE (.var (30 + 4 * i)) (31 + 4 * i)) 16).den ρ=_; rw [oneE_ne (by omega)]; rfl
  have q17:(chg (ezE 6 i) ρ).iv 17=ρ.iv 17:=by show (oneE (31 + 4 * i) (dnE (.var (30 + 4 * i)) (31 + 4 * i)) 17).den ρ=_; rw [oneE_ne (by omega)]; rfl
  have q18:(chg (ezE 6 i) ρ).iv 18=ρ.iv 18:=by show (oneE (31 + 4 * i) (dnE (.var (30 + 4 * i)) (31 + 4 * i)) 18).den ρ=_; rw [oneE_ne (by omega)]; rfl
  have q19:(chg (ezE 6 i) ρ).iv 19=ρ.iv 19:=by show (oneE (31 + 4 * i) (dnE (.var (30 + 4 * i)) (31 + 4 * i)) 19).den ρ=_; rw [oneE_ne (by omega)]; rfl
  have q20:(chg (ezE 6 i) ρ).iv 20=ρ.iv 20:=by show (oneE (31 + 4 * i) (dnE (.var (30 + 4 * i)) (31 + 4 * i)) 20).den ρ=_; rw [oneE_ne (by omega)]; rfl
  have q21:(chg (ezE 6 i) ρ).iv 21=ρ.iv 21:=by show (oneE (31 + 4 * i) (dnE (.var (30 + 4 * i)) (31 + 4 * i)) 21).den ρ=_; rw [oneE_ne (by omega)]; rfl
  have qp:∀ j,j ≠ 31 + 4 * i→(chg (ezE 6 i) ρ).iv j=ρ.iv j:=fun j hj=>by show (oneE (31 + 4 * i) (dnE (.var (30 + 4 * i)) (31 + 4 * i)) j).den ρ=_; rw [oneE_ne hj]; rfl
  have pi:=hp i hi
  obtain ⟨pi1,pi2⟩:=pi
  rw [show 30 + 4 * i + 1=31 + 4 * i by omega] at pi1
  rw [show 30 + 4 * i + 3=33 + 4 * i by omega] at pi2
  have qi:(chg (ezE 6 i) ρ).iv (31 + 4 * i)=max (ρ.iv (30 + 4 * i)) (ρ.iv (31 + 4 * i) - ρ.iv 90):=by
    show (oneE (31 + 4 * i) (dnE (.var (30 + 4 * i)) (31 + 4 * i)) (31 + 4 * i)).den ρ=_
    rw [oneE_at]; exact dn_den (by omega) h90
  have pt:∀ k,k < L→PartE (chg (ezE 6 i) ρ).iv (30 + 4 * k):=fun k hk=>by
    obtain ⟨p1,p2⟩:=hp k hk
    refine ⟨?_,by rw [qp _ (by omega)]; exact p2⟩
    rw [qp (30 + 4 * k) (by omega)]
    by_cases e:k=i
    · subst e; rw [show 30 + 4 * k + 1=31 + 4 * k by omega,qi]; omega
    · rw [qp _ (by omega)]; exact p1
  have mins:∀ k,k < L→(chg (ezE 6 i) ρ).iv (31 + 4 * k)≤ρ.iv (31 + 4 * k):=fun k hk=>by
    by_cases e:k=i
    · subst e; rw [qi]; omega
    · exact Int.le_of_eq (qp _ (by omega))
  have walks:∀ k,k < L→ρ.iv (33 + 4 * k)≤(chg (ezE 6 i) ρ).iv (33 + 4 * k):=fun k hk=>Int.le_of_eq (qp _ (by omega)).symm
  have cs':∀ c ∈ csV L,c.den (chg (ezE 6 i) ρ)=true:=cs_iff.2 ⟨by constructor <;> omega,pt⟩
  refine ⟨cs',ez_of hcs cs' rfl (fun r hr=>?_) (fun r hr=>?_) mins (fun q hq=>?_) walks (by omega) (by omega) (by omega) (by omega),by omega,by omega⟩
  · have hr':r=0 ∨ r=1:=by omega
    rcases hr' with rfl | rfl <;> simp only [Nat.add_zero,Nat.reduceAdd] <;> omega
  · have hr':r=0 ∨ r=1:=by omega
    rcases hr' with rfl | rfl <;> simp only [Nat.add_zero,Nat.reduceAdd] <;> omega
  · have hq':q=0 ∨ q=1 ∨ q=2 ∨ q=3:=by omega
    rcases hq' with rfl | rfl | rfl | rfl <;> simp only [Nat.mul_zero,Nat.add_zero,Nat.mul_one,Nat.reduceMul,Nat.reduceAdd] <;> omega
theorem good7:Good ρ (chg (ezE 7 i) ρ) L:=by
  obtain ⟨hb,hp⟩:=cs_iff.1 hcs
  obtain ⟨h1,h2,h3,h4,h6,h7,h8,h9,h10,h11,h12,h13,h14,h15,h16⟩:=hb
  have q0:(chg (ezE 7 i) ρ).iv 0=ρ.iv 0:=rfl
  have q1:(chg (ezE 7 i) ρ).iv 1=ρ.iv 1:=rfl
  have q2:(chg (ezE 7 i) ρ).iv 2=ρ.iv 2:=rfl
  have q3:(chg (ezE 7 i) ρ).iv 3=ρ.iv 3:=rfl
  have q4:(chg (ezE 7 i) ρ).iv 4=ρ.iv 4:=rfl
  have q5:(chg (ezE 7 i) ρ).iv 5=ρ.iv 5:=rfl
  have q6:(chg (ezE 7 i) ρ).iv 6=ρ.iv 6:=rfl
  have q7:(chg (ezE 7 i) ρ).iv 7=ρ.iv 7:=rfl
  have q8:(chg (ezE 7 i) ρ).iv 8=ρ.iv 8:=rfl
  have q9:(chg (ezE 7 i) ρ).iv 9=ρ.iv 9:=rfl
  have q10:(chg (ezE 7 i) ρ).iv 10=ρ.iv 10:=rfl
  have q11:(chg (ezE 7 i) ρ).iv 11=ρ.iv 11:=rfl
  have q12:(chg (ezE 7 i) ρ).iv 12=ρ.iv 12:=rfl
  have q13:(chg (ezE 7 i) ρ).iv 13=ρ.iv 13:=rfl
  have q14:(chg (ezE 7 i) ρ).iv 14=ρ.iv 14:=rfl
  have q15:(chg (ezE 7 i) ρ).iv 15=ρ.iv 15:=rfl
  have q16:(chg (ezE 7 i) ρ).iv 16=ρ.iv 16:=rfl
  have q17:(chg (ezE 7 i) ρ).iv 17=ρ.iv 17:=rfl
  have q18:(chg (ezE 7 i) ρ).iv 18=ρ.iv 18:=rfl
  have q19:(chg (ezE 7 i) ρ).iv 19=ρ.iv 19:=rfl
  have q20:(chg (ezE 7 i) ρ).iv 20=ρ.iv 20:=rfl
  have q21:(chg (ezE 7 i) ρ).iv 21=max (0) (ρ.iv 21 - ρ.iv 90):=dn_den (j:=21) (lo:=(lt 0)) (by omega) h90
  have qp:∀ j,30≤j→(chg (ezE 7 i) ρ).iv j=ρ.iv j:=fun j hj=>by show (oneE 21 (dnE (lt 0) 21) j).den ρ=_; rw [oneE_ne (by omega)]; rfl
  have pt:∀ k,k < L→PartE (chg (ezE 7 i) ρ).iv (30 + 4 * k):=fun k hk=>by
    obtain ⟨p1,p2⟩:=hp k hk
    refine ⟨?_,?_⟩
    · rw [qp _ (by omega),qp _ (by omega)]; exact p1
    · rw [qp _ (by omega)]; exact p2
  have mins:∀ k,k < L→(chg (ezE 7 i) ρ).iv (31 + 4 * k)≤ρ.iv (31 + 4 * k):=fun k hk=>Int.le_of_eq (qp _ (by omega))
  have walks:∀ k,k < L→ρ.iv (33 + 4 * k)≤(chg (ezE 7 i) ρ).iv (33 + 4 * k):=fun k hk=>Int.le_of_eq (qp _ (by omega)).symm
  have cs':∀ c ∈ csV L,c.den (chg (ezE 7 i) ρ)=true:=cs_iff.2 ⟨by constructor <;> omega,pt⟩
  refine ⟨cs',ez_of hcs cs' rfl (fun r hr=>?_) (fun r hr=>?_) mins (fun q hq=>?_) walks (by omega) (by omega) (by omega) (by omega),by omega,by omega⟩
  · have hr':r=0 ∨ r=1:=by omega
    rcases hr' with rfl | rfl <;> simp only [Nat.add_zero,Nat.reduceAdd] <;> omega
  · have hr':r=0 ∨ r=1:=by omega
    rcases hr' with rfl | rfl <;> simp only [Nat.add_zero,Nat.reduceAdd] <;> omega
  · have hq':q=0 ∨ q=1 ∨ q=2 ∨ q=3:=by omega
    rcases hq' with rfl | rfl | rfl | rfl <;> simp only [Nat.mul_zero,Nat.add_zero,Nat.mul_one,Nat.reduceMul,Nat.reduceAdd] <;> omega
theorem good8:Good ρ (chg (ezE 8 i) ρ) L:=by
  obtain ⟨hb,hp⟩:=cs_iff.1 hcs
  obtain ⟨h1,h2,h3,h4,h6,h7,h8,h9,h10,h11,h12,h13,h14,h15,h16⟩:=hb
  have q0:(chg (ezE 8 i) ρ).iv 0=ρ.iv 0:=rfl
  have q1:(chg (ezE 8 i) ρ).iv 1=ρ.iv 1:=rfl
  have q2:(chg (ezE 8 i) ρ).iv 2=ρ.iv 2:=rfl
  have q3:(chg (ezE 8 i) ρ).iv 3=ρ.iv 3:=rfl
  have q4:(chg (ezE 8 i) ρ).iv 4=ρ.iv 4:=rfl
  have q5:(chg (ezE 8 i) ρ).iv 5=ρ.iv 5:=rfl
  have q6:(chg (ezE 8 i) ρ).iv 6=ρ.iv 6:=rfl
  have q7:(chg (ezE 8 i) ρ).iv 7=ρ.iv 7:=rfl
  have q8:(chg (ezE 8 i) ρ).iv 8=ρ.iv 8:=rfl
  have q9:(chg (ezE 8 i) ρ).iv 9=ρ.iv 9:=rfl
  have q10:(chg (ezE 8 i) ρ).iv 10=ρ.iv 10:=rfl
  have q11:(chg (ezE 8 i) ρ).iv 11=ρ.iv 11:=rfl
  have q12:(chg (ezE 8 i) ρ).iv 12=ρ.iv 12:=rfl
  have q13:(chg (ezE 8 i) ρ).iv 13=ρ.iv 13:=rfl
  have q14:(chg (ezE 8 i) ρ).iv 14=ρ.iv 14:=rfl
  have q15:(chg (ezE 8 i) ρ).iv 15=ρ.iv 15:=rfl
  have q16:(chg (ezE 8 i) ρ).iv 16=ρ.iv 16:=rfl
  have q17:(chg (ezE 8 i) ρ).iv 17=ρ.iv 17:=rfl
  have q18:(chg (ezE 8 i) ρ).iv 18=ρ.iv 18:=rfl
  have q19:(chg (ezE 8 i) ρ).iv 19=ρ.iv 19:=rfl
  have q20:(chg (ezE 8 i) ρ).iv 20=max (0) (ρ.iv 20 - ρ.iv 90):=dn_den (j:=20) (lo:=(lt 0)) (by omega) h90
  have q21:(chg (ezE 8 i) ρ).iv 21=ρ.iv 21:=rfl
  have qp:∀ j,30≤j→(chg (ezE 8 i) ρ).iv j=ρ.iv j:=fun j hj=>by show (oneE 20 (dnE (lt 0) 20) j).den ρ=_; rw [oneE_ne (by omega)]; rfl
  have pt:∀ k,k < L→PartE (chg (ezE 8 i) ρ).iv (30 + 4 * k):=fun k hk=>by
    obtain ⟨p1,p2⟩:=hp k hk
    refine ⟨?_,?_⟩
    · rw [qp _ (by omega),qp _ (by omega)]; exact p1
    · rw [qp _ (by omega)]; exact p2
  have mins:∀ k,k < L→(chg (ezE 8 i) ρ).iv (31 + 4 * k)≤ρ.iv (31 + 4 * k):=fun k hk=>Int.le_of_eq (qp _ (by omega))
  have walks:∀ k,k < L→ρ.iv (33 + 4 * k)≤(chg (ezE 8 i) ρ).iv (33 + 4 * k):=fun k hk=>Int.le_of_eq (qp _ (by omega)).symm
  have cs':∀ c ∈ csV L,c.den (chg (ezE 8 i) ρ)=true:=cs_iff.2 ⟨by constructor <;> omega,pt⟩
  refine ⟨cs',ez_of hcs cs' rfl (fun r hr=>?_) (fun r hr=>?_) mins (fun q hq=>?_) walks (by omega) (by omega) (by omega) (by omega),by omega,by omega⟩
  · have hr':r=0 ∨ r=1:=by omega
    rcases hr' with rfl | rfl <;> simp only [Nat.add_zero,Nat.reduceAdd] <;> omega
  · have hr':r=0 ∨ r=1:=by omega
    rcases hr' with rfl | rfl <;> simp only [Nat.add_zero,Nat.reduceAdd] <;> omega
  · have hq':q=0 ∨ q=1 ∨ q=2 ∨ q=3:=by omega
    rcases hq' with rfl | rfl | rfl | rfl <;> simp only [Nat.mul_zero,Nat.add_zero,Nat.mul_one,Nat.reduceMul,Nat.reduceAdd] <;> omega
omit h90 in
theorem good9:Good ρ (chg (ezE 9 i) ρ) L:=by
  obtain ⟨hb,hp⟩:=cs_iff.1 hcs
  obtain ⟨h1,h2,h3,h4,h6,h7,h8,h9,h10,h11,h12,h13,h14,h15,h16⟩:=hb
  have q0:(chg (ezE 9 i) ρ).iv 0=ρ.iv 0:=rfl
  have q1:(chg (ezE 9 i) ρ).iv 1=ρ.iv 1:=rfl
  have q2:(chg (ezE 9 i) ρ).iv 2=ρ.iv 2:=rfl
  have q3:(chg (ezE 9 i) ρ).iv 3=ρ.iv 3:=rfl
  have q4:(chg (ezE 9 i) ρ).iv 4=ρ.iv 4:=rfl
  have q5:(chg (ezE 9 i) ρ).iv 5=ρ.iv 5:=rfl
  have q6:(chg (ezE 9 i) ρ).iv 6=ρ.iv 6:=rfl
  have q7:(chg (ezE 9 i) ρ).iv 7=ρ.iv 7:=rfl
  have q8:(chg (ezE 9 i) ρ).iv 8=ρ.iv 8:=rfl
  have q9:(chg (ezE 9 i) ρ).iv 9=ρ.iv 8:=rfl
  have q10:(chg (ezE 9 i) ρ).iv 10=ρ.iv 10:=rfl
  have q11:(chg (ezE 9 i) ρ).iv 11=ρ.iv 11:=rfl
  have q12:(chg (ezE 9 i) ρ).iv 12=ρ.iv 12:=rfl
  have q13:(chg (ezE 9 i) ρ).iv 13=ρ.iv 12:=rfl
  have q14:(chg (ezE 9 i) ρ).iv 14=ρ.iv 14:=rfl
  have q15:(chg (ezE 9 i) ρ).iv 15=ρ.iv 15:=rfl
  have q16:(chg (ezE 9 i) ρ).iv 16=ρ.iv 16:=rfl
  have q17:(chg (ezE 9 i) ρ).iv 17=ρ.iv 17:=rfl
  have q18:(chg (ezE 9 i) ρ).iv 18=ρ.iv 18:=rfl
  have q19:(chg (ezE 9 i) ρ).iv 19=ρ.iv 19:=rfl
  have q20:(chg (ezE 9 i) ρ).iv 20=ρ.iv 20:=rfl
  have q21:(chg (ezE 9 i) ρ).iv 21=ρ.iv 21:=rfl
  have qp:∀ j,30≤j→(chg (ezE 9 i) ρ).iv j=ρ.iv j:=fun j hj=>by show (twoE 9 (.var 8) 13 (.var 12) j).den ρ=_; rw [twoE_ne (by omega) (by omega)]; rfl
  have pt:∀ k,k < L→PartE (chg (ezE 9 i) ρ).iv (30 + 4 * k):=fun k hk=>by
    obtain ⟨p1,p2⟩:=hp k hk
    refine ⟨?_,?_⟩
    · rw [qp _ (by omega),qp _ (by omega)]; exact p1
    · rw [qp _ (by omega)]; exact p2
  have mins:∀ k,k < L→(chg (ezE 9 i) ρ).iv (31 + 4 * k)≤ρ.iv (31 + 4 * k):=fun k hk=>Int.le_of_eq (qp _ (by omega))
  have walks:∀ k,k < L→ρ.iv (33 + 4 * k)≤(chg (ezE 9 i) ρ).iv (33 + 4 * k):=fun k hk=>Int.le_of_eq (qp _ (by omega)).symm
  have cs':∀ c ∈ csV L,c.den (chg (ezE 9 i) ρ)=true:=cs_iff.2 ⟨by constructor <;> omega,pt⟩
  refine ⟨cs',ez_of hcs cs' rfl (fun r hr=>?_) (fun r hr=>?_) mins (fun q hq=>?_) walks (by omega) (by omega) (by omega) (by omega),by omega,by omega⟩
  · have hr':r=0 ∨ r=1:=by omega
    rcases hr' with rfl | rfl <;> simp only [Nat.add_zero,Nat.reduceAdd] <;> omega
  · have hr':r=0 ∨ r=1:=by omega
    rcases hr' with rfl | rfl <;> simp only [Nat.add_zero,Nat.reduceAdd] <;> omega
  · have hq':q=0 ∨ q=1 ∨ q=2 ∨ q=3:=by omega
    rcases hq' with rfl | rfl | rfl | rfl <;> simp only [Nat.mul_zero,Nat.add_zero,Nat.mul_one,Nat.reduceMul,Nat.reduceAdd] <;> omega
omit h90 in
theorem good10:Good ρ (chg (ezE 10 i) ρ) L:=by
  obtain ⟨hb,hp⟩:=cs_iff.1 hcs
  obtain ⟨h1,h2,h3,h4,h6,h7,h8,h9,h10,h11,h12,h13,h14,h15,h16⟩:=hb
  have q0:(chg (ezE 10 i) ρ).iv 0=ρ.iv 0:=rfl
  have q1:(chg (ezE 10 i) ρ).iv 1=ρ.iv 1:=rfl
  have q2:(chg (ezE 10 i) ρ).iv 2=ρ.iv 2:=rfl
  have q3:(chg (ezE 10 i) ρ).iv 3=ρ.iv 3:=rfl
  have q4:(chg (ezE 10 i) ρ).iv 4=ρ.iv 4:=rfl
  have q5:(chg (ezE 10 i) ρ).iv 5=ρ.iv 5:=rfl
  have q6:(chg (ezE 10 i) ρ).iv 6=ρ.iv 6:=rfl
  have q7:(chg (ezE 10 i) ρ).iv 7=ρ.iv 7:=rfl
  have q8:(chg (ezE 10 i) ρ).iv 8=ρ.iv 8:=rfl
  have q9:(chg (ezE 10 i) ρ).iv 9=ρ.iv 9:=rfl
  have q10:(chg (ezE 10 i) ρ).iv 10=ρ.iv 10:=rfl
  have q11:(chg (ezE 10 i) ρ).iv 11=ρ.iv 10:=rfl
  have q12:(chg (ezE 10 i) ρ).iv 12=ρ.iv 12:=rfl
  have q13:(chg (ezE 10 i) ρ).iv 13=ρ.iv 13:=rfl
  have q14:(chg (ezE 10 i) ρ).iv 14=ρ.iv 14:=rfl
  have q15:(chg (ezE 10 i) ρ).iv 15=ρ.iv 14:=rfl
  have q16:(chg (ezE 10 i) ρ).iv 16=ρ.iv 16:=rfl
  have q17:(chg (ezE 10 i) ρ).iv 17=ρ.iv 17:=rfl
  have q18:(chg (ezE 10 i) ρ).iv 18=ρ.iv 18:=rfl
  have q19:(chg (ezE 10 i) ρ).iv 19=ρ.iv 19:=rfl
  have q20:(chg (ezE 10 i) ρ).iv 20=ρ.iv 20:=rfl
  have q21:(chg (ezE 10 i) ρ).iv 21=ρ.iv 21:=rfl
  have qp:∀ j,30≤j→(chg (ezE 10 i) ρ).iv j=ρ.iv j:=fun j hj=>by show (twoE 11 (.var 10) 15 (.var 14) j).den ρ=_; rw [twoE_ne (by omega) (by omega)]; rfl
  have pt:∀ k,k < L→PartE (chg (ezE 10 i) ρ).iv (30 + 4 * k):=fun k hk=>by
    obtain ⟨p1,p2⟩:=hp k hk
    refine ⟨?_,?_⟩
    · rw [qp _ (by omega),qp _ (by omega)]; exact p1
    · rw [qp _ (by omega)]; exact p2
  have mins:∀ k,k < L→(chg (ezE 10 i) ρ).iv (31 + 4 * k)≤ρ.iv (31 + 4 * k):=fun k hk=>Int.le_of_eq (qp _ (by omega))
  have walks:∀ k,k < L→ρ.iv (33 + 4 * k)≤(chg (ezE 10 i) ρ).iv (33 + 4 * k):=fun k hk=>Int.le_of_eq (qp _ (by omega)).symm
  have cs':∀ c ∈ csV L,c.den (chg (ezE 10 i) ρ)=true:=cs_iff.2 ⟨by constructor <;> omega,pt⟩
  refine ⟨cs',ez_of hcs cs' rfl (fun r hr=>?_) (fun r hr=>?_) mins (fun q hq=>?_) walks (by omega) (by omega) (by omega) (by omega),by omega,by omega⟩
  · have hr':r=0 ∨ r=1:=by omega
    rcases hr' with rfl | rfl <;> simp only [Nat.add_zero,Nat.reduceAdd] <;> omega
  · have hr':r=0 ∨ r=1:=by omega
    rcases hr' with rfl | rfl <;> simp only [Nat.add_zero,Nat.reduceAdd] <;> omega
  · have hq':q=0 ∨ q=1 ∨ q=2 ∨ q=3:=by omega
    rcases hq' with rfl | rfl | rfl | rfl <;> simp only [Nat.mul_zero,Nat.add_zero,Nat.mul_one,Nat.reduceMul,Nat.reduceAdd] <;> omega
theorem good_any (hi:i < L) {t:Nat} (ht:t≤10):Good ρ (chg (ezE t i) ρ) L:=by
  match t,ht with
  | 0,_=>exact good0 hcs h90
  | 1,_=>exact good1 hcs h90
  | 2,_=>exact good2 hcs h90
  | 3,_=>exact good3 hcs h90
  | 4,_=>exact good4 hcs h90
  | 5,_=>exact good5 hcs h90 hi
  | 6,_=>exact good6 hcs h90 hi
  | 7,_=>exact good7 hcs h90
  | 8,_=>exact good8 hcs h90
  | 9,_=>exact good9 hcs
  | 10,_=>exact good10 hcs
end
end Go.Sx
