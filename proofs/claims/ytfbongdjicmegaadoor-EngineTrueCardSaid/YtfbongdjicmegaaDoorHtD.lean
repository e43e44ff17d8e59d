/- HtD -/
import Derived.Test.YtfbongdjicmegaaDoorHtA
import Derived.Test.YtfbongdjicmegaaDoorHaK
import Derived.Test.YtfbongdjicmegaaDoorHaK5
import Derived.Test.YtfbongdjicmegaaDoorHtK
import Derived.Test.YtfbongdjicmegaaDoorHtK4
import Derived.Test.YtfbongdjicmegaaDoorHtK50
import Derived.Test.YtfbongdjicmegaaDoorHtK53
namespace Go.Sx
open Go.RowKit Go.Proofs
set_option maxRecDepth 100000
theorem ckT_at {L:Nat} (h1:1≤L) (h5:L≤5):ckT L=true:=by
  rcases Nat.lt_or_ge L 5 with h | h
  · exact aw ckT4 L (by simp only [List.mem_cons,List.not_mem_nil,or_false]; omega)
  · have:L=5:=by omega
    subst this; exact ckT5
theorem ckT_told {L:Nat} (h1:1≤L) (h5:L≤5):ckH false false 1001 2001 2002 L L=true:=by
  have:=ckT_at h1 h5
  unfold ckT at this
  simp only [Bool.and_eq_true] at this
  exact this.1
theorem ckT_oth {L p:Nat} {kb:Bool} (h1:1≤L) (h5:L≤5) (hp:p≤L):ckH false true 1001 (pbT kb L) (pbT kb L + 1) L p=true:=by
  have:=ckT_at h1 h5
  unfold ckT at this
  simp only [Bool.and_eq_true] at this
  have:=aw this.2 p (bV (by omega))
  simp only [Bool.and_eq_true] at this
  cases kb
  · exact this.2
  · exact this.1
theorem upK_le (q k:Nat):upK q k≤k + 1:=by
  unfold upK
  cases h:Nat.blt k q with
  | true=>exact Nat.le_refl _
  | false =>
    have:¬ k < q:=fun h'=>by rw [show Nat.blt k q=true from Nat.ble_eq_true_of_le h'] at h; cases h
    rw [cond_false]; omega
theorem upK_lt {q k:Nat} (h:k < upK q k):k < q:=by
  unfold upK at h
  cases hb:Nat.blt k q with
  | true=>exact Nat.le_of_ble_eq_true hb
  | false=>rw [hb,cond_false] at h; exact h
theorem upK_in {q k:Nat} (h:k < q):upK q k=k + 1:=by
  unfold upK
  rw [show Nat.blt k q=true from Nat.ble_eq_true_of_le h,cond_true]
structure OkTr (L n q p:Nat) (kb:Bool) (ρ:Rho) (m:Nat→Obj→Prop):Prop where
  cs:∀ d ∈ csV L,d.den ρ=true
  mn:okMn false ρ m
  pk:okPick2 ρ m
  to:∀ k,k < L→bK ((pk2E (2 * k)).den ρ) (ρ.iv (33 + 4 * k) + 1)=ρ.iv (800 + 2 * k)∧bK ((pk2E (2 * k + 1)).den ρ) (ρ.iv (33 + 4 * k) - ρ.iv (800 + 2 * k) + 1)=ρ.iv (800 + 2 * k + 1)
  wk:∀ k,k < L→0≤ρ.iv (800 + 2 * k)∧ρ.iv (800 + 2 * k)≤ρ.iv (33 + 4 * k)
  p0:OkPl L kb (rhoR IE.var 710 ρ)
  fo:FaOk L n (fun j=>ρ.iv (800 + j)) ρ
  ht:kb=true→HapNm IE.var (plE 710) 1180 L L ρ
  ho:HapNm IE.var (plE 800) 1210 L p ρ
  lt:kb=true→∀ k,k < L→LeOk L k (upK L k) (fun j=>ρ.iv (710 + j)) ρ∧NmOk 1100 k (fun j=>ρ.iv (710 + j)) ρ
  lo:∀ k,k < L→LeOk L k (upK q k) (fun j=>ρ.iv (800 + j)) ρ∧(k < upK q k→NmOk 1140 k (fun j=>ρ.iv (800 + j)) ρ)
  qv:∀ c ∈ ivC (qTr L kb),c.den ρ=true
  fc:∀ c ∈ fcTr L n q kb,c.den ρ=true
theorem tuO_ok {L : Nat} {ok : Rho → (Nat → Obj → Prop) → Prop} {pk : Nat → IE} (hcs : ∀ ρ m, ok ρ m → ∀ d ∈ csV L, d.den ρ = true)
    (hto:∀ ρ m,ok ρ m→∀ k,k < L→bK ((pk (2 * k)).den ρ) (ρ.iv (33 + 4 * k) + 1)=ρ.iv (800 + 2 * k)∧bK ((pk (2 * k + 1)).den ρ) (ρ.iv (33 + 4 * k) - ρ.iv (800 + 2 * k) + 1)=ρ.iv (800 + 2 * k + 1))
    (hwk:∀ ρ m,ok ρ m→∀ k,k < L→0≤ρ.iv (800 + 2 * k)∧ρ.iv (800 + 2 * k)≤ρ.iv (33 + 4 * k)) {args:List AV} {h:Heap} {t:T (AV × Heap)}:∀ n,n≤L→tuO pk args h n=some t→CallOk (aP ok) 8 args h t
  | 0,_,e=>by cases e
  | n + 1,hn,e=>by
    unfold tuO at e
    have wr:∀ x:Int,-9223372036854775808≤x∧x≤9223372036854775807→IntKind.i64.wrap x=x:=fun x hx=>IntWalk.i64_in x hx
    rcases fQ e with e | e
    · refine tu2_ok (fun ρ m k=>?_) e
      obtain ⟨W,w1,w2⟩:=dV (hcs ρ m k) n (by omega)
      have e1:(addE (.var (33 + 4 * n)) (.lit 1)).den ρ=ρ.iv (33 + 4 * n) + 1:=wr _ (by show -9223372036854775808≤ρ.iv (33 + 4 * n) + 1∧ρ.iv (33 + 4 * n) + 1≤9223372036854775807; omega)
      rw [e1]
      exact ⟨by omega,(hto ρ m k n (by omega)).1⟩
    · rcases fQ e with e | e
      · refine tu2_ok (fun ρ m k=>?_) e
        obtain ⟨W,w1,w2⟩:=dV (hcs ρ m k) n (by omega)
        have p:=hwk ρ m k n (by omega)
        have e1:(addE (.bin .sub .i64 (.var (33 + 4 * n)) (.var (800 + 2 * n))) (.lit 1)).den ρ=ρ.iv (33 + 4 * n) - ρ.iv (800 + 2 * n) + 1:=by
          show IntKind.i64.wrap (IntKind.i64.wrap (ρ.iv (33 + 4 * n) - ρ.iv (800 + 2 * n)) + 1)=_
          rw [wr (ρ.iv (33 + 4 * n) - ρ.iv (800 + 2 * n)) (by omega),wr _ (by omega)]
        rw [e1]
        exact ⟨by omega,(hto ρ m k n (by omega)).2⟩
      · exact tuO_ok hcs hto hwk n (by omega) e
theorem orcTr_ok {L n q p:Nat} {kb:Bool} (h1:1≤L) (h5:L≤5) (hn:n≤L) (hp:p≤L) (HT:Looks true L):∀ f args h t,orcTr L n q p kb f args h=some t→CallOk (aP fun ρ m=>OkTr L n q p kb ρ m) f args h t:=by
  intro f args h t e
  unfold orcTr at e
  cases h7:Nat.beq f 7 with
  | true=>rw [h7,cond_true] at e; have:=ao.1 h7; subst this; exact CallOk.lift (firedOrc_ok e)
  | false =>
  rw [h7,cond_false] at e
  cases h6:Nat.beq f 6 with
  | true=>rw [h6,cond_true] at e; have:=ao.1 h6; subst this; exact so_any (fun ρ b k=>k.cs) (vals_at h1 h5).2 e
  | false =>
  rw [h6,cond_false] at e
  cases h8:Nat.beq f 8 with
  | true=>rw [h8,cond_true] at e; have:=ao.1 h8; subst this; exact tuO_ok (fun ρ m k=>k.cs) (fun ρ m k=>k.to) (fun ρ m k=>k.wk) L (Nat.le_refl L) e
  | false =>
  rw [h8,cond_false] at e
  cases h36:Nat.beq f 36 with
  | true=>rw [h36,cond_true] at e; have:=ao.1 h36; subst this; exact pick2Go_ok (fun ρ m k=>k.pk) e
  | false =>
  rw [h36,cond_false] at e
  cases h9:Nat.beq f 9 with
  | true=>rw [h9,cond_true] at e; have:=ao.1 h9; subst this; exact pl12_ok h1 h5 HT (fun ρ b k=>⟨_,rhoR_reads IE.var 710 ρ,k.p0,fun _ _ _=>rhoR_nm⟩) e
  | false =>
  rw [h9,cond_false] at e
  cases h16:Nat.beq f 16 with
  | true=>rw [h16,cond_true] at e; have:=ao.1 h16; subst this; exact fa18_ok h1 h5 hn (fun ρ m k=>⟨k.cs,k.fo⟩) e
  | false =>
  rw [h16,cond_false] at e
  cases h13:Nat.beq f 13 with
  | true =>
    rw [h13,cond_true] at e
    have:=ao.1 h13; subst this
    rcases fQ e with e | e
    · obtain ⟨hk,e⟩:=ai e
      exact hapGo_ok h1 h5 (ckT_told h1 h5) (fun ρ m k=>⟨k.mn,k.ht hk⟩) e
    · exact hapGo_ok h1 h5 (ckT_oth h1 h5 hp) (fun ρ m k=>⟨k.mn,k.ho⟩) e
  | false =>
  rw [h13,cond_false] at e
  obtain ⟨h19,e1⟩:=ai e
  clear e
  have:=ao.1 h19; subst this
  have e:=e1
  clear e1
  unfold leO at e
  split at e
  · obtain ⟨hk,e⟩:=ai e
    simp only [Bool.and_eq_true] at hk
    have hkL:=Nat.le_of_ble_eq_true hk.2
    exact le19_ok h1 h5 hkL (upK_le _ _) (fun ρ m k=>⟨k.cs,(k.lt hk.1 _ hkL).1,fun _=>(k.lt hk.1 _ hkL).2⟩) e
  · obtain ⟨hk,e⟩:=ai e
    have hkL:=Nat.le_of_ble_eq_true hk
    exact le19_ok h1 h5 hkL (upK_le _ _) (fun ρ m k=>⟨k.cs,(k.lo _ hkL).1,(k.lo _ hkL).2⟩) e
  · cases e
end Go.Sx
namespace Go.Sx
open Go.RowKit Go.Proofs
set_option maxRecDepth 100000
theorem mayT_f {ρ:Rho} {pl:Nat→Int} {k:Nat}:mayK ρ pl k=false ↔ gC ρ pl k∧cI ρ k (aG ρ k 1 (crs ρ pl k).2 (pl (2 * k + 1)))=false:=by
  unfold mayK mayF gC
  simp only [Bool.or_eq_false_iff,Bool.not_eq_false',decide_eq_true_eq]
theorem enT_may {ρ:Rho} {pl:Nat→Int} (hp:∀ j,0≤pl j):∀ n k,EnP ρ k (crs ρ pl k).1 (crs ρ pl k).2 (listF pl n k) ↔ ∀ j,k≤j→j < k + n→(pl (2 * j)).toNat + (pl (2 * j + 1)).toNat≤(ρ.iv (33 + 4 * j)).toNat∧mayK ρ pl j=false
  | 0,k=>⟨fun _ j h1 h2=>absurd h1 (by omega),fun _=>trivial⟩
  | n + 1,k=>by
    have ih:=enT_may (ρ:=ρ) hp n (k + 1)
    have c0:(((pl (2 * k)).toNat:Nat):Int)=pl (2 * k):=Int.toNat_of_nonneg (hp _)
    have c1:(((pl (2 * k + 1)).toNat:Nat):Int)=pl (2 * k + 1):=Int.toNat_of_nonneg (hp _)
    have e:(EnP ρ k (crs ρ pl k).1 (crs ρ pl k).2 (listF pl (n + 1) k))=((pl (2 * k)).toNat + (pl (2 * k + 1)).toNat≤(ρ.iv (33 + 4 * k)).toNat∧(bA ρ k 0 (crs ρ pl k).1 (((pl (2 * k)).toNat:Nat):Int)=0∧bA ρ k 1 (crs ρ pl k).2 (((pl (2 * k + 1)).toNat:Nat):Int)=0)∧cI ρ k (aG ρ k 1 (crs ρ pl k).2 (((pl (2 * k + 1)).toNat:Nat):Int))=false∧EnP ρ (k + 1) (aG ρ k 0 (crs ρ pl k).1 (((pl (2 * k)).toNat:Nat):Int)) (aG ρ k 1 (crs ρ pl k).2 (((pl (2 * k + 1)).toNat:Nat):Int)) (listF pl n (k + 1))):=rfl
    rw [e,c0,c1]
    constructor
    · rintro ⟨h1,h2,h3,h4⟩ j hj hj2
      by_cases ej:j=k
      · subst ej; exact ⟨h1,mayT_f.2 ⟨h2,h3⟩⟩
      · exact ih.1 h4 j (by omega) (by omega)
    · intro h
      obtain ⟨h1,h2⟩:=h k (Nat.le_refl k) (by omega)
      obtain ⟨h2,h3⟩:=mayT_f.1 h2
      exact ⟨h1,h2,h3,ih.2 fun j hj hj2=>h j (by omega) (by omega)⟩
theorem turnT_nn (n m:Int):0≤bK n m:=by
  by_cases h:m < 1
  · unfold bK; rw [if_pos h]; exact Int.le_refl 0
  · exact (turnF_in (by omega)).1
theorem listF_cg {p r:Nat→Int}:∀ n k,(∀ j,2 * k≤j→j < 2 * k + 2 * n→p j=r j)→listF p n k=listF r n k
  | 0,_,_=>rfl
  | n + 1,k,h=>by simp only [listF,h (2 * k) (by omega) (by omega),h (2 * k + 1) (by omega) (by omega),listF_cg n (k + 1) fun j h1 h2=>h j (by omega) (by omega)]
section
variable {ρ:Rho} {L:Nat} {pl pl':Nat→Int} (h:∀ j,j < 2 * L→pl j=pl' j)
include h
theorem crs_pl:∀ k,k≤L→crs ρ pl k=crs ρ pl' k
  | 0,_=>rfl
  | k + 1,hk=>by simp only [crs,crs_pl k (by omega),h (2 * k) (by omega),h (2 * k + 1) (by omega)]
theorem crsH_pl:∀ k,k≤L→gB ρ pl k=gB ρ pl' k
  | 0,_=>rfl
  | k + 1,hk=>by simp only [gB,crsH_pl k (by omega),h (2 * k) (by omega),h (2 * k + 1) (by omega)]
theorem lackN_pl {k:Nat} (hk:k < L):gC ρ pl k ↔ gC ρ pl' k:=by
  unfold gC; rw [crs_pl h k (by omega),h (2 * k) (by omega),h (2 * k + 1) (by omega)]
theorem mayK_pl {k:Nat} (hk:k < L):mayK ρ pl k=mayK ρ pl' k:=by
  unfold mayK; rw [crs_pl h k (by omega),h (2 * k) (by omega),h (2 * k + 1) (by omega)]
theorem st0_pl {k:Nat} (hk:k < L) (S:Mn):st0 ρ pl k S=st0 ρ pl' k S:=by
  unfold st0; rw [h (2 * k) (by omega),h (2 * k + 1) (by omega)]
theorem jS_pl {k:Nat} (hk:k < L) (S:Mn):jS ρ pl k S=jS ρ pl' k S:=by
  unfold jS; rw [st0_pl h hk]
theorem hapS_pl:∀ k,k≤L→aT ρ L pl k=aT ρ L pl' k
  | 0,_=>rfl
  | k + 1,hk=>by
    show endM ρ pl k (aT ρ L pl k)=endM ρ pl' k (aT ρ L pl' k)
    rw [hapS_pl k (by omega)]
    unfold endM
    rw [jS_pl h (by omega),st0_pl h (by omega)]
theorem standsP_pl {k:Nat} (hk:k < L):aY ρ L pl k=aY ρ L pl' k:=by
  unfold aY; rw [hapS_pl h k (by omega),jS_pl h hk]
theorem hapF_pl {p:Nat}:hapF ρ L pl p=hapF ρ L pl' p:=by
  unfold hapF
  split
  · rw [hapS_pl h _ (by omega)]
  · rw [hapS_pl h _ (Nat.le_refl _)]
theorem hapOk_pl {p:Nat} (H:HapOk L p pl ρ):HapOk L p pl' ρ:=⟨H.le,fun k hk hkp=>by rw [← standsP_pl h hk]; exact H.st k hk hkp⟩
theorem faOk_pl {n:Nat} (H:FaOk L n pl ρ):FaOk L n pl' ρ:=⟨fun k hk=>by rw [← h _ (by omega),← h _ (by omega)]; exact H.pb k hk,fun k hk hkn=>by rw [← mayK_pl h hk]; exact H.may k hk hkn⟩
theorem leOk_pl {k p:Nat} (hk:k < L) (H:LeOk L k p pl ρ):LeOk L k p pl' ρ :=
  ⟨fun j hj=>by rw [← h _ (by omega),← h _ (by omega)]; exact H.pb j hj,fun j hj hjp=>(lackN_pl h (by omega)).1 (H.go j hj hjp),fun hp hl=>H.st hp ((lackN_pl h (by omega)).2 hl)⟩
end
noncomputable def fP (ρ:Rho) (n:Nat):Int:=if n % 2=0 then bK ((pk2E n).den ρ) (ρ.iv (33 + 4 * (n / 2)) + 1) else bK ((pk2E n).den ρ) (ρ.iv (33 + 4 * (n / 2)) - bK ((pk2E (n - 1)).den ρ) (ρ.iv (33 + 4 * (n / 2)) + 1) + 1)
theorem othG_nn (ρ:Rho) (n:Nat):0≤fP ρ n:=by
  unfold fP
  split <;> exact turnT_nn _ _
theorem othG_eq (ρ:Rho) (k:Nat):bK ((pk2E (2 * k)).den ρ) (ρ.iv (33 + 4 * k) + 1)=fP ρ (2 * k)∧bK ((pk2E (2 * k + 1)).den ρ) (ρ.iv (33 + 4 * k) - fP ρ (2 * k) + 1)=fP ρ (2 * k + 1):=by
  have e0:fP ρ (2 * k)=bK ((pk2E (2 * k)).den ρ) (ρ.iv (33 + 4 * k) + 1):=by
    unfold fP; rw [if_pos (by omega),show 2 * k / 2=k by omega]
  refine ⟨e0.symm,?_⟩
  rw [e0]
  unfold fP; rw [if_neg (by omega),show (2 * k + 1) / 2=k by omega,show 2 * k + 1 - 1=2 * k by omega]
theorem othG_sum {ρ:Rho} {L:Nat} (hcs:∀ c ∈ csV L,c.den ρ=true) {k:Nat} (hk:k < L):0≤fP ρ (2 * k)∧0≤fP ρ (2 * k + 1)∧fP ρ (2 * k) + fP ρ (2 * k + 1)≤ρ.iv (33 + 4 * k)∧ρ.iv (33 + 4 * k)≤5:=by
  obtain ⟨W,w1,w2⟩:=dV hcs k hk
  obtain ⟨b0,b1⟩:=othG_eq ρ k
  have t0:=turnF_in (n:=(pk2E (2 * k)).den ρ) (m:=ρ.iv (33 + 4 * k) + 1) (by omega)
  rw [b0] at t0
  have t1:=turnF_in (n:=(pk2E (2 * k + 1)).den ρ) (m:=ρ.iv (33 + 4 * k) - fP ρ (2 * k) + 1) (by omega)
  rw [b1] at t1
  omega
theorem othG_in {ρ:Rho} {L:Nat} (hcs:∀ c ∈ csV L,c.den ρ=true) {j:Nat} (hj:j < 2 * L):0≤fP ρ j∧fP ρ j≤5:=by
  have:=othG_sum hcs (k:=j / 2) (by omega)
  by_cases e:j % 2=0
  · rw [show 2 * (j / 2)=j by omega] at this; omega
  · rw [show 2 * (j / 2) + 1=j by omega] at this; omega
noncomputable def plZ (ρ:Rho) (L n:Nat):Int:=if n < 2 * L then planO ρ L n else 0
theorem plZ_ok {ρ : Rho} {L : Nat} (h5 : L ≤ 5) (hcs : ∀ c ∈ csV L, c.den ρ = true) (hen : enD ρ L = true) :
    (∀ k,k < L→0≤plZ ρ L (2 * k)∧0≤plZ ρ L (2 * k + 1)∧plZ ρ L (2 * k) + plZ ρ L (2 * k + 1)≤ρ.iv (33 + 4 * k))∧(∀ j,0≤plZ ρ L j∧plZ ρ L j≤5)∧∀ k,k < L→mayK ρ (plZ ρ L) k=false:=by
  have hb:=(cs_iff.1 hcs).1
  have r0:=hb.room0; have r1:=hb.room1; have c0:=hb.coal; have c2:=hb.water
  have hB:Bds ρ L:=bds_cs hcs
  have hW:∀ i,i < L→(ρ.iv (33 + 4 * i)).toNat≤5:=fun i hi=>by
    obtain ⟨W,w1,w2⟩:=dV hcs i hi
    omega
  have zO:∀ j,j < 2 * L→plZ ρ L j=planO ρ L j:=fun j hj=>if_pos hj
  have ps:∀ k,k < L→0≤plZ ρ L (2 * k)∧0≤plZ ρ L (2 * k + 1)∧plZ ρ L (2 * k) + plZ ρ L (2 * k + 1)≤ρ.iv (33 + 4 * k):=fun k hk=>by
    obtain ⟨x,hx,x1,x2⟩:=plan_pair hB h5 hW (by omega) (by omega) hen hk
    obtain ⟨W,w1,w2⟩:=dV hcs k hk
    rw [zO _ (by omega),zO _ (by omega),planO_even,planO_odd,x1,x2]
    omega
  have pn:∀ j,0≤plZ ρ L j∧plZ ρ L j≤5:=fun j=>by
    by_cases hj2:j < 2 * L
    · obtain ⟨V,v1,v2⟩:=dV hcs (j / 2) (by omega)
      have:=ps (j / 2) (by omega)
      by_cases e:j % 2=0
      · rw [show 2 * (j / 2)=j by omega] at this; omega
      · rw [show 2 * (j / 2) + 1=j by omega] at this; omega
    · unfold plZ; rw [if_neg hj2]; omega
  refine ⟨ps,pn,fun k hk=>?_⟩
  have told:=told_ok hB h5 hW L 0 (ρ.iv 0) (ρ.iv 2) (by omega) (by omega) (by omega) hen
  have tl:toldL ρ L 0 (ρ.iv 0) (ρ.iv 2)=listF (planO ρ L) L 0:=told_list (ρ:=ρ) (L:=L) L 0 (Nat.zero_add L)
  have lz:listF (plZ ρ L) L 0=listF (planO ρ L) L 0:=listF_cg L 0 fun j _ hj=>zO j (by omega)
  have tok:EnP ρ 0 (ρ.iv 0) (ρ.iv 2) (listF (plZ ρ L) L 0):=by rw [lz,← tl]; exact told.ok
  exact ((enT_may (fun j=>(pn j).1) L 0).1 tok k (Nat.zero_le k) (by omega)).2
noncomputable def drR (ρ:Rho):Rho:=⟨ρ.iv,ρ.bv,fun f x y z=>if f=9600 then drawF ρ x y z else ρ.fi f x y z,ρ.fb,ρ.ov⟩
noncomputable def leftV (ρ:Rho) (pl:Nat→Int) (i:Nat):Int:=if i % 4=0 then (crs ρ pl (i / 4 + 1)).1 else if i % 4=1 then (gB ρ pl (i / 4 + 1)).1 else if i % 4=2 then (crs ρ pl (i / 4 + 1)).2 else (gB ρ pl (i / 4 + 1)).2
noncomputable def hapV (ρ:Rho) (L:Nat) (pl:Nat→Int) (p i:Nat):Int:=if i=20 then hapF ρ L pl p else if i % 2=0 then (aT ρ L pl (i / 2 + 1)).c else (aT ρ L pl (i / 2 + 1)).w
theorem hapV_nm (ρ:Rho) (L:Nat) (pl:Nat→Int) (p:Nat):(∀ k,k < 5→hapV ρ L pl p (2 * k)=(aT ρ L pl (k + 1)).c∧hapV ρ L pl p (2 * k + 1)=(aT ρ L pl (k + 1)).w)∧hapV ρ L pl p 20=hapF ρ L pl p:=by
  refine ⟨fun k hk=>⟨?_,?_⟩,if_pos rfl⟩
  · unfold hapV; rw [if_neg (by omega),if_pos (by omega),show 2 * k / 2=k by omega]
  · unfold hapV; rw [if_neg (by omega),if_neg (by omega),show (2 * k + 1) / 2=k by omega]
theorem leftV_nm (ρ:Rho) (pl:Nat→Int) (k:Nat):leftV ρ pl (4 * k)=(crs ρ pl (k + 1)).1∧leftV ρ pl (4 * k + 1)=(gB ρ pl (k + 1)).1∧leftV ρ pl (4 * k + 2)=(crs ρ pl (k + 1)).2∧leftV ρ pl (4 * k + 3)=(gB ρ pl (k + 1)).2:=by
  refine ⟨?_,?_,?_,?_⟩
  · unfold leftV; rw [if_pos (by omega),show 4 * k / 4=k by omega]
  · unfold leftV; rw [if_neg (by omega),if_pos (by omega),show (4 * k + 1) / 4=k by omega]
  · unfold leftV; rw [if_neg (by omega),if_neg (by omega),if_pos (by omega),show (4 * k + 2) / 4=k by omega]
  · unfold leftV; rw [if_neg (by omega),if_neg (by omega),if_neg (by omega),show (4 * k + 3) / 4=k by omega]
noncomputable def ivTr (ρ:Rho) (L p j:Nat):Int:=if j < 100 then ρ.iv j else if j < 790 then plZ ρ L (j - 710) else if j < 1000 then fP ρ (j - 800) else if j < 1140 then leftV ρ (plZ ρ L) (j - 1100) else if j < 1180 then leftV ρ (fP ρ) (j - 1140) else if j < 1210 then hapV (drR ρ) L (plZ ρ L) L (j - 1180) else hapV (drR ρ) L (fP ρ) p (j - 1210)
noncomputable def rhoTr (ρ:Rho) (L p:Nat):Rho:=⟨ivTr ρ L p,ρ.bv,(drR ρ).fi,ρ.fb,ρ.ov⟩
section
variable (ρ:Rho) (L p:Nat)
theorem tr0 {j:Nat} (h:j < 100):(rhoTr ρ L p).iv j=ρ.iv j:=if_pos h
theorem tr1 {j:Nat} (h:j < 80):(rhoTr ρ L p).iv (710 + j)=plZ ρ L j:=by
  show ivTr ρ L p (710 + j)=_
  unfold ivTr; rw [if_neg (by omega),if_pos (by omega),Nat.add_sub_cancel_left]
theorem tr2 {j:Nat} (h:j < 200):(rhoTr ρ L p).iv (800 + j)=fP ρ j:=by
  show ivTr ρ L p (800 + j)=_
  unfold ivTr; rw [if_neg (by omega),if_neg (by omega),if_pos (by omega),Nat.add_sub_cancel_left]
theorem tr3 {j:Nat} (h:j < 40):(rhoTr ρ L p).iv (1100 + j)=leftV ρ (plZ ρ L) j:=by
  show ivTr ρ L p (1100 + j)=_
  unfold ivTr; rw [if_neg (by omega),if_neg (by omega),if_neg (by omega),if_pos (by omega),Nat.add_sub_cancel_left]
theorem tr4 {j:Nat} (h:j < 40):(rhoTr ρ L p).iv (1140 + j)=leftV ρ (fP ρ) j:=by
  show ivTr ρ L p (1140 + j)=_
  unfold ivTr; rw [if_neg (by omega),if_neg (by omega),if_neg (by omega),if_neg (by omega),if_pos (by omega),Nat.add_sub_cancel_left]
theorem tr5 {j:Nat} (h:j < 30):(rhoTr ρ L p).iv (1180 + j)=hapV (drR ρ) L (plZ ρ L) L j:=by
  show ivTr ρ L p (1180 + j)=_
  unfold ivTr; rw [if_neg (by omega),if_neg (by omega),if_neg (by omega),if_neg (by omega),if_neg (by omega),if_pos (by omega),Nat.add_sub_cancel_left]
theorem tr6 (j:Nat):(rhoTr ρ L p).iv (1210 + j)=hapV (drR ρ) L (fP ρ) p j:=by
  show ivTr ρ L p (1210 + j)=_
  unfold ivTr; rw [if_neg (by omega),if_neg (by omega),if_neg (by omega),if_neg (by omega),if_neg (by omega),if_neg (by omega),Nat.add_sub_cancel_left]
end
theorem drR_mn {ρ:Rho} {m:Nat→Obj→Prop} (h:eQ ρ m):okMn false (drR ρ) m:=by
  unfold okMn
  rw [if_neg (by simp)]
  obtain ⟨b,len,cap,h1,h2,h3,h4,h5,h6⟩:=h
  refine ⟨⟨b,len,cap,h1,h2,h3,h4,fun n=>?_,fun hp=>?_⟩,fun a lo hi=>?_⟩
  · have e0:(drR ρ).fi 1000 n 0 0=ρ.fi 1000 n 0 0:=by simp [drR]
    have e1:∀ n,(drR ρ).fi 1001 n 0 0=ρ.fi 1001 n 0 0:=fun n=>by simp [drR]
    rw [e0,e1]; exact h5 n
  · obtain ⟨c,x,cells,el,fz,q1,q2,q3⟩:=h6 hp
    refine ⟨c,x,cells,el,fz,q1,q2,fun j hj=>?_⟩
    have e1:(drR ρ).fi 1001 j 0 0=ρ.fi 1001 j 0 0:=by simp [drR]
    rw [e1]; exact q3 j hj
  · have e:FI (drR ρ).fi 9600 a lo hi=drawF ρ a lo hi:=by simp [FI,drR]
    rw [e]
    unfold drawF
    have e0:FI (drR ρ).fi 1000 a 0 0=FI ρ.fi 1000 a 0 0:=by simp [FI,drR]
    rw [e0]
theorem hapNm_of {ρ R : Rho} {L p nm q : Nat} {pl : Nat → Int} (h5 : L ≤ 5) (hcs : ∀ c ∈ csV L, c.den ρ = true) (iv : ∀ j, j < 100 → R.iv j = ρ.iv j) (hb : R.bv = ρ.bv) (hfi : R.fi = (drR ρ).fi) (hpl : ∀ j, j < 2 * L → R.iv (nm + j) = pl j) (hq : ∀ j, j < 30 → R.iv (q + j) = hapV (drR ρ) L pl p j)
    (H:HapOk L p pl (drR ρ)):HapNm IE.var (plE nm) q L p R:=by
  have A:AgreeD (drR ρ) (readR IE.var R):=⟨fun j hj=>by
    show ρ.iv j=(if j < 60 then R.iv j else R.iv j)
    rw [if_pos hj,iv j (by omega)],fun j _=>by show ρ.bv j=R.bv j; rw [hb],fun a lo hi=>by show FI (drR ρ).fi 9600 a lo hi=FI R.fi 9600 a lo hi; rw [hfi]⟩
  have hp':∀ j,j < 2 * L→pl j=(plE nm j).den R:=fun j hj=>(hpl j hj).symm
  obtain ⟨v1,v2⟩:=hapV_nm (drR ρ) L pl p
  have hle:=H.le
  refine ⟨cF h5 A.iv (cF h5 (ρ:=ρ) (ρ':=drR ρ) (fun _ _=>rfl) hcs),hapOk_pl hp' ⟨H.le,fun k hk hkp=>by rw [← standsP_agree A (by omega)]; exact H.st k hk hkp⟩,fun k hk=>?_,fun k hk=>?_,?_⟩
  · rw [hq (2 * k) (by omega),(v1 k (by omega)).1,← hapS_pl hp' _ (by omega),← cO A _ (by omega)]
  · rw [show q + 2 * k + 1=q + (2 * k + 1) by omega,hq (2 * k + 1) (by omega),(v1 k (by omega)).2,← hapS_pl hp' _ (by omega),← cO A _ (by omega)]
  · rw [hq 20 (by omega),v2,← hapF_pl hp',← hapF_agree A h5]
theorem fcIn_ok {R ρ : Rho} {L nl nh p : Nat} {pl : Nat → Int} (hcs : ∀ c ∈ csV L, c.den ρ = true) (D : DrIn (drR ρ)) (hpl : ∀ j, j < 2 * L → 0 ≤ pl j ∧ pl j ≤ 5) (h5 : L ≤ 5)
    (hl:∀ j,j < 40→R.iv (nl + j)=leftV ρ pl j) (hh:∀ j,j < 30→R.iv (nh + j)=hapV (drR ρ) L pl p j):∀ n,n≤L→(∀ i,i < n→aY (drR ρ) L pl i=false)→∀ c ∈ fcIn nl nh n,c.den R=true
  | 0,_,_,c,hc=>(List.not_mem_nil hc).elim
  | k + 1,hk,hst,c,hc=>by
    have cs':∀ c ∈ csV L,c.den (drR ρ)=true:=cF h5 (ρ:=ρ) (ρ':=drR ρ) (fun _ _=>rfl) hcs
    have A:cz ρ (drR ρ):=⟨fun _ _=>rfl,fun _ _=>rfl⟩
    obtain ⟨⟨_,i2,i3,_⟩,_,j2,j3,_⟩:=course_in cs' D hpl (k + 1) hk hst
    rw [← ez A _ _ (by omega)] at i2 j2
    rw [← fm A _ _ (by omega)] at i3 j3
    obtain ⟨l0,l1,l2,l3⟩:=leftV_nm ρ pl k
    obtain ⟨v1,v2⟩:=(hapV_nm (drR ρ) L pl p).1 k (by omega)
    have e0:=hl (4 * k) (by omega)
    have e1:=hl (4 * k + 1) (by omega)
    have e2:=hl (4 * k + 2) (by omega)
    have e3:=hl (4 * k + 3) (by omega)
    have f0:=hh (2 * k) (by omega)
    have f1:=hh (2 * k + 1) (by omega)
    simp only [fcIn,List.mem_cons] at hc
    rcases hc with rfl | rfl | rfl | rfl | hc
    · unfold leV; rw [BE.t_leq,IE.den_var,IE.den_var,e0,f0,l0,v1]; exact i2
    · unfold leV; rw [BE.t_leq,IE.den_var,IE.den_var,show nl + 4 * k + 1=nl + (4 * k + 1) by omega,e1,f0,l1,v1]; exact i3
    · unfold leV; rw [BE.t_leq,IE.den_var,IE.den_var,show nl + 4 * k + 2=nl + (4 * k + 2) by omega,show nh + 2 * k + 1=nh + (2 * k + 1) by omega,e2,f1,l2,v2]; exact j2
    · unfold leV; rw [BE.t_leq,IE.den_var,IE.den_var,show nl + 4 * k + 3=nl + (4 * k + 3) by omega,show nh + 2 * k + 1=nh + (2 * k + 1) by omega,e3,f1,l3,v2]; exact j3
    · exact fcIn_ok hcs D hpl h5 hl hh k (by omega) (fun i hi=>hst i (by omega)) c hc
theorem hapOk_first (ρ:Rho) (L:Nat) (pl:Nat→Int):HapOk L (dT (aY ρ L pl) L) pl ρ:=by
  obtain ⟨h1,h2,h3⟩:=ep (aY ρ L pl) L
  refine ⟨h1,fun k hk hkp=>?_⟩
  by_cases e:k=dT (aY ρ L pl) L
  · rw [decide_eq_true e]
    have:=h3 (by omega)
    rw [← e] at this; exact this
  · rw [decide_eq_false e]; exact h2 k (by omega)
noncomputable instance (ρ:Rho) (pl:Nat→Int) (k:Nat):Decidable (gC ρ pl k):=inferInstanceAs (Decidable (bA ρ k 0 (crs ρ pl k).1 (pl (2 * k))=0∧bA ρ k 1 (crs ρ pl k).2 (pl (2 * k + 1))=0))
noncomputable def lackB (ρ:Rho) (pl:Nat→Int) (k:Nat):Bool:=decide (¬ gC ρ pl k)
theorem okTr_of {ρ : Rho} {m : Nat → Obj → Prop} {L : Nat} (h1 : 1 ≤ L) (h5 : L ≤ 5) (hcs : ∀ c ∈ csV L, c.den ρ = true) (hpk : eQ ρ m) (hpk2 : okPick2 ρ m) :
    ∃ n q p kb ρ',(n≤q∧q≤p∧p≤L)∧(kb=false→n < L)∧OkTr L n q p kb ρ' m∧(∀ j,j < 100→ρ.iv j=ρ'.iv j)∧ρ.bv=ρ'.bv∧ρ.ov=ρ'.ov:=by
  have hmn:=drR_mn hpk
  have D:DrIn (drR ρ):=drIn_of hmn
  have cs1:∀ c ∈ csV L,c.den (drR ρ)=true:=cF h5 (ρ:=ρ) (ρ':=drR ρ) (fun _ _=>rfl) hcs
  have A1:cz ρ (drR ρ):=⟨fun _ _=>rfl,fun _ _=>rfl⟩
  have oin:∀ j,j < 2 * L→0≤fP ρ j∧fP ρ j≤5:=fun j hj=>othG_in hcs hj
  obtain ⟨n1,n2,n3⟩:=ep (mayK ρ (fP ρ)) L
  obtain ⟨q1,q2,q3⟩:=ep (lackB ρ (fP ρ)) L
  have HO:=hapOk_first (drR ρ) L (fP ρ)
  generalize hn:dT (mayK ρ (fP ρ)) L=n at n1 n2 n3
  generalize hq:dT (lackB ρ (fP ρ)) L=q at q1 q2 q3
  generalize hp:dT (aY (drR ρ) L (fP ρ)) L=p at HO
  have lk:∀ k,k < q→gC ρ (fP ρ) k:=fun k hk=>by
    have:=q2 k hk
    unfold lackB at this
    have:=of_decide_eq_false this
    exact Classical.not_not.1 this
  have nlk:q < L→¬ gC ρ (fP ρ) q:=fun h=>by
    have:=q3 h
    unfold lackB at this
    exact of_decide_eq_true this
  have hnq:n≤q:=by
    by_cases h:q < n
    · exact absurd (mayT_f.1 (n2 q h)).1 (nlk (by omega))
    · omega
  have hpL:=HO.le
  have nst:∀ i,i < p→aY (drR ρ) L (fP ρ) i=false:=fun i hi=>(HO.st i (by omega) (by omega)).trans (decide_eq_false (by omega))
  have hqp:q≤p:=by
    by_cases h:p < q
    · have hs:aY (drR ρ) L (fP ρ) p=true:=(HO.st p (by omega) (Nat.le_refl _)).trans (decide_eq_true rfl)
      have:=stands_lack cs1 D oin (by omega) nst hs
      exact absurd ((fW A1 _ (by omega)).1 (lk p h)) this
    · omega
  let R:=rhoTr ρ L p
  have iv:∀ j,j < 100→R.iv j=ρ.iv j:=fun j hj=>tr0 ρ L p hj
  have A:cz ρ R:=⟨fun j hj=>(iv j (by omega)).symm,fun _ _=>rfl⟩
  have cs':∀ c ∈ csV L,c.den R=true:=cF h5 A.iv hcs
  have e2:∀ j,j < 2 * L→fP ρ j=(fun j=>R.iv (800 + j)) j:=fun j hj=>(tr2 ρ L p (by omega)).symm
  have mn':okMn false R m:=okMn_iv (ρ:=drR ρ) rfl rfl (iv 96 (by omega)) hmn
  have pk':okPick2 R m:=by
    obtain ⟨b,len,cap,h1,h2,h3,h4,h5,h6⟩:=hpk2
    have f0:∀ n,R.fi 1010 n 0 0=ρ.fi 1010 n 0 0:=fun n=>by show (drR ρ).fi 1010 n 0 0=_; simp [drR]
    have f1:∀ n,R.fi 1011 n 0 0=ρ.fi 1011 n 0 0:=fun n=>by show (drR ρ).fi 1011 n 0 0=_; simp [drR]
    refine ⟨b,len,cap,h1,(iv 97 (by omega)).trans h2,h3,h4,fun n=>by rw [f0,f1]; exact h5 n,fun hp=>?_⟩
    obtain ⟨c,x,cells,el,fz,q1,q2,q3⟩:=h6 hp
    exact ⟨c,x,cells,el,fz,q1,q2,fun j hj=>by rw [f1]; exact q3 j hj⟩
  have to':∀ k,k < L→bK ((pk2E (2 * k)).den R) (R.iv (33 + 4 * k) + 1)=R.iv (800 + 2 * k)∧bK ((pk2E (2 * k + 1)).den R) (R.iv (33 + 4 * k) - R.iv (800 + 2 * k) + 1)=R.iv (800 + 2 * k + 1):=fun k hk=>by
    have pe:∀ k,(pk2E k).den R=(pk2E k).den ρ:=fun k=>by
      show FI (drR ρ).fi 1010 k 0 0=FI ρ.fi 1010 k 0 0
      simp [FI,drR]
    rw [iv (33 + 4 * k) (by omega),show 800 + 2 * k + 1=800 + (2 * k + 1) by omega]
    have x0:R.iv (800 + 2 * k)=fP ρ (2 * k):=tr2 ρ L p (by omega)
    have x1:R.iv (800 + (2 * k + 1))=fP ρ (2 * k + 1):=tr2 ρ L p (by omega)
    rw [x0,x1,pe,pe]
    exact othG_eq ρ k
  have wk':∀ k,k < L→0≤R.iv (800 + 2 * k)∧R.iv (800 + 2 * k)≤R.iv (33 + 4 * k):=fun k hk=>by
    have x0:R.iv (800 + 2 * k)=fP ρ (2 * k):=tr2 ρ L p (by omega)
    rw [x0,iv (33 + 4 * k) (by omega)]
    have:=othG_sum hcs hk
    omega
  have fo:FaOk L n (fun j=>R.iv (800 + j)) R:=faOk_pl e2 (faOk_agree A h5 ⟨fun k hk=>by have:=othG_sum hcs hk; omega,fun k hk hkn=>by
    by_cases ek:k=n
    · rw [decide_eq_true ek,ek]; exact n3 (ek ▸ hk)
    · rw [decide_eq_false ek]; exact n2 k (by omega)⟩)
  have ho:HapNm IE.var (plE 800) 1210 L p R:=hapNm_of h5 hcs iv rfl rfl (fun j hj=>tr2 ρ L p (by omega)) (fun j _=>tr6 ρ L p j) HO
  have lo:∀ k,k < L→LeOk L k (upK q k) (fun j=>R.iv (800 + j)) R∧(k < upK q k→NmOk 1140 k (fun j=>R.iv (800 + j)) R):=fun k hk=>by
    refine ⟨leOk_pl e2 hk (leOk_agree A h5 hk ⟨fun j hj=>by have:=othG_sum hcs hj; omega,fun j hj hju=>lk j ?_,fun hu hl=>?_⟩),fun _=>?_⟩
    · by_cases hkq:k < q
      · omega
      · have:=upK_lt (q:=q) (k:=k)
        unfold upK at hju
        have hb:Nat.blt k q=false:=by
          cases hb:Nat.blt k q with
          | false=>rfl
          | true=>exact absurd (Nat.le_of_ble_eq_true hb) hkq
        rw [hb,cond_false] at hju
        exact hju
    · have hkq:¬ k < q:=fun h=>by rw [upK_in h] at hu; omega
      have hb:Nat.blt k q=false:=by
        cases hb:Nat.blt k q with
        | false=>rfl
        | true=>exact absurd (Nat.le_of_ble_eq_true hb) hkq
      have e:upK q k=q:=by unfold upK; rw [hb,cond_false]
      rw [e] at hl
      exact nlk (by omega) hl
    · obtain ⟨l0,l1,l2,l3⟩:=leftV_nm ρ (fP ρ) k
      have t0:R.iv (1140 + 4 * k)=_:=(tr4 ρ L p (j:=4 * k) (by omega)).trans l0
      have t1:R.iv (1140 + (4 * k + 1))=_:=(tr4 ρ L p (j:=4 * k + 1) (by omega)).trans l1
      have t2:R.iv (1140 + (4 * k + 2))=_:=(tr4 ρ L p (j:=4 * k + 2) (by omega)).trans l2
      have t3:R.iv (1140 + (4 * k + 3))=_:=(tr4 ρ L p (j:=4 * k + 3) (by omega)).trans l3
      unfold NmOk
      rw [← crs_pl e2 _ (by omega),← crsH_pl e2 _ (by omega),← ez A _ _ (by omega),← fm A _ _ (by omega)]
      exact ⟨t0,t1,t2,t3⟩
  have f1230:(leV (lt n) (.var 1230)).den R=true:=by
    unfold leV
    rw [BE.t_leq,IE.den_var]
    have t:R.iv (1210 + 20)=hapF (drR ρ) L (fP ρ) p:=(tr6 ρ L p 20).trans (hapV_nm _ _ _ _).2
    have:=fail_all cs1 D oin (n:=n) (fun i hi=>by rw [← mayK_agree A1 _ (by omega)]; exact n2 i hi) n1 HO
    show (n:Int)≤R.iv 1230
    rw [show (1230:Nat)=1210 + 20 from rfl,t]; exact this
  have fIn:∀ c ∈ fcIn 1140 1210 q,c.den R=true:=fcIn_ok (p:=p) hcs D oin h5 (fun j hj=>tr4 ρ L p hj) (fun j _=>tr6 ρ L p j) q q1 fun i hi=>nst i (by omega)
  by_cases hen:enD ρ L=true
  · obtain ⟨ps,pn,pm⟩:=plZ_ok h5 hcs hen
    have e1:∀ j,j < 2 * L→plZ ρ L j=(fun j=>R.iv (710 + j)) j:=fun j hj=>(tr1 ρ L p (by omega)).symm
    have lq:=qPl_ok (ρ:=R) (nm:=710) cs' (fun k hk=>by
      have x0:R.iv (710 + 2 * k)=plZ ρ L (2 * k):=tr1 ρ L p (by omega)
      have x1:R.iv (710 + (2 * k + 1))=plZ ρ L (2 * k + 1):=tr1 ρ L p (by omega)
      rw [show 710 + 2 * k + 1=710 + (2 * k + 1) by omega,x0,x1,iv (33 + 4 * k) (by omega)]; exact ps k hk) L 0 (by omega)
    have P0:OkPl L true (rhoR IE.var 710 R):=okPl_of (ρX:=ρ) h5 hcs ⟨fun j hj=>by rw [rhoR_iv hj]; exact (iv j (by omega)).symm,fun _ _=>rfl⟩ hen fun n hn=>by
      rw [rhoR_nm]
      have x0:R.iv (710 + n)=plZ ρ L n:=tr1 ρ L p (by omega)
      rw [x0]; exact if_pos hn
    have HT:=hapOk_first (drR ρ) L (plZ ρ L)
    have pin:∀ j,j < 2 * L→0≤plZ ρ L j∧plZ ρ L j≤5:=fun j _=>pn j
    have hpT:dT (aY (drR ρ) L (plZ ρ L)) L=L:=by
      generalize dT (aY (drR ρ) L (plZ ρ L)) L=pt at HT
      have:=HT.le
      by_cases h:pt < L
      · have hs:aY (drR ρ) L (plZ ρ L) pt=true:=(HT.st pt h (Nat.le_refl _)).trans (decide_eq_true rfl)
        have nl:=stands_lack cs1 D pin h (fun i hi=>(HT.st i (by omega) (by omega)).trans (decide_eq_false (by omega))) hs
        exact absurd ((fW A1 _ (by omega)).1 (mayT_f.1 (pm pt h)).1) nl
      · omega
    rw [hpT] at HT
    have nsT:∀ i,i < L→aY (drR ρ) L (plZ ρ L) i=false:=fun i hi=>(HT.st i hi (by omega)).trans (decide_eq_false (by omega))
    refine ⟨n,q,p,true,R,⟨hnq,hqp,hpL⟩,(fun h=>by cases h),⟨cs',mn',pk',to',wk',P0,fo,fun _=>hapNm_of h5 hcs iv rfl rfl (fun j hj=>tr1 ρ L p (by omega)) (fun j hj=>tr5 ρ L p hj) HT,ho,fun _ k hk=>⟨?_,?_⟩,lo,?_,?_⟩,fun j hj=>(iv j hj).symm,rfl,rfl⟩
    · refine leOk_pl e1 hk (leOk_agree A h5 hk ⟨ps,fun j hj _=>(mayT_f.1 (pm j (by omega))).1,fun hu=>?_⟩)
      rw [upK_in hk] at hu; omega
    · obtain ⟨l0,l1,l2,l3⟩:=leftV_nm ρ (plZ ρ L) k
      have t0:R.iv (1100 + 4 * k)=_:=(tr3 ρ L p (j:=4 * k) (by omega)).trans l0
      have t1:R.iv (1100 + (4 * k + 1))=_:=(tr3 ρ L p (j:=4 * k + 1) (by omega)).trans l1
      have t2:R.iv (1100 + (4 * k + 2))=_:=(tr3 ρ L p (j:=4 * k + 2) (by omega)).trans l2
      have t3:R.iv (1100 + (4 * k + 3))=_:=(tr3 ρ L p (j:=4 * k + 3) (by omega)).trans l3
      unfold NmOk
      rw [← crs_pl e1 _ (by omega),← crsH_pl e1 _ (by omega),← ez A _ _ (by omega),← fm A _ _ (by omega)]
      exact ⟨t0,t1,t2,t3⟩
    · intro c hc
      exact lq.1 c hc
    · intro c hc
      unfold fcTr at hc
      rw [cond_true] at hc
      simp only [aI,List.mem_append,List.mem_cons] at hc
      rcases hc with rfl | hc | rfl | hc | hc
      · exact f1230
      · exact fIn c hc
      · unfold leV
        rw [BE.t_leq,IE.den_var]
        have t:R.iv (1180 + 20)=hapF (drR ρ) L (plZ ρ L) L:=(tr5 ρ L p (j:=20) (by omega)).trans (hapV_nm _ _ _ _).2
        have:=fail_all cs1 D pin (n:=L) (fun i hi=>by rw [← mayK_agree A1 _ (by omega)]; exact pm i hi) (Nat.le_refl _) HT
        show (L:Int)≤R.iv 1200
        rw [show (1200:Nat)=1180 + 20 from rfl,t]; exact this
      · exact lq.2 c hc
      · exact fcIn_ok (p:=L) hcs D pin h5 (fun j hj=>tr3 ρ L p hj) (fun j hj=>tr5 ρ L p hj) L (Nat.le_refl _) nsT c hc
  · have hf:enD ρ L=false:=by simpa using hen
    have hlt:n < L:=by
      by_cases h:n < L
      · exact h
      · have eL:n=L:=by omega
        rw [eL] at n2
        have hE:EnP ρ 0 (ρ.iv 0) (ρ.iv 2) (listF (fP ρ) L 0):=(enT_may (othG_nn ρ) L 0).2 fun j _ hj=>⟨by
          have:=othG_sum hcs (k:=j) (by omega)
          omega,n2 j (by omega)⟩
        exact absurd ((outD_iff L 0 _ _).2 ⟨_,listF_len _ _ _,hE⟩) hen
    have P0:OkPl L false (rhoR IE.var 710 R):=by
      have A0:cz ρ (rhoR IE.var 710 R):=⟨fun j hj=>by rw [rhoR_iv hj]; exact (iv j (by omega)).symm,fun _ _=>rfl⟩
      exact ⟨cF h5 A0.iv hcs,dV (cF h5 A0.iv hcs),(enD_agreeL A0 (by omega)).symm.trans hf,fun h=>by cases h⟩
    refine ⟨n,q,p,false,R,⟨hnq,hqp,hpL⟩,(fun _=>hlt),⟨cs',mn',pk',to',wk',P0,fo,(fun h=>by cases h),ho,(fun h=>by cases h),lo,?_,?_⟩,fun j hj=>(iv j hj).symm,rfl,rfl⟩
    · intro c hc
      exact (List.not_mem_nil hc).elim
    · intro c hc
      unfold fcTr at hc
      rw [cond_false] at hc
      simp only [aI,List.append_nil,List.mem_cons] at hc
      rcases hc with rfl | hc
      · exact f1230
      · exact fIn c hc
end Go.Sx
namespace Go.Sx
open Go.RowKit Go.Proofs
set_option maxRecDepth 100000
theorem lawI_tr:bF (lawIg 4 xsTr) [1,2,3,4,5]=true:=by kernel_rfl
theorem lawU_tr:bF (lawUg 4 xsTr) [true,false]=true:=by kernel_rfl
theorem lawTn_at {L n:Nat} (hL:L ∈ [1,2,3,4,5]) (hn:n≤L):lawTn L n=true:=by
  simp only [List.mem_cons,List.not_mem_nil,or_false] at hL
  have h3:L≤3→1≤L→lawTn L n=true:=fun h h'=>aw (aw lawT3 L (by simp only [List.mem_cons,List.not_mem_nil,or_false]; omega)) n (bV (by omega))
  rcases hL with rfl | rfl | rfl | rfl | rfl
  · exact h3 (by omega) (by omega)
  · exact h3 (by omega) (by omega)
  · exact h3 (by omega) (by omega)
  · exact aw lawT4 n (by simp only [List.mem_cons,List.not_mem_nil,or_false]; omega)
  · have:n=0 ∨ n=1 ∨ n=2 ∨ n=3 ∨ n=4 ∨ n=5:=by omega
    rcases this with rfl | rfl | rfl | rfl | rfl | rfl
    · exact lawT50
    · exact lawT51
    · exact lawT52
    · exact aw lawT53 3 (by simp)
    · exact aw lawT53 4 (by simp)
    · exact aw lawT53 5 (by simp)
theorem blt_f {a b:Nat} (h:b≤a):Nat.blt a b=false:=by
  cases hb:Nat.blt a b with
  | false=>rfl
  | true=>have:=Nat.le_of_ble_eq_true hb; omega
theorem lawTr_at {L n q p:Nat} {kb:Bool} (hL:L ∈ [1,2,3,4,5]) (h:n≤q∧q≤p∧p≤L) (hk:kb=false→n < L):lawTr L n q p kb=true:=by
  have h0:=lawTn_at hL (show n≤L by omega)
  unfold lawTn at h0
  have h1:=aw h0 q (bV (by omega))
  rw [blt_f h.1,cond_false] at h1
  have h2:=aw h1 p (bV (by omega))
  rw [blt_f h.2.1,cond_false] at h2
  simp only [Bool.and_eq_true] at h2
  cases kb
  · have:=h2.2
    rw [show Nat.blt n L=true from Nat.ble_eq_true_of_le (hk rfl),cond_true] at this
    exact this
  · exact h2.1
theorem true_valid (HT:∀ n,1≤n→n≤5→Looks true n) (W:World):∀ L ∈ [1,2,3,4,5],LawM 4 xsTr L W:=fun L hL ρ hcs hpk hpk2=>by
  have hL':=hL
  simp only [List.mem_cons,List.not_mem_nil,or_false] at hL'
  obtain ⟨n,q,p,kb,ρ',q0,q1,hok,A,Ab,Ao⟩:=okTr_of (by omega) (by omega) hcs hpk hpk2
  refine ⟨ρ',A,Ab,Ao,fun E vs he hv hf hg hn ha=>?_⟩
  have B:b7 (aP fun ρ m=>OkTr L n q p kb ρ m) Sx.Tryd.tt.get (tbTr L n q p kb):=Tryd.tab (orcTr L n q p kb) (orcTr_ok (by omega) (by omega) (by omega) (by omega) (HT L (by omega) (by omega))) 2000
  exact law_true (p:=aP fun ρ m=>OkTr L n q p kb ρ m) B hv hf hg hn ha (fh (q:=qTr L kb) (he ▸ hok.qv) (he ▸ hok.fc)) (lawTr_at hL q0 q1) ⟨(Base.of W).has,by rw [he]; exact hok,fun _ _ h=>h⟩
theorem true_any (HT : ∀ n, 1 ≤ n → n ≤ 5 → Looks true n) {W : World} {ρ0 : Rho} (hG : ∀ g ∈ gl, GlobIn W ρ0 g) {nb : Nat → Int} {s : Value} {bb bb' : Option Addr} {bl bc bl' bc' : Nat} {y y' : Nat → Int} (hs : PartsIn W s)
    (hbl:(bl:Int)≤9223372036854775807) (hbc:bl≤bc) (hb:0 < bl→∃ c x cells el fz,bb=some ⟨c,x,none⟩∧W.heap[c]?=some (.cells cells el fz)∧∀ q,q < bl→cells[x + q]?=some (.int .i64 (y q)))
    (hbl':(bl':Int)≤9223372036854775807) (hbc':bl'≤bc') (hb':0 < bl'→∃ c x cells el fz,bb'=some ⟨c,x,none⟩∧W.heap[c]?=some (.cells cells el fz)∧∀ q,q < bl'→cells[x + q]?=some (.int .i64 (y' q))) :
    Calls Tryd.prog 4 #[.agg ((List.range 22).map (fun i=>Value.int .i64 (nb i)) ++ [s]).toArray,.slice bb bl bc,.slice bb' bl' bc'] W fun e W'=>e=.returned (.bool true)∧Below W.heap.size W W' :=
  any_ofM (f:=4) (xs:=xsTr) (vr:=[.slice bb bl bc,.slice bb' bl' bc']) (nu:=fun _=>0) (fun L hL=>aw lawI_tr L hL) (fun many=>aw lawU_tr many (by cases many <;> simp))
    (fun E _ h96 ho h97 ho'=>by
      simp only [xsTr,ad,af,h96,ho,h97,ho',if_true])
    (true_valid HT W) hbl hbc hb hbl' hbc' hb' hG hs
end Go.Sx
