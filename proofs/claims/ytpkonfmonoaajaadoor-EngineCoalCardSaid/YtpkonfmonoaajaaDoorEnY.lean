/- THE LAW OF THE PARTS,for a valid evening: its calls are so,and it holds. -/
import Derived.Test.YtpkonfmonoaajaaDoorEnX
/-! THE LAW OF THE PARTS,for a valid evening: its calls are so,and it holds. -/
namespace Go.Sx
open Go.RowKit Go.Proofs
set_option maxRecDepth 100000
theorem parts_mem {c:BE}:∀ {n b i:Nat},i < n→c ∈ partV (b + 4 * i)→c ∈ partsV n b
  | 0,_,_,h,_=>absurd h (by omega)
  | n + 1,b,0,_,h=>List.mem_append.2 (.inl h)
  | n + 1,b,i + 1,h,hc=>List.mem_append.2 (.inr (parts_mem (n:=n) (b:=b + 4) (i:=i) (by omega) (by rw [show b + 4 + 4 * i=b + 4 * (i + 1) by omega]; exact hc)))
theorem walks_of {L:Nat} {ρ:Rho} (h:∀ c ∈ csV L,c.den ρ=true) {i:Nat} (hi:i < L):∃ W:Nat,W≤5∧ρ.iv (33 + 4 * i)=W:=by
  have k:∀ c ∈ partV (30 + 4 * i),c.den ρ=true:=fun c hc=>h c (List.mem_append.2 (.inr (parts_mem hi hc)))
  simp only [partV,leV,List.mem_cons,List.not_mem_nil,or_false,forall_eq_or_imp,forall_eq,BE.t_leq,IE.den_lit,IE.den_var] at k
  obtain ⟨_,_,_,k4,k5⟩:=k
  rw [show 30 + 4 * i + 3=33 + 4 * i by omega] at k4 k5
  exact ⟨(ρ.iv (33 + 4 * i)).toNat,by omega,by omega⟩
noncomputable def pLw (L m r:Nat):Par:=pLaw fun ρ _=>OkLw L m r ρ
theorem okE_of {L m r:Nat} {ρ:Rho} (h:OkLw L m r ρ) {n:Nat} (hn:n≤L):OkE n ρ:=⟨fun i hi=>walks_of h.cs (by omega),h.e n hn⟩
/-- the texts that say what is so from the beginning of an evening of so many parts -/
structure Looks (q:Bool) (n:Nat):Prop where
  l:LookAt q n 0
  o:ckO q n=true
  p:ckP q n=true
theorem en_said {L m r n:Nat} (hn:n≤L) (h5:L≤5) (H:Looks false n) {args:List AV} {h:Heap} {t:T (AV × Heap)} (e:frontGo (argsO false n) (lS n) (.ret (.bool (.lit (Nat.ble n r)),viewA 2000 (vC (lS n)))) args h=some t):CallOk (pLw L m r) 50 args h t:=by
  have hv:viewOk 2000 (vS n)=true:=by
    have:=H.p
    unfold ckP at this
    simp only [Bool.and_eq_true] at this
    exact this.1
  exact frontGo_ok (p:=pLw L m r) (l:=lS n) (en_lit (ok:=fun ρ _=>OkLw L m r ρ) (fun ρ b k=>⟨okE_of k hn,k.r n hn⟩) (enough_ok (by omega) H.l H.o H.p)) rfl hv e
theorem enGo_ok {L m r:Nat} (h5:L≤5) (H:∀ n,n≤5→Looks false n) {args:List AV} {h:Heap} {t:T (AV × Heap)}:∀ n,n≤L→enGo r args h n=some t→CallOk (pLw L m r) 50 args h t
  | 0,hn,e=>en_said hn h5 (H 0 (by omega)) e
  | n + 1,hn,e=>by
    unfold enGo at e
    split at e
    · rename_i t' e'
      cases e
      exact en_said hn h5 (H (n + 1) (by omega)) e'
    · exact enGo_ok h5 H n (by omega) e
theorem so_said {L m r f n:Nat} (hn:n≤L) (hck:ckBk f n (.bool (.lit true))=true) {args:List AV} {h:Heap} {t:T (AV × Heap)} (e:soGo n args h=some t):CallOk (pLw L m r) f args h t:=by
  have hv:viewOk 2000 (vB n)=true:=by
    have:=hck
    unfold ckBk at this
    simp only [Bool.and_eq_true] at this
    exact this.1
  exact frontGo_ok (p:=pLw L m r) (l:=lB n) (valid_ok (ok:=fun ρ _=>OkLw L m r ρ) hck fun ρ b k c hc=>k.cs c (cs_sub hn hc)) rfl hv e
theorem pl_said {L m r:Nat} (h1:1≤m) (hm:m≤L) (h5:L≤5) (H:Looks true m) (hq:ckQ true m=true) {args:List AV} {h:Heap} {t:T (AV × Heap)} (e:plGo m r args h=some t):CallOk (pLw L m r) 36 args h t:=by
  have hv:viewOk 2000 (vS m)=true:=by
    have:=H.p
    unfold ckP at this
    simp only [Bool.and_eq_true] at this
    exact this.1
  have key:=fun c (hc:Nat.ble m r=c)=>plan_ok (ok:=fun ρ _=>OkLw L m r ρ) (q:=true) (c:=c) h1 (by omega) H.l H.o hq (fun ρ b k=>⟨k.g,(k.b.trans (k.r m hm)).trans hc⟩)
  refine frontGo_ok (p:=pLw L m r) (l:=lS m) ?_ rfl hv e
  cases hb:Nat.ble m r
  · exact key false hb
  · exact key true hb
theorem tu_said {L m r:Nat} (h1:1≤m) (h5:L≤5) {args:List AV} {h:Heap} {t:T (AV × Heap)} (e:tuGo L m args h=some t):CallOk (pLw L m r) 9 args h t:=by
  unfold tuGo at e
  obtain ⟨k,e1⟩:=cond_some e
  clear e
  obtain rfl:=eqAVs_eq _ _ k
  obtain rfl:=Option.some.inj e1
  have at_:CallOk (pLw L m r) 9 [vi 88,li (Int.ofNat L)] h (.br (.cmp .leq (.lit (Int.ofNat L)) big) (.ret (.int .i64 (.app 6 (.var 88) (.lit (Int.ofNat L)) (.lit 0)),h)) (.fail 99)):=turn_orc (p:=pLw L m r) rfl (args:=[vi 88,li (Int.ofNat L)]) (h:=h) rfl
  refine CallOk.read (p0:=pLw L m r) (p:=pLw L m r) rfl at_ fun ρ b hk Q k=>⟨ρ,hk,SameL.refl _ _,⟨rfl,fun j o g=>⟨o,g,SameA.refl o⟩⟩,?_⟩
  obtain ⟨w,hw,_⟩:=hk
  have hw:OkLw L m r ρ:=hw
  simp only [T.Holds]
  rw [if_pos (by rw [BE.t_leq]; show (L:Int)≤9223372036854775807; omega)]
  refine ⟨_,k,SameV.int ?_,rfl,fun j o g=>⟨o,g,SameA.refl o⟩⟩
  show turnF (ρ.iv 88) (L:Int)=((m - 1:Nat):Int)
  rw [hw.t]; omega
theorem orcLw_ok {L m r:Nat} (h1:1≤m) (hm:m≤L) (h5:L≤5) (HT:Looks true m) (HF:∀ n,n≤5→Looks false n):∀ f args h t,orcLw L m r f args h=some t→CallOk (pLw L m r) f args h t:=by
  intro f args h t e
  have vals:∀ n,1≤n→n≤5→ckBk 42 n (.bool (.lit true))=true∧ckBk 7 n (.bool (.lit true))=true:=fun n a b=>by
    have:=lAll_mem valid_all n (by simp only [List.mem_cons,List.not_mem_nil,or_false]; omega)
    simpa only [Bool.and_eq_true] using this
  have hq:ckQ true m=true:=by
    have:=lAll_mem ckQ_all (m - 1) (by simp only [List.mem_cons,List.not_mem_nil,or_false]; omega)
    simp only [Bool.and_eq_true] at this
    rw [show m - 1 + 1=m by omega] at this
    exact this.1
  unfold orcLw at e
  cases h8:Nat.beq f 8 with
  | true=>rw [h8] at e; have:=beq_t.1 h8; subst this; exact CallOk.lift (firedOrc_ok e)
  | false =>
    rw [h8,cond_false] at e
    cases h42:Nat.beq f 42 with
    | true =>
      rw [h42,cond_true] at e
      have:=beq_t.1 h42; subst this
      unfold evGo at e
      split at e
      · rename_i t' e'
        cases e
        exact so_said (Nat.le_refl L) (vals L (by omega) h5).1 e'
      · exact so_said hm (vals m h1 (by omega)).1 e
    | false =>
      rw [h42,cond_false] at e
      cases h7:Nat.beq f 7 with
      | true=>rw [h7,cond_true] at e; have:=beq_t.1 h7; subst this; exact so_said (Nat.le_refl L) (vals L (by omega) h5).2 e
      | false =>
        rw [h7,cond_false] at e
        cases h9:Nat.beq f 9 with
        | true=>rw [h9,cond_true] at e; have:=beq_t.1 h9; subst this; exact tu_said h1 h5 e
        | false =>
          rw [h9,cond_false] at e
          cases h50:Nat.beq f 50 with
          | true=>rw [h50,cond_true] at e; have:=beq_t.1 h50; subst this; exact enGo_ok h5 HF L (Nat.le_refl L) e
          | false =>
            rw [h50,cond_false] at e
            obtain ⟨h36,e⟩:=cond_some e
            have:=beq_t.1 h36; subst this
            exact pl_said h1 hm h5 HT hq e
noncomputable def cntD:Nat→List Nat
  | 0=>[]
  | n + 1=>n :: cntD n
noncomputable def lawAll (L:Nat):Bool:=lAll (fun m=>lAll (fun r=>lawP L (m + 1) r) (cntD (L + 1))) (cntD L)
end Go.Sx
