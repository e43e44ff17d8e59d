/- MxM -/
import Derived.Test.YtlaakbmimplceaaDoorMxO5
import Derived.Test.YtlaakbmimplceaaDoorMxO6
import Derived.Test.YtlaakbmimplceaaDoorMxO
import Derived.Test.YtlaakbmimplceaaDoorRyPc5a
import Derived.Test.YtlaakbmimplceaaDoorRyPc60
import Derived.Test.YtlaakbmimplceaaDoorRyPc62
import Derived.Test.YtlaakbmimplceaaDoorRyPc64
import Derived.Test.YtlaakbmimplceaaDoorRyPc65
import Derived.Test.YtlaakbmimplceaaDoorSxPlain
import Derived.Test.YtlaakbmimplceaaDoorFiPe
import Derived.Test.YtlaakbmimplceaaDoorRyI
import Derived.Test.YtlaakbmimplceaaDoorFiA6
import Derived.Test.YtlaakbmimplceaaDoorFiA7
import Derived.Test.YtlaakbmimplceaaDoorSxOpen
namespace Go.Sx
open Go.RowKit Go.Proofs
set_option maxRecDepth 100000
theorem CallOk.pick0 {p0 p : Par} (hP : p0.P = p.P) {f : FuncId} {args : List AV} {h : Heap} {t : T (AV × Heap)}
  (H : ∀ ρ b, p.okB ρ b → ∀ Q : AV × Heap → Prop, t.Holds ρ Q → ∃ args0 h0 t0, CallOk p0 f args0 h0 t0 ∧ p0.okB ρ b ∧ SameL ρ args ρ args0 ∧ SameH p p0 ρ h ρ h0 ∧ t0.Holds ρ fun r0 => ∃ r, Q r ∧ SameV ρ r0.1 ρ r.1 ∧ SameH p0 p ρ r0.2 ρ r.2) : CallOk p f args h t := by
 intro vs E w0 w Q K k HH ha P
 obtain ⟨args0, h0, t0, hc, hok, hargs, hh, ht⟩ := H E.ρ w0 HH.ok Q k
 have HH0 : HeapOk p0 ⟨E.ρ, E.σ, E.κ, E.n, E.rc⟩ h0 w0 w := HeapOk.read (ρ0 := E.ρ) (σ := E.σ) (κ := E.κ) (n := E.n) (rc := E.rc) HH hh hok
 have ha0 : concL ⟨E.ρ, E.σ, E.κ, E.n, E.rc⟩ args0 = some vs := by
  rw [← hargs E.σ E.κ E.n E.n E.rc E.rc]; exact ha
 have key := hc vs ⟨E.ρ, E.σ, E.κ, E.n, E.rc⟩ w0 w _ K ht HH0 ha0 (fun v' h' E1 w' cv q hle H1 hcv => by
  obtain ⟨r, hq, hv, hs⟩ := q
  have hρ1 : E1.ρ = E.ρ := hle.ρ
  have H2 : HeapOk p ⟨E.ρ, E1.σ, E1.κ, E1.n, E1.rc⟩ r.2 w0 w' := HeapOk.read (ρ0 := E.ρ) (σ := E1.σ) (κ := E1.κ) (n := E1.n) (rc := E1.rc) (by rw [← hρ1]; exact H1) hs HH.ok
  refine P r.1 r.2 ⟨E.ρ, E1.σ, E1.κ, E1.n, E1.rc⟩ w' cv hq ⟨⟨rfl, hle.σ, hle.κ, hle.rc⟩, hle.n, hle.none⟩ H2 ?_
  have := hv E1.σ E1.κ E1.n E1.n E1.rc E1.rc
  rw [← this, ← hρ1]; exact hcv)
 rw [hP] at key
 exact key
theorem permsM_len0 : ∀ (k m : Nat) (l : List Nat), l ∈ permsM k m → l.length = k
 | 0, m, l, h => by rw [permsM, List.mem_singleton] at h; rw [h]; rfl
 | k + 1, m, l, h => by
  rw [permsM, List.mem_flatMap] at h
  obtain ⟨r, hr, h⟩ := h
  obtain ⟨l', h', rfl⟩ := List.mem_map.1 h
  rw [List.length_cons, permsM_len0 k _ l' h']
theorem permsM_lt {L : Nat} (hL : L ≤ 6) : ∀ (k m : Nat) (l : List Nat), m < 2 ^ L → l ∈ permsM k m → ∀ r ∈ l, r < L
 | 0, m, l, _, h, r, hr => by rw [permsM, List.mem_singleton] at h; rw [h] at hr; cases hr
 | k + 1, m, l, hm, h, r, hr => by
  rw [permsM, List.mem_flatMap] at h
  obtain ⟨q, hq, h⟩ := h
  obtain ⟨l', h', rfl⟩ := List.mem_map.1 h
  obtain ⟨f1, f2, _⟩ := (facts_of hL hm).1 q hq
  rcases List.mem_cons.1 hr with rfl | hr
  ·exact f1
  ·exact permsM_lt hL k _ l' f2 h' r hr
theorem ckAr_all {L j r : Nat} (h0 : 1 ≤ L) (hL : L ≤ 6) (hj : 1 ≤ j) (hjL : j ≤ L) (hr : r < L) : ckAr L j r = true := by
 have of : ∀ {L j : Nat}, ckArL L j = true → r < L → ckAr L j r = true := fun h hr => lAll_at (p := ckAr _ _) h (Nat.zero_le _) (by omega)
 rcases six h0 hL with rfl | rfl | rfl | rfl | rfl | rfl
 ·have : j = 1 := by omega
  subst this; exact of ckAr1_1 hr
 ·exact of (lAll_at (p := ckArL 2) ckAr2 hj (by omega)) hr
 ·exact of (lAll_at (p := ckArL 3) ckAr3 hj (by omega)) hr
 ·exact of (lAll_at (p := ckArL 4) ckAr4 hj (by omega)) hr
 ·have : j = 1 ∨ j = 2 ∨ j = 3 ∨ j = 4 ∨ j = 5 := by omega
  rcases this with rfl | rfl | rfl | rfl | rfl
  ·exact of ckAr5_1 hr
  ·exact of ckAr5_2 hr
  ·exact of ckAr5_3 hr
  ·exact of ckAr5_4 hr
  ·exact of ckAr5_5 hr
 ·have : j = 1 ∨ j = 2 ∨ j = 3 ∨ j = 4 ∨ j = 5 ∨ j = 6 := by omega
  have hr6 : r = 0 ∨ r = 1 ∨ r = 2 ∨ r = 3 ∨ r = 4 ∨ r = 5 := by omega
  rcases this with rfl | rfl | rfl | rfl | rfl | rfl
  ·exact of ckAr6_1 hr
  ·exact of ckAr6_2 hr
  ·exact of ckAr6_3 hr
  ·exact of ckAr6_4 hr
  ·rcases hr6 with rfl | rfl | rfl | rfl | rfl | rfl
   ·exact ckAr6_5_0
   ·exact ckAr6_5_1
   ·exact ckAr6_5_2
   ·exact ckAr6_5_3
   ·exact ckAr6_5_4
   ·exact ckAr6_5_5
  ·rcases hr6 with rfl | rfl | rfl | rfl | rfl | rfl
   ·exact ckAr6_6_0
   ·exact ckAr6_6_1
   ·exact ckAr6_6_2
   ·exact ckAr6_6_3
   ·exact ckAr6_6_4
   ·exact ckAr6_6_5
theorem vAr_ok (xs : List IE) : viewOk 2004 (vAr xs) = true := by
 unfold viewOk
 rw [Bool.and_eq_true]
 refine ⟨rfl, lAll_of fun g hg => ?_⟩
 unfold vAr at hg
 rw [List.mem_singleton] at hg
 subst hg
 rw [Bool.and_eq_true]
 exact ⟨rfl, idsI 2004 xs⟩
theorem heap_ar {p p' : Par} {ρ : Rho} {xs ys : List IE} (hp : p.P = p'.P) (h : xs.map (IE.den ρ) = ys.map (IE.den ρ)) : SameH p p' ρ (viewA 2004 (vAr xs)) ρ (viewA 2004 (vAr ys)) := by
 refine ⟨by rw [viewA_next, viewA_next], fun j x g => ?_⟩
 have hm := viewA_get _ _ _ _ g
 unfold vAr at hm
 rw [List.mem_singleton] at hm
 cases hm
 exact ⟨_, viewA_mem 2004 (vAr xs) 0 rfl _ List.mem_cons_self, SameA.cells hp (same_ints h)⟩
noncomputable def pTrue : Par := ⟨Tryd.prog, rcOf Tryd.rows, fun _ _ => True⟩
theorem tabsTrue : TabOk pTrue Sx.Tryd.tt.get tbA := Tryd.tab (fun _ _ _ => none) (fun _ _ _ _ h => by cases h) 2000
theorem litR_den (ρ : Rho) : ∀ l : List Nat, (lMap litR l).map (IE.den ρ) = l.map Int.ofNat
 | [] => rfl
 | a :: l => by
  have e : lMap litR (a :: l) = litR a :: lMap litR l := rfl
  rw [e, List.map_cons, List.map_cons, litR_den ρ l]; rfl
theorem argsAr_ids (L j : Nat) : idsLts 2004 (argsAr L j) = true := rfl
theorem ar_lit {L j : Nat} (h0 : 1 ≤ L) (hL : L ≤ 6) (hj : 1 ≤ j) (hjL : j ≤ L) {l : List Nat} (hl : l ∈ permsM j (fullM L)) : CallOk pTrue 55 (argsAr L j) (viewA 2004 (vAr (lMap litR l))) (.ret (tag true, viewA 2004 (vAr (lMap litR l)))) := by
 have hlen : lLen l = j := (lLen_eq l).trans (permsM_len0 j _ l hl)
 have hck : ckAr1 L l = true := by
  obtain ⟨n, rfl⟩ : ∃ n, j = n + 1 := ⟨j - 1, by omega⟩
  rw [permsM, List.mem_flatMap] at hl
  obtain ⟨r, hr, hl⟩ := hl
  obtain ⟨l', h', rfl⟩ := List.mem_map.1 hl
  have hf : fullM L < 2 ^ L := by
   have : 0 < 2 ^ L := Nat.two_pow_pos L
   show Nat.pow 2 L - 1 < 2 ^ L
   have e : Nat.pow 2 L = 2 ^ L := rfl
   omega
  have := ckAr_all (r := r) h0 hL hj hjL ((facts_of hL hf).1 r hr).1
  exact lAll_mem (p := fun l => ckAr1 L (r :: l)) this l' h'
 have base := eval_ok tabsTrue 60 55 (argsAr L j) (viewA 2004 (vAr (lMap litR l)))
 have fr := base.frame (n := 2004) (l := vAr (lMap litR l)) (by omega) (argsAr_ids L j) (vAr_ok _)
  (fun g hg => ⟨g.2, viewA_mem 2004 (vAr (lMap litR l)) 0 rfl g hg, .refl _⟩) (by rw [viewA_next]; exact Nat.le_refl _) (fun _ => [])
 have tree := eqTF_eq _ _ hck
 unfold runAr at tree
 rw [hlen] at tree
 refine CallOk.read rfl fr fun ρ b hok Q k => ⟨ρ, hok, SameL.refl _ _, ⟨rfl, fun _ o g => ⟨o, g, SameA.refl o⟩⟩, T.holds_enc tree ?_⟩
 have k : Q (tag true, viewA 2004 (vAr (lMap litR l))) := k
 intro r0 he
 simp only [AV.tup.injEq, List.cons.injEq, and_true] at he
 obtain ⟨h1, h2⟩ := he
 simp only [tag, AV.bool.injEq, BE.lit.injEq, Bool.and_eq_true] at h2
 exact ⟨_, k, by rw [h1]; exact SameV.refl _ _, (beq_t.1 h2.2).trans (viewA_next _ _).symm, fun j o g => ⟨o, allO_get h2.1 (viewA_get _ _ _ _ g), SameA.refl o⟩⟩
def Reels (L j : Nat) (ρ : Rho) (xs : List IE) : Prop := ∃ l ∈ permsM j (fullM L), xs.map (IE.den ρ) = l.map Int.ofNat
theorem ar_said {p : Par} (hP : p.P = Tryd.prog) {L j : Nat} (h0 : 1 ≤ L) (hL : L ≤ 6) (hj : 1 ≤ j) (hjL : j ≤ L) (xs : List IE) (hok : ∀ ρ M, p.ok ρ M → Reels L j ρ xs) : CallOk p 55 (argsAr L j) (viewA 2004 (vAr xs)) (.ret (tag true, viewA 2004 (vAr xs))) := by
 refine CallOk.pick0 (p0 := pTrue) (p := p) hP.symm ?_
 intro ρ b ⟨M, k1, k2⟩ Q k
 obtain ⟨l, h1, h2⟩ := hok ρ M k1
 have k : Q (tag true, viewA 2004 (vAr xs)) := k
 have hd : xs.map (IE.den ρ) = (lMap litR l).map (IE.den ρ) := h2.trans (litR_den ρ l).symm
 exact ⟨_, _, _, ar_lit h0 hL hj hjL h1, ⟨M, trivial, k2⟩, SameL.refl _ _, heap_ar hP hd, ⟨_, k, SameV.refl _ _, heap_ar hP.symm hd.symm⟩⟩
noncomputable def stepV (i : Nat) (x1 x2 : IE) : AV := .agg [.int .i64 (.var (110 + i)), .int .i64 x1, .int .i64 x2]
noncomputable def an1 (i : Nat) (x1 x2 : IE) : IE := .app 3001 (.var (110 + i)) x1 x2
noncomputable def an2 (i : Nat) (x1 x2 : IE) : IE := .app 3002 (.var (110 + i)) x1 x2
noncomputable def aftN (i : Nat) (x1 x2 : IE) : AV := .agg [.int .i64 (an1 i x1 x2), .int .i64 (an2 i x1 x2)]
theorem after_name {p : Par} (hP : p.P = Tryd.prog) {L i : Nat} (hok : ∀ ρ m, p.ok ρ m → okA L ρ ∧ ∃ r : Nat, r < L ∧ ρ.iv (110 + i) = r) (h0 : 1 ≤ L) (hL : L ≤ 6) (x1 x2 : IE) : CallOk p 60 [filmK 2003 L, stepV i x1 x2] (viewA 2004 (vA 2003 L false)) (.ret (aftN i x1 x2, viewA 2004 (vA 2003 L false))) := by
 refine CallOk.pick0 (p0 := pA L) (p := p) hP.symm ?_
 intro ρ b ⟨M, k1, k2⟩ Q k
 obtain ⟨a1, r, hr, hv⟩ := hok ρ M k1
 have k : Q (aftN i x1 x2, viewA 2004 (vA 2003 L false)) := k
 have hh : ∀ {p p' : Par}, p.P = p'.P → SameH p p' ρ (viewA 2004 (vA 2003 L false)) ρ (viewA 2004 (vA 2003 L false)) := fun hp => ⟨rfl, fun j o g => ⟨o, g, by
  have hm := viewA_get _ _ _ _ g
  rcases List.mem_cons.1 hm with h | hm
  ·cases h; exact rowsA_same hp hL fun _ _ => rfl
  ·rcases List.mem_cons.1 hm with h | hm
   ·cases h; exact SameA.umap rfl rfl mU_nb
   ·cases hm⟩⟩
 refine ⟨_, _, _, after_said (p := pA L) rfl (b := 2003) (.inr (.inl rfl)) (fun ρ m h => h) h0 hL hr x1 x2, ⟨M, a1, k2⟩, ?_, hh hP, ⟨_, k, ?_, hh hP.symm⟩⟩
 ·exact SameL.cons (SameV.refl _ _) (SameL.cons (SameV.agg (SameL.cons (SameV.int hv) (SameL.refl _ _))) SameL.nil)
 ·refine SameV.agg (SameL.cons (SameV.int ?_) (SameL.cons (SameV.int ?_) SameL.nil))
  ·simp only [af1, an1, IE.den, FI, hv]; rfl
  ·simp only [af2, an2, IE.den, FI, hv]; rfl
end Go.Sx
namespace Go.Sx
noncomputable section
open Go.RowKit Go.Proofs
set_option maxRecDepth 100000
theorem ckLs_all {L k m : Nat} (h0 : 1 ≤ L) (hL : L ≤ 6) (hk : k < L) (hm : m < 2 ^ L) : ckLs L k m = true := by
 rcases six h0 hL with rfl | rfl | rfl | rfl | rfl | rfl
 ·exact lAll_at (p := ckLs 1 k) (lAll_at (p := ckLk 1) kL1 (Nat.zero_le k) (by omega)) (Nat.zero_le m) (by have e : Nat.pow 2 1 = 2 ^ 1 := rfl; omega)
 ·exact lAll_at (p := ckLs 2 k) (lAll_at (p := ckLk 2) kL2 (Nat.zero_le k) (by omega)) (Nat.zero_le m) (by have e : Nat.pow 2 2 = 2 ^ 2 := rfl; omega)
 ·exact lAll_at (p := ckLs 3 k) (lAll_at (p := ckLk 3) kL3 (Nat.zero_le k) (by omega)) (Nat.zero_le m) (by have e : Nat.pow 2 3 = 2 ^ 3 := rfl; omega)
 ·have : k = 0 ∨ k = 1 ∨ k = 2 ∨ k = 3 := by omega
  have hc : m < 8 ∧ 0 ≤ m ∨ m < 16 ∧ 8 ≤ m := by omega
  rcases this with rfl | rfl | rfl | rfl
  ·rcases hc with h | h
   ·exact lAll_at kL4_0_0 (by omega) (by omega)
   ·exact lAll_at kL4_0_8 (by omega) (by omega)
  ·rcases hc with h | h
   ·exact lAll_at kL4_1_0 (by omega) (by omega)
   ·exact lAll_at kL4_1_8 (by omega) (by omega)
  ·rcases hc with h | h
   ·exact lAll_at kL4_2_0 (by omega) (by omega)
   ·exact lAll_at kL4_2_8 (by omega) (by omega)
  ·rcases hc with h | h
   ·exact lAll_at kL4_3_0 (by omega) (by omega)
   ·exact lAll_at kL4_3_8 (by omega) (by omega)
 ·have : k = 0 ∨ k = 1 ∨ k = 2 ∨ k = 3 ∨ k = 4 := by omega
  have hc : m < 8 ∧ 0 ≤ m ∨ m < 16 ∧ 8 ≤ m ∨ m < 24 ∧ 16 ≤ m ∨ m < 32 ∧ 24 ≤ m := by omega
  rcases this with rfl | rfl | rfl | rfl | rfl
  ·rcases hc with h | h | h | h
   ·exact lAll_at kL5_0_0 (by omega) (by omega)
   ·exact lAll_at kL5_0_8 (by omega) (by omega)
   ·exact lAll_at kL5_0_16 (by omega) (by omega)
   ·exact lAll_at kL5_0_24 (by omega) (by omega)
  ·rcases hc with h | h | h | h
   ·exact lAll_at kL5_1_0 (by omega) (by omega)
   ·exact lAll_at kL5_1_8 (by omega) (by omega)
   ·exact lAll_at kL5_1_16 (by omega) (by omega)
   ·exact lAll_at kL5_1_24 (by omega) (by omega)
  ·rcases hc with h | h | h | h
   ·exact lAll_at kL5_2_0 (by omega) (by omega)
   ·exact lAll_at kL5_2_8 (by omega) (by omega)
   ·exact lAll_at kL5_2_16 (by omega) (by omega)
   ·exact lAll_at kL5_2_24 (by omega) (by omega)
  ·rcases hc with h | h | h | h
   ·exact lAll_at kL5_3_0 (by omega) (by omega)
   ·exact lAll_at kL5_3_8 (by omega) (by omega)
   ·exact lAll_at kL5_3_16 (by omega) (by omega)
   ·exact lAll_at kL5_3_24 (by omega) (by omega)
  ·rcases hc with h | h | h | h
   ·exact lAll_at kL5_4_0 (by omega) (by omega)
   ·exact lAll_at kL5_4_8 (by omega) (by omega)
   ·exact lAll_at kL5_4_16 (by omega) (by omega)
   ·exact lAll_at kL5_4_24 (by omega) (by omega)
 ·have : k = 0 ∨ k = 1 ∨ k = 2 ∨ k = 3 ∨ k = 4 ∨ k = 5 := by omega
  have hc : m < 8 ∧ 0 ≤ m ∨ m < 16 ∧ 8 ≤ m ∨ m < 24 ∧ 16 ≤ m ∨ m < 32 ∧ 24 ≤ m ∨ m < 40 ∧ 32 ≤ m ∨ m < 48 ∧ 40 ≤ m ∨ m < 56 ∧ 48 ≤ m ∨ m < 64 ∧ 56 ≤ m := by omega
  rcases this with rfl | rfl | rfl | rfl | rfl | rfl
  ·rcases hc with h | h | h | h | h | h | h | h
   ·exact lAll_at kL6_0_0 (by omega) (by omega)
   ·exact lAll_at kL6_0_8 (by omega) (by omega)
   ·exact lAll_at kL6_0_16 (by omega) (by omega)
   ·exact lAll_at kL6_0_24 (by omega) (by omega)
   ·exact lAll_at kL6_0_32 (by omega) (by omega)
   ·exact lAll_at kL6_0_40 (by omega) (by omega)
   ·exact lAll_at kL6_0_48 (by omega) (by omega)
   ·exact lAll_at kL6_0_56 (by omega) (by omega)
  ·rcases hc with h | h | h | h | h | h | h | h
   ·exact lAll_at kL6_1_0 (by omega) (by omega)
   ·exact lAll_at kL6_1_8 (by omega) (by omega)
   ·exact lAll_at kL6_1_16 (by omega) (by omega)
   ·exact lAll_at kL6_1_24 (by omega) (by omega)
   ·exact lAll_at kL6_1_32 (by omega) (by omega)
   ·exact lAll_at kL6_1_40 (by omega) (by omega)
   ·exact lAll_at kL6_1_48 (by omega) (by omega)
   ·exact lAll_at kL6_1_56 (by omega) (by omega)
  ·rcases hc with h | h | h | h | h | h | h | h
   ·exact lAll_at kL6_2_0 (by omega) (by omega)
   ·exact lAll_at kL6_2_8 (by omega) (by omega)
   ·exact lAll_at kL6_2_16 (by omega) (by omega)
   ·exact lAll_at kL6_2_24 (by omega) (by omega)
   ·exact lAll_at kL6_2_32 (by omega) (by omega)
   ·exact lAll_at kL6_2_40 (by omega) (by omega)
   ·exact lAll_at kL6_2_48 (by omega) (by omega)
   ·exact lAll_at kL6_2_56 (by omega) (by omega)
  ·rcases hc with h | h | h | h | h | h | h | h
   ·exact lAll_at kL6_3_0 (by omega) (by omega)
   ·exact lAll_at kL6_3_8 (by omega) (by omega)
   ·exact lAll_at kL6_3_16 (by omega) (by omega)
   ·exact lAll_at kL6_3_24 (by omega) (by omega)
   ·exact lAll_at kL6_3_32 (by omega) (by omega)
   ·exact lAll_at kL6_3_40 (by omega) (by omega)
   ·exact lAll_at kL6_3_48 (by omega) (by omega)
   ·exact lAll_at kL6_3_56 (by omega) (by omega)
  ·rcases hc with h | h | h | h | h | h | h | h
   ·exact lAll_at kL6_4_0 (by omega) (by omega)
   ·exact lAll_at kL6_4_8 (by omega) (by omega)
   ·exact lAll_at kL6_4_16 (by omega) (by omega)
   ·exact lAll_at kL6_4_24 (by omega) (by omega)
   ·exact lAll_at kL6_4_32 (by omega) (by omega)
   ·exact lAll_at kL6_4_40 (by omega) (by omega)
   ·exact lAll_at kL6_4_48 (by omega) (by omega)
   ·exact lAll_at kL6_4_56 (by omega) (by omega)
  ·rcases hc with h | h | h | h | h | h | h | h
   ·exact lAll_at kL6_5_0 (by omega) (by omega)
   ·exact lAll_at kL6_5_8 (by omega) (by omega)
   ·exact lAll_at kL6_5_16 (by omega) (by omega)
   ·exact lAll_at kL6_5_24 (by omega) (by omega)
   ·exact lAll_at kL6_5_32 (by omega) (by omega)
   ·exact lAll_at kL6_5_40 (by omega) (by omega)
   ·exact lAll_at kL6_5_48 (by omega) (by omega)
   ·exact lAll_at kL6_5_56 (by omega) (by omega)
theorem ckL_at {L k m q : Nat} (h0 : 1 ≤ L) (hL : L ≤ 6) (hk : k < L) (hm : m < 2 ^ L) (hq : cond (bt m k) (q = 0) (q < L - cnt m)) : ckL L k m q = true := by
 have h : ckLs L k m = true := ckLs_all h0 hL hk hm
 unfold ckLs at h
 cases hb : bt m k with
 | true => rw [hb] at h hq; have hq : q = 0 := hq; subst hq; exact h
 | false => rw [hb] at h hq; exact lAll_at (p := ckL L k m) h (Nat.zero_le _) (by have hq : q < L - cnt m := hq; omega)
theorem atF_over {ρ : Rho} (g : Nat → Int) (k : Nat) : ∀ (n p m : Nat) (a b : Int) (j : Nat), atF (ρ.over g) k n p m a b j = atF ρ k n p m a b j
 | 0, _, _, _, _, _ => rfl
 | n + 1, p, m, a, b, j => by
  simp only [atF]
  have key : ∀ l : List Nat, (∀ r ∈ l, r < 6) → (l.any fun r => !decide (aftF (ρ.over g) r a b = (0, 0)) && (if r = k then decide (j = p) && !noneF (ρ.over g) n (del m r) (aftF (ρ.over g) r a b).1 (aftF (ρ.over g) r a b).2 else atF (ρ.over g) k n (p + 1) (del m r) (aftF (ρ.over g) r a b).1 (aftF (ρ.over g) r a b).2 j)) =
    l.any fun r => !decide (aftF ρ r a b = (0, 0)) && (if r = k then decide (j = p) && !noneF ρ n (del m r) (aftF ρ r a b).1 (aftF ρ r a b).2 else atF ρ k n (p + 1) (del m r) (aftF ρ r a b).1 (aftF ρ r a b).2 j) := by
   intro l
   induction l with
   | nil => intro _; rfl
   | cons r l ih =>
    intro hl
    rw [List.any_cons, List.any_cons, ih fun r hr => hl r (List.mem_cons_of_mem _ hr), aftF_over (hl r List.mem_cons_self), noneF_over, atF_over g k n]
  exact key _ fun r hr => rsOf_lt hr
theorem okPl_over {L k : Nat} (hL : L ≤ 6) {ρ : Rho} (g : Nat → Int) (h : okPl L k ρ) : okPl L k (ρ.over g) :=
 ⟨okT_over hL g h.1, fun m j hm hj a b => by rw [atF_over]; exact h.2 m j hm hj a b⟩
theorem leftL_zero {L : Nat} {ρ : Rho} (h : okT L ρ) (hL : L ≤ 6) (x1 x2 : IE) (xs : List IE) (hx : xs.length = 6) : dens ρ (leftL L 0 (L - cnt 0) x1 x2 xs) = dens ρ xs := by
 unfold leftL
 refine (dens_mapI (g := fun _ o => o) xs 0 fun j o _ hj => ?_).trans (mapZ_id _ 0)
 have hm : (0 : Nat) < 2 ^ L := Nat.two_pow_pos L
 cases Nat.ble (L - cnt 0) j with
 | false => rfl
 | true => rw [cond_true, left_den h hm hL _ _ (by omega), (facts_of hL hm).2.1 rfl]; rfl
theorem P_base {L k m q : Nat} (h0 : 1 ≤ L) (hL : L ≤ 6) (hk : k < L) (hm : m < 2 ^ L) (hq : cond (bt m k) (q = 0) (q < L - cnt m)) (B : TabOk (pL L k (knM L k m q)) Sx.Tryd.tt.get (tbL L k (knM L k m q) (cnt m))) :
  CallOk (pL L k (knM L k m q)) 76 (argsL L m (.var 500) (.var 501)) (viewA 2020 (vL L k (vsQ k m q) bs6)) (.ret (leafL L k m q (.var 500) (.var 501) (vsQ k m q) bs6)) := by
 have base := eval_ok B 100 76 (argsL L m (.var 500) (.var 501)) (viewA 2020 (vL L k (vsQ k m q) bs6))
 have up : upA 0 (vL L k (vsQ k m q) bs6) = true := rfl
 have fr : CallOk (pL L k (knM L k m q)) 76 (argsL L m (.var 500) (.var 501)) (viewA 2020 (vL L k (vsQ k m q) bs6)) (runL L k m q) := base.frame (n := 2020) (l := vL L k (vsQ k m q) bs6) (by omega) rfl (viewL_ok h0 hL (by omega) _ _)
  (fun g hg => ⟨g.2, viewA_mem 2020 _ 0 up g hg, .refl _⟩) (by rw [viewA_next]; exact Nat.le_refl _) (fun _ => [])
 have tree : ((runL L k m q).bind fun r => T.ret (encL L k r)) = expL L k m q := eqTF_eq _ _ (ckL_at h0 hL hk hm hq)
 refine CallOk.read rfl fr fun ρ b hok Q kk => ⟨ρ, hok, SameL.refl _ _, ⟨rfl, fun _ o g => ⟨o, g, SameA.refl o⟩⟩, T.holds_enc tree ?_⟩
 obtain ⟨_, hT, _⟩ := hok
 have hT : okPl L k ρ ∧ ∀ j, j < knM L k m q → ρ.iv (510 + j) ≠ (k : Int) := hT
 have kk : Q (leafL L k m q (.var 500) (.var 501) (vsQ k m q) bs6) := kk
 have h64 := lt64 hL hm
 have hcl := cnt_le' hm
 obtain ⟨f1, f2, f3⟩ := facts_of hL hm
 have done : ∀ (cs : List IE) (ps : List BE), dens ρ cs = dens ρ (leftL L m (L - cnt m) (.var 500) (.var 501) (vsQ k m q)) → densB ρ ps = densB ρ (psL L k m q (.var 500) (.var 501) bs6) → ∀ r0, encL L k r0 = lfL cs ps → ∃ q0, Q q0 ∧ SameV ρ r0.1 ρ q0.1 ∧ SameH (pL L k (knM L k m q)) (pL L k (knM L k m q)) ρ r0.2 ρ q0.2 := by
  intro cs ps hd hs r0 he
  obtain ⟨h1, h2, h3, h4, h5⟩ := encL_eq he
  refine ⟨_, kk, by rw [h1]; exact SameV.refl _ _, h3.trans (viewA_next _ _).symm, fun j c g => ?_⟩
  rcases vL_mem (viewA_get _ _ _ _ g) with hm | ⟨rfl, rfl⟩ | ⟨rfl, rfl⟩
  ·exact ⟨c, allO_get h2 hm, SameA.refl c⟩
  ·exact ⟨_, h4, SameA.cells rfl (same_ints hd)⟩
  ·exact ⟨_, h5, SameA.cells rfl (same_bools hs)⟩
 show (expL L k m q).Holds ρ _
 unfold expL
 cases hz : Nat.beq m 0 with
 | true =>
  rw [cond_true]
  have hm0 : m = 0 := beq_t.1 hz
  subst hm0
  have hb : bt 0 k = false := by
   have : k = 0 ∨ k = 1 ∨ k = 2 ∨ k = 3 ∨ k = 4 ∨ k = 5 := by omega
   rcases this with rfl | rfl | rfl | rfl | rfl | rfl <;> rfl
  have hkn : knM L k 0 q = q := by unfold knM; rw [hb]; rfl
  refine chP_holds (fun j hj => hT.2 j (by rw [hkn]; exact hj)) (done _ _ (leftL_zero hT.1.1 hL _ _ _ (vsQ_len k 0 q)).symm ?_) q 0 rfl
  have e : psL L k 0 q (.var 500) (.var 501) bs6 = mapB (fun j s => cond (Nat.beq j q) (.lit true) s) bs6 0 := by
   unfold psL
   congr 1
   funext j s
   unfold psF
   rw [hb]
   rfl
  rw [e]
 | false =>
  rw [cond_false]
  have hm0 : m ≠ 0 := fun h => by rw [beq_t.2 h] at hz; cases hz
  obtain ⟨n, hn⟩ : ∃ n, cnt m = n + 1 := ⟨cnt m - 1, by have := f3 hm0; omega⟩
  rw [hn]
  refine tPl_holds (n := n) (p := L - (n + 1)) hT.1 rfl (by omega) hL (rsOf m) (vsQ k m q) bs6 (fun r hr => ?_) (vsQ_len k m q) rfl fun cs' ps' hlen hd hs => done _ _ (hd.trans ?_) (hs.trans ?_)
  ·obtain ⟨q1, q2, q3, q4⟩ := f1 r hr
   exact ⟨q1, q2, by omega⟩
  ·unfold leftL
   rw [hn]
   refine (dens_mapI (vsQ k m q) 0 fun j o _ hj => ?_).symm
   have hj : j < 6 := by rw [vsQ_len] at hj; omega
   by_cases hp : L - (n + 1) ≤ j
   ·rw [ble_t.2 hp, cond_true, left_den hT.1.1 hm hL _ _ (by omega), hn]
    rfl
   ·have : Nat.ble (L - (n + 1)) j = false := by
     cases hb : Nat.ble (L - (n + 1)) j with
     | false => rfl
     | true => exact absurd (ble_t.1 hb) hp
    rw [this, cond_false]
    refine (foldl_id _ _ fun o r => ?_).symm
    unfold stepF
    split
    ·rfl
    ·rw [if_pos (by omega)]
  ·unfold psL
   refine (densB_mapB bs6 0 fun j s hj => ?_).symm
   have hj : j < 6 := by have e : bs6.length = 6 := rfl; rw [e] at hj; omega
   rw [psF_den hT.1 hL hm q _ _ (by omega), hn, ← conP_all ρ h64 (show k < 6 by omega) (show L - (n + 1) < L by omega)]
theorem vL_same {L k kn kn' : Nat} (h0 : 1 ≤ L) (hL : L ≤ 6) (hk : k < 6) {ρ ρ' : Rho} (hA : Alike ρ ρ') {xs ys : List IE} {ps qs : List BE} (h : xs.map (IE.den ρ) = ys.map (IE.den ρ')) (ho : ps.map (BE.den ρ) = qs.map (BE.den ρ')) : SameH (pL L k kn) (pL L k kn') ρ (viewA 2020 (vL L k xs ps)) ρ' (viewA 2020 (vL L k ys qs)) := by
 refine ⟨by rw [viewA_next, viewA_next], fun j c g => ?_⟩
 have up : upA 0 (vL L k xs ps) = true := rfl
 have get : ∀ {b c}, (b, c) ∈ vL L k xs ps → (viewA 2020 (vL L k xs ps)).get b = some c := fun hm => viewA_mem 2020 _ 0 up _ hm
 rcases vL_mem (viewA_get _ _ _ _ g) with hm | ⟨rfl, rfl⟩ | ⟨rfl, rfl⟩
 ·have := lAll_mem (preL_ok h0 hL hk) (j, c) hm
  unfold okH at this
  rw [Bool.and_eq_true] at this
  exact ⟨c, get (vL_pre hm), SameA.pl hA this.1⟩
 ·exact ⟨_, get vL_arr, SameA.cells rfl (same_ints h)⟩
 ·exact ⟨_, get vL_ps, SameA.cells rfl (same_bools ho)⟩
theorem psF_same {ρ ρ' : Rho} (hb : ρ'.fb = ρ.fb) (L k m q : Nat) {x1 x2 y1 y2 : IE} (e1 : y1.den ρ' = x1.den ρ) (e2 : y2.den ρ' = x2.den ρ) (j : Nat) {s s' : BE} (hs : s'.den ρ' = s.den ρ) : (psF L k m q y1 y2 j s').den ρ' = (psF L k m q x1 x2 j s).den ρ := by
 have hat : (atE k m y1 y2 j).den ρ' = (atE k m x1 x2 j).den ρ := by unfold atE; simp only [BE.den, hb, e1, e2, IE.den]
 have hno : (noneE m y1 y2).den ρ' = (noneE m x1 x2).den ρ := by unfold noneE; simp only [BE.den, hb, e1, e2, IE.den]
 unfold psF orT
 cases bt m k <;> cases Nat.ble (j + 1) L <;> cases Nat.beq j q <;> cases Nat.beq m 0 <;> simp only [cond_true, cond_false, orB_den, BE.den, hs, hat, hno]
theorem psL_same {ρ ρ' : Rho} (hb : ρ'.fb = ρ.fb) (L k m q : Nat) {x1 x2 y1 y2 : IE} (e1 : y1.den ρ' = x1.den ρ) (e2 : y2.den ρ' = x2.den ρ) : ∀ (ps qs : List BE) (j : Nat), qs.map (BE.den ρ') = ps.map (BE.den ρ) → (mapB (psF L k m q y1 y2) qs j).map (BE.den ρ') = (mapB (psF L k m q x1 x2) ps j).map (BE.den ρ)
 | [], [], _, _ => rfl
 | [], _ :: _, _, h => by simp at h
 | _ :: _, [], _, h => by simp at h
 | s :: ps, s' :: qs, j, h => by
  simp only [List.map_cons, List.cons.injEq] at h
  rw [mapB_cons, mapB_cons, List.map_cons, List.map_cons, psF_same hb L k m q e1 e2 j h.1, psL_same hb L k m q e1 e2 ps qs (j + 1) h.2]
theorem six_bools {ρ : Rho} {f : Nat → Int} : ∀ (ps : List BE), ps.length = 6 → (∀ i s, ps[i]? = some s → f (530 + i) = if s.den ρ then 1 else 0) → [decide (f 530 = 1), decide (f 531 = 1), decide (f 532 = 1), decide (f 533 = 1), decide (f 534 = 1), decide (f 535 = 1)] = ps.map (BE.den ρ)
 | [s0, s1, s2, s3, s4, s5], _, h => by
  have b : ∀ s : BE, decide ((if s.den ρ = true then (1 : Int) else 0) = 1) = s.den ρ := fun s => by cases s.den ρ <;> rfl
  rw [show f 530 = _ from h 0 s0 rfl, show f 531 = _ from h 1 s1 rfl, show f 532 = _ from h 2 s2 rfl, show f 533 = _ from h 3 s3 rfl, show f 534 = _ from h 4 s4 rfl, show f 535 = _ from h 5 s5 rfl]
  simp only [b, List.map_cons, List.map_nil]
theorem P_said {L k m q kn : Nat} (h0 : 1 ≤ L) (hL : L ≤ 6) (hk : k < L) (hm : m < 2 ^ L) (hq : bt m k = false → q < L - cnt m) (B : ∀ kn, TabOk (pL L k kn) Sx.Tryd.tt.get (tbL L k kn (cnt m))) (x1 x2 : IE) {xs : List IE} {ps : List BE} (hx : xs.length = 6) (hs : ps.length = 6)
  (hX : ∀ ρ : Rho, (∀ j, j < kn → ρ.iv (510 + j) ≠ (k : Int)) → (∀ j x, j < knM L k m q → xs[j]? = some x → x.den ρ ≠ (k : Int)) ∧ (bt m k = false → ∀ x, xs[q]? = some x → x.den ρ = (k : Int))) :
  CallOk (pL L k kn) 76 (argsL L m x1 x2) (viewA 2020 (vL L k xs ps)) (.ret (leafL L k m q x1 x2 xs ps)) := by
 let q0 := cond (bt m k) 0 q
 have hq0 : cond (bt m k) (q0 = 0) (q0 < L - cnt m) := by
  show cond (bt m k) (cond (bt m k) 0 q = 0) (cond (bt m k) 0 q < L - cnt m)
  cases hb : bt m k with
  | true => rfl
  | false => exact hq hb
 have hkn : knM L k m q0 = knM L k m q := by
  unfold knM
  show cond (bt m k) _ (cond (bt m k) 0 q) = _
  cases bt m k <;> rfl
 have hps : ∀ y1 y2 l, psL L k m q0 y1 y2 l = psL L k m q y1 y2 l := fun y1 y2 l => by
  unfold psL
  congr 1
  funext j s
  unfold psF
  show cond (bt m k) _ (cond (Nat.beq j (cond (bt m k) 0 q)) _ _) = _
  cases bt m k <;> rfl
 refine CallOk.read (p0 := pL L k (knM L k m q0)) (p := pL L k kn) rfl (P_base h0 hL hk hm hq0 (B _)) ?_
 intro ρ _ ⟨mm, k1, k2⟩ Q kk
 obtain ⟨k1, k3⟩ := k1
 obtain ⟨X1, X2⟩ := hX ρ k3
 let g : Nat → Int := fun j => if j = 500 then x1.den ρ else if j = 501 then x2.den ρ else if j < 530 then ((xs.map (IE.den ρ))[j - 510]?).getD 0 else if ((ps.map (BE.den ρ))[j - 530]?).getD false then 1 else 0
 have hA : Alike ρ (ρ.over g) := Rho.over_alike ρ g
 have e1 : (IE.var 500).den (ρ.over g) = x1.den ρ := rfl
 have e2 : (IE.var 501).den (ρ.over g) = x2.den ρ := rfl
 have g510 : ∀ i, i < 6 → (ρ.over g).iv (510 + i) = ((xs.map (IE.den ρ))[i]?).getD 0 := fun i hi => by
  rw [over_ge (by omega)]
  simp only [g, if_neg (show ¬ 510 + i = 500 by omega), if_neg (show ¬ 510 + i = 501 by omega), if_pos (show 510 + i < 530 by omega), Nat.add_sub_cancel_left]
 have xat : ∀ i, i < 6 → ∃ x, xs[i]? = some x ∧ (ρ.over g).iv (510 + i) = x.den ρ := fun i hi => by
  have hi' : i < xs.length := by omega
  refine ⟨xs[i], List.getElem?_eq_getElem hi', ?_⟩
  rw [g510 i hi, List.getElem?_map, List.getElem?_eq_getElem hi']
  rfl
 have ev : vs6.map (IE.den (ρ.over g)) = xs.map (IE.den ρ) := six_list (xs.map (IE.den ρ)) (by rw [List.length_map]; exact hx) g fun i hi => by
  simp only [g, if_neg (show ¬ 510 + i = 500 by omega), if_neg (show ¬ 510 + i = 501 by omega), if_pos (show 510 + i < 530 by omega), Nat.add_sub_cancel_left]
 have ex : (vsQ k m q0).map (IE.den (ρ.over g)) = xs.map (IE.den ρ) := by
  rw [← ev]
  have key : ∀ j, j < 6 → (cond (bt m k) (IE.var (510 + j)) (cond (Nat.beq j q0) (.lit (Int.ofNat k)) (.var (510 + j)))).den (ρ.over g) = (IE.var (510 + j)).den (ρ.over g) := fun j hj => by
   cases hb : bt m k with
   | true => rfl
   | false =>
    rw [cond_false]
    cases hj2 : Nat.beq j q0 with
    | false => rfl
    | true =>
     rw [cond_true]
     have : q0 = q := by show cond (bt m k) 0 q = q; rw [hb]; rfl
     have hjq : j = q := (beq_t.1 hj2).trans this
     obtain ⟨x, hx1, hx2⟩ := xat j hj
     show (k : Int) = (ρ.over g).iv (510 + j)
     rw [hx2]
     exact (X2 hb x (hjq ▸ hx1)).symm
  have e : vsQ k m q0 = [0, 1, 2, 3, 4, 5].map fun j => cond (bt m k) (IE.var (510 + j)) (cond (Nat.beq j q0) (.lit (Int.ofNat k)) (.var (510 + j))) := rfl
  have e6 : vs6 = [0, 1, 2, 3, 4, 5].map fun j => IE.var (510 + j) := rfl
  rw [e, e6, List.map_map, List.map_map]
  refine List.map_congr_left fun j hj => ?_
  simp only [List.mem_cons, List.not_mem_nil, or_false] at hj
  exact key j (by omega)
 have eb : bs6.map (BE.den (ρ.over g)) = ps.map (BE.den ρ) := six_bools (f := fun j => (ρ.over g).iv j) ps hs fun i s his => by
  have hi : i < ps.length := (List.getElem?_eq_some_iff.1 his).1
  show (ρ.over g).iv (530 + i) = _
  rw [over_ge (by omega)]
  simp only [g, if_neg (show ¬ 530 + i = 500 by omega), if_neg (show ¬ 530 + i = 501 by omega), if_neg (show ¬ 530 + i < 530 by omega), Nat.add_sub_cancel_left]
  rw [List.getElem?_map, his]
  rfl
 have eLeft : (leftL L m (L - cnt m) (.var 500) (.var 501) (vsQ k m q0)).map (IE.den (ρ.over g)) = (leftL L m (L - cnt m) x1 x2 xs).map (IE.den ρ) := by
  have a1 := dens_mapI (ρ := ρ.over g) (f := fun j o => cond (Nat.ble (L - cnt m) j) (leftE L m (.var 500) (.var 501) j o) o) (g := fun j o => cond (Nat.ble (L - cnt m) j) (FI ρ.fi (5000 + 600 * L + 8 * m + j) (x1.den ρ) (x2.den ρ) o) o) (vsQ k m q0) 0 fun i o _ _ => by
   cases Nat.ble (L - cnt m) i <;> rfl
  have a2 := dens_mapI (ρ := ρ) (f := fun j o => cond (Nat.ble (L - cnt m) j) (leftE L m x1 x2 j o) o) (g := fun j o => cond (Nat.ble (L - cnt m) j) (FI ρ.fi (5000 + 600 * L + 8 * m + j) (x1.den ρ) (x2.den ρ) o) o) xs 0 fun i o _ _ => by
   cases Nat.ble (L - cnt m) i <;> rfl
  unfold dens at a1 a2
  unfold leftL
  rw [a1, a2, ex]
 have ePs : (psL L k m q0 (.var 500) (.var 501) bs6).map (BE.den (ρ.over g)) = (psL L k m q x1 x2 ps).map (BE.den ρ) := by
  rw [hps]
  exact psL_same (ρ := ρ) (ρ' := ρ.over g) rfl L k m q e1 e2 ps bs6 0 eb
 refine ⟨ρ.over g, ⟨mm, ⟨okPl_over hL g k1, fun j hj => ?_⟩, k2⟩, ?_, vL_same h0 hL (by omega) hA ex.symm eb.symm, ?_⟩
 ·have hcl := cnt_le' hm
  have hj6 : j < 6 := by
   rw [hkn] at hj
   unfold knM at hj
   cases hb : bt m k with
   | true => rw [hb] at hj; have hj : j < L - cnt m := hj; omega
   | false => rw [hb] at hj; have hj : j < q := hj; have := hq hb; omega
  obtain ⟨x, hx1, hx2⟩ := xat j hj6
  rw [hx2]
  exact X1 j x (by rw [← hkn]; exact hj) hx1
 ·unfold argsL
  have hb : SameV ρ (bitsA m) (ρ.over g) (bitsA m) := SameV.agg (SameL.cons (SameV.bool rfl) (SameL.cons (SameV.bool rfl) (SameL.cons (SameV.bool rfl) (SameL.cons (SameV.bool rfl) (SameL.cons (SameV.bool rfl) (SameL.cons (SameV.bool rfl) SameL.nil))))))
  exact SameL.cons (SameV.int rfl) (SameL.cons hb (SameL.cons (SameV.agg (SameL.cons (SameV.int e1.symm) (SameL.cons (SameV.int e2.symm) SameL.nil))) (SameL.pl hA ptrsP rfl)))
 ·exact ⟨_, kk, SameV.bool rfl, vL_same h0 hL (by omega) hA.symm eLeft ePs⟩
theorem isLitN_den {k : Nat} {x : IE} (h : isLitN k x = true) (ρ : Rho) : x.den ρ = (k : Int) := by
 unfold isLitN at h
 split at h
 ·rw [← beq_t.1 h]; rfl
 ·cases h
theorem notK_den {k kn : Nat} {x : IE} (h : notK k kn x = true) {ρ : Rho} (hf : ∀ j, j < kn → ρ.iv (510 + j) ≠ (k : Int)) : x.den ρ ≠ (k : Int) := by
 unfold notK at h
 split at h
 ·rename_i n
  intro e
  have e : (n : Int) = k := e
  have : n = k := by omega
  rw [beq_t.2 this] at h; cases h
 ·rename_i i
  rw [Bool.and_eq_true] at h
  have h1 := ble_t.1 h.1
  have h2 := ble_t.1 h.2
  have := hf (i - 510) (by omega)
  rw [show 510 + (i - 510) = i by omega] at this
  exact this
 ·cases h
theorem okX_ok {k kn n : Nat} {ρ : Rho} (hf : ∀ j, j < kn → ρ.iv (510 + j) ≠ (k : Int)) : ∀ (xs : List IE) (i : Nat), okX k kn n xs i = true → ∀ j x, i + j < n → xs[j]? = some x → x.den ρ ≠ (k : Int)
 | [], _, _, j, x, _, h => by simp at h
 | a :: l, i, h, j, x, hj, hx => by
  have h : cond (Nat.ble (i + 1) n) (and (notK k kn a) (okX k kn n l (i + 1))) true = true := h
  rw [ble_t.2 (by omega), cond_true, Bool.and_eq_true] at h
  cases j with
  | zero => simp only [List.getElem?_cons_zero, Option.some.injEq] at hx; subst hx; exact notK_den h.1 hf
  | succ j => exact okX_ok hf l (i + 1) h.2 j x (by omega) (by simpa using hx)
theorem nthI_get : ∀ (xs : List IE) (j : Nat) (x : IE), xs[j]? = some x → nthI xs j = x
 | [], j, x, h => by simp at h
 | a :: l, 0, x, h => by simp only [List.getElem?_cons_zero, Option.some.injEq] at h; exact h
 | a :: l, j + 1, x, h => nthI_get l j x (by simpa using h)
theorem lenB_eq : ∀ l : List BE, lenB l = l.length
 | [] => rfl
 | a :: l => by
  have e : lenB (a :: l) = lenB l + 1 := rfl
  rw [e, lenB_eq l]; rfl
theorem orcT3_ok {L k kn c : Nat} (h0 : 1 ≤ L) (hL : L ≤ 6) (hk : k < L) (B : ∀ c', c' < c → ∀ kn, TabOk (pL L k kn) Sx.Tryd.tt.get (tbL L k kn c')) {args : List AV} {h : Heap} {t : T (AV × Heap)} (e : orcT3 L k kn c args h = some t) : CallOk (pL L k kn) 76 args h t := by
 unfold orcT3 at e
 split at e
 ·split at e
  ·rename_i m xs ps _ _ _
   obtain ⟨hc, e2⟩ := cond_some e
   clear e
   simp only [Bool.and_eq_true] at hc
   obtain ⟨⟨i1, i2, i3⟩, ⟨⟨i4, i5⟩, i6, i7⟩, i8⟩ := hc
   rw [eqAVs_eq _ _ i1]
   cases e2
   have hx : xs.length = 6 := by rw [← lLen_eq]; exact beq_t.1 i4
   have hs : ps.length = 6 := by rw [← lenB_eq]; exact beq_t.1 i5
   have hm := ltP_t i2
   refine (P_said h0 hL hk hm (fun hb => ?_) (B _ (ble_t.1 i3)) _ _ hx hs fun ρ hf => ⟨fun j x hj hjx => ?_, fun hb x hqx => ?_⟩).frame (n := 2020) (by omega) rfl (viewL_ok h0 hL (by omega) xs ps) (lessAll_ok i7) (ble_t.1 i8) (fun _ => [])
   ·unfold knX at i6
    rw [hb, cond_false] at i6
    simp only [Bool.and_eq_true] at i6
    exact ble_t.1 i6.2.1
   ·unfold knX at i6
    unfold knM at hj
    cases hb : bt m k with
    | true => rw [hb] at i6 hj; exact okX_ok hf xs 0 i6 j x (by rw [Nat.zero_add]; exact hj) hjx
    | false =>
     rw [hb, cond_false] at i6
     rw [hb] at hj
     simp only [Bool.and_eq_true] at i6
     exact okX_ok hf xs 0 i6.1 j x (by rw [Nat.zero_add]; exact hj) hjx
   ·unfold knX at i6
    rw [hb, cond_false] at i6
    simp only [Bool.and_eq_true] at i6
    have := isLitN_den i6.2.2 ρ
    rw [nthI_get xs _ x hqx] at this
    exact this
  ·cases e
 ·cases e
theorem tabsL {L k : Nat} (h0 : 1 ≤ L) (hL : L ≤ 6) (hk : k < L) (c : Nat) : ∀ kn, TabOk (pL L k kn) Sx.Tryd.tt.get (tbL L k kn c) := by
 induction c using Nat.strongRecOn with
 | ind c ih =>
  intro kn
  refine Tryd.tab (orcL3 L k kn c) (fun f args h t e => ?_) 2000
  unfold orcL3 at e
  cases h1 : Nat.beq f 60 with
  | true =>
   rw [h1, cond_true] at e
   rw [beq_t.1 h1]
   exact orcA_ok (p := pL L k kn) rfl (.inl rfl) (fun ρ m h => h.1.1.1) h0 hL e
  | false =>
   rw [h1, cond_false] at e
   obtain ⟨h2, e⟩ := cond_some e
   rw [beq_t.1 h2]
   exact orcT3_ok h0 hL hk ih e
end
end Go.Sx
namespace Go.Sx
noncomputable section
open Go.RowKit Go.Proofs
set_option maxRecDepth 100000
def nmL (j : Nat) : List IE := lMap IE.var (upN j 110)
def vJr (L : Nat) (xs : List IE) : List (Nat × AObj) := vK L ++ [(2001, ro (lMap iA xs))]
def argsJr (L j : Nat) : List AV := [filmF L, .sliceX 2001 1 0 j]
def smallJ (n : Nat) (args0 : List AV) (l : List (Nat × AObj)) (t : T (AV × Heap)) (args : List AV) (h : Heap) : Option (T (AV × Heap)) :=
 cond (and (eqAVs args args0) (and (lessAll h l) (Nat.ble n h.next))) (some (t.bind fun r => graftT n l h [] r)) none
theorem smallJ_ok {p : Par} {f : FuncId} {n : Nat} {args0 : List AV} {l : List (Nat × AObj)} {t : T (AV × Heap)} (hc : CallOk p f args0 (viewA n l) t) (hn : 1000 ≤ n) (ha : idsLts n args0 = true) (hv : viewOk n l = true)
  {args : List AV} {h : Heap} {u : T (AV × Heap)} (e : smallJ n args0 l t args h = some u) : CallOk p f args h u := by
 unfold smallJ at e
 obtain ⟨h1, e2⟩ := cond_some e
 clear e
 simp only [Bool.and_eq_true] at h1
 obtain ⟨i1, i2, i3⟩ := h1
 rw [eqAVs_eq _ _ i1]
 cases e2
 exact hc.frame (n := n) hn ha hv (lessAll_ok i2) (ble_t.1 i3) (fun _ => [])
def orcAn (L j : Nat) (args : List AV) (h : Heap) : Option (T (AV × Heap)) :=
 match args with
 | [_, .agg [.int _ (.var v), .int _ x1, .int _ x2]] => cond (and (Nat.ble 110 v) (Nat.ble (v + 1) (110 + j))) (smallJ 2004 [filmK 2003 L, stepV (v - 110) x1 x2] (vA 2003 L false) (.ret (aftN (v - 110) x1 x2, viewA 2004 (vA 2003 L false))) args h) none
 | _ => none
def orcIs (L j : Nat) (f : FuncId) (args : List AV) (h : Heap) : Option (T (AV × Heap)) :=
 cond (Nat.beq f 38) (orcK L args h) (cond (Nat.beq f 55) (smallJ 2004 (argsAr L j) (vAr (nmL j)) (.ret (tag true, viewA 2004 (vAr (nmL j)))) args h) (cond (Nat.beq f 60) (orcAn L j args h) none))
def tbIs (L j : Nat) : Tabs := ⟨Sx.Tryd.ft.get, lFind Sx.Tryd.rt, 2000, orcIs L j⟩
def runIs (L j : Nat) : T (AV × Heap) := (evalN (tbIs L j) 100 false 10 (argsJr L j) (viewA 2002 (vJr L (nmL j)))).bind fun r => graftT 2002 (vJr L (nmL j)) (viewA 2002 (vJr L (nmL j))) [] r
def encIs (L j : Nat) (q : AV × Heap) : AV := .tup [q.1, tag (and (allO q.2 (vJr L (nmL j))) (Nat.beq q.2.next 2002))]
def lfIs (b : Bool) : AV := .tup [.tup [tag b, ln 0], tag true]
def isT (n : Nat) : Nat → IE → IE → T AV := @Nat.rec (fun _ => Nat → IE → IE → T AV) (fun _ _ _ => .ret (lfIs true)) (fun _ ih i x1 x2 => .br (.and (.cmp .eql (an1 i x1 x2) (.lit 0)) (.and (.cmp .eql (an2 i x1 x2) (.lit 0)) (.lit true))) (.ret (lfIs false)) (ih (i + 1) (an1 i x1 x2) (an2 i x1 x2))) n
def ckIs (L j : Nat) : Bool := eqTF ((runIs L j).bind fun q => .ret (encIs L j q)) (isT j 0 (.lit 0) (.lit 100))
def ckIsL (L : Nat) : Bool := lAll (ckIs L) (upN L 1)
theorem ckIs1 : ckIsL 1 = true := by kernel_rfl
theorem ckIs2 : ckIsL 2 = true := by kernel_rfl
theorem ckIs3 : ckIsL 3 = true := by kernel_rfl
theorem ckIs4 : ckIsL 4 = true := by kernel_rfl
theorem ckIs5 : ckIsL 5 = true := by kernel_rfl
theorem ckIs6 : ckIsL 6 = true := by kernel_rfl
end
end Go.Sx
namespace Go.Sx
open Go.RowKit Go.Proofs
set_option maxRecDepth 100000
noncomputable def orcPw (L k : Nat) (f : FuncId) (args : List AV) (h : Heap) : Option (T (AV × Heap)) :=
 cond (Nat.beq f 38) (orcK L args h) (orcL3 L k 0 7 f args h)
noncomputable def tbPw (L k : Nat) : Tabs := ⟨Sx.Tryd.ft.get, lFind Sx.Tryd.rt, 2000, orcPw L k⟩
noncomputable def pPw (L k : Nat) : Par := ⟨Tryd.prog, rcOf Tryd.rows, fun ρ _ => okPl L k ρ ∧ okFilm L ρ⟩
theorem tabsPw {L k : Nat} (h0 : 1 ≤ L) (hL : L ≤ 6) (hk : k < L) : TabOk (pPw L k) Sx.Tryd.tt.get (tbPw L k) := by
 refine Tryd.tab (orcPw L k) (fun f args h t e => ?_) 2000
 unfold orcPw at e
 cases h1 : Nat.beq f 38 with
 | true =>
  rw [h1, cond_true] at e
  refine CallOk.weak (fun ρ m h => ⟨h.1.1, h.2⟩) ((tabsF h0 hL).orc f args h t ?_)
  show orcF L f args h = some t
  unfold orcF
  rw [h1, cond_true]
  exact e
 | false =>
  rw [h1, cond_false] at e
  exact CallOk.weak (fun ρ m h => ⟨h.1, fun j hj => absurd hj (Nat.not_lt_zero j)⟩) ((tabsL h0 hL hk 7 0).orc f args h t e)
noncomputable def nwPw (r : AV × Heap) : List Nat :=
 match r.1 with
 | .tup [.sliceX b _ _ _, _] => [b]
 | _ => []
noncomputable def runPw (L k : Nat) : T (AV × Heap) := (evalN (tbPw L k) 100 false 15 [filmF L, ln k] (viewA 2000 (vK L))).bind fun r => graftT 2000 (vK L) (viewA 2000 (vK L)) (nwPw r) r
noncomputable def bP (L k j : Nat) : BE := atE k (fullM L) (.lit 0) (.lit 100) j
noncomputable def offE (L k : Nat) : BE := @List.rec Nat (fun _ => BE) (.lit true) (fun j _ ih => .and (.iff (bP L k j) (.lit false)) ih) (upN L 0)
noncomputable def forkT {α : Type} (c : Nat → BE) (leaf : List Nat → T α) (l : List Nat) : List Nat → T α := @List.rec Nat (fun _ => List Nat → T α) (fun acc => leaf acc) (fun j _ ih acc => .br (c j) (ih (acc ++ [j])) (ih acc)) l
noncomputable def optL (l : List Nat) : Option (List Nat) :=
 match l with
 | [] => none
 | _ :: _ => some l
noncomputable def expPw (L k : Nat) : T AV := .br (offE L k) (.ret (.tup [tag true, ln 4, tag true])) (forkT (bP L k) (fun l => .ret (expLf (optL l))) (upN L 0) [])
noncomputable def ckPw (L k : Nat) : Bool := eqTF ((runPw L k).bind fun q => .ret (encS L q)) (expPw L k)
theorem forkT_cons {α : Type} (c : Nat → BE) (leaf : List Nat → T α) (j : Nat) (l acc : List Nat) : forkT c leaf (j :: l) acc = .br (c j) (forkT c leaf l (acc ++ [j])) (forkT c leaf l acc) := rfl
theorem forkT_holds {α : Type} {ρ : Rho} {c : Nat → BE} {leaf : List Nat → T α} {R : α → Prop} : ∀ (l acc : List Nat), (leaf (acc ++ l.filter fun j => (c j).den ρ)).Holds ρ R → (forkT c leaf l acc).Holds ρ R
 | [], acc, h => by rw [List.filter_nil, List.append_nil] at h; exact h
 | j :: l, acc, h => by
  rw [forkT_cons]
  simp only [T.Holds]
  rw [List.filter_cons] at h
  split
  ·rename_i hc
   rw [if_pos hc] at h
   exact forkT_holds l (acc ++ [j]) (by rw [List.append_assoc]; exact h)
  ·rename_i hc
   rw [if_neg hc] at h
   exact forkT_holds l acc h
theorem forkT_map {α β : Type} {ρ : Rho} {c : Nat → BE} {leaf : List Nat → T α} {leaf' : List Nat → T β} {Q : α → Prop} {R : β → Prop} (hm : ∀ l, (leaf l).Holds ρ Q → (leaf' l).Holds ρ R) : ∀ (l acc : List Nat), (forkT c leaf l acc).Holds ρ Q → (forkT c leaf' l acc).Holds ρ R
 | [], acc, h => hm acc h
 | j :: l, acc, h => by
  rw [forkT_cons] at h ⊢
  simp only [T.Holds] at h ⊢
  split
  ·rename_i hc; rw [if_pos hc] at h; exact forkT_map hm l _ h
  ·rename_i hc; rw [if_neg hc] at h; exact forkT_map hm l _ h
noncomputable def saidPw (L k : Nat) : T (AV × Heap) := .br (offE L k) (.ret (noneVF, viewA 2000 (vK L))) (forkT (bP L k) (fun l => .ret (leafS L (optL l))) (upN L 0) [])
theorem ckPw1_0 : ckPw 1 0 = true := by kernel_rfl
theorem ckPw2_0 : ckPw 2 0 = true := by kernel_rfl
theorem ckPw2_1 : ckPw 2 1 = true := by kernel_rfl
theorem ckPw3_0 : ckPw 3 0 = true := by kernel_rfl
theorem ckPw3_1 : ckPw 3 1 = true := by kernel_rfl
theorem ckPw3_2 : ckPw 3 2 = true := by kernel_rfl
theorem ckPw4_0 : ckPw 4 0 = true := by kernel_rfl
theorem ckPw4_1 : ckPw 4 1 = true := by kernel_rfl
theorem ckPw4_2 : ckPw 4 2 = true := by kernel_rfl
theorem ckPw4_3 : ckPw 4 3 = true := by kernel_rfl
theorem ckPw5_0 : ckPw 5 0 = true := by kernel_rfl
theorem ckPw5_1 : ckPw 5 1 = true := by kernel_rfl
theorem ckPw5_2 : ckPw 5 2 = true := by kernel_rfl
theorem ckPw5_3 : ckPw 5 3 = true := by kernel_rfl
theorem ckPw5_4 : ckPw 5 4 = true := by kernel_rfl
theorem ckPw6_0 : ckPw 6 0 = true := by kernel_rfl
theorem ckPw6_1 : ckPw 6 1 = true := by kernel_rfl
theorem ckPw6_2 : ckPw 6 2 = true := by kernel_rfl
theorem ckPw6_3 : ckPw 6 3 = true := by kernel_rfl
theorem ckPw6_4 : ckPw 6 4 = true := by kernel_rfl
theorem ckPw6_5 : ckPw 6 5 = true := by kernel_rfl
theorem ckPw_all {L k : Nat} (h0 : 1 ≤ L) (hL : L ≤ 6) (hk : k < L) : ckPw L k = true := by
 rcases six h0 hL with rfl | rfl | rfl | rfl | rfl | rfl
 ·have : k = 0 := by omega
  subst this
  ·exact ckPw1_0
 ·have : k = 0 ∨ k = 1 := by omega
  rcases this with rfl | rfl
  ·exact ckPw2_0
  ·exact ckPw2_1
 ·have : k = 0 ∨ k = 1 ∨ k = 2 := by omega
  rcases this with rfl | rfl | rfl
  ·exact ckPw3_0
  ·exact ckPw3_1
  ·exact ckPw3_2
 ·have : k = 0 ∨ k = 1 ∨ k = 2 ∨ k = 3 := by omega
  rcases this with rfl | rfl | rfl | rfl
  ·exact ckPw4_0
  ·exact ckPw4_1
  ·exact ckPw4_2
  ·exact ckPw4_3
 ·have : k = 0 ∨ k = 1 ∨ k = 2 ∨ k = 3 ∨ k = 4 := by omega
  rcases this with rfl | rfl | rfl | rfl | rfl
  ·exact ckPw5_0
  ·exact ckPw5_1
  ·exact ckPw5_2
  ·exact ckPw5_3
  ·exact ckPw5_4
 ·have : k = 0 ∨ k = 1 ∨ k = 2 ∨ k = 3 ∨ k = 4 ∨ k = 5 := by omega
  rcases this with rfl | rfl | rfl | rfl | rfl | rfl
  ·exact ckPw6_0
  ·exact ckPw6_1
  ·exact ckPw6_2
  ·exact ckPw6_3
  ·exact ckPw6_4
  ·exact ckPw6_5
theorem places_free {L k : Nat} (h0 : 1 ≤ L) (hL : L ≤ 6) (hk : k < L) : CallOk (pPw L k) 15 [filmF L, ln k] (viewA 2000 (vK L)) (saidPw L k) := by
 have base := eval_ok (tabsPw h0 hL hk) 100 15 [filmF L, ln k] (viewA 2000 (vK L))
 have up : upA 0 (vK L) = true := rfl
 have fr : CallOk (pPw L k) 15 [filmF L, ln k] (viewA 2000 (vK L)) (runPw L k) := base.frame (n := 2000) (l := vK L) (by omega) rfl (viewK_ok h0 hL)
  (fun g hg => ⟨g.2, viewA_mem 2000 _ 0 up g hg, .refl _⟩) (by rw [viewA_next]; exact Nat.le_refl _) nwPw
 refine CallOk.read rfl fr fun ρ b hok Q kk => ⟨ρ, hok, SameL.refl _ _, ⟨rfl, fun _ o g => ⟨o, g, SameA.refl o⟩⟩, T.holds_enc (eqTF_eq _ _ (ckPw_all h0 hL hk)) ?_⟩
 unfold saidPw at kk
 unfold expPw
 simp only [T.Holds] at kk ⊢
 split
 ·rename_i hc
  rw [if_pos hc] at kk
  intro r0 he
  unfold encS at he
  split at he
  ·rename_i e hv
   simp only [AV.tup.injEq, List.cons.injEq, and_true, true_and] at he
   obtain ⟨h1, h2⟩ := he
   simp only [tag, AV.bool.injEq, BE.lit.injEq, Bool.and_eq_true] at h2
   exact ⟨_, kk, by rw [hv, h1]; exact SameV.refl _ _, (beq_t.1 h2.2).trans (viewA_next _ _).symm, fun j o g => ⟨o, allO_get h2.1 (viewA_get _ _ _ _ g), SameA.refl o⟩⟩
  ·simp at he
 ·rename_i hc
  rw [if_neg hc] at kk
  refine forkT_map (fun l kl => ?_) _ _ kk
  have kl : Q (leafS L (optL l)) := kl
  show ∀ r0, encS L r0 = expLf (optL l) → _
  intro r0 he
  cases l with
  | nil =>
   obtain ⟨h1, h2, h3⟩ := encS_none he
   exact ⟨_, kl, by rw [h1]; exact SameV.refl _ _, h3.trans (viewA_next _ _).symm, fun j o g => ⟨o, allO_get h2 (viewA_get _ _ _ _ g), SameA.refl o⟩⟩
  | cons a l =>
   obtain ⟨h1, h2, h3, h4⟩ := encS_some he
   refine ⟨_, kl, by rw [h1]; exact SameV.refl _ _, h3.trans (viewA_next _ _).symm, fun j o g => ?_⟩
   have hm := viewA_get _ _ _ _ g
   unfold vS at hm
   rcases List.mem_append.1 hm with hm | hm
   ·exact ⟨o, allO_get h2 hm, SameA.refl o⟩
   ·rw [List.mem_singleton] at hm
    cases hm
    exact ⟨_, h4, SameA.refl _⟩
theorem offE_den {L k : Nat} {ρ : Rho} (h : ∃ j, j < L ∧ (bP L k j).den ρ = true) : (offE L k).den ρ = false := by
 obtain ⟨j, hj, hd⟩ := h
 have key : ∀ l : List Nat, j ∈ l → (@List.rec Nat (fun _ => BE) (.lit true) (fun j _ ih => .and (.iff (bP L k j) (.lit false)) ih) l : BE).den ρ = false := by
  intro l
  induction l with
  | nil => intro h; cases h
  | cons a l ih =>
   intro h
   show (BE.and (.iff (bP L k a) (.lit false)) (@List.rec Nat (fun _ => BE) (.lit true) (fun j _ ih => .and (.iff (bP L k j) (.lit false)) ih) l)).den ρ = false
   simp only [BE.den]
   rcases List.mem_cons.1 h with rfl | h
   ·rw [hd]; rfl
   ·rw [ih h, Bool.and_false]
 exact key _ (mem_upN L 0 j (Nat.zero_le _) (by omega))
theorem bP_den {L k : Nat} {ρ : Rho} (h0 : 1 ≤ L) (hL : L ≤ 6) (h : okPl L k ρ) {j : Nat} (hj : j < L) : (bP L k j).den ρ = atF ρ k L 0 (fullM L) 0 100 j := by
 have hf : fullM L < 2 ^ L := by
  have : 0 < 2 ^ L := Nat.two_pow_pos L
  show Nat.pow 2 L - 1 < 2 ^ L
  have e : Nat.pow 2 L = 2 ^ L := rfl
  omega
 have hc : cnt (fullM L) = L := by rcases six h0 hL with rfl | rfl | rfl | rfl | rfl | rfl <;> rfl
 have := at_den h hf (.lit 0) (.lit 100) (show j < 8 by omega)
 rw [hc, Nat.sub_self] at this
 exact this
end Go.Sx
namespace Go.Sx
noncomputable section
open Go.RowKit Go.Proofs
set_option maxRecDepth 100000
theorem ckIs_all {L j : Nat} (h0 : 1 ≤ L) (hL : L ≤ 6) (hj : 1 ≤ j) (hjL : j ≤ L) : ckIs L j = true := by
 have of : ∀ {L : Nat}, ckIsL L = true → j ≤ L → ckIs L j = true := fun h hr => lAll_at (p := ckIs _) h hj (by omega)
 rcases six h0 hL with rfl | rfl | rfl | rfl | rfl | rfl
 ·exact of ckIs1 hjL
 ·exact of ckIs2 hjL
 ·exact of ckIs3 hjL
 ·exact of ckIs4 hjL
 ·exact of ckIs5 hjL
 ·exact of ckIs6 hjL
theorem nmL_at {ρ : Rho} {j : Nat} {l : List Nat} (h : (nmL j).map (IE.den ρ) = l.map Int.ofNat) (hl : l.length = j) {i : Nat} (hi : i < j) : ∃ r, l[i]? = some r ∧ ρ.iv (110 + i) = (r : Int) := by
 have hi' : i < l.length := by omega
 refine ⟨l[i], List.getElem?_eq_getElem hi', ?_⟩
 have e : ((nmL j).map (IE.den ρ))[i]? = (l.map Int.ofNat)[i]? := by rw [h]
 have up : ∀ (n k i : Nat), i < n → (upN n k)[i]? = some (k + i) := by
  intro n
  induction n with
  | zero => intro k i h; omega
  | succ n ih =>
   intro k i h
   cases i with
   | zero => rfl
   | succ i =>
    simp only [upN, List.getElem?_cons_succ]
    rw [ih (k + 1) i (by omega)]
    congr 1; omega
 unfold nmL at e
 rw [lMap_eq, List.map_map, List.getElem?_map, List.getElem?_map, up j 110 i hi, List.getElem?_eq_getElem hi'] at e
 simpa [IE.den] using e
theorem viewJr_ok {L : Nat} (h0 : 1 ≤ L) (hL : L ≤ 6) (xs : List IE) : viewOk 2002 (vJr L xs) = true := by
 have k : viewOk 2002 (vK L) = true := by rcases six h0 hL with rfl | rfl | rfl | rfl | rfl | rfl <;> kernel_rfl
 unfold viewOk at k ⊢
 rw [Bool.and_eq_true] at k ⊢
 refine ⟨rfl, ?_⟩
 unfold vJr
 refine lAll_app k.2 (lAll_cons ?_ rfl)
 rw [Bool.and_eq_true]
 exact ⟨rfl, idsI 2002 xs⟩
theorem vA_ok {L : Nat} (h0 : 1 ≤ L) (hL : L ≤ 6) : viewOk 2004 (vA 2003 L false) = true := viewA_ok (.inr (.inl rfl)) L h0 hL false
section
variable {ok : Rho → (Nat → Obj → Prop) → Prop} {L j : Nat} (h0 : 1 ≤ L) (hL : L ≤ 6) (hj : 1 ≤ j) (hjL : j ≤ L) (hok : ∀ ρ m, ok ρ m → okA L ρ ∧ okFilm L ρ ∧ Reels L j ρ (nmL j))
include h0 hL hj hjL hok
theorem orcIs_ok : ∀ f args h t, orcIs L j f args h = some t → CallOk ⟨Tryd.prog, rcOf Tryd.rows, ok⟩ f args h t := by
 intro f args h t e
 unfold orcIs at e
 cases h1 : Nat.beq f 38 with
 | true =>
  rw [h1, cond_true] at e
  rw [beq_t.1 h1]
  unfold orcK at e
  obtain ⟨hc, e2⟩ := cond_some e
  clear e
  simp only [Bool.and_eq_true] at hc
  obtain ⟨i1, i2, i3⟩ := hc
  rw [eqAVs_eq _ _ i1]
  cases e2
  have hk : CallOk ⟨Tryd.prog, rcOf Tryd.rows, ok⟩ 38 [filmF L] (viewA 2000 (vK L)) (.ret (knowV L 2000, viewA 2001 (vK2 L))) := CallOk.weak (fun ρ m h => (hok ρ m h).2.1) (know_said h0 hL)
  exact hk.frame (n := 2000) (by omega) rfl (viewK_ok h0 hL) (lessAll_ok i2) (ble_t.1 i3) nwM
 | false =>
  rw [h1, cond_false] at e
  cases h2 : Nat.beq f 55 with
  | true =>
   rw [h2, cond_true] at e
   rw [beq_t.1 h2]
   exact smallJ_ok (ar_said (p := ⟨Tryd.prog, rcOf Tryd.rows, ok⟩) rfl h0 hL hj hjL (nmL j) fun ρ M h => (hok ρ M h).2.2) (by omega) (argsAr_ids L j) (vAr_ok _) e
  | false =>
   rw [h2, cond_false] at e
   obtain ⟨h3, e⟩ := cond_some e
   rw [beq_t.1 h3]
   unfold orcAn at e
   split at e
   ·rename_i k0 v k1 x1 k2 x2 _
    obtain ⟨h4, e⟩ := cond_some e
    rw [Bool.and_eq_true] at h4
    have v1 := ble_t.1 h4.1
    have v2 := ble_t.1 h4.2
    refine smallJ_ok (after_name (p := ⟨Tryd.prog, rcOf Tryd.rows, ok⟩) rfl (fun ρ m h => ⟨(hok ρ m h).1, ?_⟩) h0 hL _ _) (by omega) rfl (vA_ok h0 hL) e
    obtain ⟨l, hl, hx⟩ := (hok ρ m h).2.2
    obtain ⟨r, r1, r2⟩ := nmL_at hx (permsM_len0 j _ l hl) (show v - 110 < j by omega)
    exact ⟨r, permsM_lt hL j _ l (fullM_lt0 (L := L)) hl r (List.mem_of_getElem? r1), r2⟩
   ·cases e
end
theorem isT_holds {L : Nat} {ρ : Rho} (hA : okA L ρ) {R : AV → Prop} : ∀ (l : List Nat) (i : Nat) (x1 x2 : IE), (∀ (t r : Nat), l[t]? = some r → ρ.iv (110 + (i + t)) = (r : Int) ∧ r < L) → R (lfIs (chainF ρ l (x1.den ρ) (x2.den ρ))) → (isT l.length i x1 x2).Holds ρ R
 | [], i, x1, x2, _, h => h
 | r :: l, i, x1, x2, hn, h => by
  obtain ⟨v, hr⟩ := hn 0 r rfl
  have v : ρ.iv (110 + i) = (r : Int) := v
  have hh := (hA r hr).2 (x1.den ρ) (x2.den ρ)
  have d1 : (an1 i x1 x2).den ρ = (aftF ρ r (x1.den ρ) (x2.den ρ)).1 := by
   unfold an1; simp only [IE.den, FI, v]; exact hh.1
  have d2 : (an2 i x1 x2).den ρ = (aftF ρ r (x1.den ρ) (x2.den ρ)).2 := by
   unfold an2; simp only [IE.den, FI, v]; exact hh.2
  have e : isT (r :: l).length i x1 x2 = .br (.and (.cmp .eql (an1 i x1 x2) (.lit 0)) (.and (.cmp .eql (an2 i x1 x2) (.lit 0)) (.lit true))) (.ret (lfIs false)) (isT l.length (i + 1) (an1 i x1 x2) (an2 i x1 x2)) := rfl
  rw [e]
  simp only [T.Holds]
  have key : (BE.and (.cmp .eql (an1 i x1 x2) (.lit 0)) (.and (.cmp .eql (an2 i x1 x2) (.lit 0)) (.lit true))).den ρ = true ↔ aftF ρ r (x1.den ρ) (x2.den ρ) = (0, 0) := by
   rw [BE.t_and, BE.t_and, BE.t_eql, BE.t_eql, d1, d2, Prod.ext_iff]
   simp [IE.den, BE.den]
  split
  ·rename_i hc
   have h0 := key.1 hc
   simp only [chainF, h0, decide_true, Bool.not_true, Bool.false_and] at h
   exact h
  ·rename_i hc
   have h0 : ¬ aftF ρ r (x1.den ρ) (x2.den ρ) = (0, 0) := fun hh => hc (key.2 hh)
   simp only [chainF, decide_eq_false h0, Bool.not_false, Bool.true_and] at h
   refine isT_holds hA l (i + 1) _ _ (fun t q hq => ?_) (by rw [d1, d2]; exact h)
   have := hn (t + 1) q (by simpa using hq)
   rw [show i + 1 + t = i + (t + 1) by omega]
   exact this
theorem is_said {ok : Rho → (Nat → Obj → Prop) → Prop} {L j : Nat} (h0 : 1 ≤ L) (hL : L ≤ 6) (hj : 1 ≤ j) (hjL : j ≤ L) (so : BE)
  (hok : ∀ ρ m, ok ρ m → okA L ρ ∧ okFilm L ρ ∧ ∃ l ∈ permsM j (fullM L), (nmL j).map (IE.den ρ) = l.map Int.ofNat ∧ so.den ρ = chainF ρ l 0 100) :
  CallOk ⟨Tryd.prog, rcOf Tryd.rows, ok⟩ 10 (argsJr L j) (viewA 2002 (vJr L (nmL j))) (.ret (.tup [.bool so, ln 0], viewA 2002 (vJr L (nmL j)))) := by
 have B : TabOk ⟨Tryd.prog, rcOf Tryd.rows, ok⟩ Sx.Tryd.tt.get (tbIs L j) := Tryd.tab (orcIs L j) (orcIs_ok h0 hL hj hjL fun ρ m h => by
  obtain ⟨k1, k2, l, k3, k4, _⟩ := hok ρ m h
  exact ⟨k1, k2, l, k3, k4⟩) 2000
 have base := eval_ok B 100 10 (argsJr L j) (viewA 2002 (vJr L (nmL j)))
 have up : upA 0 (vJr L (nmL j)) = true := rfl
 have fr : CallOk ⟨Tryd.prog, rcOf Tryd.rows, ok⟩ 10 (argsJr L j) (viewA 2002 (vJr L (nmL j))) (runIs L j) := base.frame (n := 2002) (l := vJr L (nmL j)) (by omega) rfl (viewJr_ok h0 hL _)
  (fun g hg => ⟨g.2, viewA_mem 2002 _ 0 up g hg, .refl _⟩) (by rw [viewA_next]; exact Nat.le_refl _) (fun _ => [])
 refine CallOk.read rfl fr fun ρ b hok' Q k => ⟨ρ, hok', SameL.refl _ _, ⟨rfl, fun _ o g => ⟨o, g, SameA.refl o⟩⟩, T.holds_enc (eqTF_eq _ _ (ckIs_all h0 hL hj hjL)) ?_⟩
 obtain ⟨m, hm, _⟩ := hok'
 obtain ⟨k1, k2, l, k3, k4, k5⟩ := hok ρ m hm
 have k : Q (.tup [.bool so, ln 0], viewA 2002 (vJr L (nmL j))) := k
 have hlen := permsM_len0 j _ l k3
 have key := isT_holds (L := L) k1 (R := fun a => ∀ r0, encIs L j r0 = a → ∃ q, Q q ∧ SameV ρ r0.1 ρ q.1 ∧ SameH ⟨Tryd.prog, rcOf Tryd.rows, ok⟩ ⟨Tryd.prog, rcOf Tryd.rows, ok⟩ ρ r0.2 ρ q.2) l 0 (.lit 0) (.lit 100) (fun t r ht => by
  have ht2 : t < l.length := (List.getElem?_eq_some_iff.1 ht).1
  obtain ⟨q, q1, q2⟩ := nmL_at k4 hlen (show t < j by omega)
  rw [ht] at q1
  cases q1
  rw [Nat.zero_add]
  exact ⟨q2, permsM_lt hL j _ l (fullM_lt0 (L := L)) k3 r (List.mem_of_getElem? ht)⟩) (fun r0 he => by
  unfold encIs lfIs at he
  simp only [AV.tup.injEq, List.cons.injEq, and_true] at he
  obtain ⟨h1, h2⟩ := he
  simp only [tag, AV.bool.injEq, BE.lit.injEq, Bool.and_eq_true] at h2
  refine ⟨_, k, ?_, (beq_t.1 h2.2).trans (viewA_next _ _).symm, fun j o g => ⟨o, allO_get h2.1 (viewA_get _ _ _ _ g), SameA.refl o⟩⟩
  rw [h1]
  refine SameV.tup (SameL.cons (SameV.bool ?_) (SameL.refl _ _))
  rw [k5]; rfl)
 rw [hlen] at key
 exact key
end
end Go.Sx
namespace Go.Sx
noncomputable section
open Go.RowKit Go.Proofs
set_option maxRecDepth 100000
theorem at_some {ρ : Rho} {L k : Nat} (hL : L ≤ 6) (hk : k < L) : ∀ (n p m : Nat) (a b : Int), m < 2 ^ L → cnt m = n → bt m k = true → noneF ρ n m a b = false → ∃ j, p ≤ j ∧ j < p + n ∧ atF ρ k n p m a b j = true
 | 0, p, m, a, b, hm, hc, hb, _ => by
  have : m = 0 := by
   rcases Nat.eq_zero_or_pos m with h | h
   ·exact h
   ·have := (facts_of hL hm).2.2 (by omega); omega
  subst this
  have e : bt 0 k = false := by
   have : k = 0 ∨ k = 1 ∨ k = 2 ∨ k = 3 ∨ k = 4 ∨ k = 5 := by omega
   rcases this with rfl | rfl | rfl | rfl | rfl | rfl <;> rfl
  rw [e] at hb; cases hb
 | n + 1, p, m, a, b, hm, hc, hb, hn => by
  rw [noneF, List.all_eq_false] at hn
  obtain ⟨r, hr, hv⟩ := hn
  simp only [Bool.or_eq_true, not_or, Bool.not_eq_true] at hv
  obtain ⟨v1, v2⟩ := hv
  obtain ⟨q1, q2, q3, _⟩ := (facts_of hL hm).1 r hr
  have h64 := lt64 hL hm
  by_cases hrk : r = k
  ·refine ⟨p, Nat.le_refl _, by omega, ?_⟩
   rw [atF, List.any_eq_true]
   exact ⟨r, hr, by rw [v1, if_pos hrk, v2]; simp⟩
  ·have hd : bt (del m r) k = true := by rw [del_k h64 hr (by omega), hb, beq_f.2 (fun h => hrk h.symm)]; rfl
   obtain ⟨j, j1, j2, j3⟩ := at_some hL hk n (p + 1) (del m r) _ _ q2 (by omega) hd v2
   refine ⟨j, by omega, by omega, ?_⟩
   rw [atF, List.any_eq_true]
   exact ⟨r, hr, by rw [v1, if_neg hrk, j3]; rfl⟩
def fbX (ρ : Rho) (L k : Nat) (f : Nat) (a b c : Int) : Bool := if 20000 + 512 * k ≤ f ∧ f < 20512 + 512 * k then atF ρ k (cnt ((f - 20000 - 512 * k) / 8)) (L - cnt ((f - 20000 - 512 * k) / 8)) ((f - 20000 - 512 * k) / 8) a b ((f - 20000 - 512 * k) % 8) else fbW ρ f a b c
theorem atF_like {ρ ρ' : Rho} (h : LikeF ρ ρ') (k : Nat) : ∀ (n p m : Nat) (a b : Int) (j : Nat), atF ρ k n p m a b j = atF ρ' k n p m a b j
 | 0, _, _, _, _, _ => rfl
 | n + 1, p, m, a, b, j => by
  simp only [atF]
  have key : ∀ l : List Nat, (∀ r ∈ l, r < 6) → (l.any fun r => !decide (aftF ρ r a b = (0, 0)) && (if r = k then decide (j = p) && !noneF ρ n (del m r) (aftF ρ r a b).1 (aftF ρ r a b).2 else atF ρ k n (p + 1) (del m r) (aftF ρ r a b).1 (aftF ρ r a b).2 j)) =
    l.any fun r => !decide (aftF ρ' r a b = (0, 0)) && (if r = k then decide (j = p) && !noneF ρ' n (del m r) (aftF ρ' r a b).1 (aftF ρ' r a b).2 else atF ρ' k n (p + 1) (del m r) (aftF ρ' r a b).1 (aftF ρ' r a b).2 j) := by
   intro l
   induction l with
   | nil => intro _; rfl
   | cons r l ih =>
    intro hl
    rw [List.any_cons, List.any_cons, ih fun r hr => hl r (List.mem_cons_of_mem _ hr), aftF_like h (hl r List.mem_cons_self), noneF_like h, atF_like h k n]
  exact key _ fun r hr => rsOf_lt hr
theorem cntF_like {ρ ρ' : Rho} (h : LikeF ρ ρ') : ∀ (k m : Nat) (a b : Int), cntF ρ k m a b = cntF ρ' k m a b
 | 0, _, _, _ => rfl
 | k + 1, m, a, b => by
  simp only [cntF]
  have key : ∀ (l : List Nat) (s : Nat), (∀ r ∈ l, r < 6) → l.foldl (fun s r => if aftF ρ r a b = (0, 0) then s else s + cntF ρ k (del m r) (aftF ρ r a b).1 (aftF ρ r a b).2) s = l.foldl (fun s r => if aftF ρ' r a b = (0, 0) then s else s + cntF ρ' k (del m r) (aftF ρ' r a b).1 (aftF ρ' r a b).2) s := by
   intro l
   induction l with
   | nil => intro s _; rfl
   | cons r l ih =>
    intro s hl
    simp only [List.foldl_cons]
    rw [aftF_like h (hl r List.mem_cons_self), cntF_like h k]
    exact ih _ fun r hr => hl r (List.mem_cons_of_mem _ hr)
  exact key _ 0 fun r hr => rsOf_lt hr
theorem fbX_low {ρ : Rho} {L k f : Nat} (h : f < 20000) (a b c : Int) : fbX ρ L k f a b c = fbW ρ f a b c := by unfold fbX; rw [if_neg (by omega)]
theorem okX_of {L k : Nat} (hL : L ≤ 6) {ρ ρ0 : Rho} (h : LikeF ρ ρ0) (hfi : ρ.fi = fiW ρ0) (hfb : ρ.fb = fbX ρ0 L k) (hr : ∀ r, r < L → reelOk ρ r) : okO L ρ ∧ okPl L k ρ := by
 let ρ1 : Rho := ⟨ρ.iv, ρ.bv, ρ.fi, fbW ρ0, ρ.ov⟩
 have lk : LikeF ρ ρ1 := fun _ _ => rfl
 have o : okO L ρ1 := okO_of hL (ρ0 := ρ0) h hfi rfl hr
 have hT : okT L ρ := by
  refine ⟨fun r hrL => ⟨hr r hrL, fun a b => ?_⟩, fun m hm => ⟨fun a b => ?_, fun j a b hj => ?_, fun K j a b x hK hj => ?_⟩⟩
  ·have := (o.1.1 r hrL).2 a b
   rw [aftF_like lk (by omega)]
   exact this
  ·have := (o.1.2 m hm).1 a b
   have h64 := lt64 hL hm
   rw [hfb, fbX_low (by omega), noneF_like lk]
   exact this
  ·rw [ordF_like lk]; exact (o.1.2 m hm).2.1 j a b hj
  ·rw [leftF_like lk]; exact (o.1.2 m hm).2.2 K j a b x hK hj
 have hO : ∀ m, m < 2 ^ L → ∀ a b x, ρ.fi (9500 + m) a b x = manyF ρ (cnt m) m a b x := fun m hm a b x => by
  rw [manyF_like lk]; exact o.2 m hm a b x
 refine ⟨⟨hT, hO⟩, hT, fun m j hm hj a b => ?_⟩
 have h64 := lt64 hL hm
 rw [hfb, atF_like h]
 unfold fbX
 rw [if_pos (by omega), show 20000 + 512 * k + 8 * m + j - 20000 - 512 * k = 8 * m + j by omega, show (8 * m + j) / 8 = m by omega, show (8 * m + j) % 8 = j by omega]
end
end Go.Sx
namespace Go.Sx
noncomputable section
open Go.RowKit Go.Proofs
set_option maxRecDepth 100000
theorem reelN {L : Nat} {ρ : Rho} (h : ∀ c ∈ csL L, c.den ρ = true) {r : Nat} (hr : r < L) : 0 ≤ ρ.iv (10 + 6 * r) ∧ ρ.iv (10 + 6 * r) ≤ ρ.iv (11 + 6 * r) ∧ ρ.iv (11 + 6 * r) ≤ 99 ∧ 0 ≤ ρ.iv (12 + 6 * r) ∧ ρ.iv (12 + 6 * r) ≤ ρ.iv (13 + 6 * r) ∧ ρ.iv (13 + 6 * r) ≤ 99 ∧ 1 ≤ ρ.iv (14 + 6 * r) ∧ ρ.iv (14 + 6 * r) ≤ ρ.iv (15 + 6 * r) ∧ ρ.iv (15 + 6 * r) ≤ 1200 ∧ ρ.iv (10 + 6 * r) ≤ ρ.iv (13 + 6 * r) := by
 obtain ⟨u1, u2, u3, u4, u5, u6, u7, u8, u9, u10⟩ := reelC_den.1 fun c hc => h c ((csUp_mem L 10).2 (.inl ⟨r, hr, hc⟩))
 rw [show 10 + 6 * r + 1 = 11 + 6 * r by omega] at u2 u3
 rw [show 10 + 6 * r + 2 = 12 + 6 * r by omega] at u4 u5
 rw [show 10 + 6 * r + 3 = 13 + 6 * r by omega] at u5 u6 u10
 rw [show 10 + 6 * r + 4 = 14 + 6 * r by omega] at u7 u8
 rw [show 10 + 6 * r + 5 = 15 + 6 * r by omega] at u8 u9
 exact ⟨u1, u2, u3, u4, u5, u6, u7, u8, u9, u10⟩
theorem reelN_of {ρ : Rho} {r : Nat} (h : 0 ≤ ρ.iv (10 + 6 * r) ∧ ρ.iv (10 + 6 * r) ≤ ρ.iv (11 + 6 * r) ∧ ρ.iv (11 + 6 * r) ≤ 99 ∧ 0 ≤ ρ.iv (12 + 6 * r) ∧ ρ.iv (12 + 6 * r) ≤ ρ.iv (13 + 6 * r) ∧ ρ.iv (13 + 6 * r) ≤ 99 ∧ 1 ≤ ρ.iv (14 + 6 * r) ∧ ρ.iv (14 + 6 * r) ≤ ρ.iv (15 + 6 * r) ∧ ρ.iv (15 + 6 * r) ≤ 1200 ∧ ρ.iv (10 + 6 * r) ≤ ρ.iv (13 + 6 * r)) : ∀ c ∈ reelC (10 + 6 * r), c.den ρ = true := by
 obtain ⟨u1, u2, u3, u4, u5, u6, u7, u8, u9, u10⟩ := h
 refine reelC_den.2 ?_
 rw [show 10 + 6 * r + 1 = 11 + 6 * r by omega, show 10 + 6 * r + 2 = 12 + 6 * r by omega, show 10 + 6 * r + 3 = 13 + 6 * r by omega, show 10 + 6 * r + 4 = 14 + 6 * r by omega, show 10 + 6 * r + 5 = 15 + 6 * r by omega]
 exact ⟨u1, u2, u3, u4, u5, u6, u7, u8, u9, u10⟩
theorem heap3 {p p' : Par} {ρ ρ' : Rho} {o o' : AObj} (hp : p.P = p'.P) (ho : SameA p p' ρ o ρ' o') : SameH p p' ρ (viewA 2000 [(0, ro [li 1, li 20, li 0, li 50]), (1, ro [li 0, li 99, li 0, li 99, li 1, li 1200]), (1001, o)]) ρ' (viewA 2000 [(0, ro [li 1, li 20, li 0, li 50]), (1, ro [li 0, li 99, li 0, li 99, li 1, li 1200]), (1001, o')]) := by
 refine ⟨by rw [viewA_next, viewA_next], fun j x g => ?_⟩
 have hm := viewA_get _ _ _ _ g
 simp only [List.mem_cons, List.not_mem_nil, or_false] at hm
 rcases hm with h | h | h
 ·cases h
  exact ⟨_, viewA_mem 2000 _ 0 rfl _ List.mem_cons_self, SameA.cells hp (SameL.cons (SameV.int rfl) (SameL.cons (SameV.int rfl) (SameL.cons (SameV.int rfl) (SameL.cons (SameV.int rfl) SameL.nil))))⟩
 ·cases h
  exact ⟨_, viewA_mem 2000 _ 0 rfl _ (List.mem_cons_of_mem _ List.mem_cons_self), SameA.cells hp (SameL.cons (SameV.int rfl) (SameL.cons (SameV.int rfl) (SameL.cons (SameV.int rfl) (SameL.cons (SameV.int rfl) (SameL.cons (SameV.int rfl) (SameL.cons (SameV.int rfl) SameL.nil))))))⟩
 ·cases h
  exact ⟨_, viewA_mem 2000 _ 0 rfl _ (List.mem_cons_of_mem _ (List.mem_cons_of_mem _ List.mem_cons_self)), ho⟩
def lstO (l : List Nat) : AObj := .cells (lMap iA (lMap litN l)) 3 true (extS l)
theorem lits_sameX {ρ ρ' : Rho} : ∀ l : List Nat, SameL ρ (lMap iA (lMap litN l)) ρ' (lMap iA (lMap litN l))
 | [] => SameL.nil
 | _ :: l => SameL.cons (SameV.int rfl) (lits_sameX l)
theorem heap4 {p p' : Par} {ρ ρ' : Rho} {o o' : AObj} (l : List Nat) (hp : p.P = p'.P) (ho : SameA p p' ρ o ρ' o') : SameH p p' ρ (viewA 2001 [(0, ro [li 1, li 20, li 0, li 50]), (1, ro [li 0, li 99, li 0, li 99, li 1, li 1200]), (1001, o), (2000, lstO l)]) ρ' (viewA 2001 [(0, ro [li 1, li 20, li 0, li 50]), (1, ro [li 0, li 99, li 0, li 99, li 1, li 1200]), (1001, o'), (2000, lstO l)]) := by
 refine ⟨by rw [viewA_next, viewA_next], fun j x g => ?_⟩
 have hm := viewA_get _ _ _ _ g
 simp only [List.mem_cons, List.not_mem_nil, or_false] at hm
 rcases hm with h | h | h | h
 ·cases h
  exact ⟨_, viewA_mem 2001 _ 0 rfl _ List.mem_cons_self, SameA.cells hp (SameL.cons (SameV.int rfl) (SameL.cons (SameV.int rfl) (SameL.cons (SameV.int rfl) (SameL.cons (SameV.int rfl) SameL.nil))))⟩
 ·cases h
  exact ⟨_, viewA_mem 2001 _ 0 rfl _ (List.mem_cons_of_mem _ List.mem_cons_self), SameA.cells hp (SameL.cons (SameV.int rfl) (SameL.cons (SameV.int rfl) (SameL.cons (SameV.int rfl) (SameL.cons (SameV.int rfl) (SameL.cons (SameV.int rfl) (SameL.cons (SameV.int rfl) SameL.nil))))))⟩
 ·cases h
  exact ⟨_, viewA_mem 2001 _ 0 rfl _ (List.mem_cons_of_mem _ (List.mem_cons_of_mem _ List.mem_cons_self)), ho⟩
 ·cases h
  exact ⟨_, viewA_mem 2001 _ 0 rfl _ (List.mem_cons_of_mem _ (List.mem_cons_of_mem _ (List.mem_cons_of_mem _ List.mem_cons_self))), SameA.cells hp (lits_sameX l)⟩
theorem num_den {L : Nat} (h0 : 1 ≤ L) (hL : L ≤ 6) {ρ : Rho} (h : okO L ρ) : (mnyE (fullM L) (.lit 0) (.lit 100) (.lit 0)).den ρ = cntF ρ L (fullM L) 0 100 := by
 have := many_den h (fullM_lt0 (L := L)) (.lit 0) (.lit 100) (.lit 0)
 rw [fullM_cnt0 h0 hL] at this
 refine this.trans ((manyF_cnt ρ L (fullM L) 0 100 0 (Int.le_refl _) ?_).trans (Int.zero_add _))
 rcases six h0 hL with rfl | rfl | rfl | rfl | rfl | rfl <;> decide
def nilN (l : List Nat) : Bool := @List.rec Nat (fun _ => Bool) true (fun _ _ _ => false) l
def forkN {α : Type} (c : Nat → BE) (leaf : List Nat → T α) (l : List Nat) : List Nat → T α := @List.rec Nat (fun _ => List Nat → T α) (fun acc => leaf acc) (fun j l' ih acc => cond (and (nilN l') (nilN acc)) (leaf [j]) (.br (c j) (ih (acc ++ [j])) (ih acc))) l
theorem forkN_leaf {α : Type} {ρ : Rho} {c : Nat → BE} {leaf : List Nat → T α} {Q : α → Prop} : ∀ (l acc : List Nat), (forkN c leaf l acc).Holds ρ Q → acc ++ l.filter (fun j => (c j).den ρ) ≠ [] → (leaf (acc ++ l.filter fun j => (c j).den ρ)).Holds ρ Q
 | [], acc, h, _ => by rw [List.filter_nil, List.append_nil]; exact h
 | j :: l, acc, h, hne => by
  have h : (cond (and (nilN l) (nilN acc)) (leaf [j]) (.br (c j) (forkN c leaf l (acc ++ [j])) (forkN c leaf l acc))).Holds ρ Q := h
  rw [List.filter_cons] at hne ⊢
  cases hn : and (nilN l) (nilN acc) with
  | true =>
   rw [hn, cond_true] at h
   rw [Bool.and_eq_true] at hn
   have e1 : l = [] := by cases l with | nil => rfl | cons a l => cases hn.1
   have e2 : acc = [] := by cases acc with | nil => rfl | cons a l => cases hn.2
   subst e1; subst e2
   split
   ·exact h
   ·rename_i hc
    rw [if_neg hc] at hne
    exact absurd rfl hne
  | false =>
   rw [hn, cond_false] at h
   simp only [T.Holds] at h
   split
   ·rename_i hc
    rw [if_pos hc] at h hne
    have e : acc ++ j :: l.filter (fun j => (c j).den ρ) = acc ++ [j] ++ l.filter (fun j => (c j).den ρ) := by rw [List.append_assoc]; rfl
    rw [e] at hne ⊢
    exact forkN_leaf l (acc ++ [j]) h hne
   ·rename_i hc
    rw [if_neg hc] at h hne
    exact forkN_leaf l acc h hne
theorem mem_up {L j : Nat} (h : j ∈ upN L 0) : j < L := by have := (upN_lt _ _ _ h).2; omega
theorem filter_ne {L : Nat} {β : Nat → Bool} (h : ∃ j, j < L ∧ β j = true) : (upN L 0).filter β ≠ [] := fun e => by
 obtain ⟨j, hj, hb⟩ := h
 have : j ∈ (upN L 0).filter β := List.mem_filter.2 ⟨mem_upN L 0 j (Nat.zero_le _) (by omega), hb⟩
 rw [e] at this; cases this
theorem bt_full {L k : Nat} (h0 : 1 ≤ L) (hL : L ≤ 6) (hk : k < L) : bt (fullM L) k = true := by
 have h : lAll (fun L => lAll (fun k => bt (Nat.pow 2 L - 1) k) (upN L 0)) (upN 6 1) = true := by kernel_rfl
 exact lAll_at (p := fun k => bt (Nat.pow 2 L - 1) k) (lAll_at (p := fun L => lAll (fun k => bt (Nat.pow 2 L - 1) k) (upN L 0)) h h0 (by omega)) (Nat.zero_le _) (by omega)
theorem some_at {L k : Nat} (h0 : 1 ≤ L) (hL : L ≤ 6) (hk : k < L) {ρ : Rho} (h : 1 ≤ cntF ρ L (fullM L) 0 100) : ∃ j, j < L ∧ atF ρ k L 0 (fullM L) 0 100 j = true := by
 obtain ⟨j, _, j2, j3⟩ := at_some (ρ := ρ) hL hk L 0 (fullM L) 0 100 fullM_lt0 (fullM_cnt0 h0 hL) (bt_full h0 hL hk) ((cntF_pos ρ L (fullM L) 0 100).1 h)
 exact ⟨j, by omega, j3⟩
theorem optL_some {l : List Nat} (h : l ≠ []) : optL l = some l := by
 cases l with
 | nil => exact absurd rfl h
 | cons a l => rfl
theorem pw_leaf {L k : Nat} (h0 : 1 ≤ L) (hL : L ≤ 6) {ρ : Rho} (h : okPl L k ρ) (hs : ∃ j, j < L ∧ atF ρ k L 0 (fullM L) 0 100 j = true) {R : AV × Heap → Prop} (hR : R (leafS L (some ((upN L 0).filter fun j => atF ρ k L 0 (fullM L) 0 100 j)))) : (saidPw L k).Holds ρ R := by
 unfold saidPw
 simp only [T.Holds]
 obtain ⟨j, hj, hb⟩ := hs
 rw [offE_den ⟨j, hj, (bP_den h0 hL h hj).trans hb⟩, if_neg (by simp)]
 refine forkT_holds _ _ ?_
 rw [List.nil_append]
 have e : ((upN L 0).filter fun j => (bP L k j).den ρ) = (upN L 0).filter fun j => atF ρ k L 0 (fullM L) 0 100 j := List.filter_congr fun j hj => bP_den h0 hL h (mem_up hj)
 rw [e]
 show R (leafS L (optL _))
 rw [optL_some (filter_ne ⟨j, hj, hb⟩)]
 exact hR
theorem valS_same {ρ ρ' : Rho} (l : List Nat) : SameV ρ (valS l) ρ' (valS l) := by
 cases l with
 | nil => exact fun _ _ _ _ _ _ => rfl
 | cons a l => exact fun _ _ _ _ _ _ => rfl
end
end Go.Sx
namespace Go.Sx
noncomputable section
open Go.RowKit Go.Proofs
set_option maxRecDepth 100000
def yI (ρ : Rho) (xs : List IE) (j : Nat) : Int := if 10 ≤ j ∧ j < 70 then ρ.iv (340 + j) else if 110 ≤ j ∧ j < 116 then ((xs.map (IE.den ρ))[j - 110]?).getD 0 else ρ.iv j
def yB (ρ : Rho) (xs : List IE) : Rho := ⟨yI ρ xs, ρ.bv, ρ.fi, ρ.fb, ρ.ov⟩
def yF (ρ : Rho) (xs : List IE) (L r : Nat) : Rho := ⟨yI ρ xs, ρ.bv, fiW (yB ρ xs), fbX (yB ρ xs) L r, ρ.ov⟩
theorem y_like (ρ : Rho) (xs ys : List IE) (L L' r r' : Nat) : LikeF (yF ρ xs L r) (yF ρ ys L' r') := fun j hj => by
 show yI ρ xs j = yI ρ ys j
 unfold yI
 by_cases h : 10 ≤ j ∧ j < 70
 ·rw [if_pos h, if_pos h]
 ·rw [if_neg h, if_neg h, if_neg (by omega), if_neg (by omega)]
theorem y_row {ρ : Rho} {xs : List IE} {L r j : Nat} (h1 : 10 ≤ j) (h2 : j < 70) : (yF ρ xs L r).iv j = ρ.iv (340 + j) := by
 show yI ρ xs j = _
 unfold yI; rw [if_pos ⟨h1, h2⟩]
theorem y_low {ρ : Rho} {xs : List IE} {L r j : Nat} (h : j < 10) : (yF ρ xs L r).iv j = ρ.iv j := by
 show yI ρ xs j = _
 unfold yI; rw [if_neg (by omega), if_neg (by omega)]
theorem cs_iv {L : Nat} (hL : L ≤ 6) {ρ ρ' : Rho} (e : ∀ j, j < 70 → ρ'.iv j = ρ.iv j) (h : ∀ c ∈ csL L, c.den ρ = true) : ∀ c ∈ csL L, c.den ρ' = true := fun c hc => by
 rcases (csUp_mem L 10).1 hc with ⟨q, hq, hc⟩ | hc
 ·have k := reelC_den.1 fun c hc => h c ((csUp_mem L 10).2 (.inl ⟨q, hq, hc⟩))
  refine reelC_den.2 ?_ c hc
  rw [e _ (by omega), e _ (by omega), e _ (by omega), e _ (by omega), e _ (by omega), e _ (by omega)]
  exact k
 ·have k := restC_den.1 fun c hc => h c ((csUp_mem L 10).2 (.inr hc))
  refine restC_den.2 ?_ c hc
  rw [e _ (by omega), e _ (by omega), e _ (by omega), e _ (by omega), e _ (by omega)]
  exact k
def okY (L : Nat) (ρ : Rho) : Prop := ∀ c ∈ csL L, c.den (yF ρ [] L 0) = true
theorem okY_xs {L : Nat} (hL : L ≤ 6) {ρ : Rho} (h : okY L ρ) (xs : List IE) (r : Nat) : ∀ c ∈ csL L, c.den (yF ρ xs L r) = true := cs_iv hL (fun j hj => by
 by_cases h : 10 ≤ j
 ·rw [y_row h hj, y_row h hj]
 ·rw [y_low (by omega), y_low (by omega)]) h
theorem y_ok {L : Nat} (h0 : 1 ≤ L) (hL : L ≤ 6) {ρ : Rho} (h : okY L ρ) (xs : List IE) (r : Nat) : okO L (yF ρ xs L r) ∧ okPl L r (yF ρ xs L r) ∧ okFilm L (yF ρ xs L r) := by
 obtain ⟨f1, f2⟩ := film_of_cs h0 hL (okY_xs hL h xs r)
 obtain ⟨o1, o2⟩ := okX_of hL (ρ0 := yB ρ xs) (ρ := yF ρ xs L r) (k := r) (fun _ _ => rfl) rfl rfl f2
 exact ⟨o1, o2, f1⟩
def rowsY (L : Nat) : AObj := .cells (lMap vj (upN (6 * L) 350)) 0 false false
def vY (L : Nat) : List (Nat × AObj) := [(0, ro [li 1, li 20, li 0, li 50]), (1, ro [li 0, li 99, li 0, li 99, li 1, li 1200]), (1001, rowsY L)]
theorem rows_y0 {ρ : Rho} {xs : List IE} {L r : Nat} : ∀ (n i : Nat), 10 ≤ i → i + n ≤ 70 → SameL ρ (lMap vj (upN n (340 + i))) (yF ρ xs L r) (lMap vj (upN n i))
 | 0, _, _, _ => SameL.nil
 | n + 1, i, h1, h2 => by
  have e1 : lMap vj (upN (n + 1) (340 + i)) = vj (340 + i) :: lMap vj (upN n (340 + (i + 1))) := rfl
  have e2 : lMap vj (upN (n + 1) i) = vj i :: lMap vj (upN n (i + 1)) := rfl
  rw [e1, e2]
  exact SameL.cons (SameV.int (y_row h1 (by omega)).symm) (rows_y0 n (i + 1) (by omega) (by omega))
theorem rows_y {ρ : Rho} {xs : List IE} {L r : Nat} (hL : L ≤ 6) : SameL ρ (lMap vj (upN (6 * L) 350)) (yF ρ xs L r) (lMap vj (upN (6 * L) 10)) := rows_y0 (6 * L) 10 (by omega) (by omega)
theorem film_y {ρ : Rho} {xs : List IE} {L r : Nat} : SameV ρ (filmF L) (yF ρ xs L r) (filmF L) :=
 SameV.agg (SameL.cons (SameV.sliceX _ _ _ _) (SameL.cons (SameV.int (y_low (by omega)).symm) (SameL.cons (SameV.int (y_low (by omega)).symm) (SameL.cons (SameV.int (y_low (by omega)).symm) (SameL.cons (SameV.int (y_low (by omega)).symm) (SameL.cons (SameV.int (y_low (by omega)).symm) SameL.nil))))))
section
variable {p : Par} (hP : p.P = Tryd.prog) {L : Nat} (h0 : 1 ≤ L) (hL : L ≤ 6) (hok : ∀ ρ M, p.ok ρ M → okY L ρ)
include hP h0 hL hok
theorem ordersY (e : IE) (he : ∀ ρ M, p.ok ρ M → e.den ρ = cntF (yF ρ [] L 0) L (fullM L) 0 100) : CallOk p 11 [filmF L] (viewA 2000 (vY L)) (.ret (valE e, viewA 2000 (vY L))) := by
 refine CallOk.read (p0 := pQ L) (p := p) hP.symm (orders_said h0 hL) ?_
 intro ρ _ ⟨M, k1, k2⟩ Q kk
 obtain ⟨n1, n2, n3⟩ := y_ok h0 hL (hok ρ M k1) [] 0
 have kk : Q (valE e, viewA 2000 (vY L)) := kk
 refine ⟨yF ρ [] L 0, ⟨M, ⟨n1, n3⟩, k2⟩, SameL.cons film_y SameL.nil, heap3 (p := p) (p' := pQ L) hP (SameA.cells hP (rows_y hL)), ⟨_, kk, ?_, heap3 (p := pQ L) (p' := p) hP.symm (SameA.cells hP.symm (SameL.symm (rows_y hL)))⟩⟩
 exact SameV.tup (SameL.cons (SameV.int ((num_den h0 hL n1).trans (he ρ M k1).symm)) (SameL.cons (SameV.int rfl) SameL.nil))
def fstO (L : Nat) : AObj := .cells (lMap iA (lMap IE.var (upN L 320))) 3 true true
omit hP h0 hL hok in
theorem heapF {p p' : Par} {ρ ρ' : Rho} {o o' q q' : AObj} (hp : p.P = p'.P) (ho : SameA p p' ρ o ρ' o') (hq : SameA p p' ρ q ρ' q') : SameH p p' ρ (viewA 2001 [(0, ro [li 1, li 20, li 0, li 50]), (1, ro [li 0, li 99, li 0, li 99, li 1, li 1200]), (1001, o), (2000, q)]) ρ' (viewA 2001 [(0, ro [li 1, li 20, li 0, li 50]), (1, ro [li 0, li 99, li 0, li 99, li 1, li 1200]), (1001, o'), (2000, q')]) := by
 refine ⟨by rw [viewA_next, viewA_next], fun j x g => ?_⟩
 have hm := viewA_get _ _ _ _ g
 simp only [List.mem_cons, List.not_mem_nil, or_false] at hm
 rcases hm with h | h | h | h
 ·cases h
  exact ⟨_, viewA_mem 2001 _ 0 rfl _ List.mem_cons_self, SameA.cells hp (SameL.cons (SameV.int rfl) (SameL.cons (SameV.int rfl) (SameL.cons (SameV.int rfl) (SameL.cons (SameV.int rfl) SameL.nil))))⟩
 ·cases h
  exact ⟨_, viewA_mem 2001 _ 0 rfl _ (List.mem_cons_of_mem _ List.mem_cons_self), SameA.cells hp (SameL.cons (SameV.int rfl) (SameL.cons (SameV.int rfl) (SameL.cons (SameV.int rfl) (SameL.cons (SameV.int rfl) (SameL.cons (SameV.int rfl) (SameL.cons (SameV.int rfl) SameL.nil))))))⟩
 ·cases h
  exact ⟨_, viewA_mem 2001 _ 0 rfl _ (List.mem_cons_of_mem _ (List.mem_cons_of_mem _ List.mem_cons_self)), ho⟩
 ·cases h
  exact ⟨_, viewA_mem 2001 _ 0 rfl _ (List.mem_cons_of_mem _ (List.mem_cons_of_mem _ (List.mem_cons_of_mem _ List.mem_cons_self))), hq⟩
theorem firstY (hn : ∀ ρ M, p.ok ρ M → noneF (yF ρ [] L 0) L (fullM L) 0 100 = false ∧ ∀ j, j < L → ρ.iv (320 + j) = (ordF (yF ρ [] L 0) L (fullM L) 0 100).getD j 0) : CallOk p 12 [filmF L] (viewA 2000 (vY L)) (.ret (foundVF L, viewA 2001 (vY L ++ [(2000, fstO L)]))) := by
 refine CallOk.read (p0 := pF L) (p := p) hP.symm (first_said h0 hL) ?_
 intro ρ _ ⟨M, k1, k2⟩ Q kk
 obtain ⟨n1, n2, n3⟩ := y_ok h0 hL (hok ρ M k1) [] 0
 obtain ⟨m1, m2⟩ := hn ρ M k1
 have kk : Q (foundVF L, viewA 2001 (vY L ++ [(2000, fstO L)])) := kk
 refine ⟨yF ρ [] L 0, ⟨M, ⟨n1.1, n3⟩, k2⟩, SameL.cons film_y SameL.nil, heap3 (p := p) (p' := pF L) hP (SameA.cells hP (rows_y hL)), ?_⟩
 unfold saidF
 simp only [T.Holds]
 have hf := none_den n1.1 (fullM_lt0 (L := L)) (.lit 0) (.lit 100)
 rw [fullM_cnt0 h0 hL] at hf
 have hf : (noneE (fullM L) (.lit 0) (.lit 100)).den (yF ρ [] L 0) = false := hf.trans m1
 rw [hf, if_neg (by simp)]
 refine ⟨_, kk, SameV.tup (SameL.cons (SameV.sliceX _ _ _ _) (SameL.cons (SameV.int rfl) SameL.nil)), heapF (p := pF L) (p' := p) hP.symm (SameA.cells hP.symm (SameL.symm (rows_y hL))) (SameA.cells hP.symm (same_ints ?_))⟩
 have hd := dens_ordL n1.1 (fullM_lt0 (L := L)) (by rw [fullM_cnt0 h0 hL]; omega) (.lit 0) (.lit 100)
 rw [fullM_cnt0 h0 hL] at hd
 refine (show (ordL (fullM L) (.lit 0) (.lit 100)).map (IE.den (yF ρ [] L 0)) = _ from hd).trans ?_
 rw [lMap_eq, List.map_map]
 have key : ∀ (n i : Nat), i + n ≤ L → (upN n i).map (fun j => (ordF (yF ρ [] L 0) L (fullM L) 0 100).getD j 0) = (upN n (320 + i)).map (IE.den ρ ∘ IE.var) := by
  intro n
  induction n with
  | zero => intro i _; rfl
  | succ n ih =>
   intro i hi
   simp only [upN, List.map_cons]
   rw [ih (i + 1) (by omega)]
   congr 1
   exact (m2 i (by omega)).symm
 exact key L 0 (by omega)
theorem strangeY (hn : ∀ ρ M, p.ok ρ M → noneF (yF ρ [] L 0) L (fullM L) 0 100 = false) : CallOk p 13 [filmF L] (viewA 2000 (vY L)) (.ret (valS [], viewA 2001 (vY L ++ [(2000, lstO [])]))) := by
 refine CallOk.read (p0 := pF L) (p := p) hP.symm (strange_said h0 hL) ?_
 intro ρ _ ⟨M, k1, k2⟩ Q kk
 obtain ⟨n1, n2, n3⟩ := y_ok h0 hL (hok ρ M k1) [] 0
 have m1 := hn ρ M k1
 have kk : Q (valS [], viewA 2001 (vY L ++ [(2000, lstO [])])) := kk
 refine ⟨yF ρ [] L 0, ⟨M, ⟨n1.1, n3⟩, k2⟩, SameL.cons film_y SameL.nil, heap3 (p := p) (p' := pF L) hP (SameA.cells hP (rows_y hL)), ?_⟩
 have hf := none_den n1.1 (fullM_lt0 (L := L)) (.lit 0) (.lit 100)
 rw [fullM_cnt0 h0 hL] at hf
 have hf : (noneE (fullM L) (.lit 0) (.lit 100)).den (yF ρ [] L 0) = false := hf.trans m1
 have e : ∃ ls, allS L = [] :: ls := by rcases six h0 hL with rfl | rfl | rfl | rfl | rfl | rfl <;> exact ⟨_, rfl⟩
 obtain ⟨ls, e⟩ := e
 unfold saidS
 rw [e]
 simp only [chainS, T.Holds]
 have hf : (noneE (outM L []) (.lit 0) (.lit 100)).den (yF ρ [] L 0) = false := hf
 rw [hf, if_neg (by simp)]
 exact ⟨_, kk, (show SameV (yF ρ [] L 0) (valS []) ρ (valS []) from valS_same []), heapF (p := pF L) (p' := p) hP.symm (SameA.cells hP.symm (SameL.symm (rows_y hL))) (SameA.cells hP.symm (lits_sameX []))⟩
omit hP h0 hL hok in
theorem heapJ {p p' : Par} {ρ ρ' : Rho} {o o' q q' : AObj} (hp : p.P = p'.P) (ho : SameA p p' ρ o ρ' o') (hq : SameA p p' ρ q ρ' q') : SameH p p' ρ (viewA 2002 [(0, ro [li 1, li 20, li 0, li 50]), (1, ro [li 0, li 99, li 0, li 99, li 1, li 1200]), (1001, o), (2001, q)]) ρ' (viewA 2002 [(0, ro [li 1, li 20, li 0, li 50]), (1, ro [li 0, li 99, li 0, li 99, li 1, li 1200]), (1001, o'), (2001, q')]) := by
 refine ⟨by rw [viewA_next, viewA_next], fun j x g => ?_⟩
 have hm := viewA_get _ _ _ _ g
 simp only [List.mem_cons, List.not_mem_nil, or_false] at hm
 rcases hm with h | h | h | h
 ·cases h
  exact ⟨_, viewA_mem 2002 _ 0 rfl _ List.mem_cons_self, SameA.cells hp (SameL.cons (SameV.int rfl) (SameL.cons (SameV.int rfl) (SameL.cons (SameV.int rfl) (SameL.cons (SameV.int rfl) SameL.nil))))⟩
 ·cases h
  exact ⟨_, viewA_mem 2002 _ 0 rfl _ (List.mem_cons_of_mem _ List.mem_cons_self), SameA.cells hp (SameL.cons (SameV.int rfl) (SameL.cons (SameV.int rfl) (SameL.cons (SameV.int rfl) (SameL.cons (SameV.int rfl) (SameL.cons (SameV.int rfl) (SameL.cons (SameV.int rfl) SameL.nil))))))⟩
 ·cases h
  exact ⟨_, viewA_mem 2002 _ 0 rfl _ (List.mem_cons_of_mem _ (List.mem_cons_of_mem _ List.mem_cons_self)), ho⟩
 ·cases h
  exact ⟨_, viewA_mem 2002 _ 0 rfl _ (List.mem_cons_of_mem _ (List.mem_cons_of_mem _ (List.mem_cons_of_mem _ List.mem_cons_self))), hq⟩
theorem isY {j : Nat} (hj : 1 ≤ j) (hjL : j ≤ L) (so : BE) {xs : List IE} (hx : xs.length = j) (hxs : ∀ ρ M, p.ok ρ M → ∃ l ∈ permsM j (fullM L), xs.map (IE.den ρ) = l.map Int.ofNat ∧ so.den ρ = chainF (yF ρ [] L 0) l 0 100) :
  CallOk p 10 (argsJr L j) (viewA 2002 (vY L ++ [(2001, ro (lMap iA xs))])) (.ret (.tup [.bool so, ln 0], viewA 2002 (vY L ++ [(2001, ro (lMap iA xs))]))) := by
 let ok0 : Rho → (Nat → Obj → Prop) → Prop := fun ρ _ => okA L ρ ∧ okFilm L ρ ∧ ∃ l ∈ permsM j (fullM L), (nmL j).map (IE.den ρ) = l.map Int.ofNat ∧ (BE.var 77).den ρ = chainF ρ l 0 100
 refine CallOk.read (p0 := ⟨Tryd.prog, rcOf Tryd.rows, ok0⟩) (p := p) hP.symm (is_said (ok := ok0) h0 hL hj hjL (.var 77) fun ρ m h => h) ?_
 intro ρ _ ⟨M, k1, k2⟩ Q kk
 obtain ⟨l, m1, m2, m3⟩ := hxs ρ M k1
 have kk : Q (.tup [.bool so, ln 0], viewA 2002 (vY L ++ [(2001, ro (lMap iA xs))])) := kk
 let ρ' : Rho := ⟨yI ρ xs, fun i => if i = 77 then so.den ρ else ρ.bv i, fiW (yB ρ xs), fbX (yB ρ xs) L 0, ρ.ov⟩
 have lk : LikeF ρ' (yF ρ [] L 0) := fun j hj => y_like ρ xs [] L L 0 0 j hj
 have hcs : ∀ c ∈ csL L, c.den ρ' = true := cs_iv hL (ρ := yF ρ xs L 0) (fun _ _ => rfl) (okY_xs hL (hok ρ M k1) xs 0)
 obtain ⟨f1, f2⟩ := film_of_cs h0 hL hcs
 obtain ⟨o1, _⟩ := okX_of hL (ρ0 := yB ρ xs) (ρ := ρ') (k := 0) (fun _ _ => rfl) rfl rfl f2
 have hl6 : ∀ r ∈ l, r < 6 := fun r hr => by have := permsM_lt hL j _ l (fullM_lt0 (L := L)) m1 r hr; omega
 have nm : (nmL j).map (IE.den ρ') = xs.map (IE.den ρ) := by
  have key : ∀ (ys : List IE) (k : Nat), k + ys.length ≤ 6 → (∀ t, t < ys.length → ρ'.iv (110 + (k + t)) = ((ys.map (IE.den ρ))[t]?).getD 0) → (lMap IE.var (upN ys.length (110 + k))).map (IE.den ρ') = ys.map (IE.den ρ) := by
   intro ys
   induction ys with
   | nil => intro k _ _; rfl
   | cons y ys ih =>
    intro k hk h
    have e : (lMap IE.var (upN (y :: ys).length (110 + k))) = IE.var (110 + k) :: lMap IE.var (upN ys.length (110 + (k + 1))) := rfl
    rw [e, List.map_cons, List.map_cons]
    simp only [List.length_cons] at hk h
    rw [ih (k + 1) (by omega) fun t ht => by
     have := h (t + 1) (by omega)
     rw [show k + 1 + t = k + (t + 1) by omega, this]
     rfl]
    have h0 := h 0 (by omega)
    congr 1
  have := key xs 0 (by omega) fun t ht => by
   show yI ρ xs (110 + (0 + t)) = _
   unfold yI
   rw [if_neg (by omega), if_pos (by omega), Nat.zero_add, Nat.add_sub_cancel_left]
  rw [hx] at this
  exact this
 have rows : SameL ρ (lMap vj (upN (6 * L) 350)) ρ' (lMap vj (upN (6 * L) 10)) := fun σ κ n m rc rc' => (rows_y (ρ := ρ) (xs := xs) (r := 0) hL σ κ n m rc rc').trans (rows_same (ρ := yF ρ xs L 0) (ρ' := ρ') (fun _ _ => rfl) σ κ m m rc' rc')
 have film : SameV ρ (filmF L) ρ' (filmF L) := SameV.agg (SameL.cons (SameV.sliceX _ _ _ _) (SameL.cons (SameV.int (y_low (xs := xs) (L := L) (r := 0) (by omega)).symm) (SameL.cons (SameV.int (y_low (xs := xs) (L := L) (r := 0) (by omega)).symm) (SameL.cons (SameV.int (y_low (xs := xs) (L := L) (r := 0) (by omega)).symm) (SameL.cons (SameV.int (y_low (xs := xs) (L := L) (r := 0) (by omega)).symm) (SameL.cons (SameV.int (y_low (xs := xs) (L := L) (r := 0) (by omega)).symm) SameL.nil))))))
 refine ⟨ρ', ⟨M, ⟨o1.1.1, f1, l, m1, nm.trans m2, ?_⟩, k2⟩, SameL.cons film (SameL.refl _ _), heapJ (p := p) hP (SameA.cells hP rows) (SameA.cells hP (same_ints nm.symm)), ⟨_, kk, SameV.tup (SameL.cons (SameV.bool ?_) (SameL.cons (SameV.int rfl) SameL.nil)), heapJ (p' := p) hP.symm (SameA.cells hP.symm (SameL.symm rows)) (SameA.cells hP.symm (same_ints nm))⟩⟩
 ·show so.den ρ = _
  rw [m3, chainF_like lk l 0 100 hl6]
 ·rfl
end
end
end Go.Sx
namespace Go.Sx
noncomputable section
open Go.RowKit Go.Proofs
set_option maxRecDepth 100000
def tE (a m : Nat) : IE := .app 6 (pickE a) (.lit (Int.ofNat m)) (.lit 0)
def firstE (i : Nat) : IE := @Nat.rec (fun _ => IE) (tE 1 10) (fun i ih => .mn (.lit 99) (.bin .add .i64 (.mn (.lit 99) (.bin .add .i64 ih (tE (3 * i + 1) 9))) (tE (3 * (i + 1)) 2))) i
def lastE (i : Nat) : IE := .mn (.lit 99) (.bin .add .i64 (firstE i) (tE (3 * i + 1) 9))
def posE (i : Nat) : List IE := [.mx (.lit 0) (.bin .sub .i64 (firstE i) (tE (3 * i + 2) 4)), .mn (.lit 99) (.bin .add .i64 (firstE i) (tE i 3)), .mx (.lit 0) (.bin .sub .i64 (lastE i) (tE (i + 2) 3)), .mn (.lit 99) (.bin .add .i64 (lastE i) (tE (3 * i + 2) 4))]
def posN (o : List Nat) (k : Nat) : Nat := @List.rec Nat (fun _ => Nat) 0 (fun a _ ih => cond (Nat.beq a k) 0 (ih + 1)) o
def rowK (o : List Nat) (k : Nat) : List AV := lApp (lMap iA (posE (posN o k))) [vj (14 + 6 * k), vj (15 + 6 * k)]
def catL (f : Nat → List AV) (l : List Nat) : List AV := @List.rec Nat (fun _ => List AV) [] (fun a _ ih => lApp (f a) ih) l
def rowO (L : Nat) (o : List Nat) : List AV := catL (rowK o) (upN L 0)
def litO (o : List Nat) : AObj := .cells (lMap iA (lMap litR o)) 3 true true
def smallN (n : Nat) (args0 : List AV) (l : List (Nat × AObj)) (t : T (AV × Heap)) (nw : List Nat) (args : List AV) (h : Heap) : Option (T (AV × Heap)) :=
 cond (and (eqAVs args args0) (and (lessAll h l) (Nat.ble n h.next))) (some (t.bind fun r => graftT n l h nw r)) none
def turnLit (args : List AV) (h : Heap) : Option (T (AV × Heap)) :=
 match args with
 | [.int _ x, .int _ (.lit (.ofNat m))] => cond (and (eqAVs args [.int .i64 x, .int .i64 (.lit (Int.ofNat m))]) (Nat.ble m 1000000)) (some (.ret (.int .i64 (.app 6 x (.lit (Int.ofNat m)) (.lit 0)), h))) none
 | _ => none
def orcFm (L : Nat) (o : List Nat) (f : FuncId) (args : List AV) (h : Heap) : Option (T (AV × Heap)) :=
 cond (Nat.beq f 19) (smallN 2000 (shufArgs L) [] (.ret (.sliceX 2000 1 0 L, viewA 2001 [(2000, litO o)])) [2000] args h) (cond (Nat.beq f 37) (pickOrc args h) (cond (Nat.beq f 18) (turnLit args h) none))
def tbFm (L : Nat) (o : List Nat) : Tabs := ⟨Sx.Tryd.ft.get, lFind Sx.Tryd.rt, 2000, orcFm L o⟩
def vFm (L : Nat) : List (Nat × AObj) := [(1001, rowsA L)]
def nwFm (r : AV × Heap) : List Nat :=
 match r.1 with
 | .tup [.agg (.sliceX c _ _ _ :: _), .sliceX d _ _ _] => [d, c]
 | _ => []
def argsFm (L : Nat) : List AV := [filmF L, .sliceU 96]
def runFm (L : Nat) (o : List Nat) : T (AV × Heap) := (evalN (tbFm L o) 60 false 9 (argsFm L) (viewA 2000 (vFm L))).bind fun r => graftT 2000 (vFm L) (viewA 2000 (vFm L)) (nwFm r) r
def valFm (L : Nat) : AV := .tup [filmAt 2001 L, .sliceX 2000 1 0 L]
def encFm (L : Nat) (q : AV × Heap) : AV := .tup [q.1, tag (and (allO q.2 (vFm L)) (Nat.beq q.2.next 2002)), blkA (q.2.get 2000), blkA (q.2.get 2001)]
def expFm (L : Nat) (o : List Nat) : AV := .tup [valFm L, tag true, .tup [.tup (lMap iA (lMap litR o)), ln 3, tag true, tag true], .tup [.tup (rowO L o), ln 53, tag true, tag true]]
def ckFm1 (L : Nat) (o : List Nat) : Bool := eqTF ((runFm L o).bind fun q => .ret (encFm L q)) (.ret (expFm L o))
def ckFm (L r : Nat) : Bool := lAll (fun l => ckFm1 L (r :: l)) (permsM (L - 1) (del (fullM L) r))
def ckFmB (L r s : Nat) : Bool := lAll (fun l => ckFm1 L (r :: s :: l)) (permsM (L - 2) (del (del (fullM L) r) s))
theorem ckFmA1 : lAll (ckFm 1) (upN 1 0) = true := by kernel_rfl
theorem ckFmA2 : lAll (ckFm 2) (upN 2 0) = true := by kernel_rfl
theorem ckFmA3 : lAll (ckFm 3) (upN 3 0) = true := by kernel_rfl
end
end Go.Sx
namespace Go.Sx
open Go.RowKit Go.Proofs
set_option maxRecDepth 100000
theorem turn_at (x : IE) (m : Int) (h : Heap) : turnC.orc [.int .i64 x, .int .i64 (.lit m)] h = some (.br (.cmp .leq (.lit m) big) (.ret (.int .i64 (.app 6 x (.lit m) (.lit 0)), h)) (.fail 99)) := rfl
theorem CallOk.brT {p : Par} {f : FuncId} {args : List AV} {h : Heap} {c : BE} {t u : T (AV × Heap)} (hc : CallOk p f args h (.br c t u)) (ht : ∀ ρ, c.den ρ = true) : CallOk p f args h t := by
 intro vs E w0 w Q K k HH ha P
 refine hc vs E w0 w Q K ?_ HH ha P
 simp only [T.Holds]
 rw [if_pos (ht _)]
 exact k
theorem turnLit_ok {p : Par} (hP : pT.P = p.P) {args : List AV} {h : Heap} {t : T (AV × Heap)} (e : turnLit args h = some t) : CallOk p 18 args h t := by
 unfold turnLit at e
 split at e
 ·rename_i k1 x k2 m
  obtain ⟨h1, e⟩ := cond_some e
  cases e
  simp only [Bool.and_eq_true] at h1
  have h3 := ble_t.1 h1.2
  rw [eqAVs_eq _ _ h1.1]
  refine CallOk.brT (turn_orc hP (turn_at x (Int.ofNat m) h)) fun ρ => ?_
  rw [BE.t_leq, IE.den_lit]
  show (Int.ofNat m) ≤ 9223372036854775807
  simp only [Int.ofNat_eq_natCast]; omega
 ·cases e
theorem shufAll {L : Nat} (h0 : 1 ≤ L) (hL : L ≤ 6) : shufCk L = true := by
 rcases six h0 hL with rfl | rfl | rfl | rfl | rfl | rfl
 ·exact shuf1
 ·exact shuf2
 ·exact shuf3
 ·exact shuf4
 ·exact shuf5
 ·exact shuf6
theorem orderOk {L : Nat} (h0 : 1 ≤ L) (hL : L ≤ 6) {ρ : Rho} (hS : OkSh L ρ) : permA L (orderOf L ρ) = true ∧ (orderOf L ρ).length = L := by
 have hold : (shufRun L).Holds ρ (fun r => ∃ K, shufQ L K r = true) := allW_ok (R := []) (Q := shufQ L) (rules_nil ρ) (fun K a _ h => ⟨K, h⟩) _ _ (knOf_ok (fun c hc => by simp [ivC] at hc) (turnBd_ok hS)) (shufAll h0 hL)
 obtain ⟨r1, hleaf, K, hq⟩ := T.holds_leaf _ hold
 unfold shufQ at hq
 split at hq
 ·rename_i q hB
  split at hq
  ·rename_i l hl
   obtain ⟨b1, cs⟩ := q
   obtain ⟨_, _, _, e4⟩ := shufB_some hB
   have ho : orderOf L ρ = l := by unfold orderOf; rw [hleaf]; simp only [hB, hl]
   rw [ho]
   refine ⟨hq, ?_⟩
   have : ∀ (cs : List AV) (l : List Nat), litsA cs = some l → l.length = cs.length := by
    intro cs
    induction cs with
    | nil => intro l h; simp only [litsA, Option.some.injEq] at h; subst h; rfl
    | cons a cs ih =>
     intro l h
     simp only [litsA] at h
     split at h
     ·rename_i n m h1 h2; cases h; simp [ih m h2]
     ·cases h
   rw [this cs l hl]; exact e4
  ·cases hq
 ·cases hq
noncomputable def shufR (L : Nat) : AV × Heap := match shufOrc L (shufArgs L) (viewA 2000 []) with
 | some (.ret r) => r
 | _ => (ln 0, viewA 2000 [])
noncomputable def shufChk (L : Nat) : Bool := and (match shufOrc L (shufArgs L) (viewA 2000 []) with
 | some (.ret _) => true
 | _ => false) (and (eqAV (shufR L).1 (.sliceX 2000 1 0 L)) (and (isO ((shufR L).2.get 2000) (.cells (cellsUp L 110) 3 true true)) (Nat.beq (shufR L).2.next 2001)))
theorem shufChk_all {L : Nat} (h0 : 1 ≤ L) (hL : L ≤ 6) : shufChk L = true := by
 rcases six h0 hL with rfl | rfl | rfl | rfl | rfl | rfl <;> kernel_rfl
theorem cellsUp_names (n : Nat) : ∀ i, cellsUp n i = lMap iA (lMap IE.var (upN n i)) := by
 induction n with
 | zero => intro i; rfl
 | succ n ih => intro i; simp only [cellsUp, ih]; rfl
theorem viewFm_ok {L : Nat} (h0 : 1 ≤ L) (hL : L ≤ 6) : viewOk 2000 (vFm L) = true := by
 rcases six h0 hL with rfl | rfl | rfl | rfl | rfl | rfl <;> kernel_rfl
section
variable {ok : Rho → (Nat → Obj → Prop) → Prop} {L : Nat} (h0 : 1 ≤ L) (hL : L ≤ 6) {o : List Nat} (hok : ∀ ρ m, ok ρ m → okPick ρ m ∧ OkSh L ρ ∧ orderOf L ρ = o)
include h0 hL hok
theorem names_o {ρ : Rho} {m : Nat → Obj → Prop} (h : ok ρ m) : (lMap IE.var (upN L 110)).map (IE.den ρ) = (lMap litR o).map (IE.den ρ) := by
 obtain ⟨_, hS, ho⟩ := hok ρ m h
 have hl := (orderOk h0 hL hS).2
 rw [ho] at hl
 have hn : ∀ (i n : Nat), o[i]? = some n → ρ.iv (110 + i) = n := fun i n e => hS.names i n (by rw [ho]; exact e)
 clear ho hS hok
 rw [litR_den]
 have key : ∀ (o : List Nat) (k i : Nat), o.length = k → (∀ (j n : Nat), o[j]? = some n → ρ.iv (i + j) = n) → (lMap IE.var (upN k i)).map (IE.den ρ) = o.map Int.ofNat := by
  intro o
  induction o with
  | nil => intro k i h _; subst h; rfl
  | cons a o ih =>
   intro k i h hn
   subst h
   have e : (lMap IE.var (upN (a :: o).length i)) = IE.var i :: lMap IE.var (upN o.length (i + 1)) := rfl
   rw [e, List.map_cons, List.map_cons, ih o.length (i + 1) rfl fun j n e => by
    have := hn (j + 1) n (by simpa using e)
    rw [show i + 1 + j = i + (j + 1) by omega]; exact this]
   congr 1
   exact hn 0 a rfl
 exact key o L 110 hl hn
theorem shuf_lit : CallOk ⟨Tryd.prog, rcOf Tryd.rows, ok⟩ 19 (shufArgs L) (viewA 2000 []) (.ret (.sliceX 2000 1 0 L, viewA 2001 [(2000, litO o)])) := by
 have hck := shufChk_all h0 hL
 unfold shufChk at hck
 simp only [Bool.and_eq_true] at hck
 obtain ⟨k1, k2, k3, k4⟩ := hck
 have e : shufOrc L (shufArgs L) (viewA 2000 []) = some (.ret (shufR L)) := by
  unfold shufR
  split at k1
  ·rename_i r hr; rw [hr]
  ·cases k1
 have base := shuf_ok (ok := ok) hL (fun ρ m h => (hok ρ m h).1) (fun ρ m h => (hok ρ m h).2.1) (shufAll h0 hL) e
 refine CallOk.read (p0 := ⟨Tryd.prog, rcOf Tryd.rows, ok⟩) (p := ⟨Tryd.prog, rcOf Tryd.rows, ok⟩) rfl base ?_
 intro ρ b hb Q k
 obtain ⟨M, m1, m2⟩ := hb
 have k : Q (.sliceX 2000 1 0 L, viewA 2001 [(2000, litO o)]) := k
 refine ⟨ρ, ⟨M, m1, m2⟩, SameL.refl _ _, ⟨rfl, fun _ o g => ⟨o, g, SameA.refl o⟩⟩, ⟨_, k, by rw [eqAV_eq _ _ k2]; exact SameV.refl _ _, (beq_t.1 k4).trans (viewA_next _ _).symm, fun j x g => ?_⟩⟩
 have hm := viewA_get _ _ _ _ g
 rw [List.mem_singleton] at hm
 cases hm
 refine ⟨_, isO_eq k3, ?_⟩
 rw [cellsUp_names]
 exact SameA.cells rfl (same_ints (names_o h0 hL hok m1))
noncomputable def pOf (ok : Rho → (Nat → Obj → Prop) → Prop) : Par := ⟨Tryd.prog, rcOf Tryd.rows, ok⟩
theorem orcFm_ok : ∀ f args h t, orcFm L o f args h = some t → CallOk (pOf ok) f args h t := by
 intro f args h t e
 unfold orcFm at e
 cases h19 : Nat.beq f 19 with
 | true =>
  rw [h19, cond_true] at e
  have := beq_t.1 h19; subst this
  unfold smallN at e
  obtain ⟨h1, e⟩ := cond_some e
  cases e
  simp only [Bool.and_eq_true] at h1
  rw [eqAVs_eq _ _ h1.1]
  exact (shuf_lit h0 hL hok).frame (n := 2000) (by omega) rfl rfl (lessAll_ok h1.2.1) (ble_t.1 h1.2.2) fun _ => [2000]
 | false =>
  rw [h19, cond_false] at e
  cases h37 : Nat.beq f 37 with
  | true => rw [h37, cond_true] at e; have := beq_t.1 h37; subst this; exact pick_orc (p := pOf ok) rfl (fun ρ m h => (hok ρ m h).1) e
  | false =>
   rw [h37, cond_false] at e
   obtain ⟨h18, e⟩ := cond_some e
   have := beq_t.1 h18; subst this
   exact turnLit_ok (p := pOf ok) rfl e
noncomputable def filO (L : Nat) : AObj := .cells (lMap vj (upN (6 * L) 350)) 53 true true
noncomputable def namO (L : Nat) : AObj := .cells (lMap iA (lMap IE.var (upN L 110))) 3 true true
noncomputable def vFo (L : Nat) : List (Nat × AObj) := vFm L ++ [(2000, namO L), (2001, filO L)]
theorem filmed_o (hrow : ∀ ρ m, ok ρ m → SameL ρ (lMap vj (upN (6 * L) 350)) ρ (rowO L o)) (hck : ckFm1 L o = true) : CallOk (pOf ok) 9 (argsFm L) (viewA 2000 (vFm L)) (.ret (valFm L, viewA 2002 (vFo L))) := by
 have T0 : TabOk (pOf ok) Sx.Tryd.tt.get (tbFm L o) := Tryd.tab (orcFm L o) (orcFm_ok h0 hL hok) 2000
 have base := eval_ok T0 60 9 (argsFm L) (viewA 2000 (vFm L))
 have fr : CallOk (pOf ok) 9 (argsFm L) (viewA 2000 (vFm L)) (runFm L o) := base.frame (n := 2000) (l := vFm L) (by omega) rfl (viewFm_ok h0 hL) (fun g hg => ⟨g.2, viewA_mem 2000 (vFm L) 0 rfl g hg, .refl _⟩) (by rw [viewA_next]; exact Nat.le_refl _) nwFm
 have tree := eqTF_eq _ _ hck
 refine CallOk.read (p0 := pOf ok) (p := pOf ok) rfl fr fun ρ b hb Q k => ?_
 obtain ⟨M, m1, m2⟩ := hb
 have k : Q (valFm L, viewA 2002 (vFo L)) := k
 refine ⟨ρ, ⟨M, m1, m2⟩, SameL.refl _ _, ⟨rfl, fun _ o g => ⟨o, g, SameA.refl o⟩⟩, T.holds_enc tree ?_⟩
 intro q he
 have he : encFm L q = expFm L o := he
 unfold encFm expFm at he
 simp only [AV.tup.injEq, List.cons.injEq, and_true] at he
 obtain ⟨e1, e2, e3, e4⟩ := he
 simp only [tag, AV.bool.injEq, BE.lit.injEq, Bool.and_eq_true] at e2
 refine ⟨_, k, by rw [e1]; exact SameV.refl _ _, (beq_t.1 e2.2).trans (viewA_next _ _).symm, fun j x g => ?_⟩
 have hm := viewA_get _ _ _ _ g
 unfold vFo at hm
 rcases List.mem_append.1 hm with hm | hm
 ·exact ⟨_, allO_get e2.1 hm, SameA.refl _⟩
 ·simp only [List.mem_cons, List.not_mem_nil, or_false] at hm
  rcases hm with hm | hm
  ·cases hm
   exact ⟨_, blkA_some e3, SameA.cells rfl (same_ints (names_o h0 hL hok m1).symm)⟩
  ·cases hm
   exact ⟨_, blkA_some e4, SameA.cells rfl (SameL.symm (hrow ρ M m1))⟩
end
end Go.Sx
namespace Go.Sx
noncomputable section
open Go.RowKit Go.Proofs
set_option maxRecDepth 100000
theorem CallOk.each {P : Program} {RC : Nat → Nat → List Nat → Code → Code → Prop} {ok : Rho → (Nat → Obj → Prop) → Prop} {f : FuncId} {args : List AV} {h : Heap} {t : T (AV × Heap)}
  (H : ∀ ρ m, ok ρ m → ∃ ok0 : Rho → (Nat → Obj → Prop) → Prop, ok0 ρ m ∧ CallOk ⟨P, RC, ok0⟩ f args h t) : CallOk ⟨P, RC, ok⟩ f args h t := by
 intro vs E w0 w Q K k HH ha Pp
 obtain ⟨m, m1, m2⟩ := HH.ok
 obtain ⟨ok0, k1, hc⟩ := H E.ρ m m1
 have same : ∀ {ok1 ok2 : Rho → (Nat → Obj → Prop) → Prop} (ρ : Rho) (h : Heap), SameH ⟨P, RC, ok1⟩ ⟨P, RC, ok2⟩ ρ h ρ h := fun ρ h => ⟨rfl, fun _ o g => ⟨o, g, SameA.refl o⟩⟩
 have HH0 : HeapOk ⟨P, RC, ok0⟩ ⟨E.ρ, E.σ, E.κ, E.n, E.rc⟩ h w0 w := HeapOk.read (ρ0 := E.ρ) (σ := E.σ) (κ := E.κ) (n := E.n) (rc := E.rc) HH (same _ _) ⟨m, k1, m2⟩
 exact hc vs ⟨E.ρ, E.σ, E.κ, E.n, E.rc⟩ w0 w Q K k HH0 ha fun v' h' E1 w' cv q hle H1 hcv => by
  have hρ1 : E1.ρ = E.ρ := hle.ρ
  have H2 : HeapOk ⟨P, RC, ok⟩ ⟨E.ρ, E1.σ, E1.κ, E1.n, E1.rc⟩ h' w0 w' := HeapOk.read (ρ0 := E.ρ) (σ := E1.σ) (κ := E1.κ) (n := E1.n) (rc := E1.rc) (by rw [← hρ1]; exact H1) (same _ _) HH.ok
  exact Pp v' h' ⟨E.ρ, E1.σ, E1.κ, E1.n, E1.rc⟩ w' cv q ⟨⟨rfl, hle.σ, hle.κ, hle.rc⟩, hle.n, hle.none⟩ H2 (by rw [← hρ1]; exact hcv)
def ffF (ρ : Rho) (i : Nat) : Int := (firstE i).den ρ
def llF (ρ : Rho) (i : Nat) : Int := (lastE i).den ρ
theorem tE_in (ρ : Rho) (a m : Nat) (hm : 1 ≤ m) : 0 ≤ (tE a m).den ρ ∧ (tE a m).den ρ < m := by
 have : (tE a m).den ρ = turnF ((pickE a).den ρ) m := rfl
 rw [this]
 exact turnF_in (by omega)
theorem last_in {ρ : Rho} {i : Nat} (h : 0 ≤ ffF ρ i ∧ ffF ρ i ≤ 99) : ffF ρ i ≤ llF ρ i ∧ llF ρ i ≤ 99 := by
 have t := tE_in ρ (3 * i + 1) 9 (by omega)
 have e : llF ρ i = min 99 (IntKind.i64.wrap (ffF ρ i + (tE (3 * i + 1) 9).den ρ)) := by
  show (lastE i).den ρ = _
  unfold lastE
  rw [IE.den_mn, IE.den_add, IE.den_lit]; rfl
 rw [wrap_sm (by omega) (by omega)] at e
 omega
theorem first_in {ρ : Rho} : ∀ i, 0 ≤ ffF ρ i ∧ ffF ρ i ≤ 99
 | 0 => by
  have t := tE_in ρ 1 10 (by omega)
  have e : ffF ρ 0 = (tE 1 10).den ρ := rfl
  rw [e]; omega
 | i + 1 => by
  have h := first_in (ρ := ρ) i
  have l := last_in h
  have t := tE_in ρ (3 * (i + 1)) 2 (by omega)
  have e : ffF ρ (i + 1) = min 99 (IntKind.i64.wrap (llF ρ i + (tE (3 * (i + 1)) 2).den ρ)) := by
   show (IE.mn (.lit 99) (.bin .add .i64 (lastE i) (tE (3 * (i + 1)) 2))).den ρ = _
   rw [IE.den_mn, IE.den_add, IE.den_lit]; rfl
  rw [wrap_sm (by omega) (by omega)] at e
  omega
theorem next_in {ρ : Rho} (i : Nat) : llF ρ i ≤ ffF ρ (i + 1) ∧ ffF ρ (i + 1) ≤ llF ρ i + 1 := by
 have h := first_in (ρ := ρ) i
 have l := last_in h
 have t := tE_in ρ (3 * (i + 1)) 2 (by omega)
 have e : ffF ρ (i + 1) = min 99 (IntKind.i64.wrap (llF ρ i + (tE (3 * (i + 1)) 2).den ρ)) := by
  show (IE.mn (.lit 99) (.bin .add .i64 (lastE i) (tE (3 * (i + 1)) 2))).den ρ = _
  rw [IE.den_mn, IE.den_add, IE.den_lit]; rfl
 rw [wrap_sm (by omega) (by omega)] at e
 omega
def p0E (i : Nat) : IE := .mx (.lit 0) (.bin .sub .i64 (firstE i) (tE (3 * i + 2) 4))
def p1E (i : Nat) : IE := .mn (.lit 99) (.bin .add .i64 (firstE i) (tE i 3))
def p2E (i : Nat) : IE := .mx (.lit 0) (.bin .sub .i64 (lastE i) (tE (i + 2) 3))
def p3E (i : Nat) : IE := .mn (.lit 99) (.bin .add .i64 (lastE i) (tE (3 * i + 2) 4))
theorem pos_in {ρ : Rho} (i : Nat) : (0 ≤ (p0E i).den ρ ∧ (p0E i).den ρ ≤ ffF ρ i) ∧ (ffF ρ i ≤ (p1E i).den ρ ∧ (p1E i).den ρ ≤ 99) ∧ (0 ≤ (p2E i).den ρ ∧ (p2E i).den ρ ≤ llF ρ i) ∧ llF ρ i ≤ (p3E i).den ρ ∧ (p3E i).den ρ ≤ 99 := by
 have h := first_in (ρ := ρ) i
 have l := last_in h
 have t1 := tE_in ρ (3 * i + 2) 4 (by omega)
 have t2 := tE_in ρ i 3 (by omega)
 have t3 := tE_in ρ (i + 2) 3 (by omega)
 have e0 : (p0E i).den ρ = max 0 (IntKind.i64.wrap (ffF ρ i - (tE (3 * i + 2) 4).den ρ)) := by
  unfold p0E; rw [IE.den_mx, IE.den_sub, IE.den_lit]; rfl
 have e1 : (p1E i).den ρ = min 99 (IntKind.i64.wrap (ffF ρ i + (tE i 3).den ρ)) := by
  unfold p1E; rw [IE.den_mn, IE.den_add, IE.den_lit]; rfl
 have e2 : (p2E i).den ρ = max 0 (IntKind.i64.wrap (llF ρ i - (tE (i + 2) 3).den ρ)) := by
  unfold p2E; rw [IE.den_mx, IE.den_sub, IE.den_lit]; rfl
 have e3 : (p3E i).den ρ = min 99 (IntKind.i64.wrap (llF ρ i + (tE (3 * i + 2) 4).den ρ)) := by
  unfold p3E; rw [IE.den_mn, IE.den_add, IE.den_lit]; rfl
 rw [wrap_sm (by omega) (by omega)] at e0 e1 e2 e3
 omega
def okRowM (L : Nat) (o : List Nat) (ρ : Rho) : Prop := ∀ k, k < L → ρ.iv (350 + 6 * k) = (p0E (posN o k)).den ρ ∧ ρ.iv (350 + 6 * k + 1) = (p1E (posN o k)).den ρ ∧ ρ.iv (350 + 6 * k + 2) = (p2E (posN o k)).den ρ ∧ ρ.iv (350 + 6 * k + 3) = (p3E (posN o k)).den ρ ∧ ρ.iv (350 + 6 * k + 4) = ρ.iv (14 + 6 * k) ∧ ρ.iv (350 + 6 * k + 5) = ρ.iv (15 + 6 * k)
theorem row_same {L : Nat} {o : List Nat} {ρ : Rho} (h : okRowM L o ρ) : SameL ρ (lMap vj (upN (6 * L) 350)) ρ (rowO L o) := by
 have key : ∀ n k, k + n ≤ L → SameL ρ (lMap vj (upN (6 * n) (350 + 6 * k))) ρ (catL (rowK o) (upN n k)) := by
  intro n
  induction n with
  | zero => intro k _; exact SameL.nil
  | succ n ih =>
   intro k hk
   obtain ⟨a0, a1, a2, a3, a4, a5⟩ := h k (by omega)
   have e1 : lMap vj (upN (6 * (n + 1)) (350 + 6 * k)) = vj (350 + 6 * k) :: vj (350 + 6 * k + 1) :: vj (350 + 6 * k + 2) :: vj (350 + 6 * k + 3) :: vj (350 + 6 * k + 4) :: vj (350 + 6 * k + 5) :: lMap vj (upN (6 * n) (350 + 6 * (k + 1))) := rfl
   have e2 : catL (rowK o) (upN (n + 1) k) = iA (p0E (posN o k)) :: iA (p1E (posN o k)) :: iA (p2E (posN o k)) :: iA (p3E (posN o k)) :: vj (14 + 6 * k) :: vj (15 + 6 * k) :: catL (rowK o) (upN n (k + 1)) := rfl
   rw [e1, e2]
   exact SameL.cons (SameV.int a0) (SameL.cons (SameV.int a1) (SameL.cons (SameV.int a2) (SameL.cons (SameV.int a3) (SameL.cons (SameV.int a4) (SameL.cons (SameV.int a5) (ih (k + 1) (by omega)))))))
 exact key L 0 (by omega)
theorem row_valid {L : Nat} {o : List Nat} {ρ : Rho} (hL : L ≤ 6) (h : okRowM L o ρ) (hf : ∀ c ∈ csL L, c.den ρ = true) : okY L ρ := by
 intro c hc
 rcases (csUp_mem L 10).1 hc with ⟨r, hr, hc⟩ | hc
 ·refine reelN_of ?_ c hc
  obtain ⟨_, _, _, _, _, _, u7, u8, u9, _⟩ := reelN hf hr
  obtain ⟨a0, a1, a2, a3, a4, a5⟩ := h r hr
  have p := pos_in (ρ := ρ) (posN o r)
  have f := first_in (ρ := ρ) (posN o r)
  have l := last_in f
  rw [y_row (by omega) (by omega), y_row (by omega) (by omega), y_row (by omega) (by omega), y_row (by omega) (by omega), y_row (by omega) (by omega), y_row (by omega) (by omega)]
  rw [show 340 + (10 + 6 * r) = 350 + 6 * r by omega, show 340 + (11 + 6 * r) = 350 + 6 * r + 1 by omega, show 340 + (12 + 6 * r) = 350 + 6 * r + 2 by omega, show 340 + (13 + 6 * r) = 350 + 6 * r + 3 by omega, show 340 + (14 + 6 * r) = 350 + 6 * r + 4 by omega, show 340 + (15 + 6 * r) = 350 + 6 * r + 5 by omega, a0, a1, a2, a3, a4, a5]
  omega
 ·have q := restC_den.1 fun c hc => hf c ((csUp_mem L 10).2 (.inr hc))
  refine restC_den.2 ?_ c hc
  rw [y_low (by omega), y_low (by omega), y_low (by omega), y_low (by omega), y_low (by omega)]
  exact q
theorem part_chain {ρ ρ' : Rho} : ∀ (l : List Nat) (i : Nat) (a b : Int), (∀ j r, l[j]? = some r → ρ'.iv (10 + 6 * r) = (p0E (i + j)).den ρ ∧ ρ'.iv (11 + 6 * r) = (p1E (i + j)).den ρ ∧ ρ'.iv (12 + 6 * r) = (p2E (i + j)).den ρ ∧ ρ'.iv (13 + 6 * r) = (p3E (i + j)).den ρ) → a ≤ ffF ρ i → ffF ρ i ≤ b → chainF ρ' l a b = true
 | [], _, _, _, _, _, _ => rfl
 | r :: l, i, a, b, h, h1, h2 => by
  obtain ⟨a0, a1, a2, a3⟩ := h 0 r rfl
  rw [Nat.add_zero] at a0 a1 a2 a3
  have p := pos_in (ρ := ρ) i
  have f := first_in (ρ := ρ) i
  have lst := last_in f
  have nx := next_in (ρ := ρ) i
  have e : aftF ρ' r a b = (max (max a ((p0E i).den ρ)) ((p2E i).den ρ), (p3E i).den ρ + 1) := by
   unfold aftF
   rw [a0, a1, a2, a3, if_pos (by omega)]
  simp only [chainF, e]
  rw [part_chain l (i + 1) _ _ (fun j r' hj => by
   have := h (j + 1) r' (by simpa using hj)
   rw [show i + 1 + j = i + (j + 1) by omega]; exact this) (by omega) (by omega), Bool.and_true, Bool.not_eq_true', decide_eq_false_iff_not]
  intro h
  have := congrArg Prod.snd h
  simp only at this
  omega
theorem posN_at : ∀ (o : List Nat) (j r : Nat), o.Nodup → o[j]? = some r → posN o r = j
 | [], j, r, _, h => by simp at h
 | a :: o, 0, r, _, h => by
  simp only [List.getElem?_cons_zero, Option.some.injEq] at h
  subst h
  show cond (Nat.beq a a) 0 _ = 0
  rw [beq_t.2 rfl]; rfl
 | a :: o, j + 1, r, hn, h => by
  rw [List.nodup_cons] at hn
  simp only [List.getElem?_cons_succ] at h
  have hne : a ≠ r := fun e => hn.1 (by rw [e]; exact List.mem_of_getElem? h)
  show cond (Nat.beq a r) 0 (posN o r + 1) = j + 1
  rw [beq_f.2 hne, cond_false, posN_at o j r hn.2 h]
theorem true_chain {L : Nat} {o : List Nat} {ρ : Rho} (hL : L ≤ 6) (h : okRowM L o ρ) (hp : permA L o = true) (from_ len : Nat) : chainF (yF ρ [] L 0) ((o.drop from_).take len) 0 100 = true := by
 obtain ⟨hn, hlt⟩ := permA_ok o hp
 have f := first_in (ρ := ρ) from_
 refine part_chain (ρ := ρ) _ from_ 0 100 (fun j r hj => ?_) f.1 (by omega)
 have hj : o[from_ + j]? = some r := by
  rw [List.getElem?_take] at hj
  split at hj
  ·rw [List.getElem?_drop] at hj; exact hj
  ·cases hj
 have hr := hlt r (List.mem_of_getElem? hj)
 obtain ⟨a0, a1, a2, a3, _⟩ := h r hr
 rw [y_row (by omega) (by omega), y_row (by omega) (by omega), y_row (by omega) (by omega), y_row (by omega) (by omega)]
 rw [show 340 + (10 + 6 * r) = 350 + 6 * r by omega, show 340 + (11 + 6 * r) = 350 + 6 * r + 1 by omega, show 340 + (12 + 6 * r) = 350 + 6 * r + 2 by omega, show 340 + (13 + 6 * r) = 350 + 6 * r + 3 by omega, a0, a1, a2, a3, posN_at o _ r hn hj]
 exact ⟨rfl, rfl, rfl, rfl⟩
end
end Go.Sx
namespace Go.Sx
noncomputable section
open Go.RowKit Go.Proofs
set_option maxRecDepth 100000
structure OkMx (L : Nat) (ρ : Rho) : Prop where
 film : ∀ c ∈ csL L, c.den ρ = true
 sh : OkSh L ρ
 row : okRowM L (orderOf L ρ) ρ
 cnt : ρ.iv 312 = cntF (yF ρ [] L 0) L (fullM L) 0 100
 fst : ∀ j, j < L → ρ.iv (320 + j) = (ordF (yF ρ [] L 0) L (fullM L) 0 100).getD j 0
theorem permsM_part : ∀ (l : List Nat) (m : Nat), m < 64 → l.Nodup → (∀ r ∈ l, r < 6 ∧ bt m r = true) → l ∈ permsM l.length m
 | [], m, _, _, _ => by rw [List.length_nil, permsM]; exact List.mem_singleton.2 rfl
 | r :: l, m, hm, hn, h => by
  obtain ⟨n1, n2⟩ := List.nodup_cons.1 hn
  obtain ⟨h1, h2⟩ := h r List.mem_cons_self
  have hr2 : r ∈ rsOf m := mem_lFilter (mem_upN 6 0 r (Nat.zero_le _) (by omega)) h2
  have f := (facts_of (L := 6) (Nat.le_refl _) (show m < 2 ^ 6 from hm)).1 r hr2
  rw [List.length_cons, permsM, List.mem_flatMap]
  refine ⟨r, hr2, List.mem_map.2 ⟨l, permsM_part l (del m r) f.2.1 n2 fun s hs => ?_, rfl⟩⟩
  obtain ⟨h3, h4⟩ := h s (List.mem_cons_of_mem _ hs)
  exact ⟨h3, del_bt hm h1 h3 h2 h4 fun e => n1 (e ▸ hs)⟩
theorem names_iv {ρ : Rho} : ∀ (o : List Nat) (k i : Nat), o.length = k → (∀ (j n : Nat), o[j]? = some n → ρ.iv (i + j) = n) → (lMap IE.var (upN k i)).map (IE.den ρ) = o.map Int.ofNat
 | [], k, i, h, _ => by subst h; rfl
 | a :: o, k, i, h, hn => by
  subst h
  have e : (lMap IE.var (upN (a :: o).length i)) = IE.var i :: lMap IE.var (upN o.length (i + 1)) := rfl
  rw [e, List.map_cons, List.map_cons, names_iv o o.length (i + 1) rfl fun j n e => by
   have := hn (j + 1) n (by simpa using e)
   rw [show i + 1 + j = i + (j + 1) by omega]; exact this]
  congr 1
  exact hn 0 a rfl
theorem fullM_lt64 {L : Nat} (h0 : 1 ≤ L) (hL : L ≤ 6) : fullM L < 64 := by
 rcases six h0 hL with rfl | rfl | rfl | rfl | rfl | rfl <;> decide
section
variable {L : Nat} (h0 : 1 ≤ L) (hL : L ≤ 6) {ρ : Rho} (h : OkMx L ρ)
include h0 hL h
omit h0 in
theorem mx_y : okY L ρ := row_valid hL h.row h.film
theorem mx_part {lo n : Nat} (hn : 1 ≤ n) (hlo : lo + n ≤ L) : ∃ l ∈ permsM n (fullM L), (lMap IE.var (upN n (110 + lo))).map (IE.den ρ) = l.map Int.ofNat ∧ (BE.lit true).den ρ = chainF (yF ρ [] L 0) l 0 100 := by
 obtain ⟨o1, o2⟩ := orderOk h0 hL h.sh
 obtain ⟨p1, p2⟩ := permA_ok _ o1
 let l := ((orderOf L ρ).drop lo).take n
 have hlen : l.length = n := by
  show (((orderOf L ρ).drop lo).take n).length = n
  rw [List.length_take, List.length_drop]; omega
 have at_ : ∀ (j r : Nat), l[j]? = some r → (orderOf L ρ)[lo + j]? = some r := fun j r hj => by
  have hj : (((orderOf L ρ).drop lo).take n)[j]? = some r := hj
  rw [List.getElem?_take] at hj
  split at hj
  ·rw [List.getElem?_drop] at hj; exact hj
  ·cases hj
 refine ⟨l, ?_, names_iv l n (110 + lo) hlen fun j r hj => ?_, (true_chain hL h.row o1 lo n).symm⟩
 ·have hs : l.Sublist (orderOf L ρ) := (List.take_sublist _ _).trans (List.drop_sublist _ _)
  have := permsM_part l (fullM L) (fullM_lt64 h0 hL) (hs.nodup p1) fun r hr => ⟨by have := p2 r (hs.subset hr); omega, bt_full h0 hL (p2 r (hs.subset hr))⟩
  rw [hlen] at this
  exact this
 ·have := h.sh.names (lo + j) r (at_ j r hj)
  rw [show 110 + lo + j = 110 + (lo + j) by omega]; exact this
theorem mx_some : noneF (yF ρ [] L 0) L (fullM L) 0 100 = false := by
 obtain ⟨l, l1, _, l3⟩ := mx_part h0 hL h (lo := 0) h0 (by omega)
 exact noneF_of_chain _ L (fullM L) 0 100 l l1 l3.symm
end
def mvMx (c d b : Nat) : Nat := if b = 1001 then c else if b = 2001 then d else b
def offMx (lo b : Nat) : Nat := if b = 2001 then lo else 0
def nmO (L : Nat) : AObj := ro (lMap iA (lMap IE.var (upN L 110)))
def filmIn (L c : Nat) (h : Heap) : Bool := and (lessAll h v2) (and (lessO (rowsY L) (h.get c)) (Nat.ble 2000 h.next))
theorem ids0 : ∀ l : List Nat, idsLts 0 (lMap vj l) = true
 | [] => rfl
 | _ :: l => ids0 l
theorem upN_split : ∀ (a b i : Nat), upN (a + b) i = upN a i ++ upN b (i + a)
 | 0, b, i => by rw [Nat.zero_add]; rfl
 | a + 1, b, i => by
  rw [show a + 1 + b = (a + b) + 1 by omega]
  simp only [upN, List.cons_append]
  rw [upN_split a b (i + 1), show i + 1 + a = i + (a + 1) by omega]
theorem upN_len : ∀ n i : Nat, (upN n i).length = n
 | 0, _ => rfl
 | n + 1, i => by rw [upN, List.length_cons, upN_len n (i + 1)]
theorem lMap_app {α β : Type} (f : α → β) (l m : List α) : lMap f (l ++ m) = lMap f l ++ lMap f m := by rw [lMap_eq, lMap_eq, lMap_eq, List.map_append]
theorem args_mv3 {E : Env} {L c d lo n : Nat} (hn : 1 ≤ n) : concL (E.mv3 (mvMx c d) (offMx lo) 2002) (argsJr L n) = concL E [filmAt c L, .sliceX d 1 lo n] := by
 have e1 : conc (E.mv3 (mvMx c d) (offMx lo) 2002) (filmF L) = conc E (filmAt c L) := by simp [filmF, filmAt, concL, conc, Env.mv3, mvMx, offMx, vj]
 have e2 : conc (E.mv3 (mvMx c d) (offMx lo) 2002) (.sliceX 2001 1 0 n) = conc E (.sliceX d 1 lo n) := by
  simp [conc, Env.mv3, mvMx, offMx]
  by_cases hk : lo + n ≤ E.κ d
  ·rw [if_pos (show n ≤ E.κ d - lo by omega), if_pos hk, if_neg (show ¬ E.κ d = lo by omega)]
   rfl
  ·rw [if_neg (show ¬ n ≤ E.κ d - lo by omega), if_neg hk]
 show concL _ [filmF L, .sliceX 2001 1 0 n] = _
 simp only [concL, e1, e2]
theorem less_part {h : Heap} {b : Nat} {cs l r : List AV} {k : Nat} (H : ∃ o, h.get b = some o ∧ Less (ro (l ++ cs ++ r)) o) (hl : l.length = k) : ∃ o, h.get b = some o ∧ Part cs k o := by
 obtain ⟨o, g, hl'⟩ := H
 refine ⟨o, g, ?_⟩
 cases hl' with
 | refl => exact ⟨_, _, _, _, rfl, l, r, rfl, hl⟩
 | read cs el own ext => exact ⟨_, _, _, _, rfl, l, r, rfl, hl⟩
theorem less_part0 {h : Heap} {b : Nat} {cs : List AV} (H : ∃ o, h.get b = some o ∧ Less (ro cs) o) : ∃ o, h.get b = some o ∧ Part cs 0 o :=
 less_part (l := []) (r := []) (by simpa using H) rfl
theorem vY_ro {L : Nat} : ∀ g ∈ vY L, g.1 < 2000 ∧ ownO g.2 = false ∧ idsO 0 g.2 = true := fun g hg => by
 simp only [vY, List.mem_cons, List.not_mem_nil, or_false] at hg
 rcases hg with rfl | rfl | rfl
 ·exact ⟨by omega, rfl, rfl⟩
 ·exact ⟨by omega, rfl, rfl⟩
 ·exact ⟨by omega, rfl, ids0 _⟩
theorem vY_at {L c : Nat} {h : Heap} (hh : filmIn L c h = true) : ∀ g ∈ vY L, ∃ o, h.get (mvN 1001 c g.1) = some o ∧ Less g.2 o := fun g hg => by
 unfold filmIn at hh
 simp only [Bool.and_eq_true] at hh
 have hl := lessAll_ok hh.1
 simp only [vY, List.mem_cons, List.not_mem_nil, or_false] at hg
 rcases hg with rfl | rfl | rfl
 ·exact hl _ List.mem_cons_self
 ·exact hl _ (List.mem_cons_of_mem _ List.mem_cons_self)
 ·have e : mvN 1001 c 1001 = c := if_pos rfl
  show ∃ o, h.get (mvN 1001 c 1001) = some o ∧ _
  rw [e]
  exact lessO_ok hh.2.1
theorem film_mv {L c : Nat} {E : Env} : concL (E.mv 1001 c 2000) [filmF L] = concL E [filmAt c L] := by simp [filmF, filmAt, concL, conc, Env.mv, mvN, vj]
theorem film_mv2 {L c : Nat} {x : IE} {E : Env} : concL (E.mv 1001 c 2000) [filmF L, .int .i64 x] = concL E [filmAt c L, .int .i64 x] := by simp [filmF, filmAt, concL, conc, Env.mv, mvN, vj]
def leafF (L : Nat) : AV × Heap := (foundVF L, viewA 2001 (vY L ++ [(2000, fstO L)]))
def leafZ (L : Nat) : AV × Heap := (valS [], viewA 2001 (vY L ++ [(2000, lstO [])]))
section
variable {p : Par} (hP : p.P = Tryd.prog) {L : Nat} (h0 : 1 ≤ L) (hL : L ≤ 6) (hok : ∀ ρ M, p.ok ρ M → OkMx L ρ) {c : Nat} {h : Heap} (hh : filmIn L c h = true)
include hP h0 hL hok hh
theorem isAt {d lo n : Nat} (hn : 1 ≤ n) (hlo : lo + n ≤ L) (hd : lessO (nmO L) (h.get d) = true) : CallOk p 10 [filmAt c L, .sliceX d 1 lo n] h (.ret (.tup [tag true, ln 0], h)) := by
 unfold filmIn at hh
 simp only [Bool.and_eq_true] at hh
 obtain ⟨i1, i2, _⟩ := hh
 have hl := lessAll_ok i1
 refine CallOk.moved3 (mv := mvMx c d) (off := offMx lo) (isY hP h0 hL (hok := fun ρ M k => mx_y hL (hok ρ M k)) hn (by omega) (.lit true) (xs := lMap IE.var (upN n (110 + lo))) (by rw [lMap_eq, List.length_map, upN_len]) (fun ρ M k => mx_part h0 hL (hok ρ M k) hn hlo)) (by omega) (fun b hb => ⟨by unfold mvMx; rw [if_neg (by omega), if_neg (by omega)], by unfold offMx; rw [if_neg (by omega)]⟩) rfl (fun g hg => ?_) (fun E => args_mv3 hn)
 simp only [vY, List.cons_append, List.nil_append, List.mem_cons, List.not_mem_nil, or_false] at hg
 rcases hg with rfl | rfl | rfl | rfl
 ·exact ⟨by omega, _, rfl, rfl, less_part0 (b := mvMx c d 0) (hl _ List.mem_cons_self)⟩
 ·exact ⟨by omega, _, rfl, rfl, less_part0 (b := mvMx c d 1) (hl _ (List.mem_cons_of_mem _ List.mem_cons_self))⟩
 ·exact ⟨by omega, _, rfl, ids0 _, less_part0 (b := mvMx c d 1001) (lessO_ok i2)⟩
 ·refine ⟨by omega, _, rfl, idsI 0 _, less_part (l := lMap iA (lMap IE.var (upN lo 110))) (r := lMap iA (lMap IE.var (upN (L - (lo + n)) (110 + lo + n)))) ?_ ?_⟩
  ·have e : L = lo + (n + (L - (lo + n))) := by omega
   have e2 : upN L 110 = upN lo 110 ++ (upN n (110 + lo) ++ upN (L - (lo + n)) (110 + lo + n)) := by
    rw [← upN_split, ← upN_split]
    exact congrArg (fun k => upN k 110) e
   have k := lessO_ok hd
   unfold nmO at k
   rw [e2, lMap_app, lMap_app, lMap_app, lMap_app, ← List.append_assoc] at k
   exact k
  ·rw [lMap_eq, lMap_eq, List.length_map, List.length_map, upN_len]; rfl
theorem ordersAt : CallOk p 11 [filmAt c L] h (.ret (valE (.var 312), h)) :=
 CallOk.moved (a := 1001) (c := c) (ordersY hP h0 hL (fun ρ M k => mx_y hL (hok ρ M k)) (.var 312) fun ρ M k => (hok ρ M k).cnt) (by omega) (by omega) rfl vY_ro (vY_at hh) fun E => film_mv
theorem firstMx : CallOk p 12 [filmAt c L] h ((T.ret (leafF L)).bind fun r => mvT 2000 h r) := by
 have hn : 2000 ≤ h.next := by
  unfold filmIn at hh
  simp only [Bool.and_eq_true] at hh
  exact ble_t.1 hh.2.2
 exact CallOk.movedT (a := 1001) (c := c) (firstY hP h0 hL (fun ρ M k => mx_y hL (hok ρ M k)) fun ρ M k => ⟨mx_some h0 hL (hok ρ M k), (hok ρ M k).fst⟩) (by omega) (by omega) vY_ro hn (vY_at hh) fun E => film_mv
theorem strangeMx : CallOk p 13 [filmAt c L] h ((T.ret (leafZ L)).bind fun r => mvT 2000 h r) := by
 have hn : 2000 ≤ h.next := by
  unfold filmIn at hh
  simp only [Bool.and_eq_true] at hh
  exact ble_t.1 hh.2.2
 exact CallOk.movedT (a := 1001) (c := c) (strangeY hP h0 hL (fun ρ M k => mx_y hL (hok ρ M k)) fun ρ M k => mx_some h0 hL (hok ρ M k)) (by omega) (by omega) vY_ro hn (vY_at hh) fun E => film_mv
end
end
end Go.Sx
namespace Go.Sx
noncomputable section
open Go.RowKit Go.Proofs
set_option maxRecDepth 100000
theorem CallOk.readE {p : Par} {f : FuncId} {args : List AV} {h : Heap} {t : T (AV × Heap)}
  (H : ∀ ρ b, p.okB ρ b → ∀ Q : AV × Heap → Prop, t.Holds ρ Q → ∃ (p0 : Par) (args0 : List AV) (h0 : Heap) (t0 : T (AV × Heap)) (ρ' : Rho), p0.P = p.P ∧ CallOk p0 f args0 h0 t0 ∧ p0.okB ρ' b ∧ SameL ρ args ρ' args0 ∧ SameH p p0 ρ h ρ' h0 ∧ t0.Holds ρ' fun r0 => ∃ r, Q r ∧ SameV ρ' r0.1 ρ r.1 ∧ SameH p0 p ρ' r0.2 ρ r.2) : CallOk p f args h t := by
 intro vs E w0 w Q K k HH ha P
 obtain ⟨p0, args0, h0, t0, ρ', hP, hc, hok, hargs, hh, ht⟩ := H E.ρ w0 HH.ok Q k
 have HH0 : HeapOk p0 ⟨ρ', E.σ, E.κ, E.n, E.rc⟩ h0 w0 w := HeapOk.read (ρ0 := E.ρ) (σ := E.σ) (κ := E.κ) (n := E.n) (rc := E.rc) HH hh hok
 have ha0 : concL ⟨ρ', E.σ, E.κ, E.n, E.rc⟩ args0 = some vs := by
  rw [← hargs E.σ E.κ E.n E.n E.rc E.rc]; exact ha
 have key := hc vs ⟨ρ', E.σ, E.κ, E.n, E.rc⟩ w0 w _ K ht HH0 ha0 (fun v' h' E1 w' cv q hle H1 hcv => by
  obtain ⟨r, hq, hv, hs⟩ := q
  have hρ1 : E1.ρ = ρ' := hle.ρ
  have H2 : HeapOk p ⟨E.ρ, E1.σ, E1.κ, E1.n, E1.rc⟩ r.2 w0 w' := HeapOk.read (ρ0 := ρ') (σ := E1.σ) (κ := E1.κ) (n := E1.n) (rc := E1.rc) (by rw [← hρ1]; exact H1) hs HH.ok
  refine P r.1 r.2 ⟨E.ρ, E1.σ, E1.κ, E1.n, E1.rc⟩ w' cv hq ⟨⟨rfl, hle.σ, hle.κ, hle.rc⟩, hle.n, hle.none⟩ H2 ?_
  have := hv E1.σ E1.κ E1.n E1.n E1.rc E1.rc
  rw [← this, ← hρ1]; exact hcv)
 rw [hP] at key
 exact key
def leafY (L : Nat) (l : List Nat) : AV × Heap := (valS l, viewA 2001 (vY L ++ [(2000, lstO l)]))
def treeY (L : Nat) (c : Nat → BE) : T (AV × Heap) := forkN c (fun l => .ret (leafY L l)) (upN L 0) []
theorem placesY {p : Par} (hP : p.P = Tryd.prog) {L : Nat} (h0 : 1 ≤ L) (hL : L ≤ 6) {x : IE} {c : Nat → BE}
  (hok : ∀ ρ M, p.ok ρ M → okY L ρ ∧ noneF (yF ρ [] L 0) L (fullM L) 0 100 = false ∧ ∃ r : Nat, r < L ∧ x.den ρ = r ∧ ∀ j, j < L → (c j).den ρ = atF (yF ρ [] L 0) r L 0 (fullM L) 0 100 j) :
  CallOk p 15 [filmF L, .int .i64 x] (viewA 2000 (vY L)) (treeY L c) := by
 refine CallOk.readE (p := p) ?_
 intro ρ b ⟨M, k1, k2⟩ Q kk
 obtain ⟨hy, hn, r, hr, hx, hc⟩ := hok ρ M k1
 obtain ⟨n1, n2, n3⟩ := y_ok h0 hL hy [] r
 have lk : LikeF (yF ρ [] L r) (yF ρ [] L 0) := fun j hj => y_like ρ [] [] L L r 0 j hj
 have hat : ∀ j, atF (yF ρ [] L r) r L 0 (fullM L) 0 100 j = atF (yF ρ [] L 0) r L 0 (fullM L) 0 100 j := fun j => atF_like lk r L 0 (fullM L) 0 100 j
 have hcn : 1 ≤ cntF (yF ρ [] L 0) L (fullM L) 0 100 := (cntF_pos _ L (fullM L) 0 100).2 hn
 obtain ⟨j, j1, j2⟩ := some_at h0 hL hr (ρ := yF ρ [] L 0) hcn
 refine ⟨pPw L r, _, _, _, yF ρ [] L r, hP.symm, places_free h0 hL hr, ⟨M, ⟨n2, n3⟩, k2⟩, SameL.cons film_y (SameL.cons (SameV.int hx) SameL.nil), heap3 (p := p) (p' := pPw L r) hP (SameA.cells hP (rows_y hL)), ?_⟩
 refine pw_leaf h0 hL n2 ⟨j, j1, (hat j).trans j2⟩ ?_
 have e : (upN L 0).filter (fun j => (c j).den ρ) = (upN L 0).filter fun j => atF (yF ρ [] L r) r L 0 (fullM L) 0 100 j := List.filter_congr fun j hj => (hc j (mem_up hj)).trans (hat j).symm
 have kl := forkN_leaf _ _ kk (by rw [List.nil_append, e]; exact filter_ne ⟨j, j1, (hat j).trans j2⟩)
 rw [List.nil_append, e] at kl
 have kl : Q (leafY L ((upN L 0).filter fun j => atF (yF ρ [] L r) r L 0 (fullM L) 0 100 j)) := kl
 exact ⟨_, kl, valS_same _, heap4 (p := pPw L r) (p' := p) _ hP.symm (SameA.cells hP.symm (SameL.symm (rows_y hL)))⟩
theorem placesAt {p : Par} (hP : p.P = Tryd.prog) {L : Nat} (h0 : 1 ≤ L) (hL : L ≤ 6) {x : IE} {cd : Nat → BE}
  (hok : ∀ ρ M, p.ok ρ M → okY L ρ ∧ noneF (yF ρ [] L 0) L (fullM L) 0 100 = false ∧ ∃ r : Nat, r < L ∧ x.den ρ = r ∧ ∀ j, j < L → (cd j).den ρ = atF (yF ρ [] L 0) r L 0 (fullM L) 0 100 j)
  {c : Nat} {h : Heap} (hh : filmIn L c h = true) : CallOk p 15 [filmAt c L, .int .i64 x] h ((treeY L cd).bind fun r => mvT 2000 h r) := by
 have hn : 2000 ≤ h.next := by
  have hh := hh
  unfold filmIn at hh
  simp only [Bool.and_eq_true] at hh
  exact ble_t.1 hh.2.2
 exact CallOk.movedT (a := 1001) (c := c) (placesY hP h0 hL hok) (by omega) (by omega) vY_ro hn (vY_at hh) fun E => film_mv2
end
end Go.Sx
namespace Go.Sx
noncomputable section
open Go.RowKit Go.Proofs
set_option maxRecDepth 100000
def mixBody : C := (cSeq (cSeq (cOps [⟨some 92, false, none, iMov (.t 17)⟩,
 ⟨some 93, false, none, iMov (.t 8)⟩,
 ⟨some 94, false, none, iLenS (.t 93)⟩,
 ⟨some 95, true, none, iCmp .lss (.t 92) (.t 94)⟩])
 (cCond (.t 95) cSkip (cExit 0)))
 (cSeq (cBlock 1 (cSeq (dOps 0 [⟨⟨some 99, false, none, iLoadN 6 (.t 7)⟩, [7], false, 0, 0, none, []⟩,
 ⟨⟨some 100, false, none, iMov (.t 8)⟩, [8], false, 0, 0, none, []⟩,
 ⟨⟨some 101, false, none, iMov (.t 17)⟩, [17], false, 0, 0, none, []⟩,
 ⟨⟨some 102, false, none, iIaddr 1 (.t 100) (.t 101)⟩, [100, 101], false, 0, 0, none, []⟩,
 ⟨⟨some 103, false, none, iLoad (.t 102)⟩, [102], false, 0, 0, none, []⟩,
 ⟨⟨some 104, false, none, iCall (.c (.func (.func 15) [] [])) [(.t 99), (.t 103)]⟩, [99, 103], true, 0, 0, none, []⟩,
 ⟨⟨some 98, false, none, iMov (.t 104)⟩, [104], false, 1, 1, none, []⟩,
 ⟨⟨some 105, false, none, iExtract 0 (.t 98)⟩, [98], false, 1, 1, none, []⟩,
 ⟨⟨some 106, false, none, iExtract 1 (.t 98)⟩, [98], false, 1, 1, none, []⟩,
 ⟨⟨some 18, true, none, iMov (.t 105)⟩, [105], false, 1, 1, none, []⟩,
 ⟨⟨some 19, true, none, iMov (.t 106)⟩, [106], false, 1, 1, none, []⟩])
 (cSeq (cOps [⟨some 107, false, none, iMov (.t 19)⟩,
 ⟨some 108, false, none, iCmp .neq (.t 107) (.c (.int .i64 (.lit 0)))⟩,
 ⟨some 109, false, none, iMov (.t 108)⟩,
 ⟨some 110, false, some (109, false), iMov (.t 18)⟩,
 ⟨some 111, false, some (109, false), iMov (.t 17)⟩,
 ⟨some 112, false, some (109, false), iCall (.c (.func (.func 16) [] [])) [(.t 110), (.t 111)]⟩,
 ⟨some 113, false, some (109, false), iCmp .lss (.t 112) (.c (.int .i64 (.lit 0)))⟩,
 ⟨some 114, false, none, iPick (.t 109) (.c (.bool (.lit true))) (.t 113)⟩,
 ⟨some 115, false, none, iMov (.t 114)⟩,
 ⟨some 116, false, some (115, false), iMov (.t 18)⟩,
 ⟨some 117, false, some (115, false), iMov (.t 8)⟩,
 ⟨some 118, false, some (115, false), iLenS (.t 117)⟩,
 ⟨some 119, false, some (115, false), iCall (.c (.func (.func 17) [] [])) [(.t 116), (.t 118)]⟩,
 ⟨some 120, false, some (115, false), iNot (.t 119)⟩,
 ⟨some 121, false, none, iPick (.t 115) (.c (.bool (.lit true))) (.t 120)⟩,
 ⟨some 122, false, none, iMov (.t 121)⟩,
 ⟨some 123, false, some (122, false), iMov (.t 11)⟩,
 ⟨some 124, false, some (122, false), iCmp .eql (.t 123) (.c (.int .i64 (.lit 1)))⟩,
 ⟨some 125, false, some (122, false), iMov (.t 124)⟩,
 ⟨some 126, false, some (125, true), iMov (.t 18)⟩,
 ⟨some 127, false, some (125, true), iLenS (.t 126)⟩,
 ⟨some 128, false, some (125, true), iCmp .neq (.t 127) (.c (.int .i64 (.lit 1)))⟩,
 ⟨some 129, false, some (122, false), iPick (.t 125) (.t 128) (.c (.bool (.lit false)))⟩,
 ⟨some 130, true, none, iPick (.t 122) (.c (.bool (.lit true))) (.t 129)⟩])
 (cCond (.t 130) (cSeq (cOps [⟨some 6, true, none, iMov (.c (.bool (.lit false)))⟩])
 cRet) cSkip))))
 (cOps [⟨some 96, false, none, iMov (.t 17)⟩,
 ⟨some 97, false, none, iArith .add (.t 96) (.c (.int .i64 (.lit 1)))⟩,
 ⟨some 17, true, none, iMov (.t 97)⟩])))
def mixCode (lc : C) : C := (cSeq (cOps [⟨some 3, true, none, iBox 26 (.t 0)⟩,
 ⟨some 5, true, none, iBox 28 (.t 2)⟩,
 ⟨some 6, true, none, iMov (.c (.bool (.lit false)))⟩])
 (cSeq (cSeq (cOps [⟨some 22, false, none, iLoadN 6 (.t 3)⟩,
 ⟨some 23, false, none, iCall (.c (.func (.func 7) [] [])) [(.t 22)]⟩,
 ⟨some 24, true, none, iNot (.t 23)⟩])
 (cCond (.t 24) (cSeq (cOps [⟨some 25, false, none, iCall (.c (.func (.func 8) [] [])) []⟩,
 ⟨some 6, true, none, iMov (.t 25)⟩])
 cRet) cSkip))
 (cSeq (cOps [⟨some 27, false, none, iLoadN 6 (.t 3)⟩,
 ⟨some 28, false, none, iMov (.t 1)⟩,
 ⟨some 29, false, none, iCall (.c (.func (.func 9) [] [])) [(.t 27), (.t 28)]⟩,
 ⟨some 26, false, none, iMov (.t 29)⟩,
 ⟨some 30, false, none, iExtract 0 (.t 26)⟩,
 ⟨some 31, false, none, iExtract 1 (.t 26)⟩,
 ⟨some 7, true, none, iAlloc 26 [.nilslice, (.int .i64 (.lit 0)), (.int .i64 (.lit 0)), (.int .i64 (.lit 0)), (.int .i64 (.lit 0)), (.int .i64 (.lit 0))]⟩,
 ⟨none, false, none, iStore 6 (.t 7) (.t 30)⟩,
 ⟨some 8, true, none, iMov (.t 31)⟩])
 (cSeq (cOps [⟨some 33, false, none, iLoadN 6 (.t 7)⟩,
 ⟨some 34, false, none, iMov (.t 8)⟩,
 ⟨some 35, false, none, iCall (.c (.func (.func 10) [] [])) [(.t 33), (.t 34)]⟩,
 ⟨some 32, false, none, iMov (.t 35)⟩,
 ⟨some 36, false, none, iExtract 0 (.t 32)⟩,
 ⟨some 37, false, none, iExtract 1 (.t 32)⟩,
 ⟨some 9, true, none, iMov (.t 36)⟩,
 ⟨some 10, true, none, iMov (.t 37)⟩])
 (cSeq (cOps [⟨some 39, false, none, iLoadN 6 (.t 7)⟩,
 ⟨some 40, false, none, iCall (.c (.func (.func 11) [] [])) [(.t 39)]⟩,
 ⟨some 38, false, none, iMov (.t 40)⟩,
 ⟨some 41, false, none, iExtract 0 (.t 38)⟩,
 ⟨some 42, false, none, iExtract 1 (.t 38)⟩,
 ⟨some 11, true, none, iMov (.t 41)⟩,
 ⟨some 12, true, none, iMov (.t 42)⟩])
 (cSeq (cOps [⟨some 44, false, none, iLoadN 6 (.t 7)⟩,
 ⟨some 45, false, none, iCall (.c (.func (.func 12) [] [])) [(.t 44)]⟩,
 ⟨some 43, false, none, iMov (.t 45)⟩,
 ⟨some 46, false, none, iExtract 0 (.t 43)⟩,
 ⟨some 47, false, none, iExtract 1 (.t 43)⟩,
 ⟨some 13, true, none, iMov (.t 46)⟩,
 ⟨some 14, true, none, iMov (.t 47)⟩])
 (cSeq (cOps [⟨some 49, false, none, iLoadN 6 (.t 7)⟩,
 ⟨some 50, false, none, iCall (.c (.func (.func 13) [] [])) [(.t 49)]⟩,
 ⟨some 48, false, none, iMov (.t 50)⟩,
 ⟨some 51, false, none, iExtract 0 (.t 48)⟩,
 ⟨some 52, false, none, iExtract 1 (.t 48)⟩,
 ⟨some 15, true, none, iMov (.t 51)⟩,
 ⟨some 16, true, none, iMov (.t 52)⟩])
 (cSeq (cSeq (cOps [⟨some 53, false, none, iMov (.t 10)⟩,
 ⟨some 54, false, none, iCmp .neq (.t 53) (.c (.int .i64 (.lit 0)))⟩,
 ⟨some 55, false, none, iMov (.t 54)⟩,
 ⟨some 56, false, some (55, false), iMov (.t 12)⟩,
 ⟨some 57, false, some (55, false), iCmp .neq (.t 56) (.c (.int .i64 (.lit 0)))⟩,
 ⟨some 58, false, none, iPick (.t 55) (.c (.bool (.lit true))) (.t 57)⟩,
 ⟨some 59, false, none, iMov (.t 58)⟩,
 ⟨some 60, false, some (59, false), iMov (.t 14)⟩,
 ⟨some 61, false, some (59, false), iCmp .neq (.t 60) (.c (.int .i64 (.lit 0)))⟩,
 ⟨some 62, false, none, iPick (.t 59) (.c (.bool (.lit true))) (.t 61)⟩,
 ⟨some 63, false, none, iMov (.t 62)⟩,
 ⟨some 64, false, some (63, false), iMov (.t 16)⟩,
 ⟨some 65, false, some (63, false), iCmp .neq (.t 64) (.c (.int .i64 (.lit 0)))⟩,
 ⟨some 66, false, none, iPick (.t 63) (.c (.bool (.lit true))) (.t 65)⟩,
 ⟨some 67, false, none, iMov (.t 66)⟩,
 ⟨some 68, false, some (67, false), iMov (.t 9)⟩,
 ⟨some 69, false, some (67, false), iNot (.t 68)⟩,
 ⟨some 70, false, none, iPick (.t 67) (.c (.bool (.lit true))) (.t 69)⟩,
 ⟨some 71, false, none, iMov (.t 70)⟩,
 ⟨some 72, false, some (71, false), iMov (.t 11)⟩,
 ⟨some 73, false, some (71, false), iCmp .lss (.t 72) (.c (.int .i64 (.lit 1)))⟩,
 ⟨some 74, false, none, iPick (.t 71) (.c (.bool (.lit true))) (.t 73)⟩,
 ⟨some 75, false, none, iMov (.t 74)⟩,
 ⟨some 76, false, some (75, false), iMov (.t 15)⟩,
 ⟨some 77, false, some (75, false), iLenS (.t 76)⟩,
 ⟨some 78, false, some (75, false), iCmp .neq (.t 77) (.c (.int .i64 (.lit 0)))⟩,
 ⟨some 79, false, none, iPick (.t 75) (.c (.bool (.lit true))) (.t 78)⟩,
 ⟨some 80, false, none, iMov (.t 79)⟩,
 ⟨some 81, false, some (80, false), iMov (.t 13)⟩,
 ⟨some 82, false, some (80, false), iLenS (.t 81)⟩,
 ⟨some 83, false, some (80, false), iMov (.t 8)⟩,
 ⟨some 84, false, some (80, false), iLenS (.t 83)⟩,
 ⟨some 85, false, some (80, false), iCmp .neq (.t 82) (.t 84)⟩,
 ⟨some 86, false, none, iPick (.t 80) (.c (.bool (.lit true))) (.t 85)⟩,
 ⟨some 87, false, none, iMov (.t 86)⟩,
 ⟨some 88, false, some (87, false), iMov (.t 8)⟩,
 ⟨some 89, false, some (87, false), iMov (.t 13)⟩,
 ⟨some 90, false, some (87, false), iCall (.c (.func (.func 14) [] [])) [(.t 88), (.t 89)]⟩,
 ⟨some 91, true, none, iPick (.t 87) (.c (.bool (.lit true))) (.t 90)⟩])
 (cCond (.t 91) (cSeq (cOps [⟨some 6, true, none, iMov (.c (.bool (.lit false)))⟩])
 cRet) cSkip))
 (cSeq (cSeq (cOps [⟨some 17, true, none, iMov (.c (.int .i64 (.lit 0)))⟩])
 (cBlock 0 lc))
 (cSeq (cOps [⟨some 131, false, none, iIaddrA 1 2 (.t 5) (.c (.int .i64 (.lit 0)))⟩,
 ⟨some 132, false, none, iLoad (.t 131)⟩,
 ⟨some 133, false, none, iMov (.t 8)⟩,
 ⟨some 134, false, none, iLenS (.t 133)⟩,
 ⟨some 135, false, none, iCall (.c (.func (.func 18) [] [])) [(.t 132), (.t 134)]⟩,
 ⟨some 20, true, none, iMov (.t 135)⟩])
 (cSeq (cOps [⟨some 136, false, none, iMov (.t 20)⟩,
 ⟨some 137, false, none, iArith .add (.t 136) (.c (.int .i64 (.lit 1)))⟩,
 ⟨some 138, false, none, iIaddrA 1 2 (.t 5) (.c (.int .i64 (.lit 1)))⟩,
 ⟨some 139, false, none, iLoad (.t 138)⟩,
 ⟨some 140, false, none, iMov (.t 8)⟩,
 ⟨some 141, false, none, iLenS (.t 140)⟩,
 ⟨some 142, false, none, iMov (.t 20)⟩,
 ⟨some 143, false, none, iArith .sub (.t 141) (.t 142)⟩,
 ⟨some 144, false, none, iCall (.c (.func (.func 18) [] [])) [(.t 139), (.t 143)]⟩,
 ⟨some 145, false, none, iArith .add (.t 137) (.t 144)⟩,
 ⟨some 21, true, none, iMov (.t 145)⟩])
 (cSeq (dOps 0 [⟨⟨some 147, false, none, iLoadN 6 (.t 7)⟩, [7], false, 0, 0, none, []⟩,
 ⟨⟨some 148, false, none, iMov (.t 8)⟩, [8], false, 0, 0, none, []⟩,
 ⟨⟨some 149, false, none, iMov (.t 20)⟩, [20], false, 0, 0, none, []⟩,
 ⟨⟨some 150, false, none, iMov (.t 21)⟩, [21], false, 0, 0, none, []⟩,
 ⟨⟨some 151, false, none, iSlice 1 (.t 148) (some (.t 149)) (some (.t 150)) none⟩, [148, 149, 150], false, 0, 0, none, []⟩,
 ⟨⟨some 152, false, none, iCall (.c (.func (.func 10) [] [])) [(.t 147), (.t 151)]⟩, [147, 151], true, 0, 0, none, []⟩,
 ⟨⟨some 146, false, none, iMov (.t 152)⟩, [152], false, 1, 1, none, []⟩,
 ⟨⟨some 153, false, none, iExtract 0 (.t 146)⟩, [146], false, 1, 1, none, []⟩,
 ⟨⟨some 154, false, none, iExtract 1 (.t 146)⟩, [146], false, 1, 1, none, []⟩,
 ⟨⟨some 9, true, none, iMov (.t 153)⟩, [153], false, 1, 1, none, []⟩,
 ⟨⟨some 10, true, none, iMov (.t 154)⟩, [154], false, 1, 1, none, []⟩])
 (cSeq (cOps [⟨some 155, false, none, iMov (.t 10)⟩,
 ⟨some 156, false, none, iCmp .eql (.t 155) (.c (.int .i64 (.lit 0)))⟩,
 ⟨some 157, false, none, iMov (.t 156)⟩,
 ⟨some 158, false, some (157, true), iMov (.t 9)⟩,
 ⟨some 159, false, none, iPick (.t 157) (.t 158) (.c (.bool (.lit false)))⟩,
 ⟨some 160, false, none, iMov (.t 159)⟩,
 ⟨some 161, false, some (160, true), iCall (.c (.func (.func 8) [] [])) []⟩,
 ⟨some 162, false, none, iPick (.t 160) (.t 161) (.c (.bool (.lit false)))⟩,
 ⟨some 6, true, none, iMov (.t 162)⟩])
 cRet)))))))))))))
theorem mix_compiles (lc : C) : cCodeX lc Sx.Tryd.tt.get Tryd.f3.ntmps Sx.Tryd.kp3 3 (bodyOf Tryd.f3) = some (mixCode lc) := by kernel_rfl
theorem mix_loops : (loopsOf (bodyOf Tryd.f3)).map (cCode Sx.Tryd.tt.get Tryd.f3.ntmps Sx.Tryd.kp3 3) = [some mixBody] := by kernel_rfl
theorem mix_ranges : (loopsOf (bodyOf Tryd.f3)).map ranges = [[]] := by kernel_rfl
def flagE (i j : Nat) : BE := .cmp .eql (.app 9100 (.lit (Int.ofNat i)) (.lit (Int.ofNat j)) (.lit 0)) (.lit 1)
def fixE (f j v : Nat) : BE := .cmp .eql (.var v) (.app f (.lit (Int.ofNat j)) (.lit 0) (.lit 0))
def fixL (f n v : Nat) : List BE := lMap (fun j => fixE f j (v + j)) (upN n 0)
def boxF (L : Nat) : List AV := [.sliceX 1003 6 0 L, vj 0, vj 1, vj 2, vj 3, vj 4]
def nmA (L : Nat) : List AV := lMap iA (lMap IE.var (upN L 110))
def rwA (L : Nat) : List AV := lMap vj (upN (6 * L) 350)
def mixL (L : Nat) : LSpec where
 sl0 := [(5, .ptr 1005 0), (7, .ptr 1001 0), (8, .sliceX 1002 1 0 L), (11, vi 312), (17, li 0)]
 sl := [(5, .ptr 1005 0), (7, .ptr 1001 0), (8, .sliceX 1002 1 0 L), (11, vi 312), (17, vi 700)]
 vs := [⟨0, none, [li 1, li 20, li 0, li 50], [li 1, li 20, li 0, li 50], []⟩, ⟨1, none, [li 0, li 99, li 0, li 99, li 1, li 1200], [li 0, li 99, li 0, li 99, li 1, li 1200], []⟩,
  ⟨1001, none, boxF L, boxF L, []⟩, ⟨1002, none, nmA L, nmA L, []⟩, ⟨1003, none, rwA L, rwA L, []⟩]
 nv := 2000
 dom := fixE 9003 0 312 :: (fixL 9002 5 0 ++ (fixL 9001 L 110 ++ fixL 9000 (6 * L) 350))
 out := .ret (.exit 0, [(5, .ptr 1005 0), (7, .ptr 1001 0), (8, .sliceX 1002 1 0 L)])
def orcLp (L : Nat) (f : FuncId) (args : List AV) (h : Heap) : Option (T (AV × Heap)) :=
 cond (Nat.beq f 15) (match args with
  | [_, .int _ (.var v)] => cond (and (eqAVs args [filmAt 1003 L, .int .i64 (.var v)]) (and (and (Nat.ble 110 v) (Nat.ble (v + 1) (110 + L))) (filmIn L 1003 h))) (some ((treeY L (flagE (v - 110))).bind fun r => mvT 2000 h r)) none
  | _ => none) none
def tbLp (L : Nat) : Tabs := ⟨Sx.Tryd.ft.get, lFind Sx.Tryd.rt, 2000, orcLp L⟩
def cxLp (L : Nat) : Cx := ⟨evalN (tbLp L) 40 false, evalN (tbLp L) 40 true, 2000⟩
def mixRound (L : Nat) : T (Ex × St) := mixBody (cxLp L) ⟨3, none⟩ (mixL L).T.st
def keepsMx (L : Nat) (r : Ex × St) : Bool :=
 match r.1 with
 | .ret => true
 | _ => match r.2.df with
  | [] => eqAVs (lMap (fun i => optA (r.2.tm.tree.get i)) [5, 7, 8, 11]) [.tup [.ptr 1005 0], .tup [.ptr 1001 0], .tup [.sliceX 1002 1 0 L], .tup [vi 312]]
  | _ => false
def endMx (L : Nat) (r : Ex × St) : AV := .tup [li (tagE r.1), optA (r.2.tm.tree.get 17), .bool (.lit (keepsMx L r))]
def upK : IE := .bin .add .i64 (.var 700) (.lit 1)
def mixU (L : Nat) : T AV := .br (.cmp .lss (.var 700) (.lit (Int.ofNat L))) (.ret (.tup [li 0, .tup [.int .i64 upK], .bool (.lit true)])) (.ret (.tup [li 2, .tup [vi 700], .bool (.lit true)]))
def mixR (L : Nat) : Rules := catR (fun i => ([.not (flagE i i)], .lit false) :: catR (fun j => cond (Nat.beq i j) [] [([.cmp .eql (.var 312) (.lit 1), flagE i j], .lit false)]) (upN L 0)) (upN L 0)
where
 catR (f : Nat → Rules) (l : List Nat) : Rules := @List.rec Nat (fun _ => Rules) [] (fun a _ ih => lApp (f a) ih) l
def mixCk (L i : Nat) : Bool := servesX (mixR L) (mixU L) ((mixRound L).bind fun r => .ret (endMx L r)) (knOf [(700, Int.ofNat i, Int.ofNat i)] [])
theorem mixCk_1 : lAll (mixCk 1) (upN 2 0) = true := by kernel_rfl
theorem mixCk_2 : lAll (mixCk 2) (upN 3 0) = true := by kernel_rfl
theorem mixCk_3 : lAll (mixCk 3) (upN 4 0) = true := by kernel_rfl
end
end Go.Sx
namespace Go.Sx
open Go.RowKit Go.Proofs
set_option maxRecDepth 100000
def KeyV (L j : Nat) : Prop := j < 5 ∨ (110 ≤ j ∧ j < 110 + L) ∨ j = 312 ∨ (350 ≤ j ∧ j < 350 + 6 * L)
section
variable {ρ ρ' : Rho} {L : Nat} (hL : L ≤ 6) (hk : ∀ j, KeyV L j → ρ'.iv j = ρ.iv j)
include hL hk
theorem aftF_key {r : Nat} (hr : r < L) (a b : Int) : aftF (yF ρ' [] L 0) r a b = aftF (yF ρ [] L 0) r a b := by
 have e : ∀ j, 10 ≤ j → j < 10 + 6 * L → (yF ρ' [] L 0).iv j = (yF ρ [] L 0).iv j := fun j h1 h2 => by
  rw [y_row h1 (by omega), y_row h1 (by omega)]
  exact hk _ (.inr (.inr (.inr ⟨by omega, by omega⟩)))
 unfold aftF
 rw [e _ (by omega) (by omega), e _ (by omega) (by omega), e _ (by omega) (by omega), e _ (by omega) (by omega)]
theorem noneF_key : ∀ (k m : Nat) (a b : Int), m < 2 ^ L → noneF (yF ρ' [] L 0) k m a b = noneF (yF ρ [] L 0) k m a b
 | 0, _, _, _, _ => rfl
 | k + 1, m, a, b, hm => by
  simp only [noneF]
  refine all_congr fun r hr => ?_
  obtain ⟨f1, f2, _⟩ := (facts_of hL hm).1 r hr
  rw [aftF_key hL hk f1, noneF_key k _ _ _ f2]
theorem atF_key (q : Nat) : ∀ (n p m : Nat) (a b : Int) (j : Nat), m < 2 ^ L → atF (yF ρ' [] L 0) q n p m a b j = atF (yF ρ [] L 0) q n p m a b j
 | 0, _, _, _, _, _, _ => rfl
 | n + 1, p, m, a, b, j, hm => by
  simp only [atF]
  have key : ∀ l : List Nat, (∀ r ∈ l, r < L ∧ del m r < 2 ^ L) → (l.any fun r => !decide (aftF (yF ρ' [] L 0) r a b = (0, 0)) && (if r = q then decide (j = p) && !noneF (yF ρ' [] L 0) n (del m r) (aftF (yF ρ' [] L 0) r a b).1 (aftF (yF ρ' [] L 0) r a b).2 else atF (yF ρ' [] L 0) q n (p + 1) (del m r) (aftF (yF ρ' [] L 0) r a b).1 (aftF (yF ρ' [] L 0) r a b).2 j)) =
    l.any fun r => !decide (aftF (yF ρ [] L 0) r a b = (0, 0)) && (if r = q then decide (j = p) && !noneF (yF ρ [] L 0) n (del m r) (aftF (yF ρ [] L 0) r a b).1 (aftF (yF ρ [] L 0) r a b).2 else atF (yF ρ [] L 0) q n (p + 1) (del m r) (aftF (yF ρ [] L 0) r a b).1 (aftF (yF ρ [] L 0) r a b).2 j) := by
   intro l
   induction l with
   | nil => intro _; rfl
   | cons r l ih =>
    intro hl
    obtain ⟨g1, g2⟩ := hl r List.mem_cons_self
    rw [List.any_cons, List.any_cons, ih fun r hr => hl r (List.mem_cons_of_mem _ hr), aftF_key hL hk g1, noneF_key hL hk n _ _ _ g2, atF_key q n _ _ _ _ _ g2]
  exact key _ fun r hr => ⟨((facts_of hL hm).1 r hr).1, ((facts_of hL hm).1 r hr).2.1⟩
theorem okY_key (h : okY L ρ) : okY L ρ' := by
 intro c hc
 rcases (csUp_mem L 10).1 hc with ⟨r, hr, hc⟩ | hc
 ·refine reelN_of ?_ c hc
  have u := reelN (ρ := yF ρ [] L 0) h hr
  have e : ∀ j, 10 ≤ j → j < 10 + 6 * L → (yF ρ' [] L 0).iv j = (yF ρ [] L 0).iv j := fun j h1 h2 => by
   rw [y_row h1 (by omega), y_row h1 (by omega)]
   exact hk _ (.inr (.inr (.inr ⟨by omega, by omega⟩)))
  rw [e _ (by omega) (by omega), e _ (by omega) (by omega), e _ (by omega) (by omega), e _ (by omega) (by omega), e _ (by omega) (by omega), e _ (by omega) (by omega)]
  exact u
 ·have q := restC_den.1 fun c hc => h c ((csUp_mem L 10).2 (.inr hc))
  refine restC_den.2 ?_ c hc
  have e : ∀ j, j < 5 → (yF ρ' [] L 0).iv j = (yF ρ [] L 0).iv j := fun j h1 => by
   rw [y_low (by omega), y_low (by omega)]
   exact hk _ (.inl h1)
  rw [e _ (by omega), e _ (by omega), e _ (by omega), e _ (by omega), e _ (by omega)]
  exact q
end
structure OkLp (L : Nat) (ρ : Rho) : Prop where
 y : okY L ρ
 some_ : noneF (yF ρ [] L 0) L (fullM L) 0 100 = false
 at_ : ∀ i, i < L → ∃ r : Nat, r < L ∧ ρ.iv (110 + i) = r ∧ ∀ j, j < L → (flagE i j).den ρ = atF (yF ρ [] L 0) r L 0 (fullM L) 0 100 j
 here : ∀ i, i < L → (flagE i i).den ρ = true
 one : ρ.iv 312 = 1 → ∀ i j, i < L → j < L → i ≠ j → (flagE i j).den ρ = false
theorem flag_fi {ρ ρ' : Rho} (h : ρ'.fi = ρ.fi) (i j : Nat) : (flagE i j).den ρ' = (flagE i j).den ρ := by
 show cmpDen .eql (FI ρ'.fi 9100 (Int.ofNat i) (Int.ofNat j) 0) 1 = cmpDen .eql (FI ρ.fi 9100 (Int.ofNat i) (Int.ofNat j) 0) 1
 rw [h]
theorem OkLp.key {L : Nat} (hL : L ≤ 6) {ρ ρ' : Rho} (hk : ∀ j, KeyV L j → ρ'.iv j = ρ.iv j) (hf : ρ'.fi = ρ.fi) (h : OkLp L ρ) : OkLp L ρ' := by
 refine ⟨okY_key hL hk h.y, (noneF_key hL hk L (fullM L) 0 100 fullM_lt0).trans h.some_, fun i hi => ?_, fun i hi => (flag_fi hf i i).trans (h.here i hi), fun h1 i j hi hj hij => (flag_fi hf i j).trans (h.one ((hk 312 (.inr (.inr (.inl rfl)))).symm.trans h1) i j hi hj hij)⟩
 obtain ⟨r, hr, h1, h2⟩ := h.at_ i hi
 exact ⟨r, hr, (hk _ (.inr (.inl ⟨by omega, by omega⟩))).trans h1, fun j hj => (flag_fi hf i j).trans ((h2 j hj).trans (atF_key hL hk r L 0 (fullM L) 0 100 j fullM_lt0).symm)⟩
noncomputable def pLp (L : Nat) : Par := ⟨Tryd.prog, rcOf Tryd.rows, fun ρ _ => OkLp L ρ⟩
theorem orcLp_ok {L : Nat} (h0 : 1 ≤ L) (hL : L ≤ 6) : ∀ f args h t, orcLp L f args h = some t → CallOk (pLp L) f args h t := by
 intro f args h t e
 unfold orcLp at e
 obtain ⟨h15, e2⟩ := cond_some e
 clear e
 have := beq_t.1 h15
 subst this
 split at e2
 ·rename_i v
  obtain ⟨h1, h2⟩ := cond_some e2
  have h2 := Option.some.inj h2
  subst h2
  simp only [Bool.and_eq_true] at h1
  obtain ⟨i1, ⟨i2, i3⟩, i4⟩ := h1
  have i2 := ble_t.1 i2
  have i3 := ble_t.1 i3
  rw [eqAVs_eq _ _ i1]
  refine placesAt (p := pLp L) rfl h0 hL (x := .var v) (cd := flagE (v - 110)) (fun ρ M k => ?_) i4
  have k : OkLp L ρ := k
  obtain ⟨r, hr, g1, g2⟩ := k.at_ (v - 110) (by omega)
  exact ⟨k.y, k.some_, r, hr, by rw [show 110 + (v - 110) = v by omega] at g1; exact g1, g2⟩
 ·cases e2
theorem tabsLp {L : Nat} (h0 : 1 ≤ L) (hL : L ≤ 6) : TabOk (pLp L) Sx.Tryd.tt.get (tbLp L) := Tryd.tab (orcLp L) (orcLp_ok h0 hL) 2000
theorem cxLp_ok {L : Nat} (h0 : 1 ≤ L) (hL : L ≤ 6) : CxOk (pLp L) (cxLp L) := evalN_ok (tabsLp h0 hL) 40
end Go.Sx
