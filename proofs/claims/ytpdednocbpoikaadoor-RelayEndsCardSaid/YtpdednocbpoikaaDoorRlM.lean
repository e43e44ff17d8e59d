/- RlM -/
import Derived.Test.YtpdednocbpoikaaDoorRlL
namespace Go.Sx
open Go.RowKit Go.Proofs
set_option maxRecDepth 100000
theorem less_part {h : Heap} {b : Nat} {cs l r : List AV} {k : Nat} (H : ∃ o, h.get b = some o ∧ Less (ro (l ++ cs ++ r)) o) (hl : l.length = k) : ∃ o, h.get b = some o ∧ Part cs k o := by
  obtain ⟨o, g, hl'⟩ := H
  refine ⟨o, g, ?_⟩
  cases hl' with
  | refl => exact ⟨_, _, _, _, rfl, l, r, rfl, hl⟩
  | read cs el own ext => exact ⟨_, _, _, _, rfl, l, r, rfl, hl⟩
theorem less_part0 {h : Heap} {b : Nat} {cs : List AV} (H : ∃ o, h.get b = some o ∧ Less (ro cs) o) : ∃ o, h.get b = some o ∧ Part cs 0 o :=
  less_part (l := []) (r := []) (by simpa using H) rfl
theorem ids0 : ∀ l : List Nat, idsLts 0 (lMap vj l) = true
  | [] => rfl
  | _ :: l => ids0 l
theorem SameV.tup {ρ ρ' : Rho} {l l' : List AV} (h : SameL ρ l ρ' l') : SameV ρ (.tup l) ρ' (.tup l') := fun σ κ n m rc rc' => by simp only [conc, h σ κ n m rc rc']
theorem SameL.symm {ρ ρ' : Rho} {l l' : List AV} (h : SameL ρ l ρ' l') : SameL ρ' l' ρ l := fun σ κ n m rc rc' => (h σ κ m n rc' rc).symm
def loZ (ρ : Rho) (o : Nat) (x : Int) : Int := max 0 (ρ.iv (14 + 6 * o) - x * ρ.iv 3) * ρ.iv 0
def hiZ (ρ : Rho) (o : Nat) (x : Int) : Int := max 0 (ρ.iv (15 + 6 * o) - x * ρ.iv 2) * ρ.iv 1
theorem ivC_in {l : List (Nat × Int × Int)} {ρ : Rho} (h : ∀ c ∈ ivC l, c.den ρ = true) : ∀ q ∈ l, q.2.1 ≤ ρ.iv q.1 ∧ ρ.iv q.1 ≤ q.2.2 := by
  induction l with
  | nil => intro q hq; cases hq
  | cons a l ih =>
    intro q hq
    simp only [ivC, List.mem_cons] at h
    rcases List.mem_cons.1 hq with rfl | hq
    · exact ⟨BE.t_leq.1 (h _ (.inl rfl)), BE.t_leq.1 (h _ (.inr (.inl rfl)))⟩
    · exact ih (fun c hc => h c (.inr (.inr hc))) q hq
structure FilmZ (L : Nat) (ρ : Rho) : Prop where
  turn : 1 ≤ ρ.iv 0 ∧ ρ.iv 0 ≤ ρ.iv 1 ∧ ρ.iv 1 ≤ 20
  tear : 0 ≤ ρ.iv 2 ∧ ρ.iv 2 ≤ ρ.iv 3 ∧ ρ.iv 3 ≤ 50
  feet : ∀ r, r < L → 1 ≤ ρ.iv (14 + 6 * r) ∧ ρ.iv (14 + 6 * r) ≤ ρ.iv (15 + 6 * r) ∧ ρ.iv (15 + 6 * r) ≤ 1200
theorem filmZ {L : Nat} {ρ : Rho} (h : okFilm L ρ) : FilmZ L ρ := by
  obtain ⟨h1, h2⟩ := h
  have q := ivC_in h1
  have m : ∀ {a : Nat × Int × Int}, a ∈ filmQ L → a ∈ filmQ L := fun h => h
  have q0 := q (0, 1, 20) (by simp [filmQ])
  have q1 := q (1, 1, 20) (by simp [filmQ])
  have q2 := q (2, 0, 50) (by simp [filmQ])
  have q3 := q (3, 0, 50) (by simp [filmQ])
  have l0 := BE.t_leq.1 (h2 (leV 0 1) (by simp [filmC]))
  have l2 := BE.t_leq.1 (h2 (leV 2 3) (by simp [filmC]))
  simp only [IE.den_var] at l0 l2 q0 q1 q2 q3
  refine ⟨⟨q0.1, l0, q1.2⟩, ⟨q2.1, l2, q3.2⟩, fun r hr => ?_⟩
  have rows : ∀ (l : List Nat), r ∈ l → (14 + 6 * r, (1 : Int), (1200 : Int)) ∈ (@List.rec Nat (fun _ => List (Nat × Int × Int)) [] (fun r _ ih => (10 + 6 * r, 0, 99) :: (11 + 6 * r, 0, 99) :: (12 + 6 * r, 0, 99) :: (13 + 6 * r, 0, 99) :: (14 + 6 * r, 1, 1200) :: (15 + 6 * r, 1, 1200) :: ih) l) ∧
      (15 + 6 * r, (1 : Int), (1200 : Int)) ∈ (@List.rec Nat (fun _ => List (Nat × Int × Int)) [] (fun r _ ih => (10 + 6 * r, 0, 99) :: (11 + 6 * r, 0, 99) :: (12 + 6 * r, 0, 99) :: (13 + 6 * r, 0, 99) :: (14 + 6 * r, 1, 1200) :: (15 + 6 * r, 1, 1200) :: ih) l) ∧
      leV (14 + 6 * r) (15 + 6 * r) ∈ (@List.rec Nat (fun _ => List BE) [] (fun r _ ih => leV (10 + 6 * r) (11 + 6 * r) :: leV (12 + 6 * r) (13 + 6 * r) :: leV (14 + 6 * r) (15 + 6 * r) :: leV (10 + 6 * r) (13 + 6 * r) :: ih) l) := by
    intro l
    induction l with
    | nil => intro h; cases h
    | cons a l ih =>
      intro h
      rcases List.mem_cons.1 h with rfl | h
      · refine ⟨?_, ?_, ?_⟩ <;> simp
      · obtain ⟨i1, i2, i3⟩ := ih h
        exact ⟨List.mem_cons_of_mem _ (List.mem_cons_of_mem _ (List.mem_cons_of_mem _ (List.mem_cons_of_mem _ (List.mem_cons_of_mem _ (List.mem_cons_of_mem _ i1))))), List.mem_cons_of_mem _ (List.mem_cons_of_mem _ (List.mem_cons_of_mem _ (List.mem_cons_of_mem _ (List.mem_cons_of_mem _ (List.mem_cons_of_mem _ i2))))),
          List.mem_cons_of_mem _ (List.mem_cons_of_mem _ (List.mem_cons_of_mem _ (List.mem_cons_of_mem _ i3)))⟩
  obtain ⟨i1, i2, i3⟩ := rows (upN L 0) (mem_upN L 0 r (Nat.zero_le _) (by omega))
  have a1 := q _ (List.mem_cons_of_mem _ (List.mem_cons_of_mem _ (List.mem_cons_of_mem _ (List.mem_cons_of_mem _ (List.mem_cons_of_mem _ i1)))))
  have a2 := q _ (List.mem_cons_of_mem _ (List.mem_cons_of_mem _ (List.mem_cons_of_mem _ (List.mem_cons_of_mem _ (List.mem_cons_of_mem _ i2)))))
  have a3 := BE.t_leq.1 (h2 _ (List.mem_cons_of_mem _ (List.mem_cons_of_mem _ i3)))
  simp only [IE.den_var] at a1 a2 a3
  exact ⟨a1.1, a3, a2.2⟩
theorem mul_in {a b A B : Int} (h1 : 0 ≤ a) (h2 : a ≤ A) (h3 : 0 ≤ b) (h4 : b ≤ B) : 0 ≤ a * b ∧ a * b ≤ A * B :=
  ⟨Int.mul_nonneg h1 h3, Int.mul_le_mul h2 h4 h3 (Int.le_trans h1 h2)⟩
theorem lastZ_in {L : Nat} {ρ : Rho} (H : FilmZ L ρ) {o : Nat} (ho : o < L) {x : Int} (h0 : 0 ≤ x) (hx : x ≤ 999) : 0 ≤ loZ ρ o x ∧ loZ ρ o x ≤ hiZ ρ o x ∧ hiZ ρ o x ≤ 24000 := by
  obtain ⟨t1, t2, t3⟩ := H.turn
  obtain ⟨u1, u2, u3⟩ := H.tear
  obtain ⟨f1, f2, f3⟩ := H.feet o ho
  have a1 := mul_in h0 hx u1 (Int.le_trans u2 u3)
  have a2 : x * ρ.iv 2 ≤ x * ρ.iv 3 := Int.mul_le_mul_of_nonneg_left u2 h0
  have m1 : (0 : Int) ≤ max 0 (ρ.iv (14 + 6 * o) - x * ρ.iv 3) := Int.le_max_left _ _
  have m2 : max 0 (ρ.iv (14 + 6 * o) - x * ρ.iv 3) ≤ max 0 (ρ.iv (15 + 6 * o) - x * ρ.iv 2) := by omega
  have m3 : max 0 (ρ.iv (15 + 6 * o) - x * ρ.iv 2) ≤ 1200 := by omega
  refine ⟨Int.mul_nonneg m1 (by omega), Int.mul_le_mul m2 t2 (by omega) (by omega), ?_⟩
  exact (mul_in (by omega : 0 ≤ max 0 (ρ.iv (15 + 6 * o) - x * ρ.iv 2)) m3 (by omega : 0 ≤ ρ.iv 1) t3).2
theorem loE_den {L : Nat} {ρ : Rho} (H : FilmZ L ρ) {o : Nat} (ho : o < L) {x : IE} (h0 : 0 ≤ x.den ρ) (hx : x.den ρ ≤ 999) : (loE o x).den ρ = loZ ρ o (x.den ρ) ∧ (hiE o x).den ρ = hiZ ρ o (x.den ρ) := by
  obtain ⟨t1, t2, t3⟩ := H.turn
  obtain ⟨u1, u2, u3⟩ := H.tear
  obtain ⟨f1, f2, f3⟩ := H.feet o ho
  have a1 := mul_in h0 hx (Int.le_trans u1 u2) u3
  have a2 := mul_in h0 hx u1 (Int.le_trans u2 u3)
  have m := lastZ_in H ho h0 hx
  unfold loE hiE
  simp only [IE.den_mul, IE.den_add, IE.den_sub, IE.den_mx, IE.den_lit, IE.den_var]
  unfold loZ hiZ at *
  have w1 : IntKind.i64.wrap (x.den ρ * ρ.iv 3) = x.den ρ * ρ.iv 3 := wrap_sm (by omega) (by omega)
  have w2 : IntKind.i64.wrap (x.den ρ * ρ.iv 2) = x.den ρ * ρ.iv 2 := wrap_sm (by omega) (by omega)
  have w3 : IntKind.i64.wrap (ρ.iv (14 + 6 * o) - x.den ρ * ρ.iv 3) = ρ.iv (14 + 6 * o) - x.den ρ * ρ.iv 3 := wrap_sm (by omega) (by omega)
  have w4 : IntKind.i64.wrap (ρ.iv (15 + 6 * o) - x.den ρ * ρ.iv 2) = ρ.iv (15 + 6 * o) - x.den ρ * ρ.iv 2 := wrap_sm (by omega) (by omega)
  rw [w1, w2, w3, w4]
  have w5 : IntKind.i64.wrap (0 + max 0 (ρ.iv (14 + 6 * o) - x.den ρ * ρ.iv 3)) = max 0 (ρ.iv (14 + 6 * o) - x.den ρ * ρ.iv 3) := by rw [Int.zero_add]; exact wrap_sm (by omega) (by omega)
  have w6 : IntKind.i64.wrap (0 + max 0 (ρ.iv (15 + 6 * o) - x.den ρ * ρ.iv 2)) = max 0 (ρ.iv (15 + 6 * o) - x.den ρ * ρ.iv 2) := by rw [Int.zero_add]; exact wrap_sm (by omega) (by omega)
  rw [w5, w6]
  exact ⟨wrap_sm (by omega) (by omega), wrap_sm (by omega) (by omega)⟩
noncomputable def oB (L j : Nat) : IE := ordE (fullM L) (.lit 0) (.lit 100) j
theorem ordF_in {L : Nat} {ρ : Rho} (hL : L ≤ 6) : ∀ (k m : Nat) (a b : Int), m < 2 ^ L → ∀ z ∈ ordF ρ k m a b, 0 ≤ z ∧ z < L
  | 0, _, _, _, _, z, hz => by cases hz
  | k + 1, m, a, b, hm, z, hz => by
    simp only [ordF] at hz
    split at hz
    · rename_i r hr
      have hr' := List.mem_of_find?_eq_some hr
      obtain ⟨q1, q2, _, _⟩ := (facts_of hL hm).1 r hr'
      rcases List.mem_cons.1 hz with rfl | hz
      · omega
      · exact ordF_in hL k _ _ _ q2 z hz
    · cases hz
theorem fullM_lt {L : Nat} : fullM L < 2 ^ L := by
  unfold fullM
  have : 0 < 2 ^ L := Nat.two_pow_pos L
  show 2 ^ L - 1 < 2 ^ L
  omega
theorem oB_in {L : Nat} (h0 : 1 ≤ L) (hL : L ≤ 6) {ρ : Rho} (h : okT L ρ) {j : Nat} (hj : j < L) : 0 ≤ (oB L j).den ρ ∧ (oB L j).den ρ < L := by
  unfold oB
  rw [ord_den h fullM_lt _ _ (by omega)]
  rw [List.getD_eq_getElem?_getD]
  cases hg : (ordF ρ (cnt (fullM L)) (fullM L) ((IE.lit 0).den ρ) ((IE.lit 100).den ρ))[j]? with
  | none => simp only [Option.getD_none]; omega
  | some z =>
    simp only [Option.getD_some]
    exact ordF_in hL _ _ _ _ fullM_lt z (List.mem_of_getElem? hg)
def okN (L : Nat) (ρ : Rho) : Prop := ∀ j t, j < L → t < 2 → ρ.iv (100 + 4 * j + 2 * t) = loZ ρ ((oB L j).den ρ).toNat (ρ.iv 60 + t) ∧ ρ.iv (101 + 4 * j + 2 * t) = hiZ ρ ((oB L j).den ρ).toNat (ρ.iv 60 + t)
theorem shows_in {ρ : Rho} (h : okBook ρ) : 0 ≤ ρ.iv 60 ∧ ρ.iv 60 ≤ 998 := ivC_in h.1 (60, 0, 998) (by simp [bookQ])
theorem okN_in {L : Nat} (h0 : 1 ≤ L) (hL : L ≤ 6) {ρ : Rho} (h : okB L ρ) (hn : okN L ρ) {j t : Nat} (hj : j < L) (ht : t < 2) : 0 ≤ ρ.iv (100 + 4 * j + 2 * t) ∧ ρ.iv (100 + 4 * j + 2 * t) ≤ ρ.iv (101 + 4 * j + 2 * t) ∧ ρ.iv (101 + 4 * j + 2 * t) ≤ 24000 := by
  obtain ⟨e1, e2⟩ := hn j t hj ht
  rw [e1, e2]
  have ho := oB_in h0 hL h.1 hj
  have hs := shows_in h.2.2.2
  exact lastZ_in (filmZ h.2.1) (by omega) (by omega) (by omega)
theorem ofilm_over {L : Nat} (hL : L ≤ 6) {ρ : Rho} (g : Nat → Int) (h : okFilm L ρ) : okFilm L (ρ.over g) := by
  have e : ∀ i, i < 500 → (ρ.over g).iv i = ρ.iv i := fun i hi => over_lt hi
  refine ⟨fun c hc => ?_, fun c hc => ?_⟩
  · have key : ∀ (l : List (Nat × Int × Int)), (∀ q ∈ l, q.1 < 500) → ∀ c ∈ ivC l, c.den ρ = true → c.den (ρ.over g) = true := by
      intro l
      induction l with
      | nil => intro _ c hc; cases hc
      | cons a l ih =>
        intro hl c hc hd
        have ha := hl a List.mem_cons_self
        simp only [ivC, List.mem_cons] at hc
        rcases hc with rfl | rfl | hc
        · rw [BE.t_leq, IE.den_lit, IE.den_var] at hd ⊢; rw [e _ ha]; exact hd
        · rw [BE.t_leq, IE.den_lit, IE.den_var] at hd ⊢; rw [e _ ha]; exact hd
        · exact ih (fun q hq => hl q (List.mem_cons_of_mem _ hq)) c hc hd
    refine key (filmQ L) ?_ c hc (h.1 c hc)
    rcases Nat.lt_or_ge L 1 with h1 | h1
    · have : L = 0 := by omega
      subst this; intro q hq; simp only [filmQ, upN, List.mem_cons, List.not_mem_nil, or_false] at hq
      rcases hq with rfl | rfl | rfl | rfl | rfl <;> simp
    · have hk : lAll (fun q : Nat × Int × Int => Nat.ble (q.1 + 1) 500) (filmQ L) = true := by
        rcases six h1 hL with rfl | rfl | rfl | rfl | rfl | rfl <;> rfl
      exact fun q hq => ble_t.1 (lAll_mem hk q hq)
  · have hle : ∀ c ∈ filmC L, ∃ i j, i < 500 ∧ j < 500 ∧ c = leV i j := by
      intro c hc
      simp only [filmC, List.mem_cons] at hc
      rcases hc with rfl | rfl | hc
      · exact ⟨0, 1, by omega, by omega, rfl⟩
      · exact ⟨2, 3, by omega, by omega, rfl⟩
      · have key : ∀ (l : List Nat), (∀ r ∈ l, r < 6) → c ∈ (@List.rec Nat (fun _ => List BE) [] (fun r _ ih => leV (10 + 6 * r) (11 + 6 * r) :: leV (12 + 6 * r) (13 + 6 * r) :: leV (14 + 6 * r) (15 + 6 * r) :: leV (10 + 6 * r) (13 + 6 * r) :: ih) l) → ∃ i j, i < 500 ∧ j < 500 ∧ c = leV i j := by
          intro l
          induction l with
          | nil => intro _ h; cases h
          | cons a l ih =>
            intro hl hc
            have := hl a List.mem_cons_self
            simp only [List.mem_cons] at hc
            rcases hc with rfl | rfl | rfl | rfl | hc
            · exact ⟨_, _, by omega, by omega, rfl⟩
            · exact ⟨_, _, by omega, by omega, rfl⟩
            · exact ⟨_, _, by omega, by omega, rfl⟩
            · exact ⟨_, _, by omega, by omega, rfl⟩
            · exact ih (fun r hr => hl r (List.mem_cons_of_mem _ hr)) hc
        exact key _ (fun r hr => by have := upN_lt _ _ _ hr; omega) hc
    obtain ⟨i, j, hi, hj, rfl⟩ := hle c hc
    have := h.2 _ hc
    unfold leV at this ⊢
    rw [BE.t_leq, IE.den_var, IE.den_var] at this ⊢
    rw [e i hi, e j hj]; exact this
end Go.Sx
namespace Go.Sx
open Go.RowKit Go.Proofs
set_option maxRecDepth 100000
theorem CallOk.each {P : Program} {RC : Nat → Nat → List Nat → Code → Code → Prop} {ok : Rho → (Nat → Obj → Prop) → Prop} {f : FuncId} {args : List AV} {h : Heap} {t : T (AV × Heap)}
    (H : ∀ ρ m, ok ρ m → ∃ ok0 : Rho → (Nat → Obj → Prop) → Prop, ok0 ρ m ∧ CallOk ⟨P, RC, ok0⟩ f args h t) : CallOk ⟨P, RC, ok⟩ f args h t := by
  intro vs E w0 w Q K k HH ha Pp
  obtain ⟨m, m1, m2⟩ := HH.ok
  obtain ⟨ok0, k1, hc⟩ := H E.ρ m m1
  have same : ∀ {ok1 ok2 : Rho → (Nat → Obj → Prop) → Prop} (ρ : Rho) (h : Heap), SameH ⟨P, RC, ok1⟩ ⟨P, RC, ok2⟩ ρ h ρ h := fun ρ h => ⟨rfl, fun _ o g => ⟨o, g, SameA.refl o⟩⟩
  have HH0 : HeapOk ⟨P, RC, ok0⟩ ⟨E.ρ, E.σ, E.κ, E.n, E.rc⟩ h w0 w := HeapOk.read (ρ0 := E.ρ) (σ := E.σ) (κ := E.κ) (n := E.n) (rc := E.rc) HH (same _ _) ⟨m, k1, m2⟩
  exact hc vs ⟨E.ρ, E.σ, E.κ, E.n, E.rc⟩ w0 w Q K k HH0 ha fun v' h' E1 w' cv q hle H1 hcv => by
    have hρ1 : E1.ρ = E.ρ := hle.ρ
    have H2 : HeapOk ⟨P, RC, ok⟩ ⟨E.ρ, E1.σ, E1.κ, E1.n, E1.rc⟩ h' w0 w' := HeapOk.read (ρ0 := E.ρ) (σ := E1.σ) (κ := E1.κ) (n := E1.n) (rc := E1.rc) (by rw [← hρ1]; exact H1) (same _ _) HH.ok
    exact Pp v' h' ⟨E.ρ, E1.σ, E1.κ, E1.n, E1.rc⟩ w' cv q ⟨⟨rfl, hle.σ, hle.κ, hle.rc⟩, hle.n, hle.none⟩ H2 (by rw [← hρ1]; exact hcv)
noncomputable def vLN (L j : Nat) : List (Nat × AObj) := vK L ++ [(2000, ro [iA (oB L j)])]
noncomputable def nameV (j t : Nat) : AV := lastV (.var (100 + 4 * j + 2 * t)) (.var (101 + 4 * j + 2 * t))
def okJ (L j t o : Nat) (x : IE) (ρ : Rho) (_ : Nat → Obj → Prop) : Prop := okB L ρ ∧ okN L ρ ∧ x.den ρ = ρ.iv 60 + t ∧ (oB L j).den ρ = (o : Int)
theorem lasts_named {ok : Rho → (Nat → Obj → Prop) → Prop} {L : Nat} (h0 : 1 ≤ L) (hL : L ≤ 6) {j t : Nat} (hj : j < L) (ht : t < 2) {x : IE}
    (hok : ∀ ρ m, ok ρ m → okB L ρ ∧ okN L ρ ∧ x.den ρ = ρ.iv 60 + t) : CallOk (pOk ok) 41 (argsLs L x) (viewA 2001 (vLN L j)) (.ret (nameV j t, viewA 2001 (vLN L j))) := by
  refine CallOk.each fun ρ m hm => ?_
  obtain ⟨k1, k2, k3⟩ := hok ρ m hm
  have ho := oB_in h0 hL k1.1 hj
  refine ⟨okJ L j t ((oB L j).den ρ).toNat x, ⟨k1, k2, k3, by omega⟩, ?_⟩
  generalize ho' : ((oB L j).den ρ).toNat = o at *
  have ho2 : o < L := by omega
  refine CallOk.read (p0 := pLs L) (p := pOk (okJ L j t o x)) rfl (lasts_var h0 hL ho2) fun ρ b ⟨m, ⟨a1, a2, a3, a4⟩, c2⟩ Q k => ?_
  have k : Q (nameV j t, viewA 2001 (vLN L j)) := k
  let g : Nat → Int := fun _ => x.den ρ
  have hs := shows_in a1.2.2.2
  have iv : ∀ i, i < 500 → ρ.iv i = (ρ.over g).iv i := fun i hi => (over_lt hi).symm
  have e1 : (IE.var 500).den (ρ.over g) = x.den ρ := rfl
  have hF := ofilm_over hL g a1.2.1
  refine ⟨ρ.over g, ⟨m, ⟨hF, by show 0 ≤ x.den ρ; omega, by show x.den ρ ≤ 999; omega⟩, c2⟩, ?_, ⟨rfl, fun i o' hg => ?_⟩, ?_⟩
  · exact SameL.cons (SameV.agg (SameL.cons (SameV.sliceX _ _ _ _) (SameL.cons (SameV.int (iv 0 (by omega))) (SameL.cons (SameV.int (iv 1 (by omega))) (SameL.cons (SameV.int (iv 2 (by omega))) (SameL.cons (SameV.int (iv 3 (by omega))) (SameL.cons (SameV.int (iv 4 (by omega))) SameL.nil))))))) (SameL.cons (SameV.slice _ _ _ _) (SameL.cons (SameV.int e1.symm) SameL.nil))
  · have hm := viewA_get _ _ _ _ hg
    unfold vL1 at hm
    rcases List.mem_append.1 hm with hm | hm
    · have hm' : (i, o') ∈ vLN L j := List.mem_append_left _ hm
      refine ⟨o', viewA_mem 2001 _ 0 rfl _ hm', ?_⟩
      simp only [vK, List.mem_cons, List.not_mem_nil, or_false] at hm
      rcases hm with h | h | h
      · cases h; exact SameA.pl (Rho.over_alike ρ g) rfl
      · cases h; exact SameA.pl (Rho.over_alike ρ g) rfl
      · cases h; exact rowsA_same rfl hL iv
    · rw [List.mem_singleton] at hm
      cases hm
      refine ⟨_, viewA_mem 2001 (vLN L j) 0 rfl (2000, ro [iA (oB L j)]) (List.mem_append_right _ (List.mem_singleton.2 rfl)), SameA.cells rfl (SameL.cons (SameV.int ?_) SameL.nil)⟩
      rw [a4]; rfl
  · show ∃ r, Q r ∧ _ ∧ _
    refine ⟨_, k, ?_, rfl, fun i o' hg => ?_⟩
    · have d := loE_den (ρ := ρ.over g) (filmZ hF) ho2 (x := .var 500) (by show 0 ≤ x.den ρ; omega) (by show x.den ρ ≤ 999; omega)
      have n := a2 j t hj ht
      have eo : ((oB L j).den ρ).toNat = o := by omega
      rw [eo] at n
      have l1 : loZ (ρ.over g) o ((IE.var 500).den (ρ.over g)) = loZ ρ o (ρ.iv 60 + t) := by
        rw [e1, a3]; unfold loZ; rw [← iv _ (show 14 + 6 * o < 500 by omega), ← iv 3 (by omega), ← iv 0 (by omega)]
      have l2 : hiZ (ρ.over g) o ((IE.var 500).den (ρ.over g)) = hiZ ρ o (ρ.iv 60 + t) := by
        rw [e1, a3]; unfold hiZ; rw [← iv _ (show 15 + 6 * o < 500 by omega), ← iv 2 (by omega), ← iv 1 (by omega)]
      exact SameV.tup (SameL.cons (SameV.agg (SameL.cons (SameV.int (d.1.trans (l1.trans n.1.symm))) (SameL.cons (SameV.int (d.2.trans (l2.trans n.2.symm))) SameL.nil))) (SameL.cons (SameV.int rfl) SameL.nil))
    · have hm := viewA_get _ _ _ _ hg
      unfold vLN at hm
      rcases List.mem_append.1 hm with hm | hm
      · have hm' : (i, o') ∈ vL1 L o := List.mem_append_left _ hm
        refine ⟨o', viewA_mem 2001 _ 0 rfl _ hm', ?_⟩
        simp only [vK, List.mem_cons, List.not_mem_nil, or_false] at hm
        rcases hm with h | h | h
        · cases h; exact SameA.pl (Rho.over_alike ρ g).symm rfl
        · cases h; exact SameA.pl (Rho.over_alike ρ g).symm rfl
        · cases h; exact rowsA_same rfl hL fun i hi => (iv i hi).symm
      · rw [List.mem_singleton] at hm
        cases hm
        refine ⟨_, viewA_mem 2001 (vL1 L o) 0 rfl (2000, ro [ln o]) (List.mem_append_right _ (List.mem_singleton.2 rfl)), SameA.cells rfl (SameL.cons (SameV.int ?_) SameL.nil)⟩
        rw [a4]; rfl
noncomputable def mvL (c b : Nat) : Nat := if b = 2000 then c else b
noncomputable def offL (k b : Nat) : Nat := if b = 2000 then k else 0
noncomputable def cellIs (x : Option AV) (e : IE) : Bool := match x with
  | some (.int k y) => and (isI64 k) (eqIE y e)
  | _ => false
noncomputable def placeOf (L : Nat) (x : Option AV) : Option Nat := @List.rec Nat (fun _ => Option Nat) none (fun j _ ih => cond (cellIs x (oB L j)) (some j) ih) (upN L 0)
noncomputable def tentOf (x : IE) : Option Nat := cond (eqIE x (.var 60)) (some 0) (cond (eqIE x (.bin .add .i64 (.var 60) (.lit 0))) (some 0) (cond (eqIE x (.bin .add .i64 (.var 60) (.lit 1))) (some 1) none))
noncomputable def orcLs (L : Nat) (args : List AV) (h : Heap) : Option (T (AV × Heap)) :=
  match args with
  | [fa, .slice c k n1 n2, .int kk x] => (match h.get c with
    | some (.cells cs _ _ _) => (match placeOf L (listGet cs k), tentOf x with
      | some j, some t => cond (and (and (eqAV fa (filmF L)) (isI64 kk)) (and (and (Nat.beq n1 1) (Nat.beq n2 1)) (and (lessAll h (vK L)) (cellIs (listGet cs k) (oB L j))))) (cond (and (Nat.ble (j + 1) L) (Nat.ble (t + 1) 2)) (some (.ret (nameV j t, h))) none) none
      | _, _ => none)
    | _ => none)
  | _ => none
theorem listGet_split : ∀ {l : List AV} {k : Nat} {a : AV}, listGet l k = some a → ∃ u v, l = u ++ [a] ++ v ∧ u.length = k
  | [], _, _, h => by cases h
  | x :: l, 0, a, h => by cases h; exact ⟨[], l, rfl, rfl⟩
  | x :: l, k + 1, a, h => by
    have h : listGet l k = some a := h
    obtain ⟨u, v, h1, h2⟩ := listGet_split h
    exact ⟨x :: u, v, by rw [h1]; rfl, by rw [List.length_cons, h2]⟩
theorem tent_den {x : IE} {t : Nat} (h : tentOf x = some t) {ρ : Rho} (hb : okBook ρ) : x.den ρ = ρ.iv 60 + t := by
  have hs := shows_in hb
  unfold tentOf at h
  cases h1 : eqIE x (.var 60) with
  | true => rw [h1] at h; cases h; rw [eqIE_eq _ _ h1, IE.den_var]; simp
  | false =>
    rw [h1, cond_false] at h
    cases h2 : eqIE x (.bin .add .i64 (.var 60) (.lit 0)) with
    | true => rw [h2] at h; cases h; rw [eqIE_eq _ _ h2, IE.den_add, IE.den_var, IE.den_lit]; exact wrap_sm (by omega) (by omega)
    | false =>
      rw [h2, cond_false] at h
      obtain ⟨h3, h4⟩ := cond_some h
      cases h4
      rw [eqIE_eq _ _ h3, IE.den_add, IE.den_var, IE.den_lit]; exact wrap_sm (by omega) (by omega)
theorem orcLs_ok {ok : Rho → (Nat → Obj → Prop) → Prop} {L : Nat} (h0 : 1 ≤ L) (hL : L ≤ 6) (hok : ∀ ρ m, ok ρ m → okB L ρ ∧ okN L ρ) {args : List AV} {h : Heap} {t : T (AV × Heap)} (e : orcLs L args h = some t) : CallOk (pOk ok) 41 args h t := by
  unfold orcLs at e
  split at e
  · rename_i fa c k n1 n2 kk x
    split at e
    · rename_i cs el own ext hc
      split at e
      · rename_i j t hj ht
        obtain ⟨i1, e⟩ := cond_some e
        obtain ⟨i2, e⟩ := cond_some e
        simp only [Bool.and_eq_true] at i1 i2
        obtain ⟨⟨i3, i4⟩, ⟨i5, i6⟩, i7, i8⟩ := i1
        cases e
        have i5 := beq_t.1 i5; subst i5
        have i6 := beq_t.1 i6; subst i6
        have i4 := isI64_eq i4; subst i4
        rw [eqAV_eq _ _ i3]
        have hcell : listGet cs k = some (iA (oB L j)) := by
          unfold cellIs at i8
          split at i8
          · rename_i kx y hy
            rw [Bool.and_eq_true] at i8
            rw [hy, isI64_eq i8.1, eqIE_eq _ _ i8.2]; rfl
          · cases i8
        have hl := lessAll_ok i7
        refine CallOk.moved3 (mv := mvL c) (off := offL k) (lasts_named (ok := ok) h0 hL (ble_t.1 i2.1) (ble_t.1 i2.2) (x := x) fun ρ m hm => ⟨(hok ρ m hm).1, (hok ρ m hm).2, tent_den ht (hok ρ m hm).1.2.2.2⟩) (by omega)
          (fun b hb => ⟨if_neg (by omega), if_neg (by omega)⟩) rfl (fun g hg => ?_) (fun E => ?_)
        · unfold vLN at hg
          rcases List.mem_append.1 hg with hg | hg
          · have hlg := hl g hg
            simp only [vK, List.mem_cons, List.not_mem_nil, or_false] at hg
            rcases hg with rfl | rfl | rfl
            · exact ⟨by omega, _, rfl, rfl, less_part0 hlg⟩
            · exact ⟨by omega, _, rfl, rfl, less_part0 hlg⟩
            · exact ⟨by omega, _, rfl, ids0 _, less_part0 hlg⟩
          · rw [List.mem_singleton] at hg
            subst hg
            obtain ⟨u, v, h1, h2⟩ := listGet_split hcell
            exact ⟨by omega, _, rfl, rfl, _, hc, cs, el, own, ext, rfl, u, v, h1, h2⟩
        · simp [argsLs, filmF, iA, vj, concL, conc, Env.mv3, mvL, offL]
          cases E.σ c <;> simp
      · cases e
    · cases e
  · cases e
end Go.Sx
