/- THE LAW OF WHAT CAN BE SEEN BETTER, CALLED WITH WHATEVER CAN BE READ. -/
import Derived.Test.YtlaakbmimplceaaDoorNwV
import Derived.Test.YtlaakbmimplceaaDoorNwI
/-! THE LAW OF WHAT CAN BE SEEN BETTER, CALLED WITH WHATEVER CAN BE READ. -/
namespace Go.Sx
open Go.RowKit Go.Proofs
set_option maxRecDepth 100000
theorem cellsUp_vals3 (E : Env) (z : Nat → Int) : ∀ (k i : Nat), (∀ j, i ≤ j → j < i + k → E.ρ.iv j = z j) → concL E (cellsUp k i) = some ((List.range k).map fun q => .int .i64 (z (i + q)))
  | 0, i, _ => rfl
  | k + 1, i, h => by
    simp only [cellsUp, vi, concL, conc, IE.den]
    rw [h i (Nat.le_refl _) (by omega), cellsUp_vals3 E z k (i + 1) fun j h1 h2 => h j (by omega) (by omega)]
    simp only [List.range_succ_eq_map, List.map_cons, List.map_map, Nat.add_zero]
    congr 2
    apply List.map_congr_left
    intro q _
    simp only [Function.comp, Nat.succ_eq_add_one]
    rw [show i + 1 + q = i + (q + 1) by omega]
/-- a set of given places -/
theorem mask_of (β : Nat → Bool) : ∀ L : Nat, ∃ s, s < 2 ^ L ∧ ∀ j, j < L → bt s j = β j
  | 0 => ⟨0, Nat.two_pow_pos 0, fun j hj => absurd hj (Nat.not_lt_zero j)⟩
  | L + 1 => by
    obtain ⟨s, h1, h2⟩ := mask_of β L
    have hp : 2 ^ (L + 1) = 2 ^ L + 2 ^ L := by rw [Nat.pow_succ]; omega
    cases hb : β L with
    | false =>
      refine ⟨s, by omega, fun j hj => ?_⟩
      by_cases hjl : j = L
      · subst hjl
        rw [hb]
        exact bt_high h1 (Nat.le_refl _)
      · exact h2 j (by omega)
    | true =>
      refine ⟨2 ^ L + s, by omega, fun j hj => ?_⟩
      by_cases hjl : j = L
      · subst hjl
        rw [hb, bt_bit, Nat.testBit_two_pow_add_eq, ← bt_bit, bt_high h1 (Nat.le_refl _)]; rfl
      · rw [bt_bit, Nat.testBit_two_pow_add_gt (by omega), ← bt_bit]
        exact h2 j (by omega)
/-- the numbers below 110 -/
def baseN (nf z : Nat → Int) (len j : Nat) : Int := if j < 5 then nf j else if j < 70 then z (j - 10) else if j = 95 then len else 0
structure Num where
  n0 : Int
  n1 : Int
  n2 : Int
  a : Int
  c : Int
  f : Int
  g : Int
  bits : Nat → Int
def ivN (b : Nat → Int) (u : Num) (j : Nat) : Int :=
  if j < 110 then b j else if j = 301 then u.n0 else if j = 302 then u.n1 else if j = 303 then u.n2 else if j = 312 then u.a else if j = 313 then u.c else if j = 320 then u.f else if j = 321 then u.g else u.bits (j - 330)
noncomputable def rhoB (b : Nat → Int) (u : Num) (s : Value) : Rho := ⟨ivN b u, fun _ => false, fun _ _ _ _ => 0, fun _ _ _ _ => false, fun _ => s⟩
noncomputable def rhoN (b : Nat → Int) (u : Num) (L k : Nat) (s : Value) : Rho := ⟨ivN b u, fun _ => false, fiW (rhoB b u s), fbX (rhoB b u s) L k, fun _ => s⟩
def envNw (ρ : Rho) (b o cap : Nat) : Env := ⟨ρ, fun x => if x < 1000 then some (x, 0) else if x = 1001 then some (b, o) else none, fun _ => cap, 2000, fun _ => #[]⟩
theorem narF_like {ρ ρ' : Rho} {L k : Nat} (hk : k < 6) (h : LikeF ρ ρ') (h0 : ρ.iv 320 = ρ'.iv 320) (h1 : ρ.iv 321 = ρ'.iv 321) : LikeF (narF ρ L k) (narF ρ' L k) := fun j hj => by
  show narI ρ k j = narI ρ' k j
  have e1 : (fstE k).den ρ = (fstE k).den ρ' := by
    unfold fstE; rw [IE.den_add, IE.den_add]; simp only [IE.den_var]; rw [h (10 + 6 * k) (by omega), h0]
  have e2 : (lstE k).den ρ = (lstE k).den ρ' := by
    unfold lstE; rw [IE.den_add, IE.den_add]; simp only [IE.den_var]; rw [h (12 + 6 * k) (by omega), h1]
  unfold narI
  rw [e1, e2, h j hj]
theorem narrow_any {W : World} {ρ0 : Rho} (hG : ∀ g ∈ glV, GlobIn W ρ0 g) {s : Value} {nf : Nat → Int} {n0 n1 n2 : Int}
    (hs : s = .slice none 0 0 ∨ ∃ (b o len cap : Nat) (z : Nat → Int), s = .slice (some ⟨b, o, none⟩) len cap ∧ len ≤ cap ∧
        (0 < len → ∃ cells el fz, W.heap[b]? = some (.cells cells el fz) ∧ ∀ q, q < 6 * len → cells[o + q]? = some (.int .i64 (z q)))) :
    Calls Tryd.prog 6 #[.agg #[s, .int .i64 (nf 0), .int .i64 (nf 1), .int .i64 (nf 2), .int .i64 (nf 3), .int .i64 (nf 4)], .agg #[.int .i64 n0, .int .i64 n1, .int .i64 n2]] W fun e w' => e = .returned (.bool true) ∧ Below W.heap.size W w' := by
  have hσ : ∀ ρ b o cap, ∀ x, x < 1000 → (envNw ρ b o cap).σ x = some (x, 0) := fun ρ b o cap x hx => by simp [envNw, hx]
  have hnone : ∀ ρ b o cap, ∀ x, 2000 ≤ x → (envNw ρ b o cap).σ x = none := fun ρ b o cap x hx => by
    simp only [envNw]; rw [if_neg (by omega), if_neg (by omega)]
  have gvw : ∀ ρ b o cap, ∀ g ∈ glV, ViewIn W (envNw ρ b o cap) g := fun ρ b o cap => glob_view glV_lit' hG (hσ ρ b o cap)
  have args : ∀ (z : Nat → Int) (a c f g : Int) (bits : Nat → Int) (L k len b o cap : Nat) (x : AV), conc (envNw (rhoN (baseN nf z len) ⟨n0, n1, n2, a, c, f, g, bits⟩ L k s) b o cap) x = some s →
      concL (envNw (rhoN (baseN nf z len) ⟨n0, n1, n2, a, c, f, g, bits⟩ L k s) b o cap) [.agg [x, vi 0, vi 1, vi 2, vi 3, vi 4], .agg [vi 301, vi 302, vi 303]] =
      some [.agg #[s, .int .i64 (nf 0), .int .i64 (nf 1), .int .i64 (nf 2), .int .i64 (nf 3), .int .i64 (nf 4)], .agg #[.int .i64 n0, .int .i64 n1, .int .i64 n2]] := fun z a c f g bits L k len b o cap x hx => by
    have h1 : conc (envNw (rhoN (baseN nf z len) ⟨n0, n1, n2, a, c, f, g, bits⟩ L k s) b o cap) (.agg [x, vi 0, vi 1, vi 2, vi 3, vi 4]) = some (.agg #[s, .int .i64 (nf 0), .int .i64 (nf 1), .int .i64 (nf 2), .int .i64 (nf 3), .int .i64 (nf 4)]) := by
      rw [conc, concL_cons.2 ⟨_, _, hx, (show concL _ [vi 0, vi 1, vi 2, vi 3, vi 4] = some [.int .i64 (nf 0), .int .i64 (nf 1), .int .i64 (nf 2), .int .i64 (nf 3), .int .i64 (nf 4)] by
        simp [vi, concL, conc, IE.den, envNw, rhoN, ivN, baseN]), rfl⟩]; rfl
    have h2 : concL (envNw (rhoN (baseN nf z len) ⟨n0, n1, n2, a, c, f, g, bits⟩ L k s) b o cap) [.agg [vi 301, vi 302, vi 303]] = some [.agg #[.int .i64 n0, .int .i64 n1, .int .i64 n2]] := by
      simp [vi, concL, conc, IE.den, envNw, rhoN, ivN]
    exact concL_cons.2 ⟨_, _, h1, h2, rfl⟩
  rcases hs with hs0 | ⟨b, o, len, cap, z, hs1, hlc, hcells⟩
  · exact narrow_short lawBT_nil (gvw _ 0 0 0) (hnone _ 0 0 0) (hσ _ 0 0 0) (Nat.le_refl _) (args (fun _ => 0) 0 0 0 0 (fun _ => 0) 1 0 0 0 0 0 .nilslice (by rw [hs0]; rfl)) (fun c hc => (List.not_mem_nil hc).elim)
  · have hsu : ∀ u L k, conc (envNw (rhoN (baseN nf z len) u L k s) b o cap) (.sliceU 95) = some s := fun u L k => by
      rw [hs1]; simp [conc, envNw, rhoN, ivN, baseN]
    have i95 : ∀ u L k, (rhoN (baseN nf z len) u L k s).iv 95 = len := fun u L k => by simp [rhoN, ivN, baseN]
    by_cases h0 : len = 0
    · refine narrow_short lawBT_few (gvw _ b o cap) (hnone _ _ _ _) (hσ _ _ _ _) (Nat.le_refl _) (args z 0 0 0 0 (fun _ => 0) 1 0 len b o cap (.sliceU 95) (hsu _ _ _)) (fun c hc => ?_)
      rcases List.mem_singleton.1 hc with rfl
      rw [BE.t_leq, IE.den_var, IE.den_lit]
      show (rhoN (baseN nf z len) _ 1 0 s).iv 95 ≤ 0
      rw [i95]; omega
    · by_cases h7 : 7 ≤ len
      · refine narrow_short lawBT_many (gvw _ b o cap) (hnone _ _ _ _) (hσ _ _ _ _) (Nat.le_refl _) (args z 0 0 0 0 (fun _ => 0) 1 0 len b o cap (.sliceU 95) (hsu _ _ _)) (fun c hc => ?_)
        rcases List.mem_singleton.1 hc with rfl
        rw [BE.t_leq, IE.den_var, IE.den_lit]
        show 7 ≤ (rhoN (baseN nf z len) _ 1 0 s).iv 95
        rw [i95]; omega
      · have h1 : 1 ≤ len := by omega
        have h6 : len ≤ 6 := by omega
        have hLm : len ∈ [1, 2, 3, 4, 5, 6] := by
          simp only [List.mem_cons, List.not_mem_nil, or_false]; omega
        obtain ⟨cells, el, fz, c1, c2⟩ := hcells (by omega)
        have kin := turnF_in (n := n0) (m := (len : Int)) (by omega)
        let k := (turnF n0 len).toNat
        have hk : k < len := by show (turnF n0 len).toNat < len; omega
        have hkk : (k : Int) = turnF n0 len := by show ((turnF n0 len).toNat : Int) = _; omega
        let f := turnF n1 (baseN nf z len (11 + 6 * k) - baseN nf z len (10 + 6 * k) + 1)
        let g := turnF n2 (baseN nf z len (13 + 6 * k) - baseN nf z len (12 + 6 * k) + 1)
        let u1 : Num := ⟨n0, n1, n2, 0, 0, f, g, fun _ => 0⟩
        let ρ1 := rhoN (baseN nf z len) u1 len k s
        let u : Num := ⟨n0, n1, n2, cntF ρ1 len (fullM len) 0 100, cntF (narF ρ1 len k) len (fullM len) 0 100, f, g, fun j => if atF (narF ρ1 len k) k len 0 (fullM len) 0 100 j = true then 1 else 0⟩
        let ρ := rhoN (baseN nf z len) u len k s
        have low : ∀ u L k j, j < 110 → (rhoN (baseN nf z len) u L k s).iv j = baseN nf z len j := fun u L k j hj => by
          show ivN _ u j = _
          unfold ivN; rw [if_pos hj]
        have hsl : conc (envNw ρ b o cap) (.sliceX 1001 6 0 len) = some s := by
          rw [hs1]
          simp only [conc, envNw]
          rw [if_pos (by omega)]
          simp
        have hview : ∀ g ∈ viewV len, ViewIn W (envNw ρ b o cap) g := fun g hg => by
          rcases List.mem_cons.1 hg with rfl | hg
          · refine ⟨b, o, _, cells, el, fz, by simp [envNw], cellsUp_vals3 _ (fun j => z (j - 10)) (6 * len) 10 (fun j h3 h4 => ?_), c1, fun i hi => ?_⟩
            · show ρ.iv j = _
              rw [low u len k j (by omega)]
              unfold baseN
              rw [if_neg (by omega), if_pos (by omega)]
            · simp only [List.length_map, List.length_range] at hi
              rw [c2 i hi, List.getElem?_map, List.getElem?_range hi]
              simp
          · exact gvw ρ b o cap g hg
        have hargs := args z u.a u.c f g u.bits len k len b o cap _ hsl
        by_cases hcs : ∀ c ∈ csL len, c.den ρ = true
        · have like : LikeF ρ ρ1 := fun j hj => (low u len k j (by omega)).trans (low u1 len k j (by omega)).symm
          have likeB : LikeF ρ (rhoB (baseN nf z len) u s) := fun _ _ => rfl
          obtain ⟨_, hR⟩ := film_of_cs h1 h6 hcs
          obtain ⟨o1, o2⟩ := okX_of h6 (ρ0 := rhoB (baseN nf z len) u s) (ρ := ρ) (k := k) likeB rfl rfl hR
          have e10 : ρ.iv (10 + 6 * k) = baseN nf z len (10 + 6 * k) := low u len k _ (by omega)
          have e11 : ρ.iv (11 + 6 * k) = baseN nf z len (11 + 6 * k) := low u len k _ (by omega)
          have e12 : ρ.iv (12 + 6 * k) = baseN nf z len (12 + 6 * k) := low u len k _ (by omega)
          have e13 : ρ.iv (13 + 6 * k) = baseN nf z len (13 + 6 * k) := low u len k _ (by omega)
          have i320 : ρ.iv 320 = f := rfl
          have i321 : ρ.iv 321 = g := rfl
          obtain ⟨u1', u2', u3', u4', u5', u6', _⟩ := reelN hcs hk
          have hIn : okIn k ρ := by
            have q1 := turnF_in (n := n1) (m := baseN nf z len (11 + 6 * k) - baseN nf z len (10 + 6 * k) + 1) (by omega)
            have q2 := turnF_in (n := n2) (m := baseN nf z len (13 + 6 * k) - baseN nf z len (12 + 6 * k) + 1) (by omega)
            refine ⟨⟨by rw [i320]; exact q1.1, ?_⟩, by rw [i321]; exact q2.1, ?_⟩
            · rw [i320, e10, e11]; have := q1.2; show turnF _ _ ≤ _; omega
            · rw [i321, e12, e13]; have := q2.2; show turnF _ _ ≤ _; omega
          have nlike : LikeF (narF ρ len k) (narF ρ1 len k) := narF_like (by omega) like rfl rfl
          have ok0 : okN0 len k ρ := by
            refine ⟨hcs, o1, o2, hIn, ⟨?_, ?_⟩, ⟨hkk, ?_, ?_⟩, fun j hj => ?_⟩
            · rw [cntF_like like]; rfl
            · rw [cntF_like nlike]; rfl
            · rw [i320, e10, e11]; rfl
            · rw [i321, e12, e13]; rfl
            · rw [atF_like nlike]
              show ivN _ u (330 + j) = _
              unfold ivN
              rw [if_neg (by omega), if_neg (by omega), if_neg (by omega), if_neg (by omega), if_neg (by omega), if_neg (by omega), if_neg (by omega), if_neg (by omega), Nat.add_sub_cancel_left]
          have c0 : 0 ≤ ρ.iv 313 := by rw [ok0.2.2.2.2.1.2]; omega
          by_cases hz : ρ.iv 313 = 0
          · exact narrow_valid (b := false) (s := 0) h1 h6 hk hview (hnone _ _ _ _) (hσ _ _ _ _) (Nat.le_refl _) hargs (by unfold okNb; rw [if_neg (by simp)]; exact ⟨ok0, hz⟩)
          · obtain ⟨m, m1, m2⟩ := mask_of (fun j => atF ρ k len 0 (fullM len) 0 100 j) len
            exact narrow_valid (b := true) (s := m) h1 h6 hk hview (hnone _ _ _ _) (hσ _ _ _ _) (Nat.le_refl _) hargs (by
              unfold okNb; rw [if_pos rfl]
              refine ⟨ok0, ?_, m1, fun j hj => (m2 j hj).symm⟩
              show 1 ≤ ρ.iv 313
              omega)
        · exact narrow_bad hLm hview (hnone _ _ _ _) (hσ _ _ _ _) (Nat.le_refl _) hargs hcs
end Go.Sx
