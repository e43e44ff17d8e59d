/- MxE -/
import Derived.Test.YtlaakbmimplceaaDoorMxX
import Derived.Test.YtlaakbmimplceaaDoorMxX6
namespace Go.Sx
noncomputable section
open Go.RowKit Go.Proofs
set_option maxRecDepth 100000
theorem cellsUp_valsM (E : Env) (z : Nat → Int) : ∀ (k i : Nat), (∀ j, i ≤ j → j < i + k → E.ρ.iv j = z j) → concL E (cellsUp k i) = some ((List.range k).map fun q => .int .i64 (z (i + q)))
 | 0, i, _ => rfl
 | k + 1, i, h => by
  simp only [cellsUp, vi, concL, conc, IE.den]
  rw [h i (Nat.le_refl _) (by omega), cellsUp_valsM E z k (i + 1) fun j h1 h2 => h j (by omega) (by omega)]
  simp only [List.range_succ_eq_map, List.map_cons, List.map_map, Nat.add_zero]
  congr 2
  apply List.map_congr_left
  intro q _
  simp only [Function.comp, Nat.succ_eq_add_one]
  rw [show i + 1 + q = i + (q + 1) by omega]
theorem condsP_all {L : Nat} (h0 : 1 ≤ L) (hL : L ≤ 6) : condsP (shufRun L) = true := by
 rcases six h0 hL with rfl | rfl | rfl | rfl | rfl | rfl
 ·exact condsP1
 ·exact condsP2
 ·exact condsP3
 ·exact condsP4
 ·exact condsP5
 ·exact condsP6
theorem order_same {L : Nat} (h0 : 1 ≤ L) (hL : L ≤ 6) {ρ ρ' : Rho} (h : ∀ j, j < 110 → ρ'.iv j = ρ.iv j) : orderOf L ρ' = orderOf L ρ := by
 unfold orderOf
 rw [condsP_leaf h _ (condsP_all h0 hL)]
def pickM (y : Nat → Int) (bl : Nat) (i : Int) : Int := if bl = 0 then 0 else y (turnF i bl).toNat
def baseM (nf z : Nat → Int) (y : Nat → Int) (bl len : Nat) (j : Nat) : Int :=
 if j < 5 then nf j else if j < 60 then z (j - 10) else if j = 95 then len else if j = 96 then bl else if 100 ≤ j ∧ j < 106 then turnF (pickM y bl ((j - 100 : Nat) : Int)) ((j - 100 : Nat) + 1) else 0
structure NumM where
 l : List Nat
 cnt : Int
 fst : Nat → Int
 row : Nat → Int
 flag : Nat → Nat → Bool
def ivM (b : Nat → Int) (n0 n1 : Int) (u : NumM) (j : Nat) : Int :=
 if j < 110 then b j else if j < 116 then ((u.l[j - 110]?).getD 0 : Nat) else if j = 301 then n0 else if j = 302 then n1 else if j = 312 then u.cnt else if 320 ≤ j ∧ j < 326 then u.fst (j - 320) else if 350 ≤ j ∧ j < 386 then u.row (j - 350) else 0
def fiM (y : Nat → Int) (bl : Nat) (iv : Nat → Int) (flag : Nat → Nat → Bool) (f : Nat) (a b _ : Int) : Int :=
 if f = 1001 then y a.toNat else if f = 1000 then pickM y bl a else if f = 9000 then iv (350 + a.toNat) else if f = 9001 then iv (110 + a.toNat) else if f = 9002 then iv a.toNat else if f = 9003 then iv 312 else if f = 9100 then (if flag a.toNat b.toNat = true then 1 else 0) else 0
def rhoM (b : Nat → Int) (n0 n1 : Int) (y : Nat → Int) (bl : Nat) (s bits : Value) (u : NumM) : Rho := ⟨ivM b n0 n1 u, fun _ => false, fiM y bl (ivM b n0 n1 u) u.flag, fun _ _ _ _ => false, fun j => if j = 95 then s else bits⟩
def envM (ρ : Rho) (b o cap : Nat) : Env := ⟨ρ, fun x => if x < 1000 then some (x, 0) else if x = 1001 then some (b, o) else none, fun _ => cap, 2000, fun _ => #[]⟩
def rowM (ρ : Rho) (b : Nat → Int) (l : List Nat) (j : Nat) : Int :=
 if j % 6 = 0 then (p0E (posN l (j / 6))).den ρ else if j % 6 = 1 then (p1E (posN l (j / 6))).den ρ else if j % 6 = 2 then (p2E (posN l (j / 6))).den ρ else if j % 6 = 3 then (p3E (posN l (j / 6))).den ρ else if j % 6 = 4 then b (14 + 6 * (j / 6)) else b (15 + 6 * (j / 6))
section
variable {b : Nat → Int} {n0 n1 : Int} {y : Nat → Int} {bl : Nat} {s bits : Value} (u : NumM)
theorem m_low {j : Nat} (h : j < 110) : (rhoM b n0 n1 y bl s bits u).iv j = b j := by
 show ivM b n0 n1 u j = _
 unfold ivM; rw [if_pos h]
theorem m_ord {i : Nat} (h : i < 6) : (rhoM b n0 n1 y bl s bits u).iv (110 + i) = ((u.l[i]?).getD 0 : Nat) := by
 show ivM b n0 n1 u (110 + i) = _
 unfold ivM; rw [if_neg (by omega), if_pos (by omega), Nat.add_sub_cancel_left]
theorem m_fst {i : Nat} (h : i < 6) : (rhoM b n0 n1 y bl s bits u).iv (320 + i) = u.fst i := by
 show ivM b n0 n1 u (320 + i) = _
 unfold ivM; rw [if_neg (by omega), if_neg (by omega), if_neg (by omega), if_neg (by omega), if_neg (by omega), if_pos (by omega), Nat.add_sub_cancel_left]
theorem m_row {i : Nat} (h : i < 36) : (rhoM b n0 n1 y bl s bits u).iv (350 + i) = u.row i := by
 show ivM b n0 n1 u (350 + i) = _
 unfold ivM; rw [if_neg (by omega), if_neg (by omega), if_neg (by omega), if_neg (by omega), if_neg (by omega), if_neg (by omega), if_pos (by omega), Nat.add_sub_cancel_left]
theorem m_key {L : Nat} (hL : L ≤ 6) : ∀ j, KeyV L j → (rhoM b n0 n1 y bl s bits u).iv j = loI L (rhoM b n0 n1 y bl s bits u).fi (rhoM b n0 n1 y bl s bits u).iv j := by
 intro j hj
 have f0 : ∀ a : Nat, (rhoM b n0 n1 y bl s bits u).fi 9000 (Int.ofNat a) 0 0 = (rhoM b n0 n1 y bl s bits u).iv (350 + a) := fun a => rfl
 have f1 : ∀ a : Nat, (rhoM b n0 n1 y bl s bits u).fi 9001 (Int.ofNat a) 0 0 = (rhoM b n0 n1 y bl s bits u).iv (110 + a) := fun a => rfl
 have f2 : ∀ a : Nat, (rhoM b n0 n1 y bl s bits u).fi 9002 (Int.ofNat a) 0 0 = (rhoM b n0 n1 y bl s bits u).iv a := fun a => rfl
 have f3 : (rhoM b n0 n1 y bl s bits u).fi 9003 0 0 0 = (rhoM b n0 n1 y bl s bits u).iv 312 := rfl
 generalize rhoM b n0 n1 y bl s bits u = ρ at *
 unfold loI
 rcases hj with hj | hj | rfl | hj
 ·rw [if_pos hj, f2]
 ·rw [if_neg (by omega), if_pos hj, f1, show 110 + (j - 110) = j by omega]
 ·rw [if_neg (by omega), if_neg (by omega), if_pos rfl, f3]
 ·rw [if_neg (by omega), if_neg (by omega), if_neg (by omega), if_pos hj, f0, show 350 + (j - 350) = j by omega]
theorem m_flag (i j : Nat) : (flagE i j).den (rhoM b n0 n1 y bl s bits u) = u.flag i j := by
 have e : (flagE i j).den (rhoM b n0 n1 y bl s bits u) = true ↔ (if u.flag i j = true then (1 : Int) else 0) = 1 := BE.t_eql
 cases h : u.flag i j with
 | true => rw [h] at e; exact e.2 rfl
 | false =>
  rw [h] at e
  cases hd : (flagE i j).den (rhoM b n0 n1 y bl s bits u) with
  | false => rfl
  | true => have := e.1 hd; simp at this
theorem m_like {u' : NumM} (h : u'.row = u.row) : LikeF (yF (rhoM b n0 n1 y bl s bits u') [] 1 0) (yF (rhoM b n0 n1 y bl s bits u) [] 1 0) := fun j hj => by
 by_cases h1 : 10 ≤ j
 ·rw [y_row h1 (by omega), y_row h1 (by omega)]
  by_cases h2 : j < 46
  ·rw [show 340 + j = 350 + (j - 10) by omega, m_row _ (by omega), m_row _ (by omega), h]
  ·show ivM b n0 n1 u' (340 + j) = ivM b n0 n1 u (340 + j)
   unfold ivM
   rw [if_neg (by omega), if_neg (by omega), if_neg (by omega), if_neg (by omega), if_neg (by omega), if_neg (by omega), if_neg (by omega), if_neg (by omega), if_neg (by omega), if_neg (by omega), if_neg (by omega), if_neg (by omega), if_neg (by omega), if_neg (by omega)]
 ·rw [y_low (by omega), y_low (by omega), m_low _ (by omega), m_low _ (by omega)]
end
theorem mix_any {W : World} {ρ0 : Rho} (hG : ∀ g ∈ glV, GlobIn W ρ0 g) {s bits : Value} {nf : Nat → Int} {n0 n1 : Int}
  (hs : s = .slice none 0 0 ∨ ∃ (b o len cap : Nat) (z : Nat → Int), s = .slice (some ⟨b, o, none⟩) len cap ∧ len ≤ cap ∧
    (0 < len → ∃ cells el fz, W.heap[b]? = some (.cells cells el fz) ∧ ∀ q, q < 6 * len → cells[o + q]? = some (.int .i64 (z q))))
  {bb : Option Addr} {bl bc : Nat} (hbits : bits = .slice bb bl bc) (hbl : (bl : Int) ≤ 9223372036854775807) (hbc : bl ≤ bc) {y : Nat → Int}
  (hb : 0 < bl → ∃ c x cells el fz, bb = some ⟨c, x, none⟩ ∧ W.heap[c]? = some (.cells cells el fz) ∧ ∀ q, q < bl → cells[x + q]? = some (.int .i64 (y q))) :
  Calls Tryd.prog 3 #[.agg #[s, .int .i64 (nf 0), .int .i64 (nf 1), .int .i64 (nf 2), .int .i64 (nf 3), .int .i64 (nf 4)], bits, .agg #[.int .i64 n0, .int .i64 n1]] W fun e w' => e = .returned (.bool true) ∧ Below W.heap.size W w' := by
 have hσ : ∀ ρ b o cap, ∀ x, x < 1000 → (envM ρ b o cap).σ x = some (x, 0) := fun ρ b o cap x hx => by simp [envM, hx]
 have hnone : ∀ ρ b o cap, ∀ x, 2000 ≤ x → (envM ρ b o cap).σ x = none := fun ρ b o cap x hx => by
  simp only [envM]; rw [if_neg (by omega), if_neg (by omega)]
 have gvw : ∀ ρ b o cap, ∀ g ∈ glV, ViewIn W (envM ρ b o cap) g := fun ρ b o cap => glob_view glV_lit' hG (hσ ρ b o cap)
 have args : ∀ (z : Nat → Int) (len : Nat) (u : NumM) (b o cap : Nat) (a : AV), conc (envM (rhoM (baseM nf z y bl len) n0 n1 y bl s bits u) b o cap) a = some s →
   concL (envM (rhoM (baseM nf z y bl len) n0 n1 y bl s bits u) b o cap) [.agg [a, vi 0, vi 1, vi 2, vi 3, vi 4], .sliceU 96, .agg [vi 301, vi 302]] =
   some [.agg #[s, .int .i64 (nf 0), .int .i64 (nf 1), .int .i64 (nf 2), .int .i64 (nf 3), .int .i64 (nf 4)], bits, .agg #[.int .i64 n0, .int .i64 n1]] := fun z len u b o cap a ha => by
  have h1 : conc (envM (rhoM (baseM nf z y bl len) n0 n1 y bl s bits u) b o cap) (.agg [a, vi 0, vi 1, vi 2, vi 3, vi 4]) = some (.agg #[s, .int .i64 (nf 0), .int .i64 (nf 1), .int .i64 (nf 2), .int .i64 (nf 3), .int .i64 (nf 4)]) := by
   rw [conc, concL_cons.2 ⟨_, _, ha, (show concL _ [vi 0, vi 1, vi 2, vi 3, vi 4] = some [.int .i64 (nf 0), .int .i64 (nf 1), .int .i64 (nf 2), .int .i64 (nf 3), .int .i64 (nf 4)] by
    simp [vi, concL, conc, IE.den, envM, rhoM, ivM, baseM]), rfl⟩]; rfl
  have h2 : concL (envM (rhoM (baseM nf z y bl len) n0 n1 y bl s bits u) b o cap) [.sliceU 96, .agg [vi 301, vi 302]] = some [bits, .agg #[.int .i64 n0, .int .i64 n1]] := by
   simp [vi, concL, conc, IE.den, envM, rhoM, ivM, baseM, hbits]
  exact concL_cons.2 ⟨_, _, h1, h2, rfl⟩
 let uz : NumM := ⟨[], 0, fun _ => 0, fun _ => 0, fun _ _ => false⟩
 rcases hs with hs0 | ⟨b, o, len, cap, z, hs1, hlc, hcells⟩
 ·exact mix_short lawBT_nil (gvw _ 0 0 0) (hnone _ 0 0 0) (hσ _ 0 0 0) (Nat.le_refl _) (args (fun _ => 0) 0 uz 0 0 0 .nilslice (by rw [hs0]; rfl)) (fun c hc => (List.not_mem_nil hc).elim)
 ·have hsu : ∀ u, conc (envM (rhoM (baseM nf z y bl len) n0 n1 y bl s bits u) b o cap) (.sliceU 95) = some s := fun u => by
   rw [hs1]; simp [conc, envM, rhoM, ivM, baseM]
  have i95 : ∀ u, (rhoM (baseM nf z y bl len) n0 n1 y bl s bits u).iv 95 = len := fun u => by simp [rhoM, ivM, baseM]
  by_cases h0 : len = 0
  ·exact mix_short lawBT_few (gvw _ b o cap) (hnone _ _ _ _) (hσ _ _ _ _) (Nat.le_refl _) (args z len uz b o cap (.sliceU 95) (hsu _)) (fun c hc => by
    rcases List.mem_singleton.1 hc with rfl
    rw [BE.t_leq, IE.den_var, IE.den_lit]; show (rhoM (baseM nf z y bl len) n0 n1 y bl s bits uz).iv 95 ≤ 0; rw [i95]; omega)
  ·by_cases h7 : 7 ≤ len
   ·exact mix_short lawBT_many (gvw _ b o cap) (hnone _ _ _ _) (hσ _ _ _ _) (Nat.le_refl _) (args z len uz b o cap (.sliceU 95) (hsu _)) (fun c hc => by
     rcases List.mem_singleton.1 hc with rfl
     rw [BE.t_leq, IE.den_var, IE.den_lit]; show 7 ≤ (rhoM (baseM nf z y bl len) n0 n1 y bl s bits uz).iv 95; rw [i95]; omega)
   ·have h1 : 1 ≤ len := by omega
    have h6 : len ≤ 6 := by omega
    have hLm : len ∈ [1, 2, 3, 4, 5, 6] := by
     simp only [List.mem_cons, List.not_mem_nil, or_false]; omega
    obtain ⟨cells, el, fz, c1, c2⟩ := hcells (by omega)
    let B := baseM nf z y bl len
    let ρ1 := rhoM B n0 n1 y bl s bits uz
    let l := orderOf len ρ1
    let u2 : NumM := ⟨l, 0, fun _ => 0, rowM ρ1 B l, fun _ _ => false⟩
    let ρ2 := rhoM B n0 n1 y bl s bits u2
    let u : NumM := ⟨l, cntF (yF ρ2 [] len 0) len (fullM len) 0 100, fun j => (ordF (yF ρ2 [] len 0) len (fullM len) 0 100).getD j 0, rowM ρ1 B l, fun i j => atF (yF ρ2 [] len 0) ((l[i]?).getD 0) len 0 (fullM len) 0 100 j⟩
    let ρ := rhoM B n0 n1 y bl s bits u
    have hsl : conc (envM ρ b o cap) (.sliceX 1001 6 0 len) = some s := by
     rw [hs1]
     simp only [conc, envM]
     rw [if_pos (by omega)]
     simp
    have hview : ∀ g ∈ viewV len, ViewIn W (envM ρ b o cap) g := fun g hg => by
     rcases List.mem_cons.1 hg with rfl | hg
     ·refine ⟨b, o, _, cells, el, fz, by simp [envM], cellsUp_valsM _ (fun j => z (j - 10)) (6 * len) 10 (fun j h3 h4 => ?_), c1, fun i hi => ?_⟩
      ·show ρ.iv j = _
       rw [m_low u (by omega)]
       show baseM nf z y bl len j = _
       unfold baseM
       rw [if_neg (by omega), if_pos (by omega)]
      ·simp only [List.length_map, List.length_range] at hi
       rw [c2 i hi, List.getElem?_map, List.getElem?_range hi]
       simp
     ·exact gvw ρ b o cap g hg
    have hargs := args z len u b o cap _ hsl
    by_cases hcs : ∀ c ∈ csL len, c.den ρ = true
    ·have order : ∀ r : Rho, (∀ j, j < 110 → r.iv j = B j) → orderOf len r = l := fun r hr => order_same h1 h6 fun j hj => (hr j hj).trans (m_low uz hj).symm
     have turn : ∀ r : Rho, (∀ j, j < 110 → r.iv j = B j) → (∀ a, r.fi 1000 a 0 0 = pickM y bl a) → ∀ i, i < len → r.iv (100 + i) = turnF (r.fi 1000 i 0 0) (i + 1) := fun r k1 k2 i hi => by
      rw [k1 (100 + i) (by omega), k2]
      show baseM nf z y bl len (100 + i) = _
      unfold baseM
      rw [if_neg (by omega), if_neg (by omega), if_neg (by omega), if_neg (by omega), if_pos (by omega), Nat.add_sub_cancel_left]
     have low : ∀ j, j < 110 → ρ.iv j = B j := fun j hj => m_low u hj
     have hlen : l.length = len := by
      let ρ3 : Rho := ⟨fun j => if j < 110 then B j else ((l[j - 110]?).getD 0 : Nat), fun _ => false, ρ1.fi, ρ1.fb, ρ1.ov⟩
      have k2 : ∀ j, j < 110 → ρ3.iv j = B j := fun j hj => if_pos hj
      have o2 : orderOf len ρ3 = l := order ρ3 k2
      rw [← o2]
      refine (orderOk h1 h6 (ρ := ρ3) ⟨turn ρ3 k2 (fun a => rfl), fun i n hn => ?_⟩).2
      rw [o2] at hn
      show (if 110 + i < 110 then _ else (((l[110 + i - 110]?).getD 0 : Nat) : Int)) = n
      rw [if_neg (by omega), Nat.add_sub_cancel_left, hn]; rfl
     have hsh : OkSh len ρ := by
      refine ⟨fun i hi => turn ρ low (fun a => rfl) i hi, fun i n hn => ?_⟩
      rw [order ρ low] at hn
      have hi : i < l.length := (List.getElem?_eq_some_iff.1 hn).1
      rw [m_ord u (by omega)]
      show (((l[i]?).getD 0 : Nat) : Int) = n
      rw [hn]; rfl
     have hp : okPick ρ (Base.of W).has := by
      refine ⟨bb, bl, bc, by simp [ρ, rhoM, hbits], by rw [low 96 (by omega)]; rfl, hbl, hbc, fun n => rfl, fun hl => ?_⟩
      obtain ⟨c, x, cells, el, fz, e1, e2, e3⟩ := hb hl
      refine ⟨c, x, cells, el, fz, e1, ⟨(Array.getElem?_eq_some_iff.1 e2).1, e2⟩, fun j hj => ?_⟩
      rw [e3 j hj]
      rfl
     have hrow : okRowM len (orderOf len ρ) ρ := by
      rw [order ρ low]
      intro k hk
      obtain ⟨g0, g1, g2, g3⟩ := pE_fi (ρ := ρ1) (ρ' := ρ) (fun a => rfl) (posN l k)
      have row : ∀ q, q < 6 → ρ.iv (350 + 6 * k + q) = rowM ρ1 B l (6 * k + q) := fun q hq => by
       rw [show 350 + 6 * k + q = 350 + (6 * k + q) by omega, m_row u (by omega)]
      have md : ∀ q, q < 6 → (6 * k + q) % 6 = q ∧ (6 * k + q) / 6 = k := fun q hq => by omega
      refine ⟨?_, ?_, ?_, ?_, ?_, ?_⟩
      ·have := row 0 (by omega)
       rw [Nat.add_zero] at this
       rw [this, g0]
       unfold rowM
       rw [show 6 * k + 0 = 6 * k by omega, show 6 * k % 6 = 0 by omega, show 6 * k / 6 = k by omega, if_pos rfl]
      ·rw [row 1 (by omega), g1]
       unfold rowM
       rw [(md 1 (by omega)).1, (md 1 (by omega)).2, if_neg (by omega), if_pos rfl]
      ·rw [row 2 (by omega), g2]
       unfold rowM
       rw [(md 2 (by omega)).1, (md 2 (by omega)).2, if_neg (by omega), if_neg (by omega), if_pos rfl]
      ·rw [row 3 (by omega), g3]
       unfold rowM
       rw [(md 3 (by omega)).1, (md 3 (by omega)).2, if_neg (by omega), if_neg (by omega), if_neg (by omega), if_pos rfl]
      ·rw [row 4 (by omega), low (14 + 6 * k) (by omega)]
       unfold rowM
       rw [(md 4 (by omega)).1, (md 4 (by omega)).2, if_neg (by omega), if_neg (by omega), if_neg (by omega), if_neg (by omega), if_pos rfl]
      ·rw [row 5 (by omega), low (15 + 6 * k) (by omega)]
       unfold rowM
       rw [(md 5 (by omega)).1, (md 5 (by omega)).2, if_neg (by omega), if_neg (by omega), if_neg (by omega), if_neg (by omega), if_neg (by omega)]
     have like : LikeF (yF ρ [] len 0) (yF ρ2 [] len 0) := fun j hj => m_like (u' := u) u2 rfl j hj
     have hmx : OkMx len ρ := ⟨hcs, hsh, hrow, by rw [cntF_like like]; rfl, fun j hj => by rw [ordF_like like]; exact m_fst u (by omega)⟩
     obtain ⟨o1, _⟩ := orderOk h1 h6 hsh
     rw [order ρ low] at o1
     obtain ⟨p1, p2⟩ := permA_ok l o1
     have hperm : l ∈ permsM len (fullM len) := perm_mem h1 h6 o1 hlen
     have hch : chainF (yF ρ [] len 0) l 0 100 = true := by
      have := true_chain h6 hrow (by rw [order ρ low]; exact o1) 0 len
      rw [order ρ low, List.drop_zero, List.take_of_length_le (by omega)] at this
      exact this
     have reel : ∀ i, i < len → ∃ r, l[i]? = some r ∧ r < len := fun i hi => by
      have hi' : i < l.length := by omega
      exact ⟨l[i], List.getElem?_eq_getElem hi', p2 _ (List.getElem_mem hi')⟩
     have flag : ∀ i r j, l[i]? = some r → (flagE i j).den ρ = atF (yF ρ [] len 0) r len 0 (fullM len) 0 100 j := fun i r j hr => by
      rw [atF_like like, m_flag u i j]
      show atF (yF ρ2 [] len 0) ((l[i]?).getD 0) len 0 (fullM len) 0 100 j = _
      rw [hr]; rfl
     have hlp : OkLp len ρ := by
      refine ⟨mx_y h6 hmx, mx_some h1 h6 hmx, fun i hi => ?_, fun i hi => ?_, fun hone i j hi hj hij => ?_⟩
      ·obtain ⟨r, r1, r2⟩ := reel i hi
       exact ⟨r, r2, hsh.names i r (by rw [order ρ low]; exact r1), fun j _ => flag i r j r1⟩
      ·obtain ⟨r, r1, r2⟩ := reel i hi
       rw [flag i r i r1]
       have := at_of_chain (yF ρ [] len 0) r len 0 (fullM len) 0 100 l i hperm p1 hch r1
       rw [Nat.zero_add] at this
       exact this
      ·obtain ⟨r, r1, r2⟩ := reel i hi
       rw [flag i r j r1]
       cases ha : atF (yF ρ [] len 0) r len 0 (fullM len) 0 100 j with
       | false => rfl
       | true =>
        obtain ⟨l', m1, m2, _, m4⟩ := chain_of_at (yF ρ [] len 0) r len 0 (fullM len) 0 100 j ha
        rw [Nat.sub_zero] at m4
        have hne : l ≠ l' := fun e => by
         rw [← e] at m4
         have hi' : i < l.length := by omega
         have hj' : j < l.length := by omega
         rw [List.getElem?_eq_getElem hi'] at r1
         rw [List.getElem?_eq_getElem hj'] at m4
         have e2 := Option.some.inj (r1.trans m4.symm)
         rcases Nat.lt_or_gt_of_ne hij with hlt | hlt
         ·exact List.pairwise_iff_getElem.1 p1 i j hi' hj' hlt e2
         ·exact List.pairwise_iff_getElem.1 p1 j i hj' hi' hlt e2.symm
        have h2 := two_le (yF ρ [] len 0) len (fullM len) 0 100 l l' hperm m1 hch m2 hne
        have hc := hmx.cnt
        rw [hone] at hc
        omega
     have kin := turnF_in (n := n0) (m := (len : Int)) (by omega)
     let lo := (turnF n0 len).toNat
     have hlo : lo < len := by show (turnF n0 len).toNat < len; omega
     have tin := turnF_in (n := n1) (m := ((len - lo : Nat) : Int)) (by omega)
     let n := (turnF n1 ((len - lo : Nat) : Int)).toNat + 1
     have hn : lo + n ≤ len := by show lo + ((turnF n1 ((len - lo : Nat) : Int)).toNat + 1) ≤ len; omega
     have hM : OkM len lo n ρ (Base.of W).has := ⟨hp, hmx, OkLp.key h6 (ρ := ρ) (ρ' := loR len ρ) (fun j hj => (m_key u h6 j hj).symm) rfl hlp, by
      show ((turnF n0 len).toNat : Int) = turnF n0 len; omega, by
      show (((turnF n1 ((len - lo : Nat) : Int)).toNat + 1 - 1 : Nat) : Int) = turnF n1 ((len - lo : Nat) : Int); omega⟩
     exact mix_valid (lo := lo) (n := n) h1 h6 (Nat.le_add_left 1 _) hn hview (hnone _ _ _ _) (hσ _ _ _ _) (Nat.le_refl _) hargs (m_key u h6) ⟨_, hM, fun _ _ h => h⟩
    ·exact mix_bad hLm hview (hnone _ _ _ _) (hσ _ _ _ _) (Nat.le_refl _) hargs hcs
end
end Go.Sx
