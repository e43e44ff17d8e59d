/- THE LAW OF THE TIMES, for a valid film, wherever the names mean what they should: its calls. -/
import Derived.Test.YtgohpnfoogdlaaaDoorTmP
import Derived.Test.YtgohpnfoogdlaaaDoorTmC
import Derived.Test.YtgohpnfoogdlaaaDoorTmT
import Derived.Test.YtgohpnfoogdlaaaDoorTmM0
/-! THE CALLS THAT THE LAW OF THE TIMES MAKES, as they are said. -/
namespace Go.Sx
open Go.RowKit Go.Proofs
set_option maxRecDepth 100000
/-- feet that are left, as the names say -/
def wornF (had n torn : Int) : Int := if had - n * torn > 0 then had - n * torn else 0
/-- what is known of a list that is only read: it is the opaque value 96, and whether it is one of reels -/
def okList (r : Bool) (N : Int) (ρ : Rho) (m : Nat → Obj → Prop) : Prop := ∃ (b : Option Addr) (len cap : Nat) (y : Nat → Int), ρ.ov 96 = .slice b len cap ∧ ρ.iv 96 = (len : Int) ∧ (len : Int) ≤ 9223372036854775807 ∧ len ≤ cap ∧
  (0 < len → ∃ c x cells el fz, b = some ⟨c, x, none⟩ ∧ m c (.cells cells el fz) ∧ ∀ j : Nat, j < len → cells[x + j]? = some (.int .i64 (y j))) ∧ okUp y N len = r
theorem okList_in {p : Par} {E : Env} {h : Heap} {w0 : Base} {w : World} (HH : HeapOk p E h w0 w) {r : Bool} {N : Int} {m : Nat → Obj → Prop} (hm : okList r N E.ρ m) (hmh : ∀ c o, m c o → w0.has c o) {lv : Value} (hl : conc E (.sliceU 96) = some lv) :
    ∃ y len, ListV w lv y len ∧ okUp y N len = r := by
  obtain ⟨b, len, cap, y, h1, h2, h3, h4, h5, h6⟩ := hm
  simp only [conc, h1, h2, if_true, Option.some.injEq] at hl
  subst hl
  refine ⟨y, len, ⟨b, cap, rfl, h3, h4, fun hp => ?_⟩, h6⟩
  obtain ⟨c, x, cells, el, fz, e1, e2, e3⟩ := h5 hp
  exact ⟨c, x, e1, cells, el, fz, HH.below.has (hmh _ _ e2), e3⟩
/-- what a list and a film must be for areReels to be known -/
def Said (p : Par) (h : Heap) (s l : AV) (small : Bool) (b : BE) : Prop := ∀ E w0 w, HeapOk p E h w0 w → ∀ sv lv, conc E s = some sv → conc E l = some lv →
  ∃ (q : Option Addr) (n c : Nat) (y : Nat → Int) (len : Nat), sv = .slice q n c ∧ (small = true → n ≤ 6) ∧ ListV w lv y len ∧ okUp y (topF n) len = b.den E.ρ
theorem agg_some {E : Env} {a : AV} {l : List AV} {v : Value} (h : conc E (.agg (a :: l)) = some v) : ∃ s r, conc E a = some s ∧ concL E l = some r ∧ v = .agg (s :: r).toArray := by
  simp only [conc, Option.map_eq_some_iff] at h
  obtain ⟨fs, hfs, rfl⟩ := h
  obtain ⟨s, r, h1, h2, rfl⟩ := concL_cons.1 hfs
  exact ⟨s, r, h1, h2, rfl⟩
def five (a b c d e : Int) (j : Nat) : Int := if j = 0 then a else if j = 1 then b else if j = 2 then c else if j = 3 then d else e
theorem rare_orc {p : Par} (hP : Tryd.prog = p.P) {s l : AV} {i0 i1 i2 i3 i4 : IE} {h : Heap} {b : BE} {small : Bool} (H : Said p h s l small b) :
    CallOk p 18 [.agg [s, .int .i64 i0, .int .i64 i1, .int .i64 i2, .int .i64 i3, .int .i64 i4], l] h (.ret (.bool b, h)) := by
  refine callOk_of fun vs E w0 w Q HH ha k => ?_
  obtain ⟨v, r, hv, hr, rfl⟩ := concL_cons.1 ha
  obtain ⟨lv, r2, hlv, hr2, rfl⟩ := concL_cons.1 hr
  simp only [concL, Option.some.injEq] at hr2
  subst hr2
  obtain ⟨sv, r3, hsv, hr3, rfl⟩ := agg_some hv
  simp only [concL, conc, Option.some.injEq] at hr3
  subst hr3
  obtain ⟨q, n, c, y, len, rfl, _, hL, hok⟩ := H E w0 w HH sv lv hsv hlv
  rw [← hP]
  obtain ⟨r1, r2⟩ := rare_calls hL (p := q) (n := n) (c := c) (five (i0.den E.ρ) (i1.den E.ρ) (i2.den E.ρ) (i3.den E.ρ) (i4.den E.ρ))
  refine ⟨r1, r2.mono ?_⟩
  rintro ex w' ⟨rfl, hb⟩
  exact ⟨_, _, rfl, k, by simp only [conc, hok], hb⟩
theorem are_orc {p : Par} (hP : Tryd.prog = p.P) {s l : AV} {i0 i1 i2 i3 i4 : IE} {x : Nat} {h : Heap} {b : BE} (H : Said p h s l true b) :
    CallOk p 14 [.agg [s, .int .i64 i0, .int .i64 i1, .int .i64 i2, .int .i64 i3, .int .i64 i4, .map x], l] h (.ret (.bool b, h)) := by
  refine callOk_of fun vs E w0 w Q HH ha k => ?_
  obtain ⟨v, r, hv, hr, rfl⟩ := concL_cons.1 ha
  obtain ⟨lv, r2, hlv, hr2, rfl⟩ := concL_cons.1 hr
  simp only [concL, Option.some.injEq] at hr2
  subst hr2
  obtain ⟨sv, r3, hsv, hr3, rfl⟩ := agg_some hv
  obtain ⟨_, r4, e0, hr4, rfl⟩ := concL_cons.1 hr3
  obtain ⟨_, r5, e1, hr5, rfl⟩ := concL_cons.1 hr4
  obtain ⟨_, r6, e2, hr6, rfl⟩ := concL_cons.1 hr5
  obtain ⟨_, r7, e3, hr7, rfl⟩ := concL_cons.1 hr6
  obtain ⟨_, r8, e4, hr8, rfl⟩ := concL_cons.1 hr7
  obtain ⟨mv, r9, e5, hr9, rfl⟩ := concL_cons.1 hr8
  simp only [concL, Option.some.injEq] at hr9
  simp only [conc, Option.some.injEq] at e0 e1 e2 e3 e4
  simp only [conc, Option.map_eq_some_iff] at e5
  obtain ⟨⟨m0, _⟩, _, rfl⟩ := e5
  subst hr9 e0 e1 e2 e3 e4
  obtain ⟨q, n, c, y, len, rfl, hn, hL, hok⟩ := H E w0 w HH sv lv hsv hlv
  rw [← hP]
  obtain ⟨r1, r2⟩ := are_calls hL (p := q) (n := n) (c := c) (k := m0) (hn rfl) (five (i0.den E.ρ) (i1.den E.ρ) (i2.den E.ρ) (i3.den E.ρ) (i4.den E.ρ))
  refine ⟨r1, r2.mono ?_⟩
  rintro ex w' ⟨rfl, hb⟩
  exact ⟨_, _, rfl, k, by simp only [conc, hok], hb⟩
/-! ## What is so of the names -/
def LstOk (L : Nat) (q : Lst) (ρ : Rho) (m : Nat → Obj → Prop) : Prop :=
  match q with
  | .reels k => k ≤ 6 ∧ okUp (fun i => ρ.iv (110 + i)) ((L : Int) - 1) k = true
  | .any => okList false ((L : Int) - 1) ρ m
  | _ => True
structure OkR (L : Nat) (q : Lst) (sh : Bool) (ρ : Rho) (m : Nat → Obj → Prop) : Prop where
  film : ∀ c ∈ csL L, c.den ρ = true
  lst : LstOk L q ρ m
  n : sh = true → 0 ≤ ρ.iv 85 ∧ ρ.iv 85 ≤ 999
  worn : sh = true → ∀ i, i < kOf q → ∀ k : Nat, k < L → ρ.iv (110 + i) = k → ρ.iv (120 + i) = wornF (ρ.iv (hadV k 0)) (ρ.iv 85) (ρ.iv 3) ∧ ρ.iv (130 + i) = wornF (ρ.iv (hadV k 1)) (ρ.iv 85) (ρ.iv 2)
noncomputable def pR (L : Nat) (q : Lst) (sh : Bool) : Par := ⟨Tryd.prog, rcOf Tryd.rows, OkR L q sh⟩
def InL (L : Nat) : Prop := L = 1 ∨ L = 2 ∨ L = 3 ∨ L = 4 ∨ L = 5 ∨ L = 6
theorem inL_le {L : Nat} (h : InL L) : 1 ≤ L ∧ L ≤ 6 := by
  rcases h with rfl | rfl | rfl | rfl | rfl | rfl <;> omega
theorem topF_in {L : Nat} (h : L ≤ 6) : topF L = (L : Int) - 1 := by
  unfold topF; exact IntWalk.i64_in _ (by omega)
theorem okUp_at {y : Nat → Int} {N : Int} : ∀ {k i : Nat}, okUp y N k = true → i < k → 0 ≤ y i ∧ y i ≤ N
  | 0, i, _, h => by omega
  | k + 1, i, hk, h => by
    have hk : (okUp y N k && (decide (0 ≤ y k) && (decide (y k ≤ N) && decide (findAt y (y k) k 0 = -1)))) = true := hk
    simp only [Bool.and_eq_true, decide_eq_true_eq] at hk
    rcases Nat.lt_or_ge i k with h1 | h1
    · exact okUp_at hk.1 h1
    · have : i = k := by omega
      subst this; exact ⟨hk.2.1, hk.2.2.1⟩
/-- how often a number is among so many -/
def cntV (y : Nat → Int) (v : Int) : Nat → Nat
  | 0 => 0
  | k + 1 => cntV y v k + if y k = v then 1 else 0
def sumV (f : Nat → Nat) : Nat → Nat
  | 0 => 0
  | n + 1 => sumV f n + f n
theorem cntV_zero {y : Nat → Int} {v : Int} : ∀ {k : Nat}, metF y v k = false → cntV y v k = 0
  | 0, _ => rfl
  | k + 1, h => by
    simp only [metF, Bool.or_eq_false_iff, decide_eq_false_iff_not] at h
    simp only [cntV, cntV_zero h.1, if_neg h.2]
theorem cntV_one {y : Nat → Int} {N : Int} (v : Int) : ∀ {k : Nat}, okUp y N k = true → cntV y v k ≤ 1
  | 0, _ => Nat.zero_le _
  | k + 1, h => by
    have h : (okUp y N k && (decide (0 ≤ y k) && (decide (y k ≤ N) && decide (findAt y (y k) k 0 = -1)))) = true := h
    simp only [Bool.and_eq_true, decide_eq_true_eq] at h
    have ih := cntV_one v h.1
    unfold cntV
    split
    · rename_i hv
      subst hv
      have := cntV_zero ((metF_find y (y k) k).1 h.2.2.2)
      omega
    · omega
theorem sumV_le {f : Nat → Nat} (h : ∀ v, f v ≤ 1) : ∀ L : Nat, sumV f L ≤ L
  | 0 => Nat.le_refl _
  | L + 1 => by have := sumV_le h L; have := h L; unfold sumV; omega
theorem sumV_add {f : Nat → Nat} {z : Int} (h0 : 0 ≤ z) : ∀ L : Nat, sumV (fun v => f v + if z = ((v : Nat) : Int) then 1 else 0) L = sumV f L + if z < (L : Int) then 1 else 0
  | 0 => by simp only [sumV]; rw [if_neg (by omega)]
  | L + 1 => by
    simp only [sumV, sumV_add h0 L]
    by_cases h1 : z < (L : Int)
    · rw [if_pos h1, if_neg (by omega), if_pos (by omega)]; omega
    · by_cases h2 : z = (L : Int)
      · rw [if_neg h1, if_pos h2, if_pos (by omega)]; omega
      · rw [if_neg h1, if_neg h2, if_neg (by omega)]; omega
theorem sumV_all {y : Nat → Int} {L : Nat} : ∀ {k : Nat}, okUp y ((L : Int) - 1) k = true → sumV (fun v => cntV y (v : Int) k) L = k
  | 0, _ => by
    have : ∀ n : Nat, sumV (fun v => cntV y (v : Int) 0) n = 0 := by
      intro n
      induction n with
      | zero => rfl
      | succ n ih => unfold sumV; rw [ih]; rfl
    exact this L
  | k + 1, h => by
    have h' : (okUp y ((L : Int) - 1) k && (decide (0 ≤ y k) && (decide (y k ≤ (L : Int) - 1) && decide (findAt y (y k) k 0 = -1)))) = true := h
    simp only [Bool.and_eq_true, decide_eq_true_eq] at h'
    have e : sumV (fun v => cntV y (v : Int) (k + 1)) L = _ := sumV_add (f := fun v => cntV y (v : Int) k) h'.2.1 L
    rw [e, sumV_all h'.1, if_pos (by omega)]
/-- no more reels than the film has -/
theorem okUp_len {y : Nat → Int} {L k : Nat} (h : okUp y ((L : Int) - 1) k = true) : k ≤ L := by
  have h1 := sumV_all h
  have h2 := sumV_le (f := fun v => cntV y (v : Int) k) (fun v => cntV_one _ h) L
  omega
theorem okUp_congr {y z : Nat → Int} {N : Int} : ∀ {k : Nat}, (∀ i, i < k → y i = z i) → okUp y N k = okUp z N k := by
  have fa : ∀ (n : Int) (m i : Nat), (∀ j, i ≤ j → j < i + m → y j = z j) → findAt y n m i = findAt z n m i := by
    intro n m
    induction m with
    | zero => intro i _; rfl
    | succ m ih =>
      intro i h
      unfold findAt
      rw [h i (Nat.le_refl _) (by omega), ih (i + 1) fun j h1 h2 => h j (by omega) (by omega)]
  intro k
  induction k with
  | zero => intro _; rfl
  | succ k ih =>
    intro h
    simp only [okUp]
    rw [ih fun i hi => h i (by omega), h k (by omega), fa _ _ _ fun j _ hj => h j (by omega)]
theorem cellsUp_vals (E : Env) (z : Nat → Int) : ∀ (k i : Nat), (∀ j, i ≤ j → j < i + k → E.ρ.iv j = z j) → concL E (cellsUp k i) = some ((List.range k).map fun q => .int .i64 (z (i + q)))
  | 0, i, _ => rfl
  | k + 1, i, h => by
    simp only [cellsUp, vi, concL, conc, IE.den]
    rw [h i (Nat.le_refl _) (by omega), cellsUp_vals E z k (i + 1) fun j h1 h2 => h j (by omega) (by omega)]
    simp only [List.range_succ_eq_map, List.map_cons, List.map_map, Nat.add_zero]
    congr 2
    apply List.map_congr_left
    intro q _
    simp only [Function.comp, Nat.succ_eq_add_one]
    rw [show i + 1 + q = i + (q + 1) by omega]
theorem film_conc {E : Env} {L : Nat} {sv : Value} (h : conc E (.sliceX 1001 6 0 L) = some sv) : ∃ q c, sv = .slice q L c := by
  simp only [conc] at h
  split at h
  · simp only [Option.map_eq_some_iff] at h
    obtain ⟨p, _, rfl⟩ := h
    exact ⟨_, _, rfl⟩
  · cases h
theorem lst_said {L : Nat} (hL : InL L) {q : Lst} {sh : Bool} {h : Heap} (hh : q.here h = true) : Said (pR L q sh) h (.sliceX 1001 6 0 L) q.av true (.lit q.res) := by
  intro E w0 w HH sv lv hs hl
  obtain ⟨hL1, hL6⟩ := inL_le hL
  obtain ⟨a, c, rfl⟩ := film_conc hs
  obtain ⟨m, hm, hmh⟩ := HH.ok
  have hl0 := (show OkR L q sh E.ρ m from hm).lst
  have fin : (∃ y len, ListV w lv y len ∧ okUp y ((L : Int) - 1) len = q.res) → ∃ (q_1 : Option Addr) (n c_1 : Nat) (y : Nat → Int) (len : Nat), (Value.slice a L c) = .slice q_1 n c_1 ∧ (true = true → n ≤ 6) ∧ ListV w lv y len ∧ okUp y (topF n) len = (BE.lit q.res).den E.ρ := by
    rintro ⟨y, len, k1, k2⟩
    exact ⟨a, L, c, y, len, rfl, fun _ => hL6, k1, by rw [topF_in hL6, k2]; rfl⟩
  refine fin ?_
  cases q with
  | reels k =>
    have hl : conc E (.sliceX 1004 1 0 k) = some lv := hl
    simp only [conc] at hl
    split at hl
    · rename_i hk
      simp only [Option.map_eq_some_iff] at hl
      obtain ⟨⟨c0, x0⟩, hσ, rfl⟩ := hl
      simp only [Lst.here] at hh
      split at hh
      · rename_i cs el own ext hg
        have := eqAVs_eq _ _ hh
        subst this
        obtain ⟨c1, base, vs, cells, el1, fz, k1, k2, k3, k4, _⟩ := HH.obj _ _ hg
        rw [k1] at hσ
        simp only [Option.some.injEq, Prod.mk.injEq] at hσ
        obtain ⟨rfl, rfl⟩ := hσ
        rw [cellsUp_vals E E.ρ.iv k 110 fun _ _ _ => rfl] at k2
        simp only [Option.some.injEq] at k2
        subst k2
        refine ⟨fun i => E.ρ.iv (110 + i), k, ⟨_, _, rfl, ?_, by omega, fun _ => ⟨_, _, rfl, cells, el1, fz, k3, fun j hj => ?_⟩⟩, hl0.2⟩
        · have := hl0.1; omega
        · have := k4 j (by simpa using hj)
          simp only [Nat.zero_mul, ite_self, Nat.add_zero]
          rw [this]
          simp [hj]
      · cases hh
    · cases hl
  | nil =>
    have hl : conc E .nilslice = some lv := hl
    simp only [conc, Option.some.injEq] at hl
    subst hl
    exact ⟨fun _ => 0, 0, ⟨none, 0, rfl, by omega, Nat.le_refl _, fun h => by omega⟩, rfl⟩
  | empty =>
    have hl : conc E (.sliceX 1004 1 0 0) = some lv := hl
    simp only [conc] at hl
    split at hl
    · simp only [Option.map_eq_some_iff] at hl
      obtain ⟨p, _, rfl⟩ := hl
      exact ⟨fun _ => 0, 0, ⟨_, _, rfl, by omega, Nat.zero_le _, fun h => by omega⟩, rfl⟩
    · cases hl
  | any =>
    exact okList_in HH hl0 hmh hl
end Go.Sx
/-! THE LAW OF THE TIMES, for a valid film, wherever the names mean what they should: its calls. -/
namespace Go.Sx
open Go.RowKit Go.Proofs
set_option maxRecDepth 100000
theorem films_all {L : Nat} (h : InL L) : filmsCk L = true := by
  rcases h with rfl | rfl | rfl | rfl | rfl | rfl
  · exact films1
  · exact films2
  · exact films3
  · exact films4
  · exact films5
  · exact films6
theorem chain_leaf {ρ : Rho} {x : Nat} {e : Nat → AV} : ∀ (n k : Nat), k < n → ρ.iv x = k → (chainT x e n).leaf ρ = some (e k)
  | 0, k, h, _ => by omega
  | n + 1, k, h, hx => by
    simp only [chainT, T.leaf]
    split
    · rename_i hc
      rw [BE.t_leq, IE.den_lit, IE.den_var, hx] at hc
      simp only [Int.ofNat_eq_natCast] at hc
      rw [show k = n by omega]
    · rename_i hc
      rw [BE.t_leq, IE.den_lit, IE.den_var, hx] at hc
      simp only [Int.ofNat_eq_natCast] at hc
      exact chain_leaf n k (by omega) hx
theorem csUp_mem {ρ : Rho} : ∀ (n b : Nat), (∀ c ∈ csUp n b, c.den ρ = true) → (∀ i, i < n → ∀ c ∈ reelC (b + 6 * i), c.den ρ = true) ∧ ∀ c ∈ restC, c.den ρ = true
  | 0, b, H => ⟨fun i hi => by omega, H⟩
  | n + 1, b, H => by
    simp only [csUp, List.mem_append] at H
    obtain ⟨h1, h2⟩ := csUp_mem n (b + 6) (fun c hc => H c (.inr hc))
    refine ⟨fun i hi c hc => ?_, h2⟩
    cases i with
    | zero => exact H c (.inl hc)
    | succ i => exact h1 i (by omega) c (by rw [show b + 6 + 6 * i = b + 6 * (i + 1) by omega]; exact hc)
/-- the numbers of a valid film -/
theorem film_facts {L : Nat} {ρ : Rho} (H : ∀ c ∈ csL L, c.den ρ = true) : (∀ k, k < L → 1 ≤ ρ.iv (hadV k 0) ∧ ρ.iv (hadV k 0) ≤ ρ.iv (hadV k 1) ∧ ρ.iv (hadV k 1) ≤ 1200) ∧ 1 ≤ ρ.iv 0 ∧ ρ.iv 0 ≤ ρ.iv 1 ∧ ρ.iv 1 ≤ 20 ∧ 0 ≤ ρ.iv 2 ∧ ρ.iv 2 ≤ ρ.iv 3 ∧ ρ.iv 3 ≤ 50 ∧ 1 ≤ ρ.iv 4 ∧ ρ.iv 4 ≤ 6000 := by
  obtain ⟨h1, h2⟩ := csUp_mem L 10 H
  simp only [restC, le2, List.mem_cons, List.not_mem_nil, or_false, forall_eq_or_imp, forall_eq, BE.t_leq, IE.den_lit, IE.den_var] at h2
  refine ⟨fun k hk => ?_, h2⟩
  have h1 := h1 k hk
  simp only [reelC, le2, List.mem_cons, List.not_mem_nil, or_false, forall_eq_or_imp, forall_eq, BE.t_leq, IE.den_lit, IE.den_var] at h1
  obtain ⟨_, _, _, _, _, _, a7, a8, a9, _⟩ := h1
  rw [show 10 + 6 * k + 4 = hadV k 0 by simp only [hadV]; omega] at a7 a8
  rw [show 10 + 6 * k + 5 = hadV k 1 by simp only [hadV]; omega] at a8 a9
  exact ⟨a7, a8, a9⟩
theorem wornF_le {a b n s t : Int} (h : a ≤ b) (hn : 0 ≤ n) (hst : t ≤ s) : wornF a n s ≤ wornF b n t := by
  have := Int.mul_le_mul_of_nonneg_left hst hn
  unfold wornF
  split <;> split <;> omega
theorem wornF_in {a n s : Int} (hn : 0 ≤ n) (hs : 0 ≤ s) (ha : 0 ≤ a) : 0 ≤ wornF a n s ∧ wornF a n s ≤ a := by
  have := Int.mul_nonneg hn hs
  unfold wornF
  split <;> omega
theorem prod_in {n s : Int} (hn : 0 ≤ n) (hn2 : n ≤ 999) (hs : 0 ≤ s) (hs2 : s ≤ 50) : 0 ≤ n * s ∧ n * s ≤ 49950 := by
  have h1 := Int.mul_nonneg hn hs
  have h2 : n * s ≤ 999 * 50 := Int.mul_le_mul hn2 hs2 hs (by omega)
  omega
theorem name_ok2 {ok : Rho → (Nat → Obj → Prop) → Prop} {tb : Tabs} (B : TabOk ⟨Tryd.prog, rcOf Tryd.rows, ok⟩ Sx.Tryd.tt.get tb) {d : Nat} {f : FuncId} {args0 : List AV} {view : List (Nat × VO)} {v : AV}
    (hst : and (viewUp 0 view) (outsOk 2000 view []) = true)
    (hK : ∀ ρ m, ok ρ m → ∃ u q cs b, servesX [] u (only (evalN tb d false f args0 (viewO 2000 view))) (knOf q cs) = true ∧ (∀ c ∈ ivC q, c.den ρ = true) ∧ (∀ c ∈ cs, c.den ρ = true) ∧ u.leaf ρ = some b ∧ SameE ρ b v) {args : List AV} {h : Heap} {rr : AV × Heap}
    (hm : (Ent.mk f args0 2000 view v [] []).meet args h = some (.ret rr)) : CallOk ⟨Tryd.prog, rcOf Tryd.rows, ok⟩ f args h (.ret rr) := by
  refine meetN B (d := d) (f := f) (args0 := args0) (n := 2000) (view := view) (cs := []) (by rw [Bool.and_eq_true]; exact ⟨rfl, hst⟩) fun ρ b hb _ => ?_
  obtain ⟨m, hm1, _⟩ := hb
  obtain ⟨u, q, cs, b', hck, hq, hc, hl, hs⟩ := hK _ _ hm1
  have key := servesX_ok (R := []) (fun r hr => (List.not_mem_nil hr).elim) (T.leaf_holds u hl) _ _ (knOf_ok hq hc) hck
  unfold only at key
  rw [T.holds_bind] at key
  obtain ⟨r1, hleaf, b2, rfl, _, hsame⟩ := T.holds_leaf _ key
  exact ⟨v, [], r1, rfl, hm, hleaf, fun E hE => (hsame E hE).trans (hs E hE), fun q hq => (List.not_mem_nil hq).elim⟩
section
variable {L : Nat} (hL : InL L) {q : Lst} {sh : Bool}
theorem tabs0R : TabOk (pR L q sh) Sx.Tryd.tt.get tb0 := Tryd.tab (fun _ _ _ => none) (fun _ _ _ _ h => by cases h) 2000
theorem x_at {ρ : Rho} {m : Nat → Obj → Prop} (H : OkR L q sh ρ m) {i : Nat} (hi : i < kOf q) : ∃ k : Nat, k < L ∧ ρ.iv (110 + i) = k := by
  have hl := H.lst
  cases q with
  | reels k =>
    obtain ⟨_, hl⟩ := (show k ≤ 6 ∧ okUp (fun i => ρ.iv (110 + i)) ((L : Int) - 1) k = true from hl)
    obtain ⟨h1, h2⟩ := okUp_at hl (show i < k from hi)
    exact ⟨(ρ.iv (110 + i)).toNat, by omega, by omega⟩
  | nil => exact absurd hi (Nat.not_lt_zero _)
  | empty => exact absurd hi (Nat.not_lt_zero _)
  | any => exact absurd hi (Nat.not_lt_zero _)
theorem xC_ok {ρ : Rho} {m : Nat → Obj → Prop} (H : OkR L q sh ρ m) {i : Nat} (hi : i < kOf q) : ∀ c ∈ xC L i, c.den ρ = true := by
  obtain ⟨k, hk, hx⟩ := x_at H hi
  intro c hc
  simp only [xC, List.mem_cons, List.not_mem_nil, or_false] at hc
  rcases hc with rfl | rfl
  · rw [BE.t_leq, IE.den_lit, IE.den_var, hx]; omega
  · rw [BE.t_leq, IE.den_lit, IE.den_var, hx]; simp only [Int.ofNat_eq_natCast]; omega
theorem worn_den {ρ : Rho} {m : Nat → Obj → Prop} (H : OkR L q sh ρ m) (hsh : sh = true) {k : Nat} (hk : k < L) {e : Nat} (he : e = 0 ∨ e = 1) : (wornI k e).den ρ = wornF (ρ.iv (hadV k e)) (ρ.iv 85) (ρ.iv (tornV e)) := by
  obtain ⟨f1, f2⟩ := film_facts H.film
  have f1 := f1 k hk
  have hn := H.n hsh
  have hh : 1 ≤ ρ.iv (hadV k e) ∧ ρ.iv (hadV k e) ≤ 1200 := by
    rcases he with rfl | rfl <;> omega
  have ht : 0 ≤ ρ.iv (tornV e) ∧ ρ.iv (tornV e) ≤ 50 := by
    rcases he with rfl | rfl
    · show 0 ≤ ρ.iv 3 ∧ ρ.iv 3 ≤ 50
      omega
    · show 0 ≤ ρ.iv 2 ∧ ρ.iv 2 ≤ 50
      omega
  have hp := prod_in hn.1 hn.2 ht.1 ht.2
  show (if IntKind.i64.wrap (ρ.iv (hadV k e) - IntKind.i64.wrap (ρ.iv 85 * ρ.iv (tornV e))) > 0 then IntKind.i64.wrap (ρ.iv (hadV k e) - IntKind.i64.wrap (ρ.iv 85 * ρ.iv (tornV e))) else 0) = _
  rw [IntWalk.i64_in (ρ.iv 85 * ρ.iv (tornV e)) (by omega), IntWalk.i64_in _ (by omega)]
  rfl
theorem kOf_le {ρ : Rho} {m : Nat → Obj → Prop} (H : OkR L q sh ρ m) : kOf q ≤ L := by
  have hl := H.lst
  cases q with
  | reels k => exact okUp_len (show k ≤ 6 ∧ _ from hl).2
  | nil => exact Nat.zero_le _
  | empty => exact Nat.zero_le _
  | any => exact Nat.zero_le _
include hL
theorem ents_ok (hkL : kOf q ≤ L) : ∀ e ∈ entsL L (cond sh (kOf q) 0), ∀ args h t, entOrc1 e args h = some t → CallOk (pR L q sh) e.f args h t := by
  intro e he args h t ht
  have hf := films_all hL
  simp only [filmsCk, filmCk, refCk, Bool.and_eq_true] at hf
  obtain ⟨⟨f1, f2⟩, ⟨f3, f4⟩, f5⟩ := hf
  unfold entOrc1 at ht
  split at ht
  · rename_i r hr
    cases ht
    simp only [entsL, List.mem_cons, List.mem_flatMap, List.not_mem_nil, or_false] at he
    rcases he with rfl | rfl | ⟨i, hi, he⟩
    · refine name_ok2 (ok := OkR L q sh) tabs0R (d := 60) (v := tT) (args0 := (filmE L).args) (view := (filmE L).view) f1 (fun ρ m H => ⟨.ret tT, [], csL L, tT, f2, fun c hc => by simp [ivC] at hc, H.film, rfl, fun _ _ => rfl⟩) hr
    · refine name_ok2 (ok := OkR L q sh) tabs0R (d := 60) (v := li 0) (args0 := (refE L).args) (view := (refE L).view) f3 (fun ρ m H => ⟨.ret (li 0), [], csL L, li 0, f4, fun c hc => by simp [ivC] at hc, H.film, rfl, fun _ _ => rfl⟩) hr
    · have hi0 := (upTo_mem _ _).1 hi
      have hsh : sh = true := by
        cases sh with
        | true => rfl
        | false => exact absurd hi0 (Nat.not_lt_zero _)
      have hi' : i < kOf q := by rw [hsh] at hi0; exact hi0
      have hc := lAll_mem f5 i ((upTo_mem _ _).2 (by omega))
      simp only [wornCk, rwornCk, feetCk, Bool.and_eq_true] at hc
      obtain ⟨⟨⟨w1, w2⟩, v1, v2⟩, ⟨g1, g2⟩, g3, g4⟩ := hc
      have same2 : ∀ {ρ : Rho} {a b c d : IE}, a.den ρ = c.den ρ → b.den ρ = d.den ρ → SameE ρ (.agg [.int .i64 a, .int .i64 b]) (.agg [.int .i64 c, .int .i64 d]) := fun h1 h2 E hE => by
        subst hE; simp only [conc, concL, h1, h2]
      have same1 : ∀ {ρ : Rho} {a c : IE}, a.den ρ = c.den ρ → SameE ρ (.int .i64 a) (.int .i64 c) := fun h1 E hE => by subst hE; simp only [conc, h1]
      rcases he with rfl | rfl | rfl | rfl
      · refine name_ok2 (ok := OkR L q sh) tabs0R (d := 60) (v := spanV i) (args0 := (wornE L i).args) (view := (wornE L i).view) w1 (fun ρ m H => ?_) hr
        obtain ⟨k, hk, hx⟩ := x_at H hi'
        obtain ⟨q1, q2⟩ := H.worn hsh i hi' k hk hx
        exact ⟨wornU L i, [], xC L i, _, w2, fun c hc => by simp [ivC] at hc, xC_ok H hi', chain_leaf L k hk hx, same2 ((worn_den H hsh hk (.inl rfl)).trans q1.symm) ((worn_den H hsh hk (.inr rfl)).trans q2.symm)⟩
      · refine name_ok2 (ok := OkR L q sh) tabs0R (d := 60) (v := spanV i) (args0 := (rwornE L i).args) (view := (rwornE L i).view) v1 (fun ρ m H => ?_) hr
        obtain ⟨k, hk, hx⟩ := x_at H hi'
        obtain ⟨q1, q2⟩ := H.worn hsh i hi' k hk hx
        exact ⟨wornU L i, [], xC L i, _, v2, fun c hc => by simp [ivC] at hc, xC_ok H hi', chain_leaf L k hk hx, same2 ((worn_den H hsh hk (.inl rfl)).trans q1.symm) ((worn_den H hsh hk (.inr rfl)).trans q2.symm)⟩
      · refine name_ok2 (ok := OkR L q sh) tabs0R (d := 60) (v := feetV i 0) (args0 := (feetE L i 0).args) (view := (feetE L i 0).view) g1 (fun ρ m H => ?_) hr
        obtain ⟨k, hk, hx⟩ := x_at H hi'
        obtain ⟨q1, q2⟩ := H.worn hsh i hi' k hk hx
        exact ⟨feetU L i 0, [], xC L i, _, g2, fun c hc => by simp [ivC] at hc, xC_ok H hi', chain_leaf L k hk hx, same1 ((worn_den H hsh hk (.inl rfl)).trans q1.symm)⟩
      · refine name_ok2 (ok := OkR L q sh) tabs0R (d := 60) (v := feetV i 1) (args0 := (feetE L i 1).args) (view := (feetE L i 1).view) g3 (fun ρ m H => ?_) hr
        obtain ⟨k, hk, hx⟩ := x_at H hi'
        obtain ⟨q1, q2⟩ := H.worn hsh i hi' k hk hx
        exact ⟨feetU L i 1, [], xC L i, _, g4, fun c hc => by simp [ivC] at hc, xC_ok H hi', chain_leaf L k hk hx, same1 ((worn_den H hsh hk (.inr rfl)).trans q2.symm)⟩
  · cases ht
omit hL in
theorem entsOrc_ok {p : Par} {f : FuncId} {args : List AV} {h : Heap} {t : T (AV × Heap)} : ∀ (l : List Ent), (∀ e ∈ l, ∀ t, entOrc1 e args h = some t → CallOk p e.f args h t) → entsOrc f args h l = some t → CallOk p f args h t
  | [], _, e => by cases e
  | c :: l, H, e => by
    have e : cond (Nat.beq f c.f) (match entOrc1 c args h with
      | some t => some t
      | none => entsOrc f args h l) (entsOrc f args h l) = some t := e
    have ih := entsOrc_ok l (fun cv hcv => H cv (List.mem_cons_of_mem _ hcv)) (f := f) (t := t)
    cases hf : Nat.beq f c.f with
    | false => rw [hf] at e; exact ih e
    | true =>
      rw [hf, cond_true] at e
      have := beq_t.1 hf; subst this
      split at e
      · rename_i u hu; cases e; exact H c List.mem_cons_self _ hu
      · exact ih e
omit hL in
theorem lst_some {s l : AV} {h : Heap} {t : T (AV × Heap)} (e : lstOrc q s l h L = some t) : s = .sliceX 1001 6 0 L ∧ l = q.av ∧ q.here h = true ∧ t = .ret (.bool (.lit q.res), h) := by
  unfold lstOrc at e
  obtain ⟨h1, h2⟩ := cond_some e
  simp only [Bool.and_eq_true] at h1
  cases h2
  exact ⟨eqAV_eq _ _ h1.1, eqAV_eq _ _ h1.2.1, h1.2.2, rfl⟩
theorem are_ok {args : List AV} {h : Heap} {t : T (AV × Heap)} (e : areOrc q L args h = some t) : CallOk (pR L q sh) 14 args h t := by
  unfold areOrc at e
  split at e
  · obtain ⟨rfl, rfl, hh, rfl⟩ := lst_some e
    exact are_orc rfl (lst_said hL hh)
  · cases e
theorem rare_ok {args : List AV} {h : Heap} {t : T (AV × Heap)} (e : rareOrc q L args h = some t) : CallOk (pR L q sh) 18 args h t := by
  unfold rareOrc at e
  split at e
  · obtain ⟨rfl, rfl, hh, rfl⟩ := lst_some e
    exact rare_orc rfl (lst_said hL hh)
  · cases e
theorem orcL_ok (hkL : kOf q ≤ L) : ∀ f args h t, orcL L q sh f args h = some t → CallOk (pR L q sh) f args h t := by
  intro f args h t e
  unfold orcL at e
  cases h1 : Nat.beq f 12 with
  | true => rw [h1] at e; have := beq_t.1 h1; subst this; exact CallOk.lift (turned_orc e)
  | false =>
    rw [h1, cond_false] at e
    cases h2 : Nat.beq f 14 with
    | true => rw [h2] at e; have := beq_t.1 h2; subst this; exact are_ok hL e
    | false =>
      rw [h2, cond_false] at e
      cases h3 : Nat.beq f 18 with
      | true => rw [h3] at e; have := beq_t.1 h3; subst this; exact rare_ok hL e
      | false =>
        rw [h3, cond_false] at e
        exact entsOrc_ok _ (fun cv hcv t e => ents_ok hL hkL cv hcv args h t e) e
theorem tabsL (hkL : kOf q ≤ L) : TabOk (pR L q sh) Sx.Tryd.tt.get (tbL L q sh) := Tryd.tab (orcL L q sh) (orcL_ok hL hkL) 2000
end
end Go.Sx
