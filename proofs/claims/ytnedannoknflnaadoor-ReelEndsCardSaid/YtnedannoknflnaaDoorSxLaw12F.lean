/- THE LAW OF BOTH ENDS, CALLED WITH WHATEVER CAN BE READ. -/
import Derived.Test.YtnedannoknflnaaDoorSxLaw12
import Derived.Test.YtnedannoknflnaaDoorSxOpen
/-! THE LAW OF BOTH ENDS, CALLED WITH WHATEVER CAN BE READ. -/
namespace Go.Sx
open Go.RowKit Go.Proofs
set_option maxRecDepth 100000

/-! ## No film -/
noncomputable def shortArgs (s : AV) : List AV := [.agg [s, vi 0, vi 1, vi 2, vi 3, vi 4], .agg [vi 5, vi 6]]
theorem short_nil : isTrue1 (evalN tbL 100 false 12 (shortArgs .nilslice) (viewHeap 2000 glL)) = true := by kernel_rfl
theorem short_zero : isTrue1 (evalN tbL 100 false 12 (shortArgs (.sliceX 1000 6 0 0)) (viewHeap 2000 glL)) = true := by kernel_rfl
theorem short_many (m : Nat) : isTrue1 (evalN tbL 100 false 12 (shortArgs (.sliceX 1000 6 0 (m + 7))) (viewHeap 2000 glL)) = true := by kernel_rfl

theorem short_calls {s : AV} (hs : isTrue1 (evalN tbL 100 false 12 (shortArgs s) (viewHeap 2000 glL)) = true) {E : Env} {w : World} (hv : ∀ g ∈ glL, ViewIn w E g) (hf : ∀ b, 2000 ≤ b → E.σ b = none) (hg : ∀ b, b < 1000 → E.σ b = some (b, 0)) (hn : E.n ≤ 2000) {vs : List Value}
    (ha : concL E (shortArgs s) = some vs) : Calls Tryd.prog 12 vs.toArray w fun e w' => e = .returned (.bool true) ∧ Below w.heap.size w w' := by
  obtain ⟨h1, hr⟩ := isTrue1_some hs
  refine (call_view tabsL (d := 100) (f := 12) (Q := fun v => v = .bool (.lit true)) hv hf hg hn ha (by rw [hr]; rfl)).2.mono ?_
  rintro e w' ⟨v, cv, E', rfl, rfl, _, hcv, hb⟩
  simp only [conc, BE.den, Option.some.injEq] at hcv
  subst hcv
  exact ⟨rfl, hb⟩

/-! ## A film, opened -/
section
variable {H : Type} {enc : TypeId × Value → H} {W : World}

theorem add_none (b o k : Nat) : (Addr.mk b o none).add k = ⟨b, o + k, none⟩ := by
  unfold Addr.add
  split
  · rename_i h; subst h; rfl
  · rfl

theorem film_open {base : Nat} {v : Value} {d : DataW H} {p : List MemPlace} (h0 : DataW.Trod enc Tryd.prog W 0 (fun _ => true) true 26 v d p) (hv : Value.okWide Tryd.prog W .any base 26 v) :
    ∃ (s : Value) (n0 n1 n2 n3 n4 : Int), v = .agg #[s, .int .i64 n0, .int .i64 n1, .int .i64 n2, .int .i64 n3, .int .i64 n4] ∧
      (s = .slice none 0 0 ∨ ∃ (b o len cap : Nat) (z : Nat → Int), s = .slice (some ⟨b, o, none⟩) len cap ∧ len ≤ cap ∧
        (0 < len → ∃ cells el fz, W.heap[b]? = some (.cells cells el fz) ∧ ∀ q, q < 6 * len → cells[o + q]? = some (.int .i64 (z q)))) := by
  obtain ⟨cs, rfl, hl, hc⟩ := okRow (P := Tryd.prog) (ts := [22, 3, 3, 3, 3, 3]) (by rw [Tryd.underlying26]) (by kernel_rfl) (by kernel_rfl) hv
  match cs, hl, hc, h0 with
  | [s, c1, c2, c3, c4, c5], _, hc, h0 =>
    obtain ⟨n0, rfl⟩ := okCell_int Tryd.underlying3 (hc 1 3 c1 rfl rfl)
    obtain ⟨n1, rfl⟩ := okCell_int Tryd.underlying3 (hc 2 3 c2 rfl rfl)
    obtain ⟨n2, rfl⟩ := okCell_int Tryd.underlying3 (hc 3 3 c3 rfl rfl)
    obtain ⟨n3, rfl⟩ := okCell_int Tryd.underlying3 (hc 4 3 c4 rfl rfl)
    obtain ⟨n4, rfl⟩ := okCell_int Tryd.underlying3 (hc 5 3 c5 rfl rfl)
    refine ⟨s, n0, n1, n2, n3, n4, rfl, ?_⟩
    rcases okCell_slice Tryd.underlying22 (hc 0 22 s rfl rfl) with rfl | ⟨b, o, len, cap, rfl, hlc⟩
    · exact .inl rfl
    · right
      obtain ⟨fuel, ht⟩ := h0
      obtain ⟨xs, n, rfl, hx, hcl, hxl, hxs⟩ := DataW.trod_struct Tryd.underlying26 ht
      have f0 := hxs 0 _ rfl
      have c22 : Tryd.prog.cellsOf 22 = 1 := by kernel_rfl
      have c66 : Tryd.prog.cellsOf 66 = 6 := by kernel_rfl
      have hx0 : ∃ x0, xs[0]? = some x0 := ⟨xs[0]'(by rw [hxl]; exact Nat.zero_lt_succ _), List.getElem?_eq_getElem _⟩
      obtain ⟨x0, hx0⟩ := hx0
      rw [hx0] at f0
      have f1 : DataW.trod enc Tryd.prog W 0 (fun _ => true) true n 22 (List.take (Tryd.prog.cellsOf 22) [Value.slice (some ⟨b, o, none⟩) len cap, .int .i64 n0, .int .i64 n1, .int .i64 n2, .int .i64 n3, .int .i64 n4]) = some x0 := f0
      rw [c22] at f1
      have f0 : DataW.trod enc Tryd.prog W 0 (fun _ => true) true n 22 [Value.slice (some ⟨b, o, none⟩) len cap] = some x0 := f1
      refine ⟨b, o, len, cap, fun q => match W.cell? ⟨b, o + q, none⟩ with | some (.int _ n) => n | _ => 0, rfl, hlc, fun hpos => ?_⟩
      have key : ∀ q, q < 6 * len → ∃ m, W.cell? ⟨b, o + q, none⟩ = some (.int .i64 m) := by
        rcases DataW.trod_slice Tryd.underlying22 f0 with ⟨h, _⟩ | ⟨a, len', cap', elems, rest, m, _, he, _, _, _, _, hel, hat, _⟩
        · simp at h
        · simp at he
          obtain ⟨rfl, rfl, rfl⟩ := he
          intro q hq
          have hi : q / 6 < len := by omega
          have h1 := hat (q / 6) hi
          rw [c66, add_none] at h1
          have hey : ∃ y, elems[q / 6]? = some y := ⟨elems[q / 6]'(by omega), List.getElem?_eq_getElem _⟩
          obtain ⟨y, hy⟩ := hey
          rw [hy, Option.bind_eq_some_iff] at h1
          obtain ⟨ci, h2, h3⟩ := h1
          obtain ⟨_, _, h4⟩ := flat_trod 5 66 m ci y (by kernel_rfl) h3
          obtain ⟨_, h5, h6⟩ := World.cells?_some h2
          have h7 := h6 (q % 6) (Nat.mod_lt _ (by omega))
          rw [add_none] at h7
          have hlt : q % 6 < ci.length := by rw [h5]; exact Nat.mod_lt _ (by omega)
          obtain ⟨mm, hm⟩ := h4 _ (List.getElem_mem hlt)
          refine ⟨mm, ?_⟩
          rw [show o + q = o + q / 6 * 6 + q % 6 by omega, h7, List.getElem?_eq_getElem hlt, hm]
      obtain ⟨m0, hm0⟩ := key 0 (by omega)
      unfold World.cell? at hm0
      split at hm0
      · rename_i cells el fz hh
        refine ⟨cells, el, fz, hh, fun q hq => ?_⟩
        obtain ⟨m, hm⟩ := key q hq
        have e : (match W.cell? ⟨b, o + q, none⟩ with | some (.int _ n) => n | _ => 0) = m := by rw [hm]
        show cells[o + q]? = some (.int .i64 (match W.cell? ⟨b, o + q, none⟩ with | some (.int _ n) => n | _ => 0))
        rw [e]
        unfold World.cell? at hm
        simp only [hh] at hm
        simpa using hm
      · cases hm0

theorem pair_open {base : Nat} {v : Value} (hv : Value.okWide Tryd.prog W .any base 54 v) : ∃ n0 n1 : Int, v = .agg #[.int .i64 n0, .int .i64 n1] := by
  obtain ⟨cs, rfl, hl, hc⟩ := okRow (P := Tryd.prog) (ts := [3, 3]) (by rw [Tryd.underlying54]) (by kernel_rfl) (by kernel_rfl) hv
  match cs, hl, hc with
  | [c1, c2], _, hc =>
    obtain ⟨n0, rfl⟩ := okCell_int Tryd.underlying3 (hc 0 3 c1 rfl rfl)
    obtain ⟨n1, rfl⟩ := okCell_int Tryd.underlying3 (hc 1 3 c2 rfl rfl)
    exact ⟨n0, n1, rfl⟩
end

/-! ## The world in which it is called -/
def GlobW (W : World) : Prop :=
  (∃ (cells : Array Value) (el : TypeId) (fz : Nat × Nat), W.heap[0]? = some (.cells cells el fz) ∧ ∀ (i : Nat) (x : Value), ([.int .i64 1, .int .i64 20, .int .i64 0, .int .i64 50] : List Value)[i]? = some x → cells[i]? = some x) ∧
  (∃ (cells : Array Value) (el : TypeId) (fz : Nat × Nat), W.heap[1]? = some (.cells cells el fz) ∧ ∀ (i : Nat) (x : Value), ([.int .i64 0, .int .i64 99, .int .i64 0, .int .i64 99, .int .i64 1, .int .i64 1200] : List Value)[i]? = some x → cells[i]? = some x)

theorem glob_views {W : World} (h : GlobW W) {E : Env} (hg : ∀ b, b < 1000 → E.σ b = some (b, 0)) : ∀ g ∈ glL, ViewIn W E g := by
  obtain ⟨⟨cells, el, fz, h1, h2⟩, ⟨cells', el', fz', h3, h4⟩⟩ := h
  intro g hgl
  simp only [glL, List.mem_cons, List.not_mem_nil, or_false] at hgl
  rcases hgl with rfl | rfl
  · refine ⟨0, 0, _, cells, el, fz, hg 0 (by omega), rfl, h1, fun i hi => ?_⟩
    rw [Nat.zero_add]
    rw [h2 i _ (List.getElem?_eq_getElem hi)]
    exact (List.getElem?_eq_getElem hi).symm
  · refine ⟨1, 0, _, cells', el', fz', hg 1 (by omega), rfl, h3, fun i hi => ?_⟩
    rw [Nat.zero_add]
    rw [h4 i _ (List.getElem?_eq_getElem hi)]
    exact (List.getElem?_eq_getElem hi).symm

def lawRho (n0 n1 n2 n3 n4 m0 m1 : Int) (z : Nat → Int) : Rho :=
  ⟨fun j => if j = 0 then n0 else if j = 1 then n1 else if j = 2 then n2 else if j = 3 then n3 else if j = 4 then n4 else if j = 5 then m0 else if j = 6 then m1 else z (j - 10), fun _ => false, fun _ _ _ _ => 0, fun _ _ _ _ => false, fun _ => .tuple #[]⟩
def lawEnv (ρ : Rho) (b o cap : Nat) : Env := ⟨ρ, fun x => if x < 1000 then some (x, 0) else if x = 1000 then some (b, o) else none, fun _ => cap, 2000⟩

theorem cellsUp_vals (E : Env) (z : Nat → Int) : ∀ (k i : Nat), (∀ j, i ≤ j → j < i + k → E.ρ.iv j = z j) → concL E (cellsUp k i) = some ((List.range k).map fun q => .int .i64 (z (i + q)))
  | 0, i, _ => rfl
  | k + 1, i, h => by
    simp only [cellsUp, vi, concL, conc, IE.den]
    rw [h i (Nat.le_refl _) (by omega), cellsUp_vals E z k (i + 1) fun j h1 h2 => h j (by omega) (by omega)]
    simp only [List.range_succ_eq_map, List.map_cons, List.map_map, Nat.add_zero]
    congr 2
    apply List.map_congr_left
    intro q _
    simp only [Function.comp, Nat.succ_eq_add_one]
    rw [show i + 1 + q = i + (q + 1) by omega]

/-- THE LAW, called with whatever film, and whatever numbers. -/
theorem ends_any {W : World} (hG : GlobW W) {s : Value} {n0 n1 n2 n3 n4 m0 m1 : Int}
    (hs : s = .slice none 0 0 ∨ ∃ (b o len cap : Nat) (z : Nat → Int), s = .slice (some ⟨b, o, none⟩) len cap ∧ len ≤ cap ∧
        (0 < len → ∃ cells el fz, W.heap[b]? = some (.cells cells el fz) ∧ ∀ q, q < 6 * len → cells[o + q]? = some (.int .i64 (z q)))) :
    Calls Tryd.prog 12 #[.agg #[s, .int .i64 n0, .int .i64 n1, .int .i64 n2, .int .i64 n3, .int .i64 n4], .agg #[.int .i64 m0, .int .i64 m1]] W fun e w' => e = .returned (.bool true) ∧ Below W.heap.size W w' := by
  have hσ : ∀ ρ b o cap, ∀ x, x < 1000 → (lawEnv ρ b o cap).σ x = some (x, 0) := fun ρ b o cap x hx => by simp [lawEnv, hx]
  have hnone : ∀ ρ b o cap, ∀ x, 2000 ≤ x → (lawEnv ρ b o cap).σ x = none := fun ρ b o cap x hx => by
    simp only [lawEnv]; rw [if_neg (by omega), if_neg (by omega)]
  rcases hs with rfl | ⟨b, o, len, cap, z, rfl, hlc, hcells⟩
  · refine short_calls (vs := [.agg #[.slice none 0 0, .int .i64 n0, .int .i64 n1, .int .i64 n2, .int .i64 n3, .int .i64 n4], .agg #[.int .i64 m0, .int .i64 m1]]) short_nil (E := lawEnv (lawRho n0 n1 n2 n3 n4 m0 m1 (fun _ => 0)) 0 0 0) (glob_views hG (hσ _ _ _ _)) (hnone _ _ _ _) (hσ _ _ _ _) (Nat.le_refl _) ?_
    simp [shortArgs, vi, concL, conc, IE.den, lawEnv, lawRho]
  · let E := lawEnv (lawRho n0 n1 n2 n3 n4 m0 m1 z) b o cap
    have hsl : conc E (.sliceX 1000 6 0 len) = some (.slice (some ⟨b, o, none⟩) len cap) := by
      simp only [conc, E, lawEnv]
      rw [if_pos (by omega)]
      simp
    have hrest : concL E [vi 0, vi 1, vi 2, vi 3, vi 4] = some [.int .i64 n0, .int .i64 n1, .int .i64 n2, .int .i64 n3, .int .i64 n4] := by
      simp [vi, concL, conc, IE.den, E, lawEnv, lawRho]
    have hargs : concL E (shortArgs (.sliceX 1000 6 0 len)) = some [.agg #[.slice (some ⟨b, o, none⟩) len cap, .int .i64 n0, .int .i64 n1, .int .i64 n2, .int .i64 n3, .int .i64 n4], .agg #[.int .i64 m0, .int .i64 m1]] := by
      have h1 : conc E (.agg [.sliceX 1000 6 0 len, vi 0, vi 1, vi 2, vi 3, vi 4]) = some (.agg #[.slice (some ⟨b, o, none⟩) len cap, .int .i64 n0, .int .i64 n1, .int .i64 n2, .int .i64 n3, .int .i64 n4]) := by
        rw [conc, concL_cons.2 ⟨_, _, hsl, hrest, rfl⟩]; rfl
      have h2 : conc E (.agg [vi 5, vi 6]) = some (.agg #[.int .i64 m0, .int .i64 m1]) := by
        simp [vi, concL, conc, IE.den, E, lawEnv, lawRho]
      exact concL_cons.2 ⟨_, _, h1, concL_cons.2 ⟨_, _, h2, rfl, rfl⟩, rfl⟩
    have gv := glob_views hG (E := E) (hσ _ _ _ _)
    match len, hlc, hcells, hargs with
    | 0, _, _, hargs => exact short_calls short_zero gv (hnone _ _ _ _) (hσ _ _ _ _) (Nat.le_refl _) hargs
    | m + 7, _, _, hargs => exact short_calls (short_many m) gv (hnone _ _ _ _) (hσ _ _ _ _) (Nat.le_refl _) hargs
    | L + 1, _, hcells, hargs =>
      by_cases h6 : L + 1 ≤ 6
      · obtain ⟨cells, el, fz, h1, h2⟩ := hcells (by omega)
        refine ends_calls (L := L + 1) (by omega) h6 (E := E) (fun g hg => ?_) (hnone _ _ _ _) (hσ _ _ _ _) (Nat.le_refl _) hargs
        rcases List.mem_cons.1 hg with rfl | hg
        · refine ⟨b, o, _, cells, el, fz, by simp [E, lawEnv], cellsUp_vals E (fun j => z (j - 10)) (6 * (L + 1)) 10 (fun j h3 h4 => ?_), h1, fun i hi => ?_⟩
          · simp only [E, lawEnv, lawRho]
            rw [if_neg (by omega), if_neg (by omega), if_neg (by omega), if_neg (by omega), if_neg (by omega), if_neg (by omega), if_neg (by omega)]
          · simp only [List.length_map, List.length_range] at hi
            rw [h2 i hi, List.getElem?_map, List.getElem?_range hi]
            simp
        · exact gv g hg
      · obtain ⟨m, rfl⟩ : ∃ m, L = m + 6 := ⟨L - 6, by omega⟩
        exact short_calls (short_many m) gv (hnone _ _ _ _) (hσ _ _ _ _) (Nat.le_refl _) hargs

end Go.Sx
