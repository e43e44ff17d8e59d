/- AN EVENING, AND A PLAN, OPENED. -/
import Derived.Test.YtegeacnehkpinaaDoorSxLawA
import Derived.Test.YtegeacnehkpinaaDoorTabFn
import Derived.Test.YtegeacnehkpinaaDoorSxOpen
import Derived.Test.YtegeacnehkpinaaDoorSxEvF
/-! THE LAW OF WHAT IS LEFT: its runs. -/
namespace Go.Sx
open Go.RowKit Go.Proofs
set_option maxRecDepth 100000
theorem lawX_10 : lawX 1 0 = true := by kernel_rfl
theorem lawX_20 : lawX 2 0 = true := by kernel_rfl
theorem lawX_21 : lawX 2 1 = true := by kernel_rfl
theorem lawX_30 : lawX 3 0 = true := by kernel_rfl
theorem lawX_31 : lawX 3 1 = true := by kernel_rfl
theorem lawX_32 : lawX 3 2 = true := by kernel_rfl
theorem lawX_40 : lawX 4 0 = true := by kernel_rfl
theorem lawX_41 : lawX 4 1 = true := by kernel_rfl
theorem lawX_42 : lawX 4 2 = true := by kernel_rfl
theorem lawX_43 : lawX 4 3 = true := by kernel_rfl
theorem lawX_50 : lawX 5 0 = true := by kernel_rfl
theorem lawX_51 : lawX 5 1 = true := by kernel_rfl
theorem lawX_52 : lawX 5 2 = true := by kernel_rfl
theorem lawX_53 : lawX 5 3 = true := by kernel_rfl
theorem lawX_54 : lawX 5 4 = true := by kernel_rfl
theorem outs_0 : varsT 110 isOut (leftU 0) = true := by kernel_rfl
theorem ends_0 : noFail (leftU 0) = true := by kernel_rfl
theorem outs_1 : varsT 110 isOut (leftU 1) = true := by kernel_rfl
theorem ends_1 : noFail (leftU 1) = true := by kernel_rfl
theorem outs_2 : varsT 110 isOut (leftU 2) = true := by kernel_rfl
theorem ends_2 : noFail (leftU 2) = true := by kernel_rfl
theorem outs_3 : varsT 110 isOut (leftU 3) = true := by kernel_rfl
theorem ends_3 : noFail (leftU 3) = true := by kernel_rfl
theorem outs_4 : varsT 110 isOut (leftU 4) = true := by kernel_rfl
theorem ends_4 : noFail (leftU 4) = true := by kernel_rfl
end Go.Sx
/-! AN EVENING, AND A PLAN, OPENED. -/
namespace Go.Sx
open Go.RowKit Go.Proofs
set_option maxRecDepth 100000

section
variable {H : Type} {enc : TypeId × Value → H} {W : World}

theorem add_none (b o k : Nat) : (Addr.mk b o none).add k = ⟨b, o + k, none⟩ := by
  unfold Addr.add
  split
  · rename_i h; subst h; rfl
  · rfl

/-- a slice, opened: its elements' cells -/
theorem slice_cells {t e m : Nat} (hu : Tryd.prog.underlying t = some (.slice e)) (hm : Tryd.prog.cellsOf e = m) (hm0 : 0 < m) {fuel b o len cap : Nat} {x0 : DataW H × List MemPlace}
    (f0 : DataW.trod enc Tryd.prog W 0 (fun _ => true) true fuel t [Value.slice (some ⟨b, o, none⟩) len cap] = some x0) (hpos : 0 < len) :
    ∃ cells el fz, W.heap[b]? = some (.cells cells el fz) ∧ ∀ i, i < len → ∃ ci n y, DataW.trod enc Tryd.prog W 0 (fun _ => true) true n e ci = some y ∧ ci.length = m ∧ ∀ q, q < m → cells[o + i * m + q]? = ci[q]? := by
  rcases DataW.trod_slice hu f0 with ⟨h, _⟩ | ⟨a, len', cap', elems, rest, n, _, he, _, _, _, _, hel, hat, _⟩
  · simp at h
  · simp at he
    obtain ⟨rfl, rfl, rfl⟩ := he
    have key : ∀ i, i < len → ∃ ci n y, DataW.trod enc Tryd.prog W 0 (fun _ => true) true n e ci = some y ∧ ci.length = m ∧ ∀ q, q < m → W.cell? ⟨b, o + i * m + q, none⟩ = ci[q]? := fun i hi => by
      have h1 := hat i hi
      rw [hm, add_none] at h1
      have hey : ∃ y, elems[i]? = some y := ⟨elems[i]'(by omega), List.getElem?_eq_getElem _⟩
      obtain ⟨y, hy⟩ := hey
      rw [hy, Option.bind_eq_some_iff] at h1
      obtain ⟨ci, h2, h3⟩ := h1
      obtain ⟨_, h5, h6⟩ := World.cells?_some h2
      exact ⟨ci, n, y, h3, h5, fun q hq => by have := h6 q hq; rw [add_none] at this; exact this⟩
    obtain ⟨ci, _, _, _, hl, h0⟩ := key 0 hpos
    have hm1 := h0 0 hm0
    rw [List.getElem?_eq_getElem (by omega)] at hm1
    unfold World.cell? at hm1
    split at hm1
    · rename_i cells el fz hh
      refine ⟨cells, el, fz, hh, fun i hi => ?_⟩
      obtain ⟨ci, n, y, h1, h2, h3⟩ := key i hi
      refine ⟨ci, n, y, h1, h2, fun q hq => ?_⟩
      have h4 := h3 q hq
      unfold World.cell? at h4
      simp only [hh] at h4
      rw [← h4]; simp
    · cases hm1

/-- a part's cells -/
theorem part_cells {fuel : Nat} {ci : List Value} {y : DataW H × List MemPlace} (h : DataW.trod enc Tryd.prog W 0 (fun _ => true) true fuel 66 ci = some y) :
    ∃ (a b : Int) (l : Bool) (w : Int), ci = [.int .i64 a, .int .i64 b, .bool l, .int .i64 w] := by
  obtain ⟨xs, n, rfl, _, hcl, hxl, hxs⟩ := DataW.trod_struct Tryd.underlying66 h
  have c66 : Tryd.prog.cellsOf 66 = 4 := by kernel_rfl
  have c23 : Tryd.prog.cellsOf 23 = 2 := by kernel_rfl
  have c4 : Tryd.prog.cellsOf 4 = 1 := by kernel_rfl
  have c3 : Tryd.prog.cellsOf 3 = 1 := by kernel_rfl
  rw [c66] at hcl
  have hx : ∀ i, i < 3 → ∃ x, xs[i]? = some x := fun i hi => ⟨xs[i]'(by rw [hxl]; exact hi), List.getElem?_eq_getElem _⟩
  match ci, hcl with
  | [v0, v1, v2, v3], _ =>
    obtain ⟨x0, e0⟩ := hx 0 (by omega)
    obtain ⟨x1, e1⟩ := hx 1 (by omega)
    obtain ⟨x2, e2⟩ := hx 2 (by omega)
    have f0 := hxs 0 _ rfl
    have f1 := hxs 1 _ rfl
    have f2 := hxs 2 _ rfl
    rw [e0] at f0; rw [e1] at f1; rw [e2] at f2
    have f0 : DataW.trod enc Tryd.prog W 0 (fun _ => true) true n 23 (List.take (Tryd.prog.cellsOf 23) [v0, v1, v2, v3]) = some x0 := f0
    have f1 : DataW.trod enc Tryd.prog W 0 (fun _ => true) true n 4 (List.take (Tryd.prog.cellsOf 4) [v2, v3]) = some x1 := f1
    have f2 : DataW.trod enc Tryd.prog W 0 (fun _ => true) true n 3 (List.take (Tryd.prog.cellsOf 3) [v3]) = some x2 := f2
    rw [c23] at f0; rw [c4] at f1; rw [c3] at f2
    obtain ⟨_, _, g0⟩ := flat_trod 5 23 n [v0, v1] x0 (by kernel_rfl) f0
    obtain ⟨l, g1, _⟩ := DataW.trod_bool Tryd.underlying4 f1
    obtain ⟨w, g2, _⟩ := DataW.trod_int Tryd.underlying3 f2
    obtain ⟨a, rfl⟩ := g0 v0 (by simp)
    obtain ⟨b, rfl⟩ := g0 v1 (by simp)
    simp at g1 g2
    obtain rfl := g1
    obtain rfl := g2
    exact ⟨a, b, l, w, rfl⟩
/-- a walk's cells -/
theorem walk_cells {fuel : Nat} {ci : List Value} {y : DataW H × List MemPlace} (h : DataW.trod enc Tryd.prog W 0 (fun _ => true) true fuel 64 ci = some y) (hl : ci.length = 2) : ∃ (a b : Int), ci = [.int .i64 a, .int .i64 b] := by
  obtain ⟨_, _, g⟩ := flat_trod 5 64 fuel ci y (by kernel_rfl) h
  match ci, hl with
  | [v0, v1], _ =>
    obtain ⟨a, rfl⟩ := g v0 (by simp)
    obtain ⟨b, rfl⟩ := g v1 (by simp)
    exact ⟨a, b, rfl⟩

def partAt (z : Nat → Int) (zb : Nat → Bool) (q : Nat) : Value := if q % 4 = 2 then .bool (zb q) else .int .i64 (z q)

/-- what can come in as the parts of an evening -/
def PartsIn (W : World) (s : Value) : Prop :=
  s = .slice none 0 0 ∨ ∃ (b o len cap : Nat) (z : Nat → Int) (zb : Nat → Bool), s = .slice (some ⟨b, o, none⟩) len cap ∧ len ≤ cap ∧
    (0 < len → ∃ cells el fz, W.heap[b]? = some (.cells cells el fz) ∧ ∀ q, q < 4 * len → cells[o + q]? = some (partAt z zb q))
/-- what can come in as a plan -/
def PlanIn (W : World) (s : Value) : Prop :=
  s = .slice none 0 0 ∨ ∃ (b o len cap : Nat) (z : Nat → Int), s = .slice (some ⟨b, o, none⟩) len cap ∧ len ≤ cap ∧
    (0 < len → ∃ cells el fz, W.heap[b]? = some (.cells cells el fz) ∧ ∀ q, q < 2 * len → cells[o + q]? = some (.int .i64 (z q)))

def intOf (v : Option Value) : Int := match v with
  | some (.int _ n) => n
  | _ => 0
def boolOf (v : Option Value) : Bool := match v with
  | some (.bool b) => b
  | _ => false

theorem parts_open {fuel : Nat} {s : Value} {x0 : DataW H × List MemPlace} (hs : s = .slice none 0 0 ∨ ∃ b o len cap, s = .slice (some ⟨b, o, none⟩) len cap ∧ len ≤ cap)
    (f0 : DataW.trod enc Tryd.prog W 0 (fun _ => true) true fuel 25 [s] = some x0) : PartsIn W s := by
  rcases hs with rfl | ⟨b, o, len, cap, rfl, hlc⟩
  · exact .inl rfl
  · by_cases hpos : 0 < len
    · obtain ⟨cells, el, fz, hh, hi⟩ := slice_cells Tryd.underlying25 (m := 4) (by kernel_rfl) (by omega) f0 hpos
      refine .inr ⟨b, o, len, cap, fun q => intOf cells[o + q]?, fun q => boolOf cells[o + q]?, rfl, hlc, fun _ => ⟨cells, el, fz, hh, fun q hq => ?_⟩⟩
      obtain ⟨ci, n, y, h1, h2, h3⟩ := hi (q / 4) (by omega)
      obtain ⟨a, b', l, w, rfl⟩ := part_cells h1
      have h4 := h3 (q % 4) (Nat.mod_lt _ (by omega))
      rw [show o + q / 4 * 4 + q % 4 = o + q by omega] at h4
      unfold partAt
      have hm : q % 4 = 0 ∨ q % 4 = 1 ∨ q % 4 = 2 ∨ q % 4 = 3 := by omega
      rcases hm with hm | hm | hm | hm <;> rw [hm] at h4 <;> simp [h4, hm, intOf, boolOf]
    · exact .inr ⟨b, o, len, cap, fun _ => 0, fun _ => false, rfl, hlc, fun h => (hpos h).elim⟩
theorem plan_open {fuel : Nat} {s : Value} {x0 : DataW H × List MemPlace} (hs : s = .slice none 0 0 ∨ ∃ b o len cap, s = .slice (some ⟨b, o, none⟩) len cap ∧ len ≤ cap)
    (f0 : DataW.trod enc Tryd.prog W 0 (fun _ => true) true fuel 28 [s] = some x0) : PlanIn W s := by
  rcases hs with rfl | ⟨b, o, len, cap, rfl, hlc⟩
  · exact .inl rfl
  · by_cases hpos : 0 < len
    · obtain ⟨cells, el, fz, hh, hi⟩ := slice_cells Tryd.underlying28 (m := 2) (by kernel_rfl) (by omega) f0 hpos
      refine .inr ⟨b, o, len, cap, fun q => intOf cells[o + q]?, rfl, hlc, fun _ => ⟨cells, el, fz, hh, fun q hq => ?_⟩⟩
      obtain ⟨ci, n, y, h1, h2, h3⟩ := hi (q / 2) (by omega)
      obtain ⟨a, b', rfl⟩ := walk_cells h1 h2
      have h4 := h3 (q % 2) (Nat.mod_lt _ (by omega))
      rw [show o + q / 2 * 2 + q % 2 = o + q by omega] at h4
      have hm : q % 2 = 0 ∨ q % 2 = 1 := by omega
      rcases hm with hm | hm <;> rw [hm] at h4 <;> simp [h4, intOf]
    · exact .inr ⟨b, o, len, cap, fun _ => 0, rfl, hlc, fun h => (hpos h).elim⟩

/-- a slice that comes in by itself -/
theorem okSlice {base : Nat} {t e : TypeId} {v : Value} (hu : Tryd.prog.underlying t = some (.slice e)) (hv : Value.okWide Tryd.prog W .any base t v) : v = .slice none 0 0 ∨ ∃ b o len cap, v = .slice (some ⟨b, o, none⟩) len cap ∧ len ≤ cap := by
  unfold Value.okWide at hv
  rw [hu] at hv
  exact okCell_slice hu hv
theorem plan_arg {base fuel : Nat} {v : Value} {x0 : DataW H × List MemPlace} (hv : Value.okWide Tryd.prog W .any base 28 v) (f : DataW.trod enc Tryd.prog W 0 (fun _ => true) true fuel 28 v.cells.toList = some x0) : PlanIn W v := by
  have hs := okSlice Tryd.underlying28 hv
  refine plan_open (enc := enc) hs (x0 := x0) (fuel := fuel) ?_
  rcases hs with rfl | ⟨b, o, len, cap, rfl, _⟩ <;> exact f
/-- the numbers of an evening, and its parts -/
theorem book_open {base : Nat} {v : Value} {d : DataW H} {p : List MemPlace} (h0 : DataW.Trod enc Tryd.prog W 0 (fun _ => true) true 27 v d p) (hv : Value.okWide Tryd.prog W .any base 27 v) :
    ∃ (nb : Nat → Int) (s : Value), v = .agg ((List.range 22).map (fun i => Value.int .i64 (nb i)) ++ [s]).toArray ∧ PartsIn W s := by
  obtain ⟨cs, rfl, hl, hc⟩ := okRow (P := Tryd.prog) (ts := [3, 3, 3, 3, 3, 3, 3, 3, 3, 3, 3, 3, 3, 3, 3, 3, 3, 3, 3, 3, 3, 3, 25]) (by rw [Tryd.underlying27]) (by kernel_rfl) (by kernel_rfl) hv
  have hl : cs.length = 23 := hl
  have hn : ∀ i, i < 22 → ∃ n, cs[i]? = some (.int .i64 n) := fun i hi => by
    have h1 : cs[i]? = some (cs[i]'(by omega)) := List.getElem?_eq_getElem _
    have h2 : ([3, 3, 3, 3, 3, 3, 3, 3, 3, 3, 3, 3, 3, 3, 3, 3, 3, 3, 3, 3, 3, 3, 25] : List TypeId)[i]? = some 3 := by
      have : ∀ i, i < 22 → ([3, 3, 3, 3, 3, 3, 3, 3, 3, 3, 3, 3, 3, 3, 3, 3, 3, 3, 3, 3, 3, 3, 25] : List TypeId)[i]? = some 3 := by decide
      exact this i hi
    obtain ⟨n, hn⟩ := okCell_int Tryd.underlying3 (hc i 3 _ h2 h1)
    exact ⟨n, by rw [h1, hn]⟩
  have hs1 : cs[22]? = some (cs[22]'(by omega)) := List.getElem?_eq_getElem _
  generalize cs[22]'(by omega) = s at hs1
  refine ⟨fun i => intOf cs[i]?, s, ?_, ?_⟩
  · congr 2
    apply List.ext_getElem?
    intro i
    by_cases hi : i < 22
    · obtain ⟨n, hn⟩ := hn i hi
      rw [hn, List.getElem?_append_left (by simpa using hi), List.getElem?_map, List.getElem?_range hi]
      simp [hn, intOf]
    · by_cases h22 : i = 22
      · subst h22; rw [hs1]; simp
      · rw [List.getElem?_eq_none (by omega), List.getElem?_eq_none (by simp; omega)]
  · obtain ⟨fuel, ht⟩ := h0
    obtain ⟨xs, n, rfl, _, hcl, hxl, hxs⟩ := DataW.trod_struct Tryd.underlying27 ht
    have f0 := hxs 12 _ rfl
    have hx0 : ∃ x0, xs[12]? = some x0 := ⟨xs[12]'(by rw [hxl]; decide), List.getElem?_eq_getElem _⟩
    obtain ⟨x0, hx0⟩ := hx0
    rw [hx0] at f0
    have c25 : Tryd.prog.cellsOf 25 = 1 := by kernel_rfl
    have f1 : DataW.trod enc Tryd.prog W 0 (fun _ => true) true n 25 (List.take (Tryd.prog.cellsOf 25) (cs.drop 22)) = some x0 := f0
    rw [c25] at f1
    have e : List.take 1 (cs.drop 22) = [s] := by
      rw [List.drop_eq_getElem_cons (by omega)]
      have : cs[22]'(by omega) = s := by
        have := List.getElem?_eq_getElem (l := cs) (i := 22) (by omega)
        rw [hs1] at this; exact (Option.some.inj this).symm
      simp [this]
    rw [e] at f1
    exact parts_open (okCell_slice Tryd.underlying25 (hc 22 25 s rfl hs1)) f1
theorem asked_open {base : Nat} {v : Value} (hv : Value.okWide Tryd.prog W .any base 29 v) : ∃ n0 n1 : Int, v = .agg #[.int .i64 n0, .int .i64 n1] := by
  obtain ⟨cs, rfl, hl, hc⟩ := okRow (P := Tryd.prog) (ts := [3, 3]) (by rw [Tryd.underlying29]) (by kernel_rfl) (by kernel_rfl) hv
  match cs, hl, hc with
  | [c1, c2], _, hc =>
    obtain ⟨n0, rfl⟩ := okCell_int Tryd.underlying3 (hc 0 3 c1 rfl rfl)
    obtain ⟨n1, rfl⟩ := okCell_int Tryd.underlying3 (hc 1 3 c2 rfl rfl)
    exact ⟨n0, n1, rfl⟩
end
end Go.Sx
