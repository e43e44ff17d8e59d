/- A PAIR AND A LIST OF INTEGERS, OPENED. -/
import Derived.Test.YtanhchkdglglhaaDoorSpTabFn
import Derived.Test.YtanhchkdglglhaaDoorSpSxOpen
import Derived.KernelRfl
import Derived.ChangeSlices
/-! A FILM, OPENED. -/
namespace Go.Sx
open Go.RowKit Go.Proofs
set_option maxRecDepth 100000
/-! ## A film, opened -/
section
variable {H : Type} {enc : TypeId × Value → H} {W : World}

theorem add_none (b o k : Nat) : (Addr.mk b o none).add k = ⟨b, o + k, none⟩ := by
  unfold Addr.add
  split
  · rename_i h; subst h; rfl
  · rfl

theorem film_open {base : Nat} {v : Value} {d : DataW H} {p : List MemPlace} (h0 : DataW.Trod enc Tryd.prog W 0 (fun _ => true) true 26 v d p) (hv : Value.okWide Tryd.prog W .any base 26 v) :
    ∃ (s : Value) (n0 n1 n2 n3 n4 : Int), v = .agg #[s, .int .i64 n0, .int .i64 n1, .int .i64 n2, .int .i64 n3, .int .i64 n4] ∧
      (s = .slice none 0 0 ∨ ∃ (b o len cap : Nat) (z : Nat → Int), s = .slice (some ⟨b, o, none⟩) len cap ∧ len ≤ cap ∧
        (0 < len → ∃ cells el fz, W.heap[b]? = some (.cells cells el fz) ∧ ∀ q, q < 6 * len → cells[o + q]? = some (.int .i64 (z q)))) := by
  obtain ⟨cs, rfl, hl, hc⟩ := okRow (P := Tryd.prog) (ts := [22, 3, 3, 3, 3, 3]) (by rw [Tryd.underlying26]) (by kernel_rfl) (by kernel_rfl) hv
  match cs, hl, hc, h0 with
  | [s, c1, c2, c3, c4, c5], _, hc, h0 =>
    obtain ⟨n0, rfl⟩ := okCell_int Tryd.underlying3 (hc 1 3 c1 rfl rfl)
    obtain ⟨n1, rfl⟩ := okCell_int Tryd.underlying3 (hc 2 3 c2 rfl rfl)
    obtain ⟨n2, rfl⟩ := okCell_int Tryd.underlying3 (hc 3 3 c3 rfl rfl)
    obtain ⟨n3, rfl⟩ := okCell_int Tryd.underlying3 (hc 4 3 c4 rfl rfl)
    obtain ⟨n4, rfl⟩ := okCell_int Tryd.underlying3 (hc 5 3 c5 rfl rfl)
    refine ⟨s, n0, n1, n2, n3, n4, rfl, ?_⟩
    rcases okCell_slice Tryd.underlying22 (hc 0 22 s rfl rfl) with rfl | ⟨b, o, len, cap, rfl, hlc⟩
    · exact .inl rfl
    · right
      obtain ⟨fuel, ht⟩ := h0
      obtain ⟨xs, n, rfl, hx, hcl, hxl, hxs⟩ := DataW.trod_struct Tryd.underlying26 ht
      have f0 := hxs 0 _ rfl
      have c22 : Tryd.prog.cellsOf 22 = 1 := by kernel_rfl
      have c66 : Tryd.prog.cellsOf 66 = 6 := by kernel_rfl
      have hx0 : ∃ x0, xs[0]? = some x0 := ⟨xs[0]'(by rw [hxl]; exact Nat.zero_lt_succ _), List.getElem?_eq_getElem _⟩
      obtain ⟨x0, hx0⟩ := hx0
      rw [hx0] at f0
      have f1 : DataW.trod enc Tryd.prog W 0 (fun _ => true) true n 22 (List.take (Tryd.prog.cellsOf 22) [Value.slice (some ⟨b, o, none⟩) len cap, .int .i64 n0, .int .i64 n1, .int .i64 n2, .int .i64 n3, .int .i64 n4]) = some x0 := f0
      rw [c22] at f1
      have f0 : DataW.trod enc Tryd.prog W 0 (fun _ => true) true n 22 [Value.slice (some ⟨b, o, none⟩) len cap] = some x0 := f1
      refine ⟨b, o, len, cap, fun q => match W.cell? ⟨b, o + q, none⟩ with | some (.int _ n) => n | _ => 0, rfl, hlc, fun hpos => ?_⟩
      have key : ∀ q, q < 6 * len → ∃ m, W.cell? ⟨b, o + q, none⟩ = some (.int .i64 m) := by
        rcases DataW.trod_slice Tryd.underlying22 f0 with ⟨h, _⟩ | ⟨a, len', cap', elems, rest, m, _, he, _, _, _, _, hel, hat, _⟩
        · simp at h
        · simp at he
          obtain ⟨rfl, rfl, rfl⟩ := he
          intro q hq
          have hi : q / 6 < len := by omega
          have h1 := hat (q / 6) hi
          rw [c66, add_none] at h1
          have hey : ∃ y, elems[q / 6]? = some y := ⟨elems[q / 6]'(by omega), List.getElem?_eq_getElem _⟩
          obtain ⟨y, hy⟩ := hey
          rw [hy, Option.bind_eq_some_iff] at h1
          obtain ⟨ci, h2, h3⟩ := h1
          obtain ⟨_, _, h4⟩ := flat_trod 5 66 m ci y (by kernel_rfl) h3
          obtain ⟨_, h5, h6⟩ := World.cells?_some h2
          have h7 := h6 (q % 6) (Nat.mod_lt _ (by omega))
          rw [add_none] at h7
          have hlt : q % 6 < ci.length := by rw [h5]; exact Nat.mod_lt _ (by omega)
          obtain ⟨mm, hm⟩ := h4 _ (List.getElem_mem hlt)
          refine ⟨mm, ?_⟩
          rw [show o + q = o + q / 6 * 6 + q % 6 by omega, h7, List.getElem?_eq_getElem hlt, hm]
      obtain ⟨m0, hm0⟩ := key 0 (by omega)
      unfold World.cell? at hm0
      split at hm0
      · rename_i cells el fz hh
        refine ⟨cells, el, fz, hh, fun q hq => ?_⟩
        obtain ⟨m, hm⟩ := key q hq
        have e : (match W.cell? ⟨b, o + q, none⟩ with | some (.int _ n) => n | _ => 0) = m := by rw [hm]
        show cells[o + q]? = some (.int .i64 (match W.cell? ⟨b, o + q, none⟩ with | some (.int _ n) => n | _ => 0))
        rw [e]
        unfold World.cell? at hm
        simp only [hh] at hm
        simpa using hm
      · cases hm0

theorem triple_open {base : Nat} {v : Value} (hv : Value.okWide Tryd.prog W .any base 41 v) : ∃ n0 n1 n2 : Int, v = .agg #[.int .i64 n0, .int .i64 n1, .int .i64 n2] := by
  obtain ⟨cs, rfl, hl, hc⟩ := okRow (P := Tryd.prog) (ts := [3, 3, 3]) (by rw [Tryd.underlying41]) (by kernel_rfl) (by kernel_rfl) hv
  match cs, hl, hc with
  | [c1, c2, c3], _, hc =>
    obtain ⟨n0, rfl⟩ := okCell_int Tryd.underlying3 (hc 0 3 c1 rfl rfl)
    obtain ⟨n1, rfl⟩ := okCell_int Tryd.underlying3 (hc 1 3 c2 rfl rfl)
    obtain ⟨n2, rfl⟩ := okCell_int Tryd.underlying3 (hc 2 3 c3 rfl rfl)
    exact ⟨n0, n1, n2, rfl⟩
end
end Go.Sx
/-! A PAIR AND A LIST OF INTEGERS, OPENED. -/
namespace Go.Sx
open Go.RowKit Go.Proofs Go.ChangeShapes
set_option maxRecDepth 100000
section
variable {H : Type} {enc : TypeId × Value → H} {W : World}

theorem pair_open {t : TypeId} (ht : Tryd.prog.underlying t = some (.array 2 3)) (hts : Tryd.prog.cellTypes Tryd.prog.depth t = some [3, 3]) (hl : ([3, 3] : List TypeId).length = Tryd.prog.cellsOf t) {base : Nat} {v : Value} (hv : Value.okWide Tryd.prog W .any base t v) : ∃ n0 n1 : Int, v = .agg #[.int .i64 n0, .int .i64 n1] := by
  obtain ⟨cs, rfl, hl, hc⟩ := okRow (P := Tryd.prog) (ts := [3, 3]) (by rw [ht]) hts hl hv
  match cs, hl, hc with
  | [c1, c2], _, hc =>
    obtain ⟨n0, rfl⟩ := okCell_int Tryd.underlying3 (hc 0 3 c1 rfl rfl)
    obtain ⟨n1, rfl⟩ := okCell_int Tryd.underlying3 (hc 1 3 c2 rfl rfl)
    exact ⟨n0, n1, rfl⟩

theorem ints_open {t : TypeId} (ht : Tryd.prog.underlying t = some (.slice 3)) (hc : Tryd.prog.cellsOf 3 = 1) {base : Nat} {v : Value} {d : DataW H} {p : List MemPlace} (h0 : DataW.Trod enc Tryd.prog W 0 (fun _ => true) true t v d p) (hv : Value.okWide Tryd.prog W .any base t v) :
    ∃ (bb : Option Addr) (bl bc : Nat) (y : Nat → Int), v = .slice bb bl bc ∧ (bl : Int) ≤ 9223372036854775807 ∧ bl ≤ bc ∧
      (0 < bl → ∃ c x cells el fz, bb = some ⟨c, x, none⟩ ∧ W.heap[c]? = some (.cells cells el fz) ∧ ∀ q, q < bl → cells[x + q]? = some (.int .i64 (y q))) := by
  unfold Value.okWide at hv
  rw [ht] at hv
  have hs := okCell_slice ht hv
  obtain ⟨fuel, f⟩ := h0
  have f1 : DataW.trod enc Tryd.prog W 0 (fun _ => true) true fuel t [v] = some (d, p) := by
    rcases hs with rfl | ⟨b, o, len, cap, rfl, _⟩ <;> exact f
  rcases open_ints ht Tryd.underlying3 hc f1 with ⟨h1, _⟩ | ⟨a, len, cap, zs, h1, _, hlc, hm, hz, _, hcell, _⟩
  · obtain rfl : v = .slice none 0 0 := by simpa using h1
    exact ⟨none, 0, 0, fun _ => 0, rfl, by omega, Nat.le_refl _, fun h => by omega⟩
  · obtain rfl : v = .slice (some a) len cap := by simpa using h1
    rcases hs with h | ⟨b, o, l', c', h, _⟩
    · cases h
    · obtain ⟨e1, rfl, rfl⟩ : some a = some ⟨b, o, none⟩ ∧ len = l' ∧ cap = c' := by simpa using h
      obtain rfl := Option.some.inj e1
      have hm' : (len : Int) ≤ 9223372036854775807 := by
        have : maxLen = 9223372036854775807 := by decide
        omega
      have hlz : len ≤ zs.length := by rw [hz]; simpa using hlc
      refine ⟨some ⟨b, o, none⟩, len, cap, fun q => zs.getD q 0, rfl, hm', hlc, fun hpos => ?_⟩
      have c0 := hcell 0 (by omega)
      rw [add_none] at c0
      unfold World.cell? at c0
      split at c0
      · rename_i cells el fz hh
        refine ⟨b, o, cells, el, fz, rfl, hh, fun q hq => ?_⟩
        have cq := hcell q (by omega)
        rw [add_none] at cq
        unfold World.cell? at cq
        simp only [hh] at cq
        simpa using cq
      · cases c0
end
end Go.Sx
