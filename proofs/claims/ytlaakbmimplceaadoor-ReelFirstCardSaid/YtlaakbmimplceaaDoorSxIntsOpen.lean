/- A PAIR AND A LIST OF INTEGERS, OPENED. -/
import Derived.Test.YtlaakbmimplceaaDoorSxFilmOpen
import Derived.ChangeSlices
/-! A PAIR AND A LIST OF INTEGERS, OPENED. -/
namespace Go.Sx
open Go.RowKit Go.Proofs Go.ChangeShapes
set_option maxRecDepth 100000
section
variable {H : Type} {enc : TypeId × Value → H} {W : World}

theorem pair_open {t : TypeId} (ht : Tryd.prog.underlying t = some (.array 2 3)) (hts : Tryd.prog.cellTypes Tryd.prog.depth t = some [3, 3]) (hl : ([3, 3] : List TypeId).length = Tryd.prog.cellsOf t) {base : Nat} {v : Value} (hv : Value.okWide Tryd.prog W .any base t v) : ∃ n0 n1 : Int, v = .agg #[.int .i64 n0, .int .i64 n1] := by
  obtain ⟨cs, rfl, hl, hc⟩ := okRow (P := Tryd.prog) (ts := [3, 3]) (by rw [ht]) hts hl hv
  match cs, hl, hc with
  | [c1, c2], _, hc =>
    obtain ⟨n0, rfl⟩ := okCell_int Tryd.underlying3 (hc 0 3 c1 rfl rfl)
    obtain ⟨n1, rfl⟩ := okCell_int Tryd.underlying3 (hc 1 3 c2 rfl rfl)
    exact ⟨n0, n1, rfl⟩

theorem ints_open {t : TypeId} (ht : Tryd.prog.underlying t = some (.slice 3)) (hc : Tryd.prog.cellsOf 3 = 1) {base : Nat} {v : Value} {d : DataW H} {p : List MemPlace} (h0 : DataW.Trod enc Tryd.prog W 0 (fun _ => true) true t v d p) (hv : Value.okWide Tryd.prog W .any base t v) :
    ∃ (bb : Option Addr) (bl bc : Nat) (y : Nat → Int), v = .slice bb bl bc ∧ (bl : Int) ≤ 9223372036854775807 ∧ bl ≤ bc ∧
      (0 < bl → ∃ c x cells el fz, bb = some ⟨c, x, none⟩ ∧ W.heap[c]? = some (.cells cells el fz) ∧ ∀ q, q < bl → cells[x + q]? = some (.int .i64 (y q))) := by
  unfold Value.okWide at hv
  rw [ht] at hv
  have hs := okCell_slice ht hv
  obtain ⟨fuel, f⟩ := h0
  have f1 : DataW.trod enc Tryd.prog W 0 (fun _ => true) true fuel t [v] = some (d, p) := by
    rcases hs with rfl | ⟨b, o, len, cap, rfl, _⟩ <;> exact f
  rcases open_ints ht Tryd.underlying3 hc f1 with ⟨h1, _⟩ | ⟨a, len, cap, zs, h1, _, hlc, hm, hz, _, hcell, _⟩
  · obtain rfl : v = .slice none 0 0 := by simpa using h1
    exact ⟨none, 0, 0, fun _ => 0, rfl, by omega, Nat.le_refl _, fun h => by omega⟩
  · obtain rfl : v = .slice (some a) len cap := by simpa using h1
    rcases hs with h | ⟨b, o, l', c', h, _⟩
    · cases h
    · obtain ⟨e1, rfl, rfl⟩ : some a = some ⟨b, o, none⟩ ∧ len = l' ∧ cap = c' := by simpa using h
      obtain rfl := Option.some.inj e1
      have hm' : (len : Int) ≤ 9223372036854775807 := by
        have : maxLen = 9223372036854775807 := by decide
        omega
      have hlz : len ≤ zs.length := by rw [hz]; simpa using hlc
      refine ⟨some ⟨b, o, none⟩, len, cap, fun q => zs.getD q 0, rfl, hm', hlc, fun hpos => ?_⟩
      have c0 := hcell 0 (by omega)
      rw [add_none] at c0
      unfold World.cell? at c0
      split at c0
      · rename_i cells el fz hh
        refine ⟨b, o, cells, el, fz, rfl, hh, fun q hq => ?_⟩
        have cq := hcell q (by omega)
        rw [add_none] at cq
        unfold World.cell? at cq
        simp only [hh] at cq
        simpa using cq
      · cases c0
end
end Go.Sx
