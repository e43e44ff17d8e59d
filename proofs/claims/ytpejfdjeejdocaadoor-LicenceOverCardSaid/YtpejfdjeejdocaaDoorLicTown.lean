/- A TOWN, OPENED. -/
import Derived.Test.YtpejfdjeejdocaaDoorLicE
import Derived.Test.YtpejfdjeejdocaaDoorSxOpen
import Derived.KernelRfl
/-! A TOWN, OPENED. -/
namespace Go.Sx
open Go.RowKit Go.Proofs
set_option maxRecDepth 100000
section
variable {H : Type} {enc : TypeId × Value → H} {W : World}
theorem add_none (b o k : Nat) : (Addr.mk b o none).add k = ⟨b, o + k, none⟩ := by
  unfold Addr.add
  split
  · rename_i h; subst h; rfl
  · rfl
theorem sl_open {t e : TypeId} {k n : Nat} (ht : Tryd.prog.underlying t = some (.slice e)) (hk : Tryd.prog.cellsOf e = k) (hk0 : 0 < k) (hfl : flatB Tryd.prog 5 e = true) {s : Value} {x0 : DataW H × List MemPlace}
    (f0 : DataW.trod enc Tryd.prog W 0 (fun _ => true) true n t [s] = some x0) (hs : s = .slice none 0 0 ∨ ∃ b o len cap, s = .slice (some ⟨b, o, none⟩) len cap ∧ len ≤ cap) : SlIn W k s := by
  rcases hs with rfl | ⟨b, o, len, cap, rfl, hlc⟩
  · exact ⟨none, 0, 0, fun _ => 0, rfl, Nat.le_refl _, fun h => by omega⟩
  · refine ⟨some ⟨b, o, none⟩, len, cap, fun q => match W.cell? ⟨b, o + q, none⟩ with | some (.int _ n) => n | _ => 0, rfl, hlc, fun hpos => ?_⟩
    have key : ∀ q, q < k * len → ∃ m, W.cell? ⟨b, o + q, none⟩ = some (.int .i64 m) := by
      rcases DataW.trod_slice ht f0 with ⟨h, _⟩ | ⟨a, len', cap', elems, rest, m, _, he, _, _, _, _, hel, hat, _⟩
      · simp at h
      · simp at he
        obtain ⟨rfl, rfl, rfl⟩ := he
        intro q hq
        have hi : q / k < len := Nat.div_lt_of_lt_mul hq
        have h1 := hat (q / k) hi
        rw [hk, add_none] at h1
        have hey : ∃ y, elems[q / k]? = some y := ⟨elems[q / k]'(by omega), List.getElem?_eq_getElem _⟩
        obtain ⟨y, hy⟩ := hey
        rw [hy, Option.bind_eq_some_iff] at h1
        obtain ⟨ci, h2, h3⟩ := h1
        obtain ⟨_, _, h4⟩ := flat_trod 5 e m ci y hfl h3
        obtain ⟨_, h5, h6⟩ := World.cells?_some h2
        have h7 := h6 (q % k) (Nat.mod_lt _ hk0)
        rw [add_none] at h7
        have hlt : q % k < ci.length := by rw [h5]; exact Nat.mod_lt _ hk0
        obtain ⟨mm, hm⟩ := h4 _ (List.getElem_mem hlt)
        refine ⟨mm, ?_⟩
        have hqk : o + q = o + q / k * k + q % k := by
          have := Nat.div_add_mod q k
          rw [Nat.mul_comm] at this
          omega
        rw [hqk, h7, List.getElem?_eq_getElem hlt, hm]
    obtain ⟨m0, hm0⟩ := key 0 (Nat.mul_pos hk0 hpos)
    unfold World.cell? at hm0
    split at hm0
    · rename_i cells el fz hh
      refine ⟨b, o, cells, el, fz, rfl, hh, fun q hq => ?_⟩
      obtain ⟨m, hm⟩ := key q hq
      have e : (match W.cell? ⟨b, o + q, none⟩ with | some (.int _ n) => n | _ => 0) = m := by rw [hm]
      show cells[o + q]? = some (.int .i64 (match W.cell? ⟨b, o + q, none⟩ with | some (.int _ n) => n | _ => 0))
      rw [e]
      unfold World.cell? at hm
      simp only [hh] at hm
      simpa using hm
    · cases hm0
theorem town_open {base : Nat} {v : Value} {d : DataW H} {p : List MemPlace} (h0 : DataW.Trod enc Tryd.prog W 0 (fun _ => true) true 26 v d p) (hv : Value.okWide Tryd.prog W .any base 26 v) :
    ∃ (sk sb sh : Value) (n0 n1 n2 : Int), v = .agg #[sk, .int .i64 n0, sb, .int .i64 n1, .int .i64 n2, sh] ∧ SlIn W 3 sk ∧ SlIn W 2 sb ∧ SlIn W 2 sh := by
  obtain ⟨cs, rfl, hl, hc⟩ := okRow (P := Tryd.prog) (ts := [22, 3, 23, 3, 3, 24]) (by rw [Tryd.underlying26]) (by kernel_rfl) (by kernel_rfl) hv
  match cs, hl, hc, h0 with
  | [sk, c1, sb, c3, c4, sh], _, hc, h0 =>
    obtain ⟨n0, rfl⟩ := okCell_int Tryd.underlying3 (hc 1 3 c1 rfl rfl)
    obtain ⟨n1, rfl⟩ := okCell_int Tryd.underlying3 (hc 3 3 c3 rfl rfl)
    obtain ⟨n2, rfl⟩ := okCell_int Tryd.underlying3 (hc 4 3 c4 rfl rfl)
    have hk := okCell_slice Tryd.underlying22 (hc 0 22 sk rfl rfl)
    have hb := okCell_slice Tryd.underlying23 (hc 2 23 sb rfl rfl)
    have hh := okCell_slice Tryd.underlying24 (hc 5 24 sh rfl rfl)
    obtain ⟨fuel, ht⟩ := h0
    have ht' : DataW.trod enc Tryd.prog W 0 (fun _ => true) true fuel 26 [sk, .int .i64 n0, sb, .int .i64 n1, .int .i64 n2, sh] = some (d, p) := ht
    obtain ⟨xs, n, rfl, hx, hcl, hxl, hxs⟩ := DataW.trod_struct Tryd.underlying26 ht'
    have at_ : ∀ i, i < 6 → ∃ x, xs[i]? = some x := fun i hi => ⟨xs[i]'(by rw [hxl]; exact hi), List.getElem?_eq_getElem _⟩
    obtain ⟨x0, hx0⟩ := at_ 0 (by omega)
    obtain ⟨x2, hx2⟩ := at_ 2 (by omega)
    obtain ⟨x5, hx5⟩ := at_ 5 (by omega)
    have f0 := hxs 0 _ rfl
    have f2 := hxs 2 _ rfl
    have f5 := hxs 5 _ rfl
    rw [hx0] at f0
    rw [hx2] at f2
    rw [hx5] at f5
    have c22 : Tryd.prog.cellsOf 22 = 1 := by kernel_rfl
    have c23 : Tryd.prog.cellsOf 23 = 1 := by kernel_rfl
    have c24 : Tryd.prog.cellsOf 24 = 1 := by kernel_rfl
    have g0 : DataW.trod enc Tryd.prog W 0 (fun _ => true) true n 22 (List.take (Tryd.prog.cellsOf 22) [sk, .int .i64 n0, sb, .int .i64 n1, .int .i64 n2, sh]) = some x0 := f0
    have g2 : DataW.trod enc Tryd.prog W 0 (fun _ => true) true n 23 (List.take (Tryd.prog.cellsOf 23) [sb, .int .i64 n1, .int .i64 n2, sh]) = some x2 := f2
    have g5 : DataW.trod enc Tryd.prog W 0 (fun _ => true) true n 24 (List.take (Tryd.prog.cellsOf 24) [sh]) = some x5 := f5
    rw [c22] at g0
    rw [c23] at g2
    rw [c24] at g5
    exact ⟨sk, sb, sh, n0, n1, n2, rfl, sl_open Tryd.underlying22 (by kernel_rfl) (by omega) (by kernel_rfl) g0 hk, sl_open Tryd.underlying23 (by kernel_rfl) (by omega) (by kernel_rfl) g2 hb, sl_open Tryd.underlying24 (by kernel_rfl) (by omega) (by kernel_rfl) g5 hh⟩
theorem four_open {base : Nat} {v : Value} (hv : Value.okWide Tryd.prog W .any base 67 v) : ∃ n0 n1 n2 n3 : Int, v = .agg #[.int .i64 n0, .int .i64 n1, .int .i64 n2, .int .i64 n3] := by
  obtain ⟨cs, rfl, hl, hc⟩ := okRow (P := Tryd.prog) (ts := [3, 3, 3, 3]) (by rw [Tryd.underlying67]) (by kernel_rfl) (by kernel_rfl) hv
  match cs, hl, hc with
  | [c1, c2, c3, c4], _, hc =>
    obtain ⟨n0, rfl⟩ := okCell_int Tryd.underlying3 (hc 0 3 c1 rfl rfl)
    obtain ⟨n1, rfl⟩ := okCell_int Tryd.underlying3 (hc 1 3 c2 rfl rfl)
    obtain ⟨n2, rfl⟩ := okCell_int Tryd.underlying3 (hc 2 3 c3 rfl rfl)
    obtain ⟨n3, rfl⟩ := okCell_int Tryd.underlying3 (hc 3 3 c4 rfl rfl)
    exact ⟨n0, n1, n2, n3, rfl⟩
end
end Go.Sx
