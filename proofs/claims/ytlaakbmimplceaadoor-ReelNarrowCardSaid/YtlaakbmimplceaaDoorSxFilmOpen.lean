/- A FILM, OPENED. -/
import Derived.ProofKit
import Derived.LaidMore
import Derived.OpenShut
import Derived.Carry
import Derived.OpenVars
import Derived.Test.YtlaakbmimplceaaDoorSxView
import Derived.Test.YtlaakbmimplceaaDoorTabFn
import Derived.KernelRfl
/-! WHAT COMES IN, OPENED: numbers, structs and arrays of numbers, slices of them. -/
namespace Go.Sx
open Go.RowKit

/-! ## Types of plain numbers -/
def flatB (P : Program) : Nat → TypeId → Bool
  | 0, _ => false
  | n + 1, t => match P.underlying t with
    | some (.int .i64) => true
    | some (.struct fs) => flatF P (flatB P n) fs.toList 0 (P.cellsOf t)
    | some (.array k e) => and (flatB P n e) (Nat.beq (k * P.cellsOf e) (P.cellsOf t))
    | _ => false
where
  flatF (P : Program) (g : TypeId → Bool) : List Field → Nat → Nat → Bool
    | [], off, tot => Nat.beq off tot
    | f :: fs, off, tot => and (and (Nat.beq f.offset off) (g f.type)) (flatF P g fs (off + P.cellsOf f.type) tot)

mutual
def leavesD {H : Type} : DataW H → List Value
  | .lit (.int k n) => [.int k n]
  | .agg xs => leavesL xs
  | _ => []
def leavesL {H : Type} : List (DataW H) → List Value
  | [] => []
  | x :: xs => leavesD x ++ leavesL xs
end

section
variable {H : Type} {enc : TypeId × Value → H} {P : Program} {w : World} {base : Nat} {spare : Nat → Bool} {held : Bool}

theorem flat_fields {g : TypeId → Bool} {m : Nat} (hg : ∀ t cs x, g t = true → DataW.trod enc P w base spare held m t cs = some x → cs = leavesD x.1 ∧ x.2 = [] ∧ (∀ v ∈ cs, ∃ n, v = .int .i64 n)) {cs : List Value} :
    ∀ (fs : List Field) (xs : List (DataW H × List MemPlace)) (off : Nat), xs.length = fs.length → flatB.flatF P g fs off cs.length = true → (∀ (i : Nat) (f : Field), fs[i]? = some f → DataW.trod enc P w base spare held m f.type ((cs.drop f.offset).take (P.cellsOf f.type)) = xs[i]?) →
      cs.drop off = leavesL (xs.map (·.1)) ∧ xs.flatMap (·.2) = [] ∧ (∀ v ∈ cs.drop off, ∃ n, v = .int .i64 n)
  | [], xs, off, hl, hf, _ => by
    cases xs with
    | cons x xs => simp at hl
    | nil =>
      have : off = cs.length := beq_t.1 hf
      subst this
      simp [leavesL]
  | f :: fs, [], off, hl, _, _ => by simp at hl
  | f :: fs, x :: xs, off, hl, hf, hx => by
    simp only [flatB.flatF, Bool.and_eq_true] at hf
    obtain ⟨⟨h1, h2⟩, h3⟩ := hf
    have h1 := beq_t.1 h1
    have hx0 := hx 0 f rfl
    simp only [List.getElem?_cons_zero] at hx0
    rw [h1] at hx0
    obtain ⟨g1, g2, g3⟩ := hg f.type _ x h2 hx0
    obtain ⟨r1, r2, r3⟩ := flat_fields hg fs xs (off + P.cellsOf f.type) (by simpa using hl) h3 (fun i f' hf' => by simpa using hx (i + 1) f' (by simpa using hf'))
    have split : cs.drop off = (cs.drop off).take (P.cellsOf f.type) ++ cs.drop (off + P.cellsOf f.type) := by
      rw [← List.drop_drop, List.take_append_drop]
    refine ⟨?_, by simp [g2, r2], fun v hv => ?_⟩
    · rw [split, r1]
      simp only [List.map_cons, leavesL]
      rw [← g1]
    · rw [split] at hv
      rcases List.mem_append.1 hv with hv | hv
      · exact g3 v hv
      · exact r3 v hv

theorem flat_array {m k e : Nat} {cs : List Value} (hg : ∀ cs x, DataW.trod enc P w base spare held m e cs = some x → cs = leavesD x.1 ∧ x.2 = [] ∧ (∀ v ∈ cs, ∃ n, v = .int .i64 n)) :
    ∀ (r : Nat) (xs : List (DataW H × List MemPlace)), xs.length = r → r ≤ k → cs.length = k * P.cellsOf e → (∀ i, i < r → DataW.trod enc P w base spare held m e ((cs.drop ((k - r + i) * P.cellsOf e)).take (P.cellsOf e)) = xs[i]?) →
      cs.drop ((k - r) * P.cellsOf e) = leavesL (xs.map (·.1)) ∧ xs.flatMap (·.2) = [] ∧ (∀ v ∈ cs.drop ((k - r) * P.cellsOf e), ∃ n, v = .int .i64 n)
  | 0, xs, hl, _, hc, _ => by
    cases xs with
    | cons x xs => simp at hl
    | nil => rw [Nat.sub_zero, List.drop_eq_nil_of_le (by omega)]; simp [leavesL]
  | r + 1, [], hl, _, _, _ => by simp at hl
  | r + 1, x :: xs, hl, hr, hc, hx => by
    have hx0 := hx 0 (by omega)
    simp only [List.getElem?_cons_zero, Nat.add_zero] at hx0
    obtain ⟨g1, g2, g3⟩ := hg _ x hx0
    obtain ⟨r1, r2, r3⟩ := flat_array hg r xs (by simpa using hl) (by omega) hc (fun i hi => by
      have := hx (i + 1) (by omega)
      rw [show k - (r + 1) + (i + 1) = k - r + i by omega] at this
      simpa using this)
    have e1 : (k - (r + 1)) * P.cellsOf e + P.cellsOf e = (k - r) * P.cellsOf e := by
      rw [show k - r = (k - (r + 1)) + 1 by omega, Nat.add_mul, Nat.one_mul]
    have split : cs.drop ((k - (r + 1)) * P.cellsOf e) = (cs.drop ((k - (r + 1)) * P.cellsOf e)).take (P.cellsOf e) ++ cs.drop ((k - r) * P.cellsOf e) := by
      rw [← e1, ← List.drop_drop, List.take_append_drop]
    refine ⟨?_, by simp [g2, r2], fun v hv => ?_⟩
    · rw [split, r1]
      simp only [List.map_cons, leavesL]
      rw [← g1]
    · rw [split] at hv
      rcases List.mem_append.1 hv with hv | hv
      · exact g3 v hv
      · exact r3 v hv

/-- what is read of a type of plain numbers is what lies there -/
theorem flat_trod : ∀ (n : Nat) (t : TypeId) (fuel : Nat) (cs : List Value) (x : DataW H × List MemPlace), flatB P n t = true → DataW.trod enc P w base spare held fuel t cs = some x → cs = leavesD x.1 ∧ x.2 = [] ∧ (∀ v ∈ cs, ∃ n, v = .int .i64 n)
  | 0, t, fuel, cs, x, h, _ => by cases h
  | n + 1, t, fuel, cs, x, h, k => by
    unfold flatB at h
    split at h
    · rename_i hu
      obtain ⟨z, rfl, rfl, _⟩ := DataW.trod_int hu k
      exact ⟨rfl, rfl, fun v hv => ⟨z, List.mem_singleton.1 hv⟩⟩
    · rename_i fs hu
      obtain ⟨xs, m, rfl, rfl, hl, hxl, hx⟩ := DataW.trod_struct hu k
      rw [← hl] at h
      obtain ⟨r1, r2, r3⟩ := flat_fields (m := m) (g := flatB P n) (fun t cs x h k => flat_trod n t m cs x h k) fs.toList xs 0 (by simpa using hxl) h (fun i f hf => hx i f (by simpa using hf))
      exact ⟨by simpa [leavesD] using r1, r2, by simpa using r3⟩
    · rename_i k' e hu
      rw [Bool.and_eq_true] at h
      obtain ⟨xs, m, rfl, rfl, hl, hxl, hx⟩ := DataW.trod_array hu k
      have hc := beq_t.1 h.2
      obtain ⟨r1, r2, r3⟩ := flat_array (m := m) (k := k') (e := e) (fun cs x k => flat_trod n e m cs x h.1 k) k' xs hxl (Nat.le_refl _) (by rw [hl, hc]) (fun i hi => by rw [Nat.sub_self, Nat.zero_add]; exact hx i hi)
      rw [Nat.sub_self, Nat.zero_mul] at r1 r3
      exact ⟨by simpa [leavesD] using r1, r2, by simpa using r3⟩
    · cases h
end

/-! ## Cells -/
theorem okCell_int {P : Program} {w : World} {r : Reach} {base : Nat} {u : TypeId} {v : Value} (hu : P.underlying u = some (.int .i64)) (h : Cell.okWide P w r base u v) : ∃ n, v = .int .i64 n := by
  unfold Cell.okWide at h
  rw [hu] at h
  have h' : Cell.ok P w r base u v := by
    revert h
    cases v <;> exact fun h => h
  unfold Cell.ok at h'
  rw [hu] at h'
  split at h' <;> simp_all

theorem okCell_slice {P : Program} {w : World} {r : Reach} {base : Nat} {u e : TypeId} {v : Value} (hu : P.underlying u = some (.slice e)) (h : Cell.okWide P w r base u v) :
    v = .slice none 0 0 ∨ ∃ b o len cap, v = .slice (some ⟨b, o, none⟩) len cap ∧ len ≤ cap := by
  unfold Cell.okWide at h
  rw [hu] at h
  have h' : Cell.ok P w r base u v := by
    revert h
    cases v <;> exact fun h => h
  clear h
  unfold Cell.ok at h'
  rw [hu] at h'
  cases v with
  | slice a len cap =>
    cases a with
    | none =>
      cases len with
      | zero => cases cap with
        | zero => exact .inl rfl
        | succ c => exact h'.elim
      | succ l => exact h'.elim
    | some a =>
      obtain ⟨h1, _, _, h4, _⟩ := h'
      refine .inr ⟨a.block, a.off, len, cap, ?_, h1⟩
      cases a
      simp_all
  | _ => exact h'.elim

/-- the cells of a struct or an array, by their types -/
theorem okRow {P : Program} {w : World} {r : Reach} {base : Nat} {t : TypeId} {v : Value} {ts : List TypeId} (hagg : (match P.underlying t with | some (.struct _) => true | some (.array _ _) => true | _ => false) = true) (hts : P.cellTypes P.depth t = some ts) (hlen : ts.length = P.cellsOf t)
    (h : Value.okWide P w r base t v) : ∃ cs : List Value, v = .agg cs.toArray ∧ cs.length = ts.length ∧ ∀ (i : Nat) (u : TypeId) (x : Value), ts[i]? = some u → cs[i]? = some x → Cell.okWide P w r base u x := by
  have h' : ∃ cs, v = .agg cs ∧ cs.size = P.cellsOf t ∧ Row.okWide P w r base t cs := by
    unfold Value.okWide at h
    split at h
    · exact h
    · exact h
    · rename_i h1 h2
      exfalso
      split at hagg
      · rename_i fs hu; exact h1 fs hu
      · rename_i n e hu; exact h2 n e hu
      · cases hagg
  obtain ⟨cs, rfl, hsz, ts', hts', _, hc⟩ := h'
  rw [hts] at hts'
  cases hts'
  refine ⟨cs.toList, rfl, by simp [hsz, hlen], fun i u x hu hx => ?_⟩
  have hi : i < ts.length := (List.getElem?_eq_some_iff.1 hu).1
  obtain ⟨u', h1, h2⟩ := hc i x (by simpa using hx)
  rw [Nat.mod_eq_of_lt hi, hu] at h1
  cases h1
  exact h2

end Go.Sx
/-! A FILM, OPENED. -/
namespace Go.Sx
open Go.RowKit Go.Proofs
set_option maxRecDepth 100000
/-! ## A film, opened -/
section
variable {H : Type} {enc : TypeId × Value → H} {W : World}

theorem add_none (b o k : Nat) : (Addr.mk b o none).add k = ⟨b, o + k, none⟩ := by
  unfold Addr.add
  split
  · rename_i h; subst h; rfl
  · rfl

theorem film_open {base : Nat} {v : Value} {d : DataW H} {p : List MemPlace} (h0 : DataW.Trod enc Tryd.prog W 0 (fun _ => true) true 26 v d p) (hv : Value.okWide Tryd.prog W .any base 26 v) :
    ∃ (s : Value) (n0 n1 n2 n3 n4 : Int), v = .agg #[s, .int .i64 n0, .int .i64 n1, .int .i64 n2, .int .i64 n3, .int .i64 n4] ∧
      (s = .slice none 0 0 ∨ ∃ (b o len cap : Nat) (z : Nat → Int), s = .slice (some ⟨b, o, none⟩) len cap ∧ len ≤ cap ∧
        (0 < len → ∃ cells el fz, W.heap[b]? = some (.cells cells el fz) ∧ ∀ q, q < 6 * len → cells[o + q]? = some (.int .i64 (z q)))) := by
  obtain ⟨cs, rfl, hl, hc⟩ := okRow (P := Tryd.prog) (ts := [22, 3, 3, 3, 3, 3]) (by rw [Tryd.underlying26]) (by kernel_rfl) (by kernel_rfl) hv
  match cs, hl, hc, h0 with
  | [s, c1, c2, c3, c4, c5], _, hc, h0 =>
    obtain ⟨n0, rfl⟩ := okCell_int Tryd.underlying3 (hc 1 3 c1 rfl rfl)
    obtain ⟨n1, rfl⟩ := okCell_int Tryd.underlying3 (hc 2 3 c2 rfl rfl)
    obtain ⟨n2, rfl⟩ := okCell_int Tryd.underlying3 (hc 3 3 c3 rfl rfl)
    obtain ⟨n3, rfl⟩ := okCell_int Tryd.underlying3 (hc 4 3 c4 rfl rfl)
    obtain ⟨n4, rfl⟩ := okCell_int Tryd.underlying3 (hc 5 3 c5 rfl rfl)
    refine ⟨s, n0, n1, n2, n3, n4, rfl, ?_⟩
    rcases okCell_slice Tryd.underlying22 (hc 0 22 s rfl rfl) with rfl | ⟨b, o, len, cap, rfl, hlc⟩
    · exact .inl rfl
    · right
      obtain ⟨fuel, ht⟩ := h0
      obtain ⟨xs, n, rfl, hx, hcl, hxl, hxs⟩ := DataW.trod_struct Tryd.underlying26 ht
      have f0 := hxs 0 _ rfl
      have c22 : Tryd.prog.cellsOf 22 = 1 := by kernel_rfl
      have c66 : Tryd.prog.cellsOf 53 = 6 := by kernel_rfl
      have hx0 : ∃ x0, xs[0]? = some x0 := ⟨xs[0]'(by rw [hxl]; exact Nat.zero_lt_succ _), List.getElem?_eq_getElem _⟩
      obtain ⟨x0, hx0⟩ := hx0
      rw [hx0] at f0
      have f1 : DataW.trod enc Tryd.prog W 0 (fun _ => true) true n 22 (List.take (Tryd.prog.cellsOf 22) [Value.slice (some ⟨b, o, none⟩) len cap, .int .i64 n0, .int .i64 n1, .int .i64 n2, .int .i64 n3, .int .i64 n4]) = some x0 := f0
      rw [c22] at f1
      have f0 : DataW.trod enc Tryd.prog W 0 (fun _ => true) true n 22 [Value.slice (some ⟨b, o, none⟩) len cap] = some x0 := f1
      refine ⟨b, o, len, cap, fun q => match W.cell? ⟨b, o + q, none⟩ with | some (.int _ n) => n | _ => 0, rfl, hlc, fun hpos => ?_⟩
      have key : ∀ q, q < 6 * len → ∃ m, W.cell? ⟨b, o + q, none⟩ = some (.int .i64 m) := by
        rcases DataW.trod_slice Tryd.underlying22 f0 with ⟨h, _⟩ | ⟨a, len', cap', elems, rest, m, _, he, _, _, _, _, hel, hat, _⟩
        · simp at h
        · simp at he
          obtain ⟨rfl, rfl, rfl⟩ := he
          intro q hq
          have hi : q / 6 < len := by omega
          have h1 := hat (q / 6) hi
          rw [c66, add_none] at h1
          have hey : ∃ y, elems[q / 6]? = some y := ⟨elems[q / 6]'(by omega), List.getElem?_eq_getElem _⟩
          obtain ⟨y, hy⟩ := hey
          rw [hy, Option.bind_eq_some_iff] at h1
          obtain ⟨ci, h2, h3⟩ := h1
          obtain ⟨_, _, h4⟩ := flat_trod 5 53 m ci y (by kernel_rfl) h3
          obtain ⟨_, h5, h6⟩ := World.cells?_some h2
          have h7 := h6 (q % 6) (Nat.mod_lt _ (by omega))
          rw [add_none] at h7
          have hlt : q % 6 < ci.length := by rw [h5]; exact Nat.mod_lt _ (by omega)
          obtain ⟨mm, hm⟩ := h4 _ (List.getElem_mem hlt)
          refine ⟨mm, ?_⟩
          rw [show o + q = o + q / 6 * 6 + q % 6 by omega, h7, List.getElem?_eq_getElem hlt, hm]
      obtain ⟨m0, hm0⟩ := key 0 (by omega)
      unfold World.cell? at hm0
      split at hm0
      · rename_i cells el fz hh
        refine ⟨cells, el, fz, hh, fun q hq => ?_⟩
        obtain ⟨m, hm⟩ := key q hq
        have e : (match W.cell? ⟨b, o + q, none⟩ with | some (.int _ n) => n | _ => 0) = m := by rw [hm]
        show cells[o + q]? = some (.int .i64 (match W.cell? ⟨b, o + q, none⟩ with | some (.int _ n) => n | _ => 0))
        rw [e]
        unfold World.cell? at hm
        simp only [hh] at hm
        simpa using hm
      · cases hm0

theorem triple_open {base : Nat} {v : Value} (hv : Value.okWide Tryd.prog W .any base 51 v) : ∃ n0 n1 n2 : Int, v = .agg #[.int .i64 n0, .int .i64 n1, .int .i64 n2] := by
  obtain ⟨cs, rfl, hl, hc⟩ := okRow (P := Tryd.prog) (ts := [3, 3, 3]) (by rw [Tryd.underlying51]) (by kernel_rfl) (by kernel_rfl) hv
  match cs, hl, hc with
  | [c1, c2, c3], _, hc =>
    obtain ⟨n0, rfl⟩ := okCell_int Tryd.underlying3 (hc 0 3 c1 rfl rfl)
    obtain ⟨n1, rfl⟩ := okCell_int Tryd.underlying3 (hc 1 3 c2 rfl rfl)
    obtain ⟨n2, rfl⟩ := okCell_int Tryd.underlying3 (hc 2 3 c3 rfl rfl)
    exact ⟨n0, n1, n2, rfl⟩
end
end Go.Sx
