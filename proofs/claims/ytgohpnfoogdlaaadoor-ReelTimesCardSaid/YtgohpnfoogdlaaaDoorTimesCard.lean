/- The statement ReelTimes: called with whatever film, list of numbers and number can be read, it hands back true and leaves what lay, in whatever world the listed package variables lie as their initialisers lay them; no other condition. -/
import Derived.Test.YtgohpnfoogdlaaaDoorTabFn
import Derived.Test.YtgohpnfoogdlaaaDoorSxOpen
import Derived.KernelRfl
import Derived.ChangeSlices
import Derived.Test.YtgohpnfoogdlaaaDoorTmG
import Derived.Test.YtgohpnfoogdlaaaDoorTie
import Derived.Test.YtgohpnfoogdlaaaDoorCards
import Derived.ProofKit
import Derived.LaidMore
import Derived.LaidHandle
import Derived.MakeChecks
import Derived.SevenTiedAt
import Derived.Stop.Joined
/-! A FILM, OPENED. -/
namespace Go.Sx
open Go.RowKit Go.Proofs
set_option maxRecDepth 100000
/-! ## A film, opened -/
section
variable {H : Type} {enc : TypeId × Value → H} {W : World}

theorem add_none (b o k : Nat) : (Addr.mk b o none).add k = ⟨b, o + k, none⟩ := by
  unfold Addr.add
  split
  · rename_i h; subst h; rfl
  · rfl

theorem film_open {base : Nat} {v : Value} {d : DataW H} {p : List MemPlace} (h0 : DataW.Trod enc Tryd.prog W 0 (fun _ => true) true 26 v d p) (hv : Value.okWide Tryd.prog W .any base 26 v) :
    ∃ (s : Value) (n0 n1 n2 n3 n4 : Int), v = .agg #[s, .int .i64 n0, .int .i64 n1, .int .i64 n2, .int .i64 n3, .int .i64 n4] ∧
      (s = .slice none 0 0 ∨ ∃ (b o len cap : Nat) (z : Nat → Int), s = .slice (some ⟨b, o, none⟩) len cap ∧ len ≤ cap ∧
        (0 < len → ∃ cells el fz, W.heap[b]? = some (.cells cells el fz) ∧ ∀ q, q < 6 * len → cells[o + q]? = some (.int .i64 (z q)))) := by
  obtain ⟨cs, rfl, hl, hc⟩ := okRow (P := Tryd.prog) (ts := [22, 3, 3, 3, 3, 3]) (by rw [Tryd.underlying26]) (by kernel_rfl) (by kernel_rfl) hv
  match cs, hl, hc, h0 with
  | [s, c1, c2, c3, c4, c5], _, hc, h0 =>
    obtain ⟨n0, rfl⟩ := okCell_int Tryd.underlying3 (hc 1 3 c1 rfl rfl)
    obtain ⟨n1, rfl⟩ := okCell_int Tryd.underlying3 (hc 2 3 c2 rfl rfl)
    obtain ⟨n2, rfl⟩ := okCell_int Tryd.underlying3 (hc 3 3 c3 rfl rfl)
    obtain ⟨n3, rfl⟩ := okCell_int Tryd.underlying3 (hc 4 3 c4 rfl rfl)
    obtain ⟨n4, rfl⟩ := okCell_int Tryd.underlying3 (hc 5 3 c5 rfl rfl)
    refine ⟨s, n0, n1, n2, n3, n4, rfl, ?_⟩
    rcases okCell_slice Tryd.underlying22 (hc 0 22 s rfl rfl) with rfl | ⟨b, o, len, cap, rfl, hlc⟩
    · exact .inl rfl
    · right
      obtain ⟨fuel, ht⟩ := h0
      obtain ⟨xs, n, rfl, hx, hcl, hxl, hxs⟩ := DataW.trod_struct Tryd.underlying26 ht
      have f0 := hxs 0 _ rfl
      have c22 : Tryd.prog.cellsOf 22 = 1 := by kernel_rfl
      have c66 : Tryd.prog.cellsOf 79 = 6 := by kernel_rfl
      have hx0 : ∃ x0, xs[0]? = some x0 := ⟨xs[0]'(by rw [hxl]; exact Nat.zero_lt_succ _), List.getElem?_eq_getElem _⟩
      obtain ⟨x0, hx0⟩ := hx0
      rw [hx0] at f0
      have f1 : DataW.trod enc Tryd.prog W 0 (fun _ => true) true n 22 (List.take (Tryd.prog.cellsOf 22) [Value.slice (some ⟨b, o, none⟩) len cap, .int .i64 n0, .int .i64 n1, .int .i64 n2, .int .i64 n3, .int .i64 n4]) = some x0 := f0
      rw [c22] at f1
      have f0 : DataW.trod enc Tryd.prog W 0 (fun _ => true) true n 22 [Value.slice (some ⟨b, o, none⟩) len cap] = some x0 := f1
      refine ⟨b, o, len, cap, fun q => match W.cell? ⟨b, o + q, none⟩ with | some (.int _ n) => n | _ => 0, rfl, hlc, fun hpos => ?_⟩
      have key : ∀ q, q < 6 * len → ∃ m, W.cell? ⟨b, o + q, none⟩ = some (.int .i64 m) := by
        rcases DataW.trod_slice Tryd.underlying22 f0 with ⟨h, _⟩ | ⟨a, len', cap', elems, rest, m, _, he, _, _, _, _, hel, hat, _⟩
        · simp at h
        · simp at he
          obtain ⟨rfl, rfl, rfl⟩ := he
          intro q hq
          have hi : q / 6 < len := by omega
          have h1 := hat (q / 6) hi
          rw [c66, add_none] at h1
          have hey : ∃ y, elems[q / 6]? = some y := ⟨elems[q / 6]'(by omega), List.getElem?_eq_getElem _⟩
          obtain ⟨y, hy⟩ := hey
          rw [hy, Option.bind_eq_some_iff] at h1
          obtain ⟨ci, h2, h3⟩ := h1
          obtain ⟨_, _, h4⟩ := flat_trod 5 79 m ci y (by kernel_rfl) h3
          obtain ⟨_, h5, h6⟩ := World.cells?_some h2
          have h7 := h6 (q % 6) (Nat.mod_lt _ (by omega))
          rw [add_none] at h7
          have hlt : q % 6 < ci.length := by rw [h5]; exact Nat.mod_lt _ (by omega)
          obtain ⟨mm, hm⟩ := h4 _ (List.getElem_mem hlt)
          refine ⟨mm, ?_⟩
          rw [show o + q = o + q / 6 * 6 + q % 6 by omega, h7, List.getElem?_eq_getElem hlt, hm]
      obtain ⟨m0, hm0⟩ := key 0 (by omega)
      unfold World.cell? at hm0
      split at hm0
      · rename_i cells el fz hh
        refine ⟨cells, el, fz, hh, fun q hq => ?_⟩
        obtain ⟨m, hm⟩ := key q hq
        have e : (match W.cell? ⟨b, o + q, none⟩ with | some (.int _ n) => n | _ => 0) = m := by rw [hm]
        show cells[o + q]? = some (.int .i64 (match W.cell? ⟨b, o + q, none⟩ with | some (.int _ n) => n | _ => 0))
        rw [e]
        unfold World.cell? at hm
        simp only [hh] at hm
        simpa using hm
      · cases hm0

end
end Go.Sx
/-! A PAIR AND A LIST OF INTEGERS, OPENED. -/
namespace Go.Sx
open Go.RowKit Go.Proofs Go.ChangeShapes
set_option maxRecDepth 100000
section
variable {H : Type} {enc : TypeId × Value → H} {W : World}

theorem ints_open {t : TypeId} (ht : Tryd.prog.underlying t = some (.slice 3)) (hc : Tryd.prog.cellsOf 3 = 1) {base : Nat} {v : Value} {d : DataW H} {p : List MemPlace} (h0 : DataW.Trod enc Tryd.prog W 0 (fun _ => true) true t v d p) (hv : Value.okWide Tryd.prog W .any base t v) :
    ∃ (bb : Option Addr) (bl bc : Nat) (y : Nat → Int), v = .slice bb bl bc ∧ (bl : Int) ≤ 9223372036854775807 ∧ bl ≤ bc ∧
      ((bb = none ∧ bl = 0 ∧ bc = 0) ∨ ∃ c x, bb = some ⟨c, x, none⟩ ∧ (0 < bl → ∃ cells el fz, W.heap[c]? = some (.cells cells el fz) ∧ ∀ q, q < bl → cells[x + q]? = some (.int .i64 (y q)))) := by
  unfold Value.okWide at hv
  rw [ht] at hv
  have hs := okCell_slice ht hv
  obtain ⟨fuel, f⟩ := h0
  have f1 : DataW.trod enc Tryd.prog W 0 (fun _ => true) true fuel t [v] = some (d, p) := by
    rcases hs with rfl | ⟨b, o, len, cap, rfl, _⟩ <;> exact f
  rcases open_ints ht Tryd.underlying3 hc f1 with ⟨h1, _⟩ | ⟨a, len, cap, zs, h1, _, hlc, hm, hz, _, hcell, _⟩
  · obtain rfl : v = .slice none 0 0 := by simpa using h1
    exact ⟨none, 0, 0, fun _ => 0, rfl, by omega, Nat.le_refl _, .inl ⟨rfl, rfl, rfl⟩⟩
  · obtain rfl : v = .slice (some a) len cap := by simpa using h1
    rcases hs with h | ⟨b, o, l', c', h, _⟩
    · cases h
    · obtain ⟨e1, rfl, rfl⟩ : some a = some ⟨b, o, none⟩ ∧ len = l' ∧ cap = c' := by simpa using h
      obtain rfl := Option.some.inj e1
      have hm' : (len : Int) ≤ 9223372036854775807 := by
        have : maxLen = 9223372036854775807 := by decide
        omega
      have hlz : len ≤ zs.length := by rw [hz]; simpa using hlc
      refine ⟨some ⟨b, o, none⟩, len, cap, fun q => zs.getD q 0, rfl, hm', hlc, .inr ⟨b, o, rfl, fun hpos => ?_⟩⟩
      have c0 := hcell 0 (by omega)
      rw [add_none] at c0
      unfold World.cell? at c0
      split at c0
      · rename_i cells el fz hh
        refine ⟨cells, el, fz, hh, fun q hq => ?_⟩
        have cq := hcell q (by omega)
        rw [add_none] at cq
        unfold World.cell? at cq
        simp only [hh] at cq
        simpa using cq
      · cases c0
end
end Go.Sx
/-! The statement ReelTimes: called with whatever film, list of numbers and number can be read, it hands back true and leaves what lay, in whatever world the listed package variables lie as their initialisers lay them; no other condition. -/
namespace Go.Proofs.YtgohpnfoogdlaaaDoor
open Go Go.ChangeShapes Go.WideShapes Go.ChangeAt Go.RowKit Go.Sx
set_option maxRecDepth 100000

theorem own : ownKnob Tryd.prog.godebug = none := by kernel_rfl
theorem laidOut : laidOutB Tryd.prog = true := by kernel_rfl
theorem gFilm : Tryd.prog.globalNamed "bioscope/reel.filmBounds" = some 0 := by kernel_rfl
theorem gReel : Tryd.prog.globalNamed "bioscope/reel.reelBounds" = some 1 := by kernel_rfl
noncomputable def tyOf (g : Nat) : TypeId := match (Tryd.prog.globals[g]?).map (·.type) with | some t => t | none => 0
theorem tFilm : (Tryd.prog.globals[0]?).map (·.type) = some (tyOf 0) := by kernel_rfl
theorem tReel : (Tryd.prog.globals[1]?).map (·.type) = some (tyOf 1) := by kernel_rfl

def laid2 {H : Type} : List (String × DataW H) := [("bioscope/reel.reelBounds", Rows.laid_bioscope_reel_reelBounds), ("bioscope/reel.filmBounds", Rows.laid_bioscope_reel_filmBounds)]

theorem var_cells {P : Program} {W : World} {n : String} {g : Nat} {cs : Array Value} (hg : P.globalNamed n = some g) (h : W.var? P n = some cs) : ∃ el fz, W.heap[g]? = some (.cells cs el fz) := by
  simp only [World.var?, hg, Option.bind_some] at h
  split at h
  · rename_i c el fz hh; cases h; exact ⟨el, fz, hh⟩
  · cases h

noncomputable def ρ0 : Rho := ⟨fun _ => 0, fun _ => false, fun _ _ _ _ => 0, fun _ _ _ _ => false, fun _ => .tuple #[]⟩
/-- what the listed variables hold, as the law's run wants it -/
theorem glob_of_laid {W : World} (h : laidMetH Tryd.prog laid2 W) : ∀ g ∈ glV, GlobIn W ρ0 g := by
  rw [MakeChecks.laidMetH_plain _ _ _ (by kernel_rfl)] at h
  obtain ⟨ps, ⟨g0, t0, cs0, f0, p0, q0, hg0, ht0, hv0, hd0, ⟨g1, t1, cs1, f1, p1, q1, hg1, ht1, hv1, hd1, _, _⟩, _⟩, _, _⟩ := h
  obtain rfl := Option.some.inj (gReel.symm.trans hg0)
  obtain rfl := Option.some.inj (gFilm.symm.trans hg1)
  obtain rfl := Option.some.inj (tReel.symm.trans ht0)
  obtain rfl := Option.some.inj (tFilm.symm.trans ht1)
  obtain ⟨e0, _, _⟩ := flat_trod 6 (tyOf 1) f0 _ _ (by kernel_rfl) hd0
  obtain ⟨e1, _, _⟩ := flat_trod 6 (tyOf 0) f1 _ _ (by kernel_rfl) hd1
  obtain ⟨el0, fz0, h0⟩ := var_cells gReel hv0
  obtain ⟨el1, fz1, h1⟩ := var_cells gFilm hv1
  intro g hg
  simp only [glV, List.mem_cons, List.not_mem_nil, or_false] at hg
  rcases hg with rfl | rfl
  · refine ⟨by omega, _, cs1, el1, fz1, rfl, h1, fun i hi => ?_⟩
    rw [← Array.getElem?_toList, e1]; rfl
  · refine ⟨by omega, _, cs0, el0, fz0, rfl, h0, fun i hi => ?_⟩
    rw [← Array.getElem?_toList, e0]; rfl

/-- The door's own heap meets the condition. -/
theorem door_met (os : Os) (args : Array Value) : laidMetH Tryd.prog laid2 ((World.doorLaid Tryd.prog 400 os).forCall (fun _ _ => 0) ⟨#[], args, []⟩).memory :=
  laidMetH_of_parts3 (fuel := 8) (laidMet_of_run' 8 (by kernel_rfl) (by kernel_rfl)) (by kernel_rfl) (by kernel_rfl)

theorem int_open {t : TypeId} (ht : Tryd.prog.underlying t = some (.int .i64)) {W : World} {base : Nat} {v : Value} (hv : Value.okWide Tryd.prog W .any base t v) : ∃ n, v = .int .i64 n := by
  unfold Value.okWide at hv
  rw [ht] at hv
  exact okCell_int ht hv

theorem times_lifted (os : Os) (started : os.Started) (H : Type) (enc : TypeId × Value → H) :
    ReturnsInHanded {} Tryd.checked os 3 .any (fun w args => (Rows.reelTimesSpec.pre enc Tryd.prog Tryd.f3 [] false w args ∧ laidMetH Tryd.prog laid2 w) ∧ sizedMet enc Tryd.prog Tryd.f3 (OpenSpec.ofChange Rows.reelTimesSpec) false w args)
      (Rows.reelTimesSpec.post enc Tryd.prog Tryd.f3 false true false false) := by
  refine returnsInHanded_of_change_and (C := Tryd.checked) (X := fun w _ => laidMetH Tryd.prog laid2 w) (fun _ _ _ hh h => h.of_heap hh) own started (by kernel_rfl) Tryd.func3
    (ChangeSpec.witness_shaped (enc := enc) (C := Tryd.checked) (os := os) (X := fun w _ => laidMetH Tryd.prog laid2 w) false (World.doorLaid Tryd.prog 400 os)
      #[.agg #[.slice none 0 0, .int .i64 0, .int .i64 0, .int .i64 0, .int .i64 0, .int .i64 0], .slice none 0 0, .int .i64 0] 8 rfl (World.shaped_of_RefB (by kernel_rfl) (by kernel_rfl)) (by kernel_rfl) (by kernel_rfl) (by kernel_rfl) (door_met os _)) ?_
  intro W base args ds gs before hval0 hW _ _ hL _
  have hval : ∀ (j : Nat) t v, Tryd.f3.params[j]? = some t → args[j]? = some v → Value.okWide Tryd.prog W .any base t v := hval0
  have hW' := hW
  have hlt := hW.lt
  obtain ⟨p, q, hA0, hV, rfl, hfz, hnd⟩ := hW
  have hA : DataW.TrodAll enc Tryd.prog W 0 (fun _ => true) true Tryd.f3.params.toList args.toList ds p := hA0
  rw [Tryd.params3] at hA hval
  obtain ⟨v0, v1, v2, d0, d1, d2, p0, p1, p2, rfl, rfl, rfl, h0, h1, h2⟩ := trodAll_three hA
  obtain ⟨rfl, rfl⟩ := trodVars_none hV
  obtain ⟨s, n0, n1, n2, n3, n4, rfl, hs⟩ := film_open h0 (hval 0 26 v0 rfl rfl)
  obtain ⟨bb, bl, bc, y, rfl, hbl, hbc, hb⟩ := ints_open Tryd.underlying27 (by kernel_rfl) h1 (hval 1 27 v1 rfl rfl)
  obtain ⟨shows, rfl⟩ := int_open Tryd.underlying3 (hval 2 3 v2 rfl rfl)
  clear hA0 hval0
  simp only [List.append_nil] at hW' hlt
  refine (times_any (nf := fun i => if i = 0 then n0 else if i = 1 then n1 else if i = 2 then n2 else if i = 3 then n3 else n4) (glob_of_laid hL) hs rfl hbl hbc hb).mono fun e W' ⟨he, hb⟩ => ?_
  subst he
  have e1 : Rows.reelTimesSpec.fn H ([d0, d1, d2] ++ []) = { results := [.lit (.bool true)], args := [d0, d1, d2] } := by simp [Rows.reelTimesSpec]
  refine ⟨_, rfl, _, _, _, [], p0 ++ p1 ++ p2, [], hW', ?_, ?_, ?_, hb.frame _, fun h => by cases h⟩
  · rw [e1]; exact trodAll_mk1 (shut_bool Tryd.underlying4 true)
  · rw [e1, List.append_assoc p0 p1 p2]
    exact trodAll_mk3 (Below.trod laidOut (by kernel_rfl) (of_decide_eq_true (by kernel_rfl)) h0 hb (fun x hx => hlt x (by simp [hx]))) (Below.trod laidOut (by kernel_rfl) (of_decide_eq_true (by kernel_rfl)) h1 hb (fun x hx => hlt x (by simp [hx])))
      (Below.trod laidOut (by kernel_rfl) (of_decide_eq_true (by kernel_rfl)) h2 hb (fun x hx => hlt x (by simp [hx])))
  · rw [e1]; rfl

theorem reelTimes_holds : Rows.ReelTimesSaid :=
  OpenClaim.holds_of_wide 3 Tryd.f3 rfl rfl rfl rfl rfl rfl rfl ⟨rfl, rfl, rfl, rfl, rfl⟩ rfl rfl rfl rfl rfl (by kernel_rfl) Tryd.func3 (by kernel_rfl)
    (of_decide_eq_true (by kernel_rfl)) (by unfold Func.isWrapper; first | (rw [if_pos (by decide +kernel)]; kernel_rfl) | (rw [if_neg (by decide +kernel)]; exact ⟨rfl, rfl⟩))
    (fun os started H enc _ => times_lifted os started H enc)

/-- ████ THE TIED CARD -/
theorem reelTimes_card_holds : Rows.ReelTimesCardSaid :=
  Claim7.holds_tied_plain_at .later [] [.data, .data] true (true, "fc8561e437cedae6d003fbf9cb367e1aa1067c54b28504a5fbda6402bdc8d8dd") false
    reelTimes_holds (fun _ h => by cases h) (by kernel_rfl) (fun _ h => by cases h) reelTimes_row_tie rfl ⟨rfl, rfl⟩ (by kernel_rfl) rfl
    (fun f fn hf hfn => by
      obtain rfl : f = 3 := Option.some.inj ((show Tryd.prog.funcNamed "bioscope/bioscopelaw01.ReelTimes" = some 3 by kernel_rfl).symm.trans hf) |>.symm
      obtain rfl : fn = Tryd.f3 := (Option.some.inj (Tryd.func3.symm.trans hfn)).symm
      exact ⟨by kernel_rfl, fun j t ht => by
        rw [Tryd.params3] at ht
        have hm : t ∈ [26, 27, 3] := by simpa using Array.mem_of_getElem? ht
        have hall : ([26, 27, 3].all fun u => !Tryd.prog.wantsStandIn u) = true := by kernel_rfl
        exact (show Tryd.prog.wantsStandIn t = false by simpa using List.all_eq_true.1 hall t hm)⟩)
    (by kernel_rfl)
#print axioms reelTimes_card_holds
end Go.Proofs.YtgohpnfoogdlaaaDoor
