/- CALLS, MADE: what is called, what it reads, what it hands back. -/
import Derived.Test.YtaapomafjjikhaaGreatDoorEntL3x2
/-! CALLS, MADE: what is called, what it reads, what it hands back. -/
namespace Go.Sx
open Go.RowKit Go.Proofs
set_option maxRecDepth 100000
theorem bk66 (k : Nat) : RunL tb2 100 k [e66, e74, e113] := ⟨(lAll_cons (p := Ent.run tb2 100) e66_run (lAll_cons (p := Ent.run tb2 100) e74_run (lAll_cons (p := Ent.run tb2 100) e113_run rfl)))⟩
theorem bk67 (k : Nat) : RunL tb2 100 k [e67, e75] := ⟨(lAll_cons (p := Ent.run tb2 100) e67_run (lAll_cons (p := Ent.run tb2 100) e75_run rfl))⟩
theorem bk68 (k : Nat) : RunL tb2 100 k [e68, e76, e137] := ⟨(lAll_cons (p := Ent.run tb2 100) e68_run (lAll_cons (p := Ent.run tb2 100) e76_run (lAll_cons (p := Ent.run tb2 100) e137_run rfl)))⟩
theorem bk69 (k : Nat) : RunL tb2 100 k [e69, e77, e92, e107, e108] := ⟨(lAll_cons (p := Ent.run tb2 100) e69_run (lAll_cons (p := Ent.run tb2 100) e77_run (lAll_cons (p := Ent.run tb2 100) e92_run (lAll_cons (p := Ent.run tb2 100) e107_run (lAll_cons (p := Ent.run tb2 100) e108_run rfl)))))⟩
theorem bk70 (k : Nat) : RunL tb2 100 k [e70, e78] := ⟨(lAll_cons (p := Ent.run tb2 100) e70_run (lAll_cons (p := Ent.run tb2 100) e78_run rfl))⟩
theorem bk71 (k : Nat) : RunL tb2 100 k [e71, e79] := ⟨(lAll_cons (p := Ent.run tb2 100) e71_run (lAll_cons (p := Ent.run tb2 100) e79_run rfl))⟩
theorem bk90 (k : Nat) : RunL tb2 100 k [e90] := ⟨(lAll_cons (p := Ent.run tb2 100) e90_run rfl)⟩
theorem bk91 (k : Nat) : RunL tb2 100 k [e91, e104, e115, e138, e139] := ⟨(lAll_cons (p := Ent.run tb2 100) e91_run (lAll_cons (p := Ent.run tb2 100) e104_run (lAll_cons (p := Ent.run tb2 100) e115_run (lAll_cons (p := Ent.run tb2 100) e138_run (lAll_cons (p := Ent.run tb2 100) e139_run rfl)))))⟩
theorem bk93 (k : Nat) : RunL tb2 100 k [e93, e131] := ⟨(lAll_cons (p := Ent.run tb2 100) e93_run (lAll_cons (p := Ent.run tb2 100) e131_run rfl))⟩
theorem bk94 (k : Nat) : RunL tb2 100 k [e94, e98] := ⟨(lAll_cons (p := Ent.run tb2 100) e94_run (lAll_cons (p := Ent.run tb2 100) e98_run rfl))⟩
theorem bk95 (k : Nat) : RunL tb2 100 k [e95, e99] := ⟨(lAll_cons (p := Ent.run tb2 100) e95_run (lAll_cons (p := Ent.run tb2 100) e99_run rfl))⟩
theorem bk96 (k : Nat) : RunL tb2 100 k [e96, e100, e127, e129, e143] := ⟨(lAll_cons (p := Ent.run tb2 100) e96_run (lAll_cons (p := Ent.run tb2 100) e100_run (lAll_cons (p := Ent.run tb2 100) e127_run (lAll_cons (p := Ent.run tb2 100) e129_run (lAll_cons (p := Ent.run tb2 100) e143_run rfl)))))⟩
theorem bk97 (k : Nat) : RunL tb2 100 k [e97, e101, e119, e135, e136] := ⟨(lAll_cons (p := Ent.run tb2 100) e97_run (lAll_cons (p := Ent.run tb2 100) e101_run (lAll_cons (p := Ent.run tb2 100) e119_run (lAll_cons (p := Ent.run tb2 100) e135_run (lAll_cons (p := Ent.run tb2 100) e136_run rfl)))))⟩
theorem bk102 (k : Nat) : RunL tb2 100 k [e102, e126] := ⟨(lAll_cons (p := Ent.run tb2 100) e102_run (lAll_cons (p := Ent.run tb2 100) e126_run rfl))⟩
theorem bk103 (k : Nat) : RunL tb2 100 k [e103] := ⟨(lAll_cons (p := Ent.run tb2 100) e103_run rfl)⟩
theorem bk105 (k : Nat) : RunL tb2 100 k [e105] := ⟨(lAll_cons (p := Ent.run tb2 100) e105_run rfl)⟩
theorem bk106 (k : Nat) : RunL tb2 100 k [e106] := ⟨(lAll_cons (p := Ent.run tb2 100) e106_run rfl)⟩
theorem bk109 (k : Nat) : RunL tb2 100 k [e109] := ⟨(lAll_cons (p := Ent.run tb2 100) e109_run rfl)⟩
theorem bk110 (k : Nat) : RunL tb2 100 k [e110] := ⟨(lAll_cons (p := Ent.run tb2 100) e110_run rfl)⟩
theorem bk111 (k : Nat) : RunL tb2 100 k [e111] := ⟨(lAll_cons (p := Ent.run tb2 100) e111_run rfl)⟩
theorem bk112 (k : Nat) : RunL tb2 100 k [e112] := ⟨(lAll_cons (p := Ent.run tb2 100) e112_run rfl)⟩
theorem bk114 (k : Nat) : RunL tb2 100 k [e114] := ⟨(lAll_cons (p := Ent.run tb2 100) e114_run rfl)⟩
theorem bk117 (k : Nat) : RunL tb2 100 k [e117] := ⟨(lAll_cons (p := Ent.run tb2 100) e117_run rfl)⟩
theorem bk120 (k : Nat) : RunL tb2 100 k [e120] := ⟨(lAll_cons (p := Ent.run tb2 100) e120_run rfl)⟩
theorem bk122 (k : Nat) : RunL tb2 100 k [e122] := ⟨(lAll_cons (p := Ent.run tb2 100) e122_run rfl)⟩
theorem bk124 (k : Nat) : RunL tb2 100 k [e124] := ⟨(lAll_cons (p := Ent.run tb2 100) e124_run rfl)⟩
theorem bk133 (k : Nat) : RunL tb2 100 k [e133] := ⟨(lAll_cons (p := Ent.run tb2 100) e133_run rfl)⟩
theorem bk141 (k : Nat) : RunL tb2 100 k [e141] := ⟨(lAll_cons (p := Ent.run tb2 100) e141_run rfl)⟩
noncomputable def ents3 : PT (List Ent) := (.node (some [e105]) (.node (some [e114]) (.node none (.node (some [e117]) (.node (some [e67, e75]) .nil .nil) .nil) (.node (some [e90]) (.node none (.node (some [e110]) .nil .nil) (.node (some [e96, e100, e127, e129, e143]) .nil .nil)) .nil)) (.node none (.node (some [e112]) (.node (some [e111]) (.node (some [e97, e101, e119, e135, e136]) .nil .nil) (.node (some [e94, e98]) .nil .nil)) (.node (some [e95, e99]) .nil .nil)) (.node none (.node none (.node (some [e71, e79]) .nil .nil) (.node (some [e133]) .nil .nil)) (.node (some [e124]) (.node (some [e93, e131]) .nil .nil) .nil)))) (.node (some [e68, e76, e137]) (.node none (.node none (.node (some [e102, e126]) .nil .nil) (.node none (.node (some [e70, e78]) .nil .nil) (.node (some [e103]) .nil .nil))) (.node (some [e122]) (.node none (.node (some [e120]) .nil .nil) (.node (some [e91, e104, e115, e138, e139]) .nil .nil)) .nil)) (.node none (.node none .nil (.node (some [e141]) .nil .nil)) (.node (some [e106]) (.node none (.node (some [e66, e74, e113]) .nil .nil) (.node (some [e69, e77, e92, e107, e108]) .nil .nil)) (.node none .nil (.node (some [e109]) .nil .nil))))))
theorem ents3_run : ents3.Every (RunL tb2 100) := ⟨ev1 (bk105 _), ⟨ev1 (bk114 _), ⟨ev0, ⟨ev1 (bk117 _), ⟨ev1 (bk67 _), trivial, trivial⟩, trivial⟩, ⟨ev1 (bk90 _), ⟨ev0, ⟨ev1 (bk110 _), trivial, trivial⟩, ⟨ev1 (bk96 _), trivial, trivial⟩⟩, trivial⟩⟩, ⟨ev0, ⟨ev1 (bk112 _), ⟨ev1 (bk111 _), ⟨ev1 (bk97 _), trivial, trivial⟩, ⟨ev1 (bk94 _), trivial, trivial⟩⟩, ⟨ev1 (bk95 _), trivial, trivial⟩⟩, ⟨ev0, ⟨ev0, ⟨ev1 (bk71 _), trivial, trivial⟩, ⟨ev1 (bk133 _), trivial, trivial⟩⟩, ⟨ev1 (bk124 _), ⟨ev1 (bk93 _), trivial, trivial⟩, trivial⟩⟩⟩⟩, ⟨ev1 (bk68 _), ⟨ev0, ⟨ev0, ⟨ev1 (bk102 _), trivial, trivial⟩, ⟨ev0, ⟨ev1 (bk70 _), trivial, trivial⟩, ⟨ev1 (bk103 _), trivial, trivial⟩⟩⟩, ⟨ev1 (bk122 _), ⟨ev0, ⟨ev1 (bk120 _), trivial, trivial⟩, ⟨ev1 (bk91 _), trivial, trivial⟩⟩, trivial⟩⟩, ⟨ev0, ⟨ev0, trivial, ⟨ev1 (bk141 _), trivial, trivial⟩⟩, ⟨ev1 (bk106 _), ⟨ev0, ⟨ev1 (bk66 _), trivial, trivial⟩, ⟨ev1 (bk69 _), trivial, trivial⟩⟩, ⟨ev0, trivial, ⟨ev1 (bk109 _), trivial, trivial⟩⟩⟩⟩⟩⟩
noncomputable def orc3 (f : FuncId) (args : List AV) (h : Heap) : Option (T (AV × Heap)) :=
  match entPT 64 ents3 f args h with
  | some t => some t
  | none => orc2 f args h
theorem orc3_ok : ∀ f args h t, orc3 f args h = some t → CallOk pT f args h t := by
  intro f args h t e
  unfold orc3 at e
  split at e
  · rename_i u hu
    cases e
    exact entPT_ok tabs2 ents3_run hu
  · exact orc2_ok f args h t e
noncomputable def tb3 : Tabs := ⟨Sx.Tryz.ft.get, lFind Sx.Tryz.rt, 2000, orc3⟩
theorem tabs3 : TabOk pT Sx.Tryz.tt.get tb3 := Tryz.tab orc3 orc3_ok 2000
end Go.Sx
