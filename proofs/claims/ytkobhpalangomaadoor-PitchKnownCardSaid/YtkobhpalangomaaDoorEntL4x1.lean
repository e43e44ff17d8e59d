/- CALLS, MADE: what is called, what it reads, what it hands back. -/
import Derived.Test.YtkobhpalangomaaDoorEntL3x0
import Derived.Test.YtkobhpalangomaaDoorEntL3x1
import Derived.Test.YtkobhpalangomaaDoorEntL3x2
/-! CALLS, MADE: what is called, what it reads, what it hands back. -/
namespace Go.Sx
open Go.RowKit Go.Proofs
set_option maxRecDepth 100000
theorem bk165 (k : Nat) : RunL tb2 100 k [e165, e258, e426, e427, e428, e429, e430] := ⟨(lAll_cons (p := Ent.run tb2 100) e165_run (lAll_cons (p := Ent.run tb2 100) e258_run (lAll_cons (p := Ent.run tb2 100) e426_run (lAll_cons (p := Ent.run tb2 100) e427_run (lAll_cons (p := Ent.run tb2 100) e428_run (lAll_cons (p := Ent.run tb2 100) e429_run (lAll_cons (p := Ent.run tb2 100) e430_run rfl)))))))⟩
theorem bk168 (k : Nat) : RunL tb2 100 k [e168, e423, e445] := ⟨(lAll_cons (p := Ent.run tb2 100) e168_run (lAll_cons (p := Ent.run tb2 100) e423_run (lAll_cons (p := Ent.run tb2 100) e445_run rfl)))⟩
theorem bk224 (k : Nat) : RunL tb2 100 k [e224, e235, e335] := ⟨(lAll_cons (p := Ent.run tb2 100) e224_run (lAll_cons (p := Ent.run tb2 100) e235_run (lAll_cons (p := Ent.run tb2 100) e335_run rfl)))⟩
theorem bk243 (k : Nat) : RunL tb2 100 k [e243, e267, e284, e367, e369, e383, e391, e399, e407] := ⟨(lAll_cons (p := Ent.run tb2 100) e243_run (lAll_cons (p := Ent.run tb2 100) e267_run (lAll_cons (p := Ent.run tb2 100) e284_run (lAll_cons (p := Ent.run tb2 100) e367_run (lAll_cons (p := Ent.run tb2 100) e369_run (lAll_cons (p := Ent.run tb2 100) e383_run (lAll_cons (p := Ent.run tb2 100) e391_run (lAll_cons (p := Ent.run tb2 100) e399_run (lAll_cons (p := Ent.run tb2 100) e407_run rfl)))))))))⟩
theorem bk246 (k : Nat) : RunL tb2 100 k [e246, e256, e316, e365, e381, e389, e397, e405, e409] := ⟨(lAll_cons (p := Ent.run tb2 100) e246_run (lAll_cons (p := Ent.run tb2 100) e256_run (lAll_cons (p := Ent.run tb2 100) e316_run (lAll_cons (p := Ent.run tb2 100) e365_run (lAll_cons (p := Ent.run tb2 100) e381_run (lAll_cons (p := Ent.run tb2 100) e389_run (lAll_cons (p := Ent.run tb2 100) e397_run (lAll_cons (p := Ent.run tb2 100) e405_run (lAll_cons (p := Ent.run tb2 100) e409_run rfl)))))))))⟩
theorem bk257 (k : Nat) : RunL tb2 100 k [e257, e436] := ⟨(lAll_cons (p := Ent.run tb2 100) e257_run (lAll_cons (p := Ent.run tb2 100) e436_run rfl))⟩
theorem bk336 (k : Nat) : RunL tb2 100 k [e336, e447] := ⟨(lAll_cons (p := Ent.run tb2 100) e336_run (lAll_cons (p := Ent.run tb2 100) e447_run rfl))⟩
theorem bk337 (k : Nat) : RunL tb2 100 k [e337, e340, e348] := ⟨(lAll_cons (p := Ent.run tb2 100) e337_run (lAll_cons (p := Ent.run tb2 100) e340_run (lAll_cons (p := Ent.run tb2 100) e348_run rfl)))⟩
theorem bk338 (k : Nat) : RunL tb2 100 k [e338] := ⟨(lAll_cons (p := Ent.run tb2 100) e338_run rfl)⟩
theorem bk339 (k : Nat) : RunL tb2 100 k [e339] := ⟨(lAll_cons (p := Ent.run tb2 100) e339_run rfl)⟩
theorem bk341 (k : Nat) : RunL tb2 100 k [e341] := ⟨(lAll_cons (p := Ent.run tb2 100) e341_run rfl)⟩
theorem bk342 (k : Nat) : RunL tb2 100 k [e342] := ⟨(lAll_cons (p := Ent.run tb2 100) e342_run rfl)⟩
theorem bk343 (k : Nat) : RunL tb2 100 k [e343] := ⟨(lAll_cons (p := Ent.run tb2 100) e343_run rfl)⟩
theorem bk344 (k : Nat) : RunL tb2 100 k [e344] := ⟨(lAll_cons (p := Ent.run tb2 100) e344_run rfl)⟩
theorem bk345 (k : Nat) : RunL tb2 100 k [e345, e408] := ⟨(lAll_cons (p := Ent.run tb2 100) e345_run (lAll_cons (p := Ent.run tb2 100) e408_run rfl))⟩
theorem bk346 (k : Nat) : RunL tb2 100 k [e346, e353, e363, e379, e387, e395, e403, e424] := ⟨(lAll_cons (p := Ent.run tb2 100) e346_run (lAll_cons (p := Ent.run tb2 100) e353_run (lAll_cons (p := Ent.run tb2 100) e363_run (lAll_cons (p := Ent.run tb2 100) e379_run (lAll_cons (p := Ent.run tb2 100) e387_run (lAll_cons (p := Ent.run tb2 100) e395_run (lAll_cons (p := Ent.run tb2 100) e403_run (lAll_cons (p := Ent.run tb2 100) e424_run rfl))))))))⟩
theorem bk347 (k : Nat) : RunL tb2 100 k [e347, e352] := ⟨(lAll_cons (p := Ent.run tb2 100) e347_run (lAll_cons (p := Ent.run tb2 100) e352_run rfl))⟩
theorem bk349 (k : Nat) : RunL tb2 100 k [e349] := ⟨(lAll_cons (p := Ent.run tb2 100) e349_run rfl)⟩
theorem bk350 (k : Nat) : RunL tb2 100 k [e350] := ⟨(lAll_cons (p := Ent.run tb2 100) e350_run rfl)⟩
theorem bk351 (k : Nat) : RunL tb2 100 k [e351] := ⟨(lAll_cons (p := Ent.run tb2 100) e351_run rfl)⟩
theorem bk354 (k : Nat) : RunL tb2 100 k [e354, e410] := ⟨(lAll_cons (p := Ent.run tb2 100) e354_run (lAll_cons (p := Ent.run tb2 100) e410_run rfl))⟩
theorem bk355 (k : Nat) : RunL tb2 100 k [e355, e443] := ⟨(lAll_cons (p := Ent.run tb2 100) e355_run (lAll_cons (p := Ent.run tb2 100) e443_run rfl))⟩
theorem bk356 (k : Nat) : RunL tb2 100 k [e356, e418] := ⟨(lAll_cons (p := Ent.run tb2 100) e356_run (lAll_cons (p := Ent.run tb2 100) e418_run rfl))⟩
theorem bk357 (k : Nat) : RunL tb2 100 k [e357] := ⟨(lAll_cons (p := Ent.run tb2 100) e357_run rfl)⟩
theorem bk358 (k : Nat) : RunL tb2 100 k [e358, e414] := ⟨(lAll_cons (p := Ent.run tb2 100) e358_run (lAll_cons (p := Ent.run tb2 100) e414_run rfl))⟩
theorem bk359 (k : Nat) : RunL tb2 100 k [e359] := ⟨(lAll_cons (p := Ent.run tb2 100) e359_run rfl)⟩
theorem bk360 (k : Nat) : RunL tb2 100 k [e360, e376, e384, e392, e400] := ⟨(lAll_cons (p := Ent.run tb2 100) e360_run (lAll_cons (p := Ent.run tb2 100) e376_run (lAll_cons (p := Ent.run tb2 100) e384_run (lAll_cons (p := Ent.run tb2 100) e392_run (lAll_cons (p := Ent.run tb2 100) e400_run rfl)))))⟩
theorem bk361 (k : Nat) : RunL tb2 100 k [e361, e377, e385, e393, e401] := ⟨(lAll_cons (p := Ent.run tb2 100) e361_run (lAll_cons (p := Ent.run tb2 100) e377_run (lAll_cons (p := Ent.run tb2 100) e385_run (lAll_cons (p := Ent.run tb2 100) e393_run (lAll_cons (p := Ent.run tb2 100) e401_run rfl)))))⟩
theorem bk362 (k : Nat) : RunL tb2 100 k [e362, e378, e386, e394, e402] := ⟨(lAll_cons (p := Ent.run tb2 100) e362_run (lAll_cons (p := Ent.run tb2 100) e378_run (lAll_cons (p := Ent.run tb2 100) e386_run (lAll_cons (p := Ent.run tb2 100) e394_run (lAll_cons (p := Ent.run tb2 100) e402_run rfl)))))⟩
theorem bk364 (k : Nat) : RunL tb2 100 k [e364, e380, e388, e396, e404] := ⟨(lAll_cons (p := Ent.run tb2 100) e364_run (lAll_cons (p := Ent.run tb2 100) e380_run (lAll_cons (p := Ent.run tb2 100) e388_run (lAll_cons (p := Ent.run tb2 100) e396_run (lAll_cons (p := Ent.run tb2 100) e404_run rfl)))))⟩
theorem bk366 (k : Nat) : RunL tb2 100 k [e366, e368, e382, e390, e398, e406] := ⟨(lAll_cons (p := Ent.run tb2 100) e366_run (lAll_cons (p := Ent.run tb2 100) e368_run (lAll_cons (p := Ent.run tb2 100) e382_run (lAll_cons (p := Ent.run tb2 100) e390_run (lAll_cons (p := Ent.run tb2 100) e398_run (lAll_cons (p := Ent.run tb2 100) e406_run rfl))))))⟩
theorem bk370 (k : Nat) : RunL tb2 100 k [e370] := ⟨(lAll_cons (p := Ent.run tb2 100) e370_run rfl)⟩
theorem bk371 (k : Nat) : RunL tb2 100 k [e371] := ⟨(lAll_cons (p := Ent.run tb2 100) e371_run rfl)⟩
theorem bk372 (k : Nat) : RunL tb2 100 k [e372] := ⟨(lAll_cons (p := Ent.run tb2 100) e372_run rfl)⟩
theorem bk373 (k : Nat) : RunL tb2 100 k [e373, e446] := ⟨(lAll_cons (p := Ent.run tb2 100) e373_run (lAll_cons (p := Ent.run tb2 100) e446_run rfl))⟩
theorem bk374 (k : Nat) : RunL tb2 100 k [e374] := ⟨(lAll_cons (p := Ent.run tb2 100) e374_run rfl)⟩
theorem bk375 (k : Nat) : RunL tb2 100 k [e375] := ⟨(lAll_cons (p := Ent.run tb2 100) e375_run rfl)⟩
theorem bk411 (k : Nat) : RunL tb2 100 k [e411] := ⟨(lAll_cons (p := Ent.run tb2 100) e411_run rfl)⟩
theorem bk412 (k : Nat) : RunL tb2 100 k [e412] := ⟨(lAll_cons (p := Ent.run tb2 100) e412_run rfl)⟩
theorem bk413 (k : Nat) : RunL tb2 100 k [e413] := ⟨(lAll_cons (p := Ent.run tb2 100) e413_run rfl)⟩
theorem bk415 (k : Nat) : RunL tb2 100 k [e415] := ⟨(lAll_cons (p := Ent.run tb2 100) e415_run rfl)⟩
theorem bk416 (k : Nat) : RunL tb2 100 k [e416] := ⟨(lAll_cons (p := Ent.run tb2 100) e416_run rfl)⟩
theorem bk417 (k : Nat) : RunL tb2 100 k [e417] := ⟨(lAll_cons (p := Ent.run tb2 100) e417_run rfl)⟩
theorem bk419 (k : Nat) : RunL tb2 100 k [e419] := ⟨(lAll_cons (p := Ent.run tb2 100) e419_run rfl)⟩
theorem bk420 (k : Nat) : RunL tb2 100 k [e420] := ⟨(lAll_cons (p := Ent.run tb2 100) e420_run rfl)⟩
theorem bk421 (k : Nat) : RunL tb2 100 k [e421] := ⟨(lAll_cons (p := Ent.run tb2 100) e421_run rfl)⟩
theorem bk422 (k : Nat) : RunL tb2 100 k [e422, e434, e444] := ⟨(lAll_cons (p := Ent.run tb2 100) e422_run (lAll_cons (p := Ent.run tb2 100) e434_run (lAll_cons (p := Ent.run tb2 100) e444_run rfl)))⟩
theorem bk425 (k : Nat) : RunL tb2 100 k [e425] := ⟨(lAll_cons (p := Ent.run tb2 100) e425_run rfl)⟩
theorem bk431 (k : Nat) : RunL tb2 100 k [e431, e435] := ⟨(lAll_cons (p := Ent.run tb2 100) e431_run (lAll_cons (p := Ent.run tb2 100) e435_run rfl))⟩
theorem bk432 (k : Nat) : RunL tb2 100 k [e432, e439] := ⟨(lAll_cons (p := Ent.run tb2 100) e432_run (lAll_cons (p := Ent.run tb2 100) e439_run rfl))⟩
theorem bk433 (k : Nat) : RunL tb2 100 k [e433] := ⟨(lAll_cons (p := Ent.run tb2 100) e433_run rfl)⟩
theorem bk437 (k : Nat) : RunL tb2 100 k [e437] := ⟨(lAll_cons (p := Ent.run tb2 100) e437_run rfl)⟩
theorem bk438 (k : Nat) : RunL tb2 100 k [e438] := ⟨(lAll_cons (p := Ent.run tb2 100) e438_run rfl)⟩
theorem bk441 (k : Nat) : RunL tb2 100 k [e441] := ⟨(lAll_cons (p := Ent.run tb2 100) e441_run rfl)⟩
theorem bk442 (k : Nat) : RunL tb2 100 k [e442] := ⟨(lAll_cons (p := Ent.run tb2 100) e442_run rfl)⟩
noncomputable def ents3 : PT (List Ent) := (.node none (.node (some [e351]) (.node none (.node (some [e437]) (.node (some [e420]) (.node none (.node (some [e356, e418]) .nil .nil) .nil) .nil) (.node (some [e337, e340, e348]) (.node (some [e349]) .nil .nil) (.node none (.node (some [e442]) .nil .nil) .nil))) (.node none (.node none (.node (some [e415]) .nil (.node (some [e374]) .nil .nil)) (.node (some [e345, e408]) .nil (.node (some [e373, e446]) .nil .nil))) (.node none (.node (some [e346, e353, e363, e379, e387, e395, e403, e424]) .nil .nil) .nil))) (.node (some [e246, e256, e316, e365, e381, e389, e397, e405, e409]) (.node none (.node none (.node (some [e425]) (.node (some [e224, e235, e335]) .nil .nil) .nil) (.node none (.node (some [e354, e410]) .nil .nil) (.node (some [e433]) .nil .nil))) (.node (some [e371]) (.node (some [e359]) .nil .nil) (.node (some [e412]) (.node (some [e431, e435]) .nil .nil) (.node (some [e168, e423, e445]) .nil .nil)))) (.node none (.node none (.node none .nil (.node (some [e438]) .nil .nil)) .nil) (.node none (.node (some [e432, e439]) .nil .nil) (.node none .nil (.node (some [e366, e368, e382, e390, e398, e406]) .nil .nil)))))) (.node (some [e358, e414]) (.node (some [e416]) (.node none (.node none .nil (.node (some [e375]) .nil (.node (some [e422, e434, e444]) .nil .nil))) (.node none .nil (.node (some [e339]) (.node (some [e364, e380, e388, e396, e404]) .nil .nil) (.node (some [e257, e436]) .nil .nil)))) (.node (some [e411]) (.node none (.node none .nil (.node (some [e441]) .nil .nil)) (.node (some [e343]) .nil .nil)) (.node (some [e361, e377, e385, e393, e401]) (.node none (.node (some [e362, e378, e386, e394, e402]) .nil .nil) (.node (some [e357]) .nil .nil)) (.node (some [e421]) (.node (some [e350]) .nil .nil) .nil)))) (.node none (.node none (.node (some [e355, e443]) (.node (some [e165, e258, e426, e427, e428, e429, e430]) (.node (some [e243, e267, e284, e367, e369, e383, e391, e399, e407]) .nil .nil) (.node (some [e419]) .nil .nil)) (.node (some [e370]) .nil .nil)) (.node none (.node none (.node (some [e342]) .nil .nil) (.node (some [e347, e352]) .nil .nil)) .nil)) (.node none (.node none (.node none (.node (some [e372]) .nil .nil) (.node (some [e413]) .nil .nil)) (.node none .nil (.node (some [e341]) .nil .nil))) (.node (some [e417]) (.node (some [e336, e447]) (.node (some [e344]) .nil .nil) (.node (some [e360, e376, e384, e392, e400]) .nil .nil)) (.node none (.node (some [e338]) .nil .nil) .nil))))))
theorem ents3_run : ents3.Every (RunL tb2 100) := ⟨ev0, ⟨ev1 (bk351 _), ⟨ev0, ⟨ev1 (bk437 _), ⟨ev1 (bk420 _), ⟨ev0, ⟨ev1 (bk356 _), trivial, trivial⟩, trivial⟩, trivial⟩, ⟨ev1 (bk337 _), ⟨ev1 (bk349 _), trivial, trivial⟩, ⟨ev0, ⟨ev1 (bk442 _), trivial, trivial⟩, trivial⟩⟩⟩, ⟨ev0, ⟨ev0, ⟨ev1 (bk415 _), trivial, ⟨ev1 (bk374 _), trivial, trivial⟩⟩, ⟨ev1 (bk345 _), trivial, ⟨ev1 (bk373 _), trivial, trivial⟩⟩⟩, ⟨ev0, ⟨ev1 (bk346 _), trivial, trivial⟩, trivial⟩⟩⟩, ⟨ev1 (bk246 _), ⟨ev0, ⟨ev0, ⟨ev1 (bk425 _), ⟨ev1 (bk224 _), trivial, trivial⟩, trivial⟩, ⟨ev0, ⟨ev1 (bk354 _), trivial, trivial⟩, ⟨ev1 (bk433 _), trivial, trivial⟩⟩⟩, ⟨ev1 (bk371 _), ⟨ev1 (bk359 _), trivial, trivial⟩, ⟨ev1 (bk412 _), ⟨ev1 (bk431 _), trivial, trivial⟩, ⟨ev1 (bk168 _), trivial, trivial⟩⟩⟩⟩, ⟨ev0, ⟨ev0, ⟨ev0, trivial, ⟨ev1 (bk438 _), trivial, trivial⟩⟩, trivial⟩, ⟨ev0, ⟨ev1 (bk432 _), trivial, trivial⟩, ⟨ev0, trivial, ⟨ev1 (bk366 _), trivial, trivial⟩⟩⟩⟩⟩⟩, ⟨ev1 (bk358 _), ⟨ev1 (bk416 _), ⟨ev0, ⟨ev0, trivial, ⟨ev1 (bk375 _), trivial, ⟨ev1 (bk422 _), trivial, trivial⟩⟩⟩, ⟨ev0, trivial, ⟨ev1 (bk339 _), ⟨ev1 (bk364 _), trivial, trivial⟩, ⟨ev1 (bk257 _), trivial, trivial⟩⟩⟩⟩, ⟨ev1 (bk411 _), ⟨ev0, ⟨ev0, trivial, ⟨ev1 (bk441 _), trivial, trivial⟩⟩, ⟨ev1 (bk343 _), trivial, trivial⟩⟩, ⟨ev1 (bk361 _), ⟨ev0, ⟨ev1 (bk362 _), trivial, trivial⟩, ⟨ev1 (bk357 _), trivial, trivial⟩⟩, ⟨ev1 (bk421 _), ⟨ev1 (bk350 _), trivial, trivial⟩, trivial⟩⟩⟩⟩, ⟨ev0, ⟨ev0, ⟨ev1 (bk355 _), ⟨ev1 (bk165 _), ⟨ev1 (bk243 _), trivial, trivial⟩, ⟨ev1 (bk419 _), trivial, trivial⟩⟩, ⟨ev1 (bk370 _), trivial, trivial⟩⟩, ⟨ev0, ⟨ev0, ⟨ev1 (bk342 _), trivial, trivial⟩, ⟨ev1 (bk347 _), trivial, trivial⟩⟩, trivial⟩⟩, ⟨ev0, ⟨ev0, ⟨ev0, ⟨ev1 (bk372 _), trivial, trivial⟩, ⟨ev1 (bk413 _), trivial, trivial⟩⟩, ⟨ev0, trivial, ⟨ev1 (bk341 _), trivial, trivial⟩⟩⟩, ⟨ev1 (bk417 _), ⟨ev1 (bk336 _), ⟨ev1 (bk344 _), trivial, trivial⟩, ⟨ev1 (bk360 _), trivial, trivial⟩⟩, ⟨ev0, ⟨ev1 (bk338 _), trivial, trivial⟩, trivial⟩⟩⟩⟩⟩⟩
noncomputable def orc3 (f : FuncId) (args : List AV) (h : Heap) : Option (T (AV × Heap)) :=
  match entPT 128 ents3 f args h with
  | some t => some t
  | none => orc2 f args h
theorem orc3_ok : ∀ f args h t, orc3 f args h = some t → CallOk pT f args h t := by
  intro f args h t e
  unfold orc3 at e
  split at e
  · rename_i u hu
    cases e
    exact entPT_ok tabs2 ents3_run hu
  · exact orc2_ok f args h t e
noncomputable def tb3 : Tabs := ⟨Sx.Tryd.ft.get, lFind Sx.Tryd.rt, 2000, orc3⟩
theorem tabs3 : TabOk pT Sx.Tryd.tt.get tb3 := Tryd.tab orc3 orc3_ok 2000
end Go.Sx
/-! CALLS, MADE: what is called, what it reads, what it hands back. -/
namespace Go.Sx
open Go.RowKit Go.Proofs
set_option maxRecDepth 100000
noncomputable def e440 : Ent := ⟨10, [(.agg [(li 6), (li 4), (.slice 1004 0 4 4), (.slice 1005 0 3 3), (.slice 1000 0 3 3), (li 50)])], 1006, [(0, .cells [(li 1), (li 6), (li 1), (li 5), (li 1), (li 4), (li 0), (li 1000)]), (1, .cells [(li 1), (li 6), (li 1), (li 5), (li 0), (li 3)]), (1000, .cells [(.slice 1001 0 3 3), (.slice 1002 0 3 3), (.slice 1003 0 3 3)]), (1001, .cells [(li 0), (li 0), (li 6)]), (1002, .cells [(li 0), (li 0), (li 0)]), (1003, .cells [(li 6), (li 0), (li 0)]), (1004, .cells [(li 0), (li 32), (li 0), (li 0)]), (1005, .cells cl47)], (.tup [.nilslice, (li 4)]), [], []⟩
theorem e440_run : e440.run tb3 100 = true := by kernel_rfl
noncomputable def e449 : Ent := ⟨13, [(.agg [(li 6), (li 4), (.slice 1004 0 4 4), (.slice 1005 0 3 3), (.slice 1000 0 3 3), (li 50)])], 1006, [(0, .cells [(li 1), (li 6), (li 1), (li 5), (li 1), (li 4), (li 0), (li 1000)]), (1, .cells [(li 1), (li 6), (li 1), (li 5), (li 0), (li 3)]), (1000, .cells [(.slice 1001 0 3 3), (.slice 1002 0 3 3), (.slice 1003 0 3 3)]), (1001, .cells [(li 0), (li 0), (li 6)]), (1002, .cells [(li 0), (li 0), (li 0)]), (1003, .cells [(li 6), (li 0), (li 0)]), (1004, .cells [(li 0), (li 32), (li 0), (li 0)]), (1005, .cells cl47)], (.tup [(.sliceX 1190 1 0 2), (li 0)]), [(1190, .cells [(li 0), (li 1)] 3 true)], []⟩
theorem e449_run : e449.run tb3 100 = true := by kernel_rfl
end Go.Sx
