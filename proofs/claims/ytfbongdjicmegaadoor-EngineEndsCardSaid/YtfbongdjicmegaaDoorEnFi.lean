/- EnFi -/
import Derived.Test.YtfbongdjicmegaaDoorEntL1x0
import Derived.Test.YtfbongdjicmegaaDoorSxPres
namespace Go.Sx
open Go.RowKit Go.Proofs
set_option maxRecDepth 100000
theorem bk0 (k:Nat):RunL tb0 100 k [e0,e2,e3,e4,e5,e6,e7,e10,e12]:=⟨(bS (p:=Ent.run tb0 100) e0_run (bS (p:=Ent.run tb0 100) e2_run (bS (p:=Ent.run tb0 100) e3_run (bS (p:=Ent.run tb0 100) e4_run (bS (p:=Ent.run tb0 100) e5_run (bS (p:=Ent.run tb0 100) e6_run (bS (p:=Ent.run tb0 100) e7_run (bS (p:=Ent.run tb0 100) e10_run (bS (p:=Ent.run tb0 100) e12_run rfl)))))))))⟩
theorem bk1 (k:Nat):RunL tb0 100 k [e1,e11]:=⟨(bS (p:=Ent.run tb0 100) e1_run (bS (p:=Ent.run tb0 100) e11_run rfl))⟩
theorem bk8 (k:Nat):RunL tb0 100 k [e8]:=⟨(bS (p:=Ent.run tb0 100) e8_run rfl)⟩
theorem bk9 (k:Nat):RunL tb0 100 k [e9]:=⟨(bS (p:=Ent.run tb0 100) e9_run rfl)⟩
noncomputable def ents1:PT (List Ent):=(.node none (.node none (.node (some [e8]) .nil .nil) (.node none (.node (some [e9]) .nil .nil) .nil)) (.node none .nil (.node (some [e1,e11]) .nil (.node (some [e0,e2,e3,e4,e5,e6,e7,e10,e12]) .nil .nil))))
theorem ents1_run:ents1.Every (RunL tb0 100):=⟨ev0,⟨ev0,⟨ev1 (bk8 _),trivial,trivial⟩,⟨ev0,⟨ev1 (bk9 _),trivial,trivial⟩,trivial⟩⟩,⟨ev0,trivial,⟨ev1 (bk1 _),trivial,⟨ev1 (bk0 _),trivial,trivial⟩⟩⟩⟩
noncomputable def orc1 (f:FuncId) (args:List AV) (h:Heap):Option (T (AV × Heap)):=entPT 16 ents1 f args h
theorem orc1_ok:∀ f args h t,orc1 f args h=some t→CallOk pT f args h t:=fun _ _ _ _ e=>entPT_ok tabs0 ents1_run e
noncomputable def tb1:hI:=⟨Sx.Tryd.ft.get,aA Sx.Tryd.rt,2000,orc1⟩
theorem tabs1:b8 pT Sx.Tryd.tt.get tb1:=Tryd.tab orc1 orc1_ok 2000
end Go.Sx
namespace Go.Sx
open Go.RowKit Go.Proofs
set_option maxRecDepth 100000
theorem fired_run:isTrue1 (b7 tb1 100 false 7 [] (dO gl))=true:=by kernel_rfl
theorem gl_lit:bz (fun g:Nat × List AV=>and (Nat.ble (g.1 + 1) 1000) (bz fG g.2)) gl=true:=by kernel_rfl
theorem firedOrc_ok {args:List AV} {h:Heap} {t:T (AV × Heap)} (ho:gR gl args h=some t):CallOk pT 7 args h t:=closedOrc_ok tabs1 fired_run gl_lit ho
end Go.Sx
