/- The statement EngineEnds: called with whatever evening,list and number can be read,it hands back true and bI what lay,in whatever world the listed package variable lies as its initialiser lays it; no other condition. -/
import Derived.Test.YtfbongdjicmegaaDoorEvH
import Derived.Test.YtfbongdjicmegaaDoorHeD
import Derived.Test.YtfbongdjicmegaaDoorTie
import Derived.Test.YtfbongdjicmegaaDoorCards
import Derived.ProofKit
import Derived.LaidMore
import Derived.LaidHandle
import Derived.MakeChecks
import Derived.SevenTiedAt
import Derived.Stop.Joined
/-! The statement EngineEnds: called with whatever evening,list and number can be read,it hands back true and bI what lay,in whatever world the listed package variable lies as its initialiser lays it; no other condition. -/
namespace Go.Proofs.YtfbongdjicmegaaDoor
open Go Go.ChangeShapes Go.WideShapes Go.ChangeAt Go.RowKit Go.Sx
set_option maxRecDepth 100000
theorem own:ownKnob Tryd.prog.godebug=none:=by kernel_rfl
theorem laidOut:laidOutB Tryd.prog=true:=by kernel_rfl
noncomputable def tyOf (g:Nat):TypeId:=match (Tryd.prog.globals[g]?).map (·.type) with | some t=>t | none=>0
theorem gn0:Tryd.prog.globalNamed "bioscope/engine.bookBounds"=some 0:=by kernel_rfl
theorem gt0:(Tryd.prog.globals[0]?).map (·.type)=some (tyOf 0):=by kernel_rfl
def laid2 {H:Type}:List (String × DataW H):=[("bioscope/engine.bookBounds",Rows.laid_bioscope_engine_bookBounds)]
theorem var_cells {P:Program} {W:World} {n:String} {g:Nat} {cs:Array Value} (hg:P.globalNamed n=some g) (h:W.var? P n=some cs):∃ el fz,W.heap[g]?=some (.cells cs el fz):=by
  simp only [World.var?,hg,Option.bind_some] at h
  split at h
  · rename_i c el fz hh; cases h; exact ⟨el,fz,hh⟩
  · cases h
noncomputable def ρ0:Rho:=⟨fun _=>0,fun _=>false,fun _ _ _ _=>0,fun _ _ _ _=>false,fun _=>.tuple #[]⟩
/-- what the listed variables hold,as the closed call wants it -/
theorem glob_of_laid {W:World} (h:laidMetH Tryd.prog laid2 W):∀ g ∈ gl,GlobIn W ρ0 g:=by
  rw [MakeChecks.laidMetH_plain _ _ _ (by kernel_rfl)] at h
  obtain ⟨ps,⟨g0,t0,cs0,f0,p0,q0,hg0,ht0,hv0,hd0,_,_⟩,_,_⟩:=h
  obtain rfl:=Option.some.inj (gn0.symm.trans hg0)
  obtain rfl:=Option.some.inj (gt0.symm.trans ht0)
  obtain ⟨e0,_,_⟩:=flat_trod 6 (tyOf 0) f0 _ _ (by kernel_rfl) hd0
  obtain ⟨el0,fz0,h0⟩:=var_cells gn0 hv0
  intro g hg
  simp only [gl,List.mem_cons,List.not_mem_nil,or_false] at hg
  rcases hg with rfl
  · refine ⟨by omega,_,cs0,el0,fz0,rfl,h0,fun i hi=>?_⟩
    rw [← Array.getElem?_toList,e0]; rfl
/-- The door's own heap meets the condition. -/
theorem door_met (os:Os) (args:Array Value):laidMetH Tryd.prog laid2 ((World.doorLaid Tryd.prog 400 os).forCall (fun _ _=>0) ⟨#[],args,[]⟩).memory :=
  laidMetH_of_parts3 (fuel:=8) (laidMet_of_run' 8 (by kernel_rfl) (by kernel_rfl)) (by kernel_rfl) (by kernel_rfl)
theorem int_open {t:TypeId} (ht:Tryd.prog.underlying t=some (.int .i64)) {W:World} {base:Nat} {v:Value} (hv:Value.okWide Tryd.prog W .any base t v):∃ n,v=.int .i64 n:=by
  unfold Value.okWide at hv
  rw [ht] at hv
  exact okCell_int ht hv
theorem ends_lifted (os : Os) (started : os.Started) (H : Type) (enc : TypeId × Value → H) :
    ReturnsInHanded {} Tryd.checked os 5 .any (fun w args=>(Rows.engineEndsSpec.pre enc Tryd.prog Tryd.f5 [] false w args∧laidMetH Tryd.prog laid2 w)∧sizedMet enc Tryd.prog Tryd.f5 (OpenSpec.ofChange Rows.engineEndsSpec) false w args)
      (Rows.engineEndsSpec.post enc Tryd.prog Tryd.f5 false true false false):=by
  refine returnsInHanded_of_change_and (C:=Tryd.checked) (X:=fun w _=>laidMetH Tryd.prog laid2 w) (fun _ _ _ hh h=>h.of_heap hh) own started (by kernel_rfl) Tryd.func5
    (ChangeSpec.witness_shaped (enc:=enc) (C:=Tryd.checked) (os:=os) (X:=fun w _=>laidMetH Tryd.prog laid2 w) false (World.doorLaid Tryd.prog 400 os)
      #[.agg #[.int .i64 0,.int .i64 0,.int .i64 0,.int .i64 0,.int .i64 0,.int .i64 0,.int .i64 0,.int .i64 0,.int .i64 0,.int .i64 0,.int .i64 0,.int .i64 0,.int .i64 0,.int .i64 0,.int .i64 0,.int .i64 0,.int .i64 0,.int .i64 0,.int .i64 0,.int .i64 0,.int .i64 0,.int .i64 0,.slice none 0 0],.slice none 0 0,.int .i64 0] 8 rfl (World.shaped_of_RefB (by kernel_rfl) (by kernel_rfl)) (by kernel_rfl) (by kernel_rfl) (by kernel_rfl) (door_met os _)) ?_
  intro W base args ds gs before hval0 hW _ _ hL _
  have hval:∀ (j:Nat) t v,Tryd.f5.params[j]?=some t→args[j]?=some v→Value.okWide Tryd.prog W .any base t v:=hval0
  have hW':=hW
  have hlt:=hW.lt
  obtain ⟨p,q,hA0,hV,rfl,hfz,hnd⟩:=hW
  have hA:DataW.TrodAll enc Tryd.prog W 0 (fun _=>true) true Tryd.f5.params.toList args.toList ds p:=hA0
  rw [Tryd.params5] at hA hval
  obtain ⟨v0,v1,v2,d0,d1,d2,p0,p1,p2,rfl,rfl,rfl,h0,h1,h2⟩:=trodAll_three hA
  obtain ⟨rfl,rfl⟩:=trodVars_none hV
  obtain ⟨nb,s,rfl,hs⟩:=book_open h0 (hval 0 27 v0 rfl rfl)
  obtain ⟨bb,bl,bc,y,rfl,hbl,hbc,hb⟩:=ints_open Tryd.underlying43 (by kernel_rfl) h1 (hval 1 43 v1 rfl rfl)
  obtain ⟨n0,rfl⟩:=int_open Tryd.underlying3 (hval 2 3 v2 rfl rfl)
  clear hA0 hval0
  simp only [List.append_nil] at hW' hlt
  refine (ends_any looks_t (glob_of_laid hL) hs hbl hbc hb).mono fun e W' ⟨he,hbe⟩=>?_
  subst he
  have e1:Rows.engineEndsSpec.fn H ([d0,d1,d2] ++ [])={ results:=[.lit (.bool true)],args:=[d0,d1,d2] }:=by simp [Rows.engineEndsSpec]
  refine ⟨_,rfl,_,_,_,[],p0 ++ p1 ++ p2,[],hW',?_,?_,?_,hbe.frame _,fun h=>by cases h⟩
  · rw [e1]; exact trodAll_mk1 (shut_bool Tryd.underlying4 true)
  · rw [e1,List.append_assoc p0 p1 p2]
    exact trodAll_mk3 (Below.trod laidOut (by kernel_rfl) (of_decide_eq_true (by kernel_rfl)) h0 hbe (fun x hx=>hlt x (List.mem_append.2 (.inl (List.mem_append.2 (.inl hx)))))) (Below.trod laidOut (by kernel_rfl) (of_decide_eq_true (by kernel_rfl)) h1 hbe (fun x hx=>hlt x (List.mem_append.2 (.inl (List.mem_append.2 (.inr hx)))))) (Below.trod laidOut (by kernel_rfl) (of_decide_eq_true (by kernel_rfl)) h2 hbe (fun x hx=>hlt x (List.mem_append.2 (.inr hx))))
  · rw [e1]; rfl
theorem engineEnds_holds:Rows.EngineEndsSaid :=
  OpenClaim.holds_of_wide 5 Tryd.f5 rfl rfl rfl rfl rfl rfl rfl ⟨rfl,rfl,rfl,rfl,rfl⟩ rfl rfl rfl rfl rfl (by kernel_rfl) Tryd.func5 (by kernel_rfl)
    (of_decide_eq_true (by kernel_rfl)) (by unfold Func.isWrapper; first | (rw [if_pos (by decide +kernel)]; kernel_rfl) | (rw [if_neg (by decide +kernel)]; exact ⟨rfl,rfl⟩))
    (fun os started H enc _=>ends_lifted os started H enc)
/-- ████ THE TIED CARD -/
theorem engineEnds_card_holds:Rows.EngineEndsCardSaid :=
  Claim7.holds_tied_plain_at .later [] [.data] true (true,"1f432e13703126729ffb076171953837413704c619f998a64178b57455a7d5d1") false
    engineEnds_holds (fun _ h=>by cases h) (by kernel_rfl) (fun _ h=>by cases h) engineEnds_row_tie rfl ⟨rfl,rfl⟩ (by kernel_rfl) rfl
    (fun f fn hf hfn=>by
      obtain rfl:f=5:=Option.some.inj ((show Tryd.prog.funcNamed "bioscope/bioscopelaw04.EngineEnds"=some 5 by kernel_rfl).symm.trans hf) |>.symm
      obtain rfl:fn=Tryd.f5:=(Option.some.inj (Tryd.func5.symm.trans hfn)).symm
      exact ⟨by kernel_rfl,fun j t ht=>by
        rw [Tryd.params5] at ht
        have hm:t ∈ [27,43,3]:=by simpa using Array.mem_of_getElem? ht
        have hall:([27,43,3].all fun u=>!Tryd.prog.wantsStandIn u)=true:=by kernel_rfl
        exact (show Tryd.prog.wantsStandIn t=false by simpa using List.all_eq_true.1 hall t hm)⟩)
    (by kernel_rfl)
#print axioms engineEnds_card_holds
end Go.Proofs.YtfbongdjicmegaaDoor
